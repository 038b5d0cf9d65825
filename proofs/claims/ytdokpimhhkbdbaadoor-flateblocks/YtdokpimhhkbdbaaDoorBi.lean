/-
  The document's writer (florilegiumref01.Bits): bit, Code. The document's writer: its state, Put, Code.
-/
import Derived.Test.YtdokpimhhkbdbaaDoorWf
import Derived.Test.YtdokpimhhkbdbaaDoorBf
set_option linter.unusedSimpArgs false
set_option linter.unusedVariables false
namespace Go.Proofs.YtdokpimhhkbdbaaDoor
open Go.RowKit

/-- The document's writer at block p, of the bytes v: t digits, which are the number N. -/
def Dv (p : Nat) (w : World) (v : Value) (N t : Nat) : Prop :=
  ∃ bs, w.heap[p]? = some (.cells #[v, .int .i64 (t : Int), .bool false] 35 (0, 0)) ∧ w.ownsRow 0 5 1 v bs.length (bs.map byteV) ∧ Small bs ∧ val bs = N ∧ bs.length = (t + 7) / 8 ∧ N < 2 ^ t

set_option maxRecDepth 100000 in
set_option maxHeartbeats 4000000 in
theorem bit_begun (p g cap n t q s d x : Nat) (z : Int) (w : World) (hn : q < n) (hnc : n ≤ cap) (hc : cap ≤ 9223372036854775807) (ht : t < 1000000) (hq : q = t / 8) (hs : s = t % 8) (hs0 : s ≠ 0) (hd : bits .and .i64 z 1 = (d : Int)) (hd2 : d < 2) (hpg : p ≠ g)
    (h0 : w.cell? ⟨p, 0, none⟩ = some (.slice (some ⟨g, 0, none⟩) n cap)) (h1 : w.cell? ⟨p, 1, none⟩ = some (.int .i64 (t : Int))) (hz : w.frozen? ⟨p, 1, none⟩ = false)
    (hx : w.cell? ⟨g, q, none⟩ = some (.int .u8 (x : Int))) (hxz : w.frozen? ⟨g, q, none⟩ = false) :
    Calls Tryd.prog 34 #[.pointer (some ⟨p, 0, none⟩), .int .i64 z] w fun e w' => e = .returned (.tuple #[]) ∧
      w' = ((w.setCell ⟨g, q, none⟩ (.int .u8 (bits .or .u8 (x : Int) ((d : Int) * 2 ^ s % 256)))).setCell ⟨p, 1, none⟩ (.int .i64 ((t + 1 : Nat) : Int))).drew := by
  have hrem : (t : Int).tmod 8 = (s : Int) := by rw [Int.tmod_eq_emod_of_nonneg (by omega)]; omega
  have hquo : (t : Int).tdiv 8 = (q : Int) := by rw [Int.tdiv_eq_ediv_of_nonneg (by omega)]; omega
  have hs0' : ((s : Int) == 0) = false := by simp; omega
  have hix : 0 ≤ (q : Int) ∧ (q : Int) < n := by omega
  have hw1 : IntKind.u8.wrap (d : Int) = (d : Int) := by
    have : (d : Int) = 0 ∨ (d : Int) = 1 := by omega
    rcases this with e | e <;> rw [e] <;> rfl
  have hw2 : IntKind.u64.wrap (s : Int) = (s : Int) := by
    rw [IntKind.wrap_u64]; omega
  have hs8 : s < 8 := by omega
  have HT : Hid (q = t / 8 ∧ s = t % 8) := ⟨hq, hs⟩
  clear hq hs
  go_enter Tryd.func34, Tryd.ntmps34
  go_wp2
  go_region
  all_goals go_wp2
  all_goals go_end0
  all_goals exact ⟨rfl, rfl⟩

set_option maxRecDepth 100000 in
set_option maxHeartbeats 4000000 in
theorem bit_new (p n t d : Nat) (z : Int) (v : Value) (xs : List Value) (w : World) (hn : n < 1000000) (ht : t = 8 * n) (hd : bits .and .i64 z 1 = (d : Int)) (hd2 : d < 2) (hp : w.heap[p]? = some (.cells #[v, .int .i64 (t : Int), .bool false] 35 (0, 0)))
    (hown : w.ownsRow 0 5 1 v n xs) :
    Calls Tryd.prog 34 #[.pointer (some ⟨p, 0, none⟩), .int .i64 z] w fun e w' => e = .returned (.tuple #[]) ∧
      (∃ v', w'.heap[p]? = some (.cells #[v', .int .i64 ((t + 1 : Nat) : Int), .bool false] 35 (0, 0)) ∧ w'.ownsRow 0 5 1 v' (n + 1) (xs ++ [.int .u8 (bits .or .u8 0 (d : Int))]) ∧ Kin w v v') ∧ Fr (some p) v.ownBlock w w' := by
  obtain ⟨i, hi, hz0, hz1, hz2⟩ := info_parts Tryd.info5
  have hpl := lt_of_block hp
  have h0 := cell3_0 hp
  have h1 := cell3_1 hp
  have hz := free_at hp
  have hz0' := hz 0
  have hz1' := hz 1
  clear hz
  have hrem : (t : Int).tmod 8 = 0 := by rw [Int.tmod_eq_emod_of_nonneg (by omega)]; omega
  have hquo : (t : Int).tdiv 8 = (n : Int) := by rw [Int.tdiv_eq_ediv_of_nonneg (by omega)]; omega
  have hw1 : IntKind.u8.wrap (d : Int) = (d : Int) := by
    have : (d : Int) = 0 ∨ (d : Int) = 1 := by omega
    rcases this with e | e <;> rw [e] <;> rfl
  have ht2 : t < 10000000 := by omega
  have HT : Hid (t = 8 * n) := ht
  clear ht
  go_enter Tryd.func34, Tryd.ntmps34
  go_wp2_with (at_builtin; refine wpList_append_lies _ rfl (.tmp 14) (.tmp 15) 22 rfl 0 5 i (.int .u8 0) 1 1 Tryd.underlying25 hi hz0 hz1 hz2 rfl (by decide) v n _ rfl (hown.alloc _) ⟨w.heap.size, 0, none⟩ 1 1 [.int .u8 0] rfl rfl ?c1 ?c2 (by decide) (by unfold maxLen; omega) (by omega) (by simp) (w.heap.size + 1) (by simp) ?_)
  case c1 =>
    intro j u hj
    match j, hj with
    | 0, hj => simp at hj; subst hj; simp [Addr.add]
  case c2 => intro u hu; simp at hu; subst hu; rfl
  intro g cap w1 hown' hgrow hat hlt
  have hcm : cap ≤ maxLen ∧ n + 1 ≤ cap := by
    rcases hown'.2 with ⟨h, _⟩ | ⟨g', cap', cur', h, _, _, h3, h4, _⟩
    · cases h
    · cases h; exact ⟨h4, h3⟩
  obtain ⟨hcm, hnc⟩ := hcm
  have hne : some p ≠ v.ownBlock := fun h => owns_ne hown hp (by decide) h.symm
  have hp1 : w1.heap[p]? = some (.cells #[v, .int .i64 (t : Int), .bool false] 35 (0, 0)) := by
    rw [hgrow.block p (by simp; omega) hne]
    exact (Below.heap_alloc _ _ _ hpl).trans hp
  have hfr : Hid (Fr (some p) v.ownBlock w w1) := by
    refine ⟨hgrow.os, hgrow.tape, hgrow.output, by have := hgrow.size; simp at this; omega, fun k hk _ hy => ?_⟩
    rw [hgrow.block k (by simp; omega) hy]
    exact Below.heap_alloc _ _ _ hk
  have hat' : Hid (v.ownBlock = some g ∨ w.heap.size ≤ g) := by
    rcases hat with e | e
    · exact .inl e
    · exact .inr (by omega)
  clear hgrow h0 h1 hz0' hz1' hne hat
  have hgp : p ≠ g := fun h => owns_ne hown' hp1 (by decide) (by simp [Value.ownBlock, h])
  have h0 := cell3_0 hp1
  have h1 := cell3_1 hp1
  have hz := free_at hp1
  have hz0' := hz 0
  have hz1' := hz 1
  clear hz
  have hx : w1.cell? ⟨g, n, none⟩ = some (.int .u8 0) := by
    rw [hown'.cellAt n (by omega)]
    have := hown.1
    simp at this
    rw [← this]
    simp
  have hxz := hown'.frozenAt n
  unfold maxLen at hcm
  have hix : 0 ≤ (n : Int) ∧ (n : Int) < n + 1 := by omega
  go_wp2
  go_region
  all_goals go_wp2
  all_goals go_end0
  refine ⟨rfl, ⟨.slice (some ⟨g, 0, none⟩) (n + 1) cap, ?_, ?_, ?_⟩, ?_⟩
  · have e1 := row_setCell hp1 0 (.slice (some ⟨g, 0, none⟩) (n + 1) cap)
    have e3 := (Below.heap_setCell _ ⟨g, n, none⟩ (.int .u8 (bits .or .u8 0 (d : Int))) p hgp).trans e1
    have e4 := row_setCell e3 1 (.int .i64 ((t : Int) + 1))
    exact e4
  · have o1 := ownsRow_setCell_other hown' (a := ⟨p, 0, none⟩) (fun h => hgp (by simpa [Value.ownBlock] using h.symm)) (.slice (some ⟨g, 0, none⟩) (n + 1) cap)
    have o3 := (o1.stored n (.int .u8 (bits .or .u8 0 (d : Int)))).1
    have o4 := ownsRow_setCell_other o3 (a := ⟨p, 1, none⟩) (fun h => hgp (by simpa [Value.ownBlock] using h.symm)) (.int .i64 ((t : Int) + 1))
    have hl := hown.1
    simp at hl
    have e : (xs ++ [Value.int .u8 0]).set n (.int .u8 (bits .or .u8 0 (d : Int))) = xs ++ [.int .u8 (bits .or .u8 0 (d : Int))] := by
      rw [← hl]; simp
    rw [e] at o4
    exact o4.drew
  · rcases hat'.out with e | e
    · exact .inl e.symm
    · exact .inr (fun j hj => by simp [Value.ownBlock] at hj; omega)
  · have hgk : some g = some p ∨ some g = v.ownBlock ∨ w.heap.size ≤ g := by
      rcases hat'.out with e | e
      · exact .inr (.inl e.symm)
      · exact .inr (.inr e)
    exact (((hfr.out.setCell p 0 _ (.inl rfl)).setCell g n _ hgk).setCell p 1 _ (.inl rfl)).drew

theorem bit_fr (p : Nat) (w : World) (v : Value) (N t d : Nat) (z : Int) (h : Dv p w v N t) (hd : bits .and .i64 z 1 = (d : Int)) (hd2 : d < 2) (ht : t < 1000000) :
    Calls Tryd.prog 34 #[.pointer (some ⟨p, 0, none⟩), .int .i64 z] w fun e w' => e = .returned (.tuple #[]) ∧ ∃ v', Dv p w' v' (N + d * 2 ^ t) (t + 1) ∧ Kin w v v' ∧ Fr (some p) v.ownBlock w w' := by
  obtain ⟨bs, hp, hown, hsm, hval, hlen, hN⟩ := h
  have hNt : N + d * 2 ^ t < 2 ^ (t + 1) := by
    rw [Nat.pow_succ]
    rcases (show d = 0 ∨ d = 1 by omega) with rfl | rfl <;> omega
  by_cases h8 : t % 8 = 0
  · refine (bit_new p bs.length t d z v _ w (by omega) (by omega) hd hd2 hp hown).mono ?_
    rintro e w' ⟨rfl, ⟨v', hp', hown', hkin⟩, hfr⟩
    have hbit : bits .or .u8 0 (d : Int) = (d : Int) := by
      have := u8_or_nat 0 d (by decide) (by omega)
      simpa using this
    rw [hbit] at hown'
    refine ⟨rfl, v', ⟨bs ++ [d], hp', ?_, ?_, ?_, ?_, hNt⟩, hkin, hfr⟩
    · rw [List.length_append, List.map_append]
      exact hown'
    · intro b hb
      rcases List.mem_append.1 hb with h1 | h1
      · exact hsm b h1
      · simp at h1; omega
    · rw [val_append, hval]
      have : 8 * bs.length = t := by omega
      rw [this]
      simp [val, Nat.mul_comm]
    · simp; omega
  · have hl : bs.length = t / 8 + 1 := by omega
    have hV := val_last hsm t d hd2 hl (by rw [hval]; exact hN)
    obtain ⟨hv1, hv2, hv3, hv4⟩ := hV
    have hown0 := hown
    obtain ⟨hlx, hcase⟩ := hown
    rcases hcase with ⟨_, h0⟩ | ⟨g, cap, cur, rfl, hg, hh, hn, hcap, hsz, htake⟩
    · omega
    have hpg : p ≠ g := fun h => owns_ne hown0 hp (by decide) (by simp [Value.ownBlock, h])
    have hx : w.cell? ⟨g, t / 8, none⟩ = some (.int .u8 ((bs.getD (t / 8) 0 : Nat) : Int)) := by
      rw [hown0.cellAt _ (by omega)]
      have : t / 8 < bs.length := by omega
      simp [this, byteV]
    unfold maxLen at hcap
    refine (bit_begun p g cap bs.length t (t / 8) (t % 8) d _ z w (by omega) hn (by omega) ht rfl rfl h8 hd hd2 hpg (cell3_0 hp) (cell3_1 hp) (free_at hp 1) hx (hown0.frozenAt _)).mono ?_
    rintro e w' ⟨rfl, rfl⟩
    have hbit : bits .or .u8 ((bs.getD (t / 8) 0 : Nat) : Int) ((d : Int) * 2 ^ (t % 8) % 256) = ((bs.getD (t / 8) 0 + d * 2 ^ (t % 8) : Nat) : Int) := by
      rw [← hv2]
      have e : (d : Int) * 2 ^ (t % 8) % 256 = ((d * 2 ^ (t % 8) : Nat) : Int) := by
        have h1 : d * 2 ^ (t % 8) < 256 := by omega
        have h2 : ((d * 2 ^ (t % 8) : Nat) : Int) = (d : Int) * 2 ^ (t % 8) := by push_cast; rfl
        omega
      rw [e]
      exact u8_or_nat _ _ (by omega) (by omega)
    rw [hbit]
    refine ⟨rfl, .slice (some ⟨g, 0, none⟩) bs.length cap, ⟨bs.set (t / 8) (bs.getD (t / 8) 0 + d * 2 ^ (t % 8)), ?_, ?_, small_set hsm _ _ hv3, by rw [hv4, hval], by simp; omega, hNt⟩, .inl rfl, ?_⟩
    · have e3 := (Below.heap_setCell w ⟨g, t / 8, none⟩ (.int .u8 ((bs.getD (t / 8) 0 + d * 2 ^ (t % 8) : Nat) : Int)) p hpg).trans hp
      exact row_setCell e3 1 (.int .i64 ((t + 1 : Nat) : Int))
    · have o3 := (hown0.stored (t / 8) (.int .u8 ((bs.getD (t / 8) 0 + d * 2 ^ (t % 8) : Nat) : Int))).1
      have o4 := ownsRow_setCell_other o3 (a := ⟨p, 1, none⟩) (fun h => hpg (by simpa [Value.ownBlock] using h.symm)) (.int .i64 ((t + 1 : Nat) : Int))
      rw [map_set_byte] at o4
      rw [List.length_set]
      exact o4.drew
    · exact (((Fr.refl (some p) (some g) w).setCell g (t / 8) _ (.inr (.inl rfl))).setCell p 1 _ (.inl rfl)).drew

theorem dig_and (n : Int) (j : Nat) : bits .and .i64 (n / 2 ^ j) 1 = (dig n j : Int) := by
  rw [i64_and1, dig_cast]

set_option maxHeartbeats 2000000 in
theorem doccode_walk (p : Nat) (w : World) (v : Value) (N t : Nat) (n : Int) (c : Nat) (h : Dv p w v N t) (hc : c ≤ 16) (ht : t < 900000) :
    Calls Tryd.prog 17 #[.pointer (some ⟨p, 0, none⟩), .int .i64 n, .int .i64 c] w fun e w' => e = .returned (.tuple #[]) ∧ ∃ v', Dv p w' v' (N + rev n c c * 2 ^ t) (t + c) ∧ Kin w v v' ∧ Fr (some p) v.ownBlock w w' := by
  go_enter Tryd.func17, Tryd.ntmps17
  go_wp2
  go_loopw [6] (fun i wr => ∃ (k : Nat) (v1 : Value), k ≤ c ∧ i = .int .i64 ((c : Int) - 1 - k) ∧ Dv p wr v1 (N + rev n c k * 2 ^ t) (t + k) ∧ Kin w v v1 ∧ Fr (some p) v.ownBlock w wr) (fun i _ => (intOf i + 1).toNat)
  case atStart => exact ⟨0, v, by omega, by simp, by simpa [rev] using h, .inl rfl, Fr.refl _ _ _⟩
  case round =>
    obtain ⟨k, v1, hk, rfl, hw, hkin, hb⟩ := hrel
    by_cases hkc : k < c
    · have e1 : (c : Int) - 1 - k = ((c - 1 - k : Nat) : Int) := by omega
      rw [e1]
      have hadd : Hid (Calls Tryd.prog 34 #[.pointer (some ⟨p, 0, none⟩), .int .i64 (n / 2 ^ (c - 1 - k))] wr fun e w' => e = .returned (.tuple #[]) ∧ ∃ v', Dv p w' v' (N + rev n c k * 2 ^ t + dig n (c - 1 - k) * 2 ^ (t + k)) (t + k + 1) ∧ Kin wr v1 v' ∧ Fr (some p) v1.ownBlock wr w') := bit_fr p wr v1 _ (t + k) _ _ hw (dig_and n _) (dig_lt n _) (by omega)
      rw [coding] at hadd
      obtain ⟨j, hj⟩ : ∃ j, j = c - 1 - k := ⟨_, rfl⟩
      rw [← hj] at hadd ⊢
      have hj2 : (c : Int) - 1 - (k + 1 : Nat) = (j : Int) - 1 := by omega
      clear e1
      have HJ : Hid (j = c - 1 - k) := hj
      have HJ2 : Hid ((c : Int) - 1 - (k + 1 : Nat) = (j : Int) - 1) := hj2
      have hj0 : j < 16 := by omega
      clear hj hj2
      go_wp2_with (first | (go_at_call 34; (with_reducible refine hadd.out.mono ?_); rintro e w' ⟨rfl, v2, hw2, hk2, hb2⟩))
      go_roundw
      case rel =>
        exact ⟨k + 1, v2, by omega, by rw [HJ2.out], hw2, hkin.trans hb.size hk2, hb.trans hb2 hkin⟩
      case measure => simp [intOf] <;> omega
    · have hkk : k = c := by omega
      subst hkk
      go_wp2
      go_end0
      exact ⟨rfl, v1, hw, hkin, hb⟩
end Go.Proofs.YtdokpimhhkbdbaaDoor

set_option linter.unusedSimpArgs false
set_option linter.unusedVariables false
namespace Go.Proofs.YtdokpimhhkbdbaaDoor
open Go.RowKit

/-- All blocks but bytes and the document's writers stand. -/
def Kp (w w' : World) : Prop := ∀ (k : Nat) (c : Array Value) (t : TypeId) (fr : Nat × Nat), w.heap[k]? = some (Obj.cells c t fr) → t ≠ 5 → t ≠ 35 → w'.heap[k]? = some (Obj.cells c t fr)

theorem Kp.refl (w : World) : Kp w w := fun _ _ _ _ h _ _ => h
theorem Kp.trans {a b c : World} (h : Kp a b) (k : Kp b c) : Kp a c := fun i x t fr h1 h2 h3 => k i x t fr (h i x t fr h1 h2 h3) h2 h3
theorem Kp.ofBelow {w w' : World} (h : Below w.heap.size w w') : Kp w w' := fun k c t fr h1 _ _ => by
  have hlt : k < w.heap.size := by
    rcases Nat.lt_or_ge k w.heap.size with h' | h'
    · exact h'
    · rw [Array.getElem?_eq_none h'] at h1; cases h1
  rw [h.block k hlt]; exact h1

theorem Kp.cell {w w' : World} (h : Kp w w') {g o : Nat} {c : Array Value} {t : TypeId} {fr : Nat × Nat} {u : Value} (hg : w.heap[g]? = some (.cells c t fr)) (h5 : t ≠ 5) (h35 : t ≠ 35) (hc : w.cell? ⟨g, o, none⟩ = some u) : w'.cell? ⟨g, o, none⟩ = some u := by
  rw [World.cell?_of_block (w := w) (by rw [h g c t fr hg h5 h35, hg])]
  exact hc

/-- The document's writer at p, and all that was there before it. S: the number written and how many digits it has. -/
structure Gx (p : Nat) (w3 w : World) (S : Nat × Nat) : Prop where
  wr : ∃ v, Dv p w v S.1 S.2 ∧ ∀ j, v.ownBlock = some j → p ≤ j
  below : Below p w3 w
  lt : p < w.heap.size

theorem Dv.old {p : Nat} {w w' : World} {v : Value} {N t : Nat} (h : Dv p w v N t) (hb : Below w.heap.size w w') : Dv p w' v N t := by
  obtain ⟨bs, h1, h2, h3⟩ := h
  exact ⟨bs, by rw [hb.block p (lt_of_block h1)]; exact h1, Lz.owns_below h2 hb, h3⟩

theorem Gx.old {p : Nat} {w3 w w' : World} {S : Nat × Nat} (h : Gx p w3 w S) (hb : Below w.heap.size w w') : Gx p w3 w' S := by
  obtain ⟨⟨v, hv, hj⟩, hbl, hlt⟩ := h
  exact ⟨⟨v, hv.old hb, hj⟩, hbl.trans (hb.mono (by omega)), Nat.lt_of_lt_of_le hlt hb.size⟩

theorem Gx.turn {p : Nat} {w3 w w' : World} {S S' : Nat × Nat} {v v' : Value} (h : Gx p w3 w S) (hv : Dv p w v S.1 S.2) (hj : ∀ j, v.ownBlock = some j → p ≤ j) (hv' : Dv p w' v' S'.1 S'.2) (hkin : Kin w v v') (hf : Fr (some p) v.ownBlock w w') : Gx p w3 w' S' ∧ Kp w w' := by
  have hlt := h.lt
  obtain ⟨bs, hpp, hown, _⟩ := id hv
  refine ⟨⟨⟨v', hv', fun j hj' => ?_⟩, h.below.trans (hf.below (by omega) (fun j hj' => by cases hj'; exact Nat.le_refl _) hj), Nat.lt_of_lt_of_le hlt hf.size⟩, fun k c t fr h1 h5 h35 => ?_⟩
  · rcases hkin with e | e
    · exact hj j (by rw [← e]; exact hj')
    · have := e j hj'; omega
  · rw [hf.block k (lt_of_block h1) ?_ ?_]
    · exact h1
    · intro e
      cases e
      rw [h1] at hpp
      simp at hpp
      exact h35 hpp.2.1
    · intro e
      rcases hown.2 with ⟨rfl, _⟩ | ⟨g, cap, cur, rfl, _, hg, _⟩
      · simp [Value.ownBlock] at e
      · simp only [Value.ownBlock, Option.some.injEq] at e
        subst e
        rw [h1] at hg
        simp at hg
        exact h5 hg.2.1

theorem putting2 (n : Int) (k N t : Nat) : N + low n k * 2 ^ t + dig n k * 2 ^ (t + k) = N + low n (k + 1) * 2 ^ t := by
  rw [low_succ, Nat.add_mul, Nat.pow_add, Nat.mul_assoc, Nat.mul_comm (2 ^ t)]
  omega

set_option maxHeartbeats 2000000 in
theorem docput_walk (p : Nat) (w : World) (v : Value) (N t : Nat) (n : Int) (c : Nat) (h : Dv p w v N t) (hc : c ≤ 16) (ht : t < 900000) :
    Calls Tryd.prog 12 #[.pointer (some ⟨p, 0, none⟩), .int .i64 n, .int .i64 c] w fun e w' => e = .returned (.tuple #[]) ∧ ∃ v', Dv p w' v' (N + low n c * 2 ^ t) (t + c) ∧ Kin w v v' ∧ Fr (some p) v.ownBlock w w' := by
  go_enter Tryd.func12, Tryd.ntmps12
  go_wp2
  go_loopw [6] (fun i wr => ∃ (k : Nat) (v1 : Value), k ≤ c ∧ i = .int .i64 (k : Int) ∧ Dv p wr v1 (N + low n k * 2 ^ t) (t + k) ∧ Kin w v v1 ∧ Fr (some p) v.ownBlock w wr) (fun i _ => c - (intOf i).toNat)
  case atStart => exact ⟨0, v, by omega, rfl, by simpa [low_zero] using h, .inl rfl, Fr.refl _ _ _⟩
  case round =>
    obtain ⟨k, v1, hk, rfl, hw, hkin, hb⟩ := hrel
    by_cases hkc : k < c
    · have hadd : Hid (Calls Tryd.prog 34 #[.pointer (some ⟨p, 0, none⟩), .int .i64 (n / 2 ^ k)] wr fun e w' => e = .returned (.tuple #[]) ∧ ∃ v', Dv p w' v' (N + low n k * 2 ^ t + dig n k * 2 ^ (t + k)) (t + k + 1) ∧ Kin wr v1 v' ∧ Fr (some p) v1.ownBlock wr w') := bit_fr p wr v1 _ (t + k) _ _ hw (dig_and n _) (dig_lt n _) (by omega)
      rw [putting2] at hadd
      have hk0 : k < 16 := by omega
      have hki : (k : Int) < c := by omega
      have hci : (c : Int) ≤ 16 := by omega
      go_wp2_with (first | (go_at_call 34; (with_reducible refine hadd.out.mono ?_); rintro e w' ⟨rfl, v2, hw2, hk2, hb2⟩))
      go_roundw
      case rel =>
        exact ⟨k + 1, v2, by omega, by go_num, hw2, hkin.trans hb.size hk2, hb.trans hb2 hkin⟩
      case measure => simp [intOf] <;> omega
    · have hkk : k = c := by omega
      subst hkk
      go_wp2
      go_end0
      exact ⟨rfl, v1, hw, hkin, hb⟩

theorem Gx.put {p : Nat} {w3 w : World} {S : Nat × Nat} (h : Gx p w3 w S) (n c : Nat) (hc : c ≤ 16) (hT : S.2 < 900000) :
    Calls Tryd.prog 12 #[.pointer (some ⟨p, 0, none⟩), .int .i64 (n : Int), .int .i64 (c : Int)] w fun e w' => e = .returned (.tuple #[]) ∧ Gx p w3 w' (wadd S (lowP n c)) ∧ Kp w w' := by
  obtain ⟨v, hv, hj⟩ := h.wr
  refine (docput_walk p w v S.1 S.2 n c hv hc hT).mono ?_
  rintro e w' ⟨rfl, v', hv', hkin, hf⟩
  exact ⟨rfl, h.turn hv hj hv' hkin hf⟩

theorem Gx.sig {p : Nat} {w3 w : World} {S : Nat × Nat} (h : Gx p w3 w S) (l : List Nat) (s : Nat) (hc : nth l s ≤ 16) (hT : S.2 < 900000) :
    Calls Tryd.prog 17 #[.pointer (some ⟨p, 0, none⟩), .int .i64 (code l s : Nat), .int .i64 (nth l s : Nat)] w fun e w' => e = .returned (.tuple #[]) ∧ Gx p w3 w' (wadd S (sigP l s)) ∧ Kp w w' := by
  obtain ⟨v, hv, hj⟩ := h.wr
  refine (doccode_walk p w v S.1 S.2 (code l s : Nat) (nth l s) hv hc hT).mono ?_
  rintro e w' ⟨rfl, v', hv', hkin, hf⟩
  exact ⟨rfl, h.turn hv hj hv' hkin hf⟩

theorem Gx.first (w3 : World) : Gx w3.heap.size w3 (w3.alloc (.cells #[.slice none 0 0, .int .i64 0, .bool false] 35)) (0, 0) :=
  ⟨⟨_, ⟨[], heap_alloc_new w3 _, World.ownsRow_nil _ _ _ _, by simp [Small], rfl, rfl, by decide⟩, fun j hj => by cases hj⟩, (Below.refl _ _).alloc (Nat.le_refl _) _, by simp⟩

end Go.Proofs.YtdokpimhhkbdbaaDoor
