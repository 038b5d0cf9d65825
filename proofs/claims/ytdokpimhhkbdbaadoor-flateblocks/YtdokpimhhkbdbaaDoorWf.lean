/-
  The writer once more, with what may have turned told block by block ('Fr'): add, Code; the table's Put.
-/
import Derived.Test.YtdokpimhhkbdbaaDoorPu
import Derived.BigRegion
set_option linter.unusedSimpArgs false
set_option linter.unusedVariables false
namespace Go.Proofs.YtdokpimhhkbdbaaDoor
open Go.RowKit

/-- The writer at block p, of the bytes v: t digits, which are the number N. -/
def Wv (p : Nat) (w : World) (v : Value) (N t : Nat) : Prop :=
  ∃ bs, w.heap[p]? = some (.cells #[v, .int .i64 (((8 - t % 8) % 8 : Nat) : Int)] 84 (0, 0)) ∧ w.ownsRow 0 5 1 v bs.length (bs.map byteV) ∧ Small bs ∧ val bs = N ∧ bs.length = (t + 7) / 8 ∧ N < 2 ^ t

/-- The row is the one that it was, or a new one. -/
def Kin (w : World) (v v' : Value) : Prop := v'.ownBlock = v.ownBlock ∨ ∀ j, v'.ownBlock = some j → w.heap.size ≤ j

theorem Kin.trans {a b : World} {u v x : Value} (h : Kin a u v) (hs : a.heap.size ≤ b.heap.size) (k : Kin b v x) : Kin a u x := by
  rcases k with k | k
  · rcases h with h | h
    · exact .inl (k.trans h)
    · exact .inr (fun j hj => h j (by rw [← k]; exact hj))
  · exact .inr (fun j hj => Nat.le_trans hs (k j hj))

theorem Kin.row {w : World} {v v' : Value} (h : Kin w v v') : v'.ownBlock = v.ownBlock ∨ ∀ j, v'.ownBlock = some j → w.heap.size ≤ j := h

theorem Wv.old {p : Nat} {w w' : World} {v : Value} {N t : Nat} (h : Wv p w v N t) (hb : Below w.heap.size w w') : Wv p w' v N t := by
  obtain ⟨bs, hp, hown, r⟩ := h
  exact ⟨bs, by rw [hb.block p (lt_of_block hp)]; exact hp, owns_old hown hb, r⟩

theorem Wv.fr {p : Nat} {w w' : World} {v : Value} {N t : Nat} {x y : Option Nat} (h : Wv p w v N t) (hf : Fr x y w w') (hpx : some p ≠ x) (hpy : some p ≠ y) (hx : v.ownBlock ≠ x ∨ v.ownBlock = none) (hy : v.ownBlock ≠ y ∨ v.ownBlock = none) : Wv p w' v N t := by
  obtain ⟨bs, hp, hown, r⟩ := h
  exact ⟨bs, by rw [hf.block p (lt_of_block hp) hpx hpy]; exact hp, owns_fr hown hf hx hy, r⟩

theorem Wv.ne {p : Nat} {w : World} {v : Value} {N t : Nat} (h : Wv p w v N t) : v.ownBlock ≠ some p := by
  obtain ⟨bs, hp, hown, r⟩ := h
  exact owns_ne hown hp (by decide)

theorem wv_new (w : World) : Wv w.heap.size (w.alloc (.cells #[.slice none 0 0, .int .i64 0] 84)) (.slice none 0 0) 0 0 :=
  ⟨[], heap_alloc_new w _, World.ownsRow_nil _ _ _ _, by simp [Small], rfl, rfl, by decide⟩

set_option maxRecDepth 100000 in
set_option maxHeartbeats 1000000 in
theorem add_newf (p n : Nat) (d : Int) (v : Value) (xs : List Value) (w : World) (hn : n < 1000000) (hd : 0 ≤ d) (hd2 : d < 2) (hp : w.heap[p]? = some (.cells #[v, .int .i64 0] 84 (0, 0)))
    (hown : w.ownsRow 0 5 1 v n xs) :
    Calls Tryd.prog 53 #[.pointer (some ⟨p, 0, none⟩), .int .u8 d] w fun e w' => e = .returned (.tuple #[]) ∧
      (∃ v', w'.heap[p]? = some (.cells #[v', .int .i64 7] 84 (0, 0)) ∧ w'.ownsRow 0 5 1 v' (n + 1) (xs ++ [.int .u8 (bits .or .u8 0 d)]) ∧ Kin w v v') ∧ Fr (some p) v.ownBlock w w' := by
  obtain ⟨i, hi, hz0, hz1, hz2⟩ := info_parts Tryd.info5
  have hpl := lt_of_block hp
  have h0 := cell2_0 hp
  have h1 := cell2_1 hp
  have hz := free_at hp
  have hz0' := hz 0
  have hz1' := hz 1
  clear hz
  go_enter Tryd.func53, Tryd.ntmps53
  go_wp2_with (at_builtin; refine wpList_append_lies _ rfl (.tmp 13) (.tmp 14) 22 rfl 0 5 i (.int .u8 0) 1 1 Tryd.underlying25 hi hz0 hz1 hz2 rfl (by decide) v n _ rfl (hown.alloc _) ⟨w.heap.size, 0, none⟩ 1 1 [.int .u8 0] rfl rfl ?c1 ?c2 (by decide) (by unfold maxLen; omega) (by omega) (by simp) (w.heap.size + 1) (by simp) ?_)
  case c1 =>
    intro j u hj
    match j, hj with
    | 0, hj => simp at hj; subst hj; simp [Addr.add]
  case c2 => intro u hu; simp at hu; subst hu; rfl
  intro g cap w1 hown' hgrow hat hlt
  have hcm : cap ≤ maxLen ∧ n + 1 ≤ cap := by
    rcases hown'.2 with ⟨h, _⟩ | ⟨g', cap', cur', h, _, _, h3, h4, _⟩
    · cases h
    · cases h; exact ⟨h4, h3⟩
  obtain ⟨hcm, hnc⟩ := hcm
  have hne : some p ≠ v.ownBlock := fun h => owns_ne hown hp (by decide) h.symm
  have hp1 : w1.heap[p]? = some (.cells #[v, .int .i64 0] 84 (0, 0)) := by
    rw [hgrow.block p (by simp; omega) hne]
    exact (Below.heap_alloc _ _ _ hpl).trans hp
  have hfr : Hid (Fr (some p) v.ownBlock w w1) := by
    refine ⟨hgrow.os, hgrow.tape, hgrow.output, by have := hgrow.size; simp at this; omega, fun k hk _ hy => ?_⟩
    rw [hgrow.block k (by simp; omega) hy]
    exact Below.heap_alloc _ _ _ hk
  have hat' : Hid (v.ownBlock = some g ∨ w.heap.size ≤ g) := by
    rcases hat with e | e
    · exact .inl e
    · exact .inr (by omega)
  clear hgrow h0 h1 hz0' hz1' hne hat
  have hgp : p ≠ g := fun h => owns_ne hown' hp1 (by decide) (by simp [Value.ownBlock, h])
  have h0 := cell2_0 hp1
  have h1 := cell2_1 hp1
  have hz := free_at hp1
  have hz0' := hz 0
  have hz1' := hz 1
  clear hz
  have hx : w1.cell? ⟨g, n, none⟩ = some (.int .u8 0) := by
    rw [hown'.cellAt n (by omega)]
    have := hown.1
    simp at this
    rw [← this]
    simp
  have hxz := hown'.frozenAt n
  unfold maxLen at hcm
  have hix : 0 ≤ (n : Int) ∧ (n : Int) < n + 1 := by omega
  go_wp2
  go_region
  all_goals go_wp2
  all_goals go_end0
  refine ⟨rfl, ⟨.slice (some ⟨g, 0, none⟩) (n + 1) cap, ?_, ?_, ?_⟩, ?_⟩
  · have e1 := row_setCell hp1 0 (.slice (some ⟨g, 0, none⟩) (n + 1) cap)
    have e2 := row_setCell e1 1 (.int .i64 8)
    have e3 := (Below.heap_setCell _ ⟨g, n, none⟩ (.int .u8 (bits .or .u8 0 d)) p hgp).trans e2
    have e4 := row_setCell e3 1 (.int .i64 7)
    exact e4
  · have o1 := ownsRow_setCell_other hown' (a := ⟨p, 0, none⟩) (fun h => hgp (by simpa [Value.ownBlock] using h.symm)) (.slice (some ⟨g, 0, none⟩) (n + 1) cap)
    have o2 := ownsRow_setCell_other o1 (a := ⟨p, 1, none⟩) (fun h => hgp (by simpa [Value.ownBlock] using h.symm)) (.int .i64 8)
    have o3 := (o2.stored n (.int .u8 (bits .or .u8 0 d))).1
    have o4 := ownsRow_setCell_other o3 (a := ⟨p, 1, none⟩) (fun h => hgp (by simpa [Value.ownBlock] using h.symm)) (.int .i64 7)
    have hl := hown.1
    simp at hl
    have e : (xs ++ [Value.int .u8 0]).set n (.int .u8 (bits .or .u8 0 d)) = xs ++ [.int .u8 (bits .or .u8 0 d)] := by
      rw [← hl]; simp
    rw [e] at o4
    exact o4.drew
  · rcases hat'.out with e | e
    · exact .inl e.symm
    · exact .inr (fun j hj => by simp [Value.ownBlock] at hj; omega)
  · have hgk : some g = some p ∨ some g = v.ownBlock ∨ w.heap.size ≤ g := by
      rcases hat'.out with e | e
      · exact .inr (.inl e.symm)
      · exact .inr (.inr e)
    exact ((((hfr.out.setCell p 0 _ (.inl rfl)).setCell p 1 _ (.inl rfl)).setCell g n _ hgk).setCell p 1 _ (.inl rfl)).drew

theorem add_fr (p : Nat) (w : World) (v : Value) (N t d : Nat) (h : Wv p w v N t) (hd : d < 2) (ht : t < 1000000) :
    Calls Tryd.prog 53 #[.pointer (some ⟨p, 0, none⟩), .int .u8 (d : Int)] w fun e w' => e = .returned (.tuple #[]) ∧ ∃ v', Wv p w' v' (N + d * 2 ^ t) (t + 1) ∧ Kin w v v' ∧ Fr (some p) v.ownBlock w w' := by
  obtain ⟨bs, hp, hown, hsm, hval, hlen, hN⟩ := h
  have hNt : N + d * 2 ^ t < 2 ^ (t + 1) := by
    rw [Nat.pow_succ]
    rcases (show d = 0 ∨ d = 1 by omega) with rfl | rfl <;> omega
  by_cases h8 : t % 8 = 0
  · have hf : ((8 - t % 8) % 8 : Nat) = 0 := by omega
    rw [hf] at hp
    refine (add_newf p bs.length d v _ w (by omega) (by omega) (by omega) hp hown).mono ?_
    rintro e w' ⟨rfl, ⟨v', hp', hown', hkin⟩, hfr⟩
    have hbit : bits .or .u8 0 (d : Int) = (d : Int) := by
      have := u8_or_nat 0 d (by decide) (by omega)
      simpa using this
    rw [hbit] at hown'
    refine ⟨rfl, v', ⟨bs ++ [d], ?_, ?_, ?_, ?_, ?_, hNt⟩, hkin, hfr⟩
    · rw [hp']
      have : (8 - (t + 1) % 8) % 8 = 7 := by omega
      rw [this]; rfl
    · rw [List.length_append, List.map_append]
      exact hown'
    · intro b hb
      rcases List.mem_append.1 hb with h1 | h1
      · exact hsm b h1
      · simp at h1; omega
    · rw [val_append, hval]
      have : 8 * bs.length = t := by omega
      rw [this]
      simp [val, Nat.mul_comm]
    · simp; omega
  · have hl : bs.length = t / 8 + 1 := by omega
    have hV := val_last hsm t d hd hl (by rw [hval]; exact hN)
    obtain ⟨hv1, hv2, hv3, hv4⟩ := hV
    have hown0 := hown
    obtain ⟨hlx, hcase⟩ := hown
    rcases hcase with ⟨_, h0⟩ | ⟨g, cap, cur, rfl, hg, hh, hn, hcap, hsz, htake⟩
    · omega
    have hpg : p ≠ g := fun h => owns_ne hown0 hp (by decide) (by simp [Value.ownBlock, h])
    have e1 : bs.length - 1 = t / 8 := by omega
    have hx : w.cell? ⟨g, bs.length - 1, none⟩ = some (.int .u8 ((bs.getD (t / 8) 0 : Nat) : Int)) := by
      rw [hown0.cellAt _ (by omega), e1]
      have : t / 8 < bs.length := by omega
      simp [this, byteV]
    unfold maxLen at hcap
    refine (add_begun p g cap bs.length _ d _ w (by omega) hn (by omega) (by omega) (by omega) (by omega) (by omega) hpg (cell2_0 hp) (cell2_1 hp) (free_at hp 1) hx (hown0.frozenAt _)).mono ?_
    rintro e w' ⟨rfl, rfl⟩
    have hsh : ((8 : Int) - (((8 - t % 8) % 8 : Nat) : Int)).toNat = t % 8 := by omega
    have hbit : bits .or .u8 ((bs.getD (t / 8) 0 : Nat) : Int) ((d : Int) * 2 ^ ((8 : Int) - (((8 - t % 8) % 8 : Nat) : Int)).toNat % 256) = ((bs.getD (t / 8) 0 + d * 2 ^ (t % 8) : Nat) : Int) := by
      rw [hsh, ← hv2]
      have e : (d : Int) * 2 ^ (t % 8) % 256 = ((d * 2 ^ (t % 8) : Nat) : Int) := by
        have h1 : d * 2 ^ (t % 8) < 256 := by omega
        have h2 : ((d * 2 ^ (t % 8) : Nat) : Int) = (d : Int) * 2 ^ (t % 8) := by push_cast; rfl
        omega
      rw [e]
      exact u8_or_nat _ _ (by omega) (by omega)
    rw [hbit, e1]
    refine ⟨rfl, .slice (some ⟨g, 0, none⟩) bs.length cap, ⟨bs.set (t / 8) (bs.getD (t / 8) 0 + d * 2 ^ (t % 8)), ?_, ?_, small_set hsm _ _ hv3, by rw [hv4, hval], by simp; omega, hNt⟩, .inl rfl, ?_⟩
    · have e3 := (Below.heap_setCell w ⟨g, t / 8, none⟩ (.int .u8 ((bs.getD (t / 8) 0 + d * 2 ^ (t % 8) : Nat) : Int)) p hpg).trans hp
      have e4 := row_setCell e3 1 (.int .i64 ((((8 - t % 8) % 8 : Nat) : Int) - 1))
      have : ((((8 - t % 8) % 8 : Nat) : Int) - 1) = (((8 - (t + 1) % 8) % 8 : Nat) : Int) := by omega
      rw [this] at e4 ⊢
      exact e4
    · have o3 := (hown0.stored (t / 8) (.int .u8 ((bs.getD (t / 8) 0 + d * 2 ^ (t % 8) : Nat) : Int))).1
      have o4 := ownsRow_setCell_other o3 (a := ⟨p, 1, none⟩) (fun h => hpg (by simpa [Value.ownBlock] using h.symm)) (.int .i64 ((((8 - t % 8) % 8 : Nat) : Int) - 1))
      rw [map_set_byte] at o4
      rw [List.length_set]
      exact o4.drew
    · exact (((Fr.refl (some p) (some g) w).setCell g (t / 8) _ (.inr (.inl rfl))).setCell p 1 _ (.inl rfl)).drew

set_option maxHeartbeats 1000000 in
theorem code_fr (p : Nat) (w : World) (v : Value) (N t : Nat) (n : Int) (c : Nat) (h : Wv p w v N t) (hc : c ≤ 16) (ht : t < 900000) :
    Calls Tryd.prog 59 #[.pointer (some ⟨p, 0, none⟩), .int .i64 n, .int .i64 c] w fun e w' => e = .returned (.tuple #[]) ∧ ∃ v', Wv p w' v' (N + rev n c c * 2 ^ t) (t + c) ∧ Kin w v v' ∧ Fr (some p) v.ownBlock w w' := by
  have hmay : Hid (∀ w, Calls Tryd.prog 52 #[.int .i64 c] w fun e w' => e = .returned (.bool true) ∧ w' = w) := fun w => (may_walk c w).mono fun e w' ⟨h1, h2⟩ => ⟨by rw [h1]; simp; omega, h2⟩
  go_enter Tryd.func59, Tryd.ntmps59
  go_wp2_with (go_at_call 52; refine (hmay.out _).mono ?_; rintro e w' ⟨rfl, hx⟩; have hx := hx.symm; subst hx)
  go_loopw [6] (fun i wr => ∃ (k : Nat) (v1 : Value), k ≤ c ∧ i = .int .i64 ((c : Int) - 1 - k) ∧ Wv p wr v1 (N + rev n c k * 2 ^ t) (t + k) ∧ Kin w v v1 ∧ Fr (some p) v.ownBlock w wr) (fun i _ => (intOf i + 1).toNat)
  case atStart => exact ⟨0, v, by omega, by simp, by simpa [rev] using h, .inl rfl, Fr.refl _ _ _⟩
  case round =>
    obtain ⟨k, v1, hk, rfl, hw, hkin, hb⟩ := hrel
    by_cases hkc : k < c
    · have e1 : (c : Int) - 1 - k = ((c - 1 - k : Nat) : Int) := by omega
      rw [e1]
      have hdig : Hid (∀ w, Calls Tryd.prog 54 #[.int .i64 n, .int .i64 ((c - 1 - k : Nat) : Int)] w fun e w' => e = .returned (.int .u8 (dig n (c - 1 - k))) ∧ w' = w) := digit_walk n (c - 1 - k) (by omega)
      have hadd : Hid (Calls Tryd.prog 53 #[.pointer (some ⟨p, 0, none⟩), .int .u8 (dig n (c - 1 - k) : Int)] wr fun e w' => e = .returned (.tuple #[]) ∧ ∃ v', Wv p w' v' (N + rev n c k * 2 ^ t + dig n (c - 1 - k) * 2 ^ (t + k)) (t + k + 1) ∧ Kin wr v1 v' ∧ Fr (some p) v1.ownBlock wr w') := add_fr p wr v1 _ (t + k) _ hw (dig_lt n _) (by omega)
      rw [coding] at hadd
      obtain ⟨j, hj⟩ : ∃ j, j = c - 1 - k := ⟨_, rfl⟩
      rw [← hj] at hdig hadd ⊢
      have hj2 : (c : Int) - 1 - (k + 1 : Nat) = (j : Int) - 1 := by omega
      clear e1
      have HJ : Hid (j = c - 1 - k) := hj
      have HJ2 : Hid ((c : Int) - 1 - (k + 1 : Nat) = (j : Int) - 1) := hj2
      have hj0 : j < 16 := by omega
      clear hj hj2
      go_wp2_with (first | (go_at_call 54; with_reducible refine (hdig.out _).mono ?_; rintro e w' ⟨rfl, hx⟩; have hx := hx.symm; subst hx) | (go_at_call 53; (with_reducible refine hadd.out.mono ?_); rintro e w' ⟨rfl, v2, hw2, hk2, hb2⟩))
      go_roundw
      case rel =>
        exact ⟨k + 1, v2, by omega, by rw [HJ2.out], hw2, hkin.trans hb.size hk2, hb.trans hb2 hkin⟩
      case measure => simp [intOf] <;> omega
    · have hkk : k = c := by omega
      subst hkk
      go_wp2
      go_end0
      exact ⟨rfl, v1, hw, hkin, hb⟩

theorem tput_fr (p tb : Nat) (w : World) (v : Value) (l : List Nat) (s : Nat) (N t : Nat) (h : Tab w tb l) (hw : Wv p w v N t) (hs : s < l.length) (h0 : 0 < nth l s) (ht : t < 900000) :
    Calls Tryd.prog 42 #[.pointer (some ⟨tb, 0, none⟩), .pointer (some ⟨p, 0, none⟩), .int .i64 (s : Int)] w fun e w' => e = .returned (.bool true) ∧ ∃ v', Wv p w' v' (N + rev (code l s : Nat) (nth l s) (nth l s) * 2 ^ t) (t + nth l s) ∧ Kin w v v' ∧ Fr (some p) v.ownBlock w w' := by
  have hc : Hid (Calls Tryd.prog 58 #[.pointer (some ⟨tb, 0, none⟩), .int .i64 (s : Int)] w fun e w' => e = .returned (.tuple #[.int .i64 (code l s : Nat), .int .i64 (nth l s : Nat), .bool true]) ∧ ∃ k, w' = w.drewN k) := tcode_has w tb l s h hs h0
  have hwc : Hid (∀ k, Calls Tryd.prog 59 #[.pointer (some ⟨p, 0, none⟩), .int .i64 (code l s : Nat), .int .i64 (nth l s : Nat)] (w.drewN k) fun e w' => e = .returned (.tuple #[]) ∧ ∃ v', Wv p w' v' (N + rev (code l s : Nat) (nth l s) (nth l s) * 2 ^ t) (t + nth l s) ∧ Kin w v v' ∧ Fr (some p) v.ownBlock w w') := fun k =>
    (code_fr p (w.drewN k) v N t (code l s : Nat) (nth l s) (hw.old (below_drewN w k)) (by have := nth_le15 h.le s; omega) ht).mono fun e w' ⟨e1, v', e2, e3, e4⟩ => ⟨e1, v', e2, e3, (Fr.refl _ _ w).drewN k |>.trans e4 (.inl rfl)⟩
  go_enter Tryd.func42, Tryd.ntmps42
  go_wp2_with (first
    | (go_at_call 58; (with_reducible refine hc.out.mono ?_); rintro e w1 ⟨rfl, k, hx⟩; have hx := hx.symm; subst hx)
    | (go_at_call 59; (with_reducible refine (hwc.out _).mono ?_); rintro e w2 ⟨rfl, v2, h2, hk2, hb2⟩))
  go_ret
  exact ⟨rfl, v2, h2, hk2, hb2⟩

theorem bytes_fr (p : Nat) (w : World) (v : Value) (N t : Nat) (h : Wv p w v N t) (ht : t < 1000000) :
    Calls Tryd.prog 43 #[.pointer (some ⟨p, 0, none⟩)] w fun e w' => ∃ v' bs, e = .returned v' ∧ w'.ownsRow w.heap.size 5 1 v' bs.length (bs.map byteV) ∧ Small bs ∧ val bs = N ∧ bs.length = (t + 7) / 8 ∧ Below w.heap.size w w' := by
  obtain ⟨bs, hp, hown, hsm, hval, hlen, hN⟩ := h
  have h0 := cell2_0 hp
  have hc : Hid (Calls Tryd.prog 45 #[v] w fun e w' => ∃ v', e = .returned v' ∧ w'.ownsRow w.heap.size 5 1 v' bs.length (bs.map byteV) ∧ Below w.heap.size w w') := clone_walk w v bs (lies_own hown) (by omega)
  go_enter Tryd.func43, Tryd.ntmps43
  go_wp2_with (go_at_call 45; (with_reducible refine hc.out.mono ?_); rintro e w' ⟨v', rfl, ho, hb⟩)
  go_ret
  exact ⟨v', bs, rfl, ho, hsm, hval, hlen, hb⟩

end Go.Proofs.YtdokpimhhkbdbaaDoor
