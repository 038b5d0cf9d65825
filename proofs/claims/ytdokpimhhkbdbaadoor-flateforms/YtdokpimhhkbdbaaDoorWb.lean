/-
  The writer: 'Wr', what its memory holds; NewWriter, add.
-/
import Derived.Test.YtdokpimhhkbdbaaDoorWa
import Derived.BigRegion
set_option linter.unusedSimpArgs false
set_option linter.unusedVariables false
namespace Go.Proofs.YtdokpimhhkbdbaaDoor
open Go.RowKit

def byteV (b : Nat) : Value := .int .u8 (b : Int)

theorem cell2_0 {w : World} {b : Nat} {v u : Value} {t : TypeId} (h : w.heap[b]? = some (.cells #[v, u] t (0, 0))) : w.cell? ⟨b, 0, none⟩ = some v := by simp [World.cell?, h]
theorem cell2_1 {w : World} {b : Nat} {v u : Value} {t : TypeId} (h : w.heap[b]? = some (.cells #[v, u] t (0, 0))) : w.cell? ⟨b, 1, none⟩ = some u := by simp [World.cell?, h]
theorem free_at {w : World} {b : Nat} {c : Array Value} {t : TypeId} (h : w.heap[b]? = some (.cells c t (0, 0))) (o : Nat) : w.frozen? ⟨b, o, none⟩ = false := by simp [World.frozen?, h]

theorem row_setCell {w : World} {b : Nat} {c : Array Value} {t : TypeId} (h : w.heap[b]? = some (.cells c t (0, 0))) (o : Nat) (u : Value) :
    (w.setCell ⟨b, o, none⟩ u).heap[b]? = some (.cells (c.setIfInBounds o u) t (0, 0)) := heap_setCell_same w b o c t u h

theorem owns_ne {w : World} {B p n : Nat} {v : Value} {xs : List Value} {c : Array Value} {t : TypeId} (h : w.ownsRow B 5 1 v n xs) (hp : w.heap[p]? = some (.cells c t (0, 0))) (ht : t ≠ 5) : v.ownBlock ≠ some p := by
  rcases h.2 with ⟨rfl, _⟩ | ⟨g, cap, cur, rfl, _, hg, _⟩
  · simp [Value.ownBlock]
  · simp only [Value.ownBlock, ne_eq, Option.some.injEq]
    rintro rfl
    rw [hg] at hp
    simp at hp
    exact ht hp.2.symm

/-- The writer at block p: of t digits, which are the number N; all of its memory lies from block B on. -/
def Wr (B p : Nat) (w : World) (N t : Nat) : Prop :=
  ∃ v bs, w.heap[p]? = some (.cells #[v, .int .i64 (((8 - t % 8) % 8 : Nat) : Int)] 84 (0, 0)) ∧ w.ownsRow B 5 1 v bs.length (bs.map byteV) ∧ Small bs ∧ val bs = N ∧ bs.length = (t + 7) / 8 ∧ N < 2 ^ t ∧ B ≤ p

theorem Tryd.info5 : (Tryd.prog.info? 5).map (fun i => (i.zero, i.size, i.bytes)) = some (some (.int .u8 0), 1, 1) := by kernel_rfl
theorem Tryd.underlying25 : Tryd.prog.underlying 22 = some (.slice 5) := by kernel_rfl

theorem new_walk (w : World) :
    Calls Tryd.prog 38 #[] w fun e w' => e = .returned (.pointer (some ⟨w.heap.size, 0, none⟩)) ∧ w' = w.alloc (.cells #[.slice none 0 0, .int .i64 0] 84) := by
  go_enter Tryd.func38, Tryd.ntmps38
  go_wp2
  go_ret
  exact ⟨rfl, rfl⟩

theorem wr_new (w : World) (B : Nat) (hB : B ≤ w.heap.size) : Wr B w.heap.size (w.alloc (.cells #[.slice none 0 0, .int .i64 0] 84)) 0 0 :=
  ⟨.slice none 0 0, [], heap_alloc_new w _, World.ownsRow_nil _ _ _ _, by simp [Small], rfl, rfl, by decide, hB⟩

/-- The last byte with one digit more. -/
theorem val_last {bs : List Nat} (h : Small bs) (t d : Nat) (hd : d < 2) (hl : bs.length = t / 8 + 1) (hv : val bs < 2 ^ t) :
    bs.getD (t / 8) 0 < 2 ^ (t % 8) ∧ (bs.getD (t / 8) 0 ||| d * 2 ^ (t % 8)) = bs.getD (t / 8) 0 + d * 2 ^ (t % 8) ∧
    bs.getD (t / 8) 0 + d * 2 ^ (t % 8) < 256 ∧ val (bs.set (t / 8) (bs.getD (t / 8) 0 + d * 2 ^ (t % 8))) = val bs + d * 2 ^ t := by
  have e : 2 ^ t = 2 ^ (8 * (t / 8)) * 2 ^ (t % 8) := by rw [← Nat.pow_add]; congr 1; omega
  have hm : t % 8 < 8 := Nat.mod_lt _ (by decide)
  generalize t / 8 = q at *
  generalize t % 8 = s at *
  have hx : bs.getD q 0 < 2 ^ s := by
    rw [← val_byte h, Nat.mod_eq_of_lt]
    · rw [Nat.div_lt_iff_lt_mul (Nat.pow_pos (by decide)), Nat.mul_comm, ← e]; exact hv
    · rw [Nat.div_lt_iff_lt_mul (Nat.pow_pos (by decide)), Nat.mul_comm]
      have := val_lt h
      rw [hl, pow8, Nat.mul_comm] at this
      exact this
  have hp : 2 ^ s * 2 ≤ 256 := by
    rw [← Nat.pow_succ]
    exact Nat.pow_le_pow_right (by decide) (by omega : s + 1 ≤ 8)
  have hdp : d * 2 ^ s ≤ 2 ^ s := by
    rcases (show d = 0 ∨ d = 1 by omega) with rfl | rfl <;> omega
  refine ⟨hx, ?_, by omega, ?_⟩
  · rw [Nat.or_comm, nat_join s _ _ (by simp) hx]; omega
  · obtain ⟨a, x, rfl⟩ : ∃ a x, bs = a ++ [x] := by
      rcases List.eq_nil_or_concat bs with rfl | ⟨a, x, rfl⟩
      · simp at hl
      · exact ⟨a, x, by simp⟩
    have ha : a.length = q := by simpa using hl
    subst ha
    rw [e]
    simp [val_append, val, Nat.mul_add, Nat.add_mul, Nat.add_assoc, Nat.mul_left_comm, Nat.mul_comm, Nat.mul_assoc]

set_option maxHeartbeats 1000000 in
theorem add_begun (p g cap n : Nat) (f d x : Int) (w : World) (hn : 0 < n) (hnc : n ≤ cap) (hc : cap ≤ 9223372036854775807) (hf : 0 < f) (hf2 : f ≤ 8) (hd : 0 ≤ d) (hd2 : d < 2) (hpg : p ≠ g)
    (h0 : w.cell? ⟨p, 0, none⟩ = some (.slice (some ⟨g, 0, none⟩) n cap)) (h1 : w.cell? ⟨p, 1, none⟩ = some (.int .i64 f)) (hz : w.frozen? ⟨p, 1, none⟩ = false)
    (hx : w.cell? ⟨g, n - 1, none⟩ = some (.int .u8 x)) (hxz : w.frozen? ⟨g, n - 1, none⟩ = false) :
    Calls Tryd.prog 53 #[.pointer (some ⟨p, 0, none⟩), .int .u8 d] w fun e w' => e = .returned (.tuple #[]) ∧
      w' = ((w.setCell ⟨g, n - 1, none⟩ (.int .u8 (bits .or .u8 x (d * 2 ^ (8 - f).toNat % 256)))).setCell ⟨p, 1, none⟩ (.int .i64 (f - 1))).drew := by
  have hf0 : (f == 0) = false := by simp; omega
  have ht : ((n - 1 : Nat) : Int) = (n : Int) - 1 := by omega
  have hix : 0 ≤ (n : Int) - 1 ∧ (n : Int) - 1 < n := by omega
  have htn : ((n : Int) - 1).toNat = n - 1 := by omega
  have hsh : 0 ≤ 8 - f := by omega
  go_enter Tryd.func53, Tryd.ntmps53
  go_wp2
  go_region
  all_goals go_wp2
  all_goals go_end0
  all_goals exact ⟨rfl, rfl⟩

set_option maxRecDepth 100000 in
set_option maxHeartbeats 1000000 in
theorem add_new (B p n : Nat) (d : Int) (v : Value) (xs : List Value) (w : World) (hn : n < 1000000) (hd : 0 ≤ d) (hd2 : d < 2) (hB : B ≤ p) (hp : w.heap[p]? = some (.cells #[v, .int .i64 0] 84 (0, 0)))
    (hown : w.ownsRow B 5 1 v n xs) :
    Calls Tryd.prog 53 #[.pointer (some ⟨p, 0, none⟩), .int .u8 d] w fun e w' => e = .returned (.tuple #[]) ∧
      (∃ v', w'.heap[p]? = some (.cells #[v', .int .i64 7] 84 (0, 0)) ∧ w'.ownsRow B 5 1 v' (n + 1) (xs ++ [.int .u8 (bits .or .u8 0 d)])) ∧ Below B w w' := by
  obtain ⟨i, hi, hz0, hz1, hz2⟩ := info_parts Tryd.info5
  have hpl := lt_of_block hp
  have h0 := cell2_0 hp
  have h1 := cell2_1 hp
  have hz := free_at hp
  have hz0' := hz 0
  have hz1' := hz 1
  clear hz
  go_enter Tryd.func53, Tryd.ntmps53
  go_wp2_with (at_builtin; refine wpList_append_own _ rfl (.tmp 13) (.tmp 14) 22 rfl B 5 i (.int .u8 0) 1 1 Tryd.underlying25 hi hz0 hz1 hz2 rfl (by decide) v n _ rfl (hown.alloc _) ⟨w.heap.size, 0, none⟩ 1 1 [.int .u8 0] rfl rfl ?c1 ?c2 (by unfold maxLen; omega) (by omega) (by simp; omega) ?_)
  case c1 =>
    intro j u hj
    match j, hj with
    | 0, hj => simp at hj; subst hj; simp [Addr.add]
  case c2 => intro u hu; simp at hu; subst hu; rfl
  intro v' w1 hown' hgrow _
  have hex : ∃ g' cap', v' = .slice (some ⟨g', 0, none⟩) (n + 1) cap' ∧ n + 1 ≤ cap' ∧ cap' ≤ maxLen := by
    obtain ⟨_, hcase⟩ := hown'
    rcases hcase with ⟨_, h0⟩ | ⟨g', cap', cur', h, _, _, h3, h4, _⟩
    · omega
    · exact ⟨g', cap', h, h3, h4⟩
  obtain ⟨g, cap, rfl, hnc, hcm⟩ := hex
  have hne : some p ≠ v.ownBlock := fun h => owns_ne hown hp (by decide) h.symm
  have hp1 : w1.heap[p]? = some (.cells #[v, .int .i64 0] 84 (0, 0)) := by
    rw [hgrow.block p (by simp; omega) hne]
    exact (Below.heap_alloc _ _ _ hpl).trans hp
  have hbel : Below B w w1 := ((Below.refl B w).alloc (by omega) _).grown hgrow (by simp; omega) (fun k hk => (hown.lt k hk).1)
  clear hgrow h0 h1 hz0' hz1' hne
  have hgp : p ≠ g := fun h => owns_ne hown' hp1 (by decide) (by simp [Value.ownBlock, h])
  have h0 := cell2_0 hp1
  have h1 := cell2_1 hp1
  have hz := free_at hp1
  have hz0' := hz 0
  have hz1' := hz 1
  clear hz
  have hx : w1.cell? ⟨g, n, none⟩ = some (.int .u8 0) := by
    rw [hown'.cellAt n (by omega)]
    have := hown.1
    simp at this
    rw [← this]
    simp
  have hxz := hown'.frozenAt n
  unfold maxLen at hcm
  have hix : 0 ≤ (n : Int) ∧ (n : Int) < n + 1 := by omega
  go_wp2
  go_region
  all_goals go_wp2
  all_goals go_end0
  refine ⟨rfl, ⟨.slice (some ⟨g, 0, none⟩) (n + 1) cap, ?_, ?_⟩, ?_⟩
  · have e1 := row_setCell hp1 0 (.slice (some ⟨g, 0, none⟩) (n + 1) cap)
    have e2 := row_setCell e1 1 (.int .i64 8)
    have e3 := (Below.heap_setCell _ ⟨g, n, none⟩ (.int .u8 (bits .or .u8 0 d)) p hgp).trans e2
    have e4 := row_setCell e3 1 (.int .i64 7)
    exact e4
  · have o1 := ownsRow_setCell_other hown' (a := ⟨p, 0, none⟩) (fun h => hgp (by simpa [Value.ownBlock] using h.symm)) (.slice (some ⟨g, 0, none⟩) (n + 1) cap)
    have o2 := ownsRow_setCell_other o1 (a := ⟨p, 1, none⟩) (fun h => hgp (by simpa [Value.ownBlock] using h.symm)) (.int .i64 8)
    have o3 := (o2.stored n (.int .u8 (bits .or .u8 0 d))).1
    have o4 := ownsRow_setCell_other o3 (a := ⟨p, 1, none⟩) (fun h => hgp (by simpa [Value.ownBlock] using h.symm)) (.int .i64 7)
    have hl := hown.1
    simp at hl
    have e : (xs ++ [Value.int .u8 0]).set n (.int .u8 (bits .or .u8 0 d)) = xs ++ [.int .u8 (bits .or .u8 0 d)] := by
      rw [← hl]; simp
    rw [e] at o4
    exact o4.drew
  · have hg : B ≤ g := (hown'.lt g rfl).1
    exact ((((hbel.setCell (p := ⟨p, 0, none⟩) hB _).setCell (p := ⟨p, 1, none⟩) hB _).setCell (p := ⟨g, n, none⟩) hg _).setCell (p := ⟨p, 1, none⟩) hB _).drew

theorem map_set_byte (bs : List Nat) (k y : Nat) : (bs.map byteV).set k (.int .u8 (y : Int)) = (bs.set k y).map byteV := by
  rw [List.map_set]; rfl

theorem small_set {bs : List Nat} (h : Small bs) (k y : Nat) (hy : y < 256) : Small (bs.set k y) := by
  intro b hb
  rcases List.mem_or_eq_of_mem_set hb with h1 | h1
  · exact h b h1
  · omega

theorem add_walk (B p : Nat) (w : World) (N t d : Nat) (h : Wr B p w N t) (hd : d < 2) (ht : t < 1000000) :
    Calls Tryd.prog 53 #[.pointer (some ⟨p, 0, none⟩), .int .u8 (d : Int)] w fun e w' => e = .returned (.tuple #[]) ∧ Wr B p w' (N + d * 2 ^ t) (t + 1) ∧ Below B w w' := by
  obtain ⟨v, bs, hp, hown, hsm, hval, hlen, hN, hB⟩ := h
  have hNt : N + d * 2 ^ t < 2 ^ (t + 1) := by
    rw [Nat.pow_succ]
    rcases (show d = 0 ∨ d = 1 by omega) with rfl | rfl <;> omega
  by_cases h8 : t % 8 = 0
  · have hf : ((8 - t % 8) % 8 : Nat) = 0 := by omega
    rw [hf] at hp
    refine (add_new B p bs.length d v _ w (by omega) (by omega) (by omega) hB hp hown).mono ?_
    rintro e w' ⟨rfl, ⟨v', hp', hown'⟩, hbel⟩
    have hbit : bits .or .u8 0 (d : Int) = (d : Int) := by
      have := u8_or_nat 0 d (by decide) (by omega)
      simpa using this
    rw [hbit] at hown'
    refine ⟨rfl, ⟨v', bs ++ [d], ?_, ?_, ?_, ?_, ?_, hNt, hB⟩, hbel⟩
    · rw [hp']
      have : (8 - (t + 1) % 8) % 8 = 7 := by omega
      rw [this]; rfl
    · rw [List.length_append, List.map_append]
      exact hown'
    · intro b hb
      rcases List.mem_append.1 hb with h1 | h1
      · exact hsm b h1
      · simp at h1; omega
    · rw [val_append, hval]
      have : 8 * bs.length = t := by omega
      rw [this]
      simp [val, Nat.mul_comm]
    · simp; omega
  · have hl : bs.length = t / 8 + 1 := by omega
    have hV := val_last hsm t d hd hl (by rw [hval]; exact hN)
    obtain ⟨hv1, hv2, hv3, hv4⟩ := hV
    have hown0 := hown
    obtain ⟨hlx, hcase⟩ := hown
    rcases hcase with ⟨_, h0⟩ | ⟨g, cap, cur, rfl, hg, hh, hn, hcap, hsz, htake⟩
    · omega
    have hpg : p ≠ g := fun h => owns_ne hown0 hp (by decide) (by simp [Value.ownBlock, h])
    have e1 : bs.length - 1 = t / 8 := by omega
    have hx : w.cell? ⟨g, bs.length - 1, none⟩ = some (.int .u8 ((bs.getD (t / 8) 0 : Nat) : Int)) := by
      rw [hown0.cellAt _ (by omega), e1]
      have : t / 8 < bs.length := by omega
      simp [this, byteV]
    unfold maxLen at hcap
    refine (add_begun p g cap bs.length _ d _ w (by omega) hn (by omega) (by omega) (by omega) (by omega) (by omega) hpg (cell2_0 hp) (cell2_1 hp) (free_at hp 1) hx (hown0.frozenAt _)).mono ?_
    rintro e w' ⟨rfl, rfl⟩
    have hsh : ((8 : Int) - (((8 - t % 8) % 8 : Nat) : Int)).toNat = t % 8 := by omega
    have hbit : bits .or .u8 ((bs.getD (t / 8) 0 : Nat) : Int) ((d : Int) * 2 ^ ((8 : Int) - (((8 - t % 8) % 8 : Nat) : Int)).toNat % 256) = ((bs.getD (t / 8) 0 + d * 2 ^ (t % 8) : Nat) : Int) := by
      rw [hsh, ← hv2]
      have e : (d : Int) * 2 ^ (t % 8) % 256 = ((d * 2 ^ (t % 8) : Nat) : Int) := by
        have h1 : d * 2 ^ (t % 8) < 256 := by omega
        have h2 : ((d * 2 ^ (t % 8) : Nat) : Int) = (d : Int) * 2 ^ (t % 8) := by push_cast; rfl
        omega
      rw [e]
      exact u8_or_nat _ _ (by omega) (by omega)
    rw [hbit, e1]
    refine ⟨rfl, ⟨.slice (some ⟨g, 0, none⟩) bs.length cap, bs.set (t / 8) (bs.getD (t / 8) 0 + d * 2 ^ (t % 8)), ?_, ?_, small_set hsm _ _ hv3, by rw [hv4, hval], by simp; omega, hNt, hB⟩, ?_⟩
    · have e3 := (Below.heap_setCell w ⟨g, t / 8, none⟩ (.int .u8 ((bs.getD (t / 8) 0 + d * 2 ^ (t % 8) : Nat) : Int)) p hpg).trans hp
      have e4 := row_setCell e3 1 (.int .i64 ((((8 - t % 8) % 8 : Nat) : Int) - 1))
      have : ((((8 - t % 8) % 8 : Nat) : Int) - 1) = (((8 - (t + 1) % 8) % 8 : Nat) : Int) := by omega
      rw [this] at e4 ⊢
      exact e4
    · have o3 := (hown0.stored (t / 8) (.int .u8 ((bs.getD (t / 8) 0 + d * 2 ^ (t % 8) : Nat) : Int))).1
      have o4 := ownsRow_setCell_other o3 (a := ⟨p, 1, none⟩) (fun h => hpg (by simpa [Value.ownBlock] using h.symm)) (.int .i64 ((((8 - t % 8) % 8 : Nat) : Int) - 1))
      rw [map_set_byte] at o4
      rw [List.length_set]
      exact o4.drew
    · exact (((Below.refl B w).setCell (p := ⟨g, t / 8, none⟩) hg _).setCell (p := ⟨p, 1, none⟩) hB _).drew
end Go.Proofs.YtdokpimhhkbdbaaDoor
