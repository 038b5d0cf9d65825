/-
  Slices of steps that can be read ('Tells'); Same of steps.
-/
import Derived.Test.YthjnkoagmjcjfaaSd
set_option linter.unusedSimpArgs false
set_option linter.unusedVariables false
namespace Go.Proofs.Ythjnkoagmjcjfaa
open Go.RowKit

/-- The slice v reads as the steps l. -/
def Tells (w : World) (v : Value) (l : List St) : Prop :=
  (v = .slice none 0 0 ∧ l.length = 0) ∨ ∃ g o cap, v = .slice (some ⟨g, o, none⟩) l.length cap ∧ ∀ j u, (cellsL l)[j]? = some u → w.cell? ⟨g, o + j, none⟩ = some u

theorem Tells.old {w w' : World} {v : Value} {l : List St} (h : Tells w v l) (hb : Below w.heap.size w w') : Tells w' v l := by
  rcases h with h | ⟨g, o, cap, h1, h3⟩
  · exact .inl h
  · exact .inr ⟨g, o, cap, h1, fun j u hu => cell_old hb (h3 j u hu)⟩

theorem tells_own {w : World} {B T : Nat} {v : Value} {l : List St} (h : Steps B T w v l) : Tells w v l := by
  have h0 := h
  rcases h.2 with ⟨rfl, hn⟩ | ⟨g, cap, cur, rfl, _, hg, hn, _⟩
  · exact .inl ⟨rfl, hn⟩
  · refine .inr ⟨g, 0, cap, rfl, fun j u hu => ?_⟩
    have := h0.cells (g := g) rfl j u hu
    rw [Addr.add_mid] at this
    exact this

def nthS (l : List St) (k : Nat) : St := l.getD k ⟨0, 0, 0⟩

theorem Tells.at {w : World} {v : Value} {l : List St} (h : Tells w v l) (hn : 0 < l.length) : ∃ g o cap, v = .slice (some ⟨g, o, none⟩) l.length cap ∧ ∀ k, k < l.length → w.cell? ⟨g, o + k * 3, none⟩ = some (.int .u8 ((nthS l k).b : Int)) ∧ w.cell? ⟨g, o + k * 3 + 1, none⟩ = some (.int .i64 (nthS l k).l) ∧ w.cell? ⟨g, o + k * 3 + 2, none⟩ = some (.int .i64 (nthS l k).d) := by
  rcases h with ⟨_, h⟩ | ⟨g, o, cap, h1, h3⟩
  · omega
  · refine ⟨g, o, cap, h1, fun k hk => ⟨?_, ?_, ?_⟩⟩
    · have := h3 (3 * k) _ ((cellsL_at l k 0 hk (by omega)).trans rfl)
      rw [Nat.mul_comm] at this; exact this
    · have := h3 (3 * k + 1) _ ((cellsL_at l k 1 hk (by omega)).trans rfl)
      rw [Nat.mul_comm, ← Nat.add_assoc] at this; exact this
    · have := h3 (3 * k + 2) _ ((cellsL_at l k 2 hk (by omega)).trans rfl)
      rw [Nat.mul_comm, ← Nat.add_assoc] at this; exact this

theorem Tells.len {w : World} {v : Value} {l : List St} (h : Tells w v l) : ∃ ao cap, v = .slice ao l.length cap := by
  rcases h with ⟨h, h'⟩ | ⟨g, o, cap, h1, _⟩
  · exact ⟨none, 0, by rw [h, h']⟩
  · exact ⟨_, _, h1⟩

set_option maxHeartbeats 1000000 in
theorem sameS_walk (w : World) (u v : Value) (xs ys : List St) (hu : Tells w u xs) (hv : Tells w v ys) (hlen : xs.length = ys.length) (hl : xs.length ≤ 281474976710656) (h0 : 0 < xs.length) :
    Calls Try.prog 10 #[u, v] w fun e w' => (∃ r : Bool, e = .returned (.bool r) ∧ (r = true ↔ xs = ys)) ∧ Below w.heap.size w w' := by
  obtain ⟨ga, oa, ca, rfl, hca⟩ := hu.at (by omega)
  obtain ⟨gb, ob, cb, rfl, hcb⟩ := hv.at (by omega)
  rw [← hlen] at hcb ⊢
  obtain ⟨n, hn⟩ : ∃ n, n = xs.length := ⟨_, rfl⟩
  rw [← hn] at hca hcb hl h0 ⊢
  have HN : Hid (n = xs.length ∧ n = ys.length) := ⟨hn, hn.trans hlen⟩
  clear hn hlen hu hv
  go_enter Try.func10, Try.ntmps10
  go_wp2
  go_loopw [5] (fun i wr => ∃ k : Nat, k ≤ n ∧ i = .int .i64 k ∧ Hid (∀ j, j < k → nthS xs j = nthS ys j) ∧ Below w.heap.size w wr) (fun i _ => n - (intOf i).toNat)
  case atStart => exact ⟨0, by omega, rfl, fun j hj => by omega, Below.refl _ _⟩
  case round =>
    obtain ⟨k, hk, rfl, HA, hb⟩ := hrel
    by_cases hkn : k < n
    · obtain ⟨a1, a2, a3⟩ := hca k hkn
      obtain ⟨b1, b2, b3⟩ := hcb k hkn
      have a1 := cell_old hb a1
      have a2 := cell_old hb a2
      have a3 := cell_old hb a3
      have b1 := cell_old hb b1
      have b2 := cell_old hb b2
      have b3 := cell_old hb b3
      obtain ⟨s, hs⟩ : ∃ s, s = nthS xs k := ⟨_, rfl⟩
      obtain ⟨t, ht⟩ : ∃ t, t = nthS ys k := ⟨_, rfl⟩
      rw [← hs] at a1 a2 a3
      rw [← ht] at b1 b2 b3
      have HE : Hid (s = nthS xs k ∧ t = nthS ys k) := ⟨hs, ht⟩
      clear hs ht
      obtain ⟨sb, sl, sd⟩ := s
      obtain ⟨tb, tl, td⟩ := t
      simp only at a1 a2 a3 b1 b2 b3
      by_cases hst : (sb : Int) = tb ∧ sl = tl ∧ sd = td
      · obtain ⟨e1, e2, e3⟩ := hst
        have e1 : sb = tb := by omega
        subst e1 e2 e3
        have HS : Hid (nthS xs k = nthS ys k) := by show _ = _; rw [← HE.out.1, ← HE.out.2]
        go_wp2
        go_region
        all_goals go_wp2
        all_goals go_roundw
        case rel =>
          refine ⟨k + 1, by omega, by go_num, fun j hj => ?_, hb.trans ⟨rfl, rfl, rfl, Nat.le_refl _, fun _ _ => rfl⟩⟩
          rcases (show j < k ∨ j = k by omega) with h | rfl
          · exact HA.out j h
          · exact HS.out
        case measure => simp [intOf]; omega
      · have HS : Hid (xs ≠ ys) := by
          intro h
          have : nthS xs k = nthS ys k := by rw [h]
          rw [← HE.out.1, ← HE.out.2, St.eq_iff] at this
          simp only at this
          exact hst ⟨by omega, this.2⟩
        have hcase : (¬ (sb : Int) = tb) ∨ ((sb : Int) = tb ∧ ¬ sl = tl) ∨ ((sb : Int) = tb ∧ sl = tl ∧ ¬ sd = td) := by
          by_cases h1 : (sb : Int) = tb
          · by_cases h2 : sl = tl
            · exact .inr (.inr ⟨h1, h2, fun h3 => hst ⟨h1, h2, h3⟩⟩)
            · exact .inr (.inl ⟨h1, h2⟩)
          · exact .inl h1
        clear hst
        rcases hcase with h1 | ⟨h1, h2⟩ | ⟨h1, h2, h3⟩
        all_goals
          go_wp2
          go_region
          go_wp2
          go_ret
          exact ⟨⟨false, rfl, by simp [HS.out]⟩, hb.trans ⟨rfl, rfl, rfl, Nat.le_refl _, fun _ _ => rfl⟩⟩
    · have hkk : k = n := by omega
      subst hkk
      go_wp2
      go_ret
      refine ⟨⟨true, rfl, ⟨fun _ => ?_, fun _ => rfl⟩⟩, hb⟩
      apply List.ext_getElem (by rw [← HN.out.1, ← HN.out.2])
      intro j h1 h2
      have := HA.out j (by have := HN.out.1; omega)
      simpa [nthS, h1, h2] using this

theorem sameS_any (w : World) (u v : Value) (xs ys : List St) (hu : Tells w u xs) (hv : Tells w v ys) (hl : xs.length ≤ 281474976710656) :
    Calls Try.prog 10 #[u, v] w fun e w' => (∃ r : Bool, e = .returned (.bool r) ∧ (r = true ↔ xs = ys)) ∧ Below w.heap.size w w' := by
  by_cases h : xs.length = ys.length
  · by_cases h0 : 0 < xs.length
    · exact sameS_walk w u v xs ys hu hv h hl h0
    · have e1 : xs = [] := List.length_eq_zero_iff.1 (by omega)
      have e2 : ys = [] := List.length_eq_zero_iff.1 (by omega)
      subst e1 e2
      obtain ⟨ao, ca, rfl⟩ := hu.len
      obtain ⟨bo, cb, rfl⟩ := hv.len
      go_enter Try.func10, Try.ntmps10
      go_wp2
      refine wp_loop_rounds 1 ?_
      rw [rounds_succ]
      go_wp2
      go_ret
      exact ⟨⟨true, rfl, by simp⟩, Below.refl _ _⟩
  · obtain ⟨ao, ca, rfl⟩ := hu.len
    obtain ⟨bo, cb, rfl⟩ := hv.len
    have hne : ((xs.length : Int) != (ys.length : Int)) = true := by simp; omega
    go_enter Try.func10, Try.ntmps10
    go_wp2
    go_ret
    refine ⟨⟨false, rfl, by simp; rintro rfl; exact h rfl⟩, Below.refl _ _⟩

/-- Same: of steps that are the same. -/
theorem sameS_eq (w : World) (u v : Value) (xs ys : List St) (hu : Tells w u xs) (hv : Tells w v ys) (hl : xs.length ≤ 281474976710656) (he : xs = ys) :
    Calls Try.prog 10 #[u, v] w fun e w' => e = .returned (.bool true) ∧ Below w.heap.size w w' := by
  refine (sameS_any w u v xs ys hu hv hl).mono ?_
  rintro e w' ⟨⟨r, rfl, hr⟩, hb⟩
  rw [hr.2 he]
  exact ⟨rfl, hb⟩
end Go.Proofs.Ythjnkoagmjcjfaa
