/-
  lz.alike, lz.longest.
-/
import Derived.Test.YtdokpimhhkbdbaaDoorZLa
set_option linter.unusedSimpArgs false
set_option linter.unusedVariables false
namespace Go.Proofs.YtdokpimhhkbdbaaDoor.Lz
open Go.RowKit

/-- Whatever was read of the world below. -/
theorem _root_.Go.Proofs.YtdokpimhhkbdbaaDoor.Lies.cell {w : World} {v : Value} {bs : List Nat} (h : Lies w v bs) : ∃ ao cap, v = .slice ao bs.length cap ∧ (0 < bs.length → ∃ a, ao = some a ∧ ∀ k, k < bs.length → w.cell? (a.add k) = some (.int .u8 (bs.getD k 0 : Nat))) := by
  obtain ⟨ao, cap, h1, h2, h3, h4⟩ := h
  refine ⟨ao, cap, h1, fun h0 => ?_⟩
  cases ao with
  | none => have := h3 rfl; omega
  | some a => exact ⟨a, rfl, fun k hk => h4 a rfl k _ (by simp [hk, byteV])⟩

set_option maxHeartbeats 1000000 in
theorem alike_walk (w : World) (v : Value) (b : List Nat) (f a : Nat) (hv : Lies w v b) (hb : b.length ≤ 140737488355328) (hfa : f < a) (ha : a < b.length) :
    Calls Tryd.prog 69 #[v, .int .i64 f, .int .i64 a] w fun e w' => e = .returned (.int .i64 (lik b f a : Nat)) ∧ Below w.heap.size w w' := by
  obtain ⟨A, cap, rfl, hc⟩ := hv.at (by omega)
  obtain ⟨R, hR⟩ : ∃ R, R = lik b f a := ⟨_, rfl⟩
  have HS : Hid (Lik b f a R) := by show Lik _ _ _ _; rw [hR]; exact lik_spec b f a (by omega)
  rw [← hR]
  clear hR
  obtain ⟨N, hN⟩ : ∃ N, N = b.length := ⟨_, rfl⟩
  rw [← hN] at hc hb ha ⊢
  have HN : Hid (N = b.length) := hN
  clear hN hv
  go_enter Tryd.func69, Tryd.ntmps69
  go_wp2
  go_loopw [7] (fun i wr => ∃ n : Nat, n ≤ 258 ∧ a + n ≤ N ∧ i = .int .i64 n ∧ Hid (∀ k, k < n → b.getD (f + k) 0 = b.getD (a + k) 0) ∧ Below w.heap.size w wr) (fun i _ => 258 - (intOf i).toNat)
  case atStart => exact ⟨0, by omega, by omega, rfl, fun k hk => by omega, Below.refl _ _⟩
  case round =>
    obtain ⟨n, hn, han, rfl, HE, hbl⟩ := hrel
    by_cases h1 : n < 258
    · by_cases h2 : a + n < N
      · have c1 := cell_old hbl (hc (f + n) (by omega))
        have c2 := cell_old hbl (hc (a + n) h2)
        obtain ⟨x, hx⟩ : ∃ x, x = b.getD (f + n) 0 := ⟨_, rfl⟩
        obtain ⟨y, hy⟩ : ∃ y, y = b.getD (a + n) 0 := ⟨_, rfl⟩
        rw [← hx] at c1
        rw [← hy] at c2
        have HX : Hid (x = b.getD (f + n) 0) := hx
        have HY : Hid (y = b.getD (a + n) 0) := hy
        clear hx hy
        have d1 : decide ((n : Int) < 258) = true := by simp; omega
        have d2 : decide ((a : Int) + n < N) = true := by simp; omega
        have i1 : 0 ≤ (f : Int) + n ∧ (f : Int) + n < N := by omega
        have i2 : 0 ≤ (a : Int) + n ∧ (a : Int) + n < N := by omega
        have t1 : ((f : Int) + n).toNat = f + n := by omega
        have t2 : ((a : Int) + n).toNat = a + n := by omega
        by_cases hxy : x = y
        · have he : ((x : Int) == (y : Int)) = true := by simp [hxy]
          have HXY : Hid (x = y) := hxy
          clear hxy
          go_wp2
          go_quiet (fail)
          go_wp2
          go_roundw
          case rel =>
            refine ⟨n + 1, by omega, by omega, by go_num, fun k hk => ?_, hbl.trans ⟨rfl, rfl, rfl, Nat.le_refl _, fun _ _ => rfl⟩⟩
            rcases (show k < n ∨ k = n by omega) with h | rfl
            · exact HE.out k h
            · rw [← HX.out, ← HY.out]; exact HXY.out
          case measure => simp [intOf]; omega
        · have he : ((x : Int) == (y : Int)) = false := by simp; omega
          have HXY : Hid (¬ x = y) := hxy
          clear hxy
          go_wp2
          go_quiet (fail)
          go_wp2
          go_ret
          refine ⟨ret_int ?_, hbl.trans ⟨rfl, rfl, rfl, Nat.le_refl _, fun _ _ => rfl⟩⟩
          have : Lik b f a n := ⟨hn, by rw [← HN.out]; exact han, HE.out, .inr (.inr (by rw [← HX.out, ← HY.out]; exact HXY.out))⟩
          rw [this.uni HS.out]
      · have d1 : decide ((n : Int) < 258) = true := by simp; omega
        have d2 : decide ((a : Int) + n < N) = false := by simp; omega
        go_wp2
        go_quiet (fail)
        go_wp2
        go_ret
        refine ⟨ret_int ?_, hbl.trans ⟨rfl, rfl, rfl, Nat.le_refl _, fun _ _ => rfl⟩⟩
        have : Lik b f a n := ⟨hn, by rw [← HN.out]; exact han, HE.out, .inr (.inl (by rw [← HN.out]; omega))⟩
        rw [this.uni HS.out]
    · have d1 : decide ((n : Int) < 258) = false := by simp; omega
      go_wp2
      go_quiet (fail)
      go_wp2
      go_ret
      refine ⟨ret_int ?_, hbl.trans ⟨rfl, rfl, rfl, Nat.le_refl _, fun _ _ => rfl⟩⟩
      have : Lik b f a n := ⟨hn, by rw [← HN.out]; exact han, HE.out, .inl (by omega)⟩
      rw [this.uni HS.out]
end Go.Proofs.YtdokpimhhkbdbaaDoor.Lz
