/-
  huff.counts.mayBe: whether the codes fit.
-/
import Derived.Test.YtdokpimhhkbdbaaDoorCa
set_option linter.unusedSimpArgs false
set_option linter.unusedVariables false
namespace Go.Proofs.YtdokpimhhkbdbaaDoor
open Go.RowKit

theorem sho_le {l : List Nat} (hl : l.length ≤ 320) (k : Nat) : sho l k ≤ k * 320 := by
  induction k with
  | zero => simp [sho]
  | succ k ih => have := cn_le (l := l) k; simp only [sho]; omega

theorem rm_le {l : List Nat} (hl : l.length ≤ 320) (k : Nat) : rm l k ≤ k * 10485760 := by
  induction k with
  | zero => simp [rm]
  | succ k ih =>
    have h1 := cn_le (l := l) k
    have h2 : 2 ^ (15 - k) ≤ 32768 := pow_le15 (by omega)
    have h3 : cn l k * 2 ^ (15 - k) ≤ 320 * 32768 := Nat.mul_le_mul (by omega) h2
    simp only [rm]
    omega

theorem half_pow (k : Nat) (hk : k ≤ 15) : (32768 : Int) / 2 ^ k = ((2 ^ (15 - k) : Nat) : Int) := by
  have key : ∀ M : Nat, M = 2 ^ k * 2 ^ (15 - k) → (M : Int) / 2 ^ k = ((2 ^ (15 - k) : Nat) : Int) := by
    intro M hM
    have e2 : M / 2 ^ k = 2 ^ (15 - k) := by rw [hM, Nat.mul_div_cancel_left _ (Nat.pow_pos (by decide))]
    rw [← e2, Int.natCast_ediv, Int.natCast_pow]
    rfl
  exact key 32768 (by rw [← Nat.pow_add, show k + (15 - k) = 15 by omega])

/-- It answers whether P holds. -/
def Says (e : Ending) (P : Prop) : Prop := ∃ b : Bool, e = .returned (.bool b) ∧ (b = true ↔ P)

theorem Tryd.info3 : (Tryd.prog.info? 3).map (·.size) = some 1 := by kernel_rfl
theorem Tryd.under3 : Tryd.prog.underlying 3 = some (.int .i64) := by kernel_rfl

theorem run_index16 (C : Array Value) (k : Nat) (v : Value) (hk : k < 16) (hc : C[k]? = some v) (w : World) :
    (Instr.index 98 (.agg C) (.int .i64 (k : Int))).run Tryd.prog w = .ok v w := by
  have h1 : 0 ≤ (k : Int) ∧ (k : Int) < (16 : Nat) := by omega
  cases hq : Tryd.prog.info? 3 with
  | none => have := Tryd.info3; simp [hq] at this
  | some i =>
    have hs : i.size = 1 := by have := Tryd.info3; simpa [hq] using this
    simp [Instr.index, asIntOf, run_underlying Tryd.under61, h1, sizeOf, typeInfo, hq, hs, part, isAgg, run_underlying Tryd.under3, hc]
    all_goals omega

set_option maxRecDepth 100000 in
set_option maxHeartbeats 1000000 in
theorem fits_walk (w : World) (l : List Nat) (hl : l.length ≤ 320) :
    Calls Tryd.prog 74 #[.agg (cells16 (cn l))] w fun e w' => Below w.heap.size w w' ∧ Says e (Fits l) := by
  obtain ⟨C, hC⟩ : ∃ C, C = cells16 (cn l) := ⟨_, rfl⟩
  have hs : C.size = 16 := by rw [hC, cells16_size]
  have hget : ∀ k, k < 16 → C[k]? = some (.int .i64 (cn l k : Nat)) := fun k hk => by rw [hC, cells16_get _ _ hk]; rfl
  rw [← hC]
  clear hC
  have HG : Hid (∀ k, k < 16 → C[k]? = some (.int .i64 (cn l k : Nat))) := hget
  obtain ⟨c1, hc1⟩ : ∃ c1, c1 = cn l 1 := ⟨_, rfl⟩
  have hcell1 : (w.alloc (.cells C 98)).cell? ⟨w.heap.size, 1, none⟩ = some (.int .i64 (c1 : Int)) := by
    rw [cell_of_row _ _ 1 C 98 (0, 0) (heap_alloc_new w _), hget 1 (by omega), hc1]
  have HC1 : Hid (c1 = cn l 1) := hc1
  have hc1l : c1 ≤ 320 := by have := cn_le (l := l) 1; omega
  clear hget hc1
  go_enter Tryd.func74, Tryd.ntmps74
  go_wp2_with (refine wpList_load_row rfl 98 (.tmp 1) rfl w.heap.size rfl 98 C (0, 0) _ (heap_alloc_new w _) Tryd.under61 rfl (by rw [hs]; exact Tryd.info61) ?_)
  go_loop [3, 4, 8] (fun t r i => ∃ k : Nat, k ≤ 16 ∧ i = .int .i64 k ∧ t = .int .i64 ((sho l k : Nat) : Int) ∧ r = .int .i64 ((rm l k : Nat) : Int)) (fun _ _ i => 16 - (intOf i).toNat)
  case atStart => exact ⟨0, by omega, rfl, rfl, rfl⟩
  case round =>
    obtain ⟨k, hk, rfl, rfl, rfl⟩ := hrel
    have hsl := sho_le hl k
    have hrl := rm_le hl k
    by_cases hkn : k < 16
    · have hck := HG.out k hkn
      have hcl := cn_le (l := l) k
      have hsh := half_pow k (by omega)
      have hP : 2 ^ (15 - k) ≤ 32768 := pow_le15 (by omega)
      have hsucc : sho l (k + 1) = sho l k + cn l k := rfl
      have hrucc : rm l (k + 1) = rm l k + cn l k * 2 ^ (15 - k) := rfl
      obtain ⟨P, hPe⟩ : ∃ P, P = 2 ^ (15 - k) := ⟨_, rfl⟩
      rw [← hPe] at hP hrucc hsh
      obtain ⟨y, hy⟩ : ∃ y, y = cn l k := ⟨_, rfl⟩
      rw [← hy] at hck hcl hsucc hrucc
      obtain ⟨q, hq⟩ : ∃ q, q = y * P := ⟨_, rfl⟩
      have hql : q ≤ 10485760 := by rw [hq]; exact Nat.mul_le_mul (show y ≤ 320 by omega) hP
      rw [← hq] at hrucc
      have hqq : (y : Int) * (P : Int) = (q : Int) := by rw [hq]; push_cast; rfl
      obtain ⟨S, hS⟩ : ∃ S, S = sho l k := ⟨_, rfl⟩
      obtain ⟨R, hR⟩ : ∃ R, R = rm l k := ⟨_, rfl⟩
      rw [← hS] at hsl hsucc ⊢
      rw [← hR] at hrl hrucc ⊢
      have HS : Hid (sho l (k + 1) = S + y) := hsucc
      have HR : Hid (rm l (k + 1) = R + q) := hrucc
      have hidx : ∀ wx, (Instr.index 98 (.agg C) (.int .i64 (k : Int))).run Tryd.prog wx = .ok (.int .i64 (y : Int)) wx := run_index16 C k _ hkn hck
      clear hsucc hrucc hq hy hPe hS hR hck
      go_wp2
      go_round
      case rel => exact ⟨k + 1, by omega, by go_num, by rw [HS.out]; push_cast; rfl, by rw [HR.out]; push_cast; rfl⟩
      case measure => simp [intOf]; omega
    · have hkk : k = 16 := by omega
      subst hkk
      obtain ⟨S, hS⟩ : ∃ S, S = sho l 16 := ⟨_, rfl⟩
      obtain ⟨R, hR⟩ : ∃ R, R = rm l 16 := ⟨_, rfl⟩
      have hF : Hid (Fits l ↔ (R = 32768 ∨ S = 0 ∨ (S = 1 ∧ c1 = 1))) := by show _ ↔ _; rw [hS, hR, HC1.out]
      rw [← hS] at hsl ⊢
      rw [← hR] at hrl ⊢
      clear hS hR
      have hbel : Hid (Below w.heap.size w (w.alloc (.cells C 98))) := (Below.refl _ w).alloc (Nat.le_refl _) _
      by_cases h1 : R = 32768
      · have h1' : ((R : Int) == 32768) = true := by simp; omega
        go_wp2
        go_ret
        exact ⟨hbel.out, true, rfl, fun _ => hF.out.2 (.inl h1), fun _ => rfl⟩
      · have h1' : ((R : Int) == 32768) = false := by simp; omega
        by_cases h2 : S = 0
        · have h2' : ((S : Int) == 0) = true := by simp; omega
          go_wp2
          go_ret
          exact ⟨hbel.out, true, rfl, fun _ => hF.out.2 (.inr (.inl h2)), fun _ => rfl⟩
        · have h2' : ((S : Int) == 0) = false := by simp; omega
          by_cases h3 : S = 1
          · have h3' : ((S : Int) == 1) = true := by simp; omega
            go_wp2
            go_ret
            refine ⟨hbel.out, _, rfl, ?_⟩
            rw [hF.out]
            simp [h1, h2, h3]
            omega
          · have h3' : ((S : Int) == 1) = false := by simp; omega
            go_wp2
            go_ret
            refine ⟨hbel.out, _, rfl, ?_⟩
            rw [hF.out]
            simp [h1, h2, h3]
end Go.Proofs.YtdokpimhhkbdbaaDoor
