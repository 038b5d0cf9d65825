/-
  BitsForms: the walk.
-/
import Derived.Test.YtilepfblbdlfkaaWd
import Derived.Deep.AppendLies
set_option linter.unusedSimpArgs false
set_option linter.unusedVariables false
namespace Go.Proofs.Ytilepfblbdlfkaa
open Go.RowKit

theorem lay_n {N l P : Nat} (a s : Nat) (h : l = a) (h2 : a * P = s) : N + l * P = N + s := by rw [h, h2]

theorem late {B p N t g : Nat} {w w10 w11 w12 : World} (h : In B p w w10 N t) (h1 : Below w10.heap.size w10 w11) (h2 : Below w11.heap.size w11 w12) (hg : w10.heap.size ≤ g) (x : Value) :
    In B p w (w12.setCell ⟨g, 0, none⟩ x) N t :=
  h.old ((h1.trans (h2.mono h1.size)).setCell (p := ⟨g, 0, none⟩) hg x)

set_option maxHeartbeats 4000000 in
theorem forms_walk (w : World) (n : Int) : Calls Try.prog 3 #[.int .i64 n] w fun e w' => e = .returned (.bool true) ∧ Below w.heap.size w w' := by
  obtain ⟨m, hm⟩ : ∃ m : Nat, (m : Int) = n % 256 := ⟨(n % 256).toNat, by omega⟩
  have hm2 : m < 256 := by omega
  have hwithin : Hid (∀ w, Calls Try.prog 8 #[.int .i64 n, .int .i64 256] w fun e w' => e = .returned (.int .i64 (m : Int)) ∧ w' = w) := by
    rw [hm]; exact fun w => within_walk n 256 (by decide) (by decide) w
  clear hm
  have hnew : Hid (∀ w, Calls Try.prog 9 #[] w fun e w' => e = .returned (.pointer (some ⟨w.heap.size, 0, none⟩)) ∧ In w.heap.size w.heap.size w w' 0 0) := new_in
  have hwakes : Hid (∀ w, Calls Try.prog 15 #[] w fun e w' => e = .returned (.bool true) ∧ Below w.heap.size w w') := wakes_walk
  have hlow8 : low m 8 = m := by unfold low; omega
  have hlow3 : low m 3 = m % 8 := by unfold low; omega
  obtain ⟨B, hB⟩ : ∃ B, B = w.heap.size := ⟨_, rfl⟩
  have hb0 := bytes_in (B := B) (p := B) (w0 := w) 0 0 (by decide) [] 0 rfl (by simp [Small]) rfl rfl
  have p1 := put_in (B := B) (p := B) (w0 := w) 0 0 m 8 8 rfl (by decide) (by decide) m 8 (by omega) rfl
  have p2 := put_in (B := B) (p := B) (w0 := w) m 8 1 1 1 rfl (by decide) (by decide) (m + 256) 9 (lay_n 1 256 (by decide) (by decide)) rfl
  have a1 := align_in (B := B) (p := B) (w0 := w) (m + 256) 9 16 (by decide)
  have a2 := align_in (B := B) (p := B) (w0 := w) (m + 256) 16 16 (by decide)
  have c1 := code_in (B := B) (p := B) (w0 := w) (m + 256) 16 1 4 4 rfl (by decide) (by decide) (m + 256 + 524288) 20 (lay_n 8 524288 (by decide) (by decide)) rfl
  have p3 := put_in (B := B) (p := B) (w0 := w) (m + 256 + 524288) 20 65535 0 0 rfl (by decide) (by decide) (m + 256 + 524288) 20 (lay_n 0 0 (by decide) (by decide)) rfl
  have p4 := put_in (B := B) (p := B) (w0 := w) (m + 256 + 524288) 20 5 4 4 rfl (by decide) (by decide) (m + 256 + 524288 + 5242880) 24 (lay_n 5 5242880 (by decide) (by decide)) rfl
  have p5 := put_in (B := B) (p := B) (w0 := w) (m + 256 + 524288 + 5242880) 24 m 3 3 rfl (by decide) (by decide) (m + 256 + 524288 + 5242880 + m % 8 * 16777216) 27 (by omega) rfl
  have hby := bytes_in (B := B) (p := B) (w0 := w) (m + 256 + 524288 + 5242880 + m % 8 * 16777216) 27 (by decide) [m, 1, 88, m % 8] 4 rfl (by intro b hb; simp at hb; omega) (by simp [val]; omega) (by simp)
  have n1 : Hid (∀ w, Calls Try.prog 11 #[.pointer (some ⟨B, 0, none⟩), .int .i64 3, .int .i64 17] w fun e w' => e = .returned (.tuple #[]) ∧ w' = w) := fun w => put_not _ w 3 17 (by decide)
  have n2 : Hid (∀ w, Calls Try.prog 13 #[.pointer (some ⟨B, 0, none⟩), .int .i64 3, .int .i64 (-1)] w fun e w' => e = .returned (.tuple #[]) ∧ w' = w) := fun w => code_not _ w 3 (-1) (by decide)
  rw [hB] at hb0 p1 p2 a1 a2 c1 p3 p4 p5 hby n1 n2
  clear hB B hlow8 hlow3
  have hsame := same_lit [m, 1, 88, m % 8] [m, 1, 88, m % 8] #[.int .u8 m, .int .u8 1, .int .u8 88, .int .u8 ((m : Int) % 8)] 4 true rfl rfl (by simp) (by simp)
  go_enter Try.func3, Try.ntmps3
  go_wp2_with (first
    | (go_at_call 8; (with_reducible refine (hwithin.out _).mono ?_); rintro e w0 ⟨rfl, hx⟩; have hx := hx.symm; subst hx)
    | (go_at_call 9; (with_reducible refine (hnew.out _).mono ?_); rintro e w1 ⟨rfl, hin1⟩)
    | (go_at_call 10; (with_reducible refine (hb0.out _ (by assumption)).mono ?_); rintro e w2 ⟨v2, rfl, ho2, hb2, hin2⟩; obtain ⟨ao2, cp2, rfl, -, -, -⟩ := lies_n (bs := []) rfl ho2)
    | (go_at_call 11; (with_reducible refine (p1.out _ (by assumption)).mono ?_); rintro e w3 ⟨rfl, hin3⟩)
    | (go_at_call 11; (with_reducible refine (p2.out _ (by assumption)).mono ?_); rintro e w4 ⟨rfl, hin4⟩)
    | (go_at_call 12; (with_reducible refine (a1.out _ (by assumption)).mono ?_); rintro e w5 ⟨rfl, hin5⟩)
    | (go_at_call 12; (with_reducible refine (a2.out _ (by assumption)).mono ?_); rintro e w6 ⟨rfl, hin6⟩)
    | (go_at_call 13; (with_reducible refine (c1.out _ (by assumption)).mono ?_); rintro e w7 ⟨rfl, hin7⟩)
    | (go_at_call 11; (with_reducible refine (p3.out _ (by assumption)).mono ?_); rintro e w8 ⟨rfl, hin8⟩)
    | (go_at_call 11; (with_reducible refine (n1.out _).mono ?_); rintro e wx ⟨rfl, hx⟩; have hx := hx.symm; subst hx)
    | (go_at_call 13; (with_reducible refine (n2.out _).mono ?_); rintro e wx ⟨rfl, hx⟩; have hx := hx.symm; subst hx)
    | (go_at_call 11; (with_reducible refine (p4.out _ (by assumption)).mono ?_); rintro e w9 ⟨rfl, hin9⟩)
    | (go_at_call 11; (with_reducible refine (p5.out _ (by assumption)).mono ?_); rintro e w10 ⟨rfl, hin10⟩)
    | (go_at_call 10; (with_reducible refine (hby.out _ (hlate.out _)).mono ?_); rintro e w13 ⟨v13, rfl, ho13, hb13, hin13⟩)
    | (go_at_call 10; (with_reducible refine (hby.out _ (by assumption)).mono ?_); rintro e w11 ⟨v11, rfl, ho, hb11, hin11⟩; obtain ⟨g, cap, rfl, hgl, -⟩ := ho.form (by decide))
    | (go_at_call 14; (with_reducible refine (hsame.out _ _ (lies_n rfl ho13)).mono ?_); rintro e w14 ⟨rfl, hb14⟩)
    | (go_at_call 14; (with_reducible refine (hsame.out _ _ (lies_n rfl ho)).mono ?_); rintro e w12 ⟨rfl, hb12⟩; have ho12 := owns_old ho hb12; have hc12 := ho12.cellAt 0 (by decide); have hf12 := ho12.frozenAt 0; simp [byteV] at hc12; have hlate : Hid (∀ x, In w.heap.size w.heap.size w (w12.setCell ⟨g, 0, none⟩ x) (m + 256 + 524288 + 5242880 + m % 8 * 16777216) 27) := fun x => late hin10 hb11 hb12 hgl x)
    | (go_at_call 15; (with_reducible refine (hwakes.out _).mono ?_); rintro e w15 ⟨rfl, hb15⟩))
  go_ret
  exact ⟨rfl, hin13.2.trans ((hb14.trans (hb15.mono hb14.size)).mono hin13.size)⟩
end Go.Proofs.Ytilepfblbdlfkaa
