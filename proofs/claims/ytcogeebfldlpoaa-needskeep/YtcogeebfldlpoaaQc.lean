/-
  container/heap's up walked over the queue.
-/
import Derived.Test.YtcogeebfldlpoaaQb
import Derived.Outline
set_option linter.unusedSimpArgs false
set_option linter.unusedVariables false
namespace Go.Proofs.Ytcogeebfldlpoaa
open Go.RowKit Go.Proofs.NeedsHeap

/-- What up leaves: the same things, a heap. -/
def UpP (B : Nat) (w : World) (q : Nat) (v : Value) (xs : List Txt) (e : Ending) (w' : World) : Prop :=
  e = .returned (.tuple #[]) ∧ ∃ ys, QuTo B w q v w' v ys ∧ ys.Perm xs ∧ HeapTo ys ys.length

theorem wrapU {j : Nat} (h : 0 < j) (h2 : j ≤ 1000000) : wrap64 ((wrap64 ((j : Int) - 1)).tdiv 2) = (((j - 1) / 2 : Nat) : Int) := by
  have e : wrap64 ((j : Int) - 1) = ((j - 1 : Nat) : Int) := by unfold wrap64; omega
  rw [e]
  have : ((j - 1 : Nat) : Int).tdiv 2 = (((j - 1) / 2 : Nat) : Int) := by
    rw [Int.tdiv_eq_ediv_of_nonneg (by omega)]; omega
  rw [this]
  unfold wrap64; omega

set_option maxHeartbeats 2000000 in
theorem up_walk (B : Nat) (w : World) (q : Nat) (v : Value) (xs : List Txt) (h : Qu B w q v xs) (j : Nat) (hj : j < xs.length) (hl : xs.length ≤ 1000000) (hu : UpI xs xs.length j) :
    Calls Try.prog 33 #[.iface 48 (.pointer (some ⟨q, 0, none⟩)), .int .i64 (j : Int)] w (UpP B w q v xs) := by
  obtain ⟨m, hm⟩ : ∃ m, m = xs.length := ⟨_, rfl⟩
  have HM := mkHid hm
  have HL := mkHid hl
  have HQ := mkHid h
  have HU := mkHid hu
  have HJ := mkHid hj
  clear hm hl h hu hj
  go_enter Try.func33, Try.ntmps33
  go_wp2
  go_loopw [1] (fun i wr => ∃ k : Nat, i = .int .i64 (k : Int) ∧ Hid (∃ ys, QuTo B w q v wr v ys ∧ ys.Perm xs ∧ UpI ys ys.length k ∧ k < ys.length)) (fun i _ => (intOf i).toNat)
  case atStart => exact ⟨j, rfl, mkHid ⟨xs, QuTo.refl HQ.out, .refl _, HU.out, HJ.out⟩⟩
  case round =>
    obtain ⟨k, rfl, HS⟩ := hrel
    obtain ⟨ys, s1, s2, s3, s4⟩ := HS.out
    have hys : ys.length ≤ 1000000 := by rw [s2.length_eq]; exact HL.out
    by_cases hk : k = 0
    · subst hk
      go_wp2
      go_end0
      exact ⟨rfl, ys, s1, s2, up_zero s3⟩
    · have k1 : 0 < (k : Int) := by omega
      have k2 : (k : Int) ≤ 1000000 := by omega
      have hi : ((k : Int) - 1) / 2 = (((k - 1) / 2 : Nat) : Int) := by omega
      obtain ⟨i, ei⟩ : ∃ i, i = (k - 1) / 2 := ⟨_, rfl⟩
      rw [← ei] at hi
      have EI := mkHid ei
      have hik : i < k := by omega
      have hne : ((i : Int) == (k : Int)) = false := by simp; omega
      have S1 := mkHid s1
      have S2 := mkHid s2
      have S3 := mkHid s3
      have S4 := mkHid s4
      have ML := meth_less s1.qu.cell
      have MS : ∀ n, (method 208 48 (.pointer (some ⟨q, 0, none⟩)) "Swap").run Try.prog (wr.drewN n) = .ok (79, v) (wr.drewN n) := fun n => meth_swap (s1.qu.drewN n).cell
      have CL := mkHid (less_walk wr v ys s1.qu.lies hys k i s4 (by omega))
      have CS := mkHid (fun n => swap_qu B (wr.drewN n) q v ys (s1.qu.drewN n) i k (by omega) s4 hys)
      obtain ⟨d, hd⟩ : ∃ d, d = decide (ys.getD k [] < ys.getD i []) := ⟨_, rfl⟩
      rw [← hd] at CL
      have HD := mkHid hd
      clear ei s1 s2 s3 s4 hys HS hd
      cases d
      · go_wp2_with (first | (go_at_call 75; (with_reducible refine CL.out.mono ?_); rintro e w1 ⟨rfl, n, rfl⟩))
        go_end0
        refine ⟨rfl, ys, S1.out.drewN n, S2.out, up_done S3.out ?_⟩
        have := HD.out
        rw [EI.out] at this
        simpa [g] using this.symm
      · go_wp2_with (first | (go_at_call 75; (with_reducible refine CL.out.mono ?_); rintro e w1 ⟨rfl, n, rfl⟩) | (go_at_call 79; (with_reducible refine (CS.out n).mono ?_); rintro e w2 ⟨rfl, hw2⟩; have HW := mkHid hw2; clear hw2))
        go_roundw
        case rel =>
          refine ⟨i, by first | rfl | rw [hi], mkHid ⟨_, (S1.out.drewN n).trans HW.out, (sw_perm (by have := S4.out; omega) S4.out).trans S2.out, ?_, by rw [sw_len]; have := S4.out; omega⟩⟩
          rw [sw_len]
          have := up_step S3.out (by omega) S4.out (by
            have := HD.out
            rw [EI.out] at this
            simpa [g] using this.symm)
          rw [← EI.out] at this
          exact this
        case measure =>
          show (intOf (.int .i64 _)).toNat < (intOf (.int .i64 _)).toNat
          show (i : Int).toNat < (k : Int).toNat
          omega
end Go.Proofs.Ytcogeebfldlpoaa
