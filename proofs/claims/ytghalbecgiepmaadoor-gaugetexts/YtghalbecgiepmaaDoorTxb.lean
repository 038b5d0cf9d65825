/-
  What the statement on texts needs beside its walk: bytes as strings, digits told one by one.
-/
import Derived.Test.YtghalbecgiepmaaDoorTxa
import Derived.Laws.BytesArg
namespace Go.Proofs.YtghalbecgiepmaaDoor.wk
open Go.Proofs.YtghalbecgiepmaaDoor.flo Go.RowKit
set_option linter.unusedSimpArgs false
set_option linter.unusedVariables false

theorem share_hid (p q : Int) (w : World) : Calls Tryd.prog 9 #[.int .i64 p, .int .i64 q] w fun e w' => ∃ x, e = .returned (.float .f64 x) ∧ Hid (x = share p q) ∧ w' = w :=
  (share_any p q w).mono fun e w' ⟨he, hw⟩ => ⟨_, he, rfl, hw⟩

theorem conv1 (w : World) (a : Int) : (convert 33 9 (.slice (some ⟨w.heap.size, 0, none⟩) 1 1)).run Tryd.prog (w.alloc (.cells #[.int .u8 a] 5)) = .ok (.string (strOfNums [a])) (w.alloc (.cells #[.int .u8 a] 5)) :=
  run_convert_bytes_arg _ 33 5 Tryd.underlying33 Tryd.underlying5 _ 0 1 1 [a] rfl (fun i hi => by
    obtain rfl : i = 0 := by omega
    simp) 9 Tryd.underlying9
theorem conv2 (w : World) (o : Obj) (a b : Int) : (convert 33 9 (.slice (some ⟨w.heap.size + 1, 0, none⟩) 2 2)).run Tryd.prog ((w.alloc o).alloc (.cells #[.int .u8 a, .int .u8 b] 5)) = .ok (.string (strOfNums [a, b])) ((w.alloc o).alloc (.cells #[.int .u8 a, .int .u8 b] 5)) :=
  run_convert_bytes_arg _ 33 5 Tryd.underlying33 Tryd.underlying5 _ 0 2 2 [a, b] rfl (fun i hi => by
    have : i = 0 ∨ i = 1 := by omega
    rcases this with rfl | rfl <;> simp) 9 Tryd.underlying9

/-- how far the digits of K have been told -/
def Inv (K k : Nat) (l : List UInt8) : Prop := (k = K ∧ l = []) ∨ (l ≠ [] ∧ if k = 0 then l = Lib.decDigits K else Lib.decDigits k ++ l = Lib.decDigits K)

theorem inv_size {K k : Nat} {l : List UInt8} (h : Inv K k l) : l.length ≤ (Lib.decDigits K).length := by
  rcases h with ⟨_, rfl⟩ | ⟨_, h⟩
  · simp
  · split at h
    · rw [h]; exact Nat.le_refl _
    · rw [← h]; simp
theorem inv_end {K k : Nat} {l : List UInt8} (h : Inv K k l) (hk : k = 0) (hl : l ≠ []) : l = Lib.decDigits K := by
  rcases h with ⟨_, rfl⟩ | ⟨_, h⟩
  · exact absurd rfl hl
  · rw [if_pos hk] at h; exact h
theorem inv_step {K k : Nat} {l : List UInt8} (h : Inv K k l) (hgo : 0 < k ∨ l = []) : Inv K (k / 10) (UInt8.ofNat (48 + k % 10) :: l) := by
  refine Or.inr ⟨by simp, ?_⟩
  rcases h with ⟨rfl, rfl⟩ | ⟨hne, h⟩
  · by_cases h10 : k < 10
    · rw [if_pos (by omega), Lib.decDigits, dif_pos h10, show k % 10 = k by omega]
    · rw [if_neg (by omega)]
      conv => rhs; rw [Lib.decDigits, dif_neg h10]
  · have hk : 0 < k := by
      rcases hgo with h1 | h1
      · exact h1
      · exact absurd h1 hne
    rw [if_neg (by omega)] at h
    by_cases h10 : k < 10
    · rw [if_pos (by omega), ← h, Lib.decDigits, dif_pos h10, show k % 10 = k by omega]; rfl
    · rw [if_neg (by omega), ← h]
      conv => rhs; rw [Lib.decDigits, dif_neg h10]
      simp


theorem dec_digit (d : Int) (h0 : 0 ≤ d) (h : d < 10) : dec d = strOfNums [48 + d] := by
  obtain ⟨k, rfl⟩ := Int.eq_ofNat_of_zero_le h0
  rw [dec_small k (by omega)]
  unfold strOfNums
  have : (48 + (k : Int)).toNat = 48 + k := by omega
  simp [this]
theorem str_two (a b : Int) : strOfNums [a] ++ strOfNums [b] = strOfNums [a, b] := by
  unfold strOfNums
  apply ByteArray.ext
  simp
theorem cent_form (C : Nat) : cent C = dec (C / 100) ++ ⟨#[46]⟩ ++ strOfNums [48 + (C : Int) / 10 % 10, 48 + (C : Int) % 10] := by
  unfold cent
  rw [show (C : Int) % 100 / 10 = (C : Int) / 10 % 10 by omega, dec_digit ((C : Int) / 10 % 10) (by omega) (by omega), dec_digit ((C : Int) % 10) (by omega) (by omega), ByteArray.append_assoc, str_two]

/-- the two texts of a share of N, in the words of the statement -/
theorem texts_of (N k C : Nat) (hN : N ≤ 1000000) (hk : k ≤ 2) (hC : C = N * 100 / 2 ^ k) :
    text (share N ((2 ^ k : Nat) : Int)) = dec (C / 100) ++ ⟨#[46]⟩ ++ strOfNums [48 + (C : Int) / 10 % 10, 48 + (C : Int) % 10] ∧
    (0 < N → text (share (-(N : Int)) ((2 ^ k : Nat) : Int)) = ⟨#[45]⟩ ++ dec (C / 100) ++ ⟨#[46]⟩ ++ strOfNums [48 + (C : Int) / 10 % 10, 48 + (C : Int) % 10]) := by
  constructor
  · rcases Nat.eq_zero_or_pos N with h | h
    · subst h
      have h0 := text_share_zero k hk
      rw [Nat.zero_mul, Nat.zero_div] at hC
      subst hC
      rw [show ((0 : Nat) : Int) = 0 from rfl]
      rw [h0]
      exact cent_form 0
    · have h0 := text_share_pos N k (by omega) (by omega) hk
      rw [h0, show (N : Int).natAbs = N from by omega, ← hC]
      exact cent_form C
  · intro h
    have h0 := text_share_neg (-(N : Int)) k (by omega) (by omega) hk
    rw [h0, show (-(N : Int)).natAbs = N from by omega, ← hC, cent_form C]
    simp only [ByteArray.append_assoc]


def mt : Value → Nat | .string s => if s.size = 0 then 1 else 0 | _ => 0
theorem mt_cons (a : Int) (s : ByteArray) : mt (.string (strOfNums [a] ++ s)) = 0 := by
  unfold mt
  have : (strOfNums [a] ++ s).size ≠ 0 := by rw [ByteArray.size_append, strOfNums_size]; have : [a].length = 1 := rfl; omega
  simp only [this, if_false]
theorem mt_empty : mt (.string ⟨#[]⟩) = 1 := rfl
/-- one digit more -/
theorem inv_next {K k : Nat} {s : ByteArray} (h : Inv K k s.data.toList) (hgo : 0 < k ∨ s = ⟨#[]⟩) : Inv K (k / 10) (strOfNums [48 + (k : Int) % 10] ++ s).data.toList := by
  have := inv_step h (hgo.imp id (fun e => by rw [e]))
  have e : (strOfNums [48 + (k : Int) % 10] ++ s).data.toList = UInt8.ofNat (48 + k % 10) :: s.data.toList := by
    rw [ByteArray.data_append, Array.toList_append, strOfNums_data]
    have h1 : (48 + (k : Int) % 10).toNat = 48 + k % 10 := by omega
    rw [List.map_cons, List.map_nil, h1]; rfl
  rw [e]; exact this
theorem inv_len {K k : Nat} {s : ByteArray} (h : Inv K k s.data.toList) (hl : (Lib.decDigits K).length ≤ 21) : s.size ≤ 21 := by
  have := inv_size h
  have e : s.size = s.data.toList.length := by rw [Array.length_toList]; rfl
  omega
theorem inv_done {K k : Nat} {s : ByteArray} (h : Inv K k s.data.toList) (hk : k = 0) (hs : s ≠ ⟨#[]⟩) : s = ⟨(Lib.decDigits K).toArray⟩ := by
  have := inv_end h hk (fun e => hs (by apply ByteArray.ext; simpa using e))
  apply ByteArray.ext
  rw [← this]

end Go.Proofs.YtghalbecgiepmaaDoor.wk
