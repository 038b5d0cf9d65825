/-
  The sum: in plain numbers; Of and the document's Adler walked.
-/
import Derived.Test.YtnldjcjhhenppaaRc
import Derived.Lib.SlBytesConst
import Derived.Laws.Bits128
set_option linter.unusedSimpArgs false
set_option linter.unusedVariables false
namespace Go.Proofs.Ytnldjcjhhenppaa
open Go.RowKit

theorem mkHid {p : Prop} (h : p) : Hid p := h

def stp (p : Nat × Nat) (x : Nat) : Nat × Nat := ((p.1 + x) % 65521, (p.2 + (p.1 + x) % 65521) % 65521)
def adl (bs : List Nat) : Nat × Nat := bs.foldl stp (1, 0)
def sumOf (bs : List Nat) : Nat := (adl bs).2 * 65536 + (adl bs).1

theorem adl_snoc (bs : List Nat) (x : Nat) : adl (bs ++ [x]) = stp (adl bs) x := by simp [adl]

theorem stp_lt (p : Nat × Nat) (x : Nat) : (stp p x).1 < 65521 ∧ (stp p x).2 < 65521 := ⟨Nat.mod_lt _ (by decide), Nat.mod_lt _ (by decide)⟩

theorem adl_take (bs : List Nat) (k : Nat) (h : k < bs.length) : adl (bs.take (k + 1)) = stp (adl (bs.take k)) (bs.getD k 0) := by
  rw [← adl_snoc]
  congr 1
  rw [List.take_add_one]
  simp [h]

theorem adl_lt (bs : List Nat) : (adl bs).1 < 65521 ∧ (adl bs).2 < 65521 := by
  rcases List.eq_nil_or_concat bs with rfl | ⟨l, x, rfl⟩
  · decide
  · rw [List.concat_eq_append, adl_snoc]; exact stp_lt _ _

theorem sumOf_lt (bs : List Nat) : sumOf bs < 4294967296 := by
  have := adl_lt bs
  unfold sumOf
  omega

theorem Lies.cell {w : World} {v : Value} {bs : List Nat} (h : Lies w v bs) : ∃ ao cap, v = .slice ao bs.length cap ∧ (0 < bs.length → ∃ a, ao = some a ∧ ∀ k, k < bs.length → w.cell? (a.add k) = some (.int .u8 (bs.getD k 0 : Nat))) := by
  obtain ⟨ao, cap, h1, h2, h3, h4⟩ := h
  refine ⟨ao, cap, h1, fun hn => ?_⟩
  cases ao with
  | none => have := h3 rfl; omega
  | some a => exact ⟨a, rfl, fun k hk => h4 a rfl k _ (by simp [hk, byteV])⟩

theorem small_at {bs : List Nat} (h : Small bs) (k : Nat) : bs.getD k 0 < 256 := by
  rw [List.getD_eq_getElem?_getD]
  rcases Nat.lt_or_ge k bs.length with hk | hk
  · rw [List.getElem?_eq_getElem hk]; exact h _ (List.getElem_mem hk)
  · rw [List.getElem?_eq_none hk]; decide

theorem meas {k n : Nat} (h : k < n) : n - (intOf (.int .i64 ((k : Int) + 1))).toNat < n - (intOf (.int .i64 (k : Int))).toNat := by
  simp [intOf]; omega

set_option maxRecDepth 100000 in
set_option maxHeartbeats 1000000 in
theorem of_walk (w : World) (v : Value) (bs : List Nat) (hv : Lies w v bs) (hs : Small bs) (hl : bs.length ≤ 281474976710656) :
    Calls Try.prog 8 #[v] w fun e w' => e = .returned (.int .i64 (sumOf bs : Nat)) ∧ w' = w := by
  obtain ⟨ao, cap, rfl, hc⟩ := hv.cell
  obtain ⟨n, hn⟩ : ∃ n, n = bs.length := ⟨_, rfl⟩
  rw [← hn] at hc hl ⊢
  have HN : Hid (n = bs.length) := hn
  have HL : Hid (n ≤ 281474976710656) := hl
  clear hn hv hl
  go_enter Try.func8, Try.ntmps8
  go_wp2
  go_loopw [3, 4, 9] (fun a c i wr => ∃ k A C : Nat, k ≤ n ∧ a = .int .i64 A ∧ c = .int .i64 C ∧ i = .int .i64 k ∧ A < 65521 ∧ C < 65521 ∧ Hid ((A, C) = adl (bs.take k)) ∧ wr = w) (fun _ _ i _ => n - (intOf i).toNat)
  case atStart => exact ⟨0, 1, 0, by omega, rfl, rfl, rfl, by omega, by omega, rfl, rfl⟩
  case round =>
    obtain ⟨k, A, C, hk, rfl, rfl, rfl, hA, hC, HAC, rfl⟩ := hrel
    by_cases hkn : k < n
    · obtain ⟨ad, rfl, hcc⟩ := hc (by omega)
      have c1 := hcc k hkn
      obtain ⟨x, hx⟩ : ∃ x, x = bs.getD k 0 := ⟨_, rfl⟩
      rw [← hx] at c1
      have hx2 : x < 256 := by rw [hx]; exact small_at hs k
      have HX := mkHid hx
      clear hx hcc hc
      have hw : wrap64 ((k : Int) + 1) = k + 1 := by have := HL.out; unfold wrap64; omega
      have hAi : (A : Int) < 65521 := by omega
      have hCi : (C : Int) < 65521 := by omega
      go_wp2
      go_roundw
      case rel =>
        refine ⟨k + 1, (A + x) % 65521, (C + (A + x) % 65521) % 65521, by omega, by go_num, by go_num, by go_num, by omega, by omega, ?_, trivial⟩
        show _ = _
        rw [adl_take bs k (by rw [← HN.out]; exact hkn), ← HAC.out, ← HX.out]
        rfl
      case measure => rw [hw]; exact meas hkn
    · have hkk : k = n := by omega
      subst hkk
      have hAi : (A : Int) < 65521 := by omega
      have hCi : (C : Int) < 65521 := by omega
      go_wp2
      go_ret
      refine ⟨ret_int ?_, rfl⟩
      have h := HAC.out
      rw [HN.out, List.take_length] at h
      unfold sumOf
      rw [← h]
      show (C : Int) * 65536 + A = ((C * 65536 + A : Nat) : Int)
      rfl

theorem i64_or_nat (a b : Nat) (ha : a < 4294967296) (hb : b < 4294967296) : bits .or .i64 (a : Int) (b : Int) = ((a ||| b : Nat) : Int) := by
  have hx : a ||| b < 2 ^ 32 := Nat.or_lt_two_pow (by omega) (by omega)
  show IntKind.i64.wrap ((BitVec.ofInt 64 (a : Int) ||| BitVec.ofInt 64 (b : Int)).toNat : Int) = _
  rw [BitVec.toNat_or, ofInt_u64 a (by omega), ofInt_u64 b (by omega), IntKind.wrap_i64]
  omega

theorem or_16 (A C : Nat) (hA : A < 65521) (hC : C < 65521) : bits .or .i64 ((C : Int) * 65536) (A : Int) = ((C * 65536 + A : Nat) : Int) := by
  have h := i64_or_nat (C * 65536) A (by omega) (by omega)
  have e := Nat.two_pow_add_eq_or_of_lt (i := 16) (b := A) (by omega) C
  rw [show 2 ^ 16 * C = C * 65536 by omega] at e
  rw [e]
  exact h

set_option maxRecDepth 100000 in
set_option maxHeartbeats 1000000 in
theorem adler_walk (w : World) (v : Value) (bs : List Nat) (hv : Lies w v bs) (hs : Small bs) (hl : bs.length ≤ 281474976710656) :
    Calls Try.prog 16 #[v] w fun e w' => e = .returned (.int .i64 (sumOf bs : Nat)) ∧ w' = w := by
  obtain ⟨ao, cap, rfl, hc⟩ := hv.cell
  obtain ⟨n, hn⟩ : ∃ n, n = bs.length := ⟨_, rfl⟩
  rw [← hn] at hc hl ⊢
  have HN : Hid (n = bs.length) := hn
  have HL : Hid (n ≤ 281474976710656) := hl
  clear hn hv hl
  go_enter Try.func16, Try.ntmps16
  go_wp2
  go_loopw [3, 4, 9] (fun a c i wr => ∃ k A C : Nat, k ≤ n ∧ a = .int .i64 A ∧ c = .int .i64 C ∧ i = .int .i64 k ∧ A < 65521 ∧ C < 65521 ∧ Hid ((A, C) = adl (bs.take k)) ∧ wr = w) (fun _ _ i _ => n - (intOf i).toNat)
  case atStart => exact ⟨0, 1, 0, by omega, rfl, rfl, rfl, by omega, by omega, rfl, rfl⟩
  case round =>
    obtain ⟨k, A, C, hk, rfl, rfl, rfl, hA, hC, HAC, rfl⟩ := hrel
    by_cases hkn : k < n
    · obtain ⟨ad, rfl, hcc⟩ := hc (by omega)
      have c1 := hcc k hkn
      obtain ⟨x, hx⟩ : ∃ x, x = bs.getD k 0 := ⟨_, rfl⟩
      rw [← hx] at c1
      have hx2 : x < 256 := by rw [hx]; exact small_at hs k
      have HX := mkHid hx
      clear hx hcc hc
      have hw : wrap64 ((k : Int) + 1) = k + 1 := by have := HL.out; unfold wrap64; omega
      have hAi : (A : Int) < 65521 := by omega
      have hCi : (C : Int) < 65521 := by omega
      go_wp2
      go_roundw
      case rel =>
        refine ⟨k + 1, (A + x) % 65521, (C + (A + x) % 65521) % 65521, by omega, by go_num, by go_num, by go_num, by omega, by omega, ?_, trivial⟩
        show _ = _
        rw [adl_take bs k (by rw [← HN.out]; exact hkn), ← HAC.out, ← HX.out]
        rfl
      case measure => rw [hw]; exact meas hkn
    · have hkk : k = n := by omega
      subst hkk
      have hAi : (A : Int) < 65521 := by omega
      have hCi : (C : Int) < 65521 := by omega
      go_wp2
      go_ret
      refine ⟨ret_int ?_, rfl⟩
      have h := HAC.out
      rw [HN.out, List.take_length] at h
      unfold sumOf
      rw [← h]
      exact or_16 A C (by omega) (by omega)

end Go.Proofs.Ytnldjcjhhenppaa
