/-
  The document's Align; Unpack where it is too much.
-/
import Derived.Test.YtdokpimhhkbdbaaDoorBi
import Derived.Test.YtdokpimhhkbdbaaDoorVc
set_option linter.unusedSimpArgs false
set_option linter.unusedVariables false
namespace Go.Proofs.YtdokpimhhkbdbaaDoor
open Go.RowKit

theorem unp_lim (bs : List Nat) (h : Q.unp bs = .error 5) (hs : Small bs) (hl : bs.length ≤ 140737488355328) : Hid (∀ w v, Lies w v bs → Calls Tryd.prog 8 #[v] w fun e w' => e = .returned (.tuple #[.slice none 0 0, .int .i64 5]) ∧ Hid (Below w.heap.size w w')) := by
  intro w v hv
  refine (Q.unpack_any w v bs hv hs hl (by rw [h]; intro e; cases e)).mono ?_
  rintro e w' ⟨hu, hb⟩
  unfold Q.Unpacked at hu
  rw [h] at hu
  exact ⟨hu, hb⟩

theorem bit0 : bits .and .i64 0 1 = ((0 : Nat) : Int) := by decide

/-- The number that stands in a cell. -/
def numAt (w : World) (a : Addr) : Nat := match w.cell? a with
  | some (.int _ z) => z.toNat
  | _ => 0

theorem numAt_of {w : World} {a : Addr} {k : IntKind} {t : Nat} (h : w.cell? a = some (.int k (t : Int))) : numAt w a = t := by
  unfold numAt
  rw [h]
  exact Int.toNat_natCast t

theorem Dv.num {p : Nat} {w : World} {v : Value} {N t : Nat} (h : Dv p w v N t) : numAt w ⟨p, 1, none⟩ = t := by
  obtain ⟨bs, hp, _⟩ := h
  exact numAt_of (cell3_1 hp)

set_option maxHeartbeats 2000000 in
theorem docalign_walk (p : Nat) (w : World) (v : Value) (N t : Nat) (h : Dv p w v N t) (ht : t < 900000) :
    Calls Tryd.prog 13 #[.pointer (some ⟨p, 0, none⟩)] w fun e w' => e = .returned (.tuple #[]) ∧ ∃ v', Dv p w' v' N ((t + 7) / 8 * 8) ∧ Kin w v v' ∧ Fr (some p) v.ownBlock w w' := by
  obtain ⟨T, hT⟩ : ∃ T, T = (t + 7) / 8 * 8 := ⟨_, rfl⟩
  rw [← hT]
  have HT := Q.mkHid hT
  have h0 : Hid (t ≤ T ∧ T ≤ t + 7) := ⟨by omega, by omega⟩
  have HTt := Q.mkHid ht
  clear hT ht
  go_enter Tryd.func13, Tryd.ntmps13
  go_wp2
  go_loopw [] (fun wr => ∃ (k : Nat) (v1 : Value), Hid (t ≤ k ∧ k ≤ T) ∧ Hid (Dv p wr v1 N k) ∧ Hid (Kin w v v1) ∧ Hid (Fr (some p) v.ownBlock w wr)) (fun wr => T - numAt wr ⟨p, 1, none⟩)
  case atStart => exact ⟨t, v, ⟨Nat.le_refl _, h0.out.1⟩, h, .inl rfl, Fr.refl _ _ _⟩
  case round =>
    obtain ⟨k, v1, HK, HD, HKi, HF⟩ := hrel
    have c1 : wr.cell? ⟨p, 1, none⟩ = some (.int .i64 (k : Int)) := by obtain ⟨bs, hp, _⟩ := HD.out; exact cell3_1 hp
    obtain ⟨s, hs⟩ : ∃ s, s = k % 8 := ⟨_, rfl⟩
    have hrem : (k : Int).tmod 8 = (s : Int) := by rw [Int.tmod_eq_emod_of_nonneg (by omega)]; omega
    by_cases hz : s = 0
    · have d : ((s : Int) != 0) = false := by simp; omega
      have e : Hid (k = T) := by show _ = _; have := HK.out; have := HT.out; have := h0.out; omega
      clear hs h
      go_wp2
      go_end0
      have e' := e.out
      subst e'
      exact ⟨rfl, v1, HD.out, HKi.out, HF.out⟩
    · have d : ((s : Int) != 0) = true := by simp; omega
      have e : Hid (k < T) := by show _ < _; have := HK.out; have := HT.out; have := h0.out; omega
      have hadd : Hid (Calls Tryd.prog 34 #[.pointer (some ⟨p, 0, none⟩), .int .i64 0] wr fun e w' => e = .returned (.tuple #[]) ∧ ∃ v', Dv p w' v' N (k + 1) ∧ Kin wr v1 v' ∧ Fr (some p) v1.ownBlock wr w') := by
        have := bit_fr p wr v1 N k 0 0 HD.out bit0 (by decide) (by have := e.out; have := h0.out; have := HTt.out; omega)
        simp only [Nat.zero_mul, Nat.add_zero] at this
        exact this
      clear hs h hz
      go_wp2_with (first | (go_at_call 34; (with_reducible refine hadd.out.mono ?_); rintro e w' ⟨rfl, v2, hw2, hk2, hb2⟩))
      go_roundw
      case rel => exact ⟨k + 1, v2, ⟨Nat.le_succ_of_le HK.out.1, e.out⟩, hw2, HKi.out.trans HF.out.size hk2, HF.out.trans hb2 HKi.out⟩
      case measure =>
        rw [hw2.num, HD.out.num]
        exact Nat.sub_succ_lt_self _ _ e.out

theorem Gx.align {p : Nat} {w3 w : World} {S : Nat × Nat} (h : Gx p w3 w S) (hT : S.2 < 900000) :
    Calls Tryd.prog 13 #[.pointer (some ⟨p, 0, none⟩)] w fun e w' => e = .returned (.tuple #[]) ∧ Gx p w3 w' (S.1, (S.2 + 7) / 8 * 8) ∧ Kp w w' := by
  obtain ⟨v, hv, hj⟩ := h.wr
  refine (docalign_walk p w v S.1 S.2 hv hT).mono ?_
  rintro e w' ⟨rfl, v', hv', hkin, hf⟩
  exact ⟨rfl, h.turn (S' := (S.1, (S.2 + 7) / 8 * 8)) hv hj hv' hkin hf⟩

end Go.Proofs.YtdokpimhhkbdbaaDoor
