/-
  A block of fixed codes.
-/
import Derived.Test.YtdokpimhhkbdbaaDoorUb
import Derived.Deep.LoopGhost
set_option linter.unusedSimpArgs false
set_option linter.unusedVariables false
namespace Go.Proofs.YtdokpimhhkbdbaaDoor.Q
open Go.RowKit

theorem cells2_0 {w : World} {b : Nat} {v u : Value} {t : TypeId} (h : w.heap[b]? = some (.cells #[v, u] t (0, 0))) : w.cell? ⟨b, 0, none⟩ = some v := by simp [World.cell?, h]
theorem cells2_1 {w : World} {b : Nat} {v u : Value} {t : TypeId} (h : w.heap[b]? = some (.cells #[v, u] t (0, 0))) : w.cell? ⟨b, 1, none⟩ = some u := by simp [World.cell?, h]

theorem cod_none {bs out : List Nat} {p : Nat} (hp : p ≤ 8 * bs.length) (h : signAt litsL bs p = none) : codAt bs (8 * bs.length + 1 - p) p out = .error 2 := by
  rw [codAt_step bs p out hp]; unfold codStep; rw [h]
theorem cod_byte {bs out : List Nat} {p i : Nat} (hp : p ≤ 8 * bs.length) (h : signAt litsL bs p = some i) (hi : i < 256) (ho : out.length + 1 ≤ 65536) : codAt bs (8 * bs.length + 1 - p) p out = codAt bs (8 * bs.length + 1 - (p + nth litsL i)) (p + nth litsL i) (out ++ [i]) := by
  rw [codAt_step bs p out hp]; unfold codStep; rw [h]; simp only; rw [if_pos hi, if_neg (by omega)]
theorem cod_full {bs out : List Nat} {p i : Nat} (hp : p ≤ 8 * bs.length) (h : signAt litsL bs p = some i) (hi : i < 256) (ho : 65536 < out.length + 1) : codAt bs (8 * bs.length + 1 - p) p out = .error 5 := by
  rw [codAt_step bs p out hp]; unfold codStep; rw [h]; simp only; rw [if_pos hi, if_pos ho]
theorem cod_end {bs out : List Nat} {p : Nat} (hp : p ≤ 8 * bs.length) (h : signAt litsL bs p = some 256) : codAt bs (8 * bs.length + 1 - p) p out = .ok (p + nth litsL 256, out) := by
  rw [codAt_step bs p out hp]; unfold codStep; rw [h]; rfl
theorem cod_row {bs out : List Nat} {p i : Nat} (hp : p ≤ 8 * bs.length) (h : signAt litsL bs p = some i) (hi : 256 < i) : codAt bs (8 * bs.length + 1 - p) p out = (match rowAt bs (p + nth litsL i) out i with | .error n => .error n | .ok (q, o) => codAt bs (8 * bs.length + 1 - q) q o) := by
  rw [codAt_step bs p out hp]; unfold codStep; rw [h]; simp only; rw [if_neg (by omega), if_neg (by omega)]
  cases rowAt bs (p + nth litsL i) out i with
  | error n => rfl
  | ok r => rfl

theorem sign_lit (c : Cx) (w : World) (pos : Nat) (out : List Nat) (h : Up c w pos false out) :
    Calls Tryd.prog 79 #[.pointer (some ⟨c.ub, 0, none⟩), .pointer (some ⟨c.tl, 0, none⟩)] w fun e w' =>
      (∃ i : Nat, Hid (signAt litsL c.bs pos = some i ∧ i < 256) ∧ (i : Int) < 256 ∧ e = .returned (.int .i64 (i : Nat)) ∧ Hid (Up c w' (pos + nth litsL i) false out)) ∨
      (Hid (signAt litsL c.bs pos = some 256) ∧ e = .returned (.int .i64 256) ∧ Hid (Up c w' (pos + nth litsL 256) false out)) ∨
      (∃ i : Nat, Hid (signAt litsL c.bs pos = some i ∧ 256 < i) ∧ (256 : Int) < i ∧ e = .returned (.int .i64 (i : Nat)) ∧ Hid (Up c w' (pos + nth litsL i) false out)) ∨
      (Hid (signAt litsL c.bs pos = none) ∧ e = Pn 2 ∧ Hid (Fz c w')) := by
  refine (sign_any c w c.tl pos litsL out h h.fz.ok.tl).mono ?_
  rintro e w' (⟨i, h1, h2, h3⟩ | ⟨h1, h2, h3⟩)
  · rcases (show i < 256 ∨ i = 256 ∨ 256 < i by omega) with hi | rfl | hi
    · exact .inl ⟨i, ⟨h1, hi⟩, by omega, h2, h3⟩
    · exact .inr (.inl ⟨h1, h2, h3⟩)
    · exact .inr (.inr (.inl ⟨i, ⟨h1, hi⟩, by omega, h2, h3⟩))
  · exact .inr (.inr (.inr ⟨h1, h2, h3⟩))

theorem row_cases (c : Cx) (w : World) (p s : Nat) (out : List Nat) (h : Up c w p false out) (hs : 257 ≤ s) (ho : out.length ≤ 65536) :
    Calls Tryd.prog 80 #[.pointer (some ⟨c.ub, 0, none⟩), .int .i64 (s : Int), .pointer (some ⟨c.td, 0, none⟩)] w fun e w' =>
      (∃ q o, Hid (rowAt c.bs p out s = .ok (q, o)) ∧ e = .returned (.tuple #[]) ∧ Hid (Up c w' q false o ∧ o.length ≤ 65536)) ∨ (∃ n : Nat, Hid (rowAt c.bs p out s = .error n) ∧ e = Pn n ∧ Hid (Fz c w')) := by
  refine (row_any c w p s out h hs ho).mono ?_
  intro e w' hl
  unfold Left at hl
  cases hr : rowAt c.bs p out s with
  | ok r => obtain ⟨q, o⟩ := r; rw [hr] at hl; exact .inl ⟨q, o, rfl, hl.1, hl.2⟩
  | error n => rw [hr] at hl; exact .inr ⟨n, rfl, hl.1, hl.2⟩

theorem room_cases (c : Cx) (w : World) (pos : Nat) (out : List Nat) (h : Up c w pos false out) (ho : out.length ≤ 65536) :
    Calls Tryd.prog 78 #[.pointer (some ⟨c.ub, 0, none⟩), .int .i64 1] w fun e w' => (∃ v, Hid (out.length + 1 ≤ 65536) ∧ e = .returned (.tuple #[]) ∧ w'.cell? ⟨c.ub, 1, none⟩ = some v ∧ w'.frozen? ⟨c.ub, 1, none⟩ = false ∧ Hid (Up c w' pos false out ∧ w'.heap[c.ub]? = some (.cells (c.cells v) 59 (0, 0)) ∧ w'.ownsRow c.w0.heap.size 5 1 v out.length (out.map byteV))) ∨ (Hid (65536 < out.length + 1) ∧ e = Pn 5 ∧ Hid (Fz c w')) := by
  refine (room_any c w pos 1 out h (by decide) ho).mono ?_
  rintro e w' (⟨h1, h2, h3⟩ | h3)
  · obtain ⟨v, a1, a2⟩ := h3.u
    exact .inl ⟨v, h1, h2, cells4_1 c a1, free_at a1 1, h3, a1, a2⟩
  · exact .inr h3

set_option maxRecDepth 100000 in
set_option maxHeartbeats 8000000 in
theorem coded_any (c : Cx) (w : World) (p : Nat) (out : List Nat) (h : Up c w p false out) (ho : out.length ≤ 65536) :
    Calls Tryd.prog 66 #[.pointer (some ⟨c.ub, 0, none⟩), .agg #[.pointer (some ⟨c.tl, 0, none⟩), .pointer (some ⟨c.td, 0, none⟩)]] w fun e w' => Left c (codAt c.bs (8 * c.bs.length + 1 - p) p out) e w' := by
  obtain ⟨R, hR⟩ : ∃ R, R = codAt c.bs (8 * c.bs.length + 1 - p) p out := ⟨_, rfl⟩
  rw [← hR]
  have HU := mkHid h
  have HO := mkHid ho
  have HR := mkHid hR
  clear h ho hR
  obtain ⟨q, hq⟩ : ∃ q, q = w.heap.size := ⟨_, rfl⟩
  obtain ⟨d, hd⟩ : ∃ d, d = c.add (q, #[.pointer (some ⟨c.tl, 0, none⟩), .pointer (some ⟨c.td, 0, none⟩)], 56) := ⟨_, rfl⟩
  have HQ0 : Hid (Up d (w.alloc (.cells #[.pointer (some ⟨c.tl, 0, none⟩), .pointer (some ⟨c.td, 0, none⟩)] 56)) p false out) := by
    rw [hd]
    exact (HU.out.alloc _).add _ ⟨(by decide : (56 : Nat) ≠ 5), (by decide : (56 : Nat) ≠ 59), (by decide : (56 : Nat) ≠ 79), by rw [hq]; exact heap_alloc_new w _⟩
  have hL : Hid (∀ r e w', Left d r e w' → Left c r e w') := fun r e w' h => by rw [hd] at h; exact h.less
  have hseen : Hid (∀ wx p out, Up d wx p false out → wx.cell? ⟨q, 0, none⟩ = some (.pointer (some ⟨d.tl, 0, none⟩)) ∧ wx.cell? ⟨q, 1, none⟩ = some (.pointer (some ⟨d.td, 0, none⟩))) := fun wx p out h => by
    rw [hd] at h ⊢
    exact ⟨cells2_0 h.fz.seen, cells2_1 h.fz.seen⟩
  have e1 : c.tl = d.tl := by rw [hd]; rfl
  have e2 : c.td = d.td := by rw [hd]; rfl
  have e3 : c.ub = d.ub := by rw [hd]; rfl
  have e4 : c.bs = d.bs := by rw [hd]; rfl
  rw [e1, e2] at HQ0 ⊢
  rw [e3]
  rw [e4] at HR
  have H5 : Hid (Exit.ret = Exit.ret) := rfl
  clear hd e1 e2 e3 e4
  go_enter Tryd.func66, Tryd.ntmps66
  go_wp2
  rw [← hq]
  generalize w.alloc (.cells #[.pointer (some ⟨d.tl, 0, none⟩), .pointer (some ⟨d.td, 0, none⟩)] 56) = w1 at HQ0 ⊢
  clear hq HU
  have hsg := mkHid (fun w pos out h => sign_lit d w pos out h)
  have hrw := mkHid (fun w p s out h hs ho => row_cases d w p s out h hs ho)
  have hrm := mkHid (fun w pos out h ho => room_cases d w pos out h ho)
  go_loopg [4] (8 * d.bs.length - p) (fun k s wr => ∃ (p : Nat) (out : List Nat), Hid (k = 8 * d.bs.length - p) ∧ Hid (Up d wr p false out) ∧ Hid (out.length ≤ 65536) ∧ Hid (R = codAt d.bs (8 * d.bs.length + 1 - p) p out))
  case atStart => exact ⟨p, out, rfl, HQ0, HO, HR⟩
  case round =>
    clear HQ0 HO HR
    obtain ⟨p, out, HK, HU, HO, HR⟩ := hrel
    have c0 := (hseen.out _ _ _ HU.out).1
    have hn1 : out.length + 1 ≤ 140737488355328 := by have := HO.out; omega
    go_wp2_with (first
      | (go_at_call 79; (with_reducible refine (hsg.out _ _ _ HU.out).mono ?_)
         rintro e w2 (⟨i, H1, hi, rfl, HV⟩ | ⟨H1, rfl, HV⟩ | ⟨i, H1, hi, rfl, HV⟩ | ⟨H1, rfl, HV⟩)
         all_goals clear c0
         all_goals try have c1 := (hseen.out _ _ _ HV.out).2)
      | (go_at_call 78; (with_reducible refine (hrm.out _ _ _ HV.out HO.out).mono ?_)
         rintro e w3 (⟨v, H2, rfl, d1, d2, HW⟩ | ⟨H2, rfl, HW⟩)
         all_goals try clear c1)
      | (go_at_call 80; (with_reducible refine (hrw.out _ _ _ _ HV.out (by have := H1.out.2; omega) HO.out).mono ?_)
         rintro e w3 (⟨p2, o2, H2, rfl, HW⟩ | ⟨n, H2, rfl, HW⟩))
      | (at_builtin; refine Lz.wpList_pushB rfl (.tmp 23) (.tmp 26) rfl d.w0.heap.size _ out.length _ rfl HW.out.2.2 _ w3.heap.size rfl rfl hn1 HW.out.1.fz.size ?_
         intro g5 cap5 w5 ho5 hf5 hat5 hb5
         have HO5 := mkHid ho5
         have HF5 := mkHid hf5
         have hu5 : w5.heap[d.ub]? = some (.cells (d.cells v) 59 (0, 0)) := by rw [hf5.block d.ub (lt_of_block HW.out.2.1) (by simp) (owns_ne HW.out.2.2 HW.out.2.1 (by decide)).symm]; exact HW.out.2.1
         have d3 := cells4_1 d hu5
         have d4 := free_at hu5 1
         clear ho5 hf5 hat5 hb5 hu5 d1 d2))
    · have hsp := signAt_pos H1.out.1
      have hs1 := hsp.1
      have hs2 := hsp.2.1
      clear hsp
      go_roundg (8 * d.bs.length - (p + nth litsL i))
      case measure => have := HK.out; have := HU.out.le; omega
      case rel =>
        refine ⟨p + nth litsL i, out ++ [i], rfl, HW.out.1.push HW.out.2.1 HW.out.2.2 rfl HO5.out HF5.out, ?_, ?_⟩
        · show _ ≤ _; rw [List.length_append]; exact H2.out
        · show _ = _; rw [HR.out]; exact cod_byte HU.out.le H1.out.1 H1.out.2 H2.out
    · refine ⟨rfl, hL.out _ _ _ ?_⟩
      rw [HR.out, cod_full HU.out.le H1.out.1 H1.out.2 H2.out]
      exact ⟨rfl, HW.out⟩
    · go_end0
      refine hL.out _ _ _ ?_
      rw [HR.out, cod_end HU.out.le H1.out]
      exact ⟨rfl, HV.out, HO.out⟩
    · have hsp := signAt_pos H1.out.1
      have hs1 := hsp.1
      have hs2 := hsp.2.1
      have hs3 := rowAt_le H2.out
      clear hsp
      go_roundg (8 * d.bs.length - p2)
      case measure => have := HK.out; have := HU.out.le; omega
      case rel =>
        refine ⟨p2, o2, rfl, HW.out.1, HW.out.2, ?_⟩
        show _ = _
        rw [HR.out, cod_row HU.out.le H1.out.1 H1.out.2, H2.out]
    · refine ⟨rfl, hL.out _ _ _ ?_⟩
      rw [HR.out, cod_row HU.out.le H1.out.1 H1.out.2, H2.out]
      exact ⟨rfl, HW.out⟩
    · refine ⟨rfl, hL.out _ _ _ ?_⟩
      rw [HR.out, cod_none HU.out.le H1.out]
      exact ⟨rfl, HV.out⟩
end Go.Proofs.YtdokpimhhkbdbaaDoor.Q
