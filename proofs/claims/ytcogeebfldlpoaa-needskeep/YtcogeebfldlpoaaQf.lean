/-
  container/heap's Push and Pop walked over the queue.
-/
import Derived.Test.YtcogeebfldlpoaaQe
set_option linter.unusedSimpArgs false
set_option linter.unusedVariables false
namespace Go.Proofs.Ytcogeebfldlpoaa
open Go.RowKit Go.Proofs.NeedsHeap

/-- A queue whose texts are a heap. -/
def PushP (B : Nat) (w : World) (q : Nat) (v : Value) (xs : List Txt) (x : Txt) (e : Ending) (w' : World) : Prop :=
  e = .returned (.tuple #[]) ∧ ∃ v' ys, QuTo B w q v w' v' ys ∧ ys.Perm (x :: xs) ∧ HeapTo ys ys.length

set_option maxHeartbeats 2000000 in
theorem push_walk (B : Nat) (w : World) (q : Nat) (v : Value) (xs : List Txt) (h : Qu B w q v xs) (hh : HeapTo xs xs.length) (hB : B ≤ w.heap.size) (hl : xs.length < 1000000) (x : ByteArray) :
    Calls Try.prog 26 #[.iface 48 (.pointer (some ⟨q, 0, none⟩)), .iface 9 (.string x)] w (PushP B w q v xs x.data.toList) := by
  have C1 := mkHid (qpush_walk B w q v xs h hB (by omega) x)
  have HH := mkHid hh
  have HL := mkHid hl
  have MP := meth_push ⟨q, 0, none⟩ w
  clear hh hl h hB
  go_enter Try.func26, Try.ntmps26
  go_upto_region 1 with (first | (go_at_call 77; (with_reducible refine C1.out.mono ?_); rintro e w1 ⟨rfl, v1, h1⟩; have H1 := mkHid h1; clear h1))
  have hlen : (xs ++ [x.data.toList]).length = xs.length + 1 := by simp
  obtain ⟨b, c, rfl, _, _, _, _⟩ := H1.out.qu.form (by omega)
  have ML := meth_len H1.out.qu.cell
  have CU := mkHid (up_walk B w1 q _ _ H1.out.qu xs.length (by omega) (by have := HL.out; omega) (by rw [hlen]; exact up_start HH.out))
  obtain ⟨m, hm⟩ : ∃ m, m = xs.length := ⟨_, rfl⟩
  obtain ⟨m1, hm1⟩ : ∃ m1, m1 = (xs ++ [x.data.toList]).length := ⟨_, rfl⟩
  have CL := mkHid (len_walk w1 (some ⟨b, 0, none⟩) m1 c)
  rw [← hm] at CU
  rw [← hm1] at CU H1 ML
  have hw : wrap64 ((m1 : Int) - 1) = (m : Int) := by have := HL.out; unfold wrap64; omega
  clear hm hm1 hlen
  go_wp2_with (first
    | (go_at_call 27; (with_reducible refine CL.out.mono ?_); rintro e w2 ⟨rfl, rfl⟩)
    | (go_at_call 33; (with_reducible refine CU.out.mono ?_); rintro e w2 ⟨rfl, h2⟩; have H2 := mkHid h2; clear h2))
  go_end0
  obtain ⟨ys, y1, y2, y3⟩ := H2.out
  exact ⟨rfl, _, ys, H1.out.trans y1, y2.trans (List.perm_append_comm.trans (by simp)), y3⟩

/-- What Pop of heap leaves: the least one comes out. -/
def PopP (B : Nat) (w : World) (q : Nat) (v : Value) (xs : List Txt) (e : Ending) (w' : World) : Prop :=
  e = .returned (.iface 9 (encStr (g xs 0))) ∧ ∃ v' ys, QuTo B w q v w' v' ys ∧ (g xs 0 :: ys).Perm xs ∧ HeapTo ys ys.length

theorem pop_done {xs zs : List Txt} {n : Nat} (hn : xs.length = n + 1) (hp : zs.Perm (sw xs 0 n)) (hh : HeapTo zs n) (hf : ∀ k, n ≤ k → g zs k = g (sw xs 0 n) k) : g zs n = g xs 0 ∧ (g xs 0 :: zs.take n).Perm xs ∧ HeapTo (zs.take n) (zs.take n).length := by
  have hz : zs.length = n + 1 := by rw [hp.length_eq, sw_len, hn]
  have e : g zs n = g xs 0 := by rw [hf n (by omega), g_sw (by omega) (by omega), if_pos rfl]
  refine ⟨e, ?_, ?_⟩
  · rw [← e]
    refine List.Perm.trans ?_ (hp.trans (sw_perm (by omega) (by omega)))
    conv => rhs; rw [pop_lists hz]
    exact (List.perm_append_comm (l₁ := [g zs n]) (l₂ := zs.take n)).symm.symm
  · have hl : (zs.take n).length = n := by simp; omega
    rw [hl]
    exact heap_congr hh fun k hk => by simp [g, List.getElem?_take, hk]

set_option maxHeartbeats 4000000 in
theorem pop_walk (B : Nat) (w : World) (q : Nat) (v : Value) (xs : List Txt) (h : Qu B w q v xs) (hh : HeapTo xs xs.length) (h0 : 0 < xs.length) (hl : xs.length ≤ 1000000) :
    Calls Try.prog 28 #[.iface 48 (.pointer (some ⟨q, 0, none⟩))] w (PopP B w q v xs) := by
  obtain ⟨n, hn⟩ : ∃ n, xs.length = n + 1 := ⟨xs.length - 1, by omega⟩
  obtain ⟨b, c, hv, _, _, _, _⟩ := h.form (by omega)
  have ML := meth_len h.cell
  have MS := meth_swap h.cell
  have CL := mkHid (len_walk w (some ⟨b, 0, none⟩) (n + 1) c)
  have CS : Hid (Calls Try.prog 79 #[v, .int .i64 0, .int .i64 (n : Int)] w fun e w' => e = .returned (.tuple #[]) ∧ QuTo B w q v w' v (sw xs 0 n)) := mkHid (swap_qu B w q v xs h 0 n (by omega) (by omega) hl)
  have hv1 : v = .slice (some ⟨b, 0, none⟩) (n + 1) c := by rw [hv, hn]
  rw [← hv1] at CL
  have CD : Hid (∀ w1, QuTo B w q v w1 v (sw xs 0 n) → Calls Try.prog 34 #[.iface 48 (.pointer (some ⟨q, 0, none⟩)), .int .i64 0, .int .i64 (n : Int)] w1 (DnP B w1 q v (sw xs 0 n) n)) :=
    fun w1 k1 => down_walk B w1 q v _ k1.qu n (by rw [sw_len]; omega) (by rw [sw_len]; exact hl) (dn_start (by omega) (by rw [← hn]; exact hh))
  have CP : Hid (∀ w2 zs, zs.Perm (sw xs 0 n) → Qu B w2 q v zs → Calls Try.prog 76 #[.pointer (some ⟨q, 0, none⟩)] w2 fun e w' => e = .returned (.iface 9 (encStr (g zs n))) ∧ ∃ v', QuTo B w2 q v w' v' (zs.take n)) :=
    fun w2 zs kp kq => qpop_walk B w2 q v zs kq n (by rw [kp.length_eq, sw_len, hn]) (by rw [kp.length_eq, sw_len]; exact hl)
  have MP := fun w2 => meth_pop ⟨q, 0, none⟩ w2
  have hw : (n : Int) ≤ 1000000 := by omega
  have HN := mkHid hn
  clear hv1 hv hn hh h0 hl h
  go_enter Try.func28, Try.ntmps28
  go_wp2_with (first
    | (go_at_call 27; (with_reducible refine CL.out.mono ?_); rintro e w2 ⟨rfl, rfl⟩)
    | (go_at_call 79; (with_reducible refine CS.out.mono ?_); rintro e w1 ⟨rfl, h1⟩; have H1 := mkHid h1; clear h1)
    | (go_at_call 34; (with_reducible refine (CD.out w1 H1.out).mono ?_); rintro e w2 ⟨bb, zs, rfl, h1, h2, h3, h4⟩; have H2 := mkHid h1; have Z2 := mkHid h2; have Z3 := mkHid h3; have Z4 := mkHid h4; clear h1 h2 h3 h4)
    | (go_at_call 76; (with_reducible refine (CP.out w2 zs (Z2.out) H2.out.qu).mono ?_); rintro e w3 ⟨rfl, v3, h1⟩; have H3 := mkHid h1; clear h1))
  go_ret
  obtain ⟨e1, e2, e3⟩ := pop_done HN.out Z2.out Z3.out Z4.out
  refine ⟨?_, v3, _, (H1.out.trans H2.out).trans H3.out, e2, e3⟩
  rw [e1]; rfl
end Go.Proofs.Ytcogeebfldlpoaa
