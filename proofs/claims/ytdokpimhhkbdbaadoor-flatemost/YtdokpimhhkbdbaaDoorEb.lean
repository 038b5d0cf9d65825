/-
  The document's Stored of two blocks.
-/
import Derived.Test.YtdokpimhhkbdbaaDoorEa
set_option linter.unusedSimpArgs false
set_option linter.unusedVariables false
namespace Go.Proofs.YtdokpimhhkbdbaaDoor
open Go.RowKit

set_option maxRecDepth 100000 in
set_option maxHeartbeats 4000000 in
theorem dstored2 (w : World) (v : Value) (b : List Nat) (hv : Lies w v b) (h1 : 65535 < b.length) (h2 : b.length ≤ 131070) :
    Calls Tryd.prog 28 #[v] w fun e w' => ∃ v', e = .returned v' ∧ Hid (w'.ownsRow w.heap.size 5 1 v' (sto2 b).length ((sto2 b).map byteV)) ∧ Hid (Below w.heap.size w w') := by
  obtain ⟨ad, cap, rfl, -⟩ := hv.at (by omega)
  have hcap : b.length ≤ cap := by obtain ⟨_, _, e, h, _⟩ := hv; cases e; exact h
  have t1 : Lies w (.slice (some ad) 65535 cap) (b.take 65535) := hv.take 65535 (by omega)
  have t2 := lies_drop 65535 hv (by decide) (by omega)
  have l1 : (b.take 65535).length = 65535 := by rw [List.length_take]; omega
  have l2 : (b.drop 65535).length = b.length - 65535 := List.length_drop
  obtain ⟨n, hn⟩ : ∃ n, n = b.length := ⟨_, rfl⟩
  obtain ⟨m, hm⟩ : ∃ m, m = n - 65535 := ⟨_, rfl⟩
  obtain ⟨c2, hc2'⟩ : ∃ c2, c2 = cap - 65535 := ⟨_, rfl⟩
  have HZ : Hid (sto2 b = Q.headL 65535 false ++ b.take 65535 ++ Q.headL m true ++ b.drop 65535) := by show _ = _; unfold sto2; rw [if_neg (by omega), hm, hn]
  rw [← hn, ← hm, ← hc2'] at t2
  rw [← hn, ← hm] at l2
  rw [← hn] at h1 h2 hcap ⊢
  have HM := Q.mkHid hm
  have HC := Q.mkHid hc2'
  have d1 : (65535 : Int) < (n : Int) := by omega
  have M1 : Hid ((m : Int) ≤ 65535 ∧ m ≤ 65535 ∧ 0 < m ∧ (m : Int) ≤ (c2 : Int)) := ⟨by omega, by omega, by omega, by omega⟩
  have T1 := Q.mkHid t1
  have T2 := Q.mkHid t2
  have L1 := Q.mkHid l1
  have L2 := Q.mkHid l2
  have HD := Q.mkHid (hd5_lies w 65535 false 0 rfl (Nat.le_refl _))
  have HA : Hid (Below w.heap.size w (w.alloc (.cells (hd5 65535 0) 5))) := (Below.refl _ w).alloc (Nat.le_refl _) _
  have hnil : Hid ((w.alloc (.cells (hd5 65535 0) 5)).ownsRow w.heap.size 5 1 (.slice none 0 0) 0 []) := World.ownsRow_nil _ _ _ _
  generalize sto2 b = Z at HZ ⊢
  have hc4 : ¬ cap = 65535 := by omega
  have hc1 : (65535 : Int) ≤ (cap : Int) := by omega
  have hc2 : (n : Int) ≤ (cap : Int) := by omega
  have hc3 : (65535 : Int) ≤ (n : Int) := by omega
  have hne : ((65535 : Int) == (n : Int)) = false := by simp; omega
  clear t1 t2 l1 l2 hv hn hm hc2'
  go_enter Tryd.func28, Tryd.ntmps28
  go_wp2
  refine wp_loop_rounds 2 ?_
  rw [rounds_succ]
  go_wp2_with (first
    | (at_builtin; refine Q.wpList_appL rfl (.tmp 13) (.tmp 27) rfl w.heap.size _ _ _ rfl hnil.out _ (Q.headL 65535 false) rfl HD.out (by simp [Q.headL]) HA.out.size ?_
       intro v1 w1 o1 b1 _
       have O1 := Q.mkHid o1
       have B1 := Q.mkHid (HA.out.trans b1)
       have V1 := Q.mkHid (T1.out.old (HA.out.trans b1))
       clear o1 b1)
    | (at_builtin; refine Q.wpList_appL rfl (.tmp 29) (.tmp 32) rfl w.heap.size _ _ _ rfl O1.out _ (b.take 65535) rfl V1.out (by rw [L1.out]; decide) B1.out.size ?_
       intro v2 w2 o2 b2 _
       have O2 := Q.mkHid o2
       have B2 := Q.mkHid (B1.out.trans b2)
       have V2 := Q.mkHid (T2.out.old (B1.out.trans b2))
       clear o2 b2))
  rw [← HM.out, ← HC.out]
  obtain ⟨hm1, hm2, hm3, hm4⟩ := M1.out
  have X2 : Hid (w2.ownsRow w.heap.size 5 1 v2 65540 ((Q.headL 65535 false ++ b.take 65535).map byteV)) := by
    have h := O2.out
    rw [L1.out] at h
    show World.ownsRow _ _ _ _ _ _ _
    rw [List.map_append]
    simpa [Q.headL] using h
  have HL := Q.mkHid (hd5_lies w2 m true 1 rfl hm2)
  have HA2 : Hid (Below w2.heap.size w2 (w2.alloc (.cells (hd5 m 1) 5))) := (Below.refl _ w2).alloc (Nat.le_refl _) _
  have X3 : Hid ((w2.alloc (.cells (hd5 m 1) 5)).ownsRow w.heap.size 5 1 v2 65540 ((Q.headL 65535 false ++ b.take 65535).map byteV)) := X2.out.alloc _
  have hB3 : Hid (w.heap.size ≤ (w2.alloc (.cells (hd5 m 1) 5)).heap.size) := Nat.le_trans B2.out.size HA2.out.size
  have HCS : Hid (m = c2 ∨ ¬ c2 = m) := by show _ ∨ _; omega
  clear d1 hc4 hc1 hc2 hc3 hne T1 V1 O1 O2 B1 M1 HD HA hnil h1 h2 hcap
  rw [rounds_succ]
  rcases HCS.out with hcn | hcn
  all_goals
    try subst hcn
    go_wp2_with (first
      | (at_builtin; refine Q.wpList_appL rfl (.tmp 13) (.tmp 27) rfl w.heap.size _ _ _ rfl X3.out _ (Q.headL m true) rfl HL.out (by simp [Q.headL]) hB3.out ?_
         intro v3 w3 o3 b3 _
         have O3 := Q.mkHid o3
         have B3 := Q.mkHid ((B2.out.trans (HA2.out.mono B2.out.size)).trans b3)
         have V3 := Q.mkHid (T2.out.old B3.out)
         clear o3 b3)
      | (at_builtin; refine Q.wpList_appL rfl (.tmp 29) (.tmp 32) rfl w.heap.size _ _ _ rfl O3.out _ (b.drop 65535) rfl V3.out (by rw [L2.out]; simp [Q.headL]; omega) B3.out.size ?_
         intro v4 w4 o4 b4 _
         have O4 := Q.mkHid o4
         have B4 := Q.mkHid (B3.out.trans b4)
         clear o4 b4))
    go_ret
    refine ⟨v4, rfl, ?_, B4.out⟩
    have h := O4.out
    show World.ownsRow _ _ _ _ _ _ _
    have e : Z.length = 65540 + (Q.headL m true).length + (b.drop 65535).length := by rw [HZ.out, List.length_append, List.length_append, List.length_append, L1.out]; rfl
    rw [e, HZ.out, List.map_append, List.map_append]
    exact h

/-- The document's Stored, of at most 131070 bytes. -/
theorem dstored_any (w : World) (v : Value) (b : List Nat) (hv : Lies w v b) (h2 : b.length ≤ 131070) :
    Calls Tryd.prog 28 #[v] w fun e w' => ∃ v', e = .returned v' ∧ Hid (w'.ownsRow w.heap.size 5 1 v' (sto2 b).length ((sto2 b).map byteV)) ∧ Hid (Below w.heap.size w w') := by
  by_cases h : b.length ≤ 65535
  · rw [sto2_low b h]; exact dstored1 w v b hv h
  · exact dstored2 w v b hv (by omega) h2

end Go.Proofs.YtdokpimhhkbdbaaDoor
