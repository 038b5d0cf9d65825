/-
  Check walked.
-/
import Derived.Test.YtfkfaaifchafjaaDoorCe
import Derived.Test.YtfkfaaifchafjaaDoorCf
set_option linter.unusedSimpArgs false
set_option linter.unusedVariables false
namespace Go.Proofs.YtfkfaaifchafjaaDoor
open Go.RowKit

theorem size_list (t : ByteArray) : t.size = t.data.toList.length := (Array.length_toList).symm

theorem counts_walk (tg : Bool) (w : World) : Calls Tryd.prog 30 #[.bool tg] w fun e w' => e = .returned (.tuple #[.int .i64 (if tg then 0 else 1), .int .i64 (if tg then 0 else 40)]) ∧ w' = w := by
  cases tg
  all_goals
    go_enter Tryd.func30, Tryd.ntmps30
    go_wp2
    go_ret2
    exact ⟨rfl, rfl⟩

theorem take_lies {w : World} {bo : Option Addr} {m cap : Nat} {chs : List Chg} (h : LiesC w (.slice bo m cap) chs) (k : Nat) (hk : k ≤ chs.length) : LiesC w (.slice bo k cap) (chs.take k) := by
  obtain ⟨h0, ao, cap', h1, h2, h3, h4⟩ := h
  cases h1
  have hl : (chs.take k).length = k := by simp; omega
  refine ⟨by rw [cellsC_len], bo, cap, by rw [hl], by omega, h3, fun a ha j u hu => ?_⟩
  refine h4 a ha j u ?_
  have hj : j < 6 * k := by
    have := (List.getElem?_eq_some_iff.1 hu).1
    rw [cellsC_len, hl] at this; exact this
  rw [← hu]
  have e : cellsC chs = cellsC (chs.take k) ++ cellsC (chs.drop k) := by
    unfold cellsC; rw [← List.flatMap_append, List.take_append_drop]
  rw [e, List.getElem?_append_left (by rw [cellsC_len, hl]; exact hj)]

/-- What is small enough. -/
structure Small (p : Pat) : Prop where
  nm : p.1.length ≤ 1000000
  n1 : p.2.2.1.length ≤ 1000000
  n2 : ∀ x ∈ p.2.2.1, x.length ≤ 1000000
  c1 : p.2.2.2.length ≤ 1000000
  c2 : ∀ c ∈ p.2.2.2, c.2.2.2.length ≤ 1000000 ∧ c.2.1.1.length ≤ 1000000 ∧ c.2.2.1.1.length ≤ 1000000

theorem heap_set_ne (w : World) (c : Nat) (o : Nat) (u : Value) {b : Nat} {x : Obj} (h : b ≠ c) (hb : w.heap[b]? = some x) : (w.setCell ⟨c, o, none⟩ u).heap[b]? = some x := by
  rw [Below.heap_setCell _ _ _ _ h]; exact hb

/-- Check's state in its loop. -/
structure CS (w wr : World) (nm : ByteArray) (tg : Bool) (nv cv : Value) : Prop where
  p : wr.heap[w.heap.size]? = some (.cells #[.string nm, .bool tg, nv, cv] 26 (0, 0))
  a : ∃ X, wr.heap[w.heap.size + 1]? = some (.cells #[.string nm, .bool tg, nv, X] 26 (0, 0))
  old : Old w wr

theorem chgsOk_no {name : Txt} {needs : List Txt} {chs : List Chg} {k : Nat} (hk : k < chs.length) (h : chgOk name needs (chs.take k) (chs.getD k chg0) = false) : chgsOk name needs chs = false := by
  unfold chgsOk
  rw [List.all_eq_false]
  exact ⟨k, by simpa using hk, by rw [h]; simp⟩

theorem chgsOk_yes {name : Txt} {needs : List Txt} {chs : List Chg} (h : ∀ k, k < chs.length → chgOk name needs (chs.take k) (chs.getD k chg0) = true) : chgsOk name needs chs = true := by
  unfold chgsOk
  rw [List.all_eq_true]
  intro j hj
  exact h j (by simpa using hj)

theorem encC_let (k : Int) (f : ByteArray) (fn : Int) (l : ByteArray) (ln : Int) (t : ByteArray) : (encC (k, (f.data.toList, fn), (l.data.toList, ln), t.data.toList)).toArray = #[.int .i64 k, .string f, .int .i64 fn, .string l, .int .i64 ln, .string t] := rfl

set_option maxRecDepth 20000 in
set_option maxHeartbeats 4000000 in
/-- The loop over the changes: whatever stands ahead of it is right. -/
theorem check_loop (w : World) (nm : ByteArray) (tg : Bool) (nv cv : Value) (needs : List Txt) (chs : List Chg) (hm : MF w nm tg nv cv needs chs) (hs : ∀ c ∈ chs, c.2.2.2.length ≤ 1000000 ∧ c.2.1.1.length ≤ 1000000 ∧ c.2.2.1.1.length ≤ 1000000)
    (hr : rightL nm.data.toList = true) (hn : needsOk nm.data.toList needs = true) (hnm : nm.size ≤ 1000000) (hns : ∀ x ∈ needs, x.length ≤ 1000000) (hc : countOk tg chs.length = true) :
    Calls Tryd.prog 15 #[.agg #[.string nm, .bool tg, nv, cv]] w fun e w' => e = .returned (.int .i64 (if chgsOk nm.data.toList needs chs then 0 else 1)) ∧ Old w w' := by
  obtain ⟨res, hres⟩ : ∃ res : Int, res = if chgsOk nm.data.toList needs chs then 0 else 1 := ⟨_, rfl⟩
  rw [← hres]
  have HRS := mkHid hres
  clear hres
  have k1 := right_w nm hnm true hr.symm
  have k2 : Hid (∀ w', Old w w' → Calls Tryd.prog 32 #[.string nm, nv] w' fun e w'' => e = .returned (.bool true) ∧ w'' = w') := fun w' h => by
    have := rightNeeds_walk w' nm nv needs (hm.hn.old h) hm.l1 hns
    rw [hn] at this; exact this
  obtain ⟨lo, hi, hlo, hhi, k0⟩ : ∃ lo hi : Int, lo ≤ (chs.length : Int) ∧ (chs.length : Int) ≤ hi ∧ Hid (∀ w, Calls Tryd.prog 30 #[.bool tg] w fun e w' => e = .returned (.tuple #[.int .i64 lo, .int .i64 hi]) ∧ w' = w) := by
    refine ⟨_, _, ?_, ?_, counts_walk tg⟩
    all_goals
      unfold countOk at hc
      cases tg <;> simp at hc ⊢ <;> omega
  have HM := mkHid hm
  have HS := mkHid hs
  obtain ⟨⟨ao, acap, rfl, -⟩, hvv, -, hl2⟩ := hm
  obtain ⟨-, bo, bcap, rfl, -⟩ := hvv
  obtain ⟨m, hM⟩ : ∃ m, m = chs.length := ⟨_, rfl⟩
  rw [← hM] at hl2 HM hlo hhi ⊢
  have HMM := mkHid hM
  have HL2 := mkHid hl2
  clear hl2 hM hs hr hn hns hnm hc
  have HO := mkHid (old1 w (.cells #[.string nm, .bool tg, .slice ao needs.length acap, .slice bo m bcap] 26))
  go_enter Tryd.func15, Tryd.ntmps15
  go_upto_region 5 with (first
    | (go_at_call 30; (with_reducible refine (k0.out _).mono ?_); rintro e w1 ⟨rfl, rfl⟩)
    | (go_at_call 31; (with_reducible refine (k1.out _).mono ?_); rintro e w1 ⟨rfl, rfl⟩)
    | (go_at_call 32; (with_reducible refine (k2.out _ HO.out).mono ?_); rintro e w1 ⟨rfl, rfl⟩))
  obtain ⟨W, hW⟩ : ∃ W, W = (w.alloc (.cells #[.string nm, .bool tg, .slice ao needs.length acap, .slice bo m bcap] 26)).alloc (.cells #[.string nm, .bool tg, .slice ao needs.length acap, .slice bo m bcap] 26) := ⟨_, rfl⟩
  rw [← hW]
  have HC0 : Hid (CS w W nm tg (.slice ao needs.length acap) (.slice bo m bcap)) := by
    subst hW
    exact ⟨h20 _ _ _, ⟨_, h21 _ _ _⟩, old2 _ _ _⟩
  obtain ⟨p0, p1, p2, p3⟩ := cell4 HC0.out.p
  clear hW HO k0 k1 k2 hlo hhi
  go_wp2
  go_loopw [44] (fun i wr => ∃ k : Nat, k ≤ m ∧ i = .int .i64 k ∧ Hid (∀ j, j < k → chgOk nm.data.toList needs (chs.take j) (chs.getD j chg0) = true) ∧ Hid (CS w wr nm tg (.slice ao needs.length acap) (.slice bo m bcap))) (fun i _ => m - (intOf i).toNat)
  case atStart => exact ⟨0, by omega, rfl, (fun j hj => by omega), HC0⟩
  case round =>
    obtain ⟨k, hk, rfl, HA, HC⟩ := hrel
    clear p0 p1 p2 p3 HC0
    by_cases hkm : k < m
    · obtain ⟨b, off, cap', he, hcap, hcc⟩ := HM.out.hv.form (by rw [← HMM.out]; omega)
      obtain rfl : bo = some ⟨b, off, none⟩ := by cases he; rfl
      obtain rfl : cap' = bcap := by cases he; rfl
      have hrg := LiesC.range hcc k (by rw [← HMM.out]; exact hkm)
      obtain ⟨kk, f, fn, l, ln, t, hc⟩ := chg_letters (chs.getD k chg0)
      have ht : t.size ≤ 1000000 := by
        have hk2 : k < chs.length := by rw [← HMM.out]; exact hkm
        have := HS.out (chs.getD k chg0) (by rw [List.getD_eq_getElem?_getD, List.getElem?_eq_getElem hk2]; exact List.getElem_mem hk2)
        rw [hc] at this; rw [size_list]; exact this.1
      obtain ⟨X, hX⟩ := HC.out.a
      have HX := mkHid hX
      obtain ⟨d, hd⟩ : ∃ d, d = chgOk nm.data.toList needs (chs.take k) (chs.getD k chg0) := ⟨_, rfl⟩
      have HMk : MF w nm tg (.slice ao needs.length acap) (.slice (some ⟨b, off, none⟩) k cap') needs (chs.take k) :=
        ⟨HM.out.hn, take_lies HM.out.hv k (by rw [← HMM.out]; omega), HM.out.l1, by have := HL2.out; simp; omega⟩
      have k3 : Hid (∀ w', Old w w' → Calls Tryd.prog 33 #[.agg #[.string nm, .bool tg, .slice ao needs.length acap, .slice (some ⟨b, off, none⟩) k cap'], .agg #[.int .i64 kk, .string f, .int .i64 fn, .string l, .int .i64 ln, .string t]] w' fun e w'' => e = .returned (.bool d) ∧ Old w' w'') := fun w' h => by
        have := mayFollow_any w' nm tg _ _ needs (chs.take k) kk f l t fn ln ht (HMk.old h)
        rw [← hc, ← hd] at this; exact this
      rw [hc] at hrg
      have HR := mkHid (range_old hrg HC.out.old)
      have HD := mkHid hd
      obtain ⟨p0, p1, p2, p3⟩ := cell4 HC.out.p
      have hwk : wrap64 ((k : Int) + 1) = (k : Int) + 1 := by have := HL2.out; unfold wrap64; omega
      have HWK := mkHid hwk
      have hck : (k : Int) ≤ (cap' : Int) := by have := HMM.out; omega
      have hk0 : (k : Int) < (m : Int) := by omega
      have HRES : Hid (d = false → res = 1) := fun e => by
        have := chgsOk_no (name := nm.data.toList) (needs := needs) (by rw [← HMM.out]; exact hkm) (by rw [← HD.out, e])
        rw [HRS.out, this]; rfl
      obtain ⟨fs, hfs⟩ := under44
      clear hcc he hc ht hrg hd HMk hX hcap
      cases d
      all_goals
        go_wp2_with (first
          | ((with_reducible refine at_op (.load 44 (.tmp 47)) ?_); refine wpList_load_mid rfl 44 (.tmp 47) rfl b (off + k * 6) rfl _ _ HR.out hfs rfl size44 ?_
             rw [encC_let])
          | ((with_reducible refine at_op (.store 44 (.tmp 7) (.tmp 48)) ?_)
             refine wpList_store_row rfl 44 (.tmp 7) (.tmp 48) rfl wr.heap.size _ rfl rfl 44 chg0A (h10 _ _) size44 rfl (by simp [Value.oneCell']) ?_
             rw [World.setRow_alloc_new]
             obtain ⟨W1, hW1⟩ : ∃ W1, W1 = wr.alloc (.cells #[.int .i64 kk, .string f, .int .i64 fn, .string l, .int .i64 ln, .string t] 44) := ⟨_, rfl⟩
             have b1 : Old wr W1 := by rw [hW1]; exact old1 _ _
             have HB1 := mkHid (below_then HC.out.old b1)
             have G4 := mkHid (block_old b1 HC.out.p)
             have G5 := mkHid (block_old b1 HX.out)
             have G6 : Hid (W1.heap[wr.heap.size]? = some (.cells #[.int .i64 kk, .string f, .int .i64 fn, .string l, .int .i64 ln, .string t] 44 (0, 0))) := by show _ = _; rw [hW1]; exact h10 _ _
             have HN1 : Hid (w.heap.size + 1 < wr.heap.size) := (Array.getElem?_eq_some_iff.1 HX.out).1
             rw [← hW1]
             obtain ⟨p0, p1, p2, p3⟩ := cell4 G4.out
             obtain ⟨q0, q1, q2, q3⟩ := cell4 G5.out
             obtain ⟨r0, r1, r2, r3, r4, r5⟩ := cell6 G6.out
             have z3 := free_at G5.out 3
             have hne : ¬ wr.heap.size = w.heap.size + 1 := by have := HN1.out; omega
             have hne2 : ¬ w.heap.size + 1 = wr.heap.size := by have := HN1.out; omega
             clear b1 hW1)
          | (go_at_call 33; (with_reducible refine (k3.out _ (HB1.out.setCell (p := ⟨w.heap.size + 1, 3, none⟩) (by simp) _)).mono ?_); rintro e w2 ⟨rfl, b2⟩
             have HP2 := mkHid (block_old b2 (heap_set_ne _ _ 3 _ (Nat.ne_of_lt (Nat.lt_succ_self _)) G4.out))
             have HA2 := mkHid (block_old b2 (row_setCell G5.out 3 (.slice (some ⟨b, off, none⟩) k cap')))
             have HB2 := mkHid (below_then (HB1.out.setCell (p := ⟨w.heap.size + 1, 3, none⟩) (by simp) _) b2); clear b2))
      · go_ret
        exact ⟨ret_int (HRES.out trivial).symm, HB2.out⟩
      · go_roundw
        case rel =>
          refine ⟨k + 1, by omega, by go_num, fun j hj => ?_, HP2.out, ⟨_, HA2.out⟩, HB2.out⟩
          rcases (show j < k ∨ j = k by omega) with h | rfl
          · exact HA.out j h
          · exact HD.out.symm
        case measure =>
          have e := HWK.out
          rw [e]
          exact meas hkm
    · have hkk : k = m := by omega
      subst hkk
      have HRES : Hid (res = 0) := by
        show _ = _
        rw [HRS.out, chgsOk_yes (by rw [← HMM.out]; exact HA.out)]; rfl
      go_wp2
      go_ret
      exact ⟨ret_int HRES.out.symm, HC.out.old⟩

set_option maxRecDepth 20000 in
set_option maxHeartbeats 4000000 in
/-- What stands ahead of the loop is not right. -/
theorem check_head (w : World) (nm : ByteArray) (tg : Bool) (nv cv : Value) (needs : List Txt) (chs : List Chg) (hm : MF w nm tg nv cv needs chs)
    (hnm : nm.size ≤ 1000000) (hns : ∀ x ∈ needs, x.length ≤ 1000000) (h : rightL nm.data.toList = false ∨ needsOk nm.data.toList needs = false ∨ countOk tg chs.length = false) :
    Calls Tryd.prog 15 #[.agg #[.string nm, .bool tg, nv, cv]] w fun e w' => e = .returned (.int .i64 1) ∧ Old w w' := by
  obtain ⟨c1, hc1⟩ : ∃ c, c = rightL nm.data.toList := ⟨_, rfl⟩
  obtain ⟨c2, hc2⟩ : ∃ c, c = needsOk nm.data.toList needs := ⟨_, rfl⟩
  have k1 := right_w nm hnm c1 hc1
  have k2 : Hid (∀ w', Old w w' → Calls Tryd.prog 32 #[.string nm, nv] w' fun e w'' => e = .returned (.bool c2) ∧ w'' = w') := fun w' h => by
    have := rightNeeds_walk w' nm nv needs (hm.hn.old h) hm.l1 hns
    rw [← hc2] at this; exact this
  rw [← hc1, ← hc2] at h
  have HM := mkHid hm
  obtain ⟨⟨ao, acap, rfl, -⟩, hvv, -, hl2⟩ := hm
  obtain ⟨-, bo, bcap, rfl, -⟩ := hvv
  obtain ⟨m, hM⟩ : ∃ m, m = chs.length := ⟨_, rfl⟩
  rw [← hM] at hl2 h ⊢
  have HO := mkHid (old1 w (.cells #[.string nm, .bool tg, .slice ao needs.length acap, .slice bo m bcap] 26))
  cases c1
  · obtain ⟨lo, hi, k0⟩ : ∃ lo hi : Int, Hid (∀ w, Calls Tryd.prog 30 #[.bool tg] w fun e w' => e = .returned (.tuple #[.int .i64 lo, .int .i64 hi]) ∧ w' = w) := ⟨_, _, counts_walk tg⟩
    clear hl2 h hnm hns hc1 hc2 hM HM
    go_enter Tryd.func15, Tryd.ntmps15
    go_wp2_with (first
      | (go_at_call 30; (with_reducible refine (k0.out _).mono ?_); rintro e w1 ⟨rfl, rfl⟩)
      | (go_at_call 31; (with_reducible refine (k1.out _).mono ?_); rintro e w1 ⟨rfl, rfl⟩))
    go_ret
    exact ⟨rfl, HO.out⟩
  · cases c2
    · obtain ⟨lo, hi, k0⟩ : ∃ lo hi : Int, Hid (∀ w, Calls Tryd.prog 30 #[.bool tg] w fun e w' => e = .returned (.tuple #[.int .i64 lo, .int .i64 hi]) ∧ w' = w) := ⟨_, _, counts_walk tg⟩
      clear hl2 h hnm hns hc1 hc2 hM HM
      go_enter Tryd.func15, Tryd.ntmps15
      go_wp2_with (first
        | (go_at_call 30; (with_reducible refine (k0.out _).mono ?_); rintro e w1 ⟨rfl, rfl⟩)
        | (go_at_call 31; (with_reducible refine (k1.out _).mono ?_); rintro e w1 ⟨rfl, rfl⟩)
        | (go_at_call 32; (with_reducible refine (k2.out _ HO.out).mono ?_); rintro e w1 ⟨rfl, rfl⟩))
      go_ret
      exact ⟨rfl, HO.out⟩
    · obtain ⟨lo, hi, hlh, k0⟩ : ∃ lo hi : Int, ((m : Int) < lo ∨ (lo ≤ (m : Int) ∧ hi < (m : Int))) ∧ Hid (∀ w, Calls Tryd.prog 30 #[.bool tg] w fun e w' => e = .returned (.tuple #[.int .i64 lo, .int .i64 hi]) ∧ w' = w) := by
        refine ⟨_, _, ?_, counts_walk tg⟩
        rcases h with h | h | h
        · cases h
        · cases h
        · unfold countOk at h
          cases tg
          · simp only [Bool.false_eq_true, if_false, Bool.and_eq_false_iff, decide_eq_false_iff_not] at h ⊢; omega
          · simp only [if_true, decide_eq_false_iff_not] at h ⊢; omega
      clear hl2 h hnm hns hc1 hc2 hM HM
      rcases hlh with hlo | ⟨hlo, hhi⟩
      · go_enter Tryd.func15, Tryd.ntmps15
        go_wp2_with (first
          | (go_at_call 30; (with_reducible refine (k0.out _).mono ?_); rintro e w1 ⟨rfl, rfl⟩)
          | (go_at_call 31; (with_reducible refine (k1.out _).mono ?_); rintro e w1 ⟨rfl, rfl⟩)
          | (go_at_call 32; (with_reducible refine (k2.out _ HO.out).mono ?_); rintro e w1 ⟨rfl, rfl⟩))
        go_ret
        exact ⟨rfl, HO.out⟩
      · go_enter Tryd.func15, Tryd.ntmps15
        go_wp2_with (first
          | (go_at_call 30; (with_reducible refine (k0.out _).mono ?_); rintro e w1 ⟨rfl, rfl⟩)
          | (go_at_call 31; (with_reducible refine (k1.out _).mono ?_); rintro e w1 ⟨rfl, rfl⟩)
          | (go_at_call 32; (with_reducible refine (k2.out _ HO.out).mono ?_); rintro e w1 ⟨rfl, rfl⟩))
        go_ret
        exact ⟨rfl, HO.out⟩

/-- Check, whatever it is handed. -/
theorem check_any (w : World) (nm : ByteArray) (tg : Bool) (nv cv : Value) (needs : List Txt) (chs : List Chg) (hm : MF w nm tg nv cv needs chs) (hsm : Small (nm.data.toList, tg, needs, chs)) :
    Calls Tryd.prog 15 #[.agg #[.string nm, .bool tg, nv, cv]] w fun e w' => e = .returned (.int .i64 (if checkM (nm.data.toList, tg, needs, chs) then 0 else 1)) ∧ Old w w' := by
  have hz : nm.size ≤ 1000000 := by rw [size_list]; exact hsm.nm
  by_cases h : rightL nm.data.toList = false ∨ needsOk nm.data.toList needs = false ∨ countOk tg chs.length = false
  · have e : checkM (nm.data.toList, tg, needs, chs) = false := by
      unfold checkM
      rcases h with h | h | h <;> simp [h]
    rw [e]
    exact check_head w nm tg nv cv needs chs hm hz hsm.n2 h
  · simp only [not_or, Bool.not_eq_false] at h
    have e : checkM (nm.data.toList, tg, needs, chs) = chgsOk nm.data.toList needs chs := by
      unfold checkM
      simp [h.1, h.2.1, h.2.2]
    rw [e]
    exact check_loop w nm tg nv cv needs chs hm hsm.c2 h.1 h.2.1 hz hsm.n2 h.2.2
end Go.Proofs.YtfkfaaifchafjaaDoor
