/-
  mayFollow walked: kinds 1, 2, 3.
-/
import Derived.Test.YtfkfaaifchafjaaDoorCc
set_option linter.unusedSimpArgs false
set_option linter.unusedVariables false
namespace Go.Proofs.YtfkfaaifchafjaaDoor
open Go.RowKit

/-- What mayFollow is handed, in letters. -/
structure MF (w : World) (nm : ByteArray) (tg : Bool) (nv cv : Value) (needs : List Txt) (chs : List Chg) : Prop where
  hn : LiesS w nv needs
  hv : LiesC w cv chs
  l1 : needs.length ≤ 1000000
  l2 : chs.length ≤ 1000000

theorem MF.old {w w' : World} {nm : ByteArray} {tg : Bool} {nv cv : Value} {needs : List Txt} {chs : List Chg} (h : MF w nm tg nv cv needs chs) (hb : Old w w') : MF w' nm tg nv cv needs chs := ⟨h.hn.old hb, h.hv.old hb, h.l1, h.l2⟩

theorem eqz (f : ByteArray) (fn : Int) : decide ((f.data.toList, fn) = zid) = (decide (f.data.toList = []) && decide (fn = 0)) := by
  unfold zid; simp only [Prod.mk.injEq, Bool.decide_and]

theorem empty_list {f : ByteArray} (h : f.data.toList = []) : f.toList = [] := by rw [ByteArray.toList_eq]; exact h
theorem empty_not {f : ByteArray} (h : ¬ f.data.toList = []) : ¬ f.toList = [] := by rw [ByteArray.toList_eq]; exact h

theorem right_w (t : ByteArray) (ht : t.size ≤ 1000000) (b : Bool) (hb : b = rightL t.data.toList) : Hid (∀ w, Calls Tryd.prog 31 #[.string t] w fun e w' => e = .returned (.bool b) ∧ w' = w) :=
  right_hid t (by unfold maxLen; omega) b hb

set_option maxHeartbeats 2000000 in
theorem mf1 (w : World) (nm : ByteArray) (tg : Bool) (nv cv : Value) (f l t : ByteArray) (fn ln : Int) (ht : t.size ≤ 1000000) :
    Calls Tryd.prog 33 #[.agg #[.string nm, .bool tg, nv, cv], .agg #[.int .i64 1, .string f, .int .i64 fn, .string l, .int .i64 ln, .string t]] w fun e w' =>
      e = .returned (.bool (rightL t.data.toList && decide ((f.data.toList, fn) = zid) && decide ((l.data.toList, ln) = zid))) ∧ Old w w' := by
  have HO := mkHid (old3 w (.cells #[.string nm, .bool tg, nv, cv] 26) (.cells #[.int .i64 1, .string f, .int .i64 fn, .string l, .int .i64 ln, .string t] 44) (.cells #[.string ⟨#[]⟩, .int .i64 0] 42))
  obtain ⟨b, hb⟩ : ∃ b, b = rightL t.data.toList := ⟨_, rfl⟩
  have k1 := right_w t ht b hb
  rw [← hb, eqz, eqz]
  clear hb
  cases b
  · go_enter Tryd.func33, Tryd.ntmps33
    go_wp2_with (go_at_call 31; (with_reducible refine (k1.out _).mono ?_); rintro e w1 ⟨rfl, rfl⟩)
    go_ret
    exact ⟨rfl, HO.out⟩
  · by_cases hf : f.data.toList = []
    · have hf' := empty_list hf
      by_cases hfn : fn = 0
      · subst hfn
        have HF := mkHid hf
        clear hf
        go_enter Tryd.func33, Tryd.ntmps33
        go_wp2_with (go_at_call 31; (with_reducible refine (k1.out _).mono ?_); rintro e w1 ⟨rfl, rfl⟩)
        all_goals
          go_ret
          refine ⟨ret_bool ?_, old3 _ _ _ _⟩
          rw [HF.out]
          simp_all [ByteArray.toList_eq]
      · have HF := mkHid hf
        clear hf
        go_enter Tryd.func33, Tryd.ntmps33
        go_wp2_with (go_at_call 31; (with_reducible refine (k1.out _).mono ?_); rintro e w1 ⟨rfl, rfl⟩)
        go_ret
        exact ⟨ret_bool (by simp [hfn]), HO.out⟩
    · have hf' := empty_not hf
      have HF := mkHid hf
      clear hf
      go_enter Tryd.func33, Tryd.ntmps33
      go_wp2_with (go_at_call 31; (with_reducible refine (k1.out _).mono ?_); rintro e w1 ⟨rfl, rfl⟩)
      go_ret
      exact ⟨ret_bool (by simp [HF.out]), HO.out⟩

set_option maxHeartbeats 2000000 in
theorem mf2 (w : World) (nm : ByteArray) (tg : Bool) (nv cv : Value) (needs : List Txt) (chs : List Chg) (f l t : ByteArray) (fn ln : Int) (ht : t.size ≤ 1000000) (hm : MF w nm tg nv cv needs chs) :
    Calls Tryd.prog 33 #[.agg #[.string nm, .bool tg, nv, cv], .agg #[.int .i64 2, .string f, .int .i64 fn, .string l, .int .i64 ln, .string t]] w fun e w' =>
      e = .returned (.bool (rightL t.data.toList && hasFile nm.data.toList needs chs (f.data.toList, fn) && decide ((l.data.toList, ln) = zid))) ∧ Old w w' := by
  have HO := mkHid (old3 w (.cells #[.string nm, .bool tg, nv, cv] 26) (.cells #[.int .i64 2, .string f, .int .i64 fn, .string l, .int .i64 ln, .string t] 44) (.cells #[.string ⟨#[]⟩, .int .i64 0] 42))
  obtain ⟨b, hb⟩ : ∃ b, b = rightL t.data.toList := ⟨_, rfl⟩
  have k1 := right_w t ht b hb
  obtain ⟨c, hc⟩ : ∃ c, c = hasFile nm.data.toList needs chs (f.data.toList, fn) := ⟨_, rfl⟩
  have k2 := hasFile_old w nm f tg nv cv needs chs fn hm.hn hm.hv hm.l1 hm.l2 c hc
  rw [← hb, ← hc, eqz]
  clear hb hc
  obtain ⟨⟨ao, acap, rfl, _⟩, ⟨_, bo, bcap, rfl, _⟩, _, _⟩ := hm
  cases b
  · go_enter Tryd.func33, Tryd.ntmps33
    go_wp2_with (go_at_call 31; (with_reducible refine (k1.out _).mono ?_); rintro e w1 ⟨rfl, rfl⟩)
    go_ret
    exact ⟨rfl, HO.out⟩
  · cases c
    all_goals
      go_enter Tryd.func33, Tryd.ntmps33
      go_wp2_with (first
        | (go_at_call 31; (with_reducible refine (k1.out _).mono ?_); rintro e w1 ⟨rfl, rfl⟩)
        | (go_at_call 47; (with_reducible refine (k2.out _ HO.out).mono ?_); rintro e w2 ⟨rfl, b2⟩; have HB2 := mkHid (below_then HO.out b2)
           obtain ⟨u0, u1, u2, u3, u4, u5⟩ := cell6 (block_old b2 (h31 _ _ _ _))
           obtain ⟨v0, v1⟩ := cell2 (block_old b2 (h32 _ _ _ _)); clear b2))
      all_goals
        go_ret
        refine ⟨ret_bool ?_, HB2.out⟩
        simp_all [ByteArray.toList_eq]

set_option maxHeartbeats 2000000 in
theorem mf3 (w : World) (nm : ByteArray) (tg : Bool) (nv cv : Value) (needs : List Txt) (chs : List Chg) (f l t : ByteArray) (fn ln : Int) (hm : MF w nm tg nv cv needs chs) :
    Calls Tryd.prog 33 #[.agg #[.string nm, .bool tg, nv, cv], .agg #[.int .i64 3, .string f, .int .i64 fn, .string l, .int .i64 ln, .string t]] w fun e w' =>
      e = .returned (.bool (decide (t.data.toList = []) && hasFile nm.data.toList needs chs (f.data.toList, fn) && decide ((l.data.toList, ln) = zid))) ∧ Old w w' := by
  have HO := mkHid (old3 w (.cells #[.string nm, .bool tg, nv, cv] 26) (.cells #[.int .i64 3, .string f, .int .i64 fn, .string l, .int .i64 ln, .string t] 44) (.cells #[.string ⟨#[]⟩, .int .i64 0] 42))
  obtain ⟨c, hc⟩ : ∃ c, c = hasFile nm.data.toList needs chs (f.data.toList, fn) := ⟨_, rfl⟩
  have k2 := hasFile_old w nm f tg nv cv needs chs fn hm.hn hm.hv hm.l1 hm.l2 c hc
  rw [← hc, eqz]
  clear hc
  obtain ⟨⟨ao, acap, rfl, _⟩, ⟨_, bo, bcap, rfl, _⟩, _, _⟩ := hm
  by_cases ht : t.data.toList = []
  · have ht' := empty_list ht
    have HT := mkHid ht
    clear ht
    cases c
    all_goals
      go_enter Tryd.func33, Tryd.ntmps33
      go_wp2_with (first
        | (go_at_call 47; (with_reducible refine (k2.out _ HO.out).mono ?_); rintro e w2 ⟨rfl, b2⟩; have HB2 := mkHid (below_then HO.out b2)
           obtain ⟨u0, u1, u2, u3, u4, u5⟩ := cell6 (block_old b2 (h31 _ _ _ _))
           obtain ⟨v0, v1⟩ := cell2 (block_old b2 (h32 _ _ _ _)); clear b2))
      all_goals
        go_ret
        refine ⟨ret_bool ?_, HB2.out⟩
        rw [HT.out]
        simp_all [ByteArray.toList_eq]
  · have ht' := empty_not ht
    have HT := mkHid ht
    clear ht
    go_enter Tryd.func33, Tryd.ntmps33
    go_wp2
    go_ret
    exact ⟨ret_bool (by simp [HT.out]), HO.out⟩
end Go.Proofs.YtfkfaaifchafjaaDoor
