/-
  mayFollow walked: kinds 4, 5, none; mayFollow whole.
-/
import Derived.Test.YtfkfaaifchafjaaDoorCd
set_option linter.unusedSimpArgs false
set_option linter.unusedVariables false
namespace Go.Proofs.YtfkfaaifchafjaaDoor
open Go.RowKit

theorem line_w (t : ByteArray) (ht : t.size ≤ 1000000) (b : Bool) (hb : b = lineL t.data.toList) : Hid (∀ w, Calls Tryd.prog 48 #[.string t] w fun e w' => e = .returned (.bool b) ∧ w' = w) := by
  subst hb
  exact fun w => line_walk t w (by unfold maxLen; omega)

set_option maxHeartbeats 4000000 in
theorem mf4 (w : World) (nm : ByteArray) (tg : Bool) (nv cv : Value) (needs : List Txt) (chs : List Chg) (f l t : ByteArray) (fn ln : Int) (ht : t.size ≤ 1000000) (hm : MF w nm tg nv cv needs chs) :
    Calls Tryd.prog 33 #[.agg #[.string nm, .bool tg, nv, cv], .agg #[.int .i64 4, .string f, .int .i64 fn, .string l, .int .i64 ln, .string t]] w fun e w' =>
      e = .returned (.bool (lineL t.data.toList && hasFile nm.data.toList needs chs (f.data.toList, fn) && (decide ((l.data.toList, ln) = zid) || hasLine nm.data.toList needs chs (f.data.toList, fn) (l.data.toList, ln)))) ∧ Old w w' := by
  have HO := mkHid (old3 w (.cells #[.string nm, .bool tg, nv, cv] 26) (.cells #[.int .i64 4, .string f, .int .i64 fn, .string l, .int .i64 ln, .string t] 44) (.cells #[.string ⟨#[]⟩, .int .i64 0] 42))
  obtain ⟨b, hb⟩ : ∃ b, b = lineL t.data.toList := ⟨_, rfl⟩
  have k1 := line_w t ht b hb
  obtain ⟨c, hc⟩ : ∃ c, c = hasFile nm.data.toList needs chs (f.data.toList, fn) := ⟨_, rfl⟩
  have k2 := hasFile_old w nm f tg nv cv needs chs fn hm.hn hm.hv hm.l1 hm.l2 c hc
  obtain ⟨d, hd⟩ : ∃ d, d = hasLine nm.data.toList needs chs (f.data.toList, fn) (l.data.toList, ln) := ⟨_, rfl⟩
  have k3 := hasLine_old w nm f l tg nv cv needs chs fn ln hm.hn hm.hv hm.l1 hm.l2 d hd
  rw [← hb, ← hc, ← hd, eqz]
  clear hb hc hd
  obtain ⟨⟨ao, acap, rfl, _⟩, ⟨_, bo, bcap, rfl, _⟩, _, _⟩ := hm
  cases b
  · go_enter Tryd.func33, Tryd.ntmps33
    go_wp2_with (go_at_call 48; (with_reducible refine (k1.out _).mono ?_); rintro e w1 ⟨rfl, rfl⟩)
    go_ret
    exact ⟨rfl, HO.out⟩
  · cases c
    · go_enter Tryd.func33, Tryd.ntmps33
      go_wp2_with (first
        | (go_at_call 48; (with_reducible refine (k1.out _).mono ?_); rintro e w1 ⟨rfl, rfl⟩)
        | (go_at_call 47; (with_reducible refine (k2.out _ HO.out).mono ?_); rintro e w2 ⟨rfl, b2⟩; have HB2 := mkHid (below_then HO.out b2); clear b2))
      go_ret
      exact ⟨rfl, HB2.out⟩
    · by_cases hl : l.data.toList = []
      · have hl' := empty_list hl
        by_cases hln : ln = 0
        · subst hln
          have HL := mkHid hl
          clear hl k3
          go_enter Tryd.func33, Tryd.ntmps33
          go_wp2_with (first
            | (go_at_call 48; (with_reducible refine (k1.out _).mono ?_); rintro e w1 ⟨rfl, rfl⟩)
            | (go_at_call 47; (with_reducible refine (k2.out _ HO.out).mono ?_); rintro e w2 ⟨rfl, b2⟩; have HB2 := mkHid (below_then HO.out b2)
               obtain ⟨u0, u1, u2, u3, u4, u5⟩ := cell6 (block_old b2 (h31 _ _ _ _))
               obtain ⟨v0, v1⟩ := cell2 (block_old b2 (h32 _ _ _ _)); clear b2))
          go_ret
          exact ⟨ret_bool (by simp [HL.out]), HB2.out⟩
        · have HL := mkHid hln
          have hln' : (ln == 0) = false := by simpa using hln
          clear hl hln
          go_enter Tryd.func33, Tryd.ntmps33
          go_wp2_with (first
            | (go_at_call 48; (with_reducible refine (k1.out _).mono ?_); rintro e w1 ⟨rfl, rfl⟩)
            | (go_at_call 47; (with_reducible refine (k2.out _ HO.out).mono ?_); rintro e w2 ⟨rfl, b2⟩; have HB2 := mkHid (below_then HO.out b2)
               obtain ⟨x0, x1, x2, x3⟩ := cell4 (block_old b2 (h30 _ _ _ _))
               obtain ⟨u0, u1, u2, u3, u4, u5⟩ := cell6 (block_old b2 (h31 _ _ _ _))
               obtain ⟨v0, v1⟩ := cell2 (block_old b2 (h32 _ _ _ _)); clear b2)
            | (go_at_call 49; (with_reducible refine (k3.out _ HB2.out).mono ?_); rintro e w3 ⟨rfl, b3⟩; have HB3 := mkHid (below_then HB2.out b3); clear b3))
          go_ret
          exact ⟨ret_bool (by simp [HL.out]), HB3.out⟩
      · have HL := mkHid hl
        have hl' := empty_not hl
        clear hl
        go_enter Tryd.func33, Tryd.ntmps33
        go_wp2_with (first
          | (go_at_call 48; (with_reducible refine (k1.out _).mono ?_); rintro e w1 ⟨rfl, rfl⟩)
          | (go_at_call 47; (with_reducible refine (k2.out _ HO.out).mono ?_); rintro e w2 ⟨rfl, b2⟩; have HB2 := mkHid (below_then HO.out b2)
             obtain ⟨x0, x1, x2, x3⟩ := cell4 (block_old b2 (h30 _ _ _ _))
             obtain ⟨u0, u1, u2, u3, u4, u5⟩ := cell6 (block_old b2 (h31 _ _ _ _))
             obtain ⟨v0, v1⟩ := cell2 (block_old b2 (h32 _ _ _ _)); clear b2)
          | (go_at_call 49; (with_reducible refine (k3.out _ HB2.out).mono ?_); rintro e w3 ⟨rfl, b3⟩; have HB3 := mkHid (below_then HB2.out b3); clear b3))
        go_ret
        exact ⟨ret_bool (by simp [HL.out]), HB3.out⟩

set_option maxHeartbeats 4000000 in
theorem mf5 (w : World) (nm : ByteArray) (tg : Bool) (nv cv : Value) (needs : List Txt) (chs : List Chg) (f l t : ByteArray) (fn ln : Int) (hm : MF w nm tg nv cv needs chs) :
    Calls Tryd.prog 33 #[.agg #[.string nm, .bool tg, nv, cv], .agg #[.int .i64 5, .string f, .int .i64 fn, .string l, .int .i64 ln, .string t]] w fun e w' =>
      e = .returned (.bool (decide (t.data.toList = []) && hasFile nm.data.toList needs chs (f.data.toList, fn) && hasLine nm.data.toList needs chs (f.data.toList, fn) (l.data.toList, ln))) ∧ Old w w' := by
  have HO := mkHid (old3 w (.cells #[.string nm, .bool tg, nv, cv] 26) (.cells #[.int .i64 5, .string f, .int .i64 fn, .string l, .int .i64 ln, .string t] 44) (.cells #[.string ⟨#[]⟩, .int .i64 0] 42))
  obtain ⟨c, hc⟩ : ∃ c, c = hasFile nm.data.toList needs chs (f.data.toList, fn) := ⟨_, rfl⟩
  have k2 := hasFile_old w nm f tg nv cv needs chs fn hm.hn hm.hv hm.l1 hm.l2 c hc
  obtain ⟨d, hd⟩ : ∃ d, d = hasLine nm.data.toList needs chs (f.data.toList, fn) (l.data.toList, ln) := ⟨_, rfl⟩
  have k3 := hasLine_old w nm f l tg nv cv needs chs fn ln hm.hn hm.hv hm.l1 hm.l2 d hd
  rw [← hc, ← hd]
  clear hc hd
  obtain ⟨⟨ao, acap, rfl, _⟩, ⟨_, bo, bcap, rfl, _⟩, _, _⟩ := hm
  by_cases ht : t.data.toList = []
  · have ht' := empty_list ht
    have HT := mkHid ht
    clear ht
    cases c
    · go_enter Tryd.func33, Tryd.ntmps33
      go_wp2_with (first
        | (go_at_call 47; (with_reducible refine (k2.out _ HO.out).mono ?_); rintro e w2 ⟨rfl, b2⟩; have HB2 := mkHid (below_then HO.out b2); clear b2))
      go_ret
      exact ⟨ret_bool (by simp), HB2.out⟩
    · go_enter Tryd.func33, Tryd.ntmps33
      go_wp2_with (first
        | (go_at_call 47; (with_reducible refine (k2.out _ HO.out).mono ?_); rintro e w2 ⟨rfl, b2⟩; have HB2 := mkHid (below_then HO.out b2)
           obtain ⟨x0, x1, x2, x3⟩ := cell4 (block_old b2 (h30 _ _ _ _))
           obtain ⟨u0, u1, u2, u3, u4, u5⟩ := cell6 (block_old b2 (h31 _ _ _ _)); clear b2)
        | (go_at_call 49; (with_reducible refine (k3.out _ HB2.out).mono ?_); rintro e w3 ⟨rfl, b3⟩; have HB3 := mkHid (below_then HB2.out b3); clear b3))
      go_ret
      exact ⟨ret_bool (by simp [HT.out]), HB3.out⟩
  · have ht' := empty_not ht
    have HT := mkHid ht
    clear ht
    go_enter Tryd.func33, Tryd.ntmps33
    go_wp2
    go_ret
    exact ⟨ret_bool (by simp [HT.out]), HO.out⟩

set_option maxHeartbeats 2000000 in
theorem mf0 (w : World) (nm : ByteArray) (tg : Bool) (nv cv : Value) (k : Int) (f l t : ByteArray) (fn ln : Int) (h1 : (k == 1) = false) (h2 : (k == 2) = false) (h3 : (k == 3) = false) (h4 : (k == 4) = false) (h5 : (k == 5) = false) :
    Calls Tryd.prog 33 #[.agg #[.string nm, .bool tg, nv, cv], .agg #[.int .i64 k, .string f, .int .i64 fn, .string l, .int .i64 ln, .string t]] w fun e w' => e = .returned (.bool false) ∧ Old w w' := by
  have HO := mkHid (old3 w (.cells #[.string nm, .bool tg, nv, cv] 26) (.cells #[.int .i64 k, .string f, .int .i64 fn, .string l, .int .i64 ln, .string t] 44) (.cells #[.string ⟨#[]⟩, .int .i64 0] 42))
  go_enter Tryd.func33, Tryd.ntmps33
  go_wp2
  go_ret
  exact ⟨rfl, HO.out⟩

/-- mayFollow, whatever it is handed. -/
theorem mayFollow_any (w : World) (nm : ByteArray) (tg : Bool) (nv cv : Value) (needs : List Txt) (chs : List Chg) (k : Int) (f l t : ByteArray) (fn ln : Int) (ht : t.size ≤ 1000000) (hm : MF w nm tg nv cv needs chs) :
    Calls Tryd.prog 33 #[.agg #[.string nm, .bool tg, nv, cv], .agg #[.int .i64 k, .string f, .int .i64 fn, .string l, .int .i64 ln, .string t]] w fun e w' =>
      e = .returned (.bool (chgOk nm.data.toList needs chs (k, (f.data.toList, fn), (l.data.toList, ln), t.data.toList))) ∧ Old w w' := by
  unfold chgOk
  by_cases h1 : k = 1
  · subst h1; exact mf1 w nm tg nv cv f l t fn ln ht
  by_cases h2 : k = 2
  · subst h2; exact mf2 w nm tg nv cv needs chs f l t fn ln ht hm
  by_cases h3 : k = 3
  · subst h3; exact mf3 w nm tg nv cv needs chs f l t fn ln hm
  by_cases h4 : k = 4
  · subst h4; exact mf4 w nm tg nv cv needs chs f l t fn ln ht hm
  by_cases h5 : k = 5
  · subst h5; exact mf5 w nm tg nv cv needs chs f l t fn ln hm
  · simp only [h1, h2, h3, h4, h5, if_false]
    exact mf0 w nm tg nv cv k f l t fn ln (by simpa using h1) (by simpa using h2) (by simpa using h3) (by simpa using h4) (by simpa using h5)
end Go.Proofs.YtfkfaaifchafjaaDoor
