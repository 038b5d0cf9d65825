/-
  hasFile, hasLine walked.
-/
import Derived.Test.YtfkfaaifchafjaaDoorCb
set_option linter.unusedSimpArgs false
set_option linter.unusedVariables false
namespace Go.Proofs.YtfkfaaifchafjaaDoor
open Go.RowKit

theorem bcell {W w1 : World} (hb : Below W.heap.size W w1) : (∀ b o, b < W.heap.size → w1.cell? ⟨b, o, none⟩ = W.cell? ⟨b, o, none⟩) ∧ (∀ b o, b < W.heap.size → w1.frozen? ⟨b, o, none⟩ = W.frozen? ⟨b, o, none⟩) :=
  ⟨fun b o h => hb.cell (p := ⟨b, o, none⟩) h, fun b o h => hb.frozen (p := ⟨b, o, none⟩) h⟩

theorem run_field44 (a b c d e f : Value) (w : World) : (Instr.field 44 (.agg #[a, b, c, d, e, f]) 0).run Tryd.prog w = .ok a w := by
  simp [Instr.field, run_underlying Tryd.underlying44, part, asAgg, Tryd.isAgg3]

theorem txt_beq (a b : List UInt8) : (a == b) = decide (a = b) := by
  rw [Bool.eq_iff_iff]; simp

/-- A change in letters. -/
theorem chg_letters (c : Chg) : ∃ (k : Int) (f : ByteArray) (fn : Int) (l : ByteArray) (ln : Int) (t : ByteArray), c = (k, (f.data.toList, fn), (l.data.toList, ln), t.data.toList) :=
  ⟨c.1, ⟨c.2.1.1.toArray⟩, c.2.1.2, ⟨c.2.2.1.1.toArray⟩, c.2.2.1.2, ⟨c.2.2.2.toArray⟩, by simp⟩

theorem own_let (w : World) (nm q : ByteArray) (tg : Bool) (nv cv : Value) (chs : List Chg) (n : Int) (hv : LiesC w cv chs) (hl : chs.length ≤ 1000000) (k : Int) (f : ByteArray) (fn : Int) (l : ByteArray) (ln : Int) (t : ByteArray)
    (hc : ownChg nm.data.toList chs (q.data.toList, n) = (k, (f.data.toList, fn), (l.data.toList, ln), t.data.toList)) :
    Hid (∀ w', Old w w' → Calls Tryd.prog 63 #[.agg #[.string nm, .bool tg, nv, cv], .agg #[.string q, .int .i64 n]] w' fun e w'' => e = .returned (.agg #[.int .i64 k, .string f, .int .i64 fn, .string l, .int .i64 ln, .string t]) ∧ Old w' w'') := by
  have h := own_old w nm q tg nv cv chs n hv hl _ rfl
  rw [hc] at h
  exact h

set_option maxHeartbeats 1000000 in
theorem hasFile_walk (w : World) (nm q : ByteArray) (tg : Bool) (nv cv : Value) (needs : List Txt) (chs : List Chg) (n : Int) (hn : LiesS w nv needs) (hv : LiesC w cv chs) (hl1 : needs.length ≤ 1000000) (hl : chs.length ≤ 1000000) :
    Calls Tryd.prog 47 #[.agg #[.string nm, .bool tg, nv, cv], .agg #[.string q, .int .i64 n]] w fun e w' => e = .returned (.bool (hasFile nm.data.toList needs chs (q.data.toList, n))) ∧ Old w w' := by
  obtain ⟨b, hb⟩ : ∃ b, b = ofNeeds needs (q.data.toList, n) := ⟨_, rfl⟩
  have k1 := ofNeeds_old w nm tg nv cv needs q n hn hl1 b hb
  obtain ⟨k, f, fn, l, ln, t, hc⟩ := chg_letters (ownChg nm.data.toList chs (q.data.toList, n))
  have k2 := own_let w nm q tg nv cv chs n hv hl k f fn l ln t hc
  have HO := mkHid (old2 w (.cells #[.string nm, .bool tg, nv, cv] 26) (.cells #[.string q, .int .i64 n] 42))
  have HE : Hid (hasFile nm.data.toList needs chs (q.data.toList, n) = (b || decide (k = 1))) := by show _ = _; unfold hasFile; rw [hc, hb]
  clear hb hc
  obtain ⟨_, bo, bcap, rfl, _⟩ := hv
  obtain ⟨ao, acap, rfl, _⟩ := hn
  clear hl hl1
  cases b
  · obtain ⟨c1, hb1⟩ : ∃ b1, b1 = decide (k = 1) := ⟨_, rfl⟩
    have h1' : (k == 1) = c1 := by rw [hb1]; rfl
    rw [HE.out, Bool.false_or, ← hb1]
    clear hb1
    have HF := fun w => run_field44 (.int .i64 k) (.string f) (.int .i64 fn) (.string l) (.int .i64 ln) (.string t) w
    cases c1
    all_goals
     go_enter Tryd.func47, Tryd.ntmps47
     go_wp2_with (first
       | (go_at_call 62; (with_reducible refine (k1.out _ HO.out).mono ?_); rintro e w1 ⟨rfl, b1⟩; have HB1 := mkHid (below_then HO.out b1); obtain ⟨p0, p1, p2, p3⟩ := cell4 (block_old b1 (h20 _ _ _)); obtain ⟨q0, q1⟩ := cell2 (block_old b1 (h21 _ _ _)); clear b1)
       | (go_at_call 63; (with_reducible refine (k2.out _ HB1.out).mono ?_); rintro e w2 ⟨rfl, b2⟩; have HB2 := mkHid (below_then HB1.out b2); clear b2))
     go_ret
     exact ⟨rfl, HB2.out⟩
  · go_enter Tryd.func47, Tryd.ntmps47
    go_wp2_with (first
      | (go_at_call 62; (with_reducible refine (k1.out _ HO.out).mono ?_); rintro e w1 ⟨rfl, b1⟩; have HB1 := mkHid (below_then HO.out b1); clear b1))
    go_ret
    exact ⟨by rw [HE.out]; rfl, HB1.out⟩

theorem hasFile_old (w : World) (nm q : ByteArray) (tg : Bool) (nv cv : Value) (needs : List Txt) (chs : List Chg) (n : Int) (hn : LiesS w nv needs) (hv : LiesC w cv chs) (hl1 : needs.length ≤ 1000000) (hl : chs.length ≤ 1000000) (b : Bool) (hb : b = hasFile nm.data.toList needs chs (q.data.toList, n)) :
    Hid (∀ w', Old w w' → Calls Tryd.prog 47 #[.agg #[.string nm, .bool tg, nv, cv], .agg #[.string q, .int .i64 n]] w' fun e w'' => e = .returned (.bool b) ∧ Old w' w'') := by
  subst hb
  exact fun w' h => hasFile_walk w' nm q tg nv cv needs chs n (hn.old h) (hv.old h) hl1 hl

set_option maxHeartbeats 1000000 in
theorem hasLine_walk (w : World) (nm fq q : ByteArray) (tg : Bool) (nv cv : Value) (needs : List Txt) (chs : List Chg) (fm n : Int) (hn : LiesS w nv needs) (hv : LiesC w cv chs) (hl1 : needs.length ≤ 1000000) (hl : chs.length ≤ 1000000) :
    Calls Tryd.prog 49 #[.agg #[.string nm, .bool tg, nv, cv], .agg #[.string fq, .int .i64 fm], .agg #[.string q, .int .i64 n]] w fun e w' => e = .returned (.bool (hasLine nm.data.toList needs chs (fq.data.toList, fm) (q.data.toList, n))) ∧ Old w w' := by
  obtain ⟨b, hb⟩ : ∃ b, b = ofNeeds needs (q.data.toList, n) := ⟨_, rfl⟩
  have k1 := ofNeeds_old w nm tg nv cv needs q n hn hl1 b hb
  obtain ⟨k, f, fn, l, ln, t, hc⟩ := chg_letters (ownChg nm.data.toList chs (q.data.toList, n))
  have k2 := own_let w nm q tg nv cv chs n hv hl k f fn l ln t hc
  have HO := mkHid (old3 w (.cells #[.string nm, .bool tg, nv, cv] 26) (.cells #[.string fq, .int .i64 fm] 42) (.cells #[.string q, .int .i64 n] 42))
  have HE : Hid (hasLine nm.data.toList needs chs (fq.data.toList, fm) (q.data.toList, n) = (b || (decide (k = 4) && (decide (f.data.toList = fq.data.toList) && decide (fn = fm))))) := by
    show _ = _
    unfold hasLine; rw [hc, hb]
    congr 2
    simp only [Prod.mk.injEq, Bool.decide_and]
  obtain ⟨c1, hb1⟩ : ∃ b1, b1 = decide (k = 4) := ⟨_, rfl⟩
  have h1' : (k == 4) = c1 := by rw [hb1]; rfl
  obtain ⟨c2, hb2⟩ : ∃ b2, b2 = decide (f.data.toList = fq.data.toList) := ⟨_, rfl⟩
  have h2' : (f.toList == fq.toList) = c2 := by rw [hb2, ByteArray.toList_eq, ByteArray.toList_eq]; exact txt_beq _ _
  obtain ⟨c3, hb3⟩ : ∃ b3, b3 = decide (fn = fm) := ⟨_, rfl⟩
  have h3' : (fn == fm) = c3 := by rw [hb3]; rfl
  rw [← hb1, ← hb2, ← hb3] at HE
  clear hb hc hb1 hb2 hb3
  obtain ⟨_, bo, bcap, rfl, _⟩ := hv
  obtain ⟨ao, acap, rfl, _⟩ := hn
  clear hl hl1
  cases b
  · cases c1
    all_goals
      cases c2 <;> cases c3
    all_goals
      go_enter Tryd.func49, Tryd.ntmps49
      go_wp2_with (first
        | (go_at_call 63; (with_reducible refine (k2.out _ HO.out).mono ?_); rintro e w1 ⟨rfl, b1⟩
           obtain ⟨W, hW⟩ : ∃ W, W = w1.alloc (.cells #[.int .i64 k, .string f, .int .i64 fn, .string l, .int .i64 ln, .string t] 44) := ⟨_, rfl⟩
           have bW := old1 w1 (.cells #[.int .i64 k, .string f, .int .i64 fn, .string l, .int .i64 ln, .string t] 44)
           rw [← hW] at bW
           have HB1 := mkHid (below_then (below_then HO.out b1) bW)
           have G4 := mkHid (block_old bW (block_old b1 (h30 _ _ _ _)))
           have G2 := mkHid (block_old bW (block_old b1 (h31 _ _ _ _)))
           have G3 := mkHid (block_old bW (block_old b1 (h32 _ _ _ _)))
           have G6 : Hid (W.heap[w1.heap.size]? = some (.cells #[.int .i64 k, .string f, .int .i64 fn, .string l, .int .i64 ln, .string t] 44 (0, 0))) := by show _ = _; rw [hW]; exact h10 _ _
           clear b1 bW)
        | ((with_reducible refine at_op (.store 44 (.tmp 7) (.tmp 10)) ?_)
           refine wpList_store_row rfl 44 (.tmp 7) (.tmp 10) rfl w1.heap.size _ rfl rfl 44 chg0A (h10 _ _) size44 rfl (by simp [Value.oneCell']) ?_
           rw [World.setRow_alloc_new, ← hW]
           obtain ⟨p0, p1, p2, p3⟩ := cell4 G4.out
           obtain ⟨q0, q1⟩ := cell2 G3.out
           clear hW)
        | (go_at_call 62; (with_reducible refine (k1.out _ HB1.out).mono ?_); rintro e w2 ⟨rfl, b2⟩; have HB2 := mkHid (below_then HB1.out b2)
           obtain ⟨u0, u1, u2, u3, u4, u5⟩ := cell6 (block_old b2 G6.out)
           obtain ⟨v0, v1⟩ := cell2 (block_old b2 G2.out); clear b2))
      go_ret
      exact ⟨by rw [HE.out]; rfl, HB2.out⟩
  · go_enter Tryd.func49, Tryd.ntmps49
    go_wp2_with (first
        | (go_at_call 63; (with_reducible refine (k2.out _ HO.out).mono ?_); rintro e w1 ⟨rfl, b1⟩
           obtain ⟨W, hW⟩ : ∃ W, W = w1.alloc (.cells #[.int .i64 k, .string f, .int .i64 fn, .string l, .int .i64 ln, .string t] 44) := ⟨_, rfl⟩
           have bW := old1 w1 (.cells #[.int .i64 k, .string f, .int .i64 fn, .string l, .int .i64 ln, .string t] 44)
           rw [← hW] at bW
           have HB1 := mkHid (below_then (below_then HO.out b1) bW)
           have G4 := mkHid (block_old bW (block_old b1 (h30 _ _ _ _)))
           have G3 := mkHid (block_old bW (block_old b1 (h32 _ _ _ _)))
           clear b1 bW)
        | ((with_reducible refine at_op (.store 44 (.tmp 7) (.tmp 10)) ?_)
           refine wpList_store_row rfl 44 (.tmp 7) (.tmp 10) rfl w1.heap.size _ rfl rfl 44 chg0A (h10 _ _) size44 rfl (by simp [Value.oneCell']) ?_
           rw [World.setRow_alloc_new, ← hW]
           obtain ⟨p0, p1, p2, p3⟩ := cell4 G4.out
           obtain ⟨q0, q1⟩ := cell2 G3.out
           clear hW)
        | (go_at_call 62; (with_reducible refine (k1.out _ HB1.out).mono ?_); rintro e w2 ⟨rfl, b2⟩; have HB2 := mkHid (below_then HB1.out b2); clear b2))
    go_ret
    exact ⟨by rw [HE.out]; rfl, HB2.out⟩

theorem hasLine_old (w : World) (nm fq q : ByteArray) (tg : Bool) (nv cv : Value) (needs : List Txt) (chs : List Chg) (fm n : Int) (hn : LiesS w nv needs) (hv : LiesC w cv chs) (hl1 : needs.length ≤ 1000000) (hl : chs.length ≤ 1000000) (b : Bool) (hb : b = hasLine nm.data.toList needs chs (fq.data.toList, fm) (q.data.toList, n)) :
    Hid (∀ w', Old w w' → Calls Tryd.prog 49 #[.agg #[.string nm, .bool tg, nv, cv], .agg #[.string fq, .int .i64 fm], .agg #[.string q, .int .i64 n]] w' fun e w'' => e = .returned (.bool b) ∧ Old w' w'') := by
  subst hb
  exact fun w' h => hasLine_walk w' nm fq q tg nv cv needs chs fm n (hn.old h) (hv.old h) hl1 hl

end Go.Proofs.YtfkfaaifchafjaaDoor
