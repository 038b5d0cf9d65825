/-
  Print walked.
-/
import Derived.Test.YtfkfaaifchafjaaDoorDb
set_option linter.unusedSimpArgs false
set_option linter.unusedVariables false
namespace Go.Proofs.YtfkfaaifchafjaaDoor
open Go.RowKit

theorem bld_old {B b : Nat} {l : List UInt8} {w w' : World} (h : Bld B b l w) (hb : Old w w') : Bld B b l w' := by
  have hg : w.grownBy w' none := World.grownBy.mk hb.os hb.tape hb.output hb.size (fun k hk _ => hb.block k hk)
  have key : ∀ p, Lib.BuilderAtF 56 5 B b p (Lib.byteCells l) w → Lib.BuilderAtF 56 5 B b p (Lib.byteCells l) w' := by
    rintro p ⟨hB, v, hbk, hown, hne⟩
    refine ⟨hB, v, block_old hb hbk, hown.kept hg ?_, hne⟩
    cases v.ownBlock with
    | none => exact .inl rfl
    | some j => exact .inr (by simp)
  rcases h with h | h
  · exact .inl (key _ h)
  · exact .inr (key _ h)

theorem flat_len {α β : Type} (f : α → List β) (c : Nat) : ∀ (l : List α), (∀ x ∈ l, (f x).length ≤ c) → (l.flatMap f).length ≤ c * l.length
  | [], _ => by simp
  | x :: l, h => by
    have h1 := h x (by simp)
    have h2 := flat_len f c l (fun y hy => h y (List.mem_cons_of_mem _ hy))
    rw [List.flatMap_cons, List.length_append, List.length_cons, Nat.mul_succ]
    omega

/-- What Check found right. -/
structure CK (nm : Txt) (tg : Bool) (needs : List Txt) (chs : List Chg) : Prop where
  hr : rightL nm = true
  hn : needsOk nm needs = true
  hc : countOk tg chs.length = true
  hg : ∀ k, k < chs.length → chgOk nm needs (chs.take k) (chs.getD k chg0) = true

theorem CK.of {nm : Txt} {tg : Bool} {needs : List Txt} {chs : List Chg} (h : checkM (nm, tg, needs, chs) = true) : CK nm tg needs chs := by
  unfold checkM at h
  simp only [Bool.and_eq_true] at h
  refine ⟨h.1.1.1, h.1.1.2, h.1.2, fun k hk => ?_⟩
  have := h.2
  unfold chgsOk at this
  rw [List.all_eq_true] at this
  exact this k (by simpa using hk)

theorem CK.len {nm : Txt} {tg : Bool} {needs : List Txt} {chs : List Chg} (h : CK nm tg needs chs) : chs.length ≤ 40 := by
  have := h.hc
  unfold countOk at this
  cases tg
  · simp at this; omega
  · simp at this; rw [this]; simp

theorem CK.at {nm : Txt} {tg : Bool} {needs : List Txt} {chs : List Chg} (h : CK nm tg needs chs) {k : Nat} (hk : k < chs.length) : idOk (chs.getD k chg0).2.1 = true ∧ idOk (chs.getD k chg0).2.2.1 = true ∧ (chs.getD k chg0).2.2.2.length ≤ 40 := by
  have hl := h.len
  have hz : idOk zid = true := by decide
  rcases chgOk_form h.hr h.hn (by simp; omega) (h.hg k hk) with ⟨t, e, ht⟩ | ⟨f, t, e, hf, ht⟩ | ⟨f, e, hf⟩ | ⟨f, l, t, e, hf, hL, ht⟩ | ⟨f, l, e, hf, hL⟩
  · rw [e]; exact ⟨hz, hz, by have := (right_len ht).2; simp only; omega⟩
  · rw [e]; exact ⟨hf, hz, by have := (right_len ht).2; simp only; omega⟩
  · rw [e]; exact ⟨hf, hz, by simp⟩
  · rw [e]; refine ⟨hf, hL, ?_⟩
    unfold lineL at ht
    simp only [Bool.and_eq_true, decide_eq_true_eq] at ht
    exact ht.1
  · rw [e]; exact ⟨hf, hL, by simp⟩

theorem chgT_len (c : Chg) (hf : idOk c.2.1 = true) (hl : idOk c.2.2.1 = true) (ht : c.2.2.2.length ≤ 40) : (chgT c ++ [10]).length ≤ 81 := by
  have h1 := idT_len hf
  have h2 := idT_len hl
  unfold chgT chgW wordsT
  split
  · simp [wMake]; omega
  split
  · simp [wName]; omega
  split
  · simp [wDrop]; omega
  split
  · simp [wPut]; omega
  · simp [wCut]; omega

/-- what is printed when k changes are -/
def accT (nm : Txt) (tg : Bool) (needs : List Txt) (chs : List Chg) (k : Nat) : Txt :=
  wordsT (if tg then wTag else wPatch) [nm] ++ [10] ++ (wordsT wNeeds needs ++ [10]) ++ (chs.take k).flatMap fun c => chgT c ++ [10]

theorem accT_succ (nm : Txt) (tg : Bool) (needs : List Txt) (chs : List Chg) (k : Nat) (hk : k < chs.length) : accT nm tg needs chs (k + 1) = accT nm tg needs chs k ++ (chgT (chs.getD k chg0) ++ [10]) := by
  unfold accT
  rw [List.take_succ_eq_append_getElem hk, List.flatMap_append]
  simp [hk]

theorem needs_len {nm : Txt} {tg : Bool} {needs : List Txt} {chs : List Chg} (h : CK nm tg needs chs) : (wordsT wNeeds needs).length ≤ 5 + 9 * needs.length := by
  unfold wordsT
  rw [List.length_append]
  have := flat_len (fun x : Txt => (32 : UInt8) :: x) 9 needs (fun x hx => by
    have := (right_len (needs_right h.hn hx).1).2
    simp; omega)
  exact Nat.add_le_add (Nat.le_of_eq rfl) this

theorem accT_len {nm : Txt} {tg : Bool} {needs : List Txt} {chs : List Chg} (h : CK nm tg needs chs) (k : Nat) : (accT nm tg needs chs k).length ≤ 4000 + 9 * needs.length := by
  have h1 := needs_len h
  have h2 := (right_len h.hr).2
  have h3 := flat_len (fun c : Chg => chgT c ++ [10]) 81 (chs.take k) (fun c hc => by
    obtain ⟨j, hj, rfl⟩ := List.getElem_of_mem (List.mem_of_mem_take hc)
    have := h.at hj
    rw [show chs.getD j chg0 = chs[j] by simp [hj]] at this
    exact chgT_len _ this.1 this.2.1 this.2.2)
  have h4 : (chs.take k).length ≤ 40 := by have := h.len; simp; omega
  have h5 : (wordsT (if tg then wTag else wPatch) [nm]).length ≤ 6 + nm.length := by
    cases tg <;> simp [wordsT, wTag, wPatch] <;> omega
  unfold accT
  simp only [List.length_append, List.length_singleton] at h1 h3 h5 ⊢
  omega

theorem accT_all (nm : Txt) (tg : Bool) (needs : List Txt) (chs : List Chg) : accT nm tg needs chs chs.length = printM (nm, tg, needs, chs) := by
  unfold accT printM
  rw [List.take_length]

set_option maxHeartbeats 1000000 in
theorem print_bad (w : World) (nm : ByteArray) (tg : Bool) (nv cv : Value) (needs : List Txt) (chs : List Chg) (hm : MF w nm tg nv cv needs chs) (hsm : Small (nm.data.toList, tg, needs, chs)) (h : checkM (nm.data.toList, tg, needs, chs) = false) :
    Calls Tryd.prog 9 #[.agg #[.string nm, .bool tg, nv, cv]] w fun e w' => e = .returned (.tuple #[.string ⟨#[]⟩, .int .i64 1]) ∧ Old w w' := by
  have HO := mkHid (old1 w (.cells #[.string nm, .bool tg, nv, cv] 26))
  have kc : Hid (∀ w', Old w w' → Calls Tryd.prog 15 #[.agg #[.string nm, .bool tg, nv, cv]] w' fun e w'' => e = .returned (.int .i64 1) ∧ Old w' w'') := fun w' ho => by
    have := check_any w' nm tg nv cv needs chs (hm.old ho) hsm
    rw [h] at this; exact this
  obtain ⟨⟨ao, acap, rfl, -⟩, hvv, -, -⟩ := hm
  obtain ⟨-, bo, bcap, rfl, -⟩ := hvv
  clear hsm h
  go_enter Tryd.func9, Tryd.ntmps9
  go_wp2_with (go_at_call 15; (with_reducible refine (kc.out _ HO.out).mono ?_); rintro e w1 ⟨rfl, b1⟩)
  go_ret2
  exact ⟨rfl, below_then HO.out b1⟩

/-- Print's state behind Check: the patch's block, and all that stood. -/
structure PR (w w1 x : World) (nm : ByteArray) (tg : Bool) (nv cv : Value) : Prop where
  p : x.heap[w.heap.size]? = some (.cells #[.string nm, .bool tg, nv, cv] 26 (0, 0))
  b : Below w1.heap.size w1 x
  o : Old w x

theorem PR.next {w w1 x y : World} {nm : ByteArray} {tg : Bool} {nv cv : Value} (h : PR w w1 x nm tg nv cv) (hl : w.heap.size < w1.heap.size) (hb : Below w1.heap.size x y) : PR w w1 y nm tg nv cv :=
  ⟨by rw [hb.block _ hl]; exact h.p, h.b.trans hb, h.o.trans (hb.mono (Nat.le_of_lt hl))⟩

theorem PR.nextO {w w1 x y : World} {nm : ByteArray} {tg : Bool} {nv cv : Value} (h : PR w w1 x nm tg nv cv) (hl : w.heap.size < w1.heap.size) (hb : Old x y) : PR w w1 y nm tg nv cv :=
  h.next hl (hb.mono h.b.size)

set_option maxRecDepth 20000 in
set_option maxHeartbeats 4000000 in
theorem print_good (w : World) (nm : ByteArray) (tg : Bool) (nv cv : Value) (needs : List Txt) (chs : List Chg) (hm : MF w nm tg nv cv needs chs) (hsm : Small (nm.data.toList, tg, needs, chs)) (h : checkM (nm.data.toList, tg, needs, chs) = true) (s : ByteArray) (hs : s = ⟨(printM (nm.data.toList, tg, needs, chs)).toArray⟩) :
    Calls Tryd.prog 9 #[.agg #[.string nm, .bool tg, nv, cv]] w fun e w' => e = .returned (.tuple #[.string s, .int .i64 0]) ∧ Old w w' := by
  have HCK := mkHid (CK.of h)
  have HO := mkHid (old1 w (.cells #[.string nm, .bool tg, nv, cv] 26))
  have kc : Hid (∀ w', Old w w' → Calls Tryd.prog 15 #[.agg #[.string nm, .bool tg, nv, cv]] w' fun e w'' => e = .returned (.int .i64 0) ∧ Old w' w'') := fun w' ho => by
    have := check_any w' nm tg nv cv needs chs (hm.old ho) hsm
    rw [h] at this; exact this
  obtain ⟨F, hF⟩ : ∃ F : ByteArray, F = ⟨(wordsT (if tg then wTag else wPatch) [nm.data.toList] ++ [10]).toArray⟩ := ⟨_, rfl⟩
  have kf : Hid (∀ w, Calls Tryd.prog 22 #[.agg #[.string nm, .bool tg, nv, cv]] w fun e w' => e = .returned (.string F) ∧ Old w w') := fun w => firstLine_walk w nm tg nv cv (by rw [size_list]; exact hsm.nm) F hF
  obtain ⟨G, hG⟩ : ∃ G : ByteArray, G = ⟨(wordsT wNeeds needs ++ [10]).toArray⟩ := ⟨_, rfl⟩
  have hn1 := hm.l1
  have kg := words_hid ⟨#[110, 101, 101, 100, 115]⟩ needs (by have := needs_len HCK.out; show (wordsT wNeeds needs).length ≤ _; omega) hn1 G hG
  have kF := write_hid F
  have kG := write_hid G
  have HM := mkHid hm
  have HN1 := mkHid hn1
  have kS := fun b => string_hid b b (printM (nm.data.toList, tg, needs, chs)) s hs
  have HKS := mkHid kS
  have HAL := mkHid (accT_len HCK.out)
  have HF := mkHid hF
  have HG := mkHid hG
  obtain ⟨⟨ao, acap, rfl, -⟩, hvv, -, -⟩ := hm
  obtain ⟨-, bo, bcap, rfl, -⟩ := hvv
  obtain ⟨m, hM⟩ : ∃ m, m = chs.length := ⟨_, rfl⟩
  rw [← hM] at HM kf kc HO ⊢
  have HMM := mkHid hM
  clear hM hs hsm h hF hG hn1 kS
  go_enter Tryd.func9, Tryd.ntmps9
  go_upto_region 4 with (first
    | (go_at_call 15; (with_reducible refine (kc.out _ HO.out).mono ?_); rintro e w1 ⟨rfl, b1⟩
       have HB1 := mkHid (below_then HO.out b1)
       have HP1 := mkHid (block_old b1 (h10 _ _)); clear b1))
  go_upto_region 5 with (fail)
  obtain ⟨b, hb⟩ : ∃ b, b = w1.heap.size := ⟨_, rfl⟩
  obtain ⟨W2, hW2⟩ : ∃ W2, W2 = w1.alloc (.cells #[.pointer none, .slice none 0 0] 56) := ⟨_, rfl⟩
  have HLT : Hid (w.heap.size < w1.heap.size) := (Array.getElem?_eq_some_iff.1 HP1.out).1
  have HPR : Hid (PR w w1 W2 nm tg (.slice ao needs.length acap) (.slice bo m bcap)) := by
    show PR _ _ _ _ _ _ _
    rw [hW2]
    exact ⟨block_old (old1 _ _) HP1.out, old1 _ _, HB1.out.trans ((old1 _ _).mono (Nat.le_of_lt HLT.out))⟩
  have HD2 : Hid (Bld b b [] W2) := by show Bld _ _ _ _; rw [hW2, hb]; exact bld_new w1
  have HBB := mkHid hb
  rw [← hb, ← hW2]
  clear hW2 hb HB1 HP1 HO
  obtain ⟨p0, p1, p2, p3⟩ := cell4 HPR.out.p
  have HF0 : Hid (([] : List UInt8).length + F.size ≤ 140737488355328) := by
    show _ ≤ _
    have h1 := HAL.out 0
    have h2 : F.size = (wordsT (if tg then wTag else wPatch) [nm.data.toList] ++ [10]).length := by rw [HF.out]; rfl
    unfold accT at h1
    simp only [List.length_append] at h1 h2
    have h3 := HN1.out
    simp only [List.length_nil]
    omega
  have HG0 : Hid (([] ++ F.data.toList).length + G.size ≤ 140737488355328) := by
    show _ ≤ _
    have h1 := HAL.out 0
    have h2 : F.data.toList.length = (wordsT (if tg then wTag else wPatch) [nm.data.toList] ++ [10]).length := by rw [HF.out]
    have h4 : G.size = (wordsT wNeeds needs ++ [10]).length := by rw [HG.out]; rfl
    unfold accT at h1
    simp only [List.length_append] at h1 h2 h4
    have h3 := HN1.out
    simp only [List.nil_append]
    omega
  go_upto_region 7 with (first
    | (go_at_call 22; (with_reducible refine (kf.out _).mono ?_); rintro e w3 ⟨rfl, b3⟩
       have HP3 := mkHid (HPR.out.nextO HLT.out b3)
       have HD3 := mkHid (bld_old HD2.out b3); clear b3)
    | (go_at_call 21; (with_reducible refine (kF.out b b [] _ HD3.out HF0.out (HBB.out ▸ HP3.out.b.size)).mono ?_); rintro e w4 ⟨rfl, h4, b4, -⟩
       have HP4 := mkHid (HP3.out.next HLT.out (HBB.out ▸ b4))
       have HD4 := mkHid h4
       obtain ⟨p0, p1, p2, p3⟩ := cell4 HP4.out.p
       clear h4 b4)
    | (go_at_call 23; (with_reducible refine (kg.out _ _ (HM.out.hn.old HP4.out.o)).mono ?_); rintro e w5 ⟨rfl, b5⟩
       have HP5 := mkHid (HP4.out.nextO HLT.out b5)
       have HD5 := mkHid (bld_old HD4.out b5); clear b5)
    | (go_at_call 21; (with_reducible refine (kG.out b b _ _ HD5.out HG0.out (HBB.out ▸ HP5.out.b.size)).mono ?_); rintro e w6 ⟨rfl, h6, b6, -⟩
       have HP6 := mkHid (HP5.out.next HLT.out (HBB.out ▸ b6))
       have HD6 := mkHid h6
       obtain ⟨p0, p1, p2, p3⟩ := cell4 HP6.out.p
       clear h6 b6))
  have HD7 : Hid (Bld b b (accT nm.data.toList tg needs chs 0) w6) := by
    show Bld _ _ _ _
    have e : accT nm.data.toList tg needs chs 0 = [] ++ F.data.toList ++ G.data.toList := by
      unfold accT; rw [HF.out, HG.out]; simp
    rw [e]; exact HD6.out
  clear HD2 HPR HP3 HD3 HP4 HD4 HP5 HD5 HD6 HF0 HG0 kf kg kF kG kc
  go_wp2
  go_loopw [23] (fun i wr => ∃ k : Nat, k ≤ m ∧ i = .int .i64 k ∧ Hid (Bld b b (accT nm.data.toList tg needs chs k) wr) ∧ Hid (PR w w1 wr nm tg (.slice ao needs.length acap) (.slice bo m bcap))) (fun i _ => m - (intOf i).toNat)
  case atStart => exact ⟨0, by omega, rfl, HD7, HP6⟩
  case round =>
    obtain ⟨k, hk, rfl, HD, HP⟩ := hrel
    clear p0 p1 p2 p3 HD7 HP6
    have hm40 : m ≤ 40 := by have h1 := HCK.out.len; have h2 := HMM.out; omega
    have HM40 := mkHid hm40
    clear hm40
    by_cases hkm : k < m
    · have hk2 : k < chs.length := by rw [← HMM.out]; exact hkm
      obtain ⟨b0, off, cap', he, hcap, hcc⟩ := HM.out.hv.form (by omega)
      obtain rfl : bo = some ⟨b0, off, none⟩ := by cases he; rfl
      obtain rfl : cap' = bcap := by cases he; rfl
      have hrg := LiesC.range hcc k hk2
      have hid := HCK.out.at hk2
      obtain ⟨kk, f, fn, l, ln, t, hc⟩ := chg_letters (chs.getD k chg0)
      obtain ⟨S, hS⟩ : ∃ S : ByteArray, S = ⟨(chgT (chs.getD k chg0) ++ [10]).toArray⟩ := ⟨_, rfl⟩
      have hsu := accT_succ nm.data.toList tg needs chs k hk2
      have hal1 := HAL.out (k + 1)
      have HLN : Hid ((accT nm.data.toList tg needs chs k).length + S.size ≤ 140737488355328) := by
        show _ ≤ _
        have e : S.size = (chgT (chs.getD k chg0) ++ [10]).length := by rw [hS]; rfl
        rw [hsu, List.length_append] at hal1
        have := HN1.out
        omega
      have HE : Hid (accT nm.data.toList tg needs chs k ++ S.data.toList = accT nm.data.toList tg needs chs (k + 1)) := by show _ = _; rw [hsu, hS]
      rw [hc] at hrg hS hid
      have kL : Hid (∀ w, Calls Tryd.prog 24 #[.agg #[.int .i64 kk, .string f, .int .i64 fn, .string l, .int .i64 ln, .string t]] w fun e w' => e = .returned (.string S) ∧ Old w w') :=
        fun w => changeLine_walk w kk f l t fn ln (by rw [size_list]; have h := hid.2.2; simp only at h; omega) hid.1 hid.2.1 S hS
      have kS := write_hid S
      have HR := mkHid (range_old hrg HP.out.o)
      obtain ⟨p0, p1, p2, p3⟩ := cell4 HP.out.p
      have hwk : wrap64 ((k : Int) + 1) = (k : Int) + 1 := by have := HM40.out; unfold wrap64; omega
      have HWK := mkHid hwk
      have hk0 : (k : Int) < (m : Int) := by omega
      obtain ⟨fs, hfs⟩ := under44
      clear hcc he hc hrg hcap hid hS hsu hal1 hk2
      go_wp2_with (first
        | ((with_reducible refine at_op (.load 44 (.tmp 25)) ?_); refine wpList_load_mid rfl 44 (.tmp 25) rfl b0 (off + k * 6) rfl _ _ HR.out hfs rfl size44 ?_
           rw [encC_let])
        | ((with_reducible refine at_op (.store 44 (.tmp 7) (.tmp 26)) ?_)
           refine wpList_store_row rfl 44 (.tmp 7) (.tmp 26) rfl wr.heap.size _ rfl rfl 44 chg0A (h10 _ _) size44 rfl (by simp [Value.oneCell']) ?_
           rw [World.setRow_alloc_new]
           obtain ⟨W1, hW1⟩ : ∃ W1, W1 = wr.alloc (.cells #[.int .i64 kk, .string f, .int .i64 fn, .string l, .int .i64 ln, .string t] 44) := ⟨_, rfl⟩
           have b1 : Old wr W1 := by rw [hW1]; exact old1 _ _
           have HPa := mkHid (HP.out.nextO HLT.out b1)
           have HDa := mkHid (bld_old HD.out b1)
           have G6 : Hid (W1.heap[wr.heap.size]? = some (.cells #[.int .i64 kk, .string f, .int .i64 fn, .string l, .int .i64 ln, .string t] 44 (0, 0))) := by show _ = _; rw [hW1]; exact h10 _ _
           rw [← hW1]
           obtain ⟨r0, r1, r2, r3, r4, r5⟩ := cell6 G6.out
           clear b1 hW1)
        | (go_at_call 24; (with_reducible refine (kL.out _).mono ?_); rintro e w2 ⟨rfl, b2⟩
           have HPb := mkHid (HPa.out.nextO HLT.out b2)
           have HDb := mkHid (bld_old HDa.out b2); clear b2)
        | (go_at_call 21; (with_reducible refine (kS.out b b _ _ HDb.out HLN.out (HBB.out ▸ HPb.out.b.size)).mono ?_); rintro e w3 ⟨rfl, h3, b3, -⟩
           have HPc := mkHid (HPb.out.next HLT.out (HBB.out ▸ b3))
           have HDc := mkHid h3
           clear h3 b3))
      go_roundw
      case rel => exact ⟨k + 1, by omega, by rw [HWK.out]; go_num, HE.out ▸ HDc.out, HPc⟩
      case measure =>
        have e := HWK.out
        rw [e]
        exact meas hkm
    · have hkk : k = m := by omega
      subst hkk
      have HE : Hid (accT nm.data.toList tg needs chs k = printM (nm.data.toList, tg, needs, chs)) := by show _ = _; rw [HMM.out]; exact accT_all _ _ _ _
      rw [HE.out] at HD
      go_wp2_with (go_at_call 25; (with_reducible refine ((HKS.out b).out _ HD.out (HBB.out ▸ HP.out.b.size)).mono ?_); rintro e w2 ⟨rfl, b2⟩)
      go_ret2
      exact ⟨rfl, (HP.out.next HLT.out (HBB.out ▸ b2)).o⟩

/-- Print, whatever it is handed. -/
theorem print_any (w : World) (nm : ByteArray) (tg : Bool) (nv cv : Value) (needs : List Txt) (chs : List Chg) (hm : MF w nm tg nv cv needs chs) (hsm : Small (nm.data.toList, tg, needs, chs)) (s : ByteArray) (n : Int)
    (hs : s = if checkM (nm.data.toList, tg, needs, chs) then ⟨(printM (nm.data.toList, tg, needs, chs)).toArray⟩ else ⟨#[]⟩) (hn : n = if checkM (nm.data.toList, tg, needs, chs) then 0 else 1) :
    Calls Tryd.prog 9 #[.agg #[.string nm, .bool tg, nv, cv]] w fun e w' => e = .returned (.tuple #[.string s, .int .i64 n]) ∧ Old w w' := by
  cases h : checkM (nm.data.toList, tg, needs, chs) with
  | false =>
    rw [h] at hs hn
    subst hs
    subst hn
    exact print_bad w nm tg nv cv needs chs hm hsm h
  | true =>
    rw [h] at hs hn
    subst hn
    exact print_good w nm tg nv cv needs chs hm hsm h s hs
end Go.Proofs.YtfkfaaifchafjaaDoor
