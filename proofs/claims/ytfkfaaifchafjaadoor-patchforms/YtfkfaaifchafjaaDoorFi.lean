/-
  change: put, cut.
-/
import Derived.Test.YtfkfaaifchafjaaDoorFh
set_option linter.unusedSimpArgs false
set_option linter.unusedVariables false
namespace Go.Proofs.YtfkfaaifchafjaaDoor
open Go.RowKit

set_option maxHeartbeats 2000000 in
set_option maxRecDepth 20000 in
theorem change_cut (B : Nat) (w : World) (R : Nat) (rest : Txt) (n : Nat) (p : Pat) (h : Rd B w R rest n p) (s : ByteArray) (hs : s.size ≤ 1000000) (hw : (cutB 32 s.data.toList).1 = wCut) (hcut : (cutB 32 (cutB 32 s.data.toList).2.1).2.2 = true) :
    Calls Tryd.prog 45 #[.pointer (some ⟨R, 0, none⟩), .string s] w (ChgP n s.data.toList w) := by
  obtain ⟨t, ht⟩ : ∃ t, t = str (cutB 32 s.data.toList).1 := ⟨_, rfl⟩
  obtain ⟨rl, hrl⟩ : ∃ rl, rl = (cutB 32 s.data.toList).2.1 := ⟨_, rfl⟩
  obtain ⟨r, hr⟩ : ∃ r, r = str rl := ⟨_, rfl⟩
  obtain ⟨f, hf⟩ : ∃ f, f = (cutB 32 s.data.toList).2.2 := ⟨_, rfl⟩
  have kc := cut_full s 32 hs t r f ht (by rw [hr, hrl]) hf
  have e1 : (t.toList == [109, 97, 107, 101]) = false := word_eq ht hw _ _ rfl
  have e2 : (t.toList == [110, 97, 109, 101]) = false := word_eq ht hw _ _ rfl
  have e3 : (t.toList == [100, 114, 111, 112]) = false := word_eq ht hw _ _ rfl
  have e4 : (t.toList == [112, 117, 116]) = false := word_eq ht hw _ _ rfl
  have e5 : (t.toList == [99, 117, 116]) = true := word_eq ht hw _ _ rfl
  obtain ⟨al, hal⟩ : ∃ al, al = (cutB 32 rl).1 := ⟨_, rfl⟩
  obtain ⟨bl, hbl⟩ : ∃ bl, bl = (cutB 32 rl).2.1 := ⟨_, rfl⟩
  obtain ⟨q, hq⟩ : ∃ q, q = (idC al).1 := ⟨_, rfl⟩
  obtain ⟨m, hm⟩ : ∃ m, m = (idC al).2 := ⟨_, rfl⟩
  obtain ⟨dd, hd⟩ : ∃ dd, dd = (idM al).isNone := ⟨_, rfl⟩
  obtain ⟨q2, hq2⟩ : ∃ q2, q2 = (idC bl).1 := ⟨_, rfl⟩
  obtain ⟨m2, hm2⟩ : ∃ m2, m2 = (idC bl).2 := ⟨_, rfl⟩
  obtain ⟨d2, hd2⟩ : ∃ d2, d2 = (idM bl).isNone := ⟨_, rfl⟩
  have hrs : rl.length ≤ 1000000 := by
    have := (cutB_len 32 s.data.toList).2.1
    rw [size_list] at hs
    rw [hrl]
    omega
  have has : al.length ≤ 1000000 := by
    have := (cutB_len 32 rl).1
    rw [hal]
    omega
  have hbs : bl.length ≤ 1000000 := by
    have := (cutB_len 32 rl).2.1
    rw [hbl]
    omega
  have hc : chgM s.data.toList = (idM al).bind fun f => (idM bl).map fun l => (5, f, l, []) := by
    unfold chgM
    simp only [hw, ← hrl]
    rw [if_neg (by decide), if_neg (by decide), if_neg (by decide), if_neg (by decide), if_pos trivial, if_pos (by rw [hrl]; exact hcut), ← hal, ← hbl]
  have HN : Hid (idM al = none → chgM s.data.toList = none) := fun e => by rw [hc, e]; rfl
  have HN2 : Hid (idM bl = none → chgM s.data.toList = none) := fun e => by rw [hc, e]; cases idM al <;> rfl
  have HC : Hid (dd = false → d2 = false → ∃ c, chgM s.data.toList = some c ∧ (encC c).toArray = #[.int .i64 5, .string q, .int .i64 m, .string q2, .int .i64 m2, .string ⟨#[]⟩]) := fun e e2 => by
    rw [hd] at e
    rw [hd2] at e2
    cases hx : idM al with
    | none => rw [hx] at e; cases e
    | some x =>
      cases hy : idM bl with
      | none => rw [hy] at e2; cases e2
      | some y =>
        refine ⟨(5, x, y, []), by rw [hc, hx]; simp only [Option.bind_some]; rw [hy]; rfl, ?_⟩
        rw [hq, hm, hq2, hm2]
        unfold idC
        rw [hx, hy]
        rfl
  have kp := fun (w : World) (hw : Rd B w R rest n p) => wordsR_yes B w R rest n p hw r 2 (by rw [hr, str_size]; exact hrs) (by decide) (by decide) [al, bl] (by
    rw [hr, str_size, str_list, words2, if_pos (by rw [hrl]; exact hcut), ← hal, ← hbl]) rfl
  have ki := fun (w : World) (hw : Rd B w R rest n p) => idOf_try B w R rest n p hw (str al) (by rw [str_size]; exact has) q (by rw [str_list]; exact hq) m (by rw [str_list]; exact hm) dd (by rw [str_list]; exact hd)
  have KP : Hid (∀ w : World, Rd B w R rest n p → Calls Tryd.prog 60 #[.pointer (some ⟨R, 0, none⟩), .string r, .int .i64 2] w fun e w' => ∃ N, e = .returned (.slice (some ⟨w.heap.size, 0, none⟩) 2 N) ∧ RowS w' (.slice (some ⟨w.heap.size, 0, none⟩) 2 N) [al, bl] ∧ Old w w') := kp
  have KI := mkHid ki
  have ki2 := fun (w : World) (hw : Rd B w R rest n p) => idOf_try B w R rest n p hw (str bl) (by rw [str_size]; exact hbs) q2 (by rw [str_list]; exact hq2) m2 (by rw [str_list]; exact hm2) d2 (by rw [str_list]; exact hd2)
  have KI2 := mkHid ki2
  have H0 := mkHid (h.old (old1 w (.cells #[.int .i64 0, .string ⟨#[]⟩, .int .i64 0, .string ⟨#[]⟩, .int .i64 0, .string ⟨#[]⟩] 44)) h.size)
  have HZ := mkHid (h10 w (.cells #[.int .i64 0, .string ⟨#[]⟩, .int .i64 0, .string ⟨#[]⟩, .int .i64 0, .string ⟨#[]⟩] 44))
  have HO := mkHid (old1 w (.cells #[.int .i64 0, .string ⟨#[]⟩, .int .i64 0, .string ⟨#[]⟩, .int .i64 0, .string ⟨#[]⟩] 44))
  clear hs hw ht hr hf h hc hrl hal hbl hq hm hd hrs has kp ki hcut hq2 hm2 hd2 hbs ki2
  go_enter Tryd.func45, Tryd.ntmps45
  go_upto_region 15 with (first
    | (go_at_call 58; (with_reducible refine (kc.out _ H0.out.e.e).mono ?_); rintro e w2 ⟨rfl, k2, rfl⟩)
    | (go_at_call 60; (with_reducible refine (KP.out _ (H0.out.drew k2 H0.out.size)).mono ?_); rintro e w3 ⟨N, rfl, hrow, b3⟩
       obtain ⟨g, hg⟩ : ∃ g, g = ((w.alloc (.cells #[.int .i64 0, .string ⟨#[]⟩, .int .i64 0, .string ⟨#[]⟩, .int .i64 0, .string ⟨#[]⟩] 44)).drewN k2).heap.size := ⟨_, rfl⟩
       rw [← hg] at hrow ⊢
       have HROW := mkHid hrow
       have HB3 := mkHid b3
       clear hrow b3 hg))
  have hz3 := block_old HB3.out HZ.out
  have hR3 := (H0.out.drew k2 H0.out.size).old HB3.out H0.out.size
  have hO3 : Old w w3 := below_then (below_drewB HO.out k2) HB3.out
  have facts : Hid (∀ w1, Old w3 w1 → w1.cell? ⟨g, 0, none⟩ = some (.string (str al)) ∧ w1.cell? ⟨g, 1, none⟩ = some (.string (str bl))) := fun w1 h1 => ⟨cell_old h1 (row_cell HROW.out 0 al rfl), cell_old h1 (row_cell HROW.out 1 bl rfl)⟩
  have HZ3 := mkHid hz3
  have HR3 := mkHid hR3
  have HO3 := mkHid hO3
  clear hz3 hR3 hO3
  refine Rq.wp_region_try_lit (by kernel_rfl) (by kernel_rfl) (fun w1 => Old w3 w1) (fun w1 => ∃ W', Old w3 W' ∧ w1 = W'.setRow w.heap.size #[.int .i64 5, .string q, .int .i64 m, .string q2, .int .i64 m2, .string ⟨#[]⟩]) (.inl (by kernel_rfl)) (by decide)
    (fun ch w1 => DiesAt (n : Int) ch ∧ chgM s.data.toList = none ∧ Old w3 w1) ?_ ?_ ?_
  · exact (Below.refl _ w3).drew
  · rintro ch a w1 hd ⟨h1, h2, h3⟩
    exact ⟨hd, .inr ⟨h2, h1⟩, below_then HO3.out h3⟩
  · repeat (
      refine Rq.wpT_yes (by rfl) ?_ ?_ (fun w1 h1 => ?_) (fun K hK => ?_)
      rotate_left 2
      · obtain ⟨f0, f1⟩ := facts.out w1 h1
        go_simp
        first
          | exact Rq.upT_value h1
          | exact Rq.upT_skip h1
          | (refine Rq.upT_any (v := .agg #[.string q, .int .i64 m]) (dd := dd) ?_
             (with_reducible refine (KI.out w1 (HR3.out.old h1 HR3.out.size)).mono ?_)
             rintro e w4 (⟨h4, h5, h6⟩ | ⟨ch, h4, h5, h6, h7⟩)
             · exact .inl ⟨h4, h5, below_then h1 h6⟩
             · exact .inr ⟨ch, h4, h5, HN.out h6, below_then h1 h7⟩)
          | (refine Rq.upT_any (v := .agg #[.string q2, .int .i64 m2]) (dd := d2) ?_
             (with_reducible refine (KI2.out w1 (HR3.out.old h1 HR3.out.size)).mono ?_)
             rintro e w4 (⟨h4, h5, h6⟩ | ⟨ch, h4, h5, h6, h7⟩)
             · exact .inl ⟨h4, h5, below_then h1 h6⟩
             · exact .inr ⟨ch, h4, h5, HN2.out h6, below_then h1 h7⟩)
      go_simp
      refine hK _ _ ?_
      clear hK K)
    refine Rq.wpT_last (by rfl) undef false (fun w1 h1 => ?_) (fun K hK => ?_)
    · exact upT_store 44 (.tmp 4) (.tmp 76) rfl _ _ rfl rfl (run_storeAt_row w1 w.heap.size 44 44 _ _ (block_old h1 HZ3.out) size44 rfl (six_one _ _ _ _ _ _)) ⟨w1, h1, rfl⟩
    · go_simp
      refine hK _ _ (fun hd => ?_)
      clear hK K
      rintro w1 ⟨W', h1, rfl⟩
      obtain ⟨hda, hdb⟩ : d2 = false ∧ dd = false := by simpa using hd
      obtain ⟨c, hc1, hc2⟩ := HC.out hdb hda
      go_wp2
      exact bodyPost_ret (v := .agg #[.int .i64 5, .string q, .int .i64 m, .string q2, .int .i64 m2, .string ⟨#[]⟩]) (ret45 _ _ w.heap.size _ rfl (setRow_heap _ _ _ _ _ _ (block_old h1 HZ3.out)) rfl) rfl ⟨.inl ⟨c, hc1, by rw [hc2]⟩, below_setRow (below_then HO3.out h1) (Nat.le_refl _) _⟩
set_option maxHeartbeats 2000000 in
set_option maxRecDepth 20000 in
theorem change_put (B : Nat) (w : World) (R : Nat) (rest : Txt) (n : Nat) (p : Pat) (h : Rd B w R rest n p) (s : ByteArray) (hs : s.size ≤ 1000000) (hw : (cutB 32 s.data.toList).1 = wPut) (hcut : ((cutB 32 (cutB 32 s.data.toList).2.1).2.2 && (cutB 32 (cutB 32 (cutB 32 s.data.toList).2.1).2.1).2.2) = true) :
    Calls Tryd.prog 45 #[.pointer (some ⟨R, 0, none⟩), .string s] w (ChgP n s.data.toList w) := by
  obtain ⟨t, ht⟩ : ∃ t, t = str (cutB 32 s.data.toList).1 := ⟨_, rfl⟩
  obtain ⟨rl, hrl⟩ : ∃ rl, rl = (cutB 32 s.data.toList).2.1 := ⟨_, rfl⟩
  obtain ⟨r, hr⟩ : ∃ r, r = str rl := ⟨_, rfl⟩
  obtain ⟨f, hf⟩ : ∃ f, f = (cutB 32 s.data.toList).2.2 := ⟨_, rfl⟩
  have kc := cut_full s 32 hs t r f ht (by rw [hr, hrl]) hf
  have e1 : (t.toList == [109, 97, 107, 101]) = false := word_eq ht hw _ _ rfl
  have e2 : (t.toList == [110, 97, 109, 101]) = false := word_eq ht hw _ _ rfl
  have e3 : (t.toList == [100, 114, 111, 112]) = false := word_eq ht hw _ _ rfl
  have e4 : (t.toList == [112, 117, 116]) = true := word_eq ht hw _ _ rfl
  obtain ⟨al, hal⟩ : ∃ al, al = (cutB 32 rl).1 := ⟨_, rfl⟩
  obtain ⟨bl, hbl⟩ : ∃ bl, bl = (cutB 32 (cutB 32 rl).2.1).1 := ⟨_, rfl⟩
  obtain ⟨cl, hcl⟩ : ∃ cl, cl = (cutB 32 (cutB 32 rl).2.1).2.1 := ⟨_, rfl⟩
  obtain ⟨q, hq⟩ : ∃ q, q = (idC al).1 := ⟨_, rfl⟩
  obtain ⟨m, hm⟩ : ∃ m, m = (idC al).2 := ⟨_, rfl⟩
  obtain ⟨dd, hd⟩ : ∃ dd, dd = (idM al).isNone := ⟨_, rfl⟩
  obtain ⟨q2, hq2⟩ : ∃ q2, q2 = (idC bl).1 := ⟨_, rfl⟩
  obtain ⟨m2, hm2⟩ : ∃ m2, m2 = (idC bl).2 := ⟨_, rfl⟩
  obtain ⟨d2, hd2⟩ : ∃ d2, d2 = (idM bl).isNone := ⟨_, rfl⟩
  have hrs : rl.length ≤ 1000000 := by
    have := (cutB_len 32 s.data.toList).2.1
    rw [size_list] at hs
    rw [hrl]
    omega
  have has : al.length ≤ 1000000 := by
    have := (cutB_len 32 rl).1
    rw [hal]
    omega
  have hbs : bl.length ≤ 1000000 := by
    have := (cutB_len 32 rl).2.1
    have := (cutB_len 32 (cutB 32 rl).2.1).1
    rw [hbl]
    omega
  have hc : chgM s.data.toList = (idM al).bind fun f => (idM bl).map fun l => (4, f, l, cl) := by
    unfold chgM
    simp only [hw, ← hrl]
    rw [if_neg (by decide), if_neg (by decide), if_neg (by decide), if_pos trivial, if_pos (by rw [hrl]; exact hcut), ← hal, ← hbl, ← hcl]
  have HN : Hid (idM al = none → chgM s.data.toList = none) := fun e => by rw [hc, e]; rfl
  have HN2 : Hid (idM bl = none → chgM s.data.toList = none) := fun e => by rw [hc, e]; cases idM al <;> rfl
  have HC : Hid (dd = false → d2 = false → ∃ c, chgM s.data.toList = some c ∧ (encC c).toArray = #[.int .i64 4, .string q, .int .i64 m, .string q2, .int .i64 m2, .string (str cl)]) := fun e e2 => by
    rw [hd] at e
    rw [hd2] at e2
    cases hx : idM al with
    | none => rw [hx] at e; cases e
    | some x =>
      cases hy : idM bl with
      | none => rw [hy] at e2; cases e2
      | some y =>
        refine ⟨(4, x, y, cl), by rw [hc, hx]; simp only [Option.bind_some]; rw [hy]; rfl, ?_⟩
        rw [hq, hm, hq2, hm2]
        unfold idC
        rw [hx, hy]
        rfl
  have kp := fun (w : World) (hw : Rd B w R rest n p) => wordsR_yes B w R rest n p hw r 3 (by rw [hr, str_size]; exact hrs) (by decide) (by decide) [al, bl, cl] (by
    have := words3 rl
    rw [if_pos (by rw [hrl]; exact hcut)] at this
    rw [hr, str_size, str_list, this, ← hal, ← hbl, ← hcl]) rfl
  have ki := fun (w : World) (hw : Rd B w R rest n p) => idOf_try B w R rest n p hw (str al) (by rw [str_size]; exact has) q (by rw [str_list]; exact hq) m (by rw [str_list]; exact hm) dd (by rw [str_list]; exact hd)
  have KP : Hid (∀ w : World, Rd B w R rest n p → Calls Tryd.prog 60 #[.pointer (some ⟨R, 0, none⟩), .string r, .int .i64 3] w fun e w' => ∃ N, e = .returned (.slice (some ⟨w.heap.size, 0, none⟩) 3 N) ∧ RowS w' (.slice (some ⟨w.heap.size, 0, none⟩) 3 N) [al, bl, cl] ∧ Old w w') := kp
  have KI := mkHid ki
  have ki2 := fun (w : World) (hw : Rd B w R rest n p) => idOf_try B w R rest n p hw (str bl) (by rw [str_size]; exact hbs) q2 (by rw [str_list]; exact hq2) m2 (by rw [str_list]; exact hm2) d2 (by rw [str_list]; exact hd2)
  have KI2 := mkHid ki2
  have H0 := mkHid (h.old (old1 w (.cells #[.int .i64 0, .string ⟨#[]⟩, .int .i64 0, .string ⟨#[]⟩, .int .i64 0, .string ⟨#[]⟩] 44)) h.size)
  have HZ := mkHid (h10 w (.cells #[.int .i64 0, .string ⟨#[]⟩, .int .i64 0, .string ⟨#[]⟩, .int .i64 0, .string ⟨#[]⟩] 44))
  have HO := mkHid (old1 w (.cells #[.int .i64 0, .string ⟨#[]⟩, .int .i64 0, .string ⟨#[]⟩, .int .i64 0, .string ⟨#[]⟩] 44))
  clear hs hw ht hr hf h hc hrl hal hbl hcl hq hm hd hrs has kp ki hcut hq2 hm2 hd2 hbs ki2
  go_enter Tryd.func45, Tryd.ntmps45
  go_upto_region 12 with (first
    | (go_at_call 58; (with_reducible refine (kc.out _ H0.out.e.e).mono ?_); rintro e w2 ⟨rfl, k2, rfl⟩)
    | (go_at_call 60; (with_reducible refine (KP.out _ (H0.out.drew k2 H0.out.size)).mono ?_); rintro e w3 ⟨N, rfl, hrow, b3⟩
       obtain ⟨g, hg⟩ : ∃ g, g = ((w.alloc (.cells #[.int .i64 0, .string ⟨#[]⟩, .int .i64 0, .string ⟨#[]⟩, .int .i64 0, .string ⟨#[]⟩] 44)).drewN k2).heap.size := ⟨_, rfl⟩
       rw [← hg] at hrow ⊢
       have HROW := mkHid hrow
       have HB3 := mkHid b3
       clear hrow b3 hg))
  have hz3 := block_old HB3.out HZ.out
  have hR3 := (H0.out.drew k2 H0.out.size).old HB3.out H0.out.size
  have hO3 : Old w w3 := below_then (below_drewB HO.out k2) HB3.out
  have facts : Hid (∀ w1, Old w3 w1 → w1.cell? ⟨g, 0, none⟩ = some (.string (str al)) ∧ w1.cell? ⟨g, 1, none⟩ = some (.string (str bl)) ∧ w1.cell? ⟨g, 2, none⟩ = some (.string (str cl))) := fun w1 h1 => ⟨cell_old h1 (row_cell HROW.out 0 al rfl), cell_old h1 (row_cell HROW.out 1 bl rfl), cell_old h1 (row_cell HROW.out 2 cl rfl)⟩
  have HZ3 := mkHid hz3
  have HR3 := mkHid hR3
  have HO3 := mkHid hO3
  clear hz3 hR3 hO3
  refine Rq.wp_region_try_lit (by kernel_rfl) (by kernel_rfl) (fun w1 => Old w3 w1) (fun w1 => ∃ W', Old w3 W' ∧ w1 = W'.setRow w.heap.size #[.int .i64 4, .string q, .int .i64 m, .string q2, .int .i64 m2, .string (str cl)]) (.inl (by kernel_rfl)) (by decide)
    (fun ch w1 => DiesAt (n : Int) ch ∧ chgM s.data.toList = none ∧ Old w3 w1) ?_ ?_ ?_
  · exact (Below.refl _ w3).drew
  · rintro ch a w1 hd ⟨h1, h2, h3⟩
    exact ⟨hd, .inr ⟨h2, h1⟩, below_then HO3.out h3⟩
  · repeat (
      refine Rq.wpT_yes (by rfl) ?_ ?_ (fun w1 h1 => ?_) (fun K hK => ?_)
      rotate_left 2
      · obtain ⟨f0, f1, f2⟩ := facts.out w1 h1
        go_simp
        first
          | exact Rq.upT_value h1
          | exact Rq.upT_skip h1
          | (refine Rq.upT_any (v := .agg #[.string q, .int .i64 m]) (dd := dd) ?_
             (with_reducible refine (KI.out w1 (HR3.out.old h1 HR3.out.size)).mono ?_)
             rintro e w4 (⟨h4, h5, h6⟩ | ⟨ch, h4, h5, h6, h7⟩)
             · exact .inl ⟨h4, h5, below_then h1 h6⟩
             · exact .inr ⟨ch, h4, h5, HN.out h6, below_then h1 h7⟩)
          | (refine Rq.upT_any (v := .agg #[.string q2, .int .i64 m2]) (dd := d2) ?_
             (with_reducible refine (KI2.out w1 (HR3.out.old h1 HR3.out.size)).mono ?_)
             rintro e w4 (⟨h4, h5, h6⟩ | ⟨ch, h4, h5, h6, h7⟩)
             · exact .inl ⟨h4, h5, below_then h1 h6⟩
             · exact .inr ⟨ch, h4, h5, HN2.out h6, below_then h1 h7⟩)
      go_simp
      refine hK _ _ ?_
      clear hK K)
    refine Rq.wpT_last (by rfl) undef false (fun w1 h1 => ?_) (fun K hK => ?_)
    · exact upT_store 44 (.tmp 4) (.tmp 60) rfl _ _ rfl rfl (run_storeAt_row w1 w.heap.size 44 44 _ _ (block_old h1 HZ3.out) size44 rfl (six_one _ _ _ _ _ _)) ⟨w1, h1, rfl⟩
    · go_simp
      refine hK _ _ (fun hd => ?_)
      clear hK K
      rintro w1 ⟨W', h1, rfl⟩
      obtain ⟨hda, hdb⟩ : d2 = false ∧ dd = false := by simpa using hd
      obtain ⟨c, hc1, hc2⟩ := HC.out hdb hda
      go_wp2
      exact bodyPost_ret (v := .agg #[.int .i64 4, .string q, .int .i64 m, .string q2, .int .i64 m2, .string (str cl)]) (ret45 _ _ w.heap.size _ rfl (setRow_heap _ _ _ _ _ _ (block_old h1 HZ3.out)) rfl) rfl ⟨.inl ⟨c, hc1, by rw [hc2]⟩, below_setRow (below_then HO3.out h1) (Nat.le_refl _) _⟩
end Go.Proofs.YtfkfaaifchafjaaDoor
