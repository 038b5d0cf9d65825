/-
  change: what a line says.
-/
import Derived.Test.YtfkfaaifchafjaaDoorFe
import Derived.Test.YtfkfaaifchafjaaDoorRq
set_option linter.unusedSimpArgs false
set_option linter.unusedVariables false
namespace Go.Proofs.YtfkfaaifchafjaaDoor
open Go.RowKit

/-- what change answers, or the line with which it panics -/
def ChgP (n : Nat) (s : Txt) (w : World) (e : Ending) (w' : World) : Prop :=
  ((∃ c, chgM s = some c ∧ e = .returned (.agg (encC c).toArray)) ∨ (chgM s = none ∧ e = Pn (n : Int))) ∧ Old w w'

theorem ret45 (tmps : Array Value) (w : World) (g : Nat) (cs : Array Value) (hp : tmps.getD 4 undef = .pointer (some ⟨g, 0, none⟩)) (hg : w.heap[g]? = some (.cells cs 44 (0, 0))) (hs : cs.size = 6) : (results Tryd.f45 tmps).run Tryd.prog w = .ok (.agg cs) w := by
  obtain ⟨fs, hfs⟩ := under44
  exact results_cell_row rfl tmps w g 44 cs (0, 0) _ hp hg hfs rfl (by rw [hs]; exact size44)

theorem six_one (a b c : Int) (x y z : ByteArray) : (#[Value.int .i64 a, .string x, .int .i64 b, .string y, .int .i64 c, .string z] : Array Value).all (·.oneCell') = true := by simp [Value.oneCell']

/-- the first word, by what it is -/
theorem word_eq {s : Txt} {t : ByteArray} (ht : t = str (cutB 32 s).1) {x : Txt} (hw : (cutB 32 s).1 = x) (y : List UInt8) (b : Bool) (hb : decide (x = y) = b) : (t.toList == y) = b := by
  rw [ht, ByteArray.toList_eq, str_list, hw, ← hb]
  exact txt_beq _ _

set_option maxHeartbeats 2000000 in
set_option maxRecDepth 20000 in
theorem change_make (B : Nat) (w : World) (R : Nat) (rest : Txt) (n : Nat) (p : Pat) (h : Rd B w R rest n p) (s : ByteArray) (hs : s.size ≤ 1000000) (hw : (cutB 32 s.data.toList).1 = wMake) :
    Calls Tryd.prog 45 #[.pointer (some ⟨R, 0, none⟩), .string s] w (ChgP n s.data.toList w) := by
  obtain ⟨t, ht⟩ : ∃ t, t = str (cutB 32 s.data.toList).1 := ⟨_, rfl⟩
  obtain ⟨r, hr⟩ : ∃ r, r = str (cutB 32 s.data.toList).2.1 := ⟨_, rfl⟩
  obtain ⟨f, hf⟩ : ∃ f, f = (cutB 32 s.data.toList).2.2 := ⟨_, rfl⟩
  have kc := cut_full s 32 hs t r f ht hr hf
  have e1 : (t.toList == [109, 97, 107, 101]) = true := word_eq ht hw _ _ rfl
  have hc : chgM s.data.toList = some (1, zid, zid, (cutB 32 s.data.toList).2.1) := by
    unfold chgM
    simp only [hw, if_true]
  have H0 := mkHid (h.old (old1 w (.cells #[.int .i64 0, .string ⟨#[]⟩, .int .i64 0, .string ⟨#[]⟩, .int .i64 0, .string ⟨#[]⟩] 44)) h.size)
  have HC := mkHid hc
  have HR := mkHid hr
  clear hs hw ht hr hf h hc
  go_enter Tryd.func45, Tryd.ntmps45
  go_wp2_with (first
    | (go_at_call 58; (with_reducible refine (kc.out _ H0.out.e.e).mono ?_); rintro e w2 ⟨rfl, m, rfl⟩)
    | ((with_reducible refine at_op (.store 44 (.tmp 4) (.tmp 21)) ?_)
       refine wpList_store_row rfl 44 (.tmp 4) (.tmp 21) rfl w.heap.size #[.int .i64 1, .string ⟨#[]⟩, .int .i64 0, .string ⟨#[]⟩, .int .i64 0, .string r] rfl rfl 44 _ (h10 _ _) size44 rfl (six_one _ _ _ _ _ _) ?_))
  exact bodyPost_ret (v := .agg #[.int .i64 1, .string ⟨#[]⟩, .int .i64 0, .string ⟨#[]⟩, .int .i64 0, .string r]) (ret45 _ _ w.heap.size _ rfl (setRow_heap _ _ _ _ _ _ (h10 _ _)) rfl) rfl ⟨.inl ⟨_, HC.out, by rw [HR.out]; rfl⟩, below_setRow (below_drewB (old1 w _) m) (Nat.le_refl _) _⟩

/-- what idOf answers, as a value: none stands for nothing -/
def idV (s : Txt) : Value := match idM s with
  | some x => .agg #[encStr x.1, .int .i64 x.2]
  | none => .agg #[encStr [], .int .i64 0]

theorem idOf_any (B : Nat) (w : World) (R : Nat) (rest : Txt) (n : Nat) (p : Pat) (h : Rd B w R rest n p) (s : ByteArray) (hs : s.size ≤ 1000000) :
    Calls Tryd.prog 61 #[.pointer (some ⟨R, 0, none⟩), .string s] w fun e w' =>
      ((e = .returned (idV s.data.toList) ∧ (idM s.data.toList).isNone = false) ∨ (e = Pn (n : Int) ∧ idM s.data.toList = none)) ∧ Old w w' := by
  unfold idV
  cases hx : idM s.data.toList with
  | none => exact (idOf_no B w R rest n p h s hs hx).mono fun e w' h => ⟨.inr ⟨h.1, rfl⟩, h.2⟩
  | some x => exact (idOf_yes B w R rest n p h s hs x hx _ rfl _ rfl).mono fun e w' h => ⟨.inl ⟨h.1, rfl⟩, h.2⟩

theorem idV_some {s : Txt} {x : Idn} (h : idM s = some x) : idV s = .agg #[encStr x.1, .int .i64 x.2] := by unfold idV; rw [h]

/-- the two cells of such a value -/
def idC (s : Txt) : ByteArray × Int := match idM s with
  | some x => (str x.1, x.2)
  | none => (str [], 0)
theorem idV_C (s : Txt) : idV s = .agg #[.string (idC s).1, .int .i64 (idC s).2] := by
  unfold idV idC
  cases idM s <;> rfl

/-- the panic of a line -/
def DiesAt (n : Int) (ch : List PanicEntry) : Prop := Ending.panicked ch = Pn n

theorem idOf_try (B : Nat) (w : World) (R : Nat) (rest : Txt) (n : Nat) (p : Pat) (h : Rd B w R rest n p) (s : ByteArray) (hs : s.size ≤ 1000000) (q : ByteArray) (hq : q = (idC s.data.toList).1) (m : Int) (hm : m = (idC s.data.toList).2) (dd : Bool) (hd : dd = (idM s.data.toList).isNone) :
    Calls Tryd.prog 61 #[.pointer (some ⟨R, 0, none⟩), .string s] w fun e w' =>
      (e = .returned (.agg #[.string q, .int .i64 m]) ∧ dd = false ∧ Old w w') ∨ ∃ ch, e = .panicked ch ∧ DiesAt (n : Int) ch ∧ idM s.data.toList = none ∧ Old w w' := by
  subst hq hm hd
  refine (idOf_any B w R rest n p h s hs).mono ?_
  rintro e w' ⟨⟨rfl, h1⟩ | ⟨rfl, h1⟩, h2⟩
  · exact .inl ⟨by rw [idV_C], h1, h2⟩
  · exact .inr ⟨_, rfl, rfl, h1, h2⟩

theorem words2 (r : Txt) : splN 32 (min 2 (r.length + 1) - 1) r = if (cutB 32 r).2.2 then [(cutB 32 r).1, (cutB 32 r).2.1] else [r] := by
  cases r with
  | nil => rfl
  | cons c r =>
    rw [show min 2 ((c :: r).length + 1) - 1 = 0 + 1 by simp, splN_succ, splN_zero]

theorem words3 (r : Txt) : if (cutB 32 r).2.2 && (cutB 32 (cutB 32 r).2.1).2.2 then splN 32 (min 3 (r.length + 1) - 1) r = [(cutB 32 r).1, (cutB 32 (cutB 32 r).2.1).1, (cutB 32 (cutB 32 r).2.1).2.1] else (splN 32 (min 3 (r.length + 1) - 1) r).length ≠ 3 := by
  match r with
  | [] => rw [if_neg (by decide)]; decide
  | [c] =>
    rw [show min 3 ([c].length + 1) - 1 = 0 + 1 from rfl, splN_succ, splN_zero]
    have h1 : (cutB 32 [c]).2.1 = [] := by
      unfold cutB
      split <;> rfl
    rw [h1]
    simp only [cutB, Bool.and_false, Bool.false_eq_true, if_false]
    split <;> simp
  | c :: c2 :: r =>
    rw [show min 3 ((c :: c2 :: r).length + 1) - 1 = 0 + 1 + 1 by simp, splN_succ]
    by_cases h1 : (cutB 32 (c :: c2 :: r)).2.2 = true
    · rw [if_pos h1, splN_succ, h1]
      by_cases h2 : (cutB 32 (cutB 32 (c :: c2 :: r)).2.1).2.2 = true
      · rw [if_pos h2, h2, splN_zero]
        simp
      · rw [if_neg h2]
        simp [h2]
    · rw [if_neg h1]
      simp [h1]

theorem row_cell {w : World} {g k N : Nat} {ps : List Txt} (h : RowS w (.slice (some ⟨g, 0, none⟩) k N) ps) (j : Nat) (x : Txt) (hj : ps[j]? = some x) : w.cell? ⟨g, j, none⟩ = some (.string (str x)) := by
  rcases h with ⟨e, _⟩ | ⟨g', off, cs, cap, e, _, hg, hu⟩
  · cases e
  · cases e
    have := hu j (encStr x) (by simp [hj])
    simp only [World.cell?, hg]
    rw [Nat.zero_add] at this
    exact this

theorem run_storeAt_row (w : World) (g : Nat) (ty t : TypeId) (c c' : Array Value) (hg : w.heap[g]? = some (.cells c t (0, 0))) (hi : (Tryd.prog.info? ty).map (·.size) = some c'.size) (ho : c.size = c'.size) (h1 : c'.all (·.oneCell') = true) :
    (Instr.storeAt ty (.pointer (some ⟨g, 0, none⟩)) (.agg c')).run Tryd.prog w = .ok () (w.setRow g c') := by
  simp only [Instr.storeAt, Instr.sureAddr, Sem.run_bind, Sem.run_pure, Result.andThen]
  exact run_storeVar_row w g t ty c c' hg hi ho h1

theorem upT_store {P : Program} {C : World → Prop} {D : List PanicEntry → World → Prop} {o : Oper} {a : Act} {w w' : World} (ty : TypeId) (x y : Operand) (ho : o.op = .store ty x y) (p v : Value) (hx : a.eval x = p) (hy : a.eval y = v) (hr : (Instr.storeAt ty p v).run P w = .ok () w') (h : C w') :
    Rq.upT P C D undef false w ((execOp a.eval o).run P w) := by
  unfold execOp
  simp only [ho, hx, hy, Sem.run_bind, hr, Result.andThen_ok, Sem.run_pure]
  exact ⟨rfl, rfl, h⟩

set_option maxHeartbeats 2000000 in
set_option maxRecDepth 20000 in
theorem change_name (B : Nat) (w : World) (R : Nat) (rest : Txt) (n : Nat) (p : Pat) (h : Rd B w R rest n p) (s : ByteArray) (hs : s.size ≤ 1000000) (hw : (cutB 32 s.data.toList).1 = wName) (hcut : (cutB 32 (cutB 32 s.data.toList).2.1).2.2 = true) :
    Calls Tryd.prog 45 #[.pointer (some ⟨R, 0, none⟩), .string s] w (ChgP n s.data.toList w) := by
  obtain ⟨t, ht⟩ : ∃ t, t = str (cutB 32 s.data.toList).1 := ⟨_, rfl⟩
  obtain ⟨rl, hrl⟩ : ∃ rl, rl = (cutB 32 s.data.toList).2.1 := ⟨_, rfl⟩
  obtain ⟨r, hr⟩ : ∃ r, r = str rl := ⟨_, rfl⟩
  obtain ⟨f, hf⟩ : ∃ f, f = (cutB 32 s.data.toList).2.2 := ⟨_, rfl⟩
  have kc := cut_full s 32 hs t r f ht (by rw [hr, hrl]) hf
  have e1 : (t.toList == [109, 97, 107, 101]) = false := word_eq ht hw _ _ rfl
  have e2 : (t.toList == [110, 97, 109, 101]) = true := word_eq ht hw _ _ rfl
  obtain ⟨al, hal⟩ : ∃ al, al = (cutB 32 rl).1 := ⟨_, rfl⟩
  obtain ⟨bl, hbl⟩ : ∃ bl, bl = (cutB 32 rl).2.1 := ⟨_, rfl⟩
  obtain ⟨q, hq⟩ : ∃ q, q = (idC al).1 := ⟨_, rfl⟩
  obtain ⟨m, hm⟩ : ∃ m, m = (idC al).2 := ⟨_, rfl⟩
  obtain ⟨dd, hd⟩ : ∃ dd, dd = (idM al).isNone := ⟨_, rfl⟩
  have hrs : rl.length ≤ 1000000 := by
    have := (cutB_len 32 s.data.toList).2.1
    rw [size_list] at hs
    rw [hrl]
    omega
  have has : al.length ≤ 1000000 := by
    have := (cutB_len 32 rl).1
    rw [hal]
    omega
  have hc : chgM s.data.toList = (idM al).map fun f => (2, f, zid, bl) := by
    unfold chgM
    simp only [hw, ← hrl]
    rw [if_neg (by decide), if_pos trivial, if_pos (by rw [hrl]; exact hcut), ← hal, ← hbl]
  have HN : Hid (idM al = none → chgM s.data.toList = none) := fun e => by rw [hc, e]; rfl
  have HC : Hid (dd = false → ∃ c, chgM s.data.toList = some c ∧ (encC c).toArray = #[.int .i64 2, .string q, .int .i64 m, .string ⟨#[]⟩, .int .i64 0, .string (str bl)]) := fun e => by
    rw [hd] at e
    cases hx : idM al with
    | none => rw [hx] at e; cases e
    | some x =>
      refine ⟨(2, x, zid, bl), by rw [hc, hx]; rfl, ?_⟩
      rw [hq, hm]
      unfold idC
      rw [hx]
      rfl
  have kp := fun (w : World) (hw : Rd B w R rest n p) => wordsR_yes B w R rest n p hw r 2 (by rw [hr, str_size]; exact hrs) (by decide) (by decide) [al, bl] (by
    rw [hr, str_size, str_list, words2, if_pos (by rw [hrl]; exact hcut), ← hal, ← hbl]) rfl
  have ki := fun (w : World) (hw : Rd B w R rest n p) => idOf_try B w R rest n p hw (str al) (by rw [str_size]; exact has) q (by rw [str_list]; exact hq) m (by rw [str_list]; exact hm) dd (by rw [str_list]; exact hd)
  have KP : Hid (∀ w : World, Rd B w R rest n p → Calls Tryd.prog 60 #[.pointer (some ⟨R, 0, none⟩), .string r, .int .i64 2] w fun e w' => ∃ N, e = .returned (.slice (some ⟨w.heap.size, 0, none⟩) 2 N) ∧ RowS w' (.slice (some ⟨w.heap.size, 0, none⟩) 2 N) [al, bl] ∧ Old w w') := kp
  have KI := mkHid ki
  have H0 := mkHid (h.old (old1 w (.cells #[.int .i64 0, .string ⟨#[]⟩, .int .i64 0, .string ⟨#[]⟩, .int .i64 0, .string ⟨#[]⟩] 44)) h.size)
  have HZ := mkHid (h10 w (.cells #[.int .i64 0, .string ⟨#[]⟩, .int .i64 0, .string ⟨#[]⟩, .int .i64 0, .string ⟨#[]⟩] 44))
  have HO := mkHid (old1 w (.cells #[.int .i64 0, .string ⟨#[]⟩, .int .i64 0, .string ⟨#[]⟩, .int .i64 0, .string ⟨#[]⟩] 44))
  clear hs hw ht hr hf h hc hrl hal hbl hq hm hd hrs has kp ki hcut
  go_enter Tryd.func45, Tryd.ntmps45
  go_upto_region 7 with (first
    | (go_at_call 58; (with_reducible refine (kc.out _ H0.out.e.e).mono ?_); rintro e w2 ⟨rfl, k2, rfl⟩)
    | (go_at_call 60; (with_reducible refine (KP.out _ (H0.out.drew k2 H0.out.size)).mono ?_); rintro e w3 ⟨N, rfl, hrow, b3⟩
       obtain ⟨g, hg⟩ : ∃ g, g = ((w.alloc (.cells #[.int .i64 0, .string ⟨#[]⟩, .int .i64 0, .string ⟨#[]⟩, .int .i64 0, .string ⟨#[]⟩] 44)).drewN k2).heap.size := ⟨_, rfl⟩
       rw [← hg] at hrow ⊢
       have HROW := mkHid hrow
       have HB3 := mkHid b3
       clear hrow b3 hg))
  have hz3 := block_old HB3.out HZ.out
  have hR3 := (H0.out.drew k2 H0.out.size).old HB3.out H0.out.size
  have hO3 : Old w w3 := below_then (below_drewB HO.out k2) HB3.out
  have facts : Hid (∀ w1, Old w3 w1 → w1.cell? ⟨g, 0, none⟩ = some (.string (str al)) ∧ w1.cell? ⟨g, 1, none⟩ = some (.string (str bl))) := fun w1 h1 => ⟨cell_old h1 (row_cell HROW.out 0 al rfl), cell_old h1 (row_cell HROW.out 1 bl rfl)⟩
  have HZ3 := mkHid hz3
  have HR3 := mkHid hR3
  have HO3 := mkHid hO3
  clear hz3 hR3 hO3
  refine Rq.wp_region_try_lit (by kernel_rfl) (by kernel_rfl) (fun w1 => Old w3 w1) (fun w1 => ∃ W', Old w3 W' ∧ w1 = W'.setRow w.heap.size #[.int .i64 2, .string q, .int .i64 m, .string ⟨#[]⟩, .int .i64 0, .string (str bl)]) (.inl (by kernel_rfl)) (by decide)
    (fun ch w1 => DiesAt (n : Int) ch ∧ idM (str al).data.toList = none ∧ Old w3 w1) ?_ ?_ ?_
  · exact (Below.refl _ w3).drew
  · rintro ch a w1 hd ⟨h1, h2, h3⟩
    exact ⟨hd, .inr ⟨HN.out h2, h1⟩, below_then HO3.out h3⟩
  · repeat (
      refine Rq.wpT_yes (by rfl) ?_ ?_ (fun w1 h1 => ?_) (fun K hK => ?_)
      rotate_left 2
      · obtain ⟨f0, f1⟩ := facts.out w1 h1
        go_simp
        first
          | exact Rq.upT_value h1
          | exact Rq.upT_skip h1
          | (refine Rq.upT_any (v := .agg #[.string q, .int .i64 m]) (dd := dd) ?_
             refine (KI.out w1 (HR3.out.old h1 HR3.out.size)).mono ?_
             rintro e w4 (⟨h4, h5, h6⟩ | ⟨ch, h4, h5, h6, h7⟩)
             · exact .inl ⟨h4, h5, below_then h1 h6⟩
             · exact .inr ⟨ch, h4, h5, h6, below_then h1 h7⟩)
      go_simp
      refine hK _ _ ?_
      clear hK K)
    refine Rq.wpT_last (by rfl) undef false (fun w1 h1 => ?_) (fun K hK => ?_)
    · exact upT_store 44 (.tmp 4) (.tmp 35) rfl _ _ rfl rfl (run_storeAt_row w1 w.heap.size 44 44 _ _ (block_old h1 HZ3.out) size44 rfl (six_one _ _ _ _ _ _)) ⟨w1, h1, rfl⟩
    · go_simp
      refine hK _ _ (fun hd => ?_)
      clear hK K
      rintro w1 ⟨W', h1, rfl⟩
      have hd2 : dd = false := by simpa using hd
      obtain ⟨c, hc1, hc2⟩ := HC.out hd2
      go_wp2
      exact bodyPost_ret (v := .agg #[.int .i64 2, .string q, .int .i64 m, .string ⟨#[]⟩, .int .i64 0, .string (str bl)]) (ret45 _ _ w.heap.size _ rfl (setRow_heap _ _ _ _ _ _ (block_old h1 HZ3.out)) rfl) rfl ⟨.inl ⟨c, hc1, by rw [hc2]⟩, below_setRow (below_then HO3.out h1) (Nat.le_refl _) _⟩
end Go.Proofs.YtfkfaaifchafjaaDoor
