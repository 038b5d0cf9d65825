/-
  Parse walked.
-/
import Derived.Test.YtfkfaaifchafjaaDoorPa
set_option linter.unusedSimpArgs false
set_option linter.unusedVariables false
namespace Go.Proofs.YtfkfaaifchafjaaDoor
open Go.RowKit Go.Sort

/-- What the library's calls ask of its own variables. -/
structure Env (w : World) : Prop where
  mx : ∃ m, w.cell? ⟨0, 0, none⟩ = some (.int .i64 m)
  sy : ∃ tp p, w.cell? ⟨4, 0, none⟩ = some (.iface tp p)
  rg : ∃ tp p, w.cell? ⟨5, 0, none⟩ = some (.iface tp p)

theorem Env.old {w w' : World} (h : Env w) (hb : Below w.heap.size w w') : Env w' := by
  obtain ⟨⟨m, h1⟩, ⟨a, b, h2⟩, ⟨c, d, h3⟩⟩ := h
  exact ⟨⟨m, cell_old hb h1⟩, ⟨a, b, cell_old hb h2⟩, ⟨c, d, cell_old hb h3⟩⟩

theorem cell2_0 {w : World} {b : Nat} {x y : Value} {t : TypeId} (h : w.heap[b]? = some (.cells #[x, y] t (0, 0))) : w.cell? ⟨b, 0, none⟩ = some x := by simp [World.cell?, h]
theorem cell2_1 {w : World} {b : Nat} {x y : Value} {t : TypeId} (h : w.heap[b]? = some (.cells #[x, y] t (0, 0))) : w.cell? ⟨b, 1, none⟩ = some y := by simp [World.cell?, h]

theorem two_one (p : ByteArray) (n : Int) : (#[Value.string p, Value.int .i64 n] : Array Value).all (·.oneCell') = true := by simp [Value.oneCell']

theorem under42 : ∃ fs, Tryd.prog.underlying 42 = some (.struct fs) := ⟨_, Tryd.underlying42⟩
theorem size42 : (Tryd.prog.info? 42).map (·.size) = some 2 := by kernel_rfl

theorem ret84 (tmps : Array Value) (w : World) (B : Nat) (c : Array Value) (b : Bool) (h0 : tmps.getD 2 undef = .pointer (some ⟨B, 0, none⟩)) (h1 : tmps.getD 3 undef = .bool b) (hh : w.heap[B]? = some (.cells c 42 (0, 0))) (hs : c.size = 2) :
    (results Tryd.f84 tmps).run Tryd.prog w = .ok (.tuple #[.agg c, .bool b]) w := by
  obtain ⟨fs, hfs⟩ := under42
  rw [results_cell_tmp rfl, h0, h1]
  simp only [asAddr, Sem.run_pure, Result.andThen_ok, run_loadVar_row w B 42 42 c (0, 0) _ hh hfs rfl (by rw [hs]; exact size42)]

def cutP (s : List UInt8) : List UInt8 := (Lib.cut s [46]).1
def cutD (s : List UInt8) : List UInt8 := (Lib.cut s [46]).2.1

theorem cut_len (s : List UInt8) : (cutD s).length ≤ s.length ∧ (cutP s).length ≤ s.length := by
  unfold cutD cutP Lib.cut
  split
  · simp; omega
  · simp

theorem cut_hid (s p d : ByteArray) (hs : s.size < 4294967281) (hp : p = ⟨(cutP s.data.toList).toArray⟩) (hd : d = ⟨(cutD s.data.toList).toArray⟩) :
    Hid (∀ w, Env w → Calls Tryd.prog 58 #[.string s, .string ⟨#[46]⟩] w fun e w' => ∃ b, e = .returned (.tuple #[.string p, .string d, .bool b]) ∧ Below w.heap.size w w') := by
  intro w ⟨⟨m, hm⟩, _, _⟩
  subst hp hd
  refine (Tryd.strings_Cut s ⟨#[46]⟩ m w hs hm).mono ?_
  rintro e w' ⟨rfl, n, rfl⟩
  exact ⟨_, rfl, below_drewN _ _⟩

theorem atoi_ok_hid (d : ByteArray) (hd : d.size < 4294967281) (v : Int) (h : Lib.atoiAll d.data.toList = .ok v) :
    Hid (∀ w, Calls Tryd.prog 93 #[.string d] w fun e w' => e = .returned (.tuple #[.int .i64 v, .nilIface]) ∧ Below w.heap.size w w') := by
  intro w
  refine (Tryd.strconv_Atoi_ok d (by omega) v h w).mono ?_
  rintro e w' ⟨rfl, rfl | ⟨t, rfl⟩⟩
  · exact ⟨rfl, Below.refl _ _⟩
  · exact ⟨rfl, Lib.bytesWorld_below _ _ _⟩

theorem atoi_bad_hid (d : ByteArray) (hd : d.size < 4294967281) (h : ∀ v, Lib.atoiAll d.data.toList ≠ .ok v) :
    Hid (∀ w, Env w → Calls Tryd.prog 93 #[.string d] w fun e w' => ∃ N x, e = .returned (.tuple #[.int .i64 x, .iface 164 (.pointer (some ⟨N, 0, none⟩))]) ∧ Below w.heap.size w w') := by
  intro w ⟨_, ⟨t1, p1, h1⟩, ⟨t2, p2, h2⟩⟩
  rcases hx : Lib.atoiAll d.data.toList with v | _ | _
  · exact absurd hx (h v)
  · refine (Tryd.strconv_Atoi_syntax d (by omega) hx _ w h1 (.inr ⟨_, _, rfl⟩)).mono ?_
    rintro e w' ⟨N, rfl, _, _, hb⟩
    exact ⟨N, _, rfl, hb⟩
  · refine (Tryd.strconv_Atoi_range d (by omega) hx _ w h2 (.inr ⟨_, _, rfl⟩)).mono ?_
    rintro e w' ⟨N, rfl, _, _, hb⟩
    exact ⟨N, _, rfl, hb⟩

theorem block_old {w w' : World} {b : Nat} {o : Obj} (hb : Below w.heap.size w w') (h : w.heap[b]? = some o) : w'.heap[b]? = some o := by
  rw [hb.block b (Array.getElem?_eq_some_iff.1 h).1]; exact h

set_option maxHeartbeats 2000000 in
theorem parse_dash (w : World) : Calls Tryd.prog 84 #[.string ⟨#[45]⟩] w fun e w' => e = .returned (.tuple #[.agg #[.string ⟨#[]⟩, .int .i64 0], .bool true]) ∧ Below w.heap.size w w' := by
  go_enter Tryd.func84, Tryd.ntmps84
  go_wp2
  refine bodyPost_ret (v := .tuple #[.agg #[.string ⟨#[]⟩, .int .i64 0], .bool true]) (ret84 _ _ w.heap.size _ _ rfl rfl (heap_alloc_new _ _) rfl) rfl ⟨rfl, (Below.refl _ w).alloc (Nat.le_refl _) _⟩

/-- The state of Parse: its result's block stands, as it was made. -/
structure PS (w w' : World) : Prop where
  res : w'.heap[w.heap.size]? = some (.cells #[.string ⟨#[]⟩, .int .i64 0] 42 (0, 0))
  old : Below w.heap.size w w'
  env : Env w'

theorem PS.start {w : World} (hE : Env w) : PS w (w.alloc (.cells #[.string ⟨#[]⟩, .int .i64 0] 42)) :=
  ⟨heap_alloc_new w _, (Below.refl _ w).alloc (Nat.le_refl _) _, hE.old ((Below.refl _ w).alloc (Nat.le_refl _) _)⟩

theorem PS.next {w w1 w2 : World} (h : PS w w1) (hb : Below w1.heap.size w1 w2) : PS w w2 :=
  ⟨block_old hb h.res, below_then h.old hb, h.env.old hb⟩

theorem PS.done {w w1 : World} (h : PS w w1) (cs : Array Value) : (w1.setRow w.heap.size cs).heap[w.heap.size]? = some (.cells cs 42 (0, 0)) ∧ Below w.heap.size w (w1.setRow w.heap.size cs) :=
  ⟨setRow_heap _ _ _ _ _ _ h.res, below_setRow h.old (Nat.le_refl _) _⟩

set_option maxHeartbeats 4000000 in
/-- What follows the point is no number. -/
theorem parse_bad (w : World) (s : ByteArray) (hs : s.size < 4294967281) (hE : Env w) (h0 : s.data.toList ≠ [45]) (h : ∀ v, Lib.atoiAll (cutD s.data.toList) ≠ .ok v) :
    Calls Tryd.prog 84 #[.string s] w fun e w' => e = .returned (.tuple #[.agg #[.string ⟨#[]⟩, .int .i64 0], .bool false]) ∧ Below w.heap.size w w' := by
  have hq : (s.toList == [45]) = false := by rw [ByteArray.toList_eq]; simpa using h0
  obtain ⟨p, hp⟩ : ∃ p : ByteArray, p = ⟨(cutP s.data.toList).toArray⟩ := ⟨_, rfl⟩
  obtain ⟨d, hd⟩ : ∃ d : ByteArray, d = ⟨(cutD s.data.toList).toArray⟩ := ⟨_, rfl⟩
  have hdl : d.data.toList = cutD s.data.toList := by rw [hd]
  have hds : d.size < 4294967281 := by
    have h1 := (cut_len s.data.toList).1
    have h2 : s.data.toList.length = s.size := by simp
    have h3 : d.size = (cutD s.data.toList).length := by rw [hd]; simp [ByteArray.size]
    omega
  have k1 := cut_hid s p d hs hp hd
  have k2 := atoi_bad_hid d hds (by rw [hdl]; exact h)
  have H0 := mkHid (PS.start hE)
  clear hp hd hdl hds hE h h0 hs
  go_enter Tryd.func84, Tryd.ntmps84
  go_wp2_with (first
    | (go_at_call 58; (with_reducible refine (k1.out _ H0.out.env).mono ?_); rintro e w1 ⟨b, rfl, hb1⟩; have H1 := mkHid (H0.out.next hb1); clear hb1)
    | (go_at_call 93; (with_reducible refine (k2.out _ H1.out.env).mono ?_); rintro e w2 ⟨N, x, rfl, hb2⟩; have H2 := mkHid (H1.out.next hb2); clear hb2)
    | (refine wpList_store_row rfl 42 (.tmp 2) (.tmp 39) rfl w.heap.size #[.string ⟨#[]⟩, .int .i64 0] rfl rfl 42 _ H2.out.res size42 rfl (two_one _ _) ?_))
  have hd := H2.out.done #[.string ⟨#[]⟩, .int .i64 0]
  refine bodyPost_ret (v := .tuple #[.agg #[.string ⟨#[]⟩, .int .i64 0], .bool false]) (ret84 _ _ w.heap.size _ _ rfl rfl hd.1 rfl) rfl ⟨rfl, hd.2⟩

theorem right_hid (p : ByteArray) (hp : p.size ≤ maxLen) (b : Bool) (hb : b = rightL p.data.toList) : Hid (∀ w, Calls Tryd.prog 31 #[.string p] w fun e w' => e = .returned (.bool b) ∧ w' = w) := by
  subst hb
  exact fun w => right_walk p w hp

set_option maxHeartbeats 4000000 in
/-- A number too small, too great, or a name that is not right. -/
theorem parse_out (w : World) (s : ByteArray) (hs : s.size < 4294967281) (hE : Env w) (h0 : s.data.toList ≠ [45]) (v : Int) (h : Lib.atoiAll (cutD s.data.toList) = .ok v) (hv : v < 1 ∨ 40 < v ∨ rightL (cutP s.data.toList) = false) :
    Calls Tryd.prog 84 #[.string s] w fun e w' => e = .returned (.tuple #[.agg #[.string ⟨#[]⟩, .int .i64 0], .bool false]) ∧ Below w.heap.size w w' := by
  have hq : (s.toList == [45]) = false := by rw [ByteArray.toList_eq]; simpa using h0
  obtain ⟨p, hp⟩ : ∃ p : ByteArray, p = ⟨(cutP s.data.toList).toArray⟩ := ⟨_, rfl⟩
  obtain ⟨d, hd⟩ : ∃ d : ByteArray, d = ⟨(cutD s.data.toList).toArray⟩ := ⟨_, rfl⟩
  have hdl : d.data.toList = cutD s.data.toList := by rw [hd]
  have hpl : p.data.toList = cutP s.data.toList := by rw [hp]
  have hds : d.size < 4294967281 ∧ p.size ≤ maxLen := by
    have h1 := cut_len s.data.toList
    have h2 : s.data.toList.length = s.size := by simp
    have h3 : d.size = (cutD s.data.toList).length := by rw [hd]; simp [ByteArray.size]
    have h4 : p.size = (cutP s.data.toList).length := by rw [hp]; simp [ByteArray.size]
    unfold maxLen
    omega
  have k1 := cut_hid s p d hs hp hd
  have k2 := atoi_ok_hid d hds.1 v (by rw [hdl]; exact h)
  have k3 := right_hid p hds.2 _ rfl
  rw [hpl] at k3
  have H0 := mkHid (PS.start hE)
  clear hp hd hdl hpl hds hE h h0 hs
  obtain ⟨b, hb⟩ : ∃ b, b = rightL (cutP s.data.toList) := ⟨_, rfl⟩
  rw [← hb] at hv k3
  clear hb
  by_cases h1 : v < 1
  · clear hv
    go_enter Tryd.func84, Tryd.ntmps84
    go_wp2_with (first
      | (go_at_call 58; (with_reducible refine (k1.out _ H0.out.env).mono ?_); rintro e w1 ⟨b, rfl, hb1⟩; have H1 := mkHid (H0.out.next hb1); clear hb1)
      | (go_at_call 93; (with_reducible refine (k2.out _).mono ?_); rintro e w2 ⟨rfl, hb2⟩; have H2 := mkHid (H1.out.next hb2); clear hb2)
      | (refine wpList_store_row rfl 42 (.tmp 2) (.tmp 39) rfl w.heap.size #[.string ⟨#[]⟩, .int .i64 0] rfl rfl 42 _ H2.out.res size42 rfl (two_one _ _) ?_))
    have hd := H2.out.done #[.string ⟨#[]⟩, .int .i64 0]
    exact bodyPost_ret (v := .tuple #[.agg #[.string ⟨#[]⟩, .int .i64 0], .bool false]) (ret84 _ _ w.heap.size _ _ rfl rfl hd.1 rfl) rfl ⟨rfl, hd.2⟩
  by_cases h2 : 40 < v
  · clear hv
    go_enter Tryd.func84, Tryd.ntmps84
    go_wp2_with (first
      | (go_at_call 58; (with_reducible refine (k1.out _ H0.out.env).mono ?_); rintro e w1 ⟨b, rfl, hb1⟩; have H1 := mkHid (H0.out.next hb1); clear hb1)
      | (go_at_call 93; (with_reducible refine (k2.out _).mono ?_); rintro e w2 ⟨rfl, hb2⟩; have H2 := mkHid (H1.out.next hb2); clear hb2)
      | (refine wpList_store_row rfl 42 (.tmp 2) (.tmp 39) rfl w.heap.size #[.string ⟨#[]⟩, .int .i64 0] rfl rfl 42 _ H2.out.res size42 rfl (two_one _ _) ?_))
    have hd := H2.out.done #[.string ⟨#[]⟩, .int .i64 0]
    exact bodyPost_ret (v := .tuple #[.agg #[.string ⟨#[]⟩, .int .i64 0], .bool false]) (ret84 _ _ w.heap.size _ _ rfl rfl hd.1 rfl) rfl ⟨rfl, hd.2⟩
  · obtain rfl : b = false := by
      rcases hv with h | h | h
      · exact absurd h h1
      · exact absurd h h2
      · exact h
    clear hv
    go_enter Tryd.func84, Tryd.ntmps84
    go_wp2_with (first
      | (go_at_call 58; (with_reducible refine (k1.out _ H0.out.env).mono ?_); rintro e w1 ⟨b, rfl, hb1⟩; have H1 := mkHid (H0.out.next hb1); clear hb1)
      | (go_at_call 93; (with_reducible refine (k2.out _).mono ?_); rintro e w2 ⟨rfl, hb2⟩; have H2 := mkHid (H1.out.next hb2); clear hb2)
      | (go_at_call 31; (with_reducible refine (k3.out _).mono ?_); rintro e w3 ⟨rfl, rfl⟩)
      | (refine wpList_store_row rfl 42 (.tmp 2) (.tmp 39) rfl w.heap.size #[.string ⟨#[]⟩, .int .i64 0] rfl rfl 42 _ H2.out.res size42 rfl (two_one _ _) ?_))
    have hd := H2.out.done #[.string ⟨#[]⟩, .int .i64 0]
    exact bodyPost_ret (v := .tuple #[.agg #[.string ⟨#[]⟩, .int .i64 0], .bool false]) (ret84 _ _ w.heap.size _ _ rfl rfl hd.1 rfl) rfl ⟨rfl, hd.2⟩

theorem rightL_len {l : List UInt8} (h : rightL l = true) : 1 ≤ l.length ∧ l.length ≤ 8 := by
  unfold rightL at h
  simp only [Bool.and_eq_true, decide_eq_true_eq] at h
  exact ⟨h.1.1, h.1.2⟩

set_option maxHeartbeats 4000000 in
/-- A right name and a number within its bounds: as it is, where it is written so. -/
theorem parse_in (w : World) (s : ByteArray) (hs : s.size < 4294967281) (hE : Env w) (h0 : s.data.toList ≠ [45]) (m : Nat) (h : Lib.atoiAll (cutD s.data.toList) = .ok (m : Int)) (hm : 1 ≤ m ∧ m ≤ 40) (hr : rightL (cutP s.data.toList) = true) (t : Bool) (ht : t = decide (cutP s.data.toList ++ [46] ++ Lib.decDigits m = s.data.toList)) :
    Calls Tryd.prog 84 #[.string s] w fun e w' => e = .returned (if t then .tuple #[.agg #[.string ⟨(cutP s.data.toList).toArray⟩, .int .i64 m], .bool true] else .tuple #[.agg #[.string ⟨#[]⟩, .int .i64 0], .bool false]) ∧ Below w.heap.size w w' := by
  have hq : (s.toList == [45]) = false := by rw [ByteArray.toList_eq]; simpa using h0
  obtain ⟨p, hp⟩ : ∃ p : ByteArray, p = ⟨(cutP s.data.toList).toArray⟩ := ⟨_, rfl⟩
  obtain ⟨d, hd⟩ : ∃ d : ByteArray, d = ⟨(cutD s.data.toList).toArray⟩ := ⟨_, rfl⟩
  obtain ⟨q, hqq⟩ : ∃ q : ByteArray, q = p ++ ⟨#[46]⟩ ++ ⟨(Lib.decDigits m).toArray⟩ := ⟨_, rfl⟩
  have hdl : d.data.toList = cutD s.data.toList := by rw [hd]
  have hpl : p.data.toList = cutP s.data.toList := by rw [hp]
  have hr8 := rightL_len hr
  have hps : p.size = (cutP s.data.toList).length := by rw [hp]; simp [ByteArray.size]
  have hds : d.size < 4294967281 ∧ p.size ≤ maxLen := by
    have h1 := cut_len s.data.toList
    have h2 : s.data.toList.length = s.size := by simp
    have h3 : d.size = (cutD s.data.toList).length := by rw [hd]; simp [ByteArray.size]
    unfold maxLen
    omega
  have k1 := cut_hid s p d hs hp hd
  have k2 := atoi_ok_hid d hds.1 m (by rw [hdl]; exact h)
  have k3 := right_hid p hds.2 true (by rw [hpl, hr])
  have k4 := print_lit p m (by omega) q hqq (by omega) (by rintro ⟨_, e⟩; omega)
  have H0 := mkHid (PS.start hE)
  have hqs : t = (q.toList == s.toList) := by
    rw [ht, Bool.eq_iff_iff, decide_eq_true_eq, beq_iff_eq, ByteArray.toList_eq, ByteArray.toList_eq]
    have : q.data.toList = cutP s.data.toList ++ [46] ++ Lib.decDigits m := by
      rw [hqq, ByteArray.data_append, ByteArray.data_append, Array.toList_append, Array.toList_append, hpl]
    rw [this]
  rw [← hp]
  have m1 : ¬ ((m : Int) < 1) := by omega
  have m2 : ¬ (40 < (m : Int)) := by omega
  clear hp hd hdl hpl hds hE h h0 hs hqq hr8 hps hr hm ht
  cases t
  · have hne : (q.toList == s.toList) = false := hqs.symm
    clear hqs
    rw [if_neg (by decide)]
    go_enter Tryd.func84, Tryd.ntmps84
    go_wp2_with (first
      | (go_at_call 58; (with_reducible refine (k1.out _ H0.out.env).mono ?_); rintro e w1 ⟨b, rfl, hb1⟩; have H1 := mkHid (H0.out.next hb1); clear hb1)
      | (go_at_call 93; (with_reducible refine (k2.out _).mono ?_); rintro e w2 ⟨rfl, hb2⟩; have H2 := mkHid (H1.out.next hb2); clear hb2)
      | (go_at_call 31; (with_reducible refine (k3.out _).mono ?_); rintro e w3 ⟨rfl, rfl⟩)
      | (go_at_call 39; (with_reducible refine (k4.out _).mono ?_); rintro e w4 ⟨rfl, hb4⟩; have H4 := mkHid (H3.out.next hb4); clear hb4)
      | (refine wpList_store_row rfl 42 (.tmp 9) (.tmp 42) rfl w3.heap.size #[.string p, .int .i64 m] rfl rfl 42 _ (heap_alloc_new w3 _) size42 rfl (two_one _ _) ?_
         rw [World.setRow_alloc_new]
         have H3 := mkHid (H2.out.next ((Below.refl _ w3).alloc (Nat.le_refl _) (.cells #[.string p, .int .i64 m] 42))))
      | (refine wpList_store_row rfl 42 (.tmp 2) (.tmp 47) rfl w.heap.size #[.string ⟨#[]⟩, .int .i64 0] rfl rfl 42 _ H4.out.res size42 rfl (two_one _ _) ?_))
    have hd := H4.out.done #[.string ⟨#[]⟩, .int .i64 0]
    exact bodyPost_ret (v := .tuple #[.agg #[.string ⟨#[]⟩, .int .i64 0], .bool false]) (ret84 _ _ w.heap.size _ _ rfl rfl hd.1 rfl) rfl ⟨rfl, hd.2⟩
  · have hne : (q.toList == s.toList) = true := hqs.symm
    clear hqs
    rw [if_pos rfl]
    go_enter Tryd.func84, Tryd.ntmps84
    go_wp2_with (first
      | (go_at_call 58; (with_reducible refine (k1.out _ H0.out.env).mono ?_); rintro e w1 ⟨b, rfl, hb1⟩; have H1 := mkHid (H0.out.next hb1); clear hb1)
      | (go_at_call 93; (with_reducible refine (k2.out _).mono ?_); rintro e w2 ⟨rfl, hb2⟩; have H2 := mkHid (H1.out.next hb2); clear hb2)
      | (go_at_call 31; (with_reducible refine (k3.out _).mono ?_); rintro e w3 ⟨rfl, rfl⟩)
      | (go_at_call 39; (with_reducible refine (k4.out _).mono ?_); rintro e w4 ⟨rfl, hb4⟩; have H4 := mkHid (H3.out.next hb4)
         have c1 := cell_old hb4 (cell2_0 (heap_alloc_new w3 (.cells #[.string p, .int .i64 (m : Int)] 42)))
         have c2 := cell_old hb4 (cell2_1 (heap_alloc_new w3 (.cells #[.string p, .int .i64 (m : Int)] 42))); clear hb4)
      | (refine wpList_store_row rfl 42 (.tmp 9) (.tmp 42) rfl w3.heap.size #[.string p, .int .i64 m] rfl rfl 42 _ (heap_alloc_new w3 _) size42 rfl (two_one _ _) ?_
         rw [World.setRow_alloc_new]
         have H3 := mkHid (H2.out.next ((Below.refl _ w3).alloc (Nat.le_refl _) (.cells #[.string p, .int .i64 m] 42))))
      | (refine wpList_store_row rfl 42 (.tmp 2) (.tmp 48) rfl w.heap.size #[.string p, .int .i64 m] rfl rfl 42 _ H4.out.res size42 rfl (two_one _ _) ?_))
    have hd := H4.out.done #[.string p, .int .i64 m]
    exact bodyPost_ret (v := .tuple #[.agg #[.string p, .int .i64 m], .bool true]) (ret84 _ _ w.heap.size _ _ rfl rfl hd.1 rfl) rfl ⟨rfl, hd.2⟩

end Go.Proofs.YtfkfaaifchafjaaDoor
