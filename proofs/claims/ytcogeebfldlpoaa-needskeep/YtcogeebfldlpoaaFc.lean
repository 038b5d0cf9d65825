/-
  NeedsForms walked.
-/
import Derived.Test.YtcogeebfldlpoaaFb
set_option linter.unusedSimpArgs false
set_option linter.unusedVariables false
namespace Go.Proofs.Ytcogeebfldlpoaa
open Go.RowKit
open Go.Proofs.NeedsPlain (Hd names getD_set ordM IsAll isTop)

abbrev formC (n : Nat) : Array Value := #[.string ⟨#[100]⟩, .bool false, .slice (some ⟨n, 0, none⟩) 2 2, .string ⟨#[99]⟩, .bool false, .slice (some ⟨n + 1, 0, none⟩) 1 1, .string ⟨#[98]⟩, .bool false, .slice (some ⟨n + 1 + 1, 0, none⟩) 1 1,
  .string ⟨#[97]⟩, .bool false, .slice none 0 0, .string ⟨#[122]⟩, .bool false, .slice none 0 0, .string ⟨#[101]⟩, .bool false, .slice (some ⟨n + 1 + 1 + 1, 0, none⟩) 1 1]

abbrev formW (w : World) : World := ((((w.alloc (.cells #[.string ⟨#[98]⟩, .string ⟨#[99]⟩] 9)).alloc (.cells #[.string ⟨#[97]⟩] 9)).alloc (.cells #[.string ⟨#[97]⟩] 9)).alloc (.cells #[.string ⟨#[122]⟩] 9)).alloc (.cells (formC w.heap.size) 24)

/-- A row of heads that was written out. -/
theorem hrow_of {w : World} {g : Nat} {cs : Array Value} {hs : List Hd} (hg : w.heap[g]? = some (.cells cs 24 (0, 0))) (hl : 3 * hs.length ≤ cs.size)
    (h : ∀ k, k < hs.length → ∃ tg nv, cs[k * 3]? = some (.string (str (hs.getD k hd0).1)) ∧ cs[k * 3 + 1]? = some (.bool tg) ∧ cs[k * 3 + 2]? = some nv ∧ LiesS w nv (hs.getD k hd0).2 ∧ Offs g nv) : HRow w g 0 hs := by
  refine ⟨fun k hk => ?_, fun j hj => ?_⟩
  · obtain ⟨tg, nv, h1, h2, h3, h4, h5⟩ := h k hk
    refine ⟨tg, nv, fun j u hu => ?_, h4, h5⟩
    show w.cell? ⟨g, 0 + k * 3 + j, none⟩ = some u
    rw [Nat.zero_add, cell_of_row _ _ _ _ 24 (0, 0) hg]
    rcases j with _ | _ | _ | j
    · simp at hu; subst hu; exact h1
    · simp at hu; subst hu; exact h2
    · simp at hu; subst hu; exact h3
    · simp at hu
  · rw [Nat.zero_add, cell_of_row _ _ _ _ 24 (0, 0) hg]
    refine ⟨?_, free_at hg j⟩
    rw [Array.getElem?_eq_getElem (show j < cs.size by omega)]; rfl

theorem old5 (w : World) (o p q r s : Obj) : Old w (((((w.alloc o).alloc p).alloc q).alloc r).alloc s) := (old4 w o p q r).alloc (by simp; omega) _

theorem form_row (w : World) : HRow (formW w) (w.heap.size + 1 + 1 + 1 + 1) 0 formH := by
  have hlast : (formW w).heap[w.heap.size + 1 + 1 + 1 + 1]? = some (.cells (formC w.heap.size) 24 (0, 0)) := by
    have := heap_alloc_new ((((w.alloc (.cells #[.string ⟨#[98]⟩, .string ⟨#[99]⟩] 9)).alloc (.cells #[.string ⟨#[97]⟩] 9)).alloc (.cells #[.string ⟨#[97]⟩] 9)).alloc (.cells #[.string ⟨#[122]⟩] 9)) (.cells (formC w.heap.size) 24)
    simpa using this
  have g0 : (formW w).heap[w.heap.size]? = some (.cells #[.string ⟨#[98]⟩, .string ⟨#[99]⟩] 9 (0, 0)) := by
    refine block_old ((old4 _ _ _ _ _)) (h10 w _)
  have g1 : (formW w).heap[w.heap.size + 1]? = some (.cells #[.string ⟨#[97]⟩] 9 (0, 0)) := block_old ((old3 _ _ _ _)) (h21 w _ _)
  have g2 : (formW w).heap[w.heap.size + 1 + 1]? = some (.cells #[.string ⟨#[97]⟩] 9 (0, 0)) := block_old (old2 _ _ _) (h32 w _ _ _)
  have g3 : (formW w).heap[w.heap.size + 1 + 1 + 1]? = some (.cells #[.string ⟨#[122]⟩] 9 (0, 0)) := by
    refine block_old (old1 _ _) ?_
    have := heap_alloc_new (((w.alloc (.cells #[.string ⟨#[98]⟩, .string ⟨#[99]⟩] 9)).alloc (.cells #[.string ⟨#[97]⟩] 9)).alloc (.cells #[.string ⟨#[97]⟩] 9)) (.cells #[.string ⟨#[122]⟩] 9)
    simpa using this
  have of : ∀ {a : Nat} {n c : Nat}, a < w.heap.size + 1 + 1 + 1 + 1 → Offs (w.heap.size + 1 + 1 + 1 + 1) (.slice (some ⟨a, 0, none⟩) n c) := fun ha a' n' c' e => by cases e; simp; omega
  refine hrow_of hlast (show 18 ≤ 18 from Nat.le_refl 18) fun k hk => ?_
  have hk6 : k < 6 := hk
  rcases (show k = 0 ∨ k = 1 ∨ k = 2 ∨ k = 3 ∨ k = 4 ∨ k = 5 by omega) with rfl | rfl | rfl | rfl | rfl | rfl
  · exact ⟨false, _, rfl, rfl, rfl, lies_row (ss := [[98], [99]]) (cap := 2) g0 (Nat.le_refl 2) (fun j u hu => by
      rcases j with _ | _ | j
      · simp [encStr] at hu; subst hu; rfl
      · simp [encStr] at hu; subst hu; rfl
      · simp at hu), of (by omega)⟩
  · exact ⟨false, _, rfl, rfl, rfl, lies_single _ _ _ g1, of (by omega)⟩
  · exact ⟨false, _, rfl, rfl, rfl, lies_single _ _ _ g2, of (by omega)⟩
  · exact ⟨false, _, rfl, rfl, rfl, lies_nil _, offs_nil _⟩
  · exact ⟨false, _, rfl, rfl, rfl, lies_nil _, offs_nil _⟩
  · exact ⟨false, _, rfl, rfl, rfl, lies_single _ _ _ g3, of (by omega)⟩

/-- The contracts at heads that are known. -/
theorem order_lit {W : World} {v : Value} {hs : List Hd} {o : List Txt} (h : LiesH W v hs) (hm : SmallH hs) (ho : ordM hs = some o) : Hid (∀ w', Old W w' → Calls Try.prog 10 #[v] w' fun e w'' => ∃ u, e = .returned (.tuple #[u, .bool true]) ∧ LiesS w'' u o ∧ Old w' w'') := fun w' hw =>
  (order_walk w' v hs (h.old hw) hm).mono fun e w'' ⟨h1, h2⟩ => by
    rcases h1 with ⟨u, o', e1, rfl, l⟩ | ⟨e1, _⟩
    · rw [ho] at e1; cases e1; exact ⟨u, rfl, l, h2⟩
    · rw [ho] at e1; cases e1

theorem closed_lit {W : World} {v : Value} {hs : List Hd} {d : Bool} (h : LiesH W v hs) (hm : SmallH hs) (ho : (ordM hs).isSome = d) : Hid (∀ w', Old W w' → Calls Try.prog 12 #[v] w' fun e w'' => e = .returned (.bool d) ∧ Old w' w'') := fun w' hw => by
  have := closed_walk w' v hs (h.old hw) hm
  rw [ho] at this
  exact this

theorem tops_lit {W : World} {v : Value} {hs : List Hd} {o : List Txt} (h : LiesH W v hs) (hm : SmallH hs) (ho : ∀ out : List Txt, out.Pairwise (· < ·) → (∀ x, x ∈ out ↔ isTop hs x) → out = o) : Hid (∀ w', Old W w' → Calls Try.prog 13 #[v] w' fun e w'' => ∃ u, e = .returned u ∧ LiesS w'' u o ∧ Old w' w'') := fun w' hw =>
  (tops_walk w' v hs (h.old hw) hm).mono fun e w'' ⟨u, out, h1, h2, h3, h4, h5⟩ => ⟨u, h1, ho out h3 h4 ▸ h2, h5⟩

theorem all_lit {W : World} {v : Value} {hs : List Hd} {x : ByteArray} {o : List Txt} (h : LiesH W v hs) (hm : SmallH hs) (hn : (names hs).Nodup) (hx : x.size ≤ maxLen) (ho : ∀ out : List Txt, IsAll hs x.data.toList out → out = o) : Hid (∀ w', Old W w' → Calls Try.prog 14 #[v, .string x] w' fun e w'' => ∃ u, e = .returned u ∧ LiesS w'' u o ∧ Old w' w'') := fun w' hw =>
  (all_walk w' v hs (h.old hw) hm hn x hx).mono fun e w'' ⟨u, out, h1, h2, h3, h4⟩ => ⟨u, h1, ho out h3 ▸ h2, h4⟩

theorem apart_lit {W : World} {v : Value} {hs : List Hd} {x y : ByteArray} {d : Bool} (h : LiesH W v hs) (hm : SmallH hs) (hn : (names hs).Nodup) (hx : x.size ≤ maxLen) (hy : y.size ≤ maxLen) (ho : ApartP hs x.data.toList y.data.toList ↔ d = true) : Hid (∀ w', Old W w' → Calls Try.prog 15 #[v, .string x, .string y] w' fun e w'' => e = .returned (.bool d) ∧ Old w' w'') := fun w' hw =>
  (apart_walk w' v hs (h.old hw) hm hn x y hx hy).mono fun e w'' ⟨d', h1, h2, h3⟩ => ⟨by rw [h1, Bool.eq_iff_iff.2 (h2.trans ho)], h3⟩

theorem same_lit (ss : List Txt) (n : Nat) (hn : ss.length = n) (hl : n ≤ 1000000) : Hid (∀ (w1 : World) (v : Value), LiesS w1 v ss → Calls Try.prog 11 #[v, .slice (some ⟨w1.heap.size, 0, none⟩) n n] (w1.alloc (.cells (ss.map encStr).toArray 9)) fun e w' => e = .returned (.bool true) ∧ Old w1 w') := fun w1 v h => by
  subst hn
  refine (eqK_walk _ v (.slice (some ⟨w1.heap.size, 0, none⟩) ss.length ss.length) ss ss (h.old (old1 _ _)) (lies_row (h10 _ _) (Nat.le_refl _) (fun j u hu => by simpa using hu)) hl hl).mono ?_
  rintro e w' ⟨rfl, m, rfl⟩
  exact ⟨by simp, (old1 _ _).trans ⟨rfl, rfl, rfl, Nat.le_refl _, fun _ _ => rfl⟩⟩

def PhS (a b c : World) (k : Nat) (w : World) : Prop := w = match k with
  | 0 => a
  | 1 => b
  | _ => c

set_option maxRecDepth 20000 in
set_option maxHeartbeats 8000000 in
theorem forms_walk (w : World) (v : Int) : Calls Try.prog 3 #[.int .i64 v] w fun e w' => e = .returned (.bool true) ∧ Old w w' := by
  have KW := mkHid (fun w1 => within_walk v 6 (by decide) (by decide) w1)
  obtain ⟨k, hk⟩ : ∃ k : Nat, v % 6 = (k : Int) := ⟨(v % 6).toNat, by omega⟩
  have hk6 : k < 6 := by omega
  rw [hk] at KW
  clear hk
  have S1 := same_lit [[97], [98], [99], [100], [122], [101]] 6 rfl (by decide)
  have S1' : Hid (∀ (w1 : World) (v : Value), LiesS w1 v [[97], [98], [99], [100], [122], [101]] → Calls Try.prog 11 #[v, .slice (some ⟨w1.heap.size, 0, none⟩) 6 6] (w1.alloc (.cells #[.string ⟨#[97]⟩, .string ⟨#[98]⟩, .string ⟨#[99]⟩, .string ⟨#[100]⟩, .string ⟨#[122]⟩, .string ⟨#[101]⟩] 9)) fun e w' => e = .returned (.bool true) ∧ Old w1 w') := S1
  have S2' : Hid (∀ (w1 : World) (v : Value), LiesS w1 v [[100], [101]] → Calls Try.prog 11 #[v, .slice (some ⟨w1.heap.size, 0, none⟩) 2 2] (w1.alloc (.cells #[.string ⟨#[100]⟩, .string ⟨#[101]⟩] 9)) fun e w' => e = .returned (.bool true) ∧ Old w1 w') := same_lit [[100], [101]] 2 rfl (by decide)
  have S3' : Hid (∀ (w1 : World) (v : Value), LiesS w1 v [[97], [98], [99]] → Calls Try.prog 11 #[v, .slice (some ⟨w1.heap.size, 0, none⟩) 3 3] (w1.alloc (.cells #[.string ⟨#[97]⟩, .string ⟨#[98]⟩, .string ⟨#[99]⟩] 9)) fun e w' => e = .returned (.bool true) ∧ Old w1 w') := same_lit [[97], [98], [99]] 3 rfl (by decide)
  clear S1
  go_enter Try.func3, Try.ntmps3
  go_upto_region 3 with (go_at_call 9; (with_reducible refine (KW.out _).mono ?_); rintro e w1 ⟨rfl, hw1⟩)
  rw [← hw1]
  have hrow : HRow w1 (w.heap.size + 1 + 1 + 1 + 1) 0 formH := by rw [hw1]; exact form_row w
  have hold : Old w w1 := by rw [hw1]; exact old5 _ _ _ _ _ _
  obtain ⟨ci, cj, V1, V2, q1, q2, q3, q4, q5, q6⟩ := swap_runs w1.drew (w.heap.size + 1 + 1 + 1 + 1) 0 formH hrow.drew 0 k (by decide) hk6
  have HOLD2 : Hid (Old w V2) := (hold.drew).grown q6 (by have := hold.size; simpa using this) (fun j e => by cases e; omega)
  rw [show (0 + 0 * 3 : Nat) = 0 from rfl] at q1 q3
  rw [Nat.zero_add] at q2 q4
  have Q1 := mkHid q1
  have Q2 := mkHid q2
  have Q3 := mkHid q3
  have Q4 := mkHid q4
  have Q5 := mkHid q5
  have hk60 : (k : Int) < 6 := by omega
  have HK := mkHid hk6
  obtain ⟨V0, hV0⟩ : ∃ V0, V0 = w1.drew := ⟨_, rfl⟩
  rw [← hV0] at Q1 Q2 Q3
  have HV0 := mkHid hV0
  clear hw1 hrow hold q1 q2 q3 q4 q5 q6 hk6 KW hV0
  refine Rt.wp_region_phases (by kernel_rfl) (by kernel_rfl) [11, 13] (by decide) (by decide) (PhS V0 V1 V2) (fun _ _ => False) HV0.out.symm (fun _ _ _ _ h => h.elim) ?_
  iterate 6
    (refine Rt.wpP_pure (by rfl) (by rfl) ?_ (fun w9 => ?_) (fun K hK => ?_)
     rotate_left 1
     · go_simp
       refine Rt.upT_value ?_; rfl
     go_simp
     refine hK _ _ ?_
     clear hK K)
  refine Rt.wpP_read (by rfl) 0 0 (by kernel_rfl) (by kernel_rfl) (by rfl) (.agg cj) (fun k1 hk1 hk2 w9 hk => ?_) (fun K hK => ?_)
  · obtain rfl : k1 = 0 := by omega
    obtain rfl : w9 = V0 := hk
    refine upT_loadR 24 (.tmp 25) ?_ _ ?_ Q2.out rfl
    · rfl
    · rfl
  go_simp
  refine hK _ _ ?_
  clear hK K
  iterate 2
    (refine Rt.wpP_pure (by rfl) (by rfl) ?_ (fun w9 => ?_) (fun K hK => ?_)
     rotate_left 1
     · go_simp
       refine Rt.upT_value ?_; rfl
     go_simp
     refine hK _ _ ?_
     clear hK K)
  refine Rt.wpP_read (by rfl) 0 0 (by kernel_rfl) (by kernel_rfl) (by rfl) (.agg ci) (fun k1 hk1 hk2 w9 hk => ?_) (fun K hK => ?_)
  · obtain rfl : k1 = 0 := by omega
    obtain rfl : w9 = V0 := hk
    refine upT_loadR 24 (.tmp 28) ?_ _ ?_ Q1.out rfl
    · rfl
    · rfl
  go_simp
  refine hK _ _ ?_
  clear hK K
  iterate 1
    (refine Rt.wpP_pure (by rfl) (by rfl) ?_ (fun w9 => ?_) (fun K hK => ?_)
     rotate_left 1
     · go_simp
       refine Rt.upT_value ?_; rfl
     go_simp
     refine hK _ _ ?_
     clear hK K)
  refine Rt.wpP_one (by rfl) 0 (by kernel_rfl) (by kernel_rfl) (by rfl) undef (fun w9 hk => ?_) (fun K hK => ?_)
  · obtain rfl : w9 = V0 := hk
    refine upT_storeR 24 (.tmp 30) (.tmp 26) ?_ _ _ ?_ ?_ Q3.out rfl
    · rfl
    · rfl
    · rfl
  go_simp
  refine hK _ _ ?_
  clear hK K
  iterate 1
    (refine Rt.wpP_pure (by rfl) (by rfl) ?_ (fun w9 => ?_) (fun K hK => ?_)
     rotate_left 1
     · go_simp
       refine Rt.upT_value ?_; rfl
     go_simp
     refine hK _ _ ?_
     clear hK K)
  refine Rt.wpP_one (by rfl) 1 (by kernel_rfl) (by kernel_rfl) (by rfl) undef (fun w9 hk => ?_) (fun K hK => ?_)
  · obtain rfl : w9 = V1 := hk
    refine upT_storeR 24 (.tmp 31) (.tmp 29) ?_ _ _ ?_ ?_ Q4.out rfl
    · rfl
    · rfl
    · rfl
  go_simp
  refine hK _ _ ?_
  clear hK K
  refine Rt.wpP_end fun _ w9 hk => ?_
  obtain rfl : w9 = V2 := hk
  have hlies : LiesH w9 (.slice (some ⟨w.heap.size + 1 + 1 + 1 + 1, 0, none⟩) 6 6) (swapH formH 0 k) := by
    have := Q5.out.lies (cap := 6) (by rw [swapH_len]; decide)
    rw [swapH_len] at this; exact this
  have hsm := form_small k HK.out
  have hord := form_ord k HK.out
  have hnd := (NeedsPlain.ord_spec hord).1
  have hmem := form_mem k HK.out
  have hmem' : ∀ x, x ∈ formH ↔ x ∈ swapH formH 0 k := fun x => (hmem x).symm
  have CO := order_lit hlies hsm hord
  have CC := closed_lit (d := true) hlies hsm (by rw [hord]; rfl)
  have CT := tops_lit (o := [[100], [101]]) hlies hsm (fun out h1 h2 => form_tops h1 (fun x => (h2 x).trans (isTop_congr hmem x)))
  have CD : Hid (∀ w', Old w9 w' → Calls Try.prog 14 #[.slice (some ⟨w.heap.size + 1 + 1 + 1 + 1, 0, none⟩) 6 6, .string ⟨#[100]⟩] w' fun e w'' => ∃ u, e = .returned u ∧ LiesS w'' u [[97], [98], [99]] ∧ Old w' w'') :=
    all_lit hlies hsm hnd (by decide) (fun out h => isAll_is (isAll_congr hmem h) (by decide) (fun x hx => by
      simp at hx
      rcases hx with rfl | rfl | rfl
      · exact ⟨f_da, by decide⟩
      · exact ⟨f_db, by decide⟩
      · exact ⟨f_dc, by decide⟩) (by decide))
  have CA : Hid (∀ w', Old w9 w' → Calls Try.prog 14 #[.slice (some ⟨w.heap.size + 1 + 1 + 1 + 1, 0, none⟩) 6 6, .string ⟨#[97]⟩] w' fun e w'' => ∃ u, e = .returned u ∧ LiesS w'' u [] ∧ Old w' w'') :=
    all_lit hlies hsm hnd (by decide) (fun out h => isAll_is (isAll_congr hmem h) (by decide) (fun x hx => by cases hx) (by decide))
  have CX : Hid (∀ w', Old w9 w' → Calls Try.prog 14 #[.slice (some ⟨w.heap.size + 1 + 1 + 1 + 1, 0, none⟩) 6 6, .string ⟨#[120]⟩] w' fun e w'' => ∃ u, e = .returned u ∧ LiesS w'' u [] ∧ Old w' w'') :=
    all_lit hlies hsm hnd (by decide) (fun out h => isAll_is (isAll_congr hmem h) (by decide) (fun x hx => by cases hx) (by decide))
  have A1 : Hid (∀ w', Old w9 w' → Calls Try.prog 15 #[.slice (some ⟨w.heap.size + 1 + 1 + 1 + 1, 0, none⟩) 6 6, .string ⟨#[98]⟩, .string ⟨#[99]⟩] w' fun e w'' => e = .returned (.bool true) ∧ Old w' w'') := apart_lit hlies hsm hnd (by decide) (by decide) (by rw [apart_congr hmem]; exact iff_of_true f_bc rfl)
  have A2 : Hid (∀ w', Old w9 w' → Calls Try.prog 15 #[.slice (some ⟨w.heap.size + 1 + 1 + 1 + 1, 0, none⟩) 6 6, .string ⟨#[100]⟩, .string ⟨#[101]⟩] w' fun e w'' => e = .returned (.bool true) ∧ Old w' w'') := apart_lit hlies hsm hnd (by decide) (by decide) (by rw [apart_congr hmem]; exact iff_of_true f_de rfl)
  have A3 : Hid (∀ w', Old w9 w' → Calls Try.prog 15 #[.slice (some ⟨w.heap.size + 1 + 1 + 1 + 1, 0, none⟩) 6 6, .string ⟨#[100]⟩, .string ⟨#[97]⟩] w' fun e w'' => e = .returned (.bool false) ∧ Old w' w'') := apart_lit hlies hsm hnd (by decide) (by decide) (by rw [apart_congr hmem]; exact iff_of_false f_da' (by decide))
  have A4 : Hid (∀ w', Old w9 w' → Calls Try.prog 15 #[.slice (some ⟨w.heap.size + 1 + 1 + 1 + 1, 0, none⟩) 6 6, .string ⟨#[97]⟩, .string ⟨#[100]⟩] w' fun e w'' => e = .returned (.bool false) ∧ Old w' w'') := apart_lit hlies hsm hnd (by decide) (by decide) (by rw [apart_congr hmem]; exact iff_of_false f_ad' (by decide))
  have A5 : Hid (∀ w', Old w9 w' → Calls Try.prog 15 #[.slice (some ⟨w.heap.size + 1 + 1 + 1 + 1, 0, none⟩) 6 6, .string ⟨#[97]⟩, .string ⟨#[97]⟩] w' fun e w'' => e = .returned (.bool false) ∧ Old w' w'') := apart_lit hlies hsm hnd (by decide) (by decide) (by rw [apart_congr hmem]; exact iff_of_false f_aa' (by decide))
  have A6 : Hid (∀ w', Old w9 w' → Calls Try.prog 15 #[.slice (some ⟨w.heap.size + 1 + 1 + 1 + 1, 0, none⟩) 6 6, .string ⟨#[97]⟩, .string ⟨#[120]⟩] w' fun e w'' => e = .returned (.bool false) ∧ Old w' w'') := apart_lit hlies hsm hnd (by decide) (by decide) (by rw [apart_congr hmem]; exact iff_of_false f_ax' (by decide))
  have WK := mkHid (fun w1 => wakes_walk w1)
  have OO : Hid (Old w9 w9) := Below.refl _ _
  clear hlies hsm hord hnd hmem hmem' Q1 Q2 Q3 Q4 Q5
  go_wp2_with (first
    | (go_at_call 10; (with_reducible refine (CO.out _ OO.out).mono ?_); rintro e w10 ⟨u10, rfl, l10, o10⟩; have L10 := mkHid l10; have O10 := mkHid (OO.out.trans (o10.mono OO.out.size)); clear l10 o10)
    | (go_at_call 11; (with_reducible refine (S1'.out w10 u10 L10.out).mono ?_); rintro e w11 ⟨rfl, o11⟩; have O11 := mkHid (O10.out.trans (o11.mono O10.out.size)); clear o11)
    | (go_at_call 12; (with_reducible refine (CC.out _ O11.out).mono ?_); rintro e w12 ⟨rfl, o12⟩; have O12 := mkHid (O11.out.trans (o12.mono O11.out.size)); clear o12)
    | (go_at_call 13; (with_reducible refine (CT.out _ O12.out).mono ?_); rintro e w13 ⟨u13, rfl, l13, o13⟩; have L13 := mkHid l13; have O13 := mkHid (O12.out.trans (o13.mono O12.out.size)); clear l13 o13)
    | (go_at_call 11; (with_reducible refine (S2'.out w13 u13 L13.out).mono ?_); rintro e w14 ⟨rfl, o14⟩; have O14 := mkHid (O13.out.trans (o14.mono O13.out.size)); clear o14)
    | (go_at_call 14; (with_reducible refine (CD.out _ O14.out).mono ?_); rintro e w15 ⟨u15, rfl, l15, o15⟩; have L15 := mkHid l15; have O15 := mkHid (O14.out.trans (o15.mono O14.out.size)); clear l15 o15)
    | (go_at_call 11; (with_reducible refine (S3'.out w15 u15 L15.out).mono ?_); rintro e w16 ⟨rfl, o16⟩; have O16 := mkHid (O15.out.trans (o16.mono O15.out.size)); clear o16)
    | (go_at_call 14; (with_reducible refine (CA.out _ O16.out).mono ?_); rintro e w17 ⟨u17, rfl, ⟨ao17, c17, rfl, _⟩, o17⟩; have O17 := mkHid (O16.out.trans (o17.mono O16.out.size)); clear o17)
    | (go_at_call 14; (with_reducible refine (CX.out _ O17.out).mono ?_); rintro e w18 ⟨u18, rfl, ⟨ao18, c18, rfl, _⟩, o18⟩; have O18 := mkHid (O17.out.trans (o18.mono O17.out.size)); clear o18)
    | (go_at_call 15; (with_reducible refine (A1.out _ O18.out).mono ?_); rintro e w19 ⟨rfl, o19⟩; have O19 := mkHid (O18.out.trans (o19.mono O18.out.size)); clear o19)
    | (go_at_call 15; (with_reducible refine (A2.out _ O19.out).mono ?_); rintro e w20 ⟨rfl, o20⟩; have O20 := mkHid (O19.out.trans (o20.mono O19.out.size)); clear o20)
    | (go_at_call 15; (with_reducible refine (A3.out _ O20.out).mono ?_); rintro e w21 ⟨rfl, o21⟩; have O21 := mkHid (O20.out.trans (o21.mono O20.out.size)); clear o21)
    | (go_at_call 15; (with_reducible refine (A4.out _ O21.out).mono ?_); rintro e w22 ⟨rfl, o22⟩; have O22 := mkHid (O21.out.trans (o22.mono O21.out.size)); clear o22)
    | (go_at_call 15; (with_reducible refine (A5.out _ O22.out).mono ?_); rintro e w23 ⟨rfl, o23⟩; have O23 := mkHid (O22.out.trans (o23.mono O22.out.size)); clear o23)
    | (go_at_call 15; (with_reducible refine (A6.out _ O23.out).mono ?_); rintro e w24 ⟨rfl, o24⟩; have O24 := mkHid (O23.out.trans (o24.mono O23.out.size)); clear o24)
    | (go_at_call 16; (with_reducible refine (WK.out _).mono ?_); rintro e w25 ⟨rfl, o25⟩; have O25 := mkHid (O24.out.trans (o25.mono O24.out.size)); clear o25))
  go_ret
  exact ⟨rfl, HOLD2.out.trans (O25.out.mono HOLD2.out.size)⟩
end Go.Proofs.Ytcogeebfldlpoaa
