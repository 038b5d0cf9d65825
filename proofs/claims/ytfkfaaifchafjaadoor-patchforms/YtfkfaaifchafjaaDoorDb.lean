/-
  firstLine, changeLine walked.
-/
import Derived.Test.YtfkfaaifchafjaaDoorDa
import Derived.Test.YtfkfaaifchafjaaDoorCg
import Derived.Deep.RegionHeld3
set_option linter.unusedSimpArgs false
set_option linter.unusedVariables false
namespace Go.Proofs.YtfkfaaifchafjaaDoor
open Go.RowKit

theorem undrew {w w' : World} (h : Below w.drew.heap.size w.drew w') : Below w.heap.size w w' := ⟨h.os, h.tape, h.output, h.size, h.block⟩

theorem four_old {w w' : World} {a b c d : Addr} {x y z u : Value} (hb : Below w.heap.size w w') (h : w.cell? a = some x ∧ w.cell? b = some y ∧ w.cell? c = some z ∧ w.cell? d = some u) : w'.cell? a = some x ∧ w'.cell? b = some y ∧ w'.cell? c = some z ∧ w'.cell? d = some u :=
  ⟨cell_old hb h.1, cell_old hb h.2.1, cell_old hb h.2.2.1, cell_old hb h.2.2.2⟩

theorem idT_len {x : Idn} (h : idOk x = true) : (idT x).length ≤ 11 := by
  unfold idOk at h
  simp only [Bool.or_eq_true, decide_eq_true_eq, Bool.and_eq_true] at h
  rcases h with rfl | ⟨⟨hr, h1⟩, h2⟩
  · decide
  · unfold idT
    split
    · decide
    · have a := (right_len hr).2
      have b := dig_len ⟨x.2.toNat, by omega⟩
      simp only [List.length_append, List.length_singleton] at b ⊢
      omega

/-- Print of an id that may stand. -/
theorem print_ok (q : ByteArray) (n : Int) (h : idOk (q.data.toList, n) = true) (t : ByteArray) (ht : t = ⟨(idT (q.data.toList, n)).toArray⟩) :
    Hid (∀ w, Calls Tryd.prog 39 #[.agg #[.string q, .int .i64 n]] w fun e w' => e = .returned (.string t) ∧ Old w w') := by
  subst ht
  intro w
  unfold idOk at h
  simp only [Bool.or_eq_true, decide_eq_true_eq, Bool.and_eq_true] at h
  rcases h with h | ⟨⟨hr, h1⟩, h2⟩
  · have e1 : q = ⟨#[]⟩ := by
      have := congrArg Prod.fst h
      exact ByteArray.ext (Array.toList_inj.1 this)
    have e2 : n = 0 := congrArg Prod.snd h
    subst e1
    subst e2
    exact print_none w
  · obtain ⟨k, rfl⟩ := Int.eq_ofNat_of_zero_le (show 0 ≤ n by omega)
    have hl := right_len hr
    have hne : ¬ ((q.data.toList, (k : Int)) : Idn) = zid := fun e => by
      have := congrArg Prod.snd e
      simp [zid] at this
      omega
    have := print_some q k (by omega) _ rfl (by rw [size_list]; omega) (fun e => by omega) w
    refine this.mono ?_
    rintro e w' ⟨rfl, hb⟩
    refine ⟨?_, hb⟩
    congr 2
    apply ByteArray.ext
    apply Array.toList_inj.1
    unfold idT
    rw [if_neg hne]
    simp

theorem liesS_one (w : World) (t : ByteArray) (H : Nat) (h : w.heap.size = H) : LiesS (w.alloc (.cells #[.string t] 9)) (.slice (some ⟨H, 0, none⟩) 1 1) [t.data.toList] := by
  subst h
  refine ⟨_, _, rfl, Nat.le_refl _, fun h => (by cases h), fun a ha j u hu => ?_⟩
  cases ha
  match j, hu with
  | 0, hu => simp [encStr] at hu; subst hu; rw [add_none, cell_of_row _ _ 0 _ 9 (0, 0) (heap_alloc_new w _)]; rfl

theorem liesS_two (w : World) (s t : ByteArray) (H : Nat) (h : w.heap.size = H) : LiesS (w.alloc (.cells #[.string s, .string t] 9)) (.slice (some ⟨H, 0, none⟩) 2 2) [s.data.toList, t.data.toList] := by
  subst h
  refine ⟨_, _, rfl, Nat.le_refl _, fun h => (by cases h), fun a ha j u hu => ?_⟩
  cases ha
  match j, hu with
  | 0, hu => simp [encStr] at hu; subst hu; rw [add_none, cell_of_row _ _ 0 _ 9 (0, 0) (heap_alloc_new w _)]; rfl
  | 1, hu => simp [encStr] at hu; subst hu; rw [add_none, cell_of_row _ _ 1 _ 9 (0, 0) (heap_alloc_new w _)]; rfl

theorem liesS_three (w : World) (r s t : ByteArray) (H : Nat) (h : w.heap.size = H) : LiesS (w.alloc (.cells #[.string r, .string s, .string t] 9)) (.slice (some ⟨H, 0, none⟩) 3 3) [r.data.toList, s.data.toList, t.data.toList] := by
  subst h
  refine ⟨_, _, rfl, Nat.le_refl _, fun h => (by cases h), fun a ha j u hu => ?_⟩
  cases ha
  match j, hu with
  | 0, hu => simp [encStr] at hu; subst hu; rw [add_none, cell_of_row _ _ 0 _ 9 (0, 0) (heap_alloc_new w _)]; rfl
  | 1, hu => simp [encStr] at hu; subst hu; rw [add_none, cell_of_row _ _ 1 _ 9 (0, 0) (heap_alloc_new w _)]; rfl
  | 2, hu => simp [encStr] at hu; subst hu; rw [add_none, cell_of_row _ _ 2 _ 9 (0, 0) (heap_alloc_new w _)]; rfl

theorem words_hid (a : ByteArray) (ws : List Txt) (hlen : (wordsT a.data.toList ws).length ≤ 100000000000000) (hws : ws.length ≤ 1000000) (t : ByteArray) (ht : t = ⟨(wordsT a.data.toList ws ++ [10]).toArray⟩) :
    Hid (∀ w lv, LiesS w lv ws → Calls Tryd.prog 23 #[.string a, lv] w fun e w' => e = .returned (.string t) ∧ Old w w') :=
  fun w lv hv => words_walk w a lv ws hv hlen hws t ht

set_option maxHeartbeats 1000000 in
theorem firstLine_walk (w : World) (nm : ByteArray) (tg : Bool) (nv cv : Value) (hnm : nm.size ≤ 1000000) (t : ByteArray) (ht : t = ⟨(wordsT (if tg then wTag else wPatch) [nm.data.toList] ++ [10]).toArray⟩) :
    Calls Tryd.prog 22 #[.agg #[.string nm, .bool tg, nv, cv]] w fun e w' => e = .returned (.string t) ∧ Old w w' := by
  have HO := mkHid (old2 w (.cells #[.string nm, .bool tg, nv, cv] 26) (.cells #[.string nm] 9))
  cases tg
  · have k := words_hid ⟨#[112, 97, 116, 99, 104]⟩ [nm.data.toList] (by rw [size_list] at hnm; simp only [wordsT, List.flatMap_cons, List.flatMap_nil, List.length_append, List.length_cons, List.length_nil]; omega) (by simp) t ht
    clear ht hnm
    go_enter Tryd.func22, Tryd.ntmps22
    go_wp2_with (go_at_call 23; (with_reducible refine (k.out _ _ (liesS_one _ _ _ (by simp))).mono ?_); rintro e w1 ⟨rfl, b1⟩)
    go_ret
    exact ⟨rfl, below_then HO.out b1⟩
  · have k := words_hid ⟨#[116, 97, 103]⟩ [nm.data.toList] (by rw [size_list] at hnm; simp only [wordsT, List.flatMap_cons, List.flatMap_nil, List.length_append, List.length_cons, List.length_nil]; omega) (by simp) t ht
    clear ht hnm
    go_enter Tryd.func22, Tryd.ntmps22
    go_wp2_with (go_at_call 23; (with_reducible refine (k.out _ _ (liesS_one _ _ _ (by simp))).mono ?_); rintro e w1 ⟨rfl, b1⟩)
    go_ret
    exact ⟨rfl, below_then HO.out b1⟩

theorem idS (x : Idn) (h : idOk x = true) : ∃ t : ByteArray, t = ⟨(idT x).toArray⟩ ∧ t.data.toList = idT x ∧ (idT x).length ≤ 11 := ⟨_, rfl, rfl, idT_len h⟩

set_option maxRecDepth 20000 in
set_option maxHeartbeats 4000000 in
theorem changeLine_walk (w : World) (k : Int) (f l t : ByteArray) (fn ln : Int) (ht : t.size ≤ 1000000) (hf : idOk (f.data.toList, fn) = true) (hl : idOk (l.data.toList, ln) = true) (s : ByteArray) (hs : s = ⟨(chgT (k, (f.data.toList, fn), (l.data.toList, ln), t.data.toList) ++ [10]).toArray⟩) :
    Calls Tryd.prog 24 #[.agg #[.int .i64 k, .string f, .int .i64 fn, .string l, .int .i64 ln, .string t]] w fun e w' => e = .returned (.string s) ∧ Old w w' := by
  obtain ⟨F, hF, hF2, hF3⟩ := idS _ hf
  obtain ⟨L, hL, hL2, hL3⟩ := idS _ hl
  have kF := print_ok f fn hf F hF
  have kL := print_ok l ln hl L hL
  obtain ⟨B, hB⟩ : ∃ B, B = w.heap.size := ⟨_, rfl⟩
  have HO := mkHid (old1 w (.cells #[.int .i64 k, .string f, .int .i64 fn, .string l, .int .i64 ln, .string t] 44))
  obtain ⟨W, hW⟩ : ∃ W, W = w.alloc (.cells #[.int .i64 k, .string f, .int .i64 fn, .string l, .int .i64 ln, .string t] 44) := ⟨_, rfl⟩
  rw [← hW] at HO
  have HG : Hid (W.heap[B]? = some (.cells #[.int .i64 k, .string f, .int .i64 fn, .string l, .int .i64 ln, .string t] 44 (0, 0))) := by show _ = _; rw [hW, hB]; exact h10 _ _
  have HB := mkHid hB
  have HWW := mkHid hW
  have HT : Hid (t.data.toList.length ≤ 1000000) := by rw [size_list] at ht; exact ht
  have HS := mkHid hs
  have HFF := mkHid hF2
  have HLL := mkHid hL2
  have HF3 := mkHid hF3
  have HL3 := mkHid hL3
  clear hB hW ht hs hF hF2 hF3 hL hL2 hL3 hf hl
  go_enter Tryd.func24, Tryd.ntmps24
  go_upto_region 1 with (fail)
  rw [← HB.out, ← HWW.out]
  obtain ⟨c0, c1, c2, c3, c4, c5⟩ := cell6 HG.out
  go_cut [3, 4] (fun x y wc => x = .string F ∧ y = .string L ∧ Hid (Old W wc))
  case first =>
    clear HT HS HFF HLL HF3 HL3 HG c0 c5
    go_region_held3 (fun w' => w'.cell? ⟨B, 1, none⟩ = some (.string f) ∧ w'.cell? ⟨B, 2, none⟩ = some (.int .i64 fn) ∧ w'.cell? ⟨B, 3, none⟩ = some (.string l) ∧ w'.cell? ⟨B, 4, none⟩ = some (.int .i64 ln))
      (first | go_keep | exact four_old b6 (by assumption) | exact four_old b5 ⟨c1, c2, c3, c4⟩)
      (first
        | (go_at_call 39; (with_reducible refine (kF.out W.drew).mono ?_); rintro e w5 ⟨rfl, b5⟩)
        | (go_at_call 39; (with_reducible refine (kL.out W.drew).mono ?_); rintro e w5 ⟨rfl, b5⟩)
        | (go_at_call 39; (with_reducible refine (kF.out _).mono ?_); rintro e w6 ⟨rfl, b6⟩)
        | (go_at_call 39; (with_reducible refine (kL.out _).mono ?_); rintro e w6 ⟨rfl, b6⟩))
    all_goals
      go_wp2
      go_meet
      case rel => exact ⟨rfl, rfl, below_then (undrew b5) b6⟩
  case rest =>
    obtain ⟨rfl, rfl, HOC⟩ := hcut
    obtain ⟨c0, c1, c2, c3, c4, c5⟩ := cell6 (block_old HOC.out HG.out)
    clear kF kL
    by_cases k1 : k = 1
    · subst k1
      have kW := words_hid ⟨#[109, 97, 107, 101]⟩ [t.data.toList] (by
        have h1 := HT.out; have h2 := HF3.out; have h3 := HL3.out; have h4 := HFF.out; have h5 := HLL.out
        simp only [wordsT, List.flatMap_cons, List.flatMap_nil, List.length_append, List.length_cons, List.length_nil, h4, h5]; omega) (by simp) s (by rw [HS.out]; simp only [chgT, chgW, HFF.out, HLL.out]; rfl)
      go_wp2_with (go_at_call 23; (with_reducible refine (kW.out _ _ (liesS_one _ _ _ (by simp))).mono ?_); rintro e w1 ⟨rfl, b1⟩)
      go_ret
      exact ⟨rfl, below_then (below_then HO.out HOC.out) (below_then (old1 _ _) b1)⟩
    by_cases k2 : k = 2
    · subst k2
      have kW := words_hid ⟨#[110, 97, 109, 101]⟩ [F.data.toList, t.data.toList] (by
        have h1 := HT.out; have h2 := HF3.out; have h3 := HL3.out; have h4 := HFF.out; have h5 := HLL.out
        simp only [wordsT, List.flatMap_cons, List.flatMap_nil, List.length_append, List.length_cons, List.length_nil, h4, h5]; omega) (by simp) s (by rw [HS.out]; simp only [chgT, chgW, HFF.out, HLL.out]; rfl)
      go_wp2_with (go_at_call 23; (with_reducible refine (kW.out _ _ (liesS_two _ _ _ _ (by simp))).mono ?_); rintro e w1 ⟨rfl, b1⟩)
      go_ret
      exact ⟨rfl, below_then (below_then HO.out HOC.out) (below_then (old1 _ _) b1)⟩
    by_cases k3 : k = 3
    · subst k3
      have kW := words_hid ⟨#[100, 114, 111, 112]⟩ [F.data.toList] (by
        have h1 := HT.out; have h2 := HF3.out; have h3 := HL3.out; have h4 := HFF.out; have h5 := HLL.out
        simp only [wordsT, List.flatMap_cons, List.flatMap_nil, List.length_append, List.length_cons, List.length_nil, h4, h5]; omega) (by simp) s (by rw [HS.out]; simp only [chgT, chgW, HFF.out, HLL.out]; rfl)
      go_wp2_with (go_at_call 23; (with_reducible refine (kW.out _ _ (liesS_one _ _ _ (by simp))).mono ?_); rintro e w1 ⟨rfl, b1⟩)
      go_ret
      exact ⟨rfl, below_then (below_then HO.out HOC.out) (below_then (old1 _ _) b1)⟩
    by_cases k4 : k = 4
    · subst k4
      have kW := words_hid ⟨#[112, 117, 116]⟩ [F.data.toList, L.data.toList, t.data.toList] (by
        have h1 := HT.out; have h2 := HF3.out; have h3 := HL3.out; have h4 := HFF.out; have h5 := HLL.out
        simp only [wordsT, List.flatMap_cons, List.flatMap_nil, List.length_append, List.length_cons, List.length_nil, h4, h5]; omega) (by simp) s (by rw [HS.out]; simp only [chgT, chgW, HFF.out, HLL.out]; rfl)
      go_wp2_with (go_at_call 23; (with_reducible refine (kW.out _ _ (liesS_three _ _ _ _ _ (by simp))).mono ?_); rintro e w1 ⟨rfl, b1⟩)
      go_ret
      exact ⟨rfl, below_then (below_then HO.out HOC.out) (below_then (old1 _ _) b1)⟩
    · have e1 : (k == 1) = false := by simpa using k1
      have e2 : (k == 2) = false := by simpa using k2
      have e3 : (k == 3) = false := by simpa using k3
      have e4 : (k == 4) = false := by simpa using k4
      have HS5 : Hid (chgT (k, (f.data.toList, fn), (l.data.toList, ln), t.data.toList) = wordsT wCut [idT (f.data.toList, fn), idT (l.data.toList, ln)]) := by
        show _ = _
        simp [chgT, chgW, k1, k2, k3, k4]
      clear k1 k2 k3 k4
      have kW := words_hid ⟨#[99, 117, 116]⟩ [F.data.toList, L.data.toList] (by
        have h1 := HT.out; have h2 := HF3.out; have h3 := HL3.out; have h4 := HFF.out; have h5 := HLL.out
        simp only [wordsT, List.flatMap_cons, List.flatMap_nil, List.length_append, List.length_cons, List.length_nil, h4, h5]; omega) (by simp) s (by rw [HS.out]; rw [HS5.out, HFF.out, HLL.out]; rfl)
      go_wp2_with (go_at_call 23; (with_reducible refine (kW.out _ _ (liesS_two _ _ _ _ (by simp))).mono ?_); rintro e w1 ⟨rfl, b1⟩)
      go_ret
      exact ⟨rfl, below_then (below_then HO.out HOC.out) (below_then (old1 _ _) b1)⟩
end Go.Proofs.YtfkfaaifchafjaaDoor
