/-
  idOf; words of a line.
-/
import Derived.Test.YtfkfaaifchafjaaDoorFc
set_option linter.unusedSimpArgs false
set_option linter.unusedVariables false
namespace Go.Proofs.YtfkfaaifchafjaaDoor
open Go.RowKit

theorem ret61 (tmps : Array Value) (w : World) (g : Nat) (cs : Array Value) (hp : tmps.getD 4 undef = .pointer (some ⟨g, 0, none⟩)) (hg : w.heap[g]? = some (.cells cs 42 (0, 0))) (hs : cs.size = 2) : (results Tryd.f61 tmps).run Tryd.prog w = .ok (.agg cs) w := by
  obtain ⟨fs, hfs⟩ := under42
  exact results_cell_row rfl tmps w g 42 cs (0, 0) _ hp hg hfs rfl (by rw [hs]; exact size42)

theorem Rd.one {B : Nat} {w : World} {R : Nat} {rest : Txt} {n : Nat} {p : Pat} (h : Rd B w R rest n p) : w.cell? ⟨R, 1, none⟩ = some (.int .i64 (n : Int)) := h.cells.2.1

set_option maxHeartbeats 1000000 in
theorem idOf_yes (B : Nat) (w : World) (R : Nat) (rest : Txt) (n : Nat) (p : Pat) (h : Rd B w R rest n p) (s : ByteArray) (hs : s.size ≤ 1000000) (x : Idn) (hx : idM s.data.toList = some x) (q : ByteArray) (hq : q = str x.1) (m : Int) (hm : m = x.2) :
    Calls Tryd.prog 61 #[.pointer (some ⟨R, 0, none⟩), .string s] w fun e w' => e = .returned (.agg #[.string q, .int .i64 m]) ∧ Old w w' := by
  have kp := parse_some s hs x hx q hq
  rw [← hm] at kp
  have b0 := old1 w (.cells #[.string ⟨#[]⟩, .int .i64 0] 42)
  have H0 := mkHid (h.old b0 h.size)
  have HB0 := mkHid b0
  have HG0 := mkHid (h10 w (.cells #[.string ⟨#[]⟩, .int .i64 0] 42))
  clear hs hx hq hm h b0
  go_enter Tryd.func61, Tryd.ntmps61
  go_wp2_with (first
    | (go_at_call 84; (with_reducible refine (kp.out _ H0.out.e.e).mono ?_); rintro e w2 ⟨rfl, b2⟩
       have HB2 := mkHid (below_then HB0.out b2)
       have HG2 := mkHid (block_old b2 HG0.out)
       clear b2)
    | ((with_reducible refine at_op (.store 42 (.tmp 5) (.tmp 10)) ?_)
       refine wpList_store_row rfl 42 (.tmp 5) (.tmp 10) rfl w2.heap.size #[.string q, .int .i64 m] rfl rfl 42 _ (h10 _ _) size42 rfl (two_one _ _) ?_
       rw [World.setRow_alloc_new]
       obtain ⟨W, hW⟩ : ∃ W, W = w2.alloc (.cells #[.string q, .int .i64 m] 42) := ⟨_, rfl⟩
       have b3 : Old w2 W := by rw [hW]; exact old1 _ _
       have HB3 := mkHid (below_then HB2.out b3)
       have HG3 := mkHid (block_old b3 HG2.out)
       have HX3 : Hid (W.heap[w2.heap.size]? = some (.cells #[.string q, .int .i64 m] 42 (0, 0))) := by show _ = _; rw [hW]; exact h10 _ _
       rw [← hW]
       obtain ⟨d0, d1⟩ := cell2 HX3.out
       clear b3 hW)
    | (go_at_call 44; (with_reducible refine (need_true _ _).mono ?_); rintro e w3 ⟨rfl, rfl⟩)
    | ((with_reducible refine at_op (.store 42 (.tmp 4) (.tmp 15)) ?_)
       refine wpList_store_row rfl 42 (.tmp 4) (.tmp 15) rfl w.heap.size #[.string q, .int .i64 m] rfl rfl 42 _ HG3.out size42 rfl (two_one _ _) ?_))
  exact bodyPost_ret (v := .agg #[.string q, .int .i64 m]) (ret61 _ _ w.heap.size _ rfl (setRow_heap _ _ _ _ _ _ HG3.out) rfl) rfl ⟨rfl, below_setRow HB3.out (Nat.le_refl _) _⟩

set_option maxHeartbeats 1000000 in
theorem idOf_no (B : Nat) (w : World) (R : Nat) (rest : Txt) (n : Nat) (p : Pat) (h : Rd B w R rest n p) (s : ByteArray) (hs : s.size ≤ 1000000) (hx : idM s.data.toList = none) :
    Calls Tryd.prog 61 #[.pointer (some ⟨R, 0, none⟩), .string s] w fun e w' => e = Pn (n : Int) ∧ Old w w' := by
  have kp := parse_none s hs hx
  have b0 := old1 w (.cells #[.string ⟨#[]⟩, .int .i64 0] 42)
  have H0 := mkHid (h.old b0 h.size)
  have HB0 := mkHid b0
  clear hs hx h b0
  go_enter Tryd.func61, Tryd.ntmps61
  go_wp2_with (first
    | (go_at_call 84; (with_reducible refine (kp.out _ H0.out.e.e).mono ?_); rintro e w2 ⟨rfl, b2⟩
       have HB2 := mkHid (below_then HB0.out b2)
       have HH2 := mkHid (H0.out.old b2 H0.out.size)
       clear b2)
    | ((with_reducible refine at_op (.store 42 (.tmp 5) (.tmp 10)) ?_)
       refine wpList_store_row rfl 42 (.tmp 5) (.tmp 10) rfl w2.heap.size #[.string ⟨#[]⟩, .int .i64 0] rfl rfl 42 _ (h10 _ _) size42 rfl (two_one _ _) ?_
       rw [World.setRow_alloc_new]
       have HH3 := mkHid (HH2.out.old (old1 w2 (.cells #[.string ⟨#[]⟩, .int .i64 0] 42)) HH2.out.size))
    | (go_at_call 44; (with_reducible refine (need_false R (n : Int) _ HH3.out.one).mono ?_); rintro e w3 ⟨rfl, rfl⟩))
  exact ⟨rfl, rfl, below_then HB2.out (old1 _ _)⟩

theorem splitN_full (s : ByteArray) (c : Nat) (hs : s.size ≤ 1000000) (hc : 1 ≤ c) (hc2 : c ≤ 100) (ps : List Txt) (hps : ps = splN 32 (min c (s.size + 1) - 1) s.data.toList) (k : Nat) (hk : k = ps.length) :
    Hid (∀ w, Env w → Calls Tryd.prog 83 #[.string s, .string ⟨#[32]⟩, .int .i64 (c : Int)] w fun e w' => ∃ N, e = .returned (.slice (some ⟨w.heap.size, 0, none⟩) k N) ∧ RowS w' (.slice (some ⟨w.heap.size, 0, none⟩) k N) ps ∧ Old w w') := by
  intro w ⟨⟨m, hm⟩, _, _⟩
  have hd : (Lib.splitB ⟨#[32]⟩ 0 (min c (s.size + 1) - 1) s).map (·.data.toList) = ps := by
    rw [Lib.splitB_data, hps]
    exact splitK_splN 32 _ _
  have hl : (Lib.splitB ⟨#[32]⟩ 0 (min c (s.size + 1) - 1) s).length = ps.length := by rw [← hd, List.length_map]
  refine (Tryd.strings_SplitN s ⟨#[32]⟩ c m w (by omega) hm (by decide) hc (by omega)).mono ?_
  rintro e w' ⟨rfl, rfl⟩
  subst hk
  refine ⟨min c (s.size + 1), by rw [hl], .inr ⟨w.heap.size, 0, _, _, rfl, ?_, h10 _ _, ?_⟩, old1 _ _⟩
  · rw [← hl]
    have := Lib.splitB_length_le ⟨#[32]⟩ 0 (min c (s.size + 1) - 1) s
    omega
  · intro j u hu
    rw [Nat.zero_add]
    unfold Lib.cellsOf
    have hj : j < ps.length := by
      have := (List.getElem?_eq_some_iff.1 hu).1
      simpa using this
    rw [← hu, ← hd]
    simp only [List.getElem?_toArray, List.map_map]
    rw [List.getElem?_append_left (by rw [List.length_map, hl]; exact hj), List.getElem?_map, List.getElem?_map]
    cases (Lib.splitB ⟨#[32]⟩ 0 (min c (s.size + 1) - 1) s)[j]? with
    | none => rfl
    | some b => simp [encStr]
end Go.Proofs.YtfkfaaifchafjaaDoor
