/-
  The queue: what a swap, what a call leaves; Swap walked.
-/
import Derived.Test.YtcogeebfldlpoaaQa
import Derived.Deep.AppendLies
import Derived.Laws.OwnMore
set_option linter.unusedSimpArgs false
set_option linter.unusedVariables false
namespace Go.Proofs.Ytcogeebfldlpoaa
open Go.RowKit Go.Proofs.NeedsHeap

set_option maxHeartbeats 1000000 in
theorem swap_two (w : World) (b c i j m : Nat) (x y : ByteArray) (hi : i < m) (hj : j < m) (hl : m ≤ 1000000) (r1 : w.cell? ⟨b, i, none⟩ = some (.string x)) (r2 : w.cell? ⟨b, j, none⟩ = some (.string y)) (f : ∀ o, w.frozen? ⟨b, o, none⟩ = false) (hij : i ≠ j) :
    Calls Try.prog 79 #[.slice (some ⟨b, 0, none⟩) m c, .int .i64 (i : Int), .int .i64 (j : Int)] w fun e w' => e = .returned (.tuple #[]) ∧ w' = ((w.setCell ⟨b, i, none⟩ (.string y)).setCell ⟨b, j, none⟩ (.string x)).drew := by
  have i1 : (i : Int) < (m : Int) := by omega
  have j1 : (j : Int) < (m : Int) := by omega
  have f1 := f i
  have f2 := f j
  go_enter Try.func79, Try.ntmps79
  go_wp2
  go_region
  all_goals (go_end0; exact ⟨rfl, rfl⟩)

set_option maxHeartbeats 1000000 in
theorem swap_one (w : World) (b c i m : Nat) (x : ByteArray) (hi : i < m) (hl : m ≤ 1000000) (r1 : w.cell? ⟨b, i, none⟩ = some (.string x)) (f : ∀ o, w.frozen? ⟨b, o, none⟩ = false) :
    Calls Try.prog 79 #[.slice (some ⟨b, 0, none⟩) m c, .int .i64 (i : Int), .int .i64 (i : Int)] w fun e w' => e = .returned (.tuple #[]) ∧ w' = ((w.setCell ⟨b, i, none⟩ (.string x)).setCell ⟨b, i, none⟩ (.string x)).drew := by
  have i1 : (i : Int) < (m : Int) := by omega
  have f1 := f i
  obtain ⟨v', hv'⟩ := cell?_setCell_some (w := w.drew) (p := ⟨b, i, none⟩) (x := .string x) (q := ⟨b, i, none⟩) (v := .string x) (by go_simp)
  go_enter Try.func79, Try.ntmps79
  go_wp2
  go_region
  all_goals (go_end0; exact ⟨rfl, rfl⟩)

/-- What a call has left of the queue: only its own two blocks have turned, and new ones. -/
structure QuTo (B : Nat) (w : World) (q : Nat) (v : Value) (w' : World) (v' : Value) (ys : List Txt) : Prop where
  qu : Qu B w' q v' ys
  fr : Fr (some q) v.ownBlock w w'
  nb : v'.ownBlock = v.ownBlock ∨ ∀ j, v'.ownBlock = some j → w.heap.size ≤ j

theorem QuTo.refl {B : Nat} {w : World} {q : Nat} {v : Value} {xs : List Txt} (h : Qu B w q v xs) : QuTo B w q v w v xs := ⟨h, Fr.refl _ _ _, .inl rfl⟩

theorem QuTo.trans {B : Nat} {w w1 w2 : World} {q : Nat} {v v1 v2 : Value} {xs ys : List Txt} (h : QuTo B w q v w1 v1 xs) (k : QuTo B w1 q v1 w2 v2 ys) : QuTo B w q v w2 v2 ys :=
  ⟨k.qu, h.fr.trans k.fr h.nb, by
    rcases k.nb with e | e
    · rw [e]; exact h.nb
    · exact .inr fun j hj => Nat.le_trans h.fr.size (e j hj)⟩

theorem Qu.drewN {B : Nat} {w : World} {q : Nat} {v : Value} {xs : List Txt} (h : Qu B w q v xs) (n : Nat) : Qu B (w.drewN n) q v xs := ⟨h.blk, h.row, h.hB⟩
theorem QuTo.drewN {B : Nat} {w w1 : World} {q : Nat} {v v1 : Value} {xs : List Txt} (h : QuTo B w q v w1 v1 xs) (n : Nat) : QuTo B w q v (w1.drewN n) v1 xs := ⟨h.qu.drewN n, h.fr.drewN n, h.nb⟩

theorem map_set (xs : List Txt) (i : Nat) (t : Txt) : (xs.set i t).map encStr = (xs.map encStr).set i (encStr t) := by simp [List.map_set]

theorem sw_map (xs : List Txt) (i j : Nat) : ((xs.map encStr).set i (encStr (g xs j))).set j (encStr (g xs i)) = (sw xs i j).map encStr := by
  simp [sw, List.map_set]

theorem Qu.form {B : Nat} {w : World} {q : Nat} {v : Value} {xs : List Txt} (h : Qu B w q v xs) (hn : 0 < xs.length) : ∃ b c, v = .slice (some ⟨b, 0, none⟩) xs.length c ∧ (∀ k, k < xs.length → w.cell? ⟨b, k, none⟩ = some (.string (str (g xs k)))) ∧ (∀ o, w.frozen? ⟨b, o, none⟩ = false) ∧ b ≠ q ∧ v.ownBlock = some b := by
  obtain ⟨b, c, rfl, _, _⟩ := h.row.form hn
  refine ⟨b, c, rfl, fun k hk => ?_, fun o => h.row.frozenAt o, ?_, rfl⟩
  · rw [h.row.cellAt k (by omega)]
    simp [hk, g, encStr, str]
  · rintro rfl
    rcases h.row.2 with ⟨h', _⟩ | ⟨g', cap', cur, h', _, hg, _⟩
    · simp at h'
    · simp only [Value.slice.injEq, Option.some.injEq, Addr.mk.injEq, and_true, true_and] at h'
      obtain ⟨rfl, rfl⟩ := h'
      rw [h.blk] at hg
      simp at hg

theorem Qu.swapped {B : Nat} {w : World} {q : Nat} {b c : Nat} {xs : List Txt} (h : Qu B w q (.slice (some ⟨b, 0, none⟩) xs.length c) xs) (hq : b ≠ q) (i j : Nat) :
    QuTo B w q (.slice (some ⟨b, 0, none⟩) xs.length c) (((w.setCell ⟨b, i, none⟩ (encStr (g xs j))).setCell ⟨b, j, none⟩ (encStr (g xs i))).drew) (.slice (some ⟨b, 0, none⟩) xs.length c) (sw xs i j) := by
  have s1 := h.row.stored i (encStr (g xs j))
  have s2 := s1.1.stored j (encStr (g xs i))
  refine ⟨⟨?_, ?_, h.hB⟩, ?_, .inl rfl⟩
  · show ((w.setCell ⟨b, i, none⟩ (encStr (g xs j))).setCell ⟨b, j, none⟩ (encStr (g xs i))).heap[q]? = _
    rw [s2.2.block q ?_ (by simp; exact fun e => hq e.symm), s1.2.block q ?_ (by simp; exact fun e => hq e.symm)]
    · exact h.blk
    · exact (Array.getElem?_eq_some_iff.1 h.blk).1
    · simpa using (Array.getElem?_eq_some_iff.1 h.blk).1
  · rw [sw_len, ← sw_map]; exact s2.1.drew
  · exact ((Fr.ofGrown s1.2).trans (Fr.ofGrown (x := some q) s2.2) (.inl rfl)).drew

/-- Swap of two places of the queue. -/
theorem swap_qu (B : Nat) (w : World) (q : Nat) (v : Value) (xs : List Txt) (h : Qu B w q v xs) (i j : Nat) (hi : i < xs.length) (hj : j < xs.length) (hl : xs.length ≤ 1000000) :
    Calls Try.prog 79 #[v, .int .i64 (i : Int), .int .i64 (j : Int)] w fun e w' => e = .returned (.tuple #[]) ∧ QuTo B w q v w' v (sw xs i j) := by
  obtain ⟨b, c, rfl, h1, h2, h3, _⟩ := h.form (by omega)
  by_cases e : i = j
  · subst e
    refine (swap_one w b c i xs.length _ hi hl (h1 i hi) h2).mono fun e w' ⟨he, hw⟩ => ⟨he, ?_⟩
    rw [hw]
    exact h.swapped h3 i i
  · refine (swap_two w b c i j xs.length _ _ hi hj hl (h1 i hi) (h1 j hj) h2 e).mono fun e w' ⟨he, hw⟩ => ⟨he, ?_⟩
    rw [hw]
    exact h.swapped h3 i j
end Go.Proofs.Ytcogeebfldlpoaa
