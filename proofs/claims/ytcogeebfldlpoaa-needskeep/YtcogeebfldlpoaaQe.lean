/-
  The queue's own Push and Pop walked.
-/
import Derived.Test.YtcogeebfldlpoaaQd
set_option linter.unusedSimpArgs false
set_option linter.unusedVariables false
namespace Go.Proofs.Ytcogeebfldlpoaa
open Go.RowKit Go.Proofs.NeedsHeap

theorem Qu.ne {B : Nat} {w : World} {q : Nat} {v : Value} {xs : List Txt} (h : Qu B w q v xs) : some q ≠ v.ownBlock := by
  intro e
  rcases h.row.2 with ⟨rfl, _⟩ | ⟨g', cap', cur, rfl, _, hg, _⟩
  · cases e
  · simp only [Value.ownBlock, Option.some.injEq] at e
    subst e
    rw [h.blk] at hg
    simp at hg

theorem Qu.lt {B : Nat} {w : World} {q : Nat} {v : Value} {xs : List Txt} (h : Qu B w q v xs) : q < w.heap.size := (Array.getElem?_eq_some_iff.1 h.blk).1

/-- A queue at a world in which its two blocks stand. -/
theorem Qu.fr {B : Nat} {w w' : World} {q : Nat} {v : Value} {xs : List Txt} (h : Qu B w q v xs) (hk : ∀ k c t, w.heap[k]? = some (.cells c t (0, 0)) → (k = q ∨ v.ownBlock = some k) → w'.heap[k]? = some (.cells c t (0, 0))) : Qu B w' q v xs := by
  refine ⟨hk q _ _ h.blk (.inl rfl), ?_, h.hB⟩
  refine ⟨h.row.1, ?_⟩
  rcases h.row.2 with h0 | ⟨g, cap, cur, rfl, hb, hg, rest⟩
  · exact .inl h0
  · exact .inr ⟨g, cap, cur, rfl, hb, hk g _ _ hg (.inr rfl), rest⟩

theorem Qu.old {B : Nat} {w w' : World} {q : Nat} {v : Value} {xs : List Txt} (h : Qu B w q v xs) (hb : Old w w') : Qu B w' q v xs := h.fr fun k c t hk _ => block_old hb hk

/-- Push, in plain worlds: the row laid, the text appended, the field stored. -/
theorem push_world (B : Nat) (w : World) (q : Nat) (v : Value) (xs : List Txt) (h : Qu B w q v xs) (hB : B ≤ w.heap.size) (hl : xs.length ≤ 1000000) (x : ByteArray) :
    ∃ v' V2, (Builtin.append_ #[49, 49] 49 #[v, .slice (some ⟨w.heap.size, 0, none⟩) 1 1]).run Try.prog (w.alloc (.cells #[.string x] 9)) = .ok v' V2 ∧ V2.cell? ⟨q, 0, none⟩ = some v ∧ V2.frozen? ⟨q, 0, none⟩ = false ∧
      (∃ b c, v' = .slice (some ⟨b, 0, none⟩) (xs.length + 1) c) ∧ QuTo B w q v (V2.setCell ⟨q, 0, none⟩ v') v' (xs ++ [x.data.toList]) := by
  obtain ⟨i, hi, hz0, hz1, hz2⟩ := info_parts Try.inf9
  have hu : Try.prog.underlying 49 = some (.slice 9) := by kernel_rfl
  have hlast : w.heap.size < (w.alloc (.cells #[.string x] 9)).heap.size := by simp
  obtain ⟨g, cap, V2, h1, h2, h3, h4, h5⟩ := run_append_lies (P := Try.prog) (w.alloc (.cells #[.string x] 9)) 49 49 B 9 i (.string ⟨#[]⟩) 1 16 hu hi hz0 hz1 hz2 rfl (by decide) v xs.length (xs.map encStr) (h.row.alloc _) ⟨w.heap.size, 0, none⟩ 1 1 [.string x] rfl (fun j u hj => by
    have : j = 0 := by
      rcases j with _ | j
      · rfl
      · simp at hj
    subst this
    simp at hj
    subst hj
    rw [add_none]
    rw [cell_of_row _ _ (0 + 0) _ 9 (0, 0) (heap_alloc_new w _)]
    rfl) (by simp [Value.oneCell']) (by decide) (by unfold maxLen; omega) (by omega) (by simp; omega) (w.heap.size + 1) (by simp)
  have hq1 : V2.heap[q]? = some (.cells #[v] 51 (0, 0)) := by
    rw [h3.block q (by have := h.lt; simp; omega) h.ne]
    exact block_old (old1 w _) h.blk
  have hrow : V2.ownsRow B 9 1 (.slice (some ⟨g, 0, none⟩) (xs.length + 1) cap) (xs.length + 1) ((xs ++ [x.data.toList]).map encStr) := by
    have e : (xs ++ [x.data.toList]).map encStr = xs.map encStr ++ [.string x] := by rw [List.map_append]; simp [encStr]
    rw [e]; exact h2
  have hgq : some g ≠ some q := by
    intro e
    simp only [Option.some.injEq] at e
    subst e
    rcases h2.2 with ⟨h', _⟩ | ⟨g', cap', cur, h', _, hg, _⟩
    · simp at h'
    · simp only [Value.slice.injEq, Option.some.injEq, Addr.mk.injEq, and_true, true_and] at h'
      obtain ⟨rfl, rfl⟩ := h'
      rw [hq1] at hg
      simp at hg
  refine ⟨_, V2, h1, by simp [World.cell?, hq1], by simp [World.frozen?, hq1], ⟨_, _, rfl⟩, ⟨?_, ?_, h.hB⟩, ?_, ?_⟩
  · exact row_setCell hq1 0 _
  · rw [List.length_append, List.length_singleton]
    exact ownsRow_setCell_other hrow (by simpa [Value.ownBlock] using hgq) _
  · refine Fr.setCell ?_ q 0 _ (.inl rfl)
    exact (Fr.ofBelow (old1 w _)).trans (Fr.ofGrown (x := some q) h3) (.inl rfl)
  · rcases h4 with e | e
    · exact .inl (by rw [e]; rfl)
    · refine .inr fun j hj => ?_
      simp only [Value.ownBlock, Option.some.injEq] at hj
      omega

def PhQ (a b c d : World) (k : Nat) (w : World) : Prop := w = match k with
  | 0 => a
  | 1 => b
  | 2 => c
  | _ => d

set_option maxRecDepth 20000 in
set_option maxHeartbeats 4000000 in
theorem qpush_walk (B : Nat) (w : World) (q : Nat) (v : Value) (xs : List Txt) (h : Qu B w q v xs) (hB : B ≤ w.heap.size) (hl : xs.length ≤ 1000000) (x : ByteArray) :
    Calls Try.prog 77 #[.pointer (some ⟨q, 0, none⟩), .iface 9 (.string x)] w fun e w' => e = .returned (.tuple #[]) ∧ ∃ v', QuTo B w q v w' v' (xs ++ [x.data.toList]) := by
  obtain ⟨V, hV⟩ : ∃ V, V = w.drew := ⟨_, rfl⟩
  have hQV : Qu B V q v xs := by rw [hV]; exact h.drewN 1
  have hBV : B ≤ V.heap.size := by rw [hV]; exact hB
  obtain ⟨v', V2, p1, p2, p3, ⟨vb, vc, rfl⟩, p4⟩ := push_world B V q v xs hQV hBV hl x
  have hc0 : V.cell? ⟨q, 0, none⟩ = some v := hQV.cell
  have hc1 : (V.alloc (.cells #[.string x] 9)).cell? ⟨q, 0, none⟩ = some v := cell_old (old1 _ _) hc0
  obtain ⟨n1, hn1⟩ : ∃ n1, n1 = xs.length + 1 := ⟨_, rfl⟩
  rw [← hn1] at p1 p4
  have P1 := mkHid p1
  have P4 := mkHid p4
  have HV := mkHid hV
  have C0 := mkHid hc0
  have C1 := mkHid hc1
  have C2 := mkHid p2
  have C3 := mkHid p3
  have H := mkHid h
  clear p1 p4 hQV hBV hV hc0 hc1 h p2 p3 hn1
  go_enter Try.func77, Try.ntmps77
  go_wp2
  refine Rt.wp_region_phases (by kernel_rfl) (by kernel_rfl) [7, 8, 11] (by decide) (by decide) (PhQ V (V.alloc (.cells #[.string x] 9)) V2 (V2.setCell ⟨q, 0, none⟩ (.slice (some ⟨vb, 0, none⟩) n1 vc))) (fun _ _ => False) HV.out.symm (fun _ _ _ _ h => h.elim) ?_
  iterate 4
    (refine Rt.wpP_pure (by rfl) (by rfl) ?_ (fun w9 => ?_) (fun K hK => ?_)
     rotate_left 1
     · go_simp
       refine Rt.upT_value ?_; rfl
     go_simp
     refine hK _ _ ?_
     clear hK K)
  refine Rt.wpP_read (by rfl) 0 1 (by kernel_rfl) (by kernel_rfl) (by rfl) v (fun k hk1 hk2 w9 hk => ?_) (fun K hK => ?_)
  · have p5 : w9.cell? ⟨q, 0, none⟩ = some v := by
      rcases (show k = 0 ∨ k = 1 by omega) with rfl | rfl
      · obtain rfl : w9 = V := hk
        exact C0.out
      · obtain rfl : w9 = V.alloc (.cells #[.string x] 9) := hk
        exact C1.out
    go_simp
    refine Rt.upT_value ?_; rfl
  go_simp
  refine hK _ _ ?_
  clear hK K
  iterate 2
    (refine Rt.wpP_pure (by rfl) (by rfl) ?_ (fun w9 => ?_) (fun K hK => ?_)
     rotate_left 1
     · go_simp
       refine Rt.upT_value ?_; rfl
     go_simp
     refine hK _ _ ?_
     clear hK K)
  refine Rt.wpP_one (by rfl) 0 (by kernel_rfl) (by kernel_rfl) (by rfl) (.slice (some ⟨V.heap.size, 0, none⟩) 1 1) (fun w9 hk => ?_) (fun K hK => ?_)
  · obtain rfl : w9 = V := hk
    go_simp
    refine Rt.upT_value ?_; rfl
  go_simp
  refine hK _ _ ?_
  clear hK K
  refine Rt.wpP_one (by rfl) 1 (by kernel_rfl) (by kernel_rfl) (by rfl) (.slice (some ⟨vb, 0, none⟩) n1 vc) (fun w9 hk => ?_) (fun K hK => ?_)
  · obtain rfl : w9 = V.alloc (.cells #[.string x] 9) := hk
    refine upT_append2 (t := 49) (.tmp 8) (.tmp 11) ?_ _ _ rfl rfl (w' := V2) P1.out ?_
    · rfl
    · rfl
  go_simp
  refine hK _ _ ?_
  clear hK K
  iterate 2
    (refine Rt.wpP_pure (by rfl) (by rfl) ?_ (fun w9 => ?_) (fun K hK => ?_)
     rotate_left 1
     · go_simp
       refine Rt.upT_value ?_; rfl
     go_simp
     refine hK _ _ ?_
     clear hK K)
  refine Rt.wpP_one (by rfl) 2 (by kernel_rfl) (by kernel_rfl) (by rfl) undef (fun w9 hk => ?_) (fun K hK => ?_)
  · obtain rfl : w9 = V2 := hk
    have p6 := C2.out
    have p7 := C3.out
    go_simp
    refine Rt.upT_skip ?_; rfl
  go_simp
  refine hK _ _ ?_
  clear hK K
  refine Rt.wpP_end fun _ w9 hk => ?_
  obtain rfl : w9 = V2.setCell ⟨q, 0, none⟩ (.slice (some ⟨vb, 0, none⟩) n1 vc) := hk
  go_end0
  have h0 : QuTo B w q v V v xs := by
    rw [HV.out]; exact (QuTo.refl H.out).drewN 1
  exact ⟨rfl, _, h0.trans P4.out⟩

theorem pop_lists {xs : List Txt} {n : Nat} (h : xs.length = n + 1) : xs = xs.take n ++ [g xs n] := by
  have e : g xs n = xs[n]'(by omega) := by simp [g, h]
  rw [e, ← List.take_succ_eq_append_getElem, ← h, List.take_length]

set_option maxHeartbeats 2000000 in
theorem qpop_walk (B : Nat) (w : World) (q : Nat) (v : Value) (xs : List Txt) (h : Qu B w q v xs) (n : Nat) (hn : xs.length = n + 1) (hl : xs.length ≤ 1000000) :
    Calls Try.prog 76 #[.pointer (some ⟨q, 0, none⟩)] w fun e w' => e = .returned (.iface 9 (encStr (g xs n))) ∧ ∃ v', QuTo B w q v w' v' (xs.take n) := by
  obtain ⟨b, c, rfl, h1, h2, h3, _⟩ := h.form (by omega)
  have hrow := h.row
  rw [hn] at hrow ⊢
  have hc0 := h.cell
  rw [hn] at hc0
  have hf0 := free_at h.blk 0
  have hr1 : w.cell? ⟨b, n, none⟩ = some (.string (str (g xs n))) := h1 n (by omega)
  obtain ⟨s, hs⟩ : ∃ s, s = str (g xs n) := ⟨_, rfl⟩
  have he : encStr (g xs n) = .string s := by rw [hs]; rfl
  rw [he]
  rw [← hs] at hr1
  have hnI : (n : Int) ≤ 1000000 := by omega
  have hcap : n + 1 ≤ c := by
    rcases hrow.2 with ⟨h', _⟩ | ⟨g', cap', cur, h', _, hg, hle, _⟩
    · simp at h'
    · simp only [Value.slice.injEq, Option.some.injEq, Addr.mk.injEq, and_true, true_and] at h'
      obtain ⟨_, rfl⟩ := h'
      exact hle
  have hwn : wrap64 (((n + 1 : Nat) : Int) - 1) = (n : Int) := by unfold wrap64; omega
  have hres : QuTo B w q (.slice (some ⟨b, 0, none⟩) (n + 1) c) (w.setCell ⟨q, 0, none⟩ (.slice (some ⟨b, 0, none⟩) n c)) (.slice (some ⟨b, 0, none⟩) n c) (xs.take n) := by
    have hx : xs.map encStr = (xs.take n).map encStr ++ [encStr (g xs n)] := by
      conv => lhs; rw [pop_lists hn]
      simp
    rw [hx] at hrow
    have hp := ownsRow_pop (n := n) (size := 1) (by simp; omega) hrow
    have hlen : (xs.take n).length = n := by simp; omega
    refine ⟨⟨row_setCell h.blk 0 _, ?_, h.hB⟩, Fr.setCell (Fr.refl _ _ _) q 0 _ (.inl rfl), .inl rfl⟩
    rw [hlen]
    exact ownsRow_setCell_other hp (by simp [Value.ownBlock, h3]) _
  have HR := mkHid hres
  clear hs he hres hrow h h1 h2 h3 hn hl
  go_enter Try.func76, Try.ntmps76
  go_wp2
  go_ret
  exact ⟨rfl, _, HR.out⟩
end Go.Proofs.Ytcogeebfldlpoaa
