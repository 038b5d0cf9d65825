/-
  Closed, Apart, wakes walked.
-/
import Derived.Test.YtcogeebfldlpoaaTa
set_option linter.unusedSimpArgs false
set_option linter.unusedVariables false
namespace Go.Proofs.Ytcogeebfldlpoaa
open Go.RowKit
open Go.Proofs.NeedsPlain (Hd names IsAll isTop nmAt ndAt ordM)

set_option maxHeartbeats 2000000 in
theorem closed_walk (w : World) (v : Value) (hs : List Hd) (hv : LiesH w v hs) (hm : SmallH hs) : Calls Try.prog 12 #[v] w fun e w' => e = .returned (.bool (ordM hs).isSome) ∧ Old w w' := by
  have CO := mkHid (order_walk w v hs hv hm)
  obtain ⟨ao, cap, rfl, -⟩ := hv
  obtain ⟨d, hd⟩ : ∃ d, d = (ordM hs).isSome := ⟨_, rfl⟩
  rw [← hd]
  have HD := mkHid hd
  clear hm hd
  go_enter Try.func12, Try.ntmps12
  go_wp2_with (go_at_call 10; (with_reducible refine CO.out.mono ?_); rintro e w1 ⟨(⟨v1, o, h1, rfl, h2⟩ | ⟨h1, rfl⟩), h3⟩ <;> (have H1 := mkHid h1; have H3 := mkHid h3; clear h1 h3))
  all_goals (go_ret; exact ⟨ret_bool (by rw [HD.out, H1.out]; rfl), H3.out⟩)

/-- Two heads, neither of which needs the other. -/
def ApartP (hs : List Hd) (a b : Txt) : Prop := a ∈ names hs ∧ b ∈ names hs ∧ a ≠ b ∧ ¬ NeedsPlain.Reach hs a b ∧ ¬ NeedsPlain.Reach hs b a

def ApartR (w : World) (hs : List Hd) (a b : Txt) (e : Ending) (w' : World) : Prop := ∃ d : Bool, e = .returned (.bool d) ∧ (d = true ↔ ApartP hs a b) ∧ Old w w'

theorem txt_ne {p q : ByteArray} : (p.toList == q.toList) = decide (p.data.toList = q.data.toList) := by
  rw [ByteArray.toList_eq, ByteArray.toList_eq]; exact txt_beq _ _

set_option maxRecDepth 20000 in
set_option maxHeartbeats 8000000 in
theorem apart_walk (w : World) (v : Value) (hs : List Hd) (hv : LiesH w v hs) (hm : SmallH hs) (hd : (names hs).Nodup) (a b : ByteArray) (ha : a.size ≤ maxLen) (hb : b.size ≤ maxLen) : Calls Try.prog 15 #[v, .string a, .string b] w (ApartR w hs a.data.toList b.data.toList) := by
  have CP := mkHid (places_walk w v hs hv hm)
  have CA : Hid (∀ w', Old w w' → Calls Try.prog 14 #[v, .string a] w' (AllP w' hs a.data.toList)) := fun w' h => all_walk w' v hs (hv.old h) hm hd a ha
  have CB : Hid (∀ w', Old w w' → Calls Try.prog 14 #[v, .string b] w' (AllP w' hs b.data.toList)) := fun w' h => all_walk w' v hs (hv.old h) hm hd b hb
  obtain ⟨ao, cap, rfl, -⟩ := hv
  have HL : Hid (hs.length ≤ 1000) := hm.len
  obtain ⟨n, hn⟩ : ∃ n, n = hs.length := ⟨_, rfl⟩
  rw [← hn] at CP CA CB ⊢
  clear hm hn
  go_enter Try.func15, Try.ntmps15
  go_upto_region 2 with (go_at_call 25; (with_reducible refine CP.out.mono ?_); rintro e w1 ⟨M, N, ks, rfl, m1, m2, m3, m4⟩)
  have hla := m1.run_look_ok a ha
  have hlb := m1.run_look_ok b hb
  obtain ⟨qa, hqa⟩ : ∃ q, q = decide (a.data.toList ∈ ks) := ⟨_, rfl⟩
  obtain ⟨qb, hqb⟩ : ∃ q, q = decide (b.data.toList ∈ ks) := ⟨_, rfl⟩
  rw [← hqa] at hla
  rw [← hqb] at hlb
  obtain ⟨ia, hia⟩ : ∃ i, i = atK ks (fun x => ((names hs).idxOf x : Int)) a.data.toList := ⟨_, rfl⟩
  obtain ⟨ib, hib⟩ : ∃ i, i = atK ks (fun x => ((names hs).idxOf x : Int)) b.data.toList := ⟨_, rfl⟩
  rw [← hia] at hla
  rw [← hib] at hlb
  obtain ⟨qe, hqe⟩ : ∃ q, q = decide (a.data.toList = b.data.toList) := ⟨_, rfl⟩
  have heq : (a.toList == b.toList) = qe := by rw [txt_ne, hqe]
  have HQA : Hid (qa = true ↔ a.data.toList ∈ names hs) := by show _ ↔ _; rw [hqa, decide_eq_true_eq, m2]
  have HQB : Hid (qb = true ↔ b.data.toList ∈ names hs) := by show _ ↔ _; rw [hqb, decide_eq_true_eq, m2]
  have HQE : Hid (qe = true ↔ a.data.toList = b.data.toList) := by show _ ↔ _; rw [hqe, decide_eq_true_eq]
  have M3 := mkHid m3
  clear m1 m2 m3 m4 hqa hqb hia hib hqe CP
  cases qa
  · go_wp2
    go_ret
    exact ⟨false, rfl, ⟨fun h => by (cases h), fun h => absurd (HQA.out.2 h.1) (by decide)⟩, M3.out⟩
  · cases qb
    · go_wp2
      go_ret
      exact ⟨false, rfl, ⟨fun h => by (cases h), fun h => absurd (HQB.out.2 h.2.1) (by decide)⟩, M3.out⟩
    · cases qe
      · go_wp2_with (first
          | (go_at_call 14; (with_reducible refine (CA.out w1 M3.out).mono ?_); rintro e w2 ⟨v2, o2, rfl, k1, k2, k3⟩
             have K2 := mkHid k2
             have O2 := mkHid (M3.out.trans (k3.mono M3.out.size))
             have C31 := mkHid (idin_walk w2 v2 o2 b k1 (Nat.le_trans k2.len (Nat.le_trans HL.out (by decide))))
             obtain ⟨d1, hd1⟩ : ∃ d, d = decide (b.data.toList ∈ o2) := ⟨_, rfl⟩
             rw [← hd1] at C31
             have HD1 := mkHid hd1
             clear k1 k2 k3 hd1)
          | (go_at_call 31; (with_reducible refine C31.out.mono ?_); rintro e w3 ⟨rfl, rfl⟩)
          | (go_at_call 14; (with_reducible refine (CB.out _ O2.out).mono ?_); rintro e w4 ⟨v4, o4, rfl, k1, k2, k3⟩
             have K4 := mkHid k2
             have O4 := mkHid (O2.out.trans (k3.mono O2.out.size))
             have C32 := mkHid (idin_walk w4 v4 o4 a k1 (Nat.le_trans k2.len (Nat.le_trans HL.out (by decide))))
             obtain ⟨d2, hd2⟩ : ∃ d, d = decide (a.data.toList ∈ o4) := ⟨_, rfl⟩
             rw [← hd2] at C32
             have HD2 := mkHid hd2
             clear k1 k2 k3 hd2)
          | (go_at_call 31; (with_reducible refine C32.out.mono ?_); rintro e w5 ⟨rfl, rfl⟩))
        · have hd1 : d1 = true := by assumption
          go_ret
          refine ⟨false, rfl, ⟨fun h => by (cases h), fun h => absurd ?_ h.2.2.2.1⟩, O2.out⟩
          have := HD1.out
          rw [hd1] at this
          exact ((K2.out.2 _).1 (by simpa using this.symm)).1
        · have hd1 : ¬ d1 = true := by assumption
          go_ret
          refine ⟨!d2, rfl, ?_, O4.out⟩
          have h1 : b.data.toList ∉ o2 := by
            have := HD1.out
            rw [Bool.not_eq_true] at hd1
            rw [hd1] at this
            simpa using this.symm
          have hne : a.data.toList ≠ b.data.toList := fun h => absurd (HQE.out.2 h) (by decide)
          constructor
          · intro h
            have h2 : a.data.toList ∉ o4 := by
              have := HD2.out
              cases d2
              · simpa using this.symm
              · cases h
            exact ⟨HQA.out.1 (by trivial), HQB.out.1 (by trivial), hne, fun h => h1 ((K2.out.2 _).2 ⟨h, Ne.symm hne⟩), fun h => h2 ((K4.out.2 _).2 ⟨h, hne⟩)⟩
          · intro h
            cases d2
            · rfl
            · exfalso
              have := HD2.out
              exact h.2.2.2.2 ((K4.out.2 _).1 (by simpa using this.symm)).1
      · go_wp2
        go_ret
        exact ⟨false, rfl, ⟨fun h => by (cases h), fun h => absurd (HQE.out.1 (by trivial)) h.2.2.1⟩, M3.out⟩

theorem liesH_of {w : World} {g cap : Nat} {cs : Array Value} {fr : Nat × Nat} {hs : List Hd} (hg : w.heap[g]? = some (.cells cs 24 fr)) (hl : hs.length ≤ cap)
    (h : ∀ k, k < hs.length → ∃ tg nv, cs[k * 3]? = some (.string (str (hs.getD k hd0).1)) ∧ cs[k * 3 + 1]? = some (.bool tg) ∧ cs[k * 3 + 2]? = some nv ∧ LiesS w nv (hs.getD k hd0).2) : LiesH w (.slice (some ⟨g, 0, none⟩) hs.length cap) hs := by
  refine ⟨_, cap, rfl, hl, fun h => (by cases h), fun a ha => ?_⟩
  cases ha
  refine ⟨rfl, fun k hk => ?_⟩
  obtain ⟨tg, nv, h1, h2, h3, h4⟩ := h k hk
  refine ⟨tg, nv, fun j u hu => ?_, h4⟩
  show w.cell? ⟨g, 0 + k * 3 + j, none⟩ = some u
  rw [Nat.zero_add, cell_of_row _ _ _ _ 24 fr hg]
  rcases j with _ | _ | _ | j
  · simp at hu; subst hu; exact h1
  · simp at hu; subst hu; exact h2
  · simp at hu; subst hu; exact h3
  · simp at hu

theorem lies_nil (w : World) : LiesS w (.slice none 0 0) [] := ⟨none, 0, rfl, by simp, fun _ => rfl, fun a h => by cases h⟩
theorem liesH_nil (w : World) : LiesH w (.slice none 0 0) [] := ⟨none, 0, rfl, by simp, fun _ => rfl, fun a h => by cases h⟩

/-- A row of texts that was written out. -/
theorem lies_row {w : World} {g cap : Nat} {cs : Array Value} {t : TypeId} {fr : Nat × Nat} {ss : List Txt} (hg : w.heap[g]? = some (.cells cs t fr)) (hl : ss.length ≤ cap) (h : ∀ (j : Nat) (u : Value), (ss.map encStr)[j]? = some u → cs[j]? = some u) : LiesS w (.slice (some ⟨g, 0, none⟩) ss.length cap) ss := by
  refine ⟨_, cap, rfl, hl, fun h => (by cases h), fun a ha j u hu => ?_⟩
  cases ha
  rw [add_none, Nat.zero_add, cell_of_row _ _ _ _ t fr hg]
  exact h j u hu

theorem smallH_nil : SmallH [] := ⟨by decide, by simp, by simp, by simp⟩

def wkH : List Hd := [([97], [[98]]), ([98], [])]
theorem wkH_small : SmallH wkH := ⟨by decide, by decide, by decide, by decide⟩
theorem wkH_ord : ordM wkH = some [[98], [97]] := by rfl

abbrev wkW (w1 : World) : World := (w1.alloc (.cells #[.string ⟨#[98]⟩] 9)).alloc (.cells #[.string ⟨#[97]⟩, .bool false, .slice (some ⟨w1.heap.size, 0, none⟩) 1 1, .string ⟨#[98]⟩, .bool false, .slice none 0 0] 24)

theorem lies_single (w : World) (g : Nat) (x : ByteArray) (h : w.heap[g]? = some (.cells #[.string x] 9 (0, 0))) : LiesS w (.slice (some ⟨g, 0, none⟩) 1 1) [x.data.toList] :=
  lies_row (ss := [x.data.toList]) (cap := 1) h (Nat.le_refl 1) (fun j u hu => by
    rcases j with _ | j
    · simp [encStr] at hu; subst hu; rfl
    · simp at hu)

theorem wk_lies (w1 : World) : LiesH (wkW w1) (.slice (some ⟨w1.heap.size + 1, 0, none⟩) 2 2) wkH := by
  refine liesH_of (hs := wkH) (cap := 2) (h21 w1 _ _) (by decide) fun k hk => ?_
  have hk2 : k < 2 := hk
  rcases (show k = 0 ∨ k = 1 by omega) with rfl | rfl
  · exact ⟨false, _, rfl, rfl, rfl, lies_single _ _ _ (h20 w1 _ _)⟩
  · exact ⟨false, _, rfl, rfl, rfl, lies_nil _⟩

set_option maxHeartbeats 4000000 in
theorem wakes_walk (w : World) : Calls Try.prog 16 #[] w fun e w' => e = .returned (.bool true) ∧ Old w w' := by
  have C1 := mkHid (order_walk w _ [] (liesH_nil w) smallH_nil)
  have C2 : Hid (∀ w1 : World, Calls Try.prog 10 #[.slice (some ⟨w1.heap.size + 1, 0, none⟩) 2 2] (wkW w1) (OrderP (wkW w1) wkH)) := fun w1 => order_walk _ _ wkH (wk_lies w1) wkH_small
  go_enter Try.func16, Try.ntmps16
  go_wp2_with (first
    | (go_at_call 10; (with_reducible refine C1.out.mono ?_); rintro e w1 ⟨(⟨v1, o, h1, rfl, h2⟩ | ⟨h1, rfl⟩), h3⟩
       rotate_left
       · exact absurd h1 (by decide)
       obtain rfl : [] = o := Option.some.inj ((show some [] = ordM [] from rfl).trans h1)
       obtain ⟨ao1, c1, rfl, _⟩ := h2
       have H3 := mkHid h3
       clear h1 h3)
    | (go_at_call 10; (with_reducible refine (C2.out _).mono ?_); rintro e w2 ⟨(⟨v2, o2, h1, rfl, h2⟩ | ⟨h1, rfl⟩), h3⟩
       rotate_left
       · exact absurd h1 (by decide)
       obtain rfl : [[98], [97]] = o2 := Option.some.inj (wkH_ord.symm.trans h1)
       have C3 : Hid (Calls Try.prog 11 #[v2, .slice (some ⟨w2.heap.size, 0, none⟩) 2 2] (w2.alloc (.cells #[.string ⟨#[98]⟩, .string ⟨#[97]⟩] 9)) fun e w' => e = .returned (.bool true) ∧ ∃ n, w' = (w2.alloc (.cells #[.string ⟨#[98]⟩, .string ⟨#[97]⟩] 9)).drewN n) :=
         eqK_walk (w2.alloc (.cells #[.string ⟨#[98]⟩, .string ⟨#[97]⟩] 9)) v2 (.slice (some ⟨w2.heap.size, 0, none⟩) 2 2) [[98], [97]] [[98], [97]] (h2.old (old1 _ _)) (lies_row (ss := [[98], [97]]) (cap := 2) (h10 _ _) (Nat.le_refl 2) (fun j u hu => by
           rcases j with _ | _ | j
           · simp [encStr] at hu; subst hu; rfl
           · simp [encStr] at hu; subst hu; rfl
           · simp at hu)) (by decide) (by decide)
       have H23 := mkHid h3
       clear h1 h2 h3)
    | (go_at_call 11; (with_reducible refine C3.out.mono ?_); rintro e w4 ⟨rfl, n, rfl⟩))
  go_ret
  have hA : Old w1 w2 := (old2 _ _ _).trans (H23.out.mono (old2 w1 _ _).size)
  have hB : Old w w2 := H3.out.trans (hA.mono H3.out.size)
  have hC : Old w (w2.alloc (.cells #[.string ⟨#[98]⟩, .string ⟨#[97]⟩] 9)) := hB.trans ((old1 w2 _).mono hB.size)
  exact ⟨rfl, hC.trans ⟨rfl, rfl, rfl, Nat.le_refl _, fun _ _ => rfl⟩⟩
end Go.Proofs.Ytcogeebfldlpoaa
