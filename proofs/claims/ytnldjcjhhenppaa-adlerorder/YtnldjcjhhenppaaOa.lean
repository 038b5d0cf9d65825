/-
  AdlerOrder: two bytes changed for each other; the law's walk.
-/
import Derived.Test.YtnldjcjhhenppaaFb
import Derived.Deep.RegionHeld3
set_option linter.unusedSimpArgs false
set_option linter.unusedVariables false
namespace Go.Proofs.Ytnldjcjhhenppaa
open Go.RowKit

theorem fold_from (l : List Nat) (A C D : Nat) (hC : C < 65521) (hD : D < 65521) :
    (l.foldl stp (A, C)).1 = (l.foldl stp (A, D)).1 ∧ ((l.foldl stp (A, C)).2 = (l.foldl stp (A, D)).2 ↔ C = D) := by
  induction l generalizing A C D with
  | nil => simp
  | cons x l ih =>
    simp only [List.foldl_cons, stp]
    have := ih ((A + x) % 65521) ((C + (A + x) % 65521) % 65521) ((D + (A + x) % 65521) % 65521) (Nat.mod_lt _ (by decide)) (Nat.mod_lt _ (by decide))
    refine ⟨this.1, this.2.trans ?_⟩
    generalize (A + x) % 65521 = a
    omega

theorem two_steps (A C x y : Nat) (hx : x < 256) (hy : y < 256) :
    (stp (stp (A, C) x) y).1 = (stp (stp (A, C) y) x).1 ∧ ((stp (stp (A, C) x) y).2 = (stp (stp (A, C) y) x).2 ↔ x = y) := by
  simp only [stp]
  constructor
  · omega
  · omega

theorem swap_sum (l1 l2 : List Nat) (x y : Nat) (hx : x < 256) (hy : y < 256) :
    (adl (l1 ++ x :: y :: l2)).1 = (adl (l1 ++ y :: x :: l2)).1 ∧ ((adl (l1 ++ x :: y :: l2)).2 = (adl (l1 ++ y :: x :: l2)).2 ↔ x = y) := by
  simp only [adl, List.foldl_append, List.foldl_cons]
  obtain ⟨A, C⟩ := l1.foldl stp (1, 0)
  have h := two_steps A C x y hx hy
  have h1 := stp_lt (stp (A, C) x) y
  have h2 := stp_lt (stp (A, C) y) x
  generalize stp (stp (A, C) x) y = p at *
  generalize stp (stp (A, C) y) x = q at *
  obtain ⟨a, c⟩ := p
  obtain ⟨a', c'⟩ := q
  have e : a = a' := h.1
  subst e
  have h3 := fold_from l2 a c c' h1.2 h2.2
  exact ⟨h3.1, h3.2.trans h.2⟩

theorem list_two (l : List Nat) (k : Nat) (h : k + 1 < l.length) : l = l.take k ++ l.getD k 0 :: l.getD (k + 1) 0 :: l.drop (k + 2) := by
  have h1 : k < l.length := by omega
  have e1 : l.getD k 0 = l[k] := by rw [List.getD_eq_getElem?_getD, List.getElem?_eq_getElem h1]; rfl
  have e2 : l.getD (k + 1) 0 = l[k + 1] := by rw [List.getD_eq_getElem?_getD, List.getElem?_eq_getElem h]; rfl
  rw [e1, e2, List.getElem_cons_drop, List.getElem_cons_drop, List.take_append_drop]

theorem set_two (l1 l2 : List Nat) (x y a b k : Nat) (h : l1.length = k) : ((l1 ++ x :: y :: l2).set k a).set (k + 1) b = l1 ++ a :: b :: l2 := by
  subst h
  rw [List.set_append_right _ _ (Nat.le_refl _), Nat.sub_self, List.set_cons_zero, List.set_append_right _ _ (by omega), show l1.length + 1 - l1.length = 1 by omega, List.set_cons_succ, List.set_cons_zero]

def swp (l : List Nat) (k : Nat) : List Nat := (l.set k (l.getD (k + 1) 0)).set (k + 1) (l.getD k 0)

theorem swp_sum (l : List Nat) (k : Nat) (h : k + 1 < l.length) (hs : Small l) :
    (adl l).1 = (adl (swp l k)).1 ∧ ((adl l).2 = (adl (swp l k)).2 ↔ l.getD k 0 = l.getD (k + 1) 0) := by
  have hx := small_at hs k
  have hy := small_at hs (k + 1)
  have e := list_two l k h
  unfold swp
  generalize l.getD k 0 = x at *
  generalize l.getD (k + 1) 0 = y at *
  have e2 : (l.set k y).set (k + 1) x = l.take k ++ y :: x :: l.drop (k + 2) := by
    conv => lhs; rw [e]
    exact set_two _ _ x y y x k (by rw [List.length_take]; omega)
  rw [e2]
  have h2 := swap_sum (l.take k) (l.drop (k + 2)) x y hx hy
  rw [← e] at h2
  exact h2

theorem swp_facts (l : List Nat) (k S T : Nat) (h : k + 1 < l.length) (hs : Small l) (hS : S = sumOf l) (hT : T = sumOf (swp l k)) :
    (S = T ↔ l.getD k 0 = l.getD (k + 1) 0) ∧ S % 65536 = T % 65536 := by
  have h1 := swp_sum l k h hs
  have a := adl_lt l
  have b := adl_lt (swp l k)
  subst hS hT
  rw [sum_low, sum_low]
  refine ⟨?_, h1.1⟩
  rw [← h1.2]
  unfold sumOf
  omega

theorem small_swp {l : List Nat} (h : Small l) (k : Nat) : Small (swp l k) := small_set (small_set h _ _ (small_at h _)) _ _ (small_at h _)

theorem swp_len (l : List Nat) (k : Nat) : (swp l k).length = l.length := by simp [swp]

/-- Two cells of an owned row, changed for each other. -/
theorem swp_own {w : World} {B g m cap k : Nat} {L : List Nat} (h : w.ownsRow B 5 1 (.slice (some ⟨g, 0, none⟩) m cap) m (L.map byteV)) (hm : m = L.length) (a b : Nat) (ha : a = L.getD k 0) (hb : b = L.getD (k + 1) 0) :
    Lies ((w.setCell ⟨g, k, none⟩ (.int .u8 (b : Int))).setCell ⟨g, k + 1, none⟩ (.int .u8 (a : Int))) (.slice (some ⟨g, 0, none⟩) m cap) (swp L k) := by
  have o := ((h.stored k (.int .u8 (b : Int))).1.stored (k + 1) (.int .u8 (a : Int))).1
  rw [show (Value.int .u8 (b : Int)) = byteV b from rfl, show (Value.int .u8 (a : Int)) = byteV a from rfl, ← List.map_set, ← List.map_set, ha, hb] at o
  rw [ha, hb]
  exact lies_n (by rw [swp_len, hm]) o

theorem take80 (bs : List Nat) (h : Small bs) : Small (bs.take 80 ++ [1, 2]) := by
  intro b hb
  rcases List.mem_append.1 hb with hb | hb
  · exact h b (List.mem_of_mem_take hb)
  · simp at hb; omega

theorem at_own {w : World} {B g m cap k a : Nat} {L : List Nat} (h : w.ownsRow B 5 1 (.slice (some ⟨g, 0, none⟩) m cap) m (L.map byteV)) (hm : m = L.length) (hk : k < m) (ha : a = L.getD k 0) : w.cell? ⟨g, k, none⟩ = some (.int .u8 (a : Int)) := by
  have hk2 : k < L.length := by omega
  rw [h.cellAt k (by omega), List.getElem?_map, List.getElem?_eq_getElem hk2, ha, List.getD_eq_getElem?_getD, List.getElem?_eq_getElem hk2]
  rfl

theorem cut_hid (bs : List Nat) (hl : bs.length ≤ 140737488400000) : Hid (∀ w v, Lies w v bs → Calls Try.prog 20 #[v, .int .i64 80] w fun e w' => ∃ v', e = .returned v' ∧ w'.ownsRow w.heap.size 5 1 v' (bs.take 80).length ((bs.take 80).map byteV) ∧ Below w.heap.size w w') :=
  fun w v hv => cut_walk w v bs 80 (by decide) hv hl

set_option maxRecDepth 100000 in
set_option maxHeartbeats 8000000 in
theorem order_law (w : World) (v : Value) (bs : List Nat) (at_ : Int) (hv : Lies w v bs) (hs : Small bs) (hl : bs.length ≤ 140737488351232) :
    Calls Try.prog 7 #[v, .int .i64 at_] w fun e w' => e = .returned (.bool true) ∧ Below w.heap.size w w' := by
  obtain ⟨L, hL⟩ : ∃ L, L = bs.take 80 ++ [1, 2] := ⟨_, rfl⟩
  have hLs : Small L := by rw [hL]; exact take80 bs hs
  obtain ⟨m, hm⟩ : ∃ m, m = L.length := ⟨_, rfl⟩
  have hml : m = (bs.take 80).length + 2 := by rw [hm, hL, List.length_append]; rfl
  have hm82 : m ≤ 82 := by rw [List.length_take] at hml; omega
  obtain ⟨k, hk, kin0⟩ := within_nat at_ (m - 1) (by omega) (by omega)
  have kin : Hid (∀ w, Calls Try.prog 14 #[.int .i64 at_, .int .i64 ((m : Int) - 1)] w fun e w' => e = .returned (.int .i64 (k : Int)) ∧ w' = w) := by
    have e : ((m - 1 : Nat) : Int) = (m : Int) - 1 := by omega
    rw [e] at kin0
    exact kin0
  obtain ⟨a, ha⟩ : ∃ a, a = L.getD k 0 := ⟨_, rfl⟩
  obtain ⟨b, hb⟩ : ∃ b, b = L.getD (k + 1) 0 := ⟨_, rfl⟩
  obtain ⟨S, hS⟩ : ∃ S, S = sumOf L := ⟨_, rfl⟩
  obtain ⟨T, hT⟩ : ∃ T, T = sumOf (swp L k) := ⟨_, rfl⟩
  have hf := swp_facts L k S T (by omega) hLs hS hT
  rw [← ha, ← hb] at hf
  have kS := of_hid L S hS hLs (by omega)
  have kT := of_hid (swp L k) T hT (small_swp hLs k) (by rw [swp_len]; omega)
  have kc := cut_hid bs (by omega)
  have k9 := copy_hid L m hm (by omega) (by omega)
  have k5 := wakes_hid
  have hSl : S < 4294967296 := by rw [hS]; exact sumOf_lt _
  have hTl : T < 4294967296 := by rw [hT]; exact sumOf_lt _
  have HV := mkHid hv
  have HL := mkHid hL
  have HA := mkHid ha
  have HB := mkHid hb
  have HM := mkHid hm
  have HML := mkHid hml
  have g0 : (((S : Int) == (T : Int)) == ((a : Int) == (b : Int))) = true := by
    by_cases h : a = b
    · have h2 := hf.1.2 h
      simp [h, h2]
    · have h2 : ¬ S = T := fun e => h (hf.1.1 e)
      have e1 : ((S : Int) == (T : Int)) = false := by simp; omega
      have e2 : ((a : Int) == (b : Int)) = false := by simp; omega
      rw [e1, e2]
      rfl
  have g1 : ((S : Int).tmod 65536 == (T : Int).tmod 65536) = true := by
    rw [Int.tmod_eq_emod_of_nonneg (by omega), Int.tmod_eq_emod_of_nonneg (by omega)]
    have := hf.2
    simp
    omega
  have hki : (k : Int) < (m : Int) - 1 := by omega
  have hki2 : (k : Int) + 1 < (m : Int) := by omega
  have hki3 : (k : Int) < (m : Int) := by omega
  have hkm : k + 1 < m := by omega
  have hm1 : 1 < m := by omega
  clear hv hs hL hS hT hf hml ha hb kin0 hm
  go_enter Try.func7, Try.ntmps7
  go_wp2_with (first
    | (go_at_call 20; (with_reducible refine (kc.out _ _ HV.out).mono ?_); rintro e w1 ⟨v1, rfl, o1, b1⟩; have O1 := mkHid o1; have B1 := mkHid b1; have hz1 := b1.size; clear o1 b1)
    | (at_builtin; refine wpList_appL rfl (.tmp 7) (.tmp 8) rfl w.heap.size _ _ _ rfl (O1.out.alloc _) _ [1, 2] rfl (lies_lit w1 [1, 2] _ rfl) (by have := HML.out; have : [1, 2].length = 2 := rfl; omega) (by simp; omega) ?_; intro v2 w2 o2 b2 g2
       have O2 : Hid (w2.ownsRow w.heap.size 5 1 v2 m (L.map byteV)) := by
         rw [HL.out, HML.out, List.map_append]; exact o2
       have B2 := mkHid ((B1.out.alloc hz1 (.cells #[.int .u8 1, .int .u8 2] 5)).trans b2)
       clear o2 b2 g2
       obtain ⟨g3, c3, hv3, F3⟩ : ∃ g3 c3, v2 = .slice (some ⟨g3, 0, none⟩) m c3 ∧ w2.ownsRow w.heap.size 5 1 (.slice (some ⟨g3, 0, none⟩) m c3) m (L.map byteV) := by
         have ho := O2.out
         rcases ho.2 with ⟨_, h⟩ | ⟨g, cap, cur, rfl, _⟩
         · omega
         · exact ⟨g, cap, rfl, ho⟩
       subst hv3
       have L3 : Hid (Lies w2 (.slice (some ⟨g3, 0, none⟩) m c3) L) := lies_n HM.out.symm F3
       clear F3)
    | (go_at_call 14; (with_reducible refine (kin.out _).mono ?_); rintro e w4 ⟨rfl, rfl⟩)
    | (go_at_call 9; (with_reducible refine (k9.out _ _ L3.out).mono ?_); rintro e w5 ⟨g5, c5, rfl, o5, hg5, b5⟩
       have O5 := mkHid o5
       have L5 := mkHid (L3.out.old b5)
       have G5 := mkHid hg5
       have B5 := mkHid b5
       clear o5 b5 hg5))
  have ca : World.cell? w5 ⟨g5, k, none⟩ = some (.int .u8 (a : Int)) := at_own O5.out HM.out (by omega) HA.out
  have cb : World.cell? w5 ⟨g5, k + 1, none⟩ = some (.int .u8 (b : Int)) := at_own O5.out HM.out (by omega) HB.out
  have fa := O5.out.frozenAt k
  have fb := O5.out.frozenAt (k + 1)
  have D5 : Hid (Below w.heap.size w w5) := B2.out.trans (B5.out.mono B2.out.size)
  have hg : Hid (w.heap.size ≤ g5) := Nat.le_trans B2.out.size G5.out
  have S5 := mkHid (swp_own (w := w5) O5.out HM.out a b HA.out HB.out)
  have E5 : Hid (Lies ((w5.setCell ⟨g5, k, none⟩ (.int .u8 (b : Int))).setCell ⟨g5, k + 1, none⟩ (.int .u8 (a : Int))) (.slice (some ⟨g3, 0, none⟩) m c3) L) := by
    obtain ⟨ao, cap, h1, h2, h3, h4⟩ := L3.out
    refine ⟨ao, cap, h1, h2, h3, fun ad had j u hu => ?_⟩
    have c0 := h4 ad had j u hu
    have hlt : (ad.add j).block < w4.heap.size := cell_lt c0
    have hne : (ad.add j).block ≠ g5 := by have := G5.out; omega
    have c1 := cell_old B5.out c0
    rw [World.cell?_of_block (w := w5) (by rw [Below.heap_setCell _ _ _ _ (by simpa using hne), Below.heap_setCell _ _ _ _ (by simpa using hne)])]
    exact c1
  clear L5
  go_cut [] (fun wx => Hid (Lies wx (.slice (some ⟨g5, 0, none⟩) m c5) (swp L k)) ∧ Hid (Lies wx (.slice (some ⟨g3, 0, none⟩) m c3) L) ∧ Hid (Below w.heap.size w wx))
  case first =>
    clear O2 L3 O5 B2 B5 G5
    go_region
    all_goals go_wp2
    all_goals
      go_meet
      case rel => exact ⟨S5.out, E5.out, ((D5.out.setCell (p := ⟨g5, k, none⟩) hg.out _).setCell (p := ⟨g5, k + 1, none⟩) hg.out _).drew⟩
  case rest =>
    obtain ⟨LS, LB, HB6⟩ := hcut
    clear ca cb fa fb S5 E5 D5 O5 B5 G5 L3 O2 B2
    have hcells : ∀ j, j < m → wc.cell? ⟨g3, j, none⟩ = some (.int .u8 ((L.getD j 0 : Nat) : Int)) := by
      intro j hj
      obtain ⟨ad, cap, h1, h2⟩ := LB.out.at (by have := HM.out; omega)
      cases h1
      have := h2 j (by have := HM.out; omega)
      have hadd : (⟨g3, 0, none⟩ : Addr).add j = ⟨g3, j, none⟩ := by unfold Addr.add; split <;> simp_all
      rw [hadd] at this
      exact this
    have c1 := hcells k (by omega)
    have c2 := hcells (k + 1) (by omega)
    rw [← HA.out] at c1
    rw [← HB.out] at c2
    have ew : IntKind.i64.wrap ((k : Int) + 1) = (k : Int) + 1 := by rw [IntKind.wrap_i64]; omega
    have hk0 : (0 : Int) ≤ (k : Int) + 1 := by omega
    clear hcells HL HML HA HB
    go_wp2
    go_region_held3 (fun w' => w'.cell? ⟨g3, k, none⟩ = some (.int .u8 (a : Int)) ∧ w'.cell? ⟨g3, k + 1, none⟩ = some (.int .u8 (b : Int)))
      (first | go_keep | exact ⟨cell_old b7 c1, cell_old b7 c2⟩ | exact ⟨cell_old b7 (by assumption), cell_old b7 (by assumption)⟩)
      (first
        | (go_at_call 8; (with_reducible refine (kS.out _ _ ?_).mono ?_); (exact LB.out); rintro e w6 ⟨rfl, rfl⟩)
        | (go_at_call 8; (with_reducible refine (kT.out _ _ ?_).mono ?_); (exact LS.out); rintro e w6 ⟨rfl, rfl⟩)
        | (go_at_call 10; (with_reducible refine (k5.out _).mono ?_); rintro e w7 ⟨rfl, b7⟩))
    go_wp2
    go_ret
    exact ⟨rfl, HB6.out.drew.trans (b7.mono HB6.out.drew.size)⟩

end Go.Proofs.Ytnldjcjhhenppaa
