/-
  florilegiumlaw03.lengths.
-/
import Derived.Test.YthkkahpfbgopjaaAz
import Derived.Test.YthkkahpfbgopjaaAh
set_option linter.unusedSimpArgs false
set_option linter.unusedVariables false
namespace Go.Proofs.Ythkkahpfbgopjaa
open Go.RowKit

set_option maxRecDepth 100000 in
set_option maxHeartbeats 4000000 in
theorem lengths_walk (w : World) (u v : Value) (zs gs : List Int) (a n h : Int) (hu : Ints w u zs) (hv : Ints w v gs) (hlz : zs.length ≤ 17592186043904) (hlg : gs.length ≤ 17592186043904) :
    Calls Try.prog 19 #[u, v, .int .i64 a, .int .i64 n, .int .i64 h] w fun e w' => ∃ lv ys, e = .returned lv ∧ Ints w' lv ys ∧ ys.length ≤ 17592186043904 ∧ Below w.heap.size w w' := by
  have hfull : Hid (Calls Try.prog 21 #[u, v] w fun e w' => ∃ lv ls, e = .returned lv ∧ w'.ownsRow w.heap.size 3 1 lv ls.length (ls.map natV) ∧ Below w.heap.size w w' ∧ Good ls) := full_walk w u v zs gs hu hv (by omega) (by omega)
  obtain ⟨ua, uc, rfl, -, -, -⟩ := hu
  obtain ⟨va, vc, rfl, hv2, hv3, hv4⟩ := hv
  obtain ⟨M, hM⟩ : ∃ M, M = zs.length := ⟨_, rfl⟩
  obtain ⟨G, hG⟩ : ∃ G, G = gs.length := ⟨_, rfl⟩
  rw [← hM] at hlz hfull ⊢
  rw [← hG] at hv2 hv4 hlg hfull ⊢
  clear hM hG
  obtain ⟨h6, hh6, hw6⟩ := within_lit h 6 6 (by decide) rfl (by decide)
  obtain ⟨n18, hn18, hw18⟩ := within_lit n 18 18 (by decide) rfl (by decide)
  obtain ⟨n330, hn330, hw330⟩ := within_lit n 330 330 (by decide) rfl (by decide)
  have h18w : Hid (∀ r : Nat, r < 1000 → ∃ m : Nat, (0 < r → m < r) ∧ Hid (0 < r → ∀ w, Calls Try.prog 10 #[.int .i64 a, .int .i64 (r : Int)] w fun e w' => e = .returned (.int .i64 (m : Int)) ∧ w' = w)) := fun r hr => by
    rcases Nat.eq_zero_or_pos r with h | h
    · exact ⟨0, fun h' => by omega, fun h' => by omega⟩
    · obtain ⟨m, hm, hw⟩ := within_lit a (r : Int) r h rfl (by omega)
      exact ⟨m, fun _ => hm, fun _ => hw.out⟩
  obtain ⟨B, hB⟩ : ∃ B, B = w.heap.size := ⟨_, rfl⟩
  rw [← hB] at hfull ⊢
  have HB : Hid (B = w.heap.size) := hB
  clear hB
  rcases (show h6 = 0 ∨ h6 = 1 ∨ h6 = 2 ∨ 3 ≤ h6 by omega) with rfl | rfl | rfl | h3
  · go_enter Try.func19, Try.ntmps19
    go_wp2_with (first
      | (go_at_call 21; (with_reducible refine hfull.out.mono ?_); rintro e w1 ⟨lv, ls, rfl, ho, hb, hg⟩
         obtain ⟨g, cap, rfl, -⟩ := ho.form (by have := hg.pos; omega)
         obtain ⟨k, hk⟩ : ∃ k, k = ls.length := ⟨_, rfl⟩
         rw [← hk] at ho
         have HK : Hid (k = ls.length) := hk
         have hk0 : 0 < k := by have := hg.pos; omega
         have hk82 : k ≤ 82 := by have := hg.len; omega
         rw [← hk]
         clear hk
         obtain ⟨r, hr, hwr⟩ := h18w.out k (by omega)
         have hr := hr hk0
         have hwr' : Hid (∀ w, Calls Try.prog 10 #[.int .i64 a, .int .i64 (k : Int)] w fun e w' => e = .returned (.int .i64 (r : Int)) ∧ w' = w) := hwr.out hk0
         have hcl := nat_at HK.out.symm ho r hr
         have hz := ho.frozenAt r)
      | (go_at_call 10; (with_reducible refine (hw6.out _).mono ?_); rintro e wx ⟨rfl, hx⟩; have hx := hx.symm; subst hx)
      | (go_at_call 10; (with_reducible refine (hwr'.out _).mono ?_); rintro e wx ⟨rfl, hx⟩; have hx := hx.symm; subst hx)
      | (go_at_call 10; (with_reducible refine (hw18.out _).mono ?_); rintro e wx ⟨rfl, hx⟩; have hx := hx.symm; subst hx))
    go_ret
    refine ⟨_, (castL ls).set r ((n18 : Int) - 1), rfl, ?_, by rw [List.length_set, castL_length, ← HK.out]; omega, hb.setCell (p := ⟨g, r, none⟩) ((ho.lt g rfl).1) _⟩
    have := (ho.stored r (.int .i64 ((n18 : Int) - 1))).1
    rw [← castL_map, intV_set] at this
    exact ints_own this (by rw [List.length_set, castL_length, HK.out])
  · go_enter Try.func19, Try.ntmps19
    go_wp2_with (first
      | (go_at_call 21; (with_reducible refine hfull.out.mono ?_); rintro e w1 ⟨lv, ls, rfl, ho, hb, hg⟩)
      | (go_at_call 10; (with_reducible refine (hw6.out _).mono ?_); rintro e wx ⟨rfl, hx⟩; have hx := hx.symm; subst hx))
    have hst : w1.ownsRow B 3 1 (.slice none 0 0) 0 [] := World.ownsRow_nil _ _ _ _
    clear ho hg
    go_loopw [11, 12] (fun l i wr => ∃ (k : Nat) (ys : List Int), k ≤ G ∧ i = .int .i64 (k : Int) ∧ Hid (ys.length = k) ∧ wr.ownsRow B 3 1 l k (ys.map intV) ∧ Below B w wr) (fun _ i _ => G - (intOf i).toNat)
    case atStart => exact ⟨0, [], by omega, rfl, rfl, hst, hb⟩
    case round =>
      obtain ⟨k, ys, hk, rfl, HY, ho, hbr⟩ := hrel
      clear hst hb
      by_cases hkG : k < G
      · obtain ⟨A, rfl⟩ : ∃ A, va = some A := by
          cases va with
          | none => have := hv3 rfl; omega
          | some A => exact ⟨A, rfl⟩
        have hcg := cell_old (HB.out ▸ hbr) (hv4 A rfl k hkG)
        obtain ⟨y, hy⟩ : ∃ y, y = gs.getD k 0 := ⟨_, rfl⟩
        rw [← hy] at hcg
        clear hy
        obtain ⟨q, hq, hwi⟩ := within_lit y 5 5 (by decide) rfl (by decide)
        have hBr : B ≤ wr.heap.size := by have := hbr.size; have := HB.out; omega
        go_wp2_with (first
          | (go_at_call 10; (with_reducible refine (hwi.out _).mono ?_); rintro e wx ⟨rfl, hx⟩; have hx := hx.symm; subst hx)
          | (at_builtin; refine wpList_push rfl (.tmp 37) (.tmp 43) rfl B _ k _ rfl ho (q : Int) wr.heap.size rfl rfl (by omega) hBr ?_; intro g2 cap2 w2 ho2 hf2 hat2 hb2))
        go_roundw
        case rel =>
          refine ⟨k + 1, ys ++ [(q : Int)], by omega, by go_num, ?_, ?_, hbr.trans hb2⟩
          · show _ = _; simp [HY.out]
          · rw [List.map_append]; exact ho2
        case measure => simp [intOf]; omega
      · go_wp2
        go_ret
        exact ⟨_, ys, rfl, ints_own ho HY.out, by rw [HY.out]; omega, hbr⟩
  · go_enter Try.func19, Try.ntmps19
    go_wp2_with (first
      | (go_at_call 21; (with_reducible refine hfull.out.mono ?_); rintro e w1 ⟨lv, ls, rfl, ho, hb, hg⟩
         obtain ⟨g, cap, rfl, -⟩ := ho.form (by have := hg.pos; omega)
         have hk82 : ls.length ≤ 82 := hg.len
         have hB1 : B ≤ w1.heap.size := by have := hb.size; have := HB.out; omega)
      | (go_at_call 10; (with_reducible refine (hw6.out _).mono ?_); rintro e wx ⟨rfl, hx⟩; have hx := hx.symm; subst hx)
      | (go_at_call 10; (with_reducible refine (hw330.out _).mono ?_); rintro e wx ⟨rfl, hx⟩; have hx := hx.symm; subst hx)
      | (at_builtin; refine wpList_zeros rfl (.tmp 47) (.tmp 49) rfl B g ls.length cap n330 _ rfl rfl ho (by omega) (by omega) hB1 ?_; intro g2 cap2 w2 ho2 hb2))
    go_ret
    refine ⟨_, castL (ls ++ List.replicate n330 0), rfl, ?_, by rw [castL_length, List.length_append, List.length_replicate]; omega, hb.trans hb2⟩
    refine ints_nat (B := B) (owns_cast ho2 (by simp) ?_)
    rw [List.map_append, List.map_replicate]
  · have g0 : ((h6 : Int) == 0) = false := by simp; omega
    have g1 : ((h6 : Int) == 1) = false := by simp; omega
    have g2 : ((h6 : Int) == 2) = false := by simp; omega
    go_enter Try.func19, Try.ntmps19
    go_wp2_with (first
      | (go_at_call 21; (with_reducible refine hfull.out.mono ?_); rintro e w1 ⟨lv, ls, rfl, ho, hb, hg⟩)
      | (go_at_call 10; (with_reducible refine (hw6.out _).mono ?_); rintro e wx ⟨rfl, hx⟩; have hx := hx.symm; subst hx))
    go_ret
    exact ⟨_, castL ls, rfl, ints_nat ho, by rw [castL_length]; have := hg.len; omega, hb⟩
end Go.Proofs.Ythkkahpfbgopjaa
