/-
  lz.Split.
-/
import Derived.Test.YtdokpimhhkbdbaaDoorZSc
set_option linter.unusedSimpArgs false
set_option linter.unusedVariables false
namespace Go.Proofs.YtdokpimhhkbdbaaDoor.Lz
open Go.RowKit

theorem longest_fits (b : List Nat) (a L D : Nat) (ha : a < b.length) (h : best b a (min 1024 a) = (L, D)) : (L = 0 ∧ D = 0 ∧ stepOf b a = ⟨b.getD a 0, 0, 0⟩ ∧ wide b a = 1) ∨ (3 ≤ L ∧ L ≤ 258 ∧ a + L ≤ b.length ∧ 1 ≤ D ∧ D ≤ a ∧ stepOf b a = ⟨0, L, D⟩ ∧ wide b a = L) := by
  have hs := best_spec b a (min 1024 a)
  have hw := wide_le b a ha
  unfold stepOf
  unfold wide at hw ⊢
  rw [h] at hs hw ⊢
  by_cases h0 : L = 0
  · have hD : D = 0 := hs.none h0
    subst h0 hD
    exact .inl ⟨rfl, rfl, rfl, rfl⟩
  · obtain ⟨h1, h2, h3, h4⟩ := hs.some h0
    have h5 := lik_le b (a - D) a (by omega)
    simp only at h1 h2 h3 h4 hw
    refine .inr ⟨h1, by omega, by omega, h2, by omega, ?_, by simp only; omega⟩
    simp [h0]

theorem own_ne_ge {w : World} {B e sz : Nat} {v : Value} {n : Nat} {xs : List Value} (h : w.ownsRow B e sz v n xs) {p : Nat} (hp : w.heap.size ≤ p) : v.ownBlock ≠ some p := fun e => by
  have := (h.lt p e).2
  omega

set_option maxRecDepth 100000 in
set_option maxHeartbeats 4000000 in
theorem split_walk (w : World) (v : Value) (b : List Nat) (hv : Lies w v b) (hb : b.length ≤ 5864062014000) :
    Calls Tryd.prog 40 #[v] w fun e w' => ∃ v', e = .returned v' ∧ Steps w.heap.size 71 w' v' (splitL b) ∧ Below w.heap.size w w' := by
  have HV : Hid (Lies w v b) := hv
  obtain ⟨ao, cap, hve, hcells⟩ := hv.cell
  obtain ⟨P, hP⟩ : ∃ P, P = w.heap.size := ⟨_, rfl⟩
  have hlo : Hid (∀ (i : Nat) (wx : World), Below P w wx → i < b.length → Calls Tryd.prog 55 #[v, .int .i64 i] wx fun e w' => e = .returned (.agg #[.int .u8 0, .int .i64 ((best b i (min 1024 i)).1 : Nat), .int .i64 ((best b i (min 1024 i)).2 : Nat)]) ∧ Below wx.heap.size wx w') := fun i wx hbx hi => longest_walk wx v b i (hv.old (hP ▸ hbx)) (by omega) hi
  subst hve
  obtain ⟨N, hN⟩ : ∃ N, N = b.length := ⟨_, rfl⟩
  rw [← hN] at hb hcells hlo HV ⊢
  have HN : Hid (N = b.length) := hN
  clear hN hv
  go_enter Tryd.func40, Tryd.ntmps40
  go_wp2
  have hst : w.ownsRow P 71 3 (.slice none 0 0) 0 (cellsL []) := World.ownsRow_nil _ _ _ _
  go_loopw [3, 4] (fun l i wr => ∃ (k n f : Nat) (acc : List St), n ≤ k ∧ k ≤ N ∧ i = .int .i64 k ∧ Hid (acc.length = n) ∧ Hid (splitL b = acc ++ runL b f k) ∧ Hid (N - k ≤ f) ∧ wr.ownsRow P 71 3 l n (cellsL acc) ∧ Below P w wr) (fun _ i _ => N - (intOf i).toNat)
  case atStart => exact ⟨0, 0, N, [], by omega, by omega, rfl, rfl, by show _ = _; rw [HN.out]; rfl, by show _ ≤ _; omega, hst, Below.refl _ _⟩
  case round =>
    obtain ⟨k, n, f, acc, hnk, hkN, rfl, HAL, HSP, HF, hown, hbl⟩ := hrel
    clear hst
    have HP : Hid (P = w.heap.size) := hP
    clear hP
    have hPw : P ≤ wr.heap.size := by have := HP.out; have := hbl.size; omega
    by_cases hk : k < N
    · obtain ⟨A, rfl, hcs⟩ := hcells (by omega)
      obtain ⟨L, D, hLD⟩ : ∃ L D, best b k (min 1024 k) = (L, D) := ⟨_, _, rfl⟩
      have hl := hlo.out k wr hbl hk
      rw [hLD] at hl
      have HL : Hid (Calls Tryd.prog 55 #[.slice (some A) N cap, .int .i64 k] wr fun e w' => e = .returned (.agg #[.int .u8 0, .int .i64 (L : Int), .int .i64 (D : Int)]) ∧ Below wr.heap.size wr w') := hl
      have hfit := longest_fits b k L D (by rw [← HN.out]; exact hk) hLD
      rw [← HN.out] at hfit
      have hx := cell_old (HP.out ▸ hbl) (hcs k hk)
      obtain ⟨x, hxe⟩ : ∃ x, x = b.getD k 0 := ⟨_, rfl⟩
      rw [← hxe] at hx hfit
      have HX : Hid (wr.cell? (A.add k) = some (.int .u8 (x : Int))) := hx
      have HST : Hid (splitL b = acc ++ (stepOf b k :: runL b (f - 1) (k + wide b k))) := by
        show _ = _
        rw [HSP.out, runL_step b f k (by rw [← HN.out]; exact hk) (by rw [← HN.out]; exact HF.out)]
      clear hl hLD hx hxe hcells
      rcases hfit with ⟨rfl, rfl, hse, hwe⟩ | ⟨h3, hL258, hLN, hD1, hDk, hse, hwe⟩
      · rw [hse, hwe] at HST
        clear hse hwe
        go_wp2_with (first
          | (go_at_call 55; (with_reducible refine HL.out.mono ?_); rintro e w1 ⟨rfl, hb1⟩)
          | (refine wpList_store_row rfl 71 (.tmp 5) (.tmp 12) rfl w1.heap.size #[.int .u8 0, .int .i64 0, .int .i64 0] rfl rfl 71 _ (heap_alloc_new w1 _) Tryd.size27 rfl (stC_one 0 0 0) ?_
             rw [World.setRow_alloc_new]
             have q1 := heap_alloc_new w1 (.cells #[.int .u8 0, .int .i64 0, .int .i64 0] 71)
             have q2 : Below wr.heap.size wr (w1.alloc (.cells #[.int .u8 0, .int .i64 0, .int .i64 0] 71)) := hb1.alloc hb1.size _
             have q3 := owns_below hown q2
             have q4 := own_ne_ge hown hb1.size
             have q0 : w1.heap.size < (w1.alloc (.cells #[.int .u8 0, .int .i64 0, .int .i64 0] 71)).heap.size := by simp
             have q5 := cell_old q2 HX.out
             have q8 := hb1.size
             generalize w1.heap.size = p at *
             generalize w1.alloc (.cells #[.int .u8 0, .int .i64 0, .int .i64 0] 71) = w2 at *
             have q6 := cell3_1 q1
             have q7 := free_at q1 0
             have c0 := cell3_0 q1
             have r1 : Hid ((w2.setCell ⟨p, 0, none⟩ (.int .u8 (x : Int))).heap[p]? = some (.cells #[.int .u8 (x : Int), .int .i64 0, .int .i64 0] 71 (0, 0))) := row_setCell q1 0 _
             have r3 : Hid ((w2.setCell ⟨p, 0, none⟩ (.int .u8 (x : Int))).ownsRow P 71 3 u3 n (cellsL acc)) := ownsRow_setCell_other q3 (a := ⟨p, 0, none⟩) q4 _
             have r2 : Hid (Below wr.heap.size wr (w2.setCell ⟨p, 0, none⟩ (.int .u8 (x : Int)))) := q2.setCell (p := ⟨p, 0, none⟩) q8 _
             clear q1 q2 q3 hb1 hown)
          | (refine wpList_load27 rfl (.tmp 5) rfl p rfl _ _ _ r1.out ?_)
          | (at_builtin; refine wpList_pushSt rfl 68 71 (.tmp 21) (.tmp 23) rfl Tryd.underlying24 Tryd.info27 P _ n _ rfl r3.out _ _ _ ⟨rfl, rfl, rfl⟩ w2.heap.size (by simp) rfl (by omega) (by simp; omega) ?_
             intro g2 cap2 w5 ho5 hf5 hat5 hb5
             have s1 : w5.cell? ⟨p, 1, none⟩ = some (.int .i64 0) := cell3_1 ((hf5.block p (by simpa using q0) (by simp) q4.symm).trans r1.out)))
        go_roundw
        case rel =>
          refine ⟨k + 1, n + 1, f - 1, acc ++ [⟨x, 0, 0⟩], by omega, by omega, by go_num, ?_, ?_, ?_, ?_, ?_⟩
          · show _ = _; simp [HAL.out]
          · show _ = _; rw [HST.out]; simp
          · show _ ≤ _; have := HF.out; omega
          · rw [cellsL_append, cellsL_one]; exact ho5
          · exact (hbl.trans (r2.out.mono hPw)).trans hb5
        case measure => simp [intOf]; omega
      · rw [hse, hwe] at HST
        have hL0 : ((L : Int) == 0) = false := by simp; omega
        have hL1 : (1 : Int) ≤ (L : Int) := by omega
        clear hse hwe
        go_wp2_with (first
          | (go_at_call 55; (with_reducible refine HL.out.mono ?_); rintro e w1 ⟨rfl, hb1⟩)
          | (refine wpList_store_row rfl 71 (.tmp 5) (.tmp 12) rfl w1.heap.size #[.int .u8 0, .int .i64 (L : Int), .int .i64 (D : Int)] rfl rfl 71 _ (heap_alloc_new w1 _) Tryd.size27 rfl (stC_one 0 L D) ?_
             rw [World.setRow_alloc_new]
             have q1 := heap_alloc_new w1 (.cells #[.int .u8 0, .int .i64 (L : Int), .int .i64 (D : Int)] 71)
             have q2 : Below wr.heap.size wr (w1.alloc (.cells #[.int .u8 0, .int .i64 (L : Int), .int .i64 (D : Int)] 71)) := hb1.alloc hb1.size _
             have q3 := owns_below hown q2
             have q4 := own_ne_ge hown hb1.size
             have q0 : w1.heap.size < (w1.alloc (.cells #[.int .u8 0, .int .i64 (L : Int), .int .i64 (D : Int)] 71)).heap.size := by simp
             have q8 := hb1.size
             generalize w1.heap.size = p at *
             generalize w1.alloc (.cells #[.int .u8 0, .int .i64 (L : Int), .int .i64 (D : Int)] 71) = w2 at *
             have q6 := cell3_1 q1
             have r1 : Hid (w2.heap[p]? = some (.cells #[.int .u8 0, .int .i64 (L : Int), .int .i64 (D : Int)] 71 (0, 0))) := q1
             have r3 : Hid (w2.ownsRow P 71 3 u3 n (cellsL acc)) := q3
             have r2 : Hid (Below wr.heap.size wr w2) := q2
             clear q1 q2 q3 hb1 hown)
          | (refine wpList_load27 rfl (.tmp 5) rfl p rfl _ _ _ r1.out ?_)
          | (at_builtin; refine wpList_pushSt rfl 68 71 (.tmp 21) (.tmp 23) rfl Tryd.underlying24 Tryd.info27 P _ n _ rfl r3.out _ _ _ ⟨rfl, rfl, rfl⟩ w2.heap.size (by simp) rfl (by omega) (by omega) ?_
             intro g2 cap2 w5 ho5 hf5 hat5 hb5
             have s1 : w5.cell? ⟨p, 1, none⟩ = some (.int .i64 (L : Int)) := cell3_1 ((hf5.block p q0 (by simp) q4.symm).trans r1.out)))
        go_roundw
        case rel =>
          refine ⟨k + L, n + 1, f - 1, acc ++ [⟨0, L, D⟩], by omega, by omega, by go_num, ?_, ?_, ?_, ?_, ?_⟩
          · show _ = _; simp [HAL.out]
          · show _ = _; rw [HST.out]; simp
          · show _ ≤ _; have := HF.out; omega
          · rw [cellsL_append, cellsL_one]; exact ho5
          · exact (hbl.trans (r2.out.mono hPw)).trans hb5
        case measure => simp [intOf]; omega
    · have hkk : k = N := by omega
      subst hkk
      go_wp2
      go_ret
      have e := HSP.out
      rw [runL_end b f k (by rw [← HN.out]; exact Nat.le_refl _), List.append_nil] at e
      have hn := HAL.out
      subst hn
      exact ⟨_, rfl, by rw [← HP.out, e]; exact hown, by rw [← HP.out]; exact hbl⟩
end Go.Proofs.YtdokpimhhkbdbaaDoor.Lz
