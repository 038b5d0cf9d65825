/-
  Rows of steps; one step appended; lz.Split. lz.Split. Slices of steps that can be read ('Tells'); Same of steps. The codes of lengths and distances: their plain numbers; ladder, LengthOf, DistanceOf. codeOf, LengthCode, DistanceCode.
-/
import Derived.Test.YtdokpimhhkbdbaaDoorZSb
import Derived.Deep.AppendLies
import Derived.Test.YtdokpimhhkbdbaaDoorZGa
set_option linter.unusedSimpArgs false
set_option linter.unusedVariables false
namespace Go.Proofs.YtdokpimhhkbdbaaDoor.Lz
open Go.RowKit

def stL (s : St) : List Value := [.int .u8 (s.b : Int), .int .i64 s.l, .int .i64 s.d]
def cellsL (l : List St) : List Value := l.flatMap stL

theorem cellsL_len (l : List St) : (cellsL l).length = l.length * 3 := by
  induction l with
  | nil => rfl
  | cons s l ih => simp only [cellsL, List.flatMap_cons, List.length_append] at ih ⊢; rw [ih]; simp [stL]; omega

theorem cellsL_append (l m : List St) : cellsL (l ++ m) = cellsL l ++ cellsL m := by simp [cellsL]
theorem cellsL_one (s : St) : cellsL [s] = stL s := by simp [cellsL]

theorem cellsL_at (l : List St) (k j : Nat) (hk : k < l.length) (hj : j < 3) : (cellsL l)[3 * k + j]? = (stL (l.getD k ⟨0, 0, 0⟩))[j]? := by
  induction l generalizing k with
  | nil => simp at hk
  | cons s l ih =>
    have e : cellsL (s :: l) = stL s ++ cellsL l := by simp [cellsL]
    rw [e]
    cases k with
    | zero =>
      rw [List.getElem?_append_left (by simp [stL]; omega)]
      simp
    | succ k =>
      rw [List.getElem?_append_right (by simp [stL]; omega)]
      have : 3 * (k + 1) + j - (stL s).length = 3 * k + j := by simp [stL]; omega
      rw [this, ih k (by simpa using hk)]
      simp

/-- A row of steps of the call's own. -/
abbrev Steps (B T : Nat) (w : World) (v : Value) (l : List St) : Prop := w.ownsRow B T 3 v l.length (cellsL l)

theorem owns_below {w w' : World} {B e sz : Nat} {v : Value} {n : Nat} {xs : List Value} (h : w.ownsRow B e sz v n xs) (hb : Below w.heap.size w w') : w'.ownsRow B e sz v n xs := by
  refine ⟨h.1, ?_⟩
  rcases h.2 with h2 | ⟨g, cap, cur, rfl, hB, hg, r⟩
  · exact .inl h2
  · exact .inr ⟨g, cap, cur, rfl, hB, by rw [hb.block g (lt_of_block hg)]; exact hg, r⟩

/-- One step more, behind the block that it was laid into. -/
theorem wpList_pushSt {ops : Array Oper} {rest : List Oper} {o : Oper} {a : Act} {w : World} {Q : Exit → Act → World → Prop} (hgd : o.guard = none) (t e : TypeId) (s x : Operand)
    (ho : o.op = .call { callee := .builtin .append, args := #[s, x], argTypes := #[t, t] })
    (ht : Tryd.prog.underlying t = some (.slice e)) (hinf : (Tryd.prog.info? e).map (fun i => (i.zero, i.size, i.bytes)) = some (some (.agg #[.int .u8 0, .int .i64 0, .int .i64 0]), 3, 24))
    (B : Nat) (v : Value) (n : Nat) (xs : List Value) (hs : a.eval s = v) (hown : w.ownsRow B e 3 v n xs) (p q r : Value) (h1 : p.oneCell' = true ∧ q.oneCell' = true ∧ r.oneCell' = true) (H : Nat) (hH : w.heap.size = H) (hx : a.eval x = .slice (some ⟨H, 0, none⟩) 1 1)
    (hn : n + 1 ≤ 5864062014805) (hB : B ≤ w.heap.size)
    (h : ∀ g cap w', w'.ownsRow B e 3 (.slice (some ⟨g, 0, none⟩) (n + 1) cap) (n + 1) (xs ++ [p, q, r]) → Fr none v.ownBlock w w' → (v.ownBlock = some g ∨ w.heap.size ≤ g) → Below B w w' → wpList Tryd.prog ops Q rest (a.put o.dst (.slice (some ⟨g, 0, none⟩) (n + 1) cap)) w') :
    wpList Tryd.prog ops Q (o :: rest) a (w.alloc (.cells #[p, q, r] e)) := by
  subst hH
  obtain ⟨i, hi, hz0, hz1, hz2⟩ := info_parts hinf
  refine wpList_append_lies _ hgd s x t ho B e i _ 3 24 ht hi hz0 hz1 hz2 rfl (by decide) v n xs hs (hown.alloc _) ⟨w.heap.size, 0, none⟩ 1 1 [p, q, r] hx rfl ?_ ?_ (by decide) (by unfold maxLen; omega) (by omega) (by simp; omega) (w.heap.size + 1) (by simp) ?_
  · intro j u hj
    match j, hj with
    | 0, hj => simp at hj; subst hj; simp [Addr.add]
    | 1, hj => simp at hj; subst hj; simp [Addr.add]
    | 2, hj => simp at hj; subst hj; simp [Addr.add]
  · intro u hu; simp at hu; rcases hu with rfl | rfl | rfl
    · exact h1.1
    · exact h1.2.1
    · exact h1.2.2
  · intro g cap w' ho2 hg hat hlt
    have hf : Fr none v.ownBlock w w' := by
      refine ⟨hg.os, hg.tape, hg.output, by have := hg.size; simp at this; omega, fun k hk _ hy => ?_⟩
      rw [hg.block k (by simp; omega) hy]
      exact Below.heap_alloc _ _ _ hk
    refine h g cap w' ho2 hf ?_ (hf.below hB (fun j hj => by cases hj) (fun j hj => (hown.lt j hj).1))
    rcases hat with e | e
    · exact .inl e
    · exact .inr (by omega)

theorem steps_push {B T : Nat} {w : World} {v : Value} {l : List St} {n : Nat} (hn : l.length = n) {s : St} (h : w.ownsRow B T 3 v (n + 1) (cellsL l ++ stL s)) : Steps B T w v (l ++ [s]) := by
  subst hn
  show w.ownsRow _ _ _ _ _ _
  rw [List.length_append, cellsL_append, cellsL_one]
  exact h

end Go.Proofs.YtdokpimhhkbdbaaDoor.Lz

set_option linter.unusedSimpArgs false
set_option linter.unusedVariables false
namespace Go.Proofs.YtdokpimhhkbdbaaDoor.Lz
open Go.RowKit

theorem longest_fits (b : List Nat) (a L D : Nat) (ha : a < b.length) (h : best b a (min 1024 a) = (L, D)) : (L = 0 ∧ D = 0 ∧ stepOf b a = ⟨b.getD a 0, 0, 0⟩ ∧ wide b a = 1) ∨ (3 ≤ L ∧ L ≤ 258 ∧ a + L ≤ b.length ∧ 1 ≤ D ∧ D ≤ a ∧ stepOf b a = ⟨0, L, D⟩ ∧ wide b a = L) := by
  have hs := best_spec b a (min 1024 a)
  have hw := wide_le b a ha
  unfold stepOf
  unfold wide at hw ⊢
  rw [h] at hs hw ⊢
  by_cases h0 : L = 0
  · have hD : D = 0 := hs.none h0
    subst h0 hD
    exact .inl ⟨rfl, rfl, rfl, rfl⟩
  · obtain ⟨h1, h2, h3, h4⟩ := hs.some h0
    have h5 := lik_le b (a - D) a (by omega)
    simp only at h1 h2 h3 h4 hw
    refine .inr ⟨h1, by omega, by omega, h2, by omega, ?_, by simp only; omega⟩
    simp [h0]

theorem own_ne_ge {w : World} {B e sz : Nat} {v : Value} {n : Nat} {xs : List Value} (h : w.ownsRow B e sz v n xs) {p : Nat} (hp : w.heap.size ≤ p) : v.ownBlock ≠ some p := fun e => by
  have := (h.lt p e).2
  omega

set_option maxRecDepth 100000 in
set_option maxHeartbeats 4000000 in
theorem split_walk (w : World) (v : Value) (b : List Nat) (hv : Lies w v b) (hb : b.length ≤ 5864062014000) :
    Calls Tryd.prog 40 #[v] w fun e w' => ∃ v', e = .returned v' ∧ Steps w.heap.size 71 w' v' (splitL b) ∧ Below w.heap.size w w' := by
  have HV : Hid (Lies w v b) := hv
  obtain ⟨ao, cap, hve, hcells⟩ := hv.cell
  obtain ⟨P, hP⟩ : ∃ P, P = w.heap.size := ⟨_, rfl⟩
  have hlo : Hid (∀ (i : Nat) (wx : World), Below P w wx → i < b.length → Calls Tryd.prog 55 #[v, .int .i64 i] wx fun e w' => e = .returned (.agg #[.int .u8 0, .int .i64 ((best b i (min 1024 i)).1 : Nat), .int .i64 ((best b i (min 1024 i)).2 : Nat)]) ∧ Below wx.heap.size wx w') := fun i wx hbx hi => longest_walk wx v b i (hv.old (hP ▸ hbx)) (by omega) hi
  subst hve
  obtain ⟨N, hN⟩ : ∃ N, N = b.length := ⟨_, rfl⟩
  rw [← hN] at hb hcells hlo HV ⊢
  have HN : Hid (N = b.length) := hN
  clear hN hv
  go_enter Tryd.func40, Tryd.ntmps40
  go_wp2
  have hst : w.ownsRow P 71 3 (.slice none 0 0) 0 (cellsL []) := World.ownsRow_nil _ _ _ _
  go_loopw [3, 4] (fun l i wr => ∃ (k n f : Nat) (acc : List St), n ≤ k ∧ k ≤ N ∧ i = .int .i64 k ∧ Hid (acc.length = n) ∧ Hid (splitL b = acc ++ runL b f k) ∧ Hid (N - k ≤ f) ∧ wr.ownsRow P 71 3 l n (cellsL acc) ∧ Below P w wr) (fun _ i _ => N - (intOf i).toNat)
  case atStart => exact ⟨0, 0, N, [], by omega, by omega, rfl, rfl, by show _ = _; rw [HN.out]; rfl, by show _ ≤ _; omega, hst, Below.refl _ _⟩
  case round =>
    obtain ⟨k, n, f, acc, hnk, hkN, rfl, HAL, HSP, HF, hown, hbl⟩ := hrel
    clear hst
    have HP : Hid (P = w.heap.size) := hP
    clear hP
    have hPw : P ≤ wr.heap.size := by have := HP.out; have := hbl.size; omega
    by_cases hk : k < N
    · obtain ⟨A, rfl, hcs⟩ := hcells (by omega)
      obtain ⟨L, D, hLD⟩ : ∃ L D, best b k (min 1024 k) = (L, D) := ⟨_, _, rfl⟩
      have hl := hlo.out k wr hbl hk
      rw [hLD] at hl
      have HL : Hid (Calls Tryd.prog 55 #[.slice (some A) N cap, .int .i64 k] wr fun e w' => e = .returned (.agg #[.int .u8 0, .int .i64 (L : Int), .int .i64 (D : Int)]) ∧ Below wr.heap.size wr w') := hl
      have hfit := longest_fits b k L D (by rw [← HN.out]; exact hk) hLD
      rw [← HN.out] at hfit
      have hx := cell_old (HP.out ▸ hbl) (hcs k hk)
      obtain ⟨x, hxe⟩ : ∃ x, x = b.getD k 0 := ⟨_, rfl⟩
      rw [← hxe] at hx hfit
      have HX : Hid (wr.cell? (A.add k) = some (.int .u8 (x : Int))) := hx
      have HST : Hid (splitL b = acc ++ (stepOf b k :: runL b (f - 1) (k + wide b k))) := by
        show _ = _
        rw [HSP.out, runL_step b f k (by rw [← HN.out]; exact hk) (by rw [← HN.out]; exact HF.out)]
      clear hl hLD hx hxe hcells
      rcases hfit with ⟨rfl, rfl, hse, hwe⟩ | ⟨h3, hL258, hLN, hD1, hDk, hse, hwe⟩
      · rw [hse, hwe] at HST
        clear hse hwe
        go_wp2_with (first
          | (go_at_call 55; (with_reducible refine HL.out.mono ?_); rintro e w1 ⟨rfl, hb1⟩)
          | (refine wpList_store_row rfl 71 (.tmp 5) (.tmp 12) rfl w1.heap.size #[.int .u8 0, .int .i64 0, .int .i64 0] rfl rfl 71 _ (heap_alloc_new w1 _) Tryd.size27 rfl (stC_one 0 0 0) ?_
             rw [World.setRow_alloc_new]
             have q1 := heap_alloc_new w1 (.cells #[.int .u8 0, .int .i64 0, .int .i64 0] 71)
             have q2 : Below wr.heap.size wr (w1.alloc (.cells #[.int .u8 0, .int .i64 0, .int .i64 0] 71)) := hb1.alloc hb1.size _
             have q3 := owns_below hown q2
             have q4 := own_ne_ge hown hb1.size
             have q0 : w1.heap.size < (w1.alloc (.cells #[.int .u8 0, .int .i64 0, .int .i64 0] 71)).heap.size := by simp
             have q5 := cell_old q2 HX.out
             have q8 := hb1.size
             generalize w1.heap.size = p at *
             generalize w1.alloc (.cells #[.int .u8 0, .int .i64 0, .int .i64 0] 71) = w2 at *
             have q6 := cell3_1 q1
             have q7 := free_at q1 0
             have c0 := cell3_0 q1
             have r1 : Hid ((w2.setCell ⟨p, 0, none⟩ (.int .u8 (x : Int))).heap[p]? = some (.cells #[.int .u8 (x : Int), .int .i64 0, .int .i64 0] 71 (0, 0))) := row_setCell q1 0 _
             have r3 : Hid ((w2.setCell ⟨p, 0, none⟩ (.int .u8 (x : Int))).ownsRow P 71 3 u3 n (cellsL acc)) := ownsRow_setCell_other q3 (a := ⟨p, 0, none⟩) q4 _
             have r2 : Hid (Below wr.heap.size wr (w2.setCell ⟨p, 0, none⟩ (.int .u8 (x : Int)))) := q2.setCell (p := ⟨p, 0, none⟩) q8 _
             clear q1 q2 q3 hb1 hown)
          | (refine wpList_load27 rfl (.tmp 5) rfl p rfl _ _ _ r1.out ?_)
          | (at_builtin; refine wpList_pushSt rfl 68 71 (.tmp 21) (.tmp 23) rfl Tryd.underlying24 Tryd.info27 P _ n _ rfl r3.out _ _ _ ⟨rfl, rfl, rfl⟩ w2.heap.size (by simp) rfl (by omega) (by simp; omega) ?_
             intro g2 cap2 w5 ho5 hf5 hat5 hb5
             have s1 : w5.cell? ⟨p, 1, none⟩ = some (.int .i64 0) := cell3_1 ((hf5.block p (by simpa using q0) (by simp) q4.symm).trans r1.out)))
        go_roundw
        case rel =>
          refine ⟨k + 1, n + 1, f - 1, acc ++ [⟨x, 0, 0⟩], by omega, by omega, by go_num, ?_, ?_, ?_, ?_, ?_⟩
          · show _ = _; simp [HAL.out]
          · show _ = _; rw [HST.out]; simp
          · show _ ≤ _; have := HF.out; omega
          · rw [cellsL_append, cellsL_one]; exact ho5
          · exact (hbl.trans (r2.out.mono hPw)).trans hb5
        case measure => simp [intOf]; omega
      · rw [hse, hwe] at HST
        have hL0 : ((L : Int) == 0) = false := by simp; omega
        have hL1 : (1 : Int) ≤ (L : Int) := by omega
        clear hse hwe
        go_wp2_with (first
          | (go_at_call 55; (with_reducible refine HL.out.mono ?_); rintro e w1 ⟨rfl, hb1⟩)
          | (refine wpList_store_row rfl 71 (.tmp 5) (.tmp 12) rfl w1.heap.size #[.int .u8 0, .int .i64 (L : Int), .int .i64 (D : Int)] rfl rfl 71 _ (heap_alloc_new w1 _) Tryd.size27 rfl (stC_one 0 L D) ?_
             rw [World.setRow_alloc_new]
             have q1 := heap_alloc_new w1 (.cells #[.int .u8 0, .int .i64 (L : Int), .int .i64 (D : Int)] 71)
             have q2 : Below wr.heap.size wr (w1.alloc (.cells #[.int .u8 0, .int .i64 (L : Int), .int .i64 (D : Int)] 71)) := hb1.alloc hb1.size _
             have q3 := owns_below hown q2
             have q4 := own_ne_ge hown hb1.size
             have q0 : w1.heap.size < (w1.alloc (.cells #[.int .u8 0, .int .i64 (L : Int), .int .i64 (D : Int)] 71)).heap.size := by simp
             have q8 := hb1.size
             generalize w1.heap.size = p at *
             generalize w1.alloc (.cells #[.int .u8 0, .int .i64 (L : Int), .int .i64 (D : Int)] 71) = w2 at *
             have q6 := cell3_1 q1
             have r1 : Hid (w2.heap[p]? = some (.cells #[.int .u8 0, .int .i64 (L : Int), .int .i64 (D : Int)] 71 (0, 0))) := q1
             have r3 : Hid (w2.ownsRow P 71 3 u3 n (cellsL acc)) := q3
             have r2 : Hid (Below wr.heap.size wr w2) := q2
             clear q1 q2 q3 hb1 hown)
          | (refine wpList_load27 rfl (.tmp 5) rfl p rfl _ _ _ r1.out ?_)
          | (at_builtin; refine wpList_pushSt rfl 68 71 (.tmp 21) (.tmp 23) rfl Tryd.underlying24 Tryd.info27 P _ n _ rfl r3.out _ _ _ ⟨rfl, rfl, rfl⟩ w2.heap.size (by simp) rfl (by omega) (by omega) ?_
             intro g2 cap2 w5 ho5 hf5 hat5 hb5
             have s1 : w5.cell? ⟨p, 1, none⟩ = some (.int .i64 (L : Int)) := cell3_1 ((hf5.block p q0 (by simp) q4.symm).trans r1.out)))
        go_roundw
        case rel =>
          refine ⟨k + L, n + 1, f - 1, acc ++ [⟨0, L, D⟩], by omega, by omega, by go_num, ?_, ?_, ?_, ?_, ?_⟩
          · show _ = _; simp [HAL.out]
          · show _ = _; rw [HST.out]; simp
          · show _ ≤ _; have := HF.out; omega
          · rw [cellsL_append, cellsL_one]; exact ho5
          · exact (hbl.trans (r2.out.mono hPw)).trans hb5
        case measure => simp [intOf]; omega
    · have hkk : k = N := by omega
      subst hkk
      go_wp2
      go_ret
      have e := HSP.out
      rw [runL_end b f k (by rw [← HN.out]; exact Nat.le_refl _), List.append_nil] at e
      have hn := HAL.out
      subst hn
      exact ⟨_, rfl, by rw [← HP.out, e]; exact hown, by rw [← HP.out]; exact hbl⟩
end Go.Proofs.YtdokpimhhkbdbaaDoor.Lz

set_option linter.unusedSimpArgs false
set_option linter.unusedVariables false
namespace Go.Proofs.YtdokpimhhkbdbaaDoor.Lz
open Go.RowKit

/-- The slice v reads as the steps l. -/
def Tells (w : World) (v : Value) (l : List St) : Prop :=
  (v = .slice none 0 0 ∧ l.length = 0) ∨ ∃ g o cap, v = .slice (some ⟨g, o, none⟩) l.length cap ∧ ∀ j u, (cellsL l)[j]? = some u → w.cell? ⟨g, o + j, none⟩ = some u

theorem Tells.old {w w' : World} {v : Value} {l : List St} (h : Tells w v l) (hb : Below w.heap.size w w') : Tells w' v l := by
  rcases h with h | ⟨g, o, cap, h1, h3⟩
  · exact .inl h
  · exact .inr ⟨g, o, cap, h1, fun j u hu => cell_old hb (h3 j u hu)⟩

theorem tells_own {w : World} {B T : Nat} {v : Value} {l : List St} (h : Steps B T w v l) : Tells w v l := by
  have h0 := h
  rcases h.2 with ⟨rfl, hn⟩ | ⟨g, cap, cur, rfl, _, hg, hn, _⟩
  · exact .inl ⟨rfl, hn⟩
  · refine .inr ⟨g, 0, cap, rfl, fun j u hu => ?_⟩
    have := h0.cells (g := g) rfl j u hu
    rw [Addr.add_mid] at this
    exact this

def nthS (l : List St) (k : Nat) : St := l.getD k ⟨0, 0, 0⟩

theorem Tells.at {w : World} {v : Value} {l : List St} (h : Tells w v l) (hn : 0 < l.length) : ∃ g o cap, v = .slice (some ⟨g, o, none⟩) l.length cap ∧ ∀ k, k < l.length → w.cell? ⟨g, o + k * 3, none⟩ = some (.int .u8 ((nthS l k).b : Int)) ∧ w.cell? ⟨g, o + k * 3 + 1, none⟩ = some (.int .i64 (nthS l k).l) ∧ w.cell? ⟨g, o + k * 3 + 2, none⟩ = some (.int .i64 (nthS l k).d) := by
  rcases h with ⟨_, h⟩ | ⟨g, o, cap, h1, h3⟩
  · omega
  · refine ⟨g, o, cap, h1, fun k hk => ⟨?_, ?_, ?_⟩⟩
    · have := h3 (3 * k) _ ((cellsL_at l k 0 hk (by omega)).trans rfl)
      rw [Nat.mul_comm] at this; exact this
    · have := h3 (3 * k + 1) _ ((cellsL_at l k 1 hk (by omega)).trans rfl)
      rw [Nat.mul_comm, ← Nat.add_assoc] at this; exact this
    · have := h3 (3 * k + 2) _ ((cellsL_at l k 2 hk (by omega)).trans rfl)
      rw [Nat.mul_comm, ← Nat.add_assoc] at this; exact this

theorem Tells.len {w : World} {v : Value} {l : List St} (h : Tells w v l) : ∃ ao cap, v = .slice ao l.length cap := by
  rcases h with ⟨h, h'⟩ | ⟨g, o, cap, h1, _⟩
  · exact ⟨none, 0, by rw [h, h']⟩
  · exact ⟨_, _, h1⟩

end Go.Proofs.YtdokpimhhkbdbaaDoor.Lz

set_option linter.unusedSimpArgs false
set_option linter.unusedVariables false
namespace Go.Proofs.YtdokpimhhkbdbaaDoor.Lz
open Go.RowKit

/-- How many digits are behind the c-th code, if m codes in a row have as many. -/
def ladN (m c : Nat) : Nat := c / m - 1
/-- How far above the least one the c-th code begins. -/
def ladB (m c : Nat) : Nat := if c < m then c else (m + c % m) * 2 ^ (c / m - 1)

def lenB (c : Nat) : Nat := if c = 28 then 258 else 3 + ladB 4 c
def lenN (c : Nat) : Nat := if c = 28 then 0 else ladN 4 c
def disB (c : Nat) : Nat := 1 + ladB 2 c
def disN (c : Nat) : Nat := ladN 2 c

/-- The last one of 0 .. k that f does not put above n. -/
def topOf (f : Nat → Nat) (n : Nat) : Nat → Nat
  | 0 => 0
  | k + 1 => if f (k + 1) ≤ n then k + 1 else topOf f n k

theorem topOf_le (f : Nat → Nat) (n k : Nat) : topOf f n k ≤ k := by
  induction k with
  | zero => simp [topOf]
  | succ k ih => unfold topOf; split <;> omega

theorem topOf_base (f : Nat → Nat) (n k : Nat) (h : f 0 ≤ n) : f (topOf f n k) ≤ n := by
  induction k with
  | zero => simpa [topOf] using h
  | succ k ih => unfold topOf; split
                 · assumption
                 · exact ih

theorem topOf_above (f : Nat → Nat) (n k j : Nat) (h1 : topOf f n k < j) (h2 : j ≤ k) : n < f j := by
  induction k with
  | zero => omega
  | succ k ih =>
    unfold topOf at h1
    split at h1
    · omega
    · rcases (show j ≤ k ∨ j = k + 1 by omega) with h | rfl
      · exact ih h1 h
      · omega

theorem topOf_mono (f : Nat → Nat) (n m k : Nat) (h : n ≤ m) : topOf f n k ≤ topOf f m k := by
  induction k with
  | zero => simp [topOf]
  | succ k ih =>
    unfold topOf
    have := topOf_le f n k
    split <;> split <;> omega

theorem lad_small : ∀ c, c < 30 → ladB 4 c < 65536 ∧ ladN 4 c < 16 ∧ ladB 2 c < 65536 ∧ ladN 2 c < 16 := by decide
theorem len_step : ∀ c, c < 28 → c ≠ 27 → lenB (c + 1) = lenB c + 2 ^ lenN c := by decide
theorem len_last : lenB 27 + 2 ^ lenN 27 = 259 := by decide
theorem dis_step : ∀ c, c < 29 → disB (c + 1) = disB c + 2 ^ disN c := by decide
theorem dis_last : disB 29 + 2 ^ disN 29 = 32769 := by decide
theorem len_room : ∀ c, c < 27 → lenB (c + 1) - lenB c = 2 ^ lenN c := by decide

/-- A length's code: what is added is below what its digits hold. -/
theorem len_code (n : Nat) (h3 : 3 ≤ n) (h : n ≤ 258) : topOf lenB n 28 ≤ 28 ∧ lenB (topOf lenB n 28) ≤ n ∧ n - lenB (topOf lenB n 28) < 2 ^ lenN (topOf lenB n 28) := by
  have h1 := topOf_le lenB n 28
  have h2 := topOf_base lenB n 28 (by rw [show lenB 0 = 3 by decide]; exact h3)
  refine ⟨h1, h2, ?_⟩
  have h4 := fun j => topOf_above lenB n 28 j
  generalize topOf lenB n 28 = k at *
  rcases (show k = 28 ∨ k = 27 ∨ k < 27 by omega) with rfl | rfl | hk
  · have e : lenB 28 = 258 := by decide
    have e2 : lenN 28 = 0 := by decide
    rw [e, e2]; omega
  · have := len_last
    omega
  · have := h4 (k + 1) (by omega) (by omega)
    have := len_step k (by omega) (by omega)
    omega

theorem dis_code (n : Nat) (h3 : 1 ≤ n) (h : n ≤ 32768) : topOf disB n 29 ≤ 29 ∧ disB (topOf disB n 29) ≤ n ∧ n - disB (topOf disB n 29) < 2 ^ disN (topOf disB n 29) := by
  have h1 := topOf_le disB n 29
  have h2 := topOf_base disB n 29 (by rw [show disB 0 = 1 by decide]; exact h3)
  refine ⟨h1, h2, ?_⟩
  have h4 := fun j => topOf_above disB n 29 j
  generalize topOf disB n 29 = k at *
  rcases (show k = 29 ∨ k < 29 by omega) with rfl | hk
  · have := dis_last
    omega
  · have := h4 (k + 1) (by omega) (by omega)
    have := dis_step k (by omega)
    omega

theorem lad_pos (m c : Nat) (h : m ≤ c) (hm : 0 < m) : 1 ≤ c / m := (Nat.one_le_div_iff hm).2 h

set_option maxHeartbeats 1000000 in
theorem ladder_walk (c m : Nat) (hm : 0 < m) (hm4 : m ≤ 4) (hc : c < 30) (w : World) :
    Calls Tryd.prog 83 #[.int .i64 c, .int .i64 m] w fun e w' => e = .returned (.tuple #[.int .i64 (ladB m c : Nat), .int .i64 (ladN m c : Nat)]) ∧ w' = w := by
  by_cases h : c < m
  · have e1 : ladB m c = c := by simp [ladB, h]
    have e2 : ladN m c = 0 := by simp [ladN, Nat.div_eq_of_lt h]
    rw [e1, e2]
    go_enter Tryd.func83, Tryd.ntmps83
    go_wp2
    go_ret2
    exact ⟨rfl, rfl⟩
  · have hd := lad_pos m c (by omega) hm
    have hq : (c : Int).tdiv (m : Int) = ((c / m : Nat) : Int) := by simp [Int.tdiv]
    have hr : (c : Int).tmod (m : Int) = ((c % m : Nat) : Int) := by simp [Int.tmod]
    have hdl : c / m < 30 := Nat.lt_of_le_of_lt (Nat.div_le_self c m) hc
    have hrl : c % m < m := Nat.mod_lt _ hm
    have hm0 : ((m : Int) == 0) = false := by simp; omega
    have hs : 0 ≤ ((c / m : Nat) : Int) - 1 := by omega
    go_enter Tryd.func83, Tryd.ntmps83
    go_wp2
    go_ret2
    have hp : 2 ^ (c / m - 1) ≤ 536870912 := Nat.le_trans (Nat.pow_le_pow_right (by decide) (by omega : c / m - 1 ≤ 29)) (by decide)
    have hmul : (m + c % m) * 2 ^ (c / m - 1) ≤ 8 * 536870912 := Nat.mul_le_mul (by omega) hp
    have e1 : ladB m c = (m + c % m) * 2 ^ (c / m - 1) := by simp [ladB, h]
    have e2 : wrap64 (((m : Int) + (c : Int) % (m : Int)) * 2 ^ (c / m - 1)) = ((ladB m c : Nat) : Int) := by
      rw [e1]
      have : ((m : Int) + (c : Int) % (m : Int)) * 2 ^ (c / m - 1) = (((m + c % m) * 2 ^ (c / m - 1) : Nat) : Int) := by push_cast; rfl
      rw [this]
      generalize (m + c % m) * 2 ^ (c / m - 1) = z at hmul ⊢
      unfold wrap64
      omega
    have e3 : (c : Int) / (m : Int) - 1 = ((ladN m c : Nat) : Int) := by
      unfold ladN
      have : ((c / m : Nat) : Int) = (c : Int) / (m : Int) := by simp
      omega
    refine ⟨?_, rfl⟩
    show Ending.returned (.tuple #[.int .i64 (wrap64 (((m : Int) + (c : Int) % (m : Int)) * 2 ^ (c / m - 1))), .int .i64 ((c : Int) / (m : Int) - 1)]) = _
    rw [e2, e3]

theorem lad4 (c : Nat) (hc : c < 30) : Hid (∀ w, Calls Tryd.prog 83 #[.int .i64 c, .int .i64 4] w fun e w' => e = .returned (.tuple #[.int .i64 (ladB 4 c : Nat), .int .i64 (ladN 4 c : Nat)]) ∧ w' = w) := fun w => ladder_walk c 4 (by decide) (by decide) hc w
theorem lad2 (c : Nat) (hc : c < 30) : Hid (∀ w, Calls Tryd.prog 83 #[.int .i64 c, .int .i64 2] w fun e w' => e = .returned (.tuple #[.int .i64 (ladB 2 c : Nat), .int .i64 (ladN 2 c : Nat)]) ∧ w' = w) := fun w => ladder_walk c 2 (by decide) (by decide) hc w

theorem lenOf_walk (c : Nat) (C : Int) (hC : C = 257 + c) (hc : c ≤ 28) (w : World) :
    Calls Tryd.prog 71 #[.int .i64 C] w fun e w' => e = .returned (.tuple #[.int .i64 (lenB c : Nat), .int .i64 (lenN c : Nat), .bool true]) ∧ w' = w := by
  subst hC
  by_cases h : c = 28
  · subst h
    go_enter Tryd.func71, Tryd.ntmps71
    go_wp2
    go_ret3
    exact ⟨rfl, rfl⟩
  · have hl := lad4 c (by omega)
    have hb := lad_small c (by omega)
    have e1 : lenB c = 3 + ladB 4 c := by simp [lenB, h]
    have e2 : lenN c = ladN 4 c := by simp [lenN, h]
    rw [e1, e2]
    have hx : ((257 : Int) + c == 285) = false := by simp; omega
    have hy : (257 : Int) + c - 257 = c := by omega
    go_enter Tryd.func71, Tryd.ntmps71
    go_wp2_with (go_at_call 83; (with_reducible refine (hl.out _).mono ?_); rintro e w' ⟨rfl, hx⟩; have hx := hx.symm; subst hx)
    go_ret3
    exact ⟨rfl, rfl⟩

theorem lenOf_none (C : Int) (hC : C < 257 ∨ 285 < C) (w : World) :
    Calls Tryd.prog 71 #[.int .i64 C] w fun e w' => e = .returned (.tuple #[.int .i64 0, .int .i64 0, .bool false]) ∧ w' = w := by
  rcases hC with h | h
  all_goals
    go_enter Tryd.func71, Tryd.ntmps71
    go_wp2
    go_ret3
    exact ⟨rfl, rfl⟩

theorem disOf_walk (c : Nat) (hc : c ≤ 29) (w : World) :
    Calls Tryd.prog 72 #[.int .i64 c] w fun e w' => e = .returned (.tuple #[.int .i64 (disB c : Nat), .int .i64 (disN c : Nat), .bool true]) ∧ w' = w := by
  have hl := lad2 c (by omega)
  have hb := lad_small c (by omega)
  have e1 : disB c = 1 + ladB 2 c := rfl
  have e2 : disN c = ladN 2 c := rfl
  rw [e1, e2]
  go_enter Tryd.func72, Tryd.ntmps72
  go_wp2_with (go_at_call 83; (with_reducible refine (hl.out _).mono ?_); rintro e w' ⟨rfl, hx⟩; have hx := hx.symm; subst hx)
  go_ret3
  exact ⟨rfl, rfl⟩

theorem disOf_none (C : Int) (hC : C < 0 ∨ 29 < C) (w : World) :
    Calls Tryd.prog 72 #[.int .i64 C] w fun e w' => e = .returned (.tuple #[.int .i64 0, .int .i64 0, .bool false]) ∧ w' = w := by
  rcases hC with h | h
  all_goals
    go_enter Tryd.func72, Tryd.ntmps72
    go_wp2
    go_ret3
    exact ⟨rfl, rfl⟩
end Go.Proofs.YtdokpimhhkbdbaaDoor.Lz

set_option linter.unusedSimpArgs false
set_option linter.unusedVariables false
namespace Go.Proofs.YtdokpimhhkbdbaaDoor.Lz
open Go.RowKit

theorem topOf_stop (f : Nat → Nat) (n k : Nat) (h0 : f 0 ≤ n) (h : f k ≤ n) : topOf f n k = k := by
  cases k with
  | zero => rfl
  | succ k => simp [topOf, h]

theorem topOf_down (f : Nat → Nat) (n k : Nat) (h : ¬ f (k + 1) ≤ n) : topOf f n (k + 1) = topOf f n k := by simp [topOf, h]

theorem ret_ints3 {a b c a' b' c' : Int} (h1 : a = a') (h2 : b = b') (h3 : c = c') : Ending.returned (.tuple #[.int .i64 a, .int .i64 b, .int .i64 c]) = .returned (.tuple #[.int .i64 a', .int .i64 b', .int .i64 c']) := by rw [h1, h2, h3]

theorem lenB_small : ∀ c, c ≤ 28 → lenB c ≤ 258 ∧ 3 ≤ lenB c := by decide
theorem disB_small : ∀ c, c ≤ 29 → disB c ≤ 32768 ∧ 1 ≤ disB c := by decide
theorem lenB_zero : lenB 0 = 3 := by decide
theorem disB_zero : disB 0 = 1 := by decide


set_option maxHeartbeats 1000000 in
theorem codeOf_len (n : Nat) (hn : lenB 0 ≤ n) (hn2 : n ≤ 40000) (w : World) :
    Calls Tryd.prog 70 #[.int .i64 n, .int .i64 285, .func (.func 71) #[] #[]] w fun e w' => e = .returned (.tuple #[.int .i64 (257 + topOf lenB n 28 : Nat), .int .i64 (n - lenB (topOf lenB n 28) : Nat), .int .i64 (lenN (topOf lenB n 28) : Nat)]) ∧ w' = w := by
  have hof : Hid (∀ (k : Nat) (C : Int) (wx : World), C = ((257 : Int) + k) → k ≤ 28 → Calls Tryd.prog 71 #[.int .i64 C] wx fun e w' => e = .returned (.tuple #[.int .i64 (lenB k : Nat), .int .i64 (lenN k : Nat), .bool true]) ∧ w' = wx) := fun k C wx hC hk => lenOf_walk k C hC hk wx
  obtain ⟨T, hT⟩ : ∃ T, T = topOf lenB n 28 := ⟨_, rfl⟩
  rw [← hT]
  have HT : Hid (T = topOf lenB n 28) := hT
  clear hT
  go_enter Tryd.func70, Tryd.ntmps70
  go_wp2
  go_loopw [6] (fun i wr => ∃ k : Nat, k ≤ 28 ∧ i = .int .i64 ((257 : Int) + k) ∧ Hid (T = topOf lenB n k) ∧ wr = w) (fun i _ => (intOf i).toNat)
  case atStart => exact ⟨28, by omega, rfl, HT, rfl⟩
  case round =>
    obtain ⟨k, hk, rfl, HK, rfl⟩ := hrel
    have hc : Hid (∀ wx, Calls Tryd.prog 71 #[.int .i64 ((257 : Int) + k)] wx fun e w' => e = .returned (.tuple #[.int .i64 (lenB k : Nat), .int .i64 (lenN k : Nat), .bool true]) ∧ w' = wx) := fun wx => hof.out k _ wx rfl hk
    have hs := lenB_small k hk
    by_cases h : lenB k ≤ n
    · have e : T = k := by rw [HK.out]; exact topOf_stop _ _ _ hn h
      have HE : Hid (T = k) := e
      clear e
      go_wp2_with (go_at_call 71; (with_reducible refine (hc.out _).mono ?_); rintro e w' ⟨rfl, hx⟩; have hx := hx.symm; subst hx)
      go_ret3
      exact ⟨ret_ints3 (by have := HE.out; omega) (by rw [HE.out]; omega) (by rw [HE.out]), rfl⟩
    · have hk0 : 0 < k := by
        rcases Nat.eq_zero_or_pos k with rfl | h'
        · exact absurd hn h
        · exact h'
      have HR : Hid (T = topOf lenB n (k - 1)) := by
        show _ = _
        rw [HK.out]
        obtain ⟨j, rfl⟩ : ∃ j, k = j + 1 := ⟨k - 1, by omega⟩
        exact topOf_down _ _ _ h
      go_wp2_with (go_at_call 71; (with_reducible refine (hc.out _).mono ?_); rintro e w' ⟨rfl, hx⟩; have hx := hx.symm; subst hx)
      go_roundw
      case rel => exact ⟨k - 1, by omega, by congr 1; omega, HR, by first | rfl | trivial⟩
      case measure => simp [intOf]; omega

set_option maxHeartbeats 1000000 in
theorem codeOf_dis (n : Nat) (hn : disB 0 ≤ n) (hn2 : n ≤ 40000) (w : World) :
    Calls Tryd.prog 70 #[.int .i64 n, .int .i64 29, .func (.func 72) #[] #[]] w fun e w' => e = .returned (.tuple #[.int .i64 (topOf disB n 29 : Nat), .int .i64 (n - disB (topOf disB n 29) : Nat), .int .i64 (disN (topOf disB n 29) : Nat)]) ∧ w' = w := by
  have hof : Hid (∀ (k : Nat) (C : Int) (wx : World), C = (k : Int) → k ≤ 29 → Calls Tryd.prog 72 #[.int .i64 C] wx fun e w' => e = .returned (.tuple #[.int .i64 (disB k : Nat), .int .i64 (disN k : Nat), .bool true]) ∧ w' = wx) := fun k C wx hC hk => by
    subst hC
    exact disOf_walk k hk wx
  obtain ⟨T, hT⟩ : ∃ T, T = topOf disB n 29 := ⟨_, rfl⟩
  rw [← hT]
  have HT : Hid (T = topOf disB n 29) := hT
  clear hT
  go_enter Tryd.func70, Tryd.ntmps70
  go_wp2
  go_loopw [6] (fun i wr => ∃ k : Nat, k ≤ 29 ∧ i = .int .i64 (k : Int) ∧ Hid (T = topOf disB n k) ∧ wr = w) (fun i _ => (intOf i).toNat)
  case atStart => exact ⟨29, by omega, rfl, HT, rfl⟩
  case round =>
    obtain ⟨k, hk, rfl, HK, rfl⟩ := hrel
    have hc : Hid (∀ wx, Calls Tryd.prog 72 #[.int .i64 (k : Int)] wx fun e w' => e = .returned (.tuple #[.int .i64 (disB k : Nat), .int .i64 (disN k : Nat), .bool true]) ∧ w' = wx) := fun wx => hof.out k _ wx rfl hk
    have hs := disB_small k hk
    by_cases h : disB k ≤ n
    · have e : T = k := by rw [HK.out]; exact topOf_stop _ _ _ hn h
      have HE : Hid (T = k) := e
      clear e
      go_wp2_with (go_at_call 72; (with_reducible refine (hc.out _).mono ?_); rintro e w' ⟨rfl, hx⟩; have hx := hx.symm; subst hx)
      go_ret3
      exact ⟨ret_ints3 (by have := HE.out; omega) (by rw [HE.out]; omega) (by rw [HE.out]), rfl⟩
    · have hk0 : 0 < k := by
        rcases Nat.eq_zero_or_pos k with rfl | h'
        · exact absurd hn h
        · exact h'
      have HR : Hid (T = topOf disB n (k - 1)) := by
        show _ = _
        rw [HK.out]
        obtain ⟨j, rfl⟩ : ∃ j, k = j + 1 := ⟨k - 1, by omega⟩
        exact topOf_down _ _ _ h
      go_wp2_with (go_at_call 72; (with_reducible refine (hc.out _).mono ?_); rintro e w' ⟨rfl, hx⟩; have hx := hx.symm; subst hx)
      go_roundw
      case rel => exact ⟨k - 1, by omega, by congr 1; omega, HR, by first | rfl | trivial⟩
      case measure => simp [intOf]; omega

theorem lenCode_walk (n : Nat) (h3 : 3 ≤ n) (h : n ≤ 258) (w : World) :
    Calls Tryd.prog 56 #[.int .i64 n] w fun e w' => e = .returned (.tuple #[.int .i64 (257 + topOf lenB n 28 : Nat), .int .i64 (n - lenB (topOf lenB n 28) : Nat), .int .i64 (lenN (topOf lenB n 28) : Nat)]) ∧ w' = w := by
  have hc : Hid (∀ wx, Calls Tryd.prog 70 #[.int .i64 n, .int .i64 285, .func (.func 71) #[] #[]] wx fun e w' => e = .returned (.tuple #[.int .i64 (257 + topOf lenB n 28 : Nat), .int .i64 (n - lenB (topOf lenB n 28) : Nat), .int .i64 (lenN (topOf lenB n 28) : Nat)]) ∧ w' = wx) := fun wx => codeOf_len n (by rw [lenB_zero]; exact h3) (by omega) wx
  generalize 257 + topOf lenB n 28 = a at hc ⊢
  generalize n - lenB (topOf lenB n 28) = b at hc ⊢
  generalize lenN (topOf lenB n 28) = c at hc ⊢
  go_enter Tryd.func56, Tryd.ntmps56
  go_wp2_with (go_at_call 70; (with_reducible refine (hc.out _).mono ?_); rintro e w' ⟨rfl, hx⟩; have hx := hx.symm; subst hx)
  go_ret3
  exact ⟨rfl, rfl⟩

theorem lenCode_none (n : Int) (h : n < 3 ∨ 258 < n) (w : World) :
    Calls Tryd.prog 56 #[.int .i64 n] w fun e w' => e = .returned (.tuple #[.int .i64 0, .int .i64 0, .int .i64 0]) ∧ w' = w := by
  rcases h with h | h
  all_goals
    go_enter Tryd.func56, Tryd.ntmps56
    go_wp2
    go_ret3
    exact ⟨rfl, rfl⟩

theorem disCode_walk (n : Nat) (h3 : 1 ≤ n) (h : n ≤ 32768) (w : World) :
    Calls Tryd.prog 57 #[.int .i64 n] w fun e w' => e = .returned (.tuple #[.int .i64 (topOf disB n 29 : Nat), .int .i64 (n - disB (topOf disB n 29) : Nat), .int .i64 (disN (topOf disB n 29) : Nat)]) ∧ w' = w := by
  have hc : Hid (∀ wx, Calls Tryd.prog 70 #[.int .i64 n, .int .i64 29, .func (.func 72) #[] #[]] wx fun e w' => e = .returned (.tuple #[.int .i64 (topOf disB n 29 : Nat), .int .i64 (n - disB (topOf disB n 29) : Nat), .int .i64 (disN (topOf disB n 29) : Nat)]) ∧ w' = wx) := fun wx => codeOf_dis n (by rw [disB_zero]; exact h3) (by omega) wx
  generalize topOf disB n 29 = a at hc ⊢
  generalize n - disB (topOf disB n 29) = b at hc ⊢
  generalize disN (topOf disB n 29) = c at hc ⊢
  go_enter Tryd.func57, Tryd.ntmps57
  go_wp2_with (go_at_call 70; (with_reducible refine (hc.out _).mono ?_); rintro e w' ⟨rfl, hx⟩; have hx := hx.symm; subst hx)
  go_ret3
  exact ⟨rfl, rfl⟩

theorem disCode_none (n : Int) (h : n < 1 ∨ 32768 < n) (w : World) :
    Calls Tryd.prog 57 #[.int .i64 n] w fun e w' => e = .returned (.tuple #[.int .i64 0, .int .i64 0, .int .i64 0]) ∧ w' = w := by
  rcases h with h | h
  all_goals
    go_enter Tryd.func57, Tryd.ntmps57
    go_wp2
    go_ret3
    exact ⟨rfl, rfl⟩
end Go.Proofs.YtdokpimhhkbdbaaDoor.Lz
