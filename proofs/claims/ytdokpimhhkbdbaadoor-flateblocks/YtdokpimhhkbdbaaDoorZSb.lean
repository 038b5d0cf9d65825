/-
  lz.longest.
-/
import Derived.Test.YtdokpimhhkbdbaaDoorZSa
set_option linter.unusedSimpArgs false
set_option linter.unusedVariables false
namespace Go.Proofs.YtdokpimhhkbdbaaDoor.Lz
open Go.RowKit

def stC (b : Nat) (l d : Int) : Array Value := #[.int .u8 b, .int .i64 l, .int .i64 d]
theorem stC_one (b : Nat) (l d : Int) : (stC b l d).all (·.oneCell') = true := by simp [stC, Value.oneCell']
theorem Tryd.under27 : ∃ fs, Tryd.prog.underlying 71 = some (.struct fs) := by
  have h : (match Tryd.prog.underlying 71 with | some (.struct _) => true | _ => false) = true := by kernel_rfl
  split at h
  · rename_i fs e; exact ⟨fs, e⟩
  · cases h

/-- A whole step is loaded. -/
theorem wpList_load27 {ops : Array Oper} {rest : List Oper} {o : Oper} {a : Act} {w : World} {Q : Exit → Act → World → Prop} (hgd : o.guard = none) (x : Operand) (ho : o.op = .load 71 x)
    (g : Nat) (hx : a.eval x = .pointer (some ⟨g, 0, none⟩)) (p q r : Value) (hg : w.heap[g]? = some (.cells #[p, q, r] 71 (0, 0)))
    (h : wpList Tryd.prog ops Q rest (a.put o.dst (.agg #[p, q, r])) w) : wpList Tryd.prog ops Q (o :: rest) a w := by
  obtain ⟨fs, hfs⟩ := Tryd.under27
  exact wpList_load_row hgd 71 x ho g hx 71 #[p, q, r] (0, 0) _ hg hfs rfl Tryd.size27 h

/-- A whole step is the result. -/
theorem ret_cell27 {fn : Func} {p : Tmp} (h : fn.results = #[.cell p 71]) (tmps : Array Value) (w : World) (g : Nat) (x y z : Value)
    (hp : tmps.getD p undef = .pointer (some ⟨g, 0, none⟩)) (hg : w.heap[g]? = some (.cells #[x, y, z] 71 (0, 0))) : (results fn tmps).run Tryd.prog w = .ok (.agg #[x, y, z]) w := by
  obtain ⟨fs, hfs⟩ := Tryd.under27
  exact results_cell_row h tmps w g 71 #[x, y, z] (0, 0) _ hp hg hfs rfl Tryd.size27

theorem lt_of_block {w : World} {b : Nat} {o : Obj} (h : w.heap[b]? = some o) : b < w.heap.size := (Array.getElem?_eq_some_iff.1 h).1

theorem agg_eq {L D L' D' : Nat} (h : (L, D) = (L', D')) : Ending.returned (.agg #[.int .u8 0, .int .i64 (L : Int), .int .i64 (D : Int)]) = .returned (.agg #[.int .u8 0, .int .i64 (L' : Int), .int .i64 (D' : Int)]) := by
  injection h with h1 h2; rw [h1, h2]

set_option maxRecDepth 100000 in
set_option maxHeartbeats 4000000 in
theorem longest_walk (w : World) (v : Value) (b : List Nat) (a : Nat) (hv : Lies w v b) (hb : b.length ≤ 140737488355328) (ha : a < b.length) :
    Calls Tryd.prog 55 #[v, .int .i64 a] w fun e w' => e = .returned (.agg #[.int .u8 0, .int .i64 ((best b a (min 1024 a)).1 : Nat), .int .i64 ((best b a (min 1024 a)).2 : Nat)]) ∧ Below w.heap.size w w' := by
  obtain ⟨A, cap, hve, -⟩ := hv.at (by omega)
  have HV : Hid (Lies w v b) := hv
  have hal : Hid (∀ (f : Nat) (F : Int) (wx : World), Below w.heap.size w wx → F = f → f < a → Calls Tryd.prog 69 #[v, .int .i64 F, .int .i64 a] wx fun e w' => e = .returned (.int .i64 (lik b f a : Nat)) ∧ Below wx.heap.size wx w') := fun f F wx hbx hF hf => by
    subst hF; exact alike_walk wx v b f a (hv.old hbx) hb hf ha
  subst hve
  obtain ⟨N, hN⟩ : ∃ N, N = b.length := ⟨_, rfl⟩
  rw [← hN] at hb ha hal HV ⊢
  have HN : Hid (N = b.length) := hN
  clear hN hv
  obtain ⟨P, hP⟩ : ∃ P, P = w.heap.size := ⟨_, rfl⟩
  have hw0 : Below P w ((w.alloc (.cells #[.int .u8 0, .int .i64 0, .int .i64 0] 71)).alloc (.cells #[.int .u8 0, .int .i64 0, .int .i64 0] 71)) := by
    rw [hP]; exact ((Below.refl _ w).alloc (Nat.le_refl _) _).alloc (by simp) _
  have hp1 : ((w.alloc (.cells #[.int .u8 0, .int .i64 0, .int .i64 0] 71)).alloc (.cells #[.int .u8 0, .int .i64 0, .int .i64 0] 71)).heap[P + 1]? = some (.cells #[.int .u8 0, .int .i64 0, .int .i64 0] 71 (0, 0)) := by
    have := heap_alloc_new (w.alloc (.cells #[.int .u8 0, .int .i64 0, .int .i64 0] 71)) (.cells #[.int .u8 0, .int .i64 0, .int .i64 0] 71)
    simpa [hP] using this
  have hp0 : ((w.alloc (.cells #[.int .u8 0, .int .i64 0, .int .i64 0] 71)).alloc (.cells #[.int .u8 0, .int .i64 0, .int .i64 0] 71)).heap[P]? = some (.cells #[.int .u8 0, .int .i64 0, .int .i64 0] 71 (0, 0)) := by
    rw [hP, Below.heap_alloc _ _ _ (by simp)]
    exact heap_alloc_new w _
  have hM : ∃ M : Nat, M = min 258 (N - a) ∧ ((258 ≤ (N : Int) - a ∧ (M : Int) = 258) ∨ ((N : Int) - a < 258 ∧ (M : Int) = (N : Int) - a)) := ⟨_, rfl, by omega⟩
  obtain ⟨M, hM1, hM2⟩ := hM
  have HM : Hid (M = min 258 (N - a)) := hM1
  have HA : Hid (a ≤ b.length) := by show _ ≤ _; rw [← HN.out]; omega
  clear hM1
  rcases hM2 with ⟨hm, hM⟩ | ⟨hm, hM⟩
  all_goals
    have HMI : Hid ((M : Int) = _) := hM
    go_enter Tryd.func55, Tryd.ntmps55
    go_wp2
    first | rw [← hM] | skip
    rw [← hP]
    clear hm hM
    have HP : Hid (P = w.heap.size) := hP
    rw [← HP.out] at hal
    clear hP
    go_loopw [7] (fun i wr => ∃ k L D : Nat, 1 ≤ k ∧ Hid (k ≤ 1025) ∧ k ≤ a + 1 ∧ L ≤ 258 ∧ i = .int .i64 k ∧ Hid ((L, D) = best b a (k - 1)) ∧ Hid (wr.heap[P + 1]? = some (.cells #[.int .u8 0, .int .i64 (L : Int), .int .i64 (D : Int)] 71 (0, 0))) ∧ Hid (wr.heap[P]? = some (.cells #[.int .u8 0, .int .i64 0, .int .i64 0] 71 (0, 0))) ∧ Below P w wr) (fun i _ => 1025 - (intOf i).toNat)
    case atStart => exact ⟨1, 0, 0, by omega, (by decide : (1 : Nat) ≤ 1025), by omega, by omega, rfl, rfl, hp1, hp0, hw0⟩
    case round =>
      obtain ⟨k, L, D, hk1, HK, hka, hL, rfl, HBe, HP1, HP0, hbl⟩ := hrel
      clear hp1 hp0 hw0
      have hS : ∃ S : Nat, Hid (S = min 1024 a) ∧ ((1024 ≤ (a : Int) ∧ (S : Int) = 1024) ∨ ((a : Int) < 1024 ∧ (S : Int) = (a : Int))) := ⟨_, rfl, by omega⟩
      obtain ⟨S, HS, hS⟩ := hS
      have c1 := cell3_1 HP1.out
      by_cases hlp : k ≤ S ∧ L < M
      · obtain ⟨hkS, hLM⟩ := hlp
        have hLM' : decide ((L : Int) < (M : Int)) = true := by simp; omega
        have hka2 : k ≤ a := by have := HS.out; omega
        have HKS : Hid (k ≤ S) := hkS
        have hSS : (1024 ≤ (a : Int) ∧ decide ((k : Int) ≤ 1024) = true) ∨ ((a : Int) < 1024 ∧ decide ((k : Int) ≤ (a : Int)) = true) := by
          rcases hS with ⟨h1, h2⟩ | ⟨h1, h2⟩
          · exact .inl ⟨h1, by simp; omega⟩
          · exact .inr ⟨h1, by simp; omega⟩
        have HK1 : Hid (k + 1 ≤ 1025) := by show _ ≤ _; have := HS.out; omega
        clear hS hkS
        have hl := hal.out (a - k) ((a : Int) - k) wr hbl (by omega) (by omega)
        obtain ⟨n, hn⟩ : ∃ n, n = lik b (a - k) a := ⟨_, rfl⟩
        have hn2 : n ≤ 258 := by have := lik_le b (a - k) a HA.out; omega
        rw [← hn] at hl
        have HL : Hid (Calls Tryd.prog 69 #[.slice (some A) N cap, .int .i64 ((a : Int) - k), .int .i64 a] wr fun e w' => e = .returned (.int .i64 (n : Int)) ∧ Below wr.heap.size wr w') := hl
        have HNL : Hid (n = lik b (a - k) a) := hn
        clear hl hn
        by_cases hbt : 3 ≤ n ∧ L < n
        · obtain ⟨h3, hLn⟩ := hbt
          have HBe2 : Hid ((n, k) = best b a k) := by
            show _ = _
            obtain ⟨j, rfl⟩ : ∃ j, k = j + 1 := ⟨k - 1, by omega⟩
            simp only [best]
            have e : best b a j = (L, D) := HBe.out.symm
            rw [← HNL.out, e, if_pos ⟨h3, hLn⟩]
          rcases hSS with ⟨hs, hSe⟩ | ⟨hs, hSe⟩
          all_goals
            go_wp2_with (first
              | (go_at_call 69; (with_reducible refine HL.out.mono ?_); rintro e w1 ⟨rfl, hb1⟩
                 have h1 : w1.heap[P + 1]? = _ := (hb1.block (P + 1) (lt_of_block HP1.out)).trans HP1.out
                 have h0 : w1.heap[P]? = _ := (hb1.block P (lt_of_block HP0.out)).trans HP0.out
                 have c2 := cell3_1 h1
                 have H1 : Hid (w1.heap[P + 1]? = _) := h1
                 have H0 : Hid (w1.heap[P]? = _) := h0
                 clear h1 h0)
              | (refine wpList_store_row rfl 71 (.tmp 5) (.tmp 42) rfl (P + 1) #[.int .u8 0, .int .i64 (n : Int), .int .i64 (k : Int)] rfl rfl 71 _ H1.out Tryd.size27 rfl (stC_one 0 n k) ?_))
            go_roundw
            case rel =>
              refine ⟨k + 1, n, k, by omega, HK1, by omega, by omega, by go_num, HBe2, setRow_heap _ _ _ _ _ _ H1.out, ?_, ?_⟩
              · show _ = _
                rw [setRow_other _ _ _ _ (by omega)]; exact H0.out
              · exact below_setRow (hbl.trans (hb1.mono (by have := HP.out; have := hbl.size; omega))) (by omega) _
            case measure => have := HK1.out; simp [intOf]; omega
        · have HBe2 : Hid ((L, D) = best b a k) := by
            show _ = _
            obtain ⟨j, rfl⟩ : ∃ j, k = j + 1 := ⟨k - 1, by omega⟩
            simp only [best]
            have e : best b a j = (L, D) := HBe.out.symm
            rw [← HNL.out, e, if_neg hbt]
          have hbt' : n < 3 ∨ (3 ≤ n ∧ n ≤ L) := by omega
          clear hbt
          rcases hbt' with hbt | hbt
          all_goals
            rcases hSS with ⟨hs, hSe⟩ | ⟨hs, hSe⟩
            all_goals
              go_wp2_with (first
                | (go_at_call 69; (with_reducible refine HL.out.mono ?_); rintro e w1 ⟨rfl, hb1⟩
                   have h1 : w1.heap[P + 1]? = _ := (hb1.block (P + 1) (lt_of_block HP1.out)).trans HP1.out
                   have h0 : w1.heap[P]? = _ := (hb1.block P (lt_of_block HP0.out)).trans HP0.out
                   have c2 := cell3_1 h1
                   have H1 : Hid (w1.heap[P + 1]? = _) := h1
                   have H0 : Hid (w1.heap[P]? = _) := h0
                   clear h1 h0))
              go_roundw
              case rel => exact ⟨k + 1, L, D, by omega, HK1, by omega, by omega, by go_num, HBe2, H1, H0, hbl.trans (hb1.mono (by have := HP.out; have := hbl.size; omega))⟩
              case measure => have := HK1.out; simp [intOf]; omega
      · have HBF : Hid ((L, D) = best b a (min 1024 a)) := by
          show _ = _
          rw [HBe.out, ← HS.out]
          by_cases h : k ≤ S
          · obtain ⟨j, hj⟩ : ∃ j, S = k - 1 + j := ⟨S - (k - 1), by omega⟩
            rw [hj]
            refine (best_full b a HA.out (k - 1) ?_ j).symm
            rw [← HBe.out, ← HN.out, ← HM.out]
            show M ≤ L
            omega
          · have : k - 1 = S := by have := HS.out; have := HK.out; omega
            rw [this]
        have hx : S < k ∨ (k ≤ S ∧ M ≤ L) := by omega
        clear hlp
        have hy : (1024 ≤ (a : Int) ∧ (1024 : Int) < k) ∨ ((a : Int) < 1024 ∧ (a : Int) < k) ∨ (1024 ≤ (a : Int) ∧ (k : Int) ≤ 1024 ∧ (M : Int) ≤ L) ∨ ((a : Int) < 1024 ∧ (k : Int) ≤ a ∧ (M : Int) ≤ L) := by
          rcases hx with h1 | ⟨h1, h2⟩
          · rcases hS with ⟨h3, h4⟩ | ⟨h3, h4⟩
            · exact .inl ⟨h3, by omega⟩
            · exact .inr (.inl ⟨h3, by omega⟩)
          · rcases hS with ⟨h3, h4⟩ | ⟨h3, h4⟩
            · exact .inr (.inr (.inl ⟨h3, by omega, by omega⟩))
            · exact .inr (.inr (.inr ⟨h3, by omega, by omega⟩))
        clear hx hS
        rcases hy with ⟨hs, hx⟩ | ⟨hs, hx⟩ | ⟨hs, hx, hx3⟩ | ⟨hs, hx, hx3⟩
        all_goals
          go_wp2_with (first
            | (refine wpList_load27 rfl (.tmp 5) rfl (P + 1) rfl _ _ _ HP1.out ?_)
            | (refine wpList_store_row rfl 71 (.tmp 4) (.tmp 43) rfl P #[.int .u8 0, .int .i64 (L : Int), .int .i64 (D : Int)] rfl rfl 71 _ HP0.out Tryd.size27 rfl (stC_one 0 L D) ?_))
          try simp only [Exit.inBlock, Exit.then]
          exact bodyPost_ret (v := .agg #[.int .u8 0, .int .i64 (L : Int), .int .i64 (D : Int)]) (ret_cell27 rfl _ _ P _ _ _ rfl (setRow_heap _ _ _ _ _ _ HP0.out)) rfl ⟨agg_eq HBF.out, by rw [← HP.out]; exact below_setRow hbl (Nat.le_refl _) _⟩
end Go.Proofs.YtdokpimhhkbdbaaDoor.Lz
