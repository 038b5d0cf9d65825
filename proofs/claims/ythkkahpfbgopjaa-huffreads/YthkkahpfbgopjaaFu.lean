/-
  florilegiumlaw03.Full.
-/
import Derived.Test.YthkkahpfbgopjaaFm
import Derived.Test.YthkkahpfbgopjaaPu
set_option linter.unusedSimpArgs false
set_option linter.unusedVariables false
namespace Go.Proofs.Ythkkahpfbgopjaa
open Go.RowKit

theorem nat_at {w : World} {B g cap : Nat} {ls : List Nat} {n : Nat} (hn : ls.length = n) (h : w.ownsRow B 3 1 (.slice (some ⟨g, 0, none⟩) n cap) n (ls.map natV)) (r : Nat) (hr : r < n) : w.cell? ⟨g, r, none⟩ = some (.int .i64 (nth ls r : Nat)) := by
  rw [h.cellAt r (by omega)]
  have : r < ls.length := by omega
  simp [this, natV, nth]

theorem owns_cast {w : World} {B : Nat} {v : Value} {n m : Nat} {xs ys : List Value} (h : w.ownsRow B 3 1 v n xs) (hn : n = m) (hx : xs = ys) : w.ownsRow B 3 1 v m ys := by
  subst hn hx; exact h

theorem map_set_nat (ls : List Nat) (r y : Nat) : (ls.map natV).set r (.int .i64 (y : Int)) = (ls.set r y).map natV := by
  rw [List.map_set]; rfl

set_option maxRecDepth 100000 in
set_option maxHeartbeats 4000000 in
theorem full_walk (w : World) (u v : Value) (zs gs : List Int) (hu : Ints w u zs) (hv : Ints w v gs) (hlz : zs.length ≤ 140737488355328) (hlg : gs.length ≤ 140737488355328) :
    Calls Try.prog 21 #[u, v] w fun e w' => ∃ lv ls, e = .returned lv ∧ w'.ownsRow w.heap.size 3 1 lv ls.length (ls.map natV) ∧ Below w.heap.size w w' ∧ Good ls := by
  obtain ⟨ua, uc, rfl, hu2, hu3, hu4⟩ := hu
  obtain ⟨va, vc, rfl, hv2, hv3, hv4⟩ := hv
  obtain ⟨M, hM⟩ : ∃ M, M = zs.length := ⟨_, rfl⟩
  obtain ⟨G, hG⟩ : ∃ G, G = gs.length := ⟨_, rfl⟩
  rw [← hM] at hu2 hu4 hlz ⊢
  rw [← hG] at hv2 hv4 hlg ⊢
  clear hM hG
  obtain ⟨B, hB⟩ : ∃ B, B = w.heap.size := ⟨_, rfl⟩
  have hst : (w.alloc (.cells #[.int .i64 0] 3)).ownsRow w.heap.size 3 1 (.slice (some ⟨w.heap.size, 0, none⟩) 1 1) 1 [natV 0] := ⟨rfl, .inr ⟨w.heap.size, 1, _, rfl, Nat.le_refl _, heap_alloc_new w _, Nat.le_refl _, by decide, rfl, rfl⟩⟩
  have hsb : Below w.heap.size w (w.alloc (.cells #[.int .i64 0] 3)) := (Below.refl _ w).alloc (Nat.le_refl _) _
  go_enter Try.func21, Try.ntmps21
  go_wp2
  rw [← hB] at hst hsb ⊢
  have HB : Hid (B = w.heap.size) := hB
  clear hB
  go_loopw [5, 6] (fun l i wr => ∃ (k : Nat) (ls : List Nat) (n g cap : Nat), k ≤ 40 ∧ k ≤ M ∧ i = .int .i64 (k : Int) ∧ l = .slice (some ⟨g, 0, none⟩) n cap ∧ Hid (ls.length = n) ∧ Hid (Inv ls k) ∧ wr.ownsRow B 3 1 (.slice (some ⟨g, 0, none⟩) n cap) n (ls.map natV) ∧ Below B w wr) (fun _ i _ => 40 - (intOf i).toNat)
  case atStart => exact ⟨0, [0], 1, B, 1, by omega, by omega, rfl, rfl, rfl, Inv.start, hst, hsb⟩
  case round =>
    obtain ⟨k, ls, n, g, cap, hk, hkM, rfl, rfl, HN, HI, ho, hb⟩ := hrel
    clear hst hsb
    have hn0 : 0 < n := by have := HI.out.pos; have := HN.out; omega
    have hn41 : n ≤ 41 := by have := HI.out.len; have := HN.out; omega
    have hBw : B ≤ wr.heap.size := by have h1 := hb.size; have := HB.out; omega
    by_cases hin : k < M ∧ k < 40
    · obtain ⟨hin1, hin2⟩ := hin
      obtain ⟨A, rfl⟩ : ∃ A, ua = some A := by
        cases ua with
        | none => have := hu3 rfl; omega
        | some A => exact ⟨A, rfl⟩
      have hc := cell_old (HB.out ▸ hb) (hu4 A rfl k hin1)
      obtain ⟨x, hx⟩ : ∃ x, x = zs.getD k 0 := ⟨_, rfl⟩
      rw [← hx] at hc
      clear hx
      obtain ⟨r, hr, hwi⟩ := within_lit x (n : Int) n hn0 rfl (by omega)
      have hcl := nat_at HN.out ho r hr
      have hy15 : nth ls r ≤ 15 := nth_le15 HI.out.le r
      obtain ⟨y, hy⟩ : ∃ y, y = nth ls r := ⟨_, rfl⟩
      rw [← hy] at hcl hy15
      have HY : Hid (nth ls r = y) := hy.symm
      have hz := ho.frozenAt r
      clear hy
      by_cases hlt : y < 15
      · have HO : Hid ((wr.setCell ⟨g, r, none⟩ (.int .i64 ((y : Int) + 1))).ownsRow B 3 1 (.slice (some ⟨g, 0, none⟩) n cap) n ((ls.set r (y + 1)).map natV)) := by
          have := (ho.stored r (.int .i64 (((y + 1 : Nat)) : Int))).1
          rw [map_set_nat] at this
          exact this
        have HSB : Hid (Below B w (wr.setCell ⟨g, r, none⟩ (.int .i64 ((y : Int) + 1)))) := hb.setCell (p := ⟨g, r, none⟩) ((ho.lt g rfl).1) _
        have HI2 : Hid (Inv (ls.set r (y + 1) ++ [y + 1]) (k + 1)) := HI.out.split (by rw [HN.out]; exact hr) HY.out hlt
        have HN2 : Hid ((ls.set r (y + 1) ++ [y + 1]).length = n + 1) := by show _ = _; simp [HN.out]
        go_wp2_with (first
          | (go_at_call 10; (with_reducible refine (hwi.out _).mono ?_); rintro e wx ⟨rfl, hx⟩; have hx := hx.symm; subst hx)
          | (at_builtin; refine wpList_push rfl (.tmp 41) (.tmp 46) rfl B (.slice (some ⟨g, 0, none⟩) n cap) n _ rfl HO.out ((y : Int) + 1) wr.heap.size (by simp) rfl (by omega) (by simpa using hBw) ?_; intro g2 cap2 w2 ho2 hf2 hat2 hb2))
        go_roundw
        case rel =>
          refine ⟨k + 1, _, n + 1, g2, cap2, by omega, by omega, by go_num, rfl, HN2.out, HI2.out, ?_, HSB.out.trans hb2⟩
          rw [List.map_append]
          exact ho2
        case measure => simp [intOf]; omega
      · go_wp2_with (first
          | (go_at_call 10; (with_reducible refine (hwi.out _).mono ?_); rintro e wx ⟨rfl, hx⟩; have hx := hx.symm; subst hx))
        go_roundw
        case rel => exact ⟨k + 1, ls, n, g, cap, by omega, by omega, by go_num, rfl, HN.out, HI.out.keep, ho, hb⟩
        case measure => simp [intOf]; omega
    · have hexit : M ≤ k ∨ (k < M ∧ 40 ≤ k) := by omega
      clear hin
      have HK : Hid (k ≤ 40) := hk
      rcases hexit with he | he
      all_goals
        have hL1 : ∃ (W1 : World) (ls1 : List Nat), (n = 1 → W1 = wr.setCell ⟨g, 0, none⟩ (.int .i64 1)) ∧ (2 ≤ n → W1 = wr) ∧ Hid (ls1.length = n) ∧ Hid (Fin1 ls1) ∧ W1.ownsRow B 3 1 (.slice (some ⟨g, 0, none⟩) n cap) n (ls1.map natV) ∧ Below B w W1 := by
          by_cases h1' : n = 1
          · have e := HI.out.one (HN.out.trans h1')
            subst e
            refine ⟨_, [1], fun _ => rfl, fun h => by omega, h1'.symm, fin_one, ?_, hb.setCell (p := ⟨g, 0, none⟩) ((ho.lt g rfl).1) _⟩
            exact (ho.stored 0 (.int .i64 1)).1
          · exact ⟨wr, ls, fun h => by omega, fun _ => rfl, HN, HI.out.fin HK.out (by have := HN.out; omega), ho, hb⟩
        obtain ⟨W1, ls1, hW1a, hW1b, HN1, HF1, hoW, hbW⟩ := hL1
        have hc0 : ∃ u0, wr.cell? ⟨g, 0, none⟩ = some u0 := ⟨_, nat_at HN.out ho 0 hn0⟩
        obtain ⟨u0, hu0⟩ := hc0
        have hz0 := ho.frozenAt 0
        have HWA : Hid (n = 1 → W1 = wr.setCell ⟨g, 0, none⟩ (.int .i64 1)) := hW1a
        have HWB : Hid (2 ≤ n → W1 = wr) := hW1b
        have hn1' : ∃ b, ((n : Int) == 1) = b ∧ Hid (n = 1 ∨ 2 ≤ n) ∧ (b = true → n = 1) ∧ (b = false → 2 ≤ n) := by
          by_cases h : n = 1
          · exact ⟨true, by simp [h], .inl h, fun _ => h, fun h' => by cases h'⟩
          · exact ⟨false, by simp; omega, .inr (by omega), fun h' => (by cases h'), fun _ => by omega⟩
        have HOW : Hid (W1.ownsRow B 3 1 (.slice (some ⟨g, 0, none⟩) n cap) n (ls1.map natV)) := hoW
        have HLT : Hid (g < W1.heap.size) := (hoW.lt g rfl).2
        have HBW : Hid (Below B w W1) := hbW
        have hBW1 : B ≤ W1.heap.size := by have h2 := hbW.size; have := HB.out; omega
        obtain ⟨bn, hbn, -, hbt, hbf⟩ := hn1'
        have HBT : Hid (bn = true → n = 1) := hbt
        have HBF : Hid (bn = false → 2 ≤ n) := hbf
        clear hW1a hW1b hoW ho hb HI HN hbt hbf hbW
        cases bn
        all_goals
          go_wp2
          clear he
          try generalize decide ((k : Int) < 40) = bb
          first
          | rw [← HWA.out (HBT.out (by first | rfl | trivial))]
          | (have hWe := HWB.out (HBF.out (by first | rfl | trivial))
             rw [← hWe]
             clear hWe)
          clear hu0 hz0 HWA HWB HBT HBF hbn
          obtain ⟨C, hC⟩ : ∃ C, C = W1.heap.size := ⟨_, rfl⟩
          have HC : Hid (C = W1.heap.size) := hC
          have hstart : W1.ownsRow C 3 1 (.slice none 0 0) 0 [] := World.ownsRow_nil _ _ _ _
          clear hC
          go_loopw [8, 55] (fun o i wy => ∃ (j : Nat) (os : List Nat) (p : Nat), j ≤ n ∧ i = .int .i64 (j : Int) ∧ Hid (os.length = p) ∧ j ≤ p ∧ p ≤ 2 * j ∧ Hid (Outs os (ls1.take j)) ∧ Hid (∀ x ∈ os, x ≤ 15) ∧ wy.ownsRow C 3 1 o p (os.map natV) ∧ Below C W1 wy) (fun _ i _ => n - (intOf i).toNat)
          case atStart => exact ⟨0, [], 0, by omega, rfl, rfl, by omega, by omega, fun m => by simp [cn], fun x hx => by simp at hx, hstart, Below.refl _ _⟩
          case round =>
            obtain ⟨j, os, p, hjn, rfl, HP, hjp, hp2, HU, HX, hoy, hby⟩ := hrel
            clear hstart
            have hCy : C ≤ wr.heap.size := by have h2 := hby.size; have := HC.out; omega
            by_cases hj : j < n
            · have hlj := cell_old (HC.out ▸ hby) (nat_at HN1.out HOW.out j hj)
              obtain ⟨x, hx⟩ : ∃ x, x = nth ls1 j := ⟨_, rfl⟩
              have hx15 : x ≤ 15 := by rw [hx]; exact nth_le15 HF1.out.le j
              rw [← hx] at hlj
              have HXE : Hid (x = nth ls1 j) := hx
              have HJL : Hid (j < ls1.length) := by show _ < _; rw [HN1.out]; exact hj
              clear hx
              by_cases hjG : j < G
              · obtain ⟨A, rfl⟩ : ∃ A, va = some A := by
                  cases va with
                  | none => have := hv3 rfl; omega
                  | some A => exact ⟨A, rfl⟩
                have hbw : Below B w wr := HBW.out.trans (hby.mono (by have := HC.out; omega))
                have hcg := cell_old (HB.out ▸ hbw) (hv4 A rfl j hjG)
                obtain ⟨y, hy⟩ : ∃ y, y = gs.getD j 0 := ⟨_, rfl⟩
                rw [← hy] at hcg
                clear hy hbw
                obtain ⟨q, hq, hwi⟩ := within_lit y 4 4 (by decide) rfl (by decide)
                go_wp2_with (first
                  | (go_at_call 10; (with_reducible refine (hwi.out _).mono ?_); rintro e wx ⟨rfl, hx⟩; have hx := hx.symm; subst hx))
                go_loopw [8, 11] (fun o d wz => ∃ (t : Nat) (o2 : List Nat) (p2 : Nat), t ≤ 3 ∧ d = .int .i64 (t : Int) ∧ Hid (o2.length = p2) ∧ j ≤ p2 ∧ (p2 ≤ 2 * j ∨ (t ≤ 2 ∧ p2 ≤ 2 * j + 1)) ∧ Hid (Outs o2 (ls1.take j)) ∧ Hid (∀ x ∈ o2, x ≤ 15) ∧ wz.ownsRow C 3 1 o p2 (o2.map natV) ∧ Below C W1 wz) (fun _ d _ => (intOf d).toNat)
                case atStart => exact ⟨q, os, p, by omega, rfl, HP, hjp, .inl hp2, HU, HX, hoy, hby⟩
                case round =>
                  obtain ⟨t, o2, p2, ht, rfl, HP2, hjp2, hp22, HU2, HX2, hoz, hbz⟩ := hrel
                  have hCz : C ≤ wr.heap.size := by have h2 := hbz.size; have := HC.out; omega
                  clear hlj hcg hoy hby
                  by_cases ht2 : 2 < t
                  · go_wp2_with (first
                      | (at_builtin; refine wpList_push rfl (.tmp 73) (.tmp 74) rfl C _ p2 _ rfl hoz 0 wr.heap.size rfl rfl (by omega) hCz ?_; intro g2 cap2 w2 ho2 hf2 hat2 hb2))
                    go_roundw
                    case rel =>
                      refine ⟨t - 1, o2 ++ [0], p2 + 1, by omega, by congr 1; omega, ?_, by omega, .inr ⟨by omega, by omega⟩, HU2.out.zero, ?_, ?_, hbz.trans hb2⟩
                      · show _ = _; simp [HP2.out]
                      · intro z hz
                        rcases List.mem_append.1 hz with h | h
                        · exact HX2.out z h
                        · simp at h; omega
                      · rw [List.map_append]
                        exact ho2
                    case measure => simp [intOf]; omega
                  · go_wp2_with (first
                      | (at_builtin; refine wpList_push rfl (.tmp 76) (.tmp 78) rfl C _ p2 _ rfl hoz (x : Int) wr.heap.size rfl rfl (by omega) hCz ?_; intro g2 cap2 w2 ho2 hf2 hat2 hb2))
                    go_roundw
                    case rel =>
                      refine ⟨j + 1, o2 ++ [x], p2 + 1, by omega, by go_num, ?_, by omega, by omega, ?_, ?_, ?_, hbz.trans hb2⟩
                      · show _ = _; simp [HP2.out]
                      · show Outs _ _; rw [HXE.out]; exact HU2.out.next HJL.out
                      · intro z hz
                        rcases List.mem_append.1 hz with h | h
                        · exact HX2.out z h
                        · simp at h; omega
                      · rw [List.map_append]
                        exact ho2
                    case measure => simp [intOf]; omega
              · go_wp2_with (first
                  | (at_builtin; refine wpList_push rfl (.tmp 76) (.tmp 78) rfl C _ p _ rfl hoy (x : Int) wr.heap.size rfl rfl (by omega) hCy ?_; intro g2 cap2 w2 ho2 hf2 hat2 hb2))
                go_roundw
                case rel =>
                  refine ⟨j + 1, os ++ [x], p + 1, by omega, by go_num, ?_, by omega, by omega, ?_, ?_, ?_, hby.trans hb2⟩
                  · show _ = _; simp [HP.out]
                  · show Outs _ _; rw [HXE.out]; exact HU.out.next HJL.out
                  · intro z hz
                    rcases List.mem_append.1 hz with h | h
                    · exact HX.out z h
                    · simp at h; omega
                  · rw [List.map_append]
                    exact ho2
                case measure => simp [intOf]; omega
            · have hjj : j = n := by omega
              subst hjj
              have e : ls1.take j = ls1 := List.take_of_length_le (by rw [HN1.out]; exact Nat.le_refl _)
              rw [e] at HU
              clear e
              go_wp2
              go_ret
              have hl41 := HF1.out.len
              have hpos := HF1.out.pos
              rw [HN1.out] at hl41 hpos
              have hp := HP.out
              refine ⟨_, os, rfl, ?_, ?_, ⟨by omega, by omega, HX.out, (fits_congr HU.out).2 HF1.out.fits⟩⟩
              · rw [hp, ← HB.out]; exact owns_base3 hoy (by have := HC.out; omega)
              · rw [← HB.out]; exact HBW.out.trans (hby.mono (by have := HC.out; omega))
end Go.Proofs.Ythkkahpfbgopjaa
