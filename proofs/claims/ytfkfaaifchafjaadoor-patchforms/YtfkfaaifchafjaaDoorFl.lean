/-
  lines: the whole text, line by line.
-/
import Derived.Test.YtfkfaaifchafjaaDoorFk
set_option linter.unusedSimpArgs false
set_option linter.unusedVariables false
namespace Go.Proofs.YtfkfaaifchafjaaDoor
open Go.RowKit

def LinesP (B : Nat) (s : Txt) (w : World) (R : Nat) (e : Ending) (w' : World) : Prop :=
  ((∃ p rest n, parseM s = (p, 0) ∧ e = .returned (.tuple #[]) ∧ Rd B w' R rest n p) ∨ (∃ m : Nat, m ≠ 0 ∧ m ≤ 1000000 ∧ parseM s = (pat0, m) ∧ e = Pn (m : Int))) ∧ Kp B w w'

theorem lines_bad {B : Nat} {s : Txt} {w w' : World} {R : Nat} (m : Nat) (h0 : m ≠ 0) (h1 : m ≤ 1000000) (h2 : parseM s = (pat0, m)) (h3 : Kp B w w') : LinesP B s w R (Pn (m : Int)) w' := ⟨.inr ⟨m, h0, h1, h2, rfl⟩, h3⟩

/-- where the loop stands -/
structure LS (B : Nat) (s : Txt) (w wr : World) (R : Nat) (tg : Bool) (j : Nat) (rest : Txt) (p : Pat) : Prop where
  rd : Rd B wr R rest (j + 2) p
  par : Par s p (j + 3) rest
  tg : p.2.1 = tg
  ln : p.2.2.2.length = j
  nd : p.2.2.1.length ≤ 100000
  old : Kp B w wr

set_option maxRecDepth 20000 in
set_option maxHeartbeats 8000000 in
theorem lines_any (B : Nat) (w : World) (R : Nat) (s : Txt) (h : Rd B w R s 0 pat0) (hs : s.length ≤ 100000) :
    Calls Tryd.prog 27 #[.pointer (some ⟨R, 0, none⟩)] w (LinesP B s w R) := by
  have n1 : Hid (Calls Tryd.prog 42 #[.pointer (some ⟨R, 0, none⟩)] w fun e w' =>
      ((cutB 10 s).2.2 = true ∧ e = .returned (.string (str (cutB 10 s).1)) ∧ Rd B w' R (cutB 10 s).2.1 1 pat0 ∧ Kp B w w') ∨ ((cutB 10 s).2.2 = false ∧ e = Pn 1 ∧ Kp B w w')) := next_any B w R s 0 pat0 h (by omega) (by omega)
  have HS := mkHid hs
  have HH := mkHid h
  clear h hs
  go_enter Tryd.func27, Tryd.ntmps27
  go_upto_region 1 with (first
    | (go_at_call 42; (with_reducible refine n1.out.mono ?_); rintro e w1 (⟨hc1, rfl, h1, b1⟩ | ⟨hc1, rfl, b1⟩)
       rotate_left
       · exact ⟨rfl, lines_bad 1 (by decide) (by decide) ((Par.start s).stop hc1 (fun _ => by decide)) b1⟩
       have HC1 := mkHid hc1
       have H1 := mkHid h1
       have HB1 := mkHid b1
       clear hc1 h1 b1)
    | (go_at_call 41; (with_reducible refine (first_any B _ R _ 1 pat0 rfl H1.out _ (by have := (cutB_len 10 s).1; have := HS.out; rw [str_size]; omega)).mono ?_); rintro e w2 (⟨q, hq, hq2, rfl, h2, b2⟩ | ⟨hq, rfl, b2⟩)
       rotate_left
       · exact ⟨rfl, lines_bad 1 (by decide) (by decide) ((Par.start s).bad HC1.out hq) (HB1.out.trans b2)⟩
       have HP2 : Hid (Par s q 2 (cutB 10 s).2.1) := (Par.start s).next HC1.out hq
       have HQ2 := mkHid hq2
       have H2 := mkHid h2
       have HB2 := mkHid (HB1.out.trans b2)
       clear hq hq2 h2 b2))
  obtain ⟨r1, hr1⟩ : ∃ r1, r1 = (cutB 10 s).2.1 := ⟨_, rfl⟩
  rw [← hr1] at HP2 H2
  have HL1 := mkHid HP2.out.len
  clear n1 HC1 H1 HB1 hr1
  have n2 : Hid (Calls Tryd.prog 42 #[.pointer (some ⟨R, 0, none⟩)] w2 fun e w' =>
      ((cutB 10 r1).2.2 = true ∧ e = .returned (.string (str (cutB 10 r1).1)) ∧ Rd B w' R (cutB 10 r1).2.1 2 q ∧ Kp B w2 w') ∨ ((cutB 10 r1).2.2 = false ∧ e = Pn 2 ∧ Kp B w2 w')) := next_any B w2 R r1 1 q H2.out (by have := HL1.out; have := HS.out; omega) (by omega)
  go_upto_region 2 with (first
    | (go_at_call 42; (with_reducible refine n2.out.mono ?_); rintro e w3 (⟨hc1, rfl, h1, b1⟩ | ⟨hc1, rfl, b1⟩)
       rotate_left
       · exact ⟨rfl, lines_bad 2 (by decide) (by decide) (HP2.out.stop hc1 (fun _ => by split <;> decide)) (HB2.out.trans b1)⟩
       have HC3 := mkHid hc1
       have H3 := mkHid h1
       have HB3 := mkHid (HB2.out.trans b1)
       clear hc1 h1 b1)
    | (go_at_call 43; (with_reducible refine (needs_any B _ R _ 2 q HQ2.out H3.out _ (by have := (cutB_len 10 r1).1; have := HL1.out; have := HS.out; rw [str_size]; omega)).mono ?_); rintro e w4 (⟨q4, hq, hq2, rfl, h2, b2⟩ | ⟨hq, rfl, b2⟩)
       rotate_left
       · exact ⟨rfl, lines_bad 2 (by decide) (by decide) (HP2.out.bad HC3.out hq) (HB3.out.trans b2)⟩
       have HN4 : Hid (q4.2.2.1.length ≤ 100000) := by
         have := (readM_two_len hq).1
         rw [str_list] at this
         have := (cutB_len 10 r1).1
         have := HL1.out; have := HS.out
         show _ ≤ _
         omega
       have HP4 : Hid (Par s q4 3 (cutB 10 r1).2.1) := HP2.out.next HC3.out hq
       have HQ4 := mkHid hq2
       have H4 := mkHid h2
       have HB4 := mkHid (HB3.out.trans b2)
       clear hq hq2 h2 b2))
  obtain ⟨r2, hr2⟩ : ∃ r2, r2 = (cutB 10 r1).2.1 := ⟨_, rfl⟩
  obtain ⟨tg, htg⟩ : ∃ tg, tg = q4.2.1 := ⟨_, rfl⟩
  rw [← hr2] at HP4 H4
  obtain ⟨lo, hi, hlo, hhi, k0⟩ : ∃ lo hi : Int, lo = (if tg then 0 else 1) ∧ hi = (if tg then 0 else 40) ∧ Hid (∀ w, Calls Tryd.prog 30 #[.bool tg] w fun e w' => e = .returned (.tuple #[.int .i64 lo, .int .i64 hi]) ∧ w' = w) := ⟨_, _, rfl, rfl, counts_walk tg⟩
  have HLO := mkHid hlo
  have HHI := mkHid hhi
  have c3 : w4.cell? ⟨R, 3, none⟩ = some (.bool tg) := by rw [htg]; exact H4.out.cells.2.2.2.1
  have HLS : Hid (LS B s w w4 R tg 0 r2 q4) := ⟨H4.out, HP4.out, htg.symm, by rw [HQ4.out]; rfl, HN4.out, HB4.out⟩
  clear n2 HP2 HQ2 H2 HB2 HL1 HC3 H3 HB3 hr2 htg H4 HQ4 HB4 HN4 HP4 hlo hhi
  go_wp2_with (first
    | (go_at_call 30; (with_reducible refine (k0.out _).mono ?_); rintro e w5 ⟨rfl, rfl⟩))
  clear c3 k0
  go_loopw [4] (fun i wr => ∃ (j : Nat) (rest : Txt) (p : Pat), i = .int .i64 j ∧ Hid (LS B s w wr R tg j rest p)) (fun i _ => s.length + 10 - (intOf i).toNat)
  case atStart => exact ⟨0, r2, q4, rfl, HLS⟩
  case round =>
    obtain ⟨j, rest, p, rfl, HL⟩ := hrel
    clear HLS
    obtain ⟨c0, c1, -, -, -⟩ := HL.out.rd.cells
    obtain ⟨t, ht⟩ : ∃ t, t = str rest := ⟨_, rfl⟩
    rw [← ht] at c0
    by_cases hex : ¬ (j : Int) < lo ∧ rest = []
    · obtain ⟨hjl, hre⟩ := hex
      have he : t.toList = [] := by rw [ht, hre, ByteArray.toList_eq]; rfl
      have HJ := mkHid hjl
      have HRE := mkHid hre
      clear ht hre
      go_wp2
      go_end0
      refine ⟨.inl ⟨p, rest, j + 2, ?_, rfl, HL.out.rd⟩, HL.out.old⟩
      have hp := HL.out.par
      rw [HRE.out] at hp
      refine hp.fin ?_
      rw [HL.out.tg]
      have h1 := HJ.out
      rw [HLO.out] at h1
      cases tg <;> simp at h1 ⊢ <;> omega
    · have hcond : (j : Int) < lo ∨ rest ≠ [] := by
        by_cases h1 : (j : Int) < lo
        · exact .inl h1
        · exact .inr (fun h2 => hex ⟨h1, h2⟩)
      have HCOND := mkHid hcond
      have hpl := HL.out.par.len
      have hjb : j + 3 ≤ 1000000 := by have := HS.out; omega
      have n3 : Hid (Calls Tryd.prog 42 #[.pointer (some ⟨R, 0, none⟩)] wr fun e w' =>
          ((cutB 10 rest).2.2 = true ∧ e = .returned (.string (str (cutB 10 rest).1)) ∧ Rd B w' R (cutB 10 rest).2.1 (j + 3) p ∧ Kp B wr w') ∨ ((cutB 10 rest).2.2 = false ∧ e = Pn ((j + 3 : Nat) : Int) ∧ Kp B wr w')) :=
        next_any B wr R rest (j + 2) p HL.out.rd (by have := HS.out; omega) (by omega)
      obtain ⟨x, hx⟩ : ∃ x, x = (cutB 10 rest).1 := ⟨_, rfl⟩
      have hxl : x.length ≤ 100000 := by have := (cutB_len 10 rest).1; have := HS.out; rw [hx]; omega
      rw [← hx] at n3
      have HX := mkHid hx
      have HXL := mkHid hxl
      have HJB := mkHid hjb
      have HSTOP : Hid ((cutB 10 rest).2.2 = false → parseM s = (pat0, j + 3)) := fun hc => HL.out.par.stop hc (fun e => by
        have h1 : (j : Int) < lo := HCOND.out.resolve_right (fun h => h e)
        rw [HLO.out] at h1
        rw [HL.out.tg]
        cases tg <;> simp at h1 ⊢ <;> omega)
      have HBAD : Hid ((cutB 10 rest).2.2 = true → readM p (j + 3) x = none → parseM s = (pat0, j + 3)) := fun h1 h2 => HL.out.par.bad h1 (by rw [← HX.out]; exact h2)
      clear hex hpl hjb hx hxl hcond
      have htl : (j : Int) < lo ∨ t.toList.isEmpty = false := by
        rcases HCOND.out with h1 | h1
        · exact .inl h1
        · refine .inr ?_
          rw [ht, ByteArray.toList_eq, str_list]
          cases rest with
          | nil => exact absurd rfl h1
          | cons _ _ => rfl
      clear ht
      by_cases hmost : (j : Int) < hi
      · by_cases hjl : (j : Int) < lo
        all_goals
          have hmd : decide ((j : Int) < hi) = true := decide_eq_true hmost
          first | (have he := htl.resolve_left hjl; clear htl) | clear htl
          have HMO := mkHid hmost
          go_upto_region 9 with (first
            | (go_at_call 42; (with_reducible refine n3.out.mono ?_); rintro e w3 (⟨hc1, rfl, h1, b1⟩ | ⟨hc1, rfl, b1⟩)
               rotate_left
               · exact ⟨rfl, lines_bad (j + 3) (by omega) HJB.out (HSTOP.out hc1) (HL.out.old.trans b1)⟩
               have HC3 := mkHid hc1
               have H3 := mkHid h1
               have HB3 := mkHid (HL.out.old.trans b1)
               clear hc1 h1 b1)
            | (go_at_call 44; (with_reducible refine (need_true _ _).mono ?_); rintro e w4 ⟨rfl, rfl⟩)
            | (go_at_call 45; (with_reducible refine (change_any B _ R _ (j + 3) p H3.out (str x) (by have := HXL.out; rw [str_size]; omega)).mono ?_); rintro e w4 ⟨(⟨c, hc, rfl⟩ | ⟨hc, rfl⟩), b4⟩
               rotate_left
               · exact ⟨rfl, lines_bad (j + 3) (by omega) HJB.out (HBAD.out HC3.out (by rw [readM_three p (j + 3) (by omega)]; rw [str_list] at hc; rw [hc])) (HB3.out.trans (Kp.of b4 H3.out.size))⟩
               obtain ⟨kk, f, fn, l, ln, tt, rfl⟩ := chg_letters c
               rw [encC_let]
               have HCE := mkHid hc
               have HB4 := mkHid b4
               clear hc b4)
            | ((with_reducible refine at_op (.store 44 (.tmp 6) (.tmp 45)) ?_)
               refine wpList_store_row rfl 44 (.tmp 6) (.tmp 45) rfl w4.heap.size #[.int .i64 kk, .string f, .int .i64 fn, .string l, .int .i64 ln, .string tt] rfl rfl 44 chg0A (h10 _ _) size44 rfl (six_one _ _ _ _ _ _) ?_
               rw [World.setRow_alloc_new]
               obtain ⟨W1, hW1⟩ : ∃ W1, W1 = w4.alloc (.cells #[.int .i64 kk, .string f, .int .i64 fn, .string l, .int .i64 ln, .string tt] 44) := ⟨_, rfl⟩
               have b5 : Old w4 W1 := by rw [hW1]; exact old1 _ _
               have HB5 := mkHid (below_then HB4.out b5)
               have G6 : Hid (W1.heap[w4.heap.size]? = some (.cells #[.int .i64 kk, .string f, .int .i64 fn, .string l, .int .i64 ln, .string tt] 44 (0, 0))) := by show _ = _; rw [hW1]; exact h10 _ _
               rw [← hW1]
               clear hW1 b5))
          have hR1 : Rd B W1 R (cutB 10 rest).2.1 (j + 3) p := H3.out.old HB5.out H3.out.size
          obtain ⟨nv, cv, hm1, hrow1, hown1⟩ := hR1.m
          obtain ⟨dd, hdd⟩ : ∃ dd, dd = chgOk p.1 p.2.2.1 p.2.2.2 (kk, (f.data.toList, fn), (l.data.toList, ln), tt.data.toList) := ⟨_, rfl⟩
          have hMF : MF W1 (str p.1) p.2.1 nv cv p.2.2.1 p.2.2.2 := ⟨hrow1.lies, ownC_lies hown1, by have := HL.out.nd; omega, by have := HL.out.ln; have := HJB.out; omega⟩
          have htt : tt.size ≤ 1000000 := by
            have := chgM_len HCE.out
            have := HXL.out
            rw [size_list]
            rw [str_list] at *
            simp only at *
            omega
          have K33 : Hid (∀ w1, Old W1 w1 → Calls Tryd.prog 33 #[.agg #[.string (str p.1), .bool p.2.1, nv, cv], .agg #[.int .i64 kk, .string f, .int .i64 fn, .string l, .int .i64 ln, .string tt]] w1 fun e w' => e = .returned (.bool dd) ∧ Old w1 w') := fun w1 h1 => by
            have := mayFollow_any w1 (str p.1) p.2.1 nv cv p.2.2.1 p.2.2.2 kk f l tt fn ln htt (hMF.old h1)
            rw [str_list, ← hdd] at this
            exact this
          have L26 : Hid (∀ w1, Old W1 w1 → (Instr.loadAt 26 (.pointer (some ⟨R, 2, none⟩))).run Tryd.prog w1 = .ok (.agg #[.string (str p.1), .bool p.2.1, nv, cv]) w1) := fun w1 h1 => run_load26 (B := B) (block_old h1 hm1)
          have L44 : Hid (∀ w1, Old W1 w1 → (Instr.loadAt 44 (.pointer (some ⟨w4.heap.size, 0, none⟩))).run Tryd.prog w1 = .ok (.agg #[.int .i64 kk, .string f, .int .i64 fn, .string l, .int .i64 ln, .string tt]) w1) := fun w1 h1 => run_loadAt44 w1 _ _ (block_old h1 G6.out) rfl
          have HR1 := mkHid hR1
          have HDD := mkHid hdd
          have HNO : Hid (dd = false → readM p (j + 3) x = none) := fun e => by
            rw [readM_three p (j + 3) (by omega)]
            have := HCE.out
            rw [str_list] at this
            rw [this]
            simp only
            rw [if_neg (fun h => by rw [← HDD.out, e] at h; exact absurd h.2.2 (by decide))]
          clear hR1 hm1 hrow1 hown1 hdd hMF htt
          refine Rq.wp_region_try_lit (by kernel_rfl) (by kernel_rfl) (fun w1 => Old W1 w1) (fun w1 => Old W1 w1) (.inr rfl) (by decide) (fun ch w1 => DiesAt ((j + 3 : Nat) : Int) ch ∧ dd = false ∧ Old W1 w1) ?_ ?_ ?_
          · exact (Below.refl _ W1).drew
          · rintro ch a w1 hd ⟨h1, h2, h3⟩
            refine ⟨hd, ?_⟩
            rw [show Ending.panicked ch = Pn ((j + 3 : Nat) : Int) from h1]
            exact lines_bad (j + 3) (by omega) HJB.out (HBAD.out HC3.out (HNO.out h2)) ((HB3.out.trans (Kp.of HB5.out H3.out.size)).trans (Kp.of h3 HR1.out.size))
          · repeat (
              refine Rq.wpT_yes (by rfl) ?_ ?_ (fun w1 h1 => ?_) (fun K hK => ?_)
              rotate_left 2
              · first
                  | (refine upT_load 26 (.tmp 49) ?_ (.pointer (some ⟨R, 2, none⟩)) ?_ ?_ ?_ <;> first | rfl | exact L26.out w1 h1 | exact h1)
                  | (refine upT_load 44 (.tmp 6) ?_ (.pointer (some ⟨w4.heap.size, 0, none⟩)) ?_ ?_ ?_ <;> first | rfl | exact L44.out w1 h1 | exact h1)
                  | (go_simp
                     first
                       | exact Rq.upT_value h1
                       | (refine Rq.upT_call (v := .bool dd) ?_
                          (with_reducible refine (K33.out w1 h1).mono ?_)
                          rintro e w4 ⟨h4, h5⟩
                          exact ⟨h4, below_then h1 h5⟩))
              go_simp
              refine hK _ _ ?_
              clear hK K)
            refine Rq.wpT_last (by rfl) (.tuple #[]) (!dd) (fun w1 h1 => ?_) (fun K hK => ?_)
            · go_simp
              refine Rq.upT_any ?_
              refine (need_try R ((j + 3 : Nat) : Int) dd w1 (HR1.out.old h1 HR1.out.size).one).mono ?_
              rintro e w5 (⟨h4, h5, rfl⟩ | ⟨ch, h4, h5, h6, rfl⟩)
              · exact .inl ⟨h4, h5, h1⟩
              · exact .inr ⟨ch, h4, h5, h6, h1⟩
            go_simp
            refine hK _ _ (fun hd => ?_)
            clear hK K
            intro w5 h5
            have hd2 : dd = true := by simpa using hd
            have HD2 := mkHid hd2
            have H5 := mkHid h5
            clear hd hd2 h5
            go_upto_region 10 with (fail)
            have hR5 : Rd B w5 R (cutB 10 rest).2.1 (j + 3) p := HR1.out.old H5.out HR1.out.size
            obtain ⟨nv5, cv5, hm5, hrow5, hown5⟩ := hR5.m
            have hb5 := hR5.b
            have hs5 := hR5.size
            have he5 := hR5.e.old (Below.refl B w5).drew
            obtain ⟨V0, hV0⟩ : ∃ V0, V0 = w5.drew := ⟨_, rfl⟩
            have HG6 : Hid (V0.heap[w4.heap.size]? = some (.cells #[.int .i64 kk, .string f, .int .i64 fn, .string l, .int .i64 ln, .string tt] 44 (0, 0))) := by show _ = _; rw [hV0]; exact block_old H5.out.drew G6.out
            have hm6 : V0.heap[R]? = some (.cells #[.string (str (cutB 10 rest).2.1), .int .i64 ((j + 3 : Nat) : Int), .string (str p.1), .bool p.2.1, nv5, cv5] 67 (0, 0)) := by rw [hV0]; exact hm5
            have hrow6 : RowS V0 nv5 p.2.2.1 := by rw [hV0]; exact hrow5
            have hown6 : OwnC B V0 cv5 p.2.2.2 := by rw [hV0]; exact hown5
            have hs6 : B ≤ V0.heap.size := by rw [hV0]; exact hs5
            have he6 : EnvB B V0 := by rw [hV0]; exact he5
            obtain ⟨g, cap, V2, hrun, hown7, hgr⟩ := push_run hown6 hs6 j HL.out.ln.symm (by have := HJB.out; omega) (kk, (f.data.toList, fn), (l.data.toList, ln), tt.data.toList) #[.int .i64 kk, .string f, .int .i64 fn, .string l, .int .i64 ln, .string tt] rfl
            obtain ⟨hR7, hB7⟩ := Rd.push hm6 hrow6 hown6 hb5 he6 _ g (j + 1) cap _ hown7 hgr
            have hR2 : V2.heap[R]? = some (.cells #[.string (str (cutB 10 rest).2.1), .int .i64 ((j + 3 : Nat) : Int), .string (str p.1), .bool p.2.1, nv5, cv5] 67 (0, 0)) := by
              have := (Array.getElem?_eq_some_iff.1 hm6).1
              rw [hgr.block R (by simp; omega) (own_type hown6 hm6 (by decide)), Below.heap_alloc _ _ _ this]
              exact hm6
            have p50 : V0.cell? ⟨R, 5, none⟩ = some cv5 := (cell6 hm6).2.2.2.2.2
            have p51 : (V0.alloc (.cells #[.int .i64 kk, .string f, .int .i64 fn, .string l, .int .i64 ln, .string tt] 44)).cell? ⟨R, 5, none⟩ = some cv5 := cell_old (old1 _ _) p50
            have p52 : V2.cell? ⟨R, 5, none⟩ = some cv5 := (cell6 hR2).2.2.2.2.2
            have z52 := free_at hR2 5
            have HR7 := mkHid hR7
            have HB7 := mkHid hB7
            have HRUN := mkHid hrun
            have HP0 := mkHid p50
            have HP1 := mkHid p51
            have HP2 := mkHid p52
            have HZ2 := mkHid z52
            have HB6 : Hid (Kp B w V0) := by
              show Kp _ _ _
              rw [hV0]
              exact ((HB3.out.trans (Kp.of HB5.out H3.out.size)).trans (Kp.of H5.out HR1.out.size)).drew
            have HV0 : Hid (V0 = w5.drew) := hV0
            clear hR5 hm5 hrow5 hown5 hb5 hs5 he5 hm6 hrow6 hown6 hs6 he6 hown7 hgr hR7 hB7 hR2 p50 p51 p52 z52 hrun hV0
            refine Rp.wp_region_phases (by kernel_rfl) (by kernel_rfl) [7, 8, 12] (by decide) (by decide) (Ph4 V0 (V0.alloc (.cells #[.int .i64 kk, .string f, .int .i64 fn, .string l, .int .i64 ln, .string tt] 44)) V2 (V2.setCell ⟨R, 5, none⟩ (.slice (some ⟨g, 0, none⟩) (j + 1) cap))) (fun _ _ => False) HV0.out.symm (fun _ _ _ _ h => h.elim) ?_
            iterate 5
              refine Rp.wpP_pure (by rfl) (by rfl) ?_ (fun w9 => ?_) (fun K hK => ?_)
              rotate_left 1
              · go_simp
                refine Rp.upT_value ?_; rfl
              go_simp
              refine hK _ _ ?_
              clear hK K
            refine Rp.wpP_read (by rfl) 0 1 (by kernel_rfl) (by kernel_rfl) (by rfl) cv5 (fun k hk1 hk2 w9 hk => ?_) (fun K hK => ?_)
            · have p5 : w9.cell? ⟨R, 5, none⟩ = some cv5 := by
                rcases hk.one hk1 hk2 with rfl | rfl
                · exact HP0.out
                · exact HP1.out
              go_simp
              refine Rp.upT_value ?_; rfl
            go_simp
            refine hK _ _ ?_
            clear hK K
            refine Rp.wpP_read (by rfl) 0 0 (by kernel_rfl) (by kernel_rfl) (by rfl) (.agg #[.int .i64 kk, .string f, .int .i64 fn, .string l, .int .i64 ln, .string tt]) (fun k hk1 hk2 w9 hk => ?_) (fun K hK => ?_)
            · obtain rfl := hk.zero hk1 hk2
              refine upT_load' 44 (.tmp 6) ?_ (.pointer (some ⟨w4.heap.size, 0, none⟩)) ?_ ?_ rfl
              · rfl
              · rfl
              · exact run_loadAt44 _ _ _ HG6.out rfl
            go_simp
            refine hK _ _ ?_
            clear hK K
            refine Rp.wpP_one (by rfl) 0 (by kernel_rfl) (by kernel_rfl) (by rfl) (.slice (some ⟨V0.heap.size, 0, none⟩) 1 1) (fun w9 hk => ?_) (fun K hK => ?_)
            · obtain rfl : w9 = V0 := hk
              go_simp
              refine Rp.upT_value ?_; rfl
            go_simp
            refine hK _ _ ?_
            clear hK K
            refine Rp.wpP_one (by rfl) 1 (by kernel_rfl) (by kernel_rfl) (by rfl) (.slice (some ⟨g, 0, none⟩) (j + 1) cap) (fun w9 hk => ?_) (fun K hK => ?_)
            · obtain rfl : w9 = (V0.alloc (.cells #[.int .i64 kk, .string f, .int .i64 fn, .string l, .int .i64 ln, .string tt] 44)) := hk
              rw [exec_append (.tmp 59) (.tmp 61) rfl rfl rfl HRUN.out]
              refine Rp.upT_value ?_; rfl
            go_simp
            refine hK _ _ ?_
            clear hK K
            iterate 3
              refine Rp.wpP_pure (by rfl) (by rfl) ?_ (fun w9 => ?_) (fun K hK => ?_)
              rotate_left 1
              · go_simp
                refine Rp.upT_value ?_; rfl
              go_simp
              refine hK _ _ ?_
              clear hK K
            refine Rp.wpP_one (by rfl) 2 (by kernel_rfl) (by kernel_rfl) (by rfl) undef (fun w9 hk => ?_) (fun K hK => ?_)
            · obtain rfl : w9 = V2 := hk
              have p52 := HP2.out
              have z52 := HZ2.out
              go_simp
              refine Rp.upT_skip ?_; rfl
            go_simp
            refine hK _ _ ?_
            clear hK K
            refine Rp.wpP_end (fun _ w9 hk => ?_)
            obtain rfl : w9 = V2.setCell ⟨R, 5, none⟩ (.slice (some ⟨g, 0, none⟩) (j + 1) cap) := hk
            have hwk : wrap64 ((j : Int) + 1) = (j : Int) + 1 := by have := HJB.out; unfold wrap64; omega
            have HWK := mkHid hwk
            have HQ : Hid (readM p (j + 3) x = some (p.1, p.2.1, p.2.2.1, p.2.2.2 ++ [(kk, (f.data.toList, fn), (l.data.toList, ln), tt.data.toList)])) := by
              show _ = _
              have h1 := HCE.out
              rw [str_list] at h1
              rw [readM_three p (j + 3) (by omega), h1]
              simp only
              have h2 := HMO.out
              rw [HHI.out, ← HL.out.tg] at h2
              rw [if_pos]
              refine ⟨?_, ?_, ?_⟩
              · cases h3 : p.2.1
                · rfl
                · rw [h3] at h2; simp at h2; omega
              · have := HL.out.ln
                cases h3 : p.2.1
                · rw [h3] at h2; simp at h2; omega
                · rw [h3] at h2; simp at h2; omega
              · rw [← HDD.out, HD2.out]
            have HPN : Hid (Par s (p.1, p.2.1, p.2.2.1, p.2.2.2 ++ [(kk, (f.data.toList, fn), (l.data.toList, ln), tt.data.toList)]) (j + 3 + 1) (cutB 10 rest).2.1) := HL.out.par.next HC3.out (by rw [← HX.out]; exact HQ.out)
            have HJL : Hid (j < s.length + 10) := by
              have := HL.out.par.len
              show _ < _
              omega
            have HLS2 : Hid (LS B s w (V2.setCell ⟨R, 5, none⟩ (.slice (some ⟨g, 0, none⟩) (j + 1) cap)) R tg (j + 1) (cutB 10 rest).2.1 (p.1, p.2.1, p.2.2.1, p.2.2.2 ++ [(kk, (f.data.toList, fn), (l.data.toList, ln), tt.data.toList)])) :=
              ⟨HR7.out, HPN.out, HL.out.tg, by have := HL.out.ln; simp; omega, HL.out.nd, HB6.out.trans HB7.out⟩
            clear HQ HPN HP0 HP1 HP2 HZ2 HRUN HR7 HB7 HB6 HV0 HG6
            clear K33 L26 L44 HR1 HDD HNO G6 HB4 HB5 HCE H3 HB3 HC3 n3 HSTOP HBAD
            go_wp2
            go_roundw
            case rel => exact ⟨j + 1, _, _, by go_num, HLS2⟩
            case measure =>
              have e := HWK.out
              rw [e]
              exact meas HJL.out
      · have HR3 : Hid (∀ c, readM p (j + 3) x = some c → False) := fun c hc => by
          rw [readM_three p (j + 3) (by omega)] at hc
          cases hx : chgM x with
          | none => rw [hx] at hc; cases hc
          | some c =>
            rw [hx] at hc
            simp only at hc
            split at hc
            · rename_i h1
              refine hmost ?_
              rw [HHI.out, ← HL.out.tg, h1.1]
              have := h1.2.1
              rw [HL.out.ln] at this
              simp; omega
            · cases hc
        have HNO : Hid (readM p (j + 3) x = none) := by
          cases hx : readM p (j + 3) x with
          | none => rfl
          | some c => exact (HR3.out c hx).elim
        by_cases hjl : (j : Int) < lo
        all_goals
          have hmd : decide ((j : Int) < hi) = false := decide_eq_false hmost
          first | (have he := htl.resolve_left hjl; clear htl) | clear htl
          go_wp2_with (first
            | (go_at_call 42; (with_reducible refine n3.out.mono ?_); rintro e w3 (⟨hc1, rfl, h1, b1⟩ | ⟨hc1, rfl, b1⟩)
               rotate_left
               · exact ⟨rfl, lines_bad (j + 3) (by omega) HJB.out (HSTOP.out hc1) (HL.out.old.trans b1)⟩
               have HC3 := mkHid hc1
               have H3 := mkHid h1
               have HB3 := mkHid (HL.out.old.trans b1)
               clear hc1 h1 b1)
            | (go_at_call 44; (with_reducible refine (need_false R ((j + 3 : Nat) : Int) _ H3.out.one).mono ?_); rintro e w4 ⟨rfl, rfl⟩))
          exact ⟨rfl, lines_bad (j + 3) (by omega) HJB.out (HBAD.out HC3.out HNO.out) HB3.out⟩
end Go.Proofs.YtfkfaaifchafjaaDoor
