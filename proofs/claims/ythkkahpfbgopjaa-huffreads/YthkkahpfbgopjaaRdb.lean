/-
  HuffReads: the walk.
-/
import Derived.Test.YthkkahpfbgopjaaRda
import Derived.Deep.RegionHeld3
import Derived.Deep.DeepCutAuto
set_option linter.unusedSimpArgs false
set_option linter.unusedVariables false
namespace Go.Proofs.Ythkkahpfbgopjaa
open Go.RowKit

theorem q4_start {w3 w4 w5 : World} {rb : Nat} {bs : List Nat} {v : Value} (hR : Rd 71 w4 rb bs 0 false) (hlo : w3.heap.size ≤ rb) (hb4 : Below w3.heap.size w3 w4) (ho : w5.ownsRow w4.heap.size 5 1 v bs.length (bs.map byteV)) (hb5 : Below w4.heap.size w4 w5) :
    Q4 w3.heap.size w3 (((w5.alloc (.cells #[v, .int .i64 0, .bool false] 53)).alloc (.cells #[.slice none 0 0, .int .i64 0] 73)).alloc (.cells #[.slice none 0 0, .int .i64 0, .bool false] 53)) rb w5.heap.size (w5.heap.size + 1) (w5.heap.size + 1 + 1) bs 0 0 := by
  have s4 := hb4.size
  have s5 := hb5.size
  have a1 : Below w5.heap.size w5 (w5.alloc (.cells #[v, .int .i64 0, .bool false] 53)) := (Below.refl _ _).alloc (Nat.le_refl _) _
  have a2 : Below (w5.alloc (.cells #[v, .int .i64 0, .bool false] 53)).heap.size (w5.alloc (.cells #[v, .int .i64 0, .bool false] 53)) ((w5.alloc (.cells #[v, .int .i64 0, .bool false] 53)).alloc (.cells #[.slice none 0 0, .int .i64 0] 73)) := (Below.refl _ _).alloc (Nat.le_refl _) _
  have a3 : Below ((w5.alloc (.cells #[v, .int .i64 0, .bool false] 53)).alloc (.cells #[.slice none 0 0, .int .i64 0] 73)).heap.size ((w5.alloc (.cells #[v, .int .i64 0, .bool false] 53)).alloc (.cells #[.slice none 0 0, .int .i64 0] 73)) (((w5.alloc (.cells #[v, .int .i64 0, .bool false] 53)).alloc (.cells #[.slice none 0 0, .int .i64 0] 73)).alloc (.cells #[.slice none 0 0, .int .i64 0, .bool false] 53)) := (Below.refl _ _).alloc (Nat.le_refl _) _
  have e1 : (w5.alloc (.cells #[v, .int .i64 0, .bool false] 53)).heap.size = w5.heap.size + 1 := by simp
  have e2 : ((w5.alloc (.cells #[v, .int .i64 0, .bool false] 53)).alloc (.cells #[.slice none 0 0, .int .i64 0] 73)).heap.size = w5.heap.size + 1 + 1 := by simp
  have hX1 : Rd 53 (w5.alloc (.cells #[v, .int .i64 0, .bool false] 53)) w5.heap.size bs 0 false := ⟨⟨v, heap_alloc_new w5 _, (owns_base ho (Nat.zero_le _)).alloc _⟩, hR.small, Nat.zero_le _, hR.len⟩
  have h73 := heap_alloc_new (w5.alloc (.cells #[v, .int .i64 0, .bool false] 53)) (.cells #[.slice none 0 0, .int .i64 0] 73)
  have h53 := heap_alloc_new ((w5.alloc (.cells #[v, .int .i64 0, .bool false] 53)).alloc (.cells #[.slice none 0 0, .int .i64 0] 73)) (.cells #[.slice none 0 0, .int .i64 0, .bool false] 53)
  rw [e1] at h73 a2
  rw [e2] at h53 a3
  refine ⟨(((hR.old hb5).old a1).old (e1 ▸ a2)).old (e2 ▸ a3), (hX1.old (e1 ▸ a2)).old (e2 ▸ a3), ⟨?_, h53, ?_, ?_, by omega, by omega⟩, hlo, by omega, by omega⟩
  · rw [a3.block _ (by omega)]; exact h73
  · exact (((hb4.trans (hb5.mono s4)).trans (a1.mono (by omega))).trans (a2.mono (by omega))).trans (a3.mono (by omega))
  · simp; omega

set_option maxRecDepth 100000 in
set_option maxHeartbeats 8000000 in
theorem reads_law (w : World) (u v b x : Value) (zs gs ss : List Int) (bs : List Nat) (hu : Ints w u zs) (hv : Ints w v gs) (hb : Lies w b bs) (hsm : Small bs) (hx : Ints w x ss) (hlz : zs.length ≤ 17592186043904) (hlg : gs.length ≤ 17592186043904) (hls : ss.length ≤ 17592186043904) (hlb : bs.length ≤ 140737488351232) :
    Calls Try.prog 6 #[u, v, b, x] w fun e w' => e = .returned (.bool true) ∧ Below w.heap.size w w' := by
  have hwk := wakes_hid
  have hfull : Hid (Calls Try.prog 21 #[u, v] w fun e w' => ∃ lv ls, e = .returned lv ∧ w'.ownsRow w.heap.size 3 1 lv ls.length (ls.map natV) ∧ Below w.heap.size w w' ∧ Good ls) := full_walk w u v zs gs hu hv (by omega) (by omega)
  obtain ⟨ua, uc, rfl, -, -, -⟩ := hu
  obtain ⟨va, vc, rfl, -, -, -⟩ := hv
  obtain ⟨xa, xc, rfl, hx2, hx3, hx4⟩ := hx
  have HLies : Hid (Lies w b bs) := hb
  obtain ⟨ba, bc, rfl, -, -, -⟩ := hb
  obtain ⟨M, hM⟩ : ∃ M, M = zs.length := ⟨_, rfl⟩
  obtain ⟨G, hG⟩ : ∃ G, G = gs.length := ⟨_, rfl⟩
  obtain ⟨S, hS⟩ : ∃ S, S = ss.length := ⟨_, rfl⟩
  rw [← hM] at hlz hfull ⊢
  rw [← hG] at hlg hfull ⊢
  rw [← hS] at hls hx2 hx4 ⊢
  clear hM hG hS
  have HX4 : Hid (∀ a, xa = some a → ∀ j, j < S → w.cell? (a.add j) = some (.int .i64 (ss.getD j 0))) := hx4
  have HX3 : Hid (xa = none → xc = 0) := hx3
  clear hx3 hx4
  have hnew : Hid (∀ w1 lv ls, w1.ownsRow w.heap.size 3 1 lv ls.length (ls.map natV) → Good ls → Calls Try.prog 8 #[lv] w1 fun e w2 => ∃ tb, e = .returned (.tuple #[.pointer (some ⟨tb, 0, none⟩), .int .i64 0]) ∧ Below w1.heap.size w1 w2 ∧ Tab w2 tb ls) := by
    intro w1 lv ls ho hg
    refine ((new_lit (castL ls) hg.ok).out w1 lv (ints_nat ho)).mono ?_
    rintro e w2 ⟨tb, rfl, -, hb, hT⟩
    rw [castL_toNat] at hT
    exact ⟨tb, rfl, hb, hT⟩
  have hrd : Hid (∀ w3, Below w.heap.size w w3 → Calls Try.prog 12 #[.slice ba bs.length bc] w3 fun e w4 => ∃ rb, e = .returned (.pointer (some ⟨rb, 0, none⟩)) ∧ Rd 71 w4 rb bs 0 false ∧ w3.heap.size ≤ rb ∧ Below w3.heap.size w3 w4) := fun w3 hb3 => reader_walk w3 _ bs (HLies.out.old hb3) hsm (by omega)
  have hcp : Hid (∀ w4, Below w.heap.size w w4 → Calls Try.prog 22 #[.slice ba bs.length bc] w4 fun e w5 => ∃ ao ac, e = .returned (.slice ao bs.length ac) ∧ w5.ownsRow w4.heap.size 5 1 (.slice ao bs.length ac) bs.length (bs.map byteV) ∧ Below w4.heap.size w4 w5) := fun w4 hb4 => by
    refine (copy_walk w4 _ bs (HLies.out.old hb4) (by omega)).mono ?_
    rintro e w5 ⟨v', rfl, ho, hb5⟩
    obtain ⟨ao, ac, rfl, -, -, -⟩ := lies_own ho
    exact ⟨ao, ac, rfl, ho, hb5⟩
  have hnw : Hid (∀ w, Calls Try.prog 14 #[] w fun e w' => e = .returned (.pointer (some ⟨w.heap.size, 0, none⟩)) ∧ w' = w.alloc (.cells #[.slice none 0 0, .int .i64 0] 73)) := new_walk
  obtain ⟨B, hB⟩ : ∃ B, B = w.heap.size := ⟨_, rfl⟩
  rw [← hB] at hfull hnew hrd hcp
  have HB : Hid (B = w.heap.size) := hB
  clear hB
  go_enter Try.func6, Try.ntmps6
  go_upto_region 7 with (first
    | (go_at_call 21; (with_reducible refine hfull.out.mono ?_); rintro e w1 ⟨lv, ls, rfl, ho, hb1, hg⟩; obtain ⟨lg, lcap, rfl, -⟩ := ho.form (by have := hg.pos; omega))
    | (go_at_call 8; (with_reducible refine (hnew.out _ _ _ ho hg).mono ?_); rintro e w3 ⟨tb, rfl, hb3, hT⟩; have hBw3 := hb1.trans (hb3.mono (by have h9 := hb1.size; have h8 := HB.out; omega)))
    | (go_at_call 12; (with_reducible refine (hrd.out _ hBw3).mono ?_); rintro e w4 ⟨rb, rfl, hR4, hlo4, hb4⟩; have hBw4 := hBw3.trans (hb4.mono (by have h9 := hBw3.size; have h8 := HB.out; omega)))
    | (go_at_call 22; (with_reducible refine (hcp.out _ hBw4).mono ?_); rintro e w5 ⟨ao, ac, rfl, ho5, hb5⟩)
    | (go_at_call 14; (with_reducible refine (hnw.out _).mono ?_); rintro e w7 ⟨rfl, hx⟩; have hx := hx.symm; subst hx))
  iterate 25 go_step
  have hQ0 := q4_start hR4 hlo4 hb4 ho5 hb5
  obtain ⟨W, hW⟩ : ∃ W, W = (((w5.alloc (.cells #[.slice ao bs.length ac, .int .i64 0, .bool false] 53)).alloc (.cells #[.slice none 0 0, .int .i64 0] 73)).alloc (.cells #[.slice none 0 0, .int .i64 0, .bool false] 53)) := ⟨_, rfl⟩
  rw [← hW] at hQ0 ⊢
  obtain ⟨yb, hyb⟩ : ∃ yb, yb = w5.heap.size + 1 + 1 := ⟨_, rfl⟩
  rw [← hyb] at hQ0 ⊢
  obtain ⟨p, hp⟩ : ∃ p, p = w5.heap.size + 1 := ⟨_, rfl⟩
  rw [← hp] at hQ0 ⊢
  obtain ⟨xb, hxb⟩ : ∃ xb, xb = w5.heap.size := ⟨_, rfl⟩
  rw [← hxb] at hQ0 ⊢
  obtain ⟨C, hC⟩ : ∃ C, C = w3.heap.size := ⟨_, rfl⟩
  rw [← hC] at hQ0
  have HC : Hid (C = w3.heap.size) := hC
  have HBC : Hid (Below B w w3) := hBw3
  have hBC : B ≤ C := by have h9 := hBw3.size; have h8 := HB.out; omega
  obtain ⟨n, hn⟩ : ∃ n, n = ls.length := ⟨_, rfl⟩
  have HO3 : Hid (w3.ownsRow B 3 1 (.slice (some ⟨lg, 0, none⟩) ls.length lcap) ls.length (ls.map natV)) := owns_old3 ho hb3
  have hn0 : 0 < n := by have := hg.pos; omega
  have hn82 : n ≤ 82 := by have := hg.len; omega
  rw [← hn] at HO3 ⊢
  have HN : Hid (ls.length = n) := hn.symm
  have HT3 : Hid (Tab w3 tb ls) := hT
  have HG : Hid (Good ls) := hg
  clear hW hyb hp hxb hC hn hR4 hlo4 hb4 ho5 hb5 hBw3 hBw4 hT ho hb1 hb3 hnew hfull hnw hrd hcp hg
  go_cut [] (fun wc => Q2 C w3 wc p yb)
  case first =>
    go_wp2
    go_loopw [16] (fun i wr => ∃ k q : Nat, k ≤ 40 ∧ i = .int .i64 (k : Int) ∧ Q4 C w3 wr rb xb p yb bs q q) (fun i _ => 40 - (intOf i).toNat)
    case atStart => exact ⟨0, 0, by omega, rfl, hQ0⟩
    case round =>
      obtain ⟨k, q, hk, rfl, hQ⟩ := hrel
      clear hQ0
      by_cases hk40 : k < 40
      · rcases both_read (C := C) (w3 := w3) (rb := rb) (xb := xb) (p := p) (yb := yb) (tb := tb) (lg := lg) (lcap := lcap) (n := n) (B := B) (bs := bs) (l := ls) HC.out HT3.out HN.out hn0 HG.out.ok HO3.out q with ⟨i, q2, hget, hsig⟩ | ⟨hget, hsig⟩
        · have hlf : Hid (∀ wx, Q4 C w3 wx rb xb p yb bs q2 q2 → Calls Try.prog 16 #[.pointer (some ⟨rb, 0, none⟩)] wx fun e w' => e = .returned (.int .i64 (8 * (bs.length : Int) - q2)) ∧ Q4 C w3 w' rb xb p yb bs q2 q2) := fun wx h => (left_walk wx rb bs q2 false h.r).mono fun e w' ⟨e1, j, e2⟩ => ⟨e1, by rw [e2]; exact h.old (below_drewN _ _)⟩
          have hxlf : Hid (∀ wx, Q4 C w3 wx rb xb p yb bs q2 q2 → Calls Try.prog 24 #[.pointer (some ⟨xb, 0, none⟩)] wx fun e w' => e = .returned (.int .i64 (8 * (bs.length : Int) - q2)) ∧ Q4 C w3 w' rb xb p yb bs q2 q2) := fun wx h => (xleft_walk wx xb bs q2 false h.x).mono fun e w' ⟨e1, j, e2⟩ => ⟨e1, by rw [e2]; exact h.old (below_drewN _ _)⟩
          obtain ⟨lf, hlfe⟩ : ∃ lf : Int, lf = 8 * (bs.length : Int) - q2 := ⟨_, rfl⟩
          rw [← hlfe] at hlf hxlf
          clear hlfe
          go_wp2_with (first
            | (go_at_call 13; (with_reducible refine (hget.out _ hQ).mono ?_); rintro e w8 ⟨rfl, h8⟩)
            | (go_at_call 23; (with_reducible refine (hsig.out _ h8).mono ?_); rintro e w9 ⟨rfl, h9⟩)
            | (go_at_call 16; (with_reducible refine (hlf.out _ h9).mono ?_); rintro e w10 ⟨rfl, h10⟩)
            | (go_at_call 24; (with_reducible refine (hxlf.out _ h10).mono ?_); rintro e w11 ⟨rfl, h11⟩))
          go_roundw
          case rel => exact ⟨k + 1, q2, by omega, by go_num, h11⟩
          case measure => simp [intOf]; omega
        · go_wp2_with (first
            | (go_at_call 13; (with_reducible refine (hget.out _ hQ).mono ?_); rintro e w8 ⟨rfl, h8, g8, k8, l8⟩)
            | (go_at_call 23; (with_reducible refine (hsig.out _ h8 g8 k8 l8).mono ?_); rintro e w9 ⟨rfl, h9⟩))
          go_meet
          exact h9
      · go_wp2
        go_meet
        exact hQ.two
  case rest =>
  clear hQ0
  have hcod : Hid (∀ wx, Q2 C w3 wx p yb → Calls Try.prog 20 #[.slice (some ⟨lg, 0, none⟩) n lcap] wx fun e w' => ∃ cg ccap, e = .returned (.tuple #[.slice (some ⟨cg, 0, none⟩) n ccap, .bool true]) ∧ Wb2 C w3 w' p yb 0 0 0 0 cg ccap n (codesOf ls)) := by
    intro wx h
    have hI : Ints wx (.slice (some ⟨lg, 0, none⟩) n lcap) (castL ls) := by
      have h1 := owns_old3 HO3.out (HC.out ▸ h.below)
      exact ints_own (B := B) (by rw [castL_map]; exact h1) (by rw [castL_length]; exact HN.out)
    refine (codes_any wx _ (castL ls) hI (by rw [castL_length, HN.out]; omega)).mono ?_
    rintro e w' ⟨hb, ⟨_, cv, rfl, ho⟩ | ⟨h', _⟩⟩
    · rw [castL_length, castL_toNat, HN.out] at ho
      obtain ⟨cg, ccap, rfl, -⟩ := ho.form (by omega)
      have h2 := h.old hb
      refine ⟨cg, ccap, rfl, ⟨.slice none 0 0, .slice none 0 0, ?_, ?_, fun j hj => by simp [Value.ownBlock] at hj, fun j hj => by simp [Value.ownBlock] at hj, .inr rfl⟩, owns_base3 ho (Nat.zero_le _), h2.below, h2.size, h2.lop, h2.loy⟩
      · exact ⟨[], h2.hw, World.ownsRow_nil _ _ _ _, by simp [Small], rfl, rfl, by decide⟩
      · exact ⟨[], h2.hy, World.ownsRow_nil _ _ _ _, by simp [Small], rfl, rfl, by decide⟩
    · exact absurd HG.out.ok h'
  have HBW : Hid (∀ wx, Below C w3 wx → Below B w wx) := fun wx h => HBC.out.trans (h.mono hBC)
  go_wp2_with (first
    | (go_at_call 20; (with_reducible refine (hcod.out _ hcut).mono ?_); rintro e w20 ⟨cg, ccap, rfl, h20⟩))
  clear hcod
  go_loopw [23] (fun i wr => ∃ k N T : Nat, k ≤ 30 ∧ k ≤ S ∧ i = .int .i64 (k : Int) ∧ T ≤ 15 * k ∧ Wb2 C w3 wr p yb N T N T cg ccap n (codesOf ls)) (fun i _ => 30 - (intOf i).toNat)
  case atStart => exact ⟨0, 0, 0, by omega, by omega, rfl, by omega, h20⟩
  case round =>
    obtain ⟨k, N, T, hk, hkS, rfl, hT, hW⟩ := hrel
    clear h20
    by_cases hin : k < S ∧ k < 30
    · obtain ⟨hin1, hin2⟩ := hin
      obtain ⟨A, rfl⟩ : ∃ A, xa = some A := by
        cases xa with
        | none => have := HX3.out rfl; omega
        | some A => exact ⟨A, rfl⟩
      have hc := cell_old (HB.out ▸ HBW.out _ hW.below) (HX4.out A rfl k hin1)
      obtain ⟨x0, hx0⟩ : ∃ x0, x0 = ss.getD k 0 := ⟨_, rfl⟩
      rw [← hx0] at hc
      clear hx0
      obtain ⟨r, hr, hwi⟩ := within_lit x0 ((n : Int) + 2) (n + 2) (by omega) (by push_cast; rfl) (by omega)
      obtain ⟨sI, hsI⟩ : ∃ sI : Int, (r : Int) - 1 = sI := ⟨_, rfl⟩
      by_cases hh : HasCode ls sI
      · obtain ⟨j, rfl⟩ := Int.eq_ofNat_of_zero_le hh.1
        have hjn : j < n := by have := hh.2.1; have := HN.out; omega
        have hj0 : 0 < nth ls j := by have := hh.2.2; simpa using this
        have hjl : j < ls.length := by rw [HN.out]; exact hjn
        have hy15 := nth_le15 HG.out.le j
        have hput : Hid (∀ wx, Wb2 C w3 wx p yb N T N T cg ccap n (codesOf ls) → Calls Try.prog 15 #[.pointer (some ⟨tb, 0, none⟩), .pointer (some ⟨p, 0, none⟩), .int .i64 (j : Int)] wx fun e w' => e = .returned (.bool true) ∧ Wb2 C w3 w' p yb (N + rv ls j * 2 ^ T) (T + nth ls j) N T cg ccap n (codesOf ls)) := fun wx h => h.put HC.out HT3.out j hjl hj0 (by omega)
        have hcode : Hid (∀ wx, Wb2 C w3 wx p yb (N + rv ls j * 2 ^ T) (T + nth ls j) N T cg ccap n (codesOf ls) → Calls Try.prog 25 #[.pointer (some ⟨yb, 0, none⟩), .int .i64 (code ls j : Nat), .int .i64 (nth ls j : Nat)] wx fun e w' => e = .returned (.tuple #[]) ∧ Wb2 C w3 w' p yb (N + rv ls j * 2 ^ T) (T + nth ls j) (N + rv ls j * 2 ^ T) (T + nth ls j) cg ccap n (codesOf ls)) := fun wx h => h.code (code ls j : Nat) (nth ls j) (by omega) (by omega)
        have HLC : Hid (∀ wx N T N' T', Wb2 C w3 wx p yb N T N' T' cg ccap n (codesOf ls) → wx.cell? ⟨lg, j, none⟩ = some (.int .i64 (nth ls j : Nat))) := fun wx N T N' T' h => cell_old (HC.out ▸ h.below) (nat_at HN.out HO3.out j hjn)
        have HCC : Hid (∀ wx N T N' T', Wb2 C w3 wx p yb N T N' T' cg ccap n (codesOf ls) → wx.cell? ⟨cg, j, none⟩ = some (.int .i64 (code ls j : Nat))) := fun wx N T N' T' h => by
          have := nat_at (by rw [codesOf, upto_length, HN.out]) h.cv j hjn
          rw [codesOf_get ls HG.out.le j hjl, if_pos hj0] at this
          exact this
        obtain ⟨N2, hN2⟩ : ∃ N2, N2 = N + rv ls j * 2 ^ T := ⟨_, rfl⟩
        obtain ⟨y, hy⟩ : ∃ y, y = nth ls j := ⟨_, rfl⟩
        obtain ⟨x1, hx1⟩ : ∃ x1, x1 = code ls j := ⟨_, rfl⟩
        rw [← hN2, ← hy] at hput hcode
        rw [← hx1] at hcode HCC
        rw [← hy] at HLC hj0 hy15
        have cl := HLC.out _ _ _ _ _ hW
        have hix : 0 ≤ (j : Int) ∧ (j : Int) < n := by omega
        clear hN2 hy hx1 hh
        go_wp2_with (first
          | (go_at_call 10; (with_reducible refine (hwi.out _).mono ?_); rintro e wx ⟨rfl, hx⟩; have hx := hx.symm; subst hx)
          | (go_at_call 15; (with_reducible refine (hput.out _ hW).mono ?_); rintro e w21 ⟨rfl, h21⟩))
        have hd := h21.old (w' := w21.drew) ⟨rfl, rfl, rfl, Nat.le_refl _, fun _ _ => rfl⟩
        have d1 := HLC.out _ _ _ _ _ hd
        have d2 := HCC.out _ _ _ _ _ hd
        go_region_with (first
          | (go_at_call 25; (with_reducible refine (hcode.out _ hd).mono ?_); rintro e w22 ⟨rfl, h22⟩))
        all_goals
          go_wp2
          go_roundw
          case rel => exact ⟨k + 1, N2, T + y, by omega, by omega, by go_num, by omega, h22⟩
          case measure => simp [intOf]; omega
      · have hput : Hid (∀ wx, Wb2 C w3 wx p yb N T N T cg ccap n (codesOf ls) → Calls Try.prog 15 #[.pointer (some ⟨tb, 0, none⟩), .pointer (some ⟨p, 0, none⟩), .int .i64 sI] wx fun e w' => e = .returned (.bool false) ∧ Wb2 C w3 w' p yb N T N T cg ccap n (codesOf ls)) := fun wx h => (tput_not _ tb wx ls sI (HT3.out.old (HC.out ▸ h.below)) hh).mono fun e w' ⟨e1, q, e2⟩ => ⟨e1, by rw [e2]; exact h.old (below_drewN _ _)⟩
        have hway : sI < 0 ∨ (0 ≤ sI ∧ (n : Int) ≤ sI) ∨ (∃ j : Nat, sI = (j : Int) ∧ j < n ∧ nth ls j = 0) := by
          rcases Int.lt_or_le sI 0 with h0 | h0
          · exact .inl h0
          · rcases Int.lt_or_le sI n with h1 | h1
            · obtain ⟨j, rfl⟩ := Int.eq_ofNat_of_zero_le h0
              refine .inr (.inr ⟨j, rfl, by omega, ?_⟩)
              rcases Nat.eq_zero_or_pos (nth ls j) with h2 | h2
              · exact h2
              · exact absurd ⟨h0, by rw [HN.out]; exact h1, by simpa using h2⟩ hh
            · exact .inr (.inl ⟨h0, h1⟩)
        clear hh
        rcases hway with h0 | ⟨h0, h1⟩ | ⟨j, rfl, hjn, hjz⟩
        · go_wp2_with (first
            | (go_at_call 10; (with_reducible refine (hwi.out _).mono ?_); rintro e wx ⟨rfl, hx⟩; have hx := hx.symm; subst hx)
            | (go_at_call 15; (with_reducible refine (hput.out _ hW).mono ?_); rintro e w21 ⟨rfl, h21⟩))
          go_roundw
          case rel => exact ⟨k + 1, N, T, by omega, by omega, by go_num, by omega, h21⟩
          case measure => simp [intOf]; omega
        · go_wp2_with (first
            | (go_at_call 10; (with_reducible refine (hwi.out _).mono ?_); rintro e wx ⟨rfl, hx⟩; have hx := hx.symm; subst hx)
            | (go_at_call 15; (with_reducible refine (hput.out _ hW).mono ?_); rintro e w21 ⟨rfl, h21⟩))
          go_roundw
          case rel => exact ⟨k + 1, N, T, by omega, by omega, by go_num, by omega, h21⟩
          case measure => simp [intOf]; omega
        · have cl : wr.cell? ⟨lg, j, none⟩ = some (.int .i64 0) := by
            have := cell_old (HC.out ▸ hW.below) (nat_at HN.out HO3.out j hjn)
            rw [hjz] at this
            exact this
          have hix : 0 ≤ (j : Int) ∧ (j : Int) < n := by omega
          clear hjz
          go_wp2_with (first
            | (go_at_call 10; (with_reducible refine (hwi.out _).mono ?_); rintro e wx ⟨rfl, hx⟩; have hx := hx.symm; subst hx)
            | (go_at_call 15; (with_reducible refine (hput.out _ hW).mono ?_); rintro e w21 ⟨rfl, h21⟩))
          go_roundw
          case rel => exact ⟨k + 1, N, T, by omega, by omega, by go_num, by omega, h21⟩
          case measure => simp [intOf]; omega
    · have hexit : S ≤ k ∨ (k < S ∧ 30 ≤ k) := by omega
      clear hin
      have HBr : Hid (Below B w wr) := HBW.out _ hW.below
      have hBr : B ≤ wr.heap.size := by have h9 := hW.size; omega
      obtain ⟨v1, v2, hw1, hy1, -, -, -⟩ := (hW.old (w' := wr.drew) ⟨rfl, rfl, rfl, Nat.le_refl _, fun _ _ => rfl⟩).both
      obtain ⟨b2, hp2, ho2, hs2, hv2, hl2, -⟩ := hy1
      have cy := cell3_0 hp2
      have hby : Hid (Calls Try.prog 18 #[.pointer (some ⟨p, 0, none⟩)] wr.drew fun e w' => ∃ v', e = .returned v' ∧ Lies w' v' b2 ∧ Lies w' v2 b2 ∧ w'.cell? ⟨yb, 0, none⟩ = some v2 ∧ Below wr.heap.size wr w') := by
        refine (bytes_fr p wr.drew v1 N T hw1 (by omega)).mono ?_
        rintro e w' ⟨v', b1, rfl, ho, hsm1, hval1, hlen1, hb'⟩
        have e12 : b1 = b2 := by
          apply List.ext_getElem (by rw [hlen1, hl2])
          intro j h1 h2
          have e1 := val_byte hsm1 j
          have e2 := val_byte hs2 j
          rw [hval1] at e1
          rw [hv2] at e2
          rw [e1] at e2
          simpa [h1, h2] using e2
        subst e12
        exact ⟨v', rfl, lies_own ho, (lies_own ho2).old hb', cell_old hb' cy, ((Below.refl _ wr).drew).trans hb'⟩
      have hlen2 : b2.length ≤ 281474976710656 := by omega
      have hsame : Hid (∀ wx v', Lies wx v' b2 → Lies wx v2 b2 → Calls Try.prog 17 #[v', v2] wx fun e w' => e = .returned (.bool true) ∧ Below wx.heap.size wx w') := fun wx v' h1 h2 => (same_any wx v' v2 b2 b2 h1 h2 hlen2).mono fun e w' ⟨e1, e2⟩ => ⟨by rw [e1]; simp, e2⟩
      have HCY : Hid (wr.drew.cell? ⟨yb, 0, none⟩ = some v2) := cy
      clear hw1 hp2 ho2 hs2 hv2 hl2 hlen2
      rcases hexit with he | he
      all_goals
        go_wp2
        go_region_with (first
          | (go_at_call 18; (with_reducible refine hby.out.mono ?_); rintro e w23 ⟨v', rfl, i23, j23, c23, b23⟩)
          | (go_at_call 17; (with_reducible refine (hsame.out _ _ i23 j23).mono ?_); rintro e w24 ⟨rfl, b24⟩)
          | (go_at_call 11; (with_reducible refine (hwk.out _).mono ?_); rintro e w25 ⟨rfl, b25⟩))
        all_goals
          go_wp2
          go_ret
          rw [← HB.out]
          exact ⟨rfl, ((HBr.out.trans (b23.mono hBr)).trans (b24.mono (Nat.le_trans hBr b23.size))).trans (b25.mono (Nat.le_trans (Nat.le_trans hBr b23.size) b24.size))⟩
end Go.Proofs.Ythkkahpfbgopjaa
