/-
  LzTells: its walk.
-/
import Derived.Test.YthjnkoagmjcjfaaTla
import Derived.Deep.DeepCutAuto
import Derived.Deep.RegionWith
set_option linter.unusedSimpArgs false
set_option linter.unusedVariables false
namespace Go.Proofs.Ythjnkoagmjcjfaa
open Go.RowKit

theorem splitR_hid (b : List Nat) (hb : b.length ≤ 5864062014000) : Hid (∀ w v, Lies w v b → Calls Try.prog 17 #[v] w fun e w' => ∃ v', e = .returned v' ∧ Tells w' v' (splitL b) ∧ Below w.heap.size w w') := by
  intro w v hv
  refine (splitR_walk w v b hv hb).mono ?_
  rintro e w' ⟨v', rfl, h, hbl⟩
  exact ⟨v', rfl, tells_own h, hbl⟩

theorem lend_hid (bs : List Nat) (hl : bs.length ≤ 140737488351232) : Hid (∀ w v, Lies w v bs → Calls Try.prog 15 #[v] w fun e w' => ∃ g, e = .returned (.slice (some ⟨g, 0, none⟩) bs.length (bs.length + 3)) ∧ Lent w' g bs ∧ Below w.heap.size w w' ∧ w.heap.size ≤ g) := fun w v hv => lend_walk w v bs hv hl

theorem intact_hid (bs : List Nat) (hl : bs.length ≤ 140737488351232) : Hid (∀ w g v, Lent w g bs → Lies w v bs → Calls Try.prog 18 #[.slice (some ⟨g, 0, none⟩) bs.length (bs.length + 3), v] w fun e w' => e = .returned (.bool true) ∧ Below w.heap.size w w') := fun w g v h hv => intact_walk w g v bs h hv hl

theorem joinR_hid (l : List St) (out : List Nat) (hl : l.length ≤ 140737488355328) (h : joinL [] l = some out) : Hid (∀ w v, Tells w v l → Calls Try.prog 19 #[v] w fun e w' => ∃ v', e = .returned (.tuple #[v', .bool true]) ∧ Lies w' v' out ∧ Below w.heap.size w w') := by
  intro w v hv
  refine (joinR_walk w v l hv hl).mono ?_
  rintro e w' ⟨⟨out', v', h1, rfl, h2⟩ | ⟨h1, _⟩, hb⟩
  · rw [h] at h1
    cases h1
    exact ⟨v', rfl, lies_own h2, hb⟩
  · rw [h] at h1; cases h1

theorem joinR_bad (l : List St) (hl : l.length ≤ 140737488355328) (h : joinL [] l = none) : Hid (∀ w v, Tells w v l → Calls Try.prog 19 #[v] w fun e w' => e = .returned (.tuple #[.slice none 0 0, .bool false]) ∧ Below w.heap.size w w') := by
  intro w v hv
  refine (joinR_walk w v l hv hl).mono ?_
  rintro e w' ⟨⟨out', v', h1, rfl, h2⟩ | ⟨h1, rfl⟩, hb⟩
  · rw [h] at h1; cases h1
  · exact ⟨rfl, hb⟩

theorem joinL_len (l : List St) : ∀ o out, o.length ≤ 65536 → joinL o l = some out → out.length ≤ 65536 := by
  induction l with
  | nil => intro o out h e; simp [joinL] at e; rw [← e]; exact h
  | cons s l ih =>
    intro o out h e
    simp only [joinL] at e
    cases hs : stepJ o s with
    | none => rw [hs] at e; cases e
    | some o' =>
      rw [hs] at e
      refine ih o' out ?_ e
      unfold stepJ at hs
      split at hs
      · rename_i hf
        obtain ⟨⟨f0, f1⟩, f2, f3⟩ := hf
        split at hs
        · cases hs; simp; omega
        · cases hs; rw [rowOf_len]; omega
      · cases hs

/-- What both make of the same steps. -/
theorem join_both (l : List St) (hl : l.length ≤ 140737488355328) : ∃ (ok : Bool) (out : List Nat), Hid (out.length ≤ 65536) ∧ Hid (∀ w v, Tells w v l → Calls Try.prog 11 #[v] w fun e w' => ∃ v', e = .returned (.tuple #[v', .bool ok]) ∧ Lies w' v' out ∧ Below w.heap.size w w') ∧
    Hid (∀ w v, Tells w v l → Calls Try.prog 19 #[v] w fun e w' => ∃ v', e = .returned (.tuple #[v', .bool ok]) ∧ Lies w' v' out ∧ Below w.heap.size w w') := by
  have hnil : ∀ w, Lies w (.slice none 0 0) [] := fun w => ⟨none, 0, rfl, by simp, fun _ => rfl, fun a ha => by cases ha⟩
  cases h : joinL [] l with
  | none =>
    refine ⟨false, [], (by decide : [].length ≤ 65536), fun w v hv => ((join_bad l hl h).out w v hv).mono ?_, fun w v hv => ((joinR_bad l hl h).out w v hv).mono ?_⟩
    all_goals
      rintro e w' ⟨rfl, hb⟩
      exact ⟨_, rfl, hnil _, hb⟩
  | some out => exact ⟨true, out, joinL_len l [] out (by decide) h, join_hid l out hl h, joinR_hid l out hl h⟩

theorem cell_fr {q : Nat} {w w' : World} (h : Fr (some q) none w w') {a : Addr} {u : Value} (ha : w.cell? a = some u) (hq : a.block < q) : w'.cell? a = some u := by
  have hb := h.block a.block (cell_lt ha) (by simp; omega) (by simp)
  simp only [World.cell?] at ha ⊢
  rw [hb]
  exact ha

theorem two_set {w : World} {q : Nat} {p a b : Value} {t : TypeId} (h : w.heap[q]? = some (.cells #[p, a, b] t (0, 0))) (x y : Value) : ((w.setCell ⟨q, 1, none⟩ x).setCell ⟨q, 2, none⟩ y).heap[q]? = some (.cells #[p, x, y] t (0, 0)) := by
  rw [row_setCell (row_setCell h 1 x) 2 y]
  rfl

theorem two_fr (w : World) (q : Nat) (x y : Value) : Fr (some q) none w ((w.setCell ⟨q, 1, none⟩ x).setCell ⟨q, 2, none⟩ y) := ((Fr.refl _ _ _).setCell q 1 x (.inl rfl)).setCell q 2 y (.inl rfl)

theorem owns_frq {w w' : World} {B e n q : Nat} {v : Value} {xs : List Value} (h : w.ownsRow B e 3 v n xs) (hf : Fr (some q) none w w') (hq : v.ownBlock ≠ some q) : w'.ownsRow B e 3 v n xs := by
  refine ⟨h.1, ?_⟩
  rcases h.2 with h2 | ⟨g, cap, cur, rfl, hB, hg, r⟩
  · exact .inl h2
  · refine .inr ⟨g, cap, cur, rfl, hB, ?_, r⟩
    rw [hf.block g (lt_of_block hg) (fun h => hq (by rw [← h]; rfl)) (by simp)]
    exact hg

theorem blk_alloc {w : World} {q : Nat} {o x : Obj} (h : w.heap[q]? = some o) : (w.alloc x).heap[q]? = some o :=
  (Below.heap_alloc _ _ _ (by rcases Nat.lt_or_ge q w.heap.size with h' | h'; exact h'; simp [Array.getElem?_eq_none h'] at h)).trans h

theorem Hid.mk' {p : Prop} (h : p) : Hid p := h

theorem heap_alloc2 (w : World) (x y : Obj) : ((w.alloc x).alloc y).heap[w.heap.size + 1]? = some y := by
  have h := heap_alloc_new (w.alloc x) y
  simpa using h

theorem below_h0 {B : Nat} {w w' : World} (h1 : w'.os = w.os) (h2 : w'.tape = w.tape) (h3 : w'.output = w.output) (h : w'.heap = w.heap) : Below B w w' :=
  ⟨h1, h2, h3, by rw [h]; exact Nat.le_refl _, fun k hk => by rw [h]⟩
theorem below_h1 {B : Nat} {w w' : World} {x : Obj} (h1 : w'.os = w.os) (h2 : w'.tape = w.tape) (h3 : w'.output = w.output) (hB : B ≤ w.heap.size) (h : w'.heap = w.heap.push x) : Below B w w' := by
  have a1 : Below B w (w.alloc x) := (Below.refl _ _).alloc hB _
  exact ⟨h1, h2, h3, by rw [h]; exact a1.size, fun k hk => by rw [h]; exact a1.block k hk⟩
theorem below_h2 {B : Nat} {w w' : World} {x y : Obj} (h1 : w'.os = w.os) (h2 : w'.tape = w.tape) (h3 : w'.output = w.output) (hB : B ≤ w.heap.size) (h : w'.heap = (w.heap.push x).push y) : Below B w w' := by
  have a1 : Below B w (w.alloc x) := (Below.refl _ _).alloc hB _
  have a2 : Below B w ((w.alloc x).alloc y) := a1.alloc (by simp; omega) _
  exact ⟨h1, h2, h3, by rw [h]; exact a2.size, fun k hk => by rw [h]; exact a2.block k hk⟩

theorem stL_eq (b : Nat) (l d : Int) : stL ⟨b, l, d⟩ = [.int .u8 (b : Int), .int .i64 l, .int .i64 d] := rfl

set_option maxRecDepth 100000 in
set_option maxHeartbeats 8000000 in
theorem tells_law (w : World) (v u1 u2 u3 u4 : Value) (bs : List Nat) (zs ys ls ds : List Int) (code n : Int) (hv : Lies w v bs) (hu1 : Ints w u1 zs) (hu2 : Ints w u2 ys) (hu3 : Ints w u3 ls) (hu4 : Ints w u4 ds)
    (hbl : bs.length ≤ 140737488355328) (hzl : zs.length ≤ 140737488355328) (hyl : ys.length ≤ 140737488355328) :
    Calls Try.prog 5 #[v, u1, u2, u3, u4, .int .i64 code, .int .i64 n] w fun e w' => e = .returned (.bool true) ∧ Below w.heap.size w w' := by
  have htx := text_hid w v u1 u2 bs zs ys hv hu1 hu2 hbl hzl hyl
  have hwk := wakes_hid
  clear hv hu1 hu2 hbl hzl hyl
  obtain ⟨la, lc, rfl, hla2, hla3, hla4⟩ := hu3
  obtain ⟨da, dc, rfl, hda2, hda3, hda4⟩ := hu4
  have HLA : Hid (∀ k, k < ls.length → ∃ A, la = some A ∧ w.cell? (A.add k) = some (.int .i64 (ls.getD k 0))) := fun k hk => by
    cases la with
    | none => have := hla3 rfl; omega
    | some A => exact ⟨A, rfl, hla4 A rfl k hk⟩
  have HDA : Hid (∀ k, k < ds.length → ∃ A, da = some A ∧ w.cell? (A.add k) = some (.int .i64 (ds.getD k 0))) := fun k hk => by
    cases da with
    | none => have := hda3 rfl; omega
    | some A => exact ⟨A, rfl, hda4 A rfl k hk⟩
  obtain ⟨M, hM⟩ : ∃ M, M = ls.length := ⟨_, rfl⟩
  obtain ⟨G, hG⟩ : ∃ G, G = ds.length := ⟨_, rfl⟩
  rw [← hM] at HLA ⊢
  rw [← hG] at HDA ⊢
  clear hM hG hla2 hla3 hla4 hda2 hda3 hda4
  obtain ⟨P, hP⟩ : ∃ P, P = w.heap.size := ⟨_, rfl⟩
  rw [← hP] at htx ⊢
  have HP : Hid (P = w.heap.size) := hP
  clear hP
  go_enter Try.func5, Try.ntmps5
  go_upto_region 3 with (first
    | (go_at_call 14; (with_reducible refine htx.out.mono ?_); rintro e w1 ⟨⟨v1, t, rfl, ho1, htl⟩, hb1⟩
       have hsp := split_hid t (splitL t) rfl (by omega)
       have hsr := splitR_hid t (by omega)
       have hsm := sameR_hid (splitL t) (by have := runL_len t t.length 0; unfold splitL; omega)
       have hle := lend_hid t (by omega)
       have hin := intact_hid t (by omega)
       have HLY : Hid (Lies w1 v1 t) := lies_own ho1
       clear ho1 htl)
    | (go_at_call 15; (with_reducible refine (hle.out _ _ HLY.out).mono ?_); rintro e w2 ⟨g, rfl, hlen2, hb2, hg⟩
       have HLE : Hid (Lent w2 g t) := hlen2
       have HL2 : Hid (Lies w2 v1 t) := HLY.out.old hb2
       have HB2 : Hid (Below P w w2) := hb1.trans (hb2.mono (by have := HP.out; have := hb1.size; omega))
       clear hlen2 hb2 hb1 hg))
  obtain ⟨N, hN⟩ : ∃ N, N = t.length := ⟨_, rfl⟩
  rw [← hN] at hin ⊢
  have HN : Hid (N = t.length) := hN
  clear hN htx hle
  go_upto_region 4 with (first
    | (go_at_call 9; (with_reducible refine (hsp.out _ _ (HN.out ▸ HLE.out.lies)).mono ?_); rintro e w3 ⟨v3, rfl, ht3, hb3⟩
       have HT3 : Hid (Tells w3 v3 (splitL t)) := ht3
       have HL3 : Hid (Lies w3 v1 t) := HL2.out.old hb3
       have HE3 : Hid (Lent w3 g t) := owns_below HLE.out hb3
       clear ht3)
    | (go_at_call 17; (with_reducible refine (hsr.out _ _ HL3.out).mono ?_); rintro e w4 ⟨v4, rfl, ht4, hb4⟩
       have HT4 : Hid (Tells w4 v3 (splitL t)) := HT3.out.old hb4
       have HT5 : Hid (Tells w4 v4 (splitL t)) := ht4
       have HL4 : Hid (Lies w4 v1 t) := HL3.out.old hb4
       have HE4 : Hid (Lent w4 g t) := owns_below HE3.out hb4
       clear ht4)
    | (go_at_call 16; (with_reducible refine (hsm.out _ _ _ HT4.out HT5.out).mono ?_); rintro e w5 ⟨rfl, hb5⟩
       have HL5 : Hid (Lies w5 v1 t) := HL4.out.old hb5
       have HE5 : Hid (Lent w5 g t) := owns_below HE4.out hb5)
    | (go_at_call 18; (with_reducible refine (hin.out _ _ _ HE5.out HL5.out).mono ?_); rintro e w6 ⟨rfl, hb6⟩))
  have HW : Hid (Below P w w6) := ((((HB2.out.trans (hb3.mono (by have := HP.out; have := HB2.out.size; omega))).trans (hb4.mono (by have := HP.out; have := HB2.out.size; have := hb3.size; omega))).trans (hb5.mono (by have := HP.out; have := HB2.out.size; have := hb3.size; have := hb4.size; omega))).trans (hb6.mono (by have := HP.out; have := HB2.out.size; have := hb3.size; have := hb4.size; have := hb5.size; omega)))
  clear hb3 hb4 hb5 hb6 HLE HL2 HB2 HT3 HL3 HE3 HT4 HT5 HL4 HE4 HL5 HE5 hsp hsr hsm hin HLY HN
  have hst : Hid (Steps P 27 w6 (.slice none 0 0) [] ∧ Steps P 41 w6 (.slice none 0 0) []) := ⟨World.ownsRow_nil _ _ _ _, World.ownsRow_nil _ _ _ _⟩
  go_wp2
  go_loopw [17, 18, 19] (fun lv mv i wr => ∃ (j : Nat) (st : List St), Hid (st.length = j) ∧ (j : Int) ≤ 12 ∧ i = .int .i64 j ∧ Hid (Steps P 27 wr lv st) ∧ Hid (Steps P 41 wr mv st) ∧ Below P w wr) (fun _ _ i _ => 12 - (intOf i).toNat)
  case atStart => exact ⟨0, [], rfl, by decide, rfl, hst.out.1, hst.out.2, HW.out⟩
  case round =>
    obtain ⟨j, st, HSL, hj12, rfl, HSA, HSB, hb⟩ := hrel
    clear hst HW
    have hPw : P ≤ wr.heap.size := by have := HP.out; have := hb.size; omega
    go_upto_region 8 with fail
    go_cut [80] (fun c wx => c = .bool (decide (j < M ∧ j < G ∧ (j : Int) < 12)) ∧ wx = wr)
    case first =>
      clear HSL HSA HSB HLA HDA
      by_cases c1 : j < M
      · by_cases c2 : j < G
        · by_cases c3 : (j : Int) < 12
          · go_wp2
            go_meet
            case rel => exact ⟨congrArg Value.bool (decide_eq_true ⟨c1, c2, c3⟩).symm, rfl⟩
          · go_wp2
            go_meet
            case rel => exact ⟨congrArg Value.bool (decide_eq_false (fun h => by have := h.2.2; omega)).symm, rfl⟩
        · go_wp2
          go_meet
          case rel => exact ⟨congrArg Value.bool (decide_eq_false (fun h => c2 h.2.1)).symm, rfl⟩
      · go_wp2
        go_meet
        case rel => exact ⟨congrArg Value.bool (decide_eq_false (fun h => c1 h.1)).symm, rfl⟩
    case' rest =>
      obtain ⟨rfl, hwx⟩ := hcut
      have hwx := hwx.symm
      subst hwx
    by_cases hin : j < M ∧ j < G ∧ (j : Int) < 12
    · rw [decide_eq_true hin]
      obtain ⟨h1, h2, h3⟩ := hin
      obtain ⟨A, rfl, c1⟩ := HLA.out j h1
      obtain ⟨A2, rfl, c2⟩ := HDA.out j h2
      obtain ⟨x, hx⟩ : ∃ x, x = ls.getD j 0 := ⟨_, rfl⟩
      obtain ⟨y, hy⟩ : ∃ y, y = ds.getD j 0 := ⟨_, rfl⟩
      rw [← hx] at c1
      rw [← hy] at c2
      have c1 := cell_old (HP.out ▸ hb) c1
      have c2 := cell_old (HP.out ▸ hb) c2
      clear hx hy
      have hcv : (j : Int) % 256 = j := by omega
      go_upto_if 91 with (first
        | (refine wpList_store_row rfl 27 (.tmp 20) (.tmp 85) rfl wr.heap.size #[.int .u8 (j : Int), .int .i64 0, .int .i64 0] rfl rfl 27 _ (heap_alloc_new wr _) Try.size27 rfl (stC_one j 0 0) ?_
           rw [World.setRow_alloc_new]
           have q1 := heap_alloc_new wr (.cells #[.int .u8 (j : Int), .int .i64 0, .int .i64 0] 27)
           have q2 : Below wr.heap.size wr (wr.alloc (.cells #[.int .u8 (j : Int), .int .i64 0, .int .i64 0] 27)) := (Below.refl _ _).alloc (Nat.le_refl _) _
           have nA := cell_lt c1
           have nA2 := cell_lt c2
           have c1 := cell_old q2 c1
           have c2 := cell_old q2 c2
           generalize hq : wr.heap.size = q at *
           generalize wr.alloc (.cells #[.int .u8 (j : Int), .int .i64 0, .int .i64 0] 27) = w2 at *
           have T1 : Hid (w2.heap[q]? = some (.cells #[.int .u8 (j : Int), .int .i64 0, .int .i64 0] 27 (0, 0))) := q1
           have T2 : Hid (Below q wr w2) := q2
           clear q1 q2))
      try simp only [Act.put]
      go_cut [] (fun wx => ∃ (L D : Int), Hid (wx.heap[q]? = some (.cells #[.int .u8 (j : Int), .int .i64 L, .int .i64 D] 27 (0, 0))) ∧ wx.cell? (A.add j) = some (.int .i64 x) ∧ wx.cell? (A2.add j) = some (.int .i64 y) ∧ Hid (Fr (some q) none w2 wx))
      case first =>
        clear HSL HSA HSB hb hPw HLA HDA T2
        have hq1 := cell3_1 T1.out
        have hq2 := cell3_2 T1.out
        have f1 : ∀ o, w2.frozen? ⟨q, o, none⟩ = false := free_at T1.out
        by_cases h3 : x.tmod 3 = 0
        · have e3 : (x.tmod 3 == 0) = true := by simp [h3]
          obtain ⟨r1, hr1, hwi1⟩ := within_lit2 x 262 262 (by decide) rfl (by decide)
          obtain ⟨r2, hr2, hwi2⟩ := within_lit2 y (4 * (j : Int) + 3) (4 * j + 3) (by omega) (by omega) (by omega)
          have e4 : IntKind.i64.wrap (4 * (j : Int)) = 4 * (j : Int) := by rw [IntKind.wrap_i64]; omega
          have e5 : IntKind.i64.wrap (4 * (j : Int) + 3) = 4 * (j : Int) + 3 := by rw [IntKind.wrap_i64]; omega
          have e6 : IntKind.i64.wrap ((r1 : Int) - 1) = (r1 : Int) - 1 := by rw [IntKind.wrap_i64]; omega
          have e7 : IntKind.i64.wrap ((r2 : Int) - 1) = (r2 : Int) - 1 := by rw [IntKind.wrap_i64]; omega
          clear h3 hr1 hr2
          go_wp2
          go_region_with (first
            | (go_at_call 8; (with_reducible refine (hwi1.out _).mono ?_); rintro e wx ⟨rfl, hx⟩; have hx := hx.symm; subst hx)
            | (go_at_call 8; (with_reducible refine (hwi2.out _).mono ?_); rintro e wx ⟨rfl, hx⟩; have hx := hx.symm; subst hx))
          all_goals go_wp2
          all_goals
            go_meet
            case rel =>
              exact ⟨_, _, two_set T1.out _ _, cell_fr ((two_fr _ _ _ _).drewN _) c1 nA, cell_fr ((two_fr _ _ _ _).drewN _) c2 nA2, (two_fr _ _ _ _).drewN _⟩
        · have e3 : (x.tmod 3 == 0) = false := by simp [h3]
          clear h3
          go_wp2
          go_meet
          case rel => exact ⟨0, 0, T1.out, c1, c2, Fr.refl _ _ _⟩
      case rest =>
        obtain ⟨L, D, HQ, c1, c2, HF⟩ := hcut
        rename_i w3
        clear T1
        go_upto_if 114 with fail
        go_cut [] (fun wx => ∃ (L D : Int), Hid (wx.heap[q]? = some (.cells #[.int .u8 (j : Int), .int .i64 L, .int .i64 D] 27 (0, 0))) ∧ Hid (Fr (some q) none w2 wx))
        case first =>
          clear HSL HSA HSB hb hPw HLA HDA T2
          have hq1 := cell3_1 HQ.out
          have hq2 := cell3_2 HQ.out
          have f1 : ∀ o, World.frozen? _ ⟨q, o, none⟩ = false := free_at HQ.out
          have k1 := fun o u => cell_fr ((Fr.refl (some q) none _).setCell q o u (.inl rfl)) c1 nA
          have k2 := fun o u => cell_fr ((Fr.refl (some q) none _).setCell q o u (.inl rfl)) c2 nA2
          by_cases h3 : x.tmod 31 = 30
          · have e3 : (x.tmod 31 == 30) = true := by simp [h3]
            clear h3
            go_wp2
            go_region
            all_goals go_wp2
            all_goals
              go_meet
              case rel =>
                exact ⟨_, _, two_set HQ.out _ _, HF.out.trans ((two_fr _ _ _ _).drewN _) (.inl rfl)⟩
          · have e3 : (x.tmod 31 == 30) = false := by simp [h3]
            clear h3
            go_wp2
            go_meet
            case rel => exact ⟨L, D, HQ.out, HF.out⟩
        case rest =>
          clear HQ HF c1 c2 nA nA2
          obtain ⟨L, D, HQ, HF⟩ := hcut
          have r0 := cell3_0 HQ.out
          have r1 := cell3_1 HQ.out
          have r2 := cell3_2 HQ.out
          have hA2 := owns_below HSA.out (hq ▸ T2.out)
          have hB2 := owns_below HSB.out (hq ▸ T2.out)
          have hnq : u17.ownBlock ≠ some q := fun h => by have := (HSA.out.lt _ h).2; omega
          have hnm : u18.ownBlock ≠ some q := fun h => by have := (HSB.out.lt _ h).2; omega
          have HA3 : Hid (World.ownsRow wc P 27 3 u17 j (cellsL st)) := HSL.out ▸ owns_frq hA2 HF.out hnq
          have HB3 : Hid (World.ownsRow wc P 41 3 u18 j (cellsL st)) := HSL.out ▸ owns_frq hB2 HF.out hnm
          have hPc : P ≤ wc.heap.size := by have := HF.out.size; have := T2.out.size; omega
          have HBC : Hid (Below P w wc) := (hb.trans (T2.out.mono (by omega))).trans (HF.out.below (by have := T2.out.size; omega) (fun k hk => by cases hk; omega) (fun k hk => by cases hk))
          have HNQ : Hid (u17.ownBlock ≠ some q) := hnq
          clear hA2 hB2 hnq hnm HSA HSB T2 hb hq
          go_wp2
          clear HF
          go_region_held3 (fun w' => w'.cell? ⟨q, 0, none⟩ = some (.int .u8 (j : Int)) ∧ w'.cell? ⟨q, 1, none⟩ = some (.int .i64 L) ∧ w'.cell? ⟨q, 2, none⟩ = some (.int .i64 D)) (first | go_keep | exact ⟨cell3_0 HQ5.out, cell3_1 HQ5.out, cell3_2 HQ5.out⟩ | exact ⟨cell3_0 HQ6.out, cell3_1 HQ6.out, cell3_2 HQ6.out⟩)
              (first
                | (refine step_pushT (by rfl) 24 27 (.tmp 125) (.tmp 127) (by rfl) Try.underlying24 Try.info27 P u17 j (cellsL st) (by rfl) (by (first | exact HA3.out | exact HA3.out.alloc _ | exact (HA3.out.alloc _).alloc _ | exact HA6.out | exact HA6.out.alloc _ | fail)) (.int .u8 (j : Int)) (.int .i64 L) (.int .i64 D) ⟨rfl, rfl, rfl⟩ _ (by rfl) (by (first | exact heap_alloc_new _ _ | exact heap_alloc2 _ _ _ | exact HK6.out _ _ (heap_alloc2 _ _ _) | exact (Below.heap_alloc _ _ _ (by simp)).trans (heap_alloc_new _ _) | exact HK6.out _ _ (heap_alloc_new _ _) | exact HK6.out _ _ ((Below.heap_alloc _ _ _ (by simp)).trans (heap_alloc_new _ _)) | fail)) (by omega) (by (first | exact hPc | (simp; omega) | exact hP5 | exact hP6 | fail)) ?_
                   intro g5 cap5 w5 ho5 hf5 hb5
                   have HO5 := Hid.mk' ho5
                   clear ho5
                   first
                   | (have HB5 : Hid (World.ownsRow w5 P 41 3 u18 j (cellsL st)) := fr_owns (B := P) (n := j) (e := 27) (xs := cellsL st) (by (first | exact HA3.out | exact HA3.out.alloc _ | exact (HA3.out.alloc _).alloc _ | exact HA6.out | exact HA6.out.alloc _ | fail)) hf5 (by (first | exact HB3.out | exact HB3.out.alloc _ | exact (HB3.out.alloc _).alloc _ | exact HB5.out | exact HB5.out.alloc _ | fail)) (by decide))
                   | (have HB5 : Hid (World.ownsRow w5 P 41 3 (.slice (some ⟨g6, 0, none⟩) (j + 1) cap6) (j + 1) (cellsL st ++ [.int .u8 (j : Int), .int .i64 L, .int .i64 D])) := fr_owns (B := P) (n := j) (e := 27) (xs := cellsL st) (by (first | exact HA3.out | exact HA3.out.alloc _ | exact (HA3.out.alloc _).alloc _ | exact HA6.out | exact HA6.out.alloc _ | fail)) hf5 (by first | exact HO6.out | exact HO6.out.alloc _ | fail) (by decide))
                   | fail
                   have HK5 := fun k c hk => fr_block (k := k) (c := c) (t := 41) (e := 27) (B := P) (n := j) (xs := cellsL st) (by (first | exact HA3.out | exact HA3.out.alloc _ | exact (HA3.out.alloc _).alloc _ | exact HA6.out | exact HA6.out.alloc _ | fail)) hf5 hk (by decide)
                   have HK5 := Hid.mk' HK5
                   have HC5 : Hid (Below P wc w5) := Below.trans (by (first | exact below_h0 rfl rfl rfl rfl | exact below_h1 rfl rfl rfl hPc rfl | exact below_h2 rfl rfl rfl hPc rfl | exact HC5.out.trans (below_h0 rfl rfl rfl rfl) | exact HC5.out.trans (below_h1 rfl rfl rfl hP5 rfl) | fail)) hb5
                   have HQ5 : Hid (w5.heap[q]? = some (.cells #[.int .u8 (j : Int), .int .i64 L, .int .i64 D] 27 (0, 0))) := fr_own27 (B := P) (n := j) (e := 27) (xs := cellsL st) (by (first | exact HA3.out | exact HA3.out.alloc _ | exact (HA3.out.alloc _).alloc _ | exact HA6.out | exact HA6.out.alloc _ | fail)) hf5 (by (first | exact HQ.out | exact blk_alloc HQ.out | exact blk_alloc (blk_alloc HQ.out) | exact HQ5.out | exact blk_alloc HQ5.out | exact HQ6.out | exact blk_alloc HQ6.out | fail)) HNQ.out
                   have hP5 : P ≤ w5.heap.size := Nat.le_trans (by (first | exact hPc | (simp; omega) | exact hP5 | exact hP6 | fail)) hb5.size)
                | (refine step_pushT (by rfl) 39 41 (.tmp 129) (.tmp 131) (by rfl) Try.underlying39 Try.info41 P u18 j (cellsL st) (by rfl) (by (first | exact HB3.out | exact HB3.out.alloc _ | exact (HB3.out.alloc _).alloc _ | exact HB5.out | exact HB5.out.alloc _ | fail)) (.int .u8 (j : Int)) (.int .i64 L) (.int .i64 D) ⟨rfl, rfl, rfl⟩ _ (by rfl) (by (first | exact heap_alloc_new _ _ | exact heap_alloc2 _ _ _ | exact HK5.out _ _ (heap_alloc2 _ _ _) | exact (Below.heap_alloc _ _ _ (by simp)).trans (heap_alloc_new _ _) | exact HK5.out _ _ (heap_alloc_new _ _) | exact HK5.out _ _ ((Below.heap_alloc _ _ _ (by simp)).trans (heap_alloc_new _ _)) | fail)) (by omega) (by (first | exact hPc | (simp; omega) | exact hP5 | exact hP6 | fail)) ?_
                   intro g6 cap6 w6 ho6 hf6 hb6
                   have HO6 := Hid.mk' ho6
                   clear ho6
                   first
                   | (have HA6 : Hid (World.ownsRow w6 P 27 3 u17 j (cellsL st)) := fr_owns (B := P) (n := j) (e := 41) (xs := cellsL st) (by (first | exact HB3.out | exact HB3.out.alloc _ | exact (HB3.out.alloc _).alloc _ | exact HB5.out | exact HB5.out.alloc _ | fail)) hf6 (by (first | exact HA3.out | exact HA3.out.alloc _ | exact (HA3.out.alloc _).alloc _ | exact HA6.out | exact HA6.out.alloc _ | fail)) (by decide))
                   | (have HA6 : Hid (World.ownsRow w6 P 27 3 (.slice (some ⟨g5, 0, none⟩) (j + 1) cap5) (j + 1) (cellsL st ++ [.int .u8 (j : Int), .int .i64 L, .int .i64 D])) := fr_owns (B := P) (n := j) (e := 41) (xs := cellsL st) (by (first | exact HB3.out | exact HB3.out.alloc _ | exact (HB3.out.alloc _).alloc _ | exact HB5.out | exact HB5.out.alloc _ | fail)) hf6 (by first | exact HO5.out | exact HO5.out.alloc _ | fail) (by decide))
                   | fail
                   have HK6 := fun k c hk => fr_block (k := k) (c := c) (t := 27) (e := 41) (B := P) (n := j) (xs := cellsL st) (by (first | exact HB3.out | exact HB3.out.alloc _ | exact (HB3.out.alloc _).alloc _ | exact HB5.out | exact HB5.out.alloc _ | fail)) hf6 hk (by decide)
                   have HK6 := Hid.mk' HK6
                   have HC6 : Hid (Below P wc w6) := Below.trans (by (first | exact below_h0 rfl rfl rfl rfl | exact below_h1 rfl rfl rfl hPc rfl | exact below_h2 rfl rfl rfl hPc rfl | exact HC5.out.trans (below_h0 rfl rfl rfl rfl) | exact HC5.out.trans (below_h1 rfl rfl rfl hP5 rfl) | fail)) hb6
                   have HQ6 : Hid (w6.heap[q]? = some (.cells #[.int .u8 (j : Int), .int .i64 L, .int .i64 D] 27 (0, 0))) := fr_block (B := P) (n := j) (e := 41) (xs := cellsL st) (by (first | exact HB3.out | exact HB3.out.alloc _ | exact (HB3.out.alloc _).alloc _ | exact HB5.out | exact HB5.out.alloc _ | fail)) hf6 (by (first | exact HQ.out | exact blk_alloc HQ.out | exact blk_alloc (blk_alloc HQ.out) | exact HQ5.out | exact blk_alloc HQ5.out | exact HQ6.out | exact blk_alloc HQ6.out | fail)) (by decide)
                   have hP6 : P ≤ w6.heap.size := Nat.le_trans (by (first | exact hPc | (simp; omega) | exact hP5 | exact hP6 | fail)) hb6.size)
                | fail)
          all_goals go_wp2
          all_goals
            go_roundw
            case rel =>
              exact ⟨j + 1, st ++ [St.mk j L D], (by show _ = _; rw [List.length_append, HSL.out]; rfl), by omega, by go_num, steps_push (s := St.mk j L D) HSL.out HA6.out, steps_push (s := St.mk j L D) HSL.out HO6.out, HBC.out.trans HC6.out⟩
            case measure => simp [intOf]; omega
    · rw [decide_eq_false hin]
      clear hin
      have HTA := Hid.mk' (tells_own HSA.out)
      have HTB := Hid.mk' (tells_own HSB.out)
      obtain ⟨ok, out, HOL, hj1, hj2⟩ := join_both st (by rw [HSL.out]; omega)
      have hsb := sameB_hid out (by have := HOL.out; omega)
      clear HSA HSB HSL HLA HDA HOL
      clear hj12
      go_upto_if 154 with (first
        | (go_at_call 11; (with_reducible refine (hj1.out _ _ HTA.out).mono ?_); rintro e w8 ⟨v8, rfl, hl8, hb8⟩
           have HL8 : Hid (Lies w8 v8 out) := hl8
           have HTB8 := Hid.mk' (HTB.out.old hb8)
           clear hl8)
        | (go_at_call 19; (with_reducible refine (hj2.out _ _ HTB8.out).mono ?_); rintro e w9 ⟨v9, rfl, hl9, hb9⟩
           have HL9 : Hid (Lies w9 v8 out ∧ Lies w9 v9 out) := ⟨HL8.out.old hb9, hl9⟩
           clear hl9)
        | (go_at_call 12; (with_reducible refine (hsb.out _ _ _ HL9.out.1 HL9.out.2).mono ?_); rintro e w10 ⟨rfl, hb10⟩))
      have HB10 : Hid (Below P w w10) := ((hb.trans (hb8.mono hPw)).trans (hb9.mono (by have := hb8.size; omega))).trans (hb10.mono (by have := hb8.size; have := hb9.size; omega))
      have hP10 : P ≤ w10.heap.size := by have := hb8.size; have := hb9.size; have := hb10.size; omega
      clear hb hb8 hb9 hb10 HL8 HTB8 HL9 HTA HTB hj1 hj2 hsb
      go_cut [6] (fun x wx => (∃ n' : Int, x = .int .i64 n') ∧ wx = w10)
      case first =>
        by_cases h3 : n.tmod 3 = 0
        · have e3 : (n.tmod 3 != 0) = false := by simp [h3]
          clear h3
          go_wp2
          go_meet
          case rel => exact ⟨⟨_, rfl⟩, rfl⟩
        · have e3 : (n.tmod 3 != 0) = true := by simp [h3]
          clear h3
          obtain ⟨r1, hr1, hwi1⟩ := within_lit2 n 33000 33000 (by decide) rfl (by decide)
          clear hr1
          go_wp2_with (go_at_call 8; (with_reducible refine (hwi1.out _).mono ?_); rintro e wx ⟨rfl, hx⟩; have hx := hx.symm; subst hx)
          go_meet
          case rel => exact ⟨⟨_, rfl⟩, rfl⟩
      case rest =>
        obtain ⟨⟨n', rfl⟩, hwx⟩ := hcut
        subst hwx
        go_upto_if 159 with fail
        go_cut [5] (fun x wx => (∃ c' : Int, x = .int .i64 c') ∧ wx = wc)
        case first =>
          by_cases h3 : code.tmod 3 = 0
          · have e3 : (code.tmod 3 != 0) = false := by simp [h3]
            clear h3
            go_wp2
            go_meet
            case rel => exact ⟨⟨_, rfl⟩, rfl⟩
          · have e3 : (code.tmod 3 != 0) = true := by simp [h3]
            clear h3
            obtain ⟨r1, hr1, hwi1⟩ := within_lit2 code 300 300 (by decide) rfl (by decide)
            have hr2 : (r1 : Int) < 300 := by omega
            clear hr1
            go_wp2_with (go_at_call 8; (with_reducible refine (hwi1.out _).mono ?_); rintro e wx ⟨rfl, hx⟩; have hx := hx.symm; subst hx)
            go_meet
            case rel => exact ⟨⟨_, rfl⟩, rfl⟩
        case rest =>
          obtain ⟨⟨c', rfl⟩, hwx⟩ := hcut
          subst hwx
          obtain ⟨a1, a2, a3, b1, b2⟩ := lenCode_both (n'.tmod 300)
          obtain ⟨a4, a5, a6, b3, b4⟩ := disCode_both n'
          obtain ⟨a7, a8, a9, b5, b6⟩ := lenOf_both c'
          obtain ⟨d7, d8, d9, b7, b8⟩ := disOf_both (c'.tmod 40)
          go_wp2_with (first
            | (go_at_call 20; (with_reducible refine (b1.out _).mono ?_); rintro e wx ⟨rfl, hx⟩; have hx := hx.symm; subst hx)
            | (go_at_call 21; (with_reducible refine (b2.out _).mono ?_); rintro e wx ⟨rfl, hx⟩; have hx := hx.symm; subst hx)
            | (go_at_call 22; (with_reducible refine (b3.out _).mono ?_); rintro e wx ⟨rfl, hx⟩; have hx := hx.symm; subst hx)
            | (go_at_call 23; (with_reducible refine (b4.out _).mono ?_); rintro e wx ⟨rfl, hx⟩; have hx := hx.symm; subst hx)
            | (go_at_call 24; (with_reducible refine (b5.out _).mono ?_); rintro e wx ⟨rfl, hx⟩; have hx := hx.symm; subst hx)
            | (go_at_call 25; (with_reducible refine (b6.out _).mono ?_); rintro e wx ⟨rfl, hx⟩; have hx := hx.symm; subst hx)
            | (go_at_call 26; (with_reducible refine (b7.out _).mono ?_); rintro e wx ⟨rfl, hx⟩; have hx := hx.symm; subst hx)
            | (go_at_call 27; (with_reducible refine (b8.out _).mono ?_); rintro e wx ⟨rfl, hx⟩; have hx := hx.symm; subst hx)
            | (go_at_call 13; (with_reducible refine (hwk.out _).mono ?_); rintro e w11 ⟨rfl, hb11⟩))
          go_ret
          exact ⟨rfl, HB10.out.trans (hb11.mono hP10)⟩
end Go.Proofs.Ythjnkoagmjcjfaa
