/-
  Plain mathematics of Full: lengths that are split, one of them at a time, fill the room; noughts among them change nothing. The document's Fixed. The document's codes (florilegiumref01.Codes).
-/
import Derived.Test.YtdokpimhhkbdbaaDoorCa
import Derived.Test.YtdokpimhhkbdbaaDoorMk
import Derived.Test.YtdokpimhhkbdbaaDoorFi
import Derived.Deep.DeepCutAuto
import Derived.Test.YtdokpimhhkbdbaaDoorPu
set_option linter.unusedSimpArgs false
set_option linter.unusedVariables false
namespace Go.Proofs.YtdokpimhhkbdbaaDoor

def wt1 (n : Nat) : Nat := 2 ^ (15 - n)
def wsum (ls : List Nat) : Nat := (ls.map wt1).sum

theorem wt1_half {x : Nat} (hx : x < 15) : wt1 (x + 1) + wt1 (x + 1) = wt1 x := by
  unfold wt1
  have e : 15 - x = (15 - (x + 1)) + 1 := by omega
  rw [e, Nat.pow_succ]
  omega

theorem wsum_set (ls : List Nat) (r y : Nat) (hr : r < ls.length) : wsum (ls.set r y) + wt1 (nth ls r) = wsum ls + wt1 y := by
  induction ls generalizing r with
  | nil => simp at hr
  | cons a ls ih =>
    cases r with
    | zero => simp [wsum, nth]; omega
    | succ r =>
      have := ih r (by simpa using hr)
      have e : nth (a :: ls) (r + 1) = nth ls r := by simp [nth]
      rw [e]
      simp only [wsum, List.set_cons_succ, List.map_cons, List.sum_cons] at this ⊢
      omega

structure Inv (ls : List Nat) (k : Nat) : Prop where
  len : ls.length ≤ k + 1
  le : ∀ x ∈ ls, x ≤ 15
  sum : wsum ls = 32768
  shape : ls = [0] ∨ (2 ≤ ls.length ∧ ∀ x ∈ ls, 1 ≤ x)

theorem Inv.start : Inv [0] 0 := ⟨by simp, by simp, by decide, .inl rfl⟩
theorem Inv.keep {ls : List Nat} {k : Nat} (h : Inv ls k) : Inv ls (k + 1) := ⟨by have := h.len; omega, h.le, h.sum, h.shape⟩
theorem Inv.pos {ls : List Nat} {k : Nat} (h : Inv ls k) : 0 < ls.length := by
  rcases h.shape with rfl | ⟨h, _⟩
  · simp
  · omega

theorem Inv.split {ls : List Nat} {k r x : Nat} (h : Inv ls k) (hr : r < ls.length) (hx : nth ls r = x) (h15 : x < 15) : Inv (ls.set r (x + 1) ++ [x + 1]) (k + 1) := by
  have hlen := h.len
  refine ⟨by simp; omega, ?_, ?_, ?_⟩
  · intro y hy
    rcases List.mem_append.1 hy with hy | hy
    · rcases List.mem_or_eq_of_mem_set hy with h1 | h1
      · exact h.le y h1
      · omega
    · simp at hy; omega
  · have h1 := wsum_set ls r (x + 1) hr
    rw [hx, ← wt1_half h15, h.sum] at h1
    have h2 : wsum (ls.set r (x + 1) ++ [x + 1]) = wsum (ls.set r (x + 1)) + wt1 (x + 1) := by simp [wsum]
    omega
  · right
    refine ⟨by simp; omega, ?_⟩
    intro y hy
    rcases List.mem_append.1 hy with hy | hy
    · rcases h.shape with rfl | ⟨_, hall⟩
      · have : r = 0 := by simpa using hr
        subst this
        simp at hy
        omega
      · rcases List.mem_or_eq_of_mem_set hy with h1 | h1
        · exact hall y h1
        · omega
    · simp at hy; omega

/-- What Full has ahead of its noughts. -/
structure Fin1 (ls : List Nat) : Prop where
  pos : 1 ≤ ls.length
  len : ls.length ≤ 41
  le : ∀ x ∈ ls, x ≤ 15
  fits : Fits ls

theorem wsum_room {ls : List Nat} (h : ∀ x ∈ ls, 1 ≤ x) : room ls = wsum ls := by
  unfold room wsum
  congr 1
  apply List.map_congr_left
  intro x hx
  have := h x hx
  unfold wt wt1
  rw [if_neg (by omega)]

theorem Inv.fin {ls : List Nat} {k : Nat} (h : Inv ls k) (hk : k ≤ 40) (h1 : ls.length ≠ 1) : Fin1 ls := by
  have hlen := h.len
  rcases h.shape with rfl | ⟨h2, hall⟩
  · simp at h1
  · exact ⟨by omega, by omega, h.le, .inl (by rw [rm_room h.le, wsum_room hall, h.sum])⟩

theorem fin_one : Fin1 [1] := ⟨by simp, by simp, by simp, by unfold Fits; decide⟩

theorem Inv.one {ls : List Nat} {k : Nat} (h : Inv ls k) (h1 : ls.length = 1) : ls = [0] := by
  rcases h.shape with rfl | ⟨h2, _⟩
  · rfl
  · omega

/-- The same codes. -/
def Outs (os ls : List Nat) : Prop := ∀ n, cn os n = cn ls n

theorem cn_append (os : List Nat) (x n : Nat) : cn (os ++ [x]) n = if n = x ∧ n ≠ 0 then cn os n + 1 else cn os n := by
  unfold cn
  by_cases h : n = 0
  · simp [h]
  · simp only [h, ↓reduceIte, List.count_append, List.count_singleton, ne_eq, not_false_eq_true, and_true, beq_iff_eq]
    by_cases h2 : n = x
    · simp [h2]
    · have : ¬ x = n := fun e => h2 e.symm
      simp [h2, this]

theorem Outs.zero {os ls : List Nat} (h : Outs os ls) : Outs (os ++ [0]) ls := fun n => by
  rw [cn_append, if_neg (fun e => e.2 e.1)]
  exact h n

theorem Outs.next {os ls : List Nat} {j : Nat} (h : Outs os (ls.take j)) (hj : j < ls.length) : Outs (os ++ [nth ls j]) (ls.take (j + 1)) := fun n => by
  rw [cn_append, cn_take _ _ _ hj, h n]

theorem fits_congr {a b : List Nat} (h : Outs a b) : Fits a ↔ Fits b := by
  have h1 : ∀ m, rm a m = rm b m := by
    intro m
    induction m with
    | zero => rfl
    | succ m ih => simp only [rm, ih, h m]
  have h2 : ∀ m, sho a m = sho b m := by
    intro m
    induction m with
    | zero => rfl
    | succ m ih => simp only [sho, ih, h m]
  unfold Fits
  rw [h1, h2, h 1]

/-- What Full answers. -/
structure Good (ls : List Nat) : Prop where
  pos : 1 ≤ ls.length
  len : ls.length ≤ 82
  le : ∀ x ∈ ls, x ≤ 15
  fits : Fits ls

theorem nat_at {w : World} {B g cap : Nat} {ls : List Nat} {n : Nat} (hn : ls.length = n) (h : w.ownsRow B 3 1 (.slice (some ⟨g, 0, none⟩) n cap) n (ls.map natV)) (r : Nat) (hr : r < n) : w.cell? ⟨g, r, none⟩ = some (.int .i64 (nth ls r : Nat)) := by
  rw [h.cellAt r (by omega)]
  have : r < ls.length := by omega
  simp [this, natV, nth]

theorem map_set_nat (ls : List Nat) (r y : Nat) : (ls.map natV).set r (.int .i64 (y : Int)) = (ls.set r y).map natV := by
  rw [List.map_set]; rfl

end Go.Proofs.YtdokpimhhkbdbaaDoor

set_option linter.unusedSimpArgs false
set_option linter.unusedVariables false
namespace Go.Proofs.YtdokpimhhkbdbaaDoor
open Go.RowKit

theorem lits_val : ∀ k, k < 288 → nth litsL k = if k < 144 ∨ 280 ≤ k then 8 else if k < 256 then 9 else 7 := by decide +kernel

/-- The first k of l, then noughts. -/
def begun (l : List Nat) (k : Nat) : List Nat := l.take k ++ List.replicate (l.length - k) 0

theorem begun_len (l : List Nat) (k : Nat) (hk : k ≤ l.length) : (begun l k).length = l.length := by simp [begun]; omega

theorem begun_set (l : List Nat) (k : Nat) (hk : k < l.length) : (begun l k).set k (nth l k) = begun l (k + 1) := by
  unfold begun
  apply List.ext_getElem
  · simp; omega
  · intro j h1 h2
    have hl : (l.take k).length = k := by rw [List.length_take]; omega
    rw [List.getElem_set]
    by_cases e : k = j
    · subst e
      rw [if_pos rfl, List.getElem_append_left (by rw [List.length_take]; omega)]
      simp [nth, hk]
    · rw [if_neg e]
      by_cases hj : j < k
      · rw [List.getElem_append_left (by omega), List.getElem_append_left (by rw [List.length_take]; omega)]
        simp
      · rw [List.getElem_append_right (by omega), List.getElem_append_right (by rw [List.length_take]; omega)]
        simp

theorem begun_zero (l : List Nat) : begun l 0 = List.replicate l.length 0 := by simp [begun]
theorem begun_all (l : List Nat) : begun l l.length = l := by simp [begun]

/-- Two rows of numbers that the document's Fixed makes. -/
structure Two (B : Nat) (w0 w : World) (g1 g2 : Nat) (a b : List Nat) : Prop where
  o1 : w.ownsRow B 3 1 (.slice (some ⟨g1, 0, none⟩) 288 288) 288 (a.map natV)
  o2 : w.ownsRow B 3 1 (.slice (some ⟨g2, 0, none⟩) 32 32) 32 (b.map natV)
  ne : g1 ≠ g2
  b1 : B ≤ g1
  b2 : B ≤ g2
  below : Below B w0 w

theorem Two.set1 {B : Nat} {w0 w : World} {g1 g2 : Nat} {a b : List Nat} (h : Two B w0 w g1 g2 a b) (k y : Nat) : Two B w0 (w.setCell ⟨g1, k, none⟩ (.int .i64 (y : Int))) g1 g2 (a.set k y) b := by
  refine ⟨?_, ?_, h.ne, h.b1, h.b2, h.below.setCell (p := ⟨g1, k, none⟩) h.b1 _⟩
  · have := (h.o1.stored k (.int .i64 (y : Int))).1
    rw [map_set_nat] at this
    exact this
  · obtain ⟨x1, x2⟩ := h.o2
    refine ⟨x1, ?_⟩
    rcases x2 with x | ⟨g, cap, cur, e, hb, hg, r⟩
    · exact .inl x
    · cases e
      exact .inr ⟨g2, 32, cur, rfl, hb, by rw [Below.heap_setCell _ _ _ _ (by simpa using h.ne.symm)]; exact hg, r⟩

theorem Two.set2 {B : Nat} {w0 w : World} {g1 g2 : Nat} {a b : List Nat} (h : Two B w0 w g1 g2 a b) (k y : Nat) : Two B w0 (w.setCell ⟨g2, k, none⟩ (.int .i64 (y : Int))) g1 g2 a (b.set k y) := by
  refine ⟨?_, ?_, h.ne, h.b1, h.b2, h.below.setCell (p := ⟨g2, k, none⟩) h.b2 _⟩
  · obtain ⟨x1, x2⟩ := h.o1
    refine ⟨x1, ?_⟩
    rcases x2 with x | ⟨g, cap, cur, e, hb, hg, r⟩
    · exact .inl x
    · cases e
      exact .inr ⟨g1, 288, cur, rfl, hb, by rw [Below.heap_setCell _ _ _ _ (by simpa using h.ne)]; exact hg, r⟩
  · have := (h.o2.stored k (.int .i64 (y : Int))).1
    rw [map_set_nat] at this
    exact this

theorem row_zero (w : World) (B n : Nat) (hB : B ≤ w.heap.size) (hn : n ≤ 1000) : (w.alloc (.cells (zeroRow n) 3)).ownsRow B 3 1 (.slice (some ⟨w.heap.size, 0, none⟩) n n) n ((List.replicate n 0).map natV) := by
  refine ⟨by simp, .inr ⟨_, _, _, rfl, hB, heap_alloc_new w _, Nat.le_refl _, by unfold maxLen; omega, by simp [zeroRow], ?_⟩⟩
  unfold zeroRow
  simp

theorem two_new (w : World) (m n : Nat) (hm : m ≤ 1000) (hn : n ≤ 1000) :
    ((w.alloc (.cells (zeroRow m) 3)).alloc (.cells (zeroRow n) 3)).ownsRow w.heap.size 3 1 (.slice (some ⟨w.heap.size, 0, none⟩) m m) m ((List.replicate m 0).map natV) ∧
    ((w.alloc (.cells (zeroRow m) 3)).alloc (.cells (zeroRow n) 3)).ownsRow w.heap.size 3 1 (.slice (some ⟨w.heap.size + 1, 0, none⟩) n n) n ((List.replicate n 0).map natV) ∧
    Below w.heap.size w ((w.alloc (.cells (zeroRow m) 3)).alloc (.cells (zeroRow n) 3)) := by
  refine ⟨(row_zero w w.heap.size m (Nat.le_refl _) hm).alloc _, ?_, ((Below.refl _ _).alloc (Nat.le_refl _) _).alloc (by simp) _⟩
  have := row_zero (w.alloc (.cells (zeroRow m) 3)) w.heap.size n (by simp) hn
  simpa using this

theorem two_drew {B : Nat} {w0 w : World} {g1 g2 : Nat} {a b : List Nat} (h : Two B w0 w g1 g2 a b) : Two B w0 w.drew g1 g2 a b := ⟨h.o1.drew, h.o2.drew, h.ne, h.b1, h.b2, h.below.drew⟩

set_option maxRecDepth 100000 in
set_option maxHeartbeats 4000000 in
theorem docfixed_walk (w : World) : Calls Tryd.prog 14 #[] w fun e w' => ∃ g1 g2, e = .returned (.tuple #[.slice (some ⟨g1, 0, none⟩) 288 288, .slice (some ⟨g2, 0, none⟩) 32 32]) ∧ Two w.heap.size w w' g1 g2 litsL distsL := by
  have mk1 := make_zero 288 (by decide)
  have mk2 := make_zero 32 (by decide)
  have mk1' : ∀ w, (Instr.makeSlice 37 (.int .i64 288) (.int .i64 288)).run Tryd.prog w = .ok (.slice (some ⟨w.heap.size, 0, none⟩) 288 288) (w.alloc (.cells (zeroRow 288) 3)) := mk1
  have mk2' : ∀ w, (Instr.makeSlice 37 (.int .i64 32) (.int .i64 32)).run Tryd.prog w = .ok (.slice (some ⟨w.heap.size, 0, none⟩) 32 32) (w.alloc (.cells (zeroRow 32) 3)) := mk2
  clear mk1 mk2
  go_enter Tryd.func14, Tryd.ntmps14
  go_upto_region 1 with fail
  go_cut [2, 3] (fun a b wx => ∃ g1 g2 : Nat, a = .slice (some ⟨g1, 0, none⟩) 288 288 ∧ b = .slice (some ⟨g2, 0, none⟩) 32 32 ∧ Hid (Two w.heap.size w wx g1 g2 (begun litsL 0) (begun distsL 0)))
  case first =>
    go_region
    all_goals go_wp2
    all_goals go_meet
    case rel =>
      obtain ⟨h1, h2, h3⟩ := two_new w 288 32 (by decide) (by decide)
      rw [begun_zero, begun_zero, lits_len, dists_len]
      exact ⟨_, _, rfl, rfl, two_drew ⟨h1, h2, by omega, by omega, by omega, h3⟩⟩
    case rel =>
      obtain ⟨h1, h2, h3⟩ := two_new w 32 288 (by decide) (by decide)
      rw [begun_zero, begun_zero, lits_len, dists_len]
      exact ⟨_, _, rfl, rfl, two_drew ⟨h2, h1, by omega, by omega, by omega, h3⟩⟩
  case rest =>
    obtain ⟨g1, g2, rfl, rfl, H0⟩ := hcut
    have HLV := lits_val
    have HV : Hid (∀ k, k < 288 → nth litsL k = if k < 144 ∨ 280 ≤ k then 8 else if k < 256 then 9 else 7) := lits_val
    clear mk1' mk2' HLV
    go_wp2
    go_loopw [10] (fun i wr => ∃ k : Nat, Hid (k ≤ 288) ∧ i = .int .i64 k ∧ Hid (Two w.heap.size w wr g1 g2 (begun litsL k) (begun distsL 0))) (fun i _ => 288 - (intOf i).toNat)
    case atStart => exact ⟨0, by show _ ≤ _; omega, rfl, H0⟩
    case round =>
      obtain ⟨k, HK, rfl, HT⟩ := hrel
      clear H0
      by_cases hk : k < 288
      · have HK2 : Hid (k < 288) := hk
        have d0 : (k : Int) < 288 := by omega
        have hw : wrap64 ((k : Int) + 1) = k + 1 := by unfold wrap64; omega
        have cc := nat_at (begun_len litsL k (by rw [lits_len]; omega) |>.trans lits_len) HT.out.o1 k hk
        have ff := HT.out.o1.frozenAt k
        generalize nth (begun litsL k) k = old at cc
        rcases (show k < 144 ∨ (280 ≤ k) ∨ (144 ≤ k ∧ k < 256) ∨ (256 ≤ k ∧ k < 280) by omega) with hq | hq | hq | hq
        · have d1 : decide ((k : Int) < 144) = true := by simp; omega
          have R : Hid (Two w.heap.size w (wr.setCell ⟨g1, k, none⟩ (.int .i64 8)) g1 g2 (begun litsL (k + 1)) (begun distsL 0)) := by
            have h := HT.out.set1 k 8
            have e : nth litsL k = 8 := by rw [HV.out k HK2.out]; split <;> (try split) <;> omega
            rw [← e, begun_set litsL k (by rw [lits_len]; exact HK2.out), e] at h
            exact h
          clear HT HV hk hq
          go_wp2
          go_roundw
          case rel => exact ⟨k + 1, by show _ ≤ _; have := HK2.out; omega, by go_num, R⟩
          case measure => have := HK2.out; simp [intOf]; omega
        · have d1 : decide ((k : Int) < 144) = false := by simp; omega
          have d2 : decide (280 ≤ (k : Int)) = true := by simp; omega
          have R : Hid (Two w.heap.size w (wr.setCell ⟨g1, k, none⟩ (.int .i64 8)) g1 g2 (begun litsL (k + 1)) (begun distsL 0)) := by
            have h := HT.out.set1 k 8
            have e : nth litsL k = 8 := by rw [HV.out k HK2.out]; split <;> (try split) <;> omega
            rw [← e, begun_set litsL k (by rw [lits_len]; exact HK2.out), e] at h
            exact h
          clear HT HV hk hq
          go_wp2
          go_roundw
          case rel => exact ⟨k + 1, by show _ ≤ _; have := HK2.out; omega, by go_num, R⟩
          case measure => have := HK2.out; simp [intOf]; omega
        · have d1 : decide ((k : Int) < 144) = false := by simp; omega
          have d2 : decide (280 ≤ (k : Int)) = false := by simp; omega
          have d3 : decide ((k : Int) < 256) = true := by simp; omega
          have R : Hid (Two w.heap.size w (wr.setCell ⟨g1, k, none⟩ (.int .i64 9)) g1 g2 (begun litsL (k + 1)) (begun distsL 0)) := by
            have h := HT.out.set1 k 9
            have e : nth litsL k = 9 := by rw [HV.out k HK2.out]; split <;> (try split) <;> omega
            rw [← e, begun_set litsL k (by rw [lits_len]; exact HK2.out), e] at h
            exact h
          clear HT HV hk hq
          go_wp2
          go_roundw
          case rel => exact ⟨k + 1, by show _ ≤ _; have := HK2.out; omega, by go_num, R⟩
          case measure => have := HK2.out; simp [intOf]; omega
        · have d1 : decide ((k : Int) < 144) = false := by simp; omega
          have d2 : decide (280 ≤ (k : Int)) = false := by simp; omega
          have d3 : decide ((k : Int) < 256) = false := by simp; omega
          have R : Hid (Two w.heap.size w (wr.setCell ⟨g1, k, none⟩ (.int .i64 7)) g1 g2 (begun litsL (k + 1)) (begun distsL 0)) := by
            have h := HT.out.set1 k 7
            have e : nth litsL k = 7 := by rw [HV.out k HK2.out]; split <;> (try split) <;> omega
            rw [← e, begun_set litsL k (by rw [lits_len]; exact HK2.out), e] at h
            exact h
          clear HT HV hk hq
          go_wp2
          go_roundw
          case rel => exact ⟨k + 1, by show _ ≤ _; have := HK2.out; omega, by go_num, R⟩
          case measure => have := HK2.out; simp [intOf]; omega
      · have hkk : k = 288 := by have := HK.out; omega
        subst hkk
        rw [show ((288 : Nat) : Int) = 288 from rfl]
        have H1 : Hid (Two w.heap.size w wr g1 g2 litsL (begun distsL 0)) := by
          have h := HT.out
          rw [← lits_len, begun_all] at h
          exact h
        clear HT HV HK
        go_wp2
        go_loopw [35] (fun i wz => ∃ k : Nat, k ≤ 32 ∧ i = .int .i64 k ∧ Hid (Two w.heap.size w wz g1 g2 litsL (begun distsL k))) (fun i _ => 32 - (intOf i).toNat)
        case atStart => exact ⟨0, by omega, rfl, H1⟩
        case round =>
          obtain ⟨k, hk32, rfl, HT⟩ := hrel
          clear H1
          by_cases hk3 : k < 32
          · have d0 : (k : Int) < 32 := by omega
            have hw : wrap64 ((k : Int) + 1) = k + 1 := by unfold wrap64; omega
            have cc := nat_at (begun_len distsL k (by rw [dists_len]; omega) |>.trans dists_len) HT.out.o2 k hk3
            have ff := HT.out.o2.frozenAt k
            generalize nth (begun distsL k) k = old at cc
            have R : Hid (Two w.heap.size w (wr.setCell ⟨g2, k, none⟩ (.int .i64 5)) g1 g2 litsL (begun distsL (k + 1))) := by
              have h := HT.out.set2 k 5
              have e : nth distsL k = 5 := by
                unfold distsL nth
                rw [List.getD_eq_getElem?_getD, List.getElem?_replicate, if_pos hk3]
                rfl
              rw [← e, begun_set distsL k (by rw [dists_len]; exact hk3), e] at h
              exact h
            clear HT
            go_wp2
            go_roundw
            case rel => exact ⟨k + 1, by omega, by go_num, R⟩
            case measure => simp [intOf]; omega
          · have hkk : k = 32 := by omega
            subst hkk
            have H2 : Two w.heap.size w wr g1 g2 litsL distsL := by
              have h := HT.out
              rw [← dists_len, begun_all] at h
              exact h
            clear HT
            go_wp2
            go_ret2
            exact ⟨g1, g2, rfl, H2⟩

end Go.Proofs.YtdokpimhhkbdbaaDoor

set_option linter.unusedSimpArgs false
set_option linter.unusedVariables false
namespace Go.Proofs.YtdokpimhhkbdbaaDoor
open Go.RowKit

theorem rm_append (os : List Nat) (x m : Nat) : rm (os ++ [x]) m = rm os m + if x < m then wt x else 0 := by
  induction m with
  | zero => simp [rm]
  | succ m ih =>
    have hw : wt m = if m = 0 then 0 else 2 ^ (15 - m) := rfl
    simp only [rm, ih, cn_append]
    generalize 2 ^ (15 - m) = P at *
    by_cases h1 : x = m
    · subst h1
      rw [if_neg (Nat.lt_irrefl x), if_pos (Nat.lt_succ_self x), hw]
      by_cases h0 : x = 0
      · have h3 : ¬ (x = x ∧ x ≠ 0) := fun h => h.2 h0
        rw [if_neg h3, if_pos h0]; omega
      · rw [if_pos ⟨rfl, h0⟩, if_neg h0, Nat.add_mul]; omega
    · have h3 : ¬ (m = x ∧ m ≠ 0) := fun h => h1 h.1.symm
      rw [if_neg h3]
      by_cases h2 : x < m
      · rw [if_pos h2, if_pos (by omega)]; omega
      · rw [if_neg h2, if_neg (by omega)]; omega

theorem sho_append (os : List Nat) (x m : Nat) : sho (os ++ [x]) m = sho os m + if x < m ∧ x ≠ 0 then 1 else 0 := by
  induction m with
  | zero => simp [sho]
  | succ m ih =>
    simp only [sho, ih, cn_append]
    by_cases h0 : x = 0
    · subst h0
      have h3 : ¬ (m = 0 ∧ m ≠ 0) := fun h => h.2 h.1
      simp [h3]
    · by_cases h1 : x = m
      · subst h1
        simp [h0]; omega
      · have h3 : ¬ (m = x ∧ m ≠ 0) := fun h => h1 h.1.symm
        rw [if_neg h3]
        by_cases h2 : x < m
        · rw [if_pos ⟨h2, h0⟩, if_pos ⟨by omega, h0⟩]; omega
        · rw [if_neg (fun h => h2 h.1), if_neg (fun h => by have := h.1; omega)]; omega

theorem take_next (l : List Nat) (k : Nat) (hk : k < l.length) : l.take (k + 1) = l.take k ++ [nth l k] := by
  rw [List.take_succ_eq_append_getElem hk, nth_eq hk]

/-- The codes that are given out so far. -/
def upto (l : List Nat) (L i : Nat) : List Nat := (List.range l.length).map (fun j => if Dealt l L i j then code l j else 0)
def codesOf (l : List Nat) : List Nat := upto l 16 0

theorem upto_length (l : List Nat) (L i : Nat) : (upto l L i).length = l.length := by simp [upto]

theorem upto_start (l : List Nat) : upto l 1 0 = List.replicate l.length 0 := by
  have hnd : ∀ j, ¬ Dealt l 1 0 j := fun j h => by unfold Dealt at h; omega
  apply List.ext_getElem
  · simp [upto]
  · intro j h1 h2
    simp [upto, hnd]

theorem upto_skip (l : List Nat) (L i : Nat) (hn : nth l i ≠ L) : upto l L (i + 1) = upto l L i := by
  have e : ∀ j, Dealt l L (i + 1) j ↔ Dealt l L i j := fun j => by
    unfold Dealt
    by_cases hj : j = i
    · subst hj; omega
    · omega
  unfold upto
  simp only [e]

theorem upto_put (l : List Nat) (L i : Nat) (hi : i < l.length) (hn : nth l i = L) (hL : 0 < L) : upto l L (i + 1) = (upto l L i).set i (base l L + rank l L i) := by
  have e : ∀ j, j ≠ i → (Dealt l L (i + 1) j ↔ Dealt l L i j) := fun j hj => by unfold Dealt; omega
  have ei : Dealt l L (i + 1) i := ⟨by omega, .inr ⟨hn, by omega⟩⟩
  apply List.ext_getElem
  · simp [upto]
  · intro j h1 h2
    rw [List.getElem_set]
    by_cases hj : i = j
    · subst hj
      simp [upto, ei, code, hn]
      intro h
      omega
    · have hj' : j ≠ i := fun h => hj h.symm
      simp [upto, hj, e j hj']

theorem upto_next (l : List Nat) (L : Nat) : upto l L l.length = upto l (L + 1) 0 := by
  apply List.ext_getElem
  · simp [upto]
  · intro j h1 h2
    have hj : j < l.length := by simpa [upto] using h1
    have e : Dealt l (L + 1) 0 j ↔ Dealt l L l.length j := by unfold Dealt; omega
    simp [upto, e]

theorem codesOf_get (l : List Nat) (h15 : ∀ x ∈ l, x ≤ 15) (i : Nat) (hi : i < l.length) : nth (codesOf l) i = if 0 < nth l i then code l i else 0 := by
  have hl := nth_le15 h15 i
  have e : Dealt l 16 0 i ↔ 0 < nth l i := by unfold Dealt; omega
  unfold codesOf upto nth
  simp only [List.getD_eq_getElem?_getD, List.getElem?_map, List.getElem?_range hi, Option.map_some, Option.getD_some]
  simp only [e]
  rfl

theorem wrap_pow (c P : Nat) (hP : P = 2 ^ c) (hc : c < 17) : wrap64 ((2 : Int) ^ c) = (P : Int) := by
  have e : ((2 : Int) ^ c) = (P : Int) := by rw [hP]; push_cast; rfl
  have h : P ≤ 65536 := by rw [hP]; exact (Nat.pow_le_pow_right (by decide) (by omega) : 2 ^ c ≤ 2 ^ 16)
  rw [e]
  clear e hP
  unfold wrap64
  omega

theorem sum_wrap (c P R : Nat) (hP : P = 2 ^ c) (hc : c < 17) (hR : R ≤ 100000000) : wrap64 ((R : Int) + wrap64 ((2 : Int) ^ c)) = ((R + P : Nat) : Int) := by
  have h : P ≤ 65536 := by rw [hP]; exact (Nat.pow_le_pow_right (by decide) (by omega) : 2 ^ c ≤ 2 ^ 16)
  rw [wrap_pow c P hP hc]
  unfold wrap64
  omega

theorem shl_one (c P : Nat) (hP : P = 2 ^ c) (hc : c < 17) : Op.shift .shl .i64 1 .u64 (c : Int) = pure (.int .i64 (P : Int)) := by
  have h0 := shift_shl IntKind.i64 IntKind.u64 1 (c : Int) (by omega) (show (c : Int) ≤ 64 by omega)
  have e : IntKind.i64.wrap (1 * 2 ^ (c : Int).toNat) = (P : Int) := by
    rw [Int.one_mul, Int.toNat_natCast, IntKind.wrap_i64]
    have := wrap_pow c P hP hc
    unfold wrap64 at this
    exact this
  rw [h0, e]

/-- 'OK', shut. -/
def Ok1 (zs : List Int) : Prop := OK zs

set_option maxRecDepth 100000 in
set_option maxHeartbeats 4000000 in
theorem codes_walk (w : World) (v : Value) (zs : List Int) (hv : Ints w v zs) (hl : zs.length ≤ 320) :
    Calls Tryd.prog 15 #[v] w fun e w' => Below w.heap.size w w' ∧ ((Ok1 zs ∧ ∃ cv, e = .returned (.tuple #[cv, .bool true]) ∧ w'.ownsRow w.heap.size 3 1 cv zs.length ((codesOf (zs.map Int.toNat)).map natV)) ∨ (¬ Ok1 zs ∧ e = .returned (.tuple #[.slice none 0 0, .bool false]))) := by
  have hv0 := hv
  obtain ⟨ao, cap, rfl, h2, h3, h4⟩ := hv
  obtain ⟨N, hN⟩ : ∃ N, N = zs.length := ⟨_, rfl⟩
  rw [← hN] at h2 h4 hl hv0 ⊢
  have HN : Hid (N = zs.length) := hN
  clear hN
  have H4 : Hid (∀ a, ao = some a → ∀ j, j < N → w.cell? (a.add j) = some (.int .i64 (zs.getD j 0))) := h4
  have HV0 : Hid (Ints w (.slice ao N cap) zs) := hv0
  clear h4 hv0
  have hgt : ¬ (320 : Int) < (N : Int) := by omega
  obtain ⟨l, hle⟩ : ∃ l, l = zs.map Int.toNat := ⟨_, rfl⟩
  rw [← hle]
  have HLE : Hid (l = zs.map Int.toNat) := hle
  have HLN : Hid (l.length = N) := by show _ = _; rw [hle, List.length_map, HN.out]
  clear hle
  go_enter Tryd.func15, Tryd.ntmps15
  go_wp2
  go_loop [4, 5, 6, 19] (fun s o r i => ∃ k S O R : Nat, k ≤ N ∧ i = .int .i64 (k : Int) ∧ s = .int .i64 (S : Int) ∧ o = .int .i64 (O : Int) ∧ r = .int .i64 (R : Int) ∧ S ≤ k ∧ O ≤ k ∧ R ≤ k * 32768 ∧ Hid (S = sho (l.take k) 16) ∧ Hid (O = cn (l.take k) 1) ∧ Hid (R = rm (l.take k) 16) ∧ Hid (∀ j, j < k → 0 ≤ zs.getD j 0 ∧ zs.getD j 0 ≤ 15)) (fun _ _ _ i => N - (intOf i).toNat)
  case atStart => exact ⟨0, 0, 0, 0, by omega, rfl, rfl, rfl, rfl, by omega, by omega, by omega, by simp [Hid, sho, cn], by simp [Hid, cn], by simp [Hid, rm, cn], fun j hj => by omega⟩
  case round =>
    obtain ⟨k, S, O, R, hk, rfl, rfl, rfl, rfl, hS, hO, hR, HS, HO, HR, hall⟩ := hrel
    by_cases hkn : k < N
    · obtain ⟨A, rfl⟩ : ∃ A, ao = some A := by
        cases ao with
        | none => have := h3 rfl; omega
        | some A => exact ⟨A, rfl⟩
      have hc := H4.out A rfl k hkn
      obtain ⟨x, hx⟩ : ∃ x, x = zs.getD k 0 := ⟨_, rfl⟩
      rw [← hx] at hc
      have HX : Hid (x = zs.getD k 0) := hx
      clear hx
      have hkl : k < l.length := by rw [HLN.out]; exact hkn
      by_cases hm : 0 ≤ x ∧ x ≤ 15
      · obtain ⟨n, rfl⟩ := Int.eq_ofNat_of_zero_le hm.1
        have hn15 : n ≤ 15 := by omega
        clear hm
        have hall' : Hid (∀ j, j < k + 1 → 0 ≤ zs.getD j 0 ∧ zs.getD j 0 ≤ 15) := fun j hj => by
          rcases (show j < k ∨ j = k by omega) with h | rfl
          · exact hall.out j h
          · rw [← HX.out]; omega
        have hnth : nth l k = n := by rw [HLE.out, nth_map, ← HX.out]; rfl
        have e1 : Hid (sho (l.take (k + 1)) 16 = S + if n ≠ 0 then 1 else 0) := by
          show _ = _
          rw [take_next l k hkl, hnth, sho_append, HS.out]
          by_cases h0 : n = 0
          · simp [h0]
          · have : n < 16 := by omega
            simp [h0, this]
        have e2 : Hid (rm (l.take (k + 1)) 16 = R + wt n) := by
          show _ = _
          rw [take_next l k hkl, hnth, rm_append, HR.out, if_pos (by omega)]
        have e3 : Hid (cn (l.take (k + 1)) 1 = O + if n = 1 then 1 else 0) := by
          show _ = _
          rw [take_next l k hkl, hnth, cn_append, HO.out]
          by_cases h1 : n = 1
          · simp [h1]
          · have : ¬ 1 = n := fun h => h1 h.symm
            simp [h1, this]
        have hpw : wt n ≤ 32768 := by
          unfold wt
          split
          · omega
          · exact pow_le15 (by omega)
        clear hnth hkl
        by_cases h0 : n = 0
        · subst h0
          have HW0 : Hid (wt 0 = 0) := rfl
          go_wp2
          go_round
          case rel => exact ⟨k + 1, S, O, R, by omega, by go_num, rfl, rfl, rfl, by omega, by omega, by omega, by show _ = _; rw [e1.out]; simp, by show _ = _; rw [e3.out]; simp, by show _ = _; rw [e2.out, HW0.out]; rfl, hall'⟩
          case measure => simp [intOf]; omega
        · obtain ⟨c, hce⟩ : ∃ c, c = 15 - n := ⟨_, rfl⟩
          have hcI : (15 : Int) - (n : Int) = (c : Int) := by omega
          obtain ⟨P, hP⟩ : ∃ P, P = 2 ^ c := ⟨_, rfl⟩
          have hsw : Hid (wrap64 ((R : Int) + wrap64 ((2 : Int) ^ c)) = ((R + P : Nat) : Int)) := sum_wrap c P R hP (by omega) (by omega)
          have hwt : wt n = P := by unfold wt; rw [if_neg h0, hP, hce]
          rw [hwt] at e2 hpw
          have hc15 : c ≤ 15 := by omega
          have hn1 : 0 < n := by omega
          clear hP hwt hce h0
          by_cases h1 : n = 1
          · have h1' : ((n : Int) == 1) = true := by simp [h1]
            rw [if_pos h1] at e3
            have HE1 : Hid (sho (l.take (k + 1)) 16 = S + 1) := by have := e1.out; rwa [if_pos (by omega)] at this
            clear h1 e1
            go_wp2
            go_round
            case rel => exact ⟨k + 1, S + 1, O + 1, R + P, by omega, by go_num, by go_num, by go_num, by rw [hsw.out], by omega, by omega, by omega, by rw [HE1.out]; rfl, by rw [e3.out]; rfl, by rw [e2.out]; rfl, hall'⟩
            case measure => simp [intOf]; omega
          · have h1' : ((n : Int) == 1) = false := by simp; omega
            rw [if_neg h1] at e3
            have HE1 : Hid (sho (l.take (k + 1)) 16 = S + 1) := by have := e1.out; rwa [if_pos (by omega)] at this
            clear h1 e1
            go_wp2
            go_round
            case rel => exact ⟨k + 1, S + 1, O, R + P, by omega, by go_num, by go_num, rfl, by rw [hsw.out], by omega, by omega, by omega, by rw [HE1.out]; rfl, by rw [e3.out]; rfl, by rw [e2.out]; rfl, hall'⟩
            case measure => simp [intOf]; omega
      · have hbad : Hid (¬ OK zs) := fun hM => hm (by
          rw [HX.out]
          have h1 : k < zs.length := by rw [← HN.out]; exact hkn
          have := hM.2.1 (zs[k]) (List.getElem_mem h1)
          simpa [h1] using this)
        have hxx : x < 0 ∨ 15 < x := by omega
        clear hm
        rcases hxx with hx0 | hx15
        all_goals
          go_wp2
          go_ret2
          exact ⟨Below.refl _ _, .inr ⟨hbad.out, rfl⟩⟩
    · have hkk : k = N := by omega
      have HM : Hid (May zs) := fun x hx => by
        obtain ⟨j, hj, rfl⟩ := List.getElem_of_mem hx
        have := hall.out j (by rw [hkk, HN.out]; exact hj)
        simpa [hj] using this
      have e : l.take k = l := List.take_of_length_le (by rw [HLN.out, hkk]; exact Nat.le_refl _)
      rw [e] at HS HO HR
      have HK : Hid (OK zs ↔ Fits l) := by
        rw [HLE.out]
        exact ⟨fun h => h.2.2, fun h => ⟨by rw [← HN.out]; exact hl, HM.out, h⟩⟩
      have H15 : Hid (∀ x ∈ l, x ≤ 15) := fun x hx => by
        rw [HLE.out] at hx
        obtain ⟨z, hz, rfl⟩ := List.mem_map.1 hx
        have := HM.out z hz
        omega
      clear e hkk
      by_cases hfit : Fits l
      · have hok : Hid (OK zs) := HK.out.2 hfit
        have hRle := rm_fits hfit
        rw [← HR.out] at hRle
        have hmk := make_zero N (by omega)
        have hst : (w.alloc (.cells (zeroRow N) 3)).ownsRow w.heap.size 3 1 (.slice (some ⟨w.heap.size, 0, none⟩) N N) N ((upto l 1 0).map natV) := by
          have e : (upto l 1 0).map natV = List.replicate N (natV 0) := by rw [upto_start, HLN.out]; simp
          rw [e]
          refine ⟨by simp, .inr ⟨w.heap.size, N, zeroRow N, rfl, Nat.le_refl _, heap_alloc_new w _, Nat.le_refl _, by unfold maxLen; omega, by simp [zeroRow], ?_⟩⟩
          simp [zeroRow]
        have hsb : Below w.heap.size w (w.alloc (.cells (zeroRow N) 3)) := (Below.refl _ w).alloc (Nat.le_refl _) _
        have hway : (R = 32768 ∨ (R < 32768 ∧ S = 0) ∨ (R < 32768 ∧ S = 1 ∧ O = 1)) := by
          rcases hfit with h | h | ⟨h, h'⟩
          · left; rw [HR.out]; exact h
          · rw [← HS.out] at h; omega
          · rw [← HS.out] at h; rw [← HO.out] at h'; omega
        have HFIT : Hid (Fits l) := hfit
        have HLV : Hid (Lens w (.slice ao N cap) l) := by rw [HLE.out]; exact lens_of HV0.out HM.out
        obtain ⟨Z, hZ⟩ : ∃ Z, Z = zeroRow N := ⟨_, rfl⟩
        rw [← hZ] at hmk hst hsb
        obtain ⟨B, hBe⟩ : ∃ B, B = w.heap.size := ⟨_, rfl⟩
        have HB : Hid (B = w.heap.size) := hBe
        have HST : Hid ((w.alloc (.cells Z 3)).ownsRow w.heap.size 3 1 (.slice (some ⟨w.heap.size, 0, none⟩) N N) N ((upto l 1 0).map natV)) := hst
        clear hfit hZ hRle hst
        have hways : ∃ b1 b2 b3 b4 : Bool, decide ((R : Int) < 32768) = b1 ∧ ((S : Int) != 0) = b2 ∧ ((S : Int) == 1) = b3 ∧ ((O : Int) == 1) = b4 ∧ decide ((32768 : Int) < (R : Int)) = false ∧ (b1 = false ∨ (b1 = true ∧ b2 = false) ∨ (b1 = true ∧ b2 = true ∧ b3 = true ∧ b4 = true)) := by
          refine ⟨_, _, _, _, rfl, rfl, rfl, rfl, by simp; omega, ?_⟩
          rcases hway with h | ⟨h, h'⟩ | ⟨h, h', h''⟩
          · left; simp; omega
          · right; left; refine ⟨by simp; omega, by simp [h']⟩
          · right; right; refine ⟨by simp; omega, by simp [h'], by simp [h'], by simp [h'']⟩
        obtain ⟨b1, b2, b3, b4, g1, g2, g3, g4, g5, hb⟩ := hways
        clear hway hR
        rcases hb with rfl | ⟨rfl, rfl⟩ | ⟨rfl, rfl, rfl, rfl⟩
        all_goals
          go_wp2
          have hst := HST.out
          rw [← hBe] at hst hsb ⊢
          clear g1 g2 g3 g4 g5 hBe HST
          go_loopw [10, 11] (fun x L wr => ∃ q y : Nat, 1 ≤ q ∧ q ≤ 16 ∧ L = .int .i64 (q : Int) ∧ x = .int .i64 (y : Int) ∧ Hid (y = base l q) ∧ wr.ownsRow B 3 1 (.slice (some ⟨B, 0, none⟩) N N) N ((upto l q 0).map natV) ∧ Below B w wr) (fun _ L _ => 16 - (intOf L).toNat)
          case atStart => exact ⟨1, 0, by omega, by omega, rfl, rfl, rfl, hst, hsb⟩
          case round =>
            obtain ⟨q, y, hq1, hq, rfl, rfl, HY, ho, hb⟩ := hrel
            clear hst hsb
            by_cases hqn : q ≤ 15
            · have hbq := base_le HFIT.out (n := q) hqn
              have hpq := pow_le15 hqn
              have HBQ : Hid (base l q + cn l q ≤ 32768) := by show _ ≤ _; omega
              have hdq : decide ((q : Int) ≤ 15) = true := by simp; omega
              clear hbq hpq
              go_wp2
              try rw [hdq]
              clear hdq
              go_loopw [10, 72] (fun x i wz => ∃ s z : Nat, s ≤ N ∧ i = .int .i64 (s : Int) ∧ x = .int .i64 (z : Int) ∧ Hid (z = base l q + rank l q s) ∧ wz.ownsRow B 3 1 (.slice (some ⟨B, 0, none⟩) N N) N ((upto l q s).map natV) ∧ Below B w wz) (fun _ i _ => N - (intOf i).toNat)
              case atStart => exact ⟨0, y, by omega, rfl, rfl, by show _ = _; rw [HY.out, rank_zero, Nat.add_zero], ho, hb⟩
              case round =>
                obtain ⟨s, z, hs, rfl, rfl, HZ, ho2, hb2⟩ := hrel
                clear ho hb
                have hzl : z ≤ 32768 := by
                  have := rank_le_cn (l := l) q s (by omega)
                  have := HBQ.out
                  have := HZ.out
                  omega
                by_cases hsn : s < N
                · obtain ⟨A, hA, hc⟩ : ∃ A, ao = some A ∧ wr.cell? (A.add s) = some (.int .i64 (nth l s : Nat)) := by
                    obtain ⟨ao', cap', hae, hl2, hl3, hl4⟩ := HLV.out
                    rw [HLN.out] at hae hl2 hl4
                    cases hae
                    cases ao with
                    | none => have := hl3 rfl; omega
                    | some A => exact ⟨A, rfl, cell_old (HB.out ▸ hb2) (hl4 A rfl s hsn)⟩
                  subst hA
                  obtain ⟨x, hx⟩ : ∃ x, x = nth l s := ⟨_, rfl⟩
                  rw [← hx] at hc
                  have HXE : Hid (x = nth l s) := hx
                  have HSL : Hid (s < l.length) := by show _ < _; rw [HLN.out]; exact hsn
                  clear hx
                  by_cases hxq : x = q
                  · have hxq' : ((x : Int) == (q : Int)) = true := by simp; omega
                    have HNQ : Hid (nth l s = q) := by show _ = _; rw [← HXE.out]; exact hxq
                    have hcb : ∃ u, wr.cell? ⟨B, s, none⟩ = some u := ⟨_, nat_at (by rw [upto_length, HLN.out]) ho2 s hsn⟩
                    obtain ⟨u, hu⟩ := hcb
                    have hfz := ho2.frozenAt s
                    have HO2 : Hid ((wr.setCell ⟨B, s, none⟩ (.int .i64 (z : Int))).ownsRow B 3 1 (.slice (some ⟨B, 0, none⟩) N N) N ((upto l q (s + 1)).map natV)) := by
                      have := (ho2.stored s (.int .i64 (z : Int))).1
                      rw [map_set_nat, HZ.out, ← upto_put l q s HSL.out HNQ.out (by omega), ← HZ.out] at this
                      exact this
                    clear hxq
                    go_wp2
                    go_roundw
                    case rel =>
                      refine ⟨s + 1, z + 1, by omega, by go_num, by go_num, ?_, HO2.out, hb2.setCell (p := ⟨B, s, none⟩) (Nat.le_refl _) _⟩
                      show _ = _
                      rw [HZ.out, rank_succ _ HSL.out, if_pos HNQ.out, Nat.add_assoc]
                    case measure => simp [intOf]; omega
                  · have hxq' : ((x : Int) == (q : Int)) = false := by simp; omega
                    have HNE : Hid (nth l s ≠ q) := by show _ ≠ _; rw [← HXE.out]; exact hxq
                    clear hxq
                    go_wp2
                    go_roundw
                    case rel =>
                      refine ⟨s + 1, z, by omega, by go_num, rfl, ?_, ?_, hb2⟩
                      · show _ = _
                        rw [HZ.out, rank_succ _ HSL.out, if_neg HNE.out, Nat.add_zero]
                      · rw [upto_skip _ _ _ HNE.out]; exact ho2
                    case measure => simp [intOf]; omega
                · have hss : s = N := by omega
                  subst hss
                  have HQ0 : Hid (q ≠ 0) := by show _ ≠ _; omega
                  go_wp2
                  go_roundw
                  case rel =>
                    refine ⟨q + 1, 2 * z, by omega, by omega, by go_num, by push_cast; congr 1; omega, ?_, ?_, hb2⟩
                    · show 2 * z = base l (q + 1)
                      have e : z = base l q + cn l q := by
                        rw [HZ.out, ← HLN.out, rank_all]
                        simp only [cn, HQ0.out, ↓reduceIte]
                      rw [e]; rfl
                    · rw [← upto_next, HLN.out]; exact ho2
                  case measure => simp [intOf]; omega
            · have hqq : q = 16 := by omega
              subst hqq
              go_wp2
              go_ret2
              exact ⟨by rw [← HB.out]; exact hb, .inl ⟨hok.out, _, rfl, by rw [← HB.out]; exact ho⟩⟩
      · have hno : Hid (¬ OK zs) := fun h => hfit (HK.out.1 h)
        have hcase : 32768 < R ∨ (R < 32768 ∧ S ≠ 0 ∧ ((S = 1 ∧ O ≠ 1) ∨ S ≠ 1)) := by
          have h1 : ¬ R = 32768 := fun h => hfit (.inl (by rw [← HR.out]; exact h))
          have h2 : ¬ S = 0 := fun h => hfit (.inr (.inl (by rw [← HS.out]; exact h)))
          have h3 : ¬ (S = 1 ∧ O = 1) := fun h => hfit (.inr (.inr ⟨by rw [← HS.out]; exact h.1, by rw [← HO.out]; exact h.2⟩))
          omega
        clear hfit
        rcases hcase with h1 | ⟨h1, h2, ⟨h3, h4⟩ | h3⟩
        · have g5 : decide ((32768 : Int) < (R : Int)) = true := by simp; omega
          clear h1 hR
          go_wp2
          go_ret2
          exact ⟨Below.refl _ _, .inr ⟨hno.out, rfl⟩⟩
        · have g1 : decide ((R : Int) < 32768) = true := by simp; omega
          have g5 : decide ((32768 : Int) < (R : Int)) = false := by simp; omega
          clear h1 hR
          have g2 : ((S : Int) != 0) = true := by simp; omega
          have g3 : ((S : Int) == 1) = true := by simp; omega
          have g4 : ((O : Int) == 1) = false := by simp; omega
          clear h2 h3 h4
          go_wp2
          go_ret2
          exact ⟨Below.refl _ _, .inr ⟨hno.out, rfl⟩⟩
        · have g1 : decide ((R : Int) < 32768) = true := by simp; omega
          have g5 : decide ((32768 : Int) < (R : Int)) = false := by simp; omega
          clear h1 hR
          have g2 : ((S : Int) != 0) = true := by simp; omega
          have g3 : ((S : Int) == 1) = false := by simp; omega
          clear h2 h3
          go_wp2
          go_ret2
          exact ⟨Below.refl _ _, .inr ⟨hno.out, rfl⟩⟩
end Go.Proofs.YtdokpimhhkbdbaaDoor
