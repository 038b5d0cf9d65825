/-
  What Unpack answers to steps of any kind, one behind the other, and to stored blocks at any place.
-/
import Derived.Test.YtdokpimhhkbdbaaDoorBh
set_option linter.unusedSimpArgs false
set_option linter.unusedVariables false
namespace Go.Proofs.YtdokpimhhkbdbaaDoor
open Go.RowKit

theorem wid_append (A B : List (Nat × Nat)) : wid (A ++ B) = wid A + wid B := by simp [wid]

/-- One step. -/
theorem cod_one (y out o' : List Nat) (s : Lz.St) (P : Nat) (R : List (Nat × Nat)) (hs : StOk s) (hJ : Lz.stepJ out s = some o') (hP : P ≤ 8 * y.length) (h : Ag y P (pcs s ++ R)) (hl : P + wid (pcs s) ≤ 8 * y.length) :
    Q.codAt y (8 * y.length + 1 - P) P out = Q.codAt y (8 * y.length + 1 - (P + wid (pcs s))) (P + wid (pcs s)) o' ∧ Ag y (P + wid (pcs s)) R := by
  rw [Q.codAt_step y P _ hP]
  unfold Lz.stepJ at hJ
  by_cases hF : Lz.Fit out.length s
  · rw [if_pos hF] at hJ
    obtain ⟨f1, f2, f3⟩ := hF
    rcases hs with ⟨h1, h2, h3⟩ | ⟨h1, h2, h3, h4, h5⟩
    · rw [if_pos h1] at hJ
      replace hJ := Option.some.inj hJ
      have ep : pcs s = [sigP litsL s.b] := by simp [pcs, h1]
      rw [ep] at h hl ⊢
      simp only [List.cons_append, List.nil_append] at h
      have n0 := lits_pos s.b (by omega)
      have ew : wid [sigP litsL s.b] = nth litsL s.b := by rw [wid_cons, wid_nil]; rfl
      rw [ew] at hl ⊢
      refine ⟨?_, h.tail (sigP_lt _ _)⟩
      unfold Q.codStep
      rw [sgn_hit lits_fits lits_15 (by rw [lits_len]; omega) n0.1 h hl]
      simp only
      have hle : ¬ 65536 < out.length + 1 := by
        have : max s.l 1 = 1 := by omega
        omega
      rw [if_pos h3, if_neg hle, hJ]
    · have hne : ¬ s.l = 0 := by omega
      rw [if_neg hne] at hJ
      replace hJ := Option.some.inj hJ
      obtain ⟨L, hL⟩ : ∃ L : Nat, s.l = L := ⟨s.l.toNat, by omega⟩
      obtain ⟨D, hD⟩ : ∃ D : Nat, s.d = D := ⟨s.d.toNat, by omega⟩
      rw [hL, hD, Int.toNat_natCast, Int.toNat_natCast] at hJ
      have ep : pcs s = [sigP litsL (257 + lenC L), lowP (L - Lz.lenB (lenC L)) (Lz.lenN (lenC L)), sigP distsL (disC D), lowP (D - Lz.disB (disC D)) (Lz.disN (disC D))] := by
        unfold pcs
        rw [if_neg hne, hL, hD, Int.toNat_natCast, Int.toNat_natCast]
      rw [ep] at h hl ⊢
      simp only [List.cons_append, List.nil_append] at h
      have hc := Lz.topOf_le Lz.lenB L 28
      change lenC L ≤ 28 at hc
      have n0 := lits_pos (257 + lenC L) (by omega)
      have ew : wid [sigP litsL (257 + lenC L), lowP (L - Lz.lenB (lenC L)) (Lz.lenN (lenC L)), sigP distsL (disC D), lowP (D - Lz.disB (disC D)) (Lz.disN (disC D))] = nth litsL (257 + lenC L) + (Lz.lenN (lenC L) + (nth distsL (disC D) + Lz.disN (disC D))) := by
        rw [wid_cons, wid_cons, wid_cons, wid_cons, wid_nil]; rfl
      rw [ew] at hl ⊢
      have t := h.tail (sigP_lt _ _)
      have t2 := ((t.tail (lowP_lt _ _)).tail (sigP_lt _ _)).tail (lowP_lt _ _)
      have eq : P + nth litsL (257 + lenC L) + Lz.lenN (lenC L) + nth distsL (disC D) + Lz.disN (disC D) = P + (nth litsL (257 + lenC L) + (Lz.lenN (lenC L) + (nth distsL (disC D) + Lz.disN (disC D)))) := by omega
      refine ⟨?_, by rw [← eq]; exact t2⟩
      unfold Q.codStep
      rw [sgn_hit lits_fits lits_15 (by rw [lits_len]; omega) n0.1 h (by omega)]
      simp only
      have t' : Ag y (P + nth litsL (257 + lenC L)) (lowP (L - Lz.lenB (lenC L)) (Lz.lenN (lenC L)) :: sigP distsL (disC D) :: lowP (D - Lz.disB (disC D)) (Lz.disN (disC D)) :: R) := t
      have hlo : out.length + L ≤ 65536 := by
        have : max s.l 1 = s.l := by omega
        omega
      rw [if_neg (by omega), if_neg (by omega), rowAt_ag y out _ L D R (by omega) (by omega) (by omega) (by omega) (by omega) hlo (by omega) t', if_pos (by omega)]
      simp only
      rw [hJ, Nat.add_assoc]
  · rw [if_neg hF] at hJ; cases hJ

/-- Steps, one behind the other. -/
theorem cod_join (y : List Nat) (R : List (Nat × Nat)) : ∀ (l : List Lz.St) (out o' : List Nat) (P : Nat), (∀ s ∈ l, StOk s) → Lz.joinL out l = some o' → P ≤ 8 * y.length → Ag y P (l.flatMap pcs ++ R) → P + wid (l.flatMap pcs) ≤ 8 * y.length →
    Q.codAt y (8 * y.length + 1 - P) P out = Q.codAt y (8 * y.length + 1 - (P + wid (l.flatMap pcs))) (P + wid (l.flatMap pcs)) o' ∧ Ag y (P + wid (l.flatMap pcs)) R := by
  intro l
  induction l with
  | nil =>
    intro out o' P _ hJ _ h _
    simp only [Lz.joinL, Option.some.injEq] at hJ
    subst hJ
    simp only [List.flatMap_nil, wid_nil, Nat.add_zero, List.nil_append] at h ⊢
    exact ⟨trivial, h⟩
  | cons s l ih =>
    intro out o' P hs hJ hP h hl
    rw [List.flatMap_cons, wid_append] at hl
    rw [List.flatMap_cons, List.append_assoc] at h
    cases e : Lz.stepJ out s with
    | none => simp only [Lz.joinL, e] at hJ; cases hJ
    | some o1 =>
      simp only [Lz.joinL, e] at hJ
      obtain ⟨a1, a2⟩ := cod_one y out o1 s P _ (hs s (List.mem_cons_self ..)) e hP h (by omega)
      obtain ⟨b1, b2⟩ := ih o1 o' _ (fun x hx => hs x (List.mem_cons_of_mem _ hx)) hJ (by omega) a2 (by omega)
      rw [List.flatMap_cons, wid_append, ← Nat.add_assoc]
      exact ⟨a1.trans b1, b2⟩

/-- The block's end. -/
theorem cod_end (y out : List Nat) (P : Nat) (R : List (Nat × Nat)) (h : Ag y P (sigP litsL 256 :: R)) (hl : P + 7 ≤ 8 * y.length) : Q.codAt y (8 * y.length + 1 - P) P out = .ok (P + 7, out) ∧ Ag y (P + 7) R := by
  have e7 := lits_256.1
  have t := h.tail (sigP_lt _ _)
  have e : (sigP litsL 256).2 = 7 := e7
  rw [e] at t
  refine ⟨?_, t⟩
  rw [Q.codAt_step y P _ (by omega)]
  unfold Q.codStep
  rw [sgn_hit lits_fits lits_15 (by rw [lits_len]; decide) (by omega) h (by omega)]
  simp only
  rw [if_neg (by decide), if_pos trivial, e7]

/-- One byte too much. -/
theorem cod_full (y out : List Nat) (P c : Nat) (R : List (Nat × Nat)) (hc : c < 256) (ho : out.length = 65536) (h : Ag y P (sigP litsL c :: R)) (hl : P + nth litsL c ≤ 8 * y.length) : Q.codAt y (8 * y.length + 1 - P) P out = .error 5 := by
  have n0 := lits_pos c (by omega)
  rw [Q.codAt_step y P _ (by omega)]
  unfold Q.codStep
  rw [sgn_hit lits_fits lits_15 (by rw [lits_len]; omega) n0.1 h (by omega)]
  simp only
  rw [if_pos hc, if_pos (by omega)]

theorem bytes_drop (y : List Nat) (hy : Small y) (i n : Nat) (hl : i + n ≤ y.length) : Q.bytesAt y (8 * i) n = (y.drop i).take n := by
  unfold Q.bytesAt
  apply List.ext_getElem
  · simp; omega
  · intro k h1 h2
    simp only [List.getElem_map, List.getElem_range]
    rw [← Nat.mul_add, dig_byte hy]
    have : i + k < y.length := by simp at h1; omega
    simp [this]

/-- A stored block from byte i on. -/
theorem sto_blk (y : List Nat) (hy : Small y) (i n : Nat) (out : List Nat) (last : Bool) (hn : n ≤ 65535) (hl : i + 5 + n ≤ y.length) (hg : ∀ k, k < 5 → y.getD (i + k) 0 = (Q.headL n last).getD k 0) :
    Q.dig y (8 * i) 1 = (if last then 1 else 0) ∧ Q.blkAt y (Q.dig y (8 * i + 1) 2) (8 * i + 1 + 2) out = if 65536 < out.length + n then .error 5 else .ok (8 * (i + 5 + n), out ++ (y.drop (i + 5)).take n) := by
  have h0 := val_byte hy i
  have g0 : y.getD i 0 = if last then 1 else 0 := hg 0 (by decide)
  have g1 : y.getD (i + 1) 0 = n % 256 := hg 1 (by decide)
  have g2 : y.getD (i + 2) 0 = n / 256 := hg 2 (by decide)
  have g3 : y.getD (i + 3) 0 = (n ^^^ 65535) % 256 := hg 3 (by decide)
  have g4 : y.getD (i + 4) 0 = (n ^^^ 65535) / 256 := hg 4 (by decide)
  rw [g0] at h0
  have e1 : Q.dig y (8 * i) 1 = if last then 1 else 0 := by
    unfold Q.dig
    generalize val y / 2 ^ (8 * i) = x at h0
    rw [← h0]
    show x % 2 = _
    cases last <;> simp at h0 ⊢ <;> omega
  have e2 : Q.dig y (8 * i + 1) 2 = 0 := by
    unfold Q.dig
    rw [Nat.pow_add, ← Nat.div_div_eq_div_mul]
    generalize val y / 2 ^ (8 * i) = x at h0
    show x / 2 % 4 = 0
    cases last <;> simp at h0 <;> omega
  refine ⟨e1, ?_⟩
  have d1 := dig_two hy (i + 1)
  rw [g1, show i + 1 + 1 = i + 2 by omega, g2] at d1
  have d2 := dig_two hy (i + 3)
  rw [g3, show i + 3 + 1 = i + 4 by omega, g4] at d2
  have d1' : Q.dig y (8 * (i + 1)) 16 = n := by rw [d1]; omega
  have d2' : Q.dig y (8 * (i + 1) + 16) 16 = n ^^^ 65535 := by rw [show 8 * (i + 1) + 16 = 8 * (i + 3) by omega, d2]; omega
  rw [e2]
  unfold Q.blkAt
  rw [if_pos rfl]
  unfold Q.stoAt
  have ep : (8 * i + 1 + 2 + 7) / 8 * 8 = 8 * (i + 1) := by omega
  rw [ep, d1', d2', if_neg (by omega), if_neg (by omega), if_neg (by simp), if_neg (by omega)]
  have eb : 8 * (i + 1) + 32 = 8 * (i + 5) := by omega
  have eq : 8 * (i + 5) + n * 8 = 8 * (i + 5 + n) := by omega
  rw [eb, eq, bytes_drop y hy (i + 5) n hl]

end Go.Proofs.YtdokpimhhkbdbaaDoor
