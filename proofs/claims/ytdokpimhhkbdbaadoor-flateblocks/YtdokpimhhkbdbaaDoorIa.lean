/-
  FlateMost: the law's state; a great row filled.
-/
import Derived.Test.YtdokpimhhkbdbaaDoorDz
import Derived.Test.YtdokpimhhkbdbaaDoorHc
import Derived.Test.YtdokpimhhkbdbaaDoorHb
import Derived.Test.YtdokpimhhkbdbaaDoorYc
import Derived.Test.YtdokpimhhkbdbaaDoorEa
import Derived.Test.YtdokpimhhkbdbaaDoorVc
set_option linter.unusedSimpArgs false
set_option linter.unusedVariables false
namespace Go.Proofs.YtdokpimhhkbdbaaDoor
open Go.RowKit

theorem made_zero2 (n : Nat) (hn : n ≤ 140737488351232) (N : Int) (hN : N = n) (wx : World) :
    (Instr.makeSlice 22 (.int .i64 N) (.int .i64 N)).run Tryd.prog wx = .ok (.slice (some ⟨wx.heap.size, 0, none⟩) n n) (wx.alloc (.cells (Array.replicate n (byteV 0)) 5)) := by
  subst hN
  obtain ⟨i, hi, hz0, hz1, hz2⟩ := info_parts Tryd.info5
  have h := run_make (P := Tryd.prog) wx 22 5 i (.int .u8 0) Lz.Tryd.underlying23 hi hz0 .i64 .i64 (n : Int) (n : Int) (by omega) (by omega) (by rw [hz2]; omega) (by omega)
  rw [h, hz1]
  have e1 : (n : Int).toNat = n := by omega
  have e3 : madeCells (Value.int .u8 0).cells (n * 1) = Array.replicate n (byteV 0) := by
    apply Array.toList_inj.1
    rw [show (Value.int .u8 0).cells = #[Value.int .u8 0] from rfl, toList_madeCells_one]
    simp [byteV]
  rw [e1, e3]

/-- The writer at p, and the rows of numbers that the law reads. -/
structure Ms (p : Nat) (w wr : World) (S : Nat × Nat) (g1 g2 g3 : Nat) : Prop where
  gx : Gx p w wr S
  t1 : Tb wr g1 288 litsL
  t2 : Tb wr g2 32 distsL
  t3 : Tb wr g3 288 (codesOf litsL)

theorem Ms.go {p : Nat} {w wr w' : World} {S S' : Nat × Nat} {g1 g2 g3 : Nat} (h : Ms p w wr S g1 g2 g3) (hg : Gx p w w' S') (k : Kp wr w') : Ms p w w' S' g1 g2 g3 :=
  ⟨hg, h.t1.keep k, h.t2.keep k, h.t3.keep k⟩

theorem Ms.old {p : Nat} {w wr w' : World} {S : Nat × Nat} {g1 g2 g3 : Nat} (h : Ms p w wr S g1 g2 g3) (hb : Below wr.heap.size wr w') : Ms p w w' S g1 g2 g3 :=
  h.go (h.gx.old hb) (Kp.ofBelow hb)

theorem Ms.drew {p : Nat} {w wr : World} {S : Nat × Nat} {g1 g2 g3 : Nat} (h : Ms p w wr S g1 g2 g3) : Ms p w wr.drew S g1 g2 g3 :=
  h.old ⟨rfl, rfl, rfl, Nat.le_refl _, fun _ _ => rfl⟩

theorem Ms.sig {p : Nat} {w wr : World} {S : Nat × Nat} {g1 g2 g3 : Nat} (h : Ms p w wr S g1 g2 g3) (t : List Nat) (s : Nat) (hc : nth t s ≤ 16) (hT : S.2 < 900000) :
    Calls Tryd.prog 17 #[.pointer (some ⟨p, 0, none⟩), .int .i64 (code t s : Nat), .int .i64 (nth t s : Nat)] wr fun e w' => e = .returned (.tuple #[]) ∧ Hid (Ms p w w' (wadd S (sigP t s)) g1 g2 g3) :=
  (h.gx.sig t s hc hT).mono fun e w' ⟨h1, h2, h3⟩ => ⟨h1, h.go h2 h3⟩

theorem Ms.put {p : Nat} {w wr : World} {S : Nat × Nat} {g1 g2 g3 : Nat} (h : Ms p w wr S g1 g2 g3) (x k : Nat) (hc : k ≤ 16) (hT : S.2 < 900000) :
    Calls Tryd.prog 12 #[.pointer (some ⟨p, 0, none⟩), .int .i64 (x : Int), .int .i64 (k : Int)] wr fun e w' => e = .returned (.tuple #[]) ∧ Hid (Ms p w w' (wadd S (lowP x k)) g1 g2 g3) :=
  (h.gx.put x k hc hT).mono fun e w' ⟨h1, h2, h3⟩ => ⟨h1, h.go h2 h3⟩

theorem Ms.lit {p : Nat} {w wr : World} {S : Nat × Nat} {g1 g2 g3 : Nat} (h : Ms p w wr S g1 g2 g3) (s : Nat) (hs : s < 288) : wr.cell? ⟨g1, s, none⟩ = some (.int .i64 (nth litsL s : Nat)) ∧ wr.cell? ⟨g3, s, none⟩ = some (.int .i64 (code litsL s : Nat)) :=
  ⟨h.t1.2 s hs, by rw [← code_lits s hs]; exact h.t3.2 s hs⟩

/-- The row of 255 from one place back. -/
def rowS : Lz.St := ⟨0, 255, 1⟩

def mostS3 (c : Nat) : Nat × Nat := wadd fixS (sigP litsL c)
def mostJ (c j : Nat) : Nat × Nat := putAll (mostS3 c) (List.replicate j rowS)

theorem mostJ_succ (c j : Nat) : mostJ c (j + 1) = putS (mostJ c j) rowS := by
  unfold mostJ
  rw [List.replicate_succ', putAll_snoc]

theorem row_ok : StOk rowS := by
  have := most_ok 0 (by decide)
  exact this rowS (by unfold mostS; exact List.mem_cons_of_mem _ (List.mem_replicate.2 ⟨by decide, rfl⟩))

theorem mostJ_len (c j : Nat) (hc : c < 256) : (mostJ c j).2 ≤ 20 + 40 * j := by
  have h := putAll_len (List.replicate j rowS) (mostS3 c) (fun s hs => by rw [List.eq_of_mem_replicate hs]; exact row_ok)
  rw [List.length_replicate] at h
  have h2 : (mostS3 c).2 ≤ 20 := by
    show fixS.2 + nth litsL c ≤ 20
    have := lits_pos c (by omega)
    have e : fixS.2 = 3 := rfl
    omega
  unfold mostJ
  omega

theorem put_row (S : Nat × Nat) : putS S rowS = wadd (wadd (wadd S (sigP litsL (257 + lenC 255))) (lowP (255 - Lz.lenB (lenC 255)) (Lz.lenN (lenC 255)))) (sigP distsL 0) := by
  have hne : ¬ ((255 : Int) = 0) := by decide
  unfold putS rowS
  simp only
  rw [if_neg hne]
  unfold putR
  have e1 : disC (1 : Int).toNat = 0 := by decide
  have e2 : lowP ((1 : Int).toNat - Lz.disB 0) (Lz.disN 0) = (0, 0) := by decide
  rw [e1, e2]
  show wadd _ (0, 0) = _
  simp [wadd]

theorem most_sum (c : Nat) (more : Bool) (S : Nat × Nat) (hS : S = wadd (if more then wadd (mostJ c 257) (sigP litsL c) else mostJ c 257) (sigP litsL 256)) : S.1 = num (mostP c more) ∧ S.2 = wid (mostP c more) := by
  have e : S = (mostP c more).foldl wadd (0, 0) := by
    have e0 : pcs ⟨c, 0, 0⟩ = [sigP litsL c] := rfl
    obtain ⟨Z, hZ⟩ : ∃ Z, Z = (List.replicate 257 rowS).flatMap pcs := ⟨_, rfl⟩
    have e1 : (mostS c).flatMap pcs = sigP litsL c :: Z := by
      unfold mostS
      rw [List.flatMap_cons, e0, hZ]
      rfl
    have e2 : mostJ c 257 = Z.foldl wadd (mostS3 c) := by unfold mostJ; rw [putAll_pcs, hZ]
    have e3 : mostS3 c = wadd (wadd (wadd (0, 0) (lowP 1 1)) (lowP 1 2)) (sigP litsL c) := rfl
    rw [hS]
    unfold mostP
    rw [e1, e2, e3]
    clear e0 e1 e2 e3 hZ hS
    generalize lowP 1 1 = a1
    generalize lowP 1 2 = a2
    generalize sigP litsL c = a3
    generalize sigP litsL 256 = a4
    cases more
    · simp only [Bool.false_eq_true, if_false, List.nil_append, List.foldl_cons, List.foldl_append, List.cons_append, List.foldl_nil]
    · simp only [if_true, List.nil_append, List.foldl_cons, List.foldl_append, List.cons_append, List.foldl_nil]
  refine ⟨by rw [e]; rfl, ?_⟩
  rw [e, fold_wid]
  simp

/-- What the writer holds. -/
theorem Gx.writ {p : Nat} {w3 w : World} {S : Nat × Nat} {R : List (Nat × Nat)} (h : Gx p w3 w S) (hS : S.1 = num R ∧ S.2 = wid R) : ∃ ao n cap bs, w.cell? ⟨p, 0, none⟩ = some (.slice ao n cap) ∧ Lies w (.slice ao n cap) bs ∧ Writ R bs := by
  obtain ⟨v, ⟨bs, hpp, hown, hsm, hval, hlen, _⟩, _⟩ := h.wr
  have hl := lies_own hown
  obtain ⟨ao, cap, rfl, _⟩ := id hl
  exact ⟨ao, _, cap, bs, cell3_0 hpp, hl, hsm, by rw [hval, hS.1], by rw [hlen, hS.2]⟩

/-- A row half filled. -/
def halfL (N c k : Nat) : List Nat := List.replicate k c ++ List.replicate (N - k) 0

theorem half_zero (N c : Nat) : halfL N c 0 = List.replicate N 0 := by simp [halfL]
theorem half_full (N c : Nat) : halfL N c N = List.replicate N c := by simp [halfL]
theorem half_len (N c k : Nat) (h : k ≤ N) : (halfL N c k).length = N := by simp [halfL]; omega
theorem half_set (N c k : Nat) (h : k < N) : ((halfL N c k).map byteV).set k (byteV c) = (halfL N c (k + 1)).map byteV := by
  unfold halfL
  rw [← List.map_set, List.set_append_right _ _ (by simp), List.length_replicate, Nat.sub_self]
  obtain ⟨m, hm⟩ : ∃ m, N - k = m + 1 := ⟨N - k - 1, by omega⟩
  rw [hm, show N - (k + 1) = m by omega, List.replicate_succ, List.set_cons_zero, List.replicate_succ']
  simp

end Go.Proofs.YtdokpimhhkbdbaaDoor
