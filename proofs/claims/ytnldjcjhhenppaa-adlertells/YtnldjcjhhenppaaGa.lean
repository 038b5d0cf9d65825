/-
  General: Within; slices of bytes that can be read ('Lies'), Same of bytes; frames.
-/
import Derived.Test.YtnldjcjhhenppaaRows
import Derived.WalkKit
import Derived.WalkSpells
import Derived.WalkLawsBesides
import Derived.Laws.BitsAllLaws
import Derived.BigRegion
import Derived.BigQuiet
import Derived.Laws.AppendOwnNone
import Derived.Deep.WholeRow
import Derived.Laws.ResultCell
import Derived.Deep.MidRow
set_option linter.unusedSimpArgs false
set_option linter.unusedVariables false
namespace Go.Proofs.Ytnldjcjhhenppaa
open Go.RowKit

def Small (bs : List Nat) : Prop := ∀ b ∈ bs, b < 256

theorem ret_bool {a b : Bool} (h : a = b) : Ending.returned (.bool a) = .returned (.bool b) := by rw [h]

theorem ret_int {k : IntKind} {a b : Int} (h : a = b) : Ending.returned (.int k a) = .returned (.int k b) := by rw [h]

theorem within_walk (v n : Int) (hn : 0 < n) (hn2 : n < 4611686018427387904) (w : World) :
    Calls Try.prog 14 #[.int .i64 v, .int .i64 n] w fun e w' => e = .returned (.int .i64 (v % n)) ∧ w' = w := by
  have h1 : ¬ n < 1 := by omega
  have ht : v.tmod n = v % n ∨ (v.tmod n = v % n - n ∧ v.tmod n < 0) := by
    rw [Int.tmod_eq_emod]
    have := Int.emod_nonneg v (show n ≠ 0 by omega)
    have h2 := Int.emod_lt_of_pos v hn
    split
    · left; omega
    · right
      have : (n.natAbs : Int) = n := by omega
      rw [this]
      omega
  have h3 := Int.emod_nonneg v (show n ≠ 0 by omega)
  have h4 := Int.emod_lt_of_pos v hn
  by_cases hk : v.tmod n < 0
  · go_enter Try.func14, Try.ntmps14
    go_wp2
    go_ret
    refine ⟨ret_int ?_, rfl⟩
    omega
  · go_enter Try.func14, Try.ntmps14
    go_wp2
    go_ret
    refine ⟨ret_int ?_, rfl⟩
    omega


def byteV (b : Nat) : Value := .int .u8 (b : Int)

theorem free_at {w : World} {b : Nat} {c : Array Value} {t : TypeId} (h : w.heap[b]? = some (.cells c t (0, 0))) (o : Nat) : w.frozen? ⟨b, o, none⟩ = false := by simp [World.frozen?, h]

theorem row_setCell {w : World} {b : Nat} {c : Array Value} {t : TypeId} (h : w.heap[b]? = some (.cells c t (0, 0))) (o : Nat) (u : Value) :
    (w.setCell ⟨b, o, none⟩ u).heap[b]? = some (.cells (c.setIfInBounds o u) t (0, 0)) := heap_setCell_same w b o c t u h

theorem owns_ne {w : World} {B p n : Nat} {v : Value} {xs : List Value} {c : Array Value} {t : TypeId} (h : w.ownsRow B 5 1 v n xs) (hp : w.heap[p]? = some (.cells c t (0, 0))) (ht : t ≠ 5) : v.ownBlock ≠ some p := by
  rcases h.2 with ⟨rfl, _⟩ | ⟨g, cap, cur, rfl, _, hg, _⟩
  · simp [Value.ownBlock]
  · simp only [Value.ownBlock, ne_eq, Option.some.injEq]
    rintro rfl
    rw [hg] at hp
    simp at hp
    exact ht hp.2.symm

/-- The slice v reads as the bytes bs. -/
def Lies (w : World) (v : Value) (bs : List Nat) : Prop :=
  ∃ ao cap, v = .slice ao bs.length cap ∧ bs.length ≤ cap ∧ (ao = none → cap = 0) ∧ ∀ a, ao = some a → ∀ j u, (bs.map byteV)[j]? = some u → w.cell? (a.add j) = some u

theorem cell_lt {w : World} {a : Addr} {v : Value} (h : w.cell? a = some v) : a.block < w.heap.size := by
  rcases Nat.lt_or_ge a.block w.heap.size with h' | h'
  · exact h'
  · simp [World.cell?, Array.getElem?_eq_none h'] at h

theorem cell_old {w w' : World} {a : Addr} {v : Value} (hb : Below w.heap.size w w') (h : w.cell? a = some v) : w'.cell? a = some v :=
  (hb.cell (cell_lt h)).trans h

theorem Lies.old {w w' : World} {v : Value} {bs : List Nat} (h : Lies w v bs) (hb : Below w.heap.size w w') : Lies w' v bs := by
  obtain ⟨ao, cap, h1, h2, h3, h4⟩ := h
  exact ⟨ao, cap, h1, h2, h3, fun a ha j u hu => cell_old hb (h4 a ha j u hu)⟩

theorem lies_own {w : World} {B : Nat} {v : Value} {bs : List Nat} (h : w.ownsRow B 5 1 v bs.length (bs.map byteV)) : Lies w v bs := by
  have h0 := h
  rcases h.2 with ⟨rfl, hn⟩ | ⟨g, cap, cur, rfl, _, hg, hn, _⟩
  · exact ⟨none, 0, by rw [hn], by omega, fun _ => rfl, fun a ha => by cases ha⟩
  · refine ⟨_, cap, rfl, hn, fun h => (by cases h), fun a ha j u hu => ?_⟩
    cases ha
    exact h0.cells rfl j u hu

theorem lies_n {w : World} {B n : Nat} {v : Value} {bs : List Nat} (hn : bs.length = n) (h : w.ownsRow B 5 1 v n (bs.map byteV)) : Lies w v bs := by
  subst hn; exact lies_own h

theorem byteV_inj {a b : Nat} : (byteV a = byteV b) ↔ a = b := by
  unfold byteV
  constructor
  · intro h; injection h with _ h; omega
  · rintro rfl; rfl

theorem Lies.at {w : World} {v : Value} {bs : List Nat} (h : Lies w v bs) (hn : 0 < bs.length) : ∃ a cap, v = .slice (some a) bs.length cap ∧ ∀ k, k < bs.length → w.cell? (a.add k) = some (.int .u8 (bs.getD k 0 : Nat)) := by
  obtain ⟨ao, cap, h1, h2, h3, h4⟩ := h
  cases ao with
  | none => have := h3 rfl; omega
  | some a => exact ⟨a, cap, h1, fun k hk => h4 a rfl k _ (by simp [hk, byteV])⟩

set_option maxHeartbeats 1000000 in
theorem same_walk (w : World) (u v : Value) (xs ys : List Nat) (hu : Lies w u xs) (hv : Lies w v ys) (hlen : xs.length = ys.length) (hl : xs.length ≤ 281474976710656) :
    Calls Try.prog 12 #[u, v] w fun e w' => e = .returned (.bool (decide (xs = ys))) ∧ Below w.heap.size w w' := by
  by_cases h0 : xs.length = 0
  · obtain ⟨ao, cap, rfl, _⟩ := hu
    obtain ⟨bo, cap', rfl, _⟩ := hv
    have e1 : xs = [] := List.length_eq_zero_iff.1 h0
    subst e1
    have e2 : ys = [] := List.length_eq_zero_iff.1 (by simpa using hlen.symm)
    subst e2
    go_enter Try.func12, Try.ntmps12
    go_wp2
    refine wp_loop_rounds 1 ?_
    rw [rounds_succ]
    go_wp2
    go_ret
    exact ⟨rfl, Below.refl _ _⟩
  obtain ⟨a, ca, rfl, hca⟩ := hu.at (by omega)
  obtain ⟨b, cb, rfl, hcb⟩ := hv.at (by omega)
  rw [← hlen] at hcb ⊢
  obtain ⟨n, hn⟩ : ∃ n, n = xs.length := ⟨_, rfl⟩
  rw [← hn] at hca hcb hl h0 ⊢
  have HN : Hid (n = xs.length ∧ n = ys.length) := ⟨hn, hn.trans hlen⟩
  clear hn hlen hu hv
  go_enter Try.func12, Try.ntmps12
  go_wp2
  go_loopw [5] (fun i wr => ∃ k : Nat, k ≤ n ∧ i = .int .i64 k ∧ (∀ j, j < k → xs.getD j 0 = ys.getD j 0) ∧ Below w.heap.size w wr) (fun i _ => n - (intOf i).toNat)
  case atStart => exact ⟨0, by omega, rfl, fun j hj => by omega, Below.refl _ _⟩
  case round =>
    obtain ⟨k, hk, rfl, hall, hb⟩ := hrel
    have HA : Hid (∀ j, j < k → xs.getD j 0 = ys.getD j 0) := hall
    clear hall
    by_cases hkn : k < n
    · have ha' := cell_old hb (hca k hkn)
      have hb' := cell_old hb (hcb k hkn)
      obtain ⟨x, hx⟩ : ∃ x, x = xs.getD k 0 := ⟨_, rfl⟩
      obtain ⟨y, hy⟩ : ∃ y, y = ys.getD k 0 := ⟨_, rfl⟩
      rw [← hx] at ha'
      rw [← hy] at hb'
      have HX : Hid (x = xs.getD k 0) := hx
      have HY : Hid (y = ys.getD k 0) := hy
      clear hx hy
      by_cases hxy : x = y
      · have hne : ((x : Int) != (y : Int)) = false := by simp [hxy]
        have HXY : Hid (x = y) := hxy
        clear hxy
        go_wp2
        go_quiet (fail)
        go_wp2
        go_roundw
        case rel =>
          refine ⟨k + 1, by omega, by go_num, fun j hj => ?_, hb.trans ⟨rfl, rfl, rfl, Nat.le_refl _, fun _ _ => rfl⟩⟩
          rcases (show j < k ∨ j = k by omega) with h | rfl
          · exact HA.out j h
          · rw [← HX.out, ← HY.out]; exact HXY.out
        case measure => simp [intOf]; omega
      · have hne : ((x : Int) != (y : Int)) = true := by simp; omega
        have HXY : Hid (¬ x = y) := hxy
        clear hxy
        go_wp2
        go_quiet (fail)
        go_wp2
        go_ret
        refine ⟨ret_bool ?_, hb.trans ⟨rfl, rfl, rfl, Nat.le_refl _, fun _ _ => rfl⟩⟩
        have : xs ≠ ys := fun h => HXY.out (by rw [HX.out, HY.out, h])
        simp [this]
    · have hkk : k = n := by omega
      subst hkk
      go_wp2
      go_ret
      refine ⟨ret_bool ?_, hb⟩
      have : xs = ys := by
        apply List.ext_getElem (by rw [← HN.out.1, ← HN.out.2])
        intro j h1 h2
        have := HA.out j (by have := HN.out.1; omega)
        simpa [h1, h2] using this
      simp [this]

theorem same_off (w : World) (u v : Value) (xs ys : List Nat) (hu : Lies w u xs) (hv : Lies w v ys) (hlen : xs.length ≠ ys.length) :
    Calls Try.prog 12 #[u, v] w fun e w' => e = .returned (.bool (decide (xs = ys))) ∧ Below w.heap.size w w' := by
  obtain ⟨ao, ca, rfl, _⟩ := hu
  obtain ⟨bo, cb, rfl, _⟩ := hv
  have hne : ((xs.length : Int) != (ys.length : Int)) = true := by simp; omega
  have h : decide (xs = ys) = false := by
    have : xs ≠ ys := fun h => hlen (by rw [h])
    simp [this]
  rw [h]
  go_enter Try.func12, Try.ntmps12
  go_wp2
  go_ret
  exact ⟨rfl, Below.refl _ _⟩

/-- Same: whatever it is handed. -/
theorem same_any (w : World) (u v : Value) (xs ys : List Nat) (hu : Lies w u xs) (hv : Lies w v ys) (hl : xs.length ≤ 281474976710656) :
    Calls Try.prog 12 #[u, v] w fun e w' => e = .returned (.bool (decide (xs = ys))) ∧ Below w.heap.size w w' := by
  by_cases h : xs.length = ys.length
  · exact same_walk w u v xs ys hu hv h hl
  · exact same_off w u v xs ys hu hv h

theorem bytes_one (bs : List Nat) : ∀ u ∈ bs.map byteV, u.oneCell' = true := by
  intro u hu
  obtain ⟨b, _, rfl⟩ := List.mem_map.1 hu
  rfl

theorem lies_lit (w : World) (L : List Nat) (cs : Array Value) (hcs : cs = (L.map byteV).toArray) : Lies (w.alloc (.cells cs 5)) (.slice (some ⟨w.heap.size, 0, none⟩) L.length L.length) L := by
  subst hcs
  refine ⟨_, _, rfl, Nat.le_refl _, fun h => (by cases h), fun a ha j u hu => ?_⟩
  cases ha
  have hadd : (⟨w.heap.size, 0, none⟩ : Addr).add j = ⟨w.heap.size, j, none⟩ := by unfold Addr.add; split <;> simp_all
  rw [hadd, cell_of_row _ _ j _ 5 (0, 0) (heap_alloc_new w _)]
  simpa using hu

structure Fr (x y : Option Nat) (w w' : World) : Prop where
  os : w'.os = w.os
  tape : w'.tape = w.tape
  output : w'.output = w.output
  size : w.heap.size ≤ w'.heap.size
  block : ∀ k, k < w.heap.size → some k ≠ x → some k ≠ y → w'.heap[k]? = w.heap[k]?

theorem Fr.refl (x y : Option Nat) (w : World) : Fr x y w w := ⟨rfl, rfl, rfl, Nat.le_refl _, fun _ _ _ _ => rfl⟩

theorem Fr.trans {x y y' : Option Nat} {a b c : World} (h : Fr x y a b) (k : Fr x y' b c) (hy : y' = y ∨ ∀ j, y' = some j → a.heap.size ≤ j) : Fr x y a c := by
  refine ⟨k.os.trans h.os, k.tape.trans h.tape, k.output.trans h.output, Nat.le_trans h.size k.size, fun j hj hx hy2 => ?_⟩
  rw [k.block j (Nat.lt_of_lt_of_le hj h.size) hx ?_]
  · exact h.block j hj hx hy2
  · rcases hy with rfl | hy
    · exact hy2
    · intro e
      have := hy j e.symm
      omega

theorem Fr.ofBelow {x y : Option Nat} {w w' : World} (h : Below w.heap.size w w') : Fr x y w w' := ⟨h.os, h.tape, h.output, h.size, fun k hk _ _ => h.block k hk⟩

theorem Fr.ofGrown {x y : Option Nat} {w w' : World} (h : w.grownBy w' y) : Fr x y w w' := ⟨h.os, h.tape, h.output, h.size, fun k hk _ hy => h.block k hk hy⟩

theorem Fr.ofGrown1 {x y : Option Nat} {w w' : World} (h : w.grownBy w' x) : Fr x y w w' := ⟨h.os, h.tape, h.output, h.size, fun k hk hx _ => h.block k hk hx⟩

theorem Fr.below {x y : Option Nat} {w w' : World} (h : Fr x y w w') {B : Nat} (hB : B ≤ w.heap.size) (hx : ∀ j, x = some j → B ≤ j) (hy : ∀ j, y = some j → B ≤ j) : Below B w w' :=
  ⟨h.os, h.tape, h.output, h.size, fun k hk => h.block k (by omega) (fun e => by have := hx k e.symm; omega) (fun e => by have := hy k e.symm; omega)⟩

theorem Fr.setCell {x y : Option Nat} {w w' : World} (h : Fr x y w w') (b o : Nat) (u : Value) (hb : some b = x ∨ some b = y ∨ w.heap.size ≤ b) : Fr x y w (w'.setCell ⟨b, o, none⟩ u) := by
  refine ⟨h.os, h.tape, h.output, by simpa using h.size, fun k hk hx hy => ?_⟩
  rw [Below.heap_setCell _ _ _ _ ?_]
  · exact h.block k hk hx hy
  · rintro rfl
    rcases hb with e | e | e
    · exact hx e
    · exact hy e
    · omega

theorem Fr.drew {x y : Option Nat} {w w' : World} (h : Fr x y w w') : Fr x y w w'.drew := ⟨h.os, h.tape, h.output, h.size, h.block⟩

theorem Fr.drewN {x y : Option Nat} {w w' : World} (h : Fr x y w w') (k : Nat) : Fr x y w (w'.drewN k) := ⟨h.os, h.tape, h.output, h.size, h.block⟩

theorem owns_lt {w : World} {B t : Nat} {v : Value} {n : Nat} {xs : List Value} (h : w.ownsRow B t 1 v n xs) : ∀ j, v.ownBlock = some j → B ≤ j ∧ j < w.heap.size := fun j hj => h.lt j hj

theorem blocks_ne {w : World} {a b : Nat} {c d : Array Value} {t u : TypeId} (h : w.heap[a]? = some (.cells c t (0, 0))) (h2 : w.heap[b]? = some (.cells d u (0, 0))) (hn : t ≠ u) : a ≠ b := by
  rintro rfl
  rw [h] at h2
  simp at h2
  exact hn h2.2

theorem below_setRow {B g : Nat} {w w' : World} (h : Below B w w') (hg : B ≤ g) (cs : Array Value) : Below B w (w'.setRow g cs) :=
  ⟨h.os, h.tape, h.output, by simpa [World.setRow] using h.size, fun k hk => by rw [setRow_other _ _ _ _ (by omega)]; exact h.block k hk⟩

theorem wpList_load_rowG {P : Program} {ops : Array Oper} {rest : List Oper} {o : Oper} {a : Act} {w : World} {Q : Exit → Act → World → Prop} (hw : Region.wanted o (yielded ops a.tmps) = true) (ty : TypeId) (x : Operand) (ho : o.op = .load ty x)
    (g : Nat) (hx : a.eval x = .pointer (some ⟨g, 0, none⟩)) (t : TypeId) (cs : Array Value) (fr : Nat × Nat) (d : TypeDesc) (hg : w.heap[g]? = some (.cells cs t fr))
    (hu : P.underlying ty = some d) (hd : (match d with | .struct _ | .array _ _ => true | _ => false) = true) (hi : (P.info? ty).map (·.size) = some cs.size)
    (h : wpList P ops Q rest (a.put o.dst (.agg cs)) w) : wpList P ops Q (o :: rest) a w :=
  wpList_step fun K hK => by
    rw [if_pos hw]
    exact wp_load_row ty x ho g hx t cs fr d hg hu hd hi (hK _ _ h)

theorem below_drewN (w : World) (k : Nat) : Below w.heap.size w (w.drewN k) := ⟨rfl, rfl, rfl, Nat.le_refl _, fun _ _ => rfl⟩

theorem Try.info5 : (Try.prog.info? 5).map (fun i => (i.zero, i.size, i.bytes)) = some (some (.int .u8 0), 1, 1) := by kernel_rfl
theorem Try.underlying22 : Try.prog.underlying 22 = some (.slice 5) := by kernel_rfl

end Go.Proofs.Ytnldjcjhhenppaa
