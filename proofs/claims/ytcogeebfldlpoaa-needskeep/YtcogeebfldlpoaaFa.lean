/-
  A row of heads that a call owns: two of them changed for each other, one's needs put anew.
-/
import Derived.Test.YtcogeebfldlpoaaTb
set_option linter.unusedSimpArgs false
set_option linter.unusedVariables false
namespace Go.Proofs.Ytcogeebfldlpoaa
open Go.RowKit
open Go.Proofs.NeedsPlain (Hd names getD_set)

/-- A slice that does not lie in block b. -/
def Offs (b : Nat) (v : Value) : Prop := ∀ a n c, v = .slice (some a) n c → a.block ≠ b

theorem offs_nil (b : Nat) : Offs b (.slice none 0 0) := fun a n c e => by cases e

theorem LiesS.off {w w' : World} {b : Nat} {v : Value} {ss : List Txt} (h : LiesS w v ss) (ho : Offs b v) (hk : w.grownBy w' (some b)) : LiesS w' v ss := by
  obtain ⟨ao, cap, h1, h2, h3, h4⟩ := h
  refine ⟨ao, cap, h1, h2, h3, fun a ha j u hu => ?_⟩
  have hc := h4 a ha j u hu
  have e : (a.add j).block = a.block := by unfold Addr.add; split <;> rfl
  refine hk.cell hc ?_
  rw [e]
  intro e2
  subst ha
  exact ho a _ _ h1 (by simpa using e2)

/-- The heads hs stand in block b from o on; what they need lies elsewhere. -/
structure HRow (w : World) (b o : Nat) (hs : List Hd) : Prop where
  at' : ∀ k, k < hs.length → ∃ tg nv, w.rangeAt b (o + k * 3) [.string (str (hs.getD k hd0).1), .bool tg, nv] ∧ LiesS w nv (hs.getD k hd0).2 ∧ Offs b nv
  th : ∀ j, j < 3 * hs.length → (w.cell? ⟨b, o + j, none⟩).isSome = true ∧ w.frozen? ⟨b, o + j, none⟩ = false

theorem HRow.heads {w : World} {b o : Nat} {hs : List Hd} (h : HRow w b o hs) : HeadsAt w b o hs := fun k hk => by
  obtain ⟨tg, nv, h1, h2, _⟩ := h.at' k hk
  exact ⟨tg, nv, h1, h2⟩

theorem HRow.lies {w : World} {b o cap : Nat} {hs : List Hd} (h : HRow w b o hs) (hc : hs.length ≤ cap) : LiesH w (.slice (some ⟨b, o, none⟩) hs.length cap) hs :=
  ⟨_, cap, rfl, hc, fun e => (by cases e), fun a ha => by cases ha; exact ⟨rfl, h.heads⟩⟩

theorem frozen_old {w w' : World} {b o : Nat} (hb : Old w w') (h : b < w.heap.size) : w'.frozen? ⟨b, o, none⟩ = w.frozen? ⟨b, o, none⟩ := hb.frozen (p := ⟨b, o, none⟩) h

theorem HRow.old {w w' : World} {b o : Nat} {hs : List Hd} (h : HRow w b o hs) (hb : Old w w') : HRow w' b o hs := by
  refine ⟨fun k hk => ?_, fun j hj => ?_⟩
  · obtain ⟨tg, nv, h1, h2, h3⟩ := h.at' k hk
    exact ⟨tg, nv, range_old h1 hb, h2.old hb, h3⟩
  · obtain ⟨h1, h2⟩ := h.th j hj
    obtain ⟨u, hu⟩ := Option.isSome_iff_exists.1 h1
    refine ⟨by rw [cell_old hb hu]; rfl, ?_⟩
    rw [frozen_old hb (cell_lt hu)]; exact h2

theorem HRow.drew {w : World} {b o : Nat} {hs : List Hd} (h : HRow w b o hs) : HRow w.drew b o hs := h.old (Below.refl _ _).drew

def swapH (hs : List Hd) (i j : Nat) : List Hd := (hs.set i (hs.getD j hd0)).set j (hs.getD i hd0)

theorem swapH_len (hs : List Hd) (i j : Nat) : (swapH hs i j).length = hs.length := by simp [swapH]

theorem swapH_at {hs : List Hd} {i j : Nat} (hi : i < hs.length) (hj : j < hs.length) (k : Nat) : (swapH hs i j).getD k hd0 = if k = j then hs.getD i hd0 else if k = i then hs.getD j hd0 else hs.getD k hd0 := by
  unfold swapH
  rw [getD_set (by simpa using hj), getD_set hi]

theorem setCells_grown (b : Nat) : ∀ (vs : List Value) (o : Nat) (w : World), w.grownBy (w.setCells b o vs) (some b)
  | [], o, w => ⟨rfl, rfl, rfl, Nat.le_refl _, fun _ _ _ => rfl⟩
  | v :: r, o, w => by
    have h := setCells_grown b r (o + 1) (w.setCell ⟨b, o, none⟩ v)
    have hs : w.heap.size ≤ ((w.setCell ⟨b, o, none⟩ v).setCells b (o + 1) r).heap.size := by have := h.size; simpa using this
    refine ⟨h.os, h.tape, h.output, hs, fun k hk hn => ?_⟩
    show ((w.setCell ⟨b, o, none⟩ v).setCells b (o + 1) r).heap[k]? = _
    rw [h.block k (by simpa using hk) hn]
    exact Below.heap_setCell _ _ _ _ (by simpa using hn)

theorem frozen_setCells (b : Nat) : ∀ (vs : List Value) (o : Nat) (w : World) (a : Addr), (w.setCells b o vs).frozen? a = w.frozen? a
  | [], _, _, _ => rfl
  | v :: r, o, w, a => by
    show ((w.setCell ⟨b, o, none⟩ v).setCells b (o + 1) r).frozen? a = _
    rw [frozen_setCells b r (o + 1)]
    exact World.frozen?_setCell _ _ _ _

theorem load24 {w : World} {b o : Nat} {cs : List Value} (h : w.rangeAt b o cs) (hl : cs.length = 3) : (Instr.loadAt 24 (.pointer (some ⟨b, o, none⟩))).run Try.prog w = .ok (.agg cs.toArray) w := by
  obtain ⟨fs, hfs⟩ := under24
  exact run_loadAt_mid w b o 24 cs _ h hfs rfl (by rw [size24, hl])

/-- One head put in the place of another. -/
theorem HRow.set {w : World} {b o : Nat} {hs : List Hd} (h : HRow w b o hs) {i : Nat} (hi : i < hs.length) (x : Hd) (tg : Bool) (nv : Value) (hl : LiesS w nv x.2) (ho : Offs b nv) :
    (Instr.storeAt 24 (.pointer (some ⟨b, o + i * 3, none⟩)) (.agg #[.string (str x.1), .bool tg, nv])).run Try.prog w = .ok () (w.setCells b (o + i * 3) [.string (str x.1), .bool tg, nv])
      ∧ HRow (w.setCells b (o + i * 3) [.string (str x.1), .bool tg, nv]) b o (hs.set i x) := by
  have hg := setCells_grown b [.string (str x.1), .bool tg, nv] (o + i * 3) w
  have hth : ∀ j, j < 3 → (w.cell? ⟨b, o + i * 3 + j, none⟩).isSome = true ∧ w.frozen? ⟨b, o + i * 3 + j, none⟩ = false := fun j hj => by
    have := h.th (i * 3 + j) (by omega)
    rwa [← Nat.add_assoc] at this
  refine ⟨run_storeAt_mid (P := Try.prog) w b (o + i * 3) 24 #[.string (str x.1), .bool tg, nv] (fun j hj => hth j (by simpa using hj)) (by rw [size24]; rfl) (one_cell hl), ⟨fun k hk => ?_, fun j hj => ?_⟩⟩
  · rw [getD_set hi]
    rw [List.length_set] at hk
    by_cases e : k = i
    · subst e
      rw [if_pos rfl]
      exact ⟨tg, nv, World.rangeAt_setCells_same w b (o + k * 3) _ (fun j hj => hth j (by simpa using hj)), hl.off ho hg, ho⟩
    · rw [if_neg e]
      obtain ⟨tg', nv', h1, h2, h3⟩ := h.at' k hk
      refine ⟨tg', nv', World.rangeAt_setCells_apart h1 b (o + i * 3) _ ?_, h2.off h3 hg, h3⟩
      right
      simp
      omega
  · rw [List.length_set] at hj
    obtain ⟨h1, h2⟩ := h.th j hj
    exact ⟨World.isSome_setCells b _ _ _ _ h1, by rw [frozen_setCells]; exact h2⟩

theorem upT_loadR {P : Program} {C : World → Prop} {D : List PanicEntry → World → Prop} {o : Oper} {a : Act} {w : World} {v : Value} (ty : TypeId) (x : Operand) (ho : o.op = .load ty x) (p : Value) (hx : a.eval x = p) (hr : (Instr.loadAt ty p).run P w = .ok v w) (h : C w) :
    Rt.upT P C D v false w ((execOp a.eval o).run P w) := by
  unfold execOp
  simp only [ho, hx, Sem.run_bind, hr, Result.andThen_ok, Sem.run_pure]
  exact ⟨rfl, rfl, h⟩

theorem upT_storeR {P : Program} {C : World → Prop} {D : List PanicEntry → World → Prop} {o : Oper} {a : Act} {w w' : World} (ty : TypeId) (x y : Operand) (ho : o.op = .store ty x y) (p v : Value) (hx : a.eval x = p) (hy : a.eval y = v) (hr : (Instr.storeAt ty p v).run P w = .ok () w') (h : C w') :
    Rt.upT P C D undef false w ((execOp a.eval o).run P w) := by
  unfold execOp
  simp only [ho, hx, hy, Sem.run_bind, hr, Result.andThen_ok, Sem.run_pure]
  exact ⟨rfl, rfl, h⟩

/-- Two heads changed for each other: what is loaded, what is stored, and what stands then. -/
theorem swap_runs (w : World) (b o : Nat) (hs : List Hd) (h : HRow w b o hs) (i j : Nat) (hi : i < hs.length) (hj : j < hs.length) :
    ∃ ci cj V1 V2, (Instr.loadAt 24 (.pointer (some ⟨b, o + i * 3, none⟩))).run Try.prog w = .ok (.agg ci) w ∧ (Instr.loadAt 24 (.pointer (some ⟨b, o + j * 3, none⟩))).run Try.prog w = .ok (.agg cj) w
      ∧ (Instr.storeAt 24 (.pointer (some ⟨b, o + i * 3, none⟩)) (.agg cj)).run Try.prog w = .ok () V1 ∧ (Instr.storeAt 24 (.pointer (some ⟨b, o + j * 3, none⟩)) (.agg ci)).run Try.prog V1 = .ok () V2
      ∧ HRow V2 b o (swapH hs i j) ∧ w.grownBy V2 (some b) := by
  obtain ⟨ti, ni, r1, l1, f1⟩ := h.at' i hi
  obtain ⟨tj, nj, r2, l2, f2⟩ := h.at' j hj
  obtain ⟨s1, g1⟩ := h.set hi (hs.getD j hd0) tj nj l2 f2
  have hg1 := setCells_grown b [.string (str (hs.getD j hd0).1), .bool tj, nj] (o + i * 3) w
  obtain ⟨s2, g2⟩ := g1.set (i := j) (by simpa using hj) (hs.getD i hd0) ti ni (l1.off f1 hg1) f1
  refine ⟨_, _, _, _, load24 r1 rfl, load24 r2 rfl, s1, s2, g2, ?_⟩
  have hg2 := setCells_grown b [.string (str (hs.getD i hd0).1), .bool ti, ni] (o + j * 3) (w.setCells b (o + i * 3) [.string (str (hs.getD j hd0).1), .bool tj, nj])
  exact ⟨hg2.os.trans hg1.os, hg2.tape.trans hg1.tape, hg2.output.trans hg1.output, Nat.le_trans hg1.size hg2.size, fun k hk hn => (hg2.block k (Nat.lt_of_lt_of_le hk hg1.size) hn).trans (hg1.block k hk hn)⟩
end Go.Proofs.Ytcogeebfldlpoaa
