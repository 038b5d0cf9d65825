/-
  Lines: what was read and what is left, in plain lists; one change put behind the reader's.
-/
import Derived.Test.YtfkfaaifchafjaaDoorFg
import Derived.Test.YtfkfaaifchafjaaDoorFj
import Derived.Test.YtfkfaaifchafjaaDoorRp
set_option linter.unusedSimpArgs false
set_option linter.unusedVariables false
namespace Go.Proofs.YtfkfaaifchafjaaDoor
open Go.RowKit

/-- what is left, the number of its first line, what was read ahead of it -/
def Par (s : Txt) (p : Pat) (n : Nat) (rest : Txt) : Prop := ∃ k, parseGo k p n rest = parseM s ∧ rest.length < k ∧ n + rest.length ≤ s.length + 1

theorem Par.start (s : Txt) : Par s pat0 1 s := ⟨s.length + 1, rfl, by omega, by omega⟩

theorem Par.len {s : Txt} {p : Pat} {n : Nat} {rest : Txt} (h : Par s p n rest) : rest.length ≤ s.length + 1 - n ∧ n ≤ s.length + 1 := by
  obtain ⟨k, _, _, h3⟩ := h
  omega

theorem Par.next {s : Txt} {p q : Pat} {n : Nat} {rest : Txt} (h : Par s p n rest) (hc : (cutB 10 rest).2.2 = true) (hr : readM p n (cutB 10 rest).1 = some q) : Par s q (n + 1) (cutB 10 rest).2.1 := by
  obtain ⟨k, h1, h2, h3⟩ := h
  have hl := (cutB_len 10 rest).2.2 hc
  obtain ⟨k, rfl⟩ : ∃ j, k = j + 1 := ⟨k - 1, by omega⟩
  refine ⟨k, ?_, by omega, by omega⟩
  rw [← h1, parseGo]
  have hne : rest ≠ [] := by rintro rfl; cases hc
  rw [if_neg hne, if_pos hc, hr]

theorem Par.bad {s : Txt} {p : Pat} {n : Nat} {rest : Txt} (h : Par s p n rest) (hc : (cutB 10 rest).2.2 = true) (hr : readM p n (cutB 10 rest).1 = none) : parseM s = (pat0, n) := by
  obtain ⟨k, h1, h2, h3⟩ := h
  obtain ⟨k, rfl⟩ : ∃ j, k = j + 1 := ⟨k - 1, by omega⟩
  rw [← h1, parseGo]
  have hne : rest ≠ [] := by rintro rfl; cases hc
  rw [if_neg hne, if_pos hc, hr]

theorem Par.stop {s : Txt} {p : Pat} {n : Nat} {rest : Txt} (h : Par s p n rest) (hc : (cutB 10 rest).2.2 = false) (he : rest = [] → n < if p.2.1 then 3 else 4) : parseM s = (pat0, n) := by
  obtain ⟨k, h1, h2, h3⟩ := h
  obtain ⟨k, rfl⟩ : ∃ j, k = j + 1 := ⟨k - 1, by omega⟩
  rw [← h1, parseGo]
  by_cases hne : rest = []
  · rw [if_pos hne, if_neg (by have := he hne; omega)]
  · rw [if_neg hne, if_neg (by rw [hc]; decide)]

theorem Par.fin {s : Txt} {p : Pat} {n : Nat} (h : Par s p n []) (he : (if p.2.1 then 3 else 4) ≤ n) : parseM s = (p, 0) := by
  obtain ⟨k, h1, h2, h3⟩ := h
  obtain ⟨k, rfl⟩ : ∃ j, k = j + 1 := ⟨k - 1, by omega⟩
  rw [← h1, parseGo, if_pos rfl, if_pos he]

theorem chgM_len {s : Txt} {c : Chg} (h : chgM s = some c) : c.2.2.2.length ≤ s.length := by
  have a := (cutB_len 32 s).2.1
  have b := (cutB_len 32 (cutB 32 s).2.1).2.1
  have d := (cutB_len 32 (cutB 32 (cutB 32 s).2.1).2.1).2.1
  unfold chgM at h
  simp only at h
  split at h
  · cases h; exact a
  split at h
  · split at h
    · obtain ⟨f, _, rfl⟩ := Option.map_eq_some_iff.1 h
      simp only; omega
    · cases h
  split at h
  · obtain ⟨f, _, rfl⟩ := Option.map_eq_some_iff.1 h
    simp
  split at h
  · split at h
    · obtain ⟨f, _, h⟩ := Option.bind_eq_some_iff.1 h
      obtain ⟨l, _, rfl⟩ := Option.map_eq_some_iff.1 h
      simp only; omega
    · cases h
  split at h
  · split at h
    · obtain ⟨f, _, h⟩ := Option.bind_eq_some_iff.1 h
      obtain ⟨l, _, rfl⟩ := Option.map_eq_some_iff.1 h
      simp
    · cases h
  · cases h

theorem readM_three (p : Pat) (n : Nat) (hn : 3 ≤ n) (s : Txt) : readM p n s = match chgM s with
    | none => none
    | some c => if p.2.1 = false ∧ p.2.2.2.length < 40 ∧ chgOk p.1 p.2.2.1 p.2.2.2 c = true then some (p.1, p.2.1, p.2.2.1, p.2.2.2 ++ [c]) else none := by
  unfold readM
  rw [if_neg (by omega), if_neg (by omega)]
  cases chgM s <;> rfl

theorem readM_two_len {p q : Pat} {s : Txt} (h : readM p 2 s = some q) : q.2.2.1.length ≤ s.length ∧ q.2.2.2 = [] := by
  unfold readM at h
  rw [if_neg (by decide), if_pos rfl] at h
  split at h
  · cases h
    have := splB_len 32 s
    simp; omega
  · cases h

theorem own_type {B : Nat} {w : World} {v : Value} {l : List Chg} (h : OwnC B w v l) {k : Nat} {cs : Array Value} {t : TypeId} (hk : w.heap[k]? = some (.cells cs t (0, 0))) (ht : t ≠ 44) : some k ≠ v.ownBlock := by
  rcases h.2 with ⟨rfl, _⟩ | ⟨g, cap, cur, rfl, _, hg, _⟩
  · intro e; cases e
  · intro e
    have e : k = g := by simpa [Value.ownBlock] using e
    subst e
    rw [hk] at hg
    simp at hg
    exact ht hg.2

/-- One change more, laid into a block first. -/
theorem Rd.push {B : Nat} {w W2 : World} {R : Nat} {rest : Txt} {n : Nat} {p : Pat} {nv cv : Value} (hm : w.heap[R]? = some (.cells #[.string (str rest), .int .i64 (n : Int), .string (str p.1), .bool p.2.1, nv, cv] 67 (0, 0)))
    (hrow : RowS w nv p.2.2.1) (hown : OwnC B w cv p.2.2.2) (hb : B ≤ R) (he : EnvB B w) (o : Obj) (g m cap : Nat) (c : Chg) (h2 : OwnC B W2 (.slice (some ⟨g, 0, none⟩) m cap) (p.2.2.2 ++ [c])) (hg : (w.alloc o).grownBy W2 cv.ownBlock) :
    Rd B (W2.setCell ⟨R, 5, none⟩ (.slice (some ⟨g, 0, none⟩) m cap)) R rest n (p.1, p.2.1, p.2.2.1, p.2.2.2 ++ [c]) ∧ Kp B w (W2.setCell ⟨R, 5, none⟩ (.slice (some ⟨g, 0, none⟩) m cap)) := by
  have hlt : ∀ {k : Nat} {cs : Array Value} {t : TypeId}, w.heap[k]? = some (.cells cs t (0, 0)) → t ≠ 44 → W2.heap[k]? = some (.cells cs t (0, 0)) := by
    intro k cs t hk ht
    have hk0 := (Array.getElem?_eq_some_iff.1 hk).1
    rw [hg.block k (by simp; omega) (own_type hown hk ht), Below.heap_alloc _ _ _ hk0]
    exact hk
  have hRm := hlt hm (by decide)
  have hRs := (Array.getElem?_eq_some_iff.1 hm).1
  have hb0 : Below B w W2 := by
    refine ⟨hg.os, hg.tape, hg.output, by have := hg.size; simp at this; omega, fun k hk => ?_⟩
    rw [hg.block k (by simp; omega) (fun e => ?_), Below.heap_alloc _ _ _ (by omega)]
    have := (hown.lt k e.symm).1
    omega
  have hb1 : Below B w (W2.setCell ⟨R, 5, none⟩ (.slice (some ⟨g, 0, none⟩) m cap)) := hb0.setCell (p := ⟨R, 5, none⟩) hb _
  refine ⟨⟨⟨nv, .slice (some ⟨g, 0, none⟩) m cap, ?_, ?_, ?_⟩, hb, he.old hb1⟩, hb1, fun k cs hk => heap_set_ne _ _ _ _ (blocks_ne (hlt hk (by decide)) hRm (by decide)) (hlt hk (by decide))⟩
  · rw [row_setCell hRm 5]
    rfl
  · exact hrow.keep (fun k cs hk => heap_set_ne _ _ _ _ (blocks_ne (hlt hk (by decide)) hRm (by decide)) (hlt hk (by decide)))
  · exact ownC_keep h2 (fun k cs hk => heap_set_ne _ _ _ _ (blocks_ne hk hRm (by decide)) hk)

theorem need_try (R : Nat) (n : Int) (d : Bool) (w : World) (h : w.cell? ⟨R, 1, none⟩ = some (.int .i64 n)) : Calls Tryd.prog 44 #[.pointer (some ⟨R, 0, none⟩), .bool d] w fun e w' => (e = .returned (.tuple #[]) ∧ (!d) = false ∧ w' = w) ∨ ∃ ch, e = .panicked ch ∧ DiesAt n ch ∧ d = false ∧ w' = w := by
  cases d
  · exact (need_false R n w h).mono fun e w' ⟨h1, h2⟩ => .inr ⟨_, h1, rfl, rfl, h2⟩
  · exact (need_true _ w).mono fun e w' ⟨h1, h2⟩ => .inl ⟨h1, rfl, h2⟩

theorem upT_load {P : Program} {C : World → Prop} {D : List PanicEntry → World → Prop} {o : Oper} {a : Act} {w : World} {v : Value} (ty : TypeId) (x : Operand) (ho : o.op = .load ty x) (p : Value) (hx : a.eval x = p) (hr : (Instr.loadAt ty p).run P w = .ok v w) (h : C w) :
    Rq.upT P C D v false w ((execOp a.eval o).run P w) := by
  unfold execOp
  simp only [ho, hx, Sem.run_bind, hr, Result.andThen_ok, Sem.run_pure]
  exact ⟨rfl, rfl, h⟩

theorem run_loadAt44 (w : World) (g : Nat) (cs : Array Value) (hg : w.heap[g]? = some (.cells cs 44 (0, 0))) (hs : cs.size = 6) : (Instr.loadAt 44 (.pointer (some ⟨g, 0, none⟩))).run Tryd.prog w = .ok (.agg cs) w := by
  simp only [Instr.loadAt, Instr.sureAddr, Sem.run_bind, Sem.run_pure, Result.andThen]
  exact run_loadVar_row w g 44 44 cs (0, 0) _ hg Tryd.underlying44 rfl (by rw [hs]; exact size44)

/-- the patch out of the reader -/
theorem run_load26 {B : Nat} {w : World} {R : Nat} {rest : Txt} {n : Nat} {p : Pat} {nv cv : Value} (hm : w.heap[R]? = some (.cells #[.string (str rest), .int .i64 (n : Int), .string (str p.1), .bool p.2.1, nv, cv] 67 (0, 0))) :
    (Instr.loadAt 26 (.pointer (some ⟨R, 2, none⟩))).run Tryd.prog w = .ok (.agg #[.string (str p.1), .bool p.2.1, nv, cv]) w := by
  have := run_loadAt_mid (P := Tryd.prog) w R 2 26 [.string (str p.1), .bool p.2.1, nv, cv] _ (fun j v hj => ?_) Tryd.underlying26 rfl (by kernel_rfl)
  · exact this
  · obtain ⟨a0, a1, a2, a3, a4, a5⟩ := cell6 hm
    match j, hj with
    | 0, hj => cases hj; exact a2
    | 1, hj => cases hj; exact a3
    | 2, hj => cases hj; exact a4
    | 3, hj => cases hj; exact a5

theorem push_run {B : Nat} {w : World} {cv : Value} {l : List Chg} (hown : OwnC B w cv l) (hB : B ≤ w.heap.size) (m : Nat) (hm : m = l.length) (hl : m ≤ 1000000) (c : Chg) (cs : Array Value) (hcs : cs = (encC c).toArray) :
    ∃ g cap w', (Builtin.append_ #[24, 24] 24 #[cv, .slice (some ⟨w.heap.size, 0, none⟩) 1 1]).run Tryd.prog (w.alloc (.cells cs 44)) = .ok (.slice (some ⟨g, 0, none⟩) (m + 1) cap) w' ∧ OwnC B w' (.slice (some ⟨g, 0, none⟩) (m + 1) cap) (l ++ [c]) ∧ (w.alloc (.cells cs 44)).grownBy w' cv.ownBlock := by
  subst hcs hm
  obtain ⟨i, hi, hz0, hz1, hz2⟩ := info_parts info44
  obtain ⟨g, cap, w', h1, h2, h3, _, _⟩ := run_append_lies (P := Tryd.prog) (w.alloc (.cells (encC c).toArray 44)) 24 24 B 44 i _ 6 72 Tryd.underlying24 hi hz0 hz1 hz2 rfl (by decide) cv l.length (cellsC l) (ownC_old hown (old1 _ _)) ⟨w.heap.size, 0, none⟩ 1 1 (encC c) rfl (fun j u hj => by
    rw [add_none, Nat.zero_add, cell_of_row _ _ j _ 44 (0, 0) (heap_alloc_new w _)]
    simpa using hj) (fun u hu => by
    have := encC_one c
    rw [Array.all_eq_true_iff_forall_mem] at this
    exact this u (by simpa using hu)) (by decide) (by unfold maxLen; omega) (by omega) (by simp; omega) (w.heap.size + 1) (by simp)
  refine ⟨g, cap, w', h1, ?_, h3⟩
  show World.ownsRow _ _ _ _ _ _ _
  rw [List.length_append, cellsC_app, cellsC_one]
  exact h2

theorem exec_append {P : Program} {o : Oper} {a : Act} {w w' : World} {t : TypeId} {v u v' : Value} (s x : Operand) (ho : o.op = .call { callee := .builtin .append, args := #[s, x], argTypes := #[t, t] }) (hs : a.eval s = v) (hx : a.eval x = u)
    (hr : (Builtin.append_ #[t, t] o.type #[v, u]).run P w = .ok v' w') : (execOp a.eval o).run P w = .ok (.value v') w' := by
  unfold execOp
  simp only [ho, resolve, invoke, builtin, Sem.run_bind, Sem.run_pure, Result.andThen_ok, List.map_toArray, List.map_cons, List.map_nil, hs, hx, hr]

theorem upT_load' {P : Program} {C : World → Prop} {D : List PanicEntry → World → Prop} {o : Oper} {a : Act} {w : World} {v : Value} (ty : TypeId) (x : Operand) (ho : o.op = .load ty x) (p : Value) (hx : a.eval x = p) (hr : (Instr.loadAt ty p).run P w = .ok v w) (h : C w) :
    Rp.upT P C D v false w ((execOp a.eval o).run P w) := by
  unfold execOp
  simp only [ho, hx, Sem.run_bind, hr, Result.andThen_ok, Sem.run_pure]
  exact ⟨rfl, rfl, h⟩

/-- four worlds, one a phase -/
def Ph4 (a b c d : World) (k : Nat) (w : World) : Prop := w = match k with
  | 0 => a
  | 1 => b
  | 2 => c
  | _ => d
theorem Ph4.one {a b c d w : World} {k : Nat} (h0 : 0 ≤ k) (h1 : k ≤ 1) (h : Ph4 a b c d k w) : w = a ∨ w = b := by
  rcases (show k = 0 ∨ k = 1 by omega) with rfl | rfl
  · exact .inl h
  · exact .inr h
theorem Ph4.zero {a b c d w : World} {k : Nat} (h0 : 0 ≤ k) (h1 : k ≤ 0) (h : Ph4 a b c d k w) : w = a := by
  obtain rfl : k = 0 := by omega
  exact h
end Go.Proofs.YtfkfaaifchafjaaDoor
