/-
  A map from texts to numbers that a call has made: what it holds, key by key; made, looked up, written.
-/
import Derived.Test.YtcogeebfldlpoaaSd
import Derived.Maps.OwnSet
import Derived.Maps.OwnOps
set_option linter.unusedSimpArgs false
set_option linter.unusedVariables false
namespace Go.Proofs.Ytcogeebfldlpoaa
open Go.RowKit
open Go.WideMaps Go.WideElems
open Go.Maps (string_keyed Keyed Tidy)

theorem law9 : Keyed Try.prog 9 := string_keyed Try.underlying9
theorem zero3 (w : World) : (zeroValue 3).run Try.prog w = .ok (.int .i64 0) w := by kernel_rfl
theorem run_make46 (n : Nat) (hn : n ≤ 1000000) (w : World) : (Instr.makeMap 46 (some (.int .i64 (n : Int)))).run Try.prog w = .ok (.map (some w.heap.size)) (w.alloc (.map #[] 0)) := rfl

/-- Block b is a map: its keys are ks, what it holds at k is f k; at most N times was it written. -/
structure MapI (w : World) (b N : Nat) (ks : List Txt) (f : Txt → Int) : Prop where
  own : ∃ D : DataW Unit, w.ownsMap Try.prog 9 (plainElem Try.prog 3) b N D ∧ (∀ k, Maps.has D (.string k) = decide (k ∈ ks)) ∧ (∀ k, D.atKey (.string k) (.lit (.int .i64 0)) = .lit (.int .i64 (if k ∈ ks then f k else 0))) ∧ Maps.size D = ks.length
  nd : ks.Nodup

theorem MapI.made (w : World) (f : Txt → Int) : MapI (w.alloc (.map #[] 0)) w.heap.size 0 [] f :=
  ⟨⟨_, World.ownsMap_made _ _ _ _, by simp [Maps.has], fun k => by simp [DataW.atKey], rfl⟩, List.nodup_nil⟩

theorem MapI.lt {w : World} {b N : Nat} {ks : List Txt} {f : Txt → Int} (h : MapI w b N ks f) : b < w.heap.size := by
  obtain ⟨D, h1, _⟩ := h.own
  exact h1.lt

theorem MapI.kept {w w' : World} {b N : Nat} {ks : List Txt} {f : Txt → Int} (h : MapI w b N ks f) (hk : w'.heap[b]? = w.heap[b]?) : MapI w' b N ks f := by
  obtain ⟨D, ⟨es, clock, hb, r⟩, h2⟩ := h.own
  exact ⟨⟨D, ⟨es, clock, hk.trans hb, r⟩, h2⟩, h.nd⟩

theorem MapI.old {w w' : World} {b N : Nat} {ks : List Txt} {f : Txt → Int} (h : MapI w b N ks f) (hb : Old w w') : MapI w' b N ks f := h.kept (hb.block b h.lt)

theorem MapI.notCells {w : World} {b N : Nat} {ks : List Txt} {f : Txt → Int} (h : MapI w b N ks f) {c : Array Value} {t : TypeId} {fr : Nat × Nat} : w.heap[b]? ≠ some (.cells c t fr) := by
  obtain ⟨D, ⟨es, clock, hb, r⟩, h2⟩ := h.own
  rw [hb]; simp

theorem MapI.congr {w : World} {b N : Nat} {ks : List Txt} {f g : Txt → Int} (h : MapI w b N ks f) (he : ∀ k ∈ ks, g k = f k) : MapI w b N ks g := by
  obtain ⟨D, h1, h2, h3, h4⟩ := h.own
  refine ⟨⟨D, h1, h2, fun k => ?_, h4⟩, h.nd⟩
  rw [h3]
  by_cases hk : k ∈ ks
  · rw [if_pos hk, if_pos hk, he k hk]
  · rw [if_neg hk, if_neg hk]

/-- What is there at a key; nought where it is none. -/
def atK (ks : List Txt) (f : Txt → Int) (k : Txt) : Int := if k ∈ ks then f k else 0

theorem MapI.run_look {w : World} {b N : Nat} {ks : List Txt} {f : Txt → Int} (h : MapI w b N ks f) (s : ByteArray) (hs : s.size ≤ maxLen) :
    (Instr.lookup 46 (.map (some b)) (.string s) false).run Try.prog w = .ok (.int .i64 (atK ks f s.data.toList)) w := by
  obtain ⟨D, h1, h2, h3, h4⟩ := h.own
  obtain ⟨c, r1, r2, _⟩ := h1.lookup_int (t := 46) law9 Try.underlying46 Try.underlying3 (zero3 w) (keyOf_string_mk Try.underlying9 hs)
  rw [h3] at r2
  simp at r2
  rw [r1, ← r2]; rfl

theorem MapI.run_look_ok {w : World} {b N : Nat} {ks : List Txt} {f : Txt → Int} (h : MapI w b N ks f) (s : ByteArray) (hs : s.size ≤ maxLen) :
    (Instr.lookup 46 (.map (some b)) (.string s) true).run Try.prog w = .ok (.tuple #[.int .i64 (atK ks f s.data.toList), .bool (decide (s.data.toList ∈ ks))]) w := by
  obtain ⟨D, h1, h2, h3, h4⟩ := h.own
  obtain ⟨v, ps, r1, r2⟩ := h1.look_ok (t := 46) law9 Try.underlying46 (zero3 w) (plainElem_int Try.underlying3 (by decide)) (keyOf_string_mk Try.underlying9 hs)
  obtain ⟨c, rfl, hc, _⟩ := plainElem_int_inv Try.underlying3 r2
  simp only [Prod.mk.injEq] at hc
  rw [h3] at hc
  simp at hc
  rw [r1, h2, ← hc.1]; rfl

theorem MapI.run_len {w : World} {b N : Nat} {ks : List Txt} {f : Txt → Int} (h : MapI w b N ks f) (ty : TypeId) : (Builtin.len_ #[46] ty #[.map (some b)]).run Try.prog w = .ok (.int .i64 (ks.length : Int)) w := by
  obtain ⟨D, h1, h2, h3, h4⟩ := h.own
  rw [h1.len Try.underlying46 ty, h4]

theorem MapI.run_put {w : World} {b N : Nat} {ks : List Txt} {f : Txt → Int} (h : MapI w b N ks f) (s : ByteArray) (hs : s.size ≤ maxLen) (hN : N < maxLen) (c : Int) (hc : (Lit.int .i64 c).wf = true) :
    ∃ w', (Instr.mapUpdate 46 (.map (some b)) (.string s) (.int .i64 c)).run Try.prog w = .ok () w' ∧ MapI w' b (N + 1) (if s.data.toList ∈ ks then ks else ks ++ [s.data.toList]) (fun k => if k = s.data.toList then c else f k) ∧ w.grownBy w' (some b) := by
  obtain ⟨D, h1, h2, h3, h4⟩ := h.own
  obtain ⟨w', r1, r2, r3⟩ := h1.update law9 Try.underlying46 hN (keyOf_string_mk Try.underlying9 hs) (plainElem_int Try.underlying3 hc)
  have hT := h1.tidy law9
  refine ⟨w', r1, ⟨⟨_, r2, fun k => ?_, fun k => ?_, ?_⟩, ?_⟩, r3⟩
  · by_cases hk : k = s.data.toList
    · subst hk
      rw [Maps.has_put_same hT.isMap (by trivial)]
      split <;> simp_all
    · rw [Maps.has_put_other (by simpa using hk), h2]
      split
      · rfl
      · simp [hk]
  · by_cases hk : k = s.data.toList
    · subst hk
      rw [Maps.atKey_put_same hT.isMap (by trivial)]
      split <;> simp_all
    · rw [Maps.atKey_put_other (by simpa using hk), h3]
      have e : (k ∈ (if s.data.toList ∈ ks then ks else ks ++ [s.data.toList])) ↔ k ∈ ks := by
        split
        · exact Iff.rfl
        · simp [hk]
      by_cases hm : k ∈ ks
      · rw [if_pos hm, if_pos (e.2 hm), if_neg hk]
      · rw [if_neg hm, if_neg (fun h => hm (e.1 h))]
  · rw [Maps.size_put hT, h2]
    by_cases hk : s.data.toList ∈ ks
    · simp [hk, h4]
    · simp [hk, h4]
  · split
    · exact h.nd
    · rename_i hk
      rw [List.nodup_append]
      exact ⟨h.nd, by simp, fun a ha b hb => by simp at hb; subst hb; exact fun e => hk (e ▸ ha)⟩

/-- At the operation: 'm[k] = c'. -/
theorem wpList_put46 {ops : Array Oper} {rest : List Oper} {o : Oper} {a : Act} {w : World} {Q : Exit → Act → World → Prop} (hg : o.guard = none) (m x v : Operand) (hop : o.op = Op.mapUpdate 46 m x v)
    (b N : Nat) (ks : List Txt) (f : Txt → Int) (hm : a.eval m = .map (some b)) (h : MapI w b N ks f) (s : ByteArray) (hx : a.eval x = .string s) (hs : s.size ≤ maxLen) (hN : N < maxLen) (c : Int) (hv : a.eval v = .int .i64 c) (hc : (Lit.int .i64 c).wf = true)
    (hK : ∀ w', MapI w' b (N + 1) (if s.data.toList ∈ ks then ks else ks ++ [s.data.toList]) (fun k => if k = s.data.toList then c else f k) → w.grownBy w' (some b) → wpList Try.prog ops Q rest (a.put o.dst undef) w') :
    wpList Try.prog ops Q (o :: rest) a w := by
  refine wpList_plain hg fun K' hK' => ?_
  obtain ⟨w', hrun, r1, r2⟩ := h.run_put s hs hN c hc
  have := hK w' r1 r2
  unfold Oper.wp
  simp [execOp, hop, hm, hx, hv, hrun, Sem.run_bind, Result.andThen]
  exact hK' _ _ this
end Go.Proofs.Ytcogeebfldlpoaa
