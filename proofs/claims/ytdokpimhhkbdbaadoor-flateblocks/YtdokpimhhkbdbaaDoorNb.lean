/-
  The table that huff.New makes: what its memory holds; Code, Put.
-/
import Derived.Test.YtdokpimhhkbdbaaDoorNa
import Derived.Test.YtdokpimhhkbdbaaDoorBb
set_option linter.unusedSimpArgs false
set_option linter.unusedVariables false
namespace Go.Proofs.YtdokpimhhkbdbaaDoor
open Go.RowKit

abbrev OK (zs : List Int) : Prop := zs.length ≤ 320 ∧ May zs ∧ Fits (zs.map Int.toNat)

/-- New, whatever it is handed. -/
theorem new_any (w : World) (v : Value) (zs : List Int) (hv : Ints w v zs) (hl : zs.length ≤ 140737488355328) :
    Calls Tryd.prog 60 #[v] w fun e w' => Below w.heap.size w w' ∧ ((OK zs ∧ ∃ tb, e = .returned (.tuple #[.pointer (some ⟨tb, 0, none⟩), .int .i64 0]) ∧ w.heap.size ≤ tb ∧ Tab w' tb (zs.map Int.toNat)) ∨ (¬ OK zs ∧ e = .returned (.tuple #[.pointer none, .int .i64 2]))) := by
  by_cases h1 : zs.length ≤ 320
  · by_cases h2 : May zs ∧ Fits (zs.map Int.toNat)
    · refine (new_ok w v zs hv h1 h2.1 h2.2).mono ?_
      rintro e w' ⟨tb, rfl, ht, hb, hT⟩
      exact ⟨hb, .inl ⟨⟨h1, h2⟩, tb, rfl, ht, hT⟩⟩
    · refine (new_not w v zs hv h1 h2).mono ?_
      rintro e w' ⟨rfl, hb⟩
      exact ⟨hb, .inr ⟨fun h => h2 h.2, rfl⟩⟩
  · refine (new_long w v zs hv (by omega) hl).mono ?_
    rintro e w' ⟨rfl, hb⟩
    exact ⟨hb, .inr ⟨fun h => h1 h.1, rfl⟩⟩

theorem owns_old3 {w w' : World} {B : Nat} {v : Value} {n : Nat} {xs : List Value} (h : w.ownsRow B 3 1 v n xs) (hb : Below w.heap.size w w') : w'.ownsRow B 3 1 v n xs := by
  refine ⟨h.1, ?_⟩
  rcases h.2 with h2 | ⟨g, cap, cur, rfl, hB, hg, r⟩
  · exact .inl h2
  · exact .inr ⟨g, cap, cur, rfl, hB, by rw [hb.block g (lt_of_block hg)]; exact hg, r⟩

theorem Tab.old {w w' : World} {tb : Nat} {l : List Nat} (h : Tab w tb l) (hb : Below w.heap.size w w') : Tab w' tb l := by
  obtain ⟨⟨cb, v, c, h1, h2, h3, h4⟩, r1, r2, r3⟩ := h
  exact ⟨⟨cb, v, c, by rw [hb.block _ (lt_of_block h1)]; exact h1, by rw [hb.block _ (lt_of_block h2)]; exact h2, h3, owns_old3 h4 hb⟩, r1, r2, r3⟩

/-- The sign s has a code. -/
def HasCode (l : List Nat) (s : Int) : Prop := 0 ≤ s ∧ s < l.length ∧ 0 < nth l s.toNat

theorem nth_le15 {l : List Nat} (h : ∀ x ∈ l, x ≤ 15) (i : Nat) : nth l i ≤ 15 := by
  by_cases hi : i < l.length
  · rw [nth_eq hi]; exact h _ (List.getElem_mem hi)
  · simp [nth, List.getElem?_eq_none (Nat.le_of_not_lt hi)]

theorem Ent.at {c : Array Value} {l : List Nat} (h : Ent c l 16 0) (h15 : ∀ x ∈ l, x ≤ 15) (i : Nat) (hi : i < l.length) :
    c[2 * i]? = some (natV (if 0 < nth l i then code l i else 0)) ∧ c[2 * i + 1]? = some (natV (nth l i)) := by
  have hl := nth_le15 h15 i
  have e : Dealt l 16 0 i ↔ 0 < nth l i := by unfold Dealt; omega
  refine ⟨?_, ?_⟩
  · rw [h.dig i hi]; simp only [e]
  · rw [h.len i hi]
    by_cases h0 : 0 < nth l i
    · simp only [e, h0, ↓reduceIte]
    · have : nth l i = 0 := by omega
      simp [e, this]

theorem tcode_has (w : World) (tb : Nat) (l : List Nat) (s : Nat) (h : Tab w tb l) (hs : s < l.length) (h0 : 0 < nth l s) :
    Calls Tryd.prog 58 #[.pointer (some ⟨tb, 0, none⟩), .int .i64 (s : Int)] w fun e w' => e = .returned (.tuple #[.int .i64 (code l s : Nat), .int .i64 (nth l s : Nat), .bool true]) ∧ ∃ k, w' = w.drewN k := by
  obtain ⟨⟨cb, v, c, h1, h2, h3, h4⟩, r1, r2, r3⟩ := h
  have c0 : w.cell? ⟨tb, 0, none⟩ = some (.slice (some ⟨cb, 0, none⟩) l.length l.length) := by rw [cell_of_row _ _ 0 _ _ _ h1, at0]
  obtain ⟨e0, e1⟩ := h3.at r2 s hs
  rw [if_pos h0] at e0
  have d0 : w.cell? ⟨cb, s * 2, none⟩ = some (.int .i64 (code l s : Nat)) := by rw [cell_of_row _ _ _ _ _ _ h2, Nat.mul_comm, e0]; rfl
  have d1 : w.cell? ⟨cb, s * 2 + 1, none⟩ = some (.int .i64 (nth l s : Nat)) := by rw [cell_of_row _ _ _ _ _ _ h2, Nat.mul_comm, e1]; rfl
  obtain ⟨x, hx⟩ : ∃ x, x = code l s := ⟨_, rfl⟩
  obtain ⟨y, hy⟩ : ∃ y, y = nth l s := ⟨_, rfl⟩
  obtain ⟨N, hN⟩ : ∃ N, N = l.length := ⟨_, rfl⟩
  rw [← hx] at d0 ⊢
  rw [← hy] at d1 h0 ⊢
  rw [← hN] at c0 hs r1
  have hy0 : ((y : Int) == 0) = false := by simp; omega
  clear hx hy hN h1 h2 h3 h4 e0 e1
  go_enter Tryd.func58, Tryd.ntmps58
  go_wp2
  go_quiet (fail)
  go_wp2
  go_ret3
  exact ⟨rfl, _, rfl⟩

theorem tcode_not (w : World) (tb : Nat) (l : List Nat) (s : Int) (h : Tab w tb l) (hn : ¬ HasCode l s) :
    Calls Tryd.prog 58 #[.pointer (some ⟨tb, 0, none⟩), .int .i64 s] w fun e w' => e = .returned (.tuple #[.int .i64 0, .int .i64 0, .bool false]) ∧ ∃ k, w' = w.drewN k := by
  obtain ⟨⟨cb, v, c, h1, h2, h3, h4⟩, r1, r2, r3⟩ := h
  have c0 : w.cell? ⟨tb, 0, none⟩ = some (.slice (some ⟨cb, 0, none⟩) l.length l.length) := by rw [cell_of_row _ _ 0 _ _ _ h1, at0]
  by_cases hs0 : s < 0
  · go_enter Tryd.func58, Tryd.ntmps58
    go_wp2
    go_ret3
    exact ⟨rfl, 0, rfl⟩
  · by_cases hs1 : (l.length : Int) ≤ s
    · go_enter Tryd.func58, Tryd.ntmps58
      go_wp2
      go_ret3
      exact ⟨rfl, 0, rfl⟩
    · obtain ⟨s, rfl⟩ := Int.eq_ofNat_of_zero_le (show 0 ≤ s by omega)
      have hs : s < l.length := by omega
      have hz : nth l s = 0 := by
        rcases Nat.eq_zero_or_pos (nth l s) with h | h
        · exact h
        · exact absurd ⟨by omega, by omega, h⟩ hn
      obtain ⟨e0, e1⟩ := h3.at r2 s hs
      have d1 : w.cell? ⟨cb, s * 2 + 1, none⟩ = some (.int .i64 0) := by rw [cell_of_row _ _ _ _ _ _ h2, Nat.mul_comm, e1, hz]; rfl
      obtain ⟨N, hN⟩ : ∃ N, N = l.length := ⟨_, rfl⟩
      rw [← hN] at c0 hs hs1 r1
      clear h1 h2 h3 h4 e0 e1 hz hN hn
      go_enter Tryd.func58, Tryd.ntmps58
      go_wp2
      go_ret3
      exact ⟨rfl, 0, rfl⟩

theorem tput_has (B p tb : Nat) (w : World) (l : List Nat) (s : Nat) (N t : Nat) (h : Tab w tb l) (hw : Wr B p w N t) (hs : s < l.length) (h0 : 0 < nth l s) (ht : t < 900000) :
    Calls Tryd.prog 42 #[.pointer (some ⟨tb, 0, none⟩), .pointer (some ⟨p, 0, none⟩), .int .i64 (s : Int)] w fun e w' => e = .returned (.bool true) ∧ Wr B p w' (N + rev (code l s : Nat) (nth l s) (nth l s) * 2 ^ t) (t + nth l s) ∧ Below B w w' := by
  have hc : Hid (Calls Tryd.prog 58 #[.pointer (some ⟨tb, 0, none⟩), .int .i64 (s : Int)] w fun e w' => e = .returned (.tuple #[.int .i64 (code l s : Nat), .int .i64 (nth l s : Nat), .bool true]) ∧ ∃ k, w' = w.drewN k) := tcode_has w tb l s h hs h0
  have hbl : ∀ k, Below w.heap.size w (w.drewN k) := fun k => ⟨rfl, rfl, rfl, Nat.le_refl _, fun _ _ => rfl⟩
  have hB : B ≤ w.heap.size := by
    obtain ⟨v, bs, hp, _, _, _, _, _, hB⟩ := hw
    have := lt_of_block hp
    omega
  have hwc : Hid (∀ k, Calls Tryd.prog 59 #[.pointer (some ⟨p, 0, none⟩), .int .i64 (code l s : Nat), .int .i64 (nth l s : Nat)] (w.drewN k) fun e w' => e = .returned (.tuple #[]) ∧ Wr B p w' (N + rev (code l s : Nat) (nth l s) (nth l s) * 2 ^ t) (t + nth l s) ∧ Below B w w') := fun k =>
    (code_walk B p (w.drewN k) N t (code l s : Nat) (nth l s) (hw.old (hbl k)) (by have := nth_le15 h.le s; omega) ht).mono fun e w' ⟨e1, e2, e3⟩ => ⟨e1, e2, ((hbl k).mono hB).trans e3⟩
  clear hbl
  go_enter Tryd.func42, Tryd.ntmps42
  go_wp2_with (first
    | (go_at_call 58; (with_reducible refine hc.out.mono ?_); rintro e w1 ⟨rfl, k, hx⟩; have hx := hx.symm; subst hx)
    | (go_at_call 59; (with_reducible refine (hwc.out _).mono ?_); rintro e w2 ⟨rfl, h2, hb2⟩))
  go_ret
  exact ⟨rfl, h2, hb2⟩

theorem tput_not (a : Value) (tb : Nat) (w : World) (l : List Nat) (s : Int) (h : Tab w tb l) (hn : ¬ HasCode l s) :
    Calls Tryd.prog 42 #[.pointer (some ⟨tb, 0, none⟩), a, .int .i64 s] w fun e w' => e = .returned (.bool false) ∧ ∃ k, w' = w.drewN k := by
  have hc : Hid (Calls Tryd.prog 58 #[.pointer (some ⟨tb, 0, none⟩), .int .i64 s] w fun e w' => e = .returned (.tuple #[.int .i64 0, .int .i64 0, .bool false]) ∧ ∃ k, w' = w.drewN k) := tcode_not w tb l s h hn
  go_enter Tryd.func42, Tryd.ntmps42
  go_wp2_with (first
    | (go_at_call 58; (with_reducible refine hc.out.mono ?_); rintro e w1 ⟨rfl, k, hx⟩; have hx := hx.symm; subst hx))
  go_ret
  exact ⟨rfl, k, rfl⟩

end Go.Proofs.YtdokpimhhkbdbaaDoor
