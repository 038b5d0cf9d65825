/-
  The reader: 'Rd', what its memory holds; next, Left, Bad, Align.
-/
import Derived.Test.YtdokpimhhkbdbaaDoorRc
import Derived.Test.YtdokpimhhkbdbaaDoorMk
import Derived.Deep.AppendLies
set_option linter.unusedSimpArgs false
set_option linter.unusedVariables false
namespace Go.Proofs.YtdokpimhhkbdbaaDoor.Q
open Go.RowKit

variable {rv : Value}

theorem cell3_0 {w : World} {b : Nat} {v u x : Value} {t : TypeId} (h : w.heap[b]? = some (.cells #[v, u, x] t (0, 0))) : w.cell? ⟨b, 0, none⟩ = some v := by simp [World.cell?, h]
theorem cell3_1 {w : World} {b : Nat} {v u x : Value} {t : TypeId} (h : w.heap[b]? = some (.cells #[v, u, x] t (0, 0))) : w.cell? ⟨b, 1, none⟩ = some u := by simp [World.cell?, h]
theorem cell3_2 {w : World} {b : Nat} {v u x : Value} {t : TypeId} (h : w.heap[b]? = some (.cells #[v, u, x] t (0, 0))) : w.cell? ⟨b, 2, none⟩ = some x := by simp [World.cell?, h]

/-- A reader at block rb (of type T), over the bytes bs, at that digit. -/
structure Rd (rv : Value) (T : TypeId) (w : World) (rb : Nat) (bs : List Nat) (pos : Nat) (bad : Bool) : Prop where
  mem : w.heap[rb]? = some (.cells #[rv, .int .i64 (pos : Int), .bool bad] T (0, 0)) ∧ w.ownsRow 0 5 1 rv bs.length (bs.map byteV)
  small : Small bs
  le : pos ≤ 8 * bs.length
  len : bs.length ≤ 140737488355328

theorem owns_grown {w w' : World} {B x : Nat} {v : Value} {n : Nat} {xs : List Value} (h : w.ownsRow B 5 1 v n xs) (hg : w.grownBy w' (some x)) (hx : v.ownBlock ≠ some x) : w'.ownsRow B 5 1 v n xs := by
  refine h.kept hg (Or.inr hx)

theorem Rd.old {T : TypeId} {w w' : World} {rb : Nat} {bs : List Nat} {pos : Nat} {bad : Bool} (h : Rd rv T w rb bs pos bad) (hb : Below w.heap.size w w') : Rd rv T w' rb bs pos bad := by
  obtain ⟨⟨hp, ho⟩, h2, h3, h4⟩ := h
  exact ⟨⟨by rw [hb.block rb (lt_of_block hp)]; exact hp, owns_old ho hb⟩, h2, h3, h4⟩

theorem Rd.type {T : TypeId} {w : World} {rb : Nat} {bs : List Nat} {pos : Nat} {bad : Bool} (h : Rd rv T w rb bs pos bad) : ∃ c, w.heap[rb]? = some (.cells c T (0, 0)) := by
  obtain ⟨⟨hp, ho⟩, _⟩ := h
  exact ⟨_, hp⟩

/-- A reader, while another one is turned. -/
theorem Rd.other {T T' : TypeId} {w w' : World} {rb x : Nat} {bs : List Nat} {pos : Nat} {bad : Bool} {c : Array Value} (h : Rd rv T w rb bs pos bad) (hg : w.grownBy w' (some x)) (hx : w.heap[x]? = some (.cells c T' (0, 0))) (h5 : T' ≠ 5) (hT : T' ≠ T) : Rd rv T w' rb bs pos bad := by
  obtain ⟨⟨hp, ho⟩, h2, h3, h4⟩ := h
  have hne : rb ≠ x := fun h => by
    subst h
    rw [hx] at hp
    simp at hp
    exact hT hp.2
  exact ⟨⟨by rw [hg.block rb (lt_of_block hp) (by simpa using hne)]; exact hp, owns_grown ho hg (owns_ne ho hx h5)⟩, h2, h3, h4⟩

theorem grown_drewN (w : World) (n : Nat) (row : Option Nat) : w.grownBy (w.drewN n) row := ⟨rfl, rfl, rfl, Nat.le_refl _, fun _ _ _ => rfl⟩
theorem grown_trans {a b c : World} {row : Option Nat} (h : a.grownBy b row) (k : b.grownBy c row) : a.grownBy c row :=
  ⟨k.os.trans h.os, k.tape.trans h.tape, k.output.trans h.output, Nat.le_trans h.size k.size, fun j hj hr => (k.block j (Nat.lt_of_lt_of_le hj h.size) hr).trans (h.block j hj hr)⟩
theorem grown_set (w : World) (b o : Nat) (u : Value) : w.grownBy (w.setCell ⟨b, o, none⟩ u) (some b) :=
  ⟨rfl, rfl, rfl, by simp, fun k _ hk => Below.heap_setCell _ _ _ _ (fun e => hk (by simp [e]))⟩

theorem Rd.drewN {T : TypeId} {w : World} {rb : Nat} {bs : List Nat} {pos : Nat} {bad : Bool} (h : Rd rv T w rb bs pos bad) (k : Nat) : Rd rv T (w.drewN k) rb bs pos bad :=
  h.old ⟨rfl, rfl, rfl, Nat.le_refl _, fun _ _ => rfl⟩

/-- The reader behind a store into one of its own cells. -/
theorem Rd.set1 {T : TypeId} {w : World} {rb : Nat} {bs : List Nat} {pos : Nat} {bad : Bool} (h : Rd rv T w rb bs pos bad) (hT : T ≠ 5) (pos' : Nat) (hp' : pos' ≤ 8 * bs.length) : Rd rv T (w.setCell ⟨rb, 1, none⟩ (.int .i64 (pos' : Int))) rb bs pos' bad := by
  obtain ⟨⟨hp, ho⟩, h2, h3, h4⟩ := h
  exact ⟨⟨row_setCell hp 1 _, ownsRow_setCell_other ho (a := ⟨rb, 1, none⟩) (owns_ne ho hp hT) _⟩, h2, hp', h4⟩

theorem Rd.set2 {T : TypeId} {w : World} {rb : Nat} {bs : List Nat} {pos : Nat} {bad : Bool} (h : Rd rv T w rb bs pos bad) (hT : T ≠ 5) (bad' : Bool) : Rd rv T (w.setCell ⟨rb, 2, none⟩ (.bool bad')) rb bs pos bad' := by
  obtain ⟨⟨hp, ho⟩, h2, h3, h4⟩ := h
  exact ⟨⟨row_setCell hp 2 _, ownsRow_setCell_other ho (a := ⟨rb, 2, none⟩) (owns_ne ho hp hT) _⟩, h2, h3, h4⟩

theorem left_walk (w : World) (rb : Nat) (bs : List Nat) (pos : Nat) (bad : Bool) (h : Rd rv 79 w rb bs pos bad) :
    Calls Tryd.prog 68 #[.pointer (some ⟨rb, 0, none⟩)] w fun e w' => e = .returned (.int .i64 (8 * (bs.length : Int) - pos)) ∧ ∃ k, w' = w.drewN k := by
  obtain ⟨⟨hp, ho⟩, h2, h3, h4⟩ := h
  have c0 := cell3_0 hp
  have c1 := cell3_1 hp
  obtain ⟨ao, cp, rfl, -, -, -⟩ := lies_own ho
  go_enter Tryd.func68, Tryd.ntmps68
  go_wp2
  go_quiet (fail)
  go_wp2
  go_ret
  exact ⟨ret_int (by omega), _, rfl⟩

theorem bad_walk (w : World) (rb : Nat) (bs : List Nat) (pos : Nat) (bad : Bool) (h : Rd rv 79 w rb bs pos bad) :
    Calls Tryd.prog 64 #[.pointer (some ⟨rb, 0, none⟩)] w fun e w' => e = .returned (.bool bad) ∧ w' = w := by
  obtain ⟨⟨hp, ho⟩, h2, h3, h4⟩ := h
  have c2 := cell3_2 hp
  go_enter Tryd.func64, Tryd.ntmps64
  go_wp2
  go_ret
  exact ⟨rfl, rfl⟩

theorem skip_walk (w : World) (rb : Nat) (bs : List Nat) (pos : Nat) (bad : Bool) (h : Rd rv 79 w rb bs pos bad) :
    Calls Tryd.prog 77 #[.pointer (some ⟨rb, 0, none⟩)] w fun e w' => e = .returned (.tuple #[]) ∧ Rd rv 79 w' rb bs ((pos + 7) / 8 * 8) bad ∧ w.grownBy w' (some rb) := by
  have h0 := h
  obtain ⟨⟨hp, ho⟩, h2, h3, h4⟩ := h
  have c1 := cell3_1 hp
  have z1 := free_at hp 1
  go_enter Tryd.func77, Tryd.ntmps77
  go_wp2
  go_end0
  have e : ((pos : Int) + 8 - 1) / 8 * 8 = (((pos + 7) / 8 * 8 : Nat) : Int) := by omega
  rw [e]
  exact ⟨rfl, h0.set1 (by decide) _ (by omega), grown_set _ _ _ _⟩

/-- One digit of a byte, as the text reckons it. -/
theorem digit_at (x k : Nat) (hx : x < 256) : wrap64 (bits .and .u8 ((x : Int) / 2 ^ k) 1) = ((x / 2 ^ k % 2 : Nat) : Int) := by
  have e : ((x : Int) / 2 ^ k) = ((x / 2 ^ k : Nat) : Int) := by push_cast; rfl
  rw [e, u8_and1 _ (Nat.lt_of_le_of_lt (Nat.div_le_self _ _) hx)]
  unfold wrap64
  omega

theorem byte_lt {bs : List Nat} (h : Small bs) (k : Nat) : bs.getD k 0 < 256 := by
  by_cases hk : k < bs.length
  · have hm := h (bs[k]) (List.getElem_mem hk)
    simpa [hk] using hm
  · simp [List.getElem?_eq_none (Nat.le_of_not_lt hk)]

theorem next_walk (w : World) (rb : Nat) (bs : List Nat) (pos : Nat) (bad : Bool) (h : Rd rv 79 w rb bs pos bad) (hlt : pos < 8 * bs.length) :
    Calls Tryd.prog 76 #[.pointer (some ⟨rb, 0, none⟩)] w fun e w' => e = .returned (.int .i64 ((val bs / 2 ^ pos % 2 : Nat) : Int)) ∧ Rd rv 79 w' rb bs (pos + 1) bad ∧ w.grownBy w' (some rb) := by
  have h0 := h
  obtain ⟨⟨hp, ho⟩, h2, h3, h4⟩ := h
  have c0 := cell3_0 hp
  have c1 := cell3_1 hp
  have z1 := free_at hp 1
  obtain ⟨g, cap, rfl, -, -⟩ := ho.form (by omega)
  have hc : w.cell? ⟨g, pos / 8, none⟩ = some (.int .u8 ((bs.getD (pos / 8) 0 : Nat) : Int)) := by
    rw [ho.cellAt _ (by omega)]
    have : pos / 8 < bs.length := by omega
    simp [this, byteV]
  have hb := val_bit h2 pos
  have hx : bs.getD (pos / 8) 0 < 256 := byte_lt h2 _
  obtain ⟨x, hxe⟩ : ∃ x, x = bs.getD (pos / 8) 0 := ⟨_, rfl⟩
  rw [← hxe] at hc hb hx
  have HB : Hid (val bs / 2 ^ pos % 2 = x / 2 ^ (pos % 8) % 2) := hb
  clear hb hxe
  go_enter Tryd.func76, Tryd.ntmps76
  go_wp2
  go_quiet (fail)
  go_wp2
  go_ret
  refine ⟨ret_int ?_, (h0.drewN nq).set1 (by decide) (pos + 1) (by omega), grown_trans (grown_drewN w nq _) (grown_set _ _ _ _)⟩
  rw [HB.out]
  exact digit_at x _ hx
end Go.Proofs.YtdokpimhhkbdbaaDoor.Q
