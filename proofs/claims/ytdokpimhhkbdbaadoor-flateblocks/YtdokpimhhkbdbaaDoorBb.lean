/-
  The reader: 'Rd', what its memory holds; next, Left, Bad, Align. The reader's Get, Bit, and NewReader. Copy and Cut of bytes. A reader beside the bytes that it was made of: 'St'; what each call makes of it.
-/
import Derived.Test.YtdokpimhhkbdbaaDoorBa
import Derived.Deep.AppendLies
set_option linter.unusedSimpArgs false
set_option linter.unusedVariables false
namespace Go.Proofs.YtdokpimhhkbdbaaDoor
open Go.RowKit

theorem cell3_0 {w : World} {b : Nat} {v u x : Value} {t : TypeId} (h : w.heap[b]? = some (.cells #[v, u, x] t (0, 0))) : w.cell? ⟨b, 0, none⟩ = some v := by simp [World.cell?, h]
theorem cell3_1 {w : World} {b : Nat} {v u x : Value} {t : TypeId} (h : w.heap[b]? = some (.cells #[v, u, x] t (0, 0))) : w.cell? ⟨b, 1, none⟩ = some u := by simp [World.cell?, h]
theorem cell3_2 {w : World} {b : Nat} {v u x : Value} {t : TypeId} (h : w.heap[b]? = some (.cells #[v, u, x] t (0, 0))) : w.cell? ⟨b, 2, none⟩ = some x := by simp [World.cell?, h]

/-- A reader at block rb (of type T), over the bytes bs, at that digit. -/
structure Rd (T : TypeId) (w : World) (rb : Nat) (bs : List Nat) (pos : Nat) (bad : Bool) : Prop where
  mem : ∃ v, w.heap[rb]? = some (.cells #[v, .int .i64 (pos : Int), .bool bad] T (0, 0)) ∧ w.ownsRow 0 5 1 v bs.length (bs.map byteV)
  small : Small bs
  le : pos ≤ 8 * bs.length
  len : bs.length ≤ 140737488355328

theorem owns_grown {w w' : World} {B x : Nat} {v : Value} {n : Nat} {xs : List Value} (h : w.ownsRow B 5 1 v n xs) (hg : w.grownBy w' (some x)) (hx : v.ownBlock ≠ some x) : w'.ownsRow B 5 1 v n xs := by
  refine h.kept hg (Or.inr hx)

theorem Rd.old {T : TypeId} {w w' : World} {rb : Nat} {bs : List Nat} {pos : Nat} {bad : Bool} (h : Rd T w rb bs pos bad) (hb : Below w.heap.size w w') : Rd T w' rb bs pos bad := by
  obtain ⟨⟨v, hp, ho⟩, h2, h3, h4⟩ := h
  exact ⟨⟨v, by rw [hb.block rb (lt_of_block hp)]; exact hp, owns_old ho hb⟩, h2, h3, h4⟩

theorem Rd.type {T : TypeId} {w : World} {rb : Nat} {bs : List Nat} {pos : Nat} {bad : Bool} (h : Rd T w rb bs pos bad) : ∃ c, w.heap[rb]? = some (.cells c T (0, 0)) := by
  obtain ⟨⟨v, hp, ho⟩, _⟩ := h
  exact ⟨_, hp⟩

/-- A reader, while another one is turned. -/
theorem Rd.other {T T' : TypeId} {w w' : World} {rb x : Nat} {bs : List Nat} {pos : Nat} {bad : Bool} {c : Array Value} (h : Rd T w rb bs pos bad) (hg : w.grownBy w' (some x)) (hx : w.heap[x]? = some (.cells c T' (0, 0))) (h5 : T' ≠ 5) (hT : T' ≠ T) : Rd T w' rb bs pos bad := by
  obtain ⟨⟨v, hp, ho⟩, h2, h3, h4⟩ := h
  have hne : rb ≠ x := fun h => by
    subst h
    rw [hx] at hp
    simp at hp
    exact hT hp.2
  exact ⟨⟨v, by rw [hg.block rb (lt_of_block hp) (by simpa using hne)]; exact hp, owns_grown ho hg (owns_ne ho hx h5)⟩, h2, h3, h4⟩

theorem grown_drewN (w : World) (n : Nat) (row : Option Nat) : w.grownBy (w.drewN n) row := ⟨rfl, rfl, rfl, Nat.le_refl _, fun _ _ _ => rfl⟩
theorem grown_trans {a b c : World} {row : Option Nat} (h : a.grownBy b row) (k : b.grownBy c row) : a.grownBy c row :=
  ⟨k.os.trans h.os, k.tape.trans h.tape, k.output.trans h.output, Nat.le_trans h.size k.size, fun j hj hr => (k.block j (Nat.lt_of_lt_of_le hj h.size) hr).trans (h.block j hj hr)⟩
theorem grown_set (w : World) (b o : Nat) (u : Value) : w.grownBy (w.setCell ⟨b, o, none⟩ u) (some b) :=
  ⟨rfl, rfl, rfl, by simp, fun k _ hk => Below.heap_setCell _ _ _ _ (fun e => hk (by simp [e]))⟩

theorem Rd.drewN {T : TypeId} {w : World} {rb : Nat} {bs : List Nat} {pos : Nat} {bad : Bool} (h : Rd T w rb bs pos bad) (k : Nat) : Rd T (w.drewN k) rb bs pos bad :=
  h.old ⟨rfl, rfl, rfl, Nat.le_refl _, fun _ _ => rfl⟩

/-- The reader behind a store into one of its own cells. -/
theorem Rd.set1 {T : TypeId} {w : World} {rb : Nat} {bs : List Nat} {pos : Nat} {bad : Bool} (h : Rd T w rb bs pos bad) (hT : T ≠ 5) (pos' : Nat) (hp' : pos' ≤ 8 * bs.length) : Rd T (w.setCell ⟨rb, 1, none⟩ (.int .i64 (pos' : Int))) rb bs pos' bad := by
  obtain ⟨⟨v, hp, ho⟩, h2, h3, h4⟩ := h
  exact ⟨⟨v, row_setCell hp 1 _, ownsRow_setCell_other ho (a := ⟨rb, 1, none⟩) (owns_ne ho hp hT) _⟩, h2, hp', h4⟩

theorem Rd.set2 {T : TypeId} {w : World} {rb : Nat} {bs : List Nat} {pos : Nat} {bad : Bool} (h : Rd T w rb bs pos bad) (hT : T ≠ 5) (bad' : Bool) : Rd T (w.setCell ⟨rb, 2, none⟩ (.bool bad')) rb bs pos bad' := by
  obtain ⟨⟨v, hp, ho⟩, h2, h3, h4⟩ := h
  exact ⟨⟨v, row_setCell hp 2 _, ownsRow_setCell_other ho (a := ⟨rb, 2, none⟩) (owns_ne ho hp hT) _⟩, h2, h3, h4⟩

theorem left_walk (w : World) (rb : Nat) (bs : List Nat) (pos : Nat) (bad : Bool) (h : Rd 79 w rb bs pos bad) :
    Calls Tryd.prog 68 #[.pointer (some ⟨rb, 0, none⟩)] w fun e w' => e = .returned (.int .i64 (8 * (bs.length : Int) - pos)) ∧ ∃ k, w' = w.drewN k := by
  obtain ⟨⟨v, hp, ho⟩, h2, h3, h4⟩ := h
  have c0 := cell3_0 hp
  have c1 := cell3_1 hp
  obtain ⟨ao, cp, rfl, -, -, -⟩ := lies_own ho
  go_enter Tryd.func68, Tryd.ntmps68
  go_wp2
  go_quiet (fail)
  go_wp2
  go_ret
  exact ⟨ret_int (by omega), _, rfl⟩

theorem bad_walk (w : World) (rb : Nat) (bs : List Nat) (pos : Nat) (bad : Bool) (h : Rd 79 w rb bs pos bad) :
    Calls Tryd.prog 64 #[.pointer (some ⟨rb, 0, none⟩)] w fun e w' => e = .returned (.bool bad) ∧ w' = w := by
  obtain ⟨⟨v, hp, ho⟩, h2, h3, h4⟩ := h
  have c2 := cell3_2 hp
  go_enter Tryd.func64, Tryd.ntmps64
  go_wp2
  go_ret
  exact ⟨rfl, rfl⟩

theorem skip_walk (w : World) (rb : Nat) (bs : List Nat) (pos : Nat) (bad : Bool) (h : Rd 79 w rb bs pos bad) :
    Calls Tryd.prog 77 #[.pointer (some ⟨rb, 0, none⟩)] w fun e w' => e = .returned (.tuple #[]) ∧ Rd 79 w' rb bs ((pos + 7) / 8 * 8) bad ∧ w.grownBy w' (some rb) := by
  have h0 := h
  obtain ⟨⟨v, hp, ho⟩, h2, h3, h4⟩ := h
  have c1 := cell3_1 hp
  have z1 := free_at hp 1
  go_enter Tryd.func77, Tryd.ntmps77
  go_wp2
  go_end0
  have e : ((pos : Int) + 8 - 1) / 8 * 8 = (((pos + 7) / 8 * 8 : Nat) : Int) := by omega
  rw [e]
  exact ⟨rfl, h0.set1 (by decide) _ (by omega), grown_set _ _ _ _⟩

/-- One digit of a byte, as the text reckons it. -/
theorem digit_at (x k : Nat) (hx : x < 256) : wrap64 (bits .and .u8 ((x : Int) / 2 ^ k) 1) = ((x / 2 ^ k % 2 : Nat) : Int) := by
  have e : ((x : Int) / 2 ^ k) = ((x / 2 ^ k : Nat) : Int) := by push_cast; rfl
  rw [e, u8_and1 _ (Nat.lt_of_le_of_lt (Nat.div_le_self _ _) hx)]
  unfold wrap64
  omega

theorem byte_lt {bs : List Nat} (h : Small bs) (k : Nat) : bs.getD k 0 < 256 := by
  by_cases hk : k < bs.length
  · have hm := h (bs[k]) (List.getElem_mem hk)
    simpa [hk] using hm
  · simp [List.getElem?_eq_none (Nat.le_of_not_lt hk)]

theorem next_walk (w : World) (rb : Nat) (bs : List Nat) (pos : Nat) (bad : Bool) (h : Rd 79 w rb bs pos bad) (hlt : pos < 8 * bs.length) :
    Calls Tryd.prog 76 #[.pointer (some ⟨rb, 0, none⟩)] w fun e w' => e = .returned (.int .i64 ((val bs / 2 ^ pos % 2 : Nat) : Int)) ∧ Rd 79 w' rb bs (pos + 1) bad ∧ w.grownBy w' (some rb) := by
  have h0 := h
  obtain ⟨⟨v, hp, ho⟩, h2, h3, h4⟩ := h
  have c0 := cell3_0 hp
  have c1 := cell3_1 hp
  have z1 := free_at hp 1
  obtain ⟨g, cap, rfl, -, -⟩ := ho.form (by omega)
  have hc : w.cell? ⟨g, pos / 8, none⟩ = some (.int .u8 ((bs.getD (pos / 8) 0 : Nat) : Int)) := by
    rw [ho.cellAt _ (by omega)]
    have : pos / 8 < bs.length := by omega
    simp [this, byteV]
  have hb := val_bit h2 pos
  have hx : bs.getD (pos / 8) 0 < 256 := byte_lt h2 _
  obtain ⟨x, hxe⟩ : ∃ x, x = bs.getD (pos / 8) 0 := ⟨_, rfl⟩
  rw [← hxe] at hc hb hx
  have HB : Hid (val bs / 2 ^ pos % 2 = x / 2 ^ (pos % 8) % 2) := hb
  clear hb hxe
  go_enter Tryd.func76, Tryd.ntmps76
  go_wp2
  go_quiet (fail)
  go_wp2
  go_ret
  refine ⟨ret_int ?_, (h0.drewN nq).set1 (by decide) (pos + 1) (by omega), grown_trans (grown_drewN w nq _) (grown_set _ _ _ _)⟩
  rw [HB.out]
  exact digit_at x _ hx
end Go.Proofs.YtdokpimhhkbdbaaDoor

set_option linter.unusedSimpArgs false
set_option linter.unusedVariables false
namespace Go.Proofs.YtdokpimhhkbdbaaDoor
open Go.RowKit

/-- Whether c digits can be had. -/
def Has (bs : List Nat) (pos : Nat) (bad : Bool) (c : Int) : Prop := bad = false ∧ 0 ≤ c ∧ c ≤ 16 ∧ (pos : Int) + c ≤ 8 * bs.length

theorem getting (M pos k : Nat) : M / 2 ^ pos % 2 ^ k ||| (M / 2 ^ (pos + k) % 2) * 2 ^ k = M / 2 ^ pos % 2 ^ (k + 1) := by
  have h1 : M / 2 ^ pos % 2 ^ k < 2 ^ k := Nat.mod_lt _ (Nat.pow_pos (by decide))
  rw [Nat.or_comm, nat_join k _ _ (by simp) h1, Nat.pow_add, ← Nat.div_div_eq_div_mul, Nat.pow_succ, Nat.mod_mul]
  rw [Nat.mul_comm]
  omega

theorem get_less (M pos k : Nat) (hk : k ≤ 16) : M / 2 ^ pos % 2 ^ k < 65536 :=
  Nat.lt_of_lt_of_le (Nat.mod_lt _ (Nat.pow_pos (by decide))) (Nat.pow_le_pow_right (by decide) hk : 2 ^ k ≤ 2 ^ 16)

/-- One digit joined to a number, as the text reckons it. -/
theorem joined (M pos k : Nat) (hk : k < 16) : bits .or .i64 ((M / 2 ^ pos % 2 ^ k : Nat) : Int) (wrap64 (((M / 2 ^ (pos + k) % 2 : Nat) : Int) * 2 ^ k)) = ((M / 2 ^ pos % 2 ^ (k + 1) : Nat) : Int) := by
  have h1 := get_less M pos k (by omega)
  have h2 : (M / 2 ^ (pos + k) % 2) * 2 ^ k ≤ 2 ^ k := by
    rcases (show M / 2 ^ (pos + k) % 2 = 0 ∨ M / 2 ^ (pos + k) % 2 = 1 by omega) with h | h <;> rw [h] <;> omega
  have h3 : 2 ^ k ≤ 65536 := (Nat.pow_le_pow_right (by decide) (by omega) : 2 ^ k ≤ 2 ^ 16)
  have e : wrap64 (((M / 2 ^ (pos + k) % 2 : Nat) : Int) * 2 ^ k) = (((M / 2 ^ (pos + k) % 2) * 2 ^ k : Nat) : Int) := by
    have e1 : (((M / 2 ^ (pos + k) % 2 : Nat) : Int) * 2 ^ k) = (((M / 2 ^ (pos + k) % 2) * 2 ^ k : Nat) : Int) := by push_cast; rfl
    rw [e1]
    generalize (M / 2 ^ (pos + k) % 2) * 2 ^ k = z at *
    unfold wrap64
    omega
  rw [e, i64_or_nat _ _ (by omega) (by omega), getting]

set_option maxHeartbeats 1000000 in
theorem get_has (w : World) (rb : Nat) (bs : List Nat) (pos c : Nat) (h : Rd 79 w rb bs pos false) (hc : c ≤ 16) (hl : pos + c ≤ 8 * bs.length) :
    Calls Tryd.prog 62 #[.pointer (some ⟨rb, 0, none⟩), .int .i64 c] w fun e w' => e = .returned (.int .i64 ((val bs / 2 ^ pos % 2 ^ c : Nat) : Int)) ∧ Rd 79 w' rb bs (pos + c) false ∧ w.grownBy w' (some rb) := by
  have hmay : Hid (∀ w, Calls Tryd.prog 52 #[.int .i64 c] w fun e w' => e = .returned (.bool true) ∧ w' = w) := fun w => (may_walk c w).mono fun e w' ⟨h1, h2⟩ => ⟨by rw [h1]; simp; omega, h2⟩
  have hleft : Hid (Calls Tryd.prog 68 #[.pointer (some ⟨rb, 0, none⟩)] w fun e w' => e = .returned (.int .i64 (8 * (bs.length : Int) - pos)) ∧ ∃ k, w' = w.drewN k) := left_walk w rb bs pos false h
  have hgt : ¬ (8 * (bs.length : Int) - pos < c) := by omega
  have c2 : w.cell? ⟨rb, 2, none⟩ = some (.bool false) := by obtain ⟨⟨v, hp, _⟩, _⟩ := h; exact cell3_2 hp
  go_enter Tryd.func62, Tryd.ntmps62
  go_wp2_with (first
    | (go_at_call 52; (with_reducible refine (hmay.out _).mono ?_); rintro e w' ⟨rfl, hx⟩; have hx := hx.symm; subst hx)
    | (go_at_call 68; (with_reducible refine hleft.out.mono ?_); rintro e w' ⟨rfl, q, hx⟩; have hx := hx.symm; subst hx))
  go_loopw [5, 6] (fun n i wr => ∃ k : Nat, k ≤ c ∧ n = .int .i64 ((val bs / 2 ^ pos % 2 ^ k : Nat) : Int) ∧ i = .int .i64 k ∧ Rd 79 wr rb bs (pos + k) false ∧ w.grownBy wr (some rb)) (fun _ i _ => c - (intOf i).toNat)
  case atStart => exact ⟨0, by omega, by simp [Nat.mod_one], rfl, h.drewN _, grown_drewN _ _ _⟩
  case round =>
    obtain ⟨k, hk, rfl, rfl, hr, hb⟩ := hrel
    by_cases hkc : k < c
    · have hnext : Hid (Calls Tryd.prog 76 #[.pointer (some ⟨rb, 0, none⟩)] wr fun e w' => e = .returned (.int .i64 ((val bs / 2 ^ (pos + k) % 2 : Nat) : Int)) ∧ Rd 79 w' rb bs (pos + k + 1) false ∧ wr.grownBy w' (some rb)) := next_walk wr rb bs (pos + k) false hr (by omega)
      have hj := joined (val bs) pos k (by omega)
      obtain ⟨a, ha⟩ : ∃ a : Nat, a = val bs / 2 ^ pos % 2 ^ k := ⟨_, rfl⟩
      obtain ⟨b, hb'⟩ : ∃ b : Nat, b = val bs / 2 ^ (pos + k) % 2 := ⟨_, rfl⟩
      obtain ⟨d, hd⟩ : ∃ d : Nat, d = val bs / 2 ^ pos % 2 ^ (k + 1) := ⟨_, rfl⟩
      rw [← hb'] at hnext hj
      rw [← ha, ← hd] at hj
      rw [← ha]
      have HD : Hid (d = val bs / 2 ^ pos % 2 ^ (k + 1)) := hd
      clear ha hb' hd
      go_wp2_with (go_at_call 76; (with_reducible refine hnext.out.mono ?_); rintro e w' ⟨rfl, hr2, hb2⟩)
      go_roundw
      case rel => exact ⟨k + 1, by omega, by rw [← HD.out], by go_num, hr2, grown_trans hb hb2⟩
      case measure => simp [intOf]; omega
    · have hkk : k = c := by omega
      subst hkk
      go_wp2
      go_ret
      exact ⟨rfl, hr, hb⟩

theorem get_not (w : World) (rb : Nat) (bs : List Nat) (pos : Nat) (bad : Bool) (c : Int) (h : Rd 79 w rb bs pos bad) (hn : ¬ Has bs pos bad c) :
    Calls Tryd.prog 62 #[.pointer (some ⟨rb, 0, none⟩), .int .i64 c] w fun e w' => e = .returned (.int .i64 0) ∧ Rd 79 w' rb bs pos true ∧ w.grownBy w' (some rb) := by
  have hleft : Hid (Calls Tryd.prog 68 #[.pointer (some ⟨rb, 0, none⟩)] w fun e w' => e = .returned (.int .i64 (8 * (bs.length : Int) - pos)) ∧ ∃ k, w' = w.drewN k) := left_walk w rb bs pos bad h
  obtain ⟨c2, z2⟩ : w.cell? ⟨rb, 2, none⟩ = some (.bool bad) ∧ w.frozen? ⟨rb, 2, none⟩ = false := by obtain ⟨⟨v, hp, _⟩, _⟩ := h; exact ⟨cell3_2 hp, free_at hp 2⟩
  by_cases hm : 0 ≤ c ∧ c ≤ 16
  · have hmay : Hid (∀ w, Calls Tryd.prog 52 #[.int .i64 c] w fun e w' => e = .returned (.bool true) ∧ w' = w) := fun w => (may_walk c w).mono fun e w' ⟨h1, h2⟩ => ⟨by rw [h1]; simp only [hm, and_self, decide_true], h2⟩
    by_cases hgt : 8 * (bs.length : Int) - pos < c
    · go_enter Tryd.func62, Tryd.ntmps62
      go_wp2_with (first
        | (go_at_call 52; (with_reducible refine (hmay.out _).mono ?_); rintro e w' ⟨rfl, hx⟩; have hx := hx.symm; subst hx)
        | (go_at_call 68; (with_reducible refine hleft.out.mono ?_); rintro e w' ⟨rfl, q, hx⟩; have hx := hx.symm; subst hx))
      go_ret
      exact ⟨rfl, (h.drewN q).set2 (by decide) true, grown_trans (grown_drewN w q _) (grown_set _ _ _ _)⟩
    · obtain rfl : bad = true := by
        cases bad with
        | true => rfl
        | false => exact absurd ⟨rfl, hm.1, hm.2, by omega⟩ hn
      go_enter Tryd.func62, Tryd.ntmps62
      go_wp2_with (first
        | (go_at_call 52; (with_reducible refine (hmay.out _).mono ?_); rintro e w' ⟨rfl, hx⟩; have hx := hx.symm; subst hx)
        | (go_at_call 68; (with_reducible refine hleft.out.mono ?_); rintro e w' ⟨rfl, q, hx⟩; have hx := hx.symm; subst hx))
      go_ret
      exact ⟨rfl, h.drewN q, grown_drewN w q _⟩
  · have hmay := may_not c hm
    go_enter Tryd.func62, Tryd.ntmps62
    go_wp2_with (first
      | (go_at_call 52; (with_reducible refine (hmay.out _).mono ?_); rintro e w' ⟨rfl, hx⟩; have hx := hx.symm; subst hx))
    go_ret
    exact ⟨rfl, h.set2 (by decide) true, grown_set _ _ _ _⟩

theorem bit_has (w : World) (rb : Nat) (bs : List Nat) (pos : Nat) (h : Rd 79 w rb bs pos false) (hl : pos + 1 ≤ 8 * bs.length) :
    Calls Tryd.prog 87 #[.pointer (some ⟨rb, 0, none⟩)] w fun e w' => e = .returned (.int .i64 ((val bs / 2 ^ pos % 2 : Nat) : Int)) ∧ Rd 79 w' rb bs (pos + 1) false ∧ w.grownBy w' (some rb) := by
  have hg : Hid (Calls Tryd.prog 62 #[.pointer (some ⟨rb, 0, none⟩), .int .i64 1] w fun e w' => e = .returned (.int .i64 ((val bs / 2 ^ pos % 2 : Nat) : Int)) ∧ Rd 79 w' rb bs (pos + 1) false ∧ w.grownBy w' (some rb)) := get_has w rb bs pos 1 h (by decide) hl
  go_enter Tryd.func87, Tryd.ntmps87
  go_wp2_with (go_at_call 62; (with_reducible refine hg.out.mono ?_); rintro e w' ⟨rfl, h1, h2⟩)
  go_ret
  exact ⟨rfl, h1, h2⟩

theorem bit_not (w : World) (rb : Nat) (bs : List Nat) (pos : Nat) (bad : Bool) (h : Rd 79 w rb bs pos bad) (hn : ¬ Has bs pos bad 1) :
    Calls Tryd.prog 87 #[.pointer (some ⟨rb, 0, none⟩)] w fun e w' => e = .returned (.int .i64 0) ∧ Rd 79 w' rb bs pos true ∧ w.grownBy w' (some rb) := by
  have hg : Hid (Calls Tryd.prog 62 #[.pointer (some ⟨rb, 0, none⟩), .int .i64 1] w fun e w' => e = .returned (.int .i64 0) ∧ Rd 79 w' rb bs pos true ∧ w.grownBy w' (some rb)) := get_not w rb bs pos bad 1 h hn
  go_enter Tryd.func87, Tryd.ntmps87
  go_wp2_with (go_at_call 62; (with_reducible refine hg.out.mono ?_); rintro e w' ⟨rfl, h1, h2⟩)
  go_ret
  exact ⟨rfl, h1, h2⟩

theorem owns_base {w : World} {B B' : Nat} {v : Value} {n : Nat} {xs : List Value} (h : w.ownsRow B 5 1 v n xs) (hB : B' ≤ B) : w.ownsRow B' 5 1 v n xs := by
  refine ⟨h.1, ?_⟩
  rcases h.2 with h2 | ⟨g, cap, cur, rfl, hb, r⟩
  · exact .inl h2
  · exact .inr ⟨g, cap, cur, rfl, Nat.le_trans hB hb, r⟩

theorem reader_walk (w : World) (v : Value) (bs : List Nat) (hv : Lies w v bs) (hs : Small bs) (hl : bs.length ≤ 140737488355328) :
    Calls Tryd.prog 30 #[v] w fun e w' => ∃ rb, e = .returned (.pointer (some ⟨rb, 0, none⟩)) ∧ Rd 79 w' rb bs 0 false ∧ w.heap.size ≤ rb ∧ Below w.heap.size w w' := by
  have hc : Hid (Calls Tryd.prog 45 #[v] w fun e w' => ∃ v', e = .returned v' ∧ w'.ownsRow w.heap.size 5 1 v' bs.length (bs.map byteV) ∧ Below w.heap.size w w') := clone_walk w v bs hv hl
  go_enter Tryd.func30, Tryd.ntmps30
  go_wp2_with (go_at_call 45; (with_reducible refine hc.out.mono ?_); rintro e w1 ⟨v1, rfl, ho, hb⟩; obtain ⟨ao, cp, rfl, -, -, -⟩ := lies_own ho)
  go_ret
  exact ⟨w1.heap.size, rfl, ⟨⟨_, heap_alloc_new w1 _, (owns_base ho (Nat.zero_le _)).alloc _⟩, hs, Nat.zero_le _, hl⟩, hb.size, hb.alloc hb.size _⟩

end Go.Proofs.YtdokpimhhkbdbaaDoor

set_option linter.unusedSimpArgs false
set_option linter.unusedVariables false
namespace Go.Proofs.YtdokpimhhkbdbaaDoor
open Go.RowKit

set_option maxRecDepth 100000 in
theorem copy_walk (w : World) (v : Value) (bs : List Nat) (hv : Lies w v bs) (hl : bs.length ≤ 140737488355328) :
    Calls Tryd.prog 19 #[v] w fun e w' => ∃ v', e = .returned v' ∧ w'.ownsRow w.heap.size 5 1 v' bs.length (bs.map byteV) ∧ Below w.heap.size w w' := by
  obtain ⟨i, hi, hz0, hz1, hz2⟩ := info_parts Tryd.info5
  obtain ⟨ao, cap, rfl, h2, h3, h4⟩ := hv
  cases ao with
  | none =>
    have hc := h3 rfl
    subst hc
    have : bs = [] := List.length_eq_zero_iff.1 (by omega)
    subst this
    go_enter Tryd.func19, Tryd.ntmps19
    go_wp2_with (at_builtin; refine wpList_append_own_none rfl (.const (.slice none 0 0)) (.tmp 3) 22 rfl w.heap.size 5 i 1 Tryd.underlying25 hi (.slice none 0 0) 0 [] rfl (World.ownsRow_nil _ _ _ _) rfl ?_)
    go_ret
    exact ⟨_, rfl, World.ownsRow_nil _ _ _ _, Below.refl _ _⟩
  | some a =>
    have hc := h4 a rfl
    clear h4 h3
    go_enter Tryd.func19, Tryd.ntmps19
    go_wp2_with (at_builtin; refine wpList_append_own _ rfl (.const (.slice none 0 0)) (.tmp 3) 22 rfl w.heap.size 5 i (.int .u8 0) 1 1 Tryd.underlying25 hi hz0 hz1 hz2 rfl (by decide) (.slice none 0 0) 0 [] rfl (World.ownsRow_nil _ _ _ _) a bs.length cap (bs.map byteV) rfl (by simp) hc (bytes_one bs) (by unfold maxLen; omega) (by omega) (Nat.le_refl _) ?_)
    intro v' w' hown hgrow _
    go_wp2
    go_ret
    exact ⟨_, rfl, by simpa using hown, (Below.refl _ w).grown hgrow (Nat.le_refl _) (fun k hk => by simp [Value.ownBlock] at hk)⟩

theorem Lies.take {w : World} {ao : Option Addr} {cap : Nat} {bs : List Nat} (m : Nat) (hm : m ≤ bs.length) (h : Lies w (.slice ao bs.length cap) bs) : Lies w (.slice ao m cap) (bs.take m) := by
  obtain ⟨ao', cap', h1, h2, h3, h4⟩ := h
  cases h1
  have e : (bs.take m).length = m := by rw [List.length_take]; omega
  refine ⟨ao, cap, by rw [e], by omega, h3, fun a ha j u hu => ?_⟩
  rw [List.map_take, List.getElem?_take] at hu
  split at hu
  · exact h4 a ha j u hu
  · cases hu

theorem cut_walk (w : World) (v : Value) (bs : List Nat) (n : Nat) (hn : n < 1000000) (hv : Lies w v bs) (hl : bs.length ≤ 140737488355328) :
    Calls Tryd.prog 11 #[v, .int .i64 n] w fun e w' => ∃ v', e = .returned v' ∧ w'.ownsRow w.heap.size 5 1 v' (bs.take n).length ((bs.take n).map byteV) ∧ Below w.heap.size w w' := by
  have hv0 := hv
  obtain ⟨ao, cap, rfl, h2, h3, h4⟩ := hv
  clear h3 h4
  by_cases hle : bs.length ≤ n
  · have e : bs.take n = bs := List.take_of_length_le hle
    rw [e]
    have hc : Hid (Calls Tryd.prog 19 #[.slice ao bs.length cap] w fun e w' => ∃ v', e = .returned v' ∧ w'.ownsRow w.heap.size 5 1 v' bs.length (bs.map byteV) ∧ Below w.heap.size w w') := copy_walk w _ bs hv0 hl
    clear hv0 e
    cases ao
    all_goals
      go_enter Tryd.func11, Tryd.ntmps11
      go_wp2_with (go_at_call 19; (with_reducible refine hc.out.mono ?_); rintro e w' ⟨v', rfl, ho, hb⟩)
      go_ret
      exact ⟨_, rfl, ho, hb⟩
  · have hv1 := hv0.take n (by omega)
    have hc : Hid (Calls Tryd.prog 19 #[.slice ao n cap] w fun e w' => ∃ v', e = .returned v' ∧ w'.ownsRow w.heap.size 5 1 v' (bs.take n).length ((bs.take n).map byteV) ∧ Below w.heap.size w w') := copy_walk w _ _ hv1 (by rw [List.length_take]; omega)
    clear hv0 hv1
    cases ao
    all_goals
      go_enter Tryd.func11, Tryd.ntmps11
      go_wp2_with (go_at_call 19; (with_reducible refine hc.out.mono ?_); rintro e w' ⟨v', rfl, ho, hb⟩)
      go_ret
      exact ⟨_, rfl, ho, hb⟩

end Go.Proofs.YtdokpimhhkbdbaaDoor

set_option linter.unusedSimpArgs false
set_option linter.unusedVariables false
namespace Go.Proofs.YtdokpimhhkbdbaaDoor
open Go.RowKit

theorem within_lit (n N : Int) (k : Nat) (hk : 0 < k) (hN : N = k) (hk2 : k < 4294967296) : ∃ m : Nat, m < k ∧ Hid (∀ w, Calls Tryd.prog 9 #[.int .i64 n, .int .i64 N] w fun e w' => e = .returned (.int .i64 (m : Int)) ∧ w' = w) := by
  subst hN
  have h1 := Int.emod_nonneg n (show (k : Int) ≠ 0 by omega)
  have h2 := Int.emod_lt_of_pos n (show (0 : Int) < k by omega)
  refine ⟨(n % (k : Int)).toNat, by omega, fun w => ?_⟩
  rw [Int.toNat_of_nonneg h1]
  exact within_walk n k (by omega) (by omega) w

/-- The reader at rb, the bytes bv beside it, what was there before (below B, in w0). -/
structure St (B : Nat) (w0 w : World) (rb : Nat) (bv : Value) (ds : List Nat) (pos : Nat) (bad : Bool) : Prop where
  rd : Rd 79 w rb ds pos bad
  own : w.ownsRow 0 5 1 bv ds.length (ds.map byteV)
  ne : bv.ownBlock ≠ some rb
  lo : B ≤ rb
  below : Below B w0 w

variable {B : Nat} {w0 w : World} {rb : Nat} {bv : Value} {ds : List Nat} {pos : Nat} {bad : Bool}

theorem St.step (h : St B w0 w rb bv ds pos bad) {w' : World} {pos' : Nat} {bad' : Bool} (hr : Rd 79 w' rb ds pos' bad') (hg : w.grownBy w' (some rb)) : St B w0 w' rb bv ds pos' bad' := by
  refine ⟨hr, owns_grown h.own hg h.ne, h.ne, h.lo, h.below.grown hg ?_ fun k hk => by cases hk; exact h.lo⟩
  obtain ⟨c, hc⟩ := h.rd.type
  have := lt_of_block hc
  have := h.lo
  omega

theorem St.old (h : St B w0 w rb bv ds pos bad) {w' : World} (hb : Below w.heap.size w w') : St B w0 w' rb bv ds pos bad := by
  refine ⟨h.rd.old hb, owns_old h.own hb, h.ne, h.lo, h.below.trans (hb.mono ?_)⟩
  obtain ⟨c, hc⟩ := h.rd.type
  have := lt_of_block hc
  have := h.lo
  omega

theorem St.drewN (h : St B w0 w rb bv ds pos bad) (k : Nat) : St B w0 (w.drewN k) rb bv ds pos bad := h.old ⟨rfl, rfl, rfl, Nat.le_refl _, fun _ _ => rfl⟩
theorem St.drew (h : St B w0 w rb bv ds pos bad) : St B w0 w.drew rb bv ds pos bad := h.old ⟨rfl, rfl, rfl, Nat.le_refl _, fun _ _ => rfl⟩

theorem St.get (h : St B w0 w rb bv ds pos false) (c : Nat) (hc : c ≤ 16) (hl : pos + c ≤ 8 * ds.length) :
    Calls Tryd.prog 62 #[.pointer (some ⟨rb, 0, none⟩), .int .i64 c] w fun e w' => e = .returned (.int .i64 ((val ds / 2 ^ pos % 2 ^ c : Nat) : Int)) ∧ St B w0 w' rb bv ds (pos + c) false :=
  (get_has w rb ds pos c h.rd hc hl).mono fun e w' ⟨h1, h2, h3⟩ => ⟨h1, h.step h2 h3⟩

theorem St.getNot (h : St B w0 w rb bv ds pos bad) (c : Int) (hn : ¬ Has ds pos bad c) :
    Calls Tryd.prog 62 #[.pointer (some ⟨rb, 0, none⟩), .int .i64 c] w fun e w' => e = .returned (.int .i64 0) ∧ St B w0 w' rb bv ds pos true :=
  (get_not w rb ds pos bad c h.rd hn).mono fun e w' ⟨h1, h2, h3⟩ => ⟨h1, h.step h2 h3⟩

theorem St.bit (h : St B w0 w rb bv ds pos false) (hl : pos + 1 ≤ 8 * ds.length) :
    Calls Tryd.prog 87 #[.pointer (some ⟨rb, 0, none⟩)] w fun e w' => e = .returned (.int .i64 ((val ds / 2 ^ pos % 2 : Nat) : Int)) ∧ St B w0 w' rb bv ds (pos + 1) false :=
  (bit_has w rb ds pos h.rd hl).mono fun e w' ⟨h1, h2, h3⟩ => ⟨h1, h.step h2 h3⟩

theorem St.bitNot (h : St B w0 w rb bv ds pos bad) (hn : ¬ Has ds pos bad 1) :
    Calls Tryd.prog 87 #[.pointer (some ⟨rb, 0, none⟩)] w fun e w' => e = .returned (.int .i64 0) ∧ St B w0 w' rb bv ds pos true :=
  (bit_not w rb ds pos bad h.rd hn).mono fun e w' ⟨h1, h2, h3⟩ => ⟨h1, h.step h2 h3⟩

theorem St.left (h : St B w0 w rb bv ds pos bad) :
    Calls Tryd.prog 68 #[.pointer (some ⟨rb, 0, none⟩)] w fun e w' => e = .returned (.int .i64 (8 * (ds.length : Int) - pos)) ∧ St B w0 w' rb bv ds pos bad :=
  (left_walk w rb ds pos bad h.rd).mono fun e w' ⟨h1, k, h2⟩ => ⟨h1, by subst h2; exact h.drewN k⟩

theorem St.isBad (h : St B w0 w rb bv ds pos bad) :
    Calls Tryd.prog 64 #[.pointer (some ⟨rb, 0, none⟩)] w fun e w' => e = .returned (.bool bad) ∧ St B w0 w' rb bv ds pos bad :=
  (bad_walk w rb ds pos bad h.rd).mono fun e w' ⟨h1, h2⟩ => ⟨h1, by subst h2; exact h⟩

theorem St.align (h : St B w0 w rb bv ds pos bad) :
    Calls Tryd.prog 77 #[.pointer (some ⟨rb, 0, none⟩)] w fun e w' => e = .returned (.tuple #[]) ∧ St B w0 w' rb bv ds ((pos + 7) / 8 * 8) bad :=
  (skip_walk w rb ds pos bad h.rd).mono fun e w' ⟨h1, h2, h3⟩ => ⟨h1, h.step h2 h3⟩

theorem st_new (w0 w : World) (B : Nat) (v : Value) (bs : List Nat) (h : w.ownsRow B 5 1 v bs.length (bs.map byteV)) (hB : B ≤ w.heap.size) (hs : Small bs) (hl : bs.length ≤ 140737488355328) (hb : Below B w0 w) :
    Calls Tryd.prog 30 #[v] w fun e w' => ∃ rb, e = .returned (.pointer (some ⟨rb, 0, none⟩)) ∧ St B w0 w' rb v bs 0 false := by
  refine (reader_walk w v bs (lies_own h) hs hl).mono ?_
  rintro e w' ⟨rb, rfl, hr, hlo, hbel⟩
  exact ⟨rb, rfl, hr, owns_base (owns_old h hbel) (Nat.zero_le _), fun he => by have := (h.lt rb he).2; omega, by omega, hb.trans (hbel.mono hB)⟩

end Go.Proofs.YtdokpimhhkbdbaaDoor
