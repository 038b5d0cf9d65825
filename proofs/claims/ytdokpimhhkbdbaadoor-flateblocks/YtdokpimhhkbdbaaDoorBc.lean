/-
  The reader: 'Rd', what its memory holds; next, Left, Bad, Align. The reader's Get, Bit, and NewReader. huff.Table.Get: the sign whose code is next, or that there is none.
-/
import Derived.Test.YtdokpimhhkbdbaaDoorBb
import Derived.Test.YtdokpimhhkbdbaaDoorMk
import Derived.Deep.AppendLies
import Derived.Test.YtdokpimhhkbdbaaDoorNc
set_option linter.unusedSimpArgs false
set_option linter.unusedVariables false
namespace Go.Proofs.YtdokpimhhkbdbaaDoor.Q
open Go.RowKit

variable {rv : Value}

theorem cell3_0 {w : World} {b : Nat} {v u x : Value} {t : TypeId} (h : w.heap[b]? = some (.cells #[v, u, x] t (0, 0))) : w.cell? ⟨b, 0, none⟩ = some v := by simp [World.cell?, h]
theorem cell3_1 {w : World} {b : Nat} {v u x : Value} {t : TypeId} (h : w.heap[b]? = some (.cells #[v, u, x] t (0, 0))) : w.cell? ⟨b, 1, none⟩ = some u := by simp [World.cell?, h]
theorem cell3_2 {w : World} {b : Nat} {v u x : Value} {t : TypeId} (h : w.heap[b]? = some (.cells #[v, u, x] t (0, 0))) : w.cell? ⟨b, 2, none⟩ = some x := by simp [World.cell?, h]

/-- A reader at block rb (of type T), over the bytes bs, at that digit. -/
structure Rd (rv : Value) (T : TypeId) (w : World) (rb : Nat) (bs : List Nat) (pos : Nat) (bad : Bool) : Prop where
  mem : w.heap[rb]? = some (.cells #[rv, .int .i64 (pos : Int), .bool bad] T (0, 0)) ∧ w.ownsRow 0 5 1 rv bs.length (bs.map byteV)
  small : Small bs
  le : pos ≤ 8 * bs.length
  len : bs.length ≤ 140737488355328

theorem owns_grown {w w' : World} {B x : Nat} {v : Value} {n : Nat} {xs : List Value} (h : w.ownsRow B 5 1 v n xs) (hg : w.grownBy w' (some x)) (hx : v.ownBlock ≠ some x) : w'.ownsRow B 5 1 v n xs := by
  refine h.kept hg (Or.inr hx)

theorem Rd.old {T : TypeId} {w w' : World} {rb : Nat} {bs : List Nat} {pos : Nat} {bad : Bool} (h : Rd rv T w rb bs pos bad) (hb : Below w.heap.size w w') : Rd rv T w' rb bs pos bad := by
  obtain ⟨⟨hp, ho⟩, h2, h3, h4⟩ := h
  exact ⟨⟨by rw [hb.block rb (lt_of_block hp)]; exact hp, owns_old ho hb⟩, h2, h3, h4⟩

theorem Rd.type {T : TypeId} {w : World} {rb : Nat} {bs : List Nat} {pos : Nat} {bad : Bool} (h : Rd rv T w rb bs pos bad) : ∃ c, w.heap[rb]? = some (.cells c T (0, 0)) := by
  obtain ⟨⟨hp, ho⟩, _⟩ := h
  exact ⟨_, hp⟩

/-- A reader, while another one is turned. -/
theorem Rd.other {T T' : TypeId} {w w' : World} {rb x : Nat} {bs : List Nat} {pos : Nat} {bad : Bool} {c : Array Value} (h : Rd rv T w rb bs pos bad) (hg : w.grownBy w' (some x)) (hx : w.heap[x]? = some (.cells c T' (0, 0))) (h5 : T' ≠ 5) (hT : T' ≠ T) : Rd rv T w' rb bs pos bad := by
  obtain ⟨⟨hp, ho⟩, h2, h3, h4⟩ := h
  have hne : rb ≠ x := fun h => by
    subst h
    rw [hx] at hp
    simp at hp
    exact hT hp.2
  exact ⟨⟨by rw [hg.block rb (lt_of_block hp) (by simpa using hne)]; exact hp, owns_grown ho hg (owns_ne ho hx h5)⟩, h2, h3, h4⟩

theorem grown_drewN (w : World) (n : Nat) (row : Option Nat) : w.grownBy (w.drewN n) row := ⟨rfl, rfl, rfl, Nat.le_refl _, fun _ _ _ => rfl⟩
theorem grown_trans {a b c : World} {row : Option Nat} (h : a.grownBy b row) (k : b.grownBy c row) : a.grownBy c row :=
  ⟨k.os.trans h.os, k.tape.trans h.tape, k.output.trans h.output, Nat.le_trans h.size k.size, fun j hj hr => (k.block j (Nat.lt_of_lt_of_le hj h.size) hr).trans (h.block j hj hr)⟩
theorem grown_set (w : World) (b o : Nat) (u : Value) : w.grownBy (w.setCell ⟨b, o, none⟩ u) (some b) :=
  ⟨rfl, rfl, rfl, by simp, fun k _ hk => Below.heap_setCell _ _ _ _ (fun e => hk (by simp [e]))⟩

theorem Rd.drewN {T : TypeId} {w : World} {rb : Nat} {bs : List Nat} {pos : Nat} {bad : Bool} (h : Rd rv T w rb bs pos bad) (k : Nat) : Rd rv T (w.drewN k) rb bs pos bad :=
  h.old ⟨rfl, rfl, rfl, Nat.le_refl _, fun _ _ => rfl⟩

/-- The reader behind a store into one of its own cells. -/
theorem Rd.set1 {T : TypeId} {w : World} {rb : Nat} {bs : List Nat} {pos : Nat} {bad : Bool} (h : Rd rv T w rb bs pos bad) (hT : T ≠ 5) (pos' : Nat) (hp' : pos' ≤ 8 * bs.length) : Rd rv T (w.setCell ⟨rb, 1, none⟩ (.int .i64 (pos' : Int))) rb bs pos' bad := by
  obtain ⟨⟨hp, ho⟩, h2, h3, h4⟩ := h
  exact ⟨⟨row_setCell hp 1 _, ownsRow_setCell_other ho (a := ⟨rb, 1, none⟩) (owns_ne ho hp hT) _⟩, h2, hp', h4⟩

theorem Rd.set2 {T : TypeId} {w : World} {rb : Nat} {bs : List Nat} {pos : Nat} {bad : Bool} (h : Rd rv T w rb bs pos bad) (hT : T ≠ 5) (bad' : Bool) : Rd rv T (w.setCell ⟨rb, 2, none⟩ (.bool bad')) rb bs pos bad' := by
  obtain ⟨⟨hp, ho⟩, h2, h3, h4⟩ := h
  exact ⟨⟨row_setCell hp 2 _, ownsRow_setCell_other ho (a := ⟨rb, 2, none⟩) (owns_ne ho hp hT) _⟩, h2, h3, h4⟩

theorem left_walk (w : World) (rb : Nat) (bs : List Nat) (pos : Nat) (bad : Bool) (h : Rd rv 79 w rb bs pos bad) :
    Calls Tryd.prog 68 #[.pointer (some ⟨rb, 0, none⟩)] w fun e w' => e = .returned (.int .i64 (8 * (bs.length : Int) - pos)) ∧ ∃ k, w' = w.drewN k := by
  obtain ⟨⟨hp, ho⟩, h2, h3, h4⟩ := h
  have c0 := cell3_0 hp
  have c1 := cell3_1 hp
  obtain ⟨ao, cp, rfl, -, -, -⟩ := lies_own ho
  go_enter Tryd.func68, Tryd.ntmps68
  go_wp2
  go_quiet (fail)
  go_wp2
  go_ret
  exact ⟨ret_int (by omega), _, rfl⟩

theorem bad_walk (w : World) (rb : Nat) (bs : List Nat) (pos : Nat) (bad : Bool) (h : Rd rv 79 w rb bs pos bad) :
    Calls Tryd.prog 64 #[.pointer (some ⟨rb, 0, none⟩)] w fun e w' => e = .returned (.bool bad) ∧ w' = w := by
  obtain ⟨⟨hp, ho⟩, h2, h3, h4⟩ := h
  have c2 := cell3_2 hp
  go_enter Tryd.func64, Tryd.ntmps64
  go_wp2
  go_ret
  exact ⟨rfl, rfl⟩

theorem skip_walk (w : World) (rb : Nat) (bs : List Nat) (pos : Nat) (bad : Bool) (h : Rd rv 79 w rb bs pos bad) :
    Calls Tryd.prog 77 #[.pointer (some ⟨rb, 0, none⟩)] w fun e w' => e = .returned (.tuple #[]) ∧ Rd rv 79 w' rb bs ((pos + 7) / 8 * 8) bad ∧ w.grownBy w' (some rb) := by
  have h0 := h
  obtain ⟨⟨hp, ho⟩, h2, h3, h4⟩ := h
  have c1 := cell3_1 hp
  have z1 := free_at hp 1
  go_enter Tryd.func77, Tryd.ntmps77
  go_wp2
  go_end0
  have e : ((pos : Int) + 8 - 1) / 8 * 8 = (((pos + 7) / 8 * 8 : Nat) : Int) := by omega
  rw [e]
  exact ⟨rfl, h0.set1 (by decide) _ (by omega), grown_set _ _ _ _⟩

/-- One digit of a byte, as the text reckons it. -/
theorem digit_at (x k : Nat) (hx : x < 256) : wrap64 (bits .and .u8 ((x : Int) / 2 ^ k) 1) = ((x / 2 ^ k % 2 : Nat) : Int) := by
  have e : ((x : Int) / 2 ^ k) = ((x / 2 ^ k : Nat) : Int) := by push_cast; rfl
  rw [e, u8_and1 _ (Nat.lt_of_le_of_lt (Nat.div_le_self _ _) hx)]
  unfold wrap64
  omega

theorem byte_lt {bs : List Nat} (h : Small bs) (k : Nat) : bs.getD k 0 < 256 := by
  by_cases hk : k < bs.length
  · have hm := h (bs[k]) (List.getElem_mem hk)
    simpa [hk] using hm
  · simp [List.getElem?_eq_none (Nat.le_of_not_lt hk)]

theorem next_walk (w : World) (rb : Nat) (bs : List Nat) (pos : Nat) (bad : Bool) (h : Rd rv 79 w rb bs pos bad) (hlt : pos < 8 * bs.length) :
    Calls Tryd.prog 76 #[.pointer (some ⟨rb, 0, none⟩)] w fun e w' => e = .returned (.int .i64 ((val bs / 2 ^ pos % 2 : Nat) : Int)) ∧ Rd rv 79 w' rb bs (pos + 1) bad ∧ w.grownBy w' (some rb) := by
  have h0 := h
  obtain ⟨⟨hp, ho⟩, h2, h3, h4⟩ := h
  have c0 := cell3_0 hp
  have c1 := cell3_1 hp
  have z1 := free_at hp 1
  obtain ⟨g, cap, rfl, -, -⟩ := ho.form (by omega)
  have hc : w.cell? ⟨g, pos / 8, none⟩ = some (.int .u8 ((bs.getD (pos / 8) 0 : Nat) : Int)) := by
    rw [ho.cellAt _ (by omega)]
    have : pos / 8 < bs.length := by omega
    simp [this, byteV]
  have hb := val_bit h2 pos
  have hx : bs.getD (pos / 8) 0 < 256 := byte_lt h2 _
  obtain ⟨x, hxe⟩ : ∃ x, x = bs.getD (pos / 8) 0 := ⟨_, rfl⟩
  rw [← hxe] at hc hb hx
  have HB : Hid (val bs / 2 ^ pos % 2 = x / 2 ^ (pos % 8) % 2) := hb
  clear hb hxe
  go_enter Tryd.func76, Tryd.ntmps76
  go_wp2
  go_quiet (fail)
  go_wp2
  go_ret
  refine ⟨ret_int ?_, (h0.drewN nq).set1 (by decide) (pos + 1) (by omega), grown_trans (grown_drewN w nq _) (grown_set _ _ _ _)⟩
  rw [HB.out]
  exact digit_at x _ hx
end Go.Proofs.YtdokpimhhkbdbaaDoor.Q

set_option linter.unusedSimpArgs false
set_option linter.unusedVariables false
namespace Go.Proofs.YtdokpimhhkbdbaaDoor.Q
open Go.RowKit

variable {rv : Value}

/-- Whether c digits can be had. -/
def Has (bs : List Nat) (pos : Nat) (bad : Bool) (c : Int) : Prop := bad = false ∧ 0 ≤ c ∧ c ≤ 16 ∧ (pos : Int) + c ≤ 8 * bs.length

theorem getting (M pos k : Nat) : M / 2 ^ pos % 2 ^ k ||| (M / 2 ^ (pos + k) % 2) * 2 ^ k = M / 2 ^ pos % 2 ^ (k + 1) := by
  have h1 : M / 2 ^ pos % 2 ^ k < 2 ^ k := Nat.mod_lt _ (Nat.pow_pos (by decide))
  rw [Nat.or_comm, nat_join k _ _ (by simp) h1, Nat.pow_add, ← Nat.div_div_eq_div_mul, Nat.pow_succ, Nat.mod_mul]
  rw [Nat.mul_comm]
  omega

theorem get_less (M pos k : Nat) (hk : k ≤ 16) : M / 2 ^ pos % 2 ^ k < 65536 :=
  Nat.lt_of_lt_of_le (Nat.mod_lt _ (Nat.pow_pos (by decide))) (Nat.pow_le_pow_right (by decide) hk : 2 ^ k ≤ 2 ^ 16)

/-- One digit joined to a number, as the text reckons it. -/
theorem joined (M pos k : Nat) (hk : k < 16) : bits .or .i64 ((M / 2 ^ pos % 2 ^ k : Nat) : Int) (wrap64 (((M / 2 ^ (pos + k) % 2 : Nat) : Int) * 2 ^ k)) = ((M / 2 ^ pos % 2 ^ (k + 1) : Nat) : Int) := by
  have h1 := get_less M pos k (by omega)
  have h2 : (M / 2 ^ (pos + k) % 2) * 2 ^ k ≤ 2 ^ k := by
    rcases (show M / 2 ^ (pos + k) % 2 = 0 ∨ M / 2 ^ (pos + k) % 2 = 1 by omega) with h | h <;> rw [h] <;> omega
  have h3 : 2 ^ k ≤ 65536 := (Nat.pow_le_pow_right (by decide) (by omega) : 2 ^ k ≤ 2 ^ 16)
  have e : wrap64 (((M / 2 ^ (pos + k) % 2 : Nat) : Int) * 2 ^ k) = (((M / 2 ^ (pos + k) % 2) * 2 ^ k : Nat) : Int) := by
    have e1 : (((M / 2 ^ (pos + k) % 2 : Nat) : Int) * 2 ^ k) = (((M / 2 ^ (pos + k) % 2) * 2 ^ k : Nat) : Int) := by push_cast; rfl
    rw [e1]
    generalize (M / 2 ^ (pos + k) % 2) * 2 ^ k = z at *
    unfold wrap64
    omega
  rw [e, i64_or_nat _ _ (by omega) (by omega), getting]

set_option maxHeartbeats 1000000 in
theorem get_has (w : World) (rb : Nat) (bs : List Nat) (pos c : Nat) (h : Rd rv 79 w rb bs pos false) (hc : c ≤ 16) (hl : pos + c ≤ 8 * bs.length) :
    Calls Tryd.prog 62 #[.pointer (some ⟨rb, 0, none⟩), .int .i64 c] w fun e w' => e = .returned (.int .i64 ((val bs / 2 ^ pos % 2 ^ c : Nat) : Int)) ∧ Rd rv 79 w' rb bs (pos + c) false ∧ w.grownBy w' (some rb) := by
  have hmay : Hid (∀ w, Calls Tryd.prog 52 #[.int .i64 c] w fun e w' => e = .returned (.bool true) ∧ w' = w) := fun w => (may_walk c w).mono fun e w' ⟨h1, h2⟩ => ⟨by rw [h1]; simp; omega, h2⟩
  have hleft : Hid (Calls Tryd.prog 68 #[.pointer (some ⟨rb, 0, none⟩)] w fun e w' => e = .returned (.int .i64 (8 * (bs.length : Int) - pos)) ∧ ∃ k, w' = w.drewN k) := left_walk w rb bs pos false h
  have hgt : ¬ (8 * (bs.length : Int) - pos < c) := by omega
  have c2 : w.cell? ⟨rb, 2, none⟩ = some (.bool false) := by obtain ⟨⟨hp, _⟩, _⟩ := h; exact cell3_2 hp
  go_enter Tryd.func62, Tryd.ntmps62
  go_wp2_with (first
    | (go_at_call 52; (with_reducible refine (hmay.out _).mono ?_); rintro e w' ⟨rfl, hx⟩; have hx := hx.symm; subst hx)
    | (go_at_call 68; (with_reducible refine hleft.out.mono ?_); rintro e w' ⟨rfl, q, hx⟩; have hx := hx.symm; subst hx))
  go_loopw [5, 6] (fun n i wr => ∃ k : Nat, k ≤ c ∧ n = .int .i64 ((val bs / 2 ^ pos % 2 ^ k : Nat) : Int) ∧ i = .int .i64 k ∧ Rd rv 79 wr rb bs (pos + k) false ∧ w.grownBy wr (some rb)) (fun _ i _ => c - (intOf i).toNat)
  case atStart => exact ⟨0, by omega, by simp [Nat.mod_one], rfl, h.drewN _, grown_drewN _ _ _⟩
  case round =>
    obtain ⟨k, hk, rfl, rfl, hr, hb⟩ := hrel
    by_cases hkc : k < c
    · have hnext : Hid (Calls Tryd.prog 76 #[.pointer (some ⟨rb, 0, none⟩)] wr fun e w' => e = .returned (.int .i64 ((val bs / 2 ^ (pos + k) % 2 : Nat) : Int)) ∧ Rd rv 79 w' rb bs (pos + k + 1) false ∧ wr.grownBy w' (some rb)) := next_walk wr rb bs (pos + k) false hr (by omega)
      have hj := joined (val bs) pos k (by omega)
      obtain ⟨a, ha⟩ : ∃ a : Nat, a = val bs / 2 ^ pos % 2 ^ k := ⟨_, rfl⟩
      obtain ⟨b, hb'⟩ : ∃ b : Nat, b = val bs / 2 ^ (pos + k) % 2 := ⟨_, rfl⟩
      obtain ⟨d, hd⟩ : ∃ d : Nat, d = val bs / 2 ^ pos % 2 ^ (k + 1) := ⟨_, rfl⟩
      rw [← hb'] at hnext hj
      rw [← ha, ← hd] at hj
      rw [← ha]
      have HD : Hid (d = val bs / 2 ^ pos % 2 ^ (k + 1)) := hd
      clear ha hb' hd
      go_wp2_with (go_at_call 76; (with_reducible refine hnext.out.mono ?_); rintro e w' ⟨rfl, hr2, hb2⟩)
      go_roundw
      case rel => exact ⟨k + 1, by omega, by rw [← HD.out], by go_num, hr2, grown_trans hb hb2⟩
      case measure => simp [intOf]; omega
    · have hkk : k = c := by omega
      subst hkk
      go_wp2
      go_ret
      exact ⟨rfl, hr, hb⟩

theorem get_not (w : World) (rb : Nat) (bs : List Nat) (pos : Nat) (bad : Bool) (c : Int) (h : Rd rv 79 w rb bs pos bad) (hn : ¬ Has bs pos bad c) :
    Calls Tryd.prog 62 #[.pointer (some ⟨rb, 0, none⟩), .int .i64 c] w fun e w' => e = .returned (.int .i64 0) ∧ Rd rv 79 w' rb bs pos true ∧ w.grownBy w' (some rb) := by
  have hleft : Hid (Calls Tryd.prog 68 #[.pointer (some ⟨rb, 0, none⟩)] w fun e w' => e = .returned (.int .i64 (8 * (bs.length : Int) - pos)) ∧ ∃ k, w' = w.drewN k) := left_walk w rb bs pos bad h
  obtain ⟨c2, z2⟩ : w.cell? ⟨rb, 2, none⟩ = some (.bool bad) ∧ w.frozen? ⟨rb, 2, none⟩ = false := by obtain ⟨⟨hp, _⟩, _⟩ := h; exact ⟨cell3_2 hp, free_at hp 2⟩
  by_cases hm : 0 ≤ c ∧ c ≤ 16
  · have hmay : Hid (∀ w, Calls Tryd.prog 52 #[.int .i64 c] w fun e w' => e = .returned (.bool true) ∧ w' = w) := fun w => (may_walk c w).mono fun e w' ⟨h1, h2⟩ => ⟨by rw [h1]; simp only [hm, and_self, decide_true], h2⟩
    by_cases hgt : 8 * (bs.length : Int) - pos < c
    · go_enter Tryd.func62, Tryd.ntmps62
      go_wp2_with (first
        | (go_at_call 52; (with_reducible refine (hmay.out _).mono ?_); rintro e w' ⟨rfl, hx⟩; have hx := hx.symm; subst hx)
        | (go_at_call 68; (with_reducible refine hleft.out.mono ?_); rintro e w' ⟨rfl, q, hx⟩; have hx := hx.symm; subst hx))
      go_ret
      exact ⟨rfl, (h.drewN q).set2 (by decide) true, grown_trans (grown_drewN w q _) (grown_set _ _ _ _)⟩
    · obtain rfl : bad = true := by
        cases bad with
        | true => rfl
        | false => exact absurd ⟨rfl, hm.1, hm.2, by omega⟩ hn
      go_enter Tryd.func62, Tryd.ntmps62
      go_wp2_with (first
        | (go_at_call 52; (with_reducible refine (hmay.out _).mono ?_); rintro e w' ⟨rfl, hx⟩; have hx := hx.symm; subst hx)
        | (go_at_call 68; (with_reducible refine hleft.out.mono ?_); rintro e w' ⟨rfl, q, hx⟩; have hx := hx.symm; subst hx))
      go_ret
      exact ⟨rfl, h.drewN q, grown_drewN w q _⟩
  · have hmay := may_not c hm
    go_enter Tryd.func62, Tryd.ntmps62
    go_wp2_with (first
      | (go_at_call 52; (with_reducible refine (hmay.out _).mono ?_); rintro e w' ⟨rfl, hx⟩; have hx := hx.symm; subst hx))
    go_ret
    exact ⟨rfl, h.set2 (by decide) true, grown_set _ _ _ _⟩

theorem bit_has (w : World) (rb : Nat) (bs : List Nat) (pos : Nat) (h : Rd rv 79 w rb bs pos false) (hl : pos + 1 ≤ 8 * bs.length) :
    Calls Tryd.prog 87 #[.pointer (some ⟨rb, 0, none⟩)] w fun e w' => e = .returned (.int .i64 ((val bs / 2 ^ pos % 2 : Nat) : Int)) ∧ Rd rv 79 w' rb bs (pos + 1) false ∧ w.grownBy w' (some rb) := by
  have hg : Hid (Calls Tryd.prog 62 #[.pointer (some ⟨rb, 0, none⟩), .int .i64 1] w fun e w' => e = .returned (.int .i64 ((val bs / 2 ^ pos % 2 : Nat) : Int)) ∧ Rd rv 79 w' rb bs (pos + 1) false ∧ w.grownBy w' (some rb)) := get_has w rb bs pos 1 h (by decide) hl
  go_enter Tryd.func87, Tryd.ntmps87
  go_wp2_with (go_at_call 62; (with_reducible refine hg.out.mono ?_); rintro e w' ⟨rfl, h1, h2⟩)
  go_ret
  exact ⟨rfl, h1, h2⟩

theorem bit_not (w : World) (rb : Nat) (bs : List Nat) (pos : Nat) (bad : Bool) (h : Rd rv 79 w rb bs pos bad) (hn : ¬ Has bs pos bad 1) :
    Calls Tryd.prog 87 #[.pointer (some ⟨rb, 0, none⟩)] w fun e w' => e = .returned (.int .i64 0) ∧ Rd rv 79 w' rb bs pos true ∧ w.grownBy w' (some rb) := by
  have hg : Hid (Calls Tryd.prog 62 #[.pointer (some ⟨rb, 0, none⟩), .int .i64 1] w fun e w' => e = .returned (.int .i64 0) ∧ Rd rv 79 w' rb bs pos true ∧ w.grownBy w' (some rb)) := get_not w rb bs pos bad 1 h hn
  go_enter Tryd.func87, Tryd.ntmps87
  go_wp2_with (go_at_call 62; (with_reducible refine hg.out.mono ?_); rintro e w' ⟨rfl, h1, h2⟩)
  go_ret
  exact ⟨rfl, h1, h2⟩

theorem owns_base {w : World} {B B' : Nat} {v : Value} {n : Nat} {xs : List Value} (h : w.ownsRow B 5 1 v n xs) (hB : B' ≤ B) : w.ownsRow B' 5 1 v n xs := by
  refine ⟨h.1, ?_⟩
  rcases h.2 with h2 | ⟨g, cap, cur, rfl, hb, r⟩
  · exact .inl h2
  · exact .inr ⟨g, cap, cur, rfl, Nat.le_trans hB hb, r⟩

theorem reader_walk (w : World) (v : Value) (bs : List Nat) (hv : Lies w v bs) (hs : Small bs) (hl : bs.length ≤ 140737488355328) :
    Calls Tryd.prog 30 #[v] w fun e w' => ∃ rv rb, e = .returned (.pointer (some ⟨rb, 0, none⟩)) ∧ Rd rv 79 w' rb bs 0 false ∧ w.heap.size ≤ rb ∧ Below w.heap.size w w' := by
  have hc : Hid (Calls Tryd.prog 45 #[v] w fun e w' => ∃ v', e = .returned v' ∧ w'.ownsRow w.heap.size 5 1 v' bs.length (bs.map byteV) ∧ Below w.heap.size w w') := clone_walk w v bs hv hl
  go_enter Tryd.func30, Tryd.ntmps30
  go_wp2_with (go_at_call 45; (with_reducible refine hc.out.mono ?_); rintro e w1 ⟨v1, rfl, ho, hb⟩; obtain ⟨ao, cp, rfl, -, -, -⟩ := lies_own ho)
  go_ret
  exact ⟨_, w1.heap.size, rfl, ⟨⟨heap_alloc_new w1 _, (owns_base ho (Nat.zero_le _)).alloc _⟩, hs, Nat.zero_le _, hl⟩, hb.size, hb.alloc hb.size _⟩

end Go.Proofs.YtdokpimhhkbdbaaDoor.Q

set_option linter.unusedSimpArgs false
set_option linter.unusedVariables false
namespace Go.Proofs.YtdokpimhhkbdbaaDoor.Q
open Go.RowKit

variable {rv : Value}

theorem far_cell {w w' : World} {x : Nat} (hg : w.grownBy w' (some x)) {a : Addr} (ha : a.block ≠ x) {u : Value} (h : w.cell? a = some u) : w'.cell? a = some u := by
  have e := hg.block a.block (cell_lt h) (by simpa using ha)
  unfold World.cell? at h ⊢
  rw [e]
  exact h

theorem cn_pos {l : List Nat} {i : Nat} (hi : i < l.length) (h0 : 0 < nth l i) : 0 < cn l (nth l i) := by
  have := rank_lt hi rfl
  have h : nth l i ≠ 0 := by omega
  simp only [cn, h, ↓reduceIte]
  omega

/-- The digits that are next. -/
def nx (bs : List Nat) (pos k : Nat) : Nat := val bs / 2 ^ (pos + k) % 2

theorem nx_lt (bs : List Nat) (pos k : Nat) : nx bs pos k < 2 := by unfold nx; omega

/-- What Get answers. -/
def Got (rv : Value) (l bs : List Nat) (pos : Nat) (w : World) (T : TypeId) (rb : Nat) (e : Ending) (w' : World) : Prop :=
  w.grownBy w' (some rb) ∧
  ((∃ i, Hit l (nx bs pos) (8 * bs.length - pos) i ∧ e = .returned (.tuple #[.int .i64 (i : Nat), .bool true]) ∧ Rd rv T w' rb bs (pos + nth l i) false) ∨
   ((∀ i, ¬ Hit l (nx bs pos) (8 * bs.length - pos) i) ∧ e = .returned (.tuple #[.int .i64 0, .bool false]) ∧ ∃ pos' bad', Rd rv T w' rb bs pos' bad'))

theorem no_more {l : List Nat} (h15 : ∀ x ∈ l, x ≤ 15) {f : Nat → Nat} {L av : Nat} (hp : Past l f L) (hs : sho l 16 ≤ sho l L) (i : Nat) : ¬ Hit l f av i := by
  intro hh
  have h1 := past_not hp hh
  obtain ⟨a, b, c, d⟩ := hh
  have h2 := nth_le15 h15 i
  have h3 := cn_pos a b
  have h4 := sho_mono (l := l) h1
  have h5 := sho_mono (l := l) (show nth l i + 1 ≤ 16 by omega)
  have h6 : sho l (nth l i + 1) = sho l (nth l i) + cn l (nth l i) := rfl
  omega

set_option maxRecDepth 100000 in
set_option maxHeartbeats 2000000 in
theorem get_walk (w : World) (tb rb : Nat) (l bs : List Nat) (pos : Nat) (h : Tab w tb l) (hr : Rd rv 79 w rb bs pos false) :
    Calls Tryd.prog 84 #[.pointer (some ⟨tb, 0, none⟩), .pointer (some ⟨rb, 0, none⟩)] w fun e w' => Got rv l bs pos w 79 rb e w' := by
  obtain ⟨⟨cb, v, c, h1, h2, h3, h4⟩, r1, r2, r3⟩ := h
  obtain ⟨rc, hrc⟩ := hr.type
  have htr : tb ≠ rb := blocks_ne h1 hrc (by decide)
  have hvr : v.ownBlock ≠ some rb := owns_ne3 h4 hrc (by decide)
  have C1 : w.cell? ⟨tb, 1, none⟩ = some v := by rw [cell_of_row _ _ 1 _ _ _ h1, at1]
  have CC : Hid (∀ k, k < 16 → w.cell? ⟨tb, 2 + k, none⟩ = some (.int .i64 (cn l k : Nat))) := fun k hk => by
    rw [cell_of_row _ _ _ _ _ _ h1, at2, cells16_get _ _ hk]; rfl
  rw [ord_length] at h4
  have hM16 := sho_le r1 16
  have hform : ∃ ao cp, v = .slice ao (sho l 16) cp ∧ Hid (∀ idx, idx < sho l 16 → ∃ g, ao = some ⟨g, 0, none⟩ ∧ g ≠ rb ∧ w.cell? ⟨g, idx, none⟩ = some (.int .i64 ((ord l 16).getD idx 0 : Nat))) := by
    have h40 := h4
    rcases h4.2 with ⟨rfl, h0⟩ | ⟨g, cap, cur, rfl, _, hg, hn, _⟩
    · exact ⟨none, 0, by rw [h0], fun idx hi => by omega⟩
    · refine ⟨_, cap, rfl, fun idx hi => ⟨g, rfl, fun e => hvr (by rw [e]; rfl), ?_⟩⟩
      rw [h40.cellAt idx (by omega)]
      have : idx < (ord l 16).length := by rw [ord_length]; exact hi
      simp [this, natV]
  obtain ⟨ao, cp, rfl, CS⟩ := hform
  have H15 : Hid (∀ x ∈ l, x ≤ 15) := r2
  have HF : Hid (Fits l) := r3
  obtain ⟨M, hM⟩ : ∃ M, M = sho l 16 := ⟨_, rfl⟩
  rw [← hM] at C1 CS hM16
  have HM : Hid (M = sho l 16) := hM
  clear h1 h2 h3 h4 hrc r2 r3 hM hvr
  obtain ⟨av, hav⟩ : ∃ av, av = 8 * bs.length - pos := ⟨_, rfl⟩
  have HAV : Hid (av = 8 * bs.length - pos) := hav
  have hle := hr.le
  have hbl := hr.len
  clear hav
  go_enter Tryd.func84, Tryd.ntmps84
  go_wp2
  go_loopw [6, 7, 8, 9] (fun d f s n wr => ∃ k D F S : Nat, k ≤ 15 ∧ k ≤ av ∧ n = .int .i64 ((k + 1 : Nat) : Int) ∧ d = .int .i64 (D : Int) ∧ f = .int .i64 (F : Int) ∧ s = .int .i64 (S : Int) ∧ Hid (D = top (nx bs pos) k) ∧ Hid (F = base l (k + 1)) ∧ Hid (S = sho l (k + 1)) ∧ Hid (Past l (nx bs pos) (k + 1)) ∧ Rd rv 79 wr rb bs (pos + k) false ∧ w.grownBy wr (some rb)) (fun _ _ _ n _ => 17 - (intOf n).toNat)
  case atStart => exact ⟨0, 0, 0, 0, by omega, by omega, rfl, rfl, rfl, rfl, rfl, rfl, rfl, fun m h1 h2 => by omega, hr, ⟨rfl, rfl, rfl, Nat.le_refl _, fun _ _ _ => rfl⟩⟩
  case round =>
    obtain ⟨k, D, F, S, hk, hkav, rfl, rfl, rfl, rfl, HD, HF1, HS, HP, hR, hg⟩ := hrel
    obtain ⟨L, hL⟩ : ∃ L, L = k + 1 := ⟨_, rfl⟩
    rw [← hL] at HF1 HS HP ⊢
    have c1 := far_cell hg (a := ⟨tb, 1, none⟩) htr C1
    have hSM : S ≤ M := by rw [HS.out, HM.out]; exact sho_mono (by omega)
    by_cases hs : S < M
    · have hL15 : L ≤ 15 := by
        rcases Nat.lt_or_ge 15 L with h | h
        · have : L = 16 := by omega
          subst this
          have := HS.out
          have := HM.out
          omega
        · exact h
      have hbad : Hid (Calls Tryd.prog 64 #[.pointer (some ⟨rb, 0, none⟩)] wr fun e w' => e = .returned (.bool false) ∧ w' = wr) := bad_walk wr rb bs (pos + k) false hR
      have hleft : Hid (Calls Tryd.prog 68 #[.pointer (some ⟨rb, 0, none⟩)] wr fun e w' => e = .returned (.int .i64 ((av : Int) - k)) ∧ ∃ q, w' = wr.drewN q) := by
        refine (left_walk wr rb bs (pos + k) false hR).mono ?_
        rintro e w' ⟨rfl, hq⟩
        refine ⟨ret_int ?_, hq⟩
        have := HAV.out
        have := hR.le
        omega
      by_cases hka : k < av
      · have hne0 : (((av : Int) - k) == 0) = false := by simp; omega
        have hbit : Hid (∀ q, Calls Tryd.prog 87 #[.pointer (some ⟨rb, 0, none⟩)] (wr.drewN q) fun e w' => e = .returned (.int .i64 ((nx bs pos k : Nat) : Int)) ∧ Rd rv 79 w' rb bs (pos + L) false ∧ w.grownBy w' (some rb)) := fun q => by
          have := HAV.out
          refine (bit_has (wr.drewN q) rb bs (pos + k) (hR.drewN q) (by omega)).mono ?_
          rintro e w' ⟨rfl, e2, e3⟩
          rw [hL]
          exact ⟨rfl, e2, grown_trans (grown_trans hg (grown_drewN wr q _)) e3⟩
        have htop : Hid (2 * D + nx bs pos k = top (nx bs pos) L) := by show _ = _; rw [HD.out, hL]; rfl
        have hx2 := nx_lt bs pos k
        have hDl : D < 32768 := by
          rw [HD.out]
          exact Nat.lt_of_lt_of_le (top_lt (nx_lt bs pos) k) (pow_le15 hk)
        obtain ⟨x, hx⟩ : ∃ x, x = nx bs pos k := ⟨_, rfl⟩
        rw [← hx] at hbit htop hx2
        have hFc := base_le HF.out (n := L) hL15
        have hp15 := pow_le15 hL15
        obtain ⟨cL, hcL⟩ : ∃ cL, cL = cn l L := ⟨_, rfl⟩
        rw [← HF1.out, ← hcL] at hFc
        have HCL : Hid (cL = cn l L) := hcL
        have hFl : F + cL ≤ 32768 := by omega
        have hFD : F ≤ 2 * D := by
          have := past_base HP.out (by omega)
          rw [HF1.out, HD.out]
          rwa [hL, Nat.add_sub_cancel, ← hL] at this
        have hix : 0 ≤ (L : Int) ∧ (L : Int) ≤ 15 := by omega
        have HK : Hid (L = k + 1) := hL
        clear hFc hp15 hcL hx hL
        have hL0 : 0 < L := by have := HK.out; omega
        have hlt : Hid (∀ w2, w.grownBy w2 (some rb) → w2.cell? ⟨tb, 2 + L, none⟩ = some (.int .i64 (cL : Int))) := fun w2 hg2 => by
          rw [HCL.out]
          exact far_cell hg2 (a := ⟨tb, 2 + L, none⟩) htr (CC.out L (by omega))
        have hlt1 : Hid (∀ w2, w.grownBy w2 (some rb) → w2.cell? ⟨tb, 1, none⟩ = some (.slice ao M cp)) := fun w2 hg2 => far_cell hg2 (a := ⟨tb, 1, none⟩) htr C1
        by_cases hhit : 2 * D + x < F + cL
        · obtain ⟨g, rfl, hgr, hcg⟩ := CS.out (S + (2 * D + x) - F) (by
            have h1 := HS.out
            have h2 := HM.out
            have h3 := sho_mono (l := l) (show L + 1 ≤ 16 by omega)
            have h6 : sho l (L + 1) = sho l L + cn l L := rfl
            rw [← HCL.out] at h6
            omega)
          have hsg : Hid (∀ w2, w.grownBy w2 (some rb) → w2.cell? ⟨g, S + (2 * D + x) - F, none⟩ = some (.int .i64 ((ord l 16).getD (S + (2 * D + x) - F) 0 : Nat))) := fun w2 hg2 => far_cell hg2 (a := ⟨g, _, none⟩) hgr hcg
          clear hcg
          have hH := hit_ord (l := l) (f := nx bs pos) (n := L) (av := av) hL0 hL15 (by have := HK.out; omega) (by rw [← htop.out, ← HF1.out]; omega) (by rw [← htop.out, ← HF1.out, ← HCL.out]; exact hhit)
          rw [← htop.out, ← HF1.out, ← HS.out] at hH
          have HH : Hid (Hit l (nx bs pos) av ((ord l 16).getD (S + (2 * D + x) - F) 0) ∧ nth l ((ord l 16).getD (S + (2 * D + x) - F) 0) = L) := hH
          obtain ⟨sg, hsge⟩ : ∃ sg, sg = (ord l 16).getD (S + (2 * D + x) - F) 0 := ⟨_, rfl⟩
          rw [← hsge] at HH hsg
          clear hH hsge
          obtain ⟨ix, hixe⟩ : ∃ ix, ix = S + (2 * D + x) - F := ⟨_, rfl⟩
          rw [← hixe] at hsg
          have hixI : (S : Int) + ((D : Int) * 2 + x) - F = (ix : Int) := by omega
          have hixM : ix < M := by
            have h1 := HS.out
            have h2 := HM.out
            have h3 := sho_mono (l := l) (show L + 1 ≤ 16 by omega)
            have h6 : sho l (L + 1) = sho l L + cn l L := rfl
            rw [← HCL.out] at h6
            omega
          clear hixe
          go_wp2_with (first
            | (go_at_call 64; (with_reducible refine hbad.out.mono ?_); rintro e wx ⟨rfl, hx⟩; have hx := hx.symm; subst hx)
            | (go_at_call 68; (with_reducible refine hleft.out.mono ?_); rintro e wx ⟨rfl, q, hx⟩; have hx := hx.symm; subst hx)
            | (go_at_call 87; (with_reducible refine (hbit.out _).mono ?_); rintro e w2 ⟨rfl, hR2, hg2⟩; have y1 := hlt.out _ hg2; have y2 := hlt1.out _ hg2; have y3 := hsg.out _ hg2))
          go_ret2
          refine ⟨hg2, .inl ⟨sg, by rw [← HAV.out]; exact HH.out.1, rfl, by rw [HH.out.2]; exact hR2⟩⟩
        · have hno : Hid (Past l (nx bs pos) (L + 1)) := past_next HP.out (by rw [← htop.out, ← HF1.out, ← HCL.out]; omega)
          have hSs : Hid (sho l (L + 1) = S + cL) := by show _ = _; rw [HS.out, HCL.out]; rfl
          have hFs : Hid (base l (L + 1) = 2 * (F + cL)) := by show _ = _; rw [HF1.out, HCL.out]; rfl
          have hcl2 : cL ≤ 320 := by rw [HCL.out]; have := cn_le (l := l) L; omega
          go_wp2_with (first
            | (go_at_call 64; (with_reducible refine hbad.out.mono ?_); rintro e wx ⟨rfl, hx⟩; have hx := hx.symm; subst hx)
            | (go_at_call 68; (with_reducible refine hleft.out.mono ?_); rintro e wx ⟨rfl, q, hx⟩; have hx := hx.symm; subst hx)
            | (go_at_call 87; (with_reducible refine (hbit.out _).mono ?_); rintro e w2 ⟨rfl, hR2, hg2⟩; have y1 := hlt.out _ hg2; have y2 := hlt1.out _ hg2))
          go_roundw
          case rel =>
            have hk1 := HK.out
            refine ⟨L, 2 * D + x, 2 * (F + cL), S + cL, by omega, by omega, by go_num, by push_cast; congr 1; omega, by push_cast; congr 1; omega, by push_cast; rfl, htop.out, ?_, ?_, ?_, ?_, hg2⟩
            · show _ = _; rw [hFs.out]
            · show _ = _; rw [hSs.out]
            · exact hno.out
            · exact hR2
          case measure => simp [intOf]; omega
      · have hka0 : (av : Int) - k = 0 := by omega
        rw [hka0] at hleft
        have hno : Hid (∀ i, ¬ Hit l (nx bs pos) av i) := fun i hh => by
          have h1 := past_not HP.out hh
          have h2 := hh.2.2.1
          omega
        clear hL
        go_wp2_with (first
          | (go_at_call 64; (with_reducible refine hbad.out.mono ?_); rintro e wx ⟨rfl, hx⟩; have hx := hx.symm; subst hx)
          | (go_at_call 68; (with_reducible refine hleft.out.mono ?_); rintro e wx ⟨rfl, q, hx⟩; have hx := hx.symm; subst hx))
        go_ret2
        exact ⟨grown_trans hg (grown_drewN wr q _), .inr ⟨by rw [← HAV.out]; exact hno.out, rfl, _, _, hR.drewN q⟩⟩
    · have hno : Hid (∀ i, ¬ Hit l (nx bs pos) av i) := fun i => no_more H15.out HP.out (by rw [← HS.out, ← HM.out]; omega) i
      clear hL
      go_wp2
      go_ret2
      exact ⟨hg, .inr ⟨by rw [← HAV.out]; exact hno.out, rfl, _, _, hR⟩⟩
end Go.Proofs.YtdokpimhhkbdbaaDoor.Q
