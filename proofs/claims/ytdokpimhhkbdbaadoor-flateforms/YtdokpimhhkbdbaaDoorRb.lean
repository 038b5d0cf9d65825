/-
  The reader's Get, Bit, and NewReader.
-/
import Derived.Test.YtdokpimhhkbdbaaDoorRa
set_option linter.unusedSimpArgs false
set_option linter.unusedVariables false
namespace Go.Proofs.YtdokpimhhkbdbaaDoor
open Go.RowKit

/-- Whether c digits can be had. -/
def Has (bs : List Nat) (pos : Nat) (bad : Bool) (c : Int) : Prop := bad = false ∧ 0 ≤ c ∧ c ≤ 16 ∧ (pos : Int) + c ≤ 8 * bs.length

theorem getting (M pos k : Nat) : M / 2 ^ pos % 2 ^ k ||| (M / 2 ^ (pos + k) % 2) * 2 ^ k = M / 2 ^ pos % 2 ^ (k + 1) := by
  have h1 : M / 2 ^ pos % 2 ^ k < 2 ^ k := Nat.mod_lt _ (Nat.pow_pos (by decide))
  rw [Nat.or_comm, nat_join k _ _ (by simp) h1, Nat.pow_add, ← Nat.div_div_eq_div_mul, Nat.pow_succ, Nat.mod_mul]
  rw [Nat.mul_comm]
  omega

theorem get_less (M pos k : Nat) (hk : k ≤ 16) : M / 2 ^ pos % 2 ^ k < 65536 :=
  Nat.lt_of_lt_of_le (Nat.mod_lt _ (Nat.pow_pos (by decide))) (Nat.pow_le_pow_right (by decide) hk : 2 ^ k ≤ 2 ^ 16)

/-- One digit joined to a number, as the text reckons it. -/
theorem joined (M pos k : Nat) (hk : k < 16) : bits .or .i64 ((M / 2 ^ pos % 2 ^ k : Nat) : Int) (wrap64 (((M / 2 ^ (pos + k) % 2 : Nat) : Int) * 2 ^ k)) = ((M / 2 ^ pos % 2 ^ (k + 1) : Nat) : Int) := by
  have h1 := get_less M pos k (by omega)
  have h2 : (M / 2 ^ (pos + k) % 2) * 2 ^ k ≤ 2 ^ k := by
    rcases (show M / 2 ^ (pos + k) % 2 = 0 ∨ M / 2 ^ (pos + k) % 2 = 1 by omega) with h | h <;> rw [h] <;> omega
  have h3 : 2 ^ k ≤ 65536 := (Nat.pow_le_pow_right (by decide) (by omega) : 2 ^ k ≤ 2 ^ 16)
  have e : wrap64 (((M / 2 ^ (pos + k) % 2 : Nat) : Int) * 2 ^ k) = (((M / 2 ^ (pos + k) % 2) * 2 ^ k : Nat) : Int) := by
    have e1 : (((M / 2 ^ (pos + k) % 2 : Nat) : Int) * 2 ^ k) = (((M / 2 ^ (pos + k) % 2) * 2 ^ k : Nat) : Int) := by push_cast; rfl
    rw [e1]
    generalize (M / 2 ^ (pos + k) % 2) * 2 ^ k = z at *
    unfold wrap64
    omega
  rw [e, i64_or_nat _ _ (by omega) (by omega), getting]

set_option maxHeartbeats 1000000 in
theorem get_has (w : World) (rb : Nat) (bs : List Nat) (pos c : Nat) (h : Rd 79 w rb bs pos false) (hc : c ≤ 16) (hl : pos + c ≤ 8 * bs.length) :
    Calls Tryd.prog 62 #[.pointer (some ⟨rb, 0, none⟩), .int .i64 c] w fun e w' => e = .returned (.int .i64 ((val bs / 2 ^ pos % 2 ^ c : Nat) : Int)) ∧ Rd 79 w' rb bs (pos + c) false ∧ w.grownBy w' (some rb) := by
  have hmay : Hid (∀ w, Calls Tryd.prog 52 #[.int .i64 c] w fun e w' => e = .returned (.bool true) ∧ w' = w) := fun w => (may_walk c w).mono fun e w' ⟨h1, h2⟩ => ⟨by rw [h1]; simp; omega, h2⟩
  have hleft : Hid (Calls Tryd.prog 68 #[.pointer (some ⟨rb, 0, none⟩)] w fun e w' => e = .returned (.int .i64 (8 * (bs.length : Int) - pos)) ∧ ∃ k, w' = w.drewN k) := left_walk w rb bs pos false h
  have hgt : ¬ (8 * (bs.length : Int) - pos < c) := by omega
  have c2 : w.cell? ⟨rb, 2, none⟩ = some (.bool false) := by obtain ⟨⟨v, hp, _⟩, _⟩ := h; exact cell3_2 hp
  go_enter Tryd.func62, Tryd.ntmps62
  go_wp2_with (first
    | (go_at_call 52; (with_reducible refine (hmay.out _).mono ?_); rintro e w' ⟨rfl, hx⟩; have hx := hx.symm; subst hx)
    | (go_at_call 68; (with_reducible refine hleft.out.mono ?_); rintro e w' ⟨rfl, q, hx⟩; have hx := hx.symm; subst hx))
  go_loopw [5, 6] (fun n i wr => ∃ k : Nat, k ≤ c ∧ n = .int .i64 ((val bs / 2 ^ pos % 2 ^ k : Nat) : Int) ∧ i = .int .i64 k ∧ Rd 79 wr rb bs (pos + k) false ∧ w.grownBy wr (some rb)) (fun _ i _ => c - (intOf i).toNat)
  case atStart => exact ⟨0, by omega, by simp [Nat.mod_one], rfl, h.drewN _, grown_drewN _ _ _⟩
  case round =>
    obtain ⟨k, hk, rfl, rfl, hr, hb⟩ := hrel
    by_cases hkc : k < c
    · have hnext : Hid (Calls Tryd.prog 76 #[.pointer (some ⟨rb, 0, none⟩)] wr fun e w' => e = .returned (.int .i64 ((val bs / 2 ^ (pos + k) % 2 : Nat) : Int)) ∧ Rd 79 w' rb bs (pos + k + 1) false ∧ wr.grownBy w' (some rb)) := next_walk wr rb bs (pos + k) false hr (by omega)
      have hj := joined (val bs) pos k (by omega)
      obtain ⟨a, ha⟩ : ∃ a : Nat, a = val bs / 2 ^ pos % 2 ^ k := ⟨_, rfl⟩
      obtain ⟨b, hb'⟩ : ∃ b : Nat, b = val bs / 2 ^ (pos + k) % 2 := ⟨_, rfl⟩
      obtain ⟨d, hd⟩ : ∃ d : Nat, d = val bs / 2 ^ pos % 2 ^ (k + 1) := ⟨_, rfl⟩
      rw [← hb'] at hnext hj
      rw [← ha, ← hd] at hj
      rw [← ha]
      have HD : Hid (d = val bs / 2 ^ pos % 2 ^ (k + 1)) := hd
      clear ha hb' hd
      go_wp2_with (go_at_call 76; (with_reducible refine hnext.out.mono ?_); rintro e w' ⟨rfl, hr2, hb2⟩)
      go_roundw
      case rel => exact ⟨k + 1, by omega, by rw [← HD.out], by go_num, hr2, grown_trans hb hb2⟩
      case measure => simp [intOf]; omega
    · have hkk : k = c := by omega
      subst hkk
      go_wp2
      go_ret
      exact ⟨rfl, hr, hb⟩

theorem get_not (w : World) (rb : Nat) (bs : List Nat) (pos : Nat) (bad : Bool) (c : Int) (h : Rd 79 w rb bs pos bad) (hn : ¬ Has bs pos bad c) :
    Calls Tryd.prog 62 #[.pointer (some ⟨rb, 0, none⟩), .int .i64 c] w fun e w' => e = .returned (.int .i64 0) ∧ Rd 79 w' rb bs pos true ∧ w.grownBy w' (some rb) := by
  have hleft : Hid (Calls Tryd.prog 68 #[.pointer (some ⟨rb, 0, none⟩)] w fun e w' => e = .returned (.int .i64 (8 * (bs.length : Int) - pos)) ∧ ∃ k, w' = w.drewN k) := left_walk w rb bs pos bad h
  obtain ⟨c2, z2⟩ : w.cell? ⟨rb, 2, none⟩ = some (.bool bad) ∧ w.frozen? ⟨rb, 2, none⟩ = false := by obtain ⟨⟨v, hp, _⟩, _⟩ := h; exact ⟨cell3_2 hp, free_at hp 2⟩
  by_cases hm : 0 ≤ c ∧ c ≤ 16
  · have hmay : Hid (∀ w, Calls Tryd.prog 52 #[.int .i64 c] w fun e w' => e = .returned (.bool true) ∧ w' = w) := fun w => (may_walk c w).mono fun e w' ⟨h1, h2⟩ => ⟨by rw [h1]; simp only [hm, and_self, decide_true], h2⟩
    by_cases hgt : 8 * (bs.length : Int) - pos < c
    · go_enter Tryd.func62, Tryd.ntmps62
      go_wp2_with (first
        | (go_at_call 52; (with_reducible refine (hmay.out _).mono ?_); rintro e w' ⟨rfl, hx⟩; have hx := hx.symm; subst hx)
        | (go_at_call 68; (with_reducible refine hleft.out.mono ?_); rintro e w' ⟨rfl, q, hx⟩; have hx := hx.symm; subst hx))
      go_ret
      exact ⟨rfl, (h.drewN q).set2 (by decide) true, grown_trans (grown_drewN w q _) (grown_set _ _ _ _)⟩
    · obtain rfl : bad = true := by
        cases bad with
        | true => rfl
        | false => exact absurd ⟨rfl, hm.1, hm.2, by omega⟩ hn
      go_enter Tryd.func62, Tryd.ntmps62
      go_wp2_with (first
        | (go_at_call 52; (with_reducible refine (hmay.out _).mono ?_); rintro e w' ⟨rfl, hx⟩; have hx := hx.symm; subst hx)
        | (go_at_call 68; (with_reducible refine hleft.out.mono ?_); rintro e w' ⟨rfl, q, hx⟩; have hx := hx.symm; subst hx))
      go_ret
      exact ⟨rfl, h.drewN q, grown_drewN w q _⟩
  · have hmay := may_not c hm
    go_enter Tryd.func62, Tryd.ntmps62
    go_wp2_with (first
      | (go_at_call 52; (with_reducible refine (hmay.out _).mono ?_); rintro e w' ⟨rfl, hx⟩; have hx := hx.symm; subst hx))
    go_ret
    exact ⟨rfl, h.set2 (by decide) true, grown_set _ _ _ _⟩

theorem bit_has (w : World) (rb : Nat) (bs : List Nat) (pos : Nat) (h : Rd 79 w rb bs pos false) (hl : pos + 1 ≤ 8 * bs.length) :
    Calls Tryd.prog 87 #[.pointer (some ⟨rb, 0, none⟩)] w fun e w' => e = .returned (.int .i64 ((val bs / 2 ^ pos % 2 : Nat) : Int)) ∧ Rd 79 w' rb bs (pos + 1) false ∧ w.grownBy w' (some rb) := by
  have hg : Hid (Calls Tryd.prog 62 #[.pointer (some ⟨rb, 0, none⟩), .int .i64 1] w fun e w' => e = .returned (.int .i64 ((val bs / 2 ^ pos % 2 : Nat) : Int)) ∧ Rd 79 w' rb bs (pos + 1) false ∧ w.grownBy w' (some rb)) := get_has w rb bs pos 1 h (by decide) hl
  go_enter Tryd.func87, Tryd.ntmps87
  go_wp2_with (go_at_call 62; (with_reducible refine hg.out.mono ?_); rintro e w' ⟨rfl, h1, h2⟩)
  go_ret
  exact ⟨rfl, h1, h2⟩

theorem bit_not (w : World) (rb : Nat) (bs : List Nat) (pos : Nat) (bad : Bool) (h : Rd 79 w rb bs pos bad) (hn : ¬ Has bs pos bad 1) :
    Calls Tryd.prog 87 #[.pointer (some ⟨rb, 0, none⟩)] w fun e w' => e = .returned (.int .i64 0) ∧ Rd 79 w' rb bs pos true ∧ w.grownBy w' (some rb) := by
  have hg : Hid (Calls Tryd.prog 62 #[.pointer (some ⟨rb, 0, none⟩), .int .i64 1] w fun e w' => e = .returned (.int .i64 0) ∧ Rd 79 w' rb bs pos true ∧ w.grownBy w' (some rb)) := get_not w rb bs pos bad 1 h hn
  go_enter Tryd.func87, Tryd.ntmps87
  go_wp2_with (go_at_call 62; (with_reducible refine hg.out.mono ?_); rintro e w' ⟨rfl, h1, h2⟩)
  go_ret
  exact ⟨rfl, h1, h2⟩

theorem owns_base {w : World} {B B' : Nat} {v : Value} {n : Nat} {xs : List Value} (h : w.ownsRow B 5 1 v n xs) (hB : B' ≤ B) : w.ownsRow B' 5 1 v n xs := by
  refine ⟨h.1, ?_⟩
  rcases h.2 with h2 | ⟨g, cap, cur, rfl, hb, r⟩
  · exact .inl h2
  · exact .inr ⟨g, cap, cur, rfl, Nat.le_trans hB hb, r⟩

theorem reader_walk (w : World) (v : Value) (bs : List Nat) (hv : Lies w v bs) (hs : Small bs) (hl : bs.length ≤ 140737488355328) :
    Calls Tryd.prog 30 #[v] w fun e w' => ∃ rb, e = .returned (.pointer (some ⟨rb, 0, none⟩)) ∧ Rd 79 w' rb bs 0 false ∧ w.heap.size ≤ rb ∧ Below w.heap.size w w' := by
  have hc : Hid (Calls Tryd.prog 45 #[v] w fun e w' => ∃ v', e = .returned v' ∧ w'.ownsRow w.heap.size 5 1 v' bs.length (bs.map byteV) ∧ Below w.heap.size w w') := clone_walk w v bs hv hl
  go_enter Tryd.func30, Tryd.ntmps30
  go_wp2_with (go_at_call 45; (with_reducible refine hc.out.mono ?_); rintro e w1 ⟨v1, rfl, ho, hb⟩; obtain ⟨ao, cp, rfl, -, -, -⟩ := lies_own ho)
  go_ret
  exact ⟨w1.heap.size, rfl, ⟨⟨_, heap_alloc_new w1 _, (owns_base ho (Nat.zero_le _)).alloc _⟩, hs, Nat.zero_le _, hl⟩, hb.size, hb.alloc hb.size _⟩

end Go.Proofs.YtdokpimhhkbdbaaDoor
