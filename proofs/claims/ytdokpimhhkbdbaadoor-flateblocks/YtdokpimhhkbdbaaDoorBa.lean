/-
  Plain mathematics of bytes as one number: 'val', its digits; the digits of an integer from below and from above. Walks of the small functions: digitOf, countMayBe, Within; int's and byte's bit operations in plain numbers. The writer: 'Wr', what its memory holds; NewWriter, add. The writer's Put, Code, Align. Slices of bytes that can be read ('Lies'), Same, Clone, Bytes, wakes. Slices of bytes and of whole numbers that came in, opened; within the form's own reach.
-/
import Derived.WalkKit
import Derived.Test.YtdokpimhhkbdbaaDoorRows
import Derived.WalkSpells
import Derived.WalkLawsBesides
import Derived.Laws.BitsAllLaws
import Derived.Laws.Bits128
import Derived.BigRegion
import Derived.BigQuiet
import Derived.Laws.AppendOwnNone
import Derived.ProofKit
import Derived.OpenShut
import Derived.SizedLaws
set_option linter.unusedSimpArgs false
set_option linter.unusedVariables false
namespace Go.Proofs.YtdokpimhhkbdbaaDoor

/-- The number that bytes are, the lowest byte first. -/
def val : List Nat → Nat
  | [] => 0
  | b :: r => b + 256 * val r

def Small (bs : List Nat) : Prop := ∀ b ∈ bs, b < 256

theorem Small.cons {b : Nat} {r : List Nat} (h : Small (b :: r)) : b < 256 ∧ Small r :=
  ⟨h b (by simp), fun x hx => h x (by simp [hx])⟩

theorem pow8 (n : Nat) : 2 ^ (8 * (n + 1)) = 256 * 2 ^ (8 * n) := by
  rw [Nat.mul_add, Nat.pow_add]; omega

theorem val_lt {bs : List Nat} (h : Small bs) : val bs < 2 ^ (8 * bs.length) := by
  induction bs with
  | nil => simp [val]
  | cons b r ih =>
    have h2 := ih h.cons.2
    have h1 := h.cons.1
    simp only [val, List.length_cons, pow8]
    omega

theorem val_append (a b : List Nat) : val (a ++ b) = val a + 2 ^ (8 * a.length) * val b := by
  induction a with
  | nil => simp [val]
  | cons x r ih =>
    have e : 256 * (2 ^ (8 * r.length) * val b) = 256 * 2 ^ (8 * r.length) * val b := (Nat.mul_assoc _ _ _).symm
    simp only [List.cons_append, val, ih, List.length_cons, pow8]
    omega

theorem val_byte {bs : List Nat} (h : Small bs) (i : Nat) : val bs / 2 ^ (8 * i) % 256 = bs.getD i 0 := by
  induction bs generalizing i with
  | nil => simp [val]
  | cons b r ih =>
    have h1 := h.cons.1
    cases i with
    | zero => simp [val]; omega
    | succ i =>
      rw [pow8, ← Nat.div_div_eq_div_mul]
      have : val (b :: r) / 256 = val r := by simp only [val]; omega
      rw [this, ih h.cons.2]
      simp

theorem mod_div_pow (x a b : Nat) (hab : a ≤ b) : x % 2 ^ b / 2 ^ a = x / 2 ^ a % 2 ^ (b - a) := by
  obtain ⟨c, rfl⟩ : ∃ c, b = a + c := ⟨b - a, by omega⟩
  rw [Nat.add_sub_cancel_left, Nat.pow_add, Nat.mod_mul_right_div_self]

theorem val_bit {bs : List Nat} (h : Small bs) (i : Nat) : val bs / 2 ^ i % 2 = bs.getD (i / 8) 0 / 2 ^ (i % 8) % 2 := by
  rw [← val_byte h]
  have e : i = 8 * (i / 8) + i % 8 := by omega
  have hlt : i % 8 < 8 := Nat.mod_lt _ (by omega)
  generalize hq : i / 8 = q at *
  generalize hr : i % 8 = r at *
  rw [show (256 : Nat) = 2 ^ 8 from rfl, mod_div_pow _ _ _ (by omega), Nat.div_div_eq_div_mul, ← Nat.pow_add, ← e]
  rw [Nat.mod_mod_of_dvd]
  exact ⟨2 ^ (8 - r - 1), by rw [← Nat.pow_succ']; congr 1; omega⟩

/-- The digit of an integer at a place (two's complement). -/
def dig (n : Int) (k : Nat) : Nat := (n / 2 ^ k % 2).toNat
/-- Its lowest k digits. -/
def low (n : Int) (k : Nat) : Nat := (n % 2 ^ k).toNat

theorem dig_lt (n : Int) (k : Nat) : dig n k < 2 := by unfold dig; omega

theorem low_zero (n : Int) : low n 0 = 0 := by simp [low, Int.emod_one]

theorem ipow_pos (k : Nat) : (0 : Int) < 2 ^ k := Int.pow_pos (by decide)

theorem low_cast (n : Int) (k : Nat) : (low n k : Int) = n % 2 ^ k := by
  unfold low
  exact Int.toNat_of_nonneg (Int.emod_nonneg _ (by have := ipow_pos k; omega))

theorem dig_cast (n : Int) (k : Nat) : (dig n k : Int) = n / 2 ^ k % 2 := by unfold dig; omega

theorem low_lt (n : Int) (k : Nat) : low n k < 2 ^ k := by
  have h := Int.emod_lt_of_pos n (ipow_pos k)
  rw [← low_cast] at h
  have e : ((2 ^ k : Nat) : Int) = 2 ^ k := by simp
  rw [← e] at h
  exact_mod_cast h

theorem low_succ (n : Int) (k : Nat) : low n (k + 1) = low n k + dig n k * 2 ^ k := by
  have h : ((low n (k + 1) : Nat) : Int) = ((low n k + dig n k * 2 ^ k : Nat) : Int) := by
    rw [low_cast]
    push_cast
    rw [low_cast, dig_cast, Int.pow_succ]
    have h1 := Int.emod_add_mul_ediv n (2 ^ k)
    have h2 := Int.emod_add_mul_ediv (n / 2 ^ k) 2
    have h3 : n / 2 ^ k / 2 = n / (2 ^ k * 2) := Int.ediv_ediv_of_nonneg (by have := ipow_pos k; omega)
    have h4 := Int.emod_add_mul_ediv n (2 ^ k * 2)
    rw [h3] at h2
    generalize n / (2 ^ k * 2) = q at *
    generalize n / 2 ^ k = p at *
    generalize (2 : Int) ^ k = P at *
    have : P * p = P * (p % 2) + P * 2 * q := by rw [Int.mul_assoc, ← Int.mul_add, h2]
    have e : p % 2 * P = P * (p % 2) := Int.mul_comm _ _
    omega
  exact_mod_cast h

/-- What is written of the digits of n, the highest of c first, behind j of them. -/
def rev (n : Int) (c : Nat) : Nat → Nat
  | 0 => 0
  | j + 1 => rev n c j + dig n (c - 1 - j) * 2 ^ j

theorem rev_lt (n : Int) (c j : Nat) : rev n c j < 2 ^ j := by
  induction j with
  | zero => simp [rev]
  | succ j ih =>
    simp only [rev, Nat.pow_succ]
    have := dig_lt n (c - 1 - j)
    rcases (show dig n (c - 1 - j) = 0 ∨ dig n (c - 1 - j) = 1 by omega) with h | h <;> rw [h] <;> omega

theorem rev_bit (n : Int) (c j k : Nat) (hk : k < j) : rev n c j / 2 ^ k % 2 = dig n (c - 1 - k) := by
  induction j with
  | zero => omega
  | succ j ih =>
    simp only [rev]
    by_cases h : k = j
    · subst h
      have h1 := rev_lt n c k
      have h2 := dig_lt n (c - 1 - k)
      have hp : 0 < 2 ^ k := Nat.pow_pos (by decide)
      rw [Nat.add_mul_div_right _ _ hp, Nat.div_eq_of_lt h1]
      omega
    · have e : dig n (c - 1 - j) * 2 ^ j = 2 ^ k * (2 * (dig n (c - 1 - j) * 2 ^ (j - k - 1))) := by
        have : 2 ^ j = 2 ^ k * (2 * 2 ^ (j - k - 1)) := by
          rw [← Nat.pow_succ', ← Nat.pow_add]; congr 1; omega
        rw [this]
        simp only [Nat.mul_left_comm, Nat.mul_comm, Nat.mul_assoc]
      have hp : 0 < 2 ^ k := Nat.pow_pos (by decide)
      rw [e, Nat.add_mul_div_left _ _ hp, ← ih (by omega)]
      omega

theorem dig_low (n : Int) (c k : Nat) (hk : k < c) : low n c / 2 ^ k % 2 = dig n k := by
  induction c with
  | zero => omega
  | succ c ih =>
    rw [low_succ]
    by_cases h : k = c
    · subst h
      have h1 := low_lt n k
      have h2 := dig_lt n k
      have hp : 0 < 2 ^ k := Nat.pow_pos (by decide)
      rw [Nat.add_mul_div_right _ _ hp, Nat.div_eq_of_lt h1]
      omega
    · have e : dig n c * 2 ^ c = 2 ^ k * (2 * (dig n c * 2 ^ (c - k - 1))) := by
        have : 2 ^ c = 2 ^ k * (2 * 2 ^ (c - k - 1)) := by
          rw [← Nat.pow_succ', ← Nat.pow_add]; congr 1; omega
        rw [this]
        simp only [Nat.mul_left_comm, Nat.mul_comm, Nat.mul_assoc]
      have hp : 0 < 2 ^ k := Nat.pow_pos (by decide)
      rw [e, Nat.add_mul_div_left _ _ hp, ← ih (by omega)]
      omega

end Go.Proofs.YtdokpimhhkbdbaaDoor

set_option linter.unusedSimpArgs false
set_option linter.unusedVariables false
namespace Go.Proofs.YtdokpimhhkbdbaaDoor
open Go.RowKit

theorem i64_and1 (n : Int) : bits .and .i64 n 1 = n % 2 := by
  have h1 : (BitVec.ofInt 64 1).toNat = 2 ^ 1 - 1 := by decide
  have key : (BitVec.ofInt 64 n &&& BitVec.ofInt 64 1).toNat = (n % ((2 ^ 64 : Nat) : Int)).toNat % 2 ^ 1 := by
    rw [BitVec.toNat_and, BitVec.toNat_ofInt, h1, Nat.and_two_pow_sub_one_eq_mod]
  show IntKind.i64.wrap ((BitVec.ofInt 64 n &&& BitVec.ofInt 64 1).toNat : Nat) = n % 2
  rw [key, IntKind.wrap_i64]
  omega

theorem i64_or_nat (a b : Nat) (ha : a < 4294967296) (hb : b < 4294967296) : bits .or .i64 (a : Int) (b : Int) = ((a ||| b : Nat) : Int) := by
  have hx : a ||| b < 2 ^ 32 := Nat.or_lt_two_pow (by omega) (by omega)
  show IntKind.i64.wrap ((BitVec.ofInt 64 (a : Int) ||| BitVec.ofInt 64 (b : Int)).toNat : Int) = _
  rw [BitVec.toNat_or, ofInt_u64 a (by omega), ofInt_u64 b (by omega), IntKind.wrap_i64]
  omega

theorem u8_and1 (a : Nat) (ha : a < 256) : bits .and .u8 (a : Int) 1 = ((a % 2 : Nat) : Int) := by
  have := u8_and_nat a 1 ha (by decide)
  rw [nat_mask1] at this
  exact this

theorem ret_bool {a b : Bool} (h : a = b) : Ending.returned (.bool a) = .returned (.bool b) := by rw [h]
theorem ret_int {k : IntKind} {a b : Int} (h : a = b) : Ending.returned (.int k a) = .returned (.int k b) := by rw [h]

theorem digit_walk (n : Int) (k : Nat) (hk : k < 16) (w : World) :
    Calls Tryd.prog 54 #[.int .i64 n, .int .i64 k] w fun e w' => e = .returned (.int .u8 (dig n k)) ∧ w' = w := by
  go_enter Tryd.func54, Tryd.ntmps54
  go_wp2
  go_ret
  refine ⟨ret_int ?_, rfl⟩
  rw [i64_and1, dig_cast]
  omega

theorem may_walk (c : Int) (w : World) :
    Calls Tryd.prog 52 #[.int .i64 c] w fun e w' => e = .returned (.bool (decide (0 ≤ c ∧ c ≤ 16))) ∧ w' = w := by
  by_cases h0 : 0 ≤ c
  · go_enter Tryd.func52, Tryd.ntmps52
    go_wp2
    go_ret
    exact ⟨ret_bool (by simp [h0]), rfl⟩
  · go_enter Tryd.func52, Tryd.ntmps52
    go_wp2
    go_ret
    exact ⟨ret_bool (by have : ¬ 0 ≤ c := by omega
                        simp [this]), rfl⟩

theorem within_walk (v n : Int) (hn : 0 < n) (hn2 : n < 4294967296) (w : World) :
    Calls Tryd.prog 9 #[.int .i64 v, .int .i64 n] w fun e w' => e = .returned (.int .i64 (v % n)) ∧ w' = w := by
  have h1 : ¬ n < 1 := by omega
  have ht : v.tmod n = v % n ∨ (v.tmod n = v % n - n ∧ v.tmod n < 0) := by
    rw [Int.tmod_eq_emod]
    have := Int.emod_nonneg v (show n ≠ 0 by omega)
    have h2 := Int.emod_lt_of_pos v hn
    split
    · left; omega
    · right
      have : (n.natAbs : Int) = n := by omega
      rw [this]
      omega
  have h3 := Int.emod_nonneg v (show n ≠ 0 by omega)
  have h4 := Int.emod_lt_of_pos v hn
  by_cases hk : v.tmod n < 0
  · go_enter Tryd.func9, Tryd.ntmps9
    go_wp2
    go_ret
    refine ⟨ret_int ?_, rfl⟩
    omega
  · go_enter Tryd.func9, Tryd.ntmps9
    go_wp2
    go_ret
    refine ⟨ret_int ?_, rfl⟩
    omega
end Go.Proofs.YtdokpimhhkbdbaaDoor

set_option linter.unusedSimpArgs false
set_option linter.unusedVariables false
namespace Go.Proofs.YtdokpimhhkbdbaaDoor
open Go.RowKit

def byteV (b : Nat) : Value := .int .u8 (b : Int)

theorem cell2_0 {w : World} {b : Nat} {v u : Value} {t : TypeId} (h : w.heap[b]? = some (.cells #[v, u] t (0, 0))) : w.cell? ⟨b, 0, none⟩ = some v := by simp [World.cell?, h]
theorem cell2_1 {w : World} {b : Nat} {v u : Value} {t : TypeId} (h : w.heap[b]? = some (.cells #[v, u] t (0, 0))) : w.cell? ⟨b, 1, none⟩ = some u := by simp [World.cell?, h]
theorem free_at {w : World} {b : Nat} {c : Array Value} {t : TypeId} (h : w.heap[b]? = some (.cells c t (0, 0))) (o : Nat) : w.frozen? ⟨b, o, none⟩ = false := by simp [World.frozen?, h]

theorem row_setCell {w : World} {b : Nat} {c : Array Value} {t : TypeId} (h : w.heap[b]? = some (.cells c t (0, 0))) (o : Nat) (u : Value) :
    (w.setCell ⟨b, o, none⟩ u).heap[b]? = some (.cells (c.setIfInBounds o u) t (0, 0)) := heap_setCell_same w b o c t u h

theorem owns_ne {w : World} {B p n : Nat} {v : Value} {xs : List Value} {c : Array Value} {t : TypeId} (h : w.ownsRow B 5 1 v n xs) (hp : w.heap[p]? = some (.cells c t (0, 0))) (ht : t ≠ 5) : v.ownBlock ≠ some p := by
  rcases h.2 with ⟨rfl, _⟩ | ⟨g, cap, cur, rfl, _, hg, _⟩
  · simp [Value.ownBlock]
  · simp only [Value.ownBlock, ne_eq, Option.some.injEq]
    rintro rfl
    rw [hg] at hp
    simp at hp
    exact ht hp.2.symm

/-- The writer at block p: of t digits, which are the number N; all of its memory lies from block B on. -/
def Wr (B p : Nat) (w : World) (N t : Nat) : Prop :=
  ∃ v bs, w.heap[p]? = some (.cells #[v, .int .i64 (((8 - t % 8) % 8 : Nat) : Int)] 84 (0, 0)) ∧ w.ownsRow B 5 1 v bs.length (bs.map byteV) ∧ Small bs ∧ val bs = N ∧ bs.length = (t + 7) / 8 ∧ N < 2 ^ t ∧ B ≤ p

theorem Tryd.info5 : (Tryd.prog.info? 5).map (fun i => (i.zero, i.size, i.bytes)) = some (some (.int .u8 0), 1, 1) := by kernel_rfl
theorem Tryd.underlying25 : Tryd.prog.underlying 22 = some (.slice 5) := by kernel_rfl

theorem new_walk (w : World) :
    Calls Tryd.prog 38 #[] w fun e w' => e = .returned (.pointer (some ⟨w.heap.size, 0, none⟩)) ∧ w' = w.alloc (.cells #[.slice none 0 0, .int .i64 0] 84) := by
  go_enter Tryd.func38, Tryd.ntmps38
  go_wp2
  go_ret
  exact ⟨rfl, rfl⟩

theorem wr_new (w : World) (B : Nat) (hB : B ≤ w.heap.size) : Wr B w.heap.size (w.alloc (.cells #[.slice none 0 0, .int .i64 0] 84)) 0 0 :=
  ⟨.slice none 0 0, [], heap_alloc_new w _, World.ownsRow_nil _ _ _ _, by simp [Small], rfl, rfl, by decide, hB⟩

/-- The last byte with one digit more. -/
theorem val_last {bs : List Nat} (h : Small bs) (t d : Nat) (hd : d < 2) (hl : bs.length = t / 8 + 1) (hv : val bs < 2 ^ t) :
    bs.getD (t / 8) 0 < 2 ^ (t % 8) ∧ (bs.getD (t / 8) 0 ||| d * 2 ^ (t % 8)) = bs.getD (t / 8) 0 + d * 2 ^ (t % 8) ∧
    bs.getD (t / 8) 0 + d * 2 ^ (t % 8) < 256 ∧ val (bs.set (t / 8) (bs.getD (t / 8) 0 + d * 2 ^ (t % 8))) = val bs + d * 2 ^ t := by
  have e : 2 ^ t = 2 ^ (8 * (t / 8)) * 2 ^ (t % 8) := by rw [← Nat.pow_add]; congr 1; omega
  have hm : t % 8 < 8 := Nat.mod_lt _ (by decide)
  generalize t / 8 = q at *
  generalize t % 8 = s at *
  have hx : bs.getD q 0 < 2 ^ s := by
    rw [← val_byte h, Nat.mod_eq_of_lt]
    · rw [Nat.div_lt_iff_lt_mul (Nat.pow_pos (by decide)), Nat.mul_comm, ← e]; exact hv
    · rw [Nat.div_lt_iff_lt_mul (Nat.pow_pos (by decide)), Nat.mul_comm]
      have := val_lt h
      rw [hl, pow8, Nat.mul_comm] at this
      exact this
  have hp : 2 ^ s * 2 ≤ 256 := by
    rw [← Nat.pow_succ]
    exact Nat.pow_le_pow_right (by decide) (by omega : s + 1 ≤ 8)
  have hdp : d * 2 ^ s ≤ 2 ^ s := by
    rcases (show d = 0 ∨ d = 1 by omega) with rfl | rfl <;> omega
  refine ⟨hx, ?_, by omega, ?_⟩
  · rw [Nat.or_comm, nat_join s _ _ (by simp) hx]; omega
  · obtain ⟨a, x, rfl⟩ : ∃ a x, bs = a ++ [x] := by
      rcases List.eq_nil_or_concat bs with rfl | ⟨a, x, rfl⟩
      · simp at hl
      · exact ⟨a, x, by simp⟩
    have ha : a.length = q := by simpa using hl
    subst ha
    rw [e]
    simp [val_append, val, Nat.mul_add, Nat.add_mul, Nat.add_assoc, Nat.mul_left_comm, Nat.mul_comm, Nat.mul_assoc]

set_option maxHeartbeats 1000000 in
theorem add_begun (p g cap n : Nat) (f d x : Int) (w : World) (hn : 0 < n) (hnc : n ≤ cap) (hc : cap ≤ 9223372036854775807) (hf : 0 < f) (hf2 : f ≤ 8) (hd : 0 ≤ d) (hd2 : d < 2) (hpg : p ≠ g)
    (h0 : w.cell? ⟨p, 0, none⟩ = some (.slice (some ⟨g, 0, none⟩) n cap)) (h1 : w.cell? ⟨p, 1, none⟩ = some (.int .i64 f)) (hz : w.frozen? ⟨p, 1, none⟩ = false)
    (hx : w.cell? ⟨g, n - 1, none⟩ = some (.int .u8 x)) (hxz : w.frozen? ⟨g, n - 1, none⟩ = false) :
    Calls Tryd.prog 53 #[.pointer (some ⟨p, 0, none⟩), .int .u8 d] w fun e w' => e = .returned (.tuple #[]) ∧
      w' = ((w.setCell ⟨g, n - 1, none⟩ (.int .u8 (bits .or .u8 x (d * 2 ^ (8 - f).toNat % 256)))).setCell ⟨p, 1, none⟩ (.int .i64 (f - 1))).drew := by
  have hf0 : (f == 0) = false := by simp; omega
  have ht : ((n - 1 : Nat) : Int) = (n : Int) - 1 := by omega
  have hix : 0 ≤ (n : Int) - 1 ∧ (n : Int) - 1 < n := by omega
  have htn : ((n : Int) - 1).toNat = n - 1 := by omega
  have hsh : 0 ≤ 8 - f := by omega
  go_enter Tryd.func53, Tryd.ntmps53
  go_wp2
  go_region
  all_goals go_wp2
  all_goals go_end0
  all_goals exact ⟨rfl, rfl⟩

set_option maxRecDepth 100000 in
set_option maxHeartbeats 1000000 in
theorem add_new (B p n : Nat) (d : Int) (v : Value) (xs : List Value) (w : World) (hn : n < 1000000) (hd : 0 ≤ d) (hd2 : d < 2) (hB : B ≤ p) (hp : w.heap[p]? = some (.cells #[v, .int .i64 0] 84 (0, 0)))
    (hown : w.ownsRow B 5 1 v n xs) :
    Calls Tryd.prog 53 #[.pointer (some ⟨p, 0, none⟩), .int .u8 d] w fun e w' => e = .returned (.tuple #[]) ∧
      (∃ v', w'.heap[p]? = some (.cells #[v', .int .i64 7] 84 (0, 0)) ∧ w'.ownsRow B 5 1 v' (n + 1) (xs ++ [.int .u8 (bits .or .u8 0 d)])) ∧ Below B w w' := by
  obtain ⟨i, hi, hz0, hz1, hz2⟩ := info_parts Tryd.info5
  have hpl := lt_of_block hp
  have h0 := cell2_0 hp
  have h1 := cell2_1 hp
  have hz := free_at hp
  have hz0' := hz 0
  have hz1' := hz 1
  clear hz
  go_enter Tryd.func53, Tryd.ntmps53
  go_wp2_with (at_builtin; refine wpList_append_own _ rfl (.tmp 13) (.tmp 14) 22 rfl B 5 i (.int .u8 0) 1 1 Tryd.underlying25 hi hz0 hz1 hz2 rfl (by decide) v n _ rfl (hown.alloc _) ⟨w.heap.size, 0, none⟩ 1 1 [.int .u8 0] rfl rfl ?c1 ?c2 (by unfold maxLen; omega) (by omega) (by simp; omega) ?_)
  case c1 =>
    intro j u hj
    match j, hj with
    | 0, hj => simp at hj; subst hj; simp [Addr.add]
  case c2 => intro u hu; simp at hu; subst hu; rfl
  intro v' w1 hown' hgrow _
  have hex : ∃ g' cap', v' = .slice (some ⟨g', 0, none⟩) (n + 1) cap' ∧ n + 1 ≤ cap' ∧ cap' ≤ maxLen := by
    obtain ⟨_, hcase⟩ := hown'
    rcases hcase with ⟨_, h0⟩ | ⟨g', cap', cur', h, _, _, h3, h4, _⟩
    · omega
    · exact ⟨g', cap', h, h3, h4⟩
  obtain ⟨g, cap, rfl, hnc, hcm⟩ := hex
  have hne : some p ≠ v.ownBlock := fun h => owns_ne hown hp (by decide) h.symm
  have hp1 : w1.heap[p]? = some (.cells #[v, .int .i64 0] 84 (0, 0)) := by
    rw [hgrow.block p (by simp; omega) hne]
    exact (Below.heap_alloc _ _ _ hpl).trans hp
  have hbel : Below B w w1 := ((Below.refl B w).alloc (by omega) _).grown hgrow (by simp; omega) (fun k hk => (hown.lt k hk).1)
  clear hgrow h0 h1 hz0' hz1' hne
  have hgp : p ≠ g := fun h => owns_ne hown' hp1 (by decide) (by simp [Value.ownBlock, h])
  have h0 := cell2_0 hp1
  have h1 := cell2_1 hp1
  have hz := free_at hp1
  have hz0' := hz 0
  have hz1' := hz 1
  clear hz
  have hx : w1.cell? ⟨g, n, none⟩ = some (.int .u8 0) := by
    rw [hown'.cellAt n (by omega)]
    have := hown.1
    simp at this
    rw [← this]
    simp
  have hxz := hown'.frozenAt n
  unfold maxLen at hcm
  have hix : 0 ≤ (n : Int) ∧ (n : Int) < n + 1 := by omega
  go_wp2
  go_region
  all_goals go_wp2
  all_goals go_end0
  refine ⟨rfl, ⟨.slice (some ⟨g, 0, none⟩) (n + 1) cap, ?_, ?_⟩, ?_⟩
  · have e1 := row_setCell hp1 0 (.slice (some ⟨g, 0, none⟩) (n + 1) cap)
    have e2 := row_setCell e1 1 (.int .i64 8)
    have e3 := (Below.heap_setCell _ ⟨g, n, none⟩ (.int .u8 (bits .or .u8 0 d)) p hgp).trans e2
    have e4 := row_setCell e3 1 (.int .i64 7)
    exact e4
  · have o1 := ownsRow_setCell_other hown' (a := ⟨p, 0, none⟩) (fun h => hgp (by simpa [Value.ownBlock] using h.symm)) (.slice (some ⟨g, 0, none⟩) (n + 1) cap)
    have o2 := ownsRow_setCell_other o1 (a := ⟨p, 1, none⟩) (fun h => hgp (by simpa [Value.ownBlock] using h.symm)) (.int .i64 8)
    have o3 := (o2.stored n (.int .u8 (bits .or .u8 0 d))).1
    have o4 := ownsRow_setCell_other o3 (a := ⟨p, 1, none⟩) (fun h => hgp (by simpa [Value.ownBlock] using h.symm)) (.int .i64 7)
    have hl := hown.1
    simp at hl
    have e : (xs ++ [Value.int .u8 0]).set n (.int .u8 (bits .or .u8 0 d)) = xs ++ [.int .u8 (bits .or .u8 0 d)] := by
      rw [← hl]; simp
    rw [e] at o4
    exact o4.drew
  · have hg : B ≤ g := (hown'.lt g rfl).1
    exact ((((hbel.setCell (p := ⟨p, 0, none⟩) hB _).setCell (p := ⟨p, 1, none⟩) hB _).setCell (p := ⟨g, n, none⟩) hg _).setCell (p := ⟨p, 1, none⟩) hB _).drew

theorem map_set_byte (bs : List Nat) (k y : Nat) : (bs.map byteV).set k (.int .u8 (y : Int)) = (bs.set k y).map byteV := by
  rw [List.map_set]; rfl

theorem small_set {bs : List Nat} (h : Small bs) (k y : Nat) (hy : y < 256) : Small (bs.set k y) := by
  intro b hb
  rcases List.mem_or_eq_of_mem_set hb with h1 | h1
  · exact h b h1
  · omega

theorem add_walk (B p : Nat) (w : World) (N t d : Nat) (h : Wr B p w N t) (hd : d < 2) (ht : t < 1000000) :
    Calls Tryd.prog 53 #[.pointer (some ⟨p, 0, none⟩), .int .u8 (d : Int)] w fun e w' => e = .returned (.tuple #[]) ∧ Wr B p w' (N + d * 2 ^ t) (t + 1) ∧ Below B w w' := by
  obtain ⟨v, bs, hp, hown, hsm, hval, hlen, hN, hB⟩ := h
  have hNt : N + d * 2 ^ t < 2 ^ (t + 1) := by
    rw [Nat.pow_succ]
    rcases (show d = 0 ∨ d = 1 by omega) with rfl | rfl <;> omega
  by_cases h8 : t % 8 = 0
  · have hf : ((8 - t % 8) % 8 : Nat) = 0 := by omega
    rw [hf] at hp
    refine (add_new B p bs.length d v _ w (by omega) (by omega) (by omega) hB hp hown).mono ?_
    rintro e w' ⟨rfl, ⟨v', hp', hown'⟩, hbel⟩
    have hbit : bits .or .u8 0 (d : Int) = (d : Int) := by
      have := u8_or_nat 0 d (by decide) (by omega)
      simpa using this
    rw [hbit] at hown'
    refine ⟨rfl, ⟨v', bs ++ [d], ?_, ?_, ?_, ?_, ?_, hNt, hB⟩, hbel⟩
    · rw [hp']
      have : (8 - (t + 1) % 8) % 8 = 7 := by omega
      rw [this]; rfl
    · rw [List.length_append, List.map_append]
      exact hown'
    · intro b hb
      rcases List.mem_append.1 hb with h1 | h1
      · exact hsm b h1
      · simp at h1; omega
    · rw [val_append, hval]
      have : 8 * bs.length = t := by omega
      rw [this]
      simp [val, Nat.mul_comm]
    · simp; omega
  · have hl : bs.length = t / 8 + 1 := by omega
    have hV := val_last hsm t d hd hl (by rw [hval]; exact hN)
    obtain ⟨hv1, hv2, hv3, hv4⟩ := hV
    have hown0 := hown
    obtain ⟨hlx, hcase⟩ := hown
    rcases hcase with ⟨_, h0⟩ | ⟨g, cap, cur, rfl, hg, hh, hn, hcap, hsz, htake⟩
    · omega
    have hpg : p ≠ g := fun h => owns_ne hown0 hp (by decide) (by simp [Value.ownBlock, h])
    have e1 : bs.length - 1 = t / 8 := by omega
    have hx : w.cell? ⟨g, bs.length - 1, none⟩ = some (.int .u8 ((bs.getD (t / 8) 0 : Nat) : Int)) := by
      rw [hown0.cellAt _ (by omega), e1]
      have : t / 8 < bs.length := by omega
      simp [this, byteV]
    unfold maxLen at hcap
    refine (add_begun p g cap bs.length _ d _ w (by omega) hn (by omega) (by omega) (by omega) (by omega) (by omega) hpg (cell2_0 hp) (cell2_1 hp) (free_at hp 1) hx (hown0.frozenAt _)).mono ?_
    rintro e w' ⟨rfl, rfl⟩
    have hsh : ((8 : Int) - (((8 - t % 8) % 8 : Nat) : Int)).toNat = t % 8 := by omega
    have hbit : bits .or .u8 ((bs.getD (t / 8) 0 : Nat) : Int) ((d : Int) * 2 ^ ((8 : Int) - (((8 - t % 8) % 8 : Nat) : Int)).toNat % 256) = ((bs.getD (t / 8) 0 + d * 2 ^ (t % 8) : Nat) : Int) := by
      rw [hsh, ← hv2]
      have e : (d : Int) * 2 ^ (t % 8) % 256 = ((d * 2 ^ (t % 8) : Nat) : Int) := by
        have h1 : d * 2 ^ (t % 8) < 256 := by omega
        have h2 : ((d * 2 ^ (t % 8) : Nat) : Int) = (d : Int) * 2 ^ (t % 8) := by push_cast; rfl
        omega
      rw [e]
      exact u8_or_nat _ _ (by omega) (by omega)
    rw [hbit, e1]
    refine ⟨rfl, ⟨.slice (some ⟨g, 0, none⟩) bs.length cap, bs.set (t / 8) (bs.getD (t / 8) 0 + d * 2 ^ (t % 8)), ?_, ?_, small_set hsm _ _ hv3, by rw [hv4, hval], by simp; omega, hNt, hB⟩, ?_⟩
    · have e3 := (Below.heap_setCell w ⟨g, t / 8, none⟩ (.int .u8 ((bs.getD (t / 8) 0 + d * 2 ^ (t % 8) : Nat) : Int)) p hpg).trans hp
      have e4 := row_setCell e3 1 (.int .i64 ((((8 - t % 8) % 8 : Nat) : Int) - 1))
      have : ((((8 - t % 8) % 8 : Nat) : Int) - 1) = (((8 - (t + 1) % 8) % 8 : Nat) : Int) := by omega
      rw [this] at e4 ⊢
      exact e4
    · have o3 := (hown0.stored (t / 8) (.int .u8 ((bs.getD (t / 8) 0 + d * 2 ^ (t % 8) : Nat) : Int))).1
      have o4 := ownsRow_setCell_other o3 (a := ⟨p, 1, none⟩) (fun h => hpg (by simpa [Value.ownBlock] using h.symm)) (.int .i64 ((((8 - t % 8) % 8 : Nat) : Int) - 1))
      rw [map_set_byte] at o4
      rw [List.length_set]
      exact o4.drew
    · exact (((Below.refl B w).setCell (p := ⟨g, t / 8, none⟩) hg _).setCell (p := ⟨p, 1, none⟩) hB _).drew
end Go.Proofs.YtdokpimhhkbdbaaDoor

set_option linter.unusedSimpArgs false
set_option linter.unusedVariables false
namespace Go.Proofs.YtdokpimhhkbdbaaDoor
open Go.RowKit

theorem putting {N t : Nat} (n : Int) (k : Nat) : N + low n k * 2 ^ t + dig n k * 2 ^ (t + k) = N + low n (k + 1) * 2 ^ t := by
  rw [low_succ, Nat.add_mul, Nat.pow_add, Nat.mul_assoc, Nat.mul_comm (2 ^ k) (2 ^ t), Nat.add_assoc]

theorem coding {N t : Nat} (n : Int) (c k : Nat) : N + rev n c k * 2 ^ t + dig n (c - 1 - k) * 2 ^ (t + k) = N + rev n c (k + 1) * 2 ^ t := by
  rw [rev, Nat.add_mul, Nat.pow_add, Nat.mul_assoc, Nat.mul_comm (2 ^ k) (2 ^ t), Nat.add_assoc]

set_option maxHeartbeats 1000000 in
theorem put_walk (B p : Nat) (w : World) (N t : Nat) (n : Int) (c : Nat) (h : Wr B p w N t) (hc : c ≤ 16) (ht : t < 900000) :
    Calls Tryd.prog 39 #[.pointer (some ⟨p, 0, none⟩), .int .i64 n, .int .i64 c] w fun e w' => e = .returned (.tuple #[]) ∧ Wr B p w' (N + low n c * 2 ^ t) (t + c) ∧ Below B w w' := by
  have hmay : Hid (∀ w, Calls Tryd.prog 52 #[.int .i64 c] w fun e w' => e = .returned (.bool true) ∧ w' = w) := fun w => (may_walk c w).mono fun e w' ⟨h1, h2⟩ => ⟨by rw [h1]; simp; omega, h2⟩
  go_enter Tryd.func39, Tryd.ntmps39
  go_wp2_with (go_at_call 52; refine (hmay.out _).mono ?_; rintro e w' ⟨rfl, hx⟩; have hx := hx.symm; subst hx)
  go_loopw [6] (fun i wr => ∃ k : Nat, k ≤ c ∧ i = .int .i64 k ∧ Wr B p wr (N + low n k * 2 ^ t) (t + k) ∧ Below B w wr) (fun i _ => c - (intOf i).toNat)
  case atStart => exact ⟨0, by omega, rfl, by simpa [low_zero] using h, Below.refl _ _⟩
  case round =>
    obtain ⟨k, hk, rfl, hw, hb⟩ := hrel
    by_cases hkc : k < c
    · have hdig : Hid (∀ w, Calls Tryd.prog 54 #[.int .i64 n, .int .i64 k] w fun e w' => e = .returned (.int .u8 (dig n k)) ∧ w' = w) := digit_walk n k (by omega)
      have hadd : Hid (Calls Tryd.prog 53 #[.pointer (some ⟨p, 0, none⟩), .int .u8 (dig n k : Int)] wr fun e w' => e = .returned (.tuple #[]) ∧ Wr B p w' (N + low n k * 2 ^ t + dig n k * 2 ^ (t + k)) (t + k + 1) ∧ Below B wr w') := add_walk B p wr _ (t + k) _ hw (dig_lt n k) (by omega)
      go_wp2_with (first | (go_at_call 54; with_reducible refine (hdig.out _).mono ?_; rintro e w' ⟨rfl, hx⟩; have hx := hx.symm; subst hx) | (go_at_call 53; with_reducible refine hadd.out.mono ?_; rintro e w' ⟨rfl, hw2, hb2⟩))
      go_roundw
      case rel =>
        rw [putting] at hw2
        exact ⟨k + 1, by omega, by go_num, hw2, hb.trans hb2⟩
      case measure => simp [intOf]; omega
    · have hkk : k = c := by omega
      subst hkk
      go_wp2
      go_end0
      exact ⟨rfl, hw, hb⟩

theorem may_not (c : Int) (hc : ¬ (0 ≤ c ∧ c ≤ 16)) : Hid (∀ w, Calls Tryd.prog 52 #[.int .i64 c] w fun e w' => e = .returned (.bool false) ∧ w' = w) :=
  fun w => (may_walk c w).mono fun e w' ⟨h1, h2⟩ => ⟨by rw [h1]; simp only [hc, decide_false], h2⟩

theorem put_not (a : Value) (w : World) (n : Int) (c : Int) (hc : ¬ (0 ≤ c ∧ c ≤ 16)) :
    Calls Tryd.prog 39 #[a, .int .i64 n, .int .i64 c] w fun e w' => e = .returned (.tuple #[]) ∧ w' = w := by
  have hmay := may_not c hc
  go_enter Tryd.func39, Tryd.ntmps39
  go_wp2_with (go_at_call 52; refine (hmay.out _).mono ?_; rintro e w' ⟨rfl, hx⟩; have hx := hx.symm; subst hx)
  refine bodyPost_ret (results_none rfl _ _ _) rfl ?_
  exact ⟨rfl, rfl⟩

theorem code_not (a : Value) (w : World) (n : Int) (c : Int) (hc : ¬ (0 ≤ c ∧ c ≤ 16)) :
    Calls Tryd.prog 59 #[a, .int .i64 n, .int .i64 c] w fun e w' => e = .returned (.tuple #[]) ∧ w' = w := by
  have hmay := may_not c hc
  go_enter Tryd.func59, Tryd.ntmps59
  go_wp2_with (go_at_call 52; refine (hmay.out _).mono ?_; rintro e w' ⟨rfl, hx⟩; have hx := hx.symm; subst hx)
  refine bodyPost_ret (results_none rfl _ _ _) rfl ?_
  exact ⟨rfl, rfl⟩

set_option maxHeartbeats 1000000 in
theorem code_walk (B p : Nat) (w : World) (N t : Nat) (n : Int) (c : Nat) (h : Wr B p w N t) (hc : c ≤ 16) (ht : t < 900000) :
    Calls Tryd.prog 59 #[.pointer (some ⟨p, 0, none⟩), .int .i64 n, .int .i64 c] w fun e w' => e = .returned (.tuple #[]) ∧ Wr B p w' (N + rev n c c * 2 ^ t) (t + c) ∧ Below B w w' := by
  have hmay : Hid (∀ w, Calls Tryd.prog 52 #[.int .i64 c] w fun e w' => e = .returned (.bool true) ∧ w' = w) := fun w => (may_walk c w).mono fun e w' ⟨h1, h2⟩ => ⟨by rw [h1]; simp; omega, h2⟩
  go_enter Tryd.func59, Tryd.ntmps59
  go_wp2_with (go_at_call 52; refine (hmay.out _).mono ?_; rintro e w' ⟨rfl, hx⟩; have hx := hx.symm; subst hx)
  go_loopw [6] (fun i wr => ∃ k : Nat, k ≤ c ∧ i = .int .i64 ((c : Int) - 1 - k) ∧ Wr B p wr (N + rev n c k * 2 ^ t) (t + k) ∧ Below B w wr) (fun i _ => (intOf i + 1).toNat)
  case atStart => exact ⟨0, by omega, by simp, by simpa [rev] using h, Below.refl _ _⟩
  case round =>
    obtain ⟨k, hk, rfl, hw, hb⟩ := hrel
    by_cases hkc : k < c
    · have e1 : (c : Int) - 1 - k = ((c - 1 - k : Nat) : Int) := by omega
      rw [e1]
      have hdig : Hid (∀ w, Calls Tryd.prog 54 #[.int .i64 n, .int .i64 ((c - 1 - k : Nat) : Int)] w fun e w' => e = .returned (.int .u8 (dig n (c - 1 - k))) ∧ w' = w) := digit_walk n (c - 1 - k) (by omega)
      have hadd : Hid (Calls Tryd.prog 53 #[.pointer (some ⟨p, 0, none⟩), .int .u8 (dig n (c - 1 - k) : Int)] wr fun e w' => e = .returned (.tuple #[]) ∧ Wr B p w' (N + rev n c k * 2 ^ t + dig n (c - 1 - k) * 2 ^ (t + k)) (t + k + 1) ∧ Below B wr w') := add_walk B p wr _ (t + k) _ hw (dig_lt n _) (by omega)
      rw [coding] at hadd
      obtain ⟨j, hj⟩ : ∃ j, j = c - 1 - k := ⟨_, rfl⟩
      rw [← hj] at hdig hadd ⊢
      have hj2 : (c : Int) - 1 - (k + 1 : Nat) = (j : Int) - 1 := by omega
      clear e1
      have HJ : Hid (j = c - 1 - k) := hj
      have HJ2 : Hid ((c : Int) - 1 - (k + 1 : Nat) = (j : Int) - 1) := hj2
      have hj0 : j < 16 := by omega
      clear hj hj2
      go_wp2_with (first | (go_at_call 54; with_reducible refine (hdig.out _).mono ?_; rintro e w' ⟨rfl, hx⟩; have hx := hx.symm; subst hx) | (go_at_call 53; with_reducible refine hadd.out.mono ?_; rintro e w' ⟨rfl, hw2, hb2⟩))
      go_roundw
      case rel =>
        exact ⟨k + 1, by omega, by rw [HJ2.out], hw2, hb.trans hb2⟩
      case measure => simp [intOf] <;> omega
    · have hkk : k = c := by omega
      subst hkk
      go_wp2
      go_end0
      exact ⟨rfl, hw, hb⟩

end Go.Proofs.YtdokpimhhkbdbaaDoor

set_option linter.unusedSimpArgs false
set_option linter.unusedVariables false
namespace Go.Proofs.YtdokpimhhkbdbaaDoor
open Go.RowKit

/-- The slice v reads as the bytes bs. -/
def Lies (w : World) (v : Value) (bs : List Nat) : Prop :=
  ∃ ao cap, v = .slice ao bs.length cap ∧ bs.length ≤ cap ∧ (ao = none → cap = 0) ∧ ∀ a, ao = some a → ∀ j u, (bs.map byteV)[j]? = some u → w.cell? (a.add j) = some u

theorem cell_lt {w : World} {a : Addr} {v : Value} (h : w.cell? a = some v) : a.block < w.heap.size := by
  rcases Nat.lt_or_ge a.block w.heap.size with h' | h'
  · exact h'
  · simp [World.cell?, Array.getElem?_eq_none h'] at h

theorem cell_old {w w' : World} {a : Addr} {v : Value} (hb : Below w.heap.size w w') (h : w.cell? a = some v) : w'.cell? a = some v :=
  (hb.cell (cell_lt h)).trans h

theorem Lies.old {w w' : World} {v : Value} {bs : List Nat} (h : Lies w v bs) (hb : Below w.heap.size w w') : Lies w' v bs := by
  obtain ⟨ao, cap, h1, h2, h3, h4⟩ := h
  exact ⟨ao, cap, h1, h2, h3, fun a ha j u hu => cell_old hb (h4 a ha j u hu)⟩

theorem lies_own {w : World} {B : Nat} {v : Value} {bs : List Nat} (h : w.ownsRow B 5 1 v bs.length (bs.map byteV)) : Lies w v bs := by
  have h0 := h
  rcases h.2 with ⟨rfl, hn⟩ | ⟨g, cap, cur, rfl, _, hg, hn, _⟩
  · exact ⟨none, 0, by rw [hn], by omega, fun _ => rfl, fun a ha => by cases ha⟩
  · refine ⟨_, cap, rfl, hn, fun h => (by cases h), fun a ha j u hu => ?_⟩
    cases ha
    exact h0.cells rfl j u hu

theorem lies_n {w : World} {B n : Nat} {v : Value} {bs : List Nat} (hn : bs.length = n) (h : w.ownsRow B 5 1 v n (bs.map byteV)) : Lies w v bs := by
  subst hn; exact lies_own h

theorem owns_old {w w' : World} {B : Nat} {v : Value} {n : Nat} {xs : List Value} (h : w.ownsRow B 5 1 v n xs) (hb : Below w.heap.size w w') : w'.ownsRow B 5 1 v n xs := by
  refine ⟨h.1, ?_⟩
  rcases h.2 with h2 | ⟨g, cap, cur, rfl, hB, hg, r⟩
  · exact .inl h2
  · exact .inr ⟨g, cap, cur, rfl, hB, by rw [hb.block g (lt_of_block hg)]; exact hg, r⟩

theorem Wr.old {B p : Nat} {w w' : World} {N t : Nat} (h : Wr B p w N t) (hb : Below w.heap.size w w') : Wr B p w' N t := by
  obtain ⟨v, bs, hp, hown, r⟩ := h
  exact ⟨v, bs, by rw [hb.block p (lt_of_block hp)]; exact hp, owns_old hown hb, r⟩

theorem byteV_inj {a b : Nat} : (byteV a = byteV b) ↔ a = b := by
  unfold byteV
  constructor
  · intro h; injection h with _ h; omega
  · rintro rfl; rfl

theorem Lies.at {w : World} {v : Value} {bs : List Nat} (h : Lies w v bs) (hn : 0 < bs.length) : ∃ a cap, v = .slice (some a) bs.length cap ∧ ∀ k, k < bs.length → w.cell? (a.add k) = some (.int .u8 (bs.getD k 0 : Nat)) := by
  obtain ⟨ao, cap, h1, h2, h3, h4⟩ := h
  cases ao with
  | none => have := h3 rfl; omega
  | some a => exact ⟨a, cap, h1, fun k hk => h4 a rfl k _ (by simp [hk, byteV])⟩

set_option maxHeartbeats 1000000 in
theorem same_walk (w : World) (u v : Value) (xs ys : List Nat) (hu : Lies w u xs) (hv : Lies w v ys) (hlen : xs.length = ys.length) (hl : xs.length ≤ 281474976710656) :
    Calls Tryd.prog 20 #[u, v] w fun e w' => e = .returned (.bool (decide (xs = ys))) ∧ Below w.heap.size w w' := by
  by_cases h0 : xs.length = 0
  · obtain ⟨ao, cap, rfl, _⟩ := hu
    obtain ⟨bo, cap', rfl, _⟩ := hv
    have e1 : xs = [] := List.length_eq_zero_iff.1 h0
    subst e1
    have e2 : ys = [] := List.length_eq_zero_iff.1 (by simpa using hlen.symm)
    subst e2
    go_enter Tryd.func20, Tryd.ntmps20
    go_wp2
    refine wp_loop_rounds 1 ?_
    rw [rounds_succ]
    go_wp2
    go_ret
    exact ⟨rfl, Below.refl _ _⟩
  obtain ⟨a, ca, rfl, hca⟩ := hu.at (by omega)
  obtain ⟨b, cb, rfl, hcb⟩ := hv.at (by omega)
  rw [← hlen] at hcb ⊢
  obtain ⟨n, hn⟩ : ∃ n, n = xs.length := ⟨_, rfl⟩
  rw [← hn] at hca hcb hl h0 ⊢
  have HN : Hid (n = xs.length ∧ n = ys.length) := ⟨hn, hn.trans hlen⟩
  clear hn hlen hu hv
  go_enter Tryd.func20, Tryd.ntmps20
  go_wp2
  go_loopw [5] (fun i wr => ∃ k : Nat, k ≤ n ∧ i = .int .i64 k ∧ (∀ j, j < k → xs.getD j 0 = ys.getD j 0) ∧ Below w.heap.size w wr) (fun i _ => n - (intOf i).toNat)
  case atStart => exact ⟨0, by omega, rfl, fun j hj => by omega, Below.refl _ _⟩
  case round =>
    obtain ⟨k, hk, rfl, hall, hb⟩ := hrel
    have HA : Hid (∀ j, j < k → xs.getD j 0 = ys.getD j 0) := hall
    clear hall
    by_cases hkn : k < n
    · have ha' := cell_old hb (hca k hkn)
      have hb' := cell_old hb (hcb k hkn)
      obtain ⟨x, hx⟩ : ∃ x, x = xs.getD k 0 := ⟨_, rfl⟩
      obtain ⟨y, hy⟩ : ∃ y, y = ys.getD k 0 := ⟨_, rfl⟩
      rw [← hx] at ha'
      rw [← hy] at hb'
      have HX : Hid (x = xs.getD k 0) := hx
      have HY : Hid (y = ys.getD k 0) := hy
      clear hx hy
      by_cases hxy : x = y
      · have hne : ((x : Int) != (y : Int)) = false := by simp [hxy]
        have HXY : Hid (x = y) := hxy
        clear hxy
        go_wp2
        go_quiet (fail)
        go_wp2
        go_roundw
        case rel =>
          refine ⟨k + 1, by omega, by go_num, fun j hj => ?_, hb.trans ⟨rfl, rfl, rfl, Nat.le_refl _, fun _ _ => rfl⟩⟩
          rcases (show j < k ∨ j = k by omega) with h | rfl
          · exact HA.out j h
          · rw [← HX.out, ← HY.out]; exact HXY.out
        case measure => simp [intOf]; omega
      · have hne : ((x : Int) != (y : Int)) = true := by simp; omega
        have HXY : Hid (¬ x = y) := hxy
        clear hxy
        go_wp2
        go_quiet (fail)
        go_wp2
        go_ret
        refine ⟨ret_bool ?_, hb.trans ⟨rfl, rfl, rfl, Nat.le_refl _, fun _ _ => rfl⟩⟩
        have : xs ≠ ys := fun h => HXY.out (by rw [HX.out, HY.out, h])
        simp [this]
    · have hkk : k = n := by omega
      subst hkk
      go_wp2
      go_ret
      refine ⟨ret_bool ?_, hb⟩
      have : xs = ys := by
        apply List.ext_getElem (by rw [← HN.out.1, ← HN.out.2])
        intro j h1 h2
        have := HA.out j (by have := HN.out.1; omega)
        simpa [h1, h2] using this
      simp [this]

theorem same_off (w : World) (u v : Value) (xs ys : List Nat) (hu : Lies w u xs) (hv : Lies w v ys) (hlen : xs.length ≠ ys.length) :
    Calls Tryd.prog 20 #[u, v] w fun e w' => e = .returned (.bool (decide (xs = ys))) ∧ Below w.heap.size w w' := by
  obtain ⟨ao, ca, rfl, _⟩ := hu
  obtain ⟨bo, cb, rfl, _⟩ := hv
  have hne : ((xs.length : Int) != (ys.length : Int)) = true := by simp; omega
  have h : decide (xs = ys) = false := by
    have : xs ≠ ys := fun h => hlen (by rw [h])
    simp [this]
  rw [h]
  go_enter Tryd.func20, Tryd.ntmps20
  go_wp2
  go_ret
  exact ⟨rfl, Below.refl _ _⟩

/-- Same: whatever it is handed. -/
theorem same_any (w : World) (u v : Value) (xs ys : List Nat) (hu : Lies w u xs) (hv : Lies w v ys) (hl : xs.length ≤ 281474976710656) :
    Calls Tryd.prog 20 #[u, v] w fun e w' => e = .returned (.bool (decide (xs = ys))) ∧ Below w.heap.size w w' := by
  by_cases h : xs.length = ys.length
  · exact same_walk w u v xs ys hu hv h hl
  · exact same_off w u v xs ys hu hv h

theorem bytes_one (bs : List Nat) : ∀ u ∈ bs.map byteV, u.oneCell' = true := by
  intro u hu
  obtain ⟨b, _, rfl⟩ := List.mem_map.1 hu
  rfl

set_option maxRecDepth 100000 in
set_option maxHeartbeats 1000000 in
theorem clone_walk (w : World) (v : Value) (bs : List Nat) (hv : Lies w v bs) (hl : bs.length ≤ 140737488355328) :
    Calls Tryd.prog 45 #[v] w fun e w' => ∃ v', e = .returned v' ∧ w'.ownsRow w.heap.size 5 1 v' bs.length (bs.map byteV) ∧ Below w.heap.size w w' := by
  obtain ⟨i, hi, hz0, hz1, hz2⟩ := info_parts Tryd.info5
  have hn0 := fun wx => Lib.run_eql_slice_nil (P := Tryd.prog) wx 22 5
  obtain ⟨ao, cap, rfl, h2, h3, h4⟩ := hv
  have hn := fun wx => hn0 wx ao bs.length cap 0 0 Tryd.underlying25
  clear hn0
  cases ao with
  | none =>
    have hc := h3 rfl
    subst hc
    have : bs = [] := List.length_eq_zero_iff.1 (by omega)
    subst this
    simp only [List.length_nil] at hn
    go_enter Tryd.func45, Tryd.ntmps45
    go_wp2
    go_ret
    exact ⟨_, rfl, World.ownsRow_nil _ _ _ _, Below.refl _ _⟩
  | some a =>
    have hc := h4 a rfl
    clear h4 h3
    go_enter Tryd.func45, Tryd.ntmps45
    go_wp2_with (at_builtin; refine wpList_append_own _ rfl (.tmp 5) (.tmp 6) 22 rfl w.heap.size 5 i (.int .u8 0) 1 1 Tryd.underlying25 hi hz0 hz1 hz2 rfl (by decide) _ 0 [] rfl ?c0 a bs.length cap (bs.map byteV) rfl (by simp) ?c1 (bytes_one bs) (by unfold maxLen; omega) (by omega) (by simp) ?_)
    case c0 => exact ⟨rfl, .inr ⟨w.heap.size, 0, #[], rfl, Nat.le_refl _, heap_alloc_new w _, Nat.le_refl _, by decide, rfl, rfl⟩⟩
    case c1 => exact fun j u hu => cell_old ((Below.refl _ w).alloc (Nat.le_refl _) _) (hc j u hu)
    intro v' w' hown hgrow _
    go_wp2
    go_ret
    exact ⟨_, rfl, hown, ((Below.refl _ w).alloc (Nat.le_refl _) _).grown hgrow (by simp) (fun k hk => by simp [Value.ownBlock] at hk; omega)⟩

theorem bytes_walk (B p : Nat) (w : World) (N t : Nat) (h : Wr B p w N t) (ht : t < 1000000) :
    Calls Tryd.prog 43 #[.pointer (some ⟨p, 0, none⟩)] w fun e w' => ∃ v' bs, e = .returned v' ∧ w'.ownsRow w.heap.size 5 1 v' bs.length (bs.map byteV) ∧ Small bs ∧ val bs = N ∧ bs.length = (t + 7) / 8 ∧ Below w.heap.size w w' := by
  obtain ⟨v, bs, hp, hown, hsm, hval, hlen, hN, hB⟩ := h
  have h0 := cell2_0 hp
  have hc : Hid (Calls Tryd.prog 45 #[v] w fun e w' => ∃ v', e = .returned v' ∧ w'.ownsRow w.heap.size 5 1 v' bs.length (bs.map byteV) ∧ Below w.heap.size w w') := clone_walk w v bs (lies_own hown) (by omega)
  go_enter Tryd.func43, Tryd.ntmps43
  go_wp2_with (go_at_call 45; with_reducible refine hc.out.mono ?_; rintro e w' ⟨v', rfl, ho, hb⟩)
  go_ret
  exact ⟨v', bs, rfl, ho, hsm, hval, hlen, hb⟩

/-- The writer, and what was there before. -/
def In (B p : Nat) (w0 w : World) (N t : Nat) : Prop := Wr B p w N t ∧ Below B w0 w

theorem new_in (w : World) : Calls Tryd.prog 38 #[] w fun e w' => e = .returned (.pointer (some ⟨w.heap.size, 0, none⟩)) ∧ In w.heap.size w.heap.size w w' 0 0 :=
  (new_walk w).mono fun e w' ⟨he, hw⟩ => ⟨he, by subst hw; exact ⟨wr_new w _ (Nat.le_refl _), (Below.refl _ w).alloc (Nat.le_refl _) _⟩⟩

theorem put_in {B p : Nat} {w0 : World} (N t : Nat) (n C : Int) (c : Nat) (hC : C = c) (hc : c ≤ 16) (ht : t < 900000) (N' t' : Nat) (hN : N + low n c * 2 ^ t = N') (ht' : t + c = t') :
    Hid (∀ w, In B p w0 w N t → Calls Tryd.prog 39 #[.pointer (some ⟨p, 0, none⟩), .int .i64 n, .int .i64 C] w fun e w' => e = .returned (.tuple #[]) ∧ In B p w0 w' N' t') := by
  subst hN ht' hC
  exact fun w h => (put_walk B p w N t n c h.1 hc ht).mono fun e w' ⟨h1, h2, h3⟩ => ⟨h1, h2, h.2.trans h3⟩

theorem code_in {B p : Nat} {w0 : World} (N t : Nat) (n C : Int) (c : Nat) (hC : C = c) (hc : c ≤ 16) (ht : t < 900000) (N' t' : Nat) (hN : N + rev n c c * 2 ^ t = N') (ht' : t + c = t') :
    Hid (∀ w, In B p w0 w N t → Calls Tryd.prog 59 #[.pointer (some ⟨p, 0, none⟩), .int .i64 n, .int .i64 C] w fun e w' => e = .returned (.tuple #[]) ∧ In B p w0 w' N' t') := by
  subst hN ht' hC
  exact fun w h => (code_walk B p w N t n c h.1 hc ht).mono fun e w' ⟨h1, h2, h3⟩ => ⟨h1, h2, h.2.trans h3⟩

theorem In.size {B p : Nat} {w0 w : World} {N t : Nat} (h : In B p w0 w N t) : B ≤ w.heap.size := by
  obtain ⟨v, bs, hp, _, _, _, _, _, hB⟩ := h.1
  have := lt_of_block hp
  omega

theorem In.old {B p : Nat} {w0 w w' : World} {N t : Nat} (h : In B p w0 w N t) (hb : Below w.heap.size w w') : In B p w0 w' N t :=
  ⟨h.1.old hb, h.2.trans (hb.mono h.size)⟩

/-- What Bytes hands out: a new row. -/
def Out (B : Nat) (w : World) (v : Value) (bs : List Nat) : Prop := w.ownsRow B 5 1 v bs.length (bs.map byteV) ∧ Small bs

theorem bytes_in {B p : Nat} {w0 : World} (N t : Nat) (ht : t < 1000000) (L : List Nat) (n : Nat) (hn : L.length = n) (hs : Small L) (hN : val L = N) (hl : L.length = (t + 7) / 8) :
    Hid (∀ w, In B p w0 w N t → Calls Tryd.prog 43 #[.pointer (some ⟨p, 0, none⟩)] w fun e w' => ∃ v', e = .returned v' ∧ w'.ownsRow w.heap.size 5 1 v' n (L.map byteV) ∧ Below w.heap.size w w' ∧ In B p w0 w' N t) := by
  subst hn
  intro w h
  refine (bytes_walk B p w N t h.1 ht).mono ?_
  rintro e w' ⟨v', bs, rfl, ho, hsm, hval, hlen, hb⟩
  have : bs = L := by
    apply List.ext_getElem (by rw [hlen, hl])
    intro j h1 h2
    have e1 := val_byte hsm j
    have e2 := val_byte hs j
    rw [hval] at e1
    rw [hN] at e2
    rw [e1] at e2
    simpa [h1, h2] using e2
  subst this
  exact ⟨v', rfl, ho, hb, h.old hb⟩

theorem lies_lit (w : World) (L : List Nat) (cs : Array Value) (hcs : cs = (L.map byteV).toArray) : Lies (w.alloc (.cells cs 5)) (.slice (some ⟨w.heap.size, 0, none⟩) L.length L.length) L := by
  subst hcs
  refine ⟨_, _, rfl, Nat.le_refl _, fun h => (by cases h), fun a ha j u hu => ?_⟩
  cases ha
  have hadd : (⟨w.heap.size, 0, none⟩ : Addr).add j = ⟨w.heap.size, j, none⟩ := by unfold Addr.add; split <;> simp_all
  rw [hadd, cell_of_row _ _ j _ 5 (0, 0) (heap_alloc_new w _)]
  simpa using hu

/-- Same of bytes that lie anywhere and of bytes that are written out. -/
theorem same_lit (L M : List Nat) (cs : Array Value) (n : Nat) (r : Bool) (hn : M.length = n) (hcs : cs = (M.map byteV).toArray) (hl : L.length ≤ 281474976710656) (hr : decide (L = M) = r) :
    Hid (∀ w v, Lies w v L → Calls Tryd.prog 20 #[v, .slice (some ⟨w.heap.size, 0, none⟩) n n] (w.alloc (.cells cs 5)) fun e w' => e = .returned (.bool r) ∧ Below w.heap.size w w') := by
  subst hn hr
  intro w v h
  have hb : Below w.heap.size w (w.alloc (.cells cs 5)) := (Below.refl _ _).alloc (Nat.le_refl _) _
  exact (same_any _ _ _ L M (h.old hb) (lies_lit _ M _ hcs) hl).mono fun e w' ⟨h1, h2⟩ => ⟨h1, hb.trans (h2.mono (by simp))⟩

end Go.Proofs.YtdokpimhhkbdbaaDoor

set_option linter.unusedSimpArgs false
set_option linter.unusedVariables false
namespace Go.Proofs.YtdokpimhhkbdbaaDoor
open Go.ChangeShapes Go.WideShapes Go.ChangeAt Go.RowKit

theorem own : ownKnob Tryd.prog.godebug = none := by kernel_rfl
theorem laidOut : laidOutB Tryd.prog = true := by kernel_rfl
theorem cells5 : Tryd.prog.cellsOf 5 = 1 := by kernel_rfl
theorem cells3 : Tryd.prog.cellsOf 3 = 1 := by kernel_rfl
theorem bytes5 : Tryd.prog.bytesOf 5 = 1 := by kernel_rfl

theorem bytes_of {H : Type} {enc : TypeId × Value → H} {W : World} {v : Value} {d : DataW H} {ps : List MemPlace} {a : Option Addr} {len cap : Nat}
    (hd : DataW.Trod enc Tryd.prog W 0 (fun _ => true) true 22 (.slice a len cap) d ps) (hz : ∀ elems spare, d = .slice elems spare → (elems.length + spare.length) * Tryd.prog.bytesOf 5 ≤ reachBytes) :
    ∃ bs, Lies W (.slice a len cap) bs ∧ Small bs ∧ bs.length ≤ 140737488351232 := by
  obtain ⟨fuel, hf⟩ := hd
  rcases open_ints Tryd.underlying25 Tryd.underlying5 cells5 hf with ⟨hcs, _⟩ | ⟨ad, len', cap', zs, hcs, _, hl, hm, hlen, hx, hc, hwf⟩
  · simp [Value.cells] at hcs
    obtain ⟨rfl, rfl, rfl⟩ := hcs
    exact ⟨[], ⟨none, 0, rfl, Nat.le_refl _, fun _ => rfl, fun a ha => by cases ha⟩, by simp [Small], by simp⟩
  · simp [Value.cells] at hcs
    obtain ⟨rfl, rfl, rfl⟩ := hcs
    have hzl : zs.length = cap := by simpa using hlen
    have hd := congrArg Prod.fst hx
    have hz := hz _ _ hd
    rw [bytes5] at hz
    simp only [lits, List.length_map, List.length_take, List.length_drop, reachBytes] at hz
    have hb : ∀ n ∈ zs, 0 ≤ n ∧ n < 256 := fun n hn => by
      have := hwf n hn
      simp [Lit.wf, IntKind.min, IntKind.max, IntKind.bits, IntKind.signed] at this
      omega
    have hl2 : ((zs.take len).map Int.toNat).length = len := by simp; omega
    refine ⟨(zs.take len).map Int.toNat, ⟨some ad, cap, by rw [hl2], by omega, fun h => (by cases h), fun a ha j u hu => ?_⟩, fun b hb' => ?_, by omega⟩
    · cases ha
      rw [List.map_map, List.getElem?_map, List.getElem?_take] at hu
      split at hu
      · rename_i hj
        have hj2 : j < zs.length := by omega
        rw [hc j hj2]
        simp [hj2] at hu ⊢
        have := hb (zs[j]) (List.getElem_mem hj2)
        rw [← hu, byteV, Int.toNat_of_nonneg this.1]
      · cases hu
    · obtain ⟨n, hn, rfl⟩ := List.mem_map.1 hb'
      have := hb n (List.mem_of_mem_take hn)
      omega

/-- A slice of whole numbers that can be read. -/
def Ints (w : World) (v : Value) (zs : List Int) : Prop :=
  ∃ ao cap, v = .slice ao zs.length cap ∧ zs.length ≤ cap ∧ (ao = none → cap = 0) ∧ ∀ a, ao = some a → ∀ j, j < zs.length → w.cell? (a.add j) = some (.int .i64 (zs.getD j 0))

theorem Ints.old {w w' : World} {v : Value} {zs : List Int} (h : Ints w v zs) (hb : Below w.heap.size w w') : Ints w' v zs := by
  obtain ⟨ao, cap, h1, h2, h3, h4⟩ := h
  exact ⟨ao, cap, h1, h2, h3, fun a ha j hj => cell_old hb (h4 a ha j hj)⟩

theorem bytes3 : Tryd.prog.bytesOf 3 = 8 := by kernel_rfl
theorem Tryd.underlying38 : Tryd.prog.underlying 37 = some (.slice 3) := by kernel_rfl

theorem ints_of {H : Type} {enc : TypeId × Value → H} {W : World} {d : DataW H} {ps : List MemPlace} {a : Option Addr} {len cap : Nat}
    (hd : DataW.Trod enc Tryd.prog W 0 (fun _ => true) true 37 (.slice a len cap) d ps) (hz : ∀ elems spare, d = .slice elems spare → (elems.length + spare.length) * Tryd.prog.bytesOf 3 ≤ reachBytes) :
    ∃ zs, Ints W (.slice a len cap) zs ∧ zs.length ≤ 140737488351232 := by
  obtain ⟨fuel, hf⟩ := hd
  rcases open_ints Tryd.underlying38 Tryd.underlying3 cells3 hf with ⟨hcs, _⟩ | ⟨ad, len', cap', zs, hcs, _, hl, hm, hlen, hx, hc, hwf⟩
  · simp [Value.cells] at hcs
    obtain ⟨rfl, rfl, rfl⟩ := hcs
    exact ⟨[], ⟨none, 0, rfl, Nat.le_refl _, fun _ => rfl, fun a ha => by cases ha⟩, by simp⟩
  · simp [Value.cells] at hcs
    obtain ⟨rfl, rfl, rfl⟩ := hcs
    have hzl : zs.length = cap := by simpa using hlen
    have hd := congrArg Prod.fst hx
    have hz := hz _ _ hd
    rw [bytes3] at hz
    simp only [lits, List.length_map, List.length_take, List.length_drop, reachBytes] at hz
    have hl2 : (zs.take len).length = len := by simp; omega
    refine ⟨zs.take len, ⟨some ad, cap, by rw [hl2], by omega, fun h => (by cases h), fun a ha j hj => ?_⟩, by omega⟩
    cases ha
    rw [hc j (by omega)]
    have : j < len := by omega
    simp [List.getElem?_take, this]

end Go.Proofs.YtdokpimhhkbdbaaDoor
