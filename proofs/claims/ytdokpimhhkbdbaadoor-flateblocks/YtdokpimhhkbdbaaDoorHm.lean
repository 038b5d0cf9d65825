/-
  Plain mathematics of codes by their lengths: how many there are, where each length's codes begin, which sign has which code; a code is found by its digits, and by no others.
-/
import Derived.Test.YtdokpimhhkbdbaaDoorBa
set_option linter.unusedSimpArgs false
set_option linter.unusedVariables false
namespace Go.Proofs.YtdokpimhhkbdbaaDoor

def nth (l : List Nat) (i : Nat) : Nat := l.getD i 0
/-- How many codes are n digits long. -/
def cn (l : List Nat) (n : Nat) : Nat := if n = 0 then 0 else l.count n
/-- The first code of n digits. -/
def base (l : List Nat) : Nat → Nat
  | 0 => 0
  | n + 1 => 2 * (base l n + cn l n)
/-- How many codes are shorter. -/
def sho (l : List Nat) : Nat → Nat
  | 0 => 0
  | n + 1 => sho l n + cn l n
/-- The room that they take. -/
def rm (l : List Nat) : Nat → Nat
  | 0 => 0
  | n + 1 => rm l n + cn l n * 2 ^ (15 - n)
def rank (l : List Nat) (n i : Nat) : Nat := (l.take i).count n
def code (l : List Nat) (i : Nat) : Nat := base l (nth l i) + rank l (nth l i) i
def sig (l : List Nat) (n i : Nat) : List Nat := (List.range i).filter (fun j => decide (nth l j = n))
/-- The signs of the codes that are shorter, by their codes. -/
def ord (l : List Nat) : Nat → List Nat
  | 0 => []
  | n + 1 => ord l n ++ (if n = 0 then [] else sig l n l.length)

abbrev Fits (l : List Nat) : Prop := rm l 16 = 32768 ∨ sho l 16 = 0 ∨ (sho l 16 = 1 ∧ cn l 1 = 1)

variable {l : List Nat}

theorem nth_eq {i : Nat} (h : i < l.length) : nth l i = l[i] := by simp [nth, h]

theorem rank_zero (n : Nat) : rank l n 0 = 0 := by simp [rank]

theorem rank_succ {i : Nat} (n : Nat) (h : i < l.length) : rank l n (i + 1) = rank l n i + if nth l i = n then 1 else 0 := by
  unfold rank
  rw [List.take_succ_eq_append_getElem h, List.count_append, nth_eq h]
  simp [List.count_singleton]

theorem rank_mono {i j : Nat} (n : Nat) (h : i ≤ j) : rank l n i ≤ rank l n j := by
  unfold rank
  have : l.take i = (l.take j).take i := by rw [List.take_take]; congr 1; omega
  rw [this]
  exact (List.take_sublist _ _).count_le _

theorem rank_all (n : Nat) : rank l n l.length = l.count n := by simp [rank]

theorem rank_lt {i n : Nat} (h : i < l.length) (hn : nth l i = n) : rank l n i < l.count n := by
  have h1 := rank_succ n h
  have h2 := rank_mono (l := l) n (show i + 1 ≤ l.length by omega)
  rw [rank_all] at h2
  simp only [hn, ↓reduceIte] at h1
  omega

theorem rank_inj {i j n : Nat} (hi : i < l.length) (hj : j < l.length) (h1 : nth l i = n) (h2 : nth l j = n) (h : rank l n i = rank l n j) : i = j := by
  have a1 := rank_succ n hi
  have a2 := rank_succ n hj
  simp only [h1, h2, ↓reduceIte] at a1 a2
  rcases Nat.lt_trichotomy i j with h' | h' | h'
  · have := rank_mono (l := l) n (show i + 1 ≤ j by omega); omega
  · exact h'
  · have := rank_mono (l := l) n (show j + 1 ≤ i by omega); omega

theorem sig_zero (n : Nat) : sig l n 0 = [] := by simp [sig]

theorem sig_succ (n i : Nat) : sig l n (i + 1) = sig l n i ++ if nth l i = n then [i] else [] := by
  unfold sig
  rw [List.range_succ, List.filter_append]
  congr 1
  by_cases h : nth l i = n <;> simp [h]

theorem sig_length {i : Nat} (n : Nat) (h : i ≤ l.length) : (sig l n i).length = rank l n i := by
  induction i with
  | zero => simp [sig, rank]
  | succ i ih =>
    rw [sig_succ, List.length_append, ih (by omega), rank_succ n (by omega)]
    split <;> simp

theorem sig_get {i : Nat} (n : Nat) (h : i ≤ l.length) (r : Nat) (hr : r < (sig l n i).length) : (sig l n i).getD r 0 < i ∧ nth l ((sig l n i).getD r 0) = n ∧ rank l n ((sig l n i).getD r 0) = r := by
  induction i with
  | zero => simp [sig] at hr
  | succ i ih =>
    have hl := sig_length n (show i ≤ l.length by omega)
    rw [sig_succ] at hr ⊢
    by_cases hi : r < (sig l n i).length
    · have e : (sig l n i ++ if nth l i = n then [i] else []).getD r 0 = (sig l n i).getD r 0 := by
        simp [List.getElem?_append_left hi]
      rw [e]
      have := ih (by omega) hi
      omega
    · by_cases hn : nth l i = n
      · simp only [hn, ↓reduceIte, List.length_append, List.length_singleton] at hr ⊢
        have hrr : r = (sig l n i).length := by omega
        have e : (sig l n i ++ [i]).getD r 0 = i := by subst hrr; simp
        rw [e]
        exact ⟨by omega, hn, by omega⟩
      · simp only [hn, ↓reduceIte, List.append_nil] at hr
        omega

theorem ord_length (n : Nat) : (ord l n).length = sho l n := by
  induction n with
  | zero => rfl
  | succ n ih =>
    simp only [ord, sho, cn, List.length_append, ih]
    split
    · simp
    · rw [sig_length n (Nat.le_refl _), rank_all]

theorem sho_mono {n m : Nat} (h : n ≤ m) : sho l n ≤ sho l m := by
  induction m with
  | zero => obtain rfl : n = 0 := by omega
            exact Nat.le_refl _
  | succ m ih =>
    rcases (show n ≤ m ∨ n = m + 1 by omega) with h' | rfl
    · have := ih h'; simp only [sho]; omega
    · exact Nat.le_refl _

theorem rm_mono {n m : Nat} (h : n ≤ m) : rm l n ≤ rm l m := by
  induction m with
  | zero => obtain rfl : n = 0 := by omega
            exact Nat.le_refl _
  | succ m ih =>
    rcases (show n ≤ m ∨ n = m + 1 by omega) with h' | rfl
    · have := ih h'; simp only [rm]; omega
    · exact Nat.le_refl _

theorem ord_pre {n m : Nat} (h : n ≤ m) : ∃ r, ord l m = ord l n ++ r := by
  induction m with
  | zero => obtain rfl : n = 0 := by omega
            exact ⟨[], by simp⟩
  | succ m ih =>
    rcases (show n ≤ m ∨ n = m + 1 by omega) with h' | rfl
    · obtain ⟨r, hr⟩ := ih h'
      exact ⟨r ++ (if m = 0 then [] else sig l m l.length), by simp only [ord, hr, List.append_assoc]⟩
    · exact ⟨[], by simp⟩

/-- The sign at a place of the row by codes. -/
theorem ord_get {n m d : Nat} (hn : 0 < n) (hnm : n < m) (hd : d < cn l n) : (ord l m).getD (sho l n + d) 0 < l.length ∧ nth l ((ord l m).getD (sho l n + d) 0) = n ∧ rank l n ((ord l m).getD (sho l n + d) 0) = d := by
  obtain ⟨r, hr⟩ := ord_pre (l := l) (show n + 1 ≤ m by omega)
  have hn0 : n ≠ 0 := by omega
  have hs : (sig l n l.length).length = cn l n := by rw [sig_length n (Nat.le_refl _), rank_all]; simp [cn, hn0]
  have e : (ord l m).getD (sho l n + d) 0 = (sig l n l.length).getD d 0 := by
    rw [hr]
    simp only [ord, hn0, ↓reduceIte, List.append_assoc, List.getD_eq_getElem?_getD]
    rw [List.getElem?_append_right (by rw [ord_length]; omega), ord_length, show sho l n + d - sho l n = d by omega, List.getElem?_append_left (by omega)]
  rw [e]
  exact sig_get n (Nat.le_refl _) d (by omega)

theorem base_rm (n : Nat) (hn : n ≤ 15) : (base l n + cn l n) * 2 ^ (15 - n) = rm l (n + 1) := by
  induction n with
  | zero => simp [base, rm, cn]
  | succ n ih =>
    have h1 := ih (by omega)
    have e : 2 ^ (15 - n) = 2 * 2 ^ (15 - (n + 1)) := by rw [← Nat.pow_succ']; congr 1; omega
    simp only [rm] at h1 ⊢
    rw [← h1]
    simp only [base]
    rw [Nat.add_mul, e, ← Nat.mul_assoc, Nat.mul_comm (base l n + cn l n) 2]

theorem rm_fits (h : Fits l) : rm l 16 ≤ 32768 := by
  rcases h with h | h | ⟨h, h1⟩
  · omega
  · simp only [sho] at h
    simp only [rm]
    have : ∀ x : Nat, x = 0 → ∀ k, x * k = 0 := by intro x hx k; rw [hx, Nat.zero_mul]
    omega
  · simp only [sho] at h
    simp only [rm]
    omega

theorem base_le (h : Fits l) {n : Nat} (hn : n ≤ 15) : base l n + cn l n ≤ 2 ^ n := by
  have h1 := base_rm (l := l) n hn
  have h2 := rm_mono (l := l) (show n + 1 ≤ 16 by omega)
  have h3 := rm_fits h
  have e : (32768 : Nat) = 2 ^ n * 2 ^ (15 - n) := by rw [← Nat.pow_add, show n + (15 - n) = 15 by omega]
  rw [← h1] at h2
  exact Nat.le_of_mul_le_mul_right (show (base l n + cn l n) * 2 ^ (15 - n) ≤ 2 ^ n * 2 ^ (15 - n) by omega) (Nat.pow_pos (by decide))

theorem pow_le15 {n : Nat} (hn : n ≤ 15) : 2 ^ n ≤ 32768 := (Nat.pow_le_pow_right (by decide) hn : 2 ^ n ≤ 2 ^ 15)

theorem code_range {i : Nat} (hi : i < l.length) (h0 : 0 < nth l i) : base l (nth l i) ≤ code l i ∧ code l i < base l (nth l i) + cn l (nth l i) := by
  have h1 := rank_lt hi rfl
  have : nth l i ≠ 0 := by omega
  simp only [code, cn, this, ↓reduceIte]
  omega

theorem code_lt {i : Nat} (h : Fits l) (hi : i < l.length) (h0 : 0 < nth l i) (h15 : nth l i ≤ 15) : code l i < 2 ^ nth l i := by
  have := code_range hi h0
  have := base_le h h15
  omega

/-- The first n of some digits as a number, the highest first. -/
def top (f : Nat → Nat) : Nat → Nat
  | 0 => 0
  | n + 1 => 2 * top f n + f n

theorem top_lt {f : Nat → Nat} (hf : ∀ k, f k < 2) (n : Nat) : top f n < 2 ^ n := by
  induction n with
  | zero => simp [top]
  | succ n ih =>
    have := hf n
    simp only [top, Nat.pow_succ]
    omega

/-- The sign i is what the digits say. -/
def Hit (l : List Nat) (f : Nat → Nat) (av i : Nat) : Prop := i < l.length ∧ 0 < nth l i ∧ nth l i ≤ av ∧ top f (nth l i) = code l i

/-- No code of fewer than n digits is what they say. -/
def Past (l : List Nat) (f : Nat → Nat) (n : Nat) : Prop := ∀ m, 0 < m → m < n → base l m + cn l m ≤ top f m

theorem past_base {f : Nat → Nat} {n : Nat} (h : Past l f n) (hn : 0 < n) : base l n ≤ 2 * top f (n - 1) := by
  obtain ⟨m, rfl⟩ : ∃ m, n = m + 1 := ⟨n - 1, by omega⟩
  simp only [base, Nat.add_sub_cancel]
  rcases (show m = 0 ∨ 0 < m by omega) with rfl | hm
  · simp [base, cn]
  · have := h m hm (by omega); omega

theorem past_next {f : Nat → Nat} {n : Nat} (h : Past l f n) (h2 : base l n + cn l n ≤ top f n) : Past l f (n + 1) := by
  intro m h0 hm
  rcases (show m < n ∨ m = n by omega) with h' | rfl
  · exact h m h0 h'
  · exact h2

theorem past_not {f : Nat → Nat} {n av i : Nat} (h : Past l f n) (hh : Hit l f av i) : n ≤ nth l i := by
  obtain ⟨h1, h2, h3, h4⟩ := hh
  rcases Nat.lt_or_ge (nth l i) n with h' | h'
  · have a := h _ h2 h'
    have b := code_range h1 h2
    omega
  · exact h'

/-- What was below a length's codes' end stays below the codes of every greater length. -/
theorem top_below {f : Nat → Nat} (hf : ∀ k, f k < 2) {n : Nat} (h : top f n < base l n + cn l n) (k : Nat) : top f (n + k + 1) < base l (n + k + 1) := by
  induction k with
  | zero =>
    have := hf n
    simp only [Nat.add_zero, top, base]
    omega
  | succ k ih =>
    have := hf (n + k + 1)
    rw [show n + (k + 1) + 1 = (n + k + 1) + 1 by omega]
    simp only [top, base] at ih ⊢
    omega

theorem hit_one {f : Nat → Nat} (hf : ∀ k, f k < 2) {av i j : Nat} (hi : Hit l f av i) (hj : Hit l f av j) : i = j := by
  have key : ∀ i j, Hit l f av i → Hit l f av j → nth l i ≤ nth l j → i = j := by
    intro i j hi hj hle
    obtain ⟨a1, a2, a3, a4⟩ := hi
    obtain ⟨b1, b2, b3, b4⟩ := hj
    have ra := code_range a1 a2
    have rb := code_range b1 b2
    rcases (show nth l i = nth l j ∨ nth l i < nth l j by omega) with h | h
    · have : rank l (nth l i) i = rank l (nth l i) j := by
        have e1 : code l i = code l j := by rw [← a4, ← b4, h]
        simp only [code, ← h] at e1
        omega
      exact rank_inj a1 b1 rfl h.symm this
    · obtain ⟨k, hk⟩ : ∃ k, nth l j = nth l i + k + 1 := ⟨nth l j - nth l i - 1, by omega⟩
      have := top_below hf (l := l) (n := nth l i) (by omega) k
      rw [← hk] at this
      omega
  rcases Nat.le_total (nth l i) (nth l j) with h | h
  · exact key i j hi hj h
  · exact (key j i hj hi h).symm

/-- Found by its place in the row by codes. -/
theorem hit_ord {f : Nat → Nat} {n av : Nat} (hn : 0 < n) (hn2 : n ≤ 15) (hav : n ≤ av) (h1 : base l n ≤ top f n) (h2 : top f n < base l n + cn l n) : Hit l f av ((ord l 16).getD (sho l n + top f n - base l n) 0) ∧ nth l ((ord l 16).getD (sho l n + top f n - base l n) 0) = n := by
  have := ord_get (l := l) (n := n) (m := 16) (d := top f n - base l n) hn (by omega) (by omega)
  rw [show sho l n + (top f n - base l n) = sho l n + top f n - base l n by omega] at this
  obtain ⟨g1, g2, g3⟩ := this
  refine ⟨⟨g1, by omega, by omega, ?_⟩, g2⟩
  rw [g2]
  unfold code
  rw [g2, g3]
  omega

/-- The digits of a written code. -/
theorem top_code {f : Nat → Nat} (c n : Nat) (hc : c < 2 ^ n) (hf : ∀ k, k < n → f k = dig c (n - 1 - k)) (j : Nat) (hj : j ≤ n) : top f j = c / 2 ^ (n - j) := by
  induction j with
  | zero => simp [top, Nat.div_eq_of_lt hc]
  | succ j ih =>
    have h1 := ih (by omega)
    have h2 := hf j (by omega)
    simp only [top, h1, h2]
    have e : n - j = (n - (j + 1)) + 1 := by omega
    have e2 : n - 1 - j = n - (j + 1) := by omega
    rw [e, e2, Nat.pow_succ, ← Nat.div_div_eq_div_mul]
    have hd : dig (c : Int) (n - (j + 1)) = c / 2 ^ (n - (j + 1)) % 2 := by
      unfold dig
      have : ((c : Int) / 2 ^ (n - (j + 1))) = ((c / 2 ^ (n - (j + 1)) : Nat) : Int) := by push_cast; rfl
      rw [this]
      omega
    rw [hd]
    omega

/-! Lengths counted one by one. -/
def wt (n : Nat) : Nat := if n = 0 then 0 else 2 ^ (15 - n)
def room (l : List Nat) : Nat := (l.map wt).sum
def some_ (l : List Nat) : Nat := l.length - l.count 0

theorem cn_cons (a n : Nat) (l : List Nat) : cn (a :: l) n = cn l n + if a = n ∧ n ≠ 0 then 1 else 0 := by
  unfold cn
  by_cases h : n = 0
  · simp [h]
  · simp only [h, ↓reduceIte, List.count_cons, beq_iff_eq, ne_eq, not_false_eq_true, and_true]

theorem rm_cons (a : Nat) (l : List Nat) (m : Nat) : rm (a :: l) m = rm l m + if a < m then wt a else 0 := by
  induction m with
  | zero => simp [rm]
  | succ m ih =>
    have hw : wt m = if m = 0 then 0 else 2 ^ (15 - m) := rfl
    simp only [rm, ih, cn_cons, Nat.add_mul]
    generalize 2 ^ (15 - m) = P at *
    by_cases h1 : a = m
    · subst h1
      rw [if_neg (Nat.lt_irrefl a), if_pos (Nat.lt_succ_self a), hw]
      by_cases h0 : a = 0
      · rw [if_neg (fun h => h.2 h0), if_pos h0]; omega
      · rw [if_pos ⟨rfl, h0⟩, if_neg h0]; omega
    · have h3 : ¬ (a = m ∧ m ≠ 0) := fun h => h1 h.1
      rw [if_neg h3]
      by_cases h2 : a < m
      · rw [if_pos h2, if_pos (by omega)]; omega
      · rw [if_neg h2, if_neg (by omega)]; omega

theorem sho_cons (a : Nat) (l : List Nat) (m : Nat) : sho (a :: l) m = sho l m + if a < m ∧ a ≠ 0 then 1 else 0 := by
  induction m with
  | zero => simp [sho]
  | succ m ih =>
    simp only [sho, ih, cn_cons]
    by_cases h0 : a = 0
    · subst h0
      by_cases hm : m = 0
      · simp [hm]
      · have : ¬ 0 = m := by omega
        simp [this]
    · by_cases h1 : a = m
      · subst h1
        simp [h0]
        omega
      · by_cases h2 : a < m
        · have : a < m + 1 := by omega
          simp [h1, h2, this, h0]
          omega
        · have : ¬ a < m + 1 := by omega
          simp [h1, h2, this]

theorem rm_room (h : ∀ x ∈ l, x ≤ 15) : rm l 16 = room l := by
  induction l with
  | nil => simp [rm, room, cn]
  | cons a l ih =>
    have ha := h a (by simp)
    rw [rm_cons, ih (fun x hx => h x (by simp [hx])), if_pos (by omega)]
    simp only [room, List.map_cons, List.sum_cons]
    omega

theorem cn_le (n : Nat) : cn l n ≤ l.length := by
  unfold cn
  split
  · omega
  · exact List.count_le_length

end Go.Proofs.YtdokpimhhkbdbaaDoor
