/-
  Stored of at most 65535 bytes; Pack. What Unpack answers to one stored block: whole, cut, with a byte more.
-/
import Derived.Test.YtdokpimhhkbdbaaDoorBf
import Derived.Test.YtdokpimhhkbdbaaDoorVb
set_option linter.unusedSimpArgs false
set_option linter.unusedVariables false
namespace Go.Proofs.YtdokpimhhkbdbaaDoor
open Go.RowKit

/-- Stored, of bytes that one block holds. -/
def stoL (b : List Nat) : List Nat := Q.headL b.length true ++ b

theorem stored21 (w : World) (v : Value) (b : List Nat) (hv : Lies w v b) (hn : b.length ≤ 65535) :
    Calls Tryd.prog 21 #[v] w fun e w' => ∃ v', e = .returned v' ∧ Hid (w'.ownsRow w.heap.size 5 1 v' (stoL b).length ((stoL b).map byteV)) ∧ Hid (Below w.heap.size w w') := by
  have h : Hid (Calls Tryd.prog 37 #[.slice none 0 0, v, .bool true] w fun e w' => ∃ v', e = .returned v' ∧ w'.ownsRow w.heap.size 5 1 v' (stoL b).length ((stoL b).map byteV) ∧ Below w.heap.size w w') :=
    Q.appendStored_walk w w.heap.size (.slice none 0 0) v [] b true (World.ownsRow_nil _ _ _ _) hv (Nat.le_refl _) hn (by decide) (fun w1 w2 hg hl _ => hl.old ⟨hg.os, hg.tape, hg.output, hg.size, fun k hk => hg.block k hk (by simp [Value.ownBlock])⟩)
  obtain ⟨ao, cap, rfl, -, -, -⟩ := hv
  generalize stoL b = Z at h ⊢
  generalize b.length = n at h hn ⊢
  have hni : (n : Int) ≤ 65535 := by omega
  go_enter Tryd.func21, Tryd.ntmps21
  go_wp2
  refine wp_loop_rounds 1 ?_
  rw [rounds_succ]
  go_wp2_with (first
    | (go_at_call 37; (with_reducible refine h.out.mono ?_); rintro e w1 ⟨v1, rfl, ho, hb⟩
       have HO := Q.mkHid ho
       have HB := Q.mkHid hb
       clear ho hb))
  go_ret
  exact ⟨_, rfl, HO.out, HB.out⟩

/-- The bytes x are what Fixed writes of b. -/
def Fixd (b x : List Nat) : Prop := Small x ∧ val x = (fixE b).1 ∧ x.length = ((fixE b).2 + 7) / 8
/-- The bytes x are what Pack answers. -/
def Packd (b x : List Nat) : Prop := (x = stoL b ∨ Fixd b x) ∧ x.length ≤ (stoL b).length ∧ x.length ≤ ((fixE b).2 + 7) / 8

theorem own_slc {w : World} {B e sz : Nat} {v : Value} {n : Nat} {xs : List Value} (h : w.ownsRow B e sz v n xs) : ∃ ao cap, v = .slice ao n cap := by
  rcases h.2 with ⟨rfl, hn⟩ | ⟨g, cap, cur, rfl, _⟩
  · exact ⟨none, 0, by rw [hn]⟩
  · exact ⟨_, _, rfl⟩

theorem fix_small (b : List Nat) (hs : Small b) (hb : b.length ≤ 19000) : ((fixE b).2 + 7) / 8 ≤ 100000 := by
  have h1 := putAll_len (Lz.splitL b) fixS (split_ok b hs hb)
  have h2 := split_len b
  have h3 : (sigP litsL 256).2 = 7 := lits_256.1
  have h4 : fixS.2 = 3 := rfl
  simp only [fixE, wadd, h3]
  omega

set_option maxRecDepth 100000 in
theorem pack24 (w : World) (v : Value) (b : List Nat) (hv : Lies w v b) (hs : Small b) (hb : b.length ≤ 19000) :
    Calls Tryd.prog 24 #[v] w fun e w' => ∃ v' x, e = .returned v' ∧ Hid (w'.ownsRow w.heap.size 5 1 v' x.length (x.map byteV)) ∧ Hid (Packd b x) ∧ Hid (Below w.heap.size w w') := by
  obtain ⟨N1, hN1⟩ : ∃ N1, N1 = (stoL b).length := ⟨_, rfl⟩
  obtain ⟨N2, hN2⟩ : ∃ N2, N2 = ((fixE b).2 + 7) / 8 := ⟨_, rfl⟩
  have h21 : Hid (Calls Tryd.prog 21 #[v] w fun e w' => ∃ ao cap, e = .returned (.slice ao N1 cap) ∧ Hid (w'.ownsRow w.heap.size 5 1 (.slice ao N1 cap) (stoL b).length ((stoL b).map byteV)) ∧ Hid (Below w.heap.size w w')) := by
    refine (stored21 w v b hv (by omega)).mono ?_
    rintro e w' ⟨v', rfl, h1, h2⟩
    obtain ⟨ao, cap, rfl⟩ := own_slc h1.out
    rw [← hN1] at *
    exact ⟨ao, cap, rfl, h1, h2⟩
  have h26 : Hid (∀ wx, Hid (Below w.heap.size w wx) → Calls Tryd.prog 26 #[v] wx fun e w' => ∃ ao cap x, e = .returned (.slice ao N2 cap) ∧ Hid (w'.ownsRow w.heap.size 5 1 (.slice ao N2 cap) x.length (x.map byteV)) ∧ Hid (Fixd b x) ∧ Hid (Below wx.heap.size wx w')) := by
    intro wx hx
    refine (fixed26 wx v b (hv.old hx.out) hs hb).mono ?_
    rintro e w' ⟨v', x, rfl, h1, h2, h3, h4, h5⟩
    obtain ⟨ao, cap, rfl⟩ := own_slc h1
    have e : x.length = N2 := by rw [h4, hN2]
    refine ⟨ao, cap, x, by rw [e], ?_, ⟨h2, h3, h4⟩, h5⟩
    show World.ownsRow _ _ _ _ _ _ _
    rw [← e]
    exact owns_base h1 hx.out.size
  have hS : (stoL b).length = b.length + 5 := by simp [stoL, Q.headL]
  have hF := fix_small b hs hb
  have b1 : N1 ≤ 100000 := by omega
  have b2 : N2 ≤ 100000 := by omega
  have HN1 := Q.mkHid hN1
  have HN2 := Q.mkHid hN2
  clear hv hs hb hN1 hN2 hS hF
  by_cases hlt : N2 < N1
  · go_enter Tryd.func24, Tryd.ntmps24
    go_wp2_with (first
      | (go_at_call 21; (with_reducible refine h21.out.mono ?_); rintro e w1 ⟨ao, cap, rfl, HO, HB⟩)
      | (go_at_call 26; (with_reducible refine (h26.out _ HB).mono ?_); rintro e w2 ⟨ao2, cap2, x, rfl, HO2, HX, HB2⟩))
    go_ret
    refine ⟨_, x, rfl, HO2, ⟨.inr HX.out, ?_, ?_⟩, HB.out.trans (HB2.out.mono HB.out.size)⟩
    · have := HX.out.2.2; have := HN1.out; have := HN2.out; omega
    · have := HX.out.2.2; omega
  · go_enter Tryd.func24, Tryd.ntmps24
    go_wp2_with (first
      | (go_at_call 21; (with_reducible refine h21.out.mono ?_); rintro e w1 ⟨ao, cap, rfl, HO, HB⟩)
      | (go_at_call 26; (with_reducible refine (h26.out _ HB).mono ?_); rintro e w2 ⟨ao2, cap2, x, rfl, HO2, HX, HB2⟩))
    go_ret
    refine ⟨_, stoL b, rfl, Lz.owns_below HO.out HB2.out, ⟨.inl rfl, Nat.le_refl _, ?_⟩, HB.out.trans (HB2.out.mono HB.out.size)⟩
    have := HN1.out; have := HN2.out; omega

end Go.Proofs.YtdokpimhhkbdbaaDoor

set_option linter.unusedSimpArgs false
set_option linter.unusedVariables false
namespace Go.Proofs.YtdokpimhhkbdbaaDoor
open Go.RowKit

theorem dig_byte {bs : List Nat} (h : Small bs) (i : Nat) : Q.dig bs (8 * i) 8 = bs.getD i 0 := val_byte h i

theorem dig_two {bs : List Nat} (h : Small bs) (i : Nat) : Q.dig bs (8 * i) 16 = bs.getD i 0 + 256 * bs.getD (i + 1) 0 := by
  have h1 := val_byte h i
  have h2 := val_byte h (i + 1)
  have e : (2 : Nat) ^ (8 * (i + 1)) = 2 ^ (8 * i) * 256 := by rw [Nat.mul_add, Nat.pow_add]
  rw [e, ← Nat.div_div_eq_div_mul] at h2
  unfold Q.dig
  generalize val bs / 2 ^ (8 * i) = x at h1 h2 ⊢
  rw [← h1, ← h2]
  show x % 65536 = _
  omega

theorem sto_low {bs : List Nat} (h : Small bs) (h1 : bs.getD 0 0 = 1) : Q.dig bs 0 1 = 1 ∧ Q.dig bs 1 2 = 0 := by
  have h0 := val_byte h 0
  simp only [Nat.mul_zero, Nat.pow_zero, Nat.div_one] at h0
  rw [h1] at h0
  unfold Q.dig
  simp only [Nat.pow_zero, Nat.div_one, Nat.pow_one]
  constructor
  · omega
  · show val bs / 2 % 4 = 0
    omega

theorem unp_sto {bs : List Nat} (h : Small bs) (hl : 1 ≤ bs.length) (h1 : bs.getD 0 0 = 1) :
    Q.unp bs = match Q.stoAt bs 3 [] with
      | .error n => .error n
      | .ok (p, o) => if 8 * bs.length - p < 8 ∧ Q.dig bs p (8 * bs.length - p) = 0 then .ok o else .error 2 := by
  obtain ⟨e1, e2⟩ := sto_low h h1
  have a1 : ¬ 8 * bs.length < 0 + 1 := by omega
  have a2 : ¬ 8 * bs.length < 0 + 1 + 2 := by omega
  unfold Q.unp
  simp only [Q.allAt, a1, a2, if_false, Nat.zero_add, e1, e2, Q.blkAt, if_true]
  cases Q.stoAt bs 3 [] with
  | error n => rfl
  | ok r => rfl

theorem sto_small (b : List Nat) (hs : Small b) (hn : b.length ≤ 65535) : Small (stoL b) := by
  have hy2 : b.length ^^^ 65535 < 2 ^ 16 := Nat.xor_lt_two_pow (by omega) (by decide)
  intro x hx
  unfold stoL Q.headL at hx
  simp only [List.cons_append, List.nil_append, List.mem_cons, if_true] at hx
  rcases hx with rfl | rfl | rfl | rfl | rfl | hx
  · omega
  · omega
  · omega
  · omega
  · omega
  · exact hs x hx

theorem sto_len (b : List Nat) : (stoL b).length = b.length + 5 := by simp [stoL, Q.headL]

/-- A row that begins as a stored block of n bytes. -/
theorem unp_head {bs : List Nat} (h : Small bs) (n : Nat) (hn : n ≤ 65535) (hl : 5 ≤ bs.length) (g0 : bs.getD 0 0 = 1) (g1 : bs.getD 1 0 = n % 256) (g2 : bs.getD 2 0 = n / 256) (g3 : bs.getD 3 0 = (n ^^^ 65535) % 256) (g4 : bs.getD 4 0 = (n ^^^ 65535) / 256) :
    Q.unp bs = if 8 * bs.length < 40 + n * 8 then .error 2 else if 8 * bs.length - (40 + n * 8) < 8 ∧ Q.dig bs (40 + n * 8) (8 * bs.length - (40 + n * 8)) = 0 then .ok (Q.bytesAt bs 40 n) else .error 2 := by
  have e1 : Q.dig bs 8 16 = n := by
    have := dig_two h 1
    rw [g1, g2] at this
    show Q.dig bs (8 * 1) 16 = n
    rw [this]; omega
  have e2 : Q.dig bs 24 16 = n ^^^ 65535 := by
    have := dig_two h 3
    rw [g3, g4] at this
    show Q.dig bs (8 * 3) 16 = _
    rw [this]; omega
  rw [unp_sto h (by omega) g0]
  have a1 : ¬ 8 * bs.length < 8 + 16 := by omega
  have a2 : ¬ 8 * bs.length < 8 + 16 + 16 := by omega
  have a3 : ¬ 65536 < 0 + n := by omega
  have e0 : (3 + 7) / 8 * 8 = 8 := rfl
  have e3 : 8 + 16 = 24 := rfl
  unfold Q.stoAt
  rw [e0, if_neg a1, if_neg a2, e3, e1, e2, if_neg (by simp)]
  have e4 : 8 + 32 = 40 := rfl
  rw [e4]
  by_cases c : 8 * bs.length < 40 + n * 8
  · rw [if_pos c, if_pos c]
  · rw [if_neg c, if_neg c, if_neg (by simpa using (by omega : n ≤ 65536))]
    rfl

theorem getD_app (a b : List Nat) (i : Nat) (h : i < a.length) : (a ++ b).getD i 0 = a.getD i 0 := by
  simp [List.getD_eq_getElem?_getD, List.getElem?_append_left h]

theorem getD_tk (a : List Nat) (k i : Nat) (h : i < k) : (a.take k).getD i 0 = a.getD i 0 := by
  simp [List.getD_eq_getElem?_getD, List.getElem?_take, h]

theorem sto_bytes (b x : List Nat) (hs : Small (stoL b ++ x)) : Q.bytesAt (stoL b ++ x) 40 b.length = b := by
  unfold Q.bytesAt
  apply List.ext_getElem
  · simp
  · intro k h1 h2
    simp only [List.getElem_map, List.getElem_range]
    have e : 40 + 8 * k = 8 * (5 + k) := by omega
    rw [e, dig_byte hs, getD_app _ _ _ (by rw [sto_len]; omega)]
    unfold stoL
    rw [List.getD_eq_getElem?_getD, List.getElem?_append_right (by simp [Q.headL])]
    simp [Q.headL, h2]

theorem unp_sto_whole (b : List Nat) (hs : Small b) (hn : b.length ≤ 65535) : Q.unp (stoL b) = .ok b := by
  have h := sto_small b hs hn
  have hb := sto_bytes b [] (by rw [List.append_nil]; exact h)
  rw [List.append_nil] at hb
  rw [unp_head h b.length hn (by rw [sto_len]; omega) rfl rfl rfl rfl rfl, sto_len, hb]
  have e : 8 * (b.length + 5) - (40 + b.length * 8) = 0 := by omega
  rw [if_neg (by omega), e, if_pos ⟨by decide, by simp [Q.dig, Nat.mod_one]⟩]

theorem unp_sto_more (b : List Nat) (m : Nat) (hs : Small b) (hn : b.length ≤ 65535) (hm : m < 256) : Q.unp (stoL b ++ [m]) = .error 2 := by
  have h : Small (stoL b ++ [m]) := by
    intro x hx
    rcases List.mem_append.1 hx with hx | hx
    · exact sto_small b hs hn x hx
    · simp at hx; omega
  have hl : (stoL b ++ [m]).length = b.length + 6 := by rw [List.length_append, sto_len]; rfl
  rw [unp_head h b.length hn (by omega) rfl rfl rfl rfl rfl, hl, if_neg (by omega), if_neg (by omega)]

theorem unp_sto_cut (b : List Nat) (k : Nat) (hs : Small b) (hn : b.length ≤ 65535) (hk : k < (stoL b).length) : Q.unp ((stoL b).take k) = .error 2 := by
  have h : Small ((stoL b).take k) := fun x hx => sto_small b hs hn x (List.mem_of_mem_take hx)
  rw [sto_len] at hk
  have hl : ((stoL b).take k).length = k := by rw [List.length_take, sto_len]; omega
  by_cases h0 : k = 0
  · subst h0; simp [Q.unp, Q.allAt]
  by_cases h5 : k < 5
  · rw [unp_sto h (by omega) (by rw [getD_tk _ _ _ (by omega)]; rfl)]
    unfold Q.stoAt
    rw [hl]
    have e0 : (3 + 7) / 8 * 8 = 8 := rfl
    rw [e0]
    by_cases c : 8 * k < 8 + 16
    · rw [if_pos c]
    · rw [if_neg c, if_pos (by omega)]
  · rw [unp_head h b.length hn (by omega) (by rw [getD_tk _ _ _ (by omega)]; rfl) (by rw [getD_tk _ _ _ (by omega)]; rfl) (by rw [getD_tk _ _ _ (by omega)]; rfl) (by rw [getD_tk _ _ _ (by omega)]; rfl) (by rw [getD_tk _ _ _ (by omega)]; rfl), hl, if_pos (by omega)]

end Go.Proofs.YtdokpimhhkbdbaaDoor
