/-
  Stored of two blocks; the document's Stored.
-/
import Derived.Test.YtdokpimhhkbdbaaDoorBg
import Derived.Deep.DeepCutAuto
set_option linter.unusedSimpArgs false
set_option linter.unusedVariables false
namespace Go.Proofs.YtdokpimhhkbdbaaDoor
open Go.RowKit

/-- What Stored answers of at most 131070 bytes. -/
def sto2 (b : List Nat) : List Nat := if b.length ≤ 65535 then stoL b else Q.headL 65535 false ++ b.take 65535 ++ Q.headL (b.length - 65535) true ++ b.drop 65535

theorem lies_drop {w : World} {ad : Addr} {cap : Nat} {bs : List Nat} (k : Nat) (h : Lies w (.slice (some ad) bs.length cap) bs) (hk0 : 0 < k) (hl : k ≤ bs.length) : Lies w (.slice (some ⟨ad.block, ad.off + k, none⟩) (bs.length - k) (cap - k)) (bs.drop k) := by
  obtain ⟨ao', cap', h1, h2, h3, h4⟩ := h
  cases h1
  refine ⟨_, _, by rw [List.length_drop], by rw [List.length_drop]; omega, fun h => (by cases h), fun a ha j u hu => ?_⟩
  rw [List.map_drop, List.getElem?_drop] at hu
  have := h4 ad rfl (k + j) u hu
  have e : a.add j = ad.add (k + j) := by
    cases ha
    have h4 : (⟨ad.block, ad.off + k, none⟩ : Addr) = ad.add k := by unfold Addr.add; rw [if_neg (by omega)]
    rw [h4, Addr.add_add]
  rw [e]
  exact this

theorem not16 (n : Nat) (h : n ≤ 65535) : n ^^^ 65535 = 65535 - n := by
  apply Nat.eq_of_testBit_eq
  intro i
  rw [Nat.testBit_xor]
  have e1 := Nat.testBit_two_pow_sub_succ (x := n) (n := 16) (by omega) i
  have e2 := Nat.testBit_two_pow_sub_one 16 i
  rw [show (2 : Nat) ^ 16 - (n + 1) = 65535 - n by omega] at e1
  rw [show (2 : Nat) ^ 16 - 1 = 65535 by decide] at e2
  rw [e1, e2]
  by_cases hi : i < 16
  · simp [hi]
  · have : n.testBit i = false := Nat.testBit_lt_two_pow (Nat.lt_of_lt_of_le (show n < 2 ^ 16 by omega) (Nat.pow_le_pow_right (by decide) (by omega)))
    simp [hi, this]

theorem lies_grow {w wa wb : World} {v : Value} {b : List Nat} {o : Option Nat} (h0 : Lies w v b) (hg : wa.grownBy wb o) (ho : ∀ k, o = some k → w.heap.size ≤ k) (hl : Lies wa v b) : Lies wb v b := by
  obtain ⟨ao, cap, rfl, h2, h3, h4⟩ := h0
  obtain ⟨ao', cap', e, k2, k3, k4⟩ := hl
  simp only [Value.slice.injEq, true_and] at e
  obtain ⟨rfl, rfl⟩ := e
  refine ⟨ao, cap, rfl, h2, h3, fun a ha j u hu => ?_⟩
  have c0 := h4 a ha j u hu
  have c1 := k4 a ha j u hu
  have l0 := cell_lt c0
  have l1 := cell_lt c1
  rw [World.cell?_of_block (w := wa) (hg.block _ l1 (fun e => by have := ho _ e.symm; omega))]
  exact c1

set_option maxRecDepth 100000 in
set_option maxHeartbeats 4000000 in
theorem stored2 (w : World) (v : Value) (b : List Nat) (hv : Lies w v b) (h1 : 65535 < b.length) (h2 : b.length ≤ 131070) :
    Calls Tryd.prog 21 #[v] w fun e w' => ∃ v', e = .returned v' ∧ Hid (w'.ownsRow w.heap.size 5 1 v' (sto2 b).length ((sto2 b).map byteV)) ∧ Hid (Below w.heap.size w w') := by
  obtain ⟨ad, cap, rfl, -⟩ := hv.at (by omega)
  have hcap : b.length ≤ cap := by obtain ⟨_, _, e, h, _⟩ := hv; cases e; exact h
  have t1 : Lies w (.slice (some ad) 65535 cap) (b.take 65535) := hv.take 65535 (by omega)
  have t2 := lies_drop 65535 hv (by decide) (by omega)
  have l1 : (b.take 65535).length = 65535 := by rw [List.length_take]; omega
  have l2 : (b.drop 65535).length = b.length - 65535 := List.length_drop
  have k1 : Hid (Calls Tryd.prog 37 #[.slice none 0 0, .slice (some ad) 65535 cap, .bool false] w fun e w' => ∃ v', e = .returned v' ∧ Hid (w'.ownsRow w.heap.size 5 1 v' (Q.headL 65535 false ++ b.take 65535).length ((Q.headL 65535 false ++ b.take 65535).map byteV)) ∧ Hid (Below w.heap.size w w')) := by
    have h := Q.appendStored_walk w w.heap.size (.slice none 0 0) _ [] (b.take 65535) false (World.ownsRow_nil _ _ _ _) t1 (Nat.le_refl _) (by omega) (by decide) (fun wa wb hg hl _ => lies_grow t1 hg (fun k hk => by cases hk) hl)
    rw [l1, List.nil_append] at h
    exact h
  have k2 : Hid (∀ w1 v1, w1.ownsRow w.heap.size 5 1 v1 (Q.headL 65535 false ++ b.take 65535).length ((Q.headL 65535 false ++ b.take 65535).map byteV) → Below w.heap.size w w1 → Calls Tryd.prog 37 #[v1, .slice (some ⟨ad.block, ad.off + 65535, none⟩) (b.length - 65535) (cap - 65535), .bool true] w1 fun e w' => ∃ v', e = .returned v' ∧ Hid (w'.ownsRow w.heap.size 5 1 v' (sto2 b).length ((sto2 b).map byteV)) ∧ Hid (Below w.heap.size w1 w')) := by
    intro w1 v1 ho hb
    have h := Q.appendStored_walk w1 w.heap.size v1 _ (Q.headL 65535 false ++ b.take 65535) (b.drop 65535) true ho (t2.old hb) hb.size (by omega) (by rw [List.length_append, l1]; decide) (fun wa wb hg hl hw => lies_grow t2 hg (fun k hk => (hw.lt k hk).1) hl)
    have e : sto2 b = Q.headL 65535 false ++ b.take 65535 ++ Q.headL (b.drop 65535).length true ++ b.drop 65535 := by unfold sto2; rw [if_neg (by omega), l2]
    rw [← e] at h
    exact h
  obtain ⟨n, hn⟩ : ∃ n, n = b.length := ⟨_, rfl⟩
  rw [← hn] at k2 h1 h2 hcap ⊢
  have d1 : decide ((65535 : Int) < (n : Int)) = true := by simp; omega
  have d2 : decide ((65535 : Int) < ((n - 65535 : Nat) : Int)) = false := by simp; omega
  have d3 : decide ((65535 : Int) < (n : Int) - 65535) = false := by simp; omega
  have hc1 : (65535 : Int) ≤ (cap : Int) := by omega
  have hc2 : (n : Int) ≤ (cap : Int) := by omega
  have hc3 : (65535 : Int) ≤ (n : Int) := by omega
  have hc4 : ¬ cap = 65535 := by omega
  generalize sto2 b = Z at k2 ⊢
  generalize Q.headL 65535 false ++ b.take 65535 = Y at k1 k2
  clear t1 t2 l1 l2 hv hn
  go_enter Tryd.func21, Tryd.ntmps21
  go_wp2
  refine wp_loop_rounds 2 ?_
  rw [rounds_succ]
  go_wp2_with (first
    | (go_at_call 37; (with_reducible refine k1.out.mono ?_); rintro e w1 ⟨v1, rfl, O1, B1⟩))
  rw [rounds_succ]
  go_wp2_with (first
    | (go_at_call 37; (with_reducible refine (k2.out _ _ O1.out B1.out).mono ?_); rintro e w2 ⟨v2, rfl, O2, B2⟩))
  go_ret
  exact ⟨v2, rfl, O2, B1.out.trans B2.out⟩

theorem sto2_low (b : List Nat) (h : b.length ≤ 65535) : sto2 b = stoL b := by unfold sto2; rw [if_pos h]

/-- Stored, of at most 131070 bytes. -/
theorem stored_any (w : World) (v : Value) (b : List Nat) (hv : Lies w v b) (h2 : b.length ≤ 131070) :
    Calls Tryd.prog 21 #[v] w fun e w' => ∃ v', e = .returned v' ∧ Hid (w'.ownsRow w.heap.size 5 1 v' (sto2 b).length ((sto2 b).map byteV)) ∧ Hid (Below w.heap.size w w') := by
  by_cases h : b.length ≤ 65535
  · rw [sto2_low b h]; exact stored21 w v b hv h
  · exact stored2 w v b hv (by omega) h2

theorem bnot (n : Nat) (h : n ≤ 65535) : bits BinOp.xor IntKind.i64 (if IntKind.i64.signed = true then -1 else 9223372036854775807) (n : Int) = -(n : Int) - 1 := by
  have hsg : IntKind.i64.signed = true := rfl
  rw [if_pos hsg]
  show IntKind.i64.wrap ((BitVec.ofInt 64 (-1) ^^^ BitVec.ofInt 64 (n : Int)).toNat : Int) = _
  have e1 : BitVec.ofInt 64 (-1) = BitVec.allOnes 64 := by decide
  have e2 : (BitVec.ofInt 64 (n : Int)).toNat = n := by rw [BitVec.toNat_ofInt]; omega
  rw [e1, BitVec.allOnes_xor, BitVec.toNat_not, e2, IntKind.wrap_i64]
  omega

/-- The five bytes ahead of a block. -/
def hd5 (n : Nat) (x : Int) : Array Value := #[.int .u8 x, .int .u8 ((n : Int) % 256), .int .u8 ((n : Int) / 256), .int .u8 (bits BinOp.xor IntKind.i64 (if IntKind.i64.signed = true then -1 else 9223372036854775807) (n : Int) % 256), .int .u8 (bits BinOp.xor IntKind.i64 (if IntKind.i64.signed = true then -1 else 9223372036854775807) (n : Int) / 256 % 256)]

theorem hd5_eq (n : Nat) (last : Bool) (h : n ≤ 65535) : hd5 n (if last then 1 else 0) = ((Q.headL n last).map byteV).toArray := by
  unfold hd5 Q.headL
  rw [bnot n h, not16 n h]
  have a1 : (-(n : Int) - 1) % 256 = (((65535 - n) % 256 : Nat) : Int) := by omega
  have a2 : (-(n : Int) - 1) / 256 % 256 = (((65535 - n) / 256 : Nat) : Int) := by omega
  rw [a1, a2]
  cases last <;> rfl

theorem hd5_lies (w : World) (n : Nat) (last : Bool) (x : Int) (hx : x = if last then 1 else 0) (h : n ≤ 65535) : Lies (w.alloc (.cells (hd5 n x) 5)) (.slice (some ⟨w.heap.size, 0, none⟩) 5 5) (Q.headL n last) := by
  subst hx
  exact lies_lit w (Q.headL n last) _ (hd5_eq n last h)

set_option maxRecDepth 100000 in
set_option maxHeartbeats 4000000 in
theorem dstored1 (w : World) (v : Value) (b : List Nat) (hv : Lies w v b) (hn : b.length ≤ 65535) :
    Calls Tryd.prog 28 #[v] w fun e w' => ∃ v', e = .returned v' ∧ Hid (w'.ownsRow w.heap.size 5 1 v' (stoL b).length ((stoL b).map byteV)) ∧ Hid (Below w.heap.size w w') := by
  have HV := Q.mkHid hv
  obtain ⟨ao, cap, rfl, h2, h3, h4⟩ := hv
  obtain ⟨n, hbn⟩ : ∃ n, n = b.length := ⟨_, rfl⟩
  have hB : Hid (stoL b = Q.headL n true ++ b ∧ (stoL b).length = 5 + b.length) := ⟨by unfold stoL; rw [hbn], by rw [sto_len]; omega⟩
  rw [← hbn] at h2 hn HV ⊢
  have HN := Q.mkHid hbn
  have hni : (n : Int) ≤ 65535 := by omega
  have hnc : (n : Int) ≤ cap := by omega
  have HL := Q.mkHid (hd5_lies w n true 1 rfl hn)
  have HA : Hid (Below w.heap.size w (w.alloc (.cells (hd5 n 1) 5))) := (Below.refl _ w).alloc (Nat.le_refl _) _
  have hnil : Hid ((w.alloc (.cells (hd5 n 1) 5)).ownsRow w.heap.size 5 1 (.slice none 0 0) 0 []) := World.ownsRow_nil _ _ _ _
  have HCS : Hid ((ao = none ∧ n = cap) ∨ (∃ ad, ao = some ad ∧ n = cap) ∨ (∃ ad, ao = some ad ∧ ¬ cap = n)) := by
    cases ao with
    | none => exact .inl ⟨rfl, by have := h3 rfl; omega⟩
    | some ad => exact .inr (by by_cases h : cap = n; exact .inl ⟨ad, rfl, h.symm⟩; exact .inr ⟨ad, rfl, h⟩)
  clear h3 h4 hbn
  generalize stoL b = Z at hB ⊢
  go_enter Tryd.func28, Tryd.ntmps28
  go_wp2
  refine wp_loop_rounds 1 ?_
  rw [rounds_succ]
  rcases HCS.out with ⟨rfl, hcn⟩ | ⟨ad, rfl, hcn⟩ | ⟨ad, rfl, hcn⟩
  all_goals
    try subst hcn
    go_wp2_with (first
      | (at_builtin; refine Q.wpList_appL rfl (.tmp 13) (.tmp 27) rfl w.heap.size _ _ _ rfl hnil.out _ (Q.headL n true) rfl HL.out (by simp [Q.headL]) HA.out.size ?_
         intro v1 w1 o1 b1 _
         have O1 := Q.mkHid o1
         have B1 := Q.mkHid (HA.out.trans b1)
         have V1 := Q.mkHid (HV.out.old (HA.out.trans b1))
         clear o1 b1)
      | (at_builtin; refine Q.wpList_appL rfl (.tmp 29) (.tmp 32) rfl w.heap.size _ _ _ rfl O1.out _ b rfl V1.out (by have := HN.out; have h5 : (Q.headL n true).length = 5 := rfl; omega) B1.out.size ?_
         intro v2 w2 o2 b2 _
         have O2 := Q.mkHid o2
         have B2 := Q.mkHid (B1.out.trans b2)
         clear o2 b2))
    go_ret
    refine ⟨v2, rfl, ?_, B2.out⟩
    have h := O2.out
    rw [hB.out.2]
    show World.ownsRow _ _ _ _ _ _ _
    rw [hB.out.1, List.map_append]
    simpa [Q.headL] using h

end Go.Proofs.YtdokpimhhkbdbaaDoor
