/-
  The document's example (wakes); Open walked.
-/
import Derived.Test.YtnldjcjhhenppaaAb
set_option linter.unusedSimpArgs false
set_option linter.unusedVariables false
namespace Go.Proofs.Ytnldjcjhhenppaa
open Go.RowKit

/-- Bytes of a text that a law writes out. -/
theorem lies_const (w : World) (L : List Nat) (cs : Array Value) (hcs : cs = (L.map byteV).toArray) (fr : Nat × Nat) : Lies (w.alloc (.cells cs 5 fr)) (.slice (some ⟨w.heap.size, 0, none⟩) L.length L.length) L := by
  subst hcs
  refine ⟨_, _, rfl, Nat.le_refl _, fun h => (by cases h), fun a ha j u hu => ?_⟩
  cases ha
  have hadd : (⟨w.heap.size, 0, none⟩ : Addr).add j = ⟨w.heap.size, j, none⟩ := by unfold Addr.add; split <;> simp_all
  rw [hadd, cell_of_row _ _ j _ 5 fr (heap_alloc_new w _)]
  simpa using hu

theorem conv_const : ∀ (w : World) (C : Array Value) (n c : Nat), (convert 22 22 (.slice (some ⟨w.heap.size, 0, none⟩) n c)).run Try.prog (w.alloc (.cells C 5)) = .ok (.slice (some ⟨w.heap.size, 0, none⟩) n c) (w.alloc (.cells C 5 (C.size, C.size + 1))) := fun w C n c => Lib.run_convert_bytes_const w 22 5 C n c Try.underlying22 Try.underlying5

theorem lies_nil (w : World) : Lies w (.slice none 0 0) [] := ⟨none, 0, rfl, Nat.le_refl _, fun _ => rfl, fun a ha => by cases ha⟩

set_option maxRecDepth 100000 in
theorem wakes_walk (w : World) : Calls Try.prog 10 #[] w fun e w' => e = .returned (.bool true) ∧ Below w.heap.size w w' := by
  obtain ⟨w1, hw1⟩ : ∃ w1, w1 = w.alloc (.cells #[.int .u8 87, .int .u8 105, .int .u8 107, .int .u8 105, .int .u8 112, .int .u8 101, .int .u8 100, .int .u8 105, .int .u8 97] 5 (9, 10)) := ⟨_, rfl⟩
  have hb1 : Below w.heap.size w w1 := by rw [hw1]; exact (Below.refl _ w).alloc (Nat.le_refl _) _
  have h1 : Hid (Calls Try.prog 8 #[.slice (some ⟨w.heap.size, 0, none⟩) 9 9] w1 fun e w' => e = .returned (.int .i64 300286872) ∧ w' = w1) := by
    have h := of_walk w1 _ [87, 105, 107, 105, 112, 101, 100, 105, 97] (by rw [hw1]; exact lies_const w [87, 105, 107, 105, 112, 101, 100, 105, 97] _ rfl _) (by unfold Small; decide) (by decide)
    exact h
  have h2 : Hid (Calls Try.prog 8 #[.slice none 0 0] w1 fun e w' => e = .returned (.int .i64 1) ∧ w' = w1) := of_walk w1 _ [] (lies_nil w1) (by unfold Small; decide) (by decide)
  have kc := conv_const
  go_enter Try.func10, Try.ntmps10
  go_wp2_with (first
    | (go_at_call 8; rw [← hw1]; (with_reducible refine h1.out.mono ?_); rintro e w2 ⟨rfl, rfl⟩; clear kc hw1)
    | (go_at_call 8; (with_reducible refine h2.out.mono ?_); rintro e w3 ⟨rfl, rfl⟩))
  go_ret
  exact ⟨rfl, hb1⟩

theorem wakes_hid : Hid (∀ w, Calls Try.prog 10 #[] w fun e w' => e = .returned (.bool true) ∧ Below w.heap.size w w') := wakes_walk

/-- Four bytes as one number, the highest first. -/
def num (l : List Nat) : Nat := l.foldl (fun s x => s * 256 + x) 0

theorem num_snoc (l : List Nat) (x : Nat) : num (l ++ [x]) = num l * 256 + x := by simp [num]

theorem num_take (bs : List Nat) (k : Nat) (h : k < bs.length) : num (bs.take (k + 1)) = num (bs.take k) * 256 + bs.getD k 0 := by
  rw [← num_snoc]
  congr 1
  rw [List.take_add_one]
  simp [h]

theorem num3_lt (bs : List Nat) (hs : Small bs) (k : Nat) (hk : k ≤ 3) (hl : 4 ≤ bs.length) : num (bs.take k) < 16777216 := by
  have a := small_at hs 0
  have b := small_at hs 1
  have c := small_at hs 2
  have h1 : num (bs.take 1) = _ := num_take bs 0 (by omega)
  have h2 : num (bs.take 2) = _ := num_take bs 1 (by omega)
  have h3 : num (bs.take 3) = _ := num_take bs 2 (by omega)
  have h0 : num (bs.take 0) = 0 := by simp [num]
  rw [h0] at h1
  rw [h1] at h2
  rw [h2] at h3
  rcases (show k = 0 ∨ k = 1 ∨ k = 2 ∨ k = 3 by omega) with rfl | rfl | rfl | rfl <;> omega

theorem num4 (bs : List Nat) (hl : 4 ≤ bs.length) : num (bs.take 4) = ((bs.getD 0 0 * 256 + bs.getD 1 0) * 256 + bs.getD 2 0) * 256 + bs.getD 3 0 := by
  have h1 : num (bs.take 1) = _ := num_take bs 0 (by omega)
  have h2 : num (bs.take 2) = _ := num_take bs 1 (by omega)
  have h3 : num (bs.take 3) = _ := num_take bs 2 (by omega)
  have h4 : num (bs.take 4) = _ := num_take bs 3 (by omega)
  have h0 : num (bs.take 0) = 0 := by simp [num]
  rw [h0] at h1
  rw [h1] at h2
  rw [h2] at h3
  rw [h4, h3, Nat.zero_mul, Nat.zero_add]

theorem or_8 (S x : Nat) (hS : S < 16777216) (hx : x < 256) : bits .or .i64 ((S : Int) * 256) (x : Int) = ((S * 256 + x : Nat) : Int) := by
  have h := i64_or_nat (S * 256) x (by omega) (by omega)
  have e := Nat.two_pow_add_eq_or_of_lt (i := 8) (b := x) (by omega) S
  rw [show 2 ^ 8 * S = S * 256 by omega] at e
  rw [e]
  exact h

def opens (bs : List Nat) : Bool := decide (4 ≤ bs.length ∧ sumOf (bs.drop 4) = num (bs.take 4))
def openL (bs : List Nat) : List Nat := if opens bs then bs.drop 4 else []

theorem Lies.drop {w : World} {ad : Addr} {cap : Nat} {bs : List Nat} (h : Lies w (.slice (some ad) bs.length cap) bs) (hl : 4 ≤ bs.length) : Lies w (.slice (if cap = 4 then some ad else some ⟨ad.block, ad.off + 4, none⟩) (bs.length - 4) (cap - 4)) (bs.drop 4) := by
  obtain ⟨ao', cap', h1, h2, h3, h4⟩ := h
  cases h1
  refine ⟨_, _, by rw [List.length_drop], by rw [List.length_drop]; omega, fun h => (by split at h <;> cases h), fun a ha j u hu => ?_⟩
  rw [List.map_drop, List.getElem?_drop] at hu
  have := h4 ad rfl (4 + j) u hu
  split at ha
  · rw [List.getElem?_eq_none (by simp; omega)] at hu
    cases hu
  · have e : a.add j = ad.add (4 + j) := by
      cases ha
      have h4 : (⟨ad.block, ad.off + 4, none⟩ : Addr) = ad.add 4 := by simp [Addr.add]
      rw [h4, Addr.add_add]
    rw [e]
    exact this

theorem small_drop {bs : List Nat} (h : Small bs) (k : Nat) : Small (bs.drop k) := fun b hb => h b (List.mem_of_mem_drop hb)

theorem meas4 {k : Nat} (h : k < 4) : 4 - (intOf (.int .i64 ((k : Int) + 1))).toNat < 4 - (intOf (.int .i64 (k : Int))).toNat := by
  simp [intOf]; omega

set_option maxRecDepth 100000 in
set_option maxHeartbeats 4000000 in
theorem open_walk (w : World) (v : Value) (bs : List Nat) (hv : Lies w v bs) (hs : Small bs) (hl : bs.length ≤ 140737488400000) :
    Calls Try.prog 13 #[v] w fun e w' => ∃ v', e = .returned (.tuple #[v', .bool (opens bs)]) ∧ w'.ownsRow w.heap.size 5 1 v' (openL bs).length ((openL bs).map byteV) ∧ Below w.heap.size w w' := by
  by_cases h4 : bs.length < 4
  · have e : opens bs = false := by
      unfold opens
      rw [decide_eq_false_iff_not]
      omega
    have e2 : openL bs = [] := by unfold openL; rw [e]; rfl
    rw [e, e2]
    obtain ⟨ao, cap, rfl, _⟩ := hv
    have d1 : (bs.length : Int) < 4 := by omega
    clear e e2
    go_enter Try.func13, Try.ntmps13
    go_wp2
    go_ret2
    exact ⟨_, rfl, World.ownsRow_nil _ _ _ _, Below.refl _ _⟩
  · obtain ⟨ad, cap, rfl, hc⟩ := hv.at (by omega)
    have hcap : bs.length ≤ cap := by obtain ⟨_, _, h1, h2, _⟩ := hv; cases h1; exact h2
    have hd := hv.drop (by omega)
    have hof : Hid (Calls Try.prog 8 #[.slice (if cap = 4 then some ad else some ⟨ad.block, ad.off + 4, none⟩) (bs.length - 4) (cap - 4)] w fun e w' => e = .returned (.int .i64 (sumOf (bs.drop 4) : Nat)) ∧ w' = w) := of_walk w _ _ hd (small_drop hs 4) (by rw [List.length_drop]; omega)
    have HD := mkHid hd
    have hnum : ∀ k, k < 4 → num (bs.take k) < 16777216 := fun k hk => num3_lt bs hs k (by omega) (by omega)
    have HU := mkHid hnum
    have hc2 : ∀ k, k < 4 → w.cell? (ad.add k) = some (.int .u8 (bs.getD k 0 : Nat)) := fun k hk => hc k (by omega)
    have ht : ∀ k, k < 4 → num (bs.take (k + 1)) = num (bs.take k) * 256 + bs.getD k 0 := fun k hk => num_take bs k (by omega)
    have HT := mkHid ht
    obtain ⟨n, hn⟩ : ∃ n, n = bs.length := ⟨_, rfl⟩
    rw [← hn] at hcap hof HD hl h4 ⊢
    have HN := mkHid hn
    clear hn hd hnum ht hc hv
    have hn4 : (4 : Int) ≤ n := by omega
    have hnc : (n : Int) ≤ cap := by omega
    go_enter Try.func13, Try.ntmps13
    go_wp2
    go_loopw [4, 14] (fun s i wr => ∃ k S : Nat, k ≤ 4 ∧ s = .int .i64 S ∧ i = .int .i64 k ∧ Hid (S = num (bs.take k)) ∧ wr = w) (fun _ i _ => 4 - (intOf i).toNat)
    case atStart => exact ⟨0, 0, by omega, rfl, rfl, by simp [num, Hid], rfl⟩
    case round =>
      obtain ⟨k, S, hk, rfl, rfl, HS, rfl⟩ := hrel
      by_cases hk4 : k < 4
      · have c1 := hc2 k hk4
        obtain ⟨x, hx⟩ : ∃ x, x = bs.getD k 0 := ⟨_, rfl⟩
        rw [← hx] at c1
        have hx2 : x < 256 := by rw [hx]; exact small_at hs k
        have HX := mkHid hx
        have hS : S < 16777216 := by rw [HS.out]; exact HU.out k hk4
        have o8 := or_8 S x hS hx2
        have hSi : (S : Int) < 16777216 := by omega
        have hki : (k : Int) < 4 := by omega
        have hw : wrap64 ((k : Int) + 1) = k + 1 := by unfold wrap64; omega
        have HS2 : Hid (S * 256 + x = num (bs.take (k + 1))) := by
          show _ = _
          rw [HT.out k hk4, ← HS.out, ← HX.out]
        clear hx hc2 hof HU HT
        go_wp2
        go_roundw
        case rel => exact ⟨k + 1, S * 256 + x, by omega, by first | rfl | exact congrArg (Value.int .i64) o8, by first | rfl | go_num, HS2, trivial⟩
        case measure => first | exact meas4 hk4 | (rw [hw]; exact meas4 hk4)
      · have hkk : k = 4 := by omega
        subst hkk
        have HE : Hid (S = num (bs.take 4)) := HS
        obtain ⟨s2, hs2⟩ : ∃ s2, s2 = sumOf (bs.drop 4) := ⟨_, rfl⟩
        rw [← hs2] at hof
        have HS2 := mkHid hs2
        have hB := Nat.le_refl wr.heap.size
        have hnil : Hid (wr.ownsRow wr.heap.size 5 1 (.slice none 0 0) 0 []) := World.ownsRow_nil _ _ _ _
        have hlen : Hid (0 + (bs.drop 4).length ≤ 140737488400000) := by show _ ≤ _; rw [List.length_drop]; have := HN.out; omega
        clear hs2 hc2 HU HT HS
        rw [show ((4 : Nat) : Int) = 4 from rfl]
        by_cases hc4 : cap = 4
        · have hn5 : n = 4 := by omega
          subst hc4
          subst hn5
          simp only [if_true, Nat.sub_self] at HD hof
          by_cases hq : s2 = S
          · have d : ((s2 : Int) != (S : Int)) = false := by simp [hq]
            have HQ := mkHid hq
            clear hq
            go_wp2_with (first
              | (go_at_call 8; (with_reducible refine hof.out.mono ?_); rintro e w2 ⟨rfl, rfl⟩)
              | (at_builtin; refine wpList_appL rfl (.const (.slice none 0 0)) (.tmp 30) rfl _ _ _ _ rfl hnil.out _ (bs.drop 4) rfl HD.out hlen.out hB ?_; intro v7 w7 q7 b7 g7))
            go_ret2
            have e : opens bs = true := by
              unfold opens
              rw [decide_eq_true_iff]
              exact ⟨by have := HN.out; omega, by rw [← HS2.out, ← HE.out]; exact HQ.out⟩
            have e2 : openL bs = bs.drop 4 := by unfold openL; rw [e]; rfl
            rw [e, e2]
            exact ⟨_, rfl, by simpa using q7, b7⟩
          · have d : ((s2 : Int) != (S : Int)) = true := by simp; omega
            have HQ := mkHid hq
            clear hq
            go_wp2_with (go_at_call 8; (with_reducible refine hof.out.mono ?_); rintro e w2 ⟨rfl, rfl⟩)
            go_ret2
            have e : opens bs = false := by
              unfold opens
              rw [decide_eq_false_iff_not]
              rintro ⟨_, h⟩
              exact HQ.out (by rw [HS2.out, HE.out]; exact h)
            have e2 : openL bs = [] := by unfold openL; rw [e]; rfl
            rw [e, e2]
            exact ⟨_, rfl, World.ownsRow_nil _ _ _ _, Below.refl _ _⟩
        · simp only [if_neg hc4] at HD hof
          by_cases hq : s2 = S
          · have d : ((s2 : Int) != (S : Int)) = false := by simp [hq]
            have HQ := mkHid hq
            clear hq
            go_wp2_with (first
              | (go_at_call 8; (with_reducible refine hof.out.mono ?_); rintro e w2 ⟨rfl, rfl⟩)
              | (at_builtin; refine wpList_appL rfl (.const (.slice none 0 0)) (.tmp 30) rfl _ _ _ _ rfl hnil.out _ (bs.drop 4) rfl HD.out hlen.out hB ?_; intro v7 w7 q7 b7 g7))
            go_ret2
            have e : opens bs = true := by
              unfold opens
              rw [decide_eq_true_iff]
              exact ⟨by have := HN.out; omega, by rw [← HS2.out, ← HE.out]; exact HQ.out⟩
            have e2 : openL bs = bs.drop 4 := by unfold openL; rw [e]; rfl
            rw [e, e2]
            exact ⟨_, rfl, by simpa using q7, b7⟩
          · have d : ((s2 : Int) != (S : Int)) = true := by simp; omega
            have HQ := mkHid hq
            clear hq
            go_wp2_with (go_at_call 8; (with_reducible refine hof.out.mono ?_); rintro e w2 ⟨rfl, rfl⟩)
            go_ret2
            have e : opens bs = false := by
              unfold opens
              rw [decide_eq_false_iff_not]
              rintro ⟨_, h⟩
              exact HQ.out (by rw [HS2.out, HE.out]; exact h)
            have e2 : openL bs = [] := by unfold openL; rw [e]; rfl
            rw [e, e2]
            exact ⟨_, rfl, World.ownsRow_nil _ _ _ _, Below.refl _ _⟩

end Go.Proofs.Ytnldjcjhhenppaa
