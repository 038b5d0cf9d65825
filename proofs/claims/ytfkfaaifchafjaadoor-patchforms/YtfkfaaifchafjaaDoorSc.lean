/-
  In, Same of texts, Text, Less walked.
-/
import Derived.Test.YtfkfaaifchafjaaDoorSa
set_option linter.unusedSimpArgs false
set_option linter.unusedVariables false
namespace Go.Proofs.YtfkfaaifchafjaaDoor
open Go.RowKit

theorem spot_none {w : World} {a : Addr} {u : Value} (h : w.cell? a = some u) : a = ⟨a.block, a.off, none⟩ := by
  obtain ⟨b, o, s⟩ := a
  cases s with
  | none => rfl
  | some s =>
    exfalso
    unfold World.cell? at h
    split at h <;> simp_all

theorem add_none (b o k : Nat) : (⟨b, o, none⟩ : Addr).add k = ⟨b, o + k, none⟩ := by unfold Addr.add; split <;> simp_all

theorem LiesS.form {w : World} {v : Value} {ss : List (List UInt8)} (h : LiesS w v ss) (hn : 0 < ss.length) : ∃ b off cap, v = .slice (some ⟨b, off, none⟩) ss.length cap ∧ ss.length ≤ cap ∧ ∀ k, k < ss.length → w.cell? ⟨b, off + k, none⟩ = some (encStr (ss.getD k [])) := by
  obtain ⟨a, cap, h1, h2, h3⟩ := h.at hn
  have e := spot_none (h3 0 hn)
  have e2 : a.add 0 = a := rfl
  rw [e2] at e
  refine ⟨a.block, a.off, cap, by rw [h1]; congr 2, h2, fun k hk => ?_⟩
  have := h3 k hk
  rw [e, add_none] at this
  exact this

theorem contains_eq (ss : List (List UInt8)) (x : ByteArray) : Lib.containsS (ss.map fun l => (⟨l.toArray⟩ : ByteArray)) x = decide (x.data.toList ∈ ss) := by
  rw [Bool.eq_iff_iff, Lib.containsS_iff, decide_eq_true_eq, List.mem_map]
  constructor
  · rintro ⟨l, hl, rfl⟩; simpa using hl
  · intro h; exact ⟨_, h, by cases x; simp⟩

theorem contains_lies (w : World) (v : Value) (ss : List (List UInt8)) (x : ByteArray) (hv : LiesS w v ss) (hl : ss.length ≤ 9000000000000) :
    Calls Tryd.prog 94 #[v, .string x] w fun e w' => e = .returned (.bool (decide (x.data.toList ∈ ss))) ∧ w' = w := by
  by_cases h0 : ss.length = 0
  · obtain ⟨ao, cap, rfl, _⟩ := hv
    have e1 : ss = [] := List.length_eq_zero_iff.1 h0
    subst e1
    simpa using Tryd.slices_Contains_string_empty ao cap x w
  · obtain ⟨b, off, cap, rfl, h2, h3⟩ := hv.form (by omega)
    have := Tryd.slices_Contains_string b off ss.length cap (ss.map fun l => (⟨l.toArray⟩ : ByteArray)) x w (by simp) (by omega) (fun j hj => by
      have hj' : j < ss.length := by simpa using hj
      rw [h3 j hj']
      simp [hj', encStr])
    rw [List.take_of_length_le (by simp), contains_eq] at this
    exact this

set_option maxHeartbeats 1000000 in
theorem in_walk (w : World) (v : Value) (ss : List (List UInt8)) (x : ByteArray) (hv : LiesS w v ss) (hl : ss.length ≤ 9000000000000) :
    Calls Tryd.prog 85 #[v, .string x] w fun e w' => e = .returned (.bool (decide (x.data.toList ∈ ss))) ∧ w' = w := by
  have k1 := mkHid (contains_lies w v ss x hv hl)
  obtain ⟨ao, cap, rfl, _⟩ := hv
  go_enter Tryd.func85, Tryd.ntmps85
  go_wp2_with (go_at_call 94; (with_reducible refine k1.out.mono ?_); rintro e w1 ⟨rfl, rfl⟩)
  go_ret
  exact ⟨rfl, rfl⟩

theorem list_ne {p q : ByteArray} (h : p ≠ q) : ¬ p.toList = q.toList := fun e => h (by
  rw [ByteArray.toList_eq, ByteArray.toList_eq] at e
  exact ByteArray.ext (Array.toList_inj.1 e))

theorem ext_take (s : ByteArray) (k : Nat) : s.extract 0 k = ⟨(s.data.toList.take k).toArray⟩ := by
  apply ByteArray.ext
  apply Array.toList_inj.1
  rw [ByteArray.data_extract]
  simp

set_option maxHeartbeats 1000000 in
theorem text_walk (s : ByteArray) (n : Nat) (w : World) (hs : s.size ≤ maxLen) (hn : n < 1000) :
    Calls Tryd.prog 87 #[.string s, .int .i64 (n : Int)] w fun e w' => e = .returned (.string ⟨(s.data.toList.take n).toArray⟩) ∧ w' = w := by
  have hz : s.data.toList.length = s.size := by simp
  unfold maxLen at hs
  by_cases h : s.size ≤ n
  · have e : Hid (s.data.toList.take n = s.data.toList.take (min (s.size : Int) n).toNat) := by
      show _ = _
      rw [List.take_of_length_le (by omega), List.take_of_length_le (by omega)]
    clear hz
    go_enter Tryd.func87, Tryd.ntmps87
    go_wp2
    go_ret
    exact ⟨by rw [ext_take, e.out]; rfl, rfl⟩
  · have e : Hid (n = (min (s.size : Int) n).toNat) := by show _ = _; omega
    clear hz
    go_enter Tryd.func87, Tryd.ntmps87
    go_wp2
    go_ret
    exact ⟨by rw [ext_take, ← e.out]; rfl, rfl⟩

set_option maxHeartbeats 1000000 in
theorem same_len (w : World) (u v : Value) (xs ys : List (List UInt8)) (hu : LiesS w u xs) (hv : LiesS w v ys) (hlen : xs.length = ys.length) (hl : xs.length ≤ 281474976710656) :
    Calls Tryd.prog 13 #[u, v] w fun e w' => e = .returned (.bool (decide (xs = ys))) ∧ Below w.heap.size w w' := by
  by_cases h0 : xs.length = 0
  · obtain ⟨ao, cap, rfl, _⟩ := hu
    obtain ⟨bo, cap', rfl, _⟩ := hv
    have e1 : xs = [] := List.length_eq_zero_iff.1 h0
    subst e1
    have e2 : ys = [] := List.length_eq_zero_iff.1 (by simpa using hlen.symm)
    subst e2
    go_enter Tryd.func13, Tryd.ntmps13
    go_wp2
    refine wp_loop_rounds 1 ?_
    rw [rounds_succ]
    go_wp2
    go_ret
    exact ⟨rfl, Below.refl _ _⟩
  obtain ⟨a, ca, rfl, _, hca⟩ := hu.at (by omega)
  obtain ⟨b, cb, rfl, _, hcb⟩ := hv.at (by omega)
  rw [← hlen] at hcb ⊢
  obtain ⟨n, hn⟩ : ∃ n, n = xs.length := ⟨_, rfl⟩
  rw [← hn] at hca hcb hl h0 ⊢
  have HN : Hid (n = xs.length ∧ n = ys.length) := ⟨hn, hn.trans hlen⟩
  clear hn hlen hu hv
  go_enter Tryd.func13, Tryd.ntmps13
  go_wp2
  go_loopw [5] (fun i wr => ∃ k : Nat, k ≤ n ∧ i = .int .i64 k ∧ Hid (∀ j, j < k → xs.getD j [] = ys.getD j []) ∧ Below w.heap.size w wr) (fun i _ => n - (intOf i).toNat)
  case atStart => exact ⟨0, by omega, rfl, (fun j hj => by omega), Below.refl _ _⟩
  case round =>
    obtain ⟨k, hk, rfl, HA, hb⟩ := hrel
    by_cases hkn : k < n
    · have ha' := cell_old hb (hca k hkn)
      have hb' := cell_old hb (hcb k hkn)
      unfold encStr at ha' hb'
      obtain ⟨x, hx⟩ : ∃ x : ByteArray, x = ⟨(xs.getD k []).toArray⟩ := ⟨_, rfl⟩
      obtain ⟨y, hy⟩ : ∃ y : ByteArray, y = ⟨(ys.getD k []).toArray⟩ := ⟨_, rfl⟩
      rw [← hx] at ha'
      rw [← hy] at hb'
      have HX := mkHid hx
      have HY := mkHid hy
      clear hx hy
      by_cases hxy : x = y
      · have hne : (x.toList == y.toList) = true := by rw [hxy]; simp
        have HXY : Hid (x = y) := hxy
        clear hxy
        go_wp2
        go_quiet (fail)
        go_wp2
        go_roundw
        case rel =>
          refine ⟨k + 1, by omega, by go_num, (fun j hj => ?_), hb.trans ⟨rfl, rfl, rfl, Nat.le_refl _, fun _ _ => rfl⟩⟩
          rcases (show j < k ∨ j = k by omega) with h | rfl
          · exact HA.out j h
          · have := HXY.out
            rw [HX.out, HY.out] at this
            simpa using this
        case measure => exact meas hkn
      · have hne : (x.toList == y.toList) = false := by simpa using list_ne hxy
        have HXY : Hid (¬ x = y) := hxy
        clear hxy
        go_wp2
        go_quiet (fail)
        go_wp2
        go_ret
        refine ⟨ret_bool ?_, hb.trans ⟨rfl, rfl, rfl, Nat.le_refl _, fun _ _ => rfl⟩⟩
        have : xs ≠ ys := fun h => HXY.out (by rw [HX.out, HY.out, h])
        simp [this]
    · have hkk : k = n := by omega
      subst hkk
      go_wp2
      go_ret
      refine ⟨ret_bool ?_, hb⟩
      have : xs = ys := by
        apply List.ext_getElem (by rw [← HN.out.1, ← HN.out.2])
        intro j h1 h2
        have := HA.out j (by have := HN.out.1; omega)
        simpa [h1, h2] using this
      simp [this]

theorem same_off (w : World) (u v : Value) (xs ys : List (List UInt8)) (hu : LiesS w u xs) (hv : LiesS w v ys) (hlen : xs.length ≠ ys.length) :
    Calls Tryd.prog 13 #[u, v] w fun e w' => e = .returned (.bool (decide (xs = ys))) ∧ Below w.heap.size w w' := by
  obtain ⟨ao, ca, rfl, _⟩ := hu
  obtain ⟨bo, cb, rfl, _⟩ := hv
  have hne : ((xs.length : Int) != (ys.length : Int)) = true := by simp; omega
  have h : decide (xs = ys) = false := by
    have : xs ≠ ys := fun h => hlen (by rw [h])
    simp [this]
  rw [h]
  clear h hlen
  go_enter Tryd.func13, Tryd.ntmps13
  go_wp2
  go_ret
  exact ⟨rfl, Below.refl _ _⟩

/-- Same: whatever it is handed. -/
theorem same_any (w : World) (u v : Value) (xs ys : List (List UInt8)) (hu : LiesS w u xs) (hv : LiesS w v ys) (hl : xs.length ≤ 281474976710656) :
    Calls Tryd.prog 13 #[u, v] w fun e w' => e = .returned (.bool (decide (xs = ys))) ∧ Below w.heap.size w w' := by
  by_cases h : xs.length = ys.length
  · exact same_len w u v xs ys hu hv h hl
  · exact same_off w u v xs ys hu hv h

end Go.Proofs.YtfkfaaifchafjaaDoor
