/-
  BitsBack: the walk.
-/
import Derived.Test.YtilepfblbdlfkaaMb
import Derived.Test.YtilepfblbdlfkaaRs
import Derived.Test.YtilepfblbdlfkaaArg
set_option linter.unusedSimpArgs false
set_option linter.unusedVariables false
namespace Go.Proofs.Ytilepfblbdlfkaa
open Go.RowKit

theorem in_of {B p N t N' t' : Nat} {w0 w : World} (h : In B p w0 w N t) (h1 : N = N') (h2 : t = t') : In B p w0 w N' t' := by subst h1 h2; exact h

theorem within_fun (zs : List Int) (N : Int) (k : Nat) (hk : 0 < k) (hN : N = k) (hk2 : k < 4294967296) :
    ∃ c : Nat → Nat, (∀ j, c j < k) ∧ Hid (∀ j w, Calls Try.prog 8 #[.int .i64 (zs.getD j 0), .int .i64 N] w fun e w' => e = .returned (.int .i64 (c j : Int)) ∧ w' = w) := by
  subst hN
  refine ⟨fun j => (zs.getD j 0 % (k : Int)).toNat, fun j => ?_, fun j w => ?_⟩
  · have h1 := Int.emod_nonneg (zs.getD j 0) (show (k : Int) ≠ 0 by omega)
    have h2 := Int.emod_lt_of_pos (zs.getD j 0) (show (0 : Int) < k by omega)
    show (zs.getD j 0 % (k : Int)).toNat < k
    omega
  · have h1 := Int.emod_nonneg (zs.getD j 0) (show (k : Int) ≠ 0 by omega)
    show Calls Try.prog 8 #[.int .i64 (zs.getD j 0), .int .i64 (k : Int)] w fun e w' => e = .returned (.int .i64 ((zs.getD j 0 % (k : Int)).toNat : Int)) ∧ w' = w
    rw [Int.toNat_of_nonneg h1]
    exact within_walk (zs.getD j 0) k (by omega) (by omega) w

/-- One round of writing. -/
theorem round_in {B p : Nat} {w0 : World} {a c : Nat → Nat} (k : Nat) (hc : c k < 17) (ht : tot c k ≤ 640) :
    Hid (∀ w, In B p w0 w (num a c k) (tot c k) → Calls Try.prog 11 #[.pointer (some ⟨p, 0, none⟩), .int .i64 (a k : Int), .int .i64 (c k : Int)] w fun e w' => e = .returned (.tuple #[]) ∧ In B p w0 w' (num a c k + low (a k) (c k) * 2 ^ tot c k) (tot c k + c k)) ∧
    Hid (∀ w, In B p w0 w (num a c k + low (a k) (c k) * 2 ^ tot c k) (tot c k + c k) → Calls Try.prog 13 #[.pointer (some ⟨p, 0, none⟩), .int .i64 (a k : Int), .int .i64 (c k : Int)] w fun e w' => e = .returned (.tuple #[]) ∧ In B p w0 w' (num a c (k + 1)) (tot c (k + 1))) :=
  ⟨put_in _ _ _ _ (c k) rfl (by omega) (by omega) _ _ rfl rfl, code_in _ _ _ _ (c k) rfl (by omega) (by omega) _ _ rfl (by simp only [tot]; omega)⟩

theorem low_lt16 (n : Int) (c : Nat) (hc : c < 17) : low n c < 65536 :=
  Nat.lt_of_lt_of_le (low_lt n c) (Nat.pow_le_pow_right (by decide) (by omega) : 2 ^ c ≤ 2 ^ 16)

theorem wrap_pow (c P : Nat) (hP : P = 2 ^ c) (hc : c < 17) : wrap64 ((2 : Int) ^ c) = (P : Int) := by
  have e : ((2 : Int) ^ c) = (P : Int) := by rw [hP]; push_cast; rfl
  have h : P ≤ 65536 := by rw [hP]; exact (Nat.pow_le_pow_right (by decide) (by omega) : 2 ^ c ≤ 2 ^ 16)
  rw [e]
  clear e hP
  unfold wrap64
  omega

theorem shl_one (c P : Nat) (hP : P = 2 ^ c) (hc : c < 17) : Op.shift .shl .i64 1 .u64 (c : Int) = pure (.int .i64 (P : Int)) := by
  have h0 := shift_shl IntKind.i64 IntKind.u64 1 (c : Int) (by omega) (show (c : Int) ≤ 64 by omega)
  have e : IntKind.i64.wrap (1 * 2 ^ (c : Int).toNat) = (P : Int) := by
    rw [Int.one_mul, Int.toNat_natCast, IntKind.wrap_i64]
    have := wrap_pow c P hP hc
    unfold wrap64 at this
    exact this
  rw [h0, e]

theorem some_of {zs : List Int} {ao : Option Addr} {cap : Nat} {w : World} (h2 : zs.length ≤ cap) (h3 : ao = none → cap = 0) (hn : 0 < zs.length) : ∃ A, ao = some A := by
  cases ao with
  | none => have := h3 rfl; omega
  | some A => exact ⟨A, rfl⟩

set_option maxRecDepth 100000 in
set_option maxHeartbeats 4000000 in
theorem back_law (w : World) (u v : Value) (zs cs : List Int) (hu : Ints w u zs) (hv : Ints w v cs) (hl1 : zs.length ≤ 140737488351232) (hl2 : cs.length ≤ 140737488351232) :
    Calls Try.prog 7 #[u, v] w fun e w' => e = .returned (.bool true) ∧ Below w.heap.size w w' := by
  have hnew : Hid (∀ w, Calls Try.prog 9 #[] w fun e w' => e = .returned (.pointer (some ⟨w.heap.size, 0, none⟩)) ∧ In w.heap.size w.heap.size w w' 0 0) := new_in
  have hwk := wakes_hid
  obtain ⟨ua, uc, rfl, hu2, hu3, hu4⟩ := hu
  obtain ⟨va, vc, rfl, hv2, hv3, hv4⟩ := hv
  obtain ⟨n, hn⟩ : ∃ n, n = min (min zs.length cs.length) 20 := ⟨_, rfl⟩
  have hmin : ∀ (w : World), (Builtin.min_ #[3, 3, 3] 3 #[.int .i64 (zs.length : Int), .int .i64 (cs.length : Int), .int .i64 20]).run Try.prog w = .ok (.int .i64 (n : Int)) w := by
    intro w
    rw [run_min_int3]
    have e : (if (20 : Int) < (if (cs.length : Int) < (zs.length : Int) then (cs.length : Int) else (zs.length : Int)) then (20 : Int) else (if (cs.length : Int) < (zs.length : Int) then (cs.length : Int) else (zs.length : Int))) = (n : Int) := by
      split <;> split <;> omega
    rw [e]
  have hn1 : n ≤ zs.length := by omega
  have hn2 : n ≤ cs.length := by omega
  have hn3 : n ≤ 20 := by omega
  clear hn
  obtain ⟨a, ha, hwa⟩ := within_fun zs 65536 65536 (by decide) rfl (by decide)
  obtain ⟨c, hc, hwc⟩ := within_fun cs 17 17 (by decide) rfl (by decide)
  have htot : ∀ k, tot c k ≤ 32 * k := fun k => tot_le (fun j => by have := hc j; omega)
  go_enter Try.func7, Try.ntmps7
  go_wp2_with (first
    | (go_at_call 9; (with_reducible refine (hnew.out _).mono ?_); rintro e w1 ⟨rfl, h1⟩))
  clear hmin hnew
  go_loopw [7, 8] (fun t i wr => ∃ k : Nat, k ≤ n ∧ t = .int .i64 ((tot c k : Nat) : Int) ∧ i = .int .i64 k ∧ In w.heap.size w.heap.size w wr (num a c k) (tot c k)) (fun _ i _ => n - (intOf i).toNat)
  case atStart => exact ⟨0, by omega, rfl, rfl, h1⟩
  case round =>
    obtain ⟨k, hk, rfl, rfl, hin⟩ := hrel
    by_cases hkn : k < n
    · obtain ⟨A, rfl⟩ := some_of (w := w) hu2 hu3 (by omega)
      obtain ⟨C, rfl⟩ := some_of (w := w) hv2 hv3 (by omega)
      have hca0 := hu4 A rfl k (by omega)
      have hcc := cell_old hin.2 (hv4 C rfl k (by omega))
      obtain ⟨hput, hcode⟩ := round_in (B := w.heap.size) (p := w.heap.size) (w0 := w) (a := a) (c := c) k (hc k) (by have := htot k; omega)
      have hwa' : Hid (∀ w, Calls Try.prog 8 #[.int .i64 (zs.getD k 0), .int .i64 65536] w fun e w' => e = .returned (.int .i64 (a k : Int)) ∧ w' = w) := hwa.out k
      have hwc' : Hid (∀ w, Calls Try.prog 8 #[.int .i64 (cs.getD k 0), .int .i64 17] w fun e w' => e = .returned (.int .i64 (c k : Int)) ∧ w' = w) := hwc.out k
      obtain ⟨x, hx⟩ : ∃ x, x = zs.getD k 0 := ⟨_, rfl⟩
      obtain ⟨y, hy⟩ : ∃ y, y = cs.getD k 0 := ⟨_, rfl⟩
      rw [← hx] at hca0 hwa'
      rw [← hy] at hcc hwc'
      clear hx hy
      have hck := hc k
      have htk := htot k
      have hca2 : Hid (∀ wx N t, In w.heap.size w.heap.size w wx N t → wx.cell? (A.add k) = some (.int .i64 x)) := by
        intro wx N t h
        exact cell_old h.2 hca0
      have hca := hca2.out _ _ _ hin
      have HC0 : Hid (w.cell? (A.add k) = some (.int .i64 x)) := hca0
      clear hca0
      go_wp2_with (first
        | (go_at_call 8; (with_reducible refine (hwc'.out _).mono ?_); rintro e wx ⟨rfl, hx⟩; have hx := hx.symm; subst hx)
        | (go_at_call 8; (with_reducible refine (hwa'.out _).mono ?_); rintro e wx ⟨rfl, hx⟩; have hx := hx.symm; subst hx)
        | (go_at_call 11; (with_reducible refine (hput.out _ (by assumption)).mono ?_); rintro e w2 ⟨rfl, h2⟩; have hca3 := hca2.out _ _ _ h2)
        | (go_at_call 13; (with_reducible refine (hcode.out _ (by assumption)).mono ?_); rintro e w3 ⟨rfl, h3⟩))
      go_roundw
      case rel => exact ⟨k + 1, by omega, by simp only [tot]; go_num, by go_num, h3⟩
      case measure => simp [intOf]; omega
    · have hkk : n = k := by omega
      subst hkk
      have htk := htot n
      have hby : Hid (∀ wx, In w.heap.size w.heap.size w wx (num a c n) (tot c n) → Calls Try.prog 10 #[.pointer (some ⟨w.heap.size, 0, none⟩)] wx fun e w' => ∃ v' bs, e = .returned v' ∧ w'.ownsRow w.heap.size 5 1 v' bs.length (bs.map byteV) ∧ Small bs ∧ val bs = num a c n ∧ bs.length = (tot c n + 7) / 8 ∧ Below w.heap.size w w') := by
        intro wx h
        refine (bytes_walk _ _ wx _ _ h.1 (by omega)).mono ?_
        rintro e w' ⟨v', bs, rfl, ho, h2, h3, h4, h5⟩
        exact ⟨v', bs, rfl, owns_base ho h.size, h2, h3, h4, h.2.trans (h5.mono h.size)⟩
      go_wp2_with (first
        | (go_at_call 10; (with_reducible refine (hby.out _ hin).mono ?_); rintro e w4 ⟨v4, bs, rfl, ho4, hs4, hv4', hl4, hb4⟩; obtain ⟨ao, cp, rfl, -, -, -⟩ := lies_own ho4; have hl5 : bs.length ≤ 81 := (by omega); have e4 : (((tot c n : Nat) : Int) + 7) / 8 = (bs.length : Int) := (by omega); have HL : Hid (bs.length = (tot c n + 7) / 8) := hl4; have HV : Hid (val bs = num a c n) := hv4'; clear hl4 hv4')
        | (go_at_call 17; (with_reducible refine (st_new w w4 w.heap.size _ bs ho4 hb4.size hs4 (by omega) hb4).mono ?_); rintro e w5 ⟨rb, rfl, h5⟩))
      clear hby hin hk hkn
      simp only [e4]
      clear e4
      go_loopw [12] (fun i wr => ∃ k : Nat, k ≤ n ∧ i = .int .i64 k ∧ St w.heap.size w wr rb (.slice ao bs.length cp) bs (tot c k) false) (fun i _ => n - (intOf i).toNat)
      case atStart => exact ⟨0, by omega, rfl, h5⟩
      case round =>
        obtain ⟨k, hk, rfl, hst⟩ := hrel
        by_cases hkn : k < n
        · obtain ⟨A, rfl⟩ := some_of (w := w) hu2 hu3 (by omega)
          obtain ⟨C, rfl⟩ := some_of (w := w) hv2 hv3 (by omega)
          have hca := cell_old hst.below (hu4 A rfl k (by omega))
          have hcc := cell_old hst.below (hv4 C rfl k (by omega))
          have hwa' : Hid (∀ w, Calls Try.prog 8 #[.int .i64 (zs.getD k 0), .int .i64 65536] w fun e w' => e = .returned (.int .i64 (a k : Int)) ∧ w' = w) := hwa.out k
          have hwc' : Hid (∀ w, Calls Try.prog 8 #[.int .i64 (cs.getD k 0), .int .i64 17] w fun e w' => e = .returned (.int .i64 (c k : Int)) ∧ w' = w) := hwc.out k
          obtain ⟨x, hx⟩ : ∃ x, x = zs.getD k 0 := ⟨_, rfl⟩
          obtain ⟨y, hy⟩ : ∃ y, y = cs.getD k 0 := ⟨_, rfl⟩
          rw [← hx] at hca hwa'
          rw [← hy] at hcc hwc'
          clear hx hy
          have hck := hc k
          have htk := htot k
          have htn : tot c k + c k + c k ≤ 8 * bs.length := by
            have h1 := tot_mono (c := c) (show k + 1 ≤ n from hkn)
            have h2 := HL.out
            simp only [tot] at h1
            omega
          have hlow := read_low (a := a) (c := c) hkn
          rw [← HV.out] at hlow
          obtain ⟨m, hm⟩ : ∃ m, m = low (a k) (c k) := ⟨_, rfl⟩
          obtain ⟨P, hP⟩ : ∃ P, P = 2 ^ c k := ⟨_, rfl⟩
          have hP0 : 0 < P := by rw [hP]; exact Nat.pow_pos (by decide)
          have T1 : Hid (wrap64 ((2 : Int) ^ c k) = (P : Int)) := wrap_pow (c k) P hP hck
          have hPi : ¬ ((P : Int) = 0) := by omega
          have T2 : Hid ((a k : Int) % (P : Int) = (m : Int)) := by show _ = _; rw [hm, low_nat, hP]; push_cast; rfl
          have hm0 : m / 2 ^ c k = 0 := Nat.div_eq_of_lt (by rw [hm]; exact low_lt _ _)
          have hget : Hid (Calls Try.prog 21 #[.pointer (some ⟨rb, 0, none⟩), .int .i64 (c k : Int)] wr fun e w' => e = .returned (.int .i64 (m : Int)) ∧ St w.heap.size w w' rb (.slice ao bs.length cp) bs (tot c k + c k) false) := by
            have := hst.get (c k) (by omega) (by omega)
            rw [hlow, ← hm] at this
            exact this
          have HM : Hid (m = low (a k) (c k)) := hm
          have HM0 : Hid (m / 2 ^ c k = 0) := hm0
          clear hm hP hlow hm0
          go_wp2_with (first
            | (go_at_call 8; (with_reducible refine (hwc'.out _).mono ?_); rintro e wx ⟨rfl, hx⟩; have hx := hx.symm; subst hx)
            | (go_at_call 8; (with_reducible refine (hwa'.out _).mono ?_); rintro e wx ⟨rfl, hx⟩; have hx := hx.symm; subst hx)
            | (go_at_call 21; (with_reducible refine hget.out.mono ?_); rintro e w6 ⟨rfl, h6⟩))
          · exact absurd (by assumption : wrap64 ((2 : Int) ^ c k) = 0) (by rw [T1.out]; exact hPi)
          · exact absurd (by assumption : ((m : Int) != (a k : Int) % wrap64 ((2 : Int) ^ c k)) = true) (by rw [T1.out, T2.out]; simp)
          have t1 := T1.out
          have t2 := T2.out
          clear T1 T2
          rename_i hA hB KK aa
          clear hA hB
          simp only [t1, t2, bne_self_eq_false]
          clear t1 t2
          clear hget hwa' hwc' hca hcc
          go_loopw [15, 16] (fun q i wr => ∃ j : Nat, j ≤ c k ∧ q = .int .i64 ((m / 2 ^ (c k - j) : Nat) : Int) ∧ i = .int .i64 j ∧ St w.heap.size w wr rb (.slice ao bs.length cp) bs (tot c k + c k + j) false) (fun _ i _ => c k - (intOf i).toNat)
          case atStart => exact ⟨0, by omega, by rw [Nat.sub_zero, HM0.out]; rfl, rfl, h6⟩
          case round =>
            obtain ⟨j, hj, rfl, rfl, hst2⟩ := hrel
            by_cases hjc : j < c k
            · have hrb := read_bit (a := a) (c := c) hkn hjc
              rw [← HV.out] at hrb
              have hbit := hst2.bit (by omega)
              rw [hrb] at hbit
              have hcs := code_step (a k) (c k) j hjc
              have hcl := code_lt (a k) (c k) j (by omega)
              rw [← HM.out] at hcs hcl
              obtain ⟨q, hq⟩ : ∃ q, q = m / 2 ^ (c k - j) := ⟨_, rfl⟩
              obtain ⟨d, hd⟩ : ∃ d, d = dig (a k) (c k - 1 - j) := ⟨_, rfl⟩
              have hd2 : d < 2 := by rw [hd]; exact dig_lt _ _
              rw [← hq] at hcs hcl ⊢
              rw [← hd] at hcs hbit
              have HB : Hid (Calls Try.prog 20 #[.pointer (some ⟨rb, 0, none⟩)] wr fun e w' => e = .returned (.int .i64 (d : Int)) ∧ St w.heap.size w w' rb (.slice ao bs.length cp) bs (tot c k + c k + j + 1) false) := hbit
              have HS : Hid (2 * q + d = m / 2 ^ (c k - (j + 1))) := hcs
              clear hcs hbit hq hd hrb
              go_wp2_with (go_at_call 20; (with_reducible refine HB.out.mono ?_); rintro e w7 ⟨rfl, h7⟩)
              go_roundw
              case rel => exact ⟨j + 1, by omega, by rw [← HS.out]; push_cast; rfl, by go_num, h7⟩
              case measure => simp [intOf]; omega
            · have hjj : c k = j := by omega
              have e0 : m / 2 ^ (c k - j) = m := by rw [hjj, Nat.sub_self, Nat.pow_zero, Nat.div_one]
              rw [e0]
              have HT : Hid (tot c (k + 1) = tot c k + c k + j) := by
                show tot c k + 2 * c k = tot c k + c k + j
                omega
              clear e0 hjj
              go_wp2
              go_roundw
              case rel =>
                exact ⟨k + 1, by omega, by go_num, by rw [HT.out]; exact hst2⟩
              case measure => simp [intOf]; omega
        · have hkk : n = k := by omega
          subst hkk
          have hleft : Hid (∀ wx, St w.heap.size w wx rb (.slice ao bs.length cp) bs (tot c n) false → Calls Try.prog 18 #[.pointer (some ⟨rb, 0, none⟩)] wx fun e w' => e = .returned (.int .i64 (8 * (bs.length : Int) - (tot c n : Nat))) ∧ St w.heap.size w w' rb (.slice ao bs.length cp) bs (tot c n) false) := fun wx h => h.left
          have hbad0 : Hid (∀ wx, St w.heap.size w wx rb (.slice ao bs.length cp) bs (tot c n) false → Calls Try.prog 19 #[.pointer (some ⟨rb, 0, none⟩)] wx fun e w' => e = .returned (.bool false) ∧ St w.heap.size w w' rb (.slice ao bs.length cp) bs (tot c n) false) := fun wx h => h.isBad
          have hgetl : Hid (∀ wx, St w.heap.size w wx rb (.slice ao bs.length cp) bs (tot c n) false → Calls Try.prog 21 #[.pointer (some ⟨rb, 0, none⟩), .int .i64 (8 * (bs.length : Int) - (tot c n : Nat))] wx fun e w' => e = .returned (.int .i64 0) ∧ St w.heap.size w w' rb (.slice ao bs.length cp) bs (8 * bs.length) false) := by
            intro wx h
            have h2 := HL.out
            have h1 := h.get (8 * bs.length - tot c n) (by omega) (by omega)
            have e1 : ((8 * bs.length - tot c n : Nat) : Int) = 8 * (bs.length : Int) - (tot c n : Nat) := by omega
            have e2 : tot c n + (8 * bs.length - tot c n) = 8 * bs.length := by omega
            have e3 : val bs / 2 ^ tot c n = 0 := Nat.div_eq_of_lt (by rw [HV.out]; exact num_lt n)
            rw [e1, e2, e3, Nat.zero_mod] at h1
            exact h1
          have hbit1 : Hid (∀ wx, St w.heap.size w wx rb (.slice ao bs.length cp) bs (8 * bs.length) false → Calls Try.prog 20 #[.pointer (some ⟨rb, 0, none⟩)] wx fun e w' => e = .returned (.int .i64 0) ∧ St w.heap.size w w' rb (.slice ao bs.length cp) bs (8 * bs.length) true) := fun wx h => h.bitNot (fun hh => by have := hh.2.2.2; omega)
          have hbad1 : Hid (∀ wx, St w.heap.size w wx rb (.slice ao bs.length cp) bs (8 * bs.length) true → Calls Try.prog 19 #[.pointer (some ⟨rb, 0, none⟩)] wx fun e w' => e = .returned (.bool true) ∧ St w.heap.size w w' rb (.slice ao bs.length cp) bs (8 * bs.length) true) := fun wx h => h.isBad
          have htt : tot c n ≤ 640 := by omega
          go_wp2_with (first
            | (go_at_call 18; (with_reducible refine (hleft.out _ (by assumption)).mono ?_); rintro e w6 ⟨rfl, h6⟩)
            | (go_at_call 19; (with_reducible refine (hbad0.out _ (by assumption)).mono ?_); rintro e w7 ⟨rfl, h7⟩)
            | (go_at_call 19; (with_reducible refine (hbad1.out _ (by assumption)).mono ?_); rintro e w8 ⟨rfl, h8⟩)
            | (go_at_call 20; (with_reducible refine (hbit1.out _ (by assumption)).mono ?_); rintro e w9 ⟨rfl, h9⟩)
            | (go_at_call 21; (with_reducible refine (hgetl.out _ (by assumption)).mono ?_); rintro e w10 ⟨rfl, h10⟩)
            | (go_at_call 15; (with_reducible refine (hwk.out _).mono ?_); rintro e w11 ⟨rfl, hb11⟩))
          go_ret
          exact ⟨rfl, (h8.old hb11).below⟩
end Go.Proofs.Ytilepfblbdlfkaa
