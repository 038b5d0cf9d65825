/-
  NeedsRound walked.
-/
import Derived.Test.YtcogeebfldlpoaaRa
set_option linter.unusedSimpArgs false
set_option linter.unusedVariables false
namespace Go.Proofs.Ytcogeebfldlpoaa
open Go.RowKit
open Go.Proofs.NeedsPlain (Hd names getD_set ordM IsAll isTop)

abbrev nsA : Array Value := #[.string ⟨#[99]⟩, .string ⟨#[97]⟩, .string ⟨#[102]⟩, .string ⟨#[98]⟩, .string ⟨#[101]⟩, .string ⟨#[100]⟩, .string ⟨#[103]⟩]

theorem nsA_at (j : Nat) (hj : j < 7) : nsA[j]? = some (.string (str (nsL.getD j []))) := by
  rcases (show j = 0 ∨ j = 1 ∨ j = 2 ∨ j = 3 ∨ j = 4 ∨ j = 5 ∨ j = 6 by omega) with rfl | rfl | rfl | rfl | rfl | rfl | rfl <;> rfl

/-- What stands while the heads are put one behind the other. -/
def RdL (w1 : World) (n i : Nat) (v : Value) (wr : World) : Prop := ∃ cs, HBag (w1.heap.size + 1) wr v (rndK n i) cs ∧ Old (w1.alloc (.cells nsA 9)) wr

theorem RdL.nsAt {w1 wr : World} {n i : Nat} {v : Value} (h : RdL w1 n i v wr) (j : Nat) (hj : j < 7) : wr.cell? ⟨w1.heap.size, j, none⟩ = some (.string (str (nsL.getD j []))) := by
  obtain ⟨cs, h1, h2⟩ := h
  rw [cell_of_row _ _ _ _ 9 (0, 0) (block_old h2 (h10 w1 _))]
  exact nsA_at j hj

theorem str_of {x : ByteArray} {t : Txt} (h : x = str t) : x.data.toList = t := by rw [h]; rfl

theorem lx_none : ordM [([107], []), ([108], [[120]])] = none := by rfl
theorem aa_none : (ordM [([97], []), ([97], [])]).isSome = false := by rfl
theorem k_some : ordM [([107], [])] = some [[107]] := by rfl
theorem nil_some : (ordM []).isSome = true := by rfl
theorem small_lx : SmallH [([107], []), ([108], [[120]])] := ⟨by decide, by decide, by decide, by decide⟩
theorem small_aa : SmallH [([97], []), ([97], [])] := ⟨by decide, by decide, by decide, by decide⟩
theorem small_k : SmallH [([107], [])] := ⟨by decide, by decide, by decide, by decide⟩
theorem small_nil : SmallH [] := ⟨by decide, by decide, by decide, by decide⟩

abbrev lxA (g : Nat) : Array Value := #[.string ⟨#[107]⟩, .bool false, .slice none 0 0, .string ⟨#[108]⟩, .bool false, .slice (some ⟨g, 0, none⟩) 1 1]
abbrev aaA : Array Value := #[.string ⟨#[97]⟩, .bool false, .slice none 0 0, .string ⟨#[97]⟩, .bool false, .slice none 0 0]

theorem lx_call : Hid (∀ w' : World, Calls Try.prog 10 #[.slice (some ⟨w'.heap.size + 1, 0, none⟩) 2 2] ((w'.alloc (.cells #[.string ⟨#[120]⟩] 9)).alloc (.cells (lxA w'.heap.size) 24)) fun e w'' => e = .returned (.tuple #[.slice none 0 0, .bool false]) ∧ Old w' w'') := fun w' => by
  have g0 := block_old (old1 _ (.cells (lxA w'.heap.size) 24)) (h10 w' (.cells #[.string ⟨#[120]⟩] 9))
  have g1 := h21 w' (.cells #[.string ⟨#[120]⟩] 9) (.cells (lxA w'.heap.size) 24)
  have hr : HRow ((w'.alloc (.cells #[.string ⟨#[120]⟩] 9)).alloc (.cells (lxA w'.heap.size) 24)) (w'.heap.size + 1) 0 [([107], []), ([108], [[120]])] := by
    refine hrow_of g1 (show 6 ≤ 6 from Nat.le_refl 6) fun k hk => ?_
    have hk2 : k < 2 := hk
    rcases (show k = 0 ∨ k = 1 by omega) with rfl | rfl
    · exact ⟨false, _, rfl, rfl, rfl, lies_nil _, offs_nil _⟩
    · exact ⟨false, _, rfl, rfl, rfl, lies_single _ _ _ g0, fun a' n' c' e => by cases e; simp⟩
  exact ((order_none (hr.lies (cap := 2) (Nat.le_refl 2)) small_lx lx_none).out _ (Below.refl _ _)).mono fun e w'' ⟨h1, h2⟩ => ⟨h1, (old2 w' _ _).trans (h2.mono (by simp; omega))⟩

theorem aa_call : Hid (∀ w' : World, Calls Try.prog 12 #[.slice (some ⟨w'.heap.size, 0, none⟩) 2 2] (w'.alloc (.cells aaA 24)) fun e w'' => e = .returned (.bool false) ∧ Old w' w'') := fun w' => by
  have hr : HRow (w'.alloc (.cells aaA 24)) w'.heap.size 0 [([97], []), ([97], [])] := by
    refine hrow_of (h10 w' _) (show 6 ≤ 6 from Nat.le_refl 6) fun k hk => ?_
    have hk2 : k < 2 := hk
    rcases (show k = 0 ∨ k = 1 by omega) with rfl | rfl
    · exact ⟨false, _, rfl, rfl, rfl, lies_nil _, offs_nil _⟩
    · exact ⟨false, _, rfl, rfl, rfl, lies_nil _, offs_nil _⟩
  exact ((closed_lit (hr.lies (cap := 2) (Nat.le_refl 2)) small_aa aa_none).out _ (Below.refl _ _)).mono fun e w'' ⟨h1, h2⟩ => ⟨h1, (old1 w' _).trans (h2.mono (by simp))⟩

theorem nil_call : Hid (∀ w' : World, Calls Try.prog 12 #[.slice none 0 0] w' fun e w'' => e = .returned (.bool true) ∧ Old w' w'') := fun w' =>
  (closed_lit (liesH_nil w') small_nil nil_some).out _ (Below.refl _ _)

set_option maxRecDepth 20000 in
set_option maxHeartbeats 8000000 in
theorem round_walk (w : World) (v : Int) : Calls Try.prog 4 #[.int .i64 v] w fun e w' => e = .returned (.bool true) ∧ Old w w' := by
  have KW := mkHid (fun w1 => within_walk v 7 (by decide) (by decide) w1)
  obtain ⟨k, hk⟩ : ∃ k : Nat, v % 7 = (k : Int) := ⟨(v % 7).toNat, by omega⟩
  have hk7 : k < 7 := by omega
  rw [hk] at KW
  obtain ⟨n, hn⟩ : ∃ n, n = k + 1 := ⟨_, rfl⟩
  have h1n : (1 : Int) + (k : Int) = (n : Int) := by omega
  have hn7 : (n : Int) ≤ 7 := by omega
  have hkI : (k : Int) ≤ 7 := by omega
  have hn0 : 0 < (n : Int) := by omega
  have HN := mkHid hn
  have HK := mkHid hk7
  clear hk hk7 hn
  go_enter Try.func4, Try.ntmps4
  go_wp2_with (go_at_call 9; (with_reducible refine (KW.out _).mono ?_); rintro e w1 ⟨rfl, rfl⟩)
  go_loopw [4, 23] (fun u4 u wr => ∃ i : Nat, i ≤ n ∧ u = .int .i64 (i : Int) ∧ Hid (RdL w1 n i u4 wr)) (fun _ u _ => n - (intOf u).toNat)
  case atStart =>
    refine ⟨0, by omega, rfl, mkHid ⟨#[.string ⟨#[107]⟩, .bool false, .slice none 0 0].toList, ?_, old1 _ _⟩⟩
    have := bag_single (w1.heap.size + 1) (w1.alloc (.cells nsA 9)) (by simp) ⟨#[107]⟩ false
    rw [show (w1.alloc (.cells nsA 9)).heap.size = w1.heap.size + 1 by simp] at this
    exact this
  case round =>
    obtain ⟨i, hi, rfl, HS⟩ := hrel
    by_cases hin : i < n
    · have hi7 : i < 7 := by omega
      have hn0' : 0 < n := by omega
      obtain ⟨j, hj⟩ : ∃ j, j = (i + 1) % n := ⟨_, rfl⟩
      have hjn : j < n := by rw [hj]; exact Nat.mod_lt _ hn0'
      have hj7 : j < 7 := by omega
      have hc1 := RdL.nsAt HS.out i hi7
      have hc2 := RdL.nsAt HS.out j hj7
      obtain ⟨si, hsi⟩ : ∃ s, s = str (nsL.getD i []) := ⟨_, rfl⟩
      obtain ⟨sj, hsj⟩ : ∃ s, s = str (nsL.getD j []) := ⟨_, rfl⟩
      rw [← hsi] at hc1
      rw [← hsj] at hc2
      have hmod : ((i : Int) + 1) % (n : Int) = (j : Int) := by rw [hj, Int.natCast_emod]; rfl
      have hw1 : wrap64 ((i : Int) + 1) = (i : Int) + 1 := wrap_small (by omega)
      have hii : (i : Int) < (n : Int) := by omega
      have hjj : (j : Int) < (n : Int) := by omega
      have HJ := mkHid hj
      have HSI := mkHid hsi
      have HSJ := mkHid hsj
      have HII := mkHid hi7
      obtain ⟨cs, c1, c2⟩ := HS.out
      obtain ⟨ao, cap, hu4⟩ := c1.shape
      rw [rndK_len] at hu4
      subst hu4
      have hB : w1.heap.size + 1 ≤ wr.heap.size := by have := c2.size; simpa using this
      have KA : Hid (∀ (ops : Array Oper) (rest : List Oper) (o : Oper) (a : Act) (Q : Exit → Act → World → Prop), o.guard = none → o.op = .call { callee := .builtin .append, args := #[.tmp 28, .tmp 39], argTypes := #[25, 25] } →
          a.eval (.tmp 28) = .slice ao (i + 1) cap → a.eval (.tmp 39) = .slice (some ⟨wr.heap.size + 1, 0, none⟩) 1 1 →
          (∀ v' w', Hid (RdL w1 n (i + 1) v' w') → wpList Try.prog ops Q rest (a.put o.dst v') w') →
          wpList Try.prog ops Q (o :: rest) a ((wr.alloc (.cells #[.string sj] 9)).alloc (.cells #[.string si, .bool false, .slice (some ⟨wr.heap.size, 0, none⟩) 1 1] 24))) := by
        intro ops rest o a Q g1 g2 g3 g4 g5
        refine wpList_appH g1 (.tmp 28) (.tmp 39) g2 (w1.heap.size + 1) _ (rndK n i) cs g3 (c1.old (old1 _ _)) (by simp; omega) (by rw [rndK_len]; omega) si false _ [nsL.getD j []] (wr.heap.size + 1) (by simp) g4 ?_ ?_ ?_
        · have := lies_single (wr.alloc (.cells #[.string sj] 9)) wr.heap.size sj (h10 wr (.cells #[.string sj] 9))
          rw [str_of hsj] at this
          exact this
        · intro a' n' c' e'
          cases e'
          refine ⟨by simp, fun e2 => ?_⟩
          have := (c1.row.lt _ e2).2
          simp at this
        · intro v' w' cs' q1 q2
          refine g5 _ _ (mkHid ⟨cs', ?_, ?_⟩)
          · rw [rndK_snoc]
            rw [str_of hsi] at q1
            rw [← hj]
            exact q1
          · exact c2.trans (((old1 wr _).mono (by simp; omega)).trans (q2.mono (by simp)))
      clear hj hsi hsj hi7 hj7 hjn hn0' hin c1 c2 HS hB
      go_wp2_with (first
        | ((with_reducible refine at_op (.call { callee := .builtin .append, args := #[.tmp 28, .tmp 39], argTypes := #[25, 25] }) ?_)
           refine KA.out _ _ _ _ _ rfl rfl rfl rfl (fun v4 w4 h4 => ?_)))
      go_roundw
      case rel => exact ⟨i + 1, by omega, by rfl, h4⟩
      case measure =>
        clear hw1 hmod
        show n - ((i : Int) + 1).toNat < n - (i : Int).toNat
        omega
    · obtain rfl : i = n := by omega
      obtain ⟨cs, c1, c2⟩ := HS.out
      obtain ⟨b, cap, hu4, hcap, hbB, hrow⟩ := c1.hrow (by rw [rndK_len]; omega)
      have hsm := rnd_small i i (by omega)
      have hord : ordM (rndK i i) = none := by rw [HN.out]; exact rnd_ord k HK.out
      have hlies := hrow.lies hcap
      rw [rndK_len] at hu4 hcap hlies
      subst hu4
      have hW : Old w1 wr := (old1 w1 _).trans (c2.mono (by simp))
      have CO := order_none hlies hsm hord
      have CC := closed_lit (d := false) hlies hsm (by rw [hord]; rfl)
      have CK : Hid (∀ w', Old wr w' → Calls Try.prog 10 #[.slice (some ⟨b, 0, none⟩) 1 cap] w' fun e w'' => ∃ u, e = .returned (.tuple #[u, .bool true]) ∧ LiesS w'' u [[107]] ∧ Old w' w'') :=
        order_lit (hs := [([107], [])]) ((hrow.take 1).lies (cap := cap) (by rw [List.length_take]; omega)) small_k k_some
      have CS : Hid (∀ (w1 : World) (v : Value), LiesS w1 v [[107]] → Calls Try.prog 11 #[v, .slice (some ⟨w1.heap.size, 0, none⟩) 1 1] (w1.alloc (.cells #[.string ⟨#[107]⟩] 9)) fun e w' => e = .returned (.bool true) ∧ Old w1 w') := same_lit [[107]] 1 rfl (by decide)
      have CL := lx_call
      have CA := aa_call
      have CN := nil_call
      have WK := mkHid (fun w1 => wakes_walk w1)
      have OO : Hid (Old wr wr) := Below.refl _ _
      have OW := mkHid hW
      have hcap1 : 1 ≤ cap := by omega
      have hii : (i : Int) ≤ (i : Int) := Int.le_refl _
      clear hlies hsm hord hrow c1 c2 HS hW hcap hbB hin hi hn7 hn0 h1n KW HN
      go_wp2_with (first
        | (go_at_call 10; (with_reducible refine (CO.out _ OO.out).mono ?_); rintro e w10 ⟨rfl, o10⟩; have O10 := mkHid (OO.out.trans (o10.mono OO.out.size)); clear o10)
        | (go_at_call 10; (with_reducible refine (CL.out w10).mono ?_); rintro e w11 ⟨rfl, o11⟩; have O11 := mkHid (O10.out.trans (o11.mono O10.out.size)); clear o11)
        | (go_at_call 10; (with_reducible refine (CK.out _ O11.out).mono ?_); rintro e w12 ⟨u12, rfl, l12, o12⟩; have L12 := mkHid l12; have O12 := mkHid (O11.out.trans (o12.mono O11.out.size)); clear l12 o12)
        | (go_at_call 12; (with_reducible refine (CC.out _ O12.out).mono ?_); rintro e w13 ⟨rfl, o13⟩; have O13 := mkHid (O12.out.trans (o13.mono O12.out.size)); have L13 := mkHid (L12.out.old o13); clear o13)
        | (go_at_call 11; (with_reducible refine (CS.out w13 u12 L13.out).mono ?_); rintro e w14 ⟨rfl, o14⟩; have O14 := mkHid (O13.out.trans (o14.mono O13.out.size)); clear o14)
        | (go_at_call 12; (with_reducible refine (CA.out w14).mono ?_); rintro e w15 ⟨rfl, o15⟩; have O15 := mkHid (O14.out.trans (o15.mono O14.out.size)); clear o15)
        | (go_at_call 12; (with_reducible refine (CN.out w15).mono ?_); rintro e w16 ⟨rfl, o16⟩; have O16 := mkHid (O15.out.trans (o16.mono O15.out.size)); clear o16)
        | (go_at_call 16; (with_reducible refine (WK.out _).mono ?_); rintro e w17 ⟨rfl, o17⟩; have O17 := mkHid (O16.out.trans (o17.mono O16.out.size)); clear o17))
      go_ret
      exact ⟨rfl, OW.out.trans (O17.out.mono OW.out.size)⟩
end Go.Proofs.Ytcogeebfldlpoaa
