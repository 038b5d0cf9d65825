/-
  florilegiumlaw04.Text: a text of at most 712 bytes.
-/
import Derived.Test.YtdokpimhhkbdbaaDoorBe
set_option linter.unusedSimpArgs false
set_option linter.unusedVariables false
namespace Go.Proofs.YtdokpimhhkbdbaaDoor.Lz
open Go.RowKit

theorem within_lit2 (v n : Int) (m : Nat) (hm : 0 < m) (hn : n = m) (hm2 : m < 4294967296) :
    ∃ r : Nat, r < m ∧ Hid (∀ w, Calls Tryd.prog 9 #[.int .i64 v, .int .i64 n] w fun e w' => e = .returned (.int .i64 (r : Int)) ∧ w' = w) := by
  subst hn
  have h1 := Int.emod_nonneg v (show (m : Int) ≠ 0 by omega)
  have h2 := Int.emod_lt_of_pos v (show (0 : Int) < m by omega)
  refine ⟨(v % (m : Int)).toNat, by omega, fun w => ?_⟩
  have := within_walk v m (by omega) (by omega) w
  rwa [Int.toNat_of_nonneg h1]

/-- A text that Text answers. -/
def Texted (B : Nat) (w : World) (e : Ending) : Prop := ∃ (v' : Value) (t : List Nat), e = .returned v' ∧ w.ownsRow B 5 1 v' t.length (t.map byteV) ∧ t.length ≤ 712 ∧ Small t

theorem small_nth {b : List Nat} (hs : Small b) (a : Nat) : b.getD a 0 < 256 := by
  by_cases h : a < b.length
  · rw [List.getD_eq_getElem?_getD, List.getElem?_eq_getElem h]; exact hs _ (List.getElem_mem h)
  · rw [List.getD_eq_getElem?_getD, List.getElem?_eq_none (by omega)]; decide

theorem small_one {b : List Nat} (hs : Small b) (z : Nat) (hz : z < 256) : Small (b ++ [z]) := by
  intro x hx
  rcases List.mem_append.1 hx with hx | hx
  · exact hs x hx
  · simp at hx; omega

set_option maxRecDepth 100000 in
set_option maxHeartbeats 8000000 in
theorem text_walk (w : World) (v u1 u2 : Value) (bs : List Nat) (zs ys : List Int) (hv : Lies w v bs) (hsm : Small bs) (hu1 : Ints w u1 zs) (hu2 : Ints w u2 ys) (hbl : bs.length ≤ 140737488355328) (hzl : zs.length ≤ 140737488355328) (hyl : ys.length ≤ 140737488355328) :
    Calls Tryd.prog 22 #[v, u1, u2] w fun e w' => Texted w.heap.size w' e ∧ Below w.heap.size w w' := by
  have hcut : Hid (Calls Tryd.prog 11 #[v, .int .i64 40] w fun e w' => ∃ v', e = .returned v' ∧ w'.ownsRow w.heap.size 5 1 v' (bs.take 40).length ((bs.take 40).map byteV) ∧ Below w.heap.size w w') := cut_walk w v bs 40 (by decide) hv hbl
  obtain ⟨ua, uc, rfl, hua2, hua3, hua4⟩ := hu1
  obtain ⟨va, vc, rfl, hva2, hva3, hva4⟩ := hu2
  obtain ⟨M, hM⟩ : ∃ M, M = zs.length := ⟨_, rfl⟩
  obtain ⟨G, hG⟩ : ∃ G, G = ys.length := ⟨_, rfl⟩
  rw [← hM] at hua2 hua4 hzl ⊢
  rw [← hG] at hva2 hva4 hyl ⊢
  clear hM hG
  obtain ⟨P, hP⟩ : ∃ P, P = w.heap.size := ⟨_, rfl⟩
  rw [← hP] at hcut
  have HP : Hid (P = w.heap.size) := hP
  clear hP
  go_enter Tryd.func22, Tryd.ntmps22
  go_wp2_with (go_at_call 11; (with_reducible refine hcut.out.mono ?_); rintro e w1 ⟨v1, rfl, ho1, hb1⟩)
  have hst : Hid (∃ (p : Nat) (t : List Nat), Hid (t.length = p ∧ Small t) ∧ p ≤ 40 ∧ w1.ownsRow P 5 1 v1 p (t.map byteV)) := ⟨_, bs.take 40, ⟨rfl, fun b hb => hsm b (List.mem_of_mem_take hb)⟩, by rw [List.length_take]; omega, ho1⟩
  clear ho1
  go_loopw [7, 8] (fun o i wr => ∃ (k p : Nat) (t : List Nat), Hid (k ≤ 12) ∧ i = .int .i64 k ∧ Hid (t.length = p ∧ Small t) ∧ Hid (p ≤ 700 + k) ∧ wr.ownsRow P 5 1 o p (t.map byteV) ∧ Below P w wr) (fun _ i _ => 12 - (intOf i).toNat)
  case atStart =>
    obtain ⟨p, t, h1, h2, h3⟩ := hst.out
    exact ⟨0, p, t, (by decide : 0 ≤ 12), rfl, h1, (by omega : p ≤ 700 + 0), h3, hb1⟩
  case round =>
    obtain ⟨k, p, t, HK, rfl, HT, HPL, hown, hb⟩ := hrel
    clear hst hb1
    have hPw : P ≤ wr.heap.size := by have := HP.out; have := hb.size; omega
    obtain ⟨ao, cap, rfl, hao⟩ := own_slice hown
    have hpsm : (p : Int) ≤ 1000 := by have := HPL.out; have := HK.out; omega
    have hksm : (k : Int) ≤ 12 := by have := HK.out; omega
    by_cases hin : k < M ∧ k < G ∧ k < 12 ∧ 0 < p
    · obtain ⟨h1, h2, h3, h4⟩ := hin
      obtain ⟨g, rfl⟩ := hao h4
      obtain ⟨A, rfl⟩ : ∃ A, ua = some A := by
        cases ua with
        | none => have := hua3 rfl; omega
        | some A => exact ⟨A, rfl⟩
      obtain ⟨A2, rfl⟩ : ∃ A, va = some A := by
        cases va with
        | none => have := hva3 rfl; omega
        | some A => exact ⟨A, rfl⟩
      have c1 := cell_old (HP.out ▸ hb) (hua4 A rfl k h1)
      have c2 := cell_old (HP.out ▸ hb) (hva4 A2 rfl k h2)
      have HC2 : Hid (∀ wx, Below P w wx → wx.cell? (A2.add k) = some (.int .i64 (ys.getD k 0))) := fun wx hx => cell_old (HP.out ▸ hx) (hva4 A2 rfl k h2)
      obtain ⟨x, hx⟩ : ∃ x, x = zs.getD k 0 := ⟨_, rfl⟩
      obtain ⟨y, hy⟩ : ∃ y, y = ys.getD k 0 := ⟨_, rfl⟩
      rw [← hx] at c1
      rw [← hy] at c2 HC2
      clear hx hy hua4 hva4 hua3 hva3 hao
      obtain ⟨r1, hr1, hwi1⟩ := within_lit2 x (p : Int) p h4 rfl (by omega)
      obtain ⟨r2, hr2, hwi2⟩ := within_lit2 y 60 60 (by decide) rfl (by decide)
      have hr2' : (r2 : Int) ≤ 60 := by omega
      have hr1' : (r1 : Int) < p := by omega
      clear hr2
      go_wp2_with (first
        | (go_at_call 9; (with_reducible refine (hwi1.out _).mono ?_); rintro e wx ⟨rfl, hx⟩; have hx := hx.symm; subst hx)
        | (go_at_call 9; (with_reducible refine (hwi2.out _).mono ?_); rintro e wx ⟨rfl, hx⟩; have hx := hx.symm; subst hx))
      go_loopw [7, 9, 10] (fun o a c wz => ∃ (a' q c' : Nat) (t2 : List Nat), a = .int .i64 a' ∧ c = .int .i64 c' ∧ (c' : Int) ≤ 60 ∧ a' < q ∧ (q : Int) ≤ 1000 ∧ Hid (q ≤ 700 + k) ∧ Hid (t2.length = q ∧ Small t2) ∧ wz.ownsRow P 5 1 o q (t2.map byteV) ∧ Below P w wz) (fun _ _ c _ => (intOf c).toNat)
      case atStart => exact ⟨r1, p, r2, t, rfl, rfl, hr2', by omega, hpsm, HPL, HT, hown, hb⟩
      case round =>
        obtain ⟨a', q, c', t2, rfl, rfl, hc', haq, hq, HQ, HT2, hown2, hb2⟩ := hrel
        clear hown hb c1 c2 hwi1 hwi2 hr1 hr1' hr2'
        have hPz : P ≤ wr.heap.size := by have := HP.out; have h := hb2.size; omega
        obtain ⟨ao2, cap2, rfl, hao2⟩ := own_slice hown2
        obtain ⟨g2, rfl⟩ := hao2 (by omega)
        by_cases hgo : 0 < c' ∧ q < 700
        · obtain ⟨hc0, hq7⟩ := hgo
          have HQ7 : Hid (q < 700) := hq7
          have d1 : (q : Int) < 700 := by omega
          have cx := byte_at HT2.out.1 hown2 a' haq
          obtain ⟨z, hz⟩ : ∃ z, z = t2.getD a' 0 := ⟨_, rfl⟩
          rw [← hz] at cx
          have HZS : Hid (z < 256) := by show _ < _; rw [hz]; exact small_nth HT2.out.2 a'
          clear hz hq7
          go_wp2_with (first
            | (at_builtin; refine wpList_pushB rfl (.tmp 55) (.tmp 60) rfl P _ q _ rfl hown2 (z : Int) wr.heap.size rfl rfl (by omega) hPz ?_
               intro g5 cap5 w5 ho5 hf5 hat5 hb5
               clear hf5 hat5))
          go_roundw
          case rel =>
            refine ⟨a' + 1, q + 1, c' - 1, t2 ++ [z], by go_num, by congr 1; omega, by omega, by omega, by omega, ?_, ?_, ?_, hb2.trans hb5⟩
            · show _ ≤ _; have := HQ7.out; omega
            · exact ⟨by simp [HT2.out.1], small_one HT2.out.2 z HZS.out⟩
            · rw [List.map_append]; exact ho5
          case measure => simp [intOf]; omega
        · have hst : c' = 0 ∨ (0 < c' ∧ (700 : Int) ≤ q) := by omega
          clear hgo
          have c2 := HC2.out wr hb2
          have HKK : Hid (k + 1 ≤ 12) := by show _ ≤ _; have := HK.out; omega
          have HK12 : Hid (k < 12) := h3
          rcases hst with hst | ⟨hst, hst2⟩
          all_goals
            try subst hst
            by_cases h5 : y.tmod 5 = 0
            · have e5 : (y.tmod 5 == 0) = true := by simp [h5]
              clear h5
              go_wp2_with (first
                | (at_builtin; refine wpList_pushB rfl (.tmp 70) (.tmp 76) rfl P _ q _ rfl hown2 _ wr.heap.size rfl rfl (by omega) hPz ?_
                   intro g5 cap5 w5 ho5 hf5 hat5 hb5
                   clear hf5 hat5))
              go_roundw
              case rel =>
                refine ⟨k + 1, q + 1, t2 ++ [(y % 256).toNat], HKK.out, by go_num, ?_, ?_, ?_, hb2.trans hb5⟩
                · exact ⟨by simp [HT2.out.1], small_one HT2.out.2 _ (by omega)⟩
                · show _ ≤ _; have := HQ.out; omega
                · rw [List.map_append]
                  have e : byteV (y % 256).toNat = .int .u8 (y % 256) := by
                    unfold byteV
                    rw [Int.toNat_of_nonneg (Int.emod_nonneg _ (by decide))]
                  simp only [List.map_cons, List.map_nil, e]
                  exact ho5
              case measure => have := HK12.out; simp [intOf]; omega
            · have e5 : (y.tmod 5 == 0) = false := by simp [h5]
              clear h5
              go_wp2
              go_roundw
              case rel =>
                refine ⟨k + 1, q, t2, HKK.out, by go_num, HT2.out, ?_, hown2, hb2⟩
                show _ ≤ _; have := HQ.out; omega
              case measure => have := HK12.out; simp [intOf]; omega
    · have hout : M ≤ k ∨ (k < M ∧ G ≤ k) ∨ (k < M ∧ k < G ∧ 12 ≤ k) ∨ (k < M ∧ k < G ∧ k < 12 ∧ p = 0) := by omega
      clear hin hao
      rcases hout with h | ⟨h, h'⟩ | ⟨h, h', h''⟩ | ⟨h, h', h'', h3⟩
      all_goals
        try subst h3
        go_wp2
        go_ret
        exact ⟨⟨_, t, rfl, by rw [← HP.out, HT.out.1]; exact hown, by rw [HT.out.1]; have := HPL.out; have := HK.out; omega, HT.out.2⟩, by rw [← HP.out]; exact hb⟩
end Go.Proofs.YtdokpimhhkbdbaaDoor.Lz
