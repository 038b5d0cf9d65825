/-
  Stored, of at most 65535 bytes.
-/
import Derived.Test.YtdokpimhhkbdbaaDoorUe
import Derived.Laws.AppendOwnNone
import Derived.Deep.DeepAppendWide
set_option linter.unusedSimpArgs false
set_option linter.unusedVariables false
namespace Go.Proofs.YtdokpimhhkbdbaaDoor.Q
open Go.RowKit

/-- Bytes appended to a row of the call's own. -/
theorem wpList_appB {ops : Array Oper} {rest : List Oper} {o : Oper} {a : Act} {w : World} {Q : Exit → Act → World → Prop} (hgd : o.guard = none) (s x : Operand)
    (ho : o.op = .call { callee := .builtin .append, args := #[s, x], argTypes := #[22, 22] })
    (B : Nat) (v : Value) (n : Nat) (xs : List Value) (hs : a.eval s = v) (hown : w.ownsRow B 5 1 v n xs) (ad : Addr) (m c : Nat) (news : List Value) (hx : a.eval x = .slice (some ad) m c) (hl : news.length = m) (hnews : ∀ j u, news[j]? = some u → w.cell? (ad.add j) = some u) (h1 : ∀ u ∈ news, u.oneCell' = true)
    (hm : 0 < m) (hn : n + m ≤ 140737488355328) (hB : B ≤ w.heap.size)
    (h : ∀ v' w', w'.ownsRow B 5 1 v' (n + m) (xs ++ news) → Below B w w' → w.grownBy w' v.ownBlock → wpList Tryd.prog ops Q rest (a.put o.dst v') w') :
    wpList Tryd.prog ops Q (o :: rest) a w := by
  obtain ⟨i, hi, hz0, hz1, hz2⟩ := info_parts Tryd.info5
  refine wpList_append_lies _ hgd s x 22 ho B 5 i _ 1 1 Lz.Tryd.underlying23 hi hz0 hz1 hz2 rfl (by decide) v n xs hs hown ad m c news hx (by omega) hnews h1 hm (by unfold maxLen; omega) (by omega) hB w.heap.size rfl ?_
  intro g cap w' ho2 hg hat hlt
  exact h _ w' ho2 ((Fr.ofGrown (x := none) hg).below hB (fun j hj => by cases hj) (fun j hj => (hown.lt j hj).1)) hg

/-- Bytes that lie anywhere, appended to a row of the call's own. -/
theorem wpList_appL {w : World} {ops : Array Oper} {rest : List Oper} {o : Oper} {a : Act} {Q : Exit → Act → World → Prop} (hgd : o.guard = none) (s x : Operand)
    (ho : o.op = .call { callee := .builtin .append, args := #[s, x], argTypes := #[22, 22] }) (B : Nat) (v : Value) (n : Nat) (xs : List Value) (hs : a.eval s = v) (hown : w.ownsRow B 5 1 v n xs)
    (u : Value) (bs : List Nat) (hx : a.eval x = u) (hL : Lies w u bs) (hn : n + bs.length ≤ 140737488400000) (hB : B ≤ w.heap.size)
    (h : ∀ v' w', w'.ownsRow B 5 1 v' (n + bs.length) (xs ++ bs.map byteV) → Below B w w' → w.grownBy w' v.ownBlock → wpList Tryd.prog ops Q rest (a.put o.dst v') w') : wpList Tryd.prog ops Q (o :: rest) a w := by
  obtain ⟨i, hi, hz0, hz1, hz2⟩ := info_parts Tryd.info5
  obtain ⟨ao, cap, rfl, h2, h3, h4⟩ := hL
  cases ao with
  | none =>
    have hc := h3 rfl
    subst hc
    have : bs = [] := List.length_eq_zero_iff.1 (by omega)
    subst this
    refine wpList_append_own_none hgd s x 22 ho B 5 i 1 Lz.Tryd.underlying23 hi v n xs hs hown hx (h v w ?_ (Below.refl _ _) ⟨rfl, rfl, rfl, Nat.le_refl _, fun _ _ _ => rfl⟩)
    simpa using hown
  | some ad =>
    refine wpList_append_own_wide _ hgd s x 22 ho B 5 i (.int .u8 0) 1 1 Lz.Tryd.underlying23 hi hz0 hz1 hz2 rfl (by decide) v n xs hs hown ad bs.length cap (bs.map byteV) hx (by simp) (h4 ad rfl) (bytes_one bs) (by unfold maxLen; omega) (by omega) hB ?_
    intro v' w' ho hg _
    exact h v' w' ho ((Below.refl B w).grown hg hB (fun k hk => (hown.lt k hk).1)) hg

def headL (n : Nat) (last : Bool) : List Nat := [if last then 1 else 0, n % 256, n / 256, (n ^^^ 65535) % 256, (n ^^^ 65535) / 256]

set_option maxRecDepth 100000 in
set_option maxHeartbeats 4000000 in
theorem appendStored_walk (w : World) (B : Nat) (u v : Value) (out b : List Nat) (last : Bool) (ho : w.ownsRow B 5 1 u out.length (out.map byteV)) (hv : Lies w v b) (hB : B ≤ w.heap.size) (hn : b.length ≤ 65535) (hol : out.length ≤ 1000000) (hlb : ∀ w1 w2, w1.grownBy w2 u.ownBlock → Lies w1 v b → w1.ownsRow B 5 1 u out.length (out.map byteV) → Lies w2 v b) :
    Calls Tryd.prog 37 #[u, v, .bool last] w fun e w' => ∃ v', e = .returned v' ∧ w'.ownsRow B 5 1 v' (out ++ headL b.length last ++ b).length ((out ++ headL b.length last ++ b).map byteV) ∧ Below B w w' := by
  obtain ⟨Z, hZ⟩ : ∃ Z, Z = out ++ headL b.length last ++ b := ⟨_, rfl⟩
  rw [← hZ]
  have hv0 := hv
  obtain ⟨ao, cap, rfl, h2, h3, h4⟩ := hv
  obtain ⟨n, hbn⟩ : ∃ n, n = b.length := ⟨_, rfl⟩
  rw [← hbn] at h2 hn hv0 hlb hZ ⊢
  have hxo : bits .xor .i64 (n : Int) 65535 = ((n ^^^ 65535 : Nat) : Int) := i64_xor_nat n 65535 (by omega) (by decide)
  obtain ⟨y, hy⟩ : ∃ y, y = n ^^^ 65535 := ⟨_, rfl⟩
  have hy2 : y < 2 ^ 16 := by rw [hy]; exact Nat.xor_lt_two_pow (by omega) (by decide)
  rw [← hy] at hxo
  have hor : bits .or .u8 (0 : Int) 1 = 1 := by decide
  have hni : (n : Int) ≤ 65535 := by omega
  have hyi : (y : Int) ≤ 65535 := by omega
  obtain ⟨hd, hhd⟩ : ∃ hd : Int, hd = if last then 1 else 0 := ⟨_, rfl⟩
  have hcells : ([.int .u8 hd, .int .u8 ((n : Int) % 256), .int .u8 ((n : Int) / 256), .int .u8 ((y : Int) % 256), .int .u8 ((y : Int) / 256)] : List Value) = (headL n last).map byteV := by
    rw [hhd]
    unfold headL
    rw [← hy]
    cases last <;> rfl
  have HCE := mkHid hcells
  have HH := mkHid hhd
  have HO : Hid ((w.alloc (.cells #[.int .u8 hd, .int .u8 ((n : Int) % 256), .int .u8 ((n : Int) / 256), .int .u8 ((y : Int) % 256), .int .u8 ((y : Int) / 256)] 5)).ownsRow B 5 1 u out.length (out.map byteV)) := ho.alloc _
  have HNW : Hid (∀ j x, ([.int .u8 hd, .int .u8 ((n : Int) % 256), .int .u8 ((n : Int) / 256), .int .u8 ((y : Int) % 256), .int .u8 ((y : Int) / 256)] : List Value)[j]? = some x → (w.alloc (.cells #[.int .u8 hd, .int .u8 ((n : Int) % 256), .int .u8 ((n : Int) / 256), .int .u8 ((y : Int) % 256), .int .u8 ((y : Int) / 256)] 5)).cell? ((⟨w.heap.size, 0, none⟩ : Addr).add j) = some x) := fun j x hj => by
    have e : (⟨w.heap.size, 0, none⟩ : Addr).add j = ⟨w.heap.size, j, none⟩ := by unfold Addr.add; split <;> simp_all
    rw [e, cell_of_row _ _ j _ 5 (0, 0) (heap_alloc_new w _)]
    simpa using hj
  have HL1 := mkHid (hv0.old (w' := w.alloc (.cells #[.int .u8 hd, .int .u8 ((n : Int) % 256), .int .u8 ((n : Int) / 256), .int .u8 ((y : Int) % 256), .int .u8 ((y : Int) / 256)] 5)) ((Below.refl _ _).alloc (Nat.le_refl _) _))
  have HBA : Hid (Below B w (w.alloc (.cells #[.int .u8 hd, .int .u8 ((n : Int) % 256), .int .u8 ((n : Int) / 256), .int .u8 ((y : Int) % 256), .int .u8 ((y : Int) / 256)] 5))) := (Below.refl _ _).alloc hB _
  have HBN := mkHid hbn
  have HZ := mkHid hZ
  clear hZ
  obtain ⟨i5, hi5, -, -, -⟩ := info_parts Tryd.info5
  have HI5 := mkHid hi5
  have HLB := mkHid hlb
  clear ho hbn hy hy2 hcells hv0 h3 h4 hi5 hhd hlb
  have hBz : B ≤ (w.alloc (.cells #[.int .u8 hd, .int .u8 ((n : Int) % 256), .int .u8 ((n : Int) / 256), .int .u8 ((y : Int) % 256), .int .u8 ((y : Int) / 256)] 5)).heap.size := by simp; omega
  cases last
  · have hhd := HH.out
    simp only [Bool.false_eq_true, if_false, if_true] at hhd
    subst hhd
    go_enter Tryd.func37, Tryd.ntmps37
    go_upto_region 6 with (first
      | (at_builtin; refine wpList_appB rfl (.tmp 15) (.tmp 29) rfl B u out.length _ rfl HO.out ⟨w.heap.size, 0, none⟩ 5 5 _ rfl rfl HNW.out (by simp [Value.oneCell']) (by decide) (by omega) hBz ?_
         intro v1 w1 ho1 hb1 hg1
         have HO1 := mkHid ho1
         have HB1 := mkHid hb1
         have HL2 := mkHid (HLB.out _ _ hg1 HL1.out HO.out)
         clear ho1 hb1 hg1))
    have HO2 : Hid (World.ownsRow w1 B 5 1 v1 (out ++ headL n false).length ((out ++ headL n false).map byteV)) := by
      have h := HO1.out
      rw [HCE.out] at h
      have e : (out ++ headL n false).length = out.length + 5 := by rw [List.length_append]; rfl
      rw [e, List.map_append]
      exact h
    have HBW := mkHid (HBA.out.trans HB1.out)
    have hBw : B ≤ w1.heap.size := by have := HBW.out.size; omega
    have hol2 : (out ++ headL n false).length ≤ 1000005 := by rw [List.length_append]; show out.length + 5 ≤ _; omega
    go_wp2_with (at_builtin; refine wpList_appL rfl (.tmp 31) (.tmp 32) rfl B _ _ _ rfl HO2.out _ b rfl HL2.out (by rw [← HBN.out]; omega) hBw ?_; intro v2 w2 ho2 hb2 hg2)
    go_ret
    refine ⟨_, rfl, ?_, HBW.out.trans hb2⟩
    have e : (out ++ headL n false ++ b).length = (out ++ headL n false).length + b.length := by rw [List.length_append]
    rw [HZ.out, e, List.map_append]
    exact ho2
  · have hhd := HH.out
    simp only [Bool.false_eq_true, if_false, if_true] at hhd
    subst hhd
    go_enter Tryd.func37, Tryd.ntmps37
    go_upto_region 6 with (first
      | (at_builtin; refine wpList_appB rfl (.tmp 15) (.tmp 29) rfl B u out.length _ rfl HO.out ⟨w.heap.size, 0, none⟩ 5 5 _ rfl rfl HNW.out (by simp [Value.oneCell']) (by decide) (by omega) hBz ?_
         intro v1 w1 ho1 hb1 hg1
         have HO1 := mkHid ho1
         have HB1 := mkHid hb1
         have HL2 := mkHid (HLB.out _ _ hg1 HL1.out HO.out)
         clear ho1 hb1 hg1))
    have HO2 : Hid (World.ownsRow w1 B 5 1 v1 (out ++ headL n true).length ((out ++ headL n true).map byteV)) := by
      have h := HO1.out
      rw [HCE.out] at h
      have e : (out ++ headL n true).length = out.length + 5 := by rw [List.length_append]; rfl
      rw [e, List.map_append]
      exact h
    have HBW := mkHid (HBA.out.trans HB1.out)
    have hBw : B ≤ w1.heap.size := by have := HBW.out.size; omega
    have hol2 : (out ++ headL n true).length ≤ 1000005 := by rw [List.length_append]; show out.length + 5 ≤ _; omega
    go_wp2_with (at_builtin; refine wpList_appL rfl (.tmp 31) (.tmp 32) rfl B _ _ _ rfl HO2.out _ b rfl HL2.out (by rw [← HBN.out]; omega) hBw ?_; intro v2 w2 ho2 hb2 hg2)
    go_ret
    refine ⟨_, rfl, ?_, HBW.out.trans hb2⟩
    have e : (out ++ headL n true ++ b).length = (out ++ headL n true).length + b.length := by rw [List.length_append]
    rw [HZ.out, e, List.map_append]
    exact ho2

/-- Stored, of nothing. -/
theorem stored_nil (w : World) : Calls Tryd.prog 21 #[.slice none 0 0] w fun e w' => ∃ v', e = .returned v' ∧ Hid (Lies w' v' [1, 0, 0, 255, 255]) ∧ Hid (Below w.heap.size w w') := by
  have h := mkHid (appendStored_walk w w.heap.size (.slice none 0 0) (.slice none 0 0) [] [] true (World.ownsRow_nil _ _ _ _) ⟨none, 0, rfl, by simp, fun _ => rfl, fun a ha => by cases ha⟩ (Nat.le_refl _) (by decide) (by decide) (fun w1 w2 _ hl _ => ⟨none, 0, rfl, by simp, fun _ => rfl, fun a ha => by cases ha⟩))
  go_enter Tryd.func21, Tryd.ntmps21
  go_wp2
  refine wp_loop_rounds 1 ?_
  rw [rounds_succ]
  go_wp2_with (first
    | (go_at_call 37; (with_reducible refine h.out.mono ?_); rintro e w1 ⟨v1, rfl, ho, hb⟩
       have HO := mkHid ho
       have HB := mkHid hb
       clear ho hb))
  go_ret
  exact ⟨_, rfl, lies_own HO.out, HB.out⟩

end Go.Proofs.YtdokpimhhkbdbaaDoor.Q
