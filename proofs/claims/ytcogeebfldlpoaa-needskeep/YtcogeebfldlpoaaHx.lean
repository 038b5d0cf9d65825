/-
  Heads in memory; places walked.
-/
import Derived.Test.YtcogeebfldlpoaaMb
import Derived.Test.YtcogeebfldlpoaaNm
set_option linter.unusedSimpArgs false
set_option linter.unusedVariables false
namespace Go.Proofs.Ytcogeebfldlpoaa
open Go.RowKit
open Go.Proofs.NeedsPlain (Hd names)

abbrev hd0 : Hd := ([], [])

theorem under24 : ∃ fs, Try.prog.underlying 24 = some (.struct fs) := ⟨_, Try.underlying24⟩
theorem size24 : (Try.prog.info? 24).map (·.size) = some 3 := by kernel_rfl
def hd0A : Array Value := #[.string ⟨#[]⟩, .bool false, .slice none 0 0]

/-- In the row at b, o stand the heads hs. -/
def HeadsAt (w : World) (b o : Nat) (hs : List Hd) : Prop := ∀ k, k < hs.length → ∃ tg nv, w.rangeAt b (o + k * 3) [.string (str (hs.getD k hd0).1), .bool tg, nv] ∧ LiesS w nv (hs.getD k hd0).2

theorem HeadsAt.old {w w' : World} {b o : Nat} {hs : List Hd} (h : HeadsAt w b o hs) (hb : Old w w') : HeadsAt w' b o hs := fun k hk => by
  obtain ⟨tg, nv, h1, h2⟩ := h k hk
  exact ⟨tg, nv, range_old h1 hb, h2.old hb⟩

/-- The slice v reads as the heads hs. -/
def LiesH (w : World) (v : Value) (hs : List Hd) : Prop :=
  ∃ ao cap, v = .slice ao hs.length cap ∧ hs.length ≤ cap ∧ (ao = none → hs.length = 0) ∧ ∀ a, ao = some a → a = ⟨a.block, a.off, none⟩ ∧ HeadsAt w a.block a.off hs

theorem LiesH.old {w w' : World} {v : Value} {hs : List Hd} (h : LiesH w v hs) (hb : Old w w') : LiesH w' v hs := by
  obtain ⟨ao, cap, h1, h2, h3, h4⟩ := h
  exact ⟨ao, cap, h1, h2, h3, fun a ha => ⟨(h4 a ha).1, (h4 a ha).2.old hb⟩⟩

theorem LiesH.form {w : World} {v : Value} {hs : List Hd} (h : LiesH w v hs) (hn : 0 < hs.length) : ∃ b o cap, v = .slice (some ⟨b, o, none⟩) hs.length cap ∧ hs.length ≤ cap ∧ HeadsAt w b o hs := by
  obtain ⟨ao, cap, h1, h2, h3, h4⟩ := h
  cases ao with
  | none => have := h3 rfl; omega
  | some a =>
    obtain ⟨e, h5⟩ := h4 a rfl
    exact ⟨a.block, a.off, cap, by rw [h1]; congr 2, h2, h5⟩

/-- Not too many, not too long. -/
structure SmallH (hs : List Hd) : Prop where
  len : hs.length ≤ 1000
  nm : ∀ h ∈ hs, h.1.length ≤ 1000
  nl : ∀ h ∈ hs, h.2.length ≤ 1000
  nn : ∀ h ∈ hs, ∀ n ∈ h.2, n.length ≤ 1000

theorem getD_mem {hs : List Hd} {k : Nat} (h : k < hs.length) : hs.getD k hd0 ∈ hs := by
  rw [List.getD_eq_getElem?_getD, List.getElem?_eq_getElem h]; exact List.getElem_mem h

theorem one_cell {w : World} {nm : ByteArray} {tg : Bool} {nv : Value} {ss : List Txt} (h : LiesS w nv ss) : (#[Value.string nm, .bool tg, nv] : Array Value).all (·.oneCell') = true := by
  obtain ⟨ao, cap, rfl, _⟩ := h
  simp [Value.oneCell']

theorem list_one {w : World} {nm : ByteArray} {tg : Bool} {nv : Value} {ss : List Txt} (h : LiesS w nv ss) : ∀ u ∈ [Value.string nm, .bool tg, nv], u.oneCell' = true := by
  obtain ⟨ao, cap, rfl, _⟩ := h
  simp [Value.oneCell']

/-- The map of the first k names. -/
def PlS (w : World) (hs : List Hd) (B k : Nat) (wr : World) : Prop :=
  ∃ N ks, MapI wr B N ks (fun x => ((names hs).idxOf x : Int)) ∧ N ≤ k ∧ (∀ x, x ∈ ks ↔ x ∈ names (hs.take k)) ∧ Old w wr

def PlacesP (w : World) (hs : List Hd) (e : Ending) (w' : World) : Prop := ∃ b N ks, e = .returned (.map (some b)) ∧ MapI w' b N ks (fun x => ((names hs).idxOf x : Int)) ∧ (∀ x, x ∈ ks ↔ x ∈ names hs) ∧ Old w w' ∧ w.heap.size ≤ b

theorem names_take {hs : List Hd} {k : Nat} (h : k < hs.length) : names (hs.take (k + 1)) = names (hs.take k) ++ [(hs.getD k hd0).1] := by
  unfold names
  rw [List.take_succ_eq_append_getElem h, List.map_append, List.getD_eq_getElem?_getD, List.getElem?_eq_getElem h]
  rfl

theorem idx_new {hs : List Hd} {k : Nat} (h : k < hs.length) (hn : (hs.getD k hd0).1 ∉ names (hs.take k)) : (names hs).idxOf (hs.getD k hd0).1 = k := by
  have e : names hs = names (hs.take k) ++ names (hs.drop k) := by unfold names; rw [← List.map_append, List.take_append_drop]
  have e2 : names (hs.drop k) = (hs.getD k hd0).1 :: names (hs.drop (k + 1)) := by
    unfold names
    rw [List.drop_eq_getElem_cons h, List.map_cons, List.getD_eq_getElem?_getD, List.getElem?_eq_getElem h]
    rfl
  rw [e, List.idxOf_append, if_neg hn, e2, List.idxOf_cons_self]
  simp [names]; omega

theorem PlS.skip {w : World} {hs : List Hd} {B k : Nat} {wr w' : World} (h : PlS w hs B k wr) (hk : k < hs.length) (hm : (hs.getD k hd0).1 ∈ names (hs.take k)) (hb : Old wr w') : PlS w hs B (k + 1) w' := by
  obtain ⟨N, ks, h1, h2, h3, h4⟩ := h
  refine ⟨N, ks, h1.old hb, by omega, fun x => ?_, h4.trans (hb.mono h4.size)⟩
  rw [h3, names_take hk, List.mem_append, List.mem_singleton]
  exact ⟨.inl, fun h => h.elim id (fun e => e ▸ hm)⟩

theorem wf_nat {k : Nat} (h : k ≤ 1000000) : (Lit.int .i64 (k : Int)).wf = true := WalkArith.wf_i64 (by omega)

theorem PlS.put {w : World} {hs : List Hd} {B k : Nat} {wr w' w2 : World} (h : PlS w hs B k wr) (hk : k < hs.length) (hm : (hs.getD k hd0).1 ∉ names (hs.take k)) (hb : Old wr w') (hB : w.heap.size ≤ B) {N : Nat} {ks : List Txt} (hN : N ≤ k) (hks : ∀ x, x ∈ ks ↔ x ∈ names (hs.take k))
    (h2 : MapI w2 B (N + 1) (if (hs.getD k hd0).1 ∈ ks then ks else ks ++ [(hs.getD k hd0).1]) (fun x => if x = (hs.getD k hd0).1 then (k : Int) else ((names hs).idxOf x : Int))) (hg : w'.grownBy w2 (some B)) : PlS w hs B (k + 1) w2 := by
  obtain ⟨_, _, _, _, _, h4⟩ := h
  have h5 : Old w w' := h4.trans (hb.mono h4.size)
  refine ⟨N + 1, _, h2.congr (fun x hx => ?_), by omega, fun x => ?_, ⟨hg.os.trans h5.os, hg.tape.trans h5.tape, hg.output.trans h5.output, Nat.le_trans h5.size hg.size, fun j hj => ?_⟩⟩
  · by_cases e : x = (hs.getD k hd0).1
    · rw [if_pos e, e, idx_new hk hm]
    · rw [if_neg e]
  · rw [if_neg (fun e => hm ((hks _).1 e)), names_take hk, List.mem_append, List.mem_append, hks]
  · rw [hg.block j (Nat.lt_of_lt_of_le hj h5.size) (by simp; omega)]
    exact h5.block j hj

set_option maxHeartbeats 4000000 in
theorem places_walk (w : World) (v : Value) (hs : List Hd) (hv : LiesH w v hs) (hm : SmallH hs) : Calls Try.prog 25 #[v] w (PlacesP w hs) := by
  have H1 := mkHid hv
  have HM := mkHid hm
  obtain ⟨ao, cap, rfl, -⟩ := hv
  obtain ⟨n, hn⟩ : ∃ n, n = hs.length := ⟨_, rfl⟩
  have hl := hm.len
  rw [← hn] at hl ⊢
  have hmm := run_make46 n (by omega)
  have HN := mkHid hn
  have HL := mkHid hl
  clear hn hl hm
  go_enter Try.func25, Try.ntmps25
  go_wp2
  go_loopw [13] (fun i wr => ∃ k : Nat, k ≤ n ∧ i = .int .i64 k ∧ Hid (PlS w hs w.heap.size k wr)) (fun i _ => n - (intOf i).toNat)
  case atStart => exact ⟨0, by omega, rfl, mkHid ⟨0, [], MapI.made _ _, Nat.le_refl _, by simp [names], old1 _ _⟩⟩
  case round =>
    obtain ⟨k, hk, rfl, HS⟩ := hrel
    by_cases hkn : k < n
    · obtain ⟨N, ks, m1, m2, m3, m4⟩ := HS.out
      have hkl : k < hs.length := by rw [← HN.out]; exact hkn
      obtain ⟨b1, o1, c1, e1, hc1, hat⟩ := (H1.out.old m4).form (by omega)
      obtain rfl : ao = some ⟨b1, o1, none⟩ := by cases e1; rfl
      obtain ⟨tg, nv, hr, hlv⟩ := hat k hkl
      obtain ⟨s, hse⟩ : ∃ s, s = str (hs.getD k hd0).1 := ⟨_, rfl⟩
      have hsl : s.data.toList = (hs.getD k hd0).1 := by rw [hse]; rfl
      have hsz : s.size ≤ maxLen := by
        have := HM.out.nm _ (getD_mem hkl)
        rw [hse, str_size]; unfold maxLen; omega
      rw [← hse] at hr
      obtain ⟨fs, hfs⟩ := under24
      obtain ⟨q, hq⟩ : ∃ q, q = decide (s.data.toList ∈ ks) := ⟨_, rfl⟩
      have hnl : N < maxLen := by have := HL.out; unfold maxLen; omega
      have hlook : ∀ w', Old wr w' → (Instr.lookup 46 (.map (some w.heap.size)) (.string s) true).run Try.prog w' = .ok (.tuple #[.int .i64 (atK ks (fun x => ((names hs).idxOf x : Int)) s.data.toList), .bool q]) w' := fun w' hw => by
        rw [hq]; exact (m1.old hw).run_look_ok s hsz
      obtain ⟨at0, hat0⟩ : ∃ a, a = atK ks (fun x => ((names hs).idxOf x : Int)) s.data.toList := ⟨_, rfl⟩
      rw [← hat0] at hlook
      have hone := one_cell (nm := s) (tg := tg) hlv
      have M1 := mkHid m1
      have HR := mkHid hr
      have HLOOK := mkHid hlook
      have HONE := mkHid hone
      have HQ := mkHid hq
      have HSZ := mkHid hsz
      have HNL := mkHid hnl
      have HSL := mkHid hsl
      have M2 := mkHid m2
      have M3 := mkHid m3
      have HKL := mkHid hkl
      have hwk : wrap64 ((k : Int) + 1) = (k : Int) + 1 := by have := HL.out; unfold wrap64; omega
      have HWK := mkHid hwk
      have HWF : Hid ((Lit.int .i64 (k : Int)).wf = true) := wf_nat (by have := HL.out; omega)
      have hk0 : (k : Int) < (n : Int) := by omega
      clear e1 hc1 hat hr hlv hse hsz hlook hone hq m1 m2 m3 m4 hnl hsl hat0 hwk hkl
      cases q
      all_goals
        go_wp2_with (first
          | ((with_reducible refine at_op (.load 24 (.tmp 16)) ?_); refine wpList_load_mid rfl 24 (.tmp 16) rfl b1 (o1 + k * 3) rfl _ _ HR.out hfs rfl size24 ?_)
          | ((with_reducible refine at_op (.store 24 (.tmp 5) (.tmp 17)) ?_)
             refine wpList_store_row rfl 24 (.tmp 5) (.tmp 17) rfl wr.heap.size _ rfl rfl 24 hd0A (h10 _ _) size24 rfl HONE.out ?_
             rw [World.setRow_alloc_new]
             obtain ⟨W1, hW1⟩ : ∃ W1, W1 = wr.alloc (.cells #[.string s, .bool tg, nv] 24) := ⟨_, rfl⟩
             have b1 : Old wr W1 := by rw [hW1]; exact old1 _ _
             have HB1 := mkHid b1
             have G6 : Hid (W1.heap[wr.heap.size]? = some (.cells #[.string s, .bool tg, nv] 24 (0, 0))) := by show _ = _; rw [hW1]; exact h10 _ _
             rw [← hW1]
             have hl1 := HLOOK.out W1 b1
             obtain ⟨r0, r1, r2⟩ := cell3 G6.out
             clear b1 hW1)
          | (at_mapUpdate; refine wpList_put46 rfl (.tmp 27) (.tmp 29) (.tmp 30) rfl w.heap.size N ks _ rfl (M1.out.old HB1.out) s rfl HSZ.out HNL.out (k : Int) rfl HWF.out ?_
             intro w2 hp hg
             have HP := mkHid hp
             have HG := mkHid hg
             clear hp hg))
      · go_roundw
        case rel =>
          have e : s.data.toList ∉ ks := by have := HQ.out; simpa using this
          refine ⟨k + 1, by omega, by rw [HWK.out]; rfl, mkHid ?_⟩
          have hp := HP.out
          rw [HSL.out] at hp e
          exact PlS.put HS.out HKL.out (fun h => e ((M3.out _).2 h)) HB1.out (Nat.le_refl _) M2.out M3.out hp HG.out
        case measure => rw [HWK.out]; exact meas hkn
      · go_roundw
        case rel =>
          have e : s.data.toList ∈ ks := by have := HQ.out; simpa using this
          rw [HSL.out] at e
          exact ⟨k + 1, by omega, by rw [HWK.out]; rfl, mkHid (HS.out.skip HKL.out ((M3.out _).1 e) HB1.out)⟩
        case measure => rw [HWK.out]; exact meas hkn
    · go_wp2
      go_ret
      obtain ⟨N, ks, h1, h2, h3, h4⟩ := HS.out
      refine ⟨_, N, ks, rfl, h1, fun x => ?_, h4, Nat.le_refl _⟩
      rw [h3, List.take_of_length_le (by have := HN.out; omega)]
end Go.Proofs.Ytcogeebfldlpoaa
