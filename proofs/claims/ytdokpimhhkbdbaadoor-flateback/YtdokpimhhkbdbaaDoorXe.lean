/-
  flate.Fixed.
-/
import Derived.Test.YtdokpimhhkbdbaaDoorXd
set_option linter.unusedSimpArgs false
set_option linter.unusedVariables false
namespace Go.Proofs.YtdokpimhhkbdbaaDoor
open Go.RowKit

theorem Fx.first (w3 : World) : Fx w3.heap.size w3 (w3.alloc (.cells #[.slice none 0 0, .int .i64 0] 84)) (0, 0) [] :=
  ⟨⟨_, wv_new w3, fun j hj => by cases hj⟩, (Below.refl _ _).alloc (Nat.le_refl _) _, by simp, fun x hx => by cases hx⟩

theorem Fx.fixed {p g tl td : Nat} {w3 w : World} {S : Nat × Nat} {ws : List (Nat × Array Value × TypeId)} (h : Fx p w3 w S ws) (hp : g < p) (hg : w3.heap[g]? = some (.cells #[.pointer (some ⟨tl, 0, none⟩), .pointer (some ⟨td, 0, none⟩)] 56 (0, 0))) : w.heap[g]? = some (.cells #[.pointer (some ⟨tl, 0, none⟩), .pointer (some ⟨td, 0, none⟩)] 56 (0, 0)) := by
  rw [h.below.block g hp]; exact hg

theorem Fx.bytes {p : Nat} {w3 w : World} {S : Nat × Nat} {ws : List (Nat × Array Value × TypeId)} (h : Fx p w3 w S ws) (hT : S.2 < 1000000) :
    Calls Tryd.prog 43 #[.pointer (some ⟨p, 0, none⟩)] w fun e w' => ∃ v' bs, e = .returned v' ∧ w'.ownsRow p 5 1 v' bs.length (bs.map byteV) ∧ Small bs ∧ val bs = S.1 ∧ bs.length = (S.2 + 7) / 8 ∧ Below p w3 w' := by
  obtain ⟨v, hv, hj⟩ := h.wr
  refine (bytes_fr p w v S.1 S.2 hv hT).mono ?_
  rintro e w' ⟨v', bs, rfl, h1, h2, h3, h4, h5⟩
  have hlt := h.lt
  refine ⟨v', bs, rfl, ?_, h2, h3, h4, h.below.trans (h5.mono (by omega))⟩
  exact owns_base h1 (by omega)

/-- What the world holds when the writer is new. -/
structure Fo (w w3 : World) (g tl td : Nat) : Prop where
  tabl : Tab w3 tl litsL
  tabd : Tab w3 td distsL
  cell : w3.heap[g]? = some (.cells #[.pointer (some ⟨tl, 0, none⟩), .pointer (some ⟨td, 0, none⟩)] 56 (0, 0))
  below : Below w.heap.size w w3

theorem Fo.new {w w1 : World} {tl td : Nat} (h1 : Tab w1 tl litsL) (h2 : Tab w1 td distsL) (hb : Below w.heap.size w w1) : Fo w (w1.alloc (.cells #[.pointer (some ⟨tl, 0, none⟩), .pointer (some ⟨td, 0, none⟩)] 56)) w1.heap.size tl td := by
  have hal : Below w1.heap.size w1 (w1.alloc (.cells #[.pointer (some ⟨tl, 0, none⟩), .pointer (some ⟨td, 0, none⟩)] 56)) := (Below.refl _ _).alloc (Nat.le_refl _) _
  exact ⟨h1.old hal, h2.old hal, heap_alloc_new w1 _, hb.trans (hal.mono hb.size)⟩

set_option maxRecDepth 100000 in
set_option maxHeartbeats 4000000 in
theorem fixed26 (w : World) (v : Value) (b : List Nat) (hv : Lies w v b) (hs : Small b) (hb : b.length ≤ 19000) :
    Calls Tryd.prog 26 #[v] w fun e w' => ∃ v' bs, e = .returned v' ∧ w'.ownsRow w.heap.size 5 1 v' bs.length (bs.map byteV) ∧ Small bs ∧ val bs = (fixE b).1 ∧ bs.length = ((fixE b).2 + 7) / 8 ∧ Below w.heap.size w w' := by
  have HV := Q.mkHid hv
  have hfc := Q.mkHid Q.fixedCodes_walk
  have hnw : Hid (∀ w, Calls Tryd.prog 38 #[] w fun e w' => e = .returned (.pointer (some ⟨w.heap.size, 0, none⟩)) ∧ Fx w.heap.size w w' (0, 0) []) := fun w => (new_walk w).mono fun e w' ⟨h1, h2⟩ => ⟨h1, by rw [h2]; exact Fx.first w⟩
  have hOK := Q.mkHid (split_ok b hs hb)
  have hLN := Q.mkHid (split_len b)
  obtain ⟨l, hl⟩ : ∃ l, l = Lz.splitL b := ⟨_, rfl⟩
  have HE : Hid (fixE b = wadd (putAll fixS l) (sigP litsL 256)) := by show _ = _; rw [hl]; rfl
  generalize fixE b = E at HE ⊢
  obtain ⟨n, hn⟩ : ∃ n, n = l.length := ⟨_, rfl⟩
  have HN := Q.mkHid hn
  have hsp : Hid (∀ wx p w3 S g tl td, Fx p w3 wx S [] → p = w3.heap.size → Fo w w3 g tl td → Calls Tryd.prog 40 #[v] wx fun e w' => ∃ ao cap W, e = .returned (.slice ao n cap) ∧ Fx p w3 w' S W ∧ Hid (∀ w' S', Fx p w3 w' S' W → Lz.Steps 0 71 w' (.slice ao n cap) l)) := by
    intro wx p w3 S g tl td h1 h2 h3
    have hb1 : Below w.heap.size w wx := h3.below.trans (h1.below.mono (by rw [h2]; exact h3.below.size))
    refine (Lz.split_walk wx v b (HV.out.old hb1) (by omega)).mono ?_
    rintro e w' ⟨v', rfl, hst, hbl⟩
    have h4 := h1.old hbl
    rw [← hl] at hst
    obtain ⟨W, hW, hr⟩ := h4.steps (B := 0) ⟨hst.1, by
      rcases hst.2 with h | ⟨g, cap, cur, rfl, hB, r⟩
      · exact .inl h
      · exact .inr ⟨g, cap, cur, rfl, Nat.zero_le _, r⟩⟩
    obtain ⟨ao, cap, hsv, -⟩ := Lz.Tells.cells (Lz.tells_own (hr _ _ hW))
    rw [← hn] at hsv
    subst hsv
    exact ⟨ao, cap, W, rfl, hW, hr⟩
  rw [← hl] at hOK hLN
  have HL : Hid (n ≤ 19000) := by show _ ≤ _; have := hLN.out; omega
  clear hv hs hb hl hn hLN
  have hput : Hid (∀ wx p w3 S (x : Nat) (c : Nat), Fx p w3 wx S [] → c ≤ 16 → S.2 < 900000 → Calls Tryd.prog 39 #[.pointer (some ⟨p, 0, none⟩), .int .i64 (x : Int), .int .i64 (c : Int)] wx fun e w' => e = .returned (.tuple #[]) ∧ Fx p w3 w' (wadd S (lowP x c)) []) := fun wx p w3 S x c h1 h2 h3 => h1.low x c h2 h3
  have hput1 : Hid (∀ wx p w3, Fx p w3 wx (0, 0) [] → Calls Tryd.prog 39 #[.pointer (some ⟨p, 0, none⟩), .int .i64 1, .int .i64 1] wx fun e w' => e = .returned (.tuple #[]) ∧ Fx p w3 w' (wadd (0, 0) (lowP 1 1)) []) := fun wx p w3 h1 => hput.out wx p w3 (0, 0) 1 1 h1 (by decide) (by decide)
  have hput2 : Hid (∀ wx p w3, Fx p w3 wx (wadd (0, 0) (lowP 1 1)) [] → Calls Tryd.prog 39 #[.pointer (some ⟨p, 0, none⟩), .int .i64 1, .int .i64 2] wx fun e w' => e = .returned (.tuple #[]) ∧ Fx p w3 w' fixS []) := fun wx p w3 h1 => hput.out wx p w3 _ 1 2 h1 (by decide) (by decide)
  clear hput
  go_enter Tryd.func26, Tryd.ntmps26
  go_wp2_with (first
    | (go_at_call 31; (with_reducible refine (hfc.out _).mono ?_); rintro e w1 ⟨tl, td, rfl, t1, t2, b1⟩
       have FO := Q.mkHid (Fo.new t1 t2 b1)
       clear t1 t2 b1)
    | (go_at_call 38
       generalize w1.alloc (.cells #[.pointer (some ⟨tl, 0, none⟩), .pointer (some ⟨td, 0, none⟩)] 56) = w3 at *
       generalize w1.heap.size = g at *
       (with_reducible refine (hnw.out _).mono ?_); rintro e w4 ⟨rfl, F4⟩)
    | (go_at_call 39; (with_reducible refine (hput1.out _ _ _ (by assumption)).mono ?_); rintro e w5 ⟨rfl, F5⟩)
    | (go_at_call 39; (with_reducible refine (hput2.out _ _ _ (by assumption)).mono ?_); rintro e w6 ⟨rfl, F6⟩)
    | (go_at_call 40; (with_reducible refine (hsp.out _ _ _ _ _ _ _ F6 rfl FO.out).mono ?_); rintro e w7 ⟨ao, cap, W, rfl, F7, HS⟩))
  obtain ⟨p, hp⟩ : ∃ p, p = w3.heap.size := ⟨_, rfl⟩
  rw [← hp] at F7 HS ⊢
  have HP := Q.mkHid hp
  clear hp F4 F5 F6
  go_loopw [16] (fun i wr => ∃ j : Nat, j ≤ n ∧ i = .int .i64 j ∧ Fx p w3 wr (putAll fixS (l.take j)) W) (fun i _ => n - (intOf i).toNat)
  case atStart => exact ⟨0, by omega, rfl, by simpa [putAll] using F7⟩
  case round =>
    obtain ⟨j, hjn, rfl, FJ⟩ := hrel
    clear F7
    have hgp : g < p := by rw [HP.out]; exact lt_of_block FO.out.cell
    have hG := FJ.fixed hgp FO.out.cell
    have hTB : Hid ((putAll fixS (l.take j)).2 < 800000) := by
      show _ < _
      have h1 := putAll_len (l.take j) fixS (fun s hm => hOK.out s (List.mem_of_mem_take hm))
      have h2 : (l.take j).length ≤ j := by simp; omega
      have h3 := HL.out
      have h4 : fixS.2 = 3 := rfl
      omega
    by_cases hj : j < n
    · have hjb : j < 19000 := by have := HL.out; omega
      have HJ : Hid (j < l.length) := by show _ < _; rw [← HN.out]; exact hj
      obtain ⟨ao', cap', he, hc⟩ := Lz.Tells.cells (Lz.tells_own (HS.out _ _ FJ))
      injection he with e1 e2 e3
      subst e1
      obtain ⟨lg, lof, rfl, hcs⟩ := hc (by have := HJ.out; omega)
      obtain ⟨d1, d2, d3⟩ := hcs j HJ.out
      have hso := hOK.out _ (nthS_mem l j HJ.out)
      have HT : Hid (putAll fixS (l.take (j + 1)) = putS (putAll fixS (l.take j)) (Lz.nthS l j)) := by
        show _ = _
        rw [take_snoc l j HJ.out, putAll_snoc]
      generalize Lz.nthS l j = s at d1 d2 d3 hso HT
      have hcp : Hid (∀ wx, Fx p w3 wx (putAll fixS (l.take j)) W → Calls Tryd.prog 41 #[cAgg tl td, .pointer (some ⟨p, 0, none⟩), .agg #[.int .u8 (s.b : Int), .int .i64 s.l, .int .i64 s.d]] wx fun e w' => e = .returned (.tuple #[]) ∧ Fx p w3 w' (putAll fixS (l.take (j + 1))) W) := by
        intro wx hx
        rw [HT.out]
        exact cput p tl td w3 wx _ W hx HP.out FO.out.tabl FO.out.tabd s hso hTB.out
      obtain ⟨sb, sl, sd⟩ := s
      simp only at d1 d2 d3 hcp
      clear hso HT hcs hc e2 e3
      have hq0 : Below wr.heap.size wr (wr.alloc (.cells #[.int .u8 (sb : Int), .int .i64 sl, .int .i64 sd] 71)) := (Below.refl _ _).alloc (Nat.le_refl _) _
      have HQ0 := Q.mkHid hq0
      clear hq0
      have HG := Q.mkHid hG
      clear hG
      go_wp2_with (first
        | (refine wpList_store_row rfl 71 (.tmp 6) (.tmp 19) rfl wr.heap.size #[.int .u8 (sb : Int), .int .i64 sl, .int .i64 sd] rfl rfl 71 _ (heap_alloc_new wr _) Lz.Tryd.size27 rfl (Lz.stC_one sb sl sd) ?_
           rw [World.setRow_alloc_new]
           have q1 := Q.mkHid (heap_alloc_new wr (.cells #[.int .u8 (sb : Int), .int .i64 sl, .int .i64 sd] 71))
           have q2 := FJ.old HQ0.out
           have q3 := Q.mkHid (q2.fixed hgp FO.out.cell)
           clear d1 d2 d3 HQ0 HG FJ
           generalize wr.alloc (.cells #[.int .u8 (sb : Int), .int .i64 sl, .int .i64 sd] 71) = w8 at *
           generalize wr.heap.size = q at *)
        | (refine Lz.wpList_load27 rfl (.tmp 6) rfl q rfl _ _ _ q1.out ?_)
        | (obtain ⟨fs, hfs⟩ := Q.Tryd.under56
           refine wpList_load_row rfl 56 (.tmp 3) rfl g rfl 56 #[.pointer (some ⟨tl, 0, none⟩), .pointer (some ⟨td, 0, none⟩)] (0, 0) _ q3.out hfs rfl Q.Tryd.info56 ?_)
        | (go_at_call 41; (with_reducible refine (hcp.out _ (by assumption)).mono ?_); rintro e w9 ⟨rfl, F9⟩))
      go_roundw
      case rel => exact ⟨j + 1, by omega, by go_num, F9⟩
      case measure => simp [intOf]; omega
    · have hjj : j = n := by omega
      subst hjj
      have c0 := cell2_0 hG
      have hTk : l.take j = l := by rw [HN.out]; exact List.take_length
      rw [hTk] at FJ hTB
      have hsg : Hid (Calls Tryd.prog 42 #[.pointer (some ⟨tl, 0, none⟩), .pointer (some ⟨p, 0, none⟩), .int .i64 256] wr fun e w' => e = .returned (.bool true) ∧ Fx p w3 w' E W) := by
        have := FJ.sig HP.out FO.out.tabl 256 (by rw [lits_len]; decide) (lits_pos 256 (by decide)).1 (by have := hTB.out; omega)
        rw [← HE.out] at this
        exact this
      have hE2 : Hid (E.2 < 1000000) := by
        show _ < _
        have h1 := hTB.out
        have h2 : (sigP litsL 256).2 = 7 := lits_256.1
        rw [HE.out]
        simp only [wadd, h2]
        omega
      have hby : Hid (∀ wx, Fx p w3 wx E W → Calls Tryd.prog 43 #[.pointer (some ⟨p, 0, none⟩)] wx fun e w' => ∃ v' bs, e = .returned v' ∧ Hid (w'.ownsRow p 5 1 v' bs.length (bs.map byteV) ∧ Small bs ∧ val bs = E.1 ∧ bs.length = (E.2 + 7) / 8 ∧ Below p w3 w')) := fun wx hx => hx.bytes hE2.out
      clear hTk hG hTB
      go_wp2_with (first
        | (go_at_call 42; (with_reducible refine hsg.out.mono ?_); rintro e w8 ⟨rfl, F8⟩)
        | (go_at_call 43; (with_reducible refine (hby.out _ (by assumption)).mono ?_); rintro e w9 ⟨v9, bs, rfl, hr⟩))
      go_ret
      obtain ⟨r1, r2, r3, r4, r5⟩ := hr.out
      have hsz : w.heap.size ≤ p := by rw [HP.out]; exact FO.out.below.size
      exact ⟨v9, bs, rfl, owns_base r1 hsz, r2, r3, r4, FO.out.below.trans (r5.mono hsz)⟩

end Go.Proofs.YtdokpimhhkbdbaaDoor
