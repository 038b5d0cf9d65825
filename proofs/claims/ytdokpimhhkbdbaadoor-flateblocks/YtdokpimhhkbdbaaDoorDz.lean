/-
  The document's FixedBlock.
-/
import Derived.Test.YtdokpimhhkbdbaaDoorBi
import Derived.Test.YtdokpimhhkbdbaaDoorBj
import Derived.Test.YtdokpimhhkbdbaaDoorBf
import Derived.Test.YtdokpimhhkbdbaaDoorBk
import Derived.Test.YtdokpimhhkbdbaaDoorZRa
import Derived.Test.YtdokpimhhkbdbaaDoorBh
set_option linter.unusedSimpArgs false
set_option linter.unusedVariables false
namespace Go.Proofs.YtdokpimhhkbdbaaDoor
open Go.RowKit

/-- A row of numbers that can be read. -/
def Tb (w : World) (g n : Nat) (l : List Nat) : Prop := (∃ cur, w.heap[g]? = some (Obj.cells cur 3 (0, 0))) ∧ ∀ k, k < n → w.cell? ⟨g, k, none⟩ = some (.int .i64 (nth l k : Nat))

theorem Tb.keep {w w' : World} {g n : Nat} {l : List Nat} (h : Tb w g n l) (k : Kp w w') : Tb w' g n l := by
  obtain ⟨⟨cur, h1⟩, h2⟩ := h
  exact ⟨⟨cur, k g cur 3 (0, 0) h1 (by decide) (by decide)⟩, fun j hj => k.cell h1 (by decide) (by decide) (h2 j hj)⟩

theorem tb_own {w : World} {B g n cap : Nat} {l : List Nat} (h : w.ownsRow B 3 1 (.slice (some ⟨g, 0, none⟩) n cap) n (l.map natV)) (hn : l.length = n) : Tb w g n l := by
  refine ⟨?_, fun k hk => nat_at hn h k hk⟩
  rcases h.2 with ⟨e, _⟩ | ⟨g', cap', cur, e, _, hg, _⟩
  · cases e
  · cases e; exact ⟨cur, hg⟩

theorem owns_low {w : World} {B e sz : Nat} {v : Value} {n : Nat} {xs : List Value} (h : w.ownsRow B e sz v n xs) : w.ownsRow 0 e sz v n xs := by
  refine ⟨h.1, ?_⟩
  rcases h.2 with h2 | ⟨g, cap, cur, rfl, hB, r⟩
  · exact .inl h2
  · exact .inr ⟨g, cap, cur, rfl, Nat.zero_le _, r⟩

theorem codes_len (l : List Nat) : (codesOf l).length = l.length := upto_length _ _ _

theorem codes_hid (l : List Nat) (n : Nat) (hn : n = l.length) (h0 : 0 < n) (h3 : n ≤ 320) (hok : OK (castL l)) :
    Hid (∀ w g cap, w.ownsRow 0 3 1 (.slice (some ⟨g, 0, none⟩) n cap) n (l.map natV) → Calls Tryd.prog 15 #[.slice (some ⟨g, 0, none⟩) n cap] w fun e w' => ∃ g2 cap2, e = .returned (.tuple #[.slice (some ⟨g2, 0, none⟩) n cap2, .bool true]) ∧ Hid (Tb w' g2 n (codesOf l) ∧ n ≤ cap2) ∧ Hid (Below w.heap.size w w')) := by
  intro w g cap h
  subst hn
  have hlen : (castL l).length = l.length := castL_length l
  refine (codes_walk w _ (castL l) (ints_nat h) (by rw [hlen]; exact h3)).mono ?_
  rintro e w' ⟨hb, ⟨_, cv, rfl, ho⟩ | ⟨hno, _⟩⟩
  · rw [hlen, cast_back] at ho
    have ho' := ho
    rcases ho.2 with ⟨rfl, hz⟩ | ⟨g2, cap2, cur, rfl, _, _, hc, _⟩
    · omega
    · exact ⟨g2, cap2, rfl, ⟨tb_own ho' (codes_len l), hc⟩, hb⟩
  · exact absurd hok hno

theorem steps_keep {w w' : World} {B : Nat} {v : Value} {l : List Lz.St} (h : Lz.Steps B 77 w v l) (k : Kp w w') : Lz.Steps B 77 w' v l := by
  refine ⟨h.1, ?_⟩
  rcases h.2 with h2 | ⟨g, cap, cur, rfl, hB, hg, r⟩
  · exact .inl h2
  · exact .inr ⟨g, cap, cur, rfl, hB, k g cur 77 (0, 0) hg (by decide) (by decide), r⟩

theorem code_lits (s : Nat) (hs : s < 288) : nth (codesOf litsL) s = code litsL s := by
  rw [codesOf_get litsL lits_15 s (by rw [lits_len]; exact hs), if_pos (lits_pos s hs).1]
theorem code_dists (s : Nat) (hs : s < 32) : nth (codesOf distsL) s = code distsL s := by
  rw [codesOf_get distsL dists_15 s (by rw [dists_len]; exact hs), if_pos (by rw [dists_pos s hs]; decide)]

/-- All that the loop reads. -/
structure Env (w : World) (g1 g2 g3 g4 : Nat) (v : Value) (l : List Lz.St) : Prop where
  t1 : Tb w g1 288 litsL
  t2 : Tb w g2 32 distsL
  t3 : Tb w g3 288 (codesOf litsL)
  t4 : Tb w g4 32 (codesOf distsL)
  st : Lz.Steps 0 77 w v l

theorem Env.keep {w w' : World} {g1 g2 g3 g4 : Nat} {v : Value} {l : List Lz.St} (h : Env w g1 g2 g3 g4 v l) (k : Kp w w') : Env w' g1 g2 g3 g4 v l :=
  ⟨h.t1.keep k, h.t2.keep k, h.t3.keep k, h.t4.keep k, steps_keep h.st k⟩

theorem Env.lit {w : World} {g1 g2 g3 g4 : Nat} {v : Value} {l : List Lz.St} (h : Env w g1 g2 g3 g4 v l) (s : Nat) (hs : s < 288) : w.cell? ⟨g1, s, none⟩ = some (.int .i64 (nth litsL s : Nat)) ∧ w.cell? ⟨g3, s, none⟩ = some (.int .i64 (code litsL s : Nat)) :=
  ⟨h.t1.2 s hs, by rw [← code_lits s hs]; exact h.t3.2 s hs⟩

theorem Env.dis {w : World} {g1 g2 g3 g4 : Nat} {v : Value} {l : List Lz.St} (h : Env w g1 g2 g3 g4 v l) (s : Nat) (hs : s < 32) : w.cell? ⟨g2, s, none⟩ = some (.int .i64 (nth distsL s : Nat)) ∧ w.cell? ⟨g4, s, none⟩ = some (.int .i64 (code distsL s : Nat)) :=
  ⟨h.t2.2 s hs, by rw [← code_dists s hs]; exact h.t4.2 s hs⟩

/-- The state within a round. -/
structure Lp (p : Nat) (w wr : World) (S : Nat × Nat) (g1 g2 g3 g4 : Nat) (v : Value) (l : List Lz.St) (q : Nat) (c : Array Value) : Prop where
  gx : Gx p w wr S
  env : Env wr g1 g2 g3 g4 v l
  blk : wr.heap[q]? = some (Obj.cells c 77 (0, 0))

theorem Lp.go {p : Nat} {w wr w' : World} {S S' : Nat × Nat} {g1 g2 g3 g4 : Nat} {v : Value} {l : List Lz.St} {q : Nat} {c : Array Value} (h : Lp p w wr S g1 g2 g3 g4 v l q c) (hg : Gx p w w' S') (k : Kp wr w') : Lp p w w' S' g1 g2 g3 g4 v l q c :=
  ⟨hg, h.env.keep k, k q c 77 (0, 0) h.blk (by decide) (by decide)⟩

theorem Lp.drew {p : Nat} {w wr : World} {S : Nat × Nat} {g1 g2 g3 g4 : Nat} {v : Value} {l : List Lz.St} {q : Nat} {c : Array Value} (h : Lp p w wr S g1 g2 g3 g4 v l q c) : Lp p w wr.drew S g1 g2 g3 g4 v l q c :=
  h.go (h.gx.old ⟨rfl, rfl, rfl, Nat.le_refl _, fun _ _ => rfl⟩) (fun _ _ _ _ h _ _ => h)

theorem Lp.sig {p : Nat} {w wr : World} {S : Nat × Nat} {g1 g2 g3 g4 : Nat} {v : Value} {l : List Lz.St} {q : Nat} {c : Array Value} (h : Lp p w wr S g1 g2 g3 g4 v l q c) (t : List Nat) (s : Nat) (hc : nth t s ≤ 16) (hT : S.2 < 900000) :
    Calls Tryd.prog 17 #[.pointer (some ⟨p, 0, none⟩), .int .i64 (code t s : Nat), .int .i64 (nth t s : Nat)] wr fun e w' => e = .returned (.tuple #[]) ∧ Hid (Lp p w w' (wadd S (sigP t s)) g1 g2 g3 g4 v l q c) :=
  (h.gx.sig t s hc hT).mono fun e w' ⟨h1, h2, h3⟩ => ⟨h1, h.go h2 h3⟩

theorem Lp.put {p : Nat} {w wr : World} {S : Nat × Nat} {g1 g2 g3 g4 : Nat} {v : Value} {l : List Lz.St} {q : Nat} {c : Array Value} (h : Lp p w wr S g1 g2 g3 g4 v l q c) (x k : Nat) (hc : k ≤ 16) (hT : S.2 < 900000) :
    Calls Tryd.prog 12 #[.pointer (some ⟨p, 0, none⟩), .int .i64 (x : Int), .int .i64 (k : Int)] wr fun e w' => e = .returned (.tuple #[]) ∧ Hid (Lp p w w' (wadd S (lowP x k)) g1 g2 g3 g4 v l q c) :=
  (h.gx.put x k hc hT).mono fun e w' ⟨h1, h2, h3⟩ => ⟨h1, h.go h2 h3⟩

theorem measS {j n : Nat} (h : j < n) : n - (intOf (.int .i64 ((j : Int) + 1))).toNat < n - (intOf (.int .i64 (j : Int))).toNat := by
  simp [intOf]; omega

theorem docfix_hid : Hid (∀ w, Calls Tryd.prog 14 #[] w fun e w' => ∃ g1 g2, e = .returned (.tuple #[.slice (some ⟨g1, 0, none⟩) 288 288, .slice (some ⟨g2, 0, none⟩) 32 32]) ∧ Hid (Two w.heap.size w w' g1 g2 litsL distsL)) := fun w => docfixed_walk w

set_option maxRecDepth 100000 in
set_option maxHeartbeats 4000000 in
theorem docblock (w : World) (v : Value) (b : List Nat) (hv : Lies w v b) (hs : Small b) (hb : b.length ≤ 19000) :
    Calls Tryd.prog 27 #[v] w fun e w' => ∃ v' bs, e = .returned v' ∧ Lies w' v' bs ∧ Fixd b bs ∧ Below w.heap.size w w' := by
  have HV := Q.mkHid hv
  have hOK := Q.mkHid (split_ok b hs hb)
  have hLN := Q.mkHid (split_len b)
  obtain ⟨l, hl⟩ : ∃ l, l = Lz.splitL b := ⟨_, rfl⟩
  have HE : Hid (fixE b = wadd (putAll fixS l) (sigP litsL 256)) := by show _ = _; rw [hl]; rfl
  obtain ⟨n, hn⟩ : ∃ n, n = l.length := ⟨_, rfl⟩
  have HN := Q.mkHid hn
  have hsp : Hid (∀ wx, Lies wx v b → Calls Tryd.prog 44 #[v] wx fun e w' => ∃ ao cap, e = .returned (.slice ao n cap) ∧ Hid (Lz.Steps 0 77 w' (.slice ao n cap) l) ∧ Hid (Below wx.heap.size wx w')) := by
    intro wx hx
    refine (Lz.splitR_walk wx v b hx (by omega)).mono ?_
    rintro e w' ⟨v', rfl, hst, hbl⟩
    rw [← hl] at hst
    have h0 : Lz.Steps 0 77 w' v' l := ⟨hst.1, by
      rcases hst.2 with h | ⟨g, cap, cur, rfl, hB, r⟩
      · exact .inl h
      · exact .inr ⟨g, cap, cur, rfl, Nat.zero_le _, r⟩⟩
    obtain ⟨ao, cap, hsv, -⟩ := Lz.Tells.cells (Lz.tells_own h0)
    rw [← hn] at hsv
    subst hsv
    exact ⟨ao, cap, rfl, h0, hbl⟩
  rw [← hl] at hOK hLN
  have HL : Hid (n ≤ 19000) := by show _ ≤ _; have := hLN.out; omega
  have hput : Hid (∀ p w3 wx S (x c : Nat), Gx p w3 wx S → c ≤ 16 → S.2 < 900000 → Calls Tryd.prog 12 #[.pointer (some ⟨p, 0, none⟩), .int .i64 (x : Int), .int .i64 (c : Int)] wx fun e w' => e = .returned (.tuple #[]) ∧ Gx p w3 w' (wadd S (lowP x c)) ∧ Kp wx w') := fun p w3 wx S x c h1 h2 h3 => h1.put x c h2 h3
  have hput1 : Hid (∀ p w3 wx, Gx p w3 wx (0, 0) → Calls Tryd.prog 12 #[.pointer (some ⟨p, 0, none⟩), .int .i64 1, .int .i64 1] wx fun e w' => e = .returned (.tuple #[]) ∧ Hid (Gx p w3 w' (wadd (0, 0) (lowP 1 1))) ∧ Kp wx w') := fun p w3 wx h1 => hput.out p w3 wx (0, 0) 1 1 h1 (by decide) (by decide)
  have hput2 : Hid (∀ p w3 wx, Gx p w3 wx (wadd (0, 0) (lowP 1 1)) → Calls Tryd.prog 12 #[.pointer (some ⟨p, 0, none⟩), .int .i64 1, .int .i64 2] wx fun e w' => e = .returned (.tuple #[]) ∧ Hid (Gx p w3 w' fixS) ∧ Kp wx w') := fun p w3 wx h1 => hput.out p w3 wx _ 1 2 h1 (by decide) (by decide)
  have k14 := docfix_hid
  have k15 := codes_hid litsL 288 lits_len.symm (by decide) (by decide) lits_ok
  have k16 := codes_hid distsL 32 dists_len.symm (by decide) (by decide) dists_ok
  have G0 := Q.mkHid (Gx.first w)
  clear hv hs hb hl hn hLN
  go_enter Tryd.func27, Tryd.ntmps27
  go_wp2_with (first
    | (go_at_call 12
       generalize w.alloc (.cells #[.slice none 0 0, .int .i64 0, .bool false] 35) = w1 at *
       (with_reducible refine (hput1.out _ _ _ G0.out).mono ?_); rintro e w2 ⟨rfl, G2, K2⟩)
    | (go_at_call 12; (with_reducible refine (hput2.out _ _ _ G2.out).mono ?_); rintro e w3 ⟨rfl, G3, K3⟩)
    | (go_at_call 14; (with_reducible refine (k14.out _).mono ?_); rintro e w4 ⟨g1, g2, rfl, T4⟩
       have G4 := Q.mkHid (G3.out.old T4.out.below)
       have E1 := Q.mkHid (tb_own T4.out.o1 lits_len)
       have E2 := Q.mkHid (tb_own T4.out.o2 dists_len)
       have O1 : Hid (w4.ownsRow 0 3 1 (.slice (some ⟨g1, 0, none⟩) 288 288) 288 (litsL.map natV)) := Q.mkHid (owns_low T4.out.o1)
       have O2 : Hid (w4.ownsRow 0 3 1 (.slice (some ⟨g2, 0, none⟩) 32 32) 32 (distsL.map natV)) := Q.mkHid (owns_low T4.out.o2))
    | (go_at_call 15; (with_reducible refine (k15.out _ _ _ O1.out).mono ?_); rintro e w5 ⟨g3, c3, rfl, T5, B5⟩
       have G5 := Q.mkHid (G4.out.old B5.out)
       have K5 := Q.mkHid (Kp.ofBelow B5.out)
       have P2 := Q.mkHid (Lz.owns_below O2.out B5.out))
    | (go_at_call 15; (with_reducible refine (k16.out _ _ _ P2.out).mono ?_); rintro e w6 ⟨g4, c4, rfl, T6, B6⟩
       have G6 := Q.mkHid (G5.out.old B6.out)
       have K6 := Q.mkHid (Kp.ofBelow B6.out))
    | (go_at_call 44; (with_reducible refine (hsp.out _ (HV.out.old (G6.out.below.mono (Nat.le_refl _)))).mono ?_); rintro e w7 ⟨ao, cap, rfl, S7, B7⟩
       have G7 := Q.mkHid (G6.out.old B7.out)
       have K7 := Q.mkHid (Kp.ofBelow B7.out)
       have EV : Hid (Env w7 g1 g2 g3 g4 (.slice ao n cap) l) := ⟨((E1.out.keep K5.out).keep K6.out).keep K7.out, ((E2.out.keep K5.out).keep K6.out).keep K7.out, (T5.out.1.keep K6.out).keep K7.out, T6.out.1.keep K7.out, S7.out⟩))
  obtain ⟨p, hp⟩ : ∃ p, p = w.heap.size := ⟨_, rfl⟩
  rw [← hp] at G7 ⊢
  have HP := Q.mkHid hp
  clear hp G0 G2 G3 G4 G5 G6 K2 K3 K5 K6 K7 E1 E2 O1 O2 P2 T4 T5 T6 B5 B6 B7 S7 hsp hput hput1 hput2 k14 k15 k16 HV
  have G7' : Hid (Gx p w w7 (putAll fixS (l.take 0))) := by simpa [putAll] using G7
  go_loopw [38] (fun i wr => ∃ j : Nat, j ≤ n ∧ i = .int .i64 j ∧ Hid (Gx p w wr (putAll fixS (l.take j))) ∧ Hid (Env wr g1 g2 g3 g4 (.slice ao n cap) l)) (fun i _ => n - (intOf i).toNat)
  case atStart => exact ⟨0, by omega, rfl, G7', EV⟩
  case round =>
    obtain ⟨j, hjn, rfl, GJ, EJ⟩ := hrel
    clear G7 G7' EV
    have hTB : Hid ((putAll fixS (l.take j)).2 < 800000) := by
      show _ < _
      have h1 := putAll_len (l.take j) fixS (fun s hm => hOK.out s (List.mem_of_mem_take hm))
      have h2 : (l.take j).length ≤ j := by simp; omega
      have h3 := HL.out
      have h4 : fixS.2 = 3 := rfl
      omega
    by_cases hj : j < n
    · have HJ : Hid (j < l.length) := by show _ < _; rw [← HN.out]; exact hj
      obtain ⟨ao', cap', he, hc⟩ := Lz.Tells.cells (Lz.tells_own EJ.out.st)
      injection he with e1 e2 e3
      subst e1
      obtain ⟨lg, lof, rfl, hcs⟩ := hc (by have := HJ.out; omega)
      obtain ⟨d1, d2, d3⟩ := hcs j HJ.out
      have hso := hOK.out _ (nthS_mem l j HJ.out)
      have HT : Hid (putAll fixS (l.take (j + 1)) = putS (putAll fixS (l.take j)) (Lz.nthS l j)) := by
        show _ = _
        rw [take_snoc l j HJ.out, putAll_snoc]
      generalize Lz.nthS l j = s at d1 d2 d3 hso HT
      obtain ⟨sb, sl, sd⟩ := s
      simp only at d1 d2 d3
      clear hcs hc e2 e3
      generalize putAll fixS (l.take j) = S at GJ hTB HT
      obtain ⟨S', hS'⟩ : ∃ S', S' = putAll fixS (l.take (j + 1)) := ⟨_, rfl⟩
      rw [← hS'] at HT
      have HS1 := Q.mkHid hS'
      clear hS'
      have hq0 : Below wr.heap.size wr (wr.alloc (.cells #[.int .u8 (sb : Int), .int .i64 sl, .int .i64 sd] 77)) := (Below.refl _ _).alloc (Nat.le_refl _) _
      have L0 : Hid (Lp p w (wr.alloc (.cells #[.int .u8 (sb : Int), .int .i64 sl, .int .i64 sd] 77)) S g1 g2 g3 g4 (.slice (some ⟨lg, lof, none⟩) n cap) l wr.heap.size #[.int .u8 (sb : Int), .int .i64 sl, .int .i64 sd]) :=
        ⟨GJ.out.old hq0, EJ.out.keep (Kp.ofBelow hq0), heap_alloc_new wr _⟩
      have hji : (j : Int) < n := by omega
      have hw : wrap64 ((j : Int) + 1) = j + 1 := by have := HL.out; unfold wrap64; omega
      clear hq0 GJ EJ
      go_upto_region 10 with (first
        | (refine wpList_store_row rfl 77 (.tmp 11) (.tmp 41) rfl wr.heap.size #[.int .u8 (sb : Int), .int .i64 sl, .int .i64 sd] rfl rfl 77 _ (heap_alloc_new wr _) Lz.Tryd.size41 rfl (Lz.stC_one sb sl sd) ?_
           rw [World.setRow_alloc_new]
           clear d1 d2 d3
           generalize wr.alloc (.cells #[.int .u8 (sb : Int), .int .i64 sl, .int .i64 sd] 77) = w8 at *
           generalize wr.heap.size = q at *))
      rcases hso with ⟨h1, h2, h3⟩ | ⟨h1, h2, h3, h4, h5⟩
      · simp only at h1 h2 h3
        subst h1 h2
        have HS' : Hid (S' = wadd S (sigP litsL sb)) := by show _ = _; rw [HT.out]; simp [putS, putL]
        have c1 := cell3_1 L0.out.blk
        have hl9 := lits_pos sb (by omega)
        have hsb : (sb : Int) < 256 := by omega
        have hsb2 : (sb : Int) < 288 := by omega
        have L1 := L0.out.drew
        have cb := cell3_0 L1.blk
        obtain ⟨y1, y2⟩ := L1.env.lit sb (by omega)
        have hcode := Q.mkHid (L1.sig litsL sb (by omega) (by have := hTB.out; omega))
        rw [← HS'.out] at hcode
        generalize nth litsL sb = N1 at y1 hcode
        generalize code litsL sb = C1 at y2 hcode
        clear L1 HT hTB hl9 h3
        go_upto_region 11 with fail
        go_cut [] (fun wx => Hid (Lp p w wx S' g1 g2 g3 g4 (.slice (some ⟨lg, lof, none⟩) n cap) l q #[.int .u8 (sb : Int), .int .i64 0, .int .i64 0]))
        case first =>
          clear c1 L0
          go_region_with (first
            | (go_at_call 17; (with_reducible refine hcode.out.mono ?_); rintro e w9 ⟨rfl, L9⟩))
          all_goals go_wp2
          all_goals
            go_meet
            case rel => exact L9
        case rest =>
          clear c1 cb y1 y2 hcode L0
          go_wp2
          go_roundw
          case rel => exact ⟨j + 1, hj, by go_num, by rw [← HS1.out]; exact hcut.out.gx, hcut.out.env⟩
          case measure => first | exact measS hj | (rw [hw]; exact measS hj)
      · simp only at h1 h2 h3 h4 h5
        obtain ⟨L, rfl⟩ : ∃ L : Nat, sl = L := ⟨sl.toNat, by omega⟩
        obtain ⟨D, rfl⟩ : ∃ D : Nat, sd = D := ⟨sd.toNat, by omega⟩
        subst h1
        have klen := Q.mkHid (Lz.lenCodeR L (by omega) (by omega))
        have kdis := Q.mkHid (Lz.disCodeR D (by omega) (by omega))
        obtain ⟨a1, a2, a3⟩ := Lz.len_code L (by omega) (by omega)
        obtain ⟨b1, b2, b3⟩ := Lz.dis_code D (by omega) (by omega)
        change lenC L ≤ 28 at a1
        change disC D ≤ 29 at b1
        have m1 := lenN_le (lenC L) a1
        have m2 := disN_le (disC D) b1
        have m3 := lits_pos (257 + lenC L) (by omega)
        have m4 := dists_pos (disC D) (by omega)
        have HS' : Hid (S' = wadd (wadd (wadd (wadd S (sigP litsL (257 + lenC L))) (lowP (L - Lz.lenB (lenC L)) (Lz.lenN (lenC L)))) (sigP distsL (disC D))) (lowP (D - Lz.disB (disC D)) (Lz.disN (disC D)))) := by
          show _ = _
          rw [HT.out]
          have hne : ¬ ((L : Int) = 0) := by omega
          unfold putS
          rw [if_neg hne]
          rfl
        change Hid (∀ w, Calls Tryd.prog 16 #[.int .i64 L] w fun e w' => e = .returned (.tuple #[.int .i64 (257 + lenC L : Nat), .int .i64 (L - Lz.lenB (lenC L) : Nat), .int .i64 (Lz.lenN (lenC L) : Nat)]) ∧ w' = w) at klen
        change Hid (∀ w, Calls Tryd.prog 18 #[.int .i64 D] w fun e w' => e = .returned (.tuple #[.int .i64 (disC D : Nat), .int .i64 (D - Lz.disB (disC D) : Nat), .int .i64 (Lz.disN (disC D) : Nat)]) ∧ w' = w) at kdis
        have hL0 : ((L : Int) == 0) = false := by simp; omega
        generalize L - Lz.lenB (lenC L) = e1 at klen HS'
        generalize D - Lz.disB (disC D) = e2 at kdis HS'
        generalize Lz.lenN (lenC L) = n1 at klen HS' m1
        generalize Lz.disN (disC D) = n2 at kdis HS' m2
        generalize hs1 : 257 + lenC L = s1 at klen HS' m3
        generalize disC D = s2 at kdis HS' m4 b1
        have hs1b : s1 < 288 := by omega
        have hs1i : (s1 : Int) < 288 := by omega
        have hs2i : (s2 : Int) < 32 := by omega
        have hs2b : s2 < 32 := by omega
        clear a1 a2 a3 b2 b3 hs1 HT
        have c1 := cell3_1 L0.out.blk
        have T1 : Hid ((wadd S (sigP litsL s1)).2 < 800040) := by show S.2 + nth litsL s1 < _; have := hTB.out; omega
        have T2 : Hid ((wadd (wadd S (sigP litsL s1)) (lowP e1 n1)).2 < 800080) := by show (wadd S (sigP litsL s1)).2 + n1 < _; have := T1.out; omega
        have T3 : Hid ((wadd (wadd (wadd S (sigP litsL s1)) (lowP e1 n1)) (sigP distsL s2)).2 < 800120) := by show (wadd (wadd S (sigP litsL s1)) (lowP e1 n1)).2 + nth distsL s2 < _; have := T2.out; omega
        have hsg1 : Hid (∀ wx, Lp p w wx S g1 g2 g3 g4 (.slice (some ⟨lg, lof, none⟩) n cap) l q #[.int .u8 ((0 : Nat) : Int), .int .i64 L, .int .i64 D] → Calls Tryd.prog 17 #[.pointer (some ⟨p, 0, none⟩), .int .i64 (code litsL s1 : Nat), .int .i64 (nth litsL s1 : Nat)] wx fun e w' => e = .returned (.tuple #[]) ∧ Hid (Lp p w w' (wadd S (sigP litsL s1)) g1 g2 g3 g4 (.slice (some ⟨lg, lof, none⟩) n cap) l q #[.int .u8 ((0 : Nat) : Int), .int .i64 L, .int .i64 D])) := fun wx h => h.sig litsL s1 (by omega) (by have := hTB.out; omega)
        have hpt1 : Hid (∀ wx, Lp p w wx (wadd S (sigP litsL s1)) g1 g2 g3 g4 (.slice (some ⟨lg, lof, none⟩) n cap) l q #[.int .u8 ((0 : Nat) : Int), .int .i64 L, .int .i64 D] → Calls Tryd.prog 12 #[.pointer (some ⟨p, 0, none⟩), .int .i64 (e1 : Int), .int .i64 (n1 : Int)] wx fun e w' => e = .returned (.tuple #[]) ∧ Hid (Lp p w w' (wadd (wadd S (sigP litsL s1)) (lowP e1 n1)) g1 g2 g3 g4 (.slice (some ⟨lg, lof, none⟩) n cap) l q #[.int .u8 ((0 : Nat) : Int), .int .i64 L, .int .i64 D])) := fun wx h => h.put e1 n1 (by omega) (by have := T1.out; omega)
        have hsg2 : Hid (∀ wx, Lp p w wx (wadd (wadd S (sigP litsL s1)) (lowP e1 n1)) g1 g2 g3 g4 (.slice (some ⟨lg, lof, none⟩) n cap) l q #[.int .u8 ((0 : Nat) : Int), .int .i64 L, .int .i64 D] → Calls Tryd.prog 17 #[.pointer (some ⟨p, 0, none⟩), .int .i64 (code distsL s2 : Nat), .int .i64 (nth distsL s2 : Nat)] wx fun e w' => e = .returned (.tuple #[]) ∧ Hid (Lp p w w' (wadd (wadd (wadd S (sigP litsL s1)) (lowP e1 n1)) (sigP distsL s2)) g1 g2 g3 g4 (.slice (some ⟨lg, lof, none⟩) n cap) l q #[.int .u8 ((0 : Nat) : Int), .int .i64 L, .int .i64 D])) := fun wx h => h.sig distsL s2 (by omega) (by have := T2.out; omega)
        have hpt2 : Hid (∀ wx, Lp p w wx (wadd (wadd (wadd S (sigP litsL s1)) (lowP e1 n1)) (sigP distsL s2)) g1 g2 g3 g4 (.slice (some ⟨lg, lof, none⟩) n cap) l q #[.int .u8 ((0 : Nat) : Int), .int .i64 L, .int .i64 D] → Calls Tryd.prog 12 #[.pointer (some ⟨p, 0, none⟩), .int .i64 (e2 : Int), .int .i64 (n2 : Int)] wx fun e w' => e = .returned (.tuple #[]) ∧ Hid (Lp p w w' S' g1 g2 g3 g4 (.slice (some ⟨lg, lof, none⟩) n cap) l q #[.int .u8 ((0 : Nat) : Int), .int .i64 L, .int .i64 D])) := fun wx h => by rw [HS'.out]; exact h.put e2 n2 (by omega) (by have := T3.out; omega)
        generalize wadd (wadd (wadd S (sigP litsL s1)) (lowP e1 n1)) (sigP distsL s2) = S3 at hsg2 hpt2
        generalize wadd (wadd S (sigP litsL s1)) (lowP e1 n1) = S2 at hpt1 hsg2
        generalize wadd S (sigP litsL s1) = S1 at hsg1 hpt1
        have HY : Hid (∀ wx, Lp p w wx S g1 g2 g3 g4 (.slice (some ⟨lg, lof, none⟩) n cap) l q #[.int .u8 ((0 : Nat) : Int), .int .i64 L, .int .i64 D] → wx.cell? ⟨g1, s1, none⟩ = some (.int .i64 (nth litsL s1 : Nat)) ∧ wx.cell? ⟨g3, s1, none⟩ = some (.int .i64 (code litsL s1 : Nat))) := fun wx h => h.env.lit s1 hs1b
        have HZ : Hid (∀ wx, Lp p w wx S2 g1 g2 g3 g4 (.slice (some ⟨lg, lof, none⟩) n cap) l q #[.int .u8 ((0 : Nat) : Int), .int .i64 L, .int .i64 D] → wx.cell? ⟨g2, s2, none⟩ = some (.int .i64 (nth distsL s2 : Nat)) ∧ wx.cell? ⟨g4, s2, none⟩ = some (.int .i64 (code distsL s2 : Nat))) := fun wx h => h.env.dis s2 hs2b
        generalize nth litsL s1 = N1 at hsg1 HY
        generalize code litsL s1 = C1 at hsg1 HY
        generalize nth distsL s2 = N2 at hsg2 HZ
        generalize code distsL s2 = C2 at hsg2 HZ
        clear T1 T2 T3 HS' hTB m1 m2 m3 m4 b1 h2 h3 h4 h5
        go_upto_region 13 with (first
          | (go_at_call 16; (with_reducible refine (klen.out _).mono ?_); rintro e wx ⟨rfl, hx⟩; have hx := hx.symm; subst hx))
        have L1 := L0.out.drew
        obtain ⟨y1, y2⟩ := HY.out _ L1
        go_cut [] (fun wx => Hid (Lp p w wx S1 g1 g2 g3 g4 (.slice (some ⟨lg, lof, none⟩) n cap) l q #[.int .u8 ((0 : Nat) : Int), .int .i64 L, .int .i64 D]))
        case first =>
          have L1' := Q.mkHid L1
          clear c1 L0 L1
          go_region_with (first
            | (go_at_call 17; (with_reducible refine (hsg1.out _ L1'.out).mono ?_); rintro e w9 ⟨rfl, L9⟩))
          all_goals go_wp2
          all_goals
            go_meet
            case rel => exact L9
        case rest =>
          clear c1 y1 y2 L0 L1
          go_upto_region 15 with (first
            | (go_at_call 12; (with_reducible refine (hpt1.out _ hcut.out).mono ?_); rintro e w9 ⟨rfl, L9⟩))
          have c2 := cell3_2 L9.out.blk
          go_upto_region 16 with (first
            | (go_at_call 18; (with_reducible refine (kdis.out _).mono ?_); rintro e wx ⟨rfl, hx⟩; have hx := hx.symm; subst hx))
          have L2 := L9.out.drew
          obtain ⟨z1, z2⟩ := HZ.out _ L2
          have L2' := Q.mkHid L2
          clear hcut L2
          go_cut [] (fun wx => Hid (Lp p w wx S3 g1 g2 g3 g4 (.slice (some ⟨lg, lof, none⟩) n cap) l q #[.int .u8 ((0 : Nat) : Int), .int .i64 L, .int .i64 D]))
          case first =>
            clear c2 L9
            go_region_with (first
              | (go_at_call 17; (with_reducible refine (hsg2.out _ L2'.out).mono ?_); rintro e w10 ⟨rfl, L10⟩))
            all_goals go_wp2
            all_goals
              go_meet
              case rel => exact L10
          case rest =>
            clear c2 z1 z2 L9 L2'
            go_wp2_with (first
              | (go_at_call 12; (with_reducible refine (hpt2.out _ hcut.out).mono ?_); rintro e w11 ⟨rfl, L11⟩))
            go_roundw
            case rel => exact ⟨j + 1, hj, by go_num, by rw [← HS1.out]; exact L11.out.gx, L11.out.env⟩
            case measure => first | exact measS hj | (rw [hw]; exact measS hj)
    · have hjj : j = n := by omega
      subst hjj
      have hTk : l.take j = l := by rw [HN.out]; exact List.take_length
      rw [hTk] at GJ hTB
      have hd : Below wr.heap.size wr wr.drew := ⟨rfl, rfl, rfl, Nat.le_refl _, fun _ _ => rfl⟩
      have G1 := GJ.out.old hd
      obtain ⟨y1, y2⟩ := (EJ.out.keep (w' := wr.drew) (fun _ _ _ _ h _ _ => h)).lit 256 (by decide)
      have hcode : Hid (Calls Tryd.prog 17 #[.pointer (some ⟨p, 0, none⟩), .int .i64 (code litsL 256 : Nat), .int .i64 (nth litsL 256 : Nat)] wr.drew fun e w' => e = .returned (.tuple #[]) ∧ Hid (Gx p w w' (fixE b))) := by
        have := G1.sig litsL 256 (by rw [lits_256.1]; decide) (by have := hTB.out; omega)
        rw [← HE.out] at this
        exact this.mono fun e w' ⟨h1, h2, _⟩ => ⟨h1, h2⟩
      generalize nth litsL 256 = N1 at y1 hcode
      generalize code litsL 256 = C1 at y2 hcode
      clear G1 hd hTk hTB GJ EJ HE
      go_upto_region 19 with fail
      go_cut [] (fun wx => Hid (Gx p w wx (fixE b)))
      case first =>
        go_region_with (first
          | (go_at_call 17; (with_reducible refine hcode.out.mono ?_); rintro e w9 ⟨rfl, L9⟩))
        all_goals go_wp2
        all_goals
          go_meet
          case rel => exact L9
      case rest =>
        clear y1 y2 hcode
        obtain ⟨v', hv', hj'⟩ := hcut.out.wr
        obtain ⟨bs, hpp, hown, hsm, hval, hlen, _⟩ := hv'
        have c0 := cell3_0 hpp
        have R : Hid (Lies wc v' bs ∧ Fixd b bs ∧ Below w.heap.size w wc) := ⟨lies_own hown, ⟨hsm, hval, hlen⟩, by rw [← HP.out]; exact hcut.out.below⟩
        clear hpp hown hsm hval hlen hj' hcut
        go_wp2
        go_ret
        exact ⟨v', bs, rfl, R.out.1, R.out.2.1, R.out.2.2⟩

end Go.Proofs.YtdokpimhhkbdbaaDoor
