/-
  HuffBack: the walk.
-/
import Derived.Test.YthkkahpfbgopjaaFi
import Derived.Test.YthkkahpfbgopjaaBm
import Derived.Test.YthkkahpfbgopjaaWf
import Derived.Deep.RegionHeld3
set_option linter.unusedSimpArgs false
set_option linter.unusedVariables false
namespace Go.Proofs.Ythkkahpfbgopjaa
open Go.RowKit

theorem sep35 {w : World} {B B' : Nat} {u v : Value} {n m : Nat} {xs ys : List Value} (h : w.ownsRow B 3 1 u n xs) (k : w.ownsRow B' 5 1 v m ys) : u.ownBlock ≠ v.ownBlock ∨ u.ownBlock = none := by
  rcases h.2 with ⟨rfl, _⟩ | ⟨g, cap, cur, rfl, _, hg, _⟩
  · exact .inr rfl
  · left
    intro e
    exact owns_ne k hg (by decide) e.symm

/-- The writer, the signs that are put, and what was there before. -/
structure Ph (p : Nat) (w3 w : World) (N T : Nat) (pv : Value) (ps : List Nat) : Prop where
  wr : ∃ v, Wv p w v N T ∧ ∀ j, v.ownBlock = some j → p ≤ j
  row : w.ownsRow p 3 1 pv ps.length (ps.map natV)
  below : Below p w3 w
  lt : p < w.heap.size

theorem Ph.old {p : Nat} {w3 w w' : World} {N T : Nat} {pv : Value} {ps : List Nat} (h : Ph p w3 w N T pv ps) (hb : Below w.heap.size w w') : Ph p w3 w' N T pv ps := by
  obtain ⟨⟨v, hv, hj⟩, hr, hbl, hlt⟩ := h
  exact ⟨⟨v, hv.old hb, hj⟩, owns_old3 hr hb, hbl.trans (hb.mono (by omega)), Nat.lt_of_lt_of_le hlt hb.size⟩

theorem Ph.put {p tb : Nat} {w3 w : World} {N T : Nat} {pv : Value} {ps l : List Nat} (h : Ph p w3 w N T pv ps) (hp : p = w3.heap.size) (ht : Tab w3 tb l) (s : Nat) (hs : s < l.length) (h0 : 0 < nth l s) (hT : T < 900000) :
    Calls Try.prog 15 #[.pointer (some ⟨tb, 0, none⟩), .pointer (some ⟨p, 0, none⟩), .int .i64 (s : Int)] w fun e w' => e = .returned (.bool true) ∧ Ph p w3 w' (N + rv l s * 2 ^ T) (T + nth l s) pv ps := by
  obtain ⟨⟨v, hv, hj⟩, hr, hbl, hlt⟩ := h
  refine (tput_fr p tb w v l s N T (ht.old (hp ▸ hbl)) hv hs h0 hT).mono ?_
  rintro e w' ⟨rfl, v', hv', hkin, hf⟩
  obtain ⟨bs, hpp, hown, _⟩ := id hv
  refine ⟨rfl, ⟨v', hv', fun j hj' => ?_⟩, ?_, hbl.trans (hf.below (by omega) (fun j hj' => by cases hj'; exact Nat.le_refl _) hj), Nat.lt_of_lt_of_le hlt hf.size⟩
  · rcases hkin with e | e
    · exact hj j (by rw [← e]; exact hj')
    · have := e j hj'; omega
  · exact owns_fr hr hf (.inl (owns_ne3 hr hpp (by decide))) (sep35 hr hown)

theorem Ph.push {p : Nat} {w3 w wa w' : World} {N T : Nat} {pv : Value} {ps : List Nat} (h : Ph p w3 w N T pv ps) (s g cap : Nat) (ha : Below w.heap.size w wa) (ho : w'.ownsRow p 3 1 (.slice (some ⟨g, 0, none⟩) (ps.length + 1) cap) (ps.length + 1) (ps.map natV ++ [.int .i64 (s : Int)])) (hg : wa.grownBy w' pv.ownBlock) :
    Ph p w3 w' N T (.slice (some ⟨g, 0, none⟩) (ps.length + 1) cap) (ps ++ [s]) := by
  have h2 := h.old ha
  obtain ⟨⟨v, hv, hj⟩, hr, hbl, hlt⟩ := h2
  obtain ⟨bs, hpp, hown, _⟩ := id hv
  have hf : Fr none pv.ownBlock wa w' := Fr.ofGrown hg
  refine ⟨⟨v, hv.fr hf (by simp) (fun e => owns_ne3 hr hpp (by decide) e.symm) ?_ ?_, hj⟩, ?_, hbl.trans (hf.below (by omega) (fun j hj' => by cases hj') (fun j hj' => (hr.lt j hj').1)), Nat.lt_of_lt_of_le hlt hf.size⟩
  · by_cases e : v.ownBlock = none
    · exact .inr e
    · exact .inl e
  · by_cases e : v.ownBlock = none
    · exact .inr e
    · left
      intro e2
      rcases sep35 hr hown with h' | h'
      · exact h' e2.symm
      · exact e (e2.trans h')
  · rw [List.length_append, List.map_append]
    exact ho

set_option maxRecDepth 100000 in
set_option maxHeartbeats 8000000 in
theorem back_law (w : World) (u v x : Value) (zs gs ss : List Int) (hu : Ints w u zs) (hv : Ints w v gs) (hx : Ints w x ss) (hlz : zs.length ≤ 17592186043904) (hlg : gs.length ≤ 17592186043904) (hls : ss.length ≤ 17592186043904) :
    Calls Try.prog 7 #[u, v, x] w fun e w' => e = .returned (.bool true) ∧ Below w.heap.size w w' := by
  obtain ⟨ti, hi, hz0, hz1, hz2⟩ := info_parts Try.infi3
  have HI : Hid (Try.prog.info? 3 = some ti) := hi
  have HZ0 : Hid (ti.zero = some (.int .i64 0)) := hz0
  have HZ1 : Hid (ti.size = 1) := hz1
  have HZ2 : Hid (ti.bytes = 8) := hz2
  clear hi hz0 hz1 hz2
  have hwk := wakes_hid
  have hfull : Hid (Calls Try.prog 21 #[u, v] w fun e w' => ∃ lv ls, e = .returned lv ∧ w'.ownsRow w.heap.size 3 1 lv ls.length (ls.map natV) ∧ Below w.heap.size w w' ∧ Good ls) := full_walk w u v zs gs hu hv (by omega) (by omega)
  obtain ⟨ua, uc, rfl, -, -, -⟩ := hu
  obtain ⟨va, vc, rfl, -, -, -⟩ := hv
  obtain ⟨xa, xc, rfl, hx2, hx3, hx4⟩ := hx
  obtain ⟨M, hM⟩ : ∃ M, M = zs.length := ⟨_, rfl⟩
  obtain ⟨G, hG⟩ : ∃ G, G = gs.length := ⟨_, rfl⟩
  obtain ⟨S, hS⟩ : ∃ S, S = ss.length := ⟨_, rfl⟩
  rw [← hM] at hlz hfull ⊢
  rw [← hG] at hlg hfull ⊢
  rw [← hS] at hls hx2 hx4 ⊢
  clear hM hG hS
  have hnew : Hid (∀ w1 lv ls, w1.ownsRow w.heap.size 3 1 lv ls.length (ls.map natV) → Good ls → Calls Try.prog 8 #[lv] w1 fun e w2 => ∃ tb, e = .returned (.tuple #[.pointer (some ⟨tb, 0, none⟩), .int .i64 0]) ∧ Below w1.heap.size w1 w2 ∧ Tab w2 tb ls) := by
    intro w1 lv ls ho hg
    refine ((new_lit (castL ls) hg.ok).out w1 lv (ints_nat ho)).mono ?_
    rintro e w2 ⟨tb, rfl, -, hb, hT⟩
    rw [castL_toNat] at hT
    exact ⟨tb, rfl, hb, hT⟩
  have hnw : Hid (∀ w, Calls Try.prog 14 #[] w fun e w' => e = .returned (.pointer (some ⟨w.heap.size, 0, none⟩)) ∧ w' = w.alloc (.cells #[.slice none 0 0, .int .i64 0] 73)) := new_walk
  obtain ⟨B, hB⟩ : ∃ B, B = w.heap.size := ⟨_, rfl⟩
  rw [← hB] at hfull hnew
  go_enter Try.func7, Try.ntmps7
  go_wp2_with (first
    | (go_at_call 21; (with_reducible refine hfull.out.mono ?_); rintro e w1 ⟨lv, ls, rfl, ho, hb1, hg⟩; obtain ⟨lg, lcap, rfl, -⟩ := ho.form (by have := hg.pos; omega))
    | (go_at_call 8; (with_reducible refine (hnew.out _ _ _ ho hg).mono ?_); rintro e w3 ⟨tb, rfl, hb3, hT⟩)
    | (go_at_call 14; (with_reducible refine (hnw.out _).mono ?_); rintro e w4 ⟨rfl, hx⟩; have hx := hx.symm; subst hx))
  have HB : Hid (B = w.heap.size) := hB
  clear hB
  obtain ⟨n, hn⟩ : ∃ n, n = ls.length := ⟨_, rfl⟩
  rw [← hn] at ho ⊢
  have HN : Hid (ls.length = n) := hn.symm
  have hn0 : 0 < n := by have := hg.pos; omega
  have hn82 : n ≤ 82 := by have := hg.len; omega
  have HG : Hid (Good ls) := hg
  clear hn hg
  have hP0 : Ph w3.heap.size w3 (w3.alloc (.cells #[.slice none 0 0, .int .i64 0] 73)) 0 0 (.slice none 0 0) [] :=
    ⟨⟨_, wv_new w3, fun j hj => by simp [Value.ownBlock] at hj⟩, World.ownsRow_nil _ _ _ _, (Below.refl _ _).alloc (Nat.le_refl _) _, by simp⟩
  obtain ⟨p, hp⟩ : ∃ p, p = w3.heap.size := ⟨_, rfl⟩
  rw [← hp] at hP0 ⊢
  have HP : Hid (p = w3.heap.size) := hp
  have HT3 : Hid (Tab w3 tb ls) := hT
  have HL3 : Hid (∀ r, r < n → w3.cell? ⟨lg, r, none⟩ = some (.int .i64 (nth ls r : Nat))) := fun r hr => cell_old hb3 (nat_at HN.out ho r hr)
  have HB3 : Hid (Below B w w3) := hb1.trans (hb3.mono (by have := hb1.size; have := HB.out; omega))
  clear hp hT ho hb1 hb3 hnew hfull hnw
  go_loopw [11, 12, 13] (fun pu tt i wr => ∃ (k : Nat) (ps : List Nat) (N T : Nat), k ≤ 40 ∧ k ≤ S ∧ i = .int .i64 (k : Int) ∧ tt = .int .i64 (T : Int) ∧ T ≤ 15 * k ∧ ps.length ≤ k ∧ Hid (wall ls ps = (N, T)) ∧ Hid (∀ s ∈ ps, s < ls.length ∧ 0 < nth ls s) ∧ Ph p w3 wr N T pu ps) (fun _ _ i _ => 40 - (intOf i).toNat)
  case atStart => exact ⟨0, [], 0, 0, by omega, by omega, rfl, rfl, by omega, by simp, rfl, fun s hs => by simp at hs, hP0⟩
  case round =>
    obtain ⟨k, ps, N, T, hk, hkS, rfl, rfl, hT, hpl, HW, HPS, hPh⟩ := hrel
    clear hP0
    by_cases hin : k < S ∧ k < 40
    · obtain ⟨hin1, hin2⟩ := hin
      obtain ⟨A, rfl⟩ : ∃ A, xa = some A := by
        cases xa with
        | none => have := hx3 rfl; omega
        | some A => exact ⟨A, rfl⟩
      have hbw : Below B w wr := HB3.out.trans (hPh.below.mono (by have := HB3.out.size; have := HP.out; have := HB.out; omega))
      have hc := cell_old (HB.out ▸ hbw) (hx4 A rfl k hin1)
      obtain ⟨x0, hx0⟩ : ∃ x0, x0 = ss.getD k 0 := ⟨_, rfl⟩
      rw [← hx0] at hc
      clear hx0 hbw
      obtain ⟨s, hs, hwi⟩ := within_lit x0 (n : Int) n hn0 rfl (by omega)
      have HLC : Hid (∀ wx N T pv ps, Ph p w3 wx N T pv ps → wx.cell? ⟨lg, s, none⟩ = some (.int .i64 (nth ls s : Nat))) := fun wx N T pv ps h => cell_old (HP.out ▸ h.below) (HL3.out s hs)
      have hy15 := nth_le15 HG.out.le s
      have hsl : s < ls.length := by rw [HN.out]; exact hs
      have hd := hPh.old (w' := wr.drew) ⟨rfl, rfl, rfl, Nat.le_refl _, fun _ _ => rfl⟩
      have cd := HLC.out _ _ _ _ _ hd
      by_cases hy0 : 0 < nth ls s
      · have hput : Hid (∀ wx pv, Ph p w3 wx N T pv ps → Calls Try.prog 15 #[.pointer (some ⟨tb, 0, none⟩), .pointer (some ⟨p, 0, none⟩), .int .i64 (s : Int)] wx fun e w' => e = .returned (.bool true) ∧ Ph p w3 w' (N + rv ls s * 2 ^ T) (T + nth ls s) pv ps) := fun wx pv h => h.put HP.out HT3.out s hsl hy0 (by omega)
        have HW2 : Hid (wall ls (ps ++ [s]) = (N + rv ls s * 2 ^ T, T + nth ls s)) := by show _ = _; rw [wall_snoc, HW.out]; rfl
        have HPS2 : Hid (∀ q ∈ ps ++ [s], q < ls.length ∧ 0 < nth ls q) := fun q hq => by
          rcases List.mem_append.1 hq with h | h
          · exact HPS.out q h
          · simp at h; subst h; exact ⟨hsl, hy0⟩
        obtain ⟨N2, hN2⟩ : ∃ N2, N2 = N + rv ls s * 2 ^ T := ⟨_, rfl⟩
        obtain ⟨y, hy⟩ : ∃ y, y = nth ls s := ⟨_, rfl⟩
        rw [← hN2, ← hy] at hput HW2
        rw [← hy] at cd hy0 hy15
        have HLC2 : Hid (∀ wx N T pv ps, Ph p w3 wx N T pv ps → wx.cell? ⟨lg, s, none⟩ = some (.int .i64 (y : Nat))) := by rw [hy]; exact HLC.out
        clear hN2 hy HLC
        go_wp2_with (first
          | (go_at_call 10; (with_reducible refine (hwi.out _).mono ?_); rintro e wx ⟨rfl, hx⟩; have hx := hx.symm; subst hx))
        go_region_with (first
          | (go_at_call 15; (with_reducible refine (hput.out _ _ hd).mono ?_); rintro e w2 ⟨rfl, h2⟩; have c2 := HLC2.out _ _ _ _ _ h2))
        all_goals
          go_wp2
          have hd2 := h2.old (w' := w2.drew) ⟨rfl, rfl, rfl, Nat.le_refl _, fun _ _ => rfl⟩
          have hlgp : lg < p := by have h7 : lg < w3.heap.size := cell_lt (HL3.out s hs); have := HP.out; omega
          have hwT : IntKind.i64.wrap ((T : Int) + (y : Int)) = ((T + y : Nat) : Int) := by rw [IntKind.wrap_i64]; omega
          have hpw2 : p < w2.heap.size := h2.lt
          have H1 : Hid (∀ u ∈ [Value.int .i64 (s : Int)], u.oneCell' = true) := fun u hu => by simp at hu; subst hu; rfl
          have hne : some lg ≠ Value.ownBlock u11 := fun e => by have := (hd2.row.lt lg e.symm).1; omega
          have hrow : (w2.drew.alloc (.cells #[.int .i64 (s : Int)] 3)).ownsRow p 3 1 u11 ps.length (ps.map natV) := hd2.row.alloc _
          have hnews : ∀ j u, ([Value.int .i64 (s : Int)])[j]? = some u → (w2.drew.alloc (.cells #[.int .i64 (s : Int)] 3)).cell? ((⟨w2.heap.size, 0, none⟩ : Addr).add j) = some u := World.news_of_block (heap_alloc_new w2.drew _)
          go_region_held3 (fun w' => w'.cell? ⟨lg, s, none⟩ = some (.int .i64 (y : Int))) (first | go_keep | (rw [hg5.cell_far _ (by simp; omega) hne]; assumption))
            ((refine step_append_lies _ (by rfl) (.tmp 83) (.tmp 85) 26 (by rfl) p 3 ti (.int .i64 0) 1 8 Try.under26 HI.out HZ0.out HZ1.out HZ2.out rfl (by decide) _ ps.length _ (by rfl) hrow ⟨w2.heap.size, 0, none⟩ 1 1 [.int .i64 (s : Int)] (by rfl) rfl hnews H1.out (by decide) (by unfold maxLen; omega) (by omega) (by simp; omega) (w2.heap.size + 1) (by simp) ?_; intro g5 cap5 w5 ho5 hg5 hat5 hlt5))
          go_wp2
          go_roundw
          case rel =>
            refine ⟨k + 1, ps ++ [s], N2, T + y, by omega, by omega, by go_num, rfl, by omega, by simp; omega, HW2.out, HPS2.out, ?_⟩
            exact h2.push s g5 cap5 (((Below.refl _ w2).drew).alloc (Nat.le_refl _) _) ho5 hg5
          case measure => simp [intOf]; omega
      · have hy0' : nth ls s = 0 := by omega
        have hput : Hid (∀ wx pv, Ph p w3 wx N T pv ps → Calls Try.prog 15 #[.pointer (some ⟨tb, 0, none⟩), .pointer (some ⟨p, 0, none⟩), .int .i64 (s : Int)] wx fun e w' => e = .returned (.bool false) ∧ Ph p w3 w' N T pv ps) := fun wx pv h => by
          refine (tput_not _ tb wx ls (s : Int) (HT3.out.old (HP.out ▸ h.below)) (fun h' => ?_)).mono fun e w' ⟨e1, q, e2⟩ => ⟨e1, by rw [e2]; exact h.old (below_drewN _ _)⟩
          have := h'.2.2
          simp at this
          omega
        rw [hy0'] at cd
        have HLC2 : Hid (∀ wx N T pv ps, Ph p w3 wx N T pv ps → wx.cell? ⟨lg, s, none⟩ = some (.int .i64 0)) := fun wx N T pv ps h => by have := HLC.out wx N T pv ps h; rw [hy0'] at this; exact this
        clear hy0 hy0' HLC
        go_wp2_with (first
          | (go_at_call 10; (with_reducible refine (hwi.out _).mono ?_); rintro e wx ⟨rfl, hx⟩; have hx := hx.symm; subst hx))
        go_region_with (first
          | (go_at_call 15; (with_reducible refine (hput.out _ _ hd).mono ?_); rintro e w2 ⟨rfl, h2⟩; have c2 := HLC2.out _ _ _ _ _ h2))
        all_goals
          go_wp2
          go_roundw
          case rel => exact ⟨k + 1, ps, N, T, by omega, by omega, by go_num, rfl, by omega, by omega, HW.out, HPS.out, h2⟩
          case measure => simp [intOf]; omega
    · have hexit : S ≤ k ∨ (k < S ∧ 40 ≤ k) := by omega
      clear hin
      have hT600 : T ≤ 600 := by omega
      have hpl40 : ps.length ≤ 40 := by omega
      obtain ⟨pa, pcap, rfl⟩ : ∃ pa pcap, u11 = .slice pa ps.length pcap := by
        rcases hPh.row.2 with ⟨h, h0⟩ | ⟨g', cap', cur', h, _⟩
        · exact ⟨none, 0, by rw [h, h0]⟩
        · exact ⟨_, _, h⟩
      have hby : Hid (∀ wx, Ph p w3 wx N T (.slice pa ps.length pcap) ps → Calls Try.prog 18 #[.pointer (some ⟨p, 0, none⟩)] wx fun e w' => ∃ v' bs, e = .returned v' ∧ w'.ownsRow wx.heap.size 5 1 v' bs.length (bs.map byteV) ∧ Small bs ∧ val bs = N ∧ bs.length = (T + 7) / 8 ∧ Ph p w3 w' N T (.slice pa ps.length pcap) ps) := fun wx h => by
        obtain ⟨v, hv, hj⟩ := h.wr
        refine (bytes_fr p wx v N T hv (by omega)).mono ?_
        rintro e w' ⟨v', bs, rfl, ho, hsm, hval, hlen, hb⟩
        exact ⟨v', bs, rfl, ho, hsm, hval, hlen, h.old hb⟩
      have hrd : Hid (∀ wx wy v' bs, wy.ownsRow wx 5 1 v' bs.length (bs.map byteV) → Small bs → bs.length = (T + 7) / 8 → Ph p w3 wy N T (.slice pa ps.length pcap) ps → Calls Try.prog 12 #[v'] wy fun e w' => ∃ rb, e = .returned (.pointer (some ⟨rb, 0, none⟩)) ∧ Rd 71 w' rb bs 0 false ∧ Ph p w3 w' N T (.slice pa ps.length pcap) ps ∧ p ≤ rb) := fun wx wy v' bs ho hsm hlen h => by
        refine (reader_walk wy v' bs (lies_own ho) hsm (by omega)).mono ?_
        rintro e w' ⟨rb, rfl, hR, hlo, hb⟩
        exact ⟨rb, rfl, hR, h.old hb, by have := h.lt; omega⟩
      rcases hexit with he | he
      all_goals
        go_wp2_with (first
          | (go_at_call 18; (with_reducible refine (hby.out _ hPh).mono ?_); rintro e w5 ⟨v5, bs, rfl, ho5, hsm5, hv5, hl5, h5⟩)
          | (go_at_call 12; (with_reducible refine (hrd.out _ _ _ _ ho5 hsm5 hl5 h5).mono ?_); rintro e w6 ⟨rb, rfl, hR6, h6, hrb6⟩))
        clear he hby hrd
        try generalize decide ((k : Int) < 40) = bb
        obtain ⟨rc, hrc⟩ := hR6.type
        have HRC : Hid (w6.heap[rb]? = some (.cells rc 71 (0, 0))) := hrc
        have HT6 : Hid (Tab w6 tb ls) := HT3.out.old (HP.out ▸ h6.below)
        have HRow : Hid (w6.ownsRow p 3 1 (.slice pa ps.length pcap) ps.length (ps.map natV)) := h6.row
        have HB6 : Hid (Below p w3 w6) := h6.below
        have HLT : Hid (p < w6.heap.size) := h6.lt
        have HV : Hid (val bs = (wall ls ps).1) := by show _ = _; rw [hv5, HW.out]
        have hbl : T ≤ 8 * bs.length := by omega
        have HWT : Hid ((wall ls ps).2 = T) := by show _ = _; rw [HW.out]
        have HHit : Hid (∀ j, j < ps.length → Hit ls (nx bs (wall ls (ps.take j)).2) (8 * bs.length - (wall ls (ps.take j)).2) (ps.getD j 0)) := fun j hj => wall_hit HG.out.fits HG.out.le HPS.out HV.out (by rw [HWT.out]; exact hbl) j hj
        obtain ⟨m, hm⟩ : ∃ m, m = ps.length := ⟨_, rfl⟩
        rw [← hm] at HRow HHit hpl40 ⊢
        have HM : Hid (m = ps.length) := hm
        have hbs : bs.length ≤ 76 := by omega
        clear hrc ho5 hsm5 h5 h6 hPh hm hpl
        go_loopw [100] (fun i wr => ∃ j : Nat, j ≤ m ∧ i = .int .i64 (j : Int) ∧ Rd 71 wr rb bs (wall ls (ps.take j)).2 false ∧ w6.grownBy wr (some rb)) (fun i _ => m - (intOf i).toNat)
        case atStart => exact ⟨0, by omega, rfl, hR6, ⟨rfl, rfl, rfl, Nat.le_refl _, fun _ _ _ => rfl⟩⟩
        case round =>
          obtain ⟨j, hj, rfl, hR, hgr⟩ := hrel
          clear hR6
          by_cases hjm : j < m
          · obtain ⟨pg, rfl, hcp⟩ : ∃ pg, pa = some ⟨pg, 0, none⟩ ∧ wr.cell? ⟨pg, j, none⟩ = some (.int .i64 (ps.getD j 0 : Nat)) := by
              rcases HRow.out.2 with ⟨h', h0⟩ | ⟨g', cap', cur', h', _⟩
              · omega
              · cases h'
                have hne : (⟨g', j, none⟩ : Addr).block ≠ rb := fun e => owns_ne3 HRow.out HRC.out (by decide) (by simpa [Value.ownBlock] using e)
                exact ⟨g', rfl, far_cell hgr hne (nat_at HM.out.symm HRow.out j hjm)⟩
            have hget : Hid (Calls Try.prog 13 #[.pointer (some ⟨tb, 0, none⟩), .pointer (some ⟨rb, 0, none⟩)] wr fun e w' => e = .returned (.tuple #[.int .i64 (ps.getD j 0 : Nat), .bool true]) ∧ Rd 71 w' rb bs (wall ls (ps.take (j + 1))).2 false ∧ w6.grownBy w' (some rb)) := by
              refine (get_walk wr tb rb ls bs _ (HT6.out.apart hgr HRC.out (by decide) (by decide) (by decide)) hR).mono ?_
              rintro e w' ⟨hg', ⟨i, hi, rfl, hR'⟩ | ⟨hno, _⟩⟩
              · have e : i = ps.getD j 0 := hit_one (nx_lt _ _) hi (HHit.out j hjm)
                subst e
                rw [wall_next ls ps j (by rw [← HM.out]; exact hjm)]
                exact ⟨rfl, hR', grown_trans hgr hg'⟩
              · exact absurd (HHit.out j hjm) (hno _)
            obtain ⟨sj, hsj⟩ : ∃ sj, sj = ps.getD j 0 := ⟨_, rfl⟩
            rw [← hsj] at hcp hget
            clear hsj
            go_wp2_with (first
              | (go_at_call 13; (with_reducible refine hget.out.mono ?_); rintro e w7 ⟨rfl, hR7, hg7⟩))
            go_roundw
            case rel => exact ⟨j + 1, by omega, by go_num, hR7, hg7⟩
            case measure => simp [intOf]; omega
          · have hjj : j = m := by omega
            have e0 : ps.take j = ps := List.take_of_length_le (by rw [hjj, HM.out]; exact Nat.le_refl _)
            rw [e0, HWT.out] at hR
            have HBw : Hid (Below B w wr) := by
              have hb1 : Below p w3 wr := HB6.out.grown hgr (by have := HLT.out; omega) (fun k hk => by cases hk; exact hrb6)
              exact HB3.out.trans (hb1.mono (by have := HB3.out.size; have := HP.out; have := HB.out; omega))
            have hBwr : B ≤ wr.heap.size := by have := HBw.out.size; have := HB.out; omega
            clear e0 hjj hgr HRow HB6 HHit
            have hfix : Hid (Calls Try.prog 26 #[] wr fun e w' => ∃ ao cap bo cap', e = .returned (.tuple #[.slice ao 288 cap, .slice bo 32 cap']) ∧ Ints w' (.slice ao 288 cap) (castL litsL) ∧ Ints w' (.slice bo 32 cap') (castL distsL) ∧ Below wr.heap.size wr w') := fixed_walk wr
            have hn1 : Hid (∀ wx v v2, Below wr.heap.size wr wx → Ints wx v (castL litsL) → Ints wx v2 (castL distsL) → Calls Try.prog 8 #[v] wx fun e w' => ∃ t1, e = .returned (.tuple #[.pointer (some ⟨t1, 0, none⟩), .int .i64 0]) ∧ Tab w' t1 litsL ∧ Ints w' v2 (castL distsL) ∧ Below wr.heap.size wr w') := fun wx v v2 hb hI hI2 => by
              refine ((new_lit (castL litsL) lits_ok).out wx v hI).mono ?_
              rintro e w' ⟨t1, rfl, -, hb', hT⟩
              rw [castL_toNat] at hT
              exact ⟨t1, rfl, hT, hI2.old hb', hb.trans (hb'.mono hb.size)⟩
            have hn2 : Hid (∀ wx v2 t1, Below wr.heap.size wr wx → Tab wx t1 litsL → Ints wx v2 (castL distsL) → Calls Try.prog 8 #[v2] wx fun e w' => ∃ t2, e = .returned (.tuple #[.pointer (some ⟨t2, 0, none⟩), .int .i64 0]) ∧ Tab w' t1 litsL ∧ Below wr.heap.size wr w') := fun wx v2 t1 hb hT hI2 => by
              refine ((new_lit (castL distsL) dists_ok).out wx v2 hI2).mono ?_
              rintro e w' ⟨t2, rfl, -, hb', -⟩
              exact ⟨t2, rfl, hT.old hb', hb.trans (hb'.mono hb.size)⟩
            have hc1 : Hid (∀ wx t1, Below wr.heap.size wr wx → Tab wx t1 litsL → Calls Try.prog 9 #[.pointer (some ⟨t1, 0, none⟩), .int .i64 256] wx fun e w' => e = .returned (.tuple #[.int .i64 0, .int .i64 7, .bool true]) ∧ Tab w' t1 litsL ∧ Below wr.heap.size wr w') := fun wx t1 hb hT => by
              have := tcode_has wx t1 litsL 256 hT (by rw [lits_len]; omega) (by rw [lits_256.1]; omega)
              rw [lits_256.1, lits_256.2] at this
              refine this.mono ?_
              rintro e w' ⟨rfl, q, rfl⟩
              exact ⟨rfl, hT.old (below_drewN _ _), hb.trans ((below_drewN _ _).mono hb.size)⟩
            have hc2 : Hid (∀ wx t1, Below wr.heap.size wr wx → Tab wx t1 litsL → Calls Try.prog 9 #[.pointer (some ⟨t1, 0, none⟩), .int .i64 144] wx fun e w' => e = .returned (.tuple #[.int .i64 400, .int .i64 9, .bool true]) ∧ Below wr.heap.size wr w') := fun wx t1 hb hT => by
              have := tcode_has wx t1 litsL 144 hT (by rw [lits_len]; omega) (by rw [lits_144.1]; omega)
              rw [lits_144.1, lits_144.2] at this
              refine this.mono ?_
              rintro e w' ⟨rfl, q, rfl⟩
              exact ⟨rfl, hb.trans ((below_drewN _ _).mono hb.size)⟩
            obtain ⟨r, hr⟩ : ∃ r, r = 8 * bs.length - T := ⟨_, rfl⟩
            obtain ⟨t8, ht8⟩ : ∃ t8, t8 = T % 8 := ⟨_, rfl⟩
            have hrem1 : (T : Int).tmod 8 = (t8 : Int) := by rw [Int.tmod_eq_emod_of_nonneg (by omega)]; omega
            have hrem2 : ((8 : Int) - (t8 : Int)).tmod 8 = (r : Int) := by rw [Int.tmod_eq_emod_of_nonneg (by omega)]; omega
            have hlf : Hid (∀ wx, Below wr.heap.size wr wx → Calls Try.prog 16 #[.pointer (some ⟨rb, 0, none⟩)] wx fun e w' => e = .returned (.int .i64 (r : Int)) ∧ Below wr.heap.size wr w') := fun wx hb => by
              refine (left_walk wx rb bs T false (hR.old hb)).mono ?_
              rintro e w' ⟨rfl, q, rfl⟩
              exact ⟨ret_int (by omega), hb.trans ((below_drewN _ _).mono hb.size)⟩
            have ht88 : t8 < 8 := by omega
            have hr8 : r < 8 := by omega
            clear hr ht8 hl5
            go_wp2_with (first
              | (go_at_call 26; (with_reducible refine hfix.out.mono ?_); rintro e w8 ⟨ao, acap, bo, bcap, rfl, i8, j8, b8⟩)
              | (go_at_call 8; (with_reducible refine (hn1.out _ _ _ b8 i8 j8).mono ?_); rintro e w9 ⟨t1, rfl, T9, j9, b9⟩)
              | (go_at_call 8; (with_reducible refine (hn2.out _ _ _ b9 T9 j9).mono ?_); rintro e w10 ⟨t2, rfl, T10, b10⟩)
              | (go_at_call 9; (with_reducible refine (hc1.out _ _ b10 T10).mono ?_); rintro e w11 ⟨rfl, T11, b11⟩)
              | (go_at_call 9; (with_reducible refine (hc2.out _ _ b11 T11).mono ?_); rintro e w12 ⟨rfl, b12⟩)
              | (go_at_call 16; (with_reducible refine (hlf.out _ b12).mono ?_); rintro e w13 ⟨rfl, b13⟩)
              | (go_at_call 11; (with_reducible refine (hwk.out _).mono ?_); rintro e w14 ⟨rfl, b14⟩))
            go_ret
            rw [← HB.out]
            exact ⟨rfl, HBw.out.trans ((b13.trans (b14.mono b13.size)).mono hBwr)⟩
end Go.Proofs.Ythkkahpfbgopjaa
