/-
  Order walked.
-/
import Derived.Test.YtcogeebfldlpoaaOa
import Derived.Outline
set_option linter.unusedSimpArgs false
set_option linter.unusedVariables false
namespace Go.Proofs.Ytcogeebfldlpoaa
open Go.RowKit Go.Proofs.NeedsHeap
open Go.Proofs.NeedsPlain (Hd names ordM getD_set NbOK W1 Q1 St In nmAt ndAt cnt)

/-- What Order answers. -/
def OrderP (w : World) (hs : List Hd) (e : Ending) (w' : World) : Prop :=
  ((∃ v o, ordM hs = some o ∧ e = .returned (.tuple #[v, .bool true]) ∧ LiesS w' v o) ∨ (ordM hs = none ∧ e = .returned (.tuple #[.slice none 0 0, .bool false]))) ∧ Old w w'

def idxF (hs : List Hd) : Txt → Int := fun x => ((names hs).idxOf x : Int)

/-- The state of the first loop. -/
def L1 (w : World) (hs : List Hd) (M gW gN q : Nat) (ks : List Txt) (k : Nat) (wr : World) : Prop :=
  ∃ W nbv nb qv qs, OS w.heap.size wr M ks (idxF hs) gW gN q W nbv nb qv qs (.slice none 0 0) [] ∧ W1 hs k W ∧ Q1 hs k qs ∧ NbOK hs k 0 nb ∧ Old w wr

theorem twice_len {ks l : List Txt} (hn : ks.Nodup) (hm : ∀ x, x ∈ ks ↔ x ∈ l) : ks.length < l.length ↔ ¬ l.Nodup := by
  constructor
  · intro h hl
    have := (List.perm_ext_iff_of_nodup hn hl).2 hm
    have := this.length_eq
    omega
  · intro h
    rw [List.nodup_iff_count] at h
    obtain ⟨x, hx⟩ := Classical.not_forall.1 h
    have hx2 : x ∈ l.erase x := by
      rw [← List.one_le_count_iff, List.count_erase_self]
      omega
    have h2 := NeedsPlain.sub_len hn (b := l.erase x) (fun y hy => by
      by_cases e : y = x
      · rw [e]; exact hx2
      · exact (List.mem_erase_of_ne e).2 ((hm y).1 hy))
    have h3 := List.length_pos_of_mem hx2
    rw [List.length_erase_of_mem (List.mem_of_mem_erase hx2)] at h2 h3
    omega

theorem os_start {B n : Nat} {w1 : World} {M N : Nat} {ks : List Txt} {f : Txt → Int} (hm : MapI w1 M N ks f) (hM : B ≤ M) (hB : B ≤ w1.heap.size) (hn : n ≤ 1000000) :
    OS B (((w1.alloc (.cells (Array.replicate n (.int .i64 0)) 3)).alloc (.cells (Array.replicate n (.slice none 0 0)) 37)).alloc (.cells #[.slice none 0 0] 51)) M ks f w1.heap.size (w1.heap.size + 1) (w1.heap.size + 1 + 1)
      (List.replicate n 0) (List.replicate n (.slice none 0 0)) (List.replicate n []) (.slice none 0 0) [] (.slice none 0 0) [] := by
  refine { map := ⟨N, hm.old (old3 _ _ _ _)⟩, wt := ?_, nn := ?_, nl := by simp, nr := fun j hj => ?_, nw := fun j hj => ?_, nd := fun i j _ hi _ k e => ?_, qu := ⟨h32 _ _ _ _, World.ownsRow_nil _ _ _ _, by omega⟩, hp := fun k _ h => by simp at h, ow := World.ownsRow_nil _ _ _ _, oq := fun k e => (by cases e), bs := ⟨by omega, by omega, hM⟩ }
  · rw [h30]; congr 2; apply Array.toList_inj.1; simp [natV]
  · rw [h31]; congr 2
  · have hj' : j < n := by simpa using hj
    simp [List.getD_eq_getElem?_getD, List.getElem?_replicate, hj']
    exact World.ownsRow_nil _ _ _ _
  · have hj' : j < n := by simpa using hj
    simp [List.getD_eq_getElem?_getD, List.getElem?_replicate, hj', Value.ownBlock]
  · have hi' : i < n := by simpa using hi
    simp [List.getD_eq_getElem?_getD, List.getElem?_replicate, hi', Value.ownBlock] at e

def lenV : Value → Nat
  | .slice _ n _ => n
  | _ => 0

/-- The state of the second loop. -/
def L2 (w : World) (hs : List Hd) (M gW gN q : Nat) (ks : List Txt) (ov : Value) (wr : World) : Prop :=
  ∃ W nbv nb qv qs out, OS w.heap.size wr M ks (idxF hs) gW gN q W nbv nb qv qs ov out ∧ St hs out W qs ∧ NbOK hs hs.length 0 nb ∧ Old w wr

/-- The state of its inner loop. -/
def L3 (w : World) (hs : List Hd) (M gW gN q : Nat) (ks : List Txt) (nbv : List Value) (nb : List (List Nat)) (ov : Value) (out : List Txt) (x : Txt) (l : List Nat) (t : Nat) (wr : World) : Prop :=
  ∃ W qv qs, OS w.heap.size wr M ks (idxF hs) gW gN q W nbv nb qv qs ov (out ++ [x]) ∧ In hs out x l t W qs ∧ Old w wr

theorem names_len (hs : List Hd) : (names hs).length = hs.length := by simp [names]

theorem st_qlen {hs : List Hd} {out : List Txt} {W : List Nat} {qs : List Txt} (h : St hs out W qs) : qs.length ≤ hs.length := by
  have := NeedsPlain.sub_len h.nd (b := names hs) (fun y hy => by
    obtain ⟨i, h1, h2, _⟩ := (h.mem y).1 hy
    exact h2 ▸ NeedsPlain.nm_names h1)
  rwa [names_len] at this

theorem in_qlen {hs : List Hd} {out : List Txt} {x : Txt} {l : List Nat} {t : Nat} {W : List Nat} {qs : List Txt} (h : In hs out x l t W qs) : qs.length ≤ hs.length := by
  have := NeedsPlain.sub_len h.nd (b := names hs) (fun y hy => by
    obtain ⟨i, h1, h2, _⟩ := (h.mem y).1 hy
    exact h2 ▸ NeedsPlain.nm_names h1)
  rwa [names_len] at this

theorem own_shape {w : World} {B e n : Nat} {v : Value} {xs : List Value} (h : w.ownsRow B e 1 v n xs) : ∃ ao c, v = .slice ao n c := by
  rcases h.2 with ⟨rfl, rfl⟩ | ⟨g, cap, cur, rfl, _⟩
  · exact ⟨none, 0, rfl⟩
  · exact ⟨_, _, rfl⟩

theorem cnt_le (hs : List Hd) (out : List Txt) (i : Nat) : cnt hs out i ≤ (ndAt hs i).length := List.countP_le_length

theorem nd_le {hs : List Hd} (hm : SmallH hs) (i : Nat) : (ndAt hs i).length ≤ 1000 := by
  by_cases h : i < hs.length
  · exact hm.nl _ (NeedsPlain.nm_mem h)
  · have : hs.getD i NeedsPlain.hdZ = NeedsPlain.hdZ := by simp [List.getD_eq_getElem?_getD, List.getElem?_eq_none (Nat.le_of_not_lt h)]
    unfold ndAt; rw [this]; simp

theorem needed_of {hs : List Hd} {nb : List (List Nat)} (h : NbOK hs hs.length 0 nb) {x : Txt} (hx : x ∈ names hs) : NeedsPlain.Needed hs x (nb.getD ((names hs).idxOf x) []) := by
  obtain ⟨h1, h2⟩ := NeedsPlain.nm_idx hx
  refine ⟨fun i hi => ?_, h.lt _⟩
  rw [h.cn _ i h1, if_pos hi, h2]

/-- The place of a name in the map. -/
theorem idx_look {w : World} {M N : Nat} {ks : List Txt} {hs : List Hd} (h : MapI w M N ks (idxF hs)) (hk : ∀ x, x ∈ ks ↔ x ∈ names hs) {x : ByteArray} (hx : x.data.toList ∈ names hs) (hsz : x.size ≤ maxLen) :
    (Instr.lookup 46 (.map (some M)) (.string x) false).run Try.prog w = .ok (.int .i64 (((names hs).idxOf x.data.toList : Nat) : Int)) w := by
  rw [h.run_look x hsz]
  unfold atK
  rw [if_pos ((hk _).2 hx)]; rfl

theorem assert_str (x : ByteArray) (w : World) : (Instr.typeAssert (.iface 9 (.string x)) 20 9 false).run Try.prog w = .ok (.string x) w := by kernel_rfl

theorem name_small {hs : List Hd} (hm : SmallH hs) {x : Txt} (hx : x ∈ names hs) : x.length ≤ 1000 := by
  obtain ⟨h, h1, rfl⟩ := List.mem_map.1 hx
  exact hm.nm h h1

/-- The state of the first loop's inner one. -/
def L1b (w : World) (hs : List Hd) (M gW gN q : Nat) (ks : List Txt) (k : Nat) (W : List Nat) (qv : Value) (qs : List Txt) (m : Nat) (wr : World) : Prop :=
  ∃ nbv nb, OS w.heap.size wr M ks (idxF hs) gW gN q W nbv nb qv qs (.slice none 0 0) [] ∧ NbOK hs k m nb ∧ Old w wr

theorem q1_qlen {hs : List Hd} {k : Nat} {qs : List Txt} (h : Q1 hs k qs) (hk : k ≤ hs.length) : qs.length ≤ hs.length := by
  have := NeedsPlain.sub_len h.nd (b := names hs) (fun y hy => by
    obtain ⟨i, h1, h2, _⟩ := (h.mem y).1 hy
    exact h2 ▸ NeedsPlain.nm_names (by omega))
  rwa [names_len] at this

theorem nb_len {hs : List Hd} {k m : Nat} {nb : List (List Nat)} (h : NbOK hs k m nb) (hk : k ≤ 999) (hm : m ≤ 1000) (j : Nat) : (nb.getD j []).length ≤ 1000000 := by
  have := h.sz j
  omega

theorem nbv_cell {B : Nat} {w : World} {M : Nat} {ks : List Txt} {f : Txt → Int} {gW gN q : Nat} {W : List Nat} {nbv : List Value} {nb : List (List Nat)} {qv : Value} {qs : List Txt} {ov : Value} {out : List Txt} (h : OS B w M ks f gW gN q W nbv nb qv qs ov out) {j : Nat} (hj : j < nb.length) :
    w.cell? ⟨gN, j, none⟩ = some (nbv.getD j undef) := by
  rw [cell_of_row _ _ j _ 37 (0, 0) h.nn]
  have : j < nbv.length := by rw [h.nl]; exact hj
  simp [List.getD_eq_getElem?_getD, List.getElem?_eq_getElem this]

set_option maxRecDepth 20000 in
set_option maxHeartbeats 8000000 in
theorem order_walk (w : World) (v : Value) (hs : List Hd) (hv : LiesH w v hs) (hm : SmallH hs) : Calls Try.prog 10 #[v] w (OrderP w hs) := by
  have H1 := mkHid hv
  have HM := mkHid hm
  have CP := mkHid (places_walk w v hs hv hm)
  obtain ⟨ao, cap, rfl, -⟩ := hv
  obtain ⟨n, hn⟩ : ∃ n, n = hs.length := ⟨_, rfl⟩
  have hl := hm.len
  rw [← hn] at hl CP ⊢
  have mk1 := make37 n (by omega)
  have mk2 := make36 n (by omega)
  have HN := mkHid hn
  have HL := mkHid hl
  clear hn hl hm
  go_enter Try.func10, Try.ntmps10
  go_upto_region 2 with (go_at_call 25; (with_reducible refine CP.out.mono ?_); rintro e w1 ⟨M, N, ks, rfl, m1, m2, m3, m4⟩)
  have hlen := m1.run_len 3
  by_cases hd : (names hs).Nodup
  · have hge : (n : Int) ≤ (ks.length : Int) := by
      have h0 : ¬ ks.length < (names hs).length := fun h => ((twice_len m1.nd m2).1 h) hd
      have e : (names hs).length = hs.length := by simp [names]
      have := HN.out
      omega
    have M1 := mkHid m1
    have M2 := mkHid m2
    have M3 := mkHid m3
    have M4 := mkHid m4
    have HD := mkHid hd
    clear m1 m2 m3 m4 hd CP
    go_wp2
    have hdec : decide (ks.length < n) = false := decide_eq_false (by omega)
    rw [hdec]
    clear hdec
    go_loopw [35] (fun i wr => ∃ k : Nat, k ≤ n ∧ i = .int .i64 k ∧ Hid (L1 w hs M w1.heap.size (w1.heap.size + 1) (w1.heap.size + 1 + 1) ks k wr)) (fun i _ => n - (intOf i).toNat)
    case atStart =>
      refine ⟨0, by omega, rfl, mkHid ⟨_, _, _, _, _, os_start M1.out M4.out M3.out.size (by have := HL.out; omega), ?_, Q1.start hs, ?_, M3.out.trans ((old3 _ _ _ _).mono M3.out.size)⟩⟩
      · have := W1.start hs; rw [← HN.out] at this; exact this
      · have := NbOK.start hs; rw [← HN.out] at this; exact this
    case round =>
      obtain ⟨k, hk, rfl, HS⟩ := hrel
      by_cases hkn : k < n
      · obtain ⟨W, nbv, nb, qv, qs, a1, a2, a3, a4, a5⟩ := HS.out
        have hkl : k < hs.length := by rw [← HN.out]; exact hkn
        obtain ⟨b1, o1, c1, e1, hc1, hat⟩ := H1.out.form (by omega)
        obtain rfl : ao = some ⟨b1, o1, none⟩ := by cases e1; rfl
        obtain ⟨tg, nv, hr0, hlv⟩ := hat k hkl
        have hr := range_old hr0 a5
        obtain ⟨s, hse⟩ : ∃ s, s = str (hs.getD k hd0).1 := ⟨_, rfl⟩
        have hsl : s.data.toList = nmAt hs k := by rw [hse]; rfl
        rw [← hse] at hr
        have hone := one_cell (nm := s) (tg := tg) hlv
        obtain ⟨fs, hfs⟩ := under24
        obtain ⟨nd, hnd⟩ : ∃ nd, nd = ndAt hs k := ⟨_, rfl⟩
        have hlv2 : LiesS w nv nd := by rw [hnd]; exact hlv
        have hndl : nd.length ≤ 1000 := by rw [hnd]; exact nd_le HM.out k
        obtain ⟨no, nc, hnv, hncc, hnn, _⟩ := hlv2
        subst hnv
        obtain ⟨m0, hm0⟩ : ∃ m0, m0 = nd.length := ⟨_, rfl⟩
        rw [← hm0] at hr hone hlv
        have hlv3 : LiesS w (.slice no m0 nc) nd := by rw [hnd]; exact hlv
        have hcw : wr.cell? ⟨w1.heap.size, k, none⟩ = some (natV (W.getD k 0)) := by
          rw [cell_of_row _ _ k _ 3 (0, 0) a1.wt]
          have : k < W.length := by rw [a2.len]; exact hkl
          simp [this]
        have hfw : wr.frozen? ⟨w1.heap.size, k, none⟩ = false := free_at a1.wt k
        have hbx : wr.heap.size ≠ w1.heap.size := by
          have := (Array.getElem?_eq_some_iff.1 a1.wt).1
          omega
        have hk0 : (k : Int) < (n : Int) := by omega
        have hwk : wrap64 ((k : Int) + 1) = (k : Int) + 1 := by have := HL.out; unfold wrap64; omega
        have HWK := mkHid hwk
        have A1 := mkHid a1
        have A2 := mkHid a2
        have A3 := mkHid a3
        have A4 := mkHid a4
        have A5 := mkHid a5
        have HKL := mkHid hkl
        have HR := mkHid hr
        have HSL := mkHid hsl
        have HONE := mkHid hone
        have HND := mkHid hnd
        have HNDL := mkHid hndl
        have HM0 := mkHid hm0
        have HLV := mkHid hlv3
        have HCW := mkHid hcw
        have HFW := mkHid hfw
        have HBX := mkHid hbx
        obtain ⟨i3, hi3, hz0, hz1, hz2⟩ := info_parts Try.inf3
        clear a1 a2 a3 a4 a5 hkl hr hr0 hsl hone hnd hndl hm0 hlv3 hlv hcw hfw hbx e1 hc1 hat hse HS hwk hncc hnn hlen mk1 mk2 hge
        go_upto_region 11 with (first
          | ((with_reducible refine at_op (.load 24 (.tmp 38)) ?_); refine wpList_load_mid rfl 24 (.tmp 38) rfl b1 (o1 + k * 3) rfl _ _ HR.out hfs rfl size24 ?_)
          | ((with_reducible refine at_op (.store 24 (.tmp 9) (.tmp 39)) ?_)
             refine wpList_store_row rfl 24 (.tmp 9) (.tmp 39) rfl wr.heap.size _ rfl rfl 24 hd0A (h10 _ _) size24 rfl HONE.out ?_
             rw [World.setRow_alloc_new]
             obtain ⟨X1, hX1⟩ : ∃ X1, X1 = wr.alloc (.cells #[.string s, .bool tg, .slice no m0 nc] 24) := ⟨_, rfl⟩
             have b1 : Old wr X1 := by rw [hX1]; exact old1 _ _
             have HB1 := mkHid b1
             have G6 : Hid (X1.heap[wr.heap.size]? = some (.cells #[.string s, .bool tg, .slice no m0 nc] 24 (0, 0))) := by show _ = _; rw [hX1]; exact h10 _ _
             rw [← hX1]
             obtain ⟨r0, r1, r2⟩ := cell3 G6.out
             have hcw1 := cell_old b1 HCW.out
             have hfw1 : X1.frozen? ⟨w1.heap.size, k, none⟩ = false := free_at (A1.out.old b1).wt k
             clear b1 hX1))
        obtain ⟨X2, hX2⟩ : ∃ X2, X2 = X1.setCell ⟨w1.heap.size, k, none⟩ (.int .i64 (m0 : Int)) := ⟨_, rfl⟩
        rw [← hX2]
        have g2 : OS w.heap.size X2 M ks (idxF hs) w1.heap.size (w1.heap.size + 1) (w1.heap.size + 1 + 1) (W.set k m0) nbv nb qv qs (.slice none 0 0) [] := by rw [hX2]; exact (A1.out.old HB1.out).wait k m0
        have o2 : Old w X2 := by
          rw [hX2]
          exact (A5.out.trans (HB1.out.mono A5.out.size)).setCell (by show w.heap.size ≤ w1.heap.size; exact M3.out.size) _
        have gb : X2.heap[wr.heap.size]? = some (.cells #[.string s, .bool tg, .slice no m0 nc] 24 (0, 0)) := by
          rw [hX2, Below.heap_setCell _ _ _ _ HBX.out]; exact G6.out
        have hkW : k < (W.set k m0).length := by rw [List.length_set, A2.out.len]; exact HKL.out
        have hcw2 : X2.cell? ⟨w1.heap.size, k, none⟩ = some (.int .i64 (m0 : Int)) := by
          rw [cell_of_row _ _ k _ 3 (0, 0) g2.wt]
          have : k < W.length := by simpa using hkW
          simp [this, natV]
        have G2 := mkHid g2
        have O2 := mkHid o2
        have GB := mkHid gb
        have W2 : Hid (W1 hs (k + 1) (W.set k m0)) := by
          have := A2.out.step HKL.out
          rw [← HND.out, ← HM0.out] at this; exact this
        obtain ⟨s0, s1, s2⟩ := cell3 gb
        clear r0 r1 r2 hcw1 hfw1 hX2 g2 o2 gb hkW
        by_cases hmz : m0 = 0
        · subst hmz
          have hnil : ndAt hs k = [] := by rw [← HND.out]; exact List.length_eq_zero_iff.1 HM0.out.symm
          have CPU := mkHid (push_walk w.heap.size X2 (w1.heap.size + 1 + 1) qv qs G2.out.qu G2.out.hp O2.out.size (by have := q1_qlen A3.out (by have := HKL.out; omega); have := HL.out; have := HN.out; omega) s)
          have HNIL := mkHid hnil
          clear hnil
          go_wp2_with (first
            | (go_at_call 26; (with_reducible refine CPU.out.mono ?_); rintro e X5 ⟨rfl, v6, ys6, z1, z2, z3⟩
               have hne1 : wr.heap.size ≠ w1.heap.size + 1 + 1 := type_ne GB.out G2.out.qu.blk (by decide)
               have hne2 := own_ne G2.out.qu.row GB.out (by decide)
               have gb5 : X5.heap[wr.heap.size]? = some (.cells #[.string s, .bool tg, .slice no 0 nc] 24 (0, 0)) := by
                 rw [z1.fr.block _ (Array.getElem?_eq_some_iff.1 GB.out).1 (by simpa using hne1) hne2]; exact GB.out
               obtain ⟨t0, t1, t2⟩ := cell3 gb5
               have Z1 := mkHid z1
               have Z2 := mkHid z2
               have Z3 := mkHid z3
               clear z1 z2 z3 hne1 hne2 gb5))
          refine wp_loop_rounds 1 ?_
          rw [rounds_succ]
          go_wp2
          go_roundw
          case rel =>
            have hz := Z2.out
            rw [HSL.out] at hz
            refine ⟨k + 1, by omega, by rw [HWK.out]; rfl, mkHid ⟨_, _, _, _, _, G2.out.queue Z1.out Z3.out, W2.out, A3.out.put HD.out HKL.out HNIL.out hz, ?_, O2.out.trans (Z1.out.fr.below O2.out.size (fun j e => by cases e; exact G2.out.qu.hB) (fun j e => (G2.out.qu.row.lt j e).1))⟩⟩
            have := A4.out
            have h0 : (ndAt hs k).length = 0 := by rw [HNIL.out]; rfl
            rw [← h0] at this
            exact this.next (by omega)
          case measure => rw [HWK.out]; exact meas hkn
        · have hm2 : ((m0 : Int) == 0) = false := by simp; omega
          have HMZ := mkHid hmz
          go_wp2
          go_loopw [60] (fun i wr2 => ∃ m : Nat, m ≤ m0 ∧ i = .int .i64 m ∧ Hid (L1b w hs M w1.heap.size (w1.heap.size + 1) (w1.heap.size + 1 + 1) ks k (W.set k m0) qv qs m wr2)) (fun i _ => m0 - (intOf i).toNat)
          case atStart => exact ⟨0, by omega, rfl, mkHid ⟨nbv, nb, G2.out, A4.out, O2.out⟩⟩
          case round =>
            obtain ⟨m, hmm, rfl, HS4⟩ := hrel
            by_cases hml : m < m0
            · obtain ⟨nbv4, nb4, c1, c2, c3⟩ := HS4.out
              have hmd : m < nd.length := by rw [← HM0.out]; exact hml
              obtain ⟨b2, o2, c4, e4, _, hat4⟩ := (HLV.out.old c3).form (by omega)
              rw [← HM0.out] at e4
              obtain rfl : no = some ⟨b2, o2, none⟩ := by cases e4; rfl
              obtain ⟨x, hx⟩ : ∃ x, x = str (nd.getD m []) := ⟨_, rfl⟩
              have hcx : wr.cell? ⟨b2, o2 + m, none⟩ = some (.string x) := by rw [hx]; exact hat4 m hmd
              have hxl : x.data.toList = (ndAt hs k).getD m [] := by rw [hx, ← HND.out]; rfl
              have hxsz : x.size ≤ maxLen := by
                have : nd.getD m [] ∈ nd := by rw [List.getD_eq_getElem?_getD, List.getElem?_eq_getElem hmd]; exact List.getElem_mem hmd
                rw [HND.out] at this
                have := HM.out.nn _ (NeedsPlain.nm_mem HKL.out) _ this
                rw [hx, str_size, HND.out]; unfold maxLen; omega
              have hmd2 : m < (ndAt hs k).length := by rw [← HND.out]; exact hmd
              obtain ⟨N4, m4⟩ := c1.map
              have hlk := m4.run_look_ok x hxsz
              obtain ⟨qb, hqb⟩ : ∃ qb, qb = decide (x.data.toList ∈ ks) := ⟨_, rfl⟩
              rw [← hqb] at hlk
              have hmk : (m : Int) < (m0 : Int) := by omega
              have hwm : wrap64 ((m : Int) + 1) = (m : Int) + 1 := by have := HNDL.out; have := HM0.out; unfold wrap64; omega
              have HWM := mkHid hwm
              have HQB := mkHid hqb
              have HXL := mkHid hxl
              have HMD := mkHid hmd2
              have C1 := mkHid c1
              have C2 := mkHid c2
              have C3 := mkHid c3
              cases qb
              · obtain ⟨at1, hat1⟩ : ∃ a, a = atK ks (idxF hs) x.data.toList := ⟨_, rfl⟩
                rw [← hat1] at hlk
                have hno : (ndAt hs k).getD m [] ∉ names hs := by
                  rw [← hxl, ← M2.out]
                  simpa using hqb.symm
                have HNO := mkHid hno
                clear hwm hqb hxl hmd2 c1 c2 c3 m4 hat1 hx hxsz hat4 e4 hmd HS4 hno
                go_wp2
                go_roundw
                case rel => exact ⟨m + 1, by omega, by rw [HWM.out]; rfl, mkHid ⟨nbv4, nb4, C1.out, C2.out.skip HMD.out HNO.out, C3.out⟩⟩
                case measure => rw [HWM.out]; exact meas hml
              · have hin : (ndAt hs k).getD m [] ∈ names hs := by
                  rw [← hxl, ← M2.out]
                  simpa using hqb.symm
                obtain ⟨j, hj⟩ : ∃ j, j = (names hs).idxOf ((ndAt hs k).getD m []) := ⟨_, rfl⟩
                have hjl : j < hs.length := by rw [hj]; exact (NeedsPlain.nm_idx hin).1
                have hat1 : atK ks (idxF hs) x.data.toList = (j : Int) := by
                  unfold atK
                  rw [if_pos (by simpa using hqb.symm), hj, ← hxl]; rfl
                rw [hat1] at hlk
                have hjb : j < nb4.length := by rw [c2.len]; exact hjl
                obtain ⟨ao2, cj, hnv⟩ := own_shape (c1.nr j hjb)
                have hcn := nbv_cell c1 hjb
                have hrj := c1.nr j hjb
                rw [hnv] at hcn hrj
                have hlj : (nb4.getD j []).length ≤ 1000000 := nb_len c2 (Nat.le_of_lt_succ (Nat.lt_of_lt_of_le hkn HL.out)) (Nat.le_trans (Nat.le_of_lt hmd) HNDL.out) j
                obtain ⟨lj, hlj2⟩ : ∃ lj, lj = (nb4.getD j []).length := ⟨_, rfl⟩
                rw [← hlj2] at hcn hrj hlj hnv
                have hjn : (j : Int) < (n : Int) := by have := HN.out; omega
                have HIN := mkHid hin
                have HJ := mkHid hj
                have HJB := mkHid hjb
                have HNV := mkHid hnv
                have HRJ := mkHid hrj
                have HLJ := mkHid hlj
                have HLJ2 := mkHid hlj2
                have HSZ : Hid (w.heap.size ≤ wr.heap.size) := c3.size
                clear hwm hqb hxl hmd2 c1 c2 c3 m4 hat1 hx hxsz hat4 e4 hmd HS4 hin hj hjl hjb hnv hrj hlj hlj2
                go_wp2_with (first
                  | (at_builtin
                     refine wpList_append_lies _ rfl (.tmp 76) (.tmp 78) 37 rfl w.heap.size 3 i3 (.int .i64 0) 1 8 Try.under37 hi3 hz0 hz1 hz2 rfl (by decide) _ lj ((nb4.getD j []).map natV) rfl (HRJ.out.alloc _) ⟨wr.heap.size, 0, none⟩ 1 1 [natV k] rfl rfl (cell_one_new _ _ _) (by simp [Value.oneCell', natV]) (by decide) (by have := HLJ.out; unfold maxLen; omega) (by have := HLJ.out; omega) (by have := HSZ.out; simp; omega) (wr.heap.size + 1) (by simp) ?_
                     intro gg cap3 w5 hown hgrow hat hlt3
                     have hne3 : some (w1.heap.size + 1) ≠ (Value.slice ao2 lj cj).ownBlock := own_ne HRJ.out C1.out.nn (by decide)
                     have hblk : w5.heap[w1.heap.size + 1]? = some (.cells nbv4.toArray 37 (0, 0)) := by
                       rw [hgrow.block _ (by have := (Array.getElem?_eq_some_iff.1 C1.out.nn).1; simp; omega) hne3]
                       exact block_old (old1 _ _) C1.out.nn
                     have hc5 : w5.cell? ⟨w1.heap.size + 1, j, none⟩ = some (.slice ao2 lj cj) := by
                       rw [cell_of_row _ _ j _ 37 (0, 0) hblk]
                       have h6 := nbv_cell C1.out HJB.out
                       rw [cell_of_row _ _ j _ 37 (0, 0) C1.out.nn, HNV.out] at h6
                       exact h6
                     have hf5 : w5.frozen? ⟨w1.heap.size + 1, j, none⟩ = false := free_at hblk j
                     have G9 : Hid (OS w.heap.size (w5.setCell ⟨w1.heap.size + 1, j, none⟩ (.slice (some ⟨gg, 0, none⟩) (lj + 1) cap3)) M ks (idxF hs) w1.heap.size (w1.heap.size + 1) (w1.heap.size + 1 + 1) (W.set k m0) (nbv4.set j (.slice (some ⟨gg, 0, none⟩) (lj + 1) cap3)) (nb4.set j (nb4.getD j [] ++ [k])) qv qs (.slice none 0 0) []) := by
                       rw [HLJ2.out] at hown ⊢
                       have h9 := HNV.out
                       refine C1.out.needed HJB.out hown ?_ ?_
                       · rw [h9]; exact hgrow
                       · rw [h9]; exact hat
                     have O9 : Hid (Old w (w5.setCell ⟨w1.heap.size + 1, j, none⟩ (.slice (some ⟨gg, 0, none⟩) (lj + 1) cap3))) := by
                       have h8 : Old w w5 := (C3.out.trans ((Below.refl w.heap.size wr).alloc C3.out.size _)).trans ((Below.refl _ _).grown hgrow (by have := C3.out.size; simp; omega) (fun k9 e => (HRJ.out.lt k9 e).1))
                       exact h8.setCell (by show w.heap.size ≤ w1.heap.size + 1; have := M3.out.size; omega) _
                     clear hown hgrow hat hlt3 hne3 hblk))
                go_roundw
                case rel => exact ⟨m + 1, by omega, by rw [HWM.out]; rfl, mkHid ⟨_, _, G9.out, C2.out.put HD.out HKL.out HMD.out HIN.out HJ.out, O9.out⟩⟩
                case measure => rw [HWM.out]; exact meas hml
            · obtain rfl : m = m0 := by omega
              have hend : Hid (L1 w hs M w1.heap.size (w1.heap.size + 1) (w1.heap.size + 1 + 1) ks (k + 1) wr) := by
                obtain ⟨nbv4, nb4, c1, c2, c3⟩ := HS4.out
                rw [HM0.out, HND.out] at c2
                refine ⟨_, nbv4, nb4, qv, qs, c1, W2.out, A3.out.skip ?_, c2.next (nd_le HM.out k), c3⟩
                intro e
                apply HMZ.out
                rw [HM0.out, HND.out, e]; rfl
              clear HS4
              go_wp2
              go_roundw
              case rel => exact ⟨k + 1, by omega, by rw [HWK.out]; rfl, hend⟩
              case measure => rw [HWK.out]; exact meas hkn
      · have hkk : k = n := by omega
        subst hkk
        have HS2 : Hid (L2 w hs M w1.heap.size (w1.heap.size + 1) (w1.heap.size + 1 + 1) ks (.slice none 0 0) wr) := by
          obtain ⟨W, nbv, nb, qv, qs, a1, a2, a3, a4, a5⟩ := HS.out
          rw [HN.out] at a2 a3 a4
          exact ⟨W, nbv, nb, qv, qs, [], a1, St.start a2 a3, a4, a5⟩
        clear HS hkn hk hge hlen mk1 mk2
        go_wp2
        go_loopw [14] (fun ov wr => Hid (L2 w hs M w1.heap.size (w1.heap.size + 1) (w1.heap.size + 1 + 1) ks ov wr)) (fun ov _ => k - lenV ov)
        case atStart => exact HS2
        case round =>
          obtain ⟨W, nbv, nb, qv, qs, out, a1, a2, a3, a4⟩ := hrel.out
          have hol := NeedsPlain.run_snoc_len HD.out a2.run
          have hql := st_qlen a2
          rw [← HN.out] at hol hql
          obtain ⟨qo, qc, rfl⟩ := own_shape a1.qu.row
          have hc0 := a1.qu.cell
          have CL := mkHid (len_walk wr qo qs.length qc)
          by_cases hq0 : qs = []
          · subst hq0
            simp only [List.length_nil] at CL hc0 a1
            obtain ⟨oo, oc, rfl⟩ := own_shape a1.ow
            have HO := St.last HD.out a2
            rw [← HN.out] at HO
            have HL2 := mkHid (lies_own rfl a1.ow)
            have HO4 := mkHid a4
            obtain ⟨ol, hol2⟩ : ∃ ol, ol = out.length := ⟨_, rfl⟩
            rw [← hol2] at HO
            have HOL := mkHid hol2
            by_cases hlt : ol < k
            · rw [if_pos hlt] at HO
              have HO := mkHid HO
              have hlt2 : (ol : Int) < (k : Int) := by omega
              rw [← HOL.out]
              clear a1 a2 a3 a4 hol hql hrel hol2 HL2
              go_wp2_with (first | (go_at_call 27; (with_reducible refine CL.out.mono ?_); rintro e w2 ⟨rfl, rfl⟩))
              go_ret2
              exact ⟨.inr ⟨HO.out, rfl⟩, HO4.out⟩
            · rw [if_neg hlt] at HO
              have HO := mkHid HO
              have hlt2 : (k : Int) ≤ (ol : Int) := by omega
              rw [← HOL.out] at HL2 ⊢
              clear a1 a2 a3 a4 hol hql hrel hol2
              go_wp2_with (first | (go_at_call 27; (with_reducible refine CL.out.mono ?_); rintro e w2 ⟨rfl, rfl⟩))
              go_ret2
              exact ⟨.inl ⟨_, _, HO.out, rfl, HL2.out⟩, HO4.out⟩
          · have hqp : 0 < qs.length := List.length_pos_iff.2 hq0
            have hqp2 : (0 : Int) < (qs.length : Int) := by omega
            have CPOP := mkHid (pop_walk w.heap.size wr (w1.heap.size + 1 + 1) _ qs a1.qu a1.hp hqp (by have := HL.out; omega))
            obtain ⟨x, hx⟩ : ∃ x, x = str (g qs 0) := ⟨_, rfl⟩
            have hex : encStr (g qs 0) = .string x := by rw [hx]; rfl
            have hxl : x.data.toList = g qs 0 := by rw [hx]; rfl
            unfold PopP at CPOP
            rw [hex] at CPOP
            have hmin : ∀ y ∈ qs, g qs 0 ≤ y := by
              intro y hy
              obtain ⟨i, hi, rfl⟩ := List.getElem_of_mem hy
              have := a1.hp.least i hi
              simpa [g, hi] using this
            have hx0 : g qs 0 ∈ qs := by
              have : g qs 0 = qs[0] := by simp [g, hqp]
              rw [this]; exact List.getElem_mem _
            have hbest := NeedsPlain.St.isBest a2 hx0 hmin
            obtain ⟨j, hj⟩ : ∃ j, j = (names hs).idxOf (g qs 0) := ⟨_, rfl⟩
            obtain ⟨l, hle⟩ : ∃ l, l = nb.getD j [] := ⟨_, rfl⟩
            obtain ⟨_, hxo, hxn⟩ := NeedsPlain.St.pop (ys := qs.tail) a2 (x := g qs 0) (by
              cases qs with
              | nil => exact absurd rfl hq0
              | cons a r => exact .refl _) l
            have hjn : j < hs.length := by rw [hj]; exact (NeedsPlain.nm_idx hxn).1
            have hneed : NeedsPlain.Needed hs (g qs 0) l := by rw [hle, hj]; exact needed_of a3 hxn
            have hll : l.length ≤ 1000000 := by rw [hle]; have := a3.sz j; have := HL.out; have := HN.out; omega
            have hxsz : x.size ≤ maxLen := by
              have := name_small HM.out hxn
              rw [hx, str_size]; unfold maxLen; omega
            rw [← hxl] at hbest hxo hxn hj hneed
            have hout1 : out.length < k := by
              have h1 := NeedsPlain.run_snoc_len HD.out (out := out ++ [x.data.toList]) (by
                have : ∀ {a o : List Txt}, NeedsPlain.Run hs a o → NeedsPlain.best o hs = some x.data.toList → NeedsPlain.Run hs a (o ++ [x.data.toList]) := by
                  intro a o hr
                  induction hr using NeedsPlain.Run.ind with
                  | stop => intro hb; exact .step hb (.stop _)
                  | step h1 _ ih => intro hb; exact .step h1 (ih hb)
                exact this a2.run hbest)
              rw [← HN.out] at h1
              simp at h1
              omega
            obtain ⟨oo, oc, rfl⟩ := own_shape a1.ow
            obtain ⟨ol, hol2⟩ : ∃ ol, ol = out.length := ⟨_, rfl⟩
            rw [← hol2] at a1 ⊢
            have A1 := mkHid a1
            have A2 := mkHid a2
            have A3 := mkHid a3
            have A4 := mkHid a4
            have HBEST := mkHid hbest
            have HXO := mkHid hxo
            have HXN := mkHid hxn
            have HJ := mkHid hj
            have HLE := mkHid hle
            have HJN := mkHid hjn
            have HNEED := mkHid hneed
            have HLL := mkHid hll
            have HXSZ := mkHid hxsz
            have HXL := mkHid hxl
            have HOUT1 := mkHid hout1
            have HOL := mkHid hol2
            obtain ⟨i9, hi9, hz0, hz1, hz2⟩ := info_parts Try.inf9
            clear a1 a2 a3 a4 hbest hxo hxn hj hle hjn hneed hll hxsz hxl hout1 hx hex hmin hx0 hrel hq0 hqp
            have HQL := mkHid hql
            have HOL3 := mkHid hol
            clear hol hql hol2
            have has := fun w2 => assert_str x w2
            go_upto_region 25 with (first
              | (go_at_call 27; (with_reducible refine CL.out.mono ?_); rintro e w2 ⟨rfl, rfl⟩)
              | (go_at_call 28
                 (with_reducible refine CPOP.out.mono ?_)
                 rintro e w2 ⟨rfl, v2, ys, y1, y2, y3⟩
                 have B1 : Hid (OS w.heap.size w2 M ks (idxF hs) w1.heap.size (w1.heap.size + 1) (w1.heap.size + 1 + 1) W nbv nb v2 ys (.slice oo ol oc) out) := A1.out.queue y1 y3
                 have Y2 := mkHid y2
                 have OLD2 : Hid (Old w w2) := A4.out.trans (y1.fr.below A4.out.size (fun j e => by cases e; exact A1.out.qu.hB) (fun j e => (A1.out.qu.row.lt j e).1))
                 clear y1 y2 y3)
              | (at_builtin
                 have hrow : w2.ownsRow w.heap.size 9 1 (.slice oo ol oc) ol (out.map encStr) := by have := B1.out.ow; rw [← HOL.out] at this; exact this
                 refine wpList_append_lies _ rfl (.tmp 93) (.tmp 95) 22 rfl w.heap.size 9 i9 (.string ⟨#[]⟩) 1 16 Try.underlying22s hi9 hz0 hz1 hz2 rfl (by decide) _ ol (out.map encStr) rfl (hrow.alloc _) ⟨w2.heap.size, 0, none⟩ 1 1 [.string x] rfl rfl (cell_one_new _ _ _) (by simp [Value.oneCell']) (by decide) (by have := HOUT1.out; have := HL.out; have := HOL.out; unfold maxLen; omega) (by have := HOUT1.out; have := HL.out; have := HOL.out; omega) (by have := B1.out.qu.lt; have := B1.out.qu.hB; simp; omega) (w2.heap.size + 1) (by simp) ?_
                 intro gg cap3 w3 hown hgrow hat hlt3
                 have C1 : Hid (OS w.heap.size w3 M ks (idxF hs) w1.heap.size (w1.heap.size + 1) (w1.heap.size + 1 + 1) W nbv nb v2 ys (.slice (some ⟨gg, 0, none⟩) (ol + 1) cap3) (out ++ [x.data.toList])) := by
                   have h9 := B1.out
                   rw [HOL.out] at hown h9 hat hgrow ⊢
                   exact h9.taken hown hgrow hat
                 have OLD3 : Hid (Old w w3) := OLD2.out.trans (((Below.refl w.heap.size w2).alloc OLD2.out.size _).grown hgrow (by have := OLD2.out.size; simp; omega) (fun k e => (hrow.lt k e).1))
                 clear hown hgrow hat hlt3 hrow))
            have c1 := C1.out
            obtain ⟨N3, m3⟩ := c1.map
            have hlk := idx_look m3 M2.out HXN.out HXSZ.out
            rw [← HJ.out] at hlk
            have hjb : j < nb.length := by rw [A3.out.len]; exact HJN.out
            obtain ⟨ao2, c2, hnv⟩ := own_shape (c1.nr j hjb)
            rw [← HLE.out] at hnv
            obtain ⟨ll, hll⟩ : ∃ ll, ll = l.length := ⟨_, rfl⟩
            rw [← hll] at hnv
            have hcn : w3.cell? ⟨w1.heap.size + 1, j, none⟩ = some (.slice ao2 ll c2) := by
              rw [cell_of_row _ _ j _ 37 (0, 0) c1.nn]
              have : j < nbv.length := by rw [c1.nl]; exact hjb
              rw [← hnv]
              simp [List.getD_eq_getElem?_getD, List.getElem?_eq_getElem this]
            have hjk : (j : Int) < (k : Int) := by have := HJN.out; have := HN.out; omega
            have HNV := mkHid hnv
            have HLL2 := mkHid hll
            have HJB := mkHid hjb
            obtain ⟨Y0, _, _⟩ := NeedsPlain.St.pop A2.out (x := x.data.toList) (ys := ys) (by rw [HXL.out]; exact Y2.out) l
            have HIN := mkHid Y0
            clear c1 m3 hnv hll hjb Y0 CL CPOP B1 A1 Y2
            go_wp2
            go_loopw [104] (fun i wr2 => ∃ t : Nat, t ≤ ll ∧ i = .int .i64 t ∧ Hid (L3 w hs M w1.heap.size (w1.heap.size + 1) (w1.heap.size + 1 + 1) ks nbv nb (.slice (some ⟨gg, 0, none⟩) (ol + 1) cap3) out x.data.toList l t wr2)) (fun i _ => ll - (intOf i).toNat)
            case atStart => exact ⟨0, by omega, rfl, mkHid ⟨W, v2, ys, C1.out, HIN.out, OLD3.out⟩⟩
            case round =>
              obtain ⟨t, ht, rfl, HS3⟩ := hrel
              by_cases htl : t < ll
              · obtain ⟨W5, qv5, qs5, b1, b2, b3⟩ := HS3.out
                have htl2 : t < l.length := by rw [← HLL2.out]; exact htl
                obtain ⟨f1, f2, f3⟩ := NeedsPlain.In.facts HD.out A2.out.run HXO.out HBEST.out HNEED.out htl2
                obtain ⟨i, hi⟩ : ∃ i, i = l.getD t 0 := ⟨_, rfl⟩
                have hr5 := b1.nr j HJB.out
                rw [HNV.out, ← HLE.out, ← HLL2.out] at hr5
                obtain ⟨gj, cj, e5, _, _⟩ := hr5.form (by omega)
                obtain rfl : ao2 = some ⟨gj, 0, none⟩ := by cases e5; rfl
                have hcl : wr.cell? ⟨gj, t, none⟩ = some (.int .i64 (i : Int)) := by
                  rw [hr5.cellAt t (by omega), hi]
                  simp [htl2, natV]
                obtain ⟨c, hc⟩ : ∃ c, c = W5.getD i 0 := ⟨_, rfl⟩
                have hiW : i < W5.length := by rw [b2.wl, hi]; exact f1
                have hcw : wr.cell? ⟨w1.heap.size, i, none⟩ = some (.int .i64 (c : Int)) := by
                  rw [cell_of_row _ _ i _ 3 (0, 0) b1.wt, hc]
                  simp [hiW, natV]
                have hfw := free_at b1.wt i
                have hc0 : 0 < c := by rw [hc, b2.w i (by rw [hi]; exact f1), hi]; omega
                have hc1 : c ≤ 1000 := by
                  rw [hc, b2.w i (by rw [hi]; exact f1)]
                  have := cnt_le hs out i
                  have := nd_le HM.out i
                  omega
                obtain ⟨d, hd⟩ : ∃ d, d = c - 1 := ⟨_, rfl⟩
                have hc2 : 0 < (c : Int) := by omega
                have hc3 : (c : Int) ≤ 1000 := by omega
                have hcd : (c : Int) - 1 = (d : Int) := by omega
                have hik : (i : Int) < (k : Int) := by have := HN.out; omega
                have htk : (t : Int) < (ll : Int) := by omega
                have hwt : wrap64 ((t : Int) + 1) = (t : Int) + 1 := by have := HLL.out; have := HLL2.out; unfold wrap64; omega
                have HWT := mkHid hwt
                have HI := mkHid hi
                have HC := mkHid hc
                have HDD := mkHid hd
                have F1 := mkHid f1
                have F2 := mkHid f2
                have F3 := mkHid f3
                have G1 := mkHid b1
                have G2 := mkHid b2
                have G3 := mkHid b3
                have HTL := mkHid htl2
                clear htl2 f1 f2 f3 hi hr5 e5 hc hiW hc0 hc1 hd b1 b2 b3 HS3 hwt
                go_upto_region 29 with (fail)
                obtain ⟨w4, hw4⟩ : ∃ w4, w4 = wr.setCell ⟨w1.heap.size, i, none⟩ (.int .i64 (d : Int)) := ⟨_, rfl⟩
                rw [← hw4]
                have g4 : OS w.heap.size w4 M ks (idxF hs) w1.heap.size (w1.heap.size + 1) (w1.heap.size + 1 + 1) (W5.set i d) nbv nb qv5 qs5 (.slice (some ⟨gg, 0, none⟩) (ol + 1) cap3) (out ++ [x.data.toList]) := by rw [hw4]; exact G1.out.wait i d
                have o4 : Old w w4 := by
                  rw [hw4]; exact G3.out.setCell (by show w.heap.size ≤ w1.heap.size; exact M3.out.size) _
                have hiW2 : i < (W5.set i d).length := by rw [List.length_set, G2.out.wl, HI.out]; exact F1.out
                have hcw4 : w4.cell? ⟨w1.heap.size, i, none⟩ = some (.int .i64 (d : Int)) := by
                  rw [cell_of_row _ _ i _ 3 (0, 0) g4.wt]
                  have : i < W5.length := by simpa using hiW2
                  simp [this, natV]
                have G4 := mkHid g4
                have O4 := mkHid o4
                by_cases hdz : d = 0
                · obtain ⟨b1, o1, c1, e1, _, hat⟩ := (H1.out.old o4).form (by have := HN.out; omega)
                  obtain rfl : ao = some ⟨b1, o1, none⟩ := by cases e1; rfl
                  obtain ⟨tg, nv, hr1, _⟩ := hat i (by rw [HI.out]; exact F1.out)
                  obtain ⟨s, hs1⟩ : ∃ s, s = str (hs.getD i hd0).1 := ⟨_, rfl⟩
                  rw [← hs1] at hr1
                  have hnm : w4.cell? ⟨b1, o1 + i * 3, none⟩ = some (.string s) := hr1 0 _ rfl
                  have hsl : s.data.toList = nmAt hs i := by rw [hs1]; rfl
                  have CPU := mkHid (push_walk w.heap.size w4 (w1.heap.size + 1 + 1) qv5 qs5 g4.qu g4.hp o4.size (by have := in_qlen G2.out; have := HL.out; have := HN.out; omega) s)
                  have HSL := mkHid hsl
                  subst hdz
                  clear hcw hfw hw4 e1 hat hr1 hs1 hsl g4 o4 hiW2
                  go_wp2_with (first
                    | (go_at_call 26; (with_reducible refine CPU.out.mono ?_); rintro e w5 ⟨rfl, v6, ys6, z1, z2, z3⟩
                       have Z1 := mkHid z1
                       have Z2 := mkHid z2
                       have Z3 := mkHid z3
                       clear z1 z2 z3))
                  go_roundw
                  case rel =>
                    refine ⟨t + 1, by omega, by rw [HWT.out]; rfl, mkHid ⟨_, _, _, G4.out.queue Z1.out Z3.out, ?_, ?_⟩⟩
                    · have hz := Z2.out
                      rw [HSL.out] at hz
                      have hdc := HDD.out
                      rw [HC.out] at hdc
                      rw [hdc, HI.out]
                      rw [HI.out] at hz hdc
                      exact NeedsPlain.In.put HD.out G2.out HTL.out F1.out F2.out F3.out hdc.symm hz
                    · exact O4.out.trans (Z1.out.fr.below O4.out.size (fun j e => by cases e; exact G4.out.qu.hB) (fun j e => (G4.out.qu.row.lt j e).1))
                  case measure => rw [HWT.out]; exact meas htl
                · have hd2 : ((d : Int) == 0) = false := by simp; omega
                  have HD0 := mkHid hdz
                  clear hcw hfw hw4 g4 o4 hiW2 hdz
                  go_wp2
                  go_roundw
                  case rel =>
                    refine ⟨t + 1, by omega, by rw [HWT.out]; rfl, mkHid ⟨_, _, _, G4.out, ?_, O4.out⟩⟩
                    have hdc := HDD.out
                    rw [HC.out] at hdc
                    have h0 := HD0.out
                    rw [hdc, HI.out] at h0
                    rw [hdc, HI.out]
                    exact NeedsPlain.In.skip G2.out HTL.out F1.out F2.out h0
                  case measure => rw [HWT.out]; exact meas htl
              · obtain rfl : t = ll := by omega
                have hend : Hid (L2 w hs M w1.heap.size (w1.heap.size + 1) (w1.heap.size + 1 + 1) ks (.slice (some ⟨gg, 0, none⟩) (ol + 1) cap3) wr) := by
                  obtain ⟨W5, qv5, qs5, b1, b2, b3⟩ := HS3.out
                  rw [HLL2.out] at b2
                  exact ⟨W5, nbv, nb, qv5, qs5, _, b1, NeedsPlain.In.done A2.out HBEST.out HXO.out HNEED.out b2, A3.out, b3⟩
                clear HS3
                go_wp2
                go_roundw
                case rel => first | exact hend | ((repeat apply Exists.intro); exact ⟨hend, rfl⟩)
                case measure =>
                  show k - (ol + 1) < k - ol
                  have := HOUT1.out
                  have := HOL.out
                  omega
  · have hlt : (ks.length : Int) < (n : Int) := by
      have := (twice_len m1.nd m2).2 hd
      have e : (names hs).length = hs.length := by simp [names]
      have := HN.out
      omega
    have M3 := mkHid m3
    have HD : Hid (ordM hs = none) := by unfold ordM; exact if_neg hd
    clear m1 m2 m3 m4 hd
    go_wp2
    go_ret2
    exact ⟨.inr ⟨HD.out, rfl⟩, M3.out⟩
end Go.Proofs.Ytcogeebfldlpoaa
