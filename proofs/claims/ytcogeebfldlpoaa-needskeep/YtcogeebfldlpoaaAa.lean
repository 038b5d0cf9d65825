/-
  All walked.
-/
import Derived.Test.YtcogeebfldlpoaaOb
import Derived.Test.YtcogeebfldlpoaaAm
set_option linter.unusedSimpArgs false
set_option linter.unusedVariables false
namespace Go.Proofs.Ytcogeebfldlpoaa
open Go.RowKit
open Go.Proofs.NeedsPlain (Hd names Go1 IsAll nmAt ndAt)

theorem Try.inf4 : (Try.prog.info? 4).map (fun i => (i.zero, i.size, i.bytes)) = some (some (.bool false), 1, 1) := by kernel_rfl
theorem Try.under43 : Try.prog.underlying 43 = some (.slice 4) := by kernel_rfl

theorem make43 (n : Nat) (hn : n ≤ 1000000) (w : World) : (Instr.makeSlice 43 (.int .i64 (n : Int)) (.int .i64 (n : Int))).run Try.prog w = .ok (.slice (some ⟨w.heap.size, 0, none⟩) n n) (w.alloc (.cells (Array.replicate n (.bool false)) 4)) := by
  have := run_make_row' (P := Try.prog) 43 4 (.bool false) 1 Try.under43 Try.inf4 rfl .i64 .i64 n (by omega) (by omega) w
  rw [this]
  congr 2
  rw [show madeCells #[Value.bool false] n = Array.replicate n (.bool false) by
    apply Array.toList_inj.1; rw [toList_madeCells_one]; simp]

def metV (n : Nat) (mt : List Nat) : List Value := (List.range n).map fun i => .bool (decide (i ∈ mt))

theorem metV_at {n : Nat} {mt : List Nat} {i : Nat} (h : i < n) : (metV n mt)[i]? = some (.bool (decide (i ∈ mt))) := by
  simp [metV, h]

theorem metV_set {n : Nat} {mt : List Nat} {j : Nat} (h : j < n) : (metV n mt).set j (.bool true) = metV n (mt ++ [j]) := by
  apply List.ext_getElem?
  intro i
  rw [List.getElem?_set]
  by_cases hi : i < n
  · rw [metV_at hi]
    by_cases e : j = i
    · subst e; simp [metV, h]
    · rw [if_neg e, metV_at hi]
      have : ¬ i = j := fun k => e k.symm
      simp [this]
  · have h1 : (metV n mt)[i]? = none := List.getElem?_eq_none (by simp [metV]; omega)
    have h2 : (metV n (mt ++ [j]))[i]? = none := List.getElem?_eq_none (by simp [metV]; omega)
    rw [h1, h2, if_neg (by omega)]

/-- The state of All in memory. -/
structure AS (B : Nat) (w : World) (M : Nat) (ks : List Txt) (f : Txt → Int) (gM n : Nat) (mt : List Nat) (wv : Value) (way : List Nat) (ov : Value) (out : List Txt) : Prop where
  map : ∃ N, MapI w M N ks f
  met : w.heap[gM]? = some (.cells (metV n mt).toArray 4 (0, 0))
  wr : w.ownsRow B 3 1 wv way.length (way.map natV)
  ow : w.ownsRow B 9 1 ov out.length (out.map encStr)

section
variable {B : Nat} {w : World} {M : Nat} {ks : List Txt} {f : Txt → Int} {gM n : Nat} {mt : List Nat} {wv : Value} {way : List Nat} {ov : Value} {out : List Txt}

theorem AS.old {w' : World} (h : AS B w M ks f gM n mt wv way ov out) (hb : Old w w') : AS B w' M ks f gM n mt wv way ov out := by
  have ho : ∀ {e : TypeId} {size : Nat} {v : Value} {n : Nat} {xs : List Value}, w.ownsRow B e size v n xs → w'.ownsRow B e size v n xs := fun hr => own_at hr fun k hk => hb.block k (hr.lt k hk).2
  exact ⟨h.map.imp fun N hm => hm.old hb, block_old hb h.met, ho h.wr, ho h.ow⟩

theorem AS.mark (h : AS B w M ks f gM n mt wv way ov out) {j : Nat} (hj : j < n) : AS B (w.setCell ⟨gM, j, none⟩ (.bool true)) M ks f gM n (mt ++ [j]) wv way ov out := by
  have hk : ∀ k, k ≠ gM → (w.setCell ⟨gM, j, none⟩ (.bool true)).heap[k]? = w.heap[k]? := fun k h1 => Below.heap_setCell _ _ _ _ h1
  obtain ⟨N, hm⟩ := h.map
  refine ⟨⟨N, hm.kept (hk M ?_)⟩, ?_, own_at h.wr fun k e => hk k ?_, own_at h.ow fun k e => hk k ?_⟩
  · rintro rfl; exact hm.notCells h.met
  · rw [row_setCell h.met j _]
    congr 2
    apply Array.toList_inj.1
    rw [Array.toList_setIfInBounds]
    exact metV_set hj
  · obtain ⟨c, e2⟩ := own_type h.wr e
    exact type_ne e2 h.met (by decide)
  · obtain ⟨c, e2⟩ := own_type h.ow e
    exact type_ne e2 h.met (by decide)

theorem AS.goes {V : World} {j g cap : Nat} (h : AS B w M ks f gM n mt wv way ov out) (hr : V.ownsRow B 3 1 (.slice (some ⟨g, 0, none⟩) (way.length + 1) cap) (way.length + 1) (way.map natV ++ [natV j])) (hg : (w.alloc (.cells #[natV j] 3)).grownBy V wv.ownBlock) :
    AS B V M ks f gM n mt (.slice (some ⟨g, 0, none⟩) (way.length + 1) cap) (way ++ [j]) ov out := by
  have h1 := h.old (old1 w (.cells #[natV j] 3))
  have hc : ∀ {k : Nat} {c' : Array Value} {t : TypeId} {fr : Nat × Nat}, (w.alloc (.cells #[natV j] 3)).heap[k]? = some (.cells c' t fr) → t ≠ 3 → V.heap[k]? = (w.alloc (.cells #[natV j] 3)).heap[k]? := fun a b => hg.block _ (Array.getElem?_eq_some_iff.1 a).1 (own_ne h1.wr a b)
  obtain ⟨N, hm⟩ := h1.map
  refine ⟨⟨N, hm.kept (hg.block M hm.lt fun e => ?_)⟩, (hc h1.met (by decide)).trans h1.met, ?_, own_at h1.ow fun k e => ?_⟩
  · obtain ⟨c', e2⟩ := own_type h1.wr e.symm
    exact hm.notCells e2
  · have e : (way ++ [j]).map natV = way.map natV ++ [natV j] := by simp
    rw [e, List.length_append, List.length_singleton]; exact hr
  · obtain ⟨c', e2⟩ := own_type h1.ow e
    exact hc e2 (by decide)

theorem AS.says {V : World} {x : ByteArray} {g cap : Nat} (h : AS B w M ks f gM n mt wv way ov out) (hr : V.ownsRow B 9 1 (.slice (some ⟨g, 0, none⟩) (out.length + 1) cap) (out.length + 1) (out.map encStr ++ [.string x])) (hg : (w.alloc (.cells #[.string x] 9)).grownBy V ov.ownBlock) :
    AS B V M ks f gM n mt wv way (.slice (some ⟨g, 0, none⟩) (out.length + 1) cap) (out ++ [x.data.toList]) := by
  have h1 := h.old (old1 w (.cells #[.string x] 9))
  have hc : ∀ {k : Nat} {c' : Array Value} {t : TypeId} {fr : Nat × Nat}, (w.alloc (.cells #[.string x] 9)).heap[k]? = some (.cells c' t fr) → t ≠ 9 → V.heap[k]? = (w.alloc (.cells #[.string x] 9)).heap[k]? := fun a b => hg.block _ (Array.getElem?_eq_some_iff.1 a).1 (own_ne h1.ow a b)
  obtain ⟨N, hm⟩ := h1.map
  refine ⟨⟨N, hm.kept (hg.block M hm.lt fun e => ?_)⟩, (hc h1.met (by decide)).trans h1.met, own_at h1.wr fun k e => ?_, ?_⟩
  · obtain ⟨c', e2⟩ := own_type h1.ow e.symm
    exact hm.notCells e2
  · obtain ⟨c', e2⟩ := own_type h1.wr e
    exact hc e2 (by decide)
  · have e : (out ++ [x.data.toList]).map encStr = out.map encStr ++ [.string x] := by rw [List.map_append]; simp [encStr]
    rw [e, List.length_append, List.length_singleton]; exact hr
end

theorem wrap_small {m : Nat} (h : m ≤ 1000) : wrap64 ((m : Int) + 1) = (m : Int) + 1 := by unfold wrap64; omega

/-- What All answers. -/
def AllP (w : World) (hs : List Hd) (a : Txt) (e : Ending) (w' : World) : Prop := ∃ v out, e = .returned v ∧ LiesS w' v out ∧ IsAll hs a out ∧ Old w w'

def AL (w : World) (hs : List Hd) (a : Txt) (M : Nat) (ks : List Txt) (gM n p m : Nat) (wv ov : Value) (wr : World) : Prop :=
  ∃ way out, AS w.heap.size wr M ks (idxF hs) gM n way wv way ov out ∧ Go1 hs a p m way out ∧ Old w wr

/-- within a round: the place gone from is i -/
def ALi (w : World) (hs : List Hd) (a : Txt) (M : Nat) (ks : List Txt) (gM n p i m : Nat) (wv ov : Value) (wr : World) : Prop :=
  ∃ way out, AS w.heap.size wr M ks (idxF hs) gM n way wv way ov out ∧ Go1 hs a p m way out ∧ Old w wr ∧ p < way.length ∧ way.getD p 0 = i

theorem as_start {B n f0 M N : Nat} {w1 : World} {ks : List Txt} {f : Txt → Int} (hm : MapI w1 M N ks f) (hB : B ≤ w1.heap.size) (hf : f0 < n) :
    AS B ((w1.alloc (.cells ((Array.replicate n (.bool false)).setIfInBounds f0 (.bool true)) 4)).alloc (.cells #[.int .i64 (f0 : Int)] 3)) M ks f w1.heap.size n [f0] (.slice (some ⟨w1.heap.size + 1, 0, none⟩) 1 1) [f0] (.slice none 0 0) [] := by
  refine ⟨⟨N, hm.old (old2 _ _ _)⟩, ?_, ?_, World.ownsRow_nil _ _ _ _⟩
  · rw [h20]
    congr 2
    apply Array.toList_inj.1
    rw [Array.toList_setIfInBounds]
    have : (Array.replicate n (Value.bool false)).toList = metV n [] := by
      apply List.ext_getElem
      · simp [metV]
      · intro i h1 h2; simp [metV]
    rw [this]
    exact metV_set (mt := []) hf
  · have := World.ownsRow_lit (base := B) (e := 3) (size := 1) (w1.alloc (.cells ((Array.replicate n (.bool false)).setIfInBounds f0 (.bool true)) 4)) #[.int .i64 (f0 : Int)] 1 (by simp; omega) (by unfold maxLen; omega) (by simp)
    simpa [natV] using this

set_option maxRecDepth 20000 in
set_option maxHeartbeats 8000000 in
theorem all_walk (w : World) (v : Value) (hs : List Hd) (hv : LiesH w v hs) (hm : SmallH hs) (hd : (names hs).Nodup) (nm : ByteArray) (hnm : nm.size ≤ maxLen) : Calls Try.prog 14 #[v, .string nm] w (AllP w hs nm.data.toList) := by
  have H1 := mkHid hv
  have HM := mkHid hm
  have HD := mkHid hd
  have CP := mkHid (places_walk w v hs hv hm)
  obtain ⟨ao, cap, rfl, -⟩ := hv
  obtain ⟨n, hn⟩ : ∃ n, n = hs.length := ⟨_, rfl⟩
  have hl := hm.len
  rw [← hn] at hl CP ⊢
  have mk1 := make43 n (by omega)
  have HN := mkHid hn
  have HL := mkHid hl
  clear hn hl hm hd
  go_enter Try.func14, Try.ntmps14
  go_upto_region 2 with (go_at_call 25; (with_reducible refine CP.out.mono ?_); rintro e w1 ⟨M, N, ks, rfl, m1, m2, m3, m4⟩)
  have hlk := m1.run_look_ok nm hnm
  obtain ⟨q, hq⟩ : ∃ q, q = decide (nm.data.toList ∈ ks) := ⟨_, rfl⟩
  rw [← hq] at hlk
  have M1 := mkHid m1
  have M2 := mkHid m2
  have M3 := mkHid m3
  have M4 := mkHid m4
  have HQ := mkHid hq
  cases q
  · obtain ⟨at1, hat1⟩ : ∃ a, a = atK ks (fun x => ((names hs).idxOf x : Int)) nm.data.toList := ⟨_, rfl⟩
    rw [← hat1] at hlk
    clear m1 m2 m3 m4 hq hat1 CP mk1
    go_wp2
    go_ret
    refine ⟨_, [], rfl, ⟨none, 0, rfl, by simp, fun _ => rfl, fun a h => by cases h⟩, NeedsPlain.all_none ?_, M3.out⟩
    rw [← M2.out]
    simpa using HQ.out.symm
  · have hin : nm.data.toList ∈ names hs := by
      rw [← m2]
      simpa using hq.symm
    obtain ⟨f0, hf0⟩ : ∃ f0, f0 = (names hs).idxOf nm.data.toList := ⟨_, rfl⟩
    have hat1 : atK ks (fun x => ((names hs).idxOf x : Int)) nm.data.toList = (f0 : Int) := by
      unfold atK
      rw [if_pos (by simpa using hq.symm), hf0]
    rw [hat1] at hlk
    have hfl : f0 < hs.length := by rw [hf0]; exact (NeedsPlain.nm_idx hin).1
    have hfn : (f0 : Int) < (n : Int) := by have := HN.out; omega
    have hfa : nmAt hs f0 = nm.data.toList := by rw [hf0]; exact (NeedsPlain.nm_idx hin).2
    have HFL := mkHid hfl
    have HFA := mkHid hfa
    have hrep : Hid ((w1.alloc (.cells (Array.replicate n (.bool false)) 4)).cell? ⟨w1.heap.size, f0, none⟩ = some (.bool false)) := by
      show _ = _
      rw [cell_of_row _ _ f0 _ 4 (0, 0) (h10 _ _)]
      have : f0 < n := by omega
      simp [this]
    have hrc := hrep.out
    have hrf : (w1.alloc (.cells (Array.replicate n (.bool false)) 4)).frozen? ⟨w1.heap.size, f0, none⟩ = false := free_at (h10 _ _) f0
    clear m1 m2 m3 m4 hq hat1 CP hf0 hin hfl hfa
    go_wp2
    go_loopw [9, 10, 11] (fun wv ov i wr => ∃ p : Nat, i = .int .i64 (p : Int) ∧ Hid (AL w hs nm.data.toList M ks w1.heap.size n p 0 wv ov wr)) (fun _ _ i _ => n - (intOf i).toNat)
    case atStart =>
      refine ⟨0, rfl, mkHid ⟨_, _, as_start M1.out M3.out.size (by have := HN.out; have := HFL.out; omega), NeedsPlain.Go1.start HFL.out HFA.out, ?_⟩⟩
      exact M3.out.trans ((old2 _ _ _).mono M3.out.size)
    case round =>
      obtain ⟨p, rfl, HS⟩ := hrel
      obtain ⟨way, out, a1, a2, a3⟩ := HS.out
      have hwl := a2.len
      have hol := a2.olen
      rw [← HN.out] at hwl
      obtain ⟨wo, wc, rfl⟩ := own_shape a1.wr
      obtain ⟨oo, oc, rfl⟩ := own_shape a1.ow
      by_cases hp : p < way.length
      · have hr5 := a1.wr
        obtain ⟨gj, cj, e5, _, _⟩ := hr5.form (by omega)
        obtain rfl : wo = some ⟨gj, 0, none⟩ := by cases e5; rfl
        obtain rfl : wc = cj := by cases e5; rfl
        obtain ⟨i, hi⟩ : ∃ i, i = way.getD p 0 := ⟨_, rfl⟩
        have hcl : wr.cell? ⟨gj, p, none⟩ = some (.int .i64 (i : Int)) := by
          rw [hr5.cellAt p (by omega), hi]
          simp [hp, natV]
        have him : i ∈ way := by rw [hi, List.getD_eq_getElem?_getD, List.getElem?_eq_getElem hp]; exact List.getElem_mem hp
        have hil := a2.lt i him
        obtain ⟨b1, o1, c1, e1, _, hat⟩ := H1.out.form (by omega)
        obtain rfl : ao = some ⟨b1, o1, none⟩ := by cases e1; rfl
        obtain ⟨tg, nv, hr0, hlv⟩ := hat i hil
        have hr := range_old hr0 a3
        have hnv0 : wr.cell? ⟨b1, o1 + i * 3 + 2, none⟩ = some nv := hr 2 _ rfl
        obtain ⟨nd, hnd⟩ : ∃ nd, nd = ndAt hs i := ⟨_, rfl⟩
        have hlv2 : LiesS w nv nd := by rw [hnd]; exact hlv
        have hndl : nd.length ≤ 1000 := by rw [hnd]; exact nd_le HM.out i
        obtain ⟨no, nc, hnv, _, _, _⟩ := hlv2
        subst hnv
        obtain ⟨m0, hm0⟩ : ∃ m0, m0 = nd.length := ⟨_, rfl⟩
        rw [← hm0] at hnv0
        have hlv3 : LiesS w (.slice no m0 nc) nd := by rw [hm0, hnd]; rw [hnd] at hlv; exact hlv
        obtain ⟨wl, hwle⟩ : ∃ wl, wl = way.length := ⟨_, rfl⟩
        obtain ⟨ol, hole⟩ : ∃ ol, ol = out.length := ⟨_, rfl⟩
        rw [← hwle] at hwl hp ⊢
        rw [← hole]
        have hpw : (p : Int) < (wl : Int) := by omega
        have hin : (i : Int) < (n : Int) := by have := HN.out; omega
        have hpi : (p : Int) ≤ 1000 := by have := HL.out; omega
        have A1 := mkHid a1
        have A2 := mkHid a2
        have A3 := mkHid a3
        have HI := mkHid hi
        have HIL := mkHid hil
        have HND := mkHid hnd
        have HNDL := mkHid hndl
        have HM0 := mkHid hm0
        have HLV := mkHid hlv3
        have HWLE := mkHid hwle
        have HOLE := mkHid hole
        have HPL : Hid (p < way.length) := by show _; rw [← hwle]; exact hp
        have hbound : n - (p + 1) < n - p := by omega
        have HB9 := mkHid hbound
        clear a1 a2 a3 hr5 e5 hi him hil e1 hat hr0 hlv hr hnd hndl hm0 hlv3 hwle hole hol HS hbound hrc hrf hlk mk1 hfn
        go_wp2
        go_loopw [9, 10, 49] (fun wv ov u wr => ∃ m : Nat, m ≤ m0 ∧ u = .int .i64 (m : Int) ∧ Hid (ALi w hs nm.data.toList M ks w1.heap.size n p i m wv ov wr)) (fun _ _ u _ => m0 - (intOf u).toNat)
        case atStart => exact ⟨0, by omega, rfl, mkHid ⟨way, out, by have h := A1.out; rw [← HWLE.out, ← HOLE.out] at h; exact h, A2.out, A3.out, HPL.out, HI.out.symm⟩⟩
        case round =>
          obtain ⟨m, hmm, rfl, HS4⟩ := hrel
          obtain ⟨way4, out4, c1, c2, c3, c4, c5⟩ := HS4.out
          by_cases hml : m < m0
          · have hmd : m < nd.length := by rw [← HM0.out]; exact hml
            obtain ⟨b2, o2, c6, e4, _, hat4⟩ := (HLV.out.old c3).form (by omega)
            rw [← HM0.out] at e4
            obtain rfl : no = some ⟨b2, o2, none⟩ := by cases e4; rfl
            obtain ⟨x, hx⟩ : ∃ x, x = str (nd.getD m []) := ⟨_, rfl⟩
            have hcx : wr.cell? ⟨b2, o2 + m, none⟩ = some (.string x) := by rw [hx]; exact hat4 m hmd
            have hxl : x.data.toList = (ndAt hs (way4.getD p 0)).getD m [] := by rw [hx, c5, ← HND.out]; rfl
            have hxsz : x.size ≤ maxLen := by
              have := NeedsPlain.getD_in hmd
              rw [HND.out] at this
              have := HM.out.nn _ (NeedsPlain.nm_mem HIL.out) _ this
              rw [hx, str_size, HND.out]; unfold maxLen; omega
            have hmd2 : m < (ndAt hs (way4.getD p 0)).length := by rw [c5, ← HND.out]; exact hmd
            obtain ⟨N4, m4⟩ := c1.map
            have hlk := m4.run_look_ok x hxsz
            obtain ⟨qb, hqb⟩ : ∃ qb, qb = decide (x.data.toList ∈ ks) := ⟨_, rfl⟩
            rw [← hqb] at hlk
            have hmk : (m : Int) < (m0 : Int) := by omega
            have hwm : wrap64 ((m : Int) + 1) = (m : Int) + 1 := wrap_small (Nat.le_trans (Nat.le_of_lt hmd) HNDL.out)
            have hwl4 := c2.len
            have hol4 := c2.olen
            rw [← HN.out] at hwl4
            obtain ⟨wl4, hwle4⟩ : ∃ wl, wl = way4.length := ⟨_, rfl⟩
            obtain ⟨ol4, hole4⟩ : ∃ ol, ol = out4.length := ⟨_, rfl⟩
            have HWM := mkHid hwm
            have HQB := mkHid hqb
            have HXL := mkHid hxl
            have HMD := mkHid hmd2
            have C1 := mkHid c1
            have C2 := mkHid c2
            have C3 := mkHid c3
            have C4 := mkHid c4
            have C5 := mkHid c5
            cases qb
            · obtain ⟨at1, hat1⟩ : ∃ a, a = atK ks (idxF hs) x.data.toList := ⟨_, rfl⟩
              rw [← hat1] at hlk
              have hno : (ndAt hs (way4.getD p 0)).getD m [] ∉ names hs := by
                rw [← hxl, ← M2.out]
                simpa using hqb.symm
              have HNO := mkHid hno
              clear hwm hqb hxl hmd2 c1 c2 c3 c4 c5 m4 hat1 hx hxsz hat4 e4 hmd HS4 hno hwl4 hol4 hwle4 hole4
              go_wp2
              go_roundw
              case rel => exact ⟨m + 1, by omega, by rw [HWM.out]; rfl, mkHid ⟨way4, out4, C1.out, C2.out.skip HMD.out (fun h => absurd h HNO.out), C3.out, C4.out, C5.out⟩⟩
              case measure => rw [HWM.out]; exact meas hml
            · have hin : (ndAt hs (way4.getD p 0)).getD m [] ∈ names hs := by
                rw [← hxl, ← M2.out]
                simpa using hqb.symm
              obtain ⟨j, hj⟩ : ∃ j, j = (names hs).idxOf ((ndAt hs (way4.getD p 0)).getD m []) := ⟨_, rfl⟩
              have hjl : j < hs.length := by rw [hj]; exact (NeedsPlain.nm_idx hin).1
              have hat1 : atK ks (idxF hs) x.data.toList = (j : Int) := by
                unfold atK
                rw [if_pos (by simpa using hqb.symm), hj, ← hxl]; rfl
              rw [hat1] at hlk
              have hjn0 : j < n := by rw [HN.out]; exact hjl
              have hjn : (j : Int) < (n : Int) := by omega
              obtain ⟨mb, hmb⟩ : ∃ mb, mb = decide (j ∈ way4) := ⟨_, rfl⟩
              have hcm : wr.cell? ⟨w1.heap.size, j, none⟩ = some (.bool mb) := by
                rw [cell_of_row _ _ j _ 4 (0, 0) c1.met, hmb]
                have := metV_at (mt := way4) hjn0
                simpa using this
              have hfm := free_at c1.met j
              have HMB := mkHid hmb
              have HIN := mkHid hin
              have HJ := mkHid hj
              have HJN := mkHid hjn0
              cases mb
              · obtain ⟨wo4, wc4, rfl⟩ := own_shape c1.wr
                obtain ⟨oo4, oc4, rfl⟩ := own_shape c1.ow
                have hno : (names hs).idxOf ((ndAt hs (way4.getD p 0)).getD m []) ∉ way4 := by rw [← hj]; simpa using hmb.symm
                have HNO := mkHid hno
                rw [← hwle4, ← hole4]
                have HWL4 : Hid (wl4 ≤ 1000) := mkHid (by have := HL.out; omega)
                have HOL4 : Hid (ol4 ≤ 1000) := mkHid (by have := HL.out; omega)
                have HWLE4 := mkHid hwle4
                have HOLE4 := mkHid hole4
                obtain ⟨i3, hi3, z30, z31, z32⟩ := info_parts Try.inf3
                obtain ⟨i9, hi9, z90, z91, z92⟩ := info_parts Try.inf9
                have K1 : Hid (AS w.heap.size (wr.setCell ⟨w1.heap.size, j, none⟩ (.bool true)) M ks (idxF hs) w1.heap.size n (way4 ++ [j]) (.slice wo4 wl4 wc4) way4 (.slice oo4 ol4 oc4) out4) := by
                  rw [hwle4, hole4]; exact c1.mark hjn0
                have KO1 : Hid (Old w (wr.setCell ⟨w1.heap.size, j, none⟩ (.bool true))) := c3.setCell (by show w.heap.size ≤ w1.heap.size; exact M3.out.size) _
                clear hwm hqb hxl hmd2 c1 c2 c3 c4 c5 m4 hat1 hx hxsz hat4 e4 hmd HS4 hin hj hjl hjn0 hmb hno hwl4 hol4 hwle4 hole4
                go_upto_region 18 with (fail)
                obtain ⟨w4, hw4⟩ : ∃ w4, w4 = wr.setCell ⟨w1.heap.size, j, none⟩ (.bool true) := ⟨_, rfl⟩
                rw [← hw4] at K1 KO1 ⊢
                clear hw4 hcm hfm
                go_wp2_with (first
                  | ((with_reducible refine at_op (.call { callee := .builtin .append, args := #[.tmp 70, .tmp 72], argTypes := #[37, 37] }) ?_)
                     have hrow : w4.ownsRow w.heap.size 3 1 (.slice wo4 wl4 wc4) wl4 (way4.map natV) := by have := K1.out.wr; rw [← HWLE4.out] at this; exact this
                     refine wpList_append_lies _ rfl (.tmp 70) (.tmp 72) 37 rfl w.heap.size 3 i3 (.int .i64 0) 1 8 Try.under37 hi3 z30 z31 z32 rfl (by decide) _ wl4 (way4.map natV) rfl (hrow.alloc _) ⟨w4.heap.size, 0, none⟩ 1 1 [natV j] rfl rfl (cell_one_new _ _ _) (by simp [Value.oneCell', natV]) (by decide) (by have := HWL4.out; unfold maxLen; omega) (by have := HWL4.out; omega) (by have := KO1.out.size; simp; omega) _ rfl ?_
                     intro g5 cap5 w5 hown hgrow hat hlt5
                     have K2 : Hid (AS w.heap.size w5 M ks (idxF hs) w1.heap.size n (way4 ++ [j]) (.slice (some ⟨g5, 0, none⟩) (wl4 + 1) cap5) (way4 ++ [j]) (.slice oo4 ol4 oc4) out4) := by
                       have h9 := K1.out
                       rw [HWLE4.out] at hown h9 hgrow ⊢
                       exact h9.goes hown hgrow
                     have KO2 : Hid (Old w w5) := (KO1.out.trans ((Below.refl w.heap.size _).alloc KO1.out.size _)).trans ((Below.refl _ _).grown hgrow (by have := KO1.out.size; simp; omega) (fun k9 e => (hrow.lt k9 e).1))
                     clear hown hgrow hat hlt5 hrow)
                  | ((with_reducible refine at_op (.call { callee := .builtin .append, args := #[.tmp 74, .tmp 76], argTypes := #[22, 22] }) ?_)
                     have hrow : w5.ownsRow w.heap.size 9 1 (.slice oo4 ol4 oc4) ol4 (out4.map encStr) := by have := K2.out.ow; rw [← HOLE4.out] at this; exact this
                     refine wpList_append_lies _ rfl (.tmp 74) (.tmp 76) 22 rfl w.heap.size 9 i9 (.string ⟨#[]⟩) 1 16 Try.underlying22s hi9 z90 z91 z92 rfl (by decide) _ ol4 (out4.map encStr) rfl (hrow.alloc _) ⟨w5.heap.size, 0, none⟩ 1 1 [.string x] rfl rfl (cell_one_new _ _ _) (by simp [Value.oneCell']) (by decide) (by have := HOL4.out; unfold maxLen; omega) (by have := HOL4.out; omega) (by have := KO2.out.size; simp; omega) _ rfl ?_
                     intro g6 cap6 w6 hown hgrow hat hlt6
                     have K3 : Hid (AS w.heap.size w6 M ks (idxF hs) w1.heap.size n (way4 ++ [j]) (.slice (some ⟨g5, 0, none⟩) (wl4 + 1) cap5) (way4 ++ [j]) (.slice (some ⟨g6, 0, none⟩) (ol4 + 1) cap6) (out4 ++ [x.data.toList])) := by
                       have h9 := K2.out
                       rw [HOLE4.out] at hown h9 hgrow ⊢
                       exact h9.says hown hgrow
                     have KO3 : Hid (Old w w6) := (KO2.out.trans ((Below.refl w.heap.size _).alloc KO2.out.size _)).trans ((Below.refl _ _).grown hgrow (by have := KO2.out.size; simp; omega) (fun k9 e => (hrow.lt k9 e).1))
                     clear hown hgrow hat hlt6 hrow))
                go_roundw
                case rel =>
                  refine ⟨m + 1, by omega, by rw [HWM.out]; rfl, mkHid ⟨way4 ++ [j], out4 ++ [x.data.toList], K3.out, ?_, KO3.out, by have := C4.out; simp; omega, ?_⟩⟩
                  · rw [HXL.out, HJ.out]
                    exact C2.out.put HD.out C4.out HMD.out HIN.out HNO.out
                  · rw [NeedsPlain.getD_app C4.out]; exact C5.out
                case measure => rw [HWM.out]; exact meas hml
              · have hyes : (names hs).idxOf ((ndAt hs (way4.getD p 0)).getD m []) ∈ way4 := by rw [← hj]; simpa using hmb.symm
                have HYES := mkHid hyes
                clear hwm hqb hxl hmd2 c1 c2 c3 c4 c5 m4 hat1 hx hxsz hat4 e4 hmd HS4 hin hj hjl hjn0 hmb hyes hwl4 hol4 hwle4 hole4
                go_wp2
                go_roundw
                case rel => exact ⟨m + 1, by omega, by rw [HWM.out]; rfl, mkHid ⟨way4, out4, C1.out, C2.out.skip HMD.out (fun _ => HYES.out), C3.out, C4.out, C5.out⟩⟩
                case measure => rw [HWM.out]; exact meas hml
          · obtain rfl : m = m0 := by omega
            obtain ⟨wo4, wc4, rfl⟩ := own_shape c1.wr
            obtain ⟨oo4, oc4, rfl⟩ := own_shape c1.ow
            have hend : Hid (AL w hs nm.data.toList M ks w1.heap.size n (p + 1) 0 (.slice wo4 way4.length wc4) (.slice oo4 out4.length oc4) wr) := by
              rw [HM0.out, HND.out, ← c5] at c2
              exact ⟨way4, out4, c1, c2.next HD.out c4, c3⟩
            obtain ⟨wl4, hwle4⟩ : ∃ wl, wl = way4.length := ⟨_, rfl⟩
            obtain ⟨ol4, hole4⟩ : ∃ ol, ol = out4.length := ⟨_, rfl⟩
            rw [← hwle4, ← hole4] at hend
            rw [← hwle4, ← hole4]
            clear hwle4 hole4
            have hwp : wrap64 ((p : Int) + 1) = (p : Int) + 1 := wrap_small (by omega)
            have HWP := mkHid hwp
            clear c1 c2 c3 c4 c5 HS4 hwp
            go_wp2
            go_roundw
            case rel => exact ⟨p + 1, by first | rfl | (rw [HWP.out]; rfl), hend⟩
            case measure =>
              first | rw [HWP.out] | skip
              show n - ((p : Int) + 1).toNat < n - (p : Int).toNat
              have := HB9.out
              omega
      · have hrow := a1.ow
        have HS2 := mkHid (sorts_own hrow (by have := HL.out; omega))
        obtain ⟨ol, hole⟩ : ∃ ol, ol = out.length := ⟨_, rfl⟩
        rw [← hole] at HS2 ⊢
        obtain ⟨wl, hwle⟩ : ∃ wl, wl = way.length := ⟨_, rfl⟩
        rw [← hwle] at hwl hp ⊢
        have hpw : (wl : Int) ≤ (p : Int) := by omega
        have hdone : Hid (IsAll hs nm.data.toList (out.mergeSort fun x y => decide (x ≤ y))) := NeedsPlain.all_sorted (a2.onod HD.out) (a2.done (by omega))
        have A3 := mkHid a3
        have HOL := mkHid hole
        clear a1 a2 a3 hrow hole hol HS hwle hrc hrf hlk mk1 hfn
        go_wp2_with (first | (go_at_call 30; (with_reducible refine HS2.out.mono ?_); rintro e w9 ⟨rfl, s1, s2⟩; have S1 := mkHid s1; have S2 := mkHid s2; clear s1 s2))
        go_ret
        refine ⟨_, _, rfl, lies_own ?_ S1.out, hdone.out, A3.out.trans S2.out⟩
        rw [List.length_mergeSort, HOL.out]
end Go.Proofs.Ytcogeebfldlpoaa
