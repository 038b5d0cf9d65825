/-
  huff.Table.deal: the codes given out, from the shortest on.
-/
import Derived.Test.YtdokpimhhkbdbaaDoorCb
import Derived.Deep.MidRow
set_option linter.unusedSimpArgs false
set_option linter.unusedVariables false
namespace Go.Proofs.YtdokpimhhkbdbaaDoor
open Go.RowKit

/-- The sign j has its code, when all of fewer than L digits, and those of L digits ahead of the sign i, are dealt. -/
abbrev Dealt (l : List Nat) (L i j : Nat) : Prop := 0 < nth l j ∧ (nth l j < L ∨ nth l j = L ∧ j < i)

structure Ent (c : Array Value) (l : List Nat) (L i : Nat) : Prop where
  size : c.size = 2 * l.length
  dig : ∀ j, j < l.length → c[2 * j]? = some (natV (if Dealt l L i j then code l j else 0))
  len : ∀ j, j < l.length → c[2 * j + 1]? = some (natV (if Dealt l L i j then nth l j else 0))

theorem Ent.skip {c : Array Value} {l : List Nat} {L i : Nat} (h : Ent c l L i) (hn : nth l i ≠ L) : Ent c l L (i + 1) := by
  have e : ∀ j, Dealt l L (i + 1) j ↔ Dealt l L i j := fun j => by
    unfold Dealt
    by_cases hj : j = i
    · subst hj; omega
    · omega
  exact ⟨h.size, fun j hj => by simp only [e]; exact h.dig j hj, fun j hj => by simp only [e]; exact h.len j hj⟩

theorem Ent.put {c : Array Value} {l : List Nat} {L i : Nat} (h : Ent c l L i) (hi : i < l.length) (hn : nth l i = L) (hL : 0 < L) :
    Ent ((c.setIfInBounds (2 * i) (natV (base l L + rank l L i))).setIfInBounds (2 * i + 1) (natV L)) l L (i + 1) := by
  have e : ∀ j, j ≠ i → (Dealt l L (i + 1) j ↔ Dealt l L i j) := fun j hj => by unfold Dealt; omega
  have ei : Dealt l L (i + 1) i := ⟨by omega, .inr ⟨hn, by omega⟩⟩
  have hs := h.size
  refine ⟨by simpa using hs, fun j hj => ?_, fun j hj => ?_⟩
  · rw [Array.getElem?_setIfInBounds_ne (by omega)]
    by_cases hji : j = i
    · subst hji
      have : 2 * j < c.size := by omega
      rw [if_pos ei, Array.getElem?_setIfInBounds]
      simp [this, code, hn]
    · rw [Array.getElem?_setIfInBounds_ne (by omega), h.dig j hj]
      simp only [e j hji]
  · by_cases hji : j = i
    · subst hji
      have : 2 * j + 1 < c.size := by omega
      rw [if_pos ei, Array.getElem?_setIfInBounds]
      simp [this, hn]
    · rw [Array.getElem?_setIfInBounds_ne (by omega), Array.getElem?_setIfInBounds_ne (by omega), h.len j hj]
      simp only [e j hji]

theorem Ent.next {c : Array Value} {l : List Nat} {L : Nat} (h : Ent c l L l.length) : Ent c l (L + 1) 0 := by
  have e : ∀ j, j < l.length → (Dealt l (L + 1) 0 j ↔ Dealt l L l.length j) := fun j hj => by unfold Dealt; omega
  exact ⟨h.size, fun j hj => by simp only [e j hj]; exact h.dig j hj, fun j hj => by simp only [e j hj]; exact h.len j hj⟩

/-- The table's memory while it is dealt. -/
structure Deal (B : Nat) (w0 w : World) (tb cb : Nat) (l : List Nat) (L i : Nat) (sg : List Nat) : Prop where
  mem : ∃ v c, w.heap[tb]? = some (.cells (#[.slice (some ⟨cb, 0, none⟩) l.length l.length, v] ++ cells16 (cn l)) 100 (0, 0)) ∧ w.heap[cb]? = some (.cells c 102 (0, 0)) ∧ Ent c l L i ∧ w.ownsRow B 3 1 v sg.length (sg.map natV)
  lot : B ≤ tb
  loc : B ≤ cb
  below : Below B w0 w

theorem Tryd.infi3 : (Tryd.prog.info? 3).map (fun i => (i.zero, i.size, i.bytes)) = some (some (.int .i64 0), 1, 8) := by kernel_rfl
theorem Tryd.info69 : (Tryd.prog.info? 102).map (·.size) = some 2 := by kernel_rfl

theorem owns_ne3 {w : World} {B p n : Nat} {v : Value} {xs : List Value} {c : Array Value} {t : TypeId} (h : w.ownsRow B 3 1 v n xs) (hp : w.heap[p]? = some (.cells c t (0, 0))) (ht : t ≠ 3) : v.ownBlock ≠ some p := by
  rcases h.2 with ⟨rfl, _⟩ | ⟨g, cap, cur, rfl, _, hg, _⟩
  · simp [Value.ownBlock]
  · simp only [Value.ownBlock, ne_eq, Option.some.injEq]
    rintro rfl
    rw [hg] at hp
    simp at hp
    exact ht hp.2.symm

theorem Tryd.under26 : Tryd.prog.underlying 37 = some (.slice 3) := by kernel_rfl

theorem ord_sig_le {l : List Nat} (k s : Nat) (hk : 0 < k) (hk2 : k ≤ 16) (hs : s < l.length) : (ord l k ++ sig l k s).length ≤ 17 * l.length := by
  rw [List.length_append, ord_length, sig_length k (by omega)]
  have h1 : ∀ m, sho l m ≤ m * l.length := by
    intro m
    induction m with
    | zero => simp [sho]
    | succ m ih => have := cn_le (l := l) m; simp only [sho, Nat.add_mul]; omega
  have h2 := h1 k
  have h3 : rank l k s ≤ l.length := by unfold rank; exact Nat.le_trans List.count_le_length (by rw [List.length_take]; omega)
  have h4 : k * l.length ≤ 16 * l.length := Nat.mul_le_mul_right _ hk2
  omega

theorem agg2_one (a b : Int) : (#[Value.int .i64 a, Value.int .i64 b]).all (·.oneCell') = true := by simp [Value.oneCell']

/-- A slice of lengths that can be read. -/
def Lens (w : World) (v : Value) (l : List Nat) : Prop :=
  ∃ ao cap, v = .slice ao l.length cap ∧ l.length ≤ cap ∧ (ao = none → cap = 0) ∧ ∀ a, ao = some a → ∀ j, j < l.length → w.cell? (a.add j) = some (.int .i64 (nth l j : Nat))

theorem Lens.old {w w' : World} {v : Value} {l : List Nat} (h : Lens w v l) (hb : Below w.heap.size w w') : Lens w' v l := by
  obtain ⟨ao, cap, h1, h2, h3, h4⟩ := h
  exact ⟨ao, cap, h1, h2, h3, fun a ha j hj => cell_old hb (h4 a ha j hj)⟩

theorem lens_of {w : World} {v : Value} {zs : List Int} (h : Ints w v zs) (hm : May zs) : Lens w v (zs.map Int.toNat) := by
  obtain ⟨ao, cap, h1, h2, h3, h4⟩ := h
  refine ⟨ao, cap, by rw [List.length_map]; exact h1, by rw [List.length_map]; exact h2, h3, fun a ha j hj => ?_⟩
  rw [List.length_map] at hj
  rw [h4 a ha j hj, nth_map]
  have := hm (zs[j]) (List.getElem_mem hj)
  have e : zs.getD j 0 = zs[j] := by simp [hj]
  rw [e, Int.toNat_of_nonneg this.1]

theorem rank_le_cn {l : List Nat} (L s : Nat) (hL : 0 < L) : rank l L s ≤ cn l L := by
  have h0 : L ≠ 0 := by omega
  simp only [cn, h0, ↓reduceIte]
  unfold rank
  exact (List.take_sublist _ _).count_le _

theorem Deal.step {B tb cb : Nat} {w0 w : World} {l : List Nat} {L i : Nat} {sg : List Nat} (h : Deal B w0 w tb cb l L i sg) (hn : nth l i ≠ L) : Deal B w0 w tb cb l L (i + 1) sg := by
  obtain ⟨⟨v, c, h1, h2, h3, h4⟩, r1, r2, r3⟩ := h
  exact ⟨⟨v, c, h1, h2, h3.skip hn, h4⟩, r1, r2, r3⟩

theorem Deal.next {B tb cb : Nat} {w0 w : World} {l : List Nat} {L : Nat} {sg : List Nat} (h : Deal B w0 w tb cb l L l.length sg) : Deal B w0 w tb cb l (L + 1) 0 sg := by
  obtain ⟨⟨v, c, h1, h2, h3, h4⟩, r1, r2, r3⟩ := h
  exact ⟨⟨v, c, h1, h2, h3.next, h4⟩, r1, r2, r3⟩

theorem at0 (a v : Value) (X : Array Value) : (#[a, v] ++ X)[0]? = some a := by simp [Array.getElem?_append]
theorem at1 (a v : Value) (X : Array Value) : (#[a, v] ++ X)[1]? = some v := by simp [Array.getElem?_append]
theorem at2 (a v : Value) (X : Array Value) (k : Nat) : (#[a, v] ++ X)[2 + k]? = X[k]? := by
  have h : ¬ 2 + k < 2 := by omega
  simp [Array.getElem?_append, h]

theorem set_second (a v u : Value) (X : Array Value) : (#[a, v] ++ X).setIfInBounds 1 u = #[a, u] ++ X := by
  apply Array.ext'
  simp [Array.toList_setIfInBounds]

theorem blocks_ne {w : World} {a b : Nat} {c d : Array Value} {t u : TypeId} (h : w.heap[a]? = some (.cells c t (0, 0))) (h2 : w.heap[b]? = some (.cells d u (0, 0))) (hn : t ≠ u) : a ≠ b := by
  rintro rfl
  rw [h] at h2
  simp at h2
  exact hn h2.2

theorem Deal.put {B tb cb : Nat} {w0 w : World} {l : List Nat} {L i : Nat} {sg : List Nat} (h : Deal B w0 w tb cb l L i sg) (hi : i < l.length) (hn : nth l i = L) (hL : 0 < L) (z : Nat) (hz : z = base l L + rank l L i) :
    Deal B w0 (w.setCells cb (i * 2) [.int .i64 (z : Int), .int .i64 (L : Int)]) tb cb l L (i + 1) sg := by
  obtain ⟨⟨v, c, h1, h2, h3, h4⟩, r1, r2, r3⟩ := h
  have hne := blocks_ne h1 h2 (by decide)
  have e1 := row_setCell h2 (i * 2) (natV z)
  have e2 := row_setCell e1 (i * 2 + 1) (natV L)
  refine ⟨⟨v, _, ?_, e2, ?_, ?_⟩, r1, r2, ?_⟩
  · show ((w.setCell ⟨cb, i * 2, none⟩ _).setCell ⟨cb, i * 2 + 1, none⟩ _).heap[tb]? = _
    rw [Below.heap_setCell _ _ _ _ hne, Below.heap_setCell _ _ _ _ hne]
    exact h1
  · have := h3.put hi hn hL
    rw [← hz, Nat.mul_comm 2 i] at this
    exact this
  · have o1 := ownsRow_setCell_other h4 (a := ⟨cb, i * 2, none⟩) (owns_ne3 h4 h2 (by decide)) (natV z)
    exact ownsRow_setCell_other o1 (a := ⟨cb, i * 2 + 1, none⟩) (owns_ne3 h4 h2 (by decide)) (natV L)
  · exact (r3.setCell (p := ⟨cb, i * 2, none⟩) r2 _).setCell (p := ⟨cb, i * 2 + 1, none⟩) r2 _

theorem Deal.push {B tb cb : Nat} {w0 w : World} {l : List Nat} {L i : Nat} {sg : List Nat} {v v' : Value} {c : Array Value} (s : Nat)
    (ht : w.heap[tb]? = some (.cells (#[.slice (some ⟨cb, 0, none⟩) l.length l.length, v] ++ cells16 (cn l)) 100 (0, 0))) (hcb : w.heap[cb]? = some (.cells c 102 (0, 0))) (hE : Ent c l L i)
    (hown : w.ownsRow B 3 1 v' (sg.length + 1) (sg.map natV ++ [natV s])) (r1 : B ≤ tb) (r2 : B ≤ cb) (r3 : Below B w0 w) : Deal B w0 (w.setCell ⟨tb, 1, none⟩ v') tb cb l L i (sg ++ [s]) := by
  have hne := blocks_ne ht hcb (by decide)
  have e1 := row_setCell ht 1 v'
  rw [set_second] at e1
  refine ⟨⟨v', c, e1, ?_, hE, ?_⟩, r1, r2, r3.setCell (p := ⟨tb, 1, none⟩) r1 _⟩
  · rw [Below.heap_setCell _ _ _ _ hne.symm]; exact hcb
  · rw [List.length_append, List.map_append]
    exact ownsRow_setCell_other hown (a := ⟨tb, 1, none⟩) (owns_ne3 hown ht (by decide)) _

set_option maxRecDepth 100000 in
set_option maxHeartbeats 2000000 in
theorem deal_walk (B tb cb : Nat) (w0 w : World) (v : Value) (l : List Nat) (hv : Lens w0 v l) (hB : B = w0.heap.size) (hl : l.length ≤ 320) (h15 : ∀ x ∈ l, x ≤ 15) (hf : Fits l)
    (hd : Deal B w0 w tb cb l 1 0 []) :
    Calls Tryd.prog 75 #[.pointer (some ⟨tb, 0, none⟩), v] w fun e w' => e = .returned (.tuple #[]) ∧ Deal B w0 w' tb cb l 16 0 (ord l 16) := by
  obtain ⟨ti, hi, hz0, hz1, hz2⟩ := info_parts Tryd.infi3
  obtain ⟨ao, cap, rfl, h2, h3, h4⟩ := hv
  have HB : Hid (B = w0.heap.size) := hB
  clear hB
  obtain ⟨N, hN⟩ : ∃ N, N = l.length := ⟨_, rfl⟩
  rw [← hN] at h2 h4 hl ⊢
  have HN : Hid (N = l.length) := hN
  clear hN
  have HI : Hid (Tryd.prog.info? 3 = some ti) := hi
  have HZ0 : Hid (ti.zero = some (.int .i64 0)) := hz0
  have HZ1 : Hid (ti.size = 1) := hz1
  have HZ2 : Hid (ti.bytes = 8) := hz2
  clear hi hz0 hz1 hz2
  go_enter Tryd.func75, Tryd.ntmps75
  go_wp2
  go_loopw [4, 5] (fun x L wr => ∃ k y : Nat, 1 ≤ k ∧ k ≤ 16 ∧ L = .int .i64 (k : Int) ∧ x = .int .i64 (y : Int) ∧ Hid (base l k = 2 * y) ∧ Deal B w0 wr tb cb l k 0 (ord l k)) (fun _ L _ => 16 - (intOf L).toNat)
  case atStart => exact ⟨1, 0, by omega, by omega, rfl, rfl, by simp [Hid, base, cn], by simpa [ord] using hd⟩
  case round =>
    obtain ⟨k, y, hk1, hk, rfl, rfl, HY, hD⟩ := hrel
    by_cases hkn : k ≤ 15
    · have hbk := base_le hf (n := k) (by omega)
      have hpk := pow_le15 (n := k) (by omega)
      have hy : 2 * y ≤ 32768 := by have := HY.out; omega
      have HBK : Hid (base l k + cn l k ≤ 32768) := by show _ ≤ _; omega
      clear hbk hpk
      go_wp2
      have hdk : decide ((k : Int) ≤ 15) = true := by simp; omega
      rw [hdk]
      clear hdk
      go_loopw [4, 16] (fun x i wr => ∃ s z : Nat, s ≤ N ∧ i = .int .i64 (s : Int) ∧ x = .int .i64 (z : Int) ∧ Hid (z = base l k + rank l k s) ∧ Deal B w0 wr tb cb l k s (ord l k ++ sig l k s)) (fun _ i _ => N - (intOf i).toNat)
      case atStart => exact ⟨0, 2 * y, by omega, rfl, by push_cast; congr 1; omega, by show _ = _; rw [HY.out, rank_zero, Nat.add_zero], by simpa [sig_zero] using hD⟩
      case round =>
        obtain ⟨s, z, hs, rfl, rfl, HZ, hE⟩ := hrel
        by_cases hsn : s < N
        · obtain ⟨A, rfl⟩ : ∃ A, ao = some A := by
            cases ao with
            | none => have := h3 rfl; omega
            | some A => exact ⟨A, rfl⟩
          have hc := cell_old (HB.out ▸ hE.below) (h4 A rfl s hsn)
          obtain ⟨x, hx⟩ : ∃ x, x = nth l s := ⟨_, rfl⟩
          rw [← hx] at hc
          have HXE : Hid (x = nth l s) := hx
          clear hx
          have hzl : z ≤ 32768 := by
            have := rank_le_cn (l := l) k s (by omega)
            have := HBK.out
            have := HZ.out
            omega
          by_cases hxk : x = k
          · have hxk' : ((x : Int) == (k : Int)) = true := by simp; omega
            have HSL : Hid (s < l.length) := by show _ < _; rw [← HN.out]; exact hsn
            have HNK : Hid (nth l s = k) := by show _ = _; rw [← HXE.out]; exact hxk
            have hP := hE.put HSL.out HNK.out (by omega) z HZ.out
            have hlo : (ord l k ++ sig l k s).length ≤ 5440 := by
              have := ord_sig_le (l := l) k s (by omega) hk HSL.out
              rw [← HN.out] at this
              omega
            obtain ⟨⟨sv, c, ht, hcb, hEnt, hown⟩, hlt, hlc, hbel⟩ := hE
            rw [← HN.out] at ht
            have hsize : c.size = 2 * N := by rw [HN.out]; exact hEnt.size
            have c0 : wr.cell? ⟨tb, 0, none⟩ = some (.slice (some ⟨cb, 0, none⟩) N N) := by rw [cell_of_row _ _ 0 _ _ _ ht, at0]
            have hthere : wr.there cb (s * 2) 2 := fun j hj => by
              rw [free_at hcb, cell_of_row _ _ _ _ _ _ hcb, Array.getElem?_eq_getElem (by omega)]
              exact ⟨rfl, rfl⟩
            have HT : Hid (wr.there cb (s * 2) 2) := hthere
            have HP : Hid (Deal B w0 (wr.setCells cb (s * 2) [.int .i64 (z : Int), .int .i64 (k : Int)]) tb cb l k (s + 1) (ord l k ++ sig l k s)) := hP
            obtain ⟨sg, hsg⟩ : ∃ sg, sg = ord l k ++ sig l k s := ⟨_, rfl⟩
            rw [← hsg] at HP hlo
            have HSG : Hid (sg = ord l k ++ sig l k s) := hsg
            clear hthere ht hcb hsize hsg hP hown hEnt
            go_wp2_with (first
              | (refine wpList_store_mid rfl 102 (.tmp 32) (.tmp 31) rfl cb (s * 2) #[.int .i64 (z : Int), .int .i64 (k : Int)] rfl rfl HT.out Tryd.info69 (agg2_one _ _) ?_
                 have HP2 := HP.out
                 clear HP HT hc c0
                 generalize wr.setCells cb (s * 2) [.int .i64 (z : Int), .int .i64 (k : Int)] = w1 at HP2 ⊢
                 obtain ⟨⟨sv1, c1, ht1, hcb1, hEnt1, hown1⟩, -, -, hbel1⟩ := HP2
                 have d1 : w1.cell? ⟨tb, 1, none⟩ = some sv1 := by rw [cell_of_row _ _ 1 _ _ _ ht1, at1]
                 have dl := lt_of_block ht1
                 have HT1 : Hid (w1.heap[tb]? = some (.cells (#[.slice (some ⟨cb, 0, none⟩) l.length l.length, sv1] ++ cells16 (cn l)) 100 (0, 0))) := ht1
                 have HC1 : Hid (w1.heap[cb]? = some (.cells c1 102 (0, 0))) := hcb1
                 clear ht1 hcb1)
              | (at_builtin; refine wpList_append_own _ rfl (.tmp 37) (.tmp 39) 37 rfl B 3 ti (.int .i64 0) 1 8 Tryd.under26 HI.out HZ0.out HZ1.out HZ2.out rfl (by decide) sv1 sg.length _ rfl (hown1.alloc _) ⟨w1.heap.size, 0, none⟩ 1 1 [.int .i64 (s : Int)] rfl rfl ?c1 ?c2 (by unfold maxLen; omega) (by omega) (by simp; omega) ?_))
            case c1 =>
              intro j u hj
              match j, hj with
              | 0, hj => simp at hj; subst hj; simp [Addr.add]
            case c2 => intro u hu; simp at hu; subst hu; rfl
            intro v' w2 hown2 hgrow _
            obtain ⟨g2, cap2, rfl⟩ : ∃ g' cap', v' = .slice (some ⟨g', 0, none⟩) (sg.length + 1) cap' := by
              rcases hown2.2 with ⟨_, h0⟩ | ⟨g', cap', cur', h, _⟩
              · omega
              · exact ⟨g', cap', h⟩
            have hbl := (((Below.refl B w1).alloc (by omega) (.cells #[.int .i64 (s : Int)] 3)).grown hgrow (by simp; omega) (fun k hk => (hown1.lt k hk).1))
            have ht2 : w2.heap[tb]? = some (.cells (#[.slice (some ⟨cb, 0, none⟩) l.length l.length, sv1] ++ cells16 (cn l)) 100 (0, 0)) := by
              rw [hgrow.block tb (by simp; omega) (fun h => owns_ne3 hown1 HT1.out (by decide) h.symm)]
              exact (Below.heap_alloc _ _ _ dl).trans HT1.out
            have hc2 : w2.heap[cb]? = some (.cells c1 102 (0, 0)) := by
              rw [hgrow.block cb (by have := lt_of_block HC1.out; simp; omega) (fun h => owns_ne3 hown1 HC1.out (by decide) h.symm)]
              exact (Below.heap_alloc _ _ _ (lt_of_block HC1.out)).trans HC1.out
            have hD2 : Hid (Deal B w0 (w2.setCell ⟨tb, 1, none⟩ (.slice (some ⟨g2, 0, none⟩) (sg.length + 1) cap2)) tb cb l k (s + 1) (sg ++ [s])) := Deal.push s ht2 hc2 hEnt1 hown2 hlt hlc (hbel1.trans hbl)
            have d2 : w2.cell? ⟨tb, 1, none⟩ = some sv1 := by rw [cell_of_row _ _ 1 _ _ _ ht2, at1]
            have z2 := free_at ht2 1
            clear ht2 hc2 hgrow hown2 hbl d1 hxk
            go_wp2
            go_roundw
            case rel =>
              refine ⟨s + 1, z + 1, by omega, by go_num, by go_num, ?_, ?_⟩
              · show _ = _
                rw [HZ.out, rank_succ _ HSL.out, if_pos HNK.out, Nat.add_assoc]
              · rw [sig_succ, if_pos HNK.out, ← List.append_assoc, ← HSG.out]
                exact hD2.out
            case measure => simp [intOf]; omega
          · have hxk' : ((x : Int) == (k : Int)) = false := by simp; omega
            have HNE : Hid (nth l s ≠ k) := by show _ ≠ _; rw [← HXE.out]; exact hxk
            have HSL : Hid (s < l.length) := by show _ < _; rw [← HN.out]; exact hsn
            clear hxk
            go_wp2
            go_roundw
            case rel =>
              refine ⟨s + 1, z, by omega, by go_num, rfl, ?_, ?_⟩
              · show _ = _
                rw [HZ.out, rank_succ _ HSL.out, if_neg HNE.out, Nat.add_zero]
              · rw [sig_succ, if_neg HNE.out, List.append_nil]
                exact hE.step HNE.out
            case measure => simp [intOf]; omega
        · have hss : s = N := by omega
          subst hss
          have hk0 : k ≠ 0 := by omega
          have HK0 : Hid (k ≠ 0) := hk0
          clear hk0
          go_wp2
          go_roundw
          case rel =>
            refine ⟨k + 1, z, by omega, by omega, by go_num, rfl, ?_, ?_⟩
            · show base l (k + 1) = 2 * z
              have e : z = base l k + cn l k := by
                rw [HZ.out, HN.out, rank_all]
                simp only [cn, HK0.out, ↓reduceIte]
              rw [e]; rfl
            · have e : ord l (k + 1) = ord l k ++ sig l k s := by
                simp only [ord, HK0.out, ↓reduceIte, HN.out]
              rw [e]
              rw [HN.out] at hE ⊢
              exact hE.next
          case measure => simp [intOf]; omega
    · have hkk : k = 16 := by omega
      subst hkk
      go_wp2
      go_end0
      exact ⟨rfl, hD⟩
end Go.Proofs.YtdokpimhhkbdbaaDoor
