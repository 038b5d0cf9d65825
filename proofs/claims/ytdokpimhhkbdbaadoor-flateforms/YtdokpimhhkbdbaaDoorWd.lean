/-
  Slices of bytes that can be read ('Lies'), Same, Clone, Bytes, wakes.
-/
import Derived.Test.YtdokpimhhkbdbaaDoorWc
import Derived.BigQuiet
import Derived.Laws.AppendOwnNone
set_option linter.unusedSimpArgs false
set_option linter.unusedVariables false
namespace Go.Proofs.YtdokpimhhkbdbaaDoor
open Go.RowKit

/-- The slice v reads as the bytes bs. -/
def Lies (w : World) (v : Value) (bs : List Nat) : Prop :=
  ∃ ao cap, v = .slice ao bs.length cap ∧ bs.length ≤ cap ∧ (ao = none → cap = 0) ∧ ∀ a, ao = some a → ∀ j u, (bs.map byteV)[j]? = some u → w.cell? (a.add j) = some u

theorem cell_lt {w : World} {a : Addr} {v : Value} (h : w.cell? a = some v) : a.block < w.heap.size := by
  rcases Nat.lt_or_ge a.block w.heap.size with h' | h'
  · exact h'
  · simp [World.cell?, Array.getElem?_eq_none h'] at h

theorem cell_old {w w' : World} {a : Addr} {v : Value} (hb : Below w.heap.size w w') (h : w.cell? a = some v) : w'.cell? a = some v :=
  (hb.cell (cell_lt h)).trans h

theorem Lies.old {w w' : World} {v : Value} {bs : List Nat} (h : Lies w v bs) (hb : Below w.heap.size w w') : Lies w' v bs := by
  obtain ⟨ao, cap, h1, h2, h3, h4⟩ := h
  exact ⟨ao, cap, h1, h2, h3, fun a ha j u hu => cell_old hb (h4 a ha j u hu)⟩

theorem lies_own {w : World} {B : Nat} {v : Value} {bs : List Nat} (h : w.ownsRow B 5 1 v bs.length (bs.map byteV)) : Lies w v bs := by
  have h0 := h
  rcases h.2 with ⟨rfl, hn⟩ | ⟨g, cap, cur, rfl, _, hg, hn, _⟩
  · exact ⟨none, 0, by rw [hn], by omega, fun _ => rfl, fun a ha => by cases ha⟩
  · refine ⟨_, cap, rfl, hn, fun h => (by cases h), fun a ha j u hu => ?_⟩
    cases ha
    exact h0.cells rfl j u hu

theorem lies_n {w : World} {B n : Nat} {v : Value} {bs : List Nat} (hn : bs.length = n) (h : w.ownsRow B 5 1 v n (bs.map byteV)) : Lies w v bs := by
  subst hn; exact lies_own h

theorem owns_old {w w' : World} {B : Nat} {v : Value} {n : Nat} {xs : List Value} (h : w.ownsRow B 5 1 v n xs) (hb : Below w.heap.size w w') : w'.ownsRow B 5 1 v n xs := by
  refine ⟨h.1, ?_⟩
  rcases h.2 with h2 | ⟨g, cap, cur, rfl, hB, hg, r⟩
  · exact .inl h2
  · exact .inr ⟨g, cap, cur, rfl, hB, by rw [hb.block g (lt_of_block hg)]; exact hg, r⟩

theorem Wr.old {B p : Nat} {w w' : World} {N t : Nat} (h : Wr B p w N t) (hb : Below w.heap.size w w') : Wr B p w' N t := by
  obtain ⟨v, bs, hp, hown, r⟩ := h
  exact ⟨v, bs, by rw [hb.block p (lt_of_block hp)]; exact hp, owns_old hown hb, r⟩

theorem byteV_inj {a b : Nat} : (byteV a = byteV b) ↔ a = b := by
  unfold byteV
  constructor
  · intro h; injection h with _ h; omega
  · rintro rfl; rfl

theorem Lies.at {w : World} {v : Value} {bs : List Nat} (h : Lies w v bs) (hn : 0 < bs.length) : ∃ a cap, v = .slice (some a) bs.length cap ∧ ∀ k, k < bs.length → w.cell? (a.add k) = some (.int .u8 (bs.getD k 0 : Nat)) := by
  obtain ⟨ao, cap, h1, h2, h3, h4⟩ := h
  cases ao with
  | none => have := h3 rfl; omega
  | some a => exact ⟨a, cap, h1, fun k hk => h4 a rfl k _ (by simp [hk, byteV])⟩

set_option maxHeartbeats 1000000 in
theorem same_walk (w : World) (u v : Value) (xs ys : List Nat) (hu : Lies w u xs) (hv : Lies w v ys) (hlen : xs.length = ys.length) (hl : xs.length ≤ 281474976710656) :
    Calls Tryd.prog 20 #[u, v] w fun e w' => e = .returned (.bool (decide (xs = ys))) ∧ Below w.heap.size w w' := by
  by_cases h0 : xs.length = 0
  · obtain ⟨ao, cap, rfl, _⟩ := hu
    obtain ⟨bo, cap', rfl, _⟩ := hv
    have e1 : xs = [] := List.length_eq_zero_iff.1 h0
    subst e1
    have e2 : ys = [] := List.length_eq_zero_iff.1 (by simpa using hlen.symm)
    subst e2
    go_enter Tryd.func20, Tryd.ntmps20
    go_wp2
    refine wp_loop_rounds 1 ?_
    rw [rounds_succ]
    go_wp2
    go_ret
    exact ⟨rfl, Below.refl _ _⟩
  obtain ⟨a, ca, rfl, hca⟩ := hu.at (by omega)
  obtain ⟨b, cb, rfl, hcb⟩ := hv.at (by omega)
  rw [← hlen] at hcb ⊢
  obtain ⟨n, hn⟩ : ∃ n, n = xs.length := ⟨_, rfl⟩
  rw [← hn] at hca hcb hl h0 ⊢
  have HN : Hid (n = xs.length ∧ n = ys.length) := ⟨hn, hn.trans hlen⟩
  clear hn hlen hu hv
  go_enter Tryd.func20, Tryd.ntmps20
  go_wp2
  go_loopw [5] (fun i wr => ∃ k : Nat, k ≤ n ∧ i = .int .i64 k ∧ (∀ j, j < k → xs.getD j 0 = ys.getD j 0) ∧ Below w.heap.size w wr) (fun i _ => n - (intOf i).toNat)
  case atStart => exact ⟨0, by omega, rfl, fun j hj => by omega, Below.refl _ _⟩
  case round =>
    obtain ⟨k, hk, rfl, hall, hb⟩ := hrel
    have HA : Hid (∀ j, j < k → xs.getD j 0 = ys.getD j 0) := hall
    clear hall
    by_cases hkn : k < n
    · have ha' := cell_old hb (hca k hkn)
      have hb' := cell_old hb (hcb k hkn)
      obtain ⟨x, hx⟩ : ∃ x, x = xs.getD k 0 := ⟨_, rfl⟩
      obtain ⟨y, hy⟩ : ∃ y, y = ys.getD k 0 := ⟨_, rfl⟩
      rw [← hx] at ha'
      rw [← hy] at hb'
      have HX : Hid (x = xs.getD k 0) := hx
      have HY : Hid (y = ys.getD k 0) := hy
      clear hx hy
      by_cases hxy : x = y
      · have hne : ((x : Int) != (y : Int)) = false := by simp [hxy]
        have HXY : Hid (x = y) := hxy
        clear hxy
        go_wp2
        go_quiet (fail)
        go_wp2
        go_roundw
        case rel =>
          refine ⟨k + 1, by omega, by go_num, fun j hj => ?_, hb.trans ⟨rfl, rfl, rfl, Nat.le_refl _, fun _ _ => rfl⟩⟩
          rcases (show j < k ∨ j = k by omega) with h | rfl
          · exact HA.out j h
          · rw [← HX.out, ← HY.out]; exact HXY.out
        case measure => simp [intOf]; omega
      · have hne : ((x : Int) != (y : Int)) = true := by simp; omega
        have HXY : Hid (¬ x = y) := hxy
        clear hxy
        go_wp2
        go_quiet (fail)
        go_wp2
        go_ret
        refine ⟨ret_bool ?_, hb.trans ⟨rfl, rfl, rfl, Nat.le_refl _, fun _ _ => rfl⟩⟩
        have : xs ≠ ys := fun h => HXY.out (by rw [HX.out, HY.out, h])
        simp [this]
    · have hkk : k = n := by omega
      subst hkk
      go_wp2
      go_ret
      refine ⟨ret_bool ?_, hb⟩
      have : xs = ys := by
        apply List.ext_getElem (by rw [← HN.out.1, ← HN.out.2])
        intro j h1 h2
        have := HA.out j (by have := HN.out.1; omega)
        simpa [h1, h2] using this
      simp [this]

theorem same_off (w : World) (u v : Value) (xs ys : List Nat) (hu : Lies w u xs) (hv : Lies w v ys) (hlen : xs.length ≠ ys.length) :
    Calls Tryd.prog 20 #[u, v] w fun e w' => e = .returned (.bool (decide (xs = ys))) ∧ Below w.heap.size w w' := by
  obtain ⟨ao, ca, rfl, _⟩ := hu
  obtain ⟨bo, cb, rfl, _⟩ := hv
  have hne : ((xs.length : Int) != (ys.length : Int)) = true := by simp; omega
  have h : decide (xs = ys) = false := by
    have : xs ≠ ys := fun h => hlen (by rw [h])
    simp [this]
  rw [h]
  go_enter Tryd.func20, Tryd.ntmps20
  go_wp2
  go_ret
  exact ⟨rfl, Below.refl _ _⟩

/-- Same: whatever it is handed. -/
theorem same_any (w : World) (u v : Value) (xs ys : List Nat) (hu : Lies w u xs) (hv : Lies w v ys) (hl : xs.length ≤ 281474976710656) :
    Calls Tryd.prog 20 #[u, v] w fun e w' => e = .returned (.bool (decide (xs = ys))) ∧ Below w.heap.size w w' := by
  by_cases h : xs.length = ys.length
  · exact same_walk w u v xs ys hu hv h hl
  · exact same_off w u v xs ys hu hv h

theorem bytes_one (bs : List Nat) : ∀ u ∈ bs.map byteV, u.oneCell' = true := by
  intro u hu
  obtain ⟨b, _, rfl⟩ := List.mem_map.1 hu
  rfl

set_option maxRecDepth 100000 in
set_option maxHeartbeats 1000000 in
theorem clone_walk (w : World) (v : Value) (bs : List Nat) (hv : Lies w v bs) (hl : bs.length ≤ 140737488355328) :
    Calls Tryd.prog 45 #[v] w fun e w' => ∃ v', e = .returned v' ∧ w'.ownsRow w.heap.size 5 1 v' bs.length (bs.map byteV) ∧ Below w.heap.size w w' := by
  obtain ⟨i, hi, hz0, hz1, hz2⟩ := info_parts Tryd.info5
  have hn0 := fun wx => Lib.run_eql_slice_nil (P := Tryd.prog) wx 22 5
  obtain ⟨ao, cap, rfl, h2, h3, h4⟩ := hv
  have hn := fun wx => hn0 wx ao bs.length cap 0 0 Tryd.underlying25
  clear hn0
  cases ao with
  | none =>
    have hc := h3 rfl
    subst hc
    have : bs = [] := List.length_eq_zero_iff.1 (by omega)
    subst this
    simp only [List.length_nil] at hn
    go_enter Tryd.func45, Tryd.ntmps45
    go_wp2
    go_ret
    exact ⟨_, rfl, World.ownsRow_nil _ _ _ _, Below.refl _ _⟩
  | some a =>
    have hc := h4 a rfl
    clear h4 h3
    go_enter Tryd.func45, Tryd.ntmps45
    go_wp2_with (at_builtin; refine wpList_append_own _ rfl (.tmp 5) (.tmp 6) 22 rfl w.heap.size 5 i (.int .u8 0) 1 1 Tryd.underlying25 hi hz0 hz1 hz2 rfl (by decide) _ 0 [] rfl ?c0 a bs.length cap (bs.map byteV) rfl (by simp) ?c1 (bytes_one bs) (by unfold maxLen; omega) (by omega) (by simp) ?_)
    case c0 => exact ⟨rfl, .inr ⟨w.heap.size, 0, #[], rfl, Nat.le_refl _, heap_alloc_new w _, Nat.le_refl _, by decide, rfl, rfl⟩⟩
    case c1 => exact fun j u hu => cell_old ((Below.refl _ w).alloc (Nat.le_refl _) _) (hc j u hu)
    intro v' w' hown hgrow _
    go_wp2
    go_ret
    exact ⟨_, rfl, hown, ((Below.refl _ w).alloc (Nat.le_refl _) _).grown hgrow (by simp) (fun k hk => by simp [Value.ownBlock] at hk; omega)⟩

theorem bytes_walk (B p : Nat) (w : World) (N t : Nat) (h : Wr B p w N t) (ht : t < 1000000) :
    Calls Tryd.prog 43 #[.pointer (some ⟨p, 0, none⟩)] w fun e w' => ∃ v' bs, e = .returned v' ∧ w'.ownsRow w.heap.size 5 1 v' bs.length (bs.map byteV) ∧ Small bs ∧ val bs = N ∧ bs.length = (t + 7) / 8 ∧ Below w.heap.size w w' := by
  obtain ⟨v, bs, hp, hown, hsm, hval, hlen, hN, hB⟩ := h
  have h0 := cell2_0 hp
  have hc : Hid (Calls Tryd.prog 45 #[v] w fun e w' => ∃ v', e = .returned v' ∧ w'.ownsRow w.heap.size 5 1 v' bs.length (bs.map byteV) ∧ Below w.heap.size w w') := clone_walk w v bs (lies_own hown) (by omega)
  go_enter Tryd.func43, Tryd.ntmps43
  go_wp2_with (go_at_call 45; with_reducible refine hc.out.mono ?_; rintro e w' ⟨v', rfl, ho, hb⟩)
  go_ret
  exact ⟨v', bs, rfl, ho, hsm, hval, hlen, hb⟩

/-- The writer, and what was there before. -/
def In (B p : Nat) (w0 w : World) (N t : Nat) : Prop := Wr B p w N t ∧ Below B w0 w

theorem new_in (w : World) : Calls Tryd.prog 38 #[] w fun e w' => e = .returned (.pointer (some ⟨w.heap.size, 0, none⟩)) ∧ In w.heap.size w.heap.size w w' 0 0 :=
  (new_walk w).mono fun e w' ⟨he, hw⟩ => ⟨he, by subst hw; exact ⟨wr_new w _ (Nat.le_refl _), (Below.refl _ w).alloc (Nat.le_refl _) _⟩⟩

theorem put_in {B p : Nat} {w0 : World} (N t : Nat) (n C : Int) (c : Nat) (hC : C = c) (hc : c ≤ 16) (ht : t < 900000) (N' t' : Nat) (hN : N + low n c * 2 ^ t = N') (ht' : t + c = t') :
    Hid (∀ w, In B p w0 w N t → Calls Tryd.prog 39 #[.pointer (some ⟨p, 0, none⟩), .int .i64 n, .int .i64 C] w fun e w' => e = .returned (.tuple #[]) ∧ In B p w0 w' N' t') := by
  subst hN ht' hC
  exact fun w h => (put_walk B p w N t n c h.1 hc ht).mono fun e w' ⟨h1, h2, h3⟩ => ⟨h1, h2, h.2.trans h3⟩

theorem code_in {B p : Nat} {w0 : World} (N t : Nat) (n C : Int) (c : Nat) (hC : C = c) (hc : c ≤ 16) (ht : t < 900000) (N' t' : Nat) (hN : N + rev n c c * 2 ^ t = N') (ht' : t + c = t') :
    Hid (∀ w, In B p w0 w N t → Calls Tryd.prog 59 #[.pointer (some ⟨p, 0, none⟩), .int .i64 n, .int .i64 C] w fun e w' => e = .returned (.tuple #[]) ∧ In B p w0 w' N' t') := by
  subst hN ht' hC
  exact fun w h => (code_walk B p w N t n c h.1 hc ht).mono fun e w' ⟨h1, h2, h3⟩ => ⟨h1, h2, h.2.trans h3⟩

theorem In.size {B p : Nat} {w0 w : World} {N t : Nat} (h : In B p w0 w N t) : B ≤ w.heap.size := by
  obtain ⟨v, bs, hp, _, _, _, _, _, hB⟩ := h.1
  have := lt_of_block hp
  omega

theorem In.old {B p : Nat} {w0 w w' : World} {N t : Nat} (h : In B p w0 w N t) (hb : Below w.heap.size w w') : In B p w0 w' N t :=
  ⟨h.1.old hb, h.2.trans (hb.mono h.size)⟩

/-- What Bytes hands out: a new row. -/
def Out (B : Nat) (w : World) (v : Value) (bs : List Nat) : Prop := w.ownsRow B 5 1 v bs.length (bs.map byteV) ∧ Small bs

theorem bytes_in {B p : Nat} {w0 : World} (N t : Nat) (ht : t < 1000000) (L : List Nat) (n : Nat) (hn : L.length = n) (hs : Small L) (hN : val L = N) (hl : L.length = (t + 7) / 8) :
    Hid (∀ w, In B p w0 w N t → Calls Tryd.prog 43 #[.pointer (some ⟨p, 0, none⟩)] w fun e w' => ∃ v', e = .returned v' ∧ w'.ownsRow w.heap.size 5 1 v' n (L.map byteV) ∧ Below w.heap.size w w' ∧ In B p w0 w' N t) := by
  subst hn
  intro w h
  refine (bytes_walk B p w N t h.1 ht).mono ?_
  rintro e w' ⟨v', bs, rfl, ho, hsm, hval, hlen, hb⟩
  have : bs = L := by
    apply List.ext_getElem (by rw [hlen, hl])
    intro j h1 h2
    have e1 := val_byte hsm j
    have e2 := val_byte hs j
    rw [hval] at e1
    rw [hN] at e2
    rw [e1] at e2
    simpa [h1, h2] using e2
  subst this
  exact ⟨v', rfl, ho, hb, h.old hb⟩

theorem lies_lit (w : World) (L : List Nat) (cs : Array Value) (hcs : cs = (L.map byteV).toArray) : Lies (w.alloc (.cells cs 5)) (.slice (some ⟨w.heap.size, 0, none⟩) L.length L.length) L := by
  subst hcs
  refine ⟨_, _, rfl, Nat.le_refl _, fun h => (by cases h), fun a ha j u hu => ?_⟩
  cases ha
  have hadd : (⟨w.heap.size, 0, none⟩ : Addr).add j = ⟨w.heap.size, j, none⟩ := by unfold Addr.add; split <;> simp_all
  rw [hadd, cell_of_row _ _ j _ 5 (0, 0) (heap_alloc_new w _)]
  simpa using hu

/-- Same of bytes that lie anywhere and of bytes that are written out. -/
theorem same_lit (L M : List Nat) (cs : Array Value) (n : Nat) (r : Bool) (hn : M.length = n) (hcs : cs = (M.map byteV).toArray) (hl : L.length ≤ 281474976710656) (hr : decide (L = M) = r) :
    Hid (∀ w v, Lies w v L → Calls Tryd.prog 20 #[v, .slice (some ⟨w.heap.size, 0, none⟩) n n] (w.alloc (.cells cs 5)) fun e w' => e = .returned (.bool r) ∧ Below w.heap.size w w') := by
  subst hn hr
  intro w v h
  have hb : Below w.heap.size w (w.alloc (.cells cs 5)) := (Below.refl _ _).alloc (Nat.le_refl _) _
  exact (same_any _ _ _ L M (h.old hb) (lies_lit _ M _ hcs) hl).mono fun e w' ⟨h1, h2⟩ => ⟨h1, hb.trans (h2.mono (by simp))⟩

end Go.Proofs.YtdokpimhhkbdbaaDoor
