/-
  own, hasFile, hasLine walked.
-/
import Derived.Test.YtfkfaaifchafjaaDoorCa
set_option linter.unusedSimpArgs false
set_option linter.unusedVariables false
namespace Go.Proofs.YtfkfaaifchafjaaDoor
open Go.RowKit

theorem under44 : ∃ fs, Tryd.prog.underlying 44 = some (.struct fs) := ⟨_, Tryd.underlying44⟩
theorem size44 : (Tryd.prog.info? 44).map (·.size) = some 6 := by kernel_rfl

def chgV (c : Chg) : Value := .agg (encC c).toArray
theorem encC_one (c : Chg) : ((encC c).toArray : Array Value).all (·.oneCell') = true := by simp [encC, encStr, Value.oneCell']

theorem ret63 (tmps : Array Value) (w : World) (g : Nat) (cs : Array Value) (hp : tmps.getD 4 undef = .pointer (some ⟨g, 0, none⟩)) (hg : w.heap[g]? = some (.cells cs 44 (0, 0))) (hs : cs.size = 6) : (results Tryd.f63 tmps).run Tryd.prog w = .ok (.agg cs) w := by
  obtain ⟨fs, hfs⟩ := under44
  exact results_cell_row rfl tmps w g 44 cs (0, 0) _ hp hg hfs rfl (by rw [hs]; exact size44)

def chg0A : Array Value := #[.int .i64 0, .string ⟨#[]⟩, .int .i64 0, .string ⟨#[]⟩, .int .i64 0, .string ⟨#[]⟩]

set_option maxHeartbeats 1000000 in
theorem own_in (w : World) (nm : ByteArray) (tg : Bool) (nv : Value) (b off cap m : Nat) (c : Chg) (k : Nat) (hk : k < m) (hl : m ≤ 1000000) (hc : w.rangeAt b (off + k * 6) (encC c)) :
    Calls Tryd.prog 63 #[.agg #[.string nm, .bool tg, nv, .slice (some ⟨b, off, none⟩) m cap], .agg #[.string nm, .int .i64 ((k : Int) + 1)]] w fun e w' => e = .returned (chgV c) ∧ Old w w' := by
  obtain ⟨fs, hfs⟩ := under44
  have HR : Hid (∀ w', Old w w' → w'.rangeAt b (off + k * 6) (encC c)) := fun w' h => range_old hc h
  obtain ⟨cs, hcs⟩ : ∃ cs, cs = (encC c).toArray := ⟨_, rfl⟩
  have HS : Hid (cs.size = 6 ∧ cs.all (·.oneCell') = true) := ⟨by rw [hcs]; rfl, by rw [hcs]; exact encC_one c⟩
  have HCS := mkHid hcs
  have d1 : ¬ ((k : Int) + 1 < 1) := by omega
  have d2 : ¬ ((m : Int) < (k : Int) + 1) := by omega
  have d3 : (k : Int) < (m : Int) := by omega
  clear hc hcs
  go_enter Tryd.func63, Tryd.ntmps63
  go_wp2_with (first
    | ((with_reducible refine at_op (.load 44 (.tmp 29)) ?_); refine wpList_load_mid rfl 44 (.tmp 29) rfl b (off + k * 6) rfl (encC c) _ (HR.out _ (old3 _ _ _ _)) hfs rfl size44 ?_
       rw [← HCS.out])
    | ((with_reducible refine at_op (.store 44 (.tmp 4) (.tmp 30)) ?_); refine wpList_store_row rfl 44 (.tmp 4) (.tmp 30) rfl (w.heap.size + 1 + 1) cs rfl rfl 44 chg0A (heap_a3 _ _ _ _) (by rw [HS.out.1]; exact size44) (by rw [HS.out.1]; rfl) HS.out.2 ?_))
  refine bodyPost_ret (v := .agg cs) (ret63 _ _ (w.heap.size + 1 + 1) cs rfl (setRow_heap _ _ _ _ _ _ (heap_a3 _ _ _ _)) HS.out.1) rfl ⟨by rw [HCS.out]; rfl, below_setRow (old3 _ _ _ _) (by omega) _⟩

theorem ownChg_ne {name : Txt} {chs : List Chg} {x : Idn} (h : ¬ (x.1 = name ∧ 1 ≤ x.2 ∧ x.2 ≤ chs.length)) : ownChg name chs x = chg0 := by unfold ownChg; rw [if_neg h]

theorem chg0A_one : chg0A.all (·.oneCell') = true := by simp [chg0A, Value.oneCell']

set_option maxHeartbeats 1000000 in
theorem own_out (w : World) (nm q : ByteArray) (tg : Bool) (nv : Value) (ao : Option Addr) (m cap : Nat) (n : Int) (h : ¬ (q.data.toList = nm.data.toList ∧ 1 ≤ n ∧ n ≤ (m : Int))) :
    Calls Tryd.prog 63 #[.agg #[.string nm, .bool tg, nv, .slice ao m cap], .agg #[.string q, .int .i64 n]] w fun e w' => e = .returned (chgV chg0) ∧ Old w w' := by
  show Calls Tryd.prog 63 _ w fun e w' => e = .returned (.agg chg0A) ∧ Old w w'
  by_cases hq : q.data.toList = nm.data.toList
  · have hqe : (q.toList == nm.toList) = true := by rw [ByteArray.toList_eq, ByteArray.toList_eq]; simpa using hq
    by_cases h1 : n < 1
    · clear h hq
      go_enter Tryd.func63, Tryd.ntmps63
      go_wp2_with ((with_reducible refine at_op (.store 44 (.tmp 4) (.tmp 23)) ?_); refine wpList_store_row rfl 44 (.tmp 4) (.tmp 23) rfl (w.heap.size + 1 + 1) chg0A rfl rfl 44 chg0A (heap_a3 _ _ _ _) size44 rfl chg0A_one ?_)
      exact bodyPost_ret (v := .agg chg0A) (ret63 _ _ (w.heap.size + 1 + 1) chg0A rfl (setRow_heap _ _ _ _ _ _ (heap_a3 _ _ _ _)) rfl) rfl ⟨rfl, below_setRow (old3 _ _ _ _) (by omega) _⟩
    · have h2 : (m : Int) < n := by
        rcases Int.lt_or_le (m : Int) n with h' | h'
        · exact h'
        · exact absurd ⟨hq, by omega, h'⟩ h
      clear h hq
      go_enter Tryd.func63, Tryd.ntmps63
      go_wp2_with ((with_reducible refine at_op (.store 44 (.tmp 4) (.tmp 23)) ?_); refine wpList_store_row rfl 44 (.tmp 4) (.tmp 23) rfl (w.heap.size + 1 + 1) chg0A rfl rfl 44 chg0A (heap_a3 _ _ _ _) size44 rfl chg0A_one ?_)
      exact bodyPost_ret (v := .agg chg0A) (ret63 _ _ (w.heap.size + 1 + 1) chg0A rfl (setRow_heap _ _ _ _ _ _ (heap_a3 _ _ _ _)) rfl) rfl ⟨rfl, below_setRow (old3 _ _ _ _) (by omega) _⟩
  · have hqe : (q.toList == nm.toList) = false := by rw [ByteArray.toList_eq, ByteArray.toList_eq]; simpa using hq
    clear h hq
    go_enter Tryd.func63, Tryd.ntmps63
    go_wp2_with ((with_reducible refine at_op (.store 44 (.tmp 4) (.tmp 23)) ?_); refine wpList_store_row rfl 44 (.tmp 4) (.tmp 23) rfl (w.heap.size + 1 + 1) chg0A rfl rfl 44 chg0A (heap_a3 _ _ _ _) size44 rfl chg0A_one ?_)
    exact bodyPost_ret (v := .agg chg0A) (ret63 _ _ (w.heap.size + 1 + 1) chg0A rfl (setRow_heap _ _ _ _ _ _ (heap_a3 _ _ _ _)) rfl) rfl ⟨rfl, below_setRow (old3 _ _ _ _) (by omega) _⟩

/-- own, whatever it is handed. -/
theorem own_any (w : World) (nm q : ByteArray) (tg : Bool) (nv cv : Value) (chs : List Chg) (n : Int) (hv : LiesC w cv chs) (hl : chs.length ≤ 1000000) :
    Calls Tryd.prog 63 #[.agg #[.string nm, .bool tg, nv, cv], .agg #[.string q, .int .i64 n]] w fun e w' => e = .returned (chgV (ownChg nm.data.toList chs (q.data.toList, n))) ∧ Old w w' := by
  by_cases h : q.data.toList = nm.data.toList ∧ 1 ≤ n ∧ n ≤ (chs.length : Int)
  · obtain ⟨h1, h2, h3⟩ := h
    obtain ⟨k, hk⟩ := Int.eq_ofNat_of_zero_le (show 0 ≤ n - 1 by omega)
    obtain rfl : n = (k : Int) + 1 := by omega
    obtain ⟨b, off, cap, rfl, _, hc⟩ := hv.form (by omega)
    obtain rfl : q = nm := ByteArray.ext (Array.toList_inj.1 h1)
    have hk : k < chs.length := by omega
    have e : ownChg q.data.toList chs (q.data.toList, (k : Int) + 1) = chs.getD k chg0 := by
      unfold ownChg
      rw [if_pos ⟨rfl, by simp; omega, by simpa using h3⟩]
      congr 1
    rw [e]
    exact own_in w q tg nv b off cap chs.length _ k hk hl (LiesC.range hc k hk)
  · obtain ⟨_, ao, cap, rfl, _⟩ := hv
    rw [ownChg_ne h]
    exact own_out w nm q tg nv ao _ cap n h

theorem own_old (w : World) (nm q : ByteArray) (tg : Bool) (nv cv : Value) (chs : List Chg) (n : Int) (hv : LiesC w cv chs) (hl : chs.length ≤ 1000000) (cs : Array Value) (hcs : cs = (encC (ownChg nm.data.toList chs (q.data.toList, n))).toArray) :
    Hid (∀ w', Old w w' → Calls Tryd.prog 63 #[.agg #[.string nm, .bool tg, nv, cv], .agg #[.string q, .int .i64 n]] w' fun e w'' => e = .returned (.agg cs) ∧ Old w' w'') := by
  subst hcs
  exact fun w' h => own_any w' nm q tg nv cv chs n (hv.old h) hl

theorem ofNeeds_old (w : World) (nm : ByteArray) (tg : Bool) (nv cv : Value) (needs : List Txt) (q : ByteArray) (n : Int) (hv : LiesS w nv needs) (hl : needs.length ≤ 1000000) (b : Bool) (hb : b = ofNeeds needs (q.data.toList, n)) :
    Hid (∀ w', Old w w' → Calls Tryd.prog 62 #[.agg #[.string nm, .bool tg, nv, cv], .agg #[.string q, .int .i64 n]] w' fun e w'' => e = .returned (.bool b) ∧ Old w' w'') := by
  subst hb
  exact fun w' h => ofNeeds_walk w' nm tg nv cv needs q n (hv.old h) hl

end Go.Proofs.YtfkfaaifchafjaaDoor
