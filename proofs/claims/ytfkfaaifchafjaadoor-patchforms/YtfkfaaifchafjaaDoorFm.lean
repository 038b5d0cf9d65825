/-
  caught: a panic with a line is that line; Parse.
-/
import Derived.Test.YtfkfaaifchafjaaDoorFl
import Derived.Defers
import Derived.Recover
set_option linter.unusedSimpArgs false
set_option linter.unusedVariables false
namespace Go.Proofs.YtfkfaaifchafjaaDoor
open Go.RowKit

theorem under68 : Tryd.prog.underlying 68 = some (.int .i64) := by kernel_rfl

theorem assert_num (n : Int) (w : World) : (Instr.typeAssert (.iface 68 (.int .i64 n)) 20 68 true).run Tryd.prog w = .ok (.tuple #[.int .i64 n, .bool true]) w := by
  simp [Instr.typeAssert, run_underlying under68]

set_option maxRecDepth 100000 in
theorem catch_panicking (p : Addr) (n x : Int) (w : World) (hc : w.cell? p = some (.int .i64 x)) (hz : w.frozen? p = false) :
    CallsD Tryd.prog 40 #[.pointer (some p)] (.panicking ({ v := .iface 68 (.int .i64 n), recovered := false } :: [])) w fun e u' w' =>
      e = .returned (.tuple #[]) ∧ u' = .panicking ({ v := .iface 68 (.int .i64 n), recovered := true } :: []) ∧ w' = w.setCell p (.int .i64 n) := by
  refine callsD_of_wpS Tryd.func40 rfl fun c₀ cs hu => ?_
  apply wpS_seq
  apply wpS_region
  simp [wpOpsS, go_sem, recoverD, hu, Tryd.ntmps40, Exit.thenS]
  refine wpS_of_wp ?_
  simp only [Array.replicate]
  have hta := assert_num n
  go_wp2
  cases c₀
  simp_all [bodyPostS, results, Tryd.results40]

set_option maxRecDepth 100000 in
theorem catch_idle (p : Addr) (w : World) :
    CallsD Tryd.prog 40 #[.pointer (some p)] .returning w fun e u' w' => e = .returned (.tuple #[]) ∧ u' = .returning ∧ w' = w := by
  refine callsD_of_wpS Tryd.func40 rfl fun c₀ cs hu => ?_
  apply wpS_seq
  apply wpS_region
  simp [wpOpsS, go_sem, recoverD, hu, Tryd.ntmps40, Exit.thenS]
  refine wpS_of_wp ?_
  simp only [Array.replicate]
  go_wp2
  cases c₀
  simp_all [bodyPostS, results, Tryd.results40]

/-- The work came to its end, or panicked with a number. -/
theorem caught_any (ub : Nat) (w : World) (Q1 : World → Prop) (Q2 : Int → World → Prop)
    (hw : Calls Tryd.prog 27 #[.pointer (some ⟨ub, 0, none⟩)] (w.alloc (.cells #[.int .i64 0] 68)) fun e w' => (e = .returned (.tuple #[]) ∧ Q1 w' ∨ ∃ n, e = Pn n ∧ Q2 n w') ∧ w'.heap[w.heap.size]? = some (.cells #[.int .i64 0] 68 (0, 0))) :
    Calls Tryd.prog 26 #[.func (.func 27) #[.pointer (some ⟨ub, 0, none⟩)] #[]] w fun e w' => (e = .returned (.int .i64 0) ∧ ∃ w2, Q1 w2 ∧ w' = w2.setCell ⟨w.heap.size, 0, none⟩ (.int .i64 0)) ∨ (∃ n, e = .returned (.int .i64 n) ∧ ∃ w2, Q2 n w2 ∧ w' = w2.setCell ⟨w.heap.size, 0, none⟩ (.int .i64 n)) := by
  have hmf : ∀ (fn : Fn) (first cap : Array Value) (w : World), (Instr.makeFunc fn first cap).run Tryd.prog w = .ok (.func fn first cap) w := fun _ _ _ _ => rfl
  have hwk := mkHid hw
  clear hw
  go_enter_defers Tryd.func26, Tryd.ntmps26
  go_wp2_with (first
    | (go_at_call 27; (with_reducible refine hwk.out.mono ?_); rintro e w2 ⟨hq, hb⟩
       have c0 : w2.cell? ⟨w.heap.size, 0, none⟩ = some (.int .i64 0) := by simp [World.cell?, hb]
       have z0 := free_at hb 0
       have HB := mkHid hb
       rcases hq with ⟨rfl, hq⟩ | ⟨n, rfl, hq⟩
       all_goals
         have HQ := mkHid hq
         clear hq
       all_goals clear hb))
  · refine leaves_cons (f := 40) (args := #[.pointer (some ⟨w.heap.size, 0, none⟩)]) (by simp) (by simp [go_sem]) ?_
    refine (catch_idle ⟨w.heap.size, 0, none⟩ _).mono ?_
    rintro e u' w'' ⟨rfl, rfl, rfl⟩
    have c1 : (w2.setCell ⟨w.heap.size, 0, none⟩ (.int .i64 0)).cell? ⟨w.heap.size, 0, none⟩ = some (.int .i64 0) := by
      have := row_setCell HB.out 0 (.int .i64 0)
      simp [World.cell?, this]
    simp [Leaves, settle, results, Tryd.results26, go_sem, c1]
    exact .inl ⟨w2, HQ.out, rfl⟩
  · refine leaves_cons (f := 40) (args := #[.pointer (some ⟨w.heap.size, 0, none⟩)]) (by simp) (by simp [go_sem]) ?_
    refine (catch_panicking ⟨w.heap.size, 0, none⟩ n 0 _ c0 z0).mono ?_
    rintro e u' w'' ⟨rfl, rfl, rfl⟩
    have c1 : (w2.setCell ⟨w.heap.size, 0, none⟩ (.int .i64 n)).cell? ⟨w.heap.size, 0, none⟩ = some (.int .i64 n) := by
      have := row_setCell HB.out 0 (.int .i64 n)
      simp [World.cell?, this]
    simp [Leaves, settle, results, Tryd.results26, go_sem, c1]
    exact .inr ⟨w2, HQ.out, rfl⟩

theorem str_self (s : ByteArray) : str s.data.toList = s := ByteArray.ext (by simp [str])

/-- What Parse answers. -/
def ParseP (s : Txt) (w : World) (e : Ending) (w' : World) : Prop :=
  ((∃ p nv cv, parseM s = (p, 0) ∧ e = .returned (.tuple #[.agg #[.string (str p.1), .bool p.2.1, nv, cv], .int .i64 0, .int .i64 0]) ∧ LiesS w' nv p.2.2.1 ∧ LiesC w' cv p.2.2.2)
    ∨ (∃ m : Nat, m ≠ 0 ∧ parseM s = (pat0, m) ∧ e = .returned (.tuple #[.agg #[.string ⟨#[]⟩, .bool false, .slice none 0 0, .slice none 0 0], .int .i64 (m : Int), .int .i64 2]))) ∧ Old w w'

theorem ret10 (tmps : Array Value) (w : World) (g : Nat) (cs : Array Value) (a b : Value) (hp : tmps.getD 2 undef = .pointer (some ⟨g, 0, none⟩)) (h3 : tmps.getD 3 undef = a) (h4 : tmps.getD 4 undef = b) (hg : w.heap[g]? = some (.cells cs 26 (0, 0))) (hs : cs.size = 4) :
    (results Tryd.f10 tmps).run Tryd.prog w = .ok (.tuple #[.agg cs, a, b]) w := by
  have hl : (loadVar 26 ⟨g, 0, none⟩).run Tryd.prog w = .ok (.agg cs) w := run_loadVar_row w g 26 26 cs (0, 0) _ hg Tryd.underlying26 rfl (by rw [hs]; exact size26)
  have hr : Tryd.f10.results = #[.cell 2 26, .tmp 3, .tmp 4] := rfl
  simp only [results, hr]
  simp only [Sem.run_bind, Result.andThen, hp, h3, h4, asAddr, List.mapM_toArray, List.mapM_cons, List.mapM_nil, Array.mapM_eq_mapM_toList]
  simp [Sem.run_bind, Result.andThen, hl, asAddr]

theorem Rd.put68 {B : Nat} {w : World} {R : Nat} {rest : Txt} {n : Nat} {p : Pat} (h : Rd B w R rest n p) {G : Nat} {cs : Array Value} (hG : w.heap[G]? = some (.cells cs 68 (0, 0))) (hB : B ≤ G) (v : Value) : Rd B (w.setCell ⟨G, 0, none⟩ v) R rest n p := by
  obtain ⟨nv, cv, h1, h2, h3⟩ := h.m
  have hb : Below B w (w.setCell ⟨G, 0, none⟩ v) := (Below.refl B w).setCell (p := ⟨G, 0, none⟩) hB v
  exact ⟨⟨nv, cv, heap_set_ne _ _ _ _ (blocks_ne h1 hG (by decide)) h1, h2.keep (fun g cs hg => heap_set_ne _ _ _ _ (blocks_ne hg hG (by decide)) hg), ownC_keep h3 (fun g cs hg => heap_set_ne _ _ _ _ (blocks_ne hg hG (by decide)) hg)⟩, h.b, h.e.old hb⟩

theorem run_load26_range {w : World} {R : Nat} {a b c d e f : Value} (hm : w.heap[R]? = some (.cells #[a, b, c, d, e, f] 67 (0, 0))) : w.rangeAt R 2 [c, d, e, f] := by
  intro j v hj
  obtain ⟨a0, a1, a2, a3, a4, a5⟩ := cell6 hm
  match j, hj with
  | 0, hj => cases hj; exact a2
  | 1, hj => cases hj; exact a3
  | 2, hj => cases hj; exact a4
  | 3, hj => cases hj; exact a5

theorem four_one {B : Nat} {w : World} {nv cv : Value} {ss : List Txt} {l : List Chg} (q : ByteArray) (b : Bool) (h2 : RowS w nv ss) (h3 : OwnC B w cv l) : (#[Value.string q, .bool b, nv, cv] : Array Value).all (·.oneCell') = true := by
  rcases h2 with ⟨rfl, _⟩ | ⟨_, _, _, _, rfl, _⟩ <;> rcases h3.2 with ⟨rfl, _⟩ | ⟨_, _, _, rfl, _⟩ <;> simp [Value.oneCell']

theorem below_then2 {w W w2 : World} (h : Old w W) (hB : w.heap.size + 1 < W.heap.size) (k : Below (w.heap.size + 1) W w2) : Old w w2 := h.trans (k.mono (by omega))

theorem setRow_ne {w : World} {g k : Nat} {cs : Array Value} {o : Obj} (h : k ≠ g) (hk : w.heap[k]? = some o) : (w.setRow g cs).heap[k]? = some o := by
  rw [setRow_other _ _ _ _ h]; exact hk

set_option maxRecDepth 20000 in
set_option maxHeartbeats 4000000 in
theorem parse_any (w : World) (s : ByteArray) (hE : Env w) (hs : s.size ≤ 100000) : Calls Tryd.prog 10 #[.string s] w (ParseP s.data.toList w) := by
  have h5 : 5 < w.heap.size := by
    obtain ⟨_, _, _, _, h⟩ := hE
    exact cell_lt h
  obtain ⟨W, hW⟩ : ∃ W, W = (w.alloc (.cells #[.string ⟨#[]⟩, .bool false, .slice none 0 0, .slice none 0 0] 26)).alloc (.cells #[.string s, .int .i64 0, .string ⟨#[]⟩, .bool false, .slice none 0 0, .slice none 0 0] 67) := ⟨_, rfl⟩
  have hO : Old w W := by rw [hW]; exact old2 _ _ _
  have hZ : W.heap[w.heap.size]? = some (.cells #[.string ⟨#[]⟩, .bool false, .slice none 0 0, .slice none 0 0] 26 (0, 0)) := by rw [hW]; exact h20 _ _ _
  have hR : W.heap[w.heap.size + 1]? = some (.cells #[.string s, .int .i64 0, .string ⟨#[]⟩, .bool false, .slice none 0 0, .slice none 0 0] 67 (0, 0)) := by rw [hW]; exact h21 _ _ _
  have hRd : Rd (w.heap.size + 1) W (w.heap.size + 1) s.data.toList 0 pat0 := by
    refine ⟨⟨.slice none 0 0, .slice none 0 0, ?_, .inl ⟨rfl, rfl⟩, rfl, .inl ⟨rfl, rfl⟩⟩, Nat.le_refl _, hE.old hO, by omega⟩
    rw [hR, str_self]
    rfl
  have hWs : w.heap.size + 1 < W.heap.size := (Array.getElem?_eq_some_iff.1 hR).1
  have hl := lines_any (w.heap.size + 1) (W.alloc (.cells #[.int .i64 0] 68)) (w.heap.size + 1) s.data.toList (hRd.old (old1 _ _) hRd.size) (by rw [← size_list]; exact hs)
  have kc : Hid (Calls Tryd.prog 26 #[.func (.func 27) #[.pointer (some ⟨w.heap.size + 1, 0, none⟩)] #[]] W fun e w' =>
      (∃ p rest n, e = .returned (.int .i64 0) ∧ parseM s.data.toList = (p, 0) ∧ Rd (w.heap.size + 1) w' (w.heap.size + 1) rest n p ∧ Below (w.heap.size + 1) W w') ∨
      (∃ m : Nat, e = .returned (.int .i64 (m : Int)) ∧ m ≠ 0 ∧ m ≤ 1000000 ∧ parseM s.data.toList = (pat0, m) ∧ Below (w.heap.size + 1) W w')) := by
    refine (caught_any (w.heap.size + 1) W (fun w2 => (∃ p rest n, parseM s.data.toList = (p, 0) ∧ Rd (w.heap.size + 1) w2 (w.heap.size + 1) rest n p) ∧ Below (w.heap.size + 1) W w2 ∧ w2.heap[W.heap.size]? = some (.cells #[.int .i64 0] 68 (0, 0)))
      (fun n w2 => (∃ m : Nat, n = (m : Int) ∧ m ≠ 0 ∧ m ≤ 1000000 ∧ parseM s.data.toList = (pat0, m)) ∧ Below (w.heap.size + 1) W w2) ?_).mono ?_
    · refine hl.mono ?_
      rintro e w2 ⟨h1, h2⟩
      have h3 := h2.k W.heap.size _ (h10 W _)
      have h4 : Below (w.heap.size + 1) W w2 := ((old1 W _).mono (by omega)).trans h2.b
      refine ⟨?_, h3⟩
      rcases h1 with ⟨p, rest, n, h5, h6, h7⟩ | ⟨m, h5, h6, h7, h8⟩
      · exact .inl ⟨h6, ⟨p, rest, n, h5, h7⟩, h4, h3⟩
      · exact .inr ⟨m, h8, ⟨m, rfl, h5, h6, h7⟩, h4⟩
    · rintro e w' (⟨h1, w2, ⟨⟨p, rest, n, h2, h3⟩, h4, h5⟩, rfl⟩ | ⟨n, h1, w2, ⟨⟨m, rfl, h2, h3, h4⟩, h5⟩, rfl⟩)
      · exact .inl ⟨p, rest, n, h1, h2, h3.put68 h5 (by omega) _, h4.setCell (p := ⟨W.heap.size, 0, none⟩) (by show _ ≤ W.heap.size; omega) _⟩
      · exact .inr ⟨m, h1, h2, h3, h4, h5.setCell (p := ⟨W.heap.size, 0, none⟩) (by show _ ≤ W.heap.size; omega) _⟩
  have hmf : ∀ (fn : Fn) (first cap : Array Value) (w : World), (Instr.makeFunc fn first cap).run Tryd.prog w = .ok (.func fn first cap) w := fun _ _ _ _ => rfl
  have HO := mkHid hO
  have HZ := mkHid hZ
  have HW := mkHid hW
  have HWS := mkHid hWs
  obtain ⟨fs, hfs⟩ : ∃ fs, Tryd.prog.underlying 26 = some (.struct fs) := ⟨_, Tryd.underlying26⟩
  clear hE hs h5 hO hZ hR hRd hl hWs
  go_enter Tryd.func10, Tryd.ntmps10
  go_upto_region 3 with (first
    | (go_at_call 26; rw [← HW.out]; (with_reducible refine kc.out.mono ?_); rintro e w2 (⟨p, rest, n, rfl, hp, hr, hb⟩ | ⟨m, rfl, hm, hm2, hp, hb⟩)))
  · have HP := mkHid hp
    have HB := mkHid hb
    obtain ⟨nv, cv, h1, h2, h3⟩ := hr.m
    have HR := mkHid (run_load26_range h1)
    have HRS := mkHid h2
    have HOC := mkHid h3
    have HONE := mkHid (four_one (str p.1) p.2.1 h2 h3)
    have HZ2 : Hid (w2.heap[w.heap.size]? = some (.cells #[.string ⟨#[]⟩, .bool false, .slice none 0 0, .slice none 0 0] 26 (0, 0))) := (hb.block w.heap.size (Nat.lt_succ_self _)).trans HZ.out
    clear hp hb hr h1 h2 h3
    go_wp2_with (first
      | ((with_reducible refine at_op (.load 26 (.tmp 19)) ?_); refine wpList_load_mid rfl 26 (.tmp 19) rfl (w.heap.size + 1) 2 rfl _ _ HR.out hfs rfl size26 ?_)
      | ((with_reducible refine at_op (.store 26 (.tmp 2) (.tmp 20)) ?_)
         refine wpList_store_row rfl 26 (.tmp 2) (.tmp 20) rfl w.heap.size #[.string (str p.1), .bool p.2.1, nv, cv] rfl rfl 26 _ HZ2.out size26 rfl HONE.out ?_))
    refine bodyPost_ret (v := .tuple #[.agg #[.string (str p.1), .bool p.2.1, nv, cv], .int .i64 0, .int .i64 0]) (ret10 _ _ w.heap.size _ _ _ rfl rfl rfl (setRow_heap _ _ _ _ _ _ HZ2.out) rfl) rfl ⟨.inl ⟨p, nv, cv, HP.out, rfl, ?_, ?_⟩, below_setRow (below_then2 HO.out HWS.out HB.out) (Nat.le_refl _) _⟩
    · exact (HRS.out.keep (fun g cs hg => setRow_ne (blocks_ne hg HZ2.out (by decide)) hg)).lies
    · exact ownC_lies (ownC_keep HOC.out (fun g cs hg => setRow_ne (blocks_ne hg HZ2.out (by decide)) hg))
  · have HP := mkHid hp
    have HB := mkHid hb
    have HM := mkHid hm
    have hm1 : ((m : Int) == 0) = false := by rw [beq_eq_false_iff_ne]; omega
    have HZ2 : Hid (w2.heap[w.heap.size]? = some (.cells #[.string ⟨#[]⟩, .bool false, .slice none 0 0, .slice none 0 0] 26 (0, 0))) := (hb.block w.heap.size (Nat.lt_succ_self _)).trans HZ.out
    clear hp hb hm hm2
    go_wp2_with (first
      | ((with_reducible refine at_op (.store 26 (.tmp 2) (.tmp 15)) ?_)
         refine wpList_store_row rfl 26 (.tmp 2) (.tmp 15) rfl w.heap.size #[.string ⟨#[]⟩, .bool false, .slice none 0 0, .slice none 0 0] rfl rfl 26 _ HZ2.out size26 rfl (by simp [Value.oneCell']) ?_))
    exact bodyPost_ret (v := .tuple #[.agg #[.string ⟨#[]⟩, .bool false, .slice none 0 0, .slice none 0 0], .int .i64 (m : Int), .int .i64 2]) (ret10 _ _ w.heap.size _ _ _ rfl rfl rfl (setRow_heap _ _ _ _ _ _ HZ2.out) rfl) rfl ⟨.inr ⟨m, HM.out, HP.out, rfl⟩, below_setRow (below_then2 HO.out HWS.out HB.out) (Nat.le_refl _) _⟩
end Go.Proofs.YtfkfaaifchafjaaDoor
