/-
  A stored block.
-/
import Derived.Test.YtdokpimhhkbdbaaDoorUb
import Derived.Deep.LoopGhost
import Derived.Deep.RegionWith
import Derived.Deep.RegionLaw
set_option linter.unusedSimpArgs false
set_option linter.unusedVariables false
namespace Go.Proofs.YtdokpimhhkbdbaaDoor.Q
open Go.RowKit

theorem align_c (c : Cx) (w : World) (pos : Nat) (out : List Nat) (h : Up c w pos false out) :
    Calls Tryd.prog 77 #[.pointer (some ⟨c.rb, 0, none⟩)] w fun e w' => e = .returned (.tuple #[]) ∧ Hid (Up c w' ((pos + 7) / 8 * 8) false out) :=
  (skip_walk w c.rb c.bs pos false h.rd).mono fun e w' ⟨h1, h2, h3⟩ => ⟨h1, h.read h3 h2⟩

theorem left_c (c : Cx) (w : World) (pos : Nat) (out : List Nat) (h : Up c w pos false out) :
    Calls Tryd.prog 68 #[.pointer (some ⟨c.rb, 0, none⟩)] w fun e w' => e = .returned (.int .i64 ((8 * c.bs.length - pos : Nat) : Int)) ∧ Hid (Up c w' pos false out) := by
  refine (left_walk w c.rb c.bs pos false h.rd).mono ?_
  rintro e w' ⟨h1, k, rfl⟩
  refine ⟨?_, h.drewN k⟩
  rw [h1]
  have := h.le
  congr 2
  omega

theorem dig_c (c : Cx) (w : World) (pos k : Nat) (out : List Nat) (h : Up c w pos false out) (hk : k ≤ 16) :
    Calls Tryd.prog 49 #[.pointer (some ⟨c.ub, 0, none⟩), .int .i64 (k : Int)] w fun e w' => (∃ x : Nat, Hid (x = dig c.bs pos k) ∧ Hid (pos + k ≤ 8 * c.bs.length) ∧ e = .returned (.int .i64 (x : Int)) ∧ Hid (Up c w' (pos + k) false out)) ∨ (Hid (8 * c.bs.length < pos + k) ∧ e = Pn 2 ∧ Hid (Fz c w')) := by
  refine (digits_any c w pos k out h hk).mono ?_
  rintro e w' (⟨h1, h2, h3⟩ | h3)
  · exact .inl ⟨_, rfl, h1, h2, h3⟩
  · exact .inr h3

set_option maxHeartbeats 1000000 in
/-- Digits that are there: the unpacker's own block stands. -/
theorem digits_g (c : Cx) (w : World) (pos k : Nat) (out : List Nat) (h : Up c w pos false out) (hk : k ≤ 16) (hl : pos + k ≤ 8 * c.bs.length) :
    Calls Tryd.prog 49 #[.pointer (some ⟨c.ub, 0, none⟩), .int .i64 (k : Int)] w fun e w' => e = .returned (.int .i64 (dig c.bs pos k : Nat)) ∧ Up c w' (pos + k) false out ∧ w.grownBy w' (some c.rb) := by
  have c0 := h.c0
  have hget : Hid (Calls Tryd.prog 62 #[.pointer (some ⟨c.rb, 0, none⟩), .int .i64 (k : Int)] w fun e w' => e = .returned (.int .i64 (dig c.bs pos k : Nat)) ∧ Up c w' (pos + k) false out ∧ w.grownBy w' (some c.rb)) := (get_has w c.rb c.bs pos k h.rd hk hl).mono fun e w' ⟨h1, h2, h3⟩ => ⟨h1, h.read h3 h2, h3⟩
  have hbad : Hid (∀ w, Up c w (pos + k) false out → Calls Tryd.prog 64 #[.pointer (some ⟨c.rb, 0, none⟩)] w fun e w' => e = .returned (.bool false) ∧ w' = w) := fun w h => bad_walk w c.rb c.bs _ false h.rd
  have hn := mkHid need_true
  clear h
  go_enter Tryd.func49, Tryd.ntmps49
  go_wp2_with (first
    | (go_at_call 62; (with_reducible refine hget.out.mono ?_); rintro e w1 ⟨rfl, h1, h2⟩
       have HU := mkHid h1
       have HG := mkHid h2
       have d0 := h1.c0
       clear h1 h2 c0)
    | (go_at_call 64; (with_reducible refine (hbad.out _ HU.out).mono ?_); rintro e w2 ⟨rfl, hx⟩; subst hx)
    | (go_at_call 63; (with_reducible refine (hn.out _).mono ?_); rintro e w3 ⟨rfl, hx⟩; subst hx))
  go_ret
  exact ⟨rfl, HU.out, HG.out⟩

/-- One byte read: what the unpacker has. -/
theorem byte_c (c : Cx) (w : World) (pos : Nat) (out : List Nat) (v : Value) (h : Up c w pos false out) (h1 : w.heap[c.ub]? = some (.cells (c.cells v) 59 (0, 0))) (h2 : w.ownsRow c.w0.heap.size 5 1 v out.length (out.map byteV)) (hl : pos + 8 ≤ 8 * c.bs.length) :
    ∃ x : Nat, (x : Int) < 256 ∧ Hid (x = dig c.bs pos 8) ∧ Hid (Calls Tryd.prog 49 #[.pointer (some ⟨c.ub, 0, none⟩), .int .i64 8] w.drew fun e w' => e = .returned (.int .i64 (x : Int)) ∧ w'.cell? ⟨c.ub, 1, none⟩ = some v ∧ Hid (Up c w' (pos + 8) false out ∧ w'.heap[c.ub]? = some (.cells (c.cells v) 59 (0, 0)) ∧ w'.ownsRow c.w0.heap.size 5 1 v out.length (out.map byteV))) := by
  refine ⟨dig c.bs pos 8, ?_, rfl, ?_⟩
  · have : dig c.bs pos 8 < 2 ^ 8 := Nat.mod_lt _ (by decide)
    omega
  · refine (digits_g c w.drew pos 8 out (h.drewN 1) (by decide) hl).mono ?_
    rintro e w' ⟨e1, e2, e3⟩
    have e3 : w.grownBy w' (some c.rb) := grown_trans (grown_drewN w 1 _) e3
    have hb := h.fz.rbu
    have hu : w'.heap[c.ub]? = some (.cells (c.cells v) 59 (0, 0)) := by rw [e3.block c.ub (lt_of_block h1) (by simpa using hb.1.symm)]; exact h1
    exact ⟨e1, cells4_1 c hu, e2, hu, owns_blk h2 fun g cs _ hg => e3.block g (lt_of_block hg) (by simpa using blocks_ne hg h.r (by decide))⟩

theorem name49 : (Tryd.f49.name == "runtime.NumGoroutine") = false := by kernel_rfl
theorem body49 : Tryd.f49.body.isNone = false := by kernel_rfl
theorem run_digits (args : Array Value) (w : World) : (callFunc 49 args).run Tryd.prog w = .ok (.enter 49 args) w := by
  unfold callFunc
  simp only [Sem.run_bind, run_program, Result.andThen_ok, Tryd.func49, name49, body49, Bool.false_eq_true, if_false, Sem.run_pure]

/-- digits, called at a step of a region that draws. -/
theorem step_digits {ops : Array Oper} {o : Oper} {a : Act} {w : World} {K : Act → World → Prop} {Q : Exit → Act → World → Prop} {E : Prop} (hgd : o.guard = none) (x y : Operand) (ats : Array TypeId)
    (ho : o.op = .call { callee := .value (.func 49), args := #[x, y], argTypes := ats }) (vx vy : Value) (hx : a.eval x = vx) (hy : a.eval y = vy) (R : Value → World → Prop)
    (hc : Calls Tryd.prog 49 #[vx, vy] w fun e w' => ∃ v, e = .returned v ∧ R v w') (h : ∀ v w', R v w' → K (a.put o.dst v) w') :
    if Region.wanted o (yielded ops a.tmps) = true then Oper.wp Tryd.prog o a w K Q else E := by
  obtain ⟨dst, op, ty, pos, after, guard⟩ := o
  simp only at hgd ho h
  subst hgd ho
  have hw : Region.wanted { dst := dst, op := Op.call { callee := .value (.func 49), args := #[x, y], argTypes := ats }, type := ty, pos := pos, after := after, guard := none } (yielded ops a.tmps) = true := by simp [Region.wanted]
  rw [if_pos hw]
  unfold Oper.wp
  rw [execOp_call_go]
  have hargs : (#[] ++ #[x, y].map a.eval ++ #[]) = #[vx, vy] := by simp only [List.map_toArray, List.map_cons, List.map_nil, hx, hy]; rfl
  rw [hargs, run_digits, Oper.upon_enter]
  refine hc.mono ?_
  rintro e w' ⟨v, rfl, hr⟩
  exact h v w' hr

theorem i64_xor_nat (a b : Nat) (ha : a < 4294967296) (hb : b < 4294967296) : bits .xor .i64 (a : Int) (b : Int) = ((a ^^^ b : Nat) : Int) := by
  have hx : a ^^^ b < 2 ^ 32 := Nat.xor_lt_two_pow (by omega) (by omega)
  show IntKind.i64.wrap ((BitVec.ofInt 64 (a : Int) ^^^ BitVec.ofInt 64 (b : Int)).toNat : Int) = _
  rw [BitVec.toNat_xor, ofInt_u64 a (by omega), ofInt_u64 b (by omega), IntKind.wrap_i64]
  omega

set_option maxRecDepth 100000 in
set_option maxHeartbeats 8000000 in
theorem stored_any (c : Cx) (w : World) (p : Nat) (out : List Nat) (h : Up c w p false out) (ho : out.length ≤ 65536) :
    Calls Tryd.prog 65 #[.pointer (some ⟨c.ub, 0, none⟩)] w fun e w' => Left c (stoAt c.bs p out) e w' := by
  obtain ⟨R, hR⟩ : ∃ R, R = stoAt c.bs p out := ⟨_, rfl⟩
  rw [← hR]
  have c0 := h.c0
  have HU := mkHid h
  have HO := mkHid ho
  have HR := mkHid hR
  have hal := mkHid (fun w h => align_c c w p out h)
  obtain ⟨a, ha⟩ : ∃ a, a = (p + 7) / 8 * 8 := ⟨_, rfl⟩
  rw [← ha] at hal
  have HA := mkHid ha
  have hd1 : Hid (∀ w, Up c w a false out → Calls Tryd.prog 49 #[.pointer (some ⟨c.ub, 0, none⟩), .int .i64 16] w fun e w' => (∃ x : Nat, Hid (x = dig c.bs a 16) ∧ Hid (a + 16 ≤ 8 * c.bs.length) ∧ e = .returned (.int .i64 (x : Int)) ∧ Hid (Up c w' (a + 16) false out)) ∨ (Hid (8 * c.bs.length < a + 16) ∧ e = Pn 2 ∧ Hid (Fz c w'))) := fun w h => dig_c c w a 16 out h (by decide)
  have hd2 : Hid (∀ w, Up c w (a + 16) false out → Calls Tryd.prog 49 #[.pointer (some ⟨c.ub, 0, none⟩), .int .i64 16] w fun e w' => (∃ x : Nat, Hid (x = dig c.bs (a + 16) 16) ∧ Hid (a + 16 + 16 ≤ 8 * c.bs.length) ∧ e = .returned (.int .i64 (x : Int)) ∧ Hid (Up c w' (a + 16 + 16) false out)) ∨ (Hid (8 * c.bs.length < a + 16 + 16) ∧ e = Pn 2 ∧ Hid (Fz c w'))) := fun w h => dig_c c w (a + 16) 16 out h (by decide)
  have hlf := mkHid (fun w h => left_c c w (a + 16 + 16) out h)
  have hnt := mkHid need_true
  have hnf := mkHid need_false
  clear h ho hR ha
  go_enter Tryd.func65, Tryd.ntmps65
  go_upto_region 3 with (first
    | (go_at_call 77; (with_reducible refine (hal.out _ HU.out).mono ?_)
       rintro e w1 ⟨rfl, HV⟩
       clear c0)
    | (go_at_call 49; (with_reducible refine (hd1.out _ HV.out).mono ?_)
       rintro e w2 (⟨n, H1, H2, rfl, HW⟩ | ⟨H2, rfl, HW⟩))
    | (go_at_call 49; (with_reducible refine (hd2.out _ HW.out).mono ?_)
       rintro e w3 (⟨m, H3, H4, rfl, HX⟩ | ⟨H4, rfl, HX⟩)))
  rotate_left 1
  · refine ⟨rfl, ?_⟩
    rw [HR.out]
    unfold stoAt
    rw [← HA.out, if_neg (by have := H2.out; omega), if_pos H4.out]
    exact ⟨rfl, HX.out⟩
  · refine ⟨rfl, ?_⟩
    rw [HR.out]
    unfold stoAt
    rw [← HA.out, if_pos H2.out]
    exact ⟨rfl, HW.out⟩
  have hn16 : n < 65536 := by rw [H1.out]; exact get_less _ _ _ (by decide)
  have hxo : bits .xor .i64 (n : Int) 65535 = ((n ^^^ 65535 : Nat) : Int) := i64_xor_nat n 65535 (by omega) (by decide)
  obtain ⟨y, hy⟩ : ∃ y, y = n ^^^ 65535 := ⟨_, rfl⟩
  rw [← hy] at hxo
  have HY := mkHid hy
  have HN := mkHid hn16
  have hni : (n : Int) < 65536 := by omega
  have d0 := HX.out.c0
  clear hy hn16 hal hd1 hd2 HU HV HW
  by_cases hym : y = m
  · subst hym
    obtain ⟨P, hP⟩ : ∃ P, P = a + 16 + 16 := ⟨_, rfl⟩
    rw [← hP] at hlf HX H4
    have HP := mkHid hP
    clear hP
    obtain ⟨F, hF⟩ : ∃ F, F = 8 * c.bs.length - P := ⟨_, rfl⟩
    have HFF := mkHid hF
    rw [← hF] at hlf
    clear hF
    by_cases hle : n * 8 ≤ F
    · have hdd : decide ((n : Int) * 8 ≤ (F : Int)) = true := by simp; omega
      have HLE := mkHid hle
      have hrm := mkHid (fun w h => room_any c w P n out h (by have := HN.out; omega) HO.out)
      clear hle
      go_upto_region 6 with (first
        | (go_at_call 63; (with_reducible refine (hnt.out _).mono ?_); rintro e w5 ⟨rfl, hx⟩; subst hx)
        | (go_at_call 68; (with_reducible refine (hlf.out _ HX.out).mono ?_); rintro e w4 ⟨rfl, HZ⟩; clear d0)
        | (go_at_call 78; (with_reducible refine (hrm.out _ HZ.out).mono ?_); rintro e w6 hq
           rcases hq with ⟨hl, rfl, hu⟩ | ⟨hl, rfl, hu⟩
           all_goals
             have H7 := mkHid hl
             have HT := mkHid hu
             clear hl hu))
      rotate_left 1
      · refine ⟨rfl, ?_⟩
        rw [HR.out]
        unfold stoAt
        rw [← HA.out, if_neg (by have := H2.out; omega), if_neg (by have := H4.out; have := HP.out; omega), if_neg (by rw [← H1.out, ← H3.out, ← HY.out]; simp), if_neg (by rw [← H1.out]; have := HLE.out; have := HFF.out; have := HP.out; have := H4.out; omega), if_pos (by rw [← H1.out]; exact H7.out)]
        exact ⟨rfl, HT.out⟩
      have HRR : Hid (R = .ok (P + n * 8, out ++ bytesAt c.bs P n)) := by
        show _ = _
        rw [HR.out]
        unfold stoAt
        have e : a + 32 = P := by have := HP.out; omega
        rw [← HA.out, if_neg (by have := H2.out; omega), if_neg (by have := H4.out; have := HP.out; omega), if_neg (by rw [← H1.out, ← H3.out, ← HY.out]; simp), if_neg (by rw [← H1.out]; have := HLE.out; have := HFF.out; have := HP.out; have := H4.out; omega), if_neg (by rw [← H1.out]; have := H7.out; omega), ← H1.out, e]
      have HB : Hid (P + n * 8 ≤ 8 * c.bs.length) := by show _ ≤ _; have := HLE.out; have := HFF.out; have := H4.out; omega
      clear hrm hlf hnt hnf HX HZ HR H1 H2 H3 H4 HY HLE HFF HP HA hdd hxo
      go_wp2
      go_loopg [31] n (fun k i wr => ∃ j : Nat, Hid (k = n - j) ∧ j ≤ n ∧ i = .int .i64 (j : Int) ∧ Hid (Up c wr (P + 8 * j) false (out ++ bytesAt c.bs P j)))
      case atStart => exact ⟨0, by show _ = _; omega, by omega, rfl, by show Up _ _ _ _ _; simpa [bytesAt] using HT.out⟩
      case round =>
        clear HT
        obtain ⟨j, HK, hj, rfl, HU⟩ := hrel
        by_cases hjn : j < n
        · obtain ⟨v, hv1, hv2⟩ := HU.out.u
          have c1 := cells4_1 c hv1
          obtain ⟨x, hx256, HX8, hby⟩ := byte_c c wr (P + 8 * j) _ v HU.out hv1 hv2 (by have := HB.out; omega)
          have hm1 : (out ++ bytesAt c.bs P j).length + 1 ≤ 140737488355328 := by
            have := H7.out
            simp [bytesAt]
            omega
          have hwx : IntKind.u8.wrap (x : Int) = (x : Int) := by rw [IntKind.wrap_u8']; omega
          clear hv1 hv2
          go_wp2
          go_region_law (first
            | (refine step_digits (by rfl) (.tmp 38) (.const (.int .i64 8)) _ (by rfl) _ _ (by rfl) (by rfl) (fun v' w' => v' = .int .i64 (x : Int) ∧ w'.cell? ⟨c.ub, 1, none⟩ = some v ∧ Hid (Up c w' (P + 8 * j + 8) false (out ++ bytesAt c.bs P j) ∧ w'.heap[c.ub]? = some (.cells (c.cells v) 59 (0, 0)) ∧ w'.ownsRow c.w0.heap.size 5 1 v (out ++ bytesAt c.bs P j).length ((out ++ bytesAt c.bs P j).map byteV))) (hby.out.mono fun e w' hh => ⟨_, hh.1, rfl, hh.2⟩) ?_
               rintro v5 w5 ⟨rfl, c2, HW⟩
               have c2a : ∀ o : Obj, (w5.alloc o).cell? ⟨c.ub, 1, none⟩ = some v := fun o => cell_old ((Below.refl _ _).alloc (Nat.le_refl _) _) c2)
            | (refine step_pushB (by rfl) (.tmp 37) (.tmp 41) (by rfl) c.w0.heap.size v (out ++ bytesAt c.bs P j).length _ (by rfl) (by first | exact HW.out.2.2.alloc _ | fail) (x : Int) _ (by rfl) (by first | exact heap_alloc_new _ _ | fail) hm1 (by first | (have := HW.out.1.fz.size; simp; omega) | fail) ?_
               intro g5 cap5 w6 ho5 hf5
               have HO5 := mkHid ho5
               have HF5 : Hid (Fr none v.ownBlock w5 w6) := fr_mid hf5 (below_h1 rfl rfl rfl rfl)
               have hu5 : w6.heap[c.ub]? = some (.cells (c.cells v) 59 (0, 0)) := by rw [HF5.out.block c.ub (lt_of_block HW.out.2.1) (by simp) (owns_ne HW.out.2.2 HW.out.2.1 (by decide)).symm]; exact HW.out.2.1
               have d1 := cells4_1 c hu5
               have d2 := free_at hu5 1
               clear ho5 hf5 hu5))
          all_goals go_wp2
          all_goals
            go_roundg (n - (j + 1))
            case measure => have := HK.out; omega
            case rel =>
              refine ⟨j + 1, rfl, by omega, by go_num, ?_⟩
              have hp := HW.out.1.push HW.out.2.1 HW.out.2.2 rfl HO5.out HF5.out
              have e1 : P + 8 * (j + 1) = P + 8 * j + 8 := by omega
              have e2 : out ++ bytesAt c.bs P (j + 1) = out ++ bytesAt c.bs P j ++ [x] := by
                rw [HX8.out]
                unfold bytesAt
                rw [List.range_succ, List.map_append, List.append_assoc]
                rfl
              show Up _ _ _ _ _
              rw [e1, e2]
              rw [List.length_append] at hp
              exact hp
        · have hjj : j = n := by omega
          subst hjj
          go_wp2
          go_end0
          rw [HRR.out]
          refine ⟨rfl, ?_, ?_⟩
          · have := HU.out; rw [Nat.mul_comm] at this; exact this
          · rw [List.length_append]; simp [bytesAt]; exact H7.out
    · have hdd : decide ((n : Int) * 8 ≤ (F : Int)) = false := by simp; omega
      have HLE := mkHid hle
      clear hle
      go_wp2_with (first
        | (go_at_call 63; (with_reducible refine (hnt.out _).mono ?_); rintro e w5 ⟨rfl, hx⟩; subst hx)
        | (go_at_call 68; (with_reducible refine (hlf.out _ HX.out).mono ?_); rintro e w4 ⟨rfl, HZ⟩; clear d0)
        | (go_at_call 63; (with_reducible refine (hnf.out _).mono ?_); rintro e w5 ⟨rfl, hx⟩; subst hx))
      refine ⟨rfl, ?_⟩
      rw [HR.out]
      unfold stoAt
      rw [← HA.out, if_neg (by have := H2.out; omega), if_neg (by have := H4.out; have := HP.out; omega), if_neg (by rw [← H1.out, ← H3.out, ← HY.out]; simp), if_pos (by rw [← H1.out]; have := HLE.out; have := HFF.out; have := HP.out; have := H4.out; omega)]
      exact ⟨rfl, HZ.out.fz⟩
  · have hne : ((y : Int) == (m : Int)) = false := by simp; omega
    have HNE := mkHid hym
    clear hym
    go_wp2_with (first
      | (go_at_call 63; (with_reducible refine (hnf.out _).mono ?_); rintro e w5 ⟨rfl, hx⟩; subst hx))
    refine ⟨rfl, ?_⟩
    rw [HR.out]
    unfold stoAt
    rw [← HA.out, if_neg (by have := H2.out; omega), if_neg (by have := H4.out; omega), if_pos (by rw [← H1.out, ← H3.out, ← HY.out]; exact HNE.out)]
    exact ⟨rfl, HX.out.fz⟩
end Go.Proofs.YtdokpimhhkbdbaaDoor.Q
