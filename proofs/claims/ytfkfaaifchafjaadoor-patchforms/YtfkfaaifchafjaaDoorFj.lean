/-
  change: drop; the ways out; every line.
-/
import Derived.Test.YtfkfaaifchafjaaDoorFi
set_option linter.unusedSimpArgs false
set_option linter.unusedVariables false
namespace Go.Proofs.YtfkfaaifchafjaaDoor
open Go.RowKit

set_option maxHeartbeats 2000000 in
set_option maxRecDepth 20000 in
theorem change_drop (B : Nat) (w : World) (R : Nat) (rest : Txt) (n : Nat) (p : Pat) (h : Rd B w R rest n p) (s : ByteArray) (hs : s.size ≤ 1000000) (hw : (cutB 32 s.data.toList).1 = wDrop) :
    Calls Tryd.prog 45 #[.pointer (some ⟨R, 0, none⟩), .string s] w (ChgP n s.data.toList w) := by
  obtain ⟨t, ht⟩ : ∃ t, t = str (cutB 32 s.data.toList).1 := ⟨_, rfl⟩
  obtain ⟨rl, hrl⟩ : ∃ rl, rl = (cutB 32 s.data.toList).2.1 := ⟨_, rfl⟩
  obtain ⟨r, hr⟩ : ∃ r, r = str rl := ⟨_, rfl⟩
  obtain ⟨f, hf⟩ : ∃ f, f = (cutB 32 s.data.toList).2.2 := ⟨_, rfl⟩
  have kc := cut_full s 32 hs t r f ht (by rw [hr, hrl]) hf
  have e1 : (t.toList == [109, 97, 107, 101]) = false := word_eq ht hw _ _ rfl
  have e2 : (t.toList == [110, 97, 109, 101]) = false := word_eq ht hw _ _ rfl
  have e3 : (t.toList == [100, 114, 111, 112]) = true := word_eq ht hw _ _ rfl
  have hrs : rl.length ≤ 1000000 := by
    have := (cutB_len 32 s.data.toList).2.1
    rw [size_list] at hs
    rw [hrl]
    omega
  obtain ⟨q, hq⟩ : ∃ q, q = (idC rl).1 := ⟨_, rfl⟩
  obtain ⟨m, hm⟩ : ∃ m, m = (idC rl).2 := ⟨_, rfl⟩
  obtain ⟨dd, hd⟩ : ∃ dd, dd = (idM rl).isNone := ⟨_, rfl⟩
  have hc : chgM s.data.toList = (idM rl).map fun f => (3, f, zid, []) := by
    unfold chgM
    simp only [hw, ← hrl]
    rw [if_neg (by decide), if_neg (by decide), if_pos trivial]
  have HN : Hid (idM rl = none → chgM s.data.toList = none) := fun e => by rw [hc, e]; rfl
  have HC : Hid (dd = false → ∃ c, chgM s.data.toList = some c ∧ (encC c).toArray = #[.int .i64 3, .string q, .int .i64 m, .string ⟨#[]⟩, .int .i64 0, .string ⟨#[]⟩]) := fun e => by
    rw [hd] at e
    cases hx : idM rl with
    | none => rw [hx] at e; cases e
    | some x =>
      refine ⟨(3, x, zid, []), by rw [hc, hx]; rfl, ?_⟩
      rw [hq, hm]
      unfold idC
      rw [hx]
      rfl
  have ki := fun (w : World) (hw : Rd B w R rest n p) => idOf_try B w R rest n p hw r (by rw [hr, str_size]; exact hrs) q (by rw [hr, str_list]; exact hq) m (by rw [hr, str_list]; exact hm) dd (by rw [hr, str_list]; exact hd)
  have HRL : Hid (r.data.toList = rl) := by rw [hr]; exact str_list rl
  have KI := mkHid ki
  have H0 := mkHid (h.old (old1 w (.cells #[.int .i64 0, .string ⟨#[]⟩, .int .i64 0, .string ⟨#[]⟩, .int .i64 0, .string ⟨#[]⟩] 44)) h.size)
  have HZ := mkHid (h10 w (.cells #[.int .i64 0, .string ⟨#[]⟩, .int .i64 0, .string ⟨#[]⟩, .int .i64 0, .string ⟨#[]⟩] 44))
  have HO := mkHid (old1 w (.cells #[.int .i64 0, .string ⟨#[]⟩, .int .i64 0, .string ⟨#[]⟩, .int .i64 0, .string ⟨#[]⟩] 44))
  clear hs hw ht hr hf h hc hrl hq hm hd hrs ki
  go_enter Tryd.func45, Tryd.ntmps45
  go_wp2_with (first
    | (go_at_call 58; (with_reducible refine (kc.out _ H0.out.e.e).mono ?_); rintro e w2 ⟨rfl, k2, rfl⟩)
    | (go_at_call 61; (with_reducible refine (KI.out _ (H0.out.drew k2 H0.out.size)).mono ?_); rintro e w3 (⟨rfl, hda, b3⟩ | ⟨ch, rfl, hda, hn, b3⟩)
       rotate_left
       · exact ⟨rfl, .inr ⟨HN.out (by rw [← HRL.out]; exact hn), hda⟩, below_then (below_drewB HO.out k2) b3⟩
       have HB3 := mkHid b3
       have HDA := mkHid hda
       clear b3 hda)
    | ((with_reducible refine at_op (.store 44 (.tmp 4) (.tmp 41)) ?_)
       refine wpList_store_row rfl 44 (.tmp 4) (.tmp 41) rfl w.heap.size #[.int .i64 3, .string q, .int .i64 m, .string ⟨#[]⟩, .int .i64 0, .string ⟨#[]⟩] rfl rfl 44 _ (block_old HB3.out HZ.out) size44 rfl (six_one _ _ _ _ _ _) ?_))
  obtain ⟨c, hc1, hc2⟩ := HC.out HDA.out
  exact bodyPost_ret (v := .agg #[.int .i64 3, .string q, .int .i64 m, .string ⟨#[]⟩, .int .i64 0, .string ⟨#[]⟩]) (ret45 _ _ w.heap.size _ rfl (setRow_heap _ _ _ _ _ _ (block_old HB3.out HZ.out)) rfl) rfl ⟨.inl ⟨c, hc1, by rw [hc2]⟩, below_setRow (below_then (below_drewB HO.out k2) HB3.out) (Nat.le_refl _) _⟩

set_option maxHeartbeats 2000000 in
set_option maxRecDepth 20000 in
theorem name_no (B : Nat) (w : World) (R : Nat) (rest : Txt) (n : Nat) (p : Pat) (h : Rd B w R rest n p) (s : ByteArray) (hs : s.size ≤ 1000000) (hw : (cutB 32 s.data.toList).1 = wName) (hcut : ¬ ((cutB 32 (cutB 32 s.data.toList).2.1).2.2) = true) :
    Calls Tryd.prog 45 #[.pointer (some ⟨R, 0, none⟩), .string s] w (ChgP n s.data.toList w) := by
  obtain ⟨t, ht⟩ : ∃ t, t = str (cutB 32 s.data.toList).1 := ⟨_, rfl⟩
  obtain ⟨rl, hrl⟩ : ∃ rl, rl = (cutB 32 s.data.toList).2.1 := ⟨_, rfl⟩
  obtain ⟨r, hr⟩ : ∃ r, r = str rl := ⟨_, rfl⟩
  obtain ⟨f, hf⟩ : ∃ f, f = (cutB 32 s.data.toList).2.2 := ⟨_, rfl⟩
  have kc := cut_full s 32 hs t r f ht (by rw [hr, hrl]) hf
  have e1 : (t.toList == [109, 97, 107, 101]) = false := word_eq ht hw _ _ rfl
  have e2 : (t.toList == [110, 97, 109, 101]) = true := word_eq ht hw _ _ rfl
  have hrs : rl.length ≤ 1000000 := by
    have := (cutB_len 32 s.data.toList).2.1
    rw [size_list] at hs
    rw [hrl]
    omega
  have hc : chgM s.data.toList = none := by
    unfold chgM
    simp only [hw, ← hrl]
    rw [if_neg (by decide), if_pos trivial, if_neg (by rw [hrl]; exact hcut)]
  have kp := fun (w : World) (hw : Rd B w R rest n p) => wordsR_no B w R rest n p hw r 2 (by rw [hr, str_size]; exact hrs) (by decide) (by decide) (by
    rw [hr, str_size, str_list]
    rw [words2, if_neg (by rw [hrl]; exact hcut)]
    simp)
  have KP : Hid (∀ w : World, Rd B w R rest n p → Calls Tryd.prog 60 #[.pointer (some ⟨R, 0, none⟩), .string r, .int .i64 2] w fun e w' => e = Pn (n : Int) ∧ Old w w') := kp
  have HC := mkHid hc
  have H0 := mkHid (h.old (old1 w (.cells #[.int .i64 0, .string ⟨#[]⟩, .int .i64 0, .string ⟨#[]⟩, .int .i64 0, .string ⟨#[]⟩] 44)) h.size)
  have HZ := mkHid (h10 w (.cells #[.int .i64 0, .string ⟨#[]⟩, .int .i64 0, .string ⟨#[]⟩, .int .i64 0, .string ⟨#[]⟩] 44))
  have HO := mkHid (old1 w (.cells #[.int .i64 0, .string ⟨#[]⟩, .int .i64 0, .string ⟨#[]⟩, .int .i64 0, .string ⟨#[]⟩] 44))
  clear hs hw ht hr hf h hc hrl hrs kp hcut
  go_enter Tryd.func45, Tryd.ntmps45
  go_wp2_with (first
    | (go_at_call 58; (with_reducible refine (kc.out _ H0.out.e.e).mono ?_); rintro e w2 ⟨rfl, k2, rfl⟩)
    | (go_at_call 60; (with_reducible refine (KP.out _ (H0.out.drew k2 H0.out.size)).mono ?_); rintro e w3 ⟨rfl, b3⟩))
  exact ⟨rfl, .inr ⟨HC.out, rfl⟩, below_then (below_drewB HO.out k2) b3⟩

set_option maxHeartbeats 2000000 in
set_option maxRecDepth 20000 in
theorem put_no (B : Nat) (w : World) (R : Nat) (rest : Txt) (n : Nat) (p : Pat) (h : Rd B w R rest n p) (s : ByteArray) (hs : s.size ≤ 1000000) (hw : (cutB 32 s.data.toList).1 = wPut) (hcut : ¬ (((cutB 32 (cutB 32 s.data.toList).2.1).2.2 && (cutB 32 (cutB 32 (cutB 32 s.data.toList).2.1).2.1).2.2)) = true) :
    Calls Tryd.prog 45 #[.pointer (some ⟨R, 0, none⟩), .string s] w (ChgP n s.data.toList w) := by
  obtain ⟨t, ht⟩ : ∃ t, t = str (cutB 32 s.data.toList).1 := ⟨_, rfl⟩
  obtain ⟨rl, hrl⟩ : ∃ rl, rl = (cutB 32 s.data.toList).2.1 := ⟨_, rfl⟩
  obtain ⟨r, hr⟩ : ∃ r, r = str rl := ⟨_, rfl⟩
  obtain ⟨f, hf⟩ : ∃ f, f = (cutB 32 s.data.toList).2.2 := ⟨_, rfl⟩
  have kc := cut_full s 32 hs t r f ht (by rw [hr, hrl]) hf
  have e1 : (t.toList == [109, 97, 107, 101]) = false := word_eq ht hw _ _ rfl
  have e2 : (t.toList == [110, 97, 109, 101]) = false := word_eq ht hw _ _ rfl
  have e3 : (t.toList == [100, 114, 111, 112]) = false := word_eq ht hw _ _ rfl
  have e4 : (t.toList == [112, 117, 116]) = true := word_eq ht hw _ _ rfl
  have hrs : rl.length ≤ 1000000 := by
    have := (cutB_len 32 s.data.toList).2.1
    rw [size_list] at hs
    rw [hrl]
    omega
  have hc : chgM s.data.toList = none := by
    unfold chgM
    simp only [hw, ← hrl]
    rw [if_neg (by decide), if_neg (by decide), if_neg (by decide), if_pos trivial, if_neg (by rw [hrl]; exact hcut)]
  have kp := fun (w : World) (hw : Rd B w R rest n p) => wordsR_no B w R rest n p hw r 3 (by rw [hr, str_size]; exact hrs) (by decide) (by decide) (by
    rw [hr, str_size, str_list]
    have := words3 rl
    rw [if_neg (by rw [hrl]; exact hcut)] at this
    exact this)
  have KP : Hid (∀ w : World, Rd B w R rest n p → Calls Tryd.prog 60 #[.pointer (some ⟨R, 0, none⟩), .string r, .int .i64 3] w fun e w' => e = Pn (n : Int) ∧ Old w w') := kp
  have HC := mkHid hc
  have H0 := mkHid (h.old (old1 w (.cells #[.int .i64 0, .string ⟨#[]⟩, .int .i64 0, .string ⟨#[]⟩, .int .i64 0, .string ⟨#[]⟩] 44)) h.size)
  have HZ := mkHid (h10 w (.cells #[.int .i64 0, .string ⟨#[]⟩, .int .i64 0, .string ⟨#[]⟩, .int .i64 0, .string ⟨#[]⟩] 44))
  have HO := mkHid (old1 w (.cells #[.int .i64 0, .string ⟨#[]⟩, .int .i64 0, .string ⟨#[]⟩, .int .i64 0, .string ⟨#[]⟩] 44))
  clear hs hw ht hr hf h hc hrl hrs kp hcut
  go_enter Tryd.func45, Tryd.ntmps45
  go_wp2_with (first
    | (go_at_call 58; (with_reducible refine (kc.out _ H0.out.e.e).mono ?_); rintro e w2 ⟨rfl, k2, rfl⟩)
    | (go_at_call 60; (with_reducible refine (KP.out _ (H0.out.drew k2 H0.out.size)).mono ?_); rintro e w3 ⟨rfl, b3⟩))
  exact ⟨rfl, .inr ⟨HC.out, rfl⟩, below_then (below_drewB HO.out k2) b3⟩

set_option maxHeartbeats 2000000 in
set_option maxRecDepth 20000 in
theorem cut_no (B : Nat) (w : World) (R : Nat) (rest : Txt) (n : Nat) (p : Pat) (h : Rd B w R rest n p) (s : ByteArray) (hs : s.size ≤ 1000000) (hw : (cutB 32 s.data.toList).1 = wCut) (hcut : ¬ ((cutB 32 (cutB 32 s.data.toList).2.1).2.2) = true) :
    Calls Tryd.prog 45 #[.pointer (some ⟨R, 0, none⟩), .string s] w (ChgP n s.data.toList w) := by
  obtain ⟨t, ht⟩ : ∃ t, t = str (cutB 32 s.data.toList).1 := ⟨_, rfl⟩
  obtain ⟨rl, hrl⟩ : ∃ rl, rl = (cutB 32 s.data.toList).2.1 := ⟨_, rfl⟩
  obtain ⟨r, hr⟩ : ∃ r, r = str rl := ⟨_, rfl⟩
  obtain ⟨f, hf⟩ : ∃ f, f = (cutB 32 s.data.toList).2.2 := ⟨_, rfl⟩
  have kc := cut_full s 32 hs t r f ht (by rw [hr, hrl]) hf
  have e1 : (t.toList == [109, 97, 107, 101]) = false := word_eq ht hw _ _ rfl
  have e2 : (t.toList == [110, 97, 109, 101]) = false := word_eq ht hw _ _ rfl
  have e3 : (t.toList == [100, 114, 111, 112]) = false := word_eq ht hw _ _ rfl
  have e4 : (t.toList == [112, 117, 116]) = false := word_eq ht hw _ _ rfl
  have e5 : (t.toList == [99, 117, 116]) = true := word_eq ht hw _ _ rfl
  have hrs : rl.length ≤ 1000000 := by
    have := (cutB_len 32 s.data.toList).2.1
    rw [size_list] at hs
    rw [hrl]
    omega
  have hc : chgM s.data.toList = none := by
    unfold chgM
    simp only [hw, ← hrl]
    rw [if_neg (by decide), if_neg (by decide), if_neg (by decide), if_neg (by decide), if_pos trivial, if_neg (by rw [hrl]; exact hcut)]
  have kp := fun (w : World) (hw : Rd B w R rest n p) => wordsR_no B w R rest n p hw r 2 (by rw [hr, str_size]; exact hrs) (by decide) (by decide) (by
    rw [hr, str_size, str_list]
    rw [words2, if_neg (by rw [hrl]; exact hcut)]
    simp)
  have KP : Hid (∀ w : World, Rd B w R rest n p → Calls Tryd.prog 60 #[.pointer (some ⟨R, 0, none⟩), .string r, .int .i64 2] w fun e w' => e = Pn (n : Int) ∧ Old w w') := kp
  have HC := mkHid hc
  have H0 := mkHid (h.old (old1 w (.cells #[.int .i64 0, .string ⟨#[]⟩, .int .i64 0, .string ⟨#[]⟩, .int .i64 0, .string ⟨#[]⟩] 44)) h.size)
  have HZ := mkHid (h10 w (.cells #[.int .i64 0, .string ⟨#[]⟩, .int .i64 0, .string ⟨#[]⟩, .int .i64 0, .string ⟨#[]⟩] 44))
  have HO := mkHid (old1 w (.cells #[.int .i64 0, .string ⟨#[]⟩, .int .i64 0, .string ⟨#[]⟩, .int .i64 0, .string ⟨#[]⟩] 44))
  clear hs hw ht hr hf h hc hrl hrs kp hcut
  go_enter Tryd.func45, Tryd.ntmps45
  go_wp2_with (first
    | (go_at_call 58; (with_reducible refine (kc.out _ H0.out.e.e).mono ?_); rintro e w2 ⟨rfl, k2, rfl⟩)
    | (go_at_call 60; (with_reducible refine (KP.out _ (H0.out.drew k2 H0.out.size)).mono ?_); rintro e w3 ⟨rfl, b3⟩))
  exact ⟨rfl, .inr ⟨HC.out, rfl⟩, below_then (below_drewB HO.out k2) b3⟩

set_option maxHeartbeats 2000000 in
set_option maxRecDepth 20000 in
theorem change_other (B : Nat) (w : World) (R : Nat) (rest : Txt) (n : Nat) (p : Pat) (h : Rd B w R rest n p) (s : ByteArray) (hs : s.size ≤ 1000000) (h1 : (cutB 32 s.data.toList).1 ≠ wMake) (h2 : (cutB 32 s.data.toList).1 ≠ wName) (h3 : (cutB 32 s.data.toList).1 ≠ wDrop) (h4 : (cutB 32 s.data.toList).1 ≠ wPut) (h5 : (cutB 32 s.data.toList).1 ≠ wCut) :
    Calls Tryd.prog 45 #[.pointer (some ⟨R, 0, none⟩), .string s] w (ChgP n s.data.toList w) := by
  obtain ⟨t, ht⟩ : ∃ t, t = str (cutB 32 s.data.toList).1 := ⟨_, rfl⟩
  obtain ⟨rl, hrl⟩ : ∃ rl, rl = (cutB 32 s.data.toList).2.1 := ⟨_, rfl⟩
  obtain ⟨r, hr⟩ : ∃ r, r = str rl := ⟨_, rfl⟩
  obtain ⟨f, hf⟩ : ∃ f, f = (cutB 32 s.data.toList).2.2 := ⟨_, rfl⟩
  have kc := cut_full s 32 hs t r f ht (by rw [hr, hrl]) hf
  have e1 : (t.toList == [109, 97, 107, 101]) = false := word_eq ht rfl _ _ (decide_eq_false h1)
  have e2 : (t.toList == [110, 97, 109, 101]) = false := word_eq ht rfl _ _ (decide_eq_false h2)
  have e3 : (t.toList == [100, 114, 111, 112]) = false := word_eq ht rfl _ _ (decide_eq_false h3)
  have e4 : (t.toList == [112, 117, 116]) = false := word_eq ht rfl _ _ (decide_eq_false h4)
  have e5 : (t.toList == [99, 117, 116]) = false := word_eq ht rfl _ _ (decide_eq_false h5)
  have hrs : rl.length ≤ 1000000 := by
    have := (cutB_len 32 s.data.toList).2.1
    rw [size_list] at hs
    rw [hrl]
    omega
  have hc : chgM s.data.toList = none := by
    unfold chgM
    simp only
    rw [if_neg h1, if_neg h2, if_neg h3, if_neg h4, if_neg h5]
  have HC := mkHid hc
  have H0 := mkHid (h.old (old1 w (.cells #[.int .i64 0, .string ⟨#[]⟩, .int .i64 0, .string ⟨#[]⟩, .int .i64 0, .string ⟨#[]⟩] 44)) h.size)
  have HZ := mkHid (h10 w (.cells #[.int .i64 0, .string ⟨#[]⟩, .int .i64 0, .string ⟨#[]⟩, .int .i64 0, .string ⟨#[]⟩] 44))
  have HO := mkHid (old1 w (.cells #[.int .i64 0, .string ⟨#[]⟩, .int .i64 0, .string ⟨#[]⟩, .int .i64 0, .string ⟨#[]⟩] 44))
  have c1 : ((w.alloc (.cells #[.int .i64 0, .string ⟨#[]⟩, .int .i64 0, .string ⟨#[]⟩, .int .i64 0, .string ⟨#[]⟩] 44))).cell? ⟨R, 1, none⟩ = some (.int .i64 (n : Int)) := H0.out.one
  clear hs ht hr hf h hc hrl hrs h1 h2 h3 h4 h5
  go_enter Tryd.func45, Tryd.ntmps45
  go_wp2_with (first
    | (go_at_call 58; (with_reducible refine (kc.out _ H0.out.e.e).mono ?_); rintro e w2 ⟨rfl, k2, rfl⟩))
  exact ⟨rfl, .inr ⟨HC.out, rfl⟩, below_drewB HO.out k2⟩

/-- What a line says, whatever it is. -/
theorem change_any (B : Nat) (w : World) (R : Nat) (rest : Txt) (n : Nat) (p : Pat) (h : Rd B w R rest n p) (s : ByteArray) (hs : s.size ≤ 1000000) :
    Calls Tryd.prog 45 #[.pointer (some ⟨R, 0, none⟩), .string s] w (ChgP n s.data.toList w) := by
  by_cases h1 : (cutB 32 s.data.toList).1 = wMake
  · exact change_make B w R rest n p h s hs h1
  by_cases h2 : (cutB 32 s.data.toList).1 = wName
  · by_cases hc : (cutB 32 (cutB 32 s.data.toList).2.1).2.2 = true
    · exact change_name B w R rest n p h s hs h2 hc
    · exact name_no B w R rest n p h s hs h2 hc
  by_cases h3 : (cutB 32 s.data.toList).1 = wDrop
  · exact change_drop B w R rest n p h s hs h3
  by_cases h4 : (cutB 32 s.data.toList).1 = wPut
  · by_cases hc : ((cutB 32 (cutB 32 s.data.toList).2.1).2.2 && (cutB 32 (cutB 32 (cutB 32 s.data.toList).2.1).2.1).2.2) = true
    · exact change_put B w R rest n p h s hs h4 hc
    · exact put_no B w R rest n p h s hs h4 hc
  by_cases h5 : (cutB 32 s.data.toList).1 = wCut
  · by_cases hc : (cutB 32 (cutB 32 s.data.toList).2.1).2.2 = true
    · exact change_cut B w R rest n p h s hs h5 hc
    · exact cut_no B w R rest n p h s hs h5 hc
  · exact change_other B w R rest n p h s hs h1 h2 h3 h4 h5

end Go.Proofs.YtfkfaaifchafjaaDoor
