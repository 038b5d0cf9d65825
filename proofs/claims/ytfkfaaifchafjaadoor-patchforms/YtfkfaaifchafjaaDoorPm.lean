/-
  Patches in plain lists: what may be, the text of one, reading; nothing of a program.
-/
import Derived.Test.YtfkfaaifchafjaaDoorRb
import Derived.Lib.SplitLaws
import Derived.Lib.ItoaNum
import Derived.Lib.AtoiAll
set_option linter.unusedSimpArgs false
set_option linter.unusedVariables false
namespace Go.Proofs.YtfkfaaifchafjaaDoor
open Go.Lib

abbrev Txt := List UInt8
abbrev Idn := Txt × Int
/-- kind, file, line, text -/
abbrev Chg := Int × Idn × Idn × Txt
/-- name, tag, needs, changes -/
abbrev Pat := Txt × Bool × List Txt × List Chg


def zid : Idn := ([], 0)
def chg0 : Chg := (0, zid, zid, [])

/-- the i-th of the needs may stand there -/
def needOk (name : Txt) (l : List Txt) (i : Nat) : Bool :=
  rightL (l.getD i []) && !decide (l.getD i [] = name) && (decide (i = 0) || decide (l.getD (i - 1) [] < l.getD i []))
def needsOk (name : Txt) (l : List Txt) : Bool := (List.range l.length).all (needOk name l)

def ofNeeds (needs : List Txt) (x : Idn) : Bool := decide (1 ≤ x.2) && decide (x.2 ≤ 40) && decide (x.1 ∈ needs)
def ownChg (name : Txt) (chs : List Chg) (x : Idn) : Chg := if x.1 = name ∧ 1 ≤ x.2 ∧ x.2 ≤ chs.length then chs.getD (x.2.toNat - 1) chg0 else chg0
def hasFile (name : Txt) (needs : List Txt) (chs : List Chg) (x : Idn) : Bool := ofNeeds needs x || decide ((ownChg name chs x).1 = 1)
def hasLine (name : Txt) (needs : List Txt) (chs : List Chg) (f x : Idn) : Bool := ofNeeds needs x || (decide ((ownChg name chs x).1 = 4) && decide ((ownChg name chs x).2.1 = f))

/-- c may be the next change behind chs -/
def chgOk (name : Txt) (needs : List Txt) (chs : List Chg) (c : Chg) : Bool :=
  if c.1 = 1 then rightL c.2.2.2 && decide (c.2.1 = zid) && decide (c.2.2.1 = zid)
  else if c.1 = 2 then rightL c.2.2.2 && hasFile name needs chs c.2.1 && decide (c.2.2.1 = zid)
  else if c.1 = 3 then decide (c.2.2.2 = []) && hasFile name needs chs c.2.1 && decide (c.2.2.1 = zid)
  else if c.1 = 4 then lineL c.2.2.2 && hasFile name needs chs c.2.1 && (decide (c.2.2.1 = zid) || hasLine name needs chs c.2.1 c.2.2.1)
  else if c.1 = 5 then decide (c.2.2.2 = []) && hasFile name needs chs c.2.1 && hasLine name needs chs c.2.1 c.2.2.1
  else false

def countOk (tag : Bool) (n : Nat) : Bool := if tag then decide (n = 0) else decide (1 ≤ n) && decide (n ≤ 40)
def chgsOk (name : Txt) (needs : List Txt) (chs : List Chg) : Bool := (List.range chs.length).all fun k => chgOk name needs (chs.take k) (chs.getD k chg0)
def checkM (p : Pat) : Bool := rightL p.1 && needsOk p.1 p.2.2.1 && countOk p.2.1 p.2.2.2.length && chgsOk p.1 p.2.2.1 p.2.2.2

def idT (x : Idn) : Txt := if x = zid then [45] else x.1 ++ [46] ++ decDigits x.2.toNat
/-- a word's line without its end: words, a blank ahead of each but the first -/
def wordsT (w : Txt) (l : List Txt) : Txt := w ++ l.flatMap fun x => 32 :: x
def wPatch : Txt := [112, 97, 116, 99, 104]
def wTag : Txt := [116, 97, 103]
def wNeeds : Txt := [110, 101, 101, 100, 115]
def wMake : Txt := [109, 97, 107, 101]
def wName : Txt := [110, 97, 109, 101]
def wDrop : Txt := [100, 114, 111, 112]
def wPut : Txt := [112, 117, 116]
def wCut : Txt := [99, 117, 116]
def chgW (c : Chg) : Txt × List Txt :=
  if c.1 = 1 then (wMake, [c.2.2.2])
  else if c.1 = 2 then (wName, [idT c.2.1, c.2.2.2])
  else if c.1 = 3 then (wDrop, [idT c.2.1])
  else if c.1 = 4 then (wPut, [idT c.2.1, idT c.2.2.1, c.2.2.2])
  else (wCut, [idT c.2.1, idT c.2.2.1])
def chgT (c : Chg) : Txt := wordsT (chgW c).1 (chgW c).2
def printM (p : Pat) : Txt := wordsT (if p.2.1 then wTag else wPatch) [p.1] ++ [10] ++ (wordsT wNeeds p.2.2.1 ++ [10]) ++ p.2.2.2.flatMap fun c => chgT c ++ [10]

/-- up to the first byte d, what is behind it, whether it is there -/
def cutB (d : UInt8) : Txt → Txt × Txt × Bool
  | [] => ([], [], false)
  | c :: s => if c = d then ([], s, true) else (c :: (cutB d s).1, (cutB d s).2.1, (cutB d s).2.2)

def splB (d : UInt8) : Txt → List Txt
  | [] => [[]]
  | c :: s => if c = d then [] :: splB d s else match splB d s with | [] => [[c]] | l :: r => (c :: l) :: r

def numM (d : Txt) : Option Nat := ((List.range 40).map (· + 1)).find? fun n => decide (decDigits n = d)
def idM (s : Txt) : Option Idn :=
  if s = [45] then some zid
  else if (cutB 46 s).2.2 && rightL (cutB 46 s).1 then (numM (cutB 46 s).2.1).map fun n => ((cutB 46 s).1, (n : Int)) else none

def chgM (s : Txt) : Option Chg :=
  let w := (cutB 32 s).1
  let r := (cutB 32 s).2.1
  if w = wMake then some (1, zid, zid, r)
  else if w = wName then
    if (cutB 32 r).2.2 then (idM (cutB 32 r).1).map fun f => (2, f, zid, (cutB 32 r).2.1) else none
  else if w = wDrop then (idM r).map fun f => (3, f, zid, [])
  else if w = wPut then
    if (cutB 32 r).2.2 && (cutB 32 (cutB 32 r).2.1).2.2 then
      (idM (cutB 32 r).1).bind fun f => (idM (cutB 32 (cutB 32 r).2.1).1).map fun l => (4, f, l, (cutB 32 (cutB 32 r).2.1).2.1) else none
  else if w = wCut then
    if (cutB 32 r).2.2 then (idM (cutB 32 r).1).bind fun f => (idM (cutB 32 r).2.1).map fun l => (5, f, l, []) else none
  else none

def pat0 : Pat := ([], false, [], [])
/-- the n-th line (from 1 on) of a patch of which p is what was read ahead of it -/
def readM (p : Pat) (n : Nat) (s : Txt) : Option Pat :=
  if n = 1 then
    if ((cutB 32 s).1 = wPatch ∨ (cutB 32 s).1 = wTag) ∧ rightL (cutB 32 s).2.1 = true then some ((cutB 32 s).2.1, decide ((cutB 32 s).1 = wTag), [], []) else none
  else if n = 2 then
    if (splB 32 s).head? = some wNeeds ∧ needsOk p.1 (splB 32 s).tail = true then some (p.1, p.2.1, (splB 32 s).tail, []) else none
  else match chgM s with
    | none => none
    | some c => if p.2.1 = false ∧ p.2.2.2.length < 40 ∧ chgOk p.1 p.2.2.1 p.2.2.2 c = true then some (p.1, p.2.1, p.2.2.1, p.2.2.2 ++ [c]) else none

/-- lines, each ended by a byte 10, and what is behind the last of them; fuel: the text's length is enough -/
def parseGo : Nat → Pat → Nat → Txt → Pat × Nat
  | 0, _, n, _ => (pat0, n)
  | k + 1, p, n, s =>
    if s = [] then if (if p.2.1 then 3 else 4) ≤ n then (p, 0) else (pat0, n)
    else if (cutB 10 s).2.2 then
      match readM p n (cutB 10 s).1 with
      | none => (pat0, n)
      | some q => parseGo k q (n + 1) (cutB 10 s).2.1
    else (pat0, n)
def parseM (s : Txt) : Pat × Nat := parseGo (s.length + 1) pat0 1 s


theorem index_cutB (d : UInt8) : ∀ s : Txt, (index s [d] = -1 ∧ cutB d s = (s, [], false) ∧ d ∉ s) ∨ (∃ i : Nat, index s [d] = i ∧ i < s.length ∧ cutB d s = (s.take i, s.drop (i + 1), true))
  | [] => .inl ⟨rfl, rfl, by simp⟩
  | c :: s => by
    by_cases h : c = d
    · subst h
      exact .inr ⟨0, by simp [index], by simp, by simp [cutB]⟩
    · have hp : ([d] : Txt).isPrefixOf (c :: s) = false := by
        simp [List.isPrefixOf]; exact fun e => h e.symm
      rcases index_cutB d s with ⟨h1, h2, h3⟩ | ⟨i, h1, h2, h3⟩
      · refine .inl ⟨?_, ?_, ?_⟩
        · unfold index; rw [hp, h1]; rfl
        · unfold cutB; rw [if_neg h, h2]
        · simp; exact ⟨fun e => h e.symm, h3⟩
      · refine .inr ⟨i + 1, ?_, by simpa using h2, ?_⟩
        · unfold index; rw [hp, h1]
          have : ((i : Int) == -1) = false := by rw [beq_eq_false_iff_ne]; omega
          simp [this]
        · unfold cutB; rw [if_neg h, h3]; simp

theorem cut_cutB (d : UInt8) (s : Txt) : Lib.cut s [d] = cutB d s := by
  unfold Lib.cut
  rcases index_cutB d s with ⟨h1, h2, _⟩ | ⟨i, h1, h2, h3⟩
  · rw [h1, h2, if_neg (by decide)]
  · rw [h1, h3, if_pos (by omega)]; simp

theorem cutB_none {d : UInt8} {s : Txt} (h : (cutB d s).2.2 = false) : cutB d s = (s, [], false) := by
  rcases index_cutB d s with ⟨_, h2, _⟩ | ⟨i, _, _, h3⟩
  · exact h2
  · rw [h3] at h; cases h

theorem cutB_some {d : UInt8} {s : Txt} (h : (cutB d s).2.2 = true) : s = (cutB d s).1 ++ d :: (cutB d s).2.1 := by
  induction s with
  | nil => cases h
  | cons c s ih =>
    unfold cutB at h ⊢
    split
    · rename_i e; subst e; rfl
    · rename_i e; rw [if_neg e] at h; simpa using ih h

theorem cutB_fst (d : UInt8) : ∀ s : Txt, d ∉ (cutB d s).1
  | [] => by simp [cutB]
  | c :: s => by
    unfold cutB
    split
    · simp
    · rename_i e; simp only [List.mem_cons, not_or]; exact ⟨fun x => e x.symm, cutB_fst d s⟩

theorem cutB_at (d : UInt8) (a b : Txt) (h : d ∉ a) : cutB d (a ++ d :: b) = (a, b, true) := by
  induction a with
  | nil => simp [cutB]
  | cons c a ih =>
    simp only [List.mem_cons, not_or] at h
    rw [List.cons_append]
    unfold cutB
    rw [if_neg (fun e => h.1 e.symm), ih h.2]

theorem cutB_not (d : UInt8) (a : Txt) (h : d ∉ a) : cutB d a = (a, [], false) := by
  induction a with
  | nil => simp [cutB]
  | cons c a ih =>
    simp only [List.mem_cons, not_or] at h
    unfold cutB
    rw [if_neg (fun e => h.1 e.symm), ih h.2]

theorem cutB_len (d : UInt8) (s : Txt) : (cutB d s).1.length ≤ s.length ∧ (cutB d s).2.1.length ≤ s.length ∧ ((cutB d s).2.2 = true → (cutB d s).2.1.length < s.length) := by
  induction s with
  | nil => simp [cutB]
  | cons c s ih =>
    unfold cutB
    split
    · simp
    · simp only [List.length_cons]; exact ⟨by omega, by omega, fun h => by have := ih.2.2 h; omega⟩

/-- the pieces between bytes d: at most k cuts -/
def splN (d : UInt8) : Nat → Txt → List Txt
  | 0, s => [s]
  | k + 1, s => if (cutB d s).2.2 then (cutB d s).1 :: splN d k (cutB d s).2.1 else [s]

theorem splitK_splN (d : UInt8) : ∀ (k : Nat) (s : Txt), splitK [d] 0 k s = splN d k s
  | 0, _ => rfl
  | k + 1, s => by
    unfold splitK splN
    rcases index_cutB d s with ⟨h1, h2, _⟩ | ⟨i, h1, h2, h3⟩
    · rw [h1, h2]; rfl
    · have : ((i : Int) == -1) = false := by rw [beq_eq_false_iff_ne]; omega
      rw [h1, h3, this]
      simp only [Bool.false_eq_true, if_false, if_true]
      rw [show ((i : Int).toNat + 0) = i by omega, show ((i : Int).toNat + [d].length) = i + 1 by simp, splitK_splN d k]

theorem cutB_cons_ne {d c : UInt8} (h : c ≠ d) (s : Txt) : cutB d (c :: s) = (c :: (cutB d s).1, (cutB d s).2.1, (cutB d s).2.2) := by
  rw [cutB, if_neg h]
theorem splB_cons_ne {d c : UInt8} (h : c ≠ d) (s : Txt) : splB d (c :: s) = match splB d s with | [] => [[c]] | l :: r => (c :: l) :: r := by
  rw [splB, if_neg h]
theorem splB_cons_eq (d : UInt8) (s : Txt) : splB d (d :: s) = [] :: splB d s := by
  rw [splB, if_pos rfl]
theorem splN_zero (d : UInt8) (s : Txt) : splN d 0 s = [s] := by cases s <;> rfl
theorem splN_succ (d : UInt8) (k : Nat) (s : Txt) : splN d (k + 1) s = if (cutB d s).2.2 then (cutB d s).1 :: splN d k (cutB d s).2.1 else [s] := by rw [splN]

theorem splB_splN (d : UInt8) : ∀ (s : Txt) (k : Nat), s.count d ≤ k → splN d k s = splB d s
  | [], k, _ => by cases k <;> simp [splN, splB, cutB]
  | c :: s, k, h => by
    by_cases e : c = d
    · subst e
      rw [List.count_cons_self] at h
      cases k with
      | zero => omega
      | succ k =>
        rw [splB_cons_eq, splN_succ]
        simp only [cutB, if_true]
        rw [splB_splN c s k (by omega)]
    · rw [List.count_cons_of_ne e] at h
      rw [splB_cons_ne e, ← splB_splN d s k h]
      cases k with
      | zero => rw [splN_zero, splN_zero]
      | succ k =>
        rw [splN_succ, splN_succ]
        rw [cutB_cons_ne e]
        by_cases hc : (cutB d s).2.2 = true
        · simp [hc]
        · have hc' : (cutB d s).2.2 = false := by simpa using hc
          simp [hc']

theorem split_splB (d : UInt8) (s : Txt) : Lib.split s [d] = splB d s := by
  unfold Lib.split
  rw [splitK_splN, splB_splN d s _ (by rw [count_one]; exact Nat.le_refl _)]

theorem splB_ne (d : UInt8) (s : Txt) : splB d s ≠ [] := by
  cases s with
  | nil => simp [splB]
  | cons c s =>
    unfold splB
    split
    · simp
    · split <;> simp

theorem splB_len (d : UInt8) (s : Txt) : (splB d s).length ≤ s.length + 1 := by
  induction s with
  | nil => simp [splB]
  | cons c s ih =>
    unfold splB
    split
    · simp; omega
    · split
      · simp
      · rename_i h; rw [h] at ih; simp at ih ⊢; omega

theorem splB_app (d : UInt8) (a : Txt) (s : Txt) (ha : d ∉ a) : splB d (a ++ d :: s) = a :: splB d s := by
  induction a with
  | nil => rw [List.nil_append, splB_cons_eq]
  | cons c a ih =>
    simp only [List.mem_cons, not_or] at ha
    rw [List.cons_append, splB_cons_ne (fun e => ha.1 e.symm), ih ha.2]

theorem splB_not (d : UInt8) (a : Txt) (ha : d ∉ a) : splB d a = [a] := by
  induction a with
  | nil => rfl
  | cons c a ih =>
    simp only [List.mem_cons, not_or] at ha
    rw [splB_cons_ne (fun e => ha.1 e.symm), ih ha.2]

theorem splB_join (d : UInt8) (l : List Txt) (hl : ∀ x ∈ l, d ∉ x) : ∀ a : Txt, d ∉ a → splB d (a ++ l.flatMap fun x => d :: x) = a :: l := by
  induction l with
  | nil => intro a ha; simpa using splB_not d a ha
  | cons x l ih =>
    intro a ha
    rw [List.flatMap_cons, List.cons_append, splB_app d a _ ha, ih (fun y hy => hl y (List.mem_cons_of_mem _ hy)) x (hl x (by simp))]

/-! ids -/
theorem num_some {d : Txt} {n : Nat} (h : numM d = some n) : 1 ≤ n ∧ n ≤ 40 ∧ decDigits n = d := by
  unfold numM at h
  have h1 := List.mem_of_find?_eq_some h
  have h2 := List.find?_some h
  simp at h1 h2
  obtain ⟨a, ha, rfl⟩ := h1
  exact ⟨by omega, by omega, h2⟩

theorem num_dig : ∀ n : Fin 41, 1 ≤ n.val → numM (decDigits n.val) = some n.val := by decide +kernel

theorem num_none {d : Txt} (h : numM d = none) (n : Nat) (h1 : 1 ≤ n) (h2 : n ≤ 40) : decDigits n ≠ d := by
  rintro rfl
  have := num_dig ⟨n, by omega⟩ h1
  simp only at this
  rw [this] at h; cases h

theorem dig_ok : ∀ n : Fin 41, atoiAll (decDigits n.val) = .ok (n.val : Int) := by decide +kernel
theorem dig_len : ∀ n : Fin 41, (decDigits n.val).length ≤ 2 := by decide +kernel
theorem dig_sign : ∀ n : Fin 41, (decDigits n.val).all (fun c => decide (48 ≤ c.toNat) && decide (c.toNat ≤ 57)) = true := by decide +kernel

theorem right_no46 {l : Txt} (h : rightL l = true) : 46 ∉ l ∧ 32 ∉ l ∧ 10 ∉ l ∧ 45 ∉ l := by
  unfold rightL at h
  simp only [Bool.and_eq_true, List.all_eq_true] at h
  refine ⟨fun hm => ?_, fun hm => ?_, fun hm => ?_, fun hm => ?_⟩ <;> exact absurd (h.2 _ hm) (by decide)

theorem right_len {l : Txt} (h : rightL l = true) : 1 ≤ l.length ∧ l.length ≤ 8 := by
  unfold rightL at h; simp at h; omega

/-- an id that may stand: zero, or a right name and 1 to 40 -/
def idOk (x : Idn) : Bool := decide (x = zid) || (rightL x.1 && decide (1 ≤ x.2) && decide (x.2 ≤ 40))

theorem idM_ok {s : Txt} {x : Idn} (h : idM s = some x) : idOk x = true ∧ idT x = s := by
  unfold idM at h
  split at h
  · rename_i hs; cases h; exact ⟨by decide, by rw [hs]; rfl⟩
  · split at h
    · rename_i h0 h1
      simp only [Bool.and_eq_true] at h1
      obtain ⟨hc, hr⟩ := h1
      cases hn : numM (cutB 46 s).2.1 with
      | none => rw [hn] at h; cases h
      | some n =>
        rw [hn] at h
        cases h
        obtain ⟨a, b, c⟩ := num_some hn
        have hne : ((cutB 46 s).1, (n : Int)) ≠ zid := by
          intro e
          have := congrArg Prod.snd e
          simp [zid] at this
          omega
        refine ⟨by unfold idOk; simp [hr]; omega, ?_⟩
        unfold idT
        rw [if_neg hne]
        simp only [Int.toNat_natCast]
        rw [c, List.append_assoc]
        exact (cutB_some hc).symm
    · cases h

theorem idM_back {x : Idn} (h : idOk x = true) : idM (idT x) = some x := by
  unfold idOk at h
  simp only [Bool.or_eq_true, decide_eq_true_eq, Bool.and_eq_true] at h
  rcases h with rfl | ⟨⟨hr, h1⟩, h2⟩
  · rfl
  · obtain ⟨p, n⟩ := x
    simp only at hr h1 h2
    obtain ⟨k, rfl⟩ := Int.eq_ofNat_of_zero_le (show 0 ≤ n by omega)
    have hne : ((p, (k : Int)) : Idn) ≠ zid := by
      intro e
      have := congrArg Prod.snd e
      simp [zid] at this
      omega
    have hT : idT (p, (k : Int)) = p ++ 46 :: decDigits k := by unfold idT; rw [if_neg hne]; simp
    rw [hT]
    have h46 := (right_no46 hr).1
    have h45 : p ++ 46 :: decDigits k ≠ [45] := by
      intro e
      have hl := congrArg List.length e
      have := (right_len hr).1
      simp at hl
      omega
    unfold idM
    rw [if_neg h45, cutB_at 46 p _ h46]
    have := num_dig ⟨k, by omega⟩ (by simp; omega)
    simp only at this
    simp [hr, this]

theorem idT_no32 {x : Idn} (h : idOk x = true) : 32 ∉ idT x := by
  unfold idOk at h
  simp only [Bool.or_eq_true, decide_eq_true_eq, Bool.and_eq_true] at h
  rcases h with rfl | ⟨⟨hr, h1⟩, h2⟩
  · decide
  · unfold idT
    split
    · decide
    · have a := (right_no46 hr).2.1
      have b := dig_sign ⟨x.2.toNat, by omega⟩
      simp only [List.all_eq_true] at b
      intro hm
      simp only [List.mem_append, List.mem_singleton] at hm
      rcases hm with (hm | hm) | hm
      · exact a hm
      · cases hm
      · exact absurd (b _ hm) (by decide)

theorem needOk_at {name : Txt} {l : List Txt} (h : needsOk name l = true) {i : Nat} (hi : i < l.length) : rightL (l.getD i []) = true ∧ l.getD i [] ≠ name ∧ (i = 0 ∨ l.getD (i - 1) [] < l.getD i []) := by
  unfold needsOk at h
  rw [List.all_eq_true] at h
  have := h i (by simpa using hi)
  unfold needOk at this
  simp only [Bool.and_eq_true, Bool.or_eq_true, decide_eq_true_eq, Bool.not_eq_true', decide_eq_false_iff_not] at this
  exact ⟨this.1.1, this.1.2, this.2⟩

theorem needs_right {name : Txt} {l : List Txt} (h : needsOk name l = true) {x : Txt} (hx : x ∈ l) : rightL x = true ∧ x ≠ name := by
  obtain ⟨i, hi, rfl⟩ := List.getElem_of_mem hx
  have := needOk_at h hi
  rw [show l.getD i [] = l[i] by simp [hi]] at this
  exact ⟨this.1, this.2.1⟩

theorem own_idOk {name : Txt} {chs : List Chg} {x : Idn} (hn : rightL name = true) (hl : chs.length ≤ 40) (h : (ownChg name chs x).1 ≠ 0) : idOk x = true := by
  unfold ownChg at h
  split at h
  · rename_i e
    obtain ⟨e1, e2, e3⟩ := e
    unfold idOk
    rw [e1, hn]
    simp
    omega
  · exact absurd rfl h

theorem file_idOk {name : Txt} {needs : List Txt} {chs : List Chg} {x : Idn} (hn : rightL name = true) (hs : needsOk name needs = true) (hl : chs.length ≤ 40) (h : hasFile name needs chs x = true) : idOk x = true := by
  unfold hasFile ofNeeds at h
  simp only [Bool.or_eq_true, Bool.and_eq_true, decide_eq_true_eq] at h
  rcases h with ⟨⟨h1, h2⟩, h3⟩ | h
  · have := (needs_right hs h3).1
    unfold idOk
    simp [this]; omega
  · exact own_idOk hn hl (by rw [h]; decide)

theorem line_idOk {name : Txt} {needs : List Txt} {chs : List Chg} {f x : Idn} (hn : rightL name = true) (hs : needsOk name needs = true) (hl : chs.length ≤ 40) (h : hasLine name needs chs f x = true) : idOk x = true := by
  unfold hasLine ofNeeds at h
  simp only [Bool.or_eq_true, Bool.and_eq_true, decide_eq_true_eq] at h
  rcases h with ⟨⟨h1, h2⟩, h3⟩ | ⟨h, _⟩
  · have := (needs_right hs h3).1
    unfold idOk
    simp [this]; omega
  · exact own_idOk hn hl (by rw [h]; decide)

/-- the kind, and what each kind has -/
theorem chgOk_form {name : Txt} {needs : List Txt} {chs : List Chg} {c : Chg} (hn : rightL name = true) (hs : needsOk name needs = true) (hl : chs.length ≤ 40) (h : chgOk name needs chs c = true) :
    (∃ t, c = (1, zid, zid, t) ∧ rightL t = true) ∨ (∃ f t, c = (2, f, zid, t) ∧ idOk f = true ∧ rightL t = true) ∨ (∃ f, c = (3, f, zid, []) ∧ idOk f = true)
      ∨ (∃ f l t, c = (4, f, l, t) ∧ idOk f = true ∧ idOk l = true ∧ lineL t = true) ∨ (∃ f l, c = (5, f, l, []) ∧ idOk f = true ∧ idOk l = true) := by
  obtain ⟨k, f, l, t⟩ := c
  unfold chgOk at h
  simp only at h
  split at h
  · rename_i hk; subst hk
    simp only [Bool.and_eq_true, decide_eq_true_eq] at h
    exact .inl ⟨t, by rw [h.1.2, h.2], h.1.1⟩
  split at h
  · rename_i hk; subst hk
    simp only [Bool.and_eq_true, decide_eq_true_eq] at h
    exact .inr (.inl ⟨f, t, by rw [h.2], file_idOk hn hs hl h.1.2, h.1.1⟩)
  split at h
  · rename_i hk; subst hk
    simp only [Bool.and_eq_true, decide_eq_true_eq] at h
    exact .inr (.inr (.inl ⟨f, by rw [h.2, h.1.1], file_idOk hn hs hl h.1.2⟩))
  split at h
  · rename_i hk; subst hk
    simp only [Bool.and_eq_true, Bool.or_eq_true, decide_eq_true_eq] at h
    refine .inr (.inr (.inr (.inl ⟨f, l, t, rfl, file_idOk hn hs hl h.1.2, ?_, h.1.1⟩)))
    rcases h.2 with h | h
    · rw [h]; decide
    · exact line_idOk hn hs hl h
  split at h
  · rename_i hk; subst hk
    simp only [Bool.and_eq_true, decide_eq_true_eq] at h
    exact .inr (.inr (.inr (.inr ⟨f, l, by rw [h.1.1], file_idOk hn hs hl h.1.2, line_idOk hn hs hl h.2⟩)))
  · cases h

theorem no32_cut {a : Txt} (h : 32 ∉ a) : cutB 32 a = (a, [], false) := cutB_not 32 a h

theorem chgM_back {name : Txt} {needs : List Txt} {chs : List Chg} {c : Chg} (hn : rightL name = true) (hs : needsOk name needs = true) (hl : chs.length ≤ 40) (h : chgOk name needs chs c = true) : chgM (chgT c) = some c := by
  rcases chgOk_form hn hs hl h with ⟨t, rfl, ht⟩ | ⟨f, t, rfl, hf, ht⟩ | ⟨f, rfl, hf⟩ | ⟨f, l, t, rfl, hf, hL, ht⟩ | ⟨f, l, rfl, hf, hL⟩
  · have e : chgT (1, zid, zid, t) = wMake ++ 32 :: t := by simp [chgT, chgW, wordsT]
    rw [e]; unfold chgM; rw [cutB_at 32 wMake t (by decide)]; simp
  · have e : chgT (2, f, zid, t) = wName ++ 32 :: (idT f ++ 32 :: t) := by simp [chgT, chgW, wordsT]
    rw [e]; unfold chgM; rw [cutB_at 32 wName _ (by decide)]
    simp only
    rw [if_neg (by decide), if_pos trivial, cutB_at 32 (idT f) t (idT_no32 hf), idM_back hf]
    rfl
  · have e : chgT (3, f, zid, []) = wDrop ++ 32 :: idT f := by simp [chgT, chgW, wordsT]
    rw [e]; unfold chgM; rw [cutB_at 32 wDrop _ (by decide)]
    simp only
    rw [if_neg (by decide), if_neg (by decide), if_pos trivial, idM_back hf]
    rfl
  · have e : chgT (4, f, l, t) = wPut ++ 32 :: (idT f ++ 32 :: (idT l ++ 32 :: t)) := by simp [chgT, chgW, wordsT]
    rw [e]; unfold chgM; rw [cutB_at 32 wPut _ (by decide)]
    simp only
    rw [if_neg (by decide), if_neg (by decide), if_neg (by decide), if_pos trivial, cutB_at 32 (idT f) _ (idT_no32 hf)]
    simp only
    rw [cutB_at 32 (idT l) t (idT_no32 hL), idM_back hf]
    simp only [Bool.and_self, if_true, Option.bind_some]
    rw [idM_back hL]; rfl
  · have e : chgT (5, f, l, []) = wCut ++ 32 :: (idT f ++ 32 :: idT l) := by simp [chgT, chgW, wordsT]
    rw [e]; unfold chgM; rw [cutB_at 32 wCut _ (by decide)]
    simp only
    rw [if_neg (by decide), if_neg (by decide), if_neg (by decide), if_neg (by decide), if_pos trivial, cutB_at 32 (idT f) _ (idT_no32 hf), idM_back hf]
    simp only [if_true, Option.bind_some]
    rw [idM_back hL]; rfl

theorem line_no10 {t : Txt} (h : lineL t = true) : 10 ∉ t := by
  unfold lineL at h
  simp only [Bool.and_eq_true, List.all_eq_true] at h
  intro hm
  exact absurd (h.2 _ hm) (by decide)

theorem idT_no10 {x : Idn} (h : idOk x = true) : 10 ∉ idT x := by
  unfold idOk at h
  simp only [Bool.or_eq_true, decide_eq_true_eq, Bool.and_eq_true] at h
  rcases h with rfl | ⟨⟨hr, h1⟩, h2⟩
  · decide
  · unfold idT
    split
    · decide
    · have a := (right_no46 hr).2.2.1
      have b := dig_sign ⟨x.2.toNat, by omega⟩
      simp only [List.all_eq_true] at b
      intro hm
      simp only [List.mem_append, List.mem_singleton] at hm
      rcases hm with (hm | hm) | hm
      · exact a hm
      · cases hm
      · exact absurd (b _ hm) (by decide)

theorem chgT_no10 {name : Txt} {needs : List Txt} {chs : List Chg} {c : Chg} (hn : rightL name = true) (hs : needsOk name needs = true) (hl : chs.length ≤ 40) (h : chgOk name needs chs c = true) : 10 ∉ chgT c := by
  rcases chgOk_form hn hs hl h with ⟨t, rfl, ht⟩ | ⟨f, t, rfl, hf, ht⟩ | ⟨f, rfl, hf⟩ | ⟨f, l, t, rfl, hf, hL, ht⟩ | ⟨f, l, rfl, hf, hL⟩
  · have := (right_no46 ht).2.2.1
    simp [chgT, chgW, wordsT, wMake, this]
  · have := (right_no46 ht).2.2.1
    have h2 := idT_no10 hf
    simp [chgT, chgW, wordsT, wName, this, h2]
  · have h2 := idT_no10 hf
    simp [chgT, chgW, wordsT, wDrop, h2]
  · have := line_no10 ht
    have h2 := idT_no10 hf
    have h3 := idT_no10 hL
    simp [chgT, chgW, wordsT, wPut, this, h2, h3]
  · have h2 := idT_no10 hf
    have h3 := idT_no10 hL
    simp [chgT, chgW, wordsT, wCut, h2, h3]

theorem chgM_text {s : Txt} {c : Chg} (h : chgM s = some c) : chgT c = s ∨ (c.1 = 1 ∧ c.2.2.2 = []) := by
  unfold chgM at h
  simp only at h
  cases hc : (cutB 32 s).2.2 with
  | false =>
    have e := cutB_none hc
    rw [e] at h
    simp only at h
    split at h
    · cases h; exact .inr ⟨rfl, rfl⟩
    split at h
    · simp [cutB] at h
    split at h
    · simp [idM, cutB] at h
    split at h
    · simp [cutB] at h
    split at h
    · simp [cutB] at h
    · cases h
  | true =>
    have e := cutB_some hc
    split at h
    · rename_i hw; cases h
      left; conv => rhs; rw [e, hw]
      simp [chgT, chgW, wordsT]
    split at h
    · rename_i _ hw
      split at h
      · rename_i hr
        obtain ⟨f, hf, rfl⟩ := Option.map_eq_some_iff.1 h
        have e2 := cutB_some hr
        have := (idM_ok hf).2
        left; conv => rhs; rw [e, hw, e2]
        simp [chgT, chgW, wordsT, this]
      · cases h
    split at h
    · rename_i _ _ hw
      obtain ⟨f, hf, rfl⟩ := Option.map_eq_some_iff.1 h
      have := (idM_ok hf).2
      left; conv => rhs; rw [e, hw]
      simp [chgT, chgW, wordsT, this]
    split at h
    · rename_i _ _ _ hw
      split at h
      · rename_i hr
        rw [Bool.and_eq_true] at hr
        obtain ⟨f, hf, h⟩ := Option.bind_eq_some_iff.1 h
        obtain ⟨l, hL, rfl⟩ := Option.map_eq_some_iff.1 h
        have e2 := cutB_some hr.1
        have e3 := cutB_some hr.2
        have a := (idM_ok hf).2
        have b := (idM_ok hL).2
        left; conv => rhs; rw [e, hw, e2, e3]
        simp [chgT, chgW, wordsT, a, b]
      · cases h
    split at h
    · rename_i _ _ _ _ hw
      split at h
      · rename_i hr
        obtain ⟨f, hf, h⟩ := Option.bind_eq_some_iff.1 h
        obtain ⟨l, hL, rfl⟩ := Option.map_eq_some_iff.1 h
        have e2 := cutB_some hr
        have a := (idM_ok hf).2
        have b := (idM_ok hL).2
        left; conv => rhs; rw [e, hw, e2]
        simp [chgT, chgW, wordsT, a, b]
      · cases h
    · cases h

end Go.Proofs.YtfkfaaifchafjaaDoor
