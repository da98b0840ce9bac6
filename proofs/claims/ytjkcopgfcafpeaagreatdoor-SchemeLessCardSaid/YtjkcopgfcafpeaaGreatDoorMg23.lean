/-
  Parts of one proof, laid into one text: SPlain. Conditions: each part names its own.
-/
import Derived.Test.YtjkcopgfcafpeaaGreatDoorMg01
import Derived.Test.YtjkcopgfcafpeaaGreatDoorMg17
import Derived.Test.YtjkcopgfcafpeaaGreatDoorMg21
import Derived.Test.YtjkcopgfcafpeaaGreatDoorMg05
import Derived.Lib.AtoiAll
import Derived.Lib.IndexMore
import Derived.Maps.OwnSet

/-
  Plain mathematics of reading schemes: names, numbers, heads, terms, lines, bodies. Conditions: none.
-/
set_option linter.unusedSimpArgs false
set_option linter.unusedVariables false
namespace Go.Proofs.YtjkcopgfcafpeaaGreatDoor
open Go.RowKit

def inN (c : UInt8) : Bool := okc (c.toNat : Int)
def inD (c : UInt8) : Bool := isD (c.toNat : Int)

/-- a name, to the last byte that may belong to one -/
def rdName (s : List UInt8) : Option (ByteArray × List UInt8) :=
  if nm ⟨(s.takeWhile inN).toArray⟩ = true then some (⟨(s.takeWhile inN).toArray⟩, s.dropWhile inN) else none

/-- the number that these digits spell, if a reader takes them -/
def numOf (d : List UInt8) : Option Int :=
  match Lib.atoiAll d with
  | .ok v => if v ≤ 1000000000 ∧ ¬ (1 < d.length ∧ d.getD 0 0 = 48) then some v else none
  | _ => none

def rdNum (s : List UInt8) : Option (Int × List UInt8) := (numOf (s.takeWhile inD)).map fun v => (v, s.dropWhile inD)

/-- the number of a name among names, the last of which stands first -/
def idxR : List ByteArray → ByteArray → Option Nat
  | [], _ => none
  | n :: r, x => match idxR r x with
    | some i => some i
    | none => if n = x then some r.length else none

def idx (l : List ByteArray) (x : ByteArray) : Option Nat := idxR l.reverse x

def rdHead (S F : List ByteArray) (s : List UInt8) : Option ((Int × Int) × List UInt8) :=
  if pre [36] s = true then (rdNum (s.drop 1)).map fun x => ((0, x.1), x.2)
  else if pre [35] s = true then (rdName (s.drop 1)).bind fun x => (idx S x.1).map fun (i : Nat) => ((2, (i : Int)), x.2)
  else (rdName s).bind fun x => (idx F x.1).map fun (i : Nat) => ((1, (i : Int)), x.2)

/-- the arguments that follow, with this much fuel -/
def rdArgs (S F : List ByteArray) : Nat → List UInt8 → Option (X × List UInt8)
  | 0, _ => none
  | f + 1, s =>
    if pre [32] s = true then
      if pre [40] (s.drop 1) = true then
        match rdHead S F (s.drop 2) with
        | none => none
        | some (h, r) => match rdArgs S F f r with
          | none => none
          | some (a, r2) => if a.len ≠ 0 ∧ pre [41] r2 = true then (rdArgs S F f (r2.drop 1)).map (fun x => (X.cons h.1 h.2 a x.1, x.2)) else none
      else match rdHead S F (s.drop 1) with
        | none => none
        | some (h, r) => (rdArgs S F f r).map (fun x => (X.cons h.1 h.2 .nil x.1, x.2))
    else some (.nil, s)

theorem rdName_lt {s r : List UInt8} {n : ByteArray} (h : rdName s = some (n, r)) : r.length < s.length ∧ n.size ≤ 24 ∧ nm n = true := by
  unfold rdName at h
  split at h
  · rename_i hn
    simp only [Option.some.injEq, Prod.mk.injEq] at h
    obtain ⟨rfl, rfl⟩ := h
    have hl : (s.takeWhile inN).length + (s.dropWhile inN).length = s.length := by
      rw [← List.length_append, List.takeWhile_append_dropWhile]
    have h2 := hn
    unfold nm at h2
    simp only [Bool.and_eq_true, decide_eq_true_eq] at h2
    obtain ⟨⟨⟨h3, h4⟩, _⟩, _⟩ := h2
    have e : (⟨(s.takeWhile inN).toArray⟩ : ByteArray).size = (s.takeWhile inN).length := by simp [ByteArray.size]
    rw [e] at h3
    exact ⟨by omega, h4, hn⟩
  · cases h

theorem numOf_pos {d : List UInt8} {v : Int} (h : numOf d = some v) : d ≠ [] := by
  rintro rfl
  simp [numOf, Lib.atoiAll] at h

theorem rdNum_lt {s r : List UInt8} {v : Int} (h : rdNum s = some (v, r)) : r.length < s.length := by
  unfold rdNum at h
  rw [Option.map_eq_some_iff] at h
  obtain ⟨x, hx, he⟩ := h
  simp only [Prod.mk.injEq] at he
  obtain ⟨_, rfl⟩ := he
  have hp := numOf_pos hx
  have hl : (s.takeWhile inD).length + (s.dropWhile inD).length = s.length := by
    rw [← List.length_append, List.takeWhile_append_dropWhile]
  have : 0 < (s.takeWhile inD).length := List.length_pos_iff.2 hp
  omega

theorem rdHead_lt {S F : List ByteArray} {s r : List UInt8} {h : Int × Int} (hh : rdHead S F s = some (h, r)) : r.length < s.length := by
  unfold rdHead at hh
  split at hh
  · rename_i hp
    have := pre_length hp
    rw [Option.map_eq_some_iff] at hh
    obtain ⟨⟨v, r'⟩, hx, he⟩ := hh
    simp only [Prod.mk.injEq] at he
    obtain ⟨_, rfl⟩ := he
    have := rdNum_lt hx
    simp only [List.length_drop] at this
    omega
  · split at hh
    · rename_i hp
      have := pre_length hp
      rw [Option.bind_eq_some_iff] at hh
      obtain ⟨⟨v, r'⟩, hx, he⟩ := hh
      rw [Option.map_eq_some_iff] at he
      obtain ⟨i, _, he⟩ := he
      simp only [Prod.mk.injEq] at he
      obtain ⟨_, rfl⟩ := he
      have := (rdName_lt hx).1
      simp only [List.length_drop] at this
      omega
    · rw [Option.bind_eq_some_iff] at hh
      obtain ⟨⟨v, r'⟩, hx, he⟩ := hh
      rw [Option.map_eq_some_iff] at he
      obtain ⟨i, _, he⟩ := he
      simp only [Prod.mk.injEq] at he
      obtain ⟨_, rfl⟩ := he
      exact (rdName_lt hx).1

theorem rdArgs_le {S F : List ByteArray} : ∀ (f : Nat) (s : List UInt8) (a : X) (r : List UInt8), rdArgs S F f s = some (a, r) → r.length + a.len ≤ s.length := by
  intro f
  induction f with
  | zero => intro s a r h; cases h
  | succ f ih =>
    intro s a r h
    unfold rdArgs at h
    split at h
    · rename_i h1
      have hl := pre_length h1
      simp only [List.length_singleton] at hl
      split at h
      · split at h
        · cases h
        · rename_i hh rr he
          have := rdHead_lt he
          simp only [List.length_drop] at this
          split at h
          · cases h
          · rename_i a2 r2 he2
            have h3 := ih _ _ _ he2
            split at h
            · rw [Option.map_eq_some_iff] at h
              obtain ⟨x, hx, he3⟩ := h
              simp only [Prod.mk.injEq] at he3
              obtain ⟨rfl, rfl⟩ := he3
              have h4 := ih _ _ _ hx
              simp only [List.length_drop] at h4
              simp only [X.len]
              omega
            · cases h
      · split at h
        · cases h
        · rename_i hh rr he
          have := rdHead_lt he
          simp only [List.length_drop] at this
          rw [Option.map_eq_some_iff] at h
          obtain ⟨x, hx, he3⟩ := h
          simp only [Prod.mk.injEq] at he3
          obtain ⟨rfl, rfl⟩ := he3
          have h4 := ih _ _ _ hx
          simp only [X.len]
          omega
    · simp only [Option.some.injEq, Prod.mk.injEq] at h
      obtain ⟨rfl, rfl⟩ := h
      simp [X.len]

theorem rdArgs_fuel {S F : List ByteArray} : ∀ (f g : Nat) (s : List UInt8), s.length < f → s.length < g → rdArgs S F f s = rdArgs S F g s := by
  intro f
  induction f with
  | zero => intro g s h; omega
  | succ f ih =>
    intro g s hf hg
    cases g with
    | zero => omega
    | succ g =>
      unfold rdArgs
      by_cases h1 : pre [32] s = true
      · have hl := pre_length h1
        simp only [List.length_singleton] at hl
        rw [if_pos h1, if_pos h1]
        by_cases h2 : pre [40] (s.drop 1) = true
        · rw [if_pos h2, if_pos h2]
          cases he : rdHead S F (s.drop 2) with
          | none => rfl
          | some x =>
            obtain ⟨h, r⟩ := x
            have hr := rdHead_lt he
            simp only [List.length_drop] at hr
            simp only
            rw [ih g r (by omega) (by omega)]
            cases he2 : rdArgs S F g r with
            | none => rfl
            | some y =>
              obtain ⟨a, r2⟩ := y
              have h3 := rdArgs_le _ _ _ _ he2
              simp only
              rw [ih g (r2.drop 1) (by simp; omega) (by simp; omega)]
        · rw [if_neg h2, if_neg h2]
          cases he : rdHead S F (s.drop 1) with
          | none => rfl
          | some x =>
            obtain ⟨h, r⟩ := x
            have hr := rdHead_lt he
            simp only [List.length_drop] at hr
            simp only
            rw [ih g r (by omega) (by omega)]
      · rw [if_neg h1, if_neg h1]

/-- the arguments that follow, and what is left -/
def rdA (S F : List ByteArray) (s : List UInt8) : Option (X × List UInt8) := rdArgs S F (s.length + 1) s

theorem rdA_le {S F : List ByteArray} {s : List UInt8} {a : X} {r : List UInt8} (h : rdA S F s = some (a, r)) : r.length + a.len ≤ s.length := rdArgs_le _ _ _ _ h

theorem rdA_end {S F : List ByteArray} {s : List UInt8} (h : pre [32] s = false) : rdA S F s = some (.nil, s) := by
  unfold rdA rdArgs
  rw [if_neg (by simp [h])]

theorem rdA_plain {S F : List ByteArray} {s : List UInt8} (h : pre [40] s = false) : rdA S F (32 :: s) = (rdHead S F s).bind fun x => (rdA S F x.2).map fun y => (X.cons x.1.1 x.1.2 .nil y.1, y.2) := by
  unfold rdA
  conv => lhs; unfold rdArgs
  rw [if_pos (by simp [Proofs.YtjkcopgfcafpeaaGreatDoor.pre]), if_neg (by simp [h])]
  simp only [List.drop_succ_cons, List.drop_zero]
  cases he : rdHead S F s with
  | none => rfl
  | some x =>
    obtain ⟨hd, r⟩ := x
    have := rdHead_lt he
    simp only [Option.bind_some]
    rw [rdArgs_fuel _ (r.length + 1) r (by simp; omega) (by omega)]

/-- a whole term: its head and the arguments that follow -/
def rdT (S F : List ByteArray) (s : List UInt8) : Option ((Int × Int × X) × List UInt8) :=
  (rdHead S F s).bind fun h => (rdA S F h.2).map fun a => ((h.1.1, h.1.2, a.1), a.2)

theorem rdT_lt {S F : List ByteArray} {s r : List UInt8} {t : Int × Int × X} (h : rdT S F s = some (t, r)) : r.length + t.2.2.len < s.length := by
  unfold rdT at h
  rw [Option.bind_eq_some_iff] at h
  obtain ⟨⟨hd, r1⟩, h1, h2⟩ := h
  rw [Option.map_eq_some_iff] at h2
  obtain ⟨⟨a, r2⟩, h3, h4⟩ := h2
  simp only [Prod.mk.injEq] at h4
  obtain ⟨rfl, rfl⟩ := h4
  have := rdHead_lt h1
  have := rdA_le h3
  simp only at *
  omega

theorem rdA_open {S F : List ByteArray} {s : List UInt8} : rdA S F (32 :: 40 :: s) = (rdT S F s).bind fun x => if x.1.2.2.len ≠ 0 ∧ pre [41] x.2 = true then (rdA S F (x.2.drop 1)).map fun y => (X.cons x.1.1 x.1.2.1 x.1.2.2 y.1, y.2) else none := by
  unfold rdA rdT
  conv => lhs; unfold rdArgs
  rw [if_pos (by simp [Proofs.YtjkcopgfcafpeaaGreatDoor.pre]), if_pos (by simp [Proofs.YtjkcopgfcafpeaaGreatDoor.pre])]
  simp only [List.drop_succ_cons, List.drop_zero]
  cases he : rdHead S F s with
  | none => rfl
  | some x =>
    obtain ⟨hd, r⟩ := x
    have := rdHead_lt he
    simp only [Option.bind_some]
    rw [rdArgs_fuel _ (r.length + 1) r (by simp; omega) (by omega)]
    unfold rdA
    cases he2 : rdArgs S F (r.length + 1) r with
    | none => rfl
    | some y =>
      obtain ⟨a, r2⟩ := y
      have h3 := rdArgs_le _ _ _ _ he2
      simp only [Option.map_some, Option.bind_some]
      rw [rdArgs_fuel _ ((r2.drop 1).length + 1) (r2.drop 1) (by simp; omega) (by omega)]

/-- a word passed over -/
def need (p s : List UInt8) : Option (List UInt8) := if pre p s = true then some (s.drop p.length) else none

theorem need_le {p s r : List UInt8} (h : need p s = some r) : r.length + p.length ≤ s.length := by
  unfold need at h
  split at h
  · rename_i hp
    have := pre_length hp
    simp only [Option.some.injEq] at h
    subst h
    simp; omega
  · cases h

/-- what is ahead of a mark, and what is behind it -/
def cutAt (m s : List UInt8) : Option (List UInt8 × List UInt8) := if (Lib.cut s m).2.2 = true then some ((Lib.cut s m).1, (Lib.cut s m).2.1) else none

theorem cutAt_le {m s a b : List UInt8} (h : cutAt m s = some (a, b)) : a.length + m.length + b.length = s.length := by
  unfold cutAt at h
  split at h
  · rename_i hc
    simp only [Option.some.injEq, Prod.mk.injEq] at h
    obtain ⟨rfl, rfl⟩ := h
    unfold Lib.cut at hc ⊢
    split at hc
    · rename_i hi
      rw [if_pos hi]
      have := Lib.index_room s m hi
      simp only [List.length_take, List.length_drop]
      omega
    · cases hc
  · cases h

/-- a line of a symbol behind its first word -/
def rdSym (s : List UInt8) : Option ((ByteArray × Int) × List UInt8) :=
  (rdName s).bind fun n => (need [32] n.2).bind fun r => (rdNum r).bind fun k => (need [10] k.2).map fun r2 => ((n.1, k.1), r2)

/-- a line of a function: its name, its sort and what reading that answered, and the text of its body -/
structure FL where
  nm : ByteArray
  st : T
  er : Int
  bd : List UInt8

def rdFun (s : List UInt8) : Option (FL × List UInt8) :=
  (rdName s).bind fun n => (need [32, 58, 32] n.2).bind fun r => (cutAt [32, 61, 32] r).bind fun c => if ansE c.1 = 4 then none else (cutAt [10] c.2).map fun b => (⟨n.1, ansT c.1, ansE c.1, b.1⟩, b.2)

theorem rdSym_lt {s r : List UInt8} {x : ByteArray × Int} (h : rdSym s = some (x, r)) : r.length < s.length := by
  unfold rdSym at h
  simp only [Option.bind_eq_some_iff, Option.map_eq_some_iff] at h
  obtain ⟨⟨n, r0⟩, h0, r1, h1, ⟨k, r2⟩, h2, r3, h3, h4⟩ := h
  simp only [Prod.mk.injEq] at h4
  obtain ⟨_, rfl⟩ := h4
  have := (rdName_lt h0).1
  have := need_le h1
  have := rdNum_lt h2
  have := need_le h3
  simp only at *
  omega

theorem rdFun_lt {s r : List UInt8} {x : FL} (h : rdFun s = some (x, r)) : r.length + x.bd.length < s.length := by
  unfold rdFun at h
  simp only [Option.bind_eq_some_iff] at h
  obtain ⟨⟨n, r0⟩, h0, r1, h1, ⟨c1, c2⟩, h2, h3⟩ := h
  simp only at h3
  split at h3
  · cases h3
  · rw [Option.map_eq_some_iff] at h3
    obtain ⟨⟨b1, b2⟩, h4, h5⟩ := h3
    simp only [Prod.mk.injEq] at h5
    obtain ⟨rfl, rfl⟩ := h5
    have := (rdName_lt h0).1
    have := need_le h1
    have := cutAt_le h2
    have := cutAt_le h4
    simp only [List.length_cons, List.length_nil] at *
    omega

/-- "symbol " -/
def symW : List UInt8 := [115, 121, 109, 98, 111, 108, 32]
/-- "fun " -/
def funW : List UInt8 := [102, 117, 110, 32]

def rdSyms : Nat → List UInt8 → Option (List (ByteArray × Int) × List UInt8)
  | 0, _ => none
  | f + 1, s => if pre symW s = true then (rdSym (s.drop 7)).bind fun x => (rdSyms f x.2).map fun y => (x.1 :: y.1, y.2) else some ([], s)

def rdFuns : Nat → List UInt8 → Option (List FL)
  | 0, _ => none
  | f + 1, s => if s.isEmpty = true then some [] else (need funW s).bind fun r => (rdFun r).bind fun x => (rdFuns f x.2).map fun y => x.1 :: y

theorem rdSyms_fuel : ∀ (f g : Nat) (s : List UInt8), s.length < f → s.length < g → rdSyms f s = rdSyms g s := by
  intro f
  induction f with
  | zero => intro g s h; omega
  | succ f ih =>
    intro g s hf hg
    cases g with
    | zero => omega
    | succ g =>
      unfold rdSyms
      by_cases h1 : pre symW s = true
      · rw [if_pos h1, if_pos h1]
        cases he : rdSym (s.drop 7) with
        | none => rfl
        | some x =>
          obtain ⟨a, r⟩ := x
          have := rdSym_lt he
          simp only [List.length_drop] at this
          simp only [Option.bind_some]
          rw [ih g r (by omega) (by omega)]
      · rw [if_neg h1, if_neg h1]

theorem rdFuns_fuel : ∀ (f g : Nat) (s : List UInt8), s.length < f → s.length < g → rdFuns f s = rdFuns g s := by
  intro f
  induction f with
  | zero => intro g s h; omega
  | succ f ih =>
    intro g s hf hg
    cases g with
    | zero => omega
    | succ g =>
      unfold rdFuns
      by_cases h1 : s.isEmpty = true
      · rw [if_pos h1, if_pos h1]
      · rw [if_neg h1, if_neg h1]
        cases hn : need funW s with
        | none => rfl
        | some r0 =>
          have h0 := need_le hn
          simp only [Option.bind_some]
          cases he : rdFun r0 with
          | none => rfl
          | some x =>
            obtain ⟨a, r⟩ := x
            have := rdFun_lt he
            simp only [Option.bind_some]
            rw [ih g r (by omega) (by omega)]

def rdSy (s : List UInt8) : Option (List (ByteArray × Int) × List UInt8) := rdSyms (s.length + 1) s
def rdFu (s : List UInt8) : Option (List FL) := rdFuns (s.length + 1) s

theorem rdSy_end {s : List UInt8} (h : pre symW s = false) : rdSy s = some ([], s) := by
  unfold rdSy rdSyms
  rw [if_neg (by simp [h])]

theorem rdSy_more {s : List UInt8} (h : pre symW s = true) : rdSy s = (rdSym (s.drop 7)).bind fun x => (rdSy x.2).map fun y => (x.1 :: y.1, y.2) := by
  unfold rdSy
  conv => lhs; unfold rdSyms
  rw [if_pos h]
  cases he : rdSym (s.drop 7) with
  | none => rfl
  | some x =>
    obtain ⟨a, r⟩ := x
    have := rdSym_lt he
    simp only [List.length_drop] at this
    simp only [Option.bind_some]
    rw [rdSyms_fuel _ (r.length + 1) r (by omega) (by omega)]

theorem rdFu_end : rdFu [] = some [] := rfl

theorem rdFu_more {s : List UInt8} (h : s ≠ []) : rdFu s = (need funW s).bind fun r => (rdFun r).bind fun x => (rdFu x.2).map fun y => x.1 :: y := by
  unfold rdFu
  conv => lhs; unfold rdFuns
  rw [if_neg (by simpa using h)]
  cases hn : need funW s with
  | none => rfl
  | some r0 =>
    have h0 := need_le hn
    simp only [Option.bind_some]
    cases he : rdFun r0 with
    | none => rfl
    | some x =>
      obtain ⟨a, r⟩ := x
      have := rdFun_lt he
      simp only [Option.bind_some]
      rw [rdFuns_fuel _ (r.length + 1) r (by omega) (by omega)]

/-- all lines of a text -/
def rdL (s : List UInt8) : Option (List (ByteArray × Int) × List FL) := (rdSy s).bind fun x => (rdFu x.2).map fun y => (x.1, y)

/-- a whole text as a term -/
def rdBody (S F : List ByteArray) (s : List UInt8) : Option (Int × Int × X) :=
  (rdT S F s).bind fun x => if x.2.isEmpty = true then some x.1 else none

def rdBodies (S F : List ByteArray) : List FL → Option (List (Int × Int × X))
  | [] => some []
  | f :: r => (rdBody S F f.bd).bind fun t => (rdBodies S F r).map fun y => t :: y

def sySc (l : List (ByteArray × Int)) : Sy := ⟨l.length, fun i => (l.getD i (ByteArray.empty, 0)).1, fun i => (l.getD i (ByteArray.empty, 0)).2⟩

def fuSc (l : List FL) (b : List (Int × Int × X)) : Fu :=
  ⟨l.length, fun i => (l.getD i ⟨ByteArray.empty, .nil, 0, []⟩).nm, fun i => (l.getD i ⟨ByteArray.empty, .nil, 0, []⟩).st, fun i => (b.getD i (0, 0, .nil)).1, fun i => (b.getD i (0, 0, .nil)).2.1, fun i => (b.getD i (0, 0, .nil)).2.2⟩

def noSc : Sc := ⟨⟨0, fun _ => ByteArray.empty, fun _ => 0⟩, ⟨0, fun _ => ByteArray.empty, fun _ => .nil, fun _ => 0, fun _ => 0, fun _ => .nil⟩⟩

/-- was each sort read valid? -/
def sorted (l : List FL) : Bool := l.all fun f => decide (f.er = 0)

/-- the bodies of a text whose lines are read -/
def rdB (x : List (ByteArray × Int) × List FL) : Option (List (Int × Int × X)) := rdBodies (x.1.map (·.1)) (x.2.map (·.nm)) x.2

/-- a text as a scheme, valid or not, and whether its sorts are valid -/
def rdSc (s : List UInt8) : Option (Sc × Bool) := (rdL s).bind fun x => (rdB x).map fun b => (⟨sySc x.1, fuSc x.2 b⟩, sorted x.2)

/-- what Get answers -/
def getE (s : List UInt8) : Int := if 65536 < s.length then 3 else match rdSc s with
  | none => 4
  | some x => if x.2 = true ∧ scOk x.1 = true then 0 else 7

def getSc (s : List UInt8) : Sc := if 65536 < s.length then noSc else match rdSc s with
  | none => noSc
  | some x => if x.2 = true ∧ scOk x.1 = true then x.1 else noSc

end Go.Proofs.YtjkcopgfcafpeaaGreatDoor

