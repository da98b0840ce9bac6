/-
  Parts of one proof, laid into one text: EMap. Conditions: each part names its own.
-/
import Derived.Test.YteolfpdkpihnlaaMg21
import Derived.Test.YteolfpdkpihnlaaMg22

/-
  The map from the names of symbols to their numbers; what a reader reads. Conditions: none.
-/
set_option linter.unusedSimpArgs false
set_option linter.unusedVariables false
namespace Go.Proofs.Yteolfpdkpihnlaa
open Go.RowKit Go.Maps

def keyN (n : ByteArray) : Lit := .string n.data.toList

theorem keyN_inj {a b : ByteArray} (h : keyN a = keyN b) : a = b := by
  unfold keyN at h
  have h1 : a.data.toList = b.data.toList := by injection h
  apply ByteArray.ext
  exact Array.toList_inj.1 h1

/-- the map behind i symbols -/
def mpS (S : Sy) : Nat → DataW Unit
  | 0 => .map []
  | i + 1 => (mpS S i).put (keyN (S.nm i)) (.lit (.int .i64 (i : Int)))

/-- the number of a name among i symbols -/
def idxS (S : Sy) (x : ByteArray) : Nat → Option Nat
  | 0 => none
  | i + 1 => if S.nm i = x then some i else idxS S x i

theorem idxS_lt {S : Sy} {x : ByteArray} : ∀ {i k : Nat}, idxS S x i = some k → k < i := by
  intro i
  induction i with
  | zero => intro k h; cases h
  | succ i ih =>
    intro k h
    unfold idxS at h
    split at h
    · injection h with h; omega
    · have := ih h; omega

theorem mpS_isMap (S : Sy) : ∀ i, IsMap (mpS S i)
  | 0 => isMap_empty
  | i + 1 => (mpS_isMap S i).put _ _

theorem mpS_at (S : Sy) (x : ByteArray) : ∀ i, has (mpS S i) (keyN x) = (idxS S x i).isSome ∧ (mpS S i).atKey (keyN x) (.lit (.int .i64 0)) = .lit (.int .i64 (((idxS S x i).getD 0 : Nat) : Int))
  | 0 => ⟨rfl, rfl⟩
  | i + 1 => by
    obtain ⟨h1, h2⟩ := mpS_at S x i
    unfold mpS idxS
    by_cases e : S.nm i = x
    · subst e
      rw [if_pos rfl]
      exact ⟨has_put_same (mpS_isMap S i) (by trivial) _, atKey_put_same (mpS_isMap S i) (by trivial) _ _⟩
    · have hk : keyN x ≠ keyN (S.nm i) := fun h => e (keyN_inj h).symm
      rw [if_neg e, has_put_other hk, atKey_put_other hk]
      exact ⟨h1, h2⟩

theorem zeroI (w : World) : (zeroValue 3).run Try.prog w = .ok (.int .i64 0) w := by kernel_rfl

theorem plainI {n : Nat} (h : n < 1099511627776) : plainElem (H := Unit) Try.prog 3 (.int .i64 (n : Int)) = some (.lit (.int .i64 (n : Int)), []) :=
  plainElem_int Try.underlying3 (by
    have h1 : IntKind.min .i64 = -9223372036854775808 := by decide
    have h2 : IntKind.max .i64 = 9223372036854775807 := by decide
    unfold Lit.wf
    simp only [h1, h2, Bool.and_eq_true, decide_eq_true_eq]
    omega)

/-- block m of w is the map behind i symbols -/
def MapS (w : World) (m : Nat) (S : Sy) (i : Nat) : Prop := w.ownsMap Try.prog 9 (plainElem Try.prog 3) m i (mpS S i)

theorem mapS_block {w : World} {m i : Nat} {S : Sy} (h : MapS w m S i) : ∃ es clock, w.heap[m]? = some (.map es clock) := by
  obtain ⟨es, clock, h, _⟩ := h
  exact ⟨es, clock, h⟩

theorem mapS_far {w w' : World} {m i : Nat} {S : Sy} (h : MapS w m S i) (hk : w'.heap[m]? = w.heap[m]?) : MapS w' m S i := by
  obtain ⟨es, clock, h1, h2⟩ := h
  exact ⟨es, clock, hk.trans h1, h2⟩

set_option maxRecDepth 100000 in
theorem mapS_look {w : World} {m i : Nat} {S : Sy} (h : MapS w m S i) (n : ByteArray) (hn : n.size ≤ 24) :
    (Instr.lookup 78 (.map (some m)) (.string n) true).run Try.prog w = .ok (.tuple #[.int .i64 (((idxS S n i).getD 0 : Nat) : Int), .bool (idxS S n i).isSome]) w := by
  have h24 : n.size ≤ maxLen := by unfold maxLen; omega
  have hkey : keyOf Try.prog 9 (.string n) = some (keyN n) := Go.WideMaps.keyOf_string_mk Try.underlying9 h24
  obtain ⟨v, ps, hrun, hv⟩ := World.ownsMap.look_ok h mlaw Try.underlying78 (zeroI _) (plainI (n := 0) (by omega)) hkey
  rw [(mpS_at S n i).1] at hrun
  obtain ⟨a, rfl, hz, _⟩ := plainElem_int_inv Try.underlying3 hv
  have h2 : (mpS S i).atKey (keyN n) (.lit (.int .i64 0)) = .lit (.int .i64 a) := congrArg Prod.fst hz
  rw [(mpS_at S n i).2] at h2
  injection h2 with h2
  injection h2 with _ h2
  rw [hrun, ← h2]

/-- the kids of a tree, each behind a mark -/
def rdKids (g : List UInt8 → Option (Int × Y × List UInt8)) : Nat → UInt8 → List UInt8 → Option (Y × List UInt8)
  | 0, _, r => some (.nil, r)
  | k + 1, mb, r => if pre [mb] r = true then (g (r.drop 1)).bind fun x => (rdKids g k 44 x.2.2).map fun y => (Y.cons x.1 x.2.1 y.1, y.2) else none

/-- a tree's closing bracket, if it has kids -/
def rdShut (i : Nat) (y : Y × List UInt8) : Option (Int × Y × List UInt8) :=
  if y.1.len = 0 then some ((i : Int), y.1, y.2) else if pre [41] y.2 = true then some ((i : Int), y.1, y.2.drop 1) else none

/-- a tree, and what is left -/
def rdE (S : Sy) : Nat → List UInt8 → Option (Int × Y × List UInt8)
  | 0, _ => none
  | f + 1, s => if pre [95] s = true then some (-1, .nil, s.drop 1) else
    (rdName s).bind fun x => (idxS S x.1 S.len).bind fun i => (rdKids (rdE S f) (S.rk i).toNat 40 x.2).bind fun y => rdShut i y

theorem rdKids_le {g : List UInt8 → Option (Int × Y × List UInt8)} (hg : ∀ s n a r, g s = some (n, a, r) → r.length < s.length) : ∀ (k : Nat) (mb : UInt8) (r r' : List UInt8) (y : Y), rdKids g k mb r = some (y, r') → r'.length ≤ r.length ∧ y.len = k := by
  intro k
  induction k with
  | zero =>
    intro mb r r' y h
    simp only [rdKids, Option.some.injEq, Prod.mk.injEq] at h
    obtain ⟨rfl, rfl⟩ := h
    exact ⟨Nat.le_refl _, rfl⟩
  | succ k ih =>
    intro mb r r' y h
    unfold rdKids at h
    split at h
    · rename_i hp
      rw [Option.bind_eq_some_iff] at h
      obtain ⟨⟨n, a, r1⟩, h1, h2⟩ := h
      rw [Option.map_eq_some_iff] at h2
      obtain ⟨⟨z, r2⟩, h3, h4⟩ := h2
      simp only [Prod.mk.injEq] at h4
      obtain ⟨rfl, rfl⟩ := h4
      have e1 := hg _ _ _ _ h1
      obtain ⟨e2, e3⟩ := ih _ _ _ _ h3
      simp only [List.length_drop] at e1
      exact ⟨by dsimp only at *; omega, by simp only [Y.len]; omega⟩
    · cases h

theorem rdShut_le {i : Nat} {y : Y × List UInt8} {n : Int} {a : Y} {r : List UInt8} (h : rdShut i y = some (n, a, r)) : r.length ≤ y.2.length ∧ a = y.1 ∧ n = (i : Int) := by
  unfold rdShut at h
  split at h
  · simp only [Option.some.injEq, Prod.mk.injEq] at h
    obtain ⟨rfl, rfl, rfl⟩ := h
    exact ⟨Nat.le_refl _, rfl, rfl⟩
  · split at h
    · simp only [Option.some.injEq, Prod.mk.injEq] at h
      obtain ⟨rfl, rfl, rfl⟩ := h
      exact ⟨by simp, rfl, rfl⟩
    · cases h

theorem rdE_lt (S : Sy) : ∀ (f : Nat) (s : List UInt8) (n : Int) (a : Y) (r : List UInt8), rdE S f s = some (n, a, r) → r.length < s.length := by
  intro f
  induction f with
  | zero => intro s n a r h; cases h
  | succ f ih =>
    intro s n a r h
    unfold rdE at h
    split at h
    · rename_i hp
      have := pre_length hp
      simp only [Option.some.injEq, Prod.mk.injEq] at h
      obtain ⟨_, _, rfl⟩ := h
      simp only [List.length_singleton, List.length_drop] at *
      omega
    · rw [Option.bind_eq_some_iff] at h
      obtain ⟨⟨x, r1⟩, h1, h2⟩ := h
      rw [Option.bind_eq_some_iff] at h2
      obtain ⟨i, h3, h4⟩ := h2
      rw [Option.bind_eq_some_iff] at h4
      obtain ⟨y, h5, h6⟩ := h4
      have e1 := (rdName_lt h1).1
      obtain ⟨e2, _⟩ := rdKids_le ih _ _ _ _ _ h5
      have e3 := (rdShut_le h6).1
      dsimp only at *
      omega

end Go.Proofs.Yteolfpdkpihnlaa

