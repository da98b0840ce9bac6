/-
  Plain mathematics of Free: what is noted at the terms that are visited, and the ordered list of it. Conditions: none.
-/
import Derived.Test.YtlgfaobbjnhfoaaTPlainV
import Derived.Lib.SlKeysI
import Derived.Maps.Views
set_option linter.unusedSimpArgs false
set_option linter.unusedVariables false
namespace Go.Proofs.Ytlgfaobbjnhfoaa
open Go.RowKit Go.Maps

/-- what Free's function notes at a term, and what it answers -/
def ff (s : List Int) (k n : Int) (_ : X) : List Int × Bool := (if k = 0 then s ++ [n] else s, if k = 0 then decide (0 ≤ n) else true)

theorem walk_ff_len (t : X) : ∀ s : List Int, (X.walk ff s t).1.length ≤ s.length + t.sz := by
  induction t with
  | nil => intro s; simp [X.walk, X.sz]
  | cons k n a r iha ihr =>
    intro s
    have h0 : (ff s k n a).1.length ≤ s.length + 1 := by unfold ff; split <;> simp
    simp only [X.walk, X.sz]
    split
    · have h1 := iha (ff s k n a).1
      split
      · have h2 := ihr (X.walk ff (ff s k n a).1 a).1
        omega
      · dsimp only; omega
    · dsimp only; omega

theorem walk1_ff_len (s : List Int) (k n : Int) (a : X) : (X.walk1 ff s k n a).1.length ≤ s.length + 1 + a.sz := by
  have h := walk_ff_len (.cons k n a .nil) s
  rw [X.walk_one] at h
  simp only [X.sz] at h
  omega

theorem walk_ff (t : X) : ∀ s : List Int, ((X.walk ff s t).2 = true ↔ ∀ v, hasV v t → 0 ≤ v) ∧ ((X.walk ff s t).2 = true → ∀ v, v ∈ (X.walk ff s t).1 ↔ v ∈ s ∨ hasV v t) := by
  induction t with
  | nil => intro s; simp [X.walk, hasV]
  | cons k n a r iha ihr =>
    intro s
    simp only [X.walk]
    by_cases hk : k = 0
    · by_cases hn : 0 ≤ n
      · have e : ff s k n a = (s ++ [n], true) := by unfold ff; rw [if_pos hk, if_pos hk]; simp [hn]
        rw [e]
        dsimp only
        rw [if_pos rfl]
        obtain ⟨a1, a2⟩ := iha (s ++ [n])
        by_cases hw : (X.walk ff (s ++ [n]) a).2 = true
        · rw [if_pos hw]
          obtain ⟨r1, r2⟩ := ihr (X.walk ff (s ++ [n]) a).1
          refine ⟨?_, fun h v => ?_⟩
          · rw [r1]
            constructor
            · intro h v hv
              rcases hv with ⟨_, e⟩ | h1 | h1
              · omega
              · exact a1.1 hw v h1
              · exact h v h1
            · intro h v hv; exact h v (Or.inr (Or.inr hv))
          · rw [r2 h v, a2 hw v]
            simp only [List.mem_append, List.mem_singleton, hasV, hk, true_and]
            constructor
            · rintro (((h | h) | h) | h)
              · exact Or.inl h
              · exact Or.inr (Or.inl h.symm)
              · exact Or.inr (Or.inr (Or.inl h))
              · exact Or.inr (Or.inr (Or.inr h))
            · rintro (h | h | h | h)
              · exact Or.inl (Or.inl (Or.inl h))
              · exact Or.inl (Or.inl (Or.inr h.symm))
              · exact Or.inl (Or.inr h)
              · exact Or.inr h
        · rw [if_neg hw]
          refine ⟨?_, fun h => by simp at h⟩
          simp only [Bool.false_eq_true, false_iff]
          intro h
          exact hw (a1.2 fun v hv => h v (Or.inr (Or.inl hv)))
      · have e : ff s k n a = (s ++ [n], false) := by unfold ff; rw [if_pos hk, if_pos hk]; simp [hn]
        rw [e]
        simp only [Bool.false_eq_true, if_false, false_iff, false_implies, and_true]
        intro h
        exact hn (h n (Or.inl ⟨hk, rfl⟩))
    · have e : ff s k n a = (s, true) := by unfold ff; rw [if_neg hk, if_neg hk]
      rw [e]
      dsimp only
      rw [if_pos rfl]
      obtain ⟨a1, a2⟩ := iha s
      by_cases hw : (X.walk ff s a).2 = true
      · rw [if_pos hw]
        obtain ⟨r1, r2⟩ := ihr (X.walk ff s a).1
        refine ⟨?_, fun h v => ?_⟩
        · rw [r1]
          constructor
          · intro h v hv
            rcases hv with ⟨e, _⟩ | h1 | h1
            · exact absurd e hk
            · exact a1.1 hw v h1
            · exact h v h1
          · intro h v hv; exact h v (Or.inr (Or.inr hv))
        · rw [r2 h v, a2 hw v]
          simp only [hasV, hk, false_and, false_or, or_assoc]
      · rw [if_neg hw]
        refine ⟨?_, fun h => by simp at h⟩
        simp only [Bool.false_eq_true, false_iff]
        intro h
        exact hw (a1.2 fun v hv => h v (Or.inr (Or.inl hv)))

theorem walk1_ff (k n : Int) (a : X) : ((X.walk1 ff [] k n a).2 = true ↔ ∀ v ∈ vars1 k n a [], 0 ≤ v) ∧ ((X.walk1 ff [] k n a).2 = true → ∀ v, v ∈ (X.walk1 ff [] k n a).1 ↔ v ∈ vars1 k n a []) := by
  have h := walk_ff (.cons k n a .nil) []
  rw [X.walk_one] at h
  have m := fun v => mem_vars1 v k n a []
  refine ⟨?_, fun hw v => ?_⟩
  · rw [h.1]
    constructor
    · intro hh v hv; exact hh v (((m v).1 hv).resolve_left (by simp))
    · intro hh v hv; exact hh v ((m v).2 (Or.inr hv))
  · rw [h.2 hw v, m v]

/-- what Free returns: an error, and the numbers -/
def freeRes (k n : Int) (a : X) : Int × List Int :=
  if a.sz < 100000 then
    if (X.walk1 ff [] k n a).2 = true then (0, vars1 k n a []) else (2, [])
  else (3, [])

def keyI (n : Int) : Lit := .int .i64 n

/-- the map behind some notes -/
def setF (s : List Int) : DataW Unit := setOf (.lit (.bool true)) (s.map keyI)

theorem setF_step (s : List Int) (n : Int) : (setF s).put (.int .i64 n) (.lit (.bool true)) = setF (s ++ [n]) := by
  unfold setF
  rw [List.map_append, List.map_singleton, setOf_snoc]
  rfl

theorem put_keys (acc : List Int) : ∀ es0 : List (Lit × DataW Unit), (∀ p ∈ es0, ∃ x, p.1 = Lit.int .i64 x) → ∀ es1, acc.foldl (fun m x => m.put (keyI x) (.lit (.bool true))) (DataW.map es0) = .map es1 → ∀ p ∈ es1, ∃ x, p.1 = Lit.int .i64 x := by
  induction acc with
  | nil => intro es0 h0 es1 h1; simp only [List.foldl_nil, DataW.map.injEq] at h1; subst h1; exact h0
  | cons y r ih =>
    intro es0 h0 es1 h1
    rw [List.foldl_cons] at h1
    refine ih _ ?_ es1 h1
    intro p hp
    rcases ChangeMaps.mem_insert_iff.1 hp with e | e
    · exact ⟨y, by rw [e]; rfl⟩
    · exact h0 p ((List.mem_filter.1 e).1)

theorem setF_perm (s L : List Int) (hL : Inc L) (hm : ∀ v, v ∈ s ↔ v ∈ L) : L.Perm (intKeys (setF s)) := by
  have hk : ∀ x ∈ s.map keyI, WideAt.IsKeyLit x := by intro x hx; obtain ⟨j, _, rfl⟩ := List.mem_map.1 hx; trivial
  obtain ⟨es, he, hp⟩ := tidy_setOf (H := Unit) (.lit (.bool true)) (s.map keyI) hk
  have he' : setF s = .map es := he
  rw [he']
  refine perm_intKeys hp (put_keys s [] (by simp) es ?_) (hL.imp fun h => by omega) fun x => ?_
  · rw [← he]
    unfold setOf
    rw [List.foldl_map]
  · rw [← he, has_setOf (H := Unit) (.lit (.bool true)) (.int .i64 x) (s.map keyI) hk, List.any_map, List.any_eq_true, ← hm x]
    constructor
    · intro h; exact ⟨x, h, by simp [keyI, Lit.sameKey]⟩
    · rintro ⟨y, hy, h⟩
      have : y = x := by simpa [keyI, Lit.sameKey] using h
      rw [← this]; exact hy

/-- what comes out of the map, in order -/
theorem sorted_vars (s L ss : List Int) (hL : Inc L) (hm : ∀ v, v ∈ s ↔ v ∈ L) (hs : ss.Perm (intKeys (setF s))) : ss.mergeSort (fun x y => decide (x ≤ y)) = L := by
  have h1 := (List.mergeSort_perm ss (fun x y => decide (x ≤ y))).trans (hs.trans (setF_perm s L hL hm).symm)
  have h2 : List.Pairwise (fun a b => decide (a ≤ b) = true) (ss.mergeSort (fun x y => decide (x ≤ y))) := List.pairwise_mergeSort (fun a b c h1 h2 => by simp at h1 h2 ⊢; omega) (fun a b => by simp; omega) ss
  have h3 : List.Pairwise (fun a b => decide (a ≤ b) = true) L := hL.imp fun h => by simp; omega
  exact List.Perm.eq_of_pairwise (fun a b _ _ h1 h2 => by simp at h1 h2; omega) h2 h3 h1

end Go.Proofs.Ytlgfaobbjnhfoaa
