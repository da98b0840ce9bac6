/-
  Plain mathematics of the variables of a term: the ordered list of their numbers, as the reference makes it. Conditions: none.
-/
import Derived.Test.YtlgfaobbjnhfoaaTWalkJ
set_option linter.unusedSimpArgs false
set_option linter.unusedVariables false
namespace Go.Proofs.Ytlgfaobbjnhfoaa
open Go.RowKit

/-- put a number into an ordered list, unless it is there -/
def ins (n : Int) : List Int → List Int
  | [] => [n]
  | x :: r => if x < n then x :: ins n r else if x = n then x :: r else n :: x :: r

theorem ins_len (n : Int) (l : List Int) : (ins n l).length ≤ l.length + 1 := by
  induction l with
  | nil => simp [ins]
  | cons x r ih =>
    simp only [ins]
    split
    · simp; omega
    · split <;> simp

theorem ins_pos (n : Int) (l : List Int) : 1 ≤ (ins n l).length := by
  cases l with
  | nil => simp [ins]
  | cons x r =>
    simp only [ins]
    split
    · simp
    · split <;> simp

theorem mem_ins (n v : Int) (l : List Int) : v ∈ ins n l ↔ v = n ∨ v ∈ l := by
  induction l with
  | nil => simp [ins]
  | cons x r ih =>
    simp only [ins]
    split
    · simp only [List.mem_cons, ih]
      constructor
      · rintro (h | h | h) <;> simp [h]
      · rintro (h | h | h) <;> simp [h]
    · split
      · rename_i h1
        subst h1
        simp only [List.mem_cons]
        constructor
        · intro h; exact Or.inr h
        · rintro (h | h)
          · exact Or.inl h
          · exact h
      · simp only [List.mem_cons]

/-- strictly increasing -/
def Inc (l : List Int) : Prop := l.Pairwise (· < ·)

theorem ins_inc (n : Int) (l : List Int) (h : Inc l) : Inc (ins n l) := by
  induction l with
  | nil => simp [ins, Inc]
  | cons x r ih =>
    obtain ⟨h1, h2⟩ := List.pairwise_cons.1 h
    simp only [ins]
    split
    · rename_i h3
      refine List.pairwise_cons.2 ⟨fun y hy => ?_, ih h2⟩
      rcases (mem_ins n y r).1 hy with e | e
      · rw [e]; exact h3
      · exact h1 y e
    · split
      · exact h
      · refine List.pairwise_cons.2 ⟨fun y hy => ?_, h⟩
        rcases List.mem_cons.1 hy with e | e
        · rw [e]; omega
        · have := h1 y e; omega

theorem inc_ext {l m : List Int} (hl : Inc l) (hm : Inc m) (h : ∀ v, v ∈ l ↔ v ∈ m) : l = m := by
  induction l generalizing m with
  | nil =>
    cases m with
    | nil => rfl
    | cons y s => exact absurd ((h y).2 (by simp)) (by simp)
  | cons x r ih =>
    cases m with
    | nil => exact absurd ((h x).1 (by simp)) (by simp)
    | cons y s =>
      obtain ⟨h1, h2⟩ := List.pairwise_cons.1 hl
      obtain ⟨h3, h4⟩ := List.pairwise_cons.1 hm
      have hxy : x = y := by
        rcases List.mem_cons.1 ((h x).1 (by simp)) with e | e
        · exact e
        · rcases List.mem_cons.1 ((h y).2 (by simp)) with e' | e'
          · exact e'.symm
          · have := h1 y e'; have := h3 x e; omega
      subst hxy
      rw [ih h2 h4 (fun v => ?_)]
      constructor
      · intro hv
        rcases List.mem_cons.1 ((h v).1 (by simp [hv])) with e | e
        · have := h1 v hv; omega
        · exact e
      · intro hv
        rcases List.mem_cons.1 ((h v).2 (by simp [hv])) with e | e
        · have := h3 v hv; omega
        · exact e

/-- a list with the numbers of the variables in all terms of another list -/
def vars : X → List Int → List Int
  | .nil, l => l
  | .cons k n a r, l => vars r (vars a (if k = 0 then ins n l else l))

/-- the same, of one term -/
def vars1 (k n : Int) (a : X) (l : List Int) : List Int := vars a (if k = 0 then ins n l else l)

theorem vars_drop (t : X) (i : Nat) (h : i < t.len) (l : List Int) : vars (t.drop i) l = vars (t.drop (i + 1)) (vars1 (t.gk i) (t.gn i) (t.ga i) l) := by
  rw [X.drop_cons t i h]; rfl

theorem vars_len (t : X) : ∀ l : List Int, (vars t l).length ≤ l.length + t.sz := by
  induction t with
  | nil => intro l; simp [vars, X.sz]
  | cons k n a r iha ihr =>
    intro l
    simp only [vars, X.sz]
    have h1 := ihr (vars a (if k = 0 then ins n l else l))
    have h2 := iha (if k = 0 then ins n l else l)
    have h3 := ins_len n l
    split at h1 <;> split at h2 <;> (try split) <;> omega

theorem vars1_len (k n : Int) (a : X) (l : List Int) : (vars1 k n a l).length ≤ l.length + a.sz + 1 := by
  have h1 := vars_len a (if k = 0 then ins n l else l)
  have h2 := ins_len n l
  unfold vars1
  split at h1 <;> rename_i h <;> simp only [h, if_true, if_false] at h1 ⊢ <;> omega

theorem vars_inc (t : X) : ∀ l : List Int, Inc l → Inc (vars t l) := by
  induction t with
  | nil => intro l h; exact h
  | cons k n a r iha ihr =>
    intro l h
    refine ihr _ (iha _ ?_)
    split
    · exact ins_inc n l h
    · exact h

/-- the number v is that of a variable in a list of terms -/
def hasV (v : Int) : X → Prop
  | .nil => False
  | .cons k n a r => (k = 0 ∧ n = v) ∨ hasV v a ∨ hasV v r

theorem mem_vars (v : Int) (t : X) : ∀ l : List Int, v ∈ vars t l ↔ v ∈ l ∨ hasV v t := by
  induction t with
  | nil => intro l; simp [vars, hasV]
  | cons k n a r iha ihr =>
    intro l
    simp only [vars, hasV, ihr, iha]
    by_cases hk : k = 0
    · simp only [hk, if_true, mem_ins, true_and]
      constructor
      · rintro (((h | h) | h) | h)
        · exact Or.inr (Or.inl h.symm)
        · exact Or.inl h
        · exact Or.inr (Or.inr (Or.inl h))
        · exact Or.inr (Or.inr (Or.inr h))
      · rintro (h | h | h | h)
        · exact Or.inl (Or.inl (Or.inr h))
        · exact Or.inl (Or.inl (Or.inl h.symm))
        · exact Or.inl (Or.inr h)
        · exact Or.inr h
    · simp only [hk, if_false, false_and, false_or, or_assoc]

theorem mem_vars1 (v k n : Int) (a : X) (l : List Int) : v ∈ vars1 k n a l ↔ v ∈ l ∨ hasV v (.cons k n a .nil) := by
  have := mem_vars v (.cons k n a .nil) l
  exact this

theorem vars1_inc (k n : Int) (a : X) : Inc (vars1 k n a []) := vars_inc (.cons k n a .nil) [] List.Pairwise.nil

theorem kn_all (args t : X) : allB (kn args) t = true ↔ ∀ v, hasV v t → 0 ≤ v ∧ v < args.len := by
  induction t with
  | nil => simp [allB, hasV]
  | cons k n a r iha ihr =>
    simp only [allB, hasV, Bool.and_eq_true, iha, ihr, kn, Bool.or_eq_true, Bool.not_eq_true', decide_eq_false_iff_not, decide_eq_true_eq]
    constructor
    · rintro ⟨⟨h1, h2⟩, h3⟩ v (⟨e1, e2⟩ | h | h)
      · rcases h1 with h1 | h1
        · exact absurd e1 h1
        · rw [← e2]; exact h1
      · exact h2 v h
      · exact h3 v h
    · intro h
      refine ⟨⟨?_, fun v hv => h v (Or.inr (Or.inl hv))⟩, fun v hv => h v (Or.inr (Or.inr hv))⟩
      by_cases hk : k = 0
      · exact Or.inr (h n (Or.inl ⟨hk, rfl⟩))
      · exact Or.inl hk

theorem kn1_all (args : X) (k n : Int) (a : X) : kn1 args k n a = true ↔ ∀ v ∈ vars1 k n a [], 0 ≤ v ∧ v < args.len := by
  have h := kn_all args (.cons k n a .nil)
  have e : kn1 args k n a = allB (kn args) (.cons k n a .nil) := by unfold kn1; simp [allB, kn]
  rw [e, h]
  constructor
  · intro h v hv
    exact h v (((mem_vars1 v k n a []).1 hv).resolve_left (by simp))
  · intro h v hv
    exact h v ((mem_vars1 v k n a []).2 (Or.inr hv))

/-- where insert stands after j numbers -/
theorem ins_take (n : Int) : ∀ (l : List Int) (j : Nat), (∀ i (h : i < l.length), i < j → l[i] < n) → j ≤ l.length → ins n l = l.take j ++ ins n (l.drop j) := by
  intro l
  induction l with
  | nil => intro j _ hj; simp at hj; subst hj; rfl
  | cons x r ih =>
    intro j h hj
    cases j with
    | zero => rfl
    | succ j =>
      have h0 : x < n := h 0 (by simp) (by omega)
      simp only [List.take_succ_cons, List.drop_succ_cons, List.cons_append]
      rw [← ih j (fun i hi hij => by have := h (i + 1) (by simp; omega) (by omega); simpa using this) (by simp at hj; omega)]
      simp only [ins, h0, if_true]

theorem ins_drop_lt (n : Int) (l : List Int) (j : Nat) (h : j < l.length) (hx : l[j] < n) : ins n (l.drop j) = l[j] :: ins n (l.drop (j + 1)) := by
  rw [List.drop_eq_getElem_cons h]
  simp only [ins, hx, if_true]

theorem ins_drop_eq (n : Int) (l : List Int) (j : Nat) (h : j < l.length) (hx : l[j] = n) : ins n (l.drop j) = n :: l.drop (j + 1) := by
  rw [List.drop_eq_getElem_cons h]
  simp only [ins]
  rw [if_neg (by omega), if_pos hx, hx]

theorem ins_drop_gt (n : Int) (l : List Int) (j : Nat) (h : j < l.length) (hx : n < l[j]) : ins n (l.drop j) = n :: l.drop j := by
  conv => lhs; rw [List.drop_eq_getElem_cons h]
  simp only [ins]
  rw [if_neg (by omega), if_neg (by omega), ← List.drop_eq_getElem_cons h]

theorem ins_drop_end (n : Int) (l : List Int) (j : Nat) (h : l.length ≤ j) : ins n (l.drop j) = [n] := by
  rw [List.drop_eq_nil_of_le h]; rfl

end Go.Proofs.Ytlgfaobbjnhfoaa
