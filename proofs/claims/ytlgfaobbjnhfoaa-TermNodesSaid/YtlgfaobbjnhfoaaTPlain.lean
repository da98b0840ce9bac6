/-
  Plain mathematics of terms, no program: a list of terms, each with a kind, a number and a list of arguments. Conditions: none.
-/
set_option linter.unusedSimpArgs false
set_option linter.unusedVariables false
namespace Go.Proofs.Ytlgfaobbjnhfoaa

inductive X where
  | nil : X
  | cons : Int → Int → X → X → X

namespace X

def len : X → Nat
  | nil => 0
  | cons _ _ _ r => r.len + 1

def gk : X → Nat → Int
  | nil, _ => 0
  | cons k _ _ _, 0 => k
  | cons _ _ _ r, i + 1 => r.gk i

def gn : X → Nat → Int
  | nil, _ => 0
  | cons _ n _ _, 0 => n
  | cons _ _ _ r, i + 1 => r.gn i

def ga : X → Nat → X
  | nil, _ => nil
  | cons _ _ a _, 0 => a
  | cons _ _ _ r, i + 1 => r.ga i

def drop : X → Nat → X
  | t, 0 => t
  | nil, _ => nil
  | cons _ _ _ r, i + 1 => r.drop i

/-- the nodes of all the terms of a list -/
def sz : X → Nat
  | nil => 0
  | cons _ _ a r => 1 + a.sz + r.sz

/-- the greatest depth of a term of a list -/
def dep : X → Nat
  | nil => 0
  | cons _ _ a r => max (1 + a.dep) r.dep

theorem drop_zero (t : X) : t.drop 0 = t := by cases t <;> rfl

theorem drop_nil (i : Nat) : X.nil.drop i = X.nil := by cases i <;> rfl

theorem drop_cons (t : X) : ∀ i, i < t.len → t.drop i = .cons (t.gk i) (t.gn i) (t.ga i) (t.drop (i + 1)) := by
  induction t with
  | nil => intro i h; exact absurd h (Nat.not_lt_zero _)
  | cons k n a r iha ihr =>
    intro i hi
    cases i with
    | zero => show X.cons k n a r = .cons k n a (r.drop 0); rw [drop_zero]
    | succ i =>
      have hi' : i < r.len := by simp only [len] at hi; omega
      exact ihr i hi'

theorem drop_end (t : X) : ∀ i, t.len ≤ i → t.drop i = .nil := by
  induction t with
  | nil => intro i _; exact drop_nil i
  | cons k n a r iha ihr =>
    intro i hi
    cases i with
    | zero => simp only [len] at hi; omega
    | succ i => exact ihr i (by simp only [len] at hi; omega)

theorem len_drop (t : X) : ∀ i, (t.drop i).len = t.len - i := by
  induction t with
  | nil => intro i; simp [drop_nil, len]
  | cons k n a r iha ihr =>
    intro i
    cases i with
    | zero => simp [drop_zero]
    | succ i => show (r.drop i).len = r.len + 1 - (i + 1); rw [ihr]; omega

theorem len_le_sz (t : X) : t.len ≤ t.sz := by
  induction t with
  | nil => exact Nat.le_refl _
  | cons k n a r iha ihr => simp only [len, sz]; omega

theorem dep_le_sz (t : X) : t.dep ≤ t.sz := by
  induction t with
  | nil => exact Nat.le_refl _
  | cons k n a r iha ihr => simp only [dep, sz]; omega

theorem sz_drop (t : X) (i : Nat) (h : i < t.len) : (t.drop i).sz = 1 + (t.ga i).sz + (t.drop (i + 1)).sz := by
  rw [drop_cons t i h]; rfl

theorem dep_drop (t : X) (i : Nat) (h : i < t.len) : (t.drop i).dep = max (1 + (t.ga i).dep) (t.drop (i + 1)).dep := by
  rw [drop_cons t i h]; rfl

theorem sz_drop_le (t : X) : ∀ i, (t.drop i).sz ≤ t.sz := by
  induction t with
  | nil => intro i; rw [drop_nil]; exact Nat.le_refl _
  | cons k n a r iha ihr =>
    intro i
    cases i with
    | zero => rw [drop_zero]; exact Nat.le_refl _
    | succ i => have := ihr i; show (r.drop i).sz ≤ 1 + a.sz + r.sz; omega

theorem sz_ga (t : X) (i : Nat) (h : i < t.len) : (t.ga i).sz + 1 ≤ t.sz := by
  have h1 := sz_drop t i h
  have h2 := sz_drop_le t i
  omega

def eqX : X → X → Bool
  | nil, nil => true
  | cons k n a r, cons k' n' a' r' => (decide (k = k') && decide (n = n')) && eqX a a' && eqX r r'
  | _, _ => false

theorem eqX_iff (a : X) : ∀ b : X, eqX a b = true ↔ a = b := by
  induction a with
  | nil => intro b; cases b <;> simp [eqX]
  | cons k n a r iha ihr => intro b; cases b with
    | nil => simp [eqX]
    | cons k' n' a' r' => simp [eqX, iha, ihr, and_assoc]

theorem eqX_refl (a : X) : eqX a a = true := (eqX_iff a a).2 rfl

theorem eqX_len (a b : X) (h : ¬ a.len = b.len) : eqX a b = false := by
  cases he : eqX a b with
  | false => rfl
  | true => rw [(eqX_iff a b).1 he] at h; exact absurd rfl h

/-- two terms, each a kind, a number and arguments, are equal -/
def eq1 (k n : Int) (a : X) (k' n' : Int) (a' : X) : Bool := decide (k = k') && decide (n = n') && eqX a a'

theorem eqX_drop (a b : X) (i : Nat) (ha : i < a.len) (hb : i < b.len) : eqX (a.drop i) (b.drop i) = (eq1 (a.gk i) (a.gn i) (a.ga i) (b.gk i) (b.gn i) (b.ga i) && eqX (a.drop (i + 1)) (b.drop (i + 1))) := by
  rw [drop_cons a i ha, drop_cons b i hb]; rfl

theorem eqX_not (a b : X) (k : Nat) (ha : k < a.len) (hb : k < b.len) (h : eqX (a.drop k) (b.drop k) = eqX a b) (hf : (!eq1 (a.gk k) (a.gn k) (a.ga k) (b.gk k) (b.gn k) (b.ga k)) = true) : eqX a b = false := by
  rw [eqX_drop a b k ha hb] at h
  simp only [Bool.not_eq_true'] at hf
  rw [hf] at h
  rw [← h]; simp

theorem eqX_step (a b : X) (k : Nat) (ha : k < a.len) (hb : k < b.len) (h : eqX (a.drop k) (b.drop k) = eqX a b) (hf : (!eq1 (a.gk k) (a.gn k) (a.ga k) (b.gk k) (b.gn k) (b.ga k)) = false) : eqX (a.drop (k + 1)) (b.drop (k + 1)) = eqX a b := by
  rw [eqX_drop a b k ha hb] at h
  simp only [Bool.not_eq_false'] at hf
  rw [hf] at h
  simpa using h

theorem eqX_end (a b : X) (k : Nat) (ha : ¬ k < a.len) (hb : ¬ k < b.len) (h : eqX (a.drop k) (b.drop k) = eqX a b) : eqX a b = true := by
  rw [← h, drop_end a k (by omega), drop_end b k (by omega)]; rfl

/-- a walk over all the terms of a list, in order, that stops where it is told to -/
def walk {σ : Type} (f : σ → Int → Int → X → σ × Bool) : σ → X → σ × Bool
  | s, nil => (s, true)
  | s, cons k n a r =>
    if (f s k n a).2 then
      if (walk f (f s k n a).1 a).2 then walk f (walk f (f s k n a).1 a).1 r else ((walk f (f s k n a).1 a).1, false)
    else ((f s k n a).1, false)

/-- the same, of one term -/
def walk1 {σ : Type} (f : σ → Int → Int → X → σ × Bool) (s : σ) (k n : Int) (a : X) : σ × Bool :=
  if (f s k n a).2 then walk f (f s k n a).1 a else ((f s k n a).1, false)

theorem walk_cons {σ : Type} (f : σ → Int → Int → X → σ × Bool) (s : σ) (k n : Int) (a r : X) :
    walk f s (.cons k n a r) = if (walk1 f s k n a).2 then walk f (walk1 f s k n a).1 r else ((walk1 f s k n a).1, false) := by
  unfold walk1
  simp only [walk]
  by_cases h : (f s k n a).2 = true
  · simp [h]
  · simp [h]

theorem walk_drop {σ : Type} (f : σ → Int → Int → X → σ × Bool) (s : σ) (t : X) (i : Nat) (h : i < t.len) :
    walk f s (t.drop i) = if (walk1 f s (t.gk i) (t.gn i) (t.ga i)).2 then walk f (walk1 f s (t.gk i) (t.gn i) (t.ga i)).1 (t.drop (i + 1)) else ((walk1 f s (t.gk i) (t.gn i) (t.ga i)).1, false) := by
  rw [drop_cons t i h, walk_cons]

theorem walk_one {σ : Type} (f : σ → Int → Int → X → σ × Bool) (s : σ) (k n : Int) (a : X) : walk f s (.cons k n a .nil) = walk1 f s k n a := by
  rw [walk_cons]
  cases h : walk1 f s k n a with
  | mk s' b => cases b <;> simp [walk]

theorem walk1_true {σ : Type} {f : σ → Int → Int → X → σ × Bool} {s s' : σ} {k n : Int} {a : X} (h : f s k n a = (s', true)) : walk1 f s k n a = walk f s' a := by
  unfold walk1; rw [h]; rfl

theorem walk1_false {σ : Type} {f : σ → Int → Int → X → σ × Bool} {s s' : σ} {k n : Int} {a : X} (h : f s k n a = (s', false)) : walk1 f s k n a = (s', false) := by
  unfold walk1; rw [h]; rfl

theorem walk_true {σ : Type} {f : σ → Int → Int → X → σ × Bool} {s s' : σ} {k n : Int} {a : X} (r : X) (h : walk1 f s k n a = (s', true)) : walk f s (.cons k n a r) = walk f s' r := by
  rw [walk_cons, h]; rfl

theorem walk_false {σ : Type} {f : σ → Int → Int → X → σ × Bool} {s s' : σ} {k n : Int} {a : X} (r : X) (h : walk1 f s k n a = (s', false)) : walk f s (.cons k n a r) = (s', false) := by
  rw [walk_cons, h]; rfl

end X
end Go.Proofs.Ytlgfaobbjnhfoaa
