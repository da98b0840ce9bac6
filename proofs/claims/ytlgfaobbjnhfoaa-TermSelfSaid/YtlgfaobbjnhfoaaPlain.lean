/-
  Plain mathematics of sorts, no program: a sort is a list of sorts, said as a binary tree (nil: no argument; cons h t: a first argument h and the others t). Conditions: none.
-/
namespace Go.Proofs.Ytlgfaobbjnhfoaa

inductive T where
  | nil : T
  | cons : T → T → T

namespace T

def len : T → Nat
  | nil => 0
  | cons _ t => t.len + 1

def get : T → Nat → T
  | nil, _ => nil
  | cons h _, 0 => h
  | cons _ t, i + 1 => t.get i

def drop : T → Nat → T
  | t, 0 => t
  | nil, _ => nil
  | cons _ t, i + 1 => t.drop i

def nodes : T → Nat
  | nil => 1
  | cons h t => h.nodes + t.nodes

/-- the order; the depth is one more -/
def ord : T → Nat
  | nil => 0
  | cons h t => max (1 + h.ord) t.ord

/-- at most 8 arguments in each argument, and in what is in them -/
def kids : T → Bool
  | nil => true
  | cons h t => (decide (h.len ≤ 8) && h.kids) && t.kids

def few (t : T) : Bool := decide (t.len ≤ 8) && t.kids

def valid (t : T) : Bool := decide (t.nodes ≤ 60) && decide (t.ord + 1 ≤ 30) && t.few

theorem nodes_pos (t : T) : 1 ≤ t.nodes := by
  induction t with
  | nil => exact Nat.le_refl _
  | cons h t ihh iht => show 1 ≤ h.nodes + t.nodes; omega

theorem drop_zero (t : T) : t.drop 0 = t := by cases t <;> rfl

theorem drop_nil (i : Nat) : T.nil.drop i = T.nil := by cases i <;> rfl

theorem drop_cons (t : T) : ∀ i, i < t.len → t.drop i = .cons (t.get i) (t.drop (i + 1)) := by
  induction t with
  | nil => intro i h; exact absurd h (Nat.not_lt_zero _)
  | cons h t ihh iht =>
    intro i hi
    cases i with
    | zero => show T.cons h t = .cons h (t.drop 0); rw [drop_zero]
    | succ i =>
      have hi' : i < t.len := by simp only [len] at hi; omega
      exact iht i hi'

theorem drop_end (t : T) : ∀ i, t.len ≤ i → t.drop i = .nil := by
  induction t with
  | nil => intro i _; exact drop_nil i
  | cons h t ihh iht =>
    intro i hi
    cases i with
    | zero => simp only [len] at hi; omega
    | succ i => exact iht i (by simp only [len] at hi; omega)

theorem drop_drop (t : T) : ∀ i j, (t.drop i).drop j = t.drop (i + j) := by
  induction t with
  | nil => intro i j; simp [drop_nil]
  | cons h t ihh iht =>
    intro i j
    cases i with
    | zero => simp [drop_zero]
    | succ i => rw [show i + 1 + j = (i + j) + 1 by omega]; exact iht i j

theorem len_drop (t : T) : ∀ i, (t.drop i).len = t.len - i := by
  induction t with
  | nil => intro i; simp [drop_nil, len]
  | cons h t ihh iht =>
    intro i
    cases i with
    | zero => simp [drop_zero]
    | succ i => show (t.drop i).len = t.len + 1 - (i + 1); rw [iht]; omega

theorem get_drop (t : T) : ∀ i j, (t.drop i).get j = t.get (i + j) := by
  induction t with
  | nil => intro i j; simp [drop_nil, get]
  | cons h t ihh iht =>
    intro i j
    cases i with
    | zero => simp [drop_zero]
    | succ i => rw [show i + 1 + j = (i + j) + 1 by omega]; exact iht i j

theorem len_lt_nodes (t : T) : t.len + 1 ≤ t.nodes := by
  induction t with
  | nil => exact Nat.le_refl _
  | cons h t ihh iht => have := nodes_pos h; simp only [len, nodes]; omega

theorem ord_lt_nodes (t : T) : t.ord + 1 ≤ t.nodes := by
  induction t with
  | nil => exact Nat.le_refl _
  | cons h t ihh iht => have := nodes_pos h; have := nodes_pos t; simp only [ord, nodes]; omega

theorem nodes_drop (t : T) (i : Nat) (h : i < t.len) : (t.drop i).nodes = (t.get i).nodes + (t.drop (i + 1)).nodes := by
  rw [drop_cons t i h]; rfl

theorem ord_drop (t : T) (i : Nat) (h : i < t.len) : (t.drop i).ord = max (1 + (t.get i).ord) (t.drop (i + 1)).ord := by
  rw [drop_cons t i h]; rfl

theorem kids_drop (t : T) (i : Nat) (h : i < t.len) : (t.drop i).kids = ((t.get i).few && (t.drop (i + 1)).kids) := by
  rw [drop_cons t i h]; rfl

theorem nodes_drop_le (t : T) : ∀ i, (t.drop i).nodes ≤ t.nodes := by
  induction t with
  | nil => intro i; rw [drop_nil]; exact Nat.le_refl _
  | cons h t ihh iht =>
    intro i
    cases i with
    | zero => rw [drop_zero]; exact Nat.le_refl _
    | succ i => have := iht i; show (t.drop i).nodes ≤ h.nodes + t.nodes; omega

theorem ord_drop_le (t : T) : ∀ i, (t.drop i).ord ≤ t.ord := by
  induction t with
  | nil => intro i; rw [drop_nil]; exact Nat.le_refl _
  | cons h t ihh iht =>
    intro i
    cases i with
    | zero => rw [drop_zero]; exact Nat.le_refl _
    | succ i => have := iht i; show (t.drop i).ord ≤ max (1 + h.ord) t.ord; omega

theorem kids_drop_of (t : T) : ∀ i, t.kids = true → (t.drop i).kids = true := by
  induction t with
  | nil => intro i _; rw [drop_nil]; rfl
  | cons h t ihh iht =>
    intro i hk
    cases i with
    | zero => rw [drop_zero]; exact hk
    | succ i =>
      simp only [kids, Bool.and_eq_true] at hk
      exact iht i hk.2

theorem nodes_get (t : T) (i : Nat) (h : i < t.len) : (t.get i).nodes + 1 ≤ t.nodes := by
  have h1 := nodes_drop t i h
  have h2 := nodes_drop_le t i
  have h3 := nodes_pos (t.drop (i + 1))
  omega

theorem ext_get (a : T) : ∀ b : T, a.len = b.len → (∀ i, i < a.len → a.get i = b.get i) → a = b := by
  induction a with
  | nil => intro b hl _; cases b with
    | nil => rfl
    | cons _ _ => simp [len] at hl
  | cons h t ihh iht =>
    intro b hl hg
    cases b with
    | nil => simp [len] at hl
    | cons h' t' =>
      have e1 : h = h' := hg 0 (by simp [len])
      have e2 : t = t' := iht t' (by simpa [len] using hl) (fun i hi => hg (i + 1) (by simp only [len]; omega))
      rw [e1, e2]

theorem few_not (t : T) (k : Nat) (hk : k < t.len) (h : (t.drop k).kids = t.kids) (hf : (!(t.get k).few) = true) : t.few = false := by
  rw [kids_drop t k hk] at h
  simp only [Bool.not_eq_true'] at hf
  rw [hf] at h
  unfold few
  rw [← h]; simp

theorem kids_step (t : T) (k : Nat) (hk : k < t.len) (h : (t.drop k).kids = t.kids) (hf : (!(t.get k).few) = false) : (t.drop (k + 1)).kids = t.kids := by
  rw [kids_drop t k hk] at h
  simp only [Bool.not_eq_false'] at hf
  rw [hf] at h
  simpa using h

theorem few_end (t : T) (k : Nat) (hk : ¬ k < t.len) (h : (t.drop k).kids = t.kids) : decide ((t.len : Int) ≤ 8) = t.few := by
  rw [drop_end t k (by omega)] at h
  unfold few
  rw [← h]
  simp only [kids, Bool.and_true]
  congr 1
  simp; omega

theorem few_first (t : T) (h : (!decide ((t.len : Int) ≤ 8)) = true) : t.few = false := by
  have : ¬ t.len ≤ 8 := by simp at h; omega
  unfold few; simp [this]

theorem few_len (t : T) (h : (!decide ((t.len : Int) ≤ 8)) = false) : t.len ≤ 8 := by
  simp at h; omega

def eqT : T → T → Bool
  | nil, nil => true
  | cons h t, cons h' t' => eqT h h' && eqT t t'
  | _, _ => false

theorem eqT_iff (a : T) : ∀ b : T, eqT a b = true ↔ a = b := by
  induction a with
  | nil => intro b; cases b <;> simp [eqT]
  | cons h t ihh iht => intro b; cases b with
    | nil => simp [eqT]
    | cons h' t' => simp [eqT, ihh, iht]

theorem eqT_refl (a : T) : eqT a a = true := (eqT_iff a a).2 rfl

theorem eqT_len (a b : T) (h : ¬ a.len = b.len) : eqT a b = false := by
  cases he : eqT a b with
  | false => rfl
  | true => rw [(eqT_iff a b).1 he] at h; exact absurd rfl h

theorem eqT_drop (a b : T) (k : Nat) (ha : k < a.len) (hb : k < b.len) : eqT (a.drop k) (b.drop k) = (eqT (a.get k) (b.get k) && eqT (a.drop (k + 1)) (b.drop (k + 1))) := by
  rw [drop_cons a k ha, drop_cons b k hb]; rfl

theorem eqT_not (a b : T) (k : Nat) (ha : k < a.len) (hb : k < b.len) (h : eqT (a.drop k) (b.drop k) = eqT a b) (hf : (!eqT (a.get k) (b.get k)) = true) : eqT a b = false := by
  rw [eqT_drop a b k ha hb] at h
  simp only [Bool.not_eq_true'] at hf
  rw [hf] at h
  rw [← h]; simp

theorem eqT_step (a b : T) (k : Nat) (ha : k < a.len) (hb : k < b.len) (h : eqT (a.drop k) (b.drop k) = eqT a b) (hf : (!eqT (a.get k) (b.get k)) = false) : eqT (a.drop (k + 1)) (b.drop (k + 1)) = eqT a b := by
  rw [eqT_drop a b k ha hb] at h
  simp only [Bool.not_eq_false'] at hf
  rw [hf] at h
  simpa using h

theorem eqT_end (a b : T) (k : Nat) (ha : ¬ k < a.len) (hb : ¬ k < b.len) (h : eqT (a.drop k) (b.drop k) = eqT a b) : eqT a b = true := by
  rw [← h, drop_end a k (by omega), drop_end b k (by omega)]; rfl

/-- the string of a sort -/
def txt : T → List UInt8
  | nil => [111]
  | cons h t => (if h.len = 0 then [111, 32, 62, 32] else 40 :: (h.txt ++ [41, 32, 62, 32])) ++ t.txt

theorem txt_len (t : T) : t.txt.length + 6 ≤ 7 * t.nodes := by
  induction t with
  | nil => simp [txt, nodes]
  | cons h t ihh iht =>
    simp only [txt, nodes, List.length_append]
    split <;> simp <;> omega

theorem txt_drop (t : T) (k : Nat) (hk : k < t.len) : (t.drop k).txt = (if (t.get k).len = 0 then [111, 32, 62, 32] else 40 :: ((t.get k).txt ++ [41, 32, 62, 32])) ++ (t.drop (k + 1)).txt := by
  rw [drop_cons t k hk]; rfl

theorem drop_eq (a b : T) (h : ∀ i, i < a.len → a.get i = b.get i) (hl : a.len = b.len) : a = b := ext_get a b hl h

end T
end Go.Proofs.Ytlgfaobbjnhfoaa
