/-
  Parts of one proof, laid into one text: Plain, PlainP, TPlain. Conditions: each part names its own.
-/

/-
  Plain mathematics of sorts, no program: a sort is a list of sorts, said as a binary tree (nil: no argument; cons h t: a first argument h and the others t). Conditions: none.
-/
namespace Go.Proofs.YtjkcopgfcafpeaaGreatDoor

inductive T where
  | nil : T
  | cons : T → T → T

namespace T

def len : T → Nat
  | nil => 0
  | cons _ t => t.len + 1

def get : T → Nat → T
  | nil, _ => nil
  | cons h _, 0 => h
  | cons _ t, i + 1 => t.get i

def drop : T → Nat → T
  | t, 0 => t
  | nil, _ => nil
  | cons _ t, i + 1 => t.drop i

def nodes : T → Nat
  | nil => 1
  | cons h t => h.nodes + t.nodes

/-- the order; the depth is one more -/
def ord : T → Nat
  | nil => 0
  | cons h t => max (1 + h.ord) t.ord

/-- at most 8 arguments in each argument, and in what is in them -/
def kids : T → Bool
  | nil => true
  | cons h t => (decide (h.len ≤ 8) && h.kids) && t.kids

def few (t : T) : Bool := decide (t.len ≤ 8) && t.kids

def valid (t : T) : Bool := decide (t.nodes ≤ 60) && decide (t.ord + 1 ≤ 30) && t.few

theorem nodes_pos (t : T) : 1 ≤ t.nodes := by
  induction t with
  | nil => exact Nat.le_refl _
  | cons h t ihh iht => show 1 ≤ h.nodes + t.nodes; omega

theorem drop_zero (t : T) : t.drop 0 = t := by cases t <;> rfl

theorem drop_nil (i : Nat) : T.nil.drop i = T.nil := by cases i <;> rfl

theorem drop_cons (t : T) : ∀ i, i < t.len → t.drop i = .cons (t.get i) (t.drop (i + 1)) := by
  induction t with
  | nil => intro i h; exact absurd h (Nat.not_lt_zero _)
  | cons h t ihh iht =>
    intro i hi
    cases i with
    | zero => show T.cons h t = .cons h (t.drop 0); rw [drop_zero]
    | succ i =>
      have hi' : i < t.len := by simp only [len] at hi; omega
      exact iht i hi'

theorem drop_end (t : T) : ∀ i, t.len ≤ i → t.drop i = .nil := by
  induction t with
  | nil => intro i _; exact drop_nil i
  | cons h t ihh iht =>
    intro i hi
    cases i with
    | zero => simp only [len] at hi; omega
    | succ i => exact iht i (by simp only [len] at hi; omega)

theorem drop_drop (t : T) : ∀ i j, (t.drop i).drop j = t.drop (i + j) := by
  induction t with
  | nil => intro i j; simp [drop_nil]
  | cons h t ihh iht =>
    intro i j
    cases i with
    | zero => simp [drop_zero]
    | succ i => rw [show i + 1 + j = (i + j) + 1 by omega]; exact iht i j

theorem len_drop (t : T) : ∀ i, (t.drop i).len = t.len - i := by
  induction t with
  | nil => intro i; simp [drop_nil, len]
  | cons h t ihh iht =>
    intro i
    cases i with
    | zero => simp [drop_zero]
    | succ i => show (t.drop i).len = t.len + 1 - (i + 1); rw [iht]; omega

theorem get_drop (t : T) : ∀ i j, (t.drop i).get j = t.get (i + j) := by
  induction t with
  | nil => intro i j; simp [drop_nil, get]
  | cons h t ihh iht =>
    intro i j
    cases i with
    | zero => simp [drop_zero]
    | succ i => rw [show i + 1 + j = (i + j) + 1 by omega]; exact iht i j

theorem len_lt_nodes (t : T) : t.len + 1 ≤ t.nodes := by
  induction t with
  | nil => exact Nat.le_refl _
  | cons h t ihh iht => have := nodes_pos h; simp only [len, nodes]; omega

theorem ord_lt_nodes (t : T) : t.ord + 1 ≤ t.nodes := by
  induction t with
  | nil => exact Nat.le_refl _
  | cons h t ihh iht => have := nodes_pos h; have := nodes_pos t; simp only [ord, nodes]; omega

theorem nodes_drop (t : T) (i : Nat) (h : i < t.len) : (t.drop i).nodes = (t.get i).nodes + (t.drop (i + 1)).nodes := by
  rw [drop_cons t i h]; rfl

theorem ord_drop (t : T) (i : Nat) (h : i < t.len) : (t.drop i).ord = max (1 + (t.get i).ord) (t.drop (i + 1)).ord := by
  rw [drop_cons t i h]; rfl

theorem kids_drop (t : T) (i : Nat) (h : i < t.len) : (t.drop i).kids = ((t.get i).few && (t.drop (i + 1)).kids) := by
  rw [drop_cons t i h]; rfl

theorem nodes_drop_le (t : T) : ∀ i, (t.drop i).nodes ≤ t.nodes := by
  induction t with
  | nil => intro i; rw [drop_nil]; exact Nat.le_refl _
  | cons h t ihh iht =>
    intro i
    cases i with
    | zero => rw [drop_zero]; exact Nat.le_refl _
    | succ i => have := iht i; show (t.drop i).nodes ≤ h.nodes + t.nodes; omega

theorem ord_drop_le (t : T) : ∀ i, (t.drop i).ord ≤ t.ord := by
  induction t with
  | nil => intro i; rw [drop_nil]; exact Nat.le_refl _
  | cons h t ihh iht =>
    intro i
    cases i with
    | zero => rw [drop_zero]; exact Nat.le_refl _
    | succ i => have := iht i; show (t.drop i).ord ≤ max (1 + h.ord) t.ord; omega

theorem kids_drop_of (t : T) : ∀ i, t.kids = true → (t.drop i).kids = true := by
  induction t with
  | nil => intro i _; rw [drop_nil]; rfl
  | cons h t ihh iht =>
    intro i hk
    cases i with
    | zero => rw [drop_zero]; exact hk
    | succ i =>
      simp only [kids, Bool.and_eq_true] at hk
      exact iht i hk.2

theorem nodes_get (t : T) (i : Nat) (h : i < t.len) : (t.get i).nodes + 1 ≤ t.nodes := by
  have h1 := nodes_drop t i h
  have h2 := nodes_drop_le t i
  have h3 := nodes_pos (t.drop (i + 1))
  omega

theorem ext_get (a : T) : ∀ b : T, a.len = b.len → (∀ i, i < a.len → a.get i = b.get i) → a = b := by
  induction a with
  | nil => intro b hl _; cases b with
    | nil => rfl
    | cons _ _ => simp [len] at hl
  | cons h t ihh iht =>
    intro b hl hg
    cases b with
    | nil => simp [len] at hl
    | cons h' t' =>
      have e1 : h = h' := hg 0 (by simp [len])
      have e2 : t = t' := iht t' (by simpa [len] using hl) (fun i hi => hg (i + 1) (by simp only [len]; omega))
      rw [e1, e2]

theorem few_not (t : T) (k : Nat) (hk : k < t.len) (h : (t.drop k).kids = t.kids) (hf : (!(t.get k).few) = true) : t.few = false := by
  rw [kids_drop t k hk] at h
  simp only [Bool.not_eq_true'] at hf
  rw [hf] at h
  unfold few
  rw [← h]; simp

theorem kids_step (t : T) (k : Nat) (hk : k < t.len) (h : (t.drop k).kids = t.kids) (hf : (!(t.get k).few) = false) : (t.drop (k + 1)).kids = t.kids := by
  rw [kids_drop t k hk] at h
  simp only [Bool.not_eq_false'] at hf
  rw [hf] at h
  simpa using h

theorem few_end (t : T) (k : Nat) (hk : ¬ k < t.len) (h : (t.drop k).kids = t.kids) : decide ((t.len : Int) ≤ 8) = t.few := by
  rw [drop_end t k (by omega)] at h
  unfold few
  rw [← h]
  simp only [kids, Bool.and_true]
  congr 1
  simp; omega

theorem few_first (t : T) (h : (!decide ((t.len : Int) ≤ 8)) = true) : t.few = false := by
  have : ¬ t.len ≤ 8 := by simp at h; omega
  unfold few; simp [this]

theorem few_len (t : T) (h : (!decide ((t.len : Int) ≤ 8)) = false) : t.len ≤ 8 := by
  simp at h; omega

def eqT : T → T → Bool
  | nil, nil => true
  | cons h t, cons h' t' => eqT h h' && eqT t t'
  | _, _ => false

theorem eqT_iff (a : T) : ∀ b : T, eqT a b = true ↔ a = b := by
  induction a with
  | nil => intro b; cases b <;> simp [eqT]
  | cons h t ihh iht => intro b; cases b with
    | nil => simp [eqT]
    | cons h' t' => simp [eqT, ihh, iht]

theorem eqT_refl (a : T) : eqT a a = true := (eqT_iff a a).2 rfl

theorem eqT_len (a b : T) (h : ¬ a.len = b.len) : eqT a b = false := by
  cases he : eqT a b with
  | false => rfl
  | true => rw [(eqT_iff a b).1 he] at h; exact absurd rfl h

theorem eqT_drop (a b : T) (k : Nat) (ha : k < a.len) (hb : k < b.len) : eqT (a.drop k) (b.drop k) = (eqT (a.get k) (b.get k) && eqT (a.drop (k + 1)) (b.drop (k + 1))) := by
  rw [drop_cons a k ha, drop_cons b k hb]; rfl

theorem eqT_not (a b : T) (k : Nat) (ha : k < a.len) (hb : k < b.len) (h : eqT (a.drop k) (b.drop k) = eqT a b) (hf : (!eqT (a.get k) (b.get k)) = true) : eqT a b = false := by
  rw [eqT_drop a b k ha hb] at h
  simp only [Bool.not_eq_true'] at hf
  rw [hf] at h
  rw [← h]; simp

theorem eqT_step (a b : T) (k : Nat) (ha : k < a.len) (hb : k < b.len) (h : eqT (a.drop k) (b.drop k) = eqT a b) (hf : (!eqT (a.get k) (b.get k)) = false) : eqT (a.drop (k + 1)) (b.drop (k + 1)) = eqT a b := by
  rw [eqT_drop a b k ha hb] at h
  simp only [Bool.not_eq_false'] at hf
  rw [hf] at h
  simpa using h

theorem eqT_end (a b : T) (k : Nat) (ha : ¬ k < a.len) (hb : ¬ k < b.len) (h : eqT (a.drop k) (b.drop k) = eqT a b) : eqT a b = true := by
  rw [← h, drop_end a k (by omega), drop_end b k (by omega)]; rfl

/-- the string of a sort -/
def txt : T → List UInt8
  | nil => [111]
  | cons h t => (if h.len = 0 then [111, 32, 62, 32] else 40 :: (h.txt ++ [41, 32, 62, 32])) ++ t.txt

theorem txt_len (t : T) : t.txt.length + 6 ≤ 7 * t.nodes := by
  induction t with
  | nil => simp [txt, nodes]
  | cons h t ihh iht =>
    simp only [txt, nodes, List.length_append]
    split <;> simp <;> omega

theorem txt_drop (t : T) (k : Nat) (hk : k < t.len) : (t.drop k).txt = (if (t.get k).len = 0 then [111, 32, 62, 32] else 40 :: ((t.get k).txt ++ [41, 32, 62, 32])) ++ (t.drop (k + 1)).txt := by
  rw [drop_cons t k hk]; rfl

theorem drop_eq (a b : T) (h : ∀ i, i < a.len → a.get i = b.get i) (hl : a.len = b.len) : a = b := ext_get a b hl h

end T
end Go.Proofs.YtjkcopgfcafpeaaGreatDoor

/-
  Plain mathematics of reading sorts: a text is read as one sort as far as it goes; reading and writing are inverse. Conditions: none.
-/
namespace Go.Proofs.YtjkcopgfcafpeaaGreatDoor

/-- does s begin with p? -/
def pre (p s : List UInt8) : Bool := p.isPrefixOf s

theorem pre_iff (p s : List UInt8) : pre p s = true ↔ ∃ r, s = p ++ r := by
  unfold pre
  rw [List.isPrefixOf_iff_prefix]
  constructor
  · rintro ⟨r, h⟩; exact ⟨r, h.symm⟩
  · rintro ⟨r, h⟩; exact ⟨r, h.symm⟩

theorem pre_length {p s : List UInt8} (h : pre p s = true) : p.length ≤ s.length := by
  obtain ⟨r, rfl⟩ := (pre_iff p s).1 h; simp

theorem pre_append (p r : List UInt8) : pre p (p ++ r) = true := (pre_iff _ _).2 ⟨r, rfl⟩

/-- one sort, with this much fuel, and what is left -/
def prs : Nat → List UInt8 → Option (T × List UInt8)
  | 0, _ => none
  | f + 1, s =>
    if pre [40] s then
      match prs f (s.drop 1) with
      | some (h, r) => if h.len ≠ 0 ∧ pre [41] r = true ∧ pre [32, 62, 32] (r.drop 1) = true then (prs f (r.drop 4)).map (fun x => (T.cons h x.1, x.2)) else none
      | none => none
    else if pre [111] s then
      if pre [32, 62, 32] (s.drop 1) then (prs f (s.drop 4)).map (fun x => (T.cons T.nil x.1, x.2)) else some (T.nil, s.drop 1)
    else none

theorem prs_lt : ∀ (f : Nat) (s : List UInt8) (t : T) (r : List UInt8), prs f s = some (t, r) → r.length < s.length := by
  intro f
  induction f with
  | zero => intro s t r h; cases h
  | succ f ih =>
    intro s t r h
    unfold prs at h
    split at h
    · rename_i h1
      have hl := pre_length h1
      split at h
      · rename_i hh rr he
        have hr := ih _ _ _ he
        simp only [List.length_drop, List.length_singleton] at hr hl
        split at h
        · rw [Option.map_eq_some_iff] at h
          obtain ⟨x, hx, he2⟩ := h
          have := ih _ _ _ hx
          simp only [Prod.mk.injEq] at he2
          obtain ⟨_, rfl⟩ := he2
          simp only [List.length_drop] at this
          omega
        · cases h
      · cases h
    · split at h
      · rename_i h1
        have hl := pre_length h1
        simp only [List.length_singleton] at hl
        split at h
        · rw [Option.map_eq_some_iff] at h
          obtain ⟨x, hx, he2⟩ := h
          have := ih _ _ _ hx
          simp only [Prod.mk.injEq] at he2
          obtain ⟨_, rfl⟩ := he2
          simp only [List.length_drop] at this
          omega
        · simp only [Option.some.injEq, Prod.mk.injEq] at h
          obtain ⟨_, rfl⟩ := h
          simp only [List.length_drop]; omega
      · cases h

theorem prs_fuel : ∀ (f g : Nat) (s : List UInt8), s.length < f → s.length < g → prs f s = prs g s := by
  intro f
  induction f with
  | zero => intro g s h; omega
  | succ f ih =>
    intro g s hf hg
    cases g with
    | zero => omega
    | succ g =>
      unfold prs
      by_cases h1 : pre [40] s = true
      · have hl := pre_length h1
        simp only [List.length_singleton] at hl
        rw [if_pos h1, if_pos h1, ih g (s.drop 1) (by simp; omega) (by simp; omega)]
        cases he : prs g (s.drop 1) with
        | none => rfl
        | some x =>
          obtain ⟨h, r⟩ := x
          have hr := prs_lt _ _ _ _ he
          simp only [List.length_drop] at hr
          simp only
          rw [ih g (r.drop 4) (by simp; omega) (by simp; omega)]
      · rw [if_neg h1, if_neg h1]
        by_cases h2 : pre [111] s = true
        · have hl := pre_length h2
          simp only [List.length_singleton] at hl
          rw [if_pos h2, if_pos h2, ih g (s.drop 4) (by simp; omega) (by simp; omega)]
        · rw [if_neg h2, if_neg h2]

/-- one sort, and what is left -/
def rd (s : List UInt8) : Option (T × List UInt8) := prs (s.length + 1) s

theorem rd_lt {s : List UInt8} {t : T} {r : List UInt8} (h : rd s = some (t, r)) : r.length < s.length := prs_lt _ _ _ _ h

theorem rd_step (s : List UInt8) : rd s = if pre [40] s then
      (match rd (s.drop 1) with
      | some (h, r) => if h.len ≠ 0 ∧ pre [41] r = true ∧ pre [32, 62, 32] (r.drop 1) = true then (rd (r.drop 4)).map (fun x => (T.cons h x.1, x.2)) else none
      | none => none)
    else if pre [111] s then
      if pre [32, 62, 32] (s.drop 1) then (rd (s.drop 4)).map (fun x => (T.cons T.nil x.1, x.2)) else some (T.nil, s.drop 1)
    else none := by
  conv => lhs; unfold rd prs
  by_cases h1 : pre [40] s = true
  · have hl := pre_length h1
    simp only [List.length_singleton] at hl
    rw [if_pos h1, if_pos h1, prs_fuel s.length ((s.drop 1).length + 1) (s.drop 1) (by simp; omega) (by omega)]
    change (match rd (s.drop 1) with | some (h, r) => _ | none => _) = _
    cases he : rd (s.drop 1) with
    | none => rfl
    | some x =>
      obtain ⟨h, r⟩ := x
      have hr := rd_lt he
      simp only [List.length_drop] at hr
      simp only
      rw [prs_fuel s.length ((r.drop 4).length + 1) (r.drop 4) (by simp; omega) (by omega)]
      rfl
  · rw [if_neg h1, if_neg h1]
    by_cases h2 : pre [111] s = true
    · have hl := pre_length h2
      simp only [List.length_singleton] at hl
      rw [if_pos h2, if_pos h2, prs_fuel s.length ((s.drop 4).length + 1) (s.drop 4) (by simp; omega) (by omega)]
      rfl
    · rw [if_neg h2, if_neg h2]

/-- what is read is what is written -/
theorem rd_txt (n : Nat) : ∀ (s : List UInt8) (t : T) (r : List UInt8), s.length < n → rd s = some (t, r) → s = t.txt ++ r := by
  induction n with
  | zero => intro s t r h; omega
  | succ n ih =>
    intro s t r hn h
    rw [rd_step] at h
    split at h
    · rename_i h1
      obtain ⟨s1, rfl⟩ := (pre_iff _ _).1 h1
      simp only [List.singleton_append, List.drop_succ_cons, List.drop_zero] at h
      split at h
      · rename_i hh rr he
        have hr := rd_lt he
        have e1 := ih s1 hh rr (by simp at hn; omega) he
        split at h
        · rename_i hc
          obtain ⟨hc1, hc2, hc3⟩ := hc
          obtain ⟨r1, rfl⟩ := (pre_iff _ _).1 hc2
          simp only [List.singleton_append, List.drop_succ_cons, List.drop_zero] at hc3 h
          obtain ⟨r2, rfl⟩ := (pre_iff _ _).1 hc3
          rw [Option.map_eq_some_iff] at h
          obtain ⟨x, hx, he2⟩ := h
          obtain ⟨t', r'⟩ := x
          simp only [Prod.mk.injEq] at he2
          obtain ⟨rfl, rfl⟩ := he2
          simp only [List.cons_append, List.nil_append, List.drop_succ_cons, List.drop_zero] at hx
          have e2 := ih r2 t' r' (by simp at hn hr; omega) hx
          rw [e1, e2]
          simp [T.txt, hc1]
        · cases h
      · cases h
    · split at h
      · rename_i h1
        obtain ⟨s1, rfl⟩ := (pre_iff _ _).1 h1
        simp only [List.singleton_append, List.drop_succ_cons, List.drop_zero] at h
        split at h
        · rename_i hc3
          obtain ⟨r2, rfl⟩ := (pre_iff _ _).1 hc3
          rw [Option.map_eq_some_iff] at h
          obtain ⟨x, hx, he2⟩ := h
          obtain ⟨t', r'⟩ := x
          simp only [Prod.mk.injEq] at he2
          obtain ⟨rfl, rfl⟩ := he2
          simp only [List.cons_append, List.nil_append, List.drop_succ_cons, List.drop_zero] at hx
          have e2 := ih r2 t' r' (by simp at hn; omega) hx
          rw [e2]
          simp [T.txt, T.len]
        · simp only [Option.some.injEq, Prod.mk.injEq] at h
          obtain ⟨rfl, rfl⟩ := h
          rfl
      · cases h

theorem rd_open (s1 : List UInt8) : rd (40 :: s1) = (match rd s1 with
      | some (h, r) => if h.len ≠ 0 ∧ pre [41] r = true ∧ pre [32, 62, 32] (r.drop 1) = true then (rd (r.drop 4)).map (fun x => (T.cons h x.1, x.2)) else none
      | none => none) := by
  rw [rd_step, if_pos (by simp [pre])]; rfl

/-- what is written is read, where no arrow follows -/
theorem txt_rd (t : T) : ∀ (r : List UInt8), pre [32, 62, 32] r = false → rd (t.txt ++ r) = some (t, r) := by
  induction t with
  | nil =>
    intro r hr
    show rd (111 :: r) = _
    rw [rd_step, if_neg (by simp [pre]), if_pos (by simp [pre])]
    simp [hr]
  | cons h t ihh iht =>
    intro r hr
    by_cases h0 : h.len = 0
    · have hn : h = .nil := by cases h with
        | nil => rfl
        | cons a b => simp [T.len] at h0
      subst hn
      have e : (T.cons .nil t).txt ++ r = 111 :: 32 :: 62 :: 32 :: (t.txt ++ r) := by simp [T.txt, T.len]
      rw [e, rd_step, if_neg (by simp [pre]), if_pos (by simp [pre]), if_pos (by simp [pre])]
      simp [iht r hr]
    · have e : (T.cons h t).txt ++ r = 40 :: (h.txt ++ (41 :: 32 :: 62 :: 32 :: (t.txt ++ r))) := by simp [T.txt, h0]
      rw [e, rd_open, ihh (41 :: 32 :: 62 :: 32 :: (t.txt ++ r)) rfl]
      simp only
      rw [if_pos ⟨h0, by simp [pre], by simp [pre]⟩]
      simp [iht r hr]

end Go.Proofs.YtjkcopgfcafpeaaGreatDoor

/-
  Plain mathematics of terms, no program: a list of terms, each with a kind, a number and a list of arguments. Conditions: none.
-/
set_option linter.unusedSimpArgs false
set_option linter.unusedVariables false
namespace Go.Proofs.YtjkcopgfcafpeaaGreatDoor

inductive X where
  | nil : X
  | cons : Int → Int → X → X → X

namespace X

def len : X → Nat
  | nil => 0
  | cons _ _ _ r => r.len + 1

def gk : X → Nat → Int
  | nil, _ => 0
  | cons k _ _ _, 0 => k
  | cons _ _ _ r, i + 1 => r.gk i

def gn : X → Nat → Int
  | nil, _ => 0
  | cons _ n _ _, 0 => n
  | cons _ _ _ r, i + 1 => r.gn i

def ga : X → Nat → X
  | nil, _ => nil
  | cons _ _ a _, 0 => a
  | cons _ _ _ r, i + 1 => r.ga i

def drop : X → Nat → X
  | t, 0 => t
  | nil, _ => nil
  | cons _ _ _ r, i + 1 => r.drop i

/-- the nodes of all the terms of a list -/
def sz : X → Nat
  | nil => 0
  | cons _ _ a r => 1 + a.sz + r.sz

/-- the greatest depth of a term of a list -/
def dep : X → Nat
  | nil => 0
  | cons _ _ a r => max (1 + a.dep) r.dep

theorem drop_zero (t : X) : t.drop 0 = t := by cases t <;> rfl

theorem drop_nil (i : Nat) : X.nil.drop i = X.nil := by cases i <;> rfl

theorem drop_cons (t : X) : ∀ i, i < t.len → t.drop i = .cons (t.gk i) (t.gn i) (t.ga i) (t.drop (i + 1)) := by
  induction t with
  | nil => intro i h; exact absurd h (Nat.not_lt_zero _)
  | cons k n a r iha ihr =>
    intro i hi
    cases i with
    | zero => show X.cons k n a r = .cons k n a (r.drop 0); rw [drop_zero]
    | succ i =>
      have hi' : i < r.len := by simp only [len] at hi; omega
      exact ihr i hi'

theorem drop_end (t : X) : ∀ i, t.len ≤ i → t.drop i = .nil := by
  induction t with
  | nil => intro i _; exact drop_nil i
  | cons k n a r iha ihr =>
    intro i hi
    cases i with
    | zero => simp only [len] at hi; omega
    | succ i => exact ihr i (by simp only [len] at hi; omega)

theorem len_drop (t : X) : ∀ i, (t.drop i).len = t.len - i := by
  induction t with
  | nil => intro i; simp [drop_nil, len]
  | cons k n a r iha ihr =>
    intro i
    cases i with
    | zero => simp [drop_zero]
    | succ i => show (r.drop i).len = r.len + 1 - (i + 1); rw [ihr]; omega

theorem len_le_sz (t : X) : t.len ≤ t.sz := by
  induction t with
  | nil => exact Nat.le_refl _
  | cons k n a r iha ihr => simp only [len, sz]; omega

theorem dep_le_sz (t : X) : t.dep ≤ t.sz := by
  induction t with
  | nil => exact Nat.le_refl _
  | cons k n a r iha ihr => simp only [dep, sz]; omega

theorem sz_drop (t : X) (i : Nat) (h : i < t.len) : (t.drop i).sz = 1 + (t.ga i).sz + (t.drop (i + 1)).sz := by
  rw [drop_cons t i h]; rfl

theorem dep_drop (t : X) (i : Nat) (h : i < t.len) : (t.drop i).dep = max (1 + (t.ga i).dep) (t.drop (i + 1)).dep := by
  rw [drop_cons t i h]; rfl

theorem sz_drop_le (t : X) : ∀ i, (t.drop i).sz ≤ t.sz := by
  induction t with
  | nil => intro i; rw [drop_nil]; exact Nat.le_refl _
  | cons k n a r iha ihr =>
    intro i
    cases i with
    | zero => rw [drop_zero]; exact Nat.le_refl _
    | succ i => have := ihr i; show (r.drop i).sz ≤ 1 + a.sz + r.sz; omega

theorem sz_ga (t : X) (i : Nat) (h : i < t.len) : (t.ga i).sz + 1 ≤ t.sz := by
  have h1 := sz_drop t i h
  have h2 := sz_drop_le t i
  omega

def eqX : X → X → Bool
  | nil, nil => true
  | cons k n a r, cons k' n' a' r' => (decide (k = k') && decide (n = n')) && eqX a a' && eqX r r'
  | _, _ => false

theorem eqX_iff (a : X) : ∀ b : X, eqX a b = true ↔ a = b := by
  induction a with
  | nil => intro b; cases b <;> simp [eqX]
  | cons k n a r iha ihr => intro b; cases b with
    | nil => simp [eqX]
    | cons k' n' a' r' => simp [eqX, iha, ihr, and_assoc]

theorem eqX_refl (a : X) : eqX a a = true := (eqX_iff a a).2 rfl

theorem eqX_len (a b : X) (h : ¬ a.len = b.len) : eqX a b = false := by
  cases he : eqX a b with
  | false => rfl
  | true => rw [(eqX_iff a b).1 he] at h; exact absurd rfl h

/-- two terms, each a kind, a number and arguments, are equal -/
def eq1 (k n : Int) (a : X) (k' n' : Int) (a' : X) : Bool := decide (k = k') && decide (n = n') && eqX a a'

theorem eqX_drop (a b : X) (i : Nat) (ha : i < a.len) (hb : i < b.len) : eqX (a.drop i) (b.drop i) = (eq1 (a.gk i) (a.gn i) (a.ga i) (b.gk i) (b.gn i) (b.ga i) && eqX (a.drop (i + 1)) (b.drop (i + 1))) := by
  rw [drop_cons a i ha, drop_cons b i hb]; rfl

theorem eqX_not (a b : X) (k : Nat) (ha : k < a.len) (hb : k < b.len) (h : eqX (a.drop k) (b.drop k) = eqX a b) (hf : (!eq1 (a.gk k) (a.gn k) (a.ga k) (b.gk k) (b.gn k) (b.ga k)) = true) : eqX a b = false := by
  rw [eqX_drop a b k ha hb] at h
  simp only [Bool.not_eq_true'] at hf
  rw [hf] at h
  rw [← h]; simp

theorem eqX_step (a b : X) (k : Nat) (ha : k < a.len) (hb : k < b.len) (h : eqX (a.drop k) (b.drop k) = eqX a b) (hf : (!eq1 (a.gk k) (a.gn k) (a.ga k) (b.gk k) (b.gn k) (b.ga k)) = false) : eqX (a.drop (k + 1)) (b.drop (k + 1)) = eqX a b := by
  rw [eqX_drop a b k ha hb] at h
  simp only [Bool.not_eq_false'] at hf
  rw [hf] at h
  simpa using h

theorem eqX_end (a b : X) (k : Nat) (ha : ¬ k < a.len) (hb : ¬ k < b.len) (h : eqX (a.drop k) (b.drop k) = eqX a b) : eqX a b = true := by
  rw [← h, drop_end a k (by omega), drop_end b k (by omega)]; rfl

/-- a walk over all the terms of a list, in order, that stops where it is told to -/
def walk {σ : Type} (f : σ → Int → Int → X → σ × Bool) : σ → X → σ × Bool
  | s, nil => (s, true)
  | s, cons k n a r =>
    if (f s k n a).2 then
      if (walk f (f s k n a).1 a).2 then walk f (walk f (f s k n a).1 a).1 r else ((walk f (f s k n a).1 a).1, false)
    else ((f s k n a).1, false)

/-- the same, of one term -/
def walk1 {σ : Type} (f : σ → Int → Int → X → σ × Bool) (s : σ) (k n : Int) (a : X) : σ × Bool :=
  if (f s k n a).2 then walk f (f s k n a).1 a else ((f s k n a).1, false)

theorem walk_cons {σ : Type} (f : σ → Int → Int → X → σ × Bool) (s : σ) (k n : Int) (a r : X) :
    walk f s (.cons k n a r) = if (walk1 f s k n a).2 then walk f (walk1 f s k n a).1 r else ((walk1 f s k n a).1, false) := by
  unfold walk1
  simp only [walk]
  by_cases h : (f s k n a).2 = true
  · simp [h]
  · simp [h]

theorem walk_drop {σ : Type} (f : σ → Int → Int → X → σ × Bool) (s : σ) (t : X) (i : Nat) (h : i < t.len) :
    walk f s (t.drop i) = if (walk1 f s (t.gk i) (t.gn i) (t.ga i)).2 then walk f (walk1 f s (t.gk i) (t.gn i) (t.ga i)).1 (t.drop (i + 1)) else ((walk1 f s (t.gk i) (t.gn i) (t.ga i)).1, false) := by
  rw [drop_cons t i h, walk_cons]

theorem walk_one {σ : Type} (f : σ → Int → Int → X → σ × Bool) (s : σ) (k n : Int) (a : X) : walk f s (.cons k n a .nil) = walk1 f s k n a := by
  rw [walk_cons]
  cases h : walk1 f s k n a with
  | mk s' b => cases b <;> simp [walk]

theorem walk1_true {σ : Type} {f : σ → Int → Int → X → σ × Bool} {s s' : σ} {k n : Int} {a : X} (h : f s k n a = (s', true)) : walk1 f s k n a = walk f s' a := by
  unfold walk1; rw [h]; rfl

theorem walk1_false {σ : Type} {f : σ → Int → Int → X → σ × Bool} {s s' : σ} {k n : Int} {a : X} (h : f s k n a = (s', false)) : walk1 f s k n a = (s', false) := by
  unfold walk1; rw [h]; rfl

theorem walk_true {σ : Type} {f : σ → Int → Int → X → σ × Bool} {s s' : σ} {k n : Int} {a : X} (r : X) (h : walk1 f s k n a = (s', true)) : walk f s (.cons k n a r) = walk f s' r := by
  rw [walk_cons, h]; rfl

theorem walk_false {σ : Type} {f : σ → Int → Int → X → σ × Bool} {s s' : σ} {k n : Int} {a : X} (r : X) (h : walk1 f s k n a = (s', false)) : walk f s (.cons k n a r) = (s', false) := by
  rw [walk_cons, h]; rfl

end X
end Go.Proofs.YtjkcopgfcafpeaaGreatDoor

