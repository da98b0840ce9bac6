/-
  Parts of one proof, laid into one text: EMath. Conditions: each part names its own.
-/
import Derived.Test.YteolfpdkpihnlaaMg13
import Derived.Test.YteolfpdkpihnlaaMg01
import Derived.Test.YteolfpdkpihnlaaMg02

/-
  The order of trees, what two have in common and what is above both, and the first levels: without memory. Conditions: none.
-/
set_option linter.unusedSimpArgs false
set_option linter.unusedVariables false
namespace Go.Proofs.Yteolfpdkpihnlaa
open Y

theorem leY_cons (n : Int) (a r : Y) (n' : Int) (a' r' : Y) : leY (.cons n a r) (.cons n' a' r') = (le1 n a n' a' && leY r r') := rfl

theorem le_one (n : Int) (a : Y) (n' : Int) (a' : Y) : leY (.cons n a .nil) (.cons n' a' .nil) = le1 n a n' a' := by simp [leY, le1]

theorem over_one (R : List Int) (n : Int) (a : Y) : overE R (.cons n a .nil) = over1 R n a := by simp [overE, over1]

theorem le1_iff {n : Int} {a : Y} {n' : Int} {a' : Y} : le1 n a n' a' = true ↔ (n' = -1 ∨ (n = n' ∧ leY a a' = true)) := by simp [le1]

theorem leY_cons_iff {n : Int} {a r : Y} {n' : Int} {a' r' : Y} : leY (.cons n a r) (.cons n' a' r') = true ↔ ((n' = -1 ∨ (n = n' ∧ leY a a' = true)) ∧ leY r r' = true) := by simp [leY]

theorem overE_cons_iff {R : List Int} {n : Int} {a r : Y} : overE R (.cons n a r) = true ↔ ((suitE R n a = true ∧ overE R a = true) ∧ overE R r = true) := by simp [overE]

theorem suit_iff {R : List Int} {n : Int} {a : Y} : suitE R n a = true ↔ ((n = -1 ∧ a.len = 0) ∨ (0 ≤ n ∧ n < R.length ∧ (a.len : Int) = R.getD n.toNat 0)) := by simp [suitE, and_assoc]

theorem suit_len {R : List Int} {n : Int} {a a' : Y} (h : suitE R n a = true) (h' : suitE R n a' = true) : a.len = a'.len := by
  rw [suit_iff] at h h'
  rcases h with ⟨e, h⟩ | ⟨e, _, h⟩ <;> rcases h' with ⟨e', h'⟩ | ⟨e', _, h'⟩ <;> omega

theorem suit_nil {R : List Int} {a : Y} (h : suitE R (-1) a = true) : a = .nil := by
  rw [suit_iff] at h
  rcases h with ⟨_, h⟩ | ⟨e, _⟩
  · cases a with
    | nil => rfl
    | cons n a r => simp [len] at h
  · omega

theorem suit_of_len {R : List Int} {n : Int} {a a' : Y} (h : suitE R n a = true) (hl : a'.len = a.len) : suitE R n a' = true := by
  rw [suit_iff] at h ⊢
  rw [hl]; exact h

theorem suit_none (R : List Int) : suitE R (-1) .nil = true := by simp [suitE, len]

theorem leY_refl (a : Y) : leY a a = true := by
  induction a with
  | nil => rfl
  | cons n a r iha ihr => rw [leY_cons_iff]; exact ⟨Or.inr ⟨rfl, iha⟩, ihr⟩

theorem leY_trans (a : Y) : ∀ b c : Y, leY a b = true → leY b c = true → leY a c = true := by
  induction a with
  | nil => intro b c h1 h2; cases b <;> cases c <;> simp_all [leY]
  | cons n a r iha ihr =>
    intro b c h1 h2
    cases b with
    | nil => simp [leY] at h1
    | cons n' a' r' =>
      cases c with
      | nil => simp [leY] at h2
      | cons n2 a2 r2 =>
        rw [leY_cons_iff] at h1 h2 ⊢
        refine ⟨?_, ihr _ _ h1.2 h2.2⟩
        rcases h2.1 with e | ⟨e, h⟩
        · exact Or.inl e
        · rcases h1.1 with e1 | ⟨e1, h1'⟩
          · exact Or.inl (by omega)
          · exact Or.inr ⟨by omega, iha _ _ h1' h⟩

theorem leY_antisymm {R : List Int} (a : Y) : ∀ b : Y, overE R a = true → overE R b = true → leY a b = true → leY b a = true → a = b := by
  induction a with
  | nil => intro b _ _ h _; cases b with
    | nil => rfl
    | cons n a r => simp [leY] at h
  | cons n a r iha ihr =>
    intro b o1 o2 h1 h2
    cases b with
    | nil => simp [leY] at h1
    | cons n' a' r' =>
      rw [leY_cons_iff] at h1 h2
      rw [overE_cons_iff] at o1 o2
      have hr := ihr _ o1.2 o2.2 h1.2 h2.2
      subst hr
      by_cases hn : n' = -1
      · have hn2 : n = -1 := by rcases h2.1 with e | ⟨e, _⟩ <;> omega
        subst hn hn2
        rw [suit_nil o1.1.1, suit_nil o2.1.1]
      · rcases h1.1 with e | ⟨e, h⟩
        · exact absurd e hn
        · subst e
          rcases h2.1 with e | ⟨_, h'⟩
          · exact absurd e hn
          · rw [iha _ o1.1.2 o2.1.2 h h']

theorem len_zero {a : Y} (h : 0 = a.len) : a = .nil := by
  cases a with
  | nil => rfl
  | cons n a r => simp [len] at h

theorem mg_le_left {R : List Int} (a : Y) : ∀ b : Y, overE R a = true → overE R b = true → a.len = b.len → leY a (mgY dMeet a b) = true := by
  induction a with
  | nil => intro b _ _ h; rw [len_zero h]; rfl
  | cons n a r iha ihr =>
    intro b o1 o2 hl
    cases b with
    | nil => simp [len] at hl
    | cons n' a' r' =>
      rw [overE_cons_iff] at o1 o2
      simp only [len] at hl
      rw [mgY_cons, leY_cons_iff]
      refine ⟨?_, ihr _ o1.2 o2.2 (by omega)⟩
      by_cases hn : n = n'
      · subst hn
        exact Or.inr ⟨by simp [mg1], by simpa [mg1] using iha _ o1.1.2 o2.1.2 (suit_len o1.1.1 o2.1.1)⟩
      · exact Or.inl (by simp [mg1, hn, dMeet])

theorem mg_le_right {R : List Int} (a : Y) : ∀ b : Y, overE R a = true → overE R b = true → a.len = b.len → leY b (mgY dMeet a b) = true := by
  induction a with
  | nil => intro b _ _ h; rw [len_zero h]; rfl
  | cons n a r iha ihr =>
    intro b o1 o2 hl
    cases b with
    | nil => simp [len] at hl
    | cons n' a' r' =>
      rw [overE_cons_iff] at o1 o2
      simp only [len] at hl
      rw [mgY_cons, leY_cons_iff]
      refine ⟨?_, ihr _ o1.2 o2.2 (by omega)⟩
      by_cases hn : n = n'
      · subst hn
        exact Or.inr ⟨by simp [mg1], by simpa [mg1] using iha _ o1.1.2 o2.1.2 (suit_len o1.1.1 o2.1.1)⟩
      · exact Or.inl (by simp [mg1, hn, dMeet])

theorem mg_great (a : Y) : ∀ b c : Y, leY a c = true → leY b c = true → leY (mgY dMeet a b) c = true := by
  induction a with
  | nil => intro b c h1 h2; cases c <;> simp_all [leY, mgY]
  | cons n a r iha ihr =>
    intro b c h1 h2
    cases c with
    | nil => simp [leY] at h1
    | cons n2 a2 r2 =>
      cases b with
      | nil => simp [leY] at h2
      | cons n' a' r' =>
        rw [leY_cons_iff] at h1 h2
        rw [mgY_cons, leY_cons_iff]
        refine ⟨?_, ihr _ _ h1.2 h2.2⟩
        rcases h1.1 with e | ⟨e, h⟩
        · exact Or.inl e
        · rcases h2.1 with e' | ⟨e', h'⟩
          · exact Or.inl e'
          · subst e; subst e'
            exact Or.inr ⟨by simp [mg1], by simpa [mg1] using iha _ _ h h'⟩

theorem mg_sz (a : Y) : ∀ b : Y, (mgY dMeet a b).sz ≤ a.sz := by
  induction a with
  | nil => intro b; simp [mgY, sz]
  | cons n a r iha ihr =>
    intro b
    cases b with
    | nil => simp [mgY, sz]
    | cons n' a' r' =>
      rw [mgY_cons]
      have h1 := ihr r'
      have h2 := iha a'
      by_cases hn : n = n'
      · simp [mg1, hn, sz]; omega
      · simp [mg1, hn, sz, dMeet]; omega

theorem mg_dep (a : Y) : ∀ b : Y, (mgY dMeet a b).dep ≤ a.dep := by
  induction a with
  | nil => intro b; simp [mgY, dep]
  | cons n a r iha ihr =>
    intro b
    cases b with
    | nil => simp [mgY, dep]
    | cons n' a' r' =>
      rw [mgY_cons]
      have h1 := ihr r'
      have h2 := iha a'
      by_cases hn : n = n'
      · simp [mg1, hn, dep]; omega
      · simp [mg1, hn, dep, dMeet]; omega

theorem mg_over {R : List Int} {D : Int → Y → Int → Y → Int × Y} (hD : ∀ n a n' a', (suitE R n a = true ∧ overE R a = true) → (suitE R n' a' = true ∧ overE R a' = true) → suitE R (D n a n' a').1 (D n a n' a').2 = true ∧ overE R (D n a n' a').2 = true) (a : Y) :
    ∀ b : Y, overE R a = true → overE R b = true → overE R (mgY D a b) = true := by
  induction a with
  | nil => intro b _ _; simp [mgY, overE]
  | cons n a r iha ihr =>
    intro b o1 o2
    cases b with
    | nil => simp [mgY, overE]
    | cons n' a' r' =>
      rw [overE_cons_iff] at o1 o2
      rw [mgY_cons, overE_cons_iff]
      refine ⟨?_, ihr _ o1.2 o2.2⟩
      by_cases hn : n = n'
      · subst hn
        have hl := suit_len o1.1.1 o2.1.1
        simp only [mg1, if_true]
        exact ⟨suit_of_len o1.1.1 (mgY_len D a a' hl), iha _ o1.1.2 o2.1.2⟩
      · simp only [mg1, if_neg hn]
        exact hD _ _ _ _ o1.1 o2.1

theorem dMeet_over {R : List Int} (n : Int) (a : Y) (n' : Int) (a' : Y) : (suitE R n a = true ∧ overE R a = true) → (suitE R n' a' = true ∧ overE R a' = true) → suitE R (dMeet n a n' a').1 (dMeet n a n' a').2 = true ∧ overE R (dMeet n a n' a').2 = true :=
  fun _ _ => ⟨suit_none R, rfl⟩

theorem dJoin_over {R : List Int} (n : Int) (a : Y) (n' : Int) (a' : Y) : (suitE R n a = true ∧ overE R a = true) → (suitE R n' a' = true ∧ overE R a' = true) → suitE R (dJoin n a n' a').1 (dJoin n a n' a').2 = true ∧ overE R (dJoin n a n' a').2 = true := by
  intro h h'
  unfold dJoin
  split
  · exact h'
  · exact h

theorem mj_le_left {R : List Int} (a : Y) : ∀ b : Y, overE R a = true → overE R b = true → a.len = b.len → mgOk okJoin a b = true → leY (mgY dJoin a b) a = true := by
  induction a with
  | nil => intro b _ _ h _; rw [len_zero h]; rfl
  | cons n a r iha ihr =>
    intro b o1 o2 hl hk
    cases b with
    | nil => simp [len] at hl
    | cons n' a' r' =>
      rw [overE_cons_iff] at o1 o2
      rw [mgOk_cons, Bool.and_eq_true] at hk
      simp only [len] at hl
      rw [mgY_cons, leY_cons_iff]
      refine ⟨?_, ihr _ o1.2 o2.2 (by omega) hk.2⟩
      by_cases hn : n = n'
      · subst hn
        have hk1 : mgOk okJoin a a' = true := by simpa [mgOk1] using hk.1
        exact Or.inr ⟨by simp [mg1], by simpa [mg1] using iha _ o1.1.2 o2.1.2 (suit_len o1.1.1 o2.1.1) hk1⟩
      · by_cases h1 : n = -1
        · exact Or.inl h1
        · have he : mg1 dJoin n a n' a' = (n, a) := by rw [mg1, if_neg hn, dJoin, if_neg h1]
          rw [he]
          exact Or.inr ⟨rfl, leY_refl a⟩

theorem mj_le_right {R : List Int} (a : Y) : ∀ b : Y, overE R a = true → overE R b = true → a.len = b.len → mgOk okJoin a b = true → leY (mgY dJoin a b) b = true := by
  induction a with
  | nil => intro b _ _ h _; rw [len_zero h]; rfl
  | cons n a r iha ihr =>
    intro b o1 o2 hl hk
    cases b with
    | nil => simp [len] at hl
    | cons n' a' r' =>
      rw [overE_cons_iff] at o1 o2
      rw [mgOk_cons, Bool.and_eq_true] at hk
      simp only [len] at hl
      rw [mgY_cons, leY_cons_iff]
      refine ⟨?_, ihr _ o1.2 o2.2 (by omega) hk.2⟩
      by_cases hn : n = n'
      · subst hn
        have hk1 : mgOk okJoin a a' = true := by simpa [mgOk1] using hk.1
        exact Or.inr ⟨by simp [mg1], by simpa [mg1] using iha _ o1.1.2 o2.1.2 (suit_len o1.1.1 o2.1.1) hk1⟩
      · have hk1 : n = -1 ∨ n' = -1 := by simpa [mgOk1, hn, okJoin] using hk.1
        by_cases h1 : n = -1
        · have he : mg1 dJoin n a n' a' = (n', a') := by rw [mg1, if_neg hn, dJoin, if_pos h1]
          rw [he]
          exact Or.inr ⟨rfl, leY_refl a'⟩
        · exact Or.inl (hk1.resolve_left h1)

theorem mj_least (a : Y) : ∀ b c : Y, leY c a = true → leY c b = true → leY c (mgY dJoin a b) = true := by
  induction a with
  | nil => intro b c h1 h2; cases c <;> simp_all [leY, mgY]
  | cons n a r iha ihr =>
    intro b c h1 h2
    cases c with
    | nil => simp [leY] at h1
    | cons n2 a2 r2 =>
      cases b with
      | nil => simp [leY] at h2
      | cons n' a' r' =>
        rw [leY_cons_iff] at h1 h2
        rw [mgY_cons, leY_cons_iff]
        refine ⟨?_, ihr _ _ h1.2 h2.2⟩
        by_cases hn : n = n'
        · subst hn
          simp only [mg1, if_true]
          rcases h1.1 with e | ⟨e, h⟩
          · exact Or.inl e
          · rcases h2.1 with e' | ⟨e', h'⟩
            · exact Or.inl e'
            · exact Or.inr ⟨e, iha _ _ h h'⟩
        · simp only [mg1, if_neg hn, dJoin]
          split
          · exact h2.1
          · exact h1.1

theorem mj_ok {R : List Int} (a : Y) : ∀ b c : Y, overE R a = true → leY c a = true → leY c b = true → mgOk okJoin a b = true := by
  induction a with
  | nil => intro b c _ _ _; simp [mgOk]
  | cons n a r iha ihr =>
    intro b c o1 h1 h2
    cases b with
    | nil => simp [mgOk]
    | cons n' a' r' =>
      cases c with
      | nil => simp [leY] at h1
      | cons n2 a2 r2 =>
        rw [leY_cons_iff] at h1 h2
        rw [overE_cons_iff] at o1
        rw [mgOk_cons, Bool.and_eq_true]
        refine ⟨?_, ihr _ _ o1.2 h1.2 h2.2⟩
        by_cases hn : n = n'
        · subst hn
          simp only [mgOk1, if_true]
          by_cases h : n = -1
          · subst h
            rw [suit_nil o1.1.1]
            simp [mgOk]
          · rcases h1.1 with e | ⟨_, g1⟩
            · exact absurd e h
            · rcases h2.1 with e | ⟨_, g2⟩
              · exact absurd e h
              · exact iha _ _ o1.1.2 g1 g2
        · simp only [mgOk1, if_neg hn, okJoin, Bool.or_eq_true, decide_eq_true_eq]
          rcases h1.1 with e | ⟨e, _⟩
          · exact Or.inl e
          · rcases h2.1 with e' | ⟨e', _⟩
            · exact Or.inr e'
            · exact absurd (e.symm.trans e') hn

theorem mj_dep (a : Y) : ∀ b : Y, (mgY dJoin a b).dep ≤ max a.dep b.dep := by
  induction a with
  | nil => intro b; simp [mgY, dep]
  | cons n a r iha ihr =>
    intro b
    cases b with
    | nil => simp [mgY, dep]
    | cons n' a' r' =>
      rw [mgY_cons]
      have h1 := ihr r'
      have h2 := iha a'
      by_cases hn : n = n'
      · simp only [mg1, if_pos hn, dep]; omega
      · simp only [mg1, if_neg hn, dJoin]
        split <;> simp only [dep] <;> omega

theorem le_sz {R : List Int} (c : Y) : ∀ j : Y, overE R j = true → leY c j = true → j.sz ≤ c.sz := by
  induction c with
  | nil => intro j _ h; cases j with
    | nil => exact Nat.le_refl _
    | cons n a r => simp [leY] at h
  | cons n a r iha ihr =>
    intro j o h
    cases j with
    | nil => simp [sz]
    | cons n' a' r' =>
      rw [leY_cons_iff] at h
      rw [overE_cons_iff] at o
      have hr := ihr _ o.2 h.2
      simp only [sz]
      rcases h.1 with e | ⟨_, g⟩
      · subst e
        rw [suit_nil o.1.1]
        simp only [sz]; omega
      · have := iha _ o.1.2 g
        omega

theorem top_le (t : Y) : ∀ d, leY t (topY d t) = true := by
  induction t with
  | nil => intro d; rfl
  | cons n a r iha ihr =>
    intro d
    simp only [topY]
    rw [leY_cons_iff]
    refine ⟨?_, ihr d⟩
    by_cases h : d = 0
    · exact Or.inl (by simp [h])
    · exact Or.inr ⟨by simp [h], by simpa [h] using iha (d - 1)⟩

theorem top_top (t : Y) : ∀ d e, topY e (topY d t) = topY (min d e) t := by
  induction t with
  | nil => intro d e; rfl
  | cons n a r iha ihr =>
    intro d e
    simp only [topY, ihr]
    by_cases hd : d = 0
    · subst hd; simp [topY]
    · by_cases he : e = 0
      · subst he; simp [topY]
      · have hm : ¬ min d e = 0 := by omega
        have hm2 : min (d - 1) (e - 1) = min d e - 1 := by omega
        simp only [if_neg hd, if_neg he, if_neg hm, iha, hm2]

theorem top_dep (t : Y) : ∀ d, (topY d t).dep ≤ d + 1 := by
  induction t with
  | nil => intro d; simp [topY, dep]
  | cons n a r iha ihr =>
    intro d
    have h1 := ihr d
    have h2 := iha (d - 1)
    simp only [topY, dep]
    by_cases h : d = 0
    · subst h; simp only [if_true, dep]; omega
    · simp only [if_neg h]; omega

theorem top_dep_le (t : Y) : ∀ d, (topY d t).dep ≤ t.dep := by
  induction t with
  | nil => intro d; simp [topY, dep]
  | cons n a r iha ihr =>
    intro d
    have h1 := ihr d
    have h2 := iha (d - 1)
    simp only [topY, dep]
    by_cases h : d = 0
    · subst h; simp only [if_true, dep]; omega
    · simp only [if_neg h]; omega

theorem top_sz (t : Y) : ∀ d, (topY d t).sz ≤ t.sz := by
  induction t with
  | nil => intro d; simp [topY, sz]
  | cons n a r iha ihr =>
    intro d
    have h1 := ihr d
    have h2 := iha (d - 1)
    simp only [topY, sz]
    by_cases h : d = 0
    · subst h; simp only [if_true, sz]; omega
    · simp only [if_neg h]; omega

theorem top_len (t : Y) (d : Nat) : (topY d t).len = t.len := by
  induction t with
  | nil => rfl
  | cons n a r iha ihr => simp [topY, len, ihr]

theorem top_over {R : List Int} (t : Y) : ∀ d, overE R t = true → overE R (topY d t) = true := by
  induction t with
  | nil => intro d h; exact h
  | cons n a r iha ihr =>
    intro d o
    rw [overE_cons_iff] at o
    simp only [topY]
    rw [overE_cons_iff]
    refine ⟨?_, ihr d o.2⟩
    by_cases h : d = 0
    · simp only [if_pos h]; exact ⟨suit_none R, rfl⟩
    · simp only [if_neg h]; exact ⟨suit_of_len o.1.1 (top_len a _), iha _ o.1.2⟩

/-! the same of trees -/

theorem top_one (d : Nat) (n : Int) (a : Y) : topY d (.cons n a .nil) = .cons (cut1n d n) (cut1a d a) .nil := rfl

theorem mg_one (D : Int → Y → Int → Y → Int × Y) (n : Int) (a : Y) (n' : Int) (a' : Y) : mgY D (.cons n a .nil) (.cons n' a' .nil) = .cons (mg1 D n a n' a').1 (mg1 D n a n' a').2 .nil := by rw [mgY_cons]; rfl

theorem mgOk_one (d : Int → Int → Bool) (n : Int) (a : Y) (n' : Int) (a' : Y) : mgOk d (.cons n a .nil) (.cons n' a' .nil) = mgOk1 d n a n' a' := by rw [mgOk_cons]; simp [mgOk]

theorem sz_one (n : Int) (a : Y) : (Y.cons n a .nil).sz = 1 + a.sz := rfl
theorem dep_one (n : Int) (a : Y) : (Y.cons n a .nil).dep = 1 + a.dep := by simp [dep]

theorem treeOk_mk {R : List Int} {n : Int} {a : Y} (h1 : a.sz < 20000) (h2 : a.dep < 200) (h3 : overE R (.cons n a .nil) = true) : treeOk R n a = true := by
  rw [over_one] at h3
  simp [treeOk, h1, h2, h3]

theorem treeOk_split {R : List Int} {n : Int} {a : Y} (h : treeOk R n a = true) : a.sz < 20000 ∧ a.dep < 200 ∧ overE R (.cons n a .nil) = true := by
  rw [over_one]
  simp only [treeOk, Bool.and_eq_true, decide_eq_true_eq] at h
  exact ⟨h.1.1, h.1.2, h.2⟩

theorem le1_refl (n : Int) (a : Y) : le1 n a n a = true := by rw [← le_one]; exact leY_refl _

theorem le1_trans {n : Int} {a : Y} {n' : Int} {a' : Y} {n2 : Int} {a2 : Y} (h1 : le1 n a n' a' = true) (h2 : le1 n' a' n2 a2 = true) : le1 n a n2 a2 = true := by
  rw [← le_one] at *
  exact leY_trans _ _ _ h1 h2

theorem le1_antisymm {R : List Int} {n : Int} {a : Y} {n' : Int} {a' : Y} (o1 : treeOk R n a = true) (o2 : treeOk R n' a' = true) (h1 : le1 n a n' a' = true) (h2 : le1 n' a' n a = true) : n = n' ∧ a = a' := by
  rw [← le_one] at *
  have h := leY_antisymm _ _ (treeOk_split o1).2.2 (treeOk_split o2).2.2 h1 h2
  simpa using h

theorem meet_ok {R : List Int} {n : Int} {a : Y} {n' : Int} {a' : Y} (o1 : treeOk R n a = true) (o2 : treeOk R n' a' = true) : treeOk R (mg1 dMeet n a n' a').1 (mg1 dMeet n a n' a').2 = true := by
  obtain ⟨s1, d1, v1⟩ := treeOk_split o1
  obtain ⟨s2, d2, v2⟩ := treeOk_split o2
  have h1 := mg_sz (.cons n a .nil) (.cons n' a' .nil)
  have h2 := mg_dep (.cons n a .nil) (.cons n' a' .nil)
  have h3 := mg_over dMeet_over _ _ v1 v2
  rw [mg_one] at h1 h2 h3
  rw [sz_one, sz_one] at h1
  rw [dep_one, dep_one] at h2
  exact treeOk_mk (by omega) (by omega) h3

theorem meet_left {R : List Int} {n : Int} {a : Y} {n' : Int} {a' : Y} (o1 : treeOk R n a = true) (o2 : treeOk R n' a' = true) : le1 n a (mg1 dMeet n a n' a').1 (mg1 dMeet n a n' a').2 = true := by
  rw [← le_one, ← mg_one]
  exact mg_le_left _ _ (treeOk_split o1).2.2 (treeOk_split o2).2.2 rfl

theorem meet_right {R : List Int} {n : Int} {a : Y} {n' : Int} {a' : Y} (o1 : treeOk R n a = true) (o2 : treeOk R n' a' = true) : le1 n' a' (mg1 dMeet n a n' a').1 (mg1 dMeet n a n' a').2 = true := by
  rw [← le_one, ← mg_one]
  exact mg_le_right _ _ (treeOk_split o1).2.2 (treeOk_split o2).2.2 rfl

theorem meet_great {n : Int} {a : Y} {n' : Int} {a' : Y} {n2 : Int} {a2 : Y} (h1 : le1 n a n2 a2 = true) (h2 : le1 n' a' n2 a2 = true) : le1 (mg1 dMeet n a n' a').1 (mg1 dMeet n a n' a').2 n2 a2 = true := by
  rw [← le_one] at *
  rw [← mg_one]
  exact mg_great _ _ _ h1 h2

theorem join_over {R : List Int} {n : Int} {a : Y} {n' : Int} {a' : Y} (o1 : treeOk R n a = true) (o2 : treeOk R n' a' = true) : overE R (.cons (mg1 dJoin n a n' a').1 (mg1 dJoin n a n' a').2 .nil) = true := by
  rw [← mg_one]
  exact mg_over dJoin_over _ _ (treeOk_split o1).2.2 (treeOk_split o2).2.2

theorem join_dep {R : List Int} {n : Int} {a : Y} {n' : Int} {a' : Y} (o1 : treeOk R n a = true) (o2 : treeOk R n' a' = true) : (mg1 dJoin n a n' a').2.dep < 200 := by
  obtain ⟨s1, d1, v1⟩ := treeOk_split o1
  obtain ⟨s2, d2, v2⟩ := treeOk_split o2
  have h2 := mj_dep (.cons n a .nil) (.cons n' a' .nil)
  rw [mg_one, dep_one, dep_one, dep_one] at h2
  omega

theorem join_ok {R : List Int} {n : Int} {a : Y} {n' : Int} {a' : Y} (o1 : treeOk R n a = true) (o2 : treeOk R n' a' = true) (hs : (mg1 dJoin n a n' a').2.sz < 20000) : treeOk R (mg1 dJoin n a n' a').1 (mg1 dJoin n a n' a').2 = true :=
  treeOk_mk hs (join_dep o1 o2) (join_over o1 o2)

theorem join_left {R : List Int} {n : Int} {a : Y} {n' : Int} {a' : Y} (o1 : treeOk R n a = true) (o2 : treeOk R n' a' = true) (hk : mgOk1 okJoin n a n' a' = true) : le1 (mg1 dJoin n a n' a').1 (mg1 dJoin n a n' a').2 n a = true := by
  rw [← le_one, ← mg_one]
  exact mj_le_left _ _ (treeOk_split o1).2.2 (treeOk_split o2).2.2 rfl (by rw [mgOk_one]; exact hk)

theorem join_right {R : List Int} {n : Int} {a : Y} {n' : Int} {a' : Y} (o1 : treeOk R n a = true) (o2 : treeOk R n' a' = true) (hk : mgOk1 okJoin n a n' a' = true) : le1 (mg1 dJoin n a n' a').1 (mg1 dJoin n a n' a').2 n' a' = true := by
  rw [← le_one, ← mg_one]
  exact mj_le_right _ _ (treeOk_split o1).2.2 (treeOk_split o2).2.2 rfl (by rw [mgOk_one]; exact hk)

theorem join_least {n : Int} {a : Y} {n' : Int} {a' : Y} {n2 : Int} {a2 : Y} (h1 : le1 n2 a2 n a = true) (h2 : le1 n2 a2 n' a' = true) : le1 n2 a2 (mg1 dJoin n a n' a').1 (mg1 dJoin n a n' a').2 = true := by
  rw [← le_one] at *
  rw [← mg_one]
  exact mj_least _ _ _ h1 h2

theorem join_none {R : List Int} {n : Int} {a : Y} {n' : Int} {a' : Y} {n2 : Int} {a2 : Y} (o1 : treeOk R n a = true) (h1 : le1 n2 a2 n a = true) (h2 : le1 n2 a2 n' a' = true) : mgOk1 okJoin n a n' a' = true := by
  rw [← le_one] at *
  rw [← mgOk_one]
  exact mj_ok _ _ _ (treeOk_split o1).2.2 h1 h2

theorem join_small {R : List Int} {n : Int} {a : Y} {n' : Int} {a' : Y} {n2 : Int} {a2 : Y} (o1 : treeOk R n a = true) (o2 : treeOk R n' a' = true) (o3 : treeOk R n2 a2 = true) (h1 : le1 n2 a2 n a = true) (h2 : le1 n2 a2 n' a' = true) : (mg1 dJoin n a n' a').2.sz < 20000 := by
  have h := join_least h1 h2
  rw [← le_one] at h
  have h3 := le_sz _ _ (join_over o1 o2) h
  rw [sz_one, sz_one] at h3
  have := (treeOk_split o3).1
  omega

theorem cut_ok {R : List Int} {n : Int} {a : Y} (d : Nat) (o : treeOk R n a = true) : treeOk R (cut1n d n) (cut1a d a) = true := by
  obtain ⟨s1, d1, v1⟩ := treeOk_split o
  have h1 := top_sz (.cons n a .nil) d
  have h2 := top_dep_le (.cons n a .nil) d
  have h3 := top_over (.cons n a .nil) d v1
  rw [top_one] at h1 h2 h3
  rw [sz_one, sz_one] at h1
  rw [dep_one, dep_one] at h2
  exact treeOk_mk (by omega) (by omega) h3

theorem cut_le (n : Int) (a : Y) (d : Nat) : le1 n a (cut1n d n) (cut1a d a) = true := by
  rw [← le_one, ← top_one]
  exact top_le _ _

theorem cut_cut (n : Int) (a : Y) (d e : Nat) : cut1n e (cut1n d n) = cut1n (min d e) n ∧ cut1a e (cut1a d a) = cut1a (min d e) a := by
  have h := top_top (.cons n a .nil) d e
  rw [top_one, top_one, top_one] at h
  simpa using h

theorem cut_dep (a : Y) (n : Int) (d : Nat) : (cut1a d a).dep ≤ d := by
  have h := top_dep (.cons n a .nil) d
  rw [top_one, dep_one] at h
  omega

end Go.Proofs.Yteolfpdkpihnlaa

