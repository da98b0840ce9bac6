/-
  Whatever symbols and string are handed in, the statement on Get answers true and leaves these as it was. Conditions: none but the row's own (memory that leads back into itself is shut out).
-/
import Derived.Test.YteolfpdkpihnlaaMg26
import Derived.Test.YteolfpdkpihnlaaMg27
import Derived.Test.YteolfpdkpihnlaaMg14
import Derived.Test.YteolfpdkpihnlaaMg16
import Derived.Test.YteolfpdkpihnlaaMg22
import Derived.Deep.CutBlock
import Derived.Deep.AppendLies
import Derived.BigQuiet
import Derived.Test.YteolfpdkpihnlaaMg28
import Derived.Deep.RegionHeld3
import Derived.Test.YteolfpdkpihnlaaMg23

/-
  A tree is read back from its string: without memory. Conditions: the symbols are good, the tree is over them.
-/
set_option linter.unusedSimpArgs false
set_option linter.unusedVariables false
namespace Go.Proofs.Yteolfpdkpihnlaa
open Y

theorem nm_split {x : ByteArray} (h : nm x = true) : ∃ c r, x.data.toList = c :: r ∧ c ≠ 95 ∧ ∀ y ∈ x.data.toList, inN y = true := by
  obtain ⟨⟨l⟩⟩ := x
  cases l with
  | nil =>
    simp only [nm, Bool.and_eq_true, decide_eq_true_eq] at h
    exact absurd h.1.1.1 (Nat.lt_irrefl 0)
  | cons c r =>
    simp only [nm, Bool.and_eq_true, decide_eq_true_eq, oks, List.all_eq_true, List.drop_zero] at h
    refine ⟨c, r, rfl, ?_, fun y hy => h.2 y hy⟩
    rintro rfl
    have h1 := h.1.2
    simp [isL, byt] at h1

theorem symFrom_at2 {S : Sy} : ∀ {n i : Nat}, symFrom S n i = true → ∀ j, i ≤ j → j < i + n → symOk S j = true := by
  intro n
  induction n with
  | zero => intro i _ j h1 h2; omega
  | succ n ih =>
    intro i h j h1 h2
    simp only [symFrom, Bool.and_eq_true] at h
    by_cases e : j = i
    · subst e; exact h.1
    · exact ih h.2 j (by omega) (by omega)

theorem syms_distinct {S : Sy} (h : symsOk S = true) {i j : Nat} (hij : i < j) (hj : j < S.len) : S.nm i ≠ S.nm j := by
  simp only [symsOk, Bool.and_eq_true] at h
  have h1 := symFrom_at2 h.2 j (Nat.zero_le _) (by omega)
  simp only [symOk, Bool.and_eq_true, Bool.not_eq_true', dup, List.any_eq_false] at h1
  have h2 := h1.1.1.2 i (List.mem_range.2 hij)
  simpa using h2

theorem idxS_self {S : Sy} (h : symsOk S = true) {m : Nat} : ∀ {i : Nat}, m < i → i ≤ S.len → idxS S (S.nm m) i = some m := by
  intro i
  induction i with
  | zero => intro h1 _; omega
  | succ i ih =>
    intro h1 h2
    unfold idxS
    by_cases e : m = i
    · subst e; simp
    · rw [if_neg (fun he => syms_distinct h (show m < i by omega) (by omega) he.symm)]
      exact ih (by omega) (by omega)

/-- what may stand behind a name -/
def stopB : List UInt8 → Bool
  | [] => true
  | c :: _ => !inN c

theorem takeName {l r : List UInt8} (hl : ∀ y ∈ l, inN y = true) (hr : stopB r = true) : (l ++ r).takeWhile inN = l ∧ (l ++ r).dropWhile inN = r := by
  induction l with
  | nil =>
    cases r with
    | nil => exact ⟨rfl, rfl⟩
    | cons c r =>
      have hc : inN c = false := by simpa [stopB] using hr
      simp [List.takeWhile, List.dropWhile, hc]
  | cons c l ih =>
    have hc : inN c = true := hl c (by simp)
    obtain ⟨h1, h2⟩ := ih (fun y hy => hl y (by simp [hy]))
    simp [List.takeWhile, List.dropWhile, hc, h1, h2]

theorem rdName_of {x : ByteArray} (h : nm x = true) {r : List UInt8} (hr : stopB r = true) : rdName (x.data.toList ++ r) = some (x, r) := by
  obtain ⟨c, r', _, _, hall⟩ := nm_split h
  obtain ⟨h1, h2⟩ := takeName hall hr
  unfold rdName
  rw [h1, h2]
  have e : (⟨x.data.toList.toArray⟩ : ByteArray) = x := by
    apply ByteArray.ext
    simp
  rw [e, if_pos h]

theorem stop_of {c : UInt8} (h : inN c = false) (r : List UInt8) : stopB (c :: r) = true := by simp [stopB, h]

theorem stop_44 (r : List UInt8) : stopB (44 :: r) = true := stop_of (by decide) r
theorem stop_40 (r : List UInt8) : stopB (40 :: r) = true := stop_of (by decide) r
theorem stop_41 (r : List UInt8) : stopB (41 :: r) = true := stop_of (by decide) r

theorem txL_stop (S : Sy) (a : Y) (r : List UInt8) (hr : stopB r = true) : stopB (txL S 44 a ++ r) = true := by
  cases a with
  | nil => exact hr
  | cons n a s =>
    rw [txL_cons]
    exact stop_44 _

theorem pre_one (c : UInt8) (r : List UInt8) : pre [c] (c :: r) = true := by simp [pre, List.isPrefixOf]

theorem pre_not {c d : UInt8} (h : c ≠ d) (r : List UInt8) : pre [d] (c :: r) = false := by
  simp only [pre, List.isPrefixOf, Bool.and_true, beq_eq_false_iff_ne]
  exact fun e => h e.symm

theorem rdKids_tx (S : Sy) (g : List UInt8 → Option (Int × Y × List UInt8)) (a : Y) : ∀ (mb : UInt8) (r : List UInt8), stopB r = true →
    (∀ i, i < a.len → ∀ r', stopB r' = true → g (tx1 S (a.gn i) (a.ga i) ++ r') = some (a.gn i, a.ga i, r')) → rdKids g a.len mb (txL S mb a ++ r) = some (a, r) := by
  induction a with
  | nil => intro mb r _ _; rfl
  | cons n a s iha ihs =>
    intro mb r hr hg
    rw [txL_cons]
    simp only [len, rdKids, List.cons_append, List.append_assoc]
    rw [if_pos (pre_one _ _)]
    simp only [List.drop_succ_cons, List.drop_zero]
    have h0 := hg 0 (by simp [len]) (txL S 44 s ++ r) (txL_stop S s r hr)
    simp only [gn, ga] at h0
    rw [h0]
    have h1 := ihs 44 r hr (fun i hi r' hr' => hg (i + 1) (by simp [len]; omega) r' hr')
    simp only [Option.bind_some, h1, Option.map_some]

theorem rdE_tx {S : Sy} (hS : symsOk S = true) : ∀ (f : Nat) (n : Int) (a : Y) (r : List UInt8), over1 (ranksE S) n a = true → a.dep < f → stopB r = true → rdE S f (tx1 S n a ++ r) = some (n, a, r) := by
  obtain ⟨_, hrk, hnm⟩ := symsOk_facts hS
  intro f
  induction f with
  | zero => intro n a r _ h; omega
  | succ f ih =>
    intro n a r ho hd hr
    simp only [over1, Bool.and_eq_true] at ho
    by_cases hn : n = -1
    · subst hn
      rw [suit_nil ho.1]
      simp only [tx1, if_true, List.cons_append, List.nil_append, rdE]
      rw [if_pos (pre_one _ _)]
      rfl
    · have hs := suit_iff.1 ho.1
      rcases hs with ⟨e, _⟩ | ⟨h0, h1, h2⟩
      · exact absurd e hn
      obtain ⟨m, rfl⟩ : ∃ m : Nat, n = (m : Int) := ⟨n.toNat, by omega⟩
      rw [Int.toNat_natCast] at h2
      have hm : m < S.len := by have := h1; rw [ranksE_len] at this; omega
      have hrkm : S.rk m = (a.len : Int) := by
        rw [h2, List.getD_eq_getElem?_getD, ranksE, List.getElem?_map, List.getElem?_range hm]; rfl
      obtain ⟨c, r', hc, hc95, _⟩ := nm_split (hnm m hm)
      have hkids : ∀ i, i < a.len → ∀ r'', stopB r'' = true → rdE S f (tx1 S (a.gn i) (a.ga i) ++ r'') = some (a.gn i, a.ga i, r'') := by
        intro i hi r'' hr''
        have := dep_ga a i hi
        exact ih _ _ _ (overE_at ho.2 hi) (by omega) hr''
      have ht : tx1 S (m : Int) a ++ r = (S.nm m).data.toList ++ ((if a.len = 0 then [] else txL S 40 a ++ [41]) ++ r) := by
        simp only [tx1, if_neg hn, Int.toNat_natCast, List.append_assoc]
      rw [ht]
      have hp : pre [95] ((S.nm m).data.toList ++ ((if a.len = 0 then [] else txL S 40 a ++ [41]) ++ r)) = false := by
        rw [hc]; exact pre_not hc95 _
      simp only [rdE]
      rw [hp]
      simp only [Bool.false_eq_true, if_false]
      by_cases hl : a.len = 0
      · have ha : a = .nil := by cases a with
          | nil => rfl
          | cons n a r => simp [len] at hl
        subst ha
        rw [if_pos hl, List.nil_append, rdName_of (hnm m hm) hr, Option.bind_some, idxS_self hS hm (Nat.le_refl _), Option.bind_some, hrkm]
        rfl
      · rw [if_neg hl, List.append_assoc]
        have hst : stopB (txL S 40 a ++ ([41] ++ r)) = true := by
          cases a with
          | nil => exact absurd rfl hl
          | cons n2 a2 s2 => rw [txL_cons]; exact stop_40 _
        rw [rdName_of (hnm m hm) hst, Option.bind_some, idxS_self hS hm (Nat.le_refl _), Option.bind_some, hrkm, Int.toNat_natCast,
          rdKids_tx S (rdE S f) a 40 ([41] ++ r) (stop_41 r) hkids, Option.bind_some]
        show (if a.len = 0 then _ else if pre [41] (41 :: r) = true then some ((m : Int), a, (41 :: r).drop 1) else none) = _
        rw [if_neg hl, if_pos (pre_one _ _)]
        rfl

theorem txL_dep {S : Sy} {R : List Int} (t : Y) : ∀ m, overE R t = true → t.dep ≤ (txL S m t).length := by
  induction t with
  | nil => intro m _; simp [dep]
  | cons n a r iha ihr =>
    intro m o
    rw [overE_cons_iff] at o
    rw [txL_cons]
    have h1 := ihr 44 o.2
    have h2 : a.dep ≤ (tx1 S n a).length := by
      by_cases hn : n = -1
      · subst hn; rw [suit_nil o.1.1]; simp [dep]
      · by_cases hl : a.len = 0
        · have ha : a = .nil := by cases a with
            | nil => rfl
            | cons n a r => simp [len] at hl
          subst ha; simp [dep]
        · have := iha 40 o.1.2
          simp only [tx1, if_neg hn, if_neg hl, List.length_append, List.length_singleton]
          omega
    simp only [dep, List.length_cons, List.length_append]
    omega

theorem getE_tx {S : Sy} (hS : symsOk S = true) {n : Int} {a : Y} (ht : treeOk (ranksE S) n a = true) (hl : ¬ 65536 < (tx1 S n a).length) : getE S (tx1 S n a) = (0, n, a) := by
  obtain ⟨s1, d1, o1⟩ := treeOk_split ht
  have ho : over1 (ranksE S) n a = true := by rw [← over_one]; exact o1
  have hd := txL_dep (S := S) (.cons n a .nil) 40 o1
  rw [dep_one, txL_cons] at hd
  have hd2 : (txL S 44 .nil).length = 0 := rfl
  simp only [List.length_cons, List.length_append, hd2] at hd
  have h := rdE_tx hS ((tx1 S n a).length + 1) n a [] ho (by omega) rfl
  rw [List.append_nil] at h
  unfold getE
  rw [if_pos hS, if_neg hl, h]
  simp only [ht, if_true]

end Go.Proofs.Yteolfpdkpihnlaa

/-
  How the reference reads a tree, without memory: where it reads the whole text, it reads what Get reads. Conditions: the symbols are good.
-/
set_option linter.unusedSimpArgs false
set_option linter.unusedVariables false
namespace Go.Proofs.Yteolfpdkpihnlaa
open Y

/-- a byte that ends no token -/
def inT (c : UInt8) : Bool := c != 40 && c != 41 && c != 44

/-- a tree as the reference reads it, and what is left -/
def pE (S : Sy) : Nat → List UInt8 → Option (Int × Y × List UInt8)
  | 0, _ => none
  | f + 1, s => if s.takeWhile inT = [95] then some (-1, .nil, s.dropWhile inT) else
    (idxS S ⟨(s.takeWhile inT).toArray⟩ S.len).bind fun i => (rdKids (pE S f) (S.rk i).toNat 40 (s.dropWhile inT)).bind fun y => rdShut i y

/-- what may stand behind a token -/
def stopT : List UInt8 → Bool
  | [] => true
  | c :: _ => !inT c

theorem inT_of_inN {c : UInt8} (h : inN c = true) : inT c = true := by
  have h1 : c ≠ 40 := by rintro rfl; exact absurd h (by decide)
  have h2 : c ≠ 41 := by rintro rfl; exact absurd h (by decide)
  have h3 : c ≠ 44 := by rintro rfl; exact absurd h (by decide)
  simp [inT, h1, h2, h3]

theorem stopB_of_stopT {r : List UInt8} (h : stopT r = true) : stopB r = true := by
  cases r with
  | nil => rfl
  | cons c r =>
    simp only [stopT, stopB, Bool.not_eq_true'] at *
    cases hc : inN c with
    | false => rfl
    | true => rw [inT_of_inN hc] at h; cases h

theorem takeTok {l r : List UInt8} (hl : ∀ y ∈ l, inT y = true) (hr : stopT r = true) : (l ++ r).takeWhile inT = l ∧ (l ++ r).dropWhile inT = r := by
  induction l with
  | nil =>
    cases r with
    | nil => exact ⟨rfl, rfl⟩
    | cons c r =>
      have hc : inT c = false := by simpa [stopT] using hr
      simp [List.takeWhile, List.dropWhile, hc]
  | cons c l ih =>
    have hc : inT c = true := hl c (by simp)
    obtain ⟨h1, h2⟩ := ih (fun y hy => hl y (by simp [hy]))
    simp [List.takeWhile, List.dropWhile, hc, h1, h2]

theorem stop_drop (s : List UInt8) : stopT (s.dropWhile inT) = true := by
  induction s with
  | nil => rfl
  | cons c s ih =>
    cases hc : inT c with
    | true => simpa [List.dropWhile, hc] using ih
    | false => simp [List.dropWhile, hc, stopT]

theorem rdKids_mono {g h : List UInt8 → Option (Int × Y × List UInt8)} (hgh : ∀ s n a r, g s = some (n, a, r) → h s = some (n, a, r)) : ∀ (k : Nat) (mb : UInt8) (r r' : List UInt8) (y : Y), rdKids g k mb r = some (y, r') → rdKids h k mb r = some (y, r') := by
  intro k
  induction k with
  | zero => intro mb r r' y e; exact e
  | succ k ih =>
    intro mb r r' y e
    unfold rdKids at e ⊢
    split at e
    · rename_i hp
      rw [if_pos hp]
      rw [Option.bind_eq_some_iff] at e
      obtain ⟨⟨n, a, r1⟩, h1, h2⟩ := e
      rw [Option.map_eq_some_iff] at h2
      obtain ⟨⟨z, r2⟩, h3, h4⟩ := h2
      rw [hgh _ _ _ _ h1, Option.bind_some]
      rw [ih _ _ _ _ h3]
      exact congrArg some h4
    · cases e

theorem pre_stop {c : UInt8} (hc : inT c = false) {r : List UInt8} (h : pre [c] r = true) : stopT r = true := by
  cases r with
  | nil => rfl
  | cons d r =>
    simp only [pre, List.isPrefixOf, Bool.and_true, beq_iff_eq] at h
    subst h
    simp [stopT, hc]

theorem rdKids_stop {g h : List UInt8 → Option (Int × Y × List UInt8)} (hgh : ∀ s n a r, g s = some (n, a, r) → stopT r = true → h s = some (n, a, r)) : ∀ (k : Nat) (mb : UInt8) (r r' : List UInt8) (y : Y), rdKids g k mb r = some (y, r') → (0 < k → stopT r' = true) → rdKids h k mb r = some (y, r') := by
  intro k
  induction k with
  | zero => intro mb r r' y e _; exact e
  | succ k ih =>
    intro mb r r' y e hst
    unfold rdKids at e ⊢
    split at e
    · rename_i hp
      rw [if_pos hp]
      rw [Option.bind_eq_some_iff] at e
      obtain ⟨⟨n, a, r1⟩, h1, h2⟩ := e
      rw [Option.map_eq_some_iff] at h2
      obtain ⟨⟨z, r2⟩, h3, h4⟩ := h2
      simp only [Prod.mk.injEq] at h4
      obtain ⟨rfl, rfl⟩ := h4
      have hs : stopT r1 = true := by
        cases k with
        | zero =>
          simp only [rdKids, Option.some.injEq, Prod.mk.injEq] at h3
          obtain ⟨_, rfl⟩ := h3
          exact hst (Nat.succ_pos _)
        | succ k =>
          unfold rdKids at h3
          split at h3
          · rename_i hq
            exact pre_stop (by decide) hq
          · cases h3
      rw [hgh _ _ _ _ h1 hs, Option.bind_some]
      rw [ih _ _ _ _ h3 (fun _ => hst (Nat.succ_pos _))]
      rfl
    · cases e

theorem idxS_nm {S : Sy} {x : ByteArray} : ∀ {i j : Nat}, idxS S x i = some j → j < i ∧ S.nm j = x := by
  intro i
  induction i with
  | zero => intro j h; cases h
  | succ i ih =>
    intro j h
    unfold idxS at h
    split at h
    · rename_i e
      injection h with h
      subst h
      exact ⟨Nat.lt_succ_self _, e⟩
    · obtain ⟨h1, h2⟩ := ih h
      exact ⟨by omega, h2⟩

theorem tok_name {x : ByteArray} (h : nm x = true) : x.data.toList ≠ [95] ∧ ∀ y ∈ x.data.toList, inT y = true := by
  obtain ⟨c, r, e, hc, hall⟩ := nm_split h
  refine ⟨fun e2 => ?_, fun y hy => inT_of_inN (hall y hy)⟩
  rw [e] at e2
  injection e2 with e2 _
  exact hc e2

theorem pE_rdE {S : Sy} (hS : symsOk S = true) : ∀ (f : Nat) (s : List UInt8) (n : Int) (a : Y) (r : List UInt8), pE S f s = some (n, a, r) → rdE S f s = some (n, a, r) := by
  obtain ⟨_, hrk, hnm⟩ := symsOk_facts hS
  intro f
  induction f with
  | zero => intro s n a r h; cases h
  | succ f ih =>
    intro s n a r h
    have hsp : s.takeWhile inT ++ s.dropWhile inT = s := List.takeWhile_append_dropWhile
    have hst := stop_drop s
    unfold pE at h
    unfold rdE
    split at h
    · rename_i ht
      rw [ht] at hsp
      rw [if_pos (by rw [← hsp]; exact pre_one _ _)]
      have hd : s.drop 1 = s.dropWhile inT := by
        generalize s.dropWhile inT = d at *
        rw [← hsp]
        rfl
      rw [hd]
      exact h
    · rename_i ht
      rw [Option.bind_eq_some_iff] at h
      obtain ⟨i, h1, h2⟩ := h
      rw [Option.bind_eq_some_iff] at h2
      obtain ⟨⟨y, r1⟩, h3, h4⟩ := h2
      obtain ⟨hi, hx⟩ := idxS_nm h1
      have hn := hnm i hi
      rw [hx] at hn
      obtain ⟨c, r', e, hc, hall⟩ := nm_split hn
      have e' : s.takeWhile inT = c :: r' := e
      have hp : ¬ pre [95] s = true := by
        rw [← hsp, e', List.cons_append, pre_not hc]
        simp
      have hrd : rdName s = some (⟨(s.takeWhile inT).toArray⟩, s.dropWhile inT) := by
        have := rdName_of hn (stopB_of_stopT hst)
        rw [show (⟨(s.takeWhile inT).toArray⟩ : ByteArray).data.toList = s.takeWhile inT from by simp, hsp] at this
        exact this
      rw [if_neg hp, hrd, Option.bind_some, h1, Option.bind_some, rdKids_mono ih _ _ _ _ _ h3, Option.bind_some]
      exact h4

theorem rdE_pE {S : Sy} (hS : symsOk S = true) : ∀ (f : Nat) (s : List UInt8) (n : Int) (a : Y) (r : List UInt8), rdE S f s = some (n, a, r) → stopT r = true → pE S f s = some (n, a, r) := by
  obtain ⟨_, hrk, hnm⟩ := symsOk_facts hS
  intro f
  induction f with
  | zero => intro s n a r h; cases h
  | succ f ih =>
    intro s n a r h hr
    unfold rdE at h
    unfold pE
    split at h
    · rename_i hp
      simp only [Option.some.injEq, Prod.mk.injEq] at h
      obtain ⟨rfl, rfl, rfl⟩ := h
      obtain ⟨q, rfl⟩ : ∃ q, s = 95 :: q := by
        cases s with
        | nil => cases hp
        | cons d q =>
          simp only [pre, List.isPrefixOf, Bool.and_true, beq_iff_eq] at hp
          exact ⟨q, by rw [hp]⟩
      simp only [List.drop_succ_cons, List.drop_zero] at *
      obtain ⟨t1, t2⟩ := takeTok (l := [95]) (r := q) (by decide) hr
      simp only [List.cons_append, List.nil_append] at t1 t2
      rw [if_pos t1, t2]
    · rename_i hp
      rw [Option.bind_eq_some_iff] at h
      obtain ⟨⟨x, r1⟩, h1, h2⟩ := h
      rw [Option.bind_eq_some_iff] at h2
      obtain ⟨i, h3, h4⟩ := h2
      rw [Option.bind_eq_some_iff] at h4
      obtain ⟨⟨y, r2⟩, h5, h6⟩ := h4
      dsimp only at h3 h5 h6
      obtain ⟨_, hy⟩ := rdKids_le (rdE_lt S f) _ _ _ _ _ h5
      have hst1 : stopT r1 = true ∧ (0 < (S.rk i).toNat → stopT r2 = true) := by
        cases hk : (S.rk i).toNat with
        | zero =>
          rw [hk] at h5
          simp only [rdKids, Option.some.injEq, Prod.mk.injEq] at h5
          obtain ⟨rfl, rfl⟩ := h5
          simp only [rdShut, Y.len, if_true, Option.some.injEq, Prod.mk.injEq] at h6
          obtain ⟨_, _, rfl⟩ := h6
          exact ⟨hr, fun h => absurd h (Nat.lt_irrefl 0)⟩
        | succ k =>
          rw [hk] at h5
          unfold rdKids at h5
          split at h5
          · rename_i hq
            refine ⟨pre_stop (by decide) hq, fun _ => ?_⟩
            rw [hk] at hy
            unfold rdShut at h6
            rw [if_neg (by dsimp only; omega)] at h6
            split at h6
            · rename_i hq2
              exact pre_stop (by decide) hq2
            · cases h6
          · cases h5
      have hd := h1
      unfold rdName at hd
      split at hd
      · rename_i hn
        simp only [Option.some.injEq, Prod.mk.injEq] at hd
        obtain ⟨hx, rfl⟩ := hd
        rw [hx] at hn
        obtain ⟨n1, n2⟩ := tok_name hn
        have hsp : x.data.toList ++ s.dropWhile inN = s := by
          rw [← hx]
          exact List.takeWhile_append_dropWhile
        obtain ⟨t1, t2⟩ := takeTok n2 hst1.1
        rw [hsp] at t1 t2
        rw [t1, t2, if_neg n1, show (⟨x.data.toList.toArray⟩ : ByteArray) = x from by apply ByteArray.ext; simp, h3, Option.bind_some]
        rw [rdKids_stop ih _ _ _ _ _ h5 hst1.2, Option.bind_some]
        exact h6
      · cases hd

theorem pE_lt {S : Sy} (hS : symsOk S = true) (f : Nat) (s : List UInt8) (n : Int) (a : Y) (r : List UInt8) (h : pE S f s = some (n, a, r)) : r.length < s.length :=
  rdE_lt S f s n a r (pE_rdE hS f s n a r h)

/-- what Get answers, by the reference's reading -/
theorem getE_p {S : Sy} (hS : symsOk S = true) (s : List UInt8) (hl : ¬ 65536 < s.length) :
    getE S s = match pE S (s.length + 1) s with
      | some (n, a, []) => if treeOk (ranksE S) n a = true then (0, n, a) else (9, 0, .nil)
      | _ => (4, 0, .nil) := by
  unfold getE
  rw [if_pos hS, if_neg hl]
  cases hp : pE S (s.length + 1) s with
  | some z =>
    obtain ⟨n, a, r⟩ := z
    rw [pE_rdE hS _ _ _ _ _ hp]
    cases r <;> rfl
  | none =>
    cases hr : rdE S (s.length + 1) s with
    | none => rfl
    | some z =>
      obtain ⟨n, a, r⟩ := z
      cases r with
      | nil =>
        rw [rdE_pE hS _ _ _ _ _ hr rfl] at hp
        cases hp
      | cons c r => rfl

end Go.Proofs.Yteolfpdkpihnlaa

/-
  What the reference's parse holds: places in the text, and the tree that it collects. Conditions: none.
-/
set_option linter.unusedSimpArgs false
set_option linter.unusedVariables false
namespace Go.Proofs.Yteolfpdkpihnlaa
open Go.RowKit

/-- behind the token that begins at place i -/
def tokEnd (s : List UInt8) (i : Nat) : Nat := i + ((s.drop i).takeWhile inT).length

def tokAt (s : List UInt8) (i : Nat) : ByteArray := ⟨((s.drop i).takeWhile inT).toArray⟩

theorem tokEnd_in {s : List UInt8} {i : Nat} (h : i < s.length) (hc : inT (s.getD i 0) = true) : tokEnd s i = tokEnd s (i + 1) := by
  unfold tokEnd
  rw [List.drop_eq_getElem_cons h]
  have e : s.getD i 0 = s[i] := by rw [List.getD_eq_getElem?_getD, List.getElem?_eq_getElem h]; rfl
  rw [e] at hc
  rw [List.takeWhile_cons, if_pos hc]
  simp only [List.length_cons]
  omega

theorem tokEnd_out {s : List UInt8} {i : Nat} (h : i < s.length) (hc : inT (s.getD i 0) = false) : tokEnd s i = i := by
  unfold tokEnd
  rw [List.drop_eq_getElem_cons h]
  have e : s.getD i 0 = s[i] := by rw [List.getD_eq_getElem?_getD, List.getElem?_eq_getElem h]; rfl
  rw [e] at hc
  rw [List.takeWhile_cons, if_neg (by simp [hc])]
  simp

theorem tokEnd_end {s : List UInt8} {i : Nat} (h : s.length ≤ i) : tokEnd s i = i := by
  unfold tokEnd
  rw [List.drop_of_length_le h]
  simp

theorem tokEnd_le {s : List UInt8} {i : Nat} (h : i ≤ s.length) : i ≤ tokEnd s i ∧ tokEnd s i ≤ s.length := by
  unfold tokEnd
  have := (List.takeWhile_prefix (l := s.drop i) inT).length_le
  simp only [List.length_drop] at this
  omega

theorem tok_cut (s : List UInt8) (i : Nat) : ((⟨s.toArray⟩ : ByteArray).extract i (tokEnd s i)) = tokAt s i := by
  apply ByteArray.ext
  apply Array.toList_inj.1
  rw [← ByteArray.toList_eq, Lib.extract_toList]
  unfold tokEnd tokAt
  rw [show i + ((s.drop i).takeWhile inT).length - i = ((s.drop i).takeWhile inT).length by omega]
  have hp := List.prefix_iff_eq_take.1 (List.takeWhile_prefix (l := s.drop i) inT)
  exact hp.symm

theorem tok_rest (s : List UInt8) (i : Nat) : (s.drop i).dropWhile inT = s.drop (tokEnd s i) := by
  unfold tokEnd
  rw [← List.drop_drop]
  have h : (s.drop i).takeWhile inT ++ (s.drop i).dropWhile inT = s.drop i := List.takeWhile_append_dropWhile
  generalize (s.drop i).takeWhile inT = a at *
  generalize (s.drop i).dropWhile inT = b at *
  rw [← h]
  simp

theorem tok_one (l : List UInt8) : ((⟨l.toArray⟩ : ByteArray) = ⟨#[95]⟩) ↔ l = [95] := by
  constructor
  · intro h
    have := congrArg (fun x : ByteArray => x.data.toList) h
    simpa using this
  · rintro rfl; rfl

/-- a tree at a place of the text -/
theorem pE_at (S : Sy) (f : Nat) (s : List UInt8) (i : Nat) : pE S (f + 1) (s.drop i) = if tokAt s i = ⟨#[95]⟩ then some (-1, .nil, s.drop (tokEnd s i)) else
    (idxS S (tokAt s i) S.len).bind fun j => (rdKids (pE S f) (S.rk j).toNat 40 (s.drop (tokEnd s i))).bind fun y => rdShut j y := by
  rw [← tok_rest]
  unfold pE tokAt
  by_cases h : (s.drop i).takeWhile inT = [95]
  · rw [if_pos h, if_pos ((tok_one _).2 h)]
  · rw [if_neg h, if_neg (fun e => h ((tok_one _).1 e))]

theorem u8_eq (c k : UInt8) (n : Int) (hn : (k.toNat : Int) = n) : ((c.toNat : Int) == n) = (c == k) := by
  subst hn
  by_cases h : c = k
  · subst h; simp
  · have h2 : ¬ ((c.toNat : Int) = (k.toNat : Int)) := fun e => h (UInt8.toNat_inj.1 (by omega))
    rw [beq_eq_false_iff_ne.2 h2, beq_eq_false_iff_ne.2 h]

theorem inT_is (c : UInt8) : inT c = (((c.toNat : Int) != 40) && ((c.toNat : Int) != 41) && ((c.toNat : Int) != 44)) := by
  unfold bne
  rw [u8_eq c 40 40 rfl, u8_eq c 41 41 rfl, u8_eq c 44 44 rfl]
  rfl

/-- does byte c stand at place i? -/
theorem pre_at (c : UInt8) (s : List UInt8) (i : Nat) : pre [c] (s.drop i) = (decide (i < s.length) && ((s.getD i 0) == c)) := by
  by_cases h : i < s.length
  · rw [List.drop_eq_getElem_cons h]
    have e : s.getD i 0 = s[i] := by rw [List.getD_eq_getElem?_getD, List.getElem?_eq_getElem h]; rfl
    rw [e]
    simp only [pre, List.isPrefixOf, Bool.and_true, h, decide_true, Bool.true_and]
    rw [Bool.eq_iff_iff]
    simp only [beq_iff_eq]
    exact eq_comm
  · rw [List.drop_of_length_le (by omega)]
    simp [pre, List.isPrefixOf, h]

theorem mark_yes {c : UInt8} {n : Int} (hn : (c.toNat : Int) = n) {s : List UInt8} {i : Nat} (h : pre [c] (s.drop i) = true) : i < s.length ∧ (((s.getD i 0).toNat : Int) != n) = false := by
  rw [pre_at, Bool.and_eq_true, decide_eq_true_eq] at h
  unfold bne
  rw [u8_eq _ c n hn, h.2]
  exact ⟨h.1, rfl⟩

theorem mark_no {c : UInt8} {n : Int} (hn : (c.toNat : Int) = n) {s : List UInt8} {i : Nat} (h : pre [c] (s.drop i) = false) (hl : i < s.length) : (((s.getD i 0).toNat : Int) != n) = true := by
  rw [pre_at, decide_eq_true hl, Bool.true_and] at h
  unfold bne
  rw [u8_eq _ c n hn, h]
  rfl

theorem byteE_at (s : List UInt8) (i : Nat) (h : i < s.length) : ((⟨s.toArray⟩ : ByteArray)[i]'h).toNat = ((s.getD i 0).toNat : Int) := byt_get ⟨s.toArray⟩ i h

/-- the last symbol of this name among the first j -/
def symI (S : Sy) (x : ByteArray) (j : Nat) : Int := match idxS S x j with
  | some m => (m : Int)
  | none => -1

theorem symI_hit {S : Sy} {x : ByteArray} {j : Nat} (h : S.nm j = x) : symI S x (j + 1) = (j : Int) := by
  unfold symI idxS
  rw [if_pos h]

theorem symI_miss {S : Sy} {x : ByteArray} {j : Nat} (h : ¬ S.nm j = x) : symI S x (j + 1) = symI S x j := by
  unfold symI
  rw [show idxS S x (j + 1) = if S.nm j = x then some j else idxS S x j from rfl, if_neg h]

/-- what parse answers -/
def ParseP (s : List UInt8) (k : Nat) (f : Option (Int × Y × List UInt8)) (w : World) (e : Ending) (w' : World) : Prop :=
  (∀ n a r, f = some (n, a, r) → ∃ q c en, e = .returned (.tuple #[.agg #[.int .i64 n, .slice q a.len c], .int .i64 ((en : Nat) : Int), .bool true]) ∧ en ≤ s.length ∧ r = s.drop en ∧ OwnY w' a q c w.heap.size w'.heap.size) ∧
  (f = none → ∃ n q l c, e = .returned (.tuple #[.agg #[.int .i64 n, .slice q l c], .int .i64 (k : Int), .bool false])) ∧ Below w.heap.size w w'

/-- where parse's loops stand: what it has collected -/
structure Po (w wr : World) (bo : Nat) (n : Int) (acc : Y) (q : Option Addr) (c : Nat) : Prop where
  got : GotY wr 25 acc (.slice q acc.len c) (bo + 1)
  out : wr.heap[bo]? = some (.cells #[.int .i64 n, .slice q acc.len c] 25 (0, 0))
  res : wr.heap[w.heap.size]? = some (.cells #[.int .i64 0, .slice none 0 0] 25 (0, 0))
  base : Below w.heap.size w wr
  lo : w.heap.size < bo

section
variable {w wr w1 : World} {bo : Nat} {n : Int} {acc : Y} {q : Option Addr} {c : Nat}

theorem Po.lt (h : Po w wr bo n acc q c) : bo < wr.heap.size := lt_of_block h.out

theorem Po.below (h : Po w wr bo n acc q c) (hb : Below wr.heap.size wr w1) : Po w w1 bo n acc q c :=
  ⟨h.got.keep hb, (hb.block _ (lt_of_block h.out)).trans h.out, (hb.block _ (lt_of_block h.res)).trans h.res, h.base.trans (hb.mono h.base.size), h.lo⟩

theorem Po.alloc (h : Po w wr bo n acc q c) (o : Obj) : Po w (wr.alloc o) bo n acc q c := h.below ((Below.refl _ _).alloc (Nat.le_refl _) o)

theorem Po.drew (h : Po w wr bo n acc q c) : Po w wr.drew bo n acc q c := h.below (Below.refl _ _).drew

theorem Po.drewN (h : Po w wr bo n acc q c) (k : Nat) : Po w (wr.drewN k) bo n acc q c := h.below (w1 := wr.drewN k) ⟨rfl, rfl, rfl, Nat.le_refl _, fun _ _ => rfl⟩

theorem Po.cells (h : Po w wr bo n acc q c) : (wr.cell? ⟨bo, 0, none⟩ = some (.int .i64 n) ∧ wr.cell? ⟨bo, 1, none⟩ = some (.slice q acc.len c)) ∧ wr.frozen? ⟨bo, 0, none⟩ = false ∧ wr.frozen? ⟨bo, 1, none⟩ = false := tree_box h.out

theorem Po.rcells (h : Po w wr bo n acc q c) : (wr.cell? ⟨w.heap.size, 0, none⟩ = some (.int .i64 0) ∧ wr.cell? ⟨w.heap.size, 1, none⟩ = some (.slice none 0 0)) ∧ wr.frozen? ⟨w.heap.size, 0, none⟩ = false ∧ wr.frozen? ⟨w.heap.size, 1, none⟩ = false := tree_box h.res

/-- another symbol is found -/
theorem Po.sym (h : Po w wr bo n acc q c) (m : Int) : Po w (wr.setCell ⟨bo, 0, none⟩ (.int .i64 m)) bo m acc q c := by
  have hlo := h.lo
  refine ⟨h.got.set (Nat.lt_succ_self bo) _, ?_, ?_, h.base.setCell (Nat.le_of_lt hlo) _, hlo⟩
  · have := heap_setCell_same wr bo 0 #[.int .i64 n, .slice q acc.len c] 25 (.int .i64 m) h.out
    simpa using this
  · rw [Below.heap_setCell _ _ _ _ (show w.heap.size ≠ bo by omega)]
    exact h.res

/-- one more kid: w1 the world behind its reading, w3 behind the append -/
theorem Po.push {w3 : World} {k : Int} {a : Y} {q1 : Option Addr} {c1 g cp : Nat} {xs : List Value} {Yo Zo : Obj} (h : Po w wr bo n acc q c)
    (hown0 : wr.ownsRow (bo + 1) 25 2 (.slice q acc.len c) acc.len xs) (hkids : KidsY wr acc xs (Value.slice q acc.len c).ownBlock (bo + 1) wr.heap.size)
    (hb : Below wr.heap.size wr w1) (O : OwnY w1 a q1 c1 wr.heap.size w1.heap.size)
    (hown : w3.ownsRow (bo + 1) 25 2 (.slice (some ⟨g, 0, none⟩) (acc.len + 1) cp) (acc.len + 1) (xs ++ [.int .i64 k, .slice q1 a.len c1]))
    (hgrow : ((w1.alloc Zo).alloc Yo).grownBy w3 (Value.slice q acc.len c).ownBlock) (hat : (Value.slice q acc.len c).ownBlock = some g ∨ g = w1.heap.size + 2) :
    Po w (w3.setCell ⟨bo, 1, none⟩ (.slice (some ⟨g, 0, none⟩) (acc.len + 1) cp)) bo n (acc.snoc k a) (some ⟨g, 0, none⟩) cp ∧ w3.heap[bo]? = some (.cells #[.int .i64 n, .slice q acc.len c] 25 (0, 0)) := by
  have hl := h.lo
  have S2 := h.below hb
  have hlt := hown0.lt
  have hs2 := hb.size
  have hblk : ∀ j, j < w1.heap.size → (Value.slice q acc.len c).ownBlock ≠ some j → w3.heap[j]? = w1.heap[j]? := fun j hj hn => by
    rw [hgrow.block j (by simp only [World.size_alloc]; omega) (fun e => hn e.symm), Below.heap_alloc _ _ _ (by simp only [World.size_alloc]; omega), Below.heap_alloc _ _ _ hj]
  have low : ∀ j, j < bo + 1 → (Value.slice q acc.len c).ownBlock ≠ some j := fun j hj e => by have := (hlt j e).1; omega
  have o1 := lt_of_block S2.out
  have o2 := lt_of_block S2.res
  have hs3 : w1.heap.size ≤ w3.heap.size := by have := hgrow.size; simp only [World.size_alloc] at this; omega
  have hout : w3.heap[bo]? = some (.cells #[.int .i64 n, .slice q acc.len c] 25 (0, 0)) := (hblk _ o1 (low _ (by omega))).trans S2.out
  have hlen : (acc.snoc k a).len = acc.len + 1 := Y.len_snoc _ _ _
  have hal : ∀ j, j < w1.heap.size → ((w1.alloc Zo).alloc Yo).heap[j]? = w1.heap[j]? := fun j hj => by
    rw [Below.heap_alloc _ _ _ (by simp only [World.size_alloc]; omega), Below.heap_alloc _ _ _ hj]
  have got := GotY.push (wy := (w1.alloc Zo).alloc Yo) (lo := wr.heap.size) (hi := w1.heap.size) hown0 hkids (fun j hBj hj => (hal j (by omega)).trans (hb.block j hj)) (O.keep fun j _ hj => hal j hj) (Nat.le_refl _) hs2 (by simp; omega) hown hgrow (by simpa [Nat.add_assoc] using hat)
  refine ⟨⟨?_, ?_, ?_, ?_, hl⟩, hout⟩
  · rw [hlen]
    exact got.set (Nat.lt_succ_self bo) _
  · rw [hlen]
    exact fieldY_set hout
  · rw [Below.heap_setCell _ _ _ _ (show w.heap.size ≠ bo by omega), hblk _ o2 (low _ (by omega))]
    exact S2.res
  · have g1 := S2.base
    refine (((g1.alloc g1.size Zo).alloc (by have := g1.size; simp; omega) Yo).grown hgrow (by have := g1.size; simp; omega) fun j hj => ?_).setCell (p := ⟨bo, 1, none⟩) (show w.heap.size ≤ bo by omega) _
    have := (hlt j hj).1
    omega

theorem parse_yes {s : List UInt8} {k en : Nat} {f : Option (Int × Y × List UInt8)} (h : Po w wr bo n acc q c) (hf : f = some (n, acc, s.drop en)) (hen : en ≤ s.length) (u v : Value) :
    ParseP s k f w (.returned (.tuple #[.agg #[.int .i64 n, .slice q acc.len c], .int .i64 (en : Int), .bool true])) ((wr.setCell ⟨w.heap.size, 0, none⟩ u).setCell ⟨w.heap.size, 1, none⟩ v) := by
  refine ⟨fun n' a' r' h' => ?_, fun h' => (by rw [hf] at h'; cases h'), (h.base.setCell (Nat.le_refl _) _).setCell (Nat.le_refl _) _⟩
  rw [hf] at h'
  simp only [Option.some.injEq, Prod.mk.injEq] at h'
  obtain ⟨rfl, rfl, rfl⟩ := h'
  obtain ⟨q', c', he, hO⟩ := h.got.finish
  obtain ⟨rfl, rfl⟩ : q = q' ∧ c = c' := by simpa using he
  refine ⟨q, c, en, rfl, hen, rfl, ?_⟩
  have hl := h.lo
  rw [size_set2]
  exact (hO.set2 (by omega) _ _).mono (by omega) (Nat.le_refl _)

theorem parse_unk {s : List UInt8} {k en : Nat} {f : Option (Int × Y × List UInt8)} (hb : Below w.heap.size w wr) (hf : f = some (-1, .nil, s.drop en)) (hen : en ≤ s.length) (u v : Value) :
    ParseP s k f w (.returned (.tuple #[.agg #[.int .i64 (-1), .slice none 0 0], .int .i64 (en : Int), .bool true])) ((wr.setCell ⟨w.heap.size, 0, none⟩ u).setCell ⟨w.heap.size, 1, none⟩ v) := by
  refine ⟨fun n' a' r' h' => ?_, fun h' => (by rw [hf] at h'; cases h'), (hb.setCell (Nat.le_refl _) _).setCell (Nat.le_refl _) _⟩
  rw [hf] at h'
  simp only [Option.some.injEq, Prod.mk.injEq] at h'
  obtain ⟨rfl, rfl, rfl⟩ := h'
  exact ⟨none, 0, en, rfl, hen, rfl, ownY_nil _ _ _⟩

theorem parse_no {s : List UInt8} {k : Nat} {f : Option (Int × Y × List UInt8)} (h : Po w wr bo n acc q c) (hf : f = none) (u v : Value) {n' : Int} {q' : Option Addr} {l' c' : Nat} :
    ParseP s k f w (.returned (.tuple #[.agg #[.int .i64 n', .slice q' l' c'], .int .i64 (k : Int), .bool false])) ((wr.setCell ⟨w.heap.size, 0, none⟩ u).setCell ⟨w.heap.size, 1, none⟩ v) :=
  ⟨fun n' a' r' h' => (by rw [hf] at h'; cases h'), fun _ => ⟨_, _, _, _, rfl⟩, (h.base.setCell (Nat.le_refl _) _).setCell (Nat.le_refl _) _⟩

theorem parse_noA {s : List UInt8} {k : Nat} {f : Option (Int × Y × List UInt8)} (h : Po w wr bo n acc q c) (hf : f = none) (u v : Value) (o : Obj) {n' : Int} {q' : Option Addr} {l' c' : Nat} :
    ParseP s k f w (.returned (.tuple #[.agg #[.int .i64 n', .slice q' l' c'], .int .i64 (k : Int), .bool false])) (((wr.setCell ⟨w.heap.size, 0, none⟩ u).setCell ⟨w.heap.size, 1, none⟩ v).alloc o) := by
  have hb := (h.base.setCell (Nat.le_refl w.heap.size) (p := ⟨w.heap.size, 0, none⟩) u).setCell (Nat.le_refl w.heap.size) (p := ⟨w.heap.size, 1, none⟩) v
  exact ⟨fun n' a' r' h' => (by rw [hf] at h'; cases h'), fun _ => ⟨_, _, _, _, rfl⟩, hb.alloc hb.size _⟩

end

end Go.Proofs.Yteolfpdkpihnlaa

/-
  The walk of the reference's parse. Conditions: good symbols, texts of at most 65536 bytes, a place within the text.
-/
set_option linter.unusedSimpArgs false
set_option linter.unusedVariables false
namespace Go.Proofs.Yteolfpdkpihnlaa
open Go.RowKit

set_option maxHeartbeats 400000 in
theorem unknown2_any (w : World) : Calls Try.prog 86 #[] w fun e w' => e = .returned (.agg #[.int .i64 (-1), .slice none 0 0]) ∧ Below w.heap.size w w' := by
  go_enter Try.func86, Try.ntmps86
  go_wp2_with fail
  refine bodyPost_ret (v := .agg #[.int .i64 (-1), .slice none 0 0]) (by simp [results, Try.results86, go_sem]) rfl ?_
  exact ⟨rfl, (Below.refl _ _).alloc (Nat.le_refl _) _⟩

theorem rowS_at {w : World} {S : Sy} {p : Option Addr} {n c i : Nat} (h : IsS w S p n c) (hi : i < S.len) : ∃ b off, p = some ⟨b, off, none⟩ ∧ w.cell? ⟨b, off + i * 2, none⟩ = some (.string (S.nm i)) ∧ w.cell? ⟨b, off + i * 2 + 1, none⟩ = some (.int .i64 (S.rk i)) := by
  obtain ⟨_, _, _, _, hr⟩ := h
  rcases hr with h0 | ⟨b, off, rfl, hr⟩
  · omega
  · exact ⟨b, off, rfl, hr i hi⟩

set_option maxRecDepth 100000 in
set_option maxHeartbeats 8000000 in
theorem eparse_any (S : Sy) (hS : symsOk S = true) (s : List UInt8) (hs : s.length ≤ 65536) (N : Nat) : ∀ (k : Nat) (w : World) (sp : Option Addr) (sn sc : Nat), k ≤ s.length → s.length - k < N → IsS w S sp sn sc →
    Calls Try.prog 76 #[.slice sp sn sc, .string ⟨s.toArray⟩, .int .i64 (k : Int)] w (ParseP s k (pE S N (s.drop k)) w) := by
  obtain ⟨i0, hi0, hz0, hz1', hz2⟩ := info_parts infoY
  obtain ⟨h24, hrk, hnm⟩ := symsOk_facts hS
  have HRK := Lib.hid hrk
  have HNM := Lib.hid hnm
  clear hrk hnm
  induction N with
  | zero => intro k w sp sn sc hk hN; omega
  | succ N ih =>
    intro k w sp sn sc hk hN his
    have IH := Lib.hid ih
    clear ih
    obtain ⟨hsl, hscap, hsmax, _, _⟩ := id his
    subst hsl
    unfold maxLen at hsmax
    obtain ⟨f, hf⟩ : ∃ f, pE S (N + 1) (s.drop k) = f := ⟨_, rfl⟩
    rw [hf]
    have hv := hf.symm.trans (pE_at S N s k)
    obtain ⟨hE1, hE2⟩ := tokEnd_le (s := s) (i := k) hk
    have hcw := tok_cut s k
    obtain ⟨E, hE⟩ : ∃ E, tokEnd s k = E := ⟨_, rfl⟩
    obtain ⟨tok, htok⟩ : ∃ tok, tokAt s k = tok := ⟨_, rfl⟩
    rw [hE] at hE1 hE2 hcw hv
    rw [htok] at hcw hv
    have HV := Lib.hid hv
    have HE := Lib.hid hE
    have HIS := Lib.hid his
    have HR := Lib.hid (heap_new w (.cells #[.int .i64 0, .slice none 0 0] 25))
    clear hf hv hE htok his
    have HCW := Lib.hid hcw
    clear hcw
    go_enter Try.func76, Try.ntmps76
    go_upto_block 0 with fail
    go_cut [9] from 18 to 41 (fun v wx => v = .int .i64 (E : Int) ∧ wx = w.alloc (.cells #[.int .i64 0, .slice none 0 0] 25))
    case first =>
      go_wp2_with fail
      go_loopw [9] (fun v wr => ∃ j : Nat, j ≤ s.length ∧ v = .int .i64 (j : Int) ∧ tokEnd s j = E ∧ wr = w.alloc (.cells #[.int .i64 0, .slice none 0 0] 25))
        (fun v _ => s.length - (intOf v).toNat)
      case atStart => exact ⟨k, hk, rfl, HE.out, rfl⟩
      case round =>
        clear HE HV HCW
        obtain ⟨j, hj, rfl, hje, rfl⟩ := hrel
        have HJE := Lib.hid hje
        clear hje
        by_cases hlt : j < s.length
        · have e3 := byteE_at s j hlt
          have hw1 : inT (s.getD j 0) = true → tokEnd s (j + 1) = E := fun h => (tokEnd_in hlt h).symm.trans HJE.out
          have hw0 : inT (s.getD j 0) = false → j = E := fun h => (tokEnd_out hlt h).symm.trans HJE.out
          rw [inT_is] at hw1 hw0
          generalize (s.getD j 0).toNat = b at e3 hw1 hw0
          obtain ⟨y1, g1⟩ : ∃ y, ((b : Int) != 40) = y := ⟨_, rfl⟩
          obtain ⟨y2, g2⟩ : ∃ y, ((b : Int) != 41) = y := ⟨_, rfl⟩
          obtain ⟨y3, g3⟩ : ∃ y, ((b : Int) != 44) = y := ⟨_, rfl⟩
          rw [g1, g2, g3] at hw1 hw0
          have HW := Lib.hid (And.intro hw1 hw0)
          clear hw1 hw0
          have hcl : y1 = false ∨ (y1 = true ∧ y2 = false) ∨ (y1 = true ∧ y2 = true ∧ y3 = false) ∨ (y1 = true ∧ y2 = true ∧ y3 = true) := by
            cases y1 <;> cases y2 <;> cases y3 <;> simp
          rcases hcl with rfl | ⟨rfl, rfl⟩ | ⟨rfl, rfl, rfl⟩ | ⟨rfl, rfl, rfl⟩
          · go_wp2_with fail
            go_meet
            case rel => exact ⟨congrArg (fun n : Nat => Value.int .i64 (n : Int)) (HW.out.2 rfl), rfl⟩
          · go_wp2_with fail
            go_meet
            case rel => exact ⟨congrArg (fun n : Nat => Value.int .i64 (n : Int)) (HW.out.2 rfl), rfl⟩
          · go_wp2_with fail
            go_meet
            case rel => exact ⟨congrArg (fun n : Nat => Value.int .i64 (n : Int)) (HW.out.2 rfl), rfl⟩
          · go_wp2_with fail
            go_roundw
            case rel => exact ⟨j + 1, by omega, by go_num, HW.out.1 rfl, by first | trivial | rfl⟩
            case measure => simp [intOf]; omega
        · go_wp2_with fail
          go_meet
          case rel => exact ⟨congrArg (fun n : Nat => Value.int .i64 (n : Int)) (by have := HJE.out; rw [tokEnd_end (by omega)] at this; exact this), rfl⟩
    case rest =>
      obtain ⟨rfl, rfl⟩ := hcut
      have hcw := HCW.out
      have hI1 : (0 : Int) ≤ (k : Int) := by omega
      have hI2 : (k : Int) ≤ (E : Int) := by omega
      have hI3 : (E : Int) ≤ (s.length : Int) := by omega
      clear HE
      by_cases h95 : tok = ⟨#[95]⟩
      · have hd : (tok.toList == [95]) = true := by rw [h95, ByteArray.toList_eq]; rfl
        have HF := Lib.hid (HV.out.trans (if_pos h95))
        clear h95 HV
        go_wp2_with fail
        refine (unknown2_any _).mono ?_
        rintro e w2 ⟨rfl, hb2⟩
        have r0 := box2_later hb2 HR.out
        obtain ⟨⟨x1, x2⟩, x3, x4⟩ := tree_box r0
        have hz := lt_of_block r0
        have hB := ((Below.refl w.heap.size w).alloc (Nat.le_refl _) (.cells #[.int .i64 0, .slice none 0 0] 25)).trans (hb2.mono (by simp))
        have HB := Lib.hid hB
        clear r0 hb2 hB
        go_wp2_with fail
        exact bodyPost_ret (v := .tuple #[.agg #[.int .i64 (-1), .slice none 0 0], .int .i64 (E : Int), .bool true]) (by simp [results, Try.results76, go_sem, x1, x2]) rfl (parse_unk HB.out HF.out hE2 _ _)
      · have hd : (tok.toList == [95]) = false := by
          rw [beq_eq_false_iff_ne]
          exact fun h => h95 (toList_inj (h.trans (by rw [ByteArray.toList_eq])))
        have HF := Lib.hid (HV.out.trans (if_neg h95))
        clear h95 HV
        have HB0 := Lib.hid ((Below.refl w.heap.size w).alloc (Nat.le_refl _) (.cells #[.int .i64 0, .slice none 0 0] 25))
        go_wp2_with fail
        refine (unknown2_any _).mono ?_
        rintro e w2 ⟨rfl, hb2⟩
        have r0 := box2_later hb2 HR.out
        have hB := HB0.out.trans (hb2.mono (by simp))
        have hP : Po w (w2.alloc (.cells #[.int .i64 (-1), .slice none 0 0] 25)) w2.heap.size (-1) .nil none 0 :=
          ⟨GotY.start (World.ownsRow_nil _ _ _ _) (by simp), heap_new _ _, alloc_kept r0 _, hB.alloc hB.size _, lt_of_block r0⟩
        have HP := Lib.hid hP
        clear hP r0 hb2 hB HB0 HR
        go_wp2_with fail
        generalize w2.heap.size = bo at HP ⊢
        go_loopw [52] (fun v wr => ∃ j : Nat, j ≤ S.len ∧ v = .int .i64 (j : Int) ∧ Po w wr bo (symI S tok j) .nil none 0)
          (fun v _ => S.len - (intOf v).toNat)
        case atStart => exact ⟨0, Nat.zero_le _, rfl, HP.out⟩
        case round =>
          clear HP
          obtain ⟨j, hj, rfl, hP⟩ := hrel
          have HP := Lib.hid hP
          by_cases hlt : j < S.len
          · obtain ⟨sb, so, rfl, g1, g2⟩ := rowS_at (HIS.out.below hP.base) hlt
            have hbl := hP.lt
            obtain ⟨⟨y1, y2⟩, y3, y4⟩ := hP.cells
            have fz := fun o m => ((hP.alloc o).drewN m).cells.2.1
            clear hP
            by_cases he : S.nm j = tok
            · have hd2 : ((S.nm j).toList == tok.toList) = true := by simp [he]
              have HQ := Lib.hid (symI_hit he)
              clear he
              generalize S.nm j = nj at g1 hd2
              generalize S.rk j = rj at g2
              go_upto_region 10 with fail
              go_quiet (fail)
              go_wp2_with fail
              go_roundw
              case rel => exact ⟨j + 1, by omega, by go_num, by rw [HQ.out]; exact ((HP.out.alloc _).drewN _).sym _⟩
              case measure => simp [intOf]; omega
            · have hd2 : ((S.nm j).toList == tok.toList) = false := by
                rw [beq_eq_false_iff_ne]
                exact fun h => he (toList_inj h)
              have HQ := Lib.hid (symI_miss he)
              clear he
              generalize S.nm j = nj at g1 hd2
              generalize S.rk j = rj at g2
              go_upto_region 10 with fail
              go_quiet (fail)
              go_wp2_with fail
              go_roundw
              case rel => exact ⟨j + 1, by omega, by go_num, by rw [HQ.out]; exact (HP.out.alloc _).drewN _⟩
              case measure => simp [intOf]; omega
          · obtain rfl : j = S.len := by omega
            clear hP hj hlt
            cases hi : idxS S tok S.len with
            | none =>
              have hsy : symI S tok S.len = -1 := by unfold symI; rw [hi]
              have HN := Lib.hid (show f = none by rw [HF.out, hi]; rfl)
              rw [hsy] at HP
              clear hi hsy HF
              obtain ⟨⟨y1, y20⟩, y3, y4⟩ := HP.out.cells
              have y2 : wr.cell? ⟨bo, 1, none⟩ = some (.slice none 0 0) := y20
              clear y20
              obtain ⟨⟨x1, x2⟩, x3, x4⟩ := HP.out.rcells
              go_wp2_with fail
              exact bodyPost_ret (v := .tuple #[.agg #[.int .i64 (-1), .slice none 0 0], .int .i64 (k : Int), .bool false]) (by simp [results, Try.results76, go_sem, x1, x2]) rfl (parse_no HP.out HN.out _ _)
            | some i =>
              have hsy : symI S tok S.len = (i : Int) := by unfold symI; rw [hi]
              have hil := idxS_lt hi
              have hf2 : f = (rdKids (pE S N) (S.rk i).toNat 40 (s.drop E)).bind fun y => rdShut i y := by rw [HF.out, hi]; rfl
              rw [hsy] at HP
              clear hi hsy HF
              obtain ⟨sb, so, rfl, _, g2⟩ := rowS_at (HIS.out.below HP.out.base) hil
              obtain ⟨hk1, hk2⟩ := HRK.out i hil
              obtain ⟨K, hK⟩ : ∃ K : Nat, (S.rk i).toNat = K := ⟨_, rfl⟩
              have hK2 : S.rk i = (K : Int) := by omega
              rw [hK] at hf2
              rw [hK2] at g2
              have HF := Lib.hid hf2
              have HK2 := Lib.hid hK2
              have hK4 : K ≤ 4 := by omega
              clear hK hK2 hk1 hk2 hf2
              obtain ⟨⟨y1, y2⟩, y3, y4⟩ := HP.out.cells
              have hneg : ((i : Int) == -1) = false := by rw [beq_eq_false_iff_ne]; omega
              have hii : (i : Int) < (S.len : Int) := by omega
              go_wp2_with fail
              clear g2 y1 y2 y3 y4 hneg
              have HQ := Lib.hid HP.out
              have hbl := HP.out.lt
              go_loopw [7, 8, 9, 78] (fun v7 v8 v9 v78 wx => ∃ (j : Nat) (acc : Y) (q : Option Addr) (c en : Nat), j ≤ K ∧ v7 = .int .i64 0 ∧ v8 = .bool false ∧ v9 = .int .i64 (en : Int) ∧ v78 = .int .i64 (j : Int) ∧ acc.len = j ∧ en ≤ s.length ∧ E ≤ en ∧
                  rdKids (pE S N) K 40 (s.drop E) = (rdKids (pE S N) (K - j) (if j = 0 then 40 else 44) (s.drop en)).map (fun x => (acc.app x.1, x.2)) ∧ Po w wx bo (i : Int) acc q c)
                (fun _ _ _ v78 _ => K - (intOf v78).toNat)
              case atStart => exact ⟨0, .nil, none, 0, E, Nat.zero_le _, rfl, rfl, rfl, rfl, rfl, hE2, Nat.le_refl _, by rw [Nat.sub_zero, if_pos rfl]; cases rdKids (pE S N) K 40 (s.drop E) <;> rfl, HQ.out⟩
              case round =>
                clear HQ HP
                obtain ⟨j, acc, q, c, en, hj, rfl, rfl, rfl, rfl, hal, hen, hEn, hrd, hP⟩ := hrel
                have HP := Lib.hid hP
                have HD := Lib.hid hrd
                have HAL := Lib.hid hal
                clear hrd hal
                by_cases hjk : j < K
                · have hKj : K - j = (K - (j + 1)) + 1 := by omega
                  rw [hKj] at HD
                  clear hKj
                  have hbl := hP.lt
                  cases hm : pre [if j = 0 then 40 else 44] (s.drop en) with
                  | false =>
                    have hf5 : f = none := by rw [HF.out, HD.out, rdKids_none hm]; rfl
                    have HF5 := Lib.hid hf5
                    obtain ⟨⟨y1, y2⟩, y3, y4⟩ := hP.cells
                    obtain ⟨⟨x1, x2⟩, x3, x4⟩ := hP.rcells
                    clear hf5 hP
                    by_cases hlt : en < s.length
                    · by_cases hj0 : j = 0
                      · rw [if_pos hj0] at hm
                        have hb := mark_no (n := 40) rfl hm hlt
                        have hd1 : ((j : Int) == 0) = true := by simp [hj0]
                        have hd2 : ¬ (0 : Int) < (j : Int) := by omega
                        have e3 := byteE_at s en hlt
                        clear hm hj0
                        generalize (s.getD en 0).toNat = b at e3 hb
                        go_wp2_with fail
                        exact bodyPost_ret (v := .tuple #[.agg #[.int .i64 (i : Int), .slice q acc.len c], .int .i64 (k : Int), .bool false]) (by simp [results, Try.results76, go_sem, x1, x2]) rfl (parse_no HP.out HF5.out _ _)
                      · rw [if_neg hj0] at hm
                        have hb := mark_no (n := 44) rfl hm hlt
                        have hd1 : ((j : Int) == 0) = false := by simp [hj0]
                        have hd2 : (0 : Int) < (j : Int) := by omega
                        have e3 := byteE_at s en hlt
                        clear hm hj0
                        generalize (s.getD en 0).toNat = b at e3 hb
                        go_wp2_with fail
                        exact bodyPost_ret (v := .tuple #[.agg #[.int .i64 (i : Int), .slice q acc.len c], .int .i64 (k : Int), .bool false]) (by simp [results, Try.results76, go_sem, x1, x2]) rfl (parse_no HP.out HF5.out _ _)
                    · clear hm
                      go_wp2_with fail
                      exact bodyPost_ret (v := .tuple #[.agg #[.int .i64 (i : Int), .slice q acc.len c], .int .i64 (k : Int), .bool false]) (by simp [results, Try.results76, go_sem, x1, x2]) rfl (parse_no HP.out HF5.out _ _)
                  | true =>
                    have hlt : en < s.length := by
                      by_cases hj0 : j = 0
                      · rw [if_pos hj0] at hm; exact (mark_yes (n := 40) rfl hm).1
                      · rw [if_neg hj0] at hm; exact (mark_yes (n := 44) rfl hm).1
                    have hbb : (((j : Int) == 0) = true ∧ (¬ (0 : Int) < (j : Int)) ∧ (((s.getD en 0).toNat : Int) != 40) = false) ∨ (((j : Int) == 0) = false ∧ ((0 : Int) < (j : Int)) ∧ (((s.getD en 0).toNat : Int) != 44) = false) := by
                      by_cases hj0 : j = 0
                      · rw [if_pos hj0] at hm; exact Or.inl ⟨by simp [hj0], by omega, (mark_yes (n := 40) rfl hm).2⟩
                      · rw [if_neg hj0] at hm; exact Or.inr ⟨by simp [hj0], by omega, (mark_yes (n := 44) rfl hm).2⟩
                    have e3 := byteE_at s en hlt
                    have HM := Lib.hid hm
                    have hIS := HIS.out.below hP.base
                    have HA := Lib.hid fun (x : Int) (hx : x = ((en + 1 : Nat) : Int)) W (h : IsS W S (some ⟨sb, so, none⟩) S.len sc) =>
                      (show Calls Try.prog 76 #[.slice (some ⟨sb, so, none⟩) S.len sc, .string ⟨s.toArray⟩, .int .i64 x] W (ParseP s (en + 1) (pE S N (s.drop (en + 1))) W) from by subst hx; exact IH.out (en + 1) W _ S.len sc (by omega) (by omega) h)
                    have HI := Lib.hid hIS
                    obtain ⟨xs, hown, hkids⟩ := hP.got
                    have HW := Lib.hid hown
                    have HKI := Lib.hid hkids
                    clear hm hIS hown hkids hP
                    generalize (s.getD en 0).toNat = b at e3 hbb
                    cases hh : pE S N (s.drop (en + 1)) with
                    | none =>
                      have HH := Lib.hid hh
                      have hf5 : f = none := by rw [HF.out, HD.out, rdKids_bad HM.out (by rw [List.drop_drop]; exact HH.out)]; rfl
                      have HF5 := Lib.hid hf5
                      clear hh hf5
                      rcases hbb with ⟨hd1, hd2, hb⟩ | ⟨hd1, hd2, hb⟩
                      all_goals
                        go_wp2_with fail
                        refine (HA.out _ (by omega) _ HI.out).mono ?_
                        rintro e w4 ⟨_, hn, hb4⟩
                        obtain ⟨n', q', l', c', rfl⟩ := hn HH.out
                        have HP4 := Lib.hid (HP.out.below hb4)
                        obtain ⟨⟨y1, y2⟩, y3, y4⟩ := HP4.out.cells
                        obtain ⟨⟨x1, x2⟩, x3, x4⟩ := HP4.out.rcells
                        have hbl4 := HP4.out.lt
                        have hbl5 := lt_of_block HP4.out.res
                        clear hn hb4
                        go_wp2_with fail
                        exact bodyPost_ret (v := .tuple #[.agg #[.int .i64 (i : Int), .slice q acc.len c], .int .i64 (k : Int), .bool false]) (by simp [results, Try.results76, go_sem, x1, x2, hbl5]) rfl (parse_noA HP4.out HF5.out _ _ _)
                    | some z =>
                      obtain ⟨kn, ka, r4⟩ := z
                      have HH := Lib.hid hh
                      have hq := rdKids_push HD.out HM.out (by rw [List.drop_drop]; exact HH.out)
                      have HQ := Lib.hid hq
                      have hlt4 := pE_lt hS _ _ _ _ _ hh
                      have HLn := Lib.hid (Y.len_snoc acc kn ka)
                      have hmx : acc.len + 1 ≤ maxLen := by have := HAL.out; simp only [maxLen]; omega
                      have hby : (acc.len + 1) * 32 ≤ 140737488355328 := by have := HAL.out; omega
                      have HL4 := Lib.hid hlt4
                      clear hh hq hlt4
                      rcases hbb with ⟨hd1, hd2, hb⟩ | ⟨hd1, hd2, hb⟩
                      all_goals
                        go_wp2_with fail
                        refine (HA.out _ (by omega) _ HI.out).mono ?_
                        rintro e w4 ⟨hy, _, hb4⟩
                        obtain ⟨q1, c1, en2, rfl, hen2, rfl, hO⟩ := hy _ _ _ HH.out
                        have HP4 := Lib.hid (HP.out.below hb4)
                        have HB4 := Lib.hid hb4
                        have HO := Lib.hid hO
                        obtain ⟨⟨y1, y2⟩, y3, y4⟩ := HP4.out.cells
                        have hbl4 := HP4.out.lt
                        have hownA := fun o o' => ((ownsRowY_later HW.out HB4.out).alloc o).alloc o'
                        clear hy hb4 hO
                        go_wp2_with (at_builtin; refine wpList_append_lies _ rfl _ _ 23 rfl (bo + 1) 25 i0 (.agg #[.int .i64 0, .slice none 0 0]) 2 32 Try.underlying23 hi0 hz0 hz1' hz2 rfl (by decide) (.slice q acc.len c) acc.len xs rfl (hownA _ _) ⟨w4.heap.size + 1, 0, none⟩ 1 1 [.int .i64 kn, .slice q1 ka.len c1] rfl rfl (World.news_of_block (by simpa using heap_new (w4.alloc _) (.cells #[.int .i64 kn, .slice q1 ka.len c1] 25))) (one_two _ _ _ _) Nat.one_pos hmx hby (by simp; omega) (w4.heap.size + 1 + 1) (by simp) ?_; intro g cp w9 hown9 hgrow hat hglt; obtain ⟨SP, hmid⟩ := Po.push HP.out HW.out HKI.out HB4.out HO.out hown9 hgrow hat; obtain ⟨⟨z1, z2⟩, z3, z4⟩ := tree_box hmid)
                        have HSP := Lib.hid SP
                        clear SP hmid hown9 hgrow hat hglt
                        go_roundw
                        case rel => exact ⟨j + 1, acc.snoc kn ka, some ⟨g, 0, none⟩, cp, en2, by omega, by rfl, by rfl, by rfl, by go_num, by rw [HLn.out, HAL.out], hen2, by have := HL4.out; simp only [List.length_drop] at this; omega, by rw [if_neg (Nat.succ_ne_zero j)]; exact HQ.out, HSP.out⟩
                        case measure => simp [intOf]; omega
                · have hf4 : f = rdShut i (acc, s.drop en) := by
                    rw [HF.out, HD.out, show K - j = 0 by omega]
                    simp [rdKids, Y.app_nil]
                  have HF4 := Lib.hid hf4
                  obtain ⟨sb', so', hsp, _, g2⟩ := rowS_at (HIS.out.below hP.base) hil
                  injection hsp with hsp
                  injection hsp with hsp1 hsp2
                  subst hsp1 hsp2
                  rw [HK2.out] at g2
                  obtain ⟨⟨y1, y2⟩, y3, y4⟩ := hP.cells
                  obtain ⟨⟨x1, x2⟩, x3, x4⟩ := hP.rcells
                  clear hf4 hP
                  by_cases h00 : K = 0
                  · have hd3 : ¬ (0 : Int) < (K : Int) := by omega
                    have hf5 : f = some ((i : Int), acc, s.drop en) := by rw [HF4.out]; unfold rdShut; rw [if_pos (by have := HAL.out; dsimp only; omega)]
                    have HF5 := Lib.hid hf5
                    clear hf5
                    go_wp2_with fail
                    exact bodyPost_ret (v := .tuple #[.agg #[.int .i64 (i : Int), .slice q acc.len c], .int .i64 (en : Int), .bool true]) (by simp [results, Try.results76, go_sem, x1, x2]) rfl (parse_yes HP.out HF5.out hen _ _)
                  · have hd3 : (0 : Int) < (K : Int) := by omega
                    have h00' : ¬ acc.len = 0 := by have := HAL.out; omega
                    cases hp : pre [41] (s.drop en) with
                    | true =>
                      have hf5 : f = some ((i : Int), acc, s.drop (en + 1)) := by rw [HF4.out]; unfold rdShut; rw [if_neg h00', if_pos hp]; simp only [List.drop_drop]
                      have HF5 := Lib.hid hf5
                      obtain ⟨hlt, hb⟩ := mark_yes (n := 41) rfl hp
                      have e3 := byteE_at s en hlt
                      clear hf5 hp
                      generalize (s.getD en 0).toNat = b at e3 hb
                      go_wp2_with fail
                      exact bodyPost_ret (v := .tuple #[.agg #[.int .i64 (i : Int), .slice q acc.len c], .int .i64 ((en + 1 : Nat) : Int), .bool true]) (by simp [results, Try.results76, go_sem, x1, x2]) rfl (parse_yes HP.out HF5.out hlt _ _)
                    | false =>
                      have hf5 : f = none := by rw [HF4.out]; unfold rdShut; rw [if_neg h00', if_neg (by rw [hp]; simp)]
                      have HF5 := Lib.hid hf5
                      by_cases hlt : en < s.length
                      · have hb := mark_no (n := 41) rfl hp hlt
                        have e3 := byteE_at s en hlt
                        clear hf5 hp
                        generalize (s.getD en 0).toNat = b at e3 hb
                        go_wp2_with fail
                        exact bodyPost_ret (v := .tuple #[.agg #[.int .i64 (i : Int), .slice q acc.len c], .int .i64 (k : Int), .bool false]) (by simp [results, Try.results76, go_sem, x1, x2]) rfl (parse_no HP.out HF5.out _ _)
                      · clear hf5 hp
                        go_wp2_with fail
                        exact bodyPost_ret (v := .tuple #[.agg #[.int .i64 (i : Int), .slice q acc.len c], .int .i64 (k : Int), .bool false]) (by simp [results, Try.results76, go_sem, x1, x2]) rfl (parse_no HP.out HF5.out _ _)

end Go.Proofs.Yteolfpdkpihnlaa

/-
  The walk of the reference's Get. Conditions: none but that the symbols lie in memory.
-/
set_option linter.unusedSimpArgs false
set_option linter.unusedVariables false
namespace Go.Proofs.Yteolfpdkpihnlaa
open Go.RowKit

/-- what the reference's Get holds behind its reading -/
structure KR (w W : World) (bt lo hi : Nat) (S : Sy) (sp : Option Addr) (sn sc : Nat) (n : Int) (a : Y) (q : Option Addr) (c : Nat) : Prop where
  syms : IsS W S sp sn sc
  hbt : W.heap[bt]? = some (.cells #[.int .i64 n, .slice q a.len c] 25 (0, 0))
  hres : W.heap[w.heap.size]? = some (.cells #[.int .i64 0, .slice none 0 0] 25 (0, 0))
  own : OwnY W a q c lo hi
  hlo : w.heap.size < lo
  hhi : hi ≤ W.heap.size
  base : Below w.heap.size w W

section
variable {w W W' : World} {bt lo hi : Nat} {S : Sy} {sp : Option Addr} {sn sc : Nat} {n : Int} {a : Y} {q : Option Addr} {c : Nat}

theorem KR.below (h : KR w W bt lo hi S sp sn sc n a q c) (hb : Below W.heap.size W W') : KR w W' bt lo hi S sp sn sc n a q c :=
  ⟨h.syms.below hb, (hb.block _ (lt_of_block h.hbt)).trans h.hbt, (hb.block _ (lt_of_block h.hres)).trans h.hres,
    h.own.keep fun k _ hk => hb.block k (by have := h.hhi; omega), h.hlo, Nat.le_trans h.hhi hb.size, h.base.trans (hb.mono h.base.size)⟩

theorem KR.drew (h : KR w W bt lo hi S sp sn sc n a q c) : KR w W.drew bt lo hi S sp sn sc n a q c :=
  h.below (Below.refl _ _).drew

/-- the answer is the tree -/
theorem KR.yes (h : KR w W bt lo hi S sp sn sc n a q c) (u v : Value) :
    GetPost (0, n, a) w (.returned (.tuple #[.agg #[.int .i64 n, .slice q a.len c], .int .i64 0])) ((W.setCell ⟨w.heap.size, 0, none⟩ u).setCell ⟨w.heap.size, 1, none⟩ v) := by
  refine ⟨q, c, rfl, ?_, (h.base.setCell (Nat.le_refl _) _).setCell (Nat.le_refl _) _⟩
  rw [size_set2]
  have := h.hlo
  exact (h.own.set2 h.hlo _ _).mono (by omega) h.hhi

theorem get_zero {x : Int} (h : Below w.heap.size w W) (u v : Value) :
    GetPost (x, 0, .nil) w (.returned (.tuple #[.agg #[.int .i64 0, .slice none 0 0], .int .i64 x])) ((W.setCell ⟨w.heap.size, 0, none⟩ u).setCell ⟨w.heap.size, 1, none⟩ v) :=
  ⟨none, 0, rfl, ownY_nil _ _ _, (h.setCell (Nat.le_refl _) _).setCell (Nat.le_refl _) _⟩

theorem get_zeroA {x : Int} (h : Below w.heap.size w W) (u v : Value) (o : Obj) :
    GetPost (x, 0, .nil) w (.returned (.tuple #[.agg #[.int .i64 0, .slice none 0 0], .int .i64 x])) (((W.setCell ⟨w.heap.size, 0, none⟩ u).setCell ⟨w.heap.size, 1, none⟩ v).alloc o) :=
  ⟨none, 0, rfl, ownY_nil _ _ _, ((h.setCell (Nat.le_refl _) (p := ⟨w.heap.size, 0, none⟩) u).setCell (Nat.le_refl _) (p := ⟨w.heap.size, 1, none⟩) v).alloc (by have := h.size; rw [size_set2]; exact this) _⟩

end

set_option maxRecDepth 100000 in
set_option maxHeartbeats 4000000 in
theorem erefget_any (S : Sy) (s : List UInt8) (w : World) (sp : Option Addr) (sn sc : Nat) (his : IsS w S sp sn sc) :
    Calls Try.prog 39 #[.slice sp sn sc, .string ⟨s.toArray⟩] w (GetPost (getE S s) w) := by
  have hsn := his.1
  subst hsn
  have HSY := Lib.hid (refsymbols_any S (w.alloc (.cells #[.int .i64 0, .slice none 0 0] 25)) sp S.len sc (his.alloc _))
  have HR := Lib.hid (heap_new w (.cells #[.int .i64 0, .slice none 0 0] 25))
  have HB0 := Lib.hid ((Below.refl w.heap.size w).alloc (Nat.le_refl _) (.cells #[.int .i64 0, .slice none 0 0] 25))
  have HIS := Lib.hid his
  clear his
  obtain ⟨f, hf⟩ : ∃ f, getE S s = f := ⟨_, rfl⟩
  rw [hf]
  cases hok : symsOk S with
  | false =>
    have hv : f = (2, 0, .nil) := by rw [← hf]; unfold getE; rw [hok]; rfl
    rw [hok] at HSY
    subst hv
    clear hf hok
    go_enter Try.func39, Try.ntmps39
    go_wp2_with fail
    refine (HSY.out).mono ?_
    rintro e w1 ⟨rfl, hb1⟩
    have z0 := box2_later hb1 HR.out
    obtain ⟨⟨z1, z2⟩, f1, f2⟩ := tree_box z0
    have hz := lt_of_block z0
    have HB1 := Lib.hid (HB0.out.trans (hb1.mono (by simp)))
    clear z0 hb1
    go_wp2_with fail
    exact bodyPost_ret (v := .tuple #[.agg #[.int .i64 0, .slice none 0 0], .int .i64 2]) (by simp [results, Try.results39, go_sem, z1, z2]) rfl (get_zero HB1.out _ _)
  | true =>
    rw [hok] at HSY
    obtain ⟨hsl, _, _⟩ := symsOk_facts hok
    by_cases hlong : 65536 < s.length
    · have hv : f = (3, 0, .nil) := by rw [← hf]; unfold getE; rw [hok, if_pos rfl, if_pos hlong]
      have hd : (65536 : Int) < (s.length : Int) := by omega
      subst hv
      clear hf hok hlong
      go_enter Try.func39, Try.ntmps39
      go_wp2_with fail
      refine (HSY.out).mono ?_
      rintro e w1 ⟨rfl, hb1⟩
      have z0 := box2_later hb1 HR.out
      obtain ⟨⟨z1, z2⟩, f1, f2⟩ := tree_box z0
      have hz := lt_of_block z0
      have HB1 := Lib.hid (HB0.out.trans (hb1.mono (by simp)))
      clear z0 hb1
      go_wp2_with fail
      exact bodyPost_ret (v := .tuple #[.agg #[.int .i64 0, .slice none 0 0], .int .i64 3]) (by simp [results, Try.results39, go_sem, z1, z2]) rfl (get_zero HB1.out _ _)
    · have hd : ¬ (65536 : Int) < (s.length : Int) := by omega
      have HV := Lib.hid (hf.symm.trans (getE_p hok s hlong))
      have HPA := Lib.hid fun W (h : IsS W S sp S.len sc) => (show Calls Try.prog 76 #[.slice sp S.len sc, .string ⟨s.toArray⟩, .int .i64 0] W (ParseP s 0 (pE S (s.length + 1) s) W) from eparse_any S hok s (by omega) (s.length + 1) 0 W sp _ sc (Nat.zero_le _) (by omega) h)
      have HRK := Lib.hid fun W (h : IsS W S sp S.len sc) => erefranksof_any S W sp S.len sc h (by omega)
      have hs : s.length ≤ 65536 := by omega
      clear hf hok hlong
      go_enter Try.func39, Try.ntmps39
      go_wp2_with fail
      refine (HSY.out).mono ?_
      rintro e w1 ⟨rfl, hb1⟩
      have z0 := box2_later hb1 HR.out
      have hz := lt_of_block z0
      have HZ := Lib.hid z0
      have HB1 := Lib.hid (HB0.out.trans (hb1.mono (by simp)))
      have HIS1 := Lib.hid ((HIS.out.alloc _).below hb1)
      clear z0 hb1 HSY
      go_wp2_with fail
      refine (HPA.out _ HIS1.out).mono ?_
      rintro e w2 ⟨hy, hn, hb2⟩
      have HB2 := Lib.hid (HB1.out.trans (hb2.mono HB1.out.size))
      have z0 := box2_later hb2 HZ.out
      have hz2 := lt_of_block z0
      have HZ2 := Lib.hid z0
      have HIS2 := Lib.hid (HIS1.out.below hb2)
      clear z0 hb2
      cases hh : pE S (s.length + 1) s with
      | none =>
        obtain ⟨n', q', l', c', rfl⟩ := hn hh
        have hv : f = (4, 0, .nil) := by rw [HV.out, hh]
        subst hv
        obtain ⟨⟨z1, z2⟩, f1, f2⟩ := tree_box HZ2.out
        clear hh hy hn HV
        go_wp2_with fail
        exact bodyPost_ret (v := .tuple #[.agg #[.int .i64 0, .slice none 0 0], .int .i64 4]) (by simp [results, Try.results39, go_sem, z1, z2, hz2]) rfl (get_zeroA HB2.out _ _ _)
      | some z =>
        obtain ⟨n, a, r⟩ := z
        obtain ⟨q, c, en, rfl, hen, hr, hO⟩ := hy n a r hh
        by_cases he : en = s.length
        · have hr2 : r = [] := by rw [hr, he, List.drop_length]
          subst hr2
          have HE := Lib.hid (show f = if treeOk (ranksE S) n a = true then (0, n, a) else (9, 0, .nil) by rw [HV.out, hh])
          have hd2 : ((en : Int) != (s.length : Int)) = false := by simp [he]
          have K2 : KR w (w2.alloc (.cells #[.int .i64 n, .slice q a.len c] 25)) w2.heap.size w1.heap.size w2.heap.size S sp S.len sc n a q c :=
            ⟨HIS2.out.alloc _, heap_new _ _, alloc_kept HZ2.out _, hO.keep fun k _ hk => Below.heap_alloc _ _ _ hk, hz, by simp, HB2.out.alloc HB2.out.size _⟩
          have HK := Lib.hid K2
          have HISR := Lib.hid fun W rq rc (h1 : IsL W (ranksE S) rq (ranksE S).length rc) (h2 : IsY W a q a.len c) => erefis_any (ranksE S) a n W rq q _ rc _ c h1 h2
          clear hh hy hn HV hr hO K2 he
          go_wp2_with fail
          have MK := Lib.hid fun W (h : KR w W w2.heap.size w1.heap.size w2.heap.size S sp S.len sc n a q c) => (And.intro (box2_cells h.hbt).1 (And.intro (box2_cells h.hbt).2 h) : W.cell? ⟨w2.heap.size, 0, none⟩ = some (.int .i64 n) ∧ W.cell? ⟨w2.heap.size, 1, none⟩ = some (.slice q a.len c) ∧ KR w W w2.heap.size w1.heap.size w2.heap.size S sp S.len sc n a q c)
          have RS := Lib.hid fun W (h : W.cell? ⟨w2.heap.size, 0, none⟩ = some (.int .i64 n) ∧ W.cell? ⟨w2.heap.size, 1, none⟩ = some (.slice q a.len c) ∧ KR w W w2.heap.size w1.heap.size w2.heap.size S sp S.len sc n a q c) => (h.2.2 : KR w W w2.heap.size w1.heap.size w2.heap.size S sp S.len sc n a q c)
          have f3 := MK.out _ HK.out.drew
          cases ht : treeOk (ranksE S) n a with
          | false =>
            have hv : f = (9, 0, .nil) := by rw [HE.out, ht]; rfl
            subst hv
            rw [ht] at HISR
            clear ht HE
            go_region_held3 (fun W => W.cell? ⟨w2.heap.size, 0, none⟩ = some (.int .i64 n) ∧ W.cell? ⟨w2.heap.size, 1, none⟩ = some (.slice q a.len c) ∧ KR w W w2.heap.size w1.heap.size w2.heap.size S sp S.len sc n a q c)
              (first | exact f3 | exact MK.out _ ((RS.out _ (by assumption)).below (by assumption)))
              (first
              | (go_at_call 42; refine (HRK.out _ (RS.out _ (by assumption)).syms).mono ?_; rintro e w4 ⟨rq, rc, rfl, hL, _, hb4⟩)
              | (go_at_call 41; refine (HISR.out _ _ _ hL (RS.out _ (by assumption)).own.isY).mono ?_; rintro e w5 ⟨rfl, hb5⟩))
            all_goals
              have HK5 := Lib.hid (RS.out _ (by assumption))
              obtain ⟨⟨z1, z2⟩, f1, f2⟩ := tree_box HK5.out.hres
              have hz5 := lt_of_block HK5.out.hres
              go_wp2_with fail
              exact bodyPost_ret (v := .tuple #[.agg #[.int .i64 0, .slice none 0 0], .int .i64 9]) (by simp [results, Try.results39, go_sem, z1, z2, hz5]) rfl (get_zero HK5.out.base _ _)
          | true =>
            have hv : f = (0, n, a) := by rw [HE.out, ht]; rfl
            subst hv
            rw [ht] at HISR
            clear ht HE
            go_region_held3 (fun W => W.cell? ⟨w2.heap.size, 0, none⟩ = some (.int .i64 n) ∧ W.cell? ⟨w2.heap.size, 1, none⟩ = some (.slice q a.len c) ∧ KR w W w2.heap.size w1.heap.size w2.heap.size S sp S.len sc n a q c)
              (first | exact f3 | exact MK.out _ ((RS.out _ (by assumption)).below (by assumption)))
              (first
              | (go_at_call 42; refine (HRK.out _ (RS.out _ (by assumption)).syms).mono ?_; rintro e w4 ⟨rq, rc, rfl, hL, _, hb4⟩)
              | (go_at_call 41; refine (HISR.out _ _ _ hL (RS.out _ (by assumption)).own.isY).mono ?_; rintro e w5 ⟨rfl, hb5⟩))
            all_goals
              have HK5 := Lib.hid (RS.out _ (by assumption))
              obtain ⟨⟨z1, z2⟩, f1, f2⟩ := tree_box HK5.out.hres
              obtain ⟨⟨z3, z4⟩, f3, f4⟩ := tree_box HK5.out.hbt
              have hz5 := lt_of_block HK5.out.hres
              go_wp2_with fail
              exact bodyPost_ret (v := .tuple #[.agg #[.int .i64 n, .slice q a.len c], .int .i64 0]) (by simp [results, Try.results39, go_sem, z1, z2, hz5]) rfl (HK5.out.yes _ _)
        · have hr2 : r.isEmpty = false := by
            cases r with
            | nil =>
              have := congrArg List.length hr
              simp only [List.length_nil, List.length_drop] at this
              omega
            | cons x r => rfl
          have hv : f = (4, 0, .nil) := by
            rw [HV.out, hh]
            cases r with
            | nil => cases hr2
            | cons x r => rfl
          subst hv
          have hd2 : ((en : Int) != (s.length : Int)) = true := by simp; omega
          obtain ⟨⟨z1, z2⟩, f1, f2⟩ := tree_box HZ2.out
          clear hh hy hn HV hr hr2 he
          go_wp2_with fail
          exact bodyPost_ret (v := .tuple #[.agg #[.int .i64 0, .slice none 0 0], .int .i64 4]) (by simp [results, Try.results39, go_sem, z1, z2, hz2]) rfl (get_zeroA HB2.out _ _ _)

end Go.Proofs.Yteolfpdkpihnlaa

/-
  The walk of the statement on Get, where the example holds. Conditions: none but that the symbols lie in memory.
-/
set_option linter.unusedSimpArgs false
set_option linter.unusedVariables false
namespace Go.Proofs.Yteolfpdkpihnlaa
open Go.RowKit

theorem getE_is (S : Sy) (s : List UInt8) :
    (getE S s).1 = 0 ∧ (getE S s).2.2.sz < 20000 ∨ (getE S s).1 ≠ 0 ∧ (getE S s).2.1 = 0 ∧ (getE S s).2.2 = .nil := by
  unfold getE
  split
  · split
    · exact Or.inr ⟨by decide, rfl, rfl⟩
    · split
      · split
        · rename_i h
          exact Or.inl ⟨rfl, (treeOk_split h).1⟩
        · exact Or.inr ⟨by decide, rfl, rfl⟩
      · exact Or.inr ⟨by decide, rfl, rfl⟩
  · exact Or.inr ⟨by decide, rfl, rfl⟩

set_option maxRecDepth 100000 in
set_option maxHeartbeats 1600000 in
theorem law_eget (hal : AliveE) (S : Sy) (s : ByteArray) (w : World) (sp : Option Addr) (sn sc : Nat) (hsy : IsS w S sp sn sc) :
    Calls Try.prog 11 #[.slice sp sn sc, .string s] w fun e w' => e = .returned (.bool true) ∧ Below w.heap.size w w' := by
  obtain ⟨⟨l⟩⟩ := s
  have hA := Lib.hid hal
  have HX := Lib.hid fun W (h1 : IsS W S sp sn sc) => eget_any S l W sp sn sc h1
  have HY := Lib.hid fun W (h1 : IsS W S sp sn sc) => erefget_any S l W sp sn sc h1
  have hE := getE_is S l
  generalize getE S l = f at *
  obtain ⟨x, m, t⟩ := f
  have HZ := Lib.hid fun W q q' c c' h1 h2 => eis_any x m t hE W q q' c c' h1 h2
  have HS := Lib.hid hsy
  clear hal hsy hE
  go_enter Try.func11, Try.ntmps11
  go_wp2_with fail
  refine (HX.out _ HS.out).mono ?_
  rintro e w1 ⟨q, c, rfl, hO1, hb1⟩
  have HB1 := Lib.hid (hb1.alloc hb1.size (.cells #[.int .i64 m, .slice q t.len c] 25))
  have HS1 := Lib.hid ((HS.out.below hb1).alloc (.cells #[.int .i64 m, .slice q t.len c] 25))
  have hI1 := hO1.isY.alloc (.cells #[.int .i64 m, .slice q t.len c] 25)
  have hx1 := heap_new w1 (.cells #[.int .i64 m, .slice q t.len c] 25)
  have HI1 := Lib.hid hI1
  have HX1 := Lib.hid hx1
  clear hb1 hO1 hI1 hx1
  go_wp2_with fail
  refine (HY.out _ HS1.out).mono ?_
  rintro e w2 ⟨q', c', rfl, hO2, hb2⟩
  have HB2 := Lib.hid ((HB1.out.trans (hb2.mono HB1.out.size)).alloc (HB1.out.trans (hb2.mono HB1.out.size)).size (.cells #[.int .i64 m, .slice q' t.len c'] 25))
  have HI2 := Lib.hid (hO2.isY.alloc (.cells #[.int .i64 m, .slice q' t.len c'] 25))
  have HI3 := Lib.hid ((HI1.out.below hb2).alloc (.cells #[.int .i64 m, .slice q' t.len c'] 25))
  have hx2 := box2_cells (heap_new w2 (.cells #[.int .i64 m, .slice q' t.len c'] 25))
  have hx3 := box2_cells (alloc_kept (box2_later hb2 HX1.out) (.cells #[.int .i64 m, .slice q' t.len c'] 25))
  obtain ⟨u1, u2⟩ := hx2
  obtain ⟨u3, u4⟩ := hx3
  clear hb2 hO2 HI1 HX1
  go_wp2_with fail
  refine (HZ.out _ q q' c c' HI3.out HI2.out).mono ?_
  rintro e w3 ⟨rfl, hb3⟩
  have HB3 := Lib.hid (HB2.out.trans (hb3.mono HB2.out.size))
  clear hb3 HI2 HI3 u1 u2 u3 u4
  go_wp2_with fail
  refine (hA.out _).mono ?_
  rintro e w4 ⟨rfl, hb4⟩
  go_wp2_with fail
  go_ret
  exact ⟨rfl, HB3.out.trans (hb4.mono HB3.out.size)⟩

end Go.Proofs.Yteolfpdkpihnlaa

set_option linter.unusedSimpArgs false
set_option linter.unusedVariables false
namespace Go.Proofs.Yteolfpdkpihnlaa
open Go.ChangeShapes Go.WideShapes Go.ChangeAt Go.RowKit
open Go.ChangeMaps (open_string shut_string)

set_option maxRecDepth 100000 in
theorem treeGet_lifted (os : Os) (started : os.Started) (H : Type) (enc : TypeId × Value → H) :
    ReturnsInHanded {} Try.checked os 11 .any (Rows.treeGetSpec.pre6 enc Try.prog Try.f11 Rows.treeGetRow.domain false) (Rows.treeGetSpec.post enc Try.prog Try.f11 false true false false) := by
  refine returnsInHanded_of_change (C := Try.checked) PE.own started (by kernel_rfl) Try.func11
    (ChangeSpec.witness6 (enc := enc) (C := Try.checked) false ⟨#[], #[.slice none 0 0, .string ⟨#[]⟩], []⟩ 8 (by kernel_rfl) (by kernel_rfl) (by kernel_rfl) (by kernel_rfl)) ?_
  intro W base args ds gs before hval0 hW hcnd _
  have hval : ∀ (j : Nat) t v, Try.f11.params[j]? = some t → args[j]? = some v → Value.okWide Try.prog W .any base t v := hval0
  have hW' := hW
  obtain ⟨p, q, hA0, hV, rfl, hfz, hnd⟩ := hW
  have hA : DataW.TrodAll enc Try.prog W 0 (fun _ => true) true Try.f11.params.toList args.toList ds p := hA0
  rw [Try.params11] at hA hval
  obtain ⟨v0, v1, d0, d1, p0, p1, rfl, rfl, rfl, h0, h1⟩ := trodAll_two hA
  obtain ⟨rfl, rfl⟩ := trodVars_none hV
  have k0 := h0
  obtain ⟨a0, n0, c0, t0, rfl, i0⟩ := open_syms (hval 0 44 v0 rfl rfl) h0
  obtain ⟨s1, rfl, rfl, rfl, w1⟩ := open_string Try.underlying9 (hval 1 9 v1 rfl rfl) h1
  clear hA0 hval0
  simp only [List.append_nil] at hW'
  refine (law_eget alive_any t0 s1 W a0 n0 c0 i0).mono fun e W' ⟨he, hb⟩ => ?_
  subst he
  have hlt := fun x hx => hW'.lt x hx
  exact ⟨_, rfl, post_below (pv := []) hW' (fun _ _ _ => trodAll_mk1 (shut_bool Try.underlying4 true))
    (fun sp hsp => trodAll_mk2 (WideElems.Trod_stays PE.laidOut PE.readSyL (of_decide_eq_true (by kernel_rfl)) k0 (fun x hx => hb.same (hlt x (by simp [hx]))) (fun x hx => hsp x (by simp [hx]))) (shut_string Try.underlying9 w1))
    (fun _ _ => rfl) (by simp) hb (ok_one (by kernel_rfl) rfl (okWide_bool_mk Try.underlying4 true))⟩

theorem treeGet_holds : Rows.TreeGetSaid :=
  OpenClaim.holds_of_wide 11 Try.f11 rfl rfl rfl rfl rfl rfl rfl ⟨rfl, rfl, rfl, rfl, rfl⟩ rfl rfl rfl rfl rfl (by kernel_rfl) Try.func11 (by kernel_rfl)
    (of_decide_eq_true (by kernel_rfl)) (by unfold Func.isWrapper; rw [if_neg (of_decide_eq_false (by kernel_rfl))]; exact ⟨rfl, rfl⟩)
    (fun os started H enc _ => treeGet_lifted os started H enc)

end Go.Proofs.Yteolfpdkpihnlaa

