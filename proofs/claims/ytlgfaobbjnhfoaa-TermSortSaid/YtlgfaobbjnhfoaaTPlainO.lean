/-
  Plain mathematics of the sort of a term: the reference's recursion says the same as the program's one pass over all terms in it. Conditions: the place is a valid one.
-/
import Derived.Test.YtlgfaobbjnhfoaaTWalkP
set_option linter.unusedSimpArgs false
set_option linter.unusedVariables false
namespace Go.Proofs.Ytlgfaobbjnhfoaa
open Go.RowKit

/-- do the arguments have sorts, those that stand in H from place i on? -/
def ofA (x : Pl) : X → T → Nat → Bool
  | .nil, _, _ => true
  | .cons k n a r, H, i => (((rsT x k n a.len).2 && ofA x a (hdT x k n).1 0) && T.eqT (rsT x k n a.len).1 (H.get i)) && ofA x r H (i + 1)

theorem ofA_drop (x : Pl) (H : T) (a : X) (j : Nat) (h : j < a.len) :
    ofA x (a.drop j) H j = ((((rsT x (a.gk j) (a.gn j) (a.ga j).len).2 && ofA x (a.ga j) (hdT x (a.gk j) (a.gn j)).1 0) && T.eqT (rsT x (a.gk j) (a.gn j) (a.ga j).len).1 (H.get j)) && ofA x (a.drop (j + 1)) H (j + 1)) := by
  rw [X.drop_cons a j h]; rfl

/-- the sort of a term, and whether it has one -/
def ofR (x : Pl) (k n : Int) (a : X) : T × Bool := if ((rsT x k n a.len).2 && ofA x a (hdT x k n).1 0) = true then ((rsT x k n a.len).1, true) else (.nil, false)

theorem T.get_end (t : T) : ∀ i, t.len ≤ i → t.get i = .nil := by
  induction t with
  | nil => intro i _; cases i <;> rfl
  | cons h t ihh iht =>
    intro i hi
    cases i with
    | zero => simp only [T.len] at hi; omega
    | succ i => exact iht i (by simp only [T.len] at hi; omega)

theorem T.get_nodes (t : T) (i : Nat) (h : t.nodes ≤ 60) : (t.get i).nodes ≤ 60 := by
  by_cases hi : i < t.len
  · have := t.nodes_get i hi; omega
  · rw [T.get_end t i (by omega)]; simp [T.nodes]

theorem T.drop_valid (t : T) (k : Nat) (h : t.valid = true) : (t.drop k).valid = true := by
  simp only [T.valid, T.few, Bool.and_eq_true, decide_eq_true_eq] at h ⊢
  obtain ⟨⟨h1, h2⟩, h3, h4⟩ := h
  have := t.nodes_drop_le k
  have := t.ord_drop_le k
  have := t.len_drop k
  exact ⟨⟨by omega, by omega⟩, by omega, t.kids_drop_of k h4⟩

theorem repT_valid (r : Nat) (h : r ≤ 4) : (repT r).valid = true := by
  match r, h with
  | 0, _ => rfl
  | 1, _ => rfl
  | 2, _ => rfl
  | 3, _ => rfl
  | 4, _ => rfl

theorem hdT_valid {x : Pl} (hp : plOk x = true) (k n : Int) : (hdT x k n).1.valid = true := by
  have hS := plOk_syms hp
  simp only [plOk, validL, Bool.and_eq_true] at hp
  obtain ⟨⟨_, _, hF⟩, _, hP⟩ := hp
  unfold hdT
  split
  · rfl
  · split
    · split
      · exact allV_at hP (by omega)
      · rfl
    · split
      · split
        · exact allV_at hF (by omega)
        · rfl
      · split
        · split
          · have := symsOk_rank hS (i := n.toNat) (by omega)
            exact repT_valid _ (by omega)
          · rfl
        · rfl

theorem rsT_valid {x : Pl} (hp : plOk x = true) (k n : Int) (m : Nat) : (rsT x k n m).1.valid = true := by
  unfold rsT
  split
  · exact T.drop_valid _ _ (hdT_valid hp k n)
  · rfl

theorem same_eqT {s t : T} (h1 : s.nodes ≤ 60) (h2 : t.nodes ≤ 60) : T.same s t = T.eqT s t := by simp [T.same, h1, h2]

theorem ofA_eq {x : Pl} (hp : plOk x = true) (a : X) : ∀ (H : T) (i : Nat), H.nodes ≤ 60 → ofA x a H i = (sargs x H a i && allB (suit x) a) := by
  induction a with
  | nil => intro H i _; rfl
  | cons k n a r iha ihr =>
    intro H i hH
    have e1 := iha (hdT x k n).1 0 (T.valid_nodes _ (hdT_valid hp k n))
    have e2 := ihr H (i + 1) hH
    have e3 : T.same (rsT x k n a.len).1 (H.get i) = T.eqT (rsT x k n a.len).1 (H.get i) := same_eqT (T.valid_nodes _ (rsT_valid hp k n _)) (T.get_nodes H i hH)
    simp only [ofA, sargs, allB, e1, e2, e3, suit]
    cases (rsT x k n a.len).2 <;> cases sargs x (hdT x k n).1 a 0 <;> cases allB (suit x) a <;> cases T.eqT (rsT x k n a.len).1 (H.get i) <;> cases sargs x H r (i + 1) <;> cases allB (suit x) r <;> rfl

/-- what Sort returns, by the reference's words -/
theorem sortRes_of (x : Pl) (k n : Int) (a : X) : sortRes x k n a = if plOk x = true then if a.sz < 100000 then if (ofR x k n a).2 = true then (0, (ofR x k n a).1) else (6, .nil) else (3, .nil) else (2, .nil) := by
  unfold sortRes
  by_cases hp : plOk x = true
  · rw [if_pos hp, if_pos hp]
    by_cases hs : a.sz < 100000
    · rw [if_pos hs, if_pos hs]
      have e1 := ofA_eq hp a (hdT x k n).1 0 (T.valid_nodes _ (hdT_valid hp k n))
      have e2 : ((rsT x k n a.len).2 && ofA x a (hdT x k n).1 0) = (suit x k n a && allB (suit x) a) := by rw [e1]; unfold suit; rw [Bool.and_assoc]
      have hv := rsT_valid hp k n a.len
      unfold ofR
      rw [e2]
      by_cases h : (suit x k n a && allB (suit x) a) = true
      · rw [if_pos h, if_pos h, if_pos rfl]
        have e3 : (rsT x k n a.len).1.bE 0 = 0 := by unfold T.bE; rw [if_pos hv, if_pos ⟨Int.le_refl _, by omega⟩]
        have e4 : (rsT x k n a.len).1.bT 0 = (rsT x k n a.len).1 := by unfold T.bT; rw [if_pos ⟨hv, Int.le_refl _, by omega⟩]; exact T.drop_zero _
        rw [e3, e4]
      · rw [if_neg h, if_neg h, if_neg (by simp)]
    · rw [if_neg hs, if_neg hs]
  · rw [if_neg hp, if_neg hp]

theorem sortRes_valid {x : Pl} {k n : Int} {a : X} {E : Int} {S : T} (h : sortRes x k n a = (E, S)) : S.valid = true := by
  rw [sortRes_of] at h
  split at h
  · rename_i hp
    split at h
    · split at h
      · have e := (Prod.mk.inj h).2
        rw [← e]
        unfold ofR
        split
        · exact rsT_valid hp _ _ _
        · rfl
      · rw [← (Prod.mk.inj h).2]; rfl
    · rw [← (Prod.mk.inj h).2]; rfl
  · rw [← (Prod.mk.inj h).2]; rfl

end Go.Proofs.Ytlgfaobbjnhfoaa
