/-
  Parts of one proof, laid into one text: WalkA, WalkB, WalkC, WalkD, EWalkA, EWalkC, EWalkB, TWalkA, TWalkB. Conditions: each part names its own.
-/
import Derived.Test.YteolfpdkpihnlaaRows
import Derived.Test.YteolfpdkpihnlaaMg02
import Derived.WalkSpells
import Derived.WalkLawsBesides
import Derived.Lib.Hide
import Derived.Deep.DeepFit
import Derived.StillTailTactics
import Derived.Deep.RegionWith
import Derived.BigQuiet
import Derived.Deep.QuietTactic
import Derived.Deep.LoopGhost
import Derived.Deep.DeepCutAuto

/-
  The walks of the functions that only count: the depth and the order of a sort. Conditions: at most 60 nodes.
-/
namespace Go.Proofs.Yteolfpdkpihnlaa
open Go.RowKit

end Go.Proofs.Yteolfpdkpihnlaa

/-
  The walks of Nodes, few and all. Conditions: none but that the sort lies in memory.
-/
namespace Go.Proofs.Yteolfpdkpihnlaa
open Go.RowKit

end Go.Proofs.Yteolfpdkpihnlaa

/-
  The walks of equality. Conditions: none but that the sorts lie in memory.
-/
namespace Go.Proofs.Yteolfpdkpihnlaa
open Go.RowKit

end Go.Proofs.Yteolfpdkpihnlaa

/-
  The walks of Size, Check and what is built on them. Conditions: none but that the sort lies in memory.
-/
namespace Go.Proofs.Yteolfpdkpihnlaa
open Go.RowKit

/-- what Same returns -/
def T.same (s t : T) : Bool := decide (s.nodes ≤ 60) && (decide (t.nodes ≤ 60) && T.eqT s t)

/-- what Order returns -/
def T.oN (t : T) : Nat := if t.valid then t.ord else 0
def T.oE (t : T) : Int := if t.valid then 0 else 6

theorem T.valid_nodes (t : T) (h : t.valid = true) : t.nodes ≤ 60 := by
  simp only [T.valid, Bool.and_eq_true, decide_eq_true_eq] at h; exact h.1.1

end Go.Proofs.Yteolfpdkpihnlaa

/-
  The walks of the functions that only look at trees: the depth and the nodes, equality, and whether a tree is at least another one. Conditions: none but that the trees lie in memory.
-/
set_option linter.unusedSimpArgs false
set_option linter.unusedVariables false
namespace Go.Proofs.Yteolfpdkpihnlaa
open Go.RowKit

theorem over_len {R : List Int} {n : Int} {a b : Y} (h : over1 R n a = true) (k : over1 R n b = true) : a.len = b.len := by
  simp only [over1, suitE, Bool.and_eq_true, Bool.or_eq_true, decide_eq_true_eq] at h k
  rcases h.1 with h1 | h1 <;> rcases k.1 with k1 | k1 <;> omega

set_option maxHeartbeats 400000 in
theorem edepth_any (N : Nat) : ∀ (a : Y) (n : Int) (w : World) (p : Option Addr) (l cap : Nat), a.sz < N → a.sz < 100000 → IsY w a p l cap →
    Calls Try.prog 49 #[.agg #[.int .i64 n, .slice p l cap]] w fun e w' => e = .returned (.int .i64 ((a.dep + 1 : Nat) : Int)) ∧ Below w.heap.size w w' := by
  induction N with
  | zero => intro a n w p l cap hN; omega
  | succ N ih =>
    intro a n w p l cap hN h60 his
    have hlen := a.len_le_sz
    have hdep := a.dep_le_sz
    obtain ⟨hn, hcap, hmax, hnil, hrow⟩ := his
    subst hn
    have hn60 : a.len < 100000 := by omega
    have IH := Lib.hid ih
    clear ih
    go_enter Try.func49, Try.ntmps49
    go_wp2_with fail
    go_loopw [3, 9] (fun v i wr => ∃ j m : Nat, j ≤ a.len ∧ i = .int .i64 (j : Int) ∧ v = .int .i64 (m : Int) ∧ m < 100000 ∧ max m (a.drop j).dep = a.dep ∧ Below w.heap.size w wr)
      (fun _ i _ => a.len - (intOf i).toNat)
    case atStart => exact ⟨0, 0, Nat.zero_le _, rfl, rfl, by omega, by rw [Y.drop_zero]; omega, (Below.refl _ _).alloc (Nat.le_refl _) _⟩
    case round =>
      obtain ⟨j, m, hj, rfl, rfl, hm, hmo, hb⟩ := hrel
      have HM := Lib.hid hmo
      clear hmo
      by_cases hlt : j < a.len
      · rcases hrow with h0 | ⟨b, off, rfl, hr⟩
        · omega
        obtain ⟨hcn, p', n', cap', hc, hi⟩ := base2_at (Keeps2.below hb (Nat.le_refl _)) hr hlt
        have hg := a.sz_ga j hlt
        have ho := (a.ga j).dep_le_sz
        go_wp2_with fail
        refine (IH.out (a.ga j) _ _ p' n' cap' (by omega) (by omega) (hi.alloc _)).mono ?_
        rintro e w' ⟨rfl, hb1⟩
        go_wp2_with fail
        go_roundw
        case rel => exact ⟨j + 1, max m (1 + (a.ga j).dep), by omega, by go_num, val_int (int_max _ _), by omega, by have h1 := HM.out; rw [Y.dep_drop a j hlt] at h1; omega, base_next hb hb1⟩
        case measure => simp [intOf]; omega
      · go_wp2_with fail
        go_ret
        have h1 := HM.out
        rw [Y.drop_end a j (by omega)] at h1
        simp only [Y.dep] at h1
        exact ⟨ret_int (by omega), hb⟩

set_option maxHeartbeats 400000 in
theorem enodes_any (N : Nat) : ∀ (a : Y) (n : Int) (w : World) (p : Option Addr) (l cap : Nat) (m : Int), a.sz < N → 0 ≤ m → m ≤ 20000 → IsY w a p l cap →
    Calls Try.prog 48 #[.agg #[.int .i64 n, .slice p l cap], .int .i64 m] w fun e w' => e = .returned (.int .i64 ((min (1 + a.sz) (m.toNat + 1) : Nat) : Int)) ∧ Below w.heap.size w w' := by
  induction N with
  | zero => intro a n w p l cap m hN; omega
  | succ N ih =>
    intro a n w p l cap m hN hm0 hm60 his
    have hlen := a.len_le_sz
    obtain ⟨hn, hcap, hmax, hnil, hrow⟩ := his
    subst hn
    unfold maxLen at hmax
    have IH := Lib.hid ih
    clear ih
    go_enter Try.func48, Try.ntmps48
    go_wp2_with fail
    go_loopw [5, 6] (fun v i wr => ∃ j c : Nat, j ≤ a.len ∧ i = .int .i64 (j : Int) ∧ v = .int .i64 (c : Int) ∧ 1 ≤ c ∧ (c : Int) ≤ m + 1 ∧ min (c + (a.drop j).sz) (m.toNat + 1) = min (1 + a.sz) (m.toNat + 1) ∧ wr.cell? ⟨w.heap.size, 1, none⟩ = some (.slice p a.len cap) ∧ Below w.heap.size w wr)
      (fun _ i _ => a.len - (intOf i).toNat)
    case atStart => exact ⟨0, 1, Nat.zero_le _, rfl, rfl, by omega, by omega, by rw [Y.drop_zero], by simp, (Below.refl _ _).alloc (Nat.le_refl _) _⟩
    case round =>
      obtain ⟨j, c, hj, rfl, rfl, hc1, hcm, hmo, hbox, hb⟩ := hrel
      have HM := Lib.hid hmo
      clear hmo
      by_cases hlt : j < a.len
      · rcases hrow with h0 | ⟨b, off, rfl, hr⟩
        · omega
        obtain ⟨hcn, p', n', cap', hc, hi⟩ := base2_at (Keeps2.below hb (Nat.le_refl _)) hr hlt
        have hg := a.sz_ga j hlt
        by_cases hcle : (c : Int) ≤ m
        · go_wp2_with fail
          refine (IH.out (a.ga j) _ _ p' n' cap' (m - c) (by omega) (by omega) (by omega) hi).mono ?_
          rintro e w' ⟨rfl, hb1⟩
          go_wp2_with fail
          have hd := a.sz_drop j hlt
          go_roundw
          case rel => exact ⟨j + 1, c + min (1 + (a.ga j).sz) (m.toNat - c + 1), by omega, by go_num, val_int (by omega), by omega, by omega, by have h1 := HM.out; omega, by rw [(bcell hb1).1 _ _ (lt_of_cell hbox)]; exact hbox, hb.trans (hb1.mono hb.size)⟩
          case measure => simp [intOf]; omega
        · go_wp2_with fail
          go_ret
          have h1 := HM.out
          exact ⟨ret_int (by omega), hb⟩
      · go_wp2_with fail
        go_ret
        have h1 := HM.out
        rw [Y.drop_end a j (by omega)] at h1
        simp only [Y.sz] at h1
        exact ⟨ret_int (by omega), hb⟩

/-- slices.EqualFunc of virgation/tree.equal, where that is so for the trees in the slices -/
theorem eqfunc_equal (N : Nat)
    (ih : ∀ (s t : Y) (n n' : Int) (w : World) (p q : Option Addr) (l cap m cap' : Nat), s.sz < N → IsY w s p l cap → IsY w t q m cap' →
      Calls Try.prog 55 #[.agg #[.int .i64 n, .slice p l cap], .agg #[.int .i64 n', .slice q m cap']] w fun e w' => e = .returned (.bool (Y.eq1 n s n' t)) ∧ Below w.heap.size w w')
    (s t : Y) (w : World) (p q : Option Addr) (l cap m cap' : Nat) (hN : s.sz ≤ N) (his : IsY w s p l cap) (hit : IsY w t q m cap') :
    Calls Try.prog 83 #[.slice p l cap, .slice q m cap', .func (Fn.func 55) #[] #[]] w fun e w' => e = .returned (.bool (Y.eqY s t)) ∧ Below w.heap.size w w' := by
  obtain ⟨hn, hcap, hmax, hnil, hrow⟩ := his
  obtain ⟨hn', hcap', hmax', hnil', hrow'⟩ := hit
  subst hn hn'
  unfold maxLen at hmax hmax'
  have IH := Lib.hid ih
  clear ih
  by_cases hl : s.len = t.len
  case neg =>
    have hd : ((s.len : Int) != (t.len : Int)) = true := by rw [bne_iff_ne]; omega
    go_enter Try.func83, Try.ntmps83
    go_wp2_with fail
    go_ret
    exact ⟨ret_bool (Y.both_eq.len s t hl).symm, Below.refl _ _⟩
  case pos =>
    have hd : ((s.len : Int) != (t.len : Int)) = false := by simp [hl]
    have hle : t.len ≤ s.len := by omega
    have hle' : s.len ≤ t.len := by omega
    clear hl
    go_enter Try.func83, Try.ntmps83
    go_wp2_with fail
    go_loopw [17] (fun i wr => ∃ j : Nat, j ≤ s.len ∧ i = .int .i64 (j : Int) ∧ Y.eqY (s.drop j) (t.drop j) = Y.eqY s t ∧ Below w.heap.size w wr)
      (fun i _ => s.len - (intOf i).toNat)
    case atStart => exact ⟨0, Nat.zero_le _, rfl, by rw [Y.drop_zero, Y.drop_zero], Below.refl _ _⟩
    case round =>
      obtain ⟨j, hj, rfl, hmo, hb⟩ := hrel
      have HM := Lib.hid hmo
      clear hmo
      by_cases hlt : j < s.len
      · rcases hrow with h0 | ⟨b, off, rfl, hr⟩
        · omega
        rcases hrow' with h0 | ⟨b', off', rfl, hr'⟩
        · omega
        have hlt2 : j < t.len := by omega
        obtain ⟨hcn1, p1, n1, cap1, hc1, hi1⟩ := base2_at (Keeps2.below hb (Nat.le_refl _)) hr hlt
        obtain ⟨hcn2, p2, n2, cap2, hc2, hi2⟩ := base2_at (Keeps2.below hb (Nat.le_refl _)) hr' hlt2
        have hg := s.sz_ga j hlt
        have A2 := fun x => (keep_alloc wr x _ _ (lt_of_cell hcn2)).trans hcn2
        have A3 := fun x => (keep_alloc wr x _ _ (lt_of_cell hc2)).trans hc2
        go_wp2_with fail
        refine (IH.out (s.ga j) (t.ga j) _ _ _ p1 p2 n1 cap1 n2 cap2 (by omega) ((hi1.alloc _).alloc _) ((hi2.alloc _).alloc _)).mono ?_
        rintro e w' ⟨rfl, hb1⟩
        have hb2 : Below w.heap.size w w' := (hb.trans (((Below.refl _ _).alloc hb.size _).alloc (by have := hb.size; simp; omega) _)).trans (hb1.mono (by have := hb.size; simp; omega))
        go_wp2_with fail
        · go_ret
          exact ⟨ret_bool (Y.both_eq.not s t j hlt hlt2 HM.out (by assumption)).symm, hb2⟩
        · go_roundw
          case rel => exact ⟨j + 1, by omega, by go_num, Y.both_eq.step s t j hlt hlt2 HM.out (by assumption), hb2⟩
          case measure => simp [intOf]; omega
      · go_wp2_with fail
        go_ret
        exact ⟨ret_bool (Y.both_eq.fin s t j hlt (by omega) HM.out).symm, hb⟩

set_option maxHeartbeats 400000 in
theorem eequal_any (N : Nat) : ∀ (s t : Y) (n n' : Int) (w : World) (p q : Option Addr) (l cap m cap' : Nat), s.sz < N → IsY w s p l cap → IsY w t q m cap' →
      Calls Try.prog 55 #[.agg #[.int .i64 n, .slice p l cap], .agg #[.int .i64 n', .slice q m cap']] w fun e w' => e = .returned (.bool (Y.eq1 n s n' t)) ∧ Below w.heap.size w w' := by
  induction N with
  | zero => intro s t n n' w p q l cap m cap' hN; omega
  | succ N ih =>
    intro s t n n' w p q l cap m cap' hN his hit
    have E := Lib.hid (eqfunc_equal N ih s t)
    clear ih
    have b0 : ∀ x y, Below w.heap.size w ((w.alloc x).alloc y) := fun x y => ((Below.refl _ _).alloc (Nat.le_refl _) _).alloc (by simp) _
    by_cases hn : n = n'
    · have hd2 : (n == n') = true := by simp [hn]
      have he : Y.eq1 n s n' t = Y.eqY s t := by simp [Y.eq1, hn]
      rw [he]
      clear he hn
      go_enter Try.func55, Try.ntmps55
      go_wp2_with fail
      refine (E.out _ p q l cap m cap' (by omega) ((his.alloc _).alloc _) ((hit.alloc _).alloc _)).mono ?_
      rintro e w' ⟨rfl, hb1⟩
      go_wp2_with fail
      go_ret
      exact ⟨rfl, (b0 _ _).trans (hb1.mono (by simp; omega))⟩
    · have hd2 : (n == n') = false := by simp [hn]
      have he : Y.eq1 n s n' t = false := by simp [Y.eq1, hn]
      rw [he]
      clear he hn
      go_enter Try.func55, Try.ntmps55
      go_wp2_with fail
      go_ret
      exact ⟨rfl, b0 _ _⟩

/-- slices.EqualFunc of virgation/tree.atLeast, where that is so for the trees in the slices -/
theorem eqfunc_atLeast (N : Nat)
    (ih : ∀ (s t : Y) (n n' : Int) (w : World) (p q : Option Addr) (l cap m cap' : Nat), s.sz < N → IsY w s p l cap → IsY w t q m cap' →
      Calls Try.prog 56 #[.agg #[.int .i64 n, .slice p l cap], .agg #[.int .i64 n', .slice q m cap']] w fun e w' => e = .returned (.bool (Y.le1 n s n' t)) ∧ Below w.heap.size w w')
    (s t : Y) (w : World) (p q : Option Addr) (l cap m cap' : Nat) (hN : s.sz ≤ N) (his : IsY w s p l cap) (hit : IsY w t q m cap') :
    Calls Try.prog 83 #[.slice p l cap, .slice q m cap', .func (Fn.func 56) #[] #[]] w fun e w' => e = .returned (.bool (Y.leY s t)) ∧ Below w.heap.size w w' := by
  obtain ⟨hn, hcap, hmax, hnil, hrow⟩ := his
  obtain ⟨hn', hcap', hmax', hnil', hrow'⟩ := hit
  subst hn hn'
  unfold maxLen at hmax hmax'
  have IH := Lib.hid ih
  clear ih
  by_cases hl : s.len = t.len
  case neg =>
    have hd : ((s.len : Int) != (t.len : Int)) = true := by rw [bne_iff_ne]; omega
    go_enter Try.func83, Try.ntmps83
    go_wp2_with fail
    go_ret
    exact ⟨ret_bool (Y.both_le.len s t hl).symm, Below.refl _ _⟩
  case pos =>
    have hd : ((s.len : Int) != (t.len : Int)) = false := by simp [hl]
    have hle : t.len ≤ s.len := by omega
    have hle' : s.len ≤ t.len := by omega
    clear hl
    go_enter Try.func83, Try.ntmps83
    go_wp2_with fail
    go_loopw [17] (fun i wr => ∃ j : Nat, j ≤ s.len ∧ i = .int .i64 (j : Int) ∧ Y.leY (s.drop j) (t.drop j) = Y.leY s t ∧ Below w.heap.size w wr)
      (fun i _ => s.len - (intOf i).toNat)
    case atStart => exact ⟨0, Nat.zero_le _, rfl, by rw [Y.drop_zero, Y.drop_zero], Below.refl _ _⟩
    case round =>
      obtain ⟨j, hj, rfl, hmo, hb⟩ := hrel
      have HM := Lib.hid hmo
      clear hmo
      by_cases hlt : j < s.len
      · rcases hrow with h0 | ⟨b, off, rfl, hr⟩
        · omega
        rcases hrow' with h0 | ⟨b', off', rfl, hr'⟩
        · omega
        have hlt2 : j < t.len := by omega
        obtain ⟨hcn1, p1, n1, cap1, hc1, hi1⟩ := base2_at (Keeps2.below hb (Nat.le_refl _)) hr hlt
        obtain ⟨hcn2, p2, n2, cap2, hc2, hi2⟩ := base2_at (Keeps2.below hb (Nat.le_refl _)) hr' hlt2
        have hg := s.sz_ga j hlt
        have A2 := fun x => (keep_alloc wr x _ _ (lt_of_cell hcn2)).trans hcn2
        have A3 := fun x => (keep_alloc wr x _ _ (lt_of_cell hc2)).trans hc2
        go_wp2_with fail
        refine (IH.out (s.ga j) (t.ga j) _ _ _ p1 p2 n1 cap1 n2 cap2 (by omega) ((hi1.alloc _).alloc _) ((hi2.alloc _).alloc _)).mono ?_
        rintro e w' ⟨rfl, hb1⟩
        have hb2 : Below w.heap.size w w' := (hb.trans (((Below.refl _ _).alloc hb.size _).alloc (by have := hb.size; simp; omega) _)).trans (hb1.mono (by have := hb.size; simp; omega))
        go_wp2_with fail
        · go_ret
          exact ⟨ret_bool (Y.both_le.not s t j hlt hlt2 HM.out (by assumption)).symm, hb2⟩
        · go_roundw
          case rel => exact ⟨j + 1, by omega, by go_num, Y.both_le.step s t j hlt hlt2 HM.out (by assumption), hb2⟩
          case measure => simp [intOf]; omega
      · go_wp2_with fail
        go_ret
        exact ⟨ret_bool (Y.both_le.fin s t j hlt (by omega) HM.out).symm, hb⟩

set_option maxHeartbeats 400000 in
theorem eleast_any (N : Nat) : ∀ (s t : Y) (n n' : Int) (w : World) (p q : Option Addr) (l cap m cap' : Nat), s.sz < N → IsY w s p l cap → IsY w t q m cap' →
      Calls Try.prog 56 #[.agg #[.int .i64 n, .slice p l cap], .agg #[.int .i64 n', .slice q m cap']] w fun e w' => e = .returned (.bool (Y.le1 n s n' t)) ∧ Below w.heap.size w w' := by
  induction N with
  | zero => intro s t n n' w p q l cap m cap' hN; omega
  | succ N ih =>
    intro s t n n' w p q l cap m cap' hN his hit
    have E := Lib.hid (eqfunc_atLeast N ih s t)
    clear ih
    have b0 : ∀ x y, Below w.heap.size w ((w.alloc x).alloc y) := fun x y => ((Below.refl _ _).alloc (Nat.le_refl _) _).alloc (by simp) _
    by_cases hu : n' = -1
    · have hd1 : (n' == -1) = true := by simp [hu]
      have he : Y.le1 n s n' t = true := by simp [Y.le1, hu]
      rw [he]
      clear he hu
      go_enter Try.func56, Try.ntmps56
      go_wp2_with fail
      go_ret
      exact ⟨rfl, b0 _ _⟩
    have hd1 : (n' == -1) = false := by simp [hu]
    by_cases hn : n = n'
    · have hd2 : (n == n') = true := by simp [hn]
      have he : Y.le1 n s n' t = Y.leY s t := by simp [Y.le1, hn, hu]
      rw [he]
      clear he hn hu
      go_enter Try.func56, Try.ntmps56
      go_wp2_with fail
      refine (E.out _ p q l cap m cap' (by omega) ((his.alloc _).alloc _) ((hit.alloc _).alloc _)).mono ?_
      rintro e w' ⟨rfl, hb1⟩
      go_wp2_with fail
      go_ret
      exact ⟨rfl, (b0 _ _).trans (hb1.mono (by simp; omega))⟩
    · have hd2 : (n == n') = false := by simp [hn]
      have he : Y.le1 n s n' t = false := by simp [Y.le1, hn, hu]
      rw [he]
      clear he hn hu
      go_enter Try.func56, Try.ntmps56
      go_wp2_with fail
      go_ret
      exact ⟨rfl, b0 _ _⟩

end Go.Proofs.Yteolfpdkpihnlaa

/-
  The walk of all, for whatever of the program's functions is handed to it. Conditions: none but that the tree lies in memory.
-/
set_option linter.unusedSimpArgs false
set_option linter.unusedVariables false
namespace Go.Proofs.Yteolfpdkpihnlaa
open Go.RowKit

/-- what a function that is handed to all must be: f is what it does, of a state s at a level; I says how the state lies in memory, L of which states it is asked, R what it may turn -/
structure FitsE {σ : Type} (run : Value → Value → World → (Ending → World → Prop) → Prop) (f : σ → Nat → Int → Y → σ × Bool) (L : σ → Nat → Prop) (I : σ → World → Prop) (R : World → World → Prop) : Prop where
  run : ∀ s lv n a w p l cap, L s lv → I s w → IsY w a p l cap →
    run (.agg #[.int .i64 n, .slice p l cap]) (.int .i64 (lv : Nat)) w fun e w' => e = .returned (.bool (f s lv n a).2) ∧ I (f s lv n a).1 w' ∧ R w w'
  live : ∀ s lv n a, L s lv → (f s lv n a).2 = true → L (f s lv n a).1 (lv + 1)
  down : ∀ s lv, L s (lv + 1) → L s lv
  small : ∀ s lv, L s lv → lv ≤ 1000000
  trans : ∀ a b c, R a b → R b c → R a c
  alloc : ∀ s w o, I s w → I s (w.alloc o) ∧ R w (w.alloc o)
  keeps : ∀ s w w', I s w → R w w' → Keeps2 w w'

set_option maxHeartbeats 1000000 in
theorem all_size1 {σ : Type} {c0 c1 : Nat} {f : σ → Nat → Int → Y → σ × Bool} {L : σ → Nat → Prop} {I : σ → World → Prop} {R : World → World → Prop}
    (hf : FitsE (fun v lv w Q => Calls Try.prog 47 #[v, lv, .pointer (some ⟨c0, 0, none⟩), .pointer (some ⟨c1, 0, none⟩)] w Q) f L I R) (N : Nat) :
    ∀ (a : Y) (s : σ) (lv : Nat) (lvi : Int) (n : Int) (w : World) (p : Option Addr) (l cap : Nat), lvi = (lv : Int) → a.sz < N → L s lv → I s w → IsY w a p l cap →
    Calls Try.prog 46 #[.agg #[.int .i64 n, .slice p l cap], .int .i64 lvi, .func (Fn.func 47) #[] #[.pointer (some ⟨c0, 0, none⟩), .pointer (some ⟨c1, 0, none⟩)]] w fun e w' =>
      e = .returned (.bool (Y.walk1 f s lv n a).2) ∧ I (Y.walk1 f s lv n a).1 w' ∧ R w w' := by
  induction N with
  | zero => intro a s lv lvi n w p l cap _ hN; omega
  | succ N ih =>
    rintro a s lv _ n w p l cap rfl hN hL hI his
    have hlen := a.len_le_sz
    have hlv := hf.small _ _ hL
    obtain ⟨hn, hcap, hmax, hnil, hrow⟩ := id his
    subst hn
    unfold maxLen at hmax
    have IH := Lib.hid ih
    clear ih
    have HI := Lib.hid hI
    clear hI
    obtain ⟨rs, rb, hres⟩ : ∃ rs rb, Y.walk1 f s lv n a = (rs, rb) := ⟨_, _, rfl⟩
    rw [hres]
    dsimp only
    have HR := Lib.hid hres
    clear hres
    go_enter Try.func46, Try.ntmps46
    go_wp2_with fail
    refine (hf.run s lv n a _ p a.len cap hL (hf.alloc s w _ HI.out).1 (his.alloc _)).mono ?_
    rintro e w1 ⟨rfl, hI1, hR1⟩
    have hbox1 : w1.cell? ⟨w.heap.size, 1, none⟩ = some (.slice p a.len cap) := hf.keeps s _ _ (hf.alloc s w _ HI.out).1 hR1 w.heap.size ⟨1, p, a.len, cap, by simp⟩ _ _ (by simp)
    have hR0 : R w w1 := hf.trans _ _ _ (hf.alloc s w _ HI.out).2 hR1
    clear hR1
    have HF := Lib.hid hf
    cases hb : (f s lv n a).2 with
    | false =>
      have e1 : Y.walk1 f s lv n a = ((f s lv n a).1, false) := by unfold Y.walk1; rw [hb]; rfl
      rw [HR.out] at e1
      obtain ⟨rfl, rfl⟩ := Prod.mk.inj e1
      clear hf
      go_wp2_with fail
      go_ret
      exact ⟨rfl, hI1, hR0⟩
    | true =>
      have e1 : Y.walk1 f s lv n a = Y.walk f (f s lv n a).1 (lv + 1) a := by unfold Y.walk1; rw [hb]; rfl
      rw [HR.out] at e1
      have hL1 : L (f s lv n a).1 (lv + 1) := hf.live s lv n a hL hb
      generalize (f s lv n a).1 = s1 at hI1 hL1 e1
      have HS := Lib.hid e1.symm
      clear e1 hb hL HR
      have HL1 := Lib.hid hL1
      have HI1 := Lib.hid hI1
      have HR0 := Lib.hid hR0
      clear hf hL1 hI1 hR0
      go_wp2_with fail
      clear hbox1
      go_loopw [17] (fun i wr => ∃ (j : Nat) (t : σ), j ≤ a.len ∧ i = .int .i64 (j : Int) ∧ L t (lv + 1) ∧ I t wr ∧ R w wr ∧ Y.walk f t (lv + 1) (a.drop j) = (rs, rb))
        (fun i _ => a.len - (intOf i).toNat)
      case atStart => exact ⟨0, s1, Nat.zero_le _, rfl, HL1.out, HI1.out, HR0.out, by rw [Y.drop_zero]; exact HS.out⟩
      case round =>
        clear HL1 HI1 HR0 HS
        obtain ⟨j, t, hj, rfl, hLt, hIt, hRt, hmo⟩ := hrel
        have HM := Lib.hid hmo
        have HLt := Lib.hid hLt
        have HIt := Lib.hid hIt
        have HRt := Lib.hid hRt
        clear hmo hLt hIt hRt
        by_cases hlt : j < a.len
        · rcases hrow with h0 | ⟨b, off, rfl, hr⟩
          · omega
          obtain ⟨hcn, p', n', cap', hc, hi⟩ := base2_at (HF.out.keeps s _ _ HI.out HRt.out) hr hlt
          have hg := a.sz_ga j hlt
          go_wp2_with fail
          refine (IH.out (a.ga j) t (lv + 1) _ _ _ p' n' cap' (by omega) (by omega) HLt.out (HF.out.alloc t wr _ HIt.out).1 (hi.alloc _)).mono ?_
          rintro e w' ⟨rfl, hI2, hR2⟩
          have hR3 : R w w' := HF.out.trans _ _ _ HRt.out (HF.out.trans _ _ _ (HF.out.alloc t wr _ HIt.out).2 hR2)
          have hw := Y.walk_drop f t (lv + 1) a j hlt
          have hlv := Y.walk1_live HF.out.live HF.out.down t (lv + 1) (a.gn j) (a.ga j) HLt.out
          rw [HM.out] at hw
          have HI2 := Lib.hid hI2
          have HR3 := Lib.hid hR3
          have HW := Lib.hid hw
          have HLV := Lib.hid hlv
          clear hI2 hR2 hR3 hw hlv
          cases hb2 : (Y.walk1 f t (lv + 1) (a.gn j) (a.ga j)).2 with
          | false =>
            go_wp2_with fail
            go_ret
            have hw := HW.out
            rw [hb2] at hw
            simp only [Bool.false_eq_true, if_false] at hw
            obtain ⟨rfl, rfl⟩ := Prod.mk.inj hw
            exact ⟨rfl, HI2.out, HR3.out⟩
          | true =>
            go_wp2_with fail
            go_roundw
            case rel =>
              have hw := HW.out
              rw [hb2] at hw
              simp only [if_true] at hw
              exact ⟨j + 1, _, by omega, by go_num, HLV.out hb2, HI2.out, HR3.out, hw.symm⟩
            case measure => simp [intOf]; omega
        · go_wp2_with fail
          go_ret
          have h1 := HM.out
          rw [Y.drop_end a j (by omega)] at h1
          simp only [Y.walk] at h1
          obtain ⟨rfl, rfl⟩ := Prod.mk.inj h1
          exact ⟨rfl, HIt.out, HRt.out⟩

set_option maxHeartbeats 1000000 in
theorem all_valid1 {σ : Type} {c0 c1 : Nat} {f : σ → Nat → Int → Y → σ × Bool} {L : σ → Nat → Prop} {I : σ → World → Prop} {R : World → World → Prop}
    (hf : FitsE (fun v lv w Q => Calls Try.prog 98 #[v, lv, .pointer (some ⟨c0, 0, none⟩), .pointer (some ⟨c1, 0, none⟩)] w Q) f L I R) (N : Nat) :
    ∀ (a : Y) (s : σ) (lv : Nat) (lvi : Int) (n : Int) (w : World) (p : Option Addr) (l cap : Nat), lvi = (lv : Int) → a.sz < N → L s lv → I s w → IsY w a p l cap →
    Calls Try.prog 46 #[.agg #[.int .i64 n, .slice p l cap], .int .i64 lvi, .func (Fn.func 98) #[] #[.pointer (some ⟨c0, 0, none⟩), .pointer (some ⟨c1, 0, none⟩)]] w fun e w' =>
      e = .returned (.bool (Y.walk1 f s lv n a).2) ∧ I (Y.walk1 f s lv n a).1 w' ∧ R w w' := by
  induction N with
  | zero => intro a s lv lvi n w p l cap _ hN; omega
  | succ N ih =>
    rintro a s lv _ n w p l cap rfl hN hL hI his
    have hlen := a.len_le_sz
    have hlv := hf.small _ _ hL
    obtain ⟨hn, hcap, hmax, hnil, hrow⟩ := id his
    subst hn
    unfold maxLen at hmax
    have IH := Lib.hid ih
    clear ih
    have HI := Lib.hid hI
    clear hI
    obtain ⟨rs, rb, hres⟩ : ∃ rs rb, Y.walk1 f s lv n a = (rs, rb) := ⟨_, _, rfl⟩
    rw [hres]
    dsimp only
    have HR := Lib.hid hres
    clear hres
    go_enter Try.func46, Try.ntmps46
    go_wp2_with fail
    refine (hf.run s lv n a _ p a.len cap hL (hf.alloc s w _ HI.out).1 (his.alloc _)).mono ?_
    rintro e w1 ⟨rfl, hI1, hR1⟩
    have hbox1 : w1.cell? ⟨w.heap.size, 1, none⟩ = some (.slice p a.len cap) := hf.keeps s _ _ (hf.alloc s w _ HI.out).1 hR1 w.heap.size ⟨1, p, a.len, cap, by simp⟩ _ _ (by simp)
    have hR0 : R w w1 := hf.trans _ _ _ (hf.alloc s w _ HI.out).2 hR1
    clear hR1
    have HF := Lib.hid hf
    cases hb : (f s lv n a).2 with
    | false =>
      have e1 : Y.walk1 f s lv n a = ((f s lv n a).1, false) := by unfold Y.walk1; rw [hb]; rfl
      rw [HR.out] at e1
      obtain ⟨rfl, rfl⟩ := Prod.mk.inj e1
      clear hf
      go_wp2_with fail
      go_ret
      exact ⟨rfl, hI1, hR0⟩
    | true =>
      have e1 : Y.walk1 f s lv n a = Y.walk f (f s lv n a).1 (lv + 1) a := by unfold Y.walk1; rw [hb]; rfl
      rw [HR.out] at e1
      have hL1 : L (f s lv n a).1 (lv + 1) := hf.live s lv n a hL hb
      generalize (f s lv n a).1 = s1 at hI1 hL1 e1
      have HS := Lib.hid e1.symm
      clear e1 hb hL HR
      have HL1 := Lib.hid hL1
      have HI1 := Lib.hid hI1
      have HR0 := Lib.hid hR0
      clear hf hL1 hI1 hR0
      go_wp2_with fail
      clear hbox1
      go_loopw [17] (fun i wr => ∃ (j : Nat) (t : σ), j ≤ a.len ∧ i = .int .i64 (j : Int) ∧ L t (lv + 1) ∧ I t wr ∧ R w wr ∧ Y.walk f t (lv + 1) (a.drop j) = (rs, rb))
        (fun i _ => a.len - (intOf i).toNat)
      case atStart => exact ⟨0, s1, Nat.zero_le _, rfl, HL1.out, HI1.out, HR0.out, by rw [Y.drop_zero]; exact HS.out⟩
      case round =>
        clear HL1 HI1 HR0 HS
        obtain ⟨j, t, hj, rfl, hLt, hIt, hRt, hmo⟩ := hrel
        have HM := Lib.hid hmo
        have HLt := Lib.hid hLt
        have HIt := Lib.hid hIt
        have HRt := Lib.hid hRt
        clear hmo hLt hIt hRt
        by_cases hlt : j < a.len
        · rcases hrow with h0 | ⟨b, off, rfl, hr⟩
          · omega
          obtain ⟨hcn, p', n', cap', hc, hi⟩ := base2_at (HF.out.keeps s _ _ HI.out HRt.out) hr hlt
          have hg := a.sz_ga j hlt
          go_wp2_with fail
          refine (IH.out (a.ga j) t (lv + 1) _ _ _ p' n' cap' (by omega) (by omega) HLt.out (HF.out.alloc t wr _ HIt.out).1 (hi.alloc _)).mono ?_
          rintro e w' ⟨rfl, hI2, hR2⟩
          have hR3 : R w w' := HF.out.trans _ _ _ HRt.out (HF.out.trans _ _ _ (HF.out.alloc t wr _ HIt.out).2 hR2)
          have hw := Y.walk_drop f t (lv + 1) a j hlt
          have hlv := Y.walk1_live HF.out.live HF.out.down t (lv + 1) (a.gn j) (a.ga j) HLt.out
          rw [HM.out] at hw
          have HI2 := Lib.hid hI2
          have HR3 := Lib.hid hR3
          have HW := Lib.hid hw
          have HLV := Lib.hid hlv
          clear hI2 hR2 hR3 hw hlv
          cases hb2 : (Y.walk1 f t (lv + 1) (a.gn j) (a.ga j)).2 with
          | false =>
            go_wp2_with fail
            go_ret
            have hw := HW.out
            rw [hb2] at hw
            simp only [Bool.false_eq_true, if_false] at hw
            obtain ⟨rfl, rfl⟩ := Prod.mk.inj hw
            exact ⟨rfl, HI2.out, HR3.out⟩
          | true =>
            go_wp2_with fail
            go_roundw
            case rel =>
              have hw := HW.out
              rw [hb2] at hw
              simp only [if_true] at hw
              exact ⟨j + 1, _, by omega, by go_num, HLV.out hb2, HI2.out, HR3.out, hw.symm⟩
            case measure => simp [intOf]; omega
        · go_wp2_with fail
          go_ret
          have h1 := HM.out
          rw [Y.drop_end a j (by omega)] at h1
          simp only [Y.walk] at h1
          obtain ⟨rfl, rfl⟩ := Prod.mk.inj h1
          exact ⟨rfl, HIt.out, HRt.out⟩

end Go.Proofs.Yteolfpdkpihnlaa

/-
  The walks of the reference's equality and order of trees. Conditions: none but that the trees lie in memory.
-/
set_option linter.unusedSimpArgs false
set_option linter.unusedVariables false
namespace Go.Proofs.Yteolfpdkpihnlaa
open Go.RowKit

set_option maxRecDepth 100000 in
set_option maxHeartbeats 800000 in
theorem erefequal_any (N : Nat) : ∀ (s t : Y) (n n' : Int) (w : World) (p q : Option Addr) (l cap m cap' : Nat), s.sz < N → IsY w s p l cap → IsY w t q m cap' →
      Calls Try.prog 45 #[.agg #[.int .i64 n, .slice p l cap], .agg #[.int .i64 n', .slice q m cap']] w fun e w' => e = .returned (.bool (Y.eq1 n s n' t)) ∧ Below w.heap.size w w' := by
  induction N with
  | zero => intro s t n n' w p q l cap m cap' hN; omega
  | succ N ih =>
    intro s t n n' w p q l cap m cap' hN his hit
    obtain ⟨hl0, hcap, hmax, hnil, hrow⟩ := his
    obtain ⟨hl0', hcap', hmax', hnil', hrow'⟩ := hit
    subst hl0 hl0'
    unfold maxLen at hmax hmax'
    have IH := Lib.hid ih
    clear ih
    have b0 : ∀ x y, Below w.heap.size w ((w.alloc x).alloc y) := fun x y => ((Below.refl _ _).alloc (Nat.le_refl _) _).alloc (by simp) _
    by_cases hn : n = n'
    · have hd2 : (n != n') = false := by simp [hn]
      have he : Y.eq1 n s n' t = Y.eqY s t := by simp [Y.eq1, hn]
      rw [he]
      clear he hn
      by_cases hl : s.len = t.len
      case neg =>
        have hd : ((s.len : Int) != (t.len : Int)) = true := by rw [bne_iff_ne]; omega
        go_enter Try.func45, Try.ntmps45
        go_wp2_with fail
        go_ret
        exact ⟨ret_bool (Y.both_eq.len s t hl).symm, b0 _ _⟩
      have hd : ((s.len : Int) != (t.len : Int)) = false := by simp [hl]
      have hle : t.len ≤ s.len := by omega
      have hle' : s.len ≤ t.len := by omega
      clear hl
      go_enter Try.func45, Try.ntmps45
      go_wp2_with fail
      clear hd2 hd
      go_loopw [23] (fun i wr => ∃ j : Nat, j ≤ s.len ∧ i = .int .i64 (j : Int) ∧ Y.eqY (s.drop j) (t.drop j) = Y.eqY s t ∧ wr.cell? ⟨w.heap.size, 1, none⟩ = some (.slice p s.len cap) ∧ wr.cell? ⟨w.heap.size + 1, 1, none⟩ = some (.slice q t.len cap') ∧ Below w.heap.size w wr)
        (fun i _ => s.len - (intOf i).toNat)
      case atStart => exact ⟨0, Nat.zero_le _, rfl, by rw [Y.drop_zero, Y.drop_zero], by simp, by simp, b0 _ _⟩
      case round =>
        obtain ⟨j, hj, rfl, hmo, hbox1, hbox2, hb⟩ := hrel
        have HM := Lib.hid hmo
        clear hmo
        by_cases hlt : j < s.len
        · rcases hrow with h0 | ⟨b, off, rfl, hr⟩
          · omega
          rcases hrow' with h0 | ⟨b', off', rfl, hr'⟩
          · omega
          have hlt2 : j < t.len := by omega
          obtain ⟨hcn1, p1, n1, cap1, hc1, hi1⟩ := base2_at (Keeps2.below hb (Nat.le_refl _)) hr hlt
          obtain ⟨hcn2, p2, n2, cap2, hc2, hi2⟩ := base2_at (Keeps2.below hb (Nat.le_refl _)) hr' hlt2
          have hg := s.sz_ga j hlt
          go_wp2_with fail
          go_still_tail 10, (by kernel_rfl)
          change wpList _ _ _ _ _ wr.drew
          go_wp2_with fail
          refine (IH.out (s.ga j) (t.ga j) _ _ _ p1 p2 n1 cap1 n2 cap2 (by omega) hi1.drew hi2.drew).mono ?_
          rintro e w' ⟨rfl, hb1⟩
          have hb2 : Below w.heap.size w w' := hb.drew.trans (hb1.mono hb.size)
          go_wp2_with fail
          · go_ret
            exact ⟨ret_bool (Y.both_eq.not s t j hlt hlt2 HM.out (by assumption)).symm, hb2⟩
          · go_roundw
            case rel => exact ⟨j + 1, by omega, by go_num, Y.both_eq.step s t j hlt hlt2 HM.out (by assumption), (hb1.cell (p := ⟨w.heap.size, 1, none⟩) (lt_of_cell (w := wr) hbox1)).trans hbox1, (hb1.cell (p := ⟨w.heap.size + 1, 1, none⟩) (lt_of_cell (w := wr) hbox2)).trans hbox2, hb2⟩
            case measure => simp [intOf]; omega
        · go_wp2_with fail
          go_ret
          exact ⟨ret_bool (Y.both_eq.fin s t j hlt (by omega) HM.out).symm, hb⟩
    · have hd2 : (n != n') = true := by simp [hn]
      have he : Y.eq1 n s n' t = false := by simp [Y.eq1, hn]
      rw [he]
      clear he hn
      go_enter Try.func45, Try.ntmps45
      go_wp2_with fail
      go_ret
      exact ⟨rfl, b0 _ _⟩

set_option maxRecDepth 100000 in
set_option maxHeartbeats 800000 in
theorem eabove_any (R : List Int) (N : Nat) : ∀ (s t : Y) (n n' : Int) (w : World) (p q : Option Addr) (l cap m cap' : Nat), over1 R n s = true → over1 R n' t = true → s.sz < N → IsY w s p l cap → IsY w t q m cap' →
      Calls Try.prog 57 #[.agg #[.int .i64 n, .slice p l cap], .agg #[.int .i64 n', .slice q m cap']] w fun e w' => e = .returned (.bool (Y.le1 n s n' t)) ∧ Below w.heap.size w w' := by
  induction N with
  | zero => intro s t n n' w p q l cap m cap' _ _ hN; omega
  | succ N ih =>
    intro s t n n' w p q l cap m cap' ho1 ho2 hN his hit
    obtain ⟨hl0, hcap, hmax, hnil, hrow⟩ := his
    obtain ⟨hl0', hcap', hmax', hnil', hrow'⟩ := hit
    subst hl0 hl0'
    unfold maxLen at hmax hmax'
    have IH := Lib.hid ih
    clear ih
    have b0 : ∀ x y, Below w.heap.size w ((w.alloc x).alloc y) := fun x y => ((Below.refl _ _).alloc (Nat.le_refl _) _).alloc (by simp) _
    by_cases hu : n' = -1
    · have hd1 : (n' == -1) = true := by simp [hu]
      have he : Y.le1 n s n' t = true := by simp [Y.le1, hu]
      rw [he]
      clear he hu ho1 ho2
      go_enter Try.func57, Try.ntmps57
      go_wp2_with fail
      go_ret
      exact ⟨rfl, b0 _ _⟩
    have hd1 : (n' == -1) = false := by simp [hu]
    by_cases hn : n = n'
    · have hd2 : (n != n') = false := by simp [hn]
      have he : Y.le1 n s n' t = Y.leY s t := by simp [Y.le1, hn, hu]
      rw [he]
      have hl : s.len = t.len := by subst hn; exact over_len ho1 ho2
      clear he hn hu
      have hle : t.len ≤ s.len := by omega
      have hle' : s.len ≤ t.len := by omega
      clear hl
      have HO1 := Lib.hid ho1
      have HO2 := Lib.hid ho2
      clear ho1 ho2
      go_enter Try.func57, Try.ntmps57
      go_wp2_with fail
      clear hd2 hd1
      go_loopw [17] (fun i wr => ∃ j : Nat, j ≤ s.len ∧ i = .int .i64 (j : Int) ∧ Y.leY (s.drop j) (t.drop j) = Y.leY s t ∧ wr.cell? ⟨w.heap.size, 1, none⟩ = some (.slice p s.len cap) ∧ wr.cell? ⟨w.heap.size + 1, 1, none⟩ = some (.slice q t.len cap') ∧ Below w.heap.size w wr)
        (fun i _ => s.len - (intOf i).toNat)
      case atStart => exact ⟨0, Nat.zero_le _, rfl, by rw [Y.drop_zero, Y.drop_zero], by simp, by simp, b0 _ _⟩
      case round =>
        obtain ⟨j, hj, rfl, hmo, hbox1, hbox2, hb⟩ := hrel
        have HM := Lib.hid hmo
        clear hmo
        by_cases hlt : j < s.len
        · rcases hrow with h0 | ⟨b, off, rfl, hr⟩
          · omega
          rcases hrow' with h0 | ⟨b', off', rfl, hr'⟩
          · omega
          have hlt2 : j < t.len := by omega
          obtain ⟨hcn1, p1, n1, cap1, hc1, hi1⟩ := base2_at (Keeps2.below hb (Nat.le_refl _)) hr hlt
          obtain ⟨hcn2, p2, n2, cap2, hc2, hi2⟩ := base2_at (Keeps2.below hb (Nat.le_refl _)) hr' hlt2
          have hg := s.sz_ga j hlt
          go_wp2_with fail
          go_still_tail 10, (by kernel_rfl)
          change wpList _ _ _ _ _ wr.drew
          go_wp2_with fail
          refine (IH.out (s.ga j) (t.ga j) _ _ _ p1 p2 n1 cap1 n2 cap2 (by have h := HO1.out; simp only [over1, Bool.and_eq_true] at h; exact overE_at h.2 hlt) (by have h := HO2.out; simp only [over1, Bool.and_eq_true] at h; exact overE_at h.2 hlt2) (by omega) hi1.drew hi2.drew).mono ?_
          rintro e w' ⟨rfl, hb1⟩
          have hb2 : Below w.heap.size w w' := hb.drew.trans (hb1.mono hb.size)
          go_wp2_with fail
          · go_ret
            exact ⟨ret_bool (Y.both_le.not s t j hlt hlt2 HM.out (by assumption)).symm, hb2⟩
          · go_roundw
            case rel => exact ⟨j + 1, by omega, by go_num, Y.both_le.step s t j hlt hlt2 HM.out (by assumption), (hb1.cell (p := ⟨w.heap.size, 1, none⟩) (lt_of_cell (w := wr) hbox1)).trans hbox1, (hb1.cell (p := ⟨w.heap.size + 1, 1, none⟩) (lt_of_cell (w := wr) hbox2)).trans hbox2, hb2⟩
            case measure => simp [intOf]; omega
        · go_wp2_with fail
          go_ret
          exact ⟨ret_bool (Y.both_le.fin s t j hlt (by omega) HM.out).symm, hb⟩
    · have hd2 : (n != n') = true := by simp [hn]
      have he : Y.le1 n s n' t = false := by simp [Y.le1, hn, hu]
      rw [he]
      clear he hn hu ho1 ho2
      go_enter Try.func57, Try.ntmps57
      go_wp2_with fail
      go_ret
      exact ⟨rfl, b0 _ _⟩

end Go.Proofs.Yteolfpdkpihnlaa

/-
  The walks of the functions that only count: the depth and the nodes of a term, and equality. Conditions: for the depth at most 100000 nodes.
-/
set_option linter.unusedSimpArgs false
set_option linter.unusedVariables false
namespace Go.Proofs.Yteolfpdkpihnlaa
open Go.RowKit

end Go.Proofs.Yteolfpdkpihnlaa

/-
  The walk of all, for whatever function is handed to it; counting nodes. Conditions: none but that the term lies in memory.
-/
set_option linter.unusedSimpArgs false
set_option linter.unusedVariables false
namespace Go.Proofs.Yteolfpdkpihnlaa
open Go.RowKit

/-- each term of a list has a property -/
def X.AllX (G : Int → Int → X → Prop) : X → Prop
  | .nil => True
  | .cons k n a r => G k n a ∧ X.AllX G a ∧ X.AllX G r

theorem X.AllX.at {G : Int → Int → X → Prop} {t : X} : ∀ {i : Nat}, X.AllX G t → i < t.len → G (t.gk i) (t.gn i) (t.ga i) ∧ X.AllX G (t.ga i) := by
  induction t with
  | nil => intro _ _ h; exact absurd h (Nat.not_lt_zero _)
  | cons k n a r iha ihr =>
    intro i h hi
    cases i with
    | zero => exact ⟨h.1, h.2.1⟩
    | succ i => exact ihr h.2.2 (by simp only [X.len] at hi; omega)

theorem X.AllX.triv {G : Int → Int → X → Prop} (h : ∀ k n a, G k n a) (t : X) : X.AllX G t := by
  induction t with
  | nil => trivial
  | cons k n a r iha ihr => exact ⟨h _ _ _, iha, ihr⟩

theorem walk_live {σ : Type} {f : σ → Int → Int → X → σ × Bool} {L : σ → Prop} (hl : ∀ s k n a, L s → (f s k n a).2 = true → L (f s k n a).1) (t : X) :
    ∀ s, L s → (X.walk f s t).2 = true → L (X.walk f s t).1 := by
  induction t with
  | nil => intro s h _; exact h
  | cons k n a r iha ihr =>
    intro s h hw
    simp only [X.walk] at hw ⊢
    split at hw
    · rename_i h1
      rw [if_pos h1]
      split at hw
      · rename_i h2
        rw [if_pos h2]
        exact ihr _ (iha _ (hl _ _ _ _ h h1) h2) hw
      · exact absurd hw (by simp)
    · exact absurd hw (by simp)

theorem walk1_live {σ : Type} {f : σ → Int → Int → X → σ × Bool} {L : σ → Prop} (hl : ∀ s k n a, L s → (f s k n a).2 = true → L (f s k n a).1) (s : σ) (k n : Int) (a : X) (h : L s) (hw : (X.walk1 f s k n a).2 = true) : L (X.walk1 f s k n a).1 := by
  rw [← X.walk_one] at hw ⊢
  exact walk_live hl _ s h hw

/-- what a function that is handed to all must be: f is what it does, of a state s; I says how the state lies in memory, L of which states it is asked, R what it may turn -/
structure Fits {σ : Type} (run : Value → World → (Ending → World → Prop) → Prop) (f : σ → Int → Int → X → σ × Bool) (L : σ → Prop) (I : σ → World → Prop) (R : World → World → Prop) (G : Int → Int → X → Prop) : Prop where
  run : ∀ s k n a w p l cap, L s → I s w → G k n a → IsX w a p l cap →
    run (.agg #[.int .i64 k, .int .i64 n, .slice p l cap]) w fun e w' => e = .returned (.bool (f s k n a).2) ∧ I (f s k n a).1 w' ∧ R w w'
  live : ∀ s k n a, L s → (f s k n a).2 = true → L (f s k n a).1
  trans : ∀ a b c, R a b → R b c → R a c
  alloc : ∀ s w o, I s w → I s (w.alloc o) ∧ R w (w.alloc o)
  keeps : ∀ s w w', I s w → R w w' → Keeps3 w w'

end Go.Proofs.Yteolfpdkpihnlaa

