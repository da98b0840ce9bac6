/-
  The walks of the functions that only count: the depth and the nodes of a term, and equality. Conditions: for the depth at most 100000 nodes.
-/
import Derived.Test.YtlgfaobbjnhfoaaTMem
import Derived.Test.YtlgfaobbjnhfoaaWalkA
set_option linter.unusedSimpArgs false
set_option linter.unusedVariables false
namespace Go.Proofs.Ytlgfaobbjnhfoaa
open Go.RowKit

set_option maxHeartbeats 400000 in
theorem thigh_any (N : Nat) : ∀ (a : X) (k n : Int) (w : World) (p : Option Addr) (l cap : Nat), a.sz < N → a.sz < 100000 → IsX w a p l cap →
    Calls Try.prog 47 #[.agg #[.int .i64 k, .int .i64 n, .slice p l cap]] w fun e w' => e = .returned (.int .i64 ((a.dep + 1 : Nat) : Int)) ∧ Below w.heap.size w w' := by
  induction N with
  | zero => intro a k n w p l cap hN; omega
  | succ N ih =>
    intro a k n w p l cap hN h60 his
    have hlen := a.len_le_sz
    have hdep := a.dep_le_sz
    obtain ⟨hn, hcap, hmax, hnil, hrow⟩ := his
    subst hn
    have hn60 : a.len < 100000 := by omega
    have IH := Lib.hid ih
    clear ih
    go_enter Try.func47, Try.ntmps47
    go_wp2_with fail
    go_loopw [3, 9] (fun v i wr => ∃ j m : Nat, j ≤ a.len ∧ i = .int .i64 (j : Int) ∧ v = .int .i64 (m : Int) ∧ m < 100000 ∧ max m (a.drop j).dep = a.dep ∧ Below w.heap.size w wr)
      (fun _ i _ => a.len - (intOf i).toNat)
    case atStart => exact ⟨0, 0, Nat.zero_le _, rfl, rfl, by omega, by rw [X.drop_zero]; omega, (Below.refl _ _).alloc (Nat.le_refl _) _⟩
    case round =>
      obtain ⟨j, m, hj, rfl, rfl, hm, hmo, hb⟩ := hrel
      have HM := Lib.hid hmo
      clear hmo
      by_cases hlt : j < a.len
      · rcases hrow with h0 | ⟨b, off, rfl, hr⟩
        · omega
        obtain ⟨hck, hcn, p', n', cap', hc, hi⟩ := base3_at (Keeps3.below hb (Nat.le_refl _)) hr hlt
        have hg := a.sz_ga j hlt
        have ho := (a.ga j).dep_le_sz
        go_wp2_with fail
        refine (IH.out (a.ga j) _ _ _ p' n' cap' (by omega) (by omega) (hi.alloc _)).mono ?_
        rintro e w' ⟨rfl, hb1⟩
        go_wp2_with fail
        go_roundw
        case rel => exact ⟨j + 1, max m (1 + (a.ga j).dep), by omega, by go_num, val_int (int_max _ _), by omega, by have h1 := HM.out; rw [X.dep_drop a j hlt] at h1; omega, base_next hb hb1⟩
        case measure => simp [intOf]; omega
      · go_wp2_with fail
        go_ret
        have h1 := HM.out
        rw [X.drop_end a j (by omega)] at h1
        simp only [X.dep] at h1
        exact ⟨ret_int (by omega), hb⟩

set_option maxHeartbeats 400000 in
theorem tdepth_any (N : Nat) : ∀ (a : X) (k n : Int) (w : World) (p : Option Addr) (l cap : Nat), a.sz < N → a.sz < 100000 → IsX w a p l cap →
    Calls Try.prog 48 #[.agg #[.int .i64 k, .int .i64 n, .slice p l cap]] w fun e w' => e = .returned (.int .i64 ((a.dep + 1 : Nat) : Int)) ∧ Below w.heap.size w w' := by
  induction N with
  | zero => intro a k n w p l cap hN; omega
  | succ N ih =>
    intro a k n w p l cap hN h60 his
    have hlen := a.len_le_sz
    have hdep := a.dep_le_sz
    obtain ⟨hn, hcap, hmax, hnil, hrow⟩ := his
    subst hn
    have hn60 : a.len < 100000 := by omega
    have IH := Lib.hid ih
    clear ih
    go_enter Try.func48, Try.ntmps48
    go_wp2_with fail
    go_loopw [3, 9] (fun v i wr => ∃ j m : Nat, j ≤ a.len ∧ i = .int .i64 (j : Int) ∧ v = .int .i64 (m : Int) ∧ m < 100000 ∧ max m (a.drop j).dep = a.dep ∧ Below w.heap.size w wr)
      (fun _ i _ => a.len - (intOf i).toNat)
    case atStart => exact ⟨0, 0, Nat.zero_le _, rfl, rfl, by omega, by rw [X.drop_zero]; omega, (Below.refl _ _).alloc (Nat.le_refl _) _⟩
    case round =>
      obtain ⟨j, m, hj, rfl, rfl, hm, hmo, hb⟩ := hrel
      have HM := Lib.hid hmo
      clear hmo
      by_cases hlt : j < a.len
      · rcases hrow with h0 | ⟨b, off, rfl, hr⟩
        · omega
        obtain ⟨hck, hcn, p', n', cap', hc, hi⟩ := base3_at (Keeps3.below hb (Nat.le_refl _)) hr hlt
        have hg := a.sz_ga j hlt
        have ho := (a.ga j).dep_le_sz
        go_wp2_with fail
        refine (IH.out (a.ga j) _ _ _ p' n' cap' (by omega) (by omega) (hi.alloc _)).mono ?_
        rintro e w' ⟨rfl, hb1⟩
        go_wp2_with fail
        go_roundw
        case rel => exact ⟨j + 1, max m (1 + (a.ga j).dep), by omega, by go_num, val_int (int_max _ _), by omega, by have h1 := HM.out; rw [X.dep_drop a j hlt] at h1; omega, base_next hb hb1⟩
        case measure => simp [intOf]; omega
      · go_wp2_with fail
        go_ret
        have h1 := HM.out
        rw [X.drop_end a j (by omega)] at h1
        simp only [X.dep] at h1
        exact ⟨ret_int (by omega), hb⟩

set_option maxHeartbeats 400000 in
theorem tnodes_any (N : Nat) : ∀ (a : X) (k n : Int) (w : World) (p : Option Addr) (l cap : Nat) (m : Int), a.sz < N → 0 ≤ m → m ≤ 100000 → IsX w a p l cap →
    Calls Try.prog 36 #[.agg #[.int .i64 k, .int .i64 n, .slice p l cap], .int .i64 m] w fun e w' => e = .returned (.int .i64 ((min (1 + a.sz) (m.toNat + 1) : Nat) : Int)) ∧ Below w.heap.size w w' := by
  induction N with
  | zero => intro a k n w p l cap m hN; omega
  | succ N ih =>
    intro a k n w p l cap m hN hm0 hm60 his
    have hlen := a.len_le_sz
    obtain ⟨hn, hcap, hmax, hnil, hrow⟩ := his
    subst hn
    unfold maxLen at hmax
    have IH := Lib.hid ih
    clear ih
    go_enter Try.func36, Try.ntmps36
    go_wp2_with fail
    go_loopw [5, 6] (fun v i wr => ∃ j c : Nat, j ≤ a.len ∧ i = .int .i64 (j : Int) ∧ v = .int .i64 (c : Int) ∧ 1 ≤ c ∧ (c : Int) ≤ m + 1 ∧ min (c + (a.drop j).sz) (m.toNat + 1) = min (1 + a.sz) (m.toNat + 1) ∧ wr.cell? ⟨w.heap.size, 2, none⟩ = some (.slice p a.len cap) ∧ Below w.heap.size w wr)
      (fun _ i _ => a.len - (intOf i).toNat)
    case atStart => exact ⟨0, 1, Nat.zero_le _, rfl, rfl, by omega, by omega, by rw [X.drop_zero], by simp, (Below.refl _ _).alloc (Nat.le_refl _) _⟩
    case round =>
      obtain ⟨j, c, hj, rfl, rfl, hc1, hcm, hmo, hbox, hb⟩ := hrel
      have HM := Lib.hid hmo
      clear hmo
      by_cases hlt : j < a.len
      · rcases hrow with h0 | ⟨b, off, rfl, hr⟩
        · omega
        obtain ⟨hck, hcn, p', n', cap', hc, hi⟩ := base3_at (Keeps3.below hb (Nat.le_refl _)) hr hlt
        have hg := a.sz_ga j hlt
        by_cases hcle : (c : Int) ≤ m
        · go_wp2_with fail
          refine (IH.out (a.ga j) _ _ _ p' n' cap' (m - c) (by omega) (by omega) (by omega) hi).mono ?_
          rintro e w' ⟨rfl, hb1⟩
          go_wp2_with fail
          have hd := a.sz_drop j hlt
          go_roundw
          case rel => exact ⟨j + 1, c + min (1 + (a.ga j).sz) (m.toNat - c + 1), by omega, by go_num, val_int (by omega), by omega, by omega, by have h1 := HM.out; omega, by rw [(bcell hb1).1 _ _ (lt_of_cell hbox)]; exact hbox, hb.trans (hb1.mono hb.size)⟩
          case measure => simp [intOf]; omega
        · go_wp2_with fail
          go_ret
          have h1 := HM.out
          exact ⟨ret_int (by omega), hb⟩
      · go_wp2_with fail
        go_ret
        have h1 := HM.out
        rw [X.drop_end a j (by omega)] at h1
        simp only [X.sz] at h1
        exact ⟨ret_int (by omega), hb⟩

/-- slices.EqualFunc of the program's own equality, where that is so for the terms in the slices -/
theorem teqfunc_of (N : Nat)
    (ih : ∀ (s t : X) (k n k' n' : Int) (w : World) (p q : Option Addr) (l cap m cap' : Nat), s.sz < N → IsX w s p l cap → IsX w t q m cap' →
      Calls Try.prog 50 #[.agg #[.int .i64 k, .int .i64 n, .slice p l cap], .agg #[.int .i64 k', .int .i64 n', .slice q m cap']] w fun e w' => e = .returned (.bool (X.eq1 k n s k' n' t)) ∧ Below w.heap.size w w')
    (s t : X) (w : World) (p q : Option Addr) (l cap m cap' : Nat) (hN : s.sz ≤ N) (his : IsX w s p l cap) (hit : IsX w t q m cap') :
    Calls Try.prog 75 #[.slice p l cap, .slice q m cap', .func (Fn.func 50) #[] #[]] w fun e w' => e = .returned (.bool (X.eqX s t)) ∧ Below w.heap.size w w' := by
  obtain ⟨hn, hcap, hmax, hnil, hrow⟩ := his
  obtain ⟨hn', hcap', hmax', hnil', hrow'⟩ := hit
  subst hn hn'
  unfold maxLen at hmax hmax'
  have IH := Lib.hid ih
  clear ih
  by_cases hl : s.len = t.len
  case neg =>
    have hd : ((s.len : Int) != (t.len : Int)) = true := by rw [bne_iff_ne]; omega
    go_enter Try.func75, Try.ntmps75
    go_wp2_with fail
    go_ret
    exact ⟨ret_bool (X.eqX_len s t hl).symm, Below.refl _ _⟩
  case pos =>
    have hd : ((s.len : Int) != (t.len : Int)) = false := by simp [hl]
    have hle : t.len ≤ s.len := by omega
    have hle' : s.len ≤ t.len := by omega
    clear hl
    go_enter Try.func75, Try.ntmps75
    go_wp2_with fail
    go_loopw [17] (fun i wr => ∃ j : Nat, j ≤ s.len ∧ i = .int .i64 (j : Int) ∧ X.eqX (s.drop j) (t.drop j) = X.eqX s t ∧ Below w.heap.size w wr)
      (fun i _ => s.len - (intOf i).toNat)
    case atStart => exact ⟨0, Nat.zero_le _, rfl, by rw [X.drop_zero, X.drop_zero], Below.refl _ _⟩
    case round =>
      obtain ⟨j, hj, rfl, hmo, hb⟩ := hrel
      have HM := Lib.hid hmo
      clear hmo
      by_cases hlt : j < s.len
      · rcases hrow with h0 | ⟨b, off, rfl, hr⟩
        · omega
        rcases hrow' with h0 | ⟨b', off', rfl, hr'⟩
        · omega
        have hlt2 : j < t.len := by omega
        obtain ⟨hck1, hcn1, p1, n1, cap1, hc1, hi1⟩ := base3_at (Keeps3.below hb (Nat.le_refl _)) hr hlt
        obtain ⟨hck2, hcn2, p2, n2, cap2, hc2, hi2⟩ := base3_at (Keeps3.below hb (Nat.le_refl _)) hr' hlt2
        have hg := s.sz_ga j hlt
        have A1 := fun x => (keep_alloc wr x _ _ (lt_of_cell hck2)).trans hck2
        have A2 := fun x => (keep_alloc wr x _ _ (lt_of_cell hcn2)).trans hcn2
        have A3 := fun x => (keep_alloc wr x _ _ (lt_of_cell hc2)).trans hc2
        go_wp2_with fail
        refine (IH.out (s.ga j) (t.ga j) _ _ _ _ _ p1 p2 n1 cap1 n2 cap2 (by omega) ((hi1.alloc _).alloc _) ((hi2.alloc _).alloc _)).mono ?_
        rintro e w' ⟨rfl, hb1⟩
        have hb2 : Below w.heap.size w w' := (hb.trans (((Below.refl _ _).alloc hb.size _).alloc (by have := hb.size; simp; omega) _)).trans (hb1.mono (by have := hb.size; simp; omega))
        go_wp2_with fail
        · go_ret
          exact ⟨ret_bool (X.eqX_not s t j hlt hlt2 HM.out (by assumption)).symm, hb2⟩
        · go_roundw
          case rel => exact ⟨j + 1, by omega, by go_num, X.eqX_step s t j hlt hlt2 HM.out (by assumption), hb2⟩
          case measure => simp [intOf]; omega
      · go_wp2_with fail
        go_ret
        exact ⟨ret_bool (X.eqX_end s t j hlt (by omega) HM.out).symm, hb⟩

set_option maxHeartbeats 400000 in
theorem tequal_any (N : Nat) : ∀ (s t : X) (k n k' n' : Int) (w : World) (p q : Option Addr) (l cap m cap' : Nat), s.sz < N → IsX w s p l cap → IsX w t q m cap' →
      Calls Try.prog 50 #[.agg #[.int .i64 k, .int .i64 n, .slice p l cap], .agg #[.int .i64 k', .int .i64 n', .slice q m cap']] w fun e w' => e = .returned (.bool (X.eq1 k n s k' n' t)) ∧ Below w.heap.size w w' := by
  induction N with
  | zero => intro s t k n k' n' w p q l cap m cap' hN; omega
  | succ N ih =>
    intro s t k n k' n' w p q l cap m cap' hN his hit
    have E := Lib.hid (teqfunc_of N ih s t)
    clear ih
    have b0 : ∀ x y, Below w.heap.size w ((w.alloc x).alloc y) := fun x y => ((Below.refl _ _).alloc (Nat.le_refl _) _).alloc (by simp) _
    by_cases hk : k = k'
    · have hd1 : (k == k') = true := by simp [hk]
      by_cases hn : n = n'
      · have hd2 : (n == n') = true := by simp [hn]
        have he : X.eq1 k n s k' n' t = X.eqX s t := by simp [X.eq1, hk, hn]
        rw [he]
        clear he hk hn
        go_enter Try.func50, Try.ntmps50
        go_wp2_with fail
        refine (E.out _ p q l cap m cap' (by omega) ((his.alloc _).alloc _) ((hit.alloc _).alloc _)).mono ?_
        rintro e w' ⟨rfl, hb1⟩
        go_wp2_with fail
        go_ret
        exact ⟨rfl, (b0 _ _).trans (hb1.mono (by simp; omega))⟩
      · have hd2 : (n == n') = false := by simp [hn]
        have he : X.eq1 k n s k' n' t = false := by simp [X.eq1, hn]
        rw [he]
        clear he hk hn
        go_enter Try.func50, Try.ntmps50
        go_wp2_with fail
        go_ret
        exact ⟨rfl, b0 _ _⟩
    · have hd1 : (k == k') = false := by simp [hk]
      have he : X.eq1 k n s k' n' t = false := by simp [X.eq1, hk]
      rw [he]
      clear he hk
      go_enter Try.func50, Try.ntmps50
      go_wp2_with fail
      go_ret
      exact ⟨rfl, b0 _ _⟩

end Go.Proofs.Ytlgfaobbjnhfoaa
