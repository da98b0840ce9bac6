/-
  The walks of the statements on Get: SortsGet, SortsTexts, SortsRound. Conditions: none but that strings and sorts lie in memory.
-/
import Derived.Test.YteokoilpnabmhaaWalkW
set_option linter.unusedSimpArgs false
set_option linter.unusedVariables false
namespace Go.Proofs.Yteokoilpnabmhaa
open Go.RowKit

theorem ans_cases (s : List UInt8) : (ansE s = 0 ∧ (ansT s).valid = true ∧ s.length ≤ 65536 ∧ rd s = some (ansT s, [])) ∨ (ansE s ≠ 0 ∧ ansT s = .nil) := by
  by_cases hs : s.length ≤ 65536
  case neg => exact Or.inr (by simp [ansE, ansT, hs])
  case pos =>
    cases h : rd s with
    | none => exact Or.inr (by simp [ansE, ansT, hs, h])
    | some x =>
      obtain ⟨t, r⟩ := x
      cases r with
      | cons a r => exact Or.inr (by simp [ansE, ansT, hs, h])
      | nil =>
        cases hv : t.valid with
        | false => exact Or.inr (by simp [ansE, ansT, hs, h, hv, T.oE])
        | true => exact Or.inl (by simp [ansE, ansT, hs, h, hv, T.oE])

theorem same_self (t : T) (h : t.nodes ≤ 60) : T.same t t = true := by simp [T.same, h, T.eqT_refl]

theorem ans_same (s : List UInt8) : T.same (ansT s) (ansT s) = true := by
  rcases ans_cases s with ⟨_, h, _, _⟩ | ⟨_, h⟩
  · refine same_self _ ?_
    simp only [T.valid, Bool.and_eq_true, decide_eq_true_eq] at h
    exact h.1.1
  · rw [h]; rfl

set_option maxHeartbeats 1600000 in
theorem law_get (s0 : ByteArray) (w : World) (_ : s0.size ≤ maxLen) :
    Calls Try.prog 8 #[.string s0] w fun e w' => e = .returned (.bool true) ∧ Below w.heap.size w w' := by
  obtain ⟨s, rfl⟩ : ∃ s : List UInt8, s0 = ⟨s.toArray⟩ := ⟨s0.data.toList, by simp⟩
  have H1 := Lib.hid fun w => get_any s w
  have H2 := Lib.hid fun w => refget_any s w
  have hs := ans_same s
  generalize ansT s = t at H1 H2 hs
  generalize ansE s = k at H1 H2
  have H3 := Lib.hid fun W p q n cap m cap' a b => (refsame_any t t W p q n cap m cap' a b).mono fun e w' hh => (show e = .returned (.bool true) ∧ Below W.heap.size W w' by rw [← hs]; exact hh)
  clear hs
  go_enter Try.func8, Try.ntmps8
  go_wp2_with fail
  refine (H1.out _).mono ?_
  rintro e w1 ⟨q1, c1, rfl, i1, b1⟩
  go_wp2_with fail
  refine (H2.out _).mono ?_
  rintro e w2 ⟨q2, c2, rfl, i2, b2⟩
  have I1 := ((i1.alloc (.cells #[.slice q1 t.len c1] 24)).below b2).alloc (.cells #[.slice q2 t.len c2] 24)
  have I2 := i2.alloc (.cells #[.slice q2 t.len c2] 24)
  have hz1 := b1.size
  have hz2 := b2.size
  simp only [World.size_alloc] at hz2
  have B := (b1.trans ((below_call b2).mono hz1)).alloc (show w.heap.size ≤ w2.heap.size by omega) (.cells #[.slice q2 t.len c2] 24)
  have k1 := cell_of_one (alloc_kept (res_later b2) (.cells #[.slice q2 t.len c2] 24))
  have k2 := cell_of_one (heap_new w2 (.cells #[.slice q2 t.len c2] 24))
  clear i1 i2 b1 b2
  go_wp2_with fail
  refine (H3.out _ _ _ _ _ _ _ I1 I2).mono ?_
  rintro e w3 ⟨rfl, b3⟩
  go_wp2_with fail
  refine (alive_any _).mono ?_
  rintro e w4 ⟨rfl, b4⟩
  go_wp2_with fail
  go_ret
  exact ⟨rfl, (B.trans (b3.mono B.size)).trans (b4.mono (Nat.le_trans B.size b3.size))⟩

set_option maxHeartbeats 1600000 in
theorem law_texts (s0 : ByteArray) (w : World) (_ : s0.size ≤ maxLen) :
    Calls Try.prog 10 #[.string s0] w fun e w' => e = .returned (.bool true) ∧ Below w.heap.size w w' := by
  obtain ⟨s, rfl⟩ : ∃ s : List UInt8, s0 = ⟨s.toArray⟩ := ⟨s0.data.toList, by simp⟩
  have H1 := Lib.hid fun w => get_any s w
  rcases ans_cases s with ⟨hk, hv, hs, hr⟩ | ⟨hk, ht⟩
  · have htx : (ansT s).pT = s := by
      have := rd_txt (s.length + 1) s (ansT s) [] (by omega) hr
      rw [List.append_nil] at this
      simp only [T.pT, hv, if_true]
      exact this.symm
    have hE : (ansT s).oE = 0 := by simp [T.oE, hv]
    rw [hk] at H1
    have H2 := Lib.hid fun W p n cap his => (put_any (ansT s) W p n cap his).mono fun e w' hh => (show e = .returned (.tuple #[.string ⟨s.toArray⟩, .int .i64 0]) ∧ Below W.heap.size W w' by rw [htx, hE] at hh; exact hh)
    clear hk hv hr htx hE
    generalize ansT s = t at H1 H2
    go_enter Try.func10, Try.ntmps10
    go_wp2_with fail
    refine (H1.out _).mono ?_
    rintro e w1 ⟨q1, c1, rfl, i1, b1⟩
    have I1 := i1.alloc (.cells #[.slice q1 t.len c1] 24)
    have B := b1.alloc b1.size (.cells #[.slice q1 t.len c1] 24)
    have k1 := cell_of_one (heap_new w1 (.cells #[.slice q1 t.len c1] 24))
    clear i1 b1
    go_wp2_with fail
    refine (H2.out _ _ _ _ I1).mono ?_
    rintro e w2 ⟨rfl, b2⟩
    go_wp2_with fail
    refine (alive_any _).mono ?_
    rintro e w3 ⟨rfl, b3⟩
    go_wp2_with fail
    go_ret
    exact ⟨rfl, (B.trans (b2.mono B.size)).trans (b3.mono (Nat.le_trans B.size b2.size))⟩
  · have hk' : ((ansE s) == (0 : Int)) = false := by simpa using hk
    rw [ht] at H1
    clear hk ht
    generalize ansE s = k at H1 hk'
    go_enter Try.func10, Try.ntmps10
    go_wp2_with fail
    refine (H1.out _).mono ?_
    rintro e w1 ⟨q1, c1, rfl, i1, b1⟩
    have B := b1.alloc b1.size (.cells #[.slice q1 T.nil.len c1] 24)
    have k1 := cell_of_one (heap_new w1 (.cells #[.slice q1 T.nil.len c1] 24))
    clear i1 b1
    simp only [T.len] at k1 B
    simp only [T.len]
    go_wp2_with fail
    refine (alive_any _).mono ?_
    rintro e w3 ⟨rfl, b3⟩
    go_wp2_with fail
    go_ret
    exact ⟨rfl, B.trans (b3.mono B.size)⟩

set_option maxHeartbeats 1600000 in
theorem law_round (t : T) (w : World) (p : Option Addr) (n cap : Nat) (his : IsT w t p n cap) :
    Calls Try.prog 9 #[.agg #[.slice p n cap]] w fun e w' => e = .returned (.bool true) ∧ Below w.heap.size w w' := by
  have H1 := Lib.hid fun W p n cap his => put_any t W p n cap his
  cases hv : t.valid with
  | true =>
    have hnd : t.nodes ≤ 60 := by simp only [T.valid, Bool.and_eq_true, decide_eq_true_eq] at hv; exact hv.1.1
    have htl := t.txt_len
    have hpt : t.pT = t.txt := by simp [T.pT, hv]
    have hE : t.oE = 0 := by simp [T.oE, hv]
    have hr : rd t.txt = some (t, []) := by have := txt_rd t [] rfl; rwa [List.append_nil] at this
    have hl : t.txt.length ≤ 65536 := by omega
    have hT : ansT t.txt = t := by simp [ansT, hl, hr, hv]
    have hA : ansE t.txt = 0 := by simp [ansE, hl, hr, hE]
    rw [hpt, hE] at H1
    have H2 := Lib.hid fun W => get_any t.txt W
    rw [hT, hA] at H2
    have hss := same_self t hnd
    have H3 := Lib.hid fun W p q n cap m cap' a b => (refsame_any t t W p q n cap m cap' a b).mono fun e w' hh => (show e = .returned (.bool true) ∧ Below W.heap.size W w' by rw [← hss]; exact hh)
    clear hv hnd htl hpt hE hr hl hT hA hss
    generalize t.txt = s at H1 H2
    go_enter Try.func9, Try.ntmps9
    go_wp2_with fail
    refine (H1.out _ _ _ _ (his.alloc _)).mono ?_
    rintro e w1 ⟨rfl, b1⟩
    have c1 := box_later (b := w.heap.size) (v := .slice p n cap) b1 (by simp)
    have i1 := (his.alloc _).below b1
    have B1 := below_call b1
    clear b1
    go_wp2_with fail
    refine (H2.out _).mono ?_
    rintro e w2 ⟨q, c, rfl, i2, b2⟩
    have c2 := box_later (b2.alloc b2.size (.cells #[.slice q t.len c] 24)) c1
    have j1 := (i1.below b2).alloc (.cells #[.slice q t.len c] 24)
    have j2 := i2.alloc (.cells #[.slice q t.len c] 24)
    have B2 := B1.trans ((b2.alloc b2.size (.cells #[.slice q t.len c] 24)).mono B1.size)
    have k2 := cell_of_one (heap_new w2 (.cells #[.slice q t.len c] 24))
    clear c1 i1 i2 b2 B1
    go_wp2_with fail
    refine (H3.out _ _ _ _ _ _ _ j2 j1).mono ?_
    rintro e w3 ⟨rfl, b3⟩
    go_wp2_with fail
    refine (alive_any _).mono ?_
    rintro e w4 ⟨rfl, b4⟩
    go_wp2_with fail
    go_ret
    exact ⟨rfl, (B2.trans (b3.mono B2.size)).trans (b4.mono (Nat.le_trans B2.size b3.size))⟩
  | false =>
    have hpt : t.pT = [] := by simp [T.pT, hv]
    have hE : t.oE = 6 := by simp [T.oE, hv]
    rw [hpt, hE] at H1
    have H2 := Lib.hid fun W p n cap his => is_bool t false hv W p n cap his
    clear hpt hE hv
    go_enter Try.func9, Try.ntmps9
    go_wp2_with fail
    refine (H1.out _ _ _ _ (his.alloc _)).mono ?_
    rintro e w1 ⟨rfl, b1⟩
    have c1 := box_later (b := w.heap.size) (v := .slice p n cap) b1 (by simp)
    have i1 := (his.alloc _).below b1
    have B1 := below_call b1
    clear b1
    go_wp2_with fail
    refine (H2.out _ _ _ _ i1).mono ?_
    rintro e w2 ⟨rfl, b2⟩
    go_wp2_with fail
    refine (alive_any _).mono ?_
    rintro e w3 ⟨rfl, b3⟩
    go_wp2_with fail
    go_ret
    exact ⟨rfl, (B1.trans (b2.mono B1.size)).trans (b3.mono (Nat.le_trans B1.size b2.size))⟩

end Go.Proofs.Yteokoilpnabmhaa
