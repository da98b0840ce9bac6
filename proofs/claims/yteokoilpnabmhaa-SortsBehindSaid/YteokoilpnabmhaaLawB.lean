/-
  The walk of the statement on the orders behind arguments. Conditions: none but that the sort lies in memory.
-/
import Derived.Test.YteokoilpnabmhaaLawA
namespace Go.Proofs.Yteokoilpnabmhaa
open Go.RowKit

theorem T.valid_drop (t : T) (k : Nat) (h : t.valid = true) : (t.drop k).valid = true := by
  simp only [T.valid, T.few, Bool.and_eq_true, decide_eq_true_eq] at h ⊢
  obtain ⟨⟨h1, h2⟩, h3, h4⟩ := h
  have := t.nodes_drop_le k
  have := t.ord_drop_le k
  have := t.len_drop k
  exact ⟨⟨by omega, by omega⟩, by omega, t.kids_drop_of k h4⟩

theorem T.bE_zero {t : T} {k : Int} (h : t.bE k = 0) : t.valid = true ∧ 0 ≤ k ∧ k ≤ t.len := by
  unfold T.bE at h
  split at h
  · rename_i hv
    split at h
    · rename_i hk; exact ⟨hv, hk⟩
    · cases h
  · cases h

theorem orderF_yes (t : T) (w : World) (p : Option Addr) (n cap : Nat) (his : IsT w t p n cap) (hv : t.valid = true) :
    Calls Try.prog 20 #[.agg #[.slice p n cap]] w fun e w' => e = .returned (.tuple #[.int .i64 (t.ord : Int), .int .i64 0]) ∧ Below w.heap.size w w' := by
  have := orderF_any t w p n cap his
  rwa [show t.oN = t.ord by simp [T.oN, hv], show t.oE = 0 by simp [T.oE, hv]] at this

set_option maxHeartbeats 1600000 in
theorem law_orders (t : T) (w : World) (p : Option Addr) (n cap : Nat) (k m : Int) (his : IsT w t p n cap) :
    Calls Try.prog 11 #[.agg #[.slice p n cap], .int .i64 k, .int .i64 m] w fun e w' => e = .returned (.bool true) ∧ Below w.heap.size w w' := by
  have hn := his.1
  by_cases hE : t.bE k = 0
  case neg =>
    have hb := fun W h => behind_any t W p n cap k h
    have hne : (t.bE k != 0) = true := by simpa using hE
    generalize t.bE k = oe at hb hne
    generalize t.bT k = tt at hb
    have HB := Lib.hid hb
    clear hb hE hn
    go_enter Try.func11, Try.ntmps11
    go_wp2_with fail
    refine (HB.out _ (his.alloc _)).mono ?_
    rintro e w1 ⟨q, c, rfl, hO, hb1⟩
    go_wp2_with fail
    refine (alive_any _).mono ?_
    rintro e w2 ⟨rfl, hb2⟩
    go_wp2_with fail
    go_ret
    exact ⟨rfl, base_next (below_call hb1) hb2⟩
  case pos =>
    obtain ⟨hv, hk0, hk1⟩ := T.bE_zero hE
    obtain ⟨kk, rfl⟩ := Int.eq_ofNat_of_zero_le hk0
    clear hE hk0
    have h60 := t.valid_nodes hv
    have hlen := t.len_lt_nodes
    have hkn : kk ≤ n := by omega
    have hk60 : kk ≤ 60 := by omega
    have hn' := Lib.hid hn
    clear hn
    have hvd := t.valid_drop kk hv
    have hle := t.ord_drop_le kk
    by_cases hE2 : (t.drop kk).bE m = 0
    case neg =>
      have hb := fun W q c h => behind_any (t.drop kk) W q (t.drop kk).len c m h
      have hne : ((t.drop kk).bE m != 0) = true := by simpa using hE2
      generalize (t.drop kk).bE m = oe at hb hne
      generalize (t.drop kk).bT m = tt at hb
      have HB := Lib.hid hb
      clear hb hE2
      go_enter Try.func11, Try.ntmps11
      go_wp2_with fail
      refine (behind_ok t _ p n cap kk (his.alloc _) hv hkn).mono ?_
      rintro e w1 ⟨q, c, rfl, hO, hb1⟩
      obtain ⟨hc1, hf1⟩ := bcell hb1
      have hz1 := hb1.size
      simp only [World.size_alloc] at hz1
      have hwl : w.heap.size < w1.heap.size := by omega
      have i1 := (his.alloc _).below hb1
      go_wp2_with fail
      refine (orderF_yes t _ p n cap (i1.alloc _) hv).mono ?_
      rintro e w2 ⟨rfl, hb2⟩
      obtain ⟨hc2, hf2⟩ := bcell hb2
      have hz2 := hb2.size
      simp only [World.size_alloc] at hz2
      have hwl2 : w1.heap.size < w2.heap.size := by omega
      have hwl2' : w.heap.size < w2.heap.size := by omega
      have j2 := (hO.isT.alloc (.cells #[.slice q (t.drop kk).len c] 24)).below hb2
      go_wp2_with fail
      refine (orderF_yes (t.drop kk) _ q _ c j2 hvd).mono ?_
      rintro e w3 ⟨rfl, hb3⟩
      obtain ⟨hc3, hf3⟩ := bcell hb3
      have hz3 := hb3.size
      have hwl3 : w1.heap.size < w3.heap.size := by omega
      have hwl3' : w.heap.size < w3.heap.size := by omega
      go_wp2_with fail
      refine (size_yes t _ p n cap (((i1.alloc _).below hb2).below hb3) h60).mono ?_
      rintro e w4 ⟨rfl, hb4⟩
      obtain ⟨hc4, hf4⟩ := bcell hb4
      go_wp2_with fail
      refine (HB.out _ _ _ ((j2.below hb3).below hb4)).mono ?_
      rintro e w5 ⟨q5, c5, rfl, hO5, hb5⟩
      go_wp2_with fail
      refine (alive_any _).mono ?_
      rintro e w6 ⟨rfl, hb6⟩
      go_wp2_with fail
      go_ret
      have hz4 := hb4.size
      have x1 := below_call hb1
      have x2 := base_next x1 hb2
      have x5 := x2.trans ((hb3.mono x2.size).trans ((hb4.mono (Nat.le_trans x2.size hz3)).trans (hb5.mono (Nat.le_trans x2.size (Nat.le_trans hz3 hz4)))))
      exact ⟨rfl, base_next x5 hb6⟩
    case pos =>
      obtain ⟨_, hm0, hm1⟩ := T.bE_zero hE2
      obtain ⟨mm, rfl⟩ := Int.eq_ofNat_of_zero_le hm0
      clear hE2 hm0
      have hld := t.len_drop kk
      have hm60 : mm ≤ 60 := by omega
      have hmn : kk + mm ≤ n := by have := hn'.out; omega
      have hmd : mm ≤ (t.drop kk).len := by omega
      have hv3 := t.valid_drop (kk + mm) hv
      have h603 := (t.drop (kk + mm)).valid_nodes hv3
      clear hld hm1
      have hC := fun W q c h => behind_ok (t.drop kk) W q (t.drop kk).len c mm h hvd hmd
      have hD := fun W h => behind_ok t W p n cap (kk + mm) h hv hmn
      have hS := fun W q n c q' n' c' h h' => same_any (t.drop (kk + mm)) (t.drop (kk + mm)) W q q' n c n' c' h h'
      simp only [T.drop_drop] at hC
      simp only [Int.natCast_add] at hD
      rw [show T.same (t.drop (kk + mm)) (t.drop (kk + mm)) = true by simp [T.same, h603, T.eqT_refl]] at hS
      have HC := Lib.hid hC
      have HD := Lib.hid hD
      have HS := Lib.hid hS
      clear hC hD hS hv3 h603
      go_enter Try.func11, Try.ntmps11
      go_wp2_with fail
      refine (behind_ok t _ p n cap kk (his.alloc _) hv hkn).mono ?_
      rintro e w1 ⟨q, c, rfl, hO, hb1⟩
      obtain ⟨hc1, hf1⟩ := bcell hb1
      have hz1 := hb1.size
      simp only [World.size_alloc] at hz1
      have hwl : w.heap.size < w1.heap.size := by omega
      have i1 := (his.alloc _).below hb1
      go_wp2_with fail
      refine (orderF_yes t _ p n cap (i1.alloc _) hv).mono ?_
      rintro e w2 ⟨rfl, hb2⟩
      obtain ⟨hc2, hf2⟩ := bcell hb2
      have hz2 := hb2.size
      simp only [World.size_alloc] at hz2
      have hwl2 : w1.heap.size < w2.heap.size := by omega
      have hwl2' : w.heap.size < w2.heap.size := by omega
      have j2 := (hO.isT.alloc (.cells #[.slice q (t.drop kk).len c] 24)).below hb2
      have i2 := (i1.alloc (.cells #[.slice q (t.drop kk).len c] 24)).below hb2
      go_wp2_with fail
      refine (orderF_yes (t.drop kk) _ q _ c j2 hvd).mono ?_
      rintro e w3 ⟨rfl, hb3⟩
      obtain ⟨hc3, hf3⟩ := bcell hb3
      have hz3 := hb3.size
      have hwl3 : w1.heap.size < w3.heap.size := by omega
      have hwl3' : w.heap.size < w3.heap.size := by omega
      go_wp2_with fail
      refine (size_yes t _ p n cap (i2.below hb3) h60).mono ?_
      rintro e w4 ⟨rfl, hb4⟩
      obtain ⟨hc4, hf4⟩ := bcell hb4
      have hz4 := hb4.size
      have hwl4' : w.heap.size < w4.heap.size := by omega
      go_wp2_with fail
      refine (HC.out _ _ _ ((j2.below hb3).below hb4)).mono ?_
      rintro e w5 ⟨q5, c5, rfl, hO5, hb5⟩
      obtain ⟨hc5, hf5⟩ := bcell hb5
      have hz5 := hb5.size
      have hwl5' : w.heap.size < w5.heap.size := by omega
      go_wp2_with fail
      refine (HD.out _ ((((i2.below hb3).below hb4).below hb5).alloc _)).mono ?_
      rintro e w6 ⟨q6, c6, rfl, hO6, hb6⟩
      obtain ⟨hc6, hf6⟩ := bcell hb6
      have hz6 := hb6.size
      simp only [World.size_alloc] at hz6
      have hwl6 : w5.heap.size < w6.heap.size := by omega
      have l6 := ((hO5.isT.alloc (.cells #[.slice q5 (t.drop (kk + mm)).len c5] 24)).below hb6).alloc (.cells #[.slice q6 (t.drop (kk + mm)).len c6] 24)
      go_wp2_with fail
      refine (HS.out _ _ _ _ _ _ _ l6 (hO6.isT.alloc _)).mono ?_
      rintro e w7 ⟨rfl, hb7⟩
      go_wp2_with fail
      refine (alive_any _).mono ?_
      rintro e w8 ⟨rfl, hb8⟩
      go_wp2_with fail
      go_ret
      have x1 := below_call hb1
      have x2 := base_next x1 hb2
      have x5 := x2.trans ((hb3.mono x2.size).trans ((hb4.mono (Nat.le_trans x2.size hz3)).trans (hb5.mono (Nat.le_trans x2.size (Nat.le_trans hz3 hz4)))))
      have x7 := base_next (base_next x5 hb6) hb7
      exact ⟨rfl, x7.trans (hb8.mono x7.size)⟩

end Go.Proofs.Yteokoilpnabmhaa
