/-
  The walk of the statement on Subst, where the example holds. Conditions: the terms lie in memory, at most 2^44 args.
-/
import Derived.Test.YtlgfaobbjnhfoaaTWalkZ4
import Derived.Test.YtlgfaobbjnhfoaaTLawN
set_option linter.unusedSimpArgs false
set_option linter.unusedVariables false
namespace Go.Proofs.Ytlgfaobbjnhfoaa
open Go.RowKit

/-- is a term left out, by the statement's own words? -/
def diffB (a : X) : Bool := decide (a.sz < 100000) && decide (4000 ≤ a.sz)

set_option maxRecDepth 100000 in
set_option maxHeartbeats 800000 in
theorem different_any (a : X) (k n : Int) (w : World) (p : Option Addr) (l cap : Nat) (his : IsX w a p l cap) :
    Calls Try.prog 25 #[.agg #[.int .i64 k, .int .i64 n, .slice p l cap]] w fun e w' => e = .returned (.bool (diffB a)) ∧ Below w.heap.size w w' := by
  by_cases h : a.sz < 100000
  · have hd : decide (a.sz < 100000) = true := by simpa using h
    have hn := fun W h' => tnodes_any (a.sz + 1) a k n W p l cap 4000 (Nat.lt_succ_self _) (by omega) (by omega) h'
    obtain ⟨zi, hzi⟩ : ∃ zi : Int, ((min (1 + a.sz) ((4000 : Int).toNat + 1) : Nat) : Int) = zi := ⟨_, rfl⟩
    rw [hzi] at hn
    have he : decide (4000 < zi) = diffB a := by
      unfold diffB
      rw [hd, Bool.true_and, Bool.eq_iff_iff, decide_eq_true_eq, decide_eq_true_eq]
      have : ((4000 : Int).toNat) = 4000 := rfl
      rw [this] at hzi
      omega
    generalize diffB a = r at he
    have HN := Lib.hid hn
    clear hn hzi
    go_enter Try.func25, Try.ntmps25
    go_wp2_with fail
    refine (tlarge_any a k n _ p l cap (his.alloc _)).mono ?_
    rintro e w1 ⟨rfl, hb1⟩
    have i1 := (his.alloc _).below hb1
    have B1 := below_call hb1
    obtain ⟨t1, t2, t3⟩ := box3_cells (box3_later hb1 (heap_new w (.cells #[.int .i64 k, .int .i64 n, .slice p l cap] 35)))
    clear hb1
    have HE := Lib.hid he
    clear he
    go_wp2_with fail
    refine (HN.out _ i1).mono ?_
    rintro e w2 ⟨rfl, hb2⟩
    go_wp2_with fail
    go_ret
    exact ⟨ret_bool HE.out, B1.trans (hb2.mono B1.size)⟩
  · have hd : decide (a.sz < 100000) = false := by simpa using h
    have he : diffB a = false := by unfold diffB; rw [hd]; rfl
    rw [he]
    clear he
    go_enter Try.func25, Try.ntmps25
    go_wp2_with fail
    refine (tlarge_any a k n _ p l cap (his.alloc _)).mono ?_
    rintro e w1 ⟨rfl, hb1⟩
    go_wp2_with fail
    go_ret
    exact ⟨rfl, below_call hb1⟩

theorem subRes_sz {args a A : X} {k n E K Nn : Int} (h : subRes args k n a = (E, K, Nn, A)) : A.sz < 100000 := by
  by_cases h0 : (subRes args k n a).1 = 0
  · obtain ⟨_, _, _, h4, h5⟩ := subRes_ok h0
    rw [h] at h5
    have h6 := rep1_size args k n a
    rw [← (Prod.mk.inj h5).2] at h6
    dsimp only at h6
    omega
  · unfold subRes at h h0
    split at h
    · split at h
      · split at h
        · split at h
          · rename_i h1 h2 h3 h4
            rw [if_pos h1, if_pos h2, if_pos h3, if_pos h4] at h0
            exact absurd rfl h0
          · obtain ⟨_, _, _, rfl⟩ : 3 = E ∧ 0 = K ∧ 0 = Nn ∧ X.nil = A := by simpa using h
            simp [X.sz]
        · obtain ⟨_, _, _, rfl⟩ : 2 = E ∧ 0 = K ∧ 0 = Nn ∧ X.nil = A := by simpa using h
          simp [X.sz]
      · obtain ⟨_, _, _, rfl⟩ : 3 = E ∧ 0 = K ∧ 0 = Nn ∧ X.nil = A := by simpa using h
        simp [X.sz]
    · obtain ⟨_, _, _, rfl⟩ : 3 = E ∧ 0 = K ∧ 0 = Nn ∧ X.nil = A := by simpa using h
      simp [X.sz]

set_option maxRecDepth 100000 in
set_option maxHeartbeats 4000000 in
theorem law_subst (hal : Alive) (a args : X) (k n : Int) (w : World) (p q : Option Addr) (l cap m cap' : Nat) (his : IsX w a p l cap) (hia : IsX w args q m cap') (hbig : m ≤ 17592186044416) :
    Calls Try.prog 7 #[.agg #[.int .i64 k, .int .i64 n, .slice p l cap], .slice q m cap'] w fun e w' => e = .returned (.bool true) ∧ Below w.heap.size w w' := by
  have HAL := Lib.hid hal
  clear hal
  obtain ⟨E, K, Nn, A, hres⟩ : ∃ E K Nn A, subRes args k n a = (E, K, Nn, A) := ⟨_, _, _, _, rfl⟩
  have hsz := subRes_sz hres
  have hb' : args.len ≤ 17592186044416 := by rw [← hia.1]; exact hbig
  have HD := Lib.hid (fun W h => different_any a k n W p l cap h)
  have HP := Lib.hid (fun W h h' => subst_any args a k n W p q l cap m cap' h h' hb' E K Nn A hres)
  have HR := Lib.hid (fun W h h' => refsubst_any args a k n W p q l cap m cap' h h' hb' E K Nn A hres)
  have HI := Lib.hid (fun W r r' c c' i1 i2 => is_true A hsz K Nn E W r r' c c' i1 i2)
  clear hres hsz hb' hbig
  cases hdf : diffB a with
  | true =>
    rw [hdf] at HD
    clear hdf
    go_enter Try.func7, Try.ntmps7
    go_wp2_with fail
    refine (HD.out _ (his.alloc _)).mono ?_
    rintro e w1 ⟨rfl, hb1⟩
    go_wp2_with fail
    refine (alive_late HAL.out (below_call hb1)).mono ?_
    rintro e w4 ⟨rfl, hb4⟩
    go_wp2_with fail
    go_ret
    exact ⟨rfl, hb4⟩
  | false =>
    rw [hdf] at HD
    clear hdf
    go_enter Try.func7, Try.ntmps7
    go_wp2_with fail
    refine (HD.out _ (his.alloc _)).mono ?_
    rintro e w0 ⟨rfl, hb0⟩
    have t0 := box3_later hb0 (heap_new w (.cells #[.int .i64 k, .int .i64 n, .slice p l cap] 35))
    obtain ⟨x1, x2, x3⟩ := box3_cells t0
    have B0 := below_call hb0
    have a0 := his.below B0
    have r0 := hia.below B0
    have T0 := Lib.hid t0
    clear hb0 t0
    go_wp2_with fail
    refine (HP.out _ a0 r0).mono ?_
    rintro e w1 ⟨r, c, rfl, hO, hb1⟩
    have t1 := box3_later hb1 T0.out
    have B1 := B0.trans (hb1.mono B0.size)
    clear x1 x2 x3 a0 r0
    obtain ⟨x1, x2, x3⟩ := box3_cells (alloc_kept t1 (.cells #[.int .i64 K, .int .i64 Nn, .slice r A.len c] 35))
    have u2 := heap_new w1 (.cells #[.int .i64 K, .int .i64 Nn, .slice r A.len c] 35)
    have B2 := B1.alloc B1.size (.cells #[.int .i64 K, .int .i64 Nn, .slice r A.len c] 35)
    have i2 := hO.isX.alloc (.cells #[.int .i64 K, .int .i64 Nn, .slice r A.len c] 35)
    have a2 := his.below B2
    have r2 := hia.below B2
    have U2 := Lib.hid u2
    clear hb1 hO t1 B1 u2 T0 B0
    go_wp2_with fail
    refine (HR.out _ a2 r2).mono ?_
    rintro e w2 ⟨r', c', rfl, hO2, hb2⟩
    have B3 := (B2.trans (hb2.mono B2.size))
    obtain ⟨y1, y2, y3⟩ := box3_cells (alloc_kept (box3_later hb2 U2.out) (.cells #[.int .i64 K, .int .i64 Nn, .slice r' A.len c'] 35))
    have i3 := (i2.below hb2).alloc (.cells #[.int .i64 K, .int .i64 Nn, .slice r' A.len c'] 35)
    have j3 := hO2.isX.alloc (.cells #[.int .i64 K, .int .i64 Nn, .slice r' A.len c'] 35)
    have B4 := B3.alloc B3.size (.cells #[.int .i64 K, .int .i64 Nn, .slice r' A.len c'] 35)
    clear hb2 hO2 B3 x1 x2 x3 i2 a2 r2 B2
    go_wp2_with fail
    refine (HI.out _ _ _ _ _ i3 j3).mono ?_
    rintro e w3 ⟨rfl, hb3⟩
    have B5 := B4.trans (hb3.mono B4.size)
    clear hb3
    go_wp2_with fail
    refine (alive_late HAL.out B5).mono ?_
    rintro e w4 ⟨rfl, hb4⟩
    go_wp2_with fail
    go_ret
    exact ⟨rfl, hb4⟩

end Go.Proofs.Ytlgfaobbjnhfoaa
