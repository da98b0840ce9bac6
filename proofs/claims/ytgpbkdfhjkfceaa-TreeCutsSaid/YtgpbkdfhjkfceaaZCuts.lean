/-
  Whatever ranks, tree and depths are handed in, the statement on two cuts answers true and leaves these as it was. Conditions: none but the row's own (memory that leads back into itself is shut out).
-/
import Derived.Test.YtgpbkdfhjkfceaaMg28
import Derived.Test.YtgpbkdfhjkfceaaMg14
import Derived.Test.YtgpbkdfhjkfceaaMg23

/-
  The walk of the statement on two cuts, where the example holds. Conditions: none but that the arguments lie in memory.
-/
set_option linter.unusedSimpArgs false
set_option linter.unusedVariables false
namespace Go.Proofs.Ytgpbkdfhjkfceaa
open Go.RowKit

set_option maxRecDepth 100000 in
set_option maxHeartbeats 4000000 in
theorem law_ecuts (hal : AliveE) (R : List Int) (a : Y) (n d e : Int) (w : World) (rp p : Option Addr) (rn rc l cap : Nat) (hd0 : -9223372036854775808 ≤ d) (hd63 : d ≤ 9223372036854775807) (he0 : -9223372036854775808 ≤ e) (he63 : e ≤ 9223372036854775807) (hR : IsL w R rp rn rc) (his : IsY w a p l cap) :
    Calls Try.prog 15 #[.slice rp rn rc, .agg #[.int .i64 n, .slice p l cap], .int .i64 d, .int .i64 e] w fun e w' => e = .returned (.bool true) ∧ Below w.heap.size w w' := by
  have hl := his.1
  subst hl
  have hA := Lib.hid hal
  have K0 := kk_one (n1 := n) hR his
  have HK := Lib.hid K0
  have HM := Lib.hid fun W (h1 : IsL W R rp rn rc) (h2 : IsY W a p a.len cap) => ecuttop_any R a n d W rp p rn rc _ cap hd63 h1 h2
  clear K0 hR his
  by_cases hx : ¬ (cutE R n a d).1 = 0
  · have hd : ((cutE R n a d).1 != 0) = true := by simpa using hx
    generalize cutE R n a d = f at *
    obtain ⟨x, m, z⟩ := f
    dsimp only at hx hd
    go_enter Try.func15, Try.ntmps15
    go_wp2_with fail
    refine (HM.out _ HK.out.rk HK.out.i1).mono ?_
    rintro e' w1 ⟨q, c, rfl, hO, hb1⟩
    have HK1 := Lib.hid ((HK.out.below hb1).alloc (.cells #[.int .i64 m, .slice q z.len c] 25))
    have M1 := Lib.hid (And.intro (hO.isY.alloc (.cells #[.int .i64 m, .slice q z.len c] 25)) (heap_new w1 (.cells #[.int .i64 m, .slice q z.len c] 25)))
    have mc := box2_cells M1.out.2
    obtain ⟨m1, m2⟩ := mc
    have kc1 := HK1.out.cells
    obtain ⟨⟨k1, k2⟩, ⟨k3, k4⟩, k5, k6⟩ := kc1
    clear hb1 HK hO
    go_wp2_with fail
    refine (hA.out _).mono ?_
    rintro e wz ⟨rfl, hbz⟩
    go_wp2_with fail
    go_ret
    exact ⟨rfl, (HK1.out.below hbz).base⟩
  rw [Decidable.not_not] at hx
  have hc : chkOne R n a = 0 ∧ ¬ d < 0 := by
    unfold cutE at hx
    split at hx
    · rename_i h
      split at hx
      · simp at hx
      · rename_i h2
        exact ⟨h, h2⟩
    · rename_i h
      exact absurd hx h
  obtain ⟨hc, hdn⟩ := hc
  have hm : cutE R n a d = (0, cut1n d.toNat n, cut1a d.toNat a) := by unfold cutE; rw [if_pos hc, if_neg hdn]
  rw [hm] at HM
  obtain ⟨ho, oa⟩ := chkOne_two hc
  have oz := cut_ok d.toNat oa
  by_cases hen : e < 0
  · generalize cut1n d.toNat n = m at *
    generalize cut1a d.toNat a = z at *
    clear hm hx
    go_enter Try.func15, Try.ntmps15
    go_wp2_with fail
    refine (HM.out _ HK.out.rk HK.out.i1).mono ?_
    rintro e' w1 ⟨q, c, rfl, hO, hb1⟩
    have HK1 := Lib.hid ((HK.out.below hb1).alloc (.cells #[.int .i64 m, .slice q z.len c] 25))
    have M1 := Lib.hid (And.intro (hO.isY.alloc (.cells #[.int .i64 m, .slice q z.len c] 25)) (heap_new w1 (.cells #[.int .i64 m, .slice q z.len c] 25)))
    have mc := box2_cells M1.out.2
    obtain ⟨m1, m2⟩ := mc
    have kc1 := HK1.out.cells
    obtain ⟨⟨k1, k2⟩, ⟨k3, k4⟩, k5, k6⟩ := kc1
    clear hb1 HK hO
    go_wp2_with fail
    refine (hA.out _).mono ?_
    rintro e wz ⟨rfl, hbz⟩
    go_wp2_with fail
    go_ret
    exact ⟨rfl, (HK1.out.below hbz).base⟩
  have hmin : ¬ min d e < 0 := by omega
  have hm2 : cutE R n a (min d e) = (0, cut1n (min d e).toNat n, cut1a (min d e).toNat a) := by unfold cutE; rw [if_pos hc, if_neg hmin]
  have hz2 : cutE R (cut1n d.toNat n) (cut1a d.toNat a) e = (0, cut1n (min d e).toNat n, cut1a (min d e).toNat a) := by
    unfold cutE
    rw [if_pos (chkOne_mk ho oz), if_neg hen]
    obtain ⟨e1, e2⟩ := cut_cut n a d.toNat e.toNat
    rw [e1, e2, show min d.toNat e.toNat = (min d e).toNat by omega]
  have l1 := cut_le n a d.toNat
  have hsz : (cut1a d.toNat a).sz < 20000 := (treeOk_split oz).1
  have hzD : (cut1a d.toNat a).szD = ((cut1a d.toNat a).dep : Int) + 1 := by unfold Y.szD; rw [if_pos hsz]
  have hdep := cut_dep a n d.toNat
  have hdp : (cut1a d.toNat a).szD ≤ d + 1 := by rw [hzD]; omega
  have hdp0 : 0 ≤ (cut1a d.toNat a).szD := by rw [hzD]; omega
  have osz : (cut1a (min d e).toNat a).sz < 20000 := (treeOk_split (cut_ok (min d e).toNat oa)).1
  have HC := Lib.hid fun W q c (h1 : IsL W R rp rn rc) (h2 : IsY W (cut1a d.toNat a) q (cut1a d.toNat a).len c) => ecuttop_any R (cut1a d.toNat a) (cut1n d.toNat n) e W rp q rn rc _ c he63 h1 h2
  rw [hz2] at HC
  have HD := Lib.hid fun W (h1 : IsL W R rp rn rc) (h2 : IsY W a p a.len cap) => ecuttop_any R a n (min d e) W rp p rn rc _ cap (by omega) h1 h2
  rw [hm2] at HD
  have L1 := Lib.hid fun W q c (h1 : IsL W R rp rn rc) (h2 : IsY W a p a.len cap) (h3 : IsY W (cut1a d.toNat a) q (cut1a d.toNat a).len c) => eatleast_ok ho oa oz W rp p q rn rc cap c h1 h2 h3
  rw [l1] at L1
  have HS := Lib.hid fun W q c (h : IsY W (cut1a d.toNat a) q (cut1a d.toNat a).len c) => esize_any (cut1a d.toNat a) (cut1n d.toNat n) W q _ c h
  have HE := Lib.hid fun W q q' c c' (h : IsY W (cut1a (min d e).toNat a) q (cut1a (min d e).toNat a).len c) (h' : IsY W (cut1a (min d e).toNat a) q' (cut1a (min d e).toNat a).len c') => esame_any (cut1a (min d e).toNat a) (cut1a (min d e).toNat a) (cut1n (min d e).toNat n) (cut1n (min d e).toNat n) W q q' _ c _ c' h h'
  rw [sm_refl osz] at HE
  clear hm hm2 hz2 hx oz l1 hsz hzD hdep osz hmin
  generalize cut1n d.toNat n = m at *
  generalize (cut1a d.toNat a).szN = sN at *
  generalize (cut1a d.toNat a).szD = sD at *
  generalize cut1a d.toNat a = z at *
  generalize cut1n (min d e).toNat n = mm at *
  generalize cut1a (min d e).toNat a = z2 at *
  go_enter Try.func15, Try.ntmps15
  go_wp2_with fail
  refine (HM.out _ HK.out.rk HK.out.i1).mono ?_
  rintro e' w1 ⟨q, c, rfl, hO, hb1⟩
  have HK1 := Lib.hid ((HK.out.below hb1).alloc (.cells #[.int .i64 m, .slice q z.len c] 25))
  have M1 := Lib.hid (And.intro (hO.isY.alloc (.cells #[.int .i64 m, .slice q z.len c] 25)) (heap_new w1 (.cells #[.int .i64 m, .slice q z.len c] 25)))
  have mc := box2_cells M1.out.2
  obtain ⟨m1, m2⟩ := mc
  have kc1 := HK1.out.cells
  obtain ⟨⟨k1, k2⟩, ⟨k3, k4⟩, k5, k6⟩ := kc1
  clear hb1 HK hO
  go_wp2_with fail
  refine (L1.out _ _ _ HK1.out.rk HK1.out.i1 M1.out.1).mono ?_
  rintro e w2 ⟨rfl, hb2⟩
  have HK2 := Lib.hid (HK1.out.below hb2)
  have M2 := Lib.hid (And.intro (M1.out.1.below hb2) (box2_later hb2 M1.out.2))
  have mc := box2_cells M2.out.2
  obtain ⟨m1, m2⟩ := mc
  have kc2 := HK2.out.cells
  obtain ⟨⟨k1, k2⟩, ⟨k3, k4⟩, k5, k6⟩ := kc2
  clear hb2 HK1 M1
  go_wp2_with fail
  refine (HC.out _ _ _ HK2.out.rk M2.out.1).mono ?_
  rintro e' w3 ⟨r, cr, rfl, hO, hb3⟩
  have HK3 := Lib.hid ((HK2.out.below hb3).alloc (.cells #[.int .i64 mm, .slice r z2.len cr] 25))
  have M3 := Lib.hid (And.intro ((M2.out.1.below hb3).alloc (.cells #[.int .i64 mm, .slice r z2.len cr] 25)) (alloc_kept (box2_later hb3 M2.out.2) (.cells #[.int .i64 mm, .slice r z2.len cr] 25)))
  have U3 := Lib.hid (And.intro (hO.isY.alloc (.cells #[.int .i64 mm, .slice r z2.len cr] 25)) (heap_new w3 (.cells #[.int .i64 mm, .slice r z2.len cr] 25)))
  have mc := box2_cells M3.out.2
  obtain ⟨m1, m2'⟩ := mc
  have kc := HK3.out.cells
  obtain ⟨⟨k1, k2⟩, ⟨k3, k4⟩, k5, k6⟩ := kc
  clear hb3 HK2 hO M2
  go_wp2_with fail
  refine (HD.out _ HK3.out.rk HK3.out.i1).mono ?_
  rintro e' w4 ⟨s, cs, rfl, hO, hb4⟩
  have HK4 := Lib.hid ((HK3.out.below hb4).alloc (.cells #[.int .i64 mm, .slice s z2.len cs] 25))
  have M4 := Lib.hid (And.intro ((M3.out.1.below hb4).alloc (.cells #[.int .i64 mm, .slice s z2.len cs] 25)) (alloc_kept (box2_later hb4 M3.out.2) (.cells #[.int .i64 mm, .slice s z2.len cs] 25)))
  have U4 := Lib.hid (And.intro ((U3.out.1.below hb4).alloc (.cells #[.int .i64 mm, .slice s z2.len cs] 25)) (alloc_kept (box2_later hb4 U3.out.2) (.cells #[.int .i64 mm, .slice s z2.len cs] 25)))
  have V4 := Lib.hid (And.intro (hO.isY.alloc (.cells #[.int .i64 mm, .slice s z2.len cs] 25)) (heap_new w4 (.cells #[.int .i64 mm, .slice s z2.len cs] 25)))
  have mc := box2_cells M4.out.2
  obtain ⟨m1, m2'⟩ := mc
  clear hb4 HK3 hO M3 U3
  go_wp2_with fail
  refine (HS.out _ _ _ M4.out.1).mono ?_
  rintro e' w5 ⟨rfl, hb5⟩
  have HK5 := Lib.hid (HK4.out.below hb5)
  have U5 := Lib.hid (And.intro (U4.out.1.below hb5) (box2_later hb5 U4.out.2))
  have V5 := Lib.hid (And.intro (V4.out.1.below hb5) (box2_later hb5 V4.out.2))
  have uc := box2_cells U5.out.2
  obtain ⟨u1, u2⟩ := uc
  have vc := box2_cells V5.out.2
  obtain ⟨v1, v2⟩ := vc
  clear hb5 HK4 M4 U4 V4 m1 m2'
  go_wp2_with fail
  refine (HE.out _ _ _ _ _ U5.out.1 V5.out.1).mono ?_
  rintro e' w6 ⟨rfl, hb6⟩
  have HK6 := Lib.hid (HK5.out.below hb6)
  have hle : decide (sD - 1 ≤ d) = true := by simpa using (by omega : sD - 1 ≤ d)
  clear hb6 HK5
  go_wp2_with fail
  refine (hA.out _).mono ?_
  rintro e wz ⟨rfl, hbz⟩
  go_wp2_with fail
  go_ret
  exact ⟨rfl, (HK6.out.below hbz).base⟩

end Go.Proofs.Ytgpbkdfhjkfceaa

set_option linter.unusedSimpArgs false
set_option linter.unusedVariables false
namespace Go.Proofs.Ytgpbkdfhjkfceaa
open Go.ChangeShapes Go.WideShapes Go.ChangeAt Go.RowKit
open Go.ChangeMaps (open_string shut_string)

set_option maxRecDepth 100000 in
theorem treeCuts_lifted (os : Os) (started : os.Started) (H : Type) (enc : TypeId × Value → H) :
    ReturnsInHanded {} Try.checked os 15 .any (Rows.treeCutsSpec.pre6 enc Try.prog Try.f15 Rows.treeCutsRow.domain false) (Rows.treeCutsSpec.post enc Try.prog Try.f15 false true false false) := by
  refine returnsInHanded_of_change (C := Try.checked) PE.own started (by kernel_rfl) Try.func15
    (ChangeSpec.witness6 (enc := enc) (C := Try.checked) false ⟨#[], #[.slice none 0 0, .agg #[.int .i64 0, .slice none 0 0], .int .i64 0, .int .i64 0], []⟩ 8 (by kernel_rfl) (by kernel_rfl) (by kernel_rfl) (by kernel_rfl)) ?_
  intro W base args ds gs before hval0 hW hcnd _
  have hval : ∀ (j : Nat) t v, Try.f15.params[j]? = some t → args[j]? = some v → Value.okWide Try.prog W .any base t v := hval0
  have hW' := hW
  obtain ⟨p, q, hA0, hV, rfl, hfz, hnd⟩ := hW
  have hA : DataW.TrodAll enc Try.prog W 0 (fun _ => true) true Try.f15.params.toList args.toList ds p := hA0
  rw [Try.params15] at hA hval
  obtain ⟨v0, v1, v2, v3, d0, d1, d2, d3, p0, p1, p2, p3, rfl, rfl, rfl, h0, h1, h2, h3⟩ := trodAll_four hA
  obtain ⟨rfl, rfl⟩ := trodVars_none hV
  have k0 := h0
  obtain ⟨a0, n0, c0, t0, rfl, i0⟩ := open_ints (hval 0 22 v0 rfl rfl) h0
  have k1 := h1
  obtain ⟨ni1, a1, n1, c1, t1, rfl, i1⟩ := open_tree (hval 1 25 v1 rfl rfl) h1
  obtain ⟨x2, rfl, rfl, rfl, w2⟩ := open_int Try.underlying3 (hval 2 3 v2 rfl rfl) h2
  obtain ⟨x3, rfl, rfl, rfl, w3⟩ := open_int Try.underlying3 (hval 3 3 v3 rfl rfl) h3
  clear hA0 hval0
  simp only [List.append_nil] at hW'
  refine (law_ecuts alive_any t0 t1 ni1 x2 x3 W a0 a1 n0 c0 n1 c1 (wf_lo w2) (wf_hi w2) (wf_lo w3) (wf_hi w3) i0 i1).mono fun e W' ⟨he, hb⟩ => ?_
  subst he
  have hlt := fun x hx => hW'.lt x hx
  exact ⟨_, rfl, post_below (pv := []) hW' (fun _ _ _ => trodAll_mk1 (shut_bool Try.underlying4 true))
    (fun sp hsp => trodAll_mk4 (WideElems.Trod_stays PE.laidOut PE.readI (of_decide_eq_true (by kernel_rfl)) k0 (fun x hx => hb.same (hlt x (by simp [hx]))) (fun x hx => hsp x (by simp [hx]))) (WideElems.Trod_stays PE.laidOut PE.readY (of_decide_eq_true (by kernel_rfl)) k1 (fun x hx => hb.same (hlt x (by simp [hx]))) (fun x hx => hsp x (by simp [hx]))) (shut_int Try.underlying3 w2) (shut_int Try.underlying3 w3))
    (fun _ _ => rfl) (by simp) hb (ok_one (by kernel_rfl) rfl (okWide_bool_mk Try.underlying4 true))⟩

theorem treeCuts_holds : Rows.TreeCutsSaid :=
  OpenClaim.holds_of_wide 15 Try.f15 rfl rfl rfl rfl rfl rfl rfl ⟨rfl, rfl, rfl, rfl, rfl⟩ rfl rfl rfl rfl rfl (by kernel_rfl) Try.func15 (by kernel_rfl)
    (of_decide_eq_true (by kernel_rfl)) (by unfold Func.isWrapper; rw [if_neg (of_decide_eq_false (by kernel_rfl))]; exact ⟨rfl, rfl⟩)
    (fun os started H enc _ => treeCuts_lifted os started H enc)

end Go.Proofs.Ytgpbkdfhjkfceaa

