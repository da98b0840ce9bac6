/-
  Whatever ranks and trees are handed in, the statement on the greatest tree below two answers true and leaves these as it was. Conditions: none but the row's own (memory that leads back into itself is shut out).
-/
import Derived.Test.YtgpbkdfhjkfceaaMg28
import Derived.Test.YtgpbkdfhjkfceaaMg14
import Derived.Test.YtgpbkdfhjkfceaaMg23

/-
  The walk of the statement on what is below both, where the example holds. Conditions: none but that the arguments lie in memory.
-/
set_option linter.unusedSimpArgs false
set_option linter.unusedVariables false
namespace Go.Proofs.Ytgpbkdfhjkfceaa
open Go.RowKit

set_option maxRecDepth 100000 in
set_option maxHeartbeats 4000000 in
theorem law_emeets (hal : AliveE) (R : List Int) (a b t : Y) (n n' n2 : Int) (w : World) (rp p p' p2 : Option Addr) (rn rc l cap l' cap' l2 cap2 : Nat) (hR : IsL w R rp rn rc) (his : IsY w a p l cap) (hit : IsY w b p' l' cap') (hiu : IsY w t p2 l2 cap2) :
    Calls Try.prog 13 #[.slice rp rn rc, .agg #[.int .i64 n, .slice p l cap], .agg #[.int .i64 n', .slice p' l' cap'], .agg #[.int .i64 n2, .slice p2 l2 cap2]] w fun e w' => e = .returned (.bool true) ∧ Below w.heap.size w w' := by
  have hl := his.1
  subst hl
  have hl' := hit.1
  subst hl'
  have hl2 := hiu.1
  subst hl2
  have hA := Lib.hid hal
  have K0 := kk_three (n1 := n) (n2 := n') (n3 := n2) hR his hit hiu
  have HK := Lib.hid K0
  have HC3 := Lib.hid fun W (h1 : IsL W R rp rn rc) (h2 : IsY W t p2 t.len cap2) => echeckone_any R t n2 W rp p2 rn rc _ cap2 h1 h2
  have HM := Lib.hid fun W (h1 : IsL W R rp rn rc) (h2 : IsY W a p a.len cap) (h3 : IsY W b p' b.len cap') => emeettop_any R a b n n' W rp p p' rn rc _ cap _ cap' h1 h2 h3
  clear K0 hR his hit hiu
  by_cases hz : ¬ chkTwo R n a n' b = 0
  · have hm : meetE R n a n' b = (chkTwo R n a n' b, 0, .nil) := if_neg hz
    rw [hm] at HM
    have hd : (chkTwo R n a n' b != 0) = true := by simpa using hz
    generalize chkTwo R n a n' b = x at *
    obtain ⟨m, hm0⟩ : ∃ m : Int, m = 0 := ⟨_, rfl⟩
    obtain ⟨z, hz0⟩ : ∃ z : Y, z = .nil := ⟨_, rfl⟩
    rw [← hz0, ← hm0] at HM
    clear hm hz hm0 hz0
    go_enter Try.func13, Try.ntmps13
    go_wp2_with fail
    refine (HM.out _ HK.out.rk HK.out.i1 HK.out.i2).mono ?_
    rintro e w1 ⟨q, c, rfl, hO, hb1⟩
    have HK1 := Lib.hid ((HK.out.below hb1).alloc (.cells #[.int .i64 m, .slice q z.len c] 25))
    have M1 := Lib.hid (And.intro (hO.isY.alloc (.cells #[.int .i64 m, .slice q z.len c] 25)) (heap_new w1 (.cells #[.int .i64 m, .slice q z.len c] 25)))
    have mc := box2_cells M1.out.2
    obtain ⟨m1, m2⟩ := mc
    have kc1 := HK1.out.cells
    obtain ⟨⟨k1, k2⟩, ⟨k3, k4⟩, k5, k6⟩ := kc1
    clear hb1 HK hO
    go_wp2_with fail
    refine (hA.out _).mono ?_
    rintro e wz ⟨rfl, hbz⟩
    go_wp2_with fail
    go_ret
    exact ⟨rfl, (HK1.out.below hbz).base⟩
  rw [Decidable.not_not] at hz
  have hm : meetE R n a n' b = (0, (mg1 dMeet n a n' b).1, (mg1 dMeet n a n' b).2) := if_pos hz
  rw [hm] at HM
  obtain ⟨ho, oa, ob⟩ := chkTwo_three hz
  have oz := meet_ok oa ob
  have l1 := meet_left oa ob
  have l2 := meet_right oa ob
  have hT : Y.le1 n a n2 t = true → Y.le1 n' b n2 t = true → Y.le1 (mg1 dMeet n a n' b).1 (mg1 dMeet n a n' b).2 n2 t = true := fun h h' => meet_great h h'
  generalize (mg1 dMeet n a n' b).1 = m at *
  generalize (mg1 dMeet n a n' b).2 = z at *
  clear hm hz
  by_cases hz : ¬ chkOne R n2 t = 0
  · have hd : (chkOne R n2 t != 0) = true := by simpa using hz
    generalize chkOne R n2 t = zz at *
    go_enter Try.func13, Try.ntmps13
    go_wp2_with fail
    refine (HM.out _ HK.out.rk HK.out.i1 HK.out.i2).mono ?_
    rintro e w1 ⟨q, c, rfl, hO, hb1⟩
    have HK1 := Lib.hid ((HK.out.below hb1).alloc (.cells #[.int .i64 m, .slice q z.len c] 25))
    have M1 := Lib.hid (And.intro (hO.isY.alloc (.cells #[.int .i64 m, .slice q z.len c] 25)) (heap_new w1 (.cells #[.int .i64 m, .slice q z.len c] 25)))
    have mc := box2_cells M1.out.2
    obtain ⟨m1, m2⟩ := mc
    have kc1 := HK1.out.cells
    obtain ⟨⟨k1, k2⟩, ⟨k3, k4⟩, k5, k6⟩ := kc1
    clear hb1 HK hO
    go_wp2_with fail
    refine (HC3.out _ HK1.out.rk HK1.out.i3).mono ?_
    rintro e w2 ⟨rfl, hb2⟩
    have HK2 := Lib.hid (HK1.out.below hb2)
    have kc2 := HK2.out.cells
    obtain ⟨⟨k1, k2⟩, ⟨k3, k4⟩, k5, k6⟩ := kc2
    clear hb2 HK1
    go_wp2_with fail
    refine (hA.out _).mono ?_
    rintro e wz ⟨rfl, hbz⟩
    go_wp2_with fail
    go_ret
    exact ⟨rfl, (HK2.out.below hbz).base⟩
  rw [Decidable.not_not] at hz
  obtain ⟨_, ot⟩ := chkOne_two hz
  rw [hz] at HC3
  clear hz
  have L1 := Lib.hid fun W q c (h1 : IsL W R rp rn rc) (h2 : IsY W a p a.len cap) (h3 : IsY W z q z.len c) => eatleast_ok ho oa oz W rp p q rn rc cap c h1 h2 h3
  have L2 := Lib.hid fun W q c (h1 : IsL W R rp rn rc) (h2 : IsY W b p' b.len cap') (h3 : IsY W z q z.len c) => eatleast_ok ho ob oz W rp p' q rn rc cap' c h1 h2 h3
  have L3 := Lib.hid fun W  (h1 : IsL W R rp rn rc) (h2 : IsY W a p a.len cap) (h3 : IsY W t p2 t.len cap2) => eatleast_ok ho oa ot W rp p p2 rn rc cap cap2 h1 h2 h3
  have L4 := Lib.hid fun W  (h1 : IsL W R rp rn rc) (h2 : IsY W b p' b.len cap') (h3 : IsY W t p2 t.len cap2) => eatleast_ok ho ob ot W rp p' p2 rn rc cap' cap2 h1 h2 h3
  have L5 := Lib.hid fun W q c (h1 : IsL W R rp rn rc) (h2 : IsY W z q z.len c) (h3 : IsY W t p2 t.len cap2) => eatleast_ok ho oz ot W rp q p2 rn rc c cap2 h1 h2 h3
  rw [l1] at L1
  rw [l2] at L2
  generalize Y.le1 n a n2 t = ac at *
  generalize Y.le1 n' b n2 t = bc at *
  generalize Y.le1 m z n2 t = mc at *
  clear oa ob ot ho oz l1 l2
  go_enter Try.func13, Try.ntmps13
  go_wp2_with fail
  refine (HM.out _ HK.out.rk HK.out.i1 HK.out.i2).mono ?_
  rintro e w1 ⟨q, c, rfl, hO, hb1⟩
  have HK1 := Lib.hid ((HK.out.below hb1).alloc (.cells #[.int .i64 m, .slice q z.len c] 25))
  have M1 := Lib.hid (And.intro (hO.isY.alloc (.cells #[.int .i64 m, .slice q z.len c] 25)) (heap_new w1 (.cells #[.int .i64 m, .slice q z.len c] 25)))
  have mc := box2_cells M1.out.2
  obtain ⟨m1, m2⟩ := mc
  have kc1 := HK1.out.cells
  obtain ⟨⟨k1, k2⟩, ⟨k3, k4⟩, k5, k6⟩ := kc1
  clear hb1 HK hO
  go_wp2_with fail
  refine (HC3.out _ HK1.out.rk HK1.out.i3).mono ?_
  rintro e w2 ⟨rfl, hb2⟩
  have HK2 := Lib.hid (HK1.out.below hb2)
  have M2 := Lib.hid (And.intro (M1.out.1.below hb2) (box2_later hb2 M1.out.2))
  have mc := box2_cells M2.out.2
  obtain ⟨m1, m2⟩ := mc
  have kc2 := HK2.out.cells
  obtain ⟨⟨k1, k2⟩, ⟨k3, k4⟩, k5, k6⟩ := kc2
  clear hb2 HK1 M1
  go_wp2_with fail
  refine (L1.out _ _ _ HK2.out.rk HK2.out.i1 M2.out.1).mono ?_
  rintro e w3 ⟨rfl, hb3⟩
  have HK3 := Lib.hid (HK2.out.below hb3)
  have M3 := Lib.hid (And.intro (M2.out.1.below hb3) (box2_later hb3 M2.out.2))
  have mc := box2_cells M3.out.2
  obtain ⟨m1, m2⟩ := mc
  have kc3 := HK3.out.cells
  obtain ⟨⟨k1, k2⟩, ⟨k3, k4⟩, k5, k6⟩ := kc3
  clear hb3 HK2 M2
  go_wp2_with fail
  refine (L2.out _ _ _ HK3.out.rk HK3.out.i2 M3.out.1).mono ?_
  rintro e w4 ⟨rfl, hb4⟩
  have HK4 := Lib.hid (HK3.out.below hb4)
  have M4 := Lib.hid (And.intro (M3.out.1.below hb4) (box2_later hb4 M3.out.2))
  have mc := box2_cells M4.out.2
  obtain ⟨m1, m2⟩ := mc
  have kc4 := HK4.out.cells
  obtain ⟨⟨k1, k2⟩, ⟨k3, k4⟩, k5, k6⟩ := kc4
  clear hb4 HK3 M3
  go_wp2_with fail
  refine (L3.out _ HK4.out.rk HK4.out.i1 HK4.out.i3).mono ?_
  rintro e w5 ⟨rfl, hb5⟩
  have HK5 := Lib.hid (HK4.out.below hb5)
  have M5 := Lib.hid (And.intro (M4.out.1.below hb5) (box2_later hb5 M4.out.2))
  have mc := box2_cells M5.out.2
  obtain ⟨m1, m2⟩ := mc
  have kc5 := HK5.out.cells
  obtain ⟨⟨k1, k2⟩, ⟨k3, k4⟩, k5, k6⟩ := kc5
  clear hb5 HK4 M4
  go_wp2_with fail
  refine (L4.out _ HK5.out.rk HK5.out.i2 HK5.out.i3).mono ?_
  rintro e w6 ⟨rfl, hb6⟩
  have HK6 := Lib.hid (HK5.out.below hb6)
  have M6 := Lib.hid (And.intro (M5.out.1.below hb6) (box2_later hb6 M5.out.2))
  have mc := box2_cells M6.out.2
  obtain ⟨m1, m2⟩ := mc
  have kc6 := HK6.out.cells
  obtain ⟨⟨k1, k2⟩, ⟨k3, k4⟩, k5, k6⟩ := kc6
  clear hb6 HK5 M5
  go_wp2_with fail
  refine (L5.out _ _ _ HK6.out.rk M6.out.1 HK6.out.i3).mono ?_
  rintro e w7 ⟨rfl, hb7⟩
  have HK7 := Lib.hid (HK6.out.below hb7)
  have M7 := Lib.hid (And.intro (M6.out.1.below hb7) (box2_later hb7 M6.out.2))
  have mc := box2_cells M7.out.2
  obtain ⟨m1, m2⟩ := mc
  have kc7 := HK7.out.cells
  obtain ⟨⟨k1, k2⟩, ⟨k3, k4⟩, k5, k6⟩ := kc7
  clear hb7 HK6 M6
  cases ac <;> cases bc <;> cases mc
  all_goals try (have hh := hT rfl rfl; cases hh; done)
  all_goals
    go_wp2_with fail
    refine (hA.out _).mono ?_
    rintro e wz ⟨rfl, hbz⟩
    go_wp2_with fail
    go_ret
    exact ⟨rfl, (HK7.out.below hbz).base⟩

end Go.Proofs.Ytgpbkdfhjkfceaa

set_option linter.unusedSimpArgs false
set_option linter.unusedVariables false
namespace Go.Proofs.Ytgpbkdfhjkfceaa
open Go.ChangeShapes Go.WideShapes Go.ChangeAt Go.RowKit
open Go.ChangeMaps (open_string shut_string)

set_option maxRecDepth 100000 in
theorem treeMeets_lifted (os : Os) (started : os.Started) (H : Type) (enc : TypeId × Value → H) :
    ReturnsInHanded {} Try.checked os 13 .any (Rows.treeMeetsSpec.pre6 enc Try.prog Try.f13 Rows.treeMeetsRow.domain false) (Rows.treeMeetsSpec.post enc Try.prog Try.f13 false true false false) := by
  refine returnsInHanded_of_change (C := Try.checked) PE.own started (by kernel_rfl) Try.func13
    (ChangeSpec.witness6 (enc := enc) (C := Try.checked) false ⟨#[], #[.slice none 0 0, .agg #[.int .i64 0, .slice none 0 0], .agg #[.int .i64 0, .slice none 0 0], .agg #[.int .i64 0, .slice none 0 0]], []⟩ 8 (by kernel_rfl) (by kernel_rfl) (by kernel_rfl) (by kernel_rfl)) ?_
  intro W base args ds gs before hval0 hW hcnd _
  have hval : ∀ (j : Nat) t v, Try.f13.params[j]? = some t → args[j]? = some v → Value.okWide Try.prog W .any base t v := hval0
  have hW' := hW
  obtain ⟨p, q, hA0, hV, rfl, hfz, hnd⟩ := hW
  have hA : DataW.TrodAll enc Try.prog W 0 (fun _ => true) true Try.f13.params.toList args.toList ds p := hA0
  rw [Try.params13] at hA hval
  obtain ⟨v0, v1, v2, v3, d0, d1, d2, d3, p0, p1, p2, p3, rfl, rfl, rfl, h0, h1, h2, h3⟩ := trodAll_four hA
  obtain ⟨rfl, rfl⟩ := trodVars_none hV
  have k0 := h0
  obtain ⟨a0, n0, c0, t0, rfl, i0⟩ := open_ints (hval 0 22 v0 rfl rfl) h0
  have k1 := h1
  obtain ⟨ni1, a1, n1, c1, t1, rfl, i1⟩ := open_tree (hval 1 25 v1 rfl rfl) h1
  have k2 := h2
  obtain ⟨ni2, a2, n2, c2, t2, rfl, i2⟩ := open_tree (hval 2 25 v2 rfl rfl) h2
  have k3 := h3
  obtain ⟨ni3, a3, n3, c3, t3, rfl, i3⟩ := open_tree (hval 3 25 v3 rfl rfl) h3
  clear hA0 hval0
  simp only [List.append_nil] at hW'
  refine (law_emeets alive_any t0 t1 t2 t3 ni1 ni2 ni3 W a0 a1 a2 a3 n0 c0 n1 c1 n2 c2 n3 c3 i0 i1 i2 i3).mono fun e W' ⟨he, hb⟩ => ?_
  subst he
  have hlt := fun x hx => hW'.lt x hx
  exact ⟨_, rfl, post_below (pv := []) hW' (fun _ _ _ => trodAll_mk1 (shut_bool Try.underlying4 true))
    (fun sp hsp => trodAll_mk4 (WideElems.Trod_stays PE.laidOut PE.readI (of_decide_eq_true (by kernel_rfl)) k0 (fun x hx => hb.same (hlt x (by simp [hx]))) (fun x hx => hsp x (by simp [hx]))) (WideElems.Trod_stays PE.laidOut PE.readY (of_decide_eq_true (by kernel_rfl)) k1 (fun x hx => hb.same (hlt x (by simp [hx]))) (fun x hx => hsp x (by simp [hx]))) (WideElems.Trod_stays PE.laidOut PE.readY (of_decide_eq_true (by kernel_rfl)) k2 (fun x hx => hb.same (hlt x (by simp [hx]))) (fun x hx => hsp x (by simp [hx]))) (WideElems.Trod_stays PE.laidOut PE.readY (of_decide_eq_true (by kernel_rfl)) k3 (fun x hx => hb.same (hlt x (by simp [hx]))) (fun x hx => hsp x (by simp [hx]))))
    (fun _ _ => rfl) (by simp) hb (ok_one (by kernel_rfl) rfl (okWide_bool_mk Try.underlying4 true))⟩

theorem treeMeets_holds : Rows.TreeMeetsSaid :=
  OpenClaim.holds_of_wide 13 Try.f13 rfl rfl rfl rfl rfl rfl rfl ⟨rfl, rfl, rfl, rfl, rfl⟩ rfl rfl rfl rfl rfl (by kernel_rfl) Try.func13 (by kernel_rfl)
    (of_decide_eq_true (by kernel_rfl)) (by unfold Func.isWrapper; rw [if_neg (of_decide_eq_false (by kernel_rfl))]; exact ⟨rfl, rfl⟩)
    (fun os started H enc _ => treeMeets_lifted os started H enc)

end Go.Proofs.Ytgpbkdfhjkfceaa

