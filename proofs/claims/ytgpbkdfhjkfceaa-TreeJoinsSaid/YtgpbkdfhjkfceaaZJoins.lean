/-
  Whatever ranks and trees are handed in, the statement on the least tree above two answers true and leaves these as it was. Conditions: none but the row's own (memory that leads back into itself is shut out).
-/
import Derived.Test.YtgpbkdfhjkfceaaMg28
import Derived.Test.YtgpbkdfhjkfceaaMg14
import Derived.Test.YtgpbkdfhjkfceaaMg23

/-
  The walk of the statement on what is above both, where the example holds. Conditions: none but that the arguments lie in memory.
-/
set_option linter.unusedSimpArgs false
set_option linter.unusedVariables false
namespace Go.Proofs.Ytgpbkdfhjkfceaa
open Go.RowKit

set_option maxRecDepth 100000 in
set_option maxHeartbeats 4000000 in
theorem law_ejoins (hal : AliveE) (R : List Int) (a b t : Y) (n n' n2 : Int) (w : World) (rp p p' p2 : Option Addr) (rn rc l cap l' cap' l2 cap2 : Nat) (hR : IsL w R rp rn rc) (his : IsY w a p l cap) (hit : IsY w b p' l' cap') (hiu : IsY w t p2 l2 cap2) :
    Calls Try.prog 14 #[.slice rp rn rc, .agg #[.int .i64 n, .slice p l cap], .agg #[.int .i64 n', .slice p' l' cap'], .agg #[.int .i64 n2, .slice p2 l2 cap2]] w fun e w' => e = .returned (.bool true) ∧ Below w.heap.size w w' := by
  have hl := his.1
  subst hl
  have hl' := hit.1
  subst hl'
  have hl2 := hiu.1
  subst hl2
  have hA := Lib.hid hal
  have K0 := kk_three (n1 := n) (n2 := n') (n3 := n2) hR his hit hiu
  have HK := Lib.hid K0
  have HC1 := Lib.hid fun W (h1 : IsL W R rp rn rc) (h2 : IsY W a p a.len cap) => echeckone_any R a n W rp p rn rc _ cap h1 h2
  have HC2 := Lib.hid fun W (h1 : IsL W R rp rn rc) (h2 : IsY W b p' b.len cap') => echeckone_any R b n' W rp p' rn rc _ cap' h1 h2
  have HC3 := Lib.hid fun W (h1 : IsL W R rp rn rc) (h2 : IsY W t p2 t.len cap2) => echeckone_any R t n2 W rp p2 rn rc _ cap2 h1 h2
  have HM := Lib.hid fun W (h1 : IsL W R rp rn rc) (h2 : IsY W a p a.len cap) (h3 : IsY W b p' b.len cap') => ejointop_any R a b n n' W rp p p' rn rc _ cap _ cap' h1 h2 h3
  clear K0 hR his hit hiu
  by_cases hz : ¬ chkOne R n a = 0
  · have hd : (chkOne R n a != 0) = true := by simpa using hz
    generalize chkOne R n a = zz at *
    go_enter Try.func14, Try.ntmps14
    go_wp2_with fail
    refine (HC1.out _ HK.out.rk HK.out.i1).mono ?_
    rintro e w1 ⟨rfl, hb1⟩
    have HK1 := Lib.hid (HK.out.below hb1)
    have kc1 := HK1.out.cells
    obtain ⟨⟨k1, k2⟩, ⟨k3, k4⟩, k5, k6⟩ := kc1
    clear hb1 HK
    go_wp2_with fail
    refine (hA.out _).mono ?_
    rintro e wz ⟨rfl, hbz⟩
    go_wp2_with fail
    go_ret
    exact ⟨rfl, (HK1.out.below hbz).base⟩
  rw [Decidable.not_not] at hz
  obtain ⟨ho, oa⟩ := chkOne_two hz
  rw [hz] at HC1
  clear hz
  by_cases hz : ¬ chkOne R n' b = 0
  · have hd : (chkOne R n' b != 0) = true := by simpa using hz
    generalize chkOne R n' b = zz at *
    go_enter Try.func14, Try.ntmps14
    go_wp2_with fail
    refine (HC1.out _ HK.out.rk HK.out.i1).mono ?_
    rintro e w1 ⟨rfl, hb1⟩
    have HK1 := Lib.hid (HK.out.below hb1)
    have kc1 := HK1.out.cells
    obtain ⟨⟨k1, k2⟩, ⟨k3, k4⟩, k5, k6⟩ := kc1
    clear hb1 HK
    go_wp2_with fail
    refine (HC2.out _ HK1.out.rk HK1.out.i2).mono ?_
    rintro e w2 ⟨rfl, hb2⟩
    have HK2 := Lib.hid (HK1.out.below hb2)
    have kc2 := HK2.out.cells
    obtain ⟨⟨k1, k2⟩, ⟨k3, k4⟩, k5, k6⟩ := kc2
    clear hb2 HK1
    go_wp2_with fail
    refine (hA.out _).mono ?_
    rintro e wz ⟨rfl, hbz⟩
    go_wp2_with fail
    go_ret
    exact ⟨rfl, (HK2.out.below hbz).base⟩
  rw [Decidable.not_not] at hz
  obtain ⟨_, ob⟩ := chkOne_two hz
  rw [hz] at HC2
  clear hz
  by_cases hz : ¬ chkOne R n2 t = 0
  · have hd : (chkOne R n2 t != 0) = true := by simpa using hz
    generalize chkOne R n2 t = zz at *
    go_enter Try.func14, Try.ntmps14
    go_wp2_with fail
    refine (HC1.out _ HK.out.rk HK.out.i1).mono ?_
    rintro e w1 ⟨rfl, hb1⟩
    have HK1 := Lib.hid (HK.out.below hb1)
    have kc1 := HK1.out.cells
    obtain ⟨⟨k1, k2⟩, ⟨k3, k4⟩, k5, k6⟩ := kc1
    clear hb1 HK
    go_wp2_with fail
    refine (HC2.out _ HK1.out.rk HK1.out.i2).mono ?_
    rintro e w2 ⟨rfl, hb2⟩
    have HK2 := Lib.hid (HK1.out.below hb2)
    have kc2 := HK2.out.cells
    obtain ⟨⟨k1, k2⟩, ⟨k3, k4⟩, k5, k6⟩ := kc2
    clear hb2 HK1
    go_wp2_with fail
    refine (HC3.out _ HK2.out.rk HK2.out.i3).mono ?_
    rintro e w3 ⟨rfl, hb3⟩
    have HK3 := Lib.hid (HK2.out.below hb3)
    have kc3 := HK3.out.cells
    obtain ⟨⟨k1, k2⟩, ⟨k3, k4⟩, k5, k6⟩ := kc3
    clear hb3 HK2
    go_wp2_with fail
    refine (hA.out _).mono ?_
    rintro e wz ⟨rfl, hbz⟩
    go_wp2_with fail
    go_ret
    exact ⟨rfl, (HK3.out.below hbz).base⟩
  rw [Decidable.not_not] at hz
  obtain ⟨_, ot⟩ := chkOne_two hz
  rw [hz] at HC3
  clear hz
  have L1 := Lib.hid fun W  (h1 : IsL W R rp rn rc) (h2 : IsY W t p2 t.len cap2) (h3 : IsY W a p a.len cap) => eatleast_ok ho ot oa W rp p2 p rn rc cap2 cap h1 h2 h3
  have L2 := Lib.hid fun W  (h1 : IsL W R rp rn rc) (h2 : IsY W t p2 t.len cap2) (h3 : IsY W b p' b.len cap') => eatleast_ok ho ot ob W rp p2 p' rn rc cap2 cap' h1 h2 h3
  have hu := chkTwo_mk ho oa ob
  have hne : Y.le1 n2 t n a = true → Y.le1 n2 t n' b = true → (joinE R n a n' b).1 = 0 := fun h h' => by
    unfold joinE
    rw [if_pos hu, if_pos (join_none oa h h'), if_pos (join_small oa ob ot h h')]
  have hvals : (joinE R n a n' b).1 = 0 ∨ (joinE R n a n' b).1 = 3 ∨ (joinE R n a n' b).1 = 5 := by
    unfold joinE
    rw [if_pos hu]
    split
    · split
      · exact Or.inl rfl
      · exact Or.inr (Or.inl rfl)
    · exact Or.inr (Or.inr rfl)
  have hyes : (joinE R n a n' b).1 = 0 → treeOk R (joinE R n a n' b).2.1 (joinE R n a n' b).2.2 = true ∧ Y.le1 (joinE R n a n' b).2.1 (joinE R n a n' b).2.2 n a = true ∧ Y.le1 (joinE R n a n' b).2.1 (joinE R n a n' b).2.2 n' b = true ∧ (Y.le1 n2 t n a = true → Y.le1 n2 t n' b = true → Y.le1 n2 t (joinE R n a n' b).2.1 (joinE R n a n' b).2.2 = true) := by
    unfold joinE
    rw [if_pos hu]
    split
    · rename_i hk
      split
      · rename_i hs
        intro _
        exact ⟨join_ok oa ob hs, join_left oa ob hk, join_right oa ob hk, fun h h' => join_least h h'⟩
      · intro h; simp at h
    · intro h; simp at h
  generalize joinE R n a n' b = f at *
  obtain ⟨x, m, z⟩ := f
  dsimp only at hne hvals hyes
  by_cases hx : ¬ x = 0
  · have hv : x = 3 ∨ x = 5 := by omega
    have hT : Y.le1 n2 t n a = true → Y.le1 n2 t n' b = true → False := fun h h' => hx (hne h h')
    generalize Y.le1 n2 t n a = ca at *
    generalize Y.le1 n2 t n' b = cb at *
    clear hne hvals hyes hx hu oa ob ot ho
    rcases hv with rfl | rfl
    all_goals
      go_enter Try.func14, Try.ntmps14
      go_wp2_with fail
      refine (HC1.out _ HK.out.rk HK.out.i1).mono ?_
      rintro e w1 ⟨rfl, hb1⟩
      have HK1 := Lib.hid (HK.out.below hb1)
      have kc1 := HK1.out.cells
      obtain ⟨⟨k1, k2⟩, ⟨k3, k4⟩, k5, k6⟩ := kc1
      clear hb1 HK
      go_wp2_with fail
      refine (HC2.out _ HK1.out.rk HK1.out.i2).mono ?_
      rintro e w2 ⟨rfl, hb2⟩
      have HK2 := Lib.hid (HK1.out.below hb2)
      have kc2 := HK2.out.cells
      obtain ⟨⟨k1, k2⟩, ⟨k3, k4⟩, k5, k6⟩ := kc2
      clear hb2 HK1
      go_wp2_with fail
      refine (HC3.out _ HK2.out.rk HK2.out.i3).mono ?_
      rintro e w3 ⟨rfl, hb3⟩
      have HK3 := Lib.hid (HK2.out.below hb3)
      have kc3 := HK3.out.cells
      obtain ⟨⟨k1, k2⟩, ⟨k3, k4⟩, k5, k6⟩ := kc3
      clear hb3 HK2
      go_wp2_with fail
      refine (L1.out _ HK3.out.rk HK3.out.i3 HK3.out.i1).mono ?_
      rintro e w4 ⟨rfl, hb4⟩
      have HK4 := Lib.hid (HK3.out.below hb4)
      have kc4 := HK4.out.cells
      obtain ⟨⟨k1, k2⟩, ⟨k3, k4⟩, k5, k6⟩ := kc4
      clear hb4 HK3
      go_wp2_with fail
      refine (L2.out _ HK4.out.rk HK4.out.i3 HK4.out.i2).mono ?_
      rintro e w5 ⟨rfl, hb5⟩
      have HK5 := Lib.hid (HK4.out.below hb5)
      have kc5 := HK5.out.cells
      obtain ⟨⟨k1, k2⟩, ⟨k3, k4⟩, k5, k6⟩ := kc5
      clear hb5 HK4
      go_wp2_with fail
      refine (HM.out _ HK5.out.rk HK5.out.i1 HK5.out.i2).mono ?_
      rintro e w6 ⟨q, c, rfl, hO, hb6⟩
      have HK6 := Lib.hid ((HK5.out.below hb6).alloc (.cells #[.int .i64 m, .slice q z.len c] 25))
      have M6 := Lib.hid (And.intro (hO.isY.alloc (.cells #[.int .i64 m, .slice q z.len c] 25)) (heap_new w6 (.cells #[.int .i64 m, .slice q z.len c] 25)))
      have mc := box2_cells M6.out.2
      obtain ⟨m1, m2⟩ := mc
      have kc6 := HK6.out.cells
      obtain ⟨⟨k1, k2⟩, ⟨k3, k4⟩, k5, k6⟩ := kc6
      clear hb6 HK5 hO
      cases ca <;> cases cb
      all_goals try exact (hT rfl rfl).elim
      all_goals
        go_wp2_with fail
        refine (hA.out _).mono ?_
        rintro e wz ⟨rfl, hbz⟩
        go_wp2_with fail
        go_ret
        exact ⟨rfl, (HK6.out.below hbz).base⟩
  rw [Decidable.not_not] at hx
  subst hx
  obtain ⟨oz, l1, l2, hT⟩ := hyes rfl
  have J1 := Lib.hid fun W q c (h1 : IsL W R rp rn rc) (h2 : IsY W z q z.len c) (h3 : IsY W a p a.len cap) => eatleast_ok ho oz oa W rp q p rn rc c cap h1 h2 h3
  have J2 := Lib.hid fun W q c (h1 : IsL W R rp rn rc) (h2 : IsY W z q z.len c) (h3 : IsY W b p' b.len cap') => eatleast_ok ho oz ob W rp q p' rn rc c cap' h1 h2 h3
  have J3 := Lib.hid fun W q c (h1 : IsL W R rp rn rc) (h2 : IsY W t p2 t.len cap2) (h3 : IsY W z q z.len c) => eatleast_ok ho ot oz W rp p2 q rn rc cap2 c h1 h2 h3
  rw [l1] at J1
  rw [l2] at J2
  generalize Y.le1 n2 t n a = ca at *
  generalize Y.le1 n2 t n' b = cb at *
  generalize Y.le1 n2 t m z = cj at *
  clear hne hvals hyes hu oa ob ot ho oz l1 l2
  go_enter Try.func14, Try.ntmps14
  go_wp2_with fail
  refine (HC1.out _ HK.out.rk HK.out.i1).mono ?_
  rintro e w1 ⟨rfl, hb1⟩
  have HK1 := Lib.hid (HK.out.below hb1)
  have kc1 := HK1.out.cells
  obtain ⟨⟨k1, k2⟩, ⟨k3, k4⟩, k5, k6⟩ := kc1
  clear hb1 HK
  go_wp2_with fail
  refine (HC2.out _ HK1.out.rk HK1.out.i2).mono ?_
  rintro e w2 ⟨rfl, hb2⟩
  have HK2 := Lib.hid (HK1.out.below hb2)
  have kc2 := HK2.out.cells
  obtain ⟨⟨k1, k2⟩, ⟨k3, k4⟩, k5, k6⟩ := kc2
  clear hb2 HK1
  go_wp2_with fail
  refine (HC3.out _ HK2.out.rk HK2.out.i3).mono ?_
  rintro e w3 ⟨rfl, hb3⟩
  have HK3 := Lib.hid (HK2.out.below hb3)
  have kc3 := HK3.out.cells
  obtain ⟨⟨k1, k2⟩, ⟨k3, k4⟩, k5, k6⟩ := kc3
  clear hb3 HK2
  go_wp2_with fail
  refine (L1.out _ HK3.out.rk HK3.out.i3 HK3.out.i1).mono ?_
  rintro e w4 ⟨rfl, hb4⟩
  have HK4 := Lib.hid (HK3.out.below hb4)
  have kc4 := HK4.out.cells
  obtain ⟨⟨k1, k2⟩, ⟨k3, k4⟩, k5, k6⟩ := kc4
  clear hb4 HK3
  go_wp2_with fail
  refine (L2.out _ HK4.out.rk HK4.out.i3 HK4.out.i2).mono ?_
  rintro e w5 ⟨rfl, hb5⟩
  have HK5 := Lib.hid (HK4.out.below hb5)
  have kc5 := HK5.out.cells
  obtain ⟨⟨k1, k2⟩, ⟨k3, k4⟩, k5, k6⟩ := kc5
  clear hb5 HK4
  go_wp2_with fail
  refine (HM.out _ HK5.out.rk HK5.out.i1 HK5.out.i2).mono ?_
  rintro e w6 ⟨q, c, rfl, hO, hb6⟩
  have HK6 := Lib.hid ((HK5.out.below hb6).alloc (.cells #[.int .i64 m, .slice q z.len c] 25))
  have M6 := Lib.hid (And.intro (hO.isY.alloc (.cells #[.int .i64 m, .slice q z.len c] 25)) (heap_new w6 (.cells #[.int .i64 m, .slice q z.len c] 25)))
  have mc := box2_cells M6.out.2
  obtain ⟨m1, m2⟩ := mc
  have kc6 := HK6.out.cells
  obtain ⟨⟨k1, k2⟩, ⟨k3, k4⟩, k5, k6⟩ := kc6
  clear hb6 HK5 hO
  go_wp2_with fail
  refine (J1.out _ _ _ HK6.out.rk M6.out.1 HK6.out.i1).mono ?_
  rintro e w7 ⟨rfl, hb7⟩
  have HK7 := Lib.hid (HK6.out.below hb7)
  have M7 := Lib.hid (And.intro (M6.out.1.below hb7) (box2_later hb7 M6.out.2))
  have mc := box2_cells M7.out.2
  obtain ⟨m1, m2⟩ := mc
  have kc7 := HK7.out.cells
  obtain ⟨⟨k1, k2⟩, ⟨k3, k4⟩, k5, k6⟩ := kc7
  clear hb7 HK6 M6
  go_wp2_with fail
  refine (J2.out _ _ _ HK7.out.rk M7.out.1 HK7.out.i2).mono ?_
  rintro e w8 ⟨rfl, hb8⟩
  have HK8 := Lib.hid (HK7.out.below hb8)
  have M8 := Lib.hid (And.intro (M7.out.1.below hb8) (box2_later hb8 M7.out.2))
  have mc := box2_cells M8.out.2
  obtain ⟨m1, m2⟩ := mc
  have kc8 := HK8.out.cells
  obtain ⟨⟨k1, k2⟩, ⟨k3, k4⟩, k5, k6⟩ := kc8
  clear hb8 HK7 M7
  go_wp2_with fail
  refine (J3.out _ _ _ HK8.out.rk HK8.out.i3 M8.out.1).mono ?_
  rintro e w9 ⟨rfl, hb9⟩
  have HK9 := Lib.hid (HK8.out.below hb9)
  have M9 := Lib.hid (And.intro (M8.out.1.below hb9) (box2_later hb9 M8.out.2))
  have mc := box2_cells M9.out.2
  obtain ⟨m1, m2⟩ := mc
  have kc9 := HK9.out.cells
  obtain ⟨⟨k1, k2⟩, ⟨k3, k4⟩, k5, k6⟩ := kc9
  clear hb9 HK8 M8
  cases ca <;> cases cb <;> cases cj
  all_goals try (have hh := hT rfl rfl; cases hh; done)
  all_goals
    go_wp2_with fail
    refine (hA.out _).mono ?_
    rintro e wz ⟨rfl, hbz⟩
    go_wp2_with fail
    go_ret
    exact ⟨rfl, (HK9.out.below hbz).base⟩

end Go.Proofs.Ytgpbkdfhjkfceaa

set_option linter.unusedSimpArgs false
set_option linter.unusedVariables false
namespace Go.Proofs.Ytgpbkdfhjkfceaa
open Go.ChangeShapes Go.WideShapes Go.ChangeAt Go.RowKit
open Go.ChangeMaps (open_string shut_string)

set_option maxRecDepth 100000 in
theorem treeJoins_lifted (os : Os) (started : os.Started) (H : Type) (enc : TypeId × Value → H) :
    ReturnsInHanded {} Try.checked os 14 .any (Rows.treeJoinsSpec.pre6 enc Try.prog Try.f14 Rows.treeJoinsRow.domain false) (Rows.treeJoinsSpec.post enc Try.prog Try.f14 false true false false) := by
  refine returnsInHanded_of_change (C := Try.checked) PE.own started (by kernel_rfl) Try.func14
    (ChangeSpec.witness6 (enc := enc) (C := Try.checked) false ⟨#[], #[.slice none 0 0, .agg #[.int .i64 0, .slice none 0 0], .agg #[.int .i64 0, .slice none 0 0], .agg #[.int .i64 0, .slice none 0 0]], []⟩ 8 (by kernel_rfl) (by kernel_rfl) (by kernel_rfl) (by kernel_rfl)) ?_
  intro W base args ds gs before hval0 hW hcnd _
  have hval : ∀ (j : Nat) t v, Try.f14.params[j]? = some t → args[j]? = some v → Value.okWide Try.prog W .any base t v := hval0
  have hW' := hW
  obtain ⟨p, q, hA0, hV, rfl, hfz, hnd⟩ := hW
  have hA : DataW.TrodAll enc Try.prog W 0 (fun _ => true) true Try.f14.params.toList args.toList ds p := hA0
  rw [Try.params14] at hA hval
  obtain ⟨v0, v1, v2, v3, d0, d1, d2, d3, p0, p1, p2, p3, rfl, rfl, rfl, h0, h1, h2, h3⟩ := trodAll_four hA
  obtain ⟨rfl, rfl⟩ := trodVars_none hV
  have k0 := h0
  obtain ⟨a0, n0, c0, t0, rfl, i0⟩ := open_ints (hval 0 22 v0 rfl rfl) h0
  have k1 := h1
  obtain ⟨ni1, a1, n1, c1, t1, rfl, i1⟩ := open_tree (hval 1 25 v1 rfl rfl) h1
  have k2 := h2
  obtain ⟨ni2, a2, n2, c2, t2, rfl, i2⟩ := open_tree (hval 2 25 v2 rfl rfl) h2
  have k3 := h3
  obtain ⟨ni3, a3, n3, c3, t3, rfl, i3⟩ := open_tree (hval 3 25 v3 rfl rfl) h3
  clear hA0 hval0
  simp only [List.append_nil] at hW'
  refine (law_ejoins alive_any t0 t1 t2 t3 ni1 ni2 ni3 W a0 a1 a2 a3 n0 c0 n1 c1 n2 c2 n3 c3 i0 i1 i2 i3).mono fun e W' ⟨he, hb⟩ => ?_
  subst he
  have hlt := fun x hx => hW'.lt x hx
  exact ⟨_, rfl, post_below (pv := []) hW' (fun _ _ _ => trodAll_mk1 (shut_bool Try.underlying4 true))
    (fun sp hsp => trodAll_mk4 (WideElems.Trod_stays PE.laidOut PE.readI (of_decide_eq_true (by kernel_rfl)) k0 (fun x hx => hb.same (hlt x (by simp [hx]))) (fun x hx => hsp x (by simp [hx]))) (WideElems.Trod_stays PE.laidOut PE.readY (of_decide_eq_true (by kernel_rfl)) k1 (fun x hx => hb.same (hlt x (by simp [hx]))) (fun x hx => hsp x (by simp [hx]))) (WideElems.Trod_stays PE.laidOut PE.readY (of_decide_eq_true (by kernel_rfl)) k2 (fun x hx => hb.same (hlt x (by simp [hx]))) (fun x hx => hsp x (by simp [hx]))) (WideElems.Trod_stays PE.laidOut PE.readY (of_decide_eq_true (by kernel_rfl)) k3 (fun x hx => hb.same (hlt x (by simp [hx]))) (fun x hx => hsp x (by simp [hx]))))
    (fun _ _ => rfl) (by simp) hb (ok_one (by kernel_rfl) rfl (okWide_bool_mk Try.underlying4 true))⟩

theorem treeJoins_holds : Rows.TreeJoinsSaid :=
  OpenClaim.holds_of_wide 14 Try.f14 rfl rfl rfl rfl rfl rfl rfl ⟨rfl, rfl, rfl, rfl, rfl⟩ rfl rfl rfl rfl rfl (by kernel_rfl) Try.func14 (by kernel_rfl)
    (of_decide_eq_true (by kernel_rfl)) (by unfold Func.isWrapper; rw [if_neg (of_decide_eq_false (by kernel_rfl))]; exact ⟨rfl, rfl⟩)
    (fun os started H enc _ => treeJoins_lifted os started H enc)

end Go.Proofs.Ytgpbkdfhjkfceaa

