/-
  Whatever ranks and trees are handed in, the statement on Meet answers true and leaves these as it was. Conditions: none but the row's own (memory that leads back into itself is shut out).
-/
import Derived.Test.YtgpbkdfhjkfceaaMg28
import Derived.Test.YtgpbkdfhjkfceaaMg14
import Derived.Test.YtgpbkdfhjkfceaaMg23

/-
  The walk of the statement on Meet, where the example holds. Conditions: none but that the arguments lie in memory.
-/
set_option linter.unusedSimpArgs false
set_option linter.unusedVariables false
namespace Go.Proofs.Ytgpbkdfhjkfceaa
open Go.RowKit

theorem meetE_is (R : List Int) (n : Int) (a : Y) (n' : Int) (b : Y) :
    (meetE R n a n' b).1 = 0 ∧ (meetE R n a n' b).2.2.sz < 20000 ∨ (meetE R n a n' b).1 ≠ 0 ∧ (meetE R n a n' b).2.1 = 0 ∧ (meetE R n a n' b).2.2 = .nil := by
  unfold meetE
  split
  · rename_i h
    obtain ⟨t1, t2⟩ := chkTwo_ok h
    exact Or.inl ⟨rfl, (treeOk_split (meet_ok t1 t2)).1⟩
  · rename_i h
    exact Or.inr ⟨h, rfl, rfl⟩

set_option maxRecDepth 100000 in
set_option maxHeartbeats 1600000 in
theorem law_emeet (hal : AliveE) (R : List Int) (a b : Y) (n n' : Int) (w : World) (rp p p' : Option Addr) (rn rc l cap l' cap' : Nat) (hR : IsL w R rp rn rc) (his : IsY w a p l cap) (hit : IsY w b p' l' cap') :
    Calls Try.prog 6 #[.slice rp rn rc, .agg #[.int .i64 n, .slice p l cap], .agg #[.int .i64 n', .slice p' l' cap']] w fun e w' => e = .returned (.bool true) ∧ Below w.heap.size w w' := by
  have hl := his.1
  subst hl
  have hl' := hit.1
  subst hl'
  have hA := Lib.hid hal
  have K0 := kk_two (n1 := n) (n2 := n') hR his hit
  have HX := Lib.hid fun W (h1 : IsL W R rp rn rc) (h2 : IsY W a p a.len cap) (h3 : IsY W b p' b.len cap') => emeettop_any R a b n n' W rp p p' rn rc _ cap _ cap' h1 h2 h3
  have HY := Lib.hid fun W (h1 : IsL W R rp rn rc) (h2 : IsY W a p a.len cap) (h3 : IsY W b p' b.len cap') => erefmeettop_any R a b n n' W rp p p' rn rc _ cap _ cap' h1 h2 h3
  have hE := meetE_is R n a n' b
  generalize meetE R n a n' b = f at *
  obtain ⟨x, m, t⟩ := f
  have HZ := Lib.hid fun W q q' c c' h1 h2 => eis_any x m t hE W q q' c c' h1 h2
  have HK := Lib.hid K0
  clear hal K0 hR his hE hit
  go_enter Try.func6, Try.ntmps6
  go_wp2_with fail
  refine (HX.out _ HK.out.rk HK.out.i1 HK.out.i2).mono ?_
  rintro e w1 ⟨q, c, rfl, hO1, hb1⟩
  have HK1 := Lib.hid ((HK.out.below hb1).alloc (.cells #[.int .i64 m, .slice q t.len c] 25))
  have hI1 := hO1.isY.alloc (.cells #[.int .i64 m, .slice q t.len c] 25)
  have hx1 := heap_new w1 (.cells #[.int .i64 m, .slice q t.len c] 25)
  have HI1 := Lib.hid hI1
  have HX1 := Lib.hid hx1
  have kc := HK1.out.cells
  obtain ⟨⟨k1, k2⟩, ⟨k3, k4⟩, _⟩ := kc
  clear hb1 HK hO1 hI1 hx1
  go_wp2_with fail
  refine (HY.out _ HK1.out.rk HK1.out.i1 HK1.out.i2).mono ?_
  rintro e w2 ⟨q', c', rfl, hO2, hb2⟩
  have HK2 := Lib.hid ((HK1.out.below hb2).alloc (.cells #[.int .i64 m, .slice q' t.len c'] 25))
  have HI2 := Lib.hid (hO2.isY.alloc (.cells #[.int .i64 m, .slice q' t.len c'] 25))
  have HI3 := Lib.hid ((HI1.out.below hb2).alloc (.cells #[.int .i64 m, .slice q' t.len c'] 25))
  have hx2 := box2_cells (heap_new w2 (.cells #[.int .i64 m, .slice q' t.len c'] 25))
  have hx3 := box2_cells (alloc_kept (box2_later hb2 HX1.out) (.cells #[.int .i64 m, .slice q' t.len c'] 25))
  obtain ⟨u1, u2⟩ := hx2
  obtain ⟨u3, u4⟩ := hx3
  clear hb2 HK1 hO2 HI1 HX1 k1 k2 k3 k4
  go_wp2_with fail
  refine (HZ.out _ q q' c c' HI3.out HI2.out).mono ?_
  rintro e w3 ⟨rfl, hb3⟩
  have HK3 := Lib.hid (HK2.out.below hb3)
  clear hb3 HK2 HI2 HI3 u1 u2 u3 u4
  go_wp2_with fail
  refine (hA.out _).mono ?_
  rintro e w4 ⟨rfl, hb4⟩
  go_wp2_with fail
  go_ret
  exact ⟨rfl, (HK3.out.below hb4).base⟩

end Go.Proofs.Ytgpbkdfhjkfceaa

set_option linter.unusedSimpArgs false
set_option linter.unusedVariables false
namespace Go.Proofs.Ytgpbkdfhjkfceaa
open Go.ChangeShapes Go.WideShapes Go.ChangeAt Go.RowKit
open Go.ChangeMaps (open_string shut_string)

set_option maxRecDepth 100000 in
theorem treeMeet_lifted (os : Os) (started : os.Started) (H : Type) (enc : TypeId × Value → H) :
    ReturnsInHanded {} Try.checked os 6 .any (Rows.treeMeetSpec.pre6 enc Try.prog Try.f6 Rows.treeMeetRow.domain false) (Rows.treeMeetSpec.post enc Try.prog Try.f6 false true false false) := by
  refine returnsInHanded_of_change (C := Try.checked) PE.own started (by kernel_rfl) Try.func6
    (ChangeSpec.witness6 (enc := enc) (C := Try.checked) false ⟨#[], #[.slice none 0 0, .agg #[.int .i64 0, .slice none 0 0], .agg #[.int .i64 0, .slice none 0 0]], []⟩ 8 (by kernel_rfl) (by kernel_rfl) (by kernel_rfl) (by kernel_rfl)) ?_
  intro W base args ds gs before hval0 hW hcnd _
  have hval : ∀ (j : Nat) t v, Try.f6.params[j]? = some t → args[j]? = some v → Value.okWide Try.prog W .any base t v := hval0
  have hW' := hW
  obtain ⟨p, q, hA0, hV, rfl, hfz, hnd⟩ := hW
  have hA : DataW.TrodAll enc Try.prog W 0 (fun _ => true) true Try.f6.params.toList args.toList ds p := hA0
  rw [Try.params6] at hA hval
  obtain ⟨v0, v1, v2, d0, d1, d2, p0, p1, p2, rfl, rfl, rfl, h0, h1, h2⟩ := trodAll_three hA
  obtain ⟨rfl, rfl⟩ := trodVars_none hV
  have k0 := h0
  obtain ⟨a0, n0, c0, t0, rfl, i0⟩ := open_ints (hval 0 22 v0 rfl rfl) h0
  have k1 := h1
  obtain ⟨ni1, a1, n1, c1, t1, rfl, i1⟩ := open_tree (hval 1 25 v1 rfl rfl) h1
  have k2 := h2
  obtain ⟨ni2, a2, n2, c2, t2, rfl, i2⟩ := open_tree (hval 2 25 v2 rfl rfl) h2
  clear hA0 hval0
  simp only [List.append_nil] at hW'
  refine (law_emeet alive_any t0 t1 t2 ni1 ni2 W a0 a1 a2 n0 c0 n1 c1 n2 c2 i0 i1 i2).mono fun e W' ⟨he, hb⟩ => ?_
  subst he
  have hlt := fun x hx => hW'.lt x hx
  exact ⟨_, rfl, post_below (pv := []) hW' (fun _ _ _ => trodAll_mk1 (shut_bool Try.underlying4 true))
    (fun sp hsp => trodAll_mk3 (WideElems.Trod_stays PE.laidOut PE.readI (of_decide_eq_true (by kernel_rfl)) k0 (fun x hx => hb.same (hlt x (by simp [hx]))) (fun x hx => hsp x (by simp [hx]))) (WideElems.Trod_stays PE.laidOut PE.readY (of_decide_eq_true (by kernel_rfl)) k1 (fun x hx => hb.same (hlt x (by simp [hx]))) (fun x hx => hsp x (by simp [hx]))) (WideElems.Trod_stays PE.laidOut PE.readY (of_decide_eq_true (by kernel_rfl)) k2 (fun x hx => hb.same (hlt x (by simp [hx]))) (fun x hx => hsp x (by simp [hx]))))
    (fun _ _ => rfl) (by simp) hb (ok_one (by kernel_rfl) rfl (okWide_bool_mk Try.underlying4 true))⟩

theorem treeMeet_holds : Rows.TreeMeetSaid :=
  OpenClaim.holds_of_wide 6 Try.f6 rfl rfl rfl rfl rfl rfl rfl ⟨rfl, rfl, rfl, rfl, rfl⟩ rfl rfl rfl rfl rfl (by kernel_rfl) Try.func6 (by kernel_rfl)
    (of_decide_eq_true (by kernel_rfl)) (by unfold Func.isWrapper; rw [if_neg (of_decide_eq_false (by kernel_rfl))]; exact ⟨rfl, rfl⟩)
    (fun os started H enc _ => treeMeet_lifted os started H enc)

end Go.Proofs.Ytgpbkdfhjkfceaa

