/-
  Whatever ranks and trees are handed in, the statement on AtLeast answers true and leaves these as it was. Conditions: none but the row's own (memory that leads back into itself is shut out).
-/
import Derived.Test.YtgpbkdfhjkfceaaMg28
import Derived.Test.YtgpbkdfhjkfceaaMg23

/-
  The walk of the statement on AtLeast, where the example holds. Conditions: none but that ranks and trees lie in memory.
-/
set_option linter.unusedSimpArgs false
set_option linter.unusedVariables false
namespace Go.Proofs.Ytgpbkdfhjkfceaa
open Go.RowKit

set_option maxRecDepth 100000 in
set_option maxHeartbeats 1600000 in
theorem law_eatleast (hal : AliveE) (R : List Int) (a b : Y) (n n' : Int) (w : World) (rp p p' : Option Addr) (rn rc l cap l' cap' : Nat) (hR : IsL w R rp rn rc) (his : IsY w a p l cap) (hit : IsY w b p' l' cap') :
    Calls Try.prog 5 #[.slice rp rn rc, .agg #[.int .i64 n, .slice p l cap], .agg #[.int .i64 n', .slice p' l' cap']] w fun e w' => e = .returned (.bool true) ∧ Below w.heap.size w w' := by
  have hl := his.1
  subst hl
  have hl' := hit.1
  subst hl'
  have hA := Lib.hid hal
  have K0 := kk_two (n1 := n) (n2 := n') hR his hit
  have HX := Lib.hid fun W (h1 : IsL W R rp rn rc) (h2 : IsY W a p a.len cap) (h3 : IsY W b p' b.len cap') => eatleast_any R a b n n' W rp p p' rn rc _ cap _ cap' h1 h2 h3
  have HY := Lib.hid fun W (h1 : IsL W R rp rn rc) (h2 : IsY W a p a.len cap) (h3 : IsY W b p' b.len cap') => erefatleast_any R a b n n' W rp p p' rn rc _ cap _ cap' h1 h2 h3
  generalize (leastE R n a n' b).1 = r1 at *
  generalize (leastE R n a n' b).2 = r2 at *
  have HK := Lib.hid K0
  clear hal K0 hR his hit
  go_enter Try.func5, Try.ntmps5
  go_wp2_with fail
  refine (HX.out _ HK.out.rk HK.out.i1 HK.out.i2).mono ?_
  rintro e w1 ⟨rfl, hb1⟩
  have HK1 := Lib.hid (HK.out.below hb1)
  have kc := HK1.out.cells
  obtain ⟨⟨k1, k2⟩, ⟨k3, k4⟩, _⟩ := kc
  clear hb1 HK
  go_wp2_with fail
  refine (HY.out _ HK1.out.rk HK1.out.i1 HK1.out.i2).mono ?_
  rintro e w2 ⟨rfl, hb2⟩
  have HK2 := Lib.hid (HK1.out.below hb2)
  clear hb2 HK1 k1 k2 k3 k4
  have hrr : (r1 == r1) = true := by simp
  go_wp2_with fail
  refine (hA.out _).mono ?_
  rintro e w3 ⟨rfl, hb3⟩
  go_wp2_with fail
  go_ret
  exact ⟨rfl, (HK2.out.below hb3).base⟩

end Go.Proofs.Ytgpbkdfhjkfceaa

set_option linter.unusedSimpArgs false
set_option linter.unusedVariables false
namespace Go.Proofs.Ytgpbkdfhjkfceaa
open Go.ChangeShapes Go.WideShapes Go.ChangeAt Go.RowKit
open Go.ChangeMaps (open_string shut_string)

set_option maxRecDepth 100000 in
theorem treeAtLeast_lifted (os : Os) (started : os.Started) (H : Type) (enc : TypeId × Value → H) :
    ReturnsInHanded {} Try.checked os 5 .any (Rows.treeAtLeastSpec.pre6 enc Try.prog Try.f5 Rows.treeAtLeastRow.domain false) (Rows.treeAtLeastSpec.post enc Try.prog Try.f5 false true false false) := by
  refine returnsInHanded_of_change (C := Try.checked) PE.own started (by kernel_rfl) Try.func5
    (ChangeSpec.witness6 (enc := enc) (C := Try.checked) false ⟨#[], #[.slice none 0 0, .agg #[.int .i64 0, .slice none 0 0], .agg #[.int .i64 0, .slice none 0 0]], []⟩ 8 (by kernel_rfl) (by kernel_rfl) (by kernel_rfl) (by kernel_rfl)) ?_
  intro W base args ds gs before hval0 hW hcnd _
  have hval : ∀ (j : Nat) t v, Try.f5.params[j]? = some t → args[j]? = some v → Value.okWide Try.prog W .any base t v := hval0
  have hW' := hW
  obtain ⟨p, q, hA0, hV, rfl, hfz, hnd⟩ := hW
  have hA : DataW.TrodAll enc Try.prog W 0 (fun _ => true) true Try.f5.params.toList args.toList ds p := hA0
  rw [Try.params5] at hA hval
  obtain ⟨v0, v1, v2, d0, d1, d2, p0, p1, p2, rfl, rfl, rfl, h0, h1, h2⟩ := trodAll_three hA
  obtain ⟨rfl, rfl⟩ := trodVars_none hV
  have k0 := h0
  obtain ⟨a0, n0, c0, t0, rfl, i0⟩ := open_ints (hval 0 22 v0 rfl rfl) h0
  have k1 := h1
  obtain ⟨ni1, a1, n1, c1, t1, rfl, i1⟩ := open_tree (hval 1 25 v1 rfl rfl) h1
  have k2 := h2
  obtain ⟨ni2, a2, n2, c2, t2, rfl, i2⟩ := open_tree (hval 2 25 v2 rfl rfl) h2
  clear hA0 hval0
  simp only [List.append_nil] at hW'
  refine (law_eatleast alive_any t0 t1 t2 ni1 ni2 W a0 a1 a2 n0 c0 n1 c1 n2 c2 i0 i1 i2).mono fun e W' ⟨he, hb⟩ => ?_
  subst he
  have hlt := fun x hx => hW'.lt x hx
  exact ⟨_, rfl, post_below (pv := []) hW' (fun _ _ _ => trodAll_mk1 (shut_bool Try.underlying4 true))
    (fun sp hsp => trodAll_mk3 (WideElems.Trod_stays PE.laidOut PE.readI (of_decide_eq_true (by kernel_rfl)) k0 (fun x hx => hb.same (hlt x (by simp [hx]))) (fun x hx => hsp x (by simp [hx]))) (WideElems.Trod_stays PE.laidOut PE.readY (of_decide_eq_true (by kernel_rfl)) k1 (fun x hx => hb.same (hlt x (by simp [hx]))) (fun x hx => hsp x (by simp [hx]))) (WideElems.Trod_stays PE.laidOut PE.readY (of_decide_eq_true (by kernel_rfl)) k2 (fun x hx => hb.same (hlt x (by simp [hx]))) (fun x hx => hsp x (by simp [hx]))))
    (fun _ _ => rfl) (by simp) hb (ok_one (by kernel_rfl) rfl (okWide_bool_mk Try.underlying4 true))⟩

theorem treeAtLeast_holds : Rows.TreeAtLeastSaid :=
  OpenClaim.holds_of_wide 5 Try.f5 rfl rfl rfl rfl rfl rfl rfl ⟨rfl, rfl, rfl, rfl, rfl⟩ rfl rfl rfl rfl rfl (by kernel_rfl) Try.func5 (by kernel_rfl)
    (of_decide_eq_true (by kernel_rfl)) (by unfold Func.isWrapper; rw [if_neg (of_decide_eq_false (by kernel_rfl))]; exact ⟨rfl, rfl⟩)
    (fun os started H enc _ => treeAtLeast_lifted os started H enc)

end Go.Proofs.Ytgpbkdfhjkfceaa

