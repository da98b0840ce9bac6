/-
  Whatever ranks, tree and depth are handed in, the statement on Cut answers true and leaves these as it was. Conditions: none but the row's own (memory that leads back into itself is shut out).
-/
import Derived.Test.YtgpbkdfhjkfceaaMg28
import Derived.Test.YtgpbkdfhjkfceaaMg14
import Derived.Test.YtgpbkdfhjkfceaaMg23

/-
  The walk of the statement on Cut, where the example holds. Conditions: none but that the arguments lie in memory.
-/
set_option linter.unusedSimpArgs false
set_option linter.unusedVariables false
namespace Go.Proofs.Ytgpbkdfhjkfceaa
open Go.RowKit

theorem cutE_is (R : List Int) (n : Int) (a : Y) (d : Int) :
    (cutE R n a d).1 = 0 ∧ (cutE R n a d).2.2.sz < 20000 ∨ (cutE R n a d).1 ≠ 0 ∧ (cutE R n a d).2.1 = 0 ∧ (cutE R n a d).2.2 = .nil := by
  unfold cutE
  split
  · rename_i h
    split
    · exact Or.inr ⟨by decide, rfl, rfl⟩
    · exact Or.inl ⟨rfl, (treeOk_split (cut_ok d.toNat (chkOne_ok h))).1⟩
  · rename_i h
    exact Or.inr ⟨h, rfl, rfl⟩

set_option maxRecDepth 100000 in
set_option maxHeartbeats 1600000 in
theorem law_ecut (hal : AliveE) (R : List Int) (a : Y) (n d : Int) (w : World) (rp p : Option Addr) (rn rc l cap : Nat) (hd63 : d ≤ 9223372036854775807) (hR : IsL w R rp rn rc) (his : IsY w a p l cap) :
    Calls Try.prog 8 #[.slice rp rn rc, .agg #[.int .i64 n, .slice p l cap], .int .i64 d] w fun e w' => e = .returned (.bool true) ∧ Below w.heap.size w w' := by
  have hl := his.1
  subst hl
  have hA := Lib.hid hal
  have K0 := kk_one (n1 := n) hR his
  have HX := Lib.hid fun W (h1 : IsL W R rp rn rc) (h2 : IsY W a p a.len cap) => ecuttop_any R a n d W rp p rn rc _ cap hd63 h1 h2
  have HY := Lib.hid fun W (h1 : IsL W R rp rn rc) (h2 : IsY W a p a.len cap) => erefcuttop_any R a n d W rp p rn rc _ cap hd63 h1 h2
  have hE := cutE_is R n a d
  generalize cutE R n a d = f at *
  obtain ⟨x, m, t⟩ := f
  have HZ := Lib.hid fun W q q' c c' h1 h2 => eis_any x m t hE W q q' c c' h1 h2
  have HK := Lib.hid K0
  clear hal K0 hR his hE
  go_enter Try.func8, Try.ntmps8
  go_wp2_with fail
  refine (HX.out _ HK.out.rk HK.out.i1).mono ?_
  rintro e w1 ⟨q, c, rfl, hO1, hb1⟩
  have HK1 := Lib.hid ((HK.out.below hb1).alloc (.cells #[.int .i64 m, .slice q t.len c] 25))
  have hI1 := hO1.isY.alloc (.cells #[.int .i64 m, .slice q t.len c] 25)
  have hx1 := heap_new w1 (.cells #[.int .i64 m, .slice q t.len c] 25)
  have HI1 := Lib.hid hI1
  have HX1 := Lib.hid hx1
  have kc := HK1.out.cells
  obtain ⟨⟨k1, k2⟩, ⟨k3, k4⟩, _⟩ := kc
  clear hb1 HK hO1 hI1 hx1
  go_wp2_with fail
  refine (HY.out _ HK1.out.rk HK1.out.i1).mono ?_
  rintro e w2 ⟨q', c', rfl, hO2, hb2⟩
  have HK2 := Lib.hid ((HK1.out.below hb2).alloc (.cells #[.int .i64 m, .slice q' t.len c'] 25))
  have HI2 := Lib.hid (hO2.isY.alloc (.cells #[.int .i64 m, .slice q' t.len c'] 25))
  have HI3 := Lib.hid ((HI1.out.below hb2).alloc (.cells #[.int .i64 m, .slice q' t.len c'] 25))
  have hx2 := box2_cells (heap_new w2 (.cells #[.int .i64 m, .slice q' t.len c'] 25))
  have hx3 := box2_cells (alloc_kept (box2_later hb2 HX1.out) (.cells #[.int .i64 m, .slice q' t.len c'] 25))
  obtain ⟨u1, u2⟩ := hx2
  obtain ⟨u3, u4⟩ := hx3
  clear hb2 HK1 hO2 HI1 HX1 k1 k2 k3 k4
  go_wp2_with fail
  refine (HZ.out _ q q' c c' HI3.out HI2.out).mono ?_
  rintro e w3 ⟨rfl, hb3⟩
  have HK3 := Lib.hid (HK2.out.below hb3)
  clear hb3 HK2 HI2 HI3 u1 u2 u3 u4
  go_wp2_with fail
  refine (hA.out _).mono ?_
  rintro e w4 ⟨rfl, hb4⟩
  go_wp2_with fail
  go_ret
  exact ⟨rfl, (HK3.out.below hb4).base⟩

end Go.Proofs.Ytgpbkdfhjkfceaa

set_option linter.unusedSimpArgs false
set_option linter.unusedVariables false
namespace Go.Proofs.Ytgpbkdfhjkfceaa
open Go.ChangeShapes Go.WideShapes Go.ChangeAt Go.RowKit
open Go.ChangeMaps (open_string shut_string)

set_option maxRecDepth 100000 in
theorem treeCut_lifted (os : Os) (started : os.Started) (H : Type) (enc : TypeId × Value → H) :
    ReturnsInHanded {} Try.checked os 8 .any (Rows.treeCutSpec.pre6 enc Try.prog Try.f8 Rows.treeCutRow.domain false) (Rows.treeCutSpec.post enc Try.prog Try.f8 false true false false) := by
  refine returnsInHanded_of_change (C := Try.checked) PE.own started (by kernel_rfl) Try.func8
    (ChangeSpec.witness6 (enc := enc) (C := Try.checked) false ⟨#[], #[.slice none 0 0, .agg #[.int .i64 0, .slice none 0 0], .int .i64 0], []⟩ 8 (by kernel_rfl) (by kernel_rfl) (by kernel_rfl) (by kernel_rfl)) ?_
  intro W base args ds gs before hval0 hW hcnd _
  have hval : ∀ (j : Nat) t v, Try.f8.params[j]? = some t → args[j]? = some v → Value.okWide Try.prog W .any base t v := hval0
  have hW' := hW
  obtain ⟨p, q, hA0, hV, rfl, hfz, hnd⟩ := hW
  have hA : DataW.TrodAll enc Try.prog W 0 (fun _ => true) true Try.f8.params.toList args.toList ds p := hA0
  rw [Try.params8] at hA hval
  obtain ⟨v0, v1, v2, d0, d1, d2, p0, p1, p2, rfl, rfl, rfl, h0, h1, h2⟩ := trodAll_three hA
  obtain ⟨rfl, rfl⟩ := trodVars_none hV
  have k0 := h0
  obtain ⟨a0, n0, c0, t0, rfl, i0⟩ := open_ints (hval 0 22 v0 rfl rfl) h0
  have k1 := h1
  obtain ⟨ni1, a1, n1, c1, t1, rfl, i1⟩ := open_tree (hval 1 25 v1 rfl rfl) h1
  obtain ⟨x2, rfl, rfl, rfl, w2⟩ := open_int Try.underlying3 (hval 2 3 v2 rfl rfl) h2
  clear hA0 hval0
  simp only [List.append_nil] at hW'
  refine (law_ecut alive_any t0 t1 ni1 x2 W a0 a1 n0 c0 n1 c1 (wf_hi w2) i0 i1).mono fun e W' ⟨he, hb⟩ => ?_
  subst he
  have hlt := fun x hx => hW'.lt x hx
  exact ⟨_, rfl, post_below (pv := []) hW' (fun _ _ _ => trodAll_mk1 (shut_bool Try.underlying4 true))
    (fun sp hsp => trodAll_mk3 (WideElems.Trod_stays PE.laidOut PE.readI (of_decide_eq_true (by kernel_rfl)) k0 (fun x hx => hb.same (hlt x (by simp [hx]))) (fun x hx => hsp x (by simp [hx]))) (WideElems.Trod_stays PE.laidOut PE.readY (of_decide_eq_true (by kernel_rfl)) k1 (fun x hx => hb.same (hlt x (by simp [hx]))) (fun x hx => hsp x (by simp [hx]))) (shut_int Try.underlying3 w2))
    (fun _ _ => rfl) (by simp) hb (ok_one (by kernel_rfl) rfl (okWide_bool_mk Try.underlying4 true))⟩

theorem treeCut_holds : Rows.TreeCutSaid :=
  OpenClaim.holds_of_wide 8 Try.f8 rfl rfl rfl rfl rfl rfl rfl ⟨rfl, rfl, rfl, rfl, rfl⟩ rfl rfl rfl rfl rfl (by kernel_rfl) Try.func8 (by kernel_rfl)
    (of_decide_eq_true (by kernel_rfl)) (by unfold Func.isWrapper; rw [if_neg (of_decide_eq_false (by kernel_rfl))]; exact ⟨rfl, rfl⟩)
    (fun os started H enc _ => treeCut_lifted os started H enc)

end Go.Proofs.Ytgpbkdfhjkfceaa

