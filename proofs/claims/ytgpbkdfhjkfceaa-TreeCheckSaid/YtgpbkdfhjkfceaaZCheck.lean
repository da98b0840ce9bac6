/-
  Whatever ranks and tree are handed in, the statement on Check and Size answers true and leaves these as it was. Conditions: none but the row's own (memory that leads back into itself is shut out).
-/
import Derived.Test.YtgpbkdfhjkfceaaMg28
import Derived.Test.YtgpbkdfhjkfceaaMg14
import Derived.Deep.RegionHeld3
import Derived.Test.YtgpbkdfhjkfceaaMg23

/-
  The walk of the statement on Check and Size, where the example holds. Conditions: none but that ranks and tree lie in memory.
-/
set_option linter.unusedSimpArgs false
set_option linter.unusedVariables false
namespace Go.Proofs.Ytgpbkdfhjkfceaa
open Go.RowKit

theorem later_drew {W w : World} (hb : Below W.drew.heap.size W.drew w) : Below W.heap.size W w := ⟨hb.os, hb.tape, hb.output, hb.size, hb.block⟩

set_option maxRecDepth 100000 in
set_option maxHeartbeats 1000000 in
theorem law_echeck (hal : AliveE) (R : List Int) (a : Y) (n : Int) (w : World) (rp p : Option Addr) (rn rc l cap : Nat) (hR : IsL w R rp rn rc) (his : IsY w a p l cap) :
    Calls Try.prog 3 #[.slice rp rn rc, .agg #[.int .i64 n, .slice p l cap]] w fun e w' => e = .returned (.bool true) ∧ Below w.heap.size w w' := by
  have hl := his.1
  subst hl
  have hA := Lib.hid hal
  have K0 := kk_one (n1 := n) hR his
  have HS := Lib.hid fun W (h : IsY W a p a.len cap) => esize_any a n W p _ cap h
  have HT := Lib.hid fun W (h : IsY W a p a.len cap) => erefsize_any a n W p _ cap h
  have HC := Lib.hid fun W (h : KK w W R rp rn rc w.heap.size w.heap.size w.heap.size n a p cap n a p cap n a p cap) => echeckone_any R a n W rp p rn rc _ cap h.rk h.i1
  have HD := Lib.hid fun W q (h1 : IsL W R rp rn rc) (h2 : IsY W (.cons n a .nil) q 1 1) => erefcheck_any R (.cons n a .nil) W rp q rn rc 1 1 h1 h2
  change Hid (∀ W q, IsL W R rp rn rc → IsY W (.cons n a .nil) q 1 1 → Calls _ _ _ _ (fun e w' => e = .returned (.int .i64 (chkOne R n a)) ∧ _)) at HD
  generalize chkOne R n a = x at *
  generalize a.szN = sN at *
  generalize a.szD = sD at *
  have HK := Lib.hid K0
  clear hal K0 hR his
  go_enter Try.func3, Try.ntmps3
  go_wp2_with fail
  refine (HS.out _ HK.out.i1).mono ?_
  rintro e w1 ⟨rfl, hb1⟩
  have HK1 := Lib.hid (HK.out.below hb1)
  have kc := HK1.out.cells
  obtain ⟨⟨k1, k2⟩, _, _⟩ := kc
  clear hb1 HK
  go_wp2_with fail
  refine (HT.out _ HK1.out.i1).mono ?_
  rintro e w2 ⟨rfl, hb2⟩
  have HK2 := Lib.hid (HK1.out.below hb2)
  have kc := HK2.out.cells
  obtain ⟨⟨k1, k2⟩, _, _⟩ := kc
  have MK := Lib.hid fun W (h : KK w W R rp rn rc w.heap.size w.heap.size w.heap.size n a p cap n a p cap n a p cap) => (And.intro h.cells.1.1 (And.intro h.cells.1.2 h) : W.cell? ⟨w.heap.size, 0, none⟩ = some (.int .i64 n) ∧ W.cell? ⟨w.heap.size, 1, none⟩ = some (.slice p a.len cap) ∧ KK w W R rp rn rc w.heap.size w.heap.size w.heap.size n a p cap n a p cap n a p cap)
  have RS := Lib.hid fun W (h : W.cell? ⟨w.heap.size, 0, none⟩ = some (.int .i64 n) ∧ W.cell? ⟨w.heap.size, 1, none⟩ = some (.slice p a.len cap) ∧ KK w W R rp rn rc w.heap.size w.heap.size w.heap.size n a p cap n a p cap n a p cap) => (h.2.2 : KK w W R rp rn rc w.heap.size w.heap.size w.heap.size n a p cap n a p cap n a p cap)
  have f3 := MK.out _ HK2.out.drew
  clear hb2 HK1
  go_wp2_with fail
  go_region_held3 (fun W => W.cell? ⟨w.heap.size, 0, none⟩ = some (.int .i64 n) ∧ W.cell? ⟨w.heap.size, 1, none⟩ = some (.slice p a.len cap) ∧ KK w W R rp rn rc w.heap.size w.heap.size w.heap.size n a p cap n a p cap n a p cap)
    (first | exact f3 | exact MK.out _ ((RS.out _ (by assumption)).below (by assumption)) | exact MK.out _ (HK2.out.alloc _).drew | exact MK.out _ ((RS.out _ (by assumption)).alloc _))
    (first
    | (go_at_call 20; refine (HC.out _ (RS.out _ (by assumption))).mono ?_; rintro e w3 ⟨rfl, hb3⟩)
    | (go_at_call 21; refine (HD.out _ _ (RS.out _ (by assumption)).rk ?_).mono ?_; (first | exact isY_one (heap_new w2 _) (RS.out _ (by assumption)).i1 | exact isY_one (heap_new w3 _) (RS.out _ (by assumption)).i1 | exact isY_one (box2_later (later_drew hb3) (heap_new w2 _)) (RS.out _ (by assumption)).i1 | exact isY_one (box2_later hb3 (heap_new w2.drew _)) (RS.out _ (by assumption)).i1); rintro e w4 ⟨rfl, hb4⟩)
    | (go_at_call 22; refine (hA.out _).mono ?_; rintro e w5 ⟨rfl, hb5⟩))
  all_goals
    go_wp2_with fail
    go_ret
    exact ⟨rfl, (RS.out _ (by assumption)).base⟩

end Go.Proofs.Ytgpbkdfhjkfceaa

set_option linter.unusedSimpArgs false
set_option linter.unusedVariables false
namespace Go.Proofs.Ytgpbkdfhjkfceaa
open Go.ChangeShapes Go.WideShapes Go.ChangeAt Go.RowKit
open Go.ChangeMaps (open_string shut_string)

set_option maxRecDepth 100000 in
theorem treeCheck_lifted (os : Os) (started : os.Started) (H : Type) (enc : TypeId × Value → H) :
    ReturnsInHanded {} Try.checked os 3 .any (Rows.treeCheckSpec.pre6 enc Try.prog Try.f3 Rows.treeCheckRow.domain false) (Rows.treeCheckSpec.post enc Try.prog Try.f3 false true false false) := by
  refine returnsInHanded_of_change (C := Try.checked) PE.own started (by kernel_rfl) Try.func3
    (ChangeSpec.witness6 (enc := enc) (C := Try.checked) false ⟨#[], #[.slice none 0 0, .agg #[.int .i64 0, .slice none 0 0]], []⟩ 8 (by kernel_rfl) (by kernel_rfl) (by kernel_rfl) (by kernel_rfl)) ?_
  intro W base args ds gs before hval0 hW hcnd _
  have hval : ∀ (j : Nat) t v, Try.f3.params[j]? = some t → args[j]? = some v → Value.okWide Try.prog W .any base t v := hval0
  have hW' := hW
  obtain ⟨p, q, hA0, hV, rfl, hfz, hnd⟩ := hW
  have hA : DataW.TrodAll enc Try.prog W 0 (fun _ => true) true Try.f3.params.toList args.toList ds p := hA0
  rw [Try.params3] at hA hval
  obtain ⟨v0, v1, d0, d1, p0, p1, rfl, rfl, rfl, h0, h1⟩ := trodAll_two hA
  obtain ⟨rfl, rfl⟩ := trodVars_none hV
  have k0 := h0
  obtain ⟨a0, n0, c0, t0, rfl, i0⟩ := open_ints (hval 0 22 v0 rfl rfl) h0
  have k1 := h1
  obtain ⟨ni1, a1, n1, c1, t1, rfl, i1⟩ := open_tree (hval 1 25 v1 rfl rfl) h1
  clear hA0 hval0
  simp only [List.append_nil] at hW'
  refine (law_echeck alive_any t0 t1 ni1 W a0 a1 n0 c0 n1 c1 i0 i1).mono fun e W' ⟨he, hb⟩ => ?_
  subst he
  have hlt := fun x hx => hW'.lt x hx
  exact ⟨_, rfl, post_below (pv := []) hW' (fun _ _ _ => trodAll_mk1 (shut_bool Try.underlying4 true))
    (fun sp hsp => trodAll_mk2 (WideElems.Trod_stays PE.laidOut PE.readI (of_decide_eq_true (by kernel_rfl)) k0 (fun x hx => hb.same (hlt x (by simp [hx]))) (fun x hx => hsp x (by simp [hx]))) (WideElems.Trod_stays PE.laidOut PE.readY (of_decide_eq_true (by kernel_rfl)) k1 (fun x hx => hb.same (hlt x (by simp [hx]))) (fun x hx => hsp x (by simp [hx]))))
    (fun _ _ => rfl) (by simp) hb (ok_one (by kernel_rfl) rfl (okWide_bool_mk Try.underlying4 true))⟩

theorem treeCheck_holds : Rows.TreeCheckSaid :=
  OpenClaim.holds_of_wide 3 Try.f3 rfl rfl rfl rfl rfl rfl rfl ⟨rfl, rfl, rfl, rfl, rfl⟩ rfl rfl rfl rfl rfl (by kernel_rfl) Try.func3 (by kernel_rfl)
    (of_decide_eq_true (by kernel_rfl)) (by unfold Func.isWrapper; rw [if_neg (of_decide_eq_false (by kernel_rfl))]; exact ⟨rfl, rfl⟩)
    (fun os started H enc _ => treeCheck_lifted os started H enc)

end Go.Proofs.Ytgpbkdfhjkfceaa

