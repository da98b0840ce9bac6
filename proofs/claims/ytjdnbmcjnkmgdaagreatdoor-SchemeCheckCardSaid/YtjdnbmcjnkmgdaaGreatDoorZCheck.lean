/-
  Whatever scheme is handed in, the statement on Check answers true and leaves the scheme as it was. Conditions: none but the row's own (the package variables read as the program's text lays them).
-/
import Derived.Test.YtjdnbmcjnkmgdaaGreatDoorMh02
import Derived.Test.YtjdnbmcjnkmgdaaGreatDoorMg31
import Derived.Test.YtjdnbmcjnkmgdaaGreatDoorCards
import Derived.Test.YtjdnbmcjnkmgdaaGreatDoorTie
import Derived.SevenTiedAt

/-
  The walk of the reference's Check, and of the statement on Check. Conditions: that the scheme lies in memory, and the package variables read as laid.
-/
set_option linter.unusedSimpArgs false
set_option linter.unusedVariables false
namespace Go.Proofs.YtjdnbmcjnkmgdaaGreatDoor
open Go.RowKit Go.Maps

set_option maxRecDepth 100000 in
set_option maxHeartbeats 2000000 in
theorem refcheck3_any (x : Sc) (a : At2) (w : World) (h : IsC w x a) :
    Calls Tryz.prog 15 #[.agg #[.slice a.sp a.sn a.sc, .slice a.fp a.fn a.fc]] w fun e w' => e = .returned (.int .i64 (scE x)) ∧ Below w.heap.size w w' := by
  have HK := Lib.hid fun W h => refis3_any x a W h
  cases hs : scOk x with
  | false =>
    have he : scE x = 7 := by unfold scE; rw [hs]; rfl
    rw [hs] at HK
    rw [he]
    clear he hs
    go_enter Tryz.func15, Tryz.ntmps15
    go_wp2_with fail
    refine (HK.out _ (h.alloc _)).mono ?_
    rintro e w1 ⟨rfl, hb1⟩
    go_wp2_with fail
    go_ret
    exact ⟨rfl, ((Below.refl _ _).alloc (Nat.le_refl _) _).trans (hb1.mono (by simp))⟩
  | true =>
    have he : scE x = 0 := by unfold scE; rw [hs]; rfl
    rw [hs] at HK
    rw [he]
    clear he hs
    go_enter Tryz.func15, Tryz.ntmps15
    go_wp2_with fail
    refine (HK.out _ (h.alloc _)).mono ?_
    rintro e w1 ⟨rfl, hb1⟩
    go_wp2_with fail
    go_ret
    exact ⟨rfl, ((Below.refl _ _).alloc (Nat.le_refl _) _).trans (hb1.mono (by simp))⟩

theorem h2_next {w0 W W' : World} {sb : Nat} {u1 u2 : Value} (hb : Below W.heap.size W W') (h : W.cell? ⟨sb, 0, none⟩ = some u1 ∧ W.cell? ⟨sb, 1, none⟩ = some u2 ∧ Below w0.heap.size w0 W) :
    W'.cell? ⟨sb, 0, none⟩ = some u1 ∧ W'.cell? ⟨sb, 1, none⟩ = some u2 ∧ Below w0.heap.size w0 W' := by
  obtain ⟨h1, h2, h6⟩ := h
  have hk := (bcell hb).1
  exact ⟨(hk _ _ (lt_of_cell h1)).trans h1, (hk _ _ (lt_of_cell h2)).trans h2, h6.trans (hb.mono h6.size)⟩

theorem h2_bel {w0 W : World} {sb : Nat} {u1 u2 : Value} (h : W.cell? ⟨sb, 0, none⟩ = some u1 ∧ W.cell? ⟨sb, 1, none⟩ = some u2 ∧ Below w0.heap.size w0 W) : Below w0.heap.size w0 W := h.2.2

set_option maxRecDepth 100000 in
set_option maxHeartbeats 4000000 in
theorem law_scheck (x : Sc) (a : At2) (w : World) (h : IsC w x a) (hg : Gl w) (h6 : 6 ≤ w.heap.size) :
    Calls Tryz.prog 3 #[.agg #[.slice a.sp a.sn a.sc, .slice a.fp a.fn a.fc]] w fun e w' => e = .returned (.bool true) ∧ Below w.heap.size w w' := by
  have HC := Lib.hid fun W (hb : Below w.heap.size w W) => scheck_any x a W (h.below hb)
  have HR := Lib.hid fun W (hb : Below w.heap.size w W) => refcheck3_any x a W (h.below hb)
  have HA := Lib.hid fun W (hb : Below w.heap.size w W) => alive3_any W (hg.keep fun b hb' => hb.block b (by omega)) (by have := hb.size; omega)
  obtain ⟨sp, sn, sc, fp, fn, fc⟩ := a
  dsimp only at HC HR ⊢
  have hbx := heap_new w (.cells #[.slice sp sn sc, .slice fp fn fc] 25)
  have K0 : (w.alloc (.cells #[.slice sp sn sc, .slice fp fn fc] 25)).drew.cell? ⟨w.heap.size, 0, none⟩ = some (.slice sp sn sc) ∧ (w.alloc (.cells #[.slice sp sn sc, .slice fp fn fc] 25)).drew.cell? ⟨w.heap.size, 1, none⟩ = some (.slice fp fn fc) ∧ Below w.heap.size w (w.alloc (.cells #[.slice sp sn sc, .slice fp fn fc] 25)).drew :=
    ⟨(two_box hbx).1.1, (two_box hbx).1.2, ((Below.refl _ _).alloc (Nat.le_refl _) _).drew⟩
  generalize scE x = k at HC HR
  clear h hg h6 hbx
  go_enter Tryz.func3, Tryz.ntmps3
  go_wp2_with fail
  go_region_held3 (fun W => W.cell? ⟨w.heap.size, 0, none⟩ = some (.slice sp sn sc) ∧ W.cell? ⟨w.heap.size, 1, none⟩ = some (.slice fp fn fc) ∧ Below w.heap.size w W)
    (first | with_reducible exact K0 | (refine h2_next hb5 ?_; assumption) | (refine h2_next hb4 ?_; assumption) | (refine h2_next hb3 ?_; assumption))
    (first
    | (go_at_call 14; refine (HC.out _ (h2_bel (by assumption))).mono ?_; rintro e w3 ⟨rfl, hb3⟩)
    | (go_at_call 15; refine (HR.out _ (h2_bel (by assumption))).mono ?_; rintro e w4 ⟨rfl, hb4⟩)
    | (go_at_call 16; refine (HA.out _ (h2_bel (by assumption))).mono ?_; rintro e w5 ⟨rfl, hb5⟩))
  all_goals
    go_wp2_with fail
    go_ret
    exact ⟨rfl, h2_bel (by assumption)⟩

end Go.Proofs.YtjdnbmcjnkmgdaaGreatDoor

set_option linter.unusedSimpArgs false
set_option linter.unusedVariables false
namespace Go.Proofs.YtjdnbmcjnkmgdaaGreatDoor
open Go.ChangeShapes Go.WideShapes Go.ChangeAt Go.RowKit
open Go.ChangeMaps (open_string shut_string)

set_option maxRecDepth 100000 in
theorem schemeCheck_lifted (os : Os) (started : os.Started) (H : Type) (enc : TypeId × Value → H) :
    ReturnsInHanded {} Tryz.checked os 3 .any (fun w args => (Rows.schemeCheckSpec.pre enc Tryz.prog Tryz.f3 [] false w args ∧ laidMetH Tryz.prog laidL w) ∧ sizedMet enc Tryz.prog Tryz.f3 (OpenSpec.ofChange Rows.schemeCheckSpec) false w args)
      (Rows.schemeCheckSpec.post enc Tryz.prog Tryz.f3 false true false false) := by
  refine lifted_shaped (C := Tryz.checked) (X := fun w _ => laidMetH Tryz.prog laidL w) (fun _ _ _ hh h => h.of_heap hh) P.own started (by kernel_rfl) Tryz.func3
    (ChangeSpec.witness_shaped (enc := enc) (C := Tryz.checked) (os := os) (X := fun w _ => laidMetH Tryz.prog laidL w) false (World.doorLaid Tryz.prog 62 os) #[.agg #[.slice none 0 0, .slice none 0 0]] 8 rfl (World.shaped_of_RefB (by kernel_rfl) (by kernel_rfl)) (by kernel_rfl) (by kernel_rfl) (by kernel_rfl) (door_met os _)) ?_
  intro W args ds gs before hval0 hW _ hL hsh
  have hW' := hW
  obtain ⟨p, q, hA0, hV, rfl, hfz, hnd⟩ := hW
  have hA : DataW.TrodAll enc Tryz.prog W 0 (fun _ => true) true Tryz.f3.params.toList args.toList ds p := hA0
  rw [Tryz.params3] at hA hval0
  obtain ⟨v0, d0, rfl, rfl, h0⟩ := trodAll_one hA
  obtain ⟨rfl, rfl⟩ := trodVars_none hV
  have k0 := h0
  obtain ⟨base0, hv0⟩ := hval0 0 25 v0 rfl rfl
  obtain ⟨x0, b0, rfl, i0⟩ := open_scheme hv0 h0
  clear hA0 hval0
  simp only [List.append_nil] at hW'
  obtain ⟨hg, h6⟩ := gl_of hL hsh
  refine (law_scheck x0 b0 W i0 hg h6).mono fun e W' ⟨he, hb⟩ => ?_
  subst he
  have hlt := fun x hx => hW'.lt x hx
  exact ⟨_, rfl, post_below (pv := []) hW' (fun _ _ _ => trodAll_mk1 (shut_bool Tryz.underlying4 true))
    (fun sp hsp => trodAll_mk1 (WideElems.Trod_stays P.laidOut P.readC (of_decide_eq_true (by kernel_rfl)) k0 (fun x hx => hb.same (hlt x (by simp [hx]))) (fun x hx => hsp x (by simp [hx]))))
    (fun _ _ => rfl) (by simp) hb (ok_one (by kernel_rfl) rfl (okWide_bool_mk Tryz.underlying4 true))⟩

theorem schemeCheck_row : Rows.SchemeCheckSaid :=
  OpenClaim.holds_of_wide 3 Tryz.f3 rfl rfl rfl rfl rfl rfl rfl ⟨rfl, rfl, rfl, rfl, rfl⟩ rfl rfl rfl rfl rfl (by kernel_rfl) Tryz.func3 (by kernel_rfl)
    (of_decide_eq_true (by kernel_rfl)) (by unfold Func.isWrapper; rw [if_neg (of_decide_eq_false (by kernel_rfl))]; exact ⟨rfl, rfl⟩)
    (fun os started H enc _ => schemeCheck_lifted os started H enc)

theorem schemeCheck_holds : Rows.SchemeCheckCardSaid :=
  Claim7.holds_tied_plain_at .later [] [.data, .data, .data, .sentinel, .sentinel] true Rows.schemeCheckCard.stood.harness true
    schemeCheck_row (fun _ h => by cases h) (by kernel_rfl) (fun _ h => by cases h) schemeCheck_row_tie rfl ⟨rfl, rfl⟩ (by kernel_rfl) rfl
    (fun f fn hf hfn => by
      obtain rfl : f = 3 := Option.some.inj ((show Tryz.prog.funcNamed "virgation/virgationlaw03.SchemeCheck" = some 3 by kernel_rfl).symm.trans hf) |>.symm
      obtain rfl : fn = Tryz.f3 := (Option.some.inj (Tryz.func3.symm.trans hfn)).symm
      exact ⟨by kernel_rfl, fun j t ht => by
        rw [Tryz.params3] at ht
        have hm : t ∈ [25] := by simpa using Array.mem_of_getElem? ht
        have hall : ([25].all fun u => !Tryz.prog.wantsStandIn u) = true := by kernel_rfl
        exact (show Tryz.prog.wantsStandIn t = false by simpa using List.all_eq_true.1 hall t hm)⟩)
    (by kernel_rfl)

end Go.Proofs.YtjdnbmcjnkmgdaaGreatDoor

