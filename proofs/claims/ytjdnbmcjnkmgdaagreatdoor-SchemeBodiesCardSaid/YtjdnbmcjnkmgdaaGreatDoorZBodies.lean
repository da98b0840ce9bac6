/-
  Whatever scheme is handed in, the statement on the bodies answers true and leaves the scheme as it was. Conditions: none but the row's own (the package variables read as the program's text lays them).
-/
import Derived.Test.YtjdnbmcjnkmgdaaGreatDoorMg30
import Derived.Test.YtjdnbmcjnkmgdaaGreatDoorMg31
import Derived.Test.YtjdnbmcjnkmgdaaGreatDoorCards
import Derived.Test.YtjdnbmcjnkmgdaaGreatDoorTie
import Derived.SevenTiedAt

/-
  The walk of the statement on bodies. Conditions: that the scheme lies in memory, and the package variables read as laid.
-/
set_option linter.unusedSimpArgs false
set_option linter.unusedVariables false
namespace Go.Proofs.YtjdnbmcjnkmgdaaGreatDoor
open Go.RowKit Go.Maps

theorem fits_sort {x : Pl} {k n : Int} {a : X} (h : fitsB x k n a = true) : ∃ S, sortRes x k n a = (0, S) ∧ S.len = 0 := by
  simp only [fitsB, Bool.and_eq_true, decide_eq_true_eq] at h
  refine ⟨(sortRes x k n a).2, ?_, h.2.2⟩
  rw [← h.2.1]

theorem scOk_start {x : Sc} (h : scOk x = true) : (x.F.st 0).len = 0 ∧ x.F.len ≠ 0 := by
  simp only [scOk, Bool.and_eq_true, Bool.not_eq_true', decide_eq_false_iff_not] at h
  exact ⟨by omega, h.1.1.1.1.1⟩

theorem scOk_body {x : Sc} (h : scOk x = true) {i : Nat} (hi : i < x.F.len) : bodyOk x i = true := by
  simp only [scOk, Bool.and_eq_true] at h
  exact bodiesOk_at x _ _ h.2 i (Nat.zero_le _) (by omega)

set_option maxRecDepth 100000 in
set_option maxHeartbeats 4000000 in
theorem law_sbodies_no (x : Sc) (a : At2) (w : World) (h : IsC w x a) (hg : Gl w) (h6 : 6 ≤ w.heap.size) (hno : scOk x = false) :
    Calls Tryz.prog 11 #[.agg #[.slice a.sp a.sn a.sc, .slice a.fp a.fn a.fc]] w fun e w' => e = .returned (.bool true) ∧ Below w.heap.size w w' := by
  have HK := Lib.hid fun W h => scheck_any x a W h
  have HA := Lib.hid fun W h h' => alive3_any W h h'
  have he : scE x = 7 := by unfold scE; rw [hno]; rfl
  rw [he] at HK
  clear he
  go_enter Tryz.func11, Tryz.ntmps11
  go_wp2_with fail
  refine (HK.out _ (h.alloc _)).mono ?_
  rintro e w1 ⟨rfl, hb1⟩
  have B1 : Below w.heap.size w w1 := ((Below.refl _ _).alloc (Nat.le_refl _) _).trans (hb1.mono (by simp))
  have HB1 := Lib.hid B1
  clear B1 hb1
  go_wp2_with fail
  refine (HA.out _ (hg.keep fun b hb => HB1.out.block b (by omega)) (by have := HB1.out.size; omega)).mono ?_
  rintro e w2 ⟨rfl, hb2⟩
  go_wp2_with fail
  go_ret
  exact ⟨rfl, HB1.out.trans (hb2.mono HB1.out.size)⟩

set_option maxRecDepth 100000 in
set_option maxHeartbeats 8000000 in
theorem law_sbodies_ok (x : Sc) (a : At2) (w : World) (h : IsC w x a) (hg : Gl w) (h6 : 6 ≤ w.heap.size) (hok : scOk x = true) :
    Calls Tryz.prog 11 #[.agg #[.slice a.sp a.sn a.sc, .slice a.fp a.fn a.fc]] w fun e w' => e = .returned (.bool true) ∧ Below w.heap.size w w' := by
  have hcf := (good_of hok).funs
  have HK := Lib.hid fun W h => scheck_any x a W h
  have HA := Lib.hid fun W h h' => alive3_any W h h'
  have he : scE x = 0 := by unfold scE; rw [hok]; rfl
  rw [he] at HK
  clear he
  have HBO := Lib.hid fun i hi => scOk_body (x := x) (i := i) hok hi
  obtain ⟨hs0, c0⟩ := scOk_start hok
  obtain ⟨i0, hi0, hz0, hz1', hz2⟩ := info_parts infoS
  obtain ⟨sp, sn, sc, fp, fn, fc⟩ := a
  obtain ⟨hS, hF⟩ := id h
  dsimp only at hS hF ⊢ HK
  obtain rfl : fn = x.F.len := hF.1
  have hbx := heap_new w (.cells #[.slice sp sn sc, .slice fp x.F.len fc] 25)
  obtain ⟨b0, off, p0, n0, c0', rfl, g2, en⟩ := at_zero hF c0
  obtain rfl : n0 = 0 := by omega
  obtain ⟨_, _, _, _, hrow0⟩ := id hF
  have hr : RowF w x.F b0 off := by
    rcases hrow0 with h | ⟨b', off', e, hr⟩
    · omega
    · injection e with e
      injection e with e1 e2
      subst e1 e2
      exact hr
  have HC := Lib.hid h
  have HX := Lib.hid hbx
  have hk := Lib.hid g2
  have HR := Lib.hid hr
  have HSy := Lib.hid hS
  have hlen : 0 < x.F.len := by omega
  have hlen2 : (0 : Int) < (x.F.len : Int) := by omega
  clear hS hF hbx g2 hr hrow0 en hs0 hok h c0
  go_enter Tryz.func11, Tryz.ntmps11
  go_wp2_with fail
  refine (HK.out _ (HC.out.alloc _)).mono ?_
  rintro e w1 ⟨rfl, hb1⟩
  have B1 := below_call hb1
  have hb2 := box3_later hb1 HX.out
  obtain ⟨s3, s4⟩ := two_cells hb2
  have s5 := fun o => (two_cells (alloc_kept hb2 o)).2
  have HP0 := Lib.hid (PS.start (F := x.F) (sp := sp) (sn := sn) (sc := sc) hb2 B1)
  clear hb2 B1 hb1 HX HK HC
  go_wp2_with fail
  go_loopw [20] (fun v wr => ∃ (j : Nat) (q : Option Addr) (c : Nat) (vs : List Value), j ≤ x.F.len ∧ v = .int .i64 (j : Int) ∧ PS w x.F (.cells #[.slice sp sn sc, .slice (some ⟨b0, off, none⟩) x.F.len fc] 25 (0, 0)) sp sn sc w1.heap.size j q c vs (.slice none 0 0) wr)
    (fun v _ => x.F.len - (Go.RowKit.intOf v).toNat)
  case atStart => exact ⟨0, none, 0, [], Nat.zero_le _, rfl, HP0.out⟩
  case round =>
    clear HP0 s3 s4 s5
    obtain ⟨j, q, c, vs, hj, rfl, hP⟩ := hrel
    by_cases hlt : j < x.F.len
    · obtain ⟨p', n', c', q', m', d', e1, e2, e3, e4, e5, e6, e7⟩ := HR.out j hlt
      have hkk := (bcell hP.bel).1
      have f1 := (hkk _ _ (lt_of_cell e1)).trans e1
      have f2 := (hkk _ _ (lt_of_cell e2)).trans e2
      have f3 := (hkk _ _ (lt_of_cell e3)).trans e3
      have f4 := (hkk _ _ (lt_of_cell e4)).trans e4
      have f5 := (hkk _ _ (lt_of_cell e5)).trans e5
      have HPP := Lib.hid hP
      have HT := Lib.hid e6
      clear hP hkk e1 e2 e3 e4 e5 e6 e7
      generalize x.F.nm j = s at f1
      generalize x.F.bk j = bk at f3
      generalize x.F.bn j = bn at f4
      go_upto_region 7 with fail
      have S2 := HPP.out.alloc (.cells #[.string s, .slice p' n' c', .int .i64 bk, .int .i64 bn, .slice q' m' d'] 52)
      obtain ⟨y1, y2, y3, y4, y5⟩ := three_cells S2.box
      obtain ⟨v1, v2, v3, v4, v5⟩ := five_cells (heap_new wr (.cells #[.string s, .slice p' n' c', .int .i64 bk, .int .i64 bn, .slice q' m' d'] 52))
      have hbase : w1.heap.size + 1 ≤ wr.heap.size := lt_of_block HPP.out.box
      have hbase2 : w1.heap.size + 1 ≤ (wr.alloc (.cells #[.string s, .slice p' n' c', .int .i64 bk, .int .i64 bn, .slice q' m' d'] 52)).heap.size := by simp only [World.size_alloc]; omega
      generalize wr.heap.size = bf at v1 v2 v3 v4 v5 ⊢
      generalize wr.alloc (.cells #[.string s, .slice p' n' c', .int .i64 bk, .int .i64 bn, .slice q' m' d'] 52) = W2 at S2 y1 y2 y3 y4 y5 v1 v2 v3 v4 v5 hbase2 ⊢
      have HS2 := Lib.hid S2
      have hown := S2.own
      have hmx : j + 1 ≤ maxLen := by simp only [maxLen]; omega
      have hby : (j + 1) * 24 ≤ 140737488355328 := by omega
      clear S2 f1 f2 f3 f4 f5
      go_wp2_with (at_builtin; refine wpList_append_lies _ rfl _ _ 43 rfl (w1.heap.size + 1) 47 i0 (.agg #[.slice none 0 0]) 1 24 Tryz.underlying43 hi0 hz0 hz1' hz2 rfl Nat.one_pos (.slice q j c) j vs rfl (hown.alloc _) ⟨W2.heap.size, 0, none⟩ 1 1 [.slice p' n' c'] rfl rfl (cell_one_new _ _ _) (one_slice _ _ _) Nat.one_pos hmx hby (base_le _ hbase2) (W2.heap.size + 1) (size_new _ _) ?_; intro g cp w9 hown3 hgrow hat hglt; have hh3 := three_cells (HS2.out.mid hgrow); have o1 := hh3.2.1; have o2 := hh3.2.2.2.1; clear hh3)
      have P := PS.push HS2.out HT.out hown3 hgrow
      go_roundw
      case rel => exact ⟨j + 1, some ⟨g, 0, none⟩, cp, _, by omega, by go_num, P⟩
      case measure => simp [Go.RowKit.intOf]; omega
    · obtain rfl : j = x.F.len := by omega
      obtain ⟨v1, v2⟩ := two_cells hP.sbox
      have HPP := Lib.hid hP
      clear hP
      go_wp2_with fail
      go_loopw [35] (fun v wr => ∃ (j : Nat) (u : Value), j ≤ x.F.len ∧ v = .int .i64 (j : Int) ∧ PS w x.F (.cells #[.slice sp sn sc, .slice (some ⟨b0, off, none⟩) x.F.len fc] 25 (0, 0)) sp sn sc w1.heap.size x.F.len q c vs u wr)
          (fun v _ => x.F.len - (Go.RowKit.intOf v).toNat)
      case atStart => exact ⟨0, _, Nat.zero_le _, rfl, HPP.out⟩
      case round =>
        clear HPP v1 v2
        obtain ⟨j, u, hj, rfl, hP⟩ := hrel
        by_cases hlt : j < x.F.len
        · obtain ⟨p', n', c', q', m', d', e1, e2, e3, e4, e5, e6, e7⟩ := HR.out j hlt
          have hkk := (bcell hP.bel).1
          have f1 := (hkk _ _ (lt_of_cell e1)).trans e1
          have f2 := (hkk _ _ (lt_of_cell e2)).trans e2
          have f3 := (hkk _ _ (lt_of_cell e3)).trans e3
          have f4 := (hkk _ _ (lt_of_cell e4)).trans e4
          have f5 := (hkk _ _ (lt_of_cell e5)).trans e5
          have HPP := Lib.hid hP
          have HT := Lib.hid e6
          have HTX := Lib.hid e7
          obtain ⟨S, hS1, hS2⟩ := fits_sort (HBO.out j hlt)
          have HSO := Lib.hid (fun W aa h h' => sort_any (x.pl (x.F.st j)) aa (x.F.bk j) (x.F.bn j) (x.F.bt j) W q' m' d' h h' 0 S hS1)
          rw [hS2] at HSO
          clear hP hkk e1 e2 e3 e4 e5 e6 e7 hS1 hS2
          generalize x.F.nm j = s at f1
          generalize x.F.bk j = bk at f3 HSO
          generalize x.F.bn j = bn at f4 HSO
          go_upto_region 12 with fail
          have S2 := HPP.out.alloc (.cells #[.string s, .slice p' n' c', .int .i64 bk, .int .i64 bn, .slice q' m' d'] 52)
          have hfx := heap_new wr (.cells #[.string s, .slice p' n' c', .int .i64 bk, .int .i64 bn, .slice q' m' d'] 52)
          have hne : wr.heap.size ≠ w1.heap.size := by have := lt_of_block HPP.out.box; omega
          generalize wr.heap.size = bf at hfx hne ⊢
          generalize wr.alloc (.cells #[.string s, .slice p' n' c', .int .i64 bk, .int .i64 bn, .slice q' m' d'] 52) = W2 at S2 hfx ⊢
          obtain ⟨y1, y2, y3, y4, y5⟩ := three_cells S2.box
          obtain ⟨v1, v2, v3, v4, v5⟩ := five_cells hfx
          have S3 := S2.param (.slice p' n' c')
          obtain ⟨t1, t2, t3, t4, t5⟩ := three_cells S3.box
          have hfx3 := (Below.heap_setCell W2 ⟨w1.heap.size, 2, none⟩ (.slice p' n' c') bf hne).trans hfx
          obtain ⟨u1, u2, u3, u4, u5⟩ := five_cells hfx3
          have hPl : IsP (W2.setCell ⟨w1.heap.size, 2, none⟩ (.slice p' n' c')) (x.pl (x.F.st j)) ⟨sp, sn, sc, q, x.F.len, c, p', n', c'⟩ := ⟨HSy.out.below S3.bel, S3.isT, HT.out.below S3.bel⟩
          have hXl := HTX.out.below S3.bel
          have HS3 := Lib.hid S3
          have HPL := Lib.hid hPl
          have HXL := Lib.hid hXl
          clear S2 S3 hfx hfx3 hPl hXl f1 f2 f3 f4 f5 HPP
          go_wp2_with fail
          refine (HSO.out _ _ HPL.out HXL.out).mono ?_
          rintro e w5 ⟨qs, cs, rfl, _, hb5⟩
          have P5 := (HS3.out.below hb5).alloc (.cells #[.slice qs 0 cs] 47)
          have HP5 := Lib.hid P5
          clear P5 hb5 HPL HXL HS3
          go_wp2_with fail
          go_roundw
          case rel => exact ⟨j + 1, _, by omega, by go_num, HP5.out⟩
          case measure => simp [Go.RowKit.intOf]; omega
        · obtain ⟨v1, v2⟩ := two_cells hP.sbox
          have g3 := ((bcell hP.bel).1 _ _ (lt_of_cell hk.out)).trans hk.out
          have HPP := Lib.hid hP
          clear hP
          go_wp2_with fail
          refine (HA.out _ (hg.keep fun b hb => HPP.out.bel.block b (by omega)) (by have := HPP.out.bel.size; omega)).mono ?_
          rintro e w6 ⟨rfl, hb6⟩
          go_wp2_with fail
          go_ret
          exact ⟨rfl, HPP.out.bel.trans (hb6.mono HPP.out.bel.size)⟩

theorem law_sbodies (x : Sc) (a : At2) (w : World) (h : IsC w x a) (hg : Gl w) (h6 : 6 ≤ w.heap.size) :
    Calls Tryz.prog 11 #[.agg #[.slice a.sp a.sn a.sc, .slice a.fp a.fn a.fc]] w fun e w' => e = .returned (.bool true) ∧ Below w.heap.size w w' := by
  cases hs : scOk x with
  | false => exact law_sbodies_no x a w h hg h6 hs
  | true => exact law_sbodies_ok x a w h hg h6 hs

end Go.Proofs.YtjdnbmcjnkmgdaaGreatDoor

set_option linter.unusedSimpArgs false
set_option linter.unusedVariables false
namespace Go.Proofs.YtjdnbmcjnkmgdaaGreatDoor
open Go.ChangeShapes Go.WideShapes Go.ChangeAt Go.RowKit
open Go.ChangeMaps (open_string shut_string)

set_option maxRecDepth 100000 in
theorem schemeBodies_lifted (os : Os) (started : os.Started) (H : Type) (enc : TypeId × Value → H) :
    ReturnsInHanded {} Tryz.checked os 11 .any (fun w args => (Rows.schemeBodiesSpec.pre enc Tryz.prog Tryz.f11 [] false w args ∧ laidMetH Tryz.prog laidL w) ∧ sizedMet enc Tryz.prog Tryz.f11 (OpenSpec.ofChange Rows.schemeBodiesSpec) false w args)
      (Rows.schemeBodiesSpec.post enc Tryz.prog Tryz.f11 false true false false) := by
  refine lifted_shaped (C := Tryz.checked) (X := fun w _ => laidMetH Tryz.prog laidL w) (fun _ _ _ hh h => h.of_heap hh) P.own started (by kernel_rfl) Tryz.func11
    (ChangeSpec.witness_shaped (enc := enc) (C := Tryz.checked) (os := os) (X := fun w _ => laidMetH Tryz.prog laidL w) false (World.doorLaid Tryz.prog 62 os) #[.agg #[.slice none 0 0, .slice none 0 0]] 8 rfl (World.shaped_of_RefB (by kernel_rfl) (by kernel_rfl)) (by kernel_rfl) (by kernel_rfl) (by kernel_rfl) (door_met os _)) ?_
  intro W args ds gs before hval0 hW _ hL hsh
  have hW' := hW
  obtain ⟨p, q, hA0, hV, rfl, hfz, hnd⟩ := hW
  have hA : DataW.TrodAll enc Tryz.prog W 0 (fun _ => true) true Tryz.f11.params.toList args.toList ds p := hA0
  rw [Tryz.params11] at hA hval0
  obtain ⟨v0, d0, rfl, rfl, h0⟩ := trodAll_one hA
  obtain ⟨rfl, rfl⟩ := trodVars_none hV
  have k0 := h0
  obtain ⟨base0, hv0⟩ := hval0 0 25 v0 rfl rfl
  obtain ⟨x0, b0, rfl, i0⟩ := open_scheme hv0 h0
  clear hA0 hval0
  simp only [List.append_nil] at hW'
  obtain ⟨hg, h6⟩ := gl_of hL hsh
  refine (law_sbodies x0 b0 W i0 hg h6).mono fun e W' ⟨he, hb⟩ => ?_
  subst he
  have hlt := fun x hx => hW'.lt x hx
  exact ⟨_, rfl, post_below (pv := []) hW' (fun _ _ _ => trodAll_mk1 (shut_bool Tryz.underlying4 true))
    (fun sp hsp => trodAll_mk1 (WideElems.Trod_stays P.laidOut P.readC (of_decide_eq_true (by kernel_rfl)) k0 (fun x hx => hb.same (hlt x (by simp [hx]))) (fun x hx => hsp x (by simp [hx]))))
    (fun _ _ => rfl) (by simp) hb (ok_one (by kernel_rfl) rfl (okWide_bool_mk Tryz.underlying4 true))⟩

theorem schemeBodies_row : Rows.SchemeBodiesSaid :=
  OpenClaim.holds_of_wide 11 Tryz.f11 rfl rfl rfl rfl rfl rfl rfl ⟨rfl, rfl, rfl, rfl, rfl⟩ rfl rfl rfl rfl rfl (by kernel_rfl) Tryz.func11 (by kernel_rfl)
    (of_decide_eq_true (by kernel_rfl)) (by unfold Func.isWrapper; rw [if_neg (of_decide_eq_false (by kernel_rfl))]; exact ⟨rfl, rfl⟩)
    (fun os started H enc _ => schemeBodies_lifted os started H enc)

theorem schemeBodies_holds : Rows.SchemeBodiesCardSaid :=
  Claim7.holds_tied_plain_at .later [] [.data, .data, .data, .sentinel, .sentinel] true Rows.schemeBodiesCard.stood.harness true
    schemeBodies_row (fun _ h => by cases h) (by kernel_rfl) (fun _ h => by cases h) schemeBodies_row_tie rfl ⟨rfl, rfl⟩ (by kernel_rfl) rfl
    (fun f fn hf hfn => by
      obtain rfl : f = 11 := Option.some.inj ((show Tryz.prog.funcNamed "virgation/virgationlaw03.SchemeBodies" = some 11 by kernel_rfl).symm.trans hf) |>.symm
      obtain rfl : fn = Tryz.f11 := (Option.some.inj (Tryz.func11.symm.trans hfn)).symm
      exact ⟨by kernel_rfl, fun j t ht => by
        rw [Tryz.params11] at ht
        have hm : t ∈ [25] := by simpa using Array.mem_of_getElem? ht
        have hall : ([25].all fun u => !Tryz.prog.wantsStandIn u) = true := by kernel_rfl
        exact (show Tryz.prog.wantsStandIn t = false by simpa using List.all_eq_true.1 hall t hm)⟩)
    (by kernel_rfl)

end Go.Proofs.YtjdnbmcjnkmgdaaGreatDoor

