/-
  The walk of the reference's Sort, and of the statement on Sort, where the example holds. Conditions: none but that the place and the term lie in memory.
-/
import Derived.Test.YtlgfaobbjnhfoaaTWalkY
import Derived.Test.YtlgfaobbjnhfoaaTLawC
import Derived.Test.YtlgfaobbjnhfoaaTLawN
import Derived.Test.YtlgfaobbjnhfoaaTWalkV
set_option linter.unusedSimpArgs false
set_option linter.unusedVariables false
namespace Go.Proofs.Ytlgfaobbjnhfoaa
open Go.RowKit

set_option maxRecDepth 100000 in
set_option maxHeartbeats 4000000 in
theorem refsort_any (x : Pl) (a3 : At3) (k n : Int) (a : X) (w : World) (p : Option Addr) (l cap : Nat) (h : IsP w x a3) (his : IsX w a p l cap) (E : Int) (S : T) (hres : sortRes x k n a = (E, S)) :
    Calls Try.prog 23 #[.agg #[.slice a3.sp a3.sn a3.sc, .slice a3.fp a3.fn a3.fc, .slice a3.pp a3.pn a3.pc], .agg #[.int .i64 k, .int .i64 n, .slice p l cap]] w fun e w' =>
      ∃ q c, e = .returned (.tuple #[.agg #[.slice q S.len c], .int .i64 E]) ∧ Own w' S q c w.heap.size w'.heap.size ∧ Below w.heap.size w w' := by
  have hSv := sortRes_valid hres
  rw [sortRes_of] at hres
  have HD := Lib.hid hres
  clear hres
  have h0 : Holds w x a3 w := ⟨h, Nat.le_refl _, fun _ _ => rfl⟩
  have HC := Lib.hid (fun W h => refis_any x a3 W h)
  go_enter Try.func23, Try.ntmps23
  go_wp2_with fail
  refine (HC.out _ (((h.alloc _).alloc _).alloc _)).mono ?_
  rintro e w1 ⟨rfl, hb1⟩
  have V1 := (Vars3.start w (a3.box 25) (.cells #[.int .i64 k, .int .i64 n, .slice p l cap] 35) (.cells #[.slice none 0 0] 40)).below hb1
  have ix1 : IsX w1 a p l cap := his.below V1.2.2.2
  have h1 : Holds w x a3 w1 := h0.below V1.2.2.2
  obtain ⟨c1, c2, c3⟩ := boxP_cells V1.1
  obtain ⟨t1, t2, t3⟩ := box3_cells V1.2.1
  have r1 := cell_box V1.2.2.1
  have f1 := free_of_one V1.2.2.1
  have hz1 := lt_of_block V1.2.2.1
  have HV1 := Lib.hid V1
  clear hb1 V1
  cases hp : plOk x with
  | false =>
    have e2 := HD.out
    rw [if_neg (by rw [hp]; simp)] at e2
    obtain ⟨rfl, rfl⟩ := Prod.mk.inj e2
    clear HD e2 hp
    go_wp2_with fail
    exact bodyPost_ret (v := .tuple #[.agg #[.slice none 0 0], .int .i64 2]) (by simp [results, Try.results23, go_sem, r1]) rfl ⟨none, 0, rfl, own_nil _ _ _, HV1.out.2.2.2.setCell (by simp; omega) _⟩
  | true =>
    have hS := plOk_syms hp
    go_wp2_with fail
    refine (tlarge_any a k n _ p l cap ix1).mono ?_
    rintro e w2 ⟨rfl, hb2⟩
    have V2 := HV1.out.below hb2
    have ix2 := ix1.below hb2
    have h2 := h1.below hb2
    obtain ⟨c1, c2, c3⟩ := boxP_cells V2.1
    obtain ⟨t1, t2, t3⟩ := box3_cells V2.2.1
    have r1 := cell_box V2.2.2.1
    have f1 := free_of_one V2.2.2.1
    have HV2 := Lib.hid V2
    clear hb2 V2 HV1 ix1 h1
    by_cases hsm : a.sz < 100000
    · have hd : decide (a.sz < 100000) = true := by simpa using hsm
      have hRR := fun W h' hi => refof_any x a3 hp w (a.sz + 1) k n a W p l cap (Nat.lt_succ_self _) h' hi (by omega)
      have e2 := HD.out
      rw [if_pos hp, if_pos hsm] at e2
      obtain ⟨R, ok, hRe⟩ : ∃ R ok, ofR x k n a = (R, ok) := ⟨_, _, rfl⟩
      rw [hRe] at hRR e2
      dsimp only at hRR e2
      have HR := Lib.hid hRR
      have HE := Lib.hid e2
      clear hRR e2 hRe HD
      go_wp2_with fail
      refine (HR.out _ h2 ix2).mono ?_
      rintro e w3 ⟨q, c, rfl, hi3, hb3⟩
      have V3 := (HV2.out.below hb3).below ((Below.refl _ _).alloc (Nat.le_refl _) (.cells #[.slice q R.len c] 40))
      have i3 : IsT (w3.alloc (.cells #[.slice q R.len c] 40)) R q R.len c := hi3.here.alloc _
      have s1 := cell_box (heap_new w3 (.cells #[.slice q R.len c] 40))
      have V3' := HV2.out.below hb3
      have r1 := cell_box V3'.2.2.1
      have f1 := free_of_one V3'.2.2.1
      have HV3' := Lib.hid V3'
      have hz3 := lt_of_block (HV2.out.below hb3).2.2.1
      have HV3 := Lib.hid V3
      clear hb3 hi3 V3 V3' HV2 ix2 h2 c1 c2 c3 t1 t2 t3
      cases ok with
      | false =>
        have e3 := HE.out
        rw [if_neg (by simp)] at e3
        obtain ⟨rfl, rfl⟩ := Prod.mk.inj e3
        clear HE e3
        go_wp2_with fail
        exact bodyPost_ret (v := .tuple #[.agg #[.slice none 0 0], .int .i64 6]) (by simp [results, Try.results23, go_sem, r1, hz3]) rfl ⟨none, 0, rfl, own_nil _ _ _, (HV3'.out.2.2.2.setCell (show w.heap.size ≤ w.heap.size + 1 + 1 by omega) _).alloc (by rw [setCell_size]; exact HV3'.out.2.2.2.size) _⟩
      | true =>
        have e3 := HE.out
        rw [if_pos rfl] at e3
        obtain ⟨rfl, rfl⟩ := Prod.mk.inj e3
        clear HE e3
        go_wp2_with fail
        refine (copy_any R.nodes R _ q R.len c (Nat.le_refl _) (T.valid_nodes _ hSv) i3).mono ?_
        rintro e w5 ⟨q5, c5, rfl, hO, hb5⟩
        have V5 := HV3.out.below hb5
        have r1 := cell_box V5.2.2.1
        have f1 := free_of_one V5.2.2.1
        have hz4 := lt_of_block HV3.out.2.2.1
        have HV5 := Lib.hid V5
        clear hb5 V5 HV3 i3 s1
        go_wp2_with fail
        refine bodyPost_ret (v := .tuple #[.agg #[.slice q5 R.len c5], .int .i64 0]) (by simp [results, Try.results23, go_sem, r1]) rfl ⟨q5, c5, rfl, ?_, HV5.out.2.2.2.setCell (by simp; omega) _⟩
        have hO2 := (hO.set (a := ⟨w.heap.size + 1 + 1, 0, none⟩) hz4 (.slice q5 R.len c5)).mono (lo' := w.heap.size) (by omega) (Nat.le_refl _)
        rw [setCell_size]
        exact hO2
    · have hd : decide (a.sz < 100000) = false := by simpa using hsm
      have e2 := HD.out
      rw [if_pos hp, if_neg hsm] at e2
      obtain ⟨rfl, rfl⟩ := Prod.mk.inj e2
      clear HD e2 hp
      go_wp2_with fail
      exact bodyPost_ret (v := .tuple #[.agg #[.slice none 0 0], .int .i64 3]) (by simp [results, Try.results23, go_sem, r1]) rfl ⟨none, 0, rfl, own_nil _ _ _, HV2.out.2.2.2.setCell (by simp; omega) _⟩

/-- what the statement's own variables hold, whatever is called -/
structure KS (w : World) (x : Pl) (a3 : At3) (k n : Int) (a : X) (p : Option Addr) (l cap : Nat) (W : World) : Prop where
  vars : Vars2 w (a3.box 25) (.cells #[.int .i64 k, .int .i64 n, .slice p l cap] 35) W
  isP : IsP W x a3
  isX : IsX W a p l cap

theorem IsP.drew {w : World} {x : Pl} {a : At3} (h : IsP w x a) : IsP w.drew x a := h.below (Below.refl _ _).drew

theorem KS.below {w : World} {x : Pl} {a3 : At3} {k n : Int} {a : X} {p : Option Addr} {l cap : Nat} {W W' : World} (h : KS w x a3 k n a p l cap W) (hb : Below W.heap.size W W') : KS w x a3 k n a p l cap W' := ⟨h.vars.below hb, h.isP.below hb, h.isX.below hb⟩

theorem KS.alloc {w : World} {x : Pl} {a3 : At3} {k n : Int} {a : X} {p : Option Addr} {l cap : Nat} {W : World} (h : KS w x a3 k n a p l cap W) (o : Obj) : KS w x a3 k n a p l cap (W.alloc o) := h.below ((Below.refl _ _).alloc (Nat.le_refl _) _)

theorem KS.drew {w : World} {x : Pl} {a3 : At3} {k n : Int} {a : X} {p : Option Addr} {l cap : Nat} {W : World} (h : KS w x a3 k n a p l cap W) : KS w x a3 k n a p l cap W.drew := h.below (Below.refl _ _).drew

theorem kuse {P : Prop} {w : World} {x : Pl} {a3 : At3} {k n : Int} {a : X} {p : Option Addr} {l cap : Nat} {W W' : World} (hb : Below W.heap.size W W') (h : KS w x a3 k n a p l cap W) (c : KS w x a3 k n a p l cap W' → P) : P := c (h.below hb)

theorem use_kept2 {P : Prop} {X w5 : World} {b : Nat} {o : Obj} (hb : Below X.heap.size X w5) (h : X.heap[b]? = some o) (k : w5.heap[b]? = some o → P) : P := k (box3_later hb h)

theorem cuse {P : Prop} {w : World} {x : Pl} {a3 : At3} {k n : Int} {a : X} {p : Option Addr} {l cap : Nat} {W : World} (h : KS w x a3 k n a p l cap W)
    (c : W.cell? ⟨w.heap.size + 1, 0, none⟩ = some (.int .i64 k) → W.cell? ⟨w.heap.size + 1, 1, none⟩ = some (.int .i64 n) → W.cell? ⟨w.heap.size + 1, 2, none⟩ = some (.slice p l cap) →
      (∀ o : Obj, (W.alloc o).cell? ⟨w.heap.size + 1, 0, none⟩ = some (.int .i64 k)) → (∀ o : Obj, (W.alloc o).cell? ⟨w.heap.size + 1, 1, none⟩ = some (.int .i64 n)) → (∀ o : Obj, (W.alloc o).cell? ⟨w.heap.size + 1, 2, none⟩ = some (.slice p l cap)) → P) : P :=
  c (box3_cells h.vars.2.1).1 (box3_cells h.vars.2.1).2.1 (box3_cells h.vars.2.1).2.2 (fun o => (box3_cells (alloc_kept h.vars.2.1 o)).1) (fun o => (box3_cells (alloc_kept h.vars.2.1 o)).2.1) (fun o => (box3_cells (alloc_kept h.vars.2.1 o)).2.2)

/-- behind the first call of Sort: a variable with the sort, one with the error -/
def CutS (w : World) (x : Pl) (a3 : At3) (k n : Int) (a : X) (p : Option Addr) (l cap : Nat) (S : T) (E : Int) (v5 v6 : Value) (W : World) : Prop := ∃ (b : Nat) (q : Option Addr) (c : Nat), v5 = .pointer (some ⟨b, 0, none⟩) ∧ v6 = .int .i64 E ∧
  W.heap[b]? = some (.cells #[.slice q S.len c] 40 (0, 0)) ∧ IsT W S q S.len c ∧ KS w x a3 k n a p l cap W

theorem cutS_new {w : World} {x : Pl} {a3 : At3} {k n : Int} {a : X} {p : Option Addr} {l cap : Nat} {S : T} {E : Int} {q : Option Addr} {c lo : Nat} {W : World} (hO : Own W S q c lo W.heap.size) (h : KS w x a3 k n a p l cap W) :
    CutS w x a3 k n a p l cap S E (.pointer (some ⟨W.heap.size, 0, none⟩)) (.int .i64 E) (W.alloc (.cells #[.slice q S.len c] 40)) :=
  ⟨_, q, c, rfl, rfl, heap_new _ _, hO.isT.alloc _, h.alloc _⟩

theorem cutS_set {w : World} {x : Pl} {a3 : At3} {k n : Int} {a : X} {p : Option Addr} {l cap : Nat} {S : T} {E : Int} {q : Option Addr} {c lo b : Nat} {W : World} (hz : W.heap[b]? = some (.cells #[.slice none 0 0] 40 (0, 0))) (hO : Own W S q c lo W.heap.size) (hlt : b < lo) (hge : w.heap.size + 1 < b)
    (hp0 : IsP w x a3) (hx0 : IsX w a p l cap) (h : KS w x a3 k n a p l cap W) :
    CutS w x a3 k n a p l cap S E (.pointer (some ⟨b, 0, none⟩)) (.int .i64 E) (W.setCell ⟨b, 0, none⟩ (.slice q S.len c)) := by
  have hv := h.vars.set hge 0 (.slice q S.len c)
  exact ⟨_, q, c, rfl, rfl, one_setCell hz, (hO.set (a := ⟨b, 0, none⟩) hlt _).isT, hv, hp0.below hv.2.2, hx0.below hv.2.2⟩

set_option maxRecDepth 100000 in
set_option maxHeartbeats 8000000 in
theorem law_sort (hal : Alive) (x : Pl) (a3 : At3) (k n : Int) (a : X) (w : World) (p : Option Addr) (l cap : Nat) (h : IsP w x a3) (his : IsX w a p l cap) :
    Calls Try.prog 5 #[.agg #[.slice a3.sp a3.sn a3.sc, .slice a3.fp a3.fn a3.fc, .slice a3.pp a3.pn a3.pc], .agg #[.int .i64 k, .int .i64 n, .slice p l cap]] w fun e w' => e = .returned (.bool true) ∧ Below w.heap.size w w' := by
  have HAL := Lib.hid hal
  clear hal
  obtain ⟨E, S, hres⟩ : ∃ E S, sortRes x k n a = (E, S) := ⟨_, _, rfl⟩
  have hSv := sortRes_valid hres
  have hsame : T.same S S = true := by simp [T.same, T.valid_nodes _ hSv, T.eqT_refl]
  have HP := Lib.hid (fun W h h' => sort_any x a3 k n a W p l cap h h' E S hres)
  have HR := Lib.hid (fun W h h' => refsort_any x a3 k n a W p l cap h h' E S hres)
  have hq := fun W p q n cap m cap' h h' => refsame_any S S W p q n cap m cap' h h'
  rw [hsame] at hq
  have HQ := Lib.hid hq
  clear hres hSv hsame hq
  have K0 : KS w x a3 k n a p l cap ((w.alloc (a3.box 25)).alloc (.cells #[.int .i64 k, .int .i64 n, .slice p l cap] 35)) := ⟨Vars2.start w _ _, (h.alloc _).alloc _, (his.alloc _).alloc _⟩
  have HG := Lib.hid (fun W => given_any a3 W)
  go_enter Try.func5, Try.ntmps5
  go_upto_region 1 with fail
  go_cut [5, 6] from 9 to 32 (fun v5 v6 wx => CutS w x a3 k n a p l cap S E v5 v6 wx)
  case first =>
    go_region_with (first
      | (go_at_call 15; refine (HG.out _).mono ?_; rintro e w3 ⟨rfl, hb3⟩; refine kuse (w := w) (x := x) (a3 := a3) (k := k) (n := n) (a := a) (p := p) (l := l) (cap := cap) hb3 ?_ ?_; (repeat (first | exact K0 | refine KS.drew ?_ | refine KS.alloc ?_ _)); intro K3; refine cuse K3 ?_; intro t1 t2 t3 t4 t5 t6;
          first
          | (refine use_kept (b := w.heap.size + 1 + 1) (o := .cells #[.slice none 0 0] 40) hb3 ?_ ?_; (repeat (first | (refine heap_new_eq ?_; (solve | with_reducible rfl | simp only [World.size_alloc])) | refine alloc_kept ?_ _)); intro hz6; have g1 := cell_box hz6; have g2 := free_of_one hz6)
          | (have hz6 := True.intro))
      | (go_at_call 22; refine Calls.mono (HP.out _ ?_ ?_) ?_; (repeat (first | exact K3.isP | refine IsP.drew ?_ | refine IsP.alloc ?_ _)); (repeat (first | exact K3.isX | refine IsX.drew ?_ | refine IsX.alloc ?_ _)); rintro e w4 ⟨q, c, rfl, hO4, hb4⟩; refine kuse (w := w) (x := x) (a3 := a3) (k := k) (n := n) (a := a) (p := p) (l := l) (cap := cap) hb4 ?_ ?_; (repeat (first | exact K3 | refine KS.drew ?_ | refine KS.alloc ?_ _)); intro K4;
          first
          | (refine use_kept2 (b := w3.heap.size) (o := .cells #[.slice none 0 0] 40) hb4 ?_ ?_; (repeat (first | (refine heap_new_eq ?_; (solve | with_reducible rfl | simp only [World.size_alloc])) | refine alloc_kept ?_ _)); intro hz7; have g3 := cell_box hz7; have g4 := free_of_one hz7)
          | (refine use_kept2 (b := w.heap.size + 1 + 1) (o := .cells #[.slice none 0 0] 40) hb4 ?_ ?_; exact hz6; intro hz7; have g3 := cell_box hz7; have g4 := free_of_one hz7)
          | (have hz7 := True.intro)))
    all_goals
      go_wp2_with fail
      go_meet
      case rel =>
        first
        | exact cutS_new hO4 K4
        | exact cutS_set hz7 hO4 (lt_of_block hz6) (Nat.lt_succ_self _) h his K4
        | exact cutS_set hz7 hO4 (by simp) (lt_of_block K3.vars.2.1) h his K4
  case rest =>
    obtain ⟨b5, q5, c5, rfl, rfl, s5, i5, K5⟩ := hcut
    obtain ⟨x1, x2, x3⟩ := boxP_cells K5.vars.1
    obtain ⟨t1, t2, t3⟩ := box3_cells K5.vars.2.1
    clear HP HG K0
    go_wp2_with fail
    refine (HR.out _ K5.isP K5.isX).mono ?_
    rintro e w4 ⟨q, c, rfl, hO4, hb4⟩
    have K6 := (K5.below hb4).vars.2.2
    have s6 := box3_later hb4 s5
    have i6 := (i5.below hb4).alloc (.cells #[.slice q S.len c] 40)
    have j6 := hO4.isT.alloc (.cells #[.slice q S.len c] 40)
    have k1 := cell_box (alloc_kept s6 (.cells #[.slice q S.len c] 40))
    have B6 := K6.alloc K6.size (.cells #[.slice q S.len c] 40)
    clear x1 x2 x3 t1 t2 t3 K5 hb4 hO4 s6 i5 s5
    go_wp2_with fail
    refine (HQ.out _ _ _ _ _ _ _ i6 j6).mono ?_
    rintro e w5 ⟨rfl, hb5⟩
    have B7 := B6.trans (hb5.mono B6.size)
    clear hb5
    go_wp2_with fail
    refine (alive_late HAL.out B7).mono ?_
    rintro e w6 ⟨rfl, hb6⟩
    go_wp2_with fail
    go_ret
    exact ⟨rfl, hb6⟩

end Go.Proofs.Ytlgfaobbjnhfoaa
