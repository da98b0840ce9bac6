/-
  Parts of one proof, laid into one text: SAlive. Conditions: each part names its own.
-/
import Derived.Test.YtjkcopgfcafpeaaGreatDoorMg29

/-
  The walk of alive, which checks the chapter's example. Conditions: the package variables read as laid.
-/
set_option linter.unusedSimpArgs false
set_option linter.unusedVariables false
namespace Go.Proofs.YtjkcopgfcafpeaaGreatDoor
open Go.RowKit Go.Maps

theorem below_box {w w1 w2 : World} {o : Obj} (h1 : Below w.heap.size w w1) (h2 : Below (w1.alloc o).heap.size (w1.alloc o) w2) : Below w.heap.size w w2 :=
  (h1.alloc h1.size o).trans (h2.mono (by have := h1.size; simp; omega))

set_option maxRecDepth 100000 in
set_option maxHeartbeats 4000000 in
theorem alive3_any (w : World) (hg : Gl w) (h6 : 6 ≤ w.heap.size) :
    Calls Tryz.prog 16 #[] w fun e w' => e = .returned (.bool true) ∧ Below w.heap.size w w' := by
  have H1 := Lib.hid fun W h h' => sget_any alS W h h'
  have H2 := Lib.hid fun a W h => sput_any (getSc alS) a W h
  have H3 := Lib.hid fun a W h => sorder_any (getSc alS) a W h
  have H4 := Lib.hid fun a W h => scheck_any (getSc alS) a W h
  have e2 : putT (getSc alS) = alS := by unfold putT; rw [alS_s, alS_p]; rfl
  have e3 : putE (getSc alS) = 0 := by unfold putE; rw [alS_s, alS_p]; rfl
  have e4 : scE (getSc alS) = 0 := by unfold scE; rw [alS_s]; rfl
  have hF := alS_f
  rw [alS_e] at H1
  rw [e2, e3] at H2
  rw [alS_o, e4] at H3
  rw [e4] at H4
  generalize getSc alS = x at H1 H2 H3 H4 hF
  simp only [alS] at H1 H2
  clear e2 e3 e4
  go_enter Tryz.func16, Tryz.ntmps16
  go_wp2_with fail
  refine (H1.out _ hg h6).mono ?_
  rintro e w1 ⟨⟨sp, sn, sc, fp, fn, fc⟩, rfl, hC, hb1⟩
  obtain rfl : fn = x.F.len := hC.2.1
  have HC := Lib.hid hC
  have HB := Lib.hid hb1
  clear hC hb1 H1
  rw [hF] at HC ⊢
  go_wp2_with fail
  refine (H2.out _ _ (HC.out.alloc _)).mono ?_
  rintro e w2 ⟨rfl, hb2⟩
  have bx2 := (hb2.block w1.heap.size (by simp)).trans (heap_new _ _)
  have C2 := (HC.out.alloc _).below hb2
  have B2 := below_box HB.out hb2
  obtain ⟨⟨s1, s2⟩, _⟩ := two_box bx2
  have HC2 := Lib.hid (And.intro C2 (And.intro B2 bx2))
  clear C2 B2 bx2 hb2
  go_wp2_with fail
  refine (H3.out _ _ HC2.out.1).mono ?_
  rintro e w3 ⟨rfl, hb3⟩
  have bx3 := (hb3.block w1.heap.size (lt_of_block HC2.out.2.2)).trans HC2.out.2.2
  have C3 := HC2.out.1.below hb3
  have B3 := HC2.out.2.1.trans (hb3.mono HC2.out.2.1.size)
  clear s1 s2
  obtain ⟨⟨s1, s2⟩, _⟩ := two_box bx3
  have HC3 := Lib.hid (And.intro C3 B3)
  clear C3 B3 bx3 hb3
  go_wp2_with fail
  refine (H4.out _ _ HC3.out.1).mono ?_
  rintro e w4 ⟨rfl, hb4⟩
  go_wp2_with fail
  go_ret
  exact ⟨rfl, HC3.out.2.trans (hb4.mono HC3.out.2.size)⟩

end Go.Proofs.YtjkcopgfcafpeaaGreatDoor

