/-
  Parts of one proof, laid into one text: EAlive, ERefT, EKeep, EOk. Conditions: each part names its own.
-/
import Derived.Test.YteolfpdkpihnlaaMg27
import Derived.Test.YteolfpdkpihnlaaMg16
import Derived.Test.YteolfpdkpihnlaaMg15
import Derived.Test.YteolfpdkpihnlaaMg14

/-
  The walk of alive, the chapter's example. Conditions: none.
-/
set_option linter.unusedSimpArgs false
set_option linter.unusedVariables false
namespace Go.Proofs.Yteolfpdkpihnlaa
open Go.RowKit

/-- the symbols of the examples -/
def S0 : Sy := ⟨3, fun i => ⟨#[(97 + i).toUInt8]⟩, fun i => 2 - (i : Int)⟩

def R0 : List Int := [2, 1, 0]

/-- a(c,_), a(b(c),c), a(_,c) -/
def sA : List UInt8 := [97, 40, 99, 44, 95, 41]
def sB : List UInt8 := [97, 40, 98, 40, 99, 41, 44, 99, 41]
def sC : List UInt8 := [97, 40, 95, 44, 99, 41]
def tA : Y := .cons 2 .nil (.cons (-1) .nil .nil)
def tB : Y := .cons 1 (.cons 2 .nil .nil) (.cons 2 .nil .nil)
def tC : Y := .cons (-1) .nil (.cons 2 .nil .nil)

theorem get_A : getE S0 sA = (0, 0, tA) := by kernel_rfl
theorem get_B : getE S0 sB = (0, 0, tB) := by kernel_rfl
theorem get_C : getE S0 sC = (0, 0, tC) := by kernel_rfl
theorem meet_AB : meetE R0 0 tA 0 tB = (0, 0, .cons (-1) .nil (.cons (-1) .nil .nil)) := by kernel_rfl
theorem join_AB : joinE R0 0 tA 0 tB = (5, 0, .nil) := by kernel_rfl
theorem join_AC : joinE R0 0 tA 0 tC = (0, 0, .cons 2 .nil (.cons 2 .nil .nil)) := by kernel_rfl
theorem put_M : putE S0 0 (.cons (-1) .nil (.cons (-1) .nil .nil)) = (0, [97, 40, 95, 44, 95, 41]) := by kernel_rfl
theorem put_J : putE S0 0 (.cons 2 .nil (.cons 2 .nil .nil)) = (0, [97, 40, 99, 44, 99, 41]) := by kernel_rfl

set_option maxHeartbeats 400000 in
theorem syms_any (w : World) : Calls Try.prog 82 #[] w fun e w' => ∃ p, e = .returned (.slice p 3 3) ∧ IsS w' S0 p 3 3 ∧ Below w.heap.size w w' := by
  go_enter Try.func82, Try.ntmps82
  go_wp2_with fail
  go_ret
  refine ⟨some ⟨w.heap.size, 0, none⟩, rfl, ⟨rfl, Nat.le_refl _, by simp [maxLen], (fun e => by cases e), Or.inr ⟨w.heap.size, 0, rfl, fun i hi => ?_⟩⟩, (Below.refl _ _).alloc (Nat.le_refl _) _⟩
  have hi3 : i < 3 := hi
  have h : i = 0 ∨ i = 1 ∨ i = 2 := by omega
  rcases h with rfl | rfl | rfl <;> refine ⟨?_, ?_⟩ <;> simp [S0] <;> rfl

theorem drew_later2 {W w : World} (hb : Below W.drew.heap.size W.drew w) : Below W.heap.size W w := ⟨hb.os, hb.tape, hb.output, hb.size, hb.block⟩

theorem isS0_below {W W' : World} {p : Option Addr} (hb : Below W.heap.size W W') (h : IsS W S0 p 3 3) : IsS W' S0 p 3 3 := h.below hb

/-- a string of the examples is read -/
theorem read_any (s : List UInt8) (n : Int) (a : Y) (hg : getE S0 s = (0, n, a)) (w : World) :
    Calls Try.prog 52 #[.string ⟨s.toArray⟩] w fun e w' => ∃ q c, e = .returned (.agg #[.int .i64 n, .slice q a.len c]) ∧ IsY w' a q a.len c ∧ Below w.heap.size w w' := by
  have HG := Lib.hid fun W sp (h : IsS W S0 sp 3 3) => eget_any S0 s W sp 3 3 h
  rw [hg] at HG
  clear hg
  go_enter Try.func52, Try.ntmps52
  go_wp2_with fail
  refine (syms_any _).mono ?_
  rintro e w1 ⟨p1, rfl, hS, hb1⟩
  have hb0 := ((Below.refl w.heap.size w).alloc (Nat.le_refl _) (.cells #[.int .i64 0, .slice none 0 0] 25)).trans (hb1.mono (by simp))
  have hr := box2_later hb1 (heap_new w (.cells #[.int .i64 0, .slice none 0 0] 25))
  have HB0 := Lib.hid hb0
  clear hb1 hb0
  go_wp2_with fail
  refine (HG.out _ p1 hS).mono ?_
  rintro e w2 ⟨q, c, rfl, hO, hb2⟩
  have hr2 := alloc_kept (box2_later hb2 hr) (.cells #[.int .i64 n, .slice q a.len c] 25)
  obtain ⟨⟨z1, z2⟩, f1, f2⟩ := tree_box hr2
  have hz := lt_of_block hr2
  have t0 := heap_new w2 (.cells #[.int .i64 n, .slice q a.len c] 25)
  obtain ⟨t1, t2⟩ := box2_cells t0
  have hI := hO.isY
  have hw1 : w.heap.size < w1.heap.size := lt_of_block hr
  have hbb := HB0.out.trans (hb2.mono HB0.out.size)
  clear hr hb2
  go_wp2_with fail
  refine bodyPost_ret (v := .agg #[.int .i64 n, .slice q a.len c]) (by simp [results, Try.results52, go_sem, z1, z2]) rfl ?_
  refine ⟨q, c, rfl, ?_, ((hbb.alloc hbb.size _).setCell (Nat.le_refl _) _).setCell (Nat.le_refl _) _⟩
  exact (OwnY.set2 (hO.keep fun k _ hk => Below.heap_alloc _ _ _ hk) (r := w.heap.size) (by omega) _ _).isY

/-- a tree of the examples is shown -/
theorem shown_any (s : List UInt8) (n : Int) (a : Y) (hp : putE S0 n a = (0, s)) (w : World) (p : Option Addr) (l cap : Nat) (his : IsY w a p l cap) :
    Calls Try.prog 53 #[.agg #[.int .i64 n, .slice p l cap]] w fun e w' => e = .returned (.string ⟨s.toArray⟩) ∧ Below w.heap.size w w' := by
  have HP := Lib.hid fun W sp (h : IsS W S0 sp 3 3) (h2 : IsY W a p l cap) => eput_any S0 a n W sp p 3 3 l cap h h2
  rw [hp] at HP
  have hi0 := his.alloc (.cells #[.int .i64 n, .slice p l cap] 25)
  have hx0 := heap_new w (.cells #[.int .i64 n, .slice p l cap] 25)
  have hb0 := (Below.refl w.heap.size w).alloc (Nat.le_refl _) (.cells #[.int .i64 n, .slice p l cap] 25)
  have HI := Lib.hid hi0
  have HX := Lib.hid hx0
  have HB := Lib.hid hb0
  clear hp his hi0 hb0
  go_enter Try.func53, Try.ntmps53
  go_wp2_with fail
  generalize w.alloc (.cells #[.int .i64 n, .slice p l cap] 25) = W0 at *
  obtain ⟨x1, x2⟩ := box2_cells hx0
  clear hx0
  go_region_with (first
    | (go_at_call 82; go_loud (refine (syms_any _).mono ?_; rintro e w1 ⟨p1, rfl, hS, hb1⟩; have hb2 := drew_later2 hb1; have x3 := box2_cells (box2_later hb2 HX.out); obtain ⟨x3, x4⟩ := x3))
    | (go_at_call 36; refine (HP.out _ p1 ?_ ?_).mono ?_; exact hS; exact HI.out.below hb2; rintro e w3 ⟨rfl, hb3⟩))
  all_goals
    go_wp2_with fail
    go_ret
    exact ⟨rfl, HB.out.trans ((hb2.trans (hb3.mono hb2.size)).mono HB.out.size)⟩

/-- the ranks and, where they lie, the trees that were found -/
def tM : Y := .cons (-1) .nil (.cons (-1) .nil .nil)
def tJ : Y := .cons 2 .nil (.cons 2 .nil .nil)

theorem ranks_box {W : World} {b : Nat} (h : W.heap[b]? = some (.cells #[.int .i64 2, .int .i64 1, .int .i64 0] 3 (0, 0))) : IsL W R0 (some ⟨b, 0, none⟩) 3 3 := by
  refine ⟨rfl, Nat.le_refl _, by simp [maxLen], (fun e => by cases e), Or.inr ⟨b, 0, rfl, fun i hi => ?_⟩⟩
  have hi3 : i < 3 := hi
  have h3 : i = 0 ∨ i = 1 ∨ i = 2 := by omega
  rcases h3 with rfl | rfl | rfl <;> simp [World.cell?, h] <;> rfl

/-- the ranks lie there, and what was there is kept -/
structure AL (w W : World) : Prop where
  rk : IsL W R0 (some ⟨w.heap.size, 0, none⟩) 3 3
  base : Below w.heap.size w W

theorem AL.below {w W W' : World} (h : AL w W) (hb : Below W.heap.size W W') : AL w W' := ⟨h.rk.below hb, h.base.trans (hb.mono h.base.size)⟩

theorem AL.alloc {w W : World} (h : AL w W) (o : Obj) : AL w (W.alloc o) := h.below ((Below.refl _ _).alloc (Nat.le_refl _) o)

set_option maxRecDepth 100000 in
set_option maxHeartbeats 4000000 in
theorem alive_any (w : World) : Calls Try.prog 22 #[] w fun e w' => e = .returned (.bool true) ∧ Below w.heap.size w w' := by
  have RA := Lib.hid fun W => read_any sA 0 tA get_A W
  have RB := Lib.hid fun W => read_any sB 0 tB get_B W
  have RC := Lib.hid fun W => read_any sC 0 tC get_C W
  have HM := Lib.hid fun W rp p p' c c' (hR : IsL W R0 rp 3 3) (h1 : IsY W tA p tA.len c) (h2 : IsY W tB p' tB.len c') => emeettop_any R0 tA tB 0 0 W rp p p' 3 3 _ c _ c' hR h1 h2
  have HJ1 := Lib.hid fun W rp p p' c c' (hR : IsL W R0 rp 3 3) (h1 : IsY W tA p tA.len c) (h2 : IsY W tB p' tB.len c') => ejointop_any R0 tA tB 0 0 W rp p p' 3 3 _ c _ c' hR h1 h2
  have HJ2 := Lib.hid fun W rp p p' c c' (hR : IsL W R0 rp 3 3) (h1 : IsY W tA p tA.len c) (h2 : IsY W tC p' tC.len c') => ejointop_any R0 tA tC 0 0 W rp p p' 3 3 _ c _ c' hR h1 h2
  rw [meet_AB] at HM
  rw [join_AB] at HJ1
  rw [join_AC] at HJ2
  have SM := Lib.hid fun W p l c (h : IsY W tM p l c) => shown_any _ 0 tM put_M W p l c h
  have SJ := Lib.hid fun W p l c (h : IsY W tJ p l c) => shown_any _ 0 tJ put_J W p l c h
  change Hid (∀ W rp p p' c c', IsL W R0 rp 3 3 → IsY W tA p tA.len c → IsY W tB p' tB.len c' → Calls _ _ _ _ (GetPost (0, 0, tM) W)) at HM
  change Hid (∀ W rp p p' c c', IsL W R0 rp 3 3 → IsY W tA p tA.len c → IsY W tC p' tC.len c' → Calls _ _ _ _ (GetPost (0, 0, tJ) W)) at HJ2
  have HA0 := Lib.hid (AL.mk (ranks_box (heap_new w (.cells #[.int .i64 2, .int .i64 1, .int .i64 0] 3))) ((Below.refl w.heap.size w).alloc (Nat.le_refl _) (.cells #[.int .i64 2, .int .i64 1, .int .i64 0] 3)))
  go_enter Try.func22, Try.ntmps22
  go_wp2_with fail
  refine (RA.out _).mono ?_
  rintro e w1 ⟨q1, c1, rfl, i1, hb1⟩
  have HA1 := Lib.hid (HA0.out.below hb1)
  have I1 := Lib.hid i1
  clear hb1 HA0 i1
  go_wp2_with fail
  refine (RB.out _).mono ?_
  rintro e w2 ⟨q2, c2, rfl, i2, hb2⟩
  have HA2 := Lib.hid (HA1.out.below hb2)
  have I1 := Lib.hid (I1.out.below hb2)
  have I2 := Lib.hid i2
  clear hb2 HA1 i2
  go_wp2_with fail
  refine (HM.out _ _ _ _ _ _ HA2.out.1 I1.out I2.out).mono ?_
  rintro e w3 ⟨q3, c3, rfl, hO3, hb3⟩
  have HA3 := Lib.hid ((HA2.out.below hb3).alloc (.cells #[.int .i64 0, .slice q3 tM.len c3] 25))
  have M3 := Lib.hid (And.intro (hO3.isY.alloc (.cells #[.int .i64 0, .slice q3 tM.len c3] 25)) (heap_new w3 (.cells #[.int .i64 0, .slice q3 tM.len c3] 25)))
  clear hb3 HA2 hO3 I1 I2
  go_wp2_with fail
  refine (RA.out _).mono ?_
  rintro e w4 ⟨q4, c4, rfl, i4, hb4⟩
  have HA4 := Lib.hid (HA3.out.below hb4)
  have I1 := Lib.hid i4
  have M4 := Lib.hid (And.intro (M3.out.1.below hb4) (box2_later hb4 M3.out.2))
  clear hb4 HA3 i4 M3
  go_wp2_with fail
  refine (RB.out _).mono ?_
  rintro e w5 ⟨q5, c5, rfl, i5, hb5⟩
  have HA5 := Lib.hid (HA4.out.below hb5)
  have I1 := Lib.hid (I1.out.below hb5)
  have I2 := Lib.hid i5
  have M5 := Lib.hid (And.intro (M4.out.1.below hb5) (box2_later hb5 M4.out.2))
  clear hb5 HA4 i5 M4
  go_wp2_with fail
  refine (HJ1.out _ _ _ _ _ _ HA5.out.1 I1.out I2.out).mono ?_
  rintro e w6 ⟨q6, c6, rfl, hO6, hb6⟩
  have HA6 := Lib.hid ((HA5.out.below hb6).alloc (.cells #[.int .i64 0, .slice q6 Y.nil.len c6] 25))
  have M6 := Lib.hid (And.intro ((M5.out.1.below hb6).alloc (.cells #[.int .i64 0, .slice q6 Y.nil.len c6] 25)) (alloc_kept (box2_later hb6 M5.out.2) (.cells #[.int .i64 0, .slice q6 Y.nil.len c6] 25)))
  clear hb6 HA5 hO6 I1 I2 M5
  go_wp2_with fail
  refine (RA.out _).mono ?_
  rintro e w7 ⟨q7, c7, rfl, i7, hb7⟩
  have HA7 := Lib.hid (HA6.out.below hb7)
  have I1 := Lib.hid i7
  have M7 := Lib.hid (And.intro (M6.out.1.below hb7) (box2_later hb7 M6.out.2))
  clear hb7 HA6 i7 M6
  go_wp2_with fail
  refine (RC.out _).mono ?_
  rintro e w8 ⟨q8, c8, rfl, i8, hb8⟩
  have HA8 := Lib.hid (HA7.out.below hb8)
  have I1 := Lib.hid (I1.out.below hb8)
  have I2 := Lib.hid i8
  have M8 := Lib.hid (And.intro (M7.out.1.below hb8) (box2_later hb8 M7.out.2))
  clear hb8 HA7 i8 M7
  go_wp2_with fail
  refine (HJ2.out _ _ _ _ _ _ HA8.out.1 I1.out I2.out).mono ?_
  rintro e w9 ⟨q9, c9, rfl, hO9, hb9⟩
  have HA9 := Lib.hid ((HA8.out.below hb9).alloc (.cells #[.int .i64 0, .slice q9 tJ.len c9] 25))
  have M9 := Lib.hid (And.intro ((M8.out.1.below hb9).alloc (.cells #[.int .i64 0, .slice q9 tJ.len c9] 25)) (alloc_kept (box2_later hb9 M8.out.2) (.cells #[.int .i64 0, .slice q9 tJ.len c9] 25)))
  have J9 := Lib.hid (And.intro (hO9.isY.alloc (.cells #[.int .i64 0, .slice q9 tJ.len c9] 25)) (heap_new w9 (.cells #[.int .i64 0, .slice q9 tJ.len c9] 25)))
  have K9 := box2_cells M9.out.2
  obtain ⟨k1, k2⟩ := K9
  clear hb9 HA8 hO9 I1 I2 M8
  go_wp2_with fail
  refine (SM.out _ _ _ _ M9.out.1).mono ?_
  rintro e w10 ⟨rfl, hb10⟩
  have HA10 := Lib.hid (HA9.out.below hb10)
  have J10 := Lib.hid (And.intro (J9.out.1.below hb10) (box2_later hb10 J9.out.2))
  have K10 := box2_cells J10.out.2
  obtain ⟨k3, k4⟩ := K10
  clear hb10 HA9 k1 k2 M9 J9
  go_wp2_with fail
  refine (SJ.out _ _ _ _ J10.out.1).mono ?_
  rintro e w11 ⟨rfl, hb11⟩
  have HA11 := Lib.hid (HA10.out.below hb11)
  clear hb11 HA10
  go_wp2_with fail
  go_ret
  exact ⟨rfl, HA11.out.2⟩

end Go.Proofs.Yteolfpdkpihnlaa

/-
  The walks of the reference's AtLeast, Meet and Cut. Conditions: none but that ranks and trees lie in memory.
-/
set_option linter.unusedSimpArgs false
set_option linter.unusedVariables false
namespace Go.Proofs.Yteolfpdkpihnlaa
open Go.RowKit

set_option maxHeartbeats 1600000 in
theorem erefatleast_any (R : List Int) (a b : Y) (n n' : Int) (w : World) (rp p p' : Option Addr) (rn rc l cap l' cap' : Nat) (hR : IsL w R rp rn rc) (his : IsY w a p l cap) (hit : IsY w b p' l' cap') :
    Calls Try.prog 26 #[.slice rp rn rc, .agg #[.int .i64 n, .slice p l cap], .agg #[.int .i64 n', .slice p' l' cap']] w fun e w' => e = .returned (.tuple #[.bool (leastE R n a n' b).1, .int .i64 (leastE R n a n' b).2]) ∧ Below w.heap.size w w' := by
  have hl := his.1
  subst hl
  have hl' := hit.1
  subst hl'
  have J := erefcheck_any R (.cons n a (.cons n' b .nil)) (((w.alloc (.cells #[.int .i64 n, .slice p a.len cap] 25)).alloc (.cells #[.int .i64 n', .slice p' b.len cap'] 25)).alloc (.cells #[.int .i64 n, .slice p a.len cap, .int .i64 n', .slice p' b.len cap'] 25)) rp (some ⟨w.heap.size + 1 + 1, 0, none⟩) rn rc 2 2 (((hR.alloc _).alloc _).alloc _) (isY_two (heap_new3 _ _ _ _) (((his.alloc _).alloc _).alloc _) (((hit.alloc _).alloc _).alloc _))
  change Calls _ _ _ _ (fun e w' => e = .returned (.int .i64 (chkTwo R n a n' b)) ∧ _) at J
  have b3 := below3 w (.cells #[.int .i64 n, .slice p a.len cap] 25) (.cells #[.int .i64 n', .slice p' b.len cap'] 25) (.cells #[.int .i64 n, .slice p a.len cap, .int .i64 n', .slice p' b.len cap'] 25)
  have HB3 := Lib.hid b3
  have HS := Lib.hid his
  have HT := Lib.hid hit
  clear b3
  by_cases hc : chkTwo R n a n' b = 0
  · have e1 : leastE R n a n' b = (Y.le1 n a n' b, 0) := if_pos hc
    rw [e1]
    obtain ⟨t1, t2⟩ := chkTwo_ok hc
    obtain ⟨_, _, o1⟩ := treeOk_facts t1
    obtain ⟨_, _, o2⟩ := treeOk_facts t2
    rw [hc] at J
    have HJ := Lib.hid J
    clear J hR his hit hc e1
    go_enter Try.func26, Try.ntmps26
    go_wp2_with fail
    refine (HJ.out).mono ?_
    rintro e w1 ⟨rfl, hb1⟩
    obtain ⟨x1, x2⟩ := box2_cells (box2_later hb1 (alloc_kept (alloc_kept (heap_new w (.cells #[.int .i64 n, .slice p a.len cap] 25)) _) _))
    obtain ⟨y1, y2⟩ := box2_cells (box2_later hb1 (alloc_kept (heap_new2 w _ (.cells #[.int .i64 n', .slice p' b.len cap'] 25)) _))
    have HA := Lib.hid ((((HS.out.alloc _).alloc _).alloc _).below hb1)
    have HB := Lib.hid ((((HT.out.alloc _).alloc _).alloc _).below hb1)
    have hb2 := HB3.out.trans (hb1.mono HB3.out.size)
    have HB2 := Lib.hid hb2
    clear hb1 hb2
    go_wp2_with fail
    refine (eabove_any R (a.sz + 1) a b n n' _ p p' _ cap _ cap' o1 o2 (Nat.lt_succ_self _) HA.out HB.out).mono ?_
    rintro e w2 ⟨rfl, hb3⟩
    go_wp2_with fail
    go_ret2
    exact ⟨rfl, HB2.out.trans (hb3.mono HB2.out.size)⟩
  · have e1 : leastE R n a n' b = (false, chkTwo R n a n' b) := if_neg hc
    rw [e1]
    have hd : (chkTwo R n a n' b != 0) = true := by simpa using hc
    generalize chkTwo R n a n' b = x at *
    have HJ := Lib.hid J
    clear J hR his hit hc e1
    go_enter Try.func26, Try.ntmps26
    go_wp2_with fail
    refine (HJ.out).mono ?_
    rintro e w1 ⟨rfl, hb1⟩
    go_wp2_with fail
    go_ret2
    exact ⟨rfl, HB3.out.trans (hb1.mono HB3.out.size)⟩

set_option maxRecDepth 100000 in
set_option maxHeartbeats 3200000 in
theorem erefmeettop_any (R : List Int) (a b : Y) (n n' : Int) (w : World) (rp p p' : Option Addr) (rn rc l cap l' cap' : Nat) (hR : IsL w R rp rn rc) (his : IsY w a p l cap) (hit : IsY w b p' l' cap') :
    Calls Try.prog 28 #[.slice rp rn rc, .agg #[.int .i64 n, .slice p l cap], .agg #[.int .i64 n', .slice p' l' cap']] w (GetPost (meetE R n a n' b) w) := by
  have hl := his.1
  subst hl
  have hl' := hit.1
  subst hl'
  have hK : KT w (((w.alloc (.cells #[.int .i64 n, .slice p a.len cap] 25)).alloc (.cells #[.int .i64 n', .slice p' b.len cap'] 25)).alloc (.cells #[.int .i64 0, .slice none 0 0] 25)) w.heap.size (w.heap.size + 1) (w.heap.size + 1 + 1) R rp rn rc n a p cap n' b p' cap' :=
    ⟨((hR.alloc _).alloc _).alloc _, alloc_kept (alloc_kept (heap_new _ _) _) _, alloc_kept (heap_new2 _ _ _) _, heap_new3 _ _ _ _, ((his.alloc _).alloc _).alloc _, ((hit.alloc _).alloc _).alloc _, below3 _ _ _ _⟩
  have hK2 := hK.alloc (.cells #[.int .i64 n, .slice p a.len cap, .int .i64 n', .slice p' b.len cap'] 25)
  have J := erefcheck_any R (.cons n a (.cons n' b .nil)) _ rp (some ⟨w.heap.size + 1 + 1 + 1, 0, none⟩) rn rc 2 2 hK2.rk (isY_two (heap_new4 _ _ _ _ _) hK2.i1 hK2.i2)
  change Calls _ _ _ _ (fun e w' => e = .returned (.int .i64 (chkTwo R n a n' b)) ∧ _) at J
  have HK2 := Lib.hid hK2
  clear hR his hit hK hK2
  by_cases hc : chkTwo R n a n' b = 0
  · have e1 : meetE R n a n' b = (0, (mg1 dMeet n a n' b).1, (mg1 dMeet n a n' b).2) := if_pos hc
    rw [e1]
    obtain ⟨t1, t2⟩ := chkTwo_ok hc
    obtain ⟨s1, _, o1⟩ := treeOk_facts t1
    obtain ⟨s2, _, o2⟩ := treeOk_facts t2
    rw [hc] at J
    have HJ := Lib.hid J
    have HM := Lib.hid fun W (i1 : IsY W a p a.len cap) (i2 : IsY W b p' b.len cap') => emeet_any R (a.sz + 1) a b n n' W p p' _ cap _ cap' (Nat.lt_succ_self _) (by omega) o1 o2 i1 i2
    clear J hc e1 t1 t2 s1 s2 o1 o2
    generalize (mg1 dMeet n a n' b).1 = nn at *
    generalize (mg1 dMeet n a n' b).2 = aa at *
    go_enter Try.func28, Try.ntmps28
    go_wp2_with fail
    refine (HJ.out).mono ?_
    rintro e w1 ⟨rfl, hb1⟩
    have hK := HK2.out.below hb1
    obtain ⟨x1, x2⟩ := box2_cells hK.h1
    obtain ⟨y1, y2⟩ := box2_cells hK.h2
    have HK := Lib.hid hK
    clear hb1 hK HK2
    go_wp2_with fail
    refine (HM.out _ HK.out.i1 HK.out.i2).mono ?_
    rintro e w2 ⟨q, c, rfl, hO, hb2⟩
    have hK2 := HK.out.below hb2
    obtain ⟨⟨z1, z2⟩, f1, f2⟩ := tree_box hK2.hr
    have hz := lt_of_block hK2.hr
    have hz1 := lt_of_block HK.out.hr
    clear x1 x2 y1 y2
    go_wp2_with fail
    refine bodyPost_ret (v := .tuple #[.agg #[.int .i64 nn, .slice q aa.len c], .int .i64 0]) (by simp [results, Try.results28, go_sem, z1, z2]) rfl ?_
    exact getPost_own 0 nn aa q c _ _ (by omega) (by omega) (Nat.le_refl _) hO hK2.base
  · have e1 : meetE R n a n' b = (chkTwo R n a n' b, 0, .nil) := if_neg hc
    rw [e1]
    have hd : (chkTwo R n a n' b != 0) = true := by simpa using hc
    generalize chkTwo R n a n' b = x at *
    have HJ := Lib.hid J
    clear J hc e1
    go_enter Try.func28, Try.ntmps28
    go_wp2_with fail
    refine (HJ.out).mono ?_
    rintro e w1 ⟨rfl, hb1⟩
    have hK := HK2.out.below hb1
    obtain ⟨⟨z1, z2⟩, f1, f2⟩ := tree_box hK.hr
    have hz := lt_of_block hK.hr
    clear hb1
    go_wp2_with fail
    refine bodyPost_ret (v := .tuple #[.agg #[.int .i64 0, .slice none 0 0], .int .i64 x]) (by simp [results, Try.results28, go_sem, z1, z2]) rfl ?_
    exact getPost_zero x _ _ (by omega) hK.base

set_option maxRecDepth 100000 in
set_option maxHeartbeats 3200000 in
theorem erefcuttop_any (R : List Int) (a : Y) (n d : Int) (w : World) (rp p : Option Addr) (rn rc l cap : Nat) (hd63 : d ≤ 9223372036854775807) (hR : IsL w R rp rn rc) (his : IsY w a p l cap) :
    Calls Try.prog 33 #[.slice rp rn rc, .agg #[.int .i64 n, .slice p l cap], .int .i64 d] w (GetPost (cutE R n a d) w) := by
  have hl := his.1
  subst hl
  have b2 : ∀ x y, Below w.heap.size w ((w.alloc x).alloc y) := fun x y => ((Below.refl _ _).alloc (Nat.le_refl _) _).alloc (by simp) _
  have hK : KT w ((w.alloc (.cells #[.int .i64 n, .slice p a.len cap] 25)).alloc (.cells #[.int .i64 0, .slice none 0 0] 25)) w.heap.size w.heap.size (w.heap.size + 1) R rp rn rc n a p cap n a p cap :=
    ⟨(hR.alloc _).alloc _, alloc_kept (heap_new _ _) _, alloc_kept (heap_new _ _) _, heap_new2 _ _ _, (his.alloc _).alloc _, (his.alloc _).alloc _, b2 _ _⟩
  have hK2 := hK.alloc (.cells #[.int .i64 n, .slice p a.len cap] 25)
  have J := erefcheck_any R (.cons n a .nil) _ rp (some ⟨w.heap.size + 1 + 1, 0, none⟩) rn rc 1 1 hK2.rk (isY_one (heap_new3 _ _ _ _) hK2.i1)
  change Calls _ _ _ _ (fun e w' => e = .returned (.int .i64 (chkOne R n a)) ∧ _) at J
  have HK2 := Lib.hid hK2
  clear hR his hK hK2 b2
  by_cases hc : chkOne R n a = 0
  · obtain ⟨s1, _, o1⟩ := treeOk_facts (chkOne_ok hc)
    have e1 : cutE R n a d = if d < 0 then (2, 0, .nil) else (0, cut1n d.toNat n, cut1a d.toNat a) := if_pos hc
    rw [e1]
    rw [hc] at J
    have HJ := Lib.hid J
    clear J hc e1 o1
    by_cases hneg : d < 0
    · rw [if_pos hneg]
      go_enter Try.func33, Try.ntmps33
      go_wp2_with fail
      refine (HJ.out).mono ?_
      rintro e w1 ⟨rfl, hb1⟩
      have hK := HK2.out.below hb1
      obtain ⟨⟨z1, z2⟩, f1, f2⟩ := tree_box hK.hr
      have hz := lt_of_block hK.hr
      clear hb1
      go_wp2_with fail
      refine bodyPost_ret (v := .tuple #[.agg #[.int .i64 0, .slice none 0 0], .int .i64 2]) (by simp [results, Try.results33, go_sem, z1, z2]) rfl ?_
      exact getPost_zero 2 _ _ (by omega) hK.base
    · rw [if_neg hneg]
      obtain ⟨m, rfl⟩ : ∃ m : Nat, d = (m : Int) := ⟨d.toNat, by omega⟩
      rw [Int.toNat_natCast]
      have HC := Lib.hid fun W (h : IsY W a p a.len cap) => etop_any (a.sz + 1) a n m (m : Int) W p _ cap rfl (by omega) (Nat.lt_succ_self _) (by omega) h
      generalize cut1n m n = nn at *
      generalize cut1a m a = aa at *
      go_enter Try.func33, Try.ntmps33
      go_wp2_with fail
      refine (HJ.out).mono ?_
      rintro e w1 ⟨rfl, hb1⟩
      have hK := HK2.out.below hb1
      obtain ⟨x1, x2⟩ := box2_cells hK.h1
      have HK := Lib.hid hK
      clear hb1 hK HK2
      go_wp2_with fail
      refine (HC.out _ HK.out.i1).mono ?_
      rintro e w2 ⟨q, c, rfl, hO, hb2⟩
      have hK2 := HK.out.below hb2
      obtain ⟨⟨z1, z2⟩, f1, f2⟩ := tree_box hK2.hr
      have hz := lt_of_block hK2.hr
      have hz1 := lt_of_block HK.out.hr
      clear x1 x2
      go_wp2_with fail
      refine bodyPost_ret (v := .tuple #[.agg #[.int .i64 nn, .slice q aa.len c], .int .i64 0]) (by simp [results, Try.results33, go_sem, z1, z2]) rfl ?_
      exact getPost_own 0 nn aa q c _ _ (by omega) (by omega) (Nat.le_refl _) hO hK2.base
  · have e1 : cutE R n a d = (chkOne R n a, 0, .nil) := if_neg hc
    rw [e1]
    have hd : (chkOne R n a != 0) = true := by simpa using hc
    generalize chkOne R n a = x at *
    have HJ := Lib.hid J
    clear J hc e1
    go_enter Try.func33, Try.ntmps33
    go_wp2_with fail
    refine (HJ.out).mono ?_
    rintro e w1 ⟨rfl, hb1⟩
    have hK := HK2.out.below hb1
    obtain ⟨⟨z1, z2⟩, f1, f2⟩ := tree_box hK.hr
    have hz := lt_of_block hK.hr
    clear hb1
    go_wp2_with fail
    refine bodyPost_ret (v := .tuple #[.agg #[.int .i64 0, .slice none 0 0], .int .i64 x]) (by simp [results, Try.results33, go_sem, z1, z2]) rfl ?_
    exact getPost_zero x _ _ (by omega) hK.base

end Go.Proofs.Yteolfpdkpihnlaa

/-
  What the statements on trees hold on to: ranks, three trees in their variables. What the statements' own helper answers. Conditions: none.
-/
set_option linter.unusedSimpArgs false
set_option linter.unusedVariables false
namespace Go.Proofs.Yteolfpdkpihnlaa
open Go.RowKit

/-- a number's bounds -/
theorem wf_lo {x : Int} (h : (Lit.int .i64 x).wf = true) : -9223372036854775808 ≤ x := by
  simp [Lit.wf, IntKind.min, IntKind.max, IntKind.signed, IntKind.bits] at h
  omega

theorem wf_hi {x : Int} (h : (Lit.int .i64 x).wf = true) : x ≤ 9223372036854775807 := by
  simp [Lit.wf, IntKind.min, IntKind.max, IntKind.signed, IntKind.bits] at h
  omega

/-- ranks and three trees in their variables (the same again, where there are fewer) -/
structure KK (w W : World) (R : List Int) (rp : Option Addr) (rn rc : Nat) (b1 b2 b3 : Nat) (n1 : Int) (a1 : Y) (p1 : Option Addr) (c1 : Nat) (n2 : Int) (a2 : Y) (p2 : Option Addr) (c2 : Nat) (n3 : Int) (a3 : Y) (p3 : Option Addr) (c3 : Nat) : Prop where
  rk : IsL W R rp rn rc
  h1 : W.heap[b1]? = some (.cells #[.int .i64 n1, .slice p1 a1.len c1] 25 (0, 0))
  h2 : W.heap[b2]? = some (.cells #[.int .i64 n2, .slice p2 a2.len c2] 25 (0, 0))
  h3 : W.heap[b3]? = some (.cells #[.int .i64 n3, .slice p3 a3.len c3] 25 (0, 0))
  i1 : IsY W a1 p1 a1.len c1
  i2 : IsY W a2 p2 a2.len c2
  i3 : IsY W a3 p3 a3.len c3
  base : Below w.heap.size w W

section
variable {w W W' : World} {R : List Int} {rp : Option Addr} {rn rc b1 b2 b3 : Nat} {n1 : Int} {a1 : Y} {p1 : Option Addr} {c1 : Nat} {n2 : Int} {a2 : Y} {p2 : Option Addr} {c2 : Nat} {n3 : Int} {a3 : Y} {p3 : Option Addr} {c3 : Nat}

theorem KK.below (h : KK w W R rp rn rc b1 b2 b3 n1 a1 p1 c1 n2 a2 p2 c2 n3 a3 p3 c3) (hb : Below W.heap.size W W') : KK w W' R rp rn rc b1 b2 b3 n1 a1 p1 c1 n2 a2 p2 c2 n3 a3 p3 c3 :=
  ⟨h.rk.below hb, box2_later hb h.h1, box2_later hb h.h2, box2_later hb h.h3, h.i1.below hb, h.i2.below hb, h.i3.below hb, h.base.trans (hb.mono h.base.size)⟩

theorem KK.alloc (h : KK w W R rp rn rc b1 b2 b3 n1 a1 p1 c1 n2 a2 p2 c2 n3 a3 p3 c3) (o : Obj) : KK w (W.alloc o) R rp rn rc b1 b2 b3 n1 a1 p1 c1 n2 a2 p2 c2 n3 a3 p3 c3 := h.below ((Below.refl _ _).alloc (Nat.le_refl _) o)

theorem KK.drew (h : KK w W R rp rn rc b1 b2 b3 n1 a1 p1 c1 n2 a2 p2 c2 n3 a3 p3 c3) : KK w W.drew R rp rn rc b1 b2 b3 n1 a1 p1 c1 n2 a2 p2 c2 n3 a3 p3 c3 := h.below (Below.refl _ _).drew

theorem KK.cells (h : KK w W R rp rn rc b1 b2 b3 n1 a1 p1 c1 n2 a2 p2 c2 n3 a3 p3 c3) :
    (W.cell? ⟨b1, 0, none⟩ = some (.int .i64 n1) ∧ W.cell? ⟨b1, 1, none⟩ = some (.slice p1 a1.len c1)) ∧ (W.cell? ⟨b2, 0, none⟩ = some (.int .i64 n2) ∧ W.cell? ⟨b2, 1, none⟩ = some (.slice p2 a2.len c2)) ∧ (W.cell? ⟨b3, 0, none⟩ = some (.int .i64 n3) ∧ W.cell? ⟨b3, 1, none⟩ = some (.slice p3 a3.len c3)) :=
  ⟨box2_cells h.h1, box2_cells h.h2, box2_cells h.h3⟩
end

theorem kk_one {w : World} {R : List Int} {rp : Option Addr} {rn rc : Nat} {n1 : Int} {a1 : Y} {p1 : Option Addr} {c1 : Nat} (hR : IsL w R rp rn rc) (i1 : IsY w a1 p1 a1.len c1) :
    KK w (w.alloc (.cells #[.int .i64 n1, .slice p1 a1.len c1] 25)) R rp rn rc w.heap.size w.heap.size w.heap.size n1 a1 p1 c1 n1 a1 p1 c1 n1 a1 p1 c1 :=
  ⟨hR.alloc _, heap_new _ _, heap_new _ _, heap_new _ _, i1.alloc _, i1.alloc _, i1.alloc _, (Below.refl _ _).alloc (Nat.le_refl _) _⟩

theorem kk_two {w : World} {R : List Int} {rp : Option Addr} {rn rc : Nat} {n1 : Int} {a1 : Y} {p1 : Option Addr} {c1 : Nat} {n2 : Int} {a2 : Y} {p2 : Option Addr} {c2 : Nat} (hR : IsL w R rp rn rc) (i1 : IsY w a1 p1 a1.len c1) (i2 : IsY w a2 p2 a2.len c2) :
    KK w ((w.alloc (.cells #[.int .i64 n1, .slice p1 a1.len c1] 25)).alloc (.cells #[.int .i64 n2, .slice p2 a2.len c2] 25)) R rp rn rc w.heap.size (w.heap.size + 1) (w.heap.size + 1) n1 a1 p1 c1 n2 a2 p2 c2 n2 a2 p2 c2 :=
  ⟨(hR.alloc _).alloc _, alloc_kept (heap_new _ _) _, heap_new2 _ _ _, heap_new2 _ _ _, (i1.alloc _).alloc _, (i2.alloc _).alloc _, (i2.alloc _).alloc _, ((Below.refl _ _).alloc (Nat.le_refl _) _).alloc (by simp) _⟩

theorem kk_three {w : World} {R : List Int} {rp : Option Addr} {rn rc : Nat} {n1 : Int} {a1 : Y} {p1 : Option Addr} {c1 : Nat} {n2 : Int} {a2 : Y} {p2 : Option Addr} {c2 : Nat} {n3 : Int} {a3 : Y} {p3 : Option Addr} {c3 : Nat} (hR : IsL w R rp rn rc) (i1 : IsY w a1 p1 a1.len c1) (i2 : IsY w a2 p2 a2.len c2) (i3 : IsY w a3 p3 a3.len c3) :
    KK w (((w.alloc (.cells #[.int .i64 n1, .slice p1 a1.len c1] 25)).alloc (.cells #[.int .i64 n2, .slice p2 a2.len c2] 25)).alloc (.cells #[.int .i64 n3, .slice p3 a3.len c3] 25)) R rp rn rc w.heap.size (w.heap.size + 1) (w.heap.size + 1 + 1) n1 a1 p1 c1 n2 a2 p2 c2 n3 a3 p3 c3 :=
  ⟨((hR.alloc _).alloc _).alloc _, alloc_kept (alloc_kept (heap_new _ _) _) _, alloc_kept (heap_new2 _ _ _) _, heap_new3 _ _ _ _, ((i1.alloc _).alloc _).alloc _, ((i2.alloc _).alloc _).alloc _, ((i3.alloc _).alloc _).alloc _, below3 _ _ _ _⟩

set_option maxHeartbeats 400000 in
theorem ezero_any (w : World) (p : Option Addr) (cap : Nat) : Calls Try.prog 61 #[.agg #[.int .i64 0, .slice p 0 cap]] w fun e w' => e = .returned (.bool true) ∧ Below w.heap.size w w' := by
  go_enter Try.func61, Try.ntmps61
  go_wp2_with fail
  go_ret
  exact ⟨rfl, (Below.refl _ _).alloc (Nat.le_refl _) _⟩

theorem sm_refl {n : Int} {a : Y} (h : a.sz < 20000) : Y.sm n a n a = true := by
  simp [Y.sm, h, Y.eq1, Y.eqY_refl]

/-- equal answers are alike -/
theorem eis_any (x n : Int) (a : Y) (hx : x = 0 ∧ a.sz < 20000 ∨ x ≠ 0 ∧ n = 0 ∧ a = .nil) (W : World) (p q : Option Addr) (c c' : Nat) (h1 : IsY W a p a.len c) (h2 : IsY W a q a.len c') :
    Calls Try.prog 29 #[.agg #[.int .i64 n, .slice p a.len c], .int .i64 x, .agg #[.int .i64 n, .slice q a.len c'], .int .i64 x] W fun e w' => e = .returned (.bool true) ∧ Below W.heap.size W w' := by
  have b2 : ∀ x y, Below W.heap.size W ((W.alloc x).alloc y) := fun x y => ((Below.refl _ _).alloc (Nat.le_refl _) _).alloc (by simp) _
  rcases hx with ⟨rfl, hs⟩ | ⟨hx, rfl, rfl⟩
  · have J := erefsame_any a a n n ((W.alloc (.cells #[.int .i64 n, .slice p a.len c] 25)).alloc (.cells #[.int .i64 n, .slice q a.len c'] 25)) p q a.len c a.len c' ((h1.alloc _).alloc _) ((h2.alloc _).alloc _)
    rw [sm_refl hs] at J
    have HJ := Lib.hid J
    have HB := Lib.hid b2
    clear J b2 hs h1 h2
    go_enter Try.func29, Try.ntmps29
    go_wp2_with fail
    refine (HJ.out).mono ?_
    rintro e w1 ⟨rfl, hb1⟩
    go_wp2_with fail
    go_ret
    exact ⟨rfl, (HB.out _ _).trans (hb1.mono (HB.out _ _).size)⟩
  · have hd : decide (x = 0) = false := by simpa using hx
    have hd2 : decide (0 = x) = false := by simpa using fun e : (0 : Int) = x => hx e.symm
    have hd3 : (x != 0) = true := by simpa using hx
    have HB := Lib.hid b2
    clear b2 h1 h2
    go_enter Try.func29, Try.ntmps29
    go_wp2_with fail
    refine (ezero_any _ p c).mono ?_
    rintro e w1 ⟨rfl, hb1⟩
    go_wp2_with fail
    go_ret
    exact ⟨rfl, (HB.out _ _).trans (hb1.mono (HB.out _ _).size)⟩

end Go.Proofs.Yteolfpdkpihnlaa

/-
  What AtLeast answers on valid arguments; what the checks say. Conditions: none but that ranks and trees lie in memory.
-/
set_option linter.unusedSimpArgs false
set_option linter.unusedVariables false
namespace Go.Proofs.Yteolfpdkpihnlaa
open Go.RowKit

theorem chkOne_two {R : List Int} {n : Int} {a : Y} (h : chkOne R n a = 0) : ranksOk R = true ∧ treeOk R n a = true := by
  refine ⟨?_, chkOne_ok h⟩
  unfold chkOne chk6 at h
  split at h
  · assumption
  · simp at h

theorem chkTwo_three {R : List Int} {n : Int} {a : Y} {n' : Int} {b : Y} (h : chkTwo R n a n' b = 0) : ranksOk R = true ∧ treeOk R n a = true ∧ treeOk R n' b = true := by
  refine ⟨?_, chkTwo_ok h⟩
  unfold chkTwo chk6 at h
  split at h
  · assumption
  · simp at h

theorem chkTwo_mk {R : List Int} {n : Int} {a : Y} {n' : Int} {b : Y} (h : ranksOk R = true) (h1 : treeOk R n a = true) (h2 : treeOk R n' b = true) : chkTwo R n a n' b = 0 := by
  simp [chkTwo, chk6, chkE, h, h1, h2]

theorem chkOne_mk {R : List Int} {n : Int} {a : Y} (h : ranksOk R = true) (h1 : treeOk R n a = true) : chkOne R n a = 0 := by
  simp [chkOne, chk6, chkE, h, h1]

theorem eatleast_ok {R : List Int} {a b : Y} {n n' : Int} (ho : ranksOk R = true) (h1 : treeOk R n a = true) (h2 : treeOk R n' b = true) (w : World) (rp p p' : Option Addr) (rn rc cap cap' : Nat) (hR : IsL w R rp rn rc) (his : IsY w a p a.len cap) (hit : IsY w b p' b.len cap') :
    Calls Try.prog 25 #[.slice rp rn rc, .agg #[.int .i64 n, .slice p a.len cap], .agg #[.int .i64 n', .slice p' b.len cap']] w fun e w' => e = .returned (.tuple #[.bool (Y.le1 n a n' b), .int .i64 0]) ∧ Below w.heap.size w w' := by
  have h := eatleast_any R a b n n' w rp p p' rn rc _ cap _ cap' hR his hit
  unfold leastE at h
  rw [if_pos (chkTwo_mk ho h1 h2)] at h
  exact h

end Go.Proofs.Yteolfpdkpihnlaa

