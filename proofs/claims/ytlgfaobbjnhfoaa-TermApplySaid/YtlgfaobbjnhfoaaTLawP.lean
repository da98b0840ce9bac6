/-
  The walk of the statement on Apply, where the example holds. Conditions: none but that the terms lie in memory.
-/
import Derived.Test.YtlgfaobbjnhfoaaTWalkV
import Derived.Test.YtlgfaobbjnhfoaaTLawN
set_option linter.unusedSimpArgs false
set_option linter.unusedVariables false
namespace Go.Proofs.Ytlgfaobbjnhfoaa
open Go.RowKit

set_option maxRecDepth 100000 in
set_option maxHeartbeats 4000000 in
theorem law_apply (hal : Alive) (a args : X) (k n : Int) (w : World) (p q : Option Addr) (l cap m cap' : Nat) (his : IsX w a p l cap) (hia : IsX w args q m cap') :
    Calls Try.prog 8 #[.agg #[.int .i64 k, .int .i64 n, .slice p l cap], .slice q m cap'] w fun e w' => e = .returned (.bool true) ∧ Below w.heap.size w w' := by
  have HAL := Lib.hid hal
  clear hal
  obtain ⟨E, K, Nn, A, hres⟩ : ∃ E K Nn A, appRes args k n a = (E, K, Nn, A) := ⟨_, _, _, _, rfl⟩
  have hsz := appRes_sz hres
  have HP := Lib.hid (fun W h h' => apply_any args a k n W p q l cap m cap' h h' E K Nn A hres)
  have HR := Lib.hid (fun W h h' => refapply_any args a k n W p q l cap m cap' h h' E K Nn A hres)
  have HI := Lib.hid (fun W r r' c c' i1 i2 => is_true A hsz K Nn E W r r' c c' i1 i2)
  clear hres hsz
  go_enter Try.func8, Try.ntmps8
  go_wp2_with fail
  refine (HP.out _ (his.alloc _) (hia.alloc _)).mono ?_
  rintro e w1 ⟨r, c, rfl, hO, hb1⟩
  have t1 := box3_later hb1 (heap_new w (.cells #[.int .i64 k, .int .i64 n, .slice p l cap] 35))
  have B1 := below_call hb1
  obtain ⟨x1, x2, x3⟩ := box3_cells (alloc_kept t1 (.cells #[.int .i64 K, .int .i64 Nn, .slice r A.len c] 35))
  have u2 := heap_new w1 (.cells #[.int .i64 K, .int .i64 Nn, .slice r A.len c] 35)
  have B2 := B1.alloc B1.size (.cells #[.int .i64 K, .int .i64 Nn, .slice r A.len c] 35)
  have i2 := hO.isX.alloc (.cells #[.int .i64 K, .int .i64 Nn, .slice r A.len c] 35)
  have a2 := his.below B2
  have r2 := hia.below B2
  have U2 := Lib.hid u2
  clear hb1 hO t1 B1 u2
  go_wp2_with fail
  refine (HR.out _ a2 r2).mono ?_
  rintro e w2 ⟨r', c', rfl, hO2, hb2⟩
  have B3 := (B2.trans (hb2.mono B2.size))
  obtain ⟨y1, y2, y3⟩ := box3_cells (alloc_kept (box3_later hb2 U2.out) (.cells #[.int .i64 K, .int .i64 Nn, .slice r' A.len c'] 35))
  have i3 := (i2.below hb2).alloc (.cells #[.int .i64 K, .int .i64 Nn, .slice r' A.len c'] 35)
  have j3 := hO2.isX.alloc (.cells #[.int .i64 K, .int .i64 Nn, .slice r' A.len c'] 35)
  have B4 := B3.alloc B3.size (.cells #[.int .i64 K, .int .i64 Nn, .slice r' A.len c'] 35)
  clear hb2 hO2 B3 x1 x2 x3 i2 a2 r2 B2
  go_wp2_with fail
  refine (HI.out _ _ _ _ _ i3 j3).mono ?_
  rintro e w3 ⟨rfl, hb3⟩
  have B5 := B4.trans (hb3.mono B4.size)
  clear hb3
  go_wp2_with fail
  refine (alive_late HAL.out B5).mono ?_
  rintro e w4 ⟨rfl, hb4⟩
  go_wp2_with fail
  go_ret
  exact ⟨rfl, hb4⟩

end Go.Proofs.Ytlgfaobbjnhfoaa
