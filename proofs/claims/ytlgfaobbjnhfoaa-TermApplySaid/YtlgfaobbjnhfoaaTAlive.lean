/-
  The walk of the statements' own example: it holds. Conditions: none.
-/
import Derived.Test.YtlgfaobbjnhfoaaTWalkQ
set_option linter.unusedSimpArgs false
set_option linter.unusedVariables false
namespace Go.Proofs.Ytlgfaobbjnhfoaa
open Go.RowKit

theorem chain_alloc {a x : World} (h : Below a.heap.size a x) (o : Obj) : Below a.heap.size a (x.alloc o) := h.alloc h.size o

theorem use_chain {P : Prop} {a x w5 : World} (hb : Below x.drew.heap.size x.drew w5) (h : Below a.heap.size a x) (k : Below a.heap.size a w5 → a.heap.size ≤ x.drew.heap.size → P) : P :=
  k (h.trans ((drew_later hb).mono h.size)) h.size

/-- what the second part leaves -/
def After2 (w : World) (b4 : Nat) (q1 : Option Addr) (c1 : Nat) (v6 v7 : Value) (wx : World) : Prop := ∃ (b6 : Nat) (r : Option Addr) (c : Nat), v6 = .pointer (some ⟨b6, 0, none⟩) ∧ v7 = .int .i64 0 ∧
      wx.heap[b6]? = some (.cells #[.int .i64 2, .int .i64 0, .slice r 2 c] 35 (0, 0)) ∧ IsX wx exW r 2 c ∧ wx.heap[b4]? = some (.cells #[.slice q1 0 c1] 40 (0, 0)) ∧ Below w.heap.size w wx

theorem fin_set {w wc w5 : World} {b4 b6 c c1 lo : Nat} {r q1 : Option Addr} (hz6 : w5.heap[b6]? = some (.cells #[.int .i64 0, .int .i64 0, .slice none 0 0] 35 (0, 0)))
    (hO : OwnX w5 exW r c lo w5.heap.size) (hlt : b6 < lo) (hge : wc.heap.size ≤ b6) (s2 : wc.heap[b4]? = some (.cells #[.slice q1 0 c1] 40 (0, 0))) (hB5 : Below wc.heap.size wc w5) (B2 : Below w.heap.size w wc) :
    After2 w b4 q1 c1 (.pointer (some ⟨b6, 0, none⟩)) (.int .i64 0) (((w5.setCell ⟨b6, 0, none⟩ (.int .i64 2)).setCell ⟨b6, 1, none⟩ (.int .i64 0)).setCell ⟨b6, 2, none⟩ (.slice r 2 c)) := by
  have h4 := lt_of_block s2
  have hs := B2.size
  exact ⟨b6, r, c, rfl, rfl, heap_set3 hz6, (hO.set3 _ _ _ hlt (Nat.zero_le lo)).isX, heap_set3_far (by omega) (box3_later hB5 s2), B2.trans ((below_set3 _ _ _ hB5 hge).mono B2.size)⟩

theorem fin_new {w wc w5 : World} {b4 c c1 lo : Nat} {r q1 : Option Addr} (hO : OwnX w5 exW r c lo w5.heap.size) (s2 : wc.heap[b4]? = some (.cells #[.slice q1 0 c1] 40 (0, 0))) (hB5 : Below wc.heap.size wc w5) (B2 : Below w.heap.size w wc) :
    After2 w b4 q1 c1 (.pointer (some ⟨w5.heap.size, 0, none⟩)) (.int .i64 0) (w5.alloc (.cells #[.int .i64 2, .int .i64 0, .slice r 2 c] 35)) := by
  have B5 := B2.trans (hB5.mono B2.size)
  exact ⟨_, r, c, rfl, rfl, heap_new _ _, hO.isX.alloc _, alloc_kept (box3_later hB5 s2) _, B5.alloc B5.size _⟩

set_option maxRecDepth 100000 in
set_option maxHeartbeats 40000000 in
theorem alive_any : Alive := by
  intro w
  go_enter Try.func17, Try.ntmps17
  go_wp2_with fail
  refine (variable_any _ _ _ _ _).mono ?_
  rintro e w1 ⟨rfl, rfl⟩
  go_wp2_with fail
  refine (variable_any _ _ _ _ _).mono ?_
  rintro e w1 ⟨rfl, rfl⟩
  go_wp2_with fail
  refine (variable_any _ _ _ _ _).mono ?_
  rintro e w1 ⟨rfl, rfl⟩
  go_upto_region 4 with fail
  go_cut [1, 2, 3, 4, 5] from 11 to 74 (fun v1 v2 v3 v4 v5 wx => ∃ (bt b4 : Nat) (pA q1 : Option Addr) (c1 : Nat), v3 = .pointer (some ⟨bt, 0, none⟩) ∧ v4 = .pointer (some ⟨b4, 0, none⟩) ∧ v5 = .int .i64 0 ∧
    wx.heap[bt]? = some (.cells #[.int .i64 0, .int .i64 0, .slice pA 1 1] 35 (0, 0)) ∧ IsA pA wx ∧ wx.heap[b4]? = some (.cells #[.slice q1 0 c1] 40 (0, 0)) ∧ Below w.heap.size w wx)
  case first =>
    go_wp2_with fail
    refine (ex_Sort (exAt w.heap.size) _ _ _ _ (ex_isP w) (ex_isX w)).mono ?_
    rintro e w1 ⟨q1, c1, rfl, hb1⟩
    have hb1' : Below (allocs w (exL w.heap.size)).heap.size (allocs w (exL w.heap.size)) w1 := hb1
    have B1 := (allocs_below (exL w.heap.size) w).trans (hb1'.mono (by rw [allocs_size]; omega))
    have t1 := box3_later hb1' (allocs_at (exL w.heap.size) w 10 _ rfl)
    have i1 : IsA (some ⟨w.heap.size + 8, 0, none⟩) w1 := (ex_isX w).below hb1'
    clear hb1 hb1'
    go_wp2_with fail
    go_meet
    case rel => exact ⟨w.heap.size + 10, w1.heap.size, some ⟨w.heap.size + 8, 0, none⟩, q1, c1, rfl, rfl, rfl, alloc_kept t1 _, i1.alloc _, heap_new _ _, B1.alloc B1.size _⟩
  case rest =>
    obtain ⟨bt, b4, pA, q1, c1, rfl, rfl, rfl, t2, i2, s2, B2⟩ := hcut
    obtain ⟨y1, y2, y3⟩ := box3_cells t2
    go_upto_region 5 with fail
    go_cut [6, 7] from 11 to 74 (fun v6 v7 wx => After2 w b4 q1 c1 v6 v7 wx)
    case first =>
      have K11 : ∀ o1 : Obj, (wc.alloc o1).cell? ⟨bt, 0, none⟩ = some (.int .i64 0) := fun o1 => allocs_cell [o1] wc y1
      have K12 : ∀ o1 : Obj, (wc.alloc o1).cell? ⟨bt, 1, none⟩ = some (.int .i64 0) := fun o1 => allocs_cell [o1] wc y2
      have K13 : ∀ o1 : Obj, (wc.alloc o1).cell? ⟨bt, 2, none⟩ = some (.slice pA 1 1) := fun o1 => allocs_cell [o1] wc y3
      have K21 : ∀ o1 o2 : Obj, ((wc.alloc o1).alloc o2).cell? ⟨bt, 0, none⟩ = some (.int .i64 0) := fun o1 o2 => allocs_cell [o1, o2] wc y1
      have K22 : ∀ o1 o2 : Obj, ((wc.alloc o1).alloc o2).cell? ⟨bt, 1, none⟩ = some (.int .i64 0) := fun o1 o2 => allocs_cell [o1, o2] wc y2
      have K23 : ∀ o1 o2 : Obj, ((wc.alloc o1).alloc o2).cell? ⟨bt, 2, none⟩ = some (.slice pA 1 1) := fun o1 o2 => allocs_cell [o1, o2] wc y3
      have K31 : ∀ o1 o2 o3 : Obj, (((wc.alloc o1).alloc o2).alloc o3).cell? ⟨bt, 0, none⟩ = some (.int .i64 0) := fun o1 o2 o3 => allocs_cell [o1, o2, o3] wc y1
      have K32 : ∀ o1 o2 o3 : Obj, (((wc.alloc o1).alloc o2).alloc o3).cell? ⟨bt, 1, none⟩ = some (.int .i64 0) := fun o1 o2 o3 => allocs_cell [o1, o2, o3] wc y2
      have K33 : ∀ o1 o2 o3 : Obj, (((wc.alloc o1).alloc o2).alloc o3).cell? ⟨bt, 2, none⟩ = some (.slice pA 1 1) := fun o1 o2 o3 => allocs_cell [o1, o2, o3] wc y3
      have K41 : ∀ o1 o2 o3 o4 : Obj, ((((wc.alloc o1).alloc o2).alloc o3).alloc o4).cell? ⟨bt, 0, none⟩ = some (.int .i64 0) := fun o1 o2 o3 o4 => allocs_cell [o1, o2, o3, o4] wc y1
      have K42 : ∀ o1 o2 o3 o4 : Obj, ((((wc.alloc o1).alloc o2).alloc o3).alloc o4).cell? ⟨bt, 1, none⟩ = some (.int .i64 0) := fun o1 o2 o3 o4 => allocs_cell [o1, o2, o3, o4] wc y2
      have K43 : ∀ o1 o2 o3 o4 : Obj, ((((wc.alloc o1).alloc o2).alloc o3).alloc o4).cell? ⟨bt, 2, none⟩ = some (.slice pA 1 1) := fun o1 o2 o3 o4 => allocs_cell [o1, o2, o3, o4] wc y3
      have K51 : ∀ o1 o2 o3 o4 o5 : Obj, (((((wc.alloc o1).alloc o2).alloc o3).alloc o4).alloc o5).cell? ⟨bt, 0, none⟩ = some (.int .i64 0) := fun o1 o2 o3 o4 o5 => allocs_cell [o1, o2, o3, o4, o5] wc y1
      have K52 : ∀ o1 o2 o3 o4 o5 : Obj, (((((wc.alloc o1).alloc o2).alloc o3).alloc o4).alloc o5).cell? ⟨bt, 1, none⟩ = some (.int .i64 0) := fun o1 o2 o3 o4 o5 => allocs_cell [o1, o2, o3, o4, o5] wc y2
      have K53 : ∀ o1 o2 o3 o4 o5 : Obj, (((((wc.alloc o1).alloc o2).alloc o3).alloc o4).alloc o5).cell? ⟨bt, 2, none⟩ = some (.slice pA 1 1) := fun o1 o2 o3 o4 o5 => allocs_cell [o1, o2, o3, o4, o5] wc y3
      have K61 : ∀ o1 o2 o3 o4 o5 o6 : Obj, ((((((wc.alloc o1).alloc o2).alloc o3).alloc o4).alloc o5).alloc o6).cell? ⟨bt, 0, none⟩ = some (.int .i64 0) := fun o1 o2 o3 o4 o5 o6 => allocs_cell [o1, o2, o3, o4, o5, o6] wc y1
      have K62 : ∀ o1 o2 o3 o4 o5 o6 : Obj, ((((((wc.alloc o1).alloc o2).alloc o3).alloc o4).alloc o5).alloc o6).cell? ⟨bt, 1, none⟩ = some (.int .i64 0) := fun o1 o2 o3 o4 o5 o6 => allocs_cell [o1, o2, o3, o4, o5, o6] wc y2
      have K63 : ∀ o1 o2 o3 o4 o5 o6 : Obj, ((((((wc.alloc o1).alloc o2).alloc o3).alloc o4).alloc o5).alloc o6).cell? ⟨bt, 2, none⟩ = some (.slice pA 1 1) := fun o1 o2 o3 o4 o5 o6 => allocs_cell [o1, o2, o3, o4, o5, o6] wc y3
      go_region_with (first
        | (go_at_call 45; refine (symbol_any _ _ _ _ _).mono ?_; rintro e w1 ⟨rfl, rfl⟩)
        | (go_at_call 29; refine Calls.mono (ex_Subst _ pA _ _ _ ?_ ?_) ?_; (repeat (first | exact i2 | refine IsA.drew ?_ | refine IsA.alloc ?_ _)); refine IsX.drew ?_; apply isS_of; (repeat (first | (refine heap_new_eq ?_; (solve | with_reducible rfl | simp only [World.size_alloc])) | refine alloc_kept ?_ _)); rintro e w5 ⟨r, c, rfl, hO5, hb5⟩; refine use_chain (a := wc) hb5 ?_ ?_; (repeat (first | exact Below.refl _ _ | refine chain_alloc ?_ _)); intro hB5 hC5; first
          | (refine use_kept (b := wc.heap.size) (o := .cells #[.int .i64 0, .int .i64 0, .slice none 0 0] 35) hb5 ?_ ?_; (repeat (first | (refine heap_new_eq ?_; (solve | with_reducible rfl | simp only [World.size_alloc])) | refine alloc_kept ?_ _)); intro hz6; obtain ⟨g1, g2, g3⟩ := box3_cells hz6; obtain ⟨g4, g5, g6⟩ := free3 hz6)
          | (refine use_kept (b := wc.heap.size + 1) (o := .cells #[.int .i64 0, .int .i64 0, .slice none 0 0] 35) hb5 ?_ ?_; (repeat (first | (refine heap_new_eq ?_; (solve | with_reducible rfl | simp only [World.size_alloc])) | refine alloc_kept ?_ _)); intro hz6; obtain ⟨g1, g2, g3⟩ := box3_cells hz6; obtain ⟨g4, g5, g6⟩ := free3 hz6)
          | (refine use_kept (b := wc.heap.size + 1 + 1) (o := .cells #[.int .i64 0, .int .i64 0, .slice none 0 0] 35) hb5 ?_ ?_; (repeat (first | (refine heap_new_eq ?_; (solve | with_reducible rfl | simp only [World.size_alloc])) | refine alloc_kept ?_ _)); intro hz6; obtain ⟨g1, g2, g3⟩ := box3_cells hz6; obtain ⟨g4, g5, g6⟩ := free3 hz6)
          | (refine use_kept (b := wc.heap.size + 1 + 1 + 1) (o := .cells #[.int .i64 0, .int .i64 0, .slice none 0 0] 35) hb5 ?_ ?_; (repeat (first | (refine heap_new_eq ?_; (solve | with_reducible rfl | simp only [World.size_alloc])) | refine alloc_kept ?_ _)); intro hz6; obtain ⟨g1, g2, g3⟩ := box3_cells hz6; obtain ⟨g4, g5, g6⟩ := free3 hz6)
          | (refine use_kept (b := wc.heap.size + 1 + 1 + 1 + 1) (o := .cells #[.int .i64 0, .int .i64 0, .slice none 0 0] 35) hb5 ?_ ?_; (repeat (first | (refine heap_new_eq ?_; (solve | with_reducible rfl | simp only [World.size_alloc])) | refine alloc_kept ?_ _)); intro hz6; obtain ⟨g1, g2, g3⟩ := box3_cells hz6; obtain ⟨g4, g5, g6⟩ := free3 hz6)
          | (refine use_kept (b := wc.heap.size + 1 + 1 + 1 + 1 + 1) (o := .cells #[.int .i64 0, .int .i64 0, .slice none 0 0] 35) hb5 ?_ ?_; (repeat (first | (refine heap_new_eq ?_; (solve | with_reducible rfl | simp only [World.size_alloc])) | refine alloc_kept ?_ _)); intro hz6; obtain ⟨g1, g2, g3⟩ := box3_cells hz6; obtain ⟨g4, g5, g6⟩ := free3 hz6)
          | (have hz6 := True.intro)))
      all_goals
        go_wp2_with fail
        go_meet
        case rel =>
          first
          | exact fin_new hO5 s2 hB5 B2
          | exact fin_set hz6 hO5 (by simp <;> omega) (by omega) s2 hB5 B2
    case rest =>
      obtain ⟨b6, r, c, rfl, rfl, u1, i1, s3, B3⟩ := hcut
      have hx := fun W p l cap h => tsize_any exW 2 0 W p l cap h
      have ez : exW.szN = 5 := by kernel_rfl
      rw [ez] at hx
      generalize exW.szD = zd at hx
      have hy := fun W p q l cap m cap' h h' => trefsame_any exW exW 2 0 2 0 W p q l cap m cap' h h'
      have es : X.sm 2 0 exW 2 0 exW = true := by kernel_rfl
      rw [es] at hy
      have HX := Lib.hid hx
      have HY := Lib.hid hy
      clear hx hy ez es y1 y2 y3 t2 i2 s2 B2
      go_wp2_with fail
      refine (symbol_any _ _ _ _ _).mono ?_
      rintro e w1 ⟨rfl, rfl⟩
      go_wp2_with fail
      refine (symbol_any _ _ _ _ _).mono ?_
      rintro e w1 ⟨rfl, rfl⟩
      go_wp2_with fail
      refine (symbol_any _ _ _ _ _).mono ?_
      rintro e w1 ⟨rfl, rfl⟩
      go_wp2_with fail
      refine (symbol_any _ _ _ _ _).mono ?_
      rintro e w1 ⟨rfl, rfl⟩
      go_wp2_with fail
      refine (symbol_any _ _ _ _ _).mono ?_
      rintro e w1 ⟨rfl, rfl⟩
      have U := box3_cells u1
      have K1 : ∀ o1 o2 o3 o4 o5 o6 o7 o8 : Obj, ((((((((wc.alloc o1).alloc o2).alloc o3).alloc o4).alloc o5).alloc o6).alloc o7).alloc o8).cell? ⟨b6, 0, none⟩ = some (.int .i64 2) := fun o1 o2 o3 o4 o5 o6 o7 o8 => allocs_cell [o1, o2, o3, o4, o5, o6, o7, o8] wc U.1
      have K2 : ∀ o1 o2 o3 o4 o5 o6 o7 o8 : Obj, ((((((((wc.alloc o1).alloc o2).alloc o3).alloc o4).alloc o5).alloc o6).alloc o7).alloc o8).cell? ⟨b6, 1, none⟩ = some (.int .i64 0) := fun o1 o2 o3 o4 o5 o6 o7 o8 => allocs_cell [o1, o2, o3, o4, o5, o6, o7, o8] wc U.2.1
      have K3 : ∀ o1 o2 o3 o4 o5 o6 o7 o8 : Obj, ((((((((wc.alloc o1).alloc o2).alloc o3).alloc o4).alloc o5).alloc o6).alloc o7).alloc o8).cell? ⟨b6, 2, none⟩ = some (.slice r 2 c) := fun o1 o2 o3 o4 o5 o6 o7 o8 => allocs_cell [o1, o2, o3, o4, o5, o6, o7, o8] wc U.2.2
      clear U
      go_wp2_with fail
      refine (HX.out _ r 2 c ((((((((i1.alloc _).alloc _).alloc _).alloc _).alloc _).alloc _).alloc _).alloc _)).mono ?_
      rintro e w5 ⟨rfl, hb5⟩
      have hb6 : Below (allocs wc (exL3 wc.heap.size)).heap.size (allocs wc (exL3 wc.heap.size)) w5 := hb5
      have B4 := B3.trans (((allocs_below (exL3 wc.heap.size) wc).trans (hb6.mono (by rw [allocs_size]; omega))).mono B3.size)
      have iW := (ex_isW wc).below hb6
      have bW := box3_later hb6 (allocs_at (exL3 wc.heap.size) wc 7 _ rfl)
      have hb7 := (allocs_below (exL3 wc.heap.size) wc).trans (hb6.mono (by rw [allocs_size]; omega))
      have u2 := box3_later hb7 u1
      have i3 := i1.below hb7
      have s4 := cell_box (box3_later hb7 s3)
      obtain ⟨v1, v2, v3⟩ := box3_cells u2
      obtain ⟨v4, v5, v6⟩ := box3_cells bW
      clear hb5 hb6 hb7 K1 K2 K3
      go_wp2_with fail
      refine (HY.out _ r _ 2 c 2 2 i3 iW).mono ?_
      rintro e w6 ⟨rfl, hb8⟩
      go_wp2_with fail
      go_ret
      exact ⟨rfl, B4.trans (hb8.mono B4.size)⟩

end Go.Proofs.Ytlgfaobbjnhfoaa
