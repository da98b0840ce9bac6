/-
  The walks of the statements on Check, Same, Order and Put. Conditions: none but that the sorts lie in memory.
-/
import Derived.Test.YteokoilpnabmhaaWalkH
import Derived.Deep.RegionHeld3
namespace Go.Proofs.Yteokoilpnabmhaa
open Go.RowKit

/-- in a later world: a box of the call's own -/
theorem box_later {W w1 : World} {b : Nat} {v : Value} (hb : Below W.heap.size W w1) (h : W.cell? ⟨b, 0, none⟩ = some v) : w1.cell? ⟨b, 0, none⟩ = some v := by
  rw [(bcell hb).1 _ _ (lt_of_cell h)]; exact h

theorem held_next {w W W' : World} {b : Nat} {v : Value} {t : T} {p : Option Addr} {n cap : Nat} (h : W.cell? ⟨b, 0, none⟩ = some v ∧ IsT W t p n cap ∧ Below w.heap.size w W) (hb : Below W.heap.size W W') :
    W'.cell? ⟨b, 0, none⟩ = some v ∧ IsT W' t p n cap ∧ Below w.heap.size w W' := ⟨box_later hb h.1, h.2.1.below hb, h.2.2.trans (hb.mono h.2.2.size)⟩

theorem held_below {w W : World} {b : Nat} {v : Value} {t : T} {p : Option Addr} {n cap : Nat} (h : W.cell? ⟨b, 0, none⟩ = some v ∧ IsT W t p n cap ∧ Below w.heap.size w W) : Below w.heap.size w W := h.2.2

theorem held_is {w W : World} {b : Nat} {v : Value} {t : T} {p : Option Addr} {n cap : Nat} (h : W.cell? ⟨b, 0, none⟩ = some v ∧ IsT W t p n cap ∧ Below w.heap.size w W) : IsT W t p n cap := h.2.1

set_option maxHeartbeats 1600000 in
theorem law_check (t : T) (w : World) (p : Option Addr) (n cap : Nat) (his : IsT w t p n cap) :
    Calls Try.prog 3 #[.agg #[.slice p n cap]] w fun e w' => e = .returned (.bool true) ∧ Below w.heap.size w w' := by
  have hcheck := fun W h => check_any t W p n cap h
  have hrefcheck := fun W h => refcheck_any t W p n cap h
  have HC := Lib.hid hcheck
  have HR := Lib.hid hrefcheck
  clear hcheck hrefcheck
  generalize t.oE = oe at HC HR
  by_cases h60 : t.nodes ≤ 60
  case pos =>
    go_enter Try.func3, Try.ntmps3
    go_wp2_with fail
    refine (size_yes t _ p n cap (his.alloc _) h60).mono ?_
    rintro e w1 ⟨rfl, hb1⟩
    have c1 := box_later (b := w.heap.size) (v := .slice p n cap) hb1 (by simp)
    have i1 := (his.alloc _).below hb1
    go_wp2_with fail
    refine (refsize_yes t _ p n cap i1 h60).mono ?_
    rintro e w2 ⟨rfl, hb2⟩
    have c2 := box_later hb2 c1
    have i2 := i1.below hb2
    have b2 := (below_call hb1).trans (hb2.mono (below_call hb1).size)
    clear hb1 hb2 c1 i1
    go_wp2_with fail
    go_region_held3 (fun W => W.cell? ⟨w.heap.size, 0, none⟩ = some (.slice p n cap) ∧ IsT W t p n cap ∧ Below w.heap.size w W)
      (first | exact ⟨c2, i2.drew, b2.drew⟩ | exact held_next (by assumption) (by assumption))
      (first
      | (go_at_call 15; refine (HC.out _ (held_is (by assumption))).mono ?_; rintro e w3 ⟨rfl, hb3⟩)
      | (go_at_call 16; refine (HR.out _ (held_is (by assumption))).mono ?_; rintro e w4 ⟨rfl, hb4⟩)
      | (go_at_call 17; refine (alive_any _).mono ?_; rintro e w5 ⟨rfl, hb5⟩))
    go_wp2_with fail
    go_ret
    exact ⟨rfl, held_below (by assumption)⟩
  case neg =>
    go_enter Try.func3, Try.ntmps3
    go_wp2_with fail
    refine (size_no t _ p n cap (his.alloc _) h60).mono ?_
    rintro e w1 ⟨rfl, hb1⟩
    have c1 := box_later (b := w.heap.size) (v := .slice p n cap) hb1 (by simp)
    have i1 := (his.alloc _).below hb1
    go_wp2_with fail
    refine (refsize_no t _ p n cap i1 h60).mono ?_
    rintro e w2 ⟨rfl, hb2⟩
    have c2 := box_later hb2 c1
    have i2 := i1.below hb2
    have b2 := (below_call hb1).trans (hb2.mono (below_call hb1).size)
    clear hb1 hb2 c1 i1
    go_wp2_with fail
    go_region_held3 (fun W => W.cell? ⟨w.heap.size, 0, none⟩ = some (.slice p n cap) ∧ IsT W t p n cap ∧ Below w.heap.size w W)
      (first | exact ⟨c2, i2.drew, b2.drew⟩ | exact held_next (by assumption) (by assumption))
      (first
      | (go_at_call 15; refine (HC.out _ (held_is (by assumption))).mono ?_; rintro e w3 ⟨rfl, hb3⟩)
      | (go_at_call 16; refine (HR.out _ (held_is (by assumption))).mono ?_; rintro e w4 ⟨rfl, hb4⟩)
      | (go_at_call 17; refine (alive_any _).mono ?_; rintro e w5 ⟨rfl, hb5⟩))
    go_wp2_with fail
    go_ret
    exact ⟨rfl, held_below (by assumption)⟩

set_option maxHeartbeats 800000 in
theorem law_order (t : T) (w : World) (p : Option Addr) (n cap : Nat) (his : IsT w t p n cap) :
    Calls Try.prog 5 #[.agg #[.slice p n cap]] w fun e w' => e = .returned (.bool true) ∧ Below w.heap.size w w' := by
  go_enter Try.func5, Try.ntmps5
  go_wp2_with fail
  refine (orderF_any t _ p n cap (his.alloc _)).mono ?_
  rintro e w1 ⟨rfl, hb1⟩
  have c1 := box_later (b := w.heap.size) (v := .slice p n cap) hb1 (by simp)
  have i1 := (his.alloc _).below hb1
  go_wp2_with fail
  refine (reforderF_any t _ p n cap i1).mono ?_
  rintro e w2 ⟨rfl, hb2⟩
  have b2 := (below_call hb1).trans (hb2.mono (below_call hb1).size)
  clear hb1 hb2 c1 i1
  go_wp2_with fail
  refine (alive_any _).mono ?_
  rintro e w3 ⟨rfl, hb3⟩
  go_wp2_with fail
  go_ret
  exact ⟨rfl, b2.trans (hb3.mono b2.size)⟩

set_option maxHeartbeats 800000 in
theorem law_put (t : T) (w : World) (p : Option Addr) (n cap : Nat) (his : IsT w t p n cap) :
    Calls Try.prog 7 #[.agg #[.slice p n cap]] w fun e w' => e = .returned (.bool true) ∧ Below w.heap.size w w' := by
  go_enter Try.func7, Try.ntmps7
  go_wp2_with fail
  refine (put_any t _ p n cap (his.alloc _)).mono ?_
  rintro e w1 ⟨rfl, hb1⟩
  have c1 := box_later (b := w.heap.size) (v := .slice p n cap) hb1 (by simp)
  have i1 := (his.alloc _).below hb1
  go_wp2_with fail
  refine (refput_any t _ p n cap i1).mono ?_
  rintro e w2 ⟨rfl, hb2⟩
  have b2 := (below_call hb1).trans (hb2.mono (below_call hb1).size)
  clear hb1 hb2 c1 i1
  go_wp2_with fail
  refine (alive_any _).mono ?_
  rintro e w3 ⟨rfl, hb3⟩
  go_wp2_with fail
  go_ret
  exact ⟨rfl, b2.trans (hb3.mono b2.size)⟩

theorem held2_next {w W W' : World} {b b' : Nat} {v v' : Value} {s t : T} {p q : Option Addr} {n cap m cap' : Nat} (h : W.cell? ⟨b, 0, none⟩ = some v ∧ W.cell? ⟨b', 0, none⟩ = some v' ∧ IsT W s p n cap ∧ IsT W t q m cap' ∧ Below w.heap.size w W) (hb : Below W.heap.size W W') :
    W'.cell? ⟨b, 0, none⟩ = some v ∧ W'.cell? ⟨b', 0, none⟩ = some v' ∧ IsT W' s p n cap ∧ IsT W' t q m cap' ∧ Below w.heap.size w W' :=
  ⟨box_later hb h.1, box_later hb h.2.1, h.2.2.1.below hb, h.2.2.2.1.below hb, h.2.2.2.2.trans (hb.mono h.2.2.2.2.size)⟩
theorem held2_s {w W : World} {b b' : Nat} {v v' : Value} {s t : T} {p q : Option Addr} {n cap m cap' : Nat} (h : W.cell? ⟨b, 0, none⟩ = some v ∧ W.cell? ⟨b', 0, none⟩ = some v' ∧ IsT W s p n cap ∧ IsT W t q m cap' ∧ Below w.heap.size w W) : IsT W s p n cap := h.2.2.1
theorem held2_t {w W : World} {b b' : Nat} {v v' : Value} {s t : T} {p q : Option Addr} {n cap m cap' : Nat} (h : W.cell? ⟨b, 0, none⟩ = some v ∧ W.cell? ⟨b', 0, none⟩ = some v' ∧ IsT W s p n cap ∧ IsT W t q m cap' ∧ Below w.heap.size w W) : IsT W t q m cap' := h.2.2.2.1
theorem held2_below {w W : World} {b b' : Nat} {v v' : Value} {s t : T} {p q : Option Addr} {n cap m cap' : Nat} (h : W.cell? ⟨b, 0, none⟩ = some v ∧ W.cell? ⟨b', 0, none⟩ = some v' ∧ IsT W s p n cap ∧ IsT W t q m cap' ∧ Below w.heap.size w W) : Below w.heap.size w W := h.2.2.2.2

set_option maxHeartbeats 1600000 in
theorem law_same (s t : T) (w : World) (p q : Option Addr) (n cap m cap' : Nat) (his : IsT w s p n cap) (hit : IsT w t q m cap') :
    Calls Try.prog 4 #[.agg #[.slice p n cap], .agg #[.slice q m cap']] w fun e w' => e = .returned (.bool true) ∧ Below w.heap.size w w' := by
  have i0 := fun x y => (his.alloc x).alloc y
  have j0 := fun x y => (hit.alloc x).alloc y
  have b0 : ∀ x y : Obj, Below w.heap.size w ((w.alloc x).alloc y) := fun x y => ((Below.refl _ _).alloc (Nat.le_refl _) _).alloc (by simp) _
  have I0 := Lib.hid i0
  have J0 := Lib.hid j0
  have B0 := Lib.hid b0
  have h1 := fun W a b => same_any s t W p q n cap m cap' a b
  have h2 := fun W a b => refsame_any s t W p q n cap m cap' a b
  have h3 := fun W a => same_any s s W p p n cap n cap a a
  have h4 := fun W a => refsame_any s s W p p n cap n cap a a
  have H1 := Lib.hid h1
  have H2 := Lib.hid h2
  have H3 := Lib.hid h3
  have H4 := Lib.hid h4
  clear i0 j0 b0 h1 h2 h3 h4 his hit
  generalize T.same s t = x at H1 H2
  generalize T.same s s = y at H3 H4
  go_enter Try.func4, Try.ntmps4
  go_wp2_with fail
  go_region_held3 (fun W => W.cell? ⟨w.heap.size, 0, none⟩ = some (.slice p n cap) ∧ W.cell? ⟨w.heap.size + 1, 0, none⟩ = some (.slice q m cap') ∧ IsT W s p n cap ∧ IsT W t q m cap' ∧ Below w.heap.size w W)
      (first | exact ⟨by simp, by simp, (I0.out _ _).drew, (J0.out _ _).drew, (B0.out _ _).drew⟩ | exact held2_next (by assumption) (by assumption))
      (first
      | (go_at_call_of 18 (Value.agg #[Value.slice q m cap']); refine (H1.out _ (held2_s (by assumption)) (held2_t (by assumption))).mono ?_; rintro e w3 ⟨rfl, hb3⟩)
      | (go_at_call_of 19 (Value.agg #[Value.slice q m cap']); refine (H2.out _ (held2_s (by assumption)) (held2_t (by assumption))).mono ?_; rintro e w4 ⟨rfl, hb4⟩)
      | (go_at_call 18; refine (H3.out _ (held2_s (by assumption))).mono ?_; rintro e w5 ⟨rfl, hb5⟩)
      | (go_at_call 19; refine (H4.out _ (held2_s (by assumption))).mono ?_; rintro e w6 ⟨rfl, hb6⟩)
      | (go_at_call 17; refine (alive_any _).mono ?_; rintro e w7 ⟨rfl, hb7⟩))
  go_wp2_with fail
  go_ret
  exact ⟨rfl, held2_below (by assumption)⟩

end Go.Proofs.Yteokoilpnabmhaa
