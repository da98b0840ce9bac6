/-
  The walk of the reference's Get. Conditions: none.
-/
import Derived.Test.YteokoilpnabmhaaWalkV
set_option linter.unusedSimpArgs false
set_option linter.unusedVariables false
namespace Go.Proofs.Yteokoilpnabmhaa
open Go.RowKit

theorem parse_all (s : List UInt8) (hs : s.length ≤ 65536) (w : World) :
    Calls Try.prog 48 #[.string ⟨s.toArray⟩, .int .i64 0] w (ParseAny s 0 w) := parse_any (s.length + 1) s 0 0 w rfl (by omega) (Nat.zero_le _) hs

set_option maxHeartbeats 800000 in
theorem refget_long (s : List UInt8) (hs : ¬ s.length ≤ 65536) (w : World) :
    Calls Try.prog 27 #[.string ⟨s.toArray⟩] w (GetPost w .nil 3) := by
  have hd : ((65536 : Int) < (s.length : Int)) := by omega
  go_enter Try.func27, Try.ntmps27
  go_wp2_with fail
  refine bodyPost_ret (v := .tuple #[.agg #[.slice none 0 0], .int .i64 3]) (by simp [results, Try.results27, go_sem]) rfl ⟨none, 0, rfl, isT_nil _, (Below.refl w.heap.size w).alloc (Nat.le_refl _) _⟩

set_option maxHeartbeats 800000 in
theorem refget_form1 (s : List UInt8) (hs : s.length ≤ 65536) (h : rd s = none) (w : World) :
    Calls Try.prog 27 #[.string ⟨s.toArray⟩] w (GetPost w .nil 4) := by
  have hd : ¬ ((65536 : Int) < (s.length : Int)) := by omega
  have HR := Lib.hid fun w => (parse_all s hs w).mono fun _ _ hh => hh.2 h
  clear h
  go_enter Try.func27, Try.ntmps27
  go_wp2_with fail
  refine (HR.out _).mono ?_
  rintro e w1 ⟨q, n, c, m, rfl, hb1⟩
  have h0 := alloc_kept (res_later hb1) (.cells #[.slice q n c] 24)
  have k0 := cell_of_one h0
  have k1 := free_of_one h0
  have hz := hb1.size
  simp only [World.size_alloc] at hz
  go_wp2_with fail
  refine bodyPost_ret (v := .tuple #[.agg #[.slice none 0 0], .int .i64 4]) (by simp [results, Try.results27, go_sem, k0]) rfl ⟨none, 0, rfl, isT_nil _, ((below_call hb1).alloc (by omega) _).setCell (Nat.le_refl _) _⟩

set_option maxHeartbeats 800000 in
theorem refget_form2 (s r : List UInt8) (t : T) (hs : s.length ≤ 65536) (h : rd s = some (t, r)) (hr : r ≠ []) (w : World) :
    Calls Try.prog 27 #[.string ⟨s.toArray⟩] w (GetPost w .nil 4) := by
  have hd : ¬ ((65536 : Int) < (s.length : Int)) := by omega
  have HR := Lib.hid fun w => (parse_all s hs w).mono fun _ _ hh => hh.1 _ _ h
  clear h
  go_enter Try.func27, Try.ntmps27
  go_wp2_with fail
  refine (HR.out _).mono ?_
  rintro e w1 ⟨q, c, m, rfl, hm, hdm, _, hb1⟩
  have hne : ((m : Int) == (s.length : Int)) = false := by
    rw [beq_eq_false_iff_ne]
    intro e
    apply hr
    rw [← hdm, List.drop_eq_nil_iff]
    omega
  have h0 := alloc_kept (res_later hb1) (.cells #[.slice q t.len c] 24)
  have k0 := cell_of_one h0
  have k1 := free_of_one h0
  have hz := hb1.size
  simp only [World.size_alloc] at hz
  clear hdm hr
  go_wp2_with fail
  refine bodyPost_ret (v := .tuple #[.agg #[.slice none 0 0], .int .i64 4]) (by simp [results, Try.results27, go_sem, k0]) rfl ⟨none, 0, rfl, isT_nil _, ((below_call hb1).alloc (by omega) _).setCell (Nat.le_refl _) _⟩

set_option maxHeartbeats 800000 in
theorem refget_bad (s : List UInt8) (t : T) (hs : s.length ≤ 65536) (h : rd s = some (t, [])) (hv : t.valid = false) (w : World) :
    Calls Try.prog 27 #[.string ⟨s.toArray⟩] w (GetPost w .nil 6) := by
  have hd : ¬ ((65536 : Int) < (s.length : Int)) := by omega
  have HR := Lib.hid fun w => (parse_all s hs w).mono fun _ _ hh => hh.1 _ _ h
  have HC := Lib.hid fun w p n cap his => is_bool t false hv w p n cap his
  clear h hv
  go_enter Try.func27, Try.ntmps27
  go_wp2_with fail
  refine (HR.out _).mono ?_
  rintro e w1 ⟨q, c, m, rfl, hm, hdm, hO, hb1⟩
  have hml : m = s.length := by rw [List.drop_eq_nil_iff] at hdm; omega
  subst hml
  have hz := hb1.size
  simp only [World.size_alloc] at hz
  have his := hO.isT.alloc (.cells #[.slice q t.len c] 24)
  have h0 := alloc_kept (res_later hb1) (.cells #[.slice q t.len c] 24)
  clear hdm hm
  go_wp2_with fail
  refine (HC.out _ _ _ _ his).mono ?_
  rintro e w2 ⟨rfl, hb2⟩
  have h1 := kept_of_below hb2 h0
  have k0 := cell_of_one h1
  have k1 := free_of_one h1
  have hz2 := hb2.size
  simp only [World.size_alloc] at hz2
  go_wp2_with fail
  refine bodyPost_ret (v := .tuple #[.agg #[.slice none 0 0], .int .i64 6]) (by simp [results, Try.results27, go_sem, k0]) rfl ⟨none, 0, rfl, isT_nil _, ((below_call hb1).trans ((below_call hb2).mono (by omega))).setCell (Nat.le_refl _) _⟩

set_option maxHeartbeats 800000 in
theorem refget_ok (s : List UInt8) (t : T) (hs : s.length ≤ 65536) (h : rd s = some (t, [])) (hv : t.valid = true) (w : World) :
    Calls Try.prog 27 #[.string ⟨s.toArray⟩] w (GetPost w t 0) := by
  have hd : ¬ ((65536 : Int) < (s.length : Int)) := by omega
  have HR := Lib.hid fun w => (parse_all s hs w).mono fun _ _ hh => hh.1 _ _ h
  have HC := Lib.hid fun w p n cap his => is_bool t true hv w p n cap his
  clear h hv
  go_enter Try.func27, Try.ntmps27
  go_wp2_with fail
  refine (HR.out _).mono ?_
  rintro e w1 ⟨q, c, m, rfl, hm, hdm, hO, hb1⟩
  have hml : m = s.length := by rw [List.drop_eq_nil_iff] at hdm; omega
  subst hml
  have hz := hb1.size
  simp only [World.size_alloc] at hz hO
  have his := hO.isT.alloc (.cells #[.slice q t.len c] 24)
  have h0 := alloc_kept (res_later hb1) (.cells #[.slice q t.len c] 24)
  clear hdm hm
  go_wp2_with fail
  refine (HC.out _ _ _ _ his).mono ?_
  rintro e w2 ⟨rfl, hb2⟩
  have h1 := kept_of_below hb2 h0
  have h2 := kept_of_below hb2 (heap_new w1 (.cells #[.slice q t.len c] 24))
  have hO2 : Own w2 t q c (w.heap.size + 1) w1.heap.size := (hO.keep (w' := w1.alloc (.cells #[.slice q t.len c] 24)) fun k _ hk => Below.heap_alloc _ _ _ hk).keep fun k _ hk => hb2.block k (by simp; omega)
  have k0 := cell_of_one h1
  have k1 := free_of_one h1
  have k2 := cell_of_one h2
  have hz2 := hb2.size
  simp only [World.size_alloc] at hz2
  go_wp2_with fail
  refine bodyPost_ret (v := .tuple #[.agg #[.slice q t.len c], .int .i64 0]) (by simp [results, Try.results27, go_sem, k0]) rfl ⟨q, c, rfl, (hO2.set (a := ⟨w.heap.size, 0, none⟩) (show w.heap.size < w.heap.size + 1 by omega) _).isT, ((below_call hb1).trans ((below_call hb2).mono (by omega))).setCell (Nat.le_refl _) _⟩

theorem refget_any (s : List UInt8) (w : World) : Calls Try.prog 27 #[.string ⟨s.toArray⟩] w (GetPost w (ansT s) (ansE s)) := by
  by_cases hs : s.length ≤ 65536
  case neg => rw [show ansT s = .nil by simp [ansT, hs], show ansE s = 3 by simp [ansE, hs]]; exact refget_long s hs w
  case pos =>
    cases h : rd s with
    | none => rw [show ansT s = .nil by simp [ansT, hs, h], show ansE s = 4 by simp [ansE, hs, h]]; exact refget_form1 s hs h w
    | some x =>
      obtain ⟨t, r⟩ := x
      cases r with
      | cons a r => rw [show ansT s = .nil by simp [ansT, hs, h], show ansE s = 4 by simp [ansE, hs, h]]; exact refget_form2 s (a :: r) t hs h (by simp) w
      | nil =>
        cases hv : t.valid with
        | false => rw [show ansT s = .nil by simp [ansT, hs, h, hv], show ansE s = 6 by simp [ansE, hs, h, T.oE, hv]]; exact refget_bad s t hs h hv w
        | true => rw [show ansT s = t by simp [ansT, hs, h, hv], show ansE s = 0 by simp [ansE, hs, h, T.oE, hv]]; exact refget_ok s t hs h hv w

end Go.Proofs.Yteokoilpnabmhaa
