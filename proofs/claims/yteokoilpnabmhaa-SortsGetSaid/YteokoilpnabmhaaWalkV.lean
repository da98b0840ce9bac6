/-
  The walks of Get and of the reference's Get. Conditions: none.
-/
import Derived.Test.YteokoilpnabmhaaWalkU
set_option linter.unusedSimpArgs false
set_option linter.unusedVariables false
namespace Go.Proofs.Yteokoilpnabmhaa
open Go.RowKit

/-- the sort that Get returns -/
def ansT (s : List UInt8) : T := if s.length ≤ 65536 then (match rd s with | some (t, []) => if t.valid then t else .nil | _ => .nil) else .nil
/-- the error that Get returns -/
def ansE (s : List UInt8) : Int := if s.length ≤ 65536 then (match rd s with | some (t, []) => t.oE | _ => 4) else 3

def GetPost (w : World) (t : T) (k : Int) (e : Ending) (w' : World) : Prop :=
  ∃ (q : Option Addr) (c : Nat), e = .returned (.tuple #[.agg #[.slice q t.len c], .int .i64 k]) ∧ IsT w' t q t.len c ∧ Below w.heap.size w w'

theorem isT_nil (w : World) : IsT w .nil none 0 0 := ⟨rfl, Nat.le_refl _, Nat.zero_le _, fun _ => rfl, Or.inl rfl⟩

def ReadBad (s : List UInt8) : Prop := ∀ w, Calls Try.prog 46 #[.string ⟨s.toArray⟩, .func (Fn.func 47) #[] #[]] w fun e w' => e = .returned (.tuple #[.agg #[.slice none 0 0], .bool false]) ∧ Below w.heap.size w w'

theorem read_bad (s : List UInt8) (hs : s.length ≤ 65536) (h : ∀ t, rd s ≠ some (t, [])) : ReadBad s := by
  intro w
  cases he : rd s with
  | none => exact read_bad1 s w hs he
  | some x =>
    obtain ⟨t, r⟩ := x
    refine read_bad2 s r t w hs he ?_
    cases r with
    | nil => exact absurd he (h t)
    | cons a r => rfl

set_option maxHeartbeats 800000 in
theorem get_long (s : List UInt8) (hs : ¬ s.length ≤ 65536) (w : World) :
    Calls Try.prog 26 #[.string ⟨s.toArray⟩] w (GetPost w .nil 3) := by
  have hd : ((65536 : Int) < (s.length : Int)) := by omega
  go_enter Try.func26, Try.ntmps26
  go_wp2_with fail
  refine bodyPost_ret (v := .tuple #[.agg #[.slice none 0 0], .int .i64 3]) (by simp [results, Try.results26, go_sem]) rfl ⟨none, 0, rfl, isT_nil _, (Below.refl w.heap.size w).alloc (Nat.le_refl _) _⟩

/-- in a later world the result's cell is as it was -/
theorem res_later {w w1 : World} {o : Obj} (hb : Below (w.alloc o).heap.size (w.alloc o) w1) : w1.heap[w.heap.size]? = some o := by
  rw [hb.block _ (by simp)]; exact heap_new _ _

set_option maxHeartbeats 800000 in
theorem get_form (s : List UInt8) (hs : s.length ≤ 65536) (h : ReadBad s) (w : World) :
    Calls Try.prog 26 #[.string ⟨s.toArray⟩] w (GetPost w .nil 4) := by
  have hd : ¬ ((65536 : Int) < (s.length : Int)) := by omega
  have HR := Lib.hid h
  clear h
  go_enter Try.func26, Try.ntmps26
  go_wp2_with fail
  refine (HR.out _).mono ?_
  rintro e w1 ⟨rfl, hb1⟩
  have h0 := alloc_kept (res_later hb1) (.cells #[.slice none 0 0] 24)
  have k0 := cell_of_one h0
  have k1 := free_of_one h0
  have hz := hb1.size
  simp only [World.size_alloc] at hz
  go_wp2_with fail
  refine bodyPost_ret (v := .tuple #[.agg #[.slice none 0 0], .int .i64 4]) (by simp [results, Try.results26, go_sem, k0]) rfl ⟨none, 0, rfl, isT_nil _, ((below_call hb1).alloc (by omega) _).setCell (Nat.le_refl _) _⟩

set_option maxHeartbeats 800000 in
theorem get_bad (s : List UInt8) (t : T) (hs : s.length ≤ 65536) (h : rd s = some (t, [])) (hv : t.valid = false) (w : World) :
    Calls Try.prog 26 #[.string ⟨s.toArray⟩] w (GetPost w .nil 6) := by
  have hd : ¬ ((65536 : Int) < (s.length : Int)) := by omega
  have HR := Lib.hid fun w => read_ok s t w hs h
  have HC := Lib.hid fun w p n cap his => check_no t w p n cap his hv
  clear h hv
  go_enter Try.func26, Try.ntmps26
  go_wp2_with fail
  refine (HR.out _).mono ?_
  rintro e w1 ⟨q, c, rfl, hO, hb1⟩
  have hz := hb1.size
  simp only [World.size_alloc] at hz
  have his := hO.isT.alloc (.cells #[.slice q t.len c] 24)
  have h0 := alloc_kept (res_later hb1) (.cells #[.slice q t.len c] 24)
  go_wp2_with fail
  refine (HC.out _ _ _ _ his).mono ?_
  rintro e w2 ⟨rfl, hb2⟩
  have h1 := kept_of_below hb2 h0
  have k0 := cell_of_one h1
  have k1 := free_of_one h1
  have hz2 := hb2.size
  simp only [World.size_alloc] at hz2
  go_wp2_with fail
  refine bodyPost_ret (v := .tuple #[.agg #[.slice none 0 0], .int .i64 6]) (by simp [results, Try.results26, go_sem, k0]) rfl ⟨none, 0, rfl, isT_nil _, ((below_call hb1).trans ((below_call hb2).mono (by omega))).setCell (Nat.le_refl _) _⟩

set_option maxHeartbeats 800000 in
theorem get_ok (s : List UInt8) (t : T) (hs : s.length ≤ 65536) (h : rd s = some (t, [])) (hv : t.valid = true) (w : World) :
    Calls Try.prog 26 #[.string ⟨s.toArray⟩] w (GetPost w t 0) := by
  have hd : ¬ ((65536 : Int) < (s.length : Int)) := by omega
  have HR := Lib.hid fun w => read_ok s t w hs h
  have HC := Lib.hid fun w p n cap his => check_yes t w p n cap his hv
  clear h hv
  go_enter Try.func26, Try.ntmps26
  go_wp2_with fail
  refine (HR.out _).mono ?_
  rintro e w1 ⟨q, c, rfl, hO, hb1⟩
  have hz := hb1.size
  simp only [World.size_alloc] at hz hO
  have his := hO.isT.alloc (.cells #[.slice q t.len c] 24)
  have h0 := alloc_kept (res_later hb1) (.cells #[.slice q t.len c] 24)
  go_wp2_with fail
  refine (HC.out _ _ _ _ his).mono ?_
  rintro e w2 ⟨rfl, hb2⟩
  have h1 := kept_of_below hb2 h0
  have h2 := kept_of_below hb2 (heap_new w1 (.cells #[.slice q t.len c] 24))
  have hO2 : Own w2 t q c (w.heap.size + 1) w1.heap.size := (hO.keep (w' := w1.alloc (.cells #[.slice q t.len c] 24)) fun k _ hk => Below.heap_alloc _ _ _ hk).keep fun k _ hk => hb2.block k (by simp; omega)
  have k0 := cell_of_one h1
  have k1 := free_of_one h1
  have k2 := cell_of_one h2
  have hz2 := hb2.size
  simp only [World.size_alloc] at hz2
  go_wp2_with fail
  refine bodyPost_ret (v := .tuple #[.agg #[.slice q t.len c], .int .i64 0]) (by simp [results, Try.results26, go_sem, k0]) rfl ⟨q, c, rfl, (hO2.set (a := ⟨w.heap.size, 0, none⟩) (show w.heap.size < w.heap.size + 1 by omega) _).isT, ((below_call hb1).trans ((below_call hb2).mono (by omega))).setCell (Nat.le_refl _) _⟩

theorem get_any (s : List UInt8) (w : World) : Calls Try.prog 26 #[.string ⟨s.toArray⟩] w (GetPost w (ansT s) (ansE s)) := by
  by_cases hs : s.length ≤ 65536
  case neg => rw [show ansT s = .nil by simp [ansT, hs], show ansE s = 3 by simp [ansE, hs]]; exact get_long s hs w
  case pos =>
    by_cases h : ∃ t, rd s = some (t, [])
    · obtain ⟨t, h⟩ := h
      cases hv : t.valid with
      | false => rw [show ansT s = .nil by simp [ansT, hs, h, hv], show ansE s = 6 by simp [ansE, hs, h, T.oE, hv]]; exact get_bad s t hs h hv w
      | true => rw [show ansT s = t by simp [ansT, hs, h, hv], show ansE s = 0 by simp [ansE, hs, h, T.oE, hv]]; exact get_ok s t hs h hv w
    · have h' : ∀ t, rd s ≠ some (t, []) := fun t e => h ⟨t, e⟩
      have e1 : ansT s = .nil := by
        unfold ansT
        rw [if_pos hs]
        split
        · rename_i t he; exact absurd he (h' t)
        · rfl
      have e2 : ansE s = 4 := by
        unfold ansE
        rw [if_pos hs]
        split
        · rename_i t he; exact absurd he (h' t)
        · rfl
      rw [e1, e2]
      exact get_form s hs (read_bad s hs h') w

end Go.Proofs.Yteokoilpnabmhaa
