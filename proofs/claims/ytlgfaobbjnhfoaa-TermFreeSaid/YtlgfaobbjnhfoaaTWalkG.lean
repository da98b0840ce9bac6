/-
  The walks of fresh and Apply's and Subst's makers: what they make is the term, or the term with args in the place of its variables. Conditions: at most 100000 nodes.
-/
import Derived.Test.YtlgfaobbjnhfoaaTWalkF
set_option linter.unusedSimpArgs false
set_option linter.unusedVariables false
namespace Go.Proofs.Ytlgfaobbjnhfoaa
open Go.RowKit

theorem isX_nil (w : World) : IsX w .nil none 0 0 := ⟨rfl, Nat.le_refl _, by simp [maxLen], fun _ => rfl, Or.inl rfl⟩

theorem frozen3 {w w' : World} {b o : Nat} {B : Nat} (hb : Below B w w') (hlt : b < B) (h : w.frozen? ⟨b, o, none⟩ = false) : w'.frozen? ⟨b, o, none⟩ = false := by
  rw [(bcell hb).2 _ _ hlt]; exact h

/-- what stands in the boxes behind the call -/
theorem fresh_facts (w : World) (k n : Int) (p : Option Addr) (l cap : Nat) (w1 : World)
    (hb : Below ((w.alloc (.cells #[.int .i64 k, .int .i64 n, .slice p l cap] 35)).alloc (.cells #[.int .i64 0, .int .i64 0, .slice none 0 0] 35)).drew.heap.size ((w.alloc (.cells #[.int .i64 k, .int .i64 n, .slice p l cap] 35)).alloc (.cells #[.int .i64 0, .int .i64 0, .slice none 0 0] 35)).drew w1) :
    w1.cell? ⟨w.heap.size, 0, none⟩ = some (.int .i64 k) ∧ w1.cell? ⟨w.heap.size, 1, none⟩ = some (.int .i64 n) ∧ w1.cell? ⟨w.heap.size, 2, none⟩ = some (.slice p l cap) ∧
    w1.cell? ⟨w.heap.size + 1, 0, none⟩ = some (.int .i64 0) ∧ w1.cell? ⟨w.heap.size + 1, 1, none⟩ = some (.int .i64 0) ∧ w1.cell? ⟨w.heap.size + 1, 2, none⟩ = some (.slice none 0 0) ∧
    w1.frozen? ⟨w.heap.size + 1, 0, none⟩ = false ∧ w1.frozen? ⟨w.heap.size + 1, 1, none⟩ = false ∧ w1.frozen? ⟨w.heap.size + 1, 2, none⟩ = false ∧ w.heap.size + 2 ≤ w1.heap.size := by
  have hz : ((w.alloc (.cells #[.int .i64 k, .int .i64 n, .slice p l cap] 35)).alloc (.cells #[.int .i64 0, .int .i64 0, .slice none 0 0] 35)).drew.heap.size = w.heap.size + 2 := by simp
  have hs := hb.size
  rw [hz] at hb hs
  obtain ⟨h1, h2⟩ := bcell hb
  refine ⟨?_, ?_, ?_, ?_, ?_, ?_, ?_, ?_, ?_, hs⟩
  · rw [h1 _ _ (by omega)]; simp
  · rw [h1 _ _ (by omega)]; simp
  · rw [h1 _ _ (by omega)]; simp
  · rw [h1 _ _ (by omega)]; simp
  · rw [h1 _ _ (by omega)]; simp
  · rw [h1 _ _ (by omega)]; simp
  · rw [h2 _ _ (by omega)]; simp
  · rw [h2 _ _ (by omega)]; simp
  · rw [h2 _ _ (by omega)]; simp

set_option maxRecDepth 100000 in
set_option maxHeartbeats 1600000 in
theorem tfresh_any (N : Nat) : ∀ (a : X) (k n : Int) (w : World) (p : Option Addr) (l cap : Nat), a.sz < N → a.sz < 100000 → IsX w a p l cap →
    Calls Try.prog 69 #[.agg #[.int .i64 k, .int .i64 n, .slice p l cap]] w (Made k n a w) := by
  induction N with
  | zero => intro a k n w p l cap hN; omega
  | succ N ih =>
    intro a k n w p l cap hN h60 his
    have hlen := a.len_le_sz
    have J : ∀ W p l cap, IsX W a p l cap → Calls Try.prog 68 #[.slice p l cap, .slice none 0 0, .func (Fn.func 69) #[] #[]] W fun e w' => ∃ r c, e = .returned (.slice r a.len c) ∧ OwnX w' a r c W.heap.size w'.heap.size ∧ Below W.heap.size W w' := by
      intro W p l cap h
      have := join_fresh (g := fun k n a => (k, n, a)) (Env := fun _ => True) a .nil W p none l cap 0 0 h (isX_nil _) (by simp [X.len]; omega) trivial (fun _ _ _ _ => trivial)
        (fun j hj W p l cap h => ih (a.ga j) _ _ W p l cap (by have := a.sz_ga j hj; omega) (by have := a.sz_ga j hj; omega) h) (fun j hj => absurd hj (Nat.not_lt_zero _))
      rwa [show a.app (X.nil.map fun k n a => (k, n, a)) = a from X.app_nil a] at this
    have HJ := Lib.hid J
    clear J ih
    go_enter Try.func69, Try.ntmps69
    go_wp2_with fail
    go_region_with ((go_at_call 68; refine (HJ.out _ p l cap ?_).mono ?_; exact ((his.alloc _).alloc _).drew; rintro e w1 ⟨r, c, rfl, hO, hb1⟩; have q := fresh_facts w k n p l cap w1 hb1; obtain ⟨q1, q2, q3, r1, r2, r3, f1, f2, f3, hz⟩ := q))
    all_goals go_wp2_with fail
    all_goals
      have hz2 : ((w.alloc (.cells #[.int .i64 k, .int .i64 n, .slice p l cap] 35)).alloc (.cells #[.int .i64 0, .int .i64 0, .slice none 0 0] 35)).drew.heap.size = w.heap.size + 2 := by simp
      rw [hz2] at hO hb1
      refine bodyPost_ret (v := .agg #[.int .i64 k, .int .i64 n, .slice r a.len c]) (by simp [results, Try.results69, go_sem, r1, r2, r3]) rfl ⟨r, c, rfl, ?_, ?_⟩
      · have h := ((hO.set (a := ⟨w.heap.size + 1, 0, none⟩) (Nat.lt_succ_self _) (.int .i64 k)).set (a := ⟨w.heap.size + 1, 1, none⟩) (Nat.lt_succ_self _) (.int .i64 n)).set (a := ⟨w.heap.size + 1, 2, none⟩) (Nat.lt_succ_self _) (.slice r a.len c)
        have h2 := h.mono (lo' := w.heap.size) (by omega) (Nat.le_refl _)
        simpa [World.setCell] using h2
      · have h1 : Below w.heap.size w w1 := ((((Below.refl w.heap.size w).alloc (Nat.le_refl _) _).alloc (by simp) _).drew).trans (hb1.mono (by omega))
        exact ((h1.setCell (by simp) _).setCell (by simp) _).setCell (by simp) _

end Go.Proofs.Ytlgfaobbjnhfoaa
