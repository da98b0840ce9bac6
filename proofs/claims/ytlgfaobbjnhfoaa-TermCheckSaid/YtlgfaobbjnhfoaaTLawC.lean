/-
  The walk of the statement on Check, where the example holds. Conditions: none but that the place lies in memory.
-/
import Derived.Test.YtlgfaobbjnhfoaaTWalkQ
import Derived.Test.YtlgfaobbjnhfoaaTWalkS
set_option linter.unusedSimpArgs false
set_option linter.unusedVariables false
namespace Go.Proofs.Ytlgfaobbjnhfoaa
open Go.RowKit

/-- what the statement holds while it calls -/
theorem heldP (w : World) (b : Nat) (x : Pl) (a : At3) : ∃ S : World → Prop,
    (∀ W, W.heap[b]? = some (a.box 25) → IsP W x a → Below w.heap.size w W → S W) ∧
    (∀ W, S W → W.cell? ⟨b, 0, none⟩ = some (.slice a.sp a.sn a.sc) ∧ W.cell? ⟨b, 1, none⟩ = some (.slice a.fp a.fn a.fc) ∧ W.cell? ⟨b, 2, none⟩ = some (.slice a.pp a.pn a.pc) ∧ S W) ∧
    (∀ W, S W → IsP W x a) ∧ (∀ W, S W → Below w.heap.size w W) ∧ (∀ W W', S W → Below W.heap.size W W' → S W') :=
  ⟨fun W => W.heap[b]? = some (a.box 25) ∧ IsP W x a ∧ Below w.heap.size w W,
    fun W h1 h2 h3 => ⟨h1, h2, h3⟩, fun W h => ⟨(boxP_cells h.1).1, (boxP_cells h.1).2.1, (boxP_cells h.1).2.2, h⟩,
    fun W h => h.2.1, fun W h => h.2.2, fun W W' h hb => ⟨box3_later hb h.1, h.2.1.below hb, h.2.2.trans (hb.mono h.2.2.size)⟩⟩

set_option maxRecDepth 100000 in
set_option maxHeartbeats 4000000 in
theorem law_check (hal : Alive) (x : Pl) (a : At3) (w : World) (h : IsP w x a) :
    Calls Try.prog 3 #[.agg #[.slice a.sp a.sn a.sc, .slice a.fp a.fn a.fc, .slice a.pp a.pn a.pc]] w fun e w' => e = .returned (.bool true) ∧ Below w.heap.size w w' := by
  have hA := Lib.hid hal
  clear hal
  obtain ⟨S, s0, s1, s7, s9, sN⟩ := heldP w w.heap.size x a
  have b0 := fun o => (Below.refl w.heap.size w).alloc (Nat.le_refl _) o
  have S0 := Lib.hid (s0 _ (heap_new w (a.box 25)) (h.alloc _) (b0 _))
  have hc := fun W (h : S W) => tcheck_any x a W (s7 W h)
  have hr := fun W (h : S W) => placecheck_any x a W (s7 W h)
  have hg := fun W => given_any a W
  generalize plE x = z at hc hr
  clear s0 s7 h b0
  obtain ⟨sp, sn, sc, fp, fn, fc, pp, pn, pc⟩ := a
  simp only [At3.box] at S0
  dsimp only at hc hr hg s1 ⊢
  have HC := Lib.hid hc
  have HR := Lib.hid hr
  have HG := Lib.hid hg
  have HB := Lib.hid s9
  have SN := Lib.hid sN
  have MK := Lib.hid s1
  have RS : ∀ W, (W.cell? ⟨w.heap.size, 0, none⟩ = some (.slice sp sn sc) ∧ W.cell? ⟨w.heap.size, 1, none⟩ = some (.slice fp fn fc) ∧ W.cell? ⟨w.heap.size, 2, none⟩ = some (.slice pp pn pc) ∧ S W) → S W := fun W h => h.2.2.2
  have RS := Lib.hid RS
  have f3 := SN.out _ ((w.alloc (.cells #[.slice sp sn sc, .slice fp fn fc, .slice pp pn pc] 25))).drew S0.out ((Below.refl _ _).drew)
  have f4 := MK.out _ f3
  clear hc hr hg s1 s9 sN f3 S0
  go_enter Try.func3, Try.ntmps3
  go_wp2_with fail
  go_region_held3 (fun W => W.cell? ⟨w.heap.size, 0, none⟩ = some (.slice sp sn sc) ∧ W.cell? ⟨w.heap.size, 1, none⟩ = some (.slice fp fn fc) ∧ W.cell? ⟨w.heap.size, 2, none⟩ = some (.slice pp pn pc) ∧ S W)
    (first | exact f4 | exact MK.out _ (SN.out _ _ (RS.out _ (by assumption)) (by assumption)))
    (first
    | (go_at_call 15; refine (HG.out _).mono ?_; rintro e w3 ⟨rfl, hb3⟩)
    | (go_at_call 14; refine (HC.out _ (RS.out _ (by assumption))).mono ?_; rintro e w4 ⟨rfl, hb4⟩)
    | (go_at_call 16; refine (HR.out _ (RS.out _ (by assumption))).mono ?_; rintro e w5 ⟨rfl, hb5⟩)
    | (go_at_call 17; refine (hA.out _).mono ?_; rintro e w6 ⟨rfl, hb6⟩))
  all_goals
    go_wp2_with fail
    go_ret
    exact ⟨rfl, HB.out _ (RS.out _ (by assumption))⟩

end Go.Proofs.Ytlgfaobbjnhfoaa
