/-
  The walks of the statements' own example, and of what holds of it. Conditions: none.
-/
import Derived.Test.YteokoilpnabmhaaWalkE
import Derived.Test.YteokoilpnabmhaaWalkG
namespace Go.Proofs.Yteokoilpnabmhaa
open Go.RowKit

def ex : T := .cons (.cons .nil .nil) (.cons .nil .nil)

set_option maxHeartbeats 400000 in
theorem example_any (w : World) :
    Calls Try.prog 38 #[] w fun e w' => ∃ p c, e = .returned (.agg #[.slice p 2 c]) ∧ IsT w' ex p 2 c ∧ Below w.heap.size w w' := by
  go_enter Try.func38, Try.ntmps38
  go_wp2_with fail
  refine bodyPost_ret (v := .agg #[.slice (some ⟨w.heap.size + 1 + 1 + 1, 0, none⟩) 2 2]) (by simp [results, Try.results38, go_sem]) rfl ⟨_, _, rfl, ?_, ?_⟩
  · refine ⟨rfl, Nat.le_refl _, by simp [maxLen], fun e => by simp at e, Or.inr ⟨_, 0, rfl, ⟨some ⟨w.heap.size + 1 + 1, 0, none⟩, 1, ?_, Nat.le_refl _, by simp [maxLen], fun e => by simp at e, Or.inr ⟨w.heap.size + 1 + 1, 0, rfl, ⟨none, 0, ?_, Nat.le_refl _, by simp [maxLen], fun _ => rfl, Or.inl rfl⟩, trivial⟩⟩, ⟨none, 0, ?_, Nat.le_refl _, by simp [maxLen], fun _ => rfl, Or.inl rfl⟩, trivial⟩⟩
    · have h := Lib.cell_of_heap (heap_new (((w.alloc (.cells #[.slice (some ⟨w.heap.size + 1 + 1 + 1, 0, none⟩) 2 2] 24)).alloc (.cells #[.slice none 0 0] 24)).alloc (.cells #[.slice none 0 0] 24)) (.cells #[.slice (some ⟨w.heap.size + 1 + 1, 0, none⟩) 1 1, .slice none 0 0] 24)) 0
      simp only [World.size_alloc] at h
      exact h
    · have h := Lib.cell_of_heap (alloc_kept (heap_new ((w.alloc (.cells #[.slice (some ⟨w.heap.size + 1 + 1 + 1, 0, none⟩) 2 2] 24)).alloc (.cells #[.slice none 0 0] 24)) (.cells #[.slice none 0 0] 24)) (.cells #[.slice (some ⟨w.heap.size + 1 + 1, 0, none⟩) 1 1, .slice none 0 0] 24)) 0
      simp only [World.size_alloc] at h
      exact h
    · have h := Lib.cell_of_heap (heap_new (((w.alloc (.cells #[.slice (some ⟨w.heap.size + 1 + 1 + 1, 0, none⟩) 2 2] 24)).alloc (.cells #[.slice none 0 0] 24)).alloc (.cells #[.slice none 0 0] 24)) (.cells #[.slice (some ⟨w.heap.size + 1 + 1, 0, none⟩) 1 1, .slice none 0 0] 24)) 1
      simp only [World.size_alloc] at h
      exact h
  · exact ((((Below.refl w.heap.size w).alloc (Nat.le_refl _) _).alloc (by simp) _).alloc (by simp; omega) _).alloc (by simp; omega) _

set_option maxHeartbeats 800000 in
theorem alive_any (w : World) :
    Calls Try.prog 17 #[] w fun e w' => e = .returned (.bool true) ∧ Below w.heap.size w w' := by
  have e1 : ex.pT = [40, 111, 32, 62, 32, 111, 41, 32, 62, 32, 111, 32, 62, 32, 111] := by decide
  have e2 : ex.oE = 0 := by decide
  have e3 : ex.oN = 2 := by decide
  have e4 : ex.nodes = 4 := by decide
  have e5 : ex.ord = 2 := by decide
  have e6 : ex.bT 1 = .cons .nil .nil := by unfold T.bT; rw [if_pos (by decide)]; rfl
  have e7 : ex.bE 1 = 0 := by decide
  have e8 : (T.cons .nil .nil).pT = [111, 32, 62, 32, 111] := by decide
  have e9 : (T.cons .nil .nil).oE = 0 := by decide
  have cP : ∀ W p c, IsT W ex p 2 c → _ := fun W p c h => put_any ex W p 2 c h
  have cO : ∀ W p c, IsT W ex p 2 c → _ := fun W p c h => orderF_any ex W p 2 c h
  have cS : ∀ W p c, IsT W ex p 2 c → _ := fun W p c h => size_yes ex W p 2 c h (by rw [e4]; omega)
  have cB : ∀ W p c, IsT W ex p 2 c → _ := fun W p c h => behind_any ex W p 2 c 1 h
  have cQ : ∀ W p n c, IsT W (.cons .nil .nil) p n c → _ := fun W p n c h => put_any (.cons .nil .nil) W p n c h
  simp only [e1, e2] at cP
  simp only [e3, e2] at cO
  simp only [e4, e5] at cS
  simp only [e6, e7] at cB
  simp only [e8, e9] at cQ
  clear e1 e2 e3 e4 e5 e6 e7 e8 e9
  have CP := Lib.hid cP
  have CO := Lib.hid cO
  have CS := Lib.hid cS
  have CB := Lib.hid cB
  have CQ := Lib.hid cQ
  clear cP cO cS cB cQ
  go_enter Try.func17, Try.ntmps17
  go_wp2_with fail
  refine (example_any _).mono ?_
  rintro e w1 ⟨p1, c1, rfl, hi1, hb1⟩
  go_wp2_with fail
  refine (CP.out _ _ _ hi1).mono ?_
  rintro e w2 ⟨rfl, hb2⟩
  go_wp2_with fail
  refine (example_any _).mono ?_
  rintro e w3 ⟨p3, c3, rfl, hi3, hb3⟩
  go_wp2_with fail
  refine (CO.out _ _ _ hi3).mono ?_
  rintro e w4 ⟨rfl, hb4⟩
  go_wp2_with fail
  refine (example_any _).mono ?_
  rintro e w5 ⟨p5, c5, rfl, hi5, hb5⟩
  go_wp2_with fail
  refine (CS.out _ _ _ hi5).mono ?_
  rintro e w6 ⟨rfl, hb6⟩
  go_wp2_with fail
  refine (example_any _).mono ?_
  rintro e w7 ⟨p7, c7, rfl, hi7, hb7⟩
  go_wp2_with fail
  refine (CB.out _ _ _ hi7).mono ?_
  rintro e w8 ⟨q8, c8, rfl, hO8, hb8⟩
  go_wp2_with fail
  refine (CQ.out _ _ _ _ (hO8.isT.alloc _)).mono ?_
  rintro e w9 ⟨rfl, hb9⟩
  have hz1 := hb1.size
  have hz2 := hb2.size
  have hz3 := hb3.size
  have hz4 := hb4.size
  have hz5 := hb5.size
  have hz6 := hb6.size
  have hz7 := hb7.size
  have hz8 := hb8.size
  have hb : Below w.heap.size w w8 := hb1.trans ((hb2.mono (by omega)).trans ((hb3.mono (by omega)).trans ((hb4.mono (by omega)).trans ((hb5.mono (by omega)).trans ((hb6.mono (by omega)).trans ((hb7.mono (by omega)).trans (hb8.mono (by omega))))))))
  go_wp2_with fail
  go_ret
  exact ⟨rfl, base_next hb hb9⟩

end Go.Proofs.Yteokoilpnabmhaa
