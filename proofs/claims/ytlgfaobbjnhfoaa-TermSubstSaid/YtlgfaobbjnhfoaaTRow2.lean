/-
  The sizes of the lists of terms handed in: no list is longer than memory. Conditions: none.
-/
import Derived.Test.YtlgfaobbjnhfoaaTRow
import Derived.SizedLaws
set_option linter.unusedSimpArgs false
set_option linter.unusedVariables false
namespace Go.Proofs.Ytlgfaobbjnhfoaa
open Go.ChangeShapes Go.WideShapes Go.ChangeAt Go.RowKit

theorem P.bytesX : Try.prog.bytesOf 35 = 40 := by kernel_rfl

section
variable {H : Type} {enc : TypeId × Value → H} {W : World} {spare : Nat → Bool}

theorem size_terms {p : Option Addr} {l c : Nat} {d : DataW H} {ps : List MemPlace} (h : DataW.Trod enc Try.prog W 0 spare true 33 (.slice p l c) d ps) :
    l = 0 ∨ ∃ es sp, d = .slice es sp ∧ es.length = l := by
  obtain ⟨fuel, hf⟩ := h
  rcases DataW.trod_slice Try.underlying33 hf with ⟨hc, _⟩ | ⟨a, len, cap, elems, rest, n, _, hc, hx, _, _, _, hel, _⟩
  · left
    have : Value.slice p l c = Value.slice none 0 0 := by simpa [Value.cells] using hc
    injection this
  · right
    have h1 : Value.slice p l c = Value.slice (some a) len cap := by simpa [Value.cells] using hc
    have h2 := (Prod.mk.inj hx).1
    injection h1 with _ h3 _
    exact ⟨_, _, h2, by rw [List.length_map, hel, h3]⟩

theorem sized_terms {ts : List TypeId} {ds : List (DataW H)} (hwt : (DataW.weightsEach Try.prog ts ds).all (· ≤ reachBytes) = true) {j : Nat} {d : DataW H} (ht : ts[j]? = some 33) (hd : ds[j]? = some d)
    {p : Option Addr} {l c : Nat} {ps : List MemPlace} (h : DataW.Trod enc Try.prog W 0 spare true 33 (.slice p l c) d ps) : l ≤ 17592186044416 := by
  rcases size_terms h with h0 | ⟨es, sp, rfl, hl⟩
  · omega
  · have h1 := sized_slice hwt ht hd Try.underlying33
    rw [P.bytesX] at h1
    have h2 := reachBytes_lt
    rw [hl] at h1
    have h3 : (2:Nat) ^ 47 = 140737488355328 := by decide
    omega
end

end Go.Proofs.Ytlgfaobbjnhfoaa
