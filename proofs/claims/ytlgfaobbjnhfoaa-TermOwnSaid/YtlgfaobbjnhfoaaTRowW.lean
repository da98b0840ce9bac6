/-
  An argument that reads as a term is one in memory, whose numbers are those of 64 bits. Conditions: none.
-/
import Derived.Test.YtlgfaobbjnhfoaaTRow
import Derived.Test.YtlgfaobbjnhfoaaTWalkB
set_option linter.unusedSimpArgs false
set_option linter.unusedVariables false
namespace Go.Proofs.Ytlgfaobbjnhfoaa
open Go.ChangeShapes Go.WideShapes Go.ChangeAt Go.RowKit

/-- a number of 64 bits -/
def wf64 (n : Int) : Prop := (Lit.int .i64 n).wf = true

/-- all numbers in a term are of 64 bits -/
def WfX (t : X) : Prop := X.AllX (fun k n _ => wf64 k ∧ wf64 n) t

theorem wfX_of {t : X} : (∀ i, i < t.len → (wf64 (t.gk i) ∧ wf64 (t.gn i)) ∧ WfX (t.ga i)) → WfX t := by
  induction t with
  | nil => intro _; trivial
  | cons k n a r iha ihr =>
    intro h
    have h0 := h 0 (by simp [X.len])
    exact ⟨h0.1, h0.2, ihr fun i hi => h (i + 1) (by simp only [X.len]; omega)⟩

section
variable {H : Type} {enc : TypeId × Value → H} {W : World} {spare : Nat → Bool}

set_option maxRecDepth 100000 in
theorem cells3_wf {fuel : Nat} {cs : List Value} {x : DataW H × List MemPlace} (h : DataW.trod enc Try.prog W 0 spare true fuel 35 cs = some x) :
    ∃ k n c y f, f < fuel ∧ cs = [.int .i64 k, .int .i64 n, c] ∧ wf64 k ∧ wf64 n ∧ DataW.trod enc Try.prog W 0 spare true f 33 [c] = some y := by
  obtain ⟨xs, n', hn', _, hlen, hxl, hg⟩ := DataW.trod_struct Try.underlying35 h
  rw [P.cellsX] at hlen
  have hxl3 : xs.length = 3 := hxl
  match cs, hlen with
  | [c0, c1, c2], _ =>
    have h0 := hg 0 _ rfl
    have h1 := hg 1 _ rfl
    have h2 := hg 2 _ rfl
    change DataW.trod enc Try.prog W 0 spare true n' 3 (List.take (Try.prog.cellsOf 3) [c0, c1, c2]) = _ at h0
    change DataW.trod enc Try.prog W 0 spare true n' 3 (List.take (Try.prog.cellsOf 3) [c1, c2]) = _ at h1
    change DataW.trod enc Try.prog W 0 spare true n' 33 (List.take (Try.prog.cellsOf 33) [c2]) = _ at h2
    rw [P.cellsI, List.getElem?_eq_getElem (by omega)] at h0 h1
    rw [P.cellsXs, List.getElem?_eq_getElem (by omega)] at h2
    obtain ⟨k, hk, _, wk⟩ := DataW.trod_int Try.underlying3 h0
    obtain ⟨n, hn, _, wn⟩ := DataW.trod_int Try.underlying3 h1
    simp only [List.take_succ_cons, List.take_zero, List.cons.injEq, and_true] at hk hn h2
    subst hk hn
    exact ⟨k, n, c2, _, n', by omega, rfl, wk, wn, h2⟩

set_option maxRecDepth 100000 in
theorem isX_of_trod_wf (fuel : Nat) : ∀ (c : Value) (x : DataW H × List MemPlace), DataW.trod enc Try.prog W 0 spare true fuel 33 [c] = some x → ∃ p n cap t, c = .slice p n cap ∧ IsX W t p n cap ∧ WfX t := by
  induction fuel using Nat.strongRecOn with
  | _ fuel ih =>
    intro c x h
    rcases DataW.trod_slice Try.underlying33 h with ⟨hc, _⟩ | ⟨a, len, cap, elems, rest, n, hf, hc, _, _, hl, hm, hel, hat, _⟩
    · simp only [List.cons.injEq, and_true] at hc
      exact ⟨none, 0, 0, .nil, hc, ⟨rfl, Nat.le_refl _, by simp [maxLen], fun _ => rfl, Or.inl rfl⟩, trivial⟩
    · simp only [List.cons.injEq, and_true] at hc
      have step : ∀ i, i < len → ∃ k n a', (W.cell? (a.add (i * 3)) = some (.int .i64 k) ∧ W.cell? ((a.add (i * 3)).add 1) = some (.int .i64 n) ∧
          ∃ p m c', W.cell? ((a.add (i * 3)).add 2) = some (.slice p m c') ∧ IsX W a' p m c') ∧ (wf64 k ∧ wf64 n) ∧ WfX a' := by
        intro i hi
        have h1 := hat i hi
        rw [P.cellsX, List.getElem?_eq_getElem (by omega)] at h1
        obtain ⟨cs, h2, h3⟩ := Option.bind_eq_some_iff.1 h1
        obtain ⟨_, hlen, hcl⟩ := World.cells?_some h2
        obtain ⟨k, m, c', y, f, hf2, rfl, wk, wn, h4⟩ := cells3_wf h3
        obtain ⟨p, l, cp, t, rfl, ht, htw⟩ := ih f (by omega) c' y h4
        refine ⟨k, m, t, ⟨?_, ?_, p, l, cp, ?_, ht⟩, ⟨wk, wn⟩, htw⟩
        · have := hcl 0 (by omega); rw [show (a.add (i * 3)).add 0 = a.add (i * 3) from by unfold Addr.add; split <;> simp_all] at this; simpa using this
        · have := hcl 1 (by omega); simpa using this
        · have := hcl 2 (by omega); simpa using this
      obtain ⟨t, ht, hrow⟩ := rowX_of len _ step
      refine ⟨some a, len, cap, t, hc, ⟨ht.symm, hl, hm, fun e => by simp at e, ?_⟩, wfX_of fun i hi => (hrow i (by omega)).2⟩
      by_cases h0 : len = 0
      · exact Or.inl h0
      · right
        obtain ⟨b, off, spot⟩ := a
        have hcell := (hrow 0 (by omega)).1.1
        have hspot : spot = none := by simpa [Addr.add] using World.cell?_spot hcell
        subst hspot
        refine ⟨b, off, rfl, rowX_mk fun i hi => ?_⟩
        have := (hrow i (by omega)).1
        have e1 : (⟨b, off, none⟩ : Addr).add (i * 3) = ⟨b, off + i * 3, none⟩ := Go.WideShapes.add_plain _ _ _
        rw [e1] at this
        have e2 : ∀ j, (⟨b, off + i * 3, none⟩ : Addr).add j = ⟨b, off + i * 3 + j, none⟩ := fun j => Go.WideShapes.add_plain _ _ _
        rw [e2, e2] at this
        exact this

set_option maxRecDepth 100000 in
/-- an argument of the type Term -/
theorem open_term_wf {v : Value} {d : DataW H} {ps : List MemPlace} {base : Nat} (hv : Value.okWide Try.prog W .any base 35 v) (h : DataW.Trod enc Try.prog W 0 spare true 35 v d ps) :
    ∃ k n p l cap t, v = .agg #[.int .i64 k, .int .i64 n, .slice p l cap] ∧ IsX W t p l cap ∧ wf64 k ∧ wf64 n ∧ WfX t := by
  obtain ⟨cs, rfl, hsz⟩ := okWide_struct Try.underlying35 hv
  obtain ⟨l⟩ := cs
  obtain ⟨fuel, hf⟩ := h
  obtain ⟨k, n, c, y, f, _, hcs, wk, wn, h4⟩ := cells3_wf (cs := l) (by simpa [Value.cells] using hf)
  subst hcs
  obtain ⟨p, m, cp, t, rfl, ht, htw⟩ := isX_of_trod_wf f c y h4
  exact ⟨k, n, p, m, cp, t, rfl, ht, wk, wn, htw⟩
end

end Go.Proofs.Ytlgfaobbjnhfoaa
