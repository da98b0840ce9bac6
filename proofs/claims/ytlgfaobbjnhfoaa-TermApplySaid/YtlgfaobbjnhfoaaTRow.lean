/-
  From the rows' readings to the walks: an argument that reads as a term, or as terms, is one in memory. Conditions: none.
-/
import Derived.Test.YtlgfaobbjnhfoaaRow
import Derived.Test.YtlgfaobbjnhfoaaTMem
set_option linter.unusedSimpArgs false
set_option linter.unusedVariables false
namespace Go.Proofs.Ytlgfaobbjnhfoaa
open Go.ChangeShapes Go.WideShapes Go.ChangeAt Go.RowKit

theorem P.readX : Try.prog.readableRec 35 = true := by kernel_rfl
theorem P.readXs : Try.prog.readableRec 33 = true := by kernel_rfl
theorem P.cellsX : Try.prog.cellsOf 35 = 3 := by kernel_rfl
theorem P.cellsXs : Try.prog.cellsOf 33 = 1 := by kernel_rfl
theorem P.cellsI : Try.prog.cellsOf 3 = 1 := by kernel_rfl

section
variable {H : Type} {enc : TypeId × Value → H} {W : World} {spare : Nat → Bool}

/-- a row of terms out of its cells -/
theorem rowX_of : ∀ (len : Nat) (f : Nat → Int → Int → X → Prop), (∀ i, i < len → ∃ k n a, f i k n a) → ∃ t : X, t.len = len ∧ ∀ i, i < len → f i (t.gk i) (t.gn i) (t.ga i) := by
  intro len
  induction len with
  | zero => intro f _; exact ⟨.nil, rfl, fun i h => absurd h (Nat.not_lt_zero _)⟩
  | succ n ih =>
    intro f h
    obtain ⟨k0, n0, a0, hh⟩ := h 0 (Nat.succ_pos _)
    obtain ⟨t, ht, hf⟩ := ih (fun i => f (i + 1)) (fun i hi => h (i + 1) (by omega))
    refine ⟨.cons k0 n0 a0 t, by simp [X.len, ht], fun i hi => ?_⟩
    cases i with
    | zero => exact hh
    | succ i => exact hf i (by omega)

theorem rowX_mk {t : X} : ∀ {b off : Nat}, (∀ i, i < t.len → W.cell? ⟨b, off + i * 3, none⟩ = some (.int .i64 (t.gk i)) ∧ W.cell? ⟨b, off + i * 3 + 1, none⟩ = some (.int .i64 (t.gn i)) ∧
    ∃ p n cap, W.cell? ⟨b, off + i * 3 + 2, none⟩ = some (.slice p n cap) ∧ IsX W (t.ga i) p n cap) → RowX W t b off := by
  induction t with
  | nil => intros; trivial
  | cons k n a r iha ihr =>
    intro b off hc
    obtain ⟨hk, hn, p, m, cap, h1, h2, h3, h4, h5, h6⟩ := hc 0 (by simp [X.len])
    simp only [X.ga] at h2 h6
    subst h2
    refine ⟨by simpa [X.gk] using hk, by simpa [X.gn] using hn, ⟨p, cap, by simpa using h1, h3, h4, h5, h6⟩, ihr fun i hi => ?_⟩
    have := hc (i + 1) (by simp only [X.len]; omega)
    rw [show off + 3 + i * 3 = off + (i + 1) * 3 by omega]
    exact this

set_option maxRecDepth 100000 in
/-- the three cells of a term -/
theorem cells3 {fuel : Nat} {cs : List Value} {x : DataW H × List MemPlace} (h : DataW.trod enc Try.prog W 0 spare true fuel 35 cs = some x) :
    ∃ k n c y f, f < fuel ∧ cs = [.int .i64 k, .int .i64 n, c] ∧ DataW.trod enc Try.prog W 0 spare true f 33 [c] = some y := by
  obtain ⟨xs, n', hn', _, hlen, hxl, hg⟩ := DataW.trod_struct Try.underlying35 h
  rw [P.cellsX] at hlen
  have hxl3 : xs.length = 3 := hxl
  match cs, hlen with
  | [c0, c1, c2], _ =>
    have h0 := hg 0 _ rfl
    have h1 := hg 1 _ rfl
    have h2 := hg 2 _ rfl
    change DataW.trod enc Try.prog W 0 spare true n' 3 (List.take (Try.prog.cellsOf 3) [c0, c1, c2]) = _ at h0
    change DataW.trod enc Try.prog W 0 spare true n' 3 (List.take (Try.prog.cellsOf 3) [c1, c2]) = _ at h1
    change DataW.trod enc Try.prog W 0 spare true n' 33 (List.take (Try.prog.cellsOf 33) [c2]) = _ at h2
    rw [P.cellsI, List.getElem?_eq_getElem (by omega)] at h0 h1
    rw [P.cellsXs, List.getElem?_eq_getElem (by omega)] at h2
    obtain ⟨k, hk, _⟩ := DataW.trod_int Try.underlying3 h0
    obtain ⟨n, hn, _⟩ := DataW.trod_int Try.underlying3 h1
    simp only [List.take_succ_cons, List.take_zero, List.cons.injEq, and_true] at hk hn h2
    subst hk hn
    exact ⟨k, n, c2, _, n', by omega, rfl, h2⟩

set_option maxRecDepth 100000 in
/-- an argument that reads as a list of terms is one in memory -/
theorem isX_of_trod (fuel : Nat) : ∀ (c : Value) (x : DataW H × List MemPlace), DataW.trod enc Try.prog W 0 spare true fuel 33 [c] = some x → ∃ p n cap t, c = .slice p n cap ∧ IsX W t p n cap := by
  induction fuel using Nat.strongRecOn with
  | _ fuel ih =>
    intro c x h
    rcases DataW.trod_slice Try.underlying33 h with ⟨hc, _⟩ | ⟨a, len, cap, elems, rest, n, hf, hc, _, _, hl, hm, hel, hat, _⟩
    · simp only [List.cons.injEq, and_true] at hc
      exact ⟨none, 0, 0, .nil, hc, rfl, Nat.le_refl _, by simp [maxLen], fun _ => rfl, Or.inl rfl⟩
    · simp only [List.cons.injEq, and_true] at hc
      have step : ∀ i, i < len → ∃ k n a', W.cell? (a.add (i * 3)) = some (.int .i64 k) ∧ W.cell? ((a.add (i * 3)).add 1) = some (.int .i64 n) ∧
          ∃ p m c', W.cell? ((a.add (i * 3)).add 2) = some (.slice p m c') ∧ IsX W a' p m c' := by
        intro i hi
        have h1 := hat i hi
        rw [P.cellsX, List.getElem?_eq_getElem (by omega)] at h1
        obtain ⟨cs, h2, h3⟩ := Option.bind_eq_some_iff.1 h1
        obtain ⟨_, hlen, hcl⟩ := World.cells?_some h2
        obtain ⟨k, m, c', y, f, hf2, rfl, h4⟩ := cells3 h3
        obtain ⟨p, l, cp, t, rfl, ht⟩ := ih f (by omega) c' y h4
        refine ⟨k, m, t, ?_, ?_, p, l, cp, ?_, ht⟩
        · have := hcl 0 (by omega); rw [show (a.add (i * 3)).add 0 = a.add (i * 3) from by unfold Addr.add; split <;> simp_all] at this; simpa using this
        · have := hcl 1 (by omega); simpa using this
        · have := hcl 2 (by omega); simpa using this
      obtain ⟨t, ht, hrow⟩ := rowX_of len _ step
      refine ⟨some a, len, cap, t, hc, ht.symm, hl, hm, fun e => by simp at e, ?_⟩
      by_cases h0 : len = 0
      · exact Or.inl h0
      · right
        obtain ⟨b, off, spot⟩ := a
        have hcell := (hrow 0 (by omega)).1
        have hspot : spot = none := by simpa [Addr.add] using World.cell?_spot hcell
        subst hspot
        refine ⟨b, off, rfl, rowX_mk fun i hi => ?_⟩
        have := hrow i (by omega)
        have e1 : (⟨b, off, none⟩ : Addr).add (i * 3) = ⟨b, off + i * 3, none⟩ := Go.WideShapes.add_plain _ _ _
        rw [e1] at this
        have e2 : ∀ j, (⟨b, off + i * 3, none⟩ : Addr).add j = ⟨b, off + i * 3 + j, none⟩ := fun j => Go.WideShapes.add_plain _ _ _
        rw [e2, e2] at this
        exact this

set_option maxRecDepth 100000 in
/-- an argument of the type Term -/
theorem open_term {v : Value} {d : DataW H} {ps : List MemPlace} {base : Nat} (hv : Value.okWide Try.prog W .any base 35 v) (h : DataW.Trod enc Try.prog W 0 spare true 35 v d ps) :
    ∃ k n p l cap t, v = .agg #[.int .i64 k, .int .i64 n, .slice p l cap] ∧ IsX W t p l cap := by
  obtain ⟨cs, rfl, hsz⟩ := okWide_struct Try.underlying35 hv
  obtain ⟨l⟩ := cs
  obtain ⟨fuel, hf⟩ := h
  obtain ⟨k, n, c, y, f, _, hcs, h4⟩ := cells3 (cs := l) (by simpa [Value.cells] using hf)
  subst hcs
  obtain ⟨p, m, cp, t, rfl, ht⟩ := isX_of_trod f c y h4
  exact ⟨k, n, p, m, cp, t, rfl, ht⟩

set_option maxRecDepth 100000 in
/-- an argument of the type []Term -/
theorem open_terms {v : Value} {d : DataW H} {ps : List MemPlace} {base : Nat} (hv : Value.okWide Try.prog W .any base 33 v) (h : DataW.Trod enc Try.prog W 0 spare true 33 v d ps) :
    ∃ p l cap t, v = .slice p l cap ∧ IsX W t p l cap := by
  obtain ⟨fuel, hf⟩ := h
  obtain ⟨a, l, c, rfl⟩ := okWide_slice Try.underlying33 hv
  obtain ⟨p, m, cp, t, he, ht⟩ := isX_of_trod fuel _ _ (by simpa [Value.cells] using hf)
  exact ⟨p, m, cp, t, he, ht⟩
end

end Go.Proofs.Ytlgfaobbjnhfoaa
