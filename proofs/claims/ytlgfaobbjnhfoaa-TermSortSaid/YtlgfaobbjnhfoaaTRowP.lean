/-
  From the rows' readings to the walks: an argument that reads as a place is one in memory. Conditions: none.
-/
import Derived.Test.YtlgfaobbjnhfoaaTRow
import Derived.Test.YtlgfaobbjnhfoaaTWalkM
set_option linter.unusedSimpArgs false
set_option linter.unusedVariables false
namespace Go.Proofs.Ytlgfaobbjnhfoaa
open Go.ChangeShapes Go.WideShapes Go.ChangeAt Go.RowKit

theorem P.readP : Try.prog.readableRec 25 = true := by kernel_rfl
theorem P.cellsP : Try.prog.cellsOf 25 = 3 := by kernel_rfl
theorem P.cellsSy : Try.prog.cellsOf 66 = 2 := by kernel_rfl
theorem P.cellsSyL : Try.prog.cellsOf 22 = 1 := by kernel_rfl
theorem P.cellsStr : Try.prog.cellsOf 9 = 1 := by kernel_rfl

section
variable {H : Type} {enc : TypeId × Value → H} {W : World} {spare : Nat → Bool}

set_option maxRecDepth 100000 in
/-- the two cells of a symbol -/
theorem cells2 {fuel : Nat} {cs : List Value} {x : DataW H × List MemPlace} (h : DataW.trod enc Try.prog W 0 spare true fuel 66 cs = some x) : ∃ s r, cs = [.string s, .int .i64 r] := by
  obtain ⟨xs, n', hn', _, hlen, hxl, hg⟩ := DataW.trod_struct Try.underlying66 h
  rw [P.cellsSy] at hlen
  have hxl2 : xs.length = 2 := hxl
  match cs, hlen with
  | [c0, c1], _ =>
    have h0 := hg 0 _ rfl
    have h1 := hg 1 _ rfl
    change DataW.trod enc Try.prog W 0 spare true n' 9 (List.take (Try.prog.cellsOf 9) [c0, c1]) = _ at h0
    change DataW.trod enc Try.prog W 0 spare true n' 3 (List.take (Try.prog.cellsOf 3) [c1]) = _ at h1
    rw [P.cellsStr, List.getElem?_eq_getElem (by omega)] at h0
    rw [P.cellsI, List.getElem?_eq_getElem (by omega)] at h1
    obtain ⟨s, hs, _⟩ := DataW.trod_string Try.underlying9 h0
    obtain ⟨r, hr, _⟩ := DataW.trod_int Try.underlying3 h1
    simp only [List.take_succ_cons, List.take_zero, List.cons.injEq, and_true] at hs hr
    subst hs hr
    exact ⟨s, r, rfl⟩

set_option maxRecDepth 100000 in
/-- an argument that reads as a list of symbols is one in memory -/
theorem isSy_of_trod (fuel : Nat) (c : Value) (x : DataW H × List MemPlace) (h : DataW.trod enc Try.prog W 0 spare true fuel 22 [c] = some x) : ∃ p n cap S, c = .slice p n cap ∧ IsS W S p n cap := by
  rcases DataW.trod_slice Try.underlying22 h with ⟨hc, _⟩ | ⟨a, len, cap, elems, rest, n, hf, hc, _, _, hl, hm, hel, hat, _⟩
  · simp only [List.cons.injEq, and_true] at hc
    exact ⟨none, 0, 0, ⟨0, fun _ => ByteArray.empty, fun _ => 0⟩, hc, rfl, Nat.le_refl _, by simp [maxLen], fun _ => rfl, Or.inl rfl⟩
  · simp only [List.cons.injEq, and_true] at hc
    have step : ∀ i, ∃ sr : ByteArray × Int, i < len → W.cell? (a.add (i * 2)) = some (.string sr.1) ∧ W.cell? ((a.add (i * 2)).add 1) = some (.int .i64 sr.2) := by
      intro i
      by_cases hi : i < len
      · have h1 := hat i hi
        rw [P.cellsSy, List.getElem?_eq_getElem (by omega)] at h1
        obtain ⟨cs, h2, h3⟩ := Option.bind_eq_some_iff.1 h1
        obtain ⟨_, hlen, hcl⟩ := World.cells?_some h2
        obtain ⟨s, r, rfl⟩ := cells2 h3
        refine ⟨(s, r), fun _ => ⟨?_, ?_⟩⟩
        · have := hcl 0 (by omega); rw [show (a.add (i * 2)).add 0 = a.add (i * 2) from by unfold Addr.add; split <;> simp_all] at this; simpa using this
        · have := hcl 1 (by omega); simpa using this
      · exact ⟨(ByteArray.empty, 0), fun h => absurd h hi⟩
    obtain ⟨f, hf2⟩ := Classical.axiomOfChoice step
    refine ⟨some a, len, cap, ⟨len, fun i => (f i).1, fun i => (f i).2⟩, hc, rfl, hl, hm, fun e => by simp at e, ?_⟩
    by_cases h0 : len = 0
    · exact Or.inl h0
    · right
      obtain ⟨b, off, spot⟩ := a
      have hcell := (hf2 0 (by omega)).1
      have hspot : spot = none := by simpa [Addr.add] using World.cell?_spot hcell
      subst hspot
      refine ⟨b, off, rfl, fun i hi => ?_⟩
      have := hf2 i hi
      have e1 : (⟨b, off, none⟩ : Addr).add (i * 2) = ⟨b, off + i * 2, none⟩ := Go.WideShapes.add_plain _ _ _
      rw [e1] at this
      have e2 : (⟨b, off + i * 2, none⟩ : Addr).add 1 = ⟨b, off + i * 2 + 1, none⟩ := Go.WideShapes.add_plain _ _ _
      rw [e2] at this
      exact this

set_option maxRecDepth 100000 in
/-- an argument of the type Place -/
theorem open_place {v : Value} {d : DataW H} {ps : List MemPlace} {base : Nat} (hv : Value.okWide Try.prog W .any base 25 v) (h : DataW.Trod enc Try.prog W 0 spare true 25 v d ps) :
    ∃ (x : Pl) (a : At3), v = .agg #[.slice a.sp a.sn a.sc, .slice a.fp a.fn a.fc, .slice a.pp a.pn a.pc] ∧ IsP W x a := by
  obtain ⟨cs, rfl, hsz⟩ := okWide_struct Try.underlying25 hv
  obtain ⟨l⟩ := cs
  obtain ⟨fuel, hf⟩ := h
  obtain ⟨xs, n', hn', _, hlen, hxl, hg⟩ := DataW.trod_struct Try.underlying25 hf
  rw [P.cellsP] at hlen
  have hxl3 : xs.length = 3 := hxl
  have hl : l.length = 3 := by simpa [Value.cells] using hlen
  match l, hl with
  | [c0, c1, c2], _ =>
    have h0 := hg 0 _ rfl
    have h1 := hg 1 _ rfl
    have h2 := hg 2 _ rfl
    change DataW.trod enc Try.prog W 0 spare true n' 22 (List.take (Try.prog.cellsOf 22) [c0, c1, c2]) = _ at h0
    change DataW.trod enc Try.prog W 0 spare true n' 23 (List.take (Try.prog.cellsOf 23) [c1, c2]) = _ at h1
    change DataW.trod enc Try.prog W 0 spare true n' 23 (List.take (Try.prog.cellsOf 23) [c2]) = _ at h2
    rw [P.cellsSyL, List.getElem?_eq_getElem (by omega)] at h0
    rw [P.cellsL, List.getElem?_eq_getElem (by omega)] at h1 h2
    obtain ⟨p, m, cp, S, rfl, hS⟩ := isSy_of_trod n' c0 _ h0
    obtain ⟨p1, m1, cp1, F, rfl, hF⟩ := isT_of_trod n' c1 _ h1
    obtain ⟨p2, m2, cp2, Q, rfl, hQ⟩ := isT_of_trod n' c2 _ h2
    exact ⟨⟨S, F, Q⟩, ⟨p, m, cp, p1, m1, cp1, p2, m2, cp2⟩, rfl, hS, hF, hQ⟩
end

end Go.Proofs.Ytlgfaobbjnhfoaa
