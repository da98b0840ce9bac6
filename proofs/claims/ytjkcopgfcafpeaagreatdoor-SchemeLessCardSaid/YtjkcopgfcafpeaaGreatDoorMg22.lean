/-
  Parts of one proof, laid into one text: TRowP, SRow. Conditions: each part names its own.
-/
import Derived.Test.YtjkcopgfcafpeaaGreatDoorMg06
import Derived.Test.YtjkcopgfcafpeaaGreatDoorMg20

/-
  From the rows' readings to the walks: an argument that reads as a place is one in memory. Conditions: none.
-/
set_option linter.unusedSimpArgs false
set_option linter.unusedVariables false
namespace Go.Proofs.YtjkcopgfcafpeaaGreatDoor
open Go.ChangeShapes Go.WideShapes Go.ChangeAt Go.RowKit

theorem P.readP : Tryz.prog.readableRec 103 = true := by kernel_rfl
theorem P.cellsP : Tryz.prog.cellsOf 103 = 3 := by kernel_rfl
theorem P.cellsSy : Tryz.prog.cellsOf 64 = 2 := by kernel_rfl
theorem P.cellsSyL : Tryz.prog.cellsOf 22 = 1 := by kernel_rfl
theorem P.cellsStr : Tryz.prog.cellsOf 9 = 1 := by kernel_rfl

section
variable {H : Type} {enc : TypeId × Value → H} {W : World} {spare : Nat → Bool}

set_option maxRecDepth 100000 in
/-- the two cells of a symbol -/
theorem cells2 {fuel : Nat} {cs : List Value} {x : DataW H × List MemPlace} (h : DataW.trod enc Tryz.prog W 0 spare true fuel 64 cs = some x) : ∃ s r, cs = [.string s, .int .i64 r] := by
  obtain ⟨xs, n', hn', _, hlen, hxl, hg⟩ := DataW.trod_struct Tryz.underlying64 h
  rw [P.cellsSy] at hlen
  have hxl2 : xs.length = 2 := hxl
  match cs, hlen with
  | [c0, c1], _ =>
    have h0 := hg 0 _ rfl
    have h1 := hg 1 _ rfl
    change DataW.trod enc Tryz.prog W 0 spare true n' 9 (List.take (Tryz.prog.cellsOf 9) [c0, c1]) = _ at h0
    change DataW.trod enc Tryz.prog W 0 spare true n' 3 (List.take (Tryz.prog.cellsOf 3) [c1]) = _ at h1
    rw [P.cellsStr, List.getElem?_eq_getElem (by omega)] at h0
    rw [P.cellsI, List.getElem?_eq_getElem (by omega)] at h1
    obtain ⟨s, hs, _⟩ := DataW.trod_string Tryz.underlying9 h0
    obtain ⟨r, hr, _⟩ := DataW.trod_int Tryz.underlying3 h1
    simp only [List.take_succ_cons, List.take_zero, List.cons.injEq, and_true] at hs hr
    subst hs hr
    exact ⟨s, r, rfl⟩

set_option maxRecDepth 100000 in
/-- an argument that reads as a list of symbols is one in memory -/
theorem isSy_of_trod (fuel : Nat) (c : Value) (x : DataW H × List MemPlace) (h : DataW.trod enc Tryz.prog W 0 spare true fuel 22 [c] = some x) : ∃ p n cap S, c = .slice p n cap ∧ IsS W S p n cap := by
  rcases DataW.trod_slice Tryz.underlying22 h with ⟨hc, _⟩ | ⟨a, len, cap, elems, rest, n, hf, hc, _, _, hl, hm, hel, hat, _⟩
  · simp only [List.cons.injEq, and_true] at hc
    exact ⟨none, 0, 0, ⟨0, fun _ => ByteArray.empty, fun _ => 0⟩, hc, rfl, Nat.le_refl _, by simp [maxLen], fun _ => rfl, Or.inl rfl⟩
  · simp only [List.cons.injEq, and_true] at hc
    have step : ∀ i, ∃ sr : ByteArray × Int, i < len → W.cell? (a.add (i * 2)) = some (.string sr.1) ∧ W.cell? ((a.add (i * 2)).add 1) = some (.int .i64 sr.2) := by
      intro i
      by_cases hi : i < len
      · have h1 := hat i hi
        rw [P.cellsSy, List.getElem?_eq_getElem (by omega)] at h1
        obtain ⟨cs, h2, h3⟩ := Option.bind_eq_some_iff.1 h1
        obtain ⟨_, hlen, hcl⟩ := World.cells?_some h2
        obtain ⟨s, r, rfl⟩ := cells2 h3
        refine ⟨(s, r), fun _ => ⟨?_, ?_⟩⟩
        · have := hcl 0 (by omega); rw [show (a.add (i * 2)).add 0 = a.add (i * 2) from by unfold Addr.add; split <;> simp_all] at this; simpa using this
        · have := hcl 1 (by omega); simpa using this
      · exact ⟨(ByteArray.empty, 0), fun h => absurd h hi⟩
    obtain ⟨f, hf2⟩ := Classical.axiomOfChoice step
    refine ⟨some a, len, cap, ⟨len, fun i => (f i).1, fun i => (f i).2⟩, hc, rfl, hl, hm, fun e => by simp at e, ?_⟩
    by_cases h0 : len = 0
    · exact Or.inl h0
    · right
      obtain ⟨b, off, spot⟩ := a
      have hcell := (hf2 0 (by omega)).1
      have hspot : spot = none := by simpa [Addr.add] using World.cell?_spot hcell
      subst hspot
      refine ⟨b, off, rfl, fun i hi => ?_⟩
      have := hf2 i hi
      have e1 : (⟨b, off, none⟩ : Addr).add (i * 2) = ⟨b, off + i * 2, none⟩ := Go.WideShapes.add_plain _ _ _
      rw [e1] at this
      have e2 : (⟨b, off + i * 2, none⟩ : Addr).add 1 = ⟨b, off + i * 2 + 1, none⟩ := Go.WideShapes.add_plain _ _ _
      rw [e2] at this
      exact this

set_option maxRecDepth 100000 in
/-- an argument of the type Place -/
theorem open_place {v : Value} {d : DataW H} {ps : List MemPlace} {base : Nat} (hv : Value.okWide Tryz.prog W .any base 103 v) (h : DataW.Trod enc Tryz.prog W 0 spare true 103 v d ps) :
    ∃ (x : Pl) (a : At3), v = .agg #[.slice a.sp a.sn a.sc, .slice a.fp a.fn a.fc, .slice a.pp a.pn a.pc] ∧ IsP W x a := by
  obtain ⟨cs, rfl, hsz⟩ := okWide_struct Tryz.underlying103 hv
  obtain ⟨l⟩ := cs
  obtain ⟨fuel, hf⟩ := h
  obtain ⟨xs, n', hn', _, hlen, hxl, hg⟩ := DataW.trod_struct Tryz.underlying103 hf
  rw [P.cellsP] at hlen
  have hxl3 : xs.length = 3 := hxl
  have hl : l.length = 3 := by simpa [Value.cells] using hlen
  match l, hl with
  | [c0, c1, c2], _ =>
    have h0 := hg 0 _ rfl
    have h1 := hg 1 _ rfl
    have h2 := hg 2 _ rfl
    change DataW.trod enc Tryz.prog W 0 spare true n' 22 (List.take (Tryz.prog.cellsOf 22) [c0, c1, c2]) = _ at h0
    change DataW.trod enc Tryz.prog W 0 spare true n' 43 (List.take (Tryz.prog.cellsOf 43) [c1, c2]) = _ at h1
    change DataW.trod enc Tryz.prog W 0 spare true n' 43 (List.take (Tryz.prog.cellsOf 43) [c2]) = _ at h2
    rw [P.cellsSyL, List.getElem?_eq_getElem (by omega)] at h0
    rw [P.cellsL, List.getElem?_eq_getElem (by omega)] at h1 h2
    obtain ⟨p, m, cp, S, rfl, hS⟩ := isSy_of_trod n' c0 _ h0
    obtain ⟨p1, m1, cp1, F, rfl, hF⟩ := isT_of_trod n' c1 _ h1
    obtain ⟨p2, m2, cp2, Q, rfl, hQ⟩ := isT_of_trod n' c2 _ h2
    exact ⟨⟨S, F, Q⟩, ⟨p, m, cp, p1, m1, cp1, p2, m2, cp2⟩, rfl, hS, hF, hQ⟩
end

end Go.Proofs.YtjkcopgfcafpeaaGreatDoor

/-
  From the rows' readings to the walks: an argument that reads as a scheme is one in memory. Conditions: none.
-/
set_option linter.unusedSimpArgs false
set_option linter.unusedVariables false
namespace Go.Proofs.YtjkcopgfcafpeaaGreatDoor
open Go.ChangeShapes Go.WideShapes Go.ChangeAt Go.RowKit

theorem P.readC : Tryz.prog.readableRec 25 = true := by kernel_rfl
theorem P.cellsC : Tryz.prog.cellsOf 25 = 2 := by kernel_rfl
theorem P.cellsFu : Tryz.prog.cellsOf 52 = 5 := by kernel_rfl
theorem P.cellsFuL : Tryz.prog.cellsOf 23 = 1 := by kernel_rfl

section
variable {H : Type} {enc : TypeId × Value → H} {W : World} {spare : Nat → Bool}

set_option maxRecDepth 100000 in
/-- the five cells of a function -/
theorem cells5 {fuel : Nat} {cs : List Value} {x : DataW H × List MemPlace} (h : DataW.trod enc Tryz.prog W 0 spare true fuel 52 cs = some x) :
    ∃ s p n c k j q m d T X, cs = [.string s, .slice p n c, .int .i64 k, .int .i64 j, .slice q m d] ∧ IsT W T p n c ∧ IsX W X q m d := by
  obtain ⟨xs, n', hn', _, hlen, hxl, hg⟩ := DataW.trod_struct Tryz.underlying52 h
  rw [P.cellsFu] at hlen
  have hxl3 : xs.length = 3 := hxl
  match cs, hlen with
  | [c0, c1, c2, c3, c4], _ =>
    have h0 := hg 0 _ rfl
    have h1 := hg 1 _ rfl
    have h2 := hg 2 _ rfl
    change DataW.trod enc Tryz.prog W 0 spare true n' 9 (List.take (Tryz.prog.cellsOf 9) [c0, c1, c2, c3, c4]) = _ at h0
    change DataW.trod enc Tryz.prog W 0 spare true n' 47 (List.take (Tryz.prog.cellsOf 47) [c1, c2, c3, c4]) = _ at h1
    change DataW.trod enc Tryz.prog W 0 spare true n' 50 (List.take (Tryz.prog.cellsOf 50) [c2, c3, c4]) = _ at h2
    rw [P.cellsStr, List.getElem?_eq_getElem (by omega)] at h0
    rw [P.cellsS, List.getElem?_eq_getElem (by omega)] at h1
    rw [P.cellsX, List.getElem?_eq_getElem (by omega)] at h2
    obtain ⟨s, hs, _⟩ := DataW.trod_string Tryz.underlying9 h0
    simp only [List.take_succ_cons, List.take_zero, List.cons.injEq, and_true] at hs h1 h2
    obtain ⟨k, j, c4', y, f, _, hcs, h4⟩ := cells3 h2
    simp only [List.cons.injEq, and_true] at hcs
    obtain ⟨rfl, rfl, rfl⟩ := hcs
    obtain ⟨q, m, d, X, rfl, hX⟩ := isX_of_trod f _ y h4
    obtain ⟨ys, n2, _, _, _, hyl, hg2⟩ := DataW.trod_struct Tryz.underlying47 h1
    have hyl1 : ys.length = 1 := hyl
    have h5 := hg2 0 _ rfl
    change DataW.trod enc Tryz.prog W 0 spare true n2 43 (List.take (Tryz.prog.cellsOf 43) [c1]) = _ at h5
    rw [P.cellsL, List.getElem?_eq_getElem (by omega)] at h5
    obtain ⟨p, n, c, T, rfl, hT⟩ := isT_of_trod n2 c1 _ (by simpa using h5)
    subst hs
    exact ⟨s, p, n, c, k, j, q, m, d, T, X, rfl, hT, hX⟩

set_option maxRecDepth 100000 in
/-- an argument that reads as a list of functions is one in memory -/
theorem isF_of_trod (fuel : Nat) (c : Value) (x : DataW H × List MemPlace) (h : DataW.trod enc Tryz.prog W 0 spare true fuel 23 [c] = some x) : ∃ p n cap F, c = .slice p n cap ∧ IsF W F p n cap := by
  rcases DataW.trod_slice Tryz.underlying23 h with ⟨hc, _⟩ | ⟨a, len, cap, elems, rest, n, hf, hc, _, _, hl, hm, hel, hat, _⟩
  · simp only [List.cons.injEq, and_true] at hc
    exact ⟨none, 0, 0, ⟨0, fun _ => ByteArray.empty, fun _ => .nil, fun _ => 0, fun _ => 0, fun _ => .nil⟩, hc, rfl, Nat.le_refl _, by simp [maxLen], fun _ => rfl, Or.inl rfl⟩
  · simp only [List.cons.injEq, and_true] at hc
    have step : ∀ i, ∃ sr : ByteArray × T × Int × Int × X, i < len → ∃ (p : Option Addr) (n c : Nat) (q : Option Addr) (m d : Nat),
        W.cell? (a.add (i * 5)) = some (.string sr.1) ∧ W.cell? ((a.add (i * 5)).add 1) = some (.slice p n c) ∧ W.cell? ((a.add (i * 5)).add 2) = some (.int .i64 sr.2.2.1) ∧
        W.cell? ((a.add (i * 5)).add 3) = some (.int .i64 sr.2.2.2.1) ∧ W.cell? ((a.add (i * 5)).add 4) = some (.slice q m d) ∧ IsT W sr.2.1 p n c ∧ IsX W sr.2.2.2.2 q m d := by
      intro i
      by_cases hi : i < len
      · have h1 := hat i hi
        rw [P.cellsFu, List.getElem?_eq_getElem (by omega)] at h1
        obtain ⟨cs, h2, h3⟩ := Option.bind_eq_some_iff.1 h1
        obtain ⟨_, hlen, hcl⟩ := World.cells?_some h2
        obtain ⟨s, p, n, c, k, j, q, m, d, T, X, rfl, hT, hX⟩ := cells5 h3
        refine ⟨(s, T, k, j, X), fun _ => ⟨p, n, c, q, m, d, ?_, ?_, ?_, ?_, ?_, hT, hX⟩⟩
        · have := hcl 0 (by omega); rw [show (a.add (i * 5)).add 0 = a.add (i * 5) from by unfold Addr.add; split <;> simp_all] at this; simpa using this
        · have := hcl 1 (by omega); simpa using this
        · have := hcl 2 (by omega); simpa using this
        · have := hcl 3 (by omega); simpa using this
        · have := hcl 4 (by omega); simpa using this
      · exact ⟨(ByteArray.empty, .nil, 0, 0, .nil), fun h => absurd h hi⟩
    obtain ⟨f, hf2⟩ := Classical.axiomOfChoice step
    refine ⟨some a, len, cap, ⟨len, fun i => (f i).1, fun i => (f i).2.1, fun i => (f i).2.2.1, fun i => (f i).2.2.2.1, fun i => (f i).2.2.2.2⟩, hc, rfl, hl, hm, fun e => by simp at e, ?_⟩
    by_cases h0 : len = 0
    · exact Or.inl h0
    · right
      obtain ⟨b, off, spot⟩ := a
      obtain ⟨_, _, _, _, _, _, hcell, _⟩ := hf2 0 (by omega)
      have hspot : spot = none := by simpa [Addr.add] using World.cell?_spot hcell
      subst hspot
      refine ⟨b, off, rfl, fun i hi => ?_⟩
      obtain ⟨p, n, c, q, m, d, g1, g2, g3, g4, g5, g6, g7⟩ := hf2 i hi
      have e1 : (⟨b, off, none⟩ : Addr).add (i * 5) = ⟨b, off + i * 5, none⟩ := Go.WideShapes.add_plain _ _ _
      have e2 : ∀ j, (⟨b, off + i * 5, none⟩ : Addr).add j = ⟨b, off + i * 5 + j, none⟩ := fun j => Go.WideShapes.add_plain _ _ _
      rw [e1] at g1 g2 g3 g4 g5
      rw [e2] at g2 g3 g4 g5
      exact ⟨p, n, c, q, m, d, g1, g2, g3, g4, g5, g6, g7⟩

set_option maxRecDepth 100000 in
/-- an argument of the type Scheme -/
theorem open_scheme {v : Value} {d : DataW H} {ps : List MemPlace} {base : Nat} (hv : Value.okWide Tryz.prog W .any base 25 v) (h : DataW.Trod enc Tryz.prog W 0 spare true 25 v d ps) :
    ∃ (x : Sc) (a : At2), v = .agg #[.slice a.sp a.sn a.sc, .slice a.fp a.fn a.fc] ∧ IsC W x a := by
  obtain ⟨cs, rfl, hsz⟩ := okWide_struct Tryz.underlying25 hv
  obtain ⟨l⟩ := cs
  obtain ⟨fuel, hf⟩ := h
  obtain ⟨xs, n', hn', _, hlen, hxl, hg⟩ := DataW.trod_struct Tryz.underlying25 hf
  rw [P.cellsC] at hlen
  have hxl2 : xs.length = 2 := hxl
  have hl : l.length = 2 := by simpa [Value.cells] using hlen
  match l, hl with
  | [c0, c1], _ =>
    have h0 := hg 0 _ rfl
    have h1 := hg 1 _ rfl
    change DataW.trod enc Tryz.prog W 0 spare true n' 22 (List.take (Tryz.prog.cellsOf 22) [c0, c1]) = _ at h0
    change DataW.trod enc Tryz.prog W 0 spare true n' 23 (List.take (Tryz.prog.cellsOf 23) [c1]) = _ at h1
    rw [P.cellsSyL, List.getElem?_eq_getElem (by omega)] at h0
    rw [P.cellsFuL, List.getElem?_eq_getElem (by omega)] at h1
    obtain ⟨p, m, cp, S, rfl, hS⟩ := isSy_of_trod n' c0 _ h0
    obtain ⟨p1, m1, cp1, F, rfl, hF⟩ := isF_of_trod n' c1 _ h1
    exact ⟨⟨S, F⟩, ⟨p, m, cp, p1, m1, cp1⟩, rfl, hS, hF⟩
end

end Go.Proofs.YtjkcopgfcafpeaaGreatDoor

