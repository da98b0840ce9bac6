/-
  Parts of one proof, laid into one text: ERow, ERowM. Conditions: each part names its own.
-/
import Derived.Test.YteolfpdkpihnlaaMg06
import Derived.Test.YteolfpdkpihnlaaMg20
import Derived.Test.YteolfpdkpihnlaaMg02

/-
  From the rows' readings to the walks: an argument that reads as a tree, or as numbers, or as symbols, is one in memory. Conditions: none.
-/
set_option linter.unusedSimpArgs false
set_option linter.unusedVariables false
namespace Go.Proofs.Yteolfpdkpihnlaa
open Go.ChangeShapes Go.WideShapes Go.ChangeAt Go.RowKit

theorem PE.own : ownKnob Try.prog.godebug = none := by kernel_rfl
theorem PE.laidOut : laidOutB Try.prog = true := by kernel_rfl
theorem PE.readY : Try.prog.readableRec 25 = true := by kernel_rfl
theorem PE.readYs : Try.prog.readableRec 23 = true := by kernel_rfl
theorem PE.cellsY : Try.prog.cellsOf 25 = 2 := by kernel_rfl
theorem PE.cellsYs : Try.prog.cellsOf 23 = 1 := by kernel_rfl
theorem PE.cellsI : Try.prog.cellsOf 3 = 1 := by kernel_rfl

theorem PE.cellsSy : Try.prog.cellsOf 80 = 2 := by kernel_rfl
theorem PE.cellsSyL : Try.prog.cellsOf 44 = 1 := by kernel_rfl
theorem PE.cellsStr : Try.prog.cellsOf 9 = 1 := by kernel_rfl
theorem PE.readI : Try.prog.readableRec 22 = true := by kernel_rfl
theorem PE.readSyL : Try.prog.readableRec 44 = true := by kernel_rfl
theorem PE.cellsIs : Try.prog.cellsOf 22 = 1 := by kernel_rfl

section
variable {H : Type} {enc : TypeId × Value → H} {W : World} {spare : Nat → Bool}

/-- a row of terms out of its cells -/
theorem rowY_of : ∀ (len : Nat) (f : Nat → Int → Y → Prop), (∀ i, i < len → ∃ n a, f i n a) → ∃ t : Y, t.len = len ∧ ∀ i, i < len → f i (t.gn i) (t.ga i) := by
  intro len
  induction len with
  | zero => intro f _; exact ⟨.nil, rfl, fun i h => absurd h (Nat.not_lt_zero _)⟩
  | succ n ih =>
    intro f h
    obtain ⟨n0, a0, hh⟩ := h 0 (Nat.succ_pos _)
    obtain ⟨t, ht, hf⟩ := ih (fun i => f (i + 1)) (fun i hi => h (i + 1) (by omega))
    refine ⟨.cons n0 a0 t, by simp [Y.len, ht], fun i hi => ?_⟩
    cases i with
    | zero => exact hh
    | succ i => exact hf i (by omega)

theorem rowY_mk {t : Y} : ∀ {b off : Nat}, (∀ i, i < t.len → W.cell? ⟨b, off + i * 2, none⟩ = some (.int .i64 (t.gn i)) ∧
    ∃ p n cap, W.cell? ⟨b, off + i * 2 + 1, none⟩ = some (.slice p n cap) ∧ IsY W (t.ga i) p n cap) → RowY W t b off := by
  induction t with
  | nil => intros; trivial
  | cons n a r iha ihr =>
    intro b off hc
    obtain ⟨hn, p, m, cap, h1, h2, h3, h4, h5, h6⟩ := hc 0 (by simp [Y.len])
    simp only [Y.ga] at h2 h6
    subst h2
    refine ⟨by simpa [Y.gn] using hn, ⟨p, cap, by simpa using h1, h3, h4, h5, h6⟩, ihr fun i hi => ?_⟩
    have := hc (i + 1) (by simp only [Y.len]; omega)
    rw [show off + 2 + i * 2 = off + (i + 1) * 2 by omega]
    exact this

set_option maxRecDepth 100000 in
/-- the two cells of a tree -/
theorem cellsY2 {fuel : Nat} {cs : List Value} {x : DataW H × List MemPlace} (h : DataW.trod enc Try.prog W 0 spare true fuel 25 cs = some x) :
    ∃ n c y f, f < fuel ∧ cs = [.int .i64 n, c] ∧ DataW.trod enc Try.prog W 0 spare true f 23 [c] = some y := by
  obtain ⟨xs, n', hn', _, hlen, hxl, hg⟩ := DataW.trod_struct Try.underlying25 h
  rw [PE.cellsY] at hlen
  have hxl3 : xs.length = 2 := hxl
  match cs, hlen with
  | [c0, c1], _ =>
    have h0 := hg 0 _ rfl
    have h1 := hg 1 _ rfl
    change DataW.trod enc Try.prog W 0 spare true n' 3 (List.take (Try.prog.cellsOf 3) [c0, c1]) = _ at h0
    change DataW.trod enc Try.prog W 0 spare true n' 23 (List.take (Try.prog.cellsOf 23) [c1]) = _ at h1
    rw [PE.cellsI, List.getElem?_eq_getElem (by omega)] at h0
    rw [PE.cellsYs, List.getElem?_eq_getElem (by omega)] at h1
    obtain ⟨n, hn, _⟩ := DataW.trod_int Try.underlying3 h0
    simp only [List.take_succ_cons, List.take_zero, List.cons.injEq, and_true] at hn h1
    subst hn
    exact ⟨n, c1, _, n', by omega, rfl, h1⟩

set_option maxRecDepth 100000 in
/-- an argument that reads as a list of terms is one in memory -/
theorem isY_of_trod (fuel : Nat) : ∀ (c : Value) (x : DataW H × List MemPlace), DataW.trod enc Try.prog W 0 spare true fuel 23 [c] = some x → ∃ p n cap t, c = .slice p n cap ∧ IsY W t p n cap := by
  induction fuel using Nat.strongRecOn with
  | _ fuel ih =>
    intro c x h
    rcases DataW.trod_slice Try.underlying23 h with ⟨hc, _⟩ | ⟨a, len, cap, elems, rest, n, hf, hc, _, _, hl, hm, hel, hat, _⟩
    · simp only [List.cons.injEq, and_true] at hc
      exact ⟨none, 0, 0, .nil, hc, rfl, Nat.le_refl _, by simp [maxLen], fun _ => rfl, Or.inl rfl⟩
    · simp only [List.cons.injEq, and_true] at hc
      have step : ∀ i, i < len → ∃ n a', W.cell? (a.add (i * 2)) = some (.int .i64 n) ∧
          ∃ p m c', W.cell? ((a.add (i * 2)).add 1) = some (.slice p m c') ∧ IsY W a' p m c' := by
        intro i hi
        have h1 := hat i hi
        rw [PE.cellsY, List.getElem?_eq_getElem (by omega)] at h1
        obtain ⟨cs, h2, h3⟩ := Option.bind_eq_some_iff.1 h1
        obtain ⟨_, hlen, hcl⟩ := World.cells?_some h2
        obtain ⟨m, c', y, f, hf2, rfl, h4⟩ := cellsY2 h3
        obtain ⟨p, l, cp, t, rfl, ht⟩ := ih f (by omega) c' y h4
        refine ⟨m, t, ?_, p, l, cp, ?_, ht⟩
        · have := hcl 0 (by omega); rw [show (a.add (i * 2)).add 0 = a.add (i * 2) from by unfold Addr.add; split <;> simp_all] at this; simpa using this
        · have := hcl 1 (by omega); simpa using this
      obtain ⟨t, ht, hrow⟩ := rowY_of len _ step
      refine ⟨some a, len, cap, t, hc, ht.symm, hl, hm, fun e => by simp at e, ?_⟩
      by_cases h0 : len = 0
      · exact Or.inl h0
      · right
        obtain ⟨b, off, spot⟩ := a
        have hcell := (hrow 0 (by omega)).1
        have hspot : spot = none := by simpa [Addr.add] using World.cell?_spot hcell
        subst hspot
        refine ⟨b, off, rfl, rowY_mk fun i hi => ?_⟩
        have := hrow i (by omega)
        have e1 : (⟨b, off, none⟩ : Addr).add (i * 2) = ⟨b, off + i * 2, none⟩ := Go.WideShapes.add_plain _ _ _
        rw [e1] at this
        have e2 : ∀ j, (⟨b, off + i * 2, none⟩ : Addr).add j = ⟨b, off + i * 2 + j, none⟩ := fun j => Go.WideShapes.add_plain _ _ _
        rw [e2] at this
        exact this

set_option maxRecDepth 100000 in
/-- an argument of the type Tree -/
theorem open_tree {v : Value} {d : DataW H} {ps : List MemPlace} {base : Nat} (hv : Value.okWide Try.prog W .any base 25 v) (h : DataW.Trod enc Try.prog W 0 spare true 25 v d ps) :
    ∃ n p l cap t, v = .agg #[.int .i64 n, .slice p l cap] ∧ IsY W t p l cap := by
  obtain ⟨cs, rfl, hsz⟩ := okWide_struct Try.underlying25 hv
  obtain ⟨l⟩ := cs
  obtain ⟨fuel, hf⟩ := h
  obtain ⟨n, c, y, f, _, hcs, h4⟩ := cellsY2 (cs := l) (by simpa [Value.cells] using hf)
  subst hcs
  obtain ⟨p, m, cp, t, rfl, ht⟩ := isY_of_trod f c y h4
  exact ⟨n, p, m, cp, t, rfl, ht⟩

set_option maxRecDepth 100000 in
/-- an argument of the type []Tree -/
theorem open_trees {v : Value} {d : DataW H} {ps : List MemPlace} {base : Nat} (hv : Value.okWide Try.prog W .any base 23 v) (h : DataW.Trod enc Try.prog W 0 spare true 23 v d ps) :
    ∃ p l cap t, v = .slice p l cap ∧ IsY W t p l cap := by
  obtain ⟨fuel, hf⟩ := h
  obtain ⟨a, l, c, rfl⟩ := okWide_slice Try.underlying23 hv
  obtain ⟨p, m, cp, t, he, ht⟩ := isY_of_trod fuel _ _ (by simpa [Value.cells] using hf)
  exact ⟨p, m, cp, t, he, ht⟩
set_option maxRecDepth 100000 in
/-- the two cells of a symbol -/
theorem cellsSy2 {fuel : Nat} {cs : List Value} {x : DataW H × List MemPlace} (h : DataW.trod enc Try.prog W 0 spare true fuel 80 cs = some x) : ∃ s r, cs = [.string s, .int .i64 r] := by
  obtain ⟨xs, n', hn', _, hlen, hxl, hg⟩ := DataW.trod_struct Try.underlying80 h
  rw [PE.cellsSy] at hlen
  have hxl2 : xs.length = 2 := hxl
  match cs, hlen with
  | [c0, c1], _ =>
    have h0 := hg 0 _ rfl
    have h1 := hg 1 _ rfl
    change DataW.trod enc Try.prog W 0 spare true n' 9 (List.take (Try.prog.cellsOf 9) [c0, c1]) = _ at h0
    change DataW.trod enc Try.prog W 0 spare true n' 3 (List.take (Try.prog.cellsOf 3) [c1]) = _ at h1
    rw [PE.cellsStr, List.getElem?_eq_getElem (by omega)] at h0
    rw [PE.cellsI, List.getElem?_eq_getElem (by omega)] at h1
    obtain ⟨s, hs, _⟩ := DataW.trod_string Try.underlying9 h0
    obtain ⟨r, hr, _⟩ := DataW.trod_int Try.underlying3 h1
    simp only [List.take_succ_cons, List.take_zero, List.cons.injEq, and_true] at hs hr
    subst hs hr
    exact ⟨s, r, rfl⟩

set_option maxRecDepth 100000 in
/-- an argument that reads as a list of symbols is one in memory -/
theorem isSyE_of_trod (fuel : Nat) (c : Value) (x : DataW H × List MemPlace) (h : DataW.trod enc Try.prog W 0 spare true fuel 44 [c] = some x) : ∃ p n cap S, c = .slice p n cap ∧ IsS W S p n cap := by
  rcases DataW.trod_slice Try.underlying44 h with ⟨hc, _⟩ | ⟨a, len, cap, elems, rest, n, hf, hc, _, _, hl, hm, hel, hat, _⟩
  · simp only [List.cons.injEq, and_true] at hc
    exact ⟨none, 0, 0, ⟨0, fun _ => ByteArray.empty, fun _ => 0⟩, hc, rfl, Nat.le_refl _, by simp [maxLen], fun _ => rfl, Or.inl rfl⟩
  · simp only [List.cons.injEq, and_true] at hc
    have step : ∀ i, ∃ sr : ByteArray × Int, i < len → W.cell? (a.add (i * 2)) = some (.string sr.1) ∧ W.cell? ((a.add (i * 2)).add 1) = some (.int .i64 sr.2) := by
      intro i
      by_cases hi : i < len
      · have h1 := hat i hi
        rw [PE.cellsSy, List.getElem?_eq_getElem (by omega)] at h1
        obtain ⟨cs, h2, h3⟩ := Option.bind_eq_some_iff.1 h1
        obtain ⟨_, hlen, hcl⟩ := World.cells?_some h2
        obtain ⟨s, r, rfl⟩ := cellsSy2 h3
        refine ⟨(s, r), fun _ => ⟨?_, ?_⟩⟩
        · have := hcl 0 (by omega); rw [show (a.add (i * 2)).add 0 = a.add (i * 2) from by unfold Addr.add; split <;> simp_all] at this; simpa using this
        · have := hcl 1 (by omega); simpa using this
      · exact ⟨(ByteArray.empty, 0), fun h => absurd h hi⟩
    obtain ⟨f, hf2⟩ := Classical.axiomOfChoice step
    refine ⟨some a, len, cap, ⟨len, fun i => (f i).1, fun i => (f i).2⟩, hc, rfl, hl, hm, fun e => by simp at e, ?_⟩
    by_cases h0 : len = 0
    · exact Or.inl h0
    · right
      obtain ⟨b, off, spot⟩ := a
      have hcell := (hf2 0 (by omega)).1
      have hspot : spot = none := by simpa [Addr.add] using World.cell?_spot hcell
      subst hspot
      refine ⟨b, off, rfl, fun i hi => ?_⟩
      have := hf2 i hi
      have e1 : (⟨b, off, none⟩ : Addr).add (i * 2) = ⟨b, off + i * 2, none⟩ := Go.WideShapes.add_plain _ _ _
      rw [e1] at this
      have e2 : (⟨b, off + i * 2, none⟩ : Addr).add 1 = ⟨b, off + i * 2 + 1, none⟩ := Go.WideShapes.add_plain _ _ _
      rw [e2] at this
      exact this

set_option maxRecDepth 100000 in
/-- an argument that reads as a list of numbers is one in memory -/
theorem isL_of_trod (fuel : Nat) (c : Value) (x : DataW H × List MemPlace) (h : DataW.trod enc Try.prog W 0 spare true fuel 22 [c] = some x) : ∃ p n cap L, c = .slice p n cap ∧ IsL W L p n cap := by
  rcases DataW.trod_slice Try.underlying22 h with ⟨hc, _⟩ | ⟨a, len, cap, elems, rest, n, hf, hc, _, _, hl, hm, hel, hat, _⟩
  · simp only [List.cons.injEq, and_true] at hc
    exact ⟨none, 0, 0, [], hc, rfl, Nat.le_refl _, by simp [maxLen], fun _ => rfl, Or.inl rfl⟩
  · simp only [List.cons.injEq, and_true] at hc
    have step : ∀ i, ∃ r : Int, i < len → W.cell? (a.add i) = some (.int .i64 r) := by
      intro i
      by_cases hi : i < len
      · have h1 := hat i hi
        rw [PE.cellsI, List.getElem?_eq_getElem (by omega)] at h1
        obtain ⟨cs, h2, h3⟩ := Option.bind_eq_some_iff.1 h1
        obtain ⟨_, hlen, hcl⟩ := World.cells?_some h2
        obtain ⟨m, hm', _⟩ := DataW.trod_int Try.underlying3 h3
        subst hm'
        refine ⟨m, fun _ => ?_⟩
        have := hcl 0 (by omega)
        rw [Nat.mul_one, show (a.add i).add 0 = a.add i from by unfold Addr.add; split <;> simp_all] at this
        simpa using this
      · exact ⟨0, fun h => absurd h hi⟩
    obtain ⟨f, hf2⟩ := Classical.axiomOfChoice step
    refine ⟨some a, len, cap, (List.range len).map f, hc, by simp, hl, hm, fun e => by simp at e, ?_⟩
    by_cases h0 : len = 0
    · exact Or.inl h0
    · right
      obtain ⟨b, off, spot⟩ := a
      have hcell := hf2 0 (by omega)
      have hspot : spot = none := by simpa [Addr.add] using World.cell?_spot hcell
      subst hspot
      refine ⟨b, off, rfl, fun i hi => ?_⟩
      have hi' : i < len := by simpa using hi
      have := hf2 i hi'
      have e1 : (⟨b, off, none⟩ : Addr).add i = ⟨b, off + i, none⟩ := Go.WideShapes.add_plain _ _ _
      rw [e1] at this
      rw [this]
      simp [hi']

set_option maxRecDepth 100000 in
/-- an argument of the type []int -/
theorem open_ints {v : Value} {d : DataW H} {ps : List MemPlace} {base : Nat} (hv : Value.okWide Try.prog W .any base 22 v) (h : DataW.Trod enc Try.prog W 0 spare true 22 v d ps) :
    ∃ p l cap L, v = .slice p l cap ∧ IsL W L p l cap := by
  obtain ⟨fuel, hf⟩ := h
  obtain ⟨a, l, c, rfl⟩ := okWide_slice Try.underlying22 hv
  exact isL_of_trod fuel _ _ (by simpa [Value.cells] using hf)

set_option maxRecDepth 100000 in
/-- an argument of the type []Symbol -/
theorem open_syms {v : Value} {d : DataW H} {ps : List MemPlace} {base : Nat} (hv : Value.okWide Try.prog W .any base 44 v) (h : DataW.Trod enc Try.prog W 0 spare true 44 v d ps) :
    ∃ p l cap S, v = .slice p l cap ∧ IsS W S p l cap := by
  obtain ⟨fuel, hf⟩ := h
  obtain ⟨a, l, c, rfl⟩ := okWide_slice Try.underlying44 hv
  exact isSyE_of_trod fuel _ _ (by simpa [Value.cells] using hf)
end

end Go.Proofs.Yteolfpdkpihnlaa

/-
  Four arguments, five arguments: apart and together. Conditions: none.
-/
set_option linter.unusedVariables false
namespace Go.Proofs.Yteolfpdkpihnlaa
open Go.ChangeShapes Go.WideShapes

section
variable {H : Type} {enc : TypeId × Value → H} {P : Program} {w : World} {base : Nat} {spare : Nat → Bool} {held : Bool}

theorem trodAll_four {t0 t1 t2 t3 : TypeId} {args : Array Value} {ds : List (DataW H)} {ps : List MemPlace} (h : DataW.TrodAll enc P w base spare held [t0, t1, t2, t3] args.toList ds ps) :
    ∃ v0 v1 v2 v3 d0 d1 d2 d3 p0 p1 p2 p3, args = #[v0, v1, v2, v3] ∧ ds = [d0, d1, d2, d3] ∧ ps = p0 ++ p1 ++ p2 ++ p3 ∧ DataW.Trod enc P w base spare held t0 v0 d0 p0 ∧ DataW.Trod enc P w base spare held t1 v1 d1 p1 ∧ DataW.Trod enc P w base spare held t2 v2 d2 p2 ∧ DataW.Trod enc P w base spare held t3 v3 d3 p3 := by
  obtain ⟨v, vs, d, ds', p, q, hargs, rfl, rfl, hd, hrest⟩ := trodAll_cons h
  obtain ⟨v', vs', d', ds'', p', q', rfl, rfl, rfl, hd', hrest'⟩ := trodAll_cons hrest
  obtain ⟨v2, vs2, d2, ds2, p2, q2, rfl, rfl, rfl, hd2, hrest2⟩ := trodAll_cons hrest'
  obtain ⟨v3, vs3, d3, ds3, p3, q3, rfl, rfl, rfl, hd3, hrest3⟩ := trodAll_cons hrest2
  obtain ⟨rfl, rfl, rfl⟩ := trodAll_nil hrest3
  exact ⟨v, v', v2, v3, d, d', d2, d3, p, p', p2, p3, by cases args; simp_all, rfl, by simp, hd, hd', hd2, hd3⟩

theorem trodAll_five {t0 t1 t2 t3 t4 : TypeId} {args : Array Value} {ds : List (DataW H)} {ps : List MemPlace} (h : DataW.TrodAll enc P w base spare held [t0, t1, t2, t3, t4] args.toList ds ps) :
    ∃ v0 v1 v2 v3 v4 d0 d1 d2 d3 d4 p0 p1 p2 p3 p4, args = #[v0, v1, v2, v3, v4] ∧ ds = [d0, d1, d2, d3, d4] ∧ ps = p0 ++ p1 ++ p2 ++ p3 ++ p4 ∧ DataW.Trod enc P w base spare held t0 v0 d0 p0 ∧ DataW.Trod enc P w base spare held t1 v1 d1 p1 ∧ DataW.Trod enc P w base spare held t2 v2 d2 p2 ∧ DataW.Trod enc P w base spare held t3 v3 d3 p3 ∧ DataW.Trod enc P w base spare held t4 v4 d4 p4 := by
  obtain ⟨v, vs, d, ds', p, q, hargs, rfl, rfl, hd, hrest⟩ := trodAll_cons h
  obtain ⟨v', vs', d', ds'', p', q', rfl, rfl, rfl, hd', hrest'⟩ := trodAll_cons hrest
  obtain ⟨v2, vs2, d2, ds2, p2, q2, rfl, rfl, rfl, hd2, hrest2⟩ := trodAll_cons hrest'
  obtain ⟨v3, vs3, d3, ds3, p3, q3, rfl, rfl, rfl, hd3, hrest3⟩ := trodAll_cons hrest2
  obtain ⟨v4, vs4, d4, ds4, p4, q4, rfl, rfl, rfl, hd4, hrest4⟩ := trodAll_cons hrest3
  obtain ⟨rfl, rfl, rfl⟩ := trodAll_nil hrest4
  exact ⟨v, v', v2, v3, v4, d, d', d2, d3, d4, p, p', p2, p3, p4, by cases args; simp_all, rfl, by simp, hd, hd', hd2, hd3, hd4⟩

theorem trodAll_mk4 {t0 t1 t2 t3 : TypeId} {v0 v1 v2 v3 : Value} {d0 d1 d2 d3 : DataW H} {p0 p1 p2 p3 : List MemPlace} (h0 : DataW.Trod enc P w base spare held t0 v0 d0 p0) (h1 : DataW.Trod enc P w base spare held t1 v1 d1 p1) (h2 : DataW.Trod enc P w base spare held t2 v2 d2 p2) (h3 : DataW.Trod enc P w base spare held t3 v3 d3 p3) :
    DataW.TrodAll enc P w base spare held [t0, t1, t2, t3] [v0, v1, v2, v3] [d0, d1, d2, d3] (p0 ++ (p1 ++ (p2 ++ p3))) := ⟨p0, _, h0, trodAll_mk3 h1 h2 h3, rfl⟩

theorem trodAll_mk5 {t0 t1 t2 t3 t4 : TypeId} {v0 v1 v2 v3 v4 : Value} {d0 d1 d2 d3 d4 : DataW H} {p0 p1 p2 p3 p4 : List MemPlace} (h0 : DataW.Trod enc P w base spare held t0 v0 d0 p0) (h1 : DataW.Trod enc P w base spare held t1 v1 d1 p1) (h2 : DataW.Trod enc P w base spare held t2 v2 d2 p2) (h3 : DataW.Trod enc P w base spare held t3 v3 d3 p3) (h4 : DataW.Trod enc P w base spare held t4 v4 d4 p4) :
    DataW.TrodAll enc P w base spare held [t0, t1, t2, t3, t4] [v0, v1, v2, v3, v4] [d0, d1, d2, d3, d4] (p0 ++ (p1 ++ (p2 ++ (p3 ++ p4)))) := ⟨p0, _, h0, trodAll_mk4 h1 h2 h3 h4, rfl⟩
end

end Go.Proofs.Yteolfpdkpihnlaa

