/-
  Parts of one proof, laid into one text: Row, TRow. Conditions: each part names its own.
-/
import Derived.Test.YtjkcopgfcafpeaaGreatDoorRows
import Derived.Test.YtjkcopgfcafpeaaGreatDoorMg02
import Derived.ProofKit
import Derived.ReadAgain
import Derived.ChangeArms

/-
  From the rows' readings to the walks: an argument that reads as a sort is one in memory; what holds of the result. Conditions: none.
-/
namespace Go.Proofs.YtjkcopgfcafpeaaGreatDoor
open Go.ChangeShapes Go.WideShapes Go.ChangeAt Go.RowKit

theorem P.own : ownKnob Tryz.prog.godebug = none := by kernel_rfl
theorem P.laidOut : laidOutB Tryz.prog = true := by kernel_rfl
theorem P.readS : Tryz.prog.readableRec 47 = true := by kernel_rfl
theorem P.cellsS : Tryz.prog.cellsOf 47 = 1 := by kernel_rfl
theorem P.cellsL : Tryz.prog.cellsOf 43 = 1 := by kernel_rfl

section
variable {H : Type} {enc : TypeId × Value → H} {W : World} {spare : Nat → Bool}

/-- a row of sorts out of its cells -/
theorem row_of : ∀ (len : Nat) (f : Nat → T → Prop), (∀ i, i < len → ∃ t, f i t) → ∃ t : T, t.len = len ∧ ∀ i, i < len → f i (t.get i) := by
  intro len
  induction len with
  | zero => intro f _; exact ⟨.nil, rfl, fun i h => absurd h (Nat.not_lt_zero _)⟩
  | succ n ih =>
    intro f h
    obtain ⟨h0, hh⟩ := h 0 (Nat.succ_pos _)
    obtain ⟨t, ht, hf⟩ := ih (fun i => f (i + 1)) (fun i hi => h (i + 1) (by omega))
    refine ⟨.cons h0 t, by simp [T.len, ht], fun i hi => ?_⟩
    cases i with
    | zero => exact hh
    | succ i => exact hf i (by omega)

theorem row_mk {t : T} : ∀ {b off : Nat}, (∀ i, i < t.len → ∃ p n cap, W.cell? ⟨b, off + i, none⟩ = some (.slice p n cap) ∧ IsT W (t.get i) p n cap) → Row W t b off := by
  induction t with
  | nil => intros; trivial
  | cons h t ihh iht =>
    intro b off hc
    obtain ⟨p, n, cap, h1, h2, h3, h4, h5, h6⟩ := hc 0 (by simp [T.len])
    simp only [T.get] at h2 h6
    subst h2
    refine ⟨⟨p, cap, h1, h3, h4, h5, h6⟩, iht fun i hi => ?_⟩
    have := hc (i + 1) (by simp only [T.len]; omega)
    rw [show off + 1 + i = off + (i + 1) by omega]
    exact this

set_option maxRecDepth 100000 in
/-- an argument that reads as a list of sorts is one in memory -/
theorem isT_of_trod (fuel : Nat) : ∀ (c : Value) (x : DataW H × List MemPlace), DataW.trod enc Tryz.prog W 0 spare true fuel 43 [c] = some x → ∃ p n cap t, c = .slice p n cap ∧ IsT W t p n cap := by
  induction fuel using Nat.strongRecOn with
  | _ fuel ih =>
    intro c x h
    rcases DataW.trod_slice Tryz.underlying43 h with ⟨hc, _⟩ | ⟨a, len, cap, elems, rest, n, hf, hc, _, _, hl, hm, hel, hat, _⟩
    · simp only [List.cons.injEq, and_true] at hc
      exact ⟨none, 0, 0, .nil, hc, rfl, Nat.le_refl _, by simp [maxLen], fun _ => rfl, Or.inl rfl⟩
    · simp only [List.cons.injEq, and_true] at hc
      have step : ∀ i, i < len → ∃ t, ∃ p m k, W.cell? (a.add i) = some (.slice p m k) ∧ IsT W t p m k := by
        intro i hi
        have h1 := hat i hi
        rw [P.cellsS, Nat.mul_one, List.getElem?_eq_getElem (by omega)] at h1
        obtain ⟨cs, h2, h3⟩ := Option.bind_eq_some_iff.1 h1
        obtain ⟨_, hlen, hcl⟩ := World.cells?_some h2
        match cs, hlen, h2, h3 with
        | [v], _, h2, h3 =>
          obtain ⟨xs, n', hn', _, _, _, hg⟩ := DataW.trod_struct Tryz.underlying47 h3
          have h4 := hg 0 _ rfl
          change DataW.trod enc Tryz.prog W 0 spare true n' 43 (List.take (Tryz.prog.cellsOf 43) [v]) = _ at h4
          rw [P.cellsL] at h4
          have hx : ∃ y, xs[0]? = some y := by
            have : xs.length = 1 := by assumption
            exact ⟨_, List.getElem?_eq_getElem (by omega)⟩
          obtain ⟨y, hy⟩ := hx
          rw [hy] at h4
          obtain ⟨p, m, k, t, rfl, ht⟩ := ih n' (by omega) v y (by simpa using h4)
          exact ⟨t, p, m, k, by have := cell_of_cells?_one h2; simpa using this, ht⟩
      obtain ⟨t, ht, hrow⟩ := row_of len _ step
      refine ⟨some a, len, cap, t, hc, ht.symm, hl, hm, fun e => by simp at e, ?_⟩
      by_cases h0 : len = 0
      · exact Or.inl h0
      · right
        obtain ⟨b, off, spot⟩ := a
        obtain ⟨p, m, k, hcell, _⟩ := hrow 0 (by omega)
        have hspot : spot = none := by simpa [Addr.add] using World.cell?_spot hcell
        subst hspot
        refine ⟨b, off, rfl, row_mk fun i hi => ?_⟩
        rw [← Go.WideShapes.add_plain]
        exact hrow i (by omega)

set_option maxRecDepth 100000 in
/-- an argument of the type Sort -/
theorem open_sort {v : Value} {d : DataW H} {ps : List MemPlace} {base : Nat} (hv : Value.okWide Tryz.prog W .any base 47 v) (h : DataW.Trod enc Tryz.prog W 0 spare true 47 v d ps) :
    ∃ p n cap t, v = .agg #[.slice p n cap] ∧ IsT W t p n cap := by
  obtain ⟨cs, rfl, hsz⟩ := okWide_struct Tryz.underlying47 hv
  obtain ⟨l⟩ := cs
  have hl : l.length = 1 := by simpa [P.cellsS] using hsz
  match l, hl with
  | [c], _ =>
    obtain ⟨fuel, hf⟩ := h
    obtain ⟨xs, n', hn', _, _, hxl, hg⟩ := DataW.trod_struct Tryz.underlying47 hf
    have h4 := hg 0 _ rfl
    change DataW.trod enc Tryz.prog W 0 spare true n' 43 (List.take (Tryz.prog.cellsOf 43) [c]) = _ at h4
    rw [P.cellsL] at h4
    have hx : ∃ y, xs[0]? = some y := ⟨_, List.getElem?_eq_getElem (by rw [hxl]; exact Nat.one_pos)⟩
    obtain ⟨y, hy⟩ := hx
    rw [hy] at h4
    obtain ⟨p, m, k, t, rfl, ht⟩ := isT_of_trod n' c y (by simpa [Value.cells] using h4)
    exact ⟨p, m, k, t, rfl, ht⟩

variable {P : Program}
/-- the row's last step, where below the heap's old size nothing has turned -/
theorem post_below {f : Func} {s : ChangeSpec} {apart fresh handsOn again : Bool} {W W' : World} {args : Array Value} {v : Value} {ds gs : List (DataW H)} {before pa pv : List MemPlace}
    (hW : DataW.Whole enc P f.params.toList s.vars apart W args.toList ds gs before)
    (hres : ∀ (b : Nat) (sp : Nat → Bool) (hd : Bool), DataW.TrodAll enc P W' b sp hd f.resultTypes.toList (v.resultList f.resultTypes.size) (s.fn H (ds ++ gs)).results [])
    (hargs : ∀ sp : Nat → Bool, (∀ p ∈ before, sp p.block = true) → DataW.TrodAll enc P W' 0 sp true f.params.toList args.toList (s.fn H (ds ++ gs)).args pa)
    (hvars : ∀ sp : Nat → Bool, (∀ p ∈ before, sp p.block = true) → DataW.TrodVars enc P W' sp s.vars (s.fn H (ds ++ gs)).vars pv)
    (hps : before = pa ++ pv) (hb : Below W.heap.size W W')
    (hok : ∀ (j : Nat) (t : TypeId) (r : Value), f.resultTypes[j]? = some t → (v.resultList f.resultTypes.size)[j]? = some r → Value.okWide P W' .any 0 t r) :
    s.post enc P f apart fresh handsOn again W args v W' := by
  have hlt : ∀ p ∈ before, p.block < W.heap.size := fun p hp => hW.lt p hp
  have hold : ∀ p ∈ before, (fun b => decide (b < W.heap.size)) p.block = true := fun p hp => by simpa using hlt p hp
  refine ⟨ds, gs, before, [], pa, pv, hW, hres _ _ _, hargs _ hold, hvars _ hold, World.keptBut_mono (fun p hp => ⟨hp, ?_⟩) (hb.frame (· ∈ before)), fun _ => ?_⟩
  · rw [hps, List.mem_append] at hp
    exact Or.inr hp
  · obtain ⟨_, _, _, _, _, hz, hn⟩ := hW
    refine ⟨hok, _, _, ([] ++ pa) ++ pv, ⟨[] ++ pa, pv, trodAll_append (hargs _ (fun _ _ => rfl)) (hres _ _ _), hvars _ (fun _ _ => rfl), rfl, ?_, ?_⟩, ?_⟩
    · intro b off hp
      have hin : MemPlace.cell b off ∈ before := by rw [hps]; simpa using hp
      rw [hb.frozen (hlt _ hin)]
      exact hz b off hin
    · intro ha
      have := hn ha
      rw [hps] at this
      simpa using this
    · intro p hp _
      rw [hps]
      simpa using hp
end

end Go.Proofs.YtjkcopgfcafpeaaGreatDoor

/-
  From the rows' readings to the walks: an argument that reads as a term, or as terms, is one in memory. Conditions: none.
-/
set_option linter.unusedSimpArgs false
set_option linter.unusedVariables false
namespace Go.Proofs.YtjkcopgfcafpeaaGreatDoor
open Go.ChangeShapes Go.WideShapes Go.ChangeAt Go.RowKit

theorem P.readX : Tryz.prog.readableRec 50 = true := by kernel_rfl
theorem P.readXs : Tryz.prog.readableRec 48 = true := by kernel_rfl
theorem P.cellsX : Tryz.prog.cellsOf 50 = 3 := by kernel_rfl
theorem P.cellsXs : Tryz.prog.cellsOf 48 = 1 := by kernel_rfl
theorem P.cellsI : Tryz.prog.cellsOf 3 = 1 := by kernel_rfl

section
variable {H : Type} {enc : TypeId × Value → H} {W : World} {spare : Nat → Bool}

/-- a row of terms out of its cells -/
theorem rowX_of : ∀ (len : Nat) (f : Nat → Int → Int → X → Prop), (∀ i, i < len → ∃ k n a, f i k n a) → ∃ t : X, t.len = len ∧ ∀ i, i < len → f i (t.gk i) (t.gn i) (t.ga i) := by
  intro len
  induction len with
  | zero => intro f _; exact ⟨.nil, rfl, fun i h => absurd h (Nat.not_lt_zero _)⟩
  | succ n ih =>
    intro f h
    obtain ⟨k0, n0, a0, hh⟩ := h 0 (Nat.succ_pos _)
    obtain ⟨t, ht, hf⟩ := ih (fun i => f (i + 1)) (fun i hi => h (i + 1) (by omega))
    refine ⟨.cons k0 n0 a0 t, by simp [X.len, ht], fun i hi => ?_⟩
    cases i with
    | zero => exact hh
    | succ i => exact hf i (by omega)

theorem rowX_mk {t : X} : ∀ {b off : Nat}, (∀ i, i < t.len → W.cell? ⟨b, off + i * 3, none⟩ = some (.int .i64 (t.gk i)) ∧ W.cell? ⟨b, off + i * 3 + 1, none⟩ = some (.int .i64 (t.gn i)) ∧
    ∃ p n cap, W.cell? ⟨b, off + i * 3 + 2, none⟩ = some (.slice p n cap) ∧ IsX W (t.ga i) p n cap) → RowX W t b off := by
  induction t with
  | nil => intros; trivial
  | cons k n a r iha ihr =>
    intro b off hc
    obtain ⟨hk, hn, p, m, cap, h1, h2, h3, h4, h5, h6⟩ := hc 0 (by simp [X.len])
    simp only [X.ga] at h2 h6
    subst h2
    refine ⟨by simpa [X.gk] using hk, by simpa [X.gn] using hn, ⟨p, cap, by simpa using h1, h3, h4, h5, h6⟩, ihr fun i hi => ?_⟩
    have := hc (i + 1) (by simp only [X.len]; omega)
    rw [show off + 3 + i * 3 = off + (i + 1) * 3 by omega]
    exact this

set_option maxRecDepth 100000 in
/-- the three cells of a term -/
theorem cells3 {fuel : Nat} {cs : List Value} {x : DataW H × List MemPlace} (h : DataW.trod enc Tryz.prog W 0 spare true fuel 50 cs = some x) :
    ∃ k n c y f, f < fuel ∧ cs = [.int .i64 k, .int .i64 n, c] ∧ DataW.trod enc Tryz.prog W 0 spare true f 48 [c] = some y := by
  obtain ⟨xs, n', hn', _, hlen, hxl, hg⟩ := DataW.trod_struct Tryz.underlying50 h
  rw [P.cellsX] at hlen
  have hxl3 : xs.length = 3 := hxl
  match cs, hlen with
  | [c0, c1, c2], _ =>
    have h0 := hg 0 _ rfl
    have h1 := hg 1 _ rfl
    have h2 := hg 2 _ rfl
    change DataW.trod enc Tryz.prog W 0 spare true n' 3 (List.take (Tryz.prog.cellsOf 3) [c0, c1, c2]) = _ at h0
    change DataW.trod enc Tryz.prog W 0 spare true n' 3 (List.take (Tryz.prog.cellsOf 3) [c1, c2]) = _ at h1
    change DataW.trod enc Tryz.prog W 0 spare true n' 48 (List.take (Tryz.prog.cellsOf 48) [c2]) = _ at h2
    rw [P.cellsI, List.getElem?_eq_getElem (by omega)] at h0 h1
    rw [P.cellsXs, List.getElem?_eq_getElem (by omega)] at h2
    obtain ⟨k, hk, _⟩ := DataW.trod_int Tryz.underlying3 h0
    obtain ⟨n, hn, _⟩ := DataW.trod_int Tryz.underlying3 h1
    simp only [List.take_succ_cons, List.take_zero, List.cons.injEq, and_true] at hk hn h2
    subst hk hn
    exact ⟨k, n, c2, _, n', by omega, rfl, h2⟩

set_option maxRecDepth 100000 in
/-- an argument that reads as a list of terms is one in memory -/
theorem isX_of_trod (fuel : Nat) : ∀ (c : Value) (x : DataW H × List MemPlace), DataW.trod enc Tryz.prog W 0 spare true fuel 48 [c] = some x → ∃ p n cap t, c = .slice p n cap ∧ IsX W t p n cap := by
  induction fuel using Nat.strongRecOn with
  | _ fuel ih =>
    intro c x h
    rcases DataW.trod_slice Tryz.underlying48 h with ⟨hc, _⟩ | ⟨a, len, cap, elems, rest, n, hf, hc, _, _, hl, hm, hel, hat, _⟩
    · simp only [List.cons.injEq, and_true] at hc
      exact ⟨none, 0, 0, .nil, hc, rfl, Nat.le_refl _, by simp [maxLen], fun _ => rfl, Or.inl rfl⟩
    · simp only [List.cons.injEq, and_true] at hc
      have step : ∀ i, i < len → ∃ k n a', W.cell? (a.add (i * 3)) = some (.int .i64 k) ∧ W.cell? ((a.add (i * 3)).add 1) = some (.int .i64 n) ∧
          ∃ p m c', W.cell? ((a.add (i * 3)).add 2) = some (.slice p m c') ∧ IsX W a' p m c' := by
        intro i hi
        have h1 := hat i hi
        rw [P.cellsX, List.getElem?_eq_getElem (by omega)] at h1
        obtain ⟨cs, h2, h3⟩ := Option.bind_eq_some_iff.1 h1
        obtain ⟨_, hlen, hcl⟩ := World.cells?_some h2
        obtain ⟨k, m, c', y, f, hf2, rfl, h4⟩ := cells3 h3
        obtain ⟨p, l, cp, t, rfl, ht⟩ := ih f (by omega) c' y h4
        refine ⟨k, m, t, ?_, ?_, p, l, cp, ?_, ht⟩
        · have := hcl 0 (by omega); rw [show (a.add (i * 3)).add 0 = a.add (i * 3) from by unfold Addr.add; split <;> simp_all] at this; simpa using this
        · have := hcl 1 (by omega); simpa using this
        · have := hcl 2 (by omega); simpa using this
      obtain ⟨t, ht, hrow⟩ := rowX_of len _ step
      refine ⟨some a, len, cap, t, hc, ht.symm, hl, hm, fun e => by simp at e, ?_⟩
      by_cases h0 : len = 0
      · exact Or.inl h0
      · right
        obtain ⟨b, off, spot⟩ := a
        have hcell := (hrow 0 (by omega)).1
        have hspot : spot = none := by simpa [Addr.add] using World.cell?_spot hcell
        subst hspot
        refine ⟨b, off, rfl, rowX_mk fun i hi => ?_⟩
        have := hrow i (by omega)
        have e1 : (⟨b, off, none⟩ : Addr).add (i * 3) = ⟨b, off + i * 3, none⟩ := Go.WideShapes.add_plain _ _ _
        rw [e1] at this
        have e2 : ∀ j, (⟨b, off + i * 3, none⟩ : Addr).add j = ⟨b, off + i * 3 + j, none⟩ := fun j => Go.WideShapes.add_plain _ _ _
        rw [e2, e2] at this
        exact this

set_option maxRecDepth 100000 in
/-- an argument of the type Term -/
theorem open_term {v : Value} {d : DataW H} {ps : List MemPlace} {base : Nat} (hv : Value.okWide Tryz.prog W .any base 50 v) (h : DataW.Trod enc Tryz.prog W 0 spare true 50 v d ps) :
    ∃ k n p l cap t, v = .agg #[.int .i64 k, .int .i64 n, .slice p l cap] ∧ IsX W t p l cap := by
  obtain ⟨cs, rfl, hsz⟩ := okWide_struct Tryz.underlying50 hv
  obtain ⟨l⟩ := cs
  obtain ⟨fuel, hf⟩ := h
  obtain ⟨k, n, c, y, f, _, hcs, h4⟩ := cells3 (cs := l) (by simpa [Value.cells] using hf)
  subst hcs
  obtain ⟨p, m, cp, t, rfl, ht⟩ := isX_of_trod f c y h4
  exact ⟨k, n, p, m, cp, t, rfl, ht⟩

set_option maxRecDepth 100000 in
/-- an argument of the type []Term -/
theorem open_terms {v : Value} {d : DataW H} {ps : List MemPlace} {base : Nat} (hv : Value.okWide Tryz.prog W .any base 48 v) (h : DataW.Trod enc Tryz.prog W 0 spare true 48 v d ps) :
    ∃ p l cap t, v = .slice p l cap ∧ IsX W t p l cap := by
  obtain ⟨fuel, hf⟩ := h
  obtain ⟨a, l, c, rfl⟩ := okWide_slice Tryz.underlying48 hv
  obtain ⟨p, m, cp, t, he, ht⟩ := isX_of_trod fuel _ _ (by simpa [Value.cells] using hf)
  exact ⟨p, m, cp, t, he, ht⟩
end

end Go.Proofs.YtjkcopgfcafpeaaGreatDoor

