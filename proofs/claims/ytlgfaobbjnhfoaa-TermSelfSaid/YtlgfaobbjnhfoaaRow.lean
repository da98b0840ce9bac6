/-
  From the rows' readings to the walks: an argument that reads as a sort is one in memory; what holds of the result. Conditions: none.
-/
import Derived.Test.YtlgfaobbjnhfoaaRows
import Derived.Test.YtlgfaobbjnhfoaaMem
import Derived.ProofKit
import Derived.ReadAgain
import Derived.ChangeArms
namespace Go.Proofs.Ytlgfaobbjnhfoaa
open Go.ChangeShapes Go.WideShapes Go.ChangeAt Go.RowKit

theorem P.own : ownKnob Try.prog.godebug = none := by kernel_rfl
theorem P.laidOut : laidOutB Try.prog = true := by kernel_rfl
theorem P.readS : Try.prog.readableRec 40 = true := by kernel_rfl
theorem P.cellsS : Try.prog.cellsOf 40 = 1 := by kernel_rfl
theorem P.cellsL : Try.prog.cellsOf 23 = 1 := by kernel_rfl

section
variable {H : Type} {enc : TypeId × Value → H} {W : World} {spare : Nat → Bool}

/-- a row of sorts out of its cells -/
theorem row_of : ∀ (len : Nat) (f : Nat → T → Prop), (∀ i, i < len → ∃ t, f i t) → ∃ t : T, t.len = len ∧ ∀ i, i < len → f i (t.get i) := by
  intro len
  induction len with
  | zero => intro f _; exact ⟨.nil, rfl, fun i h => absurd h (Nat.not_lt_zero _)⟩
  | succ n ih =>
    intro f h
    obtain ⟨h0, hh⟩ := h 0 (Nat.succ_pos _)
    obtain ⟨t, ht, hf⟩ := ih (fun i => f (i + 1)) (fun i hi => h (i + 1) (by omega))
    refine ⟨.cons h0 t, by simp [T.len, ht], fun i hi => ?_⟩
    cases i with
    | zero => exact hh
    | succ i => exact hf i (by omega)

theorem row_mk {t : T} : ∀ {b off : Nat}, (∀ i, i < t.len → ∃ p n cap, W.cell? ⟨b, off + i, none⟩ = some (.slice p n cap) ∧ IsT W (t.get i) p n cap) → Row W t b off := by
  induction t with
  | nil => intros; trivial
  | cons h t ihh iht =>
    intro b off hc
    obtain ⟨p, n, cap, h1, h2, h3, h4, h5, h6⟩ := hc 0 (by simp [T.len])
    simp only [T.get] at h2 h6
    subst h2
    refine ⟨⟨p, cap, h1, h3, h4, h5, h6⟩, iht fun i hi => ?_⟩
    have := hc (i + 1) (by simp only [T.len]; omega)
    rw [show off + 1 + i = off + (i + 1) by omega]
    exact this

set_option maxRecDepth 100000 in
/-- an argument that reads as a list of sorts is one in memory -/
theorem isT_of_trod (fuel : Nat) : ∀ (c : Value) (x : DataW H × List MemPlace), DataW.trod enc Try.prog W 0 spare true fuel 23 [c] = some x → ∃ p n cap t, c = .slice p n cap ∧ IsT W t p n cap := by
  induction fuel using Nat.strongRecOn with
  | _ fuel ih =>
    intro c x h
    rcases DataW.trod_slice Try.underlying23 h with ⟨hc, _⟩ | ⟨a, len, cap, elems, rest, n, hf, hc, _, _, hl, hm, hel, hat, _⟩
    · simp only [List.cons.injEq, and_true] at hc
      exact ⟨none, 0, 0, .nil, hc, rfl, Nat.le_refl _, by simp [maxLen], fun _ => rfl, Or.inl rfl⟩
    · simp only [List.cons.injEq, and_true] at hc
      have step : ∀ i, i < len → ∃ t, ∃ p m k, W.cell? (a.add i) = some (.slice p m k) ∧ IsT W t p m k := by
        intro i hi
        have h1 := hat i hi
        rw [P.cellsS, Nat.mul_one, List.getElem?_eq_getElem (by omega)] at h1
        obtain ⟨cs, h2, h3⟩ := Option.bind_eq_some_iff.1 h1
        obtain ⟨_, hlen, hcl⟩ := World.cells?_some h2
        match cs, hlen, h2, h3 with
        | [v], _, h2, h3 =>
          obtain ⟨xs, n', hn', _, _, _, hg⟩ := DataW.trod_struct Try.underlying40 h3
          have h4 := hg 0 _ rfl
          change DataW.trod enc Try.prog W 0 spare true n' 23 (List.take (Try.prog.cellsOf 23) [v]) = _ at h4
          rw [P.cellsL] at h4
          have hx : ∃ y, xs[0]? = some y := by
            have : xs.length = 1 := by assumption
            exact ⟨_, List.getElem?_eq_getElem (by omega)⟩
          obtain ⟨y, hy⟩ := hx
          rw [hy] at h4
          obtain ⟨p, m, k, t, rfl, ht⟩ := ih n' (by omega) v y (by simpa using h4)
          exact ⟨t, p, m, k, by have := cell_of_cells?_one h2; simpa using this, ht⟩
      obtain ⟨t, ht, hrow⟩ := row_of len _ step
      refine ⟨some a, len, cap, t, hc, ht.symm, hl, hm, fun e => by simp at e, ?_⟩
      by_cases h0 : len = 0
      · exact Or.inl h0
      · right
        obtain ⟨b, off, spot⟩ := a
        obtain ⟨p, m, k, hcell, _⟩ := hrow 0 (by omega)
        have hspot : spot = none := by simpa [Addr.add] using World.cell?_spot hcell
        subst hspot
        refine ⟨b, off, rfl, row_mk fun i hi => ?_⟩
        rw [← Go.WideShapes.add_plain]
        exact hrow i (by omega)

set_option maxRecDepth 100000 in
/-- an argument of the type Sort -/
theorem open_sort {v : Value} {d : DataW H} {ps : List MemPlace} {base : Nat} (hv : Value.okWide Try.prog W .any base 40 v) (h : DataW.Trod enc Try.prog W 0 spare true 40 v d ps) :
    ∃ p n cap t, v = .agg #[.slice p n cap] ∧ IsT W t p n cap := by
  obtain ⟨cs, rfl, hsz⟩ := okWide_struct Try.underlying40 hv
  obtain ⟨l⟩ := cs
  have hl : l.length = 1 := by simpa [P.cellsS] using hsz
  match l, hl with
  | [c], _ =>
    obtain ⟨fuel, hf⟩ := h
    obtain ⟨xs, n', hn', _, _, hxl, hg⟩ := DataW.trod_struct Try.underlying40 hf
    have h4 := hg 0 _ rfl
    change DataW.trod enc Try.prog W 0 spare true n' 23 (List.take (Try.prog.cellsOf 23) [c]) = _ at h4
    rw [P.cellsL] at h4
    have hx : ∃ y, xs[0]? = some y := ⟨_, List.getElem?_eq_getElem (by rw [hxl]; exact Nat.one_pos)⟩
    obtain ⟨y, hy⟩ := hx
    rw [hy] at h4
    obtain ⟨p, m, k, t, rfl, ht⟩ := isT_of_trod n' c y (by simpa [Value.cells] using h4)
    exact ⟨p, m, k, t, rfl, ht⟩

variable {P : Program}
/-- the row's last step, where below the heap's old size nothing has turned -/
theorem post_below {f : Func} {s : ChangeSpec} {apart fresh handsOn again : Bool} {W W' : World} {args : Array Value} {v : Value} {ds gs : List (DataW H)} {before pa pv : List MemPlace}
    (hW : DataW.Whole enc P f.params.toList s.vars apart W args.toList ds gs before)
    (hres : ∀ (b : Nat) (sp : Nat → Bool) (hd : Bool), DataW.TrodAll enc P W' b sp hd f.resultTypes.toList (v.resultList f.resultTypes.size) (s.fn H (ds ++ gs)).results [])
    (hargs : ∀ sp : Nat → Bool, (∀ p ∈ before, sp p.block = true) → DataW.TrodAll enc P W' 0 sp true f.params.toList args.toList (s.fn H (ds ++ gs)).args pa)
    (hvars : ∀ sp : Nat → Bool, (∀ p ∈ before, sp p.block = true) → DataW.TrodVars enc P W' sp s.vars (s.fn H (ds ++ gs)).vars pv)
    (hps : before = pa ++ pv) (hb : Below W.heap.size W W')
    (hok : ∀ (j : Nat) (t : TypeId) (r : Value), f.resultTypes[j]? = some t → (v.resultList f.resultTypes.size)[j]? = some r → Value.okWide P W' .any 0 t r) :
    s.post enc P f apart fresh handsOn again W args v W' := by
  have hlt : ∀ p ∈ before, p.block < W.heap.size := fun p hp => hW.lt p hp
  have hold : ∀ p ∈ before, (fun b => decide (b < W.heap.size)) p.block = true := fun p hp => by simpa using hlt p hp
  refine ⟨ds, gs, before, [], pa, pv, hW, hres _ _ _, hargs _ hold, hvars _ hold, World.keptBut_mono (fun p hp => ⟨hp, ?_⟩) (hb.frame (· ∈ before)), fun _ => ?_⟩
  · rw [hps, List.mem_append] at hp
    exact Or.inr hp
  · obtain ⟨_, _, _, _, _, hz, hn⟩ := hW
    refine ⟨hok, _, _, ([] ++ pa) ++ pv, ⟨[] ++ pa, pv, trodAll_append (hargs _ (fun _ _ => rfl)) (hres _ _ _), hvars _ (fun _ _ => rfl), rfl, ?_, ?_⟩, ?_⟩
    · intro b off hp
      have hin : MemPlace.cell b off ∈ before := by rw [hps]; simpa using hp
      rw [hb.frozen (hlt _ hin)]
      exact hz b off hin
    · intro ha
      have := hn ha
      rw [hps] at this
      simpa using this
    · intro p hp _
      rw [hps]
      simpa using hp
end

end Go.Proofs.Ytlgfaobbjnhfoaa
