/-
  Parts of one proof, laid into one text: Row. Conditions: each part names its own.
-/
import Derived.Test.YteolfpdkpihnlaaRows
import Derived.Test.YteolfpdkpihnlaaMg02
import Derived.ProofKit
import Derived.ReadAgain
import Derived.ChangeArms

/-
  From the rows' readings to the walks: an argument that reads as a sort is one in memory; what holds of the result. Conditions: none.
-/
namespace Go.Proofs.Yteolfpdkpihnlaa
open Go.ChangeShapes Go.WideShapes Go.ChangeAt Go.RowKit

section
variable {H : Type} {enc : TypeId × Value → H} {W : World} {spare : Nat → Bool}

/-- a row of sorts out of its cells -/
theorem row_of : ∀ (len : Nat) (f : Nat → T → Prop), (∀ i, i < len → ∃ t, f i t) → ∃ t : T, t.len = len ∧ ∀ i, i < len → f i (t.get i) := by
  intro len
  induction len with
  | zero => intro f _; exact ⟨.nil, rfl, fun i h => absurd h (Nat.not_lt_zero _)⟩
  | succ n ih =>
    intro f h
    obtain ⟨h0, hh⟩ := h 0 (Nat.succ_pos _)
    obtain ⟨t, ht, hf⟩ := ih (fun i => f (i + 1)) (fun i hi => h (i + 1) (by omega))
    refine ⟨.cons h0 t, by simp [T.len, ht], fun i hi => ?_⟩
    cases i with
    | zero => exact hh
    | succ i => exact hf i (by omega)

theorem row_mk {t : T} : ∀ {b off : Nat}, (∀ i, i < t.len → ∃ p n cap, W.cell? ⟨b, off + i, none⟩ = some (.slice p n cap) ∧ IsT W (t.get i) p n cap) → Row W t b off := by
  induction t with
  | nil => intros; trivial
  | cons h t ihh iht =>
    intro b off hc
    obtain ⟨p, n, cap, h1, h2, h3, h4, h5, h6⟩ := hc 0 (by simp [T.len])
    simp only [T.get] at h2 h6
    subst h2
    refine ⟨⟨p, cap, h1, h3, h4, h5, h6⟩, iht fun i hi => ?_⟩
    have := hc (i + 1) (by simp only [T.len]; omega)
    rw [show off + 1 + i = off + (i + 1) by omega]
    exact this

variable {P : Program}
/-- the row's last step, where below the heap's old size nothing has turned -/
theorem post_below {f : Func} {s : ChangeSpec} {apart fresh handsOn again : Bool} {W W' : World} {args : Array Value} {v : Value} {ds gs : List (DataW H)} {before pa pv : List MemPlace}
    (hW : DataW.Whole enc P f.params.toList s.vars apart W args.toList ds gs before)
    (hres : ∀ (b : Nat) (sp : Nat → Bool) (hd : Bool), DataW.TrodAll enc P W' b sp hd f.resultTypes.toList (v.resultList f.resultTypes.size) (s.fn H (ds ++ gs)).results [])
    (hargs : ∀ sp : Nat → Bool, (∀ p ∈ before, sp p.block = true) → DataW.TrodAll enc P W' 0 sp true f.params.toList args.toList (s.fn H (ds ++ gs)).args pa)
    (hvars : ∀ sp : Nat → Bool, (∀ p ∈ before, sp p.block = true) → DataW.TrodVars enc P W' sp s.vars (s.fn H (ds ++ gs)).vars pv)
    (hps : before = pa ++ pv) (hb : Below W.heap.size W W')
    (hok : ∀ (j : Nat) (t : TypeId) (r : Value), f.resultTypes[j]? = some t → (v.resultList f.resultTypes.size)[j]? = some r → Value.okWide P W' .any 0 t r) :
    s.post enc P f apart fresh handsOn again W args v W' := by
  have hlt : ∀ p ∈ before, p.block < W.heap.size := fun p hp => hW.lt p hp
  have hold : ∀ p ∈ before, (fun b => decide (b < W.heap.size)) p.block = true := fun p hp => by simpa using hlt p hp
  refine ⟨ds, gs, before, [], pa, pv, hW, hres _ _ _, hargs _ hold, hvars _ hold, World.keptBut_mono (fun p hp => ⟨hp, ?_⟩) (hb.frame (· ∈ before)), fun _ => ?_⟩
  · rw [hps, List.mem_append] at hp
    exact Or.inr hp
  · obtain ⟨_, _, _, _, _, hz, hn⟩ := hW
    refine ⟨hok, _, _, ([] ++ pa) ++ pv, ⟨[] ++ pa, pv, trodAll_append (hargs _ (fun _ _ => rfl)) (hres _ _ _), hvars _ (fun _ _ => rfl), rfl, ?_, ?_⟩, ?_⟩
    · intro b off hp
      have hin : MemPlace.cell b off ∈ before := by rw [hps]; simpa using hp
      rw [hb.frozen (hlt _ hin)]
      exact hz b off hin
    · intro ha
      have := hn ha
      rw [hps] at this
      simpa using this
    · intro p hp _
      rw [hps]
      simpa using hp
end

end Go.Proofs.Yteolfpdkpihnlaa

