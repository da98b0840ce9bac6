/-
  The walk of all, for whatever function is handed to it; counting nodes. Conditions: none but that the term lies in memory.
-/
import Derived.Test.YtlgfaobbjnhfoaaTWalkA
set_option linter.unusedSimpArgs false
set_option linter.unusedVariables false
namespace Go.Proofs.Ytlgfaobbjnhfoaa
open Go.RowKit

/-- each term of a list has a property -/
def X.AllX (G : Int → Int → X → Prop) : X → Prop
  | .nil => True
  | .cons k n a r => G k n a ∧ X.AllX G a ∧ X.AllX G r

theorem X.AllX.at {G : Int → Int → X → Prop} {t : X} : ∀ {i : Nat}, X.AllX G t → i < t.len → G (t.gk i) (t.gn i) (t.ga i) ∧ X.AllX G (t.ga i) := by
  induction t with
  | nil => intro _ _ h; exact absurd h (Nat.not_lt_zero _)
  | cons k n a r iha ihr =>
    intro i h hi
    cases i with
    | zero => exact ⟨h.1, h.2.1⟩
    | succ i => exact ihr h.2.2 (by simp only [X.len] at hi; omega)

theorem X.AllX.triv {G : Int → Int → X → Prop} (h : ∀ k n a, G k n a) (t : X) : X.AllX G t := by
  induction t with
  | nil => trivial
  | cons k n a r iha ihr => exact ⟨h _ _ _, iha, ihr⟩

theorem walk_live {σ : Type} {f : σ → Int → Int → X → σ × Bool} {L : σ → Prop} (hl : ∀ s k n a, L s → (f s k n a).2 = true → L (f s k n a).1) (t : X) :
    ∀ s, L s → (X.walk f s t).2 = true → L (X.walk f s t).1 := by
  induction t with
  | nil => intro s h _; exact h
  | cons k n a r iha ihr =>
    intro s h hw
    simp only [X.walk] at hw ⊢
    split at hw
    · rename_i h1
      rw [if_pos h1]
      split at hw
      · rename_i h2
        rw [if_pos h2]
        exact ihr _ (iha _ (hl _ _ _ _ h h1) h2) hw
      · exact absurd hw (by simp)
    · exact absurd hw (by simp)

theorem walk1_live {σ : Type} {f : σ → Int → Int → X → σ × Bool} {L : σ → Prop} (hl : ∀ s k n a, L s → (f s k n a).2 = true → L (f s k n a).1) (s : σ) (k n : Int) (a : X) (h : L s) (hw : (X.walk1 f s k n a).2 = true) : L (X.walk1 f s k n a).1 := by
  rw [← X.walk_one] at hw ⊢
  exact walk_live hl _ s h hw

/-- what a function that is handed to all must be: f is what it does, of a state s; I says how the state lies in memory, L of which states it is asked, R what it may turn -/
structure Fits {σ : Type} (run : Value → World → (Ending → World → Prop) → Prop) (f : σ → Int → Int → X → σ × Bool) (L : σ → Prop) (I : σ → World → Prop) (R : World → World → Prop) (G : Int → Int → X → Prop) : Prop where
  run : ∀ s k n a w p l cap, L s → I s w → G k n a → IsX w a p l cap →
    run (.agg #[.int .i64 k, .int .i64 n, .slice p l cap]) w fun e w' => e = .returned (.bool (f s k n a).2) ∧ I (f s k n a).1 w' ∧ R w w'
  live : ∀ s k n a, L s → (f s k n a).2 = true → L (f s k n a).1
  trans : ∀ a b c, R a b → R b c → R a c
  alloc : ∀ s w o, I s w → I s (w.alloc o) ∧ R w (w.alloc o)
  keeps : ∀ s w w', I s w → R w w' → Keeps3 w w'

set_option maxHeartbeats 1000000 in
theorem all_count1 {σ : Type} {c0 : Nat} {f : σ → Int → Int → X → σ × Bool} {L : σ → Prop} {I : σ → World → Prop} {R : World → World → Prop} {G : Int → Int → X → Prop}
    (hf : Fits (fun v w Q => Calls Try.prog 74 #[v, .pointer (some ⟨c0, 0, none⟩)] w Q) f L I R G) (N : Nat) :
    ∀ (a : X) (s : σ) (k n : Int) (w : World) (p : Option Addr) (l cap : Nat), a.sz < N → L s → I s w → G k n a → X.AllX G a → IsX w a p l cap →
    Calls Try.prog 52 #[.agg #[.int .i64 k, .int .i64 n, .slice p l cap], .func (Fn.func 74) #[] #[.pointer (some ⟨c0, 0, none⟩)]] w fun e w' =>
      e = .returned (.bool (X.walk1 f s k n a).2) ∧ I (X.walk1 f s k n a).1 w' ∧ R w w' := by
  induction N with
  | zero => intro a s k n w p l cap hN; omega
  | succ N ih =>
    intro a s k n w p l cap hN hL hI hG hA his
    have hlen := a.len_le_sz
    obtain ⟨hn, hcap, hmax, hnil, hrow⟩ := id his
    subst hn
    unfold maxLen at hmax
    have IH := Lib.hid ih
    clear ih
    have HI := Lib.hid hI
    clear hI
    have HA := Lib.hid hA
    clear hA
    obtain ⟨rs, rb, hres⟩ : ∃ rs rb, X.walk1 f s k n a = (rs, rb) := ⟨_, _, rfl⟩
    rw [hres]
    dsimp only
    have HR := Lib.hid hres
    clear hres
    go_enter Try.func52, Try.ntmps52
    go_wp2_with fail
    refine (hf.run s k n a _ p a.len cap hL (hf.alloc s w _ HI.out).1 hG (his.alloc _)).mono ?_
    rintro e w1 ⟨rfl, hI1, hR1⟩
    have hbox1 : w1.cell? ⟨w.heap.size, 2, none⟩ = some (.slice p a.len cap) := hf.keeps s _ _ (hf.alloc s w _ HI.out).1 hR1 w.heap.size ⟨2, p, a.len, cap, by simp⟩ _ _ (by simp)
    have hR0 : R w w1 := hf.trans _ _ _ (hf.alloc s w _ HI.out).2 hR1
    clear hR1
    have HF := Lib.hid hf
    cases hb : (f s k n a).2 with
    | false =>
      have e1 : X.walk1 f s k n a = ((f s k n a).1, false) := by unfold X.walk1; rw [hb]; rfl
      rw [HR.out] at e1
      obtain ⟨rfl, rfl⟩ := Prod.mk.inj e1
      clear hf
      go_wp2_with fail
      go_ret
      exact ⟨rfl, hI1, hR0⟩
    | true =>
      have e1 : X.walk1 f s k n a = X.walk f (f s k n a).1 a := by unfold X.walk1; rw [hb]; rfl
      rw [HR.out] at e1
      have hL1 : L (f s k n a).1 := hf.live s k n a hL hb
      generalize (f s k n a).1 = s1 at hI1 hL1 e1
      have HS := Lib.hid e1.symm
      clear e1 hb hL HR
      have HL1 := Lib.hid hL1
      have HI1 := Lib.hid hI1
      have HR0 := Lib.hid hR0
      clear hf hL1 hI1 hR0
      go_wp2_with fail
      clear hbox1
      go_loopw [14] (fun i wr => ∃ (j : Nat) (t : σ), j ≤ a.len ∧ i = .int .i64 (j : Int) ∧ L t ∧ I t wr ∧ R w wr ∧ X.walk f t (a.drop j) = (rs, rb))
        (fun i _ => a.len - (intOf i).toNat)
      case atStart => exact ⟨0, s1, Nat.zero_le _, rfl, HL1.out, HI1.out, HR0.out, by rw [X.drop_zero]; exact HS.out⟩
      case round =>
        clear HL1 HI1 HR0 HS
        obtain ⟨j, t, hj, rfl, hLt, hIt, hRt, hmo⟩ := hrel
        have HM := Lib.hid hmo
        have HLt := Lib.hid hLt
        have HIt := Lib.hid hIt
        have HRt := Lib.hid hRt
        clear hmo hLt hIt hRt
        by_cases hlt : j < a.len
        · rcases hrow with h0 | ⟨b, off, rfl, hr⟩
          · omega
          obtain ⟨hck, hcn, p', n', cap', hc, hi⟩ := base3_at (HF.out.keeps s _ _ HI.out HRt.out) hr hlt
          have hg := a.sz_ga j hlt
          obtain ⟨hG', hA'⟩ := HA.out.at hlt
          have HG := Lib.hid hG'
          have HA' := Lib.hid hA'
          clear hG' hA'
          go_wp2_with fail
          refine (IH.out (a.ga j) t _ _ _ p' n' cap' (by omega) HLt.out (HF.out.alloc t wr _ HIt.out).1 HG.out HA'.out (hi.alloc _)).mono ?_
          rintro e w' ⟨rfl, hI2, hR2⟩
          have hR3 : R w w' := HF.out.trans _ _ _ HRt.out (HF.out.trans _ _ _ (HF.out.alloc t wr _ HIt.out).2 hR2)
          have hw := X.walk_drop f t a j hlt
          have hlv := walk1_live HF.out.live t (a.gk j) (a.gn j) (a.ga j) HLt.out
          rw [HM.out] at hw
          have HI2 := Lib.hid hI2
          have HR3 := Lib.hid hR3
          have HW := Lib.hid hw
          have HLV := Lib.hid hlv
          clear hI2 hR2 hR3 hw hlv
          cases hb2 : (X.walk1 f t (a.gk j) (a.gn j) (a.ga j)).2 with
          | false =>
            go_wp2_with fail
            go_ret
            have hw := HW.out
            rw [hb2] at hw
            simp only [Bool.false_eq_true, if_false] at hw
            obtain ⟨rfl, rfl⟩ := Prod.mk.inj hw
            exact ⟨rfl, HI2.out, HR3.out⟩
          | true =>
            go_wp2_with fail
            go_roundw
            case rel =>
              have hw := HW.out
              rw [hb2] at hw
              simp only [if_true] at hw
              exact ⟨j + 1, _, by omega, by go_num, HLV.out hb2, HI2.out, HR3.out, hw.symm⟩
            case measure => simp [intOf]; omega
        · go_wp2_with fail
          go_ret
          have h1 := HM.out
          rw [X.drop_end a j (by omega)] at h1
          simp only [X.walk] at h1
          obtain ⟨rfl, rfl⟩ := Prod.mk.inj h1
          exact ⟨rfl, HIt.out, HRt.out⟩

end Go.Proofs.Ytlgfaobbjnhfoaa
