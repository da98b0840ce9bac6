/-
  The walk of all, for the other functions that are handed to it. Conditions: none but that the term lies in memory.
-/
import Derived.Test.YtlgfaobbjnhfoaaTWalkB
set_option linter.unusedSimpArgs false
set_option linter.unusedVariables false
namespace Go.Proofs.Ytlgfaobbjnhfoaa
open Go.RowKit

set_option maxHeartbeats 1000000 in
theorem all_subst1 {σ : Type} {c0 : Nat} {f : σ → Int → Int → X → σ × Bool} {L : σ → Prop} {I : σ → World → Prop} {R : World → World → Prop} {G : Int → Int → X → Prop}
    (hf : Fits (fun v w Q => Calls Try.prog 63 #[v, .pointer (some ⟨c0, 0, none⟩)] w Q) f L I R G) (N : Nat) :
    ∀ (a : X) (s : σ) (k n : Int) (w : World) (p : Option Addr) (l cap : Nat), a.sz < N → L s → I s w → G k n a → X.AllX G a → IsX w a p l cap →
    Calls Try.prog 52 #[.agg #[.int .i64 k, .int .i64 n, .slice p l cap], .func (Fn.func 63) #[] #[.pointer (some ⟨c0, 0, none⟩)]] w fun e w' =>
      e = .returned (.bool (X.walk1 f s k n a).2) ∧ I (X.walk1 f s k n a).1 w' ∧ R w w' := by
  induction N with
  | zero => intro a s k n w p l cap hN; omega
  | succ N ih =>
    intro a s k n w p l cap hN hL hI hG hA his
    have hlen := a.len_le_sz
    obtain ⟨hn, hcap, hmax, hnil, hrow⟩ := id his
    subst hn
    unfold maxLen at hmax
    have IH := Lib.hid ih
    clear ih
    have HI := Lib.hid hI
    clear hI
    have HA := Lib.hid hA
    clear hA
    obtain ⟨rs, rb, hres⟩ : ∃ rs rb, X.walk1 f s k n a = (rs, rb) := ⟨_, _, rfl⟩
    rw [hres]
    dsimp only
    have HR := Lib.hid hres
    clear hres
    go_enter Try.func52, Try.ntmps52
    go_wp2_with fail
    refine (hf.run s k n a _ p a.len cap hL (hf.alloc s w _ HI.out).1 hG (his.alloc _)).mono ?_
    rintro e w1 ⟨rfl, hI1, hR1⟩
    have hbox1 : w1.cell? ⟨w.heap.size, 2, none⟩ = some (.slice p a.len cap) := hf.keeps s _ _ (hf.alloc s w _ HI.out).1 hR1 w.heap.size ⟨2, p, a.len, cap, by simp⟩ _ _ (by simp)
    have hR0 : R w w1 := hf.trans _ _ _ (hf.alloc s w _ HI.out).2 hR1
    clear hR1
    have HF := Lib.hid hf
    cases hb : (f s k n a).2 with
    | false =>
      have e1 : X.walk1 f s k n a = ((f s k n a).1, false) := by unfold X.walk1; rw [hb]; rfl
      rw [HR.out] at e1
      obtain ⟨rfl, rfl⟩ := Prod.mk.inj e1
      clear hf
      go_wp2_with fail
      go_ret
      exact ⟨rfl, hI1, hR0⟩
    | true =>
      have e1 : X.walk1 f s k n a = X.walk f (f s k n a).1 a := by unfold X.walk1; rw [hb]; rfl
      rw [HR.out] at e1
      have hL1 : L (f s k n a).1 := hf.live s k n a hL hb
      generalize (f s k n a).1 = s1 at hI1 hL1 e1
      have HS := Lib.hid e1.symm
      clear e1 hb hL HR
      have HL1 := Lib.hid hL1
      have HI1 := Lib.hid hI1
      have HR0 := Lib.hid hR0
      clear hf hL1 hI1 hR0
      go_wp2_with fail
      clear hbox1
      go_loopw [14] (fun i wr => ∃ (j : Nat) (t : σ), j ≤ a.len ∧ i = .int .i64 (j : Int) ∧ L t ∧ I t wr ∧ R w wr ∧ X.walk f t (a.drop j) = (rs, rb))
        (fun i _ => a.len - (intOf i).toNat)
      case atStart => exact ⟨0, s1, Nat.zero_le _, rfl, HL1.out, HI1.out, HR0.out, by rw [X.drop_zero]; exact HS.out⟩
      case round =>
        clear HL1 HI1 HR0 HS
        obtain ⟨j, t, hj, rfl, hLt, hIt, hRt, hmo⟩ := hrel
        have HM := Lib.hid hmo
        have HLt := Lib.hid hLt
        have HIt := Lib.hid hIt
        have HRt := Lib.hid hRt
        clear hmo hLt hIt hRt
        by_cases hlt : j < a.len
        · rcases hrow with h0 | ⟨b, off, rfl, hr⟩
          · omega
          obtain ⟨hck, hcn, p', n', cap', hc, hi⟩ := base3_at (HF.out.keeps s _ _ HI.out HRt.out) hr hlt
          have hg := a.sz_ga j hlt
          obtain ⟨hG', hA'⟩ := HA.out.at hlt
          have HG := Lib.hid hG'
          have HA' := Lib.hid hA'
          clear hG' hA'
          go_wp2_with fail
          refine (IH.out (a.ga j) t _ _ _ p' n' cap' (by omega) HLt.out (HF.out.alloc t wr _ HIt.out).1 HG.out HA'.out (hi.alloc _)).mono ?_
          rintro e w' ⟨rfl, hI2, hR2⟩
          have hR3 : R w w' := HF.out.trans _ _ _ HRt.out (HF.out.trans _ _ _ (HF.out.alloc t wr _ HIt.out).2 hR2)
          have hw := X.walk_drop f t a j hlt
          have hlv := walk1_live HF.out.live t (a.gk j) (a.gn j) (a.ga j) HLt.out
          rw [HM.out] at hw
          have HI2 := Lib.hid hI2
          have HR3 := Lib.hid hR3
          have HW := Lib.hid hw
          have HLV := Lib.hid hlv
          clear hI2 hR2 hR3 hw hlv
          cases hb2 : (X.walk1 f t (a.gk j) (a.gn j) (a.ga j)).2 with
          | false =>
            go_wp2_with fail
            go_ret
            have hw := HW.out
            rw [hb2] at hw
            simp only [Bool.false_eq_true, if_false] at hw
            obtain ⟨rfl, rfl⟩ := Prod.mk.inj hw
            exact ⟨rfl, HI2.out, HR3.out⟩
          | true =>
            go_wp2_with fail
            go_roundw
            case rel =>
              have hw := HW.out
              rw [hb2] at hw
              simp only [if_true] at hw
              exact ⟨j + 1, _, by omega, by go_num, HLV.out hb2, HI2.out, HR3.out, hw.symm⟩
            case measure => simp [intOf]; omega
        · go_wp2_with fail
          go_ret
          have h1 := HM.out
          rw [X.drop_end a j (by omega)] at h1
          simp only [X.walk] at h1
          obtain ⟨rfl, rfl⟩ := Prod.mk.inj h1
          exact ⟨rfl, HIt.out, HRt.out⟩

set_option maxHeartbeats 1000000 in
theorem all_roomy1 {σ : Type} {c0 c1 : Nat} {f : σ → Int → Int → X → σ × Bool} {L : σ → Prop} {I : σ → World → Prop} {R : World → World → Prop} {G : Int → Int → X → Prop}
    (hf : Fits (fun v w Q => Calls Try.prog 84 #[v, .pointer (some ⟨c0, 0, none⟩), .pointer (some ⟨c1, 0, none⟩)] w Q) f L I R G) (N : Nat) :
    ∀ (a : X) (s : σ) (k n : Int) (w : World) (p : Option Addr) (l cap : Nat), a.sz < N → L s → I s w → G k n a → X.AllX G a → IsX w a p l cap →
    Calls Try.prog 52 #[.agg #[.int .i64 k, .int .i64 n, .slice p l cap], .func (Fn.func 84) #[] #[.pointer (some ⟨c0, 0, none⟩), .pointer (some ⟨c1, 0, none⟩)]] w fun e w' =>
      e = .returned (.bool (X.walk1 f s k n a).2) ∧ I (X.walk1 f s k n a).1 w' ∧ R w w' := by
  induction N with
  | zero => intro a s k n w p l cap hN; omega
  | succ N ih =>
    intro a s k n w p l cap hN hL hI hG hA his
    have hlen := a.len_le_sz
    obtain ⟨hn, hcap, hmax, hnil, hrow⟩ := id his
    subst hn
    unfold maxLen at hmax
    have IH := Lib.hid ih
    clear ih
    have HI := Lib.hid hI
    clear hI
    have HA := Lib.hid hA
    clear hA
    obtain ⟨rs, rb, hres⟩ : ∃ rs rb, X.walk1 f s k n a = (rs, rb) := ⟨_, _, rfl⟩
    rw [hres]
    dsimp only
    have HR := Lib.hid hres
    clear hres
    go_enter Try.func52, Try.ntmps52
    go_wp2_with fail
    refine (hf.run s k n a _ p a.len cap hL (hf.alloc s w _ HI.out).1 hG (his.alloc _)).mono ?_
    rintro e w1 ⟨rfl, hI1, hR1⟩
    have hbox1 : w1.cell? ⟨w.heap.size, 2, none⟩ = some (.slice p a.len cap) := hf.keeps s _ _ (hf.alloc s w _ HI.out).1 hR1 w.heap.size ⟨2, p, a.len, cap, by simp⟩ _ _ (by simp)
    have hR0 : R w w1 := hf.trans _ _ _ (hf.alloc s w _ HI.out).2 hR1
    clear hR1
    have HF := Lib.hid hf
    cases hb : (f s k n a).2 with
    | false =>
      have e1 : X.walk1 f s k n a = ((f s k n a).1, false) := by unfold X.walk1; rw [hb]; rfl
      rw [HR.out] at e1
      obtain ⟨rfl, rfl⟩ := Prod.mk.inj e1
      clear hf
      go_wp2_with fail
      go_ret
      exact ⟨rfl, hI1, hR0⟩
    | true =>
      have e1 : X.walk1 f s k n a = X.walk f (f s k n a).1 a := by unfold X.walk1; rw [hb]; rfl
      rw [HR.out] at e1
      have hL1 : L (f s k n a).1 := hf.live s k n a hL hb
      generalize (f s k n a).1 = s1 at hI1 hL1 e1
      have HS := Lib.hid e1.symm
      clear e1 hb hL HR
      have HL1 := Lib.hid hL1
      have HI1 := Lib.hid hI1
      have HR0 := Lib.hid hR0
      clear hf hL1 hI1 hR0
      go_wp2_with fail
      clear hbox1
      go_loopw [14] (fun i wr => ∃ (j : Nat) (t : σ), j ≤ a.len ∧ i = .int .i64 (j : Int) ∧ L t ∧ I t wr ∧ R w wr ∧ X.walk f t (a.drop j) = (rs, rb))
        (fun i _ => a.len - (intOf i).toNat)
      case atStart => exact ⟨0, s1, Nat.zero_le _, rfl, HL1.out, HI1.out, HR0.out, by rw [X.drop_zero]; exact HS.out⟩
      case round =>
        clear HL1 HI1 HR0 HS
        obtain ⟨j, t, hj, rfl, hLt, hIt, hRt, hmo⟩ := hrel
        have HM := Lib.hid hmo
        have HLt := Lib.hid hLt
        have HIt := Lib.hid hIt
        have HRt := Lib.hid hRt
        clear hmo hLt hIt hRt
        by_cases hlt : j < a.len
        · rcases hrow with h0 | ⟨b, off, rfl, hr⟩
          · omega
          obtain ⟨hck, hcn, p', n', cap', hc, hi⟩ := base3_at (HF.out.keeps s _ _ HI.out HRt.out) hr hlt
          have hg := a.sz_ga j hlt
          obtain ⟨hG', hA'⟩ := HA.out.at hlt
          have HG := Lib.hid hG'
          have HA' := Lib.hid hA'
          clear hG' hA'
          go_wp2_with fail
          refine (IH.out (a.ga j) t _ _ _ p' n' cap' (by omega) HLt.out (HF.out.alloc t wr _ HIt.out).1 HG.out HA'.out (hi.alloc _)).mono ?_
          rintro e w' ⟨rfl, hI2, hR2⟩
          have hR3 : R w w' := HF.out.trans _ _ _ HRt.out (HF.out.trans _ _ _ (HF.out.alloc t wr _ HIt.out).2 hR2)
          have hw := X.walk_drop f t a j hlt
          have hlv := walk1_live HF.out.live t (a.gk j) (a.gn j) (a.ga j) HLt.out
          rw [HM.out] at hw
          have HI2 := Lib.hid hI2
          have HR3 := Lib.hid hR3
          have HW := Lib.hid hw
          have HLV := Lib.hid hlv
          clear hI2 hR2 hR3 hw hlv
          cases hb2 : (X.walk1 f t (a.gk j) (a.gn j) (a.ga j)).2 with
          | false =>
            go_wp2_with fail
            go_ret
            have hw := HW.out
            rw [hb2] at hw
            simp only [Bool.false_eq_true, if_false] at hw
            obtain ⟨rfl, rfl⟩ := Prod.mk.inj hw
            exact ⟨rfl, HI2.out, HR3.out⟩
          | true =>
            go_wp2_with fail
            go_roundw
            case rel =>
              have hw := HW.out
              rw [hb2] at hw
              simp only [if_true] at hw
              exact ⟨j + 1, _, by omega, by go_num, HLV.out hb2, HI2.out, HR3.out, hw.symm⟩
            case measure => simp [intOf]; omega
        · go_wp2_with fail
          go_ret
          have h1 := HM.out
          rw [X.drop_end a j (by omega)] at h1
          simp only [X.walk] at h1
          obtain ⟨rfl, rfl⟩ := Prod.mk.inj h1
          exact ⟨rfl, HIt.out, HRt.out⟩

set_option maxHeartbeats 1000000 in
theorem all_sort1 {σ : Type} {c0 : Nat} {f : σ → Int → Int → X → σ × Bool} {L : σ → Prop} {I : σ → World → Prop} {R : World → World → Prop} {G : Int → Int → X → Prop}
    (hf : Fits (fun v w Q => Calls Try.prog 53 #[v, .pointer (some ⟨c0, 0, none⟩)] w Q) f L I R G) (N : Nat) :
    ∀ (a : X) (s : σ) (k n : Int) (w : World) (p : Option Addr) (l cap : Nat), a.sz < N → L s → I s w → G k n a → X.AllX G a → IsX w a p l cap →
    Calls Try.prog 52 #[.agg #[.int .i64 k, .int .i64 n, .slice p l cap], .func (Fn.func 53) #[] #[.pointer (some ⟨c0, 0, none⟩)]] w fun e w' =>
      e = .returned (.bool (X.walk1 f s k n a).2) ∧ I (X.walk1 f s k n a).1 w' ∧ R w w' := by
  induction N with
  | zero => intro a s k n w p l cap hN; omega
  | succ N ih =>
    intro a s k n w p l cap hN hL hI hG hA his
    have hlen := a.len_le_sz
    obtain ⟨hn, hcap, hmax, hnil, hrow⟩ := id his
    subst hn
    unfold maxLen at hmax
    have IH := Lib.hid ih
    clear ih
    have HI := Lib.hid hI
    clear hI
    have HA := Lib.hid hA
    clear hA
    obtain ⟨rs, rb, hres⟩ : ∃ rs rb, X.walk1 f s k n a = (rs, rb) := ⟨_, _, rfl⟩
    rw [hres]
    dsimp only
    have HR := Lib.hid hres
    clear hres
    go_enter Try.func52, Try.ntmps52
    go_wp2_with fail
    refine (hf.run s k n a _ p a.len cap hL (hf.alloc s w _ HI.out).1 hG (his.alloc _)).mono ?_
    rintro e w1 ⟨rfl, hI1, hR1⟩
    have hbox1 : w1.cell? ⟨w.heap.size, 2, none⟩ = some (.slice p a.len cap) := hf.keeps s _ _ (hf.alloc s w _ HI.out).1 hR1 w.heap.size ⟨2, p, a.len, cap, by simp⟩ _ _ (by simp)
    have hR0 : R w w1 := hf.trans _ _ _ (hf.alloc s w _ HI.out).2 hR1
    clear hR1
    have HF := Lib.hid hf
    cases hb : (f s k n a).2 with
    | false =>
      have e1 : X.walk1 f s k n a = ((f s k n a).1, false) := by unfold X.walk1; rw [hb]; rfl
      rw [HR.out] at e1
      obtain ⟨rfl, rfl⟩ := Prod.mk.inj e1
      clear hf
      go_wp2_with fail
      go_ret
      exact ⟨rfl, hI1, hR0⟩
    | true =>
      have e1 : X.walk1 f s k n a = X.walk f (f s k n a).1 a := by unfold X.walk1; rw [hb]; rfl
      rw [HR.out] at e1
      have hL1 : L (f s k n a).1 := hf.live s k n a hL hb
      generalize (f s k n a).1 = s1 at hI1 hL1 e1
      have HS := Lib.hid e1.symm
      clear e1 hb hL HR
      have HL1 := Lib.hid hL1
      have HI1 := Lib.hid hI1
      have HR0 := Lib.hid hR0
      clear hf hL1 hI1 hR0
      go_wp2_with fail
      clear hbox1
      go_loopw [14] (fun i wr => ∃ (j : Nat) (t : σ), j ≤ a.len ∧ i = .int .i64 (j : Int) ∧ L t ∧ I t wr ∧ R w wr ∧ X.walk f t (a.drop j) = (rs, rb))
        (fun i _ => a.len - (intOf i).toNat)
      case atStart => exact ⟨0, s1, Nat.zero_le _, rfl, HL1.out, HI1.out, HR0.out, by rw [X.drop_zero]; exact HS.out⟩
      case round =>
        clear HL1 HI1 HR0 HS
        obtain ⟨j, t, hj, rfl, hLt, hIt, hRt, hmo⟩ := hrel
        have HM := Lib.hid hmo
        have HLt := Lib.hid hLt
        have HIt := Lib.hid hIt
        have HRt := Lib.hid hRt
        clear hmo hLt hIt hRt
        by_cases hlt : j < a.len
        · rcases hrow with h0 | ⟨b, off, rfl, hr⟩
          · omega
          obtain ⟨hck, hcn, p', n', cap', hc, hi⟩ := base3_at (HF.out.keeps s _ _ HI.out HRt.out) hr hlt
          have hg := a.sz_ga j hlt
          obtain ⟨hG', hA'⟩ := HA.out.at hlt
          have HG := Lib.hid hG'
          have HA' := Lib.hid hA'
          clear hG' hA'
          go_wp2_with fail
          refine (IH.out (a.ga j) t _ _ _ p' n' cap' (by omega) HLt.out (HF.out.alloc t wr _ HIt.out).1 HG.out HA'.out (hi.alloc _)).mono ?_
          rintro e w' ⟨rfl, hI2, hR2⟩
          have hR3 : R w w' := HF.out.trans _ _ _ HRt.out (HF.out.trans _ _ _ (HF.out.alloc t wr _ HIt.out).2 hR2)
          have hw := X.walk_drop f t a j hlt
          have hlv := walk1_live HF.out.live t (a.gk j) (a.gn j) (a.ga j) HLt.out
          rw [HM.out] at hw
          have HI2 := Lib.hid hI2
          have HR3 := Lib.hid hR3
          have HW := Lib.hid hw
          have HLV := Lib.hid hlv
          clear hI2 hR2 hR3 hw hlv
          cases hb2 : (X.walk1 f t (a.gk j) (a.gn j) (a.ga j)).2 with
          | false =>
            go_wp2_with fail
            go_ret
            have hw := HW.out
            rw [hb2] at hw
            simp only [Bool.false_eq_true, if_false] at hw
            obtain ⟨rfl, rfl⟩ := Prod.mk.inj hw
            exact ⟨rfl, HI2.out, HR3.out⟩
          | true =>
            go_wp2_with fail
            go_roundw
            case rel =>
              have hw := HW.out
              rw [hb2] at hw
              simp only [if_true] at hw
              exact ⟨j + 1, _, by omega, by go_num, HLV.out hb2, HI2.out, HR3.out, hw.symm⟩
            case measure => simp [intOf]; omega
        · go_wp2_with fail
          go_ret
          have h1 := HM.out
          rw [X.drop_end a j (by omega)] at h1
          simp only [X.walk] at h1
          obtain ⟨rfl, rfl⟩ := Prod.mk.inj h1
          exact ⟨rfl, HIt.out, HRt.out⟩

end Go.Proofs.Ytlgfaobbjnhfoaa
