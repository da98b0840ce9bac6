/-
  The walk of Free's function, and of all at it: a map that notes the variables. Conditions: at most 200000 nodes, numbers of 64 bits.
-/
import Derived.Test.YtlgfaobbjnhfoaaTPlainF
import Derived.Test.YtlgfaobbjnhfoaaTRowW
import Derived.Test.YtlgfaobbjnhfoaaTWalkC
import Derived.Test.YtlgfaobbjnhfoaaTWalkL
set_option linter.unusedSimpArgs false
set_option linter.unusedVariables false
namespace Go.Proofs.Ytlgfaobbjnhfoaa
open Go.RowKit Go.Maps

theorem mlawI : Keyed Try.prog 3 := int_keyed Try.underlying3

/-- the variable and the map of the notes -/
def FI (c0 mb : Nat) (s : List Int) (w : World) : Prop :=
  w.heap[c0]? = some (.cells #[.map (some mb)] 75 (0, 0)) ∧ w.ownsMap Try.prog 3 (plainElem (H := Unit) Try.prog 4) mb s.length (setF s) ∧ c0 ≠ mb

theorem FI.alloc {c0 mb : Nat} {s : List Int} {w : World} (h : FI c0 mb s w) (o : Obj) : FI c0 mb s (w.alloc o) := ⟨alloc_kept h.1 o, h.2.1.alloc o, h.2.2⟩

theorem FI.keeps {c0 mb : Nat} {s : List Int} {w w' : World} (h : FI c0 mb s w) (hg : w.grownBy w' (some mb)) : Keeps3 w w' := by
  obtain ⟨_, hown, _⟩ := h
  obtain ⟨es, clock, hb, _, _, _⟩ := hown
  rintro b ⟨o, p, n, cap, hc⟩ o' v hv
  have hlt := lt_of_cell hc
  have hne : b ≠ mb := by
    rintro rfl
    unfold World.cell? at hc
    simp only [hb] at hc
    simp at hc
  rw [World.cell?_of_block (w := w) (hg.block b hlt (fun e => hne (by injection e)))]
  exact hv

theorem grown_alloc (w : World) (o : Obj) (mb : Nat) : w.grownBy (w.alloc o) (some mb) := World.grownBy_alloc w o (some mb)

set_option maxRecDepth 100000 in
set_option maxHeartbeats 800000 in
theorem pred_free (s : List Int) (k n : Int) (a : X) (w : World) (p : Option Addr) (l cap c0 mb : Nat) (hI : FI c0 mb s w) (hw : wf64 n) (hs : s.length ≤ 200000) :
    Calls Try.prog 59 #[.agg #[.int .i64 k, .int .i64 n, .slice p l cap], .pointer (some ⟨c0, 0, none⟩)] w fun e w' =>
      e = .returned (.bool (ff s k n a).2) ∧ FI c0 mb (ff s k n a).1 w' ∧ w.grownBy w' (some mb) := by
  have c1 := cell_of_one hI.1
  have hlt := lt_of_block hI.1
  have hmb := hI.2.1.lt
  by_cases hk : k = 0
  · have e1 : ff s k n a = (s ++ [n], decide (0 ≤ n)) := by unfold ff; rw [if_pos hk, if_pos hk]
    rw [e1]
    dsimp only
    have hd : (k != 0) = false := by simp [hk]
    have hst := setF_step s n
    have HST := Lib.hid hst
    have HI := Lib.hid hI
    have hb0 := heap_new w (.cells #[.int .i64 k, .int .i64 n, .slice p l cap] 35)
    have HB0 := Lib.hid hb0
    clear e1 hst hI hb0 hk
    go_enter Try.func59, Try.ntmps59
    go_wp2_with (first | (at_mapUpdate; refine wpList_mapUpdate_own _ rfl _ _ _ 75 rfl 3 4 mlawI Try.underlying75 _ mb s.length _ rfl (HI.out.2.1.alloc _) (by unfold maxLen; omega) _ _ _ rfl rfl (keyOf_int_mk Try.underlying3 hw) _ [] (plainElem_bool Try.underlying4 true) ?_; intro w3 hown3 hgrow3; have hc3 := box3_cells ((hgrow3.block w.heap.size (by simp) (fun e => by injection e; omega)).trans HB0.out); obtain ⟨q1, q2, q3⟩ := hc3) | go_in)
    go_ret
    have hg := (grown_trans (grown_alloc w (.cells #[.int .i64 k, .int .i64 n, .slice p l cap] 35) mb) hgrow3)
    rw [HST.out] at hown3
    refine ⟨rfl, ⟨?_, by simpa using hown3, HI.out.2.2⟩, hg⟩
    rw [hg.block c0 hlt (fun e => HI.out.2.2 (by injection e))]
    exact HI.out.1
  · have e1 : ff s k n a = (s, true) := by unfold ff; rw [if_neg hk, if_neg hk]
    rw [e1]
    dsimp only
    have hd : (k != 0) = true := by simp [hk]
    have HI := Lib.hid hI
    clear e1 hI hk
    go_enter Try.func59, Try.ntmps59
    go_wp2_with fail
    go_ret
    exact ⟨rfl, HI.out.alloc _, grown_alloc _ _ _⟩

set_option maxRecDepth 100000 in
set_option maxHeartbeats 1000000 in
theorem all_free (c0 mb : Nat) (N : Nat) : ∀ (a : X) (s : List Int) (k n : Int) (w : World) (p : Option Addr) (l cap : Nat), a.sz < N → s.length + 1 + a.sz ≤ 200000 → FI c0 mb s w → wf64 n → WfX a → IsX w a p l cap →
    Calls Try.prog 52 #[.agg #[.int .i64 k, .int .i64 n, .slice p l cap], .func (Fn.func 59) #[] #[.pointer (some ⟨c0, 0, none⟩)]] w fun e w' =>
      e = .returned (.bool (X.walk1 ff s k n a).2) ∧ FI c0 mb (X.walk1 ff s k n a).1 w' ∧ w.grownBy w' (some mb) := by
  induction N with
  | zero => intro a s k n w p l cap hN; omega
  | succ N ih =>
    intro a s k n w p l cap hN hL hI hG hA his
    have hlen := a.len_le_sz
    obtain ⟨hn, hcap, hmax, hnil, hrow⟩ := id his
    subst hn
    unfold maxLen at hmax
    have IH := Lib.hid ih
    clear ih
    have HI := Lib.hid hI
    clear hI
    have HA := Lib.hid hA
    clear hA
    obtain ⟨rs, rb, hres⟩ : ∃ rs rb, X.walk1 ff s k n a = (rs, rb) := ⟨_, _, rfl⟩
    rw [hres]
    dsimp only
    have HR := Lib.hid hres
    have HPF := Lib.hid (fun W h => pred_free s k n a W p a.len cap c0 mb h hG (by omega))
    clear hres hG
    go_enter Try.func52, Try.ntmps52
    go_wp2_with fail
    refine (HPF.out _ (HI.out.alloc _)).mono ?_
    rintro e w1 ⟨rfl, hI1, hR1⟩
    have hbox1 : w1.cell? ⟨w.heap.size, 2, none⟩ = some (.slice p a.len cap) := (HI.out.alloc (.cells #[.int .i64 k, .int .i64 n, .slice p a.len cap] 35)).keeps hR1 w.heap.size ⟨2, p, a.len, cap, by simp⟩ _ _ (by simp)
    have hR0 : w.grownBy w1 (some mb) := grown_trans (grown_alloc w _ mb) hR1
    have hl1 : (ff s k n a).1.length ≤ s.length + 1 := by unfold ff; split <;> simp
    clear hR1
    cases hb : (ff s k n a).2 with
    | false =>
      have e1 : X.walk1 ff s k n a = ((ff s k n a).1, false) := by unfold X.walk1; rw [hb]; rfl
      rw [HR.out] at e1
      obtain ⟨rfl, rfl⟩ := Prod.mk.inj e1
      go_wp2_with fail
      go_ret
      exact ⟨rfl, hI1, hR0⟩
    | true =>
      have e1 : X.walk1 ff s k n a = X.walk ff (ff s k n a).1 a := by unfold X.walk1; rw [hb]; rfl
      rw [HR.out] at e1
      generalize (ff s k n a).1 = s1 at hI1 hl1 e1
      have HS := Lib.hid e1.symm
      have HI1 := Lib.hid hI1
      have HR0 := Lib.hid hR0
      clear e1 hb HR hI1 hR0 HPF
      go_wp2_with fail
      clear hbox1
      go_loopw [14] (fun i wr => ∃ (j : Nat) (t : List Int), j ≤ a.len ∧ i = .int .i64 (j : Int) ∧ t.length + (a.drop j).sz ≤ 200000 ∧ FI c0 mb t wr ∧ w.grownBy wr (some mb) ∧ X.walk ff t (a.drop j) = (rs, rb))
        (fun i _ => a.len - (Go.RowKit.intOf i).toNat)
      case atStart => exact ⟨0, s1, Nat.zero_le _, rfl, by rw [X.drop_zero]; omega, HI1.out, HR0.out, by rw [X.drop_zero]; exact HS.out⟩
      case round =>
        clear HI1 HR0 HS
        obtain ⟨j, t, hj, rfl, hLt, hIt, hRt, hmo⟩ := hrel
        have HM := Lib.hid hmo
        have HIt := Lib.hid hIt
        have HRt := Lib.hid hRt
        clear hmo hIt hRt
        by_cases hlt : j < a.len
        · rcases hrow with h0 | ⟨b, off, rfl, hr⟩
          · omega
          obtain ⟨hck, hcn, p', n', cap', hc, hi⟩ := base3_at (HI.out.keeps HRt.out) hr hlt
          have hg := a.sz_ga j hlt
          have hsd := a.sz_drop j hlt
          obtain ⟨hG', hA'⟩ := HA.out.at hlt
          have HG := Lib.hid hG'.2
          have HA' := Lib.hid hA'
          clear hG' hA'
          go_wp2_with fail
          refine (IH.out (a.ga j) t _ _ _ p' n' cap' (by omega) (by omega) (HIt.out.alloc _) HG.out HA'.out (hi.alloc _)).mono ?_
          rintro e w' ⟨rfl, hI2, hR2⟩
          have hR3 : w.grownBy w' (some mb) := grown_trans HRt.out (grown_trans (grown_alloc _ _ mb) hR2)
          have hw := X.walk_drop ff t a j hlt
          have hlv := walk1_ff_len t (a.gk j) (a.gn j) (a.ga j)
          rw [HM.out] at hw
          have HI2 := Lib.hid hI2
          have HR3 := Lib.hid hR3
          have HW := Lib.hid hw
          clear hI2 hR2 hR3 hw
          cases hb2 : (X.walk1 ff t (a.gk j) (a.gn j) (a.ga j)).2 with
          | false =>
            go_wp2_with fail
            go_ret
            have hw := HW.out
            rw [hb2] at hw
            simp only [Bool.false_eq_true, if_false] at hw
            obtain ⟨rfl, rfl⟩ := Prod.mk.inj hw
            exact ⟨rfl, HI2.out, HR3.out⟩
          | true =>
            go_wp2_with fail
            go_roundw
            case rel =>
              have hw := HW.out
              rw [hb2] at hw
              simp only [if_true] at hw
              exact ⟨j + 1, (X.walk1 ff t (a.gk j) (a.gn j) (a.ga j)).1, by omega, by go_num, by omega, HI2.out, HR3.out, hw.symm⟩
            case measure => simp [Go.RowKit.intOf]; omega
        · go_wp2_with fail
          go_ret
          have h1 := HM.out
          rw [X.drop_end a j (by omega)] at h1
          simp only [X.walk] at h1
          obtain ⟨rfl, rfl⟩ := Prod.mk.inj h1
          exact ⟨rfl, HIt.out, HRt.out⟩

end Go.Proofs.Ytlgfaobbjnhfoaa
