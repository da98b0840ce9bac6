/-
  The walk of Sort: what it returns, for whatever place and term. Conditions: none but that they lie in memory.
-/
import Derived.Test.YtlgfaobbjnhfoaaTWalkO
set_option linter.unusedSimpArgs false
set_option linter.unusedVariables false
namespace Go.Proofs.Ytlgfaobbjnhfoaa
open Go.RowKit

theorem AllX_sz (N : Nat) (t : X) : t.sz ≤ N → X.AllX (fun _ _ a => a.sz < N) t := by
  induction t with
  | nil => intro _; trivial
  | cons k n a r iha ihr =>
    intro h
    simp only [X.sz] at h
    exact ⟨by omega, iha (by omega), ihr (by omega)⟩

set_option maxRecDepth 100000 in
set_option maxHeartbeats 400000 in
theorem pred_suit (x : Pl) (a3 : At3) (k n : Int) (a : X) (w0 w : World) (p : Option Addr) (l cap cb : Nat) (h : Holds w0 x a3 w) (hS : symsOk x.S = true) (his : IsX w a p l cap) (hl : a.sz < 4611686018427387904) (hc : w.heap[cb]? = some (a3.box 28)) :
    Calls Try.prog 53 #[.agg #[.int .i64 k, .int .i64 n, .slice p l cap], .pointer (some ⟨cb, 0, none⟩)] w fun e w' => e = .returned (.bool (suit x k n a)) ∧ Below w.heap.size w w' := by
  have hlt := lt_of_block hc
  obtain ⟨c1, c2, c3⟩ := boxP_cells hc
  have hs := fun W h' hi => suited_any x a3 k n a w0 W p l cap h' hS hi hl
  have HS := Lib.hid hs
  clear hs
  go_enter Try.func53, Try.ntmps53
  go_wp2_with fail
  refine (HS.out _ (h.alloc _) (his.alloc _)).mono ?_
  rintro e w1 ⟨rfl, hb1⟩
  go_wp2_with fail
  go_ret
  exact ⟨rfl, below_call hb1⟩

theorem fits_suit (x : Pl) (a3 : At3) (w0 : World) (cb : Nat) (hS : symsOk x.S = true) : Fits (fun v w Q => Calls Try.prog 53 #[v, .pointer (some ⟨cb, 0, none⟩)] w Q) (stepB (suit x)) (fun _ => True)
    (fun _ w => w.heap[cb]? = some (a3.box 28) ∧ Holds w0 x a3 w) (fun w w' => Below w.heap.size w w') (fun _ _ a => a.sz < 4611686018427387904) where
  run := fun s k n a w p l cap _ hI hG hi => (pred_suit x a3 k n a w0 w p l cap cb hI.2 hS hi hG hI.1).mono fun _ _ h => ⟨h.1, ⟨box3_later h.2 hI.1, hI.2.below h.2⟩, h.2⟩
  live := fun _ _ _ _ _ _ => trivial
  trans := fun _ _ _ h k => h.trans (k.mono h.size)
  alloc := fun s w o h => ⟨⟨alloc_kept h.1 o, h.2.alloc o⟩, (Below.refl _ _).alloc (Nat.le_refl _) _⟩
  keeps := fun s w w' _ k => Keeps3.below k (Nat.le_refl _)

theorem all_suit (x : Pl) (a3 : At3) (w0 : World) (cb : Nat) (hS : symsOk x.S = true) (a : X) (k n : Int) (w : World) (p : Option Addr) (l cap : Nat) (hI : w.heap[cb]? = some (a3.box 28)) (hH : Holds w0 x a3 w) (his : IsX w a p l cap) (hl : a.sz < 100000) :
    Calls Try.prog 52 #[.agg #[.int .i64 k, .int .i64 n, .slice p l cap], .func (Fn.func 53) #[] #[.pointer (some ⟨cb, 0, none⟩)]] w fun e w' =>
      e = .returned (.bool (suit x k n a && allB (suit x) a)) ∧ Below w.heap.size w w' := by
  have h := all_sort1 (fits_suit x a3 w0 cb hS) (a.sz + 1) a () k n w p l cap (Nat.lt_succ_self _) trivial ⟨hI, hH⟩ (by omega) (AllX_mono (fun _ _ _ h => by omega) (AllX_sz 100000 a (by omega))) his
  rw [walk1_allB] at h
  exact h.mono fun _ _ h => ⟨h.1, h.2.2⟩

/-- what Sort returns -/
def sortRes (x : Pl) (k n : Int) (a : X) : Int × T :=
  if plOk x = true then
    if a.sz < 100000 then
      if (suit x k n a && allB (suit x) a) = true then ((rsT x k n a.len).1.bE 0, (rsT x k n a.len).1.bT 0) else (6, .nil)
    else (3, .nil)
  else (2, .nil)

theorem plOk_syms {x : Pl} (h : plOk x = true) : symsOk x.S = true := by
  simp only [plOk, Bool.and_eq_true] at h; exact h.1.1

set_option maxRecDepth 100000 in
set_option maxHeartbeats 4000000 in
theorem sort_any (x : Pl) (a3 : At3) (k n : Int) (a : X) (w : World) (p : Option Addr) (l cap : Nat) (h : IsP w x a3) (his : IsX w a p l cap) (E : Int) (S : T) (hres : sortRes x k n a = (E, S)) :
    Calls Try.prog 22 #[.agg #[.slice a3.sp a3.sn a3.sc, .slice a3.fp a3.fn a3.fc, .slice a3.pp a3.pn a3.pc], .agg #[.int .i64 k, .int .i64 n, .slice p l cap]] w fun e w' =>
      ∃ q c, e = .returned (.tuple #[.agg #[.slice q S.len c], .int .i64 E]) ∧ Own w' S q c w.heap.size w'.heap.size ∧ Below w.heap.size w w' := by
  have HD := Lib.hid hres
  clear hres
  have h0 : Holds w x a3 w := ⟨h, Nat.le_refl _, fun _ _ => rfl⟩
  have HC := Lib.hid (fun W h => tcheck_any x a3 W h)
  go_enter Try.func22, Try.ntmps22
  go_wp2_with fail
  refine (HC.out _ (((h.alloc _).alloc _).alloc _)).mono ?_
  rintro e w1 ⟨rfl, hb1⟩
  have V1 := (Vars3.start w (a3.box 28) (.cells #[.int .i64 k, .int .i64 n, .slice p l cap] 35) (.cells #[.slice none 0 0] 40)).below hb1
  have ix1 : IsX w1 a p l cap := his.below V1.2.2.2
  have h1 : Holds w x a3 w1 := h0.below V1.2.2.2
  obtain ⟨c1, c2, c3⟩ := boxP_cells V1.1
  obtain ⟨t1, t2, t3⟩ := box3_cells V1.2.1
  have r1 := cell_box V1.2.2.1
  have f1 := free_of_one V1.2.2.1
  have hz1 := lt_of_block V1.2.2.1
  have HV1 := Lib.hid V1
  clear hb1 V1
  cases hp : plOk x with
  | false =>
    have e1 : plE x = 2 := by unfold plE; rw [hp]; rfl
    have e2 := HD.out
    unfold sortRes at e2
    rw [if_neg (by rw [hp]; simp)] at e2
    obtain ⟨rfl, rfl⟩ := Prod.mk.inj e2
    rw [e1]
    clear HD e1 e2 hp
    go_wp2_with fail
    exact bodyPost_ret (v := .tuple #[.agg #[.slice none 0 0], .int .i64 2]) (by simp [results, Try.results22, go_sem, r1]) rfl ⟨none, 0, rfl, own_nil _ _ _, HV1.out.2.2.2.setCell (by simp; omega) _⟩
  | true =>
    have e1 : plE x = 0 := by unfold plE; rw [hp]; rfl
    have hS := plOk_syms hp
    rw [e1]
    clear e1
    go_wp2_with fail
    refine (tsmall_any a k n _ p l cap ix1).mono ?_
    rintro e w2 ⟨rfl, hb2⟩
    have V2 := HV1.out.below hb2
    have ix2 := ix1.below hb2
    have h2 := h1.below hb2
    obtain ⟨c1, c2, c3⟩ := boxP_cells V2.1
    obtain ⟨t1, t2, t3⟩ := box3_cells V2.2.1
    have r1 := cell_box V2.2.2.1
    have f1 := free_of_one V2.2.2.1
    have HV2 := Lib.hid V2
    clear hb2 V2 HV1 ix1 h1
    by_cases hsm : a.sz < 100000
    · have hd : decide (a.sz < 100000) = true := by simpa using hsm
      go_wp2_with fail
      refine (all_suit x a3 w w.heap.size hS a k n _ p l cap HV2.out.1 h2 ix2 hsm).mono ?_
      rintro e w3 ⟨rfl, hb3⟩
      have V3 := HV2.out.below hb3
      have h3 := h2.below hb3
      obtain ⟨c1, c2, c3⟩ := boxP_cells V3.1
      obtain ⟨t1, t2, t3⟩ := box3_cells V3.2.1
      have r1 := cell_box V3.2.2.1
      have f1 := free_of_one V3.2.2.1
      have HV3 := Lib.hid V3
      clear hb3 V3 HV2 ix2 h2
      cases hsu : (suit x k n a && allB (suit x) a) with
      | false =>
        have e2 := HD.out
        unfold sortRes at e2
        rw [if_pos hp, if_pos hsm, if_neg (by rw [hsu]; simp)] at e2
        obtain ⟨rfl, rfl⟩ := Prod.mk.inj e2
        clear HD e2 hp hsu
        go_wp2_with fail
        exact bodyPost_ret (v := .tuple #[.agg #[.slice none 0 0], .int .i64 6]) (by simp [results, Try.results22, go_sem, r1]) rfl ⟨none, 0, rfl, own_nil _ _ _, HV3.out.2.2.2.setCell (by simp; omega) _⟩
      | true =>
        have e2 := HD.out
        unfold sortRes at e2
        rw [if_pos hp, if_pos hsm, if_pos hsu] at e2
        obtain ⟨hE, hT⟩ := Prod.mk.inj e2
        obtain ⟨hl1, _⟩ := id his
        have hlen := a.len_le_sz
        have hR := fun W h => trest_any x a3 k n w W p l cap h hS (by omega)
        rw [hl1] at hR
        obtain ⟨R, ok, hRe⟩ : ∃ R ok, rsT x k n a.len = (R, ok) := ⟨_, _, rfl⟩
        rw [hRe] at hR hE hT
        dsimp only at hE hT
        have hB := fun W q c h => behind_any R W q R.len c 0 h
        rw [hE, hT] at hB
        have HR := Lib.hid hR
        have HB := Lib.hid hB
        subst hl1
        clear HD e2 hp hsu hR hRe hE hT hB
        go_wp2_with fail
        refine (HR.out _ h3).mono ?_
        rintro e w4 ⟨q4, c4, rfl, hi4, hb4⟩
        have V4 := HV3.out.below hb4
        have V4' := V4.below ((Below.refl _ _).alloc (Nat.le_refl _) (.cells #[.slice q4 R.len c4] 40))
        have i4 : IsT (w4.alloc (.cells #[.slice q4 R.len c4] 40)) R q4 R.len c4 := hi4.here.alloc _
        clear hb4 V4 HV3 hi4
        go_wp2_with fail
        refine (HB.out _ _ _ i4).mono ?_
        rintro e w5 ⟨q5, c5, rfl, hO, hb5⟩
        have V5 := V4'.below hb5
        have r1 := cell_box V5.2.2.1
        have f1 := free_of_one V5.2.2.1
        have hz4 := lt_of_block V4'.2.2.1
        have HV5 := Lib.hid V5
        clear hb5 V5 V4' i4
        go_wp2_with fail
        refine bodyPost_ret (v := .tuple #[.agg #[.slice q5 S.len c5], .int .i64 E]) (by simp [results, Try.results22, go_sem, r1]) rfl ⟨q5, c5, rfl, ?_, HV5.out.2.2.2.setCell (by simp; omega) _⟩
        have hO2 := (hO.set (a := ⟨w.heap.size + 1 + 1, 0, none⟩) hz4 (.slice q5 S.len c5)).mono (lo' := w.heap.size) (by omega) (Nat.le_refl _)
        rw [setCell_size]
        exact hO2
    · have hd : decide (a.sz < 100000) = false := by simpa using hsm
      have e2 := HD.out
      unfold sortRes at e2
      rw [if_pos hp, if_neg hsm] at e2
      obtain ⟨rfl, rfl⟩ := Prod.mk.inj e2
      clear HD e2 hp
      go_wp2_with fail
      exact bodyPost_ret (v := .tuple #[.agg #[.slice none 0 0], .int .i64 3]) (by simp [results, Try.results22, go_sem, r1]) rfl ⟨none, 0, rfl, own_nil _ _ _, HV2.out.2.2.2.setCell (by simp; omega) _⟩

end Go.Proofs.Ytlgfaobbjnhfoaa
