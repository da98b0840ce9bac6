/-
  The walks of Free, the program's and the reference's, of ints, and of the statement on Free, where the example holds. Conditions: numbers of 64 bits.
-/
import Derived.Test.YtlgfaobbjnhfoaaTWalkFb
import Derived.Test.YtlgfaobbjnhfoaaTWalkZ2
import Derived.Test.YtlgfaobbjnhfoaaTLawS
import Derived.Test.YtlgfaobbjnhfoaaTWalkO
set_option linter.unusedSimpArgs false
set_option linter.unusedVariables false
namespace Go.Proofs.Ytlgfaobbjnhfoaa
open Go.RowKit Go.Maps

/-- what both answer -/
def FreePost (w : World) (E : Int) (L : List Int) (e : Ending) (w' : World) : Prop := ∃ r c, e = .returned (.tuple #[.slice r L.length c, .int .i64 E]) ∧ IsI w' L r L.length c ∧ Below w.heap.size w w'

theorem freePost_nil {w w' : World} {E : Int} (hb : Below w.heap.size w w') : FreePost w E [] (.returned (.tuple #[.slice none 0 0, .int .i64 E])) w' := ⟨none, 0, rfl, isI_nil w', hb⟩

theorem vars1_zero (k n : Int) (a : X) (h : a.sz < 100000) : (vars1 k n a []).length ≤ 100000 := by
  have := vars1_len k n a []
  simp at this
  omega

set_option maxRecDepth 100000 in
set_option maxHeartbeats 2000000 in
theorem tfree_any (k n : Int) (a : X) (w : World) (p : Option Addr) (l cap : Nat) (his : IsX w a p l cap) (hw : wf64 n) (hwa : WfX a) (E : Int) (L : List Int) (hres : freeRes k n a = (E, L)) :
    Calls Try.prog 26 #[.agg #[.int .i64 k, .int .i64 n, .slice p l cap]] w (FreePost w E L) := by
  have HD := Lib.hid hres
  clear hres
  have hmm := @run_makeMap Try.prog
  by_cases h1 : a.sz < 100000
  case neg =>
    have e1 := HD.out
    unfold freeRes at e1
    rw [if_neg h1] at e1
    obtain ⟨rfl, rfl⟩ := Prod.mk.inj e1
    have hd : decide (a.sz < 100000) = false := by simpa using h1
    clear HD e1
    go_enter Try.func26, Try.ntmps26
    go_wp2_with fail
    refine (tsmall_any a k n _ p l cap (his.alloc _)).mono ?_
    rintro e w1 ⟨rfl, hb1⟩
    go_wp2_with fail
    go_ret2
    exact freePost_nil (below_call hb1)
  case pos =>
    have hd : decide (a.sz < 100000) = true := by simpa using h1
    have e1 := HD.out
    unfold freeRes at e1
    rw [if_pos h1] at e1
    have HE := Lib.hid e1
    have hwk := walk1_ff k n a
    have hwl := walk1_ff_len [] k n a
    have hinc := vars1_inc k n a
    clear HD e1
    go_enter Try.func26, Try.ntmps26
    go_wp2_with fail
    refine (tsmall_any a k n _ p l cap (his.alloc _)).mono ?_
    rintro e w1 ⟨rfl, hb1⟩
    have B1 := below_call hb1
    have i1 := his.below B1
    have t1 := box3_later hb1 (heap_new w (.cells #[.int .i64 k, .int .i64 n, .slice p l cap] 35))
    have T1 := Lib.hid t1
    have HW := Lib.hid hwk
    have HIN := Lib.hid hinc
    obtain ⟨x1, x2, x3⟩ := box3_cells t1
    have hz1 := lt_of_block t1
    have f2 : FI (w1.heap.size + 1) w1.heap.size [] ((w1.alloc (Obj.map #[] 0)).alloc (.cells #[.map (some w1.heap.size)] 75)) := by
      refine ⟨heap_new2 w1 _ _, ?_, by omega⟩
      exact (World.ownsMap_made (H := Unit) w1 Try.prog 3 (plainElem (H := Unit) Try.prog 4)).alloc _
    have i2 : IsX ((w1.alloc (Obj.map #[] 0)).alloc (.cells #[.map (some w1.heap.size)] 75)) a p l cap := (i1.alloc _).alloc _
    have B2 := (B1.alloc B1.size (Obj.map #[] 0)).alloc (by simp; omega) (.cells #[.map (some w1.heap.size)] 75)
    have HF2 := Lib.hid f2
    have HAL := Lib.hid (fun W h h' => all_free (w1.heap.size + 1) w1.heap.size (a.sz + 1) a [] k n W p l cap (Nat.lt_succ_self _) (by simp; omega) h hw hwa h')
    obtain ⟨S, r, hSr⟩ : ∃ S r, X.walk1 ff [] k n a = (S, r) := ⟨_, _, rfl⟩
    rw [hSr] at HAL HW hwl HE
    dsimp only at HAL HW hwl HE
    clear hb1 t1 hwk hinc f2 i1 hSr
    go_wp2_with fail
    refine (HAL.out _ HF2.out i2).mono ?_
    rintro e w3 ⟨rfl, hF3, hg3⟩
    have B3 : Below w.heap.size w w3 := B2.trans (grown_below B2.size (by have := hz1; omega) hg3)
    have HF3 := Lib.hid hF3
    have k1 := cell_of_one hF3.1
    clear hF3 hg3 i2 B2 x1 x2 x3
    cases r with
    | false =>
      have e2 := HE.out
      rw [if_neg (by simp)] at e2
      obtain ⟨rfl, rfl⟩ := Prod.mk.inj e2
      clear HE e2
      go_wp2_with fail
      go_ret2
      exact freePost_nil B3
    | true =>
      have e2 := HE.out
      rw [if_pos rfl] at e2
      obtain ⟨rfl, rfl⟩ := Prod.mk.inj e2
      have hmem := HW.out.2 rfl
      have HSO := Lib.hid (fun W h h' => sorted_any S (vars1 k n a []) w1.heap.size w3.heap.size W (by simp at hwl; omega) HIN.out hmem h h')
      clear HE e2 hmem
      go_wp2_with fail
      refine (keys_any _ _).mono ?_
      rintro e w4 ⟨rfl, rfl⟩
      go_wp2_with fail
      refine (HSO.out _ (heap_new _ _) (HF3.out.2.1.alloc _)).mono ?_
      rintro e w5 ⟨q, c, rfl, hi, hb5⟩
      go_wp2_with fail
      go_ret2
      exact ⟨q, c, rfl, hi, (B3.alloc B3.size _).trans (hb5.mono (by simp; have := B3.size; omega))⟩

set_option maxRecDepth 100000 in
set_option maxHeartbeats 2000000 in
theorem reffree_any (k n : Int) (a : X) (w : World) (p : Option Addr) (l cap : Nat) (his : IsX w a p l cap) (E : Int) (L : List Int) (hres : freeRes k n a = (E, L)) :
    Calls Try.prog 27 #[.agg #[.int .i64 k, .int .i64 n, .slice p l cap]] w (FreePost w E L) := by
  have HD := Lib.hid hres
  clear hres
  by_cases h1 : a.sz < 100000
  case neg =>
    have e1 := HD.out
    unfold freeRes at e1
    rw [if_neg h1] at e1
    obtain ⟨rfl, rfl⟩ := Prod.mk.inj e1
    have hd : decide (a.sz < 100000) = false := by simpa using h1
    clear HD e1
    go_enter Try.func27, Try.ntmps27
    go_wp2_with fail
    refine (tlarge_any a k n _ p l cap (his.alloc _)).mono ?_
    rintro e w1 ⟨rfl, hb1⟩
    go_wp2_with fail
    go_ret2
    exact freePost_nil (below_call hb1)
  case pos =>
    have hd : decide (a.sz < 100000) = true := by simpa using h1
    have e1 := HD.out
    unfold freeRes at e1
    rw [if_pos h1] at e1
    have hwk := (walk1_ff k n a).1
    have hinc := vars1_inc k n a
    have hvl := vars1_zero k n a h1
    have HVA := Lib.hid (fun W h => variables_any (a.sz + 1) a k n [] W p l cap none 0 0 (Nat.lt_succ_self _) (by simp; omega) h (isI_nil W))
    obtain ⟨V, hV⟩ : ∃ V, vars1 k n a [] = V := ⟨_, rfl⟩
    rw [hV] at e1 hwk hinc hvl HVA
    clear HD hV
    go_enter Try.func27, Try.ntmps27
    have HE := Lib.hid e1
    have HW := Lib.hid hwk
    have HIN := Lib.hid hinc
    clear e1 hwk hinc
    go_wp2_with fail
    refine (tlarge_any a k n _ p l cap (his.alloc _)).mono ?_
    rintro e w1 ⟨rfl, hb1⟩
    have B1 := below_call hb1
    have i1 := his.below B1
    obtain ⟨x1, x2, x3⟩ := box3_cells (box3_later hb1 (heap_new w (.cells #[.int .i64 k, .int .i64 n, .slice p l cap] 35)))
    clear hb1
    go_wp2_with fail
    refine (HVA.out _ i1).mono ?_
    rintro e w2 ⟨q, c, rfl, hi, hb2⟩
    have B2 := B1.trans (hb2.mono B1.size)
    obtain ⟨_, hc1, hc2, hr⟩ := id hi
    unfold maxLen at hc2
    clear hb2 x1 x2 x3 i1 HVA
    cases V with
    | nil =>
      have hok : (X.walk1 ff [] k n a).2 = true := HW.out.2 (by simp)
      have e2 := HE.out
      rw [if_pos hok] at e2
      obtain ⟨rfl, rfl⟩ := Prod.mk.inj e2
      clear HE HW e2 hok hr
      have HI := Lib.hid hi
      clear hi
      go_wp2_with fail
      go_ret2
      exact ⟨q, c, rfl, HI.out, B2⟩
    | cons x V =>
      rcases hr with ⟨_, h0⟩ | ⟨lb, lo, rfl, hlb, hcell⟩
      · simp at hc1; omega
      have hcx := hcell 0 x rfl
      rw [Nat.add_zero] at hcx
      have HI := Lib.hid hi
      have hlen0 : 0 < (x :: V).length := by simp
      clear hcell hi
      by_cases hx : x < 0
      · have hbad : (X.walk1 ff [] k n a).2 = false := by
          cases hb : (X.walk1 ff [] k n a).2 with
          | false => rfl
          | true => have := HW.out.1 hb x (by simp); omega
        have e2 := HE.out
        rw [if_neg (by rw [hbad]; simp)] at e2
        obtain ⟨rfl, rfl⟩ := Prod.mk.inj e2
        have hdx : decide (x < 0) = true := by simpa using hx
        clear HE HW e2 hbad
        generalize (x :: V).length = len at hc1 hlen0 hvl HI ⊢
        go_wp2_with fail
        go_ret2
        exact freePost_nil B2
      · have hok : (X.walk1 ff [] k n a).2 = true := HW.out.2 fun v hv => by
          rcases List.mem_cons.1 hv with e | e
          · omega
          · have := (List.pairwise_cons.1 HIN.out).1 v e; omega
        have e2 := HE.out
        rw [if_pos hok] at e2
        obtain ⟨rfl, rfl⟩ := Prod.mk.inj e2
        have hdx : decide (x < 0) = false := by simpa using hx
        clear HE HW e2 hok
        have hfin : ∀ w', Below w.heap.size w w' → IsI w' (x :: V) (some ⟨lb, lo, none⟩) (x :: V).length c → FreePost w 0 (x :: V) (.returned (.tuple #[.slice (some ⟨lb, lo, none⟩) (x :: V).length c, .int .i64 0])) w' := fun w' hb hi => ⟨_, _, rfl, hi, hb⟩
        have HFIN := Lib.hid (hfin _ B2 HI.out)
        clear hfin
        generalize (x :: V).length = len at hc1 hlen0 hvl HFIN ⊢
        go_wp2_with fail
        go_ret2
        exact HFIN.out

set_option maxRecDepth 100000 in
set_option maxHeartbeats 2000000 in
/-- the law's comparison of one list with itself -/
theorem ints_true (L : List Int) (w : World) (p q : Option Addr) (n c m c' : Nat) (h1 : IsI w L p n c) (h2 : IsI w L q m c') :
    Calls Try.prog 28 #[.slice p n c, .slice q m c'] w fun e w' => e = .returned (.bool true) ∧ Below w.heap.size w w' := by
  obtain ⟨rfl, hc1, hm1, hr1⟩ := h1
  obtain ⟨rfl, hc2, hm2, hr2⟩ := h2
  unfold maxLen at hm1 hm2
  go_enter Try.func28, Try.ntmps28
  go_wp2_with fail
  go_loopw [13] (fun i wr => ∃ j : Nat, j ≤ L.length ∧ i = .int .i64 (j : Int) ∧ Below w.heap.size w wr)
    (fun i _ => L.length - (Go.RowKit.intOf i).toNat)
  case atStart => exact ⟨0, Nat.zero_le _, rfl, Below.refl _ _⟩
  case round =>
    obtain ⟨j, hj, rfl, hb⟩ := hrel
    by_cases hlt : j < L.length
    · rcases hr1 with ⟨_, h0⟩ | ⟨b1, o1, rfl, hb1, hx1⟩
      · omega
      rcases hr2 with ⟨_, h0⟩ | ⟨b2, o2, rfl, hb2, hx2⟩
      · omega
      obtain ⟨x, hx⟩ : ∃ x, L[j] = x := ⟨_, rfl⟩
      have hc1' := ((bcell hb).1 b1 (o1 + j) hb1).trans (hx1 j x (by rw [List.getElem?_eq_getElem hlt, hx]))
      have hc2' := ((bcell hb).1 b2 (o2 + j) hb2).trans (hx2 j x (by rw [List.getElem?_eq_getElem hlt, hx]))
      have hd : (x != x) = false := by simp
      clear hx1 hx2 hx
      go_wp2_with fail
      go_quiet (fail)
      go_wp2_with fail
      go_roundw
      case rel => exact ⟨j + 1, by omega, by go_num, below_drewN hb _⟩
      case measure => simp [Go.RowKit.intOf]; omega
    · go_wp2_with fail
      go_ret
      exact ⟨rfl, hb⟩

set_option maxRecDepth 100000 in
set_option maxHeartbeats 4000000 in
theorem law_free (hal : Alive) (a : X) (k n : Int) (w : World) (p : Option Addr) (l cap : Nat) (his : IsX w a p l cap) (hw : wf64 n) (hwa : WfX a) :
    Calls Try.prog 6 #[.agg #[.int .i64 k, .int .i64 n, .slice p l cap]] w fun e w' => e = .returned (.bool true) ∧ Below w.heap.size w w' := by
  have HAL := Lib.hid hal
  clear hal
  obtain ⟨E, L, hres⟩ : ∃ E L, freeRes k n a = (E, L) := ⟨_, _, rfl⟩
  have HD := Lib.hid (fun W h => different_any a k n W p l cap h)
  have HP := Lib.hid (fun W h => tfree_any k n a W p l cap h hw hwa E L hres)
  have HR := Lib.hid (fun W h => reffree_any k n a W p l cap h E L hres)
  have HI := Lib.hid (fun W p q n c m c' h1 h2 => ints_true L W p q n c m c' h1 h2)
  clear hres hw hwa
  cases hdf : diffB a with
  | true =>
    rw [hdf] at HD
    clear hdf
    go_enter Try.func6, Try.ntmps6
    go_wp2_with fail
    refine (HD.out _ (his.alloc _)).mono ?_
    rintro e w1 ⟨rfl, hb1⟩
    go_wp2_with fail
    refine (alive_late HAL.out (below_call hb1)).mono ?_
    rintro e w4 ⟨rfl, hb4⟩
    go_wp2_with fail
    go_ret
    exact ⟨rfl, hb4⟩
  | false =>
    rw [hdf] at HD
    clear hdf
    go_enter Try.func6, Try.ntmps6
    go_wp2_with fail
    refine (HD.out _ (his.alloc _)).mono ?_
    rintro e w0 ⟨rfl, hb0⟩
    have t0 := box3_later hb0 (heap_new w (.cells #[.int .i64 k, .int .i64 n, .slice p l cap] 35))
    obtain ⟨x1, x2, x3⟩ := box3_cells t0
    have B0 := below_call hb0
    have a0 := his.below B0
    have T0 := Lib.hid t0
    clear hb0 t0
    go_wp2_with fail
    refine (HP.out _ a0).mono ?_
    rintro e w1 ⟨r, c, rfl, hi1, hb1⟩
    have B1 := B0.trans (hb1.mono B0.size)
    have a1 := his.below B1
    clear x1 x2 x3
    obtain ⟨x1, x2, x3⟩ := box3_cells (box3_later hb1 T0.out)
    have HI1 := Lib.hid hi1
    clear hb1 a0 hi1
    go_wp2_with fail
    refine (HR.out _ a1).mono ?_
    rintro e w2 ⟨r', c', rfl, hi2, hb2⟩
    have B2 := B1.trans (hb2.mono B1.size)
    have i1 := HI1.out.below hb2
    have HI1' := Lib.hid i1
    have HI2 := Lib.hid hi2
    clear hb2 a1 x1 x2 x3 hi2 i1
    go_wp2_with fail
    refine (HI.out _ _ _ _ _ _ _ HI1'.out HI2.out).mono ?_
    rintro e w3 ⟨rfl, hb3⟩
    have B3 := B2.trans (hb3.mono B2.size)
    clear hb3
    go_wp2_with fail
    refine (alive_late HAL.out B3).mono ?_
    rintro e w4 ⟨rfl, hb4⟩
    go_wp2_with fail
    go_ret
    exact ⟨rfl, hb4⟩

end Go.Proofs.Ytlgfaobbjnhfoaa
