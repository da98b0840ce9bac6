/-
  The walk of Subst: what it returns, for whatever term and args. Conditions: at most 2^44 args.
-/
import Derived.Test.YtlgfaobbjnhfoaaTWalkI
import Derived.Deep.OwnRows
set_option linter.unusedSimpArgs false
set_option linter.unusedVariables false
namespace Go.Proofs.Ytlgfaobbjnhfoaa
open Go.RowKit

theorem infoI : (Try.prog.info? 3).map (fun i => (i.zero, i.size, i.bytes)) = some (some (.int .i64 0), 1, 8) := by kernel_rfl

/-- each term of a list has at most 100000 nodes -/
def smalls : X → Bool
  | .nil => true
  | .cons _ _ a r => decide (a.sz < 100000) && smalls r

theorem smalls_at {t : X} : ∀ {i : Nat}, smalls t = true → i < t.len → (t.ga i).sz < 100000 := by
  induction t with
  | nil => intro _ _ h; exact absurd h (Nat.not_lt_zero _)
  | cons k n a r iha ihr =>
    intro i h hi
    simp only [smalls, Bool.and_eq_true, decide_eq_true_eq] at h
    cases i with
    | zero => exact h.1
    | succ i => exact ihr h.2 (by simp only [X.len] at hi; omega)

theorem smalls_of {t : X} : (∀ i, i < t.len → (t.ga i).sz < 100000) → smalls t = true := by
  induction t with
  | nil => intro _; rfl
  | cons k n a r iha ihr =>
    intro h
    simp only [smalls, Bool.and_eq_true, decide_eq_true_eq]
    exact ⟨h 0 (by simp [X.len]), ihr fun i hi => h (i + 1) (by simp only [X.len]; omega)⟩

theorem smalls_not {t : X} {i : Nat} (hi : i < t.len) (h : ¬ (t.ga i).sz < 100000) : smalls t = false := by
  cases hs : smalls t with
  | false => rfl
  | true => exact absurd (smalls_at hs hi) h

def kn1 (args : X) (k n : Int) (a : X) : Bool := kn args k n a && allB (kn args) a

/-- what Subst returns: an error, and a term -/
def subRes (args : X) (k n : Int) (a : X) : Int × Int × Int × X :=
  if a.sz < 100000 then
    if smalls args = true then
      if kn1 args k n a = true then
        if g1 args k n + gsz args a ≤ 100000 then (0, rep1 args k n (rep args a)) else (3, 0, 0, .nil)
      else (2, 0, 0, .nil)
    else (3, 0, 0, .nil)
  else (3, 0, 0, .nil)

/-- the row of the sizes while it is filled -/
def SzRow (args : X) (sb j : Nat) (w : World) : Prop := ∃ cs : Array Value, w.heap[sb]? = some (.cells cs 3 (0, 0)) ∧ cs.size = args.len ∧ ∀ i, i < j → cs[i]? = some (.int .i64 (1 + ((args.ga i).sz : Int))) ∧ (args.ga i).sz < 100000

theorem SzRow.keep {args : X} {sb j : Nat} {w w' : World} (h : SzRow args sb j w) (hk : w'.heap[sb]? = w.heap[sb]?) : SzRow args sb j w' := by
  obtain ⟨cs, h1, h2⟩ := h
  exact ⟨cs, by rw [hk]; exact h1, h2⟩

theorem SzRow.cell {args : X} {sb j : Nat} {w : World} (h : SzRow args sb j w) {i : Nat} (hi : i < args.len) : (∃ v, w.cell? ⟨sb, i, none⟩ = some v) ∧ w.frozen? ⟨sb, i, none⟩ = false := by
  obtain ⟨cs, h1, h2, _⟩ := h
  refine ⟨⟨cs[i]'(by omega), ?_⟩, ?_⟩
  · rw [cell_of_row w sb i cs _ _ h1]; exact Array.getElem?_eq_getElem (by omega)
  · simp [World.frozen?, h1]

theorem SzRow.set {args : X} {sb j : Nat} {w : World} (h : SzRow args sb j w) (hj : j < args.len) {z : Int} (hz : z = 1 + ((args.ga j).sz : Int)) (hs : (args.ga j).sz < 100000) : SzRow args sb (j + 1) (w.setCell ⟨sb, j, none⟩ (.int .i64 z)) := by
  obtain ⟨cs, h1, h2, h3⟩ := h
  subst hz
  refine ⟨_, heap_setCell_same w sb j cs _ _ h1, by simp [h2], fun i hi => ?_⟩
  by_cases he : i = j
  · subst he
    exact ⟨by simp [h2, hj], hs⟩
  · have := h3 i (by omega)
    refine ⟨?_, this.2⟩
    rw [Array.getElem?_setIfInBounds_ne (fun e => he e.symm)]
    exact this.1

theorem SzRow.sizes {args : X} {sb : Nat} {w : World} (h : SzRow args sb args.len w) : Sizes args sb w := by
  obtain ⟨cs, h1, h2, h3⟩ := h
  intro i hi
  exact ⟨by rw [cell_of_row w sb i cs _ _ h1]; exact (h3 i hi).1, (h3 i hi).2⟩

theorem heap3 (w : World) (x y z : Obj) : (((w.alloc x).alloc y).alloc z).heap[w.heap.size]? = some x ∧ (((w.alloc x).alloc y).alloc z).heap[w.heap.size + 1]? = some y ∧ (((w.alloc x).alloc y).alloc z).heap[w.heap.size + 1 + 1]? = some z := by
  refine ⟨alloc_kept (alloc_kept (heap_new w x) y) z, alloc_kept (heap_new2 w x y) z, ?_⟩
  have h := heap_new2 (w.alloc x) y z
  rw [World.size_alloc] at h
  exact h

/-- the variables of Subst, in their blocks -/
def Vars3 (w : World) (x y z : Obj) (W : World) : Prop := W.heap[w.heap.size]? = some x ∧ W.heap[w.heap.size + 1]? = some y ∧ W.heap[w.heap.size + 1 + 1]? = some z ∧ Below w.heap.size w W

theorem Vars3.below {w W W' : World} {x y z : Obj} (h : Vars3 w x y z W) (hb : Below W.heap.size W W') : Vars3 w x y z W' :=
  ⟨box3_later hb h.1, box3_later hb h.2.1, box3_later hb h.2.2.1, h.2.2.2.trans (hb.mono h.2.2.2.size)⟩

theorem Vars3.start (w : World) (x y z : Obj) : Vars3 w x y z (((w.alloc x).alloc y).alloc z) :=
  ⟨(heap3 w x y z).1, (heap3 w x y z).2.1, (heap3 w x y z).2.2, (((Below.refl w.heap.size w).alloc (Nat.le_refl _) _).alloc (by simp) _).alloc (by simp; omega) _⟩

theorem Vars3.set {w W : World} {x y z : Obj} (h : Vars3 w x y z W) {b : Nat} (hb : w.heap.size + 1 + 1 < b) (o : Nat) (v : Value) : Vars3 w x y z (W.setCell ⟨b, o, none⟩ v) :=
  ⟨by rw [Below.heap_setCell _ _ _ _ (by show w.heap.size ≠ b; omega)]; exact h.1, by rw [Below.heap_setCell _ _ _ _ (by show w.heap.size + 1 ≠ b; omega)]; exact h.2.1,
    by rw [Below.heap_setCell _ _ _ _ (by show w.heap.size + 1 + 1 ≠ b; omega)]; exact h.2.2.1, h.2.2.2.setCell (by show w.heap.size ≤ b; omega) _⟩

theorem setCell_size (w : World) (a : Addr) (v : Value) : (w.setCell a v).heap.size = w.heap.size := by simp [World.setCell]

set_option maxRecDepth 100000 in
set_option maxHeartbeats 4000000 in
theorem subst_any (args a : X) (k n : Int) (w : World) (p q : Option Addr) (l cap m cap' : Nat) (his : IsX w a p l cap) (hia : IsX w args q m cap') (hbig : args.len ≤ 17592186044416) (E K Nn : Int) (A : X) (hres : subRes args k n a = (E, K, Nn, A)) :
    Calls Try.prog 29 #[.agg #[.int .i64 k, .int .i64 n, .slice p l cap], .slice q m cap'] w fun e w' =>
      ∃ r c, e = .returned (.tuple #[.agg #[.int .i64 K, .int .i64 Nn, .slice r A.len c], .int .i64 E]) ∧ OwnX w' A r c w.heap.size w'.heap.size ∧ Below w.heap.size w w' := by
  have HD := Lib.hid hres
  clear hres
  obtain ⟨hn, hcap, hmax, hnil, hrow⟩ := id hia
  subst hn
  unfold maxLen at hmax
  have hmk := run_make_row' (P := Try.prog) 47 3 (.int .i64 0) 8 Try.underlying47 infoI rfl .i64 .i64 args.len (by omega) (by omega)
  go_enter Try.func29, Try.ntmps29
  go_wp2_with fail
  refine (tsmall_any a k n _ p l cap (((his.alloc _).alloc _).alloc _)).mono ?_
  rintro e w1 ⟨rfl, hb1⟩
  have V1 := (Vars3.start w _ _ _).below hb1
  have hz1 := hb1.size
  simp only [World.size_alloc] at hz1
  clear hb1
  obtain ⟨r1, r2, r3⟩ := box3_cells V1.2.2.1
  obtain ⟨f1, f2, f3⟩ := free3 V1.2.2.1
  obtain ⟨t1, t2, t3⟩ := box3_cells V1.1
  have a1 := cell_box V1.2.1
  by_cases h1 : a.sz < 100000
  case neg =>
    have e1 := HD.out
    unfold subRes at e1
    rw [if_neg h1] at e1
    obtain ⟨rfl, rfl, rfl, rfl⟩ : 3 = E ∧ 0 = K ∧ 0 = Nn ∧ X.nil = A := by simpa using e1
    have hd : decide (a.sz < 100000) = false := by simpa using h1
    clear HD e1
    go_wp2_with fail
    exact bodyPost_ret (v := .tuple #[.agg #[.int .i64 0, .int .i64 0, .slice none 0 0], .int .i64 3]) (by simp [results, Try.results29, go_sem, r1, r2, r3]) rfl ⟨none, 0, rfl, ownX_nil _ _ _, below_set3 _ _ _ V1.2.2.2 (by omega)⟩
  case pos =>
    have hd : decide (a.sz < 100000) = true := by simpa using h1
    have A1 := fun x => (keep_alloc w1 x (w.heap.size + 1) 0 (by omega)).trans a1
    go_wp2_with fail
    have V2 : Vars3 w _ _ _ (w1.alloc (.cells (madeCells #[.int .i64 0] args.len) 3)) := V1.below ((Below.refl _ _).alloc (Nat.le_refl _) _)
    have S2 : SzRow args w1.heap.size 0 (w1.alloc (.cells (madeCells #[.int .i64 0] args.len) 3)) := ⟨_, heap_new _ _, by simp [size_madeCells], fun i hi => absurd hi (Nat.not_lt_zero _)⟩
    have hsb0 : w1.heap.size < (w1.alloc (.cells (madeCells #[.int .i64 0] args.len) 3)).heap.size := by simp
    generalize (w1.alloc (.cells (madeCells #[.int .i64 0] args.len) 3)) = W2 at V2 S2 hsb0 ⊢
    generalize w1.heap.size = sb at S2 hz1 hsb0 ⊢
    have HS2 := Lib.hid S2
    have HV2 := Lib.hid V2
    clear V1 r1 r2 r3 f1 f2 f3 t1 t2 t3 a1 A1 V2 S2 hmk
    go_loopw [19] (fun i wr => ∃ j : Nat, j ≤ args.len ∧ i = .int .i64 (j : Int) ∧ SzRow args sb j wr ∧ sb < wr.heap.size ∧ Vars3 w (.cells #[.int .i64 k, .int .i64 n, .slice p l cap] 35) (.cells #[.slice q args.len cap'] 33) (.cells #[.int .i64 0, .int .i64 0, .slice none 0 0] 35) wr)
      (fun i _ => args.len - (intOf i).toNat)
    case atStart => exact ⟨0, Nat.zero_le _, rfl, HS2.out, hsb0, HV2.out⟩
    case round =>
      clear HS2 HV2 hsb0
      obtain ⟨j, hj, rfl, hS, hsb, hV⟩ := hrel
      obtain ⟨r1, r2, r3⟩ := box3_cells hV.2.2.1
      obtain ⟨f1, f2, f3⟩ := free3 hV.2.2.1
      obtain ⟨t1, t2, t3⟩ := box3_cells hV.1
      have a1 := cell_box hV.2.1
      have HS := Lib.hid hS
      have HV := Lib.hid hV
      have hzr := hV.2.2.2.size
      clear hS hV
      by_cases hlt : j < args.len
      · clear r1 r2 r3 f1 f2 f3 t1 t2 t3 a1
        rcases hrow with h0 | ⟨b, off, rfl, hr⟩
        · omega
        obtain ⟨hck, hcn, p', n', cap1, hc, hi⟩ := base3_at (Keeps3.below HV.out.2.2.2 (Nat.le_refl _)) hr hlt
        obtain ⟨⟨v0, g0⟩, g1'⟩ := HS.out.cell hlt
        go_wp2_with fail
        refine (count_any (args.ga j) _ _ _ p' n' cap1 (hi.alloc _)).mono ?_
        rintro e w2 ⟨rfl, hb2⟩
        have hlow : ∀ b o, b < wr.heap.size → w2.cell? ⟨b, o, none⟩ = wr.cell? ⟨b, o, none⟩ := fun b o h => ((bcell hb2).1 b o (by simp; omega)).trans (keep_alloc _ _ _ _ h)
        have hfro : ∀ b o, b < wr.heap.size → w2.frozen? ⟨b, o, none⟩ = wr.frozen? ⟨b, o, none⟩ := fun b o h => ((bcell hb2).2 b o (by simp; omega)).trans (((Below.refl wr.heap.size wr).alloc (Nat.le_refl _) _).frozen (p := ⟨b, o, none⟩) h)
        have hV2 := HV.out.below (below_call hb2)
        have hS2 := HS.out.keep ((below_call hb2).block sb hsb)
        have hz2 := (below_call hb2).size
        have x1 := (hlow sb j hsb).trans g0
        have x2 := (hfro sb j hsb).trans g1'
        obtain ⟨r1, r2, r3⟩ := box3_cells hV2.2.2.1
        obtain ⟨f1, f2, f3⟩ := free3 hV2.2.2.1
        have HV3 := Lib.hid hV2
        have HS3 := Lib.hid hS2
        clear hV2 hS2 hlow hfro hb2 g0 g1' HS HV
        by_cases hsm : (args.ga j).sz < 100000
        · obtain ⟨z, hz⟩ : ∃ z, ((min (1 + (args.ga j).sz) 100001 : Nat) : Int) = z := ⟨_, rfl⟩
          have hz' : z = 1 + ((args.ga j).sz : Int) := by omega
          have hd2 : (z == 100001) = false := by simp; omega
          rw [hz]
          have hV4 := HV3.out.set (show w.heap.size + 1 + 1 < sb by omega) j (.int .i64 z)
          have hS4 := HS3.out.set hlt hz' hsm
          have HV4 := Lib.hid hV4
          have HS4 := Lib.hid hS4
          clear hV4 hS4 hz hz'
          go_wp2_with fail
          go_roundw
          case rel => exact ⟨j + 1, by omega, by go_num, HS4.out, by rw [setCell_size]; omega, HV4.out⟩
          case measure => simp [intOf]; omega
        · have hz : ((min (1 + (args.ga j).sz) 100001 : Nat) : Int) = 100001 := by omega
          rw [hz]
          have hsf := smalls_not hlt hsm
          have e1 := HD.out
          unfold subRes at e1
          rw [if_pos h1, if_neg (by rw [hsf]; simp)] at e1
          obtain ⟨rfl, rfl, rfl, rfl⟩ : 3 = E ∧ 0 = K ∧ 0 = Nn ∧ X.nil = A := by simpa using e1
          have hV4 := HV3.out.set (show w.heap.size + 1 + 1 < sb by omega) j (.int .i64 100001)
          have HV4 := Lib.hid hV4
          clear HD e1 hsf hV4
          go_wp2_with fail
          exact bodyPost_ret (v := .tuple #[.agg #[.int .i64 0, .int .i64 0, .slice none 0 0], .int .i64 3]) (by simp [results, Try.results29, go_sem, r1, r2, r3]) rfl ⟨none, 0, rfl, ownX_nil _ _ _, below_set3 _ _ _ HV4.out.2.2.2 (by omega)⟩
      · obtain rfl : j = args.len := by omega
        have hsm : smalls args = true := smalls_of fun i hi => (HS.out.sizes i hi).2
        have hSz := HS.out.sizes
        have hat := fun i (hi : i < args.len) => smalls_at hsm hi
        have ix : IsX wr a p l cap := his.below HV.out.2.2.2
        have iax : IsX wr args q args.len cap' := hia.below HV.out.2.2.2
        have HH := Lib.hid hat
        have HZ := Lib.hid hSz
        clear HS hSz hat hrow
        go_wp2_with fail
        refine (all_known args (w.heap.size + 1) q cap' a k n _ p l cap a1 ix).mono ?_
        rintro e w3 ⟨rfl, hb3⟩
        have V3 := HV.out.below hb3
        have ix3 := ix.below hb3
        have iax3 := iax.below hb3
        have hS3 : Sizes args sb w3 := fun i hi => ⟨((bcell hb3).1 _ _ hsb).trans (HZ.out i hi).1, (HZ.out i hi).2⟩
        have hz3 := hb3.size
        obtain ⟨r1, r2, r3⟩ := box3_cells V3.2.2.1
        obtain ⟨f1, f2, f3⟩ := free3 V3.2.2.1
        obtain ⟨t1, t2, t3⟩ := box3_cells V3.1
        have a1 := cell_box V3.2.1
        have HV3 := Lib.hid V3
        have HZ3 := Lib.hid hS3
        clear hb3 HV HZ V3 hS3 ix iax
        cases hkn : kn1 args k n a with
        | false =>
          have e1 := HD.out
          unfold subRes at e1
          rw [if_pos h1, if_pos hsm, if_neg (by rw [hkn]; simp)] at e1
          obtain ⟨rfl, rfl, rfl, rfl⟩ : 2 = E ∧ 0 = K ∧ 0 = Nn ∧ X.nil = A := by simpa using e1
          have hd2 : (kn args k n a && allB (kn args) a) = false := hkn
          rw [hd2]
          clear HD e1 hkn hd2 hsm
          go_wp2_with fail
          exact bodyPost_ret (v := .tuple #[.agg #[.int .i64 0, .int .i64 0, .slice none 0 0], .int .i64 2]) (by simp [results, Try.results29, go_sem, r1, r2, r3]) rfl ⟨none, 0, rfl, ownX_nil _ _ _, below_set3 _ _ _ HV3.out.2.2.2 (by omega)⟩
        | true =>
          have hd2 : (kn args k n a && allB (kn args) a) = true := hkn
          rw [hd2]
          obtain ⟨hk1, hk2⟩ : kn args k n a = true ∧ allB (kn args) a = true := by simpa using hd2
          have hK := kn_known hk1
          have hA := AllX_mono (fun _ _ _ h => kn_known h) (allB_AllX hk2)
          have HK := Lib.hid hK
          have HA := Lib.hid hA
          clear hk1 hk2 hd2 hK hA
          go_wp2_with fail
          refine (roomy_any args a k n _ p l cap sb ix3 HZ3.out (by omega) HK.out HA.out).mono ?_
          rintro e w4 ⟨rfl, hb4⟩
          have V4 := HV3.out.below hb4
          have ix4 := ix3.below hb4
          have iax4 := iax3.below hb4
          have hz4 := hb4.size
          obtain ⟨r1, r2, r3⟩ := box3_cells V4.2.2.1
          obtain ⟨f1, f2, f3⟩ := free3 V4.2.2.1
          obtain ⟨t1, t2, t3⟩ := box3_cells V4.1
          have a1 := cell_box V4.2.1
          have HV4 := Lib.hid V4
          clear hb4 HV3 HZ3 V4 ix3 iax3
          by_cases hr : g1 args k n + gsz args a ≤ 100000
          · have hd3 : decide (g1 args k n + gsz args a ≤ 100000) = true := by simpa using hr
            have e1 := HD.out
            unfold subRes at e1
            rw [if_pos h1, if_pos hsm, if_pos hkn, if_pos hr] at e1
            obtain ⟨e2, e3⟩ := Prod.mk.inj e1
            subst e2
            rw [hd3]
            have hR := fun W h h' => replace_any args HH.out (a.sz + 1) a k n W p q l cap args.len cap' (Nat.lt_succ_self _) h1 HK.out HA.out h h'
            rw [e3] at hR
            have HR := Lib.hid hR
            clear hR e1 e3 HD hkn hsm hr hd3
            go_wp2_with fail
            refine (HR.out _ ix4 iax4).mono ?_
            rintro e w5 ⟨r, c, rfl, hO, hb5⟩
            have V5 := HV4.out.below hb5
            obtain ⟨r1, r2, r3⟩ := box3_cells V5.2.2.1
            obtain ⟨f1, f2, f3⟩ := free3 V5.2.2.1
            have HV5 := Lib.hid V5
            clear hb5 V5 HV4
            go_wp2_with fail
            exact bodyPost_ret (v := .tuple #[.agg #[.int .i64 K, .int .i64 Nn, .slice r A.len c], .int .i64 0]) (by simp [results, Try.results29, go_sem, r1, r2, r3]) rfl ⟨r, c, rfl, hO.set3 _ _ _ (by omega) (by omega), below_set3 _ _ _ HV5.out.2.2.2 (by omega)⟩
          · have hd3 : decide (g1 args k n + gsz args a ≤ 100000) = false := by simpa using hr
            have e1 := HD.out
            unfold subRes at e1
            rw [if_pos h1, if_pos hsm, if_pos hkn, if_neg hr] at e1
            obtain ⟨rfl, rfl, rfl, rfl⟩ : 3 = E ∧ 0 = K ∧ 0 = Nn ∧ X.nil = A := by simpa using e1
            rw [hd3]
            clear HD e1 hkn hsm hr hd3
            go_wp2_with fail
            exact bodyPost_ret (v := .tuple #[.agg #[.int .i64 0, .int .i64 0, .slice none 0 0], .int .i64 3]) (by simp [results, Try.results29, go_sem, r1, r2, r3]) rfl ⟨none, 0, rfl, ownX_nil _ _ _, below_set3 _ _ _ HV4.out.2.2.2 (by omega)⟩

end Go.Proofs.Ytlgfaobbjnhfoaa
