/-
  The walk of the reference's Of: the sort of a term, if it has one. Conditions: the place is a valid one in memory, the term lies in memory.
-/
import Derived.Test.YtlgfaobbjnhfoaaTPlainO
import Derived.Test.YtlgfaobbjnhfoaaTWalkX
set_option linter.unusedSimpArgs false
set_option linter.unusedVariables false
namespace Go.Proofs.Ytlgfaobbjnhfoaa
open Go.RowKit

theorem of_stays {w0 w w1 wr w'' : World} {o x y z : Obj} {v : Value} (hle : w0.heap.size ≤ w.heap.size) (hz : w.heap.size + 3 ≤ w1.heap.size) (hb : Below (w1.alloc o).heap.size (w1.alloc o) wr)
    (hw : ∀ j, (j < w0.heap.size ∨ w.heap.size ≤ j) → j < (wr.setCell ⟨w.heap.size + 1 + 1, 0, none⟩ v).heap.size → w''.heap[j]? = (wr.setCell ⟨w.heap.size + 1 + 1, 0, none⟩ v).heap[j]?) :
    ∀ j, (j < w0.heap.size ∨ (((w.alloc x).alloc y).alloc z).heap.size ≤ j) → j < w1.heap.size → w''.heap[j]? = w1.heap[j]? := by
  intro j hj hlt
  have hs : (((w.alloc x).alloc y).alloc z).heap.size = w.heap.size + 3 := by simp
  rw [hs] at hj
  have hsz := hb.size
  simp only [World.size_alloc] at hsz
  rw [hw j (by omega) (by rw [setCell_size]; omega), Below.heap_setCell _ _ _ _ (by show j ≠ w.heap.size + 1 + 1; omega), hb.block j (by simp; omega), Below.heap_alloc _ _ _ hlt]

theorem ofR_no1 {x : Pl} {k n : Int} {a : X} (h : (rsT x k n a.len).2 = false) : ofR x k n a = (.nil, false) := by
  unfold ofR; rw [h]; rfl

theorem ofR_yes {x : Pl} {k n : Int} {a : X} {H : T} (h1 : hdT x k n = (H, true)) (h2 : a.len ≤ H.len) : ofR x k n a = if ofA x a H 0 = true then (H.drop a.len, true) else (.nil, false) := by
  have e : rsT x k n a.len = (H.drop a.len, true) := by unfold rsT; rw [h1]; rw [if_pos ⟨rfl, h2⟩]
  unfold ofR
  rw [e, h1]
  simp

set_option maxRecDepth 100000 in
set_option maxHeartbeats 6000000 in
theorem refof_any (x : Pl) (a3 : At3) (hp : plOk x = true) (w0 : World) (N : Nat) : ∀ (k n : Int) (a : X) (w : World) (p : Option Addr) (l cap : Nat), a.sz < N → Holds w0 x a3 w → IsX w a p l cap → a.sz < 4611686018427387904 →
    Calls Try.prog 57 #[.agg #[.slice a3.sp a3.sn a3.sc, .slice a3.fp a3.fn a3.fc, .slice a3.pp a3.pn a3.pc], .agg #[.int .i64 k, .int .i64 n, .slice p l cap]] w (Gives w0 (ofR x k n a).1 (ofR x k n a).2 w) := by
  have hS := plOk_syms hp
  induction N with
  | zero => intro k n a w p l cap hN; omega
  | succ N ih =>
    intro k n a w p l cap hN h his hl
    have IH := Lib.hid ih
    clear ih
    have hlen := a.len_le_sz
    obtain ⟨hn, hcap, hmax, hnil, hrow⟩ := id his
    subst hn
    unfold maxLen at hmax
    have hb3 := below3 w
    have hs3 : ∀ x y z, (((w.alloc x).alloc y).alloc z).heap.size = w.heap.size + 3 := by intro x y z; simp
    have hH := fun W h => refhead_any x a3 k n w0 W p a.len cap h hS
    obtain ⟨R, okR, hR⟩ : ∃ R okR, ofR x k n a = (R, okR) := ⟨_, _, rfl⟩
    obtain ⟨H, ok, hHe⟩ : ∃ H ok, hdT x k n = (H, ok) := ⟨_, _, rfl⟩
    have hno : (ok = false ∨ ¬ a.len ≤ H.len) → (R, okR) = (.nil, false) := fun hh => by
      rw [← hR]; apply ofR_no1; unfold rsT; rw [hHe, if_neg]; rintro ⟨e1, e2⟩; rcases hh with hh | hh
      · rw [hh] at e1; cases e1
      · exact hh e2
    have hye : ok = true → a.len ≤ H.len → (R, okR) = if ofA x a H 0 = true then (H.drop a.len, true) else (.nil, false) := fun e1 e2 => by
      subst e1; rw [← hR]; exact ofR_yes hHe e2
    rw [hR]
    rw [hHe] at hH
    dsimp only
    have HH := Lib.hid hH
    have HNO := Lib.hid hno
    have HYE := Lib.hid hye
    clear hH hHe hR hno hye
    cases ok with
    | false =>
      obtain ⟨rfl, rfl⟩ := Prod.mk.inj (HNO.out (Or.inl rfl))
      clear HNO HYE
      go_enter Try.func57, Try.ntmps57
      go_wp2_with fail
      refine (HH.out _ (((h.alloc _).alloc _).alloc _)).mono ?_
      rintro e w1 ⟨q, c, rfl, hi, hb1⟩
      obtain ⟨y0, y1, y2⟩ := heap3 w (a3.box 25) (.cells #[.int .i64 k, .int .i64 n, .slice p a.len cap] 35) (.cells #[.slice none 0 0] 40)
      have r1 := cell_box (box3_later hb1 y2)
      have f1 := free_of_one (box3_later hb1 y2)
      obtain ⟨t1, t2, t3⟩ := box3_cells (box3_later hb1 y1)
      have B := (hb3 _ _ _).trans (hb1.mono (by rw [hs3]; omega))
      have hz := hb1.size
      rw [hs3] at hz
      clear y0 y1 y2 hb1
      have A1 := fun o => (keep_alloc w1 o (w.heap.size + 1) 2 (by omega)).trans t3
      have A2 := fun o => (keep_alloc w1 o (w.heap.size + 1 + 1) 0 (by omega)).trans r1
      have A3 := fun o => ((bcell ((Below.refl w1.heap.size w1).alloc (Nat.le_refl _) o)).2 (w.heap.size + 1 + 1) 0 (by omega)).trans f1
      go_wp2_with fail
      refine bodyPost_ret (v := .tuple #[.agg #[.slice none 0 0], .bool false]) (by simp [results, Try.results57, go_sem, A2]) rfl ⟨none, 0, rfl, stays_nil _ _ _, ?_⟩
      exact (B.alloc (by omega) _).setCell (by simp; omega) _
    | true =>
      by_cases hle : a.len ≤ H.len
      case neg =>
        obtain ⟨rfl, rfl⟩ := Prod.mk.inj (HNO.out (Or.inr hle))
        clear HNO HYE
        have hd4 : decide (H.len < a.len) = true := by simp; omega
        go_enter Try.func57, Try.ntmps57
        go_wp2_with fail
        refine (HH.out _ (((h.alloc _).alloc _).alloc _)).mono ?_
        rintro e w1 ⟨q, c, rfl, hi, hb1⟩
        obtain ⟨y0, y1, y2⟩ := heap3 w (a3.box 25) (.cells #[.int .i64 k, .int .i64 n, .slice p a.len cap] 35) (.cells #[.slice none 0 0] 40)
        have r1 := cell_box (box3_later hb1 y2)
        have f1 := free_of_one (box3_later hb1 y2)
        obtain ⟨t1, t2, t3⟩ := box3_cells (box3_later hb1 y1)
        have B := (hb3 _ _ _).trans (hb1.mono (by rw [hs3]; omega))
        have hz := hb1.size
        rw [hs3] at hz
        clear y0 y1 y2 hb1
        have A1 := fun o => (keep_alloc w1 o (w.heap.size + 1) 2 (by omega)).trans t3
        have A2 := fun o => (keep_alloc w1 o (w.heap.size + 1 + 1) 0 (by omega)).trans r1
        have A3 := fun o => ((bcell ((Below.refl w1.heap.size w1).alloc (Nat.le_refl _) o)).2 (w.heap.size + 1 + 1) 0 (by omega)).trans f1
        go_wp2_with fail
        refine bodyPost_ret (v := .tuple #[.agg #[.slice none 0 0], .bool false]) (by simp [results, Try.results57, go_sem, A2]) rfl ⟨none, 0, rfl, stays_nil _ _ _, ?_⟩
        exact (B.alloc (by omega) _).setCell (by simp; omega) _
      case pos =>
        have hye := HYE.out rfl hle
        obtain ⟨r, hr0⟩ : ∃ r, ofA x a H 0 = r := ⟨_, rfl⟩
        rw [hr0] at hye
        have HRE := Lib.hid hr0
        have HY := Lib.hid hye
        clear HNO HYE hr0 hye
        go_enter Try.func57, Try.ntmps57
        go_wp2_with fail
        refine (HH.out _ (((h.alloc _).alloc _).alloc _)).mono ?_
        rintro e w1 ⟨q, c, rfl, hi, hb1⟩
        obtain ⟨y0, y1, y2⟩ := heap3 w (a3.box 25) (.cells #[.int .i64 k, .int .i64 n, .slice p a.len cap] 35) (.cells #[.slice none 0 0] 40)
        have y0 := box3_later hb1 y0
        have y1 := box3_later hb1 y1
        have y2 := box3_later hb1 y2
        have B := (hb3 (a3.box 25) (.cells #[.int .i64 k, .int .i64 n, .slice p a.len cap] 35) (.cells #[.slice none 0 0] 40)).trans (hb1.mono (by rw [hs3]; omega))
        have h1 := (((h.alloc _).alloc _).alloc _).below hb1
        have hz := hb1.size
        rw [hs3] at hz
        have i1 := hi.here
        have HI := Lib.hid hi
        have HH1 := Lib.hid h1
        have HI1 := Lib.hid i1
        have Y0 := Lib.hid y0
        have Y2 := Lib.hid y2
        have t3 := (box3_cells (alloc_kept y1 (.cells #[.slice q H.len c] 40))).2.2
        have s1 := cell_box (heap_new w1 (.cells #[.slice q H.len c] 40))
        have hd4 : decide (H.len < a.len) = false := by simp; omega
        have Y1 := Lib.hid y1
        clear y0 y1 y2 hb1 hi h1 i1
        go_wp2_with fail
        clear t3 s1 hd4
        go_loopw [33] (fun i wr => ∃ j : Nat, j ≤ a.len ∧ i = .int .i64 (j : Int) ∧ ofA x (a.drop j) H j = r ∧ Below (w1.alloc (.cells #[.slice q H.len c] 40)).heap.size (w1.alloc (.cells #[.slice q H.len c] 40)) wr)
          (fun i _ => a.len - (intOf i).toNat)
        case atStart => exact ⟨0, Nat.zero_le _, rfl, by rw [X.drop_zero]; exact HRE.out, Below.refl _ _⟩
        case round =>
          obtain ⟨j, hj, rfl, hmo, hb⟩ := hrel
          have HM := Lib.hid hmo
          have HBB := Lib.hid hb
          have bw : Below w.heap.size w wr := (B.alloc B.size _).trans (hb.mono (by simp; omega))
          have hzr := hb.size
          simp only [World.size_alloc] at hzr
          have q0 := box3_later hb (alloc_kept Y0.out _)
          have q1 := box3_later hb (alloc_kept Y1.out _)
          have q2 := box3_later hb (alloc_kept Y2.out _)
          have q3 := box3_later hb (heap_new w1 (.cells #[.slice q H.len c] 40))
          have hh : Holds w0 x a3 wr := (HH1.out.alloc _).below hb
          have hiq : IsT wr H q H.len c := (HI1.out.alloc _).below hb
          have Q0 := Lib.hid q0
          have Q1 := Lib.hid q1
          have Q2 := Lib.hid q2
          have Q3 := Lib.hid q3
          have QH := Lib.hid hh
          have QI := Lib.hid hiq
          clear hmo hb q0 q1 q2 q3 hh hiq
          by_cases hlt : j < a.len
          · rcases hrow with h0 | ⟨b, off, rfl, hr⟩
            · omega
            obtain ⟨hck, hcn, p', n', cap', hc, hi⟩ := base3_at (Keeps3.below bw (Nat.le_refl _)) hr hlt
            obtain rfl := hi.1
            have hg := a.sz_ga j hlt
            have hgl := (a.ga j).len_le_sz
            obtain ⟨x1, x2, x3⟩ := boxP_cells (alloc_kept Q0.out (.cells #[.int .i64 (a.gk j), .int .i64 (a.gn j), .slice p' (a.ga j).len cap'] 35))
            go_wp2_with fail
            refine (IH.out (a.gk j) (a.gn j) (a.ga j) _ p' _ cap' (by omega) (QH.out.alloc _) (hi.alloc _) (by omega)).mono ?_
            rintro e w3 ⟨q8, c8, rfl, hi8, hb8⟩
            have hst := ofA_drop x H a j hlt
            rw [HM.out] at hst
            have hof : ofR x (a.gk j) (a.gn j) (a.ga j) = if ((rsT x (a.gk j) (a.gn j) (a.ga j).len).2 && ofA x (a.ga j) (hdT x (a.gk j) (a.gn j)).1 0) = true then ((rsT x (a.gk j) (a.gn j) (a.ga j).len).1, true) else (.nil, false) := rfl
            generalize ((rsT x (a.gk j) (a.gn j) (a.ga j).len).2 && ofA x (a.ga j) (hdT x (a.gk j) (a.gn j)).1 0) = o8 at hst hof
            generalize (rsT x (a.gk j) (a.gn j) (a.ga j).len).1 = S8 at hst hof
            obtain ⟨R8, ok8, hR8⟩ : ∃ R8 ok8, ofR x (a.gk j) (a.gn j) (a.ga j) = (R8, ok8) := ⟨_, _, rfl⟩
            rw [hR8] at hi8 hof ⊢
            dsimp only at hi8 ⊢
            have HS := Lib.hid hst
            have HO := Lib.hid hof
            clear hst hof hR8 HM
            have z0 := box3_later (below_call hb8) Q2.out
            have z7 := box3_later (below_call hb8) Q3.out
            have z8 := QI.out.below (below_call hb8)
            have BW := HBB.out.trans ((below_call hb8).mono HBB.out.size)
            have bw3 := bw.trans ((below_call hb8).mono bw.size)
            have i8 := hi8.here
            have hz3 := (below_call hb8).size
            clear hi8 hb8
            have t10 := cell_box (heap_new w3 (.cells #[.slice q8 R8.len c8] 40))
            have z0' := alloc_kept z0 (.cells #[.slice q8 R8.len c8] 40)
            have z7' := alloc_kept z7 (.cells #[.slice q8 R8.len c8] 40)
            have z8' := z8.alloc (.cells #[.slice q8 R8.len c8] 40)
            have i8' := i8.alloc (.cells #[.slice q8 R8.len c8] 40)
            have BW' := BW.alloc BW.size (.cells #[.slice q8 R8.len c8] 40)
            have bw4 := bw3.alloc bw3.size (.cells #[.slice q8 R8.len c8] 40)
            have r1 := cell_box z0'
            have f1 := free_of_one z0'
            have t6 := cell_box z7'
            obtain ⟨_, hcH, hmH, _, hrH⟩ := id z8'
            unfold maxLen at hmH
            rcases hrH with h0 | ⟨bH, oH, rfl, hrH⟩
            · omega
            obtain ⟨pH, nH, cH, hcell, hiH⟩ := hrH.at (i := j) (by omega)
            obtain rfl := hiH.1
            have hjH : j < H.len := by omega
            have I8 := Lib.hid i8'
            have IHH := Lib.hid hiH
            have BW4 := Lib.hid BW'
            have bw4' := Lib.hid bw4
            clear z0 z7 z8 i8 BW bw3 z0' z7' z8' i8' hiH hrH BW' bw4 Q0 Q1 Q2 Q3 QH QI
            have hzz : w.heap.size + 1 + 1 < w3.heap.size + 1 := by omega
            cases ok8 with
            | false =>
              have ho8 : o8 = false := by
                have := HO.out
                cases o8 with
                | false => rfl
                | true => simp at this
              subst ho8
              go_wp2_with fail
              generalize (w3.alloc (.cells #[.slice q8 R8.len c8] 40)) = W4 at t10 t6 r1 f1 hcell I8 IHH BW4 bw4' ⊢
              clear t10 t6 hcell I8 IHH
              go_quiet (fail)
              go_wp2_with fail
              have hRR := HY.out
              rw [HS.out] at hRR
              obtain ⟨rfl, rfl⟩ := Prod.mk.inj (by simpa using hRR)
              refine bodyPost_ret (v := .tuple #[.agg #[.slice none 0 0], .bool false]) (by simp [results, Try.results57, go_sem, r1]) rfl ⟨none, 0, rfl, stays_nil _ _ _, ?_⟩
              exact (below_drewN bw4'.out _).setCell (by simp; omega) _
            | true =>
              have ho8 : o8 = true ∧ S8 = R8 := by
                have := HO.out
                cases o8 with
                | false => simp at this
                | true => simpa using this.symm
              obtain ⟨rfl, rfl⟩ := ho8
              have HB := fun W h h' => refequal_any S8.nodes S8 (H.get j) W q8 pH S8.len c8 (H.get j).len cH (Nat.le_refl _) h h'
              have hS8 := HS.out
              cases hsm : T.eqT S8 (H.get j) with
              | false =>
                rw [hsm] at HB hS8
                have HB' := Lib.hid HB
                have HS' := Lib.hid hS8
                clear HB hS8 HS HO
                go_wp2_with fail
                generalize (w3.alloc (.cells #[.slice q8 S8.len c8] 40)) = W4 at t10 t6 r1 f1 hcell I8 IHH BW4 bw4' ⊢
                go_still_tail 9, (by kernel_rfl)
                change wpList _ _ _ _ _ W4.drew
                go_wp2_with fail
                refine (HB'.out _ (I8.out.keeps (Keeps.drew _)) (IHH.out.keeps (Keeps.drew _))).mono ?_
                rintro e w5 ⟨rfl, hb5⟩
                have g1 := ((bcell hb5).1 (w.heap.size + 1 + 1) 0 (by have := bw4'.out.size; have := lt_of_cell r1; simpa using this)).trans r1
                have g2 := ((bcell hb5).2 (w.heap.size + 1 + 1) 0 (by have := bw4'.out.size; have := lt_of_cell r1; simpa using this)).trans f1
                clear t10 t6 r1 f1 hcell I8 IHH
                go_wp2_with fail
                have hRR := HY.out
                rw [HS'.out] at hRR
                obtain ⟨rfl, rfl⟩ := Prod.mk.inj (by simpa using hRR)
                refine bodyPost_ret (v := .tuple #[.agg #[.slice none 0 0], .bool false]) (by simp [results, Try.results57, go_sem, g1]) rfl ⟨none, 0, rfl, stays_nil _ _ _, ?_⟩
                exact (bw4'.out.drew.trans (hb5.mono bw4'.out.size)).setCell (by simp; omega) _
              | true =>
                rw [hsm] at HB hS8
                have HB' := Lib.hid HB
                have HS' := Lib.hid hS8
                clear HB hS8 HS HO
                go_wp2_with fail
                generalize (w3.alloc (.cells #[.slice q8 S8.len c8] 40)) = W4 at t10 t6 r1 f1 hcell I8 IHH BW4 bw4' ⊢
                go_still_tail 9, (by kernel_rfl)
                change wpList _ _ _ _ _ W4.drew
                go_wp2_with fail
                refine (HB'.out _ (I8.out.keeps (Keeps.drew _)) (IHH.out.keeps (Keeps.drew _))).mono ?_
                rintro e w5 ⟨rfl, hb5⟩
                have hb5' : Below W4.heap.size W4 w5 := (Below.refl _ _).drew.trans hb5
                have B5 := BW4.out.trans (hb5'.mono BW4.out.size)
                clear hb5 hb5' r1 f1 t10 t6 hcell I8 IHH
                go_wp2_with fail
                go_roundw
                case rel => exact ⟨j + 1, by omega, by go_num, by rw [HS'.out]; simp, B5⟩
                case measure => simp [intOf]; omega
          · have hmo := HM.out
            rw [X.drop_end a j (by omega)] at hmo
            have hr : r = true := by rw [← hmo]; rfl
            subst hr
            obtain ⟨rfl, rfl⟩ := Prod.mk.inj (show (R, okR) = (H.drop a.len, true) by have := HY.out; rwa [if_pos rfl] at this)
            have t3 := (box3_cells Q1.out).2.2
            have r1 := cell_box Q2.out
            have f1 := free_of_one Q2.out
            have s1 := cell_box Q3.out
            obtain ⟨_, hlc, hcm, _⟩ := id QI.out
            unfold maxLen at hcm
            clear hmo Q0 Q1 Q2 Q3 QH QI HM
            have hlz : w.heap.size + 1 + 1 < wr.heap.size := by omega
            have hck : a.len < c ∨ a.len = c := by omega
            have hd4 : decide (H.len < a.len) = false := by simp; omega
            rcases hck with hck | hck
            · go_wp2_with fail
              refine bodyPost_ret (v := .tuple #[.agg #[.slice (q.map (·.add a.len)) (H.len - a.len) (c - a.len)], .bool true]) (by simp [results, Try.results57, go_sem, r1]) rfl ⟨_, _, by rw [T.len_drop], ?_, bw.setCell (by simp; omega) _⟩
              intro w'' hw
              have h1 := (HI.out w'' (of_stays h.le hz HBB.out hw)).drop hle
              rw [if_neg (by omega), ← T.len_drop] at h1
              exact h1
            · go_wp2_with fail
              refine bodyPost_ret (v := .tuple #[.agg #[.slice q (H.len - a.len) (c - a.len)], .bool true]) (by simp [results, Try.results57, go_sem, r1]; omega) rfl ⟨_, _, by rw [T.len_drop, hck], ?_, bw.setCell (by simp; omega) _⟩
              intro w'' hw
              have h1 := (HI.out w'' (of_stays h.le hz HBB.out hw)).drop hle
              rw [if_pos hck.symm, ← T.len_drop] at h1
              rw [hck] at h1
              exact h1

end Go.Proofs.Ytlgfaobbjnhfoaa
