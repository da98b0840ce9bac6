/-
  The walks of suited and Sort. Conditions: the place is one in memory, its symbols good; for suited at most 2^62 arguments.
-/
import Derived.Test.YtlgfaobbjnhfoaaTWalkN
set_option linter.unusedSimpArgs false
set_option linter.unusedVariables false
namespace Go.Proofs.Ytlgfaobbjnhfoaa
open Go.RowKit

/-- do the arguments have the sorts that stand in H from place i on? -/
def sargs (x : Pl) (H : T) : X → Nat → Bool
  | .nil, _ => true
  | .cons k n a r, i => ((rsT x k n a.len).2 && T.same (rsT x k n a.len).1 (H.get i)) && sargs x H r (i + 1)

theorem sargs_drop (x : Pl) (H : T) (a : X) (j : Nat) (h : j < a.len) :
    sargs x H (a.drop j) j = (((rsT x (a.gk j) (a.gn j) (a.ga j).len).2 && T.same (rsT x (a.gk j) (a.gn j) (a.ga j).len).1 (H.get j)) && sargs x H (a.drop (j + 1)) (j + 1)) := by
  rw [X.drop_cons a j h]; rfl

/-- does the head take the arguments, if these suit theirs? -/
def suit (x : Pl) (k n : Int) (a : X) : Bool := (rsT x k n a.len).2 && sargs x (hdT x k n).1 a 0

theorem rsT_ok {x : Pl} {k n : Int} {m : Nat} (h : (rsT x k n m).2 = true) : m ≤ (hdT x k n).1.len ∧ (rsT x k n m).1 = (hdT x k n).1.drop m := by
  unfold rsT at h ⊢
  split at h
  · rename_i h1
    rw [if_pos h1]; exact ⟨h1.2, rfl⟩
  · exact absurd h (by simp)

theorem rsT_not {x : Pl} {k n : Int} {m : Nat} (h : (rsT x k n m).2 = false) : (rsT x k n m).1 = .nil := by
  unfold rsT at h ⊢
  split at h
  · exact absurd h (by simp)
  · rename_i h1
    rw [if_neg h1]

theorem below_drewN {B : Nat} {a w : World} (h : Below B a w) (q : Nat) : Below B a (w.drewN q) := ⟨h.os, h.tape, h.output, h.size, h.block⟩

set_option maxRecDepth 100000 in
set_option maxHeartbeats 4000000 in
theorem suited_any (x : Pl) (a3 : At3) (k n : Int) (a : X) (w0 w : World) (p : Option Addr) (l cap : Nat) (h : Holds w0 x a3 w) (hS : symsOk x.S = true) (his : IsX w a p l cap) (hl : a.sz < 4611686018427387904) :
    Calls Try.prog 54 #[.agg #[.slice a3.sp a3.sn a3.sc, .slice a3.fp a3.fn a3.fc, .slice a3.pp a3.pn a3.pc], .agg #[.int .i64 k, .int .i64 n, .slice p l cap]] w fun e w' => e = .returned (.bool (suit x k n a)) ∧ Below w.heap.size w w' := by
  have hlen := a.len_le_sz
  obtain ⟨hn, hcap, hmax, hnil, hrow⟩ := id his
  subst hn
  unfold maxLen at hmax
  have hs2 : ∀ x y, ((w.alloc x).alloc y).heap.size = w.heap.size + 2 := by intro x y; simp
  have hb2 : ∀ x y, Below w.heap.size w ((w.alloc x).alloc y) := fun x y => ((Below.refl _ _).alloc (Nat.le_refl _) _).alloc (by simp) _
  have hR := fun W h => trest_any x a3 k n w0 W p a.len cap h hS (by omega)
  have hH := fun W h => thead_any x a3 k n w0 W p a.len cap h hS
  have HA := Lib.hid (fun k n (a : X) W p cap (h : Holds w0 x a3 W) (hl : a.len ≤ 4611686018427387904) => trest_any x a3 k n w0 W p a.len cap h hS hl)
  obtain ⟨r, hr⟩ : ∃ r, suit x k n a = r := ⟨_, rfl⟩
  rw [hr]
  unfold suit at hr
  have hok := @rsT_ok x k n a.len
  obtain ⟨R, ok, hRe⟩ : ∃ R ok, rsT x k n a.len = (R, ok) := ⟨_, _, rfl⟩
  rw [hRe] at hR hr hok
  obtain ⟨H, ok2, hHe⟩ : ∃ H ok2, hdT x k n = (H, ok2) := ⟨_, _, rfl⟩
  rw [hHe] at hH hr hok
  have HR := Lib.hid hR
  have HH := Lib.hid hH
  have HRE := Lib.hid hr
  clear hR hH hRe hHe hr
  cases ok with
  | false =>
    clear hok
    go_enter Try.func54, Try.ntmps54
    go_wp2_with fail
    refine (HR.out _ ((h.alloc _).alloc _)).mono ?_
    rintro e w1 ⟨q, c, rfl, hi, hb1⟩
    have B := (hb2 _ _).trans (hb1.mono (by rw [hs2]; omega))
    go_wp2_with fail
    go_ret
    exact ⟨ret_bool (by rw [← HRE.out]; rfl), B.alloc B.size _⟩
  | true =>
    have hle := (hok rfl).1
    dsimp only at hle
    clear hok
    go_enter Try.func54, Try.ntmps54
    go_wp2_with fail
    refine (HR.out _ ((h.alloc _).alloc _)).mono ?_
    rintro e w1 ⟨q, c, rfl, hi, hb1⟩
    have B1 := (hb2 _ _).trans (hb1.mono (by rw [hs2]; omega))
    have y0 := box3_later hb1 (alloc_kept (heap_new w (a3.box 28)) (.cells #[.int .i64 k, .int .i64 n, .slice p a.len cap] 35))
    have y1 := box3_later hb1 (heap_new2 w (a3.box 28) (.cells #[.int .i64 k, .int .i64 n, .slice p a.len cap] 35))
    have h1 := ((h.alloc _).alloc _).below hb1
    have y0' := alloc_kept y0 (.cells #[.slice q R.len c] 40)
    have y1' := alloc_kept y1 (.cells #[.slice q R.len c] 40)
    have h1' := h1.alloc (.cells #[.slice q R.len c] 40)
    have B1' := B1.alloc B1.size (.cells #[.slice q R.len c] 40)
    obtain ⟨z1, z2, z3⟩ := boxP_cells y0'
    obtain ⟨z4, z5, z6⟩ := box3_cells y1'
    clear hi hb1 h1 y0 y1 B1
    go_wp2_with fail
    refine (HH.out _ h1').mono ?_
    rintro e w2 ⟨q7, c7, rfl, hi7, hb2'⟩
    have y0 := box3_later hb2' y0'
    have y1 := box3_later hb2' y1'
    have h2 := h1'.below hb2'
    have B2 := B1'.trans (hb2'.mono B1'.size)
    obtain ⟨z1, z2, z3⟩ := boxP_cells (alloc_kept y0 (.cells #[.slice q7 H.len c7] 40))
    obtain ⟨z4, z5, z6⟩ := box3_cells (alloc_kept y1 (.cells #[.slice q7 H.len c7] 40))
    have z7 := heap_new w2 (.cells #[.slice q7 H.len c7] 40)
    have z8 : IsT (w2.alloc (.cells #[.slice q7 H.len c7] 40)) H q7 H.len c7 := hi7.here.alloc _
    have h3 := h2.alloc (.cells #[.slice q7 H.len c7] 40)
    have y0' := alloc_kept y0 (.cells #[.slice q7 H.len c7] 40)
    have B3 := B2.alloc B2.size (.cells #[.slice q7 H.len c7] 40)
    clear hi7 hb2' h2 y0 y1 B2
    go_wp2_with fail
    generalize (w2.alloc (.cells #[.slice q7 H.len c7] 40)) = W3 at z7 z8 h3 y0' B3 ⊢
    generalize w2.heap.size = b7 at z7 ⊢
    have Z7 := Lib.hid z7
    have Z8 := Lib.hid z8
    have Y0 := Lib.hid y0'
    have H3 := Lib.hid h3
    clear z1 z2 z3 z4 z5 z6 z7 z8 y0' h3 h1' y1'
    go_loopw [30] (fun i wr => ∃ j : Nat, j ≤ a.len ∧ i = .int .i64 (j : Int) ∧ sargs x H (a.drop j) j = r ∧ wr.heap[w.heap.size]? = some (a3.box 28) ∧ wr.heap[b7]? = some (.cells #[.slice q7 H.len c7] 40 (0, 0)) ∧ IsT wr H q7 H.len c7 ∧ Holds w0 x a3 wr ∧ Below w.heap.size w wr)
      (fun i _ => a.len - (intOf i).toNat)
    case atStart => exact ⟨0, Nat.zero_le _, rfl, by rw [X.drop_zero]; have := HRE.out; simpa using this, Y0.out, Z7.out, Z8.out, H3.out, B3⟩
    case round =>
      clear Y0 Z7 Z8 H3 B3
      obtain ⟨j, hj, rfl, hmo, hy0, hz7, hz8, hh, hb⟩ := hrel
      have HM := Lib.hid hmo
      have Y0 := Lib.hid hy0
      have Z7 := Lib.hid hz7
      have Z8 := Lib.hid hz8
      have H3 := Lib.hid hh
      clear hmo hy0 hz7 hz8 hh
      by_cases hlt : j < a.len
      · rcases hrow with h0 | ⟨b, off, rfl, hr⟩
        · omega
        obtain ⟨hck, hcn, p', n', cap', hc, hi⟩ := base3_at (Keeps3.below hb (Nat.le_refl _)) hr hlt
        obtain rfl := hi.1
        have hg := a.sz_ga j hlt
        have hgl := (a.ga j).len_le_sz
        obtain ⟨x1, x2, x3⟩ := boxP_cells (alloc_kept Y0.out (.cells #[.int .i64 (a.gk j), .int .i64 (a.gn j), .slice p' (a.ga j).len cap'] 35))
        go_wp2_with fail
        refine (HA.out (a.gk j) (a.gn j) (a.ga j) _ p' cap' (H3.out.alloc _) (by omega)).mono ?_
        rintro e w3 ⟨q8, c8, rfl, hi8, hb8⟩
        have hst := sargs_drop x H a j hlt
        rw [HM.out] at hst
        obtain ⟨R8, ok8, hR8⟩ : ∃ R8 ok8, rsT x (a.gk j) (a.gn j) (a.ga j).len = (R8, ok8) := ⟨_, _, rfl⟩
        rw [hR8] at hi8 hst ⊢
        have HS := Lib.hid hst
        clear hst hR8 HM
        have Bw := base_next hb hb8
        have y0 := box3_later (below_call hb8) Y0.out
        have z7 := box3_later (below_call hb8) Z7.out
        have z8 := Z8.out.below (below_call hb8)
        have h3 := H3.out.below (below_call hb8)
        have i8 := hi8.here
        have hz3 := (below_call hb8).size
        clear hi8 hb8 Y0 Z7 Z8 H3 hb
        have y0' := alloc_kept y0 (.cells #[.slice q8 R8.len c8] 40)
        have z7' := alloc_kept z7 (.cells #[.slice q8 R8.len c8] 40)
        have z8' := z8.alloc (.cells #[.slice q8 R8.len c8] 40)
        have h3' := h3.alloc (.cells #[.slice q8 R8.len c8] 40)
        have i8' := i8.alloc (.cells #[.slice q8 R8.len c8] 40)
        have B4 := Bw.alloc Bw.size (.cells #[.slice q8 R8.len c8] 40)
        have t11 := cell_box (heap_new w3 (.cells #[.slice q8 R8.len c8] 40))
        have t7 := cell_box z7'
        obtain ⟨_, hcH, hmH, _, hrH⟩ := id z8'
        unfold maxLen at hmH
        rcases hrH with h0 | ⟨bH, oH, rfl, hrH⟩
        · omega
        obtain ⟨pH, nH, cH, hcell, hiH⟩ := hrH.at (i := j) (by omega)
        obtain rfl := hiH.1
        have hjH : j < H.len := by omega
        have Y0 := Lib.hid y0'
        have Z7 := Lib.hid z7'
        have Z8 := Lib.hid z8'
        have H3 := Lib.hid h3'
        have I8 := Lib.hid i8'
        have IH := Lib.hid hiH
        clear y0 z7 z8 h3 i8 Bw y0' z7' z8' h3' i8' hiH hrH
        cases ok8 with
        | false =>
          go_wp2_with fail
          generalize (w3.alloc (.cells #[.slice q8 R8.len c8] 40)) = W4 at t11 t7 hcell B4 Y0 Z7 Z8 H3 I8 IH ⊢
          clear t11 t7 hcell Y0 Z7 Z8 H3 I8 IH
          go_quiet (fail)
          go_wp2_with fail
          go_ret
          exact ⟨ret_bool (by rw [HS.out]; rfl), below_drewN B4 _⟩
        | true =>
          have HB := fun W h h' => same_any R8 (H.get j) W q8 pH R8.len c8 (H.get j).len cH h h'
          have hS := HS.out
          cases hsm : T.same R8 (H.get j) with
          | false =>
            rw [hsm] at HB hS
            have HB' := Lib.hid HB
            have HS' := Lib.hid hS
            clear HB hS HS
            go_wp2_with fail
            generalize (w3.alloc (.cells #[.slice q8 R8.len c8] 40)) = W4 at t11 t7 hcell B4 Y0 Z7 Z8 H3 I8 IH ⊢
            go_still_tail 9, (by kernel_rfl)
            change wpList _ _ _ _ _ W4.drew
            go_wp2_with fail
            refine (HB'.out _ (I8.out.keeps (Keeps.drew _)) (IH.out.keeps (Keeps.drew _))).mono ?_
            rintro e w5 ⟨rfl, hb5⟩
            go_wp2_with fail
            go_ret
            exact ⟨ret_bool (by rw [HS'.out]; rfl), B4.drew.trans (hb5.mono B4.size)⟩
          | true =>
            rw [hsm] at HB hS
            have HB' := Lib.hid HB
            have HS' := Lib.hid hS
            clear HB hS HS
            go_wp2_with fail
            generalize (w3.alloc (.cells #[.slice q8 R8.len c8] 40)) = W4 at t11 t7 hcell B4 Y0 Z7 Z8 H3 I8 IH ⊢
            go_still_tail 9, (by kernel_rfl)
            change wpList _ _ _ _ _ W4.drew
            go_wp2_with fail
            refine (HB'.out _ (I8.out.keeps (Keeps.drew _)) (IH.out.keeps (Keeps.drew _))).mono ?_
            rintro e w5 ⟨rfl, hb5⟩
            have hb5' : Below W4.heap.size W4 w5 := (Below.refl _ _).drew.trans hb5
            have y0 := box3_later hb5' Y0.out
            have z7 := box3_later hb5' Z7.out
            have z8 := Z8.out.below hb5'
            have h3 := H3.out.below hb5'
            have B5 := B4.trans (hb5'.mono B4.size)
            clear hb5 hb5'
            go_wp2_with fail
            go_roundw
            case rel => exact ⟨j + 1, by omega, by go_num, by rw [HS'.out]; simp, y0, z7, z8, h3, B5⟩
            case measure => simp [intOf]; omega
      · go_wp2_with fail
        go_ret
        exact ⟨ret_bool (by rw [← HM.out, X.drop_end a j (by omega)]; rfl), hb⟩

end Go.Proofs.Ytlgfaobbjnhfoaa
