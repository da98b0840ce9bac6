/-
  The walk of the reference's Replace. Conditions: variables that are numbers of args, a result of fewer than 100000 nodes below its head.
-/
import Derived.Test.YtlgfaobbjnhfoaaTWalkZ2
import Derived.Test.YtlgfaobbjnhfoaaTWalkU
set_option linter.unusedSimpArgs false
set_option linter.unusedVariables false
namespace Go.Proofs.Ytlgfaobbjnhfoaa
open Go.RowKit

theorem rep_cut (args a : X) (i : Nat) (h : i < a.len) : rep args (a.drop i) = .cons (rep1 args (a.gk i) (a.gn i) (rep args (a.ga i))).1 (rep1 args (a.gk i) (a.gn i) (rep args (a.ga i))).2.1 (rep1 args (a.gk i) (a.gn i) (rep args (a.ga i))).2.2 (rep args (a.drop (i + 1))) := by
  rw [X.drop_cons a i h]; rfl

theorem GotX.set3 {w : World} {ty : TypeId} {y : X} {B : Nat} {v : Value} (h : GotX w ty y v B) {b : Nat} (hb : b < B) (u1 u2 u3 : Value) : GotX (((w.setCell ⟨b, 0, none⟩ u1).setCell ⟨b, 1, none⟩ u2).setCell ⟨b, 2, none⟩ u3) ty y v B :=
  ((h.set (a := ⟨b, 0, none⟩) hb u1).set (a := ⟨b, 1, none⟩) hb u2).set (a := ⟨b, 2, none⟩) hb u3

theorem heap_set3' {w : World} {b : Nat} {k0 n0 : Int} {v0 : Value} {k n : Int} {v : Value} {ty : TypeId} (h : w.heap[b]? = some (.cells #[.int .i64 k0, .int .i64 n0, v0] ty (0, 0))) :
    (((w.setCell ⟨b, 0, none⟩ (.int .i64 k)).setCell ⟨b, 1, none⟩ (.int .i64 n)).setCell ⟨b, 2, none⟩ v).heap[b]? = some (.cells #[.int .i64 k, .int .i64 n, v] ty (0, 0)) := by
  have h1 := heap_setCell_same w b 0 _ _ (.int .i64 k) h
  have h2 := heap_setCell_same _ b 1 _ _ (.int .i64 n) h1
  have h3 := heap_setCell_same _ b 2 _ _ v h2
  rw [h3]
  simp

theorem heapAt3 (w : World) (x y z : Obj) : (((w.alloc x).alloc y).alloc z).heap[w.heap.size + 2]? = some z := by
  have h := heap_new ((w.alloc x).alloc y) z
  simp only [World.size_alloc] at h
  exact h

set_option maxRecDepth 100000 in
set_option maxHeartbeats 6000000 in
theorem refreplace_any (args : X) (hsm : smalls args = true) (N : Nat) : ∀ (a : X) (k n : Int) (w : World) (p : Option Addr) (l cap : Nat) (q : Option Addr) (m cap' : Nat), a.sz < N → a.sz < 100000 → Known args k n a → X.AllX (Known args) a → (rep1 args k n (rep args a)).2.2.sz < 100000 → IsX w a p l cap → IsX w args q m cap' →
    Calls Try.prog 67 #[.agg #[.int .i64 k, .int .i64 n, .slice p l cap], .slice q m cap'] w (Made (rep1 args k n (rep args a)).1 (rep1 args k n (rep args a)).2.1 (rep1 args k n (rep args a)).2.2 w) := by
  obtain ⟨i0, hi0, hz0, hz1', hz2⟩ := info_parts infoX
  induction N with
  | zero => intro a k n w p l cap q m cap' hN; omega
  | succ N ih =>
    intro a k n w p l cap q m cap' hN h60 hK hA hRs his hia
    have IH := Lib.hid ih
    clear ih
    have HAA := Lib.hid hA
    have hlen := a.len_le_sz
    obtain ⟨hn, hcap, hmax, hnil, hrow⟩ := id his
    subst hn
    unfold maxLen at hmax
    have hn60 : a.len < 100000 := by omega
    obtain ⟨K, Nn, R, hres⟩ : ∃ K Nn R, rep1 args k n (rep args a) = (K, Nn, R) := ⟨_, _, _, rfl⟩
    rw [hres] at hRs ⊢
    dsimp only at hRs ⊢
    have hcase : (k = 0 ∧ ∃ i : Nat, n = (i : Int) ∧ i < args.len ∧ K = args.gk i ∧ Nn = args.gn i ∧ (args.ga i).app (rep args a) = R) ∨ (k ≠ 0 ∧ K = k ∧ Nn = n ∧ rep args a = R) := by
      unfold rep1 at hres
      by_cases h : k = 0
      · left
        rw [if_pos h] at hres
        rcases hK with h' | ⟨h1, h2⟩
        · exact absurd h h'
        · have e : n = ((n.toNat : Nat) : Int) := by omega
          obtain ⟨e1, e2⟩ := Prod.mk.inj hres
          obtain ⟨e2, e3⟩ := Prod.mk.inj e2
          exact ⟨h, n.toNat, e, by omega, e1.symm, e2.symm, e3⟩
      · right
        rw [if_neg h] at hres
        obtain ⟨e1, e2⟩ := Prod.mk.inj hres
        obtain ⟨e2, e3⟩ := Prod.mk.inj e2
        exact ⟨h, e1.symm, e2.symm, e3⟩
    clear hres hK hA
    rcases hcase with ⟨hk, i, rfl, hi, rfl, rfl, hfin⟩ | ⟨hk, hK1, hN1, hfin⟩
    case' inl =>
      have hd : (k == 0) = true := by simp [hk]
      obtain ⟨rfl, _, hm3, _, hrA⟩ := id hia
      unfold maxLen at hm3
      rcases hrA with h0 | ⟨ab, ao, rfl, hrA⟩
      · omega
      obtain ⟨hak, han, pA, nA, cA, hac, hai⟩ := hrA.at (i := i) hi
      obtain rfl := hai.1
      have hal := lt_of_cell hak
      have C1 := fun x y z => (keep3 w x y z ab (ao + i * 3) hal).trans hak
      have C2 := fun x y z => (keep3 w x y z ab (ao + i * 3 + 1) hal).trans han
      have C3 := fun x y z => (keep3 w x y z ab (ao + i * 3 + 2) hal).trans hac
      have hsa := smalls_at hsm hi
      have HC := Lib.hid (fun W h => tcopy_got (args.ga i) (args.gk i) (args.gn i) W pA (args.ga i).len cA hsa h)
      have HFIN := Lib.hid hfin
      have HIA := Lib.hid hia
      clear hk hak han hac hfin hia hrA
      obtain ⟨y0, hy0⟩ : ∃ y0, args.ga i = y0 := ⟨_, rfl⟩
      obtain ⟨K, hKe⟩ : ∃ K, args.gk i = K := ⟨_, rfl⟩
      obtain ⟨Nn, hNe⟩ : ∃ Nn, args.gn i = Nn := ⟨_, rfl⟩
      rw [hy0] at C3 HC HFIN hai
      rw [hKe] at C1 HC ⊢
      rw [hNe] at C2 HC ⊢
      clear hy0 hKe hNe hsa
      go_enter Try.func67, Try.ntmps67
      go_wp2_with fail
      refine (HC.out _ (((hai.alloc _).alloc _).alloc _)).mono ?_
      rintro e w1 ⟨q0, c0, rfl, hG, hb1⟩
      have hs3 : ∀ x y z, (((w.alloc x).alloc y).alloc z).heap.size = w.heap.size + 3 := by intro x y z; simp
      rw [hs3] at hG
      have U0 := box3_later hb1 (heapAt3 w (.cells #[.int .i64 k, .int .i64 (i : Int), .slice p a.len cap] 35) (.cells #[.int .i64 0, .int .i64 0, .slice none 0 0] 35) (.cells #[.int .i64 k, .int .i64 (i : Int), .slice none 0 0] 35))
      have T0 := box3_later hb1 (heap3 w (.cells #[.int .i64 k, .int .i64 (i : Int), .slice p a.len cap] 35) (.cells #[.int .i64 0, .int .i64 0, .slice none 0 0] 35) (.cells #[.int .i64 k, .int .i64 (i : Int), .slice none 0 0] 35)).1
      have B0 : Below (w.heap.size + 2) ((w.alloc (.cells #[.int .i64 k, .int .i64 (i : Int), .slice p a.len cap] 35)).alloc (.cells #[.int .i64 0, .int .i64 0, .slice none 0 0] 35)) w1 := ((Below.refl _ _).alloc (by simp) _).trans (hb1.mono (by rw [hs3]; omega))
      have hz1 := hb1.size
      rw [hs3] at hz1
      obtain ⟨fu1, fu2, fu3⟩ := free3 U0
      obtain ⟨cu1, cu2, cu3⟩ := box3_cells U0
      have hG2 := hG.set3 (b := w.heap.size + 2) (by omega) (.int .i64 K) (.int .i64 Nn) (.slice q0 y0.len c0)
      have hU2 := heap_set3' (k := K) (n := Nn) (v := .slice q0 y0.len c0) U0
      have hB2 := below_set3 (.int .i64 K) (.int .i64 Nn) (.slice q0 y0.len c0) B0 (b := w.heap.size + 2) (Nat.le_refl _)
      have t3 := (box3_cells T0).2.2
      have HG0 := Lib.hid hG2
      have HU0 := Lib.hid hU2
      have HB0 := Lib.hid hB2
      clear hG hb1 U0 T0 B0 hG2 hU2 hB2 C1 C2 C3 hai
      go_wp2_with fail
      clear t3 cu1 cu2 cu3 fu1 fu2 fu3
      go_loopw [25] (fun v wr => ∃ (j : Nat) (y : X) (r : Option Addr) (c : Nat), j ≤ a.len ∧ v = .int .i64 (j : Int) ∧ y.app (rep args (a.drop j)) = R ∧ GotX wr 35 y (.slice r y.len c) (w.heap.size + 3) ∧
          wr.heap[w.heap.size + 2]? = some (.cells #[.int .i64 K, .int .i64 Nn, .slice r y.len c] 35 (0, 0)) ∧
          Below (w.heap.size + 2) ((w.alloc (.cells #[.int .i64 k, .int .i64 (i : Int), .slice p a.len cap] 35)).alloc (.cells #[.int .i64 0, .int .i64 0, .slice none 0 0] 35)) wr)
        (fun v _ => a.len - (intOf v).toNat)
      case atStart => exact ⟨0, y0, q0, c0, Nat.zero_le _, rfl, by rw [X.drop_zero]; exact HFIN.out, HG0.out, HU0.out, HB0.out⟩
      case round =>
        clear HG0 HU0 HB0
        obtain ⟨j, y, r, c, hj, rfl, hy, hgot, hout, hb⟩ := hrel
        have hyl : y.len < 100000 := by
          have := congrArg X.len hy
          have h2 := R.len_le_sz
          rw [X.len_app] at this
          omega
        have HY := Lib.hid hy
        have HG := Lib.hid hgot
        have HOut := Lib.hid hout
        obtain ⟨ho1, ho2, ho3⟩ := box3_cells hout
        obtain ⟨fo1, fo2, fo3⟩ := free3 hout
        have hlo := lt_of_block hout
        obtain ⟨bt1, bt2⟩ := box_two1 hb
        obtain ⟨z1, z2, z3⟩ := box3_cells bt2
        obtain ⟨fz1, fz2, fz3⟩ := free3 bt2
        clear hgot hout hy bt1 bt2
        by_cases hlt : j < a.len
        · clear z1 z2 z3 fz1 fz2 fz3
          rcases hrow with h0 | ⟨b, off, rfl, hr⟩
          · omega
          obtain ⟨hck, hcn, p', n', cap2, hc, hix⟩ := base3_at (keeps3_two hb) hr hlt
          have hg := a.sz_ga j hlt
          have hat := HAA.out.at hlt
          have hcut := rep_cut args a j hlt
          obtain ⟨K', N', A', hE⟩ : ∃ K' N' A', rep1 args (a.gk j) (a.gn j) (rep args (a.ga j)) = (K', N', A') := ⟨_, _, _, rfl⟩
          have hA' : A'.sz < 100000 := by
            have h1 := HY.out
            rw [hcut, hE] at h1
            have h2 := congrArg X.sz h1
            rw [X.sz_app] at h2
            simp only [X.sz] at h2
            omega
          have hIJ := fun (h1 : IsX (wr.alloc (.cells #[.int .i64 (a.gk j), .int .i64 (a.gn j), .slice p' n' cap2] 35)).drew (a.ga j) p' n' cap2) (h2 : IsX (wr.alloc (.cells #[.int .i64 (a.gk j), .int .i64 (a.gn j), .slice p' n' cap2] 35)).drew args (some ⟨ab, ao, none⟩) args.len cap') =>
            IH.out (a.ga j) (a.gk j) (a.gn j) _ p' n' cap2 (some ⟨ab, ao, none⟩) args.len cap' (by omega) (by omega) hat.1 hat.2 (by rw [hE]; exact hA') h1 h2
          rw [hE] at hIJ hcut
          dsimp only at hIJ hcut
          have IJ := Lib.hid hIJ
          have HCUT := Lib.hid hcut
          have hia2 : IsX wr args (some ⟨ab, ao, none⟩) args.len cap' := HIA.out.keeps (keeps3_two hb)
          clear hat hE hIJ hcut
          obtain ⟨xs, hown, hkids⟩ := HG.out
          have hmx : y.len + 1 ≤ maxLen := by simp only [maxLen]; omega
          have hby : (y.len + 1) * 40 ≤ 140737488355328 := by omega
          have hz := hb.size
          simp only [World.size_alloc] at hz
          have ok : ∀ (w1 w3 : World) (Y : Obj), Below (wr.alloc (.cells #[.int .i64 (a.gk j), .int .i64 (a.gn j), .slice p' n' cap2] 35)).drew.heap.size (wr.alloc (.cells #[.int .i64 (a.gk j), .int .i64 (a.gn j), .slice p' n' cap2] 35)).drew w1 → (w1.alloc Y).grownBy w3 (Value.slice r y.len c).ownBlock →
              w3.heap[w.heap.size + 2]? = some (.cells #[.int .i64 K, .int .i64 Nn, .slice r y.len c] 35 (0, 0)) :=
            fun w1 w3 Y h1 h2 => out_kept (B := w.heap.size + 3) hlo HOut.out (by omega) h1 hown.lt h2
          have OK := Lib.hid ok
          clear ok
          go_upto_region 7 with fail
          go_region_law (first
            | (go_simp; go_at_call 67; refine (IJ.out ?_ ?_).mono ?_; exact (hix.alloc _).drew; exact (hia2.alloc _).drew; rintro e w1 ⟨q1, c1, rfl, hO, hb1⟩;
               have hownA := fun o => (ownsRow_later ((hown.alloc _).drew) hb1).alloc o; have hz1 := hb1.size; simp at hz1; have hz2' : w.heap.size + 3 ≤ w1.heap.size := (by omega); have ca := box3_cells (call_kept hlo HOut.out hb1); obtain ⟨ca1, ca2, ca3⟩ := ca; have cb := free3 (call_kept hlo HOut.out hb1); obtain ⟨cb1, cb2, cb3⟩ := cb; have oc3 := fun o => (box3_cells (alloc_kept (call_kept hlo HOut.out hb1) o)).2.2; have oc4 : w.heap.size + 1 + 1 < w1.heap.size := (by omega))
            | (refine step_append_lies (w1.alloc (.cells #[.int .i64 K', .int .i64 N', .slice q1 A'.len c1] 35)) rfl (.tmp 30) (.tmp 34) 33 rfl (w.heap.size + 3) 35 i0 (.agg #[.int .i64 0, .int .i64 0, .slice none 0 0]) 3 40 ?_ ?_ ?_ ?_ ?_ ?_ ?_ (.slice r y.len c) y.len xs ?_ ?_ ⟨w1.heap.size, 0, none⟩ 1 1 [.int .i64 K', .int .i64 N', .slice q1 A'.len c1] ?_ ?_ ?_ ?_ ?_ ?_ ?_ ?_ (w1.heap.size+1) ?_ ?_; exact Try.underlying33; exact hi0; exact hz0; exact hz1'; exact hz2; rfl; exact (by decide); rfl; exact hownA _; rfl; rfl; exact World.news_of_block (heap_new _ _); exact one_three _ _ _ _ _; exact Nat.one_pos; exact hmx; exact hby; exact base_le _ hz2'; exact size_new _ _; intro g cp w3 hown3 hgrow hat hglt; have hh3 := OK.out _ _ _ hb1 hgrow; obtain ⟨o1, o2, o3⟩ := box3_cells hh3; obtain ⟨o4, o5, o6⟩ := free3 hh3))
          all_goals go_wp2_with fail
          all_goals
            have hy' : (y.snoc K' N' A').app (rep args (a.drop (j + 1))) = R := by rw [X.snoc_app, ← HCUT.out]; exact HY.out
            have hl' : (y.snoc K' N' A').len = y.len + 1 := X.len_snoc _ _ _ _
            have HL := Lib.hid hl'
            clear hl'
            go_roundw
            case rel => exact ⟨j + 1, _, some ⟨g, 0, none⟩, cp, by omega, by go_num, hy', by rw [HL.out]; exact (GotX.round' (wx := (wr.alloc (.cells #[.int .i64 (a.gk j), .int .i64 (a.gn j), .slice p' n' cap2] 35)).drew) hown hkids (fun j hj => Below.heap_alloc wr _ j hj) (by simp) hb1 hO hown3 hgrow hat).set (Nat.lt_succ_self _) _, by rw [HL.out]; exact field_set hh3, (below_collect hb hz hb1 (by omega) hown.lt hgrow).setCell (Nat.le_refl _) _⟩
            case measure => simp [intOf]; omega
        · obtain rfl : y = R := by
            have h := HY.out
            rw [X.drop_end a j (by omega)] at h
            simp only [rep] at h
            rw [X.app_nil] at h
            exact h
          clear HY
          go_wp2_with fail
          obtain ⟨q9, c9, he9, hO9⟩ := HG.out.finish
          obtain ⟨rfl, rfl⟩ : r = q9 ∧ c = c9 := by simpa using he9
          have hg := hO9.set3 (b := w.heap.size + 1) (.int .i64 K) (.int .i64 Nn) (.slice r y.len c) (show w.heap.size + 1 < w.heap.size + 3 by omega) (show w.heap.size ≤ w.heap.size + 3 by omega)
          exact bodyPost_ret (v := .agg #[.int .i64 K, .int .i64 Nn, .slice r y.len c]) (by simp [results, Try.results67, go_sem, z1, z2, z3]) rfl ⟨r, c, rfl, by simpa [World.setCell] using hg, below_set3 _ _ _ (below_two hb) (by omega)⟩
    case' inr =>
      obtain rfl : k = K := hK1.symm
      obtain rfl : n = Nn := hN1.symm
      have hd : (k == 0) = false := by simp [hk]
      have HFIN := Lib.hid hfin
      have HIA := Lib.hid hia
      have hG2 : GotX (((w.alloc (.cells #[.int .i64 k, .int .i64 n, .slice p a.len cap] 35)).alloc (.cells #[.int .i64 0, .int .i64 0, .slice none 0 0] 35)).alloc (.cells #[.int .i64 k, .int .i64 n, .slice none 0 0] 35)) 35 .nil (.slice none 0 0) (w.heap.size + 3) := GotX.start (World.ownsRow_nil _ _ _ _) (by simp)
      have hU2 := heapAt3 w (.cells #[.int .i64 k, .int .i64 n, .slice p a.len cap] 35) (.cells #[.int .i64 0, .int .i64 0, .slice none 0 0] 35) (.cells #[.int .i64 k, .int .i64 n, .slice none 0 0] 35)
      have hB2 : Below (w.heap.size + 2) ((w.alloc (.cells #[.int .i64 k, .int .i64 n, .slice p a.len cap] 35)).alloc (.cells #[.int .i64 0, .int .i64 0, .slice none 0 0] 35)) (((w.alloc (.cells #[.int .i64 k, .int .i64 n, .slice p a.len cap] 35)).alloc (.cells #[.int .i64 0, .int .i64 0, .slice none 0 0] 35)).alloc (.cells #[.int .i64 k, .int .i64 n, .slice none 0 0] 35)) := (Below.refl _ _).alloc (by simp) _
      have HG0 := Lib.hid hG2
      have HU0 := Lib.hid hU2
      have HB0 := Lib.hid hB2
      clear hk hfin hia hG2 hU2 hB2
      go_enter Try.func67, Try.ntmps67
      go_wp2_with fail
      go_loopw [25] (fun v wr => ∃ (j : Nat) (y : X) (r : Option Addr) (c : Nat), j ≤ a.len ∧ v = .int .i64 (j : Int) ∧ y.app (rep args (a.drop j)) = R ∧ GotX wr 35 y (.slice r y.len c) (w.heap.size + 3) ∧
          wr.heap[w.heap.size + 2]? = some (.cells #[.int .i64 k, .int .i64 n, .slice r y.len c] 35 (0, 0)) ∧
          Below (w.heap.size + 2) ((w.alloc (.cells #[.int .i64 k, .int .i64 n, .slice p a.len cap] 35)).alloc (.cells #[.int .i64 0, .int .i64 0, .slice none 0 0] 35)) wr)
        (fun v _ => a.len - (intOf v).toNat)
      case atStart => exact ⟨0, .nil, none, 0, Nat.zero_le _, rfl, by rw [X.drop_zero]; exact HFIN.out, HG0.out, HU0.out, HB0.out⟩
      case round =>
        clear HG0 HU0 HB0
        obtain ⟨j, y, r, c, hj, rfl, hy, hgot, hout, hb⟩ := hrel
        have hyl : y.len < 100000 := by
          have := congrArg X.len hy
          have h2 := R.len_le_sz
          rw [X.len_app] at this
          omega
        have HY := Lib.hid hy
        have HG := Lib.hid hgot
        have HOut := Lib.hid hout
        obtain ⟨ho1, ho2, ho3⟩ := box3_cells hout
        obtain ⟨fo1, fo2, fo3⟩ := free3 hout
        have hlo := lt_of_block hout
        obtain ⟨bt1, bt2⟩ := box_two1 hb
        obtain ⟨z1, z2, z3⟩ := box3_cells bt2
        obtain ⟨fz1, fz2, fz3⟩ := free3 bt2
        clear hgot hout hy bt1 bt2
        by_cases hlt : j < a.len
        · clear z1 z2 z3 fz1 fz2 fz3
          rcases hrow with h0 | ⟨b, off, rfl, hr⟩
          · omega
          obtain ⟨hck, hcn, p', n', cap2, hc, hix⟩ := base3_at (keeps3_two hb) hr hlt
          have hg := a.sz_ga j hlt
          have hat := HAA.out.at hlt
          have hcut := rep_cut args a j hlt
          obtain ⟨K', N', A', hE⟩ : ∃ K' N' A', rep1 args (a.gk j) (a.gn j) (rep args (a.ga j)) = (K', N', A') := ⟨_, _, _, rfl⟩
          have hA' : A'.sz < 100000 := by
            have h1 := HY.out
            rw [hcut, hE] at h1
            have h2 := congrArg X.sz h1
            rw [X.sz_app] at h2
            simp only [X.sz] at h2
            omega
          have hIJ := fun (h1 : IsX (wr.alloc (.cells #[.int .i64 (a.gk j), .int .i64 (a.gn j), .slice p' n' cap2] 35)).drew (a.ga j) p' n' cap2) (h2 : IsX (wr.alloc (.cells #[.int .i64 (a.gk j), .int .i64 (a.gn j), .slice p' n' cap2] 35)).drew args q m cap') =>
            IH.out (a.ga j) (a.gk j) (a.gn j) _ p' n' cap2 q m cap' (by omega) (by omega) hat.1 hat.2 (by rw [hE]; exact hA') h1 h2
          rw [hE] at hIJ hcut
          dsimp only at hIJ hcut
          have IJ := Lib.hid hIJ
          have HCUT := Lib.hid hcut
          have hia2 : IsX wr args q m cap' := HIA.out.keeps (keeps3_two hb)
          clear hat hE hIJ hcut
          obtain ⟨xs, hown, hkids⟩ := HG.out
          have hmx : y.len + 1 ≤ maxLen := by simp only [maxLen]; omega
          have hby : (y.len + 1) * 40 ≤ 140737488355328 := by omega
          have hz := hb.size
          simp only [World.size_alloc] at hz
          have ok : ∀ (w1 w3 : World) (Y : Obj), Below (wr.alloc (.cells #[.int .i64 (a.gk j), .int .i64 (a.gn j), .slice p' n' cap2] 35)).drew.heap.size (wr.alloc (.cells #[.int .i64 (a.gk j), .int .i64 (a.gn j), .slice p' n' cap2] 35)).drew w1 → (w1.alloc Y).grownBy w3 (Value.slice r y.len c).ownBlock →
              w3.heap[w.heap.size + 2]? = some (.cells #[.int .i64 k, .int .i64 n, .slice r y.len c] 35 (0, 0)) :=
            fun w1 w3 Y h1 h2 => out_kept (B := w.heap.size + 3) hlo HOut.out (by omega) h1 hown.lt h2
          have OK := Lib.hid ok
          clear ok
          go_upto_region 7 with fail
          go_region_law (first
            | (go_simp; go_at_call 67; refine (IJ.out ?_ ?_).mono ?_; exact (hix.alloc _).drew; exact (hia2.alloc _).drew; rintro e w1 ⟨q1, c1, rfl, hO, hb1⟩;
               have hownA := fun o => (ownsRow_later ((hown.alloc _).drew) hb1).alloc o; have hz1 := hb1.size; simp at hz1; have hz2' : w.heap.size + 3 ≤ w1.heap.size := (by omega); have ca := box3_cells (call_kept hlo HOut.out hb1); obtain ⟨ca1, ca2, ca3⟩ := ca; have cb := free3 (call_kept hlo HOut.out hb1); obtain ⟨cb1, cb2, cb3⟩ := cb; have oc3 := fun o => (box3_cells (alloc_kept (call_kept hlo HOut.out hb1) o)).2.2; have oc4 : w.heap.size + 1 + 1 < w1.heap.size := (by omega))
            | (refine step_append_lies (w1.alloc (.cells #[.int .i64 K', .int .i64 N', .slice q1 A'.len c1] 35)) rfl (.tmp 30) (.tmp 34) 33 rfl (w.heap.size + 3) 35 i0 (.agg #[.int .i64 0, .int .i64 0, .slice none 0 0]) 3 40 ?_ ?_ ?_ ?_ ?_ ?_ ?_ (.slice r y.len c) y.len xs ?_ ?_ ⟨w1.heap.size, 0, none⟩ 1 1 [.int .i64 K', .int .i64 N', .slice q1 A'.len c1] ?_ ?_ ?_ ?_ ?_ ?_ ?_ ?_ (w1.heap.size+1) ?_ ?_; exact Try.underlying33; exact hi0; exact hz0; exact hz1'; exact hz2; rfl; exact (by decide); rfl; exact hownA _; rfl; rfl; exact World.news_of_block (heap_new _ _); exact one_three _ _ _ _ _; exact Nat.one_pos; exact hmx; exact hby; exact base_le _ hz2'; exact size_new _ _; intro g cp w3 hown3 hgrow hat hglt; have hh3 := OK.out _ _ _ hb1 hgrow; obtain ⟨o1, o2, o3⟩ := box3_cells hh3; obtain ⟨o4, o5, o6⟩ := free3 hh3))
          all_goals go_wp2_with fail
          all_goals
            have hy' : (y.snoc K' N' A').app (rep args (a.drop (j + 1))) = R := by rw [X.snoc_app, ← HCUT.out]; exact HY.out
            have hl' : (y.snoc K' N' A').len = y.len + 1 := X.len_snoc _ _ _ _
            have HL := Lib.hid hl'
            clear hl'
            go_roundw
            case rel => exact ⟨j + 1, _, some ⟨g, 0, none⟩, cp, by omega, by go_num, hy', by rw [HL.out]; exact (GotX.round' (wx := (wr.alloc (.cells #[.int .i64 (a.gk j), .int .i64 (a.gn j), .slice p' n' cap2] 35)).drew) hown hkids (fun j hj => Below.heap_alloc wr _ j hj) (by simp) hb1 hO hown3 hgrow hat).set (Nat.lt_succ_self _) _, by rw [HL.out]; exact field_set hh3, (below_collect hb hz hb1 (by omega) hown.lt hgrow).setCell (Nat.le_refl _) _⟩
            case measure => simp [intOf]; omega
        · obtain rfl : y = R := by
            have h := HY.out
            rw [X.drop_end a j (by omega)] at h
            simp only [rep] at h
            rw [X.app_nil] at h
            exact h
          clear HY
          go_wp2_with fail
          obtain ⟨q9, c9, he9, hO9⟩ := HG.out.finish
          obtain ⟨rfl, rfl⟩ : r = q9 ∧ c = c9 := by simpa using he9
          have hg := hO9.set3 (b := w.heap.size + 1) (.int .i64 k) (.int .i64 n) (.slice r y.len c) (show w.heap.size + 1 < w.heap.size + 3 by omega) (show w.heap.size ≤ w.heap.size + 3 by omega)
          exact bodyPost_ret (v := .agg #[.int .i64 k, .int .i64 n, .slice r y.len c]) (by simp [results, Try.results67, go_sem, z1, z2, z3]) rfl ⟨r, c, rfl, by simpa [World.setCell] using hg, below_set3 _ _ _ (below_two hb) (by omega)⟩

end Go.Proofs.Ytlgfaobbjnhfoaa
