/-
  The walk of the reference's Apply, whole. Conditions: none but that the terms lie in memory.
-/
import Derived.Test.YtlgfaobbjnhfoaaTWalkU
set_option linter.unusedSimpArgs false
set_option linter.unusedVariables false
namespace Go.Proofs.Ytlgfaobbjnhfoaa
open Go.RowKit

theorem out_kept2 {wr w1 w3 : World} {j : Nat} {o Y : Obj} {v : Value} (hj : j < wr.heap.size) (h : wr.heap[j]? = some o) (hne : v.ownBlock ≠ some j) {x : Obj} (hb1 : Below (wr.alloc x).drew.heap.size (wr.alloc x).drew w1)
    (hgrow : (w1.alloc Y).grownBy w3 v.ownBlock) : w3.heap[j]? = some o := by
  have hz1 := hb1.size
  have hs : (wr.alloc x).drew.heap.size = wr.heap.size + 1 := by simp
  rw [hs] at hz1
  rw [hgrow.block j (by simp only [World.size_alloc]; omega) (fun e => hne e.symm), Below.heap_alloc _ _ _ (by omega), hb1.block j (by rw [hs]; omega)]
  exact (Below.heap_alloc wr x j hj).trans h

theorem Vars2.set {w W : World} {x y : Obj} (h : Vars2 w x y W) {b : Nat} (hb : w.heap.size + 1 < b) (o : Nat) (v : Value) : Vars2 w x y (W.setCell ⟨b, o, none⟩ v) :=
  ⟨by rw [Below.heap_setCell _ _ _ _ (by show w.heap.size ≠ b; omega)]; exact h.1, by rw [Below.heap_setCell _ _ _ _ (by show w.heap.size + 1 ≠ b; omega)]; exact h.2.1, h.2.2.setCell (by show w.heap.size ≤ b; omega) _⟩

set_option maxRecDepth 100000 in
set_option maxHeartbeats 8000000 in
theorem refapply_any (args a : X) (k n : Int) (w : World) (p q : Option Addr) (l cap m cap' : Nat) (his : IsX w a p l cap) (hia : IsX w args q m cap') (E K Nn : Int) (A : X) (hres : appRes args k n a = (E, K, Nn, A)) :
    Calls Try.prog 33 #[.agg #[.int .i64 k, .int .i64 n, .slice p l cap], .slice q m cap'] w fun e w' =>
      ∃ r c, e = .returned (.tuple #[.agg #[.int .i64 K, .int .i64 Nn, .slice r A.len c], .int .i64 E]) ∧ OwnX w' A r c w.heap.size w'.heap.size ∧ Below w.heap.size w w' := by
  obtain ⟨i0, hi0, hz0, hz1', hz2⟩ := info_parts infoX
  have HD := Lib.hid hres
  clear hres
  obtain ⟨hn, hcap, hmax, hnil, hrow⟩ := id hia
  subst hn
  unfold maxLen at hmax
  have HIS := Lib.hid his
  clear hia his
  go_enter Try.func33, Try.ntmps33
  go_wp2_with fail
  refine (tnodes_any (a.sz + 1) a k n _ p l cap 100000 (Nat.lt_succ_self _) (by decide) (by decide) ((HIS.out.alloc _).alloc _)).mono ?_
  rintro e w1 ⟨rfl, hb1⟩
  have V1 := (Vars2.start w _ _).below hb1
  have HV1 := Lib.hid V1
  clear hb1 V1
  obtain ⟨c0, hc0⟩ : ∃ c0, min (1 + a.sz) ((100000 : Int).toNat + 1) = c0 := ⟨_, rfl⟩
  rw [hc0]
  have hc1 : min (1 + a.sz) 100001 = c0 := hc0
  clear hc0
  have HC0 := Lib.hid hc1
  clear hc1
  go_wp2_with fail
  go_loopw [6, 7] (fun v i wr => ∃ j m : Nat, j ≤ args.len ∧ i = .int .i64 (j : Int) ∧ v = .int .i64 (m : Int) ∧ m ≤ 100001 ∧ (m ≤ 100000 → m + (args.drop j).sz = 1 + a.sz + args.sz) ∧ (100001 ≤ m → 100001 ≤ 1 + a.sz + args.sz) ∧
      Vars2 w (.cells #[.int .i64 k, .int .i64 n, .slice p l cap] 35) (.cells #[.int .i64 0, .int .i64 0, .slice none 0 0] 35) wr)
    (fun _ i _ => args.len - (intOf i).toNat)
  case atStart => exact ⟨0, c0, Nat.zero_le _, rfl, rfl, by have := HC0.out; omega, fun h => by rw [X.drop_zero]; have := HC0.out; omega, fun h => by have := HC0.out; omega, HV1.out⟩
  case round =>
    clear HV1 HC0
    obtain ⟨j, m, hj, rfl, rfl, hm2, h1, h2, hV⟩ := hrel
    have HV := Lib.hid hV
    have H1 := Lib.hid h1
    have H2 := Lib.hid h2
    clear hV h1 h2
    obtain ⟨r1, r2, r3⟩ := box3_cells HV.out.2.1
    obtain ⟨f1, f2, f3⟩ := free3 HV.out.2.1
    obtain ⟨t1, t2, t3⟩ := box3_cells HV.out.1
    have hzr := lt_of_block HV.out.2.1
    by_cases hm : m ≤ 100000
    case neg =>
      have e1 := HD.out
      unfold appRes at e1
      rw [if_neg (by have := H2.out (by omega); omega)] at e1
      obtain ⟨rfl, rfl, rfl, rfl⟩ : 3 = E ∧ 0 = K ∧ 0 = Nn ∧ X.nil = A := by simpa using e1
      have hd8 : decide ((m : Int) ≤ 100000) = false := by rw [decide_eq_false_iff_not]; omega
      have hd9 : decide (100000 < (m : Int)) = true := by rw [decide_eq_true_eq]; omega
      clear HD e1 H1 H2 t1 t2 t3 hm
      have HM2 := Lib.hid hm2
      clear hm2
      generalize (m : Int) = mi at hd8 hd9 ⊢
      by_cases hlt : j < args.len
      · go_wp2_with fail
        exact bodyPost_ret (v := .tuple #[.agg #[.int .i64 0, .int .i64 0, .slice none 0 0], .int .i64 3]) (by simp [results, Try.results33, go_sem, r1, r2, r3]) rfl ⟨none, 0, rfl, ownX_nil _ _ _, below_set3 _ _ _ HV.out.2.2 (by omega)⟩
      · go_wp2_with fail
        exact bodyPost_ret (v := .tuple #[.agg #[.int .i64 0, .int .i64 0, .slice none 0 0], .int .i64 3]) (by simp [results, Try.results33, go_sem, r1, r2, r3]) rfl ⟨none, 0, rfl, ownX_nil _ _ _, below_set3 _ _ _ HV.out.2.2 (by omega)⟩
    case pos =>
      have hd8 : decide ((m : Int) ≤ 100000) = true := by rw [decide_eq_true_eq]; omega
      have hd9 : decide (100000 < (m : Int)) = false := by rw [decide_eq_false_iff_not]; omega
      by_cases hlt : j < args.len
      · clear r1 r2 r3 f1 f2 f3 t1 t2 t3
        rcases hrow with h0 | ⟨b, off, rfl, hr⟩
        · omega
        obtain ⟨hck, hcn, p', n', cap1, hc, hi⟩ := base3_at (Keeps3.below HV.out.2.2 (Nat.le_refl _)) hr hlt
        have hsd := sz_drop args j hlt
        have he := H1.out hm
        obtain ⟨s, hs⟩ : ∃ s, min (1 + (args.ga j).sz) ((100000 - (m : Int)).toNat + 1) = s := ⟨_, rfl⟩
        have n1 : m + s ≤ 100000 → m + s + (args.drop (j + 1)).sz = 1 + a.sz + args.sz := by omega
        have n2 : 100001 ≤ m + s → 100001 ≤ 1 + a.sz + args.sz := by omega
        have hs2 : m + s ≤ 100001 := by omega
        have N1 := Lib.hid n1
        have N2 := Lib.hid n2
        have HC := Lib.hid (tnodes_any ((args.ga j).sz + 1) (args.ga j) (args.gk j) (args.gn j) wr p' n' cap1 (100000 - (m : Int)) (Nat.lt_succ_self _) (by omega) (by omega) hi)
        rw [hs] at HC
        clear hsd he n1 n2 hs H1 H2
        go_wp2_with fail
        refine HC.out.mono ?_
        rintro e w2 ⟨rfl, hb2⟩
        have V2 := HV.out.below hb2
        clear hb2
        go_wp2_with fail
        go_roundw
        case rel => exact ⟨j + 1, m + s, by omega, by go_num, val_int (by omega), by omega, N1.out, N2.out, V2⟩
        case measure => simp [intOf]; omega
      · obtain rfl : j = args.len := by omega
        have he := H1.out hm
        rw [X.drop_end args args.len (by omega)] at he
        have hez : m = 1 + a.sz + args.sz := he
        have e1 := HD.out
        unfold appRes at e1
        rw [if_pos (by omega)] at e1
        obtain ⟨rfl, rfl, rfl, rfl⟩ : 0 = E ∧ k = K ∧ n = Nn ∧ a.app args = A := by simpa using e1
        have l1 := a.len_le_sz
        have l2 := args.len_le_sz
        have ha100 : a.sz < 100000 := by omega
        have hr100 : args.sz < 100000 := by omega
        have hla : a.len + args.len < 200000 := by omega
        have ix : IsX wr a p l cap := HIS.out.below HV.out.2.2
        have HC := Lib.hid (tcopy_got a k n wr p l cap ha100 ix)
        clear H1 H2 HD e1 he hez l1 l2 hlt ix
        go_wp2_with fail
        refine HC.out.mono ?_
        rintro e w3 ⟨q1, c1, rfl, hG, hb3⟩
        have V3 := HV.out.below hb3
        have G0 := Got2.start hG (.cells #[.int .i64 k, .int .i64 n, .slice q1 a.len c1] 35)
        have U0 := heap_new w3 (.cells #[.int .i64 k, .int .i64 n, .slice q1 a.len c1] 35)
        have W0 := V3.below ((Below.refl _ _).alloc (Nat.le_refl _) (.cells #[.int .i64 k, .int .i64 n, .slice q1 a.len c1] 35))
        have hB1 : w.heap.size + 1 < wr.heap.size := hzr
        have hB2 := hb3.size
        obtain ⟨w4, hw4⟩ : ∃ w4, w3.alloc (.cells #[.int .i64 k, .int .i64 n, .slice q1 a.len c1] 35) = w4 := ⟨_, rfl⟩
        rw [hw4] at G0 U0 W0
        generalize wr.heap.size = B at G0 hB1 hB2
        obtain ⟨bo, hbo⟩ : ∃ bo, w3.heap.size = bo := ⟨_, rfl⟩
        rw [hbo] at G0 U0 hB2
        have HG0 := Lib.hid G0
        have HU0 := Lib.hid U0
        have HW0 := Lib.hid W0
        clear hG hb3 V3 G0 U0 W0 r1 r2 r3 f1 f2 f3 t1 t2 t3 HV hd8 hd9 hm2 hm hzr
        go_wp2_with fail
        clear hw4 hbo
        go_loopw [39] (fun i wq => ∃ (j2 : Nat) (y : X) (r : Option Addr) (c : Nat), j2 ≤ args.len ∧ i = .int .i64 (j2 : Int) ∧ y.app (args.drop j2) = args ∧ Got2 wq 35 a y (.slice r (a.len + y.len) c) B bo ∧
            wq.heap[bo]? = some (.cells #[.int .i64 k, .int .i64 n, .slice r (a.len + y.len) c] 35 (0, 0)) ∧
            Vars2 w (.cells #[.int .i64 k, .int .i64 n, .slice p l cap] 35) (.cells #[.int .i64 0, .int .i64 0, .slice none 0 0] 35) wq)
          (fun i _ => args.len - (intOf i).toNat)
        case atStart => exact ⟨0, .nil, q1, c1, Nat.zero_le _, rfl, by rw [X.drop_zero]; rfl, HG0.out, HU0.out, HW0.out⟩
        case round =>
          clear HG0 HU0 HW0
          obtain ⟨j2, y, r, c, hj2, rfl, hy, hgot, hout, hV⟩ := hrel
          have hyl : y.len = j2 := by
            have := congrArg X.len hy
            rw [X.len_app, X.len_drop] at this
            omega
          have HY := Lib.hid hy
          have HYL := Lib.hid hyl
          have HG := Lib.hid hgot
          have HOut := Lib.hid hout
          have HV := Lib.hid hV
          obtain ⟨ho1, ho2, ho3⟩ := box3_cells hout
          obtain ⟨fo1, fo2, fo3⟩ := free3 hout
          have hlo := lt_of_block hout
          have hzV := lt_of_block hV.2.1
          obtain ⟨z1, z2, z3⟩ := box3_cells hV.2.1
          obtain ⟨fz1, fz2, fz3⟩ := free3 hV.2.1
          clear hgot hout hy hyl hV
          by_cases hlt : j2 < args.len
          · clear z1 z2 z3 fz1 fz2 fz3
            rcases hrow with h0 | ⟨b, off, rfl, hr⟩
            · omega
            obtain ⟨hck, hcn, p', n', cap'2, hc, hi⟩ := base3_at (Keeps3.below HV.out.2.2 (Nat.le_refl _)) hr hlt
            have hg := args.sz_ga j2 hlt
            obtain ⟨xs1, xs2, hown, hk1, hk2, hne⟩ := HG.out
            have hmx : a.len + y.len + 1 ≤ maxLen := by have := HYL.out; simp only [maxLen]; omega
            have hby : (a.len + y.len + 1) * 40 ≤ 140737488355328 := by have := HYL.out; omega
            have ok : ∀ (w1 w3 : World) (Y : Obj), Below (wr.alloc (.cells #[.int .i64 (args.gk j2), .int .i64 (args.gn j2), .slice p' n' cap'2] 35)).drew.heap.size (wr.alloc (.cells #[.int .i64 (args.gk j2), .int .i64 (args.gn j2), .slice p' n' cap'2] 35)).drew w1 → (w1.alloc Y).grownBy w3 (Value.slice r (a.len + y.len) c).ownBlock →
                w3.heap[bo]? = some (.cells #[.int .i64 k, .int .i64 n, .slice r (a.len + y.len) c] 35 (0, 0)) ∧ Vars2 w (.cells #[.int .i64 k, .int .i64 n, .slice p l cap] 35) (.cells #[.int .i64 0, .int .i64 0, .slice none 0 0] 35) w3 :=
              fun w1 w3 Y h1 h2 => ⟨out_kept2 hlo HOut.out hne h1 h2, out_kept (B := B) (by omega) HV.out.1 (by omega) h1 hown.lt h2, out_kept (B := B) hzV HV.out.2.1 hB1 h1 hown.lt h2, below_collect HV.out.2.2 (by omega) h1 (by omega) hown.lt h2⟩
            have OK := Lib.hid ok
            have IH := Lib.hid (fun (h' : IsX (wr.alloc (.cells #[.int .i64 (args.gk j2), .int .i64 (args.gn j2), .slice p' n' cap'2] 35)).drew (args.ga j2) p' n' cap'2) => tcopy_any ((args.ga j2).sz + 1) (args.ga j2) (args.gk j2) (args.gn j2) _ p' n' cap'2 (Nat.lt_succ_self _) (by omega) h')
            clear ok
            go_upto_region 12 with fail
            go_region_law (first
              | (go_simp; go_at_call 38; refine (IH.out ?_).mono ?_; exact (hi.alloc _).drew; rintro e w1 ⟨q1, c1, rfl, hO, hb1⟩;
                 have hownA := fun o => (ownsRow_later ((hown.alloc _).drew) hb1).alloc o; have hz1 := hb1.size; simp at hz1; have hz2' : B ≤ w1.heap.size := (by omega); have ca := box3_cells (call_kept hlo HOut.out hb1); obtain ⟨ca1, ca2, ca3⟩ := ca; have cb := free3 (call_kept hlo HOut.out hb1); obtain ⟨cb1, cb2, cb3⟩ := cb; have oc3 := fun o => (box3_cells (alloc_kept (call_kept hlo HOut.out hb1) o)).2.2; have oc4 : bo < w1.heap.size := (by omega))
              | (refine step_append_lies (w1.alloc (.cells #[.int .i64 (args.gk j2), .int .i64 (args.gn j2), .slice q1 (args.ga j2).len c1] 35)) rfl (.tmp 44) (.tmp 47) 33 rfl B 35 i0 (.agg #[.int .i64 0, .int .i64 0, .slice none 0 0]) 3 40 ?_ ?_ ?_ ?_ ?_ ?_ ?_ (.slice r (a.len + y.len) c) (a.len + y.len) (xs1 ++ xs2) ?_ ?_ ⟨w1.heap.size, 0, none⟩ 1 1 [.int .i64 (args.gk j2), .int .i64 (args.gn j2), .slice q1 (args.ga j2).len c1] ?_ ?_ ?_ ?_ ?_ ?_ ?_ ?_ (w1.heap.size+1) ?_ ?_; exact Try.underlying33; exact hi0; exact hz0; exact hz1'; exact hz2; rfl; exact (by decide); rfl; exact hownA _; rfl; rfl; exact World.news_of_block (heap_new _ _); exact one_three _ _ _ _ _; exact Nat.one_pos; exact hmx; exact hby; exact base_le _ hz2'; exact size_new _ _; intro g cp w3 hown3 hgrow hat hglt; have hh3 := (OK.out _ _ _ hb1 hgrow).1; obtain ⟨o1, o2, o3⟩ := box3_cells hh3; obtain ⟨o4, o5, o6⟩ := free3 hh3))
            all_goals go_wp2_with fail
            all_goals
              have hy' : (y.snoc (args.gk j2) (args.gn j2) (args.ga j2)).app (args.drop (j2 + 1)) = args := by rw [X.snoc_app, ← X.drop_cons args j2 hlt]; exact HY.out
              have hl' : a.len + (y.snoc (args.gk j2) (args.gn j2) (args.ga j2)).len = a.len + y.len + 1 := by rw [X.len_snoc]; rfl
              have HL := Lib.hid hl'
              clear hl'
              go_roundw
              case rel => exact ⟨j2 + 1, _, some ⟨g, 0, none⟩, cp, by omega, by go_num, hy', by rw [HL.out]; exact (Got2.round (wx := (wr.alloc (.cells #[.int .i64 (args.gk j2), .int .i64 (args.gn j2), .slice p' n' cap'2] 35)).drew) hown hk1 hk2 hne hlo (fun j hj => Below.heap_alloc wr _ j hj) (by simp) hb1 hO hown3 hgrow hat).set 2 _, by rw [HL.out]; exact field_set hh3, (OK.out _ _ _ hb1 hgrow).2.set (by omega) 2 _⟩
              case measure => simp [intOf]; omega
          · obtain rfl : y = args := by
              have h := HY.out
              rw [X.drop_end args j2 (by omega), X.app_nil] at h
              exact h
            clear HY HYL
            go_wp2_with fail
            obtain ⟨q', c', he, hO⟩ := HG.out.got.finish
            obtain ⟨rfl, _, rfl⟩ : r = q' ∧ _ ∧ c = c' := by simpa using he
            exact bodyPost_ret (v := .tuple #[.agg #[.int .i64 k, .int .i64 n, .slice r (a.len + y.len) c], .int .i64 0]) (by simp [results, Try.results33, go_sem, z1, z2, z3]) rfl ⟨r, c, by rw [X.len_app], hO.set3 _ _ _ hB1 (by omega), below_set3 _ _ _ HV.out.2.2 (by omega)⟩

end Go.Proofs.Ytlgfaobbjnhfoaa
