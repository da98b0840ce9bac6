/-
  The walk of the statement on one substitution after another, where the example holds. Conditions: at most 2^44 args, the other ones too.
-/
import Derived.Test.YtlgfaobbjnhfoaaTLawN
set_option linter.unusedSimpArgs false
set_option linter.unusedVariables false
namespace Go.Proofs.Ytlgfaobbjnhfoaa
open Go.RowKit

theorem X.eqX_self (a : X) : X.eqX a a = true := by
  induction a with
  | nil => simp [X.eqX]
  | cons k n a r iha ihr => simp [X.eqX, iha, ihr]

theorem X.sm_self (k n : Int) (a : X) (h : a.sz < 100000) : X.sm k n a k n a = true := by simp [X.sm, X.eq1, X.eqX_self, h]

theorem len_rep (args t : X) : (rep args t).len = t.len := by
  induction t with
  | nil => rfl
  | cons k n a r iha ihr => simp only [rep, X.len, ihr]

theorem rep_app (m a b : X) : rep m (a.app b) = (rep m a).app (rep m b) := by
  induction a with
  | nil => rfl
  | cons k n x r ihx ihr => show rep m (.cons k n x (r.app b)) = _; simp only [rep, ihr, X.app]

theorem rep_at (m a : X) : ∀ i, i < a.len → ((rep m a).gk i, (rep m a).gn i, (rep m a).ga i) = rep1 m (a.gk i) (a.gn i) (rep m (a.ga i)) := by
  induction a with
  | nil => intro i h; exact absurd h (Nat.not_lt_zero _)
  | cons k n x r ihx ihr =>
    intro i hi
    cases i with
    | zero => rfl
    | succ i => exact ihr i (by simp only [X.len] at hi; omega)

theorem rep_drop (m a : X) (i : Nat) (h : i < a.len) : rep m (a.drop i) = .cons (rep1 m (a.gk i) (a.gn i) (rep m (a.ga i))).1 (rep1 m (a.gk i) (a.gn i) (rep m (a.ga i))).2.1 (rep1 m (a.gk i) (a.gn i) (rep m (a.ga i))).2.2 (rep m (a.drop (i + 1))) := by
  rw [X.drop_cons a i h]; rfl

theorem rep1_rep1 (m args : X) (k n : Int) (x : X) (h : Known args k n .nil) :
    rep1 m (rep1 args k n x).1 (rep1 args k n x).2.1 (rep m (rep1 args k n x).2.2) = rep1 (rep m args) k n (rep m x) := by
  by_cases hk : k = 0
  · rcases h with h | ⟨h1, h2⟩
    · exact absurd hk h
    · have hn : n.toNat < args.len := by omega
      have ha := rep_at m args n.toNat hn
      unfold rep1 at ha
      simp only [rep1, hk, if_true, rep_app]
      by_cases hg : args.gk n.toNat = 0
      · rw [if_pos hg] at ha ⊢
        obtain ⟨e1, e2⟩ := Prod.mk.inj ha
        obtain ⟨e2, e3⟩ := Prod.mk.inj e2
        rw [e1, e2, e3, X.app_assoc]
      · rw [if_neg hg] at ha ⊢
        obtain ⟨e1, e2⟩ := Prod.mk.inj ha
        obtain ⟨e2, e3⟩ := Prod.mk.inj e2
        rw [e1, e2, e3]
  · simp only [rep1, hk, if_false]

theorem rep_rep (m args t : X) (h : allB (kn args) t = true) : rep m (rep args t) = rep (rep m args) t := by
  induction t with
  | nil => rfl
  | cons k n a r iha ihr =>
    simp only [allB, Bool.and_eq_true] at h
    have hk : Known args k n .nil := kn_known (a := .nil) h.1.1
    have h1 := rep1_rep1 m args k n (rep args a) hk
    simp only [rep, ihr h.2]
    rw [h1, iha h.1.2]

theorem known_rep (m args : X) (t : X) (h : allB (kn args) t = true) : allB (kn (rep m args)) t = true := by
  induction t with
  | nil => rfl
  | cons k n a r iha ihr =>
    simp only [allB, Bool.and_eq_true] at h ⊢
    refine ⟨⟨?_, iha h.1.2⟩, ihr h.2⟩
    have := h.1.1
    unfold kn at this ⊢
    rw [len_rep]; exact this

theorem twice_res {args m a A1 A2 : X} {k n K1 N1 K2 N2 : Int} (h1 : subRes args k n a = (0, K1, N1, A1)) (h2 : subRes m K1 N1 A1 = (0, K2, N2, A2))
    (h3 : ∀ i, i < args.len → (subRes m (args.gk i) (args.gn i) (args.ga i)).1 = 0) : subRes (rep m args) k n a = (0, K2, N2, A2) ∧ A2.sz < 100000 := by
  obtain ⟨p1, p2, p3, p4, p5⟩ := subRes_ok (args := args) (a := a) (k := k) (n := n) (by rw [h1])
  obtain ⟨q1, q2, q3, q4, q5⟩ := subRes_ok (args := m) (a := A1) (k := K1) (n := N1) (by rw [h2])
  rw [h1] at p5
  rw [h2] at q5
  have e1 := (Prod.mk.inj p5).2
  have e2 := (Prod.mk.inj q5).2
  have h3' : kn args k n a = true ∧ allB (kn args) a = true := by simpa [kn1] using p3
  have hk : Known args k n .nil := kn_known (a := .nil) h3'.1
  have hr := rep1_rep1 m args k n (rep args a) hk
  rw [← e1] at hr
  dsimp only at hr
  rw [rep_rep m args a h3'.2, ← e2] at hr
  have hsm : smalls (rep m args) = true := by
    refine smalls_of fun i hi => ?_
    rw [len_rep] at hi
    obtain ⟨_, _, _, s4, s5⟩ := subRes_ok (h3 i hi)
    have ha := rep_at m args i hi
    have hs := rep1_sz m (args.gk i) (args.gn i) (args.ga i)
    rw [← ha] at hs
    dsimp only at hs
    omega
  have hkn : kn1 (rep m args) k n a = true := by
    unfold kn1
    rw [known_rep m args a h3'.2]
    have := h3'.1
    unfold kn at this ⊢
    rw [len_rep, this]; rfl
  have hs := rep1_sz (rep m args) k n a
  rw [← hr] at hs
  dsimp only at hs
  have hs2 := rep1_sz m K1 N1 A1
  rw [← e2] at hs2
  dsimp only at hs2
  refine ⟨?_, by omega⟩
  unfold subRes
  rw [if_pos p1, if_pos hsm, if_pos hkn, if_pos (by omega), ← hr]

set_option maxRecDepth 100000 in
set_option maxHeartbeats 20000000 in
theorem law_twice (hal : Alive) (a args more : X) (k n : Int) (w : World) (p q s : Option Addr) (l cap m cap' m2 cap2 : Nat) (his : IsX w a p l cap) (hia : IsX w args q m cap') (him : IsX w more s m2 cap2)
    (hbig : m ≤ 17592186044416) (hbig2 : m2 ≤ 17592186044416) :
    Calls Try.prog 10 #[.agg #[.int .i64 k, .int .i64 n, .slice p l cap], .slice q m cap', .slice s m2 cap2] w fun e w' => e = .returned (.bool true) ∧ Below w.heap.size w w' := by
  obtain ⟨i0, hi0, hz0, hz1', hz2⟩ := info_parts infoX
  have HAL := Lib.hid hal
  clear hal
  obtain ⟨hn, hcap, hmax, hnil, hrow⟩ := id hia
  subst hn
  obtain ⟨hn2, _, _, _, _⟩ := id him
  subst hn2
  obtain ⟨E, K, Nn, A, hres⟩ : ∃ E K Nn A, subRes args k n a = (E, K, Nn, A) := ⟨_, _, _, _, rfl⟩
  have HS := Lib.hid (fun W h h' => subst_any args a k n W p q l cap args.len cap' h h' hbig E K Nn A hres)
  by_cases hE : E = 0
  case neg =>
    have hd : (E != 0) = true := by simp [hE]
    clear hE hres hrow
    go_enter Try.func10, Try.ntmps10
    go_wp2_with fail
    refine (HS.out _ (his.alloc _) (hia.alloc _)).mono ?_
    rintro e w1 ⟨r, c, rfl, hO, hb1⟩
    have B1 := below_call hb1
    go_wp2_with fail
    refine (alive_late HAL.out (B1.alloc B1.size _)).mono ?_
    rintro e w2 ⟨rfl, hb2⟩
    go_wp2_with fail
    go_ret
    exact ⟨rfl, hb2⟩
  case pos =>
    subst hE
    by_cases h1000 : args.len ≤ 1000
    case neg =>
      clear hres hrow
      go_enter Try.func10, Try.ntmps10
      go_wp2_with fail
      refine (HS.out _ (his.alloc _) (hia.alloc _)).mono ?_
      rintro e w1 ⟨r, c, rfl, hO, hb1⟩
      have B1 := below_call hb1
      go_wp2_with fail
      refine (alive_late HAL.out (B1.alloc B1.size _)).mono ?_
      rintro e w2 ⟨rfl, hb2⟩
      go_wp2_with fail
      go_ret
      exact ⟨rfl, hb2⟩
    case pos =>
      obtain ⟨E2, K2, N2, A2, hres2⟩ : ∃ E2 K2 N2 A2, subRes more K Nn A = (E2, K2, N2, A2) := ⟨_, _, _, _, rfl⟩
      have HS2 := Lib.hid (fun W r c h h' => subst_any more A K Nn W r s A.len c more.len cap2 h h' hbig2 E2 K2 N2 A2 hres2)
      by_cases hE : E2 = 0
      case neg =>
        have hd : (E2 != 0) = true := by simp [hE]
        clear hE hres hres2 hrow
        go_enter Try.func10, Try.ntmps10
        go_wp2_with fail
        refine (HS.out _ (his.alloc _) (hia.alloc _)).mono ?_
        rintro e w1 ⟨r, c, rfl, hO, hb1⟩
        have B1 := below_call hb1
        have i1 := hO.isX
        have m1 := him.below B1
        obtain ⟨x1, x2, x3⟩ := box3_cells (heap_new w1 (.cells #[.int .i64 K, .int .i64 Nn, .slice r A.len c] 35))
        have B2 := B1.alloc B1.size (.cells #[.int .i64 K, .int .i64 Nn, .slice r A.len c] 35)
        have i2 := i1.alloc (.cells #[.int .i64 K, .int .i64 Nn, .slice r A.len c] 35)
        have m2' := m1.alloc (.cells #[.int .i64 K, .int .i64 Nn, .slice r A.len c] 35)
        clear hb1 hO B1 i1 m1
        go_wp2_with fail
        refine (HS2.out _ _ _ i2 m2').mono ?_
        rintro e w2 ⟨r2, c2, rfl, hO2, hb2⟩
        have B3 := B2.trans (hb2.mono B2.size)
        clear hb2 B2 hO2
        go_wp2_with fail
        refine (alive_late HAL.out (B3.alloc B3.size _)).mono ?_
        rintro e w3 ⟨rfl, hb3⟩
        go_wp2_with fail
        go_ret
        exact ⟨rfl, hb3⟩
      case pos =>
        subst hE
        have hT := fun h3 => twice_res hres hres2 h3
        clear hres hres2
        have hlr := len_rep more args
        obtain ⟨both, hboth⟩ : ∃ both, rep more args = both := ⟨_, rfl⟩
        rw [hboth] at hT hlr
        have HT := Lib.hid hT
        have HLR := Lib.hid hlr
        clear hT hlr
        have HBO := Lib.hid hboth
        have HX := Lib.hid (fun i W r l c h h' => subst_any more (args.ga i) (args.gk i) (args.gn i) W r s l c more.len cap2 h h' hbig2)
        clear hboth
        go_enter Try.func10, Try.ntmps10
        go_wp2_with fail
        refine (HS.out _ (his.alloc _) (hia.alloc _)).mono ?_
        rintro e w1 ⟨r, c, rfl, hO, hb1⟩
        have t1 := box3_later hb1 (heap_new w (.cells #[.int .i64 k, .int .i64 n, .slice p l cap] 35))
        have B1 := below_call hb1
        have i1 := hO.isX
        have m1 := him.below B1
        obtain ⟨x1, x2, x3⟩ := box3_cells (heap_new w1 (.cells #[.int .i64 K, .int .i64 Nn, .slice r A.len c] 35))
        have B2 := B1.alloc B1.size (.cells #[.int .i64 K, .int .i64 Nn, .slice r A.len c] 35)
        have i2 := i1.alloc (.cells #[.int .i64 K, .int .i64 Nn, .slice r A.len c] 35)
        have m2' := m1.alloc (.cells #[.int .i64 K, .int .i64 Nn, .slice r A.len c] 35)
        have t2 := alloc_kept t1 (.cells #[.int .i64 K, .int .i64 Nn, .slice r A.len c] 35)
        have T2 := Lib.hid t2
        clear hb1 hO B1 i1 m1 t1 t2
        go_wp2_with fail
        refine (HS2.out _ _ _ i2 m2').mono ?_
        rintro e w2 ⟨r2, c2, rfl, hO2, hb2⟩
        have B3 := B2.trans (hb2.mono B2.size)
        have t3 := alloc_kept (box3_later hb2 T2.out) (.cells #[.int .i64 K2, .int .i64 N2, .slice r2 A2.len c2] 35)
        have v3 := heap_new w2 (.cells #[.int .i64 K2, .int .i64 N2, .slice r2 A2.len c2] 35)
        have i3 := hO2.isX.alloc (.cells #[.int .i64 K2, .int .i64 N2, .slice r2 A2.len c2] 35)
        have B4 := B3.alloc B3.size (.cells #[.int .i64 K2, .int .i64 N2, .slice r2 A2.len c2] 35)
        obtain ⟨w0, hw0⟩ : ∃ w0, w2.alloc (.cells #[.int .i64 K2, .int .i64 N2, .slice r2 A2.len c2] 35) = w0 := ⟨_, rfl⟩
        obtain ⟨bv, hbv⟩ : ∃ bv, w2.heap.size = bv := ⟨_, rfl⟩
        rw [hw0] at t3 v3 i3 B4
        rw [hbv] at v3
        have a0 := his.below B4
        have ar0 := hia.below B4
        have mo0 := him.below B4
        have HA0 := Lib.hid a0
        have HM0 := Lib.hid mo0
        have T3 := Lib.hid t3
        have V3 := Lib.hid v3
        have I3 := Lib.hid i3
        obtain ⟨_, _, _, _, hrow0⟩ := ar0
        clear hb2 B3 T2 hO2 x1 x2 x3 t3 v3 i3 B2 i2 m2' a0 mo0 hrow hia
        go_wp2_with fail
        clear hw0 hbv
        go_loopw [10, 42] (fun v i wr => ∃ (j : Nat) (y : X) (rr : Option Addr) (cc : Nat), j ≤ args.len ∧ i = .int .i64 (j : Int) ∧ v = .slice rr y.len cc ∧ y.app (rep more (args.drop j)) = both ∧ GotX wr 35 y (.slice rr y.len cc) w0.heap.size ∧
            (∀ i', i' < j → (subRes more (args.gk i') (args.gn i') (args.ga i')).1 = 0) ∧ Below w0.heap.size w0 wr)
          (fun _ i _ => args.len - (intOf i).toNat)
        case atStart => exact ⟨0, .nil, none, 0, Nat.zero_le _, rfl, rfl, by rw [X.drop_zero]; exact HBO.out, GotX.start (World.ownsRow_nil _ _ _ _) (Nat.le_refl _), fun i' h => absurd h (Nat.not_lt_zero _), Below.refl _ _⟩
        case round =>
          obtain ⟨j, y, rr, cc, hj, rfl, rfl, hy, hgot, hok, hb⟩ := hrel
          have hyl : y.len = j := by
            have := congrArg X.len hy
            rw [X.len_app, len_rep, X.len_drop] at this
            have := HLR.out
            omega
          have HY := Lib.hid hy
          have HGt := Lib.hid hgot
          have HYL := Lib.hid hyl
          have HOK := Lib.hid hok
          clear hgot hy hyl hok
          by_cases hlt : j < args.len
          · rcases hrow0 with h0 | ⟨b, off, rfl, hr⟩
            · omega
            obtain ⟨hck, hcn, p', n', cap1, hc, hix⟩ := base3_at (Keeps3.below hb (Nat.le_refl _)) hr hlt
            obtain ⟨E3, K3, N3, A3, hres3⟩ : ∃ E3 K3 N3 A3, subRes more (args.gk j) (args.gn j) (args.ga j) = (E3, K3, N3, A3) := ⟨_, _, _, _, rfl⟩
            have mo := (HM0.out.below hb).alloc (.cells #[.int .i64 (args.gk j), .int .i64 (args.gn j), .slice p' n' cap1] 35)
            have HXJ := Lib.hid (fun W r l c h h' => HX.out j W r l c h h' E3 K3 N3 A3 hres3)
            by_cases hE : E3 = 0
            case neg =>
              have hd : (E3 != 0) = true := by simp [hE]
              clear hE hres3 HX HT
              go_wp2_with fail
              refine (HXJ.out _ _ _ _ (hix.alloc _) mo).mono ?_
              rintro e w3 ⟨q1, c1, rfl, hO3, hb3⟩
              have B5 := B4.trans ((base_next hb hb3).mono B4.size)
              clear hb3 hO3 mo
              go_wp2_with fail
              refine (alive_late HAL.out (B5.alloc B5.size _)).mono ?_
              rintro e w4 ⟨rfl, hb4⟩
              go_wp2_with fail
              go_ret
              exact ⟨rfl, hb4⟩
            case pos =>
              subst hE
              have hre := subRes_ok (args := more) (a := args.ga j) (k := args.gk j) (n := args.gn j) (by rw [hres3])
              have he3 := hre.2.2.2.2
              rw [hres3] at he3
              have he4 := (Prod.mk.inj he3).2
              have hrd := rep_drop more args j hlt
              rw [← he4] at hrd
              dsimp only at hrd
              have HRD := Lib.hid hrd
              have hok2 : ∀ i', i' < j + 1 → (subRes more (args.gk i') (args.gn i') (args.ga i')).1 = 0 := by
                intro i' hi'
                by_cases he : i' = j
                · subst he; rw [hres3]
                · exact HOK.out i' (by omega)
              have HOK2 := Lib.hid hok2
              clear hre he3 he4 hrd hok2 hres3 HX HT HOK
              go_wp2_with fail
              refine (HXJ.out _ _ _ _ (hix.alloc _) mo).mono ?_
              rintro e w3 ⟨q1, c1, rfl, hO3, hb3⟩
              obtain ⟨x1, x2, x3⟩ := box3_cells (heap_new w3 (.cells #[.int .i64 K3, .int .i64 N3, .slice q1 A3.len c1] 35))
              have hO4 : OwnX (w3.alloc (.cells #[.int .i64 K3, .int .i64 N3, .slice q1 A3.len c1] 35)) A3 q1 c1 (wr.alloc (.cells #[.int .i64 (args.gk j), .int .i64 (args.gn j), .slice p' n' cap1] 35)).heap.size (w3.alloc (.cells #[.int .i64 K3, .int .i64 N3, .slice q1 A3.len c1] 35)).heap.size :=
                (hO3.keep fun j _ b => Below.heap_alloc _ _ _ b).mono (Nat.le_refl _) (by simp)
              have hb4 := hb3.alloc hb3.size (.cells #[.int .i64 K3, .int .i64 N3, .slice q1 A3.len c1] 35)
              obtain ⟨xs, hown, hkids⟩ := HGt.out
              obtain ⟨w4, hw4⟩ : ∃ w4, w3.alloc (.cells #[.int .i64 K3, .int .i64 N3, .slice q1 A3.len c1] 35) = w4 := ⟨_, rfl⟩
              rw [hw4] at x1 x2 x3 hO4 hb4
              have hownA : ∀ o, (w4.alloc o).ownsRow w0.heap.size 35 3 (.slice rr y.len cc) y.len xs := fun o => ((ownsRow_later (hown.alloc _) hb4)).alloc o
              have hz := hb.size
              have hz1 := hb4.size
              simp only [World.size_alloc] at hz1
              have hmx : y.len + 1 ≤ maxLen := by have := HYL.out; simp only [maxLen]; omega
              have hmx1 : y.len + 1 ≤ 1000000 := by have := HYL.out; omega
              clear hb3 hO3 mo
              go_upto_region 14 with fail
              clear hw4
              go_wp2_with (at_builtin; refine wpList_append_lies _ rfl _ _ 33 rfl w0.heap.size 35 i0 (.agg #[.int .i64 0, .int .i64 0, .slice none 0 0]) 3 40 Try.underlying33 hi0 hz0 hz1' hz2 rfl (by decide) _ y.len xs rfl (hownA _) ⟨w4.heap.size, 0, none⟩ 1 1 [.int .i64 K3, .int .i64 N3, .slice q1 A3.len c1] rfl rfl (World.news_of_block (heap_new _ _)) (by simp [Value.oneCell']) (by decide) hmx (by omega) (by simp; omega) (w4.heap.size + 1) (by simp) ?_; intro g3 cp w5 hown3 hgrow hat hglt)
              have hfin := GotX.round hb hown hkids hb4 hO4 hown3 hgrow hat
              clear hown3 hgrow hat hownA
              have hy' : (y.snoc K3 N3 A3).app (rep more (args.drop (j + 1))) = both := by rw [X.snoc_app, ← HRD.out]; exact HY.out
              have hl' : (y.snoc K3 N3 A3).len = y.len + 1 := X.len_snoc _ _ _ _
              have HL := Lib.hid hl'
              clear hl'
              go_roundw
              case rel => exact ⟨j + 1, _, some ⟨g3, 0, none⟩, cp, by omega, by go_num, by rw [HL.out], hy', by rw [HL.out]; exact hfin.1, HOK2.out, hfin.2⟩
              case measure => simp [intOf]; omega
          · obtain rfl : j = args.len := by omega
            have hyb : y = both := by
              have h := HY.out
              rw [X.drop_end args args.len (by omega)] at h
              exact (X.app_nil y).symm.trans h
            subst hyb
            have hS5 := HT.out HOK.out
            have hl5 : y.len ≤ 17592186044416 := by have := HLR.out; omega
            have HS5 := Lib.hid (fun W q c h h' => subst_any y a k n W p q l cap y.len c h h' hl5 0 K2 N2 A2 hS5.1)
            have hsm := X.sm_self K2 N2 A2 hS5.2
            have hx := fun W p' l' c' p2 l2 c2 h h' => tsame_any A2 A2 K2 N2 K2 N2 W p' p2 l' c' l2 c2 h h'
            rw [hsm] at hx
            have HX2 := Lib.hid hx
            have tb := box3_later hb T3.out
            obtain ⟨x1, x2, x3⟩ := box3_cells tb
            have ai := HA0.out.below hb
            obtain ⟨q5, c5, he5, hO5⟩ := HGt.out.finish
            obtain ⟨rfl, rfl⟩ : rr = q5 ∧ cc = c5 := by simpa using he5
            have bi := hO5.isX
            have vb := box3_later hb V3.out
            have ii := I3.out.below hb
            have B5 := B4.trans (hb.mono B4.size)
            have VB := Lib.hid vb
            clear hsm hx hS5 HX HT HOK HY HGt hO5 he5 tb vb hl5 hrow0
            go_wp2_with fail
            refine (HS5.out _ _ _ ai bi).mono ?_
            rintro e w5 ⟨r5, c6, rfl, hO6, hb5⟩
            have B6 := B5.trans (hb5.mono B5.size)
            obtain ⟨y1, y2, y3⟩ := box3_cells (alloc_kept (box3_later hb5 VB.out) (.cells #[.int .i64 K2, .int .i64 N2, .slice r5 A2.len c6] 35))
            have i5 := (ii.below hb5).alloc (.cells #[.int .i64 K2, .int .i64 N2, .slice r5 A2.len c6] 35)
            have i6 := hO6.isX.alloc (.cells #[.int .i64 K2, .int .i64 N2, .slice r5 A2.len c6] 35)
            have B7 := B6.alloc B6.size (.cells #[.int .i64 K2, .int .i64 N2, .slice r5 A2.len c6] 35)
            clear hb5 hO6 B5 B6 x1 x2 x3
            go_wp2_with fail
            refine (HX2.out _ _ _ _ _ _ _ i5 i6).mono ?_
            rintro e w6 ⟨rfl, hb6⟩
            have B8 := B7.trans (hb6.mono B7.size)
            clear hb6
            go_wp2_with fail
            refine (alive_late HAL.out B8).mono ?_
            rintro e w7 ⟨rfl, hb7⟩
            go_wp2_with fail
            go_ret
            exact ⟨rfl, hb7⟩

end Go.Proofs.Ytlgfaobbjnhfoaa
