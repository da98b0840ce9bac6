/-
  The walk of the statement on the substitution of the variables for themselves, where the example holds. Conditions: numbers of 64 bits.
-/
import Derived.Test.YtlgfaobbjnhfoaaTWalkFc
import Derived.Test.YtlgfaobbjnhfoaaTWalkR
import Derived.Test.YtlgfaobbjnhfoaaTWalkT
set_option linter.unusedSimpArgs false
set_option linter.unusedVariables false
namespace Go.Proofs.Ytlgfaobbjnhfoaa
open Go.RowKit Go.Maps

/-- the variables i, i + 1, .., m of them -/
def idX : Nat → Nat → X
  | 0, _ => .nil
  | m + 1, i => .cons 0 (i : Int) .nil (idX m (i + 1))

theorem idX_len (m : Nat) : ∀ i, (idX m i).len = m := by
  induction m with
  | zero => intro i; rfl
  | succ m ih => intro i; simp only [idX, X.len, ih]

theorem idX_at (m : Nat) : ∀ i j, j < m → (idX m i).gk j = 0 ∧ (idX m i).gn j = ((i + j : Nat) : Int) ∧ (idX m i).ga j = .nil := by
  induction m with
  | zero => intro i j h; exact absurd h (Nat.not_lt_zero _)
  | succ m ih =>
    intro i j h
    cases j with
    | zero => exact ⟨rfl, rfl, rfl⟩
    | succ j =>
      have := ih (i + 1) j (by omega)
      rw [show i + (j + 1) = i + 1 + j by omega]
      exact this

theorem idX_small (m : Nat) : ∀ i, smalls (idX m i) = true := by
  induction m with
  | zero => intro i; rfl
  | succ m ih => intro i; simp only [idX, smalls, X.sz, ih]; rfl

theorem rep1_idX (k n : Int) (a ra : X) (h : kn (idX 1000 0) k n a = true) : rep1 (idX 1000 0) k n ra = (k, n, ra) ∧ g1 (idX 1000 0) k n = 1 := by
  unfold rep1 g1
  by_cases hk : k = 0
  · rw [if_pos hk, if_pos hk]
    have hK := kn_known h
    rcases hK with h' | ⟨h1, h2⟩
    · exact absurd hk h'
    · rw [idX_len] at h2
      obtain ⟨e1, e2, e3⟩ := idX_at 1000 0 n.toNat (by omega)
      rw [e1, e2, e3, hk]
      refine ⟨?_, by simp [X.sz]⟩
      have : ((0 + n.toNat : Nat) : Int) = n := by omega
      rw [this]
      rfl
  · rw [if_neg hk, if_neg hk]
    exact ⟨rfl, rfl⟩

theorem rep_idX (t : X) : allB (kn (idX 1000 0)) t = true → rep (idX 1000 0) t = t ∧ gsz (idX 1000 0) t = t.sz := by
  induction t with
  | nil => intro _; exact ⟨rfl, rfl⟩
  | cons k n a r iha ihr =>
    intro h
    simp only [allB, Bool.and_eq_true] at h
    obtain ⟨⟨h1, h2⟩, h3⟩ := h
    obtain ⟨a1, a2⟩ := iha h2
    obtain ⟨r1, r2⟩ := ihr h3
    obtain ⟨e1, e2⟩ := rep1_idX k n a a h1
    have e2' : (if k = 0 then 1 + ((idX 1000 0).ga n.toNat).sz else 1) = 1 := e2
    refine ⟨?_, ?_⟩
    · simp only [rep, a1, r1, e1]
    · simp only [gsz, a2, r2, e2', X.sz]

theorem self_res {k n : Int} {a : X} (hs : a.sz < 100000) (h : kn1 (idX 1000 0) k n a = true) : subRes (idX 1000 0) k n a = (0, k, n, a) := by
  have h0 := h
  unfold kn1 at h
  simp only [Bool.and_eq_true] at h
  obtain ⟨h1, h2⟩ := h
  obtain ⟨r1, r2⟩ := rep_idX a h2
  obtain ⟨e1, e2⟩ := rep1_idX k n a (rep (idX 1000 0) a) h1
  unfold subRes
  rw [if_pos hs, if_pos (idX_small _ _), if_pos h0, if_pos (by rw [e2, r2]; omega), e1, r1]

theorem free_kn {k n : Int} {a : X} {L : List Int} (h : freeRes k n a = (0, L)) (hb : ∀ v ∈ L, v < 1000) : a.sz < 100000 ∧ kn1 (idX 1000 0) k n a = true := by
  unfold freeRes at h
  split at h
  · rename_i hs
    split at h
    · rename_i hw
      refine ⟨hs, (kn1_all _ k n a).2 fun v hv => ?_⟩
      have e := (Prod.mk.inj h).2
      have h1 := (walk1_ff k n a).1.1 hw v hv
      rw [e] at hv
      have h2 := hb v hv
      rw [idX_len]
      exact ⟨h1, by omega⟩
    · exact absurd (Prod.mk.inj h).1 (by decide)
  · exact absurd (Prod.mk.inj h).1 (by decide)

theorem free_inc {k n : Int} {a : X} {E : Int} {L : List Int} (h : freeRes k n a = (E, L)) : Inc L ∧ L.length ≤ 100000 := by
  unfold freeRes at h
  split at h
  · rename_i hs
    split at h
    · rw [← (Prod.mk.inj h).2]; exact ⟨vars1_inc k n a, vars1_zero k n a hs⟩
    · rw [← (Prod.mk.inj h).2]; exact ⟨List.Pairwise.nil, by simp⟩
  · rw [← (Prod.mk.inj h).2]; exact ⟨List.Pairwise.nil, by simp⟩

theorem inc_last {L : List Int} (h : Inc L) {m : Nat} (hm : L.length = m + 1) {z : Int} (hz : L[m]? = some z) : ∀ v ∈ L, v ≤ z := by
  intro v hv
  obtain ⟨i, hi, rfl⟩ := List.getElem_of_mem hv
  have hml : m < L.length := by omega
  rw [List.getElem?_eq_getElem hml] at hz
  injection hz with hz
  by_cases e : i = m
  · subst e; omega
  · have := List.pairwise_iff_getElem.1 h i m hi hml (by omega)
    omega

set_option maxRecDepth 100000 in
set_option maxHeartbeats 8000000 in
/-- the statement: at last: a thousand variables, the substitution, the comparison -/
theorem law_self (hal : Alive) (a : X) (k n : Int) (w : World) (p : Option Addr) (l cap : Nat) (his : IsX w a p l cap) (hw : wf64 n) (hwa : WfX a) :
    Calls Try.prog 11 #[.agg #[.int .i64 k, .int .i64 n, .slice p l cap]] w fun e w' => e = .returned (.bool true) ∧ Below w.heap.size w w' := by
  obtain ⟨i0, hi0, hz0, hz1', hz2⟩ := info_parts infoX
  have HAL := Lib.hid hal
  clear hal
  obtain ⟨E, L, hres⟩ : ∃ E L, freeRes k n a = (E, L) := ⟨_, _, rfl⟩
  obtain ⟨hinc, hll⟩ := free_inc hres
  have HP := Lib.hid (fun W h => tfree_any k n a W p l cap h hw hwa E L hres)
  clear hw hwa
  by_cases hE : E = 0
  case neg =>
    have hd : (E != 0) = true := by simp [hE]
    clear hres hE hinc
    go_enter Try.func11, Try.ntmps11
    go_wp2_with fail
    refine (HP.out _ (his.alloc _)).mono ?_
    rintro e w1 ⟨r, c, rfl, hi1, hb1⟩
    go_wp2_with fail
    refine (alive_late HAL.out (below_call hb1)).mono ?_
    rintro e w4 ⟨rfl, hb4⟩
    go_wp2_with fail
    go_ret
    exact ⟨rfl, hb4⟩
  case pos =>
    subst hE
    have hcase : (∃ m z, L.length = m + 1 ∧ L[m]? = some z ∧ 1000 ≤ z) ∨ ((L = [] ∨ ∃ m z, L.length = m + 1 ∧ L[m]? = some z ∧ z < 1000) ∧ a.sz < 100000 ∧ kn1 (idX 1000 0) k n a = true) := by
      cases L with
      | nil => exact Or.inr ⟨Or.inl rfl, free_kn hres (by simp)⟩
      | cons x V =>
        have hm : (x :: V).length = V.length + 1 := rfl
        obtain ⟨z, hz⟩ : ∃ z, (x :: V)[V.length]? = some z := ⟨_, List.getElem?_eq_getElem (by simp)⟩
        by_cases hzz : 1000 ≤ z
        · exact Or.inl ⟨V.length, z, hm, hz, hzz⟩
        · exact Or.inr ⟨Or.inr ⟨V.length, z, hm, hz, by omega⟩, free_kn hres fun v hv => by have := inc_last hinc hm hz v hv; omega⟩
    clear hres hinc
    rcases hcase with ⟨m, z, hm, hz, hzz⟩ | ⟨hL, hs, hkn⟩
    · have hdz : decide (1000 ≤ z) = true := by simpa using hzz
      have HZ := Lib.hid hz
      have HM := Lib.hid hm
      clear hz hm hzz
      go_enter Try.func11, Try.ntmps11
      go_wp2_with fail
      refine (HP.out _ (his.alloc _)).mono ?_
      rintro e w1 ⟨r, c, rfl, hi1, hb1⟩
      obtain ⟨_, hc1, hc2, hr⟩ := hi1
      unfold maxLen at hc2
      rcases hr with ⟨_, h0⟩ | ⟨lb, lo, rfl, hlb, hcell⟩
      · have := HM.out; omega
      have hcz := hcell m z HZ.out
      rw [HM.out] at hc1 ⊢
      have hml : m ≤ 100000 := by have := HM.out; omega
      clear hcell hll
      go_wp2_with fail
      refine (alive_late HAL.out (below_call hb1)).mono ?_
      rintro e w4 ⟨rfl, hb4⟩
      go_wp2_with fail
      go_ret
      exact ⟨rfl, hb4⟩
    · have HSU := Lib.hid (fun W q cap' h h' => subst_any (idX 1000 0) a k n W p q l cap 1000 cap' h h' (by rw [idX_len]; omega) 0 k n a (self_res hs hkn))
      have HSM := Lib.hid (fun W p' l' c' h h' => tsame_any a a k n k n W p p' l cap l' c' h h')
      have hsm : X.sm k n a k n a = true := sm_refl k n a hs
      rw [hsm] at HSM
      clear hs hkn hsm
      have hnil : L = [] ∨ ∃ m z, L.length = m + 1 ∧ L[m]? = some z ∧ z < 1000 := hL
      have hend : ∀ (r : Option Addr) (c : Nat) (w1 : World), True := fun _ _ _ => trivial
      clear hend
      rcases hL with rfl | ⟨m, z, hm, hz, hzz⟩
      case' inl =>
        clear hll hnil
        go_enter Try.func11, Try.ntmps11
        go_wp2_with fail
        refine (HP.out _ (his.alloc _)).mono ?_
        rintro e w1 ⟨r, c, rfl, hi1, hb1⟩
        have B1 := below_call hb1
        have t1 := box3_later hb1 (heap_new w (.cells #[.int .i64 k, .int .i64 n, .slice p l cap] 35))
        have T1 := Lib.hid t1
        clear hi1 hb1 t1
        go_wp2_with fail
      case' inr =>
        have hdz : decide (1000 ≤ z) = false := by rw [decide_eq_false_iff_not]; omega
        have HZ := Lib.hid hz
        have HM := Lib.hid hm
        clear hz hm hzz hnil
        go_enter Try.func11, Try.ntmps11
        go_wp2_with fail
        refine (HP.out _ (his.alloc _)).mono ?_
        rintro e w1 ⟨r, c, rfl, hi1, hb1⟩
        have B1 := below_call hb1
        have t1 := box3_later hb1 (heap_new w (.cells #[.int .i64 k, .int .i64 n, .slice p l cap] 35))
        have T1 := Lib.hid t1
        obtain ⟨_, hc1, hc2, hr⟩ := hi1
        unfold maxLen at hc2
        rcases hr with ⟨_, h0⟩ | ⟨lb, lo, rfl, hlb, hcell⟩
        · have := HM.out; omega
        have hcz := hcell m z HZ.out
        rw [HM.out] at hc1 ⊢
        have hml : m ≤ 100000 := by have := HM.out; omega
        clear hcell hll hb1 t1
        go_wp2_with fail
        clear hcz hdz
      all_goals
        go_loopw [5, 31] (fun v i wr => ∃ (j : Nat) (y : X) (rr : Option Addr) (cc : Nat), j ≤ 1000 ∧ i = .int .i64 (j : Int) ∧ v = .slice rr y.len cc ∧ y.app (idX (1000 - j) j) = idX 1000 0 ∧ GotX wr 35 y (.slice rr y.len cc) w1.heap.size ∧ Below w1.heap.size w1 wr)
          (fun _ i _ => 1000 - (Go.RowKit.intOf i).toNat)
        case atStart => exact ⟨0, .nil, none, 0, Nat.zero_le _, rfl, rfl, rfl, GotX.start (World.ownsRow_nil _ _ _ _) (Nat.le_refl _), Below.refl _ _⟩
        case round =>
          obtain ⟨j, y, rr, cc, hj, rfl, rfl, hy, hgot, hb⟩ := hrel
          have hyl : y.len = j := by
            have := congrArg X.len hy
            rw [X.len_app, idX_len, idX_len] at this
            omega
          have HY := Lib.hid hy
          have HG := Lib.hid hgot
          have HYL := Lib.hid hyl
          clear hy hgot hyl
          have hz := hb.size
          by_cases hlt : j < 1000
          · obtain ⟨xs, hown, hkids⟩ := HG.out
            have hmx : y.len + 1 ≤ maxLen := by have := HYL.out; simp only [maxLen]; omega
            have hby : (y.len + 1) * 40 ≤ 140737488355328 := by have := HYL.out; omega
            have hdj : decide ((j : Int) < 1000) = true := by rw [decide_eq_true_eq]; omega
            go_wp2_with (first
              | (go_at_call 34; refine (variable_any _ _ _ _ _).mono ?_; rintro e w5 ⟨rfl, rfl⟩)
              | (at_builtin; refine wpList_append_lies _ rfl (.tmp 34) (.tmp 37) 33 rfl w1.heap.size 35 i0 (.agg #[.int .i64 0, .int .i64 0, .slice none 0 0]) 3 40 Try.underlying33 hi0 hz0 hz1' hz2 rfl (by decide) (.slice rr y.len cc) y.len xs rfl ((hown.alloc _).alloc _) ⟨wr.heap.size + 1, 0, none⟩ 1 1 [.int .i64 0, .int .i64 (j : Int), .slice none 0 0] rfl rfl ?_ (one_three _ _ _ _ _) Nat.one_pos hmx hby ?_ (wr.heap.size + 1 + 1) ?_ ?_; exact World.news_of_block (by have h := heap_new (wr.alloc (.cells #[.int .i64 0, .int .i64 (j : Int), .slice none 0 0] 35)) (.cells #[.int .i64 0, .int .i64 (j : Int), .slice none 0 0] 35); simpa using h); (simp; omega); (simp); intro g cp w3 hown3 hgrow hat hglt))
            have hpush := GotX.push (wy := (wr.alloc (.cells #[.int .i64 0, .int .i64 (j : Int), .slice none 0 0] 35)).alloc (.cells #[.int .i64 0, .int .i64 (j : Int), .slice none 0 0] 35)) (lo := wr.heap.size) (hi := wr.heap.size) (a := .nil) hown hkids
              (fun j' hj' => by rw [Below.heap_alloc _ _ _ (by simp; omega), Below.heap_alloc _ _ _ hj']) (ownX_nil _ _ _) (Nat.le_refl _) (Nat.le_refl _) (by simp; omega) hown3 hgrow (by simpa using hat)
            have hlt2 := hown.lt
            have hb2 : Below w1.heap.size w1 w3 := ((hb.alloc hz _).alloc (by simp; omega) _).grown hgrow (by simp; omega) fun k' hk' => (hlt2 k' hk').1
            have hl' : (y.snoc 0 (j : Int) .nil).len = y.len + 1 := X.len_snoc _ _ _ _
            have hy' : (y.snoc 0 (j : Int) .nil).app (idX (1000 - (j + 1)) (j + 1)) = idX 1000 0 := by
              rw [X.snoc_app]
              have h := HY.out
              rw [show 1000 - j = (1000 - (j + 1)) + 1 by omega] at h
              exact h
            have HL := Lib.hid hl'
            have HY' := Lib.hid hy'
            clear hl' hy' hown3 hgrow hat
            go_roundw
            case rel => exact ⟨j + 1, _, some ⟨g, 0, none⟩, cp, by omega, by go_num, by rw [HL.out], HY'.out, by rw [HL.out]; exact hpush, hb2⟩
            case measure => simp [Go.RowKit.intOf]; omega
          · have hye : y = idX 1000 0 := by
              have h := HY.out
              rw [show 1000 - j = 0 by omega] at h
              have h2 : y.app .nil = idX 1000 0 := h
              rwa [X.app_nil] at h2
            subst hye
            obtain ⟨q9, c9, he9, hO9⟩ := HG.out.finish
            obtain ⟨rfl, rfl⟩ : rr = q9 ∧ cc = c9 := by simpa using he9
            have ia := hO9.isX
            have hl1000 := idX_len 1000 0
            rw [hl1000] at ia ⊢
            have hj1000 : j = 1000 := by have := HYL.out; rw [hl1000] at this; exact this.symm
            subst hj1000
            have BR := B1.trans (hb.mono B1.size)
            have ix := his.below BR
            have tr := box3_later hb T1.out
            obtain ⟨x1, x2, x3⟩ := box3_cells tr
            have TR := Lib.hid tr
            clear he9 hO9 HG HY HYL hl1000 tr
            go_wp2_with fail
            refine (HSU.out _ _ _ ix ia).mono ?_
            rintro e w5 ⟨r2, c2, rfl, hO2, hb5⟩
            have B5 := BR.trans (hb5.mono BR.size)
            clear x1 x2 x3
            obtain ⟨x1, x2, x3⟩ := box3_cells (alloc_kept (box3_later hb5 TR.out) (.cells #[.int .i64 k, .int .i64 n, .slice r2 a.len c2] 35))
            have B6 := B5.alloc B5.size (.cells #[.int .i64 k, .int .i64 n, .slice r2 a.len c2] 35)
            have i6 := his.below B6
            have j6 := hO2.isX.alloc (.cells #[.int .i64 k, .int .i64 n, .slice r2 a.len c2] 35)
            clear hb5 hO2 B5
            go_wp2_with fail
            refine (HSM.out _ _ _ _ i6 j6).mono ?_
            rintro e w7 ⟨rfl, hb7⟩
            have B7 := B6.trans (hb7.mono B6.size)
            clear hb7
            go_wp2_with fail
            refine (alive_late HAL.out B7).mono ?_
            rintro e w8 ⟨rfl, hb8⟩
            go_wp2_with fail
            go_ret
            exact ⟨rfl, hb8⟩

end Go.Proofs.Ytlgfaobbjnhfoaa
