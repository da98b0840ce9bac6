/-
  Whatever ranks, tree and path are handed in, the statement on At answers true and leaves these as it was. Conditions: none but the row's own (memory that leads back into itself is shut out).
-/
import Derived.Test.YtgpbkdfhjkfceaaMg27
import Derived.Test.YtgpbkdfhjkfceaaMg28
import Derived.Test.YtgpbkdfhjkfceaaMg16
import Derived.Test.YtgpbkdfhjkfceaaMg14
import Derived.Test.YtgpbkdfhjkfceaaMg23

/-
  The walks of At, the program's and the reference's. Conditions: none but that ranks, tree and path lie in memory.
-/
set_option linter.unusedSimpArgs false
set_option linter.unusedVariables false
namespace Go.Proofs.Ytgpbkdfhjkfceaa
open Go.RowKit

/-- the part of a tree at the end of a path -/
def atY : List Int → Int → Y → Option (Int × Y)
  | [], n, a => some (n, a)
  | i :: r, n, a => if 0 ≤ i ∧ i < (a.len : Int) then atY r (a.gn i.toNat) (a.ga i.toNat) else none

theorem atY_sz (P : List Int) : ∀ (n : Int) (a : Y) (m : Int) (t : Y), atY P n a = some (m, t) → t.sz ≤ a.sz := by
  induction P with
  | nil =>
    intro n a m t h
    simp only [atY, Option.some.injEq, Prod.mk.injEq] at h
    rw [h.2]
    exact Nat.le_refl _
  | cons i r ih =>
    intro n a m t h
    simp only [atY] at h
    split at h
    · rename_i hi
      have h1 := ih _ _ _ _ h
      have h2 := Y.sz_ga a i.toNat (by omega)
      omega
    · simp at h

/-- what At answers -/
def atE (R : List Int) (n : Int) (a : Y) (P : List Int) : Int × Int × Y :=
  if chkOne R n a = 0 then (match atY P n a with | some (m, t) => (0, m, t) | none => (5, 0, .nil)) else (chkOne R n a, 0, .nil)

theorem atE_some {R : List Int} {n : Int} {a : Y} {P : List Int} {m : Int} {t : Y} (h : chkOne R n a = 0) (h2 : atY P n a = some (m, t)) : atE R n a P = (0, m, t) := by
  unfold atE; rw [if_pos h, h2]

theorem atE_none {R : List Int} {n : Int} {a : Y} {P : List Int} (h : chkOne R n a = 0) (h2 : atY P n a = none) : atE R n a P = (5, 0, .nil) := by
  unfold atE; rw [if_pos h, h2]

theorem atE_is (R : List Int) (n : Int) (a : Y) (P : List Int) : (atE R n a P).1 = 0 ∧ (atE R n a P).2.2.sz < 20000 ∨ (atE R n a P).1 ≠ 0 ∧ (atE R n a P).2.1 = 0 ∧ (atE R n a P).2.2 = .nil := by
  by_cases h : chkOne R n a = 0
  · obtain ⟨s1, _, _⟩ := treeOk_facts (chkOne_ok h)
    cases h2 : atY P n a with
    | none => rw [atE_none h h2]; exact Or.inr ⟨by decide, rfl, rfl⟩
    | some x =>
      obtain ⟨m, t⟩ := x
      rw [atE_some h h2]
      have := atY_sz P n a m t h2
      exact Or.inl ⟨rfl, by show t.sz < 20000; omega⟩
  · have e : atE R n a P = (chkOne R n a, 0, .nil) := if_neg h
    rw [e]
    exact Or.inr ⟨h, rfl, rfl⟩

theorem atY_drop_in {P : List Int} {k : Nat} (hk : k < P.length) {n : Int} {a : Y} {j : Nat} (hv : P.getD k 0 = (j : Int)) (hj : j < a.len) : atY (P.drop k) n a = atY (P.drop (k + 1)) (a.gn j) (a.ga j) := by
  rw [List.drop_eq_getElem_cons hk]
  have e : P[k] = (j : Int) := by rw [← hv, List.getD_eq_getElem?_getD, List.getElem?_eq_getElem hk]; rfl
  rw [atY, e, if_pos ⟨by omega, by omega⟩, Int.toNat_natCast]

theorem atY_drop_out {P : List Int} {k : Nat} (hk : k < P.length) {n : Int} {a : Y} (hv : ¬ (0 ≤ P.getD k 0 ∧ P.getD k 0 < (a.len : Int))) : atY (P.drop k) n a = none := by
  rw [List.drop_eq_getElem_cons hk]
  have e : P[k] = P.getD k 0 := by rw [List.getD_eq_getElem?_getD, List.getElem?_eq_getElem hk]; rfl
  rw [atY, e, if_neg hv]

/-- the tree that is looked at, in its variable -/
structure AtS (w W : World) (P : List Int) (n : Int) (a : Y) (k : Nat) (m : Int) (t : Y) (q : Option Addr) (c : Nat) : Prop where
  at_ : atY (P.drop k) m t = atY P n a
  sz : t.sz ≤ a.sz
  is : IsY w t q t.len c
  h1 : W.heap[w.heap.size]? = some (.cells #[.int .i64 m, .slice q t.len c] 25 (0, 0))
  h2 : W.heap[w.heap.size + 1]? = some (.cells #[.int .i64 0, .slice none 0 0] 25 (0, 0))
  base : Below w.heap.size w W

theorem put_far {W : World} {b b' : Nat} {o : Obj} (hne : b ≠ b') (h : W.heap[b]? = some o) (x y : Value) : (put2 W b' x y).heap[b]? = some o := by
  rw [put2_far hne]; exact h


set_option maxRecDepth 100000 in
set_option maxHeartbeats 3200000 in
theorem eattop_any (R : List Int) (a : Y) (n : Int) (P : List Int) (w : World) (rp p pp : Option Addr) (rn rc l cap pn pc : Nat) (hR : IsL w R rp rn rc) (his : IsY w a p l cap) (hP : IsL w P pp pn pc) :
    Calls Try.prog 34 #[.slice rp rn rc, .agg #[.int .i64 n, .slice p l cap], .slice pp pn pc] w (GetPost (atE R n a P) w) := by
  have hl := his.1
  subst hl
  have b2 : ∀ x y, Below w.heap.size w ((w.alloc x).alloc y) := fun x y => ((Below.refl _ _).alloc (Nat.le_refl _) _).alloc (by simp) _
  have hK : KT w ((w.alloc (.cells #[.int .i64 n, .slice p a.len cap] 25)).alloc (.cells #[.int .i64 0, .slice none 0 0] 25)) w.heap.size w.heap.size (w.heap.size + 1) R rp rn rc n a p cap n a p cap :=
    ⟨(hR.alloc _).alloc _, alloc_kept (heap_new _ _) _, alloc_kept (heap_new _ _) _, heap_new2 _ _ _, (his.alloc _).alloc _, (his.alloc _).alloc _, b2 _ _⟩
  have hK2 := hK.alloc (.cells #[.int .i64 n, .slice p a.len cap] 25)
  have J := echeck6_any R (.cons n a .nil) _ rp (some ⟨w.heap.size + 1 + 1, 0, none⟩) rn rc 1 1 hK2.rk (isY_one (heap_new3 _ _ _ _) hK2.i1)
  change Calls _ _ _ _ (fun e w' => e = .returned (.int .i64 (chkOne R n a)) ∧ _) at J
  have HK2 := Lib.hid hK2
  have HIS := Lib.hid his
  clear hR his hK hK2 b2
  obtain ⟨f, hf⟩ : ∃ f, atE R n a P = f := ⟨_, rfl⟩
  rw [hf]
  have HF := Lib.hid hf
  clear hf
  by_cases hc : chkOne R n a = 0
  · obtain ⟨s1, _, _⟩ := treeOk_facts (chkOne_ok hc)
    rw [hc] at J
    have HJ := Lib.hid J
    have HC := Lib.hid hc
    have HX := Lib.hid fun W m t q c (h1 : t.sz ≤ a.sz) (h : IsY W t q t.len c) => efresh_any (t.sz + 1) t m W q _ c (Nat.lt_succ_self _) (by omega) h
    obtain ⟨hpn, hpc, hpm, hp0, hprow⟩ := hP
    subst hpn
    unfold maxLen at hpm
    have HPR := Lib.hid hprow
    clear J hc hprow hp0
    go_enter Try.func34, Try.ntmps34
    go_wp2_with fail
    refine (HJ.out).mono ?_
    rintro e w1 ⟨rfl, hb1⟩
    have hK := HK2.out.below hb1
    have hS : AtS w w1 P n a 0 n a p cap := ⟨rfl, Nat.le_refl _, HIS.out, hK.h1, hK.hr, hK.base⟩
    have HS := Lib.hid hS
    clear hb1 hK HK2 hS HJ
    go_wp2_with fail
    go_loopw [10, 21] (fun v i wr => ∃ (k : Nat) (m : Int) (t : Y) (q : Option Addr) (c : Nat), k ≤ P.length ∧ i = .int .i64 (k : Int) ∧ AtS w wr P n a k m t q c)
      (fun _ i _ => P.length - (intOf i).toNat)
    case atStart => exact ⟨0, n, a, p, cap, Nat.zero_le _, rfl, HS.out⟩
    case round =>
      obtain ⟨k, m, t, q, c, hk, rfl, hS⟩ := hrel
      have HT := Lib.hid hS
      clear HS
      obtain ⟨⟨x1, x2⟩, f1, f2⟩ := tree_box hS.h1
      obtain ⟨⟨z1, z2⟩, g1, g2⟩ := tree_box hS.h2
      have hz := lt_of_block hS.h2
      obtain ⟨hl0, hcap, hmax, hnil, hrow⟩ := hS.is
      unfold maxLen at hmax
      clear hS
      by_cases hlt : k < P.length
      · rcases HPR.out with h0 | ⟨pb, off, hpe, hr⟩
        · omega
        subst hpe
        have c1 := hr k hlt
        have d1 := ((bcell HT.out.base).1 _ _ (lt_of_cell c1)).trans c1
        clear c1 hr
        by_cases hin : 0 ≤ P.getD k 0 ∧ P.getD k 0 < (t.len : Int)
        · obtain ⟨j, hj⟩ : ∃ j : Nat, P.getD k 0 = (j : Int) := ⟨(P.getD k 0).toNat, by omega⟩
          have hjl : j < t.len := by omega
          have hstep := atY_drop_in hlt (n := m) hj hjl
          rw [hj] at d1
          rcases hrow with h0 | ⟨b, off', rfl, hr'⟩
          · omega
          obtain ⟨hcn1, p1, n1, cap1, hc1, hi1⟩ := base2_at (Keeps2.below HT.out.base (Nat.le_refl _)) hr' hjl
          obtain ⟨_, p1', n1', cap1', hc1', hi1'⟩ := hr'.at hjl
          have hq0 := ((bcell HT.out.base).1 _ _ (lt_of_cell hc1')).trans hc1'
          rw [hq0] at hc1
          obtain ⟨rfl, rfl, rfl⟩ : p1' = p1 ∧ n1' = n1 ∧ cap1' = cap1 := by simpa using hc1
          have hn1 := hi1'.1
          subst hn1
          have HI := Lib.hid hi1'
          have hsz : (t.ga j).sz ≤ a.sz := by have := Y.sz_ga t j hjl; have := HT.out.sz; omega
          have hS2 : AtS w (put2 wr w.heap.size (.int .i64 (t.gn j)) (.slice p1' (t.ga j).len cap1')) P n a (k + 1) (t.gn j) (t.ga j) p1' cap1' :=
            ⟨hstep.symm.trans HT.out.at_, hsz, hi1', put2_box HT.out.h1, put_far (by omega) HT.out.h2 _ _, (HT.out.base.setCell (Nat.le_refl _) _).setCell (Nat.le_refl _) _⟩
          have HS2 := Lib.hid hS2
          unfold put2 at HS2
          clear hstep hr' hi1 hi1' hin hj hS2 hc1 hc1' HPR
          generalize t.gn j = m2 at *
          generalize t.ga j = t2 at *
          go_wp2_with fail
          go_roundw
          case rel => exact ⟨k + 1, m2, t2, p1', cap1', by omega, by go_num, HS2.out⟩
          case measure => simp [intOf]; omega
        · have hnone := (HT.out.at_).symm.trans (atY_drop_out hlt (n := m) hin)
          have he := atE_none HC.out hnone
          rw [HF.out] at he
          have HE := Lib.hid he
          generalize P.getD k 0 = i at *
          clear hnone he HPR hrow
          by_cases hneg : i < 0
          · clear hin
            go_wp2_with fail
            refine bodyPost_ret (v := .tuple #[.agg #[.int .i64 0, .slice none 0 0], .int .i64 5]) (by simp [results, Try.results34, go_sem, z1, z2]) rfl ?_
            rw [HE.out]
            exact getPost_zero 5 _ _ (by omega) HT.out.base
          · have hge : (t.len : Int) ≤ i := by omega
            clear hin
            go_wp2_with fail
            refine bodyPost_ret (v := .tuple #[.agg #[.int .i64 0, .slice none 0 0], .int .i64 5]) (by simp [results, Try.results34, go_sem, z1, z2]) rfl ?_
            rw [HE.out]
            exact getPost_zero 5 _ _ (by omega) HT.out.base
      · obtain rfl : k = P.length := by omega
        have hv : atY P n a = some (m, t) := by rw [← HT.out.at_, List.drop_length]; rfl
        have he := atE_some HC.out hv
        rw [HF.out] at he
        have HE := Lib.hid he
        have HI := Lib.hid (HT.out.is.below HT.out.base)
        clear hv he hrow HPR
        go_wp2_with fail
        refine (HX.out _ m t q c HT.out.sz HI.out).mono ?_
        rintro e w2 ⟨q2, c2, rfl, hO, hb2⟩
        obtain ⟨⟨y1, y2⟩, i1, i2⟩ := tree_box (box2_later hb2 HT.out.h2)
        have hz2 := lt_of_block (box2_later hb2 HT.out.h2)
        have hb3 := HT.out.base.trans (hb2.mono HT.out.base.size)
        have HB3 := Lib.hid hb3
        clear hb2 hb3 x1 x2 z1 z2
        go_wp2_with fail
        refine bodyPost_ret (v := .tuple #[.agg #[.int .i64 m, .slice q2 t.len c2], .int .i64 0]) (by simp [results, Try.results34, go_sem, y1, y2]) rfl ?_
        rw [HE.out]
        exact getPost_own 0 m t q2 c2 _ _ (by omega) (by omega) (Nat.le_refl _) hO HB3.out
  · have e1 : atE R n a P = (chkOne R n a, 0, .nil) := if_neg hc
    rw [HF.out] at e1
    have HE := Lib.hid e1
    have hd : (chkOne R n a != 0) = true := by simpa using hc
    generalize chkOne R n a = x at *
    have HJ := Lib.hid J
    clear J hc e1
    go_enter Try.func34, Try.ntmps34
    go_wp2_with fail
    refine (HJ.out).mono ?_
    rintro e w1 ⟨rfl, hb1⟩
    have hK := HK2.out.below hb1
    obtain ⟨⟨z1, z2⟩, f1, f2⟩ := tree_box hK.hr
    have hz := lt_of_block hK.hr
    clear hb1
    go_wp2_with fail
    refine bodyPost_ret (v := .tuple #[.agg #[.int .i64 0, .slice none 0 0], .int .i64 x]) (by simp [results, Try.results34, go_sem, z1, z2]) rfl ?_
    rw [HE.out]
    exact getPost_zero x _ _ (by omega) hK.base

set_option maxRecDepth 100000 in
set_option maxHeartbeats 3200000 in
theorem erefattop_any (R : List Int) (a : Y) (n : Int) (P : List Int) (w : World) (rp p pp : Option Addr) (rn rc l cap pn pc : Nat) (hR : IsL w R rp rn rc) (his : IsY w a p l cap) (hP : IsL w P pp pn pc) :
    Calls Try.prog 35 #[.slice rp rn rc, .agg #[.int .i64 n, .slice p l cap], .slice pp pn pc] w (GetPost (atE R n a P) w) := by
  have hl := his.1
  subst hl
  have b2 : ∀ x y, Below w.heap.size w ((w.alloc x).alloc y) := fun x y => ((Below.refl _ _).alloc (Nat.le_refl _) _).alloc (by simp) _
  have hK : KT w ((w.alloc (.cells #[.int .i64 n, .slice p a.len cap] 25)).alloc (.cells #[.int .i64 0, .slice none 0 0] 25)) w.heap.size w.heap.size (w.heap.size + 1) R rp rn rc n a p cap n a p cap :=
    ⟨(hR.alloc _).alloc _, alloc_kept (heap_new _ _) _, alloc_kept (heap_new _ _) _, heap_new2 _ _ _, (his.alloc _).alloc _, (his.alloc _).alloc _, b2 _ _⟩
  have hK2 := hK.alloc (.cells #[.int .i64 n, .slice p a.len cap] 25)
  have J := erefcheck_any R (.cons n a .nil) _ rp (some ⟨w.heap.size + 1 + 1, 0, none⟩) rn rc 1 1 hK2.rk (isY_one (heap_new3 _ _ _ _) hK2.i1)
  change Calls _ _ _ _ (fun e w' => e = .returned (.int .i64 (chkOne R n a)) ∧ _) at J
  have HK2 := Lib.hid hK2
  have HIS := Lib.hid his
  clear hR his hK hK2 b2
  obtain ⟨f, hf⟩ : ∃ f, atE R n a P = f := ⟨_, rfl⟩
  rw [hf]
  have HF := Lib.hid hf
  clear hf
  by_cases hc : chkOne R n a = 0
  · obtain ⟨s1, _, _⟩ := treeOk_facts (chkOne_ok hc)
    rw [hc] at J
    have HJ := Lib.hid J
    have HC := Lib.hid hc
    have HX := Lib.hid fun W m t q c (h1 : t.sz ≤ a.sz) (h : IsY W t q t.len c) => ecopy_any (t.sz + 1) t m W q _ c (Nat.lt_succ_self _) (by omega) h
    obtain ⟨hpn, hpc, hpm, hp0, hprow⟩ := hP
    subst hpn
    unfold maxLen at hpm
    have HPR := Lib.hid hprow
    clear J hc hprow hp0
    go_enter Try.func35, Try.ntmps35
    go_wp2_with fail
    refine (HJ.out).mono ?_
    rintro e w1 ⟨rfl, hb1⟩
    have hK := HK2.out.below hb1
    have hS : AtS w w1 P n a 0 n a p cap := ⟨rfl, Nat.le_refl _, HIS.out, hK.h1, hK.hr, hK.base⟩
    have HS := Lib.hid hS
    clear hb1 hK HK2 hS HJ
    go_wp2_with fail
    go_loopw [10, 21] (fun v i wr => ∃ (k : Nat) (m : Int) (t : Y) (q : Option Addr) (c : Nat), k ≤ P.length ∧ i = .int .i64 (k : Int) ∧ AtS w wr P n a k m t q c)
      (fun _ i _ => P.length - (intOf i).toNat)
    case atStart => exact ⟨0, n, a, p, cap, Nat.zero_le _, rfl, HS.out⟩
    case round =>
      obtain ⟨k, m, t, q, c, hk, rfl, hS⟩ := hrel
      have HT := Lib.hid hS
      clear HS
      obtain ⟨⟨x1, x2⟩, f1, f2⟩ := tree_box hS.h1
      obtain ⟨⟨z1, z2⟩, g1, g2⟩ := tree_box hS.h2
      have hz := lt_of_block hS.h2
      obtain ⟨hl0, hcap, hmax, hnil, hrow⟩ := hS.is
      unfold maxLen at hmax
      clear hS
      by_cases hlt : k < P.length
      · rcases HPR.out with h0 | ⟨pb, off, hpe, hr⟩
        · omega
        subst hpe
        have c1 := hr k hlt
        have d1 := ((bcell HT.out.base).1 _ _ (lt_of_cell c1)).trans c1
        clear c1 hr
        by_cases hin : 0 ≤ P.getD k 0 ∧ P.getD k 0 < (t.len : Int)
        · obtain ⟨j, hj⟩ : ∃ j : Nat, P.getD k 0 = (j : Int) := ⟨(P.getD k 0).toNat, by omega⟩
          have hjl : j < t.len := by omega
          have hstep := atY_drop_in hlt (n := m) hj hjl
          rw [hj] at d1
          rcases hrow with h0 | ⟨b, off', rfl, hr'⟩
          · omega
          obtain ⟨hcn1, p1, n1, cap1, hc1, hi1⟩ := base2_at (Keeps2.below HT.out.base (Nat.le_refl _)) hr' hjl
          obtain ⟨_, p1', n1', cap1', hc1', hi1'⟩ := hr'.at hjl
          have hq0 := ((bcell HT.out.base).1 _ _ (lt_of_cell hc1')).trans hc1'
          rw [hq0] at hc1
          obtain ⟨rfl, rfl, rfl⟩ : p1' = p1 ∧ n1' = n1 ∧ cap1' = cap1 := by simpa using hc1
          have hn1 := hi1'.1
          subst hn1
          have HI := Lib.hid hi1'
          have hsz : (t.ga j).sz ≤ a.sz := by have := Y.sz_ga t j hjl; have := HT.out.sz; omega
          have hS2 : AtS w (put2 wr w.heap.size (.int .i64 (t.gn j)) (.slice p1' (t.ga j).len cap1')) P n a (k + 1) (t.gn j) (t.ga j) p1' cap1' :=
            ⟨hstep.symm.trans HT.out.at_, hsz, hi1', put2_box HT.out.h1, put_far (by omega) HT.out.h2 _ _, (HT.out.base.setCell (Nat.le_refl _) _).setCell (Nat.le_refl _) _⟩
          have HS2 := Lib.hid hS2
          unfold put2 at HS2
          clear hstep hr' hi1 hi1' hin hj hS2 hc1 hc1' HPR
          generalize t.gn j = m2 at *
          generalize t.ga j = t2 at *
          go_wp2_with fail
          go_roundw
          case rel => exact ⟨k + 1, m2, t2, p1', cap1', by omega, by go_num, HS2.out⟩
          case measure => simp [intOf]; omega
        · have hnone := (HT.out.at_).symm.trans (atY_drop_out hlt (n := m) hin)
          have he := atE_none HC.out hnone
          rw [HF.out] at he
          have HE := Lib.hid he
          generalize P.getD k 0 = i at *
          clear hnone he HPR hrow
          by_cases hneg : i < 0
          · clear hin
            go_wp2_with fail
            refine bodyPost_ret (v := .tuple #[.agg #[.int .i64 0, .slice none 0 0], .int .i64 5]) (by simp [results, Try.results35, go_sem, z1, z2]) rfl ?_
            rw [HE.out]
            exact getPost_zero 5 _ _ (by omega) HT.out.base
          · have hge : (t.len : Int) ≤ i := by omega
            clear hin
            go_wp2_with fail
            refine bodyPost_ret (v := .tuple #[.agg #[.int .i64 0, .slice none 0 0], .int .i64 5]) (by simp [results, Try.results35, go_sem, z1, z2]) rfl ?_
            rw [HE.out]
            exact getPost_zero 5 _ _ (by omega) HT.out.base
      · obtain rfl : k = P.length := by omega
        have hv : atY P n a = some (m, t) := by rw [← HT.out.at_, List.drop_length]; rfl
        have he := atE_some HC.out hv
        rw [HF.out] at he
        have HE := Lib.hid he
        have HI := Lib.hid (HT.out.is.below HT.out.base)
        clear hv he hrow HPR
        go_wp2_with fail
        refine (HX.out _ m t q c HT.out.sz HI.out).mono ?_
        rintro e w2 ⟨q2, c2, rfl, hO, hb2⟩
        obtain ⟨⟨y1, y2⟩, i1, i2⟩ := tree_box (box2_later hb2 HT.out.h2)
        have hz2 := lt_of_block (box2_later hb2 HT.out.h2)
        have hb3 := HT.out.base.trans (hb2.mono HT.out.base.size)
        have HB3 := Lib.hid hb3
        clear hb2 hb3 x1 x2 z1 z2
        go_wp2_with fail
        refine bodyPost_ret (v := .tuple #[.agg #[.int .i64 m, .slice q2 t.len c2], .int .i64 0]) (by simp [results, Try.results35, go_sem, y1, y2]) rfl ?_
        rw [HE.out]
        exact getPost_own 0 m t q2 c2 _ _ (by omega) (by omega) (Nat.le_refl _) hO HB3.out
  · have e1 : atE R n a P = (chkOne R n a, 0, .nil) := if_neg hc
    rw [HF.out] at e1
    have HE := Lib.hid e1
    have hd : (chkOne R n a != 0) = true := by simpa using hc
    generalize chkOne R n a = x at *
    have HJ := Lib.hid J
    clear J hc e1
    go_enter Try.func35, Try.ntmps35
    go_wp2_with fail
    refine (HJ.out).mono ?_
    rintro e w1 ⟨rfl, hb1⟩
    have hK := HK2.out.below hb1
    obtain ⟨⟨z1, z2⟩, f1, f2⟩ := tree_box hK.hr
    have hz := lt_of_block hK.hr
    clear hb1
    go_wp2_with fail
    refine bodyPost_ret (v := .tuple #[.agg #[.int .i64 0, .slice none 0 0], .int .i64 x]) (by simp [results, Try.results35, go_sem, z1, z2]) rfl ?_
    rw [HE.out]
    exact getPost_zero x _ _ (by omega) hK.base

end Go.Proofs.Ytgpbkdfhjkfceaa

/-
  The walk of the statement on At, where the example holds. Conditions: none but that the arguments lie in memory.
-/
set_option linter.unusedSimpArgs false
set_option linter.unusedVariables false
namespace Go.Proofs.Ytgpbkdfhjkfceaa
open Go.RowKit



set_option maxRecDepth 100000 in
set_option maxHeartbeats 1600000 in
theorem law_eat (hal : AliveE) (R : List Int) (a : Y) (P : List Int) (n : Int) (w : World) (rp p pp : Option Addr) (rn rc l cap pn pc : Nat) (hR : IsL w R rp rn rc) (his : IsY w a p l cap) (hP : IsL w P pp pn pc) :
    Calls Try.prog 9 #[.slice rp rn rc, .agg #[.int .i64 n, .slice p l cap], .slice pp pn pc] w fun e w' => e = .returned (.bool true) ∧ Below w.heap.size w w' := by
  have hl := his.1
  subst hl
  have hA := Lib.hid hal
  have K0 := kk_one (n1 := n) hR his
  have HX := Lib.hid fun W (h1 : IsL W R rp rn rc) (h2 : IsY W a p a.len cap) (h3 : Below w.heap.size w W) => eattop_any R a n P W rp p pp rn rc _ cap pn pc h1 h2 (hP.below h3)
  have HY := Lib.hid fun W (h1 : IsL W R rp rn rc) (h2 : IsY W a p a.len cap) (h3 : Below w.heap.size w W) => erefattop_any R a n P W rp p pp rn rc _ cap pn pc h1 h2 (hP.below h3)
  have hE := atE_is R n a P
  generalize atE R n a P = f at *
  obtain ⟨x, m, t⟩ := f
  have HZ := Lib.hid fun W q q' c c' h1 h2 => eis_any x m t hE W q q' c c' h1 h2
  have HK := Lib.hid K0
  clear hal K0 hR his hE hP
  go_enter Try.func9, Try.ntmps9
  go_wp2_with fail
  refine (HX.out _ HK.out.rk HK.out.i1 HK.out.base).mono ?_
  rintro e w1 ⟨q, c, rfl, hO1, hb1⟩
  have HK1 := Lib.hid ((HK.out.below hb1).alloc (.cells #[.int .i64 m, .slice q t.len c] 25))
  have hI1 := hO1.isY.alloc (.cells #[.int .i64 m, .slice q t.len c] 25)
  have hx1 := heap_new w1 (.cells #[.int .i64 m, .slice q t.len c] 25)
  have HI1 := Lib.hid hI1
  have HX1 := Lib.hid hx1
  have kc := HK1.out.cells
  obtain ⟨⟨k1, k2⟩, ⟨k3, k4⟩, _⟩ := kc
  clear hb1 HK hO1 hI1 hx1
  go_wp2_with fail
  refine (HY.out _ HK1.out.rk HK1.out.i1 HK1.out.base).mono ?_
  rintro e w2 ⟨q', c', rfl, hO2, hb2⟩
  have HK2 := Lib.hid ((HK1.out.below hb2).alloc (.cells #[.int .i64 m, .slice q' t.len c'] 25))
  have HI2 := Lib.hid (hO2.isY.alloc (.cells #[.int .i64 m, .slice q' t.len c'] 25))
  have HI3 := Lib.hid ((HI1.out.below hb2).alloc (.cells #[.int .i64 m, .slice q' t.len c'] 25))
  have hx2 := box2_cells (heap_new w2 (.cells #[.int .i64 m, .slice q' t.len c'] 25))
  have hx3 := box2_cells (alloc_kept (box2_later hb2 HX1.out) (.cells #[.int .i64 m, .slice q' t.len c'] 25))
  obtain ⟨u1, u2⟩ := hx2
  obtain ⟨u3, u4⟩ := hx3
  clear hb2 HK1 hO2 HI1 HX1 k1 k2 k3 k4
  go_wp2_with fail
  refine (HZ.out _ q q' c c' HI3.out HI2.out).mono ?_
  rintro e w3 ⟨rfl, hb3⟩
  have HK3 := Lib.hid (HK2.out.below hb3)
  clear hb3 HK2 HI2 HI3 u1 u2 u3 u4
  go_wp2_with fail
  refine (hA.out _).mono ?_
  rintro e w4 ⟨rfl, hb4⟩
  go_wp2_with fail
  go_ret
  exact ⟨rfl, (HK3.out.below hb4).base⟩

end Go.Proofs.Ytgpbkdfhjkfceaa

set_option linter.unusedSimpArgs false
set_option linter.unusedVariables false
namespace Go.Proofs.Ytgpbkdfhjkfceaa
open Go.ChangeShapes Go.WideShapes Go.ChangeAt Go.RowKit
open Go.ChangeMaps (open_string shut_string)

set_option maxRecDepth 100000 in
theorem treeAt_lifted (os : Os) (started : os.Started) (H : Type) (enc : TypeId × Value → H) :
    ReturnsInHanded {} Try.checked os 9 .any (Rows.treeAtSpec.pre6 enc Try.prog Try.f9 Rows.treeAtRow.domain false) (Rows.treeAtSpec.post enc Try.prog Try.f9 false true false false) := by
  refine returnsInHanded_of_change (C := Try.checked) PE.own started (by kernel_rfl) Try.func9
    (ChangeSpec.witness6 (enc := enc) (C := Try.checked) false ⟨#[], #[.slice none 0 0, .agg #[.int .i64 0, .slice none 0 0], .slice none 0 0], []⟩ 8 (by kernel_rfl) (by kernel_rfl) (by kernel_rfl) (by kernel_rfl)) ?_
  intro W base args ds gs before hval0 hW hcnd _
  have hval : ∀ (j : Nat) t v, Try.f9.params[j]? = some t → args[j]? = some v → Value.okWide Try.prog W .any base t v := hval0
  have hW' := hW
  obtain ⟨p, q, hA0, hV, rfl, hfz, hnd⟩ := hW
  have hA : DataW.TrodAll enc Try.prog W 0 (fun _ => true) true Try.f9.params.toList args.toList ds p := hA0
  rw [Try.params9] at hA hval
  obtain ⟨v0, v1, v2, d0, d1, d2, p0, p1, p2, rfl, rfl, rfl, h0, h1, h2⟩ := trodAll_three hA
  obtain ⟨rfl, rfl⟩ := trodVars_none hV
  have k0 := h0
  obtain ⟨a0, n0, c0, t0, rfl, i0⟩ := open_ints (hval 0 22 v0 rfl rfl) h0
  have k1 := h1
  obtain ⟨ni1, a1, n1, c1, t1, rfl, i1⟩ := open_tree (hval 1 25 v1 rfl rfl) h1
  have k2 := h2
  obtain ⟨a2, n2, c2, t2, rfl, i2⟩ := open_ints (hval 2 22 v2 rfl rfl) h2
  clear hA0 hval0
  simp only [List.append_nil] at hW'
  refine (law_eat alive_any t0 t1 t2 ni1 W a0 a1 a2 n0 c0 n1 c1 n2 c2 i0 i1 i2).mono fun e W' ⟨he, hb⟩ => ?_
  subst he
  have hlt := fun x hx => hW'.lt x hx
  exact ⟨_, rfl, post_below (pv := []) hW' (fun _ _ _ => trodAll_mk1 (shut_bool Try.underlying4 true))
    (fun sp hsp => trodAll_mk3 (WideElems.Trod_stays PE.laidOut PE.readI (of_decide_eq_true (by kernel_rfl)) k0 (fun x hx => hb.same (hlt x (by simp [hx]))) (fun x hx => hsp x (by simp [hx]))) (WideElems.Trod_stays PE.laidOut PE.readY (of_decide_eq_true (by kernel_rfl)) k1 (fun x hx => hb.same (hlt x (by simp [hx]))) (fun x hx => hsp x (by simp [hx]))) (WideElems.Trod_stays PE.laidOut PE.readI (of_decide_eq_true (by kernel_rfl)) k2 (fun x hx => hb.same (hlt x (by simp [hx]))) (fun x hx => hsp x (by simp [hx]))))
    (fun _ _ => rfl) (by simp) hb (ok_one (by kernel_rfl) rfl (okWide_bool_mk Try.underlying4 true))⟩

theorem treeAt_holds : Rows.TreeAtSaid :=
  OpenClaim.holds_of_wide 9 Try.f9 rfl rfl rfl rfl rfl rfl rfl ⟨rfl, rfl, rfl, rfl, rfl⟩ rfl rfl rfl rfl rfl (by kernel_rfl) Try.func9 (by kernel_rfl)
    (of_decide_eq_true (by kernel_rfl)) (by unfold Func.isWrapper; rw [if_neg (of_decide_eq_false (by kernel_rfl))]; exact ⟨rfl, rfl⟩)
    (fun os started H enc _ => treeAt_lifted os started H enc)

end Go.Proofs.Ytgpbkdfhjkfceaa

