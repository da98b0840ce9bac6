/-
  Whatever arguments are handed in, the statement on memory answers true and leaves these as it was. Conditions: none but the row's own (memory that leads back into itself is shut out).
-/
import Derived.Test.YtgpbkdfhjkfceaaMg27
import Derived.Test.YtgpbkdfhjkfceaaMg28
import Derived.Test.YtgpbkdfhjkfceaaMg16
import Derived.Test.YtgpbkdfhjkfceaaMg05
import Derived.Test.YtgpbkdfhjkfceaaMg13
import Derived.Test.YtgpbkdfhjkfceaaMg14
import Derived.Deep.RegionHeld3
import Derived.Test.YtgpbkdfhjkfceaaMg23

/-
  The walks of At, the program's and the reference's. Conditions: none but that ranks, tree and path lie in memory.
-/
set_option linter.unusedSimpArgs false
set_option linter.unusedVariables false
namespace Go.Proofs.Ytgpbkdfhjkfceaa
open Go.RowKit

/-- the part of a tree at the end of a path -/
def atY : List Int → Int → Y → Option (Int × Y)
  | [], n, a => some (n, a)
  | i :: r, n, a => if 0 ≤ i ∧ i < (a.len : Int) then atY r (a.gn i.toNat) (a.ga i.toNat) else none

theorem atY_sz (P : List Int) : ∀ (n : Int) (a : Y) (m : Int) (t : Y), atY P n a = some (m, t) → t.sz ≤ a.sz := by
  induction P with
  | nil =>
    intro n a m t h
    simp only [atY, Option.some.injEq, Prod.mk.injEq] at h
    rw [h.2]
    exact Nat.le_refl _
  | cons i r ih =>
    intro n a m t h
    simp only [atY] at h
    split at h
    · rename_i hi
      have h1 := ih _ _ _ _ h
      have h2 := Y.sz_ga a i.toNat (by omega)
      omega
    · simp at h

/-- what At answers -/
def atE (R : List Int) (n : Int) (a : Y) (P : List Int) : Int × Int × Y :=
  if chkOne R n a = 0 then (match atY P n a with | some (m, t) => (0, m, t) | none => (5, 0, .nil)) else (chkOne R n a, 0, .nil)

theorem atE_some {R : List Int} {n : Int} {a : Y} {P : List Int} {m : Int} {t : Y} (h : chkOne R n a = 0) (h2 : atY P n a = some (m, t)) : atE R n a P = (0, m, t) := by
  unfold atE; rw [if_pos h, h2]

theorem atE_none {R : List Int} {n : Int} {a : Y} {P : List Int} (h : chkOne R n a = 0) (h2 : atY P n a = none) : atE R n a P = (5, 0, .nil) := by
  unfold atE; rw [if_pos h, h2]

theorem atE_is (R : List Int) (n : Int) (a : Y) (P : List Int) : (atE R n a P).1 = 0 ∧ (atE R n a P).2.2.sz < 20000 ∨ (atE R n a P).1 ≠ 0 ∧ (atE R n a P).2.1 = 0 ∧ (atE R n a P).2.2 = .nil := by
  by_cases h : chkOne R n a = 0
  · obtain ⟨s1, _, _⟩ := treeOk_facts (chkOne_ok h)
    cases h2 : atY P n a with
    | none => rw [atE_none h h2]; exact Or.inr ⟨by decide, rfl, rfl⟩
    | some x =>
      obtain ⟨m, t⟩ := x
      rw [atE_some h h2]
      have := atY_sz P n a m t h2
      exact Or.inl ⟨rfl, by show t.sz < 20000; omega⟩
  · have e : atE R n a P = (chkOne R n a, 0, .nil) := if_neg h
    rw [e]
    exact Or.inr ⟨h, rfl, rfl⟩

theorem atY_drop_in {P : List Int} {k : Nat} (hk : k < P.length) {n : Int} {a : Y} {j : Nat} (hv : P.getD k 0 = (j : Int)) (hj : j < a.len) : atY (P.drop k) n a = atY (P.drop (k + 1)) (a.gn j) (a.ga j) := by
  rw [List.drop_eq_getElem_cons hk]
  have e : P[k] = (j : Int) := by rw [← hv, List.getD_eq_getElem?_getD, List.getElem?_eq_getElem hk]; rfl
  rw [atY, e, if_pos ⟨by omega, by omega⟩, Int.toNat_natCast]

theorem atY_drop_out {P : List Int} {k : Nat} (hk : k < P.length) {n : Int} {a : Y} (hv : ¬ (0 ≤ P.getD k 0 ∧ P.getD k 0 < (a.len : Int))) : atY (P.drop k) n a = none := by
  rw [List.drop_eq_getElem_cons hk]
  have e : P[k] = P.getD k 0 := by rw [List.getD_eq_getElem?_getD, List.getElem?_eq_getElem hk]; rfl
  rw [atY, e, if_neg hv]

/-- the tree that is looked at, in its variable -/
structure AtS (w W : World) (P : List Int) (n : Int) (a : Y) (k : Nat) (m : Int) (t : Y) (q : Option Addr) (c : Nat) : Prop where
  at_ : atY (P.drop k) m t = atY P n a
  sz : t.sz ≤ a.sz
  is : IsY w t q t.len c
  h1 : W.heap[w.heap.size]? = some (.cells #[.int .i64 m, .slice q t.len c] 25 (0, 0))
  h2 : W.heap[w.heap.size + 1]? = some (.cells #[.int .i64 0, .slice none 0 0] 25 (0, 0))
  base : Below w.heap.size w W

theorem put_far {W : World} {b b' : Nat} {o : Obj} (hne : b ≠ b') (h : W.heap[b]? = some o) (x y : Value) : (put2 W b' x y).heap[b]? = some o := by
  rw [put2_far hne]; exact h


set_option maxRecDepth 100000 in
set_option maxHeartbeats 3200000 in
theorem eattop_any (R : List Int) (a : Y) (n : Int) (P : List Int) (w : World) (rp p pp : Option Addr) (rn rc l cap pn pc : Nat) (hR : IsL w R rp rn rc) (his : IsY w a p l cap) (hP : IsL w P pp pn pc) :
    Calls Try.prog 34 #[.slice rp rn rc, .agg #[.int .i64 n, .slice p l cap], .slice pp pn pc] w (GetPost (atE R n a P) w) := by
  have hl := his.1
  subst hl
  have b2 : ∀ x y, Below w.heap.size w ((w.alloc x).alloc y) := fun x y => ((Below.refl _ _).alloc (Nat.le_refl _) _).alloc (by simp) _
  have hK : KT w ((w.alloc (.cells #[.int .i64 n, .slice p a.len cap] 25)).alloc (.cells #[.int .i64 0, .slice none 0 0] 25)) w.heap.size w.heap.size (w.heap.size + 1) R rp rn rc n a p cap n a p cap :=
    ⟨(hR.alloc _).alloc _, alloc_kept (heap_new _ _) _, alloc_kept (heap_new _ _) _, heap_new2 _ _ _, (his.alloc _).alloc _, (his.alloc _).alloc _, b2 _ _⟩
  have hK2 := hK.alloc (.cells #[.int .i64 n, .slice p a.len cap] 25)
  have J := echeck6_any R (.cons n a .nil) _ rp (some ⟨w.heap.size + 1 + 1, 0, none⟩) rn rc 1 1 hK2.rk (isY_one (heap_new3 _ _ _ _) hK2.i1)
  change Calls _ _ _ _ (fun e w' => e = .returned (.int .i64 (chkOne R n a)) ∧ _) at J
  have HK2 := Lib.hid hK2
  have HIS := Lib.hid his
  clear hR his hK hK2 b2
  obtain ⟨f, hf⟩ : ∃ f, atE R n a P = f := ⟨_, rfl⟩
  rw [hf]
  have HF := Lib.hid hf
  clear hf
  by_cases hc : chkOne R n a = 0
  · obtain ⟨s1, _, _⟩ := treeOk_facts (chkOne_ok hc)
    rw [hc] at J
    have HJ := Lib.hid J
    have HC := Lib.hid hc
    have HX := Lib.hid fun W m t q c (h1 : t.sz ≤ a.sz) (h : IsY W t q t.len c) => efresh_any (t.sz + 1) t m W q _ c (Nat.lt_succ_self _) (by omega) h
    obtain ⟨hpn, hpc, hpm, hp0, hprow⟩ := hP
    subst hpn
    unfold maxLen at hpm
    have HPR := Lib.hid hprow
    clear J hc hprow hp0
    go_enter Try.func34, Try.ntmps34
    go_wp2_with fail
    refine (HJ.out).mono ?_
    rintro e w1 ⟨rfl, hb1⟩
    have hK := HK2.out.below hb1
    have hS : AtS w w1 P n a 0 n a p cap := ⟨rfl, Nat.le_refl _, HIS.out, hK.h1, hK.hr, hK.base⟩
    have HS := Lib.hid hS
    clear hb1 hK HK2 hS HJ
    go_wp2_with fail
    go_loopw [10, 21] (fun v i wr => ∃ (k : Nat) (m : Int) (t : Y) (q : Option Addr) (c : Nat), k ≤ P.length ∧ i = .int .i64 (k : Int) ∧ AtS w wr P n a k m t q c)
      (fun _ i _ => P.length - (intOf i).toNat)
    case atStart => exact ⟨0, n, a, p, cap, Nat.zero_le _, rfl, HS.out⟩
    case round =>
      obtain ⟨k, m, t, q, c, hk, rfl, hS⟩ := hrel
      have HT := Lib.hid hS
      clear HS
      obtain ⟨⟨x1, x2⟩, f1, f2⟩ := tree_box hS.h1
      obtain ⟨⟨z1, z2⟩, g1, g2⟩ := tree_box hS.h2
      have hz := lt_of_block hS.h2
      obtain ⟨hl0, hcap, hmax, hnil, hrow⟩ := hS.is
      unfold maxLen at hmax
      clear hS
      by_cases hlt : k < P.length
      · rcases HPR.out with h0 | ⟨pb, off, hpe, hr⟩
        · omega
        subst hpe
        have c1 := hr k hlt
        have d1 := ((bcell HT.out.base).1 _ _ (lt_of_cell c1)).trans c1
        clear c1 hr
        by_cases hin : 0 ≤ P.getD k 0 ∧ P.getD k 0 < (t.len : Int)
        · obtain ⟨j, hj⟩ : ∃ j : Nat, P.getD k 0 = (j : Int) := ⟨(P.getD k 0).toNat, by omega⟩
          have hjl : j < t.len := by omega
          have hstep := atY_drop_in hlt (n := m) hj hjl
          rw [hj] at d1
          rcases hrow with h0 | ⟨b, off', rfl, hr'⟩
          · omega
          obtain ⟨hcn1, p1, n1, cap1, hc1, hi1⟩ := base2_at (Keeps2.below HT.out.base (Nat.le_refl _)) hr' hjl
          obtain ⟨_, p1', n1', cap1', hc1', hi1'⟩ := hr'.at hjl
          have hq0 := ((bcell HT.out.base).1 _ _ (lt_of_cell hc1')).trans hc1'
          rw [hq0] at hc1
          obtain ⟨rfl, rfl, rfl⟩ : p1' = p1 ∧ n1' = n1 ∧ cap1' = cap1 := by simpa using hc1
          have hn1 := hi1'.1
          subst hn1
          have HI := Lib.hid hi1'
          have hsz : (t.ga j).sz ≤ a.sz := by have := Y.sz_ga t j hjl; have := HT.out.sz; omega
          have hS2 : AtS w (put2 wr w.heap.size (.int .i64 (t.gn j)) (.slice p1' (t.ga j).len cap1')) P n a (k + 1) (t.gn j) (t.ga j) p1' cap1' :=
            ⟨hstep.symm.trans HT.out.at_, hsz, hi1', put2_box HT.out.h1, put_far (by omega) HT.out.h2 _ _, (HT.out.base.setCell (Nat.le_refl _) _).setCell (Nat.le_refl _) _⟩
          have HS2 := Lib.hid hS2
          unfold put2 at HS2
          clear hstep hr' hi1 hi1' hin hj hS2 hc1 hc1' HPR
          generalize t.gn j = m2 at *
          generalize t.ga j = t2 at *
          go_wp2_with fail
          go_roundw
          case rel => exact ⟨k + 1, m2, t2, p1', cap1', by omega, by go_num, HS2.out⟩
          case measure => simp [intOf]; omega
        · have hnone := (HT.out.at_).symm.trans (atY_drop_out hlt (n := m) hin)
          have he := atE_none HC.out hnone
          rw [HF.out] at he
          have HE := Lib.hid he
          generalize P.getD k 0 = i at *
          clear hnone he HPR hrow
          by_cases hneg : i < 0
          · clear hin
            go_wp2_with fail
            refine bodyPost_ret (v := .tuple #[.agg #[.int .i64 0, .slice none 0 0], .int .i64 5]) (by simp [results, Try.results34, go_sem, z1, z2]) rfl ?_
            rw [HE.out]
            exact getPost_zero 5 _ _ (by omega) HT.out.base
          · have hge : (t.len : Int) ≤ i := by omega
            clear hin
            go_wp2_with fail
            refine bodyPost_ret (v := .tuple #[.agg #[.int .i64 0, .slice none 0 0], .int .i64 5]) (by simp [results, Try.results34, go_sem, z1, z2]) rfl ?_
            rw [HE.out]
            exact getPost_zero 5 _ _ (by omega) HT.out.base
      · obtain rfl : k = P.length := by omega
        have hv : atY P n a = some (m, t) := by rw [← HT.out.at_, List.drop_length]; rfl
        have he := atE_some HC.out hv
        rw [HF.out] at he
        have HE := Lib.hid he
        have HI := Lib.hid (HT.out.is.below HT.out.base)
        clear hv he hrow HPR
        go_wp2_with fail
        refine (HX.out _ m t q c HT.out.sz HI.out).mono ?_
        rintro e w2 ⟨q2, c2, rfl, hO, hb2⟩
        obtain ⟨⟨y1, y2⟩, i1, i2⟩ := tree_box (box2_later hb2 HT.out.h2)
        have hz2 := lt_of_block (box2_later hb2 HT.out.h2)
        have hb3 := HT.out.base.trans (hb2.mono HT.out.base.size)
        have HB3 := Lib.hid hb3
        clear hb2 hb3 x1 x2 z1 z2
        go_wp2_with fail
        refine bodyPost_ret (v := .tuple #[.agg #[.int .i64 m, .slice q2 t.len c2], .int .i64 0]) (by simp [results, Try.results34, go_sem, y1, y2]) rfl ?_
        rw [HE.out]
        exact getPost_own 0 m t q2 c2 _ _ (by omega) (by omega) (Nat.le_refl _) hO HB3.out
  · have e1 : atE R n a P = (chkOne R n a, 0, .nil) := if_neg hc
    rw [HF.out] at e1
    have HE := Lib.hid e1
    have hd : (chkOne R n a != 0) = true := by simpa using hc
    generalize chkOne R n a = x at *
    have HJ := Lib.hid J
    clear J hc e1
    go_enter Try.func34, Try.ntmps34
    go_wp2_with fail
    refine (HJ.out).mono ?_
    rintro e w1 ⟨rfl, hb1⟩
    have hK := HK2.out.below hb1
    obtain ⟨⟨z1, z2⟩, f1, f2⟩ := tree_box hK.hr
    have hz := lt_of_block hK.hr
    clear hb1
    go_wp2_with fail
    refine bodyPost_ret (v := .tuple #[.agg #[.int .i64 0, .slice none 0 0], .int .i64 x]) (by simp [results, Try.results34, go_sem, z1, z2]) rfl ?_
    rw [HE.out]
    exact getPost_zero x _ _ (by omega) hK.base

set_option maxRecDepth 100000 in
set_option maxHeartbeats 3200000 in
theorem erefattop_any (R : List Int) (a : Y) (n : Int) (P : List Int) (w : World) (rp p pp : Option Addr) (rn rc l cap pn pc : Nat) (hR : IsL w R rp rn rc) (his : IsY w a p l cap) (hP : IsL w P pp pn pc) :
    Calls Try.prog 35 #[.slice rp rn rc, .agg #[.int .i64 n, .slice p l cap], .slice pp pn pc] w (GetPost (atE R n a P) w) := by
  have hl := his.1
  subst hl
  have b2 : ∀ x y, Below w.heap.size w ((w.alloc x).alloc y) := fun x y => ((Below.refl _ _).alloc (Nat.le_refl _) _).alloc (by simp) _
  have hK : KT w ((w.alloc (.cells #[.int .i64 n, .slice p a.len cap] 25)).alloc (.cells #[.int .i64 0, .slice none 0 0] 25)) w.heap.size w.heap.size (w.heap.size + 1) R rp rn rc n a p cap n a p cap :=
    ⟨(hR.alloc _).alloc _, alloc_kept (heap_new _ _) _, alloc_kept (heap_new _ _) _, heap_new2 _ _ _, (his.alloc _).alloc _, (his.alloc _).alloc _, b2 _ _⟩
  have hK2 := hK.alloc (.cells #[.int .i64 n, .slice p a.len cap] 25)
  have J := erefcheck_any R (.cons n a .nil) _ rp (some ⟨w.heap.size + 1 + 1, 0, none⟩) rn rc 1 1 hK2.rk (isY_one (heap_new3 _ _ _ _) hK2.i1)
  change Calls _ _ _ _ (fun e w' => e = .returned (.int .i64 (chkOne R n a)) ∧ _) at J
  have HK2 := Lib.hid hK2
  have HIS := Lib.hid his
  clear hR his hK hK2 b2
  obtain ⟨f, hf⟩ : ∃ f, atE R n a P = f := ⟨_, rfl⟩
  rw [hf]
  have HF := Lib.hid hf
  clear hf
  by_cases hc : chkOne R n a = 0
  · obtain ⟨s1, _, _⟩ := treeOk_facts (chkOne_ok hc)
    rw [hc] at J
    have HJ := Lib.hid J
    have HC := Lib.hid hc
    have HX := Lib.hid fun W m t q c (h1 : t.sz ≤ a.sz) (h : IsY W t q t.len c) => ecopy_any (t.sz + 1) t m W q _ c (Nat.lt_succ_self _) (by omega) h
    obtain ⟨hpn, hpc, hpm, hp0, hprow⟩ := hP
    subst hpn
    unfold maxLen at hpm
    have HPR := Lib.hid hprow
    clear J hc hprow hp0
    go_enter Try.func35, Try.ntmps35
    go_wp2_with fail
    refine (HJ.out).mono ?_
    rintro e w1 ⟨rfl, hb1⟩
    have hK := HK2.out.below hb1
    have hS : AtS w w1 P n a 0 n a p cap := ⟨rfl, Nat.le_refl _, HIS.out, hK.h1, hK.hr, hK.base⟩
    have HS := Lib.hid hS
    clear hb1 hK HK2 hS HJ
    go_wp2_with fail
    go_loopw [10, 21] (fun v i wr => ∃ (k : Nat) (m : Int) (t : Y) (q : Option Addr) (c : Nat), k ≤ P.length ∧ i = .int .i64 (k : Int) ∧ AtS w wr P n a k m t q c)
      (fun _ i _ => P.length - (intOf i).toNat)
    case atStart => exact ⟨0, n, a, p, cap, Nat.zero_le _, rfl, HS.out⟩
    case round =>
      obtain ⟨k, m, t, q, c, hk, rfl, hS⟩ := hrel
      have HT := Lib.hid hS
      clear HS
      obtain ⟨⟨x1, x2⟩, f1, f2⟩ := tree_box hS.h1
      obtain ⟨⟨z1, z2⟩, g1, g2⟩ := tree_box hS.h2
      have hz := lt_of_block hS.h2
      obtain ⟨hl0, hcap, hmax, hnil, hrow⟩ := hS.is
      unfold maxLen at hmax
      clear hS
      by_cases hlt : k < P.length
      · rcases HPR.out with h0 | ⟨pb, off, hpe, hr⟩
        · omega
        subst hpe
        have c1 := hr k hlt
        have d1 := ((bcell HT.out.base).1 _ _ (lt_of_cell c1)).trans c1
        clear c1 hr
        by_cases hin : 0 ≤ P.getD k 0 ∧ P.getD k 0 < (t.len : Int)
        · obtain ⟨j, hj⟩ : ∃ j : Nat, P.getD k 0 = (j : Int) := ⟨(P.getD k 0).toNat, by omega⟩
          have hjl : j < t.len := by omega
          have hstep := atY_drop_in hlt (n := m) hj hjl
          rw [hj] at d1
          rcases hrow with h0 | ⟨b, off', rfl, hr'⟩
          · omega
          obtain ⟨hcn1, p1, n1, cap1, hc1, hi1⟩ := base2_at (Keeps2.below HT.out.base (Nat.le_refl _)) hr' hjl
          obtain ⟨_, p1', n1', cap1', hc1', hi1'⟩ := hr'.at hjl
          have hq0 := ((bcell HT.out.base).1 _ _ (lt_of_cell hc1')).trans hc1'
          rw [hq0] at hc1
          obtain ⟨rfl, rfl, rfl⟩ : p1' = p1 ∧ n1' = n1 ∧ cap1' = cap1 := by simpa using hc1
          have hn1 := hi1'.1
          subst hn1
          have HI := Lib.hid hi1'
          have hsz : (t.ga j).sz ≤ a.sz := by have := Y.sz_ga t j hjl; have := HT.out.sz; omega
          have hS2 : AtS w (put2 wr w.heap.size (.int .i64 (t.gn j)) (.slice p1' (t.ga j).len cap1')) P n a (k + 1) (t.gn j) (t.ga j) p1' cap1' :=
            ⟨hstep.symm.trans HT.out.at_, hsz, hi1', put2_box HT.out.h1, put_far (by omega) HT.out.h2 _ _, (HT.out.base.setCell (Nat.le_refl _) _).setCell (Nat.le_refl _) _⟩
          have HS2 := Lib.hid hS2
          unfold put2 at HS2
          clear hstep hr' hi1 hi1' hin hj hS2 hc1 hc1' HPR
          generalize t.gn j = m2 at *
          generalize t.ga j = t2 at *
          go_wp2_with fail
          go_roundw
          case rel => exact ⟨k + 1, m2, t2, p1', cap1', by omega, by go_num, HS2.out⟩
          case measure => simp [intOf]; omega
        · have hnone := (HT.out.at_).symm.trans (atY_drop_out hlt (n := m) hin)
          have he := atE_none HC.out hnone
          rw [HF.out] at he
          have HE := Lib.hid he
          generalize P.getD k 0 = i at *
          clear hnone he HPR hrow
          by_cases hneg : i < 0
          · clear hin
            go_wp2_with fail
            refine bodyPost_ret (v := .tuple #[.agg #[.int .i64 0, .slice none 0 0], .int .i64 5]) (by simp [results, Try.results35, go_sem, z1, z2]) rfl ?_
            rw [HE.out]
            exact getPost_zero 5 _ _ (by omega) HT.out.base
          · have hge : (t.len : Int) ≤ i := by omega
            clear hin
            go_wp2_with fail
            refine bodyPost_ret (v := .tuple #[.agg #[.int .i64 0, .slice none 0 0], .int .i64 5]) (by simp [results, Try.results35, go_sem, z1, z2]) rfl ?_
            rw [HE.out]
            exact getPost_zero 5 _ _ (by omega) HT.out.base
      · obtain rfl : k = P.length := by omega
        have hv : atY P n a = some (m, t) := by rw [← HT.out.at_, List.drop_length]; rfl
        have he := atE_some HC.out hv
        rw [HF.out] at he
        have HE := Lib.hid he
        have HI := Lib.hid (HT.out.is.below HT.out.base)
        clear hv he hrow HPR
        go_wp2_with fail
        refine (HX.out _ m t q c HT.out.sz HI.out).mono ?_
        rintro e w2 ⟨q2, c2, rfl, hO, hb2⟩
        obtain ⟨⟨y1, y2⟩, i1, i2⟩ := tree_box (box2_later hb2 HT.out.h2)
        have hz2 := lt_of_block (box2_later hb2 HT.out.h2)
        have hb3 := HT.out.base.trans (hb2.mono HT.out.base.size)
        have HB3 := Lib.hid hb3
        clear hb2 hb3 x1 x2 z1 z2
        go_wp2_with fail
        refine bodyPost_ret (v := .tuple #[.agg #[.int .i64 m, .slice q2 t.len c2], .int .i64 0]) (by simp [results, Try.results35, go_sem, y1, y2]) rfl ?_
        rw [HE.out]
        exact getPost_own 0 m t q2 c2 _ _ (by omega) (by omega) (Nat.le_refl _) hO HB3.out
  · have e1 : atE R n a P = (chkOne R n a, 0, .nil) := if_neg hc
    rw [HF.out] at e1
    have HE := Lib.hid e1
    have hd : (chkOne R n a != 0) = true := by simpa using hc
    generalize chkOne R n a = x at *
    have HJ := Lib.hid J
    clear J hc e1
    go_enter Try.func35, Try.ntmps35
    go_wp2_with fail
    refine (HJ.out).mono ?_
    rintro e w1 ⟨rfl, hb1⟩
    have hK := HK2.out.below hb1
    obtain ⟨⟨z1, z2⟩, f1, f2⟩ := tree_box hK.hr
    have hz := lt_of_block hK.hr
    clear hb1
    go_wp2_with fail
    refine bodyPost_ret (v := .tuple #[.agg #[.int .i64 0, .slice none 0 0], .int .i64 x]) (by simp [results, Try.results35, go_sem, z1, z2]) rfl ?_
    rw [HE.out]
    exact getPost_zero x _ _ (by omega) hK.base

end Go.Proofs.Ytgpbkdfhjkfceaa

/-
  The statements' own turn, which changes every symbol of a list of trees: nothing but symbols above a bound turns. Conditions: none.
-/
set_option linter.unusedSimpArgs false
set_option linter.unusedVariables false
namespace Go.Proofs.Ytgpbkdfhjkfceaa
open Go.RowKit

/-- the trees of a list as they lie in a row of their own, whatever their symbols -/
def ShY (lo : Nat) (W : World) : Y → Nat → Nat → Prop
  | .nil, _, _ => True
  | .cons _ a r, b, off => (∃ i, W.cell? ⟨b, off, none⟩ = some (.int .i64 i)) ∧ W.frozen? ⟨b, off, none⟩ = false ∧
      (∃ p c, W.cell? ⟨b, off + 1, none⟩ = some (.slice p a.len c) ∧ a.len ≤ c ∧ c ≤ maxLen ∧ (a.len = 0 ∨ ∃ b', p = some ⟨b', 0, none⟩ ∧ lo ≤ b' ∧ ShY lo W a b' 0)) ∧ ShY lo W r b (off + 2)

/-- what turning may do -/
def Tn (lo : Nat) (W W' : World) : Prop := Below lo W W' ∧ ∀ b o v, W.cell? ⟨b, o, none⟩ = some v → (W'.cell? ⟨b, o, none⟩ = some v ∨ ∃ i j, v = .int .i64 i ∧ W'.cell? ⟨b, o, none⟩ = some (.int .i64 j)) ∧ W'.frozen? ⟨b, o, none⟩ = W.frozen? ⟨b, o, none⟩

theorem Tn.refl (lo : Nat) (W : World) : Tn lo W W := ⟨Below.refl _ _, fun b o v h => ⟨Or.inl h, rfl⟩⟩

theorem Tn.trans {lo : Nat} {W W' W2 : World} (h1 : Tn lo W W') (h2 : Tn lo W' W2) : Tn lo W W2 := by
  refine ⟨h1.1.trans h2.1, fun b o v h => ?_⟩
  obtain ⟨g1, g2⟩ := h1.2 b o v h
  rcases g1 with g1 | ⟨i, j, e, g1⟩
  · obtain ⟨k1, k2⟩ := h2.2 b o v g1
    exact ⟨k1, k2.trans g2⟩
  · obtain ⟨k1, k2⟩ := h2.2 b o _ g1
    refine ⟨Or.inr ?_, k2.trans g2⟩
    rcases k1 with k1 | ⟨i2, j2, e2, k1⟩
    · exact ⟨i, j, e, k1⟩
    · exact ⟨i, j2, e, k1⟩

theorem Tn.set {lo : Nat} {W : World} {b o : Nat} {i j : Int} (hb : lo ≤ b) (h : W.cell? ⟨b, o, none⟩ = some (.int .i64 i)) : Tn lo W (W.setCell ⟨b, o, none⟩ (.int .i64 j)) := by
  refine ⟨(Below.refl _ _).setCell hb _, fun b' o' v hv => ?_⟩
  refine ⟨?_, World.frozen?_setCell _ _ _ _⟩
  by_cases he : b' = b ∧ o' = o
  · obtain ⟨rfl, rfl⟩ := he
    rw [h] at hv
    injection hv with hv
    exact Or.inr ⟨i, j, hv.symm, World.cell?_setCell_same _ _ _ h⟩
  · refine Or.inl ?_
    rw [World.cell?_setCell_other]
    · exact hv
    · intro e
      apply he
      injection e with e1 e2
      exact ⟨e1.symm, e2.symm⟩

theorem Tn.shape {lo : Nat} {W W' : World} (h : Tn lo W W') (t : Y) : ∀ b off, ShY lo W t b off → ShY lo W' t b off := by
  induction t with
  | nil => intro b off _; trivial
  | cons n a r iha ihr =>
    rintro b off ⟨⟨i, h1⟩, h2, ⟨p, c, h3, h4, h5, h6⟩, h7⟩
    refine ⟨?_, ?_, ?_, ihr _ _ h7⟩
    · obtain ⟨g, _⟩ := h.2 _ _ _ h1
      rcases g with g | ⟨_, j, _, g⟩
      · exact ⟨i, g⟩
      · exact ⟨j, g⟩
    · rw [(h.2 _ _ _ h1).2]; exact h2
    · refine ⟨p, c, ?_, h4, h5, ?_⟩
      · obtain ⟨g, _⟩ := h.2 _ _ _ h3
        rcases g with g | ⟨_, j, e, _⟩
        · exact g
        · cases e
      · rcases h6 with h6 | ⟨b', e, hl, hs⟩
        · exact Or.inl h6
        · exact Or.inr ⟨b', e, hl, iha _ _ hs⟩

theorem ShY.at {lo : Nat} {W : World} {t : Y} : ∀ {b off k : Nat}, ShY lo W t b off → k < t.len →
    (∃ i, W.cell? ⟨b, off + k * 2, none⟩ = some (.int .i64 i)) ∧ W.frozen? ⟨b, off + k * 2, none⟩ = false ∧
      (∃ p c, W.cell? ⟨b, off + k * 2 + 1, none⟩ = some (.slice p (t.ga k).len c) ∧ (t.ga k).len ≤ c ∧ c ≤ maxLen ∧ ((t.ga k).len = 0 ∨ ∃ b', p = some ⟨b', 0, none⟩ ∧ lo ≤ b' ∧ ShY lo W (t.ga k) b' 0)) := by
  induction t with
  | nil => intro b off k _ h; exact absurd h (Nat.not_lt_zero _)
  | cons n a r iha ihr =>
    intro b off k h hk
    cases k with
    | zero => exact ⟨h.1, h.2.1, h.2.2.1⟩
    | succ k =>
      have := ihr (k := k) h.2.2.2 (by simp only [Y.len] at hk; omega)
      rw [show off + 2 + k * 2 = off + (k + 1) * 2 by omega] at this
      exact this

theorem KidsY.shape {lo : Nat} {w : World} {t : Y} : ∀ {vs : List Value} {g : Option Nat} {l h b off : Nat}, lo ≤ l → KidsY w t vs g l h → (∀ i v, vs[i]? = some v → w.cell? ⟨b, off + i, none⟩ = some v ∧ w.frozen? ⟨b, off + i, none⟩ = false) → ShY lo w t b off := by
  induction t with
  | nil => intros; trivial
  | cons n a r iha ihr =>
    rintro vs g l' h' b off hlo ⟨l, m, c, p, rest, rfl, h1, h2, h4, h5, h6, h7, h8, h3⟩ hc
    refine ⟨⟨n, by have := (hc 0 _ rfl).1; simpa using this⟩, by have := (hc 0 _ rfl).2; simpa using this, ⟨p, c, (hc 1 _ rfl).1, h5, h6, ?_⟩, ihr (by omega) h3 fun i v hi => by have := hc (i + 2) v (by simpa using hi); rw [show off + 2 + i = off + (i + 2) by omega]; exact this⟩
    rcases h8 with h8 | ⟨b', us, e, hl, _, hr, hk⟩
    · exact Or.inl h8
    · exact Or.inr ⟨b', e, by omega, iha (by omega) hk fun i v hi => by rw [Nat.zero_add]; exact hr i v hi⟩

/-- a list of a call's own may be turned -/
theorem OwnY.shape {w : World} {t : Y} {p : Option Addr} {c lo hi : Nat} (h : OwnY w t p c lo hi) : t.len ≤ c ∧ c ≤ maxLen ∧ (t.len = 0 ∨ ∃ b, p = some ⟨b, 0, none⟩ ∧ lo ≤ b ∧ ShY lo w t b 0) := by
  obtain ⟨h1, h2, h3, h4⟩ := h
  refine ⟨h1, h2, ?_⟩
  rcases h4 with h4 | ⟨b, us, e, hl, _, hr, hk⟩
  · exact Or.inl h4
  · exact Or.inr ⟨b, e, hl, hk.shape (Nat.le_refl _) fun i v hi => by rw [Nat.zero_add]; exact hr i v hi⟩

set_option maxRecDepth 100000 in
set_option maxHeartbeats 1600000 in
theorem eturn_any (lo N : Nat) : ∀ (t : Y) (W : World) (p : Option Addr) (cap : Nat), t.sz < N → t.len ≤ cap → cap ≤ maxLen → (t.len = 0 ∨ ∃ b, p = some ⟨b, 0, none⟩ ∧ lo ≤ b ∧ ShY lo W t b 0) →
    Calls Try.prog 44 #[.slice p t.len cap] W fun e w' => e = .returned (.tuple #[]) ∧ Tn lo W w' := by
  induction N with
  | zero => intro t W p cap hN; omega
  | succ N ih =>
    intro t W p cap hN hcap hmax hsh
    unfold maxLen at hmax
    have IH := Lib.hid ih
    clear ih
    go_enter Try.func44, Try.ntmps44
    go_wp2_with fail
    go_loopw [2, 5] (fun v i wr => ∃ j : Nat, j ≤ t.len ∧ i = .int .i64 (j : Int) ∧ Tn lo W wr)
      (fun _ i _ => t.len - (intOf i).toNat)
    case atStart => exact ⟨0, Nat.zero_le _, rfl, Tn.refl _ _⟩
    case round =>
      obtain ⟨j, hj, rfl, hT⟩ := hrel
      have HT := Lib.hid hT
      clear hT
      by_cases hlt : j < t.len
      · rcases hsh with h0 | ⟨b, rfl, hlb, hs⟩
        · omega
        obtain ⟨_, _, p1, c1, hc1, hl1, hm1, hk1⟩ := (HT.out.shape t _ _ hs).at hlt
        have hsz := t.sz_ga j hlt
        have HC := Lib.hid (IH.out (t.ga j) wr p1 c1 (by omega) hl1 hm1 hk1)
        have HS := Lib.hid hs
        generalize (t.ga j).len = l1 at *
        have hc1' : wr.cell? ⟨b, 0 + j * 2 + 1, none⟩ = some (.slice p1 l1 c1) := hc1
        clear hk1 hs hsz hl1 hm1 hc1
        rw [Nat.zero_add] at hc1'
        go_wp2_with fail
        refine (HC.out).mono ?_
        rintro e w1 ⟨rfl, hT1⟩
        have HT1 := Lib.hid (HT.out.trans hT1)
        obtain ⟨⟨i, hi⟩, hf, _⟩ := (HT1.out.shape t _ _ HS.out).at hlt
        rw [Nat.zero_add] at hi hf
        have hbl := lt_of_cell hi
        have HI := Lib.hid hi
        clear hT1 hc1' HC
        go_wp2_with fail
        go_roundw
        case rel => exact ⟨j + 1, by omega, by go_num, HT1.out.trans (Tn.set hlb HI.out)⟩
        case measure => simp [intOf]; omega
      · go_wp2_with fail
        all_goals go_end0
        all_goals exact ⟨rfl, HT.out⟩

end Go.Proofs.Ytgpbkdfhjkfceaa

/-
  The walk of the statement on memory, where the example holds. Conditions: none but that the arguments lie in memory.
-/
set_option linter.unusedSimpArgs false
set_option linter.unusedVariables false
namespace Go.Proofs.Ytgpbkdfhjkfceaa
open Go.RowKit

/-- while two copies are made: the world, and the variables that are there -/
structure CS (W0 W : World) (x4 x5 : Option Nat) : Prop where
  base : Below W0.heap.size W0 W
  h4 : ∀ b, x4 = some b → W.heap[b]? = some (.cells #[.int .i64 0, .slice none 0 0] 25 (0, 0)) ∧ W0.heap.size ≤ b
  h5 : ∀ b, x5 = some b → W.heap[b]? = some (.cells #[.int .i64 0, .slice none 0 0] 25 (0, 0)) ∧ W0.heap.size ≤ b
  ne : ∀ b b', x4 = some b → x5 = some b' → b ≠ b'

/-- a copy that is made -/
def CO (W : World) (t : Y) (q : Option Addr) (c : Nat) (x4 x5 : Option Nat) : Prop := ∃ lo hi, OwnY W t q c lo hi ∧ hi ≤ W.heap.size ∧ (∀ b, x4 = some b → b < lo ∨ hi ≤ b) ∧ (∀ b, x5 = some b → b < lo ∨ hi ≤ b)

section
variable {W0 W W' : World} {x4 x5 : Option Nat} {t : Y} {q : Option Addr} {c : Nat}

theorem CS.call (h : CS W0 W x4 x5) (hb : Below W.heap.size W W') : CS W0 W' x4 x5 :=
  ⟨h.base.trans (hb.mono h.base.size), fun b e => ⟨box2_later hb (h.h4 b e).1, (h.h4 b e).2⟩, fun b e => ⟨box2_later hb (h.h5 b e).1, (h.h5 b e).2⟩, h.ne⟩

theorem below_new (W : World) (o : Obj) : Below W.heap.size W (W.alloc o) := (Below.refl _ _).alloc (Nat.le_refl _) o

theorem CS.alloc4 (h : CS W0 W none x5) : CS W0 (W.alloc (.cells #[.int .i64 0, .slice none 0 0] 25)) (some W.heap.size) x5 := by
  have h1 := h.call (below_new W (.cells #[.int .i64 0, .slice none 0 0] 25))
  refine ⟨h1.base, fun b e => ?_, h1.h5, fun b b' e e' => ?_⟩
  · injection e with e; subst e
    exact ⟨heap_new _ _, h.base.size⟩
  · injection e with e; subst e
    have := lt_of_block (h.h5 b' e').1
    omega

theorem CS.alloc5 (h : CS W0 W x4 none) : CS W0 (W.alloc (.cells #[.int .i64 0, .slice none 0 0] 25)) x4 (some W.heap.size) := by
  have h1 := h.call (below_new W (.cells #[.int .i64 0, .slice none 0 0] 25))
  refine ⟨h1.base, h1.h4, fun b e => ?_, fun b b' e e' => ?_⟩
  · injection e with e; subst e
    exact ⟨heap_new _ _, h.base.size⟩
  · injection e' with e'; subst e'
    have := lt_of_block (h.h4 b e).1
    omega

theorem CO.call (h : CO W t q c x4 x5) (hb : Below W.heap.size W W') : CO W' t q c x4 x5 := by
  obtain ⟨lo, hi, h1, h2, h3, h4⟩ := h
  exact ⟨lo, hi, h1.keep fun k _ hk => hb.block k (by omega), by have := hb.size; omega, h3, h4⟩

theorem CO.alloc4 (h : CO W t q c none x5) (o : Obj) : CO (W.alloc o) t q c (some W.heap.size) x5 := by
  obtain ⟨lo, hi, h1, h2, _, h4⟩ := h.call (below_new W o)
  obtain ⟨lo', hi', h1', h2', _, h4'⟩ := h
  exact ⟨lo', hi', h1'.keep fun k _ hk => Below.heap_alloc _ _ _ (by omega), by simp; omega, fun b e => by injection e with e; subst e; exact Or.inr h2', h4'⟩

theorem CO.alloc5 (h : CO W t q c x4 none) (o : Obj) : CO (W.alloc o) t q c x4 (some W.heap.size) := by
  obtain ⟨lo', hi', h1', h2', h3', _⟩ := h
  exact ⟨lo', hi', h1'.keep fun k _ hk => Below.heap_alloc _ _ _ (by omega), by simp; omega, h3', fun b e => by injection e with e; subst e; exact Or.inr h2'⟩

theorem CO.made (h : CS W0 W x4 x5) (hO : OwnY W' t q c W.heap.size W'.heap.size) : CO W' t q c x4 x5 :=
  ⟨_, _, hO, Nat.le_refl _, fun b e => Or.inl (lt_of_block (h.h4 b e).1), fun b e => Or.inl (lt_of_block (h.h5 b e).1)⟩

theorem CO.put {b4 b5 : Nat} (h : CO W t q c (some b4) (some b5)) {b : Nat} (hb : b = b4 ∨ b = b5) (u v : Value) : CO (put2 W b u v) t q c (some b4) (some b5) := by
  obtain ⟨lo, hi, h1, h2, h3, h4⟩ := h
  have hne : b < lo ∨ hi ≤ b := by
    rcases hb with rfl | rfl
    · exact h3 _ rfl
    · exact h4 _ rfl
  refine ⟨lo, hi, h1.keep fun k a hk => put2_far (by omega), ?_, h3, h4⟩
  unfold put2
  rw [size_set2]
  exact h2

theorem CO.isY (h : CO W t q c x4 x5) : IsY W t q t.len c := by
  obtain ⟨lo, hi, h1, _⟩ := h
  exact h1.isY
end

theorem cs_start (W0 : World) : CS W0 W0.drew none none := by
  refine ⟨(Below.refl _ _).drew, ?_, ?_, ?_⟩
  · intro b e; cases e
  · intro b e; cases e
  · intro b b' e; cases e

theorem below_put {W0 W : World} {k b : Nat} (h : Below k W0 W) (hb : k ≤ b) (u v : Value) : Below k W0 (put2 W b u v) := (h.setCell hb _).setCell hb _

/-- what the statement holds on to: the arguments and their copies -/
structure OO (w W : World) (R : List Int) (rp : Option Addr) (rn rc : Nat) (n : Int) (a : Y) (p : Option Addr) (cap : Nat) (n' : Int) (b : Y) (p' : Option Addr) (cap' : Nat) (bx by_ : Nat) (q : Option Addr) (c : Nat) (q' : Option Addr) (c' : Nat) : Prop where
  kk : KK w W R rp rn rc w.heap.size (w.heap.size + 1) (w.heap.size + 1) n a p cap n' b p' cap' n' b p' cap'
  hx : W.heap[bx]? = some (.cells #[.int .i64 n, .slice q a.len c] 25 (0, 0))
  hy : W.heap[by_]? = some (.cells #[.int .i64 n', .slice q' b.len c'] 25 (0, 0))
  ix : IsY W a q a.len c
  iy : IsY W b q' b.len c'

section
variable {w W W' : World} {R : List Int} {rp : Option Addr} {rn rc : Nat} {n : Int} {a : Y} {p : Option Addr} {cap : Nat} {n' : Int} {b : Y} {p' : Option Addr} {cap' bx by_ : Nat} {q : Option Addr} {c : Nat} {q' : Option Addr} {c' : Nat}

theorem OO.below (h : OO w W R rp rn rc n a p cap n' b p' cap' bx by_ q c q' c') (hb : Below W.heap.size W W') : OO w W' R rp rn rc n a p cap n' b p' cap' bx by_ q c q' c' :=
  ⟨h.kk.below hb, box2_later hb h.hx, box2_later hb h.hy, h.ix.below hb, h.iy.below hb⟩

theorem oo_of {W0 : World} (hk : KK w W0 R rp rn rc w.heap.size (w.heap.size + 1) (w.heap.size + 1) n a p cap n' b p' cap' n' b p' cap') (hs : CS W0 W (some bx) (some by_)) (h1 : CO W a q c (some bx) (some by_)) (h2 : CO W b q' c' (some bx) (some by_)) :
    OO w (put2 (put2 W bx (.int .i64 n) (.slice q a.len c)) by_ (.int .i64 n') (.slice q' b.len c')) R rp rn rc n a p cap n' b p' cap' bx by_ q c q' c' := by
  have e4 := hs.h4 _ rfl
  have e5 := hs.h5 _ rfl
  have hne := hs.ne _ _ rfl rfl
  refine ⟨hk.below ?_, ?_, ?_, ((h1.put (Or.inl rfl) _ _).put (Or.inr rfl) _ _).isY, ((h2.put (Or.inl rfl) _ _).put (Or.inr rfl) _ _).isY⟩
  · exact ((((hs.base.setCell e4.2 _).setCell e4.2 _).setCell e5.2 _).setCell e5.2 _)
  · rw [put2_far hne]; exact put2_box e4.1
  · exact put2_box (by rw [put2_far (Ne.symm hne)]; exact e5.1)
end

set_option maxRecDepth 100000 in
set_option maxHeartbeats 8000000 in
theorem law_eown (hal : AliveE) (R : List Int) (a b : Y) (P : List Int) (n n' d : Int) (w : World) (rp p p' pp : Option Addr) (rn rc l cap l' cap' pn pc : Nat) (hd63 : d ≤ 9223372036854775807) (hR : IsL w R rp rn rc) (his : IsY w a p l cap) (hit : IsY w b p' l' cap') (hP : IsL w P pp pn pc) :
    Calls Try.prog 17 #[.slice rp rn rc, .agg #[.int .i64 n, .slice p l cap], .agg #[.int .i64 n', .slice p' l' cap'], .int .i64 d, .slice pp pn pc] w fun e w' => e = .returned (.bool true) ∧ Below w.heap.size w w' := by
  have hl := his.1
  subst hl
  have hl' := hit.1
  subst hl'
  have hA := Lib.hid hal
  have K0 := kk_two (n1 := n) (n2 := n') hR his hit
  have Ka := K0.alloc (.cells #[.int .i64 n, .slice p a.len cap, .int .i64 n', .slice p' b.len cap'] 25)
  have J := erefcheck_any R (.cons n a (.cons n' b .nil)) _ rp (some ⟨w.heap.size + 1 + 1, 0, none⟩) rn rc 2 2 Ka.rk (isY_two (heap_new3 _ _ _ _) Ka.i1 Ka.i2)
  change Calls _ _ _ _ (fun e w' => e = .returned (.int .i64 (chkTwo R n a n' b)) ∧ _) at J
  have HKa := Lib.hid Ka
  have HP := Lib.hid hP
  clear hal K0 Ka hR his hit hP
  by_cases hc : ¬ chkTwo R n a n' b = 0
  · have hd : (chkTwo R n a n' b != 0) = true := by simpa using hc
    generalize chkTwo R n a n' b = x at *
    have HJ := Lib.hid J
    clear J hc
    go_enter Try.func17, Try.ntmps17
    go_wp2_with fail
    refine (HJ.out).mono ?_
    rintro e w1 ⟨rfl, hb1⟩
    have HK := Lib.hid (HKa.out.below hb1)
    clear hb1
    go_wp2_with fail
    refine (hA.out _).mono ?_
    rintro e wz ⟨rfl, hbz⟩
    go_wp2_with fail
    go_ret
    exact ⟨rfl, (HK.out.below hbz).base⟩
  rw [Decidable.not_not] at hc
  obtain ⟨_, oa, ob⟩ := chkTwo_three hc
  have sa := (treeOk_split oa).1
  have sb := (treeOk_split ob).1
  rw [hc] at J
  have HJ := Lib.hid J
  have HL := Lib.hid fun W (h1 : IsL W R rp rn rc) (h2 : IsY W a p a.len cap) (h3 : IsY W b p' b.len cap') => eatleast_any R a b n n' W rp p p' rn rc _ cap _ cap' h1 h2 h3
  have HM := Lib.hid fun W (h1 : IsL W R rp rn rc) (h2 : IsY W a p a.len cap) (h3 : IsY W b p' b.len cap') => emeettop_any R a b n n' W rp p p' rn rc _ cap _ cap' h1 h2 h3
  have HN := Lib.hid fun W (h1 : IsL W R rp rn rc) (h2 : IsY W a p a.len cap) (h3 : IsY W b p' b.len cap') => ejointop_any R a b n n' W rp p p' rn rc _ cap _ cap' h1 h2 h3
  have HC := Lib.hid fun W (h1 : IsL W R rp rn rc) (h2 : IsY W a p a.len cap) => ecuttop_any R a n d W rp p rn rc _ cap hd63 h1 h2
  have HT4 := Lib.hid fun W (h1 : IsL W R rp rn rc) (h2 : IsY W b p' b.len cap') (h3 : Below w.heap.size w W) => eattop_any R b n' P W rp p' pp rn rc _ cap' pn pc h1 h2 (HP.out.below h3)
  have HCa := Lib.hid fun W (h : IsY W a p a.len cap) => ecopy_any (a.sz + 1) a n W p _ cap (Nat.lt_succ_self _) (by omega) h
  have HCb := Lib.hid fun W (h : IsY W b p' b.len cap') => ecopy_any (b.sz + 1) b n' W p' _ cap' (Nat.lt_succ_self _) (by omega) h
  have HEa := Lib.hid fun W q c (h1 : IsY W a p a.len cap) (h2 : IsY W a q a.len c) => erefequal_any (a.sz + 1) a a n n W p q _ cap _ c (Nat.lt_succ_self _) h1 h2
  have HEb := Lib.hid fun W q c (h1 : IsY W b p' b.len cap') (h2 : IsY W b q b.len c) => erefequal_any (b.sz + 1) b b n' n' W p' q _ cap' _ c (Nat.lt_succ_self _) h1 h2
  have ea : Y.eq1 n a n a = true := by simp [Y.eq1, Y.eqY_refl]
  have eb : Y.eq1 n' b n' b = true := by simp [Y.eq1, Y.eqY_refl]
  rw [ea] at HEa
  rw [eb] at HEb
  generalize (leastE R n a n' b).1 = r1 at *
  generalize (leastE R n a n' b).2 = r2 at *
  generalize meetE R n a n' b = f1 at *
  generalize joinE R n a n' b = f2 at *
  generalize cutE R n a d = f3 at *
  generalize atE R n' b P = f4 at *
  obtain ⟨x1, m1, z1⟩ := f1
  obtain ⟨x2, m2, z2⟩ := f2
  obtain ⟨x3, m3, z3⟩ := f3
  obtain ⟨x4, m4, z4⟩ := f4
  clear J hc oa ob sa sb ea eb
  go_enter Try.func17, Try.ntmps17
  go_wp2_with fail
  refine (HJ.out).mono ?_
  rintro e W0 ⟨rfl, hb1⟩
  have HKW := Lib.hid (HKa.out.below hb1)
  have MB := Lib.hid fun W (h : Below W0.heap.size W0 W) => (⟨((HKW.out.below h).cells).1.1, ((HKW.out.below h).cells).1.2, ((HKW.out.below h).cells).2.1.1, ((HKW.out.below h).cells).2.1.2, h⟩ : (fun W => W.cell? ⟨w.heap.size, 0, none⟩ = some (.int .i64 n) ∧ W.cell? ⟨w.heap.size, 1, none⟩ = some (.slice p a.len cap) ∧ W.cell? ⟨w.heap.size + 1, 0, none⟩ = some (.int .i64 n') ∧ W.cell? ⟨w.heap.size + 1, 1, none⟩ = some (.slice p' b.len cap') ∧ Below W0.heap.size W0 W) W)
  clear hb1 HKa HJ
  go_upto_region 3 with fail
  go_cut [11, 12] from 21 to 86 (fun v11 v12 wx => ∃ (bx by_ : Nat) (q1 : Option Addr) (c1 : Nat) (q2 : Option Addr) (c2 : Nat), v11 = .pointer (some ⟨bx, 0, none⟩) ∧ v12 = .pointer (some ⟨by_, 0, none⟩) ∧ OO w wx R rp rn rc n a p cap n' b p' cap' bx by_ q1 c1 q2 c2)
  case first =>
    refine wp_region_held_drew (S := (fun W => W.cell? ⟨w.heap.size, 0, none⟩ = some (.int .i64 n) ∧ W.cell? ⟨w.heap.size, 1, none⟩ = some (.slice p a.len cap) ∧ W.cell? ⟨w.heap.size + 1, 0, none⟩ = some (.int .i64 n') ∧ W.cell? ⟨w.heap.size + 1, 1, none⟩ = some (.slice p' b.len cap') ∧ Below W0.heap.size W0 W)) (by kernel_rfl) (MB.out _ (Below.refl _ _).drew) (fun hHeld => ?_)
    have HS := Lib.hid (cs_start W0)
    refine wpAnyH_take (i := 0) (oi := { dst := some 28, op := Go.Op.load 25 (Go.Operand.tmp 6), type := 25, pos := "law.go:192", after := #[], guard := none }) (v := ?_) rfl (by kernel_rfl) (by kernel_rfl) (by kernel_rfl) (fun _ _ _ h => h) (Or.inl ⟨by rfl, ?_⟩) (by assumption) ?_
    rotate_left
    · intro W hSw; (try dsimp only at hSw); go_simp; with_reducible rfl
    try simp only [Act.put, List.setIfInBounds_toArray, List.set_cons_zero, List.set_cons_succ]
    refine wpAnyH_take (i := 2) (oi := { dst := some 30, op := Go.Op.load 25 (Go.Operand.tmp 7), type := 25, pos := "law.go:192", after := #[], guard := none }) (v := ?_) rfl (by kernel_rfl) (by kernel_rfl) (by kernel_rfl) (fun _ _ _ h => h) (Or.inl ⟨by rfl, ?_⟩) (by assumption) ?_
    rotate_left
    · intro W hSw; (try dsimp only at hSw); go_simp; with_reducible rfl
    try simp only [Act.put, List.setIfInBounds_toArray, List.set_cons_zero, List.set_cons_succ]
    generalize W0.drew = V0 at *
    refine wpAnyH_ready (rs := [1, 4, 5]) (by kernel_rfl) (by simp) ?_
    refine AllReadyH.cons (o := { dst := some 29, op := Go.Op.call { callee := Go.Callee.value (Go.Operand.func 43), args := #[Go.Operand.tmp 28], argTypes := #[25] }, type := 25, pos := "law.go:192", after := #[{ on := 0, ground := Go.Ground.data }], guard := none }) rfl (fun K hK => ?_) ?_
    · go_simp
      go_at_call 43
      refine (HCa.out _ (HKW.out.i1.below HS.out.base)).mono ?_
      rintro e V1 ⟨q1, c1, rfl, hOn, hbn⟩
      have HSn := HS.out.call hbn
      have H1 := Lib.hid (CO.made HS.out hOn)
      have HS := Lib.hid HSn
      have sn := MB.out _ HSn.base
      clear hOn hbn HSn
      go_wp2_with fail
      refine hK.out _ _ sn (fun hHeld => ?_)
      clear hK K sn
      try simp only [Act.put, List.setIfInBounds_toArray, List.set_cons_zero, List.set_cons_succ]
      refine wpAnyH_ready (rs := [3, 4, 5]) (by kernel_rfl) (by simp) ?_
      refine AllReadyH.cons (o := { dst := some 31, op := Go.Op.call { callee := Go.Callee.value (Go.Operand.func 43), args := #[Go.Operand.tmp 30], argTypes := #[25] }, type := 25, pos := "law.go:192", after := #[{ on := 2, ground := Go.Ground.data }, { on := 1, ground := Go.Ground.chain }], guard := none }) rfl (fun K hK => ?_) ?_
      · go_simp
        go_at_call 43
        refine (HCb.out _ (HKW.out.i2.below HS.out.base)).mono ?_
        rintro e V2 ⟨q2, c2, rfl, hOn, hbn⟩
        have HSn := HS.out.call hbn
        have H2 := Lib.hid (CO.made HS.out hOn)
        have H1 := Lib.hid (H1.out.call hbn)
        have HS := Lib.hid HSn
        have sn := MB.out _ HSn.base
        clear hOn hbn HSn
        go_wp2_with fail
        refine hK.out _ _ sn (fun hHeld => ?_)
        clear hK K sn
        try simp only [Act.put, List.setIfInBounds_toArray, List.set_cons_zero, List.set_cons_succ]
        refine wpAnyH_ready (rs := [4, 5]) (by kernel_rfl) (by simp) ?_
        refine AllReadyH.cons (o := { dst := some 11, op := Go.Op.alloc 25, type := 0, pos := "law.go:192", after := #[], guard := none }) rfl (fun K hK => ?_) ?_
        · go_simp
          have HSn := HS.out.alloc4
          have H1n := H1.out.alloc4 (.cells #[.int .i64 0, .slice none 0 0] 25)
          have H2n := H2.out.alloc4 (.cells #[.int .i64 0, .slice none 0 0] 25)
          refine hK.out _ _ (MB.out _ HSn.base) (fun hHeld => ?_)
          clear hK K
          try simp only [Act.put, List.setIfInBounds_toArray, List.set_cons_zero, List.set_cons_succ]
          generalize V2.alloc (.cells #[.int .i64 0, .slice none 0 0] 25) = V3 at *
          generalize V2.heap.size = b4 at *
          have HS := Lib.hid HSn
          have H1 := Lib.hid H1n
          have H2 := Lib.hid H2n
          clear HSn H1n H2n
          refine wpAnyH_ready (rs := [5]) (by kernel_rfl) (by simp) ?_
          refine AllReadyH.cons (o := { dst := some 12, op := Go.Op.alloc 25, type := 0, pos := "law.go:192", after := #[], guard := none }) rfl (fun K hK => ?_) AllReadyH.nil
          go_simp
          have HSn := HS.out.alloc5
          have H1n := H1.out.alloc5 (.cells #[.int .i64 0, .slice none 0 0] 25)
          have H2n := H2.out.alloc5 (.cells #[.int .i64 0, .slice none 0 0] 25)
          refine hK.out _ _ (MB.out _ HSn.base) (fun hHeld => ?_)
          clear hK K
          try simp only [Act.put, List.setIfInBounds_toArray, List.set_cons_zero, List.set_cons_succ]
          generalize V3.alloc (.cells #[.int .i64 0, .slice none 0 0] 25) = V4 at *
          generalize V3.heap.size = b5 at *
          have HS := Lib.hid HSn
          have H1 := Lib.hid H1n
          have H2 := Lib.hid H2n
          clear HSn H1n H2n
          have e4 := HS.out.h4 _ rfl
          have e5 := HS.out.h5 _ rfl
          have hne := HS.out.ne _ _ rfl rfl
          have hO := Lib.hid (oo_of HKW.out HS.out H1.out H2.out)
          obtain ⟨g1, g2⟩ := box2_cells e4.1
          obtain ⟨g3, g4⟩ := free2 e4.1
          have e6 : (put2 V4 b4 (.int .i64 n) (.slice q1 a.len c1)).heap[b5]? = _ := (put2_far (Ne.symm hne)).trans e5.1
          have s6 := MB.out _ (below_put HS.out.base e4.2 (.int .i64 n) (.slice q1 a.len c1))
          have s7 := MB.out _ (below_put (below_put HS.out.base e4.2 (.int .i64 n) (.slice q1 a.len c1)) e5.2 (.int .i64 n') (.slice q2 b.len c2))
          unfold put2 at s6 s7
          unfold put2 at e6 hO
          obtain ⟨g5, g6⟩ := box2_cells e6
          obtain ⟨g7, g8⟩ := free2 e6
          clear e4 e5 e6
          refine wpAnyH_ready (rs := [6]) (by kernel_rfl) (by simp) ?_
          refine AllReadyH.cons (o := { dst := none, op := Go.Op.store 25 (Go.Operand.tmp 11) (Go.Operand.tmp 29), type := 0, pos := "law.go:192", after := #[{ on := 4, ground := Go.Ground.data }, { on := 1, ground := Go.Ground.data }, { on := 3, ground := Go.Ground.chain }, { on := 0, ground := Go.Ground.phase }, { on := 1, ground := Go.Ground.phase }, { on := 2, ground := Go.Ground.textOnly Go.Departure.lateStores }, { on := 3, ground := Go.Ground.textOnly Go.Departure.lateStoresUnsure }, { on := 4, ground := Go.Ground.phase }, { on := 5, ground := Go.Ground.phase }], guard := none }) rfl (fun K hK => ?_) AllReadyH.nil
          go_simp
          refine hK.out _ _ s6 (fun hHeld => ?_)
          clear hK K
          try simp only [Act.put, List.setIfInBounds_toArray, List.set_cons_zero, List.set_cons_succ]
          refine wpAnyH_ready (rs := [7]) (by kernel_rfl) (by simp) ?_
          refine AllReadyH.cons (o := { dst := none, op := Go.Op.store 25 (Go.Operand.tmp 12) (Go.Operand.tmp 31), type := 0, pos := "law.go:192", after := #[{ on := 5, ground := Go.Ground.data }, { on := 3, ground := Go.Ground.data }, { on := 6, ground := Go.Ground.chain }, { on := 0, ground := Go.Ground.phase }, { on := 1, ground := Go.Ground.phase }, { on := 2, ground := Go.Ground.phase }, { on := 3, ground := Go.Ground.phase }, { on := 4, ground := Go.Ground.phase }, { on := 5, ground := Go.Ground.phase }, { on := 6, ground := Go.Ground.phase }], guard := none }) rfl (fun K hK => ?_) AllReadyH.nil
          go_simp
          refine hK.out _ _ s7 (fun hHeld => ?_)
          clear hK K
          try simp only [Act.put, List.setIfInBounds_toArray, List.set_cons_zero, List.set_cons_succ]
          refine wpAnyH_done (by kernel_rfl) ?_ _
          go_wp2_with fail
          go_meet
          case rel => exact ⟨b4, b5, q1, c1, q2, c2, rfl, rfl, hO.out⟩
        refine AllReadyH.cons (o := { dst := some 12, op := Go.Op.alloc 25, type := 0, pos := "law.go:192", after := #[], guard := none }) rfl (fun K hK => ?_) AllReadyH.nil
        go_simp
        have HSn := HS.out.alloc5
        have H1n := H1.out.alloc5 (.cells #[.int .i64 0, .slice none 0 0] 25)
        have H2n := H2.out.alloc5 (.cells #[.int .i64 0, .slice none 0 0] 25)
        refine hK.out _ _ (MB.out _ HSn.base) (fun hHeld => ?_)
        clear hK K
        try simp only [Act.put, List.setIfInBounds_toArray, List.set_cons_zero, List.set_cons_succ]
        generalize V2.alloc (.cells #[.int .i64 0, .slice none 0 0] 25) = V5 at *
        generalize V2.heap.size = b5 at *
        have HS := Lib.hid HSn
        have H1 := Lib.hid H1n
        have H2 := Lib.hid H2n
        clear HSn H1n H2n
        refine wpAnyH_ready (rs := [4]) (by kernel_rfl) (by simp) ?_
        refine AllReadyH.cons (o := { dst := some 11, op := Go.Op.alloc 25, type := 0, pos := "law.go:192", after := #[], guard := none }) rfl (fun K hK => ?_) AllReadyH.nil
        go_simp
        have HSn := HS.out.alloc4
        have H1n := H1.out.alloc4 (.cells #[.int .i64 0, .slice none 0 0] 25)
        have H2n := H2.out.alloc4 (.cells #[.int .i64 0, .slice none 0 0] 25)
        refine hK.out _ _ (MB.out _ HSn.base) (fun hHeld => ?_)
        clear hK K
        try simp only [Act.put, List.setIfInBounds_toArray, List.set_cons_zero, List.set_cons_succ]
        generalize V5.alloc (.cells #[.int .i64 0, .slice none 0 0] 25) = V6 at *
        generalize V5.heap.size = b4 at *
        have HS := Lib.hid HSn
        have H1 := Lib.hid H1n
        have H2 := Lib.hid H2n
        clear HSn H1n H2n
        have e4 := HS.out.h4 _ rfl
        have e5 := HS.out.h5 _ rfl
        have hne := HS.out.ne _ _ rfl rfl
        have hO := Lib.hid (oo_of HKW.out HS.out H1.out H2.out)
        obtain ⟨g1, g2⟩ := box2_cells e4.1
        obtain ⟨g3, g4⟩ := free2 e4.1
        have e6 : (put2 V6 b4 (.int .i64 n) (.slice q1 a.len c1)).heap[b5]? = _ := (put2_far (Ne.symm hne)).trans e5.1
        have s6 := MB.out _ (below_put HS.out.base e4.2 (.int .i64 n) (.slice q1 a.len c1))
        have s7 := MB.out _ (below_put (below_put HS.out.base e4.2 (.int .i64 n) (.slice q1 a.len c1)) e5.2 (.int .i64 n') (.slice q2 b.len c2))
        unfold put2 at s6 s7
        unfold put2 at e6 hO
        obtain ⟨g5, g6⟩ := box2_cells e6
        obtain ⟨g7, g8⟩ := free2 e6
        clear e4 e5 e6
        refine wpAnyH_ready (rs := [6]) (by kernel_rfl) (by simp) ?_
        refine AllReadyH.cons (o := { dst := none, op := Go.Op.store 25 (Go.Operand.tmp 11) (Go.Operand.tmp 29), type := 0, pos := "law.go:192", after := #[{ on := 4, ground := Go.Ground.data }, { on := 1, ground := Go.Ground.data }, { on := 3, ground := Go.Ground.chain }, { on := 0, ground := Go.Ground.phase }, { on := 1, ground := Go.Ground.phase }, { on := 2, ground := Go.Ground.textOnly Go.Departure.lateStores }, { on := 3, ground := Go.Ground.textOnly Go.Departure.lateStoresUnsure }, { on := 4, ground := Go.Ground.phase }, { on := 5, ground := Go.Ground.phase }], guard := none }) rfl (fun K hK => ?_) AllReadyH.nil
        go_simp
        refine hK.out _ _ s6 (fun hHeld => ?_)
        clear hK K
        try simp only [Act.put, List.setIfInBounds_toArray, List.set_cons_zero, List.set_cons_succ]
        refine wpAnyH_ready (rs := [7]) (by kernel_rfl) (by simp) ?_
        refine AllReadyH.cons (o := { dst := none, op := Go.Op.store 25 (Go.Operand.tmp 12) (Go.Operand.tmp 31), type := 0, pos := "law.go:192", after := #[{ on := 5, ground := Go.Ground.data }, { on := 3, ground := Go.Ground.data }, { on := 6, ground := Go.Ground.chain }, { on := 0, ground := Go.Ground.phase }, { on := 1, ground := Go.Ground.phase }, { on := 2, ground := Go.Ground.phase }, { on := 3, ground := Go.Ground.phase }, { on := 4, ground := Go.Ground.phase }, { on := 5, ground := Go.Ground.phase }, { on := 6, ground := Go.Ground.phase }], guard := none }) rfl (fun K hK => ?_) AllReadyH.nil
        go_simp
        refine hK.out _ _ s7 (fun hHeld => ?_)
        clear hK K
        try simp only [Act.put, List.setIfInBounds_toArray, List.set_cons_zero, List.set_cons_succ]
        refine wpAnyH_done (by kernel_rfl) ?_ _
        go_wp2_with fail
        go_meet
        case rel => exact ⟨b4, b5, q1, c1, q2, c2, rfl, rfl, hO.out⟩
      refine AllReadyH.cons (o := { dst := some 11, op := Go.Op.alloc 25, type := 0, pos := "law.go:192", after := #[], guard := none }) rfl (fun K hK => ?_) ?_
      · go_simp
        have HSn := HS.out.alloc4
        have H1n := H1.out.alloc4 (.cells #[.int .i64 0, .slice none 0 0] 25)
        refine hK.out _ _ (MB.out _ HSn.base) (fun hHeld => ?_)
        clear hK K
        try simp only [Act.put, List.setIfInBounds_toArray, List.set_cons_zero, List.set_cons_succ]
        generalize V1.alloc (.cells #[.int .i64 0, .slice none 0 0] 25) = V7 at *
        generalize V1.heap.size = b4 at *
        have HS := Lib.hid HSn
        have H1 := Lib.hid H1n
        clear HSn H1n
        refine wpAnyH_ready (rs := [3, 5]) (by kernel_rfl) (by simp) ?_
        refine AllReadyH.cons (o := { dst := some 31, op := Go.Op.call { callee := Go.Callee.value (Go.Operand.func 43), args := #[Go.Operand.tmp 30], argTypes := #[25] }, type := 25, pos := "law.go:192", after := #[{ on := 2, ground := Go.Ground.data }, { on := 1, ground := Go.Ground.chain }], guard := none }) rfl (fun K hK => ?_) ?_
        · go_simp
          go_at_call 43
          refine (HCb.out _ (HKW.out.i2.below HS.out.base)).mono ?_
          rintro e V8 ⟨q2, c2, rfl, hOn, hbn⟩
          have HSn := HS.out.call hbn
          have H2 := Lib.hid (CO.made HS.out hOn)
          have H1 := Lib.hid (H1.out.call hbn)
          have HS := Lib.hid HSn
          have sn := MB.out _ HSn.base
          clear hOn hbn HSn
          go_wp2_with fail
          refine hK.out _ _ sn (fun hHeld => ?_)
          clear hK K sn
          try simp only [Act.put, List.setIfInBounds_toArray, List.set_cons_zero, List.set_cons_succ]
          refine wpAnyH_ready (rs := [5]) (by kernel_rfl) (by simp) ?_
          refine AllReadyH.cons (o := { dst := some 12, op := Go.Op.alloc 25, type := 0, pos := "law.go:192", after := #[], guard := none }) rfl (fun K hK => ?_) AllReadyH.nil
          go_simp
          have HSn := HS.out.alloc5
          have H1n := H1.out.alloc5 (.cells #[.int .i64 0, .slice none 0 0] 25)
          have H2n := H2.out.alloc5 (.cells #[.int .i64 0, .slice none 0 0] 25)
          refine hK.out _ _ (MB.out _ HSn.base) (fun hHeld => ?_)
          clear hK K
          try simp only [Act.put, List.setIfInBounds_toArray, List.set_cons_zero, List.set_cons_succ]
          generalize V8.alloc (.cells #[.int .i64 0, .slice none 0 0] 25) = V9 at *
          generalize V8.heap.size = b5 at *
          have HS := Lib.hid HSn
          have H1 := Lib.hid H1n
          have H2 := Lib.hid H2n
          clear HSn H1n H2n
          have e4 := HS.out.h4 _ rfl
          have e5 := HS.out.h5 _ rfl
          have hne := HS.out.ne _ _ rfl rfl
          have hO := Lib.hid (oo_of HKW.out HS.out H1.out H2.out)
          obtain ⟨g1, g2⟩ := box2_cells e4.1
          obtain ⟨g3, g4⟩ := free2 e4.1
          have e6 : (put2 V9 b4 (.int .i64 n) (.slice q1 a.len c1)).heap[b5]? = _ := (put2_far (Ne.symm hne)).trans e5.1
          have s6 := MB.out _ (below_put HS.out.base e4.2 (.int .i64 n) (.slice q1 a.len c1))
          have s7 := MB.out _ (below_put (below_put HS.out.base e4.2 (.int .i64 n) (.slice q1 a.len c1)) e5.2 (.int .i64 n') (.slice q2 b.len c2))
          unfold put2 at s6 s7
          unfold put2 at e6 hO
          obtain ⟨g5, g6⟩ := box2_cells e6
          obtain ⟨g7, g8⟩ := free2 e6
          clear e4 e5 e6
          refine wpAnyH_ready (rs := [6]) (by kernel_rfl) (by simp) ?_
          refine AllReadyH.cons (o := { dst := none, op := Go.Op.store 25 (Go.Operand.tmp 11) (Go.Operand.tmp 29), type := 0, pos := "law.go:192", after := #[{ on := 4, ground := Go.Ground.data }, { on := 1, ground := Go.Ground.data }, { on := 3, ground := Go.Ground.chain }, { on := 0, ground := Go.Ground.phase }, { on := 1, ground := Go.Ground.phase }, { on := 2, ground := Go.Ground.textOnly Go.Departure.lateStores }, { on := 3, ground := Go.Ground.textOnly Go.Departure.lateStoresUnsure }, { on := 4, ground := Go.Ground.phase }, { on := 5, ground := Go.Ground.phase }], guard := none }) rfl (fun K hK => ?_) AllReadyH.nil
          go_simp
          refine hK.out _ _ s6 (fun hHeld => ?_)
          clear hK K
          try simp only [Act.put, List.setIfInBounds_toArray, List.set_cons_zero, List.set_cons_succ]
          refine wpAnyH_ready (rs := [7]) (by kernel_rfl) (by simp) ?_
          refine AllReadyH.cons (o := { dst := none, op := Go.Op.store 25 (Go.Operand.tmp 12) (Go.Operand.tmp 31), type := 0, pos := "law.go:192", after := #[{ on := 5, ground := Go.Ground.data }, { on := 3, ground := Go.Ground.data }, { on := 6, ground := Go.Ground.chain }, { on := 0, ground := Go.Ground.phase }, { on := 1, ground := Go.Ground.phase }, { on := 2, ground := Go.Ground.phase }, { on := 3, ground := Go.Ground.phase }, { on := 4, ground := Go.Ground.phase }, { on := 5, ground := Go.Ground.phase }, { on := 6, ground := Go.Ground.phase }], guard := none }) rfl (fun K hK => ?_) AllReadyH.nil
          go_simp
          refine hK.out _ _ s7 (fun hHeld => ?_)
          clear hK K
          try simp only [Act.put, List.setIfInBounds_toArray, List.set_cons_zero, List.set_cons_succ]
          refine wpAnyH_done (by kernel_rfl) ?_ _
          go_wp2_with fail
          go_meet
          case rel => exact ⟨b4, b5, q1, c1, q2, c2, rfl, rfl, hO.out⟩
        refine AllReadyH.cons (o := { dst := some 12, op := Go.Op.alloc 25, type := 0, pos := "law.go:192", after := #[], guard := none }) rfl (fun K hK => ?_) AllReadyH.nil
        go_simp
        have HSn := HS.out.alloc5
        have H1n := H1.out.alloc5 (.cells #[.int .i64 0, .slice none 0 0] 25)
        refine hK.out _ _ (MB.out _ HSn.base) (fun hHeld => ?_)
        clear hK K
        try simp only [Act.put, List.setIfInBounds_toArray, List.set_cons_zero, List.set_cons_succ]
        generalize V7.alloc (.cells #[.int .i64 0, .slice none 0 0] 25) = V10 at *
        generalize V7.heap.size = b5 at *
        have HS := Lib.hid HSn
        have H1 := Lib.hid H1n
        clear HSn H1n
        refine wpAnyH_ready (rs := [3]) (by kernel_rfl) (by simp) ?_
        refine AllReadyH.cons (o := { dst := some 31, op := Go.Op.call { callee := Go.Callee.value (Go.Operand.func 43), args := #[Go.Operand.tmp 30], argTypes := #[25] }, type := 25, pos := "law.go:192", after := #[{ on := 2, ground := Go.Ground.data }, { on := 1, ground := Go.Ground.chain }], guard := none }) rfl (fun K hK => ?_) AllReadyH.nil
        go_simp
        go_at_call 43
        refine (HCb.out _ (HKW.out.i2.below HS.out.base)).mono ?_
        rintro e V11 ⟨q2, c2, rfl, hOn, hbn⟩
        have HSn := HS.out.call hbn
        have H2 := Lib.hid (CO.made HS.out hOn)
        have H1 := Lib.hid (H1.out.call hbn)
        have HS := Lib.hid HSn
        have sn := MB.out _ HSn.base
        clear hOn hbn HSn
        go_wp2_with fail
        refine hK.out _ _ sn (fun hHeld => ?_)
        clear hK K sn
        try simp only [Act.put, List.setIfInBounds_toArray, List.set_cons_zero, List.set_cons_succ]
        have e4 := HS.out.h4 _ rfl
        have e5 := HS.out.h5 _ rfl
        have hne := HS.out.ne _ _ rfl rfl
        have hO := Lib.hid (oo_of HKW.out HS.out H1.out H2.out)
        obtain ⟨g1, g2⟩ := box2_cells e4.1
        obtain ⟨g3, g4⟩ := free2 e4.1
        have e6 : (put2 V11 b4 (.int .i64 n) (.slice q1 a.len c1)).heap[b5]? = _ := (put2_far (Ne.symm hne)).trans e5.1
        have s6 := MB.out _ (below_put HS.out.base e4.2 (.int .i64 n) (.slice q1 a.len c1))
        have s7 := MB.out _ (below_put (below_put HS.out.base e4.2 (.int .i64 n) (.slice q1 a.len c1)) e5.2 (.int .i64 n') (.slice q2 b.len c2))
        unfold put2 at s6 s7
        unfold put2 at e6 hO
        obtain ⟨g5, g6⟩ := box2_cells e6
        obtain ⟨g7, g8⟩ := free2 e6
        clear e4 e5 e6
        refine wpAnyH_ready (rs := [6]) (by kernel_rfl) (by simp) ?_
        refine AllReadyH.cons (o := { dst := none, op := Go.Op.store 25 (Go.Operand.tmp 11) (Go.Operand.tmp 29), type := 0, pos := "law.go:192", after := #[{ on := 4, ground := Go.Ground.data }, { on := 1, ground := Go.Ground.data }, { on := 3, ground := Go.Ground.chain }, { on := 0, ground := Go.Ground.phase }, { on := 1, ground := Go.Ground.phase }, { on := 2, ground := Go.Ground.textOnly Go.Departure.lateStores }, { on := 3, ground := Go.Ground.textOnly Go.Departure.lateStoresUnsure }, { on := 4, ground := Go.Ground.phase }, { on := 5, ground := Go.Ground.phase }], guard := none }) rfl (fun K hK => ?_) AllReadyH.nil
        go_simp
        refine hK.out _ _ s6 (fun hHeld => ?_)
        clear hK K
        try simp only [Act.put, List.setIfInBounds_toArray, List.set_cons_zero, List.set_cons_succ]
        refine wpAnyH_ready (rs := [7]) (by kernel_rfl) (by simp) ?_
        refine AllReadyH.cons (o := { dst := none, op := Go.Op.store 25 (Go.Operand.tmp 12) (Go.Operand.tmp 31), type := 0, pos := "law.go:192", after := #[{ on := 5, ground := Go.Ground.data }, { on := 3, ground := Go.Ground.data }, { on := 6, ground := Go.Ground.chain }, { on := 0, ground := Go.Ground.phase }, { on := 1, ground := Go.Ground.phase }, { on := 2, ground := Go.Ground.phase }, { on := 3, ground := Go.Ground.phase }, { on := 4, ground := Go.Ground.phase }, { on := 5, ground := Go.Ground.phase }, { on := 6, ground := Go.Ground.phase }], guard := none }) rfl (fun K hK => ?_) AllReadyH.nil
        go_simp
        refine hK.out _ _ s7 (fun hHeld => ?_)
        clear hK K
        try simp only [Act.put, List.setIfInBounds_toArray, List.set_cons_zero, List.set_cons_succ]
        refine wpAnyH_done (by kernel_rfl) ?_ _
        go_wp2_with fail
        go_meet
        case rel => exact ⟨b4, b5, q1, c1, q2, c2, rfl, rfl, hO.out⟩
      refine AllReadyH.cons (o := { dst := some 12, op := Go.Op.alloc 25, type := 0, pos := "law.go:192", after := #[], guard := none }) rfl (fun K hK => ?_) AllReadyH.nil
      go_simp
      have HSn := HS.out.alloc5
      have H1n := H1.out.alloc5 (.cells #[.int .i64 0, .slice none 0 0] 25)
      refine hK.out _ _ (MB.out _ HSn.base) (fun hHeld => ?_)
      clear hK K
      try simp only [Act.put, List.setIfInBounds_toArray, List.set_cons_zero, List.set_cons_succ]
      generalize V1.alloc (.cells #[.int .i64 0, .slice none 0 0] 25) = V12 at *
      generalize V1.heap.size = b5 at *
      have HS := Lib.hid HSn
      have H1 := Lib.hid H1n
      clear HSn H1n
      refine wpAnyH_ready (rs := [3, 4]) (by kernel_rfl) (by simp) ?_
      refine AllReadyH.cons (o := { dst := some 31, op := Go.Op.call { callee := Go.Callee.value (Go.Operand.func 43), args := #[Go.Operand.tmp 30], argTypes := #[25] }, type := 25, pos := "law.go:192", after := #[{ on := 2, ground := Go.Ground.data }, { on := 1, ground := Go.Ground.chain }], guard := none }) rfl (fun K hK => ?_) ?_
      · go_simp
        go_at_call 43
        refine (HCb.out _ (HKW.out.i2.below HS.out.base)).mono ?_
        rintro e V13 ⟨q2, c2, rfl, hOn, hbn⟩
        have HSn := HS.out.call hbn
        have H2 := Lib.hid (CO.made HS.out hOn)
        have H1 := Lib.hid (H1.out.call hbn)
        have HS := Lib.hid HSn
        have sn := MB.out _ HSn.base
        clear hOn hbn HSn
        go_wp2_with fail
        refine hK.out _ _ sn (fun hHeld => ?_)
        clear hK K sn
        try simp only [Act.put, List.setIfInBounds_toArray, List.set_cons_zero, List.set_cons_succ]
        refine wpAnyH_ready (rs := [4]) (by kernel_rfl) (by simp) ?_
        refine AllReadyH.cons (o := { dst := some 11, op := Go.Op.alloc 25, type := 0, pos := "law.go:192", after := #[], guard := none }) rfl (fun K hK => ?_) AllReadyH.nil
        go_simp
        have HSn := HS.out.alloc4
        have H1n := H1.out.alloc4 (.cells #[.int .i64 0, .slice none 0 0] 25)
        have H2n := H2.out.alloc4 (.cells #[.int .i64 0, .slice none 0 0] 25)
        refine hK.out _ _ (MB.out _ HSn.base) (fun hHeld => ?_)
        clear hK K
        try simp only [Act.put, List.setIfInBounds_toArray, List.set_cons_zero, List.set_cons_succ]
        generalize V13.alloc (.cells #[.int .i64 0, .slice none 0 0] 25) = V14 at *
        generalize V13.heap.size = b4 at *
        have HS := Lib.hid HSn
        have H1 := Lib.hid H1n
        have H2 := Lib.hid H2n
        clear HSn H1n H2n
        have e4 := HS.out.h4 _ rfl
        have e5 := HS.out.h5 _ rfl
        have hne := HS.out.ne _ _ rfl rfl
        have hO := Lib.hid (oo_of HKW.out HS.out H1.out H2.out)
        obtain ⟨g1, g2⟩ := box2_cells e4.1
        obtain ⟨g3, g4⟩ := free2 e4.1
        have e6 : (put2 V14 b4 (.int .i64 n) (.slice q1 a.len c1)).heap[b5]? = _ := (put2_far (Ne.symm hne)).trans e5.1
        have s6 := MB.out _ (below_put HS.out.base e4.2 (.int .i64 n) (.slice q1 a.len c1))
        have s7 := MB.out _ (below_put (below_put HS.out.base e4.2 (.int .i64 n) (.slice q1 a.len c1)) e5.2 (.int .i64 n') (.slice q2 b.len c2))
        unfold put2 at s6 s7
        unfold put2 at e6 hO
        obtain ⟨g5, g6⟩ := box2_cells e6
        obtain ⟨g7, g8⟩ := free2 e6
        clear e4 e5 e6
        refine wpAnyH_ready (rs := [6]) (by kernel_rfl) (by simp) ?_
        refine AllReadyH.cons (o := { dst := none, op := Go.Op.store 25 (Go.Operand.tmp 11) (Go.Operand.tmp 29), type := 0, pos := "law.go:192", after := #[{ on := 4, ground := Go.Ground.data }, { on := 1, ground := Go.Ground.data }, { on := 3, ground := Go.Ground.chain }, { on := 0, ground := Go.Ground.phase }, { on := 1, ground := Go.Ground.phase }, { on := 2, ground := Go.Ground.textOnly Go.Departure.lateStores }, { on := 3, ground := Go.Ground.textOnly Go.Departure.lateStoresUnsure }, { on := 4, ground := Go.Ground.phase }, { on := 5, ground := Go.Ground.phase }], guard := none }) rfl (fun K hK => ?_) AllReadyH.nil
        go_simp
        refine hK.out _ _ s6 (fun hHeld => ?_)
        clear hK K
        try simp only [Act.put, List.setIfInBounds_toArray, List.set_cons_zero, List.set_cons_succ]
        refine wpAnyH_ready (rs := [7]) (by kernel_rfl) (by simp) ?_
        refine AllReadyH.cons (o := { dst := none, op := Go.Op.store 25 (Go.Operand.tmp 12) (Go.Operand.tmp 31), type := 0, pos := "law.go:192", after := #[{ on := 5, ground := Go.Ground.data }, { on := 3, ground := Go.Ground.data }, { on := 6, ground := Go.Ground.chain }, { on := 0, ground := Go.Ground.phase }, { on := 1, ground := Go.Ground.phase }, { on := 2, ground := Go.Ground.phase }, { on := 3, ground := Go.Ground.phase }, { on := 4, ground := Go.Ground.phase }, { on := 5, ground := Go.Ground.phase }, { on := 6, ground := Go.Ground.phase }], guard := none }) rfl (fun K hK => ?_) AllReadyH.nil
        go_simp
        refine hK.out _ _ s7 (fun hHeld => ?_)
        clear hK K
        try simp only [Act.put, List.setIfInBounds_toArray, List.set_cons_zero, List.set_cons_succ]
        refine wpAnyH_done (by kernel_rfl) ?_ _
        go_wp2_with fail
        go_meet
        case rel => exact ⟨b4, b5, q1, c1, q2, c2, rfl, rfl, hO.out⟩
      refine AllReadyH.cons (o := { dst := some 11, op := Go.Op.alloc 25, type := 0, pos := "law.go:192", after := #[], guard := none }) rfl (fun K hK => ?_) AllReadyH.nil
      go_simp
      have HSn := HS.out.alloc4
      have H1n := H1.out.alloc4 (.cells #[.int .i64 0, .slice none 0 0] 25)
      refine hK.out _ _ (MB.out _ HSn.base) (fun hHeld => ?_)
      clear hK K
      try simp only [Act.put, List.setIfInBounds_toArray, List.set_cons_zero, List.set_cons_succ]
      generalize V12.alloc (.cells #[.int .i64 0, .slice none 0 0] 25) = V15 at *
      generalize V12.heap.size = b4 at *
      have HS := Lib.hid HSn
      have H1 := Lib.hid H1n
      clear HSn H1n
      refine wpAnyH_ready (rs := [3]) (by kernel_rfl) (by simp) ?_
      refine AllReadyH.cons (o := { dst := some 31, op := Go.Op.call { callee := Go.Callee.value (Go.Operand.func 43), args := #[Go.Operand.tmp 30], argTypes := #[25] }, type := 25, pos := "law.go:192", after := #[{ on := 2, ground := Go.Ground.data }, { on := 1, ground := Go.Ground.chain }], guard := none }) rfl (fun K hK => ?_) AllReadyH.nil
      go_simp
      go_at_call 43
      refine (HCb.out _ (HKW.out.i2.below HS.out.base)).mono ?_
      rintro e V16 ⟨q2, c2, rfl, hOn, hbn⟩
      have HSn := HS.out.call hbn
      have H2 := Lib.hid (CO.made HS.out hOn)
      have H1 := Lib.hid (H1.out.call hbn)
      have HS := Lib.hid HSn
      have sn := MB.out _ HSn.base
      clear hOn hbn HSn
      go_wp2_with fail
      refine hK.out _ _ sn (fun hHeld => ?_)
      clear hK K sn
      try simp only [Act.put, List.setIfInBounds_toArray, List.set_cons_zero, List.set_cons_succ]
      have e4 := HS.out.h4 _ rfl
      have e5 := HS.out.h5 _ rfl
      have hne := HS.out.ne _ _ rfl rfl
      have hO := Lib.hid (oo_of HKW.out HS.out H1.out H2.out)
      obtain ⟨g1, g2⟩ := box2_cells e4.1
      obtain ⟨g3, g4⟩ := free2 e4.1
      have e6 : (put2 V16 b4 (.int .i64 n) (.slice q1 a.len c1)).heap[b5]? = _ := (put2_far (Ne.symm hne)).trans e5.1
      have s6 := MB.out _ (below_put HS.out.base e4.2 (.int .i64 n) (.slice q1 a.len c1))
      have s7 := MB.out _ (below_put (below_put HS.out.base e4.2 (.int .i64 n) (.slice q1 a.len c1)) e5.2 (.int .i64 n') (.slice q2 b.len c2))
      unfold put2 at s6 s7
      unfold put2 at e6 hO
      obtain ⟨g5, g6⟩ := box2_cells e6
      obtain ⟨g7, g8⟩ := free2 e6
      clear e4 e5 e6
      refine wpAnyH_ready (rs := [6]) (by kernel_rfl) (by simp) ?_
      refine AllReadyH.cons (o := { dst := none, op := Go.Op.store 25 (Go.Operand.tmp 11) (Go.Operand.tmp 29), type := 0, pos := "law.go:192", after := #[{ on := 4, ground := Go.Ground.data }, { on := 1, ground := Go.Ground.data }, { on := 3, ground := Go.Ground.chain }, { on := 0, ground := Go.Ground.phase }, { on := 1, ground := Go.Ground.phase }, { on := 2, ground := Go.Ground.textOnly Go.Departure.lateStores }, { on := 3, ground := Go.Ground.textOnly Go.Departure.lateStoresUnsure }, { on := 4, ground := Go.Ground.phase }, { on := 5, ground := Go.Ground.phase }], guard := none }) rfl (fun K hK => ?_) AllReadyH.nil
      go_simp
      refine hK.out _ _ s6 (fun hHeld => ?_)
      clear hK K
      try simp only [Act.put, List.setIfInBounds_toArray, List.set_cons_zero, List.set_cons_succ]
      refine wpAnyH_ready (rs := [7]) (by kernel_rfl) (by simp) ?_
      refine AllReadyH.cons (o := { dst := none, op := Go.Op.store 25 (Go.Operand.tmp 12) (Go.Operand.tmp 31), type := 0, pos := "law.go:192", after := #[{ on := 5, ground := Go.Ground.data }, { on := 3, ground := Go.Ground.data }, { on := 6, ground := Go.Ground.chain }, { on := 0, ground := Go.Ground.phase }, { on := 1, ground := Go.Ground.phase }, { on := 2, ground := Go.Ground.phase }, { on := 3, ground := Go.Ground.phase }, { on := 4, ground := Go.Ground.phase }, { on := 5, ground := Go.Ground.phase }, { on := 6, ground := Go.Ground.phase }], guard := none }) rfl (fun K hK => ?_) AllReadyH.nil
      go_simp
      refine hK.out _ _ s7 (fun hHeld => ?_)
      clear hK K
      try simp only [Act.put, List.setIfInBounds_toArray, List.set_cons_zero, List.set_cons_succ]
      refine wpAnyH_done (by kernel_rfl) ?_ _
      go_wp2_with fail
      go_meet
      case rel => exact ⟨b4, b5, q1, c1, q2, c2, rfl, rfl, hO.out⟩
    refine AllReadyH.cons (o := { dst := some 11, op := Go.Op.alloc 25, type := 0, pos := "law.go:192", after := #[], guard := none }) rfl (fun K hK => ?_) ?_
    · go_simp
      have HSn := HS.out.alloc4
      refine hK.out _ _ (MB.out _ HSn.base) (fun hHeld => ?_)
      clear hK K
      try simp only [Act.put, List.setIfInBounds_toArray, List.set_cons_zero, List.set_cons_succ]
      generalize V0.alloc (.cells #[.int .i64 0, .slice none 0 0] 25) = V17 at *
      generalize V0.heap.size = b4 at *
      have HS := Lib.hid HSn
      clear HSn
      refine wpAnyH_ready (rs := [1, 5]) (by kernel_rfl) (by simp) ?_
      refine AllReadyH.cons (o := { dst := some 29, op := Go.Op.call { callee := Go.Callee.value (Go.Operand.func 43), args := #[Go.Operand.tmp 28], argTypes := #[25] }, type := 25, pos := "law.go:192", after := #[{ on := 0, ground := Go.Ground.data }], guard := none }) rfl (fun K hK => ?_) ?_
      · go_simp
        go_at_call 43
        refine (HCa.out _ (HKW.out.i1.below HS.out.base)).mono ?_
        rintro e V18 ⟨q1, c1, rfl, hOn, hbn⟩
        have HSn := HS.out.call hbn
        have H1 := Lib.hid (CO.made HS.out hOn)
        have HS := Lib.hid HSn
        have sn := MB.out _ HSn.base
        clear hOn hbn HSn
        go_wp2_with fail
        refine hK.out _ _ sn (fun hHeld => ?_)
        clear hK K sn
        try simp only [Act.put, List.setIfInBounds_toArray, List.set_cons_zero, List.set_cons_succ]
        refine wpAnyH_ready (rs := [3, 5]) (by kernel_rfl) (by simp) ?_
        refine AllReadyH.cons (o := { dst := some 31, op := Go.Op.call { callee := Go.Callee.value (Go.Operand.func 43), args := #[Go.Operand.tmp 30], argTypes := #[25] }, type := 25, pos := "law.go:192", after := #[{ on := 2, ground := Go.Ground.data }, { on := 1, ground := Go.Ground.chain }], guard := none }) rfl (fun K hK => ?_) ?_
        · go_simp
          go_at_call 43
          refine (HCb.out _ (HKW.out.i2.below HS.out.base)).mono ?_
          rintro e V19 ⟨q2, c2, rfl, hOn, hbn⟩
          have HSn := HS.out.call hbn
          have H2 := Lib.hid (CO.made HS.out hOn)
          have H1 := Lib.hid (H1.out.call hbn)
          have HS := Lib.hid HSn
          have sn := MB.out _ HSn.base
          clear hOn hbn HSn
          go_wp2_with fail
          refine hK.out _ _ sn (fun hHeld => ?_)
          clear hK K sn
          try simp only [Act.put, List.setIfInBounds_toArray, List.set_cons_zero, List.set_cons_succ]
          refine wpAnyH_ready (rs := [5]) (by kernel_rfl) (by simp) ?_
          refine AllReadyH.cons (o := { dst := some 12, op := Go.Op.alloc 25, type := 0, pos := "law.go:192", after := #[], guard := none }) rfl (fun K hK => ?_) AllReadyH.nil
          go_simp
          have HSn := HS.out.alloc5
          have H1n := H1.out.alloc5 (.cells #[.int .i64 0, .slice none 0 0] 25)
          have H2n := H2.out.alloc5 (.cells #[.int .i64 0, .slice none 0 0] 25)
          refine hK.out _ _ (MB.out _ HSn.base) (fun hHeld => ?_)
          clear hK K
          try simp only [Act.put, List.setIfInBounds_toArray, List.set_cons_zero, List.set_cons_succ]
          generalize V19.alloc (.cells #[.int .i64 0, .slice none 0 0] 25) = V20 at *
          generalize V19.heap.size = b5 at *
          have HS := Lib.hid HSn
          have H1 := Lib.hid H1n
          have H2 := Lib.hid H2n
          clear HSn H1n H2n
          have e4 := HS.out.h4 _ rfl
          have e5 := HS.out.h5 _ rfl
          have hne := HS.out.ne _ _ rfl rfl
          have hO := Lib.hid (oo_of HKW.out HS.out H1.out H2.out)
          obtain ⟨g1, g2⟩ := box2_cells e4.1
          obtain ⟨g3, g4⟩ := free2 e4.1
          have e6 : (put2 V20 b4 (.int .i64 n) (.slice q1 a.len c1)).heap[b5]? = _ := (put2_far (Ne.symm hne)).trans e5.1
          have s6 := MB.out _ (below_put HS.out.base e4.2 (.int .i64 n) (.slice q1 a.len c1))
          have s7 := MB.out _ (below_put (below_put HS.out.base e4.2 (.int .i64 n) (.slice q1 a.len c1)) e5.2 (.int .i64 n') (.slice q2 b.len c2))
          unfold put2 at s6 s7
          unfold put2 at e6 hO
          obtain ⟨g5, g6⟩ := box2_cells e6
          obtain ⟨g7, g8⟩ := free2 e6
          clear e4 e5 e6
          refine wpAnyH_ready (rs := [6]) (by kernel_rfl) (by simp) ?_
          refine AllReadyH.cons (o := { dst := none, op := Go.Op.store 25 (Go.Operand.tmp 11) (Go.Operand.tmp 29), type := 0, pos := "law.go:192", after := #[{ on := 4, ground := Go.Ground.data }, { on := 1, ground := Go.Ground.data }, { on := 3, ground := Go.Ground.chain }, { on := 0, ground := Go.Ground.phase }, { on := 1, ground := Go.Ground.phase }, { on := 2, ground := Go.Ground.textOnly Go.Departure.lateStores }, { on := 3, ground := Go.Ground.textOnly Go.Departure.lateStoresUnsure }, { on := 4, ground := Go.Ground.phase }, { on := 5, ground := Go.Ground.phase }], guard := none }) rfl (fun K hK => ?_) AllReadyH.nil
          go_simp
          refine hK.out _ _ s6 (fun hHeld => ?_)
          clear hK K
          try simp only [Act.put, List.setIfInBounds_toArray, List.set_cons_zero, List.set_cons_succ]
          refine wpAnyH_ready (rs := [7]) (by kernel_rfl) (by simp) ?_
          refine AllReadyH.cons (o := { dst := none, op := Go.Op.store 25 (Go.Operand.tmp 12) (Go.Operand.tmp 31), type := 0, pos := "law.go:192", after := #[{ on := 5, ground := Go.Ground.data }, { on := 3, ground := Go.Ground.data }, { on := 6, ground := Go.Ground.chain }, { on := 0, ground := Go.Ground.phase }, { on := 1, ground := Go.Ground.phase }, { on := 2, ground := Go.Ground.phase }, { on := 3, ground := Go.Ground.phase }, { on := 4, ground := Go.Ground.phase }, { on := 5, ground := Go.Ground.phase }, { on := 6, ground := Go.Ground.phase }], guard := none }) rfl (fun K hK => ?_) AllReadyH.nil
          go_simp
          refine hK.out _ _ s7 (fun hHeld => ?_)
          clear hK K
          try simp only [Act.put, List.setIfInBounds_toArray, List.set_cons_zero, List.set_cons_succ]
          refine wpAnyH_done (by kernel_rfl) ?_ _
          go_wp2_with fail
          go_meet
          case rel => exact ⟨b4, b5, q1, c1, q2, c2, rfl, rfl, hO.out⟩
        refine AllReadyH.cons (o := { dst := some 12, op := Go.Op.alloc 25, type := 0, pos := "law.go:192", after := #[], guard := none }) rfl (fun K hK => ?_) AllReadyH.nil
        go_simp
        have HSn := HS.out.alloc5
        have H1n := H1.out.alloc5 (.cells #[.int .i64 0, .slice none 0 0] 25)
        refine hK.out _ _ (MB.out _ HSn.base) (fun hHeld => ?_)
        clear hK K
        try simp only [Act.put, List.setIfInBounds_toArray, List.set_cons_zero, List.set_cons_succ]
        generalize V18.alloc (.cells #[.int .i64 0, .slice none 0 0] 25) = V21 at *
        generalize V18.heap.size = b5 at *
        have HS := Lib.hid HSn
        have H1 := Lib.hid H1n
        clear HSn H1n
        refine wpAnyH_ready (rs := [3]) (by kernel_rfl) (by simp) ?_
        refine AllReadyH.cons (o := { dst := some 31, op := Go.Op.call { callee := Go.Callee.value (Go.Operand.func 43), args := #[Go.Operand.tmp 30], argTypes := #[25] }, type := 25, pos := "law.go:192", after := #[{ on := 2, ground := Go.Ground.data }, { on := 1, ground := Go.Ground.chain }], guard := none }) rfl (fun K hK => ?_) AllReadyH.nil
        go_simp
        go_at_call 43
        refine (HCb.out _ (HKW.out.i2.below HS.out.base)).mono ?_
        rintro e V22 ⟨q2, c2, rfl, hOn, hbn⟩
        have HSn := HS.out.call hbn
        have H2 := Lib.hid (CO.made HS.out hOn)
        have H1 := Lib.hid (H1.out.call hbn)
        have HS := Lib.hid HSn
        have sn := MB.out _ HSn.base
        clear hOn hbn HSn
        go_wp2_with fail
        refine hK.out _ _ sn (fun hHeld => ?_)
        clear hK K sn
        try simp only [Act.put, List.setIfInBounds_toArray, List.set_cons_zero, List.set_cons_succ]
        have e4 := HS.out.h4 _ rfl
        have e5 := HS.out.h5 _ rfl
        have hne := HS.out.ne _ _ rfl rfl
        have hO := Lib.hid (oo_of HKW.out HS.out H1.out H2.out)
        obtain ⟨g1, g2⟩ := box2_cells e4.1
        obtain ⟨g3, g4⟩ := free2 e4.1
        have e6 : (put2 V22 b4 (.int .i64 n) (.slice q1 a.len c1)).heap[b5]? = _ := (put2_far (Ne.symm hne)).trans e5.1
        have s6 := MB.out _ (below_put HS.out.base e4.2 (.int .i64 n) (.slice q1 a.len c1))
        have s7 := MB.out _ (below_put (below_put HS.out.base e4.2 (.int .i64 n) (.slice q1 a.len c1)) e5.2 (.int .i64 n') (.slice q2 b.len c2))
        unfold put2 at s6 s7
        unfold put2 at e6 hO
        obtain ⟨g5, g6⟩ := box2_cells e6
        obtain ⟨g7, g8⟩ := free2 e6
        clear e4 e5 e6
        refine wpAnyH_ready (rs := [6]) (by kernel_rfl) (by simp) ?_
        refine AllReadyH.cons (o := { dst := none, op := Go.Op.store 25 (Go.Operand.tmp 11) (Go.Operand.tmp 29), type := 0, pos := "law.go:192", after := #[{ on := 4, ground := Go.Ground.data }, { on := 1, ground := Go.Ground.data }, { on := 3, ground := Go.Ground.chain }, { on := 0, ground := Go.Ground.phase }, { on := 1, ground := Go.Ground.phase }, { on := 2, ground := Go.Ground.textOnly Go.Departure.lateStores }, { on := 3, ground := Go.Ground.textOnly Go.Departure.lateStoresUnsure }, { on := 4, ground := Go.Ground.phase }, { on := 5, ground := Go.Ground.phase }], guard := none }) rfl (fun K hK => ?_) AllReadyH.nil
        go_simp
        refine hK.out _ _ s6 (fun hHeld => ?_)
        clear hK K
        try simp only [Act.put, List.setIfInBounds_toArray, List.set_cons_zero, List.set_cons_succ]
        refine wpAnyH_ready (rs := [7]) (by kernel_rfl) (by simp) ?_
        refine AllReadyH.cons (o := { dst := none, op := Go.Op.store 25 (Go.Operand.tmp 12) (Go.Operand.tmp 31), type := 0, pos := "law.go:192", after := #[{ on := 5, ground := Go.Ground.data }, { on := 3, ground := Go.Ground.data }, { on := 6, ground := Go.Ground.chain }, { on := 0, ground := Go.Ground.phase }, { on := 1, ground := Go.Ground.phase }, { on := 2, ground := Go.Ground.phase }, { on := 3, ground := Go.Ground.phase }, { on := 4, ground := Go.Ground.phase }, { on := 5, ground := Go.Ground.phase }, { on := 6, ground := Go.Ground.phase }], guard := none }) rfl (fun K hK => ?_) AllReadyH.nil
        go_simp
        refine hK.out _ _ s7 (fun hHeld => ?_)
        clear hK K
        try simp only [Act.put, List.setIfInBounds_toArray, List.set_cons_zero, List.set_cons_succ]
        refine wpAnyH_done (by kernel_rfl) ?_ _
        go_wp2_with fail
        go_meet
        case rel => exact ⟨b4, b5, q1, c1, q2, c2, rfl, rfl, hO.out⟩
      refine AllReadyH.cons (o := { dst := some 12, op := Go.Op.alloc 25, type := 0, pos := "law.go:192", after := #[], guard := none }) rfl (fun K hK => ?_) AllReadyH.nil
      go_simp
      have HSn := HS.out.alloc5
      refine hK.out _ _ (MB.out _ HSn.base) (fun hHeld => ?_)
      clear hK K
      try simp only [Act.put, List.setIfInBounds_toArray, List.set_cons_zero, List.set_cons_succ]
      generalize V17.alloc (.cells #[.int .i64 0, .slice none 0 0] 25) = V23 at *
      generalize V17.heap.size = b5 at *
      have HS := Lib.hid HSn
      clear HSn
      refine wpAnyH_ready (rs := [1]) (by kernel_rfl) (by simp) ?_
      refine AllReadyH.cons (o := { dst := some 29, op := Go.Op.call { callee := Go.Callee.value (Go.Operand.func 43), args := #[Go.Operand.tmp 28], argTypes := #[25] }, type := 25, pos := "law.go:192", after := #[{ on := 0, ground := Go.Ground.data }], guard := none }) rfl (fun K hK => ?_) AllReadyH.nil
      go_simp
      go_at_call 43
      refine (HCa.out _ (HKW.out.i1.below HS.out.base)).mono ?_
      rintro e V24 ⟨q1, c1, rfl, hOn, hbn⟩
      have HSn := HS.out.call hbn
      have H1 := Lib.hid (CO.made HS.out hOn)
      have HS := Lib.hid HSn
      have sn := MB.out _ HSn.base
      clear hOn hbn HSn
      go_wp2_with fail
      refine hK.out _ _ sn (fun hHeld => ?_)
      clear hK K sn
      try simp only [Act.put, List.setIfInBounds_toArray, List.set_cons_zero, List.set_cons_succ]
      refine wpAnyH_ready (rs := [3]) (by kernel_rfl) (by simp) ?_
      refine AllReadyH.cons (o := { dst := some 31, op := Go.Op.call { callee := Go.Callee.value (Go.Operand.func 43), args := #[Go.Operand.tmp 30], argTypes := #[25] }, type := 25, pos := "law.go:192", after := #[{ on := 2, ground := Go.Ground.data }, { on := 1, ground := Go.Ground.chain }], guard := none }) rfl (fun K hK => ?_) AllReadyH.nil
      go_simp
      go_at_call 43
      refine (HCb.out _ (HKW.out.i2.below HS.out.base)).mono ?_
      rintro e V25 ⟨q2, c2, rfl, hOn, hbn⟩
      have HSn := HS.out.call hbn
      have H2 := Lib.hid (CO.made HS.out hOn)
      have H1 := Lib.hid (H1.out.call hbn)
      have HS := Lib.hid HSn
      have sn := MB.out _ HSn.base
      clear hOn hbn HSn
      go_wp2_with fail
      refine hK.out _ _ sn (fun hHeld => ?_)
      clear hK K sn
      try simp only [Act.put, List.setIfInBounds_toArray, List.set_cons_zero, List.set_cons_succ]
      have e4 := HS.out.h4 _ rfl
      have e5 := HS.out.h5 _ rfl
      have hne := HS.out.ne _ _ rfl rfl
      have hO := Lib.hid (oo_of HKW.out HS.out H1.out H2.out)
      obtain ⟨g1, g2⟩ := box2_cells e4.1
      obtain ⟨g3, g4⟩ := free2 e4.1
      have e6 : (put2 V25 b4 (.int .i64 n) (.slice q1 a.len c1)).heap[b5]? = _ := (put2_far (Ne.symm hne)).trans e5.1
      have s6 := MB.out _ (below_put HS.out.base e4.2 (.int .i64 n) (.slice q1 a.len c1))
      have s7 := MB.out _ (below_put (below_put HS.out.base e4.2 (.int .i64 n) (.slice q1 a.len c1)) e5.2 (.int .i64 n') (.slice q2 b.len c2))
      unfold put2 at s6 s7
      unfold put2 at e6 hO
      obtain ⟨g5, g6⟩ := box2_cells e6
      obtain ⟨g7, g8⟩ := free2 e6
      clear e4 e5 e6
      refine wpAnyH_ready (rs := [6]) (by kernel_rfl) (by simp) ?_
      refine AllReadyH.cons (o := { dst := none, op := Go.Op.store 25 (Go.Operand.tmp 11) (Go.Operand.tmp 29), type := 0, pos := "law.go:192", after := #[{ on := 4, ground := Go.Ground.data }, { on := 1, ground := Go.Ground.data }, { on := 3, ground := Go.Ground.chain }, { on := 0, ground := Go.Ground.phase }, { on := 1, ground := Go.Ground.phase }, { on := 2, ground := Go.Ground.textOnly Go.Departure.lateStores }, { on := 3, ground := Go.Ground.textOnly Go.Departure.lateStoresUnsure }, { on := 4, ground := Go.Ground.phase }, { on := 5, ground := Go.Ground.phase }], guard := none }) rfl (fun K hK => ?_) AllReadyH.nil
      go_simp
      refine hK.out _ _ s6 (fun hHeld => ?_)
      clear hK K
      try simp only [Act.put, List.setIfInBounds_toArray, List.set_cons_zero, List.set_cons_succ]
      refine wpAnyH_ready (rs := [7]) (by kernel_rfl) (by simp) ?_
      refine AllReadyH.cons (o := { dst := none, op := Go.Op.store 25 (Go.Operand.tmp 12) (Go.Operand.tmp 31), type := 0, pos := "law.go:192", after := #[{ on := 5, ground := Go.Ground.data }, { on := 3, ground := Go.Ground.data }, { on := 6, ground := Go.Ground.chain }, { on := 0, ground := Go.Ground.phase }, { on := 1, ground := Go.Ground.phase }, { on := 2, ground := Go.Ground.phase }, { on := 3, ground := Go.Ground.phase }, { on := 4, ground := Go.Ground.phase }, { on := 5, ground := Go.Ground.phase }, { on := 6, ground := Go.Ground.phase }], guard := none }) rfl (fun K hK => ?_) AllReadyH.nil
      go_simp
      refine hK.out _ _ s7 (fun hHeld => ?_)
      clear hK K
      try simp only [Act.put, List.setIfInBounds_toArray, List.set_cons_zero, List.set_cons_succ]
      refine wpAnyH_done (by kernel_rfl) ?_ _
      go_wp2_with fail
      go_meet
      case rel => exact ⟨b4, b5, q1, c1, q2, c2, rfl, rfl, hO.out⟩
    refine AllReadyH.cons (o := { dst := some 12, op := Go.Op.alloc 25, type := 0, pos := "law.go:192", after := #[], guard := none }) rfl (fun K hK => ?_) AllReadyH.nil
    go_simp
    have HSn := HS.out.alloc5
    refine hK.out _ _ (MB.out _ HSn.base) (fun hHeld => ?_)
    clear hK K
    try simp only [Act.put, List.setIfInBounds_toArray, List.set_cons_zero, List.set_cons_succ]
    generalize V0.alloc (.cells #[.int .i64 0, .slice none 0 0] 25) = V26 at *
    generalize V0.heap.size = b5 at *
    have HS := Lib.hid HSn
    clear HSn
    refine wpAnyH_ready (rs := [1, 4]) (by kernel_rfl) (by simp) ?_
    refine AllReadyH.cons (o := { dst := some 29, op := Go.Op.call { callee := Go.Callee.value (Go.Operand.func 43), args := #[Go.Operand.tmp 28], argTypes := #[25] }, type := 25, pos := "law.go:192", after := #[{ on := 0, ground := Go.Ground.data }], guard := none }) rfl (fun K hK => ?_) ?_
    · go_simp
      go_at_call 43
      refine (HCa.out _ (HKW.out.i1.below HS.out.base)).mono ?_
      rintro e V27 ⟨q1, c1, rfl, hOn, hbn⟩
      have HSn := HS.out.call hbn
      have H1 := Lib.hid (CO.made HS.out hOn)
      have HS := Lib.hid HSn
      have sn := MB.out _ HSn.base
      clear hOn hbn HSn
      go_wp2_with fail
      refine hK.out _ _ sn (fun hHeld => ?_)
      clear hK K sn
      try simp only [Act.put, List.setIfInBounds_toArray, List.set_cons_zero, List.set_cons_succ]
      refine wpAnyH_ready (rs := [3, 4]) (by kernel_rfl) (by simp) ?_
      refine AllReadyH.cons (o := { dst := some 31, op := Go.Op.call { callee := Go.Callee.value (Go.Operand.func 43), args := #[Go.Operand.tmp 30], argTypes := #[25] }, type := 25, pos := "law.go:192", after := #[{ on := 2, ground := Go.Ground.data }, { on := 1, ground := Go.Ground.chain }], guard := none }) rfl (fun K hK => ?_) ?_
      · go_simp
        go_at_call 43
        refine (HCb.out _ (HKW.out.i2.below HS.out.base)).mono ?_
        rintro e V28 ⟨q2, c2, rfl, hOn, hbn⟩
        have HSn := HS.out.call hbn
        have H2 := Lib.hid (CO.made HS.out hOn)
        have H1 := Lib.hid (H1.out.call hbn)
        have HS := Lib.hid HSn
        have sn := MB.out _ HSn.base
        clear hOn hbn HSn
        go_wp2_with fail
        refine hK.out _ _ sn (fun hHeld => ?_)
        clear hK K sn
        try simp only [Act.put, List.setIfInBounds_toArray, List.set_cons_zero, List.set_cons_succ]
        refine wpAnyH_ready (rs := [4]) (by kernel_rfl) (by simp) ?_
        refine AllReadyH.cons (o := { dst := some 11, op := Go.Op.alloc 25, type := 0, pos := "law.go:192", after := #[], guard := none }) rfl (fun K hK => ?_) AllReadyH.nil
        go_simp
        have HSn := HS.out.alloc4
        have H1n := H1.out.alloc4 (.cells #[.int .i64 0, .slice none 0 0] 25)
        have H2n := H2.out.alloc4 (.cells #[.int .i64 0, .slice none 0 0] 25)
        refine hK.out _ _ (MB.out _ HSn.base) (fun hHeld => ?_)
        clear hK K
        try simp only [Act.put, List.setIfInBounds_toArray, List.set_cons_zero, List.set_cons_succ]
        generalize V28.alloc (.cells #[.int .i64 0, .slice none 0 0] 25) = V29 at *
        generalize V28.heap.size = b4 at *
        have HS := Lib.hid HSn
        have H1 := Lib.hid H1n
        have H2 := Lib.hid H2n
        clear HSn H1n H2n
        have e4 := HS.out.h4 _ rfl
        have e5 := HS.out.h5 _ rfl
        have hne := HS.out.ne _ _ rfl rfl
        have hO := Lib.hid (oo_of HKW.out HS.out H1.out H2.out)
        obtain ⟨g1, g2⟩ := box2_cells e4.1
        obtain ⟨g3, g4⟩ := free2 e4.1
        have e6 : (put2 V29 b4 (.int .i64 n) (.slice q1 a.len c1)).heap[b5]? = _ := (put2_far (Ne.symm hne)).trans e5.1
        have s6 := MB.out _ (below_put HS.out.base e4.2 (.int .i64 n) (.slice q1 a.len c1))
        have s7 := MB.out _ (below_put (below_put HS.out.base e4.2 (.int .i64 n) (.slice q1 a.len c1)) e5.2 (.int .i64 n') (.slice q2 b.len c2))
        unfold put2 at s6 s7
        unfold put2 at e6 hO
        obtain ⟨g5, g6⟩ := box2_cells e6
        obtain ⟨g7, g8⟩ := free2 e6
        clear e4 e5 e6
        refine wpAnyH_ready (rs := [6]) (by kernel_rfl) (by simp) ?_
        refine AllReadyH.cons (o := { dst := none, op := Go.Op.store 25 (Go.Operand.tmp 11) (Go.Operand.tmp 29), type := 0, pos := "law.go:192", after := #[{ on := 4, ground := Go.Ground.data }, { on := 1, ground := Go.Ground.data }, { on := 3, ground := Go.Ground.chain }, { on := 0, ground := Go.Ground.phase }, { on := 1, ground := Go.Ground.phase }, { on := 2, ground := Go.Ground.textOnly Go.Departure.lateStores }, { on := 3, ground := Go.Ground.textOnly Go.Departure.lateStoresUnsure }, { on := 4, ground := Go.Ground.phase }, { on := 5, ground := Go.Ground.phase }], guard := none }) rfl (fun K hK => ?_) AllReadyH.nil
        go_simp
        refine hK.out _ _ s6 (fun hHeld => ?_)
        clear hK K
        try simp only [Act.put, List.setIfInBounds_toArray, List.set_cons_zero, List.set_cons_succ]
        refine wpAnyH_ready (rs := [7]) (by kernel_rfl) (by simp) ?_
        refine AllReadyH.cons (o := { dst := none, op := Go.Op.store 25 (Go.Operand.tmp 12) (Go.Operand.tmp 31), type := 0, pos := "law.go:192", after := #[{ on := 5, ground := Go.Ground.data }, { on := 3, ground := Go.Ground.data }, { on := 6, ground := Go.Ground.chain }, { on := 0, ground := Go.Ground.phase }, { on := 1, ground := Go.Ground.phase }, { on := 2, ground := Go.Ground.phase }, { on := 3, ground := Go.Ground.phase }, { on := 4, ground := Go.Ground.phase }, { on := 5, ground := Go.Ground.phase }, { on := 6, ground := Go.Ground.phase }], guard := none }) rfl (fun K hK => ?_) AllReadyH.nil
        go_simp
        refine hK.out _ _ s7 (fun hHeld => ?_)
        clear hK K
        try simp only [Act.put, List.setIfInBounds_toArray, List.set_cons_zero, List.set_cons_succ]
        refine wpAnyH_done (by kernel_rfl) ?_ _
        go_wp2_with fail
        go_meet
        case rel => exact ⟨b4, b5, q1, c1, q2, c2, rfl, rfl, hO.out⟩
      refine AllReadyH.cons (o := { dst := some 11, op := Go.Op.alloc 25, type := 0, pos := "law.go:192", after := #[], guard := none }) rfl (fun K hK => ?_) AllReadyH.nil
      go_simp
      have HSn := HS.out.alloc4
      have H1n := H1.out.alloc4 (.cells #[.int .i64 0, .slice none 0 0] 25)
      refine hK.out _ _ (MB.out _ HSn.base) (fun hHeld => ?_)
      clear hK K
      try simp only [Act.put, List.setIfInBounds_toArray, List.set_cons_zero, List.set_cons_succ]
      generalize V27.alloc (.cells #[.int .i64 0, .slice none 0 0] 25) = V30 at *
      generalize V27.heap.size = b4 at *
      have HS := Lib.hid HSn
      have H1 := Lib.hid H1n
      clear HSn H1n
      refine wpAnyH_ready (rs := [3]) (by kernel_rfl) (by simp) ?_
      refine AllReadyH.cons (o := { dst := some 31, op := Go.Op.call { callee := Go.Callee.value (Go.Operand.func 43), args := #[Go.Operand.tmp 30], argTypes := #[25] }, type := 25, pos := "law.go:192", after := #[{ on := 2, ground := Go.Ground.data }, { on := 1, ground := Go.Ground.chain }], guard := none }) rfl (fun K hK => ?_) AllReadyH.nil
      go_simp
      go_at_call 43
      refine (HCb.out _ (HKW.out.i2.below HS.out.base)).mono ?_
      rintro e V31 ⟨q2, c2, rfl, hOn, hbn⟩
      have HSn := HS.out.call hbn
      have H2 := Lib.hid (CO.made HS.out hOn)
      have H1 := Lib.hid (H1.out.call hbn)
      have HS := Lib.hid HSn
      have sn := MB.out _ HSn.base
      clear hOn hbn HSn
      go_wp2_with fail
      refine hK.out _ _ sn (fun hHeld => ?_)
      clear hK K sn
      try simp only [Act.put, List.setIfInBounds_toArray, List.set_cons_zero, List.set_cons_succ]
      have e4 := HS.out.h4 _ rfl
      have e5 := HS.out.h5 _ rfl
      have hne := HS.out.ne _ _ rfl rfl
      have hO := Lib.hid (oo_of HKW.out HS.out H1.out H2.out)
      obtain ⟨g1, g2⟩ := box2_cells e4.1
      obtain ⟨g3, g4⟩ := free2 e4.1
      have e6 : (put2 V31 b4 (.int .i64 n) (.slice q1 a.len c1)).heap[b5]? = _ := (put2_far (Ne.symm hne)).trans e5.1
      have s6 := MB.out _ (below_put HS.out.base e4.2 (.int .i64 n) (.slice q1 a.len c1))
      have s7 := MB.out _ (below_put (below_put HS.out.base e4.2 (.int .i64 n) (.slice q1 a.len c1)) e5.2 (.int .i64 n') (.slice q2 b.len c2))
      unfold put2 at s6 s7
      unfold put2 at e6 hO
      obtain ⟨g5, g6⟩ := box2_cells e6
      obtain ⟨g7, g8⟩ := free2 e6
      clear e4 e5 e6
      refine wpAnyH_ready (rs := [6]) (by kernel_rfl) (by simp) ?_
      refine AllReadyH.cons (o := { dst := none, op := Go.Op.store 25 (Go.Operand.tmp 11) (Go.Operand.tmp 29), type := 0, pos := "law.go:192", after := #[{ on := 4, ground := Go.Ground.data }, { on := 1, ground := Go.Ground.data }, { on := 3, ground := Go.Ground.chain }, { on := 0, ground := Go.Ground.phase }, { on := 1, ground := Go.Ground.phase }, { on := 2, ground := Go.Ground.textOnly Go.Departure.lateStores }, { on := 3, ground := Go.Ground.textOnly Go.Departure.lateStoresUnsure }, { on := 4, ground := Go.Ground.phase }, { on := 5, ground := Go.Ground.phase }], guard := none }) rfl (fun K hK => ?_) AllReadyH.nil
      go_simp
      refine hK.out _ _ s6 (fun hHeld => ?_)
      clear hK K
      try simp only [Act.put, List.setIfInBounds_toArray, List.set_cons_zero, List.set_cons_succ]
      refine wpAnyH_ready (rs := [7]) (by kernel_rfl) (by simp) ?_
      refine AllReadyH.cons (o := { dst := none, op := Go.Op.store 25 (Go.Operand.tmp 12) (Go.Operand.tmp 31), type := 0, pos := "law.go:192", after := #[{ on := 5, ground := Go.Ground.data }, { on := 3, ground := Go.Ground.data }, { on := 6, ground := Go.Ground.chain }, { on := 0, ground := Go.Ground.phase }, { on := 1, ground := Go.Ground.phase }, { on := 2, ground := Go.Ground.phase }, { on := 3, ground := Go.Ground.phase }, { on := 4, ground := Go.Ground.phase }, { on := 5, ground := Go.Ground.phase }, { on := 6, ground := Go.Ground.phase }], guard := none }) rfl (fun K hK => ?_) AllReadyH.nil
      go_simp
      refine hK.out _ _ s7 (fun hHeld => ?_)
      clear hK K
      try simp only [Act.put, List.setIfInBounds_toArray, List.set_cons_zero, List.set_cons_succ]
      refine wpAnyH_done (by kernel_rfl) ?_ _
      go_wp2_with fail
      go_meet
      case rel => exact ⟨b4, b5, q1, c1, q2, c2, rfl, rfl, hO.out⟩
    refine AllReadyH.cons (o := { dst := some 11, op := Go.Op.alloc 25, type := 0, pos := "law.go:192", after := #[], guard := none }) rfl (fun K hK => ?_) AllReadyH.nil
    go_simp
    have HSn := HS.out.alloc4
    refine hK.out _ _ (MB.out _ HSn.base) (fun hHeld => ?_)
    clear hK K
    try simp only [Act.put, List.setIfInBounds_toArray, List.set_cons_zero, List.set_cons_succ]
    generalize V26.alloc (.cells #[.int .i64 0, .slice none 0 0] 25) = V32 at *
    generalize V26.heap.size = b4 at *
    have HS := Lib.hid HSn
    clear HSn
    refine wpAnyH_ready (rs := [1]) (by kernel_rfl) (by simp) ?_
    refine AllReadyH.cons (o := { dst := some 29, op := Go.Op.call { callee := Go.Callee.value (Go.Operand.func 43), args := #[Go.Operand.tmp 28], argTypes := #[25] }, type := 25, pos := "law.go:192", after := #[{ on := 0, ground := Go.Ground.data }], guard := none }) rfl (fun K hK => ?_) AllReadyH.nil
    go_simp
    go_at_call 43
    refine (HCa.out _ (HKW.out.i1.below HS.out.base)).mono ?_
    rintro e V33 ⟨q1, c1, rfl, hOn, hbn⟩
    have HSn := HS.out.call hbn
    have H1 := Lib.hid (CO.made HS.out hOn)
    have HS := Lib.hid HSn
    have sn := MB.out _ HSn.base
    clear hOn hbn HSn
    go_wp2_with fail
    refine hK.out _ _ sn (fun hHeld => ?_)
    clear hK K sn
    try simp only [Act.put, List.setIfInBounds_toArray, List.set_cons_zero, List.set_cons_succ]
    refine wpAnyH_ready (rs := [3]) (by kernel_rfl) (by simp) ?_
    refine AllReadyH.cons (o := { dst := some 31, op := Go.Op.call { callee := Go.Callee.value (Go.Operand.func 43), args := #[Go.Operand.tmp 30], argTypes := #[25] }, type := 25, pos := "law.go:192", after := #[{ on := 2, ground := Go.Ground.data }, { on := 1, ground := Go.Ground.chain }], guard := none }) rfl (fun K hK => ?_) AllReadyH.nil
    go_simp
    go_at_call 43
    refine (HCb.out _ (HKW.out.i2.below HS.out.base)).mono ?_
    rintro e V34 ⟨q2, c2, rfl, hOn, hbn⟩
    have HSn := HS.out.call hbn
    have H2 := Lib.hid (CO.made HS.out hOn)
    have H1 := Lib.hid (H1.out.call hbn)
    have HS := Lib.hid HSn
    have sn := MB.out _ HSn.base
    clear hOn hbn HSn
    go_wp2_with fail
    refine hK.out _ _ sn (fun hHeld => ?_)
    clear hK K sn
    try simp only [Act.put, List.setIfInBounds_toArray, List.set_cons_zero, List.set_cons_succ]
    have e4 := HS.out.h4 _ rfl
    have e5 := HS.out.h5 _ rfl
    have hne := HS.out.ne _ _ rfl rfl
    have hO := Lib.hid (oo_of HKW.out HS.out H1.out H2.out)
    obtain ⟨g1, g2⟩ := box2_cells e4.1
    obtain ⟨g3, g4⟩ := free2 e4.1
    have e6 : (put2 V34 b4 (.int .i64 n) (.slice q1 a.len c1)).heap[b5]? = _ := (put2_far (Ne.symm hne)).trans e5.1
    have s6 := MB.out _ (below_put HS.out.base e4.2 (.int .i64 n) (.slice q1 a.len c1))
    have s7 := MB.out _ (below_put (below_put HS.out.base e4.2 (.int .i64 n) (.slice q1 a.len c1)) e5.2 (.int .i64 n') (.slice q2 b.len c2))
    unfold put2 at s6 s7
    unfold put2 at e6 hO
    obtain ⟨g5, g6⟩ := box2_cells e6
    obtain ⟨g7, g8⟩ := free2 e6
    clear e4 e5 e6
    refine wpAnyH_ready (rs := [6]) (by kernel_rfl) (by simp) ?_
    refine AllReadyH.cons (o := { dst := none, op := Go.Op.store 25 (Go.Operand.tmp 11) (Go.Operand.tmp 29), type := 0, pos := "law.go:192", after := #[{ on := 4, ground := Go.Ground.data }, { on := 1, ground := Go.Ground.data }, { on := 3, ground := Go.Ground.chain }, { on := 0, ground := Go.Ground.phase }, { on := 1, ground := Go.Ground.phase }, { on := 2, ground := Go.Ground.textOnly Go.Departure.lateStores }, { on := 3, ground := Go.Ground.textOnly Go.Departure.lateStoresUnsure }, { on := 4, ground := Go.Ground.phase }, { on := 5, ground := Go.Ground.phase }], guard := none }) rfl (fun K hK => ?_) AllReadyH.nil
    go_simp
    refine hK.out _ _ s6 (fun hHeld => ?_)
    clear hK K
    try simp only [Act.put, List.setIfInBounds_toArray, List.set_cons_zero, List.set_cons_succ]
    refine wpAnyH_ready (rs := [7]) (by kernel_rfl) (by simp) ?_
    refine AllReadyH.cons (o := { dst := none, op := Go.Op.store 25 (Go.Operand.tmp 12) (Go.Operand.tmp 31), type := 0, pos := "law.go:192", after := #[{ on := 5, ground := Go.Ground.data }, { on := 3, ground := Go.Ground.data }, { on := 6, ground := Go.Ground.chain }, { on := 0, ground := Go.Ground.phase }, { on := 1, ground := Go.Ground.phase }, { on := 2, ground := Go.Ground.phase }, { on := 3, ground := Go.Ground.phase }, { on := 4, ground := Go.Ground.phase }, { on := 5, ground := Go.Ground.phase }, { on := 6, ground := Go.Ground.phase }], guard := none }) rfl (fun K hK => ?_) AllReadyH.nil
    go_simp
    refine hK.out _ _ s7 (fun hHeld => ?_)
    clear hK K
    try simp only [Act.put, List.setIfInBounds_toArray, List.set_cons_zero, List.set_cons_succ]
    refine wpAnyH_done (by kernel_rfl) ?_ _
    go_wp2_with fail
    go_meet
    case rel => exact ⟨b4, b5, q1, c1, q2, c2, rfl, rfl, hO.out⟩
  case rest =>
    obtain ⟨bx, by_, q1, c1, q2, c2, rfl, rfl, hoo⟩ := hcut
    have HO := Lib.hid hoo
    have kc := hoo.kk.cells
    obtain ⟨⟨k1, k2⟩, ⟨k3, k4⟩, _⟩ := kc
    clear hoo MB HKW HCa HCb
    go_wp2_with fail
    refine (HL.out _ HO.out.kk.rk HO.out.kk.i1 HO.out.kk.i2).mono ?_
    rintro e w1 ⟨rfl, hb1⟩
    have HO := Lib.hid (HO.out.below hb1)
    have kc := HO.out.kk.cells
    obtain ⟨⟨k1, k2⟩, ⟨k3, k4⟩, _⟩ := kc
    clear hb1
    go_wp2_with fail
    refine (HM.out _ HO.out.kk.rk HO.out.kk.i1 HO.out.kk.i2).mono ?_
    rintro e w1 ⟨q, c, rfl, hO, hb⟩
    have HT := Lib.hid ((hO.keep fun k _ hk => Below.heap_alloc _ (.cells #[.int .i64 m1, .slice q z1.len c] 25) _ hk).shape)
    have HBB := Lib.hid (hb.alloc hb.size (.cells #[.int .i64 m1, .slice q z1.len c] 25))
    clear hO hb
    go_wp2_with fail
    refine (eturn_any _ (z1.sz + 1) z1 _ q c (Nat.lt_succ_self _) HT.out.1 HT.out.2.1 HT.out.2.2).mono ?_
    rintro e w2 ⟨rfl, hT⟩
    have HO := Lib.hid (HO.out.below (HBB.out.trans hT.1))
    have kc := HO.out.kk.cells
    obtain ⟨⟨k1, k2⟩, ⟨k3, k4⟩, _⟩ := kc
    clear hT HT HBB
    go_wp2_with fail
    refine (HN.out _ HO.out.kk.rk HO.out.kk.i1 HO.out.kk.i2).mono ?_
    rintro e w1 ⟨q, c, rfl, hO, hb⟩
    have HT := Lib.hid ((hO.keep fun k _ hk => Below.heap_alloc _ (.cells #[.int .i64 m2, .slice q z2.len c] 25) _ hk).shape)
    have HBB := Lib.hid (hb.alloc hb.size (.cells #[.int .i64 m2, .slice q z2.len c] 25))
    clear hO hb
    go_wp2_with fail
    refine (eturn_any _ (z2.sz + 1) z2 _ q c (Nat.lt_succ_self _) HT.out.1 HT.out.2.1 HT.out.2.2).mono ?_
    rintro e w2 ⟨rfl, hT⟩
    have HO := Lib.hid (HO.out.below (HBB.out.trans hT.1))
    have kc := HO.out.kk.cells
    obtain ⟨⟨k1, k2⟩, ⟨k3, k4⟩, _⟩ := kc
    clear hT HT HBB
    go_wp2_with fail
    refine (HC.out _ HO.out.kk.rk HO.out.kk.i1).mono ?_
    rintro e w1 ⟨q, c, rfl, hO, hb⟩
    have HT := Lib.hid ((hO.keep fun k _ hk => Below.heap_alloc _ (.cells #[.int .i64 m3, .slice q z3.len c] 25) _ hk).shape)
    have HBB := Lib.hid (hb.alloc hb.size (.cells #[.int .i64 m3, .slice q z3.len c] 25))
    clear hO hb
    go_wp2_with fail
    refine (eturn_any _ (z3.sz + 1) z3 _ q c (Nat.lt_succ_self _) HT.out.1 HT.out.2.1 HT.out.2.2).mono ?_
    rintro e w2 ⟨rfl, hT⟩
    have HO := Lib.hid (HO.out.below (HBB.out.trans hT.1))
    have kc := HO.out.kk.cells
    obtain ⟨⟨k1, k2⟩, ⟨k3, k4⟩, _⟩ := kc
    clear hT HT HBB
    go_wp2_with fail
    refine (HT4.out _ HO.out.kk.rk HO.out.kk.i2 HO.out.kk.base).mono ?_
    rintro e w1 ⟨q, c, rfl, hO, hb⟩
    have HT := Lib.hid ((hO.keep fun k _ hk => Below.heap_alloc _ (.cells #[.int .i64 m4, .slice q z4.len c] 25) _ hk).shape)
    have HBB := Lib.hid (hb.alloc hb.size (.cells #[.int .i64 m4, .slice q z4.len c] 25))
    clear hO hb
    go_wp2_with fail
    refine (eturn_any _ (z4.sz + 1) z4 _ q c (Nat.lt_succ_self _) HT.out.1 HT.out.2.1 HT.out.2.2).mono ?_
    rintro e w2 ⟨rfl, hT⟩
    have HO := Lib.hid (HO.out.below (HBB.out.trans hT.1))
    have kc := HO.out.kk.cells
    obtain ⟨⟨k1, k2⟩, ⟨k3, k4⟩, _⟩ := kc
    clear hT HT HBB
    obtain ⟨y1, y2⟩ := box2_cells HO.out.hx
    obtain ⟨y3, y4⟩ := box2_cells HO.out.hy
    go_wp2_with fail
    refine (HEa.out _ _ _ HO.out.kk.i1 HO.out.ix).mono ?_
    rintro e w5 ⟨rfl, hb5⟩
    have HO := Lib.hid (HO.out.below hb5)
    have kc := HO.out.kk.cells
    obtain ⟨⟨k1, k2⟩, ⟨k3, k4⟩, _⟩ := kc
    obtain ⟨y5, y6⟩ := box2_cells HO.out.hy
    clear hb5 y1 y2 y3 y4
    go_wp2_with fail
    refine (HEb.out _ _ _ HO.out.kk.i2 HO.out.iy).mono ?_
    rintro e w6 ⟨rfl, hb6⟩
    have HO := Lib.hid (HO.out.below hb6)
    clear hb6 y5 y6 k1 k2 k3 k4
    go_wp2_with fail
    refine (hA.out _).mono ?_
    rintro e wz ⟨rfl, hbz⟩
    go_wp2_with fail
    go_ret
    exact ⟨rfl, (HO.out.below hbz).kk.base⟩

end Go.Proofs.Ytgpbkdfhjkfceaa

set_option linter.unusedSimpArgs false
set_option linter.unusedVariables false
namespace Go.Proofs.Ytgpbkdfhjkfceaa
open Go.ChangeShapes Go.WideShapes Go.ChangeAt Go.RowKit
open Go.ChangeMaps (open_string shut_string)

set_option maxRecDepth 100000 in
theorem treeOwn_lifted (os : Os) (started : os.Started) (H : Type) (enc : TypeId × Value → H) :
    ReturnsInHanded {} Try.checked os 17 .any (Rows.treeOwnSpec.pre6 enc Try.prog Try.f17 Rows.treeOwnRow.domain false) (Rows.treeOwnSpec.post enc Try.prog Try.f17 false true false false) := by
  refine returnsInHanded_of_change (C := Try.checked) PE.own started (by kernel_rfl) Try.func17
    (ChangeSpec.witness6 (enc := enc) (C := Try.checked) false ⟨#[], #[.slice none 0 0, .agg #[.int .i64 0, .slice none 0 0], .agg #[.int .i64 0, .slice none 0 0], .int .i64 0, .slice none 0 0], []⟩ 8 (by kernel_rfl) (by kernel_rfl) (by kernel_rfl) (by kernel_rfl)) ?_
  intro W base args ds gs before hval0 hW hcnd _
  have hval : ∀ (j : Nat) t v, Try.f17.params[j]? = some t → args[j]? = some v → Value.okWide Try.prog W .any base t v := hval0
  have hW' := hW
  obtain ⟨p, q, hA0, hV, rfl, hfz, hnd⟩ := hW
  have hA : DataW.TrodAll enc Try.prog W 0 (fun _ => true) true Try.f17.params.toList args.toList ds p := hA0
  rw [Try.params17] at hA hval
  obtain ⟨v0, v1, v2, v3, v4, d0, d1, d2, d3, d4, p0, p1, p2, p3, p4, rfl, rfl, rfl, h0, h1, h2, h3, h4⟩ := trodAll_five hA
  obtain ⟨rfl, rfl⟩ := trodVars_none hV
  have k0 := h0
  obtain ⟨a0, n0, c0, t0, rfl, i0⟩ := open_ints (hval 0 22 v0 rfl rfl) h0
  have k1 := h1
  obtain ⟨ni1, a1, n1, c1, t1, rfl, i1⟩ := open_tree (hval 1 25 v1 rfl rfl) h1
  have k2 := h2
  obtain ⟨ni2, a2, n2, c2, t2, rfl, i2⟩ := open_tree (hval 2 25 v2 rfl rfl) h2
  obtain ⟨x3, rfl, rfl, rfl, w3⟩ := open_int Try.underlying3 (hval 3 3 v3 rfl rfl) h3
  have k4 := h4
  obtain ⟨a4, n4, c4, t4, rfl, i4⟩ := open_ints (hval 4 22 v4 rfl rfl) h4
  clear hA0 hval0
  simp only [List.append_nil] at hW'
  refine (law_eown alive_any t0 t1 t2 t4 ni1 ni2 x3 W a0 a1 a2 a4 n0 c0 n1 c1 n2 c2 n4 c4 (wf_hi w3) i0 i1 i2 i4).mono fun e W' ⟨he, hb⟩ => ?_
  subst he
  have hlt := fun x hx => hW'.lt x hx
  exact ⟨_, rfl, post_below (pv := []) hW' (fun _ _ _ => trodAll_mk1 (shut_bool Try.underlying4 true))
    (fun sp hsp => trodAll_mk5 (WideElems.Trod_stays PE.laidOut PE.readI (of_decide_eq_true (by kernel_rfl)) k0 (fun x hx => hb.same (hlt x (by simp [hx]))) (fun x hx => hsp x (by simp [hx]))) (WideElems.Trod_stays PE.laidOut PE.readY (of_decide_eq_true (by kernel_rfl)) k1 (fun x hx => hb.same (hlt x (by simp [hx]))) (fun x hx => hsp x (by simp [hx]))) (WideElems.Trod_stays PE.laidOut PE.readY (of_decide_eq_true (by kernel_rfl)) k2 (fun x hx => hb.same (hlt x (by simp [hx]))) (fun x hx => hsp x (by simp [hx]))) (shut_int Try.underlying3 w3) (WideElems.Trod_stays PE.laidOut PE.readI (of_decide_eq_true (by kernel_rfl)) k4 (fun x hx => hb.same (hlt x (by simp [hx]))) (fun x hx => hsp x (by simp [hx]))))
    (fun _ _ => rfl) (by simp) hb (ok_one (by kernel_rfl) rfl (okWide_bool_mk Try.underlying4 true))⟩

theorem treeOwn_holds : Rows.TreeOwnSaid :=
  OpenClaim.holds_of_wide 17 Try.f17 rfl rfl rfl rfl rfl rfl rfl ⟨rfl, rfl, rfl, rfl, rfl⟩ rfl rfl rfl rfl rfl (by kernel_rfl) Try.func17 (by kernel_rfl)
    (of_decide_eq_true (by kernel_rfl)) (by unfold Func.isWrapper; rw [if_neg (of_decide_eq_false (by kernel_rfl))]; exact ⟨rfl, rfl⟩)
    (fun os started H enc _ => treeOwn_lifted os started H enc)

end Go.Proofs.Ytgpbkdfhjkfceaa

