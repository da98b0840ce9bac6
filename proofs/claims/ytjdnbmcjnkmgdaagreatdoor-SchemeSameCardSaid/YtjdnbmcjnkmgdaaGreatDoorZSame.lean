/-
  Whatever schemes are handed in, the statement on Same answers true and leaves the schemes as they were. Conditions: none but the row's own (the package variables read as the program's text lays them).
-/
import Derived.Test.YtjdnbmcjnkmgdaaGreatDoorMh02
import Derived.Test.YtjdnbmcjnkmgdaaGreatDoorMg29
import Derived.Laws.StructEq
import Derived.Test.YtjdnbmcjnkmgdaaGreatDoorMg12
import Derived.Test.YtjdnbmcjnkmgdaaGreatDoorMg30
import Derived.Test.YtjdnbmcjnkmgdaaGreatDoorMg31
import Derived.Test.YtjdnbmcjnkmgdaaGreatDoorCards
import Derived.Test.YtjdnbmcjnkmgdaaGreatDoorTie
import Derived.SevenTiedAt

/-
  When two schemes are equal, in plain form; the walks of the slices' comparisons. Conditions: that the schemes lie in memory.
-/
set_option linter.unusedSimpArgs false
set_option linter.unusedVariables false
namespace Go.Proofs.YtjdnbmcjnkmgdaaGreatDoor
open Go.RowKit Go.Maps

def symE (x y : Sy) (i : Nat) : Bool := decide (x.nm i = y.nm i) && decide (x.rk i = y.rk i)

def symsE (x y : Sy) : Nat → Nat → Bool
  | _, 0 => true
  | i, m + 1 => symE x y i && symsE x y (i + 1) m

def funE (x y : Fu) (i : Nat) : Bool := decide (x.nm i = y.nm i) && (T.eqT (x.st i) (y.st i) && X.eq1 (x.bk i) (x.bn i) (x.bt i) (y.bk i) (y.bn i) (y.bt i))

def funsE (x y : Fu) : Nat → Nat → Bool
  | _, 0 => true
  | i, m + 1 => funE x y i && funsE x y (i + 1) m

def syEq (x y : Sy) : Bool := decide (x.len = y.len) && symsE x y 0 x.len
def fuEq (x y : Fu) : Bool := decide (x.len = y.len) && funsE x y 0 x.len

/-- are two schemes equal? -/
def scEq (x y : Sc) : Bool := syEq x.S y.S && fuEq x.F y.F

theorem symsE_at (x y : Sy) {j n : Nat} (h : j < n) : symsE x y j (n - j) = (symE x y j && symsE x y (j + 1) (n - (j + 1))) := by
  rw [show n - j = (n - (j + 1)) + 1 by omega]; rfl

theorem funsE_at (x y : Fu) {j n : Nat} (h : j < n) : funsE x y j (n - j) = (funE x y j && funsE x y (j + 1) (n - (j + 1))) := by
  rw [show n - j = (n - (j + 1)) + 1 by omega]; rfl

theorem symsE_end (x y : Sy) {j n : Nat} (h : ¬ j < n) : symsE x y j (n - j) = true := by
  rw [show n - j = 0 by omega]; rfl

theorem funsE_end (x y : Fu) {j n : Nat} (h : ¬ j < n) : funsE x y j (n - j) = true := by
  rw [show n - j = 0 by omega]; rfl

theorem symE_self (x : Sy) (i : Nat) : symE x x i = true := by simp [symE]

theorem funE_self (x : Fu) (i : Nat) : funE x x i = true := by
  have h1 := (T.eqT_iff (x.st i) (x.st i)).2 rfl
  have h2 := (X.eqX_iff (x.bt i) (x.bt i)).2 rfl
  simp [funE, h1, h2, X.eq1]

theorem symsE_self (x : Sy) : ∀ m i, symsE x x i m = true
  | 0, _ => rfl
  | m + 1, i => by simp [symsE, symE_self, symsE_self x m]

theorem funsE_self (x : Fu) : ∀ m i, funsE x x i m = true
  | 0, _ => rfl
  | m + 1, i => by simp [funsE, funE_self, funsE_self x m]

theorem scEq_self (x : Sc) : scEq x x = true := by simp [scEq, syEq, fuEq, symsE_self, funsE_self]

theorem strs_ne {a b : ByteArray} (h : a ≠ b) : (a.toList == b.toList) = false := by
  rw [beq_eq_false_iff_ne, ByteArray.toList_eq, ByteArray.toList_eq]
  intro e
  exact h (by rw [← str_self a, ← str_self b, e])

set_option maxRecDepth 100000 in
set_option maxHeartbeats 4000000 in
/-- slices.Equal of symbols -/
theorem symsequal_any (x y : Sy) (w : World) (p q : Option Addr) (n c m c' : Nat) (hx : IsS w x p n c) (hy : IsS w y q m c') :
    Calls Tryz.prog 41 #[.slice p n c, .slice q m c'] w fun e w' => e = .returned (.bool (syEq x y)) ∧ Below w.heap.size w w' := by
  obtain ⟨rfl, hcap, hmax, hnil, hrow⟩ := hx
  obtain ⟨rfl, hcap', hmax', hnil', hrow'⟩ := hy
  unfold maxLen at hmax hmax'
  by_cases hl : x.len = y.len
  case neg =>
    have hd : ((x.len : Int) != (y.len : Int)) = true := by rw [bne_iff_ne]; omega
    have e : syEq x y = false := by simp [syEq, hl]
    rw [e]
    go_enter Tryz.func41, Tryz.ntmps41
    go_wp2_with fail
    go_ret
    exact ⟨rfl, Below.refl _ _⟩
  case pos =>
    have hd : ((x.len : Int) != (y.len : Int)) = false := by simp [hl]
    have e : symsE x y 0 (x.len - 0) = syEq x y := by simp [syEq, hl]
    have hle : x.len ≤ y.len := by omega
    obtain ⟨Z, hZ⟩ : ∃ Z, syEq x y = Z := ⟨_, rfl⟩
    rw [hZ] at e ⊢
    clear hZ hl
    go_enter Tryz.func41, Tryz.ntmps41
    go_wp2_with fail
    go_loopw [13] (fun v wr => ∃ j : Nat, j ≤ x.len ∧ v = .int .i64 (j : Int) ∧ symsE x y j (x.len - j) = Z ∧ Below w.heap.size w wr)
      (fun v _ => x.len - (Go.RowKit.intOf v).toNat)
    case atStart => exact ⟨0, Nat.zero_le _, rfl, e, Below.refl _ _⟩
    case round =>
      clear hd
      obtain ⟨j, hj, rfl, hmo, hb⟩ := hrel
      have HB := Lib.hid hb
      by_cases hlt : j < x.len
      · rcases hrow with h0 | ⟨b1, o1, rfl, hr1⟩
        · omega
        rcases hrow' with h0 | ⟨b2, o2, rfl, hr2⟩
        · omega
        obtain ⟨g1, g2⟩ := hr1 j hlt
        obtain ⟨g3, g4⟩ := hr2 j (by omega)
        have f1 := ((bcell hb).1 _ _ (lt_of_cell g1)).trans g1
        have f2 := ((bcell hb).1 _ _ (lt_of_cell g2)).trans g2
        have f3 := ((bcell hb).1 _ _ (lt_of_cell g3)).trans g3
        have f4 := ((bcell hb).1 _ _ (lt_of_cell g4)).trans g4
        rw [symsE_at x y hlt] at hmo
        unfold symE at hmo
        have hlt2 : j < y.len := by omega
        clear g1 g2 g3 g4 hr1 hr2 hb
        generalize x.nm j = s1 at f1 hmo
        generalize y.nm j = s2 at f3 hmo
        generalize x.rk j = k1 at f2 hmo
        generalize y.rk j = k2 at f4 hmo
        by_cases h1 : s1 = s2
        · subst h1
          by_cases h2 : k1 = k2
          · subst h2
            have hmo2 : symsE x y (j + 1) (x.len - (j + 1)) = Z := by simpa using hmo
            have HM := Lib.hid hmo2
            clear hmo hmo2
            go_wp2_with fail
            go_quiet (fail)
            go_wp2_with fail
            go_roundw
            case rel => exact ⟨j + 1, by omega, by go_num, HM.out, below_drewN HB.out _⟩
            case measure => simp [Go.RowKit.intOf]; omega
          · have hd2 : (k1 == k2) = false := by simpa using h2
            have hz : Z = false := by rw [← hmo]; simp [h2]
            subst hz
            clear hmo
            go_wp2_with fail
            go_quiet (fail)
            go_wp2_with fail
            go_ret
            exact ⟨rfl, below_drewN HB.out _⟩
        · have hd1 : (s1.toList == s2.toList) = false := strs_ne h1
          have hz : Z = false := by rw [← hmo]; simp [h1]
          subst hz
          clear hmo
          go_wp2_with fail
          go_quiet (fail)
          go_wp2_with fail
          go_ret
          exact ⟨rfl, below_drewN HB.out _⟩
      · have hz : Z = true := by rw [← hmo]; exact symsE_end x y hlt
        subst hz
        clear hmo
        go_wp2_with fail
        go_ret
        exact ⟨rfl, HB.out⟩

end Go.Proofs.YtjdnbmcjnkmgdaaGreatDoor

/-
  The walks of Same: the program's and the reference's. Conditions: that the schemes lie in memory.
-/
set_option linter.unusedSimpArgs false
set_option linter.unusedVariables false
namespace Go.Proofs.YtjdnbmcjnkmgdaaGreatDoor
open Go.RowKit Go.Maps

theorem same_eqV {s t : T} (h1 : s.valid = true) (h2 : t.valid = true) : T.same s t = T.eqT s t := by
  have g1 := T.valid_nodes _ h1
  have g2 := T.valid_nodes _ h2
  simp [T.same, g1, g2]

theorem sm_eq1 {k n k' n' : Int} {a a' : X} (h1 : a.sz < 100000) (h2 : a'.sz < 100000) : X.sm k n a k' n' a' = X.eq1 k n a k' n' a' := by
  simp [X.sm, h1, h2]

/-- the two schemes' boxes that a comparison holds -/
theorem boxes2 {W : World} {b1 b2 : Nat} {u1 u2 v1 v2 : Value} {t t' : TypeId} (h1 : W.heap[b1]? = some (.cells #[u1, u2] t (0, 0))) (h2 : W.heap[b2]? = some (.cells #[v1, v2] t' (0, 0))) :
    W.cell? ⟨b1, 0, none⟩ = some u1 ∧ W.cell? ⟨b1, 1, none⟩ = some u2 ∧ W.cell? ⟨b2, 0, none⟩ = some v1 ∧ W.cell? ⟨b2, 1, none⟩ = some v2 := ⟨(two_box h1).1.1, (two_box h1).1.2, (two_box h2).1.1, (two_box h2).1.2⟩

set_option maxRecDepth 100000 in
set_option maxHeartbeats 4000000 in
theorem alike_any (x y : Fu) (i : Nat) (w : World) (p : Option Addr) (l c : Nat) (q : Option Addr) (m d : Nat) (p' : Option Addr) (l' c' : Nat) (q' : Option Addr) (m' d' : Nat)
    (h1 : (x.st i).valid = true) (h2 : (y.st i).valid = true) (h3 : (x.bt i).sz < 100000) (h4 : (y.bt i).sz < 100000)
    (ht : IsT w (x.st i) p l c) (hb : IsX w (x.bt i) q m d) (ht' : IsT w (y.st i) p' l' c') (hb' : IsX w (y.bt i) q' m' d') :
    Calls Tryz.prog 43 #[.agg #[.string (x.nm i), .slice p l c, .int .i64 (x.bk i), .int .i64 (x.bn i), .slice q m d], .agg #[.string (y.nm i), .slice p' l' c', .int .i64 (y.bk i), .int .i64 (y.bn i), .slice q' m' d']] w fun e w' => e = .returned (.bool (funE x y i)) ∧ Below w.heap.size w w' := by
  have HS := fun W (hb : Below w.heap.size w W) => same_any (x.st i) (y.st i) W p p' l c l' c' (ht.below hb) (ht'.below hb)
  have HX := fun W (h : Below w.heap.size w W) => tsame_any (x.bt i) (y.bt i) (x.bk i) (x.bn i) (y.bk i) (y.bn i) W q q' m d m' d' (hb.below h) (hb'.below h)
  rw [same_eqV h1 h2] at HS
  rw [sm_eq1 h3 h4] at HX
  have HS := Lib.hid HS
  have HX := Lib.hid HX
  unfold funE
  generalize T.eqT (x.st i) (y.st i) = B1 at HS
  generalize X.eq1 (x.bk i) (x.bn i) (x.bt i) (y.bk i) (y.bn i) (y.bt i) = B2 at HX
  generalize x.nm i = s1
  generalize y.nm i = s2
  generalize x.bk i = k1 at HX
  generalize y.bk i = k2 at HX
  generalize x.bn i = n1 at HX
  generalize y.bn i = n2 at HX
  have hbx1 := alloc_kept (heap_new w (.cells #[.string s1, .slice p l c, .int .i64 k1, .int .i64 n1, .slice q m d] 52)) (.cells #[.string s2, .slice p' l' c', .int .i64 k2, .int .i64 n2, .slice q' m' d'] 52)
  have hbx2 := heap_new2 w (.cells #[.string s1, .slice p l c, .int .i64 k1, .int .i64 n1, .slice q m d] 52) (.cells #[.string s2, .slice p' l' c', .int .i64 k2, .int .i64 n2, .slice q' m' d'] 52)
  have B2' : Below w.heap.size w ((w.alloc (.cells #[.string s1, .slice p l c, .int .i64 k1, .int .i64 n1, .slice q m d] 52)).alloc (.cells #[.string s2, .slice p' l' c', .int .i64 k2, .int .i64 n2, .slice q' m' d'] 52)) := ((Below.refl _ _).alloc (Nat.le_refl _) _).alloc (by simp) _
  have HB := Lib.hid (And.intro B2' (And.intro hbx1 hbx2))
  clear B2' hbx1 hbx2 ht hb ht' hb' h1 h2 h3 h4
  by_cases he : s1 = s2
  · have hd : (s1.toList == s2.toList) = true := by simp [he]
    have hz : (decide (s1 = s2) && (B1 && B2)) = (B1 && B2) := by simp [he]
    rw [hz]
    clear he hz
    go_enter Tryz.func43, Tryz.ntmps43
    cases B1 with
    | false =>
      go_wp2_with fail
      refine (HS.out _ HB.out.1).mono ?_
      rintro e w1 ⟨rfl, hb1⟩
      go_wp2_with fail
      go_ret
      exact ⟨rfl, HB.out.1.trans (hb1.mono HB.out.1.size)⟩
    | true =>
      go_wp2_with fail
      refine (HS.out _ HB.out.1).mono ?_
      rintro e w1 ⟨rfl, hb1⟩
      have hB := HB.out.1.trans (hb1.mono HB.out.1.size)
      obtain ⟨a0, a1, a2, a3, a4⟩ := fun_box (box3_later hb1 HB.out.2.1)
      obtain ⟨c0, c1, c2, c3, c4⟩ := fun_box (box3_later hb1 HB.out.2.2)
      have HB1 := Lib.hid hB
      clear hB hb1
      go_wp2_with fail
      refine (HX.out _ HB1.out).mono ?_
      rintro e w2 ⟨rfl, hb2⟩
      go_wp2_with fail
      go_ret
      exact ⟨rfl, HB1.out.trans (hb2.mono HB1.out.size)⟩
  · have hd : (s1.toList == s2.toList) = false := strs_ne he
    have hz : (decide (s1 = s2) && (B1 && B2)) = false := by simp [he]
    rw [hz]
    clear he hz
    go_enter Tryz.func43, Tryz.ntmps43
    go_wp2_with fail
    go_ret
    exact ⟨rfl, HB.out.1⟩

set_option maxRecDepth 100000 in
set_option maxHeartbeats 4000000 in
/-- slices.EqualFunc of functions, by alike -/
theorem funsequal_any (x y : Fu) (w : World) (p q : Option Addr) (n c m c' : Nat) (hv1 : ∀ i, i < x.len → (x.st i).valid = true ∧ (x.bt i).sz < 100000) (hv2 : ∀ i, i < y.len → (y.st i).valid = true ∧ (y.bt i).sz < 100000)
    (hx : IsF w x p n c) (hy : IsF w y q m c') :
    Calls Tryz.prog 42 #[.slice p n c, .slice q m c', .func (Fn.func 43) #[] #[]] w fun e w' => e = .returned (.bool (fuEq x y)) ∧ Below w.heap.size w w' := by
  have hx0 := hx
  have hy0 := hy
  obtain ⟨rfl, hcap, hmax, hnil, _⟩ := hx
  obtain ⟨rfl, hcap', hmax', hnil', _⟩ := hy
  unfold maxLen at hmax hmax'
  have HXY := Lib.hid (And.intro hx0 hy0)
  have HV := Lib.hid (And.intro hv1 hv2)
  clear hx0 hy0 hv1 hv2
  by_cases hl : x.len = y.len
  case neg =>
    have hd : ((x.len : Int) != (y.len : Int)) = true := by rw [bne_iff_ne]; omega
    have e : fuEq x y = false := by simp [fuEq, hl]
    rw [e]
    go_enter Tryz.func42, Tryz.ntmps42
    go_wp2_with fail
    go_ret
    exact ⟨rfl, Below.refl _ _⟩
  case pos =>
    have hd : ((x.len : Int) != (y.len : Int)) = false := by simp [hl]
    have e : funsE x y 0 (x.len - 0) = fuEq x y := by simp [fuEq, hl]
    have hle : x.len ≤ y.len := by omega
    obtain ⟨Z, hZ⟩ : ∃ Z, fuEq x y = Z := ⟨_, rfl⟩
    rw [hZ] at e ⊢
    clear hZ hl
    go_enter Tryz.func42, Tryz.ntmps42
    go_wp2_with fail
    go_loopw [17] (fun v wr => ∃ j : Nat, j ≤ x.len ∧ v = .int .i64 (j : Int) ∧ funsE x y j (x.len - j) = Z ∧ Below w.heap.size w wr)
      (fun v _ => x.len - (Go.RowKit.intOf v).toNat)
    case atStart => exact ⟨0, Nat.zero_le _, rfl, e, Below.refl _ _⟩
    case round =>
      clear hd
      obtain ⟨j, hj, rfl, hmo, hb⟩ := hrel
      have HB := Lib.hid hb
      by_cases hlt : j < x.len
      · obtain ⟨b1, o1, rfl, p1, n1, c1, q1, m1, d1, e1, e2, e3, e4, e5, e6, e7⟩ := rowF_all (HXY.out.1.below hb) hlt
        obtain ⟨b2, o2, rfl, p2, n2, c2, q2, m2, d2, f1, f2, f3, f4, f5, f6, f7⟩ := rowF_all (HXY.out.2.below hb) (show j < y.len by omega)
        have hlt2 : j < y.len := by omega
        have A1 := fun o => (keep_alloc wr o _ _ (lt_of_cell f1)).trans f1
        have A2 := fun o => (keep_alloc wr o _ _ (lt_of_cell f2)).trans f2
        have A3 := fun o => (keep_alloc wr o _ _ (lt_of_cell f3)).trans f3
        have A4 := fun o => (keep_alloc wr o _ _ (lt_of_cell f4)).trans f4
        have A5 := fun o => (keep_alloc wr o _ _ (lt_of_cell f5)).trans f5
        have HA := Lib.hid fun W (h : Below wr.heap.size wr W) => alike_any x y j W p1 n1 c1 q1 m1 d1 p2 n2 c2 q2 m2 d2 (HV.out.1 j hlt).1 (HV.out.2 j hlt2).1 (HV.out.1 j hlt).2 (HV.out.2 j hlt2).2 (e6.below h) (e7.below h) (f6.below h) (f7.below h)
        have hB : ∀ o o' : Obj, Below wr.heap.size wr ((wr.alloc o).alloc o') := fun o o' => ((Below.refl _ _).alloc (Nat.le_refl _) _).alloc (by simp) _
        have HB2 := Lib.hid hB
        rw [funsE_at x y hlt] at hmo
        clear hb e6 e7 f6 f7 hB f1 f2 f3 f4 f5
        generalize x.nm j = s1 at e1 HA
        generalize y.nm j = s2 at A1 HA
        generalize x.bk j = k1 at e3 HA
        generalize y.bk j = k2 at A3 HA
        generalize x.bn j = n1' at e4 HA
        generalize y.bn j = n2' at A4 HA
        cases hE : funE x y j with
        | true =>
          rw [hE] at HA hmo
          have HM := Lib.hid hmo
          clear hmo hE
          go_wp2_with fail
          refine (HA.out _ (HB2.out _ _)).mono ?_
          rintro e w1 ⟨rfl, hb1⟩
          have hB1 := HB.out.trans (((HB2.out _ _).trans (hb1.mono (HB2.out _ _).size)).mono HB.out.size)
          have HB1 := Lib.hid hB1
          clear hB1 hb1
          go_wp2_with fail
          go_roundw
          case rel => exact ⟨j + 1, by omega, by go_num, HM.out, HB1.out⟩
          case measure => simp [Go.RowKit.intOf]; omega
        | false =>
          rw [hE] at HA hmo
          have hz : Z = false := by rw [← hmo]; rfl
          subst hz
          clear hmo hE
          go_wp2_with fail
          refine (HA.out _ (HB2.out _ _)).mono ?_
          rintro e w1 ⟨rfl, hb1⟩
          have hB1 := HB.out.trans (((HB2.out _ _).trans (hb1.mono (HB2.out _ _).size)).mono HB.out.size)
          have HB1 := Lib.hid hB1
          clear hB1 hb1
          go_wp2_with fail
          go_ret
          exact ⟨rfl, HB1.out⟩
      · have hz : Z = true := by rw [← hmo]; exact funsE_end x y hlt
        subst hz
        clear hmo
        go_wp2_with fail
        go_ret
        exact ⟨rfl, HB.out⟩

/-- what Same answers -/
def scSame (x y : Sc) : Bool := scOk x && (scOk y && scEq x y)

theorem good_small {x : Sc} (h : scOk x = true) : ∀ i, i < x.F.len → (x.F.st i).valid = true ∧ (x.F.bt i).sz < 100000 := fun i hi => ⟨(good_of h).sort i hi, by have := (good_of h).size i hi; omega⟩

set_option maxRecDepth 100000 in
set_option maxHeartbeats 4000000 in
theorem ssame_any (x y : Sc) (a b : At2) (w : World) (hx : IsC w x a) (hy : IsC w y b) :
    Calls Tryz.prog 17 #[.agg #[.slice a.sp a.sn a.sc, .slice a.fp a.fn a.fc], .agg #[.slice b.sp b.sn b.sc, .slice b.fp b.fn b.fc]] w fun e w' => e = .returned (.bool (scSame x y)) ∧ Below w.heap.size w w' := by
  have H1 := Lib.hid fun W (h : Below w.heap.size w W) => scheck_any x a W (hx.below h)
  have H2 := Lib.hid fun W (h : Below w.heap.size w W) => scheck_any y b W (hy.below h)
  have H3 := Lib.hid fun W (h : Below w.heap.size w W) => symsequal_any x.S y.S W a.sp b.sp a.sn a.sc b.sn b.sc (hx.1.below h) (hy.1.below h)
  have H4 := Lib.hid fun (h1 : scOk x = true) (h2 : scOk y = true) W (h : Below w.heap.size w W) => funsequal_any x.F y.F W a.fp b.fp a.fn a.fc b.fn b.fc (good_small h1) (good_small h2) (hx.2.below h) (hy.2.below h)
  obtain ⟨sp, sn, sc, fp, fn, fc⟩ := a
  obtain ⟨sp', sn', sc', fp', fn', fc'⟩ := b
  dsimp only at H1 H2 H3 H4 ⊢
  have hbx1 := alloc_kept (heap_new w (.cells #[.slice sp sn sc, .slice fp fn fc] 25)) (.cells #[.slice sp' sn' sc', .slice fp' fn' fc'] 25)
  have hbx2 := heap_new2 w (.cells #[.slice sp sn sc, .slice fp fn fc] 25) (.cells #[.slice sp' sn' sc', .slice fp' fn' fc'] 25)
  have B2 : Below w.heap.size w ((w.alloc (.cells #[.slice sp sn sc, .slice fp fn fc] 25)).alloc (.cells #[.slice sp' sn' sc', .slice fp' fn' fc'] 25)) := ((Below.refl _ _).alloc (Nat.le_refl _) _).alloc (by simp) _
  have HB := Lib.hid (And.intro B2 (And.intro hbx1 hbx2))
  clear B2 hbx1 hbx2 hx hy
  unfold scSame scEq
  generalize syEq x.S y.S = B1 at H3
  generalize fuEq x.F y.F = B2 at H4
  unfold scE at H1 H2
  cases h1 : scOk x with
  | false =>
    rw [h1] at H1
    rw [if_neg (by simp)] at H1
    clear H4
    go_enter Tryz.func17, Tryz.ntmps17
    go_wp2_with fail
    refine (H1.out _ HB.out.1).mono ?_
    rintro e w1 ⟨rfl, hb1⟩
    go_wp2_with fail
    go_ret
    exact ⟨rfl, HB.out.1.trans (hb1.mono HB.out.1.size)⟩
  | true =>
    rw [h1] at H1
    rw [if_pos rfl] at H1
    cases h2 : scOk y with
    | false =>
      rw [h2] at H2
      rw [if_neg (by simp)] at H2
      clear H4
      go_enter Tryz.func17, Tryz.ntmps17
      go_wp2_with fail
      refine (H1.out _ HB.out.1).mono ?_
      rintro e w1 ⟨rfl, hb1⟩
      obtain ⟨s1, s2, s3, s4⟩ := boxes2 (box3_later hb1 HB.out.2.1) (box3_later hb1 HB.out.2.2)
      have HB1 := Lib.hid (HB.out.1.trans (hb1.mono HB.out.1.size))
      clear hb1
      go_wp2_with fail
      refine (H2.out _ HB1.out).mono ?_
      rintro e w2 ⟨rfl, hb2⟩
      go_wp2_with fail
      go_ret
      exact ⟨rfl, HB1.out.trans (hb2.mono HB1.out.size)⟩
    | true =>
      rw [h2] at H2
      rw [if_pos rfl] at H2
      have H4' := Lib.hid (H4.out h1 h2)
      clear H4
      go_enter Tryz.func17, Tryz.ntmps17
      go_wp2_with fail
      refine (H1.out _ HB.out.1).mono ?_
      rintro e w1 ⟨rfl, hb1⟩
      have HB1 := Lib.hid (And.intro (HB.out.1.trans (hb1.mono HB.out.1.size)) (And.intro (box3_later hb1 HB.out.2.1) (box3_later hb1 HB.out.2.2)))
      obtain ⟨s1, s2, s3, s4⟩ := boxes2 HB1.out.2.1 HB1.out.2.2
      clear hb1 HB H1
      go_wp2_with fail
      refine (H2.out _ HB1.out.1).mono ?_
      rintro e w2 ⟨rfl, hb2⟩
      have HB2 := Lib.hid (And.intro (HB1.out.1.trans (hb2.mono HB1.out.1.size)) (And.intro (box3_later hb2 HB1.out.2.1) (box3_later hb2 HB1.out.2.2)))
      clear hb2 HB1 s1 s2 s3 s4 H2
      obtain ⟨s1, s2, s3, s4⟩ := boxes2 HB2.out.2.1 HB2.out.2.2
      go_wp2_with fail
      refine (H3.out _ HB2.out.1).mono ?_
      cases B1 with
      | false =>
        rintro e w3 ⟨rfl, hb3⟩
        go_wp2_with fail
        go_ret
        exact ⟨rfl, HB2.out.1.trans (hb3.mono HB2.out.1.size)⟩
      | true =>
        rintro e w3 ⟨rfl, hb3⟩
        have HB3 := Lib.hid (And.intro (HB2.out.1.trans (hb3.mono HB2.out.1.size)) (And.intro (box3_later hb3 HB2.out.2.1) (box3_later hb3 HB2.out.2.2)))
        clear hb3 HB2 s1 s2 s3 s4 H3
        obtain ⟨s1, s2, s3, s4⟩ := boxes2 HB3.out.2.1 HB3.out.2.2
        go_wp2_with fail
        refine (H4'.out _ HB3.out.1).mono ?_
        rintro e w4 ⟨rfl, hb4⟩
        go_wp2_with fail
        go_ret
        exact ⟨rfl, HB3.out.1.trans (hb4.mono HB3.out.1.size)⟩

end Go.Proofs.YtjdnbmcjnkmgdaaGreatDoor

/-
  The walks of the reference's Equal and Same, of two places at which one scheme lies. Conditions: that it lies there.
-/
set_option linter.unusedSimpArgs false
set_option linter.unusedVariables false
namespace Go.Proofs.YtjdnbmcjnkmgdaaGreatDoor
open Go.RowKit Go.Maps

theorem cell_next {W W' : World} (hb : Below W.heap.size W W') {b o : Nat} {v : Value} (h : W.cell? ⟨b, o, none⟩ = some v) : W'.cell? ⟨b, o, none⟩ = some v := ((bcell hb).1 b o (lt_of_cell h)).trans h

/-- what the comparison of two functions reads: two boxes' second fields, two rows -/
theorem at12_next {W W' : World} (hb : Below W.heap.size W W') {A B : Nat} {va vb : Value} {b1 o1 : Nat} {v0 v1 v2 v3 v4 : Value} {b2 o2 : Nat} {u0 u1 u2 u3 u4 : Value}
    (h : W.cell? ⟨A, 1, none⟩ = some va ∧ W.cell? ⟨B, 1, none⟩ = some vb ∧ W.cell? ⟨b1, o1, none⟩ = some v0 ∧ W.cell? ⟨b1, o1 + 1, none⟩ = some v1 ∧ W.cell? ⟨b1, o1 + 2, none⟩ = some v2 ∧ W.cell? ⟨b1, o1 + 2 + 1, none⟩ = some v3 ∧ W.cell? ⟨b1, o1 + 2 + 2, none⟩ = some v4 ∧ W.cell? ⟨b2, o2, none⟩ = some u0 ∧ W.cell? ⟨b2, o2 + 1, none⟩ = some u1 ∧ W.cell? ⟨b2, o2 + 2, none⟩ = some u2 ∧ W.cell? ⟨b2, o2 + 2 + 1, none⟩ = some u3 ∧ W.cell? ⟨b2, o2 + 2 + 2, none⟩ = some u4) :
    W'.cell? ⟨A, 1, none⟩ = some va ∧ W'.cell? ⟨B, 1, none⟩ = some vb ∧ W'.cell? ⟨b1, o1, none⟩ = some v0 ∧ W'.cell? ⟨b1, o1 + 1, none⟩ = some v1 ∧ W'.cell? ⟨b1, o1 + 2, none⟩ = some v2 ∧ W'.cell? ⟨b1, o1 + 2 + 1, none⟩ = some v3 ∧ W'.cell? ⟨b1, o1 + 2 + 2, none⟩ = some v4 ∧ W'.cell? ⟨b2, o2, none⟩ = some u0 ∧ W'.cell? ⟨b2, o2 + 1, none⟩ = some u1 ∧ W'.cell? ⟨b2, o2 + 2, none⟩ = some u2 ∧ W'.cell? ⟨b2, o2 + 2 + 1, none⟩ = some u3 ∧ W'.cell? ⟨b2, o2 + 2 + 2, none⟩ = some u4 := by
  obtain ⟨h1, h2, h3, h4, h5, h6, h7, h8, h9, h10, h11, h12⟩ := h
  exact ⟨cell_next hb h1, cell_next hb h2, cell_next hb h3, cell_next hb h4, cell_next hb h5, cell_next hb h6, cell_next hb h7, cell_next hb h8, cell_next hb h9, cell_next hb h10, cell_next hb h11, cell_next hb h12⟩

set_option maxRecDepth 100000 in
set_option maxHeartbeats 8000000 in
/-- the reference's Equal, of two places at which one scheme lies -/
theorem refequal3_self (x : Sc) (a b : At2) (w : World) (hx : IsC w x a) (hy : IsC w x b) :
    Calls Tryz.prog 35 #[.agg #[.slice a.sp a.sn a.sc, .slice a.fp a.fn a.fc], .agg #[.slice b.sp b.sn b.sc, .slice b.fp b.fn b.fc]] w fun e w' => e = .returned (.bool true) ∧ Below w.heap.size w w' := by
  obtain ⟨sp, sn, sc, fp, fn, fc⟩ := a
  obtain ⟨sp', sn', sc', fp', fn', fc'⟩ := b
  obtain ⟨rfl, hsc, hsm, hsz, _⟩ := id hx.1
  obtain ⟨rfl, hfc, hfm, hfz, _⟩ := id hx.2
  obtain ⟨e1, hsc', hsm', hsz', _⟩ := id hy.1
  obtain ⟨e2, hfc', hfm', hfz', _⟩ := id hy.2
  unfold maxLen at hsm hfm hsm' hfm'
  dsimp only at e1 e2 hsc hsm hsz hfc hfm hfz hsc' hsm' hsz' hfc' hfm' hfz' ⊢
  subst e1 e2
  have HXY := Lib.hid (And.intro hx hy)
  clear hx hy hsz hfz hsz' hfz'
  have hbx1 := alloc_kept (heap_new w (.cells #[.slice sp x.S.len sc, .slice fp x.F.len fc] 25)) (.cells #[.slice sp' x.S.len sc', .slice fp' x.F.len fc'] 25)
  have hbx2 := heap_new2 w (.cells #[.slice sp x.S.len sc, .slice fp x.F.len fc] 25) (.cells #[.slice sp' x.S.len sc', .slice fp' x.F.len fc'] 25)
  have B2 : Below w.heap.size w ((w.alloc (.cells #[.slice sp x.S.len sc, .slice fp x.F.len fc] 25)).alloc (.cells #[.slice sp' x.S.len sc', .slice fp' x.F.len fc'] 25)) := ((Below.refl _ _).alloc (Nat.le_refl _) _).alloc (by simp) _
  have HB := Lib.hid (And.intro B2 (And.intro hbx1 hbx2))
  clear B2 hbx1 hbx2
  have hd1 : ((x.S.len : Int) != (x.S.len : Int)) = false := by simp
  have hd2 : ((x.F.len : Int) != (x.F.len : Int)) = false := by simp
  go_enter Tryz.func35, Tryz.ntmps35
  go_wp2_with fail
  clear hd1 hd2
  go_loopw [26] (fun v wr => ∃ j : Nat, j ≤ x.S.len ∧ v = .int .i64 (j : Int) ∧ Below w.heap.size w wr ∧
      wr.heap[w.heap.size]? = some (.cells #[.slice sp x.S.len sc, .slice fp x.F.len fc] 25 (0, 0)) ∧ wr.heap[w.heap.size + 1]? = some (.cells #[.slice sp' x.S.len sc', .slice fp' x.F.len fc'] 25 (0, 0)))
    (fun v _ => x.S.len - (Go.RowKit.intOf v).toNat)
  case atStart => exact ⟨0, Nat.zero_le _, rfl, HB.out.1, HB.out.2.1, HB.out.2.2⟩
  case round =>
    clear HB
    obtain ⟨j, hj, rfl, hb, hb1, hb2⟩ := hrel
    have HB := Lib.hid (And.intro hb (And.intro hb1 hb2))
    obtain ⟨t1, t2, t3, t4⟩ := boxes2 hb1 hb2
    clear hb hb1 hb2
    by_cases hlt : j < x.S.len
    · obtain ⟨b1, o1, rfl, f1, f2⟩ := rowS_all (HXY.out.1.below HB.out.1).1 hlt
      obtain ⟨b2, o2, rfl, f3, f4⟩ := rowS_all (HXY.out.2.below HB.out.1).1 hlt
      generalize x.S.nm j = s1 at f1 f3
      generalize x.S.rk j = k1 at f2 f4
      go_wp2_with fail
      go_quiet (fail)
      go_wp2_with fail
      go_roundw
      case rel => exact ⟨j + 1, by omega, by go_num, below_drewN HB.out.1 _, HB.out.2.1, HB.out.2.2⟩
      case measure => simp [Go.RowKit.intOf]; omega
    · go_wp2_with fail
      clear t1 t2 t3 t4
      go_loopw [44] (fun v wr => ∃ j : Nat, j ≤ x.F.len ∧ v = .int .i64 (j : Int) ∧ Below w.heap.size w wr ∧
          wr.heap[w.heap.size]? = some (.cells #[.slice sp x.S.len sc, .slice fp x.F.len fc] 25 (0, 0)) ∧ wr.heap[w.heap.size + 1]? = some (.cells #[.slice sp' x.S.len sc', .slice fp' x.F.len fc'] 25 (0, 0)))
        (fun v _ => x.F.len - (Go.RowKit.intOf v).toNat)
      case atStart => exact ⟨0, Nat.zero_le _, rfl, HB.out.1, HB.out.2.1, HB.out.2.2⟩
      case round =>
        clear HB hj hlt
        obtain ⟨j, hj, rfl, hb, hb1, hb2⟩ := hrel
        have HB := Lib.hid (And.intro hb (And.intro hb1 hb2))
        clear hb
        by_cases hlt : j < x.F.len
        · obtain ⟨b1, o1, rfl, p1, n1, c1, q1, m1, d1, e1, e2, e3, e4, e5, e6, e7⟩ := rowF_all (HXY.out.1.below HB.out.1).2 hlt
          obtain ⟨b2, o2, rfl, p2, n2, c2, q2, m2, d2, f1, f2, f3, f4, f5, f6, f7⟩ := rowF_all (HXY.out.2.below HB.out.1).2 hlt
          have K0 : wr.drew.cell? ⟨w.heap.size, 1, none⟩ = some (.slice (some ⟨b1, o1, none⟩) x.F.len fc) ∧ wr.drew.cell? ⟨w.heap.size + 1, 1, none⟩ = some (.slice (some ⟨b2, o2, none⟩) x.F.len fc') ∧ wr.drew.cell? ⟨b1, o1 + j * 5, none⟩ = some (.string (x.F.nm j)) ∧ wr.drew.cell? ⟨b1, o1 + j * 5 + 1, none⟩ = some (.slice p1 n1 c1) ∧ wr.drew.cell? ⟨b1, o1 + j * 5 + 2, none⟩ = some (.int .i64 (x.F.bk j)) ∧ wr.drew.cell? ⟨b1, o1 + j * 5 + 2 + 1, none⟩ = some (.int .i64 (x.F.bn j)) ∧ wr.drew.cell? ⟨b1, o1 + j * 5 + 2 + 2, none⟩ = some (.slice q1 m1 d1) ∧ wr.drew.cell? ⟨b2, o2 + j * 5, none⟩ = some (.string (x.F.nm j)) ∧ wr.drew.cell? ⟨b2, o2 + j * 5 + 1, none⟩ = some (.slice p2 n2 c2) ∧ wr.drew.cell? ⟨b2, o2 + j * 5 + 2, none⟩ = some (.int .i64 (x.F.bk j)) ∧ wr.drew.cell? ⟨b2, o2 + j * 5 + 2 + 1, none⟩ = some (.int .i64 (x.F.bn j)) ∧ wr.drew.cell? ⟨b2, o2 + j * 5 + 2 + 2, none⟩ = some (.slice q2 m2 d2) :=
            ⟨(boxes2 hb1 hb2).2.1, (boxes2 hb1 hb2).2.2.2, e1, e2, e3, e4, e5, f1, f2, f3, f4, f5⟩
          have HS := fun W (h : Below w.heap.size w W ∧ Below wr.heap.size wr W) => refequal_any (x.F.st j).nodes (x.F.st j) (x.F.st j) W p1 p2 n1 c1 n2 c2 (Nat.le_refl _) (e6.below h.2) (f6.below h.2)
          have HX := fun W (h : Below w.heap.size w W ∧ Below wr.heap.size wr W) => trefequal_any ((x.F.bt j).sz + 1) (x.F.bt j) (x.F.bt j) (x.F.bk j) (x.F.bn j) (x.F.bk j) (x.F.bn j) W q1 q2 m1 d1 m2 d2 (Nat.lt_succ_self _) (e7.below h.2) (f7.below h.2)
          rw [(T.eqT_iff (x.F.st j) (x.F.st j)).2 rfl] at HS
          rw [show X.eq1 (x.F.bk j) (x.F.bn j) (x.F.bt j) (x.F.bk j) (x.F.bn j) (x.F.bt j) = true by simp [X.eq1, (X.eqX_iff (x.F.bt j) (x.F.bt j)).2 rfl]] at HX
          have HS := Lib.hid HS
          have HX := Lib.hid HX
          have hBD : Below w.heap.size w wr.drew ∧ Below wr.heap.size wr wr.drew := ⟨below_drewN HB.out.1 1, below_drewN (Below.refl _ _) 1⟩
          have HBD := Lib.hid hBD
          clear hb1 hb2 e1 e2 e3 e4 e5 e6 e7 f1 f2 f3 f4 f5 f6 f7 hBD
          generalize x.F.nm j = s1 at K0
          generalize x.F.bk j = k1 at K0 HX
          generalize x.F.bn j = n1' at K0 HX
          go_wp2_with fail
          go_region_held3 (fun W => W.cell? ⟨w.heap.size, 1, none⟩ = some (.slice (some ⟨b1, o1, none⟩) x.F.len fc) ∧ W.cell? ⟨w.heap.size + 1, 1, none⟩ = some (.slice (some ⟨b2, o2, none⟩) x.F.len fc') ∧ W.cell? ⟨b1, o1 + j * 5, none⟩ = some (.string s1) ∧ W.cell? ⟨b1, o1 + j * 5 + 1, none⟩ = some (.slice p1 n1 c1) ∧ W.cell? ⟨b1, o1 + j * 5 + 2, none⟩ = some (.int .i64 k1) ∧ W.cell? ⟨b1, o1 + j * 5 + 2 + 1, none⟩ = some (.int .i64 n1') ∧ W.cell? ⟨b1, o1 + j * 5 + 2 + 2, none⟩ = some (.slice q1 m1 d1) ∧ W.cell? ⟨b2, o2 + j * 5, none⟩ = some (.string s1) ∧ W.cell? ⟨b2, o2 + j * 5 + 1, none⟩ = some (.slice p2 n2 c2) ∧ W.cell? ⟨b2, o2 + j * 5 + 2, none⟩ = some (.int .i64 k1) ∧ W.cell? ⟨b2, o2 + j * 5 + 2 + 1, none⟩ = some (.int .i64 n1') ∧ W.cell? ⟨b2, o2 + j * 5 + 2 + 2, none⟩ = some (.slice q2 m2 d2))
            (first | exact K0 | (refine at12_next hb4 ?_; assumption) | (refine at12_next hb3 ?_; assumption))
            (first
            | (go_at_call 76; refine (HS.out _ HBD.out).mono ?_; rintro e w3 ⟨rfl, hb3⟩)
            | (go_at_call 77; refine (HX.out _ ⟨HBD.out.1.trans (hb3.mono HBD.out.1.size), HBD.out.2.trans (hb3.mono HBD.out.2.size)⟩).mono ?_; rintro e w4 ⟨rfl, hb4⟩))
          all_goals
            have hb34 := hb3.trans (hb4.mono hb3.size)
            have HF := Lib.hid (And.intro (HBD.out.1.trans (hb34.mono HBD.out.1.size)) (And.intro (box3_later (HBD.out.2.trans (hb34.mono HBD.out.2.size)) HB.out.2.1) (box3_later (HBD.out.2.trans (hb34.mono HBD.out.2.size)) HB.out.2.2)))
            clear hb34
            go_wp2_with fail
            go_roundw
            case rel => exact ⟨j + 1, by omega, by go_num, HF.out.1, HF.out.2.1, HF.out.2.2⟩
            case measure => simp [Go.RowKit.intOf]; omega
        · obtain ⟨t1, t2, t3, t4⟩ := boxes2 hb1 hb2
          clear hb1 hb2
          go_wp2_with fail
          go_ret
          exact ⟨rfl, HB.out.1⟩

set_option maxRecDepth 100000 in
set_option maxHeartbeats 4000000 in
theorem refsame3_self (x : Sc) (a b : At2) (w : World) (hx : IsC w x a) (hy : IsC w x b) :
    Calls Tryz.prog 18 #[.agg #[.slice a.sp a.sn a.sc, .slice a.fp a.fn a.fc], .agg #[.slice b.sp b.sn b.sc, .slice b.fp b.fn b.fc]] w fun e w' => e = .returned (.bool (scOk x)) ∧ Below w.heap.size w w' := by
  have H1 := Lib.hid fun W (h : Below w.heap.size w W) => refis3_any x a W (hx.below h)
  have H2 := Lib.hid fun W (h : Below w.heap.size w W) => refis3_any x b W (hy.below h)
  have H3 := Lib.hid fun W (h : Below w.heap.size w W) => refequal3_self x a b W (hx.below h) (hy.below h)
  obtain ⟨sp, sn, sc, fp, fn, fc⟩ := a
  obtain ⟨sp', sn', sc', fp', fn', fc'⟩ := b
  dsimp only at H1 H2 H3 ⊢
  have hbx1 := alloc_kept (heap_new w (.cells #[.slice sp sn sc, .slice fp fn fc] 25)) (.cells #[.slice sp' sn' sc', .slice fp' fn' fc'] 25)
  have hbx2 := heap_new2 w (.cells #[.slice sp sn sc, .slice fp fn fc] 25) (.cells #[.slice sp' sn' sc', .slice fp' fn' fc'] 25)
  have B2 : Below w.heap.size w ((w.alloc (.cells #[.slice sp sn sc, .slice fp fn fc] 25)).alloc (.cells #[.slice sp' sn' sc', .slice fp' fn' fc'] 25)) := ((Below.refl _ _).alloc (Nat.le_refl _) _).alloc (by simp) _
  have HB := Lib.hid (And.intro B2 (And.intro hbx1 hbx2))
  clear B2 hbx1 hbx2 hx hy
  cases h1 : scOk x with
  | false =>
    rw [h1] at H1
    go_enter Tryz.func18, Tryz.ntmps18
    go_wp2_with fail
    refine (H1.out _ HB.out.1).mono ?_
    rintro e w1 ⟨rfl, hb1⟩
    go_wp2_with fail
    go_ret
    exact ⟨rfl, HB.out.1.trans (hb1.mono HB.out.1.size)⟩
  | true =>
    rw [h1] at H1 H2
    go_enter Tryz.func18, Tryz.ntmps18
    go_wp2_with fail
    refine (H1.out _ HB.out.1).mono ?_
    rintro e w1 ⟨rfl, hb1⟩
    have HB1 := Lib.hid (And.intro (HB.out.1.trans (hb1.mono HB.out.1.size)) (And.intro (box3_later hb1 HB.out.2.1) (box3_later hb1 HB.out.2.2)))
    obtain ⟨s1, s2, s3, s4⟩ := boxes2 HB1.out.2.1 HB1.out.2.2
    clear hb1 HB H1
    go_wp2_with fail
    refine (H2.out _ HB1.out.1).mono ?_
    rintro e w2 ⟨rfl, hb2⟩
    have HB2 := Lib.hid (And.intro (HB1.out.1.trans (hb2.mono HB1.out.1.size)) (And.intro (box3_later hb2 HB1.out.2.1) (box3_later hb2 HB1.out.2.2)))
    clear hb2 HB1 s1 s2 s3 s4 H2
    obtain ⟨s1, s2, s3, s4⟩ := boxes2 HB2.out.2.1 HB2.out.2.2
    go_wp2_with fail
    refine (H3.out _ HB2.out.1).mono ?_
    rintro e w3 ⟨rfl, hb3⟩
    go_wp2_with fail
    go_ret
    exact ⟨rfl, HB2.out.1.trans (hb3.mono HB2.out.1.size)⟩


end Go.Proofs.YtjdnbmcjnkmgdaaGreatDoor

/-
  The walks of the reference's Equal and Same, and of the statement on Same. Conditions: that the schemes lie in memory; of the statement's, that the package variables read as laid.
-/
set_option linter.unusedSimpArgs false
set_option linter.unusedVariables false
namespace Go.Proofs.YtjdnbmcjnkmgdaaGreatDoor
open Go.RowKit Go.Maps

set_option maxRecDepth 100000 in
set_option maxHeartbeats 8000000 in
theorem refequal3_any (x y : Sc) (a b : At2) (w : World) (hx : IsC w x a) (hy : IsC w y b) :
    Calls Tryz.prog 35 #[.agg #[.slice a.sp a.sn a.sc, .slice a.fp a.fn a.fc], .agg #[.slice b.sp b.sn b.sc, .slice b.fp b.fn b.fc]] w fun e w' => e = .returned (.bool (scEq x y)) ∧ Below w.heap.size w w' := by
  obtain ⟨sp, sn, sc, fp, fn, fc⟩ := a
  obtain ⟨sp', sn', sc', fp', fn', fc'⟩ := b
  obtain ⟨rfl, hsc, hsm, hsz, _⟩ := id hx.1
  obtain ⟨rfl, hfc, hfm, hfz, _⟩ := id hx.2
  obtain ⟨rfl, hsc', hsm', hsz', _⟩ := id hy.1
  obtain ⟨rfl, hfc', hfm', hfz', _⟩ := id hy.2
  unfold maxLen at hsm hfm hsm' hfm'
  dsimp only at hsc hsm hsz hfc hfm hfz hsc' hsm' hsz' hfc' hfm' hfz' ⊢
  have HXY := Lib.hid (And.intro hx hy)
  clear hx hy hsz hfz hsz' hfz'
  have hbx1 := alloc_kept (heap_new w (.cells #[.slice sp x.S.len sc, .slice fp x.F.len fc] 25)) (.cells #[.slice sp' y.S.len sc', .slice fp' y.F.len fc'] 25)
  have hbx2 := heap_new2 w (.cells #[.slice sp x.S.len sc, .slice fp x.F.len fc] 25) (.cells #[.slice sp' y.S.len sc', .slice fp' y.F.len fc'] 25)
  have B2 : Below w.heap.size w ((w.alloc (.cells #[.slice sp x.S.len sc, .slice fp x.F.len fc] 25)).alloc (.cells #[.slice sp' y.S.len sc', .slice fp' y.F.len fc'] 25)) := ((Below.refl _ _).alloc (Nat.le_refl _) _).alloc (by simp) _
  have HB := Lib.hid (And.intro B2 (And.intro hbx1 hbx2))
  clear B2 hbx1 hbx2
  by_cases h1 : x.S.len = y.S.len
  case neg =>
    have hd : ((x.S.len : Int) != (y.S.len : Int)) = true := by rw [bne_iff_ne]; omega
    have e : scEq x y = false := by simp [scEq, syEq, h1]
    rw [e]
    clear e h1
    go_enter Tryz.func35, Tryz.ntmps35
    go_wp2_with fail
    go_ret
    exact ⟨rfl, HB.out.1⟩
  have hd1 : ((x.S.len : Int) != (y.S.len : Int)) = false := by simp [h1]
  by_cases h2 : x.F.len = y.F.len
  case neg =>
    have hd : ((x.F.len : Int) != (y.F.len : Int)) = true := by rw [bne_iff_ne]; omega
    have e : scEq x y = false := by simp [scEq, fuEq, h2]
    rw [e]
    clear e h1 h2
    go_enter Tryz.func35, Tryz.ntmps35
    go_wp2_with fail
    go_ret
    exact ⟨rfl, HB.out.1⟩
  have hd2 : ((x.F.len : Int) != (y.F.len : Int)) = false := by simp [h2]
  have e : (symsE x.S y.S 0 (x.S.len - 0) && funsE x.F y.F 0 (x.F.len - 0)) = scEq x y := by simp [scEq, syEq, fuEq, h1, h2]
  have hle1 : x.S.len ≤ y.S.len := by omega
  have hle2 : x.F.len ≤ y.F.len := by omega
  obtain ⟨Z, hZ⟩ : ∃ Z, scEq x y = Z := ⟨_, rfl⟩
  rw [hZ] at e ⊢
  have HE := Lib.hid e
  clear hZ e h1 h2
  go_enter Tryz.func35, Tryz.ntmps35
  go_wp2_with fail
  clear hd1 hd2
  go_loopw [26] (fun v wr => ∃ j : Nat, j ≤ x.S.len ∧ v = .int .i64 (j : Int) ∧ (symsE x.S y.S j (x.S.len - j) && funsE x.F y.F 0 (x.F.len - 0)) = Z ∧ Below w.heap.size w wr ∧
      wr.heap[w.heap.size]? = some (.cells #[.slice sp x.S.len sc, .slice fp x.F.len fc] 25 (0, 0)) ∧ wr.heap[w.heap.size + 1]? = some (.cells #[.slice sp' y.S.len sc', .slice fp' y.F.len fc'] 25 (0, 0)))
    (fun v _ => x.S.len - (Go.RowKit.intOf v).toNat)
  case atStart => exact ⟨0, Nat.zero_le _, rfl, HE.out, HB.out.1, HB.out.2.1, HB.out.2.2⟩
  case round =>
    clear HE HB
    obtain ⟨j, hj, rfl, hmo, hb, hb1, hb2⟩ := hrel
    have HB := Lib.hid (And.intro hb (And.intro hb1 hb2))
    obtain ⟨t1, t2, t3, t4⟩ := boxes2 hb1 hb2
    clear hb hb1 hb2
    by_cases hlt : j < x.S.len
    · obtain ⟨b1, o1, rfl, f1, f2⟩ := rowS_all (HXY.out.1.below HB.out.1).1 hlt
      obtain ⟨b2, o2, rfl, f3, f4⟩ := rowS_all (HXY.out.2.below HB.out.1).1 (show j < y.S.len by omega)
      rw [symsE_at x.S y.S hlt] at hmo
      unfold symE at hmo
      have hlt2 : j < y.S.len := by omega
      generalize x.S.nm j = s1 at f1 hmo
      generalize y.S.nm j = s2 at f3 hmo
      generalize x.S.rk j = k1 at f2 hmo
      generalize y.S.rk j = k2 at f4 hmo
      by_cases h1 : s1 = s2
      · subst h1
        by_cases h2 : k1 = k2
        · subst h2
          have hmo2 : (symsE x.S y.S (j + 1) (x.S.len - (j + 1)) && funsE x.F y.F 0 (x.F.len - 0)) = Z := by simpa using hmo
          have HM := Lib.hid hmo2
          clear hmo hmo2
          go_wp2_with fail
          go_quiet (fail)
          go_wp2_with fail
          go_roundw
          case rel => exact ⟨j + 1, by omega, by go_num, HM.out, below_drewN HB.out.1 _, HB.out.2.1, HB.out.2.2⟩
          case measure => simp [Go.RowKit.intOf]; omega
        · have hd2 : (k1 == k2) = false := by simpa using h2
          have hz : Z = false := by rw [← hmo]; simp [h2]
          subst hz
          clear hmo
          go_wp2_with fail
          go_quiet (fail)
          go_wp2_with fail
          go_ret
          exact ⟨rfl, below_drewN HB.out.1 _⟩
      · have hd1 : (s1.toList == s2.toList) = false := strs_ne h1
        have hz : Z = false := by rw [← hmo]; simp [h1]
        subst hz
        clear hmo
        go_wp2_with fail
        go_quiet (fail)
        go_wp2_with fail
        go_ret
        exact ⟨rfl, below_drewN HB.out.1 _⟩
    · have hmo2 : funsE x.F y.F 0 (x.F.len - 0) = Z := by
        rw [← hmo, symsE_end x.S y.S hlt, Bool.true_and]
      have HM := Lib.hid hmo2
      clear hmo hmo2
      go_wp2_with fail
      clear t1 t2 t3 t4
      go_loopw [44] (fun v wr => ∃ j : Nat, j ≤ x.F.len ∧ v = .int .i64 (j : Int) ∧ funsE x.F y.F j (x.F.len - j) = Z ∧ Below w.heap.size w wr ∧
          wr.heap[w.heap.size]? = some (.cells #[.slice sp x.S.len sc, .slice fp x.F.len fc] 25 (0, 0)) ∧ wr.heap[w.heap.size + 1]? = some (.cells #[.slice sp' y.S.len sc', .slice fp' y.F.len fc'] 25 (0, 0)))
        (fun v _ => x.F.len - (Go.RowKit.intOf v).toNat)
      case atStart => exact ⟨0, Nat.zero_le _, rfl, HM.out, HB.out.1, HB.out.2.1, HB.out.2.2⟩
      case round =>
        clear HM HB hj hlt
        obtain ⟨j, hj, rfl, hmo, hb, hb1, hb2⟩ := hrel
        have HB := Lib.hid (And.intro hb (And.intro hb1 hb2))
        clear hb
        by_cases hlt : j < x.F.len
        · obtain ⟨b1, o1, rfl, p1, n1, c1, q1, m1, d1, e1, e2, e3, e4, e5, e6, e7⟩ := rowF_all (HXY.out.1.below HB.out.1).2 hlt
          obtain ⟨b2, o2, rfl, p2, n2, c2, q2, m2, d2, f1, f2, f3, f4, f5, f6, f7⟩ := rowF_all (HXY.out.2.below HB.out.1).2 (show j < y.F.len by omega)
          have hlt2 : j < y.F.len := by omega
          have K0 : wr.drew.cell? ⟨w.heap.size, 1, none⟩ = some (.slice (some ⟨b1, o1, none⟩) x.F.len fc) ∧ wr.drew.cell? ⟨w.heap.size + 1, 1, none⟩ = some (.slice (some ⟨b2, o2, none⟩) y.F.len fc') ∧ wr.drew.cell? ⟨b1, o1 + j * 5, none⟩ = some (.string (x.F.nm j)) ∧ wr.drew.cell? ⟨b1, o1 + j * 5 + 1, none⟩ = some (.slice p1 n1 c1) ∧ wr.drew.cell? ⟨b1, o1 + j * 5 + 2, none⟩ = some (.int .i64 (x.F.bk j)) ∧ wr.drew.cell? ⟨b1, o1 + j * 5 + 2 + 1, none⟩ = some (.int .i64 (x.F.bn j)) ∧ wr.drew.cell? ⟨b1, o1 + j * 5 + 2 + 2, none⟩ = some (.slice q1 m1 d1) ∧ wr.drew.cell? ⟨b2, o2 + j * 5, none⟩ = some (.string (y.F.nm j)) ∧ wr.drew.cell? ⟨b2, o2 + j * 5 + 1, none⟩ = some (.slice p2 n2 c2) ∧ wr.drew.cell? ⟨b2, o2 + j * 5 + 2, none⟩ = some (.int .i64 (y.F.bk j)) ∧ wr.drew.cell? ⟨b2, o2 + j * 5 + 2 + 1, none⟩ = some (.int .i64 (y.F.bn j)) ∧ wr.drew.cell? ⟨b2, o2 + j * 5 + 2 + 2, none⟩ = some (.slice q2 m2 d2) :=
            ⟨(boxes2 hb1 hb2).2.1, (boxes2 hb1 hb2).2.2.2, e1, e2, e3, e4, e5, f1, f2, f3, f4, f5⟩
          have HS := Lib.hid fun W (h : Below w.heap.size w W ∧ Below wr.heap.size wr W) => refequal_any (x.F.st j).nodes (x.F.st j) (y.F.st j) W p1 p2 n1 c1 n2 c2 (Nat.le_refl _) (e6.below h.2) (f6.below h.2)
          have HX := Lib.hid fun W (h : Below w.heap.size w W ∧ Below wr.heap.size wr W) => trefequal_any ((x.F.bt j).sz + 1) (x.F.bt j) (y.F.bt j) (x.F.bk j) (x.F.bn j) (y.F.bk j) (y.F.bn j) W q1 q2 m1 d1 m2 d2 (Nat.lt_succ_self _) (e7.below h.2) (f7.below h.2)
          rw [funsE_at x.F y.F hlt] at hmo
          unfold funE at hmo
          have hBD : Below w.heap.size w wr.drew ∧ Below wr.heap.size wr wr.drew := ⟨below_drewN HB.out.1 1, below_drewN (Below.refl _ _) 1⟩
          have HBD := Lib.hid hBD
          clear hb1 hb2 e1 e2 e3 e4 e5 e6 e7 f1 f2 f3 f4 f5 f6 f7 hBD
          generalize x.F.nm j = s1 at K0 hmo
          generalize y.F.nm j = s2 at K0 hmo
          generalize T.eqT (x.F.st j) (y.F.st j) = B1 at HS hmo
          generalize X.eq1 (x.F.bk j) (x.F.bn j) (x.F.bt j) (y.F.bk j) (y.F.bn j) (y.F.bt j) = B2 at HX hmo
          generalize x.F.bk j = k1 at K0 HX
          generalize y.F.bk j = k2 at K0 HX
          generalize x.F.bn j = n1' at K0 HX
          generalize y.F.bn j = n2' at K0 HX
          by_cases h1 : s1 = s2
          · have hd : (s1.toList == s2.toList) = true := by simp [h1]
            have hmo2 : (B1 && B2 && funsE x.F y.F (j + 1) (x.F.len - (j + 1))) = Z := by rw [← hmo]; simp [h1]
            clear hmo h1
            cases B1 with
            | false =>
              have hz : Z = false := by rw [← hmo2]; rfl
              subst hz
              clear hmo2 HX
              go_wp2_with fail
              refine wp_region_held_drew (S := (fun W => W.cell? ⟨w.heap.size, 1, none⟩ = some (.slice (some ⟨b1, o1, none⟩) x.F.len fc) ∧ W.cell? ⟨w.heap.size + 1, 1, none⟩ = some (.slice (some ⟨b2, o2, none⟩) y.F.len fc') ∧ W.cell? ⟨b1, o1 + j * 5, none⟩ = some (.string s1) ∧ W.cell? ⟨b1, o1 + j * 5 + 1, none⟩ = some (.slice p1 n1 c1) ∧ W.cell? ⟨b1, o1 + j * 5 + 2, none⟩ = some (.int .i64 k1) ∧ W.cell? ⟨b1, o1 + j * 5 + 2 + 1, none⟩ = some (.int .i64 n1') ∧ W.cell? ⟨b1, o1 + j * 5 + 2 + 2, none⟩ = some (.slice q1 m1 d1) ∧ W.cell? ⟨b2, o2 + j * 5, none⟩ = some (.string s2) ∧ W.cell? ⟨b2, o2 + j * 5 + 1, none⟩ = some (.slice p2 n2 c2) ∧ W.cell? ⟨b2, o2 + j * 5 + 2, none⟩ = some (.int .i64 k2) ∧ W.cell? ⟨b2, o2 + j * 5 + 2 + 1, none⟩ = some (.int .i64 n2') ∧ W.cell? ⟨b2, o2 + j * 5 + 2 + 2, none⟩ = some (.slice q2 m2 d2))) (by kernel_rfl) K0 (fun hHeld => ?_)
              refine wpAnyH_take (i := 0) (oi := { dst := some 47, op := Go.Op.fieldAddr 25 (Go.Operand.tmp 2) 1, type := 0, pos := "ref.go:65", after := #[], guard := none }) (v := ?_) rfl (by kernel_rfl) (by kernel_rfl) (by kernel_rfl) (fun _ _ _ h => h) (Or.inl ⟨by rfl, ?_⟩) (by assumption) ?_
              rotate_left
              · intro W hSw; (try dsimp only at hSw); go_simp; with_reducible rfl
              try simp only [Act.put, List.setIfInBounds_toArray, List.set_cons_zero, List.set_cons_succ]
              refine wpAnyH_take (i := 1) (oi := { dst := some 48, op := Go.Op.load 23 (Go.Operand.tmp 47), type := 23, pos := "ref.go:65", after := #[{ on := 0, ground := Go.Ground.data }], guard := none }) (v := ?_) rfl (by kernel_rfl) (by kernel_rfl) (by kernel_rfl) (fun _ _ _ h => h) (Or.inl ⟨by rfl, ?_⟩) (by assumption) ?_
              rotate_left
              · intro W hSw; (try dsimp only at hSw); go_simp; with_reducible rfl
              try simp only [Act.put, List.setIfInBounds_toArray, List.set_cons_zero, List.set_cons_succ]
              refine wpAnyH_take (i := 2) (oi := { dst := some 49, op := Go.Op.move (Go.Operand.tmp 6), type := 3, pos := "ref.go:65", after := #[], guard := none }) (v := ?_) rfl (by kernel_rfl) (by kernel_rfl) (by kernel_rfl) (fun _ _ _ h => h) (Or.inl ⟨by rfl, ?_⟩) (by assumption) ?_
              rotate_left
              · intro W hSw; (try dsimp only at hSw); go_simp; with_reducible rfl
              try simp only [Act.put, List.setIfInBounds_toArray, List.set_cons_zero, List.set_cons_succ]
              refine wpAnyH_take (i := 3) (oi := { dst := some 50, op := Go.Op.indexAddr 23 (Go.Operand.tmp 48) (Go.Operand.tmp 49), type := 0, pos := "ref.go:65", after := #[{ on := 1, ground := Go.Ground.data }, { on := 2, ground := Go.Ground.data }], guard := none }) (v := ?_) rfl (by kernel_rfl) (by kernel_rfl) (by kernel_rfl) (fun _ _ _ h => h) (Or.inl ⟨by rfl, ?_⟩) (by assumption) ?_
              rotate_left
              · intro W hSw; (try dsimp only at hSw); go_simp; with_reducible rfl
              try simp only [Act.put, List.setIfInBounds_toArray, List.set_cons_zero, List.set_cons_succ]
              refine wpAnyH_take (i := 4) (oi := { dst := some 51, op := Go.Op.fieldAddr 52 (Go.Operand.tmp 50) 0, type := 0, pos := "ref.go:65", after := #[{ on := 3, ground := Go.Ground.data }], guard := none }) (v := ?_) rfl (by kernel_rfl) (by kernel_rfl) (by kernel_rfl) (fun _ _ _ h => h) (Or.inl ⟨by rfl, ?_⟩) (by assumption) ?_
              rotate_left
              · intro W hSw; (try dsimp only at hSw); go_simp; with_reducible rfl
              try simp only [Act.put, List.setIfInBounds_toArray, List.set_cons_zero, List.set_cons_succ]
              refine wpAnyH_take (i := 5) (oi := { dst := some 52, op := Go.Op.load 9 (Go.Operand.tmp 51), type := 9, pos := "ref.go:65", after := #[{ on := 4, ground := Go.Ground.data }], guard := none }) (v := ?_) rfl (by kernel_rfl) (by kernel_rfl) (by kernel_rfl) (fun _ _ _ h => h) (Or.inl ⟨by rfl, ?_⟩) (by assumption) ?_
              rotate_left
              · intro W hSw; (try dsimp only at hSw); go_simp; with_reducible rfl
              try simp only [Act.put, List.setIfInBounds_toArray, List.set_cons_zero, List.set_cons_succ]
              refine wpAnyH_take (i := 6) (oi := { dst := some 53, op := Go.Op.fieldAddr 25 (Go.Operand.tmp 3) 1, type := 0, pos := "ref.go:65", after := #[], guard := none }) (v := ?_) rfl (by kernel_rfl) (by kernel_rfl) (by kernel_rfl) (fun _ _ _ h => h) (Or.inl ⟨by rfl, ?_⟩) (by assumption) ?_
              rotate_left
              · intro W hSw; (try dsimp only at hSw); go_simp; with_reducible rfl
              try simp only [Act.put, List.setIfInBounds_toArray, List.set_cons_zero, List.set_cons_succ]
              refine wpAnyH_take (i := 7) (oi := { dst := some 54, op := Go.Op.load 23 (Go.Operand.tmp 53), type := 23, pos := "ref.go:65", after := #[{ on := 6, ground := Go.Ground.data }], guard := none }) (v := ?_) rfl (by kernel_rfl) (by kernel_rfl) (by kernel_rfl) (fun _ _ _ h => h) (Or.inl ⟨by rfl, ?_⟩) (by assumption) ?_
              rotate_left
              · intro W hSw; (try dsimp only at hSw); go_simp; with_reducible rfl
              try simp only [Act.put, List.setIfInBounds_toArray, List.set_cons_zero, List.set_cons_succ]
              refine wpAnyH_take (i := 8) (oi := { dst := some 55, op := Go.Op.move (Go.Operand.tmp 6), type := 3, pos := "ref.go:65", after := #[], guard := none }) (v := ?_) rfl (by kernel_rfl) (by kernel_rfl) (by kernel_rfl) (fun _ _ _ h => h) (Or.inl ⟨by rfl, ?_⟩) (by assumption) ?_
              rotate_left
              · intro W hSw; (try dsimp only at hSw); go_simp; with_reducible rfl
              try simp only [Act.put, List.setIfInBounds_toArray, List.set_cons_zero, List.set_cons_succ]
              refine wpAnyH_take (i := 9) (oi := { dst := some 56, op := Go.Op.indexAddr 23 (Go.Operand.tmp 54) (Go.Operand.tmp 55), type := 0, pos := "ref.go:65", after := #[{ on := 7, ground := Go.Ground.data }, { on := 8, ground := Go.Ground.data }], guard := none }) (v := ?_) rfl (by kernel_rfl) (by kernel_rfl) (by kernel_rfl) (fun _ _ _ h => h) (Or.inl ⟨by rfl, ?_⟩) (by assumption) ?_
              rotate_left
              · intro W hSw; (try dsimp only at hSw); go_simp; with_reducible rfl
              try simp only [Act.put, List.setIfInBounds_toArray, List.set_cons_zero, List.set_cons_succ]
              refine wpAnyH_take (i := 10) (oi := { dst := some 57, op := Go.Op.fieldAddr 52 (Go.Operand.tmp 56) 0, type := 0, pos := "ref.go:65", after := #[{ on := 9, ground := Go.Ground.data }], guard := none }) (v := ?_) rfl (by kernel_rfl) (by kernel_rfl) (by kernel_rfl) (fun _ _ _ h => h) (Or.inl ⟨by rfl, ?_⟩) (by assumption) ?_
              rotate_left
              · intro W hSw; (try dsimp only at hSw); go_simp; with_reducible rfl
              try simp only [Act.put, List.setIfInBounds_toArray, List.set_cons_zero, List.set_cons_succ]
              refine wpAnyH_take (i := 11) (oi := { dst := some 58, op := Go.Op.load 9 (Go.Operand.tmp 57), type := 9, pos := "ref.go:65", after := #[{ on := 10, ground := Go.Ground.data }], guard := none }) (v := ?_) rfl (by kernel_rfl) (by kernel_rfl) (by kernel_rfl) (fun _ _ _ h => h) (Or.inl ⟨by rfl, ?_⟩) (by assumption) ?_
              rotate_left
              · intro W hSw; (try dsimp only at hSw); go_simp; with_reducible rfl
              try simp only [Act.put, List.setIfInBounds_toArray, List.set_cons_zero, List.set_cons_succ]
              refine wpAnyH_take (i := 12) (oi := { dst := some 59, op := Go.Op.binOp Go.BinOp.neq 9 (Go.Operand.tmp 52) (Go.Operand.tmp 58) 9, type := 4, pos := "ref.go:65", after := #[{ on := 5, ground := Go.Ground.data }, { on := 11, ground := Go.Ground.data }], guard := none }) (v := ?_) rfl (by kernel_rfl) (by kernel_rfl) (by kernel_rfl) (fun _ _ _ h => h) (Or.inl ⟨by rfl, ?_⟩) (by assumption) ?_
              rotate_left
              · intro W hSw; (try dsimp only at hSw); go_simp; with_reducible rfl
              try simp only [Act.put, List.setIfInBounds_toArray, List.set_cons_zero, List.set_cons_succ]
              refine wpAnyH_take (i := 13) (oi := { dst := some 60, op := Go.Op.move (Go.Operand.tmp 59), type := 4, pos := "ref.go:65", after := #[{ on := 12, ground := Go.Ground.data }], guard := none }) (v := ?_) rfl (by kernel_rfl) (by kernel_rfl) (by kernel_rfl) (fun _ _ _ h => h) (Or.inl ⟨by rfl, ?_⟩) (by assumption) ?_
              rotate_left
              · intro W hSw; (try dsimp only at hSw); go_simp; with_reducible rfl
              try simp only [Act.put, List.setIfInBounds_toArray, List.set_cons_zero, List.set_cons_succ]
              refine wpAnyH_take (i := 14) (oi := { dst := some 61, op := Go.Op.fieldAddr 25 (Go.Operand.tmp 2) 1, type := 0, pos := "ref.go:65", after := #[{ on := 13, ground := Go.Ground.guard }], guard := some (13, false) }) (v := ?_) rfl (by kernel_rfl) (by kernel_rfl) (by kernel_rfl) (fun _ _ _ h => h) (Or.inl ⟨by rfl, ?_⟩) (by assumption) ?_
              rotate_left
              · intro W hSw; (try dsimp only at hSw); go_simp; with_reducible rfl
              try simp only [Act.put, List.setIfInBounds_toArray, List.set_cons_zero, List.set_cons_succ]
              refine wpAnyH_take (i := 15) (oi := { dst := some 62, op := Go.Op.load 23 (Go.Operand.tmp 61), type := 23, pos := "ref.go:65", after := #[{ on := 14, ground := Go.Ground.data }, { on := 13, ground := Go.Ground.guard }], guard := some (13, false) }) (v := ?_) rfl (by kernel_rfl) (by kernel_rfl) (by kernel_rfl) (fun _ _ _ h => h) (Or.inl ⟨by rfl, ?_⟩) (by assumption) ?_
              rotate_left
              · intro W hSw; (try dsimp only at hSw); go_simp; with_reducible rfl
              try simp only [Act.put, List.setIfInBounds_toArray, List.set_cons_zero, List.set_cons_succ]
              refine wpAnyH_take (i := 16) (oi := { dst := some 63, op := Go.Op.move (Go.Operand.tmp 6), type := 3, pos := "ref.go:65", after := #[{ on := 13, ground := Go.Ground.guard }], guard := some (13, false) }) (v := ?_) rfl (by kernel_rfl) (by kernel_rfl) (by kernel_rfl) (fun _ _ _ h => h) (Or.inl ⟨by rfl, ?_⟩) (by assumption) ?_
              rotate_left
              · intro W hSw; (try dsimp only at hSw); go_simp; with_reducible rfl
              try simp only [Act.put, List.setIfInBounds_toArray, List.set_cons_zero, List.set_cons_succ]
              refine wpAnyH_take (i := 17) (oi := { dst := some 64, op := Go.Op.indexAddr 23 (Go.Operand.tmp 62) (Go.Operand.tmp 63), type := 0, pos := "ref.go:65", after := #[{ on := 15, ground := Go.Ground.data }, { on := 16, ground := Go.Ground.data }, { on := 13, ground := Go.Ground.guard }], guard := some (13, false) }) (v := ?_) rfl (by kernel_rfl) (by kernel_rfl) (by kernel_rfl) (fun _ _ _ h => h) (Or.inl ⟨by rfl, ?_⟩) (by assumption) ?_
              rotate_left
              · intro W hSw; (try dsimp only at hSw); go_simp; with_reducible rfl
              try simp only [Act.put, List.setIfInBounds_toArray, List.set_cons_zero, List.set_cons_succ]
              refine wpAnyH_take (i := 18) (oi := { dst := some 65, op := Go.Op.fieldAddr 52 (Go.Operand.tmp 64) 1, type := 0, pos := "ref.go:65", after := #[{ on := 17, ground := Go.Ground.data }, { on := 13, ground := Go.Ground.guard }], guard := some (13, false) }) (v := ?_) rfl (by kernel_rfl) (by kernel_rfl) (by kernel_rfl) (fun _ _ _ h => h) (Or.inl ⟨by rfl, ?_⟩) (by assumption) ?_
              rotate_left
              · intro W hSw; (try dsimp only at hSw); go_simp; with_reducible rfl
              try simp only [Act.put, List.setIfInBounds_toArray, List.set_cons_zero, List.set_cons_succ]
              refine wpAnyH_take (i := 19) (oi := { dst := some 66, op := Go.Op.load 47 (Go.Operand.tmp 65), type := 47, pos := "ref.go:65", after := #[{ on := 18, ground := Go.Ground.data }, { on := 13, ground := Go.Ground.guard }], guard := some (13, false) }) (v := ?_) rfl (by kernel_rfl) (by kernel_rfl) (by kernel_rfl) (fun _ _ _ h => h) (Or.inl ⟨by rfl, ?_⟩) (by assumption) ?_
              rotate_left
              · intro W hSw; (try dsimp only at hSw); go_simp; with_reducible rfl
              try simp only [Act.put, List.setIfInBounds_toArray, List.set_cons_zero, List.set_cons_succ]
              refine wpAnyH_take (i := 20) (oi := { dst := some 67, op := Go.Op.fieldAddr 25 (Go.Operand.tmp 3) 1, type := 0, pos := "ref.go:65", after := #[{ on := 13, ground := Go.Ground.guard }], guard := some (13, false) }) (v := ?_) rfl (by kernel_rfl) (by kernel_rfl) (by kernel_rfl) (fun _ _ _ h => h) (Or.inl ⟨by rfl, ?_⟩) (by assumption) ?_
              rotate_left
              · intro W hSw; (try dsimp only at hSw); go_simp; with_reducible rfl
              try simp only [Act.put, List.setIfInBounds_toArray, List.set_cons_zero, List.set_cons_succ]
              refine wpAnyH_take (i := 21) (oi := { dst := some 68, op := Go.Op.load 23 (Go.Operand.tmp 67), type := 23, pos := "ref.go:65", after := #[{ on := 20, ground := Go.Ground.data }, { on := 13, ground := Go.Ground.guard }], guard := some (13, false) }) (v := ?_) rfl (by kernel_rfl) (by kernel_rfl) (by kernel_rfl) (fun _ _ _ h => h) (Or.inl ⟨by rfl, ?_⟩) (by assumption) ?_
              rotate_left
              · intro W hSw; (try dsimp only at hSw); go_simp; with_reducible rfl
              try simp only [Act.put, List.setIfInBounds_toArray, List.set_cons_zero, List.set_cons_succ]
              refine wpAnyH_take (i := 22) (oi := { dst := some 69, op := Go.Op.move (Go.Operand.tmp 6), type := 3, pos := "ref.go:65", after := #[{ on := 13, ground := Go.Ground.guard }], guard := some (13, false) }) (v := ?_) rfl (by kernel_rfl) (by kernel_rfl) (by kernel_rfl) (fun _ _ _ h => h) (Or.inl ⟨by rfl, ?_⟩) (by assumption) ?_
              rotate_left
              · intro W hSw; (try dsimp only at hSw); go_simp; with_reducible rfl
              try simp only [Act.put, List.setIfInBounds_toArray, List.set_cons_zero, List.set_cons_succ]
              refine wpAnyH_take (i := 23) (oi := { dst := some 70, op := Go.Op.indexAddr 23 (Go.Operand.tmp 68) (Go.Operand.tmp 69), type := 0, pos := "ref.go:65", after := #[{ on := 21, ground := Go.Ground.data }, { on := 22, ground := Go.Ground.data }, { on := 13, ground := Go.Ground.guard }], guard := some (13, false) }) (v := ?_) rfl (by kernel_rfl) (by kernel_rfl) (by kernel_rfl) (fun _ _ _ h => h) (Or.inl ⟨by rfl, ?_⟩) (by assumption) ?_
              rotate_left
              · intro W hSw; (try dsimp only at hSw); go_simp; with_reducible rfl
              try simp only [Act.put, List.setIfInBounds_toArray, List.set_cons_zero, List.set_cons_succ]
              refine wpAnyH_take (i := 24) (oi := { dst := some 71, op := Go.Op.fieldAddr 52 (Go.Operand.tmp 70) 1, type := 0, pos := "ref.go:65", after := #[{ on := 23, ground := Go.Ground.data }, { on := 13, ground := Go.Ground.guard }], guard := some (13, false) }) (v := ?_) rfl (by kernel_rfl) (by kernel_rfl) (by kernel_rfl) (fun _ _ _ h => h) (Or.inl ⟨by rfl, ?_⟩) (by assumption) ?_
              rotate_left
              · intro W hSw; (try dsimp only at hSw); go_simp; with_reducible rfl
              try simp only [Act.put, List.setIfInBounds_toArray, List.set_cons_zero, List.set_cons_succ]
              refine wpAnyH_take (i := 25) (oi := { dst := some 72, op := Go.Op.load 47 (Go.Operand.tmp 71), type := 47, pos := "ref.go:65", after := #[{ on := 24, ground := Go.Ground.data }, { on := 13, ground := Go.Ground.guard }], guard := some (13, false) }) (v := ?_) rfl (by kernel_rfl) (by kernel_rfl) (by kernel_rfl) (fun _ _ _ h => h) (Or.inl ⟨by rfl, ?_⟩) (by assumption) ?_
              rotate_left
              · intro W hSw; (try dsimp only at hSw); go_simp; with_reducible rfl
              try simp only [Act.put, List.setIfInBounds_toArray, List.set_cons_zero, List.set_cons_succ]
              refine wpAnyH_ready (rs := [26]) (by kernel_rfl) (by simp) ?_
              refine AllReadyH.cons (o := { dst := some 73, op := Go.Op.call { callee := Go.Callee.value (Go.Operand.func 76), args := #[Go.Operand.tmp 66, Go.Operand.tmp 72], argTypes := #[47, 47] }, type := 4, pos := "ref.go:65", after := #[{ on := 19, ground := Go.Ground.data }, { on := 25, ground := Go.Ground.data }, { on := 13, ground := Go.Ground.chain }, { on := 13, ground := Go.Ground.guard }], guard := some (13, false) }) rfl (fun K hK => ?_) AllReadyH.nil
              go_simp
              go_at_call 76
              refine (HS.out _ HBD.out).mono ?_
              rintro e w3 ⟨rfl, hb3⟩
              go_wp2_with fail
              refine hK.out _ _ (at12_next hb3 hHeld) (fun hHeld => ?_)
              clear hK K
              try simp only [Act.put, List.setIfInBounds_toArray, List.set_cons_zero, List.set_cons_succ]
              refine wpAnyH_take (i := 27) (oi := { dst := some 74, op := Go.Op.unOp Go.UnOp.not 4 (Go.Operand.tmp 73), type := 4, pos := "ref.go:65", after := #[{ on := 26, ground := Go.Ground.data }, { on := 13, ground := Go.Ground.guard }], guard := some (13, false) }) (v := ?_) rfl (by kernel_rfl) (by kernel_rfl) (by kernel_rfl) (fun _ _ _ h => h) (Or.inl ⟨by rfl, ?_⟩) (by assumption) ?_
              rotate_left
              · intro W hSw; (try dsimp only at hSw); go_simp; with_reducible rfl
              try simp only [Act.put, List.setIfInBounds_toArray, List.set_cons_zero, List.set_cons_succ]
              refine wpAnyH_take (i := 28) (oi := { dst := some 75, op := Go.Op.pick (Go.Operand.tmp 60) (Go.Operand.const (Go.Value.bool true)) (Go.Operand.tmp 74), type := 4, pos := "ref.go:65", after := #[{ on := 13, ground := Go.Ground.data }, { on := 27, ground := Go.Ground.data }], guard := none }) (v := ?_) rfl (by kernel_rfl) (by kernel_rfl) (by kernel_rfl) (fun _ _ _ h => h) (Or.inl ⟨by rfl, ?_⟩) (by assumption) ?_
              rotate_left
              · intro W hSw; (try dsimp only at hSw); go_simp; with_reducible rfl
              try simp only [Act.put, List.setIfInBounds_toArray, List.set_cons_zero, List.set_cons_succ]
              refine wpAnyH_take (i := 29) (oi := { dst := some 76, op := Go.Op.move (Go.Operand.tmp 75), type := 4, pos := "ref.go:65", after := #[{ on := 28, ground := Go.Ground.data }, { on := 26, ground := Go.Ground.chain }], guard := none }) (v := ?_) rfl (by kernel_rfl) (by kernel_rfl) (by kernel_rfl) (fun _ _ _ h => h) (Or.inl ⟨by rfl, ?_⟩) (by assumption) ?_
              rotate_left
              · intro W hSw; (try dsimp only at hSw); go_simp; with_reducible rfl
              try simp only [Act.put, List.setIfInBounds_toArray, List.set_cons_zero, List.set_cons_succ]
              refine wpAnyH_take (i := 30) (oi := { dst := some 77, op := Go.Op.fieldAddr 25 (Go.Operand.tmp 2) 1, type := 0, pos := "ref.go:65", after := #[{ on := 29, ground := Go.Ground.guard }], guard := some (29, false) }) (v := undef) rfl (by kernel_rfl) (by kernel_rfl) (by kernel_rfl) (fun _ _ _ h => h) (Or.inr ⟨by rfl, rfl⟩) (by assumption) ?_
              try simp only [Act.put, List.setIfInBounds_toArray, List.set_cons_zero, List.set_cons_succ]
              refine wpAnyH_take (i := 31) (oi := { dst := some 78, op := Go.Op.load 23 (Go.Operand.tmp 77), type := 23, pos := "ref.go:65", after := #[{ on := 30, ground := Go.Ground.data }, { on := 29, ground := Go.Ground.guard }], guard := some (29, false) }) (v := undef) rfl (by kernel_rfl) (by kernel_rfl) (by kernel_rfl) (fun _ _ _ h => h) (Or.inr ⟨by rfl, rfl⟩) (by assumption) ?_
              try simp only [Act.put, List.setIfInBounds_toArray, List.set_cons_zero, List.set_cons_succ]
              refine wpAnyH_take (i := 32) (oi := { dst := some 79, op := Go.Op.move (Go.Operand.tmp 6), type := 3, pos := "ref.go:65", after := #[{ on := 29, ground := Go.Ground.guard }], guard := some (29, false) }) (v := undef) rfl (by kernel_rfl) (by kernel_rfl) (by kernel_rfl) (fun _ _ _ h => h) (Or.inr ⟨by rfl, rfl⟩) (by assumption) ?_
              try simp only [Act.put, List.setIfInBounds_toArray, List.set_cons_zero, List.set_cons_succ]
              refine wpAnyH_take (i := 33) (oi := { dst := some 80, op := Go.Op.indexAddr 23 (Go.Operand.tmp 78) (Go.Operand.tmp 79), type := 0, pos := "ref.go:65", after := #[{ on := 31, ground := Go.Ground.data }, { on := 32, ground := Go.Ground.data }, { on := 29, ground := Go.Ground.guard }], guard := some (29, false) }) (v := undef) rfl (by kernel_rfl) (by kernel_rfl) (by kernel_rfl) (fun _ _ _ h => h) (Or.inr ⟨by rfl, rfl⟩) (by assumption) ?_
              try simp only [Act.put, List.setIfInBounds_toArray, List.set_cons_zero, List.set_cons_succ]
              refine wpAnyH_take (i := 34) (oi := { dst := some 81, op := Go.Op.fieldAddr 52 (Go.Operand.tmp 80) 2, type := 0, pos := "ref.go:65", after := #[{ on := 33, ground := Go.Ground.data }, { on := 29, ground := Go.Ground.guard }], guard := some (29, false) }) (v := undef) rfl (by kernel_rfl) (by kernel_rfl) (by kernel_rfl) (fun _ _ _ h => h) (Or.inr ⟨by rfl, rfl⟩) (by assumption) ?_
              try simp only [Act.put, List.setIfInBounds_toArray, List.set_cons_zero, List.set_cons_succ]
              refine wpAnyH_take (i := 35) (oi := { dst := some 82, op := Go.Op.load 50 (Go.Operand.tmp 81), type := 50, pos := "ref.go:65", after := #[{ on := 34, ground := Go.Ground.data }, { on := 29, ground := Go.Ground.guard }], guard := some (29, false) }) (v := undef) rfl (by kernel_rfl) (by kernel_rfl) (by kernel_rfl) (fun _ _ _ h => h) (Or.inr ⟨by rfl, rfl⟩) (by assumption) ?_
              try simp only [Act.put, List.setIfInBounds_toArray, List.set_cons_zero, List.set_cons_succ]
              refine wpAnyH_take (i := 36) (oi := { dst := some 83, op := Go.Op.fieldAddr 25 (Go.Operand.tmp 3) 1, type := 0, pos := "ref.go:65", after := #[{ on := 29, ground := Go.Ground.guard }], guard := some (29, false) }) (v := undef) rfl (by kernel_rfl) (by kernel_rfl) (by kernel_rfl) (fun _ _ _ h => h) (Or.inr ⟨by rfl, rfl⟩) (by assumption) ?_
              try simp only [Act.put, List.setIfInBounds_toArray, List.set_cons_zero, List.set_cons_succ]
              refine wpAnyH_take (i := 37) (oi := { dst := some 84, op := Go.Op.load 23 (Go.Operand.tmp 83), type := 23, pos := "ref.go:65", after := #[{ on := 36, ground := Go.Ground.data }, { on := 29, ground := Go.Ground.guard }], guard := some (29, false) }) (v := undef) rfl (by kernel_rfl) (by kernel_rfl) (by kernel_rfl) (fun _ _ _ h => h) (Or.inr ⟨by rfl, rfl⟩) (by assumption) ?_
              try simp only [Act.put, List.setIfInBounds_toArray, List.set_cons_zero, List.set_cons_succ]
              refine wpAnyH_take (i := 38) (oi := { dst := some 85, op := Go.Op.move (Go.Operand.tmp 6), type := 3, pos := "ref.go:65", after := #[{ on := 29, ground := Go.Ground.guard }], guard := some (29, false) }) (v := undef) rfl (by kernel_rfl) (by kernel_rfl) (by kernel_rfl) (fun _ _ _ h => h) (Or.inr ⟨by rfl, rfl⟩) (by assumption) ?_
              try simp only [Act.put, List.setIfInBounds_toArray, List.set_cons_zero, List.set_cons_succ]
              refine wpAnyH_take (i := 39) (oi := { dst := some 86, op := Go.Op.indexAddr 23 (Go.Operand.tmp 84) (Go.Operand.tmp 85), type := 0, pos := "ref.go:65", after := #[{ on := 37, ground := Go.Ground.data }, { on := 38, ground := Go.Ground.data }, { on := 29, ground := Go.Ground.guard }], guard := some (29, false) }) (v := undef) rfl (by kernel_rfl) (by kernel_rfl) (by kernel_rfl) (fun _ _ _ h => h) (Or.inr ⟨by rfl, rfl⟩) (by assumption) ?_
              try simp only [Act.put, List.setIfInBounds_toArray, List.set_cons_zero, List.set_cons_succ]
              refine wpAnyH_take (i := 40) (oi := { dst := some 87, op := Go.Op.fieldAddr 52 (Go.Operand.tmp 86) 2, type := 0, pos := "ref.go:65", after := #[{ on := 39, ground := Go.Ground.data }, { on := 29, ground := Go.Ground.guard }], guard := some (29, false) }) (v := undef) rfl (by kernel_rfl) (by kernel_rfl) (by kernel_rfl) (fun _ _ _ h => h) (Or.inr ⟨by rfl, rfl⟩) (by assumption) ?_
              try simp only [Act.put, List.setIfInBounds_toArray, List.set_cons_zero, List.set_cons_succ]
              refine wpAnyH_take (i := 41) (oi := { dst := some 88, op := Go.Op.load 50 (Go.Operand.tmp 87), type := 50, pos := "ref.go:65", after := #[{ on := 40, ground := Go.Ground.data }, { on := 29, ground := Go.Ground.guard }], guard := some (29, false) }) (v := undef) rfl (by kernel_rfl) (by kernel_rfl) (by kernel_rfl) (fun _ _ _ h => h) (Or.inr ⟨by rfl, rfl⟩) (by assumption) ?_
              try simp only [Act.put, List.setIfInBounds_toArray, List.set_cons_zero, List.set_cons_succ]
              refine wpAnyH_take (i := 42) (oi := { dst := some 89, op := Go.Op.call { callee := Go.Callee.value (Go.Operand.func 77), args := #[Go.Operand.tmp 82, Go.Operand.tmp 88], argTypes := #[50, 50] }, type := 4, pos := "ref.go:65", after := #[{ on := 35, ground := Go.Ground.data }, { on := 41, ground := Go.Ground.data }, { on := 29, ground := Go.Ground.chain }, { on := 29, ground := Go.Ground.guard }], guard := some (29, false) }) (v := undef) rfl (by kernel_rfl) (by kernel_rfl) (by kernel_rfl) (fun _ _ _ h => h) (Or.inr ⟨by rfl, rfl⟩) (by assumption) ?_
              try simp only [Act.put, List.setIfInBounds_toArray, List.set_cons_zero, List.set_cons_succ]
              refine wpAnyH_take (i := 43) (oi := { dst := some 90, op := Go.Op.unOp Go.UnOp.not 4 (Go.Operand.tmp 89), type := 4, pos := "ref.go:65", after := #[{ on := 42, ground := Go.Ground.data }, { on := 29, ground := Go.Ground.guard }], guard := some (29, false) }) (v := undef) rfl (by kernel_rfl) (by kernel_rfl) (by kernel_rfl) (fun _ _ _ h => h) (Or.inr ⟨by rfl, rfl⟩) (by assumption) ?_
              try simp only [Act.put, List.setIfInBounds_toArray, List.set_cons_zero, List.set_cons_succ]
              refine wpAnyH_take (i := 44) (oi := { dst := some 91, op := Go.Op.pick (Go.Operand.tmp 76) (Go.Operand.const (Go.Value.bool true)) (Go.Operand.tmp 90), type := 4, pos := "ref.go:65", after := #[{ on := 29, ground := Go.Ground.data }, { on := 43, ground := Go.Ground.data }], guard := none }) (v := ?_) rfl (by kernel_rfl) (by kernel_rfl) (by kernel_rfl) (fun _ _ _ h => h) (Or.inl ⟨by rfl, ?_⟩) (by assumption) ?_
              rotate_left
              · intro W hSw; (try dsimp only at hSw); go_simp; with_reducible rfl
              try simp only [Act.put, List.setIfInBounds_toArray, List.set_cons_zero, List.set_cons_succ]
              refine wpAnyH_done (by kernel_rfl) ?_ _
              go_wp2_with fail
              go_ret
              exact ⟨rfl, HBD.out.1.trans (hb3.mono HBD.out.1.size)⟩
            | true =>
              cases B2 with
              | false =>
                have hz : Z = false := by rw [← hmo2]; rfl
                subst hz
                clear hmo2
                go_wp2_with fail
                first
                | (go_region_held3 (fun W => W.cell? ⟨w.heap.size, 1, none⟩ = some (.slice (some ⟨b1, o1, none⟩) x.F.len fc) ∧ W.cell? ⟨w.heap.size + 1, 1, none⟩ = some (.slice (some ⟨b2, o2, none⟩) y.F.len fc') ∧ W.cell? ⟨b1, o1 + j * 5, none⟩ = some (.string s1) ∧ W.cell? ⟨b1, o1 + j * 5 + 1, none⟩ = some (.slice p1 n1 c1) ∧ W.cell? ⟨b1, o1 + j * 5 + 2, none⟩ = some (.int .i64 k1) ∧ W.cell? ⟨b1, o1 + j * 5 + 2 + 1, none⟩ = some (.int .i64 n1') ∧ W.cell? ⟨b1, o1 + j * 5 + 2 + 2, none⟩ = some (.slice q1 m1 d1) ∧ W.cell? ⟨b2, o2 + j * 5, none⟩ = some (.string s2) ∧ W.cell? ⟨b2, o2 + j * 5 + 1, none⟩ = some (.slice p2 n2 c2) ∧ W.cell? ⟨b2, o2 + j * 5 + 2, none⟩ = some (.int .i64 k2) ∧ W.cell? ⟨b2, o2 + j * 5 + 2 + 1, none⟩ = some (.int .i64 n2') ∧ W.cell? ⟨b2, o2 + j * 5 + 2 + 2, none⟩ = some (.slice q2 m2 d2))
                    (first | exact K0 | (refine at12_next hb4 ?_; assumption) | (refine at12_next hb3 ?_; assumption))
                    (first
                    | (go_at_call 76; refine (HS.out _ HBD.out).mono ?_; rintro e w3 ⟨rfl, hb3⟩)
                    | (go_at_call 77; refine (HX.out _ ⟨HBD.out.1.trans (hb3.mono HBD.out.1.size), HBD.out.2.trans (hb3.mono HBD.out.2.size)⟩).mono ?_; rintro e w4 ⟨rfl, hb4⟩)))
                | fail
                all_goals
                  go_wp2_with fail
                  go_ret
                  exact ⟨rfl, (HBD.out.1.trans (hb3.mono HBD.out.1.size)).trans (hb4.mono (HBD.out.1.trans (hb3.mono HBD.out.1.size)).size)⟩
              | true =>
                have HM := Lib.hid hmo2
                clear hmo2
                go_wp2_with fail
                first
                | (go_region_held3 (fun W => W.cell? ⟨w.heap.size, 1, none⟩ = some (.slice (some ⟨b1, o1, none⟩) x.F.len fc) ∧ W.cell? ⟨w.heap.size + 1, 1, none⟩ = some (.slice (some ⟨b2, o2, none⟩) y.F.len fc') ∧ W.cell? ⟨b1, o1 + j * 5, none⟩ = some (.string s1) ∧ W.cell? ⟨b1, o1 + j * 5 + 1, none⟩ = some (.slice p1 n1 c1) ∧ W.cell? ⟨b1, o1 + j * 5 + 2, none⟩ = some (.int .i64 k1) ∧ W.cell? ⟨b1, o1 + j * 5 + 2 + 1, none⟩ = some (.int .i64 n1') ∧ W.cell? ⟨b1, o1 + j * 5 + 2 + 2, none⟩ = some (.slice q1 m1 d1) ∧ W.cell? ⟨b2, o2 + j * 5, none⟩ = some (.string s2) ∧ W.cell? ⟨b2, o2 + j * 5 + 1, none⟩ = some (.slice p2 n2 c2) ∧ W.cell? ⟨b2, o2 + j * 5 + 2, none⟩ = some (.int .i64 k2) ∧ W.cell? ⟨b2, o2 + j * 5 + 2 + 1, none⟩ = some (.int .i64 n2') ∧ W.cell? ⟨b2, o2 + j * 5 + 2 + 2, none⟩ = some (.slice q2 m2 d2))
                    (first | exact K0 | (refine at12_next hb4 ?_; assumption) | (refine at12_next hb3 ?_; assumption))
                    (first
                    | (go_at_call 76; refine (HS.out _ HBD.out).mono ?_; rintro e w3 ⟨rfl, hb3⟩)
                    | (go_at_call 77; refine (HX.out _ ⟨HBD.out.1.trans (hb3.mono HBD.out.1.size), HBD.out.2.trans (hb3.mono HBD.out.2.size)⟩).mono ?_; rintro e w4 ⟨rfl, hb4⟩)))
                | fail
                all_goals
                  have hb34 := hb3.trans (hb4.mono hb3.size)
                  have HF := Lib.hid (And.intro (HBD.out.1.trans (hb34.mono HBD.out.1.size)) (And.intro (box3_later (HBD.out.2.trans (hb34.mono HBD.out.2.size)) HB.out.2.1) (box3_later (HBD.out.2.trans (hb34.mono HBD.out.2.size)) HB.out.2.2)))
                  clear hb34
                  go_wp2_with fail
                  go_roundw
                  case rel => exact ⟨j + 1, by omega, by go_num, HM.out, HF.out.1, HF.out.2.1, HF.out.2.2⟩
                  case measure => simp [Go.RowKit.intOf]; omega
          · have hd : (s1.toList == s2.toList) = false := strs_ne h1
            have hz : Z = false := by rw [← hmo]; simp [h1]
            subst hz
            clear hmo h1 HS HX
            have K1 : wr.cell? ⟨w.heap.size, 1, none⟩ = some (.slice (some ⟨b1, o1, none⟩) x.F.len fc) ∧ wr.cell? ⟨w.heap.size + 1, 1, none⟩ = some (.slice (some ⟨b2, o2, none⟩) y.F.len fc') ∧ wr.cell? ⟨b1, o1 + j * 5, none⟩ = some (.string s1) ∧ wr.cell? ⟨b1, o1 + j * 5 + 1, none⟩ = some (.slice p1 n1 c1) ∧ wr.cell? ⟨b1, o1 + j * 5 + 2, none⟩ = some (.int .i64 k1) ∧ wr.cell? ⟨b1, o1 + j * 5 + 2 + 1, none⟩ = some (.int .i64 n1') ∧ wr.cell? ⟨b1, o1 + j * 5 + 2 + 2, none⟩ = some (.slice q1 m1 d1) ∧ wr.cell? ⟨b2, o2 + j * 5, none⟩ = some (.string s2) ∧ wr.cell? ⟨b2, o2 + j * 5 + 1, none⟩ = some (.slice p2 n2 c2) ∧ wr.cell? ⟨b2, o2 + j * 5 + 2, none⟩ = some (.int .i64 k2) ∧ wr.cell? ⟨b2, o2 + j * 5 + 2 + 1, none⟩ = some (.int .i64 n2') ∧ wr.cell? ⟨b2, o2 + j * 5 + 2 + 2, none⟩ = some (.slice q2 m2 d2) := K0
            obtain ⟨t1, t2, y0, y1, y2, y3, y4, z0, z1, z2, z3, z4⟩ := K1
            clear K0
            go_wp2_with fail
            go_quiet (fail)
            go_wp2_with fail
            go_ret
            exact ⟨rfl, below_drewN HB.out.1 _⟩
        · have hz : Z = true := by rw [← hmo]; exact funsE_end x.F y.F hlt
          subst hz
          obtain ⟨t1, t2, t3, t4⟩ := boxes2 hb1 hb2
          clear hmo hb1 hb2
          go_wp2_with fail
          go_ret
          exact ⟨rfl, HB.out.1⟩

end Go.Proofs.YtjdnbmcjnkmgdaaGreatDoor

/-
  The walk of the statement on Same. Conditions: that the schemes lie in memory, and the package variables read as laid.
-/
set_option linter.unusedSimpArgs false
set_option linter.unusedVariables false
namespace Go.Proofs.YtjdnbmcjnkmgdaaGreatDoor
open Go.RowKit Go.Maps

set_option maxRecDepth 100000 in
set_option maxHeartbeats 4000000 in
theorem refsame3_any (x y : Sc) (a b : At2) (w : World) (hx : IsC w x a) (hy : IsC w y b) :
    Calls Tryz.prog 18 #[.agg #[.slice a.sp a.sn a.sc, .slice a.fp a.fn a.fc], .agg #[.slice b.sp b.sn b.sc, .slice b.fp b.fn b.fc]] w fun e w' => e = .returned (.bool (scSame x y)) ∧ Below w.heap.size w w' := by
  have H1 := Lib.hid fun W (h : Below w.heap.size w W) => refis3_any x a W (hx.below h)
  have H2 := Lib.hid fun W (h : Below w.heap.size w W) => refis3_any y b W (hy.below h)
  have H3 := Lib.hid fun W (h : Below w.heap.size w W) => refequal3_any x y a b W (hx.below h) (hy.below h)
  obtain ⟨sp, sn, sc, fp, fn, fc⟩ := a
  obtain ⟨sp', sn', sc', fp', fn', fc'⟩ := b
  dsimp only at H1 H2 H3 ⊢
  have hbx1 := alloc_kept (heap_new w (.cells #[.slice sp sn sc, .slice fp fn fc] 25)) (.cells #[.slice sp' sn' sc', .slice fp' fn' fc'] 25)
  have hbx2 := heap_new2 w (.cells #[.slice sp sn sc, .slice fp fn fc] 25) (.cells #[.slice sp' sn' sc', .slice fp' fn' fc'] 25)
  have B2 : Below w.heap.size w ((w.alloc (.cells #[.slice sp sn sc, .slice fp fn fc] 25)).alloc (.cells #[.slice sp' sn' sc', .slice fp' fn' fc'] 25)) := ((Below.refl _ _).alloc (Nat.le_refl _) _).alloc (by simp) _
  have HB := Lib.hid (And.intro B2 (And.intro hbx1 hbx2))
  clear B2 hbx1 hbx2 hx hy
  unfold scSame
  generalize scEq x y = B3 at H3
  cases h1 : scOk x with
  | false =>
    rw [h1] at H1
    go_enter Tryz.func18, Tryz.ntmps18
    go_wp2_with fail
    refine (H1.out _ HB.out.1).mono ?_
    rintro e w1 ⟨rfl, hb1⟩
    go_wp2_with fail
    go_ret
    exact ⟨rfl, HB.out.1.trans (hb1.mono HB.out.1.size)⟩
  | true =>
    rw [h1] at H1
    cases h2 : scOk y with
    | false =>
      rw [h2] at H2
      go_enter Tryz.func18, Tryz.ntmps18
      go_wp2_with fail
      refine (H1.out _ HB.out.1).mono ?_
      rintro e w1 ⟨rfl, hb1⟩
      obtain ⟨s1, s2, s3, s4⟩ := boxes2 (box3_later hb1 HB.out.2.1) (box3_later hb1 HB.out.2.2)
      have HB1 := Lib.hid (HB.out.1.trans (hb1.mono HB.out.1.size))
      clear hb1
      go_wp2_with fail
      refine (H2.out _ HB1.out).mono ?_
      rintro e w2 ⟨rfl, hb2⟩
      go_wp2_with fail
      go_ret
      exact ⟨rfl, HB1.out.trans (hb2.mono HB1.out.size)⟩
    | true =>
      rw [h2] at H2
      go_enter Tryz.func18, Tryz.ntmps18
      go_wp2_with fail
      refine (H1.out _ HB.out.1).mono ?_
      rintro e w1 ⟨rfl, hb1⟩
      have HB1 := Lib.hid (And.intro (HB.out.1.trans (hb1.mono HB.out.1.size)) (And.intro (box3_later hb1 HB.out.2.1) (box3_later hb1 HB.out.2.2)))
      obtain ⟨s1, s2, s3, s4⟩ := boxes2 HB1.out.2.1 HB1.out.2.2
      clear hb1 HB H1
      go_wp2_with fail
      refine (H2.out _ HB1.out.1).mono ?_
      rintro e w2 ⟨rfl, hb2⟩
      have HB2 := Lib.hid (And.intro (HB1.out.1.trans (hb2.mono HB1.out.1.size)) (And.intro (box3_later hb2 HB1.out.2.1) (box3_later hb2 HB1.out.2.2)))
      clear hb2 HB1 s1 s2 s3 s4 H2
      obtain ⟨s1, s2, s3, s4⟩ := boxes2 HB2.out.2.1 HB2.out.2.2
      go_wp2_with fail
      refine (H3.out _ HB2.out.1).mono ?_
      rintro e w3 ⟨rfl, hb3⟩
      go_wp2_with fail
      go_ret
      exact ⟨rfl, HB2.out.1.trans (hb3.mono HB2.out.1.size)⟩

theorem h4_next {w0 W W' : World} {sb tb : Nat} {u1 u2 v1 v2 : Value} (hb : Below W.heap.size W W') (h : W.cell? ⟨sb, 0, none⟩ = some u1 ∧ W.cell? ⟨sb, 1, none⟩ = some u2 ∧ W.cell? ⟨tb, 0, none⟩ = some v1 ∧ W.cell? ⟨tb, 1, none⟩ = some v2 ∧ Below w0.heap.size w0 W) :
    W'.cell? ⟨sb, 0, none⟩ = some u1 ∧ W'.cell? ⟨sb, 1, none⟩ = some u2 ∧ W'.cell? ⟨tb, 0, none⟩ = some v1 ∧ W'.cell? ⟨tb, 1, none⟩ = some v2 ∧ Below w0.heap.size w0 W' := by
  obtain ⟨h1, h2, h3, h4, h6⟩ := h
  exact ⟨cell_next hb h1, cell_next hb h2, cell_next hb h3, cell_next hb h4, h6.trans (hb.mono h6.size)⟩

theorem h4_bel {w0 W : World} {sb tb : Nat} {u1 u2 v1 v2 : Value} (h : W.cell? ⟨sb, 0, none⟩ = some u1 ∧ W.cell? ⟨sb, 1, none⟩ = some u2 ∧ W.cell? ⟨tb, 0, none⟩ = some v1 ∧ W.cell? ⟨tb, 1, none⟩ = some v2 ∧ Below w0.heap.size w0 W) : Below w0.heap.size w0 W := h.2.2.2.2

set_option maxRecDepth 100000 in
set_option maxHeartbeats 8000000 in
theorem law_ssame (x y : Sc) (a b : At2) (w : World) (hx : IsC w x a) (hy : IsC w y b) (hg : Gl w) (h6 : 6 ≤ w.heap.size) :
    Calls Tryz.prog 4 #[.agg #[.slice a.sp a.sn a.sc, .slice a.fp a.fn a.fc], .agg #[.slice b.sp b.sn b.sc, .slice b.fp b.fn b.fc]] w fun e w' => e = .returned (.bool true) ∧ Below w.heap.size w w' := by
  have H1 := Lib.hid fun W (h : Below w.heap.size w W) => ssame_any x y a b W (hx.below h) (hy.below h)
  have H2 := Lib.hid fun W (h : Below w.heap.size w W) => refsame3_any x y a b W (hx.below h) (hy.below h)
  have H3 := Lib.hid fun W (h : Below w.heap.size w W) => ssame_any x x a a W (hx.below h) (hx.below h)
  have H4 := Lib.hid fun W (h : Below w.heap.size w W) => refsame3_any x x a a W (hx.below h) (hx.below h)
  have HA := Lib.hid fun W (hb : Below w.heap.size w W) => alive3_any W (hg.keep fun b hb' => hb.block b (by omega)) (by have := hb.size; omega)
  obtain ⟨sp, sn, sc, fp, fn, fc⟩ := a
  obtain ⟨sp', sn', sc', fp', fn', fc'⟩ := b
  dsimp only at H1 H2 H3 H4 ⊢
  have hbx1 := alloc_kept (heap_new w (.cells #[.slice sp sn sc, .slice fp fn fc] 25)) (.cells #[.slice sp' sn' sc', .slice fp' fn' fc'] 25)
  have hbx2 := heap_new2 w (.cells #[.slice sp sn sc, .slice fp fn fc] 25) (.cells #[.slice sp' sn' sc', .slice fp' fn' fc'] 25)
  obtain ⟨t1, t2, t3, t4⟩ := boxes2 hbx1 hbx2
  have K0 : ((w.alloc (.cells #[.slice sp sn sc, .slice fp fn fc] 25)).alloc (.cells #[.slice sp' sn' sc', .slice fp' fn' fc'] 25)).drew.cell? ⟨w.heap.size, 0, none⟩ = some (.slice sp sn sc) ∧ ((w.alloc (.cells #[.slice sp sn sc, .slice fp fn fc] 25)).alloc (.cells #[.slice sp' sn' sc', .slice fp' fn' fc'] 25)).drew.cell? ⟨w.heap.size, 1, none⟩ = some (.slice fp fn fc) ∧ ((w.alloc (.cells #[.slice sp sn sc, .slice fp fn fc] 25)).alloc (.cells #[.slice sp' sn' sc', .slice fp' fn' fc'] 25)).drew.cell? ⟨w.heap.size + 1, 0, none⟩ = some (.slice sp' sn' sc') ∧ ((w.alloc (.cells #[.slice sp sn sc, .slice fp fn fc] 25)).alloc (.cells #[.slice sp' sn' sc', .slice fp' fn' fc'] 25)).drew.cell? ⟨w.heap.size + 1, 1, none⟩ = some (.slice fp' fn' fc') ∧ Below w.heap.size w ((w.alloc (.cells #[.slice sp sn sc, .slice fp fn fc] 25)).alloc (.cells #[.slice sp' sn' sc', .slice fp' fn' fc'] 25)).drew :=
    ⟨t1, t2, t3, t4, (((Below.refl _ _).alloc (Nat.le_refl _) _).alloc (by simp) _).drew⟩
  clear hx hy hg h6 hbx1 hbx2 t1 t2 t3 t4
  generalize scSame x y = c1 at H1 H2
  generalize scSame x x = c2 at H3 H4
  go_enter Tryz.func4, Tryz.ntmps4
  go_wp2_with fail
  go_region_held3 (fun W => W.cell? ⟨w.heap.size, 0, none⟩ = some (.slice sp sn sc) ∧ W.cell? ⟨w.heap.size, 1, none⟩ = some (.slice fp fn fc) ∧ W.cell? ⟨w.heap.size + 1, 0, none⟩ = some (.slice sp' sn' sc') ∧ W.cell? ⟨w.heap.size + 1, 1, none⟩ = some (.slice fp' fn' fc') ∧ Below w.heap.size w W)
    (first | with_reducible exact K0 | (refine h4_next hb5 ?_; assumption) | (refine h4_next hb4 ?_; assumption) | (refine h4_next hb3 ?_; assumption) | (refine h4_next hb2 ?_; assumption) | (refine h4_next hb1 ?_; assumption))
    (first
    | (have hq := hb2; clear hq; go_at_call 17; refine (H3.out _ (h4_bel (by assumption))).mono ?_; rintro e w3 ⟨rfl, hb3⟩)
    | (have hq := hb3; clear hq; go_at_call 18; refine (H4.out _ (h4_bel (by assumption))).mono ?_; rintro e w4 ⟨rfl, hb4⟩)
    | (go_at_call 17; refine (H1.out _ (h4_bel (by assumption))).mono ?_; rintro e w1 ⟨rfl, hb1⟩)
    | (go_at_call 18; refine (H2.out _ (h4_bel (by assumption))).mono ?_; rintro e w2 ⟨rfl, hb2⟩)
    | (go_at_call 16; refine (HA.out _ (h4_bel (by assumption))).mono ?_; rintro e w5 ⟨rfl, hb5⟩))
  all_goals
    go_wp2_with fail
    go_ret
    exact ⟨rfl, h4_bel (by assumption)⟩

end Go.Proofs.YtjdnbmcjnkmgdaaGreatDoor

set_option linter.unusedSimpArgs false
set_option linter.unusedVariables false
namespace Go.Proofs.YtjdnbmcjnkmgdaaGreatDoor
open Go.ChangeShapes Go.WideShapes Go.ChangeAt Go.RowKit
open Go.ChangeMaps (open_string shut_string)

set_option maxRecDepth 100000 in
theorem schemeSame_lifted (os : Os) (started : os.Started) (H : Type) (enc : TypeId × Value → H) :
    ReturnsInHanded {} Tryz.checked os 4 .any (fun w args => (Rows.schemeSameSpec.pre enc Tryz.prog Tryz.f4 [] false w args ∧ laidMetH Tryz.prog laidL w) ∧ sizedMet enc Tryz.prog Tryz.f4 (OpenSpec.ofChange Rows.schemeSameSpec) false w args)
      (Rows.schemeSameSpec.post enc Tryz.prog Tryz.f4 false true false false) := by
  refine lifted_shaped (C := Tryz.checked) (X := fun w _ => laidMetH Tryz.prog laidL w) (fun _ _ _ hh h => h.of_heap hh) P.own started (by kernel_rfl) Tryz.func4
    (ChangeSpec.witness_shaped (enc := enc) (C := Tryz.checked) (os := os) (X := fun w _ => laidMetH Tryz.prog laidL w) false (World.doorLaid Tryz.prog 62 os) #[.agg #[.slice none 0 0, .slice none 0 0], .agg #[.slice none 0 0, .slice none 0 0]] 8 rfl (World.shaped_of_RefB (by kernel_rfl) (by kernel_rfl)) (by kernel_rfl) (by kernel_rfl) (by kernel_rfl) (door_met os _)) ?_
  intro W args ds gs before hval0 hW _ hL hsh
  have hW' := hW
  obtain ⟨p, q, hA0, hV, rfl, hfz, hnd⟩ := hW
  have hA : DataW.TrodAll enc Tryz.prog W 0 (fun _ => true) true Tryz.f4.params.toList args.toList ds p := hA0
  rw [Tryz.params4] at hA hval0
  obtain ⟨v0, v1, d0, d1, p0, p1, rfl, rfl, rfl, h0, h1⟩ := trodAll_two hA
  obtain ⟨rfl, rfl⟩ := trodVars_none hV
  have k0 := h0
  obtain ⟨base0, hv0⟩ := hval0 0 25 v0 rfl rfl
  obtain ⟨x0, b0, rfl, i0⟩ := open_scheme hv0 h0
  have k1 := h1
  obtain ⟨base1, hv1⟩ := hval0 1 25 v1 rfl rfl
  obtain ⟨x1, b1, rfl, i1⟩ := open_scheme hv1 h1
  clear hA0 hval0
  simp only [List.append_nil] at hW'
  obtain ⟨hg, h6⟩ := gl_of hL hsh
  refine (law_ssame x0 x1 b0 b1 W i0 i1 hg h6).mono fun e W' ⟨he, hb⟩ => ?_
  subst he
  have hlt := fun x hx => hW'.lt x hx
  exact ⟨_, rfl, post_below (pv := []) hW' (fun _ _ _ => trodAll_mk1 (shut_bool Tryz.underlying4 true))
    (fun sp hsp => trodAll_mk2 (WideElems.Trod_stays P.laidOut P.readC (of_decide_eq_true (by kernel_rfl)) k0 (fun x hx => hb.same (hlt x (by simp [hx]))) (fun x hx => hsp x (by simp [hx]))) (WideElems.Trod_stays P.laidOut P.readC (of_decide_eq_true (by kernel_rfl)) k1 (fun x hx => hb.same (hlt x (by simp [hx]))) (fun x hx => hsp x (by simp [hx]))))
    (fun _ _ => rfl) (by simp) hb (ok_one (by kernel_rfl) rfl (okWide_bool_mk Tryz.underlying4 true))⟩

theorem schemeSame_row : Rows.SchemeSameSaid :=
  OpenClaim.holds_of_wide 4 Tryz.f4 rfl rfl rfl rfl rfl rfl rfl ⟨rfl, rfl, rfl, rfl, rfl⟩ rfl rfl rfl rfl rfl (by kernel_rfl) Tryz.func4 (by kernel_rfl)
    (of_decide_eq_true (by kernel_rfl)) (by unfold Func.isWrapper; rw [if_neg (of_decide_eq_false (by kernel_rfl))]; exact ⟨rfl, rfl⟩)
    (fun os started H enc _ => schemeSame_lifted os started H enc)

theorem schemeSame_holds : Rows.SchemeSameCardSaid :=
  Claim7.holds_tied_plain_at .later [] [.data, .data, .data, .sentinel, .sentinel] true Rows.schemeSameCard.stood.harness true
    schemeSame_row (fun _ h => by cases h) (by kernel_rfl) (fun _ h => by cases h) schemeSame_row_tie rfl ⟨rfl, rfl⟩ (by kernel_rfl) rfl
    (fun f fn hf hfn => by
      obtain rfl : f = 4 := Option.some.inj ((show Tryz.prog.funcNamed "virgation/virgationlaw03.SchemeSame" = some 4 by kernel_rfl).symm.trans hf) |>.symm
      obtain rfl : fn = Tryz.f4 := (Option.some.inj (Tryz.func4.symm.trans hfn)).symm
      exact ⟨by kernel_rfl, fun j t ht => by
        rw [Tryz.params4] at ht
        have hm : t ∈ [25] := by simpa using Array.mem_of_getElem? ht
        have hall : ([25].all fun u => !Tryz.prog.wantsStandIn u) = true := by kernel_rfl
        exact (show Tryz.prog.wantsStandIn t = false by simpa using List.all_eq_true.1 hall t hm)⟩)
    (by kernel_rfl)

end Go.Proofs.YtjdnbmcjnkmgdaaGreatDoor

