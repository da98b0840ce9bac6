/-
  Whatever scheme is handed in, the statement on writing and reading back answers true and leaves the scheme as it was. Conditions: none but the row's own (the package variables read as the program's text lays them).
-/
import Derived.Test.YtjdnbmcjnkmgdaaGreatDoorMh02
import Derived.Test.YtjdnbmcjnkmgdaaGreatDoorMg29
import Derived.Laws.StructEq
import Derived.Test.YtjdnbmcjnkmgdaaGreatDoorMg12
import Derived.Test.YtjdnbmcjnkmgdaaGreatDoorMg30
import Derived.Test.YtjdnbmcjnkmgdaaGreatDoorMg31
import Derived.Test.YtjdnbmcjnkmgdaaGreatDoorCards
import Derived.Test.YtjdnbmcjnkmgdaaGreatDoorTie
import Derived.SevenTiedAt

/-
  When two schemes are equal, in plain form; the walks of the slices' comparisons. Conditions: that the schemes lie in memory.
-/
set_option linter.unusedSimpArgs false
set_option linter.unusedVariables false
namespace Go.Proofs.YtjdnbmcjnkmgdaaGreatDoor
open Go.RowKit Go.Maps

def symE (x y : Sy) (i : Nat) : Bool := decide (x.nm i = y.nm i) && decide (x.rk i = y.rk i)

def symsE (x y : Sy) : Nat → Nat → Bool
  | _, 0 => true
  | i, m + 1 => symE x y i && symsE x y (i + 1) m

def funE (x y : Fu) (i : Nat) : Bool := decide (x.nm i = y.nm i) && (T.eqT (x.st i) (y.st i) && X.eq1 (x.bk i) (x.bn i) (x.bt i) (y.bk i) (y.bn i) (y.bt i))

def funsE (x y : Fu) : Nat → Nat → Bool
  | _, 0 => true
  | i, m + 1 => funE x y i && funsE x y (i + 1) m

def syEq (x y : Sy) : Bool := decide (x.len = y.len) && symsE x y 0 x.len
def fuEq (x y : Fu) : Bool := decide (x.len = y.len) && funsE x y 0 x.len

/-- are two schemes equal? -/
def scEq (x y : Sc) : Bool := syEq x.S y.S && fuEq x.F y.F

theorem symsE_at (x y : Sy) {j n : Nat} (h : j < n) : symsE x y j (n - j) = (symE x y j && symsE x y (j + 1) (n - (j + 1))) := by
  rw [show n - j = (n - (j + 1)) + 1 by omega]; rfl

theorem funsE_at (x y : Fu) {j n : Nat} (h : j < n) : funsE x y j (n - j) = (funE x y j && funsE x y (j + 1) (n - (j + 1))) := by
  rw [show n - j = (n - (j + 1)) + 1 by omega]; rfl

theorem symsE_end (x y : Sy) {j n : Nat} (h : ¬ j < n) : symsE x y j (n - j) = true := by
  rw [show n - j = 0 by omega]; rfl

theorem funsE_end (x y : Fu) {j n : Nat} (h : ¬ j < n) : funsE x y j (n - j) = true := by
  rw [show n - j = 0 by omega]; rfl

theorem symE_self (x : Sy) (i : Nat) : symE x x i = true := by simp [symE]

theorem funE_self (x : Fu) (i : Nat) : funE x x i = true := by
  have h1 := (T.eqT_iff (x.st i) (x.st i)).2 rfl
  have h2 := (X.eqX_iff (x.bt i) (x.bt i)).2 rfl
  simp [funE, h1, h2, X.eq1]

theorem symsE_self (x : Sy) : ∀ m i, symsE x x i m = true
  | 0, _ => rfl
  | m + 1, i => by simp [symsE, symE_self, symsE_self x m]

theorem funsE_self (x : Fu) : ∀ m i, funsE x x i m = true
  | 0, _ => rfl
  | m + 1, i => by simp [funsE, funE_self, funsE_self x m]

theorem scEq_self (x : Sc) : scEq x x = true := by simp [scEq, syEq, fuEq, symsE_self, funsE_self]

theorem strs_ne {a b : ByteArray} (h : a ≠ b) : (a.toList == b.toList) = false := by
  rw [beq_eq_false_iff_ne, ByteArray.toList_eq, ByteArray.toList_eq]
  intro e
  exact h (by rw [← str_self a, ← str_self b, e])

set_option maxRecDepth 100000 in
set_option maxHeartbeats 4000000 in
/-- slices.Equal of symbols -/
theorem symsequal_any (x y : Sy) (w : World) (p q : Option Addr) (n c m c' : Nat) (hx : IsS w x p n c) (hy : IsS w y q m c') :
    Calls Tryz.prog 41 #[.slice p n c, .slice q m c'] w fun e w' => e = .returned (.bool (syEq x y)) ∧ Below w.heap.size w w' := by
  obtain ⟨rfl, hcap, hmax, hnil, hrow⟩ := hx
  obtain ⟨rfl, hcap', hmax', hnil', hrow'⟩ := hy
  unfold maxLen at hmax hmax'
  by_cases hl : x.len = y.len
  case neg =>
    have hd : ((x.len : Int) != (y.len : Int)) = true := by rw [bne_iff_ne]; omega
    have e : syEq x y = false := by simp [syEq, hl]
    rw [e]
    go_enter Tryz.func41, Tryz.ntmps41
    go_wp2_with fail
    go_ret
    exact ⟨rfl, Below.refl _ _⟩
  case pos =>
    have hd : ((x.len : Int) != (y.len : Int)) = false := by simp [hl]
    have e : symsE x y 0 (x.len - 0) = syEq x y := by simp [syEq, hl]
    have hle : x.len ≤ y.len := by omega
    obtain ⟨Z, hZ⟩ : ∃ Z, syEq x y = Z := ⟨_, rfl⟩
    rw [hZ] at e ⊢
    clear hZ hl
    go_enter Tryz.func41, Tryz.ntmps41
    go_wp2_with fail
    go_loopw [13] (fun v wr => ∃ j : Nat, j ≤ x.len ∧ v = .int .i64 (j : Int) ∧ symsE x y j (x.len - j) = Z ∧ Below w.heap.size w wr)
      (fun v _ => x.len - (Go.RowKit.intOf v).toNat)
    case atStart => exact ⟨0, Nat.zero_le _, rfl, e, Below.refl _ _⟩
    case round =>
      clear hd
      obtain ⟨j, hj, rfl, hmo, hb⟩ := hrel
      have HB := Lib.hid hb
      by_cases hlt : j < x.len
      · rcases hrow with h0 | ⟨b1, o1, rfl, hr1⟩
        · omega
        rcases hrow' with h0 | ⟨b2, o2, rfl, hr2⟩
        · omega
        obtain ⟨g1, g2⟩ := hr1 j hlt
        obtain ⟨g3, g4⟩ := hr2 j (by omega)
        have f1 := ((bcell hb).1 _ _ (lt_of_cell g1)).trans g1
        have f2 := ((bcell hb).1 _ _ (lt_of_cell g2)).trans g2
        have f3 := ((bcell hb).1 _ _ (lt_of_cell g3)).trans g3
        have f4 := ((bcell hb).1 _ _ (lt_of_cell g4)).trans g4
        rw [symsE_at x y hlt] at hmo
        unfold symE at hmo
        have hlt2 : j < y.len := by omega
        clear g1 g2 g3 g4 hr1 hr2 hb
        generalize x.nm j = s1 at f1 hmo
        generalize y.nm j = s2 at f3 hmo
        generalize x.rk j = k1 at f2 hmo
        generalize y.rk j = k2 at f4 hmo
        by_cases h1 : s1 = s2
        · subst h1
          by_cases h2 : k1 = k2
          · subst h2
            have hmo2 : symsE x y (j + 1) (x.len - (j + 1)) = Z := by simpa using hmo
            have HM := Lib.hid hmo2
            clear hmo hmo2
            go_wp2_with fail
            go_quiet (fail)
            go_wp2_with fail
            go_roundw
            case rel => exact ⟨j + 1, by omega, by go_num, HM.out, below_drewN HB.out _⟩
            case measure => simp [Go.RowKit.intOf]; omega
          · have hd2 : (k1 == k2) = false := by simpa using h2
            have hz : Z = false := by rw [← hmo]; simp [h2]
            subst hz
            clear hmo
            go_wp2_with fail
            go_quiet (fail)
            go_wp2_with fail
            go_ret
            exact ⟨rfl, below_drewN HB.out _⟩
        · have hd1 : (s1.toList == s2.toList) = false := strs_ne h1
          have hz : Z = false := by rw [← hmo]; simp [h1]
          subst hz
          clear hmo
          go_wp2_with fail
          go_quiet (fail)
          go_wp2_with fail
          go_ret
          exact ⟨rfl, below_drewN HB.out _⟩
      · have hz : Z = true := by rw [← hmo]; exact symsE_end x y hlt
        subst hz
        clear hmo
        go_wp2_with fail
        go_ret
        exact ⟨rfl, HB.out⟩

end Go.Proofs.YtjdnbmcjnkmgdaaGreatDoor

/-
  The walks of Same: the program's and the reference's. Conditions: that the schemes lie in memory.
-/
set_option linter.unusedSimpArgs false
set_option linter.unusedVariables false
namespace Go.Proofs.YtjdnbmcjnkmgdaaGreatDoor
open Go.RowKit Go.Maps

theorem same_eqV {s t : T} (h1 : s.valid = true) (h2 : t.valid = true) : T.same s t = T.eqT s t := by
  have g1 := T.valid_nodes _ h1
  have g2 := T.valid_nodes _ h2
  simp [T.same, g1, g2]

theorem sm_eq1 {k n k' n' : Int} {a a' : X} (h1 : a.sz < 100000) (h2 : a'.sz < 100000) : X.sm k n a k' n' a' = X.eq1 k n a k' n' a' := by
  simp [X.sm, h1, h2]

/-- the two schemes' boxes that a comparison holds -/
theorem boxes2 {W : World} {b1 b2 : Nat} {u1 u2 v1 v2 : Value} {t t' : TypeId} (h1 : W.heap[b1]? = some (.cells #[u1, u2] t (0, 0))) (h2 : W.heap[b2]? = some (.cells #[v1, v2] t' (0, 0))) :
    W.cell? ⟨b1, 0, none⟩ = some u1 ∧ W.cell? ⟨b1, 1, none⟩ = some u2 ∧ W.cell? ⟨b2, 0, none⟩ = some v1 ∧ W.cell? ⟨b2, 1, none⟩ = some v2 := ⟨(two_box h1).1.1, (two_box h1).1.2, (two_box h2).1.1, (two_box h2).1.2⟩

set_option maxRecDepth 100000 in
set_option maxHeartbeats 4000000 in
theorem alike_any (x y : Fu) (i : Nat) (w : World) (p : Option Addr) (l c : Nat) (q : Option Addr) (m d : Nat) (p' : Option Addr) (l' c' : Nat) (q' : Option Addr) (m' d' : Nat)
    (h1 : (x.st i).valid = true) (h2 : (y.st i).valid = true) (h3 : (x.bt i).sz < 100000) (h4 : (y.bt i).sz < 100000)
    (ht : IsT w (x.st i) p l c) (hb : IsX w (x.bt i) q m d) (ht' : IsT w (y.st i) p' l' c') (hb' : IsX w (y.bt i) q' m' d') :
    Calls Tryz.prog 43 #[.agg #[.string (x.nm i), .slice p l c, .int .i64 (x.bk i), .int .i64 (x.bn i), .slice q m d], .agg #[.string (y.nm i), .slice p' l' c', .int .i64 (y.bk i), .int .i64 (y.bn i), .slice q' m' d']] w fun e w' => e = .returned (.bool (funE x y i)) ∧ Below w.heap.size w w' := by
  have HS := fun W (hb : Below w.heap.size w W) => same_any (x.st i) (y.st i) W p p' l c l' c' (ht.below hb) (ht'.below hb)
  have HX := fun W (h : Below w.heap.size w W) => tsame_any (x.bt i) (y.bt i) (x.bk i) (x.bn i) (y.bk i) (y.bn i) W q q' m d m' d' (hb.below h) (hb'.below h)
  rw [same_eqV h1 h2] at HS
  rw [sm_eq1 h3 h4] at HX
  have HS := Lib.hid HS
  have HX := Lib.hid HX
  unfold funE
  generalize T.eqT (x.st i) (y.st i) = B1 at HS
  generalize X.eq1 (x.bk i) (x.bn i) (x.bt i) (y.bk i) (y.bn i) (y.bt i) = B2 at HX
  generalize x.nm i = s1
  generalize y.nm i = s2
  generalize x.bk i = k1 at HX
  generalize y.bk i = k2 at HX
  generalize x.bn i = n1 at HX
  generalize y.bn i = n2 at HX
  have hbx1 := alloc_kept (heap_new w (.cells #[.string s1, .slice p l c, .int .i64 k1, .int .i64 n1, .slice q m d] 52)) (.cells #[.string s2, .slice p' l' c', .int .i64 k2, .int .i64 n2, .slice q' m' d'] 52)
  have hbx2 := heap_new2 w (.cells #[.string s1, .slice p l c, .int .i64 k1, .int .i64 n1, .slice q m d] 52) (.cells #[.string s2, .slice p' l' c', .int .i64 k2, .int .i64 n2, .slice q' m' d'] 52)
  have B2' : Below w.heap.size w ((w.alloc (.cells #[.string s1, .slice p l c, .int .i64 k1, .int .i64 n1, .slice q m d] 52)).alloc (.cells #[.string s2, .slice p' l' c', .int .i64 k2, .int .i64 n2, .slice q' m' d'] 52)) := ((Below.refl _ _).alloc (Nat.le_refl _) _).alloc (by simp) _
  have HB := Lib.hid (And.intro B2' (And.intro hbx1 hbx2))
  clear B2' hbx1 hbx2 ht hb ht' hb' h1 h2 h3 h4
  by_cases he : s1 = s2
  · have hd : (s1.toList == s2.toList) = true := by simp [he]
    have hz : (decide (s1 = s2) && (B1 && B2)) = (B1 && B2) := by simp [he]
    rw [hz]
    clear he hz
    go_enter Tryz.func43, Tryz.ntmps43
    cases B1 with
    | false =>
      go_wp2_with fail
      refine (HS.out _ HB.out.1).mono ?_
      rintro e w1 ⟨rfl, hb1⟩
      go_wp2_with fail
      go_ret
      exact ⟨rfl, HB.out.1.trans (hb1.mono HB.out.1.size)⟩
    | true =>
      go_wp2_with fail
      refine (HS.out _ HB.out.1).mono ?_
      rintro e w1 ⟨rfl, hb1⟩
      have hB := HB.out.1.trans (hb1.mono HB.out.1.size)
      obtain ⟨a0, a1, a2, a3, a4⟩ := fun_box (box3_later hb1 HB.out.2.1)
      obtain ⟨c0, c1, c2, c3, c4⟩ := fun_box (box3_later hb1 HB.out.2.2)
      have HB1 := Lib.hid hB
      clear hB hb1
      go_wp2_with fail
      refine (HX.out _ HB1.out).mono ?_
      rintro e w2 ⟨rfl, hb2⟩
      go_wp2_with fail
      go_ret
      exact ⟨rfl, HB1.out.trans (hb2.mono HB1.out.size)⟩
  · have hd : (s1.toList == s2.toList) = false := strs_ne he
    have hz : (decide (s1 = s2) && (B1 && B2)) = false := by simp [he]
    rw [hz]
    clear he hz
    go_enter Tryz.func43, Tryz.ntmps43
    go_wp2_with fail
    go_ret
    exact ⟨rfl, HB.out.1⟩

set_option maxRecDepth 100000 in
set_option maxHeartbeats 4000000 in
/-- slices.EqualFunc of functions, by alike -/
theorem funsequal_any (x y : Fu) (w : World) (p q : Option Addr) (n c m c' : Nat) (hv1 : ∀ i, i < x.len → (x.st i).valid = true ∧ (x.bt i).sz < 100000) (hv2 : ∀ i, i < y.len → (y.st i).valid = true ∧ (y.bt i).sz < 100000)
    (hx : IsF w x p n c) (hy : IsF w y q m c') :
    Calls Tryz.prog 42 #[.slice p n c, .slice q m c', .func (Fn.func 43) #[] #[]] w fun e w' => e = .returned (.bool (fuEq x y)) ∧ Below w.heap.size w w' := by
  have hx0 := hx
  have hy0 := hy
  obtain ⟨rfl, hcap, hmax, hnil, _⟩ := hx
  obtain ⟨rfl, hcap', hmax', hnil', _⟩ := hy
  unfold maxLen at hmax hmax'
  have HXY := Lib.hid (And.intro hx0 hy0)
  have HV := Lib.hid (And.intro hv1 hv2)
  clear hx0 hy0 hv1 hv2
  by_cases hl : x.len = y.len
  case neg =>
    have hd : ((x.len : Int) != (y.len : Int)) = true := by rw [bne_iff_ne]; omega
    have e : fuEq x y = false := by simp [fuEq, hl]
    rw [e]
    go_enter Tryz.func42, Tryz.ntmps42
    go_wp2_with fail
    go_ret
    exact ⟨rfl, Below.refl _ _⟩
  case pos =>
    have hd : ((x.len : Int) != (y.len : Int)) = false := by simp [hl]
    have e : funsE x y 0 (x.len - 0) = fuEq x y := by simp [fuEq, hl]
    have hle : x.len ≤ y.len := by omega
    obtain ⟨Z, hZ⟩ : ∃ Z, fuEq x y = Z := ⟨_, rfl⟩
    rw [hZ] at e ⊢
    clear hZ hl
    go_enter Tryz.func42, Tryz.ntmps42
    go_wp2_with fail
    go_loopw [17] (fun v wr => ∃ j : Nat, j ≤ x.len ∧ v = .int .i64 (j : Int) ∧ funsE x y j (x.len - j) = Z ∧ Below w.heap.size w wr)
      (fun v _ => x.len - (Go.RowKit.intOf v).toNat)
    case atStart => exact ⟨0, Nat.zero_le _, rfl, e, Below.refl _ _⟩
    case round =>
      clear hd
      obtain ⟨j, hj, rfl, hmo, hb⟩ := hrel
      have HB := Lib.hid hb
      by_cases hlt : j < x.len
      · obtain ⟨b1, o1, rfl, p1, n1, c1, q1, m1, d1, e1, e2, e3, e4, e5, e6, e7⟩ := rowF_all (HXY.out.1.below hb) hlt
        obtain ⟨b2, o2, rfl, p2, n2, c2, q2, m2, d2, f1, f2, f3, f4, f5, f6, f7⟩ := rowF_all (HXY.out.2.below hb) (show j < y.len by omega)
        have hlt2 : j < y.len := by omega
        have A1 := fun o => (keep_alloc wr o _ _ (lt_of_cell f1)).trans f1
        have A2 := fun o => (keep_alloc wr o _ _ (lt_of_cell f2)).trans f2
        have A3 := fun o => (keep_alloc wr o _ _ (lt_of_cell f3)).trans f3
        have A4 := fun o => (keep_alloc wr o _ _ (lt_of_cell f4)).trans f4
        have A5 := fun o => (keep_alloc wr o _ _ (lt_of_cell f5)).trans f5
        have HA := Lib.hid fun W (h : Below wr.heap.size wr W) => alike_any x y j W p1 n1 c1 q1 m1 d1 p2 n2 c2 q2 m2 d2 (HV.out.1 j hlt).1 (HV.out.2 j hlt2).1 (HV.out.1 j hlt).2 (HV.out.2 j hlt2).2 (e6.below h) (e7.below h) (f6.below h) (f7.below h)
        have hB : ∀ o o' : Obj, Below wr.heap.size wr ((wr.alloc o).alloc o') := fun o o' => ((Below.refl _ _).alloc (Nat.le_refl _) _).alloc (by simp) _
        have HB2 := Lib.hid hB
        rw [funsE_at x y hlt] at hmo
        clear hb e6 e7 f6 f7 hB f1 f2 f3 f4 f5
        generalize x.nm j = s1 at e1 HA
        generalize y.nm j = s2 at A1 HA
        generalize x.bk j = k1 at e3 HA
        generalize y.bk j = k2 at A3 HA
        generalize x.bn j = n1' at e4 HA
        generalize y.bn j = n2' at A4 HA
        cases hE : funE x y j with
        | true =>
          rw [hE] at HA hmo
          have HM := Lib.hid hmo
          clear hmo hE
          go_wp2_with fail
          refine (HA.out _ (HB2.out _ _)).mono ?_
          rintro e w1 ⟨rfl, hb1⟩
          have hB1 := HB.out.trans (((HB2.out _ _).trans (hb1.mono (HB2.out _ _).size)).mono HB.out.size)
          have HB1 := Lib.hid hB1
          clear hB1 hb1
          go_wp2_with fail
          go_roundw
          case rel => exact ⟨j + 1, by omega, by go_num, HM.out, HB1.out⟩
          case measure => simp [Go.RowKit.intOf]; omega
        | false =>
          rw [hE] at HA hmo
          have hz : Z = false := by rw [← hmo]; rfl
          subst hz
          clear hmo hE
          go_wp2_with fail
          refine (HA.out _ (HB2.out _ _)).mono ?_
          rintro e w1 ⟨rfl, hb1⟩
          have hB1 := HB.out.trans (((HB2.out _ _).trans (hb1.mono (HB2.out _ _).size)).mono HB.out.size)
          have HB1 := Lib.hid hB1
          clear hB1 hb1
          go_wp2_with fail
          go_ret
          exact ⟨rfl, HB1.out⟩
      · have hz : Z = true := by rw [← hmo]; exact funsE_end x y hlt
        subst hz
        clear hmo
        go_wp2_with fail
        go_ret
        exact ⟨rfl, HB.out⟩

/-- what Same answers -/
def scSame (x y : Sc) : Bool := scOk x && (scOk y && scEq x y)

theorem good_small {x : Sc} (h : scOk x = true) : ∀ i, i < x.F.len → (x.F.st i).valid = true ∧ (x.F.bt i).sz < 100000 := fun i hi => ⟨(good_of h).sort i hi, by have := (good_of h).size i hi; omega⟩

set_option maxRecDepth 100000 in
set_option maxHeartbeats 4000000 in
theorem ssame_any (x y : Sc) (a b : At2) (w : World) (hx : IsC w x a) (hy : IsC w y b) :
    Calls Tryz.prog 17 #[.agg #[.slice a.sp a.sn a.sc, .slice a.fp a.fn a.fc], .agg #[.slice b.sp b.sn b.sc, .slice b.fp b.fn b.fc]] w fun e w' => e = .returned (.bool (scSame x y)) ∧ Below w.heap.size w w' := by
  have H1 := Lib.hid fun W (h : Below w.heap.size w W) => scheck_any x a W (hx.below h)
  have H2 := Lib.hid fun W (h : Below w.heap.size w W) => scheck_any y b W (hy.below h)
  have H3 := Lib.hid fun W (h : Below w.heap.size w W) => symsequal_any x.S y.S W a.sp b.sp a.sn a.sc b.sn b.sc (hx.1.below h) (hy.1.below h)
  have H4 := Lib.hid fun (h1 : scOk x = true) (h2 : scOk y = true) W (h : Below w.heap.size w W) => funsequal_any x.F y.F W a.fp b.fp a.fn a.fc b.fn b.fc (good_small h1) (good_small h2) (hx.2.below h) (hy.2.below h)
  obtain ⟨sp, sn, sc, fp, fn, fc⟩ := a
  obtain ⟨sp', sn', sc', fp', fn', fc'⟩ := b
  dsimp only at H1 H2 H3 H4 ⊢
  have hbx1 := alloc_kept (heap_new w (.cells #[.slice sp sn sc, .slice fp fn fc] 25)) (.cells #[.slice sp' sn' sc', .slice fp' fn' fc'] 25)
  have hbx2 := heap_new2 w (.cells #[.slice sp sn sc, .slice fp fn fc] 25) (.cells #[.slice sp' sn' sc', .slice fp' fn' fc'] 25)
  have B2 : Below w.heap.size w ((w.alloc (.cells #[.slice sp sn sc, .slice fp fn fc] 25)).alloc (.cells #[.slice sp' sn' sc', .slice fp' fn' fc'] 25)) := ((Below.refl _ _).alloc (Nat.le_refl _) _).alloc (by simp) _
  have HB := Lib.hid (And.intro B2 (And.intro hbx1 hbx2))
  clear B2 hbx1 hbx2 hx hy
  unfold scSame scEq
  generalize syEq x.S y.S = B1 at H3
  generalize fuEq x.F y.F = B2 at H4
  unfold scE at H1 H2
  cases h1 : scOk x with
  | false =>
    rw [h1] at H1
    rw [if_neg (by simp)] at H1
    clear H4
    go_enter Tryz.func17, Tryz.ntmps17
    go_wp2_with fail
    refine (H1.out _ HB.out.1).mono ?_
    rintro e w1 ⟨rfl, hb1⟩
    go_wp2_with fail
    go_ret
    exact ⟨rfl, HB.out.1.trans (hb1.mono HB.out.1.size)⟩
  | true =>
    rw [h1] at H1
    rw [if_pos rfl] at H1
    cases h2 : scOk y with
    | false =>
      rw [h2] at H2
      rw [if_neg (by simp)] at H2
      clear H4
      go_enter Tryz.func17, Tryz.ntmps17
      go_wp2_with fail
      refine (H1.out _ HB.out.1).mono ?_
      rintro e w1 ⟨rfl, hb1⟩
      obtain ⟨s1, s2, s3, s4⟩ := boxes2 (box3_later hb1 HB.out.2.1) (box3_later hb1 HB.out.2.2)
      have HB1 := Lib.hid (HB.out.1.trans (hb1.mono HB.out.1.size))
      clear hb1
      go_wp2_with fail
      refine (H2.out _ HB1.out).mono ?_
      rintro e w2 ⟨rfl, hb2⟩
      go_wp2_with fail
      go_ret
      exact ⟨rfl, HB1.out.trans (hb2.mono HB1.out.size)⟩
    | true =>
      rw [h2] at H2
      rw [if_pos rfl] at H2
      have H4' := Lib.hid (H4.out h1 h2)
      clear H4
      go_enter Tryz.func17, Tryz.ntmps17
      go_wp2_with fail
      refine (H1.out _ HB.out.1).mono ?_
      rintro e w1 ⟨rfl, hb1⟩
      have HB1 := Lib.hid (And.intro (HB.out.1.trans (hb1.mono HB.out.1.size)) (And.intro (box3_later hb1 HB.out.2.1) (box3_later hb1 HB.out.2.2)))
      obtain ⟨s1, s2, s3, s4⟩ := boxes2 HB1.out.2.1 HB1.out.2.2
      clear hb1 HB H1
      go_wp2_with fail
      refine (H2.out _ HB1.out.1).mono ?_
      rintro e w2 ⟨rfl, hb2⟩
      have HB2 := Lib.hid (And.intro (HB1.out.1.trans (hb2.mono HB1.out.1.size)) (And.intro (box3_later hb2 HB1.out.2.1) (box3_later hb2 HB1.out.2.2)))
      clear hb2 HB1 s1 s2 s3 s4 H2
      obtain ⟨s1, s2, s3, s4⟩ := boxes2 HB2.out.2.1 HB2.out.2.2
      go_wp2_with fail
      refine (H3.out _ HB2.out.1).mono ?_
      cases B1 with
      | false =>
        rintro e w3 ⟨rfl, hb3⟩
        go_wp2_with fail
        go_ret
        exact ⟨rfl, HB2.out.1.trans (hb3.mono HB2.out.1.size)⟩
      | true =>
        rintro e w3 ⟨rfl, hb3⟩
        have HB3 := Lib.hid (And.intro (HB2.out.1.trans (hb3.mono HB2.out.1.size)) (And.intro (box3_later hb3 HB2.out.2.1) (box3_later hb3 HB2.out.2.2)))
        clear hb3 HB2 s1 s2 s3 s4 H3
        obtain ⟨s1, s2, s3, s4⟩ := boxes2 HB3.out.2.1 HB3.out.2.2
        go_wp2_with fail
        refine (H4'.out _ HB3.out.1).mono ?_
        rintro e w4 ⟨rfl, hb4⟩
        go_wp2_with fail
        go_ret
        exact ⟨rfl, HB3.out.1.trans (hb4.mono HB3.out.1.size)⟩

end Go.Proofs.YtjdnbmcjnkmgdaaGreatDoor

/-
  The walks of the reference's Equal and Same, of two places at which one scheme lies. Conditions: that it lies there.
-/
set_option linter.unusedSimpArgs false
set_option linter.unusedVariables false
namespace Go.Proofs.YtjdnbmcjnkmgdaaGreatDoor
open Go.RowKit Go.Maps

theorem cell_next {W W' : World} (hb : Below W.heap.size W W') {b o : Nat} {v : Value} (h : W.cell? ⟨b, o, none⟩ = some v) : W'.cell? ⟨b, o, none⟩ = some v := ((bcell hb).1 b o (lt_of_cell h)).trans h

/-- what the comparison of two functions reads: two boxes' second fields, two rows -/
theorem at12_next {W W' : World} (hb : Below W.heap.size W W') {A B : Nat} {va vb : Value} {b1 o1 : Nat} {v0 v1 v2 v3 v4 : Value} {b2 o2 : Nat} {u0 u1 u2 u3 u4 : Value}
    (h : W.cell? ⟨A, 1, none⟩ = some va ∧ W.cell? ⟨B, 1, none⟩ = some vb ∧ W.cell? ⟨b1, o1, none⟩ = some v0 ∧ W.cell? ⟨b1, o1 + 1, none⟩ = some v1 ∧ W.cell? ⟨b1, o1 + 2, none⟩ = some v2 ∧ W.cell? ⟨b1, o1 + 2 + 1, none⟩ = some v3 ∧ W.cell? ⟨b1, o1 + 2 + 2, none⟩ = some v4 ∧ W.cell? ⟨b2, o2, none⟩ = some u0 ∧ W.cell? ⟨b2, o2 + 1, none⟩ = some u1 ∧ W.cell? ⟨b2, o2 + 2, none⟩ = some u2 ∧ W.cell? ⟨b2, o2 + 2 + 1, none⟩ = some u3 ∧ W.cell? ⟨b2, o2 + 2 + 2, none⟩ = some u4) :
    W'.cell? ⟨A, 1, none⟩ = some va ∧ W'.cell? ⟨B, 1, none⟩ = some vb ∧ W'.cell? ⟨b1, o1, none⟩ = some v0 ∧ W'.cell? ⟨b1, o1 + 1, none⟩ = some v1 ∧ W'.cell? ⟨b1, o1 + 2, none⟩ = some v2 ∧ W'.cell? ⟨b1, o1 + 2 + 1, none⟩ = some v3 ∧ W'.cell? ⟨b1, o1 + 2 + 2, none⟩ = some v4 ∧ W'.cell? ⟨b2, o2, none⟩ = some u0 ∧ W'.cell? ⟨b2, o2 + 1, none⟩ = some u1 ∧ W'.cell? ⟨b2, o2 + 2, none⟩ = some u2 ∧ W'.cell? ⟨b2, o2 + 2 + 1, none⟩ = some u3 ∧ W'.cell? ⟨b2, o2 + 2 + 2, none⟩ = some u4 := by
  obtain ⟨h1, h2, h3, h4, h5, h6, h7, h8, h9, h10, h11, h12⟩ := h
  exact ⟨cell_next hb h1, cell_next hb h2, cell_next hb h3, cell_next hb h4, cell_next hb h5, cell_next hb h6, cell_next hb h7, cell_next hb h8, cell_next hb h9, cell_next hb h10, cell_next hb h11, cell_next hb h12⟩

set_option maxRecDepth 100000 in
set_option maxHeartbeats 8000000 in
/-- the reference's Equal, of two places at which one scheme lies -/
theorem refequal3_self (x : Sc) (a b : At2) (w : World) (hx : IsC w x a) (hy : IsC w x b) :
    Calls Tryz.prog 35 #[.agg #[.slice a.sp a.sn a.sc, .slice a.fp a.fn a.fc], .agg #[.slice b.sp b.sn b.sc, .slice b.fp b.fn b.fc]] w fun e w' => e = .returned (.bool true) ∧ Below w.heap.size w w' := by
  obtain ⟨sp, sn, sc, fp, fn, fc⟩ := a
  obtain ⟨sp', sn', sc', fp', fn', fc'⟩ := b
  obtain ⟨rfl, hsc, hsm, hsz, _⟩ := id hx.1
  obtain ⟨rfl, hfc, hfm, hfz, _⟩ := id hx.2
  obtain ⟨e1, hsc', hsm', hsz', _⟩ := id hy.1
  obtain ⟨e2, hfc', hfm', hfz', _⟩ := id hy.2
  unfold maxLen at hsm hfm hsm' hfm'
  dsimp only at e1 e2 hsc hsm hsz hfc hfm hfz hsc' hsm' hsz' hfc' hfm' hfz' ⊢
  subst e1 e2
  have HXY := Lib.hid (And.intro hx hy)
  clear hx hy hsz hfz hsz' hfz'
  have hbx1 := alloc_kept (heap_new w (.cells #[.slice sp x.S.len sc, .slice fp x.F.len fc] 25)) (.cells #[.slice sp' x.S.len sc', .slice fp' x.F.len fc'] 25)
  have hbx2 := heap_new2 w (.cells #[.slice sp x.S.len sc, .slice fp x.F.len fc] 25) (.cells #[.slice sp' x.S.len sc', .slice fp' x.F.len fc'] 25)
  have B2 : Below w.heap.size w ((w.alloc (.cells #[.slice sp x.S.len sc, .slice fp x.F.len fc] 25)).alloc (.cells #[.slice sp' x.S.len sc', .slice fp' x.F.len fc'] 25)) := ((Below.refl _ _).alloc (Nat.le_refl _) _).alloc (by simp) _
  have HB := Lib.hid (And.intro B2 (And.intro hbx1 hbx2))
  clear B2 hbx1 hbx2
  have hd1 : ((x.S.len : Int) != (x.S.len : Int)) = false := by simp
  have hd2 : ((x.F.len : Int) != (x.F.len : Int)) = false := by simp
  go_enter Tryz.func35, Tryz.ntmps35
  go_wp2_with fail
  clear hd1 hd2
  go_loopw [26] (fun v wr => ∃ j : Nat, j ≤ x.S.len ∧ v = .int .i64 (j : Int) ∧ Below w.heap.size w wr ∧
      wr.heap[w.heap.size]? = some (.cells #[.slice sp x.S.len sc, .slice fp x.F.len fc] 25 (0, 0)) ∧ wr.heap[w.heap.size + 1]? = some (.cells #[.slice sp' x.S.len sc', .slice fp' x.F.len fc'] 25 (0, 0)))
    (fun v _ => x.S.len - (Go.RowKit.intOf v).toNat)
  case atStart => exact ⟨0, Nat.zero_le _, rfl, HB.out.1, HB.out.2.1, HB.out.2.2⟩
  case round =>
    clear HB
    obtain ⟨j, hj, rfl, hb, hb1, hb2⟩ := hrel
    have HB := Lib.hid (And.intro hb (And.intro hb1 hb2))
    obtain ⟨t1, t2, t3, t4⟩ := boxes2 hb1 hb2
    clear hb hb1 hb2
    by_cases hlt : j < x.S.len
    · obtain ⟨b1, o1, rfl, f1, f2⟩ := rowS_all (HXY.out.1.below HB.out.1).1 hlt
      obtain ⟨b2, o2, rfl, f3, f4⟩ := rowS_all (HXY.out.2.below HB.out.1).1 hlt
      generalize x.S.nm j = s1 at f1 f3
      generalize x.S.rk j = k1 at f2 f4
      go_wp2_with fail
      go_quiet (fail)
      go_wp2_with fail
      go_roundw
      case rel => exact ⟨j + 1, by omega, by go_num, below_drewN HB.out.1 _, HB.out.2.1, HB.out.2.2⟩
      case measure => simp [Go.RowKit.intOf]; omega
    · go_wp2_with fail
      clear t1 t2 t3 t4
      go_loopw [44] (fun v wr => ∃ j : Nat, j ≤ x.F.len ∧ v = .int .i64 (j : Int) ∧ Below w.heap.size w wr ∧
          wr.heap[w.heap.size]? = some (.cells #[.slice sp x.S.len sc, .slice fp x.F.len fc] 25 (0, 0)) ∧ wr.heap[w.heap.size + 1]? = some (.cells #[.slice sp' x.S.len sc', .slice fp' x.F.len fc'] 25 (0, 0)))
        (fun v _ => x.F.len - (Go.RowKit.intOf v).toNat)
      case atStart => exact ⟨0, Nat.zero_le _, rfl, HB.out.1, HB.out.2.1, HB.out.2.2⟩
      case round =>
        clear HB hj hlt
        obtain ⟨j, hj, rfl, hb, hb1, hb2⟩ := hrel
        have HB := Lib.hid (And.intro hb (And.intro hb1 hb2))
        clear hb
        by_cases hlt : j < x.F.len
        · obtain ⟨b1, o1, rfl, p1, n1, c1, q1, m1, d1, e1, e2, e3, e4, e5, e6, e7⟩ := rowF_all (HXY.out.1.below HB.out.1).2 hlt
          obtain ⟨b2, o2, rfl, p2, n2, c2, q2, m2, d2, f1, f2, f3, f4, f5, f6, f7⟩ := rowF_all (HXY.out.2.below HB.out.1).2 hlt
          have K0 : wr.drew.cell? ⟨w.heap.size, 1, none⟩ = some (.slice (some ⟨b1, o1, none⟩) x.F.len fc) ∧ wr.drew.cell? ⟨w.heap.size + 1, 1, none⟩ = some (.slice (some ⟨b2, o2, none⟩) x.F.len fc') ∧ wr.drew.cell? ⟨b1, o1 + j * 5, none⟩ = some (.string (x.F.nm j)) ∧ wr.drew.cell? ⟨b1, o1 + j * 5 + 1, none⟩ = some (.slice p1 n1 c1) ∧ wr.drew.cell? ⟨b1, o1 + j * 5 + 2, none⟩ = some (.int .i64 (x.F.bk j)) ∧ wr.drew.cell? ⟨b1, o1 + j * 5 + 2 + 1, none⟩ = some (.int .i64 (x.F.bn j)) ∧ wr.drew.cell? ⟨b1, o1 + j * 5 + 2 + 2, none⟩ = some (.slice q1 m1 d1) ∧ wr.drew.cell? ⟨b2, o2 + j * 5, none⟩ = some (.string (x.F.nm j)) ∧ wr.drew.cell? ⟨b2, o2 + j * 5 + 1, none⟩ = some (.slice p2 n2 c2) ∧ wr.drew.cell? ⟨b2, o2 + j * 5 + 2, none⟩ = some (.int .i64 (x.F.bk j)) ∧ wr.drew.cell? ⟨b2, o2 + j * 5 + 2 + 1, none⟩ = some (.int .i64 (x.F.bn j)) ∧ wr.drew.cell? ⟨b2, o2 + j * 5 + 2 + 2, none⟩ = some (.slice q2 m2 d2) :=
            ⟨(boxes2 hb1 hb2).2.1, (boxes2 hb1 hb2).2.2.2, e1, e2, e3, e4, e5, f1, f2, f3, f4, f5⟩
          have HS := fun W (h : Below w.heap.size w W ∧ Below wr.heap.size wr W) => refequal_any (x.F.st j).nodes (x.F.st j) (x.F.st j) W p1 p2 n1 c1 n2 c2 (Nat.le_refl _) (e6.below h.2) (f6.below h.2)
          have HX := fun W (h : Below w.heap.size w W ∧ Below wr.heap.size wr W) => trefequal_any ((x.F.bt j).sz + 1) (x.F.bt j) (x.F.bt j) (x.F.bk j) (x.F.bn j) (x.F.bk j) (x.F.bn j) W q1 q2 m1 d1 m2 d2 (Nat.lt_succ_self _) (e7.below h.2) (f7.below h.2)
          rw [(T.eqT_iff (x.F.st j) (x.F.st j)).2 rfl] at HS
          rw [show X.eq1 (x.F.bk j) (x.F.bn j) (x.F.bt j) (x.F.bk j) (x.F.bn j) (x.F.bt j) = true by simp [X.eq1, (X.eqX_iff (x.F.bt j) (x.F.bt j)).2 rfl]] at HX
          have HS := Lib.hid HS
          have HX := Lib.hid HX
          have hBD : Below w.heap.size w wr.drew ∧ Below wr.heap.size wr wr.drew := ⟨below_drewN HB.out.1 1, below_drewN (Below.refl _ _) 1⟩
          have HBD := Lib.hid hBD
          clear hb1 hb2 e1 e2 e3 e4 e5 e6 e7 f1 f2 f3 f4 f5 f6 f7 hBD
          generalize x.F.nm j = s1 at K0
          generalize x.F.bk j = k1 at K0 HX
          generalize x.F.bn j = n1' at K0 HX
          go_wp2_with fail
          go_region_held3 (fun W => W.cell? ⟨w.heap.size, 1, none⟩ = some (.slice (some ⟨b1, o1, none⟩) x.F.len fc) ∧ W.cell? ⟨w.heap.size + 1, 1, none⟩ = some (.slice (some ⟨b2, o2, none⟩) x.F.len fc') ∧ W.cell? ⟨b1, o1 + j * 5, none⟩ = some (.string s1) ∧ W.cell? ⟨b1, o1 + j * 5 + 1, none⟩ = some (.slice p1 n1 c1) ∧ W.cell? ⟨b1, o1 + j * 5 + 2, none⟩ = some (.int .i64 k1) ∧ W.cell? ⟨b1, o1 + j * 5 + 2 + 1, none⟩ = some (.int .i64 n1') ∧ W.cell? ⟨b1, o1 + j * 5 + 2 + 2, none⟩ = some (.slice q1 m1 d1) ∧ W.cell? ⟨b2, o2 + j * 5, none⟩ = some (.string s1) ∧ W.cell? ⟨b2, o2 + j * 5 + 1, none⟩ = some (.slice p2 n2 c2) ∧ W.cell? ⟨b2, o2 + j * 5 + 2, none⟩ = some (.int .i64 k1) ∧ W.cell? ⟨b2, o2 + j * 5 + 2 + 1, none⟩ = some (.int .i64 n1') ∧ W.cell? ⟨b2, o2 + j * 5 + 2 + 2, none⟩ = some (.slice q2 m2 d2))
            (first | exact K0 | (refine at12_next hb4 ?_; assumption) | (refine at12_next hb3 ?_; assumption))
            (first
            | (go_at_call 76; refine (HS.out _ HBD.out).mono ?_; rintro e w3 ⟨rfl, hb3⟩)
            | (go_at_call 77; refine (HX.out _ ⟨HBD.out.1.trans (hb3.mono HBD.out.1.size), HBD.out.2.trans (hb3.mono HBD.out.2.size)⟩).mono ?_; rintro e w4 ⟨rfl, hb4⟩))
          all_goals
            have hb34 := hb3.trans (hb4.mono hb3.size)
            have HF := Lib.hid (And.intro (HBD.out.1.trans (hb34.mono HBD.out.1.size)) (And.intro (box3_later (HBD.out.2.trans (hb34.mono HBD.out.2.size)) HB.out.2.1) (box3_later (HBD.out.2.trans (hb34.mono HBD.out.2.size)) HB.out.2.2)))
            clear hb34
            go_wp2_with fail
            go_roundw
            case rel => exact ⟨j + 1, by omega, by go_num, HF.out.1, HF.out.2.1, HF.out.2.2⟩
            case measure => simp [Go.RowKit.intOf]; omega
        · obtain ⟨t1, t2, t3, t4⟩ := boxes2 hb1 hb2
          clear hb1 hb2
          go_wp2_with fail
          go_ret
          exact ⟨rfl, HB.out.1⟩

set_option maxRecDepth 100000 in
set_option maxHeartbeats 4000000 in
theorem refsame3_self (x : Sc) (a b : At2) (w : World) (hx : IsC w x a) (hy : IsC w x b) :
    Calls Tryz.prog 18 #[.agg #[.slice a.sp a.sn a.sc, .slice a.fp a.fn a.fc], .agg #[.slice b.sp b.sn b.sc, .slice b.fp b.fn b.fc]] w fun e w' => e = .returned (.bool (scOk x)) ∧ Below w.heap.size w w' := by
  have H1 := Lib.hid fun W (h : Below w.heap.size w W) => refis3_any x a W (hx.below h)
  have H2 := Lib.hid fun W (h : Below w.heap.size w W) => refis3_any x b W (hy.below h)
  have H3 := Lib.hid fun W (h : Below w.heap.size w W) => refequal3_self x a b W (hx.below h) (hy.below h)
  obtain ⟨sp, sn, sc, fp, fn, fc⟩ := a
  obtain ⟨sp', sn', sc', fp', fn', fc'⟩ := b
  dsimp only at H1 H2 H3 ⊢
  have hbx1 := alloc_kept (heap_new w (.cells #[.slice sp sn sc, .slice fp fn fc] 25)) (.cells #[.slice sp' sn' sc', .slice fp' fn' fc'] 25)
  have hbx2 := heap_new2 w (.cells #[.slice sp sn sc, .slice fp fn fc] 25) (.cells #[.slice sp' sn' sc', .slice fp' fn' fc'] 25)
  have B2 : Below w.heap.size w ((w.alloc (.cells #[.slice sp sn sc, .slice fp fn fc] 25)).alloc (.cells #[.slice sp' sn' sc', .slice fp' fn' fc'] 25)) := ((Below.refl _ _).alloc (Nat.le_refl _) _).alloc (by simp) _
  have HB := Lib.hid (And.intro B2 (And.intro hbx1 hbx2))
  clear B2 hbx1 hbx2 hx hy
  cases h1 : scOk x with
  | false =>
    rw [h1] at H1
    go_enter Tryz.func18, Tryz.ntmps18
    go_wp2_with fail
    refine (H1.out _ HB.out.1).mono ?_
    rintro e w1 ⟨rfl, hb1⟩
    go_wp2_with fail
    go_ret
    exact ⟨rfl, HB.out.1.trans (hb1.mono HB.out.1.size)⟩
  | true =>
    rw [h1] at H1 H2
    go_enter Tryz.func18, Tryz.ntmps18
    go_wp2_with fail
    refine (H1.out _ HB.out.1).mono ?_
    rintro e w1 ⟨rfl, hb1⟩
    have HB1 := Lib.hid (And.intro (HB.out.1.trans (hb1.mono HB.out.1.size)) (And.intro (box3_later hb1 HB.out.2.1) (box3_later hb1 HB.out.2.2)))
    obtain ⟨s1, s2, s3, s4⟩ := boxes2 HB1.out.2.1 HB1.out.2.2
    clear hb1 HB H1
    go_wp2_with fail
    refine (H2.out _ HB1.out.1).mono ?_
    rintro e w2 ⟨rfl, hb2⟩
    have HB2 := Lib.hid (And.intro (HB1.out.1.trans (hb2.mono HB1.out.1.size)) (And.intro (box3_later hb2 HB1.out.2.1) (box3_later hb2 HB1.out.2.2)))
    clear hb2 HB1 s1 s2 s3 s4 H2
    obtain ⟨s1, s2, s3, s4⟩ := boxes2 HB2.out.2.1 HB2.out.2.2
    go_wp2_with fail
    refine (H3.out _ HB2.out.1).mono ?_
    rintro e w3 ⟨rfl, hb3⟩
    go_wp2_with fail
    go_ret
    exact ⟨rfl, HB2.out.1.trans (hb3.mono HB2.out.1.size)⟩


end Go.Proofs.YtjdnbmcjnkmgdaaGreatDoor

/-
  The walk of the statement on texts that are read. Conditions: the package variables read as laid; that a text which is read is written back.
-/
set_option linter.unusedSimpArgs false
set_option linter.unusedVariables false
namespace Go.Proofs.YtjdnbmcjnkmgdaaGreatDoor
open Go.RowKit Go.Maps

theorem getSc_no {s : List UInt8} (h : getE s ≠ 0) : getSc s = noSc := by
  unfold getE at h
  unfold getSc
  split
  · rfl
  · rename_i h1
    rw [if_neg h1] at h
    cases hr : rdSc s with
    | none => rfl
    | some x =>
      rw [hr] at h
      simp only at h ⊢
      split
      · rename_i h2; rw [if_pos h2] at h; exact absurd rfl h
      · rfl

set_option maxRecDepth 100000 in
set_option maxHeartbeats 4000000 in
theorem law_stexts' (hp : ∀ s, getE s = 0 → putE (getSc s) = 0 ∧ putT (getSc s) = s) (s : ByteArray) (w : World) (hg : Gl w) (h6 : 6 ≤ w.heap.size) :
    Calls Tryz.prog 10 #[.string s] w fun e w' => e = .returned (.bool true) ∧ Below w.heap.size w w' := by
  obtain ⟨l, hl⟩ : ∃ l : List UInt8, s = ⟨l.toArray⟩ := ⟨s.data.toList, (str_self s).symm⟩
  subst hl
  have H1 := Lib.hid fun W h h' => sget_any l W h h'
  have H2 := Lib.hid fun W h h' => alive3_any W h h'
  by_cases h0 : getE l = 0
  · obtain ⟨p1, p2⟩ := hp l h0
    have H3 := Lib.hid fun a W h => sput_any (getSc l) a W h
    rw [p1, p2] at H3
    rw [h0] at H1
    generalize getSc l = x at H1 H3
    clear hp p1 p2 h0
    go_enter Tryz.func10, Tryz.ntmps10
    go_wp2_with fail
    refine (H1.out _ hg h6).mono ?_
    rintro e w1 ⟨⟨sp, sn, sc, fp, fn, fc⟩, rfl, hC, hb1⟩
    have HC := Lib.hid hC
    have HB := Lib.hid hb1
    clear hC hb1 H1
    go_wp2_with fail
    refine (H3.out _ _ (HC.out.alloc _)).mono ?_
    rintro e w2 ⟨rfl, hb2⟩
    have B2 := below_box HB.out hb2
    have HB2 := Lib.hid B2
    clear B2 hb2
    go_wp2_with fail
    refine (H2.out _ (hg.keep fun b hb => HB2.out.block b (by omega)) (by have := HB2.out.size; omega)).mono ?_
    rintro e w3 ⟨rfl, hb3⟩
    go_wp2_with fail
    go_ret
    exact ⟨rfl, HB2.out.trans (hb3.mono HB2.out.size)⟩
  · have e0 := getSc_no h0
    rw [e0] at H1
    have hd : (getE l == 0) = false := by simpa using h0
    generalize getE l = k at H1 hd
    clear hp e0 h0
    go_enter Tryz.func10, Tryz.ntmps10
    go_wp2_with fail
    refine (H1.out _ hg h6).mono ?_
    rintro e w1 ⟨⟨sp, sn, sc, fp, fn, fc⟩, rfl, hC, hb1⟩
    obtain rfl : sn = 0 := hC.1.1
    obtain rfl : fn = 0 := hC.2.1
    have HB := Lib.hid (hb1.alloc hb1.size (.cells #[.slice sp 0 sc, .slice fp 0 fc] 25))
    clear hC hb1 H1
    go_wp2_with fail
    refine (H2.out _ (hg.keep fun b hb => HB.out.block b (by omega)) (by have := HB.out.size; omega)).mono ?_
    rintro e w3 ⟨rfl, hb3⟩
    go_wp2_with fail
    go_ret
    exact ⟨rfl, HB.out.trans (hb3.mono HB.out.size)⟩

end Go.Proofs.YtjdnbmcjnkmgdaaGreatDoor

/-
  Plain mathematics: a text that is read as a scheme is the string of that scheme. Conditions: none.
-/
set_option linter.unusedSimpArgs false
set_option linter.unusedVariables false
namespace Go.Proofs.YtjdnbmcjnkmgdaaGreatDoor
open Go.RowKit Go.Maps

theorem ans_casesS (s : List UInt8) : (ansE s = 0 ∧ (ansT s).valid = true ∧ s.length ≤ 65536 ∧ rd s = some (ansT s, [])) ∨ (ansE s ≠ 0 ∧ ansT s = .nil) := by
  by_cases hs : s.length ≤ 65536
  case neg => exact Or.inr (by simp [ansE, ansT, hs])
  case pos =>
    cases h : rd s with
    | none => exact Or.inr (by simp [ansE, ansT, hs, h])
    | some x =>
      obtain ⟨t, r⟩ := x
      cases r with
      | cons a r => exact Or.inr (by simp [ansE, ansT, hs, h])
      | nil =>
        cases hv : t.valid with
        | false => exact Or.inr (by simp [ansE, ansT, hs, h, hv, T.oE])
        | true => exact Or.inl (by simp [ansE, ansT, hs, h, hv, T.oE])

theorem rdName_app {s r : List UInt8} {n : ByteArray} (h : rdName s = some (n, r)) : s = n.data.toList ++ r := by
  unfold rdName at h
  split at h
  · simp only [Option.some.injEq, Prod.mk.injEq] at h
    obtain ⟨rfl, rfl⟩ := h
    exact (List.takeWhile_append_dropWhile).symm
  · cases h

theorem need_app {p s r : List UInt8} (h : need p s = some r) : s = p ++ r := by
  unfold need at h
  split at h
  · rename_i hp
    obtain ⟨r', rfl⟩ := (pre_iff p s).1 hp
    simpa using h
  · cases h

theorem cutAt_app {m s a b : List UInt8} (h : cutAt m s = some (a, b)) : s = a ++ (m ++ b) := by
  unfold cutAt at h
  split at h
  · rename_i hc
    simp only [Option.some.injEq, Prod.mk.injEq] at h
    obtain ⟨rfl, rfl⟩ := h
    unfold Lib.cut at hc ⊢
    split at hc
    · rename_i hi
      rw [if_pos hi]
      rcases Lib.index_spec s m with ⟨h1, _⟩ | ⟨i, h1, h2, h3, _⟩
      · omega
      · rw [h1, Int.toNat_natCast]
        simp only
        unfold Lib.occAt at h3
        rw [List.isPrefixOf_iff_prefix] at h3
        obtain ⟨t, ht⟩ := h3
        have e : s.drop (i + m.length) = t := by
          rw [← List.drop_drop, ← ht]
          simp
        rw [e, ht, List.take_append_drop]
    · cases hc
  · cases h

theorem isD_iff {c : UInt8} (h : inD c = true) : 48 ≤ c.toNat ∧ c.toNat ≤ 57 := by
  unfold inD isD at h
  simp only [Bool.and_eq_true, decide_eq_true_eq] at h
  omega

theorem parse_ge : ∀ (l : List UInt8) (acc u : Nat), Lib.parseUint10 acc l = .ok u → acc ≤ u
  | [], acc, u, h => by
    simp only [Lib.parseUint10] at h
    injection h with h
    omega
  | c :: r, acc, u, h => by
    simp only [Lib.parseUint10] at h
    split at h
    · split at h
      · cases h
      · split at h
        · cases h
        · have := parse_ge r _ u h
          omega
    · cases h

theorem parse_step {c : UInt8} {r : List UInt8} {acc u : Nat} (h : Lib.parseUint10 acc (c :: r) = .ok u) : (48 ≤ c.toNat ∧ c.toNat ≤ 57) ∧ Lib.parseUint10 (acc * 10 + (c.toNat - 48)) r = .ok u := by
  simp only [Lib.parseUint10] at h
  split at h
  · rename_i hc
    split at h
    · cases h
    · split at h
      · cases h
      · exact ⟨hc, h⟩
  · cases h

theorem u8_of {c : UInt8} {k : Nat} (h : c.toNat = k) (hk : k < 256) : UInt8.ofNat k = c := by
  subst h
  exact UInt8.ofNat_toNat

/-- a number below 100 that a reader takes is spelt as it is written -/
theorem numOf_dec {d : List UInt8} {v : Int} (h : numOf d = some v) (hd : ∀ c ∈ d, inD c = true) (hv : v < 100) : 0 ≤ v ∧ Lib.decDigits v.toNat = d := by
  have hp := numOf_pos h
  unfold numOf at h
  cases d with
  | nil => exact absurd rfl hp
  | cons c r =>
    have hc := isD_iff (hd c (by simp))
    have ha : ∀ v', Lib.atoiAll (c :: r) = .ok v' → ∃ u, Lib.parseUint10 0 (c :: r) = .ok u ∧ v' = (u : Int) := by
      intro v' h
      unfold Lib.atoiAll Lib.parseMag at h
      have h1 : ¬ c.toNat = 43 := by omega
      have h2 : ¬ c.toNat = 45 := by omega
      simp only [h1, h2, or_self, if_false] at h
      rw [if_neg (show ¬ (c :: r) = [] by simp)] at h
      cases hu : Lib.parseUint10 0 (c :: r) with
      | ok u =>
        rw [hu] at h
        refine ⟨u, rfl, ?_⟩
        simp only [not_false_eq_true, true_and, false_and, if_false] at h
        split at h
        · cases h
        · injection h with h
          exact h.symm
      | _ => rw [hu] at h; cases h
    cases hA : Lib.atoiAll (c :: r) with
    | ok v' =>
      rw [hA] at h
      simp only at h
      obtain ⟨u, hu, rfl⟩ := ha v' hA
      split at h
      · rename_i hh
        simp only [Option.some.injEq] at h
        subst h
        refine ⟨by omega, ?_⟩
        rw [Int.toNat_natCast]
        obtain ⟨_, s1⟩ := parse_step hu
        cases r with
        | nil =>
          simp only [Lib.parseUint10] at s1
          injection s1 with s1
          rw [Lib.decDigits_one (by omega), u8_of (c := c) (by omega) (by omega)]
        | cons c2 r2 =>
          have hz : ¬ c = 48 := fun e => hh.2 ⟨by simp, by simp [e]⟩
          have hz' : c.toNat ≠ 48 := fun e => hz (by rw [← u8_of (c := c) e (by omega)]; rfl)
          obtain ⟨hc2, s2⟩ := parse_step s1
          cases r2 with
          | nil =>
            simp only [Lib.parseUint10] at s2
            injection s2 with s2
            rw [Lib.decDigits_two (by omega) (by omega), u8_of (c := c) (by omega) (by omega), u8_of (c := c2) (by omega) (by omega)]
          | cons c3 r3 =>
            obtain ⟨hc3, s3⟩ := parse_step s2
            have := parse_ge _ _ _ s3
            omega
      · cases h
    | _ => rw [hA] at h; cases h

theorem rdNum_app {s r : List UInt8} {v : Int} (h : rdNum s = some (v, r)) (hv : v < 100) : s = Lib.decDigits v.toNat ++ r := by
  unfold rdNum at h
  rw [Option.map_eq_some_iff] at h
  obtain ⟨v', h1, h2⟩ := h
  simp only [Prod.mk.injEq] at h2
  obtain ⟨rfl, rfl⟩ := h2
  rw [(numOf_dec h1 (fun c hc => List.all_eq_true.1 List.all_takeWhile c hc) hv).2]
  exact (List.takeWhile_append_dropWhile).symm

theorem idxR_at : ∀ (l : List ByteArray) (x : ByteArray) (i : Nat), idxR l x = some i → i < l.length ∧ l.reverse[i]? = some x
  | [], _, _, h => by cases h
  | n :: r, x, i, h => by
    unfold idxR at h
    cases hr : idxR r x with
    | some j =>
      rw [hr] at h
      simp only [Option.some.injEq] at h
      subst h
      obtain ⟨h1, h2⟩ := idxR_at r x j hr
      refine ⟨by simp; omega, ?_⟩
      rw [List.reverse_cons, List.getElem?_append_left (by simpa using h1)]
      exact h2
    | none =>
      rw [hr] at h
      simp only at h
      split at h
      · rename_i e
        simp only [Option.some.injEq] at h
        subst h e
        refine ⟨by simp, ?_⟩
        simp
      · cases h

theorem idx_at {l : List ByteArray} {x : ByteArray} {i : Nat} (h : idx l x = some i) : i < l.length ∧ l[i]? = some x := by
  have := idxR_at l.reverse x i h
  simpa using this

/-- the names of a scheme are those of these lists -/
def Named (x : Sc) (S F : List ByteArray) : Prop := (∀ i n, S[i]? = some n → x.S.nm i = n) ∧ (∀ i n, F[i]? = some n → x.F.nm i = n)

theorem rdHead_app {x : Sc} {S F : List ByteArray} (hN : Named x S F) {s r : List UInt8} {k n : Int} (h : rdHead S F s = some ((k, n), r)) (hv : k = 0 → n < 100) : s = hTx x k n ++ r := by
  unfold rdHead at h
  split at h
  · rename_i hp
    obtain ⟨s', rfl⟩ := (pre_iff _ _).1 hp
    rw [Option.map_eq_some_iff] at h
    obtain ⟨⟨v, r'⟩, h1, h2⟩ := h
    simp only [Prod.mk.injEq] at h2
    obtain ⟨⟨rfl, rfl⟩, rfl⟩ := h2
    have := rdNum_app h1 (hv rfl)
    simp only [List.singleton_append, List.drop_succ_cons, List.drop_zero] at this
    unfold hTx
    rw [if_pos rfl, List.singleton_append, this]
    rfl
  · split at h
    · rename_i hp
      obtain ⟨s', rfl⟩ := (pre_iff _ _).1 hp
      rw [Option.bind_eq_some_iff] at h
      obtain ⟨⟨v, r'⟩, h1, h2⟩ := h
      rw [Option.map_eq_some_iff] at h2
      obtain ⟨i, h3, h4⟩ := h2
      simp only [Prod.mk.injEq] at h4
      obtain ⟨⟨rfl, rfl⟩, rfl⟩ := h4
      have e := rdName_app h1
      simp only [List.singleton_append, List.drop_succ_cons, List.drop_zero] at e
      have hn := hN.1 i _ (idx_at h3).2
      unfold hTx
      rw [if_neg (by decide), if_neg (by decide), Int.toNat_natCast, hn, List.singleton_append, e]
      rfl
    · rw [Option.bind_eq_some_iff] at h
      obtain ⟨⟨v, r'⟩, h1, h2⟩ := h
      rw [Option.map_eq_some_iff] at h2
      obtain ⟨i, h3, h4⟩ := h2
      simp only [Prod.mk.injEq] at h4
      obtain ⟨⟨rfl, rfl⟩, rfl⟩ := h4
      have e := rdName_app h1
      have hn := hN.2 i _ (idx_at h3).2
      unfold hTx
      rw [if_neg (by decide), if_pos rfl, Int.toNat_natCast, hn]
      exact e

theorem goodH_var {x : Sc} {k n : Int} (h : goodH x k n) : k = 0 → n < 100 := by
  rintro rfl
  obtain ⟨_, h1⟩ := h
  rcases h1 with h1 | h1 | h1
  · exact h1.2
  · exact absurd h1.1 (by decide)
  · exact absurd h1.1 (by decide)

theorem rdArgs_app {x : Sc} {S F : List ByteArray} (hN : Named x S F) : ∀ (f : Nat) (s : List UInt8) (a : X) (r : List UInt8), rdArgs S F f s = some (a, r) → goodX x a → s = aTx x a ++ r := by
  intro f
  induction f with
  | zero => intro s a r h; cases h
  | succ f ih =>
    intro s a r h hg
    unfold rdArgs at h
    split at h
    · rename_i h1
      obtain ⟨s', rfl⟩ := (pre_iff _ _).1 h1
      simp only [List.singleton_append, List.drop_succ_cons, List.drop_zero] at h
      split at h
      · rename_i h2
        obtain ⟨s2, rfl⟩ := (pre_iff _ _).1 h2
        split at h
        · cases h
        · rename_i hd rr he
          split at h
          · cases h
          · rename_i a2 r2 he2
            split at h
            · rename_i hc
              rw [Option.map_eq_some_iff] at h
              obtain ⟨y, hy, he3⟩ := h
              simp only [Prod.mk.injEq] at he3
              obtain ⟨rfl, rfl⟩ := he3
              obtain ⟨g1, g2, g3⟩ := hg
              obtain ⟨r3, rfl⟩ := (pre_iff _ _).1 hc.2
              have e1 := rdHead_app hN (k := hd.1) (n := hd.2) he (goodH_var g1)
              have e2 := ih _ _ _ he2 g2
              have e3 := ih _ _ _ hy g3
              simp only [List.singleton_append, List.drop_succ_cons, List.drop_zero] at e1 e2 e3
              simp only [aTx, if_neg hc.1]
              rw [List.singleton_append, List.singleton_append, e1, e2, e3]
              simp
            · cases h
      · split at h
        · cases h
        · rename_i hd rr he
          rw [Option.map_eq_some_iff] at h
          obtain ⟨y, hy, he3⟩ := h
          simp only [Prod.mk.injEq] at he3
          obtain ⟨rfl, rfl⟩ := he3
          obtain ⟨g1, g2, g3⟩ := hg
          have e1 := rdHead_app hN (k := hd.1) (n := hd.2) he (goodH_var g1)
          have e3 := ih _ _ _ hy g3
          simp only [aTx]
          rw [if_pos (by rfl), List.singleton_append, e1, e3]
          simp
    · simp only [Option.some.injEq, Prod.mk.injEq] at h
      obtain ⟨rfl, rfl⟩ := h
      simp [aTx]

theorem rdBody_app {x : Sc} {S F : List ByteArray} (hN : Named x S F) {s : List UInt8} {k n : Int} {a : X} (h : rdBody S F s = some (k, n, a)) (hh : goodH x k n) (hg : goodX x a) : s = tTx x k n a := by
  unfold rdBody at h
  rw [Option.bind_eq_some_iff] at h
  obtain ⟨⟨t, r⟩, h1, h2⟩ := h
  split at h2
  · rename_i hr
    simp only [Option.some.injEq] at h2
    simp only at h2 hr
    subst h2
    unfold rdT at h1
    rw [Option.bind_eq_some_iff] at h1
    obtain ⟨⟨hd, r1⟩, h3, h4⟩ := h1
    rw [Option.map_eq_some_iff] at h4
    obtain ⟨⟨a', r2⟩, h5, h6⟩ := h4
    simp only [Prod.mk.injEq] at h6
    obtain ⟨⟨rfl, rfl, rfl⟩, rfl⟩ := h6
    have e1 := rdHead_app hN (k := hd.1) (n := hd.2) h3 (goodH_var hh)
    have e2 := rdArgs_app hN _ _ _ _ h5 hg
    rw [List.isEmpty_iff] at hr
    subst hr
    rw [List.append_nil] at e2
    simp only at e2
    rw [e1, e2]
    rfl
  · cases h2

theorem rdSyms_app {sy : List (ByteArray × Int)} (hr : ∀ y ∈ sy, y.2 < 100) (x : Sc) : ∀ (f : Nat) (s : List UInt8) (l : List (ByteArray × Int)) (r : List UInt8) (i : Nat), rdSyms f s = some (l, r) → sy.drop i = l → x.S = sySc sy → s = symsL x i l.length ++ r := by
  intro f
  induction f with
  | zero => intro s l r i h; cases h
  | succ f ih =>
    intro s l r i h hl hx
    unfold rdSyms at h
    split at h
    · rename_i hp
      obtain ⟨s', rfl⟩ := (pre_iff _ _).1 hp
      rw [Option.bind_eq_some_iff] at h
      obtain ⟨⟨y, r1⟩, h1, h2⟩ := h
      rw [Option.map_eq_some_iff] at h2
      obtain ⟨⟨l', r2⟩, h3, h4⟩ := h2
      simp only [Prod.mk.injEq] at h4
      obtain ⟨rfl, rfl⟩ := h4
      have hi : i < sy.length := by
        have := congrArg List.length hl
        simp only [List.length_drop, List.length_cons] at this
        omega
      have hy : sy[i]? = some y := by
        have := congrArg List.head? hl
        simpa using this
      have hd : sy.drop (i + 1) = l' := by
        have := congrArg List.tail hl
        simpa using this
      have e1 := ih _ _ _ (i + 1) h3 hd hx
      unfold rdSym at h1
      simp only [Option.bind_eq_some_iff, Option.map_eq_some_iff] at h1
      obtain ⟨⟨n, r0⟩, g0, r4, g1, ⟨k, r5⟩, g2, r6, g3, g4⟩ := h1
      simp only [Prod.mk.injEq] at g4
      obtain ⟨rfl, rfl⟩ := g4
      have a0 := rdName_app g0
      have a1 := need_app g1
      have hk : k < 100 := hr _ (List.mem_of_getElem? hy)
      have a2 := rdNum_app g2 hk
      have a3 := need_app g3
      simp only at a0 a1 a2 a3 e1
      have hn : x.S.nm i = n := by rw [hx]; simp [sySc, List.getD, hy]
      have hrk : x.S.rk i = k := by rw [hx]; simp [sySc, List.getD, hy]
      have ed : (symW ++ s').drop 7 = s' := rfl
      rw [ed] at a0
      simp only [symsL, List.length_cons]
      unfold symL
      rw [hn, hrk, a0, a1, a2, a3, e1]
      simp [symW]
    · simp only [Option.some.injEq, Prod.mk.injEq] at h
      obtain ⟨rfl, rfl⟩ := h
      simp [symsL]

theorem ansE_txt {c : List UInt8} (h : ansE c = 0) : (ansT c).pT = c := by
  rcases ans_casesS c with ⟨hk, hv, hs, hr⟩ | ⟨hk, ht⟩
  · have := rd_txt (c.length + 1) c (ansT c) [] (by omega) hr
    rw [List.append_nil] at this
    simp only [T.pT, hv, if_true]
    exact this.symm
  · exact absurd h (by omega)

theorem rdFuns_app {L : List FL} {b : List (Int × Int × X)} {x : Sc} (hx : x.F = fuSc L b) (hs : sorted L = true) (hb : ∀ i, i < L.length → (L.getD i ⟨ByteArray.empty, .nil, 0, []⟩).bd = tTx x (x.F.bk i) (x.F.bn i) (x.F.bt i)) :
    ∀ (f : Nat) (s : List UInt8) (l : List FL) (i : Nat), rdFuns f s = some l → L.drop i = l → s = funsL x i l.length := by
  intro f
  induction f with
  | zero => intro s l i h; cases h
  | succ f ih =>
    intro s l i h hl
    unfold rdFuns at h
    split at h
    · rename_i he
      simp only [Option.some.injEq] at h
      subst h
      rw [List.isEmpty_iff] at he
      rw [he]
      rfl
    · simp only [Option.bind_eq_some_iff, Option.map_eq_some_iff] at h
      obtain ⟨r0, h0, ⟨y, r1⟩, h1, l', h2, rfl⟩ := h
      have hi : i < L.length := by
        have := congrArg List.length hl
        simp only [List.length_drop, List.length_cons] at this
        omega
      have hy : L[i]? = some y := by
        have := congrArg List.head? hl
        simpa using this
      have hd : L.drop (i + 1) = l' := by
        have := congrArg List.tail hl
        simpa using this
      have e1 := ih _ _ (i + 1) h2 hd
      have e0 := need_app h0
      have hbd := hb i hi
      have her : y.er = 0 := by
        have := List.all_eq_true.1 hs y (List.mem_of_getElem? hy)
        simpa using this
      unfold rdFun at h1
      simp only [Option.bind_eq_some_iff] at h1
      obtain ⟨⟨n, q0⟩, g0, q1, g1, ⟨c1, c2⟩, g2, g3⟩ := h1
      simp only at g3
      split at g3
      · cases g3
      · rw [Option.map_eq_some_iff] at g3
        obtain ⟨⟨b1, b2⟩, g4, g5⟩ := g3
        simp only [Prod.mk.injEq] at g5
        obtain ⟨rfl, rfl⟩ := g5
        have a0 := rdName_app g0
        have a1 := need_app g1
        have a2 := cutAt_app g2
        have a4 := cutAt_app g4
        simp only at a0 a1 a2 a4 e1 her
        have hpt := ansE_txt her
        have hn : x.F.nm i = n := by rw [hx]; simp [fuSc, List.getD, hy]
        have hst : x.F.st i = ansT c1 := by rw [hx]; simp [fuSc, List.getD, hy]
        have hbb : b1 = tTx x (x.F.bk i) (x.F.bn i) (x.F.bt i) := by
          rw [← hbd]
          simp [List.getD, hy]
        simp only [funsL, List.length_cons]
        unfold funL
        rw [← hbb, hn, hst, hpt, e0, a0, a1, a2, a4, e1]
        simp [funW]

theorem rdBodies_at {S F : List ByteArray} : ∀ (L : List FL) (b : List (Int × Int × X)), rdBodies S F L = some b → b.length = L.length ∧ ∀ (i : Nat) (f : FL), L[i]? = some f → ∃ t, b[i]? = some t ∧ rdBody S F f.bd = some t
  | [], b, h => by
    simp only [rdBodies, Option.some.injEq] at h
    subst h
    exact ⟨rfl, fun i f hf => by simp at hf⟩
  | f0 :: r, b, h => by
    simp only [rdBodies, Option.bind_eq_some_iff, Option.map_eq_some_iff] at h
    obtain ⟨t, h1, b', h2, rfl⟩ := h
    obtain ⟨g1, g2⟩ := rdBodies_at r b' h2
    refine ⟨by simp [g1], fun i f hf => ?_⟩
    cases i with
    | zero =>
      simp only [List.getElem?_cons_zero, Option.some.injEq] at hf
      subst hf
      exact ⟨t, by simp, h1⟩
    | succ i =>
      simp only [List.getElem?_cons_succ] at hf ⊢
      exact g2 i f hf

/-- a text that is read is written back -/
theorem texts_back {s : List UInt8} (h : getE s = 0) : putE (getSc s) = 0 ∧ putT (getSc s) = s := by
  unfold getE at h
  split at h
  · exact absurd h (by decide)
  · rename_i hl
    have hg : getSc s = match rdSc s with | none => noSc | some x => if x.2 = true ∧ scOk x.1 = true then x.1 else noSc := by unfold getSc; rw [if_neg hl]; cases rdSc s <;> rfl
    rw [hg]
    cases hr : rdSc s with
    | none => rw [hr] at h; exact absurd h (by decide)
    | some y =>
      rw [hr] at h
      simp only at h ⊢
      split at h
      · rename_i hc
        rw [if_pos hc]
        have hgood := good_of hc.2
        unfold rdSc at hr
        rw [Option.bind_eq_some_iff] at hr
        obtain ⟨⟨sy, L⟩, h1, h2⟩ := hr
        rw [Option.map_eq_some_iff] at h2
        obtain ⟨b, h3, rfl⟩ := h2
        simp only at hc hgood ⊢
        unfold rdL at h1
        rw [Option.bind_eq_some_iff] at h1
        obtain ⟨⟨sy', r1⟩, g1, g2⟩ := h1
        rw [Option.map_eq_some_iff] at g2
        obtain ⟨L', g3, g4⟩ := g2
        simp only [Prod.mk.injEq] at g4
        obtain ⟨rfl, rfl⟩ := g4
        obtain ⟨x, hx⟩ : ∃ x, (⟨sySc sy', fuSc L' b⟩ : Sc) = x := ⟨_, rfl⟩
        have hxS : x.S = sySc sy' := by rw [← hx]
        have hxF : x.F = fuSc L' b := by rw [← hx]
        rw [hx] at hc hgood ⊢
        have hN : Named x (sy'.map (·.1)) (L'.map (·.nm)) := by
          refine ⟨fun i n hi => ?_, fun i n hi => ?_⟩
          · rw [List.getElem?_map, Option.map_eq_some_iff] at hi
            obtain ⟨z, hz, rfl⟩ := hi
            rw [hxS]; simp [sySc, List.getD, hz]
          · rw [List.getElem?_map, Option.map_eq_some_iff] at hi
            obtain ⟨z, hz, rfl⟩ := hi
            rw [hxF]; simp [fuSc, List.getD, hz]
        have hlS : x.S.len = sy'.length := by rw [hxS]; rfl
        have hlF : x.F.len = L'.length := by rw [hxF]; rfl
        have hrk : ∀ y ∈ sy', y.2 < 100 := by
          intro y hy
          obtain ⟨i, hi⟩ := List.getElem?_of_mem hy
          have hi' : i < sy'.length := (List.getElem?_eq_some_iff.1 hi).1
          have := hgood.rank i (by omega)
          have e : x.S.rk i = y.2 := by rw [hxS]; simp [sySc, List.getD, hi]
          omega
        have hb : ∀ i, i < L'.length → (L'.getD i ⟨ByteArray.empty, .nil, 0, []⟩).bd = tTx x (x.F.bk i) (x.F.bn i) (x.F.bt i) := by
          intro i hi
          obtain ⟨_, hat⟩ := rdBodies_at L' b h3
          obtain ⟨⟨k, n, a⟩, ht, hbd⟩ := hat i L'[i] (by simp [hi])
          have e1 : x.F.bk i = k := by rw [hxF]; simp [fuSc, List.getD, ht]
          have e2 : x.F.bn i = n := by rw [hxF]; simp [fuSc, List.getD, ht]
          have e3 : x.F.bt i = a := by rw [hxF]; simp [fuSc, List.getD, ht]
          have gh := hgood.head i (by omega)
          have gx := hgood.body i (by omega)
          rw [e1, e2] at gh
          rw [e3] at gx
          rw [e1, e2, e3]
          have := rdBody_app hN hbd gh gx
          simpa [List.getD, hi] using this
        have t1 := rdSyms_app hrk x _ _ _ _ 0 g1 (List.drop_zero) hxS
        have t2 := rdFuns_app hxF hc.1 hb _ _ _ 0 g3 (List.drop_zero)
        have hput : putL x = s := by
          unfold putL
          rw [hlS, hlF]
          simp only at t1 t2
          rw [t1, t2]
        unfold putE putT
        rw [hput, if_pos hc.2, if_pos hc.2, if_neg hl, if_neg hl]
        exact ⟨rfl, rfl⟩
      · exact absurd h (by decide)

theorem law_stexts (s : ByteArray) (w : World) (hg : Gl w) (h6 : 6 ≤ w.heap.size) :
    Calls Tryz.prog 10 #[.string s] w fun e w' => e = .returned (.bool true) ∧ Below w.heap.size w w' := law_stexts' (fun _ h => texts_back h) s w hg h6

end Go.Proofs.YtjdnbmcjnkmgdaaGreatDoor

/-
  Plain mathematics: the string of a valid scheme is read as that scheme. Conditions: beyond its symbols and functions a scheme's lists hold the values that a reading leaves there.
-/
set_option linter.unusedSimpArgs false
set_option linter.unusedVariables false
namespace Go.Proofs.YtjdnbmcjnkmgdaaGreatDoor
open Go.RowKit Go.Maps

/-- the next byte does not belong to a name -/
def hdOff (r : List UInt8) : Prop := ∀ c, r.head? = some c → inN c = false

theorem inD_inN {c : UInt8} (h : inD c = true) : inN c = true := by
  unfold inD isD at h
  unfold inN okc
  rw [Bool.or_eq_true, Bool.or_eq_true]
  exact Or.inl (Or.inr h)

theorem span_app {p : UInt8 → Bool} {l r : List UInt8} (h : ∀ c ∈ l, p c = true) (hr : ∀ c, r.head? = some c → p c = false) : (l ++ r).takeWhile p = l ∧ (l ++ r).dropWhile p = r := by
  induction l with
  | nil =>
    cases r with
    | nil => exact ⟨rfl, rfl⟩
    | cons c r =>
      have := hr c rfl
      simp [this]
  | cons c l ih =>
    obtain ⟨h1, h2⟩ := ih fun d hd => h d (by simp [hd])
    have := h c (by simp)
    simp [this, h1, h2]

theorem nm_all {n : ByteArray} (h : nm n = true) : ∀ c ∈ n.data.toList, inN c = true := by
  unfold nm at h
  simp only [Bool.and_eq_true] at h
  have h2 := h.2
  unfold oks at h2
  rw [List.drop_zero, List.all_eq_true] at h2
  exact h2

theorem nm_ne {n : ByteArray} (h : nm n = true) : ∃ c l, n.data.toList = c :: l := by
  unfold nm at h
  simp only [Bool.and_eq_true, decide_eq_true_eq] at h
  have h1 := h.1.1.1
  cases hl : n.data.toList with
  | nil =>
    have h2 := congrArg List.length hl
    rw [size_list, List.length_nil] at h2
    omega
  | cons c l => exact ⟨c, l, rfl⟩

theorem rdName_put {n : ByteArray} {r : List UInt8} (h : nm n = true) (hr : hdOff r) : rdName (n.data.toList ++ r) = some (n, r) := by
  obtain ⟨h1, h2⟩ := span_app (nm_all h) hr
  have e : (⟨n.data.toList.toArray⟩ : ByteArray) = n := str_self n
  unfold rdName
  rw [h1, h2, e, if_pos h]

theorem numOf_all : (List.range 100).all (fun i => decide (numOf (Lib.decDigits i) = some (i : Int)) && (Lib.decDigits i).all inD) = true := by kernel_rfl

theorem numOf_put {i : Nat} (h : i < 100) : numOf (Lib.decDigits i) = some (i : Int) ∧ ∀ c ∈ Lib.decDigits i, inD c = true := by
  have := List.all_eq_true.1 numOf_all i (List.mem_range.2 h)
  simp only [Bool.and_eq_true, decide_eq_true_eq, List.all_eq_true] at this
  exact this

theorem rdNum_put {i : Nat} {r : List UInt8} (h : i < 100) (hr : hdOff r) : rdNum (Lib.decDigits i ++ r) = some ((i : Int), r) := by
  obtain ⟨h1, h2⟩ := numOf_put h
  obtain ⟨e1, e2⟩ := span_app h2 (r := r) (fun c hc => by
    cases hd : inD c with
    | false => rfl
    | true => exact absurd (inD_inN hd) (by simp [hr c hc]))
  unfold rdNum
  rw [e1, e2, h1]
  rfl

theorem idxR_put : ∀ (l : List ByteArray) (x : ByteArray) (i : Nat), l.reverse[i]? = some x → (∀ j, j < i → l.reverse[j]? ≠ some x) → idxR l x = some i
  | [], x, i, h, _ => by simp at h
  | n :: r, x, i, h, hno => by
    rw [List.reverse_cons] at h hno
    unfold idxR
    by_cases hi : i < r.length
    · have hl : i < r.reverse.length := by simpa using hi
      rw [List.getElem?_append_left hl] at h
      rw [idxR_put r x i h fun j hj => by
        have := hno j hj
        rwa [List.getElem?_append_left (by simp; omega)] at this]
    · have h2 : i = r.length := by
        have := (List.getElem?_eq_some_iff.1 h).1
        simp at this
        omega
      subst h2
      have hx : n = x := by simpa using h
      cases hr : idxR r x with
      | some j =>
        obtain ⟨h1, h2⟩ := idxR_at r x j hr
        have := hno j h1
        rw [List.getElem?_append_left (by simpa using h1)] at this
        exact absurd h2 this
      | none => simp [hx]

theorem idx_put {l : List ByteArray} {x : ByteArray} {i : Nat} (h : l[i]? = some x) (hno : ∀ j, j < i → l[j]? ≠ some x) : idx l x = some i :=
  idxR_put l.reverse x i (by rwa [List.reverse_reverse]) (by rwa [List.reverse_reverse])

/-- these lists are the names of a scheme, and its names are such and different -/
structure NamedB (x : Sc) (S F : List ByteArray) : Prop where
  sn : ∀ i, i < x.S.len → nm (x.S.nm i) = true
  fn : ∀ i, i < x.F.len → nm (x.F.nm i) = true
  si : ∀ i, i < x.S.len → idx S (x.S.nm i) = some i
  fi : ∀ i, i < x.F.len → idx F (x.F.nm i) = some i

theorem pre_no {c d : UInt8} {l : List UInt8} (h : c ≠ d) : pre [c] (d :: l) = false := by
  have : (c == d) = false := by simpa using h
  simp [Proofs.YtjdnbmcjnkmgdaaGreatDoor.pre, List.isPrefixOf, this]

theorem inN_ne {c : UInt8} (h : inN c = true) (k : Nat) (hk : k < 48) : c ≠ UInt8.ofNat k := by
  rintro rfl
  unfold inN okc isL at h
  simp only [Bool.or_eq_true, Bool.and_eq_true, decide_eq_true_eq] at h
  have e : (UInt8.ofNat k).toNat = k := by simp; omega
  rw [e] at h
  omega

theorem rdHead_put {x : Sc} {S F : List ByteArray} (hN : NamedB x S F) {k n : Int} (h : goodH x k n) {r : List UInt8} (hr : hdOff r) : rdHead S F (hTx x k n ++ r) = some ((k, n), r) := by
  obtain ⟨h0, h1⟩ := h
  obtain ⟨m, rfl⟩ : ∃ m : Nat, n = m := ⟨n.toNat, by omega⟩
  rcases h1 with ⟨rfl, h1⟩ | ⟨rfl, h1⟩ | ⟨rfl, h1⟩
  · unfold hTx rdHead
    rw [if_pos rfl, Int.toNat_natCast, if_pos (show pre [36] (36 :: Lib.decDigits m ++ r) = true from pre_append [36] _)]
    show (rdNum (Lib.decDigits m ++ r)).map _ = _
    rw [rdNum_put (by omega) hr]
    rfl
  · have hn := hN.fn m (by omega)
    obtain ⟨c, l, hc⟩ := nm_ne hn
    have hcN := nm_all hn c (by rw [hc]; simp)
    have p1 : pre [36] ((x.F.nm m).data.toList ++ r) = false := by rw [hc]; exact pre_no (fun e => inN_ne hcN 36 (by omega) e.symm)
    have p2 : pre [35] ((x.F.nm m).data.toList ++ r) = false := by rw [hc]; exact pre_no (fun e => inN_ne hcN 35 (by omega) e.symm)
    have e : hTx x 1 (m : Int) = (x.F.nm m).data.toList := by unfold hTx; rw [if_neg (by decide), if_pos rfl, Int.toNat_natCast]
    rw [e]
    unfold rdHead
    rw [if_neg (by simp [p1]), if_neg (by simp [p2]), rdName_put hn hr, Option.bind_some, hN.fi m (by omega)]
    rfl
  · have hn := hN.sn m (by omega)
    have e : hTx x 2 (m : Int) = 35 :: (x.S.nm m).data.toList := by unfold hTx; rw [if_neg (by decide), if_neg (by decide), Int.toNat_natCast]
    rw [e, List.cons_append]
    unfold rdHead
    have p35 : pre [35] (35 :: ((x.S.nm m).data.toList ++ r)) = true := pre_append [35] _
    rw [if_neg (by rw [pre_no (by decide)]; simp), if_pos p35]
    show (rdName ((x.S.nm m).data.toList ++ r)).bind _ = _
    rw [rdName_put hn hr, Option.bind_some, hN.si m (by omega)]
    rfl

theorem hdOff_cons {c : UInt8} {l : List UInt8} (h : inN c = false) : hdOff (c :: l) := by
  rintro d hd
  simp only [List.head?_cons, Option.some.injEq] at hd
  subst hd
  exact h

theorem hdOff_pre {c : UInt8} {p r : List UInt8} (h : inN c = false) : hdOff ((c :: p) ++ r) := hdOff_cons h

theorem aTx_hd {x : Sc} {a : X} {r : List UInt8} (hr : hdOff r) : hdOff (aTx x a ++ r) := by
  cases a with
  | nil => exact hr
  | cons k n a t =>
    simp only [aTx]
    split
    · exact hdOff_cons (by decide)
    · exact hdOff_cons (by decide)

theorem hTx_head {x : Sc} {S F : List ByteArray} (hN : NamedB x S F) {k n : Int} (h : goodH x k n) (r : List UInt8) : pre [40] (hTx x k n ++ r) = false := by
  obtain ⟨h0, h1⟩ := h
  obtain ⟨m, rfl⟩ : ∃ m : Nat, n = m := ⟨n.toNat, by omega⟩
  rcases h1 with ⟨rfl, h1⟩ | ⟨rfl, h1⟩ | ⟨rfl, h1⟩
  · unfold hTx
    rw [if_pos rfl, List.cons_append]
    exact pre_no (by decide)
  · have hn := hN.fn m (by omega)
    obtain ⟨c, l, hc⟩ := nm_ne hn
    have hcN := nm_all hn c (by rw [hc]; simp)
    unfold hTx
    rw [if_neg (by decide), if_pos rfl, Int.toNat_natCast, hc]
    exact pre_no (fun e => inN_ne hcN 40 (by omega) e.symm)
  · unfold hTx
    rw [if_neg (by decide), if_neg (by decide), List.cons_append]
    exact pre_no (by decide)

theorem rdA_put {x : Sc} {S F : List ByteArray} (hN : NamedB x S F) : ∀ (a : X), goodX x a → ∀ (r : List UInt8), hdOff r → pre [32] r = false → rdA S F (aTx x a ++ r) = some (a, r) := by
  intro a
  induction a with
  | nil => intro _ r _ hp; exact rdA_end hp
  | cons k n a t iha iht =>
    intro hg r hr hp
    obtain ⟨g1, g2, g3⟩ := hg
    have ht := iht g3 r hr hp
    simp only [aTx]
    by_cases h0 : a.len = 0
    · have ha : a = .nil := by
        cases a with
        | nil => rfl
        | cons _ _ _ _ => simp [X.len] at h0
      subst ha
      rw [if_pos h0]
      show rdA S F (32 :: (hTx x k n ++ aTx x t) ++ r) = _
      rw [List.cons_append, List.append_assoc, rdA_plain (hTx_head hN g1 _), rdHead_put hN g1 (aTx_hd hr), Option.bind_some, ht]
      rfl
    · rw [if_neg h0]
      have e : (32 :: 40 :: (hTx x k n ++ aTx x a ++ [41]) ++ aTx x t) ++ r = 32 :: 40 :: (hTx x k n ++ (aTx x a ++ (41 :: (aTx x t ++ r)))) := by simp
      rw [e, rdA_open]
      unfold rdT
      rw [rdHead_put hN g1 (aTx_hd (hdOff_cons (by decide))), Option.bind_some]
      show ((rdA S F (aTx x a ++ (41 :: (aTx x t ++ r)))).map _).bind _ = _
      rw [iha g2 _ (hdOff_cons (by decide)) (pre_no (by decide)), Option.map_some, Option.bind_some]
      show (if a.len ≠ 0 ∧ pre [41] (41 :: (aTx x t ++ r)) = true then _ else _) = _
      rw [if_pos ⟨h0, pre_append [41] _⟩]
      show (rdA S F (aTx x t ++ r)).map _ = _
      rw [ht]
      rfl

theorem rdBody_put {x : Sc} {S F : List ByteArray} (hN : NamedB x S F) {k n : Int} {a : X} (hh : goodH x k n) (hg : goodX x a) : rdBody S F (tTx x k n a) = some (k, n, a) := by
  have e1 := rdHead_put hN hh (r := aTx x a) (by have := aTx_hd (x := x) (a := a) (r := []) (by rintro c hc; cases hc); rwa [List.append_nil] at this)
  have e2 := rdA_put hN a hg [] (by rintro c hc; cases hc) rfl
  rw [List.append_nil] at e2
  unfold rdBody rdT tTx
  rw [e1, Option.bind_some]
  show (((rdA S F (aTx x a)).map _).bind _) = _
  rw [e2]
  rfl

theorem need_put (p r : List UInt8) : need p (p ++ r) = some r := by
  unfold need
  rw [if_pos (pre_append p r), List.drop_left]

theorem cut_put {m a b : List UInt8} (h : ∀ j, j < a.length → Lib.occAt (a ++ (m ++ b)) m j = false) : cutAt m (a ++ (m ++ b)) = some (a, b) := by
  have hi : Lib.index (a ++ (m ++ b)) m = a.length := Lib.index_first (by simp) (by unfold Lib.occAt; rw [List.drop_left, List.isPrefixOf_iff_prefix]; exact ⟨b, rfl⟩) h
  have e : Lib.cut (a ++ (m ++ b)) m = (a, b, true) := by
    unfold Lib.cut
    rw [hi, if_pos (Int.natCast_nonneg _), Int.toNat_natCast, List.take_left, ← List.drop_drop, List.drop_left, List.drop_left]
  unfold cutAt
  rw [e]
  rfl

/-- a mark begins nowhere where its byte d is at none of the places -/
theorem occ_no {m s : List UInt8} {j i : Nat} {d : UInt8} (hd : m[i]? = some d) (h : s[j + i]? ≠ some d) : Lib.occAt s m j = false := by
  cases hb : Lib.occAt s m j with
  | false => rfl
  | true =>
    unfold Lib.occAt at hb
    rw [List.isPrefixOf_iff_prefix] at hb
    obtain ⟨t, ht⟩ := hb
    have : (s.drop j)[i]? = some d := by
      rw [← ht, List.getElem?_append_left (List.getElem?_eq_some_iff.1 hd).1]
      exact hd
    rw [List.getElem?_drop] at this
    exact absurd this h

theorem T.txt_chars (t : T) : ∀ c ∈ t.txt, c ≠ 61 := by
  induction t with
  | nil => intro c hc; simp [T.txt] at hc; subst hc; decide
  | cons h t ihh iht =>
    intro c hc
    simp only [T.txt, List.mem_append] at hc
    rcases hc with hc | hc
    · split at hc
      · simp at hc
        rcases hc with rfl | rfl | rfl | rfl <;> decide
      · simp only [List.mem_cons, List.mem_append, List.not_mem_nil, or_false] at hc
        rcases hc with rfl | hc | rfl | rfl | rfl | rfl
        · decide
        · exact ihh c hc
        all_goals decide
    · exact iht c hc

theorem cut_sort {t : T} {b : List UInt8} : cutAt [32, 61, 32] (t.txt ++ ([32, 61, 32] ++ b)) = some (t.txt, b) := by
  refine cut_put fun j hj => occ_no (i := 1) (d := 61) rfl ?_
  by_cases h1 : j + 1 < t.txt.length
  · rw [List.getElem?_append_left h1]
    intro e
    exact T.txt_chars t _ (List.mem_of_getElem? e) rfl
  · have e : j + 1 = t.txt.length := by omega
    rw [e, List.getElem?_append_right (Nat.le_refl _), Nat.sub_self]
    show some (32 : UInt8) ≠ some 61
    decide

theorem inN_no10 {c : UInt8} (h : inN c = true) : c ≠ 10 := inN_ne h 10 (by omega)

theorem hTx_chars {x : Sc} (hs : ∀ i, i < x.S.len → nm (x.S.nm i) = true) (hf : ∀ i, i < x.F.len → nm (x.F.nm i) = true) {k n : Int} (h : goodH x k n) : ∀ c ∈ hTx x k n, c ≠ 10 := by
  obtain ⟨h0, h1⟩ := h
  obtain ⟨m, rfl⟩ : ∃ m : Nat, n = m := ⟨n.toNat, by omega⟩
  intro c hc
  rcases h1 with ⟨rfl, h1⟩ | ⟨rfl, h1⟩ | ⟨rfl, h1⟩
  · unfold hTx at hc
    rw [if_pos rfl, Int.toNat_natCast, List.mem_cons] at hc
    rcases hc with rfl | hc
    · decide
    · exact inN_no10 (inD_inN ((numOf_put (by omega)).2 c hc))
  · unfold hTx at hc
    rw [if_neg (by decide), if_pos rfl, Int.toNat_natCast] at hc
    exact inN_no10 (nm_all (hf m (by omega)) c hc)
  · unfold hTx at hc
    rw [if_neg (by decide), if_neg (by decide), Int.toNat_natCast, List.mem_cons] at hc
    rcases hc with rfl | hc
    · decide
    · exact inN_no10 (nm_all (hs m (by omega)) c hc)

theorem aTx_chars {x : Sc} (hs : ∀ i, i < x.S.len → nm (x.S.nm i) = true) (hf : ∀ i, i < x.F.len → nm (x.F.nm i) = true) : ∀ (a : X), goodX x a → ∀ c ∈ aTx x a, c ≠ 10 := by
  intro a
  induction a with
  | nil => intro _ c hc; simp [aTx] at hc
  | cons k n a t iha iht =>
    intro hg c hc
    obtain ⟨g1, g2, g3⟩ := hg
    simp only [aTx, List.mem_append] at hc
    rcases hc with hc | hc
    · split at hc
      · rw [List.mem_cons] at hc
        rcases hc with rfl | hc
        · decide
        · exact hTx_chars hs hf g1 c hc
      · simp only [List.mem_cons, List.mem_append, List.not_mem_nil, or_false] at hc
        rcases hc with rfl | rfl | (hc | hc) | rfl
        · decide
        · decide
        · exact hTx_chars hs hf g1 c hc
        · exact iha g2 c hc
        · decide
    · exact iht g3 c hc

theorem cut_line {a b : List UInt8} (h : ∀ c ∈ a, c ≠ 10) : cutAt [10] (a ++ ([10] ++ b)) = some (a, b) := by
  refine cut_put fun j hj => occ_no (i := 0) (d := 10) rfl ?_
  rw [Nat.add_zero, List.getElem?_append_left hj]
  intro e
  exact h _ (List.mem_of_getElem? e) rfl

theorem ans_put {t : T} (h : t.valid = true) : ansE t.txt = 0 ∧ ansT t.txt = t := by
  have hr := txt_rd t [] rfl
  rw [List.append_nil] at hr
  have hl := pT_len h
  have e : t.pT = t.txt := by unfold T.pT; rw [if_pos h]
  rw [e] at hl
  unfold ansE ansT
  rw [if_pos (by omega), if_pos (by omega), hr]
  simp [h, T.oE]

/-- a scheme's symbols and functions from i on, as the lists that a reading of its lines gives -/
def symsR (x : Sc) : Nat → Nat → List (ByteArray × Int)
  | _, 0 => []
  | i, m + 1 => (x.S.nm i, x.S.rk i) :: symsR x (i + 1) m

def funsR (x : Sc) : Nat → Nat → List FL
  | _, 0 => []
  | i, m + 1 => ⟨x.F.nm i, x.F.st i, 0, tTx x (x.F.bk i) (x.F.bn i) (x.F.bt i)⟩ :: funsR x (i + 1) m

def bodsR (x : Sc) : Nat → Nat → List (Int × Int × X)
  | _, 0 => []
  | i, m + 1 => (x.F.bk i, x.F.bn i, x.F.bt i) :: bodsR x (i + 1) m

theorem symsR_get (x : Sc) : ∀ (m i j : Nat), (symsR x i m)[j]? = if j < m then some (x.S.nm (i + j), x.S.rk (i + j)) else none
  | 0, _, _ => by simp [symsR]
  | m + 1, i, 0 => by simp [symsR]
  | m + 1, i, j + 1 => by
    simp only [symsR, List.getElem?_cons_succ]
    rw [symsR_get x m (i + 1) j, show i + 1 + j = i + (j + 1) by omega]
    simp

theorem funsR_get (x : Sc) : ∀ (m i j : Nat), (funsR x i m)[j]? = if j < m then some ⟨x.F.nm (i + j), x.F.st (i + j), 0, tTx x (x.F.bk (i + j)) (x.F.bn (i + j)) (x.F.bt (i + j))⟩ else none
  | 0, _, _ => by simp [funsR]
  | m + 1, i, 0 => by simp [funsR]
  | m + 1, i, j + 1 => by
    simp only [funsR, List.getElem?_cons_succ]
    rw [funsR_get x m (i + 1) j, show i + 1 + j = i + (j + 1) by omega]
    simp

theorem bodsR_get (x : Sc) : ∀ (m i j : Nat), (bodsR x i m)[j]? = if j < m then some (x.F.bk (i + j), x.F.bn (i + j), x.F.bt (i + j)) else none
  | 0, _, _ => by simp [bodsR]
  | m + 1, i, 0 => by simp [bodsR]
  | m + 1, i, j + 1 => by
    simp only [bodsR, List.getElem?_cons_succ]
    rw [bodsR_get x m (i + 1) j, show i + 1 + j = i + (j + 1) by omega]
    simp

theorem symsR_len (x : Sc) : ∀ (m i : Nat), (symsR x i m).length = m
  | 0, _ => rfl
  | m + 1, i => by simp [symsR, symsR_len x m (i + 1)]

theorem funsR_len (x : Sc) : ∀ (m i : Nat), (funsR x i m).length = m
  | 0, _ => rfl
  | m + 1, i => by simp [funsR, funsR_len x m (i + 1)]

theorem funsR_sorted (x : Sc) : ∀ (m i : Nat), sorted (funsR x i m) = true
  | 0, _ => rfl
  | m + 1, i => by
    have := funsR_sorted x m (i + 1)
    unfold sorted at this ⊢
    simp only [funsR, List.all_cons, decide_true, Bool.true_and]
    exact this

theorem rdSy_put {x : Sc} (hn : ∀ i, i < x.S.len → nm (x.S.nm i) = true) (hk : ∀ i, i < x.S.len → 0 ≤ x.S.rk i ∧ x.S.rk i ≤ 4) {r : List UInt8} (hr : pre symW r = false) :
    ∀ (m i : Nat), i + m ≤ x.S.len → rdSy (symsL x i m ++ r) = some (symsR x i m, r)
  | 0, i, _ => rdSy_end hr
  | m + 1, i, h => by
    have ih := rdSy_put hn hk hr m (i + 1) (by omega)
    have h1 := hn i (by omega)
    obtain ⟨h2, h3⟩ := hk i (by omega)
    obtain ⟨k, hkk⟩ : ∃ k : Nat, x.S.rk i = k := ⟨(x.S.rk i).toNat, by omega⟩
    have e : symsL x i (m + 1) ++ r = symW ++ ((x.S.nm i).data.toList ++ ([32] ++ (Lib.decDigits k ++ ([10] ++ (symsL x (i + 1) m ++ r))))) := by
      simp only [symsL, symL, hkk, Int.toNat_natCast, symW]
      simp
    rw [e, rdSy_more (pre_append _ _)]
    have e7 : ∀ l : List UInt8, (symW ++ l).drop 7 = l := fun l => rfl
    rw [e7]
    unfold rdSym
    rw [rdName_put h1 ((hdOff_pre (c := 32) (p := []) (by decide))), Option.bind_some]
    simp only
    rw [need_put, Option.bind_some, rdNum_put (by omega) (hdOff_pre (c := 10) (p := []) (by decide)), Option.bind_some]
    simp only
    rw [need_put, Option.map_some, Option.bind_some]
    simp only
    rw [ih]
    simp [symsR, hkk]

theorem rdFu_put {x : Sc} (hg : Good x) (hs : ∀ i, i < x.S.len → nm (x.S.nm i) = true) (hn : ∀ i, i < x.F.len → nm (x.F.nm i) = true) :
    ∀ (m i : Nat), i + m ≤ x.F.len → rdFu (funsL x i m) = some (funsR x i m)
  | 0, i, _ => rdFu_end
  | m + 1, i, h => by
    have ih := rdFu_put hg hs hn m (i + 1) (by omega)
    have h1 := hn i (by omega)
    have h2 := hg.sort i (by omega)
    have h3 := hg.head i (by omega)
    have h4 := hg.body i (by omega)
    have hp : (x.F.st i).pT = (x.F.st i).txt := by unfold T.pT; rw [if_pos h2]
    obtain ⟨a1, a2⟩ := ans_put h2
    have hch : ∀ c ∈ tTx x (x.F.bk i) (x.F.bn i) (x.F.bt i), c ≠ 10 := by
      intro c hc
      unfold tTx at hc
      rw [List.mem_append] at hc
      rcases hc with hc | hc
      · exact hTx_chars hs hn h3 c hc
      · exact aTx_chars hs hn _ h4 c hc
    have e : funsL x i (m + 1) = funW ++ ((x.F.nm i).data.toList ++ ([32, 58, 32] ++ ((x.F.st i).txt ++ ([32, 61, 32] ++ (tTx x (x.F.bk i) (x.F.bn i) (x.F.bt i) ++ ([10] ++ funsL x (i + 1) m)))))) := by
      simp only [funsL, funL, hp, funW]
      simp
    rw [e, rdFu_more (by simp [funW]), need_put, Option.bind_some]
    unfold rdFun
    rw [rdName_put h1 (hdOff_pre (c := 32) (p := [58, 32]) (by decide)), Option.bind_some]
    simp only
    rw [need_put, Option.bind_some, cut_sort, Option.bind_some]
    simp only
    rw [a1, if_neg (by decide), cut_line hch, Option.map_some, Option.bind_some]
    simp only
    rw [ih, a2]
    rfl

theorem rdBodies_put {x : Sc} (hg : Good x) {S F : List ByteArray} (hN : NamedB x S F) : ∀ (m i : Nat), i + m ≤ x.F.len → rdBodies S F (funsR x i m) = some (bodsR x i m)
  | 0, i, _ => rfl
  | m + 1, i, h => by
    have ih := rdBodies_put hg hN m (i + 1) (by omega)
    simp only [funsR, rdBodies, bodsR]
    rw [rdBody_put hN (hg.head i (by omega)) (hg.body i (by omega)), Option.bind_some, ih]
    rfl

/-- beyond its symbols and functions a scheme's lists hold what a reading leaves there -/
structure Norm (x : Sc) : Prop where
  s1 : ∀ i, x.S.len ≤ i → x.S.nm i = ByteArray.empty
  s2 : ∀ i, x.S.len ≤ i → x.S.rk i = 0
  f1 : ∀ i, x.F.len ≤ i → x.F.nm i = ByteArray.empty
  f2 : ∀ i, x.F.len ≤ i → x.F.st i = .nil
  f3 : ∀ i, x.F.len ≤ i → x.F.bk i = 0
  f4 : ∀ i, x.F.len ≤ i → x.F.bn i = 0
  f5 : ∀ i, x.F.len ≤ i → x.F.bt i = .nil

theorem sySc_put {x : Sc} (h : Norm x) : sySc (symsR x 0 x.S.len) = x.S := by
  have e1 : ∀ i, ((symsR x 0 x.S.len).getD i (ByteArray.empty, 0)) = (x.S.nm i, x.S.rk i) := by
    intro i
    rw [List.getD_eq_getElem?_getD, symsR_get]
    by_cases hi : i < x.S.len
    · rw [if_pos hi, Nat.zero_add]; rfl
    · rw [if_neg hi, h.s1 i (by omega), h.s2 i (by omega)]; rfl
  unfold sySc
  simp only [e1, symsR_len]

theorem fuSc_put {x : Sc} (h : Norm x) : fuSc (funsR x 0 x.F.len) (bodsR x 0 x.F.len) = x.F := by
  have e1 : ∀ i, ((funsR x 0 x.F.len).getD i ⟨ByteArray.empty, .nil, 0, []⟩).nm = x.F.nm i := by
    intro i
    rw [List.getD_eq_getElem?_getD, funsR_get]
    by_cases hi : i < x.F.len
    · rw [if_pos hi, Nat.zero_add]; rfl
    · rw [if_neg hi, h.f1 i (by omega)]; rfl
  have e2 : ∀ i, ((funsR x 0 x.F.len).getD i ⟨ByteArray.empty, .nil, 0, []⟩).st = x.F.st i := by
    intro i
    rw [List.getD_eq_getElem?_getD, funsR_get]
    by_cases hi : i < x.F.len
    · rw [if_pos hi, Nat.zero_add]; rfl
    · rw [if_neg hi, h.f2 i (by omega)]; rfl
  have e3 : ∀ i, ((bodsR x 0 x.F.len).getD i (0, 0, .nil)) = (x.F.bk i, x.F.bn i, x.F.bt i) := by
    intro i
    rw [List.getD_eq_getElem?_getD, bodsR_get]
    by_cases hi : i < x.F.len
    · rw [if_pos hi, Nat.zero_add]; rfl
    · rw [if_neg hi, h.f3 i (by omega), h.f4 i (by omega), h.f5 i (by omega)]; rfl
  unfold fuSc
  simp only [e1, e2, e3, funsR_len]

theorem funsL_pre (x : Sc) (m : Nat) : pre symW (funsL x 0 m) = false := by
  cases m with
  | zero => rfl
  | succ m =>
    have e : ∃ l, funsL x 0 (m + 1) = 102 :: l := ⟨_, by simp only [funsL, funL]; rfl⟩
    obtain ⟨l, e⟩ := e
    rw [e]
    simp [Proofs.YtjdnbmcjnkmgdaaGreatDoor.pre, symW, List.isPrefixOf]

/-- what is written is read back -/
theorem round_put {x : Sc} (h : scOk x = true) (hn : Norm x) (hl : (putL x).length ≤ 65536) : getE (putL x) = 0 ∧ getSc (putL x) = x := by
  have hg := good_of h
  have h' := h
  simp only [scOk, Bool.and_eq_true, Bool.not_eq_true', decide_eq_false_iff_not] at h'
  obtain ⟨⟨⟨⟨⟨h1, h2⟩, h3⟩, h4⟩, h5⟩, h6⟩ := h'
  simp only [plOk, Bool.and_eq_true, validL] at h5
  obtain ⟨⟨h51, _, h52⟩, _⟩ := h5
  have hs := h51
  change symsOk x.S = true at hs
  simp only [symsOk, Bool.and_eq_true, decide_eq_true_eq] at hs
  have hsy := fun i (hi : i < x.S.len) => symFrom_at x.S x.S.len 0 hs.2 i (Nat.zero_le _) (by omega)
  have hsn := fun i (hi : i < x.S.len) => symOk_name (hsy i hi)
  have hfn := (distF_iff x).1 h3
  have hN : NamedB x ((symsR x 0 x.S.len).map (·.1)) ((funsR x 0 x.F.len).map (·.nm)) := by
    refine ⟨hsn, fun i hi => (hfn i hi).1, fun i hi => idx_put (by rw [List.getElem?_map, symsR_get, if_pos hi, Nat.zero_add]; rfl) fun j hj => ?_, fun i hi => idx_put (by rw [List.getElem?_map, funsR_get, if_pos hi, Nat.zero_add]; rfl) fun j hj => ?_⟩
    · rw [List.getElem?_map, symsR_get, if_pos (by omega), Nat.zero_add]
      have := hsy i hi
      simp only [symOk, Bool.and_eq_true, Bool.not_eq_true'] at this
      have := (dup_iff x.S i).1 this.1.1.2 j hj
      simpa using this
    · rw [List.getElem?_map, funsR_get, if_pos (by omega), Nat.zero_add]
      have := (hfn i hi).2 j hj
      simpa using this
  have e1 := rdSy_put hsn hg.rank (funsL_pre x x.F.len) x.S.len 0 (by omega)
  have e2 := rdFu_put hg hsn (fun i hi => (hfn i hi).1) x.F.len 0 (by omega)
  have e3 := rdBodies_put hg hN x.F.len 0 (by omega)
  have e4 : rdSc (putL x) = some (x, true) := by
    unfold rdSc rdL putL
    rw [e1, Option.bind_some]
    simp only
    rw [e2, Option.map_some, Option.bind_some]
    unfold rdB
    simp only
    rw [e3, Option.map_some, sySc_put hn, fuSc_put hn, funsR_sorted]
  unfold getE getSc
  rw [if_neg (by omega), if_neg (by omega), e4]
  simp [h]

/-- a scheme, and beyond its lists what a reading leaves there -/
def Sc.norm (x : Sc) : Sc := ⟨⟨x.S.len, fun i => if i < x.S.len then x.S.nm i else ByteArray.empty, fun i => if i < x.S.len then x.S.rk i else 0⟩,
  ⟨x.F.len, fun i => if i < x.F.len then x.F.nm i else ByteArray.empty, fun i => if i < x.F.len then x.F.st i else .nil, fun i => if i < x.F.len then x.F.bk i else 0, fun i => if i < x.F.len then x.F.bn i else 0, fun i => if i < x.F.len then x.F.bt i else .nil⟩⟩

theorem norm_norm (x : Sc) : Norm x.norm := by
  refine ⟨?_, ?_, ?_, ?_, ?_, ?_, ?_⟩ <;>
    (intro i hi
     exact if_neg (Nat.not_lt.2 hi))

theorem isC_norm {w : World} {x : Sc} {a : At2} (h : IsC w x a) : IsC w x.norm a := by
  obtain ⟨⟨s1, s2, s3, s4, s5⟩, f1, f2, f3, f4, f5⟩ := h
  refine ⟨⟨s1, s2, s3, s4, ?_⟩, f1, f2, f3, f4, ?_⟩
  · rcases s5 with s5 | ⟨b, off, e, hr⟩
    · exact Or.inl s5
    · refine Or.inr ⟨b, off, e, fun i hi => ?_⟩
      have hi' : i < x.S.len := hi
      have := hr i hi
      show _ = some (Value.string (if i < x.S.len then x.S.nm i else ByteArray.empty)) ∧ _ = some (Value.int .i64 (if i < x.S.len then x.S.rk i else 0))
      rw [if_pos hi', if_pos hi']
      exact this
  · rcases f5 with f5 | ⟨b, off, e, hr⟩
    · exact Or.inl f5
    · refine Or.inr ⟨b, off, e, fun i hi => ?_⟩
      have hi' : i < x.F.len := hi
      have := hr i hi
      unfold RowF1 at this ⊢
      have e1 : x.norm.F.nm i = x.F.nm i := if_pos hi'
      have e2 : x.norm.F.st i = x.F.st i := if_pos hi'
      have e3 : x.norm.F.bk i = x.F.bk i := if_pos hi'
      have e4 : x.norm.F.bn i = x.F.bn i := if_pos hi'
      have e5 : x.norm.F.bt i = x.F.bt i := if_pos hi'
      rw [e1, e2, e3, e4, e5]
      exact this

end Go.Proofs.YtjdnbmcjnkmgdaaGreatDoor

/-
  The walk of the statement on writing and reading back. Conditions: that the scheme lies in memory, and the package variables read as laid.
-/
set_option linter.unusedSimpArgs false
set_option linter.unusedVariables false
namespace Go.Proofs.YtjdnbmcjnkmgdaaGreatDoor
open Go.RowKit Go.Maps

set_option maxRecDepth 100000 in
set_option maxHeartbeats 8000000 in
theorem law_sround' (x : Sc) (a : At2) (w : World) (hn : Norm x) (h : IsC w x a) (hg : Gl w) (h6 : 6 ≤ w.heap.size) :
    Calls Tryz.prog 9 #[.agg #[.slice a.sp a.sn a.sc, .slice a.fp a.fn a.fc]] w fun e w' => e = .returned (.bool true) ∧ Below w.heap.size w w' := by
  have H1 := Lib.hid fun W (hb : Below w.heap.size w W) => refis3_any x a W (h.below hb)
  have HA := Lib.hid fun W (hb : Below w.heap.size w W) => alive3_any W (hg.keep fun b hb' => hb.block b (by omega)) (by have := hb.size; omega)
  have H2 := Lib.hid fun W (hb : Below w.heap.size w W) => sput_any x a W (h.below hb)
  have HGET := Lib.hid fun (s : List UInt8) W (hb : Below w.heap.size w W) => sget_any s W (hg.keep fun b hb' => hb.block b (by omega)) (by have := hb.size; omega)
  have HSM := Lib.hid fun (hok : scOk x = true) b W (hb : Below w.heap.size w W) (hy : IsC W x b) => refsame3_self x b a W hy (h.below hb)
  obtain ⟨sp, sn, sc, fp, fn, fc⟩ := a
  dsimp only at H1 H2 HSM ⊢
  have hbx := heap_new w (.cells #[.slice sp sn sc, .slice fp fn fc] 25)
  have B0 := (Below.refl w.heap.size w).alloc (Nat.le_refl _) (.cells #[.slice sp sn sc, .slice fp fn fc] 25)
  obtain ⟨⟨s1, s2⟩, _⟩ := two_box hbx
  have HB := Lib.hid (And.intro hbx B0)
  clear h hg h6 hbx B0
  cases hok : scOk x with
  | false =>
    rw [hok] at H1
    go_enter Tryz.func9, Tryz.ntmps9
    go_wp2_with fail
    refine (H1.out _ HB.out.2).mono ?_
    rintro e w1 ⟨rfl, hb1⟩
    have h1 := Lib.hid (HB.out.2.trans (hb1.mono HB.out.2.size))
    clear hb1 HB s1 s2 H1
    go_wp2_with fail
    refine (HA.out _ h1.out).mono ?_
    rintro e w2 ⟨rfl, hb2⟩
    go_wp2_with fail
    go_ret
    exact ⟨rfl, h1.out.trans (hb2.mono h1.out.size)⟩
  | true =>
    rw [hok] at H1
    by_cases hl : 65536 < (putL x).length
    · have e1 : putT x = [] := by unfold putT; rw [hok]; simp [hl]
      have e2 : putE x = 3 := by unfold putE; rw [hok]; simp [hl]
      rw [e1, e2] at H2
      clear e1 e2 hl
      go_enter Tryz.func9, Tryz.ntmps9
      go_wp2_with fail
      refine (H1.out _ HB.out.2).mono ?_
      rintro e w1 ⟨rfl, hb1⟩
      have h1 := Lib.hid (And.intro (box3_later hb1 HB.out.1) (HB.out.2.trans (hb1.mono HB.out.2.size)))
      clear hb1 HB s1 s2 H1
      obtain ⟨⟨s1, s2⟩, _⟩ := two_box h1.out.1
      go_wp2_with fail
      refine (H2.out _ h1.out.2).mono ?_
      rintro e w2 ⟨rfl, hb2⟩
      have h2 := Lib.hid (h1.out.2.trans (hb2.mono h1.out.2.size))
      clear hb2 h1 s1 s2 H2
      go_wp2_with fail
      refine (HA.out _ h2.out).mono ?_
      rintro e w3 ⟨rfl, hb3⟩
      go_wp2_with fail
      go_ret
      exact ⟨rfl, h2.out.trans (hb3.mono h2.out.size)⟩
    · have e1 : putT x = putL x := by unfold putT; rw [hok]; simp [hl]
      have e2 : putE x = 0 := by unfold putE; rw [hok]; simp [hl]
      rw [e1, e2] at H2
      obtain ⟨r1, r2⟩ := round_put hok hn (by omega)
      have H3 := fun W hb => HGET.out (putL x) W hb
      rw [r1, r2] at H3
      have H3' := Lib.hid H3
      have H4 := HSM.out hok
      rw [hok] at H4
      have H4 := Lib.hid H4
      clear e1 e2 r1 r2 H3 HGET HSM
      generalize putL x = L at H2 H3' hl
      have hd : decide ((L.length : Int) ≤ 65536) = true := by simp; omega
      have hl2 : L.length ≤ 65536 := by omega
      clear hl
      go_enter Tryz.func9, Tryz.ntmps9
      go_wp2_with fail
      refine (H1.out _ HB.out.2).mono ?_
      rintro e w1 ⟨rfl, hb1⟩
      have h1 := Lib.hid (And.intro (box3_later hb1 HB.out.1) (HB.out.2.trans (hb1.mono HB.out.2.size)))
      clear hb1 HB s1 s2 H1
      obtain ⟨⟨s1, s2⟩, _⟩ := two_box h1.out.1
      go_wp2_with fail
      refine (H2.out _ h1.out.2).mono ?_
      rintro e w2 ⟨rfl, hb2⟩
      have h2 := Lib.hid (And.intro (box3_later hb2 h1.out.1) (h1.out.2.trans (hb2.mono h1.out.2.size)))
      clear hb2 h1 s1 s2 H2
      go_wp2_with fail
      refine (H3'.out _ h2.out.2).mono ?_
      rintro e w3 ⟨⟨tp, tn, tc, gp, gn, gc⟩, rfl, hC, hb3⟩
      have hB3 := h2.out.2.trans (hb3.mono h2.out.2.size)
      have hbx3 := box3_later hb3 h2.out.1
      have s1 := fun o => (two_box (alloc_kept hbx3 o)).1.1
      have s2 := fun o => (two_box (alloc_kept hbx3 o)).1.2
      have h3 := Lib.hid (And.intro (hC.alloc (.cells #[.slice tp tn tc, .slice gp gn gc] 25)) (hB3.alloc hB3.size (.cells #[.slice tp tn tc, .slice gp gn gc] 25)))
      clear hb3 h2 H3' hC hB3 hbx3
      go_wp2_with fail
      refine (H4.out _ _ h3.out.2 h3.out.1).mono ?_
      rintro e w4 ⟨rfl, hb4⟩
      have h4 := Lib.hid (h3.out.2.trans (hb4.mono h3.out.2.size))
      clear hb4 h3 s1 s2 H4
      go_wp2_with fail
      refine (HA.out _ h4.out).mono ?_
      rintro e w5 ⟨rfl, hb5⟩
      go_wp2_with fail
      go_ret
      exact ⟨rfl, h4.out.trans (hb5.mono h4.out.size)⟩

theorem law_sround (x : Sc) (a : At2) (w : World) (h : IsC w x a) (hg : Gl w) (h6 : 6 ≤ w.heap.size) :
    Calls Tryz.prog 9 #[.agg #[.slice a.sp a.sn a.sc, .slice a.fp a.fn a.fc]] w fun e w' => e = .returned (.bool true) ∧ Below w.heap.size w w' :=
  law_sround' x.norm a w (norm_norm x) (isC_norm h) hg h6

end Go.Proofs.YtjdnbmcjnkmgdaaGreatDoor

set_option linter.unusedSimpArgs false
set_option linter.unusedVariables false
namespace Go.Proofs.YtjdnbmcjnkmgdaaGreatDoor
open Go.ChangeShapes Go.WideShapes Go.ChangeAt Go.RowKit
open Go.ChangeMaps (open_string shut_string)

set_option maxRecDepth 100000 in
theorem schemeRound_lifted (os : Os) (started : os.Started) (H : Type) (enc : TypeId × Value → H) :
    ReturnsInHanded {} Tryz.checked os 9 .any (fun w args => (Rows.schemeRoundSpec.pre enc Tryz.prog Tryz.f9 [] false w args ∧ laidMetH Tryz.prog laidL w) ∧ sizedMet enc Tryz.prog Tryz.f9 (OpenSpec.ofChange Rows.schemeRoundSpec) false w args)
      (Rows.schemeRoundSpec.post enc Tryz.prog Tryz.f9 false true false false) := by
  refine lifted_shaped (C := Tryz.checked) (X := fun w _ => laidMetH Tryz.prog laidL w) (fun _ _ _ hh h => h.of_heap hh) P.own started (by kernel_rfl) Tryz.func9
    (ChangeSpec.witness_shaped (enc := enc) (C := Tryz.checked) (os := os) (X := fun w _ => laidMetH Tryz.prog laidL w) false (World.doorLaid Tryz.prog 62 os) #[.agg #[.slice none 0 0, .slice none 0 0]] 8 rfl (World.shaped_of_RefB (by kernel_rfl) (by kernel_rfl)) (by kernel_rfl) (by kernel_rfl) (by kernel_rfl) (door_met os _)) ?_
  intro W args ds gs before hval0 hW _ hL hsh
  have hW' := hW
  obtain ⟨p, q, hA0, hV, rfl, hfz, hnd⟩ := hW
  have hA : DataW.TrodAll enc Tryz.prog W 0 (fun _ => true) true Tryz.f9.params.toList args.toList ds p := hA0
  rw [Tryz.params9] at hA hval0
  obtain ⟨v0, d0, rfl, rfl, h0⟩ := trodAll_one hA
  obtain ⟨rfl, rfl⟩ := trodVars_none hV
  have k0 := h0
  obtain ⟨base0, hv0⟩ := hval0 0 25 v0 rfl rfl
  obtain ⟨x0, b0, rfl, i0⟩ := open_scheme hv0 h0
  clear hA0 hval0
  simp only [List.append_nil] at hW'
  obtain ⟨hg, h6⟩ := gl_of hL hsh
  refine (law_sround x0 b0 W i0 hg h6).mono fun e W' ⟨he, hb⟩ => ?_
  subst he
  have hlt := fun x hx => hW'.lt x hx
  exact ⟨_, rfl, post_below (pv := []) hW' (fun _ _ _ => trodAll_mk1 (shut_bool Tryz.underlying4 true))
    (fun sp hsp => trodAll_mk1 (WideElems.Trod_stays P.laidOut P.readC (of_decide_eq_true (by kernel_rfl)) k0 (fun x hx => hb.same (hlt x (by simp [hx]))) (fun x hx => hsp x (by simp [hx]))))
    (fun _ _ => rfl) (by simp) hb (ok_one (by kernel_rfl) rfl (okWide_bool_mk Tryz.underlying4 true))⟩

theorem schemeRound_row : Rows.SchemeRoundSaid :=
  OpenClaim.holds_of_wide 9 Tryz.f9 rfl rfl rfl rfl rfl rfl rfl ⟨rfl, rfl, rfl, rfl, rfl⟩ rfl rfl rfl rfl rfl (by kernel_rfl) Tryz.func9 (by kernel_rfl)
    (of_decide_eq_true (by kernel_rfl)) (by unfold Func.isWrapper; rw [if_neg (of_decide_eq_false (by kernel_rfl))]; exact ⟨rfl, rfl⟩)
    (fun os started H enc _ => schemeRound_lifted os started H enc)

theorem schemeRound_holds : Rows.SchemeRoundCardSaid :=
  Claim7.holds_tied_plain_at .later [] [.data, .data, .data, .sentinel, .sentinel] true Rows.schemeRoundCard.stood.harness true
    schemeRound_row (fun _ h => by cases h) (by kernel_rfl) (fun _ h => by cases h) schemeRound_row_tie rfl ⟨rfl, rfl⟩ (by kernel_rfl) rfl
    (fun f fn hf hfn => by
      obtain rfl : f = 9 := Option.some.inj ((show Tryz.prog.funcNamed "virgation/virgationlaw03.SchemeRound" = some 9 by kernel_rfl).symm.trans hf) |>.symm
      obtain rfl : fn = Tryz.f9 := (Option.some.inj (Tryz.func9.symm.trans hfn)).symm
      exact ⟨by kernel_rfl, fun j t ht => by
        rw [Tryz.params9] at ht
        have hm : t ∈ [25] := by simpa using Array.mem_of_getElem? ht
        have hall : ([25].all fun u => !Tryz.prog.wantsStandIn u) = true := by kernel_rfl
        exact (show Tryz.prog.wantsStandIn t = false by simpa using List.all_eq_true.1 hall t hm)⟩)
    (by kernel_rfl)

end Go.Proofs.YtjdnbmcjnkmgdaaGreatDoor

