/-
  Parts of one proof, laid into one text: SSameP, SGrC, SGrD, SGrE, SGrF. Conditions: each part names its own.
-/
import Derived.Test.YtjkcopgfcafpeaaGreatDoorMh02
import Derived.Test.YtjkcopgfcafpeaaGreatDoorMg29
import Derived.Laws.StructEq
import Derived.Test.YtjkcopgfcafpeaaGreatDoorMi01
import Derived.Test.YtjkcopgfcafpeaaGreatDoorMi02
import Derived.Test.YtjkcopgfcafpeaaGreatDoorMg26

/-
  When two schemes are equal, in plain form; the walks of the slices' comparisons. Conditions: that the schemes lie in memory.
-/
set_option linter.unusedSimpArgs false
set_option linter.unusedVariables false
namespace Go.Proofs.YtjkcopgfcafpeaaGreatDoor
open Go.RowKit Go.Maps

def symE (x y : Sy) (i : Nat) : Bool := decide (x.nm i = y.nm i) && decide (x.rk i = y.rk i)

def symsE (x y : Sy) : Nat → Nat → Bool
  | _, 0 => true
  | i, m + 1 => symE x y i && symsE x y (i + 1) m

def funE (x y : Fu) (i : Nat) : Bool := decide (x.nm i = y.nm i) && (T.eqT (x.st i) (y.st i) && X.eq1 (x.bk i) (x.bn i) (x.bt i) (y.bk i) (y.bn i) (y.bt i))

def funsE (x y : Fu) : Nat → Nat → Bool
  | _, 0 => true
  | i, m + 1 => funE x y i && funsE x y (i + 1) m

def syEq (x y : Sy) : Bool := decide (x.len = y.len) && symsE x y 0 x.len
def fuEq (x y : Fu) : Bool := decide (x.len = y.len) && funsE x y 0 x.len

/-- are two schemes equal? -/
def scEq (x y : Sc) : Bool := syEq x.S y.S && fuEq x.F y.F

theorem symsE_at (x y : Sy) {j n : Nat} (h : j < n) : symsE x y j (n - j) = (symE x y j && symsE x y (j + 1) (n - (j + 1))) := by
  rw [show n - j = (n - (j + 1)) + 1 by omega]; rfl

theorem funsE_at (x y : Fu) {j n : Nat} (h : j < n) : funsE x y j (n - j) = (funE x y j && funsE x y (j + 1) (n - (j + 1))) := by
  rw [show n - j = (n - (j + 1)) + 1 by omega]; rfl

theorem symsE_end (x y : Sy) {j n : Nat} (h : ¬ j < n) : symsE x y j (n - j) = true := by
  rw [show n - j = 0 by omega]; rfl

theorem funsE_end (x y : Fu) {j n : Nat} (h : ¬ j < n) : funsE x y j (n - j) = true := by
  rw [show n - j = 0 by omega]; rfl

theorem symE_self (x : Sy) (i : Nat) : symE x x i = true := by simp [symE]

theorem funE_self (x : Fu) (i : Nat) : funE x x i = true := by
  have h1 := (T.eqT_iff (x.st i) (x.st i)).2 rfl
  have h2 := (X.eqX_iff (x.bt i) (x.bt i)).2 rfl
  simp [funE, h1, h2, X.eq1]

theorem symsE_self (x : Sy) : ∀ m i, symsE x x i m = true
  | 0, _ => rfl
  | m + 1, i => by simp [symsE, symE_self, symsE_self x m]

theorem funsE_self (x : Fu) : ∀ m i, funsE x x i m = true
  | 0, _ => rfl
  | m + 1, i => by simp [funsE, funE_self, funsE_self x m]

theorem scEq_self (x : Sc) : scEq x x = true := by simp [scEq, syEq, fuEq, symsE_self, funsE_self]

theorem strs_ne {a b : ByteArray} (h : a ≠ b) : (a.toList == b.toList) = false := by
  rw [beq_eq_false_iff_ne, ByteArray.toList_eq, ByteArray.toList_eq]
  intro e
  exact h (by rw [← str_self a, ← str_self b, e])

set_option maxRecDepth 100000 in
set_option maxHeartbeats 4000000 in
/-- slices.Equal of symbols -/
theorem symsequal_any (x y : Sy) (w : World) (p q : Option Addr) (n c m c' : Nat) (hx : IsS w x p n c) (hy : IsS w y q m c') :
    Calls Tryz.prog 41 #[.slice p n c, .slice q m c'] w fun e w' => e = .returned (.bool (syEq x y)) ∧ Below w.heap.size w w' := by
  obtain ⟨rfl, hcap, hmax, hnil, hrow⟩ := hx
  obtain ⟨rfl, hcap', hmax', hnil', hrow'⟩ := hy
  unfold maxLen at hmax hmax'
  by_cases hl : x.len = y.len
  case neg =>
    have hd : ((x.len : Int) != (y.len : Int)) = true := by rw [bne_iff_ne]; omega
    have e : syEq x y = false := by simp [syEq, hl]
    rw [e]
    go_enter Tryz.func41, Tryz.ntmps41
    go_wp2_with fail
    go_ret
    exact ⟨rfl, Below.refl _ _⟩
  case pos =>
    have hd : ((x.len : Int) != (y.len : Int)) = false := by simp [hl]
    have e : symsE x y 0 (x.len - 0) = syEq x y := by simp [syEq, hl]
    have hle : x.len ≤ y.len := by omega
    obtain ⟨Z, hZ⟩ : ∃ Z, syEq x y = Z := ⟨_, rfl⟩
    rw [hZ] at e ⊢
    clear hZ hl
    go_enter Tryz.func41, Tryz.ntmps41
    go_wp2_with fail
    go_loopw [13] (fun v wr => ∃ j : Nat, j ≤ x.len ∧ v = .int .i64 (j : Int) ∧ symsE x y j (x.len - j) = Z ∧ Below w.heap.size w wr)
      (fun v _ => x.len - (Go.RowKit.intOf v).toNat)
    case atStart => exact ⟨0, Nat.zero_le _, rfl, e, Below.refl _ _⟩
    case round =>
      clear hd
      obtain ⟨j, hj, rfl, hmo, hb⟩ := hrel
      have HB := Lib.hid hb
      by_cases hlt : j < x.len
      · rcases hrow with h0 | ⟨b1, o1, rfl, hr1⟩
        · omega
        rcases hrow' with h0 | ⟨b2, o2, rfl, hr2⟩
        · omega
        obtain ⟨g1, g2⟩ := hr1 j hlt
        obtain ⟨g3, g4⟩ := hr2 j (by omega)
        have f1 := ((bcell hb).1 _ _ (lt_of_cell g1)).trans g1
        have f2 := ((bcell hb).1 _ _ (lt_of_cell g2)).trans g2
        have f3 := ((bcell hb).1 _ _ (lt_of_cell g3)).trans g3
        have f4 := ((bcell hb).1 _ _ (lt_of_cell g4)).trans g4
        rw [symsE_at x y hlt] at hmo
        unfold symE at hmo
        have hlt2 : j < y.len := by omega
        clear g1 g2 g3 g4 hr1 hr2 hb
        generalize x.nm j = s1 at f1 hmo
        generalize y.nm j = s2 at f3 hmo
        generalize x.rk j = k1 at f2 hmo
        generalize y.rk j = k2 at f4 hmo
        by_cases h1 : s1 = s2
        · subst h1
          by_cases h2 : k1 = k2
          · subst h2
            have hmo2 : symsE x y (j + 1) (x.len - (j + 1)) = Z := by simpa using hmo
            have HM := Lib.hid hmo2
            clear hmo hmo2
            go_wp2_with fail
            go_quiet (fail)
            go_wp2_with fail
            go_roundw
            case rel => exact ⟨j + 1, by omega, by go_num, HM.out, below_drewN HB.out _⟩
            case measure => simp [Go.RowKit.intOf]; omega
          · have hd2 : (k1 == k2) = false := by simpa using h2
            have hz : Z = false := by rw [← hmo]; simp [h2]
            subst hz
            clear hmo
            go_wp2_with fail
            go_quiet (fail)
            go_wp2_with fail
            go_ret
            exact ⟨rfl, below_drewN HB.out _⟩
        · have hd1 : (s1.toList == s2.toList) = false := strs_ne h1
          have hz : Z = false := by rw [← hmo]; simp [h1]
          subst hz
          clear hmo
          go_wp2_with fail
          go_quiet (fail)
          go_wp2_with fail
          go_ret
          exact ⟨rfl, below_drewN HB.out _⟩
      · have hz : Z = true := by rw [← hmo]; exact symsE_end x y hlt
        subst hz
        clear hmo
        go_wp2_with fail
        go_ret
        exact ⟨rfl, HB.out⟩

end Go.Proofs.YtjkcopgfcafpeaaGreatDoor

/-
  What the reference's number reads, in plain form; the walk of its index. Conditions: of the walk, that the scheme lies in memory.
-/
set_option linter.unusedSimpArgs false
set_option linter.unusedVariables false
namespace Go.Proofs.YtjkcopgfcafpeaaGreatDoor
open Go.RowKit Go.Maps

theorem parse_ok3 : ∀ (l : List UInt8) (n k : Nat), (∀ c ∈ l, inD c = true) → n < 10 ^ k → k + l.length ≤ 11 → Lib.parseUint10 n l = .ok (numV n l) := by
  intro l
  induction l with
  | nil => intro n k _ _ _; rfl
  | cons c r ih =>
    intro n k hd hn hk
    have hc := isD_iff (hd c (by simp))
    simp only [List.length_cons] at hk
    have h10 : n < 10000000000 := Nat.lt_of_lt_of_le hn (Nat.pow_le_pow_right (by decide) (show k ≤ 10 by omega))
    have ih := ih (10 * n + (c.toNat - 48)) (k + 1) (fun d h => hd d (by simp [h])) (by rw [Nat.pow_succ]; omega) (by omega)
    simp only [Lib.parseUint10]
    rw [if_pos (by omega), if_neg (by omega), if_neg (by omega), show n * 10 + (c.toNat - 48) = 10 * n + (c.toNat - 48) by omega, ih]
    rfl

theorem parse_big3 : ∀ (l : List UInt8) (n m u : Nat), Lib.parseUint10 n l = .ok u → numV n (l.take m) ≤ u := by
  intro l
  induction l with
  | nil => intro n m u h; rw [List.take_nil]; exact parse_ge [] n u h
  | cons c r ih =>
    intro n m u h
    cases m with
    | zero => rw [List.take_zero]; exact parse_ge _ n u h
    | succ m =>
      obtain ⟨_, h2⟩ := parse_step h
      rw [show n * 10 + (c.toNat - 48) = 10 * n + (c.toNat - 48) by omega] at h2
      exact ih _ m u h2

theorem numV_low : ∀ (l : List UInt8) (n : Nat), n * 10 ^ l.length ≤ numV n l := by
  intro l
  induction l with
  | nil => intro n; rw [List.length_nil, Nat.pow_zero, Nat.mul_one]; exact Nat.le_refl n
  | cons c r ih =>
    intro n
    have h1 := ih (10 * n + (c.toNat - 48))
    rw [List.length_cons, Nat.pow_succ]
    show n * (10 ^ r.length * 10) ≤ numV (10 * n + (c.toNat - 48)) r
    generalize 10 ^ r.length = P at h1 ⊢
    have h2 : n * (P * 10) = 10 * n * P := by rw [Nat.mul_comm P 10, ← Nat.mul_assoc, Nat.mul_comm n 10]
    rw [h2]
    exact Nat.le_trans (Nat.mul_le_mul_right P (Nat.le_add_right _ _)) h1

theorem atoi_digits {c : UInt8} {r : List UInt8} (hd : ∀ d ∈ c :: r, inD d = true) (hl : (c :: r).length ≤ 11) : Lib.atoiAll (c :: r) = .ok (numV 0 (c :: r) : Int) := by
  have hc := isD_iff (hd c (by simp))
  have h1 := parse_ok3 (c :: r) 0 0 hd (by decide) (by omega)
  have h2 := numV_lt (c :: r) 0 0 hd (by decide)
  have h3 : numV 0 (c :: r) < 100000000000 := Nat.lt_of_lt_of_le h2 (Nat.pow_le_pow_right (by decide) (show 0 + (c :: r).length ≤ 11 by omega))
  unfold Lib.atoiAll Lib.parseMag
  have e1 : ¬ (c.toNat = 43 ∨ c.toNat = 45) := by omega
  have e2 : ¬ c.toNat = 45 := by omega
  simp only [e1, if_false]
  rw [if_neg (show ¬ (c :: r) = [] by simp), h1]
  simp only [e2, not_false_eq_true, true_and, false_and, if_false]
  rw [if_neg (by omega)]

theorem drop_while (p : UInt8 → Bool) (l : List UInt8) : l.dropWhile p = l.drop (l.takeWhile p).length := by
  have h := List.takeWhile_append_dropWhile (p := p) (l := l)
  have h2 : (l.takeWhile p ++ l.dropWhile p).drop (l.takeWhile p).length = l.dropWhile p := List.drop_left
  rw [h] at h2
  exact h2.symm

theorem rdNum_at (s : List UInt8) (i : Nat) : rdNum (s.drop i) = if numOk s i = true then some ((numN s i : Int), s.drop (i + numK s i)) else none := by
  have hd := digs_all s i
  unfold rdNum
  rw [drop_while, List.drop_drop]
  change (numOf (digs s i)).map (fun v => (v, s.drop (i + (digs s i).length))) = _
  have h0 : 0 < (digs s i).length → (digs s i).getD 0 0 = s.getD i 0 := fun h => by
    have := (digs_at (s := s) (i := i) (k := 0) h).2
    rw [List.getD_eq_getElem?_getD, this, Nat.add_zero]
    rfl
  cases hD : digs s i with
  | nil =>
    have hk : numK s i = 0 := by unfold numK; rw [hD]; rfl
    unfold numOk
    rw [hk]
    simp [numOf, Lib.atoiAll]
  | cons c r =>
    rw [hD] at hd h0
    have hc0 : c = s.getD i 0 := h0 (by simp)
    by_cases hl : (c :: r).length ≤ 11
    · have hk : numK s i = (c :: r).length := by unfold numK; rw [hD]; omega
      have hn : numN s i = numV 0 (c :: r) := by unfold numN; rw [hk, hD, List.take_length]
      unfold numOf numOk
      rw [atoi_digits hd hl, hn, hk, ← hc0]
      simp only [List.getD_cons_zero]
      have hpos : 0 < (c :: r).length := by simp
      by_cases h1 : numV 0 (c :: r) ≤ 1000000000
      · by_cases h2 : 1 < (c :: r).length ∧ c = 48
        · have e : (decide ((c :: r).length = 1) || !(c == 48)) = false := by rw [decide_eq_false (by omega), h2.2]; rfl
          rw [if_neg (fun h => h.2 h2), e]
          simp
        · have e : (decide ((c :: r).length = 1) || !(c == 48)) = true := by
            by_cases h3 : (c :: r).length = 1
            · rw [decide_eq_true h3]; rfl
            · have : c ≠ 48 := fun e => h2 ⟨by omega, e⟩
              rw [show (c == 48) = false by simpa using this]
              simp
          rw [if_pos ⟨by omega, h2⟩, e, decide_eq_true hpos, decide_eq_true h1]
          rfl
      · rw [if_neg (by omega), decide_eq_false h1]
        simp
    · have hk : numK s i = 11 := by unfold numK; rw [hD]; omega
      have hn : numN s i = numV 0 ((c :: r).take 11) := by unfold numN; rw [hk, hD]
      have hbig : c ≠ 48 → 10000000000 ≤ numV 0 ((c :: r).take 11) := by
        intro h
        have hc := isD_iff (hd c (by simp))
        have hne : c.toNat ≠ 48 := fun e => h (by rw [← u8_of (c := c) e (by omega)]; rfl)
        have h1 := numV_low (r.take 10) (c.toNat - 48)
        have h2 : (r.take 10).length = 10 := by rw [List.length_take]; simp only [List.length_cons] at hl; omega
        rw [h2] at h1
        show 10000000000 ≤ numV (10 * 0 + (c.toNat - 48)) (r.take 10)
        rw [show 10 * 0 + (c.toNat - 48) = c.toNat - 48 by omega]
        have h3 : 1 * 10 ^ 10 ≤ (c.toNat - 48) * 10 ^ 10 := Nat.mul_le_mul_right _ (by omega)
        omega
      have hno : numOk s i = false := by
        unfold numOk
        rw [hk, hn, ← hc0]
        by_cases h2 : c = 48
        · rw [h2]; simp
        · have := hbig h2
          rw [decide_eq_false (show ¬ numV 0 ((c :: r).take 11) ≤ 1000000000 by omega)]
          simp
      rw [hno, if_neg (by simp)]
      have : numOf (c :: r) = none := by
        unfold numOf
        cases hA : Lib.atoiAll (c :: r) with
        | ok v =>
          simp only [List.getD_cons_zero]
          rw [if_neg]
          rintro ⟨g1, g2⟩
          have hlen : 1 < (c :: r).length := by omega
          have hc48 : c ≠ 48 := fun e => g2 ⟨hlen, e⟩
          have hb := hbig hc48
          have hc := isD_iff (hd c (by simp))
          unfold Lib.atoiAll Lib.parseMag at hA
          have e1 : ¬ (c.toNat = 43 ∨ c.toNat = 45) := by omega
          have e2 : ¬ c.toNat = 45 := by omega
          simp only [e1, if_false] at hA
          rw [if_neg (show ¬ (c :: r) = [] by simp)] at hA
          cases hu : Lib.parseUint10 0 (c :: r) with
          | ok u =>
            rw [hu] at hA
            simp only [e2, not_false_eq_true, true_and, false_and, if_false] at hA
            split at hA
            · cases hA
            · injection hA with hA
              have := parse_big3 (c :: r) 0 11 u hu
              omega
          | _ => rw [hu] at hA; cases hA
        | _ => rfl
      rw [this]
      rfl

/-- the names of a scheme -/
def SN (x : Sc) : List ByteArray := (List.range x.S.len).map x.S.nm
def FN (x : Sc) : List ByteArray := (List.range x.F.len).map x.F.nm

theorem idx_none {l : List ByteArray} {n : ByteArray} (h : ∀ i : Nat, l[i]? ≠ some n) : idx l n = none := by
  cases he : idx l n with
  | none => rfl
  | some i => exact absurd (idx_at he).2 (h i)

theorem sn_at {x : Sc} {i : Nat} : (SN x)[i]? = if i < x.S.len then some (x.S.nm i) else none := by
  unfold SN
  rw [List.getElem?_map]
  by_cases h : i < x.S.len
  · rw [List.getElem?_range h, if_pos h]; rfl
  · rw [if_neg h, List.getElem?_eq_none (by simpa using h)]; rfl

theorem fn_at {x : Sc} {i : Nat} : (FN x)[i]? = if i < x.F.len then some (x.F.nm i) else none := by
  unfold FN
  rw [List.getElem?_map]
  by_cases h : i < x.F.len
  · rw [List.getElem?_range h, if_pos h]; rfl
  · rw [if_neg h, List.getElem?_eq_none (by simpa using h)]; rfl

/-- what index answers -/
def idxI (l : List ByteArray) (n : ByteArray) : Int := match idx l n with
  | some i => (i : Int)
  | none => -1

theorem idxI_found {l : List ByteArray} {n : ByteArray} {i : Nat} (h : l[i]? = some n) (hno : ∀ j, j < i → l[j]? ≠ some n) : idxI l n = (i : Int) := by
  unfold idxI
  rw [idx_put h hno]

theorem idxI_not {l : List ByteArray} {n : ByteArray} (h : ∀ i : Nat, l[i]? ≠ some n) : idxI l n = -1 := by
  unfold idxI
  rw [idx_none h]

set_option maxRecDepth 100000 in
set_option maxHeartbeats 4000000 in
theorem index3_sym (x : Sc) (a : At2) (n : ByteArray) (w : World) (h : IsC w x a) :
    Calls Tryz.prog 132 #[.agg #[.slice a.sp a.sn a.sc, .slice a.fp a.fn a.fc], .bool true, .string n] w fun e w' => e = .returned (.int .i64 (idxI (SN x) n)) ∧ Below w.heap.size w w' := by
  obtain ⟨sp, sn, sc, fp, fn, fc⟩ := a
  obtain ⟨rfl, hsc, hsm, hsz, _⟩ := id h.1
  dsimp only at hsc hsm hsz ⊢
  unfold maxLen at hsm
  have hbx := heap_new w (.cells #[.slice sp x.S.len sc, .slice fp fn fc] 25)
  have B0 := (Below.refl w.heap.size w).alloc (Nat.le_refl _) (.cells #[.slice sp x.S.len sc, .slice fp fn fc] 25)
  have HC := Lib.hid h
  obtain ⟨⟨s1, s2⟩, _⟩ := two_box hbx
  obtain ⟨R, hR⟩ : ∃ R, idxI (SN x) n = R := ⟨_, rfl⟩
  rw [hR]
  have HR := Lib.hid hR
  have HB := Lib.hid (And.intro hbx B0)
  clear h hbx B0 hR hsz
  go_enter Tryz.func132, Tryz.ntmps132
  go_wp2_with fail
  go_loopw [7] (fun v wr => ∃ j : Nat, j ≤ x.S.len ∧ v = .int .i64 (j : Int) ∧ (∀ i, i < j → x.S.nm i ≠ n) ∧ Below w.heap.size w wr ∧ wr.heap[w.heap.size]? = some (.cells #[.slice sp x.S.len sc, .slice fp fn fc] 25 (0, 0)))
    (fun v _ => x.S.len - (Go.RowKit.intOf v).toNat)
  case atStart => exact ⟨0, Nat.zero_le _, rfl, fun i hi => absurd hi (Nat.not_lt_zero _), HB.out.2, HB.out.1⟩
  case round =>
    clear HB s1 s2
    obtain ⟨j, hj, rfl, hno, hb, hbx⟩ := hrel
    obtain ⟨⟨s1, s2⟩, _⟩ := two_box hbx
    have HS := Lib.hid (And.intro hno (And.intro hb hbx))
    by_cases hlt : j < x.S.len
    · obtain ⟨b, off, rfl, e1, e2⟩ := rowS_all (HC.out.below hb).1 hlt
      have HNM := Lib.hid (fun (s : ByteArray) (h : x.S.nm j = s) => h)
      clear hno hb hbx
      by_cases he : x.S.nm j = n
      · have hz : R = (j : Int) := by
          rw [← HR.out]
          refine idxI_found (by rw [sn_at, if_pos hlt, he]) fun i hi => ?_
          rw [sn_at, if_pos (by omega)]
          intro e
          exact HS.out.1 i hi (Option.some.inj e)
        have hd : ((x.S.nm j).toList == n.toList) = true := by simp [he]
        subst hz
        clear he
        generalize x.S.nm j = nj at e1 hd
        go_wp2_with fail
        go_ret
        exact ⟨rfl, HS.out.2.1⟩
      · have hd : ((x.S.nm j).toList == n.toList) = false := strs_ne he
        have hno2 : ∀ i, i < j + 1 → x.S.nm i ≠ n := fun i hi => by
          by_cases e : i = j
          · subst e; exact he
          · exact HS.out.1 i (by omega)
        have HN2 := Lib.hid hno2
        clear he hno2
        generalize x.S.nm j = nj at e1 hd
        go_wp2_with fail
        go_roundw
        case rel => exact ⟨j + 1, by omega, by go_num, HN2.out, HS.out.2.1, HS.out.2.2⟩
        case measure => simp [Go.RowKit.intOf]; omega
    · have hz : R = -1 := by
        rw [← HR.out]
        refine idxI_not fun i => ?_
        rw [sn_at]
        by_cases hi : i < x.S.len
        · rw [if_pos hi]
          intro e
          exact HS.out.1 i (by omega) (Option.some.inj e)
        · rw [if_neg hi]; intro e; cases e
      subst hz
      clear hno hb hbx
      go_wp2_with fail
      go_loopw [8] (fun v wr => v = .int .i64 0 ∧ Below w.heap.size w wr) (fun _ _ => 0)
      case atStart => exact ⟨rfl, HS.out.2.1⟩
      case round =>
        obtain ⟨rfl, hb⟩ := hrel
        go_wp2_with fail
        go_ret
        exact ⟨rfl, hb⟩

set_option maxRecDepth 100000 in
set_option maxHeartbeats 4000000 in
theorem index3_fun (x : Sc) (a : At2) (n : ByteArray) (w : World) (h : IsC w x a) :
    Calls Tryz.prog 132 #[.agg #[.slice a.sp a.sn a.sc, .slice a.fp a.fn a.fc], .bool false, .string n] w fun e w' => e = .returned (.int .i64 (idxI (FN x) n)) ∧ Below w.heap.size w w' := by
  obtain ⟨sp, sn, sc, fp, fn, fc⟩ := a
  obtain ⟨rfl, hfc, hfm, hfz, _⟩ := id h.2
  dsimp only at hfc hfm hfz ⊢
  unfold maxLen at hfm
  have hbx := heap_new w (.cells #[.slice sp sn sc, .slice fp x.F.len fc] 25)
  have B0 := (Below.refl w.heap.size w).alloc (Nat.le_refl _) (.cells #[.slice sp sn sc, .slice fp x.F.len fc] 25)
  have HC := Lib.hid h
  obtain ⟨⟨s1, s2⟩, _⟩ := two_box hbx
  obtain ⟨R, hR⟩ : ∃ R, idxI (FN x) n = R := ⟨_, rfl⟩
  rw [hR]
  have HR := Lib.hid hR
  have HB := Lib.hid (And.intro hbx B0)
  clear h hbx B0 hR hfz
  go_enter Tryz.func132, Tryz.ntmps132
  go_wp2_with fail
  go_loopw [7] (fun v wr => v = .int .i64 0 ∧ Below w.heap.size w wr ∧ wr.heap[w.heap.size]? = some (.cells #[.slice sp sn sc, .slice fp x.F.len fc] 25 (0, 0))) (fun _ _ => 0)
  case atStart => exact ⟨rfl, HB.out.2, HB.out.1⟩
  case round =>
    obtain ⟨rfl, hb0, hbx0⟩ := hrel
    have HB2 := Lib.hid (And.intro hb0 hbx0)
    clear hb0 hbx0 HB s1 s2
    go_wp2_with fail
    go_loopw [8] (fun v wr => ∃ j : Nat, j ≤ x.F.len ∧ v = .int .i64 (j : Int) ∧ (∀ i, i < j → x.F.nm i ≠ n) ∧ Below w.heap.size w wr ∧ wr.heap[w.heap.size]? = some (.cells #[.slice sp sn sc, .slice fp x.F.len fc] 25 (0, 0)))
      (fun v _ => x.F.len - (Go.RowKit.intOf v).toNat)
    case atStart => exact ⟨0, Nat.zero_le _, rfl, fun i hi => absurd hi (Nat.not_lt_zero _), HB2.out.1, HB2.out.2⟩
    case round =>
      clear HB2
      obtain ⟨j, hj, rfl, hno, hb, hbx⟩ := hrel
      obtain ⟨⟨s1, s2⟩, _⟩ := two_box hbx
      have HS := Lib.hid (And.intro hno (And.intro hb hbx))
      by_cases hlt : j < x.F.len
      · obtain ⟨b, off, rfl, p, l, c0, q, m, d, e1, e2, e3, e4, e5, _, _⟩ := rowF_all (HC.out.below hb).2 hlt
        clear hno hb hbx e2 e3 e4 e5
        by_cases he : x.F.nm j = n
        · have hz : R = (j : Int) := by
            rw [← HR.out]
            refine idxI_found (by rw [fn_at, if_pos hlt, he]) fun i hi => ?_
            rw [fn_at, if_pos (by omega)]
            intro e
            exact HS.out.1 i hi (Option.some.inj e)
          have hd : ((x.F.nm j).toList == n.toList) = true := by simp [he]
          subst hz
          clear he
          generalize x.F.nm j = nj at e1 hd
          go_wp2_with fail
          go_ret
          exact ⟨rfl, HS.out.2.1⟩
        · have hd : ((x.F.nm j).toList == n.toList) = false := strs_ne he
          have hno2 : ∀ i, i < j + 1 → x.F.nm i ≠ n := fun i hi => by
            by_cases e : i = j
            · subst e; exact he
            · exact HS.out.1 i (by omega)
          have HN2 := Lib.hid hno2
          clear he hno2
          generalize x.F.nm j = nj at e1 hd
          go_wp2_with fail
          go_roundw
          case rel => exact ⟨j + 1, by omega, by go_num, HN2.out, HS.out.2.1, HS.out.2.2⟩
          case measure => simp [Go.RowKit.intOf]; omega
      · have hz : R = -1 := by
          rw [← HR.out]
          refine idxI_not fun i => ?_
          rw [fn_at]
          by_cases hi : i < x.F.len
          · rw [if_pos hi]
            intro e
            exact HS.out.1 i (by omega) (Option.some.inj e)
          · rw [if_neg hi]; intro e; cases e
        subst hz
        clear hno hb hbx
        go_wp2_with fail
        go_ret
        exact ⟨rfl, HS.out.2.1⟩

end Go.Proofs.YtjkcopgfcafpeaaGreatDoor

/-
  The walk of the reference's parseHead. Conditions: that the scheme lies in memory and its names are such, places within the text, texts of at most 65536 bytes.
-/
set_option linter.unusedSimpArgs false
set_option linter.unusedVariables false
namespace Go.Proofs.YtjkcopgfcafpeaaGreatDoor
open Go.RowKit Go.Maps

/-- what parseHead leaves -/
def HeadP (s : List UInt8) (x : Sc) (i : Nat) (w : World) (e : Ending) (w' : World) : Prop :=
  (∀ k n r, rdHead (SN x) (FN x) (s.drop i) = some ((k, n), r) → ∃ m : Nat, e = .returned (.tuple #[.agg #[.int .i64 k, .int .i64 n, .slice none 0 0], .int .i64 (m : Int), .bool true]) ∧ m ≤ s.length ∧ s.drop m = r) ∧
  (rdHead (SN x) (FN x) (s.drop i) = none → ∃ k n m : Int, e = .returned (.tuple #[.agg #[.int .i64 k, .int .i64 n, .slice none 0 0], .int .i64 m, .bool false])) ∧ Below w.heap.size w w'

/-- a scheme's names are such -/
def NmOk (x : Sc) : Prop := (∀ i, i < x.S.len → nm (x.S.nm i) = true) ∧ (∀ i, i < x.F.len → nm (x.F.nm i) = true)

theorem idxI_bad {x : Sc} (hx : NmOk x) {n : ByteArray} (h : nm n = false) : idxI (SN x) n = -1 ∧ idxI (FN x) n = -1 := by
  constructor
  · refine idxI_not fun i => ?_
    rw [sn_at]
    split
    · rename_i hi
      intro e
      have := hx.1 i hi
      rw [Option.some.inj e, h] at this
      cases this
    · intro e; cases e
  · refine idxI_not fun i => ?_
    rw [fn_at]
    split
    · rename_i hi
      intro e
      have := hx.2 i hi
      rw [Option.some.inj e, h] at this
      cases this
    · intro e; cases e

theorem word_cut (s : List UInt8) (i : Nat) : (s.drop i).take (wordEnd s i - i) = (s.drop i).takeWhile inN := by
  unfold wordEnd
  rw [Nat.add_sub_cancel_left]
  have h := List.takeWhile_append_dropWhile (p := inN) (l := s.drop i)
  conv => lhs; arg 2; rw [← h]
  exact List.take_left

theorem word_rest (s : List UInt8) (i : Nat) : s.drop (wordEnd s i) = (s.drop i).dropWhile inN := by
  rw [drop_while, List.drop_drop]
  rfl

/-- the word at a place -/
def wordAt (s : List UInt8) (i : Nat) : ByteArray := ⟨((s.drop i).takeWhile inN).toArray⟩

theorem rdName_at (s : List UInt8) (i : Nat) : rdName (s.drop i) = if nm (wordAt s i) = true then some (wordAt s i, s.drop (wordEnd s i)) else none := by
  unfold rdName wordAt
  rw [word_rest]

/-- a name at a place, and its number -/
theorem rdIdx_at {x : Sc} (hx : NmOk x) (s : List UInt8) (i : Nat) (l : List ByteArray) (hl : l = SN x ∨ l = FN x) (c : Int) :
    ((rdName (s.drop i)).bind fun y => (idx l y.1).map fun (k : Nat) => ((c, (k : Int)), y.2)) = if 0 ≤ idxI l (wordAt s i) then some ((c, idxI l (wordAt s i)), s.drop (wordEnd s i)) else none := by
  rw [rdName_at]
  by_cases h : nm (wordAt s i) = true
  · rw [if_pos h, Option.bind_some]
    unfold idxI
    cases idx l (wordAt s i) with
    | none => rfl
    | some k => simp
  · have h' : nm (wordAt s i) = false := by simpa using h
    have e : idxI l (wordAt s i) = -1 := by
      rcases hl with rfl | rfl
      · exact (idxI_bad hx h').1
      · exact (idxI_bad hx h').2
    rw [if_neg h, e]
    rfl

theorem cut_word (s : List UInt8) (i : Nat) : ((⟨s.toArray⟩ : ByteArray).extract i (wordEnd s i)) = wordAt s i := by
  have h : ((⟨s.toArray⟩ : ByteArray).extract i (wordEnd s i)).data.toList = (s.drop i).takeWhile inN := by
    rw [← ByteArray.toList_eq, Lib.extract_toList]
    exact word_cut s i
  unfold wordAt
  rw [← h, str_self]

set_option maxRecDepth 100000 in
set_option maxHeartbeats 4000000 in
theorem parsehead_var (x : Sc) (a : At2) (s : List UInt8) (i : Nat) (hi : i ≤ s.length) (hs : s.length ≤ 65536) (hv : Proofs.YtjkcopgfcafpeaaGreatDoor.pre [36] (s.drop i) = true) (w : World) :
    Calls Tryz.prog 106 #[.agg #[.slice a.sp a.sn a.sc, .slice a.fp a.fn a.fc], .string ⟨s.toArray⟩, .int .i64 (i : Int)] w (HeadP s x i w) := by
  have hlen := pre_length hv
  simp only [List.length_singleton, List.length_drop] at hlen
  have hrd : rdHead (SN x) (FN x) (s.drop i) = if numOk s (i + 1) = true then some ((0, (numN s (i + 1) : Int)), s.drop (i + 1 + numK s (i + 1))) else none := by
    unfold rdHead
    rw [if_pos hv, List.drop_drop, rdNum_at]
    split <;> rfl
  have HRD := Lib.hid hrd
  have HB := Lib.hid fun W => begins3_at s [36] i i ⟨#[36]⟩ true rfl hi hs (by decide) rfl hv W
  have HN := Lib.hid fun (j : Int) (hj : j = ((i + 1 : Nat) : Int)) W => (show Calls _ _ #[.string ⟨s.toArray⟩, .int .i64 j] W _ from hj ▸ number3_any s (i + 1) (by omega) hs W)
  have hk1 : i + 1 + numK s (i + 1) ≤ s.length := by
    have := (List.takeWhile_prefix (l := s.drop (i + 1)) inD).length_le
    simp only [List.length_drop] at this
    unfold numK digs
    omega
  clear hrd hv
  have hb2 := heap_new2 w (.cells #[.slice a.sp a.sn a.sc, .slice a.fp a.fn a.fc] 25) (.cells #[.int .i64 0, .int .i64 0, .slice none 0 0] 50)
  have hB0 : Below w.heap.size w ((w.alloc (.cells #[.slice a.sp a.sn a.sc, .slice a.fp a.fn a.fc] 25)).alloc (.cells #[.int .i64 0, .int .i64 0, .slice none 0 0] 50)) := ((Below.refl _ _).alloc (Nat.le_refl _) _).alloc (by simp) _
  have HBX := Lib.hid (And.intro hb2 hB0)
  clear hb2 hB0
  generalize numN s (i + 1) = N at HN HRD
  generalize hK : numK s (i + 1) = K at HN HRD hk1
  clear hK
  go_enter Tryz.func106, Tryz.ntmps106
  go_wp2_with fail
  refine (HB.out _).mono ?_
  rintro e w1 ⟨rfl, rfl⟩
  go_wp2_with fail
  refine (HN.out _ (by omega) _).mono ?_
  rintro e w1 ⟨rfl, hb1⟩
  have hbx := box3_later hb1 HBX.out.1
  obtain ⟨z1, z2, z3⟩ := box3_cells hbx
  obtain ⟨f1, f2, f3⟩ := free3 hbx
  have hB1 := HBX.out.2.trans (hb1.mono HBX.out.2.size)
  clear hb1 hbx
  cases hok : numOk s (i + 1) with
  | true =>
    go_wp2_with fail
    refine bodyPost_ret (v := .tuple #[.agg #[.int .i64 0, .int .i64 (N : Int), .slice none 0 0], .int .i64 ((i + 1 + K : Nat) : Int), .bool true]) (by simp [results, Tryz.results106, go_sem, z1, z2, z3]) rfl ⟨?_, ?_, below_set3 _ _ _ hB1 (by omega)⟩
    · intro k n r h
      rw [HRD.out, hok, if_pos rfl] at h
      simp only [Option.some.injEq, Prod.mk.injEq] at h
      obtain ⟨⟨rfl, rfl⟩, rfl⟩ := h
      exact ⟨_, rfl, hk1, rfl⟩
    · intro h
      rw [HRD.out, hok, if_pos rfl] at h
      cases h
  | false =>
    go_wp2_with fail
    refine bodyPost_ret (v := .tuple #[.agg #[.int .i64 0, .int .i64 (N : Int), .slice none 0 0], .int .i64 ((i + 1 + K : Nat) : Int), .bool false]) (by simp [results, Tryz.results106, go_sem, z1, z2, z3]) rfl ⟨?_, ?_, below_set3 _ _ _ hB1 (by omega)⟩
    · intro k n r h
      rw [HRD.out, hok, if_neg (by simp)] at h
      cases h
    · intro h
      exact ⟨_, _, _, rfl⟩

set_option maxRecDepth 100000 in
set_option maxHeartbeats 4000000 in
theorem parsehead_sym (x : Sc) (hx : NmOk x) (a : At2) (s : List UInt8) (i : Nat) (hi : i ≤ s.length) (hs : s.length ≤ 65536) (hv : Proofs.YtjkcopgfcafpeaaGreatDoor.pre [36] (s.drop i) = false) (hv2 : Proofs.YtjkcopgfcafpeaaGreatDoor.pre [35] (s.drop i) = true) (w : World) (h : IsC w x a) :
    Calls Tryz.prog 106 #[.agg #[.slice a.sp a.sn a.sc, .slice a.fp a.fn a.fc], .string ⟨s.toArray⟩, .int .i64 (i : Int)] w (HeadP s x i w) := by
  have hlen := pre_length hv2
  simp only [List.length_singleton, List.length_drop] at hlen
  have hrd : rdHead (SN x) (FN x) (s.drop i) = if 0 ≤ idxI (SN x) (wordAt s (i + 1)) then some ((2, idxI (SN x) (wordAt s (i + 1))), s.drop (wordEnd s (i + 1))) else none := by
    unfold rdHead
    rw [if_neg (by simp [hv]), if_pos hv2, List.drop_drop]
    exact rdIdx_at hx s (i + 1) (SN x) (Or.inl rfl) 2
  have HRD := Lib.hid hrd
  have HB1 := Lib.hid fun W => begins3_at s [36] i i ⟨#[36]⟩ false rfl hi hs (by decide) rfl hv W
  have HB2 := Lib.hid fun W => begins3_at s [35] i i ⟨#[35]⟩ true rfl hi hs (by decide) rfl hv2 W
  have HWD := Lib.hid fun (j : Int) (hj : j = ((i + 1 : Nat) : Int)) W => (show Calls _ _ #[.string ⟨s.toArray⟩, .int .i64 j] W _ from hj ▸ word3_any s (i + 1) (by omega) hs W)
  have HIX := Lib.hid fun n W (hb : Below w.heap.size w W) => index3_sym x a n W (h.below hb)
  obtain ⟨hw1, hw2⟩ := wordEnd_le (s := s) (i := (i + 1)) (by omega)
  have hcw := cut_word s (i + 1)
  clear hrd hv hv2 h hx
  obtain ⟨sp, sn, sc, fp, fn, fc⟩ := a
  dsimp only at HIX ⊢
  have hb1 := alloc_kept (heap_new w (.cells #[.slice sp sn sc, .slice fp fn fc] 25)) (.cells #[.int .i64 0, .int .i64 0, .slice none 0 0] 50)
  have hb2 := heap_new2 w (.cells #[.slice sp sn sc, .slice fp fn fc] 25) (.cells #[.int .i64 0, .int .i64 0, .slice none 0 0] 50)
  have hB0 : Below w.heap.size w ((w.alloc (.cells #[.slice sp sn sc, .slice fp fn fc] 25)).alloc (.cells #[.int .i64 0, .int .i64 0, .slice none 0 0] 50)) := ((Below.refl _ _).alloc (Nat.le_refl _) _).alloc (by simp) _
  obtain ⟨⟨s1, s2⟩, _⟩ := two_box hb1
  have HBX := Lib.hid (And.intro hb2 hB0)
  clear hb2 hB0 hb1
  generalize wordEnd s (i + 1) = E at HWD HRD hw1 hw2 hcw
  go_enter Tryz.func106, Tryz.ntmps106
  go_wp2_with fail
  refine (HB1.out _).mono ?_
  rintro e w1 ⟨rfl, rfl⟩
  go_wp2_with fail
  refine (HB2.out _).mono ?_
  rintro e w1 ⟨rfl, rfl⟩
  go_wp2_with fail
  refine (HWD.out _ (by omega) _).mono ?_
  rintro e w1 ⟨rfl, rfl⟩
  go_wp2_with fail
  have hI1 : (0 : Int) ≤ (i : Int) + 1 := by omega
  have hI2 : (i : Int) + 1 ≤ (E : Int) := by omega
  have hI3 : (E : Int) ≤ (s.length : Int) := by omega
  have hI4 : ((i : Int) + 1).toNat = i + 1 := by omega
  have K0 : (((w.alloc (.cells #[.slice sp sn sc, .slice fp fn fc] 25)).alloc (.cells #[.int .i64 0, .int .i64 0, .slice none 0 0] 50)).drew).cell? ⟨w.heap.size, 0, none⟩ = some (.slice sp sn sc) ∧ (((w.alloc (.cells #[.slice sp sn sc, .slice fp fn fc] 25)).alloc (.cells #[.int .i64 0, .int .i64 0, .slice none 0 0] 50)).drew).cell? ⟨w.heap.size, 1, none⟩ = some (.slice fp fn fc) ∧ Below w.heap.size w (((w.alloc (.cells #[.slice sp sn sc, .slice fp fn fc] 25)).alloc (.cells #[.int .i64 0, .int .i64 0, .slice none 0 0] 50)).drew) := ⟨s1, s2, HBX.out.2.drew⟩
  go_region_held3 (fun W => W.cell? ⟨w.heap.size, 0, none⟩ = some (.slice sp sn sc) ∧ W.cell? ⟨w.heap.size, 1, none⟩ = some (.slice fp fn fc) ∧ Below w.heap.size w W)
    (first | with_reducible exact K0 | (refine h2_next hb3 ?_; assumption))
    (first | (go_at_call 132; refine (HIX.out _ _ (h2_bel (by assumption))).mono ?_; rintro e w2 ⟨rfl, hb3⟩))
  have hbx := box3_later hb3 (drew_heap HBX.out.1)
  obtain ⟨z1, z2, z3⟩ := box3_cells hbx
  obtain ⟨f1, f2, f3⟩ := free3 hbx
  have hB1 := HBX.out.2.drew.trans (hb3.mono HBX.out.2.drew.size)
  clear hb3 hbx hcw
  generalize idxI (SN x) (wordAt s (i + 1)) = N at HRD ⊢
  by_cases hok : 0 ≤ N
  · have hd : decide ((0 : Int) ≤ N) = true := by simpa using hok
    go_wp2_with fail
    refine bodyPost_ret (v := .tuple #[.agg #[.int .i64 2, .int .i64 N, .slice none 0 0], .int .i64 (E : Int), .bool true]) (by simp [results, Tryz.results106, go_sem, z1, z2, z3]) rfl ⟨?_, ?_, below_set3 _ _ _ hB1 (by omega)⟩
    · intro k n r h
      rw [HRD.out, if_pos hok] at h
      simp only [Option.some.injEq, Prod.mk.injEq] at h
      obtain ⟨⟨rfl, rfl⟩, rfl⟩ := h
      exact ⟨_, rfl, hw2, rfl⟩
    · intro h
      rw [HRD.out, if_pos hok] at h
      cases h
  · have hd : decide ((0 : Int) ≤ N) = false := by simpa using hok
    go_wp2_with fail
    refine bodyPost_ret (v := .tuple #[.agg #[.int .i64 2, .int .i64 N, .slice none 0 0], .int .i64 (E : Int), .bool false]) (by simp [results, Tryz.results106, go_sem, z1, z2, z3]) rfl ⟨?_, ?_, below_set3 _ _ _ hB1 (by omega)⟩
    · intro k n r h
      rw [HRD.out, if_neg (by omega)] at h
      cases h
    · intro h
      exact ⟨_, _, _, rfl⟩

set_option maxRecDepth 100000 in
set_option maxHeartbeats 4000000 in
theorem parsehead_fun (x : Sc) (hx : NmOk x) (a : At2) (s : List UInt8) (i : Nat) (hi : i ≤ s.length) (hs : s.length ≤ 65536) (hv : Proofs.YtjkcopgfcafpeaaGreatDoor.pre [36] (s.drop i) = false) (hv2 : Proofs.YtjkcopgfcafpeaaGreatDoor.pre [35] (s.drop i) = false) (w : World) (h : IsC w x a) :
    Calls Tryz.prog 106 #[.agg #[.slice a.sp a.sn a.sc, .slice a.fp a.fn a.fc], .string ⟨s.toArray⟩, .int .i64 (i : Int)] w (HeadP s x i w) := by
  have hrd : rdHead (SN x) (FN x) (s.drop i) = if 0 ≤ idxI (FN x) (wordAt s i) then some ((1, idxI (FN x) (wordAt s i)), s.drop (wordEnd s i)) else none := by
    unfold rdHead
    rw [if_neg (by simp [hv]), if_neg (by simp [hv2])]
    exact rdIdx_at hx s i (FN x) (Or.inr rfl) 1
  have HRD := Lib.hid hrd
  have HB1 := Lib.hid fun W => begins3_at s [36] i i ⟨#[36]⟩ false rfl hi hs (by decide) rfl hv W
  have HB2 := Lib.hid fun W => begins3_at s [35] i i ⟨#[35]⟩ false rfl hi hs (by decide) rfl hv2 W
  have HWD := Lib.hid fun (j : Int) (hj : j = (i : Int)) W => (show Calls _ _ #[.string ⟨s.toArray⟩, .int .i64 j] W _ from hj ▸ word3_any s i (by omega) hs W)
  have HIX := Lib.hid fun n W (hb : Below w.heap.size w W) => index3_fun x a n W (h.below hb)
  obtain ⟨hw1, hw2⟩ := wordEnd_le (s := s) (i := i) (by omega)
  have hcw := cut_word s i
  clear hrd hv hv2 h hx
  obtain ⟨sp, sn, sc, fp, fn, fc⟩ := a
  dsimp only at HIX ⊢
  have hb1 := alloc_kept (heap_new w (.cells #[.slice sp sn sc, .slice fp fn fc] 25)) (.cells #[.int .i64 0, .int .i64 0, .slice none 0 0] 50)
  have hb2 := heap_new2 w (.cells #[.slice sp sn sc, .slice fp fn fc] 25) (.cells #[.int .i64 0, .int .i64 0, .slice none 0 0] 50)
  have hB0 : Below w.heap.size w ((w.alloc (.cells #[.slice sp sn sc, .slice fp fn fc] 25)).alloc (.cells #[.int .i64 0, .int .i64 0, .slice none 0 0] 50)) := ((Below.refl _ _).alloc (Nat.le_refl _) _).alloc (by simp) _
  obtain ⟨⟨s1, s2⟩, _⟩ := two_box hb1
  have HBX := Lib.hid (And.intro hb2 hB0)
  clear hb2 hB0 hb1
  generalize wordEnd s i = E at HWD HRD hw1 hw2 hcw
  go_enter Tryz.func106, Tryz.ntmps106
  go_wp2_with fail
  refine (HB1.out _).mono ?_
  rintro e w1 ⟨rfl, rfl⟩
  go_wp2_with fail
  refine (HB2.out _).mono ?_
  rintro e w1 ⟨rfl, rfl⟩
  go_wp2_with fail
  refine (HWD.out _ (by omega) _).mono ?_
  rintro e w1 ⟨rfl, rfl⟩
  go_wp2_with fail
  have K0 : (((w.alloc (.cells #[.slice sp sn sc, .slice fp fn fc] 25)).alloc (.cells #[.int .i64 0, .int .i64 0, .slice none 0 0] 50)).drew).cell? ⟨w.heap.size, 0, none⟩ = some (.slice sp sn sc) ∧ (((w.alloc (.cells #[.slice sp sn sc, .slice fp fn fc] 25)).alloc (.cells #[.int .i64 0, .int .i64 0, .slice none 0 0] 50)).drew).cell? ⟨w.heap.size, 1, none⟩ = some (.slice fp fn fc) ∧ Below w.heap.size w (((w.alloc (.cells #[.slice sp sn sc, .slice fp fn fc] 25)).alloc (.cells #[.int .i64 0, .int .i64 0, .slice none 0 0] 50)).drew) := ⟨s1, s2, HBX.out.2.drew⟩
  go_region_held3 (fun W => W.cell? ⟨w.heap.size, 0, none⟩ = some (.slice sp sn sc) ∧ W.cell? ⟨w.heap.size, 1, none⟩ = some (.slice fp fn fc) ∧ Below w.heap.size w W)
    (first | with_reducible exact K0 | (refine h2_next hb3 ?_; assumption))
    (first | (go_at_call 132; refine (HIX.out _ _ (h2_bel (by assumption))).mono ?_; rintro e w2 ⟨rfl, hb3⟩))
  have hbx := box3_later hb3 (drew_heap HBX.out.1)
  obtain ⟨z1, z2, z3⟩ := box3_cells hbx
  obtain ⟨f1, f2, f3⟩ := free3 hbx
  have hB1 := HBX.out.2.drew.trans (hb3.mono HBX.out.2.drew.size)
  clear hb3 hbx hcw
  generalize idxI (FN x) (wordAt s i) = N at HRD ⊢
  by_cases hok : 0 ≤ N
  · have hd : decide ((0 : Int) ≤ N) = true := by simpa using hok
    go_wp2_with fail
    refine bodyPost_ret (v := .tuple #[.agg #[.int .i64 1, .int .i64 N, .slice none 0 0], .int .i64 (E : Int), .bool true]) (by simp [results, Tryz.results106, go_sem, z1, z2, z3]) rfl ⟨?_, ?_, below_set3 _ _ _ hB1 (by omega)⟩
    · intro k n r h
      rw [HRD.out, if_pos hok] at h
      simp only [Option.some.injEq, Prod.mk.injEq] at h
      obtain ⟨⟨rfl, rfl⟩, rfl⟩ := h
      exact ⟨_, rfl, hw2, rfl⟩
    · intro h
      rw [HRD.out, if_pos hok] at h
      cases h
  · have hd : decide ((0 : Int) ≤ N) = false := by simpa using hok
    go_wp2_with fail
    refine bodyPost_ret (v := .tuple #[.agg #[.int .i64 1, .int .i64 N, .slice none 0 0], .int .i64 (E : Int), .bool false]) (by simp [results, Tryz.results106, go_sem, z1, z2, z3]) rfl ⟨?_, ?_, below_set3 _ _ _ hB1 (by omega)⟩
    · intro k n r h
      rw [HRD.out, if_neg (by omega)] at h
      cases h
    · intro h
      exact ⟨_, _, _, rfl⟩

theorem parsehead3_any (x : Sc) (hx : NmOk x) (a : At2) (s : List UInt8) (i : Nat) (hi : i ≤ s.length) (hs : s.length ≤ 65536) (w : World) (h : IsC w x a) :
    Calls Tryz.prog 106 #[.agg #[.slice a.sp a.sn a.sc, .slice a.fp a.fn a.fc], .string ⟨s.toArray⟩, .int .i64 (i : Int)] w (HeadP s x i w) := by
  cases h1 : Proofs.YtjkcopgfcafpeaaGreatDoor.pre [36] (s.drop i) with
  | true => exact parsehead_var x a s i hi hs h1 w
  | false =>
    cases h2 : Proofs.YtjkcopgfcafpeaaGreatDoor.pre [35] (s.drop i) with
    | true => exact parsehead_sym x hx a s i hi hs h1 h2 w h
    | false => exact parsehead_fun x hx a s i hi hs h1 h2 w h

end Go.Proofs.YtjkcopgfcafpeaaGreatDoor

/-
  Plain mathematics of reading a term by a loop. Conditions: none.
-/
set_option linter.unusedSimpArgs false
set_option linter.unusedVariables false
namespace Go.Proofs.YtjkcopgfcafpeaaGreatDoor
open Go.RowKit Go.Maps

/-- what is read with the arguments y behind a head, at place m -/
def StT (x : Sc) (s : List UInt8) (i : Nat) (k n : Int) (y : X) (m : Nat) : Prop :=
  rdT (SN x) (FN x) (s.drop i) = (rdA (SN x) (FN x) (s.drop m)).map (fun a => ((k, n, y.app a.1), a.2))

theorem stT_start {x : Sc} {s : List UInt8} {i m : Nat} {k n : Int} (h : rdHead (SN x) (FN x) (s.drop i) = some ((k, n), s.drop m)) : StT x s i k n .nil m := by
  unfold StT rdT
  rw [h, Option.bind_some]
  rfl

theorem stT_none {x : Sc} {s : List UInt8} {i : Nat} (h : rdHead (SN x) (FN x) (s.drop i) = none) : rdT (SN x) (FN x) (s.drop i) = none := by
  unfold rdT
  rw [h]
  rfl

theorem stT_end {x : Sc} {s : List UInt8} {i m : Nat} {k n : Int} {y : X} (h : StT x s i k n y m) (hp : pre [32] (s.drop m) = false) : rdT (SN x) (FN x) (s.drop i) = some ((k, n, y), s.drop m) := by
  unfold StT at h
  rw [h, rdA_end hp, Option.map_some, X.app_nil]

theorem drop_pre {s p : List UInt8} {m : Nat} (h : pre p (s.drop m) = true) : s.drop m = p ++ s.drop (m + p.length) := by
  obtain ⟨r, hr⟩ := (pre_iff _ _).1 h
  have : s.drop (m + p.length) = r := by rw [← List.drop_drop, hr, List.drop_left]
  rw [this, hr]

theorem pre_short {p q : List UInt8} {l : List UInt8} (h : pre (p ++ q) l = true) : pre p l = true ∧ pre q (l.drop p.length) = true := by
  obtain ⟨r, rfl⟩ := (pre_iff _ _).1 h
  refine ⟨(pre_iff _ _).2 ⟨q ++ r, by simp⟩, (pre_iff _ _).2 ⟨r, by simp⟩⟩

theorem stT_plain {x : Sc} {s : List UInt8} {i m : Nat} {k n : Int} {y : X} (h : StT x s i k n y m) (hp : pre [32] (s.drop m) = true) (hq : pre [32, 40] (s.drop m) = false) :
    (∀ k2 n2 m2, rdHead (SN x) (FN x) (s.drop (m + 1)) = some ((k2, n2), s.drop m2) → StT x s i k n (y.snoc k2 n2 .nil) m2) ∧ (rdHead (SN x) (FN x) (s.drop (m + 1)) = none → rdT (SN x) (FN x) (s.drop i) = none) := by
  have e := drop_pre hp
  simp only [List.length_singleton, List.singleton_append] at e
  have h40 : pre [40] (s.drop (m + 1)) = false := by
    cases h2 : pre [40] (s.drop (m + 1)) with
    | false => rfl
    | true =>
      rw [e, drop_pre h2] at hq
      simp [Proofs.YtjkcopgfcafpeaaGreatDoor.pre] at hq
  unfold StT at h ⊢
  rw [e, rdA_plain h40] at h
  constructor
  · intro k2 n2 m2 h2
    rw [h2, Option.bind_some] at h
    rw [h, Option.map_map]
    congr 1
    funext a
    simp only [Function.comp, X.snoc_app]
  · intro h2
    rw [h2] at h
    exact h

theorem stT_open {x : Sc} {s : List UInt8} {i m : Nat} {k n : Int} {y : X} (h : StT x s i k n y m) (hq : pre [32, 40] (s.drop m) = true) :
    (∀ k2 n2 a2 m2, rdT (SN x) (FN x) (s.drop (m + 2)) = some ((k2, n2, a2), s.drop m2) → (a2.len ≠ 0 ∧ pre [41] (s.drop m2) = true → StT x s i k n (y.snoc k2 n2 a2) (m2 + 1)) ∧ (¬ (a2.len ≠ 0 ∧ pre [41] (s.drop m2) = true) → rdT (SN x) (FN x) (s.drop i) = none)) ∧
    (rdT (SN x) (FN x) (s.drop (m + 2)) = none → rdT (SN x) (FN x) (s.drop i) = none) := by
  have e := drop_pre hq
  simp only [List.length_cons, List.length_nil, List.cons_append, List.nil_append] at e
  unfold StT at h ⊢
  rw [e, rdA_open] at h
  constructor
  · intro k2 n2 a2 m2 h2
    rw [h2, Option.bind_some] at h
    simp only at h
    constructor
    · intro hc
      rw [if_pos hc, List.drop_drop] at h
      rw [h, Option.map_map]
      congr 1
      funext a
      simp only [Function.comp, X.snoc_app]
    · intro hc
      rw [if_neg hc] at h
      exact h
  · intro h2
    rw [h2] at h
    exact h

end Go.Proofs.YtjkcopgfcafpeaaGreatDoor

/-
  What the reference's parseTerm holds in memory. Conditions: none.
-/
set_option linter.unusedSimpArgs false
set_option linter.unusedVariables false
namespace Go.Proofs.YtjkcopgfcafpeaaGreatDoor
open Go.RowKit Go.Maps

/-- what parseTerm leaves -/
def TermP (s : List UInt8) (x : Sc) (i : Nat) (w : World) (e : Ending) (w' : World) : Prop :=
  (∀ k n a r, rdT (SN x) (FN x) (s.drop i) = some ((k, n, a), r) → ∃ (q : Option Addr) (c m : Nat), e = .returned (.tuple #[.agg #[.int .i64 k, .int .i64 n, .slice q a.len c], .int .i64 (m : Int), .bool true]) ∧ m ≤ s.length ∧ s.drop m = r ∧ OwnX w' a q c w.heap.size w'.heap.size) ∧
  (rdT (SN x) (FN x) (s.drop i) = none → ∃ (k n m : Int) (q : Option Addr) (l c : Nat), e = .returned (.tuple #[.agg #[.int .i64 k, .int .i64 n, .slice q l c], .int .i64 m, .bool false])) ∧ Below w.heap.size w w'

/-- the term that is being read, in its variable -/
structure TS (w : World) (so : Obj) (bt : Nat) (k n : Int) (y : X) (q : Option Addr) (c : Nat) (wr : World) : Prop where
  got : GotX wr 50 y (.slice q y.len c) (bt + 1)
  box : wr.heap[bt]? = some (.cells #[.int .i64 k, .int .i64 n, .slice q y.len c] 50 (0, 0))
  res : wr.heap[w.heap.size + 1]? = some (.cells #[.int .i64 0, .int .i64 0, .slice none 0 0] 50 (0, 0))
  sb : wr.heap[w.heap.size]? = some so
  bel : Below w.heap.size w wr
  ge : w.heap.size + 2 ≤ bt

/-- a term that could not be read -/
structure TB (w : World) (bt : Nat) (k n : Int) (q : Option Addr) (l c : Nat) (wr : World) : Prop where
  box : wr.heap[bt]? = some (.cells #[.int .i64 k, .int .i64 n, .slice q l c] 50 (0, 0))
  res : wr.heap[w.heap.size + 1]? = some (.cells #[.int .i64 0, .int .i64 0, .slice none 0 0] 50 (0, 0))
  bel : Below w.heap.size w wr

theorem TS.bad {w : World} {so : Obj} {bt : Nat} {k n : Int} {y : X} {q : Option Addr} {c : Nat} {wr : World} (h : TS w so bt k n y q c wr) : TB w bt k n q y.len c wr := ⟨h.box, h.res, h.bel⟩

theorem fill3 {wr w1 : World} {z : Obj} {u1 u2 u3 a b c : Value} (hz : z = .cells #[u1, u2, u3] 50 (0, 0)) (hb : Below (wr.alloc z).heap.size (wr.alloc z) w1) :
    Below (wr.alloc (.cells #[a, b, c] 50)).heap.size (wr.alloc (.cells #[a, b, c] 50)) (put3 w1 wr.heap.size a b c) ∧ (put3 w1 wr.heap.size a b c).heap.size = w1.heap.size := by
  have hs : (put3 w1 wr.heap.size a b c).heap.size = w1.heap.size := by simp [put3, World.setCell]
  have hsz := hb.size
  simp only [World.size_alloc] at hsz
  refine ⟨⟨hb.os, hb.tape, hb.output, by rw [hs, World.size_alloc]; exact hsz, fun j hj => ?_⟩, hs⟩
  rw [World.size_alloc] at hj
  by_cases e : j = wr.heap.size
  · subst e
    have h1 : w1.heap[wr.heap.size]? = some z := (hb.block _ (by simp)).trans (heap_new wr z)
    rw [hz] at h1
    rw [put3_box h1, heap_new]
  · rw [put3_far e, hb.block j (by simp; omega), Below.heap_alloc _ _ _ (by omega), Below.heap_alloc _ _ _ (by omega)]

section
variable {w : World} {so : Obj} {bt : Nat} {k n : Int} {y : X} {q : Option Addr} {c : Nat} {wr : World}

/-- an argument is appended -/
theorem TS.push (h : TS w so bt k n y q c wr) {xs : List Value} (hown0 : wr.ownsRow (bt + 1) 50 3 (.slice q y.len c) y.len xs) (hkids : KidsX wr y xs (Value.slice q y.len c).ownBlock (bt + 1) wr.heap.size) {w1 w3 : World} {Y : Obj} {k2 n2 : Int} {a : X} {q1 : Option Addr} {c1 g cp : Nat}
    (hb : Below (wr.alloc (.cells #[.int .i64 0, .int .i64 0, .slice none 0 0] 50)).heap.size (wr.alloc (.cells #[.int .i64 0, .int .i64 0, .slice none 0 0] 50)) w1)
    (hO : OwnX w1 a q1 c1 (wr.heap.size + 1) w1.heap.size)
    (hown : w3.ownsRow (bt + 1) 50 3 (.slice (some ⟨g, 0, none⟩) (y.len + 1) cp) (y.len + 1) (xs ++ [.int .i64 k2, .int .i64 n2, .slice q1 a.len c1]))
    (hgrow : ((put3 w1 wr.heap.size (.int .i64 k2) (.int .i64 n2) (.slice q1 a.len c1)).alloc Y).grownBy w3 (Value.slice q y.len c).ownBlock) (hat : (Value.slice q y.len c).ownBlock = some g ∨ g = w1.heap.size + 1) :
    TS w so bt k n (y.snoc k2 n2 a) (some ⟨g, 0, none⟩) cp (w3.setCell ⟨bt, 2, none⟩ (.slice (some ⟨g, 0, none⟩) (y.len + 1) cp)) := by
  obtain ⟨hf, hs⟩ := fill3 (a := .int .i64 k2) (b := .int .i64 n2) (c := .slice q1 a.len c1) rfl hb
  have hlt : bt < wr.heap.size := lt_of_block h.box
  have hsz := hb.size
  simp only [World.size_alloc] at hsz
  have hO2 : OwnX (put3 w1 wr.heap.size (.int .i64 k2) (.int .i64 n2) (.slice q1 a.len c1)) a q1 c1 (wr.alloc (.cells #[.int .i64 k2, .int .i64 n2, .slice q1 a.len c1] 50)).heap.size (put3 w1 wr.heap.size (.int .i64 k2) (.int .i64 n2) (.slice q1 a.len c1)).heap.size := by
    rw [hs, World.size_alloc]
    exact hO.keep fun j h1 _ => put3_far (by omega)
  have hgot := GotX.round' (wx := wr.alloc (.cells #[.int .i64 k2, .int .i64 n2, .slice q1 a.len c1] 50)) hown0 hkids (fun j hj => Below.heap_alloc wr _ j hj) (by simp) hf hO2 hown hgrow (by rw [hs]; exact hat)
  have hl : (y.snoc k2 n2 a).len = y.len + 1 := X.len_snoc _ _ _ _
  have hlo := hown0.lt
  have hk : ∀ j, j < wr.heap.size → (Value.slice q y.len c).ownBlock ≠ some j → w3.heap[j]? = wr.heap[j]? := fun j h1 h2 => by
    rw [hgrow.block j (by rw [World.size_alloc, hs]; omega) (fun e => h2 e.symm), Below.heap_alloc _ _ _ (by rw [hs]; omega), put3_far (by omega), hb.block j (by simp; omega), Below.heap_alloc _ _ _ h1]
  have hno : ∀ j, j ≤ bt → (Value.slice q y.len c).ownBlock ≠ some j := fun j hj e => by have := (hlo j e).1; omega
  have hge := h.ge
  refine ⟨by rw [hl]; exact hgot.set (Nat.lt_succ_self _) _, by rw [hl]; exact field_set ((hk bt hlt (hno bt (Nat.le_refl _))).trans h.box), (Below.heap_setCell _ _ _ _ (by show w.heap.size + 1 ≠ bt; omega)).trans ((hk _ (by omega) (hno _ (by omega))).trans h.res),
    (Below.heap_setCell _ _ _ _ (by show w.heap.size ≠ bt; omega)).trans ((hk _ (by omega) (hno _ (by omega))).trans h.sb), ?_, hge⟩
  have hbw : Below w.heap.size w (put3 w1 wr.heap.size (.int .i64 k2) (.int .i64 n2) (.slice q1 a.len c1)) := by
    have := h.bel.size
    exact (h.bel.alloc this _).trans (hf.mono (by simp; omega))
  have hbs := hbw.size
  exact ((hbw.alloc hbs Y).grown hgrow (by simp; omega) fun j hj => by have := (hlo j hj).1; omega).setCell (p := ⟨bt, 2, none⟩) (by show w.heap.size ≤ bt; omega) _

/-- something is appended where nothing was read -/
theorem TS.spoil (h : TS w so bt k n y q c wr) {xs : List Value} (hown0 : wr.ownsRow (bt + 1) 50 3 (.slice q y.len c) y.len xs) {w1 w3 : World} {Y : Obj} {u1 u2 u3 : Value} {g cp : Nat}
    (hb : Below (wr.alloc (.cells #[.int .i64 0, .int .i64 0, .slice none 0 0] 50)).heap.size (wr.alloc (.cells #[.int .i64 0, .int .i64 0, .slice none 0 0] 50)) w1)
    (hgrow : ((put3 w1 wr.heap.size u1 u2 u3).alloc Y).grownBy w3 (Value.slice q y.len c).ownBlock) :
    TB w bt k n (some ⟨g, 0, none⟩) (y.len + 1) cp (w3.setCell ⟨bt, 2, none⟩ (.slice (some ⟨g, 0, none⟩) (y.len + 1) cp)) := by
  obtain ⟨hf, hs⟩ := fill3 (a := u1) (b := u2) (c := u3) rfl hb
  have hlt : bt < wr.heap.size := lt_of_block h.box
  have hsz := hb.size
  simp only [World.size_alloc] at hsz
  have hlo := hown0.lt
  have hk : ∀ j, j < wr.heap.size → (Value.slice q y.len c).ownBlock ≠ some j → w3.heap[j]? = wr.heap[j]? := fun j h1 h2 => by
    rw [hgrow.block j (by rw [World.size_alloc, hs]; omega) (fun e => h2 e.symm), Below.heap_alloc _ _ _ (by rw [hs]; omega), put3_far (by omega), hb.block j (by simp; omega), Below.heap_alloc _ _ _ h1]
  have hno : ∀ j, j ≤ bt → (Value.slice q y.len c).ownBlock ≠ some j := fun j hj e => by have := (hlo j e).1; omega
  have hge := h.ge
  refine ⟨field_set ((hk bt hlt (hno bt (Nat.le_refl _))).trans h.box), (Below.heap_setCell _ _ _ _ (by show w.heap.size + 1 ≠ bt; omega)).trans ((hk _ (by omega) (hno _ (by omega))).trans h.res), ?_⟩
  have hbw : Below w.heap.size w (put3 w1 wr.heap.size u1 u2 u3) := by
    have := h.bel.size
    exact (h.bel.alloc this _).trans (hf.mono (by simp; omega))
  have hbs := hbw.size
  exact ((hbw.alloc hbs Y).grown hgrow (by simp; omega) fun j hj => by have := (hlo j hj).1; omega).setCell (p := ⟨bt, 2, none⟩) (by show w.heap.size ≤ bt; omega) _

end

end Go.Proofs.YtjkcopgfcafpeaaGreatDoor

