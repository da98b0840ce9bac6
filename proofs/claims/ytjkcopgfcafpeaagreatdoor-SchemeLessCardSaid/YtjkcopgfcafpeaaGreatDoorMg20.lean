/-
  Parts of one proof, laid into one text: TWalkM, SMem, SWalkA, TWalkN, TWalkO, TWalkP, TWalkQ, TWalkT. Conditions: each part names its own.
-/
import Derived.Test.YtjkcopgfcafpeaaGreatDoorMg18
import Derived.Test.YtjkcopgfcafpeaaGreatDoorMg05
import Derived.Test.YtjkcopgfcafpeaaGreatDoorMg13
import Derived.Test.YtjkcopgfcafpeaaGreatDoorMg11
import Derived.Deep.OwnRows
import Derived.Test.YtjkcopgfcafpeaaGreatDoorMg15

/-
  The walks of valid, Check, head and rest. Conditions: none but that the place and the term lie in memory.
-/
set_option linter.unusedSimpArgs false
set_option linter.unusedVariables false
namespace Go.Proofs.YtjkcopgfcafpeaaGreatDoor
open Go.RowKit

/-- are all sorts of a list valid? -/
def allV : T → Bool
  | .nil => true
  | .cons h t => h.valid && allV t

theorem allV_drop (t : T) (i : Nat) (h : i < t.len) : allV (t.drop i) = ((t.get i).valid && allV (t.drop (i + 1))) := by
  rw [T.drop_cons t i h]; rfl

theorem allV_at {t : T} : ∀ {i : Nat}, allV t = true → i < t.len → (t.get i).valid = true := by
  induction t with
  | nil => intro _ _ h; exact absurd h (Nat.not_lt_zero _)
  | cons h r ihh ihr =>
    intro i hv hi
    simp only [allV, Bool.and_eq_true] at hv
    cases i with
    | zero => exact hv.1
    | succ i => exact ihr hv.2 (by simp only [T.len] at hi; omega)

def validL (t : T) (m : Nat) : Bool := decide (t.len ≤ m) && allV t

set_option maxRecDepth 100000 in
set_option maxHeartbeats 800000 in
theorem valid_any (t : T) (m : Nat) (w : World) (p : Option Addr) (n cap : Nat) (his : IsT w t p n cap) (hm : m ≤ 100) :
    Calls Tryz.prog 83 #[.slice p n cap, .int .i64 (m : Int)] w fun e w' => e = .returned (.bool (validL t m)) ∧ Below w.heap.size w w' := by
  obtain ⟨hn, hcap, hmax, hnil, hrow⟩ := his
  subst hn
  unfold maxLen at hmax
  by_cases h24 : t.len ≤ m
  · have e1 : validL t m = allV t := by unfold validL; rw [decide_eq_true h24]; rfl
    rw [e1]
    clear e1
    have hd : decide (m < t.len) = false := by simp; omega
    go_enter Tryz.func83, Tryz.ntmps83
    go_wp2_with fail
    go_loopw [13] (fun i wr => ∃ j : Nat, j ≤ t.len ∧ i = .int .i64 (j : Int) ∧ allV (t.drop j) = allV t ∧ Below w.heap.size w wr)
      (fun i _ => t.len - (intOf i).toNat)
    case atStart => exact ⟨0, Nat.zero_le _, rfl, by rw [T.drop_zero], Below.refl _ _⟩
    case round =>
      obtain ⟨j, hj, rfl, hmo, hb⟩ := hrel
      have HM := Lib.hid hmo
      clear hmo
      by_cases hlt : j < t.len
      · rcases hrow with h0 | ⟨b, off, rfl, hr⟩
        · omega
        obtain ⟨p', n', cap', hc, hi⟩ := base_at (Keeps.below hb) hr hlt
        have hst := allV_drop t j hlt
        rw [HM.out] at hst
        cases hv : (t.get j).valid with
        | true =>
          rw [hv] at hst
          have HS := Lib.hid hst
          clear hst
          go_wp2_with fail
          refine (check_yes (t.get j) _ p' n' cap' (hi.alloc _) hv).mono ?_
          rintro e w1 ⟨rfl, hb1⟩
          go_wp2_with fail
          go_roundw
          case rel => exact ⟨j + 1, by omega, by go_num, by rw [HS.out]; simp, base_next hb hb1⟩
          case measure => simp [intOf]; omega
        | false =>
          rw [hv] at hst
          have HS := Lib.hid hst
          clear hst
          go_wp2_with fail
          refine (check_no (t.get j) _ p' n' cap' (hi.alloc _) hv).mono ?_
          rintro e w1 ⟨rfl, hb1⟩
          go_wp2_with fail
          go_ret
          exact ⟨ret_bool (by rw [HS.out]; rfl), base_next hb hb1⟩
      · go_wp2_with fail
        go_ret
        exact ⟨ret_bool (by rw [← HM.out, T.drop_end t j (by omega)]; rfl), hb⟩
  · have e1 : validL t m = false := by unfold validL; rw [decide_eq_false h24]; rfl
    rw [e1]
    clear e1
    have hd : decide ((m : Int) < (t.len : Int)) = true := by simp; omega
    go_enter Tryz.func83, Tryz.ntmps83
    go_wp2_with fail
    go_ret
    exact ⟨rfl, Below.refl _ _⟩

/-- a place -/
structure Pl where
  S : Sy
  F : T
  P : T

def plOk (x : Pl) : Bool := symsOk x.S && validL x.F 64 && validL x.P 8

/-- where a place lies: its three slice values -/
structure At3 where
  sp : Option Addr
  sn : Nat
  sc : Nat
  fp : Option Addr
  fn : Nat
  fc : Nat
  pp : Option Addr
  pn : Nat
  pc : Nat

def At3.val (a : At3) : Value := .agg #[.slice a.sp a.sn a.sc, .slice a.fp a.fn a.fc, .slice a.pp a.pn a.pc]

def At3.box (a : At3) (ty : TypeId) : Obj := .cells #[.slice a.sp a.sn a.sc, .slice a.fp a.fn a.fc, .slice a.pp a.pn a.pc] ty

def IsP (w : World) (x : Pl) (a : At3) : Prop := IsS w x.S a.sp a.sn a.sc ∧ IsT w x.F a.fp a.fn a.fc ∧ IsT w x.P a.pp a.pn a.pc

theorem IsP.below {w w' : World} (hb : Below w.heap.size w w') {x : Pl} {a : At3} (h : IsP w x a) : IsP w' x a := ⟨h.1.below hb, h.2.1.below hb, h.2.2.below hb⟩

theorem IsP.alloc {w : World} {x : Pl} {a : At3} (h : IsP w x a) (o : Obj) : IsP (w.alloc o) x a := h.below ((Below.refl _ _).alloc (Nat.le_refl _) _)

theorem boxP_cells {W : World} {b : Nat} {a : At3} {ty : TypeId} (h : W.heap[b]? = some (a.box ty)) :
    W.cell? ⟨b, 0, none⟩ = some (.slice a.sp a.sn a.sc) ∧ W.cell? ⟨b, 1, none⟩ = some (.slice a.fp a.fn a.fc) ∧ W.cell? ⟨b, 2, none⟩ = some (.slice a.pp a.pn a.pc) := by
  unfold At3.box at h
  refine ⟨?_, ?_, ?_⟩ <;> simp [World.cell?, h]

def plE (x : Pl) : Int := if plOk x then 0 else 2

set_option maxRecDepth 100000 in
set_option maxHeartbeats 800000 in
theorem tcheck_any (x : Pl) (a : At3) (w : World) (h : IsP w x a) :
    Calls Tryz.prog 39 #[.agg #[.slice a.sp a.sn a.sc, .slice a.fp a.fn a.fc, .slice a.pp a.pn a.pc]] w fun e w' => e = .returned (.int .i64 (plE x)) ∧ Below w.heap.size w w' := by
  obtain ⟨h1, h2, h3⟩ := h
  go_enter Tryz.func39, Tryz.ntmps39
  go_wp2_with fail
  refine (symbols_any x.S _ _ _ _ (h1.alloc _)).mono ?_
  rintro e w1 ⟨rfl, hb1⟩
  obtain ⟨y1, y2, y3⟩ := boxP_cells (a := a) (box3_later hb1 (heap_new w (a.box 45)))
  have b1 := below_call hb1
  have i2 := (h2.alloc _).below hb1
  have i3 := (h3.alloc _).below hb1
  clear hb1
  cases hs : symsOk x.S with
  | false =>
    have e1 : plE x = 2 := by unfold plE plOk; rw [hs]; rfl
    go_wp2_with fail
    go_ret
    exact ⟨ret_int e1.symm, b1⟩
  | true =>
    go_wp2_with fail
    refine (valid_any x.F 64 _ _ _ _ i2 (by omega)).mono ?_
    rintro e w2 ⟨rfl, hb2⟩
    have y4 := ((bcell hb2).1 _ _ (lt_of_cell y3)).trans y3
    have b2 := b1.trans (hb2.mono b1.size)
    have i4 := i3.below hb2
    clear hb2
    cases hf : validL x.F 64 with
    | false =>
      have e1 : plE x = 2 := by unfold plE plOk; rw [hs, hf]; rfl
      go_wp2_with fail
      go_ret
      exact ⟨ret_int e1.symm, b2⟩
    | true =>
      go_wp2_with fail
      refine (valid_any x.P 8 _ _ _ _ i4 (by omega)).mono ?_
      rintro e w3 ⟨rfl, hb3⟩
      have b3 := b2.trans (hb3.mono b2.size)
      cases hp : validL x.P 8 with
      | false =>
        have e1 : plE x = 2 := by unfold plE plOk; rw [hs, hf, hp]; rfl
        go_wp2_with fail
        go_ret
        exact ⟨ret_int e1.symm, b3⟩
      | true =>
        have e1 : plE x = 0 := by unfold plE plOk; rw [hs, hf, hp]; rfl
        go_wp2_with fail
        go_ret
        exact ⟨ret_int e1.symm, b3⟩

end Go.Proofs.YtjkcopgfcafpeaaGreatDoor

/-
  Lists of functions, and schemes, in memory. Conditions: none.
-/
set_option linter.unusedSimpArgs false
set_option linter.unusedVariables false
namespace Go.Proofs.YtjkcopgfcafpeaaGreatDoor
open Go.RowKit Go.Maps

/-- functions: how many, their names, sorts and bodies -/
structure Fu where
  len : Nat
  nm : Nat → ByteArray
  st : Nat → T
  bk : Nat → Int
  bn : Nat → Int
  bt : Nat → X

/-- the five cells of function i -/
def RowF1 (w : World) (F : Fu) (b o : Nat) (i : Nat) : Prop := ∃ (p : Option Addr) (n c : Nat) (q : Option Addr) (m d : Nat),
  w.cell? ⟨b, o, none⟩ = some (.string (F.nm i)) ∧ w.cell? ⟨b, o + 1, none⟩ = some (.slice p n c) ∧ w.cell? ⟨b, o + 2, none⟩ = some (.int .i64 (F.bk i)) ∧
  w.cell? ⟨b, o + 3, none⟩ = some (.int .i64 (F.bn i)) ∧ w.cell? ⟨b, o + 4, none⟩ = some (.slice q m d) ∧ IsT w (F.st i) p n c ∧ IsX w (F.bt i) q m d

/-- the cells from (b, off) on hold the functions -/
def RowF (w : World) (F : Fu) (b off : Nat) : Prop := ∀ i, i < F.len → RowF1 w F b (off + i * 5) i

def IsF (w : World) (F : Fu) (p : Option Addr) (n cap : Nat) : Prop :=
  n = F.len ∧ n ≤ cap ∧ cap ≤ maxLen ∧ (p = none → cap = 0) ∧ (n = 0 ∨ ∃ b off, p = some ⟨b, off, none⟩ ∧ RowF w F b off)

theorem RowF1.below {w w' : World} (hb : Below w.heap.size w w') {F : Fu} {b o i : Nat} (h : RowF1 w F b o i) : RowF1 w' F b o i := by
  obtain ⟨p, n, c, q, m, d, h1, h2, h3, h4, h5, h6, h7⟩ := h
  have hk := (bcell hb).1
  exact ⟨p, n, c, q, m, d, (hk _ _ (lt_of_cell h1)).trans h1, (hk _ _ (lt_of_cell h2)).trans h2, (hk _ _ (lt_of_cell h3)).trans h3, (hk _ _ (lt_of_cell h4)).trans h4, (hk _ _ (lt_of_cell h5)).trans h5, h6.below hb, h7.below hb⟩

theorem RowF.below {w w' : World} (hb : Below w.heap.size w w') {F : Fu} {b off : Nat} (h : RowF w F b off) : RowF w' F b off := fun i hi => (h i hi).below hb

theorem IsF.below {w w' : World} (hb : Below w.heap.size w w') {F : Fu} {p : Option Addr} {n cap : Nat} (h : IsF w F p n cap) : IsF w' F p n cap := by
  obtain ⟨h1, h2, h3, h4, h5⟩ := h
  refine ⟨h1, h2, h3, h4, ?_⟩
  rcases h5 with h5 | ⟨b, off, e, hr⟩
  · exact Or.inl h5
  · exact Or.inr ⟨b, off, e, hr.below hb⟩

theorem IsF.alloc {w : World} {F : Fu} {p : Option Addr} {n cap : Nat} (h : IsF w F p n cap) (x : Obj) : IsF (w.alloc x) F p n cap := h.below ((Below.refl _ _).alloc (Nat.le_refl _) _)

/-- a scheme -/
structure Sc where
  S : Sy
  F : Fu

/-- where a scheme lies: its two slice values -/
structure At2 where
  sp : Option Addr
  sn : Nat
  sc : Nat
  fp : Option Addr
  fn : Nat
  fc : Nat

def At2.box (a : At2) (ty : TypeId) : Obj := .cells #[.slice a.sp a.sn a.sc, .slice a.fp a.fn a.fc] ty

def IsC (w : World) (x : Sc) (a : At2) : Prop := IsS w x.S a.sp a.sn a.sc ∧ IsF w x.F a.fp a.fn a.fc

theorem IsC.below {w w' : World} (hb : Below w.heap.size w w') {x : Sc} {a : At2} (h : IsC w x a) : IsC w' x a := ⟨h.1.below hb, h.2.below hb⟩

theorem IsC.alloc {w : World} {x : Sc} {a : At2} (h : IsC w x a) (o : Obj) : IsC (w.alloc o) x a := h.below ((Below.refl _ _).alloc (Nat.le_refl _) _)

theorem boxC_cells {W : World} {b : Nat} {a : At2} {ty : TypeId} (h : W.heap[b]? = some (a.box ty)) :
    W.cell? ⟨b, 0, none⟩ = some (.slice a.sp a.sn a.sc) ∧ W.cell? ⟨b, 1, none⟩ = some (.slice a.fp a.fn a.fc) := by
  unfold At2.box at h
  refine ⟨?_, ?_⟩ <;> simp [World.cell?, h]

end Go.Proofs.YtjkcopgfcafpeaaGreatDoor

/-
  The walk of distinct, which fills a map with names. Conditions: at most 64 functions.
-/
set_option linter.unusedSimpArgs false
set_option linter.unusedVariables false
namespace Go.Proofs.YtjkcopgfcafpeaaGreatDoor
open Go.RowKit Go.Maps

/-- the names alone, as symbols of rank 0 -/
def Fu.sy (F : Fu) : Sy := ⟨F.len, F.nm, fun _ => 0⟩

def distF (F : Fu) : Bool := symFrom F.sy F.len 0

theorem symOk_sy (F : Fu) (i : Nat) : symOk F.sy i = (nm (F.nm i) && !dup F.sy i) := by
  unfold symOk
  show (nm (F.nm i) && !dup F.sy i && !decide ((0 : Int) < 0) && !decide ((4 : Int) < 0)) = _
  simp

set_option maxRecDepth 100000 in
set_option maxHeartbeats 1600000 in
theorem distinct_any (F : Fu) (w : World) (p : Option Addr) (n cap : Nat) (his : IsF w F p n cap) (h64 : F.len ≤ 64) :
    Calls Tryz.prog 38 #[.slice p n cap] w fun e w' => e = .returned (.bool (distF F)) ∧ Below w.heap.size w w' := by
  obtain ⟨hn, hcap, hmax, hnil, hrow⟩ := his
  subst hn
  unfold maxLen at hmax
  obtain ⟨r, hr⟩ : ∃ r, distF F = r := ⟨_, rfl⟩
  rw [hr]
  have hr2 : symFrom F.sy F.len 0 = r := hr
  have HR := Lib.hid hr2
  clear hr hr2
  have hmm := @run_makeMap Tryz.prog
  go_enter Tryz.func38, Tryz.ntmps38
  go_wp2_with fail
  go_loopw [9] (fun i wr => ∃ j : Nat, j ≤ F.len ∧ i = .int .i64 (j : Int) ∧ symFrom F.sy (F.len - j) j = r ∧ wr.ownsMap Tryz.prog 9 (plainElem Tryz.prog 4) w.heap.size j (metM F.sy j) ∧ Below w.heap.size w wr)
    (fun i _ => F.len - (intOf i).toNat)
  case atStart => exact ⟨0, Nat.zero_le _, rfl, HR.out, World.ownsMap_made _ _ _ _, (Below.refl _ _).alloc (Nat.le_refl _) _⟩
  case round =>
    clear hmm
    obtain ⟨j, hj, rfl, hmo, hown, hb⟩ := hrel
    have HM := Lib.hid hmo
    have HO := Lib.hid hown
    clear hmo hown
    by_cases hlt : j < F.len
    · rcases hrow with h0 | ⟨b, off, rfl, hr⟩
      · omega
      obtain ⟨p', n', c', q', m', d', hc1, hc2, hc3, hc4, hc5, _, _⟩ := hr j hlt
      have hlb := lt_of_cell hc1
      have g1 := ((bcell hb).1 _ _ hlb).trans hc1
      have g2 := ((bcell hb).1 _ _ hlb).trans hc2
      have g3 := ((bcell hb).1 _ _ hlb).trans hc3
      have g4 := ((bcell hb).1 _ _ hlb).trans hc4
      have g5 := ((bcell hb).1 _ _ hlb).trans hc5
      have hz := hb.size
      clear hc1 hc2 hc3 hc4 hc5
      have hsf : symFrom F.sy (F.len - j) j = (symOk F.sy j && symFrom F.sy (F.len - (j + 1)) (j + 1)) := by
        rw [show F.len - j = (F.len - (j + 1)) + 1 by omega]; rfl
      rw [HM.out, symOk_sy] at hsf
      have hat := metM_at F.sy j
      have hst := metM_step F.sy j
      have hkl : kyl F.sy j = .string (F.nm j).data.toList := rfl
      rw [hkl] at hat hst
      generalize F.nm j = s at g1 hsf hat hst
      generalize F.bk j = bk at g3
      generalize F.bn j = bn at g4
      have HS := Lib.hid hsf
      have HA := Lib.hid hat
      have HT := Lib.hid hst
      clear hsf hat hst hkl HM
      go_wp2_with fail
      refine (named_any s _).mono ?_
      rintro e w2 ⟨rfl, hb2⟩
      have hbx : w2.heap[wr.heap.size]? = some (.cells #[.string s, .slice p' n' c', .int .i64 bk, .int .i64 bn, .slice q' m' d'] 52 (0, 0)) := box3_later hb2 (heap_new _ _)
      have y1 : w2.cell? ⟨wr.heap.size, 0, none⟩ = some (.string s) := by simp [World.cell?, hbx]
      have hb3 := base_next hb hb2
      have hO2 : w2.ownsMap Tryz.prog 9 (plainElem Tryz.prog 4) w.heap.size j (metM F.sy j) := (HO.out.alloc _).kept (row := none) ⟨hb2.os, hb2.tape, hb2.output, hb2.size, fun k hk _ => hb2.block k hk⟩ (by simp)
      clear hb2 hbx HO
      cases hnm : nm s with
      | false =>
        go_wp2_with fail
        go_ret
        exact ⟨ret_bool (by rw [HS.out, hnm]; rfl), hb3⟩
      | true =>
        have hs24 : s.size ≤ maxLen := by
          unfold nm at hnm
          simp only [Bool.and_eq_true, decide_eq_true_eq] at hnm
          have := hnm.1.1.2
          unfold maxLen; omega
        obtain ⟨v, ps, hrun, hv⟩ := hO2.lookup mlaw Tryz.underlying114 (zeroB _) (plainElem_bool Tryz.underlying4 false) (Go.WideMaps.keyOf_string_mk Tryz.underlying9 hs24)
        rw [HA.out] at hv
        obtain rfl := plainElem_bool_inv Tryz.underlying4 hv
        clear hv
        obtain ⟨d, hd⟩ : ∃ d, dup F.sy j = d := ⟨_, rfl⟩
        rw [hd] at hrun
        have hS2 := HS.out
        rw [hd, hnm] at hS2
        have HS2 := Lib.hid hS2
        have HO2 := Lib.hid hO2
        clear hS2 HS hd HA hO2
        cases d with
        | true =>
          go_wp2_with fail
          go_ret
          exact ⟨ret_bool (by rw [HS2.out]; rfl), hb3⟩
        | false =>
          go_wp2_with (first | (at_mapUpdate; refine wpList_mapUpdate_own _ rfl _ _ _ 114 rfl 9 4 mlaw Tryz.underlying114 _ w.heap.size j _ rfl HO2.out (by unfold maxLen; omega) _ _ _ rfl rfl (Go.WideMaps.keyOf_string_mk Tryz.underlying9 hs24) _ [] (plainElem_bool Tryz.underlying4 true) ?_; intro w3 hown3 hgrow3) | go_in)
          rw [HT.out] at hown3
          have hb4 : Below w.heap.size w w3 := hb3.trans (grown_below hb3.size (Nat.le_refl _) hgrow3)
          go_roundw
          case rel => exact ⟨j + 1, by omega, by go_num, by rw [HS2.out]; simp, hown3, hb4⟩
          case measure => simp [intOf]; omega
    · go_wp2_with fail
      go_ret
      exact ⟨ret_bool (by rw [← HM.out, show F.len - j = 0 by omega]; rfl), hb⟩

end Go.Proofs.YtjkcopgfcafpeaaGreatDoor

/-
  The walks of head and rest. Conditions: the place is one in memory, its symbols good.
-/
set_option linter.unusedSimpArgs false
set_option linter.unusedVariables false
namespace Go.Proofs.YtjkcopgfcafpeaaGreatDoor
open Go.RowKit

/-- n times the sort o -/
def repT : Nat → T
  | 0 => .nil
  | n + 1 => .cons .nil (repT n)

theorem repT_len (n : Nat) : (repT n).len = n := by
  induction n with
  | zero => rfl
  | succ n ih => simp only [repT, T.len, ih]

theorem row_rep {w : World} {b : Nat} (r : Nat) : ∀ {off : Nat}, (∀ i, i < r → w.cell? ⟨b, off + i, none⟩ = some (.slice none 0 0)) → Row w (repT r) b off := by
  induction r with
  | zero => intro _ _; trivial
  | succ r ih =>
    intro off h
    refine ⟨⟨none, 0, h 0 (Nat.succ_pos _), Nat.le_refl _, by simp [maxLen], fun _ => rfl, Or.inl rfl⟩, ih fun i hi => ?_⟩
    rw [show off + 1 + i = off + (i + 1) by omega]
    exact h (i + 1) (by omega)

/-- the sort of a head, if there is one -/
def hdT (x : Pl) (k n : Int) : T × Bool :=
  if n < 0 then (.nil, false)
  else if k = 0 then (if n < x.P.len then (x.P.get n.toNat, true) else (.nil, false))
  else if k = 1 then (if n < x.F.len then (x.F.get n.toNat, true) else (.nil, false))
  else if k = 2 then (if n < x.S.len then (repT (x.S.rk n.toNat).toNat, true) else (.nil, false))
  else (.nil, false)

theorem symFrom_at (S : Sy) : ∀ (m i : Nat), symFrom S m i = true → ∀ j, i ≤ j → j < i + m → symOk S j = true := by
  intro m
  induction m with
  | zero => intro i _ j h1 h2; omega
  | succ m ih =>
    intro i h j h1 h2
    simp only [symFrom, Bool.and_eq_true] at h
    by_cases he : j = i
    · rw [he]; exact h.1
    · exact ih (i + 1) h.2 j (by omega) (by omega)

theorem symsOk_rank {S : Sy} (h : symsOk S = true) {i : Nat} (hi : i < S.len) : 0 ≤ S.rk i ∧ S.rk i ≤ 4 := by
  simp only [symsOk, Bool.and_eq_true] at h
  have := symFrom_at S S.len 0 h.2 i (Nat.zero_le _) (by omega)
  simp only [symOk, Bool.and_eq_true, Bool.not_eq_true', decide_eq_false_iff_not] at this
  omega

/-- three blocks more -/
theorem keep3 (w : World) (x y z : Obj) (b o : Nat) (h : b < w.heap.size) : (((w.alloc x).alloc y).alloc z).cell? ⟨b, o, none⟩ = w.cell? ⟨b, o, none⟩ := by
  rw [keep_alloc _ _ _ _ (by simp only [World.size_alloc]; omega), keep_alloc _ _ _ _ (by simp only [World.size_alloc]; omega), keep_alloc _ _ _ _ h]

theorem below3 (w : World) (x y z : Obj) : Below w.heap.size w (((w.alloc x).alloc y).alloc z) := (((Below.refl w.heap.size w).alloc (Nat.le_refl _) x).alloc (by simp) y).alloc (by simp; omega) z

/-- the place lay in an earlier world, whose blocks are as they were -/
structure Holds (w0 : World) (x : Pl) (a : At3) (w : World) : Prop where
  isP : IsP w0 x a
  le : w0.heap.size ≤ w.heap.size
  old : ∀ j, j < w0.heap.size → w.heap[j]? = w0.heap[j]?

theorem Holds.below {w0 w w' : World} {x : Pl} {a : At3} (h : Holds w0 x a w) (hb : Below w.heap.size w w') : Holds w0 x a w' :=
  ⟨h.isP, Nat.le_trans h.le hb.size, fun j hj => (hb.block j (Nat.lt_of_lt_of_le hj h.le)).trans (h.old j hj)⟩

theorem Holds.alloc {w0 w : World} {x : Pl} {a : At3} (h : Holds w0 x a w) (o : Obj) : Holds w0 x a (w.alloc o) := h.below ((Below.refl _ _).alloc (Nat.le_refl _) _)

theorem Holds.cell {w0 w : World} {x : Pl} {a : At3} (h : Holds w0 x a w) {b o : Nat} {v : Value} (hc : w0.cell? ⟨b, o, none⟩ = some v) : w.cell? ⟨b, o, none⟩ = some v ∧ b < w.heap.size := by
  have hlt := lt_of_cell hc
  exact ⟨(World.cell?_of_block (h.old b hlt)).trans hc, Nat.lt_of_lt_of_le hlt h.le⟩

/-- whatever comes later that keeps the old place and all that is new keeps the sort -/
def Stays (w0 W w' : World) (t : T) (q : Option Addr) (c : Nat) : Prop := ∀ w'' : World, (∀ j, (j < w0.heap.size ∨ W.heap.size ≤ j) → j < w'.heap.size → w''.heap[j]? = w'.heap[j]?) → IsT w'' t q t.len c

theorem Stays.isT {w0 W w' w'' : World} {t : T} {q : Option Addr} {c : Nat} (h : Stays w0 W w' t q c) (hb : Below w'.heap.size w' w'') : IsT w'' t q t.len c := h w'' fun j _ hj => hb.block j hj

theorem Stays.here {w0 W w' : World} {t : T} {q : Option Addr} {c : Nat} (h : Stays w0 W w' t q c) : IsT w' t q t.len c := h w' fun _ _ _ => rfl

theorem stays_old {w0 w w' : World} {x : Pl} {a : At3} (hH : Holds w0 x a w) (hb : Below w.heap.size w w') {t : T} {p : Option Addr} {cap : Nat} (hit : IsT w0 t p t.len cap) : Stays w0 w w' t p cap := by
  intro w'' hw
  refine hit.keep fun b o hlt => World.cell?_of_block ?_
  rw [hw b (Or.inl hlt) (Nat.lt_of_lt_of_le (Nat.lt_of_lt_of_le hlt hH.le) hb.size), hb.block b (Nat.lt_of_lt_of_le hlt hH.le), hH.old b hlt]

/-- a sort, and whether there is one -/
def Gives (w0 : World) (h : T) (ok : Bool) (W : World) (e : Ending) (w' : World) : Prop := ∃ q c, e = .returned (.tuple #[.agg #[.slice q h.len c], .bool ok]) ∧ Stays w0 W w' h q c ∧ Below W.heap.size W w'

theorem isT_nil (w : World) : IsT w .nil none 0 0 := ⟨rfl, Nat.le_refl _, by simp [maxLen], fun _ => rfl, Or.inl rfl⟩

theorem stays_nil (w0 W w' : World) : Stays w0 W w' .nil none 0 := fun w'' _ => isT_nil w''

theorem infoO : (Tryz.prog.info? 47).map (fun i => (i.zero, i.size, i.bytes)) = some (some (.agg #[.slice none 0 0]), 1, 24) := by kernel_rfl

theorem run_make_sorts (r : Nat) (hr : r ≤ 4) (w : World) : (Instr.makeSlice 43 (.int .i64 (r : Int)) (.int .i64 (r : Int))).run Tryz.prog w = .ok (.slice (some ⟨w.heap.size, 0, none⟩) r r) (w.alloc (.cells (madeCells #[.slice none 0 0] r) 47)) := by
  obtain ⟨i0, hi0, hz0, hz1, hz2⟩ := info_parts infoO
  have h := run_make (P := Tryz.prog) w 43 47 i0 (.agg #[.slice none 0 0]) Tryz.underlying43 hi0 hz0 .i64 .i64 r r (by omega) (Int.le_refl _) (by rw [hz2]; omega) (by omega)
  simp only [Int.toNat_natCast, hz1, Nat.mul_one] at h
  exact h

theorem madeCells_at (z : Value) (r i : Nat) (h : i < r) : (madeCells #[z] r)[i]? = some z := by
  simp [madeCells, h, Nat.mod_one]

theorem isT_made {W : World} {B r : Nat} {ty : TypeId} (h : W.heap[B]? = some (.cells (madeCells #[.slice none 0 0] r) ty (0, 0))) (hr : r ≤ 4 := by omega) : IsT W (repT r) (some ⟨B, 0, none⟩) (repT r).len r := by
  refine ⟨rfl, by rw [repT_len]; exact Nat.le_refl _, by unfold maxLen; omega, fun e => by simp at e, Or.inr ⟨B, 0, rfl, row_rep r fun i hi => ?_⟩⟩
  rw [cell_of_row W B (0 + i) _ _ _ h, Nat.zero_add]
  exact madeCells_at _ _ _ hi

set_option maxRecDepth 100000 in
set_option maxHeartbeats 1600000 in
theorem thead_any (x : Pl) (a : At3) (k n : Int) (w0 w : World) (p : Option Addr) (l cap : Nat) (h : Holds w0 x a w) (hS : symsOk x.S = true) :
    Calls Tryz.prog 109 #[.agg #[.slice a.sp a.sn a.sc, .slice a.fp a.fn a.fc, .slice a.pp a.pn a.pc], .agg #[.int .i64 k, .int .i64 n, .slice p l cap]] w (Gives w0 (hdT x k n).1 (hdT x k n).2 w) := by
  obtain ⟨⟨s1, s2, s3, s4, s5⟩, ⟨f1, f2, f3, f4, f5⟩, ⟨p1, p2, p3, p4, p5⟩⟩ := h.isP
  unfold maxLen at s3 f3 p3
  have hb3 := below3 w
  by_cases hn : n < 0
  · have e1 : hdT x k n = (.nil, false) := by unfold hdT; rw [if_pos hn]
    have hd : decide (n < 0) = true := by simpa using hn
    rw [e1]
    clear e1 hn
    go_enter Tryz.func109, Tryz.ntmps109
    go_wp2_with fail
    exact bodyPost_ret (v := .tuple #[.agg #[.slice none 0 0], .bool false]) (by simp [results, Tryz.results109, go_sem]) rfl ⟨none, 0, rfl, stays_nil _ _ _, (hb3 _ _ _)⟩
  · obtain ⟨i, rfl⟩ : ∃ i : Nat, n = (i : Int) := ⟨n.toNat, by omega⟩
    have hnn : decide ((i : Int) < 0) = false := by simp
    by_cases hk0 : k = 0
    · have d0 : (k == 0) = true := by simp [hk0]
      have d1 : (k == 1) = false := by simp [hk0]
      have d2 : (k == 2) = false := by simp [hk0]
      by_cases hi : i < x.P.len
      · have hd := hi
        rcases p5 with h0 | ⟨b, off, hpe, hr⟩
        · omega
        obtain ⟨p', n', cap', hc, hit⟩ := hr.at (i := i) (by omega)
        obtain ⟨hcw, hlb⟩ := h.cell hc
        have e1 : hdT x k (i : Int) = (x.P.get i, true) := by unfold hdT; rw [if_neg hn, if_pos hk0, if_pos (by omega)]; rfl
        rw [e1]
        have C := fun x y z => (keep3 w x y z b (off + i) hlb).trans hcw
        obtain rfl := hit.1
        clear e1 hn
        go_enter Tryz.func109, Tryz.ntmps109
        go_wp2_with fail
        exact bodyPost_ret (v := .tuple #[.agg #[.slice p' (x.P.get i).len cap'], .bool true]) (by simp [results, Tryz.results109, go_sem]) rfl ⟨p', cap', rfl, stays_old h (hb3 _ _ _) hit, (hb3 _ _ _)⟩
      · have hd : ¬ ((i : Int) < (x.P.len : Int)) := by omega
        have e1 : hdT x k (i : Int) = (.nil, false) := by unfold hdT; rw [if_neg hn, if_pos hk0, if_neg (by omega)]
        rw [e1]
        clear e1 hn
        go_enter Tryz.func109, Tryz.ntmps109
        go_wp2_with fail
        exact bodyPost_ret (v := .tuple #[.agg #[.slice none 0 0], .bool false]) (by simp [results, Tryz.results109, go_sem]) rfl ⟨none, 0, rfl, stays_nil _ _ _, (hb3 _ _ _)⟩
    · have d0 : (k == 0) = false := by simp [hk0]
      by_cases hk1 : k = 1
      · have d1 : (k == 1) = true := by simp [hk1]
        have d2 : (k == 2) = false := by simp [hk1]
        by_cases hi : i < x.F.len
        · have hd := hi
          rcases f5 with h0 | ⟨b, off, hpe, hr⟩
          · omega
          obtain ⟨p', n', cap', hc, hit⟩ := hr.at (i := i) (by omega)
          obtain ⟨hcw, hlb⟩ := h.cell hc
          have e1 : hdT x k (i : Int) = (x.F.get i, true) := by unfold hdT; rw [if_neg hn, if_neg hk0, if_pos hk1, if_pos (by omega)]; rfl
          rw [e1]
          have C := fun x y z => (keep3 w x y z b (off + i) hlb).trans hcw
          obtain rfl := hit.1
          clear e1 hn
          go_enter Tryz.func109, Tryz.ntmps109
          go_wp2_with fail
          exact bodyPost_ret (v := .tuple #[.agg #[.slice p' (x.F.get i).len cap'], .bool true]) (by simp [results, Tryz.results109, go_sem]) rfl ⟨p', cap', rfl, stays_old h (hb3 _ _ _) hit, (hb3 _ _ _)⟩
        · have hd : ¬ ((i : Int) < (x.F.len : Int)) := by omega
          have e1 : hdT x k (i : Int) = (.nil, false) := by unfold hdT; rw [if_neg hn, if_neg hk0, if_pos hk1, if_neg (by omega)]
          rw [e1]
          clear e1 hn
          go_enter Tryz.func109, Tryz.ntmps109
          go_wp2_with fail
          exact bodyPost_ret (v := .tuple #[.agg #[.slice none 0 0], .bool false]) (by simp [results, Tryz.results109, go_sem]) rfl ⟨none, 0, rfl, stays_nil _ _ _, (hb3 _ _ _)⟩
      · have d1 : (k == 1) = false := by simp [hk1]
        by_cases hk2 : k = 2
        · have d2 : (k == 2) = true := by simp [hk2]
          by_cases hi : i < x.S.len
          · rcases s5 with h0 | ⟨b, off, hpe, hr⟩
            · omega
            have hc := (hr i hi).2
            obtain ⟨r0, r4⟩ := symsOk_rank hS hi
            have e1 : hdT x k (i : Int) = (repT (x.S.rk i).toNat, true) := by unfold hdT; rw [if_neg hn, if_neg hk0, if_neg hk1, if_pos hk2, if_pos (by omega)]; rfl
            obtain ⟨r, hr'⟩ : ∃ r : Nat, x.S.rk i = (r : Int) := ⟨(x.S.rk i).toNat, by omega⟩
            rw [hr'] at hc r4 e1
            rw [e1]
            obtain ⟨hcw, hlb⟩ := h.cell hc
            have C := fun x y z => (keep3 w x y z b (off + i * 2 + 1) hlb).trans hcw
            have hmk := run_make_sorts r (by omega)
            clear e1 hn
            go_enter Tryz.func109, Tryz.ntmps109
            go_wp2_with fail
            refine bodyPost_ret (v := .tuple #[.agg #[.slice (some ⟨w.heap.size + 1 + 1 + 1, 0, none⟩) r r], .bool true]) (by simp [results, Tryz.results109, go_sem]) rfl ⟨some ⟨w.heap.size + 1 + 1 + 1, 0, none⟩, r, by rw [repT_len]; rfl, ?_, ?_⟩
            · intro w'' hw
              exact isT_made ((hw _ (Or.inr (by omega)) (by simp)).trans (heap4 _ _ _ _ _).2.2.2) (by omega)
            · exact (hb3 _ _ _).alloc (by simp only [World.size_alloc]; omega) _
          · have hd : ¬ ((i : Int) < (x.S.len : Int)) := by omega
            have e1 : hdT x k (i : Int) = (.nil, false) := by unfold hdT; rw [if_neg hn, if_neg hk0, if_neg hk1, if_pos hk2, if_neg (by omega)]
            rw [e1]
            clear e1 hn
            go_enter Tryz.func109, Tryz.ntmps109
            go_wp2_with fail
            exact bodyPost_ret (v := .tuple #[.agg #[.slice none 0 0], .bool false]) (by simp [results, Tryz.results109, go_sem]) rfl ⟨none, 0, rfl, stays_nil _ _ _, (hb3 _ _ _)⟩
        · have d2 : (k == 2) = false := by simp [hk2]
          have e1 : hdT x k (i : Int) = (.nil, false) := by unfold hdT; rw [if_neg hn, if_neg hk0, if_neg hk1, if_neg hk2]
          rw [e1]
          clear e1 hn
          go_enter Tryz.func109, Tryz.ntmps109
          go_wp2_with fail
          exact bodyPost_ret (v := .tuple #[.agg #[.slice none 0 0], .bool false]) (by simp [results, Tryz.results109, go_sem]) rfl ⟨none, 0, rfl, stays_nil _ _ _, (hb3 _ _ _)⟩

/-- what is behind m arguments of a head -/
def rsT (x : Pl) (k n : Int) (m : Nat) : T × Bool := if (hdT x k n).2 = true ∧ m ≤ (hdT x k n).1.len then ((hdT x k n).1.drop m, true) else (.nil, false)

theorem rest_stays {w0 w w1 w'' : World} {o x y z : Obj} {v : Value} (hle : w0.heap.size ≤ w.heap.size) (hz : w.heap.size + 3 ≤ w1.heap.size)
    (hw : ∀ j, (j < w0.heap.size ∨ w.heap.size ≤ j) → j < ((w1.alloc o).setCell ⟨w.heap.size + 1 + 1, 0, none⟩ v).heap.size → w''.heap[j]? = ((w1.alloc o).setCell ⟨w.heap.size + 1 + 1, 0, none⟩ v).heap[j]?) :
    ∀ j, (j < w0.heap.size ∨ (((w.alloc x).alloc y).alloc z).heap.size ≤ j) → j < w1.heap.size → w''.heap[j]? = w1.heap[j]? := by
  intro j hj hlt
  have hs : (((w.alloc x).alloc y).alloc z).heap.size = w.heap.size + 3 := by simp
  rw [hs] at hj
  rw [hw j (by omega) (by rw [setCell_size]; simp; omega), Below.heap_setCell _ _ _ _ (by show j ≠ w.heap.size + 1 + 1; omega), Below.heap_alloc _ _ _ hlt]

set_option maxRecDepth 100000 in
set_option maxHeartbeats 1600000 in
theorem trest_any (x : Pl) (a : At3) (k n : Int) (w0 w : World) (p : Option Addr) (l cap : Nat) (h : Holds w0 x a w) (hS : symsOk x.S = true) (hl : l ≤ 4611686018427387904) :
    Calls Tryz.prog 72 #[.agg #[.slice a.sp a.sn a.sc, .slice a.fp a.fn a.fc, .slice a.pp a.pn a.pc], .agg #[.int .i64 k, .int .i64 n, .slice p l cap]] w (Gives w0 (rsT x k n l).1 (rsT x k n l).2 w) := by
  have hb3 := below3 w
  have hH := fun W h => thead_any x a k n w0 W p l cap h hS
  obtain ⟨H, ok, hHe⟩ : ∃ H ok, hdT x k n = (H, ok) := ⟨_, _, rfl⟩
  have hR : rsT x k n l = if ok = true ∧ l ≤ H.len then (H.drop l, true) else (.nil, false) := by unfold rsT; rw [hHe]
  rw [hHe] at hH
  have HH := Lib.hid hH
  clear hH hHe
  have hs3 : ∀ x y z, (((w.alloc x).alloc y).alloc z).heap.size = w.heap.size + 3 := by intro x y z; simp
  cases ok with
  | false =>
    rw [if_neg (by simp)] at hR
    rw [hR]
    clear hR
    go_enter Tryz.func72, Tryz.ntmps72
    go_wp2_with fail
    refine (HH.out _ (((h.alloc _).alloc _).alloc _)).mono ?_
    rintro e w1 ⟨q, c, rfl, hi, hb1⟩
    obtain ⟨y0, y1, y2⟩ := heap3 w (a.box 45) (.cells #[.int .i64 k, .int .i64 n, .slice p l cap] 50) (.cells #[.slice none 0 0] 47)
    have r1 := cell_box (box3_later hb1 y2)
    have f1 := free_of_one (box3_later hb1 y2)
    obtain ⟨t1, t2, t3⟩ := box3_cells (box3_later hb1 y1)
    have B := (hb3 _ _ _).trans (hb1.mono (by rw [hs3]; omega))
    have hz := hb1.size
    rw [hs3] at hz
    clear y0 y1 y2 hb1
    have A1 := fun o => (keep_alloc w1 o (w.heap.size + 1) 2 (by omega)).trans t3
    have A2 := fun o => (keep_alloc w1 o (w.heap.size + 1 + 1) 0 (by omega)).trans r1
    have A3 := fun o => ((bcell ((Below.refl w1.heap.size w1).alloc (Nat.le_refl _) o)).2 (w.heap.size + 1 + 1) 0 (by omega)).trans f1
    go_wp2_with fail
    refine bodyPost_ret (v := .tuple #[.agg #[.slice none 0 0], .bool false]) (by simp [results, Tryz.results72, go_sem, A2]) rfl ⟨none, 0, rfl, stays_nil _ _ _, ?_⟩
    exact (B.alloc (by omega) _).setCell (by simp; omega) _
  | true =>
    by_cases hle : l ≤ H.len
    · rw [if_pos ⟨rfl, hle⟩] at hR
      rw [hR]
      clear hR
      have hdl := H.len_drop l
      go_enter Tryz.func72, Tryz.ntmps72
      go_wp2_with fail
      refine (HH.out _ (((h.alloc _).alloc _).alloc _)).mono ?_
      rintro e w1 ⟨q, c, rfl, hi, hb1⟩
      obtain ⟨y0, y1, y2⟩ := heap3 w (a.box 45) (.cells #[.int .i64 k, .int .i64 n, .slice p l cap] 50) (.cells #[.slice none 0 0] 47)
      have r1 := cell_box (box3_later hb1 y2)
      have f1 := free_of_one (box3_later hb1 y2)
      obtain ⟨t1, t2, t3⟩ := box3_cells (box3_later hb1 y1)
      have B := (hb3 _ _ _).trans (hb1.mono (by rw [hs3]; omega))
      have hz := hb1.size
      rw [hs3] at hz
      clear y0 y1 y2 hb1
      have A1 := fun o => (keep_alloc w1 o (w.heap.size + 1) 2 (by omega)).trans t3
      have A2 := fun o => (keep_alloc w1 o (w.heap.size + 1 + 1) 0 (by omega)).trans r1
      have A3 := fun o => ((bcell ((Below.refl w1.heap.size w1).alloc (Nat.le_refl _) o)).2 (w.heap.size + 1 + 1) 0 (by omega)).trans f1
      have hlc : H.len ≤ c := hi.here.2.1
      have hcm : c ≤ maxLen := hi.here.2.2.1
      unfold maxLen at hcm
      have hck : l < c ∨ l = c := by omega
      rcases hck with hck | hck
      · have HI := Lib.hid hi
        clear hi hdl
        have hd4 : decide (H.len < l) = false := by simp; omega
        go_wp2_with fail
        refine bodyPost_ret (v := .tuple #[.agg #[.slice (q.map (·.add l)) (H.len - l) (c - l)], .bool true]) (by simp [results, Tryz.results72, go_sem, A2]) rfl ⟨_, _, by rw [T.len_drop], ?_, (B.alloc (by omega) _).setCell (by simp; omega) _⟩
        intro w'' hw
        have h1 := (HI.out w'' (rest_stays h.le hz hw)).drop hle
        rw [if_neg (by omega), ← T.len_drop] at h1
        exact h1
      · have HI := Lib.hid hi
        clear hi hdl
        have hd4 : decide (H.len < l) = false := by simp; omega
        go_wp2_with fail
        refine bodyPost_ret (v := .tuple #[.agg #[.slice q (H.len - l) (c - l)], .bool true]) (by simp [results, Tryz.results72, go_sem, A2]; omega) rfl ⟨_, _, by rw [T.len_drop], ?_, (B.alloc (by omega) _).setCell (by simp; omega) _⟩
        intro w'' hw
        have h1 := (HI.out w'' (rest_stays h.le hz hw)).drop hle
        rw [if_pos hck.symm, ← T.len_drop] at h1
        exact h1
    · rw [if_neg (fun h => hle h.2)] at hR
      rw [hR]
      clear hR
      have hd4 : decide (H.len < l) = true := by simp; omega
      go_enter Tryz.func72, Tryz.ntmps72
      go_wp2_with fail
      refine (HH.out _ (((h.alloc _).alloc _).alloc _)).mono ?_
      rintro e w1 ⟨q, c, rfl, hi, hb1⟩
      obtain ⟨y0, y1, y2⟩ := heap3 w (a.box 45) (.cells #[.int .i64 k, .int .i64 n, .slice p l cap] 50) (.cells #[.slice none 0 0] 47)
      have r1 := cell_box (box3_later hb1 y2)
      have f1 := free_of_one (box3_later hb1 y2)
      obtain ⟨t1, t2, t3⟩ := box3_cells (box3_later hb1 y1)
      have B := (hb3 _ _ _).trans (hb1.mono (by rw [hs3]; omega))
      have hz := hb1.size
      rw [hs3] at hz
      clear y0 y1 y2 hb1
      have A1 := fun o => (keep_alloc w1 o (w.heap.size + 1) 2 (by omega)).trans t3
      have A2 := fun o => (keep_alloc w1 o (w.heap.size + 1 + 1) 0 (by omega)).trans r1
      have A3 := fun o => ((bcell ((Below.refl w1.heap.size w1).alloc (Nat.le_refl _) o)).2 (w.heap.size + 1 + 1) 0 (by omega)).trans f1
      go_wp2_with fail
      refine bodyPost_ret (v := .tuple #[.agg #[.slice none 0 0], .bool false]) (by simp [results, Tryz.results72, go_sem, A2]) rfl ⟨none, 0, rfl, stays_nil _ _ _, ?_⟩
      exact (B.alloc (by omega) _).setCell (by simp; omega) _

end Go.Proofs.YtjkcopgfcafpeaaGreatDoor

/-
  The walks of suited and Sort. Conditions: the place is one in memory, its symbols good; for suited at most 2^62 arguments.
-/
set_option linter.unusedSimpArgs false
set_option linter.unusedVariables false
namespace Go.Proofs.YtjkcopgfcafpeaaGreatDoor
open Go.RowKit

/-- do the arguments have the sorts that stand in H from place i on? -/
def sargs (x : Pl) (H : T) : X → Nat → Bool
  | .nil, _ => true
  | .cons k n a r, i => ((rsT x k n a.len).2 && T.same (rsT x k n a.len).1 (H.get i)) && sargs x H r (i + 1)

theorem sargs_drop (x : Pl) (H : T) (a : X) (j : Nat) (h : j < a.len) :
    sargs x H (a.drop j) j = (((rsT x (a.gk j) (a.gn j) (a.ga j).len).2 && T.same (rsT x (a.gk j) (a.gn j) (a.ga j).len).1 (H.get j)) && sargs x H (a.drop (j + 1)) (j + 1)) := by
  rw [X.drop_cons a j h]; rfl

/-- does the head take the arguments, if these suit theirs? -/
def suit (x : Pl) (k n : Int) (a : X) : Bool := (rsT x k n a.len).2 && sargs x (hdT x k n).1 a 0

theorem rsT_ok {x : Pl} {k n : Int} {m : Nat} (h : (rsT x k n m).2 = true) : m ≤ (hdT x k n).1.len ∧ (rsT x k n m).1 = (hdT x k n).1.drop m := by
  unfold rsT at h ⊢
  split at h
  · rename_i h1
    rw [if_pos h1]; exact ⟨h1.2, rfl⟩
  · exact absurd h (by simp)

theorem rsT_not {x : Pl} {k n : Int} {m : Nat} (h : (rsT x k n m).2 = false) : (rsT x k n m).1 = .nil := by
  unfold rsT at h ⊢
  split at h
  · exact absurd h (by simp)
  · rename_i h1
    rw [if_neg h1]

theorem below_drewN {B : Nat} {a w : World} (h : Below B a w) (q : Nat) : Below B a (w.drewN q) := ⟨h.os, h.tape, h.output, h.size, h.block⟩

set_option maxRecDepth 100000 in
set_option maxHeartbeats 4000000 in
theorem suited_any (x : Pl) (a3 : At3) (k n : Int) (a : X) (w0 w : World) (p : Option Addr) (l cap : Nat) (h : Holds w0 x a3 w) (hS : symsOk x.S = true) (his : IsX w a p l cap) (hl : a.sz < 4611686018427387904) :
    Calls Tryz.prog 71 #[.agg #[.slice a3.sp a3.sn a3.sc, .slice a3.fp a3.fn a3.fc, .slice a3.pp a3.pn a3.pc], .agg #[.int .i64 k, .int .i64 n, .slice p l cap]] w fun e w' => e = .returned (.bool (suit x k n a)) ∧ Below w.heap.size w w' := by
  have hlen := a.len_le_sz
  obtain ⟨hn, hcap, hmax, hnil, hrow⟩ := id his
  subst hn
  unfold maxLen at hmax
  have hs2 : ∀ x y, ((w.alloc x).alloc y).heap.size = w.heap.size + 2 := by intro x y; simp
  have hb2 : ∀ x y, Below w.heap.size w ((w.alloc x).alloc y) := fun x y => ((Below.refl _ _).alloc (Nat.le_refl _) _).alloc (by simp) _
  have hR := fun W h => trest_any x a3 k n w0 W p a.len cap h hS (by omega)
  have hH := fun W h => thead_any x a3 k n w0 W p a.len cap h hS
  have HA := Lib.hid (fun k n (a : X) W p cap (h : Holds w0 x a3 W) (hl : a.len ≤ 4611686018427387904) => trest_any x a3 k n w0 W p a.len cap h hS hl)
  obtain ⟨r, hr⟩ : ∃ r, suit x k n a = r := ⟨_, rfl⟩
  rw [hr]
  unfold suit at hr
  have hok := @rsT_ok x k n a.len
  obtain ⟨R, ok, hRe⟩ : ∃ R ok, rsT x k n a.len = (R, ok) := ⟨_, _, rfl⟩
  rw [hRe] at hR hr hok
  obtain ⟨H, ok2, hHe⟩ : ∃ H ok2, hdT x k n = (H, ok2) := ⟨_, _, rfl⟩
  rw [hHe] at hH hr hok
  have HR := Lib.hid hR
  have HH := Lib.hid hH
  have HRE := Lib.hid hr
  clear hR hH hRe hHe hr
  cases ok with
  | false =>
    clear hok
    go_enter Tryz.func71, Tryz.ntmps71
    go_wp2_with fail
    refine (HR.out _ ((h.alloc _).alloc _)).mono ?_
    rintro e w1 ⟨q, c, rfl, hi, hb1⟩
    have B := (hb2 _ _).trans (hb1.mono (by rw [hs2]; omega))
    go_wp2_with fail
    go_ret
    exact ⟨ret_bool (by rw [← HRE.out]; rfl), B.alloc B.size _⟩
  | true =>
    have hle := (hok rfl).1
    dsimp only at hle
    clear hok
    go_enter Tryz.func71, Tryz.ntmps71
    go_wp2_with fail
    refine (HR.out _ ((h.alloc _).alloc _)).mono ?_
    rintro e w1 ⟨q, c, rfl, hi, hb1⟩
    have B1 := (hb2 _ _).trans (hb1.mono (by rw [hs2]; omega))
    have y0 := box3_later hb1 (alloc_kept (heap_new w (a3.box 45)) (.cells #[.int .i64 k, .int .i64 n, .slice p a.len cap] 50))
    have y1 := box3_later hb1 (heap_new2 w (a3.box 45) (.cells #[.int .i64 k, .int .i64 n, .slice p a.len cap] 50))
    have h1 := ((h.alloc _).alloc _).below hb1
    have y0' := alloc_kept y0 (.cells #[.slice q R.len c] 47)
    have y1' := alloc_kept y1 (.cells #[.slice q R.len c] 47)
    have h1' := h1.alloc (.cells #[.slice q R.len c] 47)
    have B1' := B1.alloc B1.size (.cells #[.slice q R.len c] 47)
    obtain ⟨z1, z2, z3⟩ := boxP_cells y0'
    obtain ⟨z4, z5, z6⟩ := box3_cells y1'
    clear hi hb1 h1 y0 y1 B1
    go_wp2_with fail
    refine (HH.out _ h1').mono ?_
    rintro e w2 ⟨q7, c7, rfl, hi7, hb2'⟩
    have y0 := box3_later hb2' y0'
    have y1 := box3_later hb2' y1'
    have h2 := h1'.below hb2'
    have B2 := B1'.trans (hb2'.mono B1'.size)
    obtain ⟨z1, z2, z3⟩ := boxP_cells (alloc_kept y0 (.cells #[.slice q7 H.len c7] 47))
    obtain ⟨z4, z5, z6⟩ := box3_cells (alloc_kept y1 (.cells #[.slice q7 H.len c7] 47))
    have z7 := heap_new w2 (.cells #[.slice q7 H.len c7] 47)
    have z8 : IsT (w2.alloc (.cells #[.slice q7 H.len c7] 47)) H q7 H.len c7 := hi7.here.alloc _
    have h3 := h2.alloc (.cells #[.slice q7 H.len c7] 47)
    have y0' := alloc_kept y0 (.cells #[.slice q7 H.len c7] 47)
    have B3 := B2.alloc B2.size (.cells #[.slice q7 H.len c7] 47)
    clear hi7 hb2' h2 y0 y1 B2
    go_wp2_with fail
    generalize (w2.alloc (.cells #[.slice q7 H.len c7] 47)) = W3 at z7 z8 h3 y0' B3 ⊢
    generalize w2.heap.size = b7 at z7 ⊢
    have Z7 := Lib.hid z7
    have Z8 := Lib.hid z8
    have Y0 := Lib.hid y0'
    have H3 := Lib.hid h3
    clear z1 z2 z3 z4 z5 z6 z7 z8 y0' h3 h1' y1'
    go_loopw [30] (fun i wr => ∃ j : Nat, j ≤ a.len ∧ i = .int .i64 (j : Int) ∧ sargs x H (a.drop j) j = r ∧ wr.heap[w.heap.size]? = some (a3.box 45) ∧ wr.heap[b7]? = some (.cells #[.slice q7 H.len c7] 47 (0, 0)) ∧ IsT wr H q7 H.len c7 ∧ Holds w0 x a3 wr ∧ Below w.heap.size w wr)
      (fun i _ => a.len - (intOf i).toNat)
    case atStart => exact ⟨0, Nat.zero_le _, rfl, by rw [X.drop_zero]; have := HRE.out; simpa using this, Y0.out, Z7.out, Z8.out, H3.out, B3⟩
    case round =>
      clear Y0 Z7 Z8 H3 B3
      obtain ⟨j, hj, rfl, hmo, hy0, hz7, hz8, hh, hb⟩ := hrel
      have HM := Lib.hid hmo
      have Y0 := Lib.hid hy0
      have Z7 := Lib.hid hz7
      have Z8 := Lib.hid hz8
      have H3 := Lib.hid hh
      clear hmo hy0 hz7 hz8 hh
      by_cases hlt : j < a.len
      · rcases hrow with h0 | ⟨b, off, rfl, hr⟩
        · omega
        obtain ⟨hck, hcn, p', n', cap', hc, hi⟩ := base3_at (Keeps3.below hb (Nat.le_refl _)) hr hlt
        obtain rfl := hi.1
        have hg := a.sz_ga j hlt
        have hgl := (a.ga j).len_le_sz
        obtain ⟨x1, x2, x3⟩ := boxP_cells (alloc_kept Y0.out (.cells #[.int .i64 (a.gk j), .int .i64 (a.gn j), .slice p' (a.ga j).len cap'] 50))
        go_wp2_with fail
        refine (HA.out (a.gk j) (a.gn j) (a.ga j) _ p' cap' (H3.out.alloc _) (by omega)).mono ?_
        rintro e w3 ⟨q8, c8, rfl, hi8, hb8⟩
        have hst := sargs_drop x H a j hlt
        rw [HM.out] at hst
        obtain ⟨R8, ok8, hR8⟩ : ∃ R8 ok8, rsT x (a.gk j) (a.gn j) (a.ga j).len = (R8, ok8) := ⟨_, _, rfl⟩
        rw [hR8] at hi8 hst ⊢
        have HS := Lib.hid hst
        clear hst hR8 HM
        have Bw := base_next hb hb8
        have y0 := box3_later (below_call hb8) Y0.out
        have z7 := box3_later (below_call hb8) Z7.out
        have z8 := Z8.out.below (below_call hb8)
        have h3 := H3.out.below (below_call hb8)
        have i8 := hi8.here
        have hz3 := (below_call hb8).size
        clear hi8 hb8 Y0 Z7 Z8 H3 hb
        have y0' := alloc_kept y0 (.cells #[.slice q8 R8.len c8] 47)
        have z7' := alloc_kept z7 (.cells #[.slice q8 R8.len c8] 47)
        have z8' := z8.alloc (.cells #[.slice q8 R8.len c8] 47)
        have h3' := h3.alloc (.cells #[.slice q8 R8.len c8] 47)
        have i8' := i8.alloc (.cells #[.slice q8 R8.len c8] 47)
        have B4 := Bw.alloc Bw.size (.cells #[.slice q8 R8.len c8] 47)
        have t11 := cell_box (heap_new w3 (.cells #[.slice q8 R8.len c8] 47))
        have t7 := cell_box z7'
        obtain ⟨_, hcH, hmH, _, hrH⟩ := id z8'
        unfold maxLen at hmH
        rcases hrH with h0 | ⟨bH, oH, rfl, hrH⟩
        · omega
        obtain ⟨pH, nH, cH, hcell, hiH⟩ := hrH.at (i := j) (by omega)
        obtain rfl := hiH.1
        have hjH : j < H.len := by omega
        have Y0 := Lib.hid y0'
        have Z7 := Lib.hid z7'
        have Z8 := Lib.hid z8'
        have H3 := Lib.hid h3'
        have I8 := Lib.hid i8'
        have IH := Lib.hid hiH
        clear y0 z7 z8 h3 i8 Bw y0' z7' z8' h3' i8' hiH hrH
        cases ok8 with
        | false =>
          go_wp2_with fail
          generalize (w3.alloc (.cells #[.slice q8 R8.len c8] 47)) = W4 at t11 t7 hcell B4 Y0 Z7 Z8 H3 I8 IH ⊢
          clear t11 t7 hcell Y0 Z7 Z8 H3 I8 IH
          go_quiet (fail)
          go_wp2_with fail
          go_ret
          exact ⟨ret_bool (by rw [HS.out]; rfl), below_drewN B4 _⟩
        | true =>
          have HB := fun W h h' => same_any R8 (H.get j) W q8 pH R8.len c8 (H.get j).len cH h h'
          have hS := HS.out
          cases hsm : T.same R8 (H.get j) with
          | false =>
            rw [hsm] at HB hS
            have HB' := Lib.hid HB
            have HS' := Lib.hid hS
            clear HB hS HS
            go_wp2_with fail
            generalize (w3.alloc (.cells #[.slice q8 R8.len c8] 47)) = W4 at t11 t7 hcell B4 Y0 Z7 Z8 H3 I8 IH ⊢
            go_still_tail 9, (by kernel_rfl)
            change wpList _ _ _ _ _ W4.drew
            go_wp2_with fail
            refine (HB'.out _ (I8.out.keeps (Keeps.drew _)) (IH.out.keeps (Keeps.drew _))).mono ?_
            rintro e w5 ⟨rfl, hb5⟩
            go_wp2_with fail
            go_ret
            exact ⟨ret_bool (by rw [HS'.out]; rfl), B4.drew.trans (hb5.mono B4.size)⟩
          | true =>
            rw [hsm] at HB hS
            have HB' := Lib.hid HB
            have HS' := Lib.hid hS
            clear HB hS HS
            go_wp2_with fail
            generalize (w3.alloc (.cells #[.slice q8 R8.len c8] 47)) = W4 at t11 t7 hcell B4 Y0 Z7 Z8 H3 I8 IH ⊢
            go_still_tail 9, (by kernel_rfl)
            change wpList _ _ _ _ _ W4.drew
            go_wp2_with fail
            refine (HB'.out _ (I8.out.keeps (Keeps.drew _)) (IH.out.keeps (Keeps.drew _))).mono ?_
            rintro e w5 ⟨rfl, hb5⟩
            have hb5' : Below W4.heap.size W4 w5 := (Below.refl _ _).drew.trans hb5
            have y0 := box3_later hb5' Y0.out
            have z7 := box3_later hb5' Z7.out
            have z8 := Z8.out.below hb5'
            have h3 := H3.out.below hb5'
            have B5 := B4.trans (hb5'.mono B4.size)
            clear hb5 hb5'
            go_wp2_with fail
            go_roundw
            case rel => exact ⟨j + 1, by omega, by go_num, by rw [HS'.out]; simp, y0, z7, z8, h3, B5⟩
            case measure => simp [intOf]; omega
      · go_wp2_with fail
        go_ret
        exact ⟨ret_bool (by rw [← HM.out, X.drop_end a j (by omega)]; rfl), hb⟩

end Go.Proofs.YtjkcopgfcafpeaaGreatDoor

/-
  The walk of Sort: what it returns, for whatever place and term. Conditions: none but that they lie in memory.
-/
set_option linter.unusedSimpArgs false
set_option linter.unusedVariables false
namespace Go.Proofs.YtjkcopgfcafpeaaGreatDoor
open Go.RowKit

theorem AllX_sz (N : Nat) (t : X) : t.sz ≤ N → X.AllX (fun _ _ a => a.sz < N) t := by
  induction t with
  | nil => intro _; trivial
  | cons k n a r iha ihr =>
    intro h
    simp only [X.sz] at h
    exact ⟨by omega, iha (by omega), ihr (by omega)⟩

set_option maxRecDepth 100000 in
set_option maxHeartbeats 400000 in
theorem pred_suit (x : Pl) (a3 : At3) (k n : Int) (a : X) (w0 w : World) (p : Option Addr) (l cap cb : Nat) (h : Holds w0 x a3 w) (hS : symsOk x.S = true) (his : IsX w a p l cap) (hl : a.sz < 4611686018427387904) (hc : w.heap[cb]? = some (a3.box 45)) :
    Calls Tryz.prog 70 #[.agg #[.int .i64 k, .int .i64 n, .slice p l cap], .pointer (some ⟨cb, 0, none⟩)] w fun e w' => e = .returned (.bool (suit x k n a)) ∧ Below w.heap.size w w' := by
  have hlt := lt_of_block hc
  obtain ⟨c1, c2, c3⟩ := boxP_cells hc
  have hs := fun W h' hi => suited_any x a3 k n a w0 W p l cap h' hS hi hl
  have HS := Lib.hid hs
  clear hs
  go_enter Tryz.func70, Tryz.ntmps70
  go_wp2_with fail
  refine (HS.out _ (h.alloc _) (his.alloc _)).mono ?_
  rintro e w1 ⟨rfl, hb1⟩
  go_wp2_with fail
  go_ret
  exact ⟨rfl, below_call hb1⟩

theorem fits_suit (x : Pl) (a3 : At3) (w0 : World) (cb : Nat) (hS : symsOk x.S = true) : Fits (fun v w Q => Calls Tryz.prog 70 #[v, .pointer (some ⟨cb, 0, none⟩)] w Q) (stepB (suit x)) (fun _ => True)
    (fun _ w => w.heap[cb]? = some (a3.box 45) ∧ Holds w0 x a3 w) (fun w w' => Below w.heap.size w w') (fun _ _ a => a.sz < 4611686018427387904) where
  run := fun s k n a w p l cap _ hI hG hi => (pred_suit x a3 k n a w0 w p l cap cb hI.2 hS hi hG hI.1).mono fun _ _ h => ⟨h.1, ⟨box3_later h.2 hI.1, hI.2.below h.2⟩, h.2⟩
  live := fun _ _ _ _ _ _ => trivial
  trans := fun _ _ _ h k => h.trans (k.mono h.size)
  alloc := fun s w o h => ⟨⟨alloc_kept h.1 o, h.2.alloc o⟩, (Below.refl _ _).alloc (Nat.le_refl _) _⟩
  keeps := fun s w w' _ k => Keeps3.below k (Nat.le_refl _)

theorem all_suit (x : Pl) (a3 : At3) (w0 : World) (cb : Nat) (hS : symsOk x.S = true) (a : X) (k n : Int) (w : World) (p : Option Addr) (l cap : Nat) (hI : w.heap[cb]? = some (a3.box 45)) (hH : Holds w0 x a3 w) (his : IsX w a p l cap) (hl : a.sz < 100000) :
    Calls Tryz.prog 69 #[.agg #[.int .i64 k, .int .i64 n, .slice p l cap], .func (Fn.func 70) #[] #[.pointer (some ⟨cb, 0, none⟩)]] w fun e w' =>
      e = .returned (.bool (suit x k n a && allB (suit x) a)) ∧ Below w.heap.size w w' := by
  have h := all_sort1 (fits_suit x a3 w0 cb hS) (a.sz + 1) a () k n w p l cap (Nat.lt_succ_self _) trivial ⟨hI, hH⟩ (by omega) (AllX_mono (fun _ _ _ h => by omega) (AllX_sz 100000 a (by omega))) his
  rw [walk1_allB] at h
  exact h.mono fun _ _ h => ⟨h.1, h.2.2⟩

/-- what Sort returns -/
def sortRes (x : Pl) (k n : Int) (a : X) : Int × T :=
  if plOk x = true then
    if a.sz < 100000 then
      if (suit x k n a && allB (suit x) a) = true then ((rsT x k n a.len).1.bE 0, (rsT x k n a.len).1.bT 0) else (6, .nil)
    else (3, .nil)
  else (2, .nil)

theorem plOk_syms {x : Pl} (h : plOk x = true) : symsOk x.S = true := by
  simp only [plOk, Bool.and_eq_true] at h; exact h.1.1

set_option maxRecDepth 100000 in
set_option maxHeartbeats 4000000 in
theorem sort_any (x : Pl) (a3 : At3) (k n : Int) (a : X) (w : World) (p : Option Addr) (l cap : Nat) (h : IsP w x a3) (his : IsX w a p l cap) (E : Int) (S : T) (hres : sortRes x k n a = (E, S)) :
    Calls Tryz.prog 32 #[.agg #[.slice a3.sp a3.sn a3.sc, .slice a3.fp a3.fn a3.fc, .slice a3.pp a3.pn a3.pc], .agg #[.int .i64 k, .int .i64 n, .slice p l cap]] w fun e w' =>
      ∃ q c, e = .returned (.tuple #[.agg #[.slice q S.len c], .int .i64 E]) ∧ Own w' S q c w.heap.size w'.heap.size ∧ Below w.heap.size w w' := by
  have HD := Lib.hid hres
  clear hres
  have h0 : Holds w x a3 w := ⟨h, Nat.le_refl _, fun _ _ => rfl⟩
  have HC := Lib.hid (fun W h => tcheck_any x a3 W h)
  go_enter Tryz.func32, Tryz.ntmps32
  go_wp2_with fail
  refine (HC.out _ (((h.alloc _).alloc _).alloc _)).mono ?_
  rintro e w1 ⟨rfl, hb1⟩
  have V1 := (Vars3.start w (a3.box 45) (.cells #[.int .i64 k, .int .i64 n, .slice p l cap] 50) (.cells #[.slice none 0 0] 47)).below hb1
  have ix1 : IsX w1 a p l cap := his.below V1.2.2.2
  have h1 : Holds w x a3 w1 := h0.below V1.2.2.2
  obtain ⟨c1, c2, c3⟩ := boxP_cells V1.1
  obtain ⟨t1, t2, t3⟩ := box3_cells V1.2.1
  have r1 := cell_box V1.2.2.1
  have f1 := free_of_one V1.2.2.1
  have hz1 := lt_of_block V1.2.2.1
  have HV1 := Lib.hid V1
  clear hb1 V1
  cases hp : plOk x with
  | false =>
    have e1 : plE x = 2 := by unfold plE; rw [hp]; rfl
    have e2 := HD.out
    unfold sortRes at e2
    rw [if_neg (by rw [hp]; simp)] at e2
    obtain ⟨rfl, rfl⟩ := Prod.mk.inj e2
    rw [e1]
    clear HD e1 e2 hp
    go_wp2_with fail
    exact bodyPost_ret (v := .tuple #[.agg #[.slice none 0 0], .int .i64 2]) (by simp [results, Tryz.results32, go_sem, r1]) rfl ⟨none, 0, rfl, own_nil _ _ _, HV1.out.2.2.2.setCell (by simp; omega) _⟩
  | true =>
    have e1 : plE x = 0 := by unfold plE; rw [hp]; rfl
    have hS := plOk_syms hp
    rw [e1]
    clear e1
    go_wp2_with fail
    refine (tsmall_any a k n _ p l cap ix1).mono ?_
    rintro e w2 ⟨rfl, hb2⟩
    have V2 := HV1.out.below hb2
    have ix2 := ix1.below hb2
    have h2 := h1.below hb2
    obtain ⟨c1, c2, c3⟩ := boxP_cells V2.1
    obtain ⟨t1, t2, t3⟩ := box3_cells V2.2.1
    have r1 := cell_box V2.2.2.1
    have f1 := free_of_one V2.2.2.1
    have HV2 := Lib.hid V2
    clear hb2 V2 HV1 ix1 h1
    by_cases hsm : a.sz < 100000
    · have hd : decide (a.sz < 100000) = true := by simpa using hsm
      go_wp2_with fail
      refine (all_suit x a3 w w.heap.size hS a k n _ p l cap HV2.out.1 h2 ix2 hsm).mono ?_
      rintro e w3 ⟨rfl, hb3⟩
      have V3 := HV2.out.below hb3
      have h3 := h2.below hb3
      obtain ⟨c1, c2, c3⟩ := boxP_cells V3.1
      obtain ⟨t1, t2, t3⟩ := box3_cells V3.2.1
      have r1 := cell_box V3.2.2.1
      have f1 := free_of_one V3.2.2.1
      have HV3 := Lib.hid V3
      clear hb3 V3 HV2 ix2 h2
      cases hsu : (suit x k n a && allB (suit x) a) with
      | false =>
        have e2 := HD.out
        unfold sortRes at e2
        rw [if_pos hp, if_pos hsm, if_neg (by rw [hsu]; simp)] at e2
        obtain ⟨rfl, rfl⟩ := Prod.mk.inj e2
        clear HD e2 hp hsu
        go_wp2_with fail
        exact bodyPost_ret (v := .tuple #[.agg #[.slice none 0 0], .int .i64 6]) (by simp [results, Tryz.results32, go_sem, r1]) rfl ⟨none, 0, rfl, own_nil _ _ _, HV3.out.2.2.2.setCell (by simp; omega) _⟩
      | true =>
        have e2 := HD.out
        unfold sortRes at e2
        rw [if_pos hp, if_pos hsm, if_pos hsu] at e2
        obtain ⟨hE, hT⟩ := Prod.mk.inj e2
        obtain ⟨hl1, _⟩ := id his
        have hlen := a.len_le_sz
        have hR := fun W h => trest_any x a3 k n w W p l cap h hS (by omega)
        rw [hl1] at hR
        obtain ⟨R, ok, hRe⟩ : ∃ R ok, rsT x k n a.len = (R, ok) := ⟨_, _, rfl⟩
        rw [hRe] at hR hE hT
        dsimp only at hE hT
        have hB := fun W q c h => behind_any R W q R.len c 0 h
        rw [hE, hT] at hB
        have HR := Lib.hid hR
        have HB := Lib.hid hB
        subst hl1
        clear HD e2 hp hsu hR hRe hE hT hB
        go_wp2_with fail
        refine (HR.out _ h3).mono ?_
        rintro e w4 ⟨q4, c4, rfl, hi4, hb4⟩
        have V4 := HV3.out.below hb4
        have V4' := V4.below ((Below.refl _ _).alloc (Nat.le_refl _) (.cells #[.slice q4 R.len c4] 47))
        have i4 : IsT (w4.alloc (.cells #[.slice q4 R.len c4] 47)) R q4 R.len c4 := hi4.here.alloc _
        clear hb4 V4 HV3 hi4
        go_wp2_with fail
        refine (HB.out _ _ _ i4).mono ?_
        rintro e w5 ⟨q5, c5, rfl, hO, hb5⟩
        have V5 := V4'.below hb5
        have r1 := cell_box V5.2.2.1
        have f1 := free_of_one V5.2.2.1
        have hz4 := lt_of_block V4'.2.2.1
        have HV5 := Lib.hid V5
        clear hb5 V5 V4' i4
        go_wp2_with fail
        refine bodyPost_ret (v := .tuple #[.agg #[.slice q5 S.len c5], .int .i64 E]) (by simp [results, Tryz.results32, go_sem, r1]) rfl ⟨q5, c5, rfl, ?_, HV5.out.2.2.2.setCell (by simp; omega) _⟩
        have hO2 := (hO.set (a := ⟨w.heap.size + 1 + 1, 0, none⟩) hz4 (.slice q5 S.len c5)).mono (lo' := w.heap.size) (by omega) (Nat.le_refl _)
        rw [setCell_size]
        exact hO2
    · have hd : decide (a.sz < 100000) = false := by simpa using hsm
      have e2 := HD.out
      unfold sortRes at e2
      rw [if_pos hp, if_neg hsm] at e2
      obtain ⟨rfl, rfl⟩ := Prod.mk.inj e2
      clear HD e2 hp
      go_wp2_with fail
      exact bodyPost_ret (v := .tuple #[.agg #[.slice none 0 0], .int .i64 3]) (by simp [results, Tryz.results32, go_sem, r1]) rfl ⟨none, 0, rfl, own_nil _ _ _, HV2.out.2.2.2.setCell (by simp; omega) _⟩

end Go.Proofs.YtjkcopgfcafpeaaGreatDoor

/-
  The walks of the statements' own example, and of what holds of it. Conditions: none.
-/
set_option linter.unusedSimpArgs false
set_option linter.unusedVariables false
namespace Go.Proofs.YtjkcopgfcafpeaaGreatDoor
open Go.RowKit

/-- the example's place -/
def exP : Pl := ⟨⟨2, fun i => if i = 0 then ⟨#[97]⟩ else ⟨#[99]⟩, fun i => if i = 0 then 2 else 0⟩, .nil, .cons (.cons .nil .nil) (.cons .nil .nil)⟩

/-- the arguments of its term, of which head is variable 0 -/
def exA : X := .cons 0 0 (.cons 0 1 .nil .nil) .nil

/-- its args -/
def exS : X := .cons 2 0 (.cons 2 1 .nil .nil) (.cons 2 1 .nil .nil)

/-- the arguments of what is wanted, of which head is symbol 0 -/
def exW : X := .cons 2 1 .nil (.cons 2 0 (.cons 2 1 .nil (.cons 2 1 .nil .nil)) .nil)

theorem ex_sort : sortRes exP 0 0 exA = (0, .nil) := by kernel_rfl

theorem ex_sub : subRes exS 0 0 exA = (0, 2, 0, exW) := by kernel_rfl

/-- several blocks more -/
def allocs (w : World) (l : List Obj) : World := l.foldl World.alloc w

theorem allocs_size (l : List Obj) : ∀ w : World, (allocs w l).heap.size = w.heap.size + l.length := by
  induction l with
  | nil => intro w; rfl
  | cons o r ih =>
    intro w
    show (allocs (w.alloc o) r).heap.size = _
    rw [ih, World.size_alloc, List.length_cons]; omega

theorem allocs_below (l : List Obj) : ∀ w : World, Below w.heap.size w (allocs w l) := by
  induction l with
  | nil => intro w; exact Below.refl _ _
  | cons o r ih =>
    intro w
    have h := ih (w.alloc o)
    exact ((Below.refl w.heap.size w).alloc (Nat.le_refl _) o).trans (h.mono (by simp))

theorem allocs_at (l : List Obj) : ∀ (w : World) (k : Nat) (o : Obj), l[k]? = some o → (allocs w l).heap[w.heap.size + k]? = some o := by
  induction l with
  | nil => intro w k o h; simp at h
  | cons x r ih =>
    intro w k o h
    cases k with
    | zero =>
      have hx : x = o := by simpa using h
      subst hx
      show (allocs (w.alloc x) r).heap[w.heap.size]? = _
      rw [(allocs_below r (w.alloc x)).block _ (by simp)]
      exact heap_new w x
    | succ k =>
      have := ih (w.alloc x) k o (by simpa using h)
      rw [World.size_alloc] at this
      show (allocs (w.alloc x) r).heap[w.heap.size + (k + 1)]? = _
      rw [show w.heap.size + (k + 1) = w.heap.size + 1 + k by omega]
      exact this

theorem allocs_cell (l : List Obj) (w : World) {b o : Nat} {v : Value} (h : w.cell? ⟨b, o, none⟩ = some v) : (allocs w l).cell? ⟨b, o, none⟩ = some v := by
  rw [(bcell (allocs_below l w)).1 _ _ (lt_of_cell h)]; exact h

/-- the blocks that the example's first part lays -/
def exL (n : Nat) : List Obj :=
  [.cells #[.slice none 0 0] 47,
   .cells #[.string ⟨#[97]⟩, .int .i64 2, .string ⟨#[99]⟩, .int .i64 0] 64,
   .cells #[.slice none 0 0] 47,
   .cells #[.slice (some ⟨n + 2, 0, none⟩) 1 1, .slice none 0 0] 47,
   .cells #[.slice (some ⟨n + 1, 0, none⟩) 2 2, .slice none 0 0, .slice (some ⟨n + 3, 0, none⟩) 2 2] 45,
   .cells #[.int .i64 0, .int .i64 1, .slice none 0 0] 50,
   .cells #[.int .i64 0, .int .i64 1, .slice none 0 0] 50,
   .cells #[.int .i64 0, .int .i64 0, .slice (some ⟨n + 6, 0, none⟩) 1 1] 50,
   .cells #[.int .i64 0, .int .i64 0, .slice (some ⟨n + 6, 0, none⟩) 1 1] 50,
   .cells #[.int .i64 0, .int .i64 0, .slice (some ⟨n + 8, 0, none⟩) 1 1] 50,
   .cells #[.int .i64 0, .int .i64 0, .slice (some ⟨n + 8, 0, none⟩) 1 1] 50]

def exAt (n : Nat) : At3 := ⟨some ⟨n + 1, 0, none⟩, 2, 2, none, 0, 0, some ⟨n + 3, 0, none⟩, 2, 2⟩

theorem cell_at {W : World} {b i : Nat} {cs : Array Value} {ty : TypeId} {v : Value} (h : W.heap[b]? = some (.cells cs ty (0, 0))) (hi : cs[i]? = some v) : W.cell? ⟨b, i, none⟩ = some v := by
  rw [cell_of_row W b i cs _ _ h]; exact hi

theorem ex_isP (w : World) : IsP (allocs w (exL w.heap.size)) exP (exAt w.heap.size) := by
  have h1 := allocs_at (exL w.heap.size) w 1 _ rfl
  have h2 := allocs_at (exL w.heap.size) w 2 _ rfl
  have h3 := allocs_at (exL w.heap.size) w 3 _ rfl
  refine ⟨⟨rfl, Nat.le_refl _, by simp [exAt, maxLen], fun e => by simp [exAt] at e, Or.inr ⟨_, 0, rfl, ?_⟩⟩, ⟨rfl, Nat.le_refl _, by simp [exAt, maxLen], fun _ => rfl, Or.inl rfl⟩, ⟨rfl, Nat.le_refl _, by simp [exAt, maxLen], fun e => by simp [exAt] at e, Or.inr ⟨_, 0, rfl, ?_⟩⟩⟩
  · intro i hi
    have : i < 2 := hi
    rcases i with _ | _ | i
    · exact ⟨cell_at h1 rfl, cell_at h1 rfl⟩
    · exact ⟨cell_at h1 rfl, cell_at h1 rfl⟩
    · omega
  · refine ⟨⟨some ⟨w.heap.size + 2, 0, none⟩, 1, cell_at h3 rfl, Nat.le_refl _, by simp [maxLen], fun e => by simp at e, Or.inr ⟨_, 0, rfl, ⟨none, 0, cell_at h2 rfl, Nat.le_refl _, by simp [maxLen], fun _ => rfl, Or.inl rfl⟩, trivial⟩⟩, ⟨none, 0, cell_at h3 rfl, Nat.le_refl _, by simp [maxLen], fun _ => rfl, Or.inl rfl⟩, trivial⟩

theorem ex_isX (w : World) : IsX (allocs w (exL w.heap.size)) exA (some ⟨w.heap.size + 8, 0, none⟩) 1 1 := by
  have h1 := allocs_at (exL w.heap.size) w 6 _ rfl
  have h2 := allocs_at (exL w.heap.size) w 8 _ rfl
  refine ⟨rfl, Nat.le_refl _, by simp [maxLen], fun e => by simp at e, Or.inr ⟨_, 0, rfl, cell_at h2 rfl, cell_at h2 rfl, ⟨some ⟨w.heap.size + 6, 0, none⟩, 1, cell_at h2 rfl, Nat.le_refl _, by simp [maxLen], fun e => by simp at e, Or.inr ⟨_, 0, rfl, cell_at h1 rfl, cell_at h1 rfl, ⟨none, 0, cell_at h1 rfl, Nat.le_refl _, by simp [maxLen], fun _ => rfl, Or.inl rfl⟩, trivial⟩⟩, trivial⟩⟩

/-- the blocks that its second part lays: the args -/
def exL2 (n : Nat) : List Obj :=
  [.cells #[.int .i64 2, .int .i64 1, .slice none 0 0] 50,
   .cells #[.int .i64 2, .int .i64 1, .slice none 0 0] 50,
   .cells #[.int .i64 2, .int .i64 0, .slice (some ⟨n + 1, 0, none⟩) 1 1] 50,
   .cells #[.int .i64 2, .int .i64 1, .slice none 0 0] 50,
   .cells #[.int .i64 2, .int .i64 0, .slice (some ⟨n + 1, 0, none⟩) 1 1, .int .i64 2, .int .i64 1, .slice none 0 0] 50]

/-- the args, in whatever world has their two rows -/
theorem isS_of {W : World} {b1 b2 : Nat} (h2 : W.heap[b2]? = some (.cells #[.int .i64 2, .int .i64 0, .slice (some ⟨b1, 0, none⟩) 1 1, .int .i64 2, .int .i64 1, .slice none 0 0] 50 (0, 0)))
    (h1 : W.heap[b1]? = some (.cells #[.int .i64 2, .int .i64 1, .slice none 0 0] 50 (0, 0))) : IsX W exS (some ⟨b2, 0, none⟩) 2 2 :=
  ⟨rfl, Nat.le_refl _, by simp [maxLen], fun e => by simp at e, Or.inr ⟨_, 0, rfl, cell_at h2 rfl, cell_at h2 rfl, ⟨some ⟨b1, 0, none⟩, 1, cell_at h2 rfl, Nat.le_refl _, by simp [maxLen], fun e => by simp at e, Or.inr ⟨_, 0, rfl, cell_at h1 rfl, cell_at h1 rfl, ⟨none, 0, cell_at h1 rfl, Nat.le_refl _, by simp [maxLen], fun _ => rfl, Or.inl rfl⟩, trivial⟩⟩, cell_at h2 rfl, cell_at h2 rfl, ⟨none, 0, cell_at h2 rfl, Nat.le_refl _, by simp [maxLen], fun _ => rfl, Or.inl rfl⟩, trivial⟩⟩

theorem heap_new_eq {w : World} {x : Obj} {k : Nat} (h : k = w.heap.size) : (w.alloc x).heap[k]? = some x := by subst h; exact heap_new w x

theorem drew_later {W w : World} (hb : Below W.drew.heap.size W.drew w) : Below W.heap.size W w := ⟨hb.os, hb.tape, hb.output, hb.size, hb.block⟩

/-- the example's term -/
def IsA (p : Option Addr) (W : World) : Prop := IsX W exA p 1 1

theorem IsA.alloc {p : Option Addr} {W : World} (h : IsA p W) (o : Obj) : IsA p (W.alloc o) := IsX.alloc h o

theorem IsA.drew {p : Option Addr} {W : World} (h : IsA p W) : IsA p W.drew := IsX.drew h

theorem use_kept {P : Prop} {X w5 : World} {b : Nat} {o : Obj} (hb : Below X.drew.heap.size X.drew w5) (h : X.heap[b]? = some o) (k : w5.heap[b]? = some o → P) : P := k (box3_later (drew_later hb) h)

theorem heap_set3 {w : World} {b : Nat} {k n : Int} {v : Value} {ty : TypeId} (h : w.heap[b]? = some (.cells #[.int .i64 0, .int .i64 0, .slice none 0 0] ty (0, 0))) :
    (((w.setCell ⟨b, 0, none⟩ (.int .i64 k)).setCell ⟨b, 1, none⟩ (.int .i64 n)).setCell ⟨b, 2, none⟩ v).heap[b]? = some (.cells #[.int .i64 k, .int .i64 n, v] ty (0, 0)) :=
  heap_setCell_same _ b 2 _ ty v (heap_setCell_same _ b 1 _ ty _ (heap_setCell_same w b 0 _ ty _ h))

theorem heap_set3_far {w : World} {b j : Nat} {k n : Int} {v : Value} {o : Obj} (hj : j ≠ b) (h : w.heap[j]? = some o) :
    (((w.setCell ⟨b, 0, none⟩ (.int .i64 k)).setCell ⟨b, 1, none⟩ (.int .i64 n)).setCell ⟨b, 2, none⟩ v).heap[j]? = some o := by
  rw [Below.heap_setCell _ _ _ _ hj, Below.heap_setCell _ _ _ _ hj, Below.heap_setCell _ _ _ _ hj]; exact h

/-- the blocks that its third part lays: what is wanted -/
def exL3 (n : Nat) : List Obj :=
  [.cells #[.int .i64 2, .int .i64 1, .slice none 0 0] 50,
   .cells #[.int .i64 2, .int .i64 1, .slice none 0 0] 50,
   .cells #[.int .i64 2, .int .i64 1, .slice none 0 0] 50,
   .cells #[.int .i64 2, .int .i64 1, .slice none 0 0, .int .i64 2, .int .i64 1, .slice none 0 0] 50,
   .cells #[.int .i64 2, .int .i64 0, .slice (some ⟨n + 3, 0, none⟩) 2 2] 50,
   .cells #[.int .i64 2, .int .i64 1, .slice none 0 0, .int .i64 2, .int .i64 0, .slice (some ⟨n + 3, 0, none⟩) 2 2] 50,
   .cells #[.int .i64 2, .int .i64 0, .slice (some ⟨n + 5, 0, none⟩) 2 2] 50,
   .cells #[.int .i64 2, .int .i64 0, .slice (some ⟨n + 5, 0, none⟩) 2 2] 50]

theorem ex_isW (w : World) : IsX (allocs w (exL3 w.heap.size)) exW (some ⟨w.heap.size + 5, 0, none⟩) 2 2 := by
  have h1 := allocs_at (exL3 w.heap.size) w 3 _ rfl
  have h2 := allocs_at (exL3 w.heap.size) w 5 _ rfl
  refine ⟨rfl, Nat.le_refl _, by simp [maxLen], fun e => by simp at e, Or.inr ⟨_, 0, rfl, cell_at h2 rfl, cell_at h2 rfl, ⟨none, 0, cell_at h2 rfl, Nat.le_refl _, by simp [maxLen], fun _ => rfl, Or.inl rfl⟩, cell_at h2 rfl, cell_at h2 rfl, ⟨some ⟨w.heap.size + 3, 0, none⟩, 2, cell_at h2 rfl, Nat.le_refl _, by simp [maxLen], fun e => by simp at e, Or.inr ⟨_, 0, rfl, cell_at h1 rfl, cell_at h1 rfl, ⟨none, 0, cell_at h1 rfl, Nat.le_refl _, by simp [maxLen], fun _ => rfl, Or.inl rfl⟩, cell_at h1 rfl, cell_at h1 rfl, ⟨none, 0, cell_at h1 rfl, Nat.le_refl _, by simp [maxLen], fun _ => rfl, Or.inl rfl⟩, trivial⟩⟩, trivial⟩⟩

theorem ex_Sort (a3 : At3) (W : World) (p : Option Addr) (l cap : Nat) (h : IsP W exP a3) (h' : IsX W exA p l cap) :
    Calls Tryz.prog 32 #[.agg #[.slice a3.sp a3.sn a3.sc, .slice a3.fp a3.fn a3.fc, .slice a3.pp a3.pn a3.pc], .agg #[.int .i64 0, .int .i64 0, .slice p l cap]] W fun e w' =>
      ∃ q c, e = .returned (.tuple #[.agg #[.slice q 0 c], .int .i64 0]) ∧ Below W.heap.size W w' :=
  (sort_any exP a3 0 0 exA W p l cap h h' 0 .nil ex_sort).mono fun _ _ ⟨q, c, h1, _, h2⟩ => ⟨q, c, h1, h2⟩

end Go.Proofs.YtjkcopgfcafpeaaGreatDoor

/-
  The walks of Apply and of the statements' comparison of two results. Conditions: none but that the terms lie in memory.
-/
set_option linter.unusedSimpArgs false
set_option linter.unusedVariables false
namespace Go.Proofs.YtjkcopgfcafpeaaGreatDoor
open Go.RowKit

theorem eqX_refl (a : X) : X.eqX a a = true := by
  induction a with
  | nil => simp [X.eqX]
  | cons k n a r iha ihr => simp [X.eqX, iha, ihr]

theorem sm_refl (k n : Int) (a : X) (h : a.sz < 100000) : X.sm k n a k n a = true := by simp [X.sm, X.eq1, eqX_refl, h]

/-- what Apply returns: an error, and a term -/
def appRes (args : X) (k n : Int) (a : X) : Int × Int × Int × X := if 1 + a.sz + args.sz ≤ 100000 then (0, k, n, a.app args) else (3, 0, 0, .nil)

theorem appRes_sz {args a A : X} {k n E K Nn : Int} (h : appRes args k n a = (E, K, Nn, A)) : A.sz < 100000 := by
  unfold appRes at h
  split at h
  · obtain ⟨_, h⟩ := Prod.mk.inj h
    obtain ⟨_, h⟩ := Prod.mk.inj h
    obtain ⟨_, h⟩ := Prod.mk.inj h
    rw [← h, X.sz_app]; omega
  · obtain ⟨_, h⟩ := Prod.mk.inj h
    obtain ⟨_, h⟩ := Prod.mk.inj h
    obtain ⟨_, h⟩ := Prod.mk.inj h
    rw [← h]; decide

theorem sz_drop (a : X) (i : Nat) (h : i < a.len) : (a.drop i).sz = 1 + (a.ga i).sz + (a.drop (i + 1)).sz := by
  rw [X.drop_cons a i h]; rfl

/-- the two variables of Apply, in their blocks -/
def Vars2 (w : World) (x y : Obj) (W : World) : Prop := W.heap[w.heap.size]? = some x ∧ W.heap[w.heap.size + 1]? = some y ∧ Below w.heap.size w W

theorem Vars2.below {w W W' : World} {x y : Obj} (h : Vars2 w x y W) (hb : Below W.heap.size W W') : Vars2 w x y W' :=
  ⟨box3_later hb h.1, box3_later hb h.2.1, h.2.2.trans (hb.mono h.2.2.size)⟩

theorem Vars2.start (w : World) (x y : Obj) : Vars2 w x y ((w.alloc x).alloc y) :=
  ⟨alloc_kept (heap_new w x) y, heap_new2 w x y, ((Below.refl w.heap.size w).alloc (Nat.le_refl _) _).alloc (by simp) _⟩

end Go.Proofs.YtjkcopgfcafpeaaGreatDoor

