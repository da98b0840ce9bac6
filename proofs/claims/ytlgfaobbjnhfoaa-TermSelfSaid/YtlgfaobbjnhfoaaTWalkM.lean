/-
  The walks of valid, Check, head and rest. Conditions: none but that the place and the term lie in memory.
-/
import Derived.Test.YtlgfaobbjnhfoaaTWalkL
import Derived.Test.YtlgfaobbjnhfoaaTMem3
import Derived.Test.YtlgfaobbjnhfoaaTWalkH
import Derived.Test.YtlgfaobbjnhfoaaWalkG
import Derived.Deep.OwnRows
set_option linter.unusedSimpArgs false
set_option linter.unusedVariables false
namespace Go.Proofs.Ytlgfaobbjnhfoaa
open Go.RowKit

/-- are all sorts of a list valid? -/
def allV : T → Bool
  | .nil => true
  | .cons h t => h.valid && allV t

theorem allV_drop (t : T) (i : Nat) (h : i < t.len) : allV (t.drop i) = ((t.get i).valid && allV (t.drop (i + 1))) := by
  rw [T.drop_cons t i h]; rfl

theorem allV_at {t : T} : ∀ {i : Nat}, allV t = true → i < t.len → (t.get i).valid = true := by
  induction t with
  | nil => intro _ _ h; exact absurd h (Nat.not_lt_zero _)
  | cons h r ihh ihr =>
    intro i hv hi
    simp only [allV, Bool.and_eq_true] at hv
    cases i with
    | zero => exact hv.1
    | succ i => exact ihr hv.2 (by simp only [T.len] at hi; omega)

def validL (t : T) (m : Nat) : Bool := decide (t.len ≤ m) && allV t

set_option maxRecDepth 100000 in
set_option maxHeartbeats 800000 in
theorem valid_any (t : T) (m : Nat) (w : World) (p : Option Addr) (n cap : Nat) (his : IsT w t p n cap) (hm : m ≤ 100) :
    Calls Try.prog 44 #[.slice p n cap, .int .i64 (m : Int)] w fun e w' => e = .returned (.bool (validL t m)) ∧ Below w.heap.size w w' := by
  obtain ⟨hn, hcap, hmax, hnil, hrow⟩ := his
  subst hn
  unfold maxLen at hmax
  by_cases h24 : t.len ≤ m
  · have e1 : validL t m = allV t := by unfold validL; rw [decide_eq_true h24]; rfl
    rw [e1]
    clear e1
    have hd : decide (m < t.len) = false := by simp; omega
    go_enter Try.func44, Try.ntmps44
    go_wp2_with fail
    go_loopw [13] (fun i wr => ∃ j : Nat, j ≤ t.len ∧ i = .int .i64 (j : Int) ∧ allV (t.drop j) = allV t ∧ Below w.heap.size w wr)
      (fun i _ => t.len - (intOf i).toNat)
    case atStart => exact ⟨0, Nat.zero_le _, rfl, by rw [T.drop_zero], Below.refl _ _⟩
    case round =>
      obtain ⟨j, hj, rfl, hmo, hb⟩ := hrel
      have HM := Lib.hid hmo
      clear hmo
      by_cases hlt : j < t.len
      · rcases hrow with h0 | ⟨b, off, rfl, hr⟩
        · omega
        obtain ⟨p', n', cap', hc, hi⟩ := base_at (Keeps.below hb) hr hlt
        have hst := allV_drop t j hlt
        rw [HM.out] at hst
        cases hv : (t.get j).valid with
        | true =>
          rw [hv] at hst
          have HS := Lib.hid hst
          clear hst
          go_wp2_with fail
          refine (check_yes (t.get j) _ p' n' cap' (hi.alloc _) hv).mono ?_
          rintro e w1 ⟨rfl, hb1⟩
          go_wp2_with fail
          go_roundw
          case rel => exact ⟨j + 1, by omega, by go_num, by rw [HS.out]; simp, base_next hb hb1⟩
          case measure => simp [intOf]; omega
        | false =>
          rw [hv] at hst
          have HS := Lib.hid hst
          clear hst
          go_wp2_with fail
          refine (check_no (t.get j) _ p' n' cap' (hi.alloc _) hv).mono ?_
          rintro e w1 ⟨rfl, hb1⟩
          go_wp2_with fail
          go_ret
          exact ⟨ret_bool (by rw [HS.out]; rfl), base_next hb hb1⟩
      · go_wp2_with fail
        go_ret
        exact ⟨ret_bool (by rw [← HM.out, T.drop_end t j (by omega)]; rfl), hb⟩
  · have e1 : validL t m = false := by unfold validL; rw [decide_eq_false h24]; rfl
    rw [e1]
    clear e1
    have hd : decide ((m : Int) < (t.len : Int)) = true := by simp; omega
    go_enter Try.func44, Try.ntmps44
    go_wp2_with fail
    go_ret
    exact ⟨rfl, Below.refl _ _⟩

/-- a place -/
structure Pl where
  S : Sy
  F : T
  P : T

def plOk (x : Pl) : Bool := symsOk x.S && validL x.F 64 && validL x.P 8

/-- where a place lies: its three slice values -/
structure At3 where
  sp : Option Addr
  sn : Nat
  sc : Nat
  fp : Option Addr
  fn : Nat
  fc : Nat
  pp : Option Addr
  pn : Nat
  pc : Nat

def At3.val (a : At3) : Value := .agg #[.slice a.sp a.sn a.sc, .slice a.fp a.fn a.fc, .slice a.pp a.pn a.pc]

def At3.box (a : At3) (ty : TypeId) : Obj := .cells #[.slice a.sp a.sn a.sc, .slice a.fp a.fn a.fc, .slice a.pp a.pn a.pc] ty

def IsP (w : World) (x : Pl) (a : At3) : Prop := IsS w x.S a.sp a.sn a.sc ∧ IsT w x.F a.fp a.fn a.fc ∧ IsT w x.P a.pp a.pn a.pc

theorem IsP.below {w w' : World} (hb : Below w.heap.size w w') {x : Pl} {a : At3} (h : IsP w x a) : IsP w' x a := ⟨h.1.below hb, h.2.1.below hb, h.2.2.below hb⟩

theorem IsP.alloc {w : World} {x : Pl} {a : At3} (h : IsP w x a) (o : Obj) : IsP (w.alloc o) x a := h.below ((Below.refl _ _).alloc (Nat.le_refl _) _)

theorem boxP_cells {W : World} {b : Nat} {a : At3} {ty : TypeId} (h : W.heap[b]? = some (a.box ty)) :
    W.cell? ⟨b, 0, none⟩ = some (.slice a.sp a.sn a.sc) ∧ W.cell? ⟨b, 1, none⟩ = some (.slice a.fp a.fn a.fc) ∧ W.cell? ⟨b, 2, none⟩ = some (.slice a.pp a.pn a.pc) := by
  unfold At3.box at h
  refine ⟨?_, ?_, ?_⟩ <;> simp [World.cell?, h]

def plE (x : Pl) : Int := if plOk x then 0 else 2

set_option maxRecDepth 100000 in
set_option maxHeartbeats 800000 in
theorem tcheck_any (x : Pl) (a : At3) (w : World) (h : IsP w x a) :
    Calls Try.prog 14 #[.agg #[.slice a.sp a.sn a.sc, .slice a.fp a.fn a.fc, .slice a.pp a.pn a.pc]] w fun e w' => e = .returned (.int .i64 (plE x)) ∧ Below w.heap.size w w' := by
  obtain ⟨h1, h2, h3⟩ := h
  go_enter Try.func14, Try.ntmps14
  go_wp2_with fail
  refine (symbols_any x.S _ _ _ _ (h1.alloc _)).mono ?_
  rintro e w1 ⟨rfl, hb1⟩
  obtain ⟨y1, y2, y3⟩ := boxP_cells (a := a) (box3_later hb1 (heap_new w (a.box 28)))
  have b1 := below_call hb1
  have i2 := (h2.alloc _).below hb1
  have i3 := (h3.alloc _).below hb1
  clear hb1
  cases hs : symsOk x.S with
  | false =>
    have e1 : plE x = 2 := by unfold plE plOk; rw [hs]; rfl
    go_wp2_with fail
    go_ret
    exact ⟨ret_int e1.symm, b1⟩
  | true =>
    go_wp2_with fail
    refine (valid_any x.F 64 _ _ _ _ i2 (by omega)).mono ?_
    rintro e w2 ⟨rfl, hb2⟩
    have y4 := ((bcell hb2).1 _ _ (lt_of_cell y3)).trans y3
    have b2 := b1.trans (hb2.mono b1.size)
    have i4 := i3.below hb2
    clear hb2
    cases hf : validL x.F 64 with
    | false =>
      have e1 : plE x = 2 := by unfold plE plOk; rw [hs, hf]; rfl
      go_wp2_with fail
      go_ret
      exact ⟨ret_int e1.symm, b2⟩
    | true =>
      go_wp2_with fail
      refine (valid_any x.P 8 _ _ _ _ i4 (by omega)).mono ?_
      rintro e w3 ⟨rfl, hb3⟩
      have b3 := b2.trans (hb3.mono b2.size)
      cases hp : validL x.P 8 with
      | false =>
        have e1 : plE x = 2 := by unfold plE plOk; rw [hs, hf, hp]; rfl
        go_wp2_with fail
        go_ret
        exact ⟨ret_int e1.symm, b3⟩
      | true =>
        have e1 : plE x = 0 := by unfold plE plOk; rw [hs, hf, hp]; rfl
        go_wp2_with fail
        go_ret
        exact ⟨ret_int e1.symm, b3⟩

end Go.Proofs.Ytlgfaobbjnhfoaa
