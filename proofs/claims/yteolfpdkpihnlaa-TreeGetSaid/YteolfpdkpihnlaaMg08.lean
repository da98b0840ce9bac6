/-
  Parts of one proof, laid into one text: TWalkD. Conditions: each part names its own.
-/
import Derived.Test.YteolfpdkpihnlaaMg07
import Derived.Deep.RegionHeld3

/-
  The walks of counting, Size, Same and what is built on them, the program's and the reference's. Conditions: none but that the terms lie in memory.
-/
set_option linter.unusedSimpArgs false
set_option linter.unusedVariables false
namespace Go.Proofs.Yteolfpdkpihnlaa
open Go.RowKit

theorem keeps3_grown {w wr : World} {bc c0 : Nat} {ty : TypeId} (h0 : w.heap[bc]? = some (.cells #[.int .i64 (c0 : Int)] ty (0, 0))) (h : w.grownBy wr (some bc)) : Keeps3 w wr := by
  rintro b ⟨o, p, n, cap, hc⟩ o' v hv
  have hlt := lt_of_cell hc
  have hne : b ≠ bc := by
    rintro rfl
    unfold World.cell? at hc
    simp only [h0] at hc
    cases o <;> simp at hc
  rw [World.cell?_of_block (w := w) (h.block b hlt (fun e => hne (by injection e)))]
  exact hv

theorem grown_trans {a b c : World} {r : Option Nat} (h : a.grownBy b r) (k : b.grownBy c r) : a.grownBy c r :=
  ⟨k.os.trans h.os, k.tape.trans h.tape, k.output.trans h.output, Nat.le_trans h.size k.size, fun i hi hn => (k.block i (Nat.lt_of_lt_of_le hi h.size) hn).trans (h.block i hi hn)⟩

theorem grown_below {w wr : World} {bc B : Nat} (hB : B ≤ w.heap.size) (hb : B ≤ bc) (h : w.grownBy wr (some bc)) : Below B w wr :=
  ⟨h.os, h.tape, h.output, h.size, fun k hk => h.block k (by omega) (fun e => by injection e; omega)⟩

theorem below_grown {w wr : World} {bc : Nat} (h : Below w.heap.size w wr) : w.grownBy wr (some bc) :=
  ⟨h.os, h.tape, h.output, h.size, fun k hk _ => h.block k hk⟩

/-- what counting does at a term -/
def cf (c : Nat) (_ _ : Int) (_ : X) : Nat × Bool := (c + 1, decide (c + 1 ≤ 100000))

/-- how counting ends -/
def cres (c m : Nat) : Nat × Bool := if c + m ≤ 100000 then (c + m, true) else (100001, false)

theorem cres_yes {c m : Nat} (h : c + m ≤ 100000) : cres c m = (c + m, true) := if_pos h
theorem cres_no {c m : Nat} (h : ¬ c + m ≤ 100000) : cres c m = (100001, false) := if_neg h
theorem cres_congr {c m c' m' : Nat} (h : c + m = c' + m') : cres c m = cres c' m' := by
  by_cases h1 : c + m ≤ 100000
  · rw [cres_yes h1, cres_yes (by omega), h]
  · rw [cres_no h1, cres_no (by omega)]
theorem cres_fst {c m : Nat} (h : c ≤ 100001) : (cres c m).1 = min (c + m) 100001 := by
  by_cases h1 : c + m ≤ 100000
  · rw [cres_yes h1]; show c + m = _; omega
  · rw [cres_no h1]; show 100001 = _; omega

theorem walk_cf (t : X) : ∀ c, c ≤ 100000 → X.walk cf c t = cres c t.sz := by
  induction t with
  | nil => intro c hc; rw [cres_yes (by simpa [X.sz] using hc)]; rfl
  | cons k n a r iha ihr =>
    intro c hc
    by_cases h1 : c + 1 ≤ 100000
    · have e1 : cf c k n a = (c + 1, true) := by unfold cf; rw [decide_eq_true h1]
      have e2 : X.walk1 cf c k n a = cres (c + 1) a.sz := by rw [X.walk1_true e1, iha _ h1]
      by_cases h2 : c + 1 + a.sz ≤ 100000
      · rw [cres_yes h2] at e2
        rw [X.walk_true r e2, ihr _ h2]
        exact cres_congr (by simp only [X.sz]; omega)
      · rw [cres_no h2] at e2
        rw [X.walk_false r e2, cres_no (by simp only [X.sz]; omega)]
    · have e1 : cf c k n a = (c + 1, false) := by unfold cf; rw [decide_eq_false h1]
      rw [X.walk_false r (X.walk1_false e1), cres_no (by simp only [X.sz]; omega), show c + 1 = 100001 by omega]

theorem walk1_cf (c : Nat) (k n : Int) (a : X) (hc : c ≤ 100000) : X.walk1 cf c k n a = cres c (1 + a.sz) := by
  rw [← X.walk_one, walk_cf _ _ hc]
  exact cres_congr (by simp only [X.sz]; omega)

end Go.Proofs.Yteolfpdkpihnlaa

