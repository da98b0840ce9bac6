/-
  Parts of one proof, laid into one text: TWalkD. Conditions: each part names its own.
-/
import Derived.Test.YtjkcopgfcafpeaaGreatDoorMg07
import Derived.Deep.RegionHeld3

/-
  The walks of counting, Size, Same and what is built on them, the program's and the reference's. Conditions: none but that the terms lie in memory.
-/
set_option linter.unusedSimpArgs false
set_option linter.unusedVariables false
namespace Go.Proofs.YtjkcopgfcafpeaaGreatDoor
open Go.RowKit

theorem keeps3_grown {w wr : World} {bc c0 : Nat} {ty : TypeId} (h0 : w.heap[bc]? = some (.cells #[.int .i64 (c0 : Int)] ty (0, 0))) (h : w.grownBy wr (some bc)) : Keeps3 w wr := by
  rintro b ⟨o, p, n, cap, hc⟩ o' v hv
  have hlt := lt_of_cell hc
  have hne : b ≠ bc := by
    rintro rfl
    unfold World.cell? at hc
    simp only [h0] at hc
    cases o <;> simp at hc
  rw [World.cell?_of_block (w := w) (h.block b hlt (fun e => hne (by injection e)))]
  exact hv

theorem grown_trans {a b c : World} {r : Option Nat} (h : a.grownBy b r) (k : b.grownBy c r) : a.grownBy c r :=
  ⟨k.os.trans h.os, k.tape.trans h.tape, k.output.trans h.output, Nat.le_trans h.size k.size, fun i hi hn => (k.block i (Nat.lt_of_lt_of_le hi h.size) hn).trans (h.block i hi hn)⟩

theorem grown_below {w wr : World} {bc B : Nat} (hB : B ≤ w.heap.size) (hb : B ≤ bc) (h : w.grownBy wr (some bc)) : Below B w wr :=
  ⟨h.os, h.tape, h.output, h.size, fun k hk => h.block k (by omega) (fun e => by injection e; omega)⟩

theorem below_grown {w wr : World} {bc : Nat} (h : Below w.heap.size w wr) : w.grownBy wr (some bc) :=
  ⟨h.os, h.tape, h.output, h.size, fun k hk _ => h.block k hk⟩

/-- what counting does at a term -/
def cf (c : Nat) (_ _ : Int) (_ : X) : Nat × Bool := (c + 1, decide (c + 1 ≤ 100000))

/-- how counting ends -/
def cres (c m : Nat) : Nat × Bool := if c + m ≤ 100000 then (c + m, true) else (100001, false)

theorem cres_yes {c m : Nat} (h : c + m ≤ 100000) : cres c m = (c + m, true) := if_pos h
theorem cres_no {c m : Nat} (h : ¬ c + m ≤ 100000) : cres c m = (100001, false) := if_neg h
theorem cres_congr {c m c' m' : Nat} (h : c + m = c' + m') : cres c m = cres c' m' := by
  by_cases h1 : c + m ≤ 100000
  · rw [cres_yes h1, cres_yes (by omega), h]
  · rw [cres_no h1, cres_no (by omega)]
theorem cres_fst {c m : Nat} (h : c ≤ 100001) : (cres c m).1 = min (c + m) 100001 := by
  by_cases h1 : c + m ≤ 100000
  · rw [cres_yes h1]; show c + m = _; omega
  · rw [cres_no h1]; show 100001 = _; omega

theorem walk_cf (t : X) : ∀ c, c ≤ 100000 → X.walk cf c t = cres c t.sz := by
  induction t with
  | nil => intro c hc; rw [cres_yes (by simpa [X.sz] using hc)]; rfl
  | cons k n a r iha ihr =>
    intro c hc
    by_cases h1 : c + 1 ≤ 100000
    · have e1 : cf c k n a = (c + 1, true) := by unfold cf; rw [decide_eq_true h1]
      have e2 : X.walk1 cf c k n a = cres (c + 1) a.sz := by rw [X.walk1_true e1, iha _ h1]
      by_cases h2 : c + 1 + a.sz ≤ 100000
      · rw [cres_yes h2] at e2
        rw [X.walk_true r e2, ihr _ h2]
        exact cres_congr (by simp only [X.sz]; omega)
      · rw [cres_no h2] at e2
        rw [X.walk_false r e2, cres_no (by simp only [X.sz]; omega)]
    · have e1 : cf c k n a = (c + 1, false) := by unfold cf; rw [decide_eq_false h1]
      rw [X.walk_false r (X.walk1_false e1), cres_no (by simp only [X.sz]; omega), show c + 1 = 100001 by omega]

theorem walk1_cf (c : Nat) (k n : Int) (a : X) (hc : c ≤ 100000) : X.walk1 cf c k n a = cres c (1 + a.sz) := by
  rw [← X.walk_one, walk_cf _ _ hc]
  exact cres_congr (by simp only [X.sz]; omega)

set_option maxHeartbeats 400000 in
theorem pred_tcount (w : World) (k n : Int) (p : Option Addr) (l cap bc c : Nat) (hc : w.heap[bc]? = some (.cells #[.int .i64 (c : Int)] 3 (0, 0))) (hc60 : c ≤ 100000) :
    Calls Tryz.prog 133 #[.agg #[.int .i64 k, .int .i64 n, .slice p l cap], .pointer (some ⟨bc, 0, none⟩)] w fun e w' => e = .returned (.bool (decide (c + 1 ≤ 100000))) ∧ Cnt w w' bc 3 (c + 1) := by
  have c1 := cell_of_one hc
  have c2 := free_of_one hc
  have c3 := lt_of_block hc
  go_enter Tryz.func133, Tryz.ntmps133
  go_wp2_with fail
  go_ret
  have hw := Cnt.write (d := c + 1) hc
  exact ⟨ret_bool (by simp; omega), hw.trans (Cnt.start hw.2 _)⟩

theorem fits_count (bc : Nat) : Fits (fun v w Q => Calls Tryz.prog 133 #[v, .pointer (some ⟨bc, 0, none⟩)] w Q) cf (· ≤ 100000)
    (fun c w => w.heap[bc]? = some (.cells #[.int .i64 (c : Int)] 3 (0, 0))) (fun w w' => w.grownBy w' (some bc)) (fun _ _ _ => True) where
  run := fun s k n a w p l cap hL hI _ _ => (pred_tcount w k n p l cap bc s hI hL).mono fun _ _ h => ⟨h.1, h.2.2, h.2.1⟩
  live := fun s k n a _ h => by simpa [cf] using h
  trans := fun _ _ _ h k => grown_trans h k
  alloc := fun s w o h => ⟨(Cnt.start h o).2, (Cnt.start h o).1⟩
  keeps := fun s w w' h k => keeps3_grown h k

set_option maxHeartbeats 400000 in
theorem count_any (a : X) (k n : Int) (w : World) (p : Option Addr) (l cap : Nat) (his : IsX w a p l cap) :
    Calls Tryz.prog 108 #[.agg #[.int .i64 k, .int .i64 n, .slice p l cap]] w fun e w' => e = .returned (.int .i64 ((min (1 + a.sz) 100001 : Nat) : Int)) ∧ Below w.heap.size w w' := by
  have hc := fun W h1 h2 => all_count1 (fits_count (w.heap.size + 1)) (a.sz + 1) a 0 k n W p l cap (Nat.lt_succ_self _) (Nat.zero_le _) h1 trivial (X.AllX.triv (fun _ _ _ => trivial) a) h2
  rw [walk1_cf 0 k n a (Nat.zero_le _)] at hc
  have HC := Lib.hid hc
  clear hc
  go_enter Tryz.func108, Tryz.ntmps108
  go_wp2_with fail
  refine (HC.out _ (heap_new2 _ _ _) ((his.alloc _).alloc _)).mono ?_
  rintro e w1 ⟨rfl, hI, hb1⟩
  have c1 := cell_of_one hI
  go_wp2_with fail
  go_ret
  exact ⟨ret_int (by rw [cres_fst (by omega), Nat.zero_add]), (((Below.refl w.heap.size w).alloc (Nat.le_refl _) _).alloc (by simp) _).trans (grown_below (by simp; omega) (by omega) hb1)⟩

set_option maxHeartbeats 400000 in
theorem tsmall_any (a : X) (k n : Int) (w : World) (p : Option Addr) (l cap : Nat) (his : IsX w a p l cap) :
    Calls Tryz.prog 68 #[.agg #[.int .i64 k, .int .i64 n, .slice p l cap]] w fun e w' => e = .returned (.bool (decide (a.sz < 100000))) ∧ Below w.heap.size w w' := by
  go_enter Tryz.func68, Tryz.ntmps68
  go_wp2_with fail
  refine (count_any a k n _ p l cap (his.alloc _)).mono ?_
  rintro e w1 ⟨rfl, hb1⟩
  go_wp2_with fail
  go_ret
  exact ⟨ret_bool (by first | (simp; omega) | (rw [Bool.eq_iff_iff]; simp; omega)), below_call hb1⟩

end Go.Proofs.YtjkcopgfcafpeaaGreatDoor

