/-
  Parts of one proof, laid into one text: EWalkD, EWalkE, EWalkF. Conditions: each part names its own.
-/
import Derived.Test.YteolfpdkpihnlaaMg07
import Derived.Test.YteolfpdkpihnlaaMg05
import Derived.BigQuiet
import Derived.Deep.QuietTactic

/-
  The walks of Size and Same, the program's and the reference's. Conditions: none but that the trees lie in memory.
-/
set_option linter.unusedSimpArgs false
set_option linter.unusedVariables false
namespace Go.Proofs.Yteolfpdkpihnlaa
open Go.RowKit

/-- from w to w' two blocks alone have turned -/
structure Gr2 (a b : Nat) (w w' : World) : Prop where
  os : w'.os = w.os
  tape : w'.tape = w.tape
  output : w'.output = w.output
  size : w.heap.size ≤ w'.heap.size
  block : ∀ i, i < w.heap.size → i ≠ a → i ≠ b → w'.heap[i]? = w.heap[i]?

theorem Gr2.refl (a b : Nat) (w : World) : Gr2 a b w w := ⟨rfl, rfl, rfl, Nat.le_refl _, fun _ _ _ _ => rfl⟩

theorem Gr2.trans {a b : Nat} {u v w : World} (h : Gr2 a b u v) (k : Gr2 a b v w) : Gr2 a b u w :=
  ⟨k.os.trans h.os, k.tape.trans h.tape, k.output.trans h.output, Nat.le_trans h.size k.size, fun i hi ha hb => (k.block i (Nat.lt_of_lt_of_le hi h.size) ha hb).trans (h.block i hi ha hb)⟩

theorem Gr2.alloc (a b : Nat) (w : World) (o : Obj) : Gr2 a b w (w.alloc o) :=
  ⟨rfl, rfl, rfl, by simp, fun i hi _ _ => Below.heap_alloc w o i hi⟩

theorem Gr2.seta (a b o : Nat) (w : World) (u : Value) : Gr2 a b w (w.setCell ⟨a, o, none⟩ u) :=
  ⟨rfl, rfl, rfl, by simp [World.setCell], fun i _ ha _ => Below.heap_setCell _ _ _ _ ha⟩

theorem Gr2.setb (a b o : Nat) (w : World) (u : Value) : Gr2 a b w (w.setCell ⟨b, o, none⟩ u) :=
  ⟨rfl, rfl, rfl, by simp [World.setCell], fun i _ _ hb => Below.heap_setCell _ _ _ _ hb⟩

theorem Gr2.below {a b B : Nat} {w w' : World} (h : Gr2 a b w w') (hw : B ≤ w.heap.size) (ha : B ≤ a) (hb : B ≤ b) : Below B w w' :=
  ⟨h.os, h.tape, h.output, h.size, fun i hi => h.block i (by omega) (by omega) (by omega)⟩

/-- what the counter's two boxes hold -/
def IBox (a b : Nat) (s : Nat × Nat) (w : World) : Prop :=
  a ≠ b ∧ w.heap[a]? = some (.cells #[.int .i64 (s.1 : Int)] 3 (0, 0)) ∧ w.heap[b]? = some (.cells #[.int .i64 (s.2 : Int)] 3 (0, 0))

theorem IBox.cell {w : World} {b : Nat} {v : Value} {ty : TypeId} (h : w.heap[b]? = some (.cells #[v] ty (0, 0))) {o : Nat} {p : Option Addr} {n c : Nat} (hv : ∀ p n c, v ≠ .slice p n c) (hc : w.cell? ⟨b, o, none⟩ = some (.slice p n c)) : False := by
  unfold World.cell? at hc
  simp only [h] at hc
  cases o with
  | zero => simp at hc; exact hv _ _ _ hc
  | succ o => simp at hc

theorem keeps_gr2 {a b : Nat} {s : Nat × Nat} {w w' : World} (h : IBox a b s w) (hg : Gr2 a b w w') : Keeps2 w w' := by
  rintro i ⟨o, p, n, c, hc⟩ o' v hv
  have hlt := lt_of_cell hc
  have h1 : i ≠ a := by rintro rfl; exact IBox.cell h.2.1 (by intros; simp) hc
  have h2 : i ≠ b := by rintro rfl; exact IBox.cell h.2.2 (by intros; simp) hc
  rw [World.cell?_of_block (w := w) (hg.block i hlt h1 h2)]
  exact hv

theorem IBox.put {a b : Nat} {s : Nat × Nat} {w : World} (h : IBox a b s w) {x y : Int} {c d : Nat} (hx : x = (c : Int)) (hy : y = (d : Int)) (o : Obj) :
    IBox a b (c, d) (((w.setCell ⟨a, 0, none⟩ (.int .i64 x)).setCell ⟨b, 0, none⟩ (.int .i64 y)).alloc o) ∧ Gr2 a b w (((w.setCell ⟨a, 0, none⟩ (.int .i64 x)).setCell ⟨b, 0, none⟩ (.int .i64 y)).alloc o) := by
  subst hx hy
  obtain ⟨hab, h1, h2⟩ := h
  have k1 := heap_setCell_same w a 0 #[.int .i64 (s.1 : Int)] 3 (.int .i64 (c : Int)) h1
  have k2 : (w.setCell ⟨a, 0, none⟩ (.int .i64 (c : Int))).heap[b]? = some (.cells #[.int .i64 (s.2 : Int)] 3 (0, 0)) := (Below.heap_setCell _ _ _ _ (fun e => hab e.symm)).trans h2
  have k3 := heap_setCell_same _ b 0 #[.int .i64 (s.2 : Int)] 3 (.int .i64 (d : Int)) k2
  have k4 : ((w.setCell ⟨a, 0, none⟩ (.int .i64 (c : Int))).setCell ⟨b, 0, none⟩ (.int .i64 (d : Int))).heap[a]? = some (.cells #[.int .i64 (c : Int)] 3 (0, 0)) := (Below.heap_setCell _ _ _ _ hab).trans (by simpa using k1)
  exact ⟨⟨hab, alloc_kept k4 _, alloc_kept (by simpa using k3) _⟩, ((Gr2.seta a b 0 w _).trans (Gr2.setb a b 0 _ _)).trans (Gr2.alloc a b _ _)⟩

set_option maxHeartbeats 400000 in
theorem pred_esize (w : World) (n : Int) (p : Option Addr) (l cap a b : Nat) (s : Nat × Nat) (lv : Nat) (hlv : lv ≤ 1000000) (hs : s.1 ≤ 20000) (h : IBox a b s w) :
    Calls Try.prog 47 #[.agg #[.int .i64 n, .slice p l cap], .int .i64 (lv : Int), .pointer (some ⟨a, 0, none⟩), .pointer (some ⟨b, 0, none⟩)] w fun e w' => e = .returned (.bool (decide (s.1 + 1 ≤ 20000))) ∧ IBox a b (s.1 + 1, max s.2 lv) w' ∧ Gr2 a b w w' := by
  have H := Lib.hid h
  obtain ⟨hab, h1, h2⟩ := h
  have c1 := cell_of_one h1
  have c2 := free_of_one h1
  have c3 := lt_of_block h1
  have d1 := cell_of_one h2
  have d2 := free_of_one h2
  have d3 := lt_of_block h2
  have hba : b ≠ a := fun e => hab e.symm
  clear h1 h2
  go_enter Try.func47, Try.ntmps47
  go_wp2_with fail
  all_goals
    go_ret
    exact ⟨ret_bool (by simp; omega), H.out.put (by omega) (by omega) _⟩

theorem fits_size (a b : Nat) : FitsE (fun v lv w Q => Calls Try.prog 47 #[v, lv, .pointer (some ⟨a, 0, none⟩), .pointer (some ⟨b, 0, none⟩)] w Q) sfE (fun s lv => s.1 ≤ 20000 ∧ lv ≤ s.1 + 1) (IBox a b) (Gr2 a b) where
  run := fun s lv n a' w p l cap hL hI _ => (pred_esize w n p l cap a b s lv (by omega) hL.1 hI).mono fun _ _ h => ⟨h.1, h.2.1, h.2.2⟩
  live := fun s lv n a' hL h => by
    simp only [sfE, decide_eq_true_eq] at h ⊢
    omega
  down := fun s lv h => ⟨h.1, by omega⟩
  small := fun s lv h => by omega
  trans := fun _ _ _ h k => h.trans k
  alloc := fun s w o h => ⟨⟨h.1, alloc_kept h.2.1 o, alloc_kept h.2.2 o⟩, Gr2.alloc a b w o⟩
  keeps := fun s w w' h k => keeps_gr2 h k

theorem below3 (w : World) (x y z : Obj) : Below w.heap.size w (((w.alloc x).alloc y).alloc z) :=
  (((Below.refl _ _).alloc (Nat.le_refl _) _).alloc (by simp) _).alloc (by simp; omega) _

theorem heap_new3 (w : World) (x y z : Obj) : (((w.alloc x).alloc y).alloc z).heap[w.heap.size + 2]? = some z := by
  have h := heap_new ((w.alloc x).alloc y) z
  simpa using h

/-- what Size returns -/
def Y.szN (a : Y) : Int := if a.sz < 20000 then 1 + (a.sz : Int) else 20001
def Y.szD (a : Y) : Int := if a.sz < 20000 then (a.dep : Int) + 1 else 0

set_option maxHeartbeats 400000 in
theorem esize_any (a : Y) (n : Int) (w : World) (p : Option Addr) (l cap : Nat) (his : IsY w a p l cap) :
    Calls Try.prog 18 #[.agg #[.int .i64 n, .slice p l cap]] w fun e w' => e = .returned (.tuple #[.int .i64 a.szN, .int .i64 a.szD]) ∧ Below w.heap.size w w' := by
  obtain ⟨hw1, hw2⟩ := walk1_sf n a
  have hc := fun W h1 h2 => all_size1 (fits_size (w.heap.size + 1) (w.heap.size + 1 + 1)) (a.sz + 1) a (0, 0) 1 1 n W p l cap rfl (Nat.lt_succ_self _) ⟨Nat.zero_le _, by omega⟩ h1 h2
  have HC := Lib.hid hc
  have HW1 := Lib.hid hw1
  have HW2 := Lib.hid hw2
  clear hc hw1 hw2
  go_enter Try.func18, Try.ntmps18
  go_wp2_with fail
  refine (HC.out _ ⟨by omega, alloc_kept (heap_new2 _ _ _) _, heap_new3 _ _ _ _⟩ (((his.alloc _).alloc _).alloc _)).mono ?_
  rintro e w1 ⟨rfl, hI, hg⟩
  have hI' := Lib.hid hI
  have hG := Lib.hid hg
  obtain ⟨hab, h1, h2⟩ := hI
  have c1 := cell_of_one h1
  have c2 := free_of_one h1
  have c3 := lt_of_block h1
  have d1 := cell_of_one h2
  have d2 := free_of_one h2
  have d3 := lt_of_block h2
  clear h1 h2 hg hab
  by_cases hs : a.sz < 20000
  · have hb : (Y.walk1 sfE (0, 0) 1 n a).2 = true := by rw [HW1.out]; simpa using hs
    have hr := HW2.out hs
    have e1 : a.szN = ((a.sz + 1 : Nat) : Int) := by unfold Y.szN; rw [if_pos hs]; omega
    have e2 : a.szD = ((a.dep + 1 : Nat) : Int) := by unfold Y.szD; rw [if_pos hs]; omega
    rw [hr] at c1 d1
    rw [hb]
    have hB := (below3 w _ _ _).trans (hG.out.below (B := w.heap.size) (by simp only [World.size_alloc]; omega) (by omega) (by omega))
    have E1 := Lib.hid e1
    have E2 := Lib.hid e2
    clear HC HW1 HW2 hI' hG e1 e2 hr hb hs
    dsimp only at c1 d1
    go_wp2_with fail
    go_region
    all_goals (try go_wp2_with fail)
    all_goals refine bodyPost_ret (v := .tuple #[.int .i64 ((a.sz + 1 : Nat) : Int), .int .i64 ((a.dep + 1 : Nat) : Int)]) (by simp [results, Try.results18, go_sem, c1, c2, c3, d1, d2, d3]) rfl ?_
    all_goals exact ⟨by rw [E1.out, E2.out], ((hB.setCell (by simp only; omega) _).setCell (by simp only; omega) _).drew⟩
  · have hb : (Y.walk1 sfE (0, 0) 1 n a).2 = false := by rw [HW1.out]; simpa using hs
    have e1 : a.szN = 20001 := by unfold Y.szN; rw [if_neg hs]
    have e2 : a.szD = 0 := by unfold Y.szD; rw [if_neg hs]
    rw [hb]
    have hB := (below3 w _ _ _).trans (hG.out.below (B := w.heap.size) (by simp only [World.size_alloc]; omega) (by omega) (by omega))
    have E1 := Lib.hid e1
    have E2 := Lib.hid e2
    clear HC HW1 HW2 hI' hG e1 e2 hb hs
    go_wp2_with fail
    all_goals refine bodyPost_ret (v := .tuple #[.int .i64 20001, .int .i64 0]) (by simp [results, Try.results18, go_sem, c1, c2, c3, d1, d2, d3]) rfl ?_
    all_goals exact ⟨by rw [E1.out, E2.out], (hB.setCell (by simp only; omega) _).setCell (by simp only; omega) _⟩

set_option maxHeartbeats 400000 in
theorem esmall_any (a : Y) (n : Int) (w : World) (p : Option Addr) (l cap : Nat) (his : IsY w a p l cap) :
    Calls Try.prog 54 #[.agg #[.int .i64 n, .slice p l cap]] w fun e w' => e = .returned (.bool (decide (a.sz < 20000))) ∧ Below w.heap.size w w' := by
  have hz : decide (a.szN ≤ 20000) = decide (a.sz < 20000) := by
    unfold Y.szN
    congr 1
    rw [eq_iff_iff]
    split <;> omega
  have HZ := Lib.hid hz
  clear hz
  go_enter Try.func54, Try.ntmps54
  go_wp2_with fail
  refine (esize_any a n _ p l cap (his.alloc _)).mono ?_
  rintro e w1 ⟨rfl, hb1⟩
  go_wp2_with fail
  go_ret
  exact ⟨ret_bool HZ.out, below_call hb1⟩

set_option maxHeartbeats 400000 in
theorem erefsize_any (a : Y) (n : Int) (w : World) (p : Option Addr) (l cap : Nat) (his : IsY w a p l cap) :
    Calls Try.prog 19 #[.agg #[.int .i64 n, .slice p l cap]] w fun e w' => e = .returned (.tuple #[.int .i64 a.szN, .int .i64 a.szD]) ∧ Below w.heap.size w w' := by
  have hC := fun W h => enodes_any (a.sz + 1) a n W p l cap 20000 (Nat.lt_succ_self _) (by omega) (by omega) h
  by_cases h : a.sz < 20000
  · have e1 : a.szN = 1 + (a.sz : Int) := if_pos h
    have e2 : a.szD = (a.dep : Int) + 1 := if_pos h
    have hm : min (1 + a.sz) ((20000 : Int).toNat + 1) = 1 + a.sz := by omega
    rw [hm] at hC
    rw [e1, e2]
    have HC := Lib.hid hC
    clear e1 e2 hm hC
    go_enter Try.func19, Try.ntmps19
    go_wp2_with fail
    refine (HC.out _ (his.alloc _)).mono ?_
    rintro e w1 ⟨rfl, hb1⟩
    have hi1 := (his.alloc _).below hb1
    have hc2 : w1.cell? ⟨w.heap.size, 0, none⟩ = some (.int .i64 n) := by rw [(bcell hb1).1 _ _ (by simp)]; simp
    have hc3 : w1.cell? ⟨w.heap.size, 1, none⟩ = some (.slice p l cap) := by rw [(bcell hb1).1 _ _ (by simp)]; simp
    go_wp2_with fail
    refine (edepth_any (a.sz + 1) a n _ p l cap (Nat.lt_succ_self _) (by omega) hi1).mono ?_
    rintro e w2 ⟨rfl, hb2⟩
    go_wp2_with fail
    go_ret2
    exact ⟨rfl, (below_call hb1).trans (hb2.mono (below_call hb1).size)⟩
  · have e1 : a.szN = 20001 := if_neg h
    have e2 : a.szD = 0 := if_neg h
    have hm : ((min (1 + a.sz) ((20000 : Int).toNat + 1) : Nat) : Int) = 20001 := by omega
    rw [hm] at hC
    rw [e1, e2]
    have HC := Lib.hid hC
    clear e1 e2 hm hC
    go_enter Try.func19, Try.ntmps19
    go_wp2_with fail
    refine (HC.out _ (his.alloc _)).mono ?_
    rintro e w1 ⟨rfl, hb1⟩
    go_wp2_with fail
    go_ret2
    exact ⟨rfl, below_call hb1⟩

/-- what Same returns -/
def Y.sm (n : Int) (a : Y) (n' : Int) (a' : Y) : Bool := decide (a.sz < 20000) && decide (a'.sz < 20000) && Y.eq1 n a n' a'

theorem box2_later {W w1 : World} {b : Nat} {o : Obj} (hb : Below W.heap.size W w1) (h : W.heap[b]? = some o) : w1.heap[b]? = some o := by
  rw [hb.block b (lt_of_block h)]; exact h

theorem box2_cells {W : World} {b : Nat} {n : Int} {v : Value} (h : W.heap[b]? = some (.cells #[.int .i64 n, v] 25 (0, 0))) :
    W.cell? ⟨b, 0, none⟩ = some (.int .i64 n) ∧ W.cell? ⟨b, 1, none⟩ = some v := by
  refine ⟨?_, ?_⟩ <;> simp [World.cell?, h]

set_option maxHeartbeats 800000 in
theorem esame_any (a a' : Y) (n n' : Int) (w : World) (p p' : Option Addr) (l cap l' cap' : Nat) (his : IsY w a p l cap) (hit : IsY w a' p' l' cap') :
    Calls Try.prog 23 #[.agg #[.int .i64 n, .slice p l cap], .agg #[.int .i64 n', .slice p' l' cap']] w fun e w' => e = .returned (.bool (Y.sm n a n' a')) ∧ Below w.heap.size w w' := by
  obtain ⟨r, hr⟩ : ∃ r, Y.sm n a n' a' = r := ⟨_, rfl⟩
  rw [hr]
  have HR := Lib.hid hr
  clear hr
  have b0 : ∀ x y, Below w.heap.size w ((w.alloc x).alloc y) := fun x y => ((Below.refl _ _).alloc (Nat.le_refl _) _).alloc (by simp) _
  go_enter Try.func23, Try.ntmps23
  go_wp2_with fail
  refine (esmall_any a n _ p l cap ((his.alloc _).alloc _)).mono ?_
  rintro e w1 ⟨rfl, hb1⟩
  have i1 := ((hit.alloc _).alloc _).below hb1
  have j1 := ((his.alloc _).alloc _).below hb1
  obtain ⟨x1, x2⟩ := box2_cells (box2_later hb1 (heap_new2 w (.cells #[.int .i64 n, .slice p l cap] 25) (.cells #[.int .i64 n', .slice p' l' cap'] 25)))
  obtain ⟨y1, y2⟩ := box2_cells (box2_later hb1 (alloc_kept (heap_new w (.cells #[.int .i64 n, .slice p l cap] 25)) (.cells #[.int .i64 n', .slice p' l' cap'] 25)))
  have b1 := (b0 _ _).trans (hb1.mono (by simp; omega))
  have hz1 := hb1.size
  simp only [World.size_alloc] at hz1
  clear hb1
  by_cases h1 : a.sz < 20000
  · have hd1 : decide (a.sz < 20000) = true := by simpa using h1
    go_wp2_with fail
    refine (esmall_any a' n' _ p' l' cap' i1).mono ?_
    rintro e w2 ⟨rfl, hb2⟩
    have i2 := i1.below hb2
    have j2 := j1.below hb2
    have X1 := ((bcell hb2).1 (w.heap.size + 1) 0 (by omega)).trans x1
    have X2 := ((bcell hb2).1 (w.heap.size + 1) 1 (by omega)).trans x2
    have Y1 := ((bcell hb2).1 (w.heap.size) 0 (by omega)).trans y1
    have Y2 := ((bcell hb2).1 (w.heap.size) 1 (by omega)).trans y2
    have b2 := b1.trans (hb2.mono b1.size)
    clear hb2 x1 x2 y1 y2
    by_cases h2 : a'.sz < 20000
    · have hd2 : decide (a'.sz < 20000) = true := by simpa using h2
      have e1 := HR.out
      unfold Y.sm at e1
      rw [hd1, hd2] at e1
      simp only [Bool.true_and] at e1
      have HE := Lib.hid e1
      clear e1
      go_wp2_with fail
      refine (eequal_any (a.sz + 1) a a' n n' _ p p' l cap l' cap' (Nat.lt_succ_self _) j2 i2).mono ?_
      rintro e w3 ⟨rfl, hb3⟩
      go_wp2_with fail
      go_ret
      exact ⟨ret_bool HE.out, b2.trans (hb3.mono b2.size)⟩
    · have hd2 : decide (a'.sz < 20000) = false := by simpa using h2
      go_wp2_with fail
      go_ret
      exact ⟨ret_bool (by rw [← HR.out]; unfold Y.sm; rw [hd2]; simp), b2⟩
  · have hd1 : decide (a.sz < 20000) = false := by simpa using h1
    go_wp2_with fail
    go_ret
    exact ⟨ret_bool (by rw [← HR.out]; unfold Y.sm; rw [hd1]; simp), b1⟩

theorem nodes_le (a : Y) : decide (((min (1 + a.sz) ((20000 : Int).toNat + 1) : Nat) : Int) ≤ 20000) = decide (a.sz < 20000) := by
  congr 1
  rw [eq_iff_iff]
  omega

set_option maxHeartbeats 800000 in
theorem erefsame_any (a a' : Y) (n n' : Int) (w : World) (p p' : Option Addr) (l cap l' cap' : Nat) (his : IsY w a p l cap) (hit : IsY w a' p' l' cap') :
    Calls Try.prog 24 #[.agg #[.int .i64 n, .slice p l cap], .agg #[.int .i64 n', .slice p' l' cap']] w fun e w' => e = .returned (.bool (Y.sm n a n' a')) ∧ Below w.heap.size w w' := by
  obtain ⟨r, hr⟩ : ∃ r, Y.sm n a n' a' = r := ⟨_, rfl⟩
  rw [hr]
  have HR := Lib.hid hr
  clear hr
  have b0 : ∀ x y, Below w.heap.size w ((w.alloc x).alloc y) := fun x y => ((Below.refl _ _).alloc (Nat.le_refl _) _).alloc (by simp) _
  go_enter Try.func24, Try.ntmps24
  go_wp2_with fail
  refine (enodes_any (a.sz + 1) a n _ p l cap 20000 (Nat.lt_succ_self _) (by omega) (by omega) ((his.alloc _).alloc _)).mono ?_
  rintro e w1 ⟨rfl, hb1⟩
  have i1 := ((hit.alloc _).alloc _).below hb1
  have j1 := ((his.alloc _).alloc _).below hb1
  obtain ⟨x1, x2⟩ := box2_cells (box2_later hb1 (heap_new2 w (.cells #[.int .i64 n, .slice p l cap] 25) (.cells #[.int .i64 n', .slice p' l' cap'] 25)))
  obtain ⟨y1, y2⟩ := box2_cells (box2_later hb1 (alloc_kept (heap_new w (.cells #[.int .i64 n, .slice p l cap] 25)) (.cells #[.int .i64 n', .slice p' l' cap'] 25)))
  have b1 := (b0 _ _).trans (hb1.mono (by simp; omega))
  have hz1 := hb1.size
  simp only [World.size_alloc] at hz1
  clear hb1
  generalize hm1 : min (1 + a.sz) ((20000 : Int).toNat + 1) = m1
  have hn1 := nodes_le a
  rw [hm1] at hn1
  clear hm1
  by_cases h1 : a.sz < 20000
  · have hd1 : decide (a.sz < 20000) = true := by simpa using h1
    have hk1 : (m1 : Int) ≤ 20000 := by rw [hd1] at hn1; simpa using hn1
    clear hn1
    go_wp2_with fail
    refine (enodes_any (a'.sz + 1) a' n' _ p' l' cap' 20000 (Nat.lt_succ_self _) (by omega) (by omega) i1).mono ?_
    rintro e w2 ⟨rfl, hb2⟩
    have i2 := i1.below hb2
    have j2 := j1.below hb2
    have X1 := ((bcell hb2).1 (w.heap.size + 1) 0 (by omega)).trans x1
    have X2 := ((bcell hb2).1 (w.heap.size + 1) 1 (by omega)).trans x2
    have Y1 := ((bcell hb2).1 (w.heap.size) 0 (by omega)).trans y1
    have Y2 := ((bcell hb2).1 (w.heap.size) 1 (by omega)).trans y2
    have b2 := b1.trans (hb2.mono b1.size)
    clear hb2 x1 x2 y1 y2
    generalize hm2 : min (1 + a'.sz) ((20000 : Int).toNat + 1) = m2
    have hn2 := nodes_le a'
    rw [hm2] at hn2
    clear hm2
    by_cases h2 : a'.sz < 20000
    · have hd2 : decide (a'.sz < 20000) = true := by simpa using h2
      have hk2 : (m2 : Int) ≤ 20000 := by rw [hd2] at hn2; simpa using hn2
      clear hn2
      have e1 := HR.out
      unfold Y.sm at e1
      rw [hd1, hd2] at e1
      simp only [Bool.true_and] at e1
      have HE := Lib.hid e1
      clear e1
      go_wp2_with fail
      refine (erefequal_any (a.sz + 1) a a' n n' _ p p' l cap l' cap' (Nat.lt_succ_self _) j2 i2).mono ?_
      rintro e w3 ⟨rfl, hb3⟩
      go_wp2_with fail
      go_ret
      exact ⟨ret_bool HE.out, b2.trans (hb3.mono b2.size)⟩
    · have hd2 : decide (a'.sz < 20000) = false := by simpa using h2
      have hk2 : ¬ (m2 : Int) ≤ 20000 := by rw [hd2] at hn2; simpa using hn2
      clear hn2
      go_wp2_with fail
      go_ret
      exact ⟨ret_bool (by rw [← HR.out]; unfold Y.sm; rw [hd2]; simp), b2⟩
  · have hd1 : decide (a.sz < 20000) = false := by simpa using h1
    have hk1 : ¬ (m1 : Int) ≤ 20000 := by rw [hd1] at hn1; simpa using hn1
    clear hn1
    go_wp2_with fail
    go_ret
    exact ⟨ret_bool (by rw [← HR.out]; unfold Y.sm; rw [hd1]; simp), b1⟩

end Go.Proofs.Yteolfpdkpihnlaa

/-
  The walks of Check, the program's and the reference's. Conditions: none but that ranks and trees lie in memory.
-/
set_option linter.unusedSimpArgs false
set_option linter.unusedVariables false
namespace Go.Proofs.Yteolfpdkpihnlaa
open Go.RowKit

theorem below_drewN {B : Nat} {w w' : World} (h : Below B w w') (n : Nat) : Below B w (w'.drewN n) := ⟨h.os, h.tape, h.output, h.size, h.block⟩

theorem suit_unknown {R : List Int} {a : Y} : suitE R (-1) a = decide (a.len = 0) := by simp [suitE]

theorem suit_neg {R : List Int} {n : Int} {a : Y} (h1 : n ≠ -1) (h2 : n < 0) : suitE R n a = false := by
  simp [suitE, h1]; omega

theorem suit_big {R : List Int} {m : Nat} {a : Y} (h : ¬ m < R.length) : suitE R (m : Int) a = false := by
  simp [suitE]; omega

theorem suit_is {R : List Int} {m : Nat} {a : Y} (h : m < R.length) : suitE R (m : Int) a = decide ((a.len : Int) = R.getD m 0) := by
  simp [suitE, h]

set_option maxRecDepth 100000 in
set_option maxHeartbeats 800000 in
theorem suited_any6 (R : List Int) (a : Y) (n : Int) (w : World) (rp p : Option Addr) (rn rc l cap : Nat) (hR : IsL w R rp rn rc) (his : IsY w a p l cap) :
    Calls Try.prog 99 #[.slice rp rn rc, .agg #[.int .i64 n, .slice p l cap]] w fun e w' => e = .returned (.bool (suitE R n a)) ∧ Below w.heap.size w w' := by
  obtain ⟨hl, hcap, hmax, hnil, hrow⟩ := his
  subst hl
  obtain ⟨hrl, hrcap, hrmax, hrnil, hrrow⟩ := hR
  subst hrl
  unfold maxLen at hmax hrmax
  have hb0 : Below w.heap.size w (w.alloc (.cells #[.int .i64 n, .slice p a.len cap] 25)) := (Below.refl _ _).alloc (Nat.le_refl _) _
  by_cases hu : n = -1
  · subst hu
    go_enter Try.func99, Try.ntmps99
    go_wp2_with fail
    go_ret
    exact ⟨ret_bool (by rw [suit_unknown]; first | rfl | (congr 1; rw [eq_iff_iff]; omega) | (simp; done) | (rw [Bool.eq_iff_iff]; simp)), hb0⟩
  have hd1 : (n == -1) = false := by simp [hu]
  by_cases hneg : n < 0
  · have hd2 : decide (0 ≤ n) = false := by simp; omega
    have hr := suit_neg (R := R) (a := a) hu hneg
    rw [hr]
    clear hr
    go_enter Try.func99, Try.ntmps99
    go_wp2_with fail
    go_quiet (fail)
    go_wp2_with fail
    go_ret
    exact ⟨rfl, below_drewN hb0 _⟩
  obtain ⟨m, rfl⟩ : ∃ m : Nat, n = (m : Int) := ⟨n.toNat, by omega⟩
  have hd2 : decide (0 ≤ (m : Int)) = true := by simp
  clear hneg hu
  by_cases hm : m < R.length
  · have hd3 : decide ((m : Int) < (R.length : Int)) = true := by simp; omega
    rcases hrrow with h0 | ⟨b, off, rfl, hr⟩
    · omega
    have hc := hr m hm
    have hres := suit_is (a := a) hm
    generalize R.getD m 0 = rk at hc hres
    have HS := Lib.hid hres
    clear hres
    have hc' := fun x => (keep_alloc w x _ _ (lt_of_cell hc)).trans hc
    go_enter Try.func99, Try.ntmps99
    go_wp2_with fail
    go_quiet (fail)
    go_wp2_with fail
    go_ret
    exact ⟨ret_bool (by rw [HS.out]; first | rfl | (simp; done) | (rw [Bool.eq_iff_iff]; simp)), below_drewN hb0 _⟩
  · have hd3 : decide ((m : Int) < (R.length : Int)) = false := by simp; omega
    have hres := suit_big (a := a) hm
    rw [hres]
    clear hres
    go_enter Try.func99, Try.ntmps99
    go_wp2_with fail
    go_quiet (fail)
    go_wp2_with fail
    go_ret
    exact ⟨rfl, below_drewN hb0 _⟩

/-- what the counter's box and the ranks' box hold -/
def IVal (a rb : Nat) (rp : Option Addr) (rn rc : Nat) (R : List Int) (c : Nat) (w : World) : Prop :=
  w.heap[a]? = some (.cells #[.int .i64 (c : Int)] 3 (0, 0)) ∧ w.heap[rb]? = some (.cells #[.slice rp rn rc] 22 (0, 0)) ∧ IsL w R rp rn rc ∧ ∀ q, rn ≠ 0 → rp = some q → q.block ≠ a

theorem IVal.ne {a rb : Nat} {rp : Option Addr} {rn rc : Nat} {R : List Int} {c : Nat} {w : World} (h : IVal a rb rp rn rc R c w) : rb ≠ a := by
  rintro rfl
  have h1 := h.1
  rw [h.2.1] at h1
  simp at h1

theorem IsL.gr2 {a : Nat} {rp : Option Addr} {rn rc : Nat} {R : List Int} {w w' : World} (hg : Gr2 a a w w') (hne : ∀ q, rn ≠ 0 → rp = some q → q.block ≠ a) (h : IsL w R rp rn rc) : IsL w' R rp rn rc := by
  obtain ⟨h1, h2, h3, h4, h5⟩ := h
  refine ⟨h1, h2, h3, h4, ?_⟩
  rcases h5 with h5 | ⟨b, off, e, hr⟩
  · exact Or.inl h5
  · refine Or.inr ⟨b, off, e, fun i hi => ?_⟩
    have hc := hr i hi
    have hb := hne _ (by omega) e
    rw [World.cell?_of_block (w := w) (hg.block b (lt_of_cell hc) hb hb)]
    exact hc

theorem IVal.gr2 {a rb : Nat} {rp : Option Addr} {rn rc : Nat} {R : List Int} {c c' : Nat} {w w' : World} (h : IVal a rb rp rn rc R c w) (hg : Gr2 a a w w') (h1 : w'.heap[a]? = some (.cells #[.int .i64 (c' : Int)] 3 (0, 0))) : IVal a rb rp rn rc R c' w' :=
  ⟨h1, (hg.block rb (lt_of_block h.2.1) h.ne h.ne).trans h.2.1, h.2.2.1.gr2 hg h.2.2.2, h.2.2.2⟩

theorem keeps_gr1 {a rb : Nat} {rp : Option Addr} {rn rc : Nat} {R : List Int} {c : Nat} {w w' : World} (h : IVal a rb rp rn rc R c w) (hg : Gr2 a a w w') : Keeps2 w w' := by
  rintro i ⟨o, p, n, c', hc⟩ o' v hv
  have hlt := lt_of_cell hc
  have h1 : i ≠ a := by rintro rfl; exact IBox.cell h.1 (by intros; simp) hc
  rw [World.cell?_of_block (w := w) (hg.block i hlt h1 h1)]
  exact hv

theorem IVal.put {a rb : Nat} {rp : Option Addr} {rn rc : Nat} {R : List Int} {c : Nat} {w : World} (h : IVal a rb rp rn rc R c w) {x : Int} {d : Nat} (hx : x = (d : Int)) :
    IVal a rb rp rn rc R d (w.setCell ⟨a, 0, none⟩ (.int .i64 x)) ∧ Gr2 a a w (w.setCell ⟨a, 0, none⟩ (.int .i64 x)) := by
  subst hx
  have k1 := heap_setCell_same w a 0 #[.int .i64 (c : Int)] 3 (.int .i64 (d : Int)) h.1
  exact ⟨h.gr2 (Gr2.seta a a 0 w _) (by simpa using k1), Gr2.seta a a 0 w _⟩

theorem IVal.alloc {a rb : Nat} {rp : Option Addr} {rn rc : Nat} {R : List Int} {c : Nat} {w : World} (h : IVal a rb rp rn rc R c w) (o : Obj) : IVal a rb rp rn rc R c (w.alloc o) :=
  h.gr2 (Gr2.alloc a a w o) (alloc_kept h.1 o)

theorem gr2_of_below {a : Nat} {w w' : World} (h : Below w.heap.size w w') : Gr2 a a w w' := ⟨h.os, h.tape, h.output, h.size, fun i hi _ _ => h.block i hi⟩

set_option maxHeartbeats 800000 in
theorem pred_evalid (w : World) (n : Int) (t : Y) (p : Option Addr) (l cap a rb : Nat) (rp : Option Addr) (rn rc : Nat) (R : List Int) (c lv : Nat) (hlv : lv ≤ 1000000) (hs : c ≤ 20000) (h : IVal a rb rp rn rc R c w) (his : IsY w t p l cap) :
    Calls Try.prog 98 #[.agg #[.int .i64 n, .slice p l cap], .int .i64 (lv : Int), .pointer (some ⟨a, 0, none⟩), .pointer (some ⟨rb, 0, none⟩)] w fun e w' => e = .returned (.bool (vfE R c lv n t).2) ∧ IVal a rb rp rn rc R (c + 1) w' ∧ Gr2 a a w w' := by
  have H := Lib.hid h
  obtain ⟨h1, h2, h3, h4⟩ := h
  have c1 := cell_of_one h1
  have c2 := free_of_one h1
  have c3 := lt_of_block h1
  have d1 := cell_of_one h2
  have d2 := free_of_one h2
  have d3 := lt_of_block h2
  have hba := H.out.ne
  have hab : a ≠ rb := fun e => hba e.symm
  clear h1 h2 h3 h4
  obtain ⟨r, hr⟩ : ∃ r, (vfE R c lv n t).2 = r := ⟨_, rfl⟩
  rw [hr]
  have HR := Lib.hid hr
  clear hr
  by_cases hc : c + 1 ≤ 20000
  · have hd1 : decide ((c : Int) + 1 ≤ 20000) = true := by simp; omega
    by_cases hl : lv ≤ 200
    · have hd2 : decide ((lv : Int) ≤ 200) = true := by simp; omega
      go_enter Try.func98, Try.ntmps98
      go_wp2_with fail
      obtain ⟨p1, p2⟩ := H.out.put (x := (c : Int) + 1) (d := c + 1) (by omega)
      refine (suited_any6 R t n _ rp p rn rc l cap (p1.alloc _).2.2.1 ((his.keeps (keeps_gr1 H.out p2)).alloc _)).mono ?_
      rintro e w1 ⟨rfl, hb1⟩
      have hg := gr2_of_below (a := a) hb1
      go_wp2_with fail
      go_ret
      exact ⟨ret_bool (by rw [← HR.out]; simp [vfE, hc, hl]), (p1.alloc _).gr2 hg ((hb1.block a (lt_of_block (p1.alloc _).1)).trans (p1.alloc _).1), (p2.trans (Gr2.alloc _ _ _ _)).trans hg⟩
    · have hd2 : decide ((lv : Int) ≤ 200) = false := by simp; omega
      go_enter Try.func98, Try.ntmps98
      go_wp2_with fail
      go_ret
      obtain ⟨p1, p2⟩ := H.out.put (x := (c : Int) + 1) (d := c + 1) (by omega)
      exact ⟨ret_bool (by rw [← HR.out]; simp [vfE]; omega), p1.alloc _, p2.trans (Gr2.alloc _ _ _ _)⟩
  · have hd1 : decide ((c : Int) + 1 ≤ 20000) = false := by simp; omega
    go_enter Try.func98, Try.ntmps98
    go_wp2_with fail
    go_ret
    obtain ⟨p1, p2⟩ := H.out.put (x := (c : Int) + 1) (d := c + 1) (by omega)
    exact ⟨ret_bool (by rw [← HR.out]; simp [vfE]; omega), p1.alloc _, p2.trans (Gr2.alloc _ _ _ _)⟩

theorem fits_valid (a rb : Nat) (rp : Option Addr) (rn rc : Nat) (R : List Int) : FitsE (fun v lv w Q => Calls Try.prog 98 #[v, lv, .pointer (some ⟨a, 0, none⟩), .pointer (some ⟨rb, 0, none⟩)] w Q) (vfE R) (fun c lv => c ≤ 20000 ∧ lv ≤ c + 1) (IVal a rb rp rn rc R) (Gr2 a a) where
  run := fun s lv n a' w p l cap hL hI his => pred_evalid w n a' p l cap a rb rp rn rc R s lv (by omega) hL.1 hI his
  live := fun s lv n a' hL h => by
    simp only [vfE, Bool.and_eq_true, decide_eq_true_eq] at h ⊢
    omega
  down := fun s lv h => ⟨h.1, by omega⟩
  small := fun s lv h => by omega
  trans := fun _ _ _ h k => h.trans k
  alloc := fun s w o h => ⟨h.alloc o, Gr2.alloc a a w o⟩
  keeps := fun s w w' h k => keeps_gr1 h k

theorem IsL.lt {w : World} {R : List Int} {rp : Option Addr} {rn rc : Nat} (h : IsL w R rp rn rc) (h0 : rn ≠ 0) : ∀ q, rp = some q → q.block < w.heap.size := by
  rintro q rfl
  obtain ⟨h1, h2, h3, h4, h5⟩ := h
  rcases h5 with h5 | ⟨b, off, e, hr⟩
  · exact absurd h5 h0
  · injection e with e
    subst e
    exact lt_of_cell (hr 0 (by omega))

set_option maxHeartbeats 400000 in
theorem evalid_any (R : List Int) (a : Y) (n : Int) (w : World) (rp p : Option Addr) (rn rc l cap : Nat) (hR : IsL w R rp rn rc) (his : IsY w a p l cap) :
    Calls Try.prog 81 #[.slice rp rn rc, .agg #[.int .i64 n, .slice p l cap]] w fun e w' => e = .returned (.bool (treeOk R n a)) ∧ Below w.heap.size w w' := by
  have hc := fun W h1 h2 => all_valid1 (fits_valid (w.heap.size + 1 + 1) w.heap.size rp rn rc R) (a.sz + 1) a 0 1 1 n W p l cap rfl (Nat.lt_succ_self _) ⟨Nat.zero_le _, by omega⟩ h1 h2
  rw [walk1_vf] at hc
  have HC := Lib.hid hc
  have HQ := Lib.hid hR.lt
  clear hc
  go_enter Try.func81, Try.ntmps81
  go_wp2_with fail
  refine (HC.out _ ⟨heap_new3 _ _ _ _, alloc_kept (alloc_kept (heap_new _ _) _) _, ((hR.alloc _).alloc _).alloc _, fun q h0 e => by have := HQ.out h0 q e; omega⟩ (((his.alloc _).alloc _).alloc _)).mono ?_
  rintro e w1 ⟨rfl, _, hg⟩
  go_wp2_with fail
  go_ret
  exact ⟨rfl, (below3 w _ _ _).trans (hg.below (by simp only [World.size_alloc]; omega) (by omega) (by omega))⟩

/-- what Check answers, of ranks and trees -/
def chkE (R : List Int) : Y → Int
  | .nil => 0
  | .cons n a r => if treeOk R n a then chkE R r else 9

def chk6 (R : List Int) (t : Y) : Int := if ranksOk R then chkE R t else 2

theorem chk_drop (R : List Int) (t : Y) (i : Nat) (h : i < t.len) : chkE R (t.drop i) = if treeOk R (t.gn i) (t.ga i) then chkE R (t.drop (i + 1)) else 9 := by
  rw [Y.drop_cons t i h]; rfl

/-- are all numbers of a list ranks? -/
def allR (L : List Int) : Bool := L.all fun r => decide (0 ≤ r) && decide (r ≤ 4)

theorem allR_drop (L : List Int) (j : Nat) (h : j < L.length) : allR (L.drop j) = (decide (0 ≤ L.getD j 0) && decide (L.getD j 0 ≤ 4) && allR (L.drop (j + 1))) := by
  unfold allR
  rw [List.drop_eq_getElem_cons h, List.all_cons, List.getD_eq_getElem?_getD, List.getElem?_eq_getElem h]
  rfl

theorem allR_end (L : List Int) (j : Nat) (h : ¬ j < L.length) : allR (L.drop j) = true := by
  rw [List.drop_eq_nil_of_le (by omega)]; rfl

set_option maxHeartbeats 400000 in
theorem wrong_any (r : Int) (w : World) :
    Calls Try.prog 79 #[.int .i64 r] w fun e w' => e = .returned (.bool (!(decide (0 ≤ r) && decide (r ≤ 4)))) ∧ Below w.heap.size w w' := by
  by_cases h1 : r < 0
  · have hd : decide (r < 0) = true := by simpa using h1
    go_enter Try.func79, Try.ntmps79
    go_wp2_with fail
    go_ret
    exact ⟨ret_bool (by rw [Bool.eq_iff_iff]; simp <;> omega), Below.refl _ _⟩
  · have hd : decide (r < 0) = false := by simpa using h1
    go_enter Try.func79, Try.ntmps79
    go_wp2_with fail
    go_ret
    exact ⟨ret_bool (by rw [Bool.eq_iff_iff]; simp <;> omega), Below.refl _ _⟩

set_option maxHeartbeats 400000 in
theorem index_any (L : List Int) (w : World) (p : Option Addr) (n c : Nat) (h : IsL w L p n c) :
    Calls Try.prog 97 #[.slice p n c, .func (Fn.func 79) #[] #[]] w fun e w' => (∃ k : Int, e = .returned (.int .i64 k) ∧ decide (0 ≤ k) = !allR L) ∧ Below w.heap.size w w' := by
  obtain ⟨hn, hcap, hmax, hnil, hrow⟩ := h
  subst hn
  unfold maxLen at hmax
  go_enter Try.func97, Try.ntmps97
  go_wp2_with fail
  go_loopw [8] (fun i wr => ∃ j : Nat, j ≤ L.length ∧ i = .int .i64 (j : Int) ∧ allR (L.drop j) = allR L ∧ Below w.heap.size w wr)
    (fun i _ => L.length - (intOf i).toNat)
  case atStart => exact ⟨0, Nat.zero_le _, rfl, rfl, Below.refl _ _⟩
  case round =>
    obtain ⟨j, hj, rfl, hmo, hb⟩ := hrel
    have HM := Lib.hid hmo
    clear hmo
    by_cases hlt : j < L.length
    · rcases hrow with h0 | ⟨b, off, rfl, hr⟩
      · omega
      have hc0 := hr j hlt
      have hd := allR_drop L j hlt
      generalize L.getD j 0 = r at hc0 hd
      have HD := Lib.hid hd
      have hc := ((bcell hb).1 _ _ (lt_of_cell hc0)).trans hc0
      clear hd hc0 hr
      go_wp2_with fail
      refine (wrong_any r _).mono ?_
      rintro e w' ⟨rfl, hb1⟩
      cases hg : (decide (0 ≤ r) && decide (r ≤ 4)) with
      | false =>
        go_wp2_with fail
        go_ret
        exact ⟨⟨_, rfl, by rw [← HM.out, HD.out, hg]; simp⟩, hb.trans (hb1.mono hb.size)⟩
      | true =>
        go_wp2_with fail
        go_roundw
        case rel => exact ⟨j + 1, by omega, by go_num, by rw [← HM.out, HD.out, hg]; simp, hb.trans (hb1.mono hb.size)⟩
        case measure => simp [intOf]; omega
    · go_wp2_with fail
      go_ret
      exact ⟨⟨_, rfl, by rw [← HM.out, allR_end L j hlt]; simp⟩, hb⟩

set_option maxHeartbeats 400000 in
theorem contains_any (L : List Int) (w : World) (p : Option Addr) (n c : Nat) (h : IsL w L p n c) :
    Calls Try.prog 80 #[.slice p n c, .func (Fn.func 79) #[] #[]] w fun e w' => e = .returned (.bool (!allR L)) ∧ Below w.heap.size w w' := by
  go_enter Try.func80, Try.ntmps80
  go_wp2_with fail
  refine (index_any L _ p n c h).mono ?_
  rintro e w1 ⟨⟨k, rfl, hk⟩, hb1⟩
  have HK := Lib.hid hk
  clear hk
  go_wp2_with fail
  go_ret
  exact ⟨ret_bool HK.out, hb1⟩

set_option maxHeartbeats 800000 in
theorem echeck6_any (R : List Int) (t : Y) (w : World) (rp p : Option Addr) (rn rc l cap : Nat) (hR : IsL w R rp rn rc) (his : IsY w t p l cap) :
    Calls Try.prog 50 #[.slice rp rn rc, .slice p l cap] w fun e w' => e = .returned (.int .i64 (chk6 R t)) ∧ Below w.heap.size w w' := by
  obtain ⟨r, hr⟩ : ∃ r, chk6 R t = r := ⟨_, rfl⟩
  rw [hr]
  have HR := Lib.hid hr
  have HL := Lib.hid hR
  have hrn := hR.1
  clear hr hR
  have hRO : ranksOk R = (decide (R.length ≤ 24) && allR R) := rfl
  have HRO := Lib.hid hRO
  clear hRO
  subst hrn
  by_cases hlen : R.length ≤ 24
  case neg =>
    have hd : decide ((24 : Int) < (R.length : Int)) = true := by simp; omega
    go_enter Try.func50, Try.ntmps50
    go_wp2_with fail
    go_ret
    exact ⟨ret_int (by rw [← HR.out]; unfold chk6; rw [HRO.out]; simp; omega), Below.refl _ _⟩
  have hd : decide ((24 : Int) < (R.length : Int)) = false := by simp; omega
  cases hall : allR R with
  | false =>
    go_enter Try.func50, Try.ntmps50
    go_wp2_with fail
    refine (contains_any R _ rp _ rc HL.out).mono ?_
    rintro e w1 ⟨rfl, hb1⟩
    rw [hall]
    go_wp2_with fail
    go_ret
    exact ⟨ret_int (by rw [← HR.out]; unfold chk6; rw [HRO.out, hall]; simp), hb1⟩
  | true =>
    have hRK : chk6 R t = chkE R t := by unfold chk6; rw [HRO.out, hall]; simp [hlen]
    have HK := Lib.hid (hRK.symm.trans HR.out)
    clear hRK HR
    obtain ⟨hn, hcap, hmax, hnil, hrow⟩ := his
    subst hn
    unfold maxLen at hmax
    go_enter Try.func50, Try.ntmps50
    go_wp2_with fail
    refine (contains_any R _ rp _ rc HL.out).mono ?_
    rintro e w1 ⟨rfl, hb1⟩
    rw [hall]
    clear hall
    go_wp2_with fail
    go_loopw [18] (fun i wr => ∃ j : Nat, j ≤ t.len ∧ i = .int .i64 (j : Int) ∧ chkE R (t.drop j) = r ∧ Below w.heap.size w wr)
      (fun i _ => t.len - (intOf i).toNat)
    case atStart => exact ⟨0, Nat.zero_le _, rfl, by rw [Y.drop_zero]; exact HK.out, hb1⟩
    case round =>
      obtain ⟨j, hj, rfl, hmo, hb⟩ := hrel
      have HM := Lib.hid hmo
      clear hmo
      by_cases hlt : j < t.len
      · rcases hrow with h0 | ⟨b, off, rfl, hr⟩
        · omega
        obtain ⟨hcn, p', n', cap', hc, hi⟩ := base2_at (Keeps2.below hb (Nat.le_refl _)) hr hlt
        have hdr := Lib.hid (chk_drop R t j hlt)
        go_wp2_with fail
        refine (evalid_any R (t.ga j) (t.gn j) _ rp p' _ rc n' cap' ((HL.out.below hb).alloc _) (hi.alloc _)).mono ?_
        rintro e w' ⟨rfl, hb2⟩
        cases hg : treeOk R (t.gn j) (t.ga j) with
        | false =>
          go_wp2_with fail
          go_ret
          exact ⟨ret_int (by rw [← HM.out, hdr.out, hg]; simp), base_next hb hb2⟩
        | true =>
          go_wp2_with fail
          go_roundw
          case rel => exact ⟨j + 1, by omega, by go_num, by rw [← HM.out, hdr.out, hg]; simp, base_next hb hb2⟩
          case measure => simp [intOf]; omega
      · go_wp2_with fail
        go_ret
        exact ⟨ret_int (by rw [← HM.out, Y.drop_end t j (by omega)]; rfl), hb⟩

theorem echeck_any (R : List Int) (t : Y) (w : World) (rp p : Option Addr) (rn rc l cap : Nat) (hR : IsL w R rp rn rc) (_ : ∀ q, rp = some q → q.block < w.heap.size) (his : IsY w t p l cap) :
    Calls Try.prog 50 #[.slice rp rn rc, .slice p l cap] w fun e w' => e = .returned (.int .i64 (chk6 R t)) ∧ Below w.heap.size w w' := echeck6_any R t w rp p rn rc l cap hR his

end Go.Proofs.Yteolfpdkpihnlaa

/-
  The walks of the reference's Check. Conditions: none but that ranks and trees lie in memory.
-/
set_option linter.unusedSimpArgs false
set_option linter.unusedVariables false
namespace Go.Proofs.Yteolfpdkpihnlaa
open Go.RowKit

set_option maxHeartbeats 400000 in
theorem erefranks_any (L : List Int) (w : World) (p : Option Addr) (n c : Nat) (h : IsL w L p n c) :
    Calls Try.prog 51 #[.slice p n c] w fun e w' => e = .returned (.bool (ranksOk L)) ∧ Below w.heap.size w w' := by
  obtain ⟨r, hr⟩ : ∃ r, ranksOk L = r := ⟨_, rfl⟩
  rw [hr]
  have hRO : ranksOk L = (decide (L.length ≤ 24) && allR L) := rfl
  rw [hRO] at hr
  have HR := Lib.hid hr
  clear hr hRO
  obtain ⟨hn, hcap, hmax, hnil, hrow⟩ := h
  subst hn
  unfold maxLen at hmax
  go_enter Try.func51, Try.ntmps51
  go_wp2_with fail
  go_loopw [7] (fun i wr => ∃ j : Nat, j ≤ L.length ∧ i = .int .i64 (j : Int) ∧ allR (L.drop j) = allR L ∧ Below w.heap.size w wr)
    (fun i _ => L.length - (intOf i).toNat)
  case atStart => exact ⟨0, Nat.zero_le _, rfl, rfl, Below.refl _ _⟩
  case round =>
    obtain ⟨j, hj, rfl, hmo, hb⟩ := hrel
    have HM := Lib.hid hmo
    clear hmo
    by_cases hlt : j < L.length
    · rcases hrow with h0 | ⟨b, off, rfl, hr⟩
      · omega
      have hc0 := hr j hlt
      have hd := allR_drop L j hlt
      generalize L.getD j 0 = x at hc0 hd
      have HD := Lib.hid hd
      have hc := ((bcell hb).1 _ _ (lt_of_cell hc0)).trans hc0
      clear hd hc0 hr
      by_cases h1 : x < 0
      · have hx : decide (x < 0) = true := by simpa using h1
        go_wp2_with fail
        go_ret
        exact ⟨ret_bool (by rw [← HR.out, ← HM.out, HD.out, decide_eq_false (by omega : ¬ 0 ≤ x)]; simp), hb⟩
      · have hx : decide (x < 0) = false := by simpa using h1
        by_cases h2 : 4 < x
        · have hy : decide (4 < x) = true := by simpa using h2
          go_wp2_with fail
          go_ret
          exact ⟨ret_bool (by rw [← HR.out, ← HM.out, HD.out, decide_eq_false (by omega : ¬ x ≤ 4)]; simp), hb⟩
        · have hy : decide (4 < x) = false := by simpa using h2
          go_wp2_with fail
          go_roundw
          case rel => exact ⟨j + 1, by omega, by go_num, by rw [← HM.out, HD.out, decide_eq_true (by omega : 0 ≤ x), decide_eq_true (by omega : x ≤ 4)]; simp, hb⟩
          case measure => simp [intOf]; omega
    · go_wp2_with fail
      go_ret
      exact ⟨ret_bool (by rw [← HR.out, ← HM.out, allR_end L j hlt]; first | (simp; done) | (rw [Bool.eq_iff_iff]; simp <;> omega)), hb⟩

/-- the test ahead of the loop in the reference's over -/
theorem over_false {R : List Int} {n : Int} {a : Y} (h : suitE R n a = false) : over1 R n a = false := by simp [over1, h]

theorem over_true {R : List Int} {n : Int} {a : Y} (h : suitE R n a = true) : over1 R n a = overE R a := by simp [over1, h]

set_option maxRecDepth 100000 in
set_option maxHeartbeats 16000000 in
theorem erefover_any (R : List Int) (N : Nat) : ∀ (a : Y) (n : Int) (w : World) (rp p : Option Addr) (rn rc l cap : Nat), a.sz < N → IsL w R rp rn rc → IsY w a p l cap →
    Calls Try.prog 78 #[.slice rp rn rc, .agg #[.int .i64 n, .slice p l cap]] w fun e w' => e = .returned (.bool (over1 R n a)) ∧ Below w.heap.size w w' := by
  induction N with
  | zero => intro a n w rp p rn rc l cap hN; omega
  | succ N ih =>
    intro a n w rp p rn rc l cap hN hR his
    obtain ⟨hl, hcap, hmax, hnil, hrow⟩ := his
    subst hl
    have HL := Lib.hid hR
    obtain ⟨hrl, hrcap, hrmax, hrnil, hrrow⟩ := hR
    subst hrl
    unfold maxLen at hmax hrmax
    have IH := Lib.hid ih
    clear ih
    have hb0 : Below w.heap.size w (w.alloc (.cells #[.int .i64 n, .slice p a.len cap] 25)) := (Below.refl _ _).alloc (Nat.le_refl _) _
    obtain ⟨r, hr⟩ : ∃ r, over1 R n a = r := ⟨_, rfl⟩
    rw [hr]
    have HV := Lib.hid hr
    clear hr
    have hle : a.len ≤ N := by have := a.len_le_sz; omega
    by_cases hlow : n < -1
    · have hd1 : decide (n < -1) = true := by simpa using hlow
      have hs := over_false (suit_neg (R := R) (a := a) (by omega) (by omega : n < 0))
      rw [HV.out] at hs
      subst hs
      go_enter Try.func78, Try.ntmps78
      go_wp2_with fail
      go_quiet (fail)
      go_wp2_with fail
      go_ret
      exact ⟨rfl, below_drewN hb0 _⟩
    have hd1 : decide (n < -1) = false := by simpa using hlow
    by_cases hbig : (R.length : Int) ≤ n
    · have hd2 : decide ((R.length : Int) ≤ n) = true := by simpa using hbig
      obtain ⟨m, rfl⟩ : ∃ m : Nat, n = (m : Int) := ⟨n.toNat, by omega⟩
      have hs := over_false (suit_big (R := R) (a := a) (m := m) (by omega))
      rw [HV.out] at hs
      subst hs
      go_enter Try.func78, Try.ntmps78
      go_wp2_with fail
      go_quiet (fail)
      go_wp2_with fail
      go_ret
      exact ⟨rfl, below_drewN hb0 _⟩
    have hd2 : decide ((R.length : Int) ≤ n) = false := by simpa using hbig
    by_cases hu : n = -1
    · have hd3 : (n == -1) = true := by simpa using hu
      have hd5 : decide ((0 : Int) ≤ n) = false := by simp; omega
      have HU := Lib.hid hu
      clear hu hlow hbig
      by_cases h0 : a.len = 0
      · have hd4 : decide ((0 : Int) < (a.len : Int)) = false := by simp; omega
        have hs := over_true (R := R) (n := n) (a := a) (by rw [HU.out, suit_unknown]; simpa using h0)
        rw [HV.out] at hs
        have HS := Lib.hid hs.symm
        have hd7 : decide (0 < a.len) = false := by simp; omega
        clear hs h0
        go_enter Try.func78, Try.ntmps78
        go_wp2_with fail
        go_quiet (fail)
        go_wp2_with fail
        clear hd1 hd2 hd3 hd4 hd5 hd7
        go_loopw [47] (fun i wr => ∃ j : Nat, j ≤ a.len ∧ i = .int .i64 (j : Int) ∧ overE R (a.drop j) = r ∧ Below w.heap.size w wr)
          (fun i _ => a.len - (intOf i).toNat)
        case atStart => exact ⟨0, Nat.zero_le _, rfl, by rw [Y.drop_zero]; exact HS.out, below_drewN hb0 _⟩
        case round =>
          obtain ⟨j, hj, rfl, hmo, hb⟩ := hrel
          have HM := Lib.hid hmo
          clear hmo
          by_cases hlt : j < a.len
          · rcases hrow with h0 | ⟨b, off, rfl, hr⟩
            · omega
            obtain ⟨hcn, p', n', cap', hc, hi⟩ := base2_at (Keeps2.below hb (Nat.le_refl _)) hr hlt
            have hg := a.sz_ga j hlt
            have hdr := Lib.hid (overE_drop (R := R) a j hlt)
            go_wp2_with fail
            refine (IH.out (a.ga j) (a.gn j) _ rp p' _ rc n' cap' (by omega) ((HL.out.below hb).alloc _) (hi.alloc _)).mono ?_
            rintro e w' ⟨rfl, hb2⟩
            cases hg2 : over1 R (a.gn j) (a.ga j) with
            | false =>
              go_wp2_with fail
              go_ret
              exact ⟨ret_bool (by rw [← HM.out, hdr.out, hg2]; simp), base_next hb hb2⟩
            | true =>
              go_wp2_with fail
              go_roundw
              case rel => exact ⟨j + 1, by omega, by go_num, by rw [← HM.out, hdr.out, hg2]; simp, base_next hb hb2⟩
              case measure => simp [intOf]; omega
          · go_wp2_with fail
            go_ret
            exact ⟨ret_bool (by rw [← HM.out, Y.drop_end a j (by omega)]; rfl), hb⟩
      · have hp : 0 < a.len := by omega
        have hpi : (0 : Int) < (a.len : Int) := by omega
        have hd4 : decide ((0 : Int) < (a.len : Int)) = true := by simpa using hp
        have hd7 : decide (0 < a.len) = true := by simpa using hp
        have hs := over_false (R := R) (n := n) (a := a) (by rw [HU.out, suit_unknown]; simpa using h0)
        rw [HV.out] at hs
        subst hs
        go_enter Try.func78, Try.ntmps78
        go_wp2_with fail
        go_quiet (fail)
        go_wp2_with fail
        go_ret
        exact ⟨rfl, below_drewN hb0 _⟩
    · have hd3 : (n == -1) = false := by simp [hu]
      obtain ⟨m, rfl⟩ : ∃ m : Nat, n = (m : Int) := ⟨n.toNat, by omega⟩
      have hd5 : decide ((0 : Int) ≤ (m : Int)) = true := by simp
      have hm : m < R.length := by omega
      have hmi : (m : Int) < (R.length : Int) := by omega
      have hd8 : decide (R.length ≤ m) = false := by simp; omega
      rcases hrrow with h0 | ⟨rb, roff, rfl, hrr⟩
      · omega
      have hc0 := hrr m hm
      have hres := suit_is (a := a) hm
      generalize R.getD m 0 = rk at hc0 hres
      have hc1 := fun x => (keep_alloc w x _ _ (lt_of_cell hc0)).trans hc0
      by_cases heq : (a.len : Int) = rk
      · subst heq
        have hs := over_true (R := R) (n := (m : Int)) (a := a) (by rw [hres]; simp)
        rw [HV.out] at hs
        have HS := Lib.hid hs.symm
        clear hs hres hrr hu hlow hbig
        go_enter Try.func78, Try.ntmps78
        go_wp2_with fail
        go_quiet (fail)
        go_wp2_with fail
        clear hd1 hd2 hd3 hd5 hd8 hc0 hc1
        go_loopw [47] (fun i wr => ∃ j : Nat, j ≤ a.len ∧ i = .int .i64 (j : Int) ∧ overE R (a.drop j) = r ∧ Below w.heap.size w wr)
          (fun i _ => a.len - (intOf i).toNat)
        case atStart => exact ⟨0, Nat.zero_le _, rfl, by rw [Y.drop_zero]; exact HS.out, below_drewN hb0 _⟩
        case round =>
          obtain ⟨j, hj, rfl, hmo, hb⟩ := hrel
          have HM := Lib.hid hmo
          clear hmo
          by_cases hlt : j < a.len
          · rcases hrow with h0 | ⟨b, off, rfl, hr⟩
            · omega
            obtain ⟨hcn, p', n', cap', hc, hi⟩ := base2_at (Keeps2.below hb (Nat.le_refl _)) hr hlt
            have hg := a.sz_ga j hlt
            have hdr := Lib.hid (overE_drop (R := R) a j hlt)
            go_wp2_with fail
            refine (IH.out (a.ga j) (a.gn j) _ (some ⟨rb, roff, none⟩) p' _ rc n' cap' (by omega) ((HL.out.below hb).alloc _) (hi.alloc _)).mono ?_
            rintro e w' ⟨rfl, hb2⟩
            cases hg2 : over1 R (a.gn j) (a.ga j) with
            | false =>
              go_wp2_with fail
              go_ret
              exact ⟨ret_bool (by rw [← HM.out, hdr.out, hg2]; simp), base_next hb hb2⟩
            | true =>
              go_wp2_with fail
              go_roundw
              case rel => exact ⟨j + 1, by omega, by go_num, by rw [← HM.out, hdr.out, hg2]; simp, base_next hb hb2⟩
              case measure => simp [intOf]; omega
          · go_wp2_with fail
            go_ret
            exact ⟨ret_bool (by rw [← HM.out, Y.drop_end a j (by omega)]; rfl), hb⟩
      · have hd6 : ((a.len : Int) != rk) = true := by simpa using heq
        have hs := over_false (R := R) (n := (m : Int)) (a := a) (by rw [hres]; simpa using heq)
        rw [HV.out] at hs
        subst hs
        clear hres hrr hu hlow hbig
        go_enter Try.func78, Try.ntmps78
        go_wp2_with fail
        go_quiet (fail)
        go_wp2_with fail
        go_ret
        exact ⟨rfl, below_drewN hb0 _⟩

set_option maxRecDepth 100000 in
set_option maxHeartbeats 800000 in
theorem erefis_any (R : List Int) (a : Y) (n : Int) (w : World) (rp p : Option Addr) (rn rc l cap : Nat) (hR : IsL w R rp rn rc) (his : IsY w a p l cap) :
    Calls Try.prog 41 #[.slice rp rn rc, .agg #[.int .i64 n, .slice p l cap]] w fun e w' => e = .returned (.bool (treeOk R n a)) ∧ Below w.heap.size w w' := by
  obtain ⟨r, hr⟩ : ∃ r, treeOk R n a = r := ⟨_, rfl⟩
  rw [hr]
  have HR := Lib.hid hr
  clear hr
  have b0 : ∀ x, Below w.heap.size w (w.alloc x) := fun x => (Below.refl _ _).alloc (Nat.le_refl _) _
  go_enter Try.func41, Try.ntmps41
  go_wp2_with fail
  refine (enodes_any (a.sz + 1) a n _ p l cap 20000 (Nat.lt_succ_self _) (by omega) (by omega) (his.alloc _)).mono ?_
  rintro e w1 ⟨rfl, hb1⟩
  have i1 := (his.alloc _).below hb1
  have r1 := (hR.alloc _).below hb1
  obtain ⟨x1, x2⟩ := box2_cells (box2_later hb1 (heap_new w (.cells #[.int .i64 n, .slice p l cap] 25)))
  have b1 := (b0 _).trans (hb1.mono (by simp))
  have hz1 := hb1.size
  simp only [World.size_alloc] at hz1
  clear hb1
  generalize hm1 : min (1 + a.sz) ((20000 : Int).toNat + 1) = m1
  have hn1 := nodes_le a
  rw [hm1] at hn1
  clear hm1
  by_cases h1 : a.sz < 20000
  · have hd1 : decide (a.sz < 20000) = true := by simpa using h1
    have hk1 : (m1 : Int) ≤ 20000 := by rw [hd1] at hn1; simpa using hn1
    clear hn1
    go_wp2_with fail
    refine (edepth_any (a.sz + 1) a n _ p l cap (Nat.lt_succ_self _) (by omega) i1).mono ?_
    rintro e w2 ⟨rfl, hb2⟩
    have i2 := i1.below hb2
    have r2 := r1.below hb2
    have Y1 := ((bcell hb2).1 (w.heap.size) 0 (by omega)).trans x1
    have Y2 := ((bcell hb2).1 (w.heap.size) 1 (by omega)).trans x2
    have b2 := b1.trans (hb2.mono b1.size)
    clear hb2 x1 x2
    by_cases h2 : a.dep < 200
    · have hd2 : decide (a.dep < 200) = true := by simpa using h2
      have hk2 : ((a.dep + 1 : Nat) : Int) ≤ 200 := by omega
      have e1 := HR.out
      unfold treeOk at e1
      rw [hd1, hd2] at e1
      simp only [Bool.true_and] at e1
      have HE := Lib.hid e1
      clear e1
      go_wp2_with fail
      refine (erefover_any R (a.sz + 1) a n _ rp p rn rc l cap (Nat.lt_succ_self _) r2 i2).mono ?_
      rintro e w3 ⟨rfl, hb3⟩
      go_wp2_with fail
      go_ret
      exact ⟨ret_bool HE.out, b2.trans (hb3.mono b2.size)⟩
    · have hd2 : decide (a.dep < 200) = false := by simpa using h2
      have hk2 : ¬ ((a.dep + 1 : Nat) : Int) ≤ 200 := by omega
      go_wp2_with fail
      go_ret
      exact ⟨ret_bool (by rw [← HR.out]; unfold treeOk; rw [hd2]; simp), b2⟩
  · have hd1 : decide (a.sz < 20000) = false := by simpa using h1
    have hk1 : ¬ (m1 : Int) ≤ 20000 := by rw [hd1] at hn1; simpa using hn1
    clear hn1
    go_wp2_with fail
    go_ret
    exact ⟨ret_bool (by rw [← HR.out]; unfold treeOk; rw [hd1]; simp), b1⟩

set_option maxRecDepth 100000 in
set_option maxHeartbeats 800000 in
theorem erefcheck_any (R : List Int) (t : Y) (w : World) (rp p : Option Addr) (rn rc l cap : Nat) (hR : IsL w R rp rn rc) (his : IsY w t p l cap) :
    Calls Try.prog 21 #[.slice rp rn rc, .slice p l cap] w fun e w' => e = .returned (.int .i64 (chk6 R t)) ∧ Below w.heap.size w w' := by
  obtain ⟨r, hr⟩ : ∃ r, chk6 R t = r := ⟨_, rfl⟩
  rw [hr]
  have HR := Lib.hid hr
  have HL := Lib.hid hR
  clear hr hR
  obtain ⟨hn, hcap, hmax, hnil, hrow⟩ := his
  subst hn
  unfold maxLen at hmax
  go_enter Try.func21, Try.ntmps21
  go_wp2_with fail
  refine (erefranks_any R _ rp rn rc HL.out).mono ?_
  rintro e w1 ⟨rfl, hb1⟩
  cases hall : ranksOk R with
  | false =>
    go_wp2_with fail
    go_ret
    exact ⟨ret_int (by rw [← HR.out]; unfold chk6; rw [hall]; simp), hb1⟩
  | true =>
    have hRK : chk6 R t = chkE R t := by unfold chk6; rw [hall]; simp
    have HK := Lib.hid (hRK.symm.trans HR.out)
    clear hRK HR hall
    go_wp2_with fail
    go_loopw [12] (fun i wr => ∃ j : Nat, j ≤ t.len ∧ i = .int .i64 (j : Int) ∧ chkE R (t.drop j) = r ∧ Below w.heap.size w wr)
      (fun i _ => t.len - (intOf i).toNat)
    case atStart => exact ⟨0, Nat.zero_le _, rfl, by rw [Y.drop_zero]; exact HK.out, hb1⟩
    case round =>
      obtain ⟨j, hj, rfl, hmo, hb⟩ := hrel
      have HM := Lib.hid hmo
      clear hmo
      by_cases hlt : j < t.len
      · rcases hrow with h0 | ⟨b, off, rfl, hr⟩
        · omega
        obtain ⟨hcn, p', n', cap', hc, hi⟩ := base2_at (Keeps2.below hb (Nat.le_refl _)) hr hlt
        have hdr := Lib.hid (chk_drop R t j hlt)
        go_wp2_with fail
        refine (erefis_any R (t.ga j) (t.gn j) _ rp p' rn rc n' cap' ((HL.out.below hb).alloc _) (hi.alloc _)).mono ?_
        rintro e w' ⟨rfl, hb2⟩
        cases hg : treeOk R (t.gn j) (t.ga j) with
        | false =>
          go_wp2_with fail
          go_ret
          exact ⟨ret_int (by rw [← HM.out, hdr.out, hg]; simp), base_next hb hb2⟩
        | true =>
          go_wp2_with fail
          go_roundw
          case rel => exact ⟨j + 1, by omega, by go_num, by rw [← HM.out, hdr.out, hg]; simp, base_next hb hb2⟩
          case measure => simp [intOf]; omega
      · go_wp2_with fail
        go_ret
        exact ⟨ret_int (by rw [← HM.out, Y.drop_end t j (by omega)]; rfl), hb⟩

end Go.Proofs.Yteolfpdkpihnlaa

