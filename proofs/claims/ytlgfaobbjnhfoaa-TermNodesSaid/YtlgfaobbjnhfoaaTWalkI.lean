/-
  The walks of the functions that Subst hands to all, and of roomy. Conditions: none but that the terms lie in memory.
-/
import Derived.Test.YtlgfaobbjnhfoaaTWalkH
import Derived.Test.YtlgfaobbjnhfoaaTWalkC
set_option linter.unusedSimpArgs false
set_option linter.unusedVariables false
namespace Go.Proofs.Ytlgfaobbjnhfoaa
open Go.RowKit

/-- a property of each term of a list, as a bool -/
def allB (P : Int → Int → X → Bool) : X → Bool
  | .nil => true
  | .cons k n a r => P k n a && allB P a && allB P r

def stepB (P : Int → Int → X → Bool) (s : Unit) (k n : Int) (a : X) : Unit × Bool := (s, P k n a)

theorem walk_allB (P : Int → Int → X → Bool) (t : X) : X.walk (stepB P) () t = ((), allB P t) := by
  induction t with
  | nil => rfl
  | cons k n a r iha ihr =>
    cases hp : P k n a with
    | false =>
      have e1 : stepB P () k n a = ((), false) := by unfold stepB; rw [hp]
      rw [X.walk_false r (X.walk1_false e1)]
      simp [allB, hp]
    | true =>
      have e1 : stepB P () k n a = ((), true) := by unfold stepB; rw [hp]
      have e2 := X.walk1_true e1
      rw [iha] at e2
      cases ha : allB P a with
      | false => rw [ha] at e2; rw [X.walk_false r e2]; simp [allB, ha]
      | true => rw [ha] at e2; rw [X.walk_true r e2, ihr]; simp [allB, hp, ha]

theorem walk1_allB (P : Int → Int → X → Bool) (k n : Int) (a : X) : X.walk1 (stepB P) () k n a = ((), P k n a && allB P a) := by
  rw [← X.walk_one, walk_allB]; simp [allB]

theorem allB_AllX {P : Int → Int → X → Bool} {t : X} (h : allB P t = true) : X.AllX (fun k n a => P k n a = true) t := by
  induction t with
  | nil => trivial
  | cons k n a r iha ihr =>
    simp only [allB, Bool.and_eq_true] at h
    exact ⟨h.1.1, iha h.1.2, ihr h.2⟩

theorem AllX_mono {G H : Int → Int → X → Prop} (hgh : ∀ k n a, G k n a → H k n a) {t : X} (h : X.AllX G t) : X.AllX H t := by
  induction t with
  | nil => trivial
  | cons k n a r iha ihr => exact ⟨hgh _ _ _ h.1, iha h.2.1, ihr h.2.2⟩

def kn (args : X) (k n : Int) (_ : X) : Bool := !decide (k = 0) || (decide (0 ≤ n) && decide (n < args.len))

theorem kn_known {args : X} {k n : Int} {a : X} (h : kn args k n a = true) : Known args k n a := by
  simp only [kn, Bool.or_eq_true, Bool.and_eq_true, Bool.not_eq_true', decide_eq_false_iff_not, decide_eq_true_eq] at h
  exact h

set_option maxRecDepth 100000 in
set_option maxHeartbeats 400000 in
theorem pred_known (args : X) (w : World) (k n : Int) (a : X) (p : Option Addr) (l cap : Nat) (cb : Nat) (q : Option Addr) (m cap' : Nat) (hm : m = args.len) (hc : w.cell? ⟨cb, 0, none⟩ = some (.slice q m cap')) :
    Calls Try.prog 63 #[.agg #[.int .i64 k, .int .i64 n, .slice p l cap], .pointer (some ⟨cb, 0, none⟩)] w fun e w' => e = .returned (.bool (kn args k n a)) ∧ Below w.heap.size w w' := by
  subst hm
  have hlt := lt_of_cell hc
  have b0 : ∀ x, Below w.heap.size w (w.alloc x) := fun x => (Below.refl _ _).alloc (Nat.le_refl _) _
  by_cases hk : k = 0
  · have hd : (k != 0) = false := by simp [hk]
    by_cases hn : 0 ≤ n
    · have hd2 : decide (0 ≤ n) = true := by simp [hn]
      have e1 : kn args k n a = decide (n < args.len) := by simp [kn, hk, hn]
      rw [e1]
      clear hk hn e1
      go_enter Try.func63, Try.ntmps63
      go_wp2_with fail
      go_ret
      exact ⟨rfl, b0 _⟩
    · have hd2 : decide (0 ≤ n) = false := by simp [hn]
      have e1 : kn args k n a = false := by simp [kn, hk, hn]
      rw [e1]
      clear hk hn e1
      go_enter Try.func63, Try.ntmps63
      go_wp2_with fail
      go_ret
      exact ⟨rfl, b0 _⟩
  · have hd : (k != 0) = true := by simp [hk]
    have e1 : kn args k n a = true := by simp [kn, hk]
    rw [e1]
    clear hk e1
    go_enter Try.func63, Try.ntmps63
    go_wp2_with fail
    go_ret
    exact ⟨rfl, b0 _⟩

theorem fits_known (args : X) (cb : Nat) (q : Option Addr) (cap' : Nat) : Fits (fun v w Q => Calls Try.prog 63 #[v, .pointer (some ⟨cb, 0, none⟩)] w Q) (stepB (kn args)) (fun _ => True)
    (fun _ w => w.cell? ⟨cb, 0, none⟩ = some (.slice q args.len cap')) (fun w w' => Below w.heap.size w w') (fun _ _ _ => True) where
  run := fun s k n a w p l cap _ hI _ _ => (pred_known args w k n a p l cap cb q args.len cap' rfl hI).mono fun _ _ h => ⟨h.1, by rw [(bcell h.2).1 _ _ (lt_of_cell hI)]; exact hI, h.2⟩
  live := fun _ _ _ _ _ _ => trivial
  trans := fun _ _ _ h k => h.trans (k.mono h.size)
  alloc := fun s w o h => ⟨by rw [keep_alloc _ _ _ _ (lt_of_cell h)]; exact h, (Below.refl _ _).alloc (Nat.le_refl _) _⟩
  keeps := fun s w w' _ k => Keeps3.below k (Nat.le_refl _)

theorem all_known (args : X) (cb : Nat) (q : Option Addr) (cap' : Nat) (a : X) (k n : Int) (w : World) (p : Option Addr) (l cap : Nat) (hI : w.cell? ⟨cb, 0, none⟩ = some (.slice q args.len cap')) (his : IsX w a p l cap) :
    Calls Try.prog 52 #[.agg #[.int .i64 k, .int .i64 n, .slice p l cap], .func (Fn.func 63) #[] #[.pointer (some ⟨cb, 0, none⟩)]] w fun e w' =>
      e = .returned (.bool (kn args k n a && allB (kn args) a)) ∧ Below w.heap.size w w' := by
  have h := all_subst1 (fits_known args cb q cap') (a.sz + 1) a () k n w p l cap (Nat.lt_succ_self _) trivial hI trivial (X.AllX.triv (fun _ _ _ => trivial) a) his
  rw [walk1_allB] at h
  exact h.mono fun _ _ h => ⟨h.1, h.2.2⟩

/-- the nodes that a list of terms has when args have been substituted -/
def gsz (args : X) : X → Nat
  | .nil => 0
  | .cons k n a r => (if k = 0 then 1 + (args.ga n.toNat).sz else 1) + gsz args a + gsz args r

/-- the same, of one node -/
def g1 (args : X) (k n : Int) : Nat := if k = 0 then 1 + (args.ga n.toNat).sz else 1

theorem gsz_rep (args t : X) : (rep args t).sz = gsz args t := by
  induction t with
  | nil => rfl
  | cons k n a r iha ihr =>
    simp only [rep, X.sz, gsz, ihr, rep1]
    by_cases h : k = 0
    · simp only [h, if_true, X.sz_app, iha]; omega
    · simp only [h, if_false, iha]

theorem rep1_sz (args : X) (k n : Int) (a : X) : 1 + (rep1 args k n (rep args a)).2.2.sz = g1 args k n + gsz args a := by
  simp only [rep1, g1, ← gsz_rep]
  by_cases h : k = 0
  · simp only [h, if_true, X.sz_app]; omega
  · simp only [h, if_false]

/-- what roomy does at a term -/
def rf (args : X) (c : Nat) (k n : Int) (_ : X) : Nat × Bool := (c + g1 args k n, decide (c + g1 args k n ≤ 100000))

theorem walk_rf (args : X) (t : X) : ∀ c, c ≤ 100000 → (X.walk (rf args) c t).2 = decide (c + gsz args t ≤ 100000) ∧ (c + gsz args t ≤ 100000 → (X.walk (rf args) c t).1 = c + gsz args t) := by
  induction t with
  | nil => intro c hc; simp [X.walk, gsz, hc]
  | cons k n a r iha ihr =>
    intro c hc
    have hg : gsz args (.cons k n a r) = g1 args k n + gsz args a + gsz args r := rfl
    rw [hg]
    by_cases h1 : c + g1 args k n ≤ 100000
    · have e1 : rf args c k n a = (c + g1 args k n, true) := by unfold rf; rw [decide_eq_true h1]
      have e2 := X.walk1_true e1
      obtain ⟨a1, a2⟩ := iha _ h1
      by_cases h2 : c + g1 args k n + gsz args a ≤ 100000
      · have e3 : X.walk1 (rf args) c k n a = (c + g1 args k n + gsz args a, true) := by
          rw [e2]
          exact Prod.ext (a2 h2) (by rw [a1, decide_eq_true h2])
        rw [X.walk_true r e3]
        obtain ⟨b1, b2⟩ := ihr _ h2
        refine ⟨?_, fun h => ?_⟩
        · rw [b1]; congr 1; rw [eq_iff_iff]; omega
        · rw [b2 (by omega)]; omega
      · have e3 : X.walk1 (rf args) c k n a = ((X.walk (rf args) (c + g1 args k n) a).1, false) := by
          rw [e2]
          exact Prod.ext rfl (by rw [a1, decide_eq_false h2])
        rw [X.walk_false r e3]
        exact ⟨(decide_eq_false (by omega)).symm, fun h => by omega⟩
    · have e1 : rf args c k n a = (c + g1 args k n, false) := by unfold rf; rw [decide_eq_false h1]
      rw [X.walk_false r (X.walk1_false e1)]
      exact ⟨(decide_eq_false (by omega)).symm, fun h => by omega⟩

theorem walk1_rf (args : X) (c : Nat) (k n : Int) (a : X) (hc : c ≤ 100000) : (X.walk1 (rf args) c k n a).2 = decide (c + (g1 args k n + gsz args a) ≤ 100000) := by
  rw [← X.walk_one, (walk_rf args _ c hc).1]
  rfl

/-- the sizes of the args, in a row of ints -/
def Sizes (args : X) (sb : Nat) (w : World) : Prop := ∀ i, i < args.len → w.cell? ⟨sb, i, none⟩ = some (.int .i64 (1 + ((args.ga i).sz : Int))) ∧ (args.ga i).sz < 100000

/-- what roomy's function literal needs: its counter, the variable of the sizes, and these -/
def RoomI (args : X) (bc c1 sb : Nat) (c : Nat) (w : World) : Prop :=
  w.heap[bc]? = some (.cells #[.int .i64 (c : Int)] 3 (0, 0)) ∧ w.cell? ⟨c1, 0, none⟩ = some (.slice (some ⟨sb, 0, none⟩) args.len args.len) ∧ c1 ≠ bc ∧ sb ≠ bc ∧ Sizes args sb w

theorem RoomI.keep {args : X} {bc c1 sb c d : Nat} {w w' : World} (h : RoomI args bc c1 sb c w) (hg : w.grownBy w' (some bc)) (hd : w'.heap[bc]? = some (.cells #[.int .i64 (d : Int)] 3 (0, 0))) : RoomI args bc c1 sb d w' := by
  obtain ⟨h1, h2, h3, h4, h5⟩ := h
  refine ⟨hd, ?_, h3, h4, fun i hi => ⟨?_, (h5 i hi).2⟩⟩
  · rw [hg.cell_far ⟨c1, 0, none⟩ (lt_of_cell h2) (by simpa using h3)]; exact h2
  · rw [hg.cell_far ⟨sb, i, none⟩ (lt_of_cell (h5 i hi).1) (by simpa using h4)]; exact (h5 i hi).1

theorem Cnt.write' {w : World} {bc c d : Nat} {z : Int} {ty : TypeId} (hz : z = d) (h0 : w.heap[bc]? = some (.cells #[.int .i64 (c : Int)] ty (0, 0))) : Cnt w (w.setCell ⟨bc, 0, none⟩ (.int .i64 z)) bc ty d := by
  subst hz; exact Cnt.write h0

set_option maxRecDepth 100000 in
set_option maxHeartbeats 800000 in
theorem pred_roomy (args : X) (w : World) (k n : Int) (a : X) (p : Option Addr) (l cap bc c1 sb c : Nat) (hc60 : c ≤ 100000) (hI : RoomI args bc c1 sb c w) (hK : Known args k n a) :
    Calls Try.prog 84 #[.agg #[.int .i64 k, .int .i64 n, .slice p l cap], .pointer (some ⟨bc, 0, none⟩), .pointer (some ⟨c1, 0, none⟩)] w fun e w' => e = .returned (.bool (decide (c + g1 args k n ≤ 100000))) ∧ Cnt w w' bc 3 (c + g1 args k n) := by
  obtain ⟨h1, h2, h3, h4, h5⟩ := hI
  have x1 := cell_of_one h1
  have x2 := free_of_one h1
  have x3 := lt_of_block h1
  have x4 := lt_of_cell h2
  by_cases hk : k = 0
  · have hkn : 0 ≤ n ∧ n < args.len := by
      rcases hK with h | h
      · exact absurd hk h
      · exact h
    obtain ⟨i, rfl⟩ : ∃ i : Nat, n = (i : Int) := ⟨n.toNat, by omega⟩
    have hi : i < args.len := by omega
    obtain ⟨h6, h7⟩ := h5 i hi
    have x5 := lt_of_cell h6
    have e1 : g1 args k (i : Int) = 1 + (args.ga i).sz := by unfold g1; rw [if_pos hk]; rfl
    rw [e1]
    subst hk
    clear hK hkn e1
    go_enter Try.func84, Try.ntmps84
    go_wp2_with fail
    have hC : Cnt w ((w.setCell ⟨bc, 0, none⟩ (.int .i64 ((c : Int) + 1))).alloc (.cells #[.int .i64 0, .int .i64 (i : Int), .slice p l cap] 35)) bc 3 (c + 1) := by
      have hw := Cnt.write' (d := c + 1) (z := (c : Int) + 1) (by omega) h1
      exact hw.trans (Cnt.start hw.2 _)
    have hbx : ((w.setCell ⟨bc, 0, none⟩ (.int .i64 ((c : Int) + 1))).alloc (.cells #[.int .i64 0, .int .i64 (i : Int), .slice p l cap] 35)).heap[w.heap.size]? = some (.cells #[.int .i64 0, .int .i64 (i : Int), .slice p l cap] 35 (0, 0)) := by
      have := heap_new (w.setCell ⟨bc, 0, none⟩ (.int .i64 ((c : Int) + 1))) (.cells #[.int .i64 0, .int .i64 (i : Int), .slice p l cap] 35)
      simpa [World.setCell] using this
    generalize ((w.setCell ⟨bc, 0, none⟩ (.int .i64 ((c : Int) + 1))).alloc (.cells #[.int .i64 0, .int .i64 (i : Int), .slice p l cap] 35)) = W at hC hbx ⊢
    obtain ⟨b1, b2, b3⟩ := box3_cells hbx
    have y1 := cell_of_one hC.2
    have y2 := free_of_one hC.2
    have y3 : W.cell? ⟨c1, 0, none⟩ = some (.slice (some ⟨sb, 0, none⟩) args.len args.len) := by rw [hC.1.cell_far ⟨c1, 0, none⟩ x4 (by simpa using h3)]; exact h2
    have y4 : W.cell? ⟨sb, i, none⟩ = some (.int .i64 (1 + ((args.ga i).sz : Int))) := by rw [hC.1.cell_far ⟨sb, i, none⟩ x5 (by simpa using h4)]; exact h6
    have HC := Lib.hid hC
    clear hC hbx x1 x2 h1 h2 h6 h5
    simp only [Int.natCast_add, Int.cast_ofNat_Int] at y1
    go_still_tail 8, (by kernel_rfl)
    have w1 : IntKind.i64.wrap (1 + ((args.ga i).sz : Int) - 1) = ((args.ga i).sz : Int) := by rw [IntKind.wrap_i64]; omega
    have w2 : IntKind.i64.wrap ((c : Int) + 1 + ((args.ga i).sz : Int)) = (c : Int) + 1 + ((args.ga i).sz : Int) := by rw [IntKind.wrap_i64]; omega
    rw [w1, w2]
    change wpList _ _ _ _ _ W.drew
    have y5 : W.drew.cell? ⟨bc, 0, none⟩ = some (.int .i64 ((c : Int) + 1)) := y1
    have y6 : W.drew.frozen? ⟨bc, 0, none⟩ = false := y2
    have hC2 : Cnt w (W.drew.setCell ⟨bc, 0, none⟩ (.int .i64 ((c : Int) + 1 + ((args.ga i).sz : Int)))) bc 3 (c + (1 + (args.ga i).sz)) := by
      have h0 : Cnt w W.drew bc 3 (c + 1) := ⟨⟨HC.out.1.os, HC.out.1.tape, HC.out.1.output, HC.out.1.size, HC.out.1.block⟩, HC.out.2⟩
      exact h0.trans (Cnt.write' (by omega) h0.2)
    have HC2 := Lib.hid hC2
    clear hC2 w1 w2
    go_wp2_with fail
    go_ret
    exact ⟨ret_bool (by simp; omega), HC2.out⟩
  · have hd : (k == 0) = false := by simp [hk]
    have e1 : g1 args k n = 1 := by unfold g1; rw [if_neg hk]
    rw [e1]
    clear hK e1 hk
    go_enter Try.func84, Try.ntmps84
    go_wp2_with fail
    go_ret
    have hw := Cnt.write (d := c + 1) h1
    exact ⟨ret_bool (by simp; omega), hw.trans (Cnt.start hw.2 _)⟩

theorem fits_roomy (args : X) (bc c1 sb : Nat) : Fits (fun v w Q => Calls Try.prog 84 #[v, .pointer (some ⟨bc, 0, none⟩), .pointer (some ⟨c1, 0, none⟩)] w Q) (rf args) (· ≤ 100000)
    (fun c w => RoomI args bc c1 sb c w) (fun w w' => w.grownBy w' (some bc)) (Known args) where
  run := fun s k n a w p l cap hL hI hG _ => (pred_roomy args w k n a p l cap bc c1 sb s hL hI hG).mono fun _ _ h => ⟨h.1, hI.keep h.2.1 h.2.2, h.2.1⟩
  live := fun s k n a _ h => by simpa [rf] using h
  trans := fun _ _ _ h k => grown_trans h k
  alloc := fun s w o h => ⟨h.keep (Cnt.start h.1 o).1 (Cnt.start h.1 o).2, (Cnt.start h.1 o).1⟩
  keeps := fun s w w' h k => keeps3_grown h.1 k

set_option maxRecDepth 100000 in
set_option maxHeartbeats 400000 in
theorem roomy_any (args a : X) (k n : Int) (w : World) (p : Option Addr) (l cap sb : Nat) (his : IsX w a p l cap) (hS : Sizes args sb w) (hsb : sb < w.heap.size) (hK : Known args k n a) (hA : X.AllX (Known args) a) :
    Calls Try.prog 64 #[.agg #[.int .i64 k, .int .i64 n, .slice p l cap], .slice (some ⟨sb, 0, none⟩) args.len args.len] w fun e w' => e = .returned (.bool (decide (g1 args k n + gsz args a ≤ 100000))) ∧ Below w.heap.size w w' := by
  have hc := fun W h1 h2 => all_roomy1 (fits_roomy args (w.heap.size + 1 + 1) (w.heap.size + 1) sb) (a.sz + 1) a 0 k n W p l cap (Nat.lt_succ_self _) (Nat.zero_le _) h1 hK hA h2
  rw [walk1_rf args 0 k n a (Nat.zero_le _), Nat.zero_add] at hc
  have HC := Lib.hid hc
  clear hc
  go_enter Try.func64, Try.ntmps64
  go_wp2_with fail
  have hI : ∀ x, RoomI args (w.heap.size + 1 + 1) (w.heap.size + 1) sb 0 (((w.alloc x).alloc (.cells #[.slice (some ⟨sb, 0, none⟩) args.len args.len] 47)).alloc (.cells #[.int .i64 0] 3)) := by
    intro x
    refine ⟨?_, cell_box (alloc_kept (heap_new2 _ _ _) _), by omega, by omega, fun i hi => ⟨?_, (hS i hi).2⟩⟩
    · have h := heap_new2 (w.alloc x) (.cells #[.slice (some ⟨sb, 0, none⟩) args.len args.len] 47) (.cells #[.int .i64 0] 3)
      rw [World.size_alloc] at h
      exact h
    · rw [keep_alloc _ _ _ _ (by simp only [World.size_alloc]; omega), keep_alloc _ _ _ _ (by simp only [World.size_alloc]; omega), keep_alloc _ _ _ _ hsb]
      exact (hS i hi).1
  refine (HC.out _ (hI _) (((his.alloc _).alloc _).alloc _)).mono ?_
  rintro e w1 ⟨rfl, hI1, hb1⟩
  go_wp2_with fail
  go_ret
  exact ⟨rfl, ((((Below.refl w.heap.size w).alloc (Nat.le_refl _) _).alloc (by simp) _).alloc (by simp; omega) _).trans (grown_below (by simp; omega) (by omega) hb1)⟩

end Go.Proofs.Ytlgfaobbjnhfoaa
