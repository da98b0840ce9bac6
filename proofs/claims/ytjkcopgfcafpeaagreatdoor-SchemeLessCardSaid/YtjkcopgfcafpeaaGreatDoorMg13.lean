/-
  Parts of one proof, laid into one text: TWalkF, TWalkG, TWalkH, TWalkI. Conditions: each part names its own.
-/
import Derived.Test.YtjkcopgfcafpeaaGreatDoorMg12
import Derived.Test.YtjkcopgfcafpeaaGreatDoorMg05
import Derived.Lib.AppendZeros
import Derived.Deep.AppendLies
import Derived.Deep.RegionLaw
import Derived.Test.YtjkcopgfcafpeaaGreatDoorMg07

/-
  The walks of slices.Grow from nothing, of join, fresh and replace, which make terms anew. Conditions: at most 100000 nodes.
-/
set_option linter.unusedSimpArgs false
set_option linter.unusedVariables false
namespace Go.Proofs.YtjkcopgfcafpeaaGreatDoor
open Go.RowKit

theorem infoX : (Tryz.prog.info? 50).map (fun i => (i.zero, i.size, i.bytes)) = some (some (.agg #[.int .i64 0, .int .i64 0, .slice none 0 0]), 3, 40) := by kernel_rfl

theorem zeroCells_size (z : Array Value) (n : Nat) : (Builtin.zeroCells z n).size = n * z.size := by simp [Builtin.zeroCells]

/-- a term made anew -/
def Made (k n : Int) (a : X) (W : World) (e : Ending) (w' : World) : Prop := ∃ q c, e = .returned (.agg #[.int .i64 k, .int .i64 n, .slice q a.len c]) ∧ OwnX w' a q c W.heap.size w'.heap.size ∧ Below W.heap.size W w'

theorem ownsRow_later {wr w1 : World} {B : Nat} {ty : TypeId} {v : Value} {n : Nat} {xs : List Value} (h : wr.ownsRow B ty 3 v n xs) (hb : Below wr.heap.size wr w1) : w1.ownsRow B ty 3 v n xs := by
  refine h.kept (row := none) ⟨hb.os, hb.tape, hb.output, hb.size, fun k hk _ => hb.block k hk⟩ ?_
  cases v.ownBlock with
  | none => exact Or.inl rfl
  | some g => exact Or.inr (by simp)

/-- behind a round: a box X, the call, the new cells Y, the append -/
theorem GotX.round {w wr w1 w3 : World} {ty : TypeId} {y : X} {v : Value} {q : Option Addr} {c g cap : Nat} {xs : List Value} {k n : Int} {a : X} {ox oy : Obj} (hb : Below w.heap.size w wr)
    (hown0 : wr.ownsRow w.heap.size ty 3 v y.len xs) (hkids : KidsX wr y xs v.ownBlock w.heap.size wr.heap.size)
    (hb1 : Below (wr.alloc ox).heap.size (wr.alloc ox) w1) (hO : OwnX w1 a q c (wr.alloc ox).heap.size w1.heap.size)
    (hown : w3.ownsRow w.heap.size ty 3 (.slice (some ⟨g, 0, none⟩) (y.len + 1) cap) (y.len + 1) (xs ++ [.int .i64 k, .int .i64 n, .slice q a.len c]))
    (hgrow : (w1.alloc oy).grownBy w3 v.ownBlock) (hat : v.ownBlock = some g ∨ g = w1.heap.size + 1) :
    GotX w3 ty (y.snoc k n a) (.slice (some ⟨g, 0, none⟩) (y.len + 1) cap) w.heap.size ∧ Below w.heap.size w w3 := by
  have hz1 := hb1.size
  simp only [World.size_alloc] at hz1 hO
  have hlt := hown0.lt
  refine ⟨GotX.push (wy := w1.alloc oy) (lo := wr.heap.size + 1) (hi := w1.heap.size) hown0 hkids ?_ (hO.keep fun j _ b => Below.heap_alloc _ _ _ b) (Nat.le_succ _) hz1 (by simp) hown hgrow (by simpa using hat), ?_⟩
  · intro j hj
    rw [Below.heap_alloc _ _ _ (by omega), hb1.block j (by simp only [World.size_alloc]; omega), Below.heap_alloc _ _ _ hj]
  · have h1 : Below w.heap.size w w1 := base_next hb hb1
    exact (h1.alloc h1.size oy).grown hgrow (by have := h1.size; simp only [World.size_alloc]; omega) fun j hj => (hlt j hj).1

end Go.Proofs.YtjkcopgfcafpeaaGreatDoor

/-
  The walks of fresh and Apply's and Subst's makers: what they make is the term, or the term with args in the place of its variables. Conditions: at most 100000 nodes.
-/
set_option linter.unusedSimpArgs false
set_option linter.unusedVariables false
namespace Go.Proofs.YtjkcopgfcafpeaaGreatDoor
open Go.RowKit

theorem isX_nil (w : World) : IsX w .nil none 0 0 := ⟨rfl, Nat.le_refl _, by simp [maxLen], fun _ => rfl, Or.inl rfl⟩

theorem frozen3 {w w' : World} {b o : Nat} {B : Nat} (hb : Below B w w') (hlt : b < B) (h : w.frozen? ⟨b, o, none⟩ = false) : w'.frozen? ⟨b, o, none⟩ = false := by
  rw [(bcell hb).2 _ _ hlt]; exact h

/-- what stands in the boxes behind the call -/
theorem fresh_facts (w : World) (k n : Int) (p : Option Addr) (l cap : Nat) (w1 : World)
    (hb : Below ((w.alloc (.cells #[.int .i64 k, .int .i64 n, .slice p l cap] 50)).alloc (.cells #[.int .i64 0, .int .i64 0, .slice none 0 0] 50)).drew.heap.size ((w.alloc (.cells #[.int .i64 k, .int .i64 n, .slice p l cap] 50)).alloc (.cells #[.int .i64 0, .int .i64 0, .slice none 0 0] 50)).drew w1) :
    w1.cell? ⟨w.heap.size, 0, none⟩ = some (.int .i64 k) ∧ w1.cell? ⟨w.heap.size, 1, none⟩ = some (.int .i64 n) ∧ w1.cell? ⟨w.heap.size, 2, none⟩ = some (.slice p l cap) ∧
    w1.cell? ⟨w.heap.size + 1, 0, none⟩ = some (.int .i64 0) ∧ w1.cell? ⟨w.heap.size + 1, 1, none⟩ = some (.int .i64 0) ∧ w1.cell? ⟨w.heap.size + 1, 2, none⟩ = some (.slice none 0 0) ∧
    w1.frozen? ⟨w.heap.size + 1, 0, none⟩ = false ∧ w1.frozen? ⟨w.heap.size + 1, 1, none⟩ = false ∧ w1.frozen? ⟨w.heap.size + 1, 2, none⟩ = false ∧ w.heap.size + 2 ≤ w1.heap.size := by
  have hz : ((w.alloc (.cells #[.int .i64 k, .int .i64 n, .slice p l cap] 50)).alloc (.cells #[.int .i64 0, .int .i64 0, .slice none 0 0] 50)).drew.heap.size = w.heap.size + 2 := by simp
  have hs := hb.size
  rw [hz] at hb hs
  obtain ⟨h1, h2⟩ := bcell hb
  refine ⟨?_, ?_, ?_, ?_, ?_, ?_, ?_, ?_, ?_, hs⟩
  · rw [h1 _ _ (by omega)]; simp
  · rw [h1 _ _ (by omega)]; simp
  · rw [h1 _ _ (by omega)]; simp
  · rw [h1 _ _ (by omega)]; simp
  · rw [h1 _ _ (by omega)]; simp
  · rw [h1 _ _ (by omega)]; simp
  · rw [h2 _ _ (by omega)]; simp
  · rw [h2 _ _ (by omega)]; simp
  · rw [h2 _ _ (by omega)]; simp

end Go.Proofs.YtjkcopgfcafpeaaGreatDoor

/-
  The walks of replace and of its function literal: a term with args in the place of its variables, made anew. Conditions: at most 100000 nodes; each variable is the number of an arg.
-/
set_option linter.unusedSimpArgs false
set_option linter.unusedVariables false
namespace Go.Proofs.YtjkcopgfcafpeaaGreatDoor
open Go.RowKit

/-- a term whose arguments have become ra, with args in the place of its head -/
def rep1 (args : X) (k n : Int) (ra : X) : Int × Int × X := if k = 0 then (args.gk n.toNat, args.gn n.toNat, (args.ga n.toNat).app ra) else (k, n, ra)

/-- each term of a list, with args in the place of its variables -/
def rep (args : X) : X → X
  | .nil => .nil
  | .cons k n a r => .cons (rep1 args k n (rep args a)).1 (rep1 args k n (rep args a)).2.1 (rep1 args k n (rep args a)).2.2 (rep args r)

theorem rep_map (args t : X) : t.map (fun k n a => rep1 args k n (rep args a)) = rep args t := by
  induction t with
  | nil => rfl
  | cons k n a r iha ihr => simp only [X.map, rep, ihr]

/-- what may stand at a node where args are substituted -/
def Known (args : X) (k n : Int) (_ : X) : Prop := k ≠ 0 ∨ (0 ≤ n ∧ n < args.len)

/-- the args in their variable -/
def EnvA (args : X) (cb : Nat) (q : Option Addr) (m cap : Nat) (W : World) : Prop := W.cell? ⟨cb, 0, none⟩ = some (.slice q m cap) ∧ IsX W args q m cap

theorem EnvA.later {args : X} {cb m cap : Nat} {q : Option Addr} (W W' : World) (h : EnvA args cb q m cap W) (hb : Below W.heap.size W W') : EnvA args cb q m cap W' :=
  ⟨by rw [(bcell hb).1 _ _ (lt_of_cell h.1)]; exact h.1, h.2.below hb⟩

/-- the three result cells are written -/
theorem OwnX.set3 {w1 : World} {a : X} {r : Option Addr} {c lo b : Nat} (u v x : Value) (hO : OwnX w1 a r c lo w1.heap.size) (hb : b < lo) {lo' : Nat} (hlo : lo' ≤ lo) :
    OwnX (((w1.setCell ⟨b, 0, none⟩ u).setCell ⟨b, 1, none⟩ v).setCell ⟨b, 2, none⟩ x) a r c lo' (((w1.setCell ⟨b, 0, none⟩ u).setCell ⟨b, 1, none⟩ v).setCell ⟨b, 2, none⟩ x).heap.size := by
  have h := (((hO.set (a := ⟨b, 0, none⟩) hb u).set (a := ⟨b, 1, none⟩) hb v).set (a := ⟨b, 2, none⟩) hb x).mono (lo' := lo') hlo (Nat.le_refl _)
  simpa [World.setCell] using h

theorem below_set3 {w w1 : World} {B b : Nat} (u v x : Value) (h : Below B w w1) (hb : B ≤ b) : Below B w (((w1.setCell ⟨b, 0, none⟩ u).setCell ⟨b, 1, none⟩ v).setCell ⟨b, 2, none⟩ x) :=
  ((h.setCell hb _).setCell hb _).setCell hb _

theorem heap4 (w : World) (x y z v : Obj) : ((((w.alloc x).alloc y).alloc z).alloc v).heap[w.heap.size]? = some x ∧ ((((w.alloc x).alloc y).alloc z).alloc v).heap[w.heap.size + 1]? = some y ∧
    ((((w.alloc x).alloc y).alloc z).alloc v).heap[w.heap.size + 1 + 1]? = some z ∧ ((((w.alloc x).alloc y).alloc z).alloc v).heap[w.heap.size + 1 + 1 + 1]? = some v := by
  refine ⟨alloc_kept (alloc_kept (alloc_kept (heap_new w x) y) z) v, alloc_kept (alloc_kept (heap_new2 w x y) z) v, ?_, ?_⟩
  · have h := heap_new2 (w.alloc x) y z
    rw [World.size_alloc] at h
    exact alloc_kept h v
  · have h := heap_new2 ((w.alloc x).alloc y) z v
    rw [World.size_alloc, World.size_alloc] at h
    exact h

theorem keep4 (w : World) (x y z v : Obj) (b o : Nat) (h : b < w.heap.size) : ((((w.alloc x).alloc y).alloc z).alloc v).cell? ⟨b, o, none⟩ = w.cell? ⟨b, o, none⟩ := by
  rw [keep_alloc _ _ _ _ (by simp only [World.size_alloc]; omega), keep_alloc _ _ _ _ (by simp only [World.size_alloc]; omega), keep_alloc _ _ _ _ (by simp only [World.size_alloc]; omega), keep_alloc _ _ _ _ h]

theorem free3 {W : World} {b : Nat} {u v x : Value} {ty : TypeId} (h : W.heap[b]? = some (.cells #[u, v, x] ty (0, 0))) : W.frozen? ⟨b, 0, none⟩ = false ∧ W.frozen? ⟨b, 1, none⟩ = false ∧ W.frozen? ⟨b, 2, none⟩ = false := by
  refine ⟨?_, ?_, ?_⟩ <;> simp [World.frozen?, h]

theorem cell_box {W : World} {b : Nat} {v : Value} {ty : TypeId} (h : W.heap[b]? = some (.cells #[v] ty (0, 0))) : W.cell? ⟨b, 0, none⟩ = some v := by simp [World.cell?, h]

end Go.Proofs.YtjkcopgfcafpeaaGreatDoor

/-
  The walks of the functions that Subst hands to all, and of roomy. Conditions: none but that the terms lie in memory.
-/
set_option linter.unusedSimpArgs false
set_option linter.unusedVariables false
namespace Go.Proofs.YtjkcopgfcafpeaaGreatDoor
open Go.RowKit

/-- a property of each term of a list, as a bool -/
def allB (P : Int → Int → X → Bool) : X → Bool
  | .nil => true
  | .cons k n a r => P k n a && allB P a && allB P r

def stepB (P : Int → Int → X → Bool) (s : Unit) (k n : Int) (a : X) : Unit × Bool := (s, P k n a)

theorem walk_allB (P : Int → Int → X → Bool) (t : X) : X.walk (stepB P) () t = ((), allB P t) := by
  induction t with
  | nil => rfl
  | cons k n a r iha ihr =>
    cases hp : P k n a with
    | false =>
      have e1 : stepB P () k n a = ((), false) := by unfold stepB; rw [hp]
      rw [X.walk_false r (X.walk1_false e1)]
      simp [allB, hp]
    | true =>
      have e1 : stepB P () k n a = ((), true) := by unfold stepB; rw [hp]
      have e2 := X.walk1_true e1
      rw [iha] at e2
      cases ha : allB P a with
      | false => rw [ha] at e2; rw [X.walk_false r e2]; simp [allB, ha]
      | true => rw [ha] at e2; rw [X.walk_true r e2, ihr]; simp [allB, hp, ha]

theorem walk1_allB (P : Int → Int → X → Bool) (k n : Int) (a : X) : X.walk1 (stepB P) () k n a = ((), P k n a && allB P a) := by
  rw [← X.walk_one, walk_allB]; simp [allB]

theorem allB_AllX {P : Int → Int → X → Bool} {t : X} (h : allB P t = true) : X.AllX (fun k n a => P k n a = true) t := by
  induction t with
  | nil => trivial
  | cons k n a r iha ihr =>
    simp only [allB, Bool.and_eq_true] at h
    exact ⟨h.1.1, iha h.1.2, ihr h.2⟩

theorem AllX_mono {G H : Int → Int → X → Prop} (hgh : ∀ k n a, G k n a → H k n a) {t : X} (h : X.AllX G t) : X.AllX H t := by
  induction t with
  | nil => trivial
  | cons k n a r iha ihr => exact ⟨hgh _ _ _ h.1, iha h.2.1, ihr h.2.2⟩

def kn (args : X) (k n : Int) (_ : X) : Bool := !decide (k = 0) || (decide (0 ≤ n) && decide (n < args.len))

theorem kn_known {args : X} {k n : Int} {a : X} (h : kn args k n a = true) : Known args k n a := by
  simp only [kn, Bool.or_eq_true, Bool.and_eq_true, Bool.not_eq_true', decide_eq_false_iff_not, decide_eq_true_eq] at h
  exact h

/-- the nodes that a list of terms has when args have been substituted -/
def gsz (args : X) : X → Nat
  | .nil => 0
  | .cons k n a r => (if k = 0 then 1 + (args.ga n.toNat).sz else 1) + gsz args a + gsz args r

/-- the same, of one node -/
def g1 (args : X) (k n : Int) : Nat := if k = 0 then 1 + (args.ga n.toNat).sz else 1

theorem gsz_rep (args t : X) : (rep args t).sz = gsz args t := by
  induction t with
  | nil => rfl
  | cons k n a r iha ihr =>
    simp only [rep, X.sz, gsz, ihr, rep1]
    by_cases h : k = 0
    · simp only [h, if_true, X.sz_app, iha]; omega
    · simp only [h, if_false, iha]

theorem rep1_sz (args : X) (k n : Int) (a : X) : 1 + (rep1 args k n (rep args a)).2.2.sz = g1 args k n + gsz args a := by
  simp only [rep1, g1, ← gsz_rep]
  by_cases h : k = 0
  · simp only [h, if_true, X.sz_app]; omega
  · simp only [h, if_false]

/-- what roomy does at a term -/
def rf (args : X) (c : Nat) (k n : Int) (_ : X) : Nat × Bool := (c + g1 args k n, decide (c + g1 args k n ≤ 100000))

theorem walk_rf (args : X) (t : X) : ∀ c, c ≤ 100000 → (X.walk (rf args) c t).2 = decide (c + gsz args t ≤ 100000) ∧ (c + gsz args t ≤ 100000 → (X.walk (rf args) c t).1 = c + gsz args t) := by
  induction t with
  | nil => intro c hc; simp [X.walk, gsz, hc]
  | cons k n a r iha ihr =>
    intro c hc
    have hg : gsz args (.cons k n a r) = g1 args k n + gsz args a + gsz args r := rfl
    rw [hg]
    by_cases h1 : c + g1 args k n ≤ 100000
    · have e1 : rf args c k n a = (c + g1 args k n, true) := by unfold rf; rw [decide_eq_true h1]
      have e2 := X.walk1_true e1
      obtain ⟨a1, a2⟩ := iha _ h1
      by_cases h2 : c + g1 args k n + gsz args a ≤ 100000
      · have e3 : X.walk1 (rf args) c k n a = (c + g1 args k n + gsz args a, true) := by
          rw [e2]
          exact Prod.ext (a2 h2) (by rw [a1, decide_eq_true h2])
        rw [X.walk_true r e3]
        obtain ⟨b1, b2⟩ := ihr _ h2
        refine ⟨?_, fun h => ?_⟩
        · rw [b1]; congr 1; rw [eq_iff_iff]; omega
        · rw [b2 (by omega)]; omega
      · have e3 : X.walk1 (rf args) c k n a = ((X.walk (rf args) (c + g1 args k n) a).1, false) := by
          rw [e2]
          exact Prod.ext rfl (by rw [a1, decide_eq_false h2])
        rw [X.walk_false r e3]
        exact ⟨(decide_eq_false (by omega)).symm, fun h => by omega⟩
    · have e1 : rf args c k n a = (c + g1 args k n, false) := by unfold rf; rw [decide_eq_false h1]
      rw [X.walk_false r (X.walk1_false e1)]
      exact ⟨(decide_eq_false (by omega)).symm, fun h => by omega⟩

theorem walk1_rf (args : X) (c : Nat) (k n : Int) (a : X) (hc : c ≤ 100000) : (X.walk1 (rf args) c k n a).2 = decide (c + (g1 args k n + gsz args a) ≤ 100000) := by
  rw [← X.walk_one, (walk_rf args _ c hc).1]
  rfl

/-- the sizes of the args, in a row of ints -/
def Sizes (args : X) (sb : Nat) (w : World) : Prop := ∀ i, i < args.len → w.cell? ⟨sb, i, none⟩ = some (.int .i64 (1 + ((args.ga i).sz : Int))) ∧ (args.ga i).sz < 100000

/-- what roomy's function literal needs: its counter, the variable of the sizes, and these -/
def RoomI (args : X) (bc c1 sb : Nat) (c : Nat) (w : World) : Prop :=
  w.heap[bc]? = some (.cells #[.int .i64 (c : Int)] 3 (0, 0)) ∧ w.cell? ⟨c1, 0, none⟩ = some (.slice (some ⟨sb, 0, none⟩) args.len args.len) ∧ c1 ≠ bc ∧ sb ≠ bc ∧ Sizes args sb w

theorem RoomI.keep {args : X} {bc c1 sb c d : Nat} {w w' : World} (h : RoomI args bc c1 sb c w) (hg : w.grownBy w' (some bc)) (hd : w'.heap[bc]? = some (.cells #[.int .i64 (d : Int)] 3 (0, 0))) : RoomI args bc c1 sb d w' := by
  obtain ⟨h1, h2, h3, h4, h5⟩ := h
  refine ⟨hd, ?_, h3, h4, fun i hi => ⟨?_, (h5 i hi).2⟩⟩
  · rw [hg.cell_far ⟨c1, 0, none⟩ (lt_of_cell h2) (by simpa using h3)]; exact h2
  · rw [hg.cell_far ⟨sb, i, none⟩ (lt_of_cell (h5 i hi).1) (by simpa using h4)]; exact (h5 i hi).1

theorem Cnt.write' {w : World} {bc c d : Nat} {z : Int} {ty : TypeId} (hz : z = d) (h0 : w.heap[bc]? = some (.cells #[.int .i64 (c : Int)] ty (0, 0))) : Cnt w (w.setCell ⟨bc, 0, none⟩ (.int .i64 z)) bc ty d := by
  subst hz; exact Cnt.write h0

end Go.Proofs.YtjkcopgfcafpeaaGreatDoor

