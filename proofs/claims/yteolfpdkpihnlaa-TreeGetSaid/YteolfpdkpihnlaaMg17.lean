/-
  Parts of one proof, laid into one text: TWalkF, TWalkG, TWalkH. Conditions: each part names its own.
-/
import Derived.Test.YteolfpdkpihnlaaMg15
import Derived.Test.YteolfpdkpihnlaaMg05
import Derived.Lib.AppendZeros
import Derived.Deep.AppendLies
import Derived.Deep.RegionLaw

/-
  The walks of slices.Grow from nothing, of join, fresh and replace, which make terms anew. Conditions: at most 100000 nodes.
-/
set_option linter.unusedSimpArgs false
set_option linter.unusedVariables false
namespace Go.Proofs.Yteolfpdkpihnlaa
open Go.RowKit

theorem zeroCells_size (z : Array Value) (n : Nat) : (Builtin.zeroCells z n).size = n * z.size := by simp [Builtin.zeroCells]

/-- a term made anew -/
def Made (k n : Int) (a : X) (W : World) (e : Ending) (w' : World) : Prop := ∃ q c, e = .returned (.agg #[.int .i64 k, .int .i64 n, .slice q a.len c]) ∧ OwnX w' a q c W.heap.size w'.heap.size ∧ Below W.heap.size W w'

theorem ownsRow_later {wr w1 : World} {B : Nat} {ty : TypeId} {v : Value} {n : Nat} {xs : List Value} (h : wr.ownsRow B ty 3 v n xs) (hb : Below wr.heap.size wr w1) : w1.ownsRow B ty 3 v n xs := by
  refine h.kept (row := none) ⟨hb.os, hb.tape, hb.output, hb.size, fun k hk _ => hb.block k hk⟩ ?_
  cases v.ownBlock with
  | none => exact Or.inl rfl
  | some g => exact Or.inr (by simp)

/-- behind a round: a box X, the call, the new cells Y, the append -/
theorem GotX.round {w wr w1 w3 : World} {ty : TypeId} {y : X} {v : Value} {q : Option Addr} {c g cap : Nat} {xs : List Value} {k n : Int} {a : X} {ox oy : Obj} (hb : Below w.heap.size w wr)
    (hown0 : wr.ownsRow w.heap.size ty 3 v y.len xs) (hkids : KidsX wr y xs v.ownBlock w.heap.size wr.heap.size)
    (hb1 : Below (wr.alloc ox).heap.size (wr.alloc ox) w1) (hO : OwnX w1 a q c (wr.alloc ox).heap.size w1.heap.size)
    (hown : w3.ownsRow w.heap.size ty 3 (.slice (some ⟨g, 0, none⟩) (y.len + 1) cap) (y.len + 1) (xs ++ [.int .i64 k, .int .i64 n, .slice q a.len c]))
    (hgrow : (w1.alloc oy).grownBy w3 v.ownBlock) (hat : v.ownBlock = some g ∨ g = w1.heap.size + 1) :
    GotX w3 ty (y.snoc k n a) (.slice (some ⟨g, 0, none⟩) (y.len + 1) cap) w.heap.size ∧ Below w.heap.size w w3 := by
  have hz1 := hb1.size
  simp only [World.size_alloc] at hz1 hO
  have hlt := hown0.lt
  refine ⟨GotX.push (wy := w1.alloc oy) (lo := wr.heap.size + 1) (hi := w1.heap.size) hown0 hkids ?_ (hO.keep fun j _ b => Below.heap_alloc _ _ _ b) (Nat.le_succ _) hz1 (by simp) hown hgrow (by simpa using hat), ?_⟩
  · intro j hj
    rw [Below.heap_alloc _ _ _ (by omega), hb1.block j (by simp only [World.size_alloc]; omega), Below.heap_alloc _ _ _ hj]
  · have h1 : Below w.heap.size w w1 := base_next hb hb1
    exact (h1.alloc h1.size oy).grown hgrow (by have := h1.size; simp only [World.size_alloc]; omega) fun j hj => (hlt j hj).1

end Go.Proofs.Yteolfpdkpihnlaa

/-
  The walks of fresh and Apply's and Subst's makers: what they make is the term, or the term with args in the place of its variables. Conditions: at most 100000 nodes.
-/
set_option linter.unusedSimpArgs false
set_option linter.unusedVariables false
namespace Go.Proofs.Yteolfpdkpihnlaa
open Go.RowKit

theorem isX_nil (w : World) : IsX w .nil none 0 0 := ⟨rfl, Nat.le_refl _, by simp [maxLen], fun _ => rfl, Or.inl rfl⟩

theorem frozen3 {w w' : World} {b o : Nat} {B : Nat} (hb : Below B w w') (hlt : b < B) (h : w.frozen? ⟨b, o, none⟩ = false) : w'.frozen? ⟨b, o, none⟩ = false := by
  rw [(bcell hb).2 _ _ hlt]; exact h

end Go.Proofs.Yteolfpdkpihnlaa

/-
  The walks of replace and of its function literal: a term with args in the place of its variables, made anew. Conditions: at most 100000 nodes; each variable is the number of an arg.
-/
set_option linter.unusedSimpArgs false
set_option linter.unusedVariables false
namespace Go.Proofs.Yteolfpdkpihnlaa
open Go.RowKit

/-- a term whose arguments have become ra, with args in the place of its head -/
def rep1 (args : X) (k n : Int) (ra : X) : Int × Int × X := if k = 0 then (args.gk n.toNat, args.gn n.toNat, (args.ga n.toNat).app ra) else (k, n, ra)

/-- each term of a list, with args in the place of its variables -/
def rep (args : X) : X → X
  | .nil => .nil
  | .cons k n a r => .cons (rep1 args k n (rep args a)).1 (rep1 args k n (rep args a)).2.1 (rep1 args k n (rep args a)).2.2 (rep args r)

theorem rep_map (args t : X) : t.map (fun k n a => rep1 args k n (rep args a)) = rep args t := by
  induction t with
  | nil => rfl
  | cons k n a r iha ihr => simp only [X.map, rep, ihr]

/-- what may stand at a node where args are substituted -/
def Known (args : X) (k n : Int) (_ : X) : Prop := k ≠ 0 ∨ (0 ≤ n ∧ n < args.len)

/-- the args in their variable -/
def EnvA (args : X) (cb : Nat) (q : Option Addr) (m cap : Nat) (W : World) : Prop := W.cell? ⟨cb, 0, none⟩ = some (.slice q m cap) ∧ IsX W args q m cap

theorem EnvA.later {args : X} {cb m cap : Nat} {q : Option Addr} (W W' : World) (h : EnvA args cb q m cap W) (hb : Below W.heap.size W W') : EnvA args cb q m cap W' :=
  ⟨by rw [(bcell hb).1 _ _ (lt_of_cell h.1)]; exact h.1, h.2.below hb⟩

/-- the three result cells are written -/
theorem OwnX.set3 {w1 : World} {a : X} {r : Option Addr} {c lo b : Nat} (u v x : Value) (hO : OwnX w1 a r c lo w1.heap.size) (hb : b < lo) {lo' : Nat} (hlo : lo' ≤ lo) :
    OwnX (((w1.setCell ⟨b, 0, none⟩ u).setCell ⟨b, 1, none⟩ v).setCell ⟨b, 2, none⟩ x) a r c lo' (((w1.setCell ⟨b, 0, none⟩ u).setCell ⟨b, 1, none⟩ v).setCell ⟨b, 2, none⟩ x).heap.size := by
  have h := (((hO.set (a := ⟨b, 0, none⟩) hb u).set (a := ⟨b, 1, none⟩) hb v).set (a := ⟨b, 2, none⟩) hb x).mono (lo' := lo') hlo (Nat.le_refl _)
  simpa [World.setCell] using h

theorem below_set3 {w w1 : World} {B b : Nat} (u v x : Value) (h : Below B w w1) (hb : B ≤ b) : Below B w (((w1.setCell ⟨b, 0, none⟩ u).setCell ⟨b, 1, none⟩ v).setCell ⟨b, 2, none⟩ x) :=
  ((h.setCell hb _).setCell hb _).setCell hb _

theorem heap4 (w : World) (x y z v : Obj) : ((((w.alloc x).alloc y).alloc z).alloc v).heap[w.heap.size]? = some x ∧ ((((w.alloc x).alloc y).alloc z).alloc v).heap[w.heap.size + 1]? = some y ∧
    ((((w.alloc x).alloc y).alloc z).alloc v).heap[w.heap.size + 1 + 1]? = some z ∧ ((((w.alloc x).alloc y).alloc z).alloc v).heap[w.heap.size + 1 + 1 + 1]? = some v := by
  refine ⟨alloc_kept (alloc_kept (alloc_kept (heap_new w x) y) z) v, alloc_kept (alloc_kept (heap_new2 w x y) z) v, ?_, ?_⟩
  · have h := heap_new2 (w.alloc x) y z
    rw [World.size_alloc] at h
    exact alloc_kept h v
  · have h := heap_new2 ((w.alloc x).alloc y) z v
    rw [World.size_alloc, World.size_alloc] at h
    exact h

theorem keep4 (w : World) (x y z v : Obj) (b o : Nat) (h : b < w.heap.size) : ((((w.alloc x).alloc y).alloc z).alloc v).cell? ⟨b, o, none⟩ = w.cell? ⟨b, o, none⟩ := by
  rw [keep_alloc _ _ _ _ (by simp only [World.size_alloc]; omega), keep_alloc _ _ _ _ (by simp only [World.size_alloc]; omega), keep_alloc _ _ _ _ (by simp only [World.size_alloc]; omega), keep_alloc _ _ _ _ h]

theorem free3 {W : World} {b : Nat} {u v x : Value} {ty : TypeId} (h : W.heap[b]? = some (.cells #[u, v, x] ty (0, 0))) : W.frozen? ⟨b, 0, none⟩ = false ∧ W.frozen? ⟨b, 1, none⟩ = false ∧ W.frozen? ⟨b, 2, none⟩ = false := by
  refine ⟨?_, ?_, ?_⟩ <;> simp [World.frozen?, h]

theorem cell_box {W : World} {b : Nat} {v : Value} {ty : TypeId} (h : W.heap[b]? = some (.cells #[v] ty (0, 0))) : W.cell? ⟨b, 0, none⟩ = some v := by simp [World.cell?, h]

end Go.Proofs.Yteolfpdkpihnlaa

