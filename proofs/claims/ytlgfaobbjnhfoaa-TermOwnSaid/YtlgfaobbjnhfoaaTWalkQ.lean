/-
  The walks of the statements' own example, and of what holds of it. Conditions: none.
-/
import Derived.Test.YtlgfaobbjnhfoaaTWalkP
set_option linter.unusedSimpArgs false
set_option linter.unusedVariables false
namespace Go.Proofs.Ytlgfaobbjnhfoaa
open Go.RowKit

set_option maxHeartbeats 400000 in
theorem variable_any (n : Int) (w : World) (p : Option Addr) (l cap : Nat) :
    Calls Try.prog 34 #[.int .i64 n, .slice p l cap] w fun e w' => e = .returned (.agg #[.int .i64 0, .int .i64 n, .slice p l cap]) ∧ w' = w.alloc (.cells #[.int .i64 0, .int .i64 n, .slice p l cap] 35) := by
  go_enter Try.func34, Try.ntmps34
  go_wp2_with fail
  exact bodyPost_ret (v := .agg #[.int .i64 0, .int .i64 n, .slice p l cap]) (by simp [results, Try.results34, go_sem]) rfl ⟨rfl, rfl⟩

set_option maxHeartbeats 400000 in
theorem symbol_any (n : Int) (w : World) (p : Option Addr) (l cap : Nat) :
    Calls Try.prog 45 #[.int .i64 n, .slice p l cap] w fun e w' => e = .returned (.agg #[.int .i64 2, .int .i64 n, .slice p l cap]) ∧ w' = w.alloc (.cells #[.int .i64 2, .int .i64 n, .slice p l cap] 35) := by
  go_enter Try.func45, Try.ntmps45
  go_wp2_with fail
  exact bodyPost_ret (v := .agg #[.int .i64 2, .int .i64 n, .slice p l cap]) (by simp [results, Try.results45, go_sem]) rfl ⟨rfl, rfl⟩

/-- the example's place -/
def exP : Pl := ⟨⟨2, fun i => if i = 0 then ⟨#[97]⟩ else ⟨#[99]⟩, fun i => if i = 0 then 2 else 0⟩, .nil, .cons (.cons .nil .nil) (.cons .nil .nil)⟩

/-- the arguments of its term, of which head is variable 0 -/
def exA : X := .cons 0 0 (.cons 0 1 .nil .nil) .nil

/-- its args -/
def exS : X := .cons 2 0 (.cons 2 1 .nil .nil) (.cons 2 1 .nil .nil)

/-- the arguments of what is wanted, of which head is symbol 0 -/
def exW : X := .cons 2 1 .nil (.cons 2 0 (.cons 2 1 .nil (.cons 2 1 .nil .nil)) .nil)

theorem ex_sort : sortRes exP 0 0 exA = (0, .nil) := by kernel_rfl

theorem ex_sub : subRes exS 0 0 exA = (0, 2, 0, exW) := by kernel_rfl

/-- several blocks more -/
def allocs (w : World) (l : List Obj) : World := l.foldl World.alloc w

theorem allocs_size (l : List Obj) : ∀ w : World, (allocs w l).heap.size = w.heap.size + l.length := by
  induction l with
  | nil => intro w; rfl
  | cons o r ih =>
    intro w
    show (allocs (w.alloc o) r).heap.size = _
    rw [ih, World.size_alloc, List.length_cons]; omega

theorem allocs_below (l : List Obj) : ∀ w : World, Below w.heap.size w (allocs w l) := by
  induction l with
  | nil => intro w; exact Below.refl _ _
  | cons o r ih =>
    intro w
    have h := ih (w.alloc o)
    exact ((Below.refl w.heap.size w).alloc (Nat.le_refl _) o).trans (h.mono (by simp))

theorem allocs_at (l : List Obj) : ∀ (w : World) (k : Nat) (o : Obj), l[k]? = some o → (allocs w l).heap[w.heap.size + k]? = some o := by
  induction l with
  | nil => intro w k o h; simp at h
  | cons x r ih =>
    intro w k o h
    cases k with
    | zero =>
      have hx : x = o := by simpa using h
      subst hx
      show (allocs (w.alloc x) r).heap[w.heap.size]? = _
      rw [(allocs_below r (w.alloc x)).block _ (by simp)]
      exact heap_new w x
    | succ k =>
      have := ih (w.alloc x) k o (by simpa using h)
      rw [World.size_alloc] at this
      show (allocs (w.alloc x) r).heap[w.heap.size + (k + 1)]? = _
      rw [show w.heap.size + (k + 1) = w.heap.size + 1 + k by omega]
      exact this

theorem allocs_cell (l : List Obj) (w : World) {b o : Nat} {v : Value} (h : w.cell? ⟨b, o, none⟩ = some v) : (allocs w l).cell? ⟨b, o, none⟩ = some v := by
  rw [(bcell (allocs_below l w)).1 _ _ (lt_of_cell h)]; exact h

/-- the blocks that the example's first part lays -/
def exL (n : Nat) : List Obj :=
  [.cells #[.slice none 0 0] 40,
   .cells #[.string ⟨#[97]⟩, .int .i64 2, .string ⟨#[99]⟩, .int .i64 0] 66,
   .cells #[.slice none 0 0] 40,
   .cells #[.slice (some ⟨n + 2, 0, none⟩) 1 1, .slice none 0 0] 40,
   .cells #[.slice (some ⟨n + 1, 0, none⟩) 2 2, .slice none 0 0, .slice (some ⟨n + 3, 0, none⟩) 2 2] 28,
   .cells #[.int .i64 0, .int .i64 1, .slice none 0 0] 35,
   .cells #[.int .i64 0, .int .i64 1, .slice none 0 0] 35,
   .cells #[.int .i64 0, .int .i64 0, .slice (some ⟨n + 6, 0, none⟩) 1 1] 35,
   .cells #[.int .i64 0, .int .i64 0, .slice (some ⟨n + 6, 0, none⟩) 1 1] 35,
   .cells #[.int .i64 0, .int .i64 0, .slice (some ⟨n + 8, 0, none⟩) 1 1] 35,
   .cells #[.int .i64 0, .int .i64 0, .slice (some ⟨n + 8, 0, none⟩) 1 1] 35]

def exAt (n : Nat) : At3 := ⟨some ⟨n + 1, 0, none⟩, 2, 2, none, 0, 0, some ⟨n + 3, 0, none⟩, 2, 2⟩

theorem cell_at {W : World} {b i : Nat} {cs : Array Value} {ty : TypeId} {v : Value} (h : W.heap[b]? = some (.cells cs ty (0, 0))) (hi : cs[i]? = some v) : W.cell? ⟨b, i, none⟩ = some v := by
  rw [cell_of_row W b i cs _ _ h]; exact hi

theorem ex_isP (w : World) : IsP (allocs w (exL w.heap.size)) exP (exAt w.heap.size) := by
  have h1 := allocs_at (exL w.heap.size) w 1 _ rfl
  have h2 := allocs_at (exL w.heap.size) w 2 _ rfl
  have h3 := allocs_at (exL w.heap.size) w 3 _ rfl
  refine ⟨⟨rfl, Nat.le_refl _, by simp [exAt, maxLen], fun e => by simp [exAt] at e, Or.inr ⟨_, 0, rfl, ?_⟩⟩, ⟨rfl, Nat.le_refl _, by simp [exAt, maxLen], fun _ => rfl, Or.inl rfl⟩, ⟨rfl, Nat.le_refl _, by simp [exAt, maxLen], fun e => by simp [exAt] at e, Or.inr ⟨_, 0, rfl, ?_⟩⟩⟩
  · intro i hi
    have : i < 2 := hi
    rcases i with _ | _ | i
    · exact ⟨cell_at h1 rfl, cell_at h1 rfl⟩
    · exact ⟨cell_at h1 rfl, cell_at h1 rfl⟩
    · omega
  · refine ⟨⟨some ⟨w.heap.size + 2, 0, none⟩, 1, cell_at h3 rfl, Nat.le_refl _, by simp [maxLen], fun e => by simp at e, Or.inr ⟨_, 0, rfl, ⟨none, 0, cell_at h2 rfl, Nat.le_refl _, by simp [maxLen], fun _ => rfl, Or.inl rfl⟩, trivial⟩⟩, ⟨none, 0, cell_at h3 rfl, Nat.le_refl _, by simp [maxLen], fun _ => rfl, Or.inl rfl⟩, trivial⟩

theorem ex_isX (w : World) : IsX (allocs w (exL w.heap.size)) exA (some ⟨w.heap.size + 8, 0, none⟩) 1 1 := by
  have h1 := allocs_at (exL w.heap.size) w 6 _ rfl
  have h2 := allocs_at (exL w.heap.size) w 8 _ rfl
  refine ⟨rfl, Nat.le_refl _, by simp [maxLen], fun e => by simp at e, Or.inr ⟨_, 0, rfl, cell_at h2 rfl, cell_at h2 rfl, ⟨some ⟨w.heap.size + 6, 0, none⟩, 1, cell_at h2 rfl, Nat.le_refl _, by simp [maxLen], fun e => by simp at e, Or.inr ⟨_, 0, rfl, cell_at h1 rfl, cell_at h1 rfl, ⟨none, 0, cell_at h1 rfl, Nat.le_refl _, by simp [maxLen], fun _ => rfl, Or.inl rfl⟩, trivial⟩⟩, trivial⟩⟩

/-- the blocks that its second part lays: the args -/
def exL2 (n : Nat) : List Obj :=
  [.cells #[.int .i64 2, .int .i64 1, .slice none 0 0] 35,
   .cells #[.int .i64 2, .int .i64 1, .slice none 0 0] 35,
   .cells #[.int .i64 2, .int .i64 0, .slice (some ⟨n + 1, 0, none⟩) 1 1] 35,
   .cells #[.int .i64 2, .int .i64 1, .slice none 0 0] 35,
   .cells #[.int .i64 2, .int .i64 0, .slice (some ⟨n + 1, 0, none⟩) 1 1, .int .i64 2, .int .i64 1, .slice none 0 0] 35]

/-- the args, in whatever world has their two rows -/
theorem isS_of {W : World} {b1 b2 : Nat} (h2 : W.heap[b2]? = some (.cells #[.int .i64 2, .int .i64 0, .slice (some ⟨b1, 0, none⟩) 1 1, .int .i64 2, .int .i64 1, .slice none 0 0] 35 (0, 0)))
    (h1 : W.heap[b1]? = some (.cells #[.int .i64 2, .int .i64 1, .slice none 0 0] 35 (0, 0))) : IsX W exS (some ⟨b2, 0, none⟩) 2 2 :=
  ⟨rfl, Nat.le_refl _, by simp [maxLen], fun e => by simp at e, Or.inr ⟨_, 0, rfl, cell_at h2 rfl, cell_at h2 rfl, ⟨some ⟨b1, 0, none⟩, 1, cell_at h2 rfl, Nat.le_refl _, by simp [maxLen], fun e => by simp at e, Or.inr ⟨_, 0, rfl, cell_at h1 rfl, cell_at h1 rfl, ⟨none, 0, cell_at h1 rfl, Nat.le_refl _, by simp [maxLen], fun _ => rfl, Or.inl rfl⟩, trivial⟩⟩, cell_at h2 rfl, cell_at h2 rfl, ⟨none, 0, cell_at h2 rfl, Nat.le_refl _, by simp [maxLen], fun _ => rfl, Or.inl rfl⟩, trivial⟩⟩

theorem heap_new_eq {w : World} {x : Obj} {k : Nat} (h : k = w.heap.size) : (w.alloc x).heap[k]? = some x := by subst h; exact heap_new w x

theorem drew_later {W w : World} (hb : Below W.drew.heap.size W.drew w) : Below W.heap.size W w := ⟨hb.os, hb.tape, hb.output, hb.size, hb.block⟩

/-- the example's term -/
def IsA (p : Option Addr) (W : World) : Prop := IsX W exA p 1 1

theorem IsA.alloc {p : Option Addr} {W : World} (h : IsA p W) (o : Obj) : IsA p (W.alloc o) := IsX.alloc h o

theorem IsA.drew {p : Option Addr} {W : World} (h : IsA p W) : IsA p W.drew := IsX.drew h

theorem use_kept {P : Prop} {X w5 : World} {b : Nat} {o : Obj} (hb : Below X.drew.heap.size X.drew w5) (h : X.heap[b]? = some o) (k : w5.heap[b]? = some o → P) : P := k (box3_later (drew_later hb) h)

theorem heap_set3 {w : World} {b : Nat} {k n : Int} {v : Value} {ty : TypeId} (h : w.heap[b]? = some (.cells #[.int .i64 0, .int .i64 0, .slice none 0 0] ty (0, 0))) :
    (((w.setCell ⟨b, 0, none⟩ (.int .i64 k)).setCell ⟨b, 1, none⟩ (.int .i64 n)).setCell ⟨b, 2, none⟩ v).heap[b]? = some (.cells #[.int .i64 k, .int .i64 n, v] ty (0, 0)) :=
  heap_setCell_same _ b 2 _ ty v (heap_setCell_same _ b 1 _ ty _ (heap_setCell_same w b 0 _ ty _ h))

theorem heap_set3_far {w : World} {b j : Nat} {k n : Int} {v : Value} {o : Obj} (hj : j ≠ b) (h : w.heap[j]? = some o) :
    (((w.setCell ⟨b, 0, none⟩ (.int .i64 k)).setCell ⟨b, 1, none⟩ (.int .i64 n)).setCell ⟨b, 2, none⟩ v).heap[j]? = some o := by
  rw [Below.heap_setCell _ _ _ _ hj, Below.heap_setCell _ _ _ _ hj, Below.heap_setCell _ _ _ _ hj]; exact h

/-- the blocks that its third part lays: what is wanted -/
def exL3 (n : Nat) : List Obj :=
  [.cells #[.int .i64 2, .int .i64 1, .slice none 0 0] 35,
   .cells #[.int .i64 2, .int .i64 1, .slice none 0 0] 35,
   .cells #[.int .i64 2, .int .i64 1, .slice none 0 0] 35,
   .cells #[.int .i64 2, .int .i64 1, .slice none 0 0, .int .i64 2, .int .i64 1, .slice none 0 0] 35,
   .cells #[.int .i64 2, .int .i64 0, .slice (some ⟨n + 3, 0, none⟩) 2 2] 35,
   .cells #[.int .i64 2, .int .i64 1, .slice none 0 0, .int .i64 2, .int .i64 0, .slice (some ⟨n + 3, 0, none⟩) 2 2] 35,
   .cells #[.int .i64 2, .int .i64 0, .slice (some ⟨n + 5, 0, none⟩) 2 2] 35,
   .cells #[.int .i64 2, .int .i64 0, .slice (some ⟨n + 5, 0, none⟩) 2 2] 35]

theorem ex_isW (w : World) : IsX (allocs w (exL3 w.heap.size)) exW (some ⟨w.heap.size + 5, 0, none⟩) 2 2 := by
  have h1 := allocs_at (exL3 w.heap.size) w 3 _ rfl
  have h2 := allocs_at (exL3 w.heap.size) w 5 _ rfl
  refine ⟨rfl, Nat.le_refl _, by simp [maxLen], fun e => by simp at e, Or.inr ⟨_, 0, rfl, cell_at h2 rfl, cell_at h2 rfl, ⟨none, 0, cell_at h2 rfl, Nat.le_refl _, by simp [maxLen], fun _ => rfl, Or.inl rfl⟩, cell_at h2 rfl, cell_at h2 rfl, ⟨some ⟨w.heap.size + 3, 0, none⟩, 2, cell_at h2 rfl, Nat.le_refl _, by simp [maxLen], fun e => by simp at e, Or.inr ⟨_, 0, rfl, cell_at h1 rfl, cell_at h1 rfl, ⟨none, 0, cell_at h1 rfl, Nat.le_refl _, by simp [maxLen], fun _ => rfl, Or.inl rfl⟩, cell_at h1 rfl, cell_at h1 rfl, ⟨none, 0, cell_at h1 rfl, Nat.le_refl _, by simp [maxLen], fun _ => rfl, Or.inl rfl⟩, trivial⟩⟩, trivial⟩⟩

/-- what the statements' example is shown to be -/
def Alive : Prop := ∀ w : World, Calls Try.prog 17 #[] w fun e w' => e = .returned (.bool true) ∧ Below w.heap.size w w'

theorem ex_Sort (a3 : At3) (W : World) (p : Option Addr) (l cap : Nat) (h : IsP W exP a3) (h' : IsX W exA p l cap) :
    Calls Try.prog 22 #[.agg #[.slice a3.sp a3.sn a3.sc, .slice a3.fp a3.fn a3.fc, .slice a3.pp a3.pn a3.pc], .agg #[.int .i64 0, .int .i64 0, .slice p l cap]] W fun e w' =>
      ∃ q c, e = .returned (.tuple #[.agg #[.slice q 0 c], .int .i64 0]) ∧ Below W.heap.size W w' :=
  (sort_any exP a3 0 0 exA W p l cap h h' 0 .nil ex_sort).mono fun _ _ ⟨q, c, h1, _, h2⟩ => ⟨q, c, h1, h2⟩

theorem ex_Subst (W : World) (p q : Option Addr) (m cap' : Nat) (h : IsA p W) (h' : IsX W exS q m cap') :
    Calls Try.prog 29 #[.agg #[.int .i64 0, .int .i64 0, .slice p 1 1], .slice q m cap'] W fun e w' =>
      ∃ r c, e = .returned (.tuple #[.agg #[.int .i64 2, .int .i64 0, .slice r 2 c], .int .i64 0]) ∧ OwnX w' exW r c W.heap.size w'.heap.size ∧ Below W.heap.size W w' :=
  subst_any exS exA 0 0 W p q _ _ m cap' h h' (by decide) 0 2 0 exW ex_sub

end Go.Proofs.Ytlgfaobbjnhfoaa
