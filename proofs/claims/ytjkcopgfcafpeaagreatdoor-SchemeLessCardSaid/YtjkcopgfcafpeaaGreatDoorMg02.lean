/-
  Parts of one proof, laid into one text: Mem, TMem. Conditions: each part names its own.
-/
import Derived.Test.YtjkcopgfcafpeaaGreatDoorMg01
import Derived.WalkKit

/-
  How a sort lies in memory, said over any world: a row of slice values, each of which leads to a row. Conditions: none.
-/
namespace Go.Proofs.YtjkcopgfcafpeaaGreatDoor
open Go.RowKit

/-- the cells from (b, off) on hold the arguments of t, each a slice value that leads to its own row -/
def Row (w : World) : T → Nat → Nat → Prop
  | .nil, _, _ => True
  | .cons h t, b, off =>
    (∃ (p : Option Addr) (cap : Nat), w.cell? ⟨b, off, none⟩ = some (.slice p h.len cap) ∧ h.len ≤ cap ∧ cap ≤ maxLen ∧ (p = none → cap = 0) ∧
      (h.len = 0 ∨ ∃ b' off', p = some ⟨b', off', none⟩ ∧ Row w h b' off')) ∧ Row w t b (off + 1)

/-- the slice value (p, n, cap) is that of t -/
def IsT (w : World) (t : T) (p : Option Addr) (n cap : Nat) : Prop :=
  n = t.len ∧ n ≤ cap ∧ cap ≤ maxLen ∧ (p = none → cap = 0) ∧ (n = 0 ∨ ∃ b off, p = some ⟨b, off, none⟩ ∧ Row w t b off)

theorem Row.at {w : World} {t : T} : ∀ {b off i : Nat}, Row w t b off → i < t.len →
    ∃ p n cap, w.cell? ⟨b, off + i, none⟩ = some (.slice p n cap) ∧ IsT w (t.get i) p n cap := by
  induction t with
  | nil => intro _ _ _ _ h; exact absurd h (Nat.not_lt_zero _)
  | cons h t ihh iht =>
    intro b off i hr hi
    obtain ⟨⟨p, cap, h1, h2, h3, h4, h5⟩, hr'⟩ := hr
    cases i with
    | zero => exact ⟨p, h.len, cap, h1, rfl, h2, h3, h4, h5⟩
    | succ i =>
      have := iht (i := i) hr' (by simp only [T.len] at hi; omega)
      rw [show off + (i + 1) = off + 1 + i by omega]
      exact this

theorem Row.drop {w : World} {t : T} : ∀ {b off : Nat} (i : Nat), Row w t b off → Row w (t.drop i) b (off + i) := by
  induction t with
  | nil => intro _ _ i _; rw [T.drop_nil]; trivial
  | cons h t ihh iht =>
    intro b off i hr
    cases i with
    | zero => rw [T.drop_zero]; exact hr
    | succ i =>
      have := iht i hr.2
      rw [show off + (i + 1) = off + 1 + i by omega]
      exact this

theorem lt_of_cell {w : World} {a : Addr} {v : Value} (h : w.cell? a = some v) : a.block < w.heap.size := by
  unfold World.cell? at h
  cases hh : w.heap[a.block]? with
  | none => rw [hh] at h; cases h
  | some o => exact lt_of_block hh

/-- each cell of w that holds a slice value holds it in w' too -/
def Keeps (w w' : World) : Prop := ∀ (b o : Nat) (p : Option Addr) (n cap : Nat), w.cell? ⟨b, o, none⟩ = some (.slice p n cap) → w'.cell? ⟨b, o, none⟩ = some (.slice p n cap)

theorem Row.keeps {w w' : World} (hk : Keeps w w') {t : T} : ∀ {b off : Nat}, Row w t b off → Row w' t b off := by
  induction t with
  | nil => intro _ _ _; trivial
  | cons h t ihh iht =>
    intro b off hr
    obtain ⟨⟨p, cap, h1, h2, h3, h4, h5⟩, hr'⟩ := hr
    refine ⟨⟨p, cap, hk _ _ _ _ _ h1, h2, h3, h4, ?_⟩, iht hr'⟩
    rcases h5 with h5 | ⟨b', off', e, hr''⟩
    · exact Or.inl h5
    · exact Or.inr ⟨b', off', e, ihh hr''⟩

theorem IsT.keeps {w w' : World} (hk : Keeps w w') {t : T} {p : Option Addr} {n cap : Nat} (h : IsT w t p n cap) : IsT w' t p n cap := by
  obtain ⟨h1, h2, h3, h4, h5⟩ := h
  refine ⟨h1, h2, h3, h4, ?_⟩
  rcases h5 with h5 | ⟨b', off', e, hr''⟩
  · exact Or.inl h5
  · exact Or.inr ⟨b', off', e, hr''.keeps hk⟩

theorem Keeps.of {w w' : World} (hk : ∀ b o, b < w.heap.size → w'.cell? ⟨b, o, none⟩ = w.cell? ⟨b, o, none⟩) : Keeps w w' :=
  fun b o _ _ _ h => by rw [hk b o (lt_of_cell h)]; exact h

theorem Keeps.trans {a b c : World} (h : Keeps a b) (k : Keeps b c) : Keeps a c := fun _ _ _ _ _ hc => k _ _ _ _ _ (h _ _ _ _ _ hc)

theorem Row.keep {w w' : World} (hk : ∀ b o, b < w.heap.size → w'.cell? ⟨b, o, none⟩ = w.cell? ⟨b, o, none⟩) {t : T} {b off : Nat} (h : Row w t b off) : Row w' t b off := h.keeps (Keeps.of hk)

theorem IsT.keep {w w' : World} (hk : ∀ b o, b < w.heap.size → w'.cell? ⟨b, o, none⟩ = w.cell? ⟨b, o, none⟩) {t : T} {p : Option Addr} {n cap : Nat} (h : IsT w t p n cap) : IsT w' t p n cap := h.keeps (Keeps.of hk)

theorem IsT.below {w w' : World} (hb : Below w.heap.size w w') {t : T} {p : Option Addr} {n cap : Nat} (h : IsT w t p n cap) : IsT w' t p n cap :=
  h.keep fun b o hlt => hb.cell (p := ⟨b, o, none⟩) hlt

theorem bcell {W w1 : World} {B : Nat} (hb : Below B W w1) : (∀ b o, b < B → w1.cell? ⟨b, o, none⟩ = W.cell? ⟨b, o, none⟩) ∧ (∀ b o, b < B → w1.frozen? ⟨b, o, none⟩ = W.frozen? ⟨b, o, none⟩) :=
  ⟨fun b o h => hb.cell (p := ⟨b, o, none⟩) h, fun b o h => hb.frozen (p := ⟨b, o, none⟩) h⟩

theorem keep_alloc (w : World) (x : Obj) : ∀ b o, b < w.heap.size → (w.alloc x).cell? ⟨b, o, none⟩ = w.cell? ⟨b, o, none⟩ :=
  fun b o h => ((Below.refl w.heap.size w).alloc (Nat.le_refl _) x).cell (p := ⟨b, o, none⟩) h

theorem IsT.alloc {w : World} {t : T} {p : Option Addr} {n cap : Nat} (h : IsT w t p n cap) (x : Obj) : IsT (w.alloc x) t p n cap := h.keep (keep_alloc w x)

/-- in a round: the world of the call's beginning, one block, and what came behind -/
theorem keep_round {w wr : World} {x : Obj} (hb : Below (w.heap.size + 1) (w.alloc x) wr) : ∀ b o, b < w.heap.size → wr.cell? ⟨b, o, none⟩ = w.cell? ⟨b, o, none⟩ :=
  fun b o h => by rw [(bcell hb).1 b o (by omega)]; exact keep_alloc w x b o h

theorem IsT.round {w wr : World} {x : Obj} (hb : Below (w.heap.size + 1) (w.alloc x) wr) {t : T} {p : Option Addr} {n cap : Nat} (h : IsT w t p n cap) : IsT wr t p n cap := h.keep (keep_round hb)

/-- the element that a round looks at -/
theorem round_at {w wr : World} {x : Obj} (hb : Below (w.heap.size + 1) (w.alloc x) wr) {t : T} {b off k : Nat} (hr : Row w t b off) (hk : k < t.len) :
    ∃ p n cap, wr.cell? ⟨b, off + k, none⟩ = some (.slice p n cap) ∧ IsT wr (t.get k) p n cap := by
  obtain ⟨p, n, cap, h1, h2⟩ := hr.at hk
  exact ⟨p, n, cap, by rw [keep_round hb _ _ (lt_of_cell h1)]; exact h1, h2.round hb⟩

theorem below_round {w wr : World} {x : Obj} (hb : Below (w.heap.size + 1) (w.alloc x) wr) : Below w.heap.size w wr :=
  ((Below.refl w.heap.size w).alloc (Nat.le_refl _) x).trans (hb.mono (Nat.le_succ _))

/-- behind a round's call: one block of the round's own, and what the call made -/
theorem round_next {w wr w' : World} {x y : Obj} (hb : Below (w.heap.size + 1) (w.alloc x) wr) (hb1 : Below (wr.alloc y).heap.size (wr.alloc y) w') : Below (w.heap.size + 1) (w.alloc x) w' := by
  have hz := hb.size
  simp only [World.size_alloc] at hz
  have h1 : Below (w.heap.size + 1) wr (wr.alloc y) := (Below.refl _ _).alloc hz y
  exact hb.trans (h1.trans (hb1.mono (by simp only [World.size_alloc]; omega)))

/-- the parameter's own box, in a round -/
theorem box_cell {w wr : World} {v : Value} {ty : TypeId} (hb : Below (w.heap.size + 1) (w.alloc (.cells #[v] ty)) wr) : wr.cell? ⟨w.heap.size, 0, none⟩ = some v := by
  rw [(bcell hb).1 _ _ (Nat.lt_succ_self _)]; simp

/-- the same, where all that was there when the call began is kept -/
theorem base_at {w wr : World} (hb : Keeps w wr) {t : T} {b off k : Nat} (hr : Row w t b off) (hk : k < t.len) :
    ∃ p n cap, wr.cell? ⟨b, off + k, none⟩ = some (.slice p n cap) ∧ IsT wr (t.get k) p n cap := by
  obtain ⟨p, n, cap, h1, h2⟩ := hr.at hk
  exact ⟨p, n, cap, hb _ _ _ _ _ h1, h2.keeps hb⟩

theorem Keeps.below {w wr : World} (hb : Below w.heap.size w wr) : Keeps w wr := Keeps.of fun b o h => hb.cell (p := ⟨b, o, none⟩) h

theorem base_next {w wr w' : World} {y : Obj} (hb : Below w.heap.size w wr) (hb1 : Below (wr.alloc y).heap.size (wr.alloc y) w') : Below w.heap.size w w' := by
  have h1 : Below w.heap.size wr (wr.alloc y) := (Below.refl _ _).alloc hb.size y
  exact hb.trans (h1.trans (hb1.mono (by have := hb.size; simp only [World.size_alloc]; omega)))

theorem below_call {w w' : World} {y : Obj} (hb1 : Below (w.alloc y).heap.size (w.alloc y) w') : Below w.heap.size w w' := base_next (Below.refl _ _) hb1

/-- one counter's block and new blocks alone have turned; the counter holds c -/
def Cnt (w wr : World) (bc : Nat) (ty : TypeId) (c : Nat) : Prop := w.grownBy wr (some bc) ∧ wr.heap[bc]? = some (.cells #[.int .i64 (c : Int)] ty (0, 0))

theorem Cnt.keeps {w wr : World} {bc c c0 : Nat} {ty : TypeId} (h0 : w.heap[bc]? = some (.cells #[.int .i64 (c0 : Int)] ty (0, 0))) (h : Cnt w wr bc ty c) : Keeps w wr := by
  intro b o p n cap hc
  have hlt := lt_of_cell hc
  have hne : b ≠ bc := by
    rintro rfl
    unfold World.cell? at hc
    simp only [h0] at hc
    cases o <;> simp at hc
  rw [World.cell?_of_block (w := w) (h.1.block b hlt (fun e => hne (by injection e)))]
  exact hc

theorem Cnt.trans {a b c : World} {bc m n : Nat} {ty : TypeId} (h : Cnt a b bc ty m) (k : Cnt b c bc ty n) : Cnt a c bc ty n :=
  ⟨⟨k.1.os.trans h.1.os, k.1.tape.trans h.1.tape, k.1.output.trans h.1.output, Nat.le_trans h.1.size k.1.size,
    fun i hi hn => (k.1.block i (Nat.lt_of_lt_of_le hi h.1.size) hn).trans (h.1.block i hi hn)⟩, k.2⟩

theorem Cnt.start {w : World} {bc c : Nat} {ty : TypeId} (h0 : w.heap[bc]? = some (.cells #[.int .i64 (c : Int)] ty (0, 0))) (o : Obj) : Cnt w (w.alloc o) bc ty c :=
  ⟨⟨rfl, rfl, rfl, by simp, fun i hi _ => Below.heap_alloc w o i hi⟩, by rw [Below.heap_alloc _ _ _ (lt_of_block h0)]; exact h0⟩

theorem Cnt.write {w : World} {bc c d : Nat} {ty : TypeId} (h0 : w.heap[bc]? = some (.cells #[.int .i64 (c : Int)] ty (0, 0))) : Cnt w (w.setCell ⟨bc, 0, none⟩ (.int .i64 (d : Int))) bc ty d :=
  ⟨⟨rfl, rfl, rfl, by simp [World.setCell], fun i _ hn => Below.heap_setCell w _ _ i (by rintro rfl; exact hn rfl)⟩, one_setCell h0⟩

theorem keeps_two {w wr : World} {x y : Obj} (hb : Below (w.heap.size + 2) ((w.alloc x).alloc y) wr) : Keeps w wr := by
  refine Keeps.of fun b o h => ?_
  rw [(bcell hb).1 b o (by omega), keep_alloc _ _ b o (by simp; omega)]
  exact keep_alloc w x b o h

theorem box_two {w wr : World} {u v : Value} {ty ty' : TypeId} (hb : Below (w.heap.size + 2) ((w.alloc (.cells #[u] ty)).alloc (.cells #[v] ty')) wr) :
    wr.cell? ⟨w.heap.size, 0, none⟩ = some u ∧ wr.cell? ⟨w.heap.size + 1, 0, none⟩ = some v := by
  constructor
  · rw [(bcell hb).1 _ _ (by omega)]; simp
  · rw [(bcell hb).1 _ _ (by omega)]; simp

theorem below_two {w wr : World} {x y : Obj} (hb : Below (w.heap.size + 2) ((w.alloc x).alloc y) wr) : Below w.heap.size w wr :=
  (((Below.refl w.heap.size w).alloc (Nat.le_refl _) x).alloc (by simp) y).trans (hb.mono (by omega))

theorem Keeps.drew (w : World) : Keeps w w.drew := fun _ _ _ _ _ h => h
theorem IsT.drew {w : World} {t : T} {p : Option Addr} {n cap : Nat} (h : IsT w t p n cap) : IsT w.drew t p n cap := h.keeps (Keeps.drew w)

theorem heap_new (w : World) (x : Obj) : (w.alloc x).heap[w.heap.size]? = some x := by
  show (w.heap.push x)[w.heap.size]? = _
  rw [Array.getElem?_push, if_pos rfl]

theorem heap_new2 (w : World) (x y : Obj) : ((w.alloc x).alloc y).heap[w.heap.size + 1]? = some y := by
  have := heap_new (w.alloc x) y
  rwa [World.size_alloc] at this

theorem Cnt.below {w wr : World} {bc c : Nat} {ty : TypeId} (h0 : bc < w.heap.size) (h : Cnt w wr bc ty c) : Below bc w wr :=
  ⟨h.1.os, h.1.tape, h.1.output, h.1.size, fun k hk => h.1.block k (by omega) (fun e => by injection e; omega)⟩

theorem int_max (m a : Nat) : (if (m : Int) < (a : Int) + 1 then (a : Int) + 1 else (m : Int)) = ((max m (1 + a) : Nat) : Int) := by
  split <;> omega

theorem int_max' (m a : Nat) : (if (m : Int) < 1 + (a : Int) then 1 + (a : Int) else (m : Int)) = ((max m (1 + a) : Nat) : Int) := by
  split <;> omega

theorem val_int {k : IntKind} {a b : Int} (h : a = b) : Value.int k a = .int k b := by rw [h]

theorem ret_bool {a b : Bool} (h : a = b) : Ending.returned (.bool a) = .returned (.bool b) := by rw [h]

theorem ret_int {k : IntKind} {a b : Int} (h : a = b) : Ending.returned (.int k a) = .returned (.int k b) := by rw [h]

end Go.Proofs.YtjkcopgfcafpeaaGreatDoor

/-
  How terms lie in memory, said over any world: a row of three cells a term. Conditions: none.
-/
set_option linter.unusedSimpArgs false
set_option linter.unusedVariables false
namespace Go.Proofs.YtjkcopgfcafpeaaGreatDoor
open Go.RowKit

/-- the cells from (b, off) on hold the terms of t: each a kind, a number and a slice value that leads to its own row -/
def RowX (w : World) : X → Nat → Nat → Prop
  | .nil, _, _ => True
  | .cons k n a r, b, off => w.cell? ⟨b, off, none⟩ = some (.int .i64 k) ∧ w.cell? ⟨b, off + 1, none⟩ = some (.int .i64 n) ∧
    (∃ (p : Option Addr) (cap : Nat), w.cell? ⟨b, off + 2, none⟩ = some (.slice p a.len cap) ∧ a.len ≤ cap ∧ cap ≤ maxLen ∧ (p = none → cap = 0) ∧
      (a.len = 0 ∨ ∃ b' off', p = some ⟨b', off', none⟩ ∧ RowX w a b' off')) ∧ RowX w r b (off + 3)

/-- the slice value (p, n, cap) is that of t -/
def IsX (w : World) (t : X) (p : Option Addr) (n cap : Nat) : Prop :=
  n = t.len ∧ n ≤ cap ∧ cap ≤ maxLen ∧ (p = none → cap = 0) ∧ (n = 0 ∨ ∃ b off, p = some ⟨b, off, none⟩ ∧ RowX w t b off)

theorem RowX.at {w : World} {t : X} : ∀ {b off i : Nat}, RowX w t b off → i < t.len →
    w.cell? ⟨b, off + i * 3, none⟩ = some (.int .i64 (t.gk i)) ∧ w.cell? ⟨b, off + i * 3 + 1, none⟩ = some (.int .i64 (t.gn i)) ∧
    ∃ p n cap, w.cell? ⟨b, off + i * 3 + 2, none⟩ = some (.slice p n cap) ∧ IsX w (t.ga i) p n cap := by
  induction t with
  | nil => intro _ _ _ _ h; exact absurd h (Nat.not_lt_zero _)
  | cons k n a r iha ihr =>
    intro b off i hr hi
    obtain ⟨hk, hn, ⟨p, cap, h1, h2, h3, h4, h5⟩, hr'⟩ := hr
    cases i with
    | zero => exact ⟨hk, hn, p, a.len, cap, h1, rfl, h2, h3, h4, h5⟩
    | succ i =>
      have := ihr (i := i) hr' (by simp only [X.len] at hi; omega)
      rw [show off + (i + 1) * 3 = off + 3 + i * 3 by omega]
      exact this

theorem RowX.drop {w : World} {t : X} : ∀ {b off : Nat} (i : Nat), RowX w t b off → RowX w (t.drop i) b (off + i * 3) := by
  induction t with
  | nil => intro _ _ i _; rw [X.drop_nil]; trivial
  | cons k n a r iha ihr =>
    intro b off i hr
    cases i with
    | zero => rw [X.drop_zero]; exact hr
    | succ i =>
      have := ihr i hr.2.2.2
      rw [show off + (i + 1) * 3 = off + 3 + i * 3 by omega]
      exact this

/-- each block of w that holds a slice value somewhere holds in w' what it holds in w -/
def Keeps3 (w w' : World) : Prop := ∀ b, (∃ (o : Nat) (p : Option Addr) (n cap : Nat), w.cell? ⟨b, o, none⟩ = some (.slice p n cap)) → ∀ o v, w.cell? ⟨b, o, none⟩ = some v → w'.cell? ⟨b, o, none⟩ = some v

theorem RowX.keeps {w w' : World} (hk : Keeps3 w w') {t : X} : ∀ {b off : Nat}, RowX w t b off → RowX w' t b off := by
  induction t with
  | nil => intro _ _ _; trivial
  | cons k n a r iha ihr =>
    intro b off hr
    obtain ⟨h6, h7, ⟨p, cap, h1, h2, h3, h4, h5⟩, hr'⟩ := hr
    have hb := hk b ⟨_, _, _, _, h1⟩
    refine ⟨hb _ _ h6, hb _ _ h7, ⟨p, cap, hb _ _ h1, h2, h3, h4, ?_⟩, ihr hr'⟩
    rcases h5 with h5 | ⟨b', off', e, hr''⟩
    · exact Or.inl h5
    · exact Or.inr ⟨b', off', e, iha hr''⟩

theorem IsX.keeps {w w' : World} (hk : Keeps3 w w') {t : X} {p : Option Addr} {n cap : Nat} (h : IsX w t p n cap) : IsX w' t p n cap := by
  obtain ⟨h1, h2, h3, h4, h5⟩ := h
  refine ⟨h1, h2, h3, h4, ?_⟩
  rcases h5 with h5 | ⟨b', off', e, hr''⟩
  · exact Or.inl h5
  · exact Or.inr ⟨b', off', e, hr''.keeps hk⟩

theorem Keeps3.of {w w' : World} (hk : ∀ b o, b < w.heap.size → w'.cell? ⟨b, o, none⟩ = w.cell? ⟨b, o, none⟩) : Keeps3 w w' :=
  fun b _ o _ h => by rw [hk b o (lt_of_cell h)]; exact h

theorem Keeps3.refl (w : World) : Keeps3 w w := fun _ _ _ _ h => h

theorem Keeps3.trans {a b c : World} (h : Keeps3 a b) (k : Keeps3 b c) : Keeps3 a c :=
  fun i ⟨o, p, n, cap, hc⟩ o' v hv => k i ⟨o, p, n, cap, h i ⟨o, p, n, cap, hc⟩ _ _ hc⟩ o' v (h i ⟨o, p, n, cap, hc⟩ o' v hv)

theorem Keeps3.below {w w' : World} {B : Nat} (hb : Below B w w') (hB : w.heap.size ≤ B) : Keeps3 w w' :=
  Keeps3.of fun b o h => hb.cell (p := ⟨b, o, none⟩) (Nat.lt_of_lt_of_le h hB)

theorem Keeps3.drew (w : World) : Keeps3 w w.drew := fun _ _ _ _ h => h

theorem Keeps3.alloc (w : World) (x : Obj) : Keeps3 w (w.alloc x) := Keeps3.of (keep_alloc w x)

theorem Keeps3.sorts {w w' : World} (h : Keeps3 w w') : Keeps w w' := fun b o p n cap hc => h b ⟨o, p, n, cap, hc⟩ o _ hc

theorem IsX.below {w w' : World} (hb : Below w.heap.size w w') {t : X} {p : Option Addr} {n cap : Nat} (h : IsX w t p n cap) : IsX w' t p n cap := h.keeps (Keeps3.below hb (Nat.le_refl _))

theorem IsX.alloc {w : World} {t : X} {p : Option Addr} {n cap : Nat} (h : IsX w t p n cap) (x : Obj) : IsX (w.alloc x) t p n cap := h.keeps (Keeps3.alloc w x)

theorem IsX.drew {w : World} {t : X} {p : Option Addr} {n cap : Nat} (h : IsX w t p n cap) : IsX w.drew t p n cap := h.keeps (Keeps3.drew w)

/-- a counter's block alone has turned: terms are kept -/
theorem Keeps3.cnt {w wr : World} {bc c c0 : Nat} {ty : TypeId} (h0 : w.heap[bc]? = some (.cells #[.int .i64 (c0 : Int)] ty (0, 0))) (h : Cnt w wr bc ty c) : Keeps3 w wr := by
  rintro b ⟨o, p, n, cap, hc⟩ o' v hv
  have hlt := lt_of_cell hc
  have hne : b ≠ bc := by
    rintro rfl
    unfold World.cell? at hc
    simp only [h0] at hc
    cases o <;> simp at hc
  rw [World.cell?_of_block (w := w) (h.1.block b hlt (fun e => hne (by injection e)))]
  exact hv

/-- the element that a round looks at -/
theorem base3_at {w wr : World} (hb : Keeps3 w wr) {t : X} {b off k : Nat} (hr : RowX w t b off) (hk : k < t.len) :
    wr.cell? ⟨b, off + k * 3, none⟩ = some (.int .i64 (t.gk k)) ∧ wr.cell? ⟨b, off + k * 3 + 1, none⟩ = some (.int .i64 (t.gn k)) ∧
    ∃ p n cap, wr.cell? ⟨b, off + k * 3 + 2, none⟩ = some (.slice p n cap) ∧ IsX wr (t.ga k) p n cap := by
  obtain ⟨h1, h2, p, n, cap, h3, h4⟩ := (hr.keeps hb).at hk
  exact ⟨h1, h2, p, n, cap, h3, h4⟩

end Go.Proofs.YtjkcopgfcafpeaaGreatDoor

