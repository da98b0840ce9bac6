/-
  Parts of one proof, laid into one text: Mem, TMem, EMem, ESyms. Conditions: each part names its own.
-/
import Derived.Test.YteolfpdkpihnlaaMg01
import Derived.WalkKit

/-
  How a sort lies in memory, said over any world: a row of slice values, each of which leads to a row. Conditions: none.
-/
namespace Go.Proofs.Yteolfpdkpihnlaa
open Go.RowKit

/-- the cells from (b, off) on hold the arguments of t, each a slice value that leads to its own row -/
def Row (w : World) : T → Nat → Nat → Prop
  | .nil, _, _ => True
  | .cons h t, b, off =>
    (∃ (p : Option Addr) (cap : Nat), w.cell? ⟨b, off, none⟩ = some (.slice p h.len cap) ∧ h.len ≤ cap ∧ cap ≤ maxLen ∧ (p = none → cap = 0) ∧
      (h.len = 0 ∨ ∃ b' off', p = some ⟨b', off', none⟩ ∧ Row w h b' off')) ∧ Row w t b (off + 1)

/-- the slice value (p, n, cap) is that of t -/
def IsT (w : World) (t : T) (p : Option Addr) (n cap : Nat) : Prop :=
  n = t.len ∧ n ≤ cap ∧ cap ≤ maxLen ∧ (p = none → cap = 0) ∧ (n = 0 ∨ ∃ b off, p = some ⟨b, off, none⟩ ∧ Row w t b off)

theorem Row.at {w : World} {t : T} : ∀ {b off i : Nat}, Row w t b off → i < t.len →
    ∃ p n cap, w.cell? ⟨b, off + i, none⟩ = some (.slice p n cap) ∧ IsT w (t.get i) p n cap := by
  induction t with
  | nil => intro _ _ _ _ h; exact absurd h (Nat.not_lt_zero _)
  | cons h t ihh iht =>
    intro b off i hr hi
    obtain ⟨⟨p, cap, h1, h2, h3, h4, h5⟩, hr'⟩ := hr
    cases i with
    | zero => exact ⟨p, h.len, cap, h1, rfl, h2, h3, h4, h5⟩
    | succ i =>
      have := iht (i := i) hr' (by simp only [T.len] at hi; omega)
      rw [show off + (i + 1) = off + 1 + i by omega]
      exact this

theorem Row.drop {w : World} {t : T} : ∀ {b off : Nat} (i : Nat), Row w t b off → Row w (t.drop i) b (off + i) := by
  induction t with
  | nil => intro _ _ i _; rw [T.drop_nil]; trivial
  | cons h t ihh iht =>
    intro b off i hr
    cases i with
    | zero => rw [T.drop_zero]; exact hr
    | succ i =>
      have := iht i hr.2
      rw [show off + (i + 1) = off + 1 + i by omega]
      exact this

theorem lt_of_cell {w : World} {a : Addr} {v : Value} (h : w.cell? a = some v) : a.block < w.heap.size := by
  unfold World.cell? at h
  cases hh : w.heap[a.block]? with
  | none => rw [hh] at h; cases h
  | some o => exact lt_of_block hh

/-- each cell of w that holds a slice value holds it in w' too -/
def Keeps (w w' : World) : Prop := ∀ (b o : Nat) (p : Option Addr) (n cap : Nat), w.cell? ⟨b, o, none⟩ = some (.slice p n cap) → w'.cell? ⟨b, o, none⟩ = some (.slice p n cap)

theorem Row.keeps {w w' : World} (hk : Keeps w w') {t : T} : ∀ {b off : Nat}, Row w t b off → Row w' t b off := by
  induction t with
  | nil => intro _ _ _; trivial
  | cons h t ihh iht =>
    intro b off hr
    obtain ⟨⟨p, cap, h1, h2, h3, h4, h5⟩, hr'⟩ := hr
    refine ⟨⟨p, cap, hk _ _ _ _ _ h1, h2, h3, h4, ?_⟩, iht hr'⟩
    rcases h5 with h5 | ⟨b', off', e, hr''⟩
    · exact Or.inl h5
    · exact Or.inr ⟨b', off', e, ihh hr''⟩

theorem IsT.keeps {w w' : World} (hk : Keeps w w') {t : T} {p : Option Addr} {n cap : Nat} (h : IsT w t p n cap) : IsT w' t p n cap := by
  obtain ⟨h1, h2, h3, h4, h5⟩ := h
  refine ⟨h1, h2, h3, h4, ?_⟩
  rcases h5 with h5 | ⟨b', off', e, hr''⟩
  · exact Or.inl h5
  · exact Or.inr ⟨b', off', e, hr''.keeps hk⟩

theorem Keeps.of {w w' : World} (hk : ∀ b o, b < w.heap.size → w'.cell? ⟨b, o, none⟩ = w.cell? ⟨b, o, none⟩) : Keeps w w' :=
  fun b o _ _ _ h => by rw [hk b o (lt_of_cell h)]; exact h

theorem Keeps.trans {a b c : World} (h : Keeps a b) (k : Keeps b c) : Keeps a c := fun _ _ _ _ _ hc => k _ _ _ _ _ (h _ _ _ _ _ hc)

theorem Row.keep {w w' : World} (hk : ∀ b o, b < w.heap.size → w'.cell? ⟨b, o, none⟩ = w.cell? ⟨b, o, none⟩) {t : T} {b off : Nat} (h : Row w t b off) : Row w' t b off := h.keeps (Keeps.of hk)

theorem IsT.keep {w w' : World} (hk : ∀ b o, b < w.heap.size → w'.cell? ⟨b, o, none⟩ = w.cell? ⟨b, o, none⟩) {t : T} {p : Option Addr} {n cap : Nat} (h : IsT w t p n cap) : IsT w' t p n cap := h.keeps (Keeps.of hk)

theorem IsT.below {w w' : World} (hb : Below w.heap.size w w') {t : T} {p : Option Addr} {n cap : Nat} (h : IsT w t p n cap) : IsT w' t p n cap :=
  h.keep fun b o hlt => hb.cell (p := ⟨b, o, none⟩) hlt

theorem bcell {W w1 : World} {B : Nat} (hb : Below B W w1) : (∀ b o, b < B → w1.cell? ⟨b, o, none⟩ = W.cell? ⟨b, o, none⟩) ∧ (∀ b o, b < B → w1.frozen? ⟨b, o, none⟩ = W.frozen? ⟨b, o, none⟩) :=
  ⟨fun b o h => hb.cell (p := ⟨b, o, none⟩) h, fun b o h => hb.frozen (p := ⟨b, o, none⟩) h⟩

theorem keep_alloc (w : World) (x : Obj) : ∀ b o, b < w.heap.size → (w.alloc x).cell? ⟨b, o, none⟩ = w.cell? ⟨b, o, none⟩ :=
  fun b o h => ((Below.refl w.heap.size w).alloc (Nat.le_refl _) x).cell (p := ⟨b, o, none⟩) h

theorem IsT.alloc {w : World} {t : T} {p : Option Addr} {n cap : Nat} (h : IsT w t p n cap) (x : Obj) : IsT (w.alloc x) t p n cap := h.keep (keep_alloc w x)

/-- in a round: the world of the call's beginning, one block, and what came behind -/
theorem keep_round {w wr : World} {x : Obj} (hb : Below (w.heap.size + 1) (w.alloc x) wr) : ∀ b o, b < w.heap.size → wr.cell? ⟨b, o, none⟩ = w.cell? ⟨b, o, none⟩ :=
  fun b o h => by rw [(bcell hb).1 b o (by omega)]; exact keep_alloc w x b o h

theorem IsT.round {w wr : World} {x : Obj} (hb : Below (w.heap.size + 1) (w.alloc x) wr) {t : T} {p : Option Addr} {n cap : Nat} (h : IsT w t p n cap) : IsT wr t p n cap := h.keep (keep_round hb)

/-- the element that a round looks at -/
theorem round_at {w wr : World} {x : Obj} (hb : Below (w.heap.size + 1) (w.alloc x) wr) {t : T} {b off k : Nat} (hr : Row w t b off) (hk : k < t.len) :
    ∃ p n cap, wr.cell? ⟨b, off + k, none⟩ = some (.slice p n cap) ∧ IsT wr (t.get k) p n cap := by
  obtain ⟨p, n, cap, h1, h2⟩ := hr.at hk
  exact ⟨p, n, cap, by rw [keep_round hb _ _ (lt_of_cell h1)]; exact h1, h2.round hb⟩

theorem below_round {w wr : World} {x : Obj} (hb : Below (w.heap.size + 1) (w.alloc x) wr) : Below w.heap.size w wr :=
  ((Below.refl w.heap.size w).alloc (Nat.le_refl _) x).trans (hb.mono (Nat.le_succ _))

/-- behind a round's call: one block of the round's own, and what the call made -/
theorem round_next {w wr w' : World} {x y : Obj} (hb : Below (w.heap.size + 1) (w.alloc x) wr) (hb1 : Below (wr.alloc y).heap.size (wr.alloc y) w') : Below (w.heap.size + 1) (w.alloc x) w' := by
  have hz := hb.size
  simp only [World.size_alloc] at hz
  have h1 : Below (w.heap.size + 1) wr (wr.alloc y) := (Below.refl _ _).alloc hz y
  exact hb.trans (h1.trans (hb1.mono (by simp only [World.size_alloc]; omega)))

/-- the parameter's own box, in a round -/
theorem box_cell {w wr : World} {v : Value} {ty : TypeId} (hb : Below (w.heap.size + 1) (w.alloc (.cells #[v] ty)) wr) : wr.cell? ⟨w.heap.size, 0, none⟩ = some v := by
  rw [(bcell hb).1 _ _ (Nat.lt_succ_self _)]; simp

/-- the same, where all that was there when the call began is kept -/
theorem base_at {w wr : World} (hb : Keeps w wr) {t : T} {b off k : Nat} (hr : Row w t b off) (hk : k < t.len) :
    ∃ p n cap, wr.cell? ⟨b, off + k, none⟩ = some (.slice p n cap) ∧ IsT wr (t.get k) p n cap := by
  obtain ⟨p, n, cap, h1, h2⟩ := hr.at hk
  exact ⟨p, n, cap, hb _ _ _ _ _ h1, h2.keeps hb⟩

theorem Keeps.below {w wr : World} (hb : Below w.heap.size w wr) : Keeps w wr := Keeps.of fun b o h => hb.cell (p := ⟨b, o, none⟩) h

theorem base_next {w wr w' : World} {y : Obj} (hb : Below w.heap.size w wr) (hb1 : Below (wr.alloc y).heap.size (wr.alloc y) w') : Below w.heap.size w w' := by
  have h1 : Below w.heap.size wr (wr.alloc y) := (Below.refl _ _).alloc hb.size y
  exact hb.trans (h1.trans (hb1.mono (by have := hb.size; simp only [World.size_alloc]; omega)))

theorem below_call {w w' : World} {y : Obj} (hb1 : Below (w.alloc y).heap.size (w.alloc y) w') : Below w.heap.size w w' := base_next (Below.refl _ _) hb1

/-- one counter's block and new blocks alone have turned; the counter holds c -/
def Cnt (w wr : World) (bc : Nat) (ty : TypeId) (c : Nat) : Prop := w.grownBy wr (some bc) ∧ wr.heap[bc]? = some (.cells #[.int .i64 (c : Int)] ty (0, 0))

theorem Cnt.keeps {w wr : World} {bc c c0 : Nat} {ty : TypeId} (h0 : w.heap[bc]? = some (.cells #[.int .i64 (c0 : Int)] ty (0, 0))) (h : Cnt w wr bc ty c) : Keeps w wr := by
  intro b o p n cap hc
  have hlt := lt_of_cell hc
  have hne : b ≠ bc := by
    rintro rfl
    unfold World.cell? at hc
    simp only [h0] at hc
    cases o <;> simp at hc
  rw [World.cell?_of_block (w := w) (h.1.block b hlt (fun e => hne (by injection e)))]
  exact hc

theorem Cnt.trans {a b c : World} {bc m n : Nat} {ty : TypeId} (h : Cnt a b bc ty m) (k : Cnt b c bc ty n) : Cnt a c bc ty n :=
  ⟨⟨k.1.os.trans h.1.os, k.1.tape.trans h.1.tape, k.1.output.trans h.1.output, Nat.le_trans h.1.size k.1.size,
    fun i hi hn => (k.1.block i (Nat.lt_of_lt_of_le hi h.1.size) hn).trans (h.1.block i hi hn)⟩, k.2⟩

theorem Cnt.start {w : World} {bc c : Nat} {ty : TypeId} (h0 : w.heap[bc]? = some (.cells #[.int .i64 (c : Int)] ty (0, 0))) (o : Obj) : Cnt w (w.alloc o) bc ty c :=
  ⟨⟨rfl, rfl, rfl, by simp, fun i hi _ => Below.heap_alloc w o i hi⟩, by rw [Below.heap_alloc _ _ _ (lt_of_block h0)]; exact h0⟩

theorem Cnt.write {w : World} {bc c d : Nat} {ty : TypeId} (h0 : w.heap[bc]? = some (.cells #[.int .i64 (c : Int)] ty (0, 0))) : Cnt w (w.setCell ⟨bc, 0, none⟩ (.int .i64 (d : Int))) bc ty d :=
  ⟨⟨rfl, rfl, rfl, by simp [World.setCell], fun i _ hn => Below.heap_setCell w _ _ i (by rintro rfl; exact hn rfl)⟩, one_setCell h0⟩

theorem keeps_two {w wr : World} {x y : Obj} (hb : Below (w.heap.size + 2) ((w.alloc x).alloc y) wr) : Keeps w wr := by
  refine Keeps.of fun b o h => ?_
  rw [(bcell hb).1 b o (by omega), keep_alloc _ _ b o (by simp; omega)]
  exact keep_alloc w x b o h

theorem box_two {w wr : World} {u v : Value} {ty ty' : TypeId} (hb : Below (w.heap.size + 2) ((w.alloc (.cells #[u] ty)).alloc (.cells #[v] ty')) wr) :
    wr.cell? ⟨w.heap.size, 0, none⟩ = some u ∧ wr.cell? ⟨w.heap.size + 1, 0, none⟩ = some v := by
  constructor
  · rw [(bcell hb).1 _ _ (by omega)]; simp
  · rw [(bcell hb).1 _ _ (by omega)]; simp

theorem below_two {w wr : World} {x y : Obj} (hb : Below (w.heap.size + 2) ((w.alloc x).alloc y) wr) : Below w.heap.size w wr :=
  (((Below.refl w.heap.size w).alloc (Nat.le_refl _) x).alloc (by simp) y).trans (hb.mono (by omega))

theorem Keeps.drew (w : World) : Keeps w w.drew := fun _ _ _ _ _ h => h
theorem IsT.drew {w : World} {t : T} {p : Option Addr} {n cap : Nat} (h : IsT w t p n cap) : IsT w.drew t p n cap := h.keeps (Keeps.drew w)

theorem heap_new (w : World) (x : Obj) : (w.alloc x).heap[w.heap.size]? = some x := by
  show (w.heap.push x)[w.heap.size]? = _
  rw [Array.getElem?_push, if_pos rfl]

theorem heap_new2 (w : World) (x y : Obj) : ((w.alloc x).alloc y).heap[w.heap.size + 1]? = some y := by
  have := heap_new (w.alloc x) y
  rwa [World.size_alloc] at this

theorem Cnt.below {w wr : World} {bc c : Nat} {ty : TypeId} (h0 : bc < w.heap.size) (h : Cnt w wr bc ty c) : Below bc w wr :=
  ⟨h.1.os, h.1.tape, h.1.output, h.1.size, fun k hk => h.1.block k (by omega) (fun e => by injection e; omega)⟩

theorem int_max (m a : Nat) : (if (m : Int) < (a : Int) + 1 then (a : Int) + 1 else (m : Int)) = ((max m (1 + a) : Nat) : Int) := by
  split <;> omega

theorem int_max' (m a : Nat) : (if (m : Int) < 1 + (a : Int) then 1 + (a : Int) else (m : Int)) = ((max m (1 + a) : Nat) : Int) := by
  split <;> omega

theorem val_int {k : IntKind} {a b : Int} (h : a = b) : Value.int k a = .int k b := by rw [h]

theorem ret_bool {a b : Bool} (h : a = b) : Ending.returned (.bool a) = .returned (.bool b) := by rw [h]

theorem ret_int {k : IntKind} {a b : Int} (h : a = b) : Ending.returned (.int k a) = .returned (.int k b) := by rw [h]

end Go.Proofs.Yteolfpdkpihnlaa

/-
  How terms lie in memory, said over any world: a row of three cells a term. Conditions: none.
-/
set_option linter.unusedSimpArgs false
set_option linter.unusedVariables false
namespace Go.Proofs.Yteolfpdkpihnlaa
open Go.RowKit

/-- the cells from (b, off) on hold the terms of t: each a kind, a number and a slice value that leads to its own row -/
def RowX (w : World) : X → Nat → Nat → Prop
  | .nil, _, _ => True
  | .cons k n a r, b, off => w.cell? ⟨b, off, none⟩ = some (.int .i64 k) ∧ w.cell? ⟨b, off + 1, none⟩ = some (.int .i64 n) ∧
    (∃ (p : Option Addr) (cap : Nat), w.cell? ⟨b, off + 2, none⟩ = some (.slice p a.len cap) ∧ a.len ≤ cap ∧ cap ≤ maxLen ∧ (p = none → cap = 0) ∧
      (a.len = 0 ∨ ∃ b' off', p = some ⟨b', off', none⟩ ∧ RowX w a b' off')) ∧ RowX w r b (off + 3)

/-- the slice value (p, n, cap) is that of t -/
def IsX (w : World) (t : X) (p : Option Addr) (n cap : Nat) : Prop :=
  n = t.len ∧ n ≤ cap ∧ cap ≤ maxLen ∧ (p = none → cap = 0) ∧ (n = 0 ∨ ∃ b off, p = some ⟨b, off, none⟩ ∧ RowX w t b off)

theorem RowX.at {w : World} {t : X} : ∀ {b off i : Nat}, RowX w t b off → i < t.len →
    w.cell? ⟨b, off + i * 3, none⟩ = some (.int .i64 (t.gk i)) ∧ w.cell? ⟨b, off + i * 3 + 1, none⟩ = some (.int .i64 (t.gn i)) ∧
    ∃ p n cap, w.cell? ⟨b, off + i * 3 + 2, none⟩ = some (.slice p n cap) ∧ IsX w (t.ga i) p n cap := by
  induction t with
  | nil => intro _ _ _ _ h; exact absurd h (Nat.not_lt_zero _)
  | cons k n a r iha ihr =>
    intro b off i hr hi
    obtain ⟨hk, hn, ⟨p, cap, h1, h2, h3, h4, h5⟩, hr'⟩ := hr
    cases i with
    | zero => exact ⟨hk, hn, p, a.len, cap, h1, rfl, h2, h3, h4, h5⟩
    | succ i =>
      have := ihr (i := i) hr' (by simp only [X.len] at hi; omega)
      rw [show off + (i + 1) * 3 = off + 3 + i * 3 by omega]
      exact this

theorem RowX.drop {w : World} {t : X} : ∀ {b off : Nat} (i : Nat), RowX w t b off → RowX w (t.drop i) b (off + i * 3) := by
  induction t with
  | nil => intro _ _ i _; rw [X.drop_nil]; trivial
  | cons k n a r iha ihr =>
    intro b off i hr
    cases i with
    | zero => rw [X.drop_zero]; exact hr
    | succ i =>
      have := ihr i hr.2.2.2
      rw [show off + (i + 1) * 3 = off + 3 + i * 3 by omega]
      exact this

/-- each block of w that holds a slice value somewhere holds in w' what it holds in w -/
def Keeps3 (w w' : World) : Prop := ∀ b, (∃ (o : Nat) (p : Option Addr) (n cap : Nat), w.cell? ⟨b, o, none⟩ = some (.slice p n cap)) → ∀ o v, w.cell? ⟨b, o, none⟩ = some v → w'.cell? ⟨b, o, none⟩ = some v

theorem RowX.keeps {w w' : World} (hk : Keeps3 w w') {t : X} : ∀ {b off : Nat}, RowX w t b off → RowX w' t b off := by
  induction t with
  | nil => intro _ _ _; trivial
  | cons k n a r iha ihr =>
    intro b off hr
    obtain ⟨h6, h7, ⟨p, cap, h1, h2, h3, h4, h5⟩, hr'⟩ := hr
    have hb := hk b ⟨_, _, _, _, h1⟩
    refine ⟨hb _ _ h6, hb _ _ h7, ⟨p, cap, hb _ _ h1, h2, h3, h4, ?_⟩, ihr hr'⟩
    rcases h5 with h5 | ⟨b', off', e, hr''⟩
    · exact Or.inl h5
    · exact Or.inr ⟨b', off', e, iha hr''⟩

theorem IsX.keeps {w w' : World} (hk : Keeps3 w w') {t : X} {p : Option Addr} {n cap : Nat} (h : IsX w t p n cap) : IsX w' t p n cap := by
  obtain ⟨h1, h2, h3, h4, h5⟩ := h
  refine ⟨h1, h2, h3, h4, ?_⟩
  rcases h5 with h5 | ⟨b', off', e, hr''⟩
  · exact Or.inl h5
  · exact Or.inr ⟨b', off', e, hr''.keeps hk⟩

theorem Keeps3.of {w w' : World} (hk : ∀ b o, b < w.heap.size → w'.cell? ⟨b, o, none⟩ = w.cell? ⟨b, o, none⟩) : Keeps3 w w' :=
  fun b _ o _ h => by rw [hk b o (lt_of_cell h)]; exact h

theorem Keeps3.refl (w : World) : Keeps3 w w := fun _ _ _ _ h => h

theorem Keeps3.trans {a b c : World} (h : Keeps3 a b) (k : Keeps3 b c) : Keeps3 a c :=
  fun i ⟨o, p, n, cap, hc⟩ o' v hv => k i ⟨o, p, n, cap, h i ⟨o, p, n, cap, hc⟩ _ _ hc⟩ o' v (h i ⟨o, p, n, cap, hc⟩ o' v hv)

theorem Keeps3.below {w w' : World} {B : Nat} (hb : Below B w w') (hB : w.heap.size ≤ B) : Keeps3 w w' :=
  Keeps3.of fun b o h => hb.cell (p := ⟨b, o, none⟩) (Nat.lt_of_lt_of_le h hB)

theorem Keeps3.drew (w : World) : Keeps3 w w.drew := fun _ _ _ _ h => h

theorem Keeps3.alloc (w : World) (x : Obj) : Keeps3 w (w.alloc x) := Keeps3.of (keep_alloc w x)

theorem Keeps3.sorts {w w' : World} (h : Keeps3 w w') : Keeps w w' := fun b o p n cap hc => h b ⟨o, p, n, cap, hc⟩ o _ hc

theorem IsX.below {w w' : World} (hb : Below w.heap.size w w') {t : X} {p : Option Addr} {n cap : Nat} (h : IsX w t p n cap) : IsX w' t p n cap := h.keeps (Keeps3.below hb (Nat.le_refl _))

theorem IsX.alloc {w : World} {t : X} {p : Option Addr} {n cap : Nat} (h : IsX w t p n cap) (x : Obj) : IsX (w.alloc x) t p n cap := h.keeps (Keeps3.alloc w x)

theorem IsX.drew {w : World} {t : X} {p : Option Addr} {n cap : Nat} (h : IsX w t p n cap) : IsX w.drew t p n cap := h.keeps (Keeps3.drew w)

/-- a counter's block alone has turned: terms are kept -/
theorem Keeps3.cnt {w wr : World} {bc c c0 : Nat} {ty : TypeId} (h0 : w.heap[bc]? = some (.cells #[.int .i64 (c0 : Int)] ty (0, 0))) (h : Cnt w wr bc ty c) : Keeps3 w wr := by
  rintro b ⟨o, p, n, cap, hc⟩ o' v hv
  have hlt := lt_of_cell hc
  have hne : b ≠ bc := by
    rintro rfl
    unfold World.cell? at hc
    simp only [h0] at hc
    cases o <;> simp at hc
  rw [World.cell?_of_block (w := w) (h.1.block b hlt (fun e => hne (by injection e)))]
  exact hv

/-- the element that a round looks at -/
theorem base3_at {w wr : World} (hb : Keeps3 w wr) {t : X} {b off k : Nat} (hr : RowX w t b off) (hk : k < t.len) :
    wr.cell? ⟨b, off + k * 3, none⟩ = some (.int .i64 (t.gk k)) ∧ wr.cell? ⟨b, off + k * 3 + 1, none⟩ = some (.int .i64 (t.gn k)) ∧
    ∃ p n cap, wr.cell? ⟨b, off + k * 3 + 2, none⟩ = some (.slice p n cap) ∧ IsX wr (t.ga k) p n cap := by
  obtain ⟨h1, h2, p, n, cap, h3, h4⟩ := (hr.keeps hb).at hk
  exact ⟨h1, h2, p, n, cap, h3, h4⟩

end Go.Proofs.Yteolfpdkpihnlaa

/-
  How trees lie in memory, said over any world: a row of two cells a tree. Conditions: none.
-/
set_option linter.unusedSimpArgs false
set_option linter.unusedVariables false
namespace Go.Proofs.Yteolfpdkpihnlaa
open Go.RowKit

/-- the cells from (b, off) on hold the trees of t: each a symbol and a slice value that leads to its own row -/
def RowY (w : World) : Y → Nat → Nat → Prop
  | .nil, _, _ => True
  | .cons n a r, b, off => w.cell? ⟨b, off, none⟩ = some (.int .i64 n) ∧
    (∃ (p : Option Addr) (cap : Nat), w.cell? ⟨b, off + 1, none⟩ = some (.slice p a.len cap) ∧ a.len ≤ cap ∧ cap ≤ maxLen ∧ (p = none → cap = 0) ∧
      (a.len = 0 ∨ ∃ b' off', p = some ⟨b', off', none⟩ ∧ RowY w a b' off')) ∧ RowY w r b (off + 2)

/-- the slice value (p, n, cap) is that of t -/
def IsY (w : World) (t : Y) (p : Option Addr) (n cap : Nat) : Prop :=
  n = t.len ∧ n ≤ cap ∧ cap ≤ maxLen ∧ (p = none → cap = 0) ∧ (n = 0 ∨ ∃ b off, p = some ⟨b, off, none⟩ ∧ RowY w t b off)

theorem RowY.at {w : World} {t : Y} : ∀ {b off i : Nat}, RowY w t b off → i < t.len →
    w.cell? ⟨b, off + i * 2, none⟩ = some (.int .i64 (t.gn i)) ∧
    ∃ p n cap, w.cell? ⟨b, off + i * 2 + 1, none⟩ = some (.slice p n cap) ∧ IsY w (t.ga i) p n cap := by
  induction t with
  | nil => intro _ _ _ _ h; exact absurd h (Nat.not_lt_zero _)
  | cons n a r iha ihr =>
    intro b off i hr hi
    obtain ⟨hn, ⟨p, cap, h1, h2, h3, h4, h5⟩, hr'⟩ := hr
    cases i with
    | zero => exact ⟨hn, p, a.len, cap, h1, rfl, h2, h3, h4, h5⟩
    | succ i =>
      have := ihr (i := i) hr' (by simp only [Y.len] at hi; omega)
      rw [show off + (i + 1) * 2 = off + 2 + i * 2 by omega]
      exact this

theorem RowY.drop {w : World} {t : Y} : ∀ {b off : Nat} (i : Nat), RowY w t b off → RowY w (t.drop i) b (off + i * 2) := by
  induction t with
  | nil => intro _ _ i _; rw [Y.drop_nil]; trivial
  | cons n a r iha ihr =>
    intro b off i hr
    cases i with
    | zero => rw [Y.drop_zero]; exact hr
    | succ i =>
      have := ihr i hr.2.2
      rw [show off + (i + 1) * 2 = off + 2 + i * 2 by omega]
      exact this

/-- each block of w that holds a slice value somewhere holds in w' what it holds in w -/
def Keeps2 (w w' : World) : Prop := ∀ b, (∃ (o : Nat) (p : Option Addr) (n cap : Nat), w.cell? ⟨b, o, none⟩ = some (.slice p n cap)) → ∀ o v, w.cell? ⟨b, o, none⟩ = some v → w'.cell? ⟨b, o, none⟩ = some v

theorem RowY.keeps {w w' : World} (hk : Keeps2 w w') {t : Y} : ∀ {b off : Nat}, RowY w t b off → RowY w' t b off := by
  induction t with
  | nil => intro _ _ _; trivial
  | cons n a r iha ihr =>
    intro b off hr
    obtain ⟨h7, ⟨p, cap, h1, h2, h3, h4, h5⟩, hr'⟩ := hr
    have hb := hk b ⟨_, _, _, _, h1⟩
    refine ⟨hb _ _ h7, ⟨p, cap, hb _ _ h1, h2, h3, h4, ?_⟩, ihr hr'⟩
    rcases h5 with h5 | ⟨b', off', e, hr''⟩
    · exact Or.inl h5
    · exact Or.inr ⟨b', off', e, iha hr''⟩

theorem IsY.keeps {w w' : World} (hk : Keeps2 w w') {t : Y} {p : Option Addr} {n cap : Nat} (h : IsY w t p n cap) : IsY w' t p n cap := by
  obtain ⟨h1, h2, h3, h4, h5⟩ := h
  refine ⟨h1, h2, h3, h4, ?_⟩
  rcases h5 with h5 | ⟨b', off', e, hr''⟩
  · exact Or.inl h5
  · exact Or.inr ⟨b', off', e, hr''.keeps hk⟩

theorem Keeps2.of {w w' : World} (hk : ∀ b o, b < w.heap.size → w'.cell? ⟨b, o, none⟩ = w.cell? ⟨b, o, none⟩) : Keeps2 w w' :=
  fun b _ o _ h => by rw [hk b o (lt_of_cell h)]; exact h

theorem Keeps2.refl (w : World) : Keeps2 w w := fun _ _ _ _ h => h

theorem Keeps2.trans {a b c : World} (h : Keeps2 a b) (k : Keeps2 b c) : Keeps2 a c :=
  fun i ⟨o, p, n, cap, hc⟩ o' v hv => k i ⟨o, p, n, cap, h i ⟨o, p, n, cap, hc⟩ _ _ hc⟩ o' v (h i ⟨o, p, n, cap, hc⟩ o' v hv)

theorem Keeps2.below {w w' : World} {B : Nat} (hb : Below B w w') (hB : w.heap.size ≤ B) : Keeps2 w w' :=
  Keeps2.of fun b o h => hb.cell (p := ⟨b, o, none⟩) (Nat.lt_of_lt_of_le h hB)

theorem Keeps2.drew (w : World) : Keeps2 w w.drew := fun _ _ _ _ h => h

theorem Keeps2.alloc (w : World) (x : Obj) : Keeps2 w (w.alloc x) := Keeps2.of (keep_alloc w x)

theorem Keeps2.sorts {w w' : World} (h : Keeps2 w w') : Keeps w w' := fun b o p n cap hc => h b ⟨o, p, n, cap, hc⟩ o _ hc

theorem IsY.below {w w' : World} (hb : Below w.heap.size w w') {t : Y} {p : Option Addr} {n cap : Nat} (h : IsY w t p n cap) : IsY w' t p n cap := h.keeps (Keeps2.below hb (Nat.le_refl _))

theorem IsY.alloc {w : World} {t : Y} {p : Option Addr} {n cap : Nat} (h : IsY w t p n cap) (x : Obj) : IsY (w.alloc x) t p n cap := h.keeps (Keeps2.alloc w x)

theorem IsY.drew {w : World} {t : Y} {p : Option Addr} {n cap : Nat} (h : IsY w t p n cap) : IsY w.drew t p n cap := h.keeps (Keeps2.drew w)

/-- a counter's block alone has turned: terms are kept -/
theorem Keeps2.cnt {w wr : World} {bc c c0 : Nat} {ty : TypeId} (h0 : w.heap[bc]? = some (.cells #[.int .i64 (c0 : Int)] ty (0, 0))) (h : Cnt w wr bc ty c) : Keeps2 w wr := by
  rintro b ⟨o, p, n, cap, hc⟩ o' v hv
  have hlt := lt_of_cell hc
  have hne : b ≠ bc := by
    rintro rfl
    unfold World.cell? at hc
    simp only [h0] at hc
    cases o <;> simp at hc
  rw [World.cell?_of_block (w := w) (h.1.block b hlt (fun e => hne (by injection e)))]
  exact hv

/-- the element that a round looks at -/
theorem base2_at {w wr : World} (hb : Keeps2 w wr) {t : Y} {b off k : Nat} (hr : RowY w t b off) (hk : k < t.len) :
    wr.cell? ⟨b, off + k * 2, none⟩ = some (.int .i64 (t.gn k)) ∧
    ∃ p n cap, wr.cell? ⟨b, off + k * 2 + 1, none⟩ = some (.slice p n cap) ∧ IsY wr (t.ga k) p n cap := by
  obtain ⟨h2, p, n, cap, h3, h4⟩ := (hr.keeps hb).at hk
  exact ⟨h2, p, n, cap, h3, h4⟩

end Go.Proofs.Yteolfpdkpihnlaa

/-
  How a list of numbers lies in memory. Conditions: none.
-/
set_option linter.unusedSimpArgs false
set_option linter.unusedVariables false
namespace Go.Proofs.Yteolfpdkpihnlaa
open Go.RowKit

/-- the slice value (p, n, cap) is that of L -/
def IsL (w : World) (L : List Int) (p : Option Addr) (n cap : Nat) : Prop :=
  n = L.length ∧ n ≤ cap ∧ cap ≤ maxLen ∧ (p = none → cap = 0) ∧ (n = 0 ∨ ∃ b off, p = some ⟨b, off, none⟩ ∧ ∀ i, i < L.length → w.cell? ⟨b, off + i, none⟩ = some (.int .i64 (L.getD i 0)))

theorem IsL.keepc {w w' : World} {L : List Int} {p : Option Addr} {n cap : Nat} (hk : ∀ b o v, w.cell? ⟨b, o, none⟩ = some v → w'.cell? ⟨b, o, none⟩ = some v) (h : IsL w L p n cap) : IsL w' L p n cap := by
  obtain ⟨h1, h2, h3, h4, h5⟩ := h
  refine ⟨h1, h2, h3, h4, ?_⟩
  rcases h5 with h5 | ⟨b, off, e, hr⟩
  · exact Or.inl h5
  · exact Or.inr ⟨b, off, e, fun i hi => hk _ _ _ (hr i hi)⟩

theorem IsL.below {w w' : World} (hb : Below w.heap.size w w') {L : List Int} {p : Option Addr} {n cap : Nat} (h : IsL w L p n cap) : IsL w' L p n cap :=
  h.keepc fun b o v hc => ((bcell hb).1 _ _ (lt_of_cell hc)).trans hc

theorem IsL.alloc {w : World} {L : List Int} {p : Option Addr} {n cap : Nat} (h : IsL w L p n cap) (x : Obj) : IsL (w.alloc x) L p n cap := h.below ((Below.refl _ _).alloc (Nat.le_refl _) _)

theorem IsL.drew {w : World} {L : List Int} {p : Option Addr} {n cap : Nat} (h : IsL w L p n cap) : IsL w.drew L p n cap := h

/-- are there symbols of these ranks? -/
def ranksOk (L : List Int) : Bool := decide (L.length ≤ 24) && L.all fun r => decide (0 ≤ r) && decide (r ≤ 4)

/-- has a tree as many kids as its symbol asks for? -/
def suitE (R : List Int) (n : Int) (a : Y) : Bool := (decide (n = -1) && decide (a.len = 0)) || (decide (0 ≤ n) && decide (n < R.length) && decide ((a.len : Int) = R.getD n.toNat 0))

/-- is each tree of a list over these symbols? -/
def overE (R : List Int) : Y → Bool
  | .nil => true
  | .cons n a r => (suitE R n a && overE R a) && overE R r

/-- the same, of one tree -/
def over1 (R : List Int) (n : Int) (a : Y) : Bool := suitE R n a && overE R a

/-- is a tree a finite tree over these symbols? -/
def treeOk (R : List Int) (n : Int) (a : Y) : Bool := decide (a.sz < 20000) && decide (a.dep < 200) && over1 R n a

theorem overE_at {R : List Int} {t : Y} : ∀ {i : Nat}, overE R t = true → i < t.len → over1 R (t.gn i) (t.ga i) = true := by
  induction t with
  | nil => intro i _ h; exact absurd h (Nat.not_lt_zero _)
  | cons n a r iha ihr =>
    intro i h hi
    simp only [overE, Bool.and_eq_true] at h
    cases i with
    | zero => simp [over1, Y.gn, Y.ga, h.1]
    | succ i => exact ihr h.2 (by simp only [Y.len] at hi; omega)

theorem overE_drop {R : List Int} (t : Y) (i : Nat) (h : i < t.len) : overE R (t.drop i) = (over1 R (t.gn i) (t.ga i) && overE R (t.drop (i + 1))) := by
  rw [Y.drop_cons t i h]; rfl

/-- what the walk of valid does: it counts, and tells of each tree whether it is one -/
def vfE (R : List Int) (c l : Nat) (n : Int) (a : Y) : Nat × Bool := (c + 1, decide (c + 1 ≤ 20000) && (decide (l ≤ 200) && suitE R n a))

theorem walk_vf (R : List Int) (t : Y) : ∀ c l, c ≤ 20000 → l ≤ 201 →
    (Y.walk (vfE R) c l t).2 = (decide (c + t.sz ≤ 20000) && decide (l + t.dep ≤ 201) && overE R t) ∧ ((Y.walk (vfE R) c l t).2 = true → (Y.walk (vfE R) c l t).1 = c + t.sz) := by
  induction t with
  | nil => intro c l h1 h2; simp [Y.walk, Y.sz, Y.dep, overE, h1, h2]
  | cons n a r iha ihr =>
    intro c l h1 h2
    simp only [Y.walk]
    by_cases hf : (vfE R c l n a).2 = true
    · rw [if_pos hf]
      have hf' := hf
      simp only [vfE, Bool.and_eq_true, decide_eq_true_eq] at hf'
      obtain ⟨hf1, hf2, hf3⟩ := hf'
      have e1 : (vfE R c l n a).1 = c + 1 := rfl
      rw [e1]
      obtain ⟨ha, ha'⟩ := iha (c + 1) (l + 1) hf1 (by omega)
      by_cases hw : (Y.walk (vfE R) (c + 1) (l + 1) a).2 = true
      · rw [if_pos hw, ha' hw]
        rw [hw] at ha
        have ha2 := ha.symm
        simp only [Bool.and_eq_true, decide_eq_true_eq] at ha2
        obtain ⟨⟨x1, x2⟩, x3⟩ := ha2
        obtain ⟨hr, hr'⟩ := ihr (c + 1 + a.sz) l x1 h2
        constructor
        · rw [hr]
          have y1 : decide (c + 1 + a.sz + r.sz ≤ 20000) = decide (c + (Y.cons n a r).sz ≤ 20000) := by simp only [Y.sz]; congr 1; simp only [eq_iff_iff]; omega
          have y2 : decide (l + r.dep ≤ 201) = decide (l + (Y.cons n a r).dep ≤ 201) := by simp only [Y.dep]; congr 1; simp only [eq_iff_iff]; omega
          have y3 : overE R (.cons n a r) = overE R r := by simp [overE, hf3, x3]
          rw [y1, y2, y3]
        · intro h; rw [hr' h]; simp only [Y.sz]; omega
      · rw [if_neg hw]
        have hw' : (Y.walk (vfE R) (c + 1) (l + 1) a).2 = false := by simpa using hw
        constructor
        · rw [hw'] at ha
          have ha2 := ha.symm
          show false = _
          rw [eq_comm]
          simp only [Bool.and_eq_false_iff, decide_eq_false_iff_not] at ha2 ⊢
          rcases ha2 with (x | x) | x
          · exact Or.inl (Or.inl (by simp only [Y.sz]; omega))
          · exact Or.inl (Or.inr (by simp only [Y.dep]; omega))
          · exact Or.inr (by simp [overE, x])
        · intro h; exact absurd h (by simp)
    · rw [if_neg hf]
      have hf' : (vfE R c l n a).2 = false := by simpa using hf
      constructor
      · show false = _
        rw [eq_comm]
        simp only [vfE, Bool.and_eq_false_iff, decide_eq_false_iff_not] at hf' ⊢
        rcases hf' with x | x | x
        · exact Or.inl (Or.inl (by simp only [Y.sz]; omega))
        · exact Or.inl (Or.inr (by simp only [Y.dep]; omega))
        · exact Or.inr (by simp [overE, x])
      · intro h; exact absurd h (by simp)

theorem walk1_vf (R : List Int) (n : Int) (a : Y) : (Y.walk1 (vfE R) 0 1 n a).2 = treeOk R n a := by
  rw [← Y.walk_one, (walk_vf R _ 0 1 (by omega) (by omega)).1]
  have y1 : decide (0 + (Y.cons n a .nil).sz ≤ 20000) = decide (a.sz < 20000) := by simp only [Y.sz]; congr 1; simp only [eq_iff_iff]; omega
  have y2 : decide (1 + (Y.cons n a .nil).dep ≤ 201) = decide (a.dep < 200) := by simp only [Y.dep]; congr 1; simp only [eq_iff_iff]; omega
  rw [y1, y2]
  simp [overE, treeOk, over1]

/-- what the walk of Size does: it counts, and keeps the greatest level -/
def sfE (s : Nat × Nat) (l : Nat) (_ : Int) (_ : Y) : (Nat × Nat) × Bool := ((s.1 + 1, max s.2 l), decide (s.1 + 1 ≤ 20000))

/-- the lowest level of a list of this depth at level l -/
def top (l d : Nat) : Nat := if d = 0 then 0 else l + d - 1

theorem walk_sf (t : Y) : ∀ c d l, c ≤ 20000 →
    (Y.walk sfE (c, d) l t).2 = decide (c + t.sz ≤ 20000) ∧ ((Y.walk sfE (c, d) l t).2 = true → (Y.walk sfE (c, d) l t).1 = (c + t.sz, max d (top l t.dep))) := by
  induction t with
  | nil => intro c d l h1; simp [Y.walk, Y.sz, Y.dep, h1, top]
  | cons n a r iha ihr =>
    intro c d l h1
    simp only [Y.walk]
    by_cases hf : c + 1 ≤ 20000
    · have e2 : (sfE (c, d) l n a).2 = true := by simp [sfE, hf]
      have e1 : (sfE (c, d) l n a).1 = (c + 1, max d l) := rfl
      rw [if_pos e2, e1]
      obtain ⟨ha, ha'⟩ := iha (c + 1) (max d l) (l + 1) hf
      by_cases hw : c + 1 + a.sz ≤ 20000
      · have hw2 : (Y.walk sfE (c + 1, max d l) (l + 1) a).2 = true := by rw [ha]; simpa using hw
        rw [if_pos hw2, ha' hw2]
        obtain ⟨hr, hr'⟩ := ihr (c + 1 + a.sz) (max (max d l) (top (l + 1) a.dep)) l hw
        constructor
        · rw [hr]
          congr 1
          simp only [Y.sz, eq_iff_iff]
          omega
        · intro h
          rw [hr' h]
          rw [show (Y.cons n a r).dep = max (1 + a.dep) r.dep from rfl, show (Y.cons n a r).sz = 1 + a.sz + r.sz from rfl]
          unfold top
          rw [Prod.mk.injEq]
          refine ⟨by omega, ?_⟩
          (repeat' split) <;> omega
      · have hw2 : (Y.walk sfE (c + 1, max d l) (l + 1) a).2 = false := by rw [ha]; simpa using hw
        rw [if_neg (by rw [hw2]; simp)]
        refine ⟨?_, fun h => absurd h (by simp)⟩
        show false = _
        rw [eq_comm, decide_eq_false_iff_not]
        simp only [Y.sz]
        omega
    · have e2 : (sfE (c, d) l n a).2 = false := by simp [sfE, hf]
      rw [if_neg (by rw [e2]; simp)]
      refine ⟨?_, fun h => absurd h (by simp)⟩
      show false = _
      rw [eq_comm, decide_eq_false_iff_not]
      simp only [Y.sz]
      omega

theorem walk1_sf (n : Int) (a : Y) : (Y.walk1 sfE (0, 0) 1 n a).2 = decide (a.sz < 20000) ∧ (a.sz < 20000 → (Y.walk1 sfE (0, 0) 1 n a).1 = (a.sz + 1, a.dep + 1)) := by
  rw [← Y.walk_one]
  obtain ⟨h1, h2⟩ := walk_sf (.cons n a .nil) 0 0 1 (by omega)
  constructor
  · rw [h1]
    congr 1
    simp only [Y.sz, eq_iff_iff]
    omega
  · intro h
    rw [h2 (h1.trans (decide_eq_true (by simp only [Y.sz]; omega)))]
    rw [show (Y.cons n a .nil).dep = max (1 + a.dep) 0 from rfl, show (Y.cons n a .nil).sz = 1 + a.sz + 0 from rfl]
    unfold top
    rw [Prod.mk.injEq]
    exact ⟨by omega, by split <;> omega⟩

end Go.Proofs.Yteolfpdkpihnlaa

