/-
  Parts of one proof, laid into one text: Mem3, TMem3. Conditions: each part names its own.
-/
import Derived.Test.YtjkcopgfcafpeaaGreatDoorMg04
import Derived.Deep.AppendLies
import Derived.Lib.SmallJoins
import Derived.Test.YtjkcopgfcafpeaaGreatDoorMg02

/-
  A sort that a call has made itself: its rows lie in blocks of their own, no two of them shared. Conditions: none.
-/
namespace Go.Proofs.YtjkcopgfcafpeaaGreatDoor
open Go.RowKit

namespace T
def take : T → Nat → T
  | _, 0 => nil
  | nil, _ => nil
  | cons h t, k + 1 => cons h (t.take k)

def snoc : T → T → T
  | nil, x => cons x nil
  | cons h t, x => cons h (t.snoc x)

theorem take_zero (t : T) : t.take 0 = nil := by cases t <;> rfl

theorem take_snoc (t : T) : ∀ k, k < t.len → t.take (k + 1) = (t.take k).snoc (t.get k) := by
  induction t with
  | nil => intro k h; exact absurd h (Nat.not_lt_zero _)
  | cons h t ihh iht =>
    intro k hk
    cases k with
    | zero => show cons h (t.take 0) = _; rw [take_zero]; rfl
    | succ k =>
      have : k < t.len := by simp only [len] at hk; omega
      show cons h (t.take (k + 1)) = cons h ((t.take k).snoc (t.get k))
      rw [iht k this]

theorem take_len (t : T) : t.take t.len = t := by
  induction t with
  | nil => rfl
  | cons h t ihh iht => show cons h (t.take t.len) = _; rw [iht]

theorem take_all (t : T) (k : Nat) (h1 : k ≤ t.len) (h2 : ¬ k < t.len) : t.take k = t := by
  rw [show k = t.len by omega]; exact take_len t
end T

/-- block b begins with these cells, and none of them is frozen -/
def RowIs (w : World) (b : Nat) (us : List Value) : Prop := ∀ i v, us[i]? = some v → w.cell? ⟨b, i, none⟩ = some v ∧ w.frozen? ⟨b, i, none⟩ = false

/-- the values vs are those of the sorts in t; what they lead to lies in blocks from lo to hi, each sort's in an interval of its own, and block g in none of these -/
def Kids (w : World) : T → List Value → Option Nat → Nat → Nat → Prop
  | .nil, vs, _, lo, hi => vs = [] ∧ lo ≤ hi
  | .cons h t, vs, g, lo, hi => ∃ (l m c : Nat) (p : Option Addr) (rest : List Value), vs = .slice p h.len c :: rest ∧ lo ≤ l ∧ l ≤ m ∧ (∀ b, g = some b → b < l ∨ m ≤ b) ∧
      h.len ≤ c ∧ c ≤ maxLen ∧ (p = none → c = 0) ∧
      (h.len = 0 ∨ ∃ (b : Nat) (us : List Value), p = some ⟨b, 0, none⟩ ∧ l ≤ b ∧ b < m ∧ RowIs w b us ∧ Kids w h us (some b) l m) ∧ Kids w t rest g m hi

/-- the slice value (p, t.len, c) is that of t, made by the call itself: all its rows in blocks from lo to hi -/
def Own (w : World) (t : T) (p : Option Addr) (c lo hi : Nat) : Prop :=
  t.len ≤ c ∧ c ≤ maxLen ∧ (p = none → c = 0) ∧ (t.len = 0 ∨ ∃ (b : Nat) (us : List Value), p = some ⟨b, 0, none⟩ ∧ lo ≤ b ∧ b < hi ∧ RowIs w b us ∧ Kids w t us (some b) lo hi)

theorem RowIs.keep {w w' : World} {b : Nat} {us : List Value} (hk : w'.heap[b]? = w.heap[b]?) (h : RowIs w b us) : RowIs w' b us :=
  fun i v hi => ⟨by rw [World.cell?_of_block (w := w) hk]; exact (h i v hi).1, by rw [World.frozen?_of_block (w := w) hk]; exact (h i v hi).2⟩

theorem Kids.le {w : World} {t : T} : ∀ {vs : List Value} {g : Option Nat} {lo hi : Nat}, Kids w t vs g lo hi → lo ≤ hi := by
  induction t with
  | nil => intro _ _ _ _ h; exact h.2
  | cons h t ihh iht =>
    rintro vs g lo hi ⟨l, m, c, p, rest, _, h1, h2, _, _, _, _, _, h3⟩
    have := iht h3
    omega

theorem Kids.length {w : World} {t : T} : ∀ {vs : List Value} {g : Option Nat} {lo hi : Nat}, Kids w t vs g lo hi → vs.length = t.len := by
  induction t with
  | nil => intro vs _ _ _ h; rw [h.1]; rfl
  | cons h t ihh iht =>
    rintro vs g lo hi ⟨l, m, c, p, rest, rfl, _, _, _, _, _, _, _, h3⟩
    simp [T.len, iht h3]

theorem Kids.keep {w w' : World} {t : T} : ∀ {vs : List Value} {g : Option Nat} {lo hi : Nat}, (∀ k, lo ≤ k → k < hi → g ≠ some k → w'.heap[k]? = w.heap[k]?) → Kids w t vs g lo hi → Kids w' t vs g lo hi := by
  induction t with
  | nil => intro _ _ _ _ _ h; exact h
  | cons h t ihh iht =>
    rintro vs g lo hi hk ⟨l, m, c, p, rest, e, h1, h2, h4, h5, h6, h7, h8, h3⟩
    have hle := h3.le
    have hg : ∀ k, l ≤ k → k < m → g ≠ some k := by
      rintro k hl hm rfl
      rcases h4 k rfl with h | h <;> omega
    refine ⟨l, m, c, p, rest, e, h1, h2, h4, h5, h6, h7, ?_, iht (fun k a b d => hk k (by omega) b d) h3⟩
    rcases h8 with h8 | ⟨b, us, e', hb1, hb2, hr, hkids⟩
    · exact Or.inl h8
    · exact Or.inr ⟨b, us, e', hb1, hb2, hr.keep (hk b (by omega) (by omega) (hg b hb1 hb2)), ihh (fun k a d _ => hk k (by omega) (by omega) (hg k a d)) hkids⟩

theorem Kids.mono {w : World} {t : T} : ∀ {vs : List Value} {g : Option Nat} {lo hi lo' hi' : Nat}, lo' ≤ lo → hi ≤ hi' → Kids w t vs g lo hi → Kids w t vs g lo' hi' := by
  induction t with
  | nil => intro _ _ _ _ _ _ h1 h2 h; exact ⟨h.1, by have := h.2; omega⟩
  | cons h t ihh iht =>
    rintro vs g lo hi lo' hi' a b ⟨l, m, c, p, rest, e, h1, h2, h4, h5, h6, h7, h8, h3⟩
    exact ⟨l, m, c, p, rest, e, by omega, h2, h4, h5, h6, h7, h8, iht (Nat.le_refl _) b h3⟩

theorem Kids.own {w : World} {t : T} : ∀ {vs : List Value} {g g' : Option Nat} {lo hi : Nat}, (g' = g ∨ ∀ b, g' = some b → b < lo ∨ hi ≤ b) → Kids w t vs g lo hi → Kids w t vs g' lo hi := by
  induction t with
  | nil => intro _ _ _ _ _ _ h; exact h
  | cons h t ihh iht =>
    rintro vs g g' lo hi hg ⟨l, m, c, p, rest, e, h1, h2, h4, h5, h6, h7, h8, h3⟩
    have hle := h3.le
    refine ⟨l, m, c, p, rest, e, h1, h2, ?_, h5, h6, h7, h8, iht ?_ h3⟩
    · rcases hg with rfl | hg
      · exact h4
      · intro b hb
        rcases hg b hb with h | h <;> omega
    · rcases hg with rfl | hg
      · exact Or.inl rfl
      · refine Or.inr fun b hb => ?_
        rcases hg b hb with h | h <;> omega

theorem Kids.snoc {w : World} {t : T} {x : T} {p : Option Addr} {c l m : Nat} (h5 : x.len ≤ c) (h6 : c ≤ maxLen) (h7 : p = none → c = 0) (hlm : l ≤ m)
    (h8 : x.len = 0 ∨ ∃ (b : Nat) (us : List Value), p = some ⟨b, 0, none⟩ ∧ l ≤ b ∧ b < m ∧ RowIs w b us ∧ Kids w x us (some b) l m) :
    ∀ {vs : List Value} {g : Option Nat} {lo hi : Nat}, hi ≤ l → (∀ b, g = some b → b < l ∨ m ≤ b) → Kids w t vs g lo hi → Kids w (t.snoc x) (vs ++ [.slice p x.len c]) g lo m := by
  induction t with
  | nil =>
    rintro vs g lo hi hl hg ⟨rfl, h⟩
    exact ⟨l, m, c, p, [], rfl, by omega, hlm, hg, h5, h6, h7, h8, rfl, Nat.le_refl _⟩
  | cons h t ihh iht =>
    rintro vs g lo hi hl hg ⟨l', m', c', p', rest, rfl, a1, a2, a4, a5, a6, a7, a8, a3⟩
    exact ⟨l', m', c', p', rest ++ [.slice p x.len c], rfl, a1, a2, a4, a5, a6, a7, a8, iht hl hg a3⟩

theorem Kids.row {w : World} {t : T} : ∀ {vs : List Value} {g : Option Nat} {lo hi b off : Nat}, Kids w t vs g lo hi → (∀ i v, vs[i]? = some v → w.cell? ⟨b, off + i, none⟩ = some v) → Row w t b off := by
  induction t with
  | nil => intros; trivial
  | cons h t ihh iht =>
    rintro vs g lo hi b off ⟨l, m, c, p, rest, rfl, h1, h2, h4, h5, h6, h7, h8, h3⟩ hc
    refine ⟨⟨p, c, by have := hc 0 _ rfl; simpa using this, h5, h6, h7, ?_⟩, iht h3 fun i v hi => by have := hc (i + 1) v (by simpa using hi); rw [show off + 1 + i = off + (i + 1) by omega]; exact this⟩
    rcases h8 with h8 | ⟨b', us, e, _, _, hr, hk⟩
    · exact Or.inl h8
    · exact Or.inr ⟨b', 0, e, ihh hk fun i v hi => by rw [Nat.zero_add]; exact (hr i v hi).1⟩

theorem Own.isT {w : World} {t : T} {p : Option Addr} {c lo hi : Nat} (h : Own w t p c lo hi) : IsT w t p t.len c := by
  obtain ⟨h1, h2, h3, h4⟩ := h
  refine ⟨rfl, h1, h2, h3, ?_⟩
  rcases h4 with h4 | ⟨b, us, e, _, _, hr, hk⟩
  · exact Or.inl h4
  · exact Or.inr ⟨b, 0, e, hk.row fun i v hi => by rw [Nat.zero_add]; exact (hr i v hi).1⟩

theorem Own.keep {w w' : World} {t : T} {p : Option Addr} {c lo hi : Nat} (hk : ∀ k, lo ≤ k → k < hi → w'.heap[k]? = w.heap[k]?) (h : Own w t p c lo hi) : Own w' t p c lo hi := by
  obtain ⟨h1, h2, h3, h4⟩ := h
  refine ⟨h1, h2, h3, ?_⟩
  rcases h4 with h4 | ⟨b, us, e, a1, a2, hr, hkk⟩
  · exact Or.inl h4
  · exact Or.inr ⟨b, us, e, a1, a2, hr.keep (hk b a1 a2), hkk.keep fun k x y _ => hk k x y⟩

theorem Own.mono {w : World} {t : T} {p : Option Addr} {c lo hi lo' hi' : Nat} (hl : lo' ≤ lo) (hh : hi ≤ hi') (h : Own w t p c lo hi) : Own w t p c lo' hi' := by
  obtain ⟨h1, h2, h3, h4⟩ := h
  refine ⟨h1, h2, h3, ?_⟩
  rcases h4 with h4 | ⟨b, us, e, a1, a2, hr, hkk⟩
  · exact Or.inl h4
  · exact Or.inr ⟨b, us, e, by omega, by omega, hr, hkk.mono hl hh⟩

/-- what a loop that collects holds: the first k sorts of t, in a slice of the call's own -/
def Got (w : World) (ty : TypeId) (t : T) (k : Nat) (v : Value) (B : Nat) : Prop :=
  ∃ xs, w.ownsRow B ty 1 v k xs ∧ Kids w (t.take k) xs v.ownBlock B w.heap.size

theorem Got.start (w : World) (ty : TypeId) (t : T) (B : Nat) (hB : B ≤ w.heap.size) : Got w ty t 0 (.slice none 0 0) B :=
  ⟨[], World.ownsRow_nil w B ty 1, by rw [T.take_zero]; exact ⟨rfl, hB⟩⟩

theorem Got.keep {w w' : World} {ty : TypeId} {t : T} {k B : Nat} {v : Value} (h : Got w ty t k v B) (hb : Below w.heap.size w w') : Got w' ty t k v B := by
  obtain ⟨xs, h1, h2⟩ := h
  refine ⟨xs, h1.kept (row := none) ⟨hb.os, hb.tape, hb.output, hb.size, fun k hk _ => hb.block k hk⟩ ?_, (h2.keep fun k _ hk _ => hb.block k hk).mono (Nat.le_refl _) hb.size⟩
  cases v.ownBlock with
  | none => exact Or.inl rfl
  | some g => exact Or.inr (by simp)

theorem Got.step {w w1 : World} {ty : TypeId} {t : T} {k B : Nat} {v : Value} {q : Option Addr} {c lo hi g cap : Nat} {xs : List Value} (hk : k < t.len)
    (hkids : Kids w (t.take k) xs v.ownBlock B lo) (hlo : lo ≤ hi) (hhi : hi ≤ w.heap.size) (hvb : ∀ b, v.ownBlock = some b → b < lo) (hO : Own w (t.get k) q c lo hi)
    (hown : w1.ownsRow B ty 1 (.slice (some ⟨g, 0, none⟩) (k + 1) cap) (k + 1) (xs ++ [.slice q (t.get k).len c]))
    (hgrow : w.grownBy w1 v.ownBlock) (hat : v.ownBlock = some g ∨ g = w.heap.size) : Got w1 ty t (k + 1) (.slice (some ⟨g, 0, none⟩) (k + 1) cap) B := by
  refine ⟨_, hown, ?_⟩
  rw [T.take_snoc t k hk]
  have hblk : ∀ j, j < w.heap.size → v.ownBlock ≠ some j → w1.heap[j]? = w.heap[j]? := fun j hj hne => hgrow.block j hj (fun e => hne e.symm)
  have hO' : Own w1 (t.get k) q c lo hi := hO.keep fun j a b => hblk j (by omega) (fun e => by have := hvb j e; omega)
  have hk1 : Kids w1 (t.take k) xs v.ownBlock B lo := hkids.keep fun j a b d => hblk j (by omega) d
  have hg : ∀ b, (Value.slice (some ⟨g, 0, none⟩) (k + 1) cap).ownBlock = some b → b = g := by
    intro b hb; simp [Value.ownBlock] at hb; omega
  have hk2 : Kids w1 (t.take k) xs (Value.slice (some ⟨g, 0, none⟩) (k + 1) cap).ownBlock B lo := by
    refine hk1.own ?_
    rcases hat with hat | hat
    · exact Or.inl (by rw [hat]; simp [Value.ownBlock])
    · exact Or.inr fun b hb => Or.inr (by have := hg b hb; omega)
  obtain ⟨o1, o2, o3, o4⟩ := hO'
  refine (Kids.snoc o1 o2 o3 hlo o4 (Nat.le_refl _) ?_ hk2).mono (Nat.le_refl _) (Nat.le_trans hhi hgrow.size)
  intro b hb
  have := hg b hb
  subst this
  rcases hat with hat | hat
  · exact Or.inl (hvb _ hat)
  · exact Or.inr (by omega)

/-- one round of a loop that collects: a box X, the call, the new cell Y, the append -/
theorem Got.round {w wr w1 w3 : World} {ty : TypeId} {t : T} {k : Nat} {v : Value} {q : Option Addr} {c g cap : Nat} {xs : List Value} {X Y : Obj} (hk : k < t.len) (hb : Below w.heap.size w wr)
    (hown0 : wr.ownsRow w.heap.size ty 1 v k xs) (hkids : Kids wr (t.take k) xs v.ownBlock w.heap.size wr.heap.size)
    (hb1 : Below (wr.alloc X).heap.size (wr.alloc X) w1) (hO : Own w1 (t.get k) q c (wr.alloc X).heap.size w1.heap.size)
    (hown : w3.ownsRow w.heap.size ty 1 (.slice (some ⟨g, 0, none⟩) (k + 1) cap) (k + 1) (xs ++ [.slice q (t.get k).len c]))
    (hgrow : (w1.alloc Y).grownBy w3 v.ownBlock) (hat : v.ownBlock = some g ∨ g = w1.heap.size + 1) :
    Got w3 ty t (k + 1) (.slice (some ⟨g, 0, none⟩) (k + 1) cap) w.heap.size ∧ Below w.heap.size w w3 := by
  have hz1 := hb1.size
  simp only [World.size_alloc] at hz1 hO
  have hlt := hown0.lt
  have hblk : ∀ j, j < wr.heap.size → (w1.alloc Y).heap[j]? = wr.heap[j]? := fun j hj => by
    rw [Below.heap_alloc _ _ _ (by omega), hb1.block j (by simp only [World.size_alloc]; omega), Below.heap_alloc _ _ _ hj]
  refine ⟨Got.step (w := w1.alloc Y) (lo := wr.heap.size + 1) (hi := w1.heap.size) (q := q) (c := c) (xs := xs) hk ?_ hz1 (by simp) ?_ ?_ hown hgrow (by simpa using hat), ?_⟩
  · exact (hkids.keep fun j _ b _ => hblk j b).mono (Nat.le_refl _) (Nat.le_succ _)
  · intro b hb'
    have := (hlt b hb').2
    omega
  · exact hO.keep fun j _ b => Below.heap_alloc _ _ _ b
  · have h1 : Below w.heap.size w w1 := base_next hb hb1
    exact (h1.alloc h1.size Y).grown hgrow (by have := h1.size; simp only [World.size_alloc]; omega) fun j hj => (hlt j hj).1

theorem one_slice (q : Option Addr) (n c : Nat) : ∀ u ∈ [Value.slice q n c], u.oneCell' = true := by simp [Value.oneCell']

theorem size_new (w : World) (x : Obj) : (w.alloc x).heap.size = w.heap.size + 1 := World.size_alloc w x

theorem base_le {w : World} {B : Nat} (x : Obj) (h : B ≤ w.heap.size) : B ≤ (w.alloc x).heap.size := by rw [World.size_alloc]; omega

theorem ownsRow_keep {w w' : World} {B : Nat} {ty : TypeId} {v : Value} {n : Nat} {xs : List Value} (h : w.ownsRow B ty 1 v n xs) (hb : Below w.heap.size w w') : w'.ownsRow B ty 1 v n xs := by
  refine h.kept (row := none) ⟨hb.os, hb.tape, hb.output, hb.size, fun k hk _ => hb.block k hk⟩ ?_
  cases v.ownBlock with
  | none => exact Or.inl rfl
  | some g => exact Or.inr (by simp)

/-- the same round, with a base of its own and whatever world the call is made in -/
theorem Got.round' {wr wx w1 w3 : World} {ty : TypeId} {t : T} {k B : Nat} {v : Value} {q : Option Addr} {c g cap : Nat} {xs : List Value} {Y : Obj} (hk : k < t.len)
    (hown0 : wr.ownsRow B ty 1 v k xs) (hkids : Kids wr (t.take k) xs v.ownBlock B wr.heap.size)
    (hx : ∀ j, j < wr.heap.size → wx.heap[j]? = wr.heap[j]?) (hxs : wx.heap.size = wr.heap.size + 1)
    (hb1 : Below wx.heap.size wx w1) (hO : Own w1 (t.get k) q c wx.heap.size w1.heap.size)
    (hown : w3.ownsRow B ty 1 (.slice (some ⟨g, 0, none⟩) (k + 1) cap) (k + 1) (xs ++ [.slice q (t.get k).len c]))
    (hgrow : (w1.alloc Y).grownBy w3 v.ownBlock) (hat : v.ownBlock = some g ∨ g = w1.heap.size + 1) :
    Got w3 ty t (k + 1) (.slice (some ⟨g, 0, none⟩) (k + 1) cap) B := by
  have hz1 := hb1.size
  rw [hxs] at hO hz1
  have hlt := hown0.lt
  have hblk : ∀ j, j < wr.heap.size → (w1.alloc Y).heap[j]? = wr.heap[j]? := fun j hj => by
    rw [Below.heap_alloc _ _ _ (by omega), hb1.block j (by omega), hx j hj]
  refine Got.step (w := w1.alloc Y) (lo := wr.heap.size + 1) (hi := w1.heap.size) (q := q) (c := c) (xs := xs) hk ?_ hz1 (by simp) ?_ ?_ hown hgrow (by simpa using hat)
  · exact (hkids.keep fun j _ b _ => hblk j b).mono (Nat.le_refl _) (Nat.le_succ _)
  · intro b hb'
    have := (hlt b hb').2
    omega
  · exact hO.keep fun j _ b => Below.heap_alloc _ _ _ b

/-- a variable's block that lies below what the call has collected is kept by a round -/
theorem out_kept {wr w1 w3 : World} {j B : Nat} {o Y : Obj} {v : Value} (hj : j < wr.heap.size) (h : wr.heap[j]? = some o) (hjB : j < B) {X : Obj} (hb1 : Below (wr.alloc X).drew.heap.size (wr.alloc X).drew w1)
    (hlt : ∀ k, v.ownBlock = some k → B ≤ k ∧ k < wr.heap.size) (hgrow : (w1.alloc Y).grownBy w3 v.ownBlock) : w3.heap[j]? = some o := by
  have hz1 := hb1.size
  have hs : (wr.alloc X).drew.heap.size = wr.heap.size + 1 := by simp
  rw [hs] at hz1
  rw [hgrow.block j (by simp only [World.size_alloc]; omega) (fun e => by have := (hlt j e.symm).1; omega), Below.heap_alloc _ _ _ (by omega), hb1.block j (by rw [hs]; omega)]
  exact (Below.heap_alloc wr X j hj).trans h

theorem call_kept {wr w1 : World} {j : Nat} {o : Obj} (hj : j < wr.heap.size) (h : wr.heap[j]? = some o) {X : Obj} (hb1 : Below (wr.alloc X).drew.heap.size (wr.alloc X).drew w1) : w1.heap[j]? = some o := by
  have hs : (wr.alloc X).drew.heap.size = wr.heap.size + 1 := by simp
  rw [hb1.block j (by rw [hs]; omega)]
  exact (Below.heap_alloc wr X j hj).trans h

theorem alloc_kept {w : World} {j : Nat} {o : Obj} (h : w.heap[j]? = some o) (x : Obj) : (w.alloc x).heap[j]? = some o := by rw [Below.heap_alloc _ _ _ (lt_of_block h)]; exact h

theorem below_collect {W wr w1 w3 : World} {B B' : Nat} {X Y : Obj} {v : Value} (hb : Below B' W wr) (hB : B' ≤ wr.heap.size) (hb1 : Below (wr.alloc X).drew.heap.size (wr.alloc X).drew w1) (hBB : B' ≤ B)
    (hlt : ∀ k, v.ownBlock = some k → B ≤ k ∧ k < wr.heap.size) (hgrow : (w1.alloc Y).grownBy w3 v.ownBlock) : Below B' W w3 := by
  have hs : (wr.alloc X).drew.heap.size = wr.heap.size + 1 := by simp
  have hz1 := hb1.size
  rw [hs] at hz1
  have h1 : Below B' W w1 := (hb.alloc hB X).drew.trans (hb1.mono (by rw [hs]; omega))
  exact (h1.alloc (by omega) Y).grown hgrow (by simp only [World.size_alloc]; omega) fun j hj => by have := (hlt j hj).1; omega

theorem Got.set {w : World} {ty : TypeId} {t : T} {k B : Nat} {v : Value} (h : Got w ty t k v B) {a : Addr} (ha : a.block < B) (u : Value) : Got (w.setCell a u) ty t k v B := by
  obtain ⟨xs, h1, h2⟩ := h
  refine ⟨xs, ownsRow_setCell_below h1 ha u, ?_⟩
  have hs : (w.setCell a u).heap.size = w.heap.size := by simp [World.setCell]
  rw [hs]
  exact h2.keep fun j hj _ _ => Below.heap_setCell _ _ _ _ (by omega)

theorem Own.set {w : World} {t : T} {p : Option Addr} {c lo hi : Nat} (h : Own w t p c lo hi) {a : Addr} (ha : a.block < lo) (u : Value) : Own (w.setCell a u) t p c lo hi :=
  h.keep fun j hj _ => Below.heap_setCell _ _ _ _ (by omega)

theorem Got.finish {w : World} {ty : TypeId} {t : T} {k B : Nat} {v : Value} (h1 : k ≤ t.len) (h2 : ¬ k < t.len) (h : Got w ty t k v B) : ∃ q c, v = .slice q t.len c ∧ Own w t q c B w.heap.size := by
  obtain ⟨xs, hown, hk⟩ := h
  rw [T.take_all t k h1 h2] at hk
  obtain rfl : k = t.len := by omega
  have hlt := hown.lt
  obtain ⟨hx, hown'⟩ := id hown
  rcases hown' with ⟨rfl, h0⟩ | ⟨g, cap, cur, rfl, hbg, hg, hnc, hcm, hcs, htake⟩
  · exact ⟨none, 0, by rw [h0], by omega, by simp [maxLen], fun _ => rfl, Or.inl h0⟩
  · refine ⟨_, cap, rfl, hnc, hcm, fun e => by simp at e, ?_⟩
    by_cases h0 : t.len = 0
    · exact Or.inl h0
    · refine Or.inr ⟨g, xs, rfl, hbg, (hlt g (by simp [Value.ownBlock])).2, fun i v hi => ⟨?_, hown.frozenAt i⟩, by simpa [Value.ownBlock] using hk⟩
      have hil : i < xs.length := by
        rcases Nat.lt_or_ge i xs.length with h | h
        · exact h
        · rw [List.getElem?_eq_none h] at hi; cases hi
      rw [hown.cellAt i (by omega)]; exact hi

end Go.Proofs.YtjkcopgfcafpeaaGreatDoor

/-
  Terms that a call has made itself: their rows lie in blocks of their own, no two of them shared. Conditions: none.
-/
set_option linter.unusedSimpArgs false
set_option linter.unusedVariables false
namespace Go.Proofs.YtjkcopgfcafpeaaGreatDoor
open Go.RowKit

namespace X
/-- one list behind another -/
def app : X → X → X
  | nil, y => y
  | cons k n a r, y => cons k n a (r.app y)

/-- one term behind a list -/
def snoc (t : X) (k n : Int) (a : X) : X := t.app (cons k n a nil)

/-- each term changed -/
def map (g : Int → Int → X → Int × Int × X) : X → X
  | nil => nil
  | cons k n a r => cons (g k n a).1 (g k n a).2.1 (g k n a).2.2 (r.map g)

theorem app_nil (t : X) : t.app nil = t := by
  induction t with
  | nil => rfl
  | cons k n a r iha ihr => show cons k n a (r.app nil) = _; rw [ihr]

theorem app_assoc (t y z : X) : (t.app y).app z = t.app (y.app z) := by
  induction t with
  | nil => rfl
  | cons k n a r iha ihr => show cons k n a ((r.app y).app z) = _; rw [ihr]; rfl

theorem snoc_app (t : X) (k n : Int) (a y : X) : (t.snoc k n a).app y = t.app (cons k n a y) := by unfold snoc; rw [app_assoc]; rfl

theorem len_app (t y : X) : (t.app y).len = t.len + y.len := by
  induction t with
  | nil => simp [app, len]
  | cons k n a r iha ihr => simp only [app, len, ihr]; omega

theorem len_snoc (t : X) (k n : Int) (a : X) : (t.snoc k n a).len = t.len + 1 := by simp [snoc, len_app, len]

theorem sz_app (t y : X) : (t.app y).sz = t.sz + y.sz := by
  induction t with
  | nil => simp [app, sz]
  | cons k n a r iha ihr => simp only [app, sz, ihr]; omega

theorem len_map (g : Int → Int → X → Int × Int × X) (t : X) : (t.map g).len = t.len := by
  induction t with
  | nil => rfl
  | cons k n a r iha ihr => simp only [map, len, ihr]

theorem map_id (t : X) : t.map (fun k n a => (k, n, a)) = t := by
  induction t with
  | nil => rfl
  | cons k n a r iha ihr => simp only [map, ihr]

theorem map_drop (g : Int → Int → X → Int × Int × X) (t : X) (i : Nat) (h : i < t.len) :
    (t.drop i).map g = cons (g (t.gk i) (t.gn i) (t.ga i)).1 (g (t.gk i) (t.gn i) (t.ga i)).2.1 (g (t.gk i) (t.gn i) (t.ga i)).2.2 ((t.drop (i + 1)).map g) := by
  rw [drop_cons t i h]; rfl
end X

/-- the values vs are those of the terms in t, three a term; what they lead to lies in blocks from lo to hi, each term's in an interval of its own, and block g in none of these -/
def KidsX (w : World) : X → List Value → Option Nat → Nat → Nat → Prop
  | .nil, vs, _, lo, hi => vs = [] ∧ lo ≤ hi
  | .cons k n a r, vs, g, lo, hi => ∃ (l m c : Nat) (p : Option Addr) (rest : List Value), vs = .int .i64 k :: .int .i64 n :: .slice p a.len c :: rest ∧ lo ≤ l ∧ l ≤ m ∧ (∀ b, g = some b → b < l ∨ m ≤ b) ∧
      a.len ≤ c ∧ c ≤ maxLen ∧ (p = none → c = 0) ∧
      (a.len = 0 ∨ ∃ (b : Nat) (us : List Value), p = some ⟨b, 0, none⟩ ∧ l ≤ b ∧ b < m ∧ RowIs w b us ∧ KidsX w a us (some b) l m) ∧ KidsX w r rest g m hi

/-- the slice value (p, t.len, c) is that of t, made by the call itself: all its rows in blocks from lo to hi -/
def OwnX (w : World) (t : X) (p : Option Addr) (c lo hi : Nat) : Prop :=
  t.len ≤ c ∧ c ≤ maxLen ∧ (p = none → c = 0) ∧ (t.len = 0 ∨ ∃ (b : Nat) (us : List Value), p = some ⟨b, 0, none⟩ ∧ lo ≤ b ∧ b < hi ∧ RowIs w b us ∧ KidsX w t us (some b) lo hi)

theorem KidsX.le {w : World} {t : X} : ∀ {vs : List Value} {g : Option Nat} {lo hi : Nat}, KidsX w t vs g lo hi → lo ≤ hi := by
  induction t with
  | nil => intro _ _ _ _ h; exact h.2
  | cons k n a r iha ihr =>
    rintro vs g lo hi ⟨l, m, c, p, rest, _, h1, h2, _, _, _, _, _, h3⟩
    have := ihr h3
    omega

theorem KidsX.keep {w w' : World} {t : X} : ∀ {vs : List Value} {g : Option Nat} {lo hi : Nat}, (∀ k, lo ≤ k → k < hi → g ≠ some k → w'.heap[k]? = w.heap[k]?) → KidsX w t vs g lo hi → KidsX w' t vs g lo hi := by
  induction t with
  | nil => intro _ _ _ _ _ h; exact h
  | cons k n a r iha ihr =>
    rintro vs g lo hi hk ⟨l, m, c, p, rest, e, h1, h2, h4, h5, h6, h7, h8, h3⟩
    have hle := h3.le
    have hg : ∀ k, l ≤ k → k < m → g ≠ some k := by
      rintro k hl hm rfl
      rcases h4 k rfl with h | h <;> omega
    refine ⟨l, m, c, p, rest, e, h1, h2, h4, h5, h6, h7, ?_, ihr (fun k a b d => hk k (by omega) b d) h3⟩
    rcases h8 with h8 | ⟨b, us, e', hb1, hb2, hr, hkids⟩
    · exact Or.inl h8
    · exact Or.inr ⟨b, us, e', hb1, hb2, hr.keep (hk b (by omega) (by omega) (hg b hb1 hb2)), iha (fun k a d _ => hk k (by omega) (by omega) (hg k a d)) hkids⟩

theorem KidsX.mono {w : World} {t : X} : ∀ {vs : List Value} {g : Option Nat} {lo hi lo' hi' : Nat}, lo' ≤ lo → hi ≤ hi' → KidsX w t vs g lo hi → KidsX w t vs g lo' hi' := by
  induction t with
  | nil => intro _ _ _ _ _ _ h1 h2 h; exact ⟨h.1, by have := h.2; omega⟩
  | cons k n a r iha ihr =>
    rintro vs g lo hi lo' hi' a b ⟨l, m, c, p, rest, e, h1, h2, h4, h5, h6, h7, h8, h3⟩
    exact ⟨l, m, c, p, rest, e, by omega, h2, h4, h5, h6, h7, h8, ihr (Nat.le_refl _) b h3⟩

theorem KidsX.own {w : World} {t : X} : ∀ {vs : List Value} {g g' : Option Nat} {lo hi : Nat}, (g' = g ∨ ∀ b, g' = some b → b < lo ∨ hi ≤ b) → KidsX w t vs g lo hi → KidsX w t vs g' lo hi := by
  induction t with
  | nil => intro _ _ _ _ _ _ h; exact h
  | cons k n a r iha ihr =>
    rintro vs g g' lo hi hg ⟨l, m, c, p, rest, e, h1, h2, h4, h5, h6, h7, h8, h3⟩
    have hle := h3.le
    refine ⟨l, m, c, p, rest, e, h1, h2, ?_, h5, h6, h7, h8, ihr ?_ h3⟩
    · rcases hg with rfl | hg
      · exact h4
      · intro b hb
        rcases hg b hb with h | h <;> omega
    · rcases hg with rfl | hg
      · exact Or.inl rfl
      · refine Or.inr fun b hb => ?_
        rcases hg b hb with h | h <;> omega

theorem KidsX.snoc {w : World} {t : X} {x : X} {kx nx : Int} {p : Option Addr} {c l m : Nat} (h5 : x.len ≤ c) (h6 : c ≤ maxLen) (h7 : p = none → c = 0) (hlm : l ≤ m)
    (h8 : x.len = 0 ∨ ∃ (b : Nat) (us : List Value), p = some ⟨b, 0, none⟩ ∧ l ≤ b ∧ b < m ∧ RowIs w b us ∧ KidsX w x us (some b) l m) :
    ∀ {vs : List Value} {g : Option Nat} {lo hi : Nat}, hi ≤ l → (∀ b, g = some b → b < l ∨ m ≤ b) → KidsX w t vs g lo hi → KidsX w (t.snoc kx nx x) (vs ++ [.int .i64 kx, .int .i64 nx, .slice p x.len c]) g lo m := by
  induction t with
  | nil =>
    rintro vs g lo hi hl hg ⟨rfl, h⟩
    exact ⟨l, m, c, p, [], rfl, by omega, hlm, hg, h5, h6, h7, h8, rfl, Nat.le_refl _⟩
  | cons k n a r iha ihr =>
    rintro vs g lo hi hl hg ⟨l', m', c', p', rest, rfl, a1, a2, a4, a5, a6, a7, a8, a3⟩
    refine ⟨l', m', c', p', rest ++ [.int .i64 kx, .int .i64 nx, .slice p x.len c], by simp, a1, a2, a4, a5, a6, a7, a8, ?_⟩
    exact ihr hl hg a3

theorem KidsX.row {w : World} {t : X} : ∀ {vs : List Value} {g : Option Nat} {lo hi b off : Nat}, KidsX w t vs g lo hi → (∀ i v, vs[i]? = some v → w.cell? ⟨b, off + i, none⟩ = some v) → RowX w t b off := by
  induction t with
  | nil => intros; trivial
  | cons k n a r iha ihr =>
    rintro vs g lo hi b off ⟨l, m, c, p, rest, rfl, h1, h2, h4, h5, h6, h7, h8, h3⟩ hc
    refine ⟨by have := hc 0 _ rfl; simpa using this, hc 1 _ rfl, ⟨p, c, hc 2 _ rfl, h5, h6, h7, ?_⟩, ihr h3 fun i v hi => by have := hc (i + 3) v (by simpa using hi); rw [show off + 3 + i = off + (i + 3) by omega]; exact this⟩
    rcases h8 with h8 | ⟨b', us, e, _, _, hr, hk⟩
    · exact Or.inl h8
    · exact Or.inr ⟨b', 0, e, iha hk fun i v hi => by rw [Nat.zero_add]; exact (hr i v hi).1⟩

theorem OwnX.isX {w : World} {t : X} {p : Option Addr} {c lo hi : Nat} (h : OwnX w t p c lo hi) : IsX w t p t.len c := by
  obtain ⟨h1, h2, h3, h4⟩ := h
  refine ⟨rfl, h1, h2, h3, ?_⟩
  rcases h4 with h4 | ⟨b, us, e, _, _, hr, hk⟩
  · exact Or.inl h4
  · exact Or.inr ⟨b, 0, e, hk.row fun i v hi => by rw [Nat.zero_add]; exact (hr i v hi).1⟩

theorem OwnX.keep {w w' : World} {t : X} {p : Option Addr} {c lo hi : Nat} (hk : ∀ k, lo ≤ k → k < hi → w'.heap[k]? = w.heap[k]?) (h : OwnX w t p c lo hi) : OwnX w' t p c lo hi := by
  obtain ⟨h1, h2, h3, h4⟩ := h
  refine ⟨h1, h2, h3, ?_⟩
  rcases h4 with h4 | ⟨b, us, e, a1, a2, hr, hkk⟩
  · exact Or.inl h4
  · exact Or.inr ⟨b, us, e, a1, a2, hr.keep (hk b a1 a2), hkk.keep fun k x y _ => hk k x y⟩

theorem OwnX.mono {w : World} {t : X} {p : Option Addr} {c lo hi lo' hi' : Nat} (hl : lo' ≤ lo) (hh : hi ≤ hi') (h : OwnX w t p c lo hi) : OwnX w t p c lo' hi' := by
  obtain ⟨h1, h2, h3, h4⟩ := h
  refine ⟨h1, h2, h3, ?_⟩
  rcases h4 with h4 | ⟨b, us, e, a1, a2, hr, hkk⟩
  · exact Or.inl h4
  · exact Or.inr ⟨b, us, e, by omega, by omega, hr, hkk.mono hl hh⟩

theorem OwnX.set {w : World} {t : X} {p : Option Addr} {c lo hi : Nat} (h : OwnX w t p c lo hi) {a : Addr} (ha : a.block < lo) (u : Value) : OwnX (w.setCell a u) t p c lo hi :=
  h.keep fun j hj _ => Below.heap_setCell _ _ _ _ (by omega)

theorem ownX_nil (w : World) (lo hi : Nat) : OwnX w .nil none 0 lo hi := ⟨Nat.le_refl _, by simp [maxLen], fun _ => rfl, Or.inl rfl⟩

/-- what a loop that collects holds: the terms y, in a slice of the call's own -/
def GotX (w : World) (ty : TypeId) (y : X) (v : Value) (B : Nat) : Prop :=
  ∃ xs, w.ownsRow B ty 3 v y.len xs ∧ KidsX w y xs v.ownBlock B w.heap.size

theorem GotX.start {w : World} {ty : TypeId} {v : Value} {B : Nat} (h : w.ownsRow B ty 3 v 0 []) (hB : B ≤ w.heap.size) : GotX w ty .nil v B := ⟨[], h, rfl, hB⟩

theorem GotX.keep {w w' : World} {ty : TypeId} {y : X} {B : Nat} {v : Value} (h : GotX w ty y v B) (hb : Below w.heap.size w w') : GotX w' ty y v B := by
  obtain ⟨xs, h1, h2⟩ := h
  refine ⟨xs, h1.kept (row := none) ⟨hb.os, hb.tape, hb.output, hb.size, fun k hk _ => hb.block k hk⟩ ?_, (h2.keep fun k _ hk _ => hb.block k hk).mono (Nat.le_refl _) hb.size⟩
  cases v.ownBlock with
  | none => exact Or.inl rfl
  | some g => exact Or.inr (by simp)

theorem GotX.set {w : World} {ty : TypeId} {y : X} {B : Nat} {v : Value} (h : GotX w ty y v B) {a : Addr} (ha : a.block < B) (u : Value) : GotX (w.setCell a u) ty y v B := by
  obtain ⟨xs, h1, h2⟩ := h
  refine ⟨xs, ownsRow_setCell_below h1 ha u, ?_⟩
  have hs : (w.setCell a u).heap.size = w.heap.size := by simp [World.setCell]
  rw [hs]
  exact h2.keep fun j hj _ _ => Below.heap_setCell _ _ _ _ (by omega)

/-- one more term: wr the round's world, wy the world ahead of the append, w3 the one behind it -/
theorem GotX.push {wr wy w3 : World} {ty : TypeId} {y : X} {B : Nat} {v : Value} {q : Option Addr} {c lo hi g cap : Nat} {xs : List Value} {k n : Int} {a : X}
    (hown0 : wr.ownsRow B ty 3 v y.len xs) (hkids : KidsX wr y xs v.ownBlock B wr.heap.size)
    (hwr : ∀ j, j < wr.heap.size → wy.heap[j]? = wr.heap[j]?) (hO : OwnX wy a q c lo hi) (hlo : wr.heap.size ≤ lo) (hlh : lo ≤ hi) (hhi : hi ≤ wy.heap.size)
    (hown : w3.ownsRow B ty 3 (.slice (some ⟨g, 0, none⟩) (y.len + 1) cap) (y.len + 1) (xs ++ [.int .i64 k, .int .i64 n, .slice q a.len c]))
    (hgrow : wy.grownBy w3 v.ownBlock) (hat : v.ownBlock = some g ∨ g = wy.heap.size) : GotX w3 ty (y.snoc k n a) (.slice (some ⟨g, 0, none⟩) (y.len + 1) cap) B := by
  refine ⟨_, by rw [X.len_snoc]; exact hown, ?_⟩
  have hlt := hown0.lt
  have hblk : ∀ j, j < wy.heap.size → v.ownBlock ≠ some j → w3.heap[j]? = wy.heap[j]? := fun j hj hne => hgrow.block j hj (fun e => hne e.symm)
  have hO' : OwnX w3 a q c lo hi := hO.keep fun j x y => hblk j (by omega) (fun e => by have := (hlt j e).2; omega)
  have hk0 : KidsX wy y xs v.ownBlock B lo := (hkids.keep fun j _ b _ => hwr j b).mono (Nat.le_refl _) hlo
  have hk1 : KidsX w3 y xs v.ownBlock B lo := hk0.keep fun j _ b d => hblk j (by omega) d
  have hg : ∀ b, (Value.slice (some ⟨g, 0, none⟩) (y.len + 1) cap).ownBlock = some b → b = g := by
    intro b hb; simp [Value.ownBlock] at hb; omega
  have hk2 : KidsX w3 y xs (Value.slice (some ⟨g, 0, none⟩) (y.len + 1) cap).ownBlock B lo := by
    refine hk1.own ?_
    rcases hat with hat | hat
    · exact Or.inl (by rw [hat]; simp [Value.ownBlock])
    · exact Or.inr fun b hb => Or.inr (by have := hg b hb; omega)
  obtain ⟨o1, o2, o3, o4⟩ := hO'
  refine (KidsX.snoc o1 o2 o3 hlh o4 (Nat.le_refl _) ?_ hk2).mono (Nat.le_refl _) (Nat.le_trans hhi hgrow.size)
  intro b hb
  have := hg b hb
  subst this
  rcases hat with hat | hat
  · exact Or.inl (by have := (hlt _ hat).2; omega)
  · exact Or.inr (by omega)

theorem GotX.finish {w : World} {ty : TypeId} {y : X} {B : Nat} {v : Value} (h : GotX w ty y v B) : ∃ q c, v = .slice q y.len c ∧ OwnX w y q c B w.heap.size := by
  obtain ⟨xs, hown, hk⟩ := h
  have hlt := hown.lt
  obtain ⟨hx, hown'⟩ := id hown
  rcases hown' with ⟨rfl, h0⟩ | ⟨g, cap, cur, rfl, hbg, hg, hnc, hcm, hcs, htake⟩
  · exact ⟨none, 0, by rw [h0], by omega, by simp [maxLen], fun _ => rfl, Or.inl h0⟩
  · refine ⟨_, cap, rfl, hnc, hcm, fun e => by simp at e, ?_⟩
    by_cases h0 : y.len = 0
    · exact Or.inl h0
    · refine Or.inr ⟨g, xs, rfl, hbg, (hlt g (by simp [Value.ownBlock])).2, fun i v hi => ⟨?_, hown.frozenAt i⟩, by simpa [Value.ownBlock] using hk⟩
      have hil : i < xs.length := by
        rcases Nat.lt_or_ge i xs.length with h | h
        · exact h
        · rw [List.getElem?_eq_none h] at hi; cases hi
      rw [hown.cellAt i (by omega)]; exact hi

end Go.Proofs.YtjkcopgfcafpeaaGreatDoor

