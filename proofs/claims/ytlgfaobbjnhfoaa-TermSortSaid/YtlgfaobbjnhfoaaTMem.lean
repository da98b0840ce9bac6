/-
  How terms lie in memory, said over any world: a row of three cells a term. Conditions: none.
-/
import Derived.Test.YtlgfaobbjnhfoaaTPlain
import Derived.Test.YtlgfaobbjnhfoaaMem
set_option linter.unusedSimpArgs false
set_option linter.unusedVariables false
namespace Go.Proofs.Ytlgfaobbjnhfoaa
open Go.RowKit

/-- the cells from (b, off) on hold the terms of t: each a kind, a number and a slice value that leads to its own row -/
def RowX (w : World) : X → Nat → Nat → Prop
  | .nil, _, _ => True
  | .cons k n a r, b, off => w.cell? ⟨b, off, none⟩ = some (.int .i64 k) ∧ w.cell? ⟨b, off + 1, none⟩ = some (.int .i64 n) ∧
    (∃ (p : Option Addr) (cap : Nat), w.cell? ⟨b, off + 2, none⟩ = some (.slice p a.len cap) ∧ a.len ≤ cap ∧ cap ≤ maxLen ∧ (p = none → cap = 0) ∧
      (a.len = 0 ∨ ∃ b' off', p = some ⟨b', off', none⟩ ∧ RowX w a b' off')) ∧ RowX w r b (off + 3)

/-- the slice value (p, n, cap) is that of t -/
def IsX (w : World) (t : X) (p : Option Addr) (n cap : Nat) : Prop :=
  n = t.len ∧ n ≤ cap ∧ cap ≤ maxLen ∧ (p = none → cap = 0) ∧ (n = 0 ∨ ∃ b off, p = some ⟨b, off, none⟩ ∧ RowX w t b off)

theorem RowX.at {w : World} {t : X} : ∀ {b off i : Nat}, RowX w t b off → i < t.len →
    w.cell? ⟨b, off + i * 3, none⟩ = some (.int .i64 (t.gk i)) ∧ w.cell? ⟨b, off + i * 3 + 1, none⟩ = some (.int .i64 (t.gn i)) ∧
    ∃ p n cap, w.cell? ⟨b, off + i * 3 + 2, none⟩ = some (.slice p n cap) ∧ IsX w (t.ga i) p n cap := by
  induction t with
  | nil => intro _ _ _ _ h; exact absurd h (Nat.not_lt_zero _)
  | cons k n a r iha ihr =>
    intro b off i hr hi
    obtain ⟨hk, hn, ⟨p, cap, h1, h2, h3, h4, h5⟩, hr'⟩ := hr
    cases i with
    | zero => exact ⟨hk, hn, p, a.len, cap, h1, rfl, h2, h3, h4, h5⟩
    | succ i =>
      have := ihr (i := i) hr' (by simp only [X.len] at hi; omega)
      rw [show off + (i + 1) * 3 = off + 3 + i * 3 by omega]
      exact this

theorem RowX.drop {w : World} {t : X} : ∀ {b off : Nat} (i : Nat), RowX w t b off → RowX w (t.drop i) b (off + i * 3) := by
  induction t with
  | nil => intro _ _ i _; rw [X.drop_nil]; trivial
  | cons k n a r iha ihr =>
    intro b off i hr
    cases i with
    | zero => rw [X.drop_zero]; exact hr
    | succ i =>
      have := ihr i hr.2.2.2
      rw [show off + (i + 1) * 3 = off + 3 + i * 3 by omega]
      exact this

/-- each block of w that holds a slice value somewhere holds in w' what it holds in w -/
def Keeps3 (w w' : World) : Prop := ∀ b, (∃ (o : Nat) (p : Option Addr) (n cap : Nat), w.cell? ⟨b, o, none⟩ = some (.slice p n cap)) → ∀ o v, w.cell? ⟨b, o, none⟩ = some v → w'.cell? ⟨b, o, none⟩ = some v

theorem RowX.keeps {w w' : World} (hk : Keeps3 w w') {t : X} : ∀ {b off : Nat}, RowX w t b off → RowX w' t b off := by
  induction t with
  | nil => intro _ _ _; trivial
  | cons k n a r iha ihr =>
    intro b off hr
    obtain ⟨h6, h7, ⟨p, cap, h1, h2, h3, h4, h5⟩, hr'⟩ := hr
    have hb := hk b ⟨_, _, _, _, h1⟩
    refine ⟨hb _ _ h6, hb _ _ h7, ⟨p, cap, hb _ _ h1, h2, h3, h4, ?_⟩, ihr hr'⟩
    rcases h5 with h5 | ⟨b', off', e, hr''⟩
    · exact Or.inl h5
    · exact Or.inr ⟨b', off', e, iha hr''⟩

theorem IsX.keeps {w w' : World} (hk : Keeps3 w w') {t : X} {p : Option Addr} {n cap : Nat} (h : IsX w t p n cap) : IsX w' t p n cap := by
  obtain ⟨h1, h2, h3, h4, h5⟩ := h
  refine ⟨h1, h2, h3, h4, ?_⟩
  rcases h5 with h5 | ⟨b', off', e, hr''⟩
  · exact Or.inl h5
  · exact Or.inr ⟨b', off', e, hr''.keeps hk⟩

theorem Keeps3.of {w w' : World} (hk : ∀ b o, b < w.heap.size → w'.cell? ⟨b, o, none⟩ = w.cell? ⟨b, o, none⟩) : Keeps3 w w' :=
  fun b _ o _ h => by rw [hk b o (lt_of_cell h)]; exact h

theorem Keeps3.refl (w : World) : Keeps3 w w := fun _ _ _ _ h => h

theorem Keeps3.trans {a b c : World} (h : Keeps3 a b) (k : Keeps3 b c) : Keeps3 a c :=
  fun i ⟨o, p, n, cap, hc⟩ o' v hv => k i ⟨o, p, n, cap, h i ⟨o, p, n, cap, hc⟩ _ _ hc⟩ o' v (h i ⟨o, p, n, cap, hc⟩ o' v hv)

theorem Keeps3.below {w w' : World} {B : Nat} (hb : Below B w w') (hB : w.heap.size ≤ B) : Keeps3 w w' :=
  Keeps3.of fun b o h => hb.cell (p := ⟨b, o, none⟩) (Nat.lt_of_lt_of_le h hB)

theorem Keeps3.drew (w : World) : Keeps3 w w.drew := fun _ _ _ _ h => h

theorem Keeps3.alloc (w : World) (x : Obj) : Keeps3 w (w.alloc x) := Keeps3.of (keep_alloc w x)

theorem Keeps3.sorts {w w' : World} (h : Keeps3 w w') : Keeps w w' := fun b o p n cap hc => h b ⟨o, p, n, cap, hc⟩ o _ hc

theorem IsX.below {w w' : World} (hb : Below w.heap.size w w') {t : X} {p : Option Addr} {n cap : Nat} (h : IsX w t p n cap) : IsX w' t p n cap := h.keeps (Keeps3.below hb (Nat.le_refl _))

theorem IsX.alloc {w : World} {t : X} {p : Option Addr} {n cap : Nat} (h : IsX w t p n cap) (x : Obj) : IsX (w.alloc x) t p n cap := h.keeps (Keeps3.alloc w x)

theorem IsX.drew {w : World} {t : X} {p : Option Addr} {n cap : Nat} (h : IsX w t p n cap) : IsX w.drew t p n cap := h.keeps (Keeps3.drew w)

/-- a counter's block alone has turned: terms are kept -/
theorem Keeps3.cnt {w wr : World} {bc c c0 : Nat} {ty : TypeId} (h0 : w.heap[bc]? = some (.cells #[.int .i64 (c0 : Int)] ty (0, 0))) (h : Cnt w wr bc ty c) : Keeps3 w wr := by
  rintro b ⟨o, p, n, cap, hc⟩ o' v hv
  have hlt := lt_of_cell hc
  have hne : b ≠ bc := by
    rintro rfl
    unfold World.cell? at hc
    simp only [h0] at hc
    cases o <;> simp at hc
  rw [World.cell?_of_block (w := w) (h.1.block b hlt (fun e => hne (by injection e)))]
  exact hv

/-- the element that a round looks at -/
theorem base3_at {w wr : World} (hb : Keeps3 w wr) {t : X} {b off k : Nat} (hr : RowX w t b off) (hk : k < t.len) :
    wr.cell? ⟨b, off + k * 3, none⟩ = some (.int .i64 (t.gk k)) ∧ wr.cell? ⟨b, off + k * 3 + 1, none⟩ = some (.int .i64 (t.gn k)) ∧
    ∃ p n cap, wr.cell? ⟨b, off + k * 3 + 2, none⟩ = some (.slice p n cap) ∧ IsX wr (t.ga k) p n cap := by
  obtain ⟨h1, h2, p, n, cap, h3, h4⟩ := (hr.keeps hb).at hk
  exact ⟨h1, h2, p, n, cap, h3, h4⟩

end Go.Proofs.Ytlgfaobbjnhfoaa
