/-
  Parts of one proof, laid into one text: TWalkZ. Conditions: each part names its own.
-/
import Derived.Test.YtjkcopgfcafpeaaGreatDoorMg15
import Derived.Laws.OwnMore
import Derived.Maps.AppendAt

/-
  How a list of integers lies in memory; the walk of the reference's insert. Conditions: at most 200000 integers.
-/
set_option linter.unusedSimpArgs false
set_option linter.unusedVariables false
namespace Go.Proofs.YtjkcopgfcafpeaaGreatDoor
open Go.RowKit

def intv (x : Int) : Value := .int .i64 x

/-- the slice value (p, n, cap) is that of l -/
def IsI (w : World) (l : List Int) (p : Option Addr) (n cap : Nat) : Prop :=
  n = l.length ∧ n ≤ cap ∧ cap ≤ maxLen ∧ ((p = none ∧ cap = 0) ∨ ∃ b off, p = some ⟨b, off, none⟩ ∧ b < w.heap.size ∧ ∀ i x, l[i]? = some x → w.cell? ⟨b, off + i, none⟩ = some (.int .i64 x))

theorem IsI.below {w w' : World} {l : List Int} {p : Option Addr} {n cap : Nat} (h : IsI w l p n cap) (hb : Below w.heap.size w w') : IsI w' l p n cap := by
  obtain ⟨h1, h2, h3, h4⟩ := h
  refine ⟨h1, h2, h3, ?_⟩
  rcases h4 with h4 | ⟨b, off, e, hlt, hc⟩
  · exact Or.inl h4
  · exact Or.inr ⟨b, off, e, Nat.lt_of_lt_of_le hlt hb.size, fun i x hx => ((bcell hb).1 b (off + i) hlt).trans (hc i x hx)⟩

theorem IsI.alloc {w : World} {l : List Int} {p : Option Addr} {n cap : Nat} (h : IsI w l p n cap) (o : Obj) : IsI (w.alloc o) l p n cap := h.below ((Below.refl _ _).alloc (Nat.le_refl _) _)

theorem isI_nil (w : World) : IsI w [] none 0 0 := ⟨rfl, Nat.le_refl _, by simp [maxLen], Or.inl ⟨rfl, rfl⟩⟩

theorem isI_own {w : World} {B n : Nat} {v : Value} {l : List Int} (h : w.ownsRow B 3 1 v n (l.map intv)) : ∃ q c, v = .slice q l.length c ∧ IsI w l q l.length c := by
  have hn : n = l.length := by have := h.1; simpa using this.symm
  subst hn
  rcases h.2 with ⟨rfl, h0⟩ | ⟨g, cap, cur, rfl, _, hg, hc, hm, hs, ht⟩
  · have : l = [] := List.eq_nil_of_length_eq_zero h0
    subst this
    exact ⟨none, 0, rfl, isI_nil w⟩
  · refine ⟨some ⟨g, 0, none⟩, cap, rfl, rfl, hc, hm, Or.inr ⟨g, 0, rfl, lt_of_block hg, fun i x hx => ?_⟩⟩
    have hi : i < l.length := by
      rcases Nat.lt_or_ge i l.length with h | h
      · exact h
      · rw [List.getElem?_eq_none h] at hx; cases hx
    have h2 := h.cellAt i (by omega)
    rw [Nat.zero_add, h2, List.getElem?_map, hx]; rfl

theorem one_intv (x : Int) : ∀ u ∈ [Value.int .i64 x], u.oneCell' = true := by simp [Value.oneCell']

theorem all_intv (l : List Int) : ∀ u ∈ l.map intv, u.oneCell' = true := by
  intro u hu
  obtain ⟨x, _, rfl⟩ := List.mem_map.1 hu
  rfl

/-- append of nothing at all -/
theorem wpList_append_empty {P : Program} {w : World} {ops : Array Oper} {rest : List Oper} {o : Oper} {a : Act} {Q : Exit → Act → World → Prop} (hgd : o.guard = none) (s x : Operand) (t : TypeId)
    (ho : o.op = .call { callee := .builtin .append, args := #[s, x], argTypes := #[t, t] }) {e : TypeId} {i : TypeInfo} {size base n : Nat} (ht : P.underlying t = some (.slice e)) (hi : P.info? e = some i)
    {v : Value} {xs : List Value} (hs : a.eval s = v) (hx : a.eval x = .slice none 0 0) (hown : w.ownsRow base e size v n xs) (h : wpList P ops Q rest (a.put o.dst v) w) : wpList P ops Q (o :: rest) a w := by
  refine wpList_plain hgd fun K hK => ?_
  have hr := run_append_owned_none (P := P) (w := w) base t o.type e i size ht hi v n xs hown
  unfold Oper.wp execOp
  simp only [ho, resolve, invoke, builtin, Sem.run_bind, Sem.run_pure, Result.andThen_ok, List.map_toArray, List.map_cons, List.map_nil, hs, hx, hr]
  exact hK _ _ h

theorem take_map_snoc (l : List Int) (j : Nat) (h : j < l.length) : (l.take j).map intv ++ [Value.int .i64 l[j]] = (l.take (j + 1)).map intv := by
  rw [List.take_succ_eq_append_getElem h, List.map_append]; rfl

/-- the round of insert's loop, behind it -/
theorem below_own {w W W1 : World} {B n : Nat} {v : Value} {xs : List Value} {o : Obj} (hb : Below w.heap.size w W) (hown : W.ownsRow w.heap.size B 1 v n xs) (hg : (W.alloc o).grownBy W1 v.ownBlock) : Below w.heap.size w W1 :=
  (hb.alloc hb.size o).grown hg (by rw [World.size_alloc]; have := hb.size; omega) fun k hk => (hown.lt k hk).1

theorem below_own0 {w W W1 : World} {B n : Nat} {v : Value} {xs : List Value} (hb : Below w.heap.size w W) (hown : W.ownsRow w.heap.size B 1 v n xs) (hg : W.grownBy W1 v.ownBlock) : Below w.heap.size w W1 :=
  hb.grown hg hb.size fun k hk => (hown.lt k hk).1

theorem own_room {j K L : Nat} (hj : j ≤ K) (hK : K ≤ L) (hL : L ≤ 200000) : j + 1 + (L - K) ≤ maxLen ∧ (j + 1 + (L - K)) * 8 ≤ 140737488355328 := by
  simp only [maxLen]; omega

theorem drop_cells (l : List Int) (K : Nat) : ((l.drop K).map intv).length = (l.length - K) * 1 := by simp

/-- what insert leaves -/
def InsPost (w : World) (L : List Int) (e : Ending) (w' : World) : Prop := ∃ q c, e = .returned (.slice q L.length c) ∧ IsI w' L q L.length c ∧ Below w.heap.size w w'

theorem insPost_mk {w W1 : World} {B n : Nat} {v : Value} {xs : List Value} {L : List Int} (hown : W1.ownsRow B 3 1 v n xs) (he : xs = L.map intv) (hb : Below w.heap.size w W1) : InsPost w L (.returned v) W1 := by
  subst he
  obtain ⟨q, c, rfl, hi⟩ := isI_own hown
  exact ⟨q, c, rfl, hi, hb⟩

end Go.Proofs.YtjkcopgfcafpeaaGreatDoor

