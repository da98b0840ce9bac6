/-
  Whatever scheme is handed in, the statement on the scheme without the functions that are not needed answers true and leaves the scheme as it was. Conditions: none but the row's own (the package variables read as the program's text lays them).
-/
import Derived.Test.YtjkcopgfcafpeaaGreatDoorMg29
import Derived.Test.YtjkcopgfcafpeaaGreatDoorMg21
import Derived.Test.YtjkcopgfcafpeaaGreatDoorMg19
import Derived.Test.YtjkcopgfcafpeaaGreatDoorMg15
import Derived.Test.YtjkcopgfcafpeaaGreatDoorMg30
import Derived.Test.YtjkcopgfcafpeaaGreatDoorMh02
import Derived.Deep.RegionLaw
import Derived.Test.YtjkcopgfcafpeaaGreatDoorMi02
import Derived.Test.YtjkcopgfcafpeaaGreatDoorMi03
import Derived.Test.YtjkcopgfcafpeaaGreatDoorMg17
import Derived.Test.YtjkcopgfcafpeaaGreatDoorMg27
import Derived.Test.YtjkcopgfcafpeaaGreatDoorMg31
import Derived.Test.YtjkcopgfcafpeaaGreatDoorCards
import Derived.Test.YtjkcopgfcafpeaaGreatDoorTie
import Derived.SevenTiedAt

/-
  Plain mathematics of which functions are needed; a row of bools in memory. Conditions: none.
-/
set_option linter.unusedSimpArgs false
set_option linter.unusedVariables false
namespace Go.Proofs.YtjkcopgfcafpeaaGreatDoor
open Go.RowKit Go.Maps

/-- does function i occur in these terms? -/
def callX (i : Nat) : X → Bool
  | .nil => false
  | .cons k n a r => (decide (k = 1) && decide (n = (i : Int))) || (callX i a || callX i r)

/-- does function i occur in a term? -/
def call1 (i : Nat) (k n : Int) (a : X) : Bool := (decide (k = 1) && decide (n = (i : Int))) || callX i a

/-- does function k occur in the body of function i? -/
def callB (x : Sc) (i k : Nat) : Bool := call1 k (x.F.bk i) (x.F.bn i) (x.F.bt i)

theorem callX_drop (i : Nat) (a : X) (j : Nat) (h : j < a.len) : callX i (a.drop j) = (call1 i (a.gk j) (a.gn j) (a.ga j) || callX i (a.drop (j + 1))) := by
  rw [X.drop_cons a j h]
  simp only [callX, call1, Bool.or_assoc]

theorem callX_iff (i : Nat) (a : X) : callX i a = true ↔ ∃ j, j < a.len ∧ call1 i (a.gk j) (a.gn j) (a.ga j) = true := by
  have key : ∀ m j, j + m = a.len → (callX i (a.drop j) = true ↔ ∃ j', j ≤ j' ∧ j' < a.len ∧ call1 i (a.gk j') (a.gn j') (a.ga j') = true) := by
    intro m
    induction m with
    | zero =>
      intro j hj
      rw [X.drop_end a j (by omega)]
      constructor
      · intro h; cases h
      · rintro ⟨j', h1, h2, _⟩; omega
    | succ m ih =>
      intro j hj
      rw [callX_drop i a j (by omega), Bool.or_eq_true, ih (j + 1) (by omega)]
      constructor
      · rintro (h | ⟨j', h1, h2, h3⟩)
        · exact ⟨j, Nat.le_refl _, by omega, h⟩
        · exact ⟨j', by omega, h2, h3⟩
      · rintro ⟨j', h1, h2, h3⟩
        by_cases e : j' = j
        · subst e; exact Or.inl h3
        · exact Or.inr ⟨j', by omega, h2, h3⟩
  have := key a.len 0 (by omega)
  rw [X.drop_zero] at this
  rw [this]
  constructor
  · rintro ⟨j, _, h2, h3⟩; exact ⟨j, h2, h3⟩
  · rintro ⟨j, h2, h3⟩; exact ⟨j, Nat.zero_le _, h2, h3⟩

theorem callX_lt {x : Sc} {i : Nat} : ∀ {a : X}, goodX x a → callX i a = true → i < x.F.len
  | .nil, _, h => by cases h
  | .cons k n a r, hg, h => by
    obtain ⟨g1, g2, g3⟩ := hg
    simp only [callX, Bool.or_eq_true, Bool.and_eq_true, decide_eq_true_eq] at h
    rcases h with ⟨rfl, rfl⟩ | h | h
    · obtain ⟨_, h1⟩ := g1
      rcases h1 with ⟨h1, _⟩ | ⟨_, h1⟩ | ⟨h1, _⟩
      · exact absurd h1 (by decide)
      · omega
      · exact absurd h1 (by decide)
    · exact callX_lt g2 h
    · exact callX_lt g3 h

theorem call1_lt {x : Sc} {i : Nat} {k n : Int} {a : X} (hh : goodH x k n) (hg : goodX x a) (h : call1 i k n a = true) : i < x.F.len := by
  refine callX_lt (a := .cons k n a .nil) ⟨hh, hg, trivial⟩ ?_
  unfold call1 at h
  simp only [callX, Bool.or_false]
  exact h

theorem callB_lt {x : Sc} (hg : Good x) {i k : Nat} (hi : i < x.F.len) (h : callB x i k = true) : k < x.F.len := call1_lt (hg.head i hi) (hg.body i hi) h

/-- what a visit of the targets R makes of the functions that have been visited -/
structure Dfs (x : Sc) (V V' : Nat → Bool) (R : Nat → Prop) : Prop where
  mono : ∀ i, V i = true → V' i = true
  targets : ∀ i, R i → V' i = true
  closed : ∀ i, V' i = true → V i = false → ∀ k, callB x i k = true → V' k = true
  least : ∀ P : Nat → Prop, (∀ i k, P i → callB x i k = true → P k) → (∀ i, R i → P i) → ∀ i, V' i = true → V i = true ∨ P i

theorem Dfs.same {x : Sc} {V : Nat → Bool} {R : Nat → Prop} (h : ∀ i, R i → V i = true) : Dfs x V V R :=
  ⟨fun _ h => h, h, fun i h1 h2 => (by rw [h1] at h2; cases h2), fun _ _ _ i h => Or.inl h⟩

theorem Dfs.seq {x : Sc} {V V1 V2 : Nat → Bool} {R1 R2 R : Nat → Prop} (h1 : Dfs x V V1 R1) (h2 : Dfs x V1 V2 R2) (hR : ∀ i, R i ↔ R1 i ∨ R2 i) : Dfs x V V2 R := by
  refine ⟨fun i h => h2.mono i (h1.mono i h), fun i h => ?_, fun i h hV k hk => ?_, fun P hP hR' i h => ?_⟩
  · rcases (hR i).1 h with h | h
    · exact h2.mono i (h1.targets i h)
    · exact h2.targets i h
  · cases hv : V1 i with
    | true => exact h2.mono k (h1.closed i hv hV k hk)
    | false => exact h2.closed i h hv k hk
  · rcases h2.least P hP (fun i h => hR' i ((hR i).2 (Or.inr h))) i h with h | h
    · exact h1.least P hP (fun i h => hR' i ((hR i).2 (Or.inl h))) i h
    · exact Or.inr h

def updV (V : Nat → Bool) (n : Nat) : Nat → Bool := fun i => if i = n then true else V i

theorem Dfs.visit {x : Sc} {V V' : Nat → Bool} {n : Nat} (h : Dfs x (updV V n) V' (fun k => callB x n k = true)) : Dfs x V V' (fun i => i = n) := by
  have hn : updV V n n = true := if_pos rfl
  refine ⟨fun i hi => h.mono i ?_, fun i hi => h.mono i (by rw [hi]; exact hn), fun i hi hV k hk => ?_, fun P hP hR i hi => ?_⟩
  · unfold updV; split
    · rfl
    · exact hi
  · by_cases e : i = n
    · subst e; exact h.targets k hk
    · exact h.closed i hi (by unfold updV; rw [if_neg e]; exact hV) k hk
  · rcases h.least P hP (fun k hk => hP n k (hR n rfl) hk) i hi with h1 | h1
    · unfold updV at h1
      split at h1
      · rename_i e; exact Or.inr (hR i e)
      · exact Or.inl h1
    · exact Or.inr h1

theorem Dfs.congr {x : Sc} {V V' : Nat → Bool} {R R' : Nat → Prop} (h : Dfs x V V' R) (hR : ∀ i, R' i ↔ R i) : Dfs x V V' R' :=
  ⟨h.mono, fun i hi => h.targets i ((hR i).1 hi), h.closed, fun P hP hR' => h.least P hP fun i hi => hR' i ((hR i).2 hi)⟩

/-- how many of m functions are not visited -/
def cntV (V : Nat → Bool) : Nat → Nat
  | 0 => 0
  | m + 1 => cntV V m + (if V m = true then 0 else 1)

theorem cntV_mono {V V' : Nat → Bool} (h : ∀ i, V i = true → V' i = true) : ∀ m, cntV V' m ≤ cntV V m
  | 0 => Nat.le_refl _
  | m + 1 => by
    have := cntV_mono h m
    simp only [cntV]
    by_cases hv : V m = true
    · rw [if_pos hv, if_pos (h m hv)]; omega
    · rw [if_neg hv]; split <;> omega

theorem cntV_ge {V : Nat → Bool} {n : Nat} : ∀ m, m ≤ n → cntV (updV V n) m = cntV V m
  | 0, _ => rfl
  | m + 1, h => by
    simp only [cntV]
    rw [cntV_ge m (by omega), show updV V n m = V m from if_neg (by omega)]

theorem cntV_upd {V : Nat → Bool} {n : Nat} (hn : V n = false) : ∀ m, n < m → cntV (updV V n) m + 1 = cntV V m
  | 0, h => by omega
  | m + 1, h => by
    simp only [cntV]
    by_cases e : n = m
    · subst e
      rw [cntV_ge n (Nat.le_refl _), hn, if_pos (show updV V n n = true from if_pos rfl)]
      simp
    · have := cntV_upd hn m (by omega)
      rw [show updV V n m = V m from if_neg (by omega)]
      omega

theorem cntV_le (V : Nat → Bool) : ∀ m, cntV V m ≤ m
  | 0 => Nat.le_refl _
  | m + 1 => by
    have := cntV_le V m
    simp only [cntV]
    split <;> omega

/-- the least set of functions that holds the start and whatever its functions' bodies hold -/
structure Least (x : Sc) (V : Nat → Bool) : Prop where
  start : V 0 = true
  closed : ∀ i k, i < x.F.len → V i = true → callB x i k = true → V k = true
  least : ∀ P : Nat → Prop, (∀ i k, i < x.F.len → P i → callB x i k = true → P k) → P 0 → ∀ i, i < x.F.len → V i = true → P i

theorem Least.sub {x : Sc} {V V' : Nat → Bool} (h : Least x V) (h' : Least x V') : ∀ i, i < x.F.len → V i = true → V' i = true :=
  h.least (fun i => V' i = true) (fun i k hi h1 h2 => h'.closed i k hi h1 h2) h'.start

theorem Least.unique {x : Sc} {V V' : Nat → Bool} (h : Least x V) (h' : Least x V') : ∀ i, i < x.F.len → V i = V' i := by
  intro i hi
  have h1 := h.sub h' i hi
  have h2 := h'.sub h i hi
  cases hv : V i <;> cases hv' : V' i
  · rfl
  · exact absurd (h2 hv') (by simp [hv])
  · exact absurd (h1 hv) (by simp [hv'])
  · rfl

theorem Least.of_dfs {x : Sc} {V : Nat → Bool} (h : Dfs x (fun _ => false) V (fun i => i = 0)) (hg : Good x) : Least x V := by
  refine ⟨h.targets 0 rfl, fun i k _ h1 h2 => h.closed i h1 rfl k h2, fun P hP h0 i hi hV => ?_⟩
  rcases h.least (fun i => i < x.F.len ∧ P i) (fun i k hi hk => ⟨callB_lt hg hi.1 hk, hP i k hi.1 hi.2 hk⟩) (fun i hi => by rw [hi]; exact ⟨hg.some, h0⟩) i hV with h1 | h1
  · cases h1
  · exact h1.2

/-- the visited ones of j functions, in order -/
def visL (V : Nat → Bool) (j : Nat) : List Int := ((List.range j).filter V).map fun (i : Nat) => (i : Int)

theorem visL_yes {V : Nat → Bool} {j : Nat} (h : V j = true) : visL V j ++ [(j : Int)] = visL V (j + 1) := by
  unfold visL
  rw [List.range_succ, List.filter_append, List.map_append]
  simp [h]

theorem visL_no {V : Nat → Bool} {j : Nat} (h : V j = false) : visL V j = visL V (j + 1) := by
  unfold visL
  rw [List.range_succ, List.filter_append, List.map_append]
  simp [h]

theorem visL_len (V : Nat → Bool) (j : Nat) : (visL V j).length ≤ j := by
  unfold visL
  rw [List.length_map]
  have := List.length_filter_le V (List.range j)
  simpa using this

theorem visL_congr {V V' : Nat → Bool} {j : Nat} (h : ∀ i, i < j → V i = V' i) : visL V j = visL V' j := by
  unfold visL
  congr 1
  exact List.filter_congr fun i hi => h i (List.mem_range.1 hi)

/-- n bools in a block of their own -/
def bls (n : Nat) (V : Nat → Bool) : Array Value := ((List.range n).map fun i => Value.bool (V i)).toArray

def NB (w : World) (nb n : Nat) (V : Nat → Bool) : Prop := w.heap[nb]? = some (.cells (bls n V) 4 (0, 0))

theorem bls_at {n : Nat} {V : Nat → Bool} {i : Nat} (h : i < n) : (bls n V)[i]? = some (.bool (V i)) := by
  simp [bls, h]

theorem NB.cell {w : World} {nb n : Nat} {V : Nat → Bool} (h : NB w nb n V) {i : Nat} (hi : i < n) : w.cell? ⟨nb, i, none⟩ = some (.bool (V i)) ∧ w.frozen? ⟨nb, i, none⟩ = false := by
  unfold NB at h
  constructor
  · rw [cell_of_row w nb i _ _ _ h]; exact bls_at hi
  · simp [World.frozen?, h]

theorem NB.noslice {w : World} {nb n : Nat} {V : Nat → Bool} (h : NB w nb n V) {o : Nat} {p : Option Addr} {m c : Nat} : w.cell? ⟨nb, o, none⟩ ≠ some (.slice p m c) := by
  unfold NB at h
  rw [cell_of_row w nb o _ _ _ h]
  intro e
  simp [bls] at e

theorem NB.lt {w : World} {nb n : Nat} {V : Nat → Bool} (h : NB w nb n V) : nb < w.heap.size := lt_of_block h

theorem bls_set (n : Nat) (V : Nat → Bool) (i : Nat) : (bls n V).setIfInBounds i (.bool true) = bls n (updV V i) := by
  unfold bls updV
  apply Array.ext'
  apply List.ext_getElem?
  intro j
  simp only [List.setIfInBounds_toArray, List.getElem?_set, List.getElem?_map, List.getElem?_range, List.length_map, List.length_range]
  by_cases e : i = j
  · subst e
    by_cases hj : i < n
    · simp [hj]
    · simp [hj]
  · rw [if_neg e]
    by_cases hj : j < n
    · have : ¬ j = i := fun h => e h.symm
      simp [hj, this]
    · simp [hj]

theorem bls_made (n : Nat) : madeCells #[.bool false] n = bls n (fun _ => false) := by
  unfold bls madeCells
  apply Array.ext'
  apply List.ext_getElem?
  intro j
  by_cases hj : j < n
  · simp [hj, Nat.mod_one]
  · simp [hj]

theorem NB.set {w : World} {nb n : Nat} {V : Nat → Bool} (h : NB w nb n V) (i : Nat) : NB (w.setCell ⟨nb, i, none⟩ (.bool true)) nb n (updV V i) := by
  have hlt := h.lt
  unfold NB at h ⊢
  have h' : w.heap[nb] = .cells (bls n V) 4 (0, 0) := by simpa [Array.getElem?_eq_getElem hlt] using h
  show (w.heap.modify nb _)[nb]? = _
  rw [Array.getElem?_eq_getElem (by simpa using hlt), Array.getElem_modify_self, h']
  show some (Obj.cells ((bls n V).setIfInBounds i (.bool true)) _ _) = _
  rw [bls_set]

theorem NB.of_block {w w' : World} {nb n : Nat} {V : Nat → Bool} (h : NB w nb n V) (hb : w'.heap[nb]? = w.heap[nb]?) : NB w' nb n V := hb.trans h

theorem NB.below {w w' : World} {nb n : Nat} {V : Nat → Bool} (h : NB w nb n V) (hb : Below w.heap.size w w') : NB w' nb n V := h.of_block (hb.block nb h.lt)

theorem NB.made {w : World} {nb n : Nat} (h : w.heap[nb]? = some (.cells (madeCells #[.bool false] n) 4 (0, 0))) : NB w nb n (fun _ => false) := by
  unfold NB
  rw [h, bls_made]

theorem NB.made1 {w : World} {nb n i : Nat} (h : w.heap[nb]? = some (.cells ((madeCells #[.bool false] n).setIfInBounds i (.bool true)) 4 (0, 0))) : NB w nb n (updV (fun _ => false) i) := by
  unfold NB
  rw [h, bls_made, bls_set]

/-- all but one block is as it was -/
structure Bn (nb : Nat) (w w' : World) : Prop where
  os : w'.os = w.os
  tape : w'.tape = w.tape
  output : w'.output = w.output
  size : w.heap.size ≤ w'.heap.size
  block : ∀ k, k < w.heap.size → k ≠ nb → w'.heap[k]? = w.heap[k]?

theorem Bn.refl (nb : Nat) (w : World) : Bn nb w w := ⟨rfl, rfl, rfl, Nat.le_refl _, fun _ _ _ => rfl⟩

theorem Bn.trans {nb : Nat} {a b c : World} (h : Bn nb a b) (k : Bn nb b c) : Bn nb a c :=
  ⟨k.os.trans h.os, k.tape.trans h.tape, k.output.trans h.output, Nat.le_trans h.size k.size, fun i hi hn => (k.block i (Nat.lt_of_lt_of_le hi h.size) hn).trans (h.block i hi hn)⟩

theorem Bn.of_below {nb : Nat} {w w' : World} (h : Below w.heap.size w w') : Bn nb w w' := ⟨h.os, h.tape, h.output, h.size, fun k hk _ => h.block k hk⟩

theorem Bn.alloc (nb : Nat) (w : World) (o : Obj) : Bn nb w (w.alloc o) := Bn.of_below ((Below.refl _ _).alloc (Nat.le_refl _) _)

theorem Bn.drew {nb : Nat} (w : World) : Bn nb w w.drew := Bn.of_below ((Below.refl _ _).drew)

theorem Bn.set {nb : Nat} (w : World) (i : Nat) (v : Value) : Bn nb w (w.setCell ⟨nb, i, none⟩ v) := by
  have h := (Below.refl nb w).setCell (p := ⟨nb, i, none⟩) (Nat.le_refl nb) v
  refine ⟨h.os, h.tape, h.output, h.size, fun k hk hn => ?_⟩
  show (w.heap.modify nb _)[k]? = _
  rw [Array.getElem?_modify, if_neg (fun e => hn e.symm)]

theorem Bn.to_below {nb B : Nat} {w0 w w' : World} (h : Bn nb w w') (hb : Below B w0 w) (hn : B ≤ nb) (hB : B ≤ w.heap.size) : Below B w0 w' :=
  ⟨h.os.trans hb.os, h.tape.trans hb.tape, h.output.trans hb.output, Nat.le_trans hb.size h.size, fun k hk => (h.block k (by omega) (by omega)).trans (hb.block k hk)⟩

theorem Bn.cell {nb : Nat} {w w' : World} (h : Bn nb w w') {b o : Nat} {v : Value} (hc : w.cell? ⟨b, o, none⟩ = some v) (hn : b ≠ nb) : w'.cell? ⟨b, o, none⟩ = some v := by
  have := h.block b (lt_of_cell hc) hn
  unfold World.cell? at hc ⊢
  rw [this]
  exact hc

theorem Bn.keeps {nb n : Nat} {V : Nat → Bool} {w w' : World} (h : Bn nb w w') (hN : NB w nb n V) : Keeps3 w w' := by
  rintro b ⟨o, p, m, c, hc⟩ o' v hv
  refine h.cell hv fun e => ?_
  subst e
  exact hN.noslice hc

/-- the functions lie as they lay where all blocks with slices in them are as they were -/
theorem IsF.keeps {w w' : World} (hk : Keeps3 w w') {F : Fu} {p : Option Addr} {n cap : Nat} (h : IsF w F p n cap) : IsF w' F p n cap := by
  obtain ⟨h1, h2, h3, h4, h5⟩ := h
  refine ⟨h1, h2, h3, h4, ?_⟩
  rcases h5 with h5 | ⟨b, off, e, hr⟩
  · exact Or.inl h5
  · refine Or.inr ⟨b, off, e, fun i hi => ?_⟩
    obtain ⟨p, n, c, q, m, d, e1, e2, e3, e4, e5, e6, e7⟩ := hr i hi
    have hs : ∃ o p n cap, w.cell? ⟨b, o, none⟩ = some (.slice p n cap) := ⟨_, _, _, _, e2⟩
    exact ⟨p, n, c, q, m, d, hk b hs _ _ e1, hk b hs _ _ e2, hk b hs _ _ e3, hk b hs _ _ e4, hk b hs _ _ e5, e6.keeps hk.sorts, e7.keeps hk⟩

end Go.Proofs.YtjkcopgfcafpeaaGreatDoor

/-
  The walk of Ranks: what it answers, for whatever scheme. Conditions: none but that the scheme lies in memory.
-/
set_option linter.unusedSimpArgs false
set_option linter.unusedVariables false
namespace Go.Proofs.YtjkcopgfcafpeaaGreatDoor
open Go.RowKit

def rks (S : Sy) (j : Nat) : List Int := (List.range j).map S.rk

theorem rks_snoc (S : Sy) (j : Nat) : (rks S j).map intv ++ [Value.int .i64 (S.rk j)] = (rks S (j + 1)).map intv := by
  unfold rks
  rw [List.range_succ, List.map_append, List.map_append]
  rfl

def Sc.ranks (x : Sc) : List Int := if scOk x = true then rks x.S x.S.len else []

theorem scOk_syms {x : Sc} (h : scOk x = true) : x.S.len ≤ 24 := by
  unfold scOk at h
  simp only [Bool.and_eq_true] at h
  have h2 := plOk_syms h.1.2
  unfold symsOk at h2
  simp only [Bool.and_eq_true, decide_eq_true_eq] at h2
  exact h2.1

def RanksPost (w : World) (x : Sc) (e : Ending) (w' : World) : Prop :=
  ∃ v, e = .returned (.tuple #[v, .int .i64 (scE x)]) ∧ w'.ownsRow w.heap.size 3 1 v x.ranks.length (x.ranks.map intv) ∧ Below w.heap.size w w'

set_option maxRecDepth 100000 in
set_option maxHeartbeats 2000000 in
theorem sranks_any (x : Sc) (a : At2) (w : World) (h : IsC w x a) :
    Calls Tryz.prog 21 #[.agg #[.slice a.sp a.sn a.sc, .slice a.fp a.fn a.fc]] w (RanksPost w x) := by
  obtain ⟨i0, hi0, hz0, hz1, hz2⟩ := info_parts infoI
  have HC := Lib.hid (fun W h => scheck_any x a W h)
  obtain ⟨sp, sn, sc, fp, fn, fc⟩ := a
  obtain ⟨hS, hF⟩ := id h
  dsimp only at hS hF HC ⊢
  obtain rfl : sn = x.S.len := hS.1
  have hbx := heap_new w (.cells #[.slice sp x.S.len sc, .slice fp fn fc] 25)
  obtain ⟨s1, s2⟩ := two_cells hbx
  obtain ⟨_, hcap, hmax, _, hrow⟩ := id hS
  unfold maxLen at hmax
  have HX := Lib.hid hbx
  have HH := Lib.hid h
  unfold RanksPost
  cases hok : scOk x with
  | false =>
    have e1 : scE x = 7 := by unfold scE; rw [hok]; rfl
    have e2 : x.ranks = [] := by unfold Sc.ranks; rw [hok]; rfl
    rw [e1] at HC ⊢
    rw [e2]
    clear e1 e2 hok hS hF hbx h hcap hmax hrow
    go_enter Tryz.func21, Tryz.ntmps21
    go_wp2_with fail
    refine (HC.out _ (HH.out.alloc _)).mono ?_
    rintro e w1 ⟨rfl, hb1⟩
    go_wp2_with fail
    go_ret2
    exact ⟨_, rfl, World.ownsRow_nil _ _ _ _, below_call hb1⟩
  | true =>
    have e1 : scE x = 0 := by unfold scE; rw [hok]; rfl
    have e2 : x.ranks = rks x.S x.S.len := by unfold Sc.ranks; rw [hok]; rfl
    have h24 := scOk_syms hok
    rw [e1] at HC ⊢
    rw [e2]
    clear e1 e2 hok hS hF hbx h
    go_enter Tryz.func21, Tryz.ntmps21
    go_wp2_with fail
    refine (HC.out _ (HH.out.alloc _)).mono ?_
    rintro e w1 ⟨rfl, hb1⟩
    obtain ⟨s3, s4⟩ := two_cells (box3_later hb1 HX.out)
    have HB := Lib.hid (below_call hb1)
    clear s1 s2 hb1 HX
    go_wp2_with fail
    go_loopw [5, 16] (fun u i wr => ∃ (j : Nat) (v : Value), j ≤ x.S.len ∧ i = .int .i64 (j : Int) ∧ v = u ∧ wr.ownsRow w.heap.size 3 1 v j ((rks x.S j).map intv) ∧ Below w.heap.size w wr)
      (fun _ i _ => x.S.len - (Go.RowKit.intOf i).toNat)
    case atStart => exact ⟨0, _, Nat.zero_le _, rfl, rfl, World.ownsRow_nil _ _ _ _, HB.out⟩
    case round =>
      clear HB s3 s4
      obtain ⟨j, v, hj, rfl, rfl, hown, hb⟩ := hrel
      by_cases hlt : j < x.S.len
      · rcases hrow with h0 | ⟨b, off, rfl, hr⟩
        · omega
        obtain ⟨e1, e2⟩ := hr j hlt
        have hkk := (bcell hb).1
        have f1 := (hkk _ _ (lt_of_cell e1)).trans e1
        have f2 := (hkk _ _ (lt_of_cell e2)).trans e2
        have hsn := Lib.hid (rks_snoc x.S j)
        generalize x.S.nm j = s at f1
        generalize x.S.rk j = rk at f2 hsn
        clear hkk e1 e2
        have hmx : j + 1 ≤ maxLen := by simp only [maxLen]; omega
        go_upto_region 8 with fail
        have ho2 := hown.alloc (.cells #[.string s, .int .i64 rk] 64)
        have hb2 := hb.alloc hb.size (.cells #[.string s, .int .i64 rk] 64)
        obtain ⟨v1, v2⟩ := two_cells (heap_new wr (.cells #[.string s, .int .i64 rk] 64))
        generalize wr.heap.size = bf at v1 v2 ⊢
        generalize wr.alloc (.cells #[.string s, .int .i64 rk] 64) = W2 at ho2 hb2 v1 v2 ⊢
        have hz := hb2.size
        clear hown hb f1 f2
        go_wp2_with (at_builtin; refine wpList_append_own _ rfl (.tmp 20) (.tmp 23) 33 rfl w.heap.size 3 i0 (.int .i64 0) 1 8 Tryz.underlying33 hi0 hz0 hz1 hz2 rfl Nat.one_pos v j _ rfl (ho2.alloc _) ⟨W2.heap.size, 0, none⟩ 1 1 [.int .i64 rk] rfl rfl (cell_one_new _ _ _) (one_intv rk) hmx (by omega) (by simp; omega) ?_; intro v1' w9 hown1 hgrow1 _)
        have hb9 := below_own hb2 ho2 hgrow1
        rw [hsn.out] at hown1
        go_roundw
        case rel => exact ⟨j + 1, _, by omega, by go_num, rfl, hown1, hb9⟩
        case measure => simp [Go.RowKit.intOf]; omega
      · obtain rfl : j = x.S.len := by omega
        have hl : (rks x.S x.S.len).length = x.S.len := by simp [rks]
        have HL := Lib.hid hl
        clear hl
        go_wp2_with fail
        go_ret2
        exact ⟨_, rfl, by rw [HL.out]; exact hown, hb⟩

end Go.Proofs.YtjkcopgfcafpeaaGreatDoor

/-
  The walks of need, needIn and Reach. Conditions: that the scheme lies in memory; of the first two, that it is valid.
-/
set_option linter.unusedSimpArgs false
set_option linter.unusedVariables false
namespace Go.Proofs.YtjkcopgfcafpeaaGreatDoor
open Go.RowKit Go.Maps

/-- what a visit leaves behind -/
def Seen (x : Sc) (nb : Nat) (w : World) (V : Nat → Bool) (R : Nat → Prop) (e : Ending) (w' : World) : Prop :=
  e = .returned (.tuple #[]) ∧ ∃ V', NB w' nb x.F.len V' ∧ Bn nb w w' ∧ Dfs x V V' R

set_option maxRecDepth 100000 in
set_option maxHeartbeats 4000000 in
theorem need_of (x : Sc) (hg : Good x) (sp fp : Option Addr) (sn sc fc nb N : Nat)
    (ih : ∀ (t : X) (k n : Int) (w : World) (V : Nat → Bool) (p : Option Addr) (l cap : Nat), cntV V x.F.len * 1000 + t.sz < N → t.sz ≤ 400 → goodH x k n → goodX x t → IsX w t p l cap → IsF w x.F fp x.F.len fc → NB w nb x.F.len V →
      Calls Tryz.prog 89 #[.agg #[.slice sp sn sc, .slice fp x.F.len fc], .agg #[.int .i64 k, .int .i64 n, .slice p l cap], .slice (some ⟨nb, 0, none⟩) x.F.len x.F.len] w (Seen x nb w V (fun i => call1 i k n t = true)))
    (m : Nat) (hm : m < x.F.len) (w : World) (V : Nat → Bool) (hc : cntV V x.F.len * 1000 ≤ N) (hF : IsF w x.F fp x.F.len fc) (hN : NB w nb x.F.len V) :
    Calls Tryz.prog 46 #[.agg #[.slice sp sn sc, .slice fp x.F.len fc], .int .i64 (m : Int), .slice (some ⟨nb, 0, none⟩) x.F.len x.F.len] w (Seen x nb w V (fun i => i = m)) := by
  have hlen := hg.funs
  have hsz := hg.size m hm
  have hgh := hg.head m hm
  have hgx := hg.body m hm
  have hbx := heap_new w (.cells #[.slice sp sn sc, .slice fp x.F.len fc] 25)
  have hN1 := hN.below ((Below.refl _ _).alloc (Nat.le_refl _) (.cells #[.slice sp sn sc, .slice fp x.F.len fc] 25))
  have hB1 := Bn.alloc nb w (.cells #[.slice sp sn sc, .slice fp x.F.len fc] 25)
  have hne : w.heap.size ≠ nb := by have := hN.lt; omega
  obtain ⟨c1, c2⟩ := hN1.cell hm
  have IH := Lib.hid ih
  have HG := Lib.hid (And.intro hgh hgx)
  clear ih hgh hgx
  cases hv : V m with
  | true =>
    rw [hv] at c1
    have HR : Seen x nb w V (fun i => i = m) (.returned (.tuple #[])) (w.alloc (.cells #[.slice sp sn sc, .slice fp x.F.len fc] 25)) := ⟨rfl, V, hN1, hB1, Dfs.same (by rintro i rfl; exact hv)⟩
    have HR' := Lib.hid HR
    clear HR hN1 hB1 hbx hF hN hv
    go_enter Tryz.func46, Tryz.ntmps46
    go_wp2_with fail
    go_end0
    exact HR'.out
  | false =>
    rw [hv] at c1
    have hcnt := cntV_upd hv x.F.len hm
    have hN2 := hN1.set m
    have hB2 := hB1.trans (Bn.set (nb := nb) (w.alloc (.cells #[.slice sp sn sc, .slice fp x.F.len fc] 25)) m (.bool true))
    have hbx2 : ((w.alloc (.cells #[.slice sp sn sc, .slice fp x.F.len fc] 25)).setCell ⟨nb, m, none⟩ (.bool true)).heap[w.heap.size]? = some (.cells #[.slice sp sn sc, .slice fp x.F.len fc] 25 (0, 0)) :=
      ((Bn.set (nb := nb) _ m (.bool true)).block w.heap.size (by simp) hne).trans hbx
    have hF2 := hF.keeps (hB2.keeps hN)
    obtain ⟨b, off, rfl, p, n, c, q, l, d, e1, e2, e3, e4, e5, e6, e7⟩ := rowF_all hF2 hm
    obtain ⟨⟨s1, s2⟩, _⟩ := two_box hbx2
    generalize hW : (w.alloc (.cells #[.slice sp sn sc, .slice (some ⟨b, off, none⟩) x.F.len fc] 25)).setCell ⟨nb, m, none⟩ (.bool true) = W2 at hN2 hB2 hbx2 hF2 e1 e2 e3 e4 e5 e6 e7 s1 s2
    have HW2 := Lib.hid (And.intro hN2 (And.intro hB2 (And.intro hF2 e7)))
    have H := Lib.hid fun W (h1 : NB W nb x.F.len (updV V m)) (h2 : IsF W x.F (some ⟨b, off, none⟩) x.F.len fc) (h3 : IsX W (x.F.bt m) q l d) => IH.out (x.F.bt m) (x.F.bk m) (x.F.bn m) W (updV V m) q l d (by omega) hsz HG.out.1 HG.out.2 h3 h2 h1
    generalize hbk : x.F.bk m = bk at e3 H
    generalize hbn : x.F.bn m = bn at e4 H
    have HBK := Lib.hid (And.intro hbk hbn)
    clear hN1 hB1 hbx hF hN hv hN2 hB2 hF2 e6 e7 hbx2 e1 e2 hbk hbn HG IH hcnt
    have HWE := Lib.hid hW
    clear hW
    go_enter Tryz.func46, Tryz.ntmps46
    go_wp2_with fail
    rw [HWE.out]
    go_still_tail 8, (by kernel_rfl)
    change wpList _ _ _ _ _ W2.drew
    go_wp2_with fail
    refine (H.out _ (HW2.out.1.below (below_drewN (Below.refl _ _) 1)) (HW2.out.2.2.1.below (below_drewN (Below.refl _ _) 1)) (HW2.out.2.2.2.below (below_drewN (Below.refl _ _) 1))).mono ?_
    rintro e w3 ⟨rfl, V', g1, g2, g3⟩
    go_wp2_with fail
    go_end0
    refine ⟨rfl, V', g1, HW2.out.2.1.trans ((Bn.drew W2).trans g2), Dfs.visit (g3.congr fun i => ?_)⟩
    unfold callB
    rw [HBK.out.1, HBK.out.2]

set_option maxRecDepth 100000 in
set_option maxHeartbeats 4000000 in
theorem needin_any (x : Sc) (hg : Good x) (sp fp : Option Addr) (sn sc fc nb N : Nat) :
    ∀ (t : X) (k n : Int) (w : World) (V : Nat → Bool) (p : Option Addr) (l cap : Nat), cntV V x.F.len * 1000 + t.sz < N → t.sz ≤ 400 → goodH x k n → goodX x t → IsX w t p l cap → IsF w x.F fp x.F.len fc → NB w nb x.F.len V →
      Calls Tryz.prog 89 #[.agg #[.slice sp sn sc, .slice fp x.F.len fc], .agg #[.int .i64 k, .int .i64 n, .slice p l cap], .slice (some ⟨nb, 0, none⟩) x.F.len x.F.len] w (Seen x nb w V (fun i => call1 i k n t = true)) := by
  induction N with
  | zero => intro t k n w V p l cap h; omega
  | succ N ih =>
    intro t k n w V p l cap hM h400 hgh hgx hX hF hN
    have IH := Lib.hid ih
    have ND := Lib.hid fun m hm w V hc hF hN => need_of x hg sp fp sn sc fc nb N ih m hm w V hc hF hN
    clear ih
    obtain ⟨rfl, hcap, hmax, hnil, hrow⟩ := id hX
    unfold maxLen at hmax
    have hb1 := alloc_kept (heap_new w (.cells #[.slice sp sn sc, .slice fp x.F.len fc] 25)) (.cells #[.int .i64 k, .int .i64 n, .slice p t.len cap] 50)
    have hb2 := heap_new2 w (.cells #[.slice sp sn sc, .slice fp x.F.len fc] 25) (.cells #[.int .i64 k, .int .i64 n, .slice p t.len cap] 50)
    have hBn := (Bn.alloc nb w (.cells #[.slice sp sn sc, .slice fp x.F.len fc] 25)).trans (Bn.alloc nb _ (.cells #[.int .i64 k, .int .i64 n, .slice p t.len cap] 50))
    have hN1 := (hN.below ((Below.refl _ _).alloc (Nat.le_refl _) (.cells #[.slice sp sn sc, .slice fp x.F.len fc] 25))).below ((Below.refl _ _).alloc (Nat.le_refl _) (.cells #[.int .i64 k, .int .i64 n, .slice p t.len cap] 50))
    have hne1 : w.heap.size ≠ nb := by have := hN.lt; omega
    have hne2 : w.heap.size + 1 ≠ nb := by have := hN.lt; omega
    have HW := Lib.hid (And.intro hX (And.intro hF hN))
    have HGX := Lib.hid hgx
    obtain ⟨hn0, hgh'⟩ := hgh
    -- behind the head: the visited ones, the boxes
    obtain ⟨m, rfl⟩ : ∃ m : Nat, n = m := ⟨n.toNat, by omega⟩
    -- the loop over the arguments
    have step : ∀ (V0 V' : Nat → Bool) (j : Nat), j < t.len → Dfs x V V0 (fun i => k = 1 ∧ (m : Int) = (i : Int) ∨ ∃ j', j' < j ∧ call1 i (t.gk j') (t.gn j') (t.ga j') = true) → Dfs x V0 V' (fun i => call1 i (t.gk j) (t.gn j) (t.ga j) = true) →
        Dfs x V V' (fun i => k = 1 ∧ (m : Int) = (i : Int) ∨ ∃ j', j' < j + 1 ∧ call1 i (t.gk j') (t.gn j') (t.ga j') = true) := by
      intro V0 V' j hj h1 h2
      refine h1.seq h2 fun i => ?_
      constructor
      · rintro (h | ⟨j', h3, h4⟩)
        · exact Or.inl (Or.inl h)
        · by_cases e : j' = j
          · subst e; exact Or.inr h4
          · exact Or.inl (Or.inr ⟨j', by omega, h4⟩)
      · rintro ((h | ⟨j', h3, h4⟩) | h)
        · exact Or.inl h
        · exact Or.inr ⟨j', by omega, h4⟩
        · exact Or.inr ⟨j, by omega, h⟩
    have last : ∀ V', Dfs x V V' (fun i => k = 1 ∧ (m : Int) = (i : Int) ∨ ∃ j', j' < t.len ∧ call1 i (t.gk j') (t.gn j') (t.ga j') = true) → Dfs x V V' (fun i => call1 i k m t = true) := by
      intro V' h
      refine h.congr fun i => ?_
      unfold call1
      rw [Bool.or_eq_true, Bool.and_eq_true, decide_eq_true_eq, decide_eq_true_eq, callX_iff]
      exact Iff.rfl
    have HST := Lib.hid (And.intro step last)
    clear step last hX hF hN hgx
    by_cases hk : k = 1
    · subst hk
      have hd : ((1 : Int) == 1) = true := by simp
      have hm : m < x.F.len := by
        rcases hgh' with ⟨h, _⟩ | ⟨_, h⟩ | ⟨h, _⟩ <;> omega
      obtain ⟨⟨s1, s2⟩, _⟩ := two_box hb1
      obtain ⟨⟨y1, y2, y3⟩, _⟩ := term_box hb2
      have hcN : cntV V x.F.len * 1000 ≤ N := by omega
      have HB := Lib.hid (And.intro hb1 (And.intro hb2 (And.intro hBn hN1)))
      have HF1 := Lib.hid ((HW.out.2.1.alloc (.cells #[.slice sp sn sc, .slice fp x.F.len fc] 25)).alloc (.cells #[.int .i64 1, .int .i64 (m : Int), .slice p t.len cap] 50))
      clear hb1 hb2 hBn hN1
      go_enter Tryz.func89, Tryz.ntmps89
      go_wp2_with fail
      refine (ND.out m hm _ V hcN HF1.out HB.out.2.2.2).mono ?_
      rintro e w1 ⟨rfl, V1, g1, g2, g3⟩
      have hb1' := (g2.block w.heap.size (by simp; omega) hne1).trans HB.out.1
      have hb2' := (g2.block (w.heap.size + 1) (by simp) hne2).trans HB.out.2.1
      have hD : Dfs x V V1 (fun i => True ∧ (m : Int) = (i : Int) ∨ ∃ j', j' < 0 ∧ call1 i (t.gk j') (t.gn j') (t.ga j') = true) := g3.congr fun i => by
        constructor
        · rintro (⟨_, h⟩ | ⟨j', h, _⟩)
          · omega
          · omega
        · rintro rfl; exact Or.inl ⟨trivial, rfl⟩
      have HS := Lib.hid (And.intro hb1' (And.intro g1 (And.intro (HB.out.2.2.1.trans g2) hD)))
      clear s1 s2 y1 y2 y3
      obtain ⟨⟨y1, y2, y3⟩, _⟩ := term_box hb2'
      clear HB g1 g2 g3 hb1' hb2' hD hd
      go_wp2_with fail
      go_loopw [19] (fun v wr => ∃ (j : Nat) (V' : Nat → Bool), j ≤ t.len ∧ v = .int .i64 (j : Int) ∧ NB wr nb x.F.len V' ∧ Bn nb w wr ∧ wr.heap[w.heap.size]? = some (.cells #[.slice sp sn sc, .slice fp x.F.len fc] 25 (0, 0)) ∧ Dfs x V V' (fun i => True ∧ (m : Int) = (i : Int) ∨ ∃ j', j' < j ∧ call1 i (t.gk j') (t.gn j') (t.ga j') = true))
        (fun v _ => t.len - (Go.RowKit.intOf v).toNat)
      case atStart => exact ⟨0, V1, Nat.zero_le _, rfl, HS.out.2.1, HS.out.2.2.1, HS.out.1, HS.out.2.2.2⟩
      case round =>
        clear HS y1 y2 y3
        obtain ⟨j, V', hj, rfl, hNr, hBr, hbr, hDr⟩ := hrel
        have HR := Lib.hid (And.intro hNr (And.intro hBr (And.intro hbr hDr)))
        have s1 := fun o => (two_box (alloc_kept hbr o)).1.1
        have s2 := fun o => (two_box (alloc_kept hbr o)).1.2
        have hcm := cntV_mono hDr.mono x.F.len
        by_cases hlt : j < t.len
        · rcases hrow with h0 | ⟨b, off, rfl, hr⟩
          · omega
          obtain ⟨hck, hcn, p', n', cap', hc, hi⟩ := base3_at (hBr.keeps HW.out.2.2) hr hlt
          have hsz := t.sz_ga j hlt
          obtain ⟨hgj, hgxj⟩ := goodX_at HGX.out hlt
          have HI := Lib.hid (And.intro hi (HW.out.2.1.keeps (hBr.keeps HW.out.2.2)))
          have HC := Lib.hid fun W (h1 : IsX W (t.ga j) p' n' cap') (h2 : IsF W x.F fp x.F.len fc) (h3 : NB W nb x.F.len V') => IH.out (t.ga j) (t.gk j) (t.gn j) W V' p' n' cap' (by omega) (by omega) hgj hgxj h1 h2 h3
          have HSX := Lib.hid fun V2 h => HST.out.1 V' V2 j hlt hDr h
          generalize t.gk j = kj at hck HC HSX
          generalize t.gn j = nj at hcn HC HSX
          clear hNr hBr hbr hDr hi hr hgj hgxj
          go_wp2_with fail
          refine (HC.out _ (HI.out.1.alloc _) (HI.out.2.alloc _) (HR.out.1.below ((Below.refl _ _).alloc (Nat.le_refl _) _))).mono ?_
          rintro e w2 ⟨rfl, V2, g1, g2, g3⟩
          have hB2 := HR.out.2.1.trans ((Bn.alloc nb wr _).trans g2)
          have hb2 := ((Bn.alloc nb wr _).trans g2).block w.heap.size (lt_of_block HR.out.2.2.1) hne1
          have HF := Lib.hid (And.intro g1 (And.intro hB2 (And.intro (hb2.trans HR.out.2.2.1) (HSX.out V2 g3))))
          clear g1 g2 g3 hB2 hb2
          go_wp2_with fail
          go_roundw
          case rel => exact ⟨j + 1, V2, by omega, by go_num, HF.out.1, HF.out.2.1, HF.out.2.2.1, HF.out.2.2.2⟩
          case measure => simp [Go.RowKit.intOf]; omega
        · obtain rfl : j = t.len := by omega
          have HF := Lib.hid (And.intro hNr (And.intro hBr (HST.out.2 V' hDr)))
          clear hNr hBr hDr
          go_wp2_with fail
          go_end0
          exact ⟨rfl, V', HF.out.1, HF.out.2.1, HF.out.2.2⟩
    · have hd : (k == 1) = false := by simp [hk]
      obtain ⟨⟨y1, y2, y3⟩, _⟩ := term_box hb2
      have hD : Dfs x V V (fun i => k = 1 ∧ (m : Int) = (i : Int) ∨ ∃ j', j' < 0 ∧ call1 i (t.gk j') (t.gn j') (t.ga j') = true) := Dfs.same (by
        rintro i (⟨h, _⟩ | ⟨j', h, _⟩)
        · exact absurd h hk
        · omega)
      have HS := Lib.hid (And.intro hb1 (And.intro hN1 (And.intro hBn hD)))
      clear hb1 hb2 hBn hN1 hD
      go_enter Tryz.func89, Tryz.ntmps89
      go_wp2_with fail
      go_loopw [19] (fun v wr => ∃ (j : Nat) (V' : Nat → Bool), j ≤ t.len ∧ v = .int .i64 (j : Int) ∧ NB wr nb x.F.len V' ∧ Bn nb w wr ∧ wr.heap[w.heap.size]? = some (.cells #[.slice sp sn sc, .slice fp x.F.len fc] 25 (0, 0)) ∧ Dfs x V V' (fun i => k = 1 ∧ (m : Int) = (i : Int) ∨ ∃ j', j' < j ∧ call1 i (t.gk j') (t.gn j') (t.ga j') = true))
        (fun v _ => t.len - (Go.RowKit.intOf v).toNat)
      case atStart => exact ⟨0, V, Nat.zero_le _, rfl, HS.out.2.1, HS.out.2.2.1, HS.out.1, HS.out.2.2.2⟩
      case round =>
        clear HS y1 y2 y3
        obtain ⟨j, V', hj, rfl, hNr, hBr, hbr, hDr⟩ := hrel
        have HR := Lib.hid (And.intro hNr (And.intro hBr (And.intro hbr hDr)))
        have s1 := fun o => (two_box (alloc_kept hbr o)).1.1
        have s2 := fun o => (two_box (alloc_kept hbr o)).1.2
        have hcm := cntV_mono hDr.mono x.F.len
        by_cases hlt : j < t.len
        · rcases hrow with h0 | ⟨b, off, rfl, hr⟩
          · omega
          obtain ⟨hck, hcn, p', n', cap', hc, hi⟩ := base3_at (hBr.keeps HW.out.2.2) hr hlt
          have hsz := t.sz_ga j hlt
          obtain ⟨hgj, hgxj⟩ := goodX_at HGX.out hlt
          have HI := Lib.hid (And.intro hi (HW.out.2.1.keeps (hBr.keeps HW.out.2.2)))
          have HC := Lib.hid fun W (h1 : IsX W (t.ga j) p' n' cap') (h2 : IsF W x.F fp x.F.len fc) (h3 : NB W nb x.F.len V') => IH.out (t.ga j) (t.gk j) (t.gn j) W V' p' n' cap' (by omega) (by omega) hgj hgxj h1 h2 h3
          have HSX := Lib.hid fun V2 h => HST.out.1 V' V2 j hlt hDr h
          generalize t.gk j = kj at hck HC HSX
          generalize t.gn j = nj at hcn HC HSX
          clear hNr hBr hbr hDr hi hr hgj hgxj
          go_wp2_with fail
          refine (HC.out _ (HI.out.1.alloc _) (HI.out.2.alloc _) (HR.out.1.below ((Below.refl _ _).alloc (Nat.le_refl _) _))).mono ?_
          rintro e w2 ⟨rfl, V2, g1, g2, g3⟩
          have hB2 := HR.out.2.1.trans ((Bn.alloc nb wr _).trans g2)
          have hb2 := ((Bn.alloc nb wr _).trans g2).block w.heap.size (lt_of_block HR.out.2.2.1) hne1
          have HF := Lib.hid (And.intro g1 (And.intro hB2 (And.intro (hb2.trans HR.out.2.2.1) (HSX.out V2 g3))))
          clear g1 g2 g3 hB2 hb2
          go_wp2_with fail
          go_roundw
          case rel => exact ⟨j + 1, V2, by omega, by go_num, HF.out.1, HF.out.2.1, HF.out.2.2.1, HF.out.2.2.2⟩
          case measure => simp [Go.RowKit.intOf]; omega
        · obtain rfl : j = t.len := by omega
          have HF := Lib.hid (And.intro hNr (And.intro hBr (HST.out.2 V' hDr)))
          clear hNr hBr hDr
          go_wp2_with fail
          go_end0
          exact ⟨rfl, V', HF.out.1, HF.out.2.1, HF.out.2.2⟩

end Go.Proofs.YtjkcopgfcafpeaaGreatDoor

/-
  The walk of Reach: what it answers, for whatever scheme. Conditions: none but that the scheme lies in memory.
-/
set_option linter.unusedSimpArgs false
set_option linter.unusedVariables false
namespace Go.Proofs.YtjkcopgfcafpeaaGreatDoor
open Go.RowKit Go.Maps

open Classical in
/-- the functions that are needed, in order -/
noncomputable def rchL (x : Sc) : List Int := if h : scOk x = true ∧ ∃ V, Least x V then visL (Classical.choose h.2) x.F.len else []

theorem rchL_of {x : Sc} {V : Nat → Bool} (hok : scOk x = true) (h : Least x V) : visL V x.F.len = rchL x := by
  have h' : scOk x = true ∧ ∃ V, Least x V := ⟨hok, V, h⟩
  unfold rchL
  rw [dif_pos h']
  exact visL_congr fun i hi => h.unique (Classical.choose_spec h'.2) i hi

theorem rchL_no {x : Sc} (h : scOk x = false) : rchL x = [] := by
  unfold rchL
  rw [dif_neg (by simp [h])]

theorem rchL_len {x : Sc} : (rchL x).length ≤ x.F.len := by
  unfold rchL
  split
  · exact visL_len _ _
  · simp

def ReachPost (w : World) (x : Sc) (e : Ending) (w' : World) : Prop :=
  ∃ v, e = .returned (.tuple #[v, .int .i64 (scE x)]) ∧ w'.ownsRow w.heap.size 3 1 v (rchL x).length ((rchL x).map intv) ∧ Below w.heap.size w w'

theorem infoBl : (Tryz.prog.info? 4).map (fun i => (i.zero, i.size, i.bytes)) = some (some (.bool false), 1, 1) := by kernel_rfl

theorem run_make_bools (n : Nat) (hn : n ≤ 64) (w : World) : (Instr.makeSlice 69 (.int .i64 (n : Int)) (.int .i64 (n : Int))).run Tryz.prog w = .ok (.slice (some ⟨w.heap.size, 0, none⟩) n n) (w.alloc (.cells (madeCells #[.bool false] n) 4)) :=
  run_make_row' (P := Tryz.prog) 69 4 (.bool false) 1 Tryz.underlying69 infoBl rfl .i64 .i64 n (by omega) (by omega) w

theorem NB.grown {W W2 : World} {nb n B k : Nat} {V : Nat → Bool} {v : Value} {xs : List Value} {o : Obj} (h : NB W nb n V) (ho : W.ownsRow B 3 1 v k xs) (hg : (W.alloc o).grownBy W2 v.ownBlock) : NB W2 nb n V := by
  have h1 := h.below ((Below.refl _ _).alloc (Nat.le_refl _) o)
  refine h1.of_block (hg.block nb h1.lt ?_)
  obtain ⟨_, h2⟩ := ho
  rcases h2 with ⟨rfl, _⟩ | ⟨g, cap, cur, rfl, _, hgb, _⟩
  · intro e; cases e
  · intro e
    obtain rfl : nb = g := Option.some.inj e
    unfold NB at h
    rw [h] at hgb
    cases hgb

theorem visL_snoc {V : Nat → Bool} {j : Nat} (h : V j = true) : (visL V j).map intv ++ [Value.int .i64 (j : Int)] = (visL V (j + 1)).map intv := by
  rw [← visL_yes h, List.map_append]; rfl

theorem visL_snoc_len {V : Nat → Bool} {j : Nat} (h : V j = true) : (visL V j).length + 1 = (visL V (j + 1)).length := by
  rw [← visL_yes h, List.length_append]; rfl

set_option maxRecDepth 100000 in
set_option maxHeartbeats 4000000 in
theorem sreach_any (x : Sc) (a : At2) (w : World) (h : IsC w x a) :
    Calls Tryz.prog 24 #[.agg #[.slice a.sp a.sn a.sc, .slice a.fp a.fn a.fc]] w (ReachPost w x) := by
  obtain ⟨i0, hi0, hz0, hz1, hz2⟩ := info_parts infoI
  have HC := Lib.hid (fun W h => scheck_any x a W h)
  obtain ⟨sp, sn, sc, fp, fn, fc⟩ := a
  obtain ⟨hS, hF⟩ := id h
  dsimp only at hS hF HC ⊢
  obtain rfl : fn = x.F.len := hF.1
  have hbx := heap_new w (.cells #[.slice sp sn sc, .slice fp x.F.len fc] 25)
  obtain ⟨s1, s2⟩ := two_cells hbx
  have HX := Lib.hid hbx
  have HH := Lib.hid h
  unfold ReachPost
  cases hok : scOk x with
  | false =>
    have e1 : scE x = 7 := by unfold scE; rw [hok]; rfl
    rw [e1] at HC ⊢
    rw [rchL_no hok]
    clear e1 hok hS hF hbx h
    go_enter Tryz.func24, Tryz.ntmps24
    go_wp2_with fail
    refine (HC.out _ (HH.out.alloc _)).mono ?_
    rintro e w1 ⟨rfl, hb1⟩
    go_wp2_with fail
    go_ret2
    exact ⟨_, rfl, World.ownsRow_nil _ _ _ _, below_call hb1⟩
  | true =>
    have e1 : scE x = 0 := by unfold scE; rw [hok]; rfl
    have hg := good_of hok
    have h64 := hg.funs
    have hpos := hg.some
    rw [e1] at HC ⊢
    have hmk := run_make_bools x.F.len h64
    have HND := Lib.hid fun nb w hN hF => need_of x hg sp fp sn sc fc nb (cntV (fun _ => false) x.F.len * 1000) (needin_any x hg sp fp sn sc fc nb _) 0 hpos w (fun _ => false) (Nat.le_refl _) hF hN
    have HL := Lib.hid fun V (hD : Dfs x (fun _ => false) V (fun i => i = 0)) => rchL_of hok (Least.of_dfs hD hg)
    clear e1 hok hS hF hbx h hg
    go_enter Tryz.func24, Tryz.ntmps24
    go_wp2_with fail
    refine (HC.out _ (HH.out.alloc _)).mono ?_
    rintro e w1 ⟨rfl, hb1⟩
    have hbx1 := box3_later hb1 HX.out
    have s3 := fun o => (two_box (alloc_kept hbx1 o)).1.1
    have s4 := fun o => (two_box (alloc_kept hbx1 o)).1.2
    obtain ⟨s5, s6⟩ := two_cells hbx1
    have hB1 := below_call hb1
    have hN1 := NB.made (heap_new w1 (.cells (madeCells #[.bool false] x.F.len) 4))
    have hF1 := (HH.out.2.below hB1).alloc (.cells (madeCells #[.bool false] x.F.len) 4)
    have HB := Lib.hid (And.intro hB1 (And.intro hN1 hF1))
    clear s1 s2 hb1 HX hbx1 hB1 hN1 hF1
    go_wp2_with fail
    refine (HND.out _ _ HB.out.2.1 HB.out.2.2).mono ?_
    rintro e w2 ⟨rfl, V, g1, g2, g3⟩
    have hz1' : w.heap.size ≤ w1.heap.size := HB.out.1.size
    have hB2 : Below w.heap.size w w2 := g2.to_below (HB.out.1.alloc hz1' _) hz1' (by simp; omega)
    have HB2 := Lib.hid (And.intro hB2 (And.intro g1 (HL.out V g3)))
    generalize w1.heap.size = nb at g1 HB2 ⊢
    clear g1 g2 g3 hB2 HB s3 s4 s5 s6 HND HL hmk
    go_wp2_with fail
    go_loopw [6, 23] (fun u i wr => ∃ (j : Nat) (v : Value), j ≤ x.F.len ∧ i = .int .i64 (j : Int) ∧ v = u ∧ wr.ownsRow w.heap.size 3 1 v (visL V j).length ((visL V j).map intv) ∧ NB wr nb x.F.len V ∧ Below w.heap.size w wr)
      (fun _ i _ => x.F.len - (Go.RowKit.intOf i).toNat)
    case atStart => exact ⟨0, _, Nat.zero_le _, rfl, rfl, World.ownsRow_nil _ _ _ _, HB2.out.2.1, HB2.out.1⟩
    case round =>
      obtain ⟨j, v, hj, rfl, rfl, hown, hN, hb⟩ := hrel
      by_cases hlt : j < x.F.len
      · obtain ⟨c1, c2⟩ := hN.cell hlt
        have hvl := visL_len V j
        cases hv : V j with
        | true =>
          rw [hv] at c1
          have hsn := Lib.hid (And.intro (visL_snoc hv) (visL_snoc_len hv))
          have hmx : (visL V j).length + 1 ≤ maxLen := by simp only [maxLen]; omega
          have HN := Lib.hid hN
          have hz := hb.size
          clear hN hv
          go_upto_region 11 with fail
          go_wp2_with (at_builtin; refine wpList_append_own _ rfl (.tmp 29) (.tmp 31) 33 rfl w.heap.size 3 i0 (.int .i64 0) 1 8 Tryz.underlying33 hi0 hz0 hz1 hz2 rfl Nat.one_pos v (visL V j).length _ rfl (hown.alloc _) ⟨wr.heap.size, 0, none⟩ 1 1 [.int .i64 (j : Int)] rfl rfl (cell_one_new _ _ _) (one_intv (j : Int)) hmx (by omega) (by simp; omega) ?_; intro v1' w9 hown1 hgrow1 _)
          have hb9 := below_own hb hown hgrow1
          have hN9 := HN.out.grown hown hgrow1
          rw [hsn.out.1, hsn.out.2] at hown1
          have HF := Lib.hid (And.intro hown1 (And.intro hN9 hb9))
          clear hown1 hN9 hb9 hown hb
          go_roundw
          case rel => exact ⟨j + 1, _, by omega, by go_num, rfl, HF.out.1, HF.out.2.1, HF.out.2.2⟩
          case measure => simp [Go.RowKit.intOf]; omega
        | false =>
          rw [hv] at c1
          rw [visL_no hv] at hown
          have HF := Lib.hid (And.intro hown (And.intro hN hb))
          clear hown hN hb hv
          go_wp2_with fail
          go_roundw
          case rel => exact ⟨j + 1, _, by omega, by go_num, rfl, HF.out.1, HF.out.2.1, HF.out.2.2⟩
          case measure => simp [Go.RowKit.intOf]; omega
      · obtain rfl : j = x.F.len := by omega
        rw [HB2.out.2.2] at hown
        have HF := Lib.hid (And.intro hown hb)
        clear hown hb hN
        go_wp2_with fail
        go_ret2
        exact ⟨_, rfl, HF.out.1, HF.out.2⟩

end Go.Proofs.YtjkcopgfcafpeaaGreatDoor

/-
  The walk of the statement on bodies. Conditions: that the scheme lies in memory, and the package variables read as laid.
-/
set_option linter.unusedSimpArgs false
set_option linter.unusedVariables false
namespace Go.Proofs.YtjkcopgfcafpeaaGreatDoor
open Go.RowKit Go.Maps

theorem fits_sort {x : Pl} {k n : Int} {a : X} (h : fitsB x k n a = true) : ∃ S, sortRes x k n a = (0, S) ∧ S.len = 0 := by
  simp only [fitsB, Bool.and_eq_true, decide_eq_true_eq] at h
  refine ⟨(sortRes x k n a).2, ?_, h.2.2⟩
  rw [← h.2.1]

theorem scOk_start {x : Sc} (h : scOk x = true) : (x.F.st 0).len = 0 ∧ x.F.len ≠ 0 := by
  simp only [scOk, Bool.and_eq_true, Bool.not_eq_true', decide_eq_false_iff_not] at h
  exact ⟨by omega, h.1.1.1.1.1⟩

theorem scOk_body {x : Sc} (h : scOk x = true) {i : Nat} (hi : i < x.F.len) : bodyOk x i = true := by
  simp only [scOk, Bool.and_eq_true] at h
  exact bodiesOk_at x _ _ h.2 i (Nat.zero_le _) (by omega)

set_option maxRecDepth 100000 in
set_option maxHeartbeats 4000000 in
theorem law_sbodies_no (x : Sc) (a : At2) (w : World) (h : IsC w x a) (hg : Gl w) (h6 : 6 ≤ w.heap.size) (hno : scOk x = false) :
    Calls Tryz.prog 11 #[.agg #[.slice a.sp a.sn a.sc, .slice a.fp a.fn a.fc]] w fun e w' => e = .returned (.bool true) ∧ Below w.heap.size w w' := by
  have HK := Lib.hid fun W h => scheck_any x a W h
  have HA := Lib.hid fun W h h' => alive3_any W h h'
  have he : scE x = 7 := by unfold scE; rw [hno]; rfl
  rw [he] at HK
  clear he
  go_enter Tryz.func11, Tryz.ntmps11
  go_wp2_with fail
  refine (HK.out _ (h.alloc _)).mono ?_
  rintro e w1 ⟨rfl, hb1⟩
  have B1 : Below w.heap.size w w1 := ((Below.refl _ _).alloc (Nat.le_refl _) _).trans (hb1.mono (by simp))
  have HB1 := Lib.hid B1
  clear B1 hb1
  go_wp2_with fail
  refine (HA.out _ (hg.keep fun b hb => HB1.out.block b (by omega)) (by have := HB1.out.size; omega)).mono ?_
  rintro e w2 ⟨rfl, hb2⟩
  go_wp2_with fail
  go_ret
  exact ⟨rfl, HB1.out.trans (hb2.mono HB1.out.size)⟩

set_option maxRecDepth 100000 in
set_option maxHeartbeats 8000000 in
theorem law_sbodies_ok (x : Sc) (a : At2) (w : World) (h : IsC w x a) (hg : Gl w) (h6 : 6 ≤ w.heap.size) (hok : scOk x = true) :
    Calls Tryz.prog 11 #[.agg #[.slice a.sp a.sn a.sc, .slice a.fp a.fn a.fc]] w fun e w' => e = .returned (.bool true) ∧ Below w.heap.size w w' := by
  have hcf := (good_of hok).funs
  have HK := Lib.hid fun W h => scheck_any x a W h
  have HA := Lib.hid fun W h h' => alive3_any W h h'
  have he : scE x = 0 := by unfold scE; rw [hok]; rfl
  rw [he] at HK
  clear he
  have HBO := Lib.hid fun i hi => scOk_body (x := x) (i := i) hok hi
  obtain ⟨hs0, c0⟩ := scOk_start hok
  obtain ⟨i0, hi0, hz0, hz1', hz2⟩ := info_parts infoS
  obtain ⟨sp, sn, sc, fp, fn, fc⟩ := a
  obtain ⟨hS, hF⟩ := id h
  dsimp only at hS hF ⊢ HK
  obtain rfl : fn = x.F.len := hF.1
  have hbx := heap_new w (.cells #[.slice sp sn sc, .slice fp x.F.len fc] 25)
  obtain ⟨b0, off, p0, n0, c0', rfl, g2, en⟩ := at_zero hF c0
  obtain rfl : n0 = 0 := by omega
  obtain ⟨_, _, _, _, hrow0⟩ := id hF
  have hr : RowF w x.F b0 off := by
    rcases hrow0 with h | ⟨b', off', e, hr⟩
    · omega
    · injection e with e
      injection e with e1 e2
      subst e1 e2
      exact hr
  have HC := Lib.hid h
  have HX := Lib.hid hbx
  have hk := Lib.hid g2
  have HR := Lib.hid hr
  have HSy := Lib.hid hS
  have hlen : 0 < x.F.len := by omega
  have hlen2 : (0 : Int) < (x.F.len : Int) := by omega
  clear hS hF hbx g2 hr hrow0 en hs0 hok h c0
  go_enter Tryz.func11, Tryz.ntmps11
  go_wp2_with fail
  refine (HK.out _ (HC.out.alloc _)).mono ?_
  rintro e w1 ⟨rfl, hb1⟩
  have B1 := below_call hb1
  have hb2 := box3_later hb1 HX.out
  obtain ⟨s3, s4⟩ := two_cells hb2
  have s5 := fun o => (two_cells (alloc_kept hb2 o)).2
  have HP0 := Lib.hid (PS.start (F := x.F) (sp := sp) (sn := sn) (sc := sc) hb2 B1)
  clear hb2 B1 hb1 HX HK HC
  go_wp2_with fail
  go_loopw [20] (fun v wr => ∃ (j : Nat) (q : Option Addr) (c : Nat) (vs : List Value), j ≤ x.F.len ∧ v = .int .i64 (j : Int) ∧ PS w x.F (.cells #[.slice sp sn sc, .slice (some ⟨b0, off, none⟩) x.F.len fc] 25 (0, 0)) sp sn sc w1.heap.size j q c vs (.slice none 0 0) wr)
    (fun v _ => x.F.len - (Go.RowKit.intOf v).toNat)
  case atStart => exact ⟨0, none, 0, [], Nat.zero_le _, rfl, HP0.out⟩
  case round =>
    clear HP0 s3 s4 s5
    obtain ⟨j, q, c, vs, hj, rfl, hP⟩ := hrel
    by_cases hlt : j < x.F.len
    · obtain ⟨p', n', c', q', m', d', e1, e2, e3, e4, e5, e6, e7⟩ := HR.out j hlt
      have hkk := (bcell hP.bel).1
      have f1 := (hkk _ _ (lt_of_cell e1)).trans e1
      have f2 := (hkk _ _ (lt_of_cell e2)).trans e2
      have f3 := (hkk _ _ (lt_of_cell e3)).trans e3
      have f4 := (hkk _ _ (lt_of_cell e4)).trans e4
      have f5 := (hkk _ _ (lt_of_cell e5)).trans e5
      have HPP := Lib.hid hP
      have HT := Lib.hid e6
      clear hP hkk e1 e2 e3 e4 e5 e6 e7
      generalize x.F.nm j = s at f1
      generalize x.F.bk j = bk at f3
      generalize x.F.bn j = bn at f4
      go_upto_region 7 with fail
      have S2 := HPP.out.alloc (.cells #[.string s, .slice p' n' c', .int .i64 bk, .int .i64 bn, .slice q' m' d'] 52)
      obtain ⟨y1, y2, y3, y4, y5⟩ := three_cells S2.box
      obtain ⟨v1, v2, v3, v4, v5⟩ := five_cells (heap_new wr (.cells #[.string s, .slice p' n' c', .int .i64 bk, .int .i64 bn, .slice q' m' d'] 52))
      have hbase : w1.heap.size + 1 ≤ wr.heap.size := lt_of_block HPP.out.box
      have hbase2 : w1.heap.size + 1 ≤ (wr.alloc (.cells #[.string s, .slice p' n' c', .int .i64 bk, .int .i64 bn, .slice q' m' d'] 52)).heap.size := by simp only [World.size_alloc]; omega
      generalize wr.heap.size = bf at v1 v2 v3 v4 v5 ⊢
      generalize wr.alloc (.cells #[.string s, .slice p' n' c', .int .i64 bk, .int .i64 bn, .slice q' m' d'] 52) = W2 at S2 y1 y2 y3 y4 y5 v1 v2 v3 v4 v5 hbase2 ⊢
      have HS2 := Lib.hid S2
      have hown := S2.own
      have hmx : j + 1 ≤ maxLen := by simp only [maxLen]; omega
      have hby : (j + 1) * 24 ≤ 140737488355328 := by omega
      clear S2 f1 f2 f3 f4 f5
      go_wp2_with (at_builtin; refine wpList_append_lies _ rfl _ _ 43 rfl (w1.heap.size + 1) 47 i0 (.agg #[.slice none 0 0]) 1 24 Tryz.underlying43 hi0 hz0 hz1' hz2 rfl Nat.one_pos (.slice q j c) j vs rfl (hown.alloc _) ⟨W2.heap.size, 0, none⟩ 1 1 [.slice p' n' c'] rfl rfl (cell_one_new _ _ _) (one_slice _ _ _) Nat.one_pos hmx hby (base_le _ hbase2) (W2.heap.size + 1) (size_new _ _) ?_; intro g cp w9 hown3 hgrow hat hglt; have hh3 := three_cells (HS2.out.mid hgrow); have o1 := hh3.2.1; have o2 := hh3.2.2.2.1; clear hh3)
      have P := PS.push HS2.out HT.out hown3 hgrow
      go_roundw
      case rel => exact ⟨j + 1, some ⟨g, 0, none⟩, cp, _, by omega, by go_num, P⟩
      case measure => simp [Go.RowKit.intOf]; omega
    · obtain rfl : j = x.F.len := by omega
      obtain ⟨v1, v2⟩ := two_cells hP.sbox
      have HPP := Lib.hid hP
      clear hP
      go_wp2_with fail
      go_loopw [35] (fun v wr => ∃ (j : Nat) (u : Value), j ≤ x.F.len ∧ v = .int .i64 (j : Int) ∧ PS w x.F (.cells #[.slice sp sn sc, .slice (some ⟨b0, off, none⟩) x.F.len fc] 25 (0, 0)) sp sn sc w1.heap.size x.F.len q c vs u wr)
          (fun v _ => x.F.len - (Go.RowKit.intOf v).toNat)
      case atStart => exact ⟨0, _, Nat.zero_le _, rfl, HPP.out⟩
      case round =>
        clear HPP v1 v2
        obtain ⟨j, u, hj, rfl, hP⟩ := hrel
        by_cases hlt : j < x.F.len
        · obtain ⟨p', n', c', q', m', d', e1, e2, e3, e4, e5, e6, e7⟩ := HR.out j hlt
          have hkk := (bcell hP.bel).1
          have f1 := (hkk _ _ (lt_of_cell e1)).trans e1
          have f2 := (hkk _ _ (lt_of_cell e2)).trans e2
          have f3 := (hkk _ _ (lt_of_cell e3)).trans e3
          have f4 := (hkk _ _ (lt_of_cell e4)).trans e4
          have f5 := (hkk _ _ (lt_of_cell e5)).trans e5
          have HPP := Lib.hid hP
          have HT := Lib.hid e6
          have HTX := Lib.hid e7
          obtain ⟨S, hS1, hS2⟩ := fits_sort (HBO.out j hlt)
          have HSO := Lib.hid (fun W aa h h' => sort_any (x.pl (x.F.st j)) aa (x.F.bk j) (x.F.bn j) (x.F.bt j) W q' m' d' h h' 0 S hS1)
          rw [hS2] at HSO
          clear hP hkk e1 e2 e3 e4 e5 e6 e7 hS1 hS2
          generalize x.F.nm j = s at f1
          generalize x.F.bk j = bk at f3 HSO
          generalize x.F.bn j = bn at f4 HSO
          go_upto_region 12 with fail
          have S2 := HPP.out.alloc (.cells #[.string s, .slice p' n' c', .int .i64 bk, .int .i64 bn, .slice q' m' d'] 52)
          have hfx := heap_new wr (.cells #[.string s, .slice p' n' c', .int .i64 bk, .int .i64 bn, .slice q' m' d'] 52)
          have hne : wr.heap.size ≠ w1.heap.size := by have := lt_of_block HPP.out.box; omega
          generalize wr.heap.size = bf at hfx hne ⊢
          generalize wr.alloc (.cells #[.string s, .slice p' n' c', .int .i64 bk, .int .i64 bn, .slice q' m' d'] 52) = W2 at S2 hfx ⊢
          obtain ⟨y1, y2, y3, y4, y5⟩ := three_cells S2.box
          obtain ⟨v1, v2, v3, v4, v5⟩ := five_cells hfx
          have S3 := S2.param (.slice p' n' c')
          obtain ⟨t1, t2, t3, t4, t5⟩ := three_cells S3.box
          have hfx3 := (Below.heap_setCell W2 ⟨w1.heap.size, 2, none⟩ (.slice p' n' c') bf hne).trans hfx
          obtain ⟨u1, u2, u3, u4, u5⟩ := five_cells hfx3
          have hPl : IsP (W2.setCell ⟨w1.heap.size, 2, none⟩ (.slice p' n' c')) (x.pl (x.F.st j)) ⟨sp, sn, sc, q, x.F.len, c, p', n', c'⟩ := ⟨HSy.out.below S3.bel, S3.isT, HT.out.below S3.bel⟩
          have hXl := HTX.out.below S3.bel
          have HS3 := Lib.hid S3
          have HPL := Lib.hid hPl
          have HXL := Lib.hid hXl
          clear S2 S3 hfx hfx3 hPl hXl f1 f2 f3 f4 f5 HPP
          go_wp2_with fail
          refine (HSO.out _ _ HPL.out HXL.out).mono ?_
          rintro e w5 ⟨qs, cs, rfl, _, hb5⟩
          have P5 := (HS3.out.below hb5).alloc (.cells #[.slice qs 0 cs] 47)
          have HP5 := Lib.hid P5
          clear P5 hb5 HPL HXL HS3
          go_wp2_with fail
          go_roundw
          case rel => exact ⟨j + 1, _, by omega, by go_num, HP5.out⟩
          case measure => simp [Go.RowKit.intOf]; omega
        · obtain ⟨v1, v2⟩ := two_cells hP.sbox
          have g3 := ((bcell hP.bel).1 _ _ (lt_of_cell hk.out)).trans hk.out
          have HPP := Lib.hid hP
          clear hP
          go_wp2_with fail
          refine (HA.out _ (hg.keep fun b hb => HPP.out.bel.block b (by omega)) (by have := HPP.out.bel.size; omega)).mono ?_
          rintro e w6 ⟨rfl, hb6⟩
          go_wp2_with fail
          go_ret
          exact ⟨rfl, HPP.out.bel.trans (hb6.mono HPP.out.bel.size)⟩

theorem law_sbodies (x : Sc) (a : At2) (w : World) (h : IsC w x a) (hg : Gl w) (h6 : 6 ≤ w.heap.size) :
    Calls Tryz.prog 11 #[.agg #[.slice a.sp a.sn a.sc, .slice a.fp a.fn a.fc]] w fun e w' => e = .returned (.bool true) ∧ Below w.heap.size w w' := by
  cases hs : scOk x with
  | false => exact law_sbodies_no x a w h hg h6 hs
  | true => exact law_sbodies_ok x a w h hg h6 hs

end Go.Proofs.YtjkcopgfcafpeaaGreatDoor

/-
  Plain mathematics of the scheme without the functions that are not needed: it is a scheme, needs all of its functions, and has at most the order. Conditions: the given scheme is one, and V holds the functions that it needs.
-/
set_option linter.unusedSimpArgs false
set_option linter.unusedVariables false
namespace Go.Proofs.YtjkcopgfcafpeaaGreatDoor
open Go.RowKit Go.Maps

/-- the numbers below m for which V holds -/
def lN (V : Nat → Bool) (m : Nat) : List Nat := (List.range m).filter V

/-- how many stand ahead of n -/
def rkV (V : Nat → Bool) (n : Nat) : Nat := (lN V n).length

theorem lN_succ (V : Nat → Bool) (m : Nat) : lN V (m + 1) = lN V m ++ (if V m = true then [m] else []) := by
  unfold lN
  rw [List.range_succ, List.filter_append]
  congr 1
  cases h : V m <;> simp [h]

theorem lN_at {V : Nat → Bool} : ∀ {m n : Nat}, n < m → V n = true → (lN V m)[rkV V n]? = some n := by
  intro m
  induction m with
  | zero => intro n h; omega
  | succ m ih =>
    intro n h hV
    rw [lN_succ]
    by_cases e : n = m
    · subst e
      rw [show rkV V n = (lN V n).length from rfl, List.getElem?_append_right (Nat.le_refl _), if_pos hV, Nat.sub_self]
      rfl
    · have h1 := ih (by omega) hV
      rw [List.getElem?_append_left (List.getElem?_eq_some_iff.1 h1).1]
      exact h1

theorem lN_lt {V : Nat → Bool} {m n : Nat} (h : n < m) (hV : V n = true) : rkV V n < (lN V m).length := (List.getElem?_eq_some_iff.1 (lN_at h hV)).1

theorem lN_get {V : Nat → Bool} : ∀ {m i : Nat}, i < (lN V m).length → ∃ n, n < m ∧ V n = true ∧ rkV V n = i ∧ (lN V m).getD i 0 = n := by
  intro m
  induction m with
  | zero => intro i h; exact absurd h (Nat.not_lt_zero _)
  | succ m ih =>
    intro i h
    by_cases hi : i < (lN V m).length
    · obtain ⟨n, h1, h2, h3, h4⟩ := ih hi
      refine ⟨n, by omega, h2, h3, ?_⟩
      have := lN_at (m := m + 1) (by omega : n < m + 1) h2
      rw [h3] at this
      rw [List.getD_eq_getElem?_getD, this]
      rfl
    · rw [lN_succ] at h
      by_cases hV : V m = true
      · rw [if_pos hV, List.length_append, List.length_singleton] at h
        have e : i = (lN V m).length := by omega
        refine ⟨m, Nat.lt_succ_self m, hV, e.symm, ?_⟩
        have := lN_at (Nat.lt_succ_self m) hV
        have e2 : rkV V m = i := e.symm
        rw [e2] at this
        rw [List.getD_eq_getElem?_getD, this]
        rfl
      · rw [if_neg hV, List.append_nil] at h
        omega

theorem rkV_inj {V : Nat → Bool} {a b : Nat} (ha : V a = true) (hb : V b = true) (h : rkV V a = rkV V b) : a = b := by
  have h1 := lN_at (m := a + b + 1) (by omega : a < a + b + 1) ha
  have h2 := lN_at (m := a + b + 1) (by omega : b < a + b + 1) hb
  rw [h, h2] at h1
  injection h1 with h1
  exact h1.symm

/-- a number of a function, renamed -/
def toI (V : Nat → Bool) (n : Int) : Int := if V n.toNat = true then (rkV V n.toNat : Int) else -1

def ren1 (V : Nat → Bool) (k n : Int) : Int := if k = 1 then toI V n else n

def renX (V : Nat → Bool) : X → X
  | .nil => .nil
  | .cons k n a r => .cons k (ren1 V k n) (renX V a) (renX V r)

theorem renX_len (V : Nat → Bool) (a : X) : (renX V a).len = a.len := by
  induction a with
  | nil => rfl
  | cons k n a r _ ihr => simp only [renX, X.len, ihr]

theorem renX_sz (V : Nat → Bool) (a : X) : (renX V a).sz = a.sz := by
  induction a with
  | nil => rfl
  | cons k n a r iha ihr => simp only [renX, X.sz, iha, ihr]

theorem renX_dep (V : Nat → Bool) (a : X) : (renX V a).dep = a.dep := by
  induction a with
  | nil => rfl
  | cons k n a r iha ihr => simp only [renX, X.dep, iha, ihr]

/-- the scheme without the functions that are not needed -/
def lessSc (x : Sc) (V : Nat → Bool) : Sc :=
  ⟨x.S, ⟨(lN V x.F.len).length, fun i => x.F.nm ((lN V x.F.len).getD i 0), fun i => x.F.st ((lN V x.F.len).getD i 0), fun i => x.F.bk ((lN V x.F.len).getD i 0),
    fun i => ren1 V (x.F.bk ((lN V x.F.len).getD i 0)) (x.F.bn ((lN V x.F.len).getD i 0)), fun i => renX V (x.F.bt ((lN V x.F.len).getD i 0))⟩⟩

/-- are the functions of a term among those of V? -/
def inV1 (x : Sc) (V : Nat → Bool) (k n : Int) : Prop := k = 1 → 0 ≤ n → n < x.F.len → V n.toNat = true

theorem hd_less {x : Sc} {V : Nat → Bool} {P : T} {k n : Int} (h : inV1 x V k n) (hok : (hdT (x.pl P) k n).2 = true) : hdT ((lessSc x V).pl P) k (ren1 V k n) = hdT (x.pl P) k n := by
  by_cases hk : k = 1
  · subst hk
    unfold hdT at hok
    by_cases hn : n < 0
    · rw [if_pos hn] at hok; cases hok
    rw [if_neg hn, if_neg (by decide), if_pos rfl] at hok
    have hl : (x.pl P).F.len = x.F.len := stsF_len _ _ _
    by_cases hn2 : n < (x.pl P).F.len
    · have hV := h rfl (by omega) (by omega)
      have hlt : n.toNat < x.F.len := by omega
      have hr := lN_lt hlt hV
      have e : ren1 V 1 n = (rkV V n.toNat : Int) := by unfold ren1 toI; rw [if_pos rfl, if_pos hV]
      have hl2 : ((lessSc x V).pl P).F.len = (lN V x.F.len).length := stsF_len _ _ _
      rw [e]
      unfold hdT
      rw [if_neg (by omega), if_neg (by decide), if_pos rfl, if_pos (by omega), if_neg hn, if_neg (by decide), if_pos rfl, if_pos hn2, Int.toNat_natCast]
      congr 1
      show (stsF (lessSc x V).F 0 (lessSc x V).F.len).get _ = (stsF x.F 0 x.F.len).get _
      rw [stsF_get _ _ _ _ (show rkV V n.toNat < (lessSc x V).F.len from hr), stsF_get _ _ _ _ hlt, Nat.zero_add, Nat.zero_add]
      show x.F.st ((lN V x.F.len).getD (rkV V n.toNat) 0) = _
      rw [List.getD_eq_getElem?_getD, lN_at hlt hV]
      rfl
    · rw [if_neg hn2] at hok; cases hok
  · unfold ren1
    rw [if_neg hk]
    unfold hdT
    rw [if_neg hk, if_neg hk]
    rfl

theorem rs_less {x : Sc} {V : Nat → Bool} {P : T} {k n : Int} {m : Nat} (h : inV1 x V k n) (hok : (rsT (x.pl P) k n m).2 = true) : rsT ((lessSc x V).pl P) k (ren1 V k n) m = rsT (x.pl P) k n m := by
  unfold rsT at hok ⊢
  split at hok
  · rename_i hh
    rw [hd_less h hh.1]
  · cases hok

/-- the functions of a list of terms are among those of V -/
def inVX (x : Sc) (V : Nat → Bool) : X → Prop
  | .nil => True
  | .cons k n a r => inV1 x V k n ∧ inVX x V a ∧ inVX x V r

theorem inVX_of {x : Sc} {V : Nat → Bool} : ∀ {a : X}, (∀ i, callX i a = true → V i = true) → inVX x V a := by
  intro a
  induction a with
  | nil => intro _; trivial
  | cons k n a r iha ihr =>
    intro h
    refine ⟨fun hk h0 hn => ?_, iha fun i hi => h i (by simp [callX, hi]), ihr fun i hi => h i (by simp [callX, hi])⟩
    refine h n.toNat ?_
    have e : n = (n.toNat : Int) := by omega
    simp only [callX, Bool.or_eq_true, Bool.and_eq_true, decide_eq_true_eq]
    exact Or.inl ⟨hk, e⟩

theorem sargs_less {x : Sc} {V : Nat → Bool} {P H : T} : ∀ {a : X} {i : Nat}, inVX x V a → sargs (x.pl P) H a i = true → sargs ((lessSc x V).pl P) H (renX V a) i = true := by
  intro a
  induction a with
  | nil => intro i _ _; rfl
  | cons k n a r iha ihr =>
    intro i h hs
    simp only [sargs, Bool.and_eq_true] at hs
    simp only [renX, sargs, renX_len, Bool.and_eq_true]
    rw [rs_less h.1 hs.1.1]
    exact ⟨hs.1, ihr h.2.2 hs.2⟩

theorem suit_less {x : Sc} {V : Nat → Bool} {P : T} {k n : Int} {a : X} (h1 : inV1 x V k n) (h : inVX x V a) (hs : suit (x.pl P) k n a = true) : suit ((lessSc x V).pl P) k (ren1 V k n) (renX V a) = true := by
  unfold suit at hs ⊢
  rw [Bool.and_eq_true] at hs ⊢
  have hh : (hdT (x.pl P) k n).2 = true := by
    have h2 := hs.1
    unfold rsT at h2
    split at h2
    · rename_i h3; exact h3.1
    · cases h2
  rw [renX_len, rs_less h1 hs.1, hd_less h1 hh]
  exact ⟨hs.1, sargs_less h hs.2⟩

theorem allB_less {x : Sc} {V : Nat → Bool} {P : T} : ∀ {a : X}, inVX x V a → allB (suit (x.pl P)) a = true → allB (suit ((lessSc x V).pl P)) (renX V a) = true := by
  intro a
  induction a with
  | nil => intro _ _; rfl
  | cons k n a r iha ihr =>
    intro h hs
    simp only [allB, Bool.and_eq_true] at hs
    simp only [renX, allB, Bool.and_eq_true]
    exact ⟨⟨suit_less h.1 h.2.1 hs.1.1, iha h.2.1 hs.1.2⟩, ihr h.2.2 hs.2⟩

theorem allV_of3 {t : T} : (∀ i, i < t.len → (t.get i).valid = true) → allV t = true := by
  induction t with
  | nil => intro _; rfl
  | cons h r _ ihr =>
    intro hh
    simp only [allV, Bool.and_eq_true]
    exact ⟨hh 0 (by simp [T.len]), ihr fun i hi => hh (i + 1) (by simp only [T.len]; omega)⟩

theorem bodiesOk_of3 (x : Sc) : ∀ (m i : Nat), (∀ j, i ≤ j → j < i + m → bodyOk x j = true) → bodiesOk x i m = true := by
  intro m
  induction m with
  | zero => intro i _; rfl
  | succ m ih =>
    intro i h
    simp only [bodiesOk, Bool.and_eq_true]
    exact ⟨h i (Nat.le_refl _) (by omega), ih (i + 1) fun j h1 h2 => h j (by omega) (by omega)⟩

section
variable {x : Sc} {V : Nat → Bool}

theorem less_at (h : Least x V) {i : Nat} (hi : i < (lessSc x V).F.len) : ∃ n, n < x.F.len ∧ V n = true ∧ rkV V n = i ∧ (lN V x.F.len).getD i 0 = n := lN_get hi

theorem less_zero (h : Least x V) (hpos : 0 < x.F.len) : (lN V x.F.len).getD 0 0 = 0 ∧ 0 < (lessSc x V).F.len := by
  have h1 := lN_at hpos h.start
  have h2 : rkV V 0 = 0 := rfl
  rw [h2] at h1
  refine ⟨by rw [List.getD_eq_getElem?_getD, h1]; rfl, (List.getElem?_eq_some_iff.1 h1).1⟩

theorem lN_le (V : Nat → Bool) (m : Nat) : (lN V m).length ≤ m := by
  unfold lN
  have := List.length_filter_le V (List.range m)
  rwa [List.length_range] at this

theorem bodyOk_less (hok : scOk x = true) (h : Least x V) (hpl : plOk ((lessSc x V).pl .nil) = true) {i : Nat} (hi : i < (lessSc x V).F.len) : bodyOk (lessSc x V) i = true := by
  obtain ⟨n, hn, hV, hr, hg⟩ := less_at h hi
  have hb := scOk_body hok hn
  have hv := (good_of hok).sort n hn
  have hc : ∀ k, callB x n k = true → V k = true := fun k hk => h.closed n k hn hV hk
  have h1 : inV1 x V (x.F.bk n) (x.F.bn n) := fun hk h0 hlt => hc _ (by
    unfold callB call1
    simp only [Bool.or_eq_true, Bool.and_eq_true, decide_eq_true_eq]
    exact Or.inl ⟨hk, by omega⟩)
  have h2 : inVX x V (x.F.bt n) := inVX_of fun k hk => hc k (by unfold callB call1; rw [hk, Bool.or_true])
  unfold bodyOk at hb ⊢
  show fitsB ((lessSc x V).pl (x.F.st ((lN V x.F.len).getD i 0))) (x.F.bk ((lN V x.F.len).getD i 0)) (ren1 V (x.F.bk ((lN V x.F.len).getD i 0)) (x.F.bn ((lN V x.F.len).getD i 0))) (renX V (x.F.bt ((lN V x.F.len).getD i 0))) = true
  rw [hg]
  unfold fitsB at hb ⊢
  have e1 : (renX V (x.F.bt n)).szN = (x.F.bt n).szN := by unfold X.szN; rw [renX_sz]
  have e2 : (renX V (x.F.bt n)).szD = (x.F.bt n).szD := by unfold X.szD; rw [renX_sz, renX_dep]
  rw [e1, e2]
  rw [Bool.and_eq_true] at hb ⊢
  refine ⟨hb.1, ?_⟩
  have h3 := hb.2
  rw [Bool.and_eq_true, decide_eq_true_eq] at h3
  have key : sortRes ((lessSc x V).pl (x.F.st n)) (x.F.bk n) (ren1 V (x.F.bk n) (x.F.bn n)) (renX V (x.F.bt n)) = sortRes (x.pl (x.F.st n)) (x.F.bk n) (x.F.bn n) (x.F.bt n) := by
    have h4 := h3.1
    unfold sortRes at h4 ⊢
    split at h4
    · rename_i hp
      have hp2 : plOk ((lessSc x V).pl (x.F.st n)) = true := by
        simp only [plOk, Bool.and_eq_true] at hp hpl ⊢
        exact ⟨hpl.1, hp.2⟩
      rw [if_pos hp, if_pos hp2, renX_sz]
      split at h4
      · rename_i hs
        rw [if_pos hs, if_pos hs]
        split at h4
        · rename_i hu
          have hu' := hu
          rw [Bool.and_eq_true] at hu'
          have hu2 : (suit ((lessSc x V).pl (x.F.st n)) (x.F.bk n) (ren1 V (x.F.bk n) (x.F.bn n)) (renX V (x.F.bt n)) && allB (suit ((lessSc x V).pl (x.F.st n))) (renX V (x.F.bt n))) = true := by
            rw [Bool.and_eq_true]
            exact ⟨suit_less h1 h2 hu'.1, allB_less h2 hu'.2⟩
          rw [if_pos hu, if_pos hu2, renX_len]
          have hrs : (rsT (x.pl (x.F.st n)) (x.F.bk n) (x.F.bn n) (x.F.bt n).len).2 = true := by
            have h5 := hu'.1
            unfold suit at h5
            rw [Bool.and_eq_true] at h5
            exact h5.1
          rw [rs_less h1 hrs]
        · cases h4
      · cases h4
    · cases h4
  rw [key]
  exact hb.2

theorem plOk_less (hok : scOk x = true) (h : Least x V) : plOk ((lessSc x V).pl .nil) = true := by
  have hg := good_of hok
  have hp : plOk (x.pl .nil) = true := by
    simp only [scOk, Bool.and_eq_true] at hok
    exact hok.1.2
  simp only [plOk, Bool.and_eq_true, validL, decide_eq_true_eq] at hp ⊢
  refine ⟨⟨hp.1.1, ?_, allV_of3 fun i hi => ?_⟩, hp.2⟩
  · have h1 : ((lessSc x V).pl .nil).F.len = (lN V x.F.len).length := stsF_len _ _ _
    have h2 := lN_le V x.F.len
    have h3 := hg.funs
    omega
  · have h1 : ((lessSc x V).pl .nil).F.len = (lN V x.F.len).length := stsF_len _ _ _
    have hi' : i < (lessSc x V).F.len := by rw [h1] at hi; exact hi
    show ((stsF (lessSc x V).F 0 (lessSc x V).F.len).get i).valid = true
    rw [stsF_get _ _ _ _ hi', Nat.zero_add]
    obtain ⟨n, hn, _, _, e⟩ := less_at h hi'
    show (x.F.st ((lN V x.F.len).getD i 0)).valid = true
    rw [e]
    exact hg.sort n hn

theorem scOk_less (hok : scOk x = true) (h : Least x V) : scOk (lessSc x V) = true := by
  have hg := good_of hok
  obtain ⟨z1, z2⟩ := less_zero h hg.some
  have hpl := plOk_less hok h
  have h64 : (lessSc x V).F.len ≤ 64 := Nat.le_trans (lN_le V x.F.len) hg.funs
  have hd : distF (lessSc x V).F = true := by
    have hdx : distF x.F = true := by
      simp only [scOk, Bool.and_eq_true] at hok
      exact hok.1.1.1.2
    unfold distF
    refine symFrom_of _ _ _ fun j _ hj => ?_
    rw [Nat.zero_add] at hj
    have hj' : j < (lessSc x V).F.len := hj
    obtain ⟨n, hn, hV, hr, e⟩ := less_at h hj'
    have hx := symFrom_at x.F.sy x.F.len 0 hdx n (Nat.zero_le _) (by omega)
    rw [symOk_sy] at hx ⊢
    rw [Bool.and_eq_true, Bool.not_eq_true'] at hx ⊢
    refine ⟨by show nm (x.F.nm ((lN V x.F.len).getD j 0)) = true; rw [e]; exact hx.1, ?_⟩
    unfold dup
    rw [List.any_eq_false]
    intro i hi
    have hij : i < j := List.mem_range.1 hi
    obtain ⟨n', hn', hV', hr', e'⟩ := less_at h (show i < (lessSc x V).F.len by omega)
    show ¬ decide (x.F.nm ((lN V x.F.len).getD i 0) = x.F.nm ((lN V x.F.len).getD j 0)) = true
    rw [e, e', decide_eq_true_eq]
    intro he
    have hne : n ≠ n' := by
      rintro rfl
      omega
    rcases Nat.lt_or_gt_of_ne hne with hlt | hlt
    · have hx' := symFrom_at x.F.sy x.F.len 0 hdx n' (Nat.zero_le _) (by omega)
      rw [symOk_sy, Bool.and_eq_true, Bool.not_eq_true'] at hx'
      have h2 := hx'.2
      unfold dup at h2
      rw [List.any_eq_false] at h2
      have := h2 n (List.mem_range.2 hlt)
      rw [decide_eq_true_eq] at this
      exact this he.symm
    · have h2 := hx.2
      unfold dup at h2
      rw [List.any_eq_false] at h2
      have := h2 n' (List.mem_range.2 hlt)
      rw [decide_eq_true_eq] at this
      exact this he
  have hst : ((lessSc x V).F.st 0).len = 0 := by
    show (x.F.st ((lN V x.F.len).getD 0 0)).len = 0
    rw [z1]
    exact (scOk_start hok).1
  simp only [scOk, Bool.and_eq_true, Bool.not_eq_true', decide_eq_false_iff_not]
  exact ⟨⟨⟨⟨⟨by omega, by omega⟩, hd⟩, by omega⟩, hpl⟩, bodiesOk_of3 _ _ _ fun j _ hj => bodyOk_less hok h hpl (by omega)⟩

theorem ordF_le (F : Fu) : ∀ (m i acc b : Nat), ordF F i m acc ≤ b ↔ acc ≤ b ∧ ∀ j, i ≤ j → j < i + m → (F.st j).oN ≤ b := by
  intro m
  induction m with
  | zero => intro i acc b; exact ⟨fun h => ⟨h, fun j h1 h2 => by omega⟩, fun h => h.1⟩
  | succ m ih =>
    intro i acc b
    simp only [ordF]
    rw [ih]
    constructor
    · rintro ⟨h1, h2⟩
      refine ⟨by omega, fun j h3 h4 => ?_⟩
      by_cases e : j = i
      · subst e; omega
      · exact h2 j (by omega) (by omega)
    · rintro ⟨h1, h2⟩
      have := h2 i (Nat.le_refl _) (by omega)
      exact ⟨by omega, fun j h3 h4 => h2 j (by omega) (by omega)⟩

theorem ordN_less (hok : scOk x = true) (h : Least x V) : (lessSc x V).ordN ≤ x.ordN := by
  unfold Sc.ordN
  rw [if_pos hok, if_pos (scOk_less hok h)]
  rw [ordF_le]
  have hx := (ordF_le x.F x.F.len 0 0 (ordF x.F 0 x.F.len 0)).1 (Nat.le_refl _)
  refine ⟨Nat.zero_le _, fun j _ hj => ?_⟩
  rw [Nat.zero_add] at hj
  obtain ⟨n, hn, _, _, e⟩ := less_at h hj
  show (x.F.st ((lN V x.F.len).getD j 0)).oN ≤ _
  rw [e]
  exact hx.2 n (Nat.zero_le _) (by omega)

theorem callX_less {k : Nat} (hk : V k = true) : ∀ {a : X}, callX k a = true → callX (rkV V k) (renX V a) = true := by
  intro a
  induction a with
  | nil => intro h; cases h
  | cons c n a r iha ihr =>
    intro h
    simp only [callX, Bool.or_eq_true, Bool.and_eq_true, decide_eq_true_eq] at h
    simp only [renX, callX, Bool.or_eq_true, Bool.and_eq_true, decide_eq_true_eq]
    rcases h with ⟨h1, h2⟩ | h | h
    · refine Or.inl ⟨h1, ?_⟩
      subst h1 h2
      unfold ren1 toI
      rw [if_pos rfl, Int.toNat_natCast, if_pos hk]
    · exact Or.inr (Or.inl (iha h))
    · exact Or.inr (Or.inr (ihr h))

theorem callB_less (h : Least x V) {i k : Nat} (hi : i < x.F.len) (hV : V i = true) (hk : V k = true) (hc : callB x i k = true) : callB (lessSc x V) (rkV V i) (rkV V k) = true := by
  have e : (lN V x.F.len).getD (rkV V i) 0 = i := by rw [List.getD_eq_getElem?_getD, lN_at hi hV]; rfl
  show call1 (rkV V k) (x.F.bk ((lN V x.F.len).getD (rkV V i) 0)) (ren1 V (x.F.bk ((lN V x.F.len).getD (rkV V i) 0)) (x.F.bn ((lN V x.F.len).getD (rkV V i) 0))) (renX V (x.F.bt ((lN V x.F.len).getD (rkV V i) 0))) = true
  rw [e]
  unfold callB call1 at hc
  unfold call1
  simp only [Bool.or_eq_true, Bool.and_eq_true, decide_eq_true_eq] at hc ⊢
  rcases hc with ⟨h1, h2⟩ | hc
  · refine Or.inl ⟨h1, ?_⟩
    rw [h1, h2]
    unfold ren1 toI
    rw [if_pos rfl, Int.toNat_natCast, if_pos hk]
  · exact Or.inr (callX_less hk hc)

theorem least_less (h : Least x V) : Least (lessSc x V) (fun _ => true) := by
  refine ⟨rfl, fun _ _ _ _ _ => rfl, fun P hP h0 i hi _ => ?_⟩
  obtain ⟨n, hn, hV, hr, _⟩ := less_at h hi
  have key := h.least (fun n => n < x.F.len → V n = true ∧ P (rkV V n)) (fun a c ha hPa hc hcl => ?_) (fun _ => ⟨h.start, h0⟩) n hn hV hn
  · rw [← hr]; exact key.2
  · obtain ⟨p1, p2⟩ := hPa ha
    have hVc := h.closed a c ha p1 hc
    exact ⟨hVc, hP (rkV V a) (rkV V c) (lN_lt ha p1) p2 (callB_less h ha p1 hVc hc)⟩

/-- the smaller scheme needs all of its functions -/
theorem rchL_less (hok : scOk x = true) (h : Least x V) : (rchL (lessSc x V)).length = (lN V x.F.len).length := by
  rw [← rchL_of (scOk_less hok h) (least_less h)]
  unfold visL
  rw [List.length_map, List.filter_eq_self.2 (fun _ _ => rfl), List.length_range]
  rfl

end

end Go.Proofs.YtjkcopgfcafpeaaGreatDoor

/-
  The walk of renamed: it makes the term anew, its functions renamed. Conditions: at most 100000 nodes, the functions' numbers within the table.
-/
set_option linter.unusedSimpArgs false
set_option linter.unusedVariables false
namespace Go.Proofs.YtjkcopgfcafpeaaGreatDoor
open Go.RowKit

/-- the table of new numbers -/
def ToI (w : World) (tb m : Nat) (V : Nat → Bool) : Prop := ∀ i, i < m → w.cell? ⟨tb, i, none⟩ = some (.int .i64 (toI V (i : Int)))

theorem ToI.below {w w' : World} {tb m : Nat} {V : Nat → Bool} (h : ToI w tb m V) (hb : Below w.heap.size w w') : ToI w' tb m V := fun i hi => ((bcell hb).1 _ _ (lt_of_cell (h i hi))).trans (h i hi)

/-- a head whose function stands in the table -/
def numsOk (m : Nat) (k n : Int) : Prop := k = 1 → 0 ≤ n ∧ n < (m : Int)

def numsX (m : Nat) : X → Prop
  | .nil => True
  | .cons k n a r => numsOk m k n ∧ numsX m a ∧ numsX m r

theorem numsX_at {m : Nat} : ∀ {a : X} {j : Nat}, numsX m a → j < a.len → numsOk m (a.gk j) (a.gn j) ∧ numsX m (a.ga j) := by
  intro a
  induction a with
  | nil => intro j _ h; exact absurd h (Nat.not_lt_zero _)
  | cons k n a r _ ihr =>
    intro j h hj
    cases j with
    | zero => exact ⟨h.1, h.2.1⟩
    | succ j => exact ihr h.2.2 (by simp only [X.len] at hj; omega)

set_option maxRecDepth 100000 in
set_option maxHeartbeats 4000000 in
theorem srename_any (V : Nat → Bool) (m tb : Nat) (N : Nat) : ∀ (a : X) (k n : Int) (w : World) (p : Option Addr) (l cap : Nat), a.sz < N → a.sz < 100000 → ToI w tb m V → m ≤ 64 → numsOk m k n → numsX m a → IsX w a p l cap →
    Calls Tryz.prog 33 #[.agg #[.int .i64 k, .int .i64 n, .slice p l cap], .slice (some ⟨tb, 0, none⟩) m m] w (Made k (ren1 V k n) (renX V a) w) := by
  obtain ⟨i0, hi0, hz0, hz1', hz2⟩ := info_parts infoX
  induction N with
  | zero => intro a k n w p l cap hN; omega
  | succ N ih =>
    intro a k n w p l cap hN h60 hto hm64 hk1 hkx his
    have hlen := a.len_le_sz
    obtain ⟨hn, hcap, hmax, hnil, hrow⟩ := his
    subst hn
    have hn60 : a.len < 100000 := by omega
    have IH := Lib.hid ih
    clear ih
    obtain ⟨n', hn'⟩ : ∃ n', ren1 V k n = n' := ⟨_, rfl⟩
    obtain ⟨A, hA⟩ : ∃ A, renX V a = A := ⟨_, rfl⟩
    rw [hn', hA]
    have HA := Lib.hid hA
    clear hA
    have HTO := Lib.hid fun W (hb : Below w.heap.size w W) => hto.below hb
    have hkr : (k = 1 ∧ ∃ i : Nat, n = (i : Int) ∧ i < m ∧ w.cell? ⟨tb, i, none⟩ = some (.int .i64 n')) ∨ (k ≠ 1 ∧ n = n') := by
      by_cases hk : k = 1
      · subst hk
        obtain ⟨h0, h1⟩ := hk1 rfl
        refine Or.inl ⟨rfl, n.toNat, by omega, by omega, ?_⟩
        rw [hto n.toNat (by omega), ← hn', show ((n.toNat : Nat) : Int) = n by omega]
        unfold ren1
        rw [if_pos rfl]
      · refine Or.inr ⟨hk, ?_⟩
        rw [← hn']
        unfold ren1
        rw [if_neg hk]
    have HN := Lib.hid hn'
    clear hto hk1 hn'
    rcases hkr with ⟨rfl, ix, rfl, him, htc⟩ | ⟨hk, rfl⟩
    · have htl := lt_of_cell htc
      have htc3 := fun x y z => (keep3 w x y z tb ix htl).trans htc
      have him2 : (ix : Int) < (m : Int) := by omega
      have hmm : m ≤ 64 := hm64
      go_enter Tryz.func33, Tryz.ntmps33
      go_wp2_with fail
      go_loopw [25] (fun i wr => ∃ (j : Nat) (y : X) (q : Option Addr) (c : Nat), j ≤ a.len ∧ i = .int .i64 (j : Int) ∧ y.app (renX V (a.drop j)) = renX V a ∧ GotX wr 50 y (.slice q y.len c) (w.heap.size + 3) ∧
          wr.heap[w.heap.size + 2]? = some (.cells #[.int .i64 1, .int .i64 n', .slice q y.len c] 50 (0, 0)) ∧
          Below (w.heap.size + 2) ((w.alloc (.cells #[.int .i64 1, .int .i64 (ix : Int), .slice p a.len cap] 50)).alloc (.cells #[.int .i64 0, .int .i64 0, .slice none 0 0] 50)) wr)
        (fun i _ => a.len - (intOf i).toNat)
      case atStart =>
        have h1 := heap_new ((w.alloc (.cells #[.int .i64 1, .int .i64 (ix : Int), .slice p a.len cap] 50)).alloc (.cells #[.int .i64 0, .int .i64 0, .slice none 0 0] 50)) (.cells #[.int .i64 1, .int .i64 n', .slice none 0 0] 50)
        simp only [World.size_alloc] at h1
        exact ⟨0, .nil, none, 0, Nat.zero_le _, rfl, by rw [X.drop_zero]; rfl, GotX.start (World.ownsRow_nil _ _ _ _) (by simp), h1, (Below.refl _ _).alloc (by simp) _⟩
      case round =>
        obtain ⟨j, y, q, c, hj, rfl, hy, hgot, hout, hb⟩ := hrel
        have hyl : y.len = j := by
          have := congrArg X.len hy
          rw [X.len_app, renX_len, renX_len, X.len_drop] at this
          omega
        have HY := Lib.hid hy
        have HG := Lib.hid hgot
        have HYL := Lib.hid hyl
        have HOut := Lib.hid hout
        obtain ⟨ho1, ho2, ho3⟩ := box3_cells hout
        obtain ⟨fo1, fo2, fo3⟩ := free3 hout
        have hlo := lt_of_block hout
        obtain ⟨bt1, bt2⟩ := box_two1 hb
        obtain ⟨y1, y2, y3⟩ := box3_cells bt1
        obtain ⟨z1, z2, z3⟩ := box3_cells bt2
        obtain ⟨fz1, fz2, fz3⟩ := free3 bt2
        clear hgot hout hy hyl bt1 bt2
        by_cases hlt : j < a.len
        · clear z1 z2 z3 fz1 fz2 fz3
          rcases hrow with h0 | ⟨b, off, rfl, hr⟩
          · omega
          obtain ⟨hck, hcn, p', nn, cap', hc, hi⟩ := base3_at (keeps3_two hb) hr hlt
          have hg := a.sz_ga j hlt
          have hkj := numsX_at hkx hlt
          have HB7 := Lib.hid fun o => ((below_two hb).trans (((Below.refl wr.heap.size wr).alloc (Nat.le_refl _) o).mono (below_two hb).size) : Below w.heap.size w (wr.alloc o))
          obtain ⟨xs, hown, hkids⟩ := HG.out
          have hmx : y.len + 1 ≤ maxLen := by have := HYL.out; simp only [maxLen]; omega
          have hby : (y.len + 1) * 40 ≤ 140737488355328 := by have := HYL.out; omega
          have hz := hb.size
          simp only [World.size_alloc] at hz
          have ok : ∀ (w1 w3 : World) (Y : Obj), Below (wr.alloc (.cells #[.int .i64 (a.gk j), .int .i64 (a.gn j), .slice p' nn cap'] 50)).drew.heap.size (wr.alloc (.cells #[.int .i64 (a.gk j), .int .i64 (a.gn j), .slice p' nn cap'] 50)).drew w1 → (w1.alloc Y).grownBy w3 (Value.slice q y.len c).ownBlock →
              w3.heap[w.heap.size + 2]? = some (.cells #[.int .i64 1, .int .i64 n', .slice q y.len c] 50 (0, 0)) :=
            fun w1 w3 Y h1 h2 => out_kept (B := w.heap.size + 3) hlo HOut.out (by omega) h1 hown.lt h2
          have OK := Lib.hid ok
          clear ok y1 y2 y3
          go_upto_region 7 with fail
          go_region_law (first
            | (go_simp; go_at_call 33; refine (IH.out (a.ga j) _ _ _ p' nn cap' (by omega) (by omega) ?_ hm64 hkj.1 hkj.2 ?_).mono ?_; exact HTO.out _ (HB7.out _).drew; exact (hi.alloc _).drew; rintro e w1 ⟨q1, c1, rfl, hO, hb1⟩;
               have hownA := fun o => (ownsRow_later ((hown.alloc _).drew) hb1).alloc o; have hz1 := hb1.size; simp at hz1; have hz2' : w.heap.size + 3 ≤ w1.heap.size := (by omega); have ca := box3_cells (call_kept hlo HOut.out hb1); obtain ⟨ca1, ca2, ca3⟩ := ca; have cb := free3 (call_kept hlo HOut.out hb1); obtain ⟨cb1, cb2, cb3⟩ := cb; have oc3 := fun o => (box3_cells (alloc_kept (call_kept hlo HOut.out hb1) o)).2.2; have oc4 : w.heap.size + 1 + 1 < w1.heap.size := (by omega))
            | (refine step_append_lies (w1.alloc (.cells #[.int .i64 (a.gk j), .int .i64 (ren1 V (a.gk j) (a.gn j)), .slice q1 (renX V (a.ga j)).len c1] 50)) rfl (.tmp 30) (.tmp 34) 48 rfl (w.heap.size + 3) 50 i0 (.agg #[.int .i64 0, .int .i64 0, .slice none 0 0]) 3 40 ?_ ?_ ?_ ?_ ?_ ?_ ?_ (.slice q y.len c) y.len xs ?_ ?_ ⟨w1.heap.size, 0, none⟩ 1 1 [.int .i64 (a.gk j), .int .i64 (ren1 V (a.gk j) (a.gn j)), .slice q1 (renX V (a.ga j)).len c1] ?_ ?_ ?_ ?_ ?_ ?_ ?_ ?_ (w1.heap.size+1) ?_ ?_; exact Tryz.underlying48; exact hi0; exact hz0; exact hz1'; exact hz2; rfl; exact (by decide); rfl; exact hownA _; rfl; rfl; exact World.news_of_block (heap_new _ _); exact one_three _ _ _ _ _; exact Nat.one_pos; exact hmx; exact hby; exact base_le _ hz2'; exact size_new _ _; intro g cp w3 hown3 hgrow hat hglt; have hh3 := OK.out _ _ _ hb1 hgrow; obtain ⟨o1, o2, o3⟩ := box3_cells hh3; obtain ⟨o4, o5, o6⟩ := free3 hh3))
          all_goals go_wp2_with fail
          all_goals
            have hy' : (y.snoc (a.gk j) (ren1 V (a.gk j) (a.gn j)) (renX V (a.ga j))).app (renX V (a.drop (j + 1))) = renX V a := by
              have h := HY.out
              rw [X.drop_cons a j hlt] at h
              rw [X.snoc_app]
              exact h
            have hl' : (y.snoc (a.gk j) (ren1 V (a.gk j) (a.gn j)) (renX V (a.ga j))).len = y.len + 1 := X.len_snoc _ _ _ _
            have HL := Lib.hid hl'
            clear hl'
            go_roundw
            case rel => exact ⟨j + 1, _, some ⟨g, 0, none⟩, cp, by omega, by go_num, hy', by rw [HL.out]; exact (GotX.round' (wx := (wr.alloc (.cells #[.int .i64 (a.gk j), .int .i64 (a.gn j), .slice p' nn cap'] 50)).drew) hown hkids (fun j hj => Below.heap_alloc wr _ j hj) (by simp) hb1 hO hown3 hgrow hat).set (Nat.lt_succ_self _) _, by rw [HL.out]; exact field_set hh3, (below_collect hb hz hb1 (by omega) hown.lt hgrow).setCell (Nat.le_refl _) _⟩
            case measure => simp [intOf]; omega
        · obtain rfl : y = A := by
            have h := HY.out
            rw [X.drop_end a j (by omega), HA.out] at h
            exact (X.app_nil y).symm.trans h
          clear HY y1 y2 y3
          go_wp2_with fail
          obtain ⟨q', c', he, hO⟩ := HG.out.finish
          obtain ⟨rfl, rfl⟩ : q = q' ∧ c = c' := by simpa using he
          refine bodyPost_ret (v := .agg #[.int .i64 1, .int .i64 n', .slice q y.len c]) (by simp [results, Tryz.results33, go_sem, z1, z2, z3]) rfl ⟨q, c, rfl, ?_, below_set3 _ _ _ (below_two hb) (by omega)⟩
          exact OwnX.set3 _ _ _ (lo := w.heap.size + 3) hO (by omega) (by omega)
    · have hd : (k == 1) = false := by simpa using hk
      go_enter Tryz.func33, Tryz.ntmps33
      go_wp2_with fail
      go_loopw [25] (fun i wr => ∃ (j : Nat) (y : X) (q : Option Addr) (c : Nat), j ≤ a.len ∧ i = .int .i64 (j : Int) ∧ y.app (renX V (a.drop j)) = renX V a ∧ GotX wr 50 y (.slice q y.len c) (w.heap.size + 3) ∧
          wr.heap[w.heap.size + 2]? = some (.cells #[.int .i64 k, .int .i64 n, .slice q y.len c] 50 (0, 0)) ∧
          Below (w.heap.size + 2) ((w.alloc (.cells #[.int .i64 k, .int .i64 n, .slice p a.len cap] 50)).alloc (.cells #[.int .i64 0, .int .i64 0, .slice none 0 0] 50)) wr)
        (fun i _ => a.len - (intOf i).toNat)
      case atStart =>
        have h1 := heap_new ((w.alloc (.cells #[.int .i64 k, .int .i64 n, .slice p a.len cap] 50)).alloc (.cells #[.int .i64 0, .int .i64 0, .slice none 0 0] 50)) (.cells #[.int .i64 k, .int .i64 n, .slice none 0 0] 50)
        simp only [World.size_alloc] at h1
        exact ⟨0, .nil, none, 0, Nat.zero_le _, rfl, by rw [X.drop_zero]; rfl, GotX.start (World.ownsRow_nil _ _ _ _) (by simp), h1, (Below.refl _ _).alloc (by simp) _⟩
      case round =>
        obtain ⟨j, y, q, c, hj, rfl, hy, hgot, hout, hb⟩ := hrel
        have hyl : y.len = j := by
          have := congrArg X.len hy
          rw [X.len_app, renX_len, renX_len, X.len_drop] at this
          omega
        have HY := Lib.hid hy
        have HG := Lib.hid hgot
        have HYL := Lib.hid hyl
        have HOut := Lib.hid hout
        obtain ⟨ho1, ho2, ho3⟩ := box3_cells hout
        obtain ⟨fo1, fo2, fo3⟩ := free3 hout
        have hlo := lt_of_block hout
        obtain ⟨bt1, bt2⟩ := box_two1 hb
        obtain ⟨y1, y2, y3⟩ := box3_cells bt1
        obtain ⟨z1, z2, z3⟩ := box3_cells bt2
        obtain ⟨fz1, fz2, fz3⟩ := free3 bt2
        clear hgot hout hy hyl bt1 bt2
        by_cases hlt : j < a.len
        · clear z1 z2 z3 fz1 fz2 fz3
          rcases hrow with h0 | ⟨b, off, rfl, hr⟩
          · omega
          obtain ⟨hck, hcn, p', nn, cap', hc, hi⟩ := base3_at (keeps3_two hb) hr hlt
          have hg := a.sz_ga j hlt
          have hkj := numsX_at hkx hlt
          have HB7 := Lib.hid fun o => ((below_two hb).trans (((Below.refl wr.heap.size wr).alloc (Nat.le_refl _) o).mono (below_two hb).size) : Below w.heap.size w (wr.alloc o))
          obtain ⟨xs, hown, hkids⟩ := HG.out
          have hmx : y.len + 1 ≤ maxLen := by have := HYL.out; simp only [maxLen]; omega
          have hby : (y.len + 1) * 40 ≤ 140737488355328 := by have := HYL.out; omega
          have hz := hb.size
          simp only [World.size_alloc] at hz
          have ok : ∀ (w1 w3 : World) (Y : Obj), Below (wr.alloc (.cells #[.int .i64 (a.gk j), .int .i64 (a.gn j), .slice p' nn cap'] 50)).drew.heap.size (wr.alloc (.cells #[.int .i64 (a.gk j), .int .i64 (a.gn j), .slice p' nn cap'] 50)).drew w1 → (w1.alloc Y).grownBy w3 (Value.slice q y.len c).ownBlock →
              w3.heap[w.heap.size + 2]? = some (.cells #[.int .i64 k, .int .i64 n, .slice q y.len c] 50 (0, 0)) :=
            fun w1 w3 Y h1 h2 => out_kept (B := w.heap.size + 3) hlo HOut.out (by omega) h1 hown.lt h2
          have OK := Lib.hid ok
          clear ok y1 y2 y3
          go_upto_region 7 with fail
          go_region_law (first
            | (go_simp; go_at_call 33; refine (IH.out (a.ga j) _ _ _ p' nn cap' (by omega) (by omega) ?_ hm64 hkj.1 hkj.2 ?_).mono ?_; exact HTO.out _ (HB7.out _).drew; exact (hi.alloc _).drew; rintro e w1 ⟨q1, c1, rfl, hO, hb1⟩;
               have hownA := fun o => (ownsRow_later ((hown.alloc _).drew) hb1).alloc o; have hz1 := hb1.size; simp at hz1; have hz2' : w.heap.size + 3 ≤ w1.heap.size := (by omega); have ca := box3_cells (call_kept hlo HOut.out hb1); obtain ⟨ca1, ca2, ca3⟩ := ca; have cb := free3 (call_kept hlo HOut.out hb1); obtain ⟨cb1, cb2, cb3⟩ := cb; have oc3 := fun o => (box3_cells (alloc_kept (call_kept hlo HOut.out hb1) o)).2.2; have oc4 : w.heap.size + 1 + 1 < w1.heap.size := (by omega))
            | (refine step_append_lies (w1.alloc (.cells #[.int .i64 (a.gk j), .int .i64 (ren1 V (a.gk j) (a.gn j)), .slice q1 (renX V (a.ga j)).len c1] 50)) rfl (.tmp 30) (.tmp 34) 48 rfl (w.heap.size + 3) 50 i0 (.agg #[.int .i64 0, .int .i64 0, .slice none 0 0]) 3 40 ?_ ?_ ?_ ?_ ?_ ?_ ?_ (.slice q y.len c) y.len xs ?_ ?_ ⟨w1.heap.size, 0, none⟩ 1 1 [.int .i64 (a.gk j), .int .i64 (ren1 V (a.gk j) (a.gn j)), .slice q1 (renX V (a.ga j)).len c1] ?_ ?_ ?_ ?_ ?_ ?_ ?_ ?_ (w1.heap.size+1) ?_ ?_; exact Tryz.underlying48; exact hi0; exact hz0; exact hz1'; exact hz2; rfl; exact (by decide); rfl; exact hownA _; rfl; rfl; exact World.news_of_block (heap_new _ _); exact one_three _ _ _ _ _; exact Nat.one_pos; exact hmx; exact hby; exact base_le _ hz2'; exact size_new _ _; intro g cp w3 hown3 hgrow hat hglt; have hh3 := OK.out _ _ _ hb1 hgrow; obtain ⟨o1, o2, o3⟩ := box3_cells hh3; obtain ⟨o4, o5, o6⟩ := free3 hh3))
          all_goals go_wp2_with fail
          all_goals
            have hy' : (y.snoc (a.gk j) (ren1 V (a.gk j) (a.gn j)) (renX V (a.ga j))).app (renX V (a.drop (j + 1))) = renX V a := by
              have h := HY.out
              rw [X.drop_cons a j hlt] at h
              rw [X.snoc_app]
              exact h
            have hl' : (y.snoc (a.gk j) (ren1 V (a.gk j) (a.gn j)) (renX V (a.ga j))).len = y.len + 1 := X.len_snoc _ _ _ _
            have HL := Lib.hid hl'
            clear hl'
            go_roundw
            case rel => exact ⟨j + 1, _, some ⟨g, 0, none⟩, cp, by omega, by go_num, hy', by rw [HL.out]; exact (GotX.round' (wx := (wr.alloc (.cells #[.int .i64 (a.gk j), .int .i64 (a.gn j), .slice p' nn cap'] 50)).drew) hown hkids (fun j hj => Below.heap_alloc wr _ j hj) (by simp) hb1 hO hown3 hgrow hat).set (Nat.lt_succ_self _) _, by rw [HL.out]; exact field_set hh3, (below_collect hb hz hb1 (by omega) hown.lt hgrow).setCell (Nat.le_refl _) _⟩
            case measure => simp [intOf]; omega
        · obtain rfl : y = A := by
            have h := HY.out
            rw [X.drop_end a j (by omega), HA.out] at h
            exact (X.app_nil y).symm.trans h
          clear HY y1 y2 y3
          go_wp2_with fail
          obtain ⟨q', c', he, hO⟩ := HG.out.finish
          obtain ⟨rfl, rfl⟩ : q = q' ∧ c = c' := by simpa using he
          refine bodyPost_ret (v := .agg #[.int .i64 k, .int .i64 n, .slice q y.len c]) (by simp [results, Tryz.results33, go_sem, z1, z2, z3]) rfl ⟨q, c, rfl, ?_, below_set3 _ _ _ (below_two hb) (by omega)⟩
          exact OwnX.set3 _ _ _ (lo := w.heap.size + 3) hO (by omega) (by omega)

end Go.Proofs.YtjkcopgfcafpeaaGreatDoor

/-
  What the reference's names holds in memory: three rows of its own, two of them in a scheme's box, and what they lead to. Conditions: none.
-/
set_option linter.unusedSimpArgs false
set_option linter.unusedVariables false
namespace Go.Proofs.YtjkcopgfcafpeaaGreatDoor
open Go.RowKit Go.Maps

def inV (ns : List Int) : List Value := ns.map fun n => .int .i64 n

/-- symbols, functions without bodies, and places of bodies; the scheme's box is older than its rows -/
structure NS (w : World) (B : Nat) (p : Pos) (sy : List (ByteArray × Int)) (L : List FL) (ns : List Int) : Prop where
  box : w.heap[p.D]? = some (.cells #[.slice p.ps sy.length p.cs, .slice p.pf L.length p.cf] 25 (0, 0))
  rowS : w.ownsRow B 64 2 (.slice p.ps sy.length p.cs) sy.length (syV sy)
  rowB : w.ownsRow B 3 1 (.slice p.pb ns.length p.cb) ns.length (inV ns)
  rowF : ∃ vs, w.ownsRow B 52 5 (.slice p.pf L.length p.cf) L.length vs ∧ ∀ i, i < L.length → FnAt w B p (fuSc L []) i vs
  m1 : p.m1 = p.D
  m2 : p.m2 = p.D
  hD : p.D + 1 = B

section
variable {w w' : World} {B : Nat} {p : Pos} {sy : List (ByteArray × Int)} {L : List FL} {ns : List Int}

theorem NS.lt (h : NS w B p sy L ns) {g : Nat} (hg : p.mut g) : g < w.heap.size ∧ (g = p.D ∨ B ≤ g) := by
  obtain ⟨vs, hF, _⟩ := h.rowF
  have hD := lt_of_block h.box
  rcases hg with e | e | e | e | e | e
  · exact ⟨e ▸ hD, Or.inl e⟩
  · rw [h.m1] at e; exact ⟨e ▸ hD, Or.inl e⟩
  · rw [h.m2] at e; exact ⟨e ▸ hD, Or.inl e⟩
  · obtain ⟨_, a, c⟩ := ownsRow_block h.rowS e; exact ⟨lt_of_block a, Or.inr c⟩
  · obtain ⟨_, a, c⟩ := ownsRow_block hF e; exact ⟨lt_of_block a, Or.inr c⟩
  · obtain ⟨_, a, c⟩ := ownsRow_block h.rowB e; exact ⟨lt_of_block a, Or.inr c⟩

/-- the box is in none of the rows, and no two rows share a block -/
theorem NS.boxes (h : NS w B p sy L ns) : (Value.slice p.ps 0 0).ownBlock ≠ some p.D ∧ (Value.slice p.pf 0 0).ownBlock ≠ some p.D ∧ (Value.slice p.pb 0 0).ownBlock ≠ some p.D ∧
    (∀ g, (Value.slice p.ps 0 0).ownBlock = some g → (Value.slice p.pf 0 0).ownBlock ≠ some g ∧ (Value.slice p.pb 0 0).ownBlock ≠ some g) ∧ (∀ g, (Value.slice p.pf 0 0).ownBlock = some g → (Value.slice p.pb 0 0).ownBlock ≠ some g) := by
  obtain ⟨vs, hF, _⟩ := h.rowF
  have hS := fun g (e : (Value.slice p.ps 0 0).ownBlock = some g) => ownsRow_block h.rowS e
  have hB := fun g (e : (Value.slice p.pb 0 0).ownBlock = some g) => ownsRow_block h.rowB e
  have hF := fun g (e : (Value.slice p.pf 0 0).ownBlock = some g) => ownsRow_block hF e
  have hD := h.hD
  refine ⟨fun e => ?_, fun e => ?_, fun e => ?_, fun g e => ⟨fun e2 => ?_, fun e2 => ?_⟩, fun g e e2 => ?_⟩
  · obtain ⟨_, _, a⟩ := hS _ e; omega
  · obtain ⟨_, _, a⟩ := hF _ e; omega
  · obtain ⟨_, _, a⟩ := hB _ e; omega
  · obtain ⟨_, a, _⟩ := hS _ e
    obtain ⟨_, a2, _⟩ := hF _ e2; rw [a] at a2; injection a2 with a2; injection a2 with _ a2; exact absurd a2 (by decide)
  · obtain ⟨_, a, _⟩ := hS _ e
    obtain ⟨_, a2, _⟩ := hB _ e2; rw [a] at a2; injection a2 with a2; injection a2 with _ a2; exact absurd a2 (by decide)
  · obtain ⟨_, a, _⟩ := hF _ e
    obtain ⟨_, a2, _⟩ := hB _ e2; rw [a] at a2; injection a2 with a2; injection a2 with _ a2; exact absurd a2 (by decide)

theorem NS.keep (h : NS w B p sy L ns) (hk : ∀ k, k < w.heap.size → k = p.D ∨ B ≤ k → w'.heap[k]? = w.heap[k]?) (hs : w.heap.size ≤ w'.heap.size) : NS w' B p sy L ns := by
  have hm : ∀ g, p.mut g → w'.heap[g]? = w.heap[g]? := fun g hg => hk g (h.lt hg).1 (h.lt hg).2
  obtain ⟨vs, hF, hA⟩ := h.rowF
  exact ⟨(hm _ (Or.inl rfl)).trans h.box, ownsRow_far h.rowS fun g e => hm g (Or.inr (Or.inr (Or.inr (Or.inl e)))), ownsRow_far h.rowB fun g e => hm g (Or.inr (Or.inr (Or.inr (Or.inr (Or.inr e))))),
    ⟨vs, ownsRow_far hF fun g e => hm g (Or.inr (Or.inr (Or.inr (Or.inr (Or.inl e))))), fun i hi => (hA i hi).keep (fun k a c _ => hk k c (Or.inr a)) hs fun g hg => Or.inl hg⟩, h.m1, h.m2, h.hD⟩

theorem NS.below (h : NS w B p sy L ns) (hb : Below w.heap.size w w') : NS w' B p sy L ns := h.keep (fun k c _ => hb.block k c) hb.size

theorem NS.alloc (h : NS w B p sy L ns) (x : Obj) : NS (w.alloc x) B p sy L ns := h.below ((Below.refl _ _).alloc (Nat.le_refl _) x)

theorem NS.mutS (h : NS w B p sy L ns) {g : Nat} (hg2 : (Value.slice p.ps 0 0).ownBlock = some g ∨ w.heap.size ≤ g) {cp : Nat} : ∀ k, ({ p with ps := some ⟨g, 0, none⟩, cs := cp } : Pos).mut k → p.mut k ∨ w.heap.size ≤ k := by
  have hne : ∀ k, (Value.slice (some ⟨g, 0, none⟩ : Option Addr) 0 0).ownBlock = some k → k = g := fun k e => by simp [Value.ownBlock] at e; omega
  rintro k (e | e | e | e | e | e)
  · exact Or.inl (Or.inl e)
  · exact Or.inl (Or.inr (Or.inl e))
  · exact Or.inl (Or.inr (Or.inr (Or.inl e)))
  · rw [hne k e]
    rcases hg2 with e2 | e2
    · exact Or.inl (Or.inr (Or.inr (Or.inr (Or.inl e2))))
    · exact Or.inr e2
  · exact Or.inl (Or.inr (Or.inr (Or.inr (Or.inr (Or.inl e)))))
  · exact Or.inl (Or.inr (Or.inr (Or.inr (Or.inr (Or.inr e)))))

theorem NS.mutF (h : NS w B p sy L ns) {g : Nat} (hg2 : (Value.slice p.pf 0 0).ownBlock = some g ∨ w.heap.size ≤ g) {cp : Nat} : ∀ k, ({ p with pf := some ⟨g, 0, none⟩, cf := cp } : Pos).mut k → p.mut k ∨ w.heap.size ≤ k := by
  have hne : ∀ k, (Value.slice (some ⟨g, 0, none⟩ : Option Addr) 0 0).ownBlock = some k → k = g := fun k e => by simp [Value.ownBlock] at e; omega
  rintro k (e | e | e | e | e | e)
  · exact Or.inl (Or.inl e)
  · exact Or.inl (Or.inr (Or.inl e))
  · exact Or.inl (Or.inr (Or.inr (Or.inl e)))
  · exact Or.inl (Or.inr (Or.inr (Or.inr (Or.inl e))))
  · rw [hne k e]
    rcases hg2 with e2 | e2
    · exact Or.inl (Or.inr (Or.inr (Or.inr (Or.inr (Or.inl e2)))))
    · exact Or.inr e2
  · exact Or.inl (Or.inr (Or.inr (Or.inr (Or.inr (Or.inr e)))))

theorem NS.mutB (h : NS w B p sy L ns) {g : Nat} (hg2 : (Value.slice p.pb 0 0).ownBlock = some g ∨ w.heap.size ≤ g) {cp : Nat} : ∀ k, ({ p with pb := some ⟨g, 0, none⟩, cb := cp } : Pos).mut k → p.mut k ∨ w.heap.size ≤ k := by
  have hne : ∀ k, (Value.slice (some ⟨g, 0, none⟩ : Option Addr) 0 0).ownBlock = some k → k = g := fun k e => by simp [Value.ownBlock] at e; omega
  rintro k (e | e | e | e | e | e)
  · exact Or.inl (Or.inl e)
  · exact Or.inl (Or.inr (Or.inl e))
  · exact Or.inl (Or.inr (Or.inr (Or.inl e)))
  · exact Or.inl (Or.inr (Or.inr (Or.inr (Or.inl e))))
  · exact Or.inl (Or.inr (Or.inr (Or.inr (Or.inr (Or.inl e)))))
  · rw [hne k e]
    rcases hg2 with e2 | e2
    · exact Or.inl (Or.inr (Or.inr (Or.inr (Or.inr (Or.inr e2)))))
    · exact Or.inr e2

/-- what an append to a row leaves -/
theorem NS.grow {q : Option Addr} {Y : Obj} {n c : Nat} (hgrow : (w.alloc Y).grownBy w' (Value.slice q n c).ownBlock) :
    ∀ k, k < w.heap.size → (Value.slice q 0 0).ownBlock ≠ some k → w'.heap[k]? = w.heap[k]? := fun k hk hn => by
  rw [hgrow.block k (by simp only [World.size_alloc]; omega) (fun e => hn (by rw [own_same q 0 0 n c]; exact e.symm)), Below.heap_alloc _ _ _ hk]

theorem NS.pushS (h : NS w B p sy L ns) {x : ByteArray × Int} {g cp : Nat} {Y : Obj}
    (hown : w'.ownsRow B 64 2 (.slice (some ⟨g, 0, none⟩) (sy.length + 1) cp) (sy.length + 1) (syV sy ++ [.string x.1, .int .i64 x.2]))
    (hgrow : (w.alloc Y).grownBy w' (Value.slice p.ps sy.length p.cs).ownBlock) (hat : (Value.slice p.ps sy.length p.cs).ownBlock = some g ∨ g = w.heap.size + 1) :
    NS (w'.setCell ⟨p.D, 0, none⟩ (.slice (some ⟨g, 0, none⟩) (sy.length + 1) cp)) B { p with ps := some ⟨g, 0, none⟩, cs := cp } (sy ++ [x]) L ns ∧ w'.heap[p.D]? = w.heap[p.D]? := by
  obtain ⟨vs, hF, hA⟩ := h.rowF
  obtain ⟨b3, b4, b5, b12, b13⟩ := h.boxes
  have hk := NS.grow hgrow
  have hlt := fun g hg => (h.lt (g := g) hg).1
  have hs : w.heap.size ≤ w'.heap.size := by have := hgrow.size; simp only [World.size_alloc] at this; omega
  have hD : w'.heap[p.D]? = w.heap[p.D]? := hk _ (hlt _ (Or.inl rfl)) b3
  have hg2 := grow_at (Y := Y) hat
  have hgD : g ≠ p.D := by
    rintro rfl
    rcases hg2 with e | e
    · exact b3 e
    · have := hlt _ (Or.inl rfl); omega
  have hk2 : ∀ k, k < w.heap.size → (Value.slice p.ps 0 0).ownBlock ≠ some k → k ≠ p.D → (w'.setCell ⟨p.D, 0, none⟩ (.slice (some ⟨g, 0, none⟩) (sy.length + 1) cp)).heap[k]? = w.heap[k]? := fun k a c d => by
    rw [Below.heap_setCell _ _ _ _ d]; exact hk k a c
  have hne : ∀ k, (Value.slice (some ⟨g, 0, none⟩ : Option Addr) 0 0).ownBlock = some k → k = g := fun k e => by simp [Value.ownBlock] at e; omega
  refine ⟨⟨?_, ?_, ownsRow_far h.rowB fun k e => hk2 k (hlt _ (Or.inr (Or.inr (Or.inr (Or.inr (Or.inr e)))))) (fun e2 => (b12 k e2).2 e) (fun e2 => b5 (e2 ▸ e)),
    ⟨vs, ownsRow_far hF fun k e => hk2 k (hlt _ (Or.inr (Or.inr (Or.inr (Or.inr (Or.inl e)))))) (fun e2 => (b12 k e2).1 e) (fun e2 => b4 (e2 ▸ e)), fun i hi => (hA i hi).keep (fun k a c d => hk2 k c (fun e => d (Or.inr (Or.inr (Or.inr (Or.inl e))))) (fun e => d (Or.inl e))) (by simpa [World.setCell] using hs) (h.mutS hg2)⟩, h.m1, h.m2, h.hD⟩, hD⟩
  · rw [List.length_append, List.length_singleton]
    exact six_set (hD.trans h.box)
  · rw [List.length_append, List.length_singleton, ← syV_snoc]
    refine ownsRow_far hown fun k e => Below.heap_setCell _ _ _ _ (by rw [hne k e]; exact hgD)

theorem NS.pushB (h : NS w B p sy L ns) {x : Int} {g cp : Nat} {Y : Obj}
    (hown : w'.ownsRow B 3 1 (.slice (some ⟨g, 0, none⟩) (ns.length + 1) cp) (ns.length + 1) (inV ns ++ [.int .i64 x]))
    (hgrow : (w.alloc Y).grownBy w' (Value.slice p.pb ns.length p.cb).ownBlock) (hat : (Value.slice p.pb ns.length p.cb).ownBlock = some g ∨ g = w.heap.size + 1) :
    NS w' B { p with pb := some ⟨g, 0, none⟩, cb := cp } sy L (ns ++ [x]) := by
  obtain ⟨vs, hF, hA⟩ := h.rowF
  obtain ⟨b3, b4, b5, b12, b13⟩ := h.boxes
  have hk := NS.grow hgrow
  have hlt := fun g hg => (h.lt (g := g) hg).1
  have hs : w.heap.size ≤ w'.heap.size := by have := hgrow.size; simp only [World.size_alloc] at this; omega
  have hD : w'.heap[p.D]? = w.heap[p.D]? := hk _ (hlt _ (Or.inl rfl)) b5
  have hg2 := grow_at (Y := Y) hat
  refine ⟨hD.trans h.box, ownsRow_far h.rowS fun k e => hk k (hlt _ (Or.inr (Or.inr (Or.inr (Or.inl e))))) (fun e2 => (b12 k e).2 e2), ?_,
    ⟨vs, ownsRow_far hF fun k e => hk k (hlt _ (Or.inr (Or.inr (Or.inr (Or.inr (Or.inl e)))))) (fun e2 => b13 k e e2), fun i hi => (hA i hi).keep (fun k a c d => hk k c (fun e => d (Or.inr (Or.inr (Or.inr (Or.inr (Or.inr e))))))) hs (h.mutB hg2)⟩, h.m1, h.m2, h.hD⟩
  rw [List.length_append, List.length_singleton, show inV (ns ++ [x]) = inV ns ++ [.int .i64 x] by simp [inV]]
  exact hown

/-- one more function, whose sort lies in blocks from lo to hi -/
theorem NS.pushF (h : NS w B p sy L ns) {x : FL} {g cp : Nat} {Y : Obj} {q : Option Addr} {c lo hi : Nat} {vs : List Value} (hO : Own w x.st q c lo hi) (hlo : B ≤ lo) (hhi : hi ≤ w.heap.size) (hcl : ∀ g, p.mut g → g < lo ∨ hi ≤ g)
    (hown : w'.ownsRow B 52 5 (.slice (some ⟨g, 0, none⟩) (L.length + 1) cp) (L.length + 1) (vs ++ [.string x.nm, .slice q x.st.len c, .int .i64 0, .int .i64 0, .slice none 0 0]))
    (hF : w.ownsRow B 52 5 (.slice p.pf L.length p.cf) L.length vs) (hA : ∀ i, i < L.length → FnAt w B p (fuSc L []) i vs)
    (hgrow : (w.alloc Y).grownBy w' (Value.slice p.pf L.length p.cf).ownBlock) (hat : (Value.slice p.pf L.length p.cf).ownBlock = some g ∨ g = w.heap.size + 1) :
    NS (w'.setCell ⟨p.D, 1, none⟩ (.slice (some ⟨g, 0, none⟩) (L.length + 1) cp)) B { p with pf := some ⟨g, 0, none⟩, cf := cp } sy (L ++ [x]) ns ∧ w'.heap[p.D]? = w.heap[p.D]? := by
  obtain ⟨b3, b4, b5, b12, b13⟩ := h.boxes
  have hk := NS.grow hgrow
  have hlt := fun g hg => (h.lt (g := g) hg).1
  have hs : w.heap.size ≤ w'.heap.size := by have := hgrow.size; simp only [World.size_alloc] at this; omega
  have hD : w'.heap[p.D]? = w.heap[p.D]? := hk _ (hlt _ (Or.inl rfl)) b4
  have hg2 := grow_at (Y := Y) hat
  have hgD : g ≠ p.D := by
    rintro rfl
    rcases hg2 with e | e
    · exact b4 e
    · have := hlt _ (Or.inl rfl); omega
  have hk2 : ∀ k, k < w.heap.size → (Value.slice p.pf 0 0).ownBlock ≠ some k → k ≠ p.D → (w'.setCell ⟨p.D, 1, none⟩ (.slice (some ⟨g, 0, none⟩) (L.length + 1) cp)).heap[k]? = w.heap[k]? := fun k a c d => by
    rw [Below.heap_setCell _ _ _ _ d]; exact hk k a c
  have hne : ∀ k, (Value.slice (some ⟨g, 0, none⟩ : Option Addr) 0 0).ownBlock = some k → k = g := fun k e => by simp [Value.ownBlock] at e; omega
  have hmut := h.mutF hg2 (cp := cp)
  have hvl : vs.length = L.length * 5 := hF.1
  have hDw := hlt _ (Or.inl rfl)
  refine ⟨⟨?_, ownsRow_far h.rowS fun k e => hk2 k (hlt _ (Or.inr (Or.inr (Or.inr (Or.inl e))))) (fun e2 => (b12 k e).1 e2) (fun e2 => b3 (e2 ▸ e)), ownsRow_far h.rowB fun k e => hk2 k (hlt _ (Or.inr (Or.inr (Or.inr (Or.inr (Or.inr e)))))) (fun e2 => b13 k e2 e) (fun e2 => b5 (e2 ▸ e)),
    ⟨vs ++ [.string x.nm, .slice q x.st.len c, .int .i64 0, .int .i64 0, .slice none 0 0], ?_, ?_⟩, h.m1, h.m2, h.hD⟩, hD⟩
  · rw [List.length_append, List.length_singleton]
    exact six_set (hD.trans h.box)
  · rw [List.length_append, List.length_singleton]
    exact ownsRow_far hown fun k e => Below.heap_setCell _ _ _ _ (by rw [hne k e]; exact hgD)
  · intro i hil0
    rw [List.length_append, List.length_singleton] at hil0
    have hs2 : w.heap.size ≤ (w'.setCell ⟨p.D, 1, none⟩ (.slice (some ⟨g, 0, none⟩) (L.length + 1) cp)).heap.size := by simpa [World.setCell] using hs
    by_cases hil : i < L.length
    · obtain ⟨q', c', lo', hi', r', d', lo2, hi2, h1, h2, h3, h4, h5, h6⟩ := (hA i hil).keep (p' := { p with pf := some ⟨g, 0, none⟩, cf := cp }) (fun k a c d => hk2 k c (fun e => d (Or.inr (Or.inr (Or.inr (Or.inr (Or.inl e)))))) (fun e => d (Or.inl e))) hs2 hmut
      obtain ⟨e1, e2⟩ := fuSc_old (x := x) (b := []) hil
      refine ⟨q', c', lo', hi', r', d', lo2, hi2, ?_, ?_, ?_, ?_, ?_, ?_⟩
      · rw [List.getElem?_append_left (by omega), e1]; exact h1
      · rw [List.getElem?_append_left (by omega), e2]; exact h2
      · rw [List.getElem?_append_left (by omega)]; exact h3
      · rw [List.getElem?_append_left (by omega)]; exact h4
      · rw [List.getElem?_append_left (by omega)]; exact h5
      · rw [e2]; exact h6
    · obtain rfl : i = L.length := by omega
      obtain ⟨e1, e2⟩ := fuSc_new (x := x) (b := []) (L := L)
      refine ⟨q, c, lo, hi, none, 0, B, B, ?_, ?_, ?_, ?_, ?_, ?_, ownX_nil _ _ _, hlo, by omega, Nat.le_refl _, ?_, ?_⟩
      · rw [List.getElem?_append_right (by omega), hvl, Nat.sub_self, e1]; rfl
      · rw [List.getElem?_append_right (by omega), hvl, show L.length * 5 + 1 - L.length * 5 = 1 by omega, e2]; rfl
      · rw [List.getElem?_append_right (by omega), hvl, show L.length * 5 + 2 - L.length * 5 = 2 by omega]; rfl
      · rw [List.getElem?_append_right (by omega), hvl, show L.length * 5 + 3 - L.length * 5 = 3 by omega]; rfl
      · rw [List.getElem?_append_right (by omega), hvl, show L.length * 5 + 4 - L.length * 5 = 4 by omega]; rfl
      · rw [e2]
        exact hO.keep fun k a c' => hk2 k (by omega) (fun e => by have := hcl k (Or.inr (Or.inr (Or.inr (Or.inr (Or.inl e))))); omega) (fun e => by have := hcl k (Or.inl e); omega)
      · have := h.hD
        omega
      · intro k hk3
        rcases hmut k hk3 with e | e
        · exact ⟨hcl k e, by omega⟩
        · exact ⟨Or.inr (by omega), by omega⟩

end

end Go.Proofs.YtjkcopgfcafpeaaGreatDoor

/-
  The frame of the walk of the reference's names: what it leaves, and what its two loops hold. Conditions: none.
-/
set_option linter.unusedSimpArgs false
set_option linter.unusedVariables false
namespace Go.Proofs.YtjkcopgfcafpeaaGreatDoor
open Go.RowKit Go.Maps

/-- where names lays its scheme -/
def nP (w : World) (ps : Option Addr) (cs : Nat) (pf : Option Addr) (cf : Nat) (pb : Option Addr) (cb : Nat) : Pos := ⟨w.heap.size + 1, w.heap.size + 1, w.heap.size + 1, ps, cs, pf, cf, pb, cb⟩

/-- the places of the bodies -/
def PlOk (s : List UInt8) (L : List FL) (ns : List Int) : Prop :=
  ns.length = L.length ∧ ∀ i (h : i < L.length), ∃ (m : Nat) (r : List UInt8), ns[i]? = some (m : Int) ∧ m ≤ s.length ∧ s.drop m = L[i].bd ++ 10 :: r ∧ ∀ c ∈ L[i].bd, c ≠ 10

theorem PlOk.snoc {s : List UInt8} {L : List FL} {ns : List Int} (h : PlOk s L ns) {x : FL} {m : Nat} {r : List UInt8} (hm : m ≤ s.length) (hd : s.drop m = x.bd ++ 10 :: r) (hc : ∀ c ∈ x.bd, c ≠ 10) : PlOk s (L ++ [x]) (ns ++ [(m : Int)]) := by
  obtain ⟨h1, h2⟩ := h
  refine ⟨by simp [h1], fun i hi => ?_⟩
  rw [List.length_append, List.length_singleton] at hi
  by_cases hl : i < L.length
  · obtain ⟨m', r', a, b, c, d⟩ := h2 i hl
    refine ⟨m', r', by rw [List.getElem?_append_left (by omega)]; exact a, b, ?_, ?_⟩
    · rw [List.getElem_append_left hl]; exact c
    · rw [List.getElem_append_left hl]; exact d
  · obtain rfl : i = L.length := by omega
    refine ⟨m, r, by rw [List.getElem?_append_right (by omega), h1, Nat.sub_self]; rfl, hm, ?_, ?_⟩
    · simpa using hd
    · simpa using hc

/-- what names leaves -/
def NamesP (s : List UInt8) (w : World) (e : Ending) (w' : World) : Prop :=
  (∀ sy L, rawL s = some (sy, L) → ∃ ps cs pf cf pb cb ns, e = .returned (.tuple #[.agg #[.slice ps sy.length cs, .slice pf L.length cf], .slice pb ns.length cb, .bool true]) ∧ NS w' (w.heap.size + 2) (nP w ps cs pf cf pb cb) sy L ns ∧ PlOk s L ns) ∧
  (rawL s = none → ∃ sp sn sc fp fn fc bp bn bc, e = .returned (.tuple #[.agg #[.slice sp sn sc, .slice fp fn fc], .slice bp bn bc, .bool false])) ∧ Below w.heap.size w w'

/-- between two lines -/
structure NI (w : World) (ps : Option Addr) (cs : Nat) (pf : Option Addr) (cf : Nat) (pb : Option Addr) (cb : Nat) (sy : List (ByteArray × Int)) (L : List FL) (ns : List Int) (wr : World) : Prop where
  ns : NS wr (w.heap.size + 2) (nP w ps cs pf cf pb cb) sy L ns
  res : wr.heap[w.heap.size]? = some (.cells #[.slice none 0 0, .slice none 0 0] 25 (0, 0))
  bel : Below w.heap.size w wr

section
variable {w wr w' : World} {ps : Option Addr} {cs : Nat} {pf : Option Addr} {cf : Nat} {pb : Option Addr} {cb : Nat} {sy : List (ByteArray × Int)} {L : List FL} {ns : List Int}

theorem NI.ge (h : NI w ps cs pf cf pb cb sy L ns wr) : w.heap.size + 2 ≤ wr.heap.size := lt_of_block h.ns.box

theorem NI.below (h : NI w ps cs pf cf pb cb sy L ns wr) (hb : Below wr.heap.size wr w') : NI w ps cs pf cf pb cb sy L ns w' :=
  ⟨h.ns.below hb, (hb.block _ (lt_of_block h.res)).trans h.res, h.bel.trans (hb.mono h.bel.size)⟩

theorem NI.cells (h : NI w ps cs pf cf pb cb sy L ns wr) : (wr.cell? ⟨w.heap.size + 1, 0, none⟩ = some (.slice ps sy.length cs) ∧ wr.cell? ⟨w.heap.size + 1, 1, none⟩ = some (.slice pf L.length cf)) ∧ wr.frozen? ⟨w.heap.size + 1, 0, none⟩ = false ∧ wr.frozen? ⟨w.heap.size + 1, 1, none⟩ = false := two_box h.ns.box

theorem NI.resc (h : NI w ps cs pf cf pb cb sy L ns wr) : (wr.cell? ⟨w.heap.size, 0, none⟩ = some (.slice none 0 0) ∧ wr.cell? ⟨w.heap.size, 1, none⟩ = some (.slice none 0 0)) ∧ wr.frozen? ⟨w.heap.size, 0, none⟩ = false ∧ wr.frozen? ⟨w.heap.size, 1, none⟩ = false := two_box h.res

theorem NI.start (w : World) : NI w none 0 none 0 none 0 [] [] [] ((w.alloc (.cells #[.slice none 0 0, .slice none 0 0] 25)).alloc (.cells #[.slice none 0 0, .slice none 0 0] 25)) :=
  ⟨⟨heap_new2 _ _ _, World.ownsRow_nil _ _ _ _, World.ownsRow_nil _ _ _ _, ⟨[], World.ownsRow_nil _ _ _ _, fun i hi => absurd hi (Nat.not_lt_zero _)⟩, rfl, rfl, rfl⟩,
    alloc_kept (heap_new w _) _, ((Below.refl _ _).alloc (Nat.le_refl _) _).alloc (by simp) _⟩

/-- where nothing could be read -/
theorem names_bad {s : List UInt8} (h : rawL s = none) (hb : Below w.heap.size w wr) {a b c d e f x y z} (u v : Value) :
    NamesP s w (.returned (.tuple #[.agg #[.slice a b c, .slice d e f], .slice x y z, .bool false])) ((wr.setCell ⟨w.heap.size, 0, none⟩ u).setCell ⟨w.heap.size, 1, none⟩ v) := by
  refine ⟨fun sy L h2 => (by rw [h] at h2; cases h2), fun _ => ⟨_, _, _, _, _, _, _, _, _, rfl⟩, below_set2 hb (Nat.le_refl _) _ _⟩

/-- where all is read -/
theorem names_good {s : List UInt8} (h : rawL s = some (sy, L)) (hn : NI w ps cs pf cf pb cb sy L ns wr) (hp : PlOk s L ns) (u v : Value) :
    NamesP s w (.returned (.tuple #[.agg #[.slice ps sy.length cs, .slice pf L.length cf], .slice pb ns.length cb, .bool true])) ((wr.setCell ⟨w.heap.size, 0, none⟩ u).setCell ⟨w.heap.size, 1, none⟩ v) := by
  refine ⟨fun sy' L' h2 => ?_, fun h2 => (by rw [h] at h2; cases h2), below_set2 hn.bel (Nat.le_refl _) _ _⟩
  rw [h] at h2
  simp only [Option.some.injEq, Prod.mk.injEq] at h2
  obtain ⟨rfl, rfl⟩ := h2
  refine ⟨_, _, _, _, _, _, _, rfl, hn.ns.keep (fun k hk hd => ?_) (by simp [World.setCell]), hp⟩
  have hne : k ≠ w.heap.size := by
    rcases hd with e | e
    · have e' : k = w.heap.size + 1 := e
      omega
    · omega
  rw [Below.heap_setCell _ _ _ _ hne, Below.heap_setCell _ _ _ _ hne]

/-- a symbol more -/
theorem NI.pushS (h : NI w ps cs pf cf pb cb sy L ns wr) {x : ByteArray × Int} {g cp : Nat} {Y : Obj} {w3 : World}
    (hown : w3.ownsRow (w.heap.size + 2) 64 2 (.slice (some ⟨g, 0, none⟩) (sy.length + 1) cp) (sy.length + 1) (syV sy ++ [.string x.1, .int .i64 x.2]))
    (hgrow : (wr.alloc Y).grownBy w3 (Value.slice ps sy.length cs).ownBlock) (hat : (Value.slice ps sy.length cs).ownBlock = some g ∨ g = wr.heap.size + 1) :
    NI w (some ⟨g, 0, none⟩) cp pf cf pb cb (sy ++ [x]) L ns (w3.setCell ⟨w.heap.size + 1, 0, none⟩ (.slice (some ⟨g, 0, none⟩) (sy.length + 1) cp)) ∧ w3.heap[w.heap.size + 1]? = wr.heap[w.heap.size + 1]? := by
  obtain ⟨h1, h2⟩ := NS.pushS h.ns hown hgrow hat
  have hlo : ∀ k, (Value.slice ps sy.length cs).ownBlock = some k → w.heap.size + 2 ≤ k := fun k e => (h.ns.rowS.lt k e).1
  refine ⟨⟨h1, ?_, ?_⟩, h2⟩
  · rw [Below.heap_setCell _ _ _ _ (show w.heap.size ≠ w.heap.size + 1 by omega), hgrow.block _ (by have := h.ge; simp only [World.size_alloc]; omega) (fun e => by have := hlo _ e.symm; omega)]
    exact alloc_kept h.res _
  · exact ((h.bel.alloc h.bel.size Y).grown hgrow (by have := h.ge; simp; omega) fun j hj => by have := hlo j hj; omega).setCell (p := ⟨w.heap.size + 1, 0, none⟩) (by show w.heap.size ≤ w.heap.size + 1; omega) _

/-- a function more -/
theorem NI.pushF (h : NI w ps cs pf cf pb cb sy L ns wr) {x : FL} {g cp : Nat} {Y : Obj} {q : Option Addr} {c lo hi : Nat} {vs : List Value} {w3 : World} (hO : Own wr x.st q c lo hi) (hlo : w.heap.size + 2 ≤ lo) (hhi : hi ≤ wr.heap.size) (hcl : ∀ g, (nP w ps cs pf cf pb cb).mut g → g < lo ∨ hi ≤ g)
    (hown : w3.ownsRow (w.heap.size + 2) 52 5 (.slice (some ⟨g, 0, none⟩) (L.length + 1) cp) (L.length + 1) (vs ++ [.string x.nm, .slice q x.st.len c, .int .i64 0, .int .i64 0, .slice none 0 0]))
    (hF : wr.ownsRow (w.heap.size + 2) 52 5 (.slice pf L.length cf) L.length vs) (hA : ∀ i, i < L.length → FnAt wr (w.heap.size + 2) (nP w ps cs pf cf pb cb) (fuSc L []) i vs)
    (hgrow : (wr.alloc Y).grownBy w3 (Value.slice pf L.length cf).ownBlock) (hat : (Value.slice pf L.length cf).ownBlock = some g ∨ g = wr.heap.size + 1) :
    NI w ps cs (some ⟨g, 0, none⟩) cp pb cb sy (L ++ [x]) ns (w3.setCell ⟨w.heap.size + 1, 1, none⟩ (.slice (some ⟨g, 0, none⟩) (L.length + 1) cp)) ∧ w3.heap[w.heap.size + 1]? = wr.heap[w.heap.size + 1]? := by
  obtain ⟨h1, h2⟩ := NS.pushF h.ns hO hlo hhi hcl hown hF hA hgrow hat
  have hlo2 : ∀ k, (Value.slice pf L.length cf).ownBlock = some k → w.heap.size + 2 ≤ k := fun k e => (hF.lt k e).1
  refine ⟨⟨h1, ?_, ?_⟩, h2⟩
  · rw [Below.heap_setCell _ _ _ _ (show w.heap.size ≠ w.heap.size + 1 by omega), hgrow.block _ (by have := h.ge; simp only [World.size_alloc]; omega) (fun e => by have := hlo2 _ e.symm; omega)]
    exact alloc_kept h.res _
  · exact ((h.bel.alloc h.bel.size Y).grown hgrow (by have := h.ge; simp; omega) fun j hj => by have := hlo2 j hj; omega).setCell (p := ⟨w.heap.size + 1, 1, none⟩) (by show w.heap.size ≤ w.heap.size + 1; omega) _

/-- a place more -/
theorem NI.pushB (h : NI w ps cs pf cf pb cb sy L ns wr) {x : Int} {g cp : Nat} {Y : Obj} {w3 : World}
    (hown : w3.ownsRow (w.heap.size + 2) 3 1 (.slice (some ⟨g, 0, none⟩) (ns.length + 1) cp) (ns.length + 1) (inV ns ++ [.int .i64 x]))
    (hgrow : (wr.alloc Y).grownBy w3 (Value.slice pb ns.length cb).ownBlock) (hat : (Value.slice pb ns.length cb).ownBlock = some g ∨ g = wr.heap.size + 1) :
    NI w ps cs pf cf (some ⟨g, 0, none⟩) cp sy L (ns ++ [x]) w3 := by
  have hlo : ∀ k, (Value.slice pb ns.length cb).ownBlock = some k → w.heap.size + 2 ≤ k := fun k e => (h.ns.rowB.lt k e).1
  refine ⟨NS.pushB h.ns hown hgrow hat, ?_, ?_⟩
  · rw [hgrow.block _ (by have := h.ge; simp only [World.size_alloc]; omega) (fun e => by have := hlo _ e.symm; omega)]
    exact alloc_kept h.res _
  · exact (h.bel.alloc h.bel.size Y).grown hgrow (by have := h.ge; simp; omega) fun j hj => by have := hlo j hj; omega

end

end Go.Proofs.YtjkcopgfcafpeaaGreatDoor

/-
  Plain mathematics of what the reference's Get answers, by the lines as the reference cuts them. Conditions: texts of at most 65536 bytes.
-/
set_option linter.unusedSimpArgs false
set_option linter.unusedVariables false
namespace Go.Proofs.YtjkcopgfcafpeaaGreatDoor
open Go.RowKit Go.Maps

theorem rdBodies_fix (S F : List ByteArray) : ∀ (L : List FL), rdBodies S F (L.map FL.fix) = rdBodies S F L
  | [] => rfl
  | f :: r => by
    show ((rdBody S F f.bd).bind fun t => (rdBodies S F (r.map FL.fix)).map fun y => t :: y) = _
    rw [rdBodies_fix S F r]
    rfl

theorem rdB_fix (sy : List (ByteArray × Int)) (L : List FL) : rdB (sy, L.map FL.fix) = rdB (sy, L) := by
  unfold rdB
  dsimp only
  rw [rdBodies_fix, List.map_map]
  rfl

theorem rawF_er {s r : List UInt8} {x : FL} (h : rawF s = some (x, r)) : x.er = x.st.oE := by
  unfold rawF at h
  simp only [Option.bind_eq_some_iff, Option.map_eq_some_iff] at h
  obtain ⟨⟨n, r0⟩, h0, r1, h1, ⟨t, r2⟩, h2, r3, h3, ⟨b1, b2⟩, h4, h5⟩ := h
  simp only [Prod.mk.injEq] at h5
  obtain ⟨rfl, rfl⟩ := h5
  rfl

theorem rawFuns_er : ∀ (f : Nat) (s : List UInt8) (L : List FL), rawFuns f s = some L → ∀ x ∈ L, x.er = x.st.oE := by
  intro f
  induction f with
  | zero => intro s L h; cases h
  | succ f ih =>
    intro s L h
    unfold rawFuns at h
    split at h
    · injection h with h
      subst h
      intro x hx; cases hx
    · simp only [Option.bind_eq_some_iff, Option.map_eq_some_iff] at h
      obtain ⟨r0, h0, ⟨x, r1⟩, h1, y, h2, rfl⟩ := h
      intro z hz
      rcases List.mem_cons.1 hz with rfl | hz
      · exact rawF_er h1
      · exact ih _ _ h2 z hz

theorem rawL_er {s : List UInt8} {x : List (ByteArray × Int) × List FL} (h : rawL s = some x) : ∀ f ∈ x.2, f.er = f.st.oE := by
  unfold rawL at h
  simp only [Option.bind_eq_some_iff, Option.map_eq_some_iff] at h
  obtain ⟨⟨l, r⟩, h1, y, h2, rfl⟩ := h
  exact rawFuns_er _ _ _ h2

/-- the answers by the raw lines -/
def rawE (s : List UInt8) : Int := match rawL s with
  | none => 4
  | some x => match rdB x with
    | none => 4
    | some b => if scOk ⟨sySc x.1, fuSc x.2 b⟩ = true then 0 else 7

def rawSc (s : List UInt8) : Sc := match rawL s with
  | none => noSc
  | some x => match rdB x with
    | none => noSc
    | some b => if scOk ⟨sySc x.1, fuSc x.2 b⟩ = true then ⟨sySc x.1, fuSc x.2 b⟩ else noSc

theorem raw_sorted {L : List FL} (he : ∀ f ∈ L, f.er = f.st.oE) (hv : ∀ f ∈ L, f.st.valid = true) : L.map FL.fix = L ∧ sorted L = true := by
  constructor
  · have : L.map FL.fix = L.map id := List.map_congr_left fun f hf => by
      show FL.fix f = f
      unfold FL.fix
      rw [if_pos (hv f hf)]
    rw [this, List.map_id]
  · unfold sorted
    rw [List.all_eq_true]
    intro f hf
    rw [he f hf, decide_eq_true_eq]
    unfold T.oE
    rw [if_pos (hv f hf)]

theorem raw_not {L : List FL} {sy : List (ByteArray × Int)} {b : List (Int × Int × X)} (he : ∀ f ∈ L, f.er = f.st.oE) (hv : ¬ ∀ f ∈ L, f.st.valid = true) : sorted (L.map FL.fix) = false ∧ scOk ⟨sySc sy, fuSc L b⟩ = false := by
  constructor
  · rw [Bool.eq_false_iff]
    intro hs
    refine hv fun f hf => ?_
    unfold sorted at hs
    rw [List.all_eq_true] at hs
    have h1 := hs f.fix (List.mem_map_of_mem hf)
    have h2 : f.fix.er = f.er := rfl
    rw [h2, he f hf, decide_eq_true_eq] at h1
    unfold T.oE at h1
    split at h1
    · assumption
    · cases h1
  · rw [Bool.eq_false_iff]
    intro hs
    refine hv fun f hf => ?_
    obtain ⟨i, hi, rfl⟩ := List.getElem_of_mem hf
    have h1 := (good_of hs).sort i hi
    have h2 : (fuSc L b).st i = L[i].st := by
      show (L.getD i _).st = _
      simp [hi]
    rwa [h2] at h1

theorem get_raw {s : List UInt8} (hs : ¬ 65536 < s.length) : getE s = rawE s ∧ getSc s = rawSc s := by
  unfold getE getSc rdSc rawE rawSc
  rw [if_neg hs, if_neg hs, rdL_raw s (by omega)]
  cases h : rawL s with
  | none => exact ⟨rfl, rfl⟩
  | some x =>
    have he := rawL_er h
    obtain ⟨sy, L⟩ := x
    simp only [Option.map_some, Option.bind_some]
    dsimp only at he
    rw [rdB_fix]
    cases hb : rdB (sy, L) with
    | none => exact ⟨rfl, rfl⟩
    | some b =>
      simp only [Option.map_some]
      by_cases hv : ∀ f ∈ L, f.st.valid = true
      · obtain ⟨h1, h2⟩ := raw_sorted he hv
        rw [h1, h2]
        simp
      · obtain ⟨h1, h2⟩ := raw_not (sy := sy) (b := b) he hv
        rw [h1, h2]
        simp

end Go.Proofs.YtjkcopgfcafpeaaGreatDoor

/-
  What the reference's Get holds in memory: the rows that names has made, and the functions whose bodies are read. Conditions: none.
-/
set_option linter.unusedSimpArgs false
set_option linter.unusedVariables false
namespace Go.Proofs.YtjkcopgfcafpeaaGreatDoor
open Go.RowKit Go.Maps

/-- rows of symbols and functions are a scheme in memory -/
theorem isC_of {w : World} {B : Nat} {p : Pos} {sy : List (ByteArray × Int)} {L : List FL} {b : List (Int × Int × X)} {pf : Option Addr} {cf : Nat}
    (hS : w.ownsRow B 64 2 (.slice p.ps sy.length p.cs) sy.length (syV sy))
    (hF0 : ∃ vs, w.ownsRow B 52 5 (.slice pf L.length cf) L.length vs ∧ ∀ i, i < L.length → FnAt w B p (fuSc L b) i vs) :
    IsC w ⟨sySc sy, fuSc L b⟩ ⟨p.ps, sy.length, p.cs, pf, L.length, cf⟩ := by
  refine ⟨?_, ?_⟩
  · show IsS w (sySc sy) p.ps sy.length p.cs
    rcases hS.2 with ⟨e, h0⟩ | ⟨g, cap, cur, e, hb, hh, h1, h2, h3, h4⟩
    · injection e with e1 e2 e3
      refine ⟨rfl, by omega, by rw [e3]; simp [maxLen], fun _ => e3, Or.inl h0⟩
    · injection e with e1 e2 e3
      refine ⟨rfl, by rw [e3]; exact h1, by rw [e3]; exact h2, fun e => (by rw [e1] at e; cases e), Or.inr ⟨g, 0, e1, fun i hi => ?_⟩⟩
      have hi' : i < sy.length := hi
      obtain ⟨v1, v2⟩ := syV_get sy i hi'
      rw [e1] at hS
      have hd : sy.getD i (ByteArray.empty, 0) = sy[i] := by simp [hi']
      refine ⟨?_, ?_⟩
      · rw [Nat.zero_add, hS.cellAt _ (by omega), v1]
        show _ = some (Value.string (sy.getD i (ByteArray.empty, 0)).1)
        rw [hd]
      · rw [Nat.zero_add, hS.cellAt _ (by omega), v2]
        show _ = some (Value.int .i64 (sy.getD i (ByteArray.empty, 0)).2)
        rw [hd]
  · show IsF w (fuSc L b) pf L.length cf
    obtain ⟨vs, hF, hA⟩ := hF0
    rcases hF.2 with ⟨e, h0⟩ | ⟨g, cap, cur, e, hb, hh, h1, h2, h3, h4⟩
    · injection e with e1 e2 e3
      refine ⟨rfl, by omega, by rw [e3]; simp [maxLen], fun _ => e3, Or.inl h0⟩
    · injection e with e1 e2 e3
      refine ⟨rfl, by rw [e3]; exact h1, by rw [e3]; exact h2, fun e => (by rw [e1] at e; cases e), Or.inr ⟨g, 0, e1, fun i hi => ?_⟩⟩
      have hi' : i < L.length := hi
      obtain ⟨q, c, lo, hi2, r, d, lo2, hi3, v1, v2, v3, v4, v5, hO, hX, _⟩ := hA i hi'
      rw [e1] at hF
      refine ⟨q, _, c, r, _, d, ?_, ?_, ?_, ?_, ?_, hO.isT, hX.isX⟩
      · rw [Nat.zero_add, hF.cellAt _ (by omega)]; exact v1
      · rw [Nat.zero_add, hF.cellAt _ (by omega)]; exact v2
      · rw [Nat.zero_add, hF.cellAt _ (by omega)]; exact v3
      · rw [Nat.zero_add, hF.cellAt _ (by omega)]; exact v4
      · rw [Nat.zero_add, hF.cellAt _ (by omega)]; exact v5

/-- where Get's rows lie; what is turned: its box and the row of the functions that it collects -/
def gP (Ds : Nat) (ps : Option Addr) (cs : Nat) (pf : Option Addr) (cf : Nat) (po : Option Addr) (co : Nat) : Pos := ⟨Ds, Ds, Ds, ps, cs, pf, cf, po, co⟩

structure GS (w wr : World) (B Ds : Nat) (ps : Option Addr) (cs : Nat) (pf : Option Addr) (cf : Nat) (pb : Option Addr) (cb : Nat) (po : Option Addr) (co : Nat) (sy : List (ByteArray × Int)) (L : List FL) (ns : List Int) (b : List (Int × Int × X)) : Prop where
  box : wr.heap[Ds]? = some (.cells #[.slice ps sy.length cs, .slice pf L.length cf] 25 (0, 0))
  rowS : wr.ownsRow B 64 2 (.slice ps sy.length cs) sy.length (syV sy)
  rowB : wr.ownsRow B 3 1 (.slice pb ns.length cb) ns.length (inV ns)
  rowF : ∃ vs, wr.ownsRow B 52 5 (.slice pf L.length cf) L.length vs ∧ ∀ i, i < L.length → FnAt wr B (gP Ds ps cs pf cf po co) (fuSc L []) i vs
  rowO : ∃ vs, wr.ownsRow B 52 5 (.slice po b.length co) b.length vs ∧ ∀ i, i < b.length → FnAt wr B (gP Ds ps cs pf cf po co) (fuSc L b) i vs
  ne : ∀ g, (Value.slice po 0 0).ownBlock = some g → (Value.slice pf 0 0).ownBlock ≠ some g
  res : wr.heap[w.heap.size]? = some (.cells #[.slice none 0 0, .slice none 0 0] 25 (0, 0))
  base : Below w.heap.size w wr
  hB : w.heap.size < B
  hD : B ≤ Ds

section
variable {w wr w' : World} {B Ds : Nat} {ps : Option Addr} {cs : Nat} {pf : Option Addr} {cf : Nat} {pb : Option Addr} {cb : Nat} {po : Option Addr} {co : Nat} {sy : List (ByteArray × Int)} {L : List FL} {ns : List Int} {b : List (Int × Int × X)}

theorem row_lt {w : World} {B : Nat} {ty : TypeId} {k n n' c : Nat} {p : Option Addr} {xs : List Value} (h : w.ownsRow B ty k (.slice p n c) n' xs) : ∀ g, (Value.slice p 0 0).ownBlock = some g → g < w.heap.size := fun g e => (h.lt g (by rw [own_same p n c 0 0]; exact e)).2

theorem row_keep {w w' : World} {B : Nat} {ty : TypeId} {k n : Nat} {v : Value} {xs : List Value} (h : w.ownsRow B ty k v n xs) (hb : Below w.heap.size w w') : w'.ownsRow B ty k v n xs := by
  refine h.kept (row := none) ⟨hb.os, hb.tape, hb.output, hb.size, fun k hk _ => hb.block k hk⟩ ?_
  cases v.ownBlock with
  | none => exact Or.inl rfl
  | some g => exact Or.inr (by simp)

theorem GS.below (h : GS w wr B Ds ps cs pf cf pb cb po co sy L ns b) (hb : Below wr.heap.size wr w') : GS w w' B Ds ps cs pf cf pb cb po co sy L ns b := by
  obtain ⟨vs, hF, hA⟩ := h.rowF
  obtain ⟨us, hO, hC⟩ := h.rowO
  exact ⟨(hb.block _ (lt_of_block h.box)).trans h.box, row_keep h.rowS hb, row_keep h.rowB hb, ⟨vs, row_keep hF hb, fun i hi => (hA i hi).keep (fun k _ c _ => hb.block k c) hb.size fun g hg => Or.inl hg⟩,
    ⟨us, row_keep hO hb, fun i hi => (hC i hi).keep (fun k _ c _ => hb.block k c) hb.size fun g hg => Or.inl hg⟩, h.ne, (hb.block _ (lt_of_block h.res)).trans h.res, h.base.trans (hb.mono h.base.size), h.hB, h.hD⟩

theorem GS.alloc (h : GS w wr B Ds ps cs pf cf pb cb po co sy L ns b) (o : Obj) : GS w (wr.alloc o) B Ds ps cs pf cf pb cb po co sy L ns b := h.below ((Below.refl _ _).alloc (Nat.le_refl _) o)

theorem GS.drew (h : GS w wr B Ds ps cs pf cf pb cb po co sy L ns b) : GS w wr.drew B Ds ps cs pf cf pb cb po co sy L ns b := h.below (Below.refl _ _).drew

theorem GS.cells (h : GS w wr B Ds ps cs pf cf pb cb po co sy L ns b) : (wr.cell? ⟨Ds, 0, none⟩ = some (.slice ps sy.length cs) ∧ wr.cell? ⟨Ds, 1, none⟩ = some (.slice pf L.length cf)) ∧ wr.frozen? ⟨Ds, 0, none⟩ = false ∧ wr.frozen? ⟨Ds, 1, none⟩ = false := two_box h.box

theorem GS.rcells (h : GS w wr B Ds ps cs pf cf pb cb po co sy L ns b) : (wr.cell? ⟨w.heap.size, 0, none⟩ = some (.slice none 0 0) ∧ wr.cell? ⟨w.heap.size, 1, none⟩ = some (.slice none 0 0)) ∧ wr.frozen? ⟨w.heap.size, 0, none⟩ = false ∧ wr.frozen? ⟨w.heap.size, 1, none⟩ = false := two_box h.res

/-- the scheme without bodies -/
theorem GS.isC (h : GS w wr B Ds ps cs pf cf pb cb po co sy L ns b) : IsC wr ⟨sySc sy, fuSc L []⟩ ⟨ps, sy.length, cs, pf, L.length, cf⟩ := isC_of (p := gP Ds ps cs pf cf po co) h.rowS h.rowF

/-- the rows of a whole scheme -/
def FS (W : World) (B : Nat) (p : Pos) (sy : List (ByteArray × Int)) (L : List FL) (b : List (Int × Int × X)) : Prop :=
  W.ownsRow B 64 2 (.slice p.ps sy.length p.cs) sy.length (syV sy) ∧ ∃ us, W.ownsRow B 52 5 (.slice p.pb L.length p.cb) L.length us ∧ ∀ i, i < L.length → FnAt W B p (fuSc L b) i us

theorem FS.isC {W : World} {p : Pos} (h : FS W B p sy L b) : IsC W ⟨sySc sy, fuSc L b⟩ ⟨p.ps, sy.length, p.cs, p.pb, L.length, p.cb⟩ := isC_of (p := p) h.1 h.2

theorem FS.below {W W' : World} {p : Pos} (h : FS W B p sy L b) (hb : Below W.heap.size W W') : FS W' B p sy L b := by
  obtain ⟨h1, us, h2, h3⟩ := h
  exact ⟨row_keep h1 hb, us, row_keep h2 hb, fun i hi => (h3 i hi).keep (fun k _ c _ => hb.block k c) hb.size fun g hg => Or.inl hg⟩

theorem FS.setLow {W : World} {p : Pos} (h : FS W B p sy L b) {a : Addr} (ha : a.block < B) (v : Value) : FS (W.setCell a v) B p sy L b := by
  obtain ⟨h1, us, h2, h3⟩ := h
  have hlt : ∀ {ty : TypeId} {k n n' c : Nat} {q : Option Addr} {xs : List Value}, W.ownsRow B ty k (.slice q n c) n' xs → ∀ g, (Value.slice q 0 0).ownBlock = some g → g ≠ a.block := fun hr g e e2 => by have := (hr.lt g (by rw [own_same _ _ _ 0 0]; exact e)).1; omega
  exact ⟨ownsRow_far h1 fun g e => Below.heap_setCell _ _ _ _ (hlt h1 g e), us, ownsRow_far h2 fun g e => Below.heap_setCell _ _ _ _ (hlt h2 g e),
    fun i hi => (h3 i hi).keep (fun k hk _ _ => Below.heap_setCell _ _ _ _ (by omega)) (by simp [World.setCell]) fun g hg => Or.inl hg⟩

/-- the whole scheme, in the box -/
theorem GS.full (h : GS w wr B Ds ps cs pf cf pb cb po co sy L ns b) (hl : b.length = L.length) (v : Value) :
    FS (wr.setCell ⟨Ds, 1, none⟩ v) B (gP Ds ps cs pf cf po co) sy L b ∧ (wr.setCell ⟨Ds, 1, none⟩ v).heap[Ds]? = some (.cells #[.slice ps sy.length cs, v] 25 (0, 0)) := by
  obtain ⟨us, hO, hC⟩ := h.rowO
  have hne : ∀ {ty : TypeId} {k n c : Nat} {q : Option Addr} {xs : List Value}, wr.ownsRow B ty k (.slice q n c) n xs → ty ≠ 25 → (Value.slice q 0 0).ownBlock ≠ some Ds := fun hr ht e => by
    obtain ⟨_, a, _⟩ := ownsRow_block hr e
    rw [h.box] at a
    injection a with a
    injection a with _ a
    exact ht a.symm
  have hS : (wr.setCell ⟨Ds, 1, none⟩ v).ownsRow B 64 2 (.slice ps sy.length cs) sy.length (syV sy) := ownsRow_far h.rowS fun g e => Below.heap_setCell _ _ _ _ (fun e2 => hne h.rowS (by decide) (by have e3 : g = Ds := e2; rw [← e3]; exact e))
  have hO2 : (wr.setCell ⟨Ds, 1, none⟩ v).ownsRow B 52 5 (.slice po b.length co) b.length us := ownsRow_far hO fun g e => Below.heap_setCell _ _ _ _ (fun e2 => hne hO (by decide) (by have e3 : g = Ds := e2; rw [← e3]; exact e))
  have hsz : (wr.setCell ⟨Ds, 1, none⟩ v).heap.size = wr.heap.size := by simp [World.setCell]
  refine ⟨?_, ?_⟩
  · rw [hl] at hO2 hC
    exact ⟨hS, us, hO2, fun i hi => (hC i hi).keep (fun k _ _ hm => Below.heap_setCell _ _ _ _ (fun e => hm (Or.inl e))) (by omega) fun g hg => Or.inl hg⟩
  · have := heap_setCell_same wr Ds 1 #[.slice ps sy.length cs, .slice pf L.length cf] 25 v h.box
    simpa using this

/-- one more function: its body lies in blocks from lo to hi; w1 the world behind its reading, w3 behind the append -/
theorem GS.push {w1 w3 : World} {t : Int × Int × X} {r : Option Addr} {d lo hi g cp : Nat} {Y : Obj} {us vs : List Value} {q : Value}
    (h : GS w w1 B Ds ps cs pf cf pb cb po co sy L ns b) (hbl : b.length < L.length)
    (hF : w1.ownsRow B 52 5 (.slice pf L.length cf) L.length vs) (hA : ∀ i, i < L.length → FnAt w1 B (gP Ds ps cs pf cf po co) (fuSc L []) i vs)
    (hO : w1.ownsRow B 52 5 (.slice po b.length co) b.length us) (hC : ∀ i, i < b.length → FnAt w1 B (gP Ds ps cs pf cf po co) (fuSc L b) i us)
    (hq : vs[b.length * 5 + 1]? = some q)
    (hX : OwnX w1 t.2.2 r d lo hi) (hlo : B ≤ lo) (hhi : hi ≤ w1.heap.size) (hcl : ∀ k, (gP Ds ps cs pf cf po co).mut k → k < lo ∨ hi ≤ k)
    (hown : w3.ownsRow B 52 5 (.slice (some ⟨g, 0, none⟩) (b.length + 1) cp) (b.length + 1) (us ++ [.string ((fuSc L []).nm b.length), q, .int .i64 t.1, .int .i64 t.2.1, .slice r t.2.2.len d]))
    (hgrow : (w1.alloc Y).grownBy w3 (Value.slice po b.length co).ownBlock) (hat : (Value.slice po b.length co).ownBlock = some g ∨ g = w1.heap.size + 1) :
    GS w w3 B Ds ps cs pf cf pb cb (some ⟨g, 0, none⟩) cp sy L ns (b ++ [t]) := by
  have hs : w1.heap.size ≤ w3.heap.size := by have := hgrow.size; simp only [World.size_alloc] at this; omega
  have hk : ∀ k, k < w1.heap.size → (Value.slice po 0 0).ownBlock ≠ some k → w3.heap[k]? = w1.heap[k]? := NS.grow hgrow
  have hDs := lt_of_block h.box
  have hg2 := grow_at (Y := Y) hat
  have hty : ∀ {ty : TypeId} {k n c : Nat} {q : Option Addr} {xs : List Value}, w1.ownsRow B ty k (.slice q n c) n xs → ty ≠ 52 → ∀ g, (Value.slice q 0 0).ownBlock = some g → (Value.slice po 0 0).ownBlock ≠ some g := fun hr ht g e e2 => by
    obtain ⟨_, a, _⟩ := ownsRow_block hr e
    obtain ⟨_, a2, _⟩ := ownsRow_block hO e2
    rw [a] at a2
    injection a2 with a2
    injection a2 with _ a2
    exact ht a2
  have hnD : (Value.slice po 0 0).ownBlock ≠ some Ds := fun e => by
    obtain ⟨_, a, _⟩ := ownsRow_block hO e
    rw [h.box] at a
    injection a with a
    injection a with _ a
    exact absurd a (by decide)
  have hnR : (Value.slice po 0 0).ownBlock ≠ some w.heap.size := fun e => by
    have := (hO.lt w.heap.size (by rw [own_same po _ _ 0 0]; exact e)).1
    have := h.hB
    omega
  have hne : ∀ k, (Value.slice (some ⟨g, 0, none⟩ : Option Addr) 0 0).ownBlock = some k → k = g := fun k e => by simp [Value.ownBlock] at e; omega
  have hmut : ∀ k, (gP Ds ps cs pf cf (some ⟨g, 0, none⟩) cp).mut k → (gP Ds ps cs pf cf po co).mut k ∨ w1.heap.size ≤ k := by
    rintro k (e | e | e | e | e | e)
    · exact Or.inl (Or.inl e)
    · exact Or.inl (Or.inr (Or.inl e))
    · exact Or.inl (Or.inr (Or.inr (Or.inl e)))
    · exact Or.inl (Or.inr (Or.inr (Or.inr (Or.inl e))))
    · exact Or.inl (Or.inr (Or.inr (Or.inr (Or.inr (Or.inl e)))))
    · rw [hne k e]
      rcases hg2 with e2 | e2
      · exact Or.inl (Or.inr (Or.inr (Or.inr (Or.inr (Or.inr e2)))))
      · exact Or.inr e2
  have hkm : ∀ k, B ≤ k → k < w1.heap.size → ¬ (gP Ds ps cs pf cf po co).mut k → w3.heap[k]? = w1.heap[k]? := fun k _ c hm => hk k c (fun e => hm (Or.inr (Or.inr (Or.inr (Or.inr (Or.inr e))))))
  have hul : us.length = b.length * 5 := hO.1
  have hFn := hA b.length hbl
  obtain ⟨q0, c0, lo0, hi0, r0, d0, lo1, hi1, a1, a2, a3, a4, a5, a6, a7, a8, a9, a10, a11, a12⟩ := hFn
  rw [hq] at a2
  injection a2 with a2
  subst a2
  refine ⟨(hk _ hDs hnD).trans h.box, ownsRow_far h.rowS fun k e => hk k (row_lt h.rowS k e) (hty h.rowS (by decide) k e), ownsRow_far h.rowB fun k e => hk k (row_lt h.rowB k e) (hty h.rowB (by decide) k e),
    ⟨vs, ownsRow_far hF fun k e => hk k (row_lt hF k e) (fun e2 => h.ne k e2 e), fun i hi => (hA i hi).keep hkm hs hmut⟩, ?_, ?_, (hk _ (lt_of_block h.res) hnR).trans h.res, ?_, h.hB, h.hD⟩
  · rw [List.length_append, List.length_singleton]
    refine ⟨_, hown, fun i hib => ?_⟩
    by_cases hil : i < b.length
    · obtain ⟨q', c', lo', hi', r', d', lo2, hi2, h1, h2, h3, h4, h5, h6, h7, h8⟩ := (hC i hil).keep hkm hs hmut
      have e1 : (fuSc L (b ++ [t])).bk i = (fuSc L b).bk i ∧ (fuSc L (b ++ [t])).bn i = (fuSc L b).bn i ∧ (fuSc L (b ++ [t])).bt i = (fuSc L b).bt i := by
        refine ⟨?_, ?_, ?_⟩ <;> simp [fuSc, List.getElem?_append_left hil]
      refine ⟨q', c', lo', hi', r', d', lo2, hi2, ?_, ?_, ?_, ?_, ?_, h6, ?_, h8⟩
      · rw [List.getElem?_append_left (by omega)]; exact h1
      · rw [List.getElem?_append_left (by omega)]; exact h2
      · rw [List.getElem?_append_left (by omega), e1.1]; exact h3
      · rw [List.getElem?_append_left (by omega), e1.2.1]; exact h4
      · rw [List.getElem?_append_left (by omega), e1.2.2]; exact h5
      · rw [e1.2.2]; exact h7
    · obtain rfl : i = b.length := by omega
      have e1 : (fuSc L (b ++ [t])).bk b.length = t.1 ∧ (fuSc L (b ++ [t])).bn b.length = t.2.1 ∧ (fuSc L (b ++ [t])).bt b.length = t.2.2 := by
        refine ⟨?_, ?_, ?_⟩ <;> simp [fuSc]
      refine ⟨q0, c0, lo0, hi0, r, d, lo, hi, ?_, ?_, ?_, ?_, ?_, ?_, ?_, a8, by omega, hlo, by omega, ?_⟩
      · rw [List.getElem?_append_right (by omega), hul, Nat.sub_self]; rfl
      · rw [List.getElem?_append_right (by omega), hul, show b.length * 5 + 1 - b.length * 5 = 1 by omega]; rfl
      · rw [List.getElem?_append_right (by omega), hul, show b.length * 5 + 2 - b.length * 5 = 2 by omega, e1.1]; rfl
      · rw [List.getElem?_append_right (by omega), hul, show b.length * 5 + 3 - b.length * 5 = 3 by omega, e1.2.1]; rfl
      · rw [List.getElem?_append_right (by omega), hul, show b.length * 5 + 4 - b.length * 5 = 4 by omega, e1.2.2]; rfl
      · exact a6.keep fun k x y => hkm k (by omega) (by omega) (fun e => by have := (a12 k e).1; omega)
      · rw [e1.2.2]
        exact hX.keep fun k x y => hkm k (by omega) (by omega) (fun e => by have := hcl k e; omega)
      · intro k hk3
        rcases hmut k hk3 with e | e
        · exact ⟨(a12 k e).1, hcl k e⟩
        · exact ⟨Or.inr (by omega), Or.inr (by omega)⟩
  · intro k e e2
    have hkg := hne k e
    rcases hg2 with e3 | e3
    · exact h.ne k (by rw [hkg]; exact e3) e2
    · have := row_lt hF k e2
      omega
  · have hlo2 : ∀ k, (Value.slice po b.length co).ownBlock = some k → w.heap.size < k := fun k e => by have := (hO.lt k e).1; have := h.hB; omega
    exact (h.base.alloc h.base.size Y).grown hgrow (by have := h.base.size; simp; omega) fun j hj => by have := hlo2 j hj; omega

/-- behind names -/
theorem GS.start {w1 : World} {p : Pos} (h : NS w1 B p sy L ns) (hr : w1.heap[w.heap.size]? = some (.cells #[.slice none 0 0, .slice none 0 0] 25 (0, 0))) (hb : Below w.heap.size w w1) (hB : w.heap.size < B) (hBs : B ≤ w1.heap.size) :
    GS w (w1.alloc (.cells #[.slice p.ps sy.length p.cs, .slice p.pf L.length p.cf] 25)) B w1.heap.size p.ps p.cs p.pf p.cf p.pb p.cb none 0 sy L ns [] := by
  have hb1 := (Below.refl w1.heap.size w1).alloc (Nat.le_refl _) (.cells #[.slice p.ps sy.length p.cs, .slice p.pf L.length p.cf] 25)
  obtain ⟨vs, hF, hA⟩ := h.rowF
  refine ⟨heap_new _ _, row_keep h.rowS hb1, row_keep h.rowB hb1, ⟨vs, row_keep hF hb1, fun i hi => (hA i hi).keep (fun k _ c _ => hb1.block k c) hb1.size ?_⟩, ⟨[], World.ownsRow_nil _ _ _ _, fun i hi => absurd hi (Nat.not_lt_zero _)⟩, (fun g e => by cases e), alloc_kept hr _, hb.alloc hb.size _, hB, hBs⟩
  rintro k (e | e | e | e | e | e)
  · exact Or.inr (Nat.le_of_eq e.symm)
  · exact Or.inr (Nat.le_of_eq e.symm)
  · exact Or.inr (Nat.le_of_eq e.symm)
  · exact Or.inl (Or.inr (Or.inr (Or.inr (Or.inl e))))
  · exact Or.inl (Or.inr (Or.inr (Or.inr (Or.inr (Or.inl e)))))
  · cases e

theorem GS.mut_lt (h : GS w wr B Ds ps cs pf cf pb cb po co sy L ns b) {k : Nat} (hk : (gP Ds ps cs pf cf po co).mut k) : k < wr.heap.size := by
  have hD := lt_of_block h.box
  obtain ⟨vs, hF, _⟩ := h.rowF
  obtain ⟨us, hO, _⟩ := h.rowO
  rcases hk with e | e | e | e | e | e
  · exact e ▸ hD
  · exact e ▸ hD
  · exact e ▸ hD
  · exact row_lt h.rowS k e
  · exact row_lt hF k e
  · exact row_lt hO k e

/-- function j, as names has laid it -/
theorem GS.fn (h : GS w wr B Ds ps cs pf cf pb cb po co sy L ns b) {j : Nat} (hj : j < L.length) : ∃ (vs : List Value) (g : Nat) (q : Option Addr) (c : Nat) (r : Option Addr) (d : Nat), pf = some ⟨g, 0, none⟩ ∧ wr.ownsRow B 52 5 (.slice pf L.length cf) L.length vs ∧ (∀ i, i < L.length → FnAt wr B (gP Ds ps cs pf cf po co) (fuSc L []) i vs) ∧
    vs[j * 5 + 1]? = some (.slice q ((fuSc L []).st j).len c) ∧ wr.cell? ⟨g, j * 5, none⟩ = some (.string ((fuSc L []).nm j)) ∧ wr.cell? ⟨g, j * 5 + 1, none⟩ = some (.slice q ((fuSc L []).st j).len c) ∧ wr.cell? ⟨g, j * 5 + 2, none⟩ = some (.int .i64 ((fuSc L []).bk j)) ∧
    wr.cell? ⟨g, j * 5 + 3, none⟩ = some (.int .i64 ((fuSc L []).bn j)) ∧ wr.cell? ⟨g, j * 5 + 4, none⟩ = some (.slice r ((fuSc L []).bt j).len d) := by
  obtain ⟨vs, hF, hA⟩ := h.rowF
  obtain ⟨q, c, lo, hi2, r, d, lo2, hi3, v1, v2, v3, v4, v5, _⟩ := hA j hj
  have hF0 := hF
  rcases hF.2 with ⟨e, h0⟩ | ⟨g, cap, cur, e, hb, hh, h1, h2, h3, h4⟩
  · omega
  · injection e with e1 e2 e3
    rw [e1] at hF
    refine ⟨vs, g, q, c, r, d, e1, hF0, hA, v2, ?_, ?_, ?_, ?_, ?_⟩
    · rw [hF.cellAt _ (by omega)]; exact v1
    · rw [hF.cellAt _ (by omega)]; exact v2
    · rw [hF.cellAt _ (by omega)]; exact v3
    · rw [hF.cellAt _ (by omega)]; exact v4
    · rw [hF.cellAt _ (by omega)]; exact v5

/-- the place of body j -/
theorem GS.pl (h : GS w wr B Ds ps cs pf cf pb cb po co sy L ns b) {j : Nat} (hj : j < ns.length) {m : Int} (hm : ns[j]? = some m) : ∃ g, pb = some ⟨g, 0, none⟩ ∧ wr.cell? ⟨g, j, none⟩ = some (.int .i64 m) := by
  have hF := h.rowB
  rcases hF.2 with ⟨e, h0⟩ | ⟨g, cap, cur, e, hb, hh, h1, h2, h3, h4⟩
  · omega
  · injection e with e1 e2 e3
    rw [e1] at hF
    refine ⟨g, e1, ?_⟩
    rw [hF.cellAt _ (by omega)]
    simp [inV, hm]

end

end Go.Proofs.YtjkcopgfcafpeaaGreatDoor

/-
  What the statement on the smaller scheme holds in memory: a table of numbers, and the functions that it collects. Conditions: none.
-/
set_option linter.unusedSimpArgs false
set_option linter.unusedVariables false
namespace Go.Proofs.YtjkcopgfcafpeaaGreatDoor
open Go.RowKit Go.Maps

/-- the functions that are needed -/
inductive Rch (x : Sc) : Nat → Prop
  | zero : Rch x 0
  | step {i k : Nat} : i < x.F.len → Rch x i → callB x i k = true → Rch x k

open Classical in
noncomputable def rchV (x : Sc) (n : Nat) : Bool := decide (Rch x n)

open Classical in
theorem rchV_iff {x : Sc} {n : Nat} : rchV x n = true ↔ Rch x n := by unfold rchV; exact decide_eq_true_iff

theorem least_rch (x : Sc) : Least x (rchV x) := by
  refine ⟨rchV_iff.2 .zero, fun i k hi h1 h2 => rchV_iff.2 (.step hi (rchV_iff.1 h1) h2), fun P hP h0 i _ hV => ?_⟩
  have h := rchV_iff.1 hV
  clear hV
  induction h with
  | zero => exact h0
  | step hi _ hc ih => exact hP _ _ hi (ih hi) hc

theorem visL_lN (V : Nat → Bool) (m : Nat) : visL V m = (lN V m).map fun (i : Nat) => (i : Int) := rfl

/-- a block of numbers -/
def ia (m : Nat) (f : Nat → Int) : Array Value := ((List.range m).map fun i => Value.int .i64 (f i)).toArray

def IA (w : World) (tb m : Nat) (f : Nat → Int) : Prop := w.heap[tb]? = some (.cells (ia m f) 3 (0, 0))

theorem ia_at {m : Nat} {f : Nat → Int} {i : Nat} (h : i < m) : (ia m f)[i]? = some (.int .i64 (f i)) := by
  simp [ia, h]

theorem IA.cell {w : World} {tb m : Nat} {f : Nat → Int} (h : IA w tb m f) {i : Nat} (hi : i < m) : w.cell? ⟨tb, i, none⟩ = some (.int .i64 (f i)) ∧ w.frozen? ⟨tb, i, none⟩ = false := by
  unfold IA at h
  refine ⟨?_, ?_⟩
  · unfold World.cell?
    simp only [h]
    simpa using ia_at hi
  · simp [World.frozen?, h]

def updI (f : Nat → Int) (n : Nat) (v : Int) : Nat → Int := fun i => if i = n then v else f i

theorem ia_set (m : Nat) (f : Nat → Int) (i : Nat) (v : Int) : (ia m f).setIfInBounds i (.int .i64 v) = ia m (updI f i v) := by
  apply Array.ext
  · simp [ia]
  · intro j h1 h2
    have hj : j < m := by simpa [ia] using h2
    rw [Array.getElem_setIfInBounds]
    simp only [ia, updI, List.getElem_toArray, List.getElem_map, List.getElem_range]
    by_cases e : i = j
    · subst e; simp
    · rw [if_neg e, if_neg (fun h => e h.symm)]
    · simpa [ia] using hj

theorem IA.set {w : World} {tb m : Nat} {f : Nat → Int} (h : IA w tb m f) (i : Nat) (v : Int) : IA (w.setCell ⟨tb, i, none⟩ (.int .i64 v)) tb m (updI f i v) := by
  unfold IA
  rw [← ia_set]
  exact heap_setCell_same w tb i (ia m f) 3 (.int .i64 v) h

theorem IA.congr {w : World} {tb m : Nat} {f g : Nat → Int} (h : IA w tb m f) (hfg : ∀ i, i < m → f i = g i) : IA w tb m g := by
  have e : ia m f = ia m g := by
    unfold ia
    congr 1
    exact List.map_congr_left fun i hi => by rw [hfg i (List.mem_range.1 hi)]
  unfold IA at h ⊢
  rw [← e]
  exact h

theorem ia_made (m : Nat) : madeCells #[.int .i64 0] m = ia m (fun _ => 0) := by
  unfold ia madeCells
  apply Array.ext'
  apply List.ext_getElem?
  intro j
  by_cases hj : j < m
  · simp [hj, Nat.mod_one]
  · simp [hj]

theorem IA.lt {w : World} {tb m : Nat} {f : Nat → Int} (h : IA w tb m f) : tb < w.heap.size := lt_of_block h

theorem IA.toI {w : World} {tb m : Nat} {V : Nat → Bool} (h : IA w tb m fun i => toI V (i : Int)) : ToI w tb m V := fun i hi => (h.cell hi).1

theorem infoI0 : (Tryz.prog.info? 3).map (fun i => (i.zero, i.size, i.bytes)) = some (some (.int .i64 0), 1, 8) := by kernel_rfl

theorem run_make_ints0 (n : Nat) (hn : n ≤ 64) (w : World) : (Instr.makeSlice 33 (.int .i64 (n : Int)) (.int .i64 (n : Int))).run Tryz.prog w = .ok (.slice (some ⟨w.heap.size, 0, none⟩) n n) (w.alloc (.cells (madeCells #[.int .i64 0] n) 3)) :=
  run_make_row' (P := Tryz.prog) 33 3 (.int .i64 0) 8 Tryz.underlying33 infoI0 rfl .i64 .i64 n (by omega) (by omega) w

/-- the numbers that are found, in order -/
def tabF (V : Nat → Bool) (j : Nat) (i : Nat) : Int := if V i = true ∧ rkV V i < j then (rkV V i : Int) else -1

theorem tab_step {V : Nat → Bool} {n : Nat} (hV : V n = true) (i : Nat) : updI (tabF V (rkV V n)) n (rkV V n : Int) i = tabF V (rkV V n + 1) i := by
  unfold updI tabF
  by_cases e : i = n
  · subst e
    rw [if_pos rfl, if_pos ⟨hV, by omega⟩]
  · rw [if_neg e]
    by_cases h : V i = true ∧ rkV V i < rkV V n
    · rw [if_pos h, if_pos ⟨h.1, by omega⟩]
    · rw [if_neg h, if_neg (fun h2 => ?_)]
      by_cases h3 : rkV V i = rkV V n
      · exact e (rkV_inj h2.1 hV h3)
      · exact h ⟨h2.1, by omega⟩

theorem tab_end {V : Nat → Bool} {m i : Nat} (hi : i < m) : tabF V (lN V m).length i = toI V (i : Int) := by
  unfold tabF toI
  rw [Int.toNat_natCast]
  by_cases h : V i = true
  · rw [if_pos ⟨h, lN_lt hi h⟩, if_pos h]
  · rw [if_neg (fun h2 => h h2.1), if_neg h]

theorem lN_mono {V : Nat → Bool} {a b : Nat} (ha : V a = true) (h : rkV V a < rkV V b) : a < b := by
  rcases Nat.lt_or_ge a b with h1 | h1
  · exact h1
  · have : rkV V b ≤ rkV V a := by
      unfold rkV lN
      have e : List.range a = List.range b ++ (List.range a).drop b := by
        have := List.take_append_drop b (List.range a)
        rw [List.take_range, Nat.min_eq_left h1] at this
        exact this.symm
      rw [e, List.filter_append, List.length_append]
      omega
    omega

/-- function i of the smaller scheme, in its row; its sort lies where it lay, its body in blocks of its own -/
def LsAt (w : World) (B U : Nat) (po : Option Addr) (F : Fu) (i : Nat) (vs : List Value) : Prop :=
  ∃ (q : Option Addr) (c : Nat) (r : Option Addr) (d lo hi : Nat),
    vs[i * 5]? = some (.string (F.nm i)) ∧ vs[i * 5 + 1]? = some (.slice q (F.st i).len c) ∧ vs[i * 5 + 2]? = some (.int .i64 (F.bk i)) ∧ vs[i * 5 + 3]? = some (.int .i64 (F.bn i)) ∧ vs[i * 5 + 4]? = some (.slice r (F.bt i).len d) ∧
    (∃ w0 : World, IsT w0 (F.st i) q (F.st i).len c ∧ w0.heap.size ≤ U ∧ Below w0.heap.size w0 w) ∧ OwnX w (F.bt i) r d lo hi ∧ B ≤ lo ∧ hi ≤ w.heap.size ∧ ∀ g, (Value.slice po 0 0).ownBlock = some g → g < lo ∨ hi ≤ g

/-- what the third loop holds -/
structure LS (w wr : World) (B ub : Nat) (sp : Option Addr) (sn sc : Nat) (po : Option Addr) (co j : Nat) (F : Fu) : Prop where
  box : wr.heap[ub]? = some (.cells #[.slice sp sn sc, .slice po j co] 25 (0, 0))
  row : ∃ vs, wr.ownsRow B 52 5 (.slice po j co) j vs ∧ ∀ i, i < j → LsAt wr B ub po F i vs
  base : Below w.heap.size w wr
  hu : w.heap.size ≤ ub
  hB : ub < B

section
variable {w wr w' : World} {B ub : Nat} {sp : Option Addr} {sn sc : Nat} {po : Option Addr} {co j : Nat} {F : Fu}

theorem LsAt.keep {i : Nat} {vs : List Value} {po' : Option Addr} {W0 : World} (h : LsAt wr B ub po F i vs) (hk : ∀ k, B ≤ k → k < wr.heap.size → (Value.slice po 0 0).ownBlock ≠ some k → w'.heap[k]? = wr.heap[k]?) (hs : wr.heap.size ≤ w'.heap.size)
    (hb : ∀ w0 : World, w0.heap.size ≤ ub → Below w0.heap.size w0 wr → Below w0.heap.size w0 w') (hm : ∀ g, (Value.slice po' 0 0).ownBlock = some g → (Value.slice po 0 0).ownBlock = some g ∨ wr.heap.size ≤ g) : LsAt w' B ub po' F i vs := by
  obtain ⟨q, c, r, d, lo, hi, h1, h2, h3, h4, h5, ⟨w0, t1, t2, t3⟩, h7, h8, h9, h10⟩ := h
  refine ⟨q, c, r, d, lo, hi, h1, h2, h3, h4, h5, ⟨w0, t1, t2, hb w0 t2 t3⟩, h7.keep fun k a b => hk k (by omega) (by omega) fun e => ?_, h8, by omega, fun g hg => ?_⟩
  · have := h10 k e; omega
  · rcases hm g hg with e | e
    · exact h10 g e
    · exact Or.inr (by omega)

theorem LS.below (h : LS w wr B ub sp sn sc po co j F) (hb : Below wr.heap.size wr w') : LS w w' B ub sp sn sc po co j F := by
  obtain ⟨vs, hO, hC⟩ := h.row
  refine ⟨(hb.block _ (lt_of_block h.box)).trans h.box, ⟨vs, row_keep hO hb, fun i hi => (hC i hi).keep (W0 := w) (fun k _ c _ => hb.block k c) hb.size (fun w0 _ h2 => h2.trans (hb.mono h2.size)) fun g hg => Or.inl hg⟩, h.base.trans (hb.mono h.base.size), h.hu, h.hB⟩

theorem LS.cells (h : LS w wr B ub sp sn sc po co j F) : (wr.cell? ⟨ub, 0, none⟩ = some (.slice sp sn sc) ∧ wr.cell? ⟨ub, 1, none⟩ = some (.slice po j co)) ∧ wr.frozen? ⟨ub, 0, none⟩ = false ∧ wr.frozen? ⟨ub, 1, none⟩ = false := two_box h.box

theorem LS.isF (h : LS w wr B ub sp sn sc po co j F) (hj : j = F.len) : IsF wr F po j co := by
  obtain ⟨us, hO, hC⟩ := h.row
  rcases hO.2 with ⟨e, h0⟩ | ⟨g, cap, cur, e, hb, hh, h1, h2, h3, h4⟩
  · injection e with e1 e2 e3
    exact ⟨hj, by omega, by rw [e3]; simp [maxLen], fun _ => e3, Or.inl h0⟩
  · injection e with e1 e2 e3
    refine ⟨hj, by rw [e3]; exact h1, by rw [e3]; exact h2, fun e => (by rw [e1] at e; cases e), Or.inr ⟨g, 0, e1, fun i hi => ?_⟩⟩
    rw [← hj] at hi
    obtain ⟨q, c, r, d, lo, hi2, v1, v2, v3, v4, v5, ⟨w0, t1, t2, t3⟩, hX, _⟩ := hC i hi
    rw [e1] at hO
    refine ⟨q, _, c, r, _, d, ?_, ?_, ?_, ?_, ?_, t1.below t3, hX.isX⟩
    · rw [Nat.zero_add, hO.cellAt _ (by omega)]; exact v1
    · rw [Nat.zero_add, hO.cellAt _ (by omega)]; exact v2
    · rw [Nat.zero_add, hO.cellAt _ (by omega)]; exact v3
    · rw [Nat.zero_add, hO.cellAt _ (by omega)]; exact v4
    · rw [Nat.zero_add, hO.cellAt _ (by omega)]; exact v5

/-- one more function: w1 the world behind the making of its body, w3 behind the append -/
theorem LS.push {w1 w3 w0 : World} {q : Option Addr} {c : Nat} {r : Option Addr} {d lo hi g cp : Nat} {Yo : Obj} {us : List Value}
    (h : LS w w1 B ub sp sn sc po co j F) (hO : w1.ownsRow B 52 5 (.slice po j co) j us) (hC : ∀ i, i < j → LsAt w1 B ub po F i us)
    (hT : IsT w0 (F.st j) q (F.st j).len c) (hw0 : w0.heap.size ≤ ub) (hBw : B ≤ w1.heap.size) (hb0 : Below w0.heap.size w0 w1)
    (hX : OwnX w1 (F.bt j) r d lo hi) (hlo : B ≤ lo) (hhi : hi ≤ w1.heap.size) (hcl : ∀ k, (Value.slice po 0 0).ownBlock = some k → k < lo ∨ hi ≤ k)
    (hown : w3.ownsRow B 52 5 (.slice (some ⟨g, 0, none⟩) (j + 1) cp) (j + 1) (us ++ [.string (F.nm j), .slice q (F.st j).len c, .int .i64 (F.bk j), .int .i64 (F.bn j), .slice r (F.bt j).len d]))
    (hgrow : (w1.alloc Yo).grownBy w3 (Value.slice po j co).ownBlock) (hat : (Value.slice po j co).ownBlock = some g ∨ g = w1.heap.size + 1) :
    LS w (w3.setCell ⟨ub, 1, none⟩ (.slice (some ⟨g, 0, none⟩) (j + 1) cp)) B ub sp sn sc (some ⟨g, 0, none⟩) cp (j + 1) F ∧ w3.heap[ub]? = w1.heap[ub]? := by
  have hs : w1.heap.size ≤ w3.heap.size := by have := hgrow.size; simp only [World.size_alloc] at this; omega
  have hk : ∀ k, k < w1.heap.size → (Value.slice po 0 0).ownBlock ≠ some k → w3.heap[k]? = w1.heap[k]? := NS.grow hgrow
  have hul := lt_of_block h.box
  have hnu : (Value.slice po 0 0).ownBlock ≠ some ub := fun e => by
    have := (hO.lt ub (by rw [own_same po _ _ 0 0]; exact e)).1
    have := h.hB
    omega
  have hu3 : w3.heap[ub]? = w1.heap[ub]? := hk _ hul hnu
  have hg2 := grow_at (Y := Yo) hat
  have hgB : B ≤ g := by
    rcases hg2 with e | e
    · exact (hO.lt g (by rw [own_same po _ _ 0 0]; exact e)).1
    · omega
  have hne : ∀ k, (Value.slice (some ⟨g, 0, none⟩ : Option Addr) 0 0).ownBlock = some k → k = g := fun k e => by simp [Value.ownBlock] at e; omega
  have hmut : ∀ k, (Value.slice (some ⟨g, 0, none⟩ : Option Addr) 0 0).ownBlock = some k → (Value.slice po 0 0).ownBlock = some k ∨ w1.heap.size ≤ k := fun k e => by
    rw [hne k e]
    exact hg2
  have hsz : (w3.setCell ⟨ub, 1, none⟩ (.slice (some ⟨g, 0, none⟩) (j + 1) cp)).heap.size = w3.heap.size := by simp [World.setCell]
  have hk2 : ∀ k, B ≤ k → k < w1.heap.size → (Value.slice po 0 0).ownBlock ≠ some k → (w3.setCell ⟨ub, 1, none⟩ (.slice (some ⟨g, 0, none⟩) (j + 1) cp)).heap[k]? = w1.heap[k]? := fun k hkB hk1 hk3 => by
    rw [Below.heap_setCell _ _ _ _ (show k ≠ ub by have := h.hB; omega)]
    exact hk k hk1 hk3
  have hbl : ∀ w0 : World, w0.heap.size ≤ ub → Below w0.heap.size w0 w1 → Below w0.heap.size w0 (w3.setCell ⟨ub, 1, none⟩ (.slice (some ⟨g, 0, none⟩) (j + 1) cp)) := fun w0 hw hb => by
    have hlo2 : ∀ k, (Value.slice po j co).ownBlock = some k → w0.heap.size ≤ k := fun k e => by have := (hO.lt k e).1; have := h.hB; omega
    exact ((hb.alloc hb.size Yo).grown hgrow (by have := hb.size; simp; omega) fun j hj => hlo2 j hj).setCell (p := ⟨ub, 1, none⟩) hw _
  have hvl : us.length = j * 5 := hO.1
  refine ⟨⟨?_, ⟨_, ownsRow_far hown fun k e => Below.heap_setCell _ _ _ _ (show k ≠ ub by have := hne k e; have := h.hB; omega), fun i hib => ?_⟩, hbl w h.hu h.base, h.hu, h.hB⟩, hu3⟩
  · have := heap_setCell_same w3 ub 1 #[.slice sp sn sc, .slice po j co] 25 (.slice (some ⟨g, 0, none⟩) (j + 1) cp) (hu3.trans h.box)
    simpa using this
  · by_cases hil : i < j
    · obtain ⟨q', c', r', d', lo2, hi2, h1, h2, h3, h4, h5, h6, h7, h8⟩ := (hC i hil).keep (po' := some ⟨g, 0, none⟩) (W0 := w) hk2 (by omega) hbl hmut
      refine ⟨q', c', r', d', lo2, hi2, ?_, ?_, ?_, ?_, ?_, h6, h7, h8⟩
      · rw [List.getElem?_append_left (by omega)]; exact h1
      · rw [List.getElem?_append_left (by omega)]; exact h2
      · rw [List.getElem?_append_left (by omega)]; exact h3
      · rw [List.getElem?_append_left (by omega)]; exact h4
      · rw [List.getElem?_append_left (by omega)]; exact h5
    · obtain rfl : i = j := by omega
      refine ⟨q, c, r, d, lo, hi, ?_, ?_, ?_, ?_, ?_, ⟨w0, hT, hw0, hbl w0 hw0 hb0⟩, hX.keep fun k a b => hk2 k (by omega) (by omega) (fun e => by have := hcl k e; omega), hlo, by omega, fun k e => ?_⟩
      · rw [List.getElem?_append_right (by omega), hvl, Nat.sub_self]; rfl
      · rw [List.getElem?_append_right (by omega), hvl, show i * 5 + 1 - i * 5 = 1 by omega]; rfl
      · rw [List.getElem?_append_right (by omega), hvl, show i * 5 + 2 - i * 5 = 2 by omega]; rfl
      · rw [List.getElem?_append_right (by omega), hvl, show i * 5 + 3 - i * 5 = 3 by omega]; rfl
      · rw [List.getElem?_append_right (by omega), hvl, show i * 5 + 4 - i * 5 = 4 by omega]; rfl
      · rcases hmut k e with e2 | e2
        · exact hcl k e2
        · exact Or.inr (by omega)

theorem LS.mid {w1 w3 : World} {Yo : Obj} {us : List Value} (h : LS w w1 B ub sp sn sc po co j F) (hO : w1.ownsRow B 52 5 (.slice po j co) j us) (hgrow : (w1.alloc Yo).grownBy w3 (Value.slice po j co).ownBlock) : w3.heap[ub]? = w1.heap[ub]? :=
  NS.grow hgrow _ (lt_of_block h.box) (fun e => by
    have := (hO.lt ub (by rw [own_same po _ _ 0 0]; exact e)).1
    have := h.hB
    omega)

/-- what lies ahead of the box stays -/
theorem LS.ahead {w1 w3 W : World} {Yo : Obj} {us : List Value} {N : Nat} (h : LS w w1 B ub sp sn sc po co j F) (hO : w1.ownsRow B 52 5 (.slice po j co) j us) (hgrow : (w1.alloc Yo).grownBy w3 (Value.slice po j co).ownBlock)
    (hb : Below N W w1) (hN : N ≤ ub) (v : Value) : Below N W (w3.setCell ⟨ub, 1, none⟩ v) := by
  have hul := lt_of_block h.box
  have hlo2 : ∀ k, (Value.slice po j co).ownBlock = some k → N ≤ k := fun k e => by have := (hO.lt k e).1; have := h.hB; omega
  exact ((hb.alloc (by omega) Yo).grown hgrow (by simp; omega) fun j hj => hlo2 j hj).setCell (p := ⟨ub, 1, none⟩) hN _

theorem fbox_after {wr w5 : World} {o : Obj} (h : Below (wr.alloc o).drew.heap.size (wr.alloc o).drew w5) : Below wr.heap.size wr w5 ∧ w5.heap[wr.heap.size]? = some o :=
  ⟨((Below.refl wr.heap.size wr).alloc (Nat.le_refl _) o).drew.trans (h.mono (by show wr.heap.size ≤ (wr.alloc o).heap.size; simp)), (h.block _ (by show wr.heap.size < (wr.alloc o).heap.size; simp)).trans (heap_new wr o)⟩

end

end Go.Proofs.YtjkcopgfcafpeaaGreatDoor

/-
  The walk of the statement on the smaller scheme. Conditions: that the scheme lies in memory, and the package variables read as laid.
-/
set_option linter.unusedSimpArgs false
set_option linter.unusedVariables false
namespace Go.Proofs.YtjkcopgfcafpeaaGreatDoor
open Go.RowKit Go.Maps

theorem one_fn5 (n : ByteArray) (q r : Option Addr) (l c l2 c2 : Nat) (k m : Int) : ∀ u ∈ [Value.string n, .slice q l c, .int .i64 k, .int .i64 m, .slice r l2 c2], u.oneCell' = true := by simp [Value.oneCell']

theorem nums_of {x : Sc} : ∀ {a : X}, goodX x a → numsX x.F.len a := by
  intro a
  induction a with
  | nil => intro _; trivial
  | cons k n a r iha ihr =>
    intro h
    obtain ⟨h1, h2, h3⟩ := h
    refine ⟨fun hk => ?_, iha h2, ihr h3⟩
    obtain ⟨g0, g1 | g1 | g1⟩ := h1
    · omega
    · exact ⟨g0, g1.2⟩
    · omega

set_option maxRecDepth 100000 in
set_option maxHeartbeats 4000000 in
theorem law_sless_no (x : Sc) (a : At2) (w : World) (h : IsC w x a) (hg : Gl w) (h6 : 6 ≤ w.heap.size) (hno : scOk x = false) :
    Calls Tryz.prog 12 #[.agg #[.slice a.sp a.sn a.sc, .slice a.fp a.fn a.fc]] w fun e w' => e = .returned (.bool true) ∧ Below w.heap.size w w' := by
  have HR := Lib.hid fun W h => sreach_any x a W h
  have HI := Lib.hid fun W h => refis3_any x a W h
  have HA := Lib.hid fun W h h' => alive3_any W h h'
  obtain ⟨sp, sn, sc, fp, fn, fc⟩ := a
  dsimp only at HR HI ⊢
  have hbx := heap_new w (.cells #[.slice sp sn sc, .slice fp fn fc] 25)
  have B0 := (Below.refl w.heap.size w).alloc (Nat.le_refl _) (.cells #[.slice sp sn sc, .slice fp fn fc] 25)
  obtain ⟨⟨s1, s2⟩, _⟩ := two_box hbx
  have e1 : scE x = 7 := by unfold scE; rw [hno]; rfl
  unfold ReachPost at HR
  rw [e1, rchL_no hno] at HR
  rw [hno] at HI
  have HH := Lib.hid (And.intro h (And.intro hbx B0))
  clear h hbx B0 e1 hno
  go_enter Tryz.func12, Tryz.ntmps12
  go_wp2_with fail
  refine (HR.out _ (HH.out.1.alloc _)).mono ?_
  rintro e w1 ⟨v, rfl, hown, hb1⟩
  have hv : ∃ p c, v = .slice p 0 c := by
    rcases hown.2 with ⟨rfl, _⟩ | ⟨g, cap, cur, rfl, _⟩
    · exact ⟨none, 0, rfl⟩
    · exact ⟨_, _, rfl⟩
  obtain ⟨p, c, rfl⟩ := hv
  have hB1 := HH.out.2.2.trans (hb1.mono (by simp))
  obtain ⟨⟨s3, s4⟩, _⟩ := two_box (box3_later hb1 HH.out.2.1)
  have HB1 := Lib.hid (And.intro hB1 (HH.out.1.below hB1))
  clear hown hb1 hB1 s1 s2 HR
  go_wp2_with fail
  refine (HI.out _ HB1.out.2).mono ?_
  rintro e w2 ⟨rfl, hb2⟩
  have HB2 := Lib.hid (HB1.out.1.trans (hb2.mono HB1.out.1.size))
  clear hb2 s3 s4 HI
  go_wp2_with fail
  refine (HA.out _ (hg.keep fun b hb => HB2.out.block b (by omega)) (by have := HB2.out.size; omega)).mono ?_
  rintro e w3 ⟨rfl, hb3⟩
  go_wp2_with fail
  go_ret
  exact ⟨rfl, HB2.out.trans (hb3.mono HB2.out.size)⟩

set_option maxRecDepth 100000 in
set_option maxHeartbeats 8000000 in
theorem law_sless_ok (x : Sc) (a : At2) (w : World) (h : IsC w x a) (hg : Gl w) (h6 : 6 ≤ w.heap.size) (hok : scOk x = true) :
    Calls Tryz.prog 12 #[.agg #[.slice a.sp a.sn a.sc, .slice a.fp a.fn a.fc]] w fun e w' => e = .returned (.bool true) ∧ Below w.heap.size w w' := by
  obtain ⟨f0, hf0, hy0, hy1', hy2⟩ := info_parts infoFu
  obtain ⟨V, hV⟩ : ∃ V, V = rchV x := ⟨_, rfl⟩
  have hL : Least x V := hV ▸ least_rch x
  have hr := rchL_of hok hL
  rw [visL_lN] at hr
  have HL := Lib.hid hL
  have HOK := Lib.hid hok
  have hgd := good_of hok
  have h64 := hgd.funs
  have hpos := hgd.some
  obtain ⟨hz0, hz1⟩ := less_zero hL hpos
  have hlp : 0 < (lN V x.F.len).length := hz1
  have hl64 : (lN V x.F.len).length ≤ 64 := Nat.le_trans (lN_le V x.F.len) h64
  have HGD := Lib.hid hgd
  have HR := Lib.hid fun W h => sreach_any x a W h
  have HA := Lib.hid fun W h h' => alive3_any W h h'
  have HO := Lib.hid fun W h => sorder_any x a W h
  have HU := Lib.hid fun b W h => sorder_any (lessSc x V) b W h
  have HRU := Lib.hid fun b W h => sreach_any (lessSc x V) b W h
  have HCU := Lib.hid fun b W h => scheck_any (lessSc x V) b W h
  have e1 : scE x = 0 := by unfold scE; rw [hok]; rfl
  have e2 : scE (lessSc x V) = 0 := by unfold scE; rw [scOk_less hok hL]; rfl
  have HORD := Lib.hid (ordN_less hok hL)
  have hrl := rchL_less hok hL
  unfold ReachPost at HR HRU
  rw [e1, ← hr] at HR
  rw [e2] at HU HRU HCU
  rw [e1] at HO
  have HRL := Lib.hid hrl
  obtain ⟨sp, sn, sc, fp, fn, fc⟩ := a
  obtain ⟨hS, hF⟩ := id h
  obtain rfl : fn = x.F.len := hF.1
  dsimp only at HR HO hS hF ⊢
  have hbx := heap_new w (.cells #[.slice sp sn sc, .slice fp x.F.len fc] 25)
  have B0 := (Below.refl w.heap.size w).alloc (Nat.le_refl _) (.cells #[.slice sp sn sc, .slice fp x.F.len fc] 25)
  obtain ⟨⟨s1, s2⟩, _⟩ := two_box hbx
  have HH := Lib.hid (And.intro h (And.intro hbx B0))
  have HF := Lib.hid hF
  have hmk := run_make_ints0 x.F.len h64
  clear h hbx B0 e1 e2 hok hgd hL hr hrl hV hz0 hz1 hS hF
  go_enter Tryz.func12, Tryz.ntmps12
  go_wp2_with fail
  refine (HR.out _ (HH.out.1.alloc _)).mono ?_
  rintro e w1 ⟨v, rfl, hown, hb1⟩
  rw [List.length_map, List.map_map] at hown
  have hv : ∃ lg c, v = .slice (some ⟨lg, 0, none⟩) (lN V x.F.len).length c ∧ lg < w1.heap.size ∧ w.heap.size < lg ∧ ∀ i, i < (lN V x.F.len).length → w1.cell? ⟨lg, i, none⟩ = some (.int .i64 (((lN V x.F.len).getD i 0 : Nat) : Int)) := by
    have hlt := hown.lt
    rcases hown.2 with ⟨_, h0⟩ | ⟨g, cap, cur, hv, _⟩
    · omega
    · refine ⟨g, cap, hv, (hlt g (by rw [hv]; simp [Value.ownBlock])).2, ?_, fun i hi => ?_⟩
      · have := (hlt g (by rw [hv]; simp [Value.ownBlock])).1
        simp at this
        omega
      · rw [hv] at hown
        rw [hown.cellAt _ (by omega)]
        simp [hi, intv]
  obtain ⟨lg, c, rfl, hlg, hlw, hlc⟩ := hv
  have hbx1 := box3_later hb1 HH.out.2.1
  have hB1 := HH.out.2.2.trans (hb1.mono (by simp))
  obtain ⟨⟨s3, s4⟩, _⟩ := two_box hbx1
  have HB1 := Lib.hid (And.intro hB1 (And.intro hbx1 hlc))
  have hw1 := hB1.size
  clear hown hb1 hB1 hbx1 hlc s1 s2 HR
  go_wp2_with fail
  have hI0 : IA (w1.alloc (.cells (madeCells #[.int .i64 0] x.F.len) 3)) w1.heap.size x.F.len (fun _ => 0) := by unfold IA; rw [← ia_made]; exact heap_new _ _
  have HI0 := Lib.hid hI0
  have hlg2 : lg ≠ w1.heap.size := by omega
  have hnb : w.heap.size < w1.heap.size := by omega
  have HW1 := Lib.hid (show w1.heap.size < (w1.alloc (.cells (madeCells #[.int .i64 0] x.F.len) 3)).heap.size by simp)
  have HB2 := Lib.hid (And.intro (HB1.out.1.alloc hw1 (.cells (madeCells #[.int .i64 0] x.F.len) 3)) (And.intro (alloc_kept HB1.out.2.1 (.cells (madeCells #[.int .i64 0] x.F.len) 3)) fun i hi => (keep_alloc w1 (.cells (madeCells #[.int .i64 0] x.F.len) 3) _ _ (lt_of_cell (HB1.out.2.2 i hi))).trans (HB1.out.2.2 i hi)))
  generalize w1.alloc (.cells (madeCells #[.int .i64 0] x.F.len) 3) = W2 at HI0 HW1 HB2 ⊢
  clear hmk hI0 s3 s4 HB1
  generalize w1.heap.size = tb at hlg hlg2 hnb HI0 HW1 hw1 ⊢
  go_loopw [44] (fun i wr => ∃ j : Nat, j ≤ x.F.len ∧ i = .int .i64 (j : Int) ∧ IA wr tb x.F.len (fun i => if i < j then -1 else 0) ∧ Bn tb W2 wr)
    (fun i _ => x.F.len - (Go.RowKit.intOf i).toNat)
  case atStart => exact ⟨0, Nat.zero_le _, rfl, HI0.out.congr fun i _ => by simp, Bn.refl _ _⟩
  case round =>
    clear HI0
    obtain ⟨j, hj, rfl, hI, hbn⟩ := hrel
    have HI := Lib.hid (And.intro hI hbn)
    by_cases hlt : j < x.F.len
    · obtain ⟨i1, i2⟩ := hI.cell hlt
      clear hI hbn
      go_wp2_with fail
      go_roundw
      case rel =>
        refine ⟨j + 1, by omega, by go_num, (HI.out.1.set j (-1)).congr fun i _ => ?_, HI.out.2.trans (Bn.set _ _ _)⟩
        unfold updI
        dsimp only
        by_cases e : i = j
        · rw [if_pos e, if_pos (by omega)]
        · rw [if_neg e]
          by_cases h2 : i < j
          · rw [if_pos h2, if_pos (by omega)]
          · rw [if_neg h2, if_neg (by omega)]
      case measure => simp [Go.RowKit.intOf]; omega
    · obtain rfl : j = x.F.len := by omega
      have HI2 := Lib.hid (And.intro (hI.congr (g := tabF V 0) fun i hi => by unfold tabF; rw [if_pos hi, if_neg (by omega)]) hbn)
      clear HI hI hbn hj hlt
      go_wp2_with fail
      go_loopw [2, 7, 53] (fun v2 v7 i wr => ∃ j : Nat, j ≤ (lN V x.F.len).length ∧ v2 = .bool false ∧ v7 = .int .i64 (if j = 0 then -1 else (((lN V x.F.len).getD (j - 1) 0 : Nat) : Int)) ∧ i = .int .i64 (j : Int) ∧ IA wr tb x.F.len (tabF V j) ∧ Bn tb W2 wr)
        (fun _ _ i _ => (lN V x.F.len).length - (Go.RowKit.intOf i).toNat)
      case atStart => exact ⟨0, Nat.zero_le _, rfl, by rw [if_pos rfl], rfl, HI2.out.1, HI2.out.2⟩
      case round =>
        clear HI2
        obtain ⟨j, hj, rfl, rfl, rfl, hI, hbn⟩ := hrel
        have HI := Lib.hid (And.intro hI hbn)
        by_cases hlt : j < (lN V x.F.len).length
        · obtain ⟨n, hn, hVn, hrk, hgn⟩ := lN_get hlt
          have hc1 := hbn.cell (HB2.out.2.2 j hlt) hlg2
          rw [hgn] at hc1
          obtain ⟨i1, i2⟩ := hI.cell hn
          have hbx2 := (hbn.block w.heap.size (lt_of_block HB2.out.2.1) (by omega)).trans HB2.out.2.1
          obtain ⟨⟨s1, s2⟩, _⟩ := two_box hbx2
          obtain ⟨lst, hlst⟩ : ∃ lst, (if j = 0 then (-1 : Int) else (((lN V x.F.len).getD (j - 1) 0 : Nat) : Int)) = lst := ⟨_, rfl⟩
          have hless : lst < (n : Int) := by
            rw [← hlst]
            by_cases h0 : j = 0
            · rw [if_pos h0]; omega
            · rw [if_neg h0]
              obtain ⟨n', _, hV', hrk', hg'⟩ := lN_get (V := V) (m := x.F.len) (i := j - 1) (by omega)
              rw [hg']
              have := lN_mono (a := n') (b := n) hV' (by omega)
              omega
          rw [hlst]
          have hnm : (n : Int) < (x.F.len : Int) := by omega
          have hnl : ¬ (n : Int) ≤ lst := by omega
          have hnle : decide ((n : Int) ≤ lst) = false := by simp; omega
          have HN := Lib.hid (And.intro hrk (And.intro hVn (And.intro hgn hlst)))
          clear hI hbn hbx2 hrk hVn hgn hlst
          go_wp2_with fail
          go_roundw
          case rel =>
            refine ⟨j + 1, by omega, by rfl, by rw [if_neg (Nat.succ_ne_zero j), Nat.add_sub_cancel, HN.out.2.2.1], by go_num, ?_, HI.out.2.trans (Bn.set _ _ _)⟩
            have h1 := HI.out.1.set n (j : Int)
            rw [← HN.out.1] at h1 ⊢
            exact h1.congr fun i _ => tab_step HN.out.2.1 i
          case measure => simp [Go.RowKit.intOf]; omega
        · obtain rfl : j = (lN V x.F.len).length := by omega
          have hto : ToI wr tb x.F.len V := (hI.congr (g := fun i => toI V (i : Int)) fun i hi => tab_end hi).toI
          have hbx2 := (hbn.block w.heap.size (lt_of_block HB2.out.2.1) (by omega)).trans HB2.out.2.1
          obtain ⟨⟨s1, s2⟩, _⟩ := two_box hbx2
          have hlc : ∀ i, i < (lN V x.F.len).length → wr.cell? ⟨lg, i, none⟩ = some (.int .i64 (((lN V x.F.len).getD i 0 : Nat) : Int)) := fun i hi => hbn.cell (HB2.out.2.2 i hi) hlg2
          have hbw : Below w.heap.size w wr := hbn.to_below HB2.out.1 (Nat.le_of_lt hnb) (by have := HW1.out; omega)
          have HT := Lib.hid (And.intro hto (And.intro hbx2 (And.intro hlc hbw)))
          have hwz := hbw.size
          clear HI hI hbn hto hbx2 hlc hbw HB2
          go_wp2_with fail
          have hLS : LS w (wr.alloc (.cells #[.slice sp sn sc, .slice none 0 0] 25)) (wr.heap.size + 1) wr.heap.size sp sn sc none 0 0 (lessSc x V).F :=
            ⟨heap_new _ _, ⟨[], World.ownsRow_nil _ _ _ _, fun i hi => absurd hi (Nat.not_lt_zero _)⟩, HT.out.2.2.2.alloc hwz _, hwz, Nat.lt_succ_self _⟩
          have htl : tb < wr.heap.size := lt_of_cell (HT.out.1 0 hpos)
          have hll : lg < wr.heap.size := lt_of_cell (HT.out.2.2.1 0 hlp)
          have hwl : w.heap.size < wr.heap.size := lt_of_block HT.out.2.1
          have HT3 := Lib.hid (And.intro hLS (And.intro (HT.out.1.below ((Below.refl wr.heap.size wr).alloc (Nat.le_refl _) (.cells #[.slice sp sn sc, .slice none 0 0] 25))) (And.intro (alloc_kept HT.out.2.1 (.cells #[.slice sp sn sc, .slice none 0 0] 25)) (And.intro (fun i hi => (keep_alloc wr (.cells #[.slice sp sn sc, .slice none 0 0] 25) _ _ (lt_of_cell (HT.out.2.2.1 i hi))).trans (HT.out.2.2.1 i hi)) (show wr.heap.size < (wr.alloc (.cells #[.slice sp sn sc, .slice none 0 0] 25)).heap.size by simp)))))
          clear hLS HT s1 s2
          generalize wr.alloc (.cells #[.slice sp sn sc, .slice none 0 0] 25) = W3 at HT3 ⊢
          generalize wr.heap.size = ub at HT3 htl hll hwl hwz ⊢
          go_loopw [79] (fun i wx => ∃ (j : Nat) (po : Option Addr) (co : Nat), j ≤ (lN V x.F.len).length ∧ i = .int .i64 (j : Int) ∧ LS w wx (ub + 1) ub sp sn sc po co j (lessSc x V).F ∧ Below ub W3 wx)
            (fun i _ => (lN V x.F.len).length - (Go.RowKit.intOf i).toNat)
          case atStart => exact ⟨0, none, 0, Nat.zero_le _, rfl, HT3.out.1, Below.refl _ _⟩
          case round =>
            obtain ⟨j, po, co, hj, rfl, hS, hbn⟩ := hrel
            have HS := Lib.hid (And.intro hS hbn)
            have hbx2 := (hbn.block w.heap.size hwl).trans HT3.out.2.2.1
            obtain ⟨⟨s1, s2⟩, _⟩ := two_box hbx2
            by_cases hlt : j < (lN V x.F.len).length
            · obtain ⟨n, hn, hVn, hrk, hgn⟩ := lN_get hlt
              have hc1 := ((bcell hbn).1 _ _ hll).trans (HT3.out.2.2.2.1 j hlt)
              rw [hgn] at hc1
              have hto : ToI wr tb x.F.len V := fun i hi => ((bcell hbn).1 _ _ htl).trans (HT3.out.2.1 i hi)
              obtain ⟨hfn, hfc, hfm, hfz, hfr⟩ := HF.out
              unfold maxLen at hfm
              rcases hfr with h0 | ⟨fb, off, rfl, hfr⟩
              · omega
              obtain ⟨p, l, c', q, m', d, r1, r2, r3, r4, r5, hT6, hX6⟩ := hfr n hn
              have hk := (bcell hS.base).1
              have c1 := (hk _ _ (lt_of_cell r1)).trans r1
              have c2 := (hk _ _ (lt_of_cell r2)).trans r2
              have c3 := (hk _ _ (lt_of_cell r3)).trans r3
              have c4 := (hk _ _ (lt_of_cell r4)).trans r4
              have c5 := (hk _ _ (lt_of_cell r5)).trans r5
              have hl := hT6.1
              have hm := hX6.1
              subst hl hm
              have hnm : (n : Int) < (x.F.len : Int) := by omega
              obtain ⟨⟨l1, l2⟩, l3, l4⟩ := hS.cells
              have l2a := fun o => (hS.below ((Below.refl wr.heap.size wr).alloc (Nat.le_refl _) o)).cells.1.2
              have hul := lt_of_block hS.box
              have HGN := Lib.hid hgn
              have HT6 := Lib.hid hT6
              have HRN := Lib.hid fun W (hb : Below wr.heap.size wr W) => srename_any V x.F.len tb ((x.F.bt n).sz + 1) (x.F.bt n) (x.F.bk n) (x.F.bn n) W q (x.F.bt n).len d (Nat.lt_succ_self _) (by have := HGD.out.size n hn; omega) (hto.below hb) h64 (fun hk1 => by
                have h1 := HGD.out.head n hn
                obtain ⟨g0, g1 | g1 | g1⟩ := h1
                · omega
                · exact ⟨g0, g1.2⟩
                · omega) (nums_of (HGD.out.body n hn)) ((hX6.below hS.base).below hb)
              have HBW := Lib.hid fun o => (Below.refl wr.heap.size wr).alloc (Nat.le_refl _) o
              have hmx : j + 1 ≤ maxLen := by simp only [maxLen]; omega
              have hby : (j + 1) * 80 ≤ 140737488355328 := by omega
              clear hS hbn hbx2 hto hT6 hX6 r1 r2 r3 r4 r5 hk hgn hfr
              generalize hnmv : x.F.nm n = nmv at c1
              generalize hstl : (x.F.st n).len = stl at c2
              generalize hrnv : ren1 V (x.F.bk n) (x.F.bn n) = rnv at HRN
              generalize hrlv : renX V (x.F.bt n) = RX at HRN
              generalize hbkv : x.F.bk n = bkv at c3 HRN hrnv
              generalize hbnv : x.F.bn n = bnv at c4 HRN hrnv
              generalize hbtl : (x.F.bt n).len = btl at c5 HRN
              have K0 := fun_box (show ((wr.alloc (.cells #[.string nmv, .slice p stl c', .int .i64 bkv, .int .i64 bnv, .slice q btl d] 52)).drew).heap[wr.heap.size]? = _ from heap_new _ _)
              have y1 : ((wr.alloc (.cells #[.string nmv, .slice p stl c', .int .i64 bkv, .int .i64 bnv, .slice q btl d] 52)).drew).cell? ⟨ub, 1, none⟩ = some (.slice po j co) := l2a _
              have hne9 : wr.heap.size ≠ ub := by omega
              have hrow : ∀ k, (Value.slice po 0 0).ownBlock = some k → k < wr.heap.size := fun k hk => by
                obtain ⟨us, hO, _⟩ := HS.out.1.row
                exact row_lt hO k hk
              have hfar : (Value.slice po 0 0).ownBlock ≠ some wr.heap.size := fun e => Nat.lt_irrefl _ (hrow _ e)
              go_upto_region 24 with fail
              have HNV := Lib.hid (And.intro hnmv (And.intro hstl (And.intro hbkv (And.intro hbnv (And.intro hrnv (And.intro hbtl hrlv))))))
              clear hnmv hstl hbkv hbnv hrnv hbtl hrlv
              refine wp_region_held_drew (S := (fun W => W.cell? ⟨wr.heap.size, 0, none⟩ = some (.string nmv) ∧ W.cell? ⟨wr.heap.size, 1, none⟩ = some (.slice p stl c') ∧ W.cell? ⟨wr.heap.size, 2, none⟩ = some (.int .i64 bkv) ∧ W.cell? ⟨wr.heap.size, 2 + 1, none⟩ = some (.int .i64 bnv) ∧ W.cell? ⟨wr.heap.size, 2 + 2, none⟩ = some (.slice q btl d))) (by kernel_rfl) K0 (fun hHeld => ?_)
              refine wpAnyH_take (i := 0) (oi := { dst := some 88, op := Go.Op.fieldAddr 25 (Go.Operand.tmp 10) 1, type := 0, pos := "law.go:155", after := #[], guard := none }) (v := ?_) rfl (by kernel_rfl) (by kernel_rfl) (by kernel_rfl) (fun _ _ _ h => h) (Or.inl ⟨by rfl, ?_⟩) (by assumption) ?_
              rotate_left
              · intro W hSw; (try dsimp only at hSw); go_simp; with_reducible rfl
              try simp only [Act.put, List.setIfInBounds_toArray, List.set_cons_zero, List.set_cons_succ]
              refine wpAnyH_take (i := 2) (oi := { dst := some 90, op := Go.Op.fieldAddr 52 (Go.Operand.tmp 13) 0, type := 0, pos := "law.go:155", after := #[], guard := none }) (v := ?_) rfl (by kernel_rfl) (by kernel_rfl) (by kernel_rfl) (fun _ _ _ h => h) (Or.inl ⟨by rfl, ?_⟩) (by assumption) ?_
              rotate_left
              · intro W hSw; (try dsimp only at hSw); go_simp; with_reducible rfl
              try simp only [Act.put, List.setIfInBounds_toArray, List.set_cons_zero, List.set_cons_succ]
              refine wpAnyH_take (i := 3) (oi := { dst := some 91, op := Go.Op.load 9 (Go.Operand.tmp 90), type := 9, pos := "law.go:155", after := #[{ on := 2, ground := Go.Ground.data }], guard := none }) (v := ?_) rfl (by kernel_rfl) (by kernel_rfl) (by kernel_rfl) (fun _ _ _ h => h) (Or.inl ⟨by rfl, ?_⟩) (by assumption) ?_
              rotate_left
              · intro W hSw; (try dsimp only at hSw); go_simp; with_reducible rfl
              try simp only [Act.put, List.setIfInBounds_toArray, List.set_cons_zero, List.set_cons_succ]
              refine wpAnyH_take (i := 4) (oi := { dst := some 92, op := Go.Op.fieldAddr 52 (Go.Operand.tmp 13) 1, type := 0, pos := "law.go:155", after := #[], guard := none }) (v := ?_) rfl (by kernel_rfl) (by kernel_rfl) (by kernel_rfl) (fun _ _ _ h => h) (Or.inl ⟨by rfl, ?_⟩) (by assumption) ?_
              rotate_left
              · intro W hSw; (try dsimp only at hSw); go_simp; with_reducible rfl
              try simp only [Act.put, List.setIfInBounds_toArray, List.set_cons_zero, List.set_cons_succ]
              refine wpAnyH_take (i := 5) (oi := { dst := some 93, op := Go.Op.load 47 (Go.Operand.tmp 92), type := 47, pos := "law.go:155", after := #[{ on := 4, ground := Go.Ground.data }], guard := none }) (v := ?_) rfl (by kernel_rfl) (by kernel_rfl) (by kernel_rfl) (fun _ _ _ h => h) (Or.inl ⟨by rfl, ?_⟩) (by assumption) ?_
              rotate_left
              · intro W hSw; (try dsimp only at hSw); go_simp; with_reducible rfl
              try simp only [Act.put, List.setIfInBounds_toArray, List.set_cons_zero, List.set_cons_succ]
              refine wpAnyH_take (i := 6) (oi := { dst := some 94, op := Go.Op.fieldAddr 52 (Go.Operand.tmp 13) 2, type := 0, pos := "law.go:155", after := #[], guard := none }) (v := ?_) rfl (by kernel_rfl) (by kernel_rfl) (by kernel_rfl) (fun _ _ _ h => h) (Or.inl ⟨by rfl, ?_⟩) (by assumption) ?_
              rotate_left
              · intro W hSw; (try dsimp only at hSw); go_simp; with_reducible rfl
              try simp only [Act.put, List.setIfInBounds_toArray, List.set_cons_zero, List.set_cons_succ]
              refine wpAnyH_take (i := 7) (oi := { dst := some 95, op := Go.Op.load 50 (Go.Operand.tmp 94), type := 50, pos := "law.go:155", after := #[{ on := 6, ground := Go.Ground.data }], guard := none }) (v := ?_) rfl (by kernel_rfl) (by kernel_rfl) (by kernel_rfl) (fun _ _ _ h => h) (Or.inl ⟨by rfl, ?_⟩) (by assumption) ?_
              rotate_left
              · intro W hSw; (try dsimp only at hSw); go_simp; with_reducible rfl
              try simp only [Act.put, List.setIfInBounds_toArray, List.set_cons_zero, List.set_cons_succ]
              refine wpAnyH_take (i := 8) (oi := { dst := some 96, op := Go.Op.move (Go.Operand.tmp 5), type := 33, pos := "law.go:155", after := #[], guard := none }) (v := ?_) rfl (by kernel_rfl) (by kernel_rfl) (by kernel_rfl) (fun _ _ _ h => h) (Or.inl ⟨by rfl, ?_⟩) (by assumption) ?_
              rotate_left
              · intro W hSw; (try dsimp only at hSw); go_simp; with_reducible rfl
              try simp only [Act.put, List.setIfInBounds_toArray, List.set_cons_zero, List.set_cons_succ]
              refine wpAnyH_ready (rs := [1, 9]) (by kernel_rfl) (by simp) ?_
              refine AllReadyH.cons (o := { dst := some 89, op := Go.Op.load 23 (Go.Operand.tmp 88), type := 23, pos := "law.go:155", after := #[{ on := 0, ground := Go.Ground.data }], guard := none }) rfl (fun K hK => ?_) ?_
              · go_simp
                refine hK.out _ _ hHeld (fun hHeld => ?_)
                clear hK K
                try simp only [Act.put, List.setIfInBounds_toArray, List.set_cons_zero, List.set_cons_succ]
                refine wpAnyH_ready (rs := [9]) (by kernel_rfl) (by simp) ?_
                refine AllReadyH.cons (o := { dst := some 97, op := Go.Op.call { callee := Go.Callee.value (Go.Operand.func 33), args := #[Go.Operand.tmp 95, Go.Operand.tmp 96], argTypes := #[50, 33] }, type := 50, pos := "law.go:155", after := #[{ on := 7, ground := Go.Ground.data }, { on := 8, ground := Go.Ground.data }], guard := none }) rfl (fun K hK => ?_) AllReadyH.nil
                go_simp
                go_at_call 33
                refine (HRN.out _ (HBW.out _).drew).mono ?_
                rintro e w5 ⟨q1, c1', rfl, hO5, hb5⟩
                obtain ⟨hB5, hfb⟩ := fbox_after hb5
                have S5 := HS.out.1.below hB5
                have HS5 := Lib.hid (And.intro S5 (And.intro hB5 hO5))
                obtain ⟨⟨m1, m2⟩, m3, m4⟩ := S5.cells
                have mo : ∀ o, (w5.alloc o).cell? ⟨ub, 1, none⟩ = some (.slice po j co) := fun o => (two_box (alloc_kept S5.box o)).1.2
                have hul5 := lt_of_block S5.box
                obtain ⟨us, hO', hC'⟩ := S5.row
                have hownA := fun o => hO'.alloc (w := w5) o
                have HOC := Lib.hid (And.intro hO' hC')
                have HFB := Lib.hid hfb
                have K4 := fun_box hfb
                have K4a := fun o => fun_box (alloc_kept hfb o)
                clear S5 hO' hC' hfb hb5 hO5 hB5
                go_wp2_with fail
                refine hK.out _ _ K4 (fun hHeld => ?_)
                clear hK K
                try simp only [Act.put, List.setIfInBounds_toArray, List.set_cons_zero, List.set_cons_succ]
                refine wpAnyH_take (i := 10) (oi := { dst := some 98, op := Go.Op.build 52 #[(0, Go.Operand.tmp 91), (1, Go.Operand.tmp 93), (2, Go.Operand.tmp 97)], type := 52, pos := "law.go:155", after := #[{ on := 3, ground := Go.Ground.data }, { on := 5, ground := Go.Ground.data }, { on := 9, ground := Go.Ground.data }], guard := none }) (v := ?_) rfl (by kernel_rfl) (by kernel_rfl) (by kernel_rfl) (fun _ _ _ h => h) (Or.inl ⟨by rfl, ?_⟩) (by assumption) ?_
                rotate_left
                · intro W hSw; (try dsimp only at hSw); go_simp; with_reducible rfl
                try simp only [Act.put, List.setIfInBounds_toArray, List.set_cons_zero, List.set_cons_succ]
                refine wpAnyH_ready (rs := [11]) (by kernel_rfl) (by simp) ?_
                refine AllReadyH.cons (o := { dst := some 99, op := Go.Op.buildSlice 23 1 #[(0, Go.Operand.tmp 98)], type := 23, pos := "law.go:155", after := #[{ on := 10, ground := Go.Ground.data }], guard := none }) rfl (fun K hK => ?_) AllReadyH.nil
                go_simp
                refine hK.out _ _ (K4a _) (fun hHeld => ?_)
                clear hK K
                try simp only [Act.put, List.setIfInBounds_toArray, List.set_cons_zero, List.set_cons_succ]
                refine wpAnyH_ready (rs := [12]) (by kernel_rfl) (by simp) ?_
                refine AllReadyH.cons (o := { dst := some 100, op := Go.Op.call { callee := Go.Callee.builtin Go.Builtin.append, args := #[Go.Operand.tmp 89, Go.Operand.tmp 99], argTypes := #[23, 23] }, type := 23, pos := "law.go:155", after := #[{ on := 1, ground := Go.Ground.data }, { on := 11, ground := Go.Ground.data }, { on := 9, ground := Go.Ground.chain }], guard := none }) rfl (fun K hK => ?_) AllReadyH.nil
                refine step_append_lies (w5.alloc (.cells #[.string nmv, .slice p stl c', .int .i64 bkv, .int .i64 rnv, .slice q1 RX.len c1'] 52)) rfl (.tmp 89) (.tmp 99) 23 rfl (ub + 1) 52 f0 (.agg #[.string ⟨#[]⟩, .slice none 0 0, .int .i64 0, .int .i64 0, .slice none 0 0]) 5 80 Tryz.underlying23 hf0 hy0 hy1' hy2 rfl (by decide) (.slice po j co) j us rfl (hownA _) ⟨w5.heap.size, 0, none⟩ 1 1 [.string nmv, .slice p stl c', .int .i64 bkv, .int .i64 rnv, .slice q1 RX.len c1'] rfl rfl (World.news_of_block (heap_new _ _)) (one_fn5 _ _ _ _ _ _ _ _ _) Nat.one_pos hmx hby (base_le _ hul5) (w5.heap.size + 1) (size_new _ _) ?_
                intro g cp w9 hown9 hgrow hat hglt
                have hmid := LS.mid HS5.out.1 HOC.out.1 hgrow
                obtain ⟨⟨o1, o2⟩, o3, o4⟩ := two_box (hmid.trans HS5.out.1.box)
                have hf9 := (NS.grow hgrow _ (lt_of_block HFB.out) hfar).trans HFB.out
                have K5 := fun_box hf9
                have K6 := fun_box ((Below.heap_setCell w9 ⟨ub, 1, none⟩ (.slice (some ⟨g, 0, none⟩) (j + 1) cp) wr.heap.size hne9).trans hf9)
                refine hK.out _ _ K5 (fun hHeld => ?_)
                clear hK K
                try simp only [Act.put, List.setIfInBounds_toArray, List.set_cons_zero, List.set_cons_succ]
                refine wpAnyH_take (i := 13) (oi := { dst := some 101, op := Go.Op.fieldAddr 25 (Go.Operand.tmp 10) 1, type := 0, pos := "law.go:155", after := #[{ on := 0, ground := Go.Ground.phase }, { on := 1, ground := Go.Ground.phase }, { on := 2, ground := Go.Ground.phase }, { on := 3, ground := Go.Ground.phase }, { on := 4, ground := Go.Ground.phase }, { on := 5, ground := Go.Ground.phase }, { on := 6, ground := Go.Ground.phase }, { on := 7, ground := Go.Ground.phase }, { on := 8, ground := Go.Ground.phase }, { on := 9, ground := Go.Ground.phase }, { on := 10, ground := Go.Ground.phase }, { on := 11, ground := Go.Ground.phase }, { on := 12, ground := Go.Ground.phase }], guard := none }) (v := ?_) rfl (by kernel_rfl) (by kernel_rfl) (by kernel_rfl) (fun _ _ _ h => h) (Or.inl ⟨by rfl, ?_⟩) (by assumption) ?_
                rotate_left
                · intro W hSw; (try dsimp only at hSw); go_simp; with_reducible rfl
                try simp only [Act.put, List.setIfInBounds_toArray, List.set_cons_zero, List.set_cons_succ]
                refine wpAnyH_ready (rs := [14]) (by kernel_rfl) (by simp) ?_
                refine AllReadyH.cons (o := { dst := none, op := Go.Op.store 23 (Go.Operand.tmp 101) (Go.Operand.tmp 100), type := 0, pos := "law.go:155", after := #[{ on := 13, ground := Go.Ground.data }, { on := 12, ground := Go.Ground.data }, { on := 12, ground := Go.Ground.chain }, { on := 0, ground := Go.Ground.phase }, { on := 1, ground := Go.Ground.phase }, { on := 2, ground := Go.Ground.phase }, { on := 3, ground := Go.Ground.phase }, { on := 4, ground := Go.Ground.phase }, { on := 5, ground := Go.Ground.phase }, { on := 6, ground := Go.Ground.phase }, { on := 7, ground := Go.Ground.phase }, { on := 8, ground := Go.Ground.phase }, { on := 9, ground := Go.Ground.phase }, { on := 10, ground := Go.Ground.phase }, { on := 11, ground := Go.Ground.phase }, { on := 12, ground := Go.Ground.phase }], guard := none }) rfl (fun K hK => ?_) AllReadyH.nil
                go_simp
                refine hK.out _ _ K6 (fun hHeld => ?_)
                clear hK K
                try simp only [Act.put, List.setIfInBounds_toArray, List.set_cons_zero, List.set_cons_succ]
                refine wpAnyH_done (by kernel_rfl) ?_ _
                have HF9 := Lib.hid (And.intro hown9 (And.intro hgrow hat))
                clear hown9 hgrow hat hglt hmid o1 o2 o3 o4 hf9 K5 K6 K4 K4a m1 m2 m3 m4 mo hownA
                go_wp2_with fail
                go_roundw
                case rel =>
                  have e := HGN.out
                  have hT' : IsT w ((lessSc x V).F.st j) p ((lessSc x V).F.st j).len c' := by
                    show IsT w (x.F.st ((lN V x.F.len).getD j 0)) p (x.F.st ((lN V x.F.len).getD j 0)).len c'
                    rw [e]; exact HT6.out
                  have hown' : w9.ownsRow (ub + 1) 52 5 (.slice (some ⟨g, 0, none⟩) (j + 1) cp) (j + 1) (us ++ [.string ((lessSc x V).F.nm j), .slice p ((lessSc x V).F.st j).len c', .int .i64 ((lessSc x V).F.bk j), .int .i64 ((lessSc x V).F.bn j), .slice q1 ((lessSc x V).F.bt j).len c1']) := by
                    show w9.ownsRow (ub + 1) 52 5 (.slice (some ⟨g, 0, none⟩) (j + 1) cp) (j + 1) (us ++ [.string (x.F.nm ((lN V x.F.len).getD j 0)), .slice p (x.F.st ((lN V x.F.len).getD j 0)).len c', .int .i64 (x.F.bk ((lN V x.F.len).getD j 0)), .int .i64 (ren1 V (x.F.bk ((lN V x.F.len).getD j 0)) (x.F.bn ((lN V x.F.len).getD j 0))), .slice q1 (renX V (x.F.bt ((lN V x.F.len).getD j 0))).len c1'])
                    rw [e, HNV.out.1, HNV.out.2.1, HNV.out.2.2.1, HNV.out.2.2.2.1, HNV.out.2.2.2.2.1, HNV.out.2.2.2.2.2.2]; exact HF9.out.1
                  have hX' := HS5.out.2.2
                  rw [← HNV.out.2.2.2.2.2.2, ← e] at hX'
                  have SP := LS.push (w0 := w) HS5.out.1 HOC.out.1 HOC.out.2 hT' HS5.out.1.hu hul5 HS5.out.1.base hX' (show ub + 1 ≤ (wr.alloc _).heap.size by simp; omega) (Nat.le_refl _) (fun k hk => Or.inl (show k < (wr.alloc _).heap.size by have := hrow k hk; simp; omega)) hown' HF9.out.2.1 HF9.out.2.2
                  exact ⟨j + 1, some ⟨g, 0, none⟩, cp, by omega, by go_num, SP.1, LS.ahead HS5.out.1 HOC.out.1 HF9.out.2.1 (HS.out.2.trans (HS5.out.2.1.mono (Nat.le_of_lt hul))) (Nat.le_refl _) _⟩
                case measure => simp [Go.RowKit.intOf]; omega
              refine AllReadyH.cons (o := { dst := some 97, op := Go.Op.call { callee := Go.Callee.value (Go.Operand.func 33), args := #[Go.Operand.tmp 95, Go.Operand.tmp 96], argTypes := #[50, 33] }, type := 50, pos := "law.go:155", after := #[{ on := 7, ground := Go.Ground.data }, { on := 8, ground := Go.Ground.data }], guard := none }) rfl (fun K hK => ?_) AllReadyH.nil
              go_simp
              go_at_call 33
              refine (HRN.out _ (HBW.out _).drew).mono ?_
              rintro e w5 ⟨q1, c1', rfl, hO5, hb5⟩
              obtain ⟨hB5, hfb⟩ := fbox_after hb5
              have S5 := HS.out.1.below hB5
              have HS5 := Lib.hid (And.intro S5 (And.intro hB5 hO5))
              obtain ⟨⟨m1, m2⟩, m3, m4⟩ := S5.cells
              have mo : ∀ o, (w5.alloc o).cell? ⟨ub, 1, none⟩ = some (.slice po j co) := fun o => (two_box (alloc_kept S5.box o)).1.2
              have hul5 := lt_of_block S5.box
              obtain ⟨us, hO', hC'⟩ := S5.row
              have hownA := fun o => hO'.alloc (w := w5) o
              have HOC := Lib.hid (And.intro hO' hC')
              have HFB := Lib.hid hfb
              have K4 := fun_box hfb
              have K4a := fun o => fun_box (alloc_kept hfb o)
              clear S5 hO' hC' hfb hb5 hO5 hB5
              go_wp2_with fail
              refine hK.out _ _ K4 (fun hHeld => ?_)
              clear hK K
              try simp only [Act.put, List.setIfInBounds_toArray, List.set_cons_zero, List.set_cons_succ]
              refine wpAnyH_take (i := 10) (oi := { dst := some 98, op := Go.Op.build 52 #[(0, Go.Operand.tmp 91), (1, Go.Operand.tmp 93), (2, Go.Operand.tmp 97)], type := 52, pos := "law.go:155", after := #[{ on := 3, ground := Go.Ground.data }, { on := 5, ground := Go.Ground.data }, { on := 9, ground := Go.Ground.data }], guard := none }) (v := ?_) rfl (by kernel_rfl) (by kernel_rfl) (by kernel_rfl) (fun _ _ _ h => h) (Or.inl ⟨by rfl, ?_⟩) (by assumption) ?_
              rotate_left
              · intro W hSw; (try dsimp only at hSw); go_simp; with_reducible rfl
              try simp only [Act.put, List.setIfInBounds_toArray, List.set_cons_zero, List.set_cons_succ]
              refine wpAnyH_ready (rs := [1, 11]) (by kernel_rfl) (by simp) ?_
              refine AllReadyH.cons (o := { dst := some 89, op := Go.Op.load 23 (Go.Operand.tmp 88), type := 23, pos := "law.go:155", after := #[{ on := 0, ground := Go.Ground.data }], guard := none }) rfl (fun K hK => ?_) ?_
              · go_simp
                refine hK.out _ _ hHeld (fun hHeld => ?_)
                clear hK K
                try simp only [Act.put, List.setIfInBounds_toArray, List.set_cons_zero, List.set_cons_succ]
                refine wpAnyH_ready (rs := [11]) (by kernel_rfl) (by simp) ?_
                refine AllReadyH.cons (o := { dst := some 99, op := Go.Op.buildSlice 23 1 #[(0, Go.Operand.tmp 98)], type := 23, pos := "law.go:155", after := #[{ on := 10, ground := Go.Ground.data }], guard := none }) rfl (fun K hK => ?_) AllReadyH.nil
                go_simp
                refine hK.out _ _ (K4a _) (fun hHeld => ?_)
                clear hK K
                try simp only [Act.put, List.setIfInBounds_toArray, List.set_cons_zero, List.set_cons_succ]
                refine wpAnyH_ready (rs := [12]) (by kernel_rfl) (by simp) ?_
                refine AllReadyH.cons (o := { dst := some 100, op := Go.Op.call { callee := Go.Callee.builtin Go.Builtin.append, args := #[Go.Operand.tmp 89, Go.Operand.tmp 99], argTypes := #[23, 23] }, type := 23, pos := "law.go:155", after := #[{ on := 1, ground := Go.Ground.data }, { on := 11, ground := Go.Ground.data }, { on := 9, ground := Go.Ground.chain }], guard := none }) rfl (fun K hK => ?_) AllReadyH.nil
                refine step_append_lies (w5.alloc (.cells #[.string nmv, .slice p stl c', .int .i64 bkv, .int .i64 rnv, .slice q1 RX.len c1'] 52)) rfl (.tmp 89) (.tmp 99) 23 rfl (ub + 1) 52 f0 (.agg #[.string ⟨#[]⟩, .slice none 0 0, .int .i64 0, .int .i64 0, .slice none 0 0]) 5 80 Tryz.underlying23 hf0 hy0 hy1' hy2 rfl (by decide) (.slice po j co) j us rfl (hownA _) ⟨w5.heap.size, 0, none⟩ 1 1 [.string nmv, .slice p stl c', .int .i64 bkv, .int .i64 rnv, .slice q1 RX.len c1'] rfl rfl (World.news_of_block (heap_new _ _)) (one_fn5 _ _ _ _ _ _ _ _ _) Nat.one_pos hmx hby (base_le _ hul5) (w5.heap.size + 1) (size_new _ _) ?_
                intro g cp w9 hown9 hgrow hat hglt
                have hmid := LS.mid HS5.out.1 HOC.out.1 hgrow
                obtain ⟨⟨o1, o2⟩, o3, o4⟩ := two_box (hmid.trans HS5.out.1.box)
                have hf9 := (NS.grow hgrow _ (lt_of_block HFB.out) hfar).trans HFB.out
                have K5 := fun_box hf9
                have K6 := fun_box ((Below.heap_setCell w9 ⟨ub, 1, none⟩ (.slice (some ⟨g, 0, none⟩) (j + 1) cp) wr.heap.size hne9).trans hf9)
                refine hK.out _ _ K5 (fun hHeld => ?_)
                clear hK K
                try simp only [Act.put, List.setIfInBounds_toArray, List.set_cons_zero, List.set_cons_succ]
                refine wpAnyH_take (i := 13) (oi := { dst := some 101, op := Go.Op.fieldAddr 25 (Go.Operand.tmp 10) 1, type := 0, pos := "law.go:155", after := #[{ on := 0, ground := Go.Ground.phase }, { on := 1, ground := Go.Ground.phase }, { on := 2, ground := Go.Ground.phase }, { on := 3, ground := Go.Ground.phase }, { on := 4, ground := Go.Ground.phase }, { on := 5, ground := Go.Ground.phase }, { on := 6, ground := Go.Ground.phase }, { on := 7, ground := Go.Ground.phase }, { on := 8, ground := Go.Ground.phase }, { on := 9, ground := Go.Ground.phase }, { on := 10, ground := Go.Ground.phase }, { on := 11, ground := Go.Ground.phase }, { on := 12, ground := Go.Ground.phase }], guard := none }) (v := ?_) rfl (by kernel_rfl) (by kernel_rfl) (by kernel_rfl) (fun _ _ _ h => h) (Or.inl ⟨by rfl, ?_⟩) (by assumption) ?_
                rotate_left
                · intro W hSw; (try dsimp only at hSw); go_simp; with_reducible rfl
                try simp only [Act.put, List.setIfInBounds_toArray, List.set_cons_zero, List.set_cons_succ]
                refine wpAnyH_ready (rs := [14]) (by kernel_rfl) (by simp) ?_
                refine AllReadyH.cons (o := { dst := none, op := Go.Op.store 23 (Go.Operand.tmp 101) (Go.Operand.tmp 100), type := 0, pos := "law.go:155", after := #[{ on := 13, ground := Go.Ground.data }, { on := 12, ground := Go.Ground.data }, { on := 12, ground := Go.Ground.chain }, { on := 0, ground := Go.Ground.phase }, { on := 1, ground := Go.Ground.phase }, { on := 2, ground := Go.Ground.phase }, { on := 3, ground := Go.Ground.phase }, { on := 4, ground := Go.Ground.phase }, { on := 5, ground := Go.Ground.phase }, { on := 6, ground := Go.Ground.phase }, { on := 7, ground := Go.Ground.phase }, { on := 8, ground := Go.Ground.phase }, { on := 9, ground := Go.Ground.phase }, { on := 10, ground := Go.Ground.phase }, { on := 11, ground := Go.Ground.phase }, { on := 12, ground := Go.Ground.phase }], guard := none }) rfl (fun K hK => ?_) AllReadyH.nil
                go_simp
                refine hK.out _ _ K6 (fun hHeld => ?_)
                clear hK K
                try simp only [Act.put, List.setIfInBounds_toArray, List.set_cons_zero, List.set_cons_succ]
                refine wpAnyH_done (by kernel_rfl) ?_ _
                have HF9 := Lib.hid (And.intro hown9 (And.intro hgrow hat))
                clear hown9 hgrow hat hglt hmid o1 o2 o3 o4 hf9 K5 K6 K4 K4a m1 m2 m3 m4 mo hownA
                go_wp2_with fail
                go_roundw
                case rel =>
                  have e := HGN.out
                  have hT' : IsT w ((lessSc x V).F.st j) p ((lessSc x V).F.st j).len c' := by
                    show IsT w (x.F.st ((lN V x.F.len).getD j 0)) p (x.F.st ((lN V x.F.len).getD j 0)).len c'
                    rw [e]; exact HT6.out
                  have hown' : w9.ownsRow (ub + 1) 52 5 (.slice (some ⟨g, 0, none⟩) (j + 1) cp) (j + 1) (us ++ [.string ((lessSc x V).F.nm j), .slice p ((lessSc x V).F.st j).len c', .int .i64 ((lessSc x V).F.bk j), .int .i64 ((lessSc x V).F.bn j), .slice q1 ((lessSc x V).F.bt j).len c1']) := by
                    show w9.ownsRow (ub + 1) 52 5 (.slice (some ⟨g, 0, none⟩) (j + 1) cp) (j + 1) (us ++ [.string (x.F.nm ((lN V x.F.len).getD j 0)), .slice p (x.F.st ((lN V x.F.len).getD j 0)).len c', .int .i64 (x.F.bk ((lN V x.F.len).getD j 0)), .int .i64 (ren1 V (x.F.bk ((lN V x.F.len).getD j 0)) (x.F.bn ((lN V x.F.len).getD j 0))), .slice q1 (renX V (x.F.bt ((lN V x.F.len).getD j 0))).len c1'])
                    rw [e, HNV.out.1, HNV.out.2.1, HNV.out.2.2.1, HNV.out.2.2.2.1, HNV.out.2.2.2.2.1, HNV.out.2.2.2.2.2.2]; exact HF9.out.1
                  have hX' := HS5.out.2.2
                  rw [← HNV.out.2.2.2.2.2.2, ← e] at hX'
                  have SP := LS.push (w0 := w) HS5.out.1 HOC.out.1 HOC.out.2 hT' HS5.out.1.hu hul5 HS5.out.1.base hX' (show ub + 1 ≤ (wr.alloc _).heap.size by simp; omega) (Nat.le_refl _) (fun k hk => Or.inl (show k < (wr.alloc _).heap.size by have := hrow k hk; simp; omega)) hown' HF9.out.2.1 HF9.out.2.2
                  exact ⟨j + 1, some ⟨g, 0, none⟩, cp, by omega, by go_num, SP.1, LS.ahead HS5.out.1 HOC.out.1 HF9.out.2.1 (HS.out.2.trans (HS5.out.2.1.mono (Nat.le_of_lt hul))) (Nat.le_refl _) _⟩
                case measure => simp [Go.RowKit.intOf]; omega
              refine AllReadyH.cons (o := { dst := some 99, op := Go.Op.buildSlice 23 1 #[(0, Go.Operand.tmp 98)], type := 23, pos := "law.go:155", after := #[{ on := 10, ground := Go.Ground.data }], guard := none }) rfl (fun K hK => ?_) AllReadyH.nil
              go_simp
              refine hK.out _ _ (K4a _) (fun hHeld => ?_)
              clear hK K
              try simp only [Act.put, List.setIfInBounds_toArray, List.set_cons_zero, List.set_cons_succ]
              refine wpAnyH_ready (rs := [1]) (by kernel_rfl) (by simp) ?_
              refine AllReadyH.cons (o := { dst := some 89, op := Go.Op.load 23 (Go.Operand.tmp 88), type := 23, pos := "law.go:155", after := #[{ on := 0, ground := Go.Ground.data }], guard := none }) rfl (fun K hK => ?_) AllReadyH.nil
              go_simp
              refine hK.out _ _ hHeld (fun hHeld => ?_)
              clear hK K
              try simp only [Act.put, List.setIfInBounds_toArray, List.set_cons_zero, List.set_cons_succ]
              refine wpAnyH_ready (rs := [12]) (by kernel_rfl) (by simp) ?_
              refine AllReadyH.cons (o := { dst := some 100, op := Go.Op.call { callee := Go.Callee.builtin Go.Builtin.append, args := #[Go.Operand.tmp 89, Go.Operand.tmp 99], argTypes := #[23, 23] }, type := 23, pos := "law.go:155", after := #[{ on := 1, ground := Go.Ground.data }, { on := 11, ground := Go.Ground.data }, { on := 9, ground := Go.Ground.chain }], guard := none }) rfl (fun K hK => ?_) AllReadyH.nil
              refine step_append_lies (w5.alloc (.cells #[.string nmv, .slice p stl c', .int .i64 bkv, .int .i64 rnv, .slice q1 RX.len c1'] 52)) rfl (.tmp 89) (.tmp 99) 23 rfl (ub + 1) 52 f0 (.agg #[.string ⟨#[]⟩, .slice none 0 0, .int .i64 0, .int .i64 0, .slice none 0 0]) 5 80 Tryz.underlying23 hf0 hy0 hy1' hy2 rfl (by decide) (.slice po j co) j us rfl (hownA _) ⟨w5.heap.size, 0, none⟩ 1 1 [.string nmv, .slice p stl c', .int .i64 bkv, .int .i64 rnv, .slice q1 RX.len c1'] rfl rfl (World.news_of_block (heap_new _ _)) (one_fn5 _ _ _ _ _ _ _ _ _) Nat.one_pos hmx hby (base_le _ hul5) (w5.heap.size + 1) (size_new _ _) ?_
              intro g cp w9 hown9 hgrow hat hglt
              have hmid := LS.mid HS5.out.1 HOC.out.1 hgrow
              obtain ⟨⟨o1, o2⟩, o3, o4⟩ := two_box (hmid.trans HS5.out.1.box)
              have hf9 := (NS.grow hgrow _ (lt_of_block HFB.out) hfar).trans HFB.out
              have K5 := fun_box hf9
              have K6 := fun_box ((Below.heap_setCell w9 ⟨ub, 1, none⟩ (.slice (some ⟨g, 0, none⟩) (j + 1) cp) wr.heap.size hne9).trans hf9)
              refine hK.out _ _ K5 (fun hHeld => ?_)
              clear hK K
              try simp only [Act.put, List.setIfInBounds_toArray, List.set_cons_zero, List.set_cons_succ]
              refine wpAnyH_take (i := 13) (oi := { dst := some 101, op := Go.Op.fieldAddr 25 (Go.Operand.tmp 10) 1, type := 0, pos := "law.go:155", after := #[{ on := 0, ground := Go.Ground.phase }, { on := 1, ground := Go.Ground.phase }, { on := 2, ground := Go.Ground.phase }, { on := 3, ground := Go.Ground.phase }, { on := 4, ground := Go.Ground.phase }, { on := 5, ground := Go.Ground.phase }, { on := 6, ground := Go.Ground.phase }, { on := 7, ground := Go.Ground.phase }, { on := 8, ground := Go.Ground.phase }, { on := 9, ground := Go.Ground.phase }, { on := 10, ground := Go.Ground.phase }, { on := 11, ground := Go.Ground.phase }, { on := 12, ground := Go.Ground.phase }], guard := none }) (v := ?_) rfl (by kernel_rfl) (by kernel_rfl) (by kernel_rfl) (fun _ _ _ h => h) (Or.inl ⟨by rfl, ?_⟩) (by assumption) ?_
              rotate_left
              · intro W hSw; (try dsimp only at hSw); go_simp; with_reducible rfl
              try simp only [Act.put, List.setIfInBounds_toArray, List.set_cons_zero, List.set_cons_succ]
              refine wpAnyH_ready (rs := [14]) (by kernel_rfl) (by simp) ?_
              refine AllReadyH.cons (o := { dst := none, op := Go.Op.store 23 (Go.Operand.tmp 101) (Go.Operand.tmp 100), type := 0, pos := "law.go:155", after := #[{ on := 13, ground := Go.Ground.data }, { on := 12, ground := Go.Ground.data }, { on := 12, ground := Go.Ground.chain }, { on := 0, ground := Go.Ground.phase }, { on := 1, ground := Go.Ground.phase }, { on := 2, ground := Go.Ground.phase }, { on := 3, ground := Go.Ground.phase }, { on := 4, ground := Go.Ground.phase }, { on := 5, ground := Go.Ground.phase }, { on := 6, ground := Go.Ground.phase }, { on := 7, ground := Go.Ground.phase }, { on := 8, ground := Go.Ground.phase }, { on := 9, ground := Go.Ground.phase }, { on := 10, ground := Go.Ground.phase }, { on := 11, ground := Go.Ground.phase }, { on := 12, ground := Go.Ground.phase }], guard := none }) rfl (fun K hK => ?_) AllReadyH.nil
              go_simp
              refine hK.out _ _ K6 (fun hHeld => ?_)
              clear hK K
              try simp only [Act.put, List.setIfInBounds_toArray, List.set_cons_zero, List.set_cons_succ]
              refine wpAnyH_done (by kernel_rfl) ?_ _
              have HF9 := Lib.hid (And.intro hown9 (And.intro hgrow hat))
              clear hown9 hgrow hat hglt hmid o1 o2 o3 o4 hf9 K5 K6 K4 K4a m1 m2 m3 m4 mo hownA
              go_wp2_with fail
              go_roundw
              case rel =>
                have e := HGN.out
                have hT' : IsT w ((lessSc x V).F.st j) p ((lessSc x V).F.st j).len c' := by
                  show IsT w (x.F.st ((lN V x.F.len).getD j 0)) p (x.F.st ((lN V x.F.len).getD j 0)).len c'
                  rw [e]; exact HT6.out
                have hown' : w9.ownsRow (ub + 1) 52 5 (.slice (some ⟨g, 0, none⟩) (j + 1) cp) (j + 1) (us ++ [.string ((lessSc x V).F.nm j), .slice p ((lessSc x V).F.st j).len c', .int .i64 ((lessSc x V).F.bk j), .int .i64 ((lessSc x V).F.bn j), .slice q1 ((lessSc x V).F.bt j).len c1']) := by
                  show w9.ownsRow (ub + 1) 52 5 (.slice (some ⟨g, 0, none⟩) (j + 1) cp) (j + 1) (us ++ [.string (x.F.nm ((lN V x.F.len).getD j 0)), .slice p (x.F.st ((lN V x.F.len).getD j 0)).len c', .int .i64 (x.F.bk ((lN V x.F.len).getD j 0)), .int .i64 (ren1 V (x.F.bk ((lN V x.F.len).getD j 0)) (x.F.bn ((lN V x.F.len).getD j 0))), .slice q1 (renX V (x.F.bt ((lN V x.F.len).getD j 0))).len c1'])
                  rw [e, HNV.out.1, HNV.out.2.1, HNV.out.2.2.1, HNV.out.2.2.2.1, HNV.out.2.2.2.2.1, HNV.out.2.2.2.2.2.2]; exact HF9.out.1
                have hX' := HS5.out.2.2
                rw [← HNV.out.2.2.2.2.2.2, ← e] at hX'
                have SP := LS.push (w0 := w) HS5.out.1 HOC.out.1 HOC.out.2 hT' HS5.out.1.hu hul5 HS5.out.1.base hX' (show ub + 1 ≤ (wr.alloc _).heap.size by simp; omega) (Nat.le_refl _) (fun k hk => Or.inl (show k < (wr.alloc _).heap.size by have := hrow k hk; simp; omega)) hown' HF9.out.2.1 HF9.out.2.2
                exact ⟨j + 1, some ⟨g, 0, none⟩, cp, by omega, by go_num, SP.1, LS.ahead HS5.out.1 HOC.out.1 HF9.out.2.1 (HS.out.2.trans (HS5.out.2.1.mono (Nat.le_of_lt hul))) (Nat.le_refl _) _⟩
              case measure => simp [Go.RowKit.intOf]; omega
            · obtain rfl : j = (lN V x.F.len).length := by omega
              have hC : IsC wr (lessSc x V) ⟨sp, sn, sc, po, (lN V x.F.len).length, co⟩ := ⟨(HH.out.1.below hS.base).1, hS.isF rfl⟩
              have HC := Lib.hid (And.intro (HH.out.1.below hS.base) (And.intro hC (And.intro hS.box (And.intro hbx2 hS.base))))
              obtain ⟨⟨l1, l2⟩, l3, l4⟩ := hS.cells
              have hord := HORD.out
              have hrl := HRL.out
              generalize (lessSc x V).ordN = ou at HU hord
              generalize x.ordN = ox at HO hord
              generalize lessSc x V = u at *
              have hou : (ou : Int) ≤ (ox : Int) := by omega
              clear HS hS hbn hbx2 hC hj hlt HT3 HL HOK HGD HF HRL HORD
              go_wp2_with fail
              refine (HO.out _ HC.out.1).mono ?_
              rintro e w5 ⟨rfl, hb5⟩
              have H5 := Lib.hid (And.intro (HC.out.2.1.below hb5) (And.intro (box3_later hb5 HC.out.2.2.1) (HC.out.2.2.2.2.trans (hb5.mono HC.out.2.2.2.2.size))))
              obtain ⟨⟨m1, m2⟩, _⟩ := two_box H5.out.2.1
              clear hb5 l1 l2 l3 l4 s1 s2 HC HO
              go_wp2_with fail
              refine (HU.out ⟨sp, sn, sc, po, (lN V x.F.len).length, co⟩ _ H5.out.1).mono ?_
              rintro e w6 ⟨rfl, hb6⟩
              have H6 := Lib.hid (And.intro (H5.out.1.below hb6) (And.intro (box3_later hb6 H5.out.2.1) (H5.out.2.2.trans (hb6.mono H5.out.2.2.size))))
              clear m1 m2
              obtain ⟨⟨m1, m2⟩, _⟩ := two_box H6.out.2.1
              clear hb6 H5 HU
              go_wp2_with fail
              refine (HRU.out ⟨sp, sn, sc, po, (lN V x.F.len).length, co⟩ _ H6.out.1).mono ?_
              rintro e w7 ⟨v7, rfl, hown7, hb7⟩
              have hv7 : ∃ p7 c7, v7 = .slice p7 (lN V x.F.len).length c7 := by
                rw [hrl] at hown7
                rcases hown7.2 with ⟨_, h0⟩ | ⟨g, cap, cur, rfl, _⟩
                · omega
                · exact ⟨_, _, rfl⟩
              obtain ⟨p7, c7, rfl⟩ := hv7
              have H7 := Lib.hid (And.intro (H6.out.1.below hb7) (And.intro (box3_later hb7 H6.out.2.1) (H6.out.2.2.trans (hb7.mono H6.out.2.2.size))))
              clear m1 m2
              obtain ⟨⟨m1, m2⟩, _⟩ := two_box H7.out.2.1
              clear hown7 hb7 hrl H6 HRU
              go_wp2_with fail
              refine (HCU.out ⟨sp, sn, sc, po, (lN V x.F.len).length, co⟩ _ H7.out.1).mono ?_
              rintro e w8 ⟨rfl, hb8⟩
              have H8 := Lib.hid (H7.out.2.2.trans (hb8.mono H7.out.2.2.size))
              clear hb8 m1 m2 H7 HCU
              go_wp2_with fail
              refine (HA.out _ (hg.keep fun b hb => H8.out.block b (by omega)) (by have := H8.out.size; omega)).mono ?_
              rintro e w9 ⟨rfl, hb9⟩
              go_wp2_with fail
              go_ret
              exact ⟨rfl, H8.out.trans (hb9.mono H8.out.size)⟩

theorem law_sless (x : Sc) (a : At2) (w : World) (h : IsC w x a) (hg : Gl w) (h6 : 6 ≤ w.heap.size) :
    Calls Tryz.prog 12 #[.agg #[.slice a.sp a.sn a.sc, .slice a.fp a.fn a.fc]] w fun e w' => e = .returned (.bool true) ∧ Below w.heap.size w w' := by
  cases hok : scOk x with
  | false => exact law_sless_no x a w h hg h6 hok
  | true => exact law_sless_ok x a w h hg h6 hok

end Go.Proofs.YtjkcopgfcafpeaaGreatDoor

set_option linter.unusedSimpArgs false
set_option linter.unusedVariables false
namespace Go.Proofs.YtjkcopgfcafpeaaGreatDoor
open Go.ChangeShapes Go.WideShapes Go.ChangeAt Go.RowKit
open Go.ChangeMaps (open_string shut_string)

set_option maxRecDepth 100000 in
theorem schemeLess_lifted (os : Os) (started : os.Started) (H : Type) (enc : TypeId × Value → H) :
    ReturnsInHanded {} Tryz.checked os 12 .any (fun w args => (Rows.schemeLessSpec.pre enc Tryz.prog Tryz.f12 [] false w args ∧ laidMetH Tryz.prog laidL w) ∧ sizedMet enc Tryz.prog Tryz.f12 (OpenSpec.ofChange Rows.schemeLessSpec) false w args)
      (Rows.schemeLessSpec.post enc Tryz.prog Tryz.f12 false true false false) := by
  refine lifted_shaped (C := Tryz.checked) (X := fun w _ => laidMetH Tryz.prog laidL w) (fun _ _ _ hh h => h.of_heap hh) P.own started (by kernel_rfl) Tryz.func12
    (ChangeSpec.witness_shaped (enc := enc) (C := Tryz.checked) (os := os) (X := fun w _ => laidMetH Tryz.prog laidL w) false (World.doorLaid Tryz.prog 62 os) #[.agg #[.slice none 0 0, .slice none 0 0]] 8 rfl (World.shaped_of_RefB (by kernel_rfl) (by kernel_rfl)) (by kernel_rfl) (by kernel_rfl) (by kernel_rfl) (door_met os _)) ?_
  intro W args ds gs before hval0 hW _ hL hsh
  have hW' := hW
  obtain ⟨p, q, hA0, hV, rfl, hfz, hnd⟩ := hW
  have hA : DataW.TrodAll enc Tryz.prog W 0 (fun _ => true) true Tryz.f12.params.toList args.toList ds p := hA0
  rw [Tryz.params12] at hA hval0
  obtain ⟨v0, d0, rfl, rfl, h0⟩ := trodAll_one hA
  obtain ⟨rfl, rfl⟩ := trodVars_none hV
  have k0 := h0
  obtain ⟨base0, hv0⟩ := hval0 0 25 v0 rfl rfl
  obtain ⟨x0, b0, rfl, i0⟩ := open_scheme hv0 h0
  clear hA0 hval0
  simp only [List.append_nil] at hW'
  obtain ⟨hg, h6⟩ := gl_of hL hsh
  refine (law_sless x0 b0 W i0 hg h6).mono fun e W' ⟨he, hb⟩ => ?_
  subst he
  have hlt := fun x hx => hW'.lt x hx
  exact ⟨_, rfl, post_below (pv := []) hW' (fun _ _ _ => trodAll_mk1 (shut_bool Tryz.underlying4 true))
    (fun sp hsp => trodAll_mk1 (WideElems.Trod_stays P.laidOut P.readC (of_decide_eq_true (by kernel_rfl)) k0 (fun x hx => hb.same (hlt x (by simp [hx]))) (fun x hx => hsp x (by simp [hx]))))
    (fun _ _ => rfl) (by simp) hb (ok_one (by kernel_rfl) rfl (okWide_bool_mk Tryz.underlying4 true))⟩

theorem schemeLess_row : Rows.SchemeLessSaid :=
  OpenClaim.holds_of_wide 12 Tryz.f12 rfl rfl rfl rfl rfl rfl rfl ⟨rfl, rfl, rfl, rfl, rfl⟩ rfl rfl rfl rfl rfl (by kernel_rfl) Tryz.func12 (by kernel_rfl)
    (of_decide_eq_true (by kernel_rfl)) (by unfold Func.isWrapper; rw [if_neg (of_decide_eq_false (by kernel_rfl))]; exact ⟨rfl, rfl⟩)
    (fun os started H enc _ => schemeLess_lifted os started H enc)

theorem schemeLess_holds : Rows.SchemeLessCardSaid :=
  Claim7.holds_tied_plain_at .later [] [.data, .data, .data, .sentinel, .sentinel] true Rows.schemeLessCard.stood.harness true
    schemeLess_row (fun _ h => by cases h) (by kernel_rfl) (fun _ h => by cases h) schemeLess_row_tie rfl ⟨rfl, rfl⟩ (by kernel_rfl) rfl
    (fun f fn hf hfn => by
      obtain rfl : f = 12 := Option.some.inj ((show Tryz.prog.funcNamed "virgation/virgationlaw03.SchemeLess" = some 12 by kernel_rfl).symm.trans hf) |>.symm
      obtain rfl : fn = Tryz.f12 := (Option.some.inj (Tryz.func12.symm.trans hfn)).symm
      exact ⟨by kernel_rfl, fun j t ht => by
        rw [Tryz.params12] at ht
        have hm : t ∈ [25] := by simpa using Array.mem_of_getElem? ht
        have hall : ([25].all fun u => !Tryz.prog.wantsStandIn u) = true := by kernel_rfl
        exact (show Tryz.prog.wantsStandIn t = false by simpa using List.all_eq_true.1 hall t hm)⟩)
    (by kernel_rfl)

end Go.Proofs.YtjkcopgfcafpeaaGreatDoor

