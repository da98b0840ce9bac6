/-
  Whatever scheme is handed in, the statement on Reach answers true and leaves the scheme as it was. Conditions: none but the row's own (the package variables read as the program's text lays them).
-/
import Derived.Test.YtjdnbmcjnkmgdaaGreatDoorMg29
import Derived.Test.YtjdnbmcjnkmgdaaGreatDoorMg21
import Derived.Test.YtjdnbmcjnkmgdaaGreatDoorMg19
import Derived.Test.YtjdnbmcjnkmgdaaGreatDoorMg15
import Derived.Test.YtjdnbmcjnkmgdaaGreatDoorMh02
import Derived.Test.YtjdnbmcjnkmgdaaGreatDoorMg31
import Derived.Test.YtjdnbmcjnkmgdaaGreatDoorCards
import Derived.Test.YtjdnbmcjnkmgdaaGreatDoorTie
import Derived.SevenTiedAt

/-
  Plain mathematics of which functions are needed; a row of bools in memory. Conditions: none.
-/
set_option linter.unusedSimpArgs false
set_option linter.unusedVariables false
namespace Go.Proofs.YtjdnbmcjnkmgdaaGreatDoor
open Go.RowKit Go.Maps

/-- does function i occur in these terms? -/
def callX (i : Nat) : X → Bool
  | .nil => false
  | .cons k n a r => (decide (k = 1) && decide (n = (i : Int))) || (callX i a || callX i r)

/-- does function i occur in a term? -/
def call1 (i : Nat) (k n : Int) (a : X) : Bool := (decide (k = 1) && decide (n = (i : Int))) || callX i a

/-- does function k occur in the body of function i? -/
def callB (x : Sc) (i k : Nat) : Bool := call1 k (x.F.bk i) (x.F.bn i) (x.F.bt i)

theorem callX_drop (i : Nat) (a : X) (j : Nat) (h : j < a.len) : callX i (a.drop j) = (call1 i (a.gk j) (a.gn j) (a.ga j) || callX i (a.drop (j + 1))) := by
  rw [X.drop_cons a j h]
  simp only [callX, call1, Bool.or_assoc]

theorem callX_iff (i : Nat) (a : X) : callX i a = true ↔ ∃ j, j < a.len ∧ call1 i (a.gk j) (a.gn j) (a.ga j) = true := by
  have key : ∀ m j, j + m = a.len → (callX i (a.drop j) = true ↔ ∃ j', j ≤ j' ∧ j' < a.len ∧ call1 i (a.gk j') (a.gn j') (a.ga j') = true) := by
    intro m
    induction m with
    | zero =>
      intro j hj
      rw [X.drop_end a j (by omega)]
      constructor
      · intro h; cases h
      · rintro ⟨j', h1, h2, _⟩; omega
    | succ m ih =>
      intro j hj
      rw [callX_drop i a j (by omega), Bool.or_eq_true, ih (j + 1) (by omega)]
      constructor
      · rintro (h | ⟨j', h1, h2, h3⟩)
        · exact ⟨j, Nat.le_refl _, by omega, h⟩
        · exact ⟨j', by omega, h2, h3⟩
      · rintro ⟨j', h1, h2, h3⟩
        by_cases e : j' = j
        · subst e; exact Or.inl h3
        · exact Or.inr ⟨j', by omega, h2, h3⟩
  have := key a.len 0 (by omega)
  rw [X.drop_zero] at this
  rw [this]
  constructor
  · rintro ⟨j, _, h2, h3⟩; exact ⟨j, h2, h3⟩
  · rintro ⟨j, h2, h3⟩; exact ⟨j, Nat.zero_le _, h2, h3⟩

theorem callX_lt {x : Sc} {i : Nat} : ∀ {a : X}, goodX x a → callX i a = true → i < x.F.len
  | .nil, _, h => by cases h
  | .cons k n a r, hg, h => by
    obtain ⟨g1, g2, g3⟩ := hg
    simp only [callX, Bool.or_eq_true, Bool.and_eq_true, decide_eq_true_eq] at h
    rcases h with ⟨rfl, rfl⟩ | h | h
    · obtain ⟨_, h1⟩ := g1
      rcases h1 with ⟨h1, _⟩ | ⟨_, h1⟩ | ⟨h1, _⟩
      · exact absurd h1 (by decide)
      · omega
      · exact absurd h1 (by decide)
    · exact callX_lt g2 h
    · exact callX_lt g3 h

theorem call1_lt {x : Sc} {i : Nat} {k n : Int} {a : X} (hh : goodH x k n) (hg : goodX x a) (h : call1 i k n a = true) : i < x.F.len := by
  refine callX_lt (a := .cons k n a .nil) ⟨hh, hg, trivial⟩ ?_
  unfold call1 at h
  simp only [callX, Bool.or_false]
  exact h

theorem callB_lt {x : Sc} (hg : Good x) {i k : Nat} (hi : i < x.F.len) (h : callB x i k = true) : k < x.F.len := call1_lt (hg.head i hi) (hg.body i hi) h

/-- what a visit of the targets R makes of the functions that have been visited -/
structure Dfs (x : Sc) (V V' : Nat → Bool) (R : Nat → Prop) : Prop where
  mono : ∀ i, V i = true → V' i = true
  targets : ∀ i, R i → V' i = true
  closed : ∀ i, V' i = true → V i = false → ∀ k, callB x i k = true → V' k = true
  least : ∀ P : Nat → Prop, (∀ i k, P i → callB x i k = true → P k) → (∀ i, R i → P i) → ∀ i, V' i = true → V i = true ∨ P i

theorem Dfs.same {x : Sc} {V : Nat → Bool} {R : Nat → Prop} (h : ∀ i, R i → V i = true) : Dfs x V V R :=
  ⟨fun _ h => h, h, fun i h1 h2 => (by rw [h1] at h2; cases h2), fun _ _ _ i h => Or.inl h⟩

theorem Dfs.seq {x : Sc} {V V1 V2 : Nat → Bool} {R1 R2 R : Nat → Prop} (h1 : Dfs x V V1 R1) (h2 : Dfs x V1 V2 R2) (hR : ∀ i, R i ↔ R1 i ∨ R2 i) : Dfs x V V2 R := by
  refine ⟨fun i h => h2.mono i (h1.mono i h), fun i h => ?_, fun i h hV k hk => ?_, fun P hP hR' i h => ?_⟩
  · rcases (hR i).1 h with h | h
    · exact h2.mono i (h1.targets i h)
    · exact h2.targets i h
  · cases hv : V1 i with
    | true => exact h2.mono k (h1.closed i hv hV k hk)
    | false => exact h2.closed i h hv k hk
  · rcases h2.least P hP (fun i h => hR' i ((hR i).2 (Or.inr h))) i h with h | h
    · exact h1.least P hP (fun i h => hR' i ((hR i).2 (Or.inl h))) i h
    · exact Or.inr h

def updV (V : Nat → Bool) (n : Nat) : Nat → Bool := fun i => if i = n then true else V i

theorem Dfs.visit {x : Sc} {V V' : Nat → Bool} {n : Nat} (h : Dfs x (updV V n) V' (fun k => callB x n k = true)) : Dfs x V V' (fun i => i = n) := by
  have hn : updV V n n = true := if_pos rfl
  refine ⟨fun i hi => h.mono i ?_, fun i hi => h.mono i (by rw [hi]; exact hn), fun i hi hV k hk => ?_, fun P hP hR i hi => ?_⟩
  · unfold updV; split
    · rfl
    · exact hi
  · by_cases e : i = n
    · subst e; exact h.targets k hk
    · exact h.closed i hi (by unfold updV; rw [if_neg e]; exact hV) k hk
  · rcases h.least P hP (fun k hk => hP n k (hR n rfl) hk) i hi with h1 | h1
    · unfold updV at h1
      split at h1
      · rename_i e; exact Or.inr (hR i e)
      · exact Or.inl h1
    · exact Or.inr h1

theorem Dfs.congr {x : Sc} {V V' : Nat → Bool} {R R' : Nat → Prop} (h : Dfs x V V' R) (hR : ∀ i, R' i ↔ R i) : Dfs x V V' R' :=
  ⟨h.mono, fun i hi => h.targets i ((hR i).1 hi), h.closed, fun P hP hR' => h.least P hP fun i hi => hR' i ((hR i).2 hi)⟩

/-- how many of m functions are not visited -/
def cntV (V : Nat → Bool) : Nat → Nat
  | 0 => 0
  | m + 1 => cntV V m + (if V m = true then 0 else 1)

theorem cntV_mono {V V' : Nat → Bool} (h : ∀ i, V i = true → V' i = true) : ∀ m, cntV V' m ≤ cntV V m
  | 0 => Nat.le_refl _
  | m + 1 => by
    have := cntV_mono h m
    simp only [cntV]
    by_cases hv : V m = true
    · rw [if_pos hv, if_pos (h m hv)]; omega
    · rw [if_neg hv]; split <;> omega

theorem cntV_ge {V : Nat → Bool} {n : Nat} : ∀ m, m ≤ n → cntV (updV V n) m = cntV V m
  | 0, _ => rfl
  | m + 1, h => by
    simp only [cntV]
    rw [cntV_ge m (by omega), show updV V n m = V m from if_neg (by omega)]

theorem cntV_upd {V : Nat → Bool} {n : Nat} (hn : V n = false) : ∀ m, n < m → cntV (updV V n) m + 1 = cntV V m
  | 0, h => by omega
  | m + 1, h => by
    simp only [cntV]
    by_cases e : n = m
    · subst e
      rw [cntV_ge n (Nat.le_refl _), hn, if_pos (show updV V n n = true from if_pos rfl)]
      simp
    · have := cntV_upd hn m (by omega)
      rw [show updV V n m = V m from if_neg (by omega)]
      omega

theorem cntV_le (V : Nat → Bool) : ∀ m, cntV V m ≤ m
  | 0 => Nat.le_refl _
  | m + 1 => by
    have := cntV_le V m
    simp only [cntV]
    split <;> omega

/-- the least set of functions that holds the start and whatever its functions' bodies hold -/
structure Least (x : Sc) (V : Nat → Bool) : Prop where
  start : V 0 = true
  closed : ∀ i k, i < x.F.len → V i = true → callB x i k = true → V k = true
  least : ∀ P : Nat → Prop, (∀ i k, i < x.F.len → P i → callB x i k = true → P k) → P 0 → ∀ i, i < x.F.len → V i = true → P i

theorem Least.sub {x : Sc} {V V' : Nat → Bool} (h : Least x V) (h' : Least x V') : ∀ i, i < x.F.len → V i = true → V' i = true :=
  h.least (fun i => V' i = true) (fun i k hi h1 h2 => h'.closed i k hi h1 h2) h'.start

theorem Least.unique {x : Sc} {V V' : Nat → Bool} (h : Least x V) (h' : Least x V') : ∀ i, i < x.F.len → V i = V' i := by
  intro i hi
  have h1 := h.sub h' i hi
  have h2 := h'.sub h i hi
  cases hv : V i <;> cases hv' : V' i
  · rfl
  · exact absurd (h2 hv') (by simp [hv])
  · exact absurd (h1 hv) (by simp [hv'])
  · rfl

theorem Least.of_dfs {x : Sc} {V : Nat → Bool} (h : Dfs x (fun _ => false) V (fun i => i = 0)) (hg : Good x) : Least x V := by
  refine ⟨h.targets 0 rfl, fun i k _ h1 h2 => h.closed i h1 rfl k h2, fun P hP h0 i hi hV => ?_⟩
  rcases h.least (fun i => i < x.F.len ∧ P i) (fun i k hi hk => ⟨callB_lt hg hi.1 hk, hP i k hi.1 hi.2 hk⟩) (fun i hi => by rw [hi]; exact ⟨hg.some, h0⟩) i hV with h1 | h1
  · cases h1
  · exact h1.2

/-- the visited ones of j functions, in order -/
def visL (V : Nat → Bool) (j : Nat) : List Int := ((List.range j).filter V).map fun (i : Nat) => (i : Int)

theorem visL_yes {V : Nat → Bool} {j : Nat} (h : V j = true) : visL V j ++ [(j : Int)] = visL V (j + 1) := by
  unfold visL
  rw [List.range_succ, List.filter_append, List.map_append]
  simp [h]

theorem visL_no {V : Nat → Bool} {j : Nat} (h : V j = false) : visL V j = visL V (j + 1) := by
  unfold visL
  rw [List.range_succ, List.filter_append, List.map_append]
  simp [h]

theorem visL_len (V : Nat → Bool) (j : Nat) : (visL V j).length ≤ j := by
  unfold visL
  rw [List.length_map]
  have := List.length_filter_le V (List.range j)
  simpa using this

theorem visL_congr {V V' : Nat → Bool} {j : Nat} (h : ∀ i, i < j → V i = V' i) : visL V j = visL V' j := by
  unfold visL
  congr 1
  exact List.filter_congr fun i hi => h i (List.mem_range.1 hi)

/-- n bools in a block of their own -/
def bls (n : Nat) (V : Nat → Bool) : Array Value := ((List.range n).map fun i => Value.bool (V i)).toArray

def NB (w : World) (nb n : Nat) (V : Nat → Bool) : Prop := w.heap[nb]? = some (.cells (bls n V) 4 (0, 0))

theorem bls_at {n : Nat} {V : Nat → Bool} {i : Nat} (h : i < n) : (bls n V)[i]? = some (.bool (V i)) := by
  simp [bls, h]

theorem NB.cell {w : World} {nb n : Nat} {V : Nat → Bool} (h : NB w nb n V) {i : Nat} (hi : i < n) : w.cell? ⟨nb, i, none⟩ = some (.bool (V i)) ∧ w.frozen? ⟨nb, i, none⟩ = false := by
  unfold NB at h
  constructor
  · rw [cell_of_row w nb i _ _ _ h]; exact bls_at hi
  · simp [World.frozen?, h]

theorem NB.noslice {w : World} {nb n : Nat} {V : Nat → Bool} (h : NB w nb n V) {o : Nat} {p : Option Addr} {m c : Nat} : w.cell? ⟨nb, o, none⟩ ≠ some (.slice p m c) := by
  unfold NB at h
  rw [cell_of_row w nb o _ _ _ h]
  intro e
  simp [bls] at e

theorem NB.lt {w : World} {nb n : Nat} {V : Nat → Bool} (h : NB w nb n V) : nb < w.heap.size := lt_of_block h

theorem bls_set (n : Nat) (V : Nat → Bool) (i : Nat) : (bls n V).setIfInBounds i (.bool true) = bls n (updV V i) := by
  unfold bls updV
  apply Array.ext'
  apply List.ext_getElem?
  intro j
  simp only [List.setIfInBounds_toArray, List.getElem?_set, List.getElem?_map, List.getElem?_range, List.length_map, List.length_range]
  by_cases e : i = j
  · subst e
    by_cases hj : i < n
    · simp [hj]
    · simp [hj]
  · rw [if_neg e]
    by_cases hj : j < n
    · have : ¬ j = i := fun h => e h.symm
      simp [hj, this]
    · simp [hj]

theorem bls_made (n : Nat) : madeCells #[.bool false] n = bls n (fun _ => false) := by
  unfold bls madeCells
  apply Array.ext'
  apply List.ext_getElem?
  intro j
  by_cases hj : j < n
  · simp [hj, Nat.mod_one]
  · simp [hj]

theorem NB.set {w : World} {nb n : Nat} {V : Nat → Bool} (h : NB w nb n V) (i : Nat) : NB (w.setCell ⟨nb, i, none⟩ (.bool true)) nb n (updV V i) := by
  have hlt := h.lt
  unfold NB at h ⊢
  have h' : w.heap[nb] = .cells (bls n V) 4 (0, 0) := by simpa [Array.getElem?_eq_getElem hlt] using h
  show (w.heap.modify nb _)[nb]? = _
  rw [Array.getElem?_eq_getElem (by simpa using hlt), Array.getElem_modify_self, h']
  show some (Obj.cells ((bls n V).setIfInBounds i (.bool true)) _ _) = _
  rw [bls_set]

theorem NB.of_block {w w' : World} {nb n : Nat} {V : Nat → Bool} (h : NB w nb n V) (hb : w'.heap[nb]? = w.heap[nb]?) : NB w' nb n V := hb.trans h

theorem NB.below {w w' : World} {nb n : Nat} {V : Nat → Bool} (h : NB w nb n V) (hb : Below w.heap.size w w') : NB w' nb n V := h.of_block (hb.block nb h.lt)

theorem NB.made {w : World} {nb n : Nat} (h : w.heap[nb]? = some (.cells (madeCells #[.bool false] n) 4 (0, 0))) : NB w nb n (fun _ => false) := by
  unfold NB
  rw [h, bls_made]

theorem NB.made1 {w : World} {nb n i : Nat} (h : w.heap[nb]? = some (.cells ((madeCells #[.bool false] n).setIfInBounds i (.bool true)) 4 (0, 0))) : NB w nb n (updV (fun _ => false) i) := by
  unfold NB
  rw [h, bls_made, bls_set]

/-- all but one block is as it was -/
structure Bn (nb : Nat) (w w' : World) : Prop where
  os : w'.os = w.os
  tape : w'.tape = w.tape
  output : w'.output = w.output
  size : w.heap.size ≤ w'.heap.size
  block : ∀ k, k < w.heap.size → k ≠ nb → w'.heap[k]? = w.heap[k]?

theorem Bn.refl (nb : Nat) (w : World) : Bn nb w w := ⟨rfl, rfl, rfl, Nat.le_refl _, fun _ _ _ => rfl⟩

theorem Bn.trans {nb : Nat} {a b c : World} (h : Bn nb a b) (k : Bn nb b c) : Bn nb a c :=
  ⟨k.os.trans h.os, k.tape.trans h.tape, k.output.trans h.output, Nat.le_trans h.size k.size, fun i hi hn => (k.block i (Nat.lt_of_lt_of_le hi h.size) hn).trans (h.block i hi hn)⟩

theorem Bn.of_below {nb : Nat} {w w' : World} (h : Below w.heap.size w w') : Bn nb w w' := ⟨h.os, h.tape, h.output, h.size, fun k hk _ => h.block k hk⟩

theorem Bn.alloc (nb : Nat) (w : World) (o : Obj) : Bn nb w (w.alloc o) := Bn.of_below ((Below.refl _ _).alloc (Nat.le_refl _) _)

theorem Bn.drew {nb : Nat} (w : World) : Bn nb w w.drew := Bn.of_below ((Below.refl _ _).drew)

theorem Bn.set {nb : Nat} (w : World) (i : Nat) (v : Value) : Bn nb w (w.setCell ⟨nb, i, none⟩ v) := by
  have h := (Below.refl nb w).setCell (p := ⟨nb, i, none⟩) (Nat.le_refl nb) v
  refine ⟨h.os, h.tape, h.output, h.size, fun k hk hn => ?_⟩
  show (w.heap.modify nb _)[k]? = _
  rw [Array.getElem?_modify, if_neg (fun e => hn e.symm)]

theorem Bn.to_below {nb B : Nat} {w0 w w' : World} (h : Bn nb w w') (hb : Below B w0 w) (hn : B ≤ nb) (hB : B ≤ w.heap.size) : Below B w0 w' :=
  ⟨h.os.trans hb.os, h.tape.trans hb.tape, h.output.trans hb.output, Nat.le_trans hb.size h.size, fun k hk => (h.block k (by omega) (by omega)).trans (hb.block k hk)⟩

theorem Bn.cell {nb : Nat} {w w' : World} (h : Bn nb w w') {b o : Nat} {v : Value} (hc : w.cell? ⟨b, o, none⟩ = some v) (hn : b ≠ nb) : w'.cell? ⟨b, o, none⟩ = some v := by
  have := h.block b (lt_of_cell hc) hn
  unfold World.cell? at hc ⊢
  rw [this]
  exact hc

theorem Bn.keeps {nb n : Nat} {V : Nat → Bool} {w w' : World} (h : Bn nb w w') (hN : NB w nb n V) : Keeps3 w w' := by
  rintro b ⟨o, p, m, c, hc⟩ o' v hv
  refine h.cell hv fun e => ?_
  subst e
  exact hN.noslice hc

/-- the functions lie as they lay where all blocks with slices in them are as they were -/
theorem IsF.keeps {w w' : World} (hk : Keeps3 w w') {F : Fu} {p : Option Addr} {n cap : Nat} (h : IsF w F p n cap) : IsF w' F p n cap := by
  obtain ⟨h1, h2, h3, h4, h5⟩ := h
  refine ⟨h1, h2, h3, h4, ?_⟩
  rcases h5 with h5 | ⟨b, off, e, hr⟩
  · exact Or.inl h5
  · refine Or.inr ⟨b, off, e, fun i hi => ?_⟩
    obtain ⟨p, n, c, q, m, d, e1, e2, e3, e4, e5, e6, e7⟩ := hr i hi
    have hs : ∃ o p n cap, w.cell? ⟨b, o, none⟩ = some (.slice p n cap) := ⟨_, _, _, _, e2⟩
    exact ⟨p, n, c, q, m, d, hk b hs _ _ e1, hk b hs _ _ e2, hk b hs _ _ e3, hk b hs _ _ e4, hk b hs _ _ e5, e6.keeps hk.sorts, e7.keeps hk⟩

end Go.Proofs.YtjdnbmcjnkmgdaaGreatDoor

/-
  The walk of Ranks: what it answers, for whatever scheme. Conditions: none but that the scheme lies in memory.
-/
set_option linter.unusedSimpArgs false
set_option linter.unusedVariables false
namespace Go.Proofs.YtjdnbmcjnkmgdaaGreatDoor
open Go.RowKit

def rks (S : Sy) (j : Nat) : List Int := (List.range j).map S.rk

theorem rks_snoc (S : Sy) (j : Nat) : (rks S j).map intv ++ [Value.int .i64 (S.rk j)] = (rks S (j + 1)).map intv := by
  unfold rks
  rw [List.range_succ, List.map_append, List.map_append]
  rfl

def Sc.ranks (x : Sc) : List Int := if scOk x = true then rks x.S x.S.len else []

theorem scOk_syms {x : Sc} (h : scOk x = true) : x.S.len ≤ 24 := by
  unfold scOk at h
  simp only [Bool.and_eq_true] at h
  have h2 := plOk_syms h.1.2
  unfold symsOk at h2
  simp only [Bool.and_eq_true, decide_eq_true_eq] at h2
  exact h2.1

def RanksPost (w : World) (x : Sc) (e : Ending) (w' : World) : Prop :=
  ∃ v, e = .returned (.tuple #[v, .int .i64 (scE x)]) ∧ w'.ownsRow w.heap.size 3 1 v x.ranks.length (x.ranks.map intv) ∧ Below w.heap.size w w'

set_option maxRecDepth 100000 in
set_option maxHeartbeats 2000000 in
theorem sranks_any (x : Sc) (a : At2) (w : World) (h : IsC w x a) :
    Calls Tryz.prog 21 #[.agg #[.slice a.sp a.sn a.sc, .slice a.fp a.fn a.fc]] w (RanksPost w x) := by
  obtain ⟨i0, hi0, hz0, hz1, hz2⟩ := info_parts infoI
  have HC := Lib.hid (fun W h => scheck_any x a W h)
  obtain ⟨sp, sn, sc, fp, fn, fc⟩ := a
  obtain ⟨hS, hF⟩ := id h
  dsimp only at hS hF HC ⊢
  obtain rfl : sn = x.S.len := hS.1
  have hbx := heap_new w (.cells #[.slice sp x.S.len sc, .slice fp fn fc] 25)
  obtain ⟨s1, s2⟩ := two_cells hbx
  obtain ⟨_, hcap, hmax, _, hrow⟩ := id hS
  unfold maxLen at hmax
  have HX := Lib.hid hbx
  have HH := Lib.hid h
  unfold RanksPost
  cases hok : scOk x with
  | false =>
    have e1 : scE x = 7 := by unfold scE; rw [hok]; rfl
    have e2 : x.ranks = [] := by unfold Sc.ranks; rw [hok]; rfl
    rw [e1] at HC ⊢
    rw [e2]
    clear e1 e2 hok hS hF hbx h hcap hmax hrow
    go_enter Tryz.func21, Tryz.ntmps21
    go_wp2_with fail
    refine (HC.out _ (HH.out.alloc _)).mono ?_
    rintro e w1 ⟨rfl, hb1⟩
    go_wp2_with fail
    go_ret2
    exact ⟨_, rfl, World.ownsRow_nil _ _ _ _, below_call hb1⟩
  | true =>
    have e1 : scE x = 0 := by unfold scE; rw [hok]; rfl
    have e2 : x.ranks = rks x.S x.S.len := by unfold Sc.ranks; rw [hok]; rfl
    have h24 := scOk_syms hok
    rw [e1] at HC ⊢
    rw [e2]
    clear e1 e2 hok hS hF hbx h
    go_enter Tryz.func21, Tryz.ntmps21
    go_wp2_with fail
    refine (HC.out _ (HH.out.alloc _)).mono ?_
    rintro e w1 ⟨rfl, hb1⟩
    obtain ⟨s3, s4⟩ := two_cells (box3_later hb1 HX.out)
    have HB := Lib.hid (below_call hb1)
    clear s1 s2 hb1 HX
    go_wp2_with fail
    go_loopw [5, 16] (fun u i wr => ∃ (j : Nat) (v : Value), j ≤ x.S.len ∧ i = .int .i64 (j : Int) ∧ v = u ∧ wr.ownsRow w.heap.size 3 1 v j ((rks x.S j).map intv) ∧ Below w.heap.size w wr)
      (fun _ i _ => x.S.len - (Go.RowKit.intOf i).toNat)
    case atStart => exact ⟨0, _, Nat.zero_le _, rfl, rfl, World.ownsRow_nil _ _ _ _, HB.out⟩
    case round =>
      clear HB s3 s4
      obtain ⟨j, v, hj, rfl, rfl, hown, hb⟩ := hrel
      by_cases hlt : j < x.S.len
      · rcases hrow with h0 | ⟨b, off, rfl, hr⟩
        · omega
        obtain ⟨e1, e2⟩ := hr j hlt
        have hkk := (bcell hb).1
        have f1 := (hkk _ _ (lt_of_cell e1)).trans e1
        have f2 := (hkk _ _ (lt_of_cell e2)).trans e2
        have hsn := Lib.hid (rks_snoc x.S j)
        generalize x.S.nm j = s at f1
        generalize x.S.rk j = rk at f2 hsn
        clear hkk e1 e2
        have hmx : j + 1 ≤ maxLen := by simp only [maxLen]; omega
        go_upto_region 8 with fail
        have ho2 := hown.alloc (.cells #[.string s, .int .i64 rk] 64)
        have hb2 := hb.alloc hb.size (.cells #[.string s, .int .i64 rk] 64)
        obtain ⟨v1, v2⟩ := two_cells (heap_new wr (.cells #[.string s, .int .i64 rk] 64))
        generalize wr.heap.size = bf at v1 v2 ⊢
        generalize wr.alloc (.cells #[.string s, .int .i64 rk] 64) = W2 at ho2 hb2 v1 v2 ⊢
        have hz := hb2.size
        clear hown hb f1 f2
        go_wp2_with (at_builtin; refine wpList_append_own _ rfl (.tmp 20) (.tmp 23) 33 rfl w.heap.size 3 i0 (.int .i64 0) 1 8 Tryz.underlying33 hi0 hz0 hz1 hz2 rfl Nat.one_pos v j _ rfl (ho2.alloc _) ⟨W2.heap.size, 0, none⟩ 1 1 [.int .i64 rk] rfl rfl (cell_one_new _ _ _) (one_intv rk) hmx (by omega) (by simp; omega) ?_; intro v1' w9 hown1 hgrow1 _)
        have hb9 := below_own hb2 ho2 hgrow1
        rw [hsn.out] at hown1
        go_roundw
        case rel => exact ⟨j + 1, _, by omega, by go_num, rfl, hown1, hb9⟩
        case measure => simp [Go.RowKit.intOf]; omega
      · obtain rfl : j = x.S.len := by omega
        have hl : (rks x.S x.S.len).length = x.S.len := by simp [rks]
        have HL := Lib.hid hl
        clear hl
        go_wp2_with fail
        go_ret2
        exact ⟨_, rfl, by rw [HL.out]; exact hown, hb⟩

end Go.Proofs.YtjdnbmcjnkmgdaaGreatDoor

/-
  The walks of need, needIn and Reach. Conditions: that the scheme lies in memory; of the first two, that it is valid.
-/
set_option linter.unusedSimpArgs false
set_option linter.unusedVariables false
namespace Go.Proofs.YtjdnbmcjnkmgdaaGreatDoor
open Go.RowKit Go.Maps

/-- what a visit leaves behind -/
def Seen (x : Sc) (nb : Nat) (w : World) (V : Nat → Bool) (R : Nat → Prop) (e : Ending) (w' : World) : Prop :=
  e = .returned (.tuple #[]) ∧ ∃ V', NB w' nb x.F.len V' ∧ Bn nb w w' ∧ Dfs x V V' R

set_option maxRecDepth 100000 in
set_option maxHeartbeats 4000000 in
theorem need_of (x : Sc) (hg : Good x) (sp fp : Option Addr) (sn sc fc nb N : Nat)
    (ih : ∀ (t : X) (k n : Int) (w : World) (V : Nat → Bool) (p : Option Addr) (l cap : Nat), cntV V x.F.len * 1000 + t.sz < N → t.sz ≤ 400 → goodH x k n → goodX x t → IsX w t p l cap → IsF w x.F fp x.F.len fc → NB w nb x.F.len V →
      Calls Tryz.prog 89 #[.agg #[.slice sp sn sc, .slice fp x.F.len fc], .agg #[.int .i64 k, .int .i64 n, .slice p l cap], .slice (some ⟨nb, 0, none⟩) x.F.len x.F.len] w (Seen x nb w V (fun i => call1 i k n t = true)))
    (m : Nat) (hm : m < x.F.len) (w : World) (V : Nat → Bool) (hc : cntV V x.F.len * 1000 ≤ N) (hF : IsF w x.F fp x.F.len fc) (hN : NB w nb x.F.len V) :
    Calls Tryz.prog 46 #[.agg #[.slice sp sn sc, .slice fp x.F.len fc], .int .i64 (m : Int), .slice (some ⟨nb, 0, none⟩) x.F.len x.F.len] w (Seen x nb w V (fun i => i = m)) := by
  have hlen := hg.funs
  have hsz := hg.size m hm
  have hgh := hg.head m hm
  have hgx := hg.body m hm
  have hbx := heap_new w (.cells #[.slice sp sn sc, .slice fp x.F.len fc] 25)
  have hN1 := hN.below ((Below.refl _ _).alloc (Nat.le_refl _) (.cells #[.slice sp sn sc, .slice fp x.F.len fc] 25))
  have hB1 := Bn.alloc nb w (.cells #[.slice sp sn sc, .slice fp x.F.len fc] 25)
  have hne : w.heap.size ≠ nb := by have := hN.lt; omega
  obtain ⟨c1, c2⟩ := hN1.cell hm
  have IH := Lib.hid ih
  have HG := Lib.hid (And.intro hgh hgx)
  clear ih hgh hgx
  cases hv : V m with
  | true =>
    rw [hv] at c1
    have HR : Seen x nb w V (fun i => i = m) (.returned (.tuple #[])) (w.alloc (.cells #[.slice sp sn sc, .slice fp x.F.len fc] 25)) := ⟨rfl, V, hN1, hB1, Dfs.same (by rintro i rfl; exact hv)⟩
    have HR' := Lib.hid HR
    clear HR hN1 hB1 hbx hF hN hv
    go_enter Tryz.func46, Tryz.ntmps46
    go_wp2_with fail
    go_end0
    exact HR'.out
  | false =>
    rw [hv] at c1
    have hcnt := cntV_upd hv x.F.len hm
    have hN2 := hN1.set m
    have hB2 := hB1.trans (Bn.set (nb := nb) (w.alloc (.cells #[.slice sp sn sc, .slice fp x.F.len fc] 25)) m (.bool true))
    have hbx2 : ((w.alloc (.cells #[.slice sp sn sc, .slice fp x.F.len fc] 25)).setCell ⟨nb, m, none⟩ (.bool true)).heap[w.heap.size]? = some (.cells #[.slice sp sn sc, .slice fp x.F.len fc] 25 (0, 0)) :=
      ((Bn.set (nb := nb) _ m (.bool true)).block w.heap.size (by simp) hne).trans hbx
    have hF2 := hF.keeps (hB2.keeps hN)
    obtain ⟨b, off, rfl, p, n, c, q, l, d, e1, e2, e3, e4, e5, e6, e7⟩ := rowF_all hF2 hm
    obtain ⟨⟨s1, s2⟩, _⟩ := two_box hbx2
    generalize hW : (w.alloc (.cells #[.slice sp sn sc, .slice (some ⟨b, off, none⟩) x.F.len fc] 25)).setCell ⟨nb, m, none⟩ (.bool true) = W2 at hN2 hB2 hbx2 hF2 e1 e2 e3 e4 e5 e6 e7 s1 s2
    have HW2 := Lib.hid (And.intro hN2 (And.intro hB2 (And.intro hF2 e7)))
    have H := Lib.hid fun W (h1 : NB W nb x.F.len (updV V m)) (h2 : IsF W x.F (some ⟨b, off, none⟩) x.F.len fc) (h3 : IsX W (x.F.bt m) q l d) => IH.out (x.F.bt m) (x.F.bk m) (x.F.bn m) W (updV V m) q l d (by omega) hsz HG.out.1 HG.out.2 h3 h2 h1
    generalize hbk : x.F.bk m = bk at e3 H
    generalize hbn : x.F.bn m = bn at e4 H
    have HBK := Lib.hid (And.intro hbk hbn)
    clear hN1 hB1 hbx hF hN hv hN2 hB2 hF2 e6 e7 hbx2 e1 e2 hbk hbn HG IH hcnt
    have HWE := Lib.hid hW
    clear hW
    go_enter Tryz.func46, Tryz.ntmps46
    go_wp2_with fail
    rw [HWE.out]
    go_still_tail 8, (by kernel_rfl)
    change wpList _ _ _ _ _ W2.drew
    go_wp2_with fail
    refine (H.out _ (HW2.out.1.below (below_drewN (Below.refl _ _) 1)) (HW2.out.2.2.1.below (below_drewN (Below.refl _ _) 1)) (HW2.out.2.2.2.below (below_drewN (Below.refl _ _) 1))).mono ?_
    rintro e w3 ⟨rfl, V', g1, g2, g3⟩
    go_wp2_with fail
    go_end0
    refine ⟨rfl, V', g1, HW2.out.2.1.trans ((Bn.drew W2).trans g2), Dfs.visit (g3.congr fun i => ?_)⟩
    unfold callB
    rw [HBK.out.1, HBK.out.2]

set_option maxRecDepth 100000 in
set_option maxHeartbeats 4000000 in
theorem needin_any (x : Sc) (hg : Good x) (sp fp : Option Addr) (sn sc fc nb N : Nat) :
    ∀ (t : X) (k n : Int) (w : World) (V : Nat → Bool) (p : Option Addr) (l cap : Nat), cntV V x.F.len * 1000 + t.sz < N → t.sz ≤ 400 → goodH x k n → goodX x t → IsX w t p l cap → IsF w x.F fp x.F.len fc → NB w nb x.F.len V →
      Calls Tryz.prog 89 #[.agg #[.slice sp sn sc, .slice fp x.F.len fc], .agg #[.int .i64 k, .int .i64 n, .slice p l cap], .slice (some ⟨nb, 0, none⟩) x.F.len x.F.len] w (Seen x nb w V (fun i => call1 i k n t = true)) := by
  induction N with
  | zero => intro t k n w V p l cap h; omega
  | succ N ih =>
    intro t k n w V p l cap hM h400 hgh hgx hX hF hN
    have IH := Lib.hid ih
    have ND := Lib.hid fun m hm w V hc hF hN => need_of x hg sp fp sn sc fc nb N ih m hm w V hc hF hN
    clear ih
    obtain ⟨rfl, hcap, hmax, hnil, hrow⟩ := id hX
    unfold maxLen at hmax
    have hb1 := alloc_kept (heap_new w (.cells #[.slice sp sn sc, .slice fp x.F.len fc] 25)) (.cells #[.int .i64 k, .int .i64 n, .slice p t.len cap] 50)
    have hb2 := heap_new2 w (.cells #[.slice sp sn sc, .slice fp x.F.len fc] 25) (.cells #[.int .i64 k, .int .i64 n, .slice p t.len cap] 50)
    have hBn := (Bn.alloc nb w (.cells #[.slice sp sn sc, .slice fp x.F.len fc] 25)).trans (Bn.alloc nb _ (.cells #[.int .i64 k, .int .i64 n, .slice p t.len cap] 50))
    have hN1 := (hN.below ((Below.refl _ _).alloc (Nat.le_refl _) (.cells #[.slice sp sn sc, .slice fp x.F.len fc] 25))).below ((Below.refl _ _).alloc (Nat.le_refl _) (.cells #[.int .i64 k, .int .i64 n, .slice p t.len cap] 50))
    have hne1 : w.heap.size ≠ nb := by have := hN.lt; omega
    have hne2 : w.heap.size + 1 ≠ nb := by have := hN.lt; omega
    have HW := Lib.hid (And.intro hX (And.intro hF hN))
    have HGX := Lib.hid hgx
    obtain ⟨hn0, hgh'⟩ := hgh
    -- behind the head: the visited ones, the boxes
    obtain ⟨m, rfl⟩ : ∃ m : Nat, n = m := ⟨n.toNat, by omega⟩
    -- the loop over the arguments
    have step : ∀ (V0 V' : Nat → Bool) (j : Nat), j < t.len → Dfs x V V0 (fun i => k = 1 ∧ (m : Int) = (i : Int) ∨ ∃ j', j' < j ∧ call1 i (t.gk j') (t.gn j') (t.ga j') = true) → Dfs x V0 V' (fun i => call1 i (t.gk j) (t.gn j) (t.ga j) = true) →
        Dfs x V V' (fun i => k = 1 ∧ (m : Int) = (i : Int) ∨ ∃ j', j' < j + 1 ∧ call1 i (t.gk j') (t.gn j') (t.ga j') = true) := by
      intro V0 V' j hj h1 h2
      refine h1.seq h2 fun i => ?_
      constructor
      · rintro (h | ⟨j', h3, h4⟩)
        · exact Or.inl (Or.inl h)
        · by_cases e : j' = j
          · subst e; exact Or.inr h4
          · exact Or.inl (Or.inr ⟨j', by omega, h4⟩)
      · rintro ((h | ⟨j', h3, h4⟩) | h)
        · exact Or.inl h
        · exact Or.inr ⟨j', by omega, h4⟩
        · exact Or.inr ⟨j, by omega, h⟩
    have last : ∀ V', Dfs x V V' (fun i => k = 1 ∧ (m : Int) = (i : Int) ∨ ∃ j', j' < t.len ∧ call1 i (t.gk j') (t.gn j') (t.ga j') = true) → Dfs x V V' (fun i => call1 i k m t = true) := by
      intro V' h
      refine h.congr fun i => ?_
      unfold call1
      rw [Bool.or_eq_true, Bool.and_eq_true, decide_eq_true_eq, decide_eq_true_eq, callX_iff]
      exact Iff.rfl
    have HST := Lib.hid (And.intro step last)
    clear step last hX hF hN hgx
    by_cases hk : k = 1
    · subst hk
      have hd : ((1 : Int) == 1) = true := by simp
      have hm : m < x.F.len := by
        rcases hgh' with ⟨h, _⟩ | ⟨_, h⟩ | ⟨h, _⟩ <;> omega
      obtain ⟨⟨s1, s2⟩, _⟩ := two_box hb1
      obtain ⟨⟨y1, y2, y3⟩, _⟩ := term_box hb2
      have hcN : cntV V x.F.len * 1000 ≤ N := by omega
      have HB := Lib.hid (And.intro hb1 (And.intro hb2 (And.intro hBn hN1)))
      have HF1 := Lib.hid ((HW.out.2.1.alloc (.cells #[.slice sp sn sc, .slice fp x.F.len fc] 25)).alloc (.cells #[.int .i64 1, .int .i64 (m : Int), .slice p t.len cap] 50))
      clear hb1 hb2 hBn hN1
      go_enter Tryz.func89, Tryz.ntmps89
      go_wp2_with fail
      refine (ND.out m hm _ V hcN HF1.out HB.out.2.2.2).mono ?_
      rintro e w1 ⟨rfl, V1, g1, g2, g3⟩
      have hb1' := (g2.block w.heap.size (by simp; omega) hne1).trans HB.out.1
      have hb2' := (g2.block (w.heap.size + 1) (by simp) hne2).trans HB.out.2.1
      have hD : Dfs x V V1 (fun i => True ∧ (m : Int) = (i : Int) ∨ ∃ j', j' < 0 ∧ call1 i (t.gk j') (t.gn j') (t.ga j') = true) := g3.congr fun i => by
        constructor
        · rintro (⟨_, h⟩ | ⟨j', h, _⟩)
          · omega
          · omega
        · rintro rfl; exact Or.inl ⟨trivial, rfl⟩
      have HS := Lib.hid (And.intro hb1' (And.intro g1 (And.intro (HB.out.2.2.1.trans g2) hD)))
      clear s1 s2 y1 y2 y3
      obtain ⟨⟨y1, y2, y3⟩, _⟩ := term_box hb2'
      clear HB g1 g2 g3 hb1' hb2' hD hd
      go_wp2_with fail
      go_loopw [19] (fun v wr => ∃ (j : Nat) (V' : Nat → Bool), j ≤ t.len ∧ v = .int .i64 (j : Int) ∧ NB wr nb x.F.len V' ∧ Bn nb w wr ∧ wr.heap[w.heap.size]? = some (.cells #[.slice sp sn sc, .slice fp x.F.len fc] 25 (0, 0)) ∧ Dfs x V V' (fun i => True ∧ (m : Int) = (i : Int) ∨ ∃ j', j' < j ∧ call1 i (t.gk j') (t.gn j') (t.ga j') = true))
        (fun v _ => t.len - (Go.RowKit.intOf v).toNat)
      case atStart => exact ⟨0, V1, Nat.zero_le _, rfl, HS.out.2.1, HS.out.2.2.1, HS.out.1, HS.out.2.2.2⟩
      case round =>
        clear HS y1 y2 y3
        obtain ⟨j, V', hj, rfl, hNr, hBr, hbr, hDr⟩ := hrel
        have HR := Lib.hid (And.intro hNr (And.intro hBr (And.intro hbr hDr)))
        have s1 := fun o => (two_box (alloc_kept hbr o)).1.1
        have s2 := fun o => (two_box (alloc_kept hbr o)).1.2
        have hcm := cntV_mono hDr.mono x.F.len
        by_cases hlt : j < t.len
        · rcases hrow with h0 | ⟨b, off, rfl, hr⟩
          · omega
          obtain ⟨hck, hcn, p', n', cap', hc, hi⟩ := base3_at (hBr.keeps HW.out.2.2) hr hlt
          have hsz := t.sz_ga j hlt
          obtain ⟨hgj, hgxj⟩ := goodX_at HGX.out hlt
          have HI := Lib.hid (And.intro hi (HW.out.2.1.keeps (hBr.keeps HW.out.2.2)))
          have HC := Lib.hid fun W (h1 : IsX W (t.ga j) p' n' cap') (h2 : IsF W x.F fp x.F.len fc) (h3 : NB W nb x.F.len V') => IH.out (t.ga j) (t.gk j) (t.gn j) W V' p' n' cap' (by omega) (by omega) hgj hgxj h1 h2 h3
          have HSX := Lib.hid fun V2 h => HST.out.1 V' V2 j hlt hDr h
          generalize t.gk j = kj at hck HC HSX
          generalize t.gn j = nj at hcn HC HSX
          clear hNr hBr hbr hDr hi hr hgj hgxj
          go_wp2_with fail
          refine (HC.out _ (HI.out.1.alloc _) (HI.out.2.alloc _) (HR.out.1.below ((Below.refl _ _).alloc (Nat.le_refl _) _))).mono ?_
          rintro e w2 ⟨rfl, V2, g1, g2, g3⟩
          have hB2 := HR.out.2.1.trans ((Bn.alloc nb wr _).trans g2)
          have hb2 := ((Bn.alloc nb wr _).trans g2).block w.heap.size (lt_of_block HR.out.2.2.1) hne1
          have HF := Lib.hid (And.intro g1 (And.intro hB2 (And.intro (hb2.trans HR.out.2.2.1) (HSX.out V2 g3))))
          clear g1 g2 g3 hB2 hb2
          go_wp2_with fail
          go_roundw
          case rel => exact ⟨j + 1, V2, by omega, by go_num, HF.out.1, HF.out.2.1, HF.out.2.2.1, HF.out.2.2.2⟩
          case measure => simp [Go.RowKit.intOf]; omega
        · obtain rfl : j = t.len := by omega
          have HF := Lib.hid (And.intro hNr (And.intro hBr (HST.out.2 V' hDr)))
          clear hNr hBr hDr
          go_wp2_with fail
          go_end0
          exact ⟨rfl, V', HF.out.1, HF.out.2.1, HF.out.2.2⟩
    · have hd : (k == 1) = false := by simp [hk]
      obtain ⟨⟨y1, y2, y3⟩, _⟩ := term_box hb2
      have hD : Dfs x V V (fun i => k = 1 ∧ (m : Int) = (i : Int) ∨ ∃ j', j' < 0 ∧ call1 i (t.gk j') (t.gn j') (t.ga j') = true) := Dfs.same (by
        rintro i (⟨h, _⟩ | ⟨j', h, _⟩)
        · exact absurd h hk
        · omega)
      have HS := Lib.hid (And.intro hb1 (And.intro hN1 (And.intro hBn hD)))
      clear hb1 hb2 hBn hN1 hD
      go_enter Tryz.func89, Tryz.ntmps89
      go_wp2_with fail
      go_loopw [19] (fun v wr => ∃ (j : Nat) (V' : Nat → Bool), j ≤ t.len ∧ v = .int .i64 (j : Int) ∧ NB wr nb x.F.len V' ∧ Bn nb w wr ∧ wr.heap[w.heap.size]? = some (.cells #[.slice sp sn sc, .slice fp x.F.len fc] 25 (0, 0)) ∧ Dfs x V V' (fun i => k = 1 ∧ (m : Int) = (i : Int) ∨ ∃ j', j' < j ∧ call1 i (t.gk j') (t.gn j') (t.ga j') = true))
        (fun v _ => t.len - (Go.RowKit.intOf v).toNat)
      case atStart => exact ⟨0, V, Nat.zero_le _, rfl, HS.out.2.1, HS.out.2.2.1, HS.out.1, HS.out.2.2.2⟩
      case round =>
        clear HS y1 y2 y3
        obtain ⟨j, V', hj, rfl, hNr, hBr, hbr, hDr⟩ := hrel
        have HR := Lib.hid (And.intro hNr (And.intro hBr (And.intro hbr hDr)))
        have s1 := fun o => (two_box (alloc_kept hbr o)).1.1
        have s2 := fun o => (two_box (alloc_kept hbr o)).1.2
        have hcm := cntV_mono hDr.mono x.F.len
        by_cases hlt : j < t.len
        · rcases hrow with h0 | ⟨b, off, rfl, hr⟩
          · omega
          obtain ⟨hck, hcn, p', n', cap', hc, hi⟩ := base3_at (hBr.keeps HW.out.2.2) hr hlt
          have hsz := t.sz_ga j hlt
          obtain ⟨hgj, hgxj⟩ := goodX_at HGX.out hlt
          have HI := Lib.hid (And.intro hi (HW.out.2.1.keeps (hBr.keeps HW.out.2.2)))
          have HC := Lib.hid fun W (h1 : IsX W (t.ga j) p' n' cap') (h2 : IsF W x.F fp x.F.len fc) (h3 : NB W nb x.F.len V') => IH.out (t.ga j) (t.gk j) (t.gn j) W V' p' n' cap' (by omega) (by omega) hgj hgxj h1 h2 h3
          have HSX := Lib.hid fun V2 h => HST.out.1 V' V2 j hlt hDr h
          generalize t.gk j = kj at hck HC HSX
          generalize t.gn j = nj at hcn HC HSX
          clear hNr hBr hbr hDr hi hr hgj hgxj
          go_wp2_with fail
          refine (HC.out _ (HI.out.1.alloc _) (HI.out.2.alloc _) (HR.out.1.below ((Below.refl _ _).alloc (Nat.le_refl _) _))).mono ?_
          rintro e w2 ⟨rfl, V2, g1, g2, g3⟩
          have hB2 := HR.out.2.1.trans ((Bn.alloc nb wr _).trans g2)
          have hb2 := ((Bn.alloc nb wr _).trans g2).block w.heap.size (lt_of_block HR.out.2.2.1) hne1
          have HF := Lib.hid (And.intro g1 (And.intro hB2 (And.intro (hb2.trans HR.out.2.2.1) (HSX.out V2 g3))))
          clear g1 g2 g3 hB2 hb2
          go_wp2_with fail
          go_roundw
          case rel => exact ⟨j + 1, V2, by omega, by go_num, HF.out.1, HF.out.2.1, HF.out.2.2.1, HF.out.2.2.2⟩
          case measure => simp [Go.RowKit.intOf]; omega
        · obtain rfl : j = t.len := by omega
          have HF := Lib.hid (And.intro hNr (And.intro hBr (HST.out.2 V' hDr)))
          clear hNr hBr hDr
          go_wp2_with fail
          go_end0
          exact ⟨rfl, V', HF.out.1, HF.out.2.1, HF.out.2.2⟩

end Go.Proofs.YtjdnbmcjnkmgdaaGreatDoor

/-
  The walk of Reach: what it answers, for whatever scheme. Conditions: none but that the scheme lies in memory.
-/
set_option linter.unusedSimpArgs false
set_option linter.unusedVariables false
namespace Go.Proofs.YtjdnbmcjnkmgdaaGreatDoor
open Go.RowKit Go.Maps

open Classical in
/-- the functions that are needed, in order -/
noncomputable def rchL (x : Sc) : List Int := if h : scOk x = true ∧ ∃ V, Least x V then visL (Classical.choose h.2) x.F.len else []

theorem rchL_of {x : Sc} {V : Nat → Bool} (hok : scOk x = true) (h : Least x V) : visL V x.F.len = rchL x := by
  have h' : scOk x = true ∧ ∃ V, Least x V := ⟨hok, V, h⟩
  unfold rchL
  rw [dif_pos h']
  exact visL_congr fun i hi => h.unique (Classical.choose_spec h'.2) i hi

theorem rchL_no {x : Sc} (h : scOk x = false) : rchL x = [] := by
  unfold rchL
  rw [dif_neg (by simp [h])]

theorem rchL_len {x : Sc} : (rchL x).length ≤ x.F.len := by
  unfold rchL
  split
  · exact visL_len _ _
  · simp

def ReachPost (w : World) (x : Sc) (e : Ending) (w' : World) : Prop :=
  ∃ v, e = .returned (.tuple #[v, .int .i64 (scE x)]) ∧ w'.ownsRow w.heap.size 3 1 v (rchL x).length ((rchL x).map intv) ∧ Below w.heap.size w w'

theorem infoBl : (Tryz.prog.info? 4).map (fun i => (i.zero, i.size, i.bytes)) = some (some (.bool false), 1, 1) := by kernel_rfl

theorem run_make_bools (n : Nat) (hn : n ≤ 64) (w : World) : (Instr.makeSlice 69 (.int .i64 (n : Int)) (.int .i64 (n : Int))).run Tryz.prog w = .ok (.slice (some ⟨w.heap.size, 0, none⟩) n n) (w.alloc (.cells (madeCells #[.bool false] n) 4)) :=
  run_make_row' (P := Tryz.prog) 69 4 (.bool false) 1 Tryz.underlying69 infoBl rfl .i64 .i64 n (by omega) (by omega) w

theorem NB.grown {W W2 : World} {nb n B k : Nat} {V : Nat → Bool} {v : Value} {xs : List Value} {o : Obj} (h : NB W nb n V) (ho : W.ownsRow B 3 1 v k xs) (hg : (W.alloc o).grownBy W2 v.ownBlock) : NB W2 nb n V := by
  have h1 := h.below ((Below.refl _ _).alloc (Nat.le_refl _) o)
  refine h1.of_block (hg.block nb h1.lt ?_)
  obtain ⟨_, h2⟩ := ho
  rcases h2 with ⟨rfl, _⟩ | ⟨g, cap, cur, rfl, _, hgb, _⟩
  · intro e; cases e
  · intro e
    obtain rfl : nb = g := Option.some.inj e
    unfold NB at h
    rw [h] at hgb
    cases hgb

theorem visL_snoc {V : Nat → Bool} {j : Nat} (h : V j = true) : (visL V j).map intv ++ [Value.int .i64 (j : Int)] = (visL V (j + 1)).map intv := by
  rw [← visL_yes h, List.map_append]; rfl

theorem visL_snoc_len {V : Nat → Bool} {j : Nat} (h : V j = true) : (visL V j).length + 1 = (visL V (j + 1)).length := by
  rw [← visL_yes h, List.length_append]; rfl

set_option maxRecDepth 100000 in
set_option maxHeartbeats 4000000 in
theorem sreach_any (x : Sc) (a : At2) (w : World) (h : IsC w x a) :
    Calls Tryz.prog 24 #[.agg #[.slice a.sp a.sn a.sc, .slice a.fp a.fn a.fc]] w (ReachPost w x) := by
  obtain ⟨i0, hi0, hz0, hz1, hz2⟩ := info_parts infoI
  have HC := Lib.hid (fun W h => scheck_any x a W h)
  obtain ⟨sp, sn, sc, fp, fn, fc⟩ := a
  obtain ⟨hS, hF⟩ := id h
  dsimp only at hS hF HC ⊢
  obtain rfl : fn = x.F.len := hF.1
  have hbx := heap_new w (.cells #[.slice sp sn sc, .slice fp x.F.len fc] 25)
  obtain ⟨s1, s2⟩ := two_cells hbx
  have HX := Lib.hid hbx
  have HH := Lib.hid h
  unfold ReachPost
  cases hok : scOk x with
  | false =>
    have e1 : scE x = 7 := by unfold scE; rw [hok]; rfl
    rw [e1] at HC ⊢
    rw [rchL_no hok]
    clear e1 hok hS hF hbx h
    go_enter Tryz.func24, Tryz.ntmps24
    go_wp2_with fail
    refine (HC.out _ (HH.out.alloc _)).mono ?_
    rintro e w1 ⟨rfl, hb1⟩
    go_wp2_with fail
    go_ret2
    exact ⟨_, rfl, World.ownsRow_nil _ _ _ _, below_call hb1⟩
  | true =>
    have e1 : scE x = 0 := by unfold scE; rw [hok]; rfl
    have hg := good_of hok
    have h64 := hg.funs
    have hpos := hg.some
    rw [e1] at HC ⊢
    have hmk := run_make_bools x.F.len h64
    have HND := Lib.hid fun nb w hN hF => need_of x hg sp fp sn sc fc nb (cntV (fun _ => false) x.F.len * 1000) (needin_any x hg sp fp sn sc fc nb _) 0 hpos w (fun _ => false) (Nat.le_refl _) hF hN
    have HL := Lib.hid fun V (hD : Dfs x (fun _ => false) V (fun i => i = 0)) => rchL_of hok (Least.of_dfs hD hg)
    clear e1 hok hS hF hbx h hg
    go_enter Tryz.func24, Tryz.ntmps24
    go_wp2_with fail
    refine (HC.out _ (HH.out.alloc _)).mono ?_
    rintro e w1 ⟨rfl, hb1⟩
    have hbx1 := box3_later hb1 HX.out
    have s3 := fun o => (two_box (alloc_kept hbx1 o)).1.1
    have s4 := fun o => (two_box (alloc_kept hbx1 o)).1.2
    obtain ⟨s5, s6⟩ := two_cells hbx1
    have hB1 := below_call hb1
    have hN1 := NB.made (heap_new w1 (.cells (madeCells #[.bool false] x.F.len) 4))
    have hF1 := (HH.out.2.below hB1).alloc (.cells (madeCells #[.bool false] x.F.len) 4)
    have HB := Lib.hid (And.intro hB1 (And.intro hN1 hF1))
    clear s1 s2 hb1 HX hbx1 hB1 hN1 hF1
    go_wp2_with fail
    refine (HND.out _ _ HB.out.2.1 HB.out.2.2).mono ?_
    rintro e w2 ⟨rfl, V, g1, g2, g3⟩
    have hz1' : w.heap.size ≤ w1.heap.size := HB.out.1.size
    have hB2 : Below w.heap.size w w2 := g2.to_below (HB.out.1.alloc hz1' _) hz1' (by simp; omega)
    have HB2 := Lib.hid (And.intro hB2 (And.intro g1 (HL.out V g3)))
    generalize w1.heap.size = nb at g1 HB2 ⊢
    clear g1 g2 g3 hB2 HB s3 s4 s5 s6 HND HL hmk
    go_wp2_with fail
    go_loopw [6, 23] (fun u i wr => ∃ (j : Nat) (v : Value), j ≤ x.F.len ∧ i = .int .i64 (j : Int) ∧ v = u ∧ wr.ownsRow w.heap.size 3 1 v (visL V j).length ((visL V j).map intv) ∧ NB wr nb x.F.len V ∧ Below w.heap.size w wr)
      (fun _ i _ => x.F.len - (Go.RowKit.intOf i).toNat)
    case atStart => exact ⟨0, _, Nat.zero_le _, rfl, rfl, World.ownsRow_nil _ _ _ _, HB2.out.2.1, HB2.out.1⟩
    case round =>
      obtain ⟨j, v, hj, rfl, rfl, hown, hN, hb⟩ := hrel
      by_cases hlt : j < x.F.len
      · obtain ⟨c1, c2⟩ := hN.cell hlt
        have hvl := visL_len V j
        cases hv : V j with
        | true =>
          rw [hv] at c1
          have hsn := Lib.hid (And.intro (visL_snoc hv) (visL_snoc_len hv))
          have hmx : (visL V j).length + 1 ≤ maxLen := by simp only [maxLen]; omega
          have HN := Lib.hid hN
          have hz := hb.size
          clear hN hv
          go_upto_region 11 with fail
          go_wp2_with (at_builtin; refine wpList_append_own _ rfl (.tmp 29) (.tmp 31) 33 rfl w.heap.size 3 i0 (.int .i64 0) 1 8 Tryz.underlying33 hi0 hz0 hz1 hz2 rfl Nat.one_pos v (visL V j).length _ rfl (hown.alloc _) ⟨wr.heap.size, 0, none⟩ 1 1 [.int .i64 (j : Int)] rfl rfl (cell_one_new _ _ _) (one_intv (j : Int)) hmx (by omega) (by simp; omega) ?_; intro v1' w9 hown1 hgrow1 _)
          have hb9 := below_own hb hown hgrow1
          have hN9 := HN.out.grown hown hgrow1
          rw [hsn.out.1, hsn.out.2] at hown1
          have HF := Lib.hid (And.intro hown1 (And.intro hN9 hb9))
          clear hown1 hN9 hb9 hown hb
          go_roundw
          case rel => exact ⟨j + 1, _, by omega, by go_num, rfl, HF.out.1, HF.out.2.1, HF.out.2.2⟩
          case measure => simp [Go.RowKit.intOf]; omega
        | false =>
          rw [hv] at c1
          rw [visL_no hv] at hown
          have HF := Lib.hid (And.intro hown (And.intro hN hb))
          clear hown hN hb hv
          go_wp2_with fail
          go_roundw
          case rel => exact ⟨j + 1, _, by omega, by go_num, rfl, HF.out.1, HF.out.2.1, HF.out.2.2⟩
          case measure => simp [Go.RowKit.intOf]; omega
      · obtain rfl : j = x.F.len := by omega
        rw [HB2.out.2.2] at hown
        have HF := Lib.hid (And.intro hown hb)
        clear hown hb hN
        go_wp2_with fail
        go_ret2
        exact ⟨_, rfl, HF.out.1, HF.out.2⟩

end Go.Proofs.YtjdnbmcjnkmgdaaGreatDoor

/-
  The walk of the reference's calls. Conditions: that the term lies in memory.
-/
set_option linter.unusedSimpArgs false
set_option linter.unusedVariables false
namespace Go.Proofs.YtjdnbmcjnkmgdaaGreatDoor
open Go.RowKit Go.Maps

set_option maxRecDepth 100000 in
set_option maxHeartbeats 4000000 in
theorem refcalls_any (i : Nat) (N : Nat) : ∀ (t : X) (k n : Int) (w : World) (p : Option Addr) (l cap : Nat), t.sz < N → IsX w t p l cap →
    Calls Tryz.prog 47 #[.agg #[.int .i64 k, .int .i64 n, .slice p l cap], .int .i64 (i : Int)] w fun e w' => e = .returned (.bool (call1 i k n t)) ∧ Below w.heap.size w w' := by
  induction N with
  | zero => intro t k n w p l cap h; omega
  | succ N ih =>
    intro t k n w p l cap hM hX
    have IH := Lib.hid ih
    clear ih
    obtain ⟨rfl, hcap, hmax, hnil, hrow⟩ := id hX
    unfold maxLen at hmax
    have hbx := heap_new w (.cells #[.int .i64 k, .int .i64 n, .slice p t.len cap] 50)
    obtain ⟨⟨y1, y2, y3⟩, _⟩ := term_box hbx
    have hb0 := (Below.refl w.heap.size w).alloc (Nat.le_refl _) (.cells #[.int .i64 k, .int .i64 n, .slice p t.len cap] 50)
    have HB := Lib.hid hb0
    clear hbx hb0 hX
    have loop : k = 1 ∧ n = (i : Int) ∨ ¬ (k = 1 ∧ n = (i : Int)) := Classical.em _
    rcases loop with ⟨rfl, rfl⟩ | hno
    · have e : call1 i 1 (i : Int) t = true := by simp [call1]
      rw [e]
      have hd : (((i : Int) == (i : Int))) = true := by simp
      go_enter Tryz.func47, Tryz.ntmps47
      go_wp2_with fail
      go_ret
      exact ⟨rfl, HB.out⟩
    · have e : call1 i k n t = callX i (t.drop 0) := by
        unfold call1
        rw [X.drop_zero, show (decide (k = 1) && decide (n = (i : Int))) = false by simpa using hno, Bool.false_or]
      obtain ⟨Z, hZ⟩ : ∃ Z, call1 i k n t = Z := ⟨_, rfl⟩
      rw [hZ] at e ⊢
      have HE := Lib.hid e.symm
      clear e hZ
      by_cases hk : k = 1
      · have hd1 : (k == 1) = true := by simp [hk]
        have hd2 : (n == (i : Int)) = false := by
          rw [beq_eq_false_iff_ne]; exact fun h => hno ⟨hk, h⟩
        clear hno hk
        go_enter Tryz.func47, Tryz.ntmps47
        go_wp2_with fail
        clear hd1 hd2
        go_loopw [19] (fun v wr => ∃ j : Nat, j ≤ t.len ∧ v = .int .i64 (j : Int) ∧ callX i (t.drop j) = Z ∧ Below w.heap.size w wr)
          (fun v _ => t.len - (Go.RowKit.intOf v).toNat)
        case atStart => exact ⟨0, Nat.zero_le _, rfl, HE.out, HB.out⟩
        case round =>
          clear HE y1 y2 y3
          obtain ⟨j, hj, rfl, hmo, hb⟩ := hrel
          have HBr := Lib.hid hb
          by_cases hlt : j < t.len
          · rcases hrow with h0 | ⟨b, off, rfl, hr⟩
            · omega
            obtain ⟨hck, hcn, p', n', cap', hc, hi⟩ := base3_at (Keeps3.below hb (Nat.le_refl _)) hr hlt
            have hsz := t.sz_ga j hlt
            have HC := Lib.hid fun W h => IH.out (t.ga j) (t.gk j) (t.gn j) W p' n' cap' (by omega) h
            have HI := Lib.hid hi
            rw [callX_drop i t j hlt] at hmo
            clear hb hi hr
            generalize t.gk j = kj at hck HC hmo
            generalize t.gn j = nj at hcn HC hmo
            cases hB : call1 i kj nj (t.ga j) with
            | true =>
              rw [hB] at HC hmo
              have hz : Z = true := by rw [← hmo]; rfl
              subst hz
              clear hB hmo
              go_wp2_with fail
              refine (HC.out _ (HI.out.alloc _)).mono ?_
              rintro e w1 ⟨rfl, hb1⟩
              have hB1 := base_next HBr.out hb1
              go_wp2_with fail
              go_ret
              exact ⟨rfl, hB1⟩
            | false =>
              rw [hB] at HC hmo
              have hz : callX i (t.drop (j + 1)) = Z := by rw [← hmo]; rfl
              have HZ := Lib.hid hz
              clear hB hmo hz
              go_wp2_with fail
              refine (HC.out _ (HI.out.alloc _)).mono ?_
              rintro e w1 ⟨rfl, hb1⟩
              have HB1 := Lib.hid (base_next HBr.out hb1)
              clear hb1
              go_wp2_with fail
              go_roundw
              case rel => exact ⟨j + 1, by omega, by go_num, HZ.out, HB1.out⟩
              case measure => simp [Go.RowKit.intOf]; omega
          · have hz : Z = false := by rw [← hmo, X.drop_end t j (by omega)]; rfl
            subst hz
            clear hmo hb
            go_wp2_with fail
            go_ret
            exact ⟨rfl, HBr.out⟩
      · have hd1 : (k == 1) = false := by simp [hk]
        clear hno hk
        go_enter Tryz.func47, Tryz.ntmps47
        go_wp2_with fail
        clear hd1
        go_loopw [19] (fun v wr => ∃ j : Nat, j ≤ t.len ∧ v = .int .i64 (j : Int) ∧ callX i (t.drop j) = Z ∧ Below w.heap.size w wr)
          (fun v _ => t.len - (Go.RowKit.intOf v).toNat)
        case atStart => exact ⟨0, Nat.zero_le _, rfl, HE.out, HB.out⟩
        case round =>
          clear HE y1 y2 y3
          obtain ⟨j, hj, rfl, hmo, hb⟩ := hrel
          have HBr := Lib.hid hb
          by_cases hlt : j < t.len
          · rcases hrow with h0 | ⟨b, off, rfl, hr⟩
            · omega
            obtain ⟨hck, hcn, p', n', cap', hc, hi⟩ := base3_at (Keeps3.below hb (Nat.le_refl _)) hr hlt
            have hsz := t.sz_ga j hlt
            have HC := Lib.hid fun W h => IH.out (t.ga j) (t.gk j) (t.gn j) W p' n' cap' (by omega) h
            have HI := Lib.hid hi
            rw [callX_drop i t j hlt] at hmo
            clear hb hi hr
            generalize t.gk j = kj at hck HC hmo
            generalize t.gn j = nj at hcn HC hmo
            cases hB : call1 i kj nj (t.ga j) with
            | true =>
              rw [hB] at HC hmo
              have hz : Z = true := by rw [← hmo]; rfl
              subst hz
              clear hB hmo
              go_wp2_with fail
              refine (HC.out _ (HI.out.alloc _)).mono ?_
              rintro e w1 ⟨rfl, hb1⟩
              have hB1 := base_next HBr.out hb1
              go_wp2_with fail
              go_ret
              exact ⟨rfl, hB1⟩
            | false =>
              rw [hB] at HC hmo
              have hz : callX i (t.drop (j + 1)) = Z := by rw [← hmo]; rfl
              have HZ := Lib.hid hz
              clear hB hmo hz
              go_wp2_with fail
              refine (HC.out _ (HI.out.alloc _)).mono ?_
              rintro e w1 ⟨rfl, hb1⟩
              have HB1 := Lib.hid (base_next HBr.out hb1)
              clear hb1
              go_wp2_with fail
              go_roundw
              case rel => exact ⟨j + 1, by omega, by go_num, HZ.out, HB1.out⟩
              case measure => simp [Go.RowKit.intOf]; omega
          · have hz : Z = false := by rw [← hmo, X.drop_end t j (by omega)]; rfl
            subst hz
            clear hmo hb
            go_wp2_with fail
            go_ret
            exact ⟨rfl, HBr.out⟩

end Go.Proofs.YtjdnbmcjnkmgdaaGreatDoor

/-
  The walks of the reference's Order and Ranks. Conditions: that the scheme lies in memory.
-/
set_option linter.unusedSimpArgs false
set_option linter.unusedVariables false
namespace Go.Proofs.YtjdnbmcjnkmgdaaGreatDoor
open Go.RowKit Go.Maps

set_option maxRecDepth 100000 in
set_option maxHeartbeats 2000000 in
theorem reforder3_any (x : Sc) (a : At2) (w : World) (h : IsC w x a) :
    Calls Tryz.prog 20 #[.agg #[.slice a.sp a.sn a.sc, .slice a.fp a.fn a.fc]] w fun e w' => e = .returned (.tuple #[.int .i64 (x.ordN : Int), .int .i64 (scE x)]) ∧ Below w.heap.size w w' := by
  have HC := Lib.hid (fun W h => refis3_any x a W h)
  obtain ⟨sp, sn, sc, fp, fn, fc⟩ := a
  obtain ⟨hS, hF⟩ := id h
  dsimp only at hS hF HC ⊢
  obtain rfl : fn = x.F.len := hF.1
  have hbx := heap_new w (.cells #[.slice sp sn sc, .slice fp x.F.len fc] 25)
  obtain ⟨s1, s2⟩ := two_cells hbx
  obtain ⟨_, hcap, hmax, _, hrow⟩ := id hF
  unfold maxLen at hmax
  have HX := Lib.hid hbx
  have HH := Lib.hid h
  cases hok : scOk x with
  | false =>
    have e1 : scE x = 7 := by unfold scE; rw [hok]; rfl
    have e2 : x.ordN = 0 := by unfold Sc.ordN; rw [hok]; rfl
    rw [hok] at HC
    rw [e1, e2]
    clear e1 e2 hok hS hF hbx h hcap hmax hrow
    go_enter Tryz.func20, Tryz.ntmps20
    go_wp2_with fail
    refine (HC.out _ (HH.out.alloc _)).mono ?_
    rintro e w1 ⟨rfl, hb1⟩
    go_wp2_with fail
    go_ret2
    exact ⟨rfl, below_call hb1⟩
  | true =>
    have e1 : scE x = 0 := by unfold scE; rw [hok]; rfl
    have e2 : x.ordN = ordF x.F 0 x.F.len 0 := by unfold Sc.ordN; rw [hok]; rfl
    obtain ⟨z, hz⟩ : ∃ z, x.ordN = z := ⟨_, rfl⟩
    have hvs := (good_of hok).sort
    rw [hok] at HC
    rw [e1]
    rw [hz] at e2 ⊢
    have HZ := Lib.hid e2.symm
    clear e1 e2 hz hok hS hF hbx h
    go_enter Tryz.func20, Tryz.ntmps20
    go_wp2_with fail
    refine (HC.out _ (HH.out.alloc _)).mono ?_
    rintro e w1 ⟨rfl, hb1⟩
    obtain ⟨s3, s4⟩ := two_cells (box3_later hb1 HX.out)
    have HB := Lib.hid (below_call hb1)
    clear s1 s2 hb1 HX
    go_wp2_with fail
    go_loopw [4, 13] (fun v i wr => ∃ j m : Nat, j ≤ x.F.len ∧ i = .int .i64 (j : Int) ∧ v = .int .i64 (m : Int) ∧ ordF x.F j (x.F.len - j) m = z ∧ Below w.heap.size w wr)
      (fun _ i _ => x.F.len - (Go.RowKit.intOf i).toNat)
    case atStart => exact ⟨0, 0, Nat.zero_le _, rfl, rfl, HZ.out, HB.out⟩
    case round =>
      clear HB s3 s4 HZ
      obtain ⟨j, m, hj, rfl, rfl, hm, hb⟩ := hrel
      by_cases hlt : j < x.F.len
      · rcases hrow with h0 | ⟨b, off, rfl, hr⟩
        · omega
        obtain ⟨p', n', c', q', m', d', e1, e2, e3, e4, e5, e6, e7⟩ := hr j hlt
        have hkk := (bcell hb).1
        have f1 := (hkk _ _ (lt_of_cell e1)).trans e1
        have f2 := (hkk _ _ (lt_of_cell e2)).trans e2
        have f3 := (hkk _ _ (lt_of_cell e3)).trans e3
        have f4 := (hkk _ _ (lt_of_cell e4)).trans e4
        have f5 := (hkk _ _ (lt_of_cell e5)).trans e5
        have hm2 : ordF x.F (j + 1) (x.F.len - (j + 1)) (max m (x.F.st j).oN) = z := by
          rw [← hm, show x.F.len - j = (x.F.len - (j + 1)) + 1 by omega]; rfl
        have HM := Lib.hid hm2
        have hor : (x.F.st j).ord = (x.F.st j).oN := by unfold T.oN; rw [if_pos (hvs j hlt)]
        have hO := fun W h => rank_any (x.F.st j).nodes (x.F.st j) W p' n' c' (Nat.le_refl _) (T.valid_nodes _ (hvs j hlt)) h
        rw [hor] at hO
        have HO := Lib.hid hO
        have ht := e6.below hb
        have HBB := Lib.hid hb
        generalize x.F.nm j = s at f1
        generalize x.F.bk j = bk at f3
        generalize x.F.bn j = bn at f4
        clear hm hm2 hO hor hkk e1 e2 e3 e4 e5 e6 e7 hb
        go_wp2_with fail
        refine (HO.out _ (ht.alloc _)).mono ?_
        rintro e w2 ⟨rfl, hb2⟩
        have hb3 := base_next HBB.out hb2
        clear hb2 f1 f2 f3 f4 f5 ht HO HBB
        go_wp2_with fail
        go_roundw
        case rel => exact ⟨j + 1, max m (x.F.st j).oN, by omega, by go_num, val_int (by omega), HM.out, hb3⟩
        case measure => simp [Go.RowKit.intOf]; omega
      · have hm2 : m = z := by rw [← hm, show x.F.len - j = 0 by omega]; rfl
        subst hm2
        clear hm
        go_wp2_with fail
        go_ret2
        exact ⟨rfl, hb⟩

set_option maxRecDepth 100000 in
set_option maxHeartbeats 2000000 in
theorem refranks3_any (x : Sc) (a : At2) (w : World) (h : IsC w x a) :
    Calls Tryz.prog 22 #[.agg #[.slice a.sp a.sn a.sc, .slice a.fp a.fn a.fc]] w (RanksPost w x) := by
  obtain ⟨i0, hi0, hz0, hz1, hz2⟩ := info_parts infoI
  have HC := Lib.hid (fun W h => refis3_any x a W h)
  obtain ⟨sp, sn, sc, fp, fn, fc⟩ := a
  obtain ⟨hS, hF⟩ := id h
  dsimp only at hS hF HC ⊢
  obtain rfl : sn = x.S.len := hS.1
  have hbx := heap_new w (.cells #[.slice sp x.S.len sc, .slice fp fn fc] 25)
  obtain ⟨s1, s2⟩ := two_cells hbx
  obtain ⟨_, hcap, hmax, _, hrow⟩ := id hS
  unfold maxLen at hmax
  have HX := Lib.hid hbx
  have HH := Lib.hid h
  unfold RanksPost
  cases hok : scOk x with
  | false =>
    have e1 : scE x = 7 := by unfold scE; rw [hok]; rfl
    have e2 : x.ranks = [] := by unfold Sc.ranks; rw [hok]; rfl
    rw [hok] at HC
    rw [e1, e2]
    clear e1 e2 hok hS hF hbx h hcap hmax hrow
    go_enter Tryz.func22, Tryz.ntmps22
    go_wp2_with fail
    refine (HC.out _ (HH.out.alloc _)).mono ?_
    rintro e w1 ⟨rfl, hb1⟩
    go_wp2_with fail
    go_ret2
    exact ⟨_, rfl, World.ownsRow_nil _ _ _ _, below_call hb1⟩
  | true =>
    have e1 : scE x = 0 := by unfold scE; rw [hok]; rfl
    have e2 : x.ranks = rks x.S x.S.len := by unfold Sc.ranks; rw [hok]; rfl
    have h24 := scOk_syms hok
    rw [hok] at HC
    rw [e1, e2]
    clear e1 e2 hok hS hF hbx h
    go_enter Tryz.func22, Tryz.ntmps22
    go_wp2_with fail
    refine (HC.out _ (HH.out.alloc _)).mono ?_
    rintro e w1 ⟨rfl, hb1⟩
    obtain ⟨s3, s4⟩ := two_cells (box3_later hb1 HX.out)
    have HB := Lib.hid (below_call hb1)
    clear s1 s2 hb1 HX
    go_wp2_with fail
    go_loopw [4, 13] (fun u i wr => ∃ (j : Nat) (v : Value), j ≤ x.S.len ∧ i = .int .i64 (j : Int) ∧ v = u ∧ wr.ownsRow w.heap.size 3 1 v j ((rks x.S j).map intv) ∧ Below w.heap.size w wr)
      (fun _ i _ => x.S.len - (Go.RowKit.intOf i).toNat)
    case atStart => exact ⟨0, _, Nat.zero_le _, rfl, rfl, World.ownsRow_nil _ _ _ _, HB.out⟩
    case round =>
      clear HB s3 s4
      obtain ⟨j, v, hj, rfl, rfl, hown, hb⟩ := hrel
      by_cases hlt : j < x.S.len
      · rcases hrow with h0 | ⟨b, off, rfl, hr⟩
        · omega
        obtain ⟨e1, e2⟩ := hr j hlt
        have hkk := (bcell hb).1
        have f1 := (hkk _ _ (lt_of_cell e1)).trans e1
        have f2 := (hkk _ _ (lt_of_cell e2)).trans e2
        have hsn := Lib.hid (rks_snoc x.S j)
        generalize x.S.nm j = s at f1
        generalize x.S.rk j = rk at f2 hsn
        clear hkk e1 e2
        have hmx : j + 1 ≤ maxLen := by simp only [maxLen]; omega
        go_upto_region 7 with fail
        have ho2 := hown.alloc (.cells #[.string s, .int .i64 rk] 64)
        have hb2 := hb.alloc hb.size (.cells #[.string s, .int .i64 rk] 64)
        obtain ⟨v1, v2⟩ := two_cells (heap_new wr (.cells #[.string s, .int .i64 rk] 64))
        generalize wr.heap.size = bf at v1 v2 ⊢
        generalize wr.alloc (.cells #[.string s, .int .i64 rk] 64) = W2 at ho2 hb2 v1 v2 ⊢
        have hz := hb2.size
        clear hown hb f1 f2
        go_wp2_with (at_builtin; refine wpList_append_own _ rfl (.tmp 17) (.tmp 20) 33 rfl w.heap.size 3 i0 (.int .i64 0) 1 8 Tryz.underlying33 hi0 hz0 hz1 hz2 rfl Nat.one_pos v j _ rfl (ho2.alloc _) ⟨W2.heap.size, 0, none⟩ 1 1 [.int .i64 rk] rfl rfl (cell_one_new _ _ _) (one_intv rk) hmx (by omega) (by simp; omega) ?_; intro v1' w9 hown1 hgrow1 _)
        have hb9 := below_own hb2 ho2 hgrow1
        rw [hsn.out] at hown1
        go_roundw
        case rel => exact ⟨j + 1, _, by omega, by go_num, rfl, hown1, hb9⟩
        case measure => simp [Go.RowKit.intOf]; omega
      · obtain rfl : j = x.S.len := by omega
        have hl : (rks x.S x.S.len).length = x.S.len := by simp [rks]
        have HL := Lib.hid hl
        clear hl
        go_wp2_with fail
        go_ret2
        exact ⟨_, rfl, by rw [HL.out]; exact hown, hb⟩

end Go.Proofs.YtjdnbmcjnkmgdaaGreatDoor

/-
  The walk of the statement on Order and Ranks. Conditions: that the scheme lies in memory, and the package variables read as laid.
-/
set_option linter.unusedSimpArgs false
set_option linter.unusedVariables false
namespace Go.Proofs.YtjdnbmcjnkmgdaaGreatDoor
open Go.RowKit Go.Maps

set_option maxRecDepth 100000 in
set_option maxHeartbeats 2000000 in
/-- the law's comparison of one list with itself -/
theorem ints3_true (L : List Int) (w : World) (p q : Option Addr) (n c m c' : Nat) (h1 : IsI w L p n c) (h2 : IsI w L q m c') :
    Calls Tryz.prog 23 #[.slice p n c, .slice q m c'] w fun e w' => e = .returned (.bool true) ∧ Below w.heap.size w w' := by
  obtain ⟨rfl, hc1, hm1, hr1⟩ := h1
  obtain ⟨rfl, hc2, hm2, hr2⟩ := h2
  unfold maxLen at hm1 hm2
  go_enter Tryz.func23, Tryz.ntmps23
  go_wp2_with fail
  go_loopw [13] (fun i wr => ∃ j : Nat, j ≤ L.length ∧ i = .int .i64 (j : Int) ∧ Below w.heap.size w wr)
    (fun i _ => L.length - (Go.RowKit.intOf i).toNat)
  case atStart => exact ⟨0, Nat.zero_le _, rfl, Below.refl _ _⟩
  case round =>
    obtain ⟨j, hj, rfl, hb⟩ := hrel
    by_cases hlt : j < L.length
    · rcases hr1 with ⟨_, h0⟩ | ⟨b1, o1, rfl, hb1, hx1⟩
      · omega
      rcases hr2 with ⟨_, h0⟩ | ⟨b2, o2, rfl, hb2, hx2⟩
      · omega
      obtain ⟨x, hx⟩ : ∃ x, L[j] = x := ⟨_, rfl⟩
      have hc1' := ((bcell hb).1 b1 (o1 + j) hb1).trans (hx1 j x (by rw [List.getElem?_eq_getElem hlt, hx]))
      have hc2' := ((bcell hb).1 b2 (o2 + j) hb2).trans (hx2 j x (by rw [List.getElem?_eq_getElem hlt, hx]))
      have hd : (x != x) = false := by simp
      clear hx1 hx2 hx
      go_wp2_with fail
      go_quiet (fail)
      go_wp2_with fail
      go_roundw
      case rel => exact ⟨j + 1, by omega, by go_num, below_drewN hb _⟩
      case measure => simp [Go.RowKit.intOf]; omega
    · go_wp2_with fail
      go_ret
      exact ⟨rfl, hb⟩

theorem isI_own3 {W : World} {B : Nat} {v : Value} {L : List Int} (h : W.ownsRow B 3 1 v L.length (L.map intv)) : ∃ p c, v = .slice p L.length c ∧ IsI W L p L.length c := by
  obtain ⟨hx, h2⟩ := id h
  rcases h2 with ⟨rfl, h0⟩ | ⟨g, cap, cur, rfl, hbg, hg, hnc, hcm, hcs, htake⟩
  · exact ⟨none, 0, by rw [h0], rfl, by omega, Nat.zero_le _, Or.inl ⟨rfl, rfl⟩⟩
  · refine ⟨_, _, rfl, rfl, hnc, hcm, Or.inr ⟨g, 0, rfl, lt_of_block hg, fun j x hj => ?_⟩⟩
    have hl : j < L.length := (List.getElem?_eq_some_iff.1 hj).1
    rw [Nat.zero_add, h.cellAt j (by omega), List.getElem?_map, hj]
    rfl

set_option maxRecDepth 100000 in
set_option maxHeartbeats 4000000 in
theorem law_sorder (x : Sc) (a : At2) (w : World) (h : IsC w x a) (hg : Gl w) (h6 : 6 ≤ w.heap.size) :
    Calls Tryz.prog 5 #[.agg #[.slice a.sp a.sn a.sc, .slice a.fp a.fn a.fc]] w fun e w' => e = .returned (.bool true) ∧ Below w.heap.size w w' := by
  have H1 := Lib.hid fun W (hb : Below w.heap.size w W) => sorder_any x a W (h.below hb)
  have H2 := Lib.hid fun W (hb : Below w.heap.size w W) => reforder3_any x a W (h.below hb)
  have H3 := Lib.hid fun W (hb : Below w.heap.size w W) => sranks_any x a W (h.below hb)
  have H4 := Lib.hid fun W (hb : Below w.heap.size w W) => refranks3_any x a W (h.below hb)
  have HA := Lib.hid fun W (hb : Below w.heap.size w W) => alive3_any W (hg.keep fun b hb' => hb.block b (by omega)) (by have := hb.size; omega)
  have HI := Lib.hid fun W p q n c m c' h h' => ints3_true x.ranks W p q n c m c' h h'
  obtain ⟨sp, sn, sc, fp, fn, fc⟩ := a
  dsimp only at H1 H2 H3 H4 ⊢
  unfold RanksPost at H3 H4
  generalize x.ranks = L at H3 H4 HI
  generalize scE x = k at H1 H2 H3 H4
  generalize x.ordN = o at H1 H2
  have hbx := heap_new w (.cells #[.slice sp sn sc, .slice fp fn fc] 25)
  have B0 := (Below.refl w.heap.size w).alloc (Nat.le_refl _) (.cells #[.slice sp sn sc, .slice fp fn fc] 25)
  obtain ⟨⟨s1, s2⟩, _⟩ := two_box hbx
  have HB := Lib.hid (And.intro hbx B0)
  clear h hg h6 hbx B0
  go_enter Tryz.func5, Tryz.ntmps5
  go_wp2_with fail
  refine (H1.out _ HB.out.2).mono ?_
  rintro e w1 ⟨rfl, hb1⟩
  have h1 := Lib.hid (And.intro (box3_later hb1 HB.out.1) (HB.out.2.trans (hb1.mono HB.out.2.size)))
  clear hb1 HB s1 s2 H1
  obtain ⟨⟨s1, s2⟩, _⟩ := two_box h1.out.1
  go_wp2_with fail
  refine (H2.out _ h1.out.2).mono ?_
  rintro e w2 ⟨rfl, hb2⟩
  have h2 := Lib.hid (And.intro (box3_later hb2 h1.out.1) (h1.out.2.trans (hb2.mono h1.out.2.size)))
  clear hb2 h1 s1 s2 H2
  obtain ⟨⟨s1, s2⟩, _⟩ := two_box h2.out.1
  go_wp2_with fail
  refine (H3.out _ h2.out.2).mono ?_
  rintro e w3 ⟨v3, rfl, hO3, hb3⟩
  obtain ⟨p3, c3, rfl, hi3⟩ := isI_own3 hO3
  have h3 := Lib.hid (And.intro (box3_later hb3 h2.out.1) (And.intro (h2.out.2.trans (hb3.mono h2.out.2.size)) hi3))
  clear hb3 h2 s1 s2 H3 hO3 hi3
  obtain ⟨⟨s1, s2⟩, _⟩ := two_box h3.out.1
  go_wp2_with fail
  refine (H4.out _ h3.out.2.1).mono ?_
  rintro e w4 ⟨v4, rfl, hO4, hb4⟩
  obtain ⟨p4, c4, rfl, hi4⟩ := isI_own3 hO4
  have h4 := Lib.hid (And.intro (h3.out.2.1.trans (hb4.mono h3.out.2.1.size)) (And.intro (h3.out.2.2.below hb4) hi4))
  clear hb4 h3 s1 s2 H4 hO4 hi4
  go_wp2_with fail
  refine (HI.out _ _ _ _ _ _ _ h4.out.2.1 h4.out.2.2).mono ?_
  rintro e w5 ⟨rfl, hb5⟩
  have B5 := h4.out.1.trans (hb5.mono h4.out.1.size)
  have HB5 := Lib.hid B5
  clear hb5 h4 B5
  go_wp2_with fail
  refine (HA.out _ HB5.out).mono ?_
  rintro e w6 ⟨rfl, hb6⟩
  go_wp2_with fail
  go_ret
  exact ⟨rfl, HB5.out.trans (hb6.mono HB5.out.size)⟩

end Go.Proofs.YtjdnbmcjnkmgdaaGreatDoor

/-
  The walk of the reference's Reach, and of the statement on Reach. Conditions: that the scheme lies in memory; of the statement's, that the package variables read as laid.
-/
set_option linter.unusedSimpArgs false
set_option linter.unusedVariables false
namespace Go.Proofs.YtjdnbmcjnkmgdaaGreatDoor
open Go.RowKit Go.Maps

/-- the start is visited, and whatever is visited must be -/
structure Sound (x : Sc) (V : Nat → Bool) : Prop where
  start : V 0 = true
  least : ∀ P : Nat → Prop, (∀ i k, i < x.F.len → P i → callB x i k = true → P k) → P 0 → ∀ i, i < x.F.len → V i = true → P i

theorem Sound.first (x : Sc) : Sound x (updV (fun _ => false) 0) := by
  refine ⟨if_pos rfl, fun P hP h0 i hi hV => ?_⟩
  unfold updV at hV
  split at hV
  · rename_i e; rw [e]; exact h0
  · cases hV

theorem Sound.more {x : Sc} {V : Nat → Bool} (h : Sound x V) {i k : Nat} (hi : i < x.F.len) (hV : V i = true) (hc : callB x i k = true) : Sound x (updV V k) := by
  refine ⟨?_, fun P hP h0 j hj hV' => ?_⟩
  · unfold updV
    split
    · rfl
    · exact h.start
  · unfold updV at hV'
    split at hV'
    · rename_i e
      rw [e]
      exact hP i k hi (h.least P hP h0 i hi hV) hc
    · exact h.least P hP h0 j hj hV'

theorem Sound.all {x : Sc} {V : Nat → Bool} (h : Sound x V) (hc : ∀ i, i < x.F.len → ∀ k, k < x.F.len → V i = true → callB x i k = true → V k = true) (hg : Good x) : Least x V :=
  ⟨h.start, fun i k hi h1 h2 => hc i hi k (callB_lt hg hi h2) h1 h2, h.least⟩

/-- the bools of a block -/
def boolAt (vs : Array Value) (i : Nat) : Bool := match vs[i]? with
  | some (.bool b) => b
  | _ => false

/-- how many of the first n bools of a block are false -/
def cntW (nb n : Nat) (w : World) : Nat := match w.heap[nb]? with
  | some (.cells vs _ _) => cntV (boolAt vs) n
  | _ => 0

theorem cntV_congr {V V' : Nat → Bool} : ∀ m, (∀ i, i < m → V i = V' i) → cntV V m = cntV V' m
  | 0, _ => rfl
  | m + 1, h => by
    simp only [cntV]
    rw [cntV_congr m fun i hi => h i (by omega), h m (by omega)]

theorem NB.cnt {w : World} {nb n : Nat} {V : Nat → Bool} (h : NB w nb n V) : cntW nb n w = cntV V n := by
  unfold NB at h
  unfold cntW
  rw [h]
  refine cntV_congr n fun i hi => ?_
  unfold boolAt
  rw [bls_at hi]

def flagOf : Value → Nat
  | .bool true => 1
  | _ => 0

set_option maxRecDepth 100000 in
set_option maxHeartbeats 8000000 in
theorem refreach3_any (x : Sc) (a : At2) (w : World) (h : IsC w x a) :
    Calls Tryz.prog 25 #[.agg #[.slice a.sp a.sn a.sc, .slice a.fp a.fn a.fc]] w (ReachPost w x) := by
  obtain ⟨i0, hi0, hz0, hz1, hz2⟩ := info_parts infoI
  have HC := Lib.hid (fun W h => refis3_any x a W h)
  obtain ⟨sp, sn, sc, fp, fn, fc⟩ := a
  obtain ⟨hS, hF⟩ := id h
  dsimp only at hS hF HC ⊢
  obtain rfl : fn = x.F.len := hF.1
  have hbx := heap_new w (.cells #[.slice sp sn sc, .slice fp x.F.len fc] 25)
  obtain ⟨s1, s2⟩ := two_cells hbx
  have HX := Lib.hid hbx
  have HH := Lib.hid h
  unfold ReachPost
  cases hok : scOk x with
  | false =>
    have e1 : scE x = 7 := by unfold scE; rw [hok]; rfl
    rw [hok] at HC
    rw [e1, rchL_no hok]
    clear e1 hok hS hF hbx h
    go_enter Tryz.func25, Tryz.ntmps25
    go_wp2_with fail
    refine (HC.out _ (HH.out.alloc _)).mono ?_
    rintro e w1 ⟨rfl, hb1⟩
    go_wp2_with fail
    go_ret2
    exact ⟨_, rfl, World.ownsRow_nil _ _ _ _, below_call hb1⟩
  | true =>
    have e1 : scE x = 0 := by unfold scE; rw [hok]; rfl
    have hg := good_of hok
    have h64 := hg.funs
    have hpos := hg.some
    rw [hok] at HC
    rw [e1]
    have hmk := run_make_bools x.F.len h64
    have HL := Lib.hid fun V (hD : Least x V) => rchL_of hok hD
    have HG := Lib.hid hg
    clear e1 hok hS hF hbx h hg
    go_enter Tryz.func25, Tryz.ntmps25
    go_wp2_with fail
    refine (HC.out _ (HH.out.alloc _)).mono ?_
    rintro e w1 ⟨rfl, hb1⟩
    have hbx1 := box3_later hb1 HX.out
    obtain ⟨s5, s6⟩ := two_cells hbx1
    have hB1 := below_call hb1
    have hN1 := NB.made (heap_new w1 (.cells (madeCells #[.bool false] x.F.len) 4))
    have hz1' : w.heap.size ≤ w1.heap.size := hB1.size
    have hlt1 : w.heap.size < w1.heap.size := lt_of_block hbx1
    obtain ⟨c1, c2⟩ := hN1.cell hpos
    have hN2 := NB.made1 (heap_new w1 (.cells ((madeCells #[.bool false] x.F.len).setIfInBounds 0 (.bool true)) 4))
    have hB2 : Below w.heap.size w (w1.alloc (.cells ((madeCells #[.bool false] x.F.len).setIfInBounds 0 (.bool true)) 4)) := hB1.alloc hz1' _
    have hbx2 := alloc_kept hbx1 (.cells ((madeCells #[.bool false] x.F.len).setIfInBounds 0 (.bool true)) 4)
    have hle1 : w.heap.size ≤ w1.heap.size := hz1'
    have s3 := fun o => (two_box (alloc_kept hbx1 o)).1.1
    have s4 := fun o => (two_box (alloc_kept hbx1 o)).1.2
    have HB2 := Lib.hid (And.intro hB2 (And.intro hN2 hbx2))
    clear s1 s2 hb1 HX hbx1 hB1 hN1 hN2 hB2 hbx2
    go_wp2_with fail
    generalize w1.alloc (.cells ((madeCells #[.bool false] x.F.len).setIfInBounds 0 (.bool true)) 4) = W2 at HB2 ⊢
    generalize w1.heap.size = nb at HB2 hlt1 hle1 ⊢
    clear c1 c2 s3 s4 s5 s6 hmk hz1'
    go_loopw [5] (fun u wr => ∃ (more : Bool) (V : Nat → Bool), u = .bool more ∧ NB wr nb x.F.len V ∧ Sound x V ∧ (more = false → ∀ i, i < x.F.len → ∀ k, k < x.F.len → V i = true → callB x i k = true → V k = true) ∧ Below w.heap.size w wr ∧
        wr.heap[w.heap.size]? = some (.cells #[.slice sp sn sc, .slice fp x.F.len fc] 25 (0, 0)))
      (fun u wr => 2 * cntW nb x.F.len wr + flagOf u)
    case atStart => exact ⟨true, _, rfl, HB2.out.2.1, Sound.first x, fun h => (by cases h), HB2.out.1, HB2.out.2.2⟩
    case round =>
      clear HB2
      obtain ⟨more, V0, rfl, hN, hSo, hcl, hb, hbx⟩ := hrel
      cases more with
      | false =>
        have hLe := HL.out V0 (hSo.all (hcl rfl) HG.out)
        have HS := Lib.hid (And.intro hN (And.intro hb hLe))
        clear hN hSo hcl hb hLe HL hbx
        go_wp2_with fail
        go_loopw [9, 60] (fun u i wr => ∃ (j : Nat) (v : Value), j ≤ x.F.len ∧ i = .int .i64 (j : Int) ∧ v = u ∧ wr.ownsRow w.heap.size 3 1 v (visL V0 j).length ((visL V0 j).map intv) ∧ NB wr nb x.F.len V0 ∧ Below w.heap.size w wr)
          (fun _ i _ => x.F.len - (Go.RowKit.intOf i).toNat)
        case atStart => exact ⟨0, _, Nat.zero_le _, rfl, rfl, World.ownsRow_nil _ _ _ _, HS.out.1, HS.out.2.1⟩
        case round =>
          obtain ⟨j, v, hj, rfl, rfl, hown, hN, hb⟩ := hrel
          by_cases hlt : j < x.F.len
          · obtain ⟨c1, c2⟩ := hN.cell hlt
            have hvl := visL_len V0 j
            cases hv : V0 j with
            | true =>
              rw [hv] at c1
              have hsn := Lib.hid (And.intro (visL_snoc hv) (visL_snoc_len hv))
              have hmx : (visL V0 j).length + 1 ≤ maxLen := by simp only [maxLen]; omega
              have HN := Lib.hid hN
              have hz := hb.size
              clear hN hv
              go_upto_region 24 with fail
              go_wp2_with (at_builtin; refine wpList_append_own _ rfl (.tmp 66) (.tmp 68) 33 rfl w.heap.size 3 i0 (.int .i64 0) 1 8 Tryz.underlying33 hi0 hz0 hz1 hz2 rfl Nat.one_pos v (visL V0 j).length _ rfl (hown.alloc _) ⟨wr.heap.size, 0, none⟩ 1 1 [.int .i64 (j : Int)] rfl rfl (cell_one_new _ _ _) (one_intv (j : Int)) hmx (by omega) (by simp; omega) ?_; intro v1' w9 hown1 hgrow1 _)
              have hb9 := below_own hb hown hgrow1
              have hN9 := HN.out.grown hown hgrow1
              rw [hsn.out.1, hsn.out.2] at hown1
              have HF := Lib.hid (And.intro hown1 (And.intro hN9 hb9))
              clear hown1 hN9 hb9 hown hb
              go_roundw
              case rel => exact ⟨j + 1, _, by omega, by go_num, rfl, HF.out.1, HF.out.2.1, HF.out.2.2⟩
              case measure => simp [Go.RowKit.intOf]; omega
            | false =>
              rw [hv] at c1
              rw [visL_no hv] at hown
              have HF := Lib.hid (And.intro hown (And.intro hN hb))
              clear hown hN hb hv
              go_wp2_with fail
              go_roundw
              case rel => exact ⟨j + 1, _, by omega, by go_num, rfl, HF.out.1, HF.out.2.1, HF.out.2.2⟩
              case measure => simp [Go.RowKit.intOf]; omega
          · obtain rfl : j = x.F.len := by omega
            rw [HS.out.2.2] at hown
            have HF := Lib.hid (And.intro hown hb)
            clear hown hb hN
            go_wp2_with fail
            go_ret2
            exact ⟨_, rfl, HF.out.1, HF.out.2⟩
      | true =>
        have HCN := Lib.hid hN.cnt
        obtain ⟨s1, s2⟩ := two_cells hbx
        have HR := Lib.hid (And.intro hN (And.intro hSo (And.intro hb hbx)))
        clear hN hSo hcl hb hbx
        go_wp2_with fail
        clear s1 s2
        go_loopw [5, 25] (fun u v wm => ∃ (more : Bool) (V : Nat → Bool) (i : Nat), i ≤ x.F.len ∧ v = .int .i64 (i : Int) ∧ u = .bool more ∧ NB wm nb x.F.len V ∧ Sound x V ∧ cntV V x.F.len ≤ cntV V0 x.F.len ∧ (more = true → cntV V x.F.len < cntV V0 x.F.len) ∧
            (more = false → V = V0 ∧ ∀ i', i' < i → ∀ k, k < x.F.len → V i' = true → callB x i' k = true → V k = true) ∧ Below w.heap.size w wm ∧ wm.heap[w.heap.size]? = some (.cells #[.slice sp sn sc, .slice fp x.F.len fc] 25 (0, 0)))
          (fun _ v _ => x.F.len - (Go.RowKit.intOf v).toNat)
        case atStart => exact ⟨false, V0, 0, Nat.zero_le _, rfl, rfl, HR.out.1, HR.out.2.1, Nat.le_refl _, fun h => (by cases h), fun _ => ⟨rfl, fun i' h => absurd h (Nat.not_lt_zero _)⟩, HR.out.2.2.1, HR.out.2.2.2⟩
        case round =>
          clear HR
          obtain ⟨more, V1, i, hi, rfl, rfl, hN, hSo, hle, hmt, hmf, hb, hbx⟩ := hrel
          by_cases hlt : i < x.F.len
          · obtain ⟨b1, o1, rfl, p1, n1, d1, q1, m1, e1', f1, f2, f3, f4, f5, f6, f7⟩ := rowF_all (HH.out.2.below hb) hlt
            have t1 := fun o => (two_box (alloc_kept hbx o)).1.1
            have t2 := fun o => (two_box (alloc_kept hbx o)).1.2
            have hbf := heap_new wr (.cells #[.string (x.F.nm i), .slice p1 n1 d1, .int .i64 (x.F.bk i), .int .i64 (x.F.bn i), .slice q1 m1 e1'] 52)
            have hfb : nb < wr.heap.size := hN.lt
            have hwf : w.heap.size ≤ wr.heap.size := hb.size
            have HK := Lib.hid fun k W (hW : Keeps3 wr W) => refcalls_any k ((x.F.bt i).sz + 1) (x.F.bt i) (x.F.bk i) (x.F.bn i) W q1 m1 e1' (Nat.lt_succ_self _) (f7.keeps hW)
            have HKB : ∀ k, call1 k (x.F.bk i) (x.F.bn i) (x.F.bt i) = callB x i k := fun _ => rfl
            have HKB' := Lib.hid HKB
            have HS := Lib.hid (And.intro (hN.below ((Below.refl _ _).alloc (Nat.le_refl _) (.cells #[.string (x.F.nm i), .slice p1 n1 d1, .int .i64 (x.F.bk i), .int .i64 (x.F.bn i), .slice q1 m1 e1'] 52))) (And.intro hSo (And.intro hle (And.intro hmt (And.intro hmf (And.intro (hb.alloc hwf (.cells #[.string (x.F.nm i), .slice p1 n1 d1, .int .i64 (x.F.bk i), .int .i64 (x.F.bn i), .slice q1 m1 e1'] 52)) (And.intro (alloc_kept hbx (.cells #[.string (x.F.nm i), .slice p1 n1 d1, .int .i64 (x.F.bk i), .int .i64 (x.F.bn i), .slice q1 m1 e1'] 52)) (And.intro hbf (Keeps3.alloc wr (.cells #[.string (x.F.nm i), .slice p1 n1 d1, .int .i64 (x.F.bk i), .int .i64 (x.F.bn i), .slice q1 m1 e1'] 52))))))))))
            clear HKB hN hSo hle hmt hmf hb hbx hbf f6 f7
            generalize x.F.nm i = s1 at f1 HS
            generalize x.F.bk i = k1 at f3 HS HK HKB'
            generalize x.F.bn i = n1' at f4 HS HK HKB'
            go_wp2_with fail
            obtain ⟨W3, hW3⟩ : ∃ W3, wr.alloc (.cells #[.string s1, .slice p1 n1 d1, .int .i64 k1, .int .i64 n1', .slice q1 m1 e1'] 52) = W3 := ⟨_, rfl⟩
            rw [hW3] at HS ⊢
            obtain ⟨fb, hfb'⟩ : ∃ fb, wr.heap.size = fb := ⟨_, rfl⟩
            obtain ⟨WB, hWB⟩ : ∃ WB, wr = WB := ⟨_, rfl⟩
            rw [hfb'] at HS hfb hwf ⊢
            rw [hWB] at HS HK
            clear t1 t2 f1 f2 f3 f4 f5 hW3 hfb' hWB
            go_loopw [5, 33] (fun u v wi => ∃ (more : Bool) (V : Nat → Bool) (k : Nat), k ≤ x.F.len ∧ v = .int .i64 (k : Int) ∧ u = .bool more ∧ NB wi nb x.F.len V ∧ Sound x V ∧ cntV V x.F.len ≤ cntV V0 x.F.len ∧ (more = true → cntV V x.F.len < cntV V0 x.F.len) ∧
                (more = false → V = V0 ∧ (∀ i', i' < i → ∀ k, k < x.F.len → V i' = true → callB x i' k = true → V k = true) ∧ ∀ k', k' < k → V i = true → callB x i k' = true → V k' = true) ∧ Below w.heap.size w wi ∧
                wi.heap[w.heap.size]? = some (.cells #[.slice sp sn sc, .slice (some ⟨b1, o1, none⟩) x.F.len fc] 25 (0, 0)) ∧ wi.heap[fb]? = some (.cells #[.string s1, .slice p1 n1 d1, .int .i64 k1, .int .i64 n1', .slice q1 m1 e1'] 52 (0, 0)) ∧ Keeps3 WB wi)
              (fun _ v _ => x.F.len - (Go.RowKit.intOf v).toNat)
            case atStart =>
              obtain ⟨g1, g2, g3, g4, g5, g6, g7, g8, g9⟩ := HS.out
              exact ⟨more, V1, 0, Nat.zero_le _, rfl, rfl, g1, g2, g3, g4, fun h => ⟨(g5 h).1, (g5 h).2, fun k' h => absurd h (Nat.not_lt_zero _)⟩, g6, g7, g8, g9⟩
            case round =>
              clear HS
              obtain ⟨more, V, k, hk, rfl, rfl, hN, hSo, hle, hmt, hmf, hb, hbx, hbf, hks⟩ := hrel
              by_cases hltk : k < x.F.len
              · obtain ⟨c1, c2⟩ := hN.cell hlt
                obtain ⟨c3, c4⟩ := hN.cell hltk
                obtain ⟨y0, y1, y2, y3, y4⟩ := fun_box hbf
                cases hVi : V i with
                | false =>
                  rw [hVi] at c1
                  have HF := Lib.hid (And.intro hN (And.intro hSo (And.intro hle (And.intro hmt (And.intro (fun h => (⟨(hmf h).1, (hmf h).2.1, fun k' _ h1 => absurd h1 (by simp [hVi])⟩ : V = V0 ∧ (∀ i', i' < i → ∀ k, k < x.F.len → V i' = true → callB x i' k = true → V k = true) ∧ ∀ k', k' < k + 1 → V i = true → callB x i k' = true → V k' = true)) (And.intro hb (And.intro hbx (And.intro hbf hks))))))))
                  clear hN hSo hle hmt hmf hb hbx hbf hks hVi c3 c4
                  go_wp2_with fail
                  go_roundw
                  case rel =>
                    obtain ⟨g1, g2, g3, g4, g5, g6, g7, g8, g9⟩ := HF.out
                    exact ⟨more, V, k + 1, by omega, by go_num, rfl, g1, g2, g3, g4, g5, g6, g7, g8, g9⟩
                  case measure => simp [Go.RowKit.intOf]; omega
                | true =>
                  rw [hVi] at c1
                  cases hVk : V k with
                  | true =>
                    rw [hVk] at c3
                    have HF := Lib.hid (And.intro hN (And.intro hSo (And.intro hle (And.intro hmt (And.intro (fun h => (⟨(hmf h).1, (hmf h).2.1, fun k' h0 h1 h2 => by
                      by_cases e : k' = k
                      · rw [e]; exact hVk
                      · exact (hmf h).2.2 k' (by omega) h1 h2⟩ : V = V0 ∧ (∀ i', i' < i → ∀ k, k < x.F.len → V i' = true → callB x i' k = true → V k = true) ∧ ∀ k', k' < k + 1 → V i = true → callB x i k' = true → V k' = true)) (And.intro hb (And.intro hbx (And.intro hbf hks))))))))
                    clear hN hSo hle hmt hmf hb hbx hbf hks hVi hVk
                    go_wp2_with fail
                    go_roundw
                    case rel =>
                      obtain ⟨g1, g2, g3, g4, g5, g6, g7, g8, g9⟩ := HF.out
                      exact ⟨more, V, k + 1, by omega, by go_num, rfl, g1, g2, g3, g4, g5, g6, g7, g8, g9⟩
                    case measure => simp [Go.RowKit.intOf]; omega
                  | false =>
                    rw [hVk] at c3
                    have HC2 := HK.out k wr hks
                    rw [HKB'.out k] at HC2
                    cases hB : callB x i k with
                    | false =>
                      rw [hB] at HC2
                      have HC3 := Lib.hid HC2
                      have HF := Lib.hid (And.intro hN (And.intro hSo (And.intro hle (And.intro hmt (And.intro (fun h => (⟨(hmf h).1, (hmf h).2.1, fun k' h0 h1 h2 => by
                        by_cases e : k' = k
                        · rw [e, hB] at h2; cases h2
                        · exact (hmf h).2.2 k' (by omega) h1 h2⟩ : V = V0 ∧ (∀ i', i' < i → ∀ k, k < x.F.len → V i' = true → callB x i' k = true → V k = true) ∧ ∀ k', k' < k + 1 → V i = true → callB x i k' = true → V k' = true)) (And.intro hb (And.intro hbx (And.intro hbf hks))))))))
                      clear hN hSo hle hmt hmf hb hbx hbf hks hVi hVk hB HC2
                      go_wp2_with fail
                      refine HC3.out.mono ?_
                      rintro e w2 ⟨rfl, hb2⟩
                      obtain ⟨g1, g2, g3, g4, g5, g6, g7, g8, g9⟩ := HF.out
                      have HF2 := Lib.hid (And.intro (g1.below hb2) (And.intro (g6.trans (hb2.mono g6.size)) (And.intro (box3_later hb2 g7) (And.intro (box3_later hb2 g8) (g9.trans (Keeps3.below hb2 (Nat.le_refl _)))))))
                      clear g1 g6 g7 g8 g9 hb2
                      have HF3 := Lib.hid (And.intro g2 (And.intro g3 (And.intro g4 g5)))
                      clear g2 g3 g4 g5
                      go_wp2_with fail
                      go_roundw
                      case rel => exact ⟨more, V, k + 1, by omega, by go_num, rfl, HF2.out.1, HF3.out.1, HF3.out.2.1, HF3.out.2.2.1, HF3.out.2.2.2, HF2.out.2.1, HF2.out.2.2.1, HF2.out.2.2.2.1, HF2.out.2.2.2.2⟩
                      case measure => simp [Go.RowKit.intOf]; omega
                    | true =>
                      rw [hB] at HC2
                      have HC3 := Lib.hid HC2
                      have hcu := cntV_upd hVk x.F.len hltk
                      have HF := Lib.hid (And.intro hN (And.intro (hSo.more hlt hVi hB) (And.intro hb (And.intro hbx (And.intro hbf hks)))))
                      have hlt2 : cntV (updV V k) x.F.len < cntV V0 x.F.len := by omega
                      have HLT := Lib.hid hlt2
                      clear hN hSo hle hmt hmf hb hbx hbf hks hVi hVk hB HC2 hcu hlt2
                      go_wp2_with fail
                      refine HC3.out.mono ?_
                      rintro e w2 ⟨rfl, hb2⟩
                      obtain ⟨g1, g2, g3, g4, g5, g6⟩ := HF.out
                      have hN2 := g1.below hb2
                      obtain ⟨c5, c6⟩ := hN2.cell hltk
                      have hset := Bn.set (nb := nb) w2 k (.bool true)
                      have hB2 := g3.trans (hb2.mono g3.size)
                      have HF2 := Lib.hid (And.intro (hN2.set k) (And.intro g2 (And.intro (hB2.setCell (p := ⟨nb, k, none⟩) (by omega) (.bool true)) (And.intro ((hset.block w.heap.size (lt_of_block (box3_later hb2 g4)) (by omega)).trans (box3_later hb2 g4)) (And.intro ((hset.block fb (lt_of_block (box3_later hb2 g5)) (by omega)).trans (box3_later hb2 g5)) ((g6.trans (Keeps3.below hb2 (Nat.le_refl _))).trans (hset.keeps hN2)))))))
                      clear g1 g2 g3 g4 g5 g6 hb2 hN2 hset hB2 c1 c2 c3 c4 y0 y1 y2 y3 y4
                      go_wp2_with fail
                      go_roundw
                      case rel => exact ⟨true, updV V k, k + 1, by omega, by go_num, rfl, HF2.out.1, HF2.out.2.1, Nat.le_of_lt HLT.out, fun _ => HLT.out, fun h => (by cases h), HF2.out.2.2.1, HF2.out.2.2.2.1, HF2.out.2.2.2.2.1, HF2.out.2.2.2.2.2⟩
                      case measure => simp [Go.RowKit.intOf]; omega
              · obtain rfl : k = x.F.len := by omega
                have HF := Lib.hid (And.intro hN (And.intro hSo (And.intro hle (And.intro hmt (And.intro (fun h => (⟨(hmf h).1, fun i' hi' k hk h1 h2 => by
                  by_cases e : i' = i
                  · rw [e] at h1 h2; exact (hmf h).2.2 k hk h1 h2
                  · exact (hmf h).2.1 i' (by omega) k hk h1 h2⟩ : V = V0 ∧ ∀ i', i' < i + 1 → ∀ k, k < x.F.len → V i' = true → callB x i' k = true → V k = true)) (And.intro hb hbx))))))
                clear hN hSo hle hmt hmf hb hbx hbf hks
                go_wp2_with fail
                go_roundw
                case rel =>
                  obtain ⟨g1, g2, g3, g4, g5, g6, g7⟩ := HF.out
                  exact ⟨more, V, i + 1, by omega, by go_num, rfl, g1, g2, g3, g4, g5, g6, g7⟩
                case measure => simp [Go.RowKit.intOf]; omega
          · obtain rfl : i = x.F.len := by omega
            have HF := Lib.hid (And.intro hN (And.intro hSo (And.intro (fun h i hi k hk h1 h2 => (hmf h).2 i hi k hk h1 h2) (And.intro hb hbx))))
            have hms : 2 * cntW nb x.F.len wr + flagOf (.bool more) < 2 * cntV V0 x.F.len + 1 := by
              rw [hN.cnt]
              cases more with
              | true => have := hmt rfl; show 2 * cntV V1 x.F.len + 1 < _; omega
              | false => show 2 * cntV V1 x.F.len + 0 < _; omega
            have HM := Lib.hid hms
            clear hN hSo hle hmt hmf hb hbx hms
            go_wp2_with fail
            go_roundw
            case rel => exact ⟨more, V1, rfl, HF.out.1, HF.out.2.1, HF.out.2.2.1, HF.out.2.2.2.1, HF.out.2.2.2.2⟩
            case measure =>
              have h1 := HM.out
              rw [← HCN.out] at h1
              exact h1

set_option maxRecDepth 100000 in
set_option maxHeartbeats 4000000 in
theorem law_sreach (x : Sc) (a : At2) (w : World) (h : IsC w x a) (hg : Gl w) (h6 : 6 ≤ w.heap.size) :
    Calls Tryz.prog 6 #[.agg #[.slice a.sp a.sn a.sc, .slice a.fp a.fn a.fc]] w fun e w' => e = .returned (.bool true) ∧ Below w.heap.size w w' := by
  have H1 := Lib.hid fun W (hb : Below w.heap.size w W) => sreach_any x a W (h.below hb)
  have H2 := Lib.hid fun W (hb : Below w.heap.size w W) => refreach3_any x a W (h.below hb)
  have HA := Lib.hid fun W (hb : Below w.heap.size w W) => alive3_any W (hg.keep fun b hb' => hb.block b (by omega)) (by have := hb.size; omega)
  have HI := Lib.hid fun W p q n c m c' h h' => ints3_true (rchL x) W p q n c m c' h h'
  obtain ⟨sp, sn, sc, fp, fn, fc⟩ := a
  dsimp only at H1 H2 ⊢
  unfold ReachPost at H1 H2
  generalize rchL x = L at H1 H2 HI
  generalize scE x = k at H1 H2
  have hbx := heap_new w (.cells #[.slice sp sn sc, .slice fp fn fc] 25)
  have B0 := (Below.refl w.heap.size w).alloc (Nat.le_refl _) (.cells #[.slice sp sn sc, .slice fp fn fc] 25)
  obtain ⟨⟨s1, s2⟩, _⟩ := two_box hbx
  have HB := Lib.hid (And.intro hbx B0)
  clear h hg h6 hbx B0
  go_enter Tryz.func6, Tryz.ntmps6
  go_wp2_with fail
  refine (H1.out _ HB.out.2).mono ?_
  rintro e w3 ⟨v3, rfl, hO3, hb3⟩
  obtain ⟨p3, c3, rfl, hi3⟩ := isI_own3 hO3
  have h3 := Lib.hid (And.intro (box3_later hb3 HB.out.1) (And.intro (HB.out.2.trans (hb3.mono HB.out.2.size)) hi3))
  clear hb3 HB s1 s2 H1 hO3 hi3
  obtain ⟨⟨s1, s2⟩, _⟩ := two_box h3.out.1
  go_wp2_with fail
  refine (H2.out _ h3.out.2.1).mono ?_
  rintro e w4 ⟨v4, rfl, hO4, hb4⟩
  obtain ⟨p4, c4, rfl, hi4⟩ := isI_own3 hO4
  have h4 := Lib.hid (And.intro (h3.out.2.1.trans (hb4.mono h3.out.2.1.size)) (And.intro (h3.out.2.2.below hb4) hi4))
  clear hb4 h3 s1 s2 H2 hO4 hi4
  go_wp2_with fail
  refine (HI.out _ _ _ _ _ _ _ h4.out.2.1 h4.out.2.2).mono ?_
  rintro e w5 ⟨rfl, hb5⟩
  have B5 := h4.out.1.trans (hb5.mono h4.out.1.size)
  have HB5 := Lib.hid B5
  clear hb5 h4 B5
  go_wp2_with fail
  refine (HA.out _ HB5.out).mono ?_
  rintro e w6 ⟨rfl, hb6⟩
  go_wp2_with fail
  go_ret
  exact ⟨rfl, HB5.out.trans (hb6.mono HB5.out.size)⟩

end Go.Proofs.YtjdnbmcjnkmgdaaGreatDoor

set_option linter.unusedSimpArgs false
set_option linter.unusedVariables false
namespace Go.Proofs.YtjdnbmcjnkmgdaaGreatDoor
open Go.ChangeShapes Go.WideShapes Go.ChangeAt Go.RowKit
open Go.ChangeMaps (open_string shut_string)

set_option maxRecDepth 100000 in
theorem schemeReach_lifted (os : Os) (started : os.Started) (H : Type) (enc : TypeId × Value → H) :
    ReturnsInHanded {} Tryz.checked os 6 .any (fun w args => (Rows.schemeReachSpec.pre enc Tryz.prog Tryz.f6 [] false w args ∧ laidMetH Tryz.prog laidL w) ∧ sizedMet enc Tryz.prog Tryz.f6 (OpenSpec.ofChange Rows.schemeReachSpec) false w args)
      (Rows.schemeReachSpec.post enc Tryz.prog Tryz.f6 false true false false) := by
  refine lifted_shaped (C := Tryz.checked) (X := fun w _ => laidMetH Tryz.prog laidL w) (fun _ _ _ hh h => h.of_heap hh) P.own started (by kernel_rfl) Tryz.func6
    (ChangeSpec.witness_shaped (enc := enc) (C := Tryz.checked) (os := os) (X := fun w _ => laidMetH Tryz.prog laidL w) false (World.doorLaid Tryz.prog 62 os) #[.agg #[.slice none 0 0, .slice none 0 0]] 8 rfl (World.shaped_of_RefB (by kernel_rfl) (by kernel_rfl)) (by kernel_rfl) (by kernel_rfl) (by kernel_rfl) (door_met os _)) ?_
  intro W args ds gs before hval0 hW _ hL hsh
  have hW' := hW
  obtain ⟨p, q, hA0, hV, rfl, hfz, hnd⟩ := hW
  have hA : DataW.TrodAll enc Tryz.prog W 0 (fun _ => true) true Tryz.f6.params.toList args.toList ds p := hA0
  rw [Tryz.params6] at hA hval0
  obtain ⟨v0, d0, rfl, rfl, h0⟩ := trodAll_one hA
  obtain ⟨rfl, rfl⟩ := trodVars_none hV
  have k0 := h0
  obtain ⟨base0, hv0⟩ := hval0 0 25 v0 rfl rfl
  obtain ⟨x0, b0, rfl, i0⟩ := open_scheme hv0 h0
  clear hA0 hval0
  simp only [List.append_nil] at hW'
  obtain ⟨hg, h6⟩ := gl_of hL hsh
  refine (law_sreach x0 b0 W i0 hg h6).mono fun e W' ⟨he, hb⟩ => ?_
  subst he
  have hlt := fun x hx => hW'.lt x hx
  exact ⟨_, rfl, post_below (pv := []) hW' (fun _ _ _ => trodAll_mk1 (shut_bool Tryz.underlying4 true))
    (fun sp hsp => trodAll_mk1 (WideElems.Trod_stays P.laidOut P.readC (of_decide_eq_true (by kernel_rfl)) k0 (fun x hx => hb.same (hlt x (by simp [hx]))) (fun x hx => hsp x (by simp [hx]))))
    (fun _ _ => rfl) (by simp) hb (ok_one (by kernel_rfl) rfl (okWide_bool_mk Tryz.underlying4 true))⟩

theorem schemeReach_row : Rows.SchemeReachSaid :=
  OpenClaim.holds_of_wide 6 Tryz.f6 rfl rfl rfl rfl rfl rfl rfl ⟨rfl, rfl, rfl, rfl, rfl⟩ rfl rfl rfl rfl rfl (by kernel_rfl) Tryz.func6 (by kernel_rfl)
    (of_decide_eq_true (by kernel_rfl)) (by unfold Func.isWrapper; rw [if_neg (of_decide_eq_false (by kernel_rfl))]; exact ⟨rfl, rfl⟩)
    (fun os started H enc _ => schemeReach_lifted os started H enc)

theorem schemeReach_holds : Rows.SchemeReachCardSaid :=
  Claim7.holds_tied_plain_at .later [] [.data, .data, .data, .sentinel, .sentinel] true Rows.schemeReachCard.stood.harness true
    schemeReach_row (fun _ h => by cases h) (by kernel_rfl) (fun _ h => by cases h) schemeReach_row_tie rfl ⟨rfl, rfl⟩ (by kernel_rfl) rfl
    (fun f fn hf hfn => by
      obtain rfl : f = 6 := Option.some.inj ((show Tryz.prog.funcNamed "virgation/virgationlaw03.SchemeReach" = some 6 by kernel_rfl).symm.trans hf) |>.symm
      obtain rfl : fn = Tryz.f6 := (Option.some.inj (Tryz.func6.symm.trans hfn)).symm
      exact ⟨by kernel_rfl, fun j t ht => by
        rw [Tryz.params6] at ht
        have hm : t ∈ [25] := by simpa using Array.mem_of_getElem? ht
        have hall : ([25].all fun u => !Tryz.prog.wantsStandIn u) = true := by kernel_rfl
        exact (show Tryz.prog.wantsStandIn t = false by simpa using List.all_eq_true.1 hall t hm)⟩)
    (by kernel_rfl)

end Go.Proofs.YtjdnbmcjnkmgdaaGreatDoor

