/-
  Whatever scheme is handed in, the statement on what is left as it was answers true and leaves the scheme as it was. Conditions: none but the row's own (the package variables read as the program's text lays them).
-/
import Derived.Test.YtjdnbmcjnkmgdaaGreatDoorMg27
import Derived.Test.YtjdnbmcjnkmgdaaGreatDoorMg29
import Derived.Test.YtjdnbmcjnkmgdaaGreatDoorMg15
import Derived.Test.YtjdnbmcjnkmgdaaGreatDoorMh02
import Derived.Laws.StructEq
import Derived.Test.YtjdnbmcjnkmgdaaGreatDoorMg12
import Derived.Test.YtjdnbmcjnkmgdaaGreatDoorMg30
import Derived.Test.YtjdnbmcjnkmgdaaGreatDoorMg21
import Derived.Test.YtjdnbmcjnkmgdaaGreatDoorMg19
import Derived.Test.YtjdnbmcjnkmgdaaGreatDoorMh01
import Derived.Test.YtjdnbmcjnkmgdaaGreatDoorMg31
import Derived.Test.YtjdnbmcjnkmgdaaGreatDoorCards
import Derived.Test.YtjdnbmcjnkmgdaaGreatDoorTie
import Derived.SevenTiedAt

/-
  What a copy of a scheme lies in, as it grows. Conditions: none.
-/
set_option linter.unusedSimpArgs false
set_option linter.unusedVariables false
namespace Go.Proofs.YtjdnbmcjnkmgdaaGreatDoor
open Go.RowKit Go.Maps

/-- the cells of symbols -/
def symV (S : Sy) : List Value := (List.range (S.len * 2)).map fun j => if j % 2 = 0 then .string (S.nm (j / 2)) else .int .i64 (S.rk (j / 2))

theorem symV_len (S : Sy) : (symV S).length = S.len * 2 := by simp [symV]

theorem symV_at {S : Sy} {i : Nat} (h : i < S.len) : (symV S)[i * 2]? = some (.string (S.nm i)) ∧ (symV S)[i * 2 + 1]? = some (.int .i64 (S.rk i)) := by
  unfold symV
  constructor
  · rw [List.getElem?_map, List.getElem?_range (by omega)]
    simp
  · rw [List.getElem?_map, List.getElem?_range (by omega)]
    simp only [Option.map_some]
    rw [if_neg (by omega), show (i * 2 + 1) / 2 = i by omega]

theorem symV_cells {w : World} {S : Sy} {b off : Nat} (h : RowS w S b off) : ∀ j u, (symV S)[j]? = some u → w.cell? ((⟨b, off, none⟩ : Addr).add j) = some u := by
  intro j u hu
  rw [Addr.add_lit]
  unfold symV at hu
  rw [List.getElem?_map] at hu
  by_cases hj : j < S.len * 2
  · rw [List.getElem?_range hj] at hu
    simp only [Option.map_some, Option.some.injEq] at hu
    obtain ⟨h1, h2⟩ := h (j / 2) (by omega)
    by_cases he : j % 2 = 0
    · rw [if_pos he] at hu
      rw [← hu, show off + j = off + j / 2 * 2 by omega]
      exact h1
    · rw [if_neg he] at hu
      rw [← hu, show off + j = off + j / 2 * 2 + 1 by omega]
      exact h2
  · rw [List.getElem?_eq_none (by simpa using hj)] at hu
    cases hu

theorem symV_one (S : Sy) : ∀ u ∈ symV S, u.oneCell' = true := by
  intro u hu
  unfold symV at hu
  rw [List.mem_map] at hu
  obtain ⟨j, _, rfl⟩ := hu
  split <;> rfl

theorem isS_own {w : World} {B : Nat} {S : Sy} {v : Value} (h : w.ownsRow B 64 2 v S.len (symV S)) : ∃ p c, v = .slice p S.len c ∧ IsS w S p S.len c := by
  obtain ⟨hx, h2⟩ := id h
  rcases h2 with ⟨rfl, h0⟩ | ⟨g, cap, cur, rfl, hbg, hg, hnc, hcm, hcs, htake⟩
  · exact ⟨none, 0, by rw [h0], rfl, by omega, by simp [maxLen], fun _ => rfl, Or.inl h0⟩
  · refine ⟨_, _, rfl, rfl, hnc, hcm, fun e => by simp at e, Or.inr ⟨g, 0, rfl, fun i hi => ?_⟩⟩
    rw [Nat.zero_add, h.cellAt (i * 2) (by omega), h.cellAt (i * 2 + 1) (by omega)]
    exact symV_at hi

/-- copy i among the values vs, and what it leads to, apart from the row itself -/
def CpAt (w : World) (B : Nat) (v : Value) (F : Fu) (i : Nat) (vs : List Value) : Prop :=
  ∃ (q : Option Addr) (c : Nat) (r : Option Addr) (d lo hi : Nat),
    vs[i * 5]? = some (.string (F.nm i)) ∧ vs[i * 5 + 1]? = some (.slice q (F.st i).len c) ∧ vs[i * 5 + 2]? = some (.int .i64 (F.bk i)) ∧ vs[i * 5 + 3]? = some (.int .i64 (F.bn i)) ∧ vs[i * 5 + 4]? = some (.slice r (F.bt i).len d) ∧
    Own w (F.st i) q c lo hi ∧ OwnX w (F.bt i) r d lo hi ∧ B ≤ lo ∧ hi ≤ w.heap.size ∧ ∀ g, v.ownBlock = some g → g < lo ∨ hi ≤ g

theorem CpAt.keep {w w' : World} {B : Nat} {v v' : Value} {F : Fu} {i : Nat} {vs : List Value} (h : CpAt w B v F i vs) (hk : ∀ k, B ≤ k → k < w.heap.size → v.ownBlock ≠ some k → w'.heap[k]? = w.heap[k]?) (hs : w.heap.size ≤ w'.heap.size)
    (hv : ∀ g, v'.ownBlock = some g → v.ownBlock = some g ∨ w.heap.size ≤ g) : CpAt w' B v' F i vs := by
  obtain ⟨q, c, r, d, lo, hi, h1, h2, h3, h4, h5, h6, h7, hB, h8, h9⟩ := h
  have hk' : ∀ k, lo ≤ k → k < hi → w'.heap[k]? = w.heap[k]? := fun k a b => hk k (by omega) (by omega) fun e => by have := h9 k e; omega
  refine ⟨q, c, r, d, lo, hi, h1, h2, h3, h4, h5, h6.keep hk', h7.keep hk', hB, by omega, fun g hg => ?_⟩
  rcases hv g hg with h | h
  · exact h9 g h
  · exact Or.inr (by omega)

theorem CpAt.more {w : World} {B : Nat} {v : Value} {F : Fu} {i : Nat} {vs ys : List Value} (h : CpAt w B v F i vs) : CpAt w B v F i (vs ++ ys) := by
  obtain ⟨q, c, r, d, lo, hi, h1, h2, h3, h4, h5, h6⟩ := h
  have e : ∀ {j : Nat} {u : Value}, vs[j]? = some u → (vs ++ ys)[j]? = some u := fun {j u} hj => by
    rw [List.getElem?_append_left (List.getElem?_eq_some_iff.1 hj).1]; exact hj
  exact ⟨q, c, r, d, lo, hi, e h1, e h2, e h3, e h4, e h5, h6⟩

/-- where all copies are made, the functions lie there -/
theorem isF_own {w : World} {B : Nat} {F : Fu} {p : Option Addr} {c : Nat} {vs : List Value} (h : w.ownsRow B 52 5 (.slice p F.len c) F.len vs) {B' : Nat} (hc : ∀ i, i < F.len → CpAt w B' (.slice p F.len c) F i vs) : IsF w F p F.len c := by
  obtain ⟨hx, h2⟩ := id h
  rcases h2 with ⟨e, h0⟩ | ⟨g, cap, cur, e, hbg, hg, hnc, hcm, hcs, htake⟩
  · injection e with e1 e2 e3
    subst e1 e3
    exact ⟨rfl, by omega, by simp [maxLen], fun _ => rfl, Or.inl h0⟩
  · injection e with e1 e2 e3
    subst e1 e3
    refine ⟨rfl, hnc, hcm, fun e => by simp at e, Or.inr ⟨g, 0, rfl, fun i hi => ?_⟩⟩
    obtain ⟨q, c', r, d, lo, hi', h1, h2, h3, h4, h5, h6, h7, _, _⟩ := hc i hi
    refine ⟨q, (F.st i).len, c', r, (F.bt i).len, d, ?_, ?_, ?_, ?_, ?_, h6.isT, h7.isX⟩ <;> rw [Nat.zero_add]
    · rw [h.cellAt (i * 5) (by omega)]; exact h1
    · rw [h.cellAt (i * 5 + 1) (by omega)]; exact h2
    · rw [h.cellAt (i * 5 + 2) (by omega)]; exact h3
    · rw [h.cellAt (i * 5 + 3) (by omega)]; exact h4
    · rw [h.cellAt (i * 5 + 4) (by omega)]; exact h5

/-- the copy that has been appended last -/
theorem CpAt.last {w0 w1 w2 w3 : World} {B : Nat} {F : Fu} {j : Nat} {v v' : Value} {vs : List Value} {q r : Option Addr} {c d : Nat} {X : Obj} (hlen : vs.length = j * 5)
    (hT : Own w1 (F.st j) q c w0.heap.size w1.heap.size) (hb : Below w1.heap.size w1 w2) (hO : OwnX w2 (F.bt j) r d w1.heap.size w2.heap.size) (h01 : w0.heap.size ≤ w1.heap.size)
    (hlt : ∀ g, v.ownBlock = some g → g < w0.heap.size) (hg : (w2.alloc X).grownBy w3 v.ownBlock) (hv : ∀ g, v'.ownBlock = some g → v.ownBlock = some g ∨ w2.heap.size ≤ g) {B' : Nat} (hB : B' ≤ w0.heap.size) :
    CpAt w3 B' v' F j (vs ++ [.string (F.nm j), .slice q (F.st j).len c, .int .i64 (F.bk j), .int .i64 (F.bn j), .slice r (F.bt j).len d]) := by
  have hs := hb.size
  have hk : ∀ k, w0.heap.size ≤ k → k < w2.heap.size → w3.heap[k]? = w2.heap[k]? := fun k h1 h2 => by
    rw [hg.block k (by simp; omega) (fun e => by have := hlt k e.symm; omega), Below.heap_alloc _ _ _ h2]
  have hs3 := hg.size
  simp only [World.size_alloc] at hs3
  refine ⟨q, c, r, d, w0.heap.size, w2.heap.size, ?_, ?_, ?_, ?_, ?_, ((hT.keep fun k _ h2 => hb.block k h2).mono (Nat.le_refl _) hs).keep hk, (hO.mono h01 (Nat.le_refl _)).keep hk, hB, by omega, fun g hg' => ?_⟩
  · rw [List.getElem?_append_right (by omega), hlen, Nat.sub_self]; rfl
  · rw [List.getElem?_append_right (by omega), hlen, show j * 5 + 1 - j * 5 = 1 by omega]; rfl
  · rw [List.getElem?_append_right (by omega), hlen, show j * 5 + 2 - j * 5 = 2 by omega]; rfl
  · rw [List.getElem?_append_right (by omega), hlen, show j * 5 + 3 - j * 5 = 3 by omega]; rfl
  · rw [List.getElem?_append_right (by omega), hlen, show j * 5 + 4 - j * 5 = 4 by omega]; rfl
  · rcases hv g hg' with h | h
    · exact Or.inl (hlt g h)
    · exact Or.inr h

theorem owns_later {wr w1 : World} {B sz : Nat} {ty : TypeId} {v : Value} {n : Nat} {xs : List Value} (h : wr.ownsRow B ty sz v n xs) (hb : Below wr.heap.size wr w1) : w1.ownsRow B ty sz v n xs := by
  refine h.kept (row := none) ⟨hb.os, hb.tape, hb.output, hb.size, fun k hk _ => hb.block k hk⟩ ?_
  cases v.ownBlock with
  | none => exact Or.inl rfl
  | some g => exact Or.inr (by simp)

/-- a row of symbols is as it was where a row of functions grows -/
theorem sy_grown {W W2 : World} {B B' n k : Nat} {p v : Value} {ss xs : List Value} {o : Obj} (h : W.ownsRow B 64 2 p n ss) (ho : W.ownsRow B' 52 5 v k xs) (hg : (W.alloc o).grownBy W2 v.ownBlock) : W2.ownsRow B 64 2 p n ss := by
  obtain ⟨hx, h2⟩ := h
  refine ⟨hx, ?_⟩
  rcases h2 with h2 | ⟨g, cap, cur, e, hbg, hgb, hr⟩
  · exact Or.inl h2
  · refine Or.inr ⟨g, cap, cur, e, hbg, ?_, hr⟩
    have hlt := lt_of_block hgb
    rw [hg.block g (by simp; omega) ?_, Below.heap_alloc _ _ _ hlt]
    · exact hgb
    · obtain ⟨_, h3⟩ := ho
      rcases h3 with ⟨rfl, _⟩ | ⟨g', cap', cur', rfl, _, hgb', _⟩
      · intro e; cases e
      · intro e
        obtain rfl : g = g' := Option.some.inj e
        rw [hgb] at hgb'
        cases hgb'

theorem sy_set {W : World} {B n b o : Nat} {p u : Value} {ss : List Value} (h : W.ownsRow B 64 2 p n ss) (hb : b < B) : (W.setCell ⟨b, o, none⟩ u).ownsRow B 64 2 p n ss := ownsRow_setCell_below h hb u

theorem CpAt.set {w : World} {B b o : Nat} {v u : Value} {F : Fu} {i : Nat} {vs : List Value} (h : CpAt w B v F i vs) (hb : b < B) : CpAt (w.setCell ⟨b, o, none⟩ u) B v F i vs :=
  h.keep (fun k hk _ _ => Below.heap_setCell _ _ _ _ (by show k ≠ b; omega)) (by simp [World.setCell]) (fun g hg => Or.inl hg)

theorem fn_set {W : World} {B n b o : Nat} {p u : Value} {ss : List Value} (h : W.ownsRow B 52 5 p n ss) (hb : b < B) : (W.setCell ⟨b, o, none⟩ u).ownsRow B 52 5 p n ss := ownsRow_setCell_below h hb u

theorem two_set1 {w : World} {b : Nat} {x y u : Value} {t : TypeId} (h : w.heap[b]? = some (.cells #[x, y] t (0, 0))) : (w.setCell ⟨b, 1, none⟩ u).heap[b]? = some (.cells #[x, u] t (0, 0)) := by
  have := heap_setCell_same w b 1 #[x, y] t u h
  simpa using this

theorem two_set0 {w : World} {b : Nat} {x y u : Value} {t : TypeId} (h : w.heap[b]? = some (.cells #[x, y] t (0, 0))) : (w.setCell ⟨b, 0, none⟩ u).heap[b]? = some (.cells #[u, y] t (0, 0)) := by
  have := heap_setCell_same w b 0 #[x, y] t u h
  simpa using this

/-- a round of the copying loop -/
theorem copy_round {x : Sc} {w wr W1 w3 w4 w5 : World} {j c g cp c1 c1' c2' : Nat} {q p1 q1 q2 : Option Addr} {vs : List Value} {X : Obj}
    (hown : wr.ownsRow (w.heap.size + 3) 52 5 (.slice q j c) j vs) (hcp : ∀ i, i < j → CpAt wr (w.heap.size + 3) (.slice q j c) x.F i vs)
    (hout : wr.heap[w.heap.size + 2]? = some (.cells #[.slice p1 x.S.len c1, .slice q j c] 25 (0, 0))) (hres : wr.heap[w.heap.size + 1]? = some (.cells #[.slice none 0 0, .slice none 0 0] 25 (0, 0)))
    (hsy : wr.ownsRow (w.heap.size + 3) 64 2 (.slice p1 x.S.len c1) x.S.len (symV x.S)) (hb : Below w.heap.size w wr) (hlt3 : w.heap.size + 3 ≤ wr.heap.size)
    (h1 : Below wr.heap.size wr W1) (hs1 : wr.heap.size ≤ W1.heap.size) (h3 : Below W1.heap.size W1 w3) (h4 : Below w3.heap.size w3 w4)
    (hO3 : Own w3 (x.F.st j) q1 c1' W1.heap.size w3.heap.size) (hO4 : OwnX w4 (x.F.bt j) q2 c2' w3.heap.size w4.heap.size)
    (hown5 : w5.ownsRow (w.heap.size + 3) 52 5 (.slice (some ⟨g, 0, none⟩) (j + 1) cp) (j + 1) (vs ++ [.string (x.F.nm j), .slice q1 (x.F.st j).len c1', .int .i64 (x.F.bk j), .int .i64 (x.F.bn j), .slice q2 (x.F.bt j).len c2']))
    (hgrow : (w4.alloc X).grownBy w5 (Value.slice q j c).ownBlock) (hat : (Value.slice q j c).ownBlock = some g ∨ g = w4.heap.size + 1) :
    (w5.setCell ⟨w.heap.size + 2, 1, none⟩ (.slice (some ⟨g, 0, none⟩) (j + 1) cp)).ownsRow (w.heap.size + 3) 52 5 (.slice (some ⟨g, 0, none⟩) (j + 1) cp) (j + 1) (vs ++ [.string (x.F.nm j), .slice q1 (x.F.st j).len c1', .int .i64 (x.F.bk j), .int .i64 (x.F.bn j), .slice q2 (x.F.bt j).len c2']) ∧
    (∀ i, i < j + 1 → CpAt (w5.setCell ⟨w.heap.size + 2, 1, none⟩ (.slice (some ⟨g, 0, none⟩) (j + 1) cp)) (w.heap.size + 3) (.slice (some ⟨g, 0, none⟩) (j + 1) cp) x.F i (vs ++ [.string (x.F.nm j), .slice q1 (x.F.st j).len c1', .int .i64 (x.F.bk j), .int .i64 (x.F.bn j), .slice q2 (x.F.bt j).len c2'])) ∧
    (w5.setCell ⟨w.heap.size + 2, 1, none⟩ (.slice (some ⟨g, 0, none⟩) (j + 1) cp)).heap[w.heap.size + 2]? = some (.cells #[.slice p1 x.S.len c1, .slice (some ⟨g, 0, none⟩) (j + 1) cp] 25 (0, 0)) ∧
    (w5.setCell ⟨w.heap.size + 2, 1, none⟩ (.slice (some ⟨g, 0, none⟩) (j + 1) cp)).heap[w.heap.size + 1]? = some (.cells #[.slice none 0 0, .slice none 0 0] 25 (0, 0)) ∧
    (w5.setCell ⟨w.heap.size + 2, 1, none⟩ (.slice (some ⟨g, 0, none⟩) (j + 1) cp)).ownsRow (w.heap.size + 3) 64 2 (.slice p1 x.S.len c1) x.S.len (symV x.S) ∧
    Below w.heap.size w (w5.setCell ⟨w.heap.size + 2, 1, none⟩ (.slice (some ⟨g, 0, none⟩) (j + 1) cp)) ∧ w.heap.size + 3 ≤ (w5.setCell ⟨w.heap.size + 2, 1, none⟩ (.slice (some ⟨g, 0, none⟩) (j + 1) cp)).heap.size := by
  have hlo := hown.lt
  have s3 := h3.size
  have s4 := h4.size
  have s5 := hgrow.size
  simp only [World.size_alloc] at s5
  have h14 : Below wr.heap.size wr w4 := h1.trans ((h3.trans (h4.mono s3)).mono hs1)
  have hk : ∀ k, k < wr.heap.size → (Value.slice q j c).ownBlock ≠ some k → w5.heap[k]? = wr.heap[k]? := fun k h1 h2 => by
    rw [hgrow.block k (by simp; omega) (fun e => h2 e.symm), Below.heap_alloc _ _ _ (by omega), h14.block k h1]
  have hno : ∀ k, k < w.heap.size + 3 → (Value.slice q j c).ownBlock ≠ some k := fun k hk e => by have := (hlo k e).1; omega
  have hv : ∀ g', (Value.slice (some ⟨g, 0, none⟩) (j + 1) cp).ownBlock = some g' → (Value.slice q j c).ownBlock = some g' ∨ w4.heap.size ≤ g' := fun g' e => by
    obtain rfl : g = g' := Option.some.inj e
    rcases hat with h | h
    · exact Or.inl h
    · exact Or.inr (by omega)
  have hzs : (w5.setCell ⟨w.heap.size + 2, 1, none⟩ (.slice (some ⟨g, 0, none⟩) (j + 1) cp)).heap.size = w5.heap.size := by simp [World.setCell]
  refine ⟨fn_set hown5 (by omega), fun i hi => ?_, two_set1 ((hk _ (by omega) (hno _ (by omega))).trans hout), (Below.heap_setCell _ _ _ _ (by show w.heap.size + 1 ≠ w.heap.size + 2; omega)).trans ((hk _ (by omega) (hno _ (by omega))).trans hres),
    sy_set (sy_grown (owns_later hsy h14) (owns_later hown h14) hgrow) (by omega), ?_, by rw [hzs]; omega⟩
  · refine CpAt.set ?_ (by omega)
    by_cases e : i = j
    · subst e
      exact CpAt.last (B := w.heap.size + 3) hown.1 hO3 h4 hO4 s3 (fun g hg => by have := (hlo g hg).2; omega) hgrow hv (by omega)
    · exact ((hcp i (by omega)).more).keep (fun k _ h1 h2 => hk k h1 h2) (by omega) (fun g' hg' => by rcases hv g' hg' with h | h; exact Or.inl h; exact Or.inr (by omega))
  · have hb4 := hb.trans (h14.mono hb.size)
    have hs4 := hb4.size
    exact ((hb4.alloc hs4 X).grown hgrow (by simp; omega) fun k hk => by have := (hlo k hk).1; omega).setCell (p := ⟨w.heap.size + 2, 1, none⟩) (by show w.heap.size ≤ w.heap.size + 2; omega) _

end Go.Proofs.YtjdnbmcjnkmgdaaGreatDoor

/-
  The walk of the reference's Copy. Conditions: that the scheme lies in memory, and is valid.
-/
set_option linter.unusedSimpArgs false
set_option linter.unusedVariables false
namespace Go.Proofs.YtjdnbmcjnkmgdaaGreatDoor
open Go.RowKit Go.Maps

theorem one_fn (n : ByteArray) (q : Option Addr) (l c : Nat) (k m : Int) (r : Option Addr) (l' d : Nat) : ∀ u ∈ [Value.string n, .slice q l c, .int .i64 k, .int .i64 m, .slice r l' d], u.oneCell' = true := by simp [Value.oneCell']

theorem copy_le {B : Nat} {wr W1 w3 w4 : World} (h : B + 3 ≤ wr.heap.size) (hs : W1.heap.size = wr.heap.size + 1) (h3 : Below W1.heap.size W1 w3) (h4 : Below w3.heap.size w3 w4) : B + 3 ≤ w4.heap.size := by
  have := h3.size
  have := h4.size
  omega

theorem copy_ne {B : Nat} {wr : World} (h : B + 3 ≤ wr.heap.size) : wr.heap.size ≠ B + 2 := by omega

theorem copy_box {wr W1 w3 w4 w5 : World} {B j c : Nat} {q : Option Addr} {o X : Obj} (hlt : ∀ k, (Value.slice q j c).ownBlock = some k → B ≤ k ∧ k < W1.heap.size) (hs : W1.heap.size = wr.heap.size + 1) (h3 : Below W1.heap.size W1 w3) (h4 : Below w3.heap.size w3 w4)
    (hb : w4.heap[wr.heap.size]? = some o) (hg : (w4.alloc X).grownBy w5 (Value.slice q j c).ownBlock) (hne : ∀ k, (Value.slice q j c).ownBlock = some k → k < wr.heap.size) : w5.heap[wr.heap.size]? = some o := by
  have := h3.size
  have := h4.size
  rw [hg.block _ (by simp; omega) (fun e => by have := hne _ e.symm; omega), Below.heap_alloc _ _ _ (by omega)]
  exact hb

theorem copy_out {wr w4 w5 : World} {B j c : Nat} {q : Option Addr} {o X : Obj} (hlt : ∀ k, (Value.slice q j c).ownBlock = some k → B + 3 ≤ k ∧ k < wr.heap.size) (hb : w4.heap[B + 2]? = some o) (hg : (w4.alloc X).grownBy w5 (Value.slice q j c).ownBlock) : w5.heap[B + 2]? = some o := by
  have := lt_of_block hb
  rw [hg.block _ (by simp; omega) (fun e => by have := (hlt _ e.symm).1; omega), Below.heap_alloc _ _ _ (by omega)]
  exact hb

/-- what a copy leaves -/
def CopyPost (x : Sc) (w : World) (e : Ending) (w' : World) : Prop := ∃ b : At2, e = .returned (.agg #[.slice b.sp b.sn b.sc, .slice b.fp b.fn b.fc]) ∧ IsC w' x b ∧ Below w.heap.size w w'

set_option maxRecDepth 100000 in
set_option maxHeartbeats 8000000 in
theorem refcopy3_any (x : Sc) (hg : Good x) (a : At2) (w : World) (h : IsC w x a) :
    Calls Tryz.prog 34 #[.agg #[.slice a.sp a.sn a.sc, .slice a.fp a.fn a.fc]] w (CopyPost x w) := by
  obtain ⟨i0, hi0, hz0, hz1, hz2⟩ := info_parts infoSy
  obtain ⟨j0, hj0, hy0, hy1, hy2⟩ := info_parts infoFu
  have hS24 := hg.syms
  have hF64 := hg.funs
  have HG := Lib.hid hg
  obtain ⟨sp, sn, sc, fp, fn, fc⟩ := a
  obtain ⟨rfl, hsc, hsm, hsz, hsr⟩ := id h.1
  obtain ⟨rfl, hfc, hfm, hfz, hfr⟩ := id h.2
  dsimp only at hsc hsm hsz hfc hfm hfz hsr hfr ⊢
  unfold maxLen at hsm hfm
  have HC := Lib.hid h
  clear h hfr hg
  rcases sp with _ | ad
  · obtain rfl : sc = 0 := hsz rfl
    obtain hs0 : x.S.len = 0 := by omega
    have HS0 := Lib.hid hs0
    rw [hs0]
    clear hs0 hsr hS24 hsc
    have hbx2 := heap_new ((w.alloc (.cells #[.slice none 0 0, .slice fp x.F.len fc] 25)).alloc (.cells #[.slice none 0 0, .slice none 0 0] 25)) (.cells #[.slice none 0 0, .slice none 0 0] 25)
    simp only [World.size_alloc] at hbx2
    have hbx1 := alloc_kept (heap_new2 w (.cells #[.slice none 0 0, .slice fp x.F.len fc] 25) (.cells #[.slice none 0 0, .slice none 0 0] 25)) (.cells #[.slice none 0 0, .slice none 0 0] 25)
    have hsy : (((w.alloc (.cells #[.slice none 0 0, .slice fp x.F.len fc] 25)).alloc (.cells #[.slice none 0 0, .slice none 0 0] 25)).alloc (.cells #[.slice none 0 0, .slice none 0 0] 25)).ownsRow (w.heap.size + 3) 64 2 (.slice none x.S.len 0) x.S.len (symV x.S) := by
      have : symV x.S = [] := by unfold symV; rw [HS0.out]; rfl
      rw [this, HS0.out]
      exact World.ownsRow_nil _ _ _ _
    have hout : (((w.alloc (.cells #[.slice none 0 0, .slice fp x.F.len fc] 25)).alloc (.cells #[.slice none 0 0, .slice none 0 0] 25)).alloc (.cells #[.slice none 0 0, .slice none 0 0] 25)).heap[w.heap.size + 2]? = some (.cells #[.slice none x.S.len 0, .slice none 0 0] 25 (0, 0)) := by rw [HS0.out]; exact hbx2
    have hb3 : Below w.heap.size w (((w.alloc (.cells #[.slice none 0 0, .slice fp x.F.len fc] 25)).alloc (.cells #[.slice none 0 0, .slice none 0 0] 25)).alloc (.cells #[.slice none 0 0, .slice none 0 0] 25)) := (((Below.refl _ _).alloc (Nat.le_refl _) _).alloc (by simp) _).alloc (by simp; omega) _
    have HS := Lib.hid (And.intro hout (And.intro hbx1 (And.intro hsy (And.intro hb3 (show w.heap.size + 3 ≤ (((w.alloc (.cells #[.slice none 0 0, .slice fp x.F.len fc] 25)).alloc (.cells #[.slice none 0 0, .slice none 0 0] 25)).alloc (.cells #[.slice none 0 0, .slice none 0 0] 25)).heap.size by simp)))))
    clear hbx2 hbx1 hsy hout hb3
    go_enter Tryz.func34, Tryz.ntmps34
    go_wp2_with fail
    go_loopw [15] (fun v wr => ∃ (j : Nat) (q : Option Addr) (c : Nat) (vs : List Value), j ≤ x.F.len ∧ v = .int .i64 (j : Int) ∧ wr.ownsRow (w.heap.size + 3) 52 5 (.slice q j c) j vs ∧ (∀ i, i < j → CpAt wr (w.heap.size + 3) (.slice q j c) x.F i vs) ∧
        wr.heap[w.heap.size + 2]? = some (.cells #[.slice none x.S.len 0, .slice q j c] 25 (0, 0)) ∧ wr.heap[w.heap.size + 1]? = some (.cells #[.slice none 0 0, .slice none 0 0] 25 (0, 0)) ∧
        wr.ownsRow (w.heap.size + 3) 64 2 (.slice none x.S.len 0) x.S.len (symV x.S) ∧ Below w.heap.size w wr ∧ w.heap.size + 3 ≤ wr.heap.size)
      (fun v _ => x.F.len - (Go.RowKit.intOf v).toNat)
    case atStart => exact ⟨0, none, 0, [], Nat.zero_le _, rfl, World.ownsRow_nil _ _ _ _, fun i hi => absurd hi (Nat.not_lt_zero _), HS.out.1, HS.out.2.1, HS.out.2.2.1, HS.out.2.2.2.1, HS.out.2.2.2.2⟩
    case round =>
      clear HS
      obtain ⟨j, q, c, vs, hj, rfl, hown, hcp, hout, hres, hsy, hb, hlt3⟩ := hrel
      by_cases hlt : j < x.F.len
      · obtain ⟨b, off, rfl, p, n, c0, r, m, d, e1, e2, e3, e4, e5, hT, hX⟩ := rowF_all (HC.out.below hb).2 hlt
        have hv := HG.out.sort j hlt
        have hsz := HG.out.size j hlt
        have HT := Lib.hid fun W h => copy_any (x.F.st j).nodes (x.F.st j) W p n c0 (Nat.le_refl _) (T.valid_nodes _ hv) h
        have HX := Lib.hid fun W h => tcopy_any ((x.F.bt j).sz + 1) (x.F.bt j) (x.F.bk j) (x.F.bn j) W r m d (Nat.lt_succ_self _) (by omega) h
        obtain ⟨W1, hW1⟩ : ∃ W1, (wr.alloc (.cells #[.string (x.F.nm j), .slice p n c0, .int .i64 (x.F.bk j), .int .i64 (x.F.bn j), .slice r m d] 52)).drew = W1 := ⟨_, rfl⟩
        have hbw : Below wr.heap.size wr W1 := by rw [← hW1]; exact below_drewN ((Below.refl _ _).alloc (Nat.le_refl _) _) 1
        have hbx : W1.heap[wr.heap.size]? = some (.cells #[.string (x.F.nm j), .slice p n c0, .int .i64 (x.F.bk j), .int .i64 (x.F.bn j), .slice r m d] 52 (0, 0)) := by rw [← hW1]; exact heap_new _ _
        have hs1 : W1.heap.size = wr.heap.size + 1 := by rw [← hW1]; simp
        have hown1 := owns_later hown hbw
        have hB1 := hb.trans (hbw.mono hb.size)
        obtain ⟨⟨o0, o1⟩, f0, f1⟩ := two_box (box3_later hbw hout)
        have HR := Lib.hid (And.intro hown (And.intro hcp (And.intro hsy (And.intro (box3_later hbw hout) (And.intro hout (And.intro hres (And.intro hb hlt3)))))))
        have HD := Lib.hid (And.intro (hT.below hbw) (And.intro (hX.below hbw) (And.intro hbw (And.intro hbx hs1))))
        have K0 := fun_box hbx
        have hlo := hown1.lt
        have HLO := Lib.hid hlo
        have hOW := Lib.hid (And.intro hown1 hown.lt)
        clear hT hX hbw hbx hown hcp hsy hout hres hb hB1 hlo hown1
        generalize hnm : x.F.nm j = nm at e1 K0 HD hW1
        generalize hbk : x.F.bk j = bk at e3 K0 HX HD hW1
        generalize hbn : x.F.bn j = bn at e4 K0 HX HD hW1
        have HNM := Lib.hid (And.intro hnm (And.intro hbk hbn))
        subst hW1
        have hmx : j + 1 ≤ maxLen := by simp only [maxLen]; omega
        have hby : (j + 1) * 80 ≤ 140737488355328 := by omega
        go_upto_region 6 with fail
        refine wp_region_held_drew (S := (fun W => W.cell? ⟨wr.heap.size, 0, none⟩ = some (.string nm) ∧ W.cell? ⟨wr.heap.size, 1, none⟩ = some (.slice p n c0) ∧ W.cell? ⟨wr.heap.size, 2, none⟩ = some (.int .i64 bk) ∧ W.cell? ⟨wr.heap.size, 2 + 1, none⟩ = some (.int .i64 bn) ∧ W.cell? ⟨wr.heap.size, 2 + 2, none⟩ = some (.slice r m d))) (by kernel_rfl) K0 (fun hHeld => ?_)
        have y1 : ((wr.alloc (.cells #[.string nm, .slice p n c0, .int .i64 bk, .int .i64 bn, .slice r m d] 52)).drew).cell? ⟨w.heap.size + 1 + 1, 1, none⟩ = some (.slice q j c) := (two_box HR.out.2.2.2.1).1.2
        refine wpAnyH_take (i := 0) (oi := { dst := some 19, op := Go.Op.fieldAddr 25 (Go.Operand.tmp 3) 1, type := 0, pos := "ref.go:80", after := #[], guard := none }) (v := ?_) rfl (by kernel_rfl) (by kernel_rfl) (by kernel_rfl) (fun _ _ _ h => h) (Or.inl ⟨by rfl, ?_⟩) (by assumption) ?_
        rotate_left
        · intro W hSw; (try dsimp only at hSw); go_simp; with_reducible rfl
        try simp only [Act.put, List.setIfInBounds_toArray, List.set_cons_zero, List.set_cons_succ]
        refine wpAnyH_take (i := 2) (oi := { dst := some 21, op := Go.Op.fieldAddr 52 (Go.Operand.tmp 5) 0, type := 0, pos := "ref.go:80", after := #[], guard := none }) (v := ?_) rfl (by kernel_rfl) (by kernel_rfl) (by kernel_rfl) (fun _ _ _ h => h) (Or.inl ⟨by rfl, ?_⟩) (by assumption) ?_
        rotate_left
        · intro W hSw; (try dsimp only at hSw); go_simp; with_reducible rfl
        try simp only [Act.put, List.setIfInBounds_toArray, List.set_cons_zero, List.set_cons_succ]
        refine wpAnyH_take (i := 3) (oi := { dst := some 22, op := Go.Op.load 9 (Go.Operand.tmp 21), type := 9, pos := "ref.go:80", after := #[{ on := 2, ground := Go.Ground.data }], guard := none }) (v := ?_) rfl (by kernel_rfl) (by kernel_rfl) (by kernel_rfl) (fun _ _ _ h => h) (Or.inl ⟨by rfl, ?_⟩) (by assumption) ?_
        rotate_left
        · intro W hSw; (try dsimp only at hSw); go_simp; with_reducible rfl
        try simp only [Act.put, List.setIfInBounds_toArray, List.set_cons_zero, List.set_cons_succ]
        refine wpAnyH_take (i := 4) (oi := { dst := some 23, op := Go.Op.fieldAddr 52 (Go.Operand.tmp 5) 1, type := 0, pos := "ref.go:80", after := #[], guard := none }) (v := ?_) rfl (by kernel_rfl) (by kernel_rfl) (by kernel_rfl) (fun _ _ _ h => h) (Or.inl ⟨by rfl, ?_⟩) (by assumption) ?_
        rotate_left
        · intro W hSw; (try dsimp only at hSw); go_simp; with_reducible rfl
        try simp only [Act.put, List.setIfInBounds_toArray, List.set_cons_zero, List.set_cons_succ]
        refine wpAnyH_take (i := 5) (oi := { dst := some 24, op := Go.Op.load 47 (Go.Operand.tmp 23), type := 47, pos := "ref.go:80", after := #[{ on := 4, ground := Go.Ground.data }], guard := none }) (v := ?_) rfl (by kernel_rfl) (by kernel_rfl) (by kernel_rfl) (fun _ _ _ h => h) (Or.inl ⟨by rfl, ?_⟩) (by assumption) ?_
        rotate_left
        · intro W hSw; (try dsimp only at hSw); go_simp; with_reducible rfl
        try simp only [Act.put, List.setIfInBounds_toArray, List.set_cons_zero, List.set_cons_succ]
        refine wpAnyH_take (i := 7) (oi := { dst := some 26, op := Go.Op.fieldAddr 52 (Go.Operand.tmp 5) 2, type := 0, pos := "ref.go:80", after := #[], guard := none }) (v := ?_) rfl (by kernel_rfl) (by kernel_rfl) (by kernel_rfl) (fun _ _ _ h => h) (Or.inl ⟨by rfl, ?_⟩) (by assumption) ?_
        rotate_left
        · intro W hSw; (try dsimp only at hSw); go_simp; with_reducible rfl
        try simp only [Act.put, List.setIfInBounds_toArray, List.set_cons_zero, List.set_cons_succ]
        refine wpAnyH_take (i := 8) (oi := { dst := some 27, op := Go.Op.load 50 (Go.Operand.tmp 26), type := 50, pos := "ref.go:80", after := #[{ on := 7, ground := Go.Ground.data }], guard := none }) (v := ?_) rfl (by kernel_rfl) (by kernel_rfl) (by kernel_rfl) (fun _ _ _ h => h) (Or.inl ⟨by rfl, ?_⟩) (by assumption) ?_
        rotate_left
        · intro W hSw; (try dsimp only at hSw); go_simp; with_reducible rfl
        try simp only [Act.put, List.setIfInBounds_toArray, List.set_cons_zero, List.set_cons_succ]
        refine wpAnyH_ready (rs := [1, 6]) (by kernel_rfl) (by simp) ?_
        refine AllReadyH.cons (o := { dst := some 20, op := Go.Op.load 23 (Go.Operand.tmp 19), type := 23, pos := "ref.go:80", after := #[{ on := 0, ground := Go.Ground.data }], guard := none }) rfl (fun K hK => ?_) ?_
        · go_simp
          refine hK.out _ _ hHeld (fun hHeld => ?_)
          clear hK K
          try simp only [Act.put, List.setIfInBounds_toArray, List.set_cons_zero, List.set_cons_succ]
          refine wpAnyH_ready (rs := [6]) (by kernel_rfl) (by simp) ?_
          refine AllReadyH.cons (o := { dst := some 25, op := Go.Op.call { callee := Go.Callee.value (Go.Operand.func 74), args := #[Go.Operand.tmp 24], argTypes := #[47] }, type := 47, pos := "ref.go:80", after := #[{ on := 5, ground := Go.Ground.data }], guard := none }) rfl (fun K hK => ?_) AllReadyH.nil
          go_simp
          go_at_call 74
          refine (HT.out _ HD.out.1).mono ?_
          rintro e w3 ⟨q1, c1', rfl, hO3, hb3⟩
          have K3 := fun_box (box3_later hb3 HD.out.2.2.2.1)
          have hbo3 := box3_later hb3 HR.out.2.2.2.1
          have y3 : w3.cell? ⟨w.heap.size + 1 + 1, 1, none⟩ = some (.slice q j c) := (two_box hbo3).1.2
          go_wp2_with fail
          refine hK.out _ _ K3 (fun hHeld => ?_)
          clear hK K
          try simp only [Act.put, List.setIfInBounds_toArray, List.set_cons_zero, List.set_cons_succ]
          refine wpAnyH_ready (rs := [9]) (by kernel_rfl) (by simp) ?_
          refine AllReadyH.cons (o := { dst := some 28, op := Go.Op.call { callee := Go.Callee.value (Go.Operand.func 75), args := #[Go.Operand.tmp 27], argTypes := #[50] }, type := 50, pos := "ref.go:80", after := #[{ on := 8, ground := Go.Ground.data }, { on := 6, ground := Go.Ground.chain }], guard := none }) rfl (fun K hK => ?_) AllReadyH.nil
          go_simp
          go_at_call 75
          refine (HX.out _ (HD.out.2.1.below hb3)).mono ?_
          rintro e w4 ⟨q2, c2', rfl, hO4, hb4⟩
          have hbx4 := box3_later hb4 (box3_later hb3 HD.out.2.2.2.1)
          have K4 := fun_box hbx4
          have K4a := fun o => fun_box (alloc_kept hbx4 o)
          have hbo4 := box3_later hb4 hbo3
          have y4 : w4.cell? ⟨w.heap.size + 1 + 1, 1, none⟩ = some (.slice q j c) := (two_box hbo4).1.2
          have y4a : ∀ o, (w4.alloc o).cell? ⟨w.heap.size + 1 + 1, 1, none⟩ = some (.slice q j c) := fun o => (two_box (alloc_kept hbo4 o)).1.2
          have hownA := fun o => (owns_later (owns_later hOW.out.1 hb3) hb4).alloc o
          have hz4 : w.heap.size + 3 ≤ w4.heap.size := copy_le HR.out.2.2.2.2.2.2.2 HD.out.2.2.2.2 hb3 hb4
          go_wp2_with fail
          refine hK.out _ _ K4 (fun hHeld => ?_)
          clear hK K
          try simp only [Act.put, List.setIfInBounds_toArray, List.set_cons_zero, List.set_cons_succ]
          refine wpAnyH_take (i := 10) (oi := { dst := some 29, op := Go.Op.build 52 #[(0, Go.Operand.tmp 22), (1, Go.Operand.tmp 25), (2, Go.Operand.tmp 28)], type := 52, pos := "ref.go:80", after := #[{ on := 3, ground := Go.Ground.data }, { on := 6, ground := Go.Ground.data }, { on := 9, ground := Go.Ground.data }], guard := none }) (v := ?_) rfl (by kernel_rfl) (by kernel_rfl) (by kernel_rfl) (fun _ _ _ h => h) (Or.inl ⟨by rfl, ?_⟩) (by assumption) ?_
          rotate_left
          · intro W hSw; (try dsimp only at hSw); go_simp; with_reducible rfl
          try simp only [Act.put, List.setIfInBounds_toArray, List.set_cons_zero, List.set_cons_succ]
          refine wpAnyH_ready (rs := [11]) (by kernel_rfl) (by simp) ?_
          refine AllReadyH.cons (o := { dst := some 30, op := Go.Op.buildSlice 23 1 #[(0, Go.Operand.tmp 29)], type := 23, pos := "ref.go:80", after := #[{ on := 10, ground := Go.Ground.data }], guard := none }) rfl (fun K hK => ?_) AllReadyH.nil
          go_simp
          refine hK.out _ _ (K4a _) (fun hHeld => ?_)
          clear hK K
          try simp only [Act.put, List.setIfInBounds_toArray, List.set_cons_zero, List.set_cons_succ]
          refine wpAnyH_ready (rs := [12]) (by kernel_rfl) (by simp) ?_
          refine AllReadyH.cons (o := { dst := some 31, op := Go.Op.call { callee := Go.Callee.builtin Go.Builtin.append, args := #[Go.Operand.tmp 20, Go.Operand.tmp 30], argTypes := #[23, 23] }, type := 23, pos := "ref.go:80", after := #[{ on := 1, ground := Go.Ground.data }, { on := 11, ground := Go.Ground.data }, { on := 9, ground := Go.Ground.chain }], guard := none }) rfl (fun K hK => ?_) AllReadyH.nil
          refine step_append_lies (w4.alloc (.cells #[.string nm, .slice q1 (x.F.st j).len c1', .int .i64 bk, .int .i64 bn, .slice q2 (x.F.bt j).len c2'] 52)) rfl (.tmp 20) (.tmp 30) 23 rfl (w.heap.size + 3) 52 j0 (.agg #[.string ⟨#[]⟩, .slice none 0 0, .int .i64 0, .int .i64 0, .slice none 0 0]) 5 80 Tryz.underlying23 hj0 hy0 hy1 hy2 rfl (by decide) (.slice q j c) j vs rfl (hownA _) ⟨w4.heap.size, 0, none⟩ 1 1 [.string nm, .slice q1 (x.F.st j).len c1', .int .i64 bk, .int .i64 bn, .slice q2 (x.F.bt j).len c2'] rfl rfl (World.news_of_block (heap_new _ _)) (one_fn _ _ _ _ _ _ _ _ _) Nat.one_pos hmx hby (base_le _ hz4) (w4.heap.size + 1) (size_new _ _) ?_
          intro g cp w5 hown5 hgrow hat hglt
          have hbx5 := copy_box HLO.out HD.out.2.2.2.2 hb3 hb4 hbx4 hgrow (fun k e => (hOW.out.2 k e).2)
          have K5 := fun_box hbx5
          have K6 := fun_box ((Below.heap_setCell w5 ⟨w.heap.size + 2, 1, none⟩ (.slice (some ⟨g, 0, none⟩) (j + 1) cp) wr.heap.size (copy_ne HR.out.2.2.2.2.2.2.2)).trans hbx5)
          have hbo5 := copy_out hOW.out.2 hbo4 hgrow
          have y5 : w5.cell? ⟨w.heap.size + 1 + 1, 1, none⟩ = some (.slice q j c) := (two_box hbo5).1.2
          have y6 : w5.frozen? ⟨w.heap.size + 1 + 1, 1, none⟩ = false := (two_box hbo5).2.2
          refine hK.out _ _ K5 (fun hHeld => ?_)
          clear hK K
          try simp only [Act.put, List.setIfInBounds_toArray, List.set_cons_zero, List.set_cons_succ]
          refine wpAnyH_take (i := 13) (oi := { dst := some 32, op := Go.Op.fieldAddr 25 (Go.Operand.tmp 3) 1, type := 0, pos := "ref.go:80", after := #[{ on := 0, ground := Go.Ground.phase }, { on := 1, ground := Go.Ground.phase }, { on := 2, ground := Go.Ground.phase }, { on := 3, ground := Go.Ground.phase }, { on := 4, ground := Go.Ground.phase }, { on := 5, ground := Go.Ground.phase }, { on := 6, ground := Go.Ground.phase }, { on := 7, ground := Go.Ground.phase }, { on := 8, ground := Go.Ground.phase }, { on := 9, ground := Go.Ground.phase }, { on := 10, ground := Go.Ground.phase }, { on := 11, ground := Go.Ground.phase }, { on := 12, ground := Go.Ground.phase }], guard := none }) (v := ?_) rfl (by kernel_rfl) (by kernel_rfl) (by kernel_rfl) (fun _ _ _ h => h) (Or.inl ⟨by rfl, ?_⟩) (by assumption) ?_
          rotate_left
          · intro W hSw; (try dsimp only at hSw); go_simp; with_reducible rfl
          try simp only [Act.put, List.setIfInBounds_toArray, List.set_cons_zero, List.set_cons_succ]
          refine wpAnyH_ready (rs := [14]) (by kernel_rfl) (by simp) ?_
          refine AllReadyH.cons (o := { dst := none, op := Go.Op.store 23 (Go.Operand.tmp 32) (Go.Operand.tmp 31), type := 0, pos := "ref.go:80", after := #[{ on := 13, ground := Go.Ground.data }, { on := 12, ground := Go.Ground.data }, { on := 12, ground := Go.Ground.chain }, { on := 0, ground := Go.Ground.phase }, { on := 1, ground := Go.Ground.phase }, { on := 2, ground := Go.Ground.phase }, { on := 3, ground := Go.Ground.phase }, { on := 4, ground := Go.Ground.phase }, { on := 5, ground := Go.Ground.phase }, { on := 6, ground := Go.Ground.phase }, { on := 7, ground := Go.Ground.phase }, { on := 8, ground := Go.Ground.phase }, { on := 9, ground := Go.Ground.phase }, { on := 10, ground := Go.Ground.phase }, { on := 11, ground := Go.Ground.phase }, { on := 12, ground := Go.Ground.phase }], guard := none }) rfl (fun K hK => ?_) AllReadyH.nil
          go_simp
          refine hK.out _ _ K6 (fun hHeld => ?_)
          clear hK K
          try simp only [Act.put, List.setIfInBounds_toArray, List.set_cons_zero, List.set_cons_succ]
          refine wpAnyH_done (by kernel_rfl) ?_ _
          have HF := Lib.hid (copy_round HR.out.1 HR.out.2.1 HR.out.2.2.2.2.1 HR.out.2.2.2.2.2.1 HR.out.2.2.1 HR.out.2.2.2.2.2.2.1 HR.out.2.2.2.2.2.2.2 HD.out.2.2.1 (by rw [HD.out.2.2.2.2]; omega) hb3 hb4 hO3 hO4 (by rw [HNM.out.1, HNM.out.2.1, HNM.out.2.2]; exact hown5) hgrow hat)
          clear hown5 hgrow hb3 hb4 hO3 hO4
          go_wp2_with fail
          go_roundw
          case rel =>
            obtain ⟨g1, g2, g3, g4, g5, g6, g7⟩ := HF.out
            exact ⟨j + 1, _, _, _, by omega, by go_num, g1, g2, g3, g4, g5, g6, g7⟩
          case measure => simp [Go.RowKit.intOf]; omega
        refine AllReadyH.cons (o := { dst := some 25, op := Go.Op.call { callee := Go.Callee.value (Go.Operand.func 74), args := #[Go.Operand.tmp 24], argTypes := #[47] }, type := 47, pos := "ref.go:80", after := #[{ on := 5, ground := Go.Ground.data }], guard := none }) rfl (fun K hK => ?_) AllReadyH.nil
        go_simp
        go_at_call 74
        refine (HT.out _ HD.out.1).mono ?_
        rintro e w3 ⟨q1, c1', rfl, hO3, hb3⟩
        have K3 := fun_box (box3_later hb3 HD.out.2.2.2.1)
        have hbo3 := box3_later hb3 HR.out.2.2.2.1
        have y3 : w3.cell? ⟨w.heap.size + 1 + 1, 1, none⟩ = some (.slice q j c) := (two_box hbo3).1.2
        go_wp2_with fail
        refine hK.out _ _ K3 (fun hHeld => ?_)
        clear hK K
        try simp only [Act.put, List.setIfInBounds_toArray, List.set_cons_zero, List.set_cons_succ]
        refine wpAnyH_ready (rs := [1, 9]) (by kernel_rfl) (by simp) ?_
        refine AllReadyH.cons (o := { dst := some 20, op := Go.Op.load 23 (Go.Operand.tmp 19), type := 23, pos := "ref.go:80", after := #[{ on := 0, ground := Go.Ground.data }], guard := none }) rfl (fun K hK => ?_) ?_
        · go_simp
          refine hK.out _ _ hHeld (fun hHeld => ?_)
          clear hK K
          try simp only [Act.put, List.setIfInBounds_toArray, List.set_cons_zero, List.set_cons_succ]
          refine wpAnyH_ready (rs := [9]) (by kernel_rfl) (by simp) ?_
          refine AllReadyH.cons (o := { dst := some 28, op := Go.Op.call { callee := Go.Callee.value (Go.Operand.func 75), args := #[Go.Operand.tmp 27], argTypes := #[50] }, type := 50, pos := "ref.go:80", after := #[{ on := 8, ground := Go.Ground.data }, { on := 6, ground := Go.Ground.chain }], guard := none }) rfl (fun K hK => ?_) AllReadyH.nil
          go_simp
          go_at_call 75
          refine (HX.out _ (HD.out.2.1.below hb3)).mono ?_
          rintro e w4 ⟨q2, c2', rfl, hO4, hb4⟩
          have hbx4 := box3_later hb4 (box3_later hb3 HD.out.2.2.2.1)
          have K4 := fun_box hbx4
          have K4a := fun o => fun_box (alloc_kept hbx4 o)
          have hbo4 := box3_later hb4 hbo3
          have y4 : w4.cell? ⟨w.heap.size + 1 + 1, 1, none⟩ = some (.slice q j c) := (two_box hbo4).1.2
          have y4a : ∀ o, (w4.alloc o).cell? ⟨w.heap.size + 1 + 1, 1, none⟩ = some (.slice q j c) := fun o => (two_box (alloc_kept hbo4 o)).1.2
          have hownA := fun o => (owns_later (owns_later hOW.out.1 hb3) hb4).alloc o
          have hz4 : w.heap.size + 3 ≤ w4.heap.size := copy_le HR.out.2.2.2.2.2.2.2 HD.out.2.2.2.2 hb3 hb4
          go_wp2_with fail
          refine hK.out _ _ K4 (fun hHeld => ?_)
          clear hK K
          try simp only [Act.put, List.setIfInBounds_toArray, List.set_cons_zero, List.set_cons_succ]
          refine wpAnyH_take (i := 10) (oi := { dst := some 29, op := Go.Op.build 52 #[(0, Go.Operand.tmp 22), (1, Go.Operand.tmp 25), (2, Go.Operand.tmp 28)], type := 52, pos := "ref.go:80", after := #[{ on := 3, ground := Go.Ground.data }, { on := 6, ground := Go.Ground.data }, { on := 9, ground := Go.Ground.data }], guard := none }) (v := ?_) rfl (by kernel_rfl) (by kernel_rfl) (by kernel_rfl) (fun _ _ _ h => h) (Or.inl ⟨by rfl, ?_⟩) (by assumption) ?_
          rotate_left
          · intro W hSw; (try dsimp only at hSw); go_simp; with_reducible rfl
          try simp only [Act.put, List.setIfInBounds_toArray, List.set_cons_zero, List.set_cons_succ]
          refine wpAnyH_ready (rs := [11]) (by kernel_rfl) (by simp) ?_
          refine AllReadyH.cons (o := { dst := some 30, op := Go.Op.buildSlice 23 1 #[(0, Go.Operand.tmp 29)], type := 23, pos := "ref.go:80", after := #[{ on := 10, ground := Go.Ground.data }], guard := none }) rfl (fun K hK => ?_) AllReadyH.nil
          go_simp
          refine hK.out _ _ (K4a _) (fun hHeld => ?_)
          clear hK K
          try simp only [Act.put, List.setIfInBounds_toArray, List.set_cons_zero, List.set_cons_succ]
          refine wpAnyH_ready (rs := [12]) (by kernel_rfl) (by simp) ?_
          refine AllReadyH.cons (o := { dst := some 31, op := Go.Op.call { callee := Go.Callee.builtin Go.Builtin.append, args := #[Go.Operand.tmp 20, Go.Operand.tmp 30], argTypes := #[23, 23] }, type := 23, pos := "ref.go:80", after := #[{ on := 1, ground := Go.Ground.data }, { on := 11, ground := Go.Ground.data }, { on := 9, ground := Go.Ground.chain }], guard := none }) rfl (fun K hK => ?_) AllReadyH.nil
          refine step_append_lies (w4.alloc (.cells #[.string nm, .slice q1 (x.F.st j).len c1', .int .i64 bk, .int .i64 bn, .slice q2 (x.F.bt j).len c2'] 52)) rfl (.tmp 20) (.tmp 30) 23 rfl (w.heap.size + 3) 52 j0 (.agg #[.string ⟨#[]⟩, .slice none 0 0, .int .i64 0, .int .i64 0, .slice none 0 0]) 5 80 Tryz.underlying23 hj0 hy0 hy1 hy2 rfl (by decide) (.slice q j c) j vs rfl (hownA _) ⟨w4.heap.size, 0, none⟩ 1 1 [.string nm, .slice q1 (x.F.st j).len c1', .int .i64 bk, .int .i64 bn, .slice q2 (x.F.bt j).len c2'] rfl rfl (World.news_of_block (heap_new _ _)) (one_fn _ _ _ _ _ _ _ _ _) Nat.one_pos hmx hby (base_le _ hz4) (w4.heap.size + 1) (size_new _ _) ?_
          intro g cp w5 hown5 hgrow hat hglt
          have hbx5 := copy_box HLO.out HD.out.2.2.2.2 hb3 hb4 hbx4 hgrow (fun k e => (hOW.out.2 k e).2)
          have K5 := fun_box hbx5
          have K6 := fun_box ((Below.heap_setCell w5 ⟨w.heap.size + 2, 1, none⟩ (.slice (some ⟨g, 0, none⟩) (j + 1) cp) wr.heap.size (copy_ne HR.out.2.2.2.2.2.2.2)).trans hbx5)
          have hbo5 := copy_out hOW.out.2 hbo4 hgrow
          have y5 : w5.cell? ⟨w.heap.size + 1 + 1, 1, none⟩ = some (.slice q j c) := (two_box hbo5).1.2
          have y6 : w5.frozen? ⟨w.heap.size + 1 + 1, 1, none⟩ = false := (two_box hbo5).2.2
          refine hK.out _ _ K5 (fun hHeld => ?_)
          clear hK K
          try simp only [Act.put, List.setIfInBounds_toArray, List.set_cons_zero, List.set_cons_succ]
          refine wpAnyH_take (i := 13) (oi := { dst := some 32, op := Go.Op.fieldAddr 25 (Go.Operand.tmp 3) 1, type := 0, pos := "ref.go:80", after := #[{ on := 0, ground := Go.Ground.phase }, { on := 1, ground := Go.Ground.phase }, { on := 2, ground := Go.Ground.phase }, { on := 3, ground := Go.Ground.phase }, { on := 4, ground := Go.Ground.phase }, { on := 5, ground := Go.Ground.phase }, { on := 6, ground := Go.Ground.phase }, { on := 7, ground := Go.Ground.phase }, { on := 8, ground := Go.Ground.phase }, { on := 9, ground := Go.Ground.phase }, { on := 10, ground := Go.Ground.phase }, { on := 11, ground := Go.Ground.phase }, { on := 12, ground := Go.Ground.phase }], guard := none }) (v := ?_) rfl (by kernel_rfl) (by kernel_rfl) (by kernel_rfl) (fun _ _ _ h => h) (Or.inl ⟨by rfl, ?_⟩) (by assumption) ?_
          rotate_left
          · intro W hSw; (try dsimp only at hSw); go_simp; with_reducible rfl
          try simp only [Act.put, List.setIfInBounds_toArray, List.set_cons_zero, List.set_cons_succ]
          refine wpAnyH_ready (rs := [14]) (by kernel_rfl) (by simp) ?_
          refine AllReadyH.cons (o := { dst := none, op := Go.Op.store 23 (Go.Operand.tmp 32) (Go.Operand.tmp 31), type := 0, pos := "ref.go:80", after := #[{ on := 13, ground := Go.Ground.data }, { on := 12, ground := Go.Ground.data }, { on := 12, ground := Go.Ground.chain }, { on := 0, ground := Go.Ground.phase }, { on := 1, ground := Go.Ground.phase }, { on := 2, ground := Go.Ground.phase }, { on := 3, ground := Go.Ground.phase }, { on := 4, ground := Go.Ground.phase }, { on := 5, ground := Go.Ground.phase }, { on := 6, ground := Go.Ground.phase }, { on := 7, ground := Go.Ground.phase }, { on := 8, ground := Go.Ground.phase }, { on := 9, ground := Go.Ground.phase }, { on := 10, ground := Go.Ground.phase }, { on := 11, ground := Go.Ground.phase }, { on := 12, ground := Go.Ground.phase }], guard := none }) rfl (fun K hK => ?_) AllReadyH.nil
          go_simp
          refine hK.out _ _ K6 (fun hHeld => ?_)
          clear hK K
          try simp only [Act.put, List.setIfInBounds_toArray, List.set_cons_zero, List.set_cons_succ]
          refine wpAnyH_done (by kernel_rfl) ?_ _
          have HF := Lib.hid (copy_round HR.out.1 HR.out.2.1 HR.out.2.2.2.2.1 HR.out.2.2.2.2.2.1 HR.out.2.2.1 HR.out.2.2.2.2.2.2.1 HR.out.2.2.2.2.2.2.2 HD.out.2.2.1 (by rw [HD.out.2.2.2.2]; omega) hb3 hb4 hO3 hO4 (by rw [HNM.out.1, HNM.out.2.1, HNM.out.2.2]; exact hown5) hgrow hat)
          clear hown5 hgrow hb3 hb4 hO3 hO4
          go_wp2_with fail
          go_roundw
          case rel =>
            obtain ⟨g1, g2, g3, g4, g5, g6, g7⟩ := HF.out
            exact ⟨j + 1, _, _, _, by omega, by go_num, g1, g2, g3, g4, g5, g6, g7⟩
          case measure => simp [Go.RowKit.intOf]; omega
        refine AllReadyH.cons (o := { dst := some 28, op := Go.Op.call { callee := Go.Callee.value (Go.Operand.func 75), args := #[Go.Operand.tmp 27], argTypes := #[50] }, type := 50, pos := "ref.go:80", after := #[{ on := 8, ground := Go.Ground.data }, { on := 6, ground := Go.Ground.chain }], guard := none }) rfl (fun K hK => ?_) AllReadyH.nil
        go_simp
        go_at_call 75
        refine (HX.out _ (HD.out.2.1.below hb3)).mono ?_
        rintro e w4 ⟨q2, c2', rfl, hO4, hb4⟩
        have hbx4 := box3_later hb4 (box3_later hb3 HD.out.2.2.2.1)
        have K4 := fun_box hbx4
        have K4a := fun o => fun_box (alloc_kept hbx4 o)
        have hbo4 := box3_later hb4 hbo3
        have y4 : w4.cell? ⟨w.heap.size + 1 + 1, 1, none⟩ = some (.slice q j c) := (two_box hbo4).1.2
        have y4a : ∀ o, (w4.alloc o).cell? ⟨w.heap.size + 1 + 1, 1, none⟩ = some (.slice q j c) := fun o => (two_box (alloc_kept hbo4 o)).1.2
        have hownA := fun o => (owns_later (owns_later hOW.out.1 hb3) hb4).alloc o
        have hz4 : w.heap.size + 3 ≤ w4.heap.size := copy_le HR.out.2.2.2.2.2.2.2 HD.out.2.2.2.2 hb3 hb4
        go_wp2_with fail
        refine hK.out _ _ K4 (fun hHeld => ?_)
        clear hK K
        try simp only [Act.put, List.setIfInBounds_toArray, List.set_cons_zero, List.set_cons_succ]
        refine wpAnyH_take (i := 10) (oi := { dst := some 29, op := Go.Op.build 52 #[(0, Go.Operand.tmp 22), (1, Go.Operand.tmp 25), (2, Go.Operand.tmp 28)], type := 52, pos := "ref.go:80", after := #[{ on := 3, ground := Go.Ground.data }, { on := 6, ground := Go.Ground.data }, { on := 9, ground := Go.Ground.data }], guard := none }) (v := ?_) rfl (by kernel_rfl) (by kernel_rfl) (by kernel_rfl) (fun _ _ _ h => h) (Or.inl ⟨by rfl, ?_⟩) (by assumption) ?_
        rotate_left
        · intro W hSw; (try dsimp only at hSw); go_simp; with_reducible rfl
        try simp only [Act.put, List.setIfInBounds_toArray, List.set_cons_zero, List.set_cons_succ]
        refine wpAnyH_ready (rs := [1, 11]) (by kernel_rfl) (by simp) ?_
        refine AllReadyH.cons (o := { dst := some 20, op := Go.Op.load 23 (Go.Operand.tmp 19), type := 23, pos := "ref.go:80", after := #[{ on := 0, ground := Go.Ground.data }], guard := none }) rfl (fun K hK => ?_) ?_
        · go_simp
          refine hK.out _ _ hHeld (fun hHeld => ?_)
          clear hK K
          try simp only [Act.put, List.setIfInBounds_toArray, List.set_cons_zero, List.set_cons_succ]
          refine wpAnyH_ready (rs := [11]) (by kernel_rfl) (by simp) ?_
          refine AllReadyH.cons (o := { dst := some 30, op := Go.Op.buildSlice 23 1 #[(0, Go.Operand.tmp 29)], type := 23, pos := "ref.go:80", after := #[{ on := 10, ground := Go.Ground.data }], guard := none }) rfl (fun K hK => ?_) AllReadyH.nil
          go_simp
          refine hK.out _ _ (K4a _) (fun hHeld => ?_)
          clear hK K
          try simp only [Act.put, List.setIfInBounds_toArray, List.set_cons_zero, List.set_cons_succ]
          refine wpAnyH_ready (rs := [12]) (by kernel_rfl) (by simp) ?_
          refine AllReadyH.cons (o := { dst := some 31, op := Go.Op.call { callee := Go.Callee.builtin Go.Builtin.append, args := #[Go.Operand.tmp 20, Go.Operand.tmp 30], argTypes := #[23, 23] }, type := 23, pos := "ref.go:80", after := #[{ on := 1, ground := Go.Ground.data }, { on := 11, ground := Go.Ground.data }, { on := 9, ground := Go.Ground.chain }], guard := none }) rfl (fun K hK => ?_) AllReadyH.nil
          refine step_append_lies (w4.alloc (.cells #[.string nm, .slice q1 (x.F.st j).len c1', .int .i64 bk, .int .i64 bn, .slice q2 (x.F.bt j).len c2'] 52)) rfl (.tmp 20) (.tmp 30) 23 rfl (w.heap.size + 3) 52 j0 (.agg #[.string ⟨#[]⟩, .slice none 0 0, .int .i64 0, .int .i64 0, .slice none 0 0]) 5 80 Tryz.underlying23 hj0 hy0 hy1 hy2 rfl (by decide) (.slice q j c) j vs rfl (hownA _) ⟨w4.heap.size, 0, none⟩ 1 1 [.string nm, .slice q1 (x.F.st j).len c1', .int .i64 bk, .int .i64 bn, .slice q2 (x.F.bt j).len c2'] rfl rfl (World.news_of_block (heap_new _ _)) (one_fn _ _ _ _ _ _ _ _ _) Nat.one_pos hmx hby (base_le _ hz4) (w4.heap.size + 1) (size_new _ _) ?_
          intro g cp w5 hown5 hgrow hat hglt
          have hbx5 := copy_box HLO.out HD.out.2.2.2.2 hb3 hb4 hbx4 hgrow (fun k e => (hOW.out.2 k e).2)
          have K5 := fun_box hbx5
          have K6 := fun_box ((Below.heap_setCell w5 ⟨w.heap.size + 2, 1, none⟩ (.slice (some ⟨g, 0, none⟩) (j + 1) cp) wr.heap.size (copy_ne HR.out.2.2.2.2.2.2.2)).trans hbx5)
          have hbo5 := copy_out hOW.out.2 hbo4 hgrow
          have y5 : w5.cell? ⟨w.heap.size + 1 + 1, 1, none⟩ = some (.slice q j c) := (two_box hbo5).1.2
          have y6 : w5.frozen? ⟨w.heap.size + 1 + 1, 1, none⟩ = false := (two_box hbo5).2.2
          refine hK.out _ _ K5 (fun hHeld => ?_)
          clear hK K
          try simp only [Act.put, List.setIfInBounds_toArray, List.set_cons_zero, List.set_cons_succ]
          refine wpAnyH_take (i := 13) (oi := { dst := some 32, op := Go.Op.fieldAddr 25 (Go.Operand.tmp 3) 1, type := 0, pos := "ref.go:80", after := #[{ on := 0, ground := Go.Ground.phase }, { on := 1, ground := Go.Ground.phase }, { on := 2, ground := Go.Ground.phase }, { on := 3, ground := Go.Ground.phase }, { on := 4, ground := Go.Ground.phase }, { on := 5, ground := Go.Ground.phase }, { on := 6, ground := Go.Ground.phase }, { on := 7, ground := Go.Ground.phase }, { on := 8, ground := Go.Ground.phase }, { on := 9, ground := Go.Ground.phase }, { on := 10, ground := Go.Ground.phase }, { on := 11, ground := Go.Ground.phase }, { on := 12, ground := Go.Ground.phase }], guard := none }) (v := ?_) rfl (by kernel_rfl) (by kernel_rfl) (by kernel_rfl) (fun _ _ _ h => h) (Or.inl ⟨by rfl, ?_⟩) (by assumption) ?_
          rotate_left
          · intro W hSw; (try dsimp only at hSw); go_simp; with_reducible rfl
          try simp only [Act.put, List.setIfInBounds_toArray, List.set_cons_zero, List.set_cons_succ]
          refine wpAnyH_ready (rs := [14]) (by kernel_rfl) (by simp) ?_
          refine AllReadyH.cons (o := { dst := none, op := Go.Op.store 23 (Go.Operand.tmp 32) (Go.Operand.tmp 31), type := 0, pos := "ref.go:80", after := #[{ on := 13, ground := Go.Ground.data }, { on := 12, ground := Go.Ground.data }, { on := 12, ground := Go.Ground.chain }, { on := 0, ground := Go.Ground.phase }, { on := 1, ground := Go.Ground.phase }, { on := 2, ground := Go.Ground.phase }, { on := 3, ground := Go.Ground.phase }, { on := 4, ground := Go.Ground.phase }, { on := 5, ground := Go.Ground.phase }, { on := 6, ground := Go.Ground.phase }, { on := 7, ground := Go.Ground.phase }, { on := 8, ground := Go.Ground.phase }, { on := 9, ground := Go.Ground.phase }, { on := 10, ground := Go.Ground.phase }, { on := 11, ground := Go.Ground.phase }, { on := 12, ground := Go.Ground.phase }], guard := none }) rfl (fun K hK => ?_) AllReadyH.nil
          go_simp
          refine hK.out _ _ K6 (fun hHeld => ?_)
          clear hK K
          try simp only [Act.put, List.setIfInBounds_toArray, List.set_cons_zero, List.set_cons_succ]
          refine wpAnyH_done (by kernel_rfl) ?_ _
          have HF := Lib.hid (copy_round HR.out.1 HR.out.2.1 HR.out.2.2.2.2.1 HR.out.2.2.2.2.2.1 HR.out.2.2.1 HR.out.2.2.2.2.2.2.1 HR.out.2.2.2.2.2.2.2 HD.out.2.2.1 (by rw [HD.out.2.2.2.2]; omega) hb3 hb4 hO3 hO4 (by rw [HNM.out.1, HNM.out.2.1, HNM.out.2.2]; exact hown5) hgrow hat)
          clear hown5 hgrow hb3 hb4 hO3 hO4
          go_wp2_with fail
          go_roundw
          case rel =>
            obtain ⟨g1, g2, g3, g4, g5, g6, g7⟩ := HF.out
            exact ⟨j + 1, _, _, _, by omega, by go_num, g1, g2, g3, g4, g5, g6, g7⟩
          case measure => simp [Go.RowKit.intOf]; omega
        refine AllReadyH.cons (o := { dst := some 30, op := Go.Op.buildSlice 23 1 #[(0, Go.Operand.tmp 29)], type := 23, pos := "ref.go:80", after := #[{ on := 10, ground := Go.Ground.data }], guard := none }) rfl (fun K hK => ?_) AllReadyH.nil
        go_simp
        refine hK.out _ _ (K4a _) (fun hHeld => ?_)
        clear hK K
        try simp only [Act.put, List.setIfInBounds_toArray, List.set_cons_zero, List.set_cons_succ]
        refine wpAnyH_ready (rs := [1]) (by kernel_rfl) (by simp) ?_
        refine AllReadyH.cons (o := { dst := some 20, op := Go.Op.load 23 (Go.Operand.tmp 19), type := 23, pos := "ref.go:80", after := #[{ on := 0, ground := Go.Ground.data }], guard := none }) rfl (fun K hK => ?_) AllReadyH.nil
        go_simp
        refine hK.out _ _ hHeld (fun hHeld => ?_)
        clear hK K
        try simp only [Act.put, List.setIfInBounds_toArray, List.set_cons_zero, List.set_cons_succ]
        refine wpAnyH_ready (rs := [12]) (by kernel_rfl) (by simp) ?_
        refine AllReadyH.cons (o := { dst := some 31, op := Go.Op.call { callee := Go.Callee.builtin Go.Builtin.append, args := #[Go.Operand.tmp 20, Go.Operand.tmp 30], argTypes := #[23, 23] }, type := 23, pos := "ref.go:80", after := #[{ on := 1, ground := Go.Ground.data }, { on := 11, ground := Go.Ground.data }, { on := 9, ground := Go.Ground.chain }], guard := none }) rfl (fun K hK => ?_) AllReadyH.nil
        refine step_append_lies (w4.alloc (.cells #[.string nm, .slice q1 (x.F.st j).len c1', .int .i64 bk, .int .i64 bn, .slice q2 (x.F.bt j).len c2'] 52)) rfl (.tmp 20) (.tmp 30) 23 rfl (w.heap.size + 3) 52 j0 (.agg #[.string ⟨#[]⟩, .slice none 0 0, .int .i64 0, .int .i64 0, .slice none 0 0]) 5 80 Tryz.underlying23 hj0 hy0 hy1 hy2 rfl (by decide) (.slice q j c) j vs rfl (hownA _) ⟨w4.heap.size, 0, none⟩ 1 1 [.string nm, .slice q1 (x.F.st j).len c1', .int .i64 bk, .int .i64 bn, .slice q2 (x.F.bt j).len c2'] rfl rfl (World.news_of_block (heap_new _ _)) (one_fn _ _ _ _ _ _ _ _ _) Nat.one_pos hmx hby (base_le _ hz4) (w4.heap.size + 1) (size_new _ _) ?_
        intro g cp w5 hown5 hgrow hat hglt
        have hbx5 := copy_box HLO.out HD.out.2.2.2.2 hb3 hb4 hbx4 hgrow (fun k e => (hOW.out.2 k e).2)
        have K5 := fun_box hbx5
        have K6 := fun_box ((Below.heap_setCell w5 ⟨w.heap.size + 2, 1, none⟩ (.slice (some ⟨g, 0, none⟩) (j + 1) cp) wr.heap.size (copy_ne HR.out.2.2.2.2.2.2.2)).trans hbx5)
        have hbo5 := copy_out hOW.out.2 hbo4 hgrow
        have y5 : w5.cell? ⟨w.heap.size + 1 + 1, 1, none⟩ = some (.slice q j c) := (two_box hbo5).1.2
        have y6 : w5.frozen? ⟨w.heap.size + 1 + 1, 1, none⟩ = false := (two_box hbo5).2.2
        refine hK.out _ _ K5 (fun hHeld => ?_)
        clear hK K
        try simp only [Act.put, List.setIfInBounds_toArray, List.set_cons_zero, List.set_cons_succ]
        refine wpAnyH_take (i := 13) (oi := { dst := some 32, op := Go.Op.fieldAddr 25 (Go.Operand.tmp 3) 1, type := 0, pos := "ref.go:80", after := #[{ on := 0, ground := Go.Ground.phase }, { on := 1, ground := Go.Ground.phase }, { on := 2, ground := Go.Ground.phase }, { on := 3, ground := Go.Ground.phase }, { on := 4, ground := Go.Ground.phase }, { on := 5, ground := Go.Ground.phase }, { on := 6, ground := Go.Ground.phase }, { on := 7, ground := Go.Ground.phase }, { on := 8, ground := Go.Ground.phase }, { on := 9, ground := Go.Ground.phase }, { on := 10, ground := Go.Ground.phase }, { on := 11, ground := Go.Ground.phase }, { on := 12, ground := Go.Ground.phase }], guard := none }) (v := ?_) rfl (by kernel_rfl) (by kernel_rfl) (by kernel_rfl) (fun _ _ _ h => h) (Or.inl ⟨by rfl, ?_⟩) (by assumption) ?_
        rotate_left
        · intro W hSw; (try dsimp only at hSw); go_simp; with_reducible rfl
        try simp only [Act.put, List.setIfInBounds_toArray, List.set_cons_zero, List.set_cons_succ]
        refine wpAnyH_ready (rs := [14]) (by kernel_rfl) (by simp) ?_
        refine AllReadyH.cons (o := { dst := none, op := Go.Op.store 23 (Go.Operand.tmp 32) (Go.Operand.tmp 31), type := 0, pos := "ref.go:80", after := #[{ on := 13, ground := Go.Ground.data }, { on := 12, ground := Go.Ground.data }, { on := 12, ground := Go.Ground.chain }, { on := 0, ground := Go.Ground.phase }, { on := 1, ground := Go.Ground.phase }, { on := 2, ground := Go.Ground.phase }, { on := 3, ground := Go.Ground.phase }, { on := 4, ground := Go.Ground.phase }, { on := 5, ground := Go.Ground.phase }, { on := 6, ground := Go.Ground.phase }, { on := 7, ground := Go.Ground.phase }, { on := 8, ground := Go.Ground.phase }, { on := 9, ground := Go.Ground.phase }, { on := 10, ground := Go.Ground.phase }, { on := 11, ground := Go.Ground.phase }, { on := 12, ground := Go.Ground.phase }], guard := none }) rfl (fun K hK => ?_) AllReadyH.nil
        go_simp
        refine hK.out _ _ K6 (fun hHeld => ?_)
        clear hK K
        try simp only [Act.put, List.setIfInBounds_toArray, List.set_cons_zero, List.set_cons_succ]
        refine wpAnyH_done (by kernel_rfl) ?_ _
        have HF := Lib.hid (copy_round HR.out.1 HR.out.2.1 HR.out.2.2.2.2.1 HR.out.2.2.2.2.2.1 HR.out.2.2.1 HR.out.2.2.2.2.2.2.1 HR.out.2.2.2.2.2.2.2 HD.out.2.2.1 (by rw [HD.out.2.2.2.2]; omega) hb3 hb4 hO3 hO4 (by rw [HNM.out.1, HNM.out.2.1, HNM.out.2.2]; exact hown5) hgrow hat)
        clear hown5 hgrow hb3 hb4 hO3 hO4
        go_wp2_with fail
        go_roundw
        case rel =>
          obtain ⟨g1, g2, g3, g4, g5, g6, g7⟩ := HF.out
          exact ⟨j + 1, _, _, _, by omega, by go_num, g1, g2, g3, g4, g5, g6, g7⟩
        case measure => simp [Go.RowKit.intOf]; omega
      · obtain rfl : j = x.F.len := by omega
        have hIS := isS_own hsy
        have hIF := isF_own hown hcp
        obtain ⟨⟨o0, o1⟩, f0, f1⟩ := two_box hout
        obtain ⟨⟨r0, r1⟩, g0, g1⟩ := two_box hres
        obtain ⟨p1', c1', e, hIS⟩ := hIS
        injection e with e1 e2 e3
        subst e1 e3
        have hfin : Below w.heap.size w ((wr.setCell ⟨w.heap.size + 1, 0, none⟩ (.slice none x.S.len 0)).setCell ⟨w.heap.size + 1, 1, none⟩ (.slice q x.F.len c)) := below_set2 hb (by omega) _ _
        go_wp2_with fail
        have hs := isS_own (sy_set (o := 1) (u := .slice q x.F.len c) (sy_set (o := 0) (u := .slice none x.S.len 0) hsy (b := w.heap.size + 1) (by omega)) (b := w.heap.size + 1) (by omega))
        obtain ⟨p2', c2', e', hIS2⟩ := hs
        injection e' with e1' e2' e3'
        subst e1' e3'
        exact bodyPost_ret (v := .agg #[.slice none x.S.len 0, .slice q x.F.len c]) (by simp [results, Tryz.results34, go_sem, r0, r1]) rfl
          ⟨⟨none, x.S.len, 0, q, x.F.len, c⟩, rfl, ⟨hIS2, isF_own (fn_set (fn_set hown (by omega)) (by omega)) fun i hi => ((hcp i hi).set (by omega)).set (by omega)⟩, hfin⟩
  · have hnews : ∀ j u, (symV x.S)[j]? = some u → w.cell? (ad.add j) = some u := by
      rcases hsr with h0 | ⟨b, off, e, hr⟩
      · intro j u hu
        have := (List.getElem?_eq_some_iff.1 hu).1
        rw [symV_len] at this
        omega
      · injection e with e
        subst e
        exact symV_cells hr
    have HN := Lib.hid hnews
    clear hsr hnews
    go_enter Tryz.func34, Tryz.ntmps34
    go_upto_region 2 with fail
    have hz0' := heap_new2 w (.cells #[.slice (some ad) x.S.len sc, .slice fp x.F.len fc] 25) (.cells #[.slice none 0 0, .slice none 0 0] 25)
    have hbx0 := alloc_kept (alloc_kept (heap_new w (.cells #[.slice (some ad) x.S.len sc, .slice fp x.F.len fc] 25)) (.cells #[.slice none 0 0, .slice none 0 0] 25)) (.cells #[.slice none 0 0, .slice none 0 0] 25)
    have hbx1 := alloc_kept hz0' (.cells #[.slice none 0 0, .slice none 0 0] 25)
    have hbx2 := heap_new ((w.alloc (.cells #[.slice (some ad) x.S.len sc, .slice fp x.F.len fc] 25)).alloc (.cells #[.slice none 0 0, .slice none 0 0] 25)) (.cells #[.slice none 0 0, .slice none 0 0] 25)
    simp only [World.size_alloc] at hbx2
    have hB0 : Below w.heap.size w (((w.alloc (.cells #[.slice (some ad) x.S.len sc, .slice fp x.F.len fc] 25)).alloc (.cells #[.slice none 0 0, .slice none 0 0] 25)).alloc (.cells #[.slice none 0 0, .slice none 0 0] 25)) := (((Below.refl _ _).alloc (Nat.le_refl _) _).alloc (by simp) _).alloc (by simp; omega) _
    have hsz0 : (((w.alloc (.cells #[.slice (some ad) x.S.len sc, .slice fp x.F.len fc] 25)).alloc (.cells #[.slice none 0 0, .slice none 0 0] 25)).alloc (.cells #[.slice none 0 0, .slice none 0 0] 25)).heap.size = w.heap.size + 3 := by simp
    try simp only [World.size_alloc]
    generalize ((w.alloc (.cells #[.slice (some ad) x.S.len sc, .slice fp x.F.len fc] 25)).alloc (.cells #[.slice none 0 0, .slice none 0 0] 25)).alloc (.cells #[.slice none 0 0, .slice none 0 0] 25) = W0 at hbx0 hbx1 hbx2 hB0 hsz0 ⊢
    clear hz0'
    have hnews0 : ∀ j u, (symV x.S)[j]? = some u → W0.cell? (ad.add j) = some u := fun j u hu => by
      have h1 := HN.out j u hu
      exact (hB0.cell (lt_of_cell h1)).trans h1
    obtain ⟨⟨o0, o1⟩, f0, f1⟩ := two_box hbx2
    obtain ⟨⟨t0, t1⟩, _⟩ := two_box hbx0
    have HW0 := Lib.hid (And.intro hbx0 (And.intro hbx1 (And.intro hbx2 (And.intro hB0 hsz0))))
    clear hbx0 hbx1 hbx2 hB0
    go_wp2_with (at_builtin; refine wpList_append_own _ rfl (.tmp 7) (.tmp 9) 22 rfl (w.heap.size + 3) 64 i0 (.agg #[.string ⟨#[]⟩, .int .i64 0]) 2 24 Tryz.underlying22 hi0 hz0 hz1 hz2 rfl (by decide) (.slice none 0 0) 0 [] rfl (World.ownsRow_nil _ _ _ _) ad x.S.len sc (symV x.S) rfl (symV_len x.S) hnews0 (symV_one x.S) (by simp only [maxLen]; omega) (by omega) (by omega) ?_; intro v1 w2 hown hgrow hnil; rw [Nat.zero_add, List.nil_append] at hown; obtain ⟨p1, c1, rfl, _⟩ := isS_own hown; have hbo := (hgrow.block (w.heap.size + 2) (by omega) (by simp [Value.ownBlock])).trans HW0.out.2.2.1; obtain ⟨⟨o2, o3⟩, f2, f3⟩ := two_box hbo; have hbs := (hgrow.block w.heap.size (by omega) (by simp [Value.ownBlock])).trans HW0.out.1; obtain ⟨⟨t2, t3⟩, _⟩ := two_box hbs)
    have hb2 : Below w.heap.size w w2 := HW0.out.2.2.2.1.grown hgrow (by omega) (by simp [Value.ownBlock])
    have hbr := (hgrow.block (w.heap.size + 1) (by omega) (by simp [Value.ownBlock])).trans HW0.out.2.1
    have hout := two_set0 (u := .slice p1 x.S.len c1) hbo
    have hres : (w2.setCell ⟨w.heap.size + 2, 0, none⟩ (.slice p1 x.S.len c1)).heap[w.heap.size + 1]? = some (.cells #[.slice none 0 0, .slice none 0 0] 25 (0, 0)) := (Below.heap_setCell _ _ _ _ (by show w.heap.size + 1 ≠ w.heap.size + 2; omega)).trans hbr
    have hsy := sy_set (o := 0) (u := .slice p1 x.S.len c1) hown (b := w.heap.size + 2) (by omega)
    have hb3 : Below w.heap.size w (w2.setCell ⟨w.heap.size + 2, 0, none⟩ (.slice p1 x.S.len c1)) := hb2.setCell (p := ⟨w.heap.size + 2, 0, none⟩) (by show w.heap.size ≤ w.heap.size + 2; omega) _
    have hlt3 : w.heap.size + 3 ≤ (w2.setCell ⟨w.heap.size + 2, 0, none⟩ (.slice p1 x.S.len c1)).heap.size := by
      have := hgrow.size
      simp [World.setCell]; omega
    have HS := Lib.hid (And.intro hout (And.intro hres (And.intro hsy (And.intro hb3 hlt3))))
    clear hown hgrow hnil hb2 hbr hout hres hsy hb3 hlt3 hbo hbs hnews0
    go_wp2_with fail
    clear o0 o1 f0 f1 t0 t1 o2 o3 f2 f3 t2 t3
    go_loopw [15] (fun v wr => ∃ (j : Nat) (q : Option Addr) (c : Nat) (vs : List Value), j ≤ x.F.len ∧ v = .int .i64 (j : Int) ∧ wr.ownsRow (w.heap.size + 3) 52 5 (.slice q j c) j vs ∧ (∀ i, i < j → CpAt wr (w.heap.size + 3) (.slice q j c) x.F i vs) ∧
        wr.heap[w.heap.size + 2]? = some (.cells #[.slice p1 x.S.len c1, .slice q j c] 25 (0, 0)) ∧ wr.heap[w.heap.size + 1]? = some (.cells #[.slice none 0 0, .slice none 0 0] 25 (0, 0)) ∧
        wr.ownsRow (w.heap.size + 3) 64 2 (.slice p1 x.S.len c1) x.S.len (symV x.S) ∧ Below w.heap.size w wr ∧ w.heap.size + 3 ≤ wr.heap.size)
      (fun v _ => x.F.len - (Go.RowKit.intOf v).toNat)
    case atStart => exact ⟨0, none, 0, [], Nat.zero_le _, rfl, World.ownsRow_nil _ _ _ _, fun i hi => absurd hi (Nat.not_lt_zero _), HS.out.1, HS.out.2.1, HS.out.2.2.1, HS.out.2.2.2.1, HS.out.2.2.2.2⟩
    case round =>
      clear HS HW0
      obtain ⟨j, q, c, vs, hj, rfl, hown, hcp, hout, hres, hsy, hb, hlt3⟩ := hrel
      by_cases hlt : j < x.F.len
      · obtain ⟨b, off, rfl, p, n, c0, r, m, d, e1, e2, e3, e4, e5, hT, hX⟩ := rowF_all (HC.out.below hb).2 hlt
        have hv := HG.out.sort j hlt
        have hsz := HG.out.size j hlt
        have HT := Lib.hid fun W h => copy_any (x.F.st j).nodes (x.F.st j) W p n c0 (Nat.le_refl _) (T.valid_nodes _ hv) h
        have HX := Lib.hid fun W h => tcopy_any ((x.F.bt j).sz + 1) (x.F.bt j) (x.F.bk j) (x.F.bn j) W r m d (Nat.lt_succ_self _) (by omega) h
        obtain ⟨W1, hW1⟩ : ∃ W1, (wr.alloc (.cells #[.string (x.F.nm j), .slice p n c0, .int .i64 (x.F.bk j), .int .i64 (x.F.bn j), .slice r m d] 52)).drew = W1 := ⟨_, rfl⟩
        have hbw : Below wr.heap.size wr W1 := by rw [← hW1]; exact below_drewN ((Below.refl _ _).alloc (Nat.le_refl _) _) 1
        have hbx : W1.heap[wr.heap.size]? = some (.cells #[.string (x.F.nm j), .slice p n c0, .int .i64 (x.F.bk j), .int .i64 (x.F.bn j), .slice r m d] 52 (0, 0)) := by rw [← hW1]; exact heap_new _ _
        have hs1 : W1.heap.size = wr.heap.size + 1 := by rw [← hW1]; simp
        have hown1 := owns_later hown hbw
        have hB1 := hb.trans (hbw.mono hb.size)
        obtain ⟨⟨o0, o1⟩, f0, f1⟩ := two_box (box3_later hbw hout)
        have HR := Lib.hid (And.intro hown (And.intro hcp (And.intro hsy (And.intro (box3_later hbw hout) (And.intro hout (And.intro hres (And.intro hb hlt3)))))))
        have HD := Lib.hid (And.intro (hT.below hbw) (And.intro (hX.below hbw) (And.intro hbw (And.intro hbx hs1))))
        have K0 := fun_box hbx
        have hlo := hown1.lt
        have HLO := Lib.hid hlo
        have hOW := Lib.hid (And.intro hown1 hown.lt)
        clear hT hX hbw hbx hown hcp hsy hout hres hb hB1 hlo hown1
        generalize hnm : x.F.nm j = nm at e1 K0 HD hW1
        generalize hbk : x.F.bk j = bk at e3 K0 HX HD hW1
        generalize hbn : x.F.bn j = bn at e4 K0 HX HD hW1
        have HNM := Lib.hid (And.intro hnm (And.intro hbk hbn))
        subst hW1
        have hmx : j + 1 ≤ maxLen := by simp only [maxLen]; omega
        have hby : (j + 1) * 80 ≤ 140737488355328 := by omega
        go_upto_region 6 with fail
        refine wp_region_held_drew (S := (fun W => W.cell? ⟨wr.heap.size, 0, none⟩ = some (.string nm) ∧ W.cell? ⟨wr.heap.size, 1, none⟩ = some (.slice p n c0) ∧ W.cell? ⟨wr.heap.size, 2, none⟩ = some (.int .i64 bk) ∧ W.cell? ⟨wr.heap.size, 2 + 1, none⟩ = some (.int .i64 bn) ∧ W.cell? ⟨wr.heap.size, 2 + 2, none⟩ = some (.slice r m d))) (by kernel_rfl) K0 (fun hHeld => ?_)
        have y1 : ((wr.alloc (.cells #[.string nm, .slice p n c0, .int .i64 bk, .int .i64 bn, .slice r m d] 52)).drew).cell? ⟨w.heap.size + 1 + 1, 1, none⟩ = some (.slice q j c) := (two_box HR.out.2.2.2.1).1.2
        refine wpAnyH_take (i := 0) (oi := { dst := some 19, op := Go.Op.fieldAddr 25 (Go.Operand.tmp 3) 1, type := 0, pos := "ref.go:80", after := #[], guard := none }) (v := ?_) rfl (by kernel_rfl) (by kernel_rfl) (by kernel_rfl) (fun _ _ _ h => h) (Or.inl ⟨by rfl, ?_⟩) (by assumption) ?_
        rotate_left
        · intro W hSw; (try dsimp only at hSw); go_simp; with_reducible rfl
        try simp only [Act.put, List.setIfInBounds_toArray, List.set_cons_zero, List.set_cons_succ]
        refine wpAnyH_take (i := 2) (oi := { dst := some 21, op := Go.Op.fieldAddr 52 (Go.Operand.tmp 5) 0, type := 0, pos := "ref.go:80", after := #[], guard := none }) (v := ?_) rfl (by kernel_rfl) (by kernel_rfl) (by kernel_rfl) (fun _ _ _ h => h) (Or.inl ⟨by rfl, ?_⟩) (by assumption) ?_
        rotate_left
        · intro W hSw; (try dsimp only at hSw); go_simp; with_reducible rfl
        try simp only [Act.put, List.setIfInBounds_toArray, List.set_cons_zero, List.set_cons_succ]
        refine wpAnyH_take (i := 3) (oi := { dst := some 22, op := Go.Op.load 9 (Go.Operand.tmp 21), type := 9, pos := "ref.go:80", after := #[{ on := 2, ground := Go.Ground.data }], guard := none }) (v := ?_) rfl (by kernel_rfl) (by kernel_rfl) (by kernel_rfl) (fun _ _ _ h => h) (Or.inl ⟨by rfl, ?_⟩) (by assumption) ?_
        rotate_left
        · intro W hSw; (try dsimp only at hSw); go_simp; with_reducible rfl
        try simp only [Act.put, List.setIfInBounds_toArray, List.set_cons_zero, List.set_cons_succ]
        refine wpAnyH_take (i := 4) (oi := { dst := some 23, op := Go.Op.fieldAddr 52 (Go.Operand.tmp 5) 1, type := 0, pos := "ref.go:80", after := #[], guard := none }) (v := ?_) rfl (by kernel_rfl) (by kernel_rfl) (by kernel_rfl) (fun _ _ _ h => h) (Or.inl ⟨by rfl, ?_⟩) (by assumption) ?_
        rotate_left
        · intro W hSw; (try dsimp only at hSw); go_simp; with_reducible rfl
        try simp only [Act.put, List.setIfInBounds_toArray, List.set_cons_zero, List.set_cons_succ]
        refine wpAnyH_take (i := 5) (oi := { dst := some 24, op := Go.Op.load 47 (Go.Operand.tmp 23), type := 47, pos := "ref.go:80", after := #[{ on := 4, ground := Go.Ground.data }], guard := none }) (v := ?_) rfl (by kernel_rfl) (by kernel_rfl) (by kernel_rfl) (fun _ _ _ h => h) (Or.inl ⟨by rfl, ?_⟩) (by assumption) ?_
        rotate_left
        · intro W hSw; (try dsimp only at hSw); go_simp; with_reducible rfl
        try simp only [Act.put, List.setIfInBounds_toArray, List.set_cons_zero, List.set_cons_succ]
        refine wpAnyH_take (i := 7) (oi := { dst := some 26, op := Go.Op.fieldAddr 52 (Go.Operand.tmp 5) 2, type := 0, pos := "ref.go:80", after := #[], guard := none }) (v := ?_) rfl (by kernel_rfl) (by kernel_rfl) (by kernel_rfl) (fun _ _ _ h => h) (Or.inl ⟨by rfl, ?_⟩) (by assumption) ?_
        rotate_left
        · intro W hSw; (try dsimp only at hSw); go_simp; with_reducible rfl
        try simp only [Act.put, List.setIfInBounds_toArray, List.set_cons_zero, List.set_cons_succ]
        refine wpAnyH_take (i := 8) (oi := { dst := some 27, op := Go.Op.load 50 (Go.Operand.tmp 26), type := 50, pos := "ref.go:80", after := #[{ on := 7, ground := Go.Ground.data }], guard := none }) (v := ?_) rfl (by kernel_rfl) (by kernel_rfl) (by kernel_rfl) (fun _ _ _ h => h) (Or.inl ⟨by rfl, ?_⟩) (by assumption) ?_
        rotate_left
        · intro W hSw; (try dsimp only at hSw); go_simp; with_reducible rfl
        try simp only [Act.put, List.setIfInBounds_toArray, List.set_cons_zero, List.set_cons_succ]
        refine wpAnyH_ready (rs := [1, 6]) (by kernel_rfl) (by simp) ?_
        refine AllReadyH.cons (o := { dst := some 20, op := Go.Op.load 23 (Go.Operand.tmp 19), type := 23, pos := "ref.go:80", after := #[{ on := 0, ground := Go.Ground.data }], guard := none }) rfl (fun K hK => ?_) ?_
        · go_simp
          refine hK.out _ _ hHeld (fun hHeld => ?_)
          clear hK K
          try simp only [Act.put, List.setIfInBounds_toArray, List.set_cons_zero, List.set_cons_succ]
          refine wpAnyH_ready (rs := [6]) (by kernel_rfl) (by simp) ?_
          refine AllReadyH.cons (o := { dst := some 25, op := Go.Op.call { callee := Go.Callee.value (Go.Operand.func 74), args := #[Go.Operand.tmp 24], argTypes := #[47] }, type := 47, pos := "ref.go:80", after := #[{ on := 5, ground := Go.Ground.data }], guard := none }) rfl (fun K hK => ?_) AllReadyH.nil
          go_simp
          go_at_call 74
          refine (HT.out _ HD.out.1).mono ?_
          rintro e w3 ⟨q1, c1', rfl, hO3, hb3⟩
          have K3 := fun_box (box3_later hb3 HD.out.2.2.2.1)
          have hbo3 := box3_later hb3 HR.out.2.2.2.1
          have y3 : w3.cell? ⟨w.heap.size + 1 + 1, 1, none⟩ = some (.slice q j c) := (two_box hbo3).1.2
          go_wp2_with fail
          refine hK.out _ _ K3 (fun hHeld => ?_)
          clear hK K
          try simp only [Act.put, List.setIfInBounds_toArray, List.set_cons_zero, List.set_cons_succ]
          refine wpAnyH_ready (rs := [9]) (by kernel_rfl) (by simp) ?_
          refine AllReadyH.cons (o := { dst := some 28, op := Go.Op.call { callee := Go.Callee.value (Go.Operand.func 75), args := #[Go.Operand.tmp 27], argTypes := #[50] }, type := 50, pos := "ref.go:80", after := #[{ on := 8, ground := Go.Ground.data }, { on := 6, ground := Go.Ground.chain }], guard := none }) rfl (fun K hK => ?_) AllReadyH.nil
          go_simp
          go_at_call 75
          refine (HX.out _ (HD.out.2.1.below hb3)).mono ?_
          rintro e w4 ⟨q2, c2', rfl, hO4, hb4⟩
          have hbx4 := box3_later hb4 (box3_later hb3 HD.out.2.2.2.1)
          have K4 := fun_box hbx4
          have K4a := fun o => fun_box (alloc_kept hbx4 o)
          have hbo4 := box3_later hb4 hbo3
          have y4 : w4.cell? ⟨w.heap.size + 1 + 1, 1, none⟩ = some (.slice q j c) := (two_box hbo4).1.2
          have y4a : ∀ o, (w4.alloc o).cell? ⟨w.heap.size + 1 + 1, 1, none⟩ = some (.slice q j c) := fun o => (two_box (alloc_kept hbo4 o)).1.2
          have hownA := fun o => (owns_later (owns_later hOW.out.1 hb3) hb4).alloc o
          have hz4 : w.heap.size + 3 ≤ w4.heap.size := copy_le HR.out.2.2.2.2.2.2.2 HD.out.2.2.2.2 hb3 hb4
          go_wp2_with fail
          refine hK.out _ _ K4 (fun hHeld => ?_)
          clear hK K
          try simp only [Act.put, List.setIfInBounds_toArray, List.set_cons_zero, List.set_cons_succ]
          refine wpAnyH_take (i := 10) (oi := { dst := some 29, op := Go.Op.build 52 #[(0, Go.Operand.tmp 22), (1, Go.Operand.tmp 25), (2, Go.Operand.tmp 28)], type := 52, pos := "ref.go:80", after := #[{ on := 3, ground := Go.Ground.data }, { on := 6, ground := Go.Ground.data }, { on := 9, ground := Go.Ground.data }], guard := none }) (v := ?_) rfl (by kernel_rfl) (by kernel_rfl) (by kernel_rfl) (fun _ _ _ h => h) (Or.inl ⟨by rfl, ?_⟩) (by assumption) ?_
          rotate_left
          · intro W hSw; (try dsimp only at hSw); go_simp; with_reducible rfl
          try simp only [Act.put, List.setIfInBounds_toArray, List.set_cons_zero, List.set_cons_succ]
          refine wpAnyH_ready (rs := [11]) (by kernel_rfl) (by simp) ?_
          refine AllReadyH.cons (o := { dst := some 30, op := Go.Op.buildSlice 23 1 #[(0, Go.Operand.tmp 29)], type := 23, pos := "ref.go:80", after := #[{ on := 10, ground := Go.Ground.data }], guard := none }) rfl (fun K hK => ?_) AllReadyH.nil
          go_simp
          refine hK.out _ _ (K4a _) (fun hHeld => ?_)
          clear hK K
          try simp only [Act.put, List.setIfInBounds_toArray, List.set_cons_zero, List.set_cons_succ]
          refine wpAnyH_ready (rs := [12]) (by kernel_rfl) (by simp) ?_
          refine AllReadyH.cons (o := { dst := some 31, op := Go.Op.call { callee := Go.Callee.builtin Go.Builtin.append, args := #[Go.Operand.tmp 20, Go.Operand.tmp 30], argTypes := #[23, 23] }, type := 23, pos := "ref.go:80", after := #[{ on := 1, ground := Go.Ground.data }, { on := 11, ground := Go.Ground.data }, { on := 9, ground := Go.Ground.chain }], guard := none }) rfl (fun K hK => ?_) AllReadyH.nil
          refine step_append_lies (w4.alloc (.cells #[.string nm, .slice q1 (x.F.st j).len c1', .int .i64 bk, .int .i64 bn, .slice q2 (x.F.bt j).len c2'] 52)) rfl (.tmp 20) (.tmp 30) 23 rfl (w.heap.size + 3) 52 j0 (.agg #[.string ⟨#[]⟩, .slice none 0 0, .int .i64 0, .int .i64 0, .slice none 0 0]) 5 80 Tryz.underlying23 hj0 hy0 hy1 hy2 rfl (by decide) (.slice q j c) j vs rfl (hownA _) ⟨w4.heap.size, 0, none⟩ 1 1 [.string nm, .slice q1 (x.F.st j).len c1', .int .i64 bk, .int .i64 bn, .slice q2 (x.F.bt j).len c2'] rfl rfl (World.news_of_block (heap_new _ _)) (one_fn _ _ _ _ _ _ _ _ _) Nat.one_pos hmx hby (base_le _ hz4) (w4.heap.size + 1) (size_new _ _) ?_
          intro g cp w5 hown5 hgrow hat hglt
          have hbx5 := copy_box HLO.out HD.out.2.2.2.2 hb3 hb4 hbx4 hgrow (fun k e => (hOW.out.2 k e).2)
          have K5 := fun_box hbx5
          have K6 := fun_box ((Below.heap_setCell w5 ⟨w.heap.size + 2, 1, none⟩ (.slice (some ⟨g, 0, none⟩) (j + 1) cp) wr.heap.size (copy_ne HR.out.2.2.2.2.2.2.2)).trans hbx5)
          have hbo5 := copy_out hOW.out.2 hbo4 hgrow
          have y5 : w5.cell? ⟨w.heap.size + 1 + 1, 1, none⟩ = some (.slice q j c) := (two_box hbo5).1.2
          have y6 : w5.frozen? ⟨w.heap.size + 1 + 1, 1, none⟩ = false := (two_box hbo5).2.2
          refine hK.out _ _ K5 (fun hHeld => ?_)
          clear hK K
          try simp only [Act.put, List.setIfInBounds_toArray, List.set_cons_zero, List.set_cons_succ]
          refine wpAnyH_take (i := 13) (oi := { dst := some 32, op := Go.Op.fieldAddr 25 (Go.Operand.tmp 3) 1, type := 0, pos := "ref.go:80", after := #[{ on := 0, ground := Go.Ground.phase }, { on := 1, ground := Go.Ground.phase }, { on := 2, ground := Go.Ground.phase }, { on := 3, ground := Go.Ground.phase }, { on := 4, ground := Go.Ground.phase }, { on := 5, ground := Go.Ground.phase }, { on := 6, ground := Go.Ground.phase }, { on := 7, ground := Go.Ground.phase }, { on := 8, ground := Go.Ground.phase }, { on := 9, ground := Go.Ground.phase }, { on := 10, ground := Go.Ground.phase }, { on := 11, ground := Go.Ground.phase }, { on := 12, ground := Go.Ground.phase }], guard := none }) (v := ?_) rfl (by kernel_rfl) (by kernel_rfl) (by kernel_rfl) (fun _ _ _ h => h) (Or.inl ⟨by rfl, ?_⟩) (by assumption) ?_
          rotate_left
          · intro W hSw; (try dsimp only at hSw); go_simp; with_reducible rfl
          try simp only [Act.put, List.setIfInBounds_toArray, List.set_cons_zero, List.set_cons_succ]
          refine wpAnyH_ready (rs := [14]) (by kernel_rfl) (by simp) ?_
          refine AllReadyH.cons (o := { dst := none, op := Go.Op.store 23 (Go.Operand.tmp 32) (Go.Operand.tmp 31), type := 0, pos := "ref.go:80", after := #[{ on := 13, ground := Go.Ground.data }, { on := 12, ground := Go.Ground.data }, { on := 12, ground := Go.Ground.chain }, { on := 0, ground := Go.Ground.phase }, { on := 1, ground := Go.Ground.phase }, { on := 2, ground := Go.Ground.phase }, { on := 3, ground := Go.Ground.phase }, { on := 4, ground := Go.Ground.phase }, { on := 5, ground := Go.Ground.phase }, { on := 6, ground := Go.Ground.phase }, { on := 7, ground := Go.Ground.phase }, { on := 8, ground := Go.Ground.phase }, { on := 9, ground := Go.Ground.phase }, { on := 10, ground := Go.Ground.phase }, { on := 11, ground := Go.Ground.phase }, { on := 12, ground := Go.Ground.phase }], guard := none }) rfl (fun K hK => ?_) AllReadyH.nil
          go_simp
          refine hK.out _ _ K6 (fun hHeld => ?_)
          clear hK K
          try simp only [Act.put, List.setIfInBounds_toArray, List.set_cons_zero, List.set_cons_succ]
          refine wpAnyH_done (by kernel_rfl) ?_ _
          have HF := Lib.hid (copy_round HR.out.1 HR.out.2.1 HR.out.2.2.2.2.1 HR.out.2.2.2.2.2.1 HR.out.2.2.1 HR.out.2.2.2.2.2.2.1 HR.out.2.2.2.2.2.2.2 HD.out.2.2.1 (by rw [HD.out.2.2.2.2]; omega) hb3 hb4 hO3 hO4 (by rw [HNM.out.1, HNM.out.2.1, HNM.out.2.2]; exact hown5) hgrow hat)
          clear hown5 hgrow hb3 hb4 hO3 hO4
          go_wp2_with fail
          go_roundw
          case rel =>
            obtain ⟨g1, g2, g3, g4, g5, g6, g7⟩ := HF.out
            exact ⟨j + 1, _, _, _, by omega, by go_num, g1, g2, g3, g4, g5, g6, g7⟩
          case measure => simp [Go.RowKit.intOf]; omega
        refine AllReadyH.cons (o := { dst := some 25, op := Go.Op.call { callee := Go.Callee.value (Go.Operand.func 74), args := #[Go.Operand.tmp 24], argTypes := #[47] }, type := 47, pos := "ref.go:80", after := #[{ on := 5, ground := Go.Ground.data }], guard := none }) rfl (fun K hK => ?_) AllReadyH.nil
        go_simp
        go_at_call 74
        refine (HT.out _ HD.out.1).mono ?_
        rintro e w3 ⟨q1, c1', rfl, hO3, hb3⟩
        have K3 := fun_box (box3_later hb3 HD.out.2.2.2.1)
        have hbo3 := box3_later hb3 HR.out.2.2.2.1
        have y3 : w3.cell? ⟨w.heap.size + 1 + 1, 1, none⟩ = some (.slice q j c) := (two_box hbo3).1.2
        go_wp2_with fail
        refine hK.out _ _ K3 (fun hHeld => ?_)
        clear hK K
        try simp only [Act.put, List.setIfInBounds_toArray, List.set_cons_zero, List.set_cons_succ]
        refine wpAnyH_ready (rs := [1, 9]) (by kernel_rfl) (by simp) ?_
        refine AllReadyH.cons (o := { dst := some 20, op := Go.Op.load 23 (Go.Operand.tmp 19), type := 23, pos := "ref.go:80", after := #[{ on := 0, ground := Go.Ground.data }], guard := none }) rfl (fun K hK => ?_) ?_
        · go_simp
          refine hK.out _ _ hHeld (fun hHeld => ?_)
          clear hK K
          try simp only [Act.put, List.setIfInBounds_toArray, List.set_cons_zero, List.set_cons_succ]
          refine wpAnyH_ready (rs := [9]) (by kernel_rfl) (by simp) ?_
          refine AllReadyH.cons (o := { dst := some 28, op := Go.Op.call { callee := Go.Callee.value (Go.Operand.func 75), args := #[Go.Operand.tmp 27], argTypes := #[50] }, type := 50, pos := "ref.go:80", after := #[{ on := 8, ground := Go.Ground.data }, { on := 6, ground := Go.Ground.chain }], guard := none }) rfl (fun K hK => ?_) AllReadyH.nil
          go_simp
          go_at_call 75
          refine (HX.out _ (HD.out.2.1.below hb3)).mono ?_
          rintro e w4 ⟨q2, c2', rfl, hO4, hb4⟩
          have hbx4 := box3_later hb4 (box3_later hb3 HD.out.2.2.2.1)
          have K4 := fun_box hbx4
          have K4a := fun o => fun_box (alloc_kept hbx4 o)
          have hbo4 := box3_later hb4 hbo3
          have y4 : w4.cell? ⟨w.heap.size + 1 + 1, 1, none⟩ = some (.slice q j c) := (two_box hbo4).1.2
          have y4a : ∀ o, (w4.alloc o).cell? ⟨w.heap.size + 1 + 1, 1, none⟩ = some (.slice q j c) := fun o => (two_box (alloc_kept hbo4 o)).1.2
          have hownA := fun o => (owns_later (owns_later hOW.out.1 hb3) hb4).alloc o
          have hz4 : w.heap.size + 3 ≤ w4.heap.size := copy_le HR.out.2.2.2.2.2.2.2 HD.out.2.2.2.2 hb3 hb4
          go_wp2_with fail
          refine hK.out _ _ K4 (fun hHeld => ?_)
          clear hK K
          try simp only [Act.put, List.setIfInBounds_toArray, List.set_cons_zero, List.set_cons_succ]
          refine wpAnyH_take (i := 10) (oi := { dst := some 29, op := Go.Op.build 52 #[(0, Go.Operand.tmp 22), (1, Go.Operand.tmp 25), (2, Go.Operand.tmp 28)], type := 52, pos := "ref.go:80", after := #[{ on := 3, ground := Go.Ground.data }, { on := 6, ground := Go.Ground.data }, { on := 9, ground := Go.Ground.data }], guard := none }) (v := ?_) rfl (by kernel_rfl) (by kernel_rfl) (by kernel_rfl) (fun _ _ _ h => h) (Or.inl ⟨by rfl, ?_⟩) (by assumption) ?_
          rotate_left
          · intro W hSw; (try dsimp only at hSw); go_simp; with_reducible rfl
          try simp only [Act.put, List.setIfInBounds_toArray, List.set_cons_zero, List.set_cons_succ]
          refine wpAnyH_ready (rs := [11]) (by kernel_rfl) (by simp) ?_
          refine AllReadyH.cons (o := { dst := some 30, op := Go.Op.buildSlice 23 1 #[(0, Go.Operand.tmp 29)], type := 23, pos := "ref.go:80", after := #[{ on := 10, ground := Go.Ground.data }], guard := none }) rfl (fun K hK => ?_) AllReadyH.nil
          go_simp
          refine hK.out _ _ (K4a _) (fun hHeld => ?_)
          clear hK K
          try simp only [Act.put, List.setIfInBounds_toArray, List.set_cons_zero, List.set_cons_succ]
          refine wpAnyH_ready (rs := [12]) (by kernel_rfl) (by simp) ?_
          refine AllReadyH.cons (o := { dst := some 31, op := Go.Op.call { callee := Go.Callee.builtin Go.Builtin.append, args := #[Go.Operand.tmp 20, Go.Operand.tmp 30], argTypes := #[23, 23] }, type := 23, pos := "ref.go:80", after := #[{ on := 1, ground := Go.Ground.data }, { on := 11, ground := Go.Ground.data }, { on := 9, ground := Go.Ground.chain }], guard := none }) rfl (fun K hK => ?_) AllReadyH.nil
          refine step_append_lies (w4.alloc (.cells #[.string nm, .slice q1 (x.F.st j).len c1', .int .i64 bk, .int .i64 bn, .slice q2 (x.F.bt j).len c2'] 52)) rfl (.tmp 20) (.tmp 30) 23 rfl (w.heap.size + 3) 52 j0 (.agg #[.string ⟨#[]⟩, .slice none 0 0, .int .i64 0, .int .i64 0, .slice none 0 0]) 5 80 Tryz.underlying23 hj0 hy0 hy1 hy2 rfl (by decide) (.slice q j c) j vs rfl (hownA _) ⟨w4.heap.size, 0, none⟩ 1 1 [.string nm, .slice q1 (x.F.st j).len c1', .int .i64 bk, .int .i64 bn, .slice q2 (x.F.bt j).len c2'] rfl rfl (World.news_of_block (heap_new _ _)) (one_fn _ _ _ _ _ _ _ _ _) Nat.one_pos hmx hby (base_le _ hz4) (w4.heap.size + 1) (size_new _ _) ?_
          intro g cp w5 hown5 hgrow hat hglt
          have hbx5 := copy_box HLO.out HD.out.2.2.2.2 hb3 hb4 hbx4 hgrow (fun k e => (hOW.out.2 k e).2)
          have K5 := fun_box hbx5
          have K6 := fun_box ((Below.heap_setCell w5 ⟨w.heap.size + 2, 1, none⟩ (.slice (some ⟨g, 0, none⟩) (j + 1) cp) wr.heap.size (copy_ne HR.out.2.2.2.2.2.2.2)).trans hbx5)
          have hbo5 := copy_out hOW.out.2 hbo4 hgrow
          have y5 : w5.cell? ⟨w.heap.size + 1 + 1, 1, none⟩ = some (.slice q j c) := (two_box hbo5).1.2
          have y6 : w5.frozen? ⟨w.heap.size + 1 + 1, 1, none⟩ = false := (two_box hbo5).2.2
          refine hK.out _ _ K5 (fun hHeld => ?_)
          clear hK K
          try simp only [Act.put, List.setIfInBounds_toArray, List.set_cons_zero, List.set_cons_succ]
          refine wpAnyH_take (i := 13) (oi := { dst := some 32, op := Go.Op.fieldAddr 25 (Go.Operand.tmp 3) 1, type := 0, pos := "ref.go:80", after := #[{ on := 0, ground := Go.Ground.phase }, { on := 1, ground := Go.Ground.phase }, { on := 2, ground := Go.Ground.phase }, { on := 3, ground := Go.Ground.phase }, { on := 4, ground := Go.Ground.phase }, { on := 5, ground := Go.Ground.phase }, { on := 6, ground := Go.Ground.phase }, { on := 7, ground := Go.Ground.phase }, { on := 8, ground := Go.Ground.phase }, { on := 9, ground := Go.Ground.phase }, { on := 10, ground := Go.Ground.phase }, { on := 11, ground := Go.Ground.phase }, { on := 12, ground := Go.Ground.phase }], guard := none }) (v := ?_) rfl (by kernel_rfl) (by kernel_rfl) (by kernel_rfl) (fun _ _ _ h => h) (Or.inl ⟨by rfl, ?_⟩) (by assumption) ?_
          rotate_left
          · intro W hSw; (try dsimp only at hSw); go_simp; with_reducible rfl
          try simp only [Act.put, List.setIfInBounds_toArray, List.set_cons_zero, List.set_cons_succ]
          refine wpAnyH_ready (rs := [14]) (by kernel_rfl) (by simp) ?_
          refine AllReadyH.cons (o := { dst := none, op := Go.Op.store 23 (Go.Operand.tmp 32) (Go.Operand.tmp 31), type := 0, pos := "ref.go:80", after := #[{ on := 13, ground := Go.Ground.data }, { on := 12, ground := Go.Ground.data }, { on := 12, ground := Go.Ground.chain }, { on := 0, ground := Go.Ground.phase }, { on := 1, ground := Go.Ground.phase }, { on := 2, ground := Go.Ground.phase }, { on := 3, ground := Go.Ground.phase }, { on := 4, ground := Go.Ground.phase }, { on := 5, ground := Go.Ground.phase }, { on := 6, ground := Go.Ground.phase }, { on := 7, ground := Go.Ground.phase }, { on := 8, ground := Go.Ground.phase }, { on := 9, ground := Go.Ground.phase }, { on := 10, ground := Go.Ground.phase }, { on := 11, ground := Go.Ground.phase }, { on := 12, ground := Go.Ground.phase }], guard := none }) rfl (fun K hK => ?_) AllReadyH.nil
          go_simp
          refine hK.out _ _ K6 (fun hHeld => ?_)
          clear hK K
          try simp only [Act.put, List.setIfInBounds_toArray, List.set_cons_zero, List.set_cons_succ]
          refine wpAnyH_done (by kernel_rfl) ?_ _
          have HF := Lib.hid (copy_round HR.out.1 HR.out.2.1 HR.out.2.2.2.2.1 HR.out.2.2.2.2.2.1 HR.out.2.2.1 HR.out.2.2.2.2.2.2.1 HR.out.2.2.2.2.2.2.2 HD.out.2.2.1 (by rw [HD.out.2.2.2.2]; omega) hb3 hb4 hO3 hO4 (by rw [HNM.out.1, HNM.out.2.1, HNM.out.2.2]; exact hown5) hgrow hat)
          clear hown5 hgrow hb3 hb4 hO3 hO4
          go_wp2_with fail
          go_roundw
          case rel =>
            obtain ⟨g1, g2, g3, g4, g5, g6, g7⟩ := HF.out
            exact ⟨j + 1, _, _, _, by omega, by go_num, g1, g2, g3, g4, g5, g6, g7⟩
          case measure => simp [Go.RowKit.intOf]; omega
        refine AllReadyH.cons (o := { dst := some 28, op := Go.Op.call { callee := Go.Callee.value (Go.Operand.func 75), args := #[Go.Operand.tmp 27], argTypes := #[50] }, type := 50, pos := "ref.go:80", after := #[{ on := 8, ground := Go.Ground.data }, { on := 6, ground := Go.Ground.chain }], guard := none }) rfl (fun K hK => ?_) AllReadyH.nil
        go_simp
        go_at_call 75
        refine (HX.out _ (HD.out.2.1.below hb3)).mono ?_
        rintro e w4 ⟨q2, c2', rfl, hO4, hb4⟩
        have hbx4 := box3_later hb4 (box3_later hb3 HD.out.2.2.2.1)
        have K4 := fun_box hbx4
        have K4a := fun o => fun_box (alloc_kept hbx4 o)
        have hbo4 := box3_later hb4 hbo3
        have y4 : w4.cell? ⟨w.heap.size + 1 + 1, 1, none⟩ = some (.slice q j c) := (two_box hbo4).1.2
        have y4a : ∀ o, (w4.alloc o).cell? ⟨w.heap.size + 1 + 1, 1, none⟩ = some (.slice q j c) := fun o => (two_box (alloc_kept hbo4 o)).1.2
        have hownA := fun o => (owns_later (owns_later hOW.out.1 hb3) hb4).alloc o
        have hz4 : w.heap.size + 3 ≤ w4.heap.size := copy_le HR.out.2.2.2.2.2.2.2 HD.out.2.2.2.2 hb3 hb4
        go_wp2_with fail
        refine hK.out _ _ K4 (fun hHeld => ?_)
        clear hK K
        try simp only [Act.put, List.setIfInBounds_toArray, List.set_cons_zero, List.set_cons_succ]
        refine wpAnyH_take (i := 10) (oi := { dst := some 29, op := Go.Op.build 52 #[(0, Go.Operand.tmp 22), (1, Go.Operand.tmp 25), (2, Go.Operand.tmp 28)], type := 52, pos := "ref.go:80", after := #[{ on := 3, ground := Go.Ground.data }, { on := 6, ground := Go.Ground.data }, { on := 9, ground := Go.Ground.data }], guard := none }) (v := ?_) rfl (by kernel_rfl) (by kernel_rfl) (by kernel_rfl) (fun _ _ _ h => h) (Or.inl ⟨by rfl, ?_⟩) (by assumption) ?_
        rotate_left
        · intro W hSw; (try dsimp only at hSw); go_simp; with_reducible rfl
        try simp only [Act.put, List.setIfInBounds_toArray, List.set_cons_zero, List.set_cons_succ]
        refine wpAnyH_ready (rs := [1, 11]) (by kernel_rfl) (by simp) ?_
        refine AllReadyH.cons (o := { dst := some 20, op := Go.Op.load 23 (Go.Operand.tmp 19), type := 23, pos := "ref.go:80", after := #[{ on := 0, ground := Go.Ground.data }], guard := none }) rfl (fun K hK => ?_) ?_
        · go_simp
          refine hK.out _ _ hHeld (fun hHeld => ?_)
          clear hK K
          try simp only [Act.put, List.setIfInBounds_toArray, List.set_cons_zero, List.set_cons_succ]
          refine wpAnyH_ready (rs := [11]) (by kernel_rfl) (by simp) ?_
          refine AllReadyH.cons (o := { dst := some 30, op := Go.Op.buildSlice 23 1 #[(0, Go.Operand.tmp 29)], type := 23, pos := "ref.go:80", after := #[{ on := 10, ground := Go.Ground.data }], guard := none }) rfl (fun K hK => ?_) AllReadyH.nil
          go_simp
          refine hK.out _ _ (K4a _) (fun hHeld => ?_)
          clear hK K
          try simp only [Act.put, List.setIfInBounds_toArray, List.set_cons_zero, List.set_cons_succ]
          refine wpAnyH_ready (rs := [12]) (by kernel_rfl) (by simp) ?_
          refine AllReadyH.cons (o := { dst := some 31, op := Go.Op.call { callee := Go.Callee.builtin Go.Builtin.append, args := #[Go.Operand.tmp 20, Go.Operand.tmp 30], argTypes := #[23, 23] }, type := 23, pos := "ref.go:80", after := #[{ on := 1, ground := Go.Ground.data }, { on := 11, ground := Go.Ground.data }, { on := 9, ground := Go.Ground.chain }], guard := none }) rfl (fun K hK => ?_) AllReadyH.nil
          refine step_append_lies (w4.alloc (.cells #[.string nm, .slice q1 (x.F.st j).len c1', .int .i64 bk, .int .i64 bn, .slice q2 (x.F.bt j).len c2'] 52)) rfl (.tmp 20) (.tmp 30) 23 rfl (w.heap.size + 3) 52 j0 (.agg #[.string ⟨#[]⟩, .slice none 0 0, .int .i64 0, .int .i64 0, .slice none 0 0]) 5 80 Tryz.underlying23 hj0 hy0 hy1 hy2 rfl (by decide) (.slice q j c) j vs rfl (hownA _) ⟨w4.heap.size, 0, none⟩ 1 1 [.string nm, .slice q1 (x.F.st j).len c1', .int .i64 bk, .int .i64 bn, .slice q2 (x.F.bt j).len c2'] rfl rfl (World.news_of_block (heap_new _ _)) (one_fn _ _ _ _ _ _ _ _ _) Nat.one_pos hmx hby (base_le _ hz4) (w4.heap.size + 1) (size_new _ _) ?_
          intro g cp w5 hown5 hgrow hat hglt
          have hbx5 := copy_box HLO.out HD.out.2.2.2.2 hb3 hb4 hbx4 hgrow (fun k e => (hOW.out.2 k e).2)
          have K5 := fun_box hbx5
          have K6 := fun_box ((Below.heap_setCell w5 ⟨w.heap.size + 2, 1, none⟩ (.slice (some ⟨g, 0, none⟩) (j + 1) cp) wr.heap.size (copy_ne HR.out.2.2.2.2.2.2.2)).trans hbx5)
          have hbo5 := copy_out hOW.out.2 hbo4 hgrow
          have y5 : w5.cell? ⟨w.heap.size + 1 + 1, 1, none⟩ = some (.slice q j c) := (two_box hbo5).1.2
          have y6 : w5.frozen? ⟨w.heap.size + 1 + 1, 1, none⟩ = false := (two_box hbo5).2.2
          refine hK.out _ _ K5 (fun hHeld => ?_)
          clear hK K
          try simp only [Act.put, List.setIfInBounds_toArray, List.set_cons_zero, List.set_cons_succ]
          refine wpAnyH_take (i := 13) (oi := { dst := some 32, op := Go.Op.fieldAddr 25 (Go.Operand.tmp 3) 1, type := 0, pos := "ref.go:80", after := #[{ on := 0, ground := Go.Ground.phase }, { on := 1, ground := Go.Ground.phase }, { on := 2, ground := Go.Ground.phase }, { on := 3, ground := Go.Ground.phase }, { on := 4, ground := Go.Ground.phase }, { on := 5, ground := Go.Ground.phase }, { on := 6, ground := Go.Ground.phase }, { on := 7, ground := Go.Ground.phase }, { on := 8, ground := Go.Ground.phase }, { on := 9, ground := Go.Ground.phase }, { on := 10, ground := Go.Ground.phase }, { on := 11, ground := Go.Ground.phase }, { on := 12, ground := Go.Ground.phase }], guard := none }) (v := ?_) rfl (by kernel_rfl) (by kernel_rfl) (by kernel_rfl) (fun _ _ _ h => h) (Or.inl ⟨by rfl, ?_⟩) (by assumption) ?_
          rotate_left
          · intro W hSw; (try dsimp only at hSw); go_simp; with_reducible rfl
          try simp only [Act.put, List.setIfInBounds_toArray, List.set_cons_zero, List.set_cons_succ]
          refine wpAnyH_ready (rs := [14]) (by kernel_rfl) (by simp) ?_
          refine AllReadyH.cons (o := { dst := none, op := Go.Op.store 23 (Go.Operand.tmp 32) (Go.Operand.tmp 31), type := 0, pos := "ref.go:80", after := #[{ on := 13, ground := Go.Ground.data }, { on := 12, ground := Go.Ground.data }, { on := 12, ground := Go.Ground.chain }, { on := 0, ground := Go.Ground.phase }, { on := 1, ground := Go.Ground.phase }, { on := 2, ground := Go.Ground.phase }, { on := 3, ground := Go.Ground.phase }, { on := 4, ground := Go.Ground.phase }, { on := 5, ground := Go.Ground.phase }, { on := 6, ground := Go.Ground.phase }, { on := 7, ground := Go.Ground.phase }, { on := 8, ground := Go.Ground.phase }, { on := 9, ground := Go.Ground.phase }, { on := 10, ground := Go.Ground.phase }, { on := 11, ground := Go.Ground.phase }, { on := 12, ground := Go.Ground.phase }], guard := none }) rfl (fun K hK => ?_) AllReadyH.nil
          go_simp
          refine hK.out _ _ K6 (fun hHeld => ?_)
          clear hK K
          try simp only [Act.put, List.setIfInBounds_toArray, List.set_cons_zero, List.set_cons_succ]
          refine wpAnyH_done (by kernel_rfl) ?_ _
          have HF := Lib.hid (copy_round HR.out.1 HR.out.2.1 HR.out.2.2.2.2.1 HR.out.2.2.2.2.2.1 HR.out.2.2.1 HR.out.2.2.2.2.2.2.1 HR.out.2.2.2.2.2.2.2 HD.out.2.2.1 (by rw [HD.out.2.2.2.2]; omega) hb3 hb4 hO3 hO4 (by rw [HNM.out.1, HNM.out.2.1, HNM.out.2.2]; exact hown5) hgrow hat)
          clear hown5 hgrow hb3 hb4 hO3 hO4
          go_wp2_with fail
          go_roundw
          case rel =>
            obtain ⟨g1, g2, g3, g4, g5, g6, g7⟩ := HF.out
            exact ⟨j + 1, _, _, _, by omega, by go_num, g1, g2, g3, g4, g5, g6, g7⟩
          case measure => simp [Go.RowKit.intOf]; omega
        refine AllReadyH.cons (o := { dst := some 30, op := Go.Op.buildSlice 23 1 #[(0, Go.Operand.tmp 29)], type := 23, pos := "ref.go:80", after := #[{ on := 10, ground := Go.Ground.data }], guard := none }) rfl (fun K hK => ?_) AllReadyH.nil
        go_simp
        refine hK.out _ _ (K4a _) (fun hHeld => ?_)
        clear hK K
        try simp only [Act.put, List.setIfInBounds_toArray, List.set_cons_zero, List.set_cons_succ]
        refine wpAnyH_ready (rs := [1]) (by kernel_rfl) (by simp) ?_
        refine AllReadyH.cons (o := { dst := some 20, op := Go.Op.load 23 (Go.Operand.tmp 19), type := 23, pos := "ref.go:80", after := #[{ on := 0, ground := Go.Ground.data }], guard := none }) rfl (fun K hK => ?_) AllReadyH.nil
        go_simp
        refine hK.out _ _ hHeld (fun hHeld => ?_)
        clear hK K
        try simp only [Act.put, List.setIfInBounds_toArray, List.set_cons_zero, List.set_cons_succ]
        refine wpAnyH_ready (rs := [12]) (by kernel_rfl) (by simp) ?_
        refine AllReadyH.cons (o := { dst := some 31, op := Go.Op.call { callee := Go.Callee.builtin Go.Builtin.append, args := #[Go.Operand.tmp 20, Go.Operand.tmp 30], argTypes := #[23, 23] }, type := 23, pos := "ref.go:80", after := #[{ on := 1, ground := Go.Ground.data }, { on := 11, ground := Go.Ground.data }, { on := 9, ground := Go.Ground.chain }], guard := none }) rfl (fun K hK => ?_) AllReadyH.nil
        refine step_append_lies (w4.alloc (.cells #[.string nm, .slice q1 (x.F.st j).len c1', .int .i64 bk, .int .i64 bn, .slice q2 (x.F.bt j).len c2'] 52)) rfl (.tmp 20) (.tmp 30) 23 rfl (w.heap.size + 3) 52 j0 (.agg #[.string ⟨#[]⟩, .slice none 0 0, .int .i64 0, .int .i64 0, .slice none 0 0]) 5 80 Tryz.underlying23 hj0 hy0 hy1 hy2 rfl (by decide) (.slice q j c) j vs rfl (hownA _) ⟨w4.heap.size, 0, none⟩ 1 1 [.string nm, .slice q1 (x.F.st j).len c1', .int .i64 bk, .int .i64 bn, .slice q2 (x.F.bt j).len c2'] rfl rfl (World.news_of_block (heap_new _ _)) (one_fn _ _ _ _ _ _ _ _ _) Nat.one_pos hmx hby (base_le _ hz4) (w4.heap.size + 1) (size_new _ _) ?_
        intro g cp w5 hown5 hgrow hat hglt
        have hbx5 := copy_box HLO.out HD.out.2.2.2.2 hb3 hb4 hbx4 hgrow (fun k e => (hOW.out.2 k e).2)
        have K5 := fun_box hbx5
        have K6 := fun_box ((Below.heap_setCell w5 ⟨w.heap.size + 2, 1, none⟩ (.slice (some ⟨g, 0, none⟩) (j + 1) cp) wr.heap.size (copy_ne HR.out.2.2.2.2.2.2.2)).trans hbx5)
        have hbo5 := copy_out hOW.out.2 hbo4 hgrow
        have y5 : w5.cell? ⟨w.heap.size + 1 + 1, 1, none⟩ = some (.slice q j c) := (two_box hbo5).1.2
        have y6 : w5.frozen? ⟨w.heap.size + 1 + 1, 1, none⟩ = false := (two_box hbo5).2.2
        refine hK.out _ _ K5 (fun hHeld => ?_)
        clear hK K
        try simp only [Act.put, List.setIfInBounds_toArray, List.set_cons_zero, List.set_cons_succ]
        refine wpAnyH_take (i := 13) (oi := { dst := some 32, op := Go.Op.fieldAddr 25 (Go.Operand.tmp 3) 1, type := 0, pos := "ref.go:80", after := #[{ on := 0, ground := Go.Ground.phase }, { on := 1, ground := Go.Ground.phase }, { on := 2, ground := Go.Ground.phase }, { on := 3, ground := Go.Ground.phase }, { on := 4, ground := Go.Ground.phase }, { on := 5, ground := Go.Ground.phase }, { on := 6, ground := Go.Ground.phase }, { on := 7, ground := Go.Ground.phase }, { on := 8, ground := Go.Ground.phase }, { on := 9, ground := Go.Ground.phase }, { on := 10, ground := Go.Ground.phase }, { on := 11, ground := Go.Ground.phase }, { on := 12, ground := Go.Ground.phase }], guard := none }) (v := ?_) rfl (by kernel_rfl) (by kernel_rfl) (by kernel_rfl) (fun _ _ _ h => h) (Or.inl ⟨by rfl, ?_⟩) (by assumption) ?_
        rotate_left
        · intro W hSw; (try dsimp only at hSw); go_simp; with_reducible rfl
        try simp only [Act.put, List.setIfInBounds_toArray, List.set_cons_zero, List.set_cons_succ]
        refine wpAnyH_ready (rs := [14]) (by kernel_rfl) (by simp) ?_
        refine AllReadyH.cons (o := { dst := none, op := Go.Op.store 23 (Go.Operand.tmp 32) (Go.Operand.tmp 31), type := 0, pos := "ref.go:80", after := #[{ on := 13, ground := Go.Ground.data }, { on := 12, ground := Go.Ground.data }, { on := 12, ground := Go.Ground.chain }, { on := 0, ground := Go.Ground.phase }, { on := 1, ground := Go.Ground.phase }, { on := 2, ground := Go.Ground.phase }, { on := 3, ground := Go.Ground.phase }, { on := 4, ground := Go.Ground.phase }, { on := 5, ground := Go.Ground.phase }, { on := 6, ground := Go.Ground.phase }, { on := 7, ground := Go.Ground.phase }, { on := 8, ground := Go.Ground.phase }, { on := 9, ground := Go.Ground.phase }, { on := 10, ground := Go.Ground.phase }, { on := 11, ground := Go.Ground.phase }, { on := 12, ground := Go.Ground.phase }], guard := none }) rfl (fun K hK => ?_) AllReadyH.nil
        go_simp
        refine hK.out _ _ K6 (fun hHeld => ?_)
        clear hK K
        try simp only [Act.put, List.setIfInBounds_toArray, List.set_cons_zero, List.set_cons_succ]
        refine wpAnyH_done (by kernel_rfl) ?_ _
        have HF := Lib.hid (copy_round HR.out.1 HR.out.2.1 HR.out.2.2.2.2.1 HR.out.2.2.2.2.2.1 HR.out.2.2.1 HR.out.2.2.2.2.2.2.1 HR.out.2.2.2.2.2.2.2 HD.out.2.2.1 (by rw [HD.out.2.2.2.2]; omega) hb3 hb4 hO3 hO4 (by rw [HNM.out.1, HNM.out.2.1, HNM.out.2.2]; exact hown5) hgrow hat)
        clear hown5 hgrow hb3 hb4 hO3 hO4
        go_wp2_with fail
        go_roundw
        case rel =>
          obtain ⟨g1, g2, g3, g4, g5, g6, g7⟩ := HF.out
          exact ⟨j + 1, _, _, _, by omega, by go_num, g1, g2, g3, g4, g5, g6, g7⟩
        case measure => simp [Go.RowKit.intOf]; omega
      · obtain rfl : j = x.F.len := by omega
        have hIS := isS_own hsy
        have hIF := isF_own hown hcp
        obtain ⟨⟨o0, o1⟩, f0, f1⟩ := two_box hout
        obtain ⟨⟨r0, r1⟩, g0, g1⟩ := two_box hres
        obtain ⟨p1', c1', e, hIS⟩ := hIS
        injection e with e1 e2 e3
        subst e1 e3
        have hfin : Below w.heap.size w ((wr.setCell ⟨w.heap.size + 1, 0, none⟩ (.slice p1 x.S.len c1)).setCell ⟨w.heap.size + 1, 1, none⟩ (.slice q x.F.len c)) := below_set2 hb (by omega) _ _
        go_wp2_with fail
        have hs := isS_own (sy_set (o := 1) (u := .slice q x.F.len c) (sy_set (o := 0) (u := .slice p1 x.S.len c1) hsy (b := w.heap.size + 1) (by omega)) (b := w.heap.size + 1) (by omega))
        obtain ⟨p2', c2', e', hIS2⟩ := hs
        injection e' with e1' e2' e3'
        subst e1' e3'
        exact bodyPost_ret (v := .agg #[.slice p1 x.S.len c1, .slice q x.F.len c]) (by simp [results, Tryz.results34, go_sem, r0, r1]) rfl
          ⟨⟨p1, x.S.len, c1, q, x.F.len, c⟩, rfl, ⟨hIS2, isF_own (fn_set (fn_set hown (by omega)) (by omega)) fun i hi => ((hcp i hi).set (by omega)).set (by omega)⟩, hfin⟩

end Go.Proofs.YtjdnbmcjnkmgdaaGreatDoor

/-
  When two schemes are equal, in plain form; the walks of the slices' comparisons. Conditions: that the schemes lie in memory.
-/
set_option linter.unusedSimpArgs false
set_option linter.unusedVariables false
namespace Go.Proofs.YtjdnbmcjnkmgdaaGreatDoor
open Go.RowKit Go.Maps

def symE (x y : Sy) (i : Nat) : Bool := decide (x.nm i = y.nm i) && decide (x.rk i = y.rk i)

def symsE (x y : Sy) : Nat → Nat → Bool
  | _, 0 => true
  | i, m + 1 => symE x y i && symsE x y (i + 1) m

def funE (x y : Fu) (i : Nat) : Bool := decide (x.nm i = y.nm i) && (T.eqT (x.st i) (y.st i) && X.eq1 (x.bk i) (x.bn i) (x.bt i) (y.bk i) (y.bn i) (y.bt i))

def funsE (x y : Fu) : Nat → Nat → Bool
  | _, 0 => true
  | i, m + 1 => funE x y i && funsE x y (i + 1) m

def syEq (x y : Sy) : Bool := decide (x.len = y.len) && symsE x y 0 x.len
def fuEq (x y : Fu) : Bool := decide (x.len = y.len) && funsE x y 0 x.len

/-- are two schemes equal? -/
def scEq (x y : Sc) : Bool := syEq x.S y.S && fuEq x.F y.F

theorem symsE_at (x y : Sy) {j n : Nat} (h : j < n) : symsE x y j (n - j) = (symE x y j && symsE x y (j + 1) (n - (j + 1))) := by
  rw [show n - j = (n - (j + 1)) + 1 by omega]; rfl

theorem funsE_at (x y : Fu) {j n : Nat} (h : j < n) : funsE x y j (n - j) = (funE x y j && funsE x y (j + 1) (n - (j + 1))) := by
  rw [show n - j = (n - (j + 1)) + 1 by omega]; rfl

theorem symsE_end (x y : Sy) {j n : Nat} (h : ¬ j < n) : symsE x y j (n - j) = true := by
  rw [show n - j = 0 by omega]; rfl

theorem funsE_end (x y : Fu) {j n : Nat} (h : ¬ j < n) : funsE x y j (n - j) = true := by
  rw [show n - j = 0 by omega]; rfl

theorem symE_self (x : Sy) (i : Nat) : symE x x i = true := by simp [symE]

theorem funE_self (x : Fu) (i : Nat) : funE x x i = true := by
  have h1 := (T.eqT_iff (x.st i) (x.st i)).2 rfl
  have h2 := (X.eqX_iff (x.bt i) (x.bt i)).2 rfl
  simp [funE, h1, h2, X.eq1]

theorem symsE_self (x : Sy) : ∀ m i, symsE x x i m = true
  | 0, _ => rfl
  | m + 1, i => by simp [symsE, symE_self, symsE_self x m]

theorem funsE_self (x : Fu) : ∀ m i, funsE x x i m = true
  | 0, _ => rfl
  | m + 1, i => by simp [funsE, funE_self, funsE_self x m]

theorem scEq_self (x : Sc) : scEq x x = true := by simp [scEq, syEq, fuEq, symsE_self, funsE_self]

theorem strs_ne {a b : ByteArray} (h : a ≠ b) : (a.toList == b.toList) = false := by
  rw [beq_eq_false_iff_ne, ByteArray.toList_eq, ByteArray.toList_eq]
  intro e
  exact h (by rw [← str_self a, ← str_self b, e])

set_option maxRecDepth 100000 in
set_option maxHeartbeats 4000000 in
/-- slices.Equal of symbols -/
theorem symsequal_any (x y : Sy) (w : World) (p q : Option Addr) (n c m c' : Nat) (hx : IsS w x p n c) (hy : IsS w y q m c') :
    Calls Tryz.prog 41 #[.slice p n c, .slice q m c'] w fun e w' => e = .returned (.bool (syEq x y)) ∧ Below w.heap.size w w' := by
  obtain ⟨rfl, hcap, hmax, hnil, hrow⟩ := hx
  obtain ⟨rfl, hcap', hmax', hnil', hrow'⟩ := hy
  unfold maxLen at hmax hmax'
  by_cases hl : x.len = y.len
  case neg =>
    have hd : ((x.len : Int) != (y.len : Int)) = true := by rw [bne_iff_ne]; omega
    have e : syEq x y = false := by simp [syEq, hl]
    rw [e]
    go_enter Tryz.func41, Tryz.ntmps41
    go_wp2_with fail
    go_ret
    exact ⟨rfl, Below.refl _ _⟩
  case pos =>
    have hd : ((x.len : Int) != (y.len : Int)) = false := by simp [hl]
    have e : symsE x y 0 (x.len - 0) = syEq x y := by simp [syEq, hl]
    have hle : x.len ≤ y.len := by omega
    obtain ⟨Z, hZ⟩ : ∃ Z, syEq x y = Z := ⟨_, rfl⟩
    rw [hZ] at e ⊢
    clear hZ hl
    go_enter Tryz.func41, Tryz.ntmps41
    go_wp2_with fail
    go_loopw [13] (fun v wr => ∃ j : Nat, j ≤ x.len ∧ v = .int .i64 (j : Int) ∧ symsE x y j (x.len - j) = Z ∧ Below w.heap.size w wr)
      (fun v _ => x.len - (Go.RowKit.intOf v).toNat)
    case atStart => exact ⟨0, Nat.zero_le _, rfl, e, Below.refl _ _⟩
    case round =>
      clear hd
      obtain ⟨j, hj, rfl, hmo, hb⟩ := hrel
      have HB := Lib.hid hb
      by_cases hlt : j < x.len
      · rcases hrow with h0 | ⟨b1, o1, rfl, hr1⟩
        · omega
        rcases hrow' with h0 | ⟨b2, o2, rfl, hr2⟩
        · omega
        obtain ⟨g1, g2⟩ := hr1 j hlt
        obtain ⟨g3, g4⟩ := hr2 j (by omega)
        have f1 := ((bcell hb).1 _ _ (lt_of_cell g1)).trans g1
        have f2 := ((bcell hb).1 _ _ (lt_of_cell g2)).trans g2
        have f3 := ((bcell hb).1 _ _ (lt_of_cell g3)).trans g3
        have f4 := ((bcell hb).1 _ _ (lt_of_cell g4)).trans g4
        rw [symsE_at x y hlt] at hmo
        unfold symE at hmo
        have hlt2 : j < y.len := by omega
        clear g1 g2 g3 g4 hr1 hr2 hb
        generalize x.nm j = s1 at f1 hmo
        generalize y.nm j = s2 at f3 hmo
        generalize x.rk j = k1 at f2 hmo
        generalize y.rk j = k2 at f4 hmo
        by_cases h1 : s1 = s2
        · subst h1
          by_cases h2 : k1 = k2
          · subst h2
            have hmo2 : symsE x y (j + 1) (x.len - (j + 1)) = Z := by simpa using hmo
            have HM := Lib.hid hmo2
            clear hmo hmo2
            go_wp2_with fail
            go_quiet (fail)
            go_wp2_with fail
            go_roundw
            case rel => exact ⟨j + 1, by omega, by go_num, HM.out, below_drewN HB.out _⟩
            case measure => simp [Go.RowKit.intOf]; omega
          · have hd2 : (k1 == k2) = false := by simpa using h2
            have hz : Z = false := by rw [← hmo]; simp [h2]
            subst hz
            clear hmo
            go_wp2_with fail
            go_quiet (fail)
            go_wp2_with fail
            go_ret
            exact ⟨rfl, below_drewN HB.out _⟩
        · have hd1 : (s1.toList == s2.toList) = false := strs_ne h1
          have hz : Z = false := by rw [← hmo]; simp [h1]
          subst hz
          clear hmo
          go_wp2_with fail
          go_quiet (fail)
          go_wp2_with fail
          go_ret
          exact ⟨rfl, below_drewN HB.out _⟩
      · have hz : Z = true := by rw [← hmo]; exact symsE_end x y hlt
        subst hz
        clear hmo
        go_wp2_with fail
        go_ret
        exact ⟨rfl, HB.out⟩

end Go.Proofs.YtjdnbmcjnkmgdaaGreatDoor

/-
  The walks of Same: the program's and the reference's. Conditions: that the schemes lie in memory.
-/
set_option linter.unusedSimpArgs false
set_option linter.unusedVariables false
namespace Go.Proofs.YtjdnbmcjnkmgdaaGreatDoor
open Go.RowKit Go.Maps

theorem same_eqV {s t : T} (h1 : s.valid = true) (h2 : t.valid = true) : T.same s t = T.eqT s t := by
  have g1 := T.valid_nodes _ h1
  have g2 := T.valid_nodes _ h2
  simp [T.same, g1, g2]

theorem sm_eq1 {k n k' n' : Int} {a a' : X} (h1 : a.sz < 100000) (h2 : a'.sz < 100000) : X.sm k n a k' n' a' = X.eq1 k n a k' n' a' := by
  simp [X.sm, h1, h2]

/-- the two schemes' boxes that a comparison holds -/
theorem boxes2 {W : World} {b1 b2 : Nat} {u1 u2 v1 v2 : Value} {t t' : TypeId} (h1 : W.heap[b1]? = some (.cells #[u1, u2] t (0, 0))) (h2 : W.heap[b2]? = some (.cells #[v1, v2] t' (0, 0))) :
    W.cell? ⟨b1, 0, none⟩ = some u1 ∧ W.cell? ⟨b1, 1, none⟩ = some u2 ∧ W.cell? ⟨b2, 0, none⟩ = some v1 ∧ W.cell? ⟨b2, 1, none⟩ = some v2 := ⟨(two_box h1).1.1, (two_box h1).1.2, (two_box h2).1.1, (two_box h2).1.2⟩

set_option maxRecDepth 100000 in
set_option maxHeartbeats 4000000 in
theorem alike_any (x y : Fu) (i : Nat) (w : World) (p : Option Addr) (l c : Nat) (q : Option Addr) (m d : Nat) (p' : Option Addr) (l' c' : Nat) (q' : Option Addr) (m' d' : Nat)
    (h1 : (x.st i).valid = true) (h2 : (y.st i).valid = true) (h3 : (x.bt i).sz < 100000) (h4 : (y.bt i).sz < 100000)
    (ht : IsT w (x.st i) p l c) (hb : IsX w (x.bt i) q m d) (ht' : IsT w (y.st i) p' l' c') (hb' : IsX w (y.bt i) q' m' d') :
    Calls Tryz.prog 43 #[.agg #[.string (x.nm i), .slice p l c, .int .i64 (x.bk i), .int .i64 (x.bn i), .slice q m d], .agg #[.string (y.nm i), .slice p' l' c', .int .i64 (y.bk i), .int .i64 (y.bn i), .slice q' m' d']] w fun e w' => e = .returned (.bool (funE x y i)) ∧ Below w.heap.size w w' := by
  have HS := fun W (hb : Below w.heap.size w W) => same_any (x.st i) (y.st i) W p p' l c l' c' (ht.below hb) (ht'.below hb)
  have HX := fun W (h : Below w.heap.size w W) => tsame_any (x.bt i) (y.bt i) (x.bk i) (x.bn i) (y.bk i) (y.bn i) W q q' m d m' d' (hb.below h) (hb'.below h)
  rw [same_eqV h1 h2] at HS
  rw [sm_eq1 h3 h4] at HX
  have HS := Lib.hid HS
  have HX := Lib.hid HX
  unfold funE
  generalize T.eqT (x.st i) (y.st i) = B1 at HS
  generalize X.eq1 (x.bk i) (x.bn i) (x.bt i) (y.bk i) (y.bn i) (y.bt i) = B2 at HX
  generalize x.nm i = s1
  generalize y.nm i = s2
  generalize x.bk i = k1 at HX
  generalize y.bk i = k2 at HX
  generalize x.bn i = n1 at HX
  generalize y.bn i = n2 at HX
  have hbx1 := alloc_kept (heap_new w (.cells #[.string s1, .slice p l c, .int .i64 k1, .int .i64 n1, .slice q m d] 52)) (.cells #[.string s2, .slice p' l' c', .int .i64 k2, .int .i64 n2, .slice q' m' d'] 52)
  have hbx2 := heap_new2 w (.cells #[.string s1, .slice p l c, .int .i64 k1, .int .i64 n1, .slice q m d] 52) (.cells #[.string s2, .slice p' l' c', .int .i64 k2, .int .i64 n2, .slice q' m' d'] 52)
  have B2' : Below w.heap.size w ((w.alloc (.cells #[.string s1, .slice p l c, .int .i64 k1, .int .i64 n1, .slice q m d] 52)).alloc (.cells #[.string s2, .slice p' l' c', .int .i64 k2, .int .i64 n2, .slice q' m' d'] 52)) := ((Below.refl _ _).alloc (Nat.le_refl _) _).alloc (by simp) _
  have HB := Lib.hid (And.intro B2' (And.intro hbx1 hbx2))
  clear B2' hbx1 hbx2 ht hb ht' hb' h1 h2 h3 h4
  by_cases he : s1 = s2
  · have hd : (s1.toList == s2.toList) = true := by simp [he]
    have hz : (decide (s1 = s2) && (B1 && B2)) = (B1 && B2) := by simp [he]
    rw [hz]
    clear he hz
    go_enter Tryz.func43, Tryz.ntmps43
    cases B1 with
    | false =>
      go_wp2_with fail
      refine (HS.out _ HB.out.1).mono ?_
      rintro e w1 ⟨rfl, hb1⟩
      go_wp2_with fail
      go_ret
      exact ⟨rfl, HB.out.1.trans (hb1.mono HB.out.1.size)⟩
    | true =>
      go_wp2_with fail
      refine (HS.out _ HB.out.1).mono ?_
      rintro e w1 ⟨rfl, hb1⟩
      have hB := HB.out.1.trans (hb1.mono HB.out.1.size)
      obtain ⟨a0, a1, a2, a3, a4⟩ := fun_box (box3_later hb1 HB.out.2.1)
      obtain ⟨c0, c1, c2, c3, c4⟩ := fun_box (box3_later hb1 HB.out.2.2)
      have HB1 := Lib.hid hB
      clear hB hb1
      go_wp2_with fail
      refine (HX.out _ HB1.out).mono ?_
      rintro e w2 ⟨rfl, hb2⟩
      go_wp2_with fail
      go_ret
      exact ⟨rfl, HB1.out.trans (hb2.mono HB1.out.size)⟩
  · have hd : (s1.toList == s2.toList) = false := strs_ne he
    have hz : (decide (s1 = s2) && (B1 && B2)) = false := by simp [he]
    rw [hz]
    clear he hz
    go_enter Tryz.func43, Tryz.ntmps43
    go_wp2_with fail
    go_ret
    exact ⟨rfl, HB.out.1⟩

set_option maxRecDepth 100000 in
set_option maxHeartbeats 4000000 in
/-- slices.EqualFunc of functions, by alike -/
theorem funsequal_any (x y : Fu) (w : World) (p q : Option Addr) (n c m c' : Nat) (hv1 : ∀ i, i < x.len → (x.st i).valid = true ∧ (x.bt i).sz < 100000) (hv2 : ∀ i, i < y.len → (y.st i).valid = true ∧ (y.bt i).sz < 100000)
    (hx : IsF w x p n c) (hy : IsF w y q m c') :
    Calls Tryz.prog 42 #[.slice p n c, .slice q m c', .func (Fn.func 43) #[] #[]] w fun e w' => e = .returned (.bool (fuEq x y)) ∧ Below w.heap.size w w' := by
  have hx0 := hx
  have hy0 := hy
  obtain ⟨rfl, hcap, hmax, hnil, _⟩ := hx
  obtain ⟨rfl, hcap', hmax', hnil', _⟩ := hy
  unfold maxLen at hmax hmax'
  have HXY := Lib.hid (And.intro hx0 hy0)
  have HV := Lib.hid (And.intro hv1 hv2)
  clear hx0 hy0 hv1 hv2
  by_cases hl : x.len = y.len
  case neg =>
    have hd : ((x.len : Int) != (y.len : Int)) = true := by rw [bne_iff_ne]; omega
    have e : fuEq x y = false := by simp [fuEq, hl]
    rw [e]
    go_enter Tryz.func42, Tryz.ntmps42
    go_wp2_with fail
    go_ret
    exact ⟨rfl, Below.refl _ _⟩
  case pos =>
    have hd : ((x.len : Int) != (y.len : Int)) = false := by simp [hl]
    have e : funsE x y 0 (x.len - 0) = fuEq x y := by simp [fuEq, hl]
    have hle : x.len ≤ y.len := by omega
    obtain ⟨Z, hZ⟩ : ∃ Z, fuEq x y = Z := ⟨_, rfl⟩
    rw [hZ] at e ⊢
    clear hZ hl
    go_enter Tryz.func42, Tryz.ntmps42
    go_wp2_with fail
    go_loopw [17] (fun v wr => ∃ j : Nat, j ≤ x.len ∧ v = .int .i64 (j : Int) ∧ funsE x y j (x.len - j) = Z ∧ Below w.heap.size w wr)
      (fun v _ => x.len - (Go.RowKit.intOf v).toNat)
    case atStart => exact ⟨0, Nat.zero_le _, rfl, e, Below.refl _ _⟩
    case round =>
      clear hd
      obtain ⟨j, hj, rfl, hmo, hb⟩ := hrel
      have HB := Lib.hid hb
      by_cases hlt : j < x.len
      · obtain ⟨b1, o1, rfl, p1, n1, c1, q1, m1, d1, e1, e2, e3, e4, e5, e6, e7⟩ := rowF_all (HXY.out.1.below hb) hlt
        obtain ⟨b2, o2, rfl, p2, n2, c2, q2, m2, d2, f1, f2, f3, f4, f5, f6, f7⟩ := rowF_all (HXY.out.2.below hb) (show j < y.len by omega)
        have hlt2 : j < y.len := by omega
        have A1 := fun o => (keep_alloc wr o _ _ (lt_of_cell f1)).trans f1
        have A2 := fun o => (keep_alloc wr o _ _ (lt_of_cell f2)).trans f2
        have A3 := fun o => (keep_alloc wr o _ _ (lt_of_cell f3)).trans f3
        have A4 := fun o => (keep_alloc wr o _ _ (lt_of_cell f4)).trans f4
        have A5 := fun o => (keep_alloc wr o _ _ (lt_of_cell f5)).trans f5
        have HA := Lib.hid fun W (h : Below wr.heap.size wr W) => alike_any x y j W p1 n1 c1 q1 m1 d1 p2 n2 c2 q2 m2 d2 (HV.out.1 j hlt).1 (HV.out.2 j hlt2).1 (HV.out.1 j hlt).2 (HV.out.2 j hlt2).2 (e6.below h) (e7.below h) (f6.below h) (f7.below h)
        have hB : ∀ o o' : Obj, Below wr.heap.size wr ((wr.alloc o).alloc o') := fun o o' => ((Below.refl _ _).alloc (Nat.le_refl _) _).alloc (by simp) _
        have HB2 := Lib.hid hB
        rw [funsE_at x y hlt] at hmo
        clear hb e6 e7 f6 f7 hB f1 f2 f3 f4 f5
        generalize x.nm j = s1 at e1 HA
        generalize y.nm j = s2 at A1 HA
        generalize x.bk j = k1 at e3 HA
        generalize y.bk j = k2 at A3 HA
        generalize x.bn j = n1' at e4 HA
        generalize y.bn j = n2' at A4 HA
        cases hE : funE x y j with
        | true =>
          rw [hE] at HA hmo
          have HM := Lib.hid hmo
          clear hmo hE
          go_wp2_with fail
          refine (HA.out _ (HB2.out _ _)).mono ?_
          rintro e w1 ⟨rfl, hb1⟩
          have hB1 := HB.out.trans (((HB2.out _ _).trans (hb1.mono (HB2.out _ _).size)).mono HB.out.size)
          have HB1 := Lib.hid hB1
          clear hB1 hb1
          go_wp2_with fail
          go_roundw
          case rel => exact ⟨j + 1, by omega, by go_num, HM.out, HB1.out⟩
          case measure => simp [Go.RowKit.intOf]; omega
        | false =>
          rw [hE] at HA hmo
          have hz : Z = false := by rw [← hmo]; rfl
          subst hz
          clear hmo hE
          go_wp2_with fail
          refine (HA.out _ (HB2.out _ _)).mono ?_
          rintro e w1 ⟨rfl, hb1⟩
          have hB1 := HB.out.trans (((HB2.out _ _).trans (hb1.mono (HB2.out _ _).size)).mono HB.out.size)
          have HB1 := Lib.hid hB1
          clear hB1 hb1
          go_wp2_with fail
          go_ret
          exact ⟨rfl, HB1.out⟩
      · have hz : Z = true := by rw [← hmo]; exact funsE_end x y hlt
        subst hz
        clear hmo
        go_wp2_with fail
        go_ret
        exact ⟨rfl, HB.out⟩

/-- what Same answers -/
def scSame (x y : Sc) : Bool := scOk x && (scOk y && scEq x y)

theorem good_small {x : Sc} (h : scOk x = true) : ∀ i, i < x.F.len → (x.F.st i).valid = true ∧ (x.F.bt i).sz < 100000 := fun i hi => ⟨(good_of h).sort i hi, by have := (good_of h).size i hi; omega⟩

set_option maxRecDepth 100000 in
set_option maxHeartbeats 4000000 in
theorem ssame_any (x y : Sc) (a b : At2) (w : World) (hx : IsC w x a) (hy : IsC w y b) :
    Calls Tryz.prog 17 #[.agg #[.slice a.sp a.sn a.sc, .slice a.fp a.fn a.fc], .agg #[.slice b.sp b.sn b.sc, .slice b.fp b.fn b.fc]] w fun e w' => e = .returned (.bool (scSame x y)) ∧ Below w.heap.size w w' := by
  have H1 := Lib.hid fun W (h : Below w.heap.size w W) => scheck_any x a W (hx.below h)
  have H2 := Lib.hid fun W (h : Below w.heap.size w W) => scheck_any y b W (hy.below h)
  have H3 := Lib.hid fun W (h : Below w.heap.size w W) => symsequal_any x.S y.S W a.sp b.sp a.sn a.sc b.sn b.sc (hx.1.below h) (hy.1.below h)
  have H4 := Lib.hid fun (h1 : scOk x = true) (h2 : scOk y = true) W (h : Below w.heap.size w W) => funsequal_any x.F y.F W a.fp b.fp a.fn a.fc b.fn b.fc (good_small h1) (good_small h2) (hx.2.below h) (hy.2.below h)
  obtain ⟨sp, sn, sc, fp, fn, fc⟩ := a
  obtain ⟨sp', sn', sc', fp', fn', fc'⟩ := b
  dsimp only at H1 H2 H3 H4 ⊢
  have hbx1 := alloc_kept (heap_new w (.cells #[.slice sp sn sc, .slice fp fn fc] 25)) (.cells #[.slice sp' sn' sc', .slice fp' fn' fc'] 25)
  have hbx2 := heap_new2 w (.cells #[.slice sp sn sc, .slice fp fn fc] 25) (.cells #[.slice sp' sn' sc', .slice fp' fn' fc'] 25)
  have B2 : Below w.heap.size w ((w.alloc (.cells #[.slice sp sn sc, .slice fp fn fc] 25)).alloc (.cells #[.slice sp' sn' sc', .slice fp' fn' fc'] 25)) := ((Below.refl _ _).alloc (Nat.le_refl _) _).alloc (by simp) _
  have HB := Lib.hid (And.intro B2 (And.intro hbx1 hbx2))
  clear B2 hbx1 hbx2 hx hy
  unfold scSame scEq
  generalize syEq x.S y.S = B1 at H3
  generalize fuEq x.F y.F = B2 at H4
  unfold scE at H1 H2
  cases h1 : scOk x with
  | false =>
    rw [h1] at H1
    rw [if_neg (by simp)] at H1
    clear H4
    go_enter Tryz.func17, Tryz.ntmps17
    go_wp2_with fail
    refine (H1.out _ HB.out.1).mono ?_
    rintro e w1 ⟨rfl, hb1⟩
    go_wp2_with fail
    go_ret
    exact ⟨rfl, HB.out.1.trans (hb1.mono HB.out.1.size)⟩
  | true =>
    rw [h1] at H1
    rw [if_pos rfl] at H1
    cases h2 : scOk y with
    | false =>
      rw [h2] at H2
      rw [if_neg (by simp)] at H2
      clear H4
      go_enter Tryz.func17, Tryz.ntmps17
      go_wp2_with fail
      refine (H1.out _ HB.out.1).mono ?_
      rintro e w1 ⟨rfl, hb1⟩
      obtain ⟨s1, s2, s3, s4⟩ := boxes2 (box3_later hb1 HB.out.2.1) (box3_later hb1 HB.out.2.2)
      have HB1 := Lib.hid (HB.out.1.trans (hb1.mono HB.out.1.size))
      clear hb1
      go_wp2_with fail
      refine (H2.out _ HB1.out).mono ?_
      rintro e w2 ⟨rfl, hb2⟩
      go_wp2_with fail
      go_ret
      exact ⟨rfl, HB1.out.trans (hb2.mono HB1.out.size)⟩
    | true =>
      rw [h2] at H2
      rw [if_pos rfl] at H2
      have H4' := Lib.hid (H4.out h1 h2)
      clear H4
      go_enter Tryz.func17, Tryz.ntmps17
      go_wp2_with fail
      refine (H1.out _ HB.out.1).mono ?_
      rintro e w1 ⟨rfl, hb1⟩
      have HB1 := Lib.hid (And.intro (HB.out.1.trans (hb1.mono HB.out.1.size)) (And.intro (box3_later hb1 HB.out.2.1) (box3_later hb1 HB.out.2.2)))
      obtain ⟨s1, s2, s3, s4⟩ := boxes2 HB1.out.2.1 HB1.out.2.2
      clear hb1 HB H1
      go_wp2_with fail
      refine (H2.out _ HB1.out.1).mono ?_
      rintro e w2 ⟨rfl, hb2⟩
      have HB2 := Lib.hid (And.intro (HB1.out.1.trans (hb2.mono HB1.out.1.size)) (And.intro (box3_later hb2 HB1.out.2.1) (box3_later hb2 HB1.out.2.2)))
      clear hb2 HB1 s1 s2 s3 s4 H2
      obtain ⟨s1, s2, s3, s4⟩ := boxes2 HB2.out.2.1 HB2.out.2.2
      go_wp2_with fail
      refine (H3.out _ HB2.out.1).mono ?_
      cases B1 with
      | false =>
        rintro e w3 ⟨rfl, hb3⟩
        go_wp2_with fail
        go_ret
        exact ⟨rfl, HB2.out.1.trans (hb3.mono HB2.out.1.size)⟩
      | true =>
        rintro e w3 ⟨rfl, hb3⟩
        have HB3 := Lib.hid (And.intro (HB2.out.1.trans (hb3.mono HB2.out.1.size)) (And.intro (box3_later hb3 HB2.out.2.1) (box3_later hb3 HB2.out.2.2)))
        clear hb3 HB2 s1 s2 s3 s4 H3
        obtain ⟨s1, s2, s3, s4⟩ := boxes2 HB3.out.2.1 HB3.out.2.2
        go_wp2_with fail
        refine (H4'.out _ HB3.out.1).mono ?_
        rintro e w4 ⟨rfl, hb4⟩
        go_wp2_with fail
        go_ret
        exact ⟨rfl, HB3.out.1.trans (hb4.mono HB3.out.1.size)⟩

end Go.Proofs.YtjdnbmcjnkmgdaaGreatDoor

/-
  The walks of the reference's Equal and Same, of two places at which one scheme lies. Conditions: that it lies there.
-/
set_option linter.unusedSimpArgs false
set_option linter.unusedVariables false
namespace Go.Proofs.YtjdnbmcjnkmgdaaGreatDoor
open Go.RowKit Go.Maps

theorem cell_next {W W' : World} (hb : Below W.heap.size W W') {b o : Nat} {v : Value} (h : W.cell? ⟨b, o, none⟩ = some v) : W'.cell? ⟨b, o, none⟩ = some v := ((bcell hb).1 b o (lt_of_cell h)).trans h

/-- what the comparison of two functions reads: two boxes' second fields, two rows -/
theorem at12_next {W W' : World} (hb : Below W.heap.size W W') {A B : Nat} {va vb : Value} {b1 o1 : Nat} {v0 v1 v2 v3 v4 : Value} {b2 o2 : Nat} {u0 u1 u2 u3 u4 : Value}
    (h : W.cell? ⟨A, 1, none⟩ = some va ∧ W.cell? ⟨B, 1, none⟩ = some vb ∧ W.cell? ⟨b1, o1, none⟩ = some v0 ∧ W.cell? ⟨b1, o1 + 1, none⟩ = some v1 ∧ W.cell? ⟨b1, o1 + 2, none⟩ = some v2 ∧ W.cell? ⟨b1, o1 + 2 + 1, none⟩ = some v3 ∧ W.cell? ⟨b1, o1 + 2 + 2, none⟩ = some v4 ∧ W.cell? ⟨b2, o2, none⟩ = some u0 ∧ W.cell? ⟨b2, o2 + 1, none⟩ = some u1 ∧ W.cell? ⟨b2, o2 + 2, none⟩ = some u2 ∧ W.cell? ⟨b2, o2 + 2 + 1, none⟩ = some u3 ∧ W.cell? ⟨b2, o2 + 2 + 2, none⟩ = some u4) :
    W'.cell? ⟨A, 1, none⟩ = some va ∧ W'.cell? ⟨B, 1, none⟩ = some vb ∧ W'.cell? ⟨b1, o1, none⟩ = some v0 ∧ W'.cell? ⟨b1, o1 + 1, none⟩ = some v1 ∧ W'.cell? ⟨b1, o1 + 2, none⟩ = some v2 ∧ W'.cell? ⟨b1, o1 + 2 + 1, none⟩ = some v3 ∧ W'.cell? ⟨b1, o1 + 2 + 2, none⟩ = some v4 ∧ W'.cell? ⟨b2, o2, none⟩ = some u0 ∧ W'.cell? ⟨b2, o2 + 1, none⟩ = some u1 ∧ W'.cell? ⟨b2, o2 + 2, none⟩ = some u2 ∧ W'.cell? ⟨b2, o2 + 2 + 1, none⟩ = some u3 ∧ W'.cell? ⟨b2, o2 + 2 + 2, none⟩ = some u4 := by
  obtain ⟨h1, h2, h3, h4, h5, h6, h7, h8, h9, h10, h11, h12⟩ := h
  exact ⟨cell_next hb h1, cell_next hb h2, cell_next hb h3, cell_next hb h4, cell_next hb h5, cell_next hb h6, cell_next hb h7, cell_next hb h8, cell_next hb h9, cell_next hb h10, cell_next hb h11, cell_next hb h12⟩

set_option maxRecDepth 100000 in
set_option maxHeartbeats 8000000 in
/-- the reference's Equal, of two places at which one scheme lies -/
theorem refequal3_self (x : Sc) (a b : At2) (w : World) (hx : IsC w x a) (hy : IsC w x b) :
    Calls Tryz.prog 35 #[.agg #[.slice a.sp a.sn a.sc, .slice a.fp a.fn a.fc], .agg #[.slice b.sp b.sn b.sc, .slice b.fp b.fn b.fc]] w fun e w' => e = .returned (.bool true) ∧ Below w.heap.size w w' := by
  obtain ⟨sp, sn, sc, fp, fn, fc⟩ := a
  obtain ⟨sp', sn', sc', fp', fn', fc'⟩ := b
  obtain ⟨rfl, hsc, hsm, hsz, _⟩ := id hx.1
  obtain ⟨rfl, hfc, hfm, hfz, _⟩ := id hx.2
  obtain ⟨e1, hsc', hsm', hsz', _⟩ := id hy.1
  obtain ⟨e2, hfc', hfm', hfz', _⟩ := id hy.2
  unfold maxLen at hsm hfm hsm' hfm'
  dsimp only at e1 e2 hsc hsm hsz hfc hfm hfz hsc' hsm' hsz' hfc' hfm' hfz' ⊢
  subst e1 e2
  have HXY := Lib.hid (And.intro hx hy)
  clear hx hy hsz hfz hsz' hfz'
  have hbx1 := alloc_kept (heap_new w (.cells #[.slice sp x.S.len sc, .slice fp x.F.len fc] 25)) (.cells #[.slice sp' x.S.len sc', .slice fp' x.F.len fc'] 25)
  have hbx2 := heap_new2 w (.cells #[.slice sp x.S.len sc, .slice fp x.F.len fc] 25) (.cells #[.slice sp' x.S.len sc', .slice fp' x.F.len fc'] 25)
  have B2 : Below w.heap.size w ((w.alloc (.cells #[.slice sp x.S.len sc, .slice fp x.F.len fc] 25)).alloc (.cells #[.slice sp' x.S.len sc', .slice fp' x.F.len fc'] 25)) := ((Below.refl _ _).alloc (Nat.le_refl _) _).alloc (by simp) _
  have HB := Lib.hid (And.intro B2 (And.intro hbx1 hbx2))
  clear B2 hbx1 hbx2
  have hd1 : ((x.S.len : Int) != (x.S.len : Int)) = false := by simp
  have hd2 : ((x.F.len : Int) != (x.F.len : Int)) = false := by simp
  go_enter Tryz.func35, Tryz.ntmps35
  go_wp2_with fail
  clear hd1 hd2
  go_loopw [26] (fun v wr => ∃ j : Nat, j ≤ x.S.len ∧ v = .int .i64 (j : Int) ∧ Below w.heap.size w wr ∧
      wr.heap[w.heap.size]? = some (.cells #[.slice sp x.S.len sc, .slice fp x.F.len fc] 25 (0, 0)) ∧ wr.heap[w.heap.size + 1]? = some (.cells #[.slice sp' x.S.len sc', .slice fp' x.F.len fc'] 25 (0, 0)))
    (fun v _ => x.S.len - (Go.RowKit.intOf v).toNat)
  case atStart => exact ⟨0, Nat.zero_le _, rfl, HB.out.1, HB.out.2.1, HB.out.2.2⟩
  case round =>
    clear HB
    obtain ⟨j, hj, rfl, hb, hb1, hb2⟩ := hrel
    have HB := Lib.hid (And.intro hb (And.intro hb1 hb2))
    obtain ⟨t1, t2, t3, t4⟩ := boxes2 hb1 hb2
    clear hb hb1 hb2
    by_cases hlt : j < x.S.len
    · obtain ⟨b1, o1, rfl, f1, f2⟩ := rowS_all (HXY.out.1.below HB.out.1).1 hlt
      obtain ⟨b2, o2, rfl, f3, f4⟩ := rowS_all (HXY.out.2.below HB.out.1).1 hlt
      generalize x.S.nm j = s1 at f1 f3
      generalize x.S.rk j = k1 at f2 f4
      go_wp2_with fail
      go_quiet (fail)
      go_wp2_with fail
      go_roundw
      case rel => exact ⟨j + 1, by omega, by go_num, below_drewN HB.out.1 _, HB.out.2.1, HB.out.2.2⟩
      case measure => simp [Go.RowKit.intOf]; omega
    · go_wp2_with fail
      clear t1 t2 t3 t4
      go_loopw [44] (fun v wr => ∃ j : Nat, j ≤ x.F.len ∧ v = .int .i64 (j : Int) ∧ Below w.heap.size w wr ∧
          wr.heap[w.heap.size]? = some (.cells #[.slice sp x.S.len sc, .slice fp x.F.len fc] 25 (0, 0)) ∧ wr.heap[w.heap.size + 1]? = some (.cells #[.slice sp' x.S.len sc', .slice fp' x.F.len fc'] 25 (0, 0)))
        (fun v _ => x.F.len - (Go.RowKit.intOf v).toNat)
      case atStart => exact ⟨0, Nat.zero_le _, rfl, HB.out.1, HB.out.2.1, HB.out.2.2⟩
      case round =>
        clear HB hj hlt
        obtain ⟨j, hj, rfl, hb, hb1, hb2⟩ := hrel
        have HB := Lib.hid (And.intro hb (And.intro hb1 hb2))
        clear hb
        by_cases hlt : j < x.F.len
        · obtain ⟨b1, o1, rfl, p1, n1, c1, q1, m1, d1, e1, e2, e3, e4, e5, e6, e7⟩ := rowF_all (HXY.out.1.below HB.out.1).2 hlt
          obtain ⟨b2, o2, rfl, p2, n2, c2, q2, m2, d2, f1, f2, f3, f4, f5, f6, f7⟩ := rowF_all (HXY.out.2.below HB.out.1).2 hlt
          have K0 : wr.drew.cell? ⟨w.heap.size, 1, none⟩ = some (.slice (some ⟨b1, o1, none⟩) x.F.len fc) ∧ wr.drew.cell? ⟨w.heap.size + 1, 1, none⟩ = some (.slice (some ⟨b2, o2, none⟩) x.F.len fc') ∧ wr.drew.cell? ⟨b1, o1 + j * 5, none⟩ = some (.string (x.F.nm j)) ∧ wr.drew.cell? ⟨b1, o1 + j * 5 + 1, none⟩ = some (.slice p1 n1 c1) ∧ wr.drew.cell? ⟨b1, o1 + j * 5 + 2, none⟩ = some (.int .i64 (x.F.bk j)) ∧ wr.drew.cell? ⟨b1, o1 + j * 5 + 2 + 1, none⟩ = some (.int .i64 (x.F.bn j)) ∧ wr.drew.cell? ⟨b1, o1 + j * 5 + 2 + 2, none⟩ = some (.slice q1 m1 d1) ∧ wr.drew.cell? ⟨b2, o2 + j * 5, none⟩ = some (.string (x.F.nm j)) ∧ wr.drew.cell? ⟨b2, o2 + j * 5 + 1, none⟩ = some (.slice p2 n2 c2) ∧ wr.drew.cell? ⟨b2, o2 + j * 5 + 2, none⟩ = some (.int .i64 (x.F.bk j)) ∧ wr.drew.cell? ⟨b2, o2 + j * 5 + 2 + 1, none⟩ = some (.int .i64 (x.F.bn j)) ∧ wr.drew.cell? ⟨b2, o2 + j * 5 + 2 + 2, none⟩ = some (.slice q2 m2 d2) :=
            ⟨(boxes2 hb1 hb2).2.1, (boxes2 hb1 hb2).2.2.2, e1, e2, e3, e4, e5, f1, f2, f3, f4, f5⟩
          have HS := fun W (h : Below w.heap.size w W ∧ Below wr.heap.size wr W) => refequal_any (x.F.st j).nodes (x.F.st j) (x.F.st j) W p1 p2 n1 c1 n2 c2 (Nat.le_refl _) (e6.below h.2) (f6.below h.2)
          have HX := fun W (h : Below w.heap.size w W ∧ Below wr.heap.size wr W) => trefequal_any ((x.F.bt j).sz + 1) (x.F.bt j) (x.F.bt j) (x.F.bk j) (x.F.bn j) (x.F.bk j) (x.F.bn j) W q1 q2 m1 d1 m2 d2 (Nat.lt_succ_self _) (e7.below h.2) (f7.below h.2)
          rw [(T.eqT_iff (x.F.st j) (x.F.st j)).2 rfl] at HS
          rw [show X.eq1 (x.F.bk j) (x.F.bn j) (x.F.bt j) (x.F.bk j) (x.F.bn j) (x.F.bt j) = true by simp [X.eq1, (X.eqX_iff (x.F.bt j) (x.F.bt j)).2 rfl]] at HX
          have HS := Lib.hid HS
          have HX := Lib.hid HX
          have hBD : Below w.heap.size w wr.drew ∧ Below wr.heap.size wr wr.drew := ⟨below_drewN HB.out.1 1, below_drewN (Below.refl _ _) 1⟩
          have HBD := Lib.hid hBD
          clear hb1 hb2 e1 e2 e3 e4 e5 e6 e7 f1 f2 f3 f4 f5 f6 f7 hBD
          generalize x.F.nm j = s1 at K0
          generalize x.F.bk j = k1 at K0 HX
          generalize x.F.bn j = n1' at K0 HX
          go_wp2_with fail
          go_region_held3 (fun W => W.cell? ⟨w.heap.size, 1, none⟩ = some (.slice (some ⟨b1, o1, none⟩) x.F.len fc) ∧ W.cell? ⟨w.heap.size + 1, 1, none⟩ = some (.slice (some ⟨b2, o2, none⟩) x.F.len fc') ∧ W.cell? ⟨b1, o1 + j * 5, none⟩ = some (.string s1) ∧ W.cell? ⟨b1, o1 + j * 5 + 1, none⟩ = some (.slice p1 n1 c1) ∧ W.cell? ⟨b1, o1 + j * 5 + 2, none⟩ = some (.int .i64 k1) ∧ W.cell? ⟨b1, o1 + j * 5 + 2 + 1, none⟩ = some (.int .i64 n1') ∧ W.cell? ⟨b1, o1 + j * 5 + 2 + 2, none⟩ = some (.slice q1 m1 d1) ∧ W.cell? ⟨b2, o2 + j * 5, none⟩ = some (.string s1) ∧ W.cell? ⟨b2, o2 + j * 5 + 1, none⟩ = some (.slice p2 n2 c2) ∧ W.cell? ⟨b2, o2 + j * 5 + 2, none⟩ = some (.int .i64 k1) ∧ W.cell? ⟨b2, o2 + j * 5 + 2 + 1, none⟩ = some (.int .i64 n1') ∧ W.cell? ⟨b2, o2 + j * 5 + 2 + 2, none⟩ = some (.slice q2 m2 d2))
            (first | exact K0 | (refine at12_next hb4 ?_; assumption) | (refine at12_next hb3 ?_; assumption))
            (first
            | (go_at_call 76; refine (HS.out _ HBD.out).mono ?_; rintro e w3 ⟨rfl, hb3⟩)
            | (go_at_call 77; refine (HX.out _ ⟨HBD.out.1.trans (hb3.mono HBD.out.1.size), HBD.out.2.trans (hb3.mono HBD.out.2.size)⟩).mono ?_; rintro e w4 ⟨rfl, hb4⟩))
          all_goals
            have hb34 := hb3.trans (hb4.mono hb3.size)
            have HF := Lib.hid (And.intro (HBD.out.1.trans (hb34.mono HBD.out.1.size)) (And.intro (box3_later (HBD.out.2.trans (hb34.mono HBD.out.2.size)) HB.out.2.1) (box3_later (HBD.out.2.trans (hb34.mono HBD.out.2.size)) HB.out.2.2)))
            clear hb34
            go_wp2_with fail
            go_roundw
            case rel => exact ⟨j + 1, by omega, by go_num, HF.out.1, HF.out.2.1, HF.out.2.2⟩
            case measure => simp [Go.RowKit.intOf]; omega
        · obtain ⟨t1, t2, t3, t4⟩ := boxes2 hb1 hb2
          clear hb1 hb2
          go_wp2_with fail
          go_ret
          exact ⟨rfl, HB.out.1⟩

set_option maxRecDepth 100000 in
set_option maxHeartbeats 4000000 in
theorem refsame3_self (x : Sc) (a b : At2) (w : World) (hx : IsC w x a) (hy : IsC w x b) :
    Calls Tryz.prog 18 #[.agg #[.slice a.sp a.sn a.sc, .slice a.fp a.fn a.fc], .agg #[.slice b.sp b.sn b.sc, .slice b.fp b.fn b.fc]] w fun e w' => e = .returned (.bool (scOk x)) ∧ Below w.heap.size w w' := by
  have H1 := Lib.hid fun W (h : Below w.heap.size w W) => refis3_any x a W (hx.below h)
  have H2 := Lib.hid fun W (h : Below w.heap.size w W) => refis3_any x b W (hy.below h)
  have H3 := Lib.hid fun W (h : Below w.heap.size w W) => refequal3_self x a b W (hx.below h) (hy.below h)
  obtain ⟨sp, sn, sc, fp, fn, fc⟩ := a
  obtain ⟨sp', sn', sc', fp', fn', fc'⟩ := b
  dsimp only at H1 H2 H3 ⊢
  have hbx1 := alloc_kept (heap_new w (.cells #[.slice sp sn sc, .slice fp fn fc] 25)) (.cells #[.slice sp' sn' sc', .slice fp' fn' fc'] 25)
  have hbx2 := heap_new2 w (.cells #[.slice sp sn sc, .slice fp fn fc] 25) (.cells #[.slice sp' sn' sc', .slice fp' fn' fc'] 25)
  have B2 : Below w.heap.size w ((w.alloc (.cells #[.slice sp sn sc, .slice fp fn fc] 25)).alloc (.cells #[.slice sp' sn' sc', .slice fp' fn' fc'] 25)) := ((Below.refl _ _).alloc (Nat.le_refl _) _).alloc (by simp) _
  have HB := Lib.hid (And.intro B2 (And.intro hbx1 hbx2))
  clear B2 hbx1 hbx2 hx hy
  cases h1 : scOk x with
  | false =>
    rw [h1] at H1
    go_enter Tryz.func18, Tryz.ntmps18
    go_wp2_with fail
    refine (H1.out _ HB.out.1).mono ?_
    rintro e w1 ⟨rfl, hb1⟩
    go_wp2_with fail
    go_ret
    exact ⟨rfl, HB.out.1.trans (hb1.mono HB.out.1.size)⟩
  | true =>
    rw [h1] at H1 H2
    go_enter Tryz.func18, Tryz.ntmps18
    go_wp2_with fail
    refine (H1.out _ HB.out.1).mono ?_
    rintro e w1 ⟨rfl, hb1⟩
    have HB1 := Lib.hid (And.intro (HB.out.1.trans (hb1.mono HB.out.1.size)) (And.intro (box3_later hb1 HB.out.2.1) (box3_later hb1 HB.out.2.2)))
    obtain ⟨s1, s2, s3, s4⟩ := boxes2 HB1.out.2.1 HB1.out.2.2
    clear hb1 HB H1
    go_wp2_with fail
    refine (H2.out _ HB1.out.1).mono ?_
    rintro e w2 ⟨rfl, hb2⟩
    have HB2 := Lib.hid (And.intro (HB1.out.1.trans (hb2.mono HB1.out.1.size)) (And.intro (box3_later hb2 HB1.out.2.1) (box3_later hb2 HB1.out.2.2)))
    clear hb2 HB1 s1 s2 s3 s4 H2
    obtain ⟨s1, s2, s3, s4⟩ := boxes2 HB2.out.2.1 HB2.out.2.2
    go_wp2_with fail
    refine (H3.out _ HB2.out.1).mono ?_
    rintro e w3 ⟨rfl, hb3⟩
    go_wp2_with fail
    go_ret
    exact ⟨rfl, HB2.out.1.trans (hb3.mono HB2.out.1.size)⟩


end Go.Proofs.YtjdnbmcjnkmgdaaGreatDoor

/-
  Plain mathematics of which functions are needed; a row of bools in memory. Conditions: none.
-/
set_option linter.unusedSimpArgs false
set_option linter.unusedVariables false
namespace Go.Proofs.YtjdnbmcjnkmgdaaGreatDoor
open Go.RowKit Go.Maps

/-- does function i occur in these terms? -/
def callX (i : Nat) : X → Bool
  | .nil => false
  | .cons k n a r => (decide (k = 1) && decide (n = (i : Int))) || (callX i a || callX i r)

/-- does function i occur in a term? -/
def call1 (i : Nat) (k n : Int) (a : X) : Bool := (decide (k = 1) && decide (n = (i : Int))) || callX i a

/-- does function k occur in the body of function i? -/
def callB (x : Sc) (i k : Nat) : Bool := call1 k (x.F.bk i) (x.F.bn i) (x.F.bt i)

theorem callX_drop (i : Nat) (a : X) (j : Nat) (h : j < a.len) : callX i (a.drop j) = (call1 i (a.gk j) (a.gn j) (a.ga j) || callX i (a.drop (j + 1))) := by
  rw [X.drop_cons a j h]
  simp only [callX, call1, Bool.or_assoc]

theorem callX_iff (i : Nat) (a : X) : callX i a = true ↔ ∃ j, j < a.len ∧ call1 i (a.gk j) (a.gn j) (a.ga j) = true := by
  have key : ∀ m j, j + m = a.len → (callX i (a.drop j) = true ↔ ∃ j', j ≤ j' ∧ j' < a.len ∧ call1 i (a.gk j') (a.gn j') (a.ga j') = true) := by
    intro m
    induction m with
    | zero =>
      intro j hj
      rw [X.drop_end a j (by omega)]
      constructor
      · intro h; cases h
      · rintro ⟨j', h1, h2, _⟩; omega
    | succ m ih =>
      intro j hj
      rw [callX_drop i a j (by omega), Bool.or_eq_true, ih (j + 1) (by omega)]
      constructor
      · rintro (h | ⟨j', h1, h2, h3⟩)
        · exact ⟨j, Nat.le_refl _, by omega, h⟩
        · exact ⟨j', by omega, h2, h3⟩
      · rintro ⟨j', h1, h2, h3⟩
        by_cases e : j' = j
        · subst e; exact Or.inl h3
        · exact Or.inr ⟨j', by omega, h2, h3⟩
  have := key a.len 0 (by omega)
  rw [X.drop_zero] at this
  rw [this]
  constructor
  · rintro ⟨j, _, h2, h3⟩; exact ⟨j, h2, h3⟩
  · rintro ⟨j, h2, h3⟩; exact ⟨j, Nat.zero_le _, h2, h3⟩

theorem callX_lt {x : Sc} {i : Nat} : ∀ {a : X}, goodX x a → callX i a = true → i < x.F.len
  | .nil, _, h => by cases h
  | .cons k n a r, hg, h => by
    obtain ⟨g1, g2, g3⟩ := hg
    simp only [callX, Bool.or_eq_true, Bool.and_eq_true, decide_eq_true_eq] at h
    rcases h with ⟨rfl, rfl⟩ | h | h
    · obtain ⟨_, h1⟩ := g1
      rcases h1 with ⟨h1, _⟩ | ⟨_, h1⟩ | ⟨h1, _⟩
      · exact absurd h1 (by decide)
      · omega
      · exact absurd h1 (by decide)
    · exact callX_lt g2 h
    · exact callX_lt g3 h

theorem call1_lt {x : Sc} {i : Nat} {k n : Int} {a : X} (hh : goodH x k n) (hg : goodX x a) (h : call1 i k n a = true) : i < x.F.len := by
  refine callX_lt (a := .cons k n a .nil) ⟨hh, hg, trivial⟩ ?_
  unfold call1 at h
  simp only [callX, Bool.or_false]
  exact h

theorem callB_lt {x : Sc} (hg : Good x) {i k : Nat} (hi : i < x.F.len) (h : callB x i k = true) : k < x.F.len := call1_lt (hg.head i hi) (hg.body i hi) h

/-- what a visit of the targets R makes of the functions that have been visited -/
structure Dfs (x : Sc) (V V' : Nat → Bool) (R : Nat → Prop) : Prop where
  mono : ∀ i, V i = true → V' i = true
  targets : ∀ i, R i → V' i = true
  closed : ∀ i, V' i = true → V i = false → ∀ k, callB x i k = true → V' k = true
  least : ∀ P : Nat → Prop, (∀ i k, P i → callB x i k = true → P k) → (∀ i, R i → P i) → ∀ i, V' i = true → V i = true ∨ P i

theorem Dfs.same {x : Sc} {V : Nat → Bool} {R : Nat → Prop} (h : ∀ i, R i → V i = true) : Dfs x V V R :=
  ⟨fun _ h => h, h, fun i h1 h2 => (by rw [h1] at h2; cases h2), fun _ _ _ i h => Or.inl h⟩

theorem Dfs.seq {x : Sc} {V V1 V2 : Nat → Bool} {R1 R2 R : Nat → Prop} (h1 : Dfs x V V1 R1) (h2 : Dfs x V1 V2 R2) (hR : ∀ i, R i ↔ R1 i ∨ R2 i) : Dfs x V V2 R := by
  refine ⟨fun i h => h2.mono i (h1.mono i h), fun i h => ?_, fun i h hV k hk => ?_, fun P hP hR' i h => ?_⟩
  · rcases (hR i).1 h with h | h
    · exact h2.mono i (h1.targets i h)
    · exact h2.targets i h
  · cases hv : V1 i with
    | true => exact h2.mono k (h1.closed i hv hV k hk)
    | false => exact h2.closed i h hv k hk
  · rcases h2.least P hP (fun i h => hR' i ((hR i).2 (Or.inr h))) i h with h | h
    · exact h1.least P hP (fun i h => hR' i ((hR i).2 (Or.inl h))) i h
    · exact Or.inr h

def updV (V : Nat → Bool) (n : Nat) : Nat → Bool := fun i => if i = n then true else V i

theorem Dfs.visit {x : Sc} {V V' : Nat → Bool} {n : Nat} (h : Dfs x (updV V n) V' (fun k => callB x n k = true)) : Dfs x V V' (fun i => i = n) := by
  have hn : updV V n n = true := if_pos rfl
  refine ⟨fun i hi => h.mono i ?_, fun i hi => h.mono i (by rw [hi]; exact hn), fun i hi hV k hk => ?_, fun P hP hR i hi => ?_⟩
  · unfold updV; split
    · rfl
    · exact hi
  · by_cases e : i = n
    · subst e; exact h.targets k hk
    · exact h.closed i hi (by unfold updV; rw [if_neg e]; exact hV) k hk
  · rcases h.least P hP (fun k hk => hP n k (hR n rfl) hk) i hi with h1 | h1
    · unfold updV at h1
      split at h1
      · rename_i e; exact Or.inr (hR i e)
      · exact Or.inl h1
    · exact Or.inr h1

theorem Dfs.congr {x : Sc} {V V' : Nat → Bool} {R R' : Nat → Prop} (h : Dfs x V V' R) (hR : ∀ i, R' i ↔ R i) : Dfs x V V' R' :=
  ⟨h.mono, fun i hi => h.targets i ((hR i).1 hi), h.closed, fun P hP hR' => h.least P hP fun i hi => hR' i ((hR i).2 hi)⟩

/-- how many of m functions are not visited -/
def cntV (V : Nat → Bool) : Nat → Nat
  | 0 => 0
  | m + 1 => cntV V m + (if V m = true then 0 else 1)

theorem cntV_mono {V V' : Nat → Bool} (h : ∀ i, V i = true → V' i = true) : ∀ m, cntV V' m ≤ cntV V m
  | 0 => Nat.le_refl _
  | m + 1 => by
    have := cntV_mono h m
    simp only [cntV]
    by_cases hv : V m = true
    · rw [if_pos hv, if_pos (h m hv)]; omega
    · rw [if_neg hv]; split <;> omega

theorem cntV_ge {V : Nat → Bool} {n : Nat} : ∀ m, m ≤ n → cntV (updV V n) m = cntV V m
  | 0, _ => rfl
  | m + 1, h => by
    simp only [cntV]
    rw [cntV_ge m (by omega), show updV V n m = V m from if_neg (by omega)]

theorem cntV_upd {V : Nat → Bool} {n : Nat} (hn : V n = false) : ∀ m, n < m → cntV (updV V n) m + 1 = cntV V m
  | 0, h => by omega
  | m + 1, h => by
    simp only [cntV]
    by_cases e : n = m
    · subst e
      rw [cntV_ge n (Nat.le_refl _), hn, if_pos (show updV V n n = true from if_pos rfl)]
      simp
    · have := cntV_upd hn m (by omega)
      rw [show updV V n m = V m from if_neg (by omega)]
      omega

theorem cntV_le (V : Nat → Bool) : ∀ m, cntV V m ≤ m
  | 0 => Nat.le_refl _
  | m + 1 => by
    have := cntV_le V m
    simp only [cntV]
    split <;> omega

/-- the least set of functions that holds the start and whatever its functions' bodies hold -/
structure Least (x : Sc) (V : Nat → Bool) : Prop where
  start : V 0 = true
  closed : ∀ i k, i < x.F.len → V i = true → callB x i k = true → V k = true
  least : ∀ P : Nat → Prop, (∀ i k, i < x.F.len → P i → callB x i k = true → P k) → P 0 → ∀ i, i < x.F.len → V i = true → P i

theorem Least.sub {x : Sc} {V V' : Nat → Bool} (h : Least x V) (h' : Least x V') : ∀ i, i < x.F.len → V i = true → V' i = true :=
  h.least (fun i => V' i = true) (fun i k hi h1 h2 => h'.closed i k hi h1 h2) h'.start

theorem Least.unique {x : Sc} {V V' : Nat → Bool} (h : Least x V) (h' : Least x V') : ∀ i, i < x.F.len → V i = V' i := by
  intro i hi
  have h1 := h.sub h' i hi
  have h2 := h'.sub h i hi
  cases hv : V i <;> cases hv' : V' i
  · rfl
  · exact absurd (h2 hv') (by simp [hv])
  · exact absurd (h1 hv) (by simp [hv'])
  · rfl

theorem Least.of_dfs {x : Sc} {V : Nat → Bool} (h : Dfs x (fun _ => false) V (fun i => i = 0)) (hg : Good x) : Least x V := by
  refine ⟨h.targets 0 rfl, fun i k _ h1 h2 => h.closed i h1 rfl k h2, fun P hP h0 i hi hV => ?_⟩
  rcases h.least (fun i => i < x.F.len ∧ P i) (fun i k hi hk => ⟨callB_lt hg hi.1 hk, hP i k hi.1 hi.2 hk⟩) (fun i hi => by rw [hi]; exact ⟨hg.some, h0⟩) i hV with h1 | h1
  · cases h1
  · exact h1.2

/-- the visited ones of j functions, in order -/
def visL (V : Nat → Bool) (j : Nat) : List Int := ((List.range j).filter V).map fun (i : Nat) => (i : Int)

theorem visL_yes {V : Nat → Bool} {j : Nat} (h : V j = true) : visL V j ++ [(j : Int)] = visL V (j + 1) := by
  unfold visL
  rw [List.range_succ, List.filter_append, List.map_append]
  simp [h]

theorem visL_no {V : Nat → Bool} {j : Nat} (h : V j = false) : visL V j = visL V (j + 1) := by
  unfold visL
  rw [List.range_succ, List.filter_append, List.map_append]
  simp [h]

theorem visL_len (V : Nat → Bool) (j : Nat) : (visL V j).length ≤ j := by
  unfold visL
  rw [List.length_map]
  have := List.length_filter_le V (List.range j)
  simpa using this

theorem visL_congr {V V' : Nat → Bool} {j : Nat} (h : ∀ i, i < j → V i = V' i) : visL V j = visL V' j := by
  unfold visL
  congr 1
  exact List.filter_congr fun i hi => h i (List.mem_range.1 hi)

/-- n bools in a block of their own -/
def bls (n : Nat) (V : Nat → Bool) : Array Value := ((List.range n).map fun i => Value.bool (V i)).toArray

def NB (w : World) (nb n : Nat) (V : Nat → Bool) : Prop := w.heap[nb]? = some (.cells (bls n V) 4 (0, 0))

theorem bls_at {n : Nat} {V : Nat → Bool} {i : Nat} (h : i < n) : (bls n V)[i]? = some (.bool (V i)) := by
  simp [bls, h]

theorem NB.cell {w : World} {nb n : Nat} {V : Nat → Bool} (h : NB w nb n V) {i : Nat} (hi : i < n) : w.cell? ⟨nb, i, none⟩ = some (.bool (V i)) ∧ w.frozen? ⟨nb, i, none⟩ = false := by
  unfold NB at h
  constructor
  · rw [cell_of_row w nb i _ _ _ h]; exact bls_at hi
  · simp [World.frozen?, h]

theorem NB.noslice {w : World} {nb n : Nat} {V : Nat → Bool} (h : NB w nb n V) {o : Nat} {p : Option Addr} {m c : Nat} : w.cell? ⟨nb, o, none⟩ ≠ some (.slice p m c) := by
  unfold NB at h
  rw [cell_of_row w nb o _ _ _ h]
  intro e
  simp [bls] at e

theorem NB.lt {w : World} {nb n : Nat} {V : Nat → Bool} (h : NB w nb n V) : nb < w.heap.size := lt_of_block h

theorem bls_set (n : Nat) (V : Nat → Bool) (i : Nat) : (bls n V).setIfInBounds i (.bool true) = bls n (updV V i) := by
  unfold bls updV
  apply Array.ext'
  apply List.ext_getElem?
  intro j
  simp only [List.setIfInBounds_toArray, List.getElem?_set, List.getElem?_map, List.getElem?_range, List.length_map, List.length_range]
  by_cases e : i = j
  · subst e
    by_cases hj : i < n
    · simp [hj]
    · simp [hj]
  · rw [if_neg e]
    by_cases hj : j < n
    · have : ¬ j = i := fun h => e h.symm
      simp [hj, this]
    · simp [hj]

theorem bls_made (n : Nat) : madeCells #[.bool false] n = bls n (fun _ => false) := by
  unfold bls madeCells
  apply Array.ext'
  apply List.ext_getElem?
  intro j
  by_cases hj : j < n
  · simp [hj, Nat.mod_one]
  · simp [hj]

theorem NB.set {w : World} {nb n : Nat} {V : Nat → Bool} (h : NB w nb n V) (i : Nat) : NB (w.setCell ⟨nb, i, none⟩ (.bool true)) nb n (updV V i) := by
  have hlt := h.lt
  unfold NB at h ⊢
  have h' : w.heap[nb] = .cells (bls n V) 4 (0, 0) := by simpa [Array.getElem?_eq_getElem hlt] using h
  show (w.heap.modify nb _)[nb]? = _
  rw [Array.getElem?_eq_getElem (by simpa using hlt), Array.getElem_modify_self, h']
  show some (Obj.cells ((bls n V).setIfInBounds i (.bool true)) _ _) = _
  rw [bls_set]

theorem NB.of_block {w w' : World} {nb n : Nat} {V : Nat → Bool} (h : NB w nb n V) (hb : w'.heap[nb]? = w.heap[nb]?) : NB w' nb n V := hb.trans h

theorem NB.below {w w' : World} {nb n : Nat} {V : Nat → Bool} (h : NB w nb n V) (hb : Below w.heap.size w w') : NB w' nb n V := h.of_block (hb.block nb h.lt)

theorem NB.made {w : World} {nb n : Nat} (h : w.heap[nb]? = some (.cells (madeCells #[.bool false] n) 4 (0, 0))) : NB w nb n (fun _ => false) := by
  unfold NB
  rw [h, bls_made]

theorem NB.made1 {w : World} {nb n i : Nat} (h : w.heap[nb]? = some (.cells ((madeCells #[.bool false] n).setIfInBounds i (.bool true)) 4 (0, 0))) : NB w nb n (updV (fun _ => false) i) := by
  unfold NB
  rw [h, bls_made, bls_set]

/-- all but one block is as it was -/
structure Bn (nb : Nat) (w w' : World) : Prop where
  os : w'.os = w.os
  tape : w'.tape = w.tape
  output : w'.output = w.output
  size : w.heap.size ≤ w'.heap.size
  block : ∀ k, k < w.heap.size → k ≠ nb → w'.heap[k]? = w.heap[k]?

theorem Bn.refl (nb : Nat) (w : World) : Bn nb w w := ⟨rfl, rfl, rfl, Nat.le_refl _, fun _ _ _ => rfl⟩

theorem Bn.trans {nb : Nat} {a b c : World} (h : Bn nb a b) (k : Bn nb b c) : Bn nb a c :=
  ⟨k.os.trans h.os, k.tape.trans h.tape, k.output.trans h.output, Nat.le_trans h.size k.size, fun i hi hn => (k.block i (Nat.lt_of_lt_of_le hi h.size) hn).trans (h.block i hi hn)⟩

theorem Bn.of_below {nb : Nat} {w w' : World} (h : Below w.heap.size w w') : Bn nb w w' := ⟨h.os, h.tape, h.output, h.size, fun k hk _ => h.block k hk⟩

theorem Bn.alloc (nb : Nat) (w : World) (o : Obj) : Bn nb w (w.alloc o) := Bn.of_below ((Below.refl _ _).alloc (Nat.le_refl _) _)

theorem Bn.drew {nb : Nat} (w : World) : Bn nb w w.drew := Bn.of_below ((Below.refl _ _).drew)

theorem Bn.set {nb : Nat} (w : World) (i : Nat) (v : Value) : Bn nb w (w.setCell ⟨nb, i, none⟩ v) := by
  have h := (Below.refl nb w).setCell (p := ⟨nb, i, none⟩) (Nat.le_refl nb) v
  refine ⟨h.os, h.tape, h.output, h.size, fun k hk hn => ?_⟩
  show (w.heap.modify nb _)[k]? = _
  rw [Array.getElem?_modify, if_neg (fun e => hn e.symm)]

theorem Bn.to_below {nb B : Nat} {w0 w w' : World} (h : Bn nb w w') (hb : Below B w0 w) (hn : B ≤ nb) (hB : B ≤ w.heap.size) : Below B w0 w' :=
  ⟨h.os.trans hb.os, h.tape.trans hb.tape, h.output.trans hb.output, Nat.le_trans hb.size h.size, fun k hk => (h.block k (by omega) (by omega)).trans (hb.block k hk)⟩

theorem Bn.cell {nb : Nat} {w w' : World} (h : Bn nb w w') {b o : Nat} {v : Value} (hc : w.cell? ⟨b, o, none⟩ = some v) (hn : b ≠ nb) : w'.cell? ⟨b, o, none⟩ = some v := by
  have := h.block b (lt_of_cell hc) hn
  unfold World.cell? at hc ⊢
  rw [this]
  exact hc

theorem Bn.keeps {nb n : Nat} {V : Nat → Bool} {w w' : World} (h : Bn nb w w') (hN : NB w nb n V) : Keeps3 w w' := by
  rintro b ⟨o, p, m, c, hc⟩ o' v hv
  refine h.cell hv fun e => ?_
  subst e
  exact hN.noslice hc

/-- the functions lie as they lay where all blocks with slices in them are as they were -/
theorem IsF.keeps {w w' : World} (hk : Keeps3 w w') {F : Fu} {p : Option Addr} {n cap : Nat} (h : IsF w F p n cap) : IsF w' F p n cap := by
  obtain ⟨h1, h2, h3, h4, h5⟩ := h
  refine ⟨h1, h2, h3, h4, ?_⟩
  rcases h5 with h5 | ⟨b, off, e, hr⟩
  · exact Or.inl h5
  · refine Or.inr ⟨b, off, e, fun i hi => ?_⟩
    obtain ⟨p, n, c, q, m, d, e1, e2, e3, e4, e5, e6, e7⟩ := hr i hi
    have hs : ∃ o p n cap, w.cell? ⟨b, o, none⟩ = some (.slice p n cap) := ⟨_, _, _, _, e2⟩
    exact ⟨p, n, c, q, m, d, hk b hs _ _ e1, hk b hs _ _ e2, hk b hs _ _ e3, hk b hs _ _ e4, hk b hs _ _ e5, e6.keeps hk.sorts, e7.keeps hk⟩

end Go.Proofs.YtjdnbmcjnkmgdaaGreatDoor

/-
  The walk of Ranks: what it answers, for whatever scheme. Conditions: none but that the scheme lies in memory.
-/
set_option linter.unusedSimpArgs false
set_option linter.unusedVariables false
namespace Go.Proofs.YtjdnbmcjnkmgdaaGreatDoor
open Go.RowKit

def rks (S : Sy) (j : Nat) : List Int := (List.range j).map S.rk

theorem rks_snoc (S : Sy) (j : Nat) : (rks S j).map intv ++ [Value.int .i64 (S.rk j)] = (rks S (j + 1)).map intv := by
  unfold rks
  rw [List.range_succ, List.map_append, List.map_append]
  rfl

def Sc.ranks (x : Sc) : List Int := if scOk x = true then rks x.S x.S.len else []

theorem scOk_syms {x : Sc} (h : scOk x = true) : x.S.len ≤ 24 := by
  unfold scOk at h
  simp only [Bool.and_eq_true] at h
  have h2 := plOk_syms h.1.2
  unfold symsOk at h2
  simp only [Bool.and_eq_true, decide_eq_true_eq] at h2
  exact h2.1

def RanksPost (w : World) (x : Sc) (e : Ending) (w' : World) : Prop :=
  ∃ v, e = .returned (.tuple #[v, .int .i64 (scE x)]) ∧ w'.ownsRow w.heap.size 3 1 v x.ranks.length (x.ranks.map intv) ∧ Below w.heap.size w w'

set_option maxRecDepth 100000 in
set_option maxHeartbeats 2000000 in
theorem sranks_any (x : Sc) (a : At2) (w : World) (h : IsC w x a) :
    Calls Tryz.prog 21 #[.agg #[.slice a.sp a.sn a.sc, .slice a.fp a.fn a.fc]] w (RanksPost w x) := by
  obtain ⟨i0, hi0, hz0, hz1, hz2⟩ := info_parts infoI
  have HC := Lib.hid (fun W h => scheck_any x a W h)
  obtain ⟨sp, sn, sc, fp, fn, fc⟩ := a
  obtain ⟨hS, hF⟩ := id h
  dsimp only at hS hF HC ⊢
  obtain rfl : sn = x.S.len := hS.1
  have hbx := heap_new w (.cells #[.slice sp x.S.len sc, .slice fp fn fc] 25)
  obtain ⟨s1, s2⟩ := two_cells hbx
  obtain ⟨_, hcap, hmax, _, hrow⟩ := id hS
  unfold maxLen at hmax
  have HX := Lib.hid hbx
  have HH := Lib.hid h
  unfold RanksPost
  cases hok : scOk x with
  | false =>
    have e1 : scE x = 7 := by unfold scE; rw [hok]; rfl
    have e2 : x.ranks = [] := by unfold Sc.ranks; rw [hok]; rfl
    rw [e1] at HC ⊢
    rw [e2]
    clear e1 e2 hok hS hF hbx h hcap hmax hrow
    go_enter Tryz.func21, Tryz.ntmps21
    go_wp2_with fail
    refine (HC.out _ (HH.out.alloc _)).mono ?_
    rintro e w1 ⟨rfl, hb1⟩
    go_wp2_with fail
    go_ret2
    exact ⟨_, rfl, World.ownsRow_nil _ _ _ _, below_call hb1⟩
  | true =>
    have e1 : scE x = 0 := by unfold scE; rw [hok]; rfl
    have e2 : x.ranks = rks x.S x.S.len := by unfold Sc.ranks; rw [hok]; rfl
    have h24 := scOk_syms hok
    rw [e1] at HC ⊢
    rw [e2]
    clear e1 e2 hok hS hF hbx h
    go_enter Tryz.func21, Tryz.ntmps21
    go_wp2_with fail
    refine (HC.out _ (HH.out.alloc _)).mono ?_
    rintro e w1 ⟨rfl, hb1⟩
    obtain ⟨s3, s4⟩ := two_cells (box3_later hb1 HX.out)
    have HB := Lib.hid (below_call hb1)
    clear s1 s2 hb1 HX
    go_wp2_with fail
    go_loopw [5, 16] (fun u i wr => ∃ (j : Nat) (v : Value), j ≤ x.S.len ∧ i = .int .i64 (j : Int) ∧ v = u ∧ wr.ownsRow w.heap.size 3 1 v j ((rks x.S j).map intv) ∧ Below w.heap.size w wr)
      (fun _ i _ => x.S.len - (Go.RowKit.intOf i).toNat)
    case atStart => exact ⟨0, _, Nat.zero_le _, rfl, rfl, World.ownsRow_nil _ _ _ _, HB.out⟩
    case round =>
      clear HB s3 s4
      obtain ⟨j, v, hj, rfl, rfl, hown, hb⟩ := hrel
      by_cases hlt : j < x.S.len
      · rcases hrow with h0 | ⟨b, off, rfl, hr⟩
        · omega
        obtain ⟨e1, e2⟩ := hr j hlt
        have hkk := (bcell hb).1
        have f1 := (hkk _ _ (lt_of_cell e1)).trans e1
        have f2 := (hkk _ _ (lt_of_cell e2)).trans e2
        have hsn := Lib.hid (rks_snoc x.S j)
        generalize x.S.nm j = s at f1
        generalize x.S.rk j = rk at f2 hsn
        clear hkk e1 e2
        have hmx : j + 1 ≤ maxLen := by simp only [maxLen]; omega
        go_upto_region 8 with fail
        have ho2 := hown.alloc (.cells #[.string s, .int .i64 rk] 64)
        have hb2 := hb.alloc hb.size (.cells #[.string s, .int .i64 rk] 64)
        obtain ⟨v1, v2⟩ := two_cells (heap_new wr (.cells #[.string s, .int .i64 rk] 64))
        generalize wr.heap.size = bf at v1 v2 ⊢
        generalize wr.alloc (.cells #[.string s, .int .i64 rk] 64) = W2 at ho2 hb2 v1 v2 ⊢
        have hz := hb2.size
        clear hown hb f1 f2
        go_wp2_with (at_builtin; refine wpList_append_own _ rfl (.tmp 20) (.tmp 23) 33 rfl w.heap.size 3 i0 (.int .i64 0) 1 8 Tryz.underlying33 hi0 hz0 hz1 hz2 rfl Nat.one_pos v j _ rfl (ho2.alloc _) ⟨W2.heap.size, 0, none⟩ 1 1 [.int .i64 rk] rfl rfl (cell_one_new _ _ _) (one_intv rk) hmx (by omega) (by simp; omega) ?_; intro v1' w9 hown1 hgrow1 _)
        have hb9 := below_own hb2 ho2 hgrow1
        rw [hsn.out] at hown1
        go_roundw
        case rel => exact ⟨j + 1, _, by omega, by go_num, rfl, hown1, hb9⟩
        case measure => simp [Go.RowKit.intOf]; omega
      · obtain rfl : j = x.S.len := by omega
        have hl : (rks x.S x.S.len).length = x.S.len := by simp [rks]
        have HL := Lib.hid hl
        clear hl
        go_wp2_with fail
        go_ret2
        exact ⟨_, rfl, by rw [HL.out]; exact hown, hb⟩

end Go.Proofs.YtjdnbmcjnkmgdaaGreatDoor

/-
  The walks of need, needIn and Reach. Conditions: that the scheme lies in memory; of the first two, that it is valid.
-/
set_option linter.unusedSimpArgs false
set_option linter.unusedVariables false
namespace Go.Proofs.YtjdnbmcjnkmgdaaGreatDoor
open Go.RowKit Go.Maps

/-- what a visit leaves behind -/
def Seen (x : Sc) (nb : Nat) (w : World) (V : Nat → Bool) (R : Nat → Prop) (e : Ending) (w' : World) : Prop :=
  e = .returned (.tuple #[]) ∧ ∃ V', NB w' nb x.F.len V' ∧ Bn nb w w' ∧ Dfs x V V' R

set_option maxRecDepth 100000 in
set_option maxHeartbeats 4000000 in
theorem need_of (x : Sc) (hg : Good x) (sp fp : Option Addr) (sn sc fc nb N : Nat)
    (ih : ∀ (t : X) (k n : Int) (w : World) (V : Nat → Bool) (p : Option Addr) (l cap : Nat), cntV V x.F.len * 1000 + t.sz < N → t.sz ≤ 400 → goodH x k n → goodX x t → IsX w t p l cap → IsF w x.F fp x.F.len fc → NB w nb x.F.len V →
      Calls Tryz.prog 89 #[.agg #[.slice sp sn sc, .slice fp x.F.len fc], .agg #[.int .i64 k, .int .i64 n, .slice p l cap], .slice (some ⟨nb, 0, none⟩) x.F.len x.F.len] w (Seen x nb w V (fun i => call1 i k n t = true)))
    (m : Nat) (hm : m < x.F.len) (w : World) (V : Nat → Bool) (hc : cntV V x.F.len * 1000 ≤ N) (hF : IsF w x.F fp x.F.len fc) (hN : NB w nb x.F.len V) :
    Calls Tryz.prog 46 #[.agg #[.slice sp sn sc, .slice fp x.F.len fc], .int .i64 (m : Int), .slice (some ⟨nb, 0, none⟩) x.F.len x.F.len] w (Seen x nb w V (fun i => i = m)) := by
  have hlen := hg.funs
  have hsz := hg.size m hm
  have hgh := hg.head m hm
  have hgx := hg.body m hm
  have hbx := heap_new w (.cells #[.slice sp sn sc, .slice fp x.F.len fc] 25)
  have hN1 := hN.below ((Below.refl _ _).alloc (Nat.le_refl _) (.cells #[.slice sp sn sc, .slice fp x.F.len fc] 25))
  have hB1 := Bn.alloc nb w (.cells #[.slice sp sn sc, .slice fp x.F.len fc] 25)
  have hne : w.heap.size ≠ nb := by have := hN.lt; omega
  obtain ⟨c1, c2⟩ := hN1.cell hm
  have IH := Lib.hid ih
  have HG := Lib.hid (And.intro hgh hgx)
  clear ih hgh hgx
  cases hv : V m with
  | true =>
    rw [hv] at c1
    have HR : Seen x nb w V (fun i => i = m) (.returned (.tuple #[])) (w.alloc (.cells #[.slice sp sn sc, .slice fp x.F.len fc] 25)) := ⟨rfl, V, hN1, hB1, Dfs.same (by rintro i rfl; exact hv)⟩
    have HR' := Lib.hid HR
    clear HR hN1 hB1 hbx hF hN hv
    go_enter Tryz.func46, Tryz.ntmps46
    go_wp2_with fail
    go_end0
    exact HR'.out
  | false =>
    rw [hv] at c1
    have hcnt := cntV_upd hv x.F.len hm
    have hN2 := hN1.set m
    have hB2 := hB1.trans (Bn.set (nb := nb) (w.alloc (.cells #[.slice sp sn sc, .slice fp x.F.len fc] 25)) m (.bool true))
    have hbx2 : ((w.alloc (.cells #[.slice sp sn sc, .slice fp x.F.len fc] 25)).setCell ⟨nb, m, none⟩ (.bool true)).heap[w.heap.size]? = some (.cells #[.slice sp sn sc, .slice fp x.F.len fc] 25 (0, 0)) :=
      ((Bn.set (nb := nb) _ m (.bool true)).block w.heap.size (by simp) hne).trans hbx
    have hF2 := hF.keeps (hB2.keeps hN)
    obtain ⟨b, off, rfl, p, n, c, q, l, d, e1, e2, e3, e4, e5, e6, e7⟩ := rowF_all hF2 hm
    obtain ⟨⟨s1, s2⟩, _⟩ := two_box hbx2
    generalize hW : (w.alloc (.cells #[.slice sp sn sc, .slice (some ⟨b, off, none⟩) x.F.len fc] 25)).setCell ⟨nb, m, none⟩ (.bool true) = W2 at hN2 hB2 hbx2 hF2 e1 e2 e3 e4 e5 e6 e7 s1 s2
    have HW2 := Lib.hid (And.intro hN2 (And.intro hB2 (And.intro hF2 e7)))
    have H := Lib.hid fun W (h1 : NB W nb x.F.len (updV V m)) (h2 : IsF W x.F (some ⟨b, off, none⟩) x.F.len fc) (h3 : IsX W (x.F.bt m) q l d) => IH.out (x.F.bt m) (x.F.bk m) (x.F.bn m) W (updV V m) q l d (by omega) hsz HG.out.1 HG.out.2 h3 h2 h1
    generalize hbk : x.F.bk m = bk at e3 H
    generalize hbn : x.F.bn m = bn at e4 H
    have HBK := Lib.hid (And.intro hbk hbn)
    clear hN1 hB1 hbx hF hN hv hN2 hB2 hF2 e6 e7 hbx2 e1 e2 hbk hbn HG IH hcnt
    have HWE := Lib.hid hW
    clear hW
    go_enter Tryz.func46, Tryz.ntmps46
    go_wp2_with fail
    rw [HWE.out]
    go_still_tail 8, (by kernel_rfl)
    change wpList _ _ _ _ _ W2.drew
    go_wp2_with fail
    refine (H.out _ (HW2.out.1.below (below_drewN (Below.refl _ _) 1)) (HW2.out.2.2.1.below (below_drewN (Below.refl _ _) 1)) (HW2.out.2.2.2.below (below_drewN (Below.refl _ _) 1))).mono ?_
    rintro e w3 ⟨rfl, V', g1, g2, g3⟩
    go_wp2_with fail
    go_end0
    refine ⟨rfl, V', g1, HW2.out.2.1.trans ((Bn.drew W2).trans g2), Dfs.visit (g3.congr fun i => ?_)⟩
    unfold callB
    rw [HBK.out.1, HBK.out.2]

set_option maxRecDepth 100000 in
set_option maxHeartbeats 4000000 in
theorem needin_any (x : Sc) (hg : Good x) (sp fp : Option Addr) (sn sc fc nb N : Nat) :
    ∀ (t : X) (k n : Int) (w : World) (V : Nat → Bool) (p : Option Addr) (l cap : Nat), cntV V x.F.len * 1000 + t.sz < N → t.sz ≤ 400 → goodH x k n → goodX x t → IsX w t p l cap → IsF w x.F fp x.F.len fc → NB w nb x.F.len V →
      Calls Tryz.prog 89 #[.agg #[.slice sp sn sc, .slice fp x.F.len fc], .agg #[.int .i64 k, .int .i64 n, .slice p l cap], .slice (some ⟨nb, 0, none⟩) x.F.len x.F.len] w (Seen x nb w V (fun i => call1 i k n t = true)) := by
  induction N with
  | zero => intro t k n w V p l cap h; omega
  | succ N ih =>
    intro t k n w V p l cap hM h400 hgh hgx hX hF hN
    have IH := Lib.hid ih
    have ND := Lib.hid fun m hm w V hc hF hN => need_of x hg sp fp sn sc fc nb N ih m hm w V hc hF hN
    clear ih
    obtain ⟨rfl, hcap, hmax, hnil, hrow⟩ := id hX
    unfold maxLen at hmax
    have hb1 := alloc_kept (heap_new w (.cells #[.slice sp sn sc, .slice fp x.F.len fc] 25)) (.cells #[.int .i64 k, .int .i64 n, .slice p t.len cap] 50)
    have hb2 := heap_new2 w (.cells #[.slice sp sn sc, .slice fp x.F.len fc] 25) (.cells #[.int .i64 k, .int .i64 n, .slice p t.len cap] 50)
    have hBn := (Bn.alloc nb w (.cells #[.slice sp sn sc, .slice fp x.F.len fc] 25)).trans (Bn.alloc nb _ (.cells #[.int .i64 k, .int .i64 n, .slice p t.len cap] 50))
    have hN1 := (hN.below ((Below.refl _ _).alloc (Nat.le_refl _) (.cells #[.slice sp sn sc, .slice fp x.F.len fc] 25))).below ((Below.refl _ _).alloc (Nat.le_refl _) (.cells #[.int .i64 k, .int .i64 n, .slice p t.len cap] 50))
    have hne1 : w.heap.size ≠ nb := by have := hN.lt; omega
    have hne2 : w.heap.size + 1 ≠ nb := by have := hN.lt; omega
    have HW := Lib.hid (And.intro hX (And.intro hF hN))
    have HGX := Lib.hid hgx
    obtain ⟨hn0, hgh'⟩ := hgh
    -- behind the head: the visited ones, the boxes
    obtain ⟨m, rfl⟩ : ∃ m : Nat, n = m := ⟨n.toNat, by omega⟩
    -- the loop over the arguments
    have step : ∀ (V0 V' : Nat → Bool) (j : Nat), j < t.len → Dfs x V V0 (fun i => k = 1 ∧ (m : Int) = (i : Int) ∨ ∃ j', j' < j ∧ call1 i (t.gk j') (t.gn j') (t.ga j') = true) → Dfs x V0 V' (fun i => call1 i (t.gk j) (t.gn j) (t.ga j) = true) →
        Dfs x V V' (fun i => k = 1 ∧ (m : Int) = (i : Int) ∨ ∃ j', j' < j + 1 ∧ call1 i (t.gk j') (t.gn j') (t.ga j') = true) := by
      intro V0 V' j hj h1 h2
      refine h1.seq h2 fun i => ?_
      constructor
      · rintro (h | ⟨j', h3, h4⟩)
        · exact Or.inl (Or.inl h)
        · by_cases e : j' = j
          · subst e; exact Or.inr h4
          · exact Or.inl (Or.inr ⟨j', by omega, h4⟩)
      · rintro ((h | ⟨j', h3, h4⟩) | h)
        · exact Or.inl h
        · exact Or.inr ⟨j', by omega, h4⟩
        · exact Or.inr ⟨j, by omega, h⟩
    have last : ∀ V', Dfs x V V' (fun i => k = 1 ∧ (m : Int) = (i : Int) ∨ ∃ j', j' < t.len ∧ call1 i (t.gk j') (t.gn j') (t.ga j') = true) → Dfs x V V' (fun i => call1 i k m t = true) := by
      intro V' h
      refine h.congr fun i => ?_
      unfold call1
      rw [Bool.or_eq_true, Bool.and_eq_true, decide_eq_true_eq, decide_eq_true_eq, callX_iff]
      exact Iff.rfl
    have HST := Lib.hid (And.intro step last)
    clear step last hX hF hN hgx
    by_cases hk : k = 1
    · subst hk
      have hd : ((1 : Int) == 1) = true := by simp
      have hm : m < x.F.len := by
        rcases hgh' with ⟨h, _⟩ | ⟨_, h⟩ | ⟨h, _⟩ <;> omega
      obtain ⟨⟨s1, s2⟩, _⟩ := two_box hb1
      obtain ⟨⟨y1, y2, y3⟩, _⟩ := term_box hb2
      have hcN : cntV V x.F.len * 1000 ≤ N := by omega
      have HB := Lib.hid (And.intro hb1 (And.intro hb2 (And.intro hBn hN1)))
      have HF1 := Lib.hid ((HW.out.2.1.alloc (.cells #[.slice sp sn sc, .slice fp x.F.len fc] 25)).alloc (.cells #[.int .i64 1, .int .i64 (m : Int), .slice p t.len cap] 50))
      clear hb1 hb2 hBn hN1
      go_enter Tryz.func89, Tryz.ntmps89
      go_wp2_with fail
      refine (ND.out m hm _ V hcN HF1.out HB.out.2.2.2).mono ?_
      rintro e w1 ⟨rfl, V1, g1, g2, g3⟩
      have hb1' := (g2.block w.heap.size (by simp; omega) hne1).trans HB.out.1
      have hb2' := (g2.block (w.heap.size + 1) (by simp) hne2).trans HB.out.2.1
      have hD : Dfs x V V1 (fun i => True ∧ (m : Int) = (i : Int) ∨ ∃ j', j' < 0 ∧ call1 i (t.gk j') (t.gn j') (t.ga j') = true) := g3.congr fun i => by
        constructor
        · rintro (⟨_, h⟩ | ⟨j', h, _⟩)
          · omega
          · omega
        · rintro rfl; exact Or.inl ⟨trivial, rfl⟩
      have HS := Lib.hid (And.intro hb1' (And.intro g1 (And.intro (HB.out.2.2.1.trans g2) hD)))
      clear s1 s2 y1 y2 y3
      obtain ⟨⟨y1, y2, y3⟩, _⟩ := term_box hb2'
      clear HB g1 g2 g3 hb1' hb2' hD hd
      go_wp2_with fail
      go_loopw [19] (fun v wr => ∃ (j : Nat) (V' : Nat → Bool), j ≤ t.len ∧ v = .int .i64 (j : Int) ∧ NB wr nb x.F.len V' ∧ Bn nb w wr ∧ wr.heap[w.heap.size]? = some (.cells #[.slice sp sn sc, .slice fp x.F.len fc] 25 (0, 0)) ∧ Dfs x V V' (fun i => True ∧ (m : Int) = (i : Int) ∨ ∃ j', j' < j ∧ call1 i (t.gk j') (t.gn j') (t.ga j') = true))
        (fun v _ => t.len - (Go.RowKit.intOf v).toNat)
      case atStart => exact ⟨0, V1, Nat.zero_le _, rfl, HS.out.2.1, HS.out.2.2.1, HS.out.1, HS.out.2.2.2⟩
      case round =>
        clear HS y1 y2 y3
        obtain ⟨j, V', hj, rfl, hNr, hBr, hbr, hDr⟩ := hrel
        have HR := Lib.hid (And.intro hNr (And.intro hBr (And.intro hbr hDr)))
        have s1 := fun o => (two_box (alloc_kept hbr o)).1.1
        have s2 := fun o => (two_box (alloc_kept hbr o)).1.2
        have hcm := cntV_mono hDr.mono x.F.len
        by_cases hlt : j < t.len
        · rcases hrow with h0 | ⟨b, off, rfl, hr⟩
          · omega
          obtain ⟨hck, hcn, p', n', cap', hc, hi⟩ := base3_at (hBr.keeps HW.out.2.2) hr hlt
          have hsz := t.sz_ga j hlt
          obtain ⟨hgj, hgxj⟩ := goodX_at HGX.out hlt
          have HI := Lib.hid (And.intro hi (HW.out.2.1.keeps (hBr.keeps HW.out.2.2)))
          have HC := Lib.hid fun W (h1 : IsX W (t.ga j) p' n' cap') (h2 : IsF W x.F fp x.F.len fc) (h3 : NB W nb x.F.len V') => IH.out (t.ga j) (t.gk j) (t.gn j) W V' p' n' cap' (by omega) (by omega) hgj hgxj h1 h2 h3
          have HSX := Lib.hid fun V2 h => HST.out.1 V' V2 j hlt hDr h
          generalize t.gk j = kj at hck HC HSX
          generalize t.gn j = nj at hcn HC HSX
          clear hNr hBr hbr hDr hi hr hgj hgxj
          go_wp2_with fail
          refine (HC.out _ (HI.out.1.alloc _) (HI.out.2.alloc _) (HR.out.1.below ((Below.refl _ _).alloc (Nat.le_refl _) _))).mono ?_
          rintro e w2 ⟨rfl, V2, g1, g2, g3⟩
          have hB2 := HR.out.2.1.trans ((Bn.alloc nb wr _).trans g2)
          have hb2 := ((Bn.alloc nb wr _).trans g2).block w.heap.size (lt_of_block HR.out.2.2.1) hne1
          have HF := Lib.hid (And.intro g1 (And.intro hB2 (And.intro (hb2.trans HR.out.2.2.1) (HSX.out V2 g3))))
          clear g1 g2 g3 hB2 hb2
          go_wp2_with fail
          go_roundw
          case rel => exact ⟨j + 1, V2, by omega, by go_num, HF.out.1, HF.out.2.1, HF.out.2.2.1, HF.out.2.2.2⟩
          case measure => simp [Go.RowKit.intOf]; omega
        · obtain rfl : j = t.len := by omega
          have HF := Lib.hid (And.intro hNr (And.intro hBr (HST.out.2 V' hDr)))
          clear hNr hBr hDr
          go_wp2_with fail
          go_end0
          exact ⟨rfl, V', HF.out.1, HF.out.2.1, HF.out.2.2⟩
    · have hd : (k == 1) = false := by simp [hk]
      obtain ⟨⟨y1, y2, y3⟩, _⟩ := term_box hb2
      have hD : Dfs x V V (fun i => k = 1 ∧ (m : Int) = (i : Int) ∨ ∃ j', j' < 0 ∧ call1 i (t.gk j') (t.gn j') (t.ga j') = true) := Dfs.same (by
        rintro i (⟨h, _⟩ | ⟨j', h, _⟩)
        · exact absurd h hk
        · omega)
      have HS := Lib.hid (And.intro hb1 (And.intro hN1 (And.intro hBn hD)))
      clear hb1 hb2 hBn hN1 hD
      go_enter Tryz.func89, Tryz.ntmps89
      go_wp2_with fail
      go_loopw [19] (fun v wr => ∃ (j : Nat) (V' : Nat → Bool), j ≤ t.len ∧ v = .int .i64 (j : Int) ∧ NB wr nb x.F.len V' ∧ Bn nb w wr ∧ wr.heap[w.heap.size]? = some (.cells #[.slice sp sn sc, .slice fp x.F.len fc] 25 (0, 0)) ∧ Dfs x V V' (fun i => k = 1 ∧ (m : Int) = (i : Int) ∨ ∃ j', j' < j ∧ call1 i (t.gk j') (t.gn j') (t.ga j') = true))
        (fun v _ => t.len - (Go.RowKit.intOf v).toNat)
      case atStart => exact ⟨0, V, Nat.zero_le _, rfl, HS.out.2.1, HS.out.2.2.1, HS.out.1, HS.out.2.2.2⟩
      case round =>
        clear HS y1 y2 y3
        obtain ⟨j, V', hj, rfl, hNr, hBr, hbr, hDr⟩ := hrel
        have HR := Lib.hid (And.intro hNr (And.intro hBr (And.intro hbr hDr)))
        have s1 := fun o => (two_box (alloc_kept hbr o)).1.1
        have s2 := fun o => (two_box (alloc_kept hbr o)).1.2
        have hcm := cntV_mono hDr.mono x.F.len
        by_cases hlt : j < t.len
        · rcases hrow with h0 | ⟨b, off, rfl, hr⟩
          · omega
          obtain ⟨hck, hcn, p', n', cap', hc, hi⟩ := base3_at (hBr.keeps HW.out.2.2) hr hlt
          have hsz := t.sz_ga j hlt
          obtain ⟨hgj, hgxj⟩ := goodX_at HGX.out hlt
          have HI := Lib.hid (And.intro hi (HW.out.2.1.keeps (hBr.keeps HW.out.2.2)))
          have HC := Lib.hid fun W (h1 : IsX W (t.ga j) p' n' cap') (h2 : IsF W x.F fp x.F.len fc) (h3 : NB W nb x.F.len V') => IH.out (t.ga j) (t.gk j) (t.gn j) W V' p' n' cap' (by omega) (by omega) hgj hgxj h1 h2 h3
          have HSX := Lib.hid fun V2 h => HST.out.1 V' V2 j hlt hDr h
          generalize t.gk j = kj at hck HC HSX
          generalize t.gn j = nj at hcn HC HSX
          clear hNr hBr hbr hDr hi hr hgj hgxj
          go_wp2_with fail
          refine (HC.out _ (HI.out.1.alloc _) (HI.out.2.alloc _) (HR.out.1.below ((Below.refl _ _).alloc (Nat.le_refl _) _))).mono ?_
          rintro e w2 ⟨rfl, V2, g1, g2, g3⟩
          have hB2 := HR.out.2.1.trans ((Bn.alloc nb wr _).trans g2)
          have hb2 := ((Bn.alloc nb wr _).trans g2).block w.heap.size (lt_of_block HR.out.2.2.1) hne1
          have HF := Lib.hid (And.intro g1 (And.intro hB2 (And.intro (hb2.trans HR.out.2.2.1) (HSX.out V2 g3))))
          clear g1 g2 g3 hB2 hb2
          go_wp2_with fail
          go_roundw
          case rel => exact ⟨j + 1, V2, by omega, by go_num, HF.out.1, HF.out.2.1, HF.out.2.2.1, HF.out.2.2.2⟩
          case measure => simp [Go.RowKit.intOf]; omega
        · obtain rfl : j = t.len := by omega
          have HF := Lib.hid (And.intro hNr (And.intro hBr (HST.out.2 V' hDr)))
          clear hNr hBr hDr
          go_wp2_with fail
          go_end0
          exact ⟨rfl, V', HF.out.1, HF.out.2.1, HF.out.2.2⟩

end Go.Proofs.YtjdnbmcjnkmgdaaGreatDoor

/-
  The walk of Reach: what it answers, for whatever scheme. Conditions: none but that the scheme lies in memory.
-/
set_option linter.unusedSimpArgs false
set_option linter.unusedVariables false
namespace Go.Proofs.YtjdnbmcjnkmgdaaGreatDoor
open Go.RowKit Go.Maps

open Classical in
/-- the functions that are needed, in order -/
noncomputable def rchL (x : Sc) : List Int := if h : scOk x = true ∧ ∃ V, Least x V then visL (Classical.choose h.2) x.F.len else []

theorem rchL_of {x : Sc} {V : Nat → Bool} (hok : scOk x = true) (h : Least x V) : visL V x.F.len = rchL x := by
  have h' : scOk x = true ∧ ∃ V, Least x V := ⟨hok, V, h⟩
  unfold rchL
  rw [dif_pos h']
  exact visL_congr fun i hi => h.unique (Classical.choose_spec h'.2) i hi

theorem rchL_no {x : Sc} (h : scOk x = false) : rchL x = [] := by
  unfold rchL
  rw [dif_neg (by simp [h])]

theorem rchL_len {x : Sc} : (rchL x).length ≤ x.F.len := by
  unfold rchL
  split
  · exact visL_len _ _
  · simp

def ReachPost (w : World) (x : Sc) (e : Ending) (w' : World) : Prop :=
  ∃ v, e = .returned (.tuple #[v, .int .i64 (scE x)]) ∧ w'.ownsRow w.heap.size 3 1 v (rchL x).length ((rchL x).map intv) ∧ Below w.heap.size w w'

theorem infoBl : (Tryz.prog.info? 4).map (fun i => (i.zero, i.size, i.bytes)) = some (some (.bool false), 1, 1) := by kernel_rfl

theorem run_make_bools (n : Nat) (hn : n ≤ 64) (w : World) : (Instr.makeSlice 69 (.int .i64 (n : Int)) (.int .i64 (n : Int))).run Tryz.prog w = .ok (.slice (some ⟨w.heap.size, 0, none⟩) n n) (w.alloc (.cells (madeCells #[.bool false] n) 4)) :=
  run_make_row' (P := Tryz.prog) 69 4 (.bool false) 1 Tryz.underlying69 infoBl rfl .i64 .i64 n (by omega) (by omega) w

theorem NB.grown {W W2 : World} {nb n B k : Nat} {V : Nat → Bool} {v : Value} {xs : List Value} {o : Obj} (h : NB W nb n V) (ho : W.ownsRow B 3 1 v k xs) (hg : (W.alloc o).grownBy W2 v.ownBlock) : NB W2 nb n V := by
  have h1 := h.below ((Below.refl _ _).alloc (Nat.le_refl _) o)
  refine h1.of_block (hg.block nb h1.lt ?_)
  obtain ⟨_, h2⟩ := ho
  rcases h2 with ⟨rfl, _⟩ | ⟨g, cap, cur, rfl, _, hgb, _⟩
  · intro e; cases e
  · intro e
    obtain rfl : nb = g := Option.some.inj e
    unfold NB at h
    rw [h] at hgb
    cases hgb

theorem visL_snoc {V : Nat → Bool} {j : Nat} (h : V j = true) : (visL V j).map intv ++ [Value.int .i64 (j : Int)] = (visL V (j + 1)).map intv := by
  rw [← visL_yes h, List.map_append]; rfl

theorem visL_snoc_len {V : Nat → Bool} {j : Nat} (h : V j = true) : (visL V j).length + 1 = (visL V (j + 1)).length := by
  rw [← visL_yes h, List.length_append]; rfl

set_option maxRecDepth 100000 in
set_option maxHeartbeats 4000000 in
theorem sreach_any (x : Sc) (a : At2) (w : World) (h : IsC w x a) :
    Calls Tryz.prog 24 #[.agg #[.slice a.sp a.sn a.sc, .slice a.fp a.fn a.fc]] w (ReachPost w x) := by
  obtain ⟨i0, hi0, hz0, hz1, hz2⟩ := info_parts infoI
  have HC := Lib.hid (fun W h => scheck_any x a W h)
  obtain ⟨sp, sn, sc, fp, fn, fc⟩ := a
  obtain ⟨hS, hF⟩ := id h
  dsimp only at hS hF HC ⊢
  obtain rfl : fn = x.F.len := hF.1
  have hbx := heap_new w (.cells #[.slice sp sn sc, .slice fp x.F.len fc] 25)
  obtain ⟨s1, s2⟩ := two_cells hbx
  have HX := Lib.hid hbx
  have HH := Lib.hid h
  unfold ReachPost
  cases hok : scOk x with
  | false =>
    have e1 : scE x = 7 := by unfold scE; rw [hok]; rfl
    rw [e1] at HC ⊢
    rw [rchL_no hok]
    clear e1 hok hS hF hbx h
    go_enter Tryz.func24, Tryz.ntmps24
    go_wp2_with fail
    refine (HC.out _ (HH.out.alloc _)).mono ?_
    rintro e w1 ⟨rfl, hb1⟩
    go_wp2_with fail
    go_ret2
    exact ⟨_, rfl, World.ownsRow_nil _ _ _ _, below_call hb1⟩
  | true =>
    have e1 : scE x = 0 := by unfold scE; rw [hok]; rfl
    have hg := good_of hok
    have h64 := hg.funs
    have hpos := hg.some
    rw [e1] at HC ⊢
    have hmk := run_make_bools x.F.len h64
    have HND := Lib.hid fun nb w hN hF => need_of x hg sp fp sn sc fc nb (cntV (fun _ => false) x.F.len * 1000) (needin_any x hg sp fp sn sc fc nb _) 0 hpos w (fun _ => false) (Nat.le_refl _) hF hN
    have HL := Lib.hid fun V (hD : Dfs x (fun _ => false) V (fun i => i = 0)) => rchL_of hok (Least.of_dfs hD hg)
    clear e1 hok hS hF hbx h hg
    go_enter Tryz.func24, Tryz.ntmps24
    go_wp2_with fail
    refine (HC.out _ (HH.out.alloc _)).mono ?_
    rintro e w1 ⟨rfl, hb1⟩
    have hbx1 := box3_later hb1 HX.out
    have s3 := fun o => (two_box (alloc_kept hbx1 o)).1.1
    have s4 := fun o => (two_box (alloc_kept hbx1 o)).1.2
    obtain ⟨s5, s6⟩ := two_cells hbx1
    have hB1 := below_call hb1
    have hN1 := NB.made (heap_new w1 (.cells (madeCells #[.bool false] x.F.len) 4))
    have hF1 := (HH.out.2.below hB1).alloc (.cells (madeCells #[.bool false] x.F.len) 4)
    have HB := Lib.hid (And.intro hB1 (And.intro hN1 hF1))
    clear s1 s2 hb1 HX hbx1 hB1 hN1 hF1
    go_wp2_with fail
    refine (HND.out _ _ HB.out.2.1 HB.out.2.2).mono ?_
    rintro e w2 ⟨rfl, V, g1, g2, g3⟩
    have hz1' : w.heap.size ≤ w1.heap.size := HB.out.1.size
    have hB2 : Below w.heap.size w w2 := g2.to_below (HB.out.1.alloc hz1' _) hz1' (by simp; omega)
    have HB2 := Lib.hid (And.intro hB2 (And.intro g1 (HL.out V g3)))
    generalize w1.heap.size = nb at g1 HB2 ⊢
    clear g1 g2 g3 hB2 HB s3 s4 s5 s6 HND HL hmk
    go_wp2_with fail
    go_loopw [6, 23] (fun u i wr => ∃ (j : Nat) (v : Value), j ≤ x.F.len ∧ i = .int .i64 (j : Int) ∧ v = u ∧ wr.ownsRow w.heap.size 3 1 v (visL V j).length ((visL V j).map intv) ∧ NB wr nb x.F.len V ∧ Below w.heap.size w wr)
      (fun _ i _ => x.F.len - (Go.RowKit.intOf i).toNat)
    case atStart => exact ⟨0, _, Nat.zero_le _, rfl, rfl, World.ownsRow_nil _ _ _ _, HB2.out.2.1, HB2.out.1⟩
    case round =>
      obtain ⟨j, v, hj, rfl, rfl, hown, hN, hb⟩ := hrel
      by_cases hlt : j < x.F.len
      · obtain ⟨c1, c2⟩ := hN.cell hlt
        have hvl := visL_len V j
        cases hv : V j with
        | true =>
          rw [hv] at c1
          have hsn := Lib.hid (And.intro (visL_snoc hv) (visL_snoc_len hv))
          have hmx : (visL V j).length + 1 ≤ maxLen := by simp only [maxLen]; omega
          have HN := Lib.hid hN
          have hz := hb.size
          clear hN hv
          go_upto_region 11 with fail
          go_wp2_with (at_builtin; refine wpList_append_own _ rfl (.tmp 29) (.tmp 31) 33 rfl w.heap.size 3 i0 (.int .i64 0) 1 8 Tryz.underlying33 hi0 hz0 hz1 hz2 rfl Nat.one_pos v (visL V j).length _ rfl (hown.alloc _) ⟨wr.heap.size, 0, none⟩ 1 1 [.int .i64 (j : Int)] rfl rfl (cell_one_new _ _ _) (one_intv (j : Int)) hmx (by omega) (by simp; omega) ?_; intro v1' w9 hown1 hgrow1 _)
          have hb9 := below_own hb hown hgrow1
          have hN9 := HN.out.grown hown hgrow1
          rw [hsn.out.1, hsn.out.2] at hown1
          have HF := Lib.hid (And.intro hown1 (And.intro hN9 hb9))
          clear hown1 hN9 hb9 hown hb
          go_roundw
          case rel => exact ⟨j + 1, _, by omega, by go_num, rfl, HF.out.1, HF.out.2.1, HF.out.2.2⟩
          case measure => simp [Go.RowKit.intOf]; omega
        | false =>
          rw [hv] at c1
          rw [visL_no hv] at hown
          have HF := Lib.hid (And.intro hown (And.intro hN hb))
          clear hown hN hb hv
          go_wp2_with fail
          go_roundw
          case rel => exact ⟨j + 1, _, by omega, by go_num, rfl, HF.out.1, HF.out.2.1, HF.out.2.2⟩
          case measure => simp [Go.RowKit.intOf]; omega
      · obtain rfl : j = x.F.len := by omega
        rw [HB2.out.2.2] at hown
        have HF := Lib.hid (And.intro hown hb)
        clear hown hb hN
        go_wp2_with fail
        go_ret2
        exact ⟨_, rfl, HF.out.1, HF.out.2⟩

end Go.Proofs.YtjdnbmcjnkmgdaaGreatDoor

/-
  The walks of the reference's Order and Ranks. Conditions: that the scheme lies in memory.
-/
set_option linter.unusedSimpArgs false
set_option linter.unusedVariables false
namespace Go.Proofs.YtjdnbmcjnkmgdaaGreatDoor
open Go.RowKit Go.Maps

set_option maxRecDepth 100000 in
set_option maxHeartbeats 2000000 in
theorem reforder3_any (x : Sc) (a : At2) (w : World) (h : IsC w x a) :
    Calls Tryz.prog 20 #[.agg #[.slice a.sp a.sn a.sc, .slice a.fp a.fn a.fc]] w fun e w' => e = .returned (.tuple #[.int .i64 (x.ordN : Int), .int .i64 (scE x)]) ∧ Below w.heap.size w w' := by
  have HC := Lib.hid (fun W h => refis3_any x a W h)
  obtain ⟨sp, sn, sc, fp, fn, fc⟩ := a
  obtain ⟨hS, hF⟩ := id h
  dsimp only at hS hF HC ⊢
  obtain rfl : fn = x.F.len := hF.1
  have hbx := heap_new w (.cells #[.slice sp sn sc, .slice fp x.F.len fc] 25)
  obtain ⟨s1, s2⟩ := two_cells hbx
  obtain ⟨_, hcap, hmax, _, hrow⟩ := id hF
  unfold maxLen at hmax
  have HX := Lib.hid hbx
  have HH := Lib.hid h
  cases hok : scOk x with
  | false =>
    have e1 : scE x = 7 := by unfold scE; rw [hok]; rfl
    have e2 : x.ordN = 0 := by unfold Sc.ordN; rw [hok]; rfl
    rw [hok] at HC
    rw [e1, e2]
    clear e1 e2 hok hS hF hbx h hcap hmax hrow
    go_enter Tryz.func20, Tryz.ntmps20
    go_wp2_with fail
    refine (HC.out _ (HH.out.alloc _)).mono ?_
    rintro e w1 ⟨rfl, hb1⟩
    go_wp2_with fail
    go_ret2
    exact ⟨rfl, below_call hb1⟩
  | true =>
    have e1 : scE x = 0 := by unfold scE; rw [hok]; rfl
    have e2 : x.ordN = ordF x.F 0 x.F.len 0 := by unfold Sc.ordN; rw [hok]; rfl
    obtain ⟨z, hz⟩ : ∃ z, x.ordN = z := ⟨_, rfl⟩
    have hvs := (good_of hok).sort
    rw [hok] at HC
    rw [e1]
    rw [hz] at e2 ⊢
    have HZ := Lib.hid e2.symm
    clear e1 e2 hz hok hS hF hbx h
    go_enter Tryz.func20, Tryz.ntmps20
    go_wp2_with fail
    refine (HC.out _ (HH.out.alloc _)).mono ?_
    rintro e w1 ⟨rfl, hb1⟩
    obtain ⟨s3, s4⟩ := two_cells (box3_later hb1 HX.out)
    have HB := Lib.hid (below_call hb1)
    clear s1 s2 hb1 HX
    go_wp2_with fail
    go_loopw [4, 13] (fun v i wr => ∃ j m : Nat, j ≤ x.F.len ∧ i = .int .i64 (j : Int) ∧ v = .int .i64 (m : Int) ∧ ordF x.F j (x.F.len - j) m = z ∧ Below w.heap.size w wr)
      (fun _ i _ => x.F.len - (Go.RowKit.intOf i).toNat)
    case atStart => exact ⟨0, 0, Nat.zero_le _, rfl, rfl, HZ.out, HB.out⟩
    case round =>
      clear HB s3 s4 HZ
      obtain ⟨j, m, hj, rfl, rfl, hm, hb⟩ := hrel
      by_cases hlt : j < x.F.len
      · rcases hrow with h0 | ⟨b, off, rfl, hr⟩
        · omega
        obtain ⟨p', n', c', q', m', d', e1, e2, e3, e4, e5, e6, e7⟩ := hr j hlt
        have hkk := (bcell hb).1
        have f1 := (hkk _ _ (lt_of_cell e1)).trans e1
        have f2 := (hkk _ _ (lt_of_cell e2)).trans e2
        have f3 := (hkk _ _ (lt_of_cell e3)).trans e3
        have f4 := (hkk _ _ (lt_of_cell e4)).trans e4
        have f5 := (hkk _ _ (lt_of_cell e5)).trans e5
        have hm2 : ordF x.F (j + 1) (x.F.len - (j + 1)) (max m (x.F.st j).oN) = z := by
          rw [← hm, show x.F.len - j = (x.F.len - (j + 1)) + 1 by omega]; rfl
        have HM := Lib.hid hm2
        have hor : (x.F.st j).ord = (x.F.st j).oN := by unfold T.oN; rw [if_pos (hvs j hlt)]
        have hO := fun W h => rank_any (x.F.st j).nodes (x.F.st j) W p' n' c' (Nat.le_refl _) (T.valid_nodes _ (hvs j hlt)) h
        rw [hor] at hO
        have HO := Lib.hid hO
        have ht := e6.below hb
        have HBB := Lib.hid hb
        generalize x.F.nm j = s at f1
        generalize x.F.bk j = bk at f3
        generalize x.F.bn j = bn at f4
        clear hm hm2 hO hor hkk e1 e2 e3 e4 e5 e6 e7 hb
        go_wp2_with fail
        refine (HO.out _ (ht.alloc _)).mono ?_
        rintro e w2 ⟨rfl, hb2⟩
        have hb3 := base_next HBB.out hb2
        clear hb2 f1 f2 f3 f4 f5 ht HO HBB
        go_wp2_with fail
        go_roundw
        case rel => exact ⟨j + 1, max m (x.F.st j).oN, by omega, by go_num, val_int (by omega), HM.out, hb3⟩
        case measure => simp [Go.RowKit.intOf]; omega
      · have hm2 : m = z := by rw [← hm, show x.F.len - j = 0 by omega]; rfl
        subst hm2
        clear hm
        go_wp2_with fail
        go_ret2
        exact ⟨rfl, hb⟩

set_option maxRecDepth 100000 in
set_option maxHeartbeats 2000000 in
theorem refranks3_any (x : Sc) (a : At2) (w : World) (h : IsC w x a) :
    Calls Tryz.prog 22 #[.agg #[.slice a.sp a.sn a.sc, .slice a.fp a.fn a.fc]] w (RanksPost w x) := by
  obtain ⟨i0, hi0, hz0, hz1, hz2⟩ := info_parts infoI
  have HC := Lib.hid (fun W h => refis3_any x a W h)
  obtain ⟨sp, sn, sc, fp, fn, fc⟩ := a
  obtain ⟨hS, hF⟩ := id h
  dsimp only at hS hF HC ⊢
  obtain rfl : sn = x.S.len := hS.1
  have hbx := heap_new w (.cells #[.slice sp x.S.len sc, .slice fp fn fc] 25)
  obtain ⟨s1, s2⟩ := two_cells hbx
  obtain ⟨_, hcap, hmax, _, hrow⟩ := id hS
  unfold maxLen at hmax
  have HX := Lib.hid hbx
  have HH := Lib.hid h
  unfold RanksPost
  cases hok : scOk x with
  | false =>
    have e1 : scE x = 7 := by unfold scE; rw [hok]; rfl
    have e2 : x.ranks = [] := by unfold Sc.ranks; rw [hok]; rfl
    rw [hok] at HC
    rw [e1, e2]
    clear e1 e2 hok hS hF hbx h hcap hmax hrow
    go_enter Tryz.func22, Tryz.ntmps22
    go_wp2_with fail
    refine (HC.out _ (HH.out.alloc _)).mono ?_
    rintro e w1 ⟨rfl, hb1⟩
    go_wp2_with fail
    go_ret2
    exact ⟨_, rfl, World.ownsRow_nil _ _ _ _, below_call hb1⟩
  | true =>
    have e1 : scE x = 0 := by unfold scE; rw [hok]; rfl
    have e2 : x.ranks = rks x.S x.S.len := by unfold Sc.ranks; rw [hok]; rfl
    have h24 := scOk_syms hok
    rw [hok] at HC
    rw [e1, e2]
    clear e1 e2 hok hS hF hbx h
    go_enter Tryz.func22, Tryz.ntmps22
    go_wp2_with fail
    refine (HC.out _ (HH.out.alloc _)).mono ?_
    rintro e w1 ⟨rfl, hb1⟩
    obtain ⟨s3, s4⟩ := two_cells (box3_later hb1 HX.out)
    have HB := Lib.hid (below_call hb1)
    clear s1 s2 hb1 HX
    go_wp2_with fail
    go_loopw [4, 13] (fun u i wr => ∃ (j : Nat) (v : Value), j ≤ x.S.len ∧ i = .int .i64 (j : Int) ∧ v = u ∧ wr.ownsRow w.heap.size 3 1 v j ((rks x.S j).map intv) ∧ Below w.heap.size w wr)
      (fun _ i _ => x.S.len - (Go.RowKit.intOf i).toNat)
    case atStart => exact ⟨0, _, Nat.zero_le _, rfl, rfl, World.ownsRow_nil _ _ _ _, HB.out⟩
    case round =>
      clear HB s3 s4
      obtain ⟨j, v, hj, rfl, rfl, hown, hb⟩ := hrel
      by_cases hlt : j < x.S.len
      · rcases hrow with h0 | ⟨b, off, rfl, hr⟩
        · omega
        obtain ⟨e1, e2⟩ := hr j hlt
        have hkk := (bcell hb).1
        have f1 := (hkk _ _ (lt_of_cell e1)).trans e1
        have f2 := (hkk _ _ (lt_of_cell e2)).trans e2
        have hsn := Lib.hid (rks_snoc x.S j)
        generalize x.S.nm j = s at f1
        generalize x.S.rk j = rk at f2 hsn
        clear hkk e1 e2
        have hmx : j + 1 ≤ maxLen := by simp only [maxLen]; omega
        go_upto_region 7 with fail
        have ho2 := hown.alloc (.cells #[.string s, .int .i64 rk] 64)
        have hb2 := hb.alloc hb.size (.cells #[.string s, .int .i64 rk] 64)
        obtain ⟨v1, v2⟩ := two_cells (heap_new wr (.cells #[.string s, .int .i64 rk] 64))
        generalize wr.heap.size = bf at v1 v2 ⊢
        generalize wr.alloc (.cells #[.string s, .int .i64 rk] 64) = W2 at ho2 hb2 v1 v2 ⊢
        have hz := hb2.size
        clear hown hb f1 f2
        go_wp2_with (at_builtin; refine wpList_append_own _ rfl (.tmp 17) (.tmp 20) 33 rfl w.heap.size 3 i0 (.int .i64 0) 1 8 Tryz.underlying33 hi0 hz0 hz1 hz2 rfl Nat.one_pos v j _ rfl (ho2.alloc _) ⟨W2.heap.size, 0, none⟩ 1 1 [.int .i64 rk] rfl rfl (cell_one_new _ _ _) (one_intv rk) hmx (by omega) (by simp; omega) ?_; intro v1' w9 hown1 hgrow1 _)
        have hb9 := below_own hb2 ho2 hgrow1
        rw [hsn.out] at hown1
        go_roundw
        case rel => exact ⟨j + 1, _, by omega, by go_num, rfl, hown1, hb9⟩
        case measure => simp [Go.RowKit.intOf]; omega
      · obtain rfl : j = x.S.len := by omega
        have hl : (rks x.S x.S.len).length = x.S.len := by simp [rks]
        have HL := Lib.hid hl
        clear hl
        go_wp2_with fail
        go_ret2
        exact ⟨_, rfl, by rw [HL.out]; exact hown, hb⟩

end Go.Proofs.YtjdnbmcjnkmgdaaGreatDoor

/-
  The walk of the statement on Order and Ranks. Conditions: that the scheme lies in memory, and the package variables read as laid.
-/
set_option linter.unusedSimpArgs false
set_option linter.unusedVariables false
namespace Go.Proofs.YtjdnbmcjnkmgdaaGreatDoor
open Go.RowKit Go.Maps

set_option maxRecDepth 100000 in
set_option maxHeartbeats 2000000 in
/-- the law's comparison of one list with itself -/
theorem ints3_true (L : List Int) (w : World) (p q : Option Addr) (n c m c' : Nat) (h1 : IsI w L p n c) (h2 : IsI w L q m c') :
    Calls Tryz.prog 23 #[.slice p n c, .slice q m c'] w fun e w' => e = .returned (.bool true) ∧ Below w.heap.size w w' := by
  obtain ⟨rfl, hc1, hm1, hr1⟩ := h1
  obtain ⟨rfl, hc2, hm2, hr2⟩ := h2
  unfold maxLen at hm1 hm2
  go_enter Tryz.func23, Tryz.ntmps23
  go_wp2_with fail
  go_loopw [13] (fun i wr => ∃ j : Nat, j ≤ L.length ∧ i = .int .i64 (j : Int) ∧ Below w.heap.size w wr)
    (fun i _ => L.length - (Go.RowKit.intOf i).toNat)
  case atStart => exact ⟨0, Nat.zero_le _, rfl, Below.refl _ _⟩
  case round =>
    obtain ⟨j, hj, rfl, hb⟩ := hrel
    by_cases hlt : j < L.length
    · rcases hr1 with ⟨_, h0⟩ | ⟨b1, o1, rfl, hb1, hx1⟩
      · omega
      rcases hr2 with ⟨_, h0⟩ | ⟨b2, o2, rfl, hb2, hx2⟩
      · omega
      obtain ⟨x, hx⟩ : ∃ x, L[j] = x := ⟨_, rfl⟩
      have hc1' := ((bcell hb).1 b1 (o1 + j) hb1).trans (hx1 j x (by rw [List.getElem?_eq_getElem hlt, hx]))
      have hc2' := ((bcell hb).1 b2 (o2 + j) hb2).trans (hx2 j x (by rw [List.getElem?_eq_getElem hlt, hx]))
      have hd : (x != x) = false := by simp
      clear hx1 hx2 hx
      go_wp2_with fail
      go_quiet (fail)
      go_wp2_with fail
      go_roundw
      case rel => exact ⟨j + 1, by omega, by go_num, below_drewN hb _⟩
      case measure => simp [Go.RowKit.intOf]; omega
    · go_wp2_with fail
      go_ret
      exact ⟨rfl, hb⟩

theorem isI_own3 {W : World} {B : Nat} {v : Value} {L : List Int} (h : W.ownsRow B 3 1 v L.length (L.map intv)) : ∃ p c, v = .slice p L.length c ∧ IsI W L p L.length c := by
  obtain ⟨hx, h2⟩ := id h
  rcases h2 with ⟨rfl, h0⟩ | ⟨g, cap, cur, rfl, hbg, hg, hnc, hcm, hcs, htake⟩
  · exact ⟨none, 0, by rw [h0], rfl, by omega, Nat.zero_le _, Or.inl ⟨rfl, rfl⟩⟩
  · refine ⟨_, _, rfl, rfl, hnc, hcm, Or.inr ⟨g, 0, rfl, lt_of_block hg, fun j x hj => ?_⟩⟩
    have hl : j < L.length := (List.getElem?_eq_some_iff.1 hj).1
    rw [Nat.zero_add, h.cellAt j (by omega), List.getElem?_map, hj]
    rfl

set_option maxRecDepth 100000 in
set_option maxHeartbeats 4000000 in
theorem law_sorder (x : Sc) (a : At2) (w : World) (h : IsC w x a) (hg : Gl w) (h6 : 6 ≤ w.heap.size) :
    Calls Tryz.prog 5 #[.agg #[.slice a.sp a.sn a.sc, .slice a.fp a.fn a.fc]] w fun e w' => e = .returned (.bool true) ∧ Below w.heap.size w w' := by
  have H1 := Lib.hid fun W (hb : Below w.heap.size w W) => sorder_any x a W (h.below hb)
  have H2 := Lib.hid fun W (hb : Below w.heap.size w W) => reforder3_any x a W (h.below hb)
  have H3 := Lib.hid fun W (hb : Below w.heap.size w W) => sranks_any x a W (h.below hb)
  have H4 := Lib.hid fun W (hb : Below w.heap.size w W) => refranks3_any x a W (h.below hb)
  have HA := Lib.hid fun W (hb : Below w.heap.size w W) => alive3_any W (hg.keep fun b hb' => hb.block b (by omega)) (by have := hb.size; omega)
  have HI := Lib.hid fun W p q n c m c' h h' => ints3_true x.ranks W p q n c m c' h h'
  obtain ⟨sp, sn, sc, fp, fn, fc⟩ := a
  dsimp only at H1 H2 H3 H4 ⊢
  unfold RanksPost at H3 H4
  generalize x.ranks = L at H3 H4 HI
  generalize scE x = k at H1 H2 H3 H4
  generalize x.ordN = o at H1 H2
  have hbx := heap_new w (.cells #[.slice sp sn sc, .slice fp fn fc] 25)
  have B0 := (Below.refl w.heap.size w).alloc (Nat.le_refl _) (.cells #[.slice sp sn sc, .slice fp fn fc] 25)
  obtain ⟨⟨s1, s2⟩, _⟩ := two_box hbx
  have HB := Lib.hid (And.intro hbx B0)
  clear h hg h6 hbx B0
  go_enter Tryz.func5, Tryz.ntmps5
  go_wp2_with fail
  refine (H1.out _ HB.out.2).mono ?_
  rintro e w1 ⟨rfl, hb1⟩
  have h1 := Lib.hid (And.intro (box3_later hb1 HB.out.1) (HB.out.2.trans (hb1.mono HB.out.2.size)))
  clear hb1 HB s1 s2 H1
  obtain ⟨⟨s1, s2⟩, _⟩ := two_box h1.out.1
  go_wp2_with fail
  refine (H2.out _ h1.out.2).mono ?_
  rintro e w2 ⟨rfl, hb2⟩
  have h2 := Lib.hid (And.intro (box3_later hb2 h1.out.1) (h1.out.2.trans (hb2.mono h1.out.2.size)))
  clear hb2 h1 s1 s2 H2
  obtain ⟨⟨s1, s2⟩, _⟩ := two_box h2.out.1
  go_wp2_with fail
  refine (H3.out _ h2.out.2).mono ?_
  rintro e w3 ⟨v3, rfl, hO3, hb3⟩
  obtain ⟨p3, c3, rfl, hi3⟩ := isI_own3 hO3
  have h3 := Lib.hid (And.intro (box3_later hb3 h2.out.1) (And.intro (h2.out.2.trans (hb3.mono h2.out.2.size)) hi3))
  clear hb3 h2 s1 s2 H3 hO3 hi3
  obtain ⟨⟨s1, s2⟩, _⟩ := two_box h3.out.1
  go_wp2_with fail
  refine (H4.out _ h3.out.2.1).mono ?_
  rintro e w4 ⟨v4, rfl, hO4, hb4⟩
  obtain ⟨p4, c4, rfl, hi4⟩ := isI_own3 hO4
  have h4 := Lib.hid (And.intro (h3.out.2.1.trans (hb4.mono h3.out.2.1.size)) (And.intro (h3.out.2.2.below hb4) hi4))
  clear hb4 h3 s1 s2 H4 hO4 hi4
  go_wp2_with fail
  refine (HI.out _ _ _ _ _ _ _ h4.out.2.1 h4.out.2.2).mono ?_
  rintro e w5 ⟨rfl, hb5⟩
  have B5 := h4.out.1.trans (hb5.mono h4.out.1.size)
  have HB5 := Lib.hid B5
  clear hb5 h4 B5
  go_wp2_with fail
  refine (HA.out _ HB5.out).mono ?_
  rintro e w6 ⟨rfl, hb6⟩
  go_wp2_with fail
  go_ret
  exact ⟨rfl, HB5.out.trans (hb6.mono HB5.out.size)⟩

end Go.Proofs.YtjdnbmcjnkmgdaaGreatDoor

/-
  The walk of the statement on what is left as it was. Conditions: that the scheme lies in memory, and the package variables read as laid.
-/
set_option linter.unusedSimpArgs false
set_option linter.unusedVariables false
namespace Go.Proofs.YtjdnbmcjnkmgdaaGreatDoor
open Go.RowKit Go.Maps

/-- what all the calls leave: the scheme's box, the copy's box, the copy -/
structure Ow (w : World) (x : Sc) (a b : At2) (nb : Nat) (W : World) : Prop where
  bel : Below w.heap.size w W
  box : W.heap[w.heap.size]? = some (.cells #[.slice a.sp a.sn a.sc, .slice a.fp a.fn a.fc] 25 (0, 0))
  was : W.heap[nb]? = some (.cells #[.slice b.sp b.sn b.sc, .slice b.fp b.fn b.fc] 25 (0, 0))
  copy : IsC W x b

theorem Ow.next {w : World} {x : Sc} {a b : At2} {nb : Nat} {W W' : World} (h : Ow w x a b nb W) (hb : Below W.heap.size W W') : Ow w x a b nb W' :=
  ⟨h.bel.trans (hb.mono h.bel.size), box3_later hb h.box, box3_later hb h.was, h.copy.below hb⟩

theorem cell_other (w : World) (g : Nat) {i j : Nat} (h : i ≠ j) (v : Value) : (w.setCell ⟨g, i, none⟩ v).cell? ⟨g, j, none⟩ = w.cell? ⟨g, j, none⟩ := by
  unfold World.cell? World.setCell
  simp only [Array.getElem?_modify, if_true]
  cases hw : w.heap[g]? with
  | none => rfl
  | some o =>
    cases o with
    | cells c t f => simp [Array.getElem?_setIfInBounds, h]
    | _ => rfl

theorem frozen_other (w : World) (g i j : Nat) (v : Value) : (w.setCell ⟨g, i, none⟩ v).frozen? ⟨g, j, none⟩ = w.frozen? ⟨g, j, none⟩ := by
  unfold World.frozen? World.setCell
  simp only [Array.getElem?_modify, if_true]
  cases hw : w.heap[g]? with
  | none => rfl
  | some o => cases o <;> rfl

theorem rks_get (S : Sy) (n i : Nat) (h : i < n) : ((rks S n).map intv)[i]? = some (.int .i64 (S.rk i)) := by
  unfold rks
  rw [List.getElem?_map, List.getElem?_map, List.getElem?_range h]
  rfl

theorem rks_len (S : Sy) (n : Nat) : (rks S n).length = n := by simp [rks]

set_option maxRecDepth 100000 in
set_option maxHeartbeats 8000000 in
theorem law_sown (x : Sc) (a : At2) (w : World) (h : IsC w x a) (hg : Gl w) (h6 : 6 ≤ w.heap.size) :
    Calls Tryz.prog 13 #[.agg #[.slice a.sp a.sn a.sc, .slice a.fp a.fn a.fc]] w fun e w' => e = .returned (.bool true) ∧ Below w.heap.size w w' := by
  have H1 := Lib.hid fun W (hb : Below w.heap.size w W) => refis3_any x a W (h.below hb)
  have HA := Lib.hid fun W (hb : Below w.heap.size w W) => alive3_any W (hg.keep fun b hb' => hb.block b (by omega)) (by have := hb.size; omega)
  have HIC := Lib.hid h
  obtain ⟨sp, sn, sc, fp, fn, fc⟩ := a
  have hbx := heap_new w (.cells #[.slice sp sn sc, .slice fp fn fc] 25)
  have B0 := (Below.refl w.heap.size w).alloc (Nat.le_refl _) (.cells #[.slice sp sn sc, .slice fp fn fc] 25)
  obtain ⟨⟨s1, s2⟩, _⟩ := two_box hbx
  have HB := Lib.hid (And.intro hbx B0)
  clear h hg h6 hbx B0
  dsimp only at H1 HIC ⊢
  cases hok : scOk x with
  | false =>
    rw [hok] at H1
    go_enter Tryz.func13, Tryz.ntmps13
    go_wp2_with fail
    refine (H1.out _ HB.out.2).mono ?_
    rintro e w1 ⟨rfl, hb1⟩
    have h1 := Lib.hid (HB.out.2.trans (hb1.mono HB.out.2.size))
    clear hb1 HB s1 s2 H1
    go_wp2_with fail
    refine (HA.out _ h1.out).mono ?_
    rintro e w2 ⟨rfl, hb2⟩
    go_wp2_with fail
    go_ret
    exact ⟨rfl, h1.out.trans (hb2.mono h1.out.size)⟩
  | true =>
    rw [hok] at H1
    have hgd := good_of hok
    have HGD := Lib.hid hgd
    obtain ⟨rfl, hsc, hsm, _, _⟩ := id HIC.out.1
    obtain ⟨rfl, hfc, hfm, _, _⟩ := id HIC.out.2
    unfold maxLen at hsm hfm
    dsimp only at hsc hsm hfc hfm H1 ⊢
    have hpos := hgd.some
    have H2 := Lib.hid fun W (hb : Below w.heap.size w W) => refcopy3_any x hgd ⟨sp, x.S.len, sc, fp, x.F.len, fc⟩ W (HIC.out.below hb)
    have H3 := Lib.hid fun W (hb : Below w.heap.size w W) => scheck_any x ⟨sp, x.S.len, sc, fp, x.F.len, fc⟩ W (HIC.out.below hb)
    have H4 := Lib.hid fun W (hb : Below w.heap.size w W) => sorder_any x ⟨sp, x.S.len, sc, fp, x.F.len, fc⟩ W (HIC.out.below hb)
    have H5 := Lib.hid fun W (hb : Below w.heap.size w W) => ssame_any x x ⟨sp, x.S.len, sc, fp, x.F.len, fc⟩ ⟨sp, x.S.len, sc, fp, x.F.len, fc⟩ W (HIC.out.below hb) (HIC.out.below hb)
    have H7 := Lib.hid fun W (hb : Below w.heap.size w W) => sput_any x ⟨sp, x.S.len, sc, fp, x.F.len, fc⟩ W (HIC.out.below hb)
    have H8 := Lib.hid fun W (hb : Below w.heap.size w W) => sranks_any x ⟨sp, x.S.len, sc, fp, x.F.len, fc⟩ W (HIC.out.below hb)
    have H9 := Lib.hid fun W (hb : Below w.heap.size w W) => sreach_any x ⟨sp, x.S.len, sc, fp, x.F.len, fc⟩ W (HIC.out.below hb)
    have H10 := Lib.hid fun b W (hb : Below w.heap.size w W) (hc : IsC W x b) => refequal3_self x ⟨sp, x.S.len, sc, fp, x.F.len, fc⟩ b W (HIC.out.below hb) hc
    have hsym : symsOk x.S = true := by
      simp only [scOk, Bool.and_eq_true, plOk] at hok
      exact hok.1.2.1.1
    have H11 := Lib.hid fun W (hb : Below w.heap.size w W) => (show Calls _ _ _ W (fun e w' => e = .returned (.bool true) ∧ Below W.heap.size W w') from hsym ▸ refsymbols_any x.S W sp x.S.len sc (HIC.out.1.below hb))
    clear hsym
    have HRK : x.ranks = rks x.S x.S.len := by unfold Sc.ranks; rw [hok]; rfl
    have HRK := Lib.hid HRK
    have HOK := Lib.hid hok
    clear hgd hok
    go_enter Tryz.func13, Tryz.ntmps13
    go_wp2_with fail
    refine (H1.out _ HB.out.2).mono ?_
    rintro e w1 ⟨rfl, hb1⟩
    have h1 := Lib.hid (And.intro (box3_later hb1 HB.out.1) (HB.out.2.trans (hb1.mono HB.out.2.size)))
    clear hb1 HB s1 s2 H1
    obtain ⟨⟨s1, s2⟩, _⟩ := two_box h1.out.1
    go_wp2_with fail
    refine (H2.out _ h1.out.2).mono ?_
    rintro e w2 ⟨⟨tp, tn, tc, gp, gn, gc⟩, rfl, hCp, hb2⟩
    have hbox2 := box3_later hb2 h1.out.1
    have O2 : Ow w x ⟨sp, x.S.len, sc, fp, x.F.len, fc⟩ ⟨tp, tn, tc, gp, gn, gc⟩ w2.heap.size (w2.alloc (.cells #[.slice tp tn tc, .slice gp gn gc] 25)) :=
      ⟨(h1.out.2.trans (hb2.mono h1.out.2.size)).alloc (h1.out.2.trans (hb2.mono h1.out.2.size)).size _, alloc_kept hbox2 _, heap_new _ _, hCp.alloc _⟩
    have s3 := fun o => (two_box (alloc_kept hbox2 o)).1.1
    have s4 := fun o => (two_box (alloc_kept hbox2 o)).1.2
    have HO2 := Lib.hid O2
    clear hb2 h1 s1 s2 H2 hCp hbox2 O2
    go_wp2_with fail
    refine (H3.out _ HO2.out.bel).mono ?_
    rintro e w3 ⟨rfl, hb3⟩
    generalize w2.heap.size = nb at HO2 ⊢
    have HO3 := Lib.hid (HO2.out.next hb3)
    clear hb3 HO2 s3 s4 H3
    obtain ⟨⟨s1, s2⟩, _⟩ := two_box HO3.out.box
    go_wp2_with fail
    refine (H4.out _ HO3.out.bel).mono ?_
    rintro e w4 ⟨rfl, hb4⟩
    have HO4 := Lib.hid (HO3.out.next hb4)
    clear hb4 HO3 s1 s2 H4
    obtain ⟨⟨s1, s2⟩, _⟩ := two_box HO4.out.box
    go_wp2_with fail
    refine (H5.out _ HO4.out.bel).mono ?_
    rintro e w5 ⟨rfl, hb5⟩
    have HO5 := Lib.hid (HO4.out.next hb5)
    clear hb5 HO4 s1 s2 H5
    obtain ⟨⟨s1, s2⟩, _⟩ := two_box HO5.out.box
    go_wp2_with fail
    refine (H7.out _ HO5.out.bel).mono ?_
    rintro e w6 ⟨rfl, hb6⟩
    have HO6 := Lib.hid (HO5.out.next hb6)
    clear hb6 HO5 s1 s2 H7
    obtain ⟨⟨s1, s2⟩, _⟩ := two_box HO6.out.box
    go_wp2_with fail
    refine (H8.out _ HO6.out.bel).mono ?_
    rintro e w7 ⟨v7, rfl, hO7, hb7⟩
    rw [HRK.out, rks_len] at hO7
    have hlist : ∃ q cap, v7 = .slice q x.S.len cap ∧ x.S.len ≤ cap ∧ cap ≤ 9223372036854775807 ∧ (x.S.len = 0 ∨ ∃ g, q = some ⟨g, 0, none⟩ ∧ w6.heap.size ≤ g ∧ ∀ i, 0 ≤ i → i < x.S.len → w7.cell? ⟨g, i, none⟩ = some (.int .i64 (x.S.rk i)) ∧ w7.frozen? ⟨g, i, none⟩ = false) := by
      obtain ⟨hx, h2⟩ := id hO7
      rcases h2 with ⟨e1, e2⟩ | ⟨g, cap, cur, rfl, hbg, hgb, hnc, hcm, hcs, _⟩
      · exact ⟨none, 0, by rw [e1, e2], by omega, by omega, Or.inl e2⟩
      · refine ⟨_, cap, rfl, hnc, by simp only [maxLen] at hcm; omega, Or.inr ⟨g, rfl, hbg, fun i _ hi => ⟨?_, ?_⟩⟩⟩
        · rw [hO7.cellAt i (by omega)]; exact rks_get _ _ _ hi
        · simp [World.frozen?, hgb]
    obtain ⟨q, cap, rfl, hcap, hcm, hq⟩ := hlist
    have HB7 := Lib.hid (And.intro hb7 hq)
    have hS24 := HGD.out.syms
    clear hb7 hO7 s1 s2 H8 hq
    go_wp2_with fail
    go_loopw [29] (fun v wr => ∃ j : Nat, j ≤ x.S.len ∧ v = .int .i64 (j : Int) ∧ Below w6.heap.size w6 wr ∧ (x.S.len = 0 ∨ ∃ g, q = some ⟨g, 0, none⟩ ∧ w6.heap.size ≤ g ∧ ∀ i, j ≤ i → i < x.S.len → wr.cell? ⟨g, i, none⟩ = some (.int .i64 (x.S.rk i)) ∧ wr.frozen? ⟨g, i, none⟩ = false))
      (fun v _ => x.S.len - (Go.RowKit.intOf v).toNat)
    case atStart => exact ⟨0, Nat.zero_le _, rfl, HB7.out.1, HB7.out.2⟩
    case round =>
      clear HB7
      obtain ⟨j, hj, rfl, hb, hq⟩ := hrel
      by_cases hlt : j < x.S.len
      · rcases hq with h0 | ⟨g, rfl, hge, hcs⟩
        · omega
        obtain ⟨c1, c2⟩ := hcs j (Nat.le_refl _) hlt
        obtain ⟨r0, r4⟩ := HGD.out.rank j hlt
        have HCS := Lib.hid (And.intro hb hcs)
        obtain ⟨k, hk⟩ : ∃ k, x.S.rk j = k := ⟨_, rfl⟩
        rw [hk] at c1 r0 r4
        clear hb hcs hk
        go_wp2_with fail
        go_roundw
        case rel =>
          refine ⟨j + 1, by omega, by go_num, HCS.out.1.setCell (p := ⟨g, j, none⟩) hge _, Or.inr ⟨g, rfl, hge, fun i hi hil => ?_⟩⟩
          obtain ⟨g1, g2⟩ := HCS.out.2 i (by omega) hil
          exact ⟨(cell_other wr g (show j ≠ i by omega) _).trans g1, (frozen_other wr g j i _).trans g2⟩
        case measure => simp [Go.RowKit.intOf]; omega
      · have HO7 := Lib.hid (HO6.out.next hb)
        clear hb hq HO6
        obtain ⟨⟨s1, s2⟩, _⟩ := two_box HO7.out.box
        go_wp2_with fail
        refine (H9.out _ HO7.out.bel).mono ?_
        rintro e w8 ⟨v8, rfl, _, hb8⟩
        have HO8 := Lib.hid (HO7.out.next hb8)
        clear hb8 HO7 s1 s2 H9
        obtain ⟨⟨s1, s2⟩, _⟩ := two_box HO8.out.box
        obtain ⟨⟨t1, t2⟩, _⟩ := two_box HO8.out.was
        go_wp2_with fail
        refine (H10.out _ _ HO8.out.bel HO8.out.copy).mono ?_
        rintro e w9 ⟨rfl, hb9⟩
        have HO9 := Lib.hid (HO8.out.next hb9)
        clear hb9 HO8 s1 s2 t1 t2 H10
        obtain ⟨⟨s1, s2⟩, _⟩ := two_box HO9.out.box
        have hd : ((x.S.len : Int) == (x.S.len : Int)) = true := by simp
        go_wp2_with fail
        refine (H11.out _ HO9.out.bel).mono ?_
        rintro e w10 ⟨rfl, hb10⟩
        have HO10 := Lib.hid (HO9.out.next hb10)
        clear hb10 HO9 s1 s2 H11 hd
        obtain ⟨⟨s1, s2⟩, _⟩ := two_box HO10.out.box
        obtain ⟨b, off, rfl, p, n, c0, r, m, d, e1, e2, e3, e4, e5, hT, hX⟩ := rowF_all (HIC.out.below HO10.out.bel).2 hpos
        have e2' : w10.cell? ⟨b, off + 1, none⟩ = some (.slice p n c0) := by rw [← e2, Nat.zero_mul, Nat.add_zero]
        have HT := Lib.hid hT
        clear e1 e2 e3 e4 e5 hT hX
        go_wp2_with fail
        refine (is_bool (x.F.st 0) true (HGD.out.sort 0 hpos) _ p n c0 HT.out).mono ?_
        rintro e w11 ⟨rfl, hb11⟩
        have HO11 := Lib.hid (HO10.out.next hb11)
        clear hb11 HO10 s1 s2
        go_wp2_with fail
        refine (HA.out _ HO11.out.bel).mono ?_
        rintro e w12 ⟨rfl, hb12⟩
        go_wp2_with fail
        go_ret
        exact ⟨rfl, HO11.out.bel.trans (hb12.mono HO11.out.bel.size)⟩

end Go.Proofs.YtjdnbmcjnkmgdaaGreatDoor

set_option linter.unusedSimpArgs false
set_option linter.unusedVariables false
namespace Go.Proofs.YtjdnbmcjnkmgdaaGreatDoor
open Go.ChangeShapes Go.WideShapes Go.ChangeAt Go.RowKit
open Go.ChangeMaps (open_string shut_string)

set_option maxRecDepth 100000 in
theorem schemeOwn_lifted (os : Os) (started : os.Started) (H : Type) (enc : TypeId × Value → H) :
    ReturnsInHanded {} Tryz.checked os 13 .any (fun w args => (Rows.schemeOwnSpec.pre enc Tryz.prog Tryz.f13 [] false w args ∧ laidMetH Tryz.prog laidL w) ∧ sizedMet enc Tryz.prog Tryz.f13 (OpenSpec.ofChange Rows.schemeOwnSpec) false w args)
      (Rows.schemeOwnSpec.post enc Tryz.prog Tryz.f13 false true false false) := by
  refine lifted_shaped (C := Tryz.checked) (X := fun w _ => laidMetH Tryz.prog laidL w) (fun _ _ _ hh h => h.of_heap hh) P.own started (by kernel_rfl) Tryz.func13
    (ChangeSpec.witness_shaped (enc := enc) (C := Tryz.checked) (os := os) (X := fun w _ => laidMetH Tryz.prog laidL w) false (World.doorLaid Tryz.prog 62 os) #[.agg #[.slice none 0 0, .slice none 0 0]] 8 rfl (World.shaped_of_RefB (by kernel_rfl) (by kernel_rfl)) (by kernel_rfl) (by kernel_rfl) (by kernel_rfl) (door_met os _)) ?_
  intro W args ds gs before hval0 hW _ hL hsh
  have hW' := hW
  obtain ⟨p, q, hA0, hV, rfl, hfz, hnd⟩ := hW
  have hA : DataW.TrodAll enc Tryz.prog W 0 (fun _ => true) true Tryz.f13.params.toList args.toList ds p := hA0
  rw [Tryz.params13] at hA hval0
  obtain ⟨v0, d0, rfl, rfl, h0⟩ := trodAll_one hA
  obtain ⟨rfl, rfl⟩ := trodVars_none hV
  have k0 := h0
  obtain ⟨base0, hv0⟩ := hval0 0 25 v0 rfl rfl
  obtain ⟨x0, b0, rfl, i0⟩ := open_scheme hv0 h0
  clear hA0 hval0
  simp only [List.append_nil] at hW'
  obtain ⟨hg, h6⟩ := gl_of hL hsh
  refine (law_sown x0 b0 W i0 hg h6).mono fun e W' ⟨he, hb⟩ => ?_
  subst he
  have hlt := fun x hx => hW'.lt x hx
  exact ⟨_, rfl, post_below (pv := []) hW' (fun _ _ _ => trodAll_mk1 (shut_bool Tryz.underlying4 true))
    (fun sp hsp => trodAll_mk1 (WideElems.Trod_stays P.laidOut P.readC (of_decide_eq_true (by kernel_rfl)) k0 (fun x hx => hb.same (hlt x (by simp [hx]))) (fun x hx => hsp x (by simp [hx]))))
    (fun _ _ => rfl) (by simp) hb (ok_one (by kernel_rfl) rfl (okWide_bool_mk Tryz.underlying4 true))⟩

theorem schemeOwn_row : Rows.SchemeOwnSaid :=
  OpenClaim.holds_of_wide 13 Tryz.f13 rfl rfl rfl rfl rfl rfl rfl ⟨rfl, rfl, rfl, rfl, rfl⟩ rfl rfl rfl rfl rfl (by kernel_rfl) Tryz.func13 (by kernel_rfl)
    (of_decide_eq_true (by kernel_rfl)) (by unfold Func.isWrapper; rw [if_neg (of_decide_eq_false (by kernel_rfl))]; exact ⟨rfl, rfl⟩)
    (fun os started H enc _ => schemeOwn_lifted os started H enc)

theorem schemeOwn_holds : Rows.SchemeOwnCardSaid :=
  Claim7.holds_tied_plain_at .later [] [.data, .data, .data, .sentinel, .sentinel] true Rows.schemeOwnCard.stood.harness true
    schemeOwn_row (fun _ h => by cases h) (by kernel_rfl) (fun _ h => by cases h) schemeOwn_row_tie rfl ⟨rfl, rfl⟩ (by kernel_rfl) rfl
    (fun f fn hf hfn => by
      obtain rfl : f = 13 := Option.some.inj ((show Tryz.prog.funcNamed "virgation/virgationlaw03.SchemeOwn" = some 13 by kernel_rfl).symm.trans hf) |>.symm
      obtain rfl : fn = Tryz.f13 := (Option.some.inj (Tryz.func13.symm.trans hfn)).symm
      exact ⟨by kernel_rfl, fun j t ht => by
        rw [Tryz.params13] at ht
        have hm : t ∈ [25] := by simpa using Array.mem_of_getElem? ht
        have hall : ([25].all fun u => !Tryz.prog.wantsStandIn u) = true := by kernel_rfl
        exact (show Tryz.prog.wantsStandIn t = false by simpa using List.all_eq_true.1 hall t hm)⟩)
    (by kernel_rfl)

end Go.Proofs.YtjdnbmcjnkmgdaaGreatDoor

