/-
  Parts of one proof, laid into one text: SCheckL, SCopyP, SGrH, SGrI. Conditions: each part names its own.
-/
import Derived.Test.YtjkcopgfcafpeaaGreatDoorMh02
import Derived.Test.YtjkcopgfcafpeaaGreatDoorMg27
import Derived.Test.YtjkcopgfcafpeaaGreatDoorMg29
import Derived.Test.YtjkcopgfcafpeaaGreatDoorMg15
import Derived.Test.YtjkcopgfcafpeaaGreatDoorMi01

/-
  The walk of the reference's Check, and of the statement on Check. Conditions: that the scheme lies in memory, and the package variables read as laid.
-/
set_option linter.unusedSimpArgs false
set_option linter.unusedVariables false
namespace Go.Proofs.YtjkcopgfcafpeaaGreatDoor
open Go.RowKit Go.Maps

set_option maxRecDepth 100000 in
set_option maxHeartbeats 2000000 in
theorem refcheck3_any (x : Sc) (a : At2) (w : World) (h : IsC w x a) :
    Calls Tryz.prog 15 #[.agg #[.slice a.sp a.sn a.sc, .slice a.fp a.fn a.fc]] w fun e w' => e = .returned (.int .i64 (scE x)) ∧ Below w.heap.size w w' := by
  have HK := Lib.hid fun W h => refis3_any x a W h
  cases hs : scOk x with
  | false =>
    have he : scE x = 7 := by unfold scE; rw [hs]; rfl
    rw [hs] at HK
    rw [he]
    clear he hs
    go_enter Tryz.func15, Tryz.ntmps15
    go_wp2_with fail
    refine (HK.out _ (h.alloc _)).mono ?_
    rintro e w1 ⟨rfl, hb1⟩
    go_wp2_with fail
    go_ret
    exact ⟨rfl, ((Below.refl _ _).alloc (Nat.le_refl _) _).trans (hb1.mono (by simp))⟩
  | true =>
    have he : scE x = 0 := by unfold scE; rw [hs]; rfl
    rw [hs] at HK
    rw [he]
    clear he hs
    go_enter Tryz.func15, Tryz.ntmps15
    go_wp2_with fail
    refine (HK.out _ (h.alloc _)).mono ?_
    rintro e w1 ⟨rfl, hb1⟩
    go_wp2_with fail
    go_ret
    exact ⟨rfl, ((Below.refl _ _).alloc (Nat.le_refl _) _).trans (hb1.mono (by simp))⟩

theorem h2_next {w0 W W' : World} {sb : Nat} {u1 u2 : Value} (hb : Below W.heap.size W W') (h : W.cell? ⟨sb, 0, none⟩ = some u1 ∧ W.cell? ⟨sb, 1, none⟩ = some u2 ∧ Below w0.heap.size w0 W) :
    W'.cell? ⟨sb, 0, none⟩ = some u1 ∧ W'.cell? ⟨sb, 1, none⟩ = some u2 ∧ Below w0.heap.size w0 W' := by
  obtain ⟨h1, h2, h6⟩ := h
  have hk := (bcell hb).1
  exact ⟨(hk _ _ (lt_of_cell h1)).trans h1, (hk _ _ (lt_of_cell h2)).trans h2, h6.trans (hb.mono h6.size)⟩

theorem h2_bel {w0 W : World} {sb : Nat} {u1 u2 : Value} (h : W.cell? ⟨sb, 0, none⟩ = some u1 ∧ W.cell? ⟨sb, 1, none⟩ = some u2 ∧ Below w0.heap.size w0 W) : Below w0.heap.size w0 W := h.2.2

set_option maxRecDepth 100000 in
set_option maxHeartbeats 4000000 in
theorem law_scheck (x : Sc) (a : At2) (w : World) (h : IsC w x a) (hg : Gl w) (h6 : 6 ≤ w.heap.size) :
    Calls Tryz.prog 3 #[.agg #[.slice a.sp a.sn a.sc, .slice a.fp a.fn a.fc]] w fun e w' => e = .returned (.bool true) ∧ Below w.heap.size w w' := by
  have HC := Lib.hid fun W (hb : Below w.heap.size w W) => scheck_any x a W (h.below hb)
  have HR := Lib.hid fun W (hb : Below w.heap.size w W) => refcheck3_any x a W (h.below hb)
  have HA := Lib.hid fun W (hb : Below w.heap.size w W) => alive3_any W (hg.keep fun b hb' => hb.block b (by omega)) (by have := hb.size; omega)
  obtain ⟨sp, sn, sc, fp, fn, fc⟩ := a
  dsimp only at HC HR ⊢
  have hbx := heap_new w (.cells #[.slice sp sn sc, .slice fp fn fc] 25)
  have K0 : (w.alloc (.cells #[.slice sp sn sc, .slice fp fn fc] 25)).drew.cell? ⟨w.heap.size, 0, none⟩ = some (.slice sp sn sc) ∧ (w.alloc (.cells #[.slice sp sn sc, .slice fp fn fc] 25)).drew.cell? ⟨w.heap.size, 1, none⟩ = some (.slice fp fn fc) ∧ Below w.heap.size w (w.alloc (.cells #[.slice sp sn sc, .slice fp fn fc] 25)).drew :=
    ⟨(two_box hbx).1.1, (two_box hbx).1.2, ((Below.refl _ _).alloc (Nat.le_refl _) _).drew⟩
  generalize scE x = k at HC HR
  clear h hg h6 hbx
  go_enter Tryz.func3, Tryz.ntmps3
  go_wp2_with fail
  go_region_held3 (fun W => W.cell? ⟨w.heap.size, 0, none⟩ = some (.slice sp sn sc) ∧ W.cell? ⟨w.heap.size, 1, none⟩ = some (.slice fp fn fc) ∧ Below w.heap.size w W)
    (first | with_reducible exact K0 | (refine h2_next hb5 ?_; assumption) | (refine h2_next hb4 ?_; assumption) | (refine h2_next hb3 ?_; assumption))
    (first
    | (go_at_call 14; refine (HC.out _ (h2_bel (by assumption))).mono ?_; rintro e w3 ⟨rfl, hb3⟩)
    | (go_at_call 15; refine (HR.out _ (h2_bel (by assumption))).mono ?_; rintro e w4 ⟨rfl, hb4⟩)
    | (go_at_call 16; refine (HA.out _ (h2_bel (by assumption))).mono ?_; rintro e w5 ⟨rfl, hb5⟩))
  all_goals
    go_wp2_with fail
    go_ret
    exact ⟨rfl, h2_bel (by assumption)⟩

end Go.Proofs.YtjkcopgfcafpeaaGreatDoor

/-
  What a copy of a scheme lies in, as it grows. Conditions: none.
-/
set_option linter.unusedSimpArgs false
set_option linter.unusedVariables false
namespace Go.Proofs.YtjkcopgfcafpeaaGreatDoor
open Go.RowKit Go.Maps

/-- the cells of symbols -/
def symV (S : Sy) : List Value := (List.range (S.len * 2)).map fun j => if j % 2 = 0 then .string (S.nm (j / 2)) else .int .i64 (S.rk (j / 2))

theorem symV_len (S : Sy) : (symV S).length = S.len * 2 := by simp [symV]

theorem symV_at {S : Sy} {i : Nat} (h : i < S.len) : (symV S)[i * 2]? = some (.string (S.nm i)) ∧ (symV S)[i * 2 + 1]? = some (.int .i64 (S.rk i)) := by
  unfold symV
  constructor
  · rw [List.getElem?_map, List.getElem?_range (by omega)]
    simp
  · rw [List.getElem?_map, List.getElem?_range (by omega)]
    simp only [Option.map_some]
    rw [if_neg (by omega), show (i * 2 + 1) / 2 = i by omega]

theorem symV_cells {w : World} {S : Sy} {b off : Nat} (h : RowS w S b off) : ∀ j u, (symV S)[j]? = some u → w.cell? ((⟨b, off, none⟩ : Addr).add j) = some u := by
  intro j u hu
  rw [Addr.add_lit]
  unfold symV at hu
  rw [List.getElem?_map] at hu
  by_cases hj : j < S.len * 2
  · rw [List.getElem?_range hj] at hu
    simp only [Option.map_some, Option.some.injEq] at hu
    obtain ⟨h1, h2⟩ := h (j / 2) (by omega)
    by_cases he : j % 2 = 0
    · rw [if_pos he] at hu
      rw [← hu, show off + j = off + j / 2 * 2 by omega]
      exact h1
    · rw [if_neg he] at hu
      rw [← hu, show off + j = off + j / 2 * 2 + 1 by omega]
      exact h2
  · rw [List.getElem?_eq_none (by simpa using hj)] at hu
    cases hu

theorem symV_one (S : Sy) : ∀ u ∈ symV S, u.oneCell' = true := by
  intro u hu
  unfold symV at hu
  rw [List.mem_map] at hu
  obtain ⟨j, _, rfl⟩ := hu
  split <;> rfl

theorem isS_own {w : World} {B : Nat} {S : Sy} {v : Value} (h : w.ownsRow B 64 2 v S.len (symV S)) : ∃ p c, v = .slice p S.len c ∧ IsS w S p S.len c := by
  obtain ⟨hx, h2⟩ := id h
  rcases h2 with ⟨rfl, h0⟩ | ⟨g, cap, cur, rfl, hbg, hg, hnc, hcm, hcs, htake⟩
  · exact ⟨none, 0, by rw [h0], rfl, by omega, by simp [maxLen], fun _ => rfl, Or.inl h0⟩
  · refine ⟨_, _, rfl, rfl, hnc, hcm, fun e => by simp at e, Or.inr ⟨g, 0, rfl, fun i hi => ?_⟩⟩
    rw [Nat.zero_add, h.cellAt (i * 2) (by omega), h.cellAt (i * 2 + 1) (by omega)]
    exact symV_at hi

/-- copy i among the values vs, and what it leads to, apart from the row itself -/
def CpAt (w : World) (B : Nat) (v : Value) (F : Fu) (i : Nat) (vs : List Value) : Prop :=
  ∃ (q : Option Addr) (c : Nat) (r : Option Addr) (d lo hi : Nat),
    vs[i * 5]? = some (.string (F.nm i)) ∧ vs[i * 5 + 1]? = some (.slice q (F.st i).len c) ∧ vs[i * 5 + 2]? = some (.int .i64 (F.bk i)) ∧ vs[i * 5 + 3]? = some (.int .i64 (F.bn i)) ∧ vs[i * 5 + 4]? = some (.slice r (F.bt i).len d) ∧
    Own w (F.st i) q c lo hi ∧ OwnX w (F.bt i) r d lo hi ∧ B ≤ lo ∧ hi ≤ w.heap.size ∧ ∀ g, v.ownBlock = some g → g < lo ∨ hi ≤ g

theorem CpAt.keep {w w' : World} {B : Nat} {v v' : Value} {F : Fu} {i : Nat} {vs : List Value} (h : CpAt w B v F i vs) (hk : ∀ k, B ≤ k → k < w.heap.size → v.ownBlock ≠ some k → w'.heap[k]? = w.heap[k]?) (hs : w.heap.size ≤ w'.heap.size)
    (hv : ∀ g, v'.ownBlock = some g → v.ownBlock = some g ∨ w.heap.size ≤ g) : CpAt w' B v' F i vs := by
  obtain ⟨q, c, r, d, lo, hi, h1, h2, h3, h4, h5, h6, h7, hB, h8, h9⟩ := h
  have hk' : ∀ k, lo ≤ k → k < hi → w'.heap[k]? = w.heap[k]? := fun k a b => hk k (by omega) (by omega) fun e => by have := h9 k e; omega
  refine ⟨q, c, r, d, lo, hi, h1, h2, h3, h4, h5, h6.keep hk', h7.keep hk', hB, by omega, fun g hg => ?_⟩
  rcases hv g hg with h | h
  · exact h9 g h
  · exact Or.inr (by omega)

theorem CpAt.more {w : World} {B : Nat} {v : Value} {F : Fu} {i : Nat} {vs ys : List Value} (h : CpAt w B v F i vs) : CpAt w B v F i (vs ++ ys) := by
  obtain ⟨q, c, r, d, lo, hi, h1, h2, h3, h4, h5, h6⟩ := h
  have e : ∀ {j : Nat} {u : Value}, vs[j]? = some u → (vs ++ ys)[j]? = some u := fun {j u} hj => by
    rw [List.getElem?_append_left (List.getElem?_eq_some_iff.1 hj).1]; exact hj
  exact ⟨q, c, r, d, lo, hi, e h1, e h2, e h3, e h4, e h5, h6⟩

/-- where all copies are made, the functions lie there -/
theorem isF_own {w : World} {B : Nat} {F : Fu} {p : Option Addr} {c : Nat} {vs : List Value} (h : w.ownsRow B 52 5 (.slice p F.len c) F.len vs) {B' : Nat} (hc : ∀ i, i < F.len → CpAt w B' (.slice p F.len c) F i vs) : IsF w F p F.len c := by
  obtain ⟨hx, h2⟩ := id h
  rcases h2 with ⟨e, h0⟩ | ⟨g, cap, cur, e, hbg, hg, hnc, hcm, hcs, htake⟩
  · injection e with e1 e2 e3
    subst e1 e3
    exact ⟨rfl, by omega, by simp [maxLen], fun _ => rfl, Or.inl h0⟩
  · injection e with e1 e2 e3
    subst e1 e3
    refine ⟨rfl, hnc, hcm, fun e => by simp at e, Or.inr ⟨g, 0, rfl, fun i hi => ?_⟩⟩
    obtain ⟨q, c', r, d, lo, hi', h1, h2, h3, h4, h5, h6, h7, _, _⟩ := hc i hi
    refine ⟨q, (F.st i).len, c', r, (F.bt i).len, d, ?_, ?_, ?_, ?_, ?_, h6.isT, h7.isX⟩ <;> rw [Nat.zero_add]
    · rw [h.cellAt (i * 5) (by omega)]; exact h1
    · rw [h.cellAt (i * 5 + 1) (by omega)]; exact h2
    · rw [h.cellAt (i * 5 + 2) (by omega)]; exact h3
    · rw [h.cellAt (i * 5 + 3) (by omega)]; exact h4
    · rw [h.cellAt (i * 5 + 4) (by omega)]; exact h5

/-- the copy that has been appended last -/
theorem CpAt.last {w0 w1 w2 w3 : World} {B : Nat} {F : Fu} {j : Nat} {v v' : Value} {vs : List Value} {q r : Option Addr} {c d : Nat} {X : Obj} (hlen : vs.length = j * 5)
    (hT : Own w1 (F.st j) q c w0.heap.size w1.heap.size) (hb : Below w1.heap.size w1 w2) (hO : OwnX w2 (F.bt j) r d w1.heap.size w2.heap.size) (h01 : w0.heap.size ≤ w1.heap.size)
    (hlt : ∀ g, v.ownBlock = some g → g < w0.heap.size) (hg : (w2.alloc X).grownBy w3 v.ownBlock) (hv : ∀ g, v'.ownBlock = some g → v.ownBlock = some g ∨ w2.heap.size ≤ g) {B' : Nat} (hB : B' ≤ w0.heap.size) :
    CpAt w3 B' v' F j (vs ++ [.string (F.nm j), .slice q (F.st j).len c, .int .i64 (F.bk j), .int .i64 (F.bn j), .slice r (F.bt j).len d]) := by
  have hs := hb.size
  have hk : ∀ k, w0.heap.size ≤ k → k < w2.heap.size → w3.heap[k]? = w2.heap[k]? := fun k h1 h2 => by
    rw [hg.block k (by simp; omega) (fun e => by have := hlt k e.symm; omega), Below.heap_alloc _ _ _ h2]
  have hs3 := hg.size
  simp only [World.size_alloc] at hs3
  refine ⟨q, c, r, d, w0.heap.size, w2.heap.size, ?_, ?_, ?_, ?_, ?_, ((hT.keep fun k _ h2 => hb.block k h2).mono (Nat.le_refl _) hs).keep hk, (hO.mono h01 (Nat.le_refl _)).keep hk, hB, by omega, fun g hg' => ?_⟩
  · rw [List.getElem?_append_right (by omega), hlen, Nat.sub_self]; rfl
  · rw [List.getElem?_append_right (by omega), hlen, show j * 5 + 1 - j * 5 = 1 by omega]; rfl
  · rw [List.getElem?_append_right (by omega), hlen, show j * 5 + 2 - j * 5 = 2 by omega]; rfl
  · rw [List.getElem?_append_right (by omega), hlen, show j * 5 + 3 - j * 5 = 3 by omega]; rfl
  · rw [List.getElem?_append_right (by omega), hlen, show j * 5 + 4 - j * 5 = 4 by omega]; rfl
  · rcases hv g hg' with h | h
    · exact Or.inl (hlt g h)
    · exact Or.inr h

theorem owns_later {wr w1 : World} {B sz : Nat} {ty : TypeId} {v : Value} {n : Nat} {xs : List Value} (h : wr.ownsRow B ty sz v n xs) (hb : Below wr.heap.size wr w1) : w1.ownsRow B ty sz v n xs := by
  refine h.kept (row := none) ⟨hb.os, hb.tape, hb.output, hb.size, fun k hk _ => hb.block k hk⟩ ?_
  cases v.ownBlock with
  | none => exact Or.inl rfl
  | some g => exact Or.inr (by simp)

/-- a row of symbols is as it was where a row of functions grows -/
theorem sy_grown {W W2 : World} {B B' n k : Nat} {p v : Value} {ss xs : List Value} {o : Obj} (h : W.ownsRow B 64 2 p n ss) (ho : W.ownsRow B' 52 5 v k xs) (hg : (W.alloc o).grownBy W2 v.ownBlock) : W2.ownsRow B 64 2 p n ss := by
  obtain ⟨hx, h2⟩ := h
  refine ⟨hx, ?_⟩
  rcases h2 with h2 | ⟨g, cap, cur, e, hbg, hgb, hr⟩
  · exact Or.inl h2
  · refine Or.inr ⟨g, cap, cur, e, hbg, ?_, hr⟩
    have hlt := lt_of_block hgb
    rw [hg.block g (by simp; omega) ?_, Below.heap_alloc _ _ _ hlt]
    · exact hgb
    · obtain ⟨_, h3⟩ := ho
      rcases h3 with ⟨rfl, _⟩ | ⟨g', cap', cur', rfl, _, hgb', _⟩
      · intro e; cases e
      · intro e
        obtain rfl : g = g' := Option.some.inj e
        rw [hgb] at hgb'
        cases hgb'

theorem sy_set {W : World} {B n b o : Nat} {p u : Value} {ss : List Value} (h : W.ownsRow B 64 2 p n ss) (hb : b < B) : (W.setCell ⟨b, o, none⟩ u).ownsRow B 64 2 p n ss := ownsRow_setCell_below h hb u

theorem CpAt.set {w : World} {B b o : Nat} {v u : Value} {F : Fu} {i : Nat} {vs : List Value} (h : CpAt w B v F i vs) (hb : b < B) : CpAt (w.setCell ⟨b, o, none⟩ u) B v F i vs :=
  h.keep (fun k hk _ _ => Below.heap_setCell _ _ _ _ (by show k ≠ b; omega)) (by simp [World.setCell]) (fun g hg => Or.inl hg)

theorem fn_set {W : World} {B n b o : Nat} {p u : Value} {ss : List Value} (h : W.ownsRow B 52 5 p n ss) (hb : b < B) : (W.setCell ⟨b, o, none⟩ u).ownsRow B 52 5 p n ss := ownsRow_setCell_below h hb u

theorem two_set1 {w : World} {b : Nat} {x y u : Value} {t : TypeId} (h : w.heap[b]? = some (.cells #[x, y] t (0, 0))) : (w.setCell ⟨b, 1, none⟩ u).heap[b]? = some (.cells #[x, u] t (0, 0)) := by
  have := heap_setCell_same w b 1 #[x, y] t u h
  simpa using this

theorem two_set0 {w : World} {b : Nat} {x y u : Value} {t : TypeId} (h : w.heap[b]? = some (.cells #[x, y] t (0, 0))) : (w.setCell ⟨b, 0, none⟩ u).heap[b]? = some (.cells #[u, y] t (0, 0)) := by
  have := heap_setCell_same w b 0 #[x, y] t u h
  simpa using this

/-- a round of the copying loop -/
theorem copy_round {x : Sc} {w wr W1 w3 w4 w5 : World} {j c g cp c1 c1' c2' : Nat} {q p1 q1 q2 : Option Addr} {vs : List Value} {X : Obj}
    (hown : wr.ownsRow (w.heap.size + 3) 52 5 (.slice q j c) j vs) (hcp : ∀ i, i < j → CpAt wr (w.heap.size + 3) (.slice q j c) x.F i vs)
    (hout : wr.heap[w.heap.size + 2]? = some (.cells #[.slice p1 x.S.len c1, .slice q j c] 25 (0, 0))) (hres : wr.heap[w.heap.size + 1]? = some (.cells #[.slice none 0 0, .slice none 0 0] 25 (0, 0)))
    (hsy : wr.ownsRow (w.heap.size + 3) 64 2 (.slice p1 x.S.len c1) x.S.len (symV x.S)) (hb : Below w.heap.size w wr) (hlt3 : w.heap.size + 3 ≤ wr.heap.size)
    (h1 : Below wr.heap.size wr W1) (hs1 : wr.heap.size ≤ W1.heap.size) (h3 : Below W1.heap.size W1 w3) (h4 : Below w3.heap.size w3 w4)
    (hO3 : Own w3 (x.F.st j) q1 c1' W1.heap.size w3.heap.size) (hO4 : OwnX w4 (x.F.bt j) q2 c2' w3.heap.size w4.heap.size)
    (hown5 : w5.ownsRow (w.heap.size + 3) 52 5 (.slice (some ⟨g, 0, none⟩) (j + 1) cp) (j + 1) (vs ++ [.string (x.F.nm j), .slice q1 (x.F.st j).len c1', .int .i64 (x.F.bk j), .int .i64 (x.F.bn j), .slice q2 (x.F.bt j).len c2']))
    (hgrow : (w4.alloc X).grownBy w5 (Value.slice q j c).ownBlock) (hat : (Value.slice q j c).ownBlock = some g ∨ g = w4.heap.size + 1) :
    (w5.setCell ⟨w.heap.size + 2, 1, none⟩ (.slice (some ⟨g, 0, none⟩) (j + 1) cp)).ownsRow (w.heap.size + 3) 52 5 (.slice (some ⟨g, 0, none⟩) (j + 1) cp) (j + 1) (vs ++ [.string (x.F.nm j), .slice q1 (x.F.st j).len c1', .int .i64 (x.F.bk j), .int .i64 (x.F.bn j), .slice q2 (x.F.bt j).len c2']) ∧
    (∀ i, i < j + 1 → CpAt (w5.setCell ⟨w.heap.size + 2, 1, none⟩ (.slice (some ⟨g, 0, none⟩) (j + 1) cp)) (w.heap.size + 3) (.slice (some ⟨g, 0, none⟩) (j + 1) cp) x.F i (vs ++ [.string (x.F.nm j), .slice q1 (x.F.st j).len c1', .int .i64 (x.F.bk j), .int .i64 (x.F.bn j), .slice q2 (x.F.bt j).len c2'])) ∧
    (w5.setCell ⟨w.heap.size + 2, 1, none⟩ (.slice (some ⟨g, 0, none⟩) (j + 1) cp)).heap[w.heap.size + 2]? = some (.cells #[.slice p1 x.S.len c1, .slice (some ⟨g, 0, none⟩) (j + 1) cp] 25 (0, 0)) ∧
    (w5.setCell ⟨w.heap.size + 2, 1, none⟩ (.slice (some ⟨g, 0, none⟩) (j + 1) cp)).heap[w.heap.size + 1]? = some (.cells #[.slice none 0 0, .slice none 0 0] 25 (0, 0)) ∧
    (w5.setCell ⟨w.heap.size + 2, 1, none⟩ (.slice (some ⟨g, 0, none⟩) (j + 1) cp)).ownsRow (w.heap.size + 3) 64 2 (.slice p1 x.S.len c1) x.S.len (symV x.S) ∧
    Below w.heap.size w (w5.setCell ⟨w.heap.size + 2, 1, none⟩ (.slice (some ⟨g, 0, none⟩) (j + 1) cp)) ∧ w.heap.size + 3 ≤ (w5.setCell ⟨w.heap.size + 2, 1, none⟩ (.slice (some ⟨g, 0, none⟩) (j + 1) cp)).heap.size := by
  have hlo := hown.lt
  have s3 := h3.size
  have s4 := h4.size
  have s5 := hgrow.size
  simp only [World.size_alloc] at s5
  have h14 : Below wr.heap.size wr w4 := h1.trans ((h3.trans (h4.mono s3)).mono hs1)
  have hk : ∀ k, k < wr.heap.size → (Value.slice q j c).ownBlock ≠ some k → w5.heap[k]? = wr.heap[k]? := fun k h1 h2 => by
    rw [hgrow.block k (by simp; omega) (fun e => h2 e.symm), Below.heap_alloc _ _ _ (by omega), h14.block k h1]
  have hno : ∀ k, k < w.heap.size + 3 → (Value.slice q j c).ownBlock ≠ some k := fun k hk e => by have := (hlo k e).1; omega
  have hv : ∀ g', (Value.slice (some ⟨g, 0, none⟩) (j + 1) cp).ownBlock = some g' → (Value.slice q j c).ownBlock = some g' ∨ w4.heap.size ≤ g' := fun g' e => by
    obtain rfl : g = g' := Option.some.inj e
    rcases hat with h | h
    · exact Or.inl h
    · exact Or.inr (by omega)
  have hzs : (w5.setCell ⟨w.heap.size + 2, 1, none⟩ (.slice (some ⟨g, 0, none⟩) (j + 1) cp)).heap.size = w5.heap.size := by simp [World.setCell]
  refine ⟨fn_set hown5 (by omega), fun i hi => ?_, two_set1 ((hk _ (by omega) (hno _ (by omega))).trans hout), (Below.heap_setCell _ _ _ _ (by show w.heap.size + 1 ≠ w.heap.size + 2; omega)).trans ((hk _ (by omega) (hno _ (by omega))).trans hres),
    sy_set (sy_grown (owns_later hsy h14) (owns_later hown h14) hgrow) (by omega), ?_, by rw [hzs]; omega⟩
  · refine CpAt.set ?_ (by omega)
    by_cases e : i = j
    · subst e
      exact CpAt.last (B := w.heap.size + 3) hown.1 hO3 h4 hO4 s3 (fun g hg => by have := (hlo g hg).2; omega) hgrow hv (by omega)
    · exact ((hcp i (by omega)).more).keep (fun k _ h1 h2 => hk k h1 h2) (by omega) (fun g' hg' => by rcases hv g' hg' with h | h; exact Or.inl h; exact Or.inr (by omega))
  · have hb4 := hb.trans (h14.mono hb.size)
    have hs4 := hb4.size
    exact ((hb4.alloc hs4 X).grown hgrow (by simp; omega) fun k hk => by have := (hlo k hk).1; omega).setCell (p := ⟨w.heap.size + 2, 1, none⟩) (by show w.heap.size ≤ w.heap.size + 2; omega) _

end Go.Proofs.YtjkcopgfcafpeaaGreatDoor

/-
  Plain mathematics of the reference's reader of lines: a line of a function as the reference cuts it, and a body within the whole text. Conditions: texts of at most 65536 bytes, where it says so.
-/
set_option linter.unusedSimpArgs false
set_option linter.unusedVariables false
namespace Go.Proofs.YtjkcopgfcafpeaaGreatDoor
open Go.RowKit Go.Maps

theorem span_tail {p : UInt8 → Bool} (hp : p 10 = false) (s r : List UInt8) : (s ++ 10 :: r).takeWhile p = s.takeWhile p ∧ (s ++ 10 :: r).dropWhile p = s.dropWhile p ++ 10 :: r := by
  induction s with
  | nil => simp [hp]
  | cons c s ih =>
    rw [List.cons_append]
    cases hc : p c with
    | true => simp only [List.takeWhile_cons, List.dropWhile_cons, hc, if_true]; exact ⟨by rw [ih.1], ih.2⟩
    | false => simp only [List.takeWhile_cons, List.dropWhile_cons, hc]; exact ⟨rfl, rfl⟩

theorem rdName_tail (s r : List UInt8) : rdName (s ++ 10 :: r) = (rdName s).map fun y => (y.1, y.2 ++ 10 :: r) := by
  obtain ⟨h1, h2⟩ := span_tail (p := inN) (by decide) s r
  unfold rdName
  rw [h1, h2]
  split <;> rfl

theorem rdNum_tail (s r : List UInt8) : rdNum (s ++ 10 :: r) = (rdNum s).map fun y => (y.1, y.2 ++ 10 :: r) := by
  obtain ⟨h1, h2⟩ := span_tail (p := inD) (by decide) s r
  unfold rdNum
  rw [h1, h2]
  cases numOf (s.takeWhile inD) <;> rfl

theorem pre_tail {c : UInt8} (hc : c ≠ 10) (s r : List UInt8) : pre [c] (s ++ 10 :: r) = pre [c] s := by
  cases s with
  | nil =>
    rw [List.nil_append, pre_no hc]
    rfl
  | cons d s => simp [Proofs.YtjkcopgfcafpeaaGreatDoor.pre, List.isPrefixOf]

theorem drop_tail {c : UInt8} {s : List UInt8} (h : pre [c] s = true) (r : List UInt8) : (s ++ 10 :: r).drop 1 = s.drop 1 ++ 10 :: r := by
  obtain ⟨q, rfl⟩ := (pre_iff _ _).1 h
  rfl

theorem rdHead_tail (S F : List ByteArray) (s r : List UInt8) : rdHead S F (s ++ 10 :: r) = (rdHead S F s).map fun y => (y.1, y.2 ++ 10 :: r) := by
  unfold rdHead
  rw [pre_tail (by decide), pre_tail (by decide)]
  by_cases h1 : pre [36] s = true
  · rw [if_pos h1, if_pos h1, drop_tail h1, rdNum_tail, Option.map_map, Option.map_map]
    rfl
  · rw [if_neg h1, if_neg h1]
    by_cases h2 : pre [35] s = true
    · rw [if_pos h2, if_pos h2, drop_tail h2, rdName_tail]
      cases rdName (s.drop 1) with
      | none => rfl
      | some x => simp only [Option.map_some, Option.bind_some]; cases idx S x.1 <;> rfl
    · rw [if_neg h2, if_neg h2, rdName_tail]
      cases rdName s with
      | none => rfl
      | some x => simp only [Option.map_some, Option.bind_some]; cases idx F x.1 <;> rfl

theorem rdArgs_tail (S F : List ByteArray) (r : List UInt8) : ∀ (f : Nat) (s : List UInt8), rdArgs S F f (s ++ 10 :: r) = (rdArgs S F f s).map fun y => (y.1, y.2 ++ 10 :: r) := by
  intro f
  induction f with
  | zero => intro s; rfl
  | succ f ih =>
    intro s
    unfold rdArgs
    rw [pre_tail (by decide)]
    by_cases h1 : pre [32] s = true
    · rw [if_pos h1, if_pos h1, drop_tail h1, pre_tail (by decide)]
      by_cases h2 : pre [40] (s.drop 1) = true
      · have e : (s ++ 10 :: r).drop 2 = s.drop 2 ++ 10 :: r := by
          rw [show (2 : Nat) = 1 + 1 from rfl, ← List.drop_drop, drop_tail h1, drop_tail h2, List.drop_drop]
        rw [if_pos h2, if_pos h2, e, rdHead_tail]
        cases rdHead S F (s.drop 2) with
        | none => rfl
        | some x =>
          obtain ⟨hd, r1⟩ := x
          simp only [Option.map_some]
          rw [ih r1]
          cases rdArgs S F f r1 with
          | none => rfl
          | some y =>
            obtain ⟨a, r2⟩ := y
            simp only [Option.map_some]
            rw [pre_tail (by decide)]
            by_cases h3 : a.len ≠ 0 ∧ pre [41] r2 = true
            · rw [if_pos h3, if_pos h3, drop_tail h3.2, ih, Option.map_map, Option.map_map]
              rfl
            · rw [if_neg h3, if_neg h3]
              rfl
      · rw [if_neg h2, if_neg h2, rdHead_tail]
        cases rdHead S F (s.drop 1) with
        | none => rfl
        | some x =>
          obtain ⟨hd, r1⟩ := x
          simp only [Option.map_some]
          rw [ih r1, Option.map_map, Option.map_map]
          rfl
    · rw [if_neg h1, if_neg h1]
      rfl

theorem rdT_tail (S F : List ByteArray) (s r : List UInt8) : rdT S F (s ++ 10 :: r) = (rdT S F s).map fun y => (y.1, y.2 ++ 10 :: r) := by
  unfold rdT
  rw [rdHead_tail]
  cases rdHead S F s with
  | none => rfl
  | some x =>
    obtain ⟨hd, r1⟩ := x
    simp only [Option.map_some, Option.bind_some]
    unfold rdA
    rw [rdArgs_tail, rdArgs_fuel ((r1 ++ 10 :: r).length + 1) (r1.length + 1) r1 (by simp; omega) (by omega)]
    cases rdArgs S F (r1.length + 1) r1 <;> rfl

theorem rdHead_suf {S F : List ByteArray} {s r : List UInt8} {h : Int × Int} (hh : rdHead S F s = some (h, r)) : r <:+ s := by
  have hn : ∀ (s r : List UInt8) (n : ByteArray), rdName s = some (n, r) → r <:+ s := by
    intro s r n h
    unfold rdName at h
    split at h
    · simp only [Option.some.injEq, Prod.mk.injEq] at h
      rw [← h.2]
      exact List.dropWhile_suffix _
    · cases h
  unfold rdHead at hh
  split at hh
  · rw [Option.map_eq_some_iff] at hh
    obtain ⟨⟨v, r'⟩, hx, he⟩ := hh
    simp only [Prod.mk.injEq] at he
    obtain ⟨_, rfl⟩ := he
    unfold rdNum at hx
    rw [Option.map_eq_some_iff] at hx
    obtain ⟨v', _, he⟩ := hx
    simp only [Prod.mk.injEq] at he
    rw [← he.2]
    exact (List.dropWhile_suffix _).trans (List.drop_suffix _ _)
  · split at hh
    all_goals
      rw [Option.bind_eq_some_iff] at hh
      obtain ⟨⟨v, r'⟩, hx, he⟩ := hh
      rw [Option.map_eq_some_iff] at he
      obtain ⟨i, _, he⟩ := he
      simp only [Prod.mk.injEq] at he
      obtain ⟨_, rfl⟩ := he
    · exact (hn _ _ _ hx).trans (List.drop_suffix _ _)
    · exact hn _ _ _ hx

theorem rdArgs_suf {S F : List ByteArray} : ∀ (f : Nat) (s : List UInt8) (a : X) (r : List UInt8), rdArgs S F f s = some (a, r) → r <:+ s := by
  intro f
  induction f with
  | zero => intro s a r h; cases h
  | succ f ih =>
    intro s a r h
    unfold rdArgs at h
    split at h
    · split at h
      · split at h
        · cases h
        · rename_i hh rr he
          split at h
          · cases h
          · rename_i a2 r2 he2
            split at h
            · rw [Option.map_eq_some_iff] at h
              obtain ⟨x, hx, he3⟩ := h
              simp only [Prod.mk.injEq] at he3
              obtain ⟨rfl, rfl⟩ := he3
              exact (((ih _ _ _ hx).trans (List.drop_suffix _ _)).trans (ih _ _ _ he2)).trans ((rdHead_suf he).trans (List.drop_suffix _ _))
            · cases h
      · split at h
        · cases h
        · rename_i hh rr he
          rw [Option.map_eq_some_iff] at h
          obtain ⟨x, hx, he3⟩ := h
          simp only [Prod.mk.injEq] at he3
          obtain ⟨rfl, rfl⟩ := he3
          exact (ih _ _ _ hx).trans ((rdHead_suf he).trans (List.drop_suffix _ _))
    · simp only [Option.some.injEq, Prod.mk.injEq] at h
      rw [← h.2]
      exact List.suffix_refl _

theorem rdT_suf {S F : List ByteArray} {s r : List UInt8} {t : Int × Int × X} (h : rdT S F s = some (t, r)) : r <:+ s := by
  unfold rdT at h
  rw [Option.bind_eq_some_iff] at h
  obtain ⟨⟨hd, r1⟩, h1, h2⟩ := h
  rw [Option.map_eq_some_iff] at h2
  obtain ⟨⟨a, r2⟩, h3, h4⟩ := h2
  simp only [Prod.mk.injEq] at h4
  obtain ⟨rfl, rfl⟩ := h4
  exact (rdArgs_suf _ _ _ _ h3).trans (rdHead_suf h1)

/-- a body within the whole text -/
theorem rdBody_in (S F : List ByteArray) (bd r : List UInt8) (hb : ∀ c ∈ bd, c ≠ 10) :
    rdBody S F bd = (rdT S F (bd ++ 10 :: r)).bind fun x => if pre [10] x.2 = true then some x.1 else none := by
  unfold rdBody
  rw [rdT_tail]
  cases h : rdT S F bd with
  | none => rfl
  | some x =>
    obtain ⟨t, r0⟩ := x
    simp only [Option.map_some, Option.bind_some]
    cases r0 with
    | nil => simp [Proofs.YtjkcopgfcafpeaaGreatDoor.pre, List.isPrefixOf]
    | cons c r0 =>
      have hc := hb c ((rdT_suf h).subset (by simp))
      rw [List.cons_append, pre_no (fun e => hc e.symm)]
      simp

/-- a line of a function as the reference reads it -/
def rawF (s : List UInt8) : Option (FL × List UInt8) :=
  (rdName s).bind fun n => (need [32, 58, 32] n.2).bind fun r => (rd r).bind fun t => (need [32, 61, 32] t.2).bind fun c => (cutAt [10] c).map fun b => (⟨n.1, t.1, t.1.oE, b.1⟩, b.2)

/-- the sort that is kept of it -/
def FL.fix (f : FL) : FL := ⟨f.nm, if f.st.valid = true then f.st else .nil, f.er, f.bd⟩

theorem T.oE_no4 (t : T) : t.oE ≠ 4 := by unfold T.oE; split <;> decide

theorem rdFun_raw (s : List UInt8) (hs : s.length ≤ 65536) : rdFun s = (rawF s).map fun y => (y.1.fix, y.2) := by
  unfold rdFun rawF
  cases hn : rdName s with
  | none => rfl
  | some n =>
    simp only [Option.bind_some]
    cases hd : need [32, 58, 32] n.2 with
    | none => rfl
    | some r =>
      simp only [Option.bind_some]
      have hl : r.length ≤ 65536 := by
        have h1 := need_le hd
        have h2 := (rdName_lt (n := n.1) (r := n.2) hn).1
        omega
      have key : ∀ t c, rd r = some (t, [32, 61, 32] ++ c) → cutAt [32, 61, 32] r = some (t.txt, c) := by
        intro t c h
        rw [rd_txt _ r t _ (Nat.lt_succ_self _) h]
        exact cut_sort
      have yek : ∀ a c, cutAt [32, 61, 32] r = some (a, c) → ansE a ≠ 4 → ∃ t, rd r = some (t, [32, 61, 32] ++ c) := by
        intro a c h h4
        have hra := cutAt_app h
        unfold ansE at h4
        have hla : a.length ≤ 65536 := by have := cutAt_le h; omega
        rw [if_pos hla] at h4
        split at h4
        · rename_i t ht
          refine ⟨t, ?_⟩
          have e := rd_txt _ a t [] (Nat.lt_succ_self _) ht
          rw [List.append_nil] at e
          rw [hra, e]
          exact txt_rd t _ rfl
        · exact absurd rfl h4
      have L : ∀ (x : Option (FL × List UInt8)), (∀ t c, rd r = some (t, [32, 61, 32] ++ c) → x = (cutAt [10] c).map fun b => (⟨n.1, t, t.oE, b.1⟩, b.2)) → ((∀ t c, rd r ≠ some (t, [32, 61, 32] ++ c)) → x = none) →
          ((cutAt [32, 61, 32] r).bind fun c => if ansE c.1 = 4 then none else (cutAt [10] c.2).map fun b => ((⟨n.1, ansT c.1, ansE c.1, b.1⟩ : FL), b.2)) = x.map fun y => (y.1.fix, y.2) := by
        intro x h1 h2
        by_cases h : ∃ t c, rd r = some (t, [32, 61, 32] ++ c)
        · obtain ⟨t, c, h⟩ := h
          have hc := key t c h
          rw [h1 t c h, hc, Option.bind_some]
          have hr : rd t.txt = some (t, []) := by have := txt_rd t [] rfl; rwa [List.append_nil] at this
          have hlt : t.txt.length ≤ 65536 := by have := cutAt_le hc; omega
          have eE : ansE t.txt = t.oE := by unfold ansE; rw [if_pos hlt, hr]
          have eT : ansT t.txt = if t.valid = true then t else .nil := by unfold ansT; rw [if_pos hlt, hr]
          simp only
          rw [eE, eT, if_neg t.oE_no4, Option.map_map]
          rfl
        · rw [h2 fun t c e => h ⟨t, c, e⟩]
          cases hc : cutAt [32, 61, 32] r with
          | none => rfl
          | some c =>
            rw [Option.bind_some]
            by_cases h4 : ansE c.1 = 4
            · rw [if_pos h4]; rfl
            · obtain ⟨t, ht⟩ := yek c.1 c.2 hc h4
              exact absurd ⟨t, c.2, ht⟩ h
      refine L _ (fun t c h => ?_) (fun h => ?_)
      · rw [h, Option.bind_some, need_put, Option.bind_some]
      · cases hr : rd r with
        | none => rfl
        | some x =>
          obtain ⟨t, r1⟩ := x
          rw [Option.bind_some]
          cases h2 : need [32, 61, 32] r1 with
          | none => rfl
          | some c =>
            rw [need_app h2] at hr
            exact absurd hr (h t c)

end Go.Proofs.YtjkcopgfcafpeaaGreatDoor

/-
  Plain mathematics of the reference's lines: all lines as the reference cuts them, and where a line ends. Conditions: texts of at most 65536 bytes, where it says so.
-/
set_option linter.unusedSimpArgs false
set_option linter.unusedVariables false
namespace Go.Proofs.YtjkcopgfcafpeaaGreatDoor
open Go.RowKit Go.Maps

theorem rawF_lt {s r : List UInt8} {x : FL} (h : rawF s = some (x, r)) : r.length + x.bd.length < s.length := by
  unfold rawF at h
  simp only [Option.bind_eq_some_iff, Option.map_eq_some_iff] at h
  obtain ⟨⟨n, r0⟩, h0, r1, h1, ⟨t, r2⟩, h2, r3, h3, ⟨b1, b2⟩, h4, h5⟩ := h
  simp only [Prod.mk.injEq] at h5
  obtain ⟨rfl, rfl⟩ := h5
  have := (rdName_lt h0).1
  have := need_le h1
  have := rd_lt h2
  have := need_le h3
  have := cutAt_le h4
  simp only [List.length_cons, List.length_nil] at *
  omega

def rawFuns : Nat → List UInt8 → Option (List FL)
  | 0, _ => none
  | f + 1, s => if s.isEmpty = true then some [] else (need funW s).bind fun r => (rawF r).bind fun x => (rawFuns f x.2).map fun y => x.1 :: y

theorem rawFuns_fuel : ∀ (f g : Nat) (s : List UInt8), s.length < f → s.length < g → rawFuns f s = rawFuns g s := by
  intro f
  induction f with
  | zero => intro g s h; omega
  | succ f ih =>
    intro g s hf hg
    cases g with
    | zero => omega
    | succ g =>
      unfold rawFuns
      by_cases h1 : s.isEmpty = true
      · rw [if_pos h1, if_pos h1]
      · rw [if_neg h1, if_neg h1]
        cases hn : need funW s with
        | none => rfl
        | some r0 =>
          have h0 := need_le hn
          simp only [Option.bind_some]
          cases he : rawF r0 with
          | none => rfl
          | some x =>
            obtain ⟨a, r⟩ := x
            have := rawF_lt he
            simp only [Option.bind_some]
            rw [ih g r (by omega) (by omega)]

theorem rdFuns_raw : ∀ (f : Nat) (s : List UInt8), s.length ≤ 65536 → rdFuns f s = (rawFuns f s).map (List.map FL.fix) := by
  intro f
  induction f with
  | zero => intro s _; rfl
  | succ f ih =>
    intro s hs
    unfold rdFuns rawFuns
    by_cases h1 : s.isEmpty = true
    · rw [if_pos h1, if_pos h1]; rfl
    · rw [if_neg h1, if_neg h1]
      cases hn : need funW s with
      | none => rfl
      | some r0 =>
        have h0 := need_le hn
        simp only [Option.bind_some]
        rw [rdFun_raw r0 (by omega)]
        cases he : rawF r0 with
        | none => rfl
        | some x =>
          obtain ⟨a, r⟩ := x
          have := rawF_lt he
          simp only [Option.bind_some, Option.map_some]
          rw [ih r (by omega)]
          cases rawFuns f r <;> rfl

def rawFu (s : List UInt8) : Option (List FL) := rawFuns (s.length + 1) s

theorem rawFu_end : rawFu [] = some [] := rfl

theorem rawFu_more {s : List UInt8} (h : s ≠ []) : rawFu s = (need funW s).bind fun r => (rawF r).bind fun x => (rawFu x.2).map fun y => x.1 :: y := by
  unfold rawFu
  conv => lhs; unfold rawFuns
  rw [if_neg (by simpa using h)]
  cases hn : need funW s with
  | none => rfl
  | some r0 =>
    have h0 := need_le hn
    simp only [Option.bind_some]
    cases he : rawF r0 with
    | none => rfl
    | some x =>
      obtain ⟨a, r⟩ := x
      have := rawF_lt he
      simp only [Option.bind_some]
      rw [rawFuns_fuel _ (r.length + 1) r (by omega) (by omega)]

/-- all lines, as the reference cuts them -/
def rawL (s : List UInt8) : Option (List (ByteArray × Int) × List FL) := (rdSy s).bind fun x => (rawFu x.2).map fun y => (x.1, y)

theorem rdL_raw (s : List UInt8) (hs : s.length ≤ 65536) : rdL s = (rawL s).map fun x => (x.1, x.2.map FL.fix) := by
  unfold rdL rawL
  cases h : rdSy s with
  | none => rfl
  | some x =>
    have hl := rdSyms_le _ _ _ _ h
    simp only [Option.bind_some]
    unfold rdFu rawFu
    rw [rdFuns_raw _ _ (by omega)]
    cases rawFuns (x.2.length + 1) x.2 <;> rfl

theorem rawFu_push {s r r1 r2 : List UInt8} {L : List FL} {x : FL} (hrd : rawFu s = (rawFu r).map fun y => L ++ y) (hp : pre funW r = true) (hr : r.drop 4 = r1) (h : rawF r1 = some (x, r2)) :
    rawFu s = (rawFu r2).map fun y => (L ++ [x]) ++ y := by
  have h0 : r ≠ [] := by rintro rfl; cases hp
  have hn : need funW r = some r1 := by unfold need; rw [if_pos hp]; exact congrArg some hr
  rw [hrd, rawFu_more h0, hn, Option.bind_some, h, Option.bind_some, Option.map_map]
  congr 1
  funext y
  simp

theorem rawFu_bad {s r r1 : List UInt8} {L : List FL} (hrd : rawFu s = (rawFu r).map fun y => L ++ y) (hp : pre funW r = true) (hr : r.drop 4 = r1) (h : rawF r1 = none) : rawFu s = none := by
  have h0 : r ≠ [] := by rintro rfl; cases hp
  have hn : need funW r = some r1 := by unfold need; rw [if_pos hp]; exact congrArg some hr
  rw [hrd, rawFu_more h0, hn, Option.bind_some, h]
  rfl

theorem rawFu_out {s r : List UInt8} {L : List FL} (hrd : rawFu s = (rawFu r).map fun y => L ++ y) (hp : pre funW r = false) : rawFu s = if r.length = 0 then some L else none := by
  rw [hrd]
  cases r with
  | nil => rw [rawFu_end]; simp
  | cons c r =>
    rw [rawFu_more (by simp)]
    have hn : need funW (c :: r) = none := by unfold need; rw [if_neg (by rw [hp]; decide)]
    rw [hn]
    rfl

def no10 (c : UInt8) : Bool := !(c == 10)

theorem no10_cases : ∀ (c : List UInt8), (c.takeWhile no10 = c ∧ ∀ d ∈ c, d ≠ 10) ∨ ∃ r, c = c.takeWhile no10 ++ ([10] ++ r) := by
  intro c
  induction c with
  | nil => exact Or.inl ⟨rfl, fun d h => by cases h⟩
  | cons d c ih =>
    by_cases hd : d = 10
    · subst hd
      exact Or.inr ⟨c, by simp [no10]⟩
    · have hn : no10 d = true := by simpa [no10] using hd
      rcases ih with ⟨h1, h2⟩ | ⟨r, h⟩
      · refine Or.inl ⟨by rw [List.takeWhile_cons, hn, if_pos rfl, h1], fun e he => ?_⟩
        rcases List.mem_cons.1 he with rfl | he
        · exact hd
        · exact h2 e he
      · refine Or.inr ⟨r, ?_⟩
        rw [List.takeWhile_cons, hn, if_pos rfl, List.cons_append]
        exact congrArg (d :: ·) h

theorem no10_all (c : List UInt8) : ∀ d ∈ c.takeWhile no10, d ≠ 10 := fun d hd e => by
  have := List.all_eq_true.1 (List.all_takeWhile (p := no10) (l := c)) d hd
  subst e
  exact absurd this (by decide)

/-- the line, to its end -/
theorem cut10 (c : List UInt8) : cutAt [10] c = if (c.takeWhile no10).length < c.length then some (c.takeWhile no10, c.drop ((c.takeWhile no10).length + 1)) else none := by
  have ha := no10_all c
  rcases no10_cases c with ⟨h1, h2⟩ | ⟨r, h⟩
  · rw [if_neg (by rw [h1]; omega)]
    cases hc : cutAt [10] c with
    | none => rfl
    | some x =>
      have h3 := cutAt_app (a := x.1) (b := x.2) hc
      exact absurd rfl (h2 10 (by rw [h3]; simp))
  · generalize c.takeWhile no10 = a at h ha
    subst h
    rw [cut_line ha, if_pos (by simp), ← List.drop_drop, List.drop_left]
    rfl

/-- the first place at or behind i that is the end of a line, or of the text -/
def lineEnd (s : List UInt8) (i : Nat) : Nat := i + ((s.drop i).takeWhile no10).length

theorem lineEnd_le {s : List UInt8} {i : Nat} (h : i ≤ s.length) : i ≤ lineEnd s i ∧ lineEnd s i ≤ s.length := by
  unfold lineEnd
  have := (List.takeWhile_prefix (l := s.drop i) no10).length_le
  simp only [List.length_drop] at this
  omega

theorem lineEnd_in {s : List UInt8} {i : Nat} (h : i < s.length) (hc : no10 (s.getD i 0) = true) : lineEnd s i = lineEnd s (i + 1) := by
  unfold lineEnd
  rw [List.drop_eq_getElem_cons h]
  have e : s.getD i 0 = s[i] := by rw [List.getD_eq_getElem?_getD, List.getElem?_eq_getElem h]; rfl
  rw [e] at hc
  rw [List.takeWhile_cons, hc, if_pos rfl, List.length_cons]
  omega

theorem lineEnd_out {s : List UInt8} {i : Nat} (h : i < s.length) (hc : no10 (s.getD i 0) = false) : lineEnd s i = i := by
  unfold lineEnd
  rw [List.drop_eq_getElem_cons h]
  have e : s.getD i 0 = s[i] := by rw [List.getD_eq_getElem?_getD, List.getElem?_eq_getElem h]; rfl
  rw [e] at hc
  rw [List.takeWhile_cons, hc]
  simp

theorem lineEnd_end {s : List UInt8} {i : Nat} (h : s.length ≤ i) : lineEnd s i = i := by
  unfold lineEnd
  rw [List.drop_of_length_le h]
  simp

/-- behind " = " -/
theorem lineEnd_eq {s : List UInt8} {i : Nat} (h : pre [32, 61, 32] (s.drop i) = true) : lineEnd s i = lineEnd s (i + 3) := by
  obtain ⟨r, hr⟩ := (pre_iff _ _).1 h
  have e : s.drop (i + 3) = r := by rw [← List.drop_drop, hr]; rfl
  unfold lineEnd
  rw [e, hr]
  simp [no10]
  omega

theorem cut10_at {s : List UInt8} {i : Nat} (hi : i ≤ s.length) : cutAt [10] (s.drop i) = if lineEnd s i < s.length then some ((s.drop i).takeWhile no10, s.drop (lineEnd s i + 1)) else none := by
  rw [cut10, List.drop_drop, List.length_drop]
  unfold lineEnd
  by_cases h : ((s.drop i).takeWhile no10).length < s.length - i
  · rw [if_pos h, if_pos (by omega), Nat.add_assoc]
  · rw [if_neg h, if_neg (by omega)]

end Go.Proofs.YtjkcopgfcafpeaaGreatDoor

