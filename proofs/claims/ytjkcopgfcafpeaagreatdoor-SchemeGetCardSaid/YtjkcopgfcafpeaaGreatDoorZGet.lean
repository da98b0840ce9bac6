/-
  Whatever text is handed in, the statement on Get answers true and leaves the text as it was. Conditions: none but the row's own (the package variables read as the program's text lays them).
-/
import Derived.Test.YtjkcopgfcafpeaaGreatDoorMi02
import Derived.Test.YtjkcopgfcafpeaaGreatDoorMi03
import Derived.Test.YtjkcopgfcafpeaaGreatDoorMg17
import Derived.Test.YtjkcopgfcafpeaaGreatDoorMg29
import Derived.Test.YtjkcopgfcafpeaaGreatDoorMi04
import Derived.Test.YtjkcopgfcafpeaaGreatDoorMg28
import Derived.Deep.CutBlock
import Derived.Test.YtjkcopgfcafpeaaGreatDoorMh02
import Derived.Deep.RegionWith
import Derived.Test.YtjkcopgfcafpeaaGreatDoorMg30
import Derived.Test.YtjkcopgfcafpeaaGreatDoorMi01
import Derived.Test.YtjkcopgfcafpeaaGreatDoorMg31
import Derived.Test.YtjkcopgfcafpeaaGreatDoorCards
import Derived.Test.YtjkcopgfcafpeaaGreatDoorTie
import Derived.SevenTiedAt

/-
  What the reference's names holds in memory: three rows of its own, two of them in a scheme's box, and what they lead to. Conditions: none.
-/
set_option linter.unusedSimpArgs false
set_option linter.unusedVariables false
namespace Go.Proofs.YtjkcopgfcafpeaaGreatDoor
open Go.RowKit Go.Maps

def inV (ns : List Int) : List Value := ns.map fun n => .int .i64 n

/-- symbols, functions without bodies, and places of bodies; the scheme's box is older than its rows -/
structure NS (w : World) (B : Nat) (p : Pos) (sy : List (ByteArray × Int)) (L : List FL) (ns : List Int) : Prop where
  box : w.heap[p.D]? = some (.cells #[.slice p.ps sy.length p.cs, .slice p.pf L.length p.cf] 25 (0, 0))
  rowS : w.ownsRow B 64 2 (.slice p.ps sy.length p.cs) sy.length (syV sy)
  rowB : w.ownsRow B 3 1 (.slice p.pb ns.length p.cb) ns.length (inV ns)
  rowF : ∃ vs, w.ownsRow B 52 5 (.slice p.pf L.length p.cf) L.length vs ∧ ∀ i, i < L.length → FnAt w B p (fuSc L []) i vs
  m1 : p.m1 = p.D
  m2 : p.m2 = p.D
  hD : p.D + 1 = B

section
variable {w w' : World} {B : Nat} {p : Pos} {sy : List (ByteArray × Int)} {L : List FL} {ns : List Int}

theorem NS.lt (h : NS w B p sy L ns) {g : Nat} (hg : p.mut g) : g < w.heap.size ∧ (g = p.D ∨ B ≤ g) := by
  obtain ⟨vs, hF, _⟩ := h.rowF
  have hD := lt_of_block h.box
  rcases hg with e | e | e | e | e | e
  · exact ⟨e ▸ hD, Or.inl e⟩
  · rw [h.m1] at e; exact ⟨e ▸ hD, Or.inl e⟩
  · rw [h.m2] at e; exact ⟨e ▸ hD, Or.inl e⟩
  · obtain ⟨_, a, c⟩ := ownsRow_block h.rowS e; exact ⟨lt_of_block a, Or.inr c⟩
  · obtain ⟨_, a, c⟩ := ownsRow_block hF e; exact ⟨lt_of_block a, Or.inr c⟩
  · obtain ⟨_, a, c⟩ := ownsRow_block h.rowB e; exact ⟨lt_of_block a, Or.inr c⟩

/-- the box is in none of the rows, and no two rows share a block -/
theorem NS.boxes (h : NS w B p sy L ns) : (Value.slice p.ps 0 0).ownBlock ≠ some p.D ∧ (Value.slice p.pf 0 0).ownBlock ≠ some p.D ∧ (Value.slice p.pb 0 0).ownBlock ≠ some p.D ∧
    (∀ g, (Value.slice p.ps 0 0).ownBlock = some g → (Value.slice p.pf 0 0).ownBlock ≠ some g ∧ (Value.slice p.pb 0 0).ownBlock ≠ some g) ∧ (∀ g, (Value.slice p.pf 0 0).ownBlock = some g → (Value.slice p.pb 0 0).ownBlock ≠ some g) := by
  obtain ⟨vs, hF, _⟩ := h.rowF
  have hS := fun g (e : (Value.slice p.ps 0 0).ownBlock = some g) => ownsRow_block h.rowS e
  have hB := fun g (e : (Value.slice p.pb 0 0).ownBlock = some g) => ownsRow_block h.rowB e
  have hF := fun g (e : (Value.slice p.pf 0 0).ownBlock = some g) => ownsRow_block hF e
  have hD := h.hD
  refine ⟨fun e => ?_, fun e => ?_, fun e => ?_, fun g e => ⟨fun e2 => ?_, fun e2 => ?_⟩, fun g e e2 => ?_⟩
  · obtain ⟨_, _, a⟩ := hS _ e; omega
  · obtain ⟨_, _, a⟩ := hF _ e; omega
  · obtain ⟨_, _, a⟩ := hB _ e; omega
  · obtain ⟨_, a, _⟩ := hS _ e
    obtain ⟨_, a2, _⟩ := hF _ e2; rw [a] at a2; injection a2 with a2; injection a2 with _ a2; exact absurd a2 (by decide)
  · obtain ⟨_, a, _⟩ := hS _ e
    obtain ⟨_, a2, _⟩ := hB _ e2; rw [a] at a2; injection a2 with a2; injection a2 with _ a2; exact absurd a2 (by decide)
  · obtain ⟨_, a, _⟩ := hF _ e
    obtain ⟨_, a2, _⟩ := hB _ e2; rw [a] at a2; injection a2 with a2; injection a2 with _ a2; exact absurd a2 (by decide)

theorem NS.keep (h : NS w B p sy L ns) (hk : ∀ k, k < w.heap.size → k = p.D ∨ B ≤ k → w'.heap[k]? = w.heap[k]?) (hs : w.heap.size ≤ w'.heap.size) : NS w' B p sy L ns := by
  have hm : ∀ g, p.mut g → w'.heap[g]? = w.heap[g]? := fun g hg => hk g (h.lt hg).1 (h.lt hg).2
  obtain ⟨vs, hF, hA⟩ := h.rowF
  exact ⟨(hm _ (Or.inl rfl)).trans h.box, ownsRow_far h.rowS fun g e => hm g (Or.inr (Or.inr (Or.inr (Or.inl e)))), ownsRow_far h.rowB fun g e => hm g (Or.inr (Or.inr (Or.inr (Or.inr (Or.inr e))))),
    ⟨vs, ownsRow_far hF fun g e => hm g (Or.inr (Or.inr (Or.inr (Or.inr (Or.inl e))))), fun i hi => (hA i hi).keep (fun k a c _ => hk k c (Or.inr a)) hs fun g hg => Or.inl hg⟩, h.m1, h.m2, h.hD⟩

theorem NS.below (h : NS w B p sy L ns) (hb : Below w.heap.size w w') : NS w' B p sy L ns := h.keep (fun k c _ => hb.block k c) hb.size

theorem NS.alloc (h : NS w B p sy L ns) (x : Obj) : NS (w.alloc x) B p sy L ns := h.below ((Below.refl _ _).alloc (Nat.le_refl _) x)

theorem NS.mutS (h : NS w B p sy L ns) {g : Nat} (hg2 : (Value.slice p.ps 0 0).ownBlock = some g ∨ w.heap.size ≤ g) {cp : Nat} : ∀ k, ({ p with ps := some ⟨g, 0, none⟩, cs := cp } : Pos).mut k → p.mut k ∨ w.heap.size ≤ k := by
  have hne : ∀ k, (Value.slice (some ⟨g, 0, none⟩ : Option Addr) 0 0).ownBlock = some k → k = g := fun k e => by simp [Value.ownBlock] at e; omega
  rintro k (e | e | e | e | e | e)
  · exact Or.inl (Or.inl e)
  · exact Or.inl (Or.inr (Or.inl e))
  · exact Or.inl (Or.inr (Or.inr (Or.inl e)))
  · rw [hne k e]
    rcases hg2 with e2 | e2
    · exact Or.inl (Or.inr (Or.inr (Or.inr (Or.inl e2))))
    · exact Or.inr e2
  · exact Or.inl (Or.inr (Or.inr (Or.inr (Or.inr (Or.inl e)))))
  · exact Or.inl (Or.inr (Or.inr (Or.inr (Or.inr (Or.inr e)))))

theorem NS.mutF (h : NS w B p sy L ns) {g : Nat} (hg2 : (Value.slice p.pf 0 0).ownBlock = some g ∨ w.heap.size ≤ g) {cp : Nat} : ∀ k, ({ p with pf := some ⟨g, 0, none⟩, cf := cp } : Pos).mut k → p.mut k ∨ w.heap.size ≤ k := by
  have hne : ∀ k, (Value.slice (some ⟨g, 0, none⟩ : Option Addr) 0 0).ownBlock = some k → k = g := fun k e => by simp [Value.ownBlock] at e; omega
  rintro k (e | e | e | e | e | e)
  · exact Or.inl (Or.inl e)
  · exact Or.inl (Or.inr (Or.inl e))
  · exact Or.inl (Or.inr (Or.inr (Or.inl e)))
  · exact Or.inl (Or.inr (Or.inr (Or.inr (Or.inl e))))
  · rw [hne k e]
    rcases hg2 with e2 | e2
    · exact Or.inl (Or.inr (Or.inr (Or.inr (Or.inr (Or.inl e2)))))
    · exact Or.inr e2
  · exact Or.inl (Or.inr (Or.inr (Or.inr (Or.inr (Or.inr e)))))

theorem NS.mutB (h : NS w B p sy L ns) {g : Nat} (hg2 : (Value.slice p.pb 0 0).ownBlock = some g ∨ w.heap.size ≤ g) {cp : Nat} : ∀ k, ({ p with pb := some ⟨g, 0, none⟩, cb := cp } : Pos).mut k → p.mut k ∨ w.heap.size ≤ k := by
  have hne : ∀ k, (Value.slice (some ⟨g, 0, none⟩ : Option Addr) 0 0).ownBlock = some k → k = g := fun k e => by simp [Value.ownBlock] at e; omega
  rintro k (e | e | e | e | e | e)
  · exact Or.inl (Or.inl e)
  · exact Or.inl (Or.inr (Or.inl e))
  · exact Or.inl (Or.inr (Or.inr (Or.inl e)))
  · exact Or.inl (Or.inr (Or.inr (Or.inr (Or.inl e))))
  · exact Or.inl (Or.inr (Or.inr (Or.inr (Or.inr (Or.inl e)))))
  · rw [hne k e]
    rcases hg2 with e2 | e2
    · exact Or.inl (Or.inr (Or.inr (Or.inr (Or.inr (Or.inr e2)))))
    · exact Or.inr e2

/-- what an append to a row leaves -/
theorem NS.grow {q : Option Addr} {Y : Obj} {n c : Nat} (hgrow : (w.alloc Y).grownBy w' (Value.slice q n c).ownBlock) :
    ∀ k, k < w.heap.size → (Value.slice q 0 0).ownBlock ≠ some k → w'.heap[k]? = w.heap[k]? := fun k hk hn => by
  rw [hgrow.block k (by simp only [World.size_alloc]; omega) (fun e => hn (by rw [own_same q 0 0 n c]; exact e.symm)), Below.heap_alloc _ _ _ hk]

theorem NS.pushS (h : NS w B p sy L ns) {x : ByteArray × Int} {g cp : Nat} {Y : Obj}
    (hown : w'.ownsRow B 64 2 (.slice (some ⟨g, 0, none⟩) (sy.length + 1) cp) (sy.length + 1) (syV sy ++ [.string x.1, .int .i64 x.2]))
    (hgrow : (w.alloc Y).grownBy w' (Value.slice p.ps sy.length p.cs).ownBlock) (hat : (Value.slice p.ps sy.length p.cs).ownBlock = some g ∨ g = w.heap.size + 1) :
    NS (w'.setCell ⟨p.D, 0, none⟩ (.slice (some ⟨g, 0, none⟩) (sy.length + 1) cp)) B { p with ps := some ⟨g, 0, none⟩, cs := cp } (sy ++ [x]) L ns ∧ w'.heap[p.D]? = w.heap[p.D]? := by
  obtain ⟨vs, hF, hA⟩ := h.rowF
  obtain ⟨b3, b4, b5, b12, b13⟩ := h.boxes
  have hk := NS.grow hgrow
  have hlt := fun g hg => (h.lt (g := g) hg).1
  have hs : w.heap.size ≤ w'.heap.size := by have := hgrow.size; simp only [World.size_alloc] at this; omega
  have hD : w'.heap[p.D]? = w.heap[p.D]? := hk _ (hlt _ (Or.inl rfl)) b3
  have hg2 := grow_at (Y := Y) hat
  have hgD : g ≠ p.D := by
    rintro rfl
    rcases hg2 with e | e
    · exact b3 e
    · have := hlt _ (Or.inl rfl); omega
  have hk2 : ∀ k, k < w.heap.size → (Value.slice p.ps 0 0).ownBlock ≠ some k → k ≠ p.D → (w'.setCell ⟨p.D, 0, none⟩ (.slice (some ⟨g, 0, none⟩) (sy.length + 1) cp)).heap[k]? = w.heap[k]? := fun k a c d => by
    rw [Below.heap_setCell _ _ _ _ d]; exact hk k a c
  have hne : ∀ k, (Value.slice (some ⟨g, 0, none⟩ : Option Addr) 0 0).ownBlock = some k → k = g := fun k e => by simp [Value.ownBlock] at e; omega
  refine ⟨⟨?_, ?_, ownsRow_far h.rowB fun k e => hk2 k (hlt _ (Or.inr (Or.inr (Or.inr (Or.inr (Or.inr e)))))) (fun e2 => (b12 k e2).2 e) (fun e2 => b5 (e2 ▸ e)),
    ⟨vs, ownsRow_far hF fun k e => hk2 k (hlt _ (Or.inr (Or.inr (Or.inr (Or.inr (Or.inl e)))))) (fun e2 => (b12 k e2).1 e) (fun e2 => b4 (e2 ▸ e)), fun i hi => (hA i hi).keep (fun k a c d => hk2 k c (fun e => d (Or.inr (Or.inr (Or.inr (Or.inl e))))) (fun e => d (Or.inl e))) (by simpa [World.setCell] using hs) (h.mutS hg2)⟩, h.m1, h.m2, h.hD⟩, hD⟩
  · rw [List.length_append, List.length_singleton]
    exact six_set (hD.trans h.box)
  · rw [List.length_append, List.length_singleton, ← syV_snoc]
    refine ownsRow_far hown fun k e => Below.heap_setCell _ _ _ _ (by rw [hne k e]; exact hgD)

theorem NS.pushB (h : NS w B p sy L ns) {x : Int} {g cp : Nat} {Y : Obj}
    (hown : w'.ownsRow B 3 1 (.slice (some ⟨g, 0, none⟩) (ns.length + 1) cp) (ns.length + 1) (inV ns ++ [.int .i64 x]))
    (hgrow : (w.alloc Y).grownBy w' (Value.slice p.pb ns.length p.cb).ownBlock) (hat : (Value.slice p.pb ns.length p.cb).ownBlock = some g ∨ g = w.heap.size + 1) :
    NS w' B { p with pb := some ⟨g, 0, none⟩, cb := cp } sy L (ns ++ [x]) := by
  obtain ⟨vs, hF, hA⟩ := h.rowF
  obtain ⟨b3, b4, b5, b12, b13⟩ := h.boxes
  have hk := NS.grow hgrow
  have hlt := fun g hg => (h.lt (g := g) hg).1
  have hs : w.heap.size ≤ w'.heap.size := by have := hgrow.size; simp only [World.size_alloc] at this; omega
  have hD : w'.heap[p.D]? = w.heap[p.D]? := hk _ (hlt _ (Or.inl rfl)) b5
  have hg2 := grow_at (Y := Y) hat
  refine ⟨hD.trans h.box, ownsRow_far h.rowS fun k e => hk k (hlt _ (Or.inr (Or.inr (Or.inr (Or.inl e))))) (fun e2 => (b12 k e).2 e2), ?_,
    ⟨vs, ownsRow_far hF fun k e => hk k (hlt _ (Or.inr (Or.inr (Or.inr (Or.inr (Or.inl e)))))) (fun e2 => b13 k e e2), fun i hi => (hA i hi).keep (fun k a c d => hk k c (fun e => d (Or.inr (Or.inr (Or.inr (Or.inr (Or.inr e))))))) hs (h.mutB hg2)⟩, h.m1, h.m2, h.hD⟩
  rw [List.length_append, List.length_singleton, show inV (ns ++ [x]) = inV ns ++ [.int .i64 x] by simp [inV]]
  exact hown

/-- one more function, whose sort lies in blocks from lo to hi -/
theorem NS.pushF (h : NS w B p sy L ns) {x : FL} {g cp : Nat} {Y : Obj} {q : Option Addr} {c lo hi : Nat} {vs : List Value} (hO : Own w x.st q c lo hi) (hlo : B ≤ lo) (hhi : hi ≤ w.heap.size) (hcl : ∀ g, p.mut g → g < lo ∨ hi ≤ g)
    (hown : w'.ownsRow B 52 5 (.slice (some ⟨g, 0, none⟩) (L.length + 1) cp) (L.length + 1) (vs ++ [.string x.nm, .slice q x.st.len c, .int .i64 0, .int .i64 0, .slice none 0 0]))
    (hF : w.ownsRow B 52 5 (.slice p.pf L.length p.cf) L.length vs) (hA : ∀ i, i < L.length → FnAt w B p (fuSc L []) i vs)
    (hgrow : (w.alloc Y).grownBy w' (Value.slice p.pf L.length p.cf).ownBlock) (hat : (Value.slice p.pf L.length p.cf).ownBlock = some g ∨ g = w.heap.size + 1) :
    NS (w'.setCell ⟨p.D, 1, none⟩ (.slice (some ⟨g, 0, none⟩) (L.length + 1) cp)) B { p with pf := some ⟨g, 0, none⟩, cf := cp } sy (L ++ [x]) ns ∧ w'.heap[p.D]? = w.heap[p.D]? := by
  obtain ⟨b3, b4, b5, b12, b13⟩ := h.boxes
  have hk := NS.grow hgrow
  have hlt := fun g hg => (h.lt (g := g) hg).1
  have hs : w.heap.size ≤ w'.heap.size := by have := hgrow.size; simp only [World.size_alloc] at this; omega
  have hD : w'.heap[p.D]? = w.heap[p.D]? := hk _ (hlt _ (Or.inl rfl)) b4
  have hg2 := grow_at (Y := Y) hat
  have hgD : g ≠ p.D := by
    rintro rfl
    rcases hg2 with e | e
    · exact b4 e
    · have := hlt _ (Or.inl rfl); omega
  have hk2 : ∀ k, k < w.heap.size → (Value.slice p.pf 0 0).ownBlock ≠ some k → k ≠ p.D → (w'.setCell ⟨p.D, 1, none⟩ (.slice (some ⟨g, 0, none⟩) (L.length + 1) cp)).heap[k]? = w.heap[k]? := fun k a c d => by
    rw [Below.heap_setCell _ _ _ _ d]; exact hk k a c
  have hne : ∀ k, (Value.slice (some ⟨g, 0, none⟩ : Option Addr) 0 0).ownBlock = some k → k = g := fun k e => by simp [Value.ownBlock] at e; omega
  have hmut := h.mutF hg2 (cp := cp)
  have hvl : vs.length = L.length * 5 := hF.1
  have hDw := hlt _ (Or.inl rfl)
  refine ⟨⟨?_, ownsRow_far h.rowS fun k e => hk2 k (hlt _ (Or.inr (Or.inr (Or.inr (Or.inl e))))) (fun e2 => (b12 k e).1 e2) (fun e2 => b3 (e2 ▸ e)), ownsRow_far h.rowB fun k e => hk2 k (hlt _ (Or.inr (Or.inr (Or.inr (Or.inr (Or.inr e)))))) (fun e2 => b13 k e2 e) (fun e2 => b5 (e2 ▸ e)),
    ⟨vs ++ [.string x.nm, .slice q x.st.len c, .int .i64 0, .int .i64 0, .slice none 0 0], ?_, ?_⟩, h.m1, h.m2, h.hD⟩, hD⟩
  · rw [List.length_append, List.length_singleton]
    exact six_set (hD.trans h.box)
  · rw [List.length_append, List.length_singleton]
    exact ownsRow_far hown fun k e => Below.heap_setCell _ _ _ _ (by rw [hne k e]; exact hgD)
  · intro i hil0
    rw [List.length_append, List.length_singleton] at hil0
    have hs2 : w.heap.size ≤ (w'.setCell ⟨p.D, 1, none⟩ (.slice (some ⟨g, 0, none⟩) (L.length + 1) cp)).heap.size := by simpa [World.setCell] using hs
    by_cases hil : i < L.length
    · obtain ⟨q', c', lo', hi', r', d', lo2, hi2, h1, h2, h3, h4, h5, h6⟩ := (hA i hil).keep (p' := { p with pf := some ⟨g, 0, none⟩, cf := cp }) (fun k a c d => hk2 k c (fun e => d (Or.inr (Or.inr (Or.inr (Or.inr (Or.inl e)))))) (fun e => d (Or.inl e))) hs2 hmut
      obtain ⟨e1, e2⟩ := fuSc_old (x := x) (b := []) hil
      refine ⟨q', c', lo', hi', r', d', lo2, hi2, ?_, ?_, ?_, ?_, ?_, ?_⟩
      · rw [List.getElem?_append_left (by omega), e1]; exact h1
      · rw [List.getElem?_append_left (by omega), e2]; exact h2
      · rw [List.getElem?_append_left (by omega)]; exact h3
      · rw [List.getElem?_append_left (by omega)]; exact h4
      · rw [List.getElem?_append_left (by omega)]; exact h5
      · rw [e2]; exact h6
    · obtain rfl : i = L.length := by omega
      obtain ⟨e1, e2⟩ := fuSc_new (x := x) (b := []) (L := L)
      refine ⟨q, c, lo, hi, none, 0, B, B, ?_, ?_, ?_, ?_, ?_, ?_, ownX_nil _ _ _, hlo, by omega, Nat.le_refl _, ?_, ?_⟩
      · rw [List.getElem?_append_right (by omega), hvl, Nat.sub_self, e1]; rfl
      · rw [List.getElem?_append_right (by omega), hvl, show L.length * 5 + 1 - L.length * 5 = 1 by omega, e2]; rfl
      · rw [List.getElem?_append_right (by omega), hvl, show L.length * 5 + 2 - L.length * 5 = 2 by omega]; rfl
      · rw [List.getElem?_append_right (by omega), hvl, show L.length * 5 + 3 - L.length * 5 = 3 by omega]; rfl
      · rw [List.getElem?_append_right (by omega), hvl, show L.length * 5 + 4 - L.length * 5 = 4 by omega]; rfl
      · rw [e2]
        exact hO.keep fun k a c' => hk2 k (by omega) (fun e => by have := hcl k (Or.inr (Or.inr (Or.inr (Or.inr (Or.inl e))))); omega) (fun e => by have := hcl k (Or.inl e); omega)
      · have := h.hD
        omega
      · intro k hk3
        rcases hmut k hk3 with e | e
        · exact ⟨hcl k e, by omega⟩
        · exact ⟨Or.inr (by omega), by omega⟩

end

end Go.Proofs.YtjkcopgfcafpeaaGreatDoor

/-
  The frame of the walk of the reference's names: what it leaves, and what its two loops hold. Conditions: none.
-/
set_option linter.unusedSimpArgs false
set_option linter.unusedVariables false
namespace Go.Proofs.YtjkcopgfcafpeaaGreatDoor
open Go.RowKit Go.Maps

/-- where names lays its scheme -/
def nP (w : World) (ps : Option Addr) (cs : Nat) (pf : Option Addr) (cf : Nat) (pb : Option Addr) (cb : Nat) : Pos := ⟨w.heap.size + 1, w.heap.size + 1, w.heap.size + 1, ps, cs, pf, cf, pb, cb⟩

/-- the places of the bodies -/
def PlOk (s : List UInt8) (L : List FL) (ns : List Int) : Prop :=
  ns.length = L.length ∧ ∀ i (h : i < L.length), ∃ (m : Nat) (r : List UInt8), ns[i]? = some (m : Int) ∧ m ≤ s.length ∧ s.drop m = L[i].bd ++ 10 :: r ∧ ∀ c ∈ L[i].bd, c ≠ 10

theorem PlOk.snoc {s : List UInt8} {L : List FL} {ns : List Int} (h : PlOk s L ns) {x : FL} {m : Nat} {r : List UInt8} (hm : m ≤ s.length) (hd : s.drop m = x.bd ++ 10 :: r) (hc : ∀ c ∈ x.bd, c ≠ 10) : PlOk s (L ++ [x]) (ns ++ [(m : Int)]) := by
  obtain ⟨h1, h2⟩ := h
  refine ⟨by simp [h1], fun i hi => ?_⟩
  rw [List.length_append, List.length_singleton] at hi
  by_cases hl : i < L.length
  · obtain ⟨m', r', a, b, c, d⟩ := h2 i hl
    refine ⟨m', r', by rw [List.getElem?_append_left (by omega)]; exact a, b, ?_, ?_⟩
    · rw [List.getElem_append_left hl]; exact c
    · rw [List.getElem_append_left hl]; exact d
  · obtain rfl : i = L.length := by omega
    refine ⟨m, r, by rw [List.getElem?_append_right (by omega), h1, Nat.sub_self]; rfl, hm, ?_, ?_⟩
    · simpa using hd
    · simpa using hc

/-- what names leaves -/
def NamesP (s : List UInt8) (w : World) (e : Ending) (w' : World) : Prop :=
  (∀ sy L, rawL s = some (sy, L) → ∃ ps cs pf cf pb cb ns, e = .returned (.tuple #[.agg #[.slice ps sy.length cs, .slice pf L.length cf], .slice pb ns.length cb, .bool true]) ∧ NS w' (w.heap.size + 2) (nP w ps cs pf cf pb cb) sy L ns ∧ PlOk s L ns) ∧
  (rawL s = none → ∃ sp sn sc fp fn fc bp bn bc, e = .returned (.tuple #[.agg #[.slice sp sn sc, .slice fp fn fc], .slice bp bn bc, .bool false])) ∧ Below w.heap.size w w'

/-- between two lines -/
structure NI (w : World) (ps : Option Addr) (cs : Nat) (pf : Option Addr) (cf : Nat) (pb : Option Addr) (cb : Nat) (sy : List (ByteArray × Int)) (L : List FL) (ns : List Int) (wr : World) : Prop where
  ns : NS wr (w.heap.size + 2) (nP w ps cs pf cf pb cb) sy L ns
  res : wr.heap[w.heap.size]? = some (.cells #[.slice none 0 0, .slice none 0 0] 25 (0, 0))
  bel : Below w.heap.size w wr

section
variable {w wr w' : World} {ps : Option Addr} {cs : Nat} {pf : Option Addr} {cf : Nat} {pb : Option Addr} {cb : Nat} {sy : List (ByteArray × Int)} {L : List FL} {ns : List Int}

theorem NI.ge (h : NI w ps cs pf cf pb cb sy L ns wr) : w.heap.size + 2 ≤ wr.heap.size := lt_of_block h.ns.box

theorem NI.below (h : NI w ps cs pf cf pb cb sy L ns wr) (hb : Below wr.heap.size wr w') : NI w ps cs pf cf pb cb sy L ns w' :=
  ⟨h.ns.below hb, (hb.block _ (lt_of_block h.res)).trans h.res, h.bel.trans (hb.mono h.bel.size)⟩

theorem NI.cells (h : NI w ps cs pf cf pb cb sy L ns wr) : (wr.cell? ⟨w.heap.size + 1, 0, none⟩ = some (.slice ps sy.length cs) ∧ wr.cell? ⟨w.heap.size + 1, 1, none⟩ = some (.slice pf L.length cf)) ∧ wr.frozen? ⟨w.heap.size + 1, 0, none⟩ = false ∧ wr.frozen? ⟨w.heap.size + 1, 1, none⟩ = false := two_box h.ns.box

theorem NI.resc (h : NI w ps cs pf cf pb cb sy L ns wr) : (wr.cell? ⟨w.heap.size, 0, none⟩ = some (.slice none 0 0) ∧ wr.cell? ⟨w.heap.size, 1, none⟩ = some (.slice none 0 0)) ∧ wr.frozen? ⟨w.heap.size, 0, none⟩ = false ∧ wr.frozen? ⟨w.heap.size, 1, none⟩ = false := two_box h.res

theorem NI.start (w : World) : NI w none 0 none 0 none 0 [] [] [] ((w.alloc (.cells #[.slice none 0 0, .slice none 0 0] 25)).alloc (.cells #[.slice none 0 0, .slice none 0 0] 25)) :=
  ⟨⟨heap_new2 _ _ _, World.ownsRow_nil _ _ _ _, World.ownsRow_nil _ _ _ _, ⟨[], World.ownsRow_nil _ _ _ _, fun i hi => absurd hi (Nat.not_lt_zero _)⟩, rfl, rfl, rfl⟩,
    alloc_kept (heap_new w _) _, ((Below.refl _ _).alloc (Nat.le_refl _) _).alloc (by simp) _⟩

/-- where nothing could be read -/
theorem names_bad {s : List UInt8} (h : rawL s = none) (hb : Below w.heap.size w wr) {a b c d e f x y z} (u v : Value) :
    NamesP s w (.returned (.tuple #[.agg #[.slice a b c, .slice d e f], .slice x y z, .bool false])) ((wr.setCell ⟨w.heap.size, 0, none⟩ u).setCell ⟨w.heap.size, 1, none⟩ v) := by
  refine ⟨fun sy L h2 => (by rw [h] at h2; cases h2), fun _ => ⟨_, _, _, _, _, _, _, _, _, rfl⟩, below_set2 hb (Nat.le_refl _) _ _⟩

/-- where all is read -/
theorem names_good {s : List UInt8} (h : rawL s = some (sy, L)) (hn : NI w ps cs pf cf pb cb sy L ns wr) (hp : PlOk s L ns) (u v : Value) :
    NamesP s w (.returned (.tuple #[.agg #[.slice ps sy.length cs, .slice pf L.length cf], .slice pb ns.length cb, .bool true])) ((wr.setCell ⟨w.heap.size, 0, none⟩ u).setCell ⟨w.heap.size, 1, none⟩ v) := by
  refine ⟨fun sy' L' h2 => ?_, fun h2 => (by rw [h] at h2; cases h2), below_set2 hn.bel (Nat.le_refl _) _ _⟩
  rw [h] at h2
  simp only [Option.some.injEq, Prod.mk.injEq] at h2
  obtain ⟨rfl, rfl⟩ := h2
  refine ⟨_, _, _, _, _, _, _, rfl, hn.ns.keep (fun k hk hd => ?_) (by simp [World.setCell]), hp⟩
  have hne : k ≠ w.heap.size := by
    rcases hd with e | e
    · have e' : k = w.heap.size + 1 := e
      omega
    · omega
  rw [Below.heap_setCell _ _ _ _ hne, Below.heap_setCell _ _ _ _ hne]

/-- a symbol more -/
theorem NI.pushS (h : NI w ps cs pf cf pb cb sy L ns wr) {x : ByteArray × Int} {g cp : Nat} {Y : Obj} {w3 : World}
    (hown : w3.ownsRow (w.heap.size + 2) 64 2 (.slice (some ⟨g, 0, none⟩) (sy.length + 1) cp) (sy.length + 1) (syV sy ++ [.string x.1, .int .i64 x.2]))
    (hgrow : (wr.alloc Y).grownBy w3 (Value.slice ps sy.length cs).ownBlock) (hat : (Value.slice ps sy.length cs).ownBlock = some g ∨ g = wr.heap.size + 1) :
    NI w (some ⟨g, 0, none⟩) cp pf cf pb cb (sy ++ [x]) L ns (w3.setCell ⟨w.heap.size + 1, 0, none⟩ (.slice (some ⟨g, 0, none⟩) (sy.length + 1) cp)) ∧ w3.heap[w.heap.size + 1]? = wr.heap[w.heap.size + 1]? := by
  obtain ⟨h1, h2⟩ := NS.pushS h.ns hown hgrow hat
  have hlo : ∀ k, (Value.slice ps sy.length cs).ownBlock = some k → w.heap.size + 2 ≤ k := fun k e => (h.ns.rowS.lt k e).1
  refine ⟨⟨h1, ?_, ?_⟩, h2⟩
  · rw [Below.heap_setCell _ _ _ _ (show w.heap.size ≠ w.heap.size + 1 by omega), hgrow.block _ (by have := h.ge; simp only [World.size_alloc]; omega) (fun e => by have := hlo _ e.symm; omega)]
    exact alloc_kept h.res _
  · exact ((h.bel.alloc h.bel.size Y).grown hgrow (by have := h.ge; simp; omega) fun j hj => by have := hlo j hj; omega).setCell (p := ⟨w.heap.size + 1, 0, none⟩) (by show w.heap.size ≤ w.heap.size + 1; omega) _

/-- a function more -/
theorem NI.pushF (h : NI w ps cs pf cf pb cb sy L ns wr) {x : FL} {g cp : Nat} {Y : Obj} {q : Option Addr} {c lo hi : Nat} {vs : List Value} {w3 : World} (hO : Own wr x.st q c lo hi) (hlo : w.heap.size + 2 ≤ lo) (hhi : hi ≤ wr.heap.size) (hcl : ∀ g, (nP w ps cs pf cf pb cb).mut g → g < lo ∨ hi ≤ g)
    (hown : w3.ownsRow (w.heap.size + 2) 52 5 (.slice (some ⟨g, 0, none⟩) (L.length + 1) cp) (L.length + 1) (vs ++ [.string x.nm, .slice q x.st.len c, .int .i64 0, .int .i64 0, .slice none 0 0]))
    (hF : wr.ownsRow (w.heap.size + 2) 52 5 (.slice pf L.length cf) L.length vs) (hA : ∀ i, i < L.length → FnAt wr (w.heap.size + 2) (nP w ps cs pf cf pb cb) (fuSc L []) i vs)
    (hgrow : (wr.alloc Y).grownBy w3 (Value.slice pf L.length cf).ownBlock) (hat : (Value.slice pf L.length cf).ownBlock = some g ∨ g = wr.heap.size + 1) :
    NI w ps cs (some ⟨g, 0, none⟩) cp pb cb sy (L ++ [x]) ns (w3.setCell ⟨w.heap.size + 1, 1, none⟩ (.slice (some ⟨g, 0, none⟩) (L.length + 1) cp)) ∧ w3.heap[w.heap.size + 1]? = wr.heap[w.heap.size + 1]? := by
  obtain ⟨h1, h2⟩ := NS.pushF h.ns hO hlo hhi hcl hown hF hA hgrow hat
  have hlo2 : ∀ k, (Value.slice pf L.length cf).ownBlock = some k → w.heap.size + 2 ≤ k := fun k e => (hF.lt k e).1
  refine ⟨⟨h1, ?_, ?_⟩, h2⟩
  · rw [Below.heap_setCell _ _ _ _ (show w.heap.size ≠ w.heap.size + 1 by omega), hgrow.block _ (by have := h.ge; simp only [World.size_alloc]; omega) (fun e => by have := hlo2 _ e.symm; omega)]
    exact alloc_kept h.res _
  · exact ((h.bel.alloc h.bel.size Y).grown hgrow (by have := h.ge; simp; omega) fun j hj => by have := hlo2 j hj; omega).setCell (p := ⟨w.heap.size + 1, 1, none⟩) (by show w.heap.size ≤ w.heap.size + 1; omega) _

/-- a place more -/
theorem NI.pushB (h : NI w ps cs pf cf pb cb sy L ns wr) {x : Int} {g cp : Nat} {Y : Obj} {w3 : World}
    (hown : w3.ownsRow (w.heap.size + 2) 3 1 (.slice (some ⟨g, 0, none⟩) (ns.length + 1) cp) (ns.length + 1) (inV ns ++ [.int .i64 x]))
    (hgrow : (wr.alloc Y).grownBy w3 (Value.slice pb ns.length cb).ownBlock) (hat : (Value.slice pb ns.length cb).ownBlock = some g ∨ g = wr.heap.size + 1) :
    NI w ps cs pf cf (some ⟨g, 0, none⟩) cp sy L (ns ++ [x]) w3 := by
  have hlo : ∀ k, (Value.slice pb ns.length cb).ownBlock = some k → w.heap.size + 2 ≤ k := fun k e => (h.ns.rowB.lt k e).1
  refine ⟨NS.pushB h.ns hown hgrow hat, ?_, ?_⟩
  · rw [hgrow.block _ (by have := h.ge; simp only [World.size_alloc]; omega) (fun e => by have := hlo _ e.symm; omega)]
    exact alloc_kept h.res _
  · exact (h.bel.alloc h.bel.size Y).grown hgrow (by have := h.ge; simp; omega) fun j hj => by have := hlo j hj; omega

end

end Go.Proofs.YtjkcopgfcafpeaaGreatDoor

/-
  Plain mathematics of what the reference's Get answers, by the lines as the reference cuts them. Conditions: texts of at most 65536 bytes.
-/
set_option linter.unusedSimpArgs false
set_option linter.unusedVariables false
namespace Go.Proofs.YtjkcopgfcafpeaaGreatDoor
open Go.RowKit Go.Maps

theorem rdBodies_fix (S F : List ByteArray) : ∀ (L : List FL), rdBodies S F (L.map FL.fix) = rdBodies S F L
  | [] => rfl
  | f :: r => by
    show ((rdBody S F f.bd).bind fun t => (rdBodies S F (r.map FL.fix)).map fun y => t :: y) = _
    rw [rdBodies_fix S F r]
    rfl

theorem rdB_fix (sy : List (ByteArray × Int)) (L : List FL) : rdB (sy, L.map FL.fix) = rdB (sy, L) := by
  unfold rdB
  dsimp only
  rw [rdBodies_fix, List.map_map]
  rfl

theorem rawF_er {s r : List UInt8} {x : FL} (h : rawF s = some (x, r)) : x.er = x.st.oE := by
  unfold rawF at h
  simp only [Option.bind_eq_some_iff, Option.map_eq_some_iff] at h
  obtain ⟨⟨n, r0⟩, h0, r1, h1, ⟨t, r2⟩, h2, r3, h3, ⟨b1, b2⟩, h4, h5⟩ := h
  simp only [Prod.mk.injEq] at h5
  obtain ⟨rfl, rfl⟩ := h5
  rfl

theorem rawFuns_er : ∀ (f : Nat) (s : List UInt8) (L : List FL), rawFuns f s = some L → ∀ x ∈ L, x.er = x.st.oE := by
  intro f
  induction f with
  | zero => intro s L h; cases h
  | succ f ih =>
    intro s L h
    unfold rawFuns at h
    split at h
    · injection h with h
      subst h
      intro x hx; cases hx
    · simp only [Option.bind_eq_some_iff, Option.map_eq_some_iff] at h
      obtain ⟨r0, h0, ⟨x, r1⟩, h1, y, h2, rfl⟩ := h
      intro z hz
      rcases List.mem_cons.1 hz with rfl | hz
      · exact rawF_er h1
      · exact ih _ _ h2 z hz

theorem rawL_er {s : List UInt8} {x : List (ByteArray × Int) × List FL} (h : rawL s = some x) : ∀ f ∈ x.2, f.er = f.st.oE := by
  unfold rawL at h
  simp only [Option.bind_eq_some_iff, Option.map_eq_some_iff] at h
  obtain ⟨⟨l, r⟩, h1, y, h2, rfl⟩ := h
  exact rawFuns_er _ _ _ h2

/-- the answers by the raw lines -/
def rawE (s : List UInt8) : Int := match rawL s with
  | none => 4
  | some x => match rdB x with
    | none => 4
    | some b => if scOk ⟨sySc x.1, fuSc x.2 b⟩ = true then 0 else 7

def rawSc (s : List UInt8) : Sc := match rawL s with
  | none => noSc
  | some x => match rdB x with
    | none => noSc
    | some b => if scOk ⟨sySc x.1, fuSc x.2 b⟩ = true then ⟨sySc x.1, fuSc x.2 b⟩ else noSc

theorem raw_sorted {L : List FL} (he : ∀ f ∈ L, f.er = f.st.oE) (hv : ∀ f ∈ L, f.st.valid = true) : L.map FL.fix = L ∧ sorted L = true := by
  constructor
  · have : L.map FL.fix = L.map id := List.map_congr_left fun f hf => by
      show FL.fix f = f
      unfold FL.fix
      rw [if_pos (hv f hf)]
    rw [this, List.map_id]
  · unfold sorted
    rw [List.all_eq_true]
    intro f hf
    rw [he f hf, decide_eq_true_eq]
    unfold T.oE
    rw [if_pos (hv f hf)]

theorem raw_not {L : List FL} {sy : List (ByteArray × Int)} {b : List (Int × Int × X)} (he : ∀ f ∈ L, f.er = f.st.oE) (hv : ¬ ∀ f ∈ L, f.st.valid = true) : sorted (L.map FL.fix) = false ∧ scOk ⟨sySc sy, fuSc L b⟩ = false := by
  constructor
  · rw [Bool.eq_false_iff]
    intro hs
    refine hv fun f hf => ?_
    unfold sorted at hs
    rw [List.all_eq_true] at hs
    have h1 := hs f.fix (List.mem_map_of_mem hf)
    have h2 : f.fix.er = f.er := rfl
    rw [h2, he f hf, decide_eq_true_eq] at h1
    unfold T.oE at h1
    split at h1
    · assumption
    · cases h1
  · rw [Bool.eq_false_iff]
    intro hs
    refine hv fun f hf => ?_
    obtain ⟨i, hi, rfl⟩ := List.getElem_of_mem hf
    have h1 := (good_of hs).sort i hi
    have h2 : (fuSc L b).st i = L[i].st := by
      show (L.getD i _).st = _
      simp [hi]
    rwa [h2] at h1

theorem get_raw {s : List UInt8} (hs : ¬ 65536 < s.length) : getE s = rawE s ∧ getSc s = rawSc s := by
  unfold getE getSc rdSc rawE rawSc
  rw [if_neg hs, if_neg hs, rdL_raw s (by omega)]
  cases h : rawL s with
  | none => exact ⟨rfl, rfl⟩
  | some x =>
    have he := rawL_er h
    obtain ⟨sy, L⟩ := x
    simp only [Option.map_some, Option.bind_some]
    dsimp only at he
    rw [rdB_fix]
    cases hb : rdB (sy, L) with
    | none => exact ⟨rfl, rfl⟩
    | some b =>
      simp only [Option.map_some]
      by_cases hv : ∀ f ∈ L, f.st.valid = true
      · obtain ⟨h1, h2⟩ := raw_sorted he hv
        rw [h1, h2]
        simp
      · obtain ⟨h1, h2⟩ := raw_not (sy := sy) (b := b) he hv
        rw [h1, h2]
        simp

end Go.Proofs.YtjkcopgfcafpeaaGreatDoor

/-
  What the reference's Get holds in memory: the rows that names has made, and the functions whose bodies are read. Conditions: none.
-/
set_option linter.unusedSimpArgs false
set_option linter.unusedVariables false
namespace Go.Proofs.YtjkcopgfcafpeaaGreatDoor
open Go.RowKit Go.Maps

/-- rows of symbols and functions are a scheme in memory -/
theorem isC_of {w : World} {B : Nat} {p : Pos} {sy : List (ByteArray × Int)} {L : List FL} {b : List (Int × Int × X)} {pf : Option Addr} {cf : Nat}
    (hS : w.ownsRow B 64 2 (.slice p.ps sy.length p.cs) sy.length (syV sy))
    (hF0 : ∃ vs, w.ownsRow B 52 5 (.slice pf L.length cf) L.length vs ∧ ∀ i, i < L.length → FnAt w B p (fuSc L b) i vs) :
    IsC w ⟨sySc sy, fuSc L b⟩ ⟨p.ps, sy.length, p.cs, pf, L.length, cf⟩ := by
  refine ⟨?_, ?_⟩
  · show IsS w (sySc sy) p.ps sy.length p.cs
    rcases hS.2 with ⟨e, h0⟩ | ⟨g, cap, cur, e, hb, hh, h1, h2, h3, h4⟩
    · injection e with e1 e2 e3
      refine ⟨rfl, by omega, by rw [e3]; simp [maxLen], fun _ => e3, Or.inl h0⟩
    · injection e with e1 e2 e3
      refine ⟨rfl, by rw [e3]; exact h1, by rw [e3]; exact h2, fun e => (by rw [e1] at e; cases e), Or.inr ⟨g, 0, e1, fun i hi => ?_⟩⟩
      have hi' : i < sy.length := hi
      obtain ⟨v1, v2⟩ := syV_get sy i hi'
      rw [e1] at hS
      have hd : sy.getD i (ByteArray.empty, 0) = sy[i] := by simp [hi']
      refine ⟨?_, ?_⟩
      · rw [Nat.zero_add, hS.cellAt _ (by omega), v1]
        show _ = some (Value.string (sy.getD i (ByteArray.empty, 0)).1)
        rw [hd]
      · rw [Nat.zero_add, hS.cellAt _ (by omega), v2]
        show _ = some (Value.int .i64 (sy.getD i (ByteArray.empty, 0)).2)
        rw [hd]
  · show IsF w (fuSc L b) pf L.length cf
    obtain ⟨vs, hF, hA⟩ := hF0
    rcases hF.2 with ⟨e, h0⟩ | ⟨g, cap, cur, e, hb, hh, h1, h2, h3, h4⟩
    · injection e with e1 e2 e3
      refine ⟨rfl, by omega, by rw [e3]; simp [maxLen], fun _ => e3, Or.inl h0⟩
    · injection e with e1 e2 e3
      refine ⟨rfl, by rw [e3]; exact h1, by rw [e3]; exact h2, fun e => (by rw [e1] at e; cases e), Or.inr ⟨g, 0, e1, fun i hi => ?_⟩⟩
      have hi' : i < L.length := hi
      obtain ⟨q, c, lo, hi2, r, d, lo2, hi3, v1, v2, v3, v4, v5, hO, hX, _⟩ := hA i hi'
      rw [e1] at hF
      refine ⟨q, _, c, r, _, d, ?_, ?_, ?_, ?_, ?_, hO.isT, hX.isX⟩
      · rw [Nat.zero_add, hF.cellAt _ (by omega)]; exact v1
      · rw [Nat.zero_add, hF.cellAt _ (by omega)]; exact v2
      · rw [Nat.zero_add, hF.cellAt _ (by omega)]; exact v3
      · rw [Nat.zero_add, hF.cellAt _ (by omega)]; exact v4
      · rw [Nat.zero_add, hF.cellAt _ (by omega)]; exact v5

/-- where Get's rows lie; what is turned: its box and the row of the functions that it collects -/
def gP (Ds : Nat) (ps : Option Addr) (cs : Nat) (pf : Option Addr) (cf : Nat) (po : Option Addr) (co : Nat) : Pos := ⟨Ds, Ds, Ds, ps, cs, pf, cf, po, co⟩

structure GS (w wr : World) (B Ds : Nat) (ps : Option Addr) (cs : Nat) (pf : Option Addr) (cf : Nat) (pb : Option Addr) (cb : Nat) (po : Option Addr) (co : Nat) (sy : List (ByteArray × Int)) (L : List FL) (ns : List Int) (b : List (Int × Int × X)) : Prop where
  box : wr.heap[Ds]? = some (.cells #[.slice ps sy.length cs, .slice pf L.length cf] 25 (0, 0))
  rowS : wr.ownsRow B 64 2 (.slice ps sy.length cs) sy.length (syV sy)
  rowB : wr.ownsRow B 3 1 (.slice pb ns.length cb) ns.length (inV ns)
  rowF : ∃ vs, wr.ownsRow B 52 5 (.slice pf L.length cf) L.length vs ∧ ∀ i, i < L.length → FnAt wr B (gP Ds ps cs pf cf po co) (fuSc L []) i vs
  rowO : ∃ vs, wr.ownsRow B 52 5 (.slice po b.length co) b.length vs ∧ ∀ i, i < b.length → FnAt wr B (gP Ds ps cs pf cf po co) (fuSc L b) i vs
  ne : ∀ g, (Value.slice po 0 0).ownBlock = some g → (Value.slice pf 0 0).ownBlock ≠ some g
  res : wr.heap[w.heap.size]? = some (.cells #[.slice none 0 0, .slice none 0 0] 25 (0, 0))
  base : Below w.heap.size w wr
  hB : w.heap.size < B
  hD : B ≤ Ds

section
variable {w wr w' : World} {B Ds : Nat} {ps : Option Addr} {cs : Nat} {pf : Option Addr} {cf : Nat} {pb : Option Addr} {cb : Nat} {po : Option Addr} {co : Nat} {sy : List (ByteArray × Int)} {L : List FL} {ns : List Int} {b : List (Int × Int × X)}

theorem row_lt {w : World} {B : Nat} {ty : TypeId} {k n n' c : Nat} {p : Option Addr} {xs : List Value} (h : w.ownsRow B ty k (.slice p n c) n' xs) : ∀ g, (Value.slice p 0 0).ownBlock = some g → g < w.heap.size := fun g e => (h.lt g (by rw [own_same p n c 0 0]; exact e)).2

theorem row_keep {w w' : World} {B : Nat} {ty : TypeId} {k n : Nat} {v : Value} {xs : List Value} (h : w.ownsRow B ty k v n xs) (hb : Below w.heap.size w w') : w'.ownsRow B ty k v n xs := by
  refine h.kept (row := none) ⟨hb.os, hb.tape, hb.output, hb.size, fun k hk _ => hb.block k hk⟩ ?_
  cases v.ownBlock with
  | none => exact Or.inl rfl
  | some g => exact Or.inr (by simp)

theorem GS.below (h : GS w wr B Ds ps cs pf cf pb cb po co sy L ns b) (hb : Below wr.heap.size wr w') : GS w w' B Ds ps cs pf cf pb cb po co sy L ns b := by
  obtain ⟨vs, hF, hA⟩ := h.rowF
  obtain ⟨us, hO, hC⟩ := h.rowO
  exact ⟨(hb.block _ (lt_of_block h.box)).trans h.box, row_keep h.rowS hb, row_keep h.rowB hb, ⟨vs, row_keep hF hb, fun i hi => (hA i hi).keep (fun k _ c _ => hb.block k c) hb.size fun g hg => Or.inl hg⟩,
    ⟨us, row_keep hO hb, fun i hi => (hC i hi).keep (fun k _ c _ => hb.block k c) hb.size fun g hg => Or.inl hg⟩, h.ne, (hb.block _ (lt_of_block h.res)).trans h.res, h.base.trans (hb.mono h.base.size), h.hB, h.hD⟩

theorem GS.alloc (h : GS w wr B Ds ps cs pf cf pb cb po co sy L ns b) (o : Obj) : GS w (wr.alloc o) B Ds ps cs pf cf pb cb po co sy L ns b := h.below ((Below.refl _ _).alloc (Nat.le_refl _) o)

theorem GS.drew (h : GS w wr B Ds ps cs pf cf pb cb po co sy L ns b) : GS w wr.drew B Ds ps cs pf cf pb cb po co sy L ns b := h.below (Below.refl _ _).drew

theorem GS.cells (h : GS w wr B Ds ps cs pf cf pb cb po co sy L ns b) : (wr.cell? ⟨Ds, 0, none⟩ = some (.slice ps sy.length cs) ∧ wr.cell? ⟨Ds, 1, none⟩ = some (.slice pf L.length cf)) ∧ wr.frozen? ⟨Ds, 0, none⟩ = false ∧ wr.frozen? ⟨Ds, 1, none⟩ = false := two_box h.box

theorem GS.rcells (h : GS w wr B Ds ps cs pf cf pb cb po co sy L ns b) : (wr.cell? ⟨w.heap.size, 0, none⟩ = some (.slice none 0 0) ∧ wr.cell? ⟨w.heap.size, 1, none⟩ = some (.slice none 0 0)) ∧ wr.frozen? ⟨w.heap.size, 0, none⟩ = false ∧ wr.frozen? ⟨w.heap.size, 1, none⟩ = false := two_box h.res

/-- the scheme without bodies -/
theorem GS.isC (h : GS w wr B Ds ps cs pf cf pb cb po co sy L ns b) : IsC wr ⟨sySc sy, fuSc L []⟩ ⟨ps, sy.length, cs, pf, L.length, cf⟩ := isC_of (p := gP Ds ps cs pf cf po co) h.rowS h.rowF

/-- the rows of a whole scheme -/
def FS (W : World) (B : Nat) (p : Pos) (sy : List (ByteArray × Int)) (L : List FL) (b : List (Int × Int × X)) : Prop :=
  W.ownsRow B 64 2 (.slice p.ps sy.length p.cs) sy.length (syV sy) ∧ ∃ us, W.ownsRow B 52 5 (.slice p.pb L.length p.cb) L.length us ∧ ∀ i, i < L.length → FnAt W B p (fuSc L b) i us

theorem FS.isC {W : World} {p : Pos} (h : FS W B p sy L b) : IsC W ⟨sySc sy, fuSc L b⟩ ⟨p.ps, sy.length, p.cs, p.pb, L.length, p.cb⟩ := isC_of (p := p) h.1 h.2

theorem FS.below {W W' : World} {p : Pos} (h : FS W B p sy L b) (hb : Below W.heap.size W W') : FS W' B p sy L b := by
  obtain ⟨h1, us, h2, h3⟩ := h
  exact ⟨row_keep h1 hb, us, row_keep h2 hb, fun i hi => (h3 i hi).keep (fun k _ c _ => hb.block k c) hb.size fun g hg => Or.inl hg⟩

theorem FS.setLow {W : World} {p : Pos} (h : FS W B p sy L b) {a : Addr} (ha : a.block < B) (v : Value) : FS (W.setCell a v) B p sy L b := by
  obtain ⟨h1, us, h2, h3⟩ := h
  have hlt : ∀ {ty : TypeId} {k n n' c : Nat} {q : Option Addr} {xs : List Value}, W.ownsRow B ty k (.slice q n c) n' xs → ∀ g, (Value.slice q 0 0).ownBlock = some g → g ≠ a.block := fun hr g e e2 => by have := (hr.lt g (by rw [own_same _ _ _ 0 0]; exact e)).1; omega
  exact ⟨ownsRow_far h1 fun g e => Below.heap_setCell _ _ _ _ (hlt h1 g e), us, ownsRow_far h2 fun g e => Below.heap_setCell _ _ _ _ (hlt h2 g e),
    fun i hi => (h3 i hi).keep (fun k hk _ _ => Below.heap_setCell _ _ _ _ (by omega)) (by simp [World.setCell]) fun g hg => Or.inl hg⟩

/-- the whole scheme, in the box -/
theorem GS.full (h : GS w wr B Ds ps cs pf cf pb cb po co sy L ns b) (hl : b.length = L.length) (v : Value) :
    FS (wr.setCell ⟨Ds, 1, none⟩ v) B (gP Ds ps cs pf cf po co) sy L b ∧ (wr.setCell ⟨Ds, 1, none⟩ v).heap[Ds]? = some (.cells #[.slice ps sy.length cs, v] 25 (0, 0)) := by
  obtain ⟨us, hO, hC⟩ := h.rowO
  have hne : ∀ {ty : TypeId} {k n c : Nat} {q : Option Addr} {xs : List Value}, wr.ownsRow B ty k (.slice q n c) n xs → ty ≠ 25 → (Value.slice q 0 0).ownBlock ≠ some Ds := fun hr ht e => by
    obtain ⟨_, a, _⟩ := ownsRow_block hr e
    rw [h.box] at a
    injection a with a
    injection a with _ a
    exact ht a.symm
  have hS : (wr.setCell ⟨Ds, 1, none⟩ v).ownsRow B 64 2 (.slice ps sy.length cs) sy.length (syV sy) := ownsRow_far h.rowS fun g e => Below.heap_setCell _ _ _ _ (fun e2 => hne h.rowS (by decide) (by have e3 : g = Ds := e2; rw [← e3]; exact e))
  have hO2 : (wr.setCell ⟨Ds, 1, none⟩ v).ownsRow B 52 5 (.slice po b.length co) b.length us := ownsRow_far hO fun g e => Below.heap_setCell _ _ _ _ (fun e2 => hne hO (by decide) (by have e3 : g = Ds := e2; rw [← e3]; exact e))
  have hsz : (wr.setCell ⟨Ds, 1, none⟩ v).heap.size = wr.heap.size := by simp [World.setCell]
  refine ⟨?_, ?_⟩
  · rw [hl] at hO2 hC
    exact ⟨hS, us, hO2, fun i hi => (hC i hi).keep (fun k _ _ hm => Below.heap_setCell _ _ _ _ (fun e => hm (Or.inl e))) (by omega) fun g hg => Or.inl hg⟩
  · have := heap_setCell_same wr Ds 1 #[.slice ps sy.length cs, .slice pf L.length cf] 25 v h.box
    simpa using this

/-- one more function: its body lies in blocks from lo to hi; w1 the world behind its reading, w3 behind the append -/
theorem GS.push {w1 w3 : World} {t : Int × Int × X} {r : Option Addr} {d lo hi g cp : Nat} {Y : Obj} {us vs : List Value} {q : Value}
    (h : GS w w1 B Ds ps cs pf cf pb cb po co sy L ns b) (hbl : b.length < L.length)
    (hF : w1.ownsRow B 52 5 (.slice pf L.length cf) L.length vs) (hA : ∀ i, i < L.length → FnAt w1 B (gP Ds ps cs pf cf po co) (fuSc L []) i vs)
    (hO : w1.ownsRow B 52 5 (.slice po b.length co) b.length us) (hC : ∀ i, i < b.length → FnAt w1 B (gP Ds ps cs pf cf po co) (fuSc L b) i us)
    (hq : vs[b.length * 5 + 1]? = some q)
    (hX : OwnX w1 t.2.2 r d lo hi) (hlo : B ≤ lo) (hhi : hi ≤ w1.heap.size) (hcl : ∀ k, (gP Ds ps cs pf cf po co).mut k → k < lo ∨ hi ≤ k)
    (hown : w3.ownsRow B 52 5 (.slice (some ⟨g, 0, none⟩) (b.length + 1) cp) (b.length + 1) (us ++ [.string ((fuSc L []).nm b.length), q, .int .i64 t.1, .int .i64 t.2.1, .slice r t.2.2.len d]))
    (hgrow : (w1.alloc Y).grownBy w3 (Value.slice po b.length co).ownBlock) (hat : (Value.slice po b.length co).ownBlock = some g ∨ g = w1.heap.size + 1) :
    GS w w3 B Ds ps cs pf cf pb cb (some ⟨g, 0, none⟩) cp sy L ns (b ++ [t]) := by
  have hs : w1.heap.size ≤ w3.heap.size := by have := hgrow.size; simp only [World.size_alloc] at this; omega
  have hk : ∀ k, k < w1.heap.size → (Value.slice po 0 0).ownBlock ≠ some k → w3.heap[k]? = w1.heap[k]? := NS.grow hgrow
  have hDs := lt_of_block h.box
  have hg2 := grow_at (Y := Y) hat
  have hty : ∀ {ty : TypeId} {k n c : Nat} {q : Option Addr} {xs : List Value}, w1.ownsRow B ty k (.slice q n c) n xs → ty ≠ 52 → ∀ g, (Value.slice q 0 0).ownBlock = some g → (Value.slice po 0 0).ownBlock ≠ some g := fun hr ht g e e2 => by
    obtain ⟨_, a, _⟩ := ownsRow_block hr e
    obtain ⟨_, a2, _⟩ := ownsRow_block hO e2
    rw [a] at a2
    injection a2 with a2
    injection a2 with _ a2
    exact ht a2
  have hnD : (Value.slice po 0 0).ownBlock ≠ some Ds := fun e => by
    obtain ⟨_, a, _⟩ := ownsRow_block hO e
    rw [h.box] at a
    injection a with a
    injection a with _ a
    exact absurd a (by decide)
  have hnR : (Value.slice po 0 0).ownBlock ≠ some w.heap.size := fun e => by
    have := (hO.lt w.heap.size (by rw [own_same po _ _ 0 0]; exact e)).1
    have := h.hB
    omega
  have hne : ∀ k, (Value.slice (some ⟨g, 0, none⟩ : Option Addr) 0 0).ownBlock = some k → k = g := fun k e => by simp [Value.ownBlock] at e; omega
  have hmut : ∀ k, (gP Ds ps cs pf cf (some ⟨g, 0, none⟩) cp).mut k → (gP Ds ps cs pf cf po co).mut k ∨ w1.heap.size ≤ k := by
    rintro k (e | e | e | e | e | e)
    · exact Or.inl (Or.inl e)
    · exact Or.inl (Or.inr (Or.inl e))
    · exact Or.inl (Or.inr (Or.inr (Or.inl e)))
    · exact Or.inl (Or.inr (Or.inr (Or.inr (Or.inl e))))
    · exact Or.inl (Or.inr (Or.inr (Or.inr (Or.inr (Or.inl e)))))
    · rw [hne k e]
      rcases hg2 with e2 | e2
      · exact Or.inl (Or.inr (Or.inr (Or.inr (Or.inr (Or.inr e2)))))
      · exact Or.inr e2
  have hkm : ∀ k, B ≤ k → k < w1.heap.size → ¬ (gP Ds ps cs pf cf po co).mut k → w3.heap[k]? = w1.heap[k]? := fun k _ c hm => hk k c (fun e => hm (Or.inr (Or.inr (Or.inr (Or.inr (Or.inr e))))))
  have hul : us.length = b.length * 5 := hO.1
  have hFn := hA b.length hbl
  obtain ⟨q0, c0, lo0, hi0, r0, d0, lo1, hi1, a1, a2, a3, a4, a5, a6, a7, a8, a9, a10, a11, a12⟩ := hFn
  rw [hq] at a2
  injection a2 with a2
  subst a2
  refine ⟨(hk _ hDs hnD).trans h.box, ownsRow_far h.rowS fun k e => hk k (row_lt h.rowS k e) (hty h.rowS (by decide) k e), ownsRow_far h.rowB fun k e => hk k (row_lt h.rowB k e) (hty h.rowB (by decide) k e),
    ⟨vs, ownsRow_far hF fun k e => hk k (row_lt hF k e) (fun e2 => h.ne k e2 e), fun i hi => (hA i hi).keep hkm hs hmut⟩, ?_, ?_, (hk _ (lt_of_block h.res) hnR).trans h.res, ?_, h.hB, h.hD⟩
  · rw [List.length_append, List.length_singleton]
    refine ⟨_, hown, fun i hib => ?_⟩
    by_cases hil : i < b.length
    · obtain ⟨q', c', lo', hi', r', d', lo2, hi2, h1, h2, h3, h4, h5, h6, h7, h8⟩ := (hC i hil).keep hkm hs hmut
      have e1 : (fuSc L (b ++ [t])).bk i = (fuSc L b).bk i ∧ (fuSc L (b ++ [t])).bn i = (fuSc L b).bn i ∧ (fuSc L (b ++ [t])).bt i = (fuSc L b).bt i := by
        refine ⟨?_, ?_, ?_⟩ <;> simp [fuSc, List.getElem?_append_left hil]
      refine ⟨q', c', lo', hi', r', d', lo2, hi2, ?_, ?_, ?_, ?_, ?_, h6, ?_, h8⟩
      · rw [List.getElem?_append_left (by omega)]; exact h1
      · rw [List.getElem?_append_left (by omega)]; exact h2
      · rw [List.getElem?_append_left (by omega), e1.1]; exact h3
      · rw [List.getElem?_append_left (by omega), e1.2.1]; exact h4
      · rw [List.getElem?_append_left (by omega), e1.2.2]; exact h5
      · rw [e1.2.2]; exact h7
    · obtain rfl : i = b.length := by omega
      have e1 : (fuSc L (b ++ [t])).bk b.length = t.1 ∧ (fuSc L (b ++ [t])).bn b.length = t.2.1 ∧ (fuSc L (b ++ [t])).bt b.length = t.2.2 := by
        refine ⟨?_, ?_, ?_⟩ <;> simp [fuSc]
      refine ⟨q0, c0, lo0, hi0, r, d, lo, hi, ?_, ?_, ?_, ?_, ?_, ?_, ?_, a8, by omega, hlo, by omega, ?_⟩
      · rw [List.getElem?_append_right (by omega), hul, Nat.sub_self]; rfl
      · rw [List.getElem?_append_right (by omega), hul, show b.length * 5 + 1 - b.length * 5 = 1 by omega]; rfl
      · rw [List.getElem?_append_right (by omega), hul, show b.length * 5 + 2 - b.length * 5 = 2 by omega, e1.1]; rfl
      · rw [List.getElem?_append_right (by omega), hul, show b.length * 5 + 3 - b.length * 5 = 3 by omega, e1.2.1]; rfl
      · rw [List.getElem?_append_right (by omega), hul, show b.length * 5 + 4 - b.length * 5 = 4 by omega, e1.2.2]; rfl
      · exact a6.keep fun k x y => hkm k (by omega) (by omega) (fun e => by have := (a12 k e).1; omega)
      · rw [e1.2.2]
        exact hX.keep fun k x y => hkm k (by omega) (by omega) (fun e => by have := hcl k e; omega)
      · intro k hk3
        rcases hmut k hk3 with e | e
        · exact ⟨(a12 k e).1, hcl k e⟩
        · exact ⟨Or.inr (by omega), Or.inr (by omega)⟩
  · intro k e e2
    have hkg := hne k e
    rcases hg2 with e3 | e3
    · exact h.ne k (by rw [hkg]; exact e3) e2
    · have := row_lt hF k e2
      omega
  · have hlo2 : ∀ k, (Value.slice po b.length co).ownBlock = some k → w.heap.size < k := fun k e => by have := (hO.lt k e).1; have := h.hB; omega
    exact (h.base.alloc h.base.size Y).grown hgrow (by have := h.base.size; simp; omega) fun j hj => by have := hlo2 j hj; omega

/-- behind names -/
theorem GS.start {w1 : World} {p : Pos} (h : NS w1 B p sy L ns) (hr : w1.heap[w.heap.size]? = some (.cells #[.slice none 0 0, .slice none 0 0] 25 (0, 0))) (hb : Below w.heap.size w w1) (hB : w.heap.size < B) (hBs : B ≤ w1.heap.size) :
    GS w (w1.alloc (.cells #[.slice p.ps sy.length p.cs, .slice p.pf L.length p.cf] 25)) B w1.heap.size p.ps p.cs p.pf p.cf p.pb p.cb none 0 sy L ns [] := by
  have hb1 := (Below.refl w1.heap.size w1).alloc (Nat.le_refl _) (.cells #[.slice p.ps sy.length p.cs, .slice p.pf L.length p.cf] 25)
  obtain ⟨vs, hF, hA⟩ := h.rowF
  refine ⟨heap_new _ _, row_keep h.rowS hb1, row_keep h.rowB hb1, ⟨vs, row_keep hF hb1, fun i hi => (hA i hi).keep (fun k _ c _ => hb1.block k c) hb1.size ?_⟩, ⟨[], World.ownsRow_nil _ _ _ _, fun i hi => absurd hi (Nat.not_lt_zero _)⟩, (fun g e => by cases e), alloc_kept hr _, hb.alloc hb.size _, hB, hBs⟩
  rintro k (e | e | e | e | e | e)
  · exact Or.inr (Nat.le_of_eq e.symm)
  · exact Or.inr (Nat.le_of_eq e.symm)
  · exact Or.inr (Nat.le_of_eq e.symm)
  · exact Or.inl (Or.inr (Or.inr (Or.inr (Or.inl e))))
  · exact Or.inl (Or.inr (Or.inr (Or.inr (Or.inr (Or.inl e)))))
  · cases e

theorem GS.mut_lt (h : GS w wr B Ds ps cs pf cf pb cb po co sy L ns b) {k : Nat} (hk : (gP Ds ps cs pf cf po co).mut k) : k < wr.heap.size := by
  have hD := lt_of_block h.box
  obtain ⟨vs, hF, _⟩ := h.rowF
  obtain ⟨us, hO, _⟩ := h.rowO
  rcases hk with e | e | e | e | e | e
  · exact e ▸ hD
  · exact e ▸ hD
  · exact e ▸ hD
  · exact row_lt h.rowS k e
  · exact row_lt hF k e
  · exact row_lt hO k e

/-- function j, as names has laid it -/
theorem GS.fn (h : GS w wr B Ds ps cs pf cf pb cb po co sy L ns b) {j : Nat} (hj : j < L.length) : ∃ (vs : List Value) (g : Nat) (q : Option Addr) (c : Nat) (r : Option Addr) (d : Nat), pf = some ⟨g, 0, none⟩ ∧ wr.ownsRow B 52 5 (.slice pf L.length cf) L.length vs ∧ (∀ i, i < L.length → FnAt wr B (gP Ds ps cs pf cf po co) (fuSc L []) i vs) ∧
    vs[j * 5 + 1]? = some (.slice q ((fuSc L []).st j).len c) ∧ wr.cell? ⟨g, j * 5, none⟩ = some (.string ((fuSc L []).nm j)) ∧ wr.cell? ⟨g, j * 5 + 1, none⟩ = some (.slice q ((fuSc L []).st j).len c) ∧ wr.cell? ⟨g, j * 5 + 2, none⟩ = some (.int .i64 ((fuSc L []).bk j)) ∧
    wr.cell? ⟨g, j * 5 + 3, none⟩ = some (.int .i64 ((fuSc L []).bn j)) ∧ wr.cell? ⟨g, j * 5 + 4, none⟩ = some (.slice r ((fuSc L []).bt j).len d) := by
  obtain ⟨vs, hF, hA⟩ := h.rowF
  obtain ⟨q, c, lo, hi2, r, d, lo2, hi3, v1, v2, v3, v4, v5, _⟩ := hA j hj
  have hF0 := hF
  rcases hF.2 with ⟨e, h0⟩ | ⟨g, cap, cur, e, hb, hh, h1, h2, h3, h4⟩
  · omega
  · injection e with e1 e2 e3
    rw [e1] at hF
    refine ⟨vs, g, q, c, r, d, e1, hF0, hA, v2, ?_, ?_, ?_, ?_, ?_⟩
    · rw [hF.cellAt _ (by omega)]; exact v1
    · rw [hF.cellAt _ (by omega)]; exact v2
    · rw [hF.cellAt _ (by omega)]; exact v3
    · rw [hF.cellAt _ (by omega)]; exact v4
    · rw [hF.cellAt _ (by omega)]; exact v5

/-- the place of body j -/
theorem GS.pl (h : GS w wr B Ds ps cs pf cf pb cb po co sy L ns b) {j : Nat} (hj : j < ns.length) {m : Int} (hm : ns[j]? = some m) : ∃ g, pb = some ⟨g, 0, none⟩ ∧ wr.cell? ⟨g, j, none⟩ = some (.int .i64 m) := by
  have hF := h.rowB
  rcases hF.2 with ⟨e, h0⟩ | ⟨g, cap, cur, e, hb, hh, h1, h2, h3, h4⟩
  · omega
  · injection e with e1 e2 e3
    rw [e1] at hF
    refine ⟨g, e1, ?_⟩
    rw [hF.cellAt _ (by omega)]
    simp [inV, hm]

end

end Go.Proofs.YtjkcopgfcafpeaaGreatDoor

/-
  Plain facts ahead of the walk of the reference's Get: the names that are read are names, and the bodies by their places. Conditions: none.
-/
set_option linter.unusedSimpArgs false
set_option linter.unusedVariables false
namespace Go.Proofs.YtjkcopgfcafpeaaGreatDoor
open Go.RowKit Go.Maps

theorem SN_eq (sy : List (ByteArray × Int)) (F : Fu) : SN ⟨sySc sy, F⟩ = sy.map (·.1) := by
  apply List.ext_getElem?
  intro i
  rw [sn_at, List.getElem?_map]
  show (if i < sy.length then some (sy.getD i (ByteArray.empty, 0)).1 else none) = _
  by_cases h : i < sy.length
  · rw [if_pos h, List.getD_eq_getElem?_getD, List.getElem?_eq_getElem h]; rfl
  · rw [if_neg h, List.getElem?_eq_none (by omega)]; rfl

theorem FN_eq (S : Sy) (L : List FL) (b : List (Int × Int × X)) : FN ⟨S, fuSc L b⟩ = L.map (·.nm) := by
  apply List.ext_getElem?
  intro i
  rw [fn_at, List.getElem?_map]
  show (if i < L.length then some (L.getD i _).nm else none) = _
  by_cases h : i < L.length
  · rw [if_pos h, List.getD_eq_getElem?_getD, List.getElem?_eq_getElem h]; rfl
  · rw [if_neg h, List.getElem?_eq_none (by omega)]; rfl

theorem rdSym_nm {s r : List UInt8} {x : ByteArray × Int} (h : rdSym s = some (x, r)) : nm x.1 = true := by
  unfold rdSym at h
  simp only [Option.bind_eq_some_iff, Option.map_eq_some_iff] at h
  obtain ⟨⟨n, r0⟩, h0, h⟩ := h
  have h2 := (rdName_lt h0).2.2
  obtain ⟨r1, h1, ⟨v, r2⟩, h3, r3, h4, h5⟩ := h
  simp only [Prod.mk.injEq] at h5
  obtain ⟨rfl, _⟩ := h5
  exact h2

theorem rdSyms_nm : ∀ (f : Nat) (s r : List UInt8) (l : List (ByteArray × Int)), rdSyms f s = some (l, r) → ∀ x ∈ l, nm x.1 = true := by
  intro f
  induction f with
  | zero => intro s r l h; cases h
  | succ f ih =>
    intro s r l h
    unfold rdSyms at h
    split at h
    · simp only [Option.bind_eq_some_iff, Option.map_eq_some_iff] at h
      obtain ⟨⟨x, r1⟩, h1, ⟨y, r2⟩, h2, h3⟩ := h
      simp only [Prod.mk.injEq] at h3
      obtain ⟨rfl, rfl⟩ := h3
      intro z hz
      rcases List.mem_cons.1 hz with rfl | hz
      · exact rdSym_nm h1
      · exact ih _ _ _ h2 z hz
    · simp only [Option.some.injEq, Prod.mk.injEq] at h
      obtain ⟨rfl, rfl⟩ := h
      intro z hz; cases hz

theorem rawF_nm {s r : List UInt8} {x : FL} (h : rawF s = some (x, r)) : nm x.nm = true := by
  unfold rawF at h
  simp only [Option.bind_eq_some_iff, Option.map_eq_some_iff] at h
  obtain ⟨⟨n, r0⟩, h0, r1, h1, ⟨t, r2⟩, h2, r3, h3, ⟨b1, b2⟩, h4, h5⟩ := h
  simp only [Prod.mk.injEq] at h5
  obtain ⟨rfl, rfl⟩ := h5
  exact (rdName_lt h0).2.2

theorem rawFuns_nm : ∀ (f : Nat) (s : List UInt8) (L : List FL), rawFuns f s = some L → ∀ x ∈ L, nm x.nm = true := by
  intro f
  induction f with
  | zero => intro s L h; cases h
  | succ f ih =>
    intro s L h
    unfold rawFuns at h
    split at h
    · injection h with h
      subst h
      intro x hx; cases hx
    · simp only [Option.bind_eq_some_iff, Option.map_eq_some_iff] at h
      obtain ⟨r0, h0, ⟨x, r1⟩, h1, y, h2, rfl⟩ := h
      intro z hz
      rcases List.mem_cons.1 hz with rfl | hz
      · exact rawF_nm h1
      · exact ih _ _ h2 z hz

theorem rawFuns_le : ∀ (f : Nat) (s : List UInt8) (L : List FL), rawFuns f s = some L → L.length ≤ s.length := by
  intro f
  induction f with
  | zero => intro s L h; cases h
  | succ f ih =>
    intro s L h
    unfold rawFuns at h
    split at h
    · injection h with h
      subst h
      simp
    · simp only [Option.bind_eq_some_iff, Option.map_eq_some_iff] at h
      obtain ⟨r0, h0, ⟨x, r1⟩, h1, y, h2, rfl⟩ := h
      have l0 := need_le h0
      have l1 := rawF_lt h1
      have l2 := ih _ _ h2
      simp only [List.length_cons] at *
      omega

theorem rawL_ok {s : List UInt8} {sy : List (ByteArray × Int)} {L : List FL} (h : rawL s = some (sy, L)) : NmOk ⟨sySc sy, fuSc L []⟩ ∧ L.length ≤ s.length := by
  unfold rawL at h
  simp only [Option.bind_eq_some_iff, Option.map_eq_some_iff] at h
  obtain ⟨⟨l, r⟩, h1, y, h2, h3⟩ := h
  simp only [Prod.mk.injEq] at h3
  obtain ⟨rfl, rfl⟩ := h3
  have hl1 := rdSyms_le _ _ _ _ h1
  refine ⟨⟨fun i hi => ?_, fun i hi => ?_⟩, ?_⟩
  · have hi' : i < l.length := hi
    show nm (l.getD i (ByteArray.empty, 0)).1 = true
    rw [List.getD_eq_getElem?_getD, List.getElem?_eq_getElem hi']
    exact rdSyms_nm _ _ _ _ h1 _ (List.getElem_mem hi')
  · have hi' : i < y.length := hi
    show nm (y.getD i _).nm = true
    rw [List.getD_eq_getElem?_getD, List.getElem?_eq_getElem hi']
    exact rawFuns_nm _ _ _ h2 _ (List.getElem_mem hi')
  · have := rawFuns_le _ _ _ h2
    dsimp only at *
    omega

/-- one body more is read -/
theorem bodies_step {S F : List ByteArray} {L : List FL} {b : List (Int × Int × X)} {j : Nat} (hj : j < L.length) {s r : List UInt8} (hs : s = L[j].bd ++ 10 :: r) (hb : ∀ c ∈ L[j].bd, c ≠ 10)
    (hr : rdBodies S F L = (rdBodies S F (L.drop j)).map fun y => b ++ y) :
    (∀ t r2, rdT S F s = some (t, r2) → pre [10] r2 = true → rdBodies S F L = (rdBodies S F (L.drop (j + 1))).map fun y => (b ++ [t]) ++ y) ∧
    ((∀ t r2, rdT S F s = some (t, r2) → pre [10] r2 = false) → rdBodies S F L = none) := by
  have hd : L.drop j = L[j] :: L.drop (j + 1) := List.drop_eq_getElem_cons hj
  have h1 := rdBody_in S F L[j].bd r hb
  rw [← hs] at h1
  have h2 : rdBodies S F (L.drop j) = (rdBody S F L[j].bd).bind fun t => (rdBodies S F (L.drop (j + 1))).map fun y => t :: y := by rw [hd]; rfl
  constructor
  · intro t r2 ht hp
    rw [ht, Option.bind_some, if_pos hp] at h1
    rw [hr, h2, h1, Option.bind_some, Option.map_map]
    congr 1
    funext y
    simp
  · intro hn
    have h3 : rdBody S F L[j].bd = none := by
      rw [h1]
      cases ht : rdT S F s with
      | none => rfl
      | some x =>
        obtain ⟨t, r2⟩ := x
        rw [Option.bind_some, if_neg (by rw [hn t r2 ht]; simp)]
    rw [hr, h2, h3]
    rfl

end Go.Proofs.YtjkcopgfcafpeaaGreatDoor

/-
  What the reference's Get holds behind the reading of a body. Conditions: none.
-/
set_option linter.unusedSimpArgs false
set_option linter.unusedVariables false
namespace Go.Proofs.YtjkcopgfcafpeaaGreatDoor
open Go.RowKit Go.Maps

/-- a term that has been read, in a box of its own -/
structure TmX (x : Sc) (s : List UInt8) (i : Nat) (wr wx : World) (bt : Nat) (k n m : Int) (q : Option Addr) (l c : Nat) (ok : Bool) : Prop where
  box : wx.heap[bt]? = some (.cells #[.int .i64 k, .int .i64 n, .slice q l c] 50 (0, 0))
  bel : Below wr.heap.size wr wx
  res : (ok = true ∧ ∃ (a : X) (mm lo hi : Nat) (r : List UInt8), rdT (SN x) (FN x) (s.drop i) = some ((k, n, a), r) ∧ l = a.len ∧ m = (mm : Int) ∧ mm ≤ s.length ∧ s.drop mm = r ∧ OwnX wx a q c lo hi ∧ wr.heap.size ≤ lo ∧ hi ≤ wx.heap.size) ∨ (ok = false ∧ rdT (SN x) (FN x) (s.drop i) = none)

theorem TmX.below {x : Sc} {s : List UInt8} {i : Nat} {wr wx wy : World} {bt : Nat} {k n m : Int} {q : Option Addr} {l c : Nat} {ok : Bool} (h : TmX x s i wr wx bt k n m q l c ok) (hb : Below wx.heap.size wx wy) : TmX x s i wr wy bt k n m q l c ok := by
  refine ⟨(hb.block _ (lt_of_block h.box)).trans h.box, h.bel.trans (hb.mono h.bel.size), ?_⟩
  rcases h.res with ⟨h1, a, mm, lo, hi, r, h2, h3, h4, h5, h6, h7, h8, h9⟩ | h1
  · exact Or.inl ⟨h1, a, mm, lo, hi, r, h2, h3, h4, h5, h6, h7.keep fun k _ hk => hb.block k (by omega), h8, Nat.le_trans h9 hb.size⟩
  · exact Or.inr h1

theorem TmX.undrew {x : Sc} {s : List UInt8} {i : Nat} {wr wx : World} {bt : Nat} {k n m : Int} {q : Option Addr} {l c : Nat} {ok : Bool} (h : TmX x s i wr.drew wx bt k n m q l c ok) : TmX x s i wr wx bt k n m q l c ok :=
  ⟨h.box, ⟨h.bel.os, h.bel.tape, h.bel.output, h.bel.size, h.bel.block⟩, h.res⟩

theorem TermP.undrew {s : List UInt8} {x : Sc} {i : Nat} {w w' : World} {e : Ending} (h : TermP s x i w.drew e w') : TermP s x i w e w' :=
  ⟨h.1, h.2.1, ⟨h.2.2.os, h.2.2.tape, h.2.2.output, h.2.2.size, h.2.2.block⟩⟩

theorem tm_first {x : Sc} {s : List UInt8} {i : Nat} {wr w1 : World} {e : Ending} {u1 u2 u3 : Value} (h : TermP s x i (wr.alloc (.cells #[u1, u2, u3] 50)) e w1) : ∃ (k n m : Int) (q : Option Addr) (l c : Nat) (ok : Bool), e = .returned (.tuple #[.agg #[.int .i64 k, .int .i64 n, .slice q l c], .int .i64 m, .bool ok]) ∧
    w1.heap[wr.heap.size]? = some (.cells #[u1, u2, u3] 50 (0, 0)) ∧ TmX x s i wr (put3 w1 wr.heap.size (.int .i64 k) (.int .i64 n) (.slice q l c)) wr.heap.size k n m q l c ok := by
  obtain ⟨g1, g2, hb⟩ := h
  have hbx : w1.heap[wr.heap.size]? = some (.cells #[u1, u2, u3] 50 (0, 0)) := (hb.block _ (by simp)).trans (heap_new _ _)
  have hsz := hb.size
  simp only [World.size_alloc] at hsz
  have B0 := ((Below.refl wr.heap.size wr).alloc (Nat.le_refl _) (.cells #[u1, u2, u3] 50)).trans (hb.mono (by simp))
  have hB : ∀ a b c, Below wr.heap.size wr (put3 w1 wr.heap.size a b c) := fun a b c => ((B0.setCell (p := ⟨wr.heap.size, 0, none⟩) (Nat.le_refl _) a).setCell (p := ⟨wr.heap.size, 1, none⟩) (Nat.le_refl _) b).setCell (p := ⟨wr.heap.size, 2, none⟩) (Nat.le_refl _) c
  have hs : ∀ a b c, (put3 w1 wr.heap.size a b c).heap.size = w1.heap.size := fun a b c => by simp [put3, World.setCell]
  cases hrd : rdT (SN x) (FN x) (s.drop i) with
  | none =>
    obtain ⟨k, n, m, q, l, c, rfl⟩ := g2 hrd
    exact ⟨k, n, m, q, l, c, false, rfl, hbx, put3_box hbx, hB _ _ _, Or.inr ⟨rfl, hrd⟩⟩
  | some z =>
    obtain ⟨⟨k, n, a⟩, r⟩ := z
    obtain ⟨q, c, m, rfl, hm, hd, hO⟩ := g1 k n a r hrd
    refine ⟨k, n, m, q, a.len, c, true, rfl, hbx, put3_box hbx, hB _ _ _, Or.inl ⟨rfl, a, m, wr.heap.size + 1, w1.heap.size, r, hrd, rfl, rfl, hm, hd, ?_, by omega, by rw [hs]; exact Nat.le_refl _⟩⟩
    rw [World.size_alloc] at hO
    exact hO.keep fun j hj _ => put3_far (by omega)

theorem tm_last {x : Sc} {s : List UInt8} {i : Nat} {wr w1 : World} {e : Ending} (h : TermP s x i wr e w1) : ∃ (k n m : Int) (q : Option Addr) (l c : Nat) (ok : Bool), e = .returned (.tuple #[.agg #[.int .i64 k, .int .i64 n, .slice q l c], .int .i64 m, .bool ok]) ∧
    TmX x s i wr (w1.alloc (.cells #[.int .i64 k, .int .i64 n, .slice q l c] 50)) w1.heap.size k n m q l c ok := by
  obtain ⟨g1, g2, hb⟩ := h
  cases hrd : rdT (SN x) (FN x) (s.drop i) with
  | none =>
    obtain ⟨k, n, m, q, l, c, rfl⟩ := g2 hrd
    exact ⟨k, n, m, q, l, c, false, rfl, heap_new _ _, hb.alloc hb.size _, Or.inr ⟨rfl, hrd⟩⟩
  | some z =>
    obtain ⟨⟨k, n, a⟩, r⟩ := z
    obtain ⟨q, c, m, rfl, hm, hd, hO⟩ := g1 k n a r hrd
    exact ⟨k, n, m, q, a.len, c, true, rfl, heap_new _ _, hb.alloc hb.size _, Or.inl ⟨rfl, a, m, wr.heap.size, w1.heap.size, r, hrd, rfl, rfl, hm, hd, hO.keep fun j _ hj => Below.heap_alloc _ _ _ hj, Nat.le_refl _, by simp⟩⟩

end Go.Proofs.YtjkcopgfcafpeaaGreatDoor

/-
  The walk of the reference's names. Conditions: texts of at most 65536 bytes.
-/
set_option linter.unusedSimpArgs false
set_option linter.unusedVariables false
namespace Go.Proofs.YtjkcopgfcafpeaaGreatDoor
open Go.RowKit Go.Maps

theorem rawL_bad1 {s r r1 : List UInt8} {sy : List (ByteArray × Int)} (hrd : rdSy s = (rdSy r).map fun y => (sy ++ y.1, y.2)) (hp : pre symW r = true) (hr : r.drop 7 = r1) (h : rdSym r1 = none) : rawL s = none := by
  unfold rawL
  rw [hrd, rdSy_more hp, hr, h]
  rfl

theorem rawL_out {s r : List UInt8} {sy : List (ByteArray × Int)} (hrd : rdSy s = (rdSy r).map fun y => (sy ++ y.1, y.2)) (hp : pre symW r = false) : rawL s = (rawFu r).map fun y => (sy, y) := by
  unfold rawL
  rw [hrd, rdSy_end hp]
  simp

/-- a line of a symbol at a place -/
theorem rdSym_at (s : List UInt8) (i : Nat) : rdSym (s.drop i) = if nm (wordAt s i) = true ∧ pre [32] (s.drop (wordEnd s i)) = true ∧ numOk s (wordEnd s i + 1) = true ∧ pre [10] (s.drop (wordEnd s i + 1 + numK s (wordEnd s i + 1))) = true then some ((wordAt s i, (numN s (wordEnd s i + 1) : Int)), s.drop (wordEnd s i + 1 + numK s (wordEnd s i + 1) + 1)) else none := by
  unfold rdSym
  rw [rdName_at]
  by_cases h1 : nm (wordAt s i) = true
  case neg => rw [if_neg h1, if_neg (fun h => h1 h.1)]; rfl
  rw [if_pos h1, Option.bind_some]
  unfold need
  by_cases h2 : pre [32] (s.drop (wordEnd s i)) = true
  case neg => rw [if_neg h2, if_neg (fun h => h2 h.2.1)]; rfl
  rw [if_pos h2, Option.bind_some, List.drop_drop, List.length_singleton, rdNum_at]
  by_cases h3 : numOk s (wordEnd s i + 1) = true
  case neg => rw [if_neg h3, if_neg (fun h => h3 h.2.2.1)]; rfl
  rw [if_pos h3, Option.bind_some]
  by_cases h4 : pre [10] (s.drop (wordEnd s i + 1 + numK s (wordEnd s i + 1))) = true
  case neg => rw [if_neg h4, if_neg (fun h => h4 h.2.2.2)]; rfl
  rw [if_pos h4, if_pos ⟨h1, h2, h3, h4⟩, List.drop_drop, List.length_singleton]
  rfl

theorem numK_le {s : List UInt8} {i : Nat} (h : i ≤ s.length) : i + numK s i ≤ s.length := by
  have := (List.takeWhile_prefix (l := s.drop i) inD).length_le
  simp only [List.length_drop] at this
  unfold numK digs
  omega

/-- a line of a function at a place -/
theorem rawF_at (s : List UInt8) (i : Nat) : rawF (s.drop i) = if nm (wordAt s i) = true ∧ pre [32, 58, 32] (s.drop (wordEnd s i)) = true then (rd (s.drop (wordEnd s i + 3))).bind fun t => if pre [32, 61, 32] t.2 = true then (cutAt [10] (t.2.drop 3)).map fun b => (⟨wordAt s i, t.1, t.1.oE, b.1⟩, b.2) else none else none := by
  unfold rawF
  rw [rdName_at]
  by_cases h1 : nm (wordAt s i) = true
  case neg => rw [if_neg h1, if_neg (fun h => h1 h.1)]; rfl
  rw [if_pos h1, Option.bind_some]
  unfold need
  by_cases h2 : pre [32, 58, 32] (s.drop (wordEnd s i)) = true
  case neg => rw [if_neg h2, if_neg (fun h => h2 h.2)]; rfl
  rw [if_pos h2, if_pos ⟨h1, h2⟩, Option.bind_some, List.drop_drop]
  show Option.bind (rd (s.drop (wordEnd s i + 3))) _ = _
  cases rd (s.drop (wordEnd s i + 3)) with
  | none => rfl
  | some t =>
    rw [Option.bind_some, Option.bind_some]
    by_cases h3 : pre [32, 61, 32] t.2 = true
    · rw [if_pos h3, if_pos h3]; rfl
    · rw [if_neg h3, if_neg h3]; rfl

theorem rawL_bad2 {s r r2 r1 : List UInt8} {sy : List (ByteArray × Int)} {L : List FL} (h0 : rawL s = (rawFu r).map fun y => (sy, y)) (hrd : rawFu r = (rawFu r2).map fun y => L ++ y) (hp : pre funW r2 = true) (hr : r2.drop 4 = r1) (h : rawF r1 = none) : rawL s = none := by
  rw [h0, rawFu_bad hrd hp hr h]
  rfl

theorem line_split {s : List UInt8} {i : Nat} (hi : i ≤ s.length) (h : lineEnd s i < s.length) : s.drop i = (s.drop i).takeWhile no10 ++ 10 :: s.drop (lineEnd s i + 1) := by
  have h2 := cut10_at hi
  rw [if_pos h] at h2
  have h3 := cutAt_app h2
  simpa using h3

theorem infoIn : (Tryz.prog.info? 3).map (fun i => (i.zero, i.size, i.bytes)) = some (some (.int .i64 0), 1, 8) := by kernel_rfl

theorem one_int (n : Int) : ∀ u ∈ [Value.int .i64 n], u.oneCell' = true := by simp [Value.oneCell']

theorem byt_ne {s : List UInt8} {j : Nat} : (((s.getD j 0).toNat : Int) == 10) = !no10 (s.getD j 0) := by
  generalize s.getD j 0 = c
  unfold no10
  rw [Bool.not_not]
  by_cases h : c = 10
  · subst h; rfl
  · have h2 : ¬ ((c.toNat : Int) = 10) := fun e => h (UInt8.toNat_inj.1 (by show c.toNat = 10; omega))
    rw [beq_eq_false_iff_ne.2 h2, beq_eq_false_iff_ne.2 h]

set_option maxRecDepth 100000 in
set_option maxHeartbeats 16000000 in
theorem names3_any (s : List UInt8) (hs : s.length ≤ 65536) (w : World) :
    Calls Tryz.prog 60 #[.string ⟨s.toArray⟩] w (NamesP s w) := by
  obtain ⟨i0, hi0, hz0, hz1', hz2⟩ := info_parts infoSy
  obtain ⟨f0, hf0, hy0, hy1', hy2⟩ := info_parts infoFu
  obtain ⟨n0, hn0, hx0, hx1', hx2⟩ := info_parts infoIn
  have HBG := Lib.hid fun (x : ByteArray) (p : List UInt8) (hx : x.data.toList = p) (hp8 : p.length ≤ 8) (j : Int) (m : Nat) (hj : j = (m : Int)) (hm : m ≤ s.length) (bv : Bool) (hb : Proofs.YtjkcopgfcafpeaaGreatDoor.pre p (s.drop m) = bv) W => begins3_at s p m j x bv hx hm hs hp8 hj hb W
  have HWD := Lib.hid fun (j : Int) (m : Nat) (hj : j = (m : Int)) (hm : m ≤ s.length) W => (show Calls Tryz.prog 103 #[.string ⟨s.toArray⟩, .int .i64 j] W _ from hj ▸ word3_any s m hm hs W)
  have HNU := Lib.hid fun (j : Int) (m : Nat) (hj : j = (m : Int)) (hm : m ≤ s.length) W => (show Calls Tryz.prog 104 #[.string ⟨s.toArray⟩, .int .i64 j] W _ from hj ▸ number3_any s m hm hs W)
  have HNM := Lib.hid fun (n : ByteArray) W => name_any n W
  have HST := Lib.hid (NI.start w)
  go_enter Tryz.func60, Tryz.ntmps60
  go_upto_block 0 with fail
  go_cut [7, 8, 9, 10, 11, 12] from 18 to 66 (fun v7 v8 v9 v10 v11 v12 wx => ∃ (ps : Option Addr) (cs : Nat) (sy : List (ByteArray × Int)) (m : Nat), v7 = .int .i64 (m : Int) ∧ m ≤ s.length ∧ NI w ps cs none 0 none 0 sy [] [] wx ∧ rawL s = (rawFu (s.drop m)).map fun y => (sy, y))
  case first =>
    go_wp2_with fail
    go_loopw [7] (fun v wr => ∃ (ps : Option Addr) (cs : Nat) (sy : List (ByteArray × Int)) (m : Nat), v = .int .i64 (m : Int) ∧ m ≤ s.length ∧ sy.length ≤ m ∧ NI w ps cs none 0 none 0 sy [] [] wr ∧ rdSy s = (rdSy (s.drop m)).map (fun y => (sy ++ y.1, y.2)))
      (fun v _ => s.length - (Go.RowKit.intOf v).toNat)
    case atStart => exact ⟨none, 0, [], 0, rfl, Nat.zero_le _, Nat.le_refl _, HST.out, by rw [List.drop_zero]; cases rdSy s <;> rfl⟩
    case round =>
      clear HST
      obtain ⟨ps, cs, sy, m, rfl, hml, hsm, hNI, hrd⟩ := hrel
      have HNI := Lib.hid hNI
      have HRD := Lib.hid hrd
      obtain ⟨⟨t1, t2⟩, _⟩ := hNI.cells
      obtain ⟨⟨r1, r2⟩, z1, z2⟩ := hNI.resc
      simp only [List.length_nil] at t2
      clear hNI hrd
      cases hp : Proofs.YtjkcopgfcafpeaaGreatDoor.pre symW (s.drop m) with
      | true =>
        have hpl := pre_length hp
        simp only [symW, List.length_cons, List.length_nil, List.length_drop] at hpl
        obtain ⟨hw1, hw2⟩ := wordEnd_le (s := s) (i := m + 7) (by omega)
        have hcw := cut_word s (m + 7)
        have hat := rdSym_at s (m + 7)
        have HP := Lib.hid hp
        have hbg := HBG.out ⟨#[115, 121, 109, 98, 111, 108, 32]⟩ symW rfl (by decide) (m : Int) m rfl hml true hp
        have HB1 := Lib.hid hbg
        clear hp hbg
        have HW := Lib.hid fun (j : Int) (hj : j = ((m + 7 : Nat) : Int)) W => HWD.out j (m + 7) hj (by omega) W
        generalize wordEnd s (m + 7) = E at hw1 hw2 hcw hat HW
        generalize wordAt s (m + 7) = nmv at hcw hat
        have HAT := Lib.hid hat
        clear hat
        go_wp2_with fail
        refine (HB1.out _).mono ?_
        rintro e w1 ⟨rfl, rfl⟩
        go_wp2_with fail
        refine (HW.out _ (by omega) _).mono ?_
        rintro e w1 ⟨rfl, rfl⟩
        have hI1 : (0 : Int) ≤ (m : Int) + 7 := by omega
        have hI2 : (m : Int) + 7 ≤ (E : Int) := by omega
        have hI3 : (E : Int) ≤ (s.length : Int) := by omega
        have hI4 : ((m : Int) + 7).toNat = m + 7 := by omega
        go_wp2_with fail
        refine (HNM.out _ _).mono ?_
        rintro e w1 ⟨rfl, rfl⟩
        clear hcw hI4
        cases hnm : nm nmv with
        | false =>
          have HN := Lib.hid hnm
          clear hnm
          go_wp2_with fail
          have hbad : rawL s = none := rawL_bad1 HRD.out HP.out (by rw [List.drop_drop]) (by rw [HAT.out, if_neg (fun h => by have := HN.out; rw [h.1] at this; cases this)])
          exact bodyPost_ret (v := .tuple #[.agg #[.slice ps sy.length cs, .slice none 0 0], .slice none 0 0, .bool false]) (by simp [results, Tryz.results60, go_sem, r1, r2, z1, z2]) rfl (names_bad hbad HNI.out.bel _ _)
        | true =>
          have l24 : nmv.size ≤ 24 := by
            unfold nm at hnm
            simp only [Bool.and_eq_true, decide_eq_true_eq] at hnm
            exact hnm.1.1.2
          have HN := Lib.hid hnm
          clear hnm
          cases hsp : Proofs.YtjkcopgfcafpeaaGreatDoor.pre [32] (s.drop E) with
          | false =>
            have HB2 := Lib.hid (HBG.out ⟨#[32]⟩ [32] rfl (by decide) (E : Int) E rfl hw2 false hsp)
            have HSP := Lib.hid hsp
            clear hsp
            go_wp2_with fail
            refine (HB2.out _).mono ?_
            rintro e w1 ⟨rfl, rfl⟩
            go_wp2_with fail
            have hbad : rawL s = none := rawL_bad1 HRD.out HP.out (by rw [List.drop_drop]) (by rw [HAT.out, if_neg (fun h => by have := HSP.out; rw [h.2.1] at this; cases this)])
            exact bodyPost_ret (v := .tuple #[.agg #[.slice ps sy.length cs, .slice none 0 0], .slice none 0 0, .bool false]) (by simp [results, Tryz.results60, go_sem, r1, r2, z1, z2]) rfl (names_bad hbad HNI.out.bel _ _)
          | true =>
            have hpl2 := pre_length hsp
            simp only [List.length_singleton, List.length_drop] at hpl2
            have HB2 := Lib.hid (HBG.out ⟨#[32]⟩ [32] rfl (by decide) (E : Int) E rfl hw2 true hsp)
            have HSP := Lib.hid hsp
            have hkl := numK_le (s := s) (i := E + 1) (by omega)
            have HNC := Lib.hid fun (j : Int) (hj : j = ((E + 1 : Nat) : Int)) W => HNU.out j (E + 1) hj (by omega) W
            clear hsp
            generalize numK s (E + 1) = K at HAT HNC hkl
            generalize numN s (E + 1) = V at HAT HNC
            generalize hok : numOk s (E + 1) = ok at HAT HNC
            clear hok
            go_wp2_with fail
            refine (HB2.out _).mono ?_
            rintro e w1 ⟨rfl, rfl⟩
            go_wp2_with fail
            refine (HNC.out _ (by omega) _).mono ?_
            rintro e w2 ⟨rfl, hb2⟩
            have hNI2 := HNI.out.below hb2
            have HNI2 := Lib.hid hNI2
            clear hb2 t1 t2 r1 r2 z1 z2
            obtain ⟨⟨t1, t2⟩, tz1, tz2⟩ := hNI2.cells
            obtain ⟨⟨r1, r2⟩, z1, z2⟩ := hNI2.resc
            simp only [List.length_nil] at t2
            clear hNI2
            cases ok with
            | false =>
              go_wp2_with fail
              have hbad : rawL s = none := rawL_bad1 HRD.out HP.out (by rw [List.drop_drop]) (by rw [HAT.out, if_neg (fun h => by have := h.2.2.1; cases this)])
              exact bodyPost_ret (v := .tuple #[.agg #[.slice ps sy.length cs, .slice none 0 0], .slice none 0 0, .bool false]) (by simp [results, Tryz.results60, go_sem, r1, r2, z1, z2]) rfl (names_bad hbad HNI2.out.bel _ _)
            | true =>
              cases hnl : Proofs.YtjkcopgfcafpeaaGreatDoor.pre [10] (s.drop (E + 1 + K)) with
              | false =>
                have HB3 := Lib.hid (fun (j : Int) (hj : j = ((E + 1 + K : Nat) : Int)) => HBG.out ⟨#[10]⟩ [10] rfl (by decide) j (E + 1 + K) hj hkl false hnl)
                have HNL := Lib.hid hnl
                clear hnl
                go_wp2_with fail
                refine (HB3.out _ (by omega) _).mono ?_
                rintro e w3 ⟨rfl, rfl⟩
                go_wp2_with fail
                have hbad : rawL s = none := rawL_bad1 HRD.out HP.out (by rw [List.drop_drop]) (by rw [HAT.out, if_neg (fun h => by have := HNL.out; rw [h.2.2.2] at this; cases this)])
                exact bodyPost_ret (v := .tuple #[.agg #[.slice ps sy.length cs, .slice none 0 0], .slice none 0 0, .bool false]) (by simp [results, Tryz.results60, go_sem, r1, r2, z1, z2]) rfl (names_bad hbad HNI2.out.bel _ _)
              | true =>
                have hpl3 := pre_length hnl
                simp only [List.length_singleton, List.length_drop] at hpl3
                have HB3 := Lib.hid (fun (j : Int) (hj : j = ((E + 1 + K : Nat) : Int)) => HBG.out ⟨#[10]⟩ [10] rfl (by decide) j (E + 1 + K) hj hkl true hnl)
                have HNL := Lib.hid hnl
                clear hnl
                have hmx : sy.length + 1 ≤ maxLen := by simp only [maxLen]; omega
                have hby : (sy.length + 1) * 24 ≤ 140737488355328 := by omega
                have hbase : w.heap.size + 2 ≤ w2.heap.size := HNI2.out.ge
                have hownA := fun o => HNI2.out.ns.rowS.alloc (w := w2) o
                have hcl := fun o => (two_box (alloc_kept HNI2.out.ns.box o))
                go_wp2_with fail
                refine (HB3.out _ (by omega) _).mono ?_
                rintro e w3 ⟨rfl, rfl⟩
                go_wp2_with (at_builtin; refine wpList_append_lies _ rfl _ _ 22 rfl (w.heap.size + 2) 64 i0 (.agg #[.string ⟨#[]⟩, .int .i64 0]) 2 24 Tryz.underlying22 hi0 hz0 hz1' hz2 rfl (by decide) (.slice ps sy.length cs) sy.length _ rfl (hownA _) ⟨w2.heap.size, 0, none⟩ 1 1 [.string nmv, .int .i64 (V : Int)] rfl rfl (World.news_of_block (heap_new _ _)) (one_sy _ _) Nat.one_pos hmx hby (base_le _ hbase) (w2.heap.size + 1) (size_new _ _) ?_; intro g cp w9 hown9 hgrow hat hglt; obtain ⟨SP, hmid⟩ := NI.pushS (x := (nmv, (V : Int))) HNI2.out hown9 hgrow hat; obtain ⟨⟨d1, d2⟩, dz1, dz2⟩ := two_box (hmid.trans HNI2.out.ns.box))
                have HSPP := Lib.hid SP
                clear SP hmid hown9 hgrow hat hglt
                go_roundw
                case rel =>
                  refine ⟨some ⟨g, 0, none⟩, cp, sy ++ [(nmv, (V : Int))], E + 1 + K + 1, by simp, by omega, by simp; omega, HSPP.out, ?_⟩
                  exact rdSy_push HRD.out HP.out (by rw [List.drop_drop]) (by rw [HAT.out, if_pos ⟨HN.out, HSP.out, by first | trivial | rfl, HNL.out⟩])
                case measure => simp [Go.RowKit.intOf]; omega
      | false =>
        have HP := Lib.hid hp
        have HB1 := Lib.hid (HBG.out ⟨#[115, 121, 109, 98, 111, 108, 32]⟩ symW rfl (by decide) (m : Int) m rfl hml false hp)
        clear hp
        have HRL := Lib.hid (rawL_out HRD.out HP.out)
        go_wp2_with fail
        refine (HB1.out _).mono ?_
        rintro e w1 ⟨rfl, rfl⟩
        go_wp2_with fail
        go_meet
        case rel => exact ⟨ps, cs, sy, m, rfl, hml, HNI.out, HRL.out⟩
  case rest =>
    clear HST
    obtain ⟨ps, cs, sy, m, rfl, hml, hNI, hRL⟩ := hcut
    have HNI := Lib.hid hNI
    have HRL := Lib.hid hRL
    clear hNI hRL
    go_wp2_with fail
    go_loopw [6, 7] (fun u v wr => ∃ (pf : Option Addr) (cf : Nat) (pb : Option Addr) (cb : Nat) (L : List FL) (ns : List Int) (k : Nat), u = .slice pb ns.length cb ∧ v = .int .i64 (k : Int) ∧ k ≤ s.length ∧ L.length ≤ k ∧ NI w ps cs pf cf pb cb sy L ns wr ∧ PlOk s L ns ∧ rawFu (s.drop m) = (rawFu (s.drop k)).map (fun y => L ++ y))
      (fun _ v _ => s.length - (Go.RowKit.intOf v).toNat)
    case atStart => exact ⟨none, 0, none, 0, [], [], m, rfl, rfl, hml, Nat.zero_le _, HNI.out, ⟨rfl, fun i hi => absurd hi (Nat.not_lt_zero _)⟩, by cases rawFu (s.drop m) <;> rfl⟩
    case round =>
      clear HNI
      obtain ⟨pf, cf, pb, cb, L, ns, k, rfl, rfl, hkl, hLk, hNI, hPl, hfu⟩ := hrel
      have HNI := Lib.hid hNI
      have HPL := Lib.hid hPl
      have HFU := Lib.hid hfu
      have HNL := Lib.hid hPl.1
      obtain ⟨⟨t1, t2⟩, _⟩ := hNI.cells
      obtain ⟨⟨r1, r2⟩, z1, z2⟩ := hNI.resc
      clear hNI hPl hfu
      cases hp : Proofs.YtjkcopgfcafpeaaGreatDoor.pre funW (s.drop k) with
      | false =>
        have HB1 := Lib.hid (HBG.out ⟨#[102, 117, 110, 32]⟩ funW rfl (by decide) (k : Int) k rfl hkl false hp)
        have hout := rawFu_out HFU.out hp
        rw [List.length_drop] at hout
        have HO := Lib.hid hout
        clear hp hout
        by_cases hke : k = s.length
        · have hd : ((k : Int) == (s.length : Int)) = true := by rw [beq_iff_eq]; omega
          have hgood : rawL s = some (sy, L) := by rw [HRL.out, HO.out, if_pos (by omega)]; rfl
          have HGD := Lib.hid hgood
          clear hgood hke
          go_wp2_with fail
          refine (HB1.out _).mono ?_
          rintro e w1 ⟨rfl, rfl⟩
          go_wp2_with fail
          exact bodyPost_ret (v := .tuple #[.agg #[.slice ps sy.length cs, .slice pf L.length cf], .slice pb ns.length cb, .bool true]) (by simp [results, Tryz.results60, go_sem, r1, r2, z1, z2]) rfl (names_good HGD.out HNI.out HPL.out _ _)
        · have hd : ((k : Int) == (s.length : Int)) = false := by rw [beq_eq_false_iff_ne]; omega
          have hbad : rawL s = none := by rw [HRL.out, HO.out, if_neg (by omega)]; rfl
          have HGD := Lib.hid hbad
          clear hbad hke
          go_wp2_with fail
          refine (HB1.out _).mono ?_
          rintro e w1 ⟨rfl, rfl⟩
          go_wp2_with fail
          exact bodyPost_ret (v := .tuple #[.agg #[.slice ps sy.length cs, .slice pf L.length cf], .slice pb ns.length cb, .bool false]) (by simp [results, Tryz.results60, go_sem, r1, r2, z1, z2]) rfl (names_bad HGD.out HNI.out.bel _ _)
      | true =>
        have hpl := pre_length hp
        simp only [funW, List.length_cons, List.length_nil, List.length_drop] at hpl
        obtain ⟨hw1, hw2⟩ := wordEnd_le (s := s) (i := k + 4) (by omega)
        have hcw := cut_word s (k + 4)
        have hat := rawF_at s (k + 4)
        have HP := Lib.hid hp
        have HB1 := Lib.hid (HBG.out ⟨#[102, 117, 110, 32]⟩ funW rfl (by decide) (k : Int) k rfl hkl true hp)
        clear hp
        have HW := Lib.hid fun (j : Int) (hj : j = ((k + 4 : Nat) : Int)) W => HWD.out j (k + 4) hj (by omega) W
        generalize wordEnd s (k + 4) = E at hw1 hw2 hcw hat HW
        generalize wordAt s (k + 4) = nmv at hcw hat
        have HAT := Lib.hid hat
        clear hat
        go_wp2_with fail
        refine (HB1.out _).mono ?_
        rintro e w1 ⟨rfl, rfl⟩
        go_wp2_with fail
        refine (HW.out _ (by omega) _).mono ?_
        rintro e w1 ⟨rfl, rfl⟩
        have hI1 : (0 : Int) ≤ (k : Int) + 4 := by omega
        have hI2 : (k : Int) + 4 ≤ (E : Int) := by omega
        have hI3 : (E : Int) ≤ (s.length : Int) := by omega
        have hI4 : ((k : Int) + 4).toNat = k + 4 := by omega
        go_wp2_with fail
        refine (HNM.out _ _).mono ?_
        rintro e w1 ⟨rfl, rfl⟩
        clear hcw hI4
        cases hnm : nm nmv with
        | false =>
          have HN := Lib.hid hnm
          clear hnm
          go_wp2_with fail
          have hbad : rawL s = none := rawL_bad2 HRL.out HFU.out HP.out (by rw [List.drop_drop]) (by rw [HAT.out, if_neg (fun h => by have := HN.out; rw [h.1] at this; cases this)])
          exact bodyPost_ret (v := .tuple #[.agg #[.slice ps sy.length cs, .slice pf L.length cf], .slice none 0 0, .bool false]) (by simp [results, Tryz.results60, go_sem, r1, r2, z1, z2]) rfl (names_bad hbad HNI.out.bel _ _)
        | true =>
          have HN := Lib.hid hnm
          clear hnm
          cases hsp : Proofs.YtjkcopgfcafpeaaGreatDoor.pre [32, 58, 32] (s.drop E) with
          | false =>
            have HB2 := Lib.hid (HBG.out ⟨#[32, 58, 32]⟩ [32, 58, 32] rfl (by decide) (E : Int) E rfl hw2 false hsp)
            have HSP := Lib.hid hsp
            clear hsp
            go_wp2_with fail
            refine (HB2.out _).mono ?_
            rintro e w1 ⟨rfl, rfl⟩
            go_wp2_with fail
            have hbad : rawL s = none := rawL_bad2 HRL.out HFU.out HP.out (by rw [List.drop_drop]) (by rw [HAT.out, if_neg (fun h => by have := HSP.out; rw [h.2] at this; cases this)])
            exact bodyPost_ret (v := .tuple #[.agg #[.slice ps sy.length cs, .slice pf L.length cf], .slice none 0 0, .bool false]) (by simp [results, Tryz.results60, go_sem, r1, r2, z1, z2]) rfl (names_bad hbad HNI.out.bel _ _)
          | true =>
            have hpl2 := pre_length hsp
            simp only [List.length_cons, List.length_nil, List.length_drop] at hpl2
            have HB2 := Lib.hid (HBG.out ⟨#[32, 58, 32]⟩ [32, 58, 32] rfl (by decide) (E : Int) E rfl hw2 true hsp)
            have HSP := Lib.hid hsp
            clear hsp
            have HAT2 := Lib.hid (HAT.out.trans (if_pos ⟨HN.out, HSP.out⟩))
            clear HAT HN HSP
            have HPA := Lib.hid fun (j : Int) (hj : j = ((E + 3 : Nat) : Int)) W => parse_any (s.length - (E + 3) + 1) s (E + 3) j W hj (by omega) (by omega) hs
            go_wp2_with fail
            refine (HB2.out _).mono ?_
            rintro e w1 ⟨rfl, rfl⟩
            go_wp2_with fail
            refine (HPA.out _ (by omega) _).mono ?_
            rintro e w2 ⟨g1, g2⟩
            clear t1 t2 r1 r2 z1 z2
            cases hrd : rd (s.drop (E + 3)) with
            | none =>
              obtain ⟨q, n, c, m1, rfl, hb2⟩ := g2 hrd
              have HBA := Lib.hid (rawL_bad2 HRL.out HFU.out HP.out (by rw [List.drop_drop]) (by rw [HAT2.out, hrd]; rfl))
              have hNI2 := HNI.out.below ((hb2.alloc hb2.size (.cells #[.slice q n c] 47)))
              have HNI2 := Lib.hid hNI2
              obtain ⟨⟨t1, t2⟩, _⟩ := hNI2.cells
              obtain ⟨⟨r1, r2⟩, z1, z2⟩ := hNI2.resc
              clear hNI2 g1 g2 hrd hb2
              go_wp2_with fail
              exact bodyPost_ret (v := .tuple #[.agg #[.slice ps sy.length cs, .slice pf L.length cf], .slice none 0 0, .bool false]) (by simp [results, Tryz.results60, go_sem, r1, r2, z1, z2]) rfl (names_bad HBA.out HNI2.out.bel _ _)
            | some tr =>
              obtain ⟨t, rr⟩ := tr
              obtain ⟨q, c, m1, rfl, hm1, hdr, hO, hb2⟩ := g1 t rr hrd
              subst hdr
              have hlt := rd_lt hrd
              simp only [List.length_drop] at hlt
              have hat3 := HAT2.out
              rw [hrd, Option.bind_some] at hat3
              dsimp only at hat3
              have HA3 := Lib.hid hat3
              have hNI2 := HNI.out.below ((hb2.alloc hb2.size (.cells #[.slice q t.len c] 47)))
              have bx := cell_of_one (heap_new w2 (.cells #[.slice q t.len c] 47))
              have hO2 := hO.keep (w' := w2.alloc (.cells #[.slice q t.len c] 47)) fun j _ hj => Below.heap_alloc _ _ _ hj
              have HNI2 := Lib.hid hNI2
              have hws : w2.heap.size < (w2.alloc (.cells #[.slice q t.len c] 47)).heap.size := by simp
              have hge := HNI.out.ge
              have hb2s := hb2.size
              clear hNI2 g1 g2 hrd hb2 hat3 HAT2 hO
              go_wp2_with fail
              generalize w2.alloc (.cells #[.slice q t.len c] 47) = W1 at bx hO2 HNI2 hws ⊢
              have HO2 := Lib.hid hO2
              obtain ⟨⟨t1, t2⟩, tz1, tz2⟩ := HNI2.out.cells
              obtain ⟨⟨r1, r2⟩, z1, z2⟩ := HNI2.out.resc
              clear hO2
              cases hqe : Proofs.YtjkcopgfcafpeaaGreatDoor.pre [32, 61, 32] (s.drop m1) with
              | false =>
                have HB4 := Lib.hid (HBG.out ⟨#[32, 61, 32]⟩ [32, 61, 32] rfl (by decide) (m1 : Int) m1 rfl hm1 false hqe)
                have HBA := Lib.hid (rawL_bad2 HRL.out HFU.out HP.out (by rw [List.drop_drop]) (by rw [HA3.out, if_neg (by rw [hqe]; simp)]))
                clear hqe
                refine (HB4.out _).mono ?_
                rintro e w3 ⟨rfl, rfl⟩
                go_wp2_with fail
                exact bodyPost_ret (v := .tuple #[.agg #[.slice ps sy.length cs, .slice pf L.length cf], .slice none 0 0, .bool false]) (by simp [results, Tryz.results60, go_sem, r1, r2, z1, z2]) rfl (names_bad HBA.out HNI2.out.bel _ _)
              | true =>
                have hpl3 := pre_length hqe
                simp only [List.length_cons, List.length_nil, List.length_drop] at hpl3
                have HB4 := Lib.hid (HBG.out ⟨#[32, 61, 32]⟩ [32, 61, 32] rfl (by decide) (m1 : Int) m1 rfl hm1 true hqe)
                have hle := lineEnd_eq hqe
                obtain ⟨hl1, hl2⟩ := lineEnd_le (s := s) (i := m1) hm1
                have hA4 := HA3.out
                rw [if_pos hqe, List.drop_drop, cut10_at (by omega), ← hle] at hA4
                have hsp := line_split (s := s) (i := m1 + 3) (by omega)
                rw [← hle] at hsp
                have hbd := no10_all (s.drop (m1 + 3))
                obtain ⟨LE, hLE⟩ : ∃ LE, lineEnd s m1 = LE := ⟨_, rfl⟩
                rw [hLE] at hl1 hl2 hA4 hsp
                generalize (s.drop (m1 + 3)).takeWhile no10 = bd at hA4 hsp hbd
                have HLE := Lib.hid hLE
                have HA4 := Lib.hid hA4
                have HSPL := Lib.hid (And.intro hsp hbd)
                clear hqe hle hA4 hsp hbd hLE HA3
                obtain ⟨vs, hF, hA⟩ := HNI2.out.ns.rowF
                have HF := Lib.hid hF
                have HAF := Lib.hid hA
                have HCL := Lib.hid (fun g (hg : (nP w ps cs pf cf pb cb).mut g) => (Or.inl (HNI.out.ns.lt hg).1 : _ ∨ w2.heap.size ≤ g))
                have hmx : L.length + 1 ≤ maxLen := by simp only [maxLen]; omega
                have hby : (L.length + 1) * 80 ≤ 140737488355328 := by omega
                have hmx2 : ns.length + 1 ≤ maxLen := by have := HNL.out; simp only [maxLen]; omega
                have hby2 : (ns.length + 1) * 8 ≤ 140737488355328 := by have := HNL.out; omega
                have hownF := fun o => HF.out.alloc (w := W1) o
                have hbase : w.heap.size + 2 ≤ W1.heap.size := HNI2.out.ge
                clear hF hA
                refine (HB4.out _).mono ?_
                rintro e w3 ⟨rfl, rfl⟩
                go_upto_region 23 with (at_builtin; refine wpList_append_lies _ rfl _ _ 23 rfl (w.heap.size + 2) 52 f0 (.agg #[.string ⟨#[]⟩, .slice none 0 0, .int .i64 0, .int .i64 0, .slice none 0 0]) 5 80 Tryz.underlying23 hf0 hy0 hy1' hy2 rfl (by decide) (.slice pf L.length cf) L.length vs rfl (hownF _) ⟨W1.heap.size, 0, none⟩ 1 1 [.string nmv, .slice q t.len c, .int .i64 0, .int .i64 0, .slice none 0 0] rfl rfl (World.news_of_block (heap_new _ _)) (one_fu _ _ _ _) Nat.one_pos hmx hby (base_le _ hbase) (W1.heap.size + 1) (size_new _ _) ?_; intro g cp w9 hown9 hgrow hat hglt; obtain ⟨SP, hmid⟩ := NI.pushF (x := ⟨nmv, t, t.oE, bd⟩) HNI2.out HO2.out hge (Nat.le_of_lt hws) HCL.out hown9 HF.out HAF.out hgrow hat; obtain ⟨⟨d1, d2⟩, dz1, dz2⟩ := two_box (hmid.trans HNI2.out.ns.box))
                have hlx : (L ++ [(⟨nmv, t, t.oE, bd⟩ : FL)]).length = L.length + 1 := by simp
                rw [← hlx] at SP ⊢
                generalize w9.setCell ⟨w.heap.size + 1, 1, none⟩ (.slice (some ⟨g, 0, none⟩) (L ++ [(⟨nmv, t, t.oE, bd⟩ : FL)]).length cp) = W2 at SP ⊢
                have HNI3 := Lib.hid SP
                have hbase2 : w.heap.size + 2 ≤ W2.heap.size := SP.ge
                have hownB := fun o => SP.ns.rowB.alloc (w := W2) o
                clear SP hmid hown9 hgrow hat hglt d1 d2 dz1 dz2 t1 t2 tz1 tz2 r1 r2 z1 z2 bx
                go_upto_block 4 with (at_builtin; refine wpList_append_lies _ rfl _ _ 33 rfl (w.heap.size + 2) 3 n0 (.int .i64 0) 1 8 Tryz.underlying33 hn0 hx0 hx1' hx2 rfl (by decide) (.slice pb ns.length cb) ns.length (inV ns) rfl (hownB _) ⟨W2.heap.size, 0, none⟩ 1 1 [.int .i64 ((m1 : Int) + 3)] rfl rfl (World.news_of_block (heap_new _ _)) (one_int _) Nat.one_pos hmx2 hby2 (base_le _ hbase2) (W2.heap.size + 1) (size_new _ _) ?_; intro g2 cp2 w10 hown10 hgrow2 hat2 hglt2)
                have HNI4 := Lib.hid (NI.pushB HNI3.out hown10 hgrow2 hat2)
                clear hown10 hgrow2 hat2 hglt2 hownB
                go_cut [7] from 67 to 138 (fun v7 wx => v7 = .int .i64 (LE : Int) ∧ wx = w10)
                case first =>
                  go_wp2_with fail
                  go_loopw [7] (fun v wx => ∃ j : Nat, j ≤ s.length ∧ v = .int .i64 (j : Int) ∧ lineEnd s j = LE ∧ wx = w10)
                    (fun v _ => s.length - (Go.RowKit.intOf v).toNat)
                  case atStart => exact ⟨m1, hm1, rfl, HLE.out, rfl⟩
                  case round =>
                    obtain ⟨j, hj, rfl, hje, rfl⟩ := hrel
                    have HJE := Lib.hid hje
                    clear hje
                    by_cases hlt : j < s.length
                    · have e3 := byte_at s j hlt
                      rw [byt_list] at e3
                      have hw1 : no10 (s.getD j 0) = true → lineEnd s (j + 1) = LE := fun h => (lineEnd_in hlt h).symm.trans HJE.out
                      have hw0 : no10 (s.getD j 0) = false → j = LE := fun h => (lineEnd_out hlt h).symm.trans HJE.out
                      have hbe : (((s.getD j 0).toNat : Int) != 10) = no10 (s.getD j 0) := by unfold bne; rw [byt_ne, Bool.not_not]
                      obtain ⟨y, hy⟩ : ∃ y, no10 (s.getD j 0) = y := ⟨_, rfl⟩
                      rw [hy] at hbe hw1 hw0
                      have HW := Lib.hid (And.intro hw1 hw0)
                      clear hw1 hw0 hy
                      generalize (s.getD j 0).toNat = bb at e3 hbe
                      cases y with
                      | false =>
                        go_wp2_with fail
                        go_meet
                        case rel => exact ⟨congrArg (fun n : Nat => Value.int .i64 (n : Int)) (HW.out.2 (by first | trivial | rfl)), rfl⟩
                      | true =>
                        go_wp2_with fail
                        go_roundw
                        case rel => exact ⟨j + 1, by omega, by go_num, HW.out.1 (by first | trivial | rfl), by first | trivial | rfl⟩
                        case measure => simp [Go.RowKit.intOf]; omega
                    · go_wp2_with fail
                      go_meet
                      case rel => exact ⟨congrArg (fun n : Nat => Value.int .i64 (n : Int)) (by have := HJE.out; rw [lineEnd_end (by omega)] at this; exact this), rfl⟩
                case rest =>
                  obtain ⟨rfl, rfl⟩ := hcut
                  obtain ⟨⟨t1, t2⟩, tz1, tz2⟩ := HNI4.out.cells
                  obtain ⟨⟨r1, r2⟩, z1, z2⟩ := HNI4.out.resc
                  by_cases hLl : LE < s.length
                  · have hd : ((LE : Int) == (s.length : Int)) = false := by rw [beq_eq_false_iff_ne]; omega
                    have HA5 := Lib.hid (show rawF (s.drop (k + 4)) = some ((⟨nmv, t, t.oE, bd⟩ : FL), s.drop (LE + 1)) by rw [HA4.out, if_pos hLl]; rfl)
                    have HSP2 := Lib.hid (HSPL.out.1 hLl)
                    clear HA4
                    go_wp2_with fail
                    go_roundw
                    case rel =>
                      refine ⟨some ⟨g, 0, none⟩, cp, some ⟨g2, 0, none⟩, cp2, L ++ [(⟨nmv, t, t.oE, bd⟩ : FL)], ns ++ [(m1 : Int) + 3], LE + 1, by simp, by go_num, by omega, by simp; omega, HNI4.out, ?_, rawFu_push HFU.out HP.out (by rw [List.drop_drop]) HA5.out⟩
                      rw [show (m1 : Int) + 3 = ((m1 + 3 : Nat) : Int) by omega]
                      exact PlOk.snoc HPL.out (by omega) HSP2.out HSPL.out.2
                    case measure => simp [Go.RowKit.intOf]; omega
                  · have hd : ((LE : Int) == (s.length : Int)) = true := by rw [beq_iff_eq]; omega
                    have HBA := Lib.hid (rawL_bad2 HRL.out HFU.out HP.out (by rw [List.drop_drop]) (by rw [HA4.out, if_neg hLl]; rfl))
                    clear HA4
                    go_wp2_with fail
                    exact bodyPost_ret (v := .tuple #[.agg #[.slice ps sy.length cs, .slice (some ⟨g, 0, none⟩) (L ++ [(⟨nmv, t, t.oE, bd⟩ : FL)]).length cp], .slice none 0 0, .bool false]) (by simp [results, Tryz.results60, go_sem, r1, r2, z1, z2]) rfl (names_bad HBA.out HNI4.out.bel _ _)

end Go.Proofs.YtjkcopgfcafpeaaGreatDoor

/-
  The walk of the reference's Get: what it returns for whatever text. Conditions: none.
-/
set_option linter.unusedSimpArgs false
set_option linter.unusedVariables false
namespace Go.Proofs.YtjkcopgfcafpeaaGreatDoor
open Go.RowKit Go.Maps

theorem one_fun5 (n : ByteArray) (q r : Option Addr) (l c l2 c2 : Nat) (k m : Int) : ∀ u ∈ [Value.string n, .slice q l c, .int .i64 k, .int .i64 m, .slice r l2 c2], u.oneCell' = true := by simp [Value.oneCell']

theorem get3_no {w wr : World} {k : Int} (hb : Below w.heap.size w wr) (u v : Value) :
    GetP w noSc k (.returned (.tuple #[.agg #[.slice none 0 0, .slice none 0 0], .int .i64 k])) ((wr.setCell ⟨w.heap.size, 0, none⟩ u).setCell ⟨w.heap.size, 1, none⟩ v) :=
  ⟨⟨none, 0, 0, none, 0, 0⟩, rfl, isC_no _, below_set2 hb (Nat.le_refl _) _ _⟩

theorem get3_noA {w wr : World} {k : Int} (hb : Below w.heap.size w wr) (u v : Value) (o : Obj) :
    GetP w noSc k (.returned (.tuple #[.agg #[.slice none 0 0, .slice none 0 0], .int .i64 k])) (((wr.setCell ⟨w.heap.size, 0, none⟩ u).setCell ⟨w.heap.size, 1, none⟩ v).alloc o) :=
  ⟨⟨none, 0, 0, none, 0, 0⟩, rfl, isC_no _, (below_set2 hb (Nat.le_refl _) _ _).alloc (by have := hb.size; simp [World.setCell]; omega) _⟩

set_option maxRecDepth 100000 in
set_option maxHeartbeats 16000000 in
theorem refget3_any (s : List UInt8) (w : World) :
    Calls Tryz.prog 29 #[.string ⟨s.toArray⟩] w (GetP w (getSc s) (getE s)) := by
  obtain ⟨f0, hf0, hy0, hy1', hy2⟩ := info_parts infoFu
  have hR0 := heap_new w (.cells #[.slice none 0 0, .slice none 0 0] 25)
  have HR := Lib.hid hR0
  have hB0 := (Below.refl w.heap.size w).alloc (Nat.le_refl _) (.cells #[.slice none 0 0, .slice none 0 0] 25)
  have HB0 := Lib.hid hB0
  by_cases hlong : 65536 < s.length
  · have e1 : getSc s = noSc := by unfold getSc; rw [if_pos hlong]
    have e2 : getE s = 3 := by unfold getE; rw [if_pos hlong]
    have hd : (65536 : Int) < (s.length : Int) := by omega
    rw [e1, e2]
    obtain ⟨⟨k0, k1⟩, z0, z1⟩ := two_box hR0
    clear e1 e2 hlong hR0 hB0
    go_enter Tryz.func29, Tryz.ntmps29
    go_wp2_with fail
    refine bodyPost_ret (v := .tuple #[.agg #[.slice none 0 0, .slice none 0 0], .int .i64 3]) (by simp [results, Tryz.results29, go_sem, k0, k1]) rfl ⟨⟨none, 0, 0, none, 0, 0⟩, rfl, isC_no _, ?_⟩
    exact HB0.out
  · obtain ⟨e1, e2⟩ := get_raw hlong
    rw [e1, e2]
    have hs : s.length ≤ 65536 := by omega
    have hd : ¬ (65536 : Int) < (s.length : Int) := by omega
    have HNA := Lib.hid (names3_any s hs (w.alloc (.cells #[.slice none 0 0, .slice none 0 0] 25)))
    obtain ⟨R, hR⟩ : ∃ R, rawSc s = R := ⟨_, rfl⟩
    obtain ⟨E, hE⟩ : ∃ E, rawE s = E := ⟨_, rfl⟩
    rw [hR, hE]
    have HRR := Lib.hid (And.intro hR hE)
    clear e1 e2 hlong hR hE hR0 hB0
    go_enter Tryz.func29, Tryz.ntmps29
    go_wp2_with fail
    refine (HNA.out).mono ?_
    rintro e w1 ⟨hyes, hno, hb1⟩
    have hr1 := box3_later hb1 HR.out
    have hb2 := HB0.out.trans (hb1.mono (by simp))
    have hz1 := hb1.size
    simp only [World.size_alloc] at hz1
    cases hr : rawL s with
    | none =>
      have hq : R = noSc ∧ E = 4 := ⟨by rw [← HRR.out.1]; unfold rawSc; rw [hr], by rw [← HRR.out.2]; unfold rawE; rw [hr]⟩
      obtain ⟨rfl, rfl⟩ := hq
      obtain ⟨sp, sn, sc, fp, fn, fc, bp, bn, bc, rfl⟩ := hno hr
      obtain ⟨⟨k0, k1⟩, z0, z1⟩ := two_box hr1
      have hrl := lt_of_block hr1
      have HB2 := Lib.hid hb2
      clear hyes hno hr hb1 hr1 hb2 HRR
      go_wp2_with fail
      exact bodyPost_ret (v := .tuple #[.agg #[.slice none 0 0, .slice none 0 0], .int .i64 4]) (by simp [results, Tryz.results29, go_sem, k0, k1, hrl]) rfl (get3_noA HB2.out _ _ _)
    | some z =>
      obtain ⟨sy, L⟩ := z
      obtain ⟨ps, cs, pf, cf, pb, cb, ns, rfl, hNS, hPl⟩ := hyes sy L hr
      obtain ⟨hNm, hLl⟩ := rawL_ok hr
      have hq : R = (match rdB (sy, L) with | none => noSc | some b => if scOk ⟨sySc sy, fuSc L b⟩ = true then ⟨sySc sy, fuSc L b⟩ else noSc) ∧ E = (match rdB (sy, L) with | none => 4 | some b => if scOk ⟨sySc sy, fuSc L b⟩ = true then 0 else 7) :=
        ⟨by rw [← HRR.out.1]; unfold rawSc; rw [hr] <;> rfl, by rw [← HRR.out.2]; unfold rawE; rw [hr] <;> rfl⟩
      have HQ := Lib.hid hq
      obtain ⟨B, hBe⟩ : ∃ B, (w.alloc (.cells #[.slice none 0 0, .slice none 0 0] 25)).heap.size + 2 = B := ⟨_, rfl⟩
      have hBw : w.heap.size < B := by rw [← hBe]; simp; omega
      have hBl : B ≤ w1.heap.size := by rw [← hBe]; exact lt_of_block hNS.box
      rw [hBe] at hNS
      have hG : GS w (w1.alloc (.cells #[.slice ps sy.length cs, .slice pf L.length cf] 25)) B w1.heap.size ps cs pf cf pb cb none 0 sy L ns [] := GS.start (w := w) hNS hr1 hb2 hBw hBl
      have HG := Lib.hid hG
      have HPL := Lib.hid hPl
      have HNm := Lib.hid hNm
      obtain ⟨⟨t1, t2⟩, tz1, tz2⟩ := hG.cells
      clear hyes hno hr hb1 hr1 hb2 HRR hNS hq hG hPl hNm HNA HR HB0 hBe hz1
      go_wp2_with fail
      clear t1 t2 tz1 tz2
      generalize w1.heap.size = Ds at HG hBl ⊢
      go_loopw [7, 29] (fun v7 v29 wr => ∃ (po : Option Addr) (co : Nat) (b : List (Int × Int × X)), b.length ≤ L.length ∧ v7 = .slice po b.length co ∧ v29 = .int .i64 (b.length : Int) ∧ GS w wr B Ds ps cs pf cf pb cb po co sy L ns b ∧
          rdBodies (sy.map (·.1)) (L.map (·.nm)) L = (rdBodies (sy.map (·.1)) (L.map (·.nm)) (L.drop b.length)).map fun y => b ++ y)
        (fun _ v29 _ => L.length - (Go.RowKit.intOf v29).toNat)
      case atStart => exact ⟨none, 0, [], Nat.zero_le _, rfl, rfl, HG.out, by rw [List.length_nil, List.drop_zero]; cases rdBodies (sy.map (·.1)) (L.map (·.nm)) L <;> rfl⟩
      case round =>
        clear HG
        obtain ⟨po, co, b, hj, rfl, rfl, hG, hrd⟩ := hrel
        have HB := Lib.hid (show rdB (sy, L) = rdBodies (sy.map (·.1)) (L.map (·.nm)) L from rfl)
        have HRD := Lib.hid hrd
        have HG := Lib.hid hG
        by_cases hlt : b.length < L.length
        · obtain ⟨vs, g, q, c, r, d, rfl, hF, hA, hq1, c0, c1, c2, c3, c4⟩ := hG.fn hlt
          obtain ⟨m, rr, hm1, hm2, hm3, hm4⟩ := HPL.out.2 b.length hlt
          have hnl : (b.length : Int) < (ns.length : Int) := by have := HPL.out.1; omega
          obtain ⟨gb, rfl, cb0⟩ := hG.pl (by have := HPL.out.1; omega) hm1
          have hst := bodies_step hlt hm3 hm4 hrd
          rw [← SN_eq sy (fuSc L []), ← FN_eq (sySc sy) L []] at hst
          rw [← SN_eq sy (fuSc L []), ← FN_eq (sySc sy) L []] at HB
          have HST := Lib.hid hst
          have HF := Lib.hid (And.intro hF (And.intro hA hq1))
          have HPT := Lib.hid fun W (hb : Below wr.heap.size wr W) => parseterm3_any ⟨sySc sy, fuSc L []⟩ HNm.out ⟨ps, sy.length, cs, some ⟨g, 0, none⟩, L.length, cf⟩ s hs (s.length + 1) m W (by omega) hm2 (hG.isC.below hb)
          obtain ⟨⟨t1, t2⟩, tz1, tz2⟩ := hG.cells
          have hDl := lt_of_block hG.box
          have hgl := lt_of_cell cb0
          have cb1 := fun o => (keep_alloc wr o _ _ (lt_of_cell cb0)).trans cb0
          have t1a := fun o => (hG.alloc o).cells.1.1
          have t2a := fun o => (hG.alloc o).cells.1.2
          clear hF hA hq1 hm1 hm3 hm4 hst hG hrd
          go_upto_region 10 with fail
          go_cut [10, 11, 12, 29] from 29 to 63 (fun v10 v11 v12 v29 wx => ∃ (bt : Nat) (k n m' : Int) (q' : Option Addr) (l' c' : Nat) (ok : Bool), v10 = .pointer (some ⟨bt, 0, none⟩) ∧ v11 = .int .i64 m' ∧ v12 = .bool ok ∧ v29 = .int .i64 (b.length : Int) ∧
            TmX ⟨sySc sy, fuSc L []⟩ s m (wr.alloc (.cells #[.string ((fuSc L []).nm b.length), .slice q ((fuSc L []).st b.length).len c, .int .i64 ((fuSc L []).bk b.length), .int .i64 ((fuSc L []).bn b.length), .slice r ((fuSc L []).bt b.length).len d] 52)) wx bt k n m' q' l' c' ok)
          case first =>
            have HB1 := Lib.hid fun o => (Below.refl wr.heap.size wr).alloc (Nat.le_refl _) o
            have HB2 := Lib.hid fun o o' => (((Below.refl wr.heap.size wr).alloc (Nat.le_refl _) o).alloc (by simp) o' : Below wr.heap.size wr ((wr.alloc o).alloc o'))
            go_region_with (go_at_call 61; first
              | (refine (HPT.out _ (HB2.out _ _).drew).mono ?_; rintro e w4 hTe; obtain ⟨k, n, m', q', l', c', ok, rfl, hxb, hT⟩ := tm_first hTe.undrew; rw [World.size_alloc] at hxb hT; obtain ⟨⟨x1, x2, x3⟩, xz1, xz2, xz3⟩ := term_box hxb)
              | (refine (HPT.out _ (HB1.out _).drew).mono ?_; rintro e w4 hTe; obtain ⟨k, n, m', q', l', c', ok, rfl, hT⟩ := tm_last hTe.undrew))
            all_goals go_wp2_with fail
            all_goals
              go_meet
              case rel => exact ⟨_, k, n, m', q', l', c', ok, rfl, rfl, rfl, rfl, by first | exact hT | (unfold put3 at hT; exact hT)⟩
          case rest =>
            obtain ⟨bt, k, n, m', q', l', c', ok, rfl, rfl, rfl, rfl, hT⟩ := hcut
            have hT0 := Lib.hid hT
            have HG2 := Lib.hid ((HG.out.alloc (.cells #[.string ((fuSc L []).nm b.length), .slice q ((fuSc L []).st b.length).len c, .int .i64 ((fuSc L []).bk b.length), .int .i64 ((fuSc L []).bn b.length), .slice r ((fuSc L []).bt b.length).len d] 52)).below hT.bel)
            have hfb := (hT.bel.block wr.heap.size (by simp)).trans (heap_new wr _)
            obtain ⟨⟨k0, k1⟩, z0, z1⟩ := HG2.out.rcells
            have hrl := lt_of_block HG2.out.res
            have hres := hT.res
            have hbt := lt_of_block hT.box
            obtain ⟨⟨x1, x2, x3⟩, _⟩ := term_box hT.box
            clear hT t1 t2 tz1 tz2 t1a t2a cb1 cb0 c0 c1 c2 c3 c4
            cases ok with
            | false =>
              have hno : rdT (SN ⟨sySc sy, fuSc L []⟩) (FN ⟨sySc sy, fuSc L []⟩) (s.drop m) = none := by
                rcases hres with ⟨h, _⟩ | ⟨_, h⟩
                · cases h
                · exact h
              have hB : rdB (sy, L) = none := HB.out.trans (HST.out.2 (fun t r2 h => by rw [hno] at h; cases h))
              have hq : R = noSc ∧ E = 4 := ⟨by rw [HQ.out.1, hB], by rw [HQ.out.2, hB]⟩
              obtain ⟨rfl, rfl⟩ := hq
              clear hno hB hres HQ HST hfb x1 x2 x3
              go_wp2_with fail
              exact bodyPost_ret (v := .tuple #[.agg #[.slice none 0 0, .slice none 0 0], .int .i64 4]) (by simp [results, Tryz.results29, go_sem, k0, k1]) rfl (get3_no HG2.out.base _ _)
            | true =>
              rcases hres with ⟨_, a, mm, lo, hi, r2, hrdT, rfl, rfl, hmm, hdr, hX, hlo, hhi⟩ | ⟨h, _⟩
              rotate_left
              · cases h
              cases hp : Proofs.YtjkcopgfcafpeaaGreatDoor.pre [10] (s.drop mm) with
              | false =>
                have hB : rdB (sy, L) = none := HB.out.trans (HST.out.2 (fun t r3 h => by
                  rw [hrdT] at h
                  simp only [Option.some.injEq, Prod.mk.injEq] at h
                  rw [← h.2, ← hdr]
                  exact hp))
                have hq : R = noSc ∧ E = 4 := ⟨by rw [HQ.out.1, hB], by rw [HQ.out.2, hB]⟩
                obtain ⟨rfl, rfl⟩ := hq
                have HBG := Lib.hid fun W => begins3_at s [10] mm (mm : Int) ⟨#[10]⟩ false rfl hmm hs (by decide) rfl hp W
                clear hB HQ HST hfb x1 x2 x3 hp hrdT hdr hX
                go_wp2_with fail
                refine (HBG.out _).mono ?_
                rintro e w9 ⟨rfl, rfl⟩
                go_wp2_with fail
                exact bodyPost_ret (v := .tuple #[.agg #[.slice none 0 0, .slice none 0 0], .int .i64 4]) (by simp [results, Tryz.results29, go_sem, k0, k1]) rfl (get3_no HG2.out.base _ _)
              | true =>
                have hstep := HST.out.1 _ _ hrdT (by rw [← hdr]; exact hp)
                rw [SN_eq, FN_eq] at hstep
                have HSTEP := Lib.hid hstep
                have HBG := Lib.hid fun W => begins3_at s [10] mm (mm : Int) ⟨#[10]⟩ true rfl hmm hs (by decide) rfl hp W
                have HX := Lib.hid hX
                have f1 : wc.cell? ⟨wr.heap.size, 0, none⟩ = some (.string ((fuSc L []).nm b.length)) := by simp [World.cell?, hfb]
                have f2 : wc.cell? ⟨wr.heap.size, 1, none⟩ = some (.slice q ((fuSc L []).st b.length).len c) := by simp [World.cell?, hfb]
                have hbw : Below wr.heap.size wr wc := ((Below.refl wr.heap.size wr).alloc (Nat.le_refl _) _).trans (hT0.out.bel.mono (by simp))
                obtain ⟨us, hO, hC⟩ := HG2.out.rowO
                have HF2 := Lib.hid (And.intro (row_keep HF.out.1 hbw) (And.intro (fun i hi => (HF.out.2.1 i hi).keep (w' := wc) (p' := gP Ds ps cs (some ⟨g, 0, none⟩) cf po co) (fun k _ c _ => hbw.block k c) hbw.size (fun g hg => Or.inl hg)) (And.intro hO hC)))
                have hownO := fun o => hO.alloc (w := wc) o
                have hmx : b.length + 1 ≤ maxLen := by simp only [maxLen]; omega
                have hby : (b.length + 1) * 80 ≤ 140737488355328 := by omega
                have hwz := hbw.size
                have hBD : B ≤ Ds := HG.out.hD
                have hbase : B ≤ wc.heap.size := by omega
                have hlo2 : wr.heap.size ≤ lo := by have := hlo; simp only [World.size_alloc] at this; omega
                have HCL := Lib.hid fun k (hk : (gP Ds ps cs (some ⟨g, 0, none⟩) cf po co).mut k) => (Or.inl (Nat.lt_of_lt_of_le (HG.out.mut_lt hk) hlo2) : k < lo ∨ hi ≤ k)
                clear hstep hX hp hrdT hdr hO hC hfb hbw HQ HST
                go_wp2_with fail
                refine (HBG.out _).mono ?_
                rintro e w8 ⟨rfl, rfl⟩
                go_wp2_with (at_builtin; refine wpList_append_lies _ rfl _ _ 23 rfl B 52 f0 (.agg #[.string ⟨#[]⟩, .slice none 0 0, .int .i64 0, .int .i64 0, .slice none 0 0]) 5 80 Tryz.underlying23 hf0 hy0 hy1' hy2 rfl (by decide) (.slice po b.length co) b.length us rfl (hownO _) ⟨wc.heap.size, 0, none⟩ 1 1 [.string ((fuSc L []).nm b.length), .slice q ((fuSc L []).st b.length).len c, .int .i64 k, .int .i64 n, .slice q' a.len c'] rfl rfl (World.news_of_block (heap_new _ _)) (one_fun5 _ _ _ _ _ _ _ _ _) Nat.one_pos hmx hby (base_le _ hbase) (wc.heap.size + 1) (size_new _ _) ?_; intro g9 cp w9 hown9 hgrow hat hglt)
                have SP := GS.push (t := (k, n, a)) HG2.out hlt HF2.out.1 HF2.out.2.1 HF2.out.2.2.1 HF2.out.2.2.2 HF.out.2.2 HX.out (by omega) hhi HCL.out hown9 hgrow hat
                have HSP := Lib.hid SP
                clear SP hown9 hgrow hat hglt hownO
                go_roundw
                case rel => exact ⟨some ⟨g9, 0, none⟩, cp, b ++ [(k, n, a)], (by rw [List.length_append, List.length_singleton]; omega), by simp, by simp, HSP.out, by rw [List.length_append, List.length_singleton]; exact HSTEP.out⟩
                case measure => simp [Go.RowKit.intOf]; omega
        · have hbl : b.length = L.length := by omega
          have hBq : rdB (sy, L) = some b := by rw [HB.out, HRD.out, hbl, List.drop_length]; simp [rdBodies]
          obtain ⟨hS, hbx⟩ := HG.out.full hbl (.slice po b.length co)
          have hBD : B ≤ Ds := HG.out.hD
          have hres2 : (wr.setCell ⟨Ds, 1, none⟩ (.slice po b.length co)).heap[w.heap.size]? = some (.cells #[.slice none 0 0, .slice none 0 0] 25 (0, 0)) := (Below.heap_setCell _ _ _ _ (show w.heap.size ≠ Ds by omega)).trans HG.out.res
          have hB2 : Below w.heap.size w (wr.setCell ⟨Ds, 1, none⟩ (.slice po b.length co)) := HG.out.base.setCell (show w.heap.size ≤ Ds by omega) _
          obtain ⟨⟨t1, t2⟩, tz1, tz2⟩ := hG.cells
          have HFS := Lib.hid (And.intro hS (And.intro hbx (And.intro hres2 hB2)))
          have hC := hS.isC
          rw [← hbl] at hC
          obtain ⟨so, hso⟩ : ∃ so, scOk ⟨sySc sy, fuSc L b⟩ = so := ⟨_, rfl⟩
          have HIS := Lib.hid fun W h => refis3_any ⟨sySc sy, fuSc L b⟩ ⟨ps, sy.length, cs, po, b.length, co⟩ W h
          rw [hso] at HIS
          have HC := Lib.hid hC
          have HQ2 := Lib.hid (show R = (if so = true then ⟨sySc sy, fuSc L b⟩ else noSc) ∧ E = (if so = true then 0 else 7) from ⟨by rw [HQ.out.1, hBq, ← hso], by rw [HQ.out.2, hBq, ← hso]⟩)
          have HBL := Lib.hid hbl
          clear hbl hBq hS hbx hres2 hB2 hC hso HQ HB HRD hG hrd
          go_wp2_with fail
          refine (HIS.out _ HC.out).mono ?_
          rintro e w6 ⟨rfl, hb6⟩
          have hr6 := (hb6.block _ (lt_of_block HFS.out.2.2.1)).trans HFS.out.2.2.1
          have hx6 := (hb6.block _ (lt_of_block HFS.out.2.1)).trans HFS.out.2.1
          have hs6 := HFS.out.1.below hb6
          have hB6 := HFS.out.2.2.2.trans (hb6.mono HFS.out.2.2.2.size)
          obtain ⟨⟨k0, k1⟩, z0, z1⟩ := two_box hr6
          clear t1 t2 tz1 tz2
          obtain ⟨⟨t1, t2⟩, tz1, tz2⟩ := two_box hx6
          have HW := Lib.hid (And.intro hs6 hB6)
          clear hr6 hx6 hs6 hB6 hb6 HIS HC HFS
          cases so with
          | false =>
            have hq : R = noSc ∧ E = 7 := ⟨by rw [HQ2.out.1, if_neg (by simp)], by rw [HQ2.out.2, if_neg (by simp)]⟩
            obtain ⟨rfl, rfl⟩ := hq
            clear HQ2
            go_wp2_with fail
            exact bodyPost_ret (v := .tuple #[.agg #[.slice none 0 0, .slice none 0 0], .int .i64 7]) (by simp [results, Tryz.results29, go_sem, k0, k1]) rfl (get3_no HW.out.2 _ _)
          | true =>
            have hq : R = ⟨sySc sy, fuSc L b⟩ ∧ E = 0 := ⟨by rw [HQ2.out.1, if_pos rfl], by rw [HQ2.out.2, if_pos rfl]⟩
            obtain ⟨rfl, rfl⟩ := hq
            clear HQ2
            go_wp2_with fail
            refine bodyPost_ret (v := .tuple #[.agg #[.slice ps sy.length cs, .slice po b.length co], .int .i64 0]) (by simp [results, Tryz.results29, go_sem, k0, k1]) rfl ⟨⟨ps, sy.length, cs, po, b.length, co⟩, rfl, ?_, below_set2 HW.out.2 (Nat.le_refl _) _ _⟩
            have hF := ((HW.out.1.setLow (a := ⟨w.heap.size, 0, none⟩) (show w.heap.size < B by omega) (.slice ps sy.length cs)).setLow (a := ⟨w.heap.size, 1, none⟩) (show w.heap.size < B by omega) (.slice po b.length co)).isC
            rw [← HBL.out] at hF
            exact hF

end Go.Proofs.YtjkcopgfcafpeaaGreatDoor

/-
  The walk of the statement on Get. Conditions: the package variables read as laid.
-/
set_option linter.unusedSimpArgs false
set_option linter.unusedVariables false
namespace Go.Proofs.YtjkcopgfcafpeaaGreatDoor
open Go.RowKit Go.Maps

theorem getSc_ok {s : List UInt8} (h : getE s = 0) : scOk (getSc s) = true := by
  by_cases hs : 65536 < s.length
  · unfold getE at h
    rw [if_pos hs] at h
    cases h
  · unfold getE at h
    unfold getSc
    rw [if_neg hs] at h ⊢
    cases hr : rdSc s with
    | none => rw [hr] at h; cases h
    | some x =>
      rw [hr] at h
      dsimp only at h ⊢
      by_cases hx : x.2 = true ∧ scOk x.1 = true
      · rw [if_pos hx]; exact hx.2
      · rw [if_neg hx] at h; cases h

set_option maxRecDepth 100000 in
set_option maxHeartbeats 4000000 in
/-- equal answers are alike -/
theorem is3_any (x : Sc) (k : Int) (hx : k = 0 ∧ scOk x = true ∨ k ≠ 0 ∧ x = noSc) (a b : At2) (W : World) (h1 : IsC W x a) (h2 : IsC W x b) :
    Calls Tryz.prog 30 #[.agg #[.slice a.sp a.sn a.sc, .slice a.fp a.fn a.fc], .int .i64 k, .agg #[.slice b.sp b.sn b.sc, .slice b.fp b.fn b.fc], .int .i64 k] W fun e w' => e = .returned (.bool true) ∧ Below W.heap.size W w' := by
  have b2 : ∀ x y, Below W.heap.size W ((W.alloc x).alloc y) := fun x y => ((Below.refl _ _).alloc (Nat.le_refl _) _).alloc (by simp) _
  have HB := Lib.hid b2
  have H3 := Lib.hid fun o o' => refsame3_self x a b ((W.alloc o).alloc o') ((h1.alloc o).alloc o') ((h2.alloc o).alloc o')
  obtain ⟨sp, sn, sc, fp, fn, fc⟩ := a
  obtain ⟨sp', sn', sc', fp', fn', fc'⟩ := b
  dsimp only at H3 ⊢
  rcases hx with ⟨rfl, hs⟩ | ⟨hx, rfl⟩
  · rw [hs] at H3
    clear b2 hs h1 h2
    go_enter Tryz.func30, Tryz.ntmps30
    go_wp2_with fail
    refine (H3.out _ _).mono ?_
    rintro e w1 ⟨rfl, hb1⟩
    go_wp2_with fail
    go_ret
    exact ⟨rfl, (HB.out _ _).trans (hb1.mono (HB.out _ _).size)⟩
  · have hd : decide (k = 0) = false := by simpa using hx
    have hd2 : (k == 0) = false := by simpa using hx
    have hd3 : (k != 0) = true := by simpa using hx
    obtain rfl : sn = 0 := h1.1.1
    obtain rfl : fn = 0 := h1.2.1
    clear b2 h1 h2 H3
    go_enter Tryz.func30, Tryz.ntmps30
    go_wp2_with fail
    go_ret
    exact ⟨rfl, HB.out _ _⟩

set_option maxRecDepth 100000 in
set_option maxHeartbeats 4000000 in
theorem law_sget (s : ByteArray) (w : World) (hg : Gl w) (h6 : 6 ≤ w.heap.size) :
    Calls Tryz.prog 8 #[.string s] w fun e w' => e = .returned (.bool true) ∧ Below w.heap.size w w' := by
  obtain ⟨l, hl⟩ : ∃ l : List UInt8, s = ⟨l.toArray⟩ := ⟨s.data.toList, (str_self s).symm⟩
  subst hl
  have H1 := Lib.hid fun W h h' => sget_any l W h h'
  have H2 := Lib.hid fun W h h' => alive3_any W h h'
  have H3 := Lib.hid fun W => refget3_any l W
  have hx : getE l = 0 ∧ scOk (getSc l) = true ∨ getE l ≠ 0 ∧ getSc l = noSc := by
    by_cases h0 : getE l = 0
    · exact Or.inl ⟨h0, getSc_ok h0⟩
    · exact Or.inr ⟨h0, getSc_no h0⟩
  generalize getE l = k at H1 H3 hx
  generalize getSc l = x at H1 H3 hx
  have H4 := Lib.hid fun a b W h1 h2 => is3_any x k hx a b W h1 h2
  clear hx
  go_enter Tryz.func8, Tryz.ntmps8
  go_wp2_with fail
  refine (H1.out _ hg h6).mono ?_
  rintro e w1 ⟨⟨sp, sn, sc, fp, fn, fc⟩, rfl, hC, hb1⟩
  have HC := Lib.hid (hC.alloc (.cells #[.slice sp sn sc, .slice fp fn fc] 25))
  have HB := Lib.hid (hb1.alloc hb1.size (.cells #[.slice sp sn sc, .slice fp fn fc] 25))
  have HX := Lib.hid (heap_new w1 (.cells #[.slice sp sn sc, .slice fp fn fc] 25))
  clear hC hb1 H1
  go_wp2_with fail
  refine (H3.out _).mono ?_
  rintro e w2 ⟨⟨sp', sn', sc', fp', fn', fc'⟩, rfl, hC2, hb2⟩
  have hx1 := two_box (alloc_kept (box3_later hb2 HX.out) (.cells #[.slice sp' sn' sc', .slice fp' fn' fc'] 25))
  have hx2 := two_box (heap_new w2 (.cells #[.slice sp' sn' sc', .slice fp' fn' fc'] 25))
  have hB2 := HB.out.trans (hb2.mono HB.out.size)
  have HC1 := Lib.hid ((HC.out.below hb2).alloc (.cells #[.slice sp' sn' sc', .slice fp' fn' fc'] 25))
  have HC2 := Lib.hid (hC2.alloc (.cells #[.slice sp' sn' sc', .slice fp' fn' fc'] 25))
  have HB2 := Lib.hid (hB2.alloc hB2.size (.cells #[.slice sp' sn' sc', .slice fp' fn' fc'] 25))
  obtain ⟨⟨u1, u2⟩, _⟩ := hx1
  obtain ⟨⟨u3, u4⟩, _⟩ := hx2
  clear hC2 hb2 hB2 HC HX H3
  go_wp2_with fail
  refine (H4.out ⟨sp, sn, sc, fp, fn, fc⟩ ⟨sp', sn', sc', fp', fn', fc'⟩ _ HC1.out HC2.out).mono ?_
  rintro e w3 ⟨rfl, hb3⟩
  have HB3 := Lib.hid (HB2.out.trans (hb3.mono HB2.out.size))
  clear hb3 u1 u2 u3 u4 HC1 HC2 H4
  go_wp2_with fail
  refine (H2.out _ (hg.keep fun b hb => HB3.out.block b (by omega)) (by have := HB3.out.size; omega)).mono ?_
  rintro e w4 ⟨rfl, hb4⟩
  go_wp2_with fail
  go_ret
  exact ⟨rfl, HB3.out.trans (hb4.mono HB3.out.size)⟩

end Go.Proofs.YtjkcopgfcafpeaaGreatDoor

set_option linter.unusedSimpArgs false
set_option linter.unusedVariables false
namespace Go.Proofs.YtjkcopgfcafpeaaGreatDoor
open Go.ChangeShapes Go.WideShapes Go.ChangeAt Go.RowKit
open Go.ChangeMaps (open_string shut_string)

set_option maxRecDepth 100000 in
theorem schemeGet_lifted (os : Os) (started : os.Started) (H : Type) (enc : TypeId × Value → H) :
    ReturnsInHanded {} Tryz.checked os 8 .any (fun w args => (Rows.schemeGetSpec.pre enc Tryz.prog Tryz.f8 [] false w args ∧ laidMetH Tryz.prog laidL w) ∧ sizedMet enc Tryz.prog Tryz.f8 (OpenSpec.ofChange Rows.schemeGetSpec) false w args)
      (Rows.schemeGetSpec.post enc Tryz.prog Tryz.f8 false true false false) := by
  refine lifted_shaped (C := Tryz.checked) (X := fun w _ => laidMetH Tryz.prog laidL w) (fun _ _ _ hh h => h.of_heap hh) P.own started (by kernel_rfl) Tryz.func8
    (ChangeSpec.witness_shaped (enc := enc) (C := Tryz.checked) (os := os) (X := fun w _ => laidMetH Tryz.prog laidL w) false (World.doorLaid Tryz.prog 62 os) #[.string ⟨#[]⟩] 8 rfl (World.shaped_of_RefB (by kernel_rfl) (by kernel_rfl)) (by kernel_rfl) (by kernel_rfl) (by kernel_rfl) (door_met os _)) ?_
  intro W args ds gs before hval0 hW _ hL hsh
  have hW' := hW
  obtain ⟨p, q, hA0, hV, rfl, hfz, hnd⟩ := hW
  have hA : DataW.TrodAll enc Tryz.prog W 0 (fun _ => true) true Tryz.f8.params.toList args.toList ds p := hA0
  rw [Tryz.params8] at hA hval0
  obtain ⟨v0, d0, rfl, rfl, h0⟩ := trodAll_one hA
  obtain ⟨rfl, rfl⟩ := trodVars_none hV
  obtain ⟨base0, hv0⟩ := hval0 0 9 v0 rfl rfl
  obtain ⟨s0, rfl, rfl, rfl, w0⟩ := open_string Tryz.underlying9 hv0 h0
  clear hA0 hval0
  simp only [List.append_nil] at hW'
  obtain ⟨hg, h6⟩ := gl_of hL hsh
  refine (law_sget s0 W hg h6).mono fun e W' ⟨he, hb⟩ => ?_
  subst he
  have hlt := fun x hx => hW'.lt x hx
  exact ⟨_, rfl, post_below (pv := []) hW' (fun _ _ _ => trodAll_mk1 (shut_bool Tryz.underlying4 true))
    (fun sp hsp => trodAll_mk1 (shut_string Tryz.underlying9 w0))
    (fun _ _ => rfl) (by simp) hb (ok_one (by kernel_rfl) rfl (okWide_bool_mk Tryz.underlying4 true))⟩

theorem schemeGet_row : Rows.SchemeGetSaid :=
  OpenClaim.holds_of_wide 8 Tryz.f8 rfl rfl rfl rfl rfl rfl rfl ⟨rfl, rfl, rfl, rfl, rfl⟩ rfl rfl rfl rfl rfl (by kernel_rfl) Tryz.func8 (by kernel_rfl)
    (of_decide_eq_true (by kernel_rfl)) (by unfold Func.isWrapper; rw [if_neg (of_decide_eq_false (by kernel_rfl))]; exact ⟨rfl, rfl⟩)
    (fun os started H enc _ => schemeGet_lifted os started H enc)

theorem schemeGet_holds : Rows.SchemeGetCardSaid :=
  Claim7.holds_tied_plain_at .later [] [.data, .data, .data, .sentinel, .sentinel] true Rows.schemeGetCard.stood.harness true
    schemeGet_row (fun _ h => by cases h) (by kernel_rfl) (fun _ h => by cases h) schemeGet_row_tie rfl ⟨rfl, rfl⟩ (by kernel_rfl) rfl
    (fun f fn hf hfn => by
      obtain rfl : f = 8 := Option.some.inj ((show Tryz.prog.funcNamed "virgation/virgationlaw03.SchemeGet" = some 8 by kernel_rfl).symm.trans hf) |>.symm
      obtain rfl : fn = Tryz.f8 := (Option.some.inj (Tryz.func8.symm.trans hfn)).symm
      exact ⟨by kernel_rfl, fun j t ht => by
        rw [Tryz.params8] at ht
        have hm : t ∈ [9] := by simpa using Array.mem_of_getElem? ht
        have hall : ([9].all fun u => !Tryz.prog.wantsStandIn u) = true := by kernel_rfl
        exact (show Tryz.prog.wantsStandIn t = false by simpa using List.all_eq_true.1 hall t hm)⟩)
    (by kernel_rfl)

end Go.Proofs.YtjkcopgfcafpeaaGreatDoor

