/-
  Parts of one proof, laid into one text: SMap, SDraft. Conditions: each part names its own.
-/
import Derived.Test.YtjkcopgfcafpeaaGreatDoorMg23
import Derived.Test.YtjkcopgfcafpeaaGreatDoorMg19
import Derived.Test.YtjkcopgfcafpeaaGreatDoorMg21
import Derived.Test.YtjkcopgfcafpeaaGreatDoorMg16

/-
  Maps from names to numbers: enter gives a name a number unless it has one. Conditions: less than 2^40 names.
-/
set_option linter.unusedSimpArgs false
set_option linter.unusedVariables false
namespace Go.Proofs.YtjkcopgfcafpeaaGreatDoor
open Go.RowKit Go.Maps

def keyN (n : ByteArray) : Lit := .string n.data.toList

theorem keyN_inj {a b : ByteArray} (h : keyN a = keyN b) : a = b := by
  unfold keyN at h
  have h1 : a.data.toList = b.data.toList := by injection h
  apply ByteArray.ext
  exact Array.toList_inj.1 h1

/-- the map behind these names, the last of which stands first -/
def mpR : List ByteArray → DataW Unit
  | [] => .map []
  | n :: r => if has (mpR r) (keyN n) = true then mpR r else (mpR r).put (keyN n) (.lit (.int .i64 (r.length : Int)))

def mp (l : List ByteArray) : DataW Unit := mpR l.reverse

theorem mpR_isMap : ∀ l, IsMap (mpR l)
  | [] => isMap_empty
  | n :: r => by
    unfold mpR
    split
    · exact mpR_isMap r
    · exact (mpR_isMap r).put _ _

theorem mpR_at (x : ByteArray) : ∀ l : List ByteArray, has (mpR l) (keyN x) = (idxR l x).isSome ∧ (mpR l).atKey (keyN x) (.lit (.int .i64 0)) = .lit (.int .i64 (((idxR l x).getD 0 : Nat) : Int))
  | [] => ⟨rfl, rfl⟩
  | n :: r => by
    obtain ⟨h1, h2⟩ := mpR_at x r
    unfold mpR idxR
    by_cases e : n = x
    · subst e
      cases hi : idxR r n with
      | some i =>
        rw [hi] at h1 h2
        rw [if_pos (by rw [h1]; rfl)]
        exact ⟨h1, h2⟩
      | none =>
        rw [hi] at h1 h2
        rw [if_neg (by rw [h1]; simp)]
        simp only [if_pos]
        exact ⟨has_put_same (mpR_isMap r) (by trivial) _, atKey_put_same (mpR_isMap r) (by trivial) _ _⟩
    · have hk : keyN x ≠ keyN n := fun h => e (keyN_inj h).symm
      have hh : has (if has (mpR r) (keyN n) = true then mpR r else (mpR r).put (keyN n) (.lit (.int .i64 (r.length : Int)))) (keyN x) = has (mpR r) (keyN x) := by
        split
        · rfl
        · exact has_put_other hk _
      have ha : (if has (mpR r) (keyN n) = true then mpR r else (mpR r).put (keyN n) (.lit (.int .i64 (r.length : Int)))).atKey (keyN x) (.lit (.int .i64 0)) = (mpR r).atKey (keyN x) (.lit (.int .i64 0)) := by
        split
        · rfl
        · exact atKey_put_other hk _ _
      rw [hh, ha, h1, h2]
      cases hi : idxR r x with
      | some i => exact ⟨rfl, rfl⟩
      | none => simp [e]

theorem mp_snoc (l : List ByteArray) (n : ByteArray) : mp (l ++ [n]) = if has (mp l) (keyN n) = true then mp l else (mp l).put (keyN n) (.lit (.int .i64 (l.length : Int))) := by
  unfold mp
  rw [List.reverse_append]
  show (if has (mpR l.reverse) (keyN n) = true then mpR l.reverse else (mpR l.reverse).put (keyN n) (.lit (.int .i64 (l.reverse.length : Int)))) = _
  rw [List.length_reverse]

theorem mp_has (l : List ByteArray) (x : ByteArray) : has (mp l) (keyN x) = (idx l x).isSome := (mpR_at x l.reverse).1

theorem mp_at (l : List ByteArray) (x : ByteArray) : (mp l).atKey (keyN x) (.lit (.int .i64 0)) = .lit (.int .i64 (((idx l x).getD 0 : Nat) : Int)) := (mpR_at x l.reverse).2

theorem zeroI (w : World) : (zeroValue 3).run Tryz.prog w = .ok (.int .i64 0) w := by kernel_rfl

theorem plainI {n : Nat} (h : n < 1099511627776) : plainElem (H := Unit) Tryz.prog 3 (.int .i64 (n : Int)) = some (.lit (.int .i64 (n : Int)), []) :=
  plainElem_int Tryz.underlying3 (by
    have h1 : IntKind.min .i64 = -9223372036854775808 := by decide
    have h2 : IntKind.max .i64 = 9223372036854775807 := by decide
    unfold Lit.wf
    simp only [h1, h2, Bool.and_eq_true, decide_eq_true_eq]
    omega)

/-- block m of w is the map behind these names -/
def MapN (w : World) (m : Nat) (l : List ByteArray) : Prop := w.ownsMap Tryz.prog 9 (plainElem Tryz.prog 3) m l.length (mp l)

set_option maxRecDepth 100000 in
set_option maxHeartbeats 1600000 in
theorem enter_any (m : Nat) (l : List ByteArray) (x : ByteArray) (w : World) (hm : MapN w m l) (hl : l.length < 1099511627776) (hx : x.size ≤ 24) :
    Calls Tryz.prog 125 #[.map (some m), .string x, .int .i64 (l.length : Int)] w fun e w' => e = .returned (.tuple #[]) ∧ MapN w' m (l ++ [x]) ∧ w.grownBy w' (some m) := by
  have h24 : x.size ≤ maxLen := by unfold maxLen; omega
  have hkey : keyOf Tryz.prog 9 (.string x) = some (keyN x) := Go.WideMaps.keyOf_string_mk Tryz.underlying9 h24
  have hsn := mp_snoc l x
  obtain ⟨v, ps, hrun, hv⟩ := World.ownsMap.look_ok hm mlaw Tryz.underlying91 (zeroI _) (plainI (n := 0) (by omega)) hkey
  unfold MapN at hm ⊢
  rw [List.length_append, List.length_singleton, hsn]
  obtain ⟨b, hb⟩ : ∃ b, has (mp l) (keyN x) = b := ⟨_, rfl⟩
  rw [hb] at hrun ⊢
  have HM := Lib.hid hm
  have HV := Lib.hid (plainI hl)
  have HK := Lib.hid hkey
  clear hsn hm hkey hv hb
  cases b with
  | true =>
    go_enter Tryz.func125, Tryz.ntmps125
    go_wp2_with fail
    go_end0
    exact ⟨rfl, World.ownsMap.mono HM.out (Nat.le_succ _), rfl, rfl, rfl, Nat.le_refl _, fun _ _ _ => rfl⟩
  | false =>
    go_enter Tryz.func125, Tryz.ntmps125
    go_wp2_with (first | (at_mapUpdate; refine wpList_mapUpdate_own _ rfl _ _ _ 91 rfl 9 3 mlaw Tryz.underlying91 _ m l.length _ rfl HM.out (by unfold maxLen; omega) _ _ _ rfl rfl HK.out _ [] HV.out ?_; intro w3 hown3 hgrow3) | go_in)
    go_end0
    exact ⟨rfl, hown3, hgrow3⟩

end Go.Proofs.YtjkcopgfcafpeaaGreatDoor

/-
  A draft in memory: two maps, three rows of its own, and what the rows lead to. Conditions: none.
-/
set_option linter.unusedSimpArgs false
set_option linter.unusedVariables false
namespace Go.Proofs.YtjkcopgfcafpeaaGreatDoor
open Go.RowKit Go.Maps

/-- where a draft lies -/
structure Pos where
  D : Nat
  m1 : Nat
  m2 : Nat
  ps : Option Addr
  cs : Nat
  pf : Option Addr
  cf : Nat
  pb : Option Addr
  cb : Nat

/-- the blocks that turn -/
def Pos.mut (p : Pos) (g : Nat) : Prop := g = p.D ∨ g = p.m1 ∨ g = p.m2 ∨ (Value.slice p.ps 0 0).ownBlock = some g ∨ (Value.slice p.pf 0 0).ownBlock = some g ∨ (Value.slice p.pb 0 0).ownBlock = some g

theorem own_same (p : Option Addr) (n c n' c' : Nat) : (Value.slice p n c).ownBlock = (Value.slice p n' c').ownBlock := by cases p <;> rfl

def syV (l : List (ByteArray × Int)) : List Value := l.flatMap fun x => [.string x.1, .int .i64 x.2]
def bdV (l : List (List UInt8)) : List Value := l.map fun s => .string ⟨s.toArray⟩

theorem syV_snoc (l : List (ByteArray × Int)) (x : ByteArray × Int) : syV l ++ [.string x.1, .int .i64 x.2] = syV (l ++ [x]) := by simp [syV]
theorem bdV_snoc (l : List (List UInt8)) (x : List UInt8) : bdV l ++ [.string ⟨x.toArray⟩] = bdV (l ++ [x]) := by simp [bdV]

/-- function i among the values vs, and what it leads to: in blocks of its own -/
def FnAt (w : World) (B : Nat) (p : Pos) (F : Fu) (i : Nat) (vs : List Value) : Prop :=
  ∃ (q : Option Addr) (c lo hi : Nat) (r : Option Addr) (d lo2 hi2 : Nat),
    vs[i * 5]? = some (.string (F.nm i)) ∧ vs[i * 5 + 1]? = some (.slice q (F.st i).len c) ∧ vs[i * 5 + 2]? = some (.int .i64 (F.bk i)) ∧ vs[i * 5 + 3]? = some (.int .i64 (F.bn i)) ∧ vs[i * 5 + 4]? = some (.slice r (F.bt i).len d) ∧
    Own w (F.st i) q c lo hi ∧ OwnX w (F.bt i) r d lo2 hi2 ∧ B ≤ lo ∧ hi ≤ w.heap.size ∧ B ≤ lo2 ∧ hi2 ≤ w.heap.size ∧ ∀ g, p.mut g → (g < lo ∨ hi ≤ g) ∧ (g < lo2 ∨ hi2 ≤ g)

theorem FnAt.keep {w w' : World} {B : Nat} {p p' : Pos} {F : Fu} {i : Nat} {vs : List Value} (h : FnAt w B p F i vs) (hk : ∀ k, B ≤ k → k < w.heap.size → ¬ p.mut k → w'.heap[k]? = w.heap[k]?) (hs : w.heap.size ≤ w'.heap.size)
    (hm : ∀ g, p'.mut g → p.mut g ∨ w.heap.size ≤ g) : FnAt w' B p' F i vs := by
  obtain ⟨q, c, lo, hi, r, d, lo2, hi2, h1, h2, h3, h4, h5, h6, h7, h8, h9, h10, h11, h12⟩ := h
  refine ⟨q, c, lo, hi, r, d, lo2, hi2, h1, h2, h3, h4, h5, h6.keep fun k a b => hk k (by omega) (by omega) fun e => ?_, h7.keep fun k a b => hk k (by omega) (by omega) fun e => ?_, h8, by omega, h10, by omega, fun g hg => ?_⟩
  · have := (h12 k e).1; omega
  · have := (h12 k e).2; omega
  · rcases hm g hg with h | h
    · exact h12 g h
    · exact ⟨Or.inr (by omega), Or.inr (by omega)⟩

/-- the names in the two maps, the symbols, the functions, their bodies as far as they are read, the texts of bodies, and whether a sort was not valid -/
structure DS (w : World) (B : Nat) (p : Pos) (n1 n2 : List ByteArray) (sy : List (ByteArray × Int)) (L : List FL) (b : List (Int × Int × X)) (bs : List (List UInt8)) (bad : Bool) : Prop where
  box : w.heap[p.D]? = some (.cells #[.slice p.ps sy.length p.cs, .slice p.pf L.length p.cf, .slice p.pb bs.length p.cb, .bool bad, .map (some p.m1), .map (some p.m2)] 93 (0, 0))
  map1 : MapN w p.m1 n1
  map2 : MapN w p.m2 n2
  rowS : w.ownsRow B 64 2 (.slice p.ps sy.length p.cs) sy.length (syV sy)
  rowB : w.ownsRow B 9 1 (.slice p.pb bs.length p.cb) bs.length (bdV bs)
  rowF : ∃ vs, w.ownsRow B 52 5 (.slice p.pf L.length p.cf) L.length vs ∧ ∀ i, i < L.length → FnAt w B p (fuSc L b) i vs
  ne : p.m1 ≠ p.m2
  geD : B ≤ p.D
  ge1 : B ≤ p.m1
  ge2 : B ≤ p.m2

theorem ownsRow_block {w : World} {B : Nat} {ty : TypeId} {sz n n' c' : Nat} {p : Option Addr} {c : Nat} {xs : List Value} (h : w.ownsRow B ty sz (.slice p n c) n xs) {g : Nat} (hg : (Value.slice p n' c').ownBlock = some g) : ∃ cur, w.heap[g]? = some (.cells cur ty (0, 0)) ∧ B ≤ g := by
  rcases h.2 with ⟨e, _⟩ | ⟨g', cap, cur, e, hb, hh, _⟩
  · injection e with e1 e2 e3
    subst e1
    cases hg
  · injection e with e1 e2 e3
    subst e1
    have : g' = g := by simpa [Value.ownBlock] using hg
    subst this
    exact ⟨cur, hh, hb⟩

theorem mapN_block {w : World} {m : Nat} {l : List ByteArray} (h : MapN w m l) : ∃ es clock, w.heap[m]? = some (.map es clock) := by
  obtain ⟨es, clock, h, _⟩ := h
  exact ⟨es, clock, h⟩

theorem ownsRow_far {w w' : World} {B : Nat} {ty : TypeId} {sz n c : Nat} {p : Option Addr} {xs : List Value} (h : w.ownsRow B ty sz (.slice p n c) n xs) (hk : ∀ g, (Value.slice p 0 0).ownBlock = some g → w'.heap[g]? = w.heap[g]?) : w'.ownsRow B ty sz (.slice p n c) n xs := by
  refine ⟨h.1, ?_⟩
  rcases h.2 with h1 | ⟨g, cap, cur, e, hb, hh, r⟩
  · exact Or.inl h1
  · refine Or.inr ⟨g, cap, cur, e, hb, ?_, r⟩
    injection e with e1 e2 e3
    subst e1
    rw [hk g rfl]; exact hh

theorem mapN_far {w w' : World} {m : Nat} {l : List ByteArray} (h : MapN w m l) (hk : w'.heap[m]? = w.heap[m]?) : MapN w' m l := by
  obtain ⟨es, clock, h1, h2⟩ := h
  exact ⟨es, clock, hk.trans h1, h2⟩

section
variable {w w' : World} {B : Nat} {p : Pos} {n1 n2 : List ByteArray} {sy : List (ByteArray × Int)} {L : List FL} {b : List (Int × Int × X)} {bs : List (List UInt8)} {bad : Bool}

/-- all blocks of a draft that turn are there -/
theorem DS.lt (h : DS w B p n1 n2 sy L b bs bad) {g : Nat} (hg : p.mut g) : B ≤ g ∧ g < w.heap.size := by
  obtain ⟨vs, hF, _⟩ := h.rowF
  obtain ⟨_, _, hm1⟩ := mapN_block h.map1
  obtain ⟨_, _, hm2⟩ := mapN_block h.map2
  rcases hg with e | e | e | e | e | e
  · subst e; exact ⟨h.geD, lt_of_block h.box⟩
  · subst e; exact ⟨h.ge1, lt_of_block hm1⟩
  · subst e; exact ⟨h.ge2, lt_of_block hm2⟩
  · obtain ⟨_, a, c⟩ := ownsRow_block h.rowS e; exact ⟨c, lt_of_block a⟩
  · obtain ⟨_, a, c⟩ := ownsRow_block hF e; exact ⟨c, lt_of_block a⟩
  · obtain ⟨_, a, c⟩ := ownsRow_block h.rowB e; exact ⟨c, lt_of_block a⟩

/-- where none of a draft's blocks turns -/
theorem DS.keep (h : DS w B p n1 n2 sy L b bs bad) (hk : ∀ k, B ≤ k → k < w.heap.size → w'.heap[k]? = w.heap[k]?) (hs : w.heap.size ≤ w'.heap.size) : DS w' B p n1 n2 sy L b bs bad := by
  have hm : ∀ g, p.mut g → w'.heap[g]? = w.heap[g]? := fun g hg => hk g (h.lt hg).1 (h.lt hg).2
  obtain ⟨vs, hF, hA⟩ := h.rowF
  exact ⟨(hm _ (Or.inl rfl)).trans h.box, mapN_far h.map1 (hm _ (Or.inr (Or.inl rfl))), mapN_far h.map2 (hm _ (Or.inr (Or.inr (Or.inl rfl)))),
    ownsRow_far h.rowS fun g e => hm g (Or.inr (Or.inr (Or.inr (Or.inl e)))), ownsRow_far h.rowB fun g e => hm g (Or.inr (Or.inr (Or.inr (Or.inr (Or.inr e))))),
    ⟨vs, ownsRow_far hF fun g e => hm g (Or.inr (Or.inr (Or.inr (Or.inr (Or.inl e))))), fun i hi => (hA i hi).keep (fun k a c _ => hk k a c) hs fun g hg => Or.inl hg⟩, h.ne, h.geD, h.ge1, h.ge2⟩

/-- where at most the reader's block, older than the draft, turns -/
theorem DS.step (h : DS w B p n1 n2 sy L b bs bad) {R : Nat} (hR : R < B) (hg : w.grownBy w' (some R)) : DS w' B p n1 n2 sy L b bs bad :=
  h.keep (fun k a c => hg.block k c (fun e => by injection e; omega)) hg.size

theorem DS.below (h : DS w B p n1 n2 sy L b bs bad) (hb : Below w.heap.size w w') : DS w' B p n1 n2 sy L b bs bad := h.keep (fun k _ c => hb.block k c) hb.size

theorem DS.alloc (h : DS w B p n1 n2 sy L b bs bad) (x : Obj) : DS (w.alloc x) B p n1 n2 sy L b bs bad := h.below ((Below.refl _ _).alloc (Nat.le_refl _) x)

/-- of what a draft holds, all but block g is as it was -/
theorem DS.boxes (h : DS w B p n1 n2 sy L b bs bad) : p.D ≠ p.m1 ∧ p.D ≠ p.m2 ∧ (Value.slice p.ps 0 0).ownBlock ≠ some p.D ∧ (Value.slice p.pf 0 0).ownBlock ≠ some p.D ∧ (Value.slice p.pb 0 0).ownBlock ≠ some p.D ∧
    (Value.slice p.ps 0 0).ownBlock ≠ some p.m1 ∧ (Value.slice p.pf 0 0).ownBlock ≠ some p.m1 ∧ (Value.slice p.pb 0 0).ownBlock ≠ some p.m1 ∧ (Value.slice p.ps 0 0).ownBlock ≠ some p.m2 ∧ (Value.slice p.pf 0 0).ownBlock ≠ some p.m2 ∧ (Value.slice p.pb 0 0).ownBlock ≠ some p.m2 ∧
    (∀ g, (Value.slice p.ps 0 0).ownBlock = some g → (Value.slice p.pf 0 0).ownBlock ≠ some g ∧ (Value.slice p.pb 0 0).ownBlock ≠ some g) ∧ (∀ g, (Value.slice p.pf 0 0).ownBlock = some g → (Value.slice p.pb 0 0).ownBlock ≠ some g) := by
  obtain ⟨vs, hF, _⟩ := h.rowF
  obtain ⟨_, _, hm1⟩ := mapN_block h.map1
  obtain ⟨_, _, hm2⟩ := mapN_block h.map2
  have hb := h.box
  have hS := fun g (e : (Value.slice p.ps 0 0).ownBlock = some g) => ownsRow_block h.rowS e
  have hB := fun g (e : (Value.slice p.pb 0 0).ownBlock = some g) => ownsRow_block h.rowB e
  have hF := fun g (e : (Value.slice p.pf 0 0).ownBlock = some g) => ownsRow_block hF e
  refine ⟨?_, ?_, ?_, ?_, ?_, ?_, ?_, ?_, ?_, ?_, ?_, ?_, ?_⟩
  · intro e; rw [e, hm1] at hb; cases hb
  · intro e; rw [e, hm2] at hb; cases hb
  · intro e; obtain ⟨_, a, _⟩ := hS _ e; rw [a] at hb; injection hb with hb; injection hb with _ hb; exact absurd hb (by decide)
  · intro e; obtain ⟨_, a, _⟩ := hF _ e; rw [a] at hb; injection hb with hb; injection hb with _ hb; exact absurd hb (by decide)
  · intro e; obtain ⟨_, a, _⟩ := hB _ e; rw [a] at hb; injection hb with hb; injection hb with _ hb; exact absurd hb (by decide)
  · intro e; obtain ⟨_, a, _⟩ := hS _ e; rw [a] at hm1; cases hm1
  · intro e; obtain ⟨_, a, _⟩ := hF _ e; rw [a] at hm1; cases hm1
  · intro e; obtain ⟨_, a, _⟩ := hB _ e; rw [a] at hm1; cases hm1
  · intro e; obtain ⟨_, a, _⟩ := hS _ e; rw [a] at hm2; cases hm2
  · intro e; obtain ⟨_, a, _⟩ := hF _ e; rw [a] at hm2; cases hm2
  · intro e; obtain ⟨_, a, _⟩ := hB _ e; rw [a] at hm2; cases hm2
  · intro g e
    obtain ⟨_, a, _⟩ := hS _ e
    refine ⟨fun e2 => ?_, fun e2 => ?_⟩
    · obtain ⟨_, a2, _⟩ := hF _ e2; rw [a] at a2; injection a2 with a2; injection a2 with _ a2; exact absurd a2 (by decide)
    · obtain ⟨_, a2, _⟩ := hB _ e2; rw [a] at a2; injection a2 with a2; injection a2 with _ a2; exact absurd a2 (by decide)
  · intro g e
    obtain ⟨_, a, _⟩ := hF _ e
    intro e2
    obtain ⟨_, a2, _⟩ := hB _ e2; rw [a] at a2; injection a2 with a2; injection a2 with _ a2; exact absurd a2 (by decide)

theorem DS.enter1 (h : DS w B p n1 n2 sy L b bs bad) {x : List ByteArray} (hm : MapN w' p.m1 x) (hg : w.grownBy w' (some p.m1)) : DS w' B p x n2 sy L b bs bad := by
  obtain ⟨vs, hF, hA⟩ := h.rowF
  obtain ⟨b1, b2, b3, b4, b5, b6, b7, b8, b9, b10, b11, b12, b13⟩ := h.boxes
  have hk : ∀ g, p.mut g → g ≠ p.m1 → w'.heap[g]? = w.heap[g]? := fun g hm hn => hg.block g (h.lt hm).2 (fun e => hn (by injection e))
  exact ⟨(hk _ (Or.inl rfl) b1).trans h.box, hm, mapN_far h.map2 (hk _ (Or.inr (Or.inr (Or.inl rfl))) (Ne.symm h.ne)),
    ownsRow_far h.rowS fun g e => hk g (Or.inr (Or.inr (Or.inr (Or.inl e)))) (fun e2 => b6 (e2 ▸ e)), ownsRow_far h.rowB fun g e => hk g (Or.inr (Or.inr (Or.inr (Or.inr (Or.inr e))))) (fun e2 => b8 (e2 ▸ e)),
    ⟨vs, ownsRow_far hF fun g e => hk g (Or.inr (Or.inr (Or.inr (Or.inr (Or.inl e))))) (fun e2 => b7 (e2 ▸ e)), fun i hi => (hA i hi).keep (fun k a c d => hg.block k c (fun e => d (Or.inr (Or.inl (by injection e))))) hg.size fun g hg => Or.inl hg⟩, h.ne, h.geD, h.ge1, h.ge2⟩

theorem DS.enter2 (h : DS w B p n1 n2 sy L b bs bad) {x : List ByteArray} (hm : MapN w' p.m2 x) (hg : w.grownBy w' (some p.m2)) : DS w' B p n1 x sy L b bs bad := by
  obtain ⟨vs, hF, hA⟩ := h.rowF
  obtain ⟨b1, b2, b3, b4, b5, b6, b7, b8, b9, b10, b11, b12, b13⟩ := h.boxes
  have hk : ∀ g, p.mut g → g ≠ p.m2 → w'.heap[g]? = w.heap[g]? := fun g hm hn => hg.block g (h.lt hm).2 (fun e => hn (by injection e))
  exact ⟨(hk _ (Or.inl rfl) b2).trans h.box, mapN_far h.map1 (hk _ (Or.inr (Or.inl rfl)) h.ne), hm,
    ownsRow_far h.rowS fun g e => hk g (Or.inr (Or.inr (Or.inr (Or.inl e)))) (fun e2 => b9 (e2 ▸ e)), ownsRow_far h.rowB fun g e => hk g (Or.inr (Or.inr (Or.inr (Or.inr (Or.inr e))))) (fun e2 => b11 (e2 ▸ e)),
    ⟨vs, ownsRow_far hF fun g e => hk g (Or.inr (Or.inr (Or.inr (Or.inr (Or.inl e))))) (fun e2 => b10 (e2 ▸ e)), fun i hi => (hA i hi).keep (fun k a c d => hg.block k c (fun e => d (Or.inr (Or.inr (Or.inl (by injection e)))))) hg.size fun g hg => Or.inl hg⟩, h.ne, h.geD, h.ge1, h.ge2⟩

theorem six_cells {W : World} {i : Nat} {u1 u2 u3 u4 u5 u6 : Value} {t : TypeId} (h : W.heap[i]? = some (.cells #[u1, u2, u3, u4, u5, u6] t (0, 0))) :
    W.cell? ⟨i, 0, none⟩ = some u1 ∧ W.cell? ⟨i, 1, none⟩ = some u2 ∧ W.cell? ⟨i, 2, none⟩ = some u3 ∧ W.cell? ⟨i, 3, none⟩ = some u4 ∧ W.cell? ⟨i, 4, none⟩ = some u5 ∧ W.cell? ⟨i, 5, none⟩ = some u6 ∧ ∀ o, o < 6 → W.frozen? ⟨i, o, none⟩ = false := by
  refine ⟨?_, ?_, ?_, ?_, ?_, ?_, fun o ho => ?_⟩ <;> simp [World.cell?, World.frozen?, h]

theorem six_set {W : World} {i o : Nat} {cur : Array Value} {t : TypeId} {v : Value} (h : W.heap[i]? = some (.cells cur t (0, 0))) : (W.setCell ⟨i, o, none⟩ v).heap[i]? = some (.cells (cur.setIfInBounds o v) t (0, 0)) := by
  have hlt := lt_of_block h
  have h' : W.heap[i] = .cells cur t (0, 0) := by simpa [Array.getElem?_eq_getElem hlt] using h
  show (W.heap.modify i _)[i]? = _
  rw [Array.getElem?_eq_getElem (by simpa using hlt), Array.getElem_modify_self, h']
  rfl

/-- the note that a sort was not valid -/
theorem DS.setBad (h : DS w B p n1 n2 sy L b bs bad) (v : Bool) : DS (w.setCell ⟨p.D, 3, none⟩ (.bool v)) B p n1 n2 sy L b bs v := by
  obtain ⟨vs, hF, hA⟩ := h.rowF
  obtain ⟨b1, b2, b3, b4, b5, b6, b7, b8, b9, b10, b11, b12, b13⟩ := h.boxes
  have hk : ∀ g, g ≠ p.D → (w.setCell ⟨p.D, 3, none⟩ (.bool v)).heap[g]? = w.heap[g]? := fun g hn => Below.heap_setCell _ _ _ _ hn
  exact ⟨six_set h.box, mapN_far h.map1 (hk _ (Ne.symm b1)), mapN_far h.map2 (hk _ (Ne.symm b2)),
    ownsRow_far h.rowS fun g e => hk g (fun e2 => b3 (e2 ▸ e)), ownsRow_far h.rowB fun g e => hk g (fun e2 => b5 (e2 ▸ e)),
    ⟨vs, ownsRow_far hF fun g e => hk g (fun e2 => b4 (e2 ▸ e)), fun i hi => (hA i hi).keep (fun k a c d => hk k (fun e => d (Or.inl e))) (by simp [World.setCell]) fun g hg => Or.inl hg⟩, h.ne, h.geD, h.ge1, h.ge2⟩

/-- what an append to a row of the draft's leaves -/
theorem DS.grow (h : DS w B p n1 n2 sy L b bs bad) {q : Option Addr} (hq : ∀ g, (Value.slice q 0 0).ownBlock = some g → p.mut g) {Y : Obj} {n c : Nat} (hgrow : (w.alloc Y).grownBy w' (Value.slice q n c).ownBlock) :
    ∀ k, k < w.heap.size → (Value.slice q 0 0).ownBlock ≠ some k → w'.heap[k]? = w.heap[k]? := fun k hk hn => by
  rw [hgrow.block k (by simp only [World.size_alloc]; omega) (fun e => hn (by rw [own_same q 0 0 n c]; exact e.symm)), Below.heap_alloc _ _ _ hk]

/-- a row's new block is its own old one, or new -/
theorem grow_at {w : World} {q : Option Addr} {n c g : Nat} {Y : Obj} (hat : (Value.slice q n c).ownBlock = some g ∨ g = w.heap.size + 1) : (Value.slice q 0 0).ownBlock = some g ∨ w.heap.size ≤ g := by
  rcases hat with h | h
  · exact Or.inl (by rw [own_same q 0 0 n c]; exact h)
  · exact Or.inr (by omega)

theorem DS.pushS (h : DS w B p n1 n2 sy L b bs bad) {x : ByteArray × Int} {g cp : Nat} {Y : Obj}
    (hown : w'.ownsRow B 64 2 (.slice (some ⟨g, 0, none⟩) (sy.length + 1) cp) (sy.length + 1) (syV sy ++ [.string x.1, .int .i64 x.2]))
    (hgrow : (w.alloc Y).grownBy w' (Value.slice p.ps sy.length p.cs).ownBlock) (hat : (Value.slice p.ps sy.length p.cs).ownBlock = some g ∨ g = w.heap.size + 1) :
    DS (w'.setCell ⟨p.D, 0, none⟩ (.slice (some ⟨g, 0, none⟩) (sy.length + 1) cp)) B { p with ps := some ⟨g, 0, none⟩, cs := cp } n1 n2 (sy ++ [x]) L b bs bad ∧ w'.heap[p.D]? = w.heap[p.D]? := by
  obtain ⟨vs, hF, hA⟩ := h.rowF
  obtain ⟨b1, b2, b3, b4, b5, b6, b7, b8, b9, b10, b11, b12, b13⟩ := h.boxes
  have hk := h.grow (fun g e => Or.inr (Or.inr (Or.inr (Or.inl e)))) hgrow
  have hlt := fun g hg => (h.lt (g := g) hg).2
  have hs : w.heap.size ≤ w'.heap.size := by have := hgrow.size; simp only [World.size_alloc] at this; omega
  have hD : w'.heap[p.D]? = w.heap[p.D]? := hk _ (hlt _ (Or.inl rfl)) b3
  have hg2 := grow_at (Y := Y) hat
  have hgD : g ≠ p.D := by
    rintro rfl
    rcases hg2 with e | e
    · exact b3 e
    · have := hlt _ (Or.inl rfl); omega
  have hk2 : ∀ k, k < w.heap.size → (Value.slice p.ps 0 0).ownBlock ≠ some k → k ≠ p.D → (w'.setCell ⟨p.D, 0, none⟩ (.slice (some ⟨g, 0, none⟩) (sy.length + 1) cp)).heap[k]? = w.heap[k]? := fun k a c d => by
    rw [Below.heap_setCell _ _ _ _ d]; exact hk k a c
  have hne : ∀ k, (Value.slice (some ⟨g, 0, none⟩ : Option Addr) 0 0).ownBlock = some k → k = g := fun k e => by simp [Value.ownBlock] at e; omega
  refine ⟨⟨?_, mapN_far h.map1 (hk2 _ (hlt _ (Or.inr (Or.inl rfl))) b6 (Ne.symm b1)), mapN_far h.map2 (hk2 _ (hlt _ (Or.inr (Or.inr (Or.inl rfl)))) b9 (Ne.symm b2)), ?_, ownsRow_far h.rowB fun k e => hk2 k (hlt _ (Or.inr (Or.inr (Or.inr (Or.inr (Or.inr e)))))) (fun e2 => (b12 k e2).2 e) (fun e2 => b5 (e2 ▸ e)),
    ⟨vs, ownsRow_far hF fun k e => hk2 k (hlt _ (Or.inr (Or.inr (Or.inr (Or.inr (Or.inl e)))))) (fun e2 => (b12 k e2).1 e) (fun e2 => b4 (e2 ▸ e)), fun i hi => (hA i hi).keep (fun k a c d => hk2 k c (fun e => d (Or.inr (Or.inr (Or.inr (Or.inl e))))) (fun e => d (Or.inl e))) (by simpa [World.setCell] using hs) ?_⟩, h.ne, h.geD, h.ge1, h.ge2⟩, hD⟩
  · rw [List.length_append, List.length_singleton]
    exact six_set (hD.trans h.box)
  · rw [List.length_append, List.length_singleton, ← syV_snoc]
    refine ownsRow_far hown fun k e => Below.heap_setCell _ _ _ _ (by rw [hne k e]; exact hgD)
  · rintro k (e | e | e | e | e | e)
    · exact Or.inl (Or.inl e)
    · exact Or.inl (Or.inr (Or.inl e))
    · exact Or.inl (Or.inr (Or.inr (Or.inl e)))
    · rw [hne k e]
      rcases hg2 with e2 | e2
      · exact Or.inl (Or.inr (Or.inr (Or.inr (Or.inl e2))))
      · exact Or.inr e2
    · exact Or.inl (Or.inr (Or.inr (Or.inr (Or.inr (Or.inl e)))))
    · exact Or.inl (Or.inr (Or.inr (Or.inr (Or.inr (Or.inr e)))))

theorem DS.pushB (h : DS w B p n1 n2 sy L b bs bad) {x : List UInt8} {g cp : Nat} {Y : Obj}
    (hown : w'.ownsRow B 9 1 (.slice (some ⟨g, 0, none⟩) (bs.length + 1) cp) (bs.length + 1) (bdV bs ++ [.string ⟨x.toArray⟩]))
    (hgrow : (w.alloc Y).grownBy w' (Value.slice p.pb bs.length p.cb).ownBlock) (hat : (Value.slice p.pb bs.length p.cb).ownBlock = some g ∨ g = w.heap.size + 1) :
    DS (w'.setCell ⟨p.D, 2, none⟩ (.slice (some ⟨g, 0, none⟩) (bs.length + 1) cp)) B { p with pb := some ⟨g, 0, none⟩, cb := cp } n1 n2 sy L b (bs ++ [x]) bad ∧ w'.heap[p.D]? = w.heap[p.D]? := by
  obtain ⟨vs, hF, hA⟩ := h.rowF
  obtain ⟨b1, b2, b3, b4, b5, b6, b7, b8, b9, b10, b11, b12, b13⟩ := h.boxes
  have hk := h.grow (fun g e => Or.inr (Or.inr (Or.inr (Or.inr (Or.inr e))))) hgrow
  have hlt := fun g hg => (h.lt (g := g) hg).2
  have hs : w.heap.size ≤ w'.heap.size := by have := hgrow.size; simp only [World.size_alloc] at this; omega
  have hD : w'.heap[p.D]? = w.heap[p.D]? := hk _ (hlt _ (Or.inl rfl)) b5
  have hg2 := grow_at (Y := Y) hat
  have hgD : g ≠ p.D := by
    rintro rfl
    rcases hg2 with e | e
    · exact b5 e
    · have := hlt _ (Or.inl rfl); omega
  have hk2 : ∀ k, k < w.heap.size → (Value.slice p.pb 0 0).ownBlock ≠ some k → k ≠ p.D → (w'.setCell ⟨p.D, 2, none⟩ (.slice (some ⟨g, 0, none⟩) (bs.length + 1) cp)).heap[k]? = w.heap[k]? := fun k a c d => by
    rw [Below.heap_setCell _ _ _ _ d]; exact hk k a c
  have hne : ∀ k, (Value.slice (some ⟨g, 0, none⟩ : Option Addr) 0 0).ownBlock = some k → k = g := fun k e => by simp [Value.ownBlock] at e; omega
  refine ⟨⟨?_, mapN_far h.map1 (hk2 _ (hlt _ (Or.inr (Or.inl rfl))) b8 (Ne.symm b1)), mapN_far h.map2 (hk2 _ (hlt _ (Or.inr (Or.inr (Or.inl rfl)))) b11 (Ne.symm b2)), ownsRow_far h.rowS fun k e => hk2 k (hlt _ (Or.inr (Or.inr (Or.inr (Or.inl e))))) (fun e2 => (b12 k e).2 e2) (fun e2 => b3 (e2 ▸ e)), ?_,
    ⟨vs, ownsRow_far hF fun k e => hk2 k (hlt _ (Or.inr (Or.inr (Or.inr (Or.inr (Or.inl e)))))) (fun e2 => b13 k e e2) (fun e2 => b4 (e2 ▸ e)), fun i hi => (hA i hi).keep (fun k a c d => hk2 k c (fun e => d (Or.inr (Or.inr (Or.inr (Or.inr (Or.inr e)))))) (fun e => d (Or.inl e))) (by simpa [World.setCell] using hs) ?_⟩, h.ne, h.geD, h.ge1, h.ge2⟩, hD⟩
  · rw [List.length_append, List.length_singleton]
    exact six_set (hD.trans h.box)
  · rw [List.length_append, List.length_singleton, ← bdV_snoc]
    refine ownsRow_far hown fun k e => Below.heap_setCell _ _ _ _ (by rw [hne k e]; exact hgD)
  · rintro k (e | e | e | e | e | e)
    · exact Or.inl (Or.inl e)
    · exact Or.inl (Or.inr (Or.inl e))
    · exact Or.inl (Or.inr (Or.inr (Or.inl e)))
    · exact Or.inl (Or.inr (Or.inr (Or.inr (Or.inl e))))
    · exact Or.inl (Or.inr (Or.inr (Or.inr (Or.inr (Or.inl e)))))
    · rw [hne k e]
      rcases hg2 with e2 | e2
      · exact Or.inl (Or.inr (Or.inr (Or.inr (Or.inr (Or.inr e2)))))
      · exact Or.inr e2

theorem fuSc_old {L : List FL} {x : FL} {b : List (Int × Int × X)} {i : Nat} (hi : i < L.length) : (fuSc (L ++ [x]) b).nm i = (fuSc L b).nm i ∧ (fuSc (L ++ [x]) b).st i = (fuSc L b).st i := by
  refine ⟨?_, ?_⟩ <;> simp [fuSc, List.getElem?_append_left hi]

theorem fuSc_new {L : List FL} {x : FL} {b : List (Int × Int × X)} : (fuSc (L ++ [x]) b).nm L.length = x.nm ∧ (fuSc (L ++ [x]) b).st L.length = x.st := by
  refine ⟨?_, ?_⟩ <;> simp [fuSc]

/-- one more function, whose sort lies in blocks from lo to hi -/
theorem DS.pushF (h : DS w B p n1 n2 sy L [] bs bad) {x : FL} {g cp : Nat} {Y : Obj} {q : Option Addr} {c lo hi : Nat} {vs : List Value} (hO : Own w x.st q c lo hi) (hlo : B ≤ lo) (hhi : hi ≤ w.heap.size) (hcl : ∀ g, p.mut g → g < lo ∨ hi ≤ g)
    (hown : w'.ownsRow B 52 5 (.slice (some ⟨g, 0, none⟩) (L.length + 1) cp) (L.length + 1) (vs ++ [.string x.nm, .slice q x.st.len c, .int .i64 0, .int .i64 0, .slice none 0 0]))
    (hF : w.ownsRow B 52 5 (.slice p.pf L.length p.cf) L.length vs) (hA : ∀ i, i < L.length → FnAt w B p (fuSc L []) i vs)
    (hgrow : (w.alloc Y).grownBy w' (Value.slice p.pf L.length p.cf).ownBlock) (hat : (Value.slice p.pf L.length p.cf).ownBlock = some g ∨ g = w.heap.size + 1) :
    DS (w'.setCell ⟨p.D, 1, none⟩ (.slice (some ⟨g, 0, none⟩) (L.length + 1) cp)) B { p with pf := some ⟨g, 0, none⟩, cf := cp } n1 n2 sy (L ++ [x]) [] bs bad ∧ w'.heap[p.D]? = w.heap[p.D]? := by
  obtain ⟨b1, b2, b3, b4, b5, b6, b7, b8, b9, b10, b11, b12, b13⟩ := h.boxes
  have hk := h.grow (fun g e => Or.inr (Or.inr (Or.inr (Or.inr (Or.inl e))))) hgrow
  have hlt := fun g hg => (h.lt (g := g) hg).2
  have hs : w.heap.size ≤ w'.heap.size := by have := hgrow.size; simp only [World.size_alloc] at this; omega
  have hD : w'.heap[p.D]? = w.heap[p.D]? := hk _ (hlt _ (Or.inl rfl)) b4
  have hg2 := grow_at (Y := Y) hat
  have hgD : g ≠ p.D := by
    rintro rfl
    rcases hg2 with e | e
    · exact b4 e
    · have := hlt _ (Or.inl rfl); omega
  have hk2 : ∀ k, k < w.heap.size → (Value.slice p.pf 0 0).ownBlock ≠ some k → k ≠ p.D → (w'.setCell ⟨p.D, 1, none⟩ (.slice (some ⟨g, 0, none⟩) (L.length + 1) cp)).heap[k]? = w.heap[k]? := fun k a c d => by
    rw [Below.heap_setCell _ _ _ _ d]; exact hk k a c
  have hne : ∀ k, (Value.slice (some ⟨g, 0, none⟩ : Option Addr) 0 0).ownBlock = some k → k = g := fun k e => by simp [Value.ownBlock] at e; omega
  have hmut : ∀ k, ({ p with pf := some ⟨g, 0, none⟩, cf := cp } : Pos).mut k → p.mut k ∨ w.heap.size ≤ k := by
    rintro k (e | e | e | e | e | e)
    · exact Or.inl (Or.inl e)
    · exact Or.inl (Or.inr (Or.inl e))
    · exact Or.inl (Or.inr (Or.inr (Or.inl e)))
    · exact Or.inl (Or.inr (Or.inr (Or.inr (Or.inl e))))
    · rw [hne k e]
      rcases hg2 with e2 | e2
      · exact Or.inl (Or.inr (Or.inr (Or.inr (Or.inr (Or.inl e2)))))
      · exact Or.inr e2
    · exact Or.inl (Or.inr (Or.inr (Or.inr (Or.inr (Or.inr e)))))
  have hvl : vs.length = L.length * 5 := hF.1
  refine ⟨⟨?_, mapN_far h.map1 (hk2 _ (hlt _ (Or.inr (Or.inl rfl))) b7 (Ne.symm b1)), mapN_far h.map2 (hk2 _ (hlt _ (Or.inr (Or.inr (Or.inl rfl)))) b10 (Ne.symm b2)), ownsRow_far h.rowS fun k e => hk2 k (hlt _ (Or.inr (Or.inr (Or.inr (Or.inl e))))) (fun e2 => (b12 k e).1 e2) (fun e2 => b3 (e2 ▸ e)), ownsRow_far h.rowB fun k e => hk2 k (hlt _ (Or.inr (Or.inr (Or.inr (Or.inr (Or.inr e)))))) (fun e2 => b13 k e2 e) (fun e2 => b5 (e2 ▸ e)),
    ⟨vs ++ [.string x.nm, .slice q x.st.len c, .int .i64 0, .int .i64 0, .slice none 0 0], ?_, ?_⟩, h.ne, h.geD, h.ge1, h.ge2⟩, hD⟩
  · rw [List.length_append, List.length_singleton]
    exact six_set (hD.trans h.box)
  · rw [List.length_append, List.length_singleton]
    exact ownsRow_far hown fun k e => Below.heap_setCell _ _ _ _ (by rw [hne k e]; exact hgD)
  · intro i hil0
    rw [List.length_append, List.length_singleton] at hil0
    have hs2 : w.heap.size ≤ (w'.setCell ⟨p.D, 1, none⟩ (.slice (some ⟨g, 0, none⟩) (L.length + 1) cp)).heap.size := by simpa [World.setCell] using hs
    by_cases hil : i < L.length
    · obtain ⟨q', c', lo', hi', r', d', lo2, hi2, h1, h2, h3, h4, h5, h6⟩ := (hA i hil).keep (p' := { p with pf := some ⟨g, 0, none⟩, cf := cp }) (fun k a c d => hk2 k c (fun e => d (Or.inr (Or.inr (Or.inr (Or.inr (Or.inl e)))))) (fun e => d (Or.inl e))) hs2 hmut
      obtain ⟨e1, e2⟩ := fuSc_old (x := x) (b := []) hil
      refine ⟨q', c', lo', hi', r', d', lo2, hi2, ?_, ?_, ?_, ?_, ?_, ?_⟩
      · rw [List.getElem?_append_left (by omega), e1]; exact h1
      · rw [List.getElem?_append_left (by omega), e2]; exact h2
      · rw [List.getElem?_append_left (by omega)]; exact h3
      · rw [List.getElem?_append_left (by omega)]; exact h4
      · rw [List.getElem?_append_left (by omega)]; exact h5
      · rw [e2]; exact h6
    · obtain rfl : i = L.length := by omega
      obtain ⟨e1, e2⟩ := fuSc_new (x := x) (b := []) (L := L)
      refine ⟨q, c, lo, hi, none, 0, B, B, ?_, ?_, ?_, ?_, ?_, ?_, ownX_nil _ _ _, hlo, by omega, Nat.le_refl _, by have := (h.lt (Or.inl rfl)).1; have := (h.lt (Or.inl rfl)).2; omega, ?_⟩
      · rw [List.getElem?_append_right (by omega), hvl, Nat.sub_self, e1]; rfl
      · rw [List.getElem?_append_right (by omega), hvl, show L.length * 5 + 1 - L.length * 5 = 1 by omega, e2]; rfl
      · rw [List.getElem?_append_right (by omega), hvl, show L.length * 5 + 2 - L.length * 5 = 2 by omega]; rfl
      · rw [List.getElem?_append_right (by omega), hvl, show L.length * 5 + 3 - L.length * 5 = 3 by omega]; rfl
      · rw [List.getElem?_append_right (by omega), hvl, show L.length * 5 + 4 - L.length * 5 = 4 by omega]; rfl
      · rw [e2]
        exact hO.keep fun k a c' => hk2 k (by omega) (fun e => by have := hcl k (Or.inr (Or.inr (Or.inr (Or.inr (Or.inl e))))); omega) (fun e => by have := hcl k (Or.inl e); omega)
      · intro k hk3
        rcases hmut k hk3 with e | e
        · exact ⟨hcl k e, by have := (h.lt e).1; omega⟩
        · exact ⟨Or.inr (by omega), by have := (h.lt (Or.inl rfl)).1; have := (h.lt (Or.inl rfl)).2; omega⟩

end

end Go.Proofs.YtjkcopgfcafpeaaGreatDoor

