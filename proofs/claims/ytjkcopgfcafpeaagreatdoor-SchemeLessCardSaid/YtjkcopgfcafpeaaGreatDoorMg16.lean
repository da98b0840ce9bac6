/-
  Parts of one proof, laid into one text: LawA, LawB, LawC, LawD, WalkP, WalkQ, WalkR, WalkS. Conditions: each part names its own.
-/
import Derived.Test.YtjkcopgfcafpeaaGreatDoorMg14
import Derived.Deep.RegionHeld3
import Derived.Test.YtjkcopgfcafpeaaGreatDoorMg01

/-
  The walks of the statements on Check, Same, Order and Put. Conditions: none but that the sorts lie in memory.
-/
namespace Go.Proofs.YtjkcopgfcafpeaaGreatDoor
open Go.RowKit

/-- in a later world: a box of the call's own -/
theorem box_later {W w1 : World} {b : Nat} {v : Value} (hb : Below W.heap.size W w1) (h : W.cell? ⟨b, 0, none⟩ = some v) : w1.cell? ⟨b, 0, none⟩ = some v := by
  rw [(bcell hb).1 _ _ (lt_of_cell h)]; exact h

theorem held_next {w W W' : World} {b : Nat} {v : Value} {t : T} {p : Option Addr} {n cap : Nat} (h : W.cell? ⟨b, 0, none⟩ = some v ∧ IsT W t p n cap ∧ Below w.heap.size w W) (hb : Below W.heap.size W W') :
    W'.cell? ⟨b, 0, none⟩ = some v ∧ IsT W' t p n cap ∧ Below w.heap.size w W' := ⟨box_later hb h.1, h.2.1.below hb, h.2.2.trans (hb.mono h.2.2.size)⟩

theorem held_below {w W : World} {b : Nat} {v : Value} {t : T} {p : Option Addr} {n cap : Nat} (h : W.cell? ⟨b, 0, none⟩ = some v ∧ IsT W t p n cap ∧ Below w.heap.size w W) : Below w.heap.size w W := h.2.2

theorem held_is {w W : World} {b : Nat} {v : Value} {t : T} {p : Option Addr} {n cap : Nat} (h : W.cell? ⟨b, 0, none⟩ = some v ∧ IsT W t p n cap ∧ Below w.heap.size w W) : IsT W t p n cap := h.2.1

theorem held2_next {w W W' : World} {b b' : Nat} {v v' : Value} {s t : T} {p q : Option Addr} {n cap m cap' : Nat} (h : W.cell? ⟨b, 0, none⟩ = some v ∧ W.cell? ⟨b', 0, none⟩ = some v' ∧ IsT W s p n cap ∧ IsT W t q m cap' ∧ Below w.heap.size w W) (hb : Below W.heap.size W W') :
    W'.cell? ⟨b, 0, none⟩ = some v ∧ W'.cell? ⟨b', 0, none⟩ = some v' ∧ IsT W' s p n cap ∧ IsT W' t q m cap' ∧ Below w.heap.size w W' :=
  ⟨box_later hb h.1, box_later hb h.2.1, h.2.2.1.below hb, h.2.2.2.1.below hb, h.2.2.2.2.trans (hb.mono h.2.2.2.2.size)⟩
theorem held2_s {w W : World} {b b' : Nat} {v v' : Value} {s t : T} {p q : Option Addr} {n cap m cap' : Nat} (h : W.cell? ⟨b, 0, none⟩ = some v ∧ W.cell? ⟨b', 0, none⟩ = some v' ∧ IsT W s p n cap ∧ IsT W t q m cap' ∧ Below w.heap.size w W) : IsT W s p n cap := h.2.2.1
theorem held2_t {w W : World} {b b' : Nat} {v v' : Value} {s t : T} {p q : Option Addr} {n cap m cap' : Nat} (h : W.cell? ⟨b, 0, none⟩ = some v ∧ W.cell? ⟨b', 0, none⟩ = some v' ∧ IsT W s p n cap ∧ IsT W t q m cap' ∧ Below w.heap.size w W) : IsT W t q m cap' := h.2.2.2.1
theorem held2_below {w W : World} {b b' : Nat} {v v' : Value} {s t : T} {p q : Option Addr} {n cap m cap' : Nat} (h : W.cell? ⟨b, 0, none⟩ = some v ∧ W.cell? ⟨b', 0, none⟩ = some v' ∧ IsT W s p n cap ∧ IsT W t q m cap' ∧ Below w.heap.size w W) : Below w.heap.size w W := h.2.2.2.2

end Go.Proofs.YtjkcopgfcafpeaaGreatDoor

/-
  The walk of the statement on the orders behind arguments. Conditions: none but that the sort lies in memory.
-/
namespace Go.Proofs.YtjkcopgfcafpeaaGreatDoor
open Go.RowKit

theorem T.valid_drop (t : T) (k : Nat) (h : t.valid = true) : (t.drop k).valid = true := by
  simp only [T.valid, T.few, Bool.and_eq_true, decide_eq_true_eq] at h ⊢
  obtain ⟨⟨h1, h2⟩, h3, h4⟩ := h
  have := t.nodes_drop_le k
  have := t.ord_drop_le k
  have := t.len_drop k
  exact ⟨⟨by omega, by omega⟩, by omega, t.kids_drop_of k h4⟩

theorem T.bE_zero {t : T} {k : Int} (h : t.bE k = 0) : t.valid = true ∧ 0 ≤ k ∧ k ≤ t.len := by
  unfold T.bE at h
  split at h
  · rename_i hv
    split at h
    · rename_i hk; exact ⟨hv, hk⟩
    · cases h
  · cases h

theorem orderF_yes (t : T) (w : World) (p : Option Addr) (n cap : Nat) (his : IsT w t p n cap) (hv : t.valid = true) :
    Calls Tryz.prog 44 #[.agg #[.slice p n cap]] w fun e w' => e = .returned (.tuple #[.int .i64 (t.ord : Int), .int .i64 0]) ∧ Below w.heap.size w w' := by
  have := orderF_any t w p n cap his
  rwa [show t.oN = t.ord by simp [T.oN, hv], show t.oE = 0 by simp [T.oE, hv]] at this

end Go.Proofs.YtjkcopgfcafpeaaGreatDoor

/-
  The walk of the statement on Behind. Conditions: none but that the sort lies in memory.
-/
namespace Go.Proofs.YtjkcopgfcafpeaaGreatDoor
open Go.RowKit

theorem is_bool (t : T) (b : Bool) (hv : t.valid = b) (w : World) (p : Option Addr) (n cap : Nat) (his : IsT w t p n cap) :
    Calls Tryz.prog 37 #[.agg #[.slice p n cap]] w fun e w' => e = .returned (.bool b) ∧ Below w.heap.size w w' := by
  have := is_any t w p n cap his
  rwa [hv] at this

theorem T.bT_nodes (t : T) (k : Int) : (t.bT k).nodes ≤ 60 := by
  unfold T.bT
  split
  · rename_i h
    have := t.valid_nodes h.1
    have := t.nodes_drop_le k.toNat
    omega
  · simp [T.nodes]

end Go.Proofs.YtjkcopgfcafpeaaGreatDoor

/-
  The walk of the statement on what is modified: turn changes the rows of a fresh sort alone. Conditions: none but that the sort lies in memory.
-/
set_option linter.unusedSimpArgs false
set_option linter.unusedVariables false
namespace Go.Proofs.YtjkcopgfcafpeaaGreatDoor
open Go.RowKit

/-- block b, blocks from lo to hi and new blocks alone have turned -/
structure Ch (w w' : World) (b lo hi : Nat) : Prop where
  os : w'.os = w.os
  tape : w'.tape = w.tape
  output : w'.output = w.output
  size : w.heap.size ≤ w'.heap.size
  block : ∀ j, j < w.heap.size → j ≠ b → ¬ (lo ≤ j ∧ j < hi) → w'.heap[j]? = w.heap[j]?

theorem Ch.refl (w : World) (b lo hi : Nat) : Ch w w b lo hi := ⟨rfl, rfl, rfl, Nat.le_refl _, fun _ _ _ _ => rfl⟩

theorem Ch.trans {a w w' : World} {b lo hi : Nat} (h : Ch a w b lo hi) (k : Ch w w' b lo hi) : Ch a w' b lo hi :=
  ⟨k.os.trans h.os, k.tape.trans h.tape, k.output.trans h.output, Nat.le_trans h.size k.size, fun j h1 h2 h3 => (k.block j (Nat.lt_of_lt_of_le h1 h.size) h2 h3).trans (h.block j h1 h2 h3)⟩

theorem Ch.mono {w w' : World} {b b' lo hi l m : Nat} (h : Ch w w' b' l m) (hb : b' = b ∨ (lo ≤ b' ∧ b' < hi)) (h1 : lo ≤ l) (h2 : m ≤ hi) : Ch w w' b lo hi :=
  ⟨h.os, h.tape, h.output, h.size, fun j a c d => h.block j a (by rintro rfl; rcases hb with rfl | hb; exact c rfl; exact d hb) (fun e => d ⟨by omega, by omega⟩)⟩

theorem Ch.set {w : World} (b o : Nat) (u : Value) (lo hi : Nat) : Ch w (w.setCell ⟨b, o, none⟩ u) b lo hi :=
  ⟨rfl, rfl, rfl, by simp [World.setCell], fun j _ h _ => Below.heap_setCell w _ _ j h⟩

theorem Ch.new (w : World) (x : Obj) (b lo hi : Nat) : Ch w (w.alloc x) b lo hi := ⟨rfl, rfl, rfl, by simp, fun j h _ _ => Below.heap_alloc w x j h⟩

theorem Ch.below {w w' : World} {b lo hi B : Nat} (h : Ch w w' b lo hi) (hw : B ≤ w.heap.size) (hb : B ≤ b) (hl : B ≤ lo) : Below B w w' :=
  ⟨h.os, h.tape, h.output, h.size, fun k hk => h.block k (by omega) (by omega) (by omega)⟩

/-- the cells of a row from the k-th on -/
def RowFrom (w : World) (b k : Nat) (us : List Value) : Prop := ∀ i v, k ≤ i → us[i]? = some v → w.cell? ⟨b, i, none⟩ = some v ∧ w.frozen? ⟨b, i, none⟩ = false

theorem RowFrom.keep {w w' : World} {b k : Nat} {us : List Value} (hk : w'.heap[b]? = w.heap[b]?) (h : RowFrom w b k us) : RowFrom w' b k us :=
  fun i v hi hu => ⟨by rw [World.cell?_of_block (w := w) hk]; exact (h i v hi hu).1, by rw [World.frozen?_of_block (w := w) hk]; exact (h i v hi hu).2⟩

theorem RowFrom.next {w : World} {b k : Nat} {us : List Value} (h : RowFrom w b k us) (u : Value) : RowFrom (w.setCell ⟨b, k, none⟩ u) b (k + 1) us := by
  intro i v hi hu
  obtain ⟨h1, h2⟩ := h i v (by omega) hu
  refine ⟨?_, ?_⟩
  · rw [← h1]
    unfold World.cell? World.setCell
    simp only [Array.getElem?_modify]
    cases hh : w.heap[b]? with
    | none => simp [hh]
    | some o => cases o <;> simp [hh, Array.getElem?_modify, show ¬ k = i by omega]
  · rw [← h2]
    unfold World.frozen? World.setCell
    simp only [Array.getElem?_modify]
    cases hh : w.heap[b]? with
    | none => simp [hh]
    | some o => cases o <;> simp [hh]

theorem RowFrom.alloc {w : World} {b k : Nat} {us : List Value} (hb : b < w.heap.size) (h : RowFrom w b k us) (x : Obj) : RowFrom (w.alloc x) b k us := h.keep (Below.heap_alloc _ _ _ hb)

theorem getElem?_drop_head {us : List Value} {k : Nat} {v : Value} {rest : List Value} (h : us.drop k = v :: rest) : us[k]? = some v ∧ us.drop (k + 1) = rest := by
  constructor
  · have : (us.drop k)[0]? = some v := by rw [h]; rfl
    simpa using this
  · have h2 : (us.drop k).drop 1 = rest := by rw [h]; rfl
    simpa [Nat.add_comm] using h2

end Go.Proofs.YtjkcopgfcafpeaaGreatDoor

/-
  The walks of the reader's methods Skip and Need, and Fail. Conditions: none but that the reader lies in memory.
-/
set_option linter.unusedSimpArgs false
set_option linter.unusedVariables false
namespace Go.Proofs.YtjkcopgfcafpeaaGreatDoor
open Go.Shelf Go.RowKit

def lays103_ren : Go.Shelf.Ren := ⟨fun | 103 => 122 | 210 => 142 | 206 => 154 | n => n, fun | 9 => 9 | 4 => 4 | 24 => 141 | 3 => 3 | n => n, fun | n => n⟩
theorem lays103 : Go.Proofs.Lays.n103 Tryz.prog lays103_ren := {
  mixed := by kernel_rfl
  f103 := Tryz.func122.trans (congrArg some (by kernel_rfl))
  f206 := Tryz.func154.trans (congrArg some (by kernel_rfl))
  f210 := Tryz.func142.trans (congrArg some (by kernel_rfl))
  t3 := Tryz.underlying3
  a3 := Tryz.isAgg3
  z3 := Tryz.sizeOf3
  v3 := Tryz.zeroValue3
  t4 := Tryz.underlying4
  a4 := Tryz.isAgg4
  z4 := Tryz.sizeOf4
  v4 := Tryz.zeroValue4
  t9 := Tryz.underlying9
  a9 := Tryz.isAgg9
  z9 := Tryz.sizeOf9
  v9 := Tryz.zeroValue9
  t24 := Tryz.underlying141
  a24 := Tryz.isAgg141
  z24 := Tryz.sizeOf141
  v24 := Tryz.zeroValue141 }

theorem cut_yes (x : ByteArray) (s p : List UInt8) (hx : x.data.toList = p) (w : World) (h : pre p s = true) :
    Calls Tryz.prog 122 #[.string ⟨s.toArray⟩, .string x] w fun e w' => e = .returned (.tuple #[.string ⟨(s.drop p.length).toArray⟩, .bool true]) ∧ w = w' := by
  refine (Any.strings_CutPrefix lays103 ⟨s.toArray⟩ x w).mono fun e w' ⟨h1, h2⟩ => ⟨?_, h2.symm⟩
  subst hx
  have e1 : Lib.hasPrefix s x.data.toList = true := h
  rw [h1]
  simp only [Lib.trimPrefix, e1, if_true]

theorem cut_no (x : ByteArray) (s p : List UInt8) (hx : x.data.toList = p) (w : World) (h : pre p s = false) :
    Calls Tryz.prog 122 #[.string ⟨s.toArray⟩, .string x] w fun e w' => e = .returned (.tuple #[.string ⟨s.toArray⟩, .bool false]) ∧ w = w' := by
  refine (Any.strings_CutPrefix lays103 ⟨s.toArray⟩ x w).mono fun e w' ⟨h1, h2⟩ => ⟨?_, h2.symm⟩
  subst hx
  have e1 : Lib.hasPrefix s x.data.toList = false := h
  rw [h1]
  simp only [Lib.trimPrefix, e1, if_neg Bool.false_ne_true]

/-- a reader in a block of its own, with this rest -/
def Rd (w : World) (b : Nat) (s : List UInt8) : Prop := w.heap[b]? = some (.cells #[.string ⟨s.toArray⟩] 123 (0, 0))

set_option maxHeartbeats 400000 in
theorem skip_yes (b : Nat) (x : ByteArray) (s p : List UInt8) (hx : x.data.toList = p) (w : World) (hr : Rd w b s) (h : pre p s = true) :
    Calls Tryz.prog 97 #[.pointer (some ⟨b, 0, none⟩), .string x] w fun e w' => e = .returned (.bool true) ∧ w.setCell ⟨b, 0, none⟩ (.string ⟨(s.drop p.length).toArray⟩) = w' := by
  have c1 := cell_of_one hr
  have c2 := free_of_one hr
  have hc := Lib.hid fun w => cut_yes x s p hx w h
  clear h hx hr
  go_enter Tryz.func97, Tryz.ntmps97
  go_wp2_with fail
  refine (hc.out _).mono ?_
  rintro e w1 ⟨rfl, rfl⟩
  go_wp2_with fail
  go_ret
  exact ⟨rfl, rfl⟩

set_option maxHeartbeats 400000 in
theorem skip_no (b : Nat) (x : ByteArray) (s p : List UInt8) (hx : x.data.toList = p) (w : World) (hr : Rd w b s) (h : pre p s = false) :
    Calls Tryz.prog 97 #[.pointer (some ⟨b, 0, none⟩), .string x] w fun e w' => e = .returned (.bool false) ∧ w.setCell ⟨b, 0, none⟩ (.string ⟨s.toArray⟩) = w' := by
  have c1 := cell_of_one hr
  have c2 := free_of_one hr
  have hc := Lib.hid fun w => cut_no x s p hx w h
  clear h hx hr
  go_enter Tryz.func97, Tryz.ntmps97
  go_wp2_with fail
  refine (hc.out _).mono ?_
  rintro e w1 ⟨rfl, rfl⟩
  go_wp2_with fail
  go_ret
  exact ⟨rfl, rfl⟩

set_option maxHeartbeats 400000 in
theorem fail_any (w : World) :
    Calls Tryz.prog 96 #[] w fun e w' => e = .panicked [{ v := .iface 26 (.int .i64 4), recovered := false }] ∧ w = w' := by
  go_enter Tryz.func96, Tryz.ntmps96
  go_wp2_with fail
  exact ⟨rfl, rfl, rfl⟩

set_option maxHeartbeats 400000 in
theorem need_yes (b : Nat) (x : ByteArray) (s p : List UInt8) (hx : x.data.toList = p) (w : World) (hr : Rd w b s) (h : pre p s = true) :
    Calls Tryz.prog 99 #[.pointer (some ⟨b, 0, none⟩), .string x] w fun e w' => e = .returned (.tuple #[]) ∧ w.setCell ⟨b, 0, none⟩ (.string ⟨(s.drop p.length).toArray⟩) = w' := by
  have hc := Lib.hid fun w hr => skip_yes b x s p hx w hr h
  clear h hx
  go_enter Tryz.func99, Tryz.ntmps99
  go_wp2_with fail
  refine (hc.out _ hr).mono ?_
  rintro e w1 ⟨rfl, rfl⟩
  go_wp2_with fail
  go_end0
  exact ⟨rfl, rfl⟩

set_option maxHeartbeats 400000 in
theorem need_no (b : Nat) (x : ByteArray) (s p : List UInt8) (hx : x.data.toList = p) (w : World) (hr : Rd w b s) (h : pre p s = false) :
    Calls Tryz.prog 99 #[.pointer (some ⟨b, 0, none⟩), .string x] w fun e w' => e = .panicked [{ v := .iface 26 (.int .i64 4), recovered := false }] ∧ w.setCell ⟨b, 0, none⟩ (.string ⟨s.toArray⟩) = w' := by
  have hc := Lib.hid fun w hr => skip_no b x s p hx w hr h
  clear h hx
  go_enter Tryz.func99, Tryz.ntmps99
  go_wp2_with fail
  refine (hc.out _ hr).mono ?_
  rintro e w1 ⟨rfl, rfl⟩
  go_wp2_with fail
  refine (fail_any _).mono ?_
  rintro e w1 ⟨rfl, rfl⟩
  go_wp2_with fail
  exact ⟨rfl, rfl, rfl⟩

namespace T
def app : T → T → T
  | nil, t => t
  | cons h a, t => cons h (a.app t)

theorem app_nil (a : T) : a.app nil = a := by
  induction a with
  | nil => rfl
  | cons h a _ ih => simp [app, ih]

theorem app_snoc (a h t : T) : (a.snoc h).app t = a.app (cons h t) := by
  induction a with
  | nil => rfl
  | cons x a _ ih => simp [app, snoc, ih]

theorem len_snoc (a h : T) : (a.snoc h).len = a.len + 1 := by
  induction a with
  | nil => rfl
  | cons x a _ ih => simp [snoc, len, ih]

theorem take_snoc_self (a h : T) : (a.snoc h).take a.len = a := by
  induction a with
  | nil => exact take_zero _
  | cons x a _ ih => show cons x ((a.snoc h).take a.len) = _; rw [ih]

theorem get_snoc_self (a h : T) : (a.snoc h).get a.len = h := by
  induction a with
  | nil => rfl
  | cons x a _ ih => exact ih
end T

/-- where the loop of sort stands: what it has collected, what is left to read -/
structure St (w wr : World) (b : Nat) (acc : T) (q : Option Addr) (c : Nat) (xs : List Value) (r : List UInt8) : Prop where
  rest : Rd wr b r
  own : wr.ownsRow (w.heap.size + 2) 47 1 (.slice q acc.len c) acc.len xs
  kids : Kids wr acc xs (Value.slice q acc.len c).ownBlock (w.heap.size + 2) wr.heap.size
  out : wr.heap[w.heap.size + 1]? = some (.cells #[.slice q acc.len c] 47 (0, 0))
  res : wr.heap[w.heap.size]? = some (.cells #[.slice none 0 0] 47 (0, 0))
  grown : w.grownBy wr (some b)
  lt : b < w.heap.size

theorem ownsRow_grown {w w' : World} {B b : Nat} {ty : TypeId} {v : Value} {n : Nat} {xs : List Value} (h : w.ownsRow B ty 1 v n xs) (hb : b < B) (hg : w.grownBy w' (some b)) : w'.ownsRow B ty 1 v n xs := by
  refine h.kept hg ?_
  cases hv : v.ownBlock with
  | none => exact Or.inl rfl
  | some g =>
    right
    intro e
    have := (h.lt g hv).1
    injection e with e
    omega

theorem grown_set {w wr : World} {b : Nat} (h : w.grownBy wr (some b)) (u : Value) : w.grownBy (wr.setCell ⟨b, 0, none⟩ u) (some b) :=
  ⟨h.os, h.tape, h.output, by simpa [World.setCell] using h.size, fun i hi hn => (Below.heap_setCell wr _ _ i (by rintro rfl; exact hn rfl)).trans (h.block i hi hn)⟩

theorem grown_tr {a w c : World} {b : Nat} (h : a.grownBy w (some b)) (k : w.grownBy c (some b)) : a.grownBy c (some b) :=
  ⟨k.os.trans h.os, k.tape.trans h.tape, k.output.trans h.output, Nat.le_trans h.size k.size, fun i hi hn => (k.block i (Nat.lt_of_lt_of_le hi h.size) hn).trans (h.block i hi hn)⟩

theorem rd_set {w : World} {b : Nat} {s : List UInt8} (h : Rd w b s) (r : List UInt8) : Rd (w.setCell ⟨b, 0, none⟩ (.string ⟨r.toArray⟩)) b r := one_setCell h

/-- a step that turns the reader's block, and makes new ones -/
theorem St.step {w wr w1 : World} {b : Nat} {acc : T} {q : Option Addr} {c : Nat} {xs : List Value} {r r1 : List UInt8} (h : St w wr b acc q c xs r) (hg : wr.grownBy w1 (some b)) (hr : Rd w1 b r1) : St w w1 b acc q c xs r1 := by
  have hl := h.lt
  have h1 := lt_of_block h.out
  have h2 := lt_of_block h.res
  refine ⟨hr, ownsRow_grown h.own (by omega) hg, ?_, ?_, ?_, grown_tr h.grown hg, h.lt⟩
  · exact (h.kids.keep fun j hj hj2 _ => hg.block j hj2 (fun e => by injection e; omega)).mono (Nat.le_refl _) hg.size
  · rw [hg.block _ h1 (fun e => by injection e; omega)]; exact h.out
  · rw [hg.block _ h2 (fun e => by injection e; omega)]; exact h.res

theorem St.skip {w wr : World} {b : Nat} {acc : T} {q : Option Addr} {c : Nat} {xs : List Value} {r : List UInt8} (h : St w wr b acc q c xs r) (r1 : List UInt8) : St w (wr.setCell ⟨b, 0, none⟩ (.string ⟨r1.toArray⟩)) b acc q c xs r1 :=
  h.step (grown_set ⟨rfl, rfl, rfl, Nat.le_refl _, fun _ _ _ => rfl⟩ _) (rd_set h.rest r1)

theorem St.alloc {w wr : World} {b : Nat} {acc : T} {q : Option Addr} {c : Nat} {xs : List Value} {r : List UInt8} (h : St w wr b acc q c xs r) (x : Obj) : St w (wr.alloc x) b acc q c xs r :=
  h.step ⟨rfl, rfl, rfl, by simp, fun i hi _ => Below.heap_alloc wr x i hi⟩ (alloc_kept h.rest x)

/-- one more is collected -/
theorem St.push {w W W2 w3 : World} {b : Nat} {acc h : T} {q q1 : Option Addr} {c c1 g cp m : Nat} {xs : List Value} {r r2 : List UInt8} {Y : Obj} (S : St w W b acc q c xs r) (G : W.grownBy W2 (some b)) (R : Rd W2 b r2)
    (O : Own W2 h q1 c1 W.heap.size m) (hm1 : W.heap.size ≤ m) (hm : m ≤ W2.heap.size)
    (hown : w3.ownsRow (w.heap.size + 2) 47 1 (.slice (some ⟨g, 0, none⟩) (acc.len + 1) cp) (acc.len + 1) (xs ++ [.slice q1 h.len c1]))
    (hgrow : (W2.alloc Y).grownBy w3 (Value.slice q acc.len c).ownBlock) (hat : (Value.slice q acc.len c).ownBlock = some g ∨ g = W2.heap.size + 1) :
    St w (w3.setCell ⟨w.heap.size + 1, 0, none⟩ (.slice (some ⟨g, 0, none⟩) (acc.len + 1) cp)) b (acc.snoc h) (some ⟨g, 0, none⟩) cp (xs ++ [.slice q1 h.len c1]) r2 := by
  have hl := S.lt
  have S2 := S.step G R
  have hlt := S.own.lt
  have hlt2 := S2.own.lt
  have hk : acc.len < (acc.snoc h).len := by rw [T.len_snoc]; omega
  have hblk : ∀ j, j < W2.heap.size → (Value.slice q acc.len c).ownBlock ≠ some j → w3.heap[j]? = W2.heap[j]? := fun j hj hn => by
    rw [hgrow.block j (by simp only [World.size_alloc]; omega) (fun e => hn e.symm), Below.heap_alloc _ _ _ hj]
  have low : ∀ j, j < w.heap.size + 2 → (Value.slice q acc.len c).ownBlock ≠ some j := fun j hj e => by have := (hlt j e).1; omega
  have o1 := lt_of_block S2.out
  have got := Got.step (w := W2.alloc Y) (w1 := w3) (ty := 47) (t := acc.snoc h) (k := acc.len) (B := w.heap.size + 2) (v := .slice q acc.len c) (q := q1) (c := c1) (lo := W.heap.size) (hi := m) (g := g) (cap := cp) (xs := xs) hk
    (by rw [T.take_snoc_self]; exact S.kids.keep fun j hj hj2 _ => by rw [Below.heap_alloc _ _ _ (by have := G.size; omega)]; exact G.block j hj2 (fun e => by injection e; omega))
    hm1 (by simp only [World.size_alloc]; omega) (fun j hj => (hlt j hj).2) (by rw [T.get_snoc_self]; exact O.keep fun j _ hj => Below.heap_alloc _ _ _ (by omega))
    (by rw [T.get_snoc_self]; exact hown) hgrow (by simpa using hat)
  have got2 := got.set (a := ⟨w.heap.size + 1, 0, none⟩) (show w.heap.size + 1 < w.heap.size + 2 by omega) (.slice (some ⟨g, 0, none⟩) (acc.len + 1) cp)
  have hrd : Rd w3 b r2 := by unfold Rd; rw [hblk b (by have := G.size; have := S.grown.size; omega) (low b (by omega))]; exact R
  have hout : w3.heap[w.heap.size + 1]? = some (.cells #[.slice q acc.len c] 47 (0, 0)) := by rw [hblk _ o1 (low _ (by omega))]; exact S2.out
  have hres : w3.heap[w.heap.size]? = some (.cells #[.slice none 0 0] 47 (0, 0)) := by rw [hblk _ (lt_of_block S2.res) (low _ (by omega))]; exact S2.res
  have hx : (xs ++ [Value.slice q1 h.len c1]).length = acc.len + 1 := by simpa using hown.1
  refine ⟨?_, ?_, ?_, ?_, ?_, ?_, hl⟩
  · unfold Rd; rw [Below.heap_setCell _ _ _ _ (show b ≠ w.heap.size + 1 by omega)]; exact hrd
  · rw [T.len_snoc]; exact ownsRow_setCell_below hown (show w.heap.size + 1 < w.heap.size + 2 by omega) _
  · obtain ⟨xs', h1, h2⟩ := got
    rw [← T.len_snoc acc h, T.take_all _ _ (Nat.le_refl _) (Nat.lt_irrefl _)] at h2
    have e : xs' = xs ++ [Value.slice q1 h.len c1] := by
      rcases h1.2 with ⟨e1, _⟩ | ⟨g1, cap1, cur1, e1, _, hg1, _, _, _, ht1⟩
      · cases e1
      · rcases hown.2 with ⟨e2, _⟩ | ⟨g2, cap2, cur2, e2, _, hg2, _, _, _, ht2⟩
        · cases e2
        · have eg : g1 = g2 := by rw [e1] at e2; injection e2 with e2; injection e2 with e2; injection e2
          subst eg
          rw [hg1] at hg2
          injection hg2 with hg2
          injection hg2 with hg2
          subst hg2
          rw [← ht1, ← ht2]
    rw [T.len_snoc]
    have hs : (w3.setCell ⟨w.heap.size + 1, 0, none⟩ (.slice (some ⟨g, 0, none⟩) (acc.len + 1) cp)).heap.size = w3.heap.size := by simp [World.setCell]
    rw [hs, ← e]
    rw [T.len_snoc] at h2
    exact h2.keep fun j hj _ _ => Below.heap_setCell _ _ _ _ (show j ≠ w.heap.size + 1 by omega)
  · rw [T.len_snoc]; exact one_setCell hout
  · rw [Below.heap_setCell _ _ _ _ (show w.heap.size ≠ w.heap.size + 1 by omega)]; exact hres
  · have g1 := S2.grown
    refine ⟨hgrow.os.trans g1.os, hgrow.tape.trans g1.tape, hgrow.output.trans g1.output, ?_, fun i hi hn => ?_⟩
    · have := hgrow.size; have := g1.size; simp only [World.size_alloc] at *; simp only [World.setCell, Array.size_modify]; omega
    · rw [Below.heap_setCell _ _ _ _ (show i ≠ w.heap.size + 1 by omega), hblk i (by have := g1.size; omega) (low i (by omega))]
      exact g1.block i hi hn

end Go.Proofs.YtjkcopgfcafpeaaGreatDoor

/-
  The walks of read and bracketed. Conditions: a text of at most 65536 bytes.
-/
set_option linter.unusedSimpArgs false
set_option linter.unusedVariables false
namespace Go.Proofs.YtjkcopgfcafpeaaGreatDoor
open Go.RowKit

/-- what sort does at a rest s -/
def SortOk (w : World) (b : Nat) (t : T) (r : List UInt8) (e : Ending) (w' : World) : Prop :=
  ∃ q c, e = .returned (.agg #[.slice q t.len c]) ∧ Rd w' b r ∧ Own w' t q c w.heap.size w'.heap.size ∧ w.grownBy w' (some b)
def SortBad (w : World) (b : Nat) (e : Ending) (w' : World) : Prop := e = .panicked [{ v := .iface 26 (.int .i64 4), recovered := false }] ∧ w.grownBy w' (some b)

theorem grown_new {w wr : World} {b : Nat} (h : w.grownBy wr (some b)) (x : Obj) : w.grownBy (wr.alloc x) (some b) :=
  grown_tr h ⟨rfl, rfl, rfl, by simp, fun i hi _ => Below.heap_alloc wr x i hi⟩

theorem grown_own {w wr : World} {b : Nat} (h : w.grownBy wr (some b)) {j : Nat} (hj : w.heap.size ≤ j) (u : Value) : w.grownBy (wr.setCell ⟨j, 0, none⟩ u) (some b) :=
  ⟨h.os, h.tape, h.output, by simpa [World.setCell] using h.size, fun i hi hn => (Below.heap_setCell wr _ _ i (show i ≠ j by omega)).trans (h.block i hi hn)⟩

set_option maxHeartbeats 800000 in
theorem bracketed_ok (b : Nat) (s : List UInt8) (h : T) (r : List UInt8) (w : World) (hr : Rd w b s) (h0 : h.len ≠ 0)
    (hs : ∀ W, Rd W b s → Calls Tryz.prog 146 #[.pointer (some ⟨b, 0, none⟩)] W (SortOk W b h (41 :: r))) :
    Calls Tryz.prog 158 #[.pointer (some ⟨b, 0, none⟩)] w (SortOk w b h r) := by
  have hd : ((h.len : Int) == 0) = false := by simp; omega
  have HS := Lib.hid hs
  have hlt := lt_of_block hr
  have hn := Lib.hid fun W hr => need_yes b ⟨#[41]⟩ (41 :: r) [41] rfl W hr rfl
  clear hs h0
  go_enter Tryz.func158, Tryz.ntmps158
  go_wp2_with fail
  refine (HS.out _ (alloc_kept hr _)).mono ?_
  rintro e w1 ⟨q, c, rfl, hr1, hO, hg⟩
  have hz := hg.size
  simp only [World.size_alloc] at hz hO
  go_wp2_with fail
  refine (hn.out _ (alloc_kept hr1 _)).mono ?_
  rintro e w2 ⟨rfl, hw2⟩
  have hres1 : w1.heap[w.heap.size]? = some (.cells #[.slice none 0 0] 47 (0, 0)) := by
    rw [hg.block _ (by simp) (fun e => by injection e; omega)]; exact heap_new _ _
  have hres2 : w2.heap[w.heap.size]? = some (.cells #[.slice none 0 0] 47 (0, 0)) := by
    rw [← hw2, Below.heap_setCell _ _ _ _ (show w.heap.size ≠ b by omega)]; exact alloc_kept hres1 _
  have hbox2 : w2.heap[w1.heap.size]? = some (.cells #[.slice q h.len c] 47 (0, 0)) := by
    rw [← hw2, Below.heap_setCell _ _ _ _ (show w1.heap.size ≠ b by omega)]; exact heap_new _ _
  have hr2 : Rd w2 b r := by rw [← hw2]; exact rd_set (alloc_kept hr1 _) r
  have hO2 : Own w2 h q c (w.heap.size + 1) w1.heap.size := hO.keep fun j hj hj2 => by
    rw [← hw2, Below.heap_setCell _ _ _ _ (show j ≠ b by omega), Below.heap_alloc _ _ _ hj2]
  have hg2 : w.grownBy w2 (some b) := by
    rw [← hw2]
    exact grown_set (grown_new (grown_tr (grown_new ⟨rfl, rfl, rfl, Nat.le_refl _, fun _ _ _ => rfl⟩ _) hg) _) _
  have hsz2 : w1.heap.size ≤ w2.heap.size := by rw [← hw2]; simp [World.setCell]
  clear hw2
  have k1 := cell_of_one hres2
  have k2 := free_of_one hres2
  have k3 := cell_of_one hbox2
  have HR := Lib.hid hres2
  have HB := Lib.hid hbox2
  have HW := Lib.hid hr2
  clear hres1 hres2 hbox2 hr2 hr1
  go_wp2_with fail
  refine bodyPost_ret (v := .agg #[.slice q h.len c]) (by simp [results, Tryz.results158, go_sem, k1]) rfl ⟨q, c, rfl, ?_, ?_, grown_own hg2 (Nat.le_refl _) _⟩
  · unfold Rd; rw [Below.heap_setCell _ _ _ _ (show b ≠ w.heap.size by omega)]; exact HW.out
  · have := (hO2.set (a := ⟨w.heap.size, 0, none⟩) (show w.heap.size < w.heap.size + 1 by omega) (.slice q h.len c)).mono (lo' := w.heap.size) (hi' := w2.heap.size) (by omega) hsz2
    simpa [World.setCell] using this

set_option maxHeartbeats 800000 in
theorem bracketed_bad1 (b : Nat) (s : List UInt8) (w : World) (hr : Rd w b s)
    (hs : ∀ W, Rd W b s → Calls Tryz.prog 146 #[.pointer (some ⟨b, 0, none⟩)] W (SortBad W b)) :
    Calls Tryz.prog 158 #[.pointer (some ⟨b, 0, none⟩)] w (SortBad w b) := by
  have HS := Lib.hid hs
  clear hs
  go_enter Tryz.func158, Tryz.ntmps158
  go_wp2_with fail
  refine (HS.out _ (alloc_kept hr _)).mono ?_
  rintro e w1 ⟨rfl, hg⟩
  go_wp2_with fail
  exact ⟨rfl, rfl, grown_tr (grown_new ⟨rfl, rfl, rfl, Nat.le_refl _, fun _ _ _ => rfl⟩ _) hg⟩

set_option maxHeartbeats 800000 in
theorem bracketed_bad2 (b : Nat) (s : List UInt8) (h : T) (r : List UInt8) (w : World) (hr : Rd w b s) (h0 : h.len = 0)
    (hs : ∀ W, Rd W b s → Calls Tryz.prog 146 #[.pointer (some ⟨b, 0, none⟩)] W (SortOk W b h r)) :
    Calls Tryz.prog 158 #[.pointer (some ⟨b, 0, none⟩)] w (SortBad w b) := by
  have hd : ((h.len : Int) == 0) = true := by simp [h0]
  have HS := Lib.hid hs
  clear hs h0
  go_enter Tryz.func158, Tryz.ntmps158
  go_wp2_with fail
  refine (HS.out _ (alloc_kept hr _)).mono ?_
  rintro e w1 ⟨q, c, rfl, hr1, hO, hg⟩
  go_wp2_with fail
  refine (fail_any _).mono ?_
  rintro e w2 ⟨rfl, rfl⟩
  go_wp2_with fail
  exact ⟨rfl, rfl, grown_new (grown_tr (grown_new ⟨rfl, rfl, rfl, Nat.le_refl _, fun _ _ _ => rfl⟩ _) hg) _⟩

set_option maxHeartbeats 800000 in
theorem bracketed_bad3 (b : Nat) (s : List UInt8) (h : T) (r : List UInt8) (w : World) (hr : Rd w b s) (h0 : h.len ≠ 0) (hp : pre [41] r = false)
    (hs : ∀ W, Rd W b s → Calls Tryz.prog 146 #[.pointer (some ⟨b, 0, none⟩)] W (SortOk W b h r)) :
    Calls Tryz.prog 158 #[.pointer (some ⟨b, 0, none⟩)] w (SortBad w b) := by
  have hd : ((h.len : Int) == 0) = false := by simp; omega
  have HS := Lib.hid hs
  have hn := Lib.hid fun W hr => need_no b ⟨#[41]⟩ r [41] rfl W hr hp
  clear hs h0 hp
  go_enter Tryz.func158, Tryz.ntmps158
  go_wp2_with fail
  refine (HS.out _ (alloc_kept hr _)).mono ?_
  rintro e w1 ⟨q, c, rfl, hr1, hO, hg⟩
  go_wp2_with fail
  refine (hn.out _ (alloc_kept hr1 _)).mono ?_
  rintro e w2 ⟨rfl, rfl⟩
  go_wp2_with fail
  exact ⟨rfl, rfl, grown_set (grown_new (grown_tr (grown_new ⟨rfl, rfl, rfl, Nat.le_refl _, fun _ _ _ => rfl⟩ _) hg) _) _⟩

/-- what is left of the reader's text, for the loop's measure -/
def restLen (w : World) (b : Nat) : Nat :=
  match w.cell? ⟨b, 0, none⟩ with
  | some (.string x) => x.size
  | _ => 0

theorem restLen_rd {w : World} {b : Nat} {s : List UInt8} (h : Rd w b s) : restLen w b = s.length := by
  have := cell_of_one h
  unfold restLen
  rw [this]
  simp [ByteArray.size]

/-- what sort does at s, whatever s is -/
def SortAny (w : World) (b : Nat) (s : List UInt8) (e : Ending) (w' : World) : Prop :=
  (∀ t r, rd s = some (t, r) → SortOk w b t r e w') ∧ (rd s = none → SortBad w b e w')

theorem rd_o_more (r : List UInt8) : rd (111 :: 32 :: 62 :: 32 :: r) = (rd r).map (fun x => (T.cons T.nil x.1, x.2)) := by
  rw [rd_step, if_neg (by simp [Proofs.YtjkcopgfcafpeaaGreatDoor.pre]), if_pos (by simp [Proofs.YtjkcopgfcafpeaaGreatDoor.pre]), if_pos (by simp [Proofs.YtjkcopgfcafpeaaGreatDoor.pre])]; rfl

theorem rd_o_end (r : List UInt8) (h : Proofs.YtjkcopgfcafpeaaGreatDoor.pre [32, 62, 32] r = false) : rd (111 :: r) = some (T.nil, r) := by
  rw [rd_step, if_neg (by simp [Proofs.YtjkcopgfcafpeaaGreatDoor.pre]), if_pos (by simp [Proofs.YtjkcopgfcafpeaaGreatDoor.pre])]
  simp [h]

theorem rd_neither (r : List UInt8) (h1 : ¬ Proofs.YtjkcopgfcafpeaaGreatDoor.pre [40] r = true) (h2 : ¬ Proofs.YtjkcopgfcafpeaaGreatDoor.pre [111] r = true) : rd r = none := by
  rw [rd_step, if_neg h1, if_neg h2]

theorem rd_open_none (s : List UInt8) (h : rd s = none) : rd (40 :: s) = none := by rw [rd_open, h]

theorem rd_open_bad (s : List UInt8) (h : T) (r : List UInt8) (hs : rd s = some (h, r)) (hb : ¬ (h.len ≠ 0 ∧ Proofs.YtjkcopgfcafpeaaGreatDoor.pre [41] r = true ∧ Proofs.YtjkcopgfcafpeaaGreatDoor.pre [32, 62, 32] (r.drop 1) = true)) : rd (40 :: s) = none := by
  rw [rd_open, hs]
  simp only
  rw [if_neg hb]

theorem rd_open_more (s : List UInt8) (h : T) (r : List UInt8) (hs : rd s = some (h, 41 :: 32 :: 62 :: 32 :: r)) (h0 : h.len ≠ 0) : rd (40 :: s) = (rd r).map (fun x => (T.cons h x.1, x.2)) := by
  rw [rd_open, hs]
  simp only
  rw [if_pos ⟨h0, by simp [Proofs.YtjkcopgfcafpeaaGreatDoor.pre], by simp [Proofs.YtjkcopgfcafpeaaGreatDoor.pre]⟩]
  rfl

theorem rd_push {s r r4 : List UInt8} {acc h : T} (hrd : rd s = (rd r).map (fun x => (acc.app x.1, x.2))) (h1 : rd r = (rd r4).map (fun x => (T.cons h x.1, x.2))) : rd s = (rd r4).map (fun x => ((acc.snoc h).app x.1, x.2)) := by
  rw [hrd, h1, Option.map_map]
  congr 1
  funext x
  simp [T.app_snoc]

theorem any_bad {w w' : World} {b : Nat} {s r : List UInt8} {acc : T} {e : Ending} (hrd : rd s = (rd r).map (fun x => (acc.app x.1, x.2))) (h1 : rd r = none) (h : SortBad w b e w') : SortAny w b s e w' := by
  rw [h1] at hrd
  exact ⟨fun t r' h2 => (by rw [hrd] at h2; cases h2), fun _ => h⟩

theorem any_ok {w w' : World} {b : Nat} {s r r1 : List UInt8} {acc : T} {e : Ending} (hrd : rd s = (rd r).map (fun x => (acc.app x.1, x.2))) (h1 : rd r = some (T.nil, r1)) (h : SortOk w b acc r1 e w') : SortAny w b s e w' := by
  rw [h1] at hrd
  simp only [Option.map_some, T.app_nil] at hrd
  exact ⟨fun t r' h2 => (by rw [hrd] at h2; simp only [Option.some.injEq, Prod.mk.injEq] at h2; obtain ⟨rfl, rfl⟩ := h2; exact h), fun h2 => (by rw [hrd] at h2; cases h2)⟩

theorem out_push {w W2 w3 : World} {b : Nat} {acc : T} {q : Option Addr} {c : Nat} {xs : List Value} {r : List UInt8} {Y : Obj} (S : St w W2 b acc q c xs r) (hgrow : (W2.alloc Y).grownBy w3 (Value.slice q acc.len c).ownBlock) :
    w3.heap[w.heap.size + 1]? = some (.cells #[.slice q acc.len c] 47 (0, 0)) := by
  have hlt := S.own.lt
  have o1 := lt_of_block S.out
  rw [hgrow.block _ (by simp only [World.size_alloc]; omega) (fun e => by have := (hlt _ e.symm).1; omega), Below.heap_alloc _ _ _ o1]
  exact S.out

theorem grown_refl (w : World) (b : Nat) : w.grownBy w (some b) := ⟨rfl, rfl, rfl, Nat.le_refl _, fun _ _ _ => rfl⟩

theorem rest_lt {w w' : World} {b : Nat} {s s' : List UInt8} (h : Rd w b s) (h' : Rd w' b s') (hl : s'.length < s.length) : restLen w' b < restLen w b := by
  rw [restLen_rd h, restLen_rd h']; exact hl

set_option maxHeartbeats 1600000 in
theorem readsort_any (n : Nat) : ∀ (b : Nat) (s : List UInt8) (w : World), s.length < n → s.length ≤ 65536 → Rd w b s →
    Calls Tryz.prog 146 #[.pointer (some ⟨b, 0, none⟩)] w (SortAny w b s) := by
  obtain ⟨i0, hi0, hz0, hz1', hz2⟩ := info_parts infoS
  induction n with
  | zero => intro b s w h; omega
  | succ n ih =>
    intro b s w hn hs hr
    have IH := Lib.hid ih
    clear ih
    have hlt := lt_of_block hr
    have hst : St w ((w.alloc (.cells #[.slice none 0 0] 47)).alloc (.cells #[.slice none 0 0] 47)) b .nil none 0 [] s := by
      refine ⟨alloc_kept (alloc_kept hr _) _, World.ownsRow_nil _ _ _ _, ⟨rfl, by simp⟩, heap_new2 _ _ _, alloc_kept (heap_new _ _) _, grown_new (grown_new ⟨rfl, rfl, rfl, Nat.le_refl _, fun _ _ _ => rfl⟩ _) _, hlt⟩
    clear hr
    go_enter Tryz.func146, Tryz.ntmps146
    go_wp2_with fail
    go_loopw [5] (fun _ wr => ∃ (acc : T) (q : Option Addr) (c : Nat) (xs : List Value) (r : List UInt8), acc.len + r.length ≤ s.length ∧ rd s = (rd r).map (fun x => (acc.app x.1, x.2)) ∧ St w wr b acc q c xs r)
      (fun _ wr => restLen wr b)
    case atStart => exact ⟨.nil, none, 0, [], s, by simp [T.len], by cases rd s <;> rfl, hst⟩
    case round =>
      clear hst
      obtain ⟨acc, q, c, xs, r, hlen, hrd, hst⟩ := hrel
      have HD := Lib.hid hrd
      clear hrd
      have hmx : acc.len + 1 ≤ maxLen := by simp only [maxLen]; omega
      have hby : (acc.len + 1) * 24 ≤ 140737488355328 := by omega
      by_cases p40 : pre [40] r = true
      · obtain ⟨s1, rfl⟩ := (pre_iff _ _).1 p40
        clear p40
        simp only [List.singleton_append, List.length_cons] at hlen
        have c1 := Lib.hid fun W hr => skip_yes b ⟨#[40]⟩ (40 :: s1) [40] rfl W hr rfl
        have HS := Lib.hid fun W hr => IH.out b s1 W (by omega) (by omega) hr
        cases h1 : rd s1 with
        | none =>
          have c2 := Lib.hid fun W hr => bracketed_bad1 b s1 W hr fun W hr => (HS.out W hr).mono fun _ _ h => h.2 h1
          have H1 := Lib.hid (rd_open_none s1 h1)
          clear h1
          go_wp2_with fail
          refine (c1.out _ hst.rest).mono ?_
          rintro e w1 ⟨rfl, hw1⟩
          have S1 : St w w1 b acc q c xs s1 := by rw [← hw1]; exact hst.skip s1
          clear hw1
          go_wp2_with fail
          refine (c2.out _ S1.rest).mono ?_
          rintro e w2 ⟨rfl, hg2⟩
          go_wp2_with fail
          exact ⟨rfl, any_bad HD.out H1.out ⟨rfl, grown_tr S1.grown hg2⟩⟩
        | some x =>
          obtain ⟨h, r1⟩ := x
          have hl1 := rd_lt h1
          by_cases h0 : h.len = 0
          · have c2 := Lib.hid fun W hr => bracketed_bad2 b s1 h r1 W hr h0 fun W hr => (HS.out W hr).mono fun _ _ h => h.1 _ _ h1
            have H1 := Lib.hid (rd_open_bad s1 h r1 h1 (fun hh => hh.1 h0))
            clear h1 h0
            go_wp2_with fail
            refine (c1.out _ hst.rest).mono ?_
            rintro e w1 ⟨rfl, hw1⟩
            have S1 : St w w1 b acc q c xs s1 := by rw [← hw1]; exact hst.skip s1
            clear hw1
            go_wp2_with fail
            refine (c2.out _ S1.rest).mono ?_
            rintro e w2 ⟨rfl, hg2⟩
            go_wp2_with fail
            exact ⟨rfl, any_bad HD.out H1.out ⟨rfl, grown_tr S1.grown hg2⟩⟩
          by_cases p41 : pre [41] r1 = true
          case neg =>
            have c2 := Lib.hid fun W hr => bracketed_bad3 b s1 h r1 W hr h0 (by simpa using p41) fun W hr => (HS.out W hr).mono fun _ _ h => h.1 _ _ h1
            have H1 := Lib.hid (rd_open_bad s1 h r1 h1 (fun hh => p41 hh.2.1))
            clear h1 h0 p41
            go_wp2_with fail
            refine (c1.out _ hst.rest).mono ?_
            rintro e w1 ⟨rfl, hw1⟩
            have S1 : St w w1 b acc q c xs s1 := by rw [← hw1]; exact hst.skip s1
            clear hw1
            go_wp2_with fail
            refine (c2.out _ S1.rest).mono ?_
            rintro e w2 ⟨rfl, hg2⟩
            go_wp2_with fail
            exact ⟨rfl, any_bad HD.out H1.out ⟨rfl, grown_tr S1.grown hg2⟩⟩
          case pos =>
            obtain ⟨r2, rfl⟩ := (pre_iff _ _).1 p41
            clear p41
            simp only [List.singleton_append, List.length_cons] at hl1
            have c2 := Lib.hid fun W hr => bracketed_ok b s1 h r2 W hr h0 fun W hr => (HS.out W hr).mono fun _ _ h => h.1 _ _ h1
            by_cases p32 : pre [32, 62, 32] r2 = true
            case neg =>
              have c3 := Lib.hid fun W hr => need_no b ⟨#[32, 62, 32]⟩ r2 [32, 62, 32] rfl W hr (by simpa using p32)
              have H1 := Lib.hid (rd_open_bad s1 h _ h1 (fun hh => p32 hh.2.2))
              clear h1 h0 p32
              go_wp2_with fail
              refine (c1.out _ hst.rest).mono ?_
              rintro e w1 ⟨rfl, hw1⟩
              have S1 : St w w1 b acc q c xs s1 := by rw [← hw1]; exact hst.skip s1
              clear hw1
              go_wp2_with fail
              refine (c2.out _ S1.rest).mono ?_
              rintro e w2 ⟨q1, c1', rfl, hr2, hO2, hg2⟩
              have S2 := S1.step hg2 hr2
              go_wp2_with fail
              refine (c3.out _ (S2.alloc _).rest).mono ?_
              rintro e w3 ⟨rfl, hw3⟩
              have S3 : w.grownBy w3 (some b) := by rw [← hw3]; exact ((S2.alloc _).skip r2).grown
              clear hw3
              go_wp2_with fail
              exact ⟨rfl, any_bad HD.out H1.out ⟨rfl, S3⟩⟩
            case pos =>
              obtain ⟨r4, rfl⟩ := (pre_iff _ _).1 p32
              clear p32
              simp only [List.cons_append, List.nil_append, List.length_cons] at hl1
              have c3 := Lib.hid fun W hr => need_yes b ⟨#[32, 62, 32]⟩ (32 :: 62 :: 32 :: r4) [32, 62, 32] rfl W hr rfl
              have H1 := Lib.hid (rd_open_more s1 h r4 h1 h0)
              clear h1 h0
              go_wp2_with fail
              refine (c1.out _ hst.rest).mono ?_
              rintro e w1 ⟨rfl, hw1⟩
              have S1 : St w w1 b acc q c xs s1 := by rw [← hw1]; exact hst.skip s1
              clear hw1
              go_wp2_with fail
              refine (c2.out _ S1.rest).mono ?_
              rintro e w2 ⟨q1, c1', rfl, hr2, hO2, hg2⟩
              have S2 := S1.step hg2 hr2
              go_wp2_with fail
              refine (c3.out _ (S2.alloc _).rest).mono ?_
              rintro e w3 ⟨rfl, hw3⟩
              have hlw := S2.lt
              have hsz := S2.grown.size
              have ho2 := lt_of_block S2.out
              have hg3 : w1.grownBy w3 (some b) := by rw [← hw3]; exact grown_set (grown_new hg2 _) _
              have SW : St w w3 b acc q c xs r4 := by rw [← hw3]; exact (S2.alloc _).skip r4
              have hbox : w3.heap[w2.heap.size]? = some (.cells #[.slice q1 h.len c1'] 47 (0, 0)) := by
                rw [← hw3, Below.heap_setCell _ _ _ _ (show w2.heap.size ≠ b by omega)]; exact heap_new _ _
              have hO3 : Own w3 h q1 c1' w1.heap.size w2.heap.size := hO2.keep fun j hj hj2 => by
                have := S1.grown.size
                rw [← hw3, Below.heap_setCell _ _ _ _ (show j ≠ b by omega), Below.heap_alloc _ _ _ hj2]
              have hsz3 : w2.heap.size ≤ w3.heap.size := by rw [← hw3]; simp [World.setCell]
              clear hw3
              have k1 := cell_of_one SW.out
              have k3 := cell_of_one hbox
              have hbase : w.heap.size + 2 ≤ w3.heap.size := by omega
              have hg2s := hg2.size
              clear hbox
              go_wp2_with (at_builtin; refine wpList_append_lies _ rfl _ _ 43 rfl (w.heap.size + 2) 47 i0 (.agg #[.slice none 0 0]) 1 24 Tryz.underlying43 hi0 hz0 hz1' hz2 rfl Nat.one_pos (.slice q acc.len c) acc.len xs rfl (SW.own.alloc _) ⟨w3.heap.size, 0, none⟩ 1 1 [.slice q1 h.len c1'] rfl rfl (cell_one_new _ _ _) (one_slice _ _ _) Nat.one_pos hmx hby (base_le _ hbase) (w3.heap.size + 1) (size_new _ _) ?_; intro g cp w9 hown3 hgrow hat hglt; have hh3 := out_push SW hgrow; have o1 := cell_of_one hh3; have o2 := free_of_one hh3; clear hh3)
              have P := St.push S1 hg3 SW.rest hO3 hg2s hsz3 hown3 hgrow hat
              clear hown3 hgrow hat o1 o2 k1 k3
              go_roundw
              case rel => exact ⟨acc.snoc h, some ⟨g, 0, none⟩, cp, _, r4, by rw [T.len_snoc]; omega, rd_push HD.out H1.out, P⟩
              case measure => exact rest_lt hst.rest P.rest (by simp; omega)
      · by_cases p111 : pre [111] r = true
        · have c1 := Lib.hid fun W hr => skip_no b ⟨#[40]⟩ r [40] rfl W hr (by simpa using p40)
          obtain ⟨r1, rfl⟩ := (pre_iff _ _).1 p111
          clear p40 p111
          simp only [List.singleton_append, List.length_cons] at hlen
          have c2 := Lib.hid fun W hr => need_yes b ⟨#[111]⟩ (111 :: r1) [111] rfl W hr rfl
          by_cases p32 : pre [32, 62, 32] r1 = true
          · obtain ⟨r4, rfl⟩ := (pre_iff _ _).1 p32
            clear p32
            simp only [List.cons_append, List.nil_append, List.length_cons] at hlen
            have c3 := Lib.hid fun W hr => skip_yes b ⟨#[32, 62, 32]⟩ (32 :: 62 :: 32 :: r4) [32, 62, 32] rfl W hr rfl
            have H1 := Lib.hid (rd_o_more r4)
            go_wp2_with fail
            refine (c1.out _ hst.rest).mono ?_
            rintro e w1 ⟨rfl, hw1⟩
            have S1 : St w w1 b acc q c xs (111 :: 32 :: 62 :: 32 :: r4) := by rw [← hw1]; exact hst.skip _
            clear hw1
            go_wp2_with fail
            refine (c2.out _ S1.rest).mono ?_
            rintro e w2 ⟨rfl, hw2⟩
            have S2 : St w w2 b acc q c xs (32 :: 62 :: 32 :: r4) := by rw [← hw2]; exact S1.skip _
            clear hw2
            go_wp2_with fail
            refine (c3.out _ S2.rest).mono ?_
            rintro e w3 ⟨rfl, hw3⟩
            have SW : St w w3 b acc q c xs r4 := by rw [← hw3]; exact S2.skip _
            clear hw3
            have k1 := cell_of_one SW.out
            have ho2 := lt_of_block SW.out
            have hbase : w.heap.size + 2 ≤ w3.heap.size := by omega
            go_wp2_with (at_builtin; refine wpList_append_lies _ rfl _ _ 43 rfl (w.heap.size + 2) 47 i0 (.agg #[.slice none 0 0]) 1 24 Tryz.underlying43 hi0 hz0 hz1' hz2 rfl Nat.one_pos (.slice q acc.len c) acc.len xs rfl (SW.own.alloc _) ⟨w3.heap.size, 0, none⟩ 1 1 [.slice none 0 0] rfl rfl (cell_one_new _ _ _) (one_slice _ _ _) Nat.one_pos hmx hby (base_le _ hbase) (w3.heap.size + 1) (size_new _ _) ?_; intro g cp w9 hown3 hgrow hat hglt; have hh3 := out_push SW hgrow; have o1 := cell_of_one hh3; have o2 := free_of_one hh3; clear hh3)
            have P := St.push (h := .nil) SW (grown_refl _ _) SW.rest (own_nil _ _ _) (Nat.le_refl _) (Nat.le_refl _) hown3 hgrow hat
            clear hown3 hgrow hat o1 o2 k1
            go_roundw
            case rel => exact ⟨acc.snoc .nil, some ⟨g, 0, none⟩, cp, _, r4, by rw [T.len_snoc]; omega, rd_push HD.out H1.out, P⟩
            case measure => exact rest_lt hst.rest P.rest (by simp; omega)
          · have c3 := Lib.hid fun W hr => skip_no b ⟨#[32, 62, 32]⟩ r1 [32, 62, 32] rfl W hr (by simpa using p32)
            have H1 := Lib.hid (rd_o_end r1 (by simpa using p32))
            clear p32
            go_wp2_with fail
            refine (c1.out _ hst.rest).mono ?_
            rintro e w1 ⟨rfl, hw1⟩
            have S1 : St w w1 b acc q c xs (111 :: r1) := by rw [← hw1]; exact hst.skip _
            clear hw1
            go_wp2_with fail
            refine (c2.out _ S1.rest).mono ?_
            rintro e w2 ⟨rfl, hw2⟩
            have S2 : St w w2 b acc q c xs r1 := by rw [← hw2]; exact S1.skip _
            clear hw2
            go_wp2_with fail
            refine (c3.out _ S2.rest).mono ?_
            rintro e w3 ⟨rfl, hw3⟩
            have SW : St w w3 b acc q c xs r1 := by rw [← hw3]; exact S2.skip _
            clear hw3
            have k1 := cell_of_one SW.out
            have k2 := cell_of_one SW.res
            have k3 := free_of_one SW.res
            go_wp2_with fail
            have hlw := SW.lt
            refine bodyPost_ret (v := .agg #[.slice q acc.len c]) (by simp [results, Tryz.results146, go_sem, k2]) rfl (any_ok HD.out H1.out ⟨q, c, rfl, ?_, ?_, grown_own SW.grown (Nat.le_refl _) _⟩)
            · unfold Rd; rw [Below.heap_setCell _ _ _ _ (show b ≠ w.heap.size by omega)]; exact SW.rest
            · have got : Got w3 47 acc acc.len (.slice q acc.len c) (w.heap.size + 2) := ⟨xs, SW.own, by rw [T.take_len]; exact SW.kids⟩
              obtain ⟨q', c', he, hO⟩ := got.finish (Nat.le_refl _) (Nat.lt_irrefl _)
              obtain ⟨rfl, rfl⟩ : q = q' ∧ c = c' := by simpa using he
              have := (hO.set (a := ⟨w.heap.size, 0, none⟩) (show w.heap.size < w.heap.size + 2 by omega) (.slice q acc.len c)).mono (lo' := w.heap.size) (hi' := w3.heap.size) (by omega) (Nat.le_refl _)
              simpa [World.setCell] using this
        · have c1 := Lib.hid fun W hr => skip_no b ⟨#[40]⟩ r [40] rfl W hr (by simpa using p40)
          have c2 := Lib.hid fun W hr => need_no b ⟨#[111]⟩ r [111] rfl W hr (by simpa using p111)
          have H1 := Lib.hid (rd_neither r p40 p111)
          clear p40 p111
          go_wp2_with fail
          refine (c1.out _ hst.rest).mono ?_
          rintro e w1 ⟨rfl, hw1⟩
          have S1 : St w w1 b acc q c xs r := by rw [← hw1]; exact hst.skip _
          clear hw1
          go_wp2_with fail
          refine (c2.out _ S1.rest).mono ?_
          rintro e w2 ⟨rfl, hw2⟩
          have S2 : w.grownBy w2 (some b) := by rw [← hw2]; exact (S1.skip r).grown
          clear hw2
          go_wp2_with fail
          exact ⟨rfl, any_bad HD.out H1.out ⟨rfl, S2⟩⟩

end Go.Proofs.YtjkcopgfcafpeaaGreatDoor

/-
  The walk of All at read: it recovers what the reader panics with. Conditions: a text of at most 65536 bytes.
-/
set_option linter.unusedSimpArgs false
set_option linter.unusedVariables false
namespace Go.Proofs.YtjkcopgfcafpeaaGreatDoor
open Go.RowKit

theorem out_set {w1 : World} {b : Nat} {v v' : Value} {ty : TypeId} (h : w1.heap[b]? = some (.cells #[v] ty (0, 0))) : (w1.setCell ⟨b, 0, none⟩ v').heap[b]? = some (.cells #[v'] ty (0, 0)) := one_setCell h

theorem other_set {w1 : World} {b a : Nat} {o : Obj} (h : w1.heap[b]? = some o) (hn : b ≠ a) (v' : Value) : (w1.setCell ⟨a, 0, none⟩ v').heap[b]? = some o := (Below.heap_setCell w1 _ _ b hn).trans h

theorem catch_panicking (bp bq : Nat) {x y : Value} {tx ty : TypeId} (u : TypeId) (pv : Value) (older : List PanicEntry) (w : World) (hp : w.heap[bp]? = some (.cells #[x] tx (0, 0))) (hq : w.heap[bq]? = some (.cells #[y] ty (0, 0))) (hn : bq ≠ bp) :
    CallsD Tryz.prog 157 #[.pointer (some ⟨bp, 0, none⟩), .pointer (some ⟨bq, 0, none⟩)] (.panicking ({ v := .iface u pv, recovered := false } :: older)) w fun e u' w' =>
      e = .returned (.tuple #[]) ∧ u' = .panicking ({ v := .iface u pv, recovered := true } :: older) ∧ w'.cell? ⟨bp, 0, none⟩ = some (.slice none 0 0) ∧ w'.cell? ⟨bq, 0, none⟩ = some (.bool false) ∧ ∀ B, B ≤ bp → B ≤ bq → B ≤ w.heap.size → Below B w w' := by
  have hn0 := cell_of_one (heap_new w (.cells #[.slice none 0 0] 47))
  have hpA := alloc_kept hp (.cells #[.slice none 0 0] 47)
  have hqA := other_set (alloc_kept hq (.cells #[.slice none 0 0] 47)) hn (.slice none 0 0)
  have hc := cell_of_one hpA
  have hz := free_of_one hpA
  have hc2 := cell_of_one hqA
  have hz2 := free_of_one hqA
  refine callsD_of_wpS Tryz.func157 rfl fun c₀ cs hu => ?_
  apply wpS_seq
  apply wpS_region
  simp [wpOpsS, go_sem, recoverD, hu, Tryz.ntmps157, Exit.thenS]
  refine wpS_cond (t := true) (by simp [Act.eval, Array.replicate]) ?_
  simp only [if_true]
  apply wpS_seq
  apply wpS_region
  simp [wpOpsS, go_sem, Exit.thenS, Tryz.zeroValue47, Tryz.isAgg47, Tryz.sizeOf47, Tryz.underlying47, Array.replicate]
  apply wpS_region
  simp [wpOpsS, go_sem, hn0, hc, hz, hc2, hz2, bodyPostS, results, Tryz.results157]
  exact fun B h1 h2 h3 => (((Below.refl B w).alloc h3 _).setCell h1 _).setCell h2 _

theorem ended_any (b : Nat) (s : List UInt8) (w : World) (hr : Rd w b s) :
    Calls Tryz.prog 95 #[.pointer (some ⟨b, 0, none⟩)] w fun e w' => e = .returned (.bool s.isEmpty) ∧ w = w' := by
  have c1 := cell_of_one hr
  clear hr
  go_enter Tryz.func95, Tryz.ntmps95
  go_wp2_with fail
  go_ret
  exact ⟨rfl, rfl⟩

theorem catch_idle (p q : Addr) (w : World) :
    CallsD Tryz.prog 157 #[.pointer (some p), .pointer (some q)] .returning w fun e u' w' => e = .returned (.tuple #[]) ∧ u' = .returning ∧ w' = w := by
  refine callsD_of_wpS Tryz.func157 rfl fun c₀ cs hu => ?_
  apply wpS_seq
  apply wpS_region
  simp [wpOpsS, go_sem, recoverD, hu, Tryz.ntmps157, Exit.thenS]
  refine wpS_cond (t := false) (by simp [Act.eval, Array.replicate]) ?_
  simp only [Bool.false_eq_true, if_false]
  refine wpS_of_wp (wp_skip ?_)
  cases c₀
  simp_all [bodyPostS, results, Tryz.results157]

/-- the three blocks that read has made: the results and the reader -/
def W3 (w : World) (s : List UInt8) : World := ((w.alloc (.cells #[.slice none 0 0] 47)).alloc (.cells #[.bool false] 4)).alloc (.cells #[.string ⟨s.toArray⟩] 123)

theorem W3_rd (w : World) (s : List UInt8) : Rd (W3 w s) (w.heap.size + 1 + 1) s := by
  have := heap_new2 (w.alloc (.cells #[.slice none 0 0] 47)) (.cells #[.bool false] 4) (.cells #[.string ⟨s.toArray⟩] 123)
  simp only [World.size_alloc] at this
  exact this

theorem W3_size (w : World) (s : List UInt8) : (W3 w s).heap.size = w.heap.size + 3 := by simp [W3]

theorem W3_blocks (w : World) (s : List UInt8) : (W3 w s).heap[w.heap.size]? = some (.cells #[.slice none 0 0] 47 (0, 0)) ∧ (W3 w s).heap[w.heap.size + 1]? = some (.cells #[.bool false] 4 (0, 0)) :=
  ⟨alloc_kept (alloc_kept (heap_new _ _) _) _, alloc_kept (heap_new2 _ _ _) _⟩

theorem W3_below (w : World) (s : List UInt8) : Below w.heap.size w (W3 w s) :=
  (((Below.refl w.heap.size w).alloc (Nat.le_refl _) _).alloc (by simp) _).alloc (by simp; omega) _

theorem grown_belowR {w wr : World} {b B : Nat} (h : w.grownBy wr (some b)) (hB : B ≤ b) (hw : B ≤ w.heap.size) : Below B w wr :=
  ⟨h.os, h.tape, h.output, h.size, fun k hk => h.block k (by omega) (fun e => by injection e; omega)⟩

theorem after_sort {w w1 : World} {s : List UInt8} (hg : (W3 w s).grownBy w1 (some (w.heap.size + 1 + 1))) :
    w1.heap[w.heap.size]? = some (.cells #[.slice none 0 0] 47 (0, 0)) ∧ w1.heap[w.heap.size + 1]? = some (.cells #[.bool false] 4 (0, 0)) ∧ Below w.heap.size w w1 := by
  obtain ⟨h0, h1⟩ := W3_blocks w s
  have hz := W3_size w s
  refine ⟨?_, ?_, (W3_below w s).trans (grown_belowR hg (by omega) (by omega))⟩
  · rw [hg.block _ (by omega) (fun e => by injection e; omega)]; exact h0
  · rw [hg.block _ (by omega) (fun e => by injection e; omega)]; exact h1

set_option maxHeartbeats 1600000 in
theorem read_bad1 (s : List UInt8) (w : World) (hs : s.length ≤ 65536) (h : rd s = none) :
    Calls Tryz.prog 145 #[.string ⟨s.toArray⟩, .func (Fn.func 146) #[] #[]] w fun e w' => e = .returned (.tuple #[.agg #[.slice none 0 0], .bool false]) ∧ Below w.heap.size w w' := by
  have hmf : ∀ (fn : Fn) (first cap : Array Value) (w : World), (Instr.makeFunc fn first cap).run Tryz.prog w = .ok (.func fn first cap) w := fun _ _ _ _ => rfl
  have hc := Lib.hid fun b W hr => (readsort_any (s.length + 1) b s W (by omega) hs hr).mono fun e w' hh => hh.2 h
  clear h
  go_enter_defers Tryz.func145, Tryz.ntmps145
  go_wp2_with fail
  refine (hc.out _ _ (W3_rd w s)).mono ?_
  rintro e w1 ⟨rfl, hg⟩
  obtain ⟨h0, h1, hb⟩ := after_sort hg
  go_wp2_with fail
  refine leaves_cons (f := 157) (args := #[.pointer (some ⟨w.heap.size, 0, none⟩), .pointer (some ⟨w.heap.size + 1, 0, none⟩)]) (by simp) (by simp [go_sem]) ?_
  refine (catch_panicking w.heap.size (w.heap.size + 1) _ _ [] _ h0 h1 (by omega)).mono ?_
  rintro e u' w'' ⟨rfl, rfl, k0, l0, hB⟩
  simp [Leaves, settle, results, Tryz.results145, go_sem, k0, l0]
  exact hb.trans (hB _ (Nat.le_refl _) (by omega) hb.size)

set_option maxHeartbeats 1600000 in
theorem read_bad2 (s r : List UInt8) (t : T) (w : World) (hs : s.length ≤ 65536) (h : rd s = some (t, r)) (hr : r.isEmpty = false) :
    Calls Tryz.prog 145 #[.string ⟨s.toArray⟩, .func (Fn.func 146) #[] #[]] w fun e w' => e = .returned (.tuple #[.agg #[.slice none 0 0], .bool false]) ∧ Below w.heap.size w w' := by
  have hmf : ∀ (fn : Fn) (first cap : Array Value) (w : World), (Instr.makeFunc fn first cap).run Tryz.prog w = .ok (.func fn first cap) w := fun _ _ _ _ => rfl
  have hc := Lib.hid fun b W hr => (readsort_any (s.length + 1) b s W (by omega) hs hr).mono fun e w' hh => hh.1 t _ h
  have HE := Lib.hid fun b W hd => ended_any b r W hd
  rw [hr] at HE
  clear h hr
  go_enter_defers Tryz.func145, Tryz.ntmps145
  go_wp2_with fail
  refine (hc.out _ _ (W3_rd w s)).mono ?_
  rintro e w1 ⟨q, c, rfl, hrd, ho, hg⟩
  obtain ⟨h0, h1, hb⟩ := after_sort hg
  have m0 := cell_of_one h0
  have m1 := free_of_one h0
  have h0' := out_set (v' := .slice q t.len c) h0
  have h1' := other_set h1 (by omega) (.slice q t.len c) (a := w.heap.size)
  have hr' := other_set hrd (by omega) (.slice q t.len c) (a := w.heap.size)
  go_wp2_with fail
  refine (HE.out _ _ hr').mono ?_
  rintro e w2 ⟨rfl, rfl⟩
  go_wp2_with fail
  refine (fail_any _).mono ?_
  rintro e w2 ⟨rfl, rfl⟩
  go_wp2_with fail
  refine leaves_cons (f := 157) (args := #[.pointer (some ⟨w.heap.size, 0, none⟩), .pointer (some ⟨w.heap.size + 1, 0, none⟩)]) (by simp) (by simp [go_sem]) ?_
  refine (catch_panicking w.heap.size (w.heap.size + 1) _ _ [] _ h0' h1' (by omega)).mono ?_
  rintro e u' w'' ⟨rfl, rfl, k0, l0, hB⟩
  simp [Leaves, settle, results, Tryz.results145, go_sem, k0, l0]
  have hb' := hb.setCell (p := ⟨w.heap.size, 0, none⟩) (Nat.le_refl w.heap.size) (.slice q t.len c)
  exact hb'.trans (hB _ (Nat.le_refl _) (by omega) hb'.size)

set_option maxHeartbeats 1600000 in
theorem read_ok (s : List UInt8) (t : T) (w : World) (hs : s.length ≤ 65536) (h : rd s = some (t, [])) :
    Calls Tryz.prog 145 #[.string ⟨s.toArray⟩, .func (Fn.func 146) #[] #[]] w fun e w' => ∃ q c, e = .returned (.tuple #[.agg #[.slice q t.len c], .bool true]) ∧ Own w' t q c w.heap.size w'.heap.size ∧ Below w.heap.size w w' := by
  have hmf : ∀ (fn : Fn) (first cap : Array Value) (w : World), (Instr.makeFunc fn first cap).run Tryz.prog w = .ok (.func fn first cap) w := fun _ _ _ _ => rfl
  have hc := Lib.hid fun b W hr => (readsort_any (s.length + 1) b s W (by omega) hs hr).mono fun e w' hh => hh.1 t _ h
  have HE := Lib.hid fun b W hd => ended_any b [] W hd
  clear h
  go_enter_defers Tryz.func145, Tryz.ntmps145
  go_wp2_with fail
  refine (hc.out _ _ (W3_rd w s)).mono ?_
  rintro e w1 ⟨q, c, rfl, hrd, ho, hg⟩
  obtain ⟨h0, h1, hb⟩ := after_sort hg
  have m0 := cell_of_one h0
  have m1 := free_of_one h0
  have h0' := out_set (v' := .slice q t.len c) h0
  have h1' := other_set h1 (by omega) (.slice q t.len c) (a := w.heap.size)
  have hr' := other_set hrd (by omega) (.slice q t.len c) (a := w.heap.size)
  have k0 := cell_of_one h0'
  have k1 := free_of_one h0'
  have l0 := cell_of_one h1'
  have l1 := free_of_one h1'
  have r0 := cell_of_one hr'
  go_wp2_with fail
  refine (HE.out _ _ hr').mono ?_
  rintro e w2 ⟨rfl, rfl⟩
  go_wp2_with fail
  · refine leaves_cons (f := 157) (args := #[.pointer (some ⟨w.heap.size, 0, none⟩), .pointer (some ⟨w.heap.size + 1, 0, none⟩)]) (by simp) (by simp [go_sem]) ?_
    refine (catch_idle ⟨w.heap.size, 0, none⟩ ⟨w.heap.size + 1, 0, none⟩ _).mono ?_
    rintro e u' w'' ⟨rfl, rfl, rfl⟩
    simp [Leaves, settle, results, Tryz.results145, go_sem, k0, l0]
    have hz := W3_size w s
    refine ⟨q, c, ⟨rfl, rfl⟩, ?_, ((hb.setCell (by simp) _).setCell (by simp) _).setCell (by simp) _⟩
    refine (((ho.set (by simp [hz]) _).set (by simp [hz]) _).set (by simp [hz]) _).mono (by omega) (by simp)

end Go.Proofs.YtjkcopgfcafpeaaGreatDoor

/-
  The walks of the reference's begins and Parse. Conditions: a text of at most 65536 bytes.
-/
set_option linter.unusedSimpArgs false
set_option linter.unusedVariables false
namespace Go.Proofs.YtjkcopgfcafpeaaGreatDoor
open Go.RowKit

theorem take_pre (p l : List UInt8) : ((l.take p.length) == p) = Proofs.YtjkcopgfcafpeaaGreatDoor.pre p l := by
  by_cases h : Proofs.YtjkcopgfcafpeaaGreatDoor.pre p l = true
  · obtain ⟨r, rfl⟩ := (pre_iff _ _).1 h
    rw [h]; simp
  · have h' : Proofs.YtjkcopgfcafpeaaGreatDoor.pre p l = false := by simpa using h
    rw [h', beq_eq_false_iff_ne]
    intro e
    apply h
    exact (pre_iff _ _).2 ⟨l.drop p.length, (List.take_append_drop p.length l).symm.trans (congrArg (· ++ l.drop p.length) e)⟩

set_option maxHeartbeats 800000 in
theorem begins_at (s p : List UInt8) (i : Nat) (j : Int) (x : ByteArray) (bv : Bool) (hx : x.data.toList = p) (hi : i ≤ s.length) (hs : s.length ≤ 65536) (hp : p.length ≤ 4) (hj : j = (i : Int))
    (hb : Proofs.YtjkcopgfcafpeaaGreatDoor.pre p (s.drop i) = bv) (w : World) :
    Calls Tryz.prog 131 #[.string ⟨s.toArray⟩, .int .i64 j, .string x] w fun e w' => e = .returned (.bool bv) ∧ w = w' := by
  subst hj
  have hz : x.size = p.length := by rw [← hx]; rfl
  have HX := Lib.hid hx
  have HB := Lib.hid hb
  clear hx hb
  go_enter Tryz.func131, Tryz.ntmps131
  go_wp2_with fail
  · refine bodyPost_ret (v := .bool _) (by simp [results, Tryz.results131, go_sem]; rfl) rfl ⟨ret_bool ?_, rfl⟩
    rw [← HB.out, ← take_pre, Lib.extract_toList, Lib.toList_data, HX.out]
    simp
  · refine bodyPost_ret (v := .bool false) (by simp [results, Tryz.results131, go_sem]) rfl ⟨ret_bool ?_, rfl⟩
    rw [← HB.out]
    symm
    rw [Bool.eq_false_iff]
    intro h
    have := pre_length h
    simp only [List.length_drop] at this
    omega

theorem drop_of {s p r : List UInt8} {i : Nat} (hi : i ≤ s.length) (h : s.drop i = p ++ r) : s.drop (i + p.length) = r ∧ i + p.length + r.length = s.length := by
  refine ⟨by rw [← List.drop_drop, h]; simp, ?_⟩
  have := congrArg List.length h
  simp only [List.length_drop, List.length_append] at this
  omega

theorem pre4 (r : List UInt8) : Proofs.YtjkcopgfcafpeaaGreatDoor.pre [41, 32, 62, 32] r = true ↔ Proofs.YtjkcopgfcafpeaaGreatDoor.pre [41] r = true ∧ Proofs.YtjkcopgfcafpeaaGreatDoor.pre [32, 62, 32] (r.drop 1) = true := by
  constructor
  · intro h
    obtain ⟨r1, rfl⟩ := (pre_iff _ _).1 h
    exact ⟨by simp [Proofs.YtjkcopgfcafpeaaGreatDoor.pre], by simp [Proofs.YtjkcopgfcafpeaaGreatDoor.pre]⟩
  · rintro ⟨h1, h2⟩
    obtain ⟨r1, rfl⟩ := (pre_iff _ _).1 h1
    obtain ⟨r2, h3⟩ := (pre_iff _ _).1 h2
    simp only [List.singleton_append, List.drop_succ_cons, List.drop_zero] at h3
    subst h3
    simp [Proofs.YtjkcopgfcafpeaaGreatDoor.pre]

/-- where Parse's loop stands: what it has collected -/
structure Pt (w wr : World) (acc : T) (q : Option Addr) (c : Nat) (xs : List Value) : Prop where
  own : wr.ownsRow (w.heap.size + 2) 47 1 (.slice q acc.len c) acc.len xs
  kids : Kids wr acc xs (Value.slice q acc.len c).ownBlock (w.heap.size + 2) wr.heap.size
  out : wr.heap[w.heap.size + 1]? = some (.cells #[.slice q acc.len c] 47 (0, 0))
  res : wr.heap[w.heap.size]? = some (.cells #[.slice none 0 0] 47 (0, 0))
  below : Below w.heap.size w wr

theorem kept_of_below {wr w1 : World} {i : Nat} {o : Obj} (hb : Below wr.heap.size wr w1) (h : wr.heap[i]? = some o) : w1.heap[i]? = some o := by
  rw [hb.block _ (lt_of_block h)]; exact h

theorem Pt.step {w wr w1 : World} {acc : T} {q : Option Addr} {c : Nat} {xs : List Value} (h : Pt w wr acc q c xs) (hb : Below wr.heap.size wr w1) : Pt w w1 acc q c xs := by
  have hz := h.below.size
  refine ⟨ownsRow_keep h.own hb, ?_, kept_of_below hb h.out, kept_of_below hb h.res, h.below.trans (hb.mono hz)⟩
  exact (h.kids.keep fun j _ hj2 _ => hb.block j hj2).mono (Nat.le_refl _) hb.size

theorem Pt.alloc {w wr : World} {acc : T} {q : Option Addr} {c : Nat} {xs : List Value} (h : Pt w wr acc q c xs) (x : Obj) : Pt w (wr.alloc x) acc q c xs :=
  h.step ((Below.refl wr.heap.size wr).alloc (Nat.le_refl _) x)

/-- one more is collected -/
theorem Pt.push {w W W2 w3 : World} {acc h : T} {q q1 : Option Addr} {c c1 g cp m : Nat} {xs : List Value} {Y : Obj} (S : Pt w W acc q c xs) (G : Below W.heap.size W W2)
    (O : Own W2 h q1 c1 W.heap.size m) (hm1 : W.heap.size ≤ m) (hm : m ≤ W2.heap.size)
    (hown : w3.ownsRow (w.heap.size + 2) 47 1 (.slice (some ⟨g, 0, none⟩) (acc.len + 1) cp) (acc.len + 1) (xs ++ [.slice q1 h.len c1]))
    (hgrow : (W2.alloc Y).grownBy w3 (Value.slice q acc.len c).ownBlock) (hat : (Value.slice q acc.len c).ownBlock = some g ∨ g = W2.heap.size + 1) :
    Pt w (w3.setCell ⟨w.heap.size + 1, 0, none⟩ (.slice (some ⟨g, 0, none⟩) (acc.len + 1) cp)) (acc.snoc h) (some ⟨g, 0, none⟩) cp (xs ++ [.slice q1 h.len c1]) := by
  have S2 := S.step G
  have hlt := S.own.lt
  have hlt2 := S2.own.lt
  have hk : acc.len < (acc.snoc h).len := by rw [T.len_snoc]; omega
  have hblk : ∀ j, j < W2.heap.size → (Value.slice q acc.len c).ownBlock ≠ some j → w3.heap[j]? = W2.heap[j]? := fun j hj hn => by
    rw [hgrow.block j (by simp only [World.size_alloc]; omega) (fun e => hn e.symm), Below.heap_alloc _ _ _ hj]
  have low : ∀ j, j < w.heap.size + 2 → (Value.slice q acc.len c).ownBlock ≠ some j := fun j hj e => by have := (hlt j e).1; omega
  have o1 := lt_of_block S2.out
  have got := Got.step (w := W2.alloc Y) (w1 := w3) (ty := 47) (t := acc.snoc h) (k := acc.len) (B := w.heap.size + 2) (v := .slice q acc.len c) (q := q1) (c := c1) (lo := W.heap.size) (hi := m) (g := g) (cap := cp) (xs := xs) hk
    (by rw [T.take_snoc_self]; exact S.kids.keep fun j hj hj2 _ => by rw [Below.heap_alloc _ _ _ (by have := G.size; omega)]; exact G.block j hj2)
    hm1 (by simp only [World.size_alloc]; omega) (fun j hj => (hlt j hj).2) (by rw [T.get_snoc_self]; exact O.keep fun j _ hj => Below.heap_alloc _ _ _ (by omega))
    (by rw [T.get_snoc_self]; exact hown) hgrow (by simpa using hat)
  have got2 := got.set (a := ⟨w.heap.size + 1, 0, none⟩) (show w.heap.size + 1 < w.heap.size + 2 by omega) (.slice (some ⟨g, 0, none⟩) (acc.len + 1) cp)
  have hout : w3.heap[w.heap.size + 1]? = some (.cells #[.slice q acc.len c] 47 (0, 0)) := by rw [hblk _ o1 (low _ (by omega))]; exact S2.out
  have hres : w3.heap[w.heap.size]? = some (.cells #[.slice none 0 0] 47 (0, 0)) := by rw [hblk _ (lt_of_block S2.res) (low _ (by omega))]; exact S2.res
  have hx : (xs ++ [Value.slice q1 h.len c1]).length = acc.len + 1 := by simpa using hown.1
  refine ⟨?_, ?_, ?_, ?_, ?_⟩
  · rw [T.len_snoc]; exact ownsRow_setCell_below hown (show w.heap.size + 1 < w.heap.size + 2 by omega) _
  · obtain ⟨xs', h1, h2⟩ := got
    rw [← T.len_snoc acc h, T.take_all _ _ (Nat.le_refl _) (Nat.lt_irrefl _)] at h2
    have e : xs' = xs ++ [Value.slice q1 h.len c1] := by
      rcases h1.2 with ⟨e1, _⟩ | ⟨g1, cap1, cur1, e1, _, hg1, _, _, _, ht1⟩
      · cases e1
      · rcases hown.2 with ⟨e2, _⟩ | ⟨g2, cap2, cur2, e2, _, hg2, _, _, _, ht2⟩
        · cases e2
        · have eg : g1 = g2 := by rw [e1] at e2; injection e2 with e2; injection e2 with e2; injection e2
          subst eg
          rw [hg1] at hg2
          injection hg2 with hg2
          injection hg2 with hg2
          subst hg2
          rw [← ht1, ← ht2]
    rw [T.len_snoc]
    have hs : (w3.setCell ⟨w.heap.size + 1, 0, none⟩ (.slice (some ⟨g, 0, none⟩) (acc.len + 1) cp)).heap.size = w3.heap.size := by simp [World.setCell]
    rw [hs, ← e]
    rw [T.len_snoc] at h2
    exact h2.keep fun j hj _ _ => Below.heap_setCell _ _ _ _ (show j ≠ w.heap.size + 1 by omega)
  · rw [T.len_snoc]; exact one_setCell hout
  · rw [Below.heap_setCell _ _ _ _ (show w.heap.size ≠ w.heap.size + 1 by omega)]; exact hres
  · have g1 := S2.below
    refine ⟨hgrow.os.trans g1.os, hgrow.tape.trans g1.tape, hgrow.output.trans g1.output, ?_, fun i hi => ?_⟩
    · have := hgrow.size; have := g1.size; simp only [World.size_alloc] at *; simp only [World.setCell, Array.size_modify]; omega
    · rw [Below.heap_setCell _ _ _ _ (show i ≠ w.heap.size + 1 by omega), hblk i (by have := g1.size; omega) (low i (by omega))]
      exact g1.block i hi

theorem Pt.out_push {w W2 w3 : World} {acc : T} {q : Option Addr} {c : Nat} {xs : List Value} {Y : Obj} (S : Pt w W2 acc q c xs) (hgrow : (W2.alloc Y).grownBy w3 (Value.slice q acc.len c).ownBlock) :
    w3.heap[w.heap.size + 1]? = some (.cells #[.slice q acc.len c] 47 (0, 0)) := by
  have hlt := S.own.lt
  have o1 := lt_of_block S.out
  rw [hgrow.block _ (by simp only [World.size_alloc]; omega) (fun e => by have := (hlt _ e.symm).1; omega), Below.heap_alloc _ _ _ o1]
  exact S.out

end Go.Proofs.YtjkcopgfcafpeaaGreatDoor

