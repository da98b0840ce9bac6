/-
  Parts of one proof, laid into one text: LawA, LawB, LawC, LawD, WalkP, WalkQ. Conditions: each part names its own.
-/
import Derived.Test.YteolfpdkpihnlaaMg18
import Derived.Deep.RegionHeld3
import Derived.Test.YteolfpdkpihnlaaMg01

/-
  The walks of the statements on Check, Same, Order and Put. Conditions: none but that the sorts lie in memory.
-/
namespace Go.Proofs.Yteolfpdkpihnlaa
open Go.RowKit

/-- in a later world: a box of the call's own -/
theorem box_later {W w1 : World} {b : Nat} {v : Value} (hb : Below W.heap.size W w1) (h : W.cell? ⟨b, 0, none⟩ = some v) : w1.cell? ⟨b, 0, none⟩ = some v := by
  rw [(bcell hb).1 _ _ (lt_of_cell h)]; exact h

theorem held_next {w W W' : World} {b : Nat} {v : Value} {t : T} {p : Option Addr} {n cap : Nat} (h : W.cell? ⟨b, 0, none⟩ = some v ∧ IsT W t p n cap ∧ Below w.heap.size w W) (hb : Below W.heap.size W W') :
    W'.cell? ⟨b, 0, none⟩ = some v ∧ IsT W' t p n cap ∧ Below w.heap.size w W' := ⟨box_later hb h.1, h.2.1.below hb, h.2.2.trans (hb.mono h.2.2.size)⟩

theorem held_below {w W : World} {b : Nat} {v : Value} {t : T} {p : Option Addr} {n cap : Nat} (h : W.cell? ⟨b, 0, none⟩ = some v ∧ IsT W t p n cap ∧ Below w.heap.size w W) : Below w.heap.size w W := h.2.2

theorem held_is {w W : World} {b : Nat} {v : Value} {t : T} {p : Option Addr} {n cap : Nat} (h : W.cell? ⟨b, 0, none⟩ = some v ∧ IsT W t p n cap ∧ Below w.heap.size w W) : IsT W t p n cap := h.2.1

theorem held2_next {w W W' : World} {b b' : Nat} {v v' : Value} {s t : T} {p q : Option Addr} {n cap m cap' : Nat} (h : W.cell? ⟨b, 0, none⟩ = some v ∧ W.cell? ⟨b', 0, none⟩ = some v' ∧ IsT W s p n cap ∧ IsT W t q m cap' ∧ Below w.heap.size w W) (hb : Below W.heap.size W W') :
    W'.cell? ⟨b, 0, none⟩ = some v ∧ W'.cell? ⟨b', 0, none⟩ = some v' ∧ IsT W' s p n cap ∧ IsT W' t q m cap' ∧ Below w.heap.size w W' :=
  ⟨box_later hb h.1, box_later hb h.2.1, h.2.2.1.below hb, h.2.2.2.1.below hb, h.2.2.2.2.trans (hb.mono h.2.2.2.2.size)⟩
theorem held2_s {w W : World} {b b' : Nat} {v v' : Value} {s t : T} {p q : Option Addr} {n cap m cap' : Nat} (h : W.cell? ⟨b, 0, none⟩ = some v ∧ W.cell? ⟨b', 0, none⟩ = some v' ∧ IsT W s p n cap ∧ IsT W t q m cap' ∧ Below w.heap.size w W) : IsT W s p n cap := h.2.2.1
theorem held2_t {w W : World} {b b' : Nat} {v v' : Value} {s t : T} {p q : Option Addr} {n cap m cap' : Nat} (h : W.cell? ⟨b, 0, none⟩ = some v ∧ W.cell? ⟨b', 0, none⟩ = some v' ∧ IsT W s p n cap ∧ IsT W t q m cap' ∧ Below w.heap.size w W) : IsT W t q m cap' := h.2.2.2.1
theorem held2_below {w W : World} {b b' : Nat} {v v' : Value} {s t : T} {p q : Option Addr} {n cap m cap' : Nat} (h : W.cell? ⟨b, 0, none⟩ = some v ∧ W.cell? ⟨b', 0, none⟩ = some v' ∧ IsT W s p n cap ∧ IsT W t q m cap' ∧ Below w.heap.size w W) : Below w.heap.size w W := h.2.2.2.2

end Go.Proofs.Yteolfpdkpihnlaa

/-
  The walk of the statement on the orders behind arguments. Conditions: none but that the sort lies in memory.
-/
namespace Go.Proofs.Yteolfpdkpihnlaa
open Go.RowKit

theorem T.valid_drop (t : T) (k : Nat) (h : t.valid = true) : (t.drop k).valid = true := by
  simp only [T.valid, T.few, Bool.and_eq_true, decide_eq_true_eq] at h ⊢
  obtain ⟨⟨h1, h2⟩, h3, h4⟩ := h
  have := t.nodes_drop_le k
  have := t.ord_drop_le k
  have := t.len_drop k
  exact ⟨⟨by omega, by omega⟩, by omega, t.kids_drop_of k h4⟩

theorem T.bE_zero {t : T} {k : Int} (h : t.bE k = 0) : t.valid = true ∧ 0 ≤ k ∧ k ≤ t.len := by
  unfold T.bE at h
  split at h
  · rename_i hv
    split at h
    · rename_i hk; exact ⟨hv, hk⟩
    · cases h
  · cases h

end Go.Proofs.Yteolfpdkpihnlaa

/-
  The walk of the statement on Behind. Conditions: none but that the sort lies in memory.
-/
namespace Go.Proofs.Yteolfpdkpihnlaa
open Go.RowKit

theorem T.bT_nodes (t : T) (k : Int) : (t.bT k).nodes ≤ 60 := by
  unfold T.bT
  split
  · rename_i h
    have := t.valid_nodes h.1
    have := t.nodes_drop_le k.toNat
    omega
  · simp [T.nodes]

end Go.Proofs.Yteolfpdkpihnlaa

/-
  The walk of the statement on what is modified: turn changes the rows of a fresh sort alone. Conditions: none but that the sort lies in memory.
-/
set_option linter.unusedSimpArgs false
set_option linter.unusedVariables false
namespace Go.Proofs.Yteolfpdkpihnlaa
open Go.RowKit

/-- block b, blocks from lo to hi and new blocks alone have turned -/
structure Ch (w w' : World) (b lo hi : Nat) : Prop where
  os : w'.os = w.os
  tape : w'.tape = w.tape
  output : w'.output = w.output
  size : w.heap.size ≤ w'.heap.size
  block : ∀ j, j < w.heap.size → j ≠ b → ¬ (lo ≤ j ∧ j < hi) → w'.heap[j]? = w.heap[j]?

theorem Ch.refl (w : World) (b lo hi : Nat) : Ch w w b lo hi := ⟨rfl, rfl, rfl, Nat.le_refl _, fun _ _ _ _ => rfl⟩

theorem Ch.trans {a w w' : World} {b lo hi : Nat} (h : Ch a w b lo hi) (k : Ch w w' b lo hi) : Ch a w' b lo hi :=
  ⟨k.os.trans h.os, k.tape.trans h.tape, k.output.trans h.output, Nat.le_trans h.size k.size, fun j h1 h2 h3 => (k.block j (Nat.lt_of_lt_of_le h1 h.size) h2 h3).trans (h.block j h1 h2 h3)⟩

theorem Ch.mono {w w' : World} {b b' lo hi l m : Nat} (h : Ch w w' b' l m) (hb : b' = b ∨ (lo ≤ b' ∧ b' < hi)) (h1 : lo ≤ l) (h2 : m ≤ hi) : Ch w w' b lo hi :=
  ⟨h.os, h.tape, h.output, h.size, fun j a c d => h.block j a (by rintro rfl; rcases hb with rfl | hb; exact c rfl; exact d hb) (fun e => d ⟨by omega, by omega⟩)⟩

theorem Ch.set {w : World} (b o : Nat) (u : Value) (lo hi : Nat) : Ch w (w.setCell ⟨b, o, none⟩ u) b lo hi :=
  ⟨rfl, rfl, rfl, by simp [World.setCell], fun j _ h _ => Below.heap_setCell w _ _ j h⟩

theorem Ch.new (w : World) (x : Obj) (b lo hi : Nat) : Ch w (w.alloc x) b lo hi := ⟨rfl, rfl, rfl, by simp, fun j h _ _ => Below.heap_alloc w x j h⟩

theorem Ch.below {w w' : World} {b lo hi B : Nat} (h : Ch w w' b lo hi) (hw : B ≤ w.heap.size) (hb : B ≤ b) (hl : B ≤ lo) : Below B w w' :=
  ⟨h.os, h.tape, h.output, h.size, fun k hk => h.block k (by omega) (by omega) (by omega)⟩

/-- the cells of a row from the k-th on -/
def RowFrom (w : World) (b k : Nat) (us : List Value) : Prop := ∀ i v, k ≤ i → us[i]? = some v → w.cell? ⟨b, i, none⟩ = some v ∧ w.frozen? ⟨b, i, none⟩ = false

theorem RowFrom.keep {w w' : World} {b k : Nat} {us : List Value} (hk : w'.heap[b]? = w.heap[b]?) (h : RowFrom w b k us) : RowFrom w' b k us :=
  fun i v hi hu => ⟨by rw [World.cell?_of_block (w := w) hk]; exact (h i v hi hu).1, by rw [World.frozen?_of_block (w := w) hk]; exact (h i v hi hu).2⟩

theorem RowFrom.next {w : World} {b k : Nat} {us : List Value} (h : RowFrom w b k us) (u : Value) : RowFrom (w.setCell ⟨b, k, none⟩ u) b (k + 1) us := by
  intro i v hi hu
  obtain ⟨h1, h2⟩ := h i v (by omega) hu
  refine ⟨?_, ?_⟩
  · rw [← h1]
    unfold World.cell? World.setCell
    simp only [Array.getElem?_modify]
    cases hh : w.heap[b]? with
    | none => simp [hh]
    | some o => cases o <;> simp [hh, Array.getElem?_modify, show ¬ k = i by omega]
  · rw [← h2]
    unfold World.frozen? World.setCell
    simp only [Array.getElem?_modify]
    cases hh : w.heap[b]? with
    | none => simp [hh]
    | some o => cases o <;> simp [hh]

theorem RowFrom.alloc {w : World} {b k : Nat} {us : List Value} (hb : b < w.heap.size) (h : RowFrom w b k us) (x : Obj) : RowFrom (w.alloc x) b k us := h.keep (Below.heap_alloc _ _ _ hb)

theorem getElem?_drop_head {us : List Value} {k : Nat} {v : Value} {rest : List Value} (h : us.drop k = v :: rest) : us[k]? = some v ∧ us.drop (k + 1) = rest := by
  constructor
  · have : (us.drop k)[0]? = some v := by rw [h]; rfl
    simpa using this
  · have h2 : (us.drop k).drop 1 = rest := by rw [h]; rfl
    simpa [Nat.add_comm] using h2

end Go.Proofs.Yteolfpdkpihnlaa

/-
  The walks of the reader's methods Skip and Need, and Fail. Conditions: none but that the reader lies in memory.
-/
set_option linter.unusedSimpArgs false
set_option linter.unusedVariables false
namespace Go.Proofs.Yteolfpdkpihnlaa
open Go.Shelf Go.RowKit

def lays103_ren : Go.Shelf.Ren := ⟨fun | 103 => 103 | 210 => 107 | 206 => 108 | n => n, fun | 9 => 9 | 4 => 4 | 24 => 107 | 3 => 3 | n => n, fun | n => n⟩
theorem lays103 : Go.Proofs.Lays.n103 Try.prog lays103_ren := {
  mixed := by kernel_rfl
  f103 := Try.func103.trans (congrArg some (by kernel_rfl))
  f206 := Try.func108.trans (congrArg some (by kernel_rfl))
  f210 := Try.func107.trans (congrArg some (by kernel_rfl))
  t3 := Try.underlying3
  a3 := Try.isAgg3
  z3 := Try.sizeOf3
  v3 := Try.zeroValue3
  t4 := Try.underlying4
  a4 := Try.isAgg4
  z4 := Try.sizeOf4
  v4 := Try.zeroValue4
  t9 := Try.underlying9
  a9 := Try.isAgg9
  z9 := Try.sizeOf9
  v9 := Try.zeroValue9
  t24 := Try.underlying107
  a24 := Try.isAgg107
  z24 := Try.sizeOf107
  v24 := Try.zeroValue107 }

theorem cut_yes (x : ByteArray) (s p : List UInt8) (hx : x.data.toList = p) (w : World) (h : pre p s = true) :
    Calls Try.prog 103 #[.string ⟨s.toArray⟩, .string x] w fun e w' => e = .returned (.tuple #[.string ⟨(s.drop p.length).toArray⟩, .bool true]) ∧ w = w' := by
  refine (Any.strings_CutPrefix lays103 ⟨s.toArray⟩ x w).mono fun e w' ⟨h1, h2⟩ => ⟨?_, h2.symm⟩
  subst hx
  have e1 : Lib.hasPrefix s x.data.toList = true := h
  rw [h1]
  simp only [Lib.trimPrefix, e1, if_true]

theorem cut_no (x : ByteArray) (s p : List UInt8) (hx : x.data.toList = p) (w : World) (h : pre p s = false) :
    Calls Try.prog 103 #[.string ⟨s.toArray⟩, .string x] w fun e w' => e = .returned (.tuple #[.string ⟨s.toArray⟩, .bool false]) ∧ w = w' := by
  refine (Any.strings_CutPrefix lays103 ⟨s.toArray⟩ x w).mono fun e w' ⟨h1, h2⟩ => ⟨?_, h2.symm⟩
  subst hx
  have e1 : Lib.hasPrefix s x.data.toList = false := h
  rw [h1]
  simp only [Lib.trimPrefix, e1, if_neg Bool.false_ne_true]

/-- a reader in a block of its own, with this rest -/
def Rd (w : World) (b : Nat) (s : List UInt8) : Prop := w.heap[b]? = some (.cells #[.string ⟨s.toArray⟩] 102 (0, 0))

set_option maxHeartbeats 400000 in
theorem skip_yes (b : Nat) (x : ByteArray) (s p : List UInt8) (hx : x.data.toList = p) (w : World) (hr : Rd w b s) (h : pre p s = true) :
    Calls Try.prog 94 #[.pointer (some ⟨b, 0, none⟩), .string x] w fun e w' => e = .returned (.bool true) ∧ w.setCell ⟨b, 0, none⟩ (.string ⟨(s.drop p.length).toArray⟩) = w' := by
  have c1 := cell_of_one hr
  have c2 := free_of_one hr
  have hc := Lib.hid fun w => cut_yes x s p hx w h
  clear h hx hr
  go_enter Try.func94, Try.ntmps94
  go_wp2_with fail
  refine (hc.out _).mono ?_
  rintro e w1 ⟨rfl, rfl⟩
  go_wp2_with fail
  go_ret
  exact ⟨rfl, rfl⟩

set_option maxHeartbeats 400000 in
theorem skip_no (b : Nat) (x : ByteArray) (s p : List UInt8) (hx : x.data.toList = p) (w : World) (hr : Rd w b s) (h : pre p s = false) :
    Calls Try.prog 94 #[.pointer (some ⟨b, 0, none⟩), .string x] w fun e w' => e = .returned (.bool false) ∧ w.setCell ⟨b, 0, none⟩ (.string ⟨s.toArray⟩) = w' := by
  have c1 := cell_of_one hr
  have c2 := free_of_one hr
  have hc := Lib.hid fun w => cut_no x s p hx w h
  clear h hx hr
  go_enter Try.func94, Try.ntmps94
  go_wp2_with fail
  refine (hc.out _).mono ?_
  rintro e w1 ⟨rfl, rfl⟩
  go_wp2_with fail
  go_ret
  exact ⟨rfl, rfl⟩

set_option maxHeartbeats 400000 in
theorem fail_any (w : World) :
    Calls Try.prog 93 #[] w fun e w' => e = .panicked [{ v := .iface 28 (.int .i64 4), recovered := false }] ∧ w = w' := by
  go_enter Try.func93, Try.ntmps93
  go_wp2_with fail
  exact ⟨rfl, rfl, rfl⟩

set_option maxHeartbeats 400000 in
theorem need_yes (b : Nat) (x : ByteArray) (s p : List UInt8) (hx : x.data.toList = p) (w : World) (hr : Rd w b s) (h : pre p s = true) :
    Calls Try.prog 96 #[.pointer (some ⟨b, 0, none⟩), .string x] w fun e w' => e = .returned (.tuple #[]) ∧ w.setCell ⟨b, 0, none⟩ (.string ⟨(s.drop p.length).toArray⟩) = w' := by
  have hc := Lib.hid fun w hr => skip_yes b x s p hx w hr h
  clear h hx
  go_enter Try.func96, Try.ntmps96
  go_wp2_with fail
  refine (hc.out _ hr).mono ?_
  rintro e w1 ⟨rfl, rfl⟩
  go_wp2_with fail
  go_end0
  exact ⟨rfl, rfl⟩

set_option maxHeartbeats 400000 in
theorem need_no (b : Nat) (x : ByteArray) (s p : List UInt8) (hx : x.data.toList = p) (w : World) (hr : Rd w b s) (h : pre p s = false) :
    Calls Try.prog 96 #[.pointer (some ⟨b, 0, none⟩), .string x] w fun e w' => e = .panicked [{ v := .iface 28 (.int .i64 4), recovered := false }] ∧ w.setCell ⟨b, 0, none⟩ (.string ⟨s.toArray⟩) = w' := by
  have hc := Lib.hid fun w hr => skip_no b x s p hx w hr h
  clear h hx
  go_enter Try.func96, Try.ntmps96
  go_wp2_with fail
  refine (hc.out _ hr).mono ?_
  rintro e w1 ⟨rfl, rfl⟩
  go_wp2_with fail
  refine (fail_any _).mono ?_
  rintro e w1 ⟨rfl, rfl⟩
  go_wp2_with fail
  exact ⟨rfl, rfl, rfl⟩

namespace T
def app : T → T → T
  | nil, t => t
  | cons h a, t => cons h (a.app t)

theorem app_nil (a : T) : a.app nil = a := by
  induction a with
  | nil => rfl
  | cons h a _ ih => simp [app, ih]

theorem app_snoc (a h t : T) : (a.snoc h).app t = a.app (cons h t) := by
  induction a with
  | nil => rfl
  | cons x a _ ih => simp [app, snoc, ih]

theorem len_snoc (a h : T) : (a.snoc h).len = a.len + 1 := by
  induction a with
  | nil => rfl
  | cons x a _ ih => simp [snoc, len, ih]

theorem take_snoc_self (a h : T) : (a.snoc h).take a.len = a := by
  induction a with
  | nil => exact take_zero _
  | cons x a _ ih => show cons x ((a.snoc h).take a.len) = _; rw [ih]

theorem get_snoc_self (a h : T) : (a.snoc h).get a.len = h := by
  induction a with
  | nil => rfl
  | cons x a _ ih => exact ih
end T

theorem ownsRow_grown {w w' : World} {B b : Nat} {ty : TypeId} {v : Value} {n : Nat} {xs : List Value} (h : w.ownsRow B ty 1 v n xs) (hb : b < B) (hg : w.grownBy w' (some b)) : w'.ownsRow B ty 1 v n xs := by
  refine h.kept hg ?_
  cases hv : v.ownBlock with
  | none => exact Or.inl rfl
  | some g =>
    right
    intro e
    have := (h.lt g hv).1
    injection e with e
    omega

theorem grown_set {w wr : World} {b : Nat} (h : w.grownBy wr (some b)) (u : Value) : w.grownBy (wr.setCell ⟨b, 0, none⟩ u) (some b) :=
  ⟨h.os, h.tape, h.output, by simpa [World.setCell] using h.size, fun i hi hn => (Below.heap_setCell wr _ _ i (by rintro rfl; exact hn rfl)).trans (h.block i hi hn)⟩

theorem grown_tr {a w c : World} {b : Nat} (h : a.grownBy w (some b)) (k : w.grownBy c (some b)) : a.grownBy c (some b) :=
  ⟨k.os.trans h.os, k.tape.trans h.tape, k.output.trans h.output, Nat.le_trans h.size k.size, fun i hi hn => (k.block i (Nat.lt_of_lt_of_le hi h.size) hn).trans (h.block i hi hn)⟩

theorem rd_set {w : World} {b : Nat} {s : List UInt8} (h : Rd w b s) (r : List UInt8) : Rd (w.setCell ⟨b, 0, none⟩ (.string ⟨r.toArray⟩)) b r := one_setCell h

end Go.Proofs.Yteolfpdkpihnlaa

/-
  The walks of read and bracketed. Conditions: a text of at most 65536 bytes.
-/
set_option linter.unusedSimpArgs false
set_option linter.unusedVariables false
namespace Go.Proofs.Yteolfpdkpihnlaa
open Go.RowKit

/-- what sort does at a rest s -/
def SortOk (w : World) (b : Nat) (t : T) (r : List UInt8) (e : Ending) (w' : World) : Prop :=
  ∃ q c, e = .returned (.agg #[.slice q t.len c]) ∧ Rd w' b r ∧ Own w' t q c w.heap.size w'.heap.size ∧ w.grownBy w' (some b)
def SortBad (w : World) (b : Nat) (e : Ending) (w' : World) : Prop := e = .panicked [{ v := .iface 28 (.int .i64 4), recovered := false }] ∧ w.grownBy w' (some b)

theorem grown_new {w wr : World} {b : Nat} (h : w.grownBy wr (some b)) (x : Obj) : w.grownBy (wr.alloc x) (some b) :=
  grown_tr h ⟨rfl, rfl, rfl, by simp, fun i hi _ => Below.heap_alloc wr x i hi⟩

theorem grown_own {w wr : World} {b : Nat} (h : w.grownBy wr (some b)) {j : Nat} (hj : w.heap.size ≤ j) (u : Value) : w.grownBy (wr.setCell ⟨j, 0, none⟩ u) (some b) :=
  ⟨h.os, h.tape, h.output, by simpa [World.setCell] using h.size, fun i hi hn => (Below.heap_setCell wr _ _ i (show i ≠ j by omega)).trans (h.block i hi hn)⟩

/-- what is left of the reader's text, for the loop's measure -/
def restLen (w : World) (b : Nat) : Nat :=
  match w.cell? ⟨b, 0, none⟩ with
  | some (.string x) => x.size
  | _ => 0

theorem restLen_rd {w : World} {b : Nat} {s : List UInt8} (h : Rd w b s) : restLen w b = s.length := by
  have := cell_of_one h
  unfold restLen
  rw [this]
  simp [ByteArray.size]

/-- what sort does at s, whatever s is -/
def SortAny (w : World) (b : Nat) (s : List UInt8) (e : Ending) (w' : World) : Prop :=
  (∀ t r, rd s = some (t, r) → SortOk w b t r e w') ∧ (rd s = none → SortBad w b e w')

theorem rd_o_more (r : List UInt8) : rd (111 :: 32 :: 62 :: 32 :: r) = (rd r).map (fun x => (T.cons T.nil x.1, x.2)) := by
  rw [rd_step, if_neg (by simp [Proofs.Yteolfpdkpihnlaa.pre]), if_pos (by simp [Proofs.Yteolfpdkpihnlaa.pre]), if_pos (by simp [Proofs.Yteolfpdkpihnlaa.pre])]; rfl

theorem rd_o_end (r : List UInt8) (h : Proofs.Yteolfpdkpihnlaa.pre [32, 62, 32] r = false) : rd (111 :: r) = some (T.nil, r) := by
  rw [rd_step, if_neg (by simp [Proofs.Yteolfpdkpihnlaa.pre]), if_pos (by simp [Proofs.Yteolfpdkpihnlaa.pre])]
  simp [h]

theorem rd_neither (r : List UInt8) (h1 : ¬ Proofs.Yteolfpdkpihnlaa.pre [40] r = true) (h2 : ¬ Proofs.Yteolfpdkpihnlaa.pre [111] r = true) : rd r = none := by
  rw [rd_step, if_neg h1, if_neg h2]

theorem rd_open_none (s : List UInt8) (h : rd s = none) : rd (40 :: s) = none := by rw [rd_open, h]

theorem rd_open_bad (s : List UInt8) (h : T) (r : List UInt8) (hs : rd s = some (h, r)) (hb : ¬ (h.len ≠ 0 ∧ Proofs.Yteolfpdkpihnlaa.pre [41] r = true ∧ Proofs.Yteolfpdkpihnlaa.pre [32, 62, 32] (r.drop 1) = true)) : rd (40 :: s) = none := by
  rw [rd_open, hs]
  simp only
  rw [if_neg hb]

theorem rd_open_more (s : List UInt8) (h : T) (r : List UInt8) (hs : rd s = some (h, 41 :: 32 :: 62 :: 32 :: r)) (h0 : h.len ≠ 0) : rd (40 :: s) = (rd r).map (fun x => (T.cons h x.1, x.2)) := by
  rw [rd_open, hs]
  simp only
  rw [if_pos ⟨h0, by simp [Proofs.Yteolfpdkpihnlaa.pre], by simp [Proofs.Yteolfpdkpihnlaa.pre]⟩]
  rfl

theorem rd_push {s r r4 : List UInt8} {acc h : T} (hrd : rd s = (rd r).map (fun x => (acc.app x.1, x.2))) (h1 : rd r = (rd r4).map (fun x => (T.cons h x.1, x.2))) : rd s = (rd r4).map (fun x => ((acc.snoc h).app x.1, x.2)) := by
  rw [hrd, h1, Option.map_map]
  congr 1
  funext x
  simp [T.app_snoc]

theorem any_bad {w w' : World} {b : Nat} {s r : List UInt8} {acc : T} {e : Ending} (hrd : rd s = (rd r).map (fun x => (acc.app x.1, x.2))) (h1 : rd r = none) (h : SortBad w b e w') : SortAny w b s e w' := by
  rw [h1] at hrd
  exact ⟨fun t r' h2 => (by rw [hrd] at h2; cases h2), fun _ => h⟩

theorem any_ok {w w' : World} {b : Nat} {s r r1 : List UInt8} {acc : T} {e : Ending} (hrd : rd s = (rd r).map (fun x => (acc.app x.1, x.2))) (h1 : rd r = some (T.nil, r1)) (h : SortOk w b acc r1 e w') : SortAny w b s e w' := by
  rw [h1] at hrd
  simp only [Option.map_some, T.app_nil] at hrd
  exact ⟨fun t r' h2 => (by rw [hrd] at h2; simp only [Option.some.injEq, Prod.mk.injEq] at h2; obtain ⟨rfl, rfl⟩ := h2; exact h), fun h2 => (by rw [hrd] at h2; cases h2)⟩

theorem grown_refl (w : World) (b : Nat) : w.grownBy w (some b) := ⟨rfl, rfl, rfl, Nat.le_refl _, fun _ _ _ => rfl⟩

theorem rest_lt {w w' : World} {b : Nat} {s s' : List UInt8} (h : Rd w b s) (h' : Rd w' b s') (hl : s'.length < s.length) : restLen w' b < restLen w b := by
  rw [restLen_rd h, restLen_rd h']; exact hl

end Go.Proofs.Yteolfpdkpihnlaa

