/-
  The walks of the reader's methods Skip and Need, and Fail. Conditions: none but that the reader lies in memory.
-/
import Derived.Test.YteokoilpnabmhaaLawD
import Derived.Test.YteokoilpnabmhaaPlainP
set_option linter.unusedSimpArgs false
set_option linter.unusedVariables false
namespace Go.Proofs.Yteokoilpnabmhaa
open Go.Shelf Go.RowKit

def lays103_ren : Go.Shelf.Ren := ⟨fun | 103 => 60 | 210 => 62 | 206 => 63 | n => n, fun | 9 => 9 | 4 => 4 | 24 => 70 | 3 => 3 | n => n, fun | n => n⟩
theorem lays103 : Go.Proofs.Lays.n103 Try.prog lays103_ren := {
  mixed := by kernel_rfl
  f103 := Try.func60.trans (congrArg some (by kernel_rfl))
  f206 := Try.func63.trans (congrArg some (by kernel_rfl))
  f210 := Try.func62.trans (congrArg some (by kernel_rfl))
  t3 := Try.underlying3
  a3 := Try.isAgg3
  z3 := Try.sizeOf3
  v3 := Try.zeroValue3
  t4 := Try.underlying4
  a4 := Try.isAgg4
  z4 := Try.sizeOf4
  v4 := Try.zeroValue4
  t9 := Try.underlying9
  a9 := Try.isAgg9
  z9 := Try.sizeOf9
  v9 := Try.zeroValue9
  t24 := Try.underlying70
  a24 := Try.isAgg70
  z24 := Try.sizeOf70
  v24 := Try.zeroValue70 }

theorem cut_yes (x : ByteArray) (s p : List UInt8) (hx : x.data.toList = p) (w : World) (h : pre p s = true) :
    Calls Try.prog 60 #[.string ⟨s.toArray⟩, .string x] w fun e w' => e = .returned (.tuple #[.string ⟨(s.drop p.length).toArray⟩, .bool true]) ∧ w = w' := by
  refine (Any.strings_CutPrefix lays103 ⟨s.toArray⟩ x w).mono fun e w' ⟨h1, h2⟩ => ⟨?_, h2.symm⟩
  subst hx
  have e1 : Lib.hasPrefix s x.data.toList = true := h
  rw [h1]
  simp only [Lib.trimPrefix, e1, if_true]

theorem cut_no (x : ByteArray) (s p : List UInt8) (hx : x.data.toList = p) (w : World) (h : pre p s = false) :
    Calls Try.prog 60 #[.string ⟨s.toArray⟩, .string x] w fun e w' => e = .returned (.tuple #[.string ⟨s.toArray⟩, .bool false]) ∧ w = w' := by
  refine (Any.strings_CutPrefix lays103 ⟨s.toArray⟩ x w).mono fun e w' ⟨h1, h2⟩ => ⟨?_, h2.symm⟩
  subst hx
  have e1 : Lib.hasPrefix s x.data.toList = false := h
  rw [h1]
  simp only [Lib.trimPrefix, e1, if_neg Bool.false_ne_true]

/-- a reader in a block of its own, with this rest -/
def Rd (w : World) (b : Nat) (s : List UInt8) : Prop := w.heap[b]? = some (.cells #[.string ⟨s.toArray⟩] 66 (0, 0))

set_option maxHeartbeats 400000 in
theorem skip_yes (b : Nat) (x : ByteArray) (s p : List UInt8) (hx : x.data.toList = p) (w : World) (hr : Rd w b s) (h : pre p s = true) :
    Calls Try.prog 55 #[.pointer (some ⟨b, 0, none⟩), .string x] w fun e w' => e = .returned (.bool true) ∧ w.setCell ⟨b, 0, none⟩ (.string ⟨(s.drop p.length).toArray⟩) = w' := by
  have c1 := cell_of_one hr
  have c2 := free_of_one hr
  have hc := Lib.hid fun w => cut_yes x s p hx w h
  clear h hx hr
  go_enter Try.func55, Try.ntmps55
  go_wp2_with fail
  refine (hc.out _).mono ?_
  rintro e w1 ⟨rfl, rfl⟩
  go_wp2_with fail
  go_ret
  exact ⟨rfl, rfl⟩

set_option maxHeartbeats 400000 in
theorem skip_no (b : Nat) (x : ByteArray) (s p : List UInt8) (hx : x.data.toList = p) (w : World) (hr : Rd w b s) (h : pre p s = false) :
    Calls Try.prog 55 #[.pointer (some ⟨b, 0, none⟩), .string x] w fun e w' => e = .returned (.bool false) ∧ w.setCell ⟨b, 0, none⟩ (.string ⟨s.toArray⟩) = w' := by
  have c1 := cell_of_one hr
  have c2 := free_of_one hr
  have hc := Lib.hid fun w => cut_no x s p hx w h
  clear h hx hr
  go_enter Try.func55, Try.ntmps55
  go_wp2_with fail
  refine (hc.out _).mono ?_
  rintro e w1 ⟨rfl, rfl⟩
  go_wp2_with fail
  go_ret
  exact ⟨rfl, rfl⟩

set_option maxHeartbeats 400000 in
theorem fail_any (w : World) :
    Calls Try.prog 54 #[] w fun e w' => e = .panicked [{ v := .iface 27 (.int .i64 4), recovered := false }] ∧ w = w' := by
  go_enter Try.func54, Try.ntmps54
  go_wp2_with fail
  exact ⟨rfl, rfl, rfl⟩

set_option maxHeartbeats 400000 in
theorem need_yes (b : Nat) (x : ByteArray) (s p : List UInt8) (hx : x.data.toList = p) (w : World) (hr : Rd w b s) (h : pre p s = true) :
    Calls Try.prog 57 #[.pointer (some ⟨b, 0, none⟩), .string x] w fun e w' => e = .returned (.tuple #[]) ∧ w.setCell ⟨b, 0, none⟩ (.string ⟨(s.drop p.length).toArray⟩) = w' := by
  have hc := Lib.hid fun w hr => skip_yes b x s p hx w hr h
  clear h hx
  go_enter Try.func57, Try.ntmps57
  go_wp2_with fail
  refine (hc.out _ hr).mono ?_
  rintro e w1 ⟨rfl, rfl⟩
  go_wp2_with fail
  go_end0
  exact ⟨rfl, rfl⟩

set_option maxHeartbeats 400000 in
theorem need_no (b : Nat) (x : ByteArray) (s p : List UInt8) (hx : x.data.toList = p) (w : World) (hr : Rd w b s) (h : pre p s = false) :
    Calls Try.prog 57 #[.pointer (some ⟨b, 0, none⟩), .string x] w fun e w' => e = .panicked [{ v := .iface 27 (.int .i64 4), recovered := false }] ∧ w.setCell ⟨b, 0, none⟩ (.string ⟨s.toArray⟩) = w' := by
  have hc := Lib.hid fun w hr => skip_no b x s p hx w hr h
  clear h hx
  go_enter Try.func57, Try.ntmps57
  go_wp2_with fail
  refine (hc.out _ hr).mono ?_
  rintro e w1 ⟨rfl, rfl⟩
  go_wp2_with fail
  refine (fail_any _).mono ?_
  rintro e w1 ⟨rfl, rfl⟩
  go_wp2_with fail
  exact ⟨rfl, rfl, rfl⟩

namespace T
def app : T → T → T
  | nil, t => t
  | cons h a, t => cons h (a.app t)

theorem app_nil (a : T) : a.app nil = a := by
  induction a with
  | nil => rfl
  | cons h a _ ih => simp [app, ih]

theorem app_snoc (a h t : T) : (a.snoc h).app t = a.app (cons h t) := by
  induction a with
  | nil => rfl
  | cons x a _ ih => simp [app, snoc, ih]

theorem len_snoc (a h : T) : (a.snoc h).len = a.len + 1 := by
  induction a with
  | nil => rfl
  | cons x a _ ih => simp [snoc, len, ih]

theorem take_snoc_self (a h : T) : (a.snoc h).take a.len = a := by
  induction a with
  | nil => exact take_zero _
  | cons x a _ ih => show cons x ((a.snoc h).take a.len) = _; rw [ih]

theorem get_snoc_self (a h : T) : (a.snoc h).get a.len = h := by
  induction a with
  | nil => rfl
  | cons x a _ ih => exact ih
end T

/-- where the loop of sort stands: what it has collected, what is left to read -/
structure St (w wr : World) (b : Nat) (acc : T) (q : Option Addr) (c : Nat) (xs : List Value) (r : List UInt8) : Prop where
  rest : Rd wr b r
  own : wr.ownsRow (w.heap.size + 2) 24 1 (.slice q acc.len c) acc.len xs
  kids : Kids wr acc xs (Value.slice q acc.len c).ownBlock (w.heap.size + 2) wr.heap.size
  out : wr.heap[w.heap.size + 1]? = some (.cells #[.slice q acc.len c] 24 (0, 0))
  res : wr.heap[w.heap.size]? = some (.cells #[.slice none 0 0] 24 (0, 0))
  grown : w.grownBy wr (some b)
  lt : b < w.heap.size

theorem ownsRow_grown {w w' : World} {B b : Nat} {ty : TypeId} {v : Value} {n : Nat} {xs : List Value} (h : w.ownsRow B ty 1 v n xs) (hb : b < B) (hg : w.grownBy w' (some b)) : w'.ownsRow B ty 1 v n xs := by
  refine h.kept hg ?_
  cases hv : v.ownBlock with
  | none => exact Or.inl rfl
  | some g =>
    right
    intro e
    have := (h.lt g hv).1
    injection e with e
    omega

theorem grown_set {w wr : World} {b : Nat} (h : w.grownBy wr (some b)) (u : Value) : w.grownBy (wr.setCell ⟨b, 0, none⟩ u) (some b) :=
  ⟨h.os, h.tape, h.output, by simpa [World.setCell] using h.size, fun i hi hn => (Below.heap_setCell wr _ _ i (by rintro rfl; exact hn rfl)).trans (h.block i hi hn)⟩

theorem grown_tr {a w c : World} {b : Nat} (h : a.grownBy w (some b)) (k : w.grownBy c (some b)) : a.grownBy c (some b) :=
  ⟨k.os.trans h.os, k.tape.trans h.tape, k.output.trans h.output, Nat.le_trans h.size k.size, fun i hi hn => (k.block i (Nat.lt_of_lt_of_le hi h.size) hn).trans (h.block i hi hn)⟩

theorem rd_set {w : World} {b : Nat} {s : List UInt8} (h : Rd w b s) (r : List UInt8) : Rd (w.setCell ⟨b, 0, none⟩ (.string ⟨r.toArray⟩)) b r := one_setCell h

/-- a step that turns the reader's block, and makes new ones -/
theorem St.step {w wr w1 : World} {b : Nat} {acc : T} {q : Option Addr} {c : Nat} {xs : List Value} {r r1 : List UInt8} (h : St w wr b acc q c xs r) (hg : wr.grownBy w1 (some b)) (hr : Rd w1 b r1) : St w w1 b acc q c xs r1 := by
  have hl := h.lt
  have h1 := lt_of_block h.out
  have h2 := lt_of_block h.res
  refine ⟨hr, ownsRow_grown h.own (by omega) hg, ?_, ?_, ?_, grown_tr h.grown hg, h.lt⟩
  · exact (h.kids.keep fun j hj hj2 _ => hg.block j hj2 (fun e => by injection e; omega)).mono (Nat.le_refl _) hg.size
  · rw [hg.block _ h1 (fun e => by injection e; omega)]; exact h.out
  · rw [hg.block _ h2 (fun e => by injection e; omega)]; exact h.res

theorem St.skip {w wr : World} {b : Nat} {acc : T} {q : Option Addr} {c : Nat} {xs : List Value} {r : List UInt8} (h : St w wr b acc q c xs r) (r1 : List UInt8) : St w (wr.setCell ⟨b, 0, none⟩ (.string ⟨r1.toArray⟩)) b acc q c xs r1 :=
  h.step (grown_set ⟨rfl, rfl, rfl, Nat.le_refl _, fun _ _ _ => rfl⟩ _) (rd_set h.rest r1)

theorem St.alloc {w wr : World} {b : Nat} {acc : T} {q : Option Addr} {c : Nat} {xs : List Value} {r : List UInt8} (h : St w wr b acc q c xs r) (x : Obj) : St w (wr.alloc x) b acc q c xs r :=
  h.step ⟨rfl, rfl, rfl, by simp, fun i hi _ => Below.heap_alloc wr x i hi⟩ (alloc_kept h.rest x)

/-- one more is collected -/
theorem St.push {w W W2 w3 : World} {b : Nat} {acc h : T} {q q1 : Option Addr} {c c1 g cp m : Nat} {xs : List Value} {r r2 : List UInt8} {Y : Obj} (S : St w W b acc q c xs r) (G : W.grownBy W2 (some b)) (R : Rd W2 b r2)
    (O : Own W2 h q1 c1 W.heap.size m) (hm1 : W.heap.size ≤ m) (hm : m ≤ W2.heap.size)
    (hown : w3.ownsRow (w.heap.size + 2) 24 1 (.slice (some ⟨g, 0, none⟩) (acc.len + 1) cp) (acc.len + 1) (xs ++ [.slice q1 h.len c1]))
    (hgrow : (W2.alloc Y).grownBy w3 (Value.slice q acc.len c).ownBlock) (hat : (Value.slice q acc.len c).ownBlock = some g ∨ g = W2.heap.size + 1) :
    St w (w3.setCell ⟨w.heap.size + 1, 0, none⟩ (.slice (some ⟨g, 0, none⟩) (acc.len + 1) cp)) b (acc.snoc h) (some ⟨g, 0, none⟩) cp (xs ++ [.slice q1 h.len c1]) r2 := by
  have hl := S.lt
  have S2 := S.step G R
  have hlt := S.own.lt
  have hlt2 := S2.own.lt
  have hk : acc.len < (acc.snoc h).len := by rw [T.len_snoc]; omega
  have hblk : ∀ j, j < W2.heap.size → (Value.slice q acc.len c).ownBlock ≠ some j → w3.heap[j]? = W2.heap[j]? := fun j hj hn => by
    rw [hgrow.block j (by simp only [World.size_alloc]; omega) (fun e => hn e.symm), Below.heap_alloc _ _ _ hj]
  have low : ∀ j, j < w.heap.size + 2 → (Value.slice q acc.len c).ownBlock ≠ some j := fun j hj e => by have := (hlt j e).1; omega
  have o1 := lt_of_block S2.out
  have got := Got.step (w := W2.alloc Y) (w1 := w3) (ty := 24) (t := acc.snoc h) (k := acc.len) (B := w.heap.size + 2) (v := .slice q acc.len c) (q := q1) (c := c1) (lo := W.heap.size) (hi := m) (g := g) (cap := cp) (xs := xs) hk
    (by rw [T.take_snoc_self]; exact S.kids.keep fun j hj hj2 _ => by rw [Below.heap_alloc _ _ _ (by have := G.size; omega)]; exact G.block j hj2 (fun e => by injection e; omega))
    hm1 (by simp only [World.size_alloc]; omega) (fun j hj => (hlt j hj).2) (by rw [T.get_snoc_self]; exact O.keep fun j _ hj => Below.heap_alloc _ _ _ (by omega))
    (by rw [T.get_snoc_self]; exact hown) hgrow (by simpa using hat)
  have got2 := got.set (a := ⟨w.heap.size + 1, 0, none⟩) (show w.heap.size + 1 < w.heap.size + 2 by omega) (.slice (some ⟨g, 0, none⟩) (acc.len + 1) cp)
  have hrd : Rd w3 b r2 := by unfold Rd; rw [hblk b (by have := G.size; have := S.grown.size; omega) (low b (by omega))]; exact R
  have hout : w3.heap[w.heap.size + 1]? = some (.cells #[.slice q acc.len c] 24 (0, 0)) := by rw [hblk _ o1 (low _ (by omega))]; exact S2.out
  have hres : w3.heap[w.heap.size]? = some (.cells #[.slice none 0 0] 24 (0, 0)) := by rw [hblk _ (lt_of_block S2.res) (low _ (by omega))]; exact S2.res
  have hx : (xs ++ [Value.slice q1 h.len c1]).length = acc.len + 1 := by simpa using hown.1
  refine ⟨?_, ?_, ?_, ?_, ?_, ?_, hl⟩
  · unfold Rd; rw [Below.heap_setCell _ _ _ _ (show b ≠ w.heap.size + 1 by omega)]; exact hrd
  · rw [T.len_snoc]; exact ownsRow_setCell_below hown (show w.heap.size + 1 < w.heap.size + 2 by omega) _
  · obtain ⟨xs', h1, h2⟩ := got
    rw [← T.len_snoc acc h, T.take_all _ _ (Nat.le_refl _) (Nat.lt_irrefl _)] at h2
    have e : xs' = xs ++ [Value.slice q1 h.len c1] := by
      rcases h1.2 with ⟨e1, _⟩ | ⟨g1, cap1, cur1, e1, _, hg1, _, _, _, ht1⟩
      · cases e1
      · rcases hown.2 with ⟨e2, _⟩ | ⟨g2, cap2, cur2, e2, _, hg2, _, _, _, ht2⟩
        · cases e2
        · have eg : g1 = g2 := by rw [e1] at e2; injection e2 with e2; injection e2 with e2; injection e2
          subst eg
          rw [hg1] at hg2
          injection hg2 with hg2
          injection hg2 with hg2
          subst hg2
          rw [← ht1, ← ht2]
    rw [T.len_snoc]
    have hs : (w3.setCell ⟨w.heap.size + 1, 0, none⟩ (.slice (some ⟨g, 0, none⟩) (acc.len + 1) cp)).heap.size = w3.heap.size := by simp [World.setCell]
    rw [hs, ← e]
    rw [T.len_snoc] at h2
    exact h2.keep fun j hj _ _ => Below.heap_setCell _ _ _ _ (show j ≠ w.heap.size + 1 by omega)
  · rw [T.len_snoc]; exact one_setCell hout
  · rw [Below.heap_setCell _ _ _ _ (show w.heap.size ≠ w.heap.size + 1 by omega)]; exact hres
  · have g1 := S2.grown
    refine ⟨hgrow.os.trans g1.os, hgrow.tape.trans g1.tape, hgrow.output.trans g1.output, ?_, fun i hi hn => ?_⟩
    · have := hgrow.size; have := g1.size; simp only [World.size_alloc] at *; simp only [World.setCell, Array.size_modify]; omega
    · rw [Below.heap_setCell _ _ _ _ (show i ≠ w.heap.size + 1 by omega), hblk i (by have := g1.size; omega) (low i (by omega))]
      exact g1.block i hi hn

end Go.Proofs.Yteokoilpnabmhaa
