/-
  Parts of one proof, laid into one text: Mem2. Conditions: each part names its own.
-/
import Derived.Test.YtjkcopgfcafpeaaGreatDoorMg02
import Derived.Lib.Builder
import Derived.Lib.UnsafeStr

/-
  More on memory: a builder of the call's own is kept where only new blocks come. Conditions: none.
-/
namespace Go.Proofs.YtjkcopgfcafpeaaGreatDoor
open Go.RowKit

theorem builderAt_keep {T e : TypeId} {B b : Nat} {p : Value} {bs : List Value} {w w' : World} (h : Lib.BuilderAt T e B b p bs w) (hb : Below w.heap.size w w') : Lib.BuilderAt T e B b p bs w' := by
  have hlt := h.lt
  obtain ⟨h1, v, h2, h3, h4⟩ := h
  refine ⟨h1, v, by rw [hb.block b hlt]; exact h2, h3.kept (row := none) ⟨hb.os, hb.tape, hb.output, hb.size, fun k hk _ => hb.block k hk⟩ ?_, h4⟩
  cases v.ownBlock with
  | none => exact Or.inl rfl
  | some g => exact Or.inr (by simp)

theorem isBuilder_keep {T e : TypeId} {B b : Nat} {bs : List Value} {w w' : World} (h : Lib.IsBuilder T e B b bs w) (hb : Below w.heap.size w w') : Lib.IsBuilder T e B b bs w' := by
  rcases h with h | h
  · exact Or.inl (builderAt_keep h hb)
  · exact Or.inr (builderAt_keep h hb)

theorem isBuilder_alloc {T e : TypeId} {B b : Nat} {bs : List Value} {w : World} (h : Lib.IsBuilder T e B b bs w) (x : Obj) : Lib.IsBuilder T e B b bs (w.alloc x) :=
  isBuilder_keep h ((Below.refl _ _).alloc (Nat.le_refl _) _)

theorem str_append (a b : List UInt8) : (⟨a.toArray⟩ : ByteArray) ++ (⟨b.toArray⟩ : ByteArray) = ⟨(a ++ b).toArray⟩ := by
  apply ByteArray.ext
  simp

theorem str_toList_append (a b : ByteArray) : (a ++ b).data.toList = a.data.toList ++ b.data.toList := by simp

theorem len_ok {d l : List UInt8} {x : ByteArray} (hx : x.data.toList = l) (h : d.length + l.length ≤ 100000) : (Lib.byteCells d).length + x.size ≤ 140737488355328 := by
  subst hx
  rw [Lib.byteCells_length]
  have : x.size = x.data.toList.length := (Array.length_toList).symm
  omega

/-- what is held after a write -/
theorem wrote {T e : TypeId} {B b : Nat} {q : Value} {d l : List UInt8} {x : ByteArray} {w : World} (hq : q = .pointer (some ⟨b, 0, none⟩)) (hx : x.data.toList = l) (h : Lib.BuilderAt T e B b q (Lib.byteCells d ++ Lib.strCells x) w) : Lib.IsBuilder T e B b (Lib.byteCells (d ++ l)) w := by
  subst hq hx
  rw [Lib.strCells_eq, ← Lib.byteCells_append] at h
  exact Or.inr h

theorem val_str {x : ByteArray} {l : List UInt8} (h : x.data.toList = l) : Value.string x = .string ⟨l.toArray⟩ := by
  subst h; rfl

theorem ret_str' {x : ByteArray} {l : List UInt8} (h : x.data.toList = l) : Ending.returned (.string x) = .returned (.string ⟨l.toArray⟩) := by rw [val_str h]

theorem ret_str {a b : List UInt8} (h : a = b) : Ending.returned (.string ⟨a.toArray⟩) = .returned (.string ⟨b.toArray⟩) := by rw [h]

end Go.Proofs.YtjkcopgfcafpeaaGreatDoor

