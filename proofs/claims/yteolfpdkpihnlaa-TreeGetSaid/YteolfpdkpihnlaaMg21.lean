/-
  Parts of one proof, laid into one text: EScan. Conditions: each part names its own.
-/
import Derived.Test.YteolfpdkpihnlaaMg19
import Derived.Test.YteolfpdkpihnlaaMg09
import Derived.Test.YteolfpdkpihnlaaMg16

/-
  The walks of the reader's while and Name. Conditions: texts of at most 65536 bytes.
-/
set_option linter.unusedSimpArgs false
set_option linter.unusedVariables false
namespace Go.Proofs.Yteolfpdkpihnlaa
open Go.RowKit

def inN (c : UInt8) : Bool := okc (c.toNat : Int)

/-- a name, to the last byte that may belong to one -/
def rdName (s : List UInt8) : Option (ByteArray × List UInt8) :=
  if nm ⟨(s.takeWhile inN).toArray⟩ = true then some (⟨(s.takeWhile inN).toArray⟩, s.dropWhile inN) else none

theorem rdName_lt {s r : List UInt8} {n : ByteArray} (h : rdName s = some (n, r)) : r.length < s.length ∧ n.size ≤ 24 ∧ nm n = true := by
  unfold rdName at h
  split at h
  · rename_i hn
    simp only [Option.some.injEq, Prod.mk.injEq] at h
    obtain ⟨rfl, rfl⟩ := h
    have hl : (s.takeWhile inN).length + (s.dropWhile inN).length = s.length := by
      rw [← List.length_append, List.takeWhile_append_dropWhile]
    have h2 := hn
    unfold nm at h2
    simp only [Bool.and_eq_true, decide_eq_true_eq] at h2
    obtain ⟨⟨⟨h3, h4⟩, _⟩, _⟩ := h2
    have e : (⟨(s.takeWhile inN).toArray⟩ : ByteArray).size = (s.takeWhile inN).length := by simp [ByteArray.size]
    rw [e] at h3
    exact ⟨by omega, h4, hn⟩
  · cases h

theorem grown_set0 (w : World) (b : Nat) (u : Value) : w.grownBy (w.setCell ⟨b, 0, none⟩ u) (some b) := grown_set (grown_refl w b) u

/-- the byte at a place of a list -/
theorem get_byt (s : List UInt8) (i : Nat) (h : i < s.length) : ((⟨s.toArray⟩ : ByteArray)[i]'(by simpa [ByteArray.size] using h)).toNat = (s[i]).toNat := rfl

theorem ext_take (s : List UInt8) (j : Nat) : (⟨s.toArray⟩ : ByteArray).extract 0 j = ⟨(s.take j).toArray⟩ := by
  apply ByteArray.ext
  apply Array.toList_inj.1
  simp [ByteArray.data_extract]

theorem ext_drop (s : List UInt8) (j : Nat) : (⟨s.toArray⟩ : ByteArray).extract j s.length = ⟨(s.drop j).toArray⟩ := by
  apply ByteArray.ext
  apply Array.toList_inj.1
  simp [ByteArray.data_extract]
  exact List.take_of_length_le (by simp)

theorem takeWhile_at (c : UInt8 → Bool) (s : List UInt8) (n : Nat) (h : ∀ i, i < n → c (s.getD i 0) = true) (hn : n ≤ s.length) (he : n = s.length ∨ c (s.getD n 0) = false) : s.takeWhile c = s.take n ∧ s.dropWhile c = s.drop n := by
  induction s generalizing n with
  | nil => simp
  | cons a s ih =>
    cases n with
    | zero =>
      rcases he with he | he
      · simp at he
      · have : c a = false := by simpa using he
        simp [this]
    | succ n =>
      have ha : c a = true := by simpa using h 0 (by omega)
      have := ih n (fun i hi => by simpa using h (i + 1) (by omega)) (by simpa using hn) (by simpa using he)
      simp [ha, this]

set_option maxRecDepth 100000 in
set_option maxHeartbeats 1600000 in
theorem while_name (b : Nat) (s : List UInt8) (w : World) (hr : Rd w b s) (hs : s.length ≤ 65536) :
    Calls Try.prog 104 #[.pointer (some ⟨b, 0, none⟩), .func (Fn.func 101) #[] #[]] w fun e w' => e = .returned (.string ⟨(s.takeWhile inN).toArray⟩) ∧ w.setCell ⟨b, 0, none⟩ (.string ⟨(s.dropWhile inN).toArray⟩) = w' := by
  have c1 := cell_of_one hr
  have c2 := free_of_one hr
  clear hr
  go_enter Try.func104, Try.ntmps104
  go_wp2_with fail
  go_loopw [5] (fun i wr => ∃ j : Nat, j ≤ s.length ∧ i = .int .i64 (j : Int) ∧ (∀ i, i < j → inN (s.getD i 0) = true) ∧ wr = w)
    (fun i _ => s.length - (Go.RowKit.intOf i).toNat)
  case atStart => exact ⟨0, Nat.zero_le _, rfl, fun i h => absurd h (Nat.not_lt_zero _), rfl⟩
  case round =>
    obtain ⟨j, hj, rfl, hall, rfl⟩ := hrel
    have HA := Lib.hid hall
    clear hall
    by_cases hlt : j < s.length
    · obtain ⟨bb, hbb⟩ : ∃ bb, inN (s.getD j 0) = bb := ⟨_, rfl⟩
      have hbyte : okc (s[j].toNat : Int) = bb := by rw [← hbb, List.getD_eq_getElem?_getD, List.getElem?_eq_getElem hlt]; rfl
      have HB := Lib.hid hbb
      have HC := Lib.hid hbyte
      clear hbb hbyte
      go_wp2_with fail
      refine (inname_any _ _).mono ?_
      rintro e w2 ⟨rfl, rfl⟩
      have hc : okc (((⟨s.toArray⟩ : ByteArray)[j]'(by simpa [ByteArray.size] using hlt)).toNat : Int) = bb := HC.out
      rw [hc]
      clear hc
      cases bb with
      | true =>
        go_wp2_with fail
        go_roundw
        case rel => exact ⟨j + 1, by omega, by go_num, fun i hi => (by
          by_cases e : i = j
          · subst e; exact HB.out
          · exact HA.out i (by omega)), by trivial⟩
        case measure => simp [Go.RowKit.intOf]; omega
      | false =>
        obtain ⟨e1, e2⟩ := takeWhile_at inN s j HA.out hj (Or.inr HB.out)
        have E1 := Lib.hid e1
        have E2 := Lib.hid e2
        clear e1 e2
        go_wp2_with fail
        go_ret
        rw [E1.out, E2.out]
        exact ⟨congrArg (fun x => Ending.returned (.string x)) (ext_take s j), congrArg (fun x => World.setCell w2 ⟨b, 0, none⟩ (.string x)) (ext_drop s j).symm⟩
    · obtain ⟨e1, e2⟩ := takeWhile_at inN s j HA.out hj (Or.inl (by omega))
      have E1 := Lib.hid e1
      have E2 := Lib.hid e2
      clear e1 e2
      go_wp2_with fail
      go_ret
      rw [E1.out, E2.out]
      exact ⟨congrArg (fun x => Ending.returned (.string x)) (ext_take s j), congrArg (fun x => World.setCell wr ⟨b, 0, none⟩ (.string x)) (ext_drop s j).symm⟩

def Fails (w : World) (b : Nat) (e : Ending) (w' : World) : Prop := e = .panicked [{ v := .iface 28 (.int .i64 4), recovered := false }] ∧ w.grownBy w' (some b)

theorem grown_call {w w1 w2 : World} {b : Nat} (h : w.grownBy w1 (some b)) (hb : Below w1.heap.size w1 w2) : w.grownBy w2 (some b) :=
  grown_tr h ⟨hb.os, hb.tape, hb.output, hb.size, fun k hk _ => hb.block k hk⟩

theorem rd_below {w w' : World} {b : Nat} {s : List UInt8} (h : Rd w b s) (hb : Below w.heap.size w w') : Rd w' b s := (hb.block _ (lt_of_block h)).trans h

set_option maxHeartbeats 800000 in
theorem rname_yes (b : Nat) (s r : List UInt8) (n : ByteArray) (w : World) (hr : Rd w b s) (hs : s.length ≤ 65536) (h : rdName s = some (n, r)) :
    Calls Try.prog 95 #[.pointer (some ⟨b, 0, none⟩)] w fun e w' => e = .returned (.string n) ∧ Rd w' b r ∧ w.grownBy w' (some b) := by
  unfold rdName at h
  split at h
  · rename_i hn
    simp only [Option.some.injEq, Prod.mk.injEq] at h
    obtain ⟨rfl, rfl⟩ := h
    have HW := Lib.hid fun w hr => while_name b s w hr hs
    have HN := Lib.hid fun w => named_any ⟨(s.takeWhile inN).toArray⟩ w
    rw [hn] at HN
    generalize s.takeWhile inN = p at HW HN ⊢
    generalize s.dropWhile inN = r at HW ⊢
    have HR := Lib.hid hr
    clear hr hs hn
    go_enter Try.func95, Try.ntmps95
    go_wp2_with fail
    refine (HW.out _ HR.out).mono ?_
    rintro e w1 ⟨rfl, hw1⟩
    have h1 : Rd w1 b r := by rw [← hw1]; exact rd_set HR.out r
    have g1 : w.grownBy w1 (some b) := by rw [← hw1]; exact grown_set0 _ _ _
    clear hw1 HR HW
    go_wp2_with fail
    refine (HN.out _).mono ?_
    rintro e w2 ⟨rfl, hb2⟩
    go_wp2_with fail
    go_ret
    exact ⟨rfl, rd_below h1 hb2, grown_call g1 hb2⟩
  · cases h

set_option maxHeartbeats 800000 in
theorem rname_no (b : Nat) (s : List UInt8) (w : World) (hr : Rd w b s) (hs : s.length ≤ 65536) (h : rdName s = none) :
    Calls Try.prog 95 #[.pointer (some ⟨b, 0, none⟩)] w (Fails w b) := by
  unfold rdName at h
  split at h
  · cases h
  · rename_i hn
    have hn : nm ⟨(s.takeWhile inN).toArray⟩ = false := by simpa using hn
    have HW := Lib.hid fun w hr => while_name b s w hr hs
    have HN := Lib.hid fun w => named_any ⟨(s.takeWhile inN).toArray⟩ w
    rw [hn] at HN
    generalize s.takeWhile inN = p at HW HN ⊢
    generalize s.dropWhile inN = r at HW ⊢
    have HR := Lib.hid hr
    clear hr hs hn h
    go_enter Try.func95, Try.ntmps95
    go_wp2_with fail
    refine (HW.out _ HR.out).mono ?_
    rintro e w1 ⟨rfl, hw1⟩
    have g1 : w.grownBy w1 (some b) := by rw [← hw1]; exact grown_set0 _ _ _
    clear hw1 HR HW
    go_wp2_with fail
    refine (HN.out _).mono ?_
    rintro e w2 ⟨rfl, hb2⟩
    go_wp2_with fail
    refine (fail_any _).mono ?_
    rintro e w3 ⟨rfl, rfl⟩
    go_wp2_with fail
    exact ⟨rfl, rfl, grown_call g1 hb2⟩

end Go.Proofs.Yteolfpdkpihnlaa

