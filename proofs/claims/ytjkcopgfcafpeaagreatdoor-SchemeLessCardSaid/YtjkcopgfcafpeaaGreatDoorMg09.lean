/-
  Parts of one proof, laid into one text: TWalkK. Conditions: each part names its own.
-/
import Derived.Test.YtjkcopgfcafpeaaGreatDoorMg02
import Derived.Test.YtjkcopgfcafpeaaGreatDoorMg07
import Derived.Lib.ConvBytes
import Derived.Laws.Closers25

/-
  The walks of names: letter, digit, inName, IsName, and the reference's Name. Conditions: none.
-/
set_option linter.unusedSimpArgs false
set_option linter.unusedVariables false
namespace Go.Proofs.YtjkcopgfcafpeaaGreatDoor
open Go.RowKit

def isL (b : Int) : Bool := decide (97 ≤ b) && decide (b ≤ 122)

set_option maxHeartbeats 400000 in
theorem letter_any (b : Int) (w : World) : Calls Tryz.prog 111 #[.int .u8 b] w fun e w' => e = .returned (.bool (isL b)) ∧ w' = w := by
  by_cases h : 97 ≤ b
  · have hd : decide (97 ≤ b) = true := by simp [h]
    have e1 : isL b = decide (b ≤ 122) := by simp [isL, h]
    rw [e1]
    clear h e1
    go_enter Tryz.func111, Tryz.ntmps111
    go_wp2_with fail
    go_ret
    exact ⟨rfl, rfl⟩
  · have hd : decide (97 ≤ b) = false := by simp [h]
    have e1 : isL b = false := by simp [isL, h]
    rw [e1]
    clear h e1
    go_enter Tryz.func111, Tryz.ntmps111
    go_wp2_with fail
    go_ret
    exact ⟨rfl, rfl⟩

def okc (b : Int) : Bool := isL b || (decide (48 ≤ b) && decide (b ≤ 57)) || decide (b = 95)

/-- the byte at a place -/
def byt (s : ByteArray) (i : Nat) : Int := ((s.data.toList.getD i 0).toNat : Int)

theorem byt_get (s : ByteArray) (i : Nat) (h : i < s.size) : (s[i].toNat : Int) = byt s i := by
  unfold byt
  congr 2
  have h2 : i < s.data.toList.length := by simpa using h
  rw [List.getD_eq_getElem?_getD, List.getElem?_eq_getElem h2]
  rfl

/-- all bytes from the i-th on are good -/
def oks (s : ByteArray) (i : Nat) : Bool := (s.data.toList.drop i).all fun c => okc (c.toNat : Int)

theorem oks_step (s : ByteArray) (i : Nat) (h : i < s.size) : oks s i = (okc (byt s i) && oks s (i + 1)) := by
  have h2 : i < s.data.toList.length := by simpa using h
  unfold oks byt
  rw [List.drop_eq_getElem_cons h2, List.all_cons, List.getD_eq_getElem?_getD, List.getElem?_eq_getElem h2]
  rfl

theorem oks_end (s : ByteArray) (i : Nat) (h : s.size ≤ i) : oks s i = true := by
  have h2 : s.data.toList.length ≤ i := by simpa using h
  unfold oks
  rw [List.drop_eq_nil_of_le h2]; rfl

/-- is a string a name? -/
def nm (s : ByteArray) : Bool := decide (0 < s.size) && decide (s.size ≤ 24) && isL (byt s 0) && oks s 0

theorem toList_empty (s : ByteArray) (h : 0 < s.size) : s.toList.isEmpty = false := by
  rw [ByteArray.toList_eq]
  obtain ⟨⟨l⟩⟩ := s
  cases l with
  | nil => exact absurd h (Nat.lt_irrefl 0)
  | cons x xs => rfl

theorem size_empty {s : ByteArray} (h : ¬ 0 < s.size) : s = ByteArray.empty := by
  obtain ⟨⟨l⟩⟩ := s
  cases l with
  | nil => rfl
  | cons x xs => exact absurd (Nat.succ_pos _) h

theorem okc_eq (b : Int) : okc b = (isL b || (!decide (b < 48) && !decide (57 < b)) || !(b != 95)) := by
  unfold okc
  congr 2
  · congr 1
    · rw [Bool.eq_iff_iff]; simp
    · rw [Bool.eq_iff_iff]; simp
  · rw [Bool.eq_iff_iff]; simp

theorem bytesWorld_below (w : World) (e : TypeId) (s : ByteArray) : Below w.heap.size w (Lib.bytesWorld w e s) :=
  ⟨rfl, rfl, rfl, by rw [Lib.bytesWorld_size]; omega, fun k hk => Lib.bytesWorld_at_old w e s k hk⟩

def isD (b : Int) : Bool := decide (48 ≤ b) && decide (b ≤ 57)

set_option maxHeartbeats 400000 in
theorem digit_any (b : Int) (w : World) : Calls Tryz.prog 134 #[.int .u8 b] w fun e w' => e = .returned (.bool (isD b)) ∧ w' = w := by
  by_cases h : 48 ≤ b
  · have hd : decide (48 ≤ b) = true := by simp [h]
    have e1 : isD b = decide (b ≤ 57) := by simp [isD, h]
    rw [e1]
    clear h e1
    go_enter Tryz.func134, Tryz.ntmps134
    go_wp2_with fail
    go_ret
    exact ⟨rfl, rfl⟩
  · have hd : decide (48 ≤ b) = false := by simp [h]
    have e1 : isD b = false := by simp [isD, h]
    rw [e1]
    clear h e1
    go_enter Tryz.func134, Tryz.ntmps134
    go_wp2_with fail
    go_ret
    exact ⟨rfl, rfl⟩

theorem okc_three (b : Int) : okc b = (isL b || isD b || (b == 95)) := by
  unfold okc isD
  congr 1

set_option maxHeartbeats 400000 in
theorem inname_any (b : Int) (w : World) : Calls Tryz.prog 112 #[.int .u8 b] w fun e w' => e = .returned (.bool (okc b)) ∧ w' = w := by
  rw [okc_three]
  cases h1 : isL b
  · cases h2 : isD b
    · go_enter Tryz.func112, Tryz.ntmps112
      go_wp2_with fail
      refine (letter_any _ _).mono ?_
      rintro e w1 ⟨rfl, rfl⟩
      go_wp2_with fail
      refine (digit_any _ _).mono ?_
      rintro e w1 ⟨rfl, rfl⟩
      go_wp2_with fail
      go_ret
      exact ⟨rfl, rfl⟩
    · go_enter Tryz.func112, Tryz.ntmps112
      go_wp2_with fail
      refine (letter_any _ _).mono ?_
      rintro e w1 ⟨rfl, rfl⟩
      go_wp2_with fail
      refine (digit_any _ _).mono ?_
      rintro e w1 ⟨rfl, rfl⟩
      go_wp2_with fail
      go_ret
      exact ⟨rfl, rfl⟩
  · go_enter Tryz.func112, Tryz.ntmps112
    go_wp2_with fail
    refine (letter_any _ _).mono ?_
    rintro e w1 ⟨rfl, rfl⟩
    go_wp2_with fail
    go_ret
    exact ⟨rfl, rfl⟩

set_option maxRecDepth 100000 in
set_option maxHeartbeats 800000 in
theorem named_any (s : ByteArray) (w : World) : Calls Tryz.prog 81 #[.string s] w fun e w' => e = .returned (.bool (nm s)) ∧ Below w.heap.size w w' := by
  by_cases hpos : 0 < s.size
  · have he := toList_empty s hpos
    by_cases h24 : s.size ≤ 24
    · have e1 := byt_get s 0 hpos
      obtain ⟨r, hr⟩ : ∃ r, nm s = r := ⟨_, rfl⟩
      rw [hr]
      have HR := Lib.hid hr
      have hcv := fun W => Lib.run_convert_string_bytes (P := Tryz.prog) W 9 73 5 s Tryz.underlying9 Tryz.underlying73 Tryz.underlying5
      clear hr
      go_enter Tryz.func81, Tryz.ntmps81
      go_wp2_with fail
      refine (letter_any _ _).mono ?_
      rintro e w1 ⟨rfl, rfl⟩
      cases hl : isL (byt s 0) with
      | false =>
        go_wp2_with fail
        go_ret
        exact ⟨ret_bool (by rw [← HR.out]; unfold nm; rw [hl]; simp), Below.refl _ _⟩
      | true =>
        have hnm : r = oks s 0 := by rw [← HR.out]; unfold nm; rw [hl]; simp [hpos, h24]
        subst hnm
        have hbw := bytesWorld_below w1 5 s
        have hbc : ∀ j, j < s.size → (Lib.bytesWorld w1 5 s).cell? ⟨w1.heap.size, j, none⟩ = some (.int .u8 (byt s j)) := fun j hj => Lib.bytesWorld_cell w1 5 s j hj
        have HB := Lib.hid hbw
        have HC := Lib.hid hbc
        clear hbw hbc
        go_wp2_with fail
        generalize Lib.bytesWorld w1 5 s = W at HB HC ⊢
        clear hcv
        go_loopw [21] (fun i wr => ∃ j : Nat, j ≤ s.size ∧ i = .int .i64 (j : Int) ∧ oks s j = oks s 0 ∧ wr = W)
          (fun i _ => s.size - (intOf i).toNat)
        case atStart => exact ⟨0, Nat.zero_le _, rfl, rfl, rfl⟩
        case round =>
          obtain ⟨j, hj, rfl, hmo, rfl⟩ := hrel
          have HM := Lib.hid hmo
          clear hmo
          by_cases hlt : j < s.size
          · have hc := HC.out j hlt
            have hst := oks_step s j hlt
            rw [HM.out] at hst
            have HS := Lib.hid hst
            clear hst
            go_wp2_with fail
            refine (inname_any _ _).mono ?_
            rintro e w2 ⟨rfl, rfl⟩
            generalize byt s j = b at HS ⊢
            cases h0 : okc b
            · go_wp2_with fail
              go_ret
              exact ⟨ret_bool (by rw [HS.out, h0]; rfl), HB.out⟩
            · go_wp2_with fail
              go_roundw
              case rel => exact ⟨j + 1, by omega, by go_num, by rw [HS.out, h0]; simp, by trivial⟩
              case measure => simp [intOf]; omega
          · go_wp2_with fail
            go_ret
            exact ⟨ret_bool (by rw [← HM.out, oks_end s j (by omega)]), HB.out⟩
    · have e1 : nm s = false := by simp [nm, h24]
      rw [e1]
      clear e1
      go_enter Tryz.func81, Tryz.ntmps81
      go_wp2_with fail
      go_ret
      exact ⟨rfl, Below.refl _ _⟩
  · have e1 : nm s = false := by simp [nm, hpos]
    obtain rfl := size_empty hpos
    rw [e1]
    clear e1 hpos
    go_enter Tryz.func81, Tryz.ntmps81
    go_wp2_with fail
    go_ret
    exact ⟨rfl, Below.refl _ _⟩

set_option maxRecDepth 100000 in
set_option maxHeartbeats 800000 in
theorem name_any (s : ByteArray) (w : World) : Calls Tryz.prog 63 #[.string s] w fun e w' => e = .returned (.bool (nm s)) ∧ w' = w := by
  by_cases hpos : 0 < s.size
  · by_cases h24 : s.size ≤ 24
    · have e1 := byt_get s 0 hpos
      obtain ⟨r, hr⟩ : ∃ r, nm s = r := ⟨_, rfl⟩
      rw [hr]
      have hnm : r = (isL (byt s 0) && oks s 0) := by rw [← hr]; unfold nm; simp [hpos, h24]
      have HR := Lib.hid hnm
      clear hr hnm
      have hB := fun j (h : j < s.size) => byt_get s j h
      have HB := Lib.hid hB
      clear hB
      have hl0 : isL (byt s 0) = (!decide (byt s 0 < 97) && !decide (122 < byt s 0)) := by unfold isL; rw [Bool.eq_iff_iff]; simp
      generalize byt s 0 = b0 at e1 HR hl0
      cases h1 : decide (b0 < 97) <;> cases h2 : decide (122 < b0)
      case true.true => rw [h1, h2] at hl0; (go_enter Tryz.func63, Tryz.ntmps63; go_wp2_with fail; go_ret; exact ⟨ret_bool (by rw [HR.out, hl0]; rfl), rfl⟩)
      case true.false => rw [h1, h2] at hl0; (go_enter Tryz.func63, Tryz.ntmps63; go_wp2_with fail; go_ret; exact ⟨ret_bool (by rw [HR.out, hl0]; rfl), rfl⟩)
      case false.true => rw [h1, h2] at hl0; (go_enter Tryz.func63, Tryz.ntmps63; go_wp2_with fail; go_ret; exact ⟨ret_bool (by rw [HR.out, hl0]; rfl), rfl⟩)
      case false.false =>
        rw [h1, h2] at hl0
        have hr2 : r = oks s 0 := by rw [HR.out, hl0]; rfl
        have HR2 := Lib.hid hr2
        clear hr2 HR hl0
        go_enter Tryz.func63, Tryz.ntmps63
        go_wp2_with fail
        go_loopw [3] (fun i wr => ∃ j : Nat, j ≤ s.size ∧ i = .int .i64 (j : Int) ∧ oks s j = oks s 0 ∧ wr = w)
          (fun i _ => s.size - (intOf i).toNat)
        case atStart => exact ⟨0, Nat.zero_le _, rfl, rfl, rfl⟩
        case round =>
          obtain ⟨j, hj, rfl, hmo, rfl⟩ := hrel
          have HM := Lib.hid hmo
          clear hmo
          by_cases hlt : j < s.size
          · have e3 := HB.out j hlt
            have hst := oks_step s j hlt
            rw [HM.out, okc_eq] at hst
            have hlj : isL (byt s j) = (!decide (byt s j < 97) && !decide (122 < byt s j)) := by unfold isL; rw [Bool.eq_iff_iff]; simp
            rw [hlj] at hst
            clear hlj e1
            have HS := Lib.hid hst
            clear hst h1 h2
            generalize byt s j = b at HS e3
            cases g1 : decide (b < 97) <;> cases g2 : decide (122 < b) <;> cases h1 : decide (b < 48) <;> cases h2 : decide (57 < b) <;> cases h3 : (b != 95)
            all_goals
              go_wp2_with fail
              first
              | (go_ret
                 exact ⟨ret_bool (by rw [HR2.out, HS.out, g1, g2, h1, h2, h3]; rfl), rfl⟩)
              | (go_roundw
                 case rel => exact ⟨j + 1, by omega, by go_num, by rw [HS.out, g1, g2, h1, h2, h3]; simp, by trivial⟩
                 case measure => simp [intOf]; omega)
          · go_wp2_with fail
            go_ret
            exact ⟨ret_bool (by rw [HR2.out, ← HM.out, oks_end s j (by omega)]), rfl⟩
    · have e1 : nm s = false := by simp [nm, h24]
      rw [e1]
      clear e1
      go_enter Tryz.func63, Tryz.ntmps63
      go_wp2_with fail
      go_ret
      exact ⟨rfl, rfl⟩
  · have e1 : nm s = false := by simp [nm, hpos]
    obtain rfl := size_empty hpos
    rw [e1]
    clear e1 hpos
    go_enter Tryz.func63, Tryz.ntmps63
    go_wp2_with fail
    go_ret
    exact ⟨rfl, rfl⟩

end Go.Proofs.YtjkcopgfcafpeaaGreatDoor

