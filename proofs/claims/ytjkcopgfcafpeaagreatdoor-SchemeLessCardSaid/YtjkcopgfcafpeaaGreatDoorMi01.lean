/-
  Parts of one proof, laid into one text: SGrA, STextsL, STextsP, SGrB, SRoundP. Conditions: each part names its own.
-/
import Derived.Test.YtjkcopgfcafpeaaGreatDoorMg23
import Derived.Test.YtjkcopgfcafpeaaGreatDoorMg16
import Derived.Test.YtjkcopgfcafpeaaGreatDoorMg29
import Derived.Test.YtjkcopgfcafpeaaGreatDoorMg30
import Derived.BigQuiet
import Derived.Test.YtjkcopgfcafpeaaGreatDoorMh02

/-
  The walks of the reference's begins and word. Conditions: places within the text, texts of at most 65536 bytes.
-/
set_option linter.unusedSimpArgs false
set_option linter.unusedVariables false
namespace Go.Proofs.YtjkcopgfcafpeaaGreatDoor
open Go.RowKit Go.Maps

set_option maxHeartbeats 800000 in
theorem begins3_at (s p : List UInt8) (i : Nat) (j : Int) (x : ByteArray) (bv : Bool) (hx : x.data.toList = p) (hi : i ≤ s.length) (hs : s.length ≤ 65536) (hp : p.length ≤ 8) (hj : j = (i : Int))
    (hb : Proofs.YtjkcopgfcafpeaaGreatDoor.pre p (s.drop i) = bv) (w : World) :
    Calls Tryz.prog 62 #[.string ⟨s.toArray⟩, .int .i64 j, .string x] w fun e w' => e = .returned (.bool bv) ∧ w = w' := by
  subst hj
  have hz : x.size = p.length := by rw [← hx]; rfl
  have HX := Lib.hid hx
  have HB := Lib.hid hb
  clear hx hb
  go_enter Tryz.func62, Tryz.ntmps62
  go_wp2_with fail
  · refine bodyPost_ret (v := .bool _) (by simp [results, Tryz.results62, go_sem]; rfl) rfl ⟨ret_bool ?_, rfl⟩
    rw [← HB.out, ← take_pre, Lib.extract_toList, Lib.toList_data, HX.out]
    simp
  · refine bodyPost_ret (v := .bool false) (by simp [results, Tryz.results62, go_sem]) rfl ⟨ret_bool ?_, rfl⟩
    rw [← HB.out]
    symm
    rw [Bool.eq_false_iff]
    intro h
    have := pre_length h
    simp only [List.length_drop] at this
    omega

/-- behind the bytes from place i on that may belong to a name -/
def wordEnd (s : List UInt8) (i : Nat) : Nat := i + ((s.drop i).takeWhile inN).length

theorem wordEnd_in {s : List UInt8} {i : Nat} (h : i < s.length) (hc : inN (s.getD i 0) = true) : wordEnd s i = wordEnd s (i + 1) := by
  unfold wordEnd
  rw [List.drop_eq_getElem_cons h]
  have e : s.getD i 0 = s[i] := by rw [List.getD_eq_getElem?_getD, List.getElem?_eq_getElem h]; rfl
  rw [e] at hc
  rw [List.takeWhile_cons, if_pos hc]
  simp only [List.length_cons]
  omega

theorem wordEnd_out {s : List UInt8} {i : Nat} (h : i < s.length) (hc : inN (s.getD i 0) = false) : wordEnd s i = i := by
  unfold wordEnd
  rw [List.drop_eq_getElem_cons h]
  have e : s.getD i 0 = s[i] := by rw [List.getD_eq_getElem?_getD, List.getElem?_eq_getElem h]; rfl
  rw [e] at hc
  rw [List.takeWhile_cons, if_neg (by simp [hc])]
  simp

theorem wordEnd_end {s : List UInt8} {i : Nat} (h : s.length ≤ i) : wordEnd s i = i := by
  unfold wordEnd
  rw [List.drop_of_length_le h]
  simp

theorem wordEnd_le {s : List UInt8} {i : Nat} (h : i ≤ s.length) : i ≤ wordEnd s i ∧ wordEnd s i ≤ s.length := by
  unfold wordEnd
  have := (List.takeWhile_prefix (l := s.drop i) inN).length_le
  simp only [List.length_drop] at this
  omega

theorem okc_of {b : Int} {y1 y2 y3 y4 y5 : Bool} (g1 : decide (97 ≤ b) = y1) (g2 : decide (b ≤ 122) = y2) (h1 : decide (48 ≤ b) = y3) (h2 : decide (b ≤ 57) = y4) (h3 : (b == 95) = y5) : okc b = ((y1 && y2) || (y3 && y4) || y5) := by
  subst g1 g2 h1 h2 h3
  rfl

theorem isD_of {b : Int} {y3 y4 : Bool} (h1 : decide (48 ≤ b) = y3) (h2 : decide (b ≤ 57) = y4) : isD b = (y3 && y4) := by
  subst h1 h2
  rfl

/-- the classes of a byte -/
theorem byte_class (b : Int) : ∃ y1 y2 y3 y4 y5 : Bool, decide (97 ≤ b) = y1 ∧ decide (b ≤ 122) = y2 ∧ decide (48 ≤ b) = y3 ∧ decide (b ≤ 57) = y4 ∧ (b == 95) = y5 ∧
    ((y1 = false ∧ y2 = true ∧ y3 = false ∧ y4 = true ∧ y5 = false) ∨ (y1 = false ∧ y2 = true ∧ y3 = true ∧ y4 = true ∧ y5 = false) ∨ (y1 = false ∧ y2 = true ∧ y3 = true ∧ y4 = false ∧ y5 = false) ∨
    (y1 = false ∧ y2 = true ∧ y3 = true ∧ y4 = false ∧ y5 = true) ∨ (y1 = true ∧ y2 = true ∧ y3 = true ∧ y4 = false ∧ y5 = false) ∨ (y1 = true ∧ y2 = false ∧ y3 = true ∧ y4 = false ∧ y5 = false)) := by
  refine ⟨_, _, _, _, _, rfl, rfl, rfl, rfl, rfl, ?_⟩
  simp only [decide_eq_true_eq, decide_eq_false_iff_not, beq_iff_eq, beq_eq_false_iff_ne]
  omega

theorem byte_at (s : List UInt8) (i : Nat) (h : i < s.length) : ((⟨s.toArray⟩ : ByteArray)[i]'h).toNat = byt ⟨s.toArray⟩ i := byt_get ⟨s.toArray⟩ i h

theorem byt_list (s : List UInt8) (i : Nat) : byt ⟨s.toArray⟩ i = ((s.getD i 0).toNat : Int) := rfl

set_option maxHeartbeats 2000000 in
theorem word3_any (s : List UInt8) (i : Nat) (hi : i ≤ s.length) (hs : s.length ≤ 65536) (w : World) :
    Calls Tryz.prog 103 #[.string ⟨s.toArray⟩, .int .i64 (i : Int)] w fun e w' => e = .returned (.int .i64 (wordEnd s i : Int)) ∧ w = w' := by
  obtain ⟨E, hE⟩ : ∃ E, wordEnd s i = E := ⟨_, rfl⟩
  rw [hE]
  have HE := Lib.hid hE
  clear hE
  go_enter Tryz.func103, Tryz.ntmps103
  go_wp2_with fail
  go_loopw [1] (fun v wr => ∃ j : Nat, j ≤ s.length ∧ v = .int .i64 (j : Int) ∧ wordEnd s j = E ∧ w = wr)
    (fun v _ => s.length - (Go.RowKit.intOf v).toNat)
  case atStart => exact ⟨i, hi, rfl, HE.out, rfl⟩
  case round =>
    clear HE
    obtain ⟨j, hj, rfl, hmo, rfl⟩ := hrel
    have HM := Lib.hid hmo
    clear hmo
    by_cases hlt : j < s.length
    · have e3 := byte_at s j hlt
      have hw1 : okc (byt ⟨s.toArray⟩ j) = true → wordEnd s (j + 1) = E := fun h => (wordEnd_in hlt h).symm.trans HM.out
      have hw0 : okc (byt ⟨s.toArray⟩ j) = false → j = E := fun h => (wordEnd_out hlt h).symm.trans HM.out
      generalize byt ⟨s.toArray⟩ j = b at e3 hw1 hw0
      have HW := Lib.hid (And.intro hw1 hw0)
      clear hw1 hw0
      obtain ⟨y1, y2, y3, y4, y5, g1, g2, h1, h2, h3, hcl⟩ := byte_class b
      have ho := Lib.hid (okc_of g1 g2 h1 h2 h3)
      clear hj
      rcases hcl with hcl | hcl | hcl | hcl | hcl | hcl
      all_goals
        obtain ⟨rfl, rfl, rfl, rfl, rfl⟩ := hcl
        go_wp2_with fail
        first
        | (go_ret
           exact ⟨ret_int (by have := HW.out.2 (ho.out.trans rfl); omega), rfl⟩)
        | (go_roundw
           case rel => exact ⟨j + 1, by omega, by go_num, HW.out.1 (ho.out.trans rfl), by trivial⟩
           case measure => simp [Go.RowKit.intOf]; omega)
    · go_wp2_with fail
      go_ret
      exact ⟨ret_int (by have := HM.out; rw [wordEnd_end (by omega)] at this; omega), rfl⟩

end Go.Proofs.YtjkcopgfcafpeaaGreatDoor

/-
  The walk of the statement on texts that are read. Conditions: the package variables read as laid; that a text which is read is written back.
-/
set_option linter.unusedSimpArgs false
set_option linter.unusedVariables false
namespace Go.Proofs.YtjkcopgfcafpeaaGreatDoor
open Go.RowKit Go.Maps

theorem getSc_no {s : List UInt8} (h : getE s ≠ 0) : getSc s = noSc := by
  unfold getE at h
  unfold getSc
  split
  · rfl
  · rename_i h1
    rw [if_neg h1] at h
    cases hr : rdSc s with
    | none => rfl
    | some x =>
      rw [hr] at h
      simp only at h ⊢
      split
      · rename_i h2; rw [if_pos h2] at h; exact absurd rfl h
      · rfl

set_option maxRecDepth 100000 in
set_option maxHeartbeats 4000000 in
theorem law_stexts' (hp : ∀ s, getE s = 0 → putE (getSc s) = 0 ∧ putT (getSc s) = s) (s : ByteArray) (w : World) (hg : Gl w) (h6 : 6 ≤ w.heap.size) :
    Calls Tryz.prog 10 #[.string s] w fun e w' => e = .returned (.bool true) ∧ Below w.heap.size w w' := by
  obtain ⟨l, hl⟩ : ∃ l : List UInt8, s = ⟨l.toArray⟩ := ⟨s.data.toList, (str_self s).symm⟩
  subst hl
  have H1 := Lib.hid fun W h h' => sget_any l W h h'
  have H2 := Lib.hid fun W h h' => alive3_any W h h'
  by_cases h0 : getE l = 0
  · obtain ⟨p1, p2⟩ := hp l h0
    have H3 := Lib.hid fun a W h => sput_any (getSc l) a W h
    rw [p1, p2] at H3
    rw [h0] at H1
    generalize getSc l = x at H1 H3
    clear hp p1 p2 h0
    go_enter Tryz.func10, Tryz.ntmps10
    go_wp2_with fail
    refine (H1.out _ hg h6).mono ?_
    rintro e w1 ⟨⟨sp, sn, sc, fp, fn, fc⟩, rfl, hC, hb1⟩
    have HC := Lib.hid hC
    have HB := Lib.hid hb1
    clear hC hb1 H1
    go_wp2_with fail
    refine (H3.out _ _ (HC.out.alloc _)).mono ?_
    rintro e w2 ⟨rfl, hb2⟩
    have B2 := below_box HB.out hb2
    have HB2 := Lib.hid B2
    clear B2 hb2
    go_wp2_with fail
    refine (H2.out _ (hg.keep fun b hb => HB2.out.block b (by omega)) (by have := HB2.out.size; omega)).mono ?_
    rintro e w3 ⟨rfl, hb3⟩
    go_wp2_with fail
    go_ret
    exact ⟨rfl, HB2.out.trans (hb3.mono HB2.out.size)⟩
  · have e0 := getSc_no h0
    rw [e0] at H1
    have hd : (getE l == 0) = false := by simpa using h0
    generalize getE l = k at H1 hd
    clear hp e0 h0
    go_enter Tryz.func10, Tryz.ntmps10
    go_wp2_with fail
    refine (H1.out _ hg h6).mono ?_
    rintro e w1 ⟨⟨sp, sn, sc, fp, fn, fc⟩, rfl, hC, hb1⟩
    obtain rfl : sn = 0 := hC.1.1
    obtain rfl : fn = 0 := hC.2.1
    have HB := Lib.hid (hb1.alloc hb1.size (.cells #[.slice sp 0 sc, .slice fp 0 fc] 25))
    clear hC hb1 H1
    go_wp2_with fail
    refine (H2.out _ (hg.keep fun b hb => HB.out.block b (by omega)) (by have := HB.out.size; omega)).mono ?_
    rintro e w3 ⟨rfl, hb3⟩
    go_wp2_with fail
    go_ret
    exact ⟨rfl, HB.out.trans (hb3.mono HB.out.size)⟩

end Go.Proofs.YtjkcopgfcafpeaaGreatDoor

/-
  Plain mathematics: a text that is read as a scheme is the string of that scheme. Conditions: none.
-/
set_option linter.unusedSimpArgs false
set_option linter.unusedVariables false
namespace Go.Proofs.YtjkcopgfcafpeaaGreatDoor
open Go.RowKit Go.Maps

theorem ans_casesS (s : List UInt8) : (ansE s = 0 ∧ (ansT s).valid = true ∧ s.length ≤ 65536 ∧ rd s = some (ansT s, [])) ∨ (ansE s ≠ 0 ∧ ansT s = .nil) := by
  by_cases hs : s.length ≤ 65536
  case neg => exact Or.inr (by simp [ansE, ansT, hs])
  case pos =>
    cases h : rd s with
    | none => exact Or.inr (by simp [ansE, ansT, hs, h])
    | some x =>
      obtain ⟨t, r⟩ := x
      cases r with
      | cons a r => exact Or.inr (by simp [ansE, ansT, hs, h])
      | nil =>
        cases hv : t.valid with
        | false => exact Or.inr (by simp [ansE, ansT, hs, h, hv, T.oE])
        | true => exact Or.inl (by simp [ansE, ansT, hs, h, hv, T.oE])

theorem rdName_app {s r : List UInt8} {n : ByteArray} (h : rdName s = some (n, r)) : s = n.data.toList ++ r := by
  unfold rdName at h
  split at h
  · simp only [Option.some.injEq, Prod.mk.injEq] at h
    obtain ⟨rfl, rfl⟩ := h
    exact (List.takeWhile_append_dropWhile).symm
  · cases h

theorem need_app {p s r : List UInt8} (h : need p s = some r) : s = p ++ r := by
  unfold need at h
  split at h
  · rename_i hp
    obtain ⟨r', rfl⟩ := (pre_iff p s).1 hp
    simpa using h
  · cases h

theorem cutAt_app {m s a b : List UInt8} (h : cutAt m s = some (a, b)) : s = a ++ (m ++ b) := by
  unfold cutAt at h
  split at h
  · rename_i hc
    simp only [Option.some.injEq, Prod.mk.injEq] at h
    obtain ⟨rfl, rfl⟩ := h
    unfold Lib.cut at hc ⊢
    split at hc
    · rename_i hi
      rw [if_pos hi]
      rcases Lib.index_spec s m with ⟨h1, _⟩ | ⟨i, h1, h2, h3, _⟩
      · omega
      · rw [h1, Int.toNat_natCast]
        simp only
        unfold Lib.occAt at h3
        rw [List.isPrefixOf_iff_prefix] at h3
        obtain ⟨t, ht⟩ := h3
        have e : s.drop (i + m.length) = t := by
          rw [← List.drop_drop, ← ht]
          simp
        rw [e, ht, List.take_append_drop]
    · cases hc
  · cases h

theorem isD_iff {c : UInt8} (h : inD c = true) : 48 ≤ c.toNat ∧ c.toNat ≤ 57 := by
  unfold inD isD at h
  simp only [Bool.and_eq_true, decide_eq_true_eq] at h
  omega

theorem parse_ge : ∀ (l : List UInt8) (acc u : Nat), Lib.parseUint10 acc l = .ok u → acc ≤ u
  | [], acc, u, h => by
    simp only [Lib.parseUint10] at h
    injection h with h
    omega
  | c :: r, acc, u, h => by
    simp only [Lib.parseUint10] at h
    split at h
    · split at h
      · cases h
      · split at h
        · cases h
        · have := parse_ge r _ u h
          omega
    · cases h

theorem parse_step {c : UInt8} {r : List UInt8} {acc u : Nat} (h : Lib.parseUint10 acc (c :: r) = .ok u) : (48 ≤ c.toNat ∧ c.toNat ≤ 57) ∧ Lib.parseUint10 (acc * 10 + (c.toNat - 48)) r = .ok u := by
  simp only [Lib.parseUint10] at h
  split at h
  · rename_i hc
    split at h
    · cases h
    · split at h
      · cases h
      · exact ⟨hc, h⟩
  · cases h

theorem u8_of {c : UInt8} {k : Nat} (h : c.toNat = k) (hk : k < 256) : UInt8.ofNat k = c := by
  subst h
  exact UInt8.ofNat_toNat

/-- a number below 100 that a reader takes is spelt as it is written -/
theorem numOf_dec {d : List UInt8} {v : Int} (h : numOf d = some v) (hd : ∀ c ∈ d, inD c = true) (hv : v < 100) : 0 ≤ v ∧ Lib.decDigits v.toNat = d := by
  have hp := numOf_pos h
  unfold numOf at h
  cases d with
  | nil => exact absurd rfl hp
  | cons c r =>
    have hc := isD_iff (hd c (by simp))
    have ha : ∀ v', Lib.atoiAll (c :: r) = .ok v' → ∃ u, Lib.parseUint10 0 (c :: r) = .ok u ∧ v' = (u : Int) := by
      intro v' h
      unfold Lib.atoiAll Lib.parseMag at h
      have h1 : ¬ c.toNat = 43 := by omega
      have h2 : ¬ c.toNat = 45 := by omega
      simp only [h1, h2, or_self, if_false] at h
      rw [if_neg (show ¬ (c :: r) = [] by simp)] at h
      cases hu : Lib.parseUint10 0 (c :: r) with
      | ok u =>
        rw [hu] at h
        refine ⟨u, rfl, ?_⟩
        simp only [not_false_eq_true, true_and, false_and, if_false] at h
        split at h
        · cases h
        · injection h with h
          exact h.symm
      | _ => rw [hu] at h; cases h
    cases hA : Lib.atoiAll (c :: r) with
    | ok v' =>
      rw [hA] at h
      simp only at h
      obtain ⟨u, hu, rfl⟩ := ha v' hA
      split at h
      · rename_i hh
        simp only [Option.some.injEq] at h
        subst h
        refine ⟨by omega, ?_⟩
        rw [Int.toNat_natCast]
        obtain ⟨_, s1⟩ := parse_step hu
        cases r with
        | nil =>
          simp only [Lib.parseUint10] at s1
          injection s1 with s1
          rw [Lib.decDigits_one (by omega), u8_of (c := c) (by omega) (by omega)]
        | cons c2 r2 =>
          have hz : ¬ c = 48 := fun e => hh.2 ⟨by simp, by simp [e]⟩
          have hz' : c.toNat ≠ 48 := fun e => hz (by rw [← u8_of (c := c) e (by omega)]; rfl)
          obtain ⟨hc2, s2⟩ := parse_step s1
          cases r2 with
          | nil =>
            simp only [Lib.parseUint10] at s2
            injection s2 with s2
            rw [Lib.decDigits_two (by omega) (by omega), u8_of (c := c) (by omega) (by omega), u8_of (c := c2) (by omega) (by omega)]
          | cons c3 r3 =>
            obtain ⟨hc3, s3⟩ := parse_step s2
            have := parse_ge _ _ _ s3
            omega
      · cases h
    | _ => rw [hA] at h; cases h

theorem rdNum_app {s r : List UInt8} {v : Int} (h : rdNum s = some (v, r)) (hv : v < 100) : s = Lib.decDigits v.toNat ++ r := by
  unfold rdNum at h
  rw [Option.map_eq_some_iff] at h
  obtain ⟨v', h1, h2⟩ := h
  simp only [Prod.mk.injEq] at h2
  obtain ⟨rfl, rfl⟩ := h2
  rw [(numOf_dec h1 (fun c hc => List.all_eq_true.1 List.all_takeWhile c hc) hv).2]
  exact (List.takeWhile_append_dropWhile).symm

theorem idxR_at : ∀ (l : List ByteArray) (x : ByteArray) (i : Nat), idxR l x = some i → i < l.length ∧ l.reverse[i]? = some x
  | [], _, _, h => by cases h
  | n :: r, x, i, h => by
    unfold idxR at h
    cases hr : idxR r x with
    | some j =>
      rw [hr] at h
      simp only [Option.some.injEq] at h
      subst h
      obtain ⟨h1, h2⟩ := idxR_at r x j hr
      refine ⟨by simp; omega, ?_⟩
      rw [List.reverse_cons, List.getElem?_append_left (by simpa using h1)]
      exact h2
    | none =>
      rw [hr] at h
      simp only at h
      split at h
      · rename_i e
        simp only [Option.some.injEq] at h
        subst h e
        refine ⟨by simp, ?_⟩
        simp
      · cases h

theorem idx_at {l : List ByteArray} {x : ByteArray} {i : Nat} (h : idx l x = some i) : i < l.length ∧ l[i]? = some x := by
  have := idxR_at l.reverse x i h
  simpa using this

/-- the names of a scheme are those of these lists -/
def Named (x : Sc) (S F : List ByteArray) : Prop := (∀ i n, S[i]? = some n → x.S.nm i = n) ∧ (∀ i n, F[i]? = some n → x.F.nm i = n)

theorem rdHead_app {x : Sc} {S F : List ByteArray} (hN : Named x S F) {s r : List UInt8} {k n : Int} (h : rdHead S F s = some ((k, n), r)) (hv : k = 0 → n < 100) : s = hTx x k n ++ r := by
  unfold rdHead at h
  split at h
  · rename_i hp
    obtain ⟨s', rfl⟩ := (pre_iff _ _).1 hp
    rw [Option.map_eq_some_iff] at h
    obtain ⟨⟨v, r'⟩, h1, h2⟩ := h
    simp only [Prod.mk.injEq] at h2
    obtain ⟨⟨rfl, rfl⟩, rfl⟩ := h2
    have := rdNum_app h1 (hv rfl)
    simp only [List.singleton_append, List.drop_succ_cons, List.drop_zero] at this
    unfold hTx
    rw [if_pos rfl, List.singleton_append, this]
    rfl
  · split at h
    · rename_i hp
      obtain ⟨s', rfl⟩ := (pre_iff _ _).1 hp
      rw [Option.bind_eq_some_iff] at h
      obtain ⟨⟨v, r'⟩, h1, h2⟩ := h
      rw [Option.map_eq_some_iff] at h2
      obtain ⟨i, h3, h4⟩ := h2
      simp only [Prod.mk.injEq] at h4
      obtain ⟨⟨rfl, rfl⟩, rfl⟩ := h4
      have e := rdName_app h1
      simp only [List.singleton_append, List.drop_succ_cons, List.drop_zero] at e
      have hn := hN.1 i _ (idx_at h3).2
      unfold hTx
      rw [if_neg (by decide), if_neg (by decide), Int.toNat_natCast, hn, List.singleton_append, e]
      rfl
    · rw [Option.bind_eq_some_iff] at h
      obtain ⟨⟨v, r'⟩, h1, h2⟩ := h
      rw [Option.map_eq_some_iff] at h2
      obtain ⟨i, h3, h4⟩ := h2
      simp only [Prod.mk.injEq] at h4
      obtain ⟨⟨rfl, rfl⟩, rfl⟩ := h4
      have e := rdName_app h1
      have hn := hN.2 i _ (idx_at h3).2
      unfold hTx
      rw [if_neg (by decide), if_pos rfl, Int.toNat_natCast, hn]
      exact e

theorem goodH_var {x : Sc} {k n : Int} (h : goodH x k n) : k = 0 → n < 100 := by
  rintro rfl
  obtain ⟨_, h1⟩ := h
  rcases h1 with h1 | h1 | h1
  · exact h1.2
  · exact absurd h1.1 (by decide)
  · exact absurd h1.1 (by decide)

theorem rdArgs_app {x : Sc} {S F : List ByteArray} (hN : Named x S F) : ∀ (f : Nat) (s : List UInt8) (a : X) (r : List UInt8), rdArgs S F f s = some (a, r) → goodX x a → s = aTx x a ++ r := by
  intro f
  induction f with
  | zero => intro s a r h; cases h
  | succ f ih =>
    intro s a r h hg
    unfold rdArgs at h
    split at h
    · rename_i h1
      obtain ⟨s', rfl⟩ := (pre_iff _ _).1 h1
      simp only [List.singleton_append, List.drop_succ_cons, List.drop_zero] at h
      split at h
      · rename_i h2
        obtain ⟨s2, rfl⟩ := (pre_iff _ _).1 h2
        split at h
        · cases h
        · rename_i hd rr he
          split at h
          · cases h
          · rename_i a2 r2 he2
            split at h
            · rename_i hc
              rw [Option.map_eq_some_iff] at h
              obtain ⟨y, hy, he3⟩ := h
              simp only [Prod.mk.injEq] at he3
              obtain ⟨rfl, rfl⟩ := he3
              obtain ⟨g1, g2, g3⟩ := hg
              obtain ⟨r3, rfl⟩ := (pre_iff _ _).1 hc.2
              have e1 := rdHead_app hN (k := hd.1) (n := hd.2) he (goodH_var g1)
              have e2 := ih _ _ _ he2 g2
              have e3 := ih _ _ _ hy g3
              simp only [List.singleton_append, List.drop_succ_cons, List.drop_zero] at e1 e2 e3
              simp only [aTx, if_neg hc.1]
              rw [List.singleton_append, List.singleton_append, e1, e2, e3]
              simp
            · cases h
      · split at h
        · cases h
        · rename_i hd rr he
          rw [Option.map_eq_some_iff] at h
          obtain ⟨y, hy, he3⟩ := h
          simp only [Prod.mk.injEq] at he3
          obtain ⟨rfl, rfl⟩ := he3
          obtain ⟨g1, g2, g3⟩ := hg
          have e1 := rdHead_app hN (k := hd.1) (n := hd.2) he (goodH_var g1)
          have e3 := ih _ _ _ hy g3
          simp only [aTx]
          rw [if_pos (by rfl), List.singleton_append, e1, e3]
          simp
    · simp only [Option.some.injEq, Prod.mk.injEq] at h
      obtain ⟨rfl, rfl⟩ := h
      simp [aTx]

theorem rdBody_app {x : Sc} {S F : List ByteArray} (hN : Named x S F) {s : List UInt8} {k n : Int} {a : X} (h : rdBody S F s = some (k, n, a)) (hh : goodH x k n) (hg : goodX x a) : s = tTx x k n a := by
  unfold rdBody at h
  rw [Option.bind_eq_some_iff] at h
  obtain ⟨⟨t, r⟩, h1, h2⟩ := h
  split at h2
  · rename_i hr
    simp only [Option.some.injEq] at h2
    simp only at h2 hr
    subst h2
    unfold rdT at h1
    rw [Option.bind_eq_some_iff] at h1
    obtain ⟨⟨hd, r1⟩, h3, h4⟩ := h1
    rw [Option.map_eq_some_iff] at h4
    obtain ⟨⟨a', r2⟩, h5, h6⟩ := h4
    simp only [Prod.mk.injEq] at h6
    obtain ⟨⟨rfl, rfl, rfl⟩, rfl⟩ := h6
    have e1 := rdHead_app hN (k := hd.1) (n := hd.2) h3 (goodH_var hh)
    have e2 := rdArgs_app hN _ _ _ _ h5 hg
    rw [List.isEmpty_iff] at hr
    subst hr
    rw [List.append_nil] at e2
    simp only at e2
    rw [e1, e2]
    rfl
  · cases h2

theorem rdSyms_app {sy : List (ByteArray × Int)} (hr : ∀ y ∈ sy, y.2 < 100) (x : Sc) : ∀ (f : Nat) (s : List UInt8) (l : List (ByteArray × Int)) (r : List UInt8) (i : Nat), rdSyms f s = some (l, r) → sy.drop i = l → x.S = sySc sy → s = symsL x i l.length ++ r := by
  intro f
  induction f with
  | zero => intro s l r i h; cases h
  | succ f ih =>
    intro s l r i h hl hx
    unfold rdSyms at h
    split at h
    · rename_i hp
      obtain ⟨s', rfl⟩ := (pre_iff _ _).1 hp
      rw [Option.bind_eq_some_iff] at h
      obtain ⟨⟨y, r1⟩, h1, h2⟩ := h
      rw [Option.map_eq_some_iff] at h2
      obtain ⟨⟨l', r2⟩, h3, h4⟩ := h2
      simp only [Prod.mk.injEq] at h4
      obtain ⟨rfl, rfl⟩ := h4
      have hi : i < sy.length := by
        have := congrArg List.length hl
        simp only [List.length_drop, List.length_cons] at this
        omega
      have hy : sy[i]? = some y := by
        have := congrArg List.head? hl
        simpa using this
      have hd : sy.drop (i + 1) = l' := by
        have := congrArg List.tail hl
        simpa using this
      have e1 := ih _ _ _ (i + 1) h3 hd hx
      unfold rdSym at h1
      simp only [Option.bind_eq_some_iff, Option.map_eq_some_iff] at h1
      obtain ⟨⟨n, r0⟩, g0, r4, g1, ⟨k, r5⟩, g2, r6, g3, g4⟩ := h1
      simp only [Prod.mk.injEq] at g4
      obtain ⟨rfl, rfl⟩ := g4
      have a0 := rdName_app g0
      have a1 := need_app g1
      have hk : k < 100 := hr _ (List.mem_of_getElem? hy)
      have a2 := rdNum_app g2 hk
      have a3 := need_app g3
      simp only at a0 a1 a2 a3 e1
      have hn : x.S.nm i = n := by rw [hx]; simp [sySc, List.getD, hy]
      have hrk : x.S.rk i = k := by rw [hx]; simp [sySc, List.getD, hy]
      have ed : (symW ++ s').drop 7 = s' := rfl
      rw [ed] at a0
      simp only [symsL, List.length_cons]
      unfold symL
      rw [hn, hrk, a0, a1, a2, a3, e1]
      simp [symW]
    · simp only [Option.some.injEq, Prod.mk.injEq] at h
      obtain ⟨rfl, rfl⟩ := h
      simp [symsL]

theorem ansE_txt {c : List UInt8} (h : ansE c = 0) : (ansT c).pT = c := by
  rcases ans_casesS c with ⟨hk, hv, hs, hr⟩ | ⟨hk, ht⟩
  · have := rd_txt (c.length + 1) c (ansT c) [] (by omega) hr
    rw [List.append_nil] at this
    simp only [T.pT, hv, if_true]
    exact this.symm
  · exact absurd h (by omega)

theorem rdFuns_app {L : List FL} {b : List (Int × Int × X)} {x : Sc} (hx : x.F = fuSc L b) (hs : sorted L = true) (hb : ∀ i, i < L.length → (L.getD i ⟨ByteArray.empty, .nil, 0, []⟩).bd = tTx x (x.F.bk i) (x.F.bn i) (x.F.bt i)) :
    ∀ (f : Nat) (s : List UInt8) (l : List FL) (i : Nat), rdFuns f s = some l → L.drop i = l → s = funsL x i l.length := by
  intro f
  induction f with
  | zero => intro s l i h; cases h
  | succ f ih =>
    intro s l i h hl
    unfold rdFuns at h
    split at h
    · rename_i he
      simp only [Option.some.injEq] at h
      subst h
      rw [List.isEmpty_iff] at he
      rw [he]
      rfl
    · simp only [Option.bind_eq_some_iff, Option.map_eq_some_iff] at h
      obtain ⟨r0, h0, ⟨y, r1⟩, h1, l', h2, rfl⟩ := h
      have hi : i < L.length := by
        have := congrArg List.length hl
        simp only [List.length_drop, List.length_cons] at this
        omega
      have hy : L[i]? = some y := by
        have := congrArg List.head? hl
        simpa using this
      have hd : L.drop (i + 1) = l' := by
        have := congrArg List.tail hl
        simpa using this
      have e1 := ih _ _ (i + 1) h2 hd
      have e0 := need_app h0
      have hbd := hb i hi
      have her : y.er = 0 := by
        have := List.all_eq_true.1 hs y (List.mem_of_getElem? hy)
        simpa using this
      unfold rdFun at h1
      simp only [Option.bind_eq_some_iff] at h1
      obtain ⟨⟨n, q0⟩, g0, q1, g1, ⟨c1, c2⟩, g2, g3⟩ := h1
      simp only at g3
      split at g3
      · cases g3
      · rw [Option.map_eq_some_iff] at g3
        obtain ⟨⟨b1, b2⟩, g4, g5⟩ := g3
        simp only [Prod.mk.injEq] at g5
        obtain ⟨rfl, rfl⟩ := g5
        have a0 := rdName_app g0
        have a1 := need_app g1
        have a2 := cutAt_app g2
        have a4 := cutAt_app g4
        simp only at a0 a1 a2 a4 e1 her
        have hpt := ansE_txt her
        have hn : x.F.nm i = n := by rw [hx]; simp [fuSc, List.getD, hy]
        have hst : x.F.st i = ansT c1 := by rw [hx]; simp [fuSc, List.getD, hy]
        have hbb : b1 = tTx x (x.F.bk i) (x.F.bn i) (x.F.bt i) := by
          rw [← hbd]
          simp [List.getD, hy]
        simp only [funsL, List.length_cons]
        unfold funL
        rw [← hbb, hn, hst, hpt, e0, a0, a1, a2, a4, e1]
        simp [funW]

theorem rdBodies_at {S F : List ByteArray} : ∀ (L : List FL) (b : List (Int × Int × X)), rdBodies S F L = some b → b.length = L.length ∧ ∀ (i : Nat) (f : FL), L[i]? = some f → ∃ t, b[i]? = some t ∧ rdBody S F f.bd = some t
  | [], b, h => by
    simp only [rdBodies, Option.some.injEq] at h
    subst h
    exact ⟨rfl, fun i f hf => by simp at hf⟩
  | f0 :: r, b, h => by
    simp only [rdBodies, Option.bind_eq_some_iff, Option.map_eq_some_iff] at h
    obtain ⟨t, h1, b', h2, rfl⟩ := h
    obtain ⟨g1, g2⟩ := rdBodies_at r b' h2
    refine ⟨by simp [g1], fun i f hf => ?_⟩
    cases i with
    | zero =>
      simp only [List.getElem?_cons_zero, Option.some.injEq] at hf
      subst hf
      exact ⟨t, by simp, h1⟩
    | succ i =>
      simp only [List.getElem?_cons_succ] at hf ⊢
      exact g2 i f hf

/-- a text that is read is written back -/
theorem texts_back {s : List UInt8} (h : getE s = 0) : putE (getSc s) = 0 ∧ putT (getSc s) = s := by
  unfold getE at h
  split at h
  · exact absurd h (by decide)
  · rename_i hl
    have hg : getSc s = match rdSc s with | none => noSc | some x => if x.2 = true ∧ scOk x.1 = true then x.1 else noSc := by unfold getSc; rw [if_neg hl]; cases rdSc s <;> rfl
    rw [hg]
    cases hr : rdSc s with
    | none => rw [hr] at h; exact absurd h (by decide)
    | some y =>
      rw [hr] at h
      simp only at h ⊢
      split at h
      · rename_i hc
        rw [if_pos hc]
        have hgood := good_of hc.2
        unfold rdSc at hr
        rw [Option.bind_eq_some_iff] at hr
        obtain ⟨⟨sy, L⟩, h1, h2⟩ := hr
        rw [Option.map_eq_some_iff] at h2
        obtain ⟨b, h3, rfl⟩ := h2
        simp only at hc hgood ⊢
        unfold rdL at h1
        rw [Option.bind_eq_some_iff] at h1
        obtain ⟨⟨sy', r1⟩, g1, g2⟩ := h1
        rw [Option.map_eq_some_iff] at g2
        obtain ⟨L', g3, g4⟩ := g2
        simp only [Prod.mk.injEq] at g4
        obtain ⟨rfl, rfl⟩ := g4
        obtain ⟨x, hx⟩ : ∃ x, (⟨sySc sy', fuSc L' b⟩ : Sc) = x := ⟨_, rfl⟩
        have hxS : x.S = sySc sy' := by rw [← hx]
        have hxF : x.F = fuSc L' b := by rw [← hx]
        rw [hx] at hc hgood ⊢
        have hN : Named x (sy'.map (·.1)) (L'.map (·.nm)) := by
          refine ⟨fun i n hi => ?_, fun i n hi => ?_⟩
          · rw [List.getElem?_map, Option.map_eq_some_iff] at hi
            obtain ⟨z, hz, rfl⟩ := hi
            rw [hxS]; simp [sySc, List.getD, hz]
          · rw [List.getElem?_map, Option.map_eq_some_iff] at hi
            obtain ⟨z, hz, rfl⟩ := hi
            rw [hxF]; simp [fuSc, List.getD, hz]
        have hlS : x.S.len = sy'.length := by rw [hxS]; rfl
        have hlF : x.F.len = L'.length := by rw [hxF]; rfl
        have hrk : ∀ y ∈ sy', y.2 < 100 := by
          intro y hy
          obtain ⟨i, hi⟩ := List.getElem?_of_mem hy
          have hi' : i < sy'.length := (List.getElem?_eq_some_iff.1 hi).1
          have := hgood.rank i (by omega)
          have e : x.S.rk i = y.2 := by rw [hxS]; simp [sySc, List.getD, hi]
          omega
        have hb : ∀ i, i < L'.length → (L'.getD i ⟨ByteArray.empty, .nil, 0, []⟩).bd = tTx x (x.F.bk i) (x.F.bn i) (x.F.bt i) := by
          intro i hi
          obtain ⟨_, hat⟩ := rdBodies_at L' b h3
          obtain ⟨⟨k, n, a⟩, ht, hbd⟩ := hat i L'[i] (by simp [hi])
          have e1 : x.F.bk i = k := by rw [hxF]; simp [fuSc, List.getD, ht]
          have e2 : x.F.bn i = n := by rw [hxF]; simp [fuSc, List.getD, ht]
          have e3 : x.F.bt i = a := by rw [hxF]; simp [fuSc, List.getD, ht]
          have gh := hgood.head i (by omega)
          have gx := hgood.body i (by omega)
          rw [e1, e2] at gh
          rw [e3] at gx
          rw [e1, e2, e3]
          have := rdBody_app hN hbd gh gx
          simpa [List.getD, hi] using this
        have t1 := rdSyms_app hrk x _ _ _ _ 0 g1 (List.drop_zero) hxS
        have t2 := rdFuns_app hxF hc.1 hb _ _ _ 0 g3 (List.drop_zero)
        have hput : putL x = s := by
          unfold putL
          rw [hlS, hlF]
          simp only at t1 t2
          rw [t1, t2]
        unfold putE putT
        rw [hput, if_pos hc.2, if_pos hc.2, if_neg hl, if_neg hl]
        exact ⟨rfl, rfl⟩
      · exact absurd h (by decide)

theorem law_stexts (s : ByteArray) (w : World) (hg : Gl w) (h6 : 6 ≤ w.heap.size) :
    Calls Tryz.prog 10 #[.string s] w fun e w' => e = .returned (.bool true) ∧ Below w.heap.size w w' := law_stexts' (fun _ h => texts_back h) s w hg h6

end Go.Proofs.YtjkcopgfcafpeaaGreatDoor

/-
  The walk of the reference's number, and what it reads in plain form. Conditions: places within the text, texts of at most 65536 bytes.
-/
set_option linter.unusedSimpArgs false
set_option linter.unusedVariables false
namespace Go.Proofs.YtjkcopgfcafpeaaGreatDoor
open Go.RowKit Go.Maps

/-- the number that digits spell -/
def numV : Nat → List UInt8 → Nat
  | n, [] => n
  | n, c :: r => numV (10 * n + (c.toNat - 48)) r

/-- the digits from a place on -/
def digs (s : List UInt8) (i : Nat) : List UInt8 := (s.drop i).takeWhile inD

theorem numV_snoc (c : UInt8) : ∀ (l : List UInt8) (n : Nat), numV n (l ++ [c]) = 10 * numV n l + (c.toNat - 48)
  | [], n => rfl
  | d :: l, n => numV_snoc c l _

theorem digs_all (s : List UInt8) (i : Nat) : ∀ c ∈ digs s i, inD c = true := fun c hc => List.all_eq_true.1 List.all_takeWhile c hc

theorem digs_at {s : List UInt8} {i k : Nat} (h : k < (digs s i).length) : i + k < s.length ∧ (digs s i)[k]? = some (s.getD (i + k) 0) := by
  have hp : digs s i <+: s.drop i := List.takeWhile_prefix _
  obtain ⟨t, ht⟩ := hp
  have hl : i + k < s.length := by
    have := congrArg List.length ht
    simp only [List.length_append, List.length_drop] at this
    omega
  refine ⟨hl, ?_⟩
  have : (s.drop i)[k]? = (digs s i)[k]? := by rw [← ht, List.getElem?_append_left h]
  rw [← this, List.getElem?_drop, List.getD_eq_getElem?_getD, List.getElem?_eq_getElem hl]
  rfl

theorem digs_stop {s : List UInt8} {i : Nat} (h : i + (digs s i).length < s.length) : inD (s.getD (i + (digs s i).length) 0) = false := by
  have e : ∀ (l : List UInt8), (l.takeWhile inD).length < l.length → inD (l.getD (l.takeWhile inD).length 0) = false := by
    intro l
    induction l with
    | nil => intro h; exact absurd h (Nat.lt_irrefl _)
    | cons c l ih =>
      intro h
      rw [List.takeWhile_cons] at h ⊢
      cases hc : inD c with
      | true =>
        rw [hc] at h
        simp only [if_true, List.length_cons] at h ⊢
        rw [List.getD_cons_succ]
        exact ih (by omega)
      | false => simp only [Bool.false_eq_true, if_false, List.length_nil, List.getD_cons_zero]; exact hc
  have := e (s.drop i) (by unfold digs at h; rw [List.length_drop]; omega)
  rw [List.getD_eq_getElem?_getD, List.getElem?_drop] at this
  rw [List.getD_eq_getElem?_getD]
  exact this

theorem inD_byte {c : UInt8} : inD c = isD (c.toNat : Int) := rfl

theorem numV_lt : ∀ (l : List UInt8) (n k : Nat), (∀ c ∈ l, inD c = true) → n < 10 ^ k → numV n l < 10 ^ (k + l.length)
  | [], n, k, _, h => h
  | c :: l, n, k, hd, h => by
    have hc := isD_iff (hd c (by simp))
    have := numV_lt l (10 * n + (c.toNat - 48)) (k + 1) (fun d hd' => hd d (by simp [hd'])) (by rw [Nat.pow_succ]; omega)
    rw [show k + (c :: l).length = k + 1 + l.length by simp; omega]
    exact this

/-- how many digits a reader takes, the number, and whether it is one -/
def numK (s : List UInt8) (i : Nat) : Nat := min (digs s i).length 11
def numN (s : List UInt8) (i : Nat) : Nat := numV 0 ((digs s i).take (numK s i))
def numOk (s : List UInt8) (i : Nat) : Bool := decide (0 < numK s i) && (decide (numN s i ≤ 1000000000) && (decide (numK s i = 1) || !(s.getD i 0 == 48)))

set_option maxRecDepth 100000 in
set_option maxHeartbeats 4000000 in
theorem number3_any (s : List UInt8) (i : Nat) (hi : i ≤ s.length) (hs : s.length ≤ 65536) (w : World) :
    Calls Tryz.prog 104 #[.string ⟨s.toArray⟩, .int .i64 (i : Int)] w fun e w' => e = .returned (.tuple #[.int .i64 (numN s i : Int), .int .i64 ((i + numK s i : Nat) : Int), .bool (numOk s i)]) ∧ Below w.heap.size w w' := by
  have hD := digs_all s i
  have HD := Lib.hid hD
  obtain ⟨R, hR⟩ : ∃ R, Value.tuple #[.int .i64 (numN s i : Int), .int .i64 ((i + numK s i : Nat) : Int), .bool (numOk s i)] = R := ⟨_, rfl⟩
  rw [hR]
  have HR := Lib.hid hR
  clear hR hD
  go_enter Tryz.func104, Tryz.ntmps104
  go_wp2_with fail
  go_loopw [1, 7] (fun v u wr => ∃ a n : Nat, i ≤ a ∧ a ≤ i + (digs s i).length ∧ a ≤ i + 11 ∧ v = .int .i64 (a : Int) ∧ u = .int .i64 (n : Int) ∧ n = numV 0 ((digs s i).take (a - i)) ∧ n < 10 ^ (a - i) ∧ w = wr)
    (fun v _ _ => s.length - (Go.RowKit.intOf v).toNat)
  case atStart => exact ⟨i, 0, Nat.le_refl _, by omega, by omega, rfl, rfl, by rw [Nat.sub_self]; rfl, by rw [Nat.sub_self]; decide, rfl⟩
  case round =>
    obtain ⟨a, n, hia, had, ha11, rfl, rfl, hn, hlt10, rfl⟩ := hrel
    have hn11 : n < 100000000000 := Nat.lt_of_lt_of_le hlt10 (Nat.pow_le_pow_right (by decide) (show a - i ≤ 11 by omega))
    have hal : a ≤ s.length := by
      have := (List.takeWhile_prefix (l := s.drop i) inD).length_le
      simp only [List.length_drop] at this
      unfold digs at had
      omega
    by_cases hc : a < i + (digs s i).length ∧ a < i + 11
    · obtain ⟨hc1, hc2⟩ := hc
      obtain ⟨hl, hget⟩ := digs_at (s := s) (i := i) (k := a - i) (by omega)
      rw [show i + (a - i) = a by omega] at hl hget
      have e3 := byte_at s a hl
      have hdg := isD_iff (HD.out _ (List.mem_of_getElem? hget))
      rw [byt_list] at e3
      have hstep : numV 0 ((digs s i).take (a + 1 - i)) = 10 * n + ((s.getD a 0).toNat - 48) := by
        rw [show a + 1 - i = (a - i) + 1 by omega, List.take_add_one, hget, Option.toList_some, numV_snoc, ← hn]
      have hpow : 10 * n + ((s.getD a 0).toNat - 48) < 10 ^ (a + 1 - i) := by
        rw [show a + 1 - i = (a - i) + 1 by omega, Nat.pow_succ]
        omega
      have HST := Lib.hid (And.intro hstep hpow)
      clear hstep hpow hget hn hlt10
      generalize (s.getD a 0).toNat = b at e3 hdg HST
      have hd1 : decide ((48 : Int) ≤ (b : Int)) = true := by simp; omega
      have hd2 : decide ((b : Int) ≤ 57) = true := by simp; omega
      have hd3 : decide ((a : Int) - (i : Int) < 11) = true := by simp; omega
      go_wp2_with fail
      go_roundw
      case rel => exact ⟨a + 1, 10 * n + (b - 48), by omega, by omega, by omega, by go_num, val_int (by omega), HST.out.1.symm, HST.out.2, by trivial⟩
      case measure => simp [Go.RowKit.intOf]; omega
    · have hk : a - i = numK s i := by unfold numK; omega
      have hn' : n = numN s i := by unfold numN; rw [← hk]; exact hn
      have hz : Value.tuple #[.int .i64 (n : Int), .int .i64 (a : Int), .bool (decide (0 < a - i) && (decide (n ≤ 1000000000) && (decide (a - i = 1) || !(s.getD i 0 == 48))))] = R := by
        rw [← HR.out]
        unfold numOk
        rw [← hn', ← hk, show i + (a - i) = a by omega]
      have hstop : a < s.length → (a = i + 11 ∧ inD (s.getD a 0) = true) ∨ inD (s.getD a 0) = false := by
        intro hl
        by_cases h11 : a < i + (digs s i).length
        · left
          obtain ⟨_, hget⟩ := digs_at (s := s) (i := i) (k := a - i) (by omega)
          rw [show i + (a - i) = a by omega] at hget
          exact ⟨by omega, HD.out _ (List.mem_of_getElem? hget)⟩
        · right
          have := digs_stop (s := s) (i := i) (by omega)
          rwa [show i + (digs s i).length = a by omega] at this
      have hil : i < a → i < s.length := by omega
      clear hn' hk hn hlt10 hc had HR
      -- why the loop stops
      have hcond : (¬ a < s.length) ∨ (∃ b : Nat, ∃ h : a < s.length, ((⟨s.toArray⟩ : ByteArray)[a]'h).toNat = (b : Int) ∧ ((decide ((48 : Int) ≤ (b : Int)) = false) ∨ (decide ((48 : Int) ≤ (b : Int)) = true ∧ decide ((b : Int) ≤ 57) = false) ∨ (decide ((48 : Int) ≤ (b : Int)) = true ∧ decide ((b : Int) ≤ 57) = true ∧ decide ((a : Int) - (i : Int) < 11) = false))) := by
        by_cases hl : a < s.length
        · refine Or.inr ⟨(s.getD a 0).toNat, hl, byte_at s a hl, ?_⟩
          rcases hstop hl with ⟨h1, h2⟩ | h2
          · obtain ⟨g1, g2⟩ := isD_iff h2
            exact Or.inr (Or.inr ⟨decide_eq_true (by omega), decide_eq_true (by omega), decide_eq_false (by omega)⟩)
          · unfold inD isD at h2
            rw [Bool.and_eq_false_iff] at h2
            rcases h2 with h2 | h2
            · exact Or.inl h2
            · by_cases h3 : decide ((48 : Int) ≤ ((s.getD a 0).toNat : Int)) = true
              · exact Or.inr (Or.inl ⟨h3, h2⟩)
              · exact Or.inl (by simpa using h3)
        · exact Or.inl hl
      -- what is asked of the number
      have hcls : (a = i) ∨ (i < a ∧ ¬ n ≤ 1000000000) ∨ (i < a ∧ n ≤ 1000000000 ∧ a = i + 1) ∨ (i < a ∧ n ≤ 1000000000 ∧ a ≠ i + 1 ∧ s.getD i 0 = 48) ∨ (i < a ∧ n ≤ 1000000000 ∧ a ≠ i + 1 ∧ s.getD i 0 ≠ 48) := by
        by_cases h1 : a = i
        · exact Or.inl h1
        · by_cases h2 : n ≤ 1000000000
          · by_cases h3 : a = i + 1
            · exact Or.inr (Or.inr (Or.inl ⟨by omega, h2, h3⟩))
            · by_cases h4 : s.getD i 0 = 48
              · exact Or.inr (Or.inr (Or.inr (Or.inl ⟨by omega, h2, h3, h4⟩)))
              · exact Or.inr (Or.inr (Or.inr (Or.inr ⟨by omega, h2, h3, h4⟩)))
          · exact Or.inr (Or.inl ⟨by omega, h2⟩)
      have HC := Lib.hid hcond
      clear hcond hstop
      rcases hcls with h1 | ⟨h1, h2⟩ | ⟨h1, h2, h3⟩ | ⟨h1, h2, h3, h4⟩ | ⟨h1, h2, h3, h4⟩
      case' inl =>
        have q1 : decide ((i : Int) < (a : Int)) = false := by simp; omega
        have q2 : (decide (0 < a - i) && (decide (n ≤ 1000000000) && (decide (a - i = 1) || !(s.getD i 0 == 48)))) = false := by simp [show a - i = 0 by omega]
        rw [q2] at hz
        have hq : ¬ i < a := by omega
        clear h1
      case' inr.inl =>
        have q1 : decide ((i : Int) < (a : Int)) = true := by simp; omega
        have q3 : decide ((n : Int) ≤ 1000000000) = false := by simp; omega
        have q2 : (decide (0 < a - i) && (decide (n ≤ 1000000000) && (decide (a - i = 1) || !(s.getD i 0 == 48)))) = false := by simp [h2]
        rw [q2] at hz
      case' inr.inr.inl =>
        have q1 : decide ((i : Int) < (a : Int)) = true := by simp; omega
        have q3 : decide ((n : Int) ≤ 1000000000) = true := by simp; omega
        have q4 : ((a : Int) == (i : Int) + 1) = true := by simp; omega
        have q2 : (decide (0 < a - i) && (decide (n ≤ 1000000000) && (decide (a - i = 1) || !(s.getD i 0 == 48)))) = true := by simp [h2, show a - i = 1 by omega]
        rw [q2] at hz
        clear h3
      case' inr.inr.inr.inl =>
        have q1 : decide ((i : Int) < (a : Int)) = true := by simp; omega
        have q3 : decide ((n : Int) ≤ 1000000000) = true := by simp; omega
        have q4 : ((a : Int) == (i : Int) + 1) = false := by simp; omega
        have hl0 := hil h1
        have q5 : (((⟨s.toArray⟩ : ByteArray)[i]'hl0).toNat : Int) = 48 := by rw [byte_at s i hl0, byt_list, h4]; rfl
        have q6 : ((48 : Int) != 48) = false := by decide
        have q2 : (decide (0 < a - i) && (decide (n ≤ 1000000000) && (decide (a - i = 1) || !(s.getD i 0 == 48)))) = false := by rw [h4]; simp [show a - i ≠ 1 by omega]
        rw [q2] at hz
        clear h4
      case' inr.inr.inr.inr =>
        have q1 : decide ((i : Int) < (a : Int)) = true := by simp; omega
        have q3 : decide ((n : Int) ≤ 1000000000) = true := by simp; omega
        have q4 : ((a : Int) == (i : Int) + 1) = false := by simp; omega
        have hl0 := hil h1
        obtain ⟨b0, hb0⟩ : ∃ b0 : Nat, (s.getD i 0).toNat = b0 := ⟨_, rfl⟩
        have q5 : (((⟨s.toArray⟩ : ByteArray)[i]'hl0).toNat : Int) = (b0 : Int) := by rw [byte_at s i hl0, byt_list, hb0]
        have q6 : ((b0 : Int) != 48) = true := by
          rw [bne_iff_ne]
          intro e
          apply h4
          have : (s.getD i 0).toNat = 48 := by omega
          rw [← u8_of (c := s.getD i 0) this (by omega)]
          rfl
        have q2 : (decide (0 < a - i) && (decide (n ≤ 1000000000) && (decide (a - i = 1) || !(s.getD i 0 == 48)))) = true := by
          have : (s.getD i 0 == 48) = false := by simpa using h4
          rw [this]; simp [h2]; omega
        rw [q2] at hz
        clear h4
        clear hb0
      all_goals
        subst hz
        clear q2
        rcases HC.out with hx | ⟨b, hx, hb, hy | ⟨hy, hy2⟩ | ⟨hy, hy2, hy3⟩⟩
        all_goals
          clear HC
          go_wp2_with fail
          go_quiet (fail)
          go_wp2_with fail
          exact bodyPost_ret (v := .tuple #[.int .i64 (n : Int), .int .i64 (a : Int), .bool _]) (by simp [results, Tryz.results104, go_sem] <;> rfl) rfl ⟨rfl, below_drewN (Below.refl _ _) _⟩

end Go.Proofs.YtjkcopgfcafpeaaGreatDoor

/-
  Plain mathematics: the string of a valid scheme is read as that scheme. Conditions: beyond its symbols and functions a scheme's lists hold the values that a reading leaves there.
-/
set_option linter.unusedSimpArgs false
set_option linter.unusedVariables false
namespace Go.Proofs.YtjkcopgfcafpeaaGreatDoor
open Go.RowKit Go.Maps

/-- the next byte does not belong to a name -/
def hdOff (r : List UInt8) : Prop := ∀ c, r.head? = some c → inN c = false

theorem inD_inN {c : UInt8} (h : inD c = true) : inN c = true := by
  unfold inD isD at h
  unfold inN okc
  rw [Bool.or_eq_true, Bool.or_eq_true]
  exact Or.inl (Or.inr h)

theorem span_app {p : UInt8 → Bool} {l r : List UInt8} (h : ∀ c ∈ l, p c = true) (hr : ∀ c, r.head? = some c → p c = false) : (l ++ r).takeWhile p = l ∧ (l ++ r).dropWhile p = r := by
  induction l with
  | nil =>
    cases r with
    | nil => exact ⟨rfl, rfl⟩
    | cons c r =>
      have := hr c rfl
      simp [this]
  | cons c l ih =>
    obtain ⟨h1, h2⟩ := ih fun d hd => h d (by simp [hd])
    have := h c (by simp)
    simp [this, h1, h2]

theorem nm_all {n : ByteArray} (h : nm n = true) : ∀ c ∈ n.data.toList, inN c = true := by
  unfold nm at h
  simp only [Bool.and_eq_true] at h
  have h2 := h.2
  unfold oks at h2
  rw [List.drop_zero, List.all_eq_true] at h2
  exact h2

theorem nm_ne {n : ByteArray} (h : nm n = true) : ∃ c l, n.data.toList = c :: l := by
  unfold nm at h
  simp only [Bool.and_eq_true, decide_eq_true_eq] at h
  have h1 := h.1.1.1
  cases hl : n.data.toList with
  | nil =>
    have h2 := congrArg List.length hl
    rw [size_list, List.length_nil] at h2
    omega
  | cons c l => exact ⟨c, l, rfl⟩

theorem rdName_put {n : ByteArray} {r : List UInt8} (h : nm n = true) (hr : hdOff r) : rdName (n.data.toList ++ r) = some (n, r) := by
  obtain ⟨h1, h2⟩ := span_app (nm_all h) hr
  have e : (⟨n.data.toList.toArray⟩ : ByteArray) = n := str_self n
  unfold rdName
  rw [h1, h2, e, if_pos h]

theorem numOf_all : (List.range 100).all (fun i => decide (numOf (Lib.decDigits i) = some (i : Int)) && (Lib.decDigits i).all inD) = true := by kernel_rfl

theorem numOf_put {i : Nat} (h : i < 100) : numOf (Lib.decDigits i) = some (i : Int) ∧ ∀ c ∈ Lib.decDigits i, inD c = true := by
  have := List.all_eq_true.1 numOf_all i (List.mem_range.2 h)
  simp only [Bool.and_eq_true, decide_eq_true_eq, List.all_eq_true] at this
  exact this

theorem rdNum_put {i : Nat} {r : List UInt8} (h : i < 100) (hr : hdOff r) : rdNum (Lib.decDigits i ++ r) = some ((i : Int), r) := by
  obtain ⟨h1, h2⟩ := numOf_put h
  obtain ⟨e1, e2⟩ := span_app h2 (r := r) (fun c hc => by
    cases hd : inD c with
    | false => rfl
    | true => exact absurd (inD_inN hd) (by simp [hr c hc]))
  unfold rdNum
  rw [e1, e2, h1]
  rfl

theorem idxR_put : ∀ (l : List ByteArray) (x : ByteArray) (i : Nat), l.reverse[i]? = some x → (∀ j, j < i → l.reverse[j]? ≠ some x) → idxR l x = some i
  | [], x, i, h, _ => by simp at h
  | n :: r, x, i, h, hno => by
    rw [List.reverse_cons] at h hno
    unfold idxR
    by_cases hi : i < r.length
    · have hl : i < r.reverse.length := by simpa using hi
      rw [List.getElem?_append_left hl] at h
      rw [idxR_put r x i h fun j hj => by
        have := hno j hj
        rwa [List.getElem?_append_left (by simp; omega)] at this]
    · have h2 : i = r.length := by
        have := (List.getElem?_eq_some_iff.1 h).1
        simp at this
        omega
      subst h2
      have hx : n = x := by simpa using h
      cases hr : idxR r x with
      | some j =>
        obtain ⟨h1, h2⟩ := idxR_at r x j hr
        have := hno j h1
        rw [List.getElem?_append_left (by simpa using h1)] at this
        exact absurd h2 this
      | none => simp [hx]

theorem idx_put {l : List ByteArray} {x : ByteArray} {i : Nat} (h : l[i]? = some x) (hno : ∀ j, j < i → l[j]? ≠ some x) : idx l x = some i :=
  idxR_put l.reverse x i (by rwa [List.reverse_reverse]) (by rwa [List.reverse_reverse])

/-- these lists are the names of a scheme, and its names are such and different -/
structure NamedB (x : Sc) (S F : List ByteArray) : Prop where
  sn : ∀ i, i < x.S.len → nm (x.S.nm i) = true
  fn : ∀ i, i < x.F.len → nm (x.F.nm i) = true
  si : ∀ i, i < x.S.len → idx S (x.S.nm i) = some i
  fi : ∀ i, i < x.F.len → idx F (x.F.nm i) = some i

theorem pre_no {c d : UInt8} {l : List UInt8} (h : c ≠ d) : pre [c] (d :: l) = false := by
  have : (c == d) = false := by simpa using h
  simp [Proofs.YtjkcopgfcafpeaaGreatDoor.pre, List.isPrefixOf, this]

theorem inN_ne {c : UInt8} (h : inN c = true) (k : Nat) (hk : k < 48) : c ≠ UInt8.ofNat k := by
  rintro rfl
  unfold inN okc isL at h
  simp only [Bool.or_eq_true, Bool.and_eq_true, decide_eq_true_eq] at h
  have e : (UInt8.ofNat k).toNat = k := by simp; omega
  rw [e] at h
  omega

theorem rdHead_put {x : Sc} {S F : List ByteArray} (hN : NamedB x S F) {k n : Int} (h : goodH x k n) {r : List UInt8} (hr : hdOff r) : rdHead S F (hTx x k n ++ r) = some ((k, n), r) := by
  obtain ⟨h0, h1⟩ := h
  obtain ⟨m, rfl⟩ : ∃ m : Nat, n = m := ⟨n.toNat, by omega⟩
  rcases h1 with ⟨rfl, h1⟩ | ⟨rfl, h1⟩ | ⟨rfl, h1⟩
  · unfold hTx rdHead
    rw [if_pos rfl, Int.toNat_natCast, if_pos (show pre [36] (36 :: Lib.decDigits m ++ r) = true from pre_append [36] _)]
    show (rdNum (Lib.decDigits m ++ r)).map _ = _
    rw [rdNum_put (by omega) hr]
    rfl
  · have hn := hN.fn m (by omega)
    obtain ⟨c, l, hc⟩ := nm_ne hn
    have hcN := nm_all hn c (by rw [hc]; simp)
    have p1 : pre [36] ((x.F.nm m).data.toList ++ r) = false := by rw [hc]; exact pre_no (fun e => inN_ne hcN 36 (by omega) e.symm)
    have p2 : pre [35] ((x.F.nm m).data.toList ++ r) = false := by rw [hc]; exact pre_no (fun e => inN_ne hcN 35 (by omega) e.symm)
    have e : hTx x 1 (m : Int) = (x.F.nm m).data.toList := by unfold hTx; rw [if_neg (by decide), if_pos rfl, Int.toNat_natCast]
    rw [e]
    unfold rdHead
    rw [if_neg (by simp [p1]), if_neg (by simp [p2]), rdName_put hn hr, Option.bind_some, hN.fi m (by omega)]
    rfl
  · have hn := hN.sn m (by omega)
    have e : hTx x 2 (m : Int) = 35 :: (x.S.nm m).data.toList := by unfold hTx; rw [if_neg (by decide), if_neg (by decide), Int.toNat_natCast]
    rw [e, List.cons_append]
    unfold rdHead
    have p35 : pre [35] (35 :: ((x.S.nm m).data.toList ++ r)) = true := pre_append [35] _
    rw [if_neg (by rw [pre_no (by decide)]; simp), if_pos p35]
    show (rdName ((x.S.nm m).data.toList ++ r)).bind _ = _
    rw [rdName_put hn hr, Option.bind_some, hN.si m (by omega)]
    rfl

theorem hdOff_cons {c : UInt8} {l : List UInt8} (h : inN c = false) : hdOff (c :: l) := by
  rintro d hd
  simp only [List.head?_cons, Option.some.injEq] at hd
  subst hd
  exact h

theorem hdOff_pre {c : UInt8} {p r : List UInt8} (h : inN c = false) : hdOff ((c :: p) ++ r) := hdOff_cons h

theorem aTx_hd {x : Sc} {a : X} {r : List UInt8} (hr : hdOff r) : hdOff (aTx x a ++ r) := by
  cases a with
  | nil => exact hr
  | cons k n a t =>
    simp only [aTx]
    split
    · exact hdOff_cons (by decide)
    · exact hdOff_cons (by decide)

theorem hTx_head {x : Sc} {S F : List ByteArray} (hN : NamedB x S F) {k n : Int} (h : goodH x k n) (r : List UInt8) : pre [40] (hTx x k n ++ r) = false := by
  obtain ⟨h0, h1⟩ := h
  obtain ⟨m, rfl⟩ : ∃ m : Nat, n = m := ⟨n.toNat, by omega⟩
  rcases h1 with ⟨rfl, h1⟩ | ⟨rfl, h1⟩ | ⟨rfl, h1⟩
  · unfold hTx
    rw [if_pos rfl, List.cons_append]
    exact pre_no (by decide)
  · have hn := hN.fn m (by omega)
    obtain ⟨c, l, hc⟩ := nm_ne hn
    have hcN := nm_all hn c (by rw [hc]; simp)
    unfold hTx
    rw [if_neg (by decide), if_pos rfl, Int.toNat_natCast, hc]
    exact pre_no (fun e => inN_ne hcN 40 (by omega) e.symm)
  · unfold hTx
    rw [if_neg (by decide), if_neg (by decide), List.cons_append]
    exact pre_no (by decide)

theorem rdA_put {x : Sc} {S F : List ByteArray} (hN : NamedB x S F) : ∀ (a : X), goodX x a → ∀ (r : List UInt8), hdOff r → pre [32] r = false → rdA S F (aTx x a ++ r) = some (a, r) := by
  intro a
  induction a with
  | nil => intro _ r _ hp; exact rdA_end hp
  | cons k n a t iha iht =>
    intro hg r hr hp
    obtain ⟨g1, g2, g3⟩ := hg
    have ht := iht g3 r hr hp
    simp only [aTx]
    by_cases h0 : a.len = 0
    · have ha : a = .nil := by
        cases a with
        | nil => rfl
        | cons _ _ _ _ => simp [X.len] at h0
      subst ha
      rw [if_pos h0]
      show rdA S F (32 :: (hTx x k n ++ aTx x t) ++ r) = _
      rw [List.cons_append, List.append_assoc, rdA_plain (hTx_head hN g1 _), rdHead_put hN g1 (aTx_hd hr), Option.bind_some, ht]
      rfl
    · rw [if_neg h0]
      have e : (32 :: 40 :: (hTx x k n ++ aTx x a ++ [41]) ++ aTx x t) ++ r = 32 :: 40 :: (hTx x k n ++ (aTx x a ++ (41 :: (aTx x t ++ r)))) := by simp
      rw [e, rdA_open]
      unfold rdT
      rw [rdHead_put hN g1 (aTx_hd (hdOff_cons (by decide))), Option.bind_some]
      show ((rdA S F (aTx x a ++ (41 :: (aTx x t ++ r)))).map _).bind _ = _
      rw [iha g2 _ (hdOff_cons (by decide)) (pre_no (by decide)), Option.map_some, Option.bind_some]
      show (if a.len ≠ 0 ∧ pre [41] (41 :: (aTx x t ++ r)) = true then _ else _) = _
      rw [if_pos ⟨h0, pre_append [41] _⟩]
      show (rdA S F (aTx x t ++ r)).map _ = _
      rw [ht]
      rfl

theorem rdBody_put {x : Sc} {S F : List ByteArray} (hN : NamedB x S F) {k n : Int} {a : X} (hh : goodH x k n) (hg : goodX x a) : rdBody S F (tTx x k n a) = some (k, n, a) := by
  have e1 := rdHead_put hN hh (r := aTx x a) (by have := aTx_hd (x := x) (a := a) (r := []) (by rintro c hc; cases hc); rwa [List.append_nil] at this)
  have e2 := rdA_put hN a hg [] (by rintro c hc; cases hc) rfl
  rw [List.append_nil] at e2
  unfold rdBody rdT tTx
  rw [e1, Option.bind_some]
  show (((rdA S F (aTx x a)).map _).bind _) = _
  rw [e2]
  rfl

theorem need_put (p r : List UInt8) : need p (p ++ r) = some r := by
  unfold need
  rw [if_pos (pre_append p r), List.drop_left]

theorem cut_put {m a b : List UInt8} (h : ∀ j, j < a.length → Lib.occAt (a ++ (m ++ b)) m j = false) : cutAt m (a ++ (m ++ b)) = some (a, b) := by
  have hi : Lib.index (a ++ (m ++ b)) m = a.length := Lib.index_first (by simp) (by unfold Lib.occAt; rw [List.drop_left, List.isPrefixOf_iff_prefix]; exact ⟨b, rfl⟩) h
  have e : Lib.cut (a ++ (m ++ b)) m = (a, b, true) := by
    unfold Lib.cut
    rw [hi, if_pos (Int.natCast_nonneg _), Int.toNat_natCast, List.take_left, ← List.drop_drop, List.drop_left, List.drop_left]
  unfold cutAt
  rw [e]
  rfl

/-- a mark begins nowhere where its byte d is at none of the places -/
theorem occ_no {m s : List UInt8} {j i : Nat} {d : UInt8} (hd : m[i]? = some d) (h : s[j + i]? ≠ some d) : Lib.occAt s m j = false := by
  cases hb : Lib.occAt s m j with
  | false => rfl
  | true =>
    unfold Lib.occAt at hb
    rw [List.isPrefixOf_iff_prefix] at hb
    obtain ⟨t, ht⟩ := hb
    have : (s.drop j)[i]? = some d := by
      rw [← ht, List.getElem?_append_left (List.getElem?_eq_some_iff.1 hd).1]
      exact hd
    rw [List.getElem?_drop] at this
    exact absurd this h

theorem T.txt_chars (t : T) : ∀ c ∈ t.txt, c ≠ 61 := by
  induction t with
  | nil => intro c hc; simp [T.txt] at hc; subst hc; decide
  | cons h t ihh iht =>
    intro c hc
    simp only [T.txt, List.mem_append] at hc
    rcases hc with hc | hc
    · split at hc
      · simp at hc
        rcases hc with rfl | rfl | rfl | rfl <;> decide
      · simp only [List.mem_cons, List.mem_append, List.not_mem_nil, or_false] at hc
        rcases hc with rfl | hc | rfl | rfl | rfl | rfl
        · decide
        · exact ihh c hc
        all_goals decide
    · exact iht c hc

theorem cut_sort {t : T} {b : List UInt8} : cutAt [32, 61, 32] (t.txt ++ ([32, 61, 32] ++ b)) = some (t.txt, b) := by
  refine cut_put fun j hj => occ_no (i := 1) (d := 61) rfl ?_
  by_cases h1 : j + 1 < t.txt.length
  · rw [List.getElem?_append_left h1]
    intro e
    exact T.txt_chars t _ (List.mem_of_getElem? e) rfl
  · have e : j + 1 = t.txt.length := by omega
    rw [e, List.getElem?_append_right (Nat.le_refl _), Nat.sub_self]
    show some (32 : UInt8) ≠ some 61
    decide

theorem inN_no10 {c : UInt8} (h : inN c = true) : c ≠ 10 := inN_ne h 10 (by omega)

theorem hTx_chars {x : Sc} (hs : ∀ i, i < x.S.len → nm (x.S.nm i) = true) (hf : ∀ i, i < x.F.len → nm (x.F.nm i) = true) {k n : Int} (h : goodH x k n) : ∀ c ∈ hTx x k n, c ≠ 10 := by
  obtain ⟨h0, h1⟩ := h
  obtain ⟨m, rfl⟩ : ∃ m : Nat, n = m := ⟨n.toNat, by omega⟩
  intro c hc
  rcases h1 with ⟨rfl, h1⟩ | ⟨rfl, h1⟩ | ⟨rfl, h1⟩
  · unfold hTx at hc
    rw [if_pos rfl, Int.toNat_natCast, List.mem_cons] at hc
    rcases hc with rfl | hc
    · decide
    · exact inN_no10 (inD_inN ((numOf_put (by omega)).2 c hc))
  · unfold hTx at hc
    rw [if_neg (by decide), if_pos rfl, Int.toNat_natCast] at hc
    exact inN_no10 (nm_all (hf m (by omega)) c hc)
  · unfold hTx at hc
    rw [if_neg (by decide), if_neg (by decide), Int.toNat_natCast, List.mem_cons] at hc
    rcases hc with rfl | hc
    · decide
    · exact inN_no10 (nm_all (hs m (by omega)) c hc)

theorem aTx_chars {x : Sc} (hs : ∀ i, i < x.S.len → nm (x.S.nm i) = true) (hf : ∀ i, i < x.F.len → nm (x.F.nm i) = true) : ∀ (a : X), goodX x a → ∀ c ∈ aTx x a, c ≠ 10 := by
  intro a
  induction a with
  | nil => intro _ c hc; simp [aTx] at hc
  | cons k n a t iha iht =>
    intro hg c hc
    obtain ⟨g1, g2, g3⟩ := hg
    simp only [aTx, List.mem_append] at hc
    rcases hc with hc | hc
    · split at hc
      · rw [List.mem_cons] at hc
        rcases hc with rfl | hc
        · decide
        · exact hTx_chars hs hf g1 c hc
      · simp only [List.mem_cons, List.mem_append, List.not_mem_nil, or_false] at hc
        rcases hc with rfl | rfl | (hc | hc) | rfl
        · decide
        · decide
        · exact hTx_chars hs hf g1 c hc
        · exact iha g2 c hc
        · decide
    · exact iht g3 c hc

theorem cut_line {a b : List UInt8} (h : ∀ c ∈ a, c ≠ 10) : cutAt [10] (a ++ ([10] ++ b)) = some (a, b) := by
  refine cut_put fun j hj => occ_no (i := 0) (d := 10) rfl ?_
  rw [Nat.add_zero, List.getElem?_append_left hj]
  intro e
  exact h _ (List.mem_of_getElem? e) rfl

theorem ans_put {t : T} (h : t.valid = true) : ansE t.txt = 0 ∧ ansT t.txt = t := by
  have hr := txt_rd t [] rfl
  rw [List.append_nil] at hr
  have hl := pT_len h
  have e : t.pT = t.txt := by unfold T.pT; rw [if_pos h]
  rw [e] at hl
  unfold ansE ansT
  rw [if_pos (by omega), if_pos (by omega), hr]
  simp [h, T.oE]

/-- a scheme's symbols and functions from i on, as the lists that a reading of its lines gives -/
def symsR (x : Sc) : Nat → Nat → List (ByteArray × Int)
  | _, 0 => []
  | i, m + 1 => (x.S.nm i, x.S.rk i) :: symsR x (i + 1) m

def funsR (x : Sc) : Nat → Nat → List FL
  | _, 0 => []
  | i, m + 1 => ⟨x.F.nm i, x.F.st i, 0, tTx x (x.F.bk i) (x.F.bn i) (x.F.bt i)⟩ :: funsR x (i + 1) m

def bodsR (x : Sc) : Nat → Nat → List (Int × Int × X)
  | _, 0 => []
  | i, m + 1 => (x.F.bk i, x.F.bn i, x.F.bt i) :: bodsR x (i + 1) m

theorem symsR_get (x : Sc) : ∀ (m i j : Nat), (symsR x i m)[j]? = if j < m then some (x.S.nm (i + j), x.S.rk (i + j)) else none
  | 0, _, _ => by simp [symsR]
  | m + 1, i, 0 => by simp [symsR]
  | m + 1, i, j + 1 => by
    simp only [symsR, List.getElem?_cons_succ]
    rw [symsR_get x m (i + 1) j, show i + 1 + j = i + (j + 1) by omega]
    simp

theorem funsR_get (x : Sc) : ∀ (m i j : Nat), (funsR x i m)[j]? = if j < m then some ⟨x.F.nm (i + j), x.F.st (i + j), 0, tTx x (x.F.bk (i + j)) (x.F.bn (i + j)) (x.F.bt (i + j))⟩ else none
  | 0, _, _ => by simp [funsR]
  | m + 1, i, 0 => by simp [funsR]
  | m + 1, i, j + 1 => by
    simp only [funsR, List.getElem?_cons_succ]
    rw [funsR_get x m (i + 1) j, show i + 1 + j = i + (j + 1) by omega]
    simp

theorem bodsR_get (x : Sc) : ∀ (m i j : Nat), (bodsR x i m)[j]? = if j < m then some (x.F.bk (i + j), x.F.bn (i + j), x.F.bt (i + j)) else none
  | 0, _, _ => by simp [bodsR]
  | m + 1, i, 0 => by simp [bodsR]
  | m + 1, i, j + 1 => by
    simp only [bodsR, List.getElem?_cons_succ]
    rw [bodsR_get x m (i + 1) j, show i + 1 + j = i + (j + 1) by omega]
    simp

theorem symsR_len (x : Sc) : ∀ (m i : Nat), (symsR x i m).length = m
  | 0, _ => rfl
  | m + 1, i => by simp [symsR, symsR_len x m (i + 1)]

theorem funsR_len (x : Sc) : ∀ (m i : Nat), (funsR x i m).length = m
  | 0, _ => rfl
  | m + 1, i => by simp [funsR, funsR_len x m (i + 1)]

theorem funsR_sorted (x : Sc) : ∀ (m i : Nat), sorted (funsR x i m) = true
  | 0, _ => rfl
  | m + 1, i => by
    have := funsR_sorted x m (i + 1)
    unfold sorted at this ⊢
    simp only [funsR, List.all_cons, decide_true, Bool.true_and]
    exact this

theorem rdSy_put {x : Sc} (hn : ∀ i, i < x.S.len → nm (x.S.nm i) = true) (hk : ∀ i, i < x.S.len → 0 ≤ x.S.rk i ∧ x.S.rk i ≤ 4) {r : List UInt8} (hr : pre symW r = false) :
    ∀ (m i : Nat), i + m ≤ x.S.len → rdSy (symsL x i m ++ r) = some (symsR x i m, r)
  | 0, i, _ => rdSy_end hr
  | m + 1, i, h => by
    have ih := rdSy_put hn hk hr m (i + 1) (by omega)
    have h1 := hn i (by omega)
    obtain ⟨h2, h3⟩ := hk i (by omega)
    obtain ⟨k, hkk⟩ : ∃ k : Nat, x.S.rk i = k := ⟨(x.S.rk i).toNat, by omega⟩
    have e : symsL x i (m + 1) ++ r = symW ++ ((x.S.nm i).data.toList ++ ([32] ++ (Lib.decDigits k ++ ([10] ++ (symsL x (i + 1) m ++ r))))) := by
      simp only [symsL, symL, hkk, Int.toNat_natCast, symW]
      simp
    rw [e, rdSy_more (pre_append _ _)]
    have e7 : ∀ l : List UInt8, (symW ++ l).drop 7 = l := fun l => rfl
    rw [e7]
    unfold rdSym
    rw [rdName_put h1 ((hdOff_pre (c := 32) (p := []) (by decide))), Option.bind_some]
    simp only
    rw [need_put, Option.bind_some, rdNum_put (by omega) (hdOff_pre (c := 10) (p := []) (by decide)), Option.bind_some]
    simp only
    rw [need_put, Option.map_some, Option.bind_some]
    simp only
    rw [ih]
    simp [symsR, hkk]

theorem rdFu_put {x : Sc} (hg : Good x) (hs : ∀ i, i < x.S.len → nm (x.S.nm i) = true) (hn : ∀ i, i < x.F.len → nm (x.F.nm i) = true) :
    ∀ (m i : Nat), i + m ≤ x.F.len → rdFu (funsL x i m) = some (funsR x i m)
  | 0, i, _ => rdFu_end
  | m + 1, i, h => by
    have ih := rdFu_put hg hs hn m (i + 1) (by omega)
    have h1 := hn i (by omega)
    have h2 := hg.sort i (by omega)
    have h3 := hg.head i (by omega)
    have h4 := hg.body i (by omega)
    have hp : (x.F.st i).pT = (x.F.st i).txt := by unfold T.pT; rw [if_pos h2]
    obtain ⟨a1, a2⟩ := ans_put h2
    have hch : ∀ c ∈ tTx x (x.F.bk i) (x.F.bn i) (x.F.bt i), c ≠ 10 := by
      intro c hc
      unfold tTx at hc
      rw [List.mem_append] at hc
      rcases hc with hc | hc
      · exact hTx_chars hs hn h3 c hc
      · exact aTx_chars hs hn _ h4 c hc
    have e : funsL x i (m + 1) = funW ++ ((x.F.nm i).data.toList ++ ([32, 58, 32] ++ ((x.F.st i).txt ++ ([32, 61, 32] ++ (tTx x (x.F.bk i) (x.F.bn i) (x.F.bt i) ++ ([10] ++ funsL x (i + 1) m)))))) := by
      simp only [funsL, funL, hp, funW]
      simp
    rw [e, rdFu_more (by simp [funW]), need_put, Option.bind_some]
    unfold rdFun
    rw [rdName_put h1 (hdOff_pre (c := 32) (p := [58, 32]) (by decide)), Option.bind_some]
    simp only
    rw [need_put, Option.bind_some, cut_sort, Option.bind_some]
    simp only
    rw [a1, if_neg (by decide), cut_line hch, Option.map_some, Option.bind_some]
    simp only
    rw [ih, a2]
    rfl

theorem rdBodies_put {x : Sc} (hg : Good x) {S F : List ByteArray} (hN : NamedB x S F) : ∀ (m i : Nat), i + m ≤ x.F.len → rdBodies S F (funsR x i m) = some (bodsR x i m)
  | 0, i, _ => rfl
  | m + 1, i, h => by
    have ih := rdBodies_put hg hN m (i + 1) (by omega)
    simp only [funsR, rdBodies, bodsR]
    rw [rdBody_put hN (hg.head i (by omega)) (hg.body i (by omega)), Option.bind_some, ih]
    rfl

/-- beyond its symbols and functions a scheme's lists hold what a reading leaves there -/
structure Norm (x : Sc) : Prop where
  s1 : ∀ i, x.S.len ≤ i → x.S.nm i = ByteArray.empty
  s2 : ∀ i, x.S.len ≤ i → x.S.rk i = 0
  f1 : ∀ i, x.F.len ≤ i → x.F.nm i = ByteArray.empty
  f2 : ∀ i, x.F.len ≤ i → x.F.st i = .nil
  f3 : ∀ i, x.F.len ≤ i → x.F.bk i = 0
  f4 : ∀ i, x.F.len ≤ i → x.F.bn i = 0
  f5 : ∀ i, x.F.len ≤ i → x.F.bt i = .nil

theorem sySc_put {x : Sc} (h : Norm x) : sySc (symsR x 0 x.S.len) = x.S := by
  have e1 : ∀ i, ((symsR x 0 x.S.len).getD i (ByteArray.empty, 0)) = (x.S.nm i, x.S.rk i) := by
    intro i
    rw [List.getD_eq_getElem?_getD, symsR_get]
    by_cases hi : i < x.S.len
    · rw [if_pos hi, Nat.zero_add]; rfl
    · rw [if_neg hi, h.s1 i (by omega), h.s2 i (by omega)]; rfl
  unfold sySc
  simp only [e1, symsR_len]

theorem fuSc_put {x : Sc} (h : Norm x) : fuSc (funsR x 0 x.F.len) (bodsR x 0 x.F.len) = x.F := by
  have e1 : ∀ i, ((funsR x 0 x.F.len).getD i ⟨ByteArray.empty, .nil, 0, []⟩).nm = x.F.nm i := by
    intro i
    rw [List.getD_eq_getElem?_getD, funsR_get]
    by_cases hi : i < x.F.len
    · rw [if_pos hi, Nat.zero_add]; rfl
    · rw [if_neg hi, h.f1 i (by omega)]; rfl
  have e2 : ∀ i, ((funsR x 0 x.F.len).getD i ⟨ByteArray.empty, .nil, 0, []⟩).st = x.F.st i := by
    intro i
    rw [List.getD_eq_getElem?_getD, funsR_get]
    by_cases hi : i < x.F.len
    · rw [if_pos hi, Nat.zero_add]; rfl
    · rw [if_neg hi, h.f2 i (by omega)]; rfl
  have e3 : ∀ i, ((bodsR x 0 x.F.len).getD i (0, 0, .nil)) = (x.F.bk i, x.F.bn i, x.F.bt i) := by
    intro i
    rw [List.getD_eq_getElem?_getD, bodsR_get]
    by_cases hi : i < x.F.len
    · rw [if_pos hi, Nat.zero_add]; rfl
    · rw [if_neg hi, h.f3 i (by omega), h.f4 i (by omega), h.f5 i (by omega)]; rfl
  unfold fuSc
  simp only [e1, e2, e3, funsR_len]

theorem funsL_pre (x : Sc) (m : Nat) : pre symW (funsL x 0 m) = false := by
  cases m with
  | zero => rfl
  | succ m =>
    have e : ∃ l, funsL x 0 (m + 1) = 102 :: l := ⟨_, by simp only [funsL, funL]; rfl⟩
    obtain ⟨l, e⟩ := e
    rw [e]
    simp [Proofs.YtjkcopgfcafpeaaGreatDoor.pre, symW, List.isPrefixOf]

/-- what is written is read back -/
theorem round_put {x : Sc} (h : scOk x = true) (hn : Norm x) (hl : (putL x).length ≤ 65536) : getE (putL x) = 0 ∧ getSc (putL x) = x := by
  have hg := good_of h
  have h' := h
  simp only [scOk, Bool.and_eq_true, Bool.not_eq_true', decide_eq_false_iff_not] at h'
  obtain ⟨⟨⟨⟨⟨h1, h2⟩, h3⟩, h4⟩, h5⟩, h6⟩ := h'
  simp only [plOk, Bool.and_eq_true, validL] at h5
  obtain ⟨⟨h51, _, h52⟩, _⟩ := h5
  have hs := h51
  change symsOk x.S = true at hs
  simp only [symsOk, Bool.and_eq_true, decide_eq_true_eq] at hs
  have hsy := fun i (hi : i < x.S.len) => symFrom_at x.S x.S.len 0 hs.2 i (Nat.zero_le _) (by omega)
  have hsn := fun i (hi : i < x.S.len) => symOk_name (hsy i hi)
  have hfn := (distF_iff x).1 h3
  have hN : NamedB x ((symsR x 0 x.S.len).map (·.1)) ((funsR x 0 x.F.len).map (·.nm)) := by
    refine ⟨hsn, fun i hi => (hfn i hi).1, fun i hi => idx_put (by rw [List.getElem?_map, symsR_get, if_pos hi, Nat.zero_add]; rfl) fun j hj => ?_, fun i hi => idx_put (by rw [List.getElem?_map, funsR_get, if_pos hi, Nat.zero_add]; rfl) fun j hj => ?_⟩
    · rw [List.getElem?_map, symsR_get, if_pos (by omega), Nat.zero_add]
      have := hsy i hi
      simp only [symOk, Bool.and_eq_true, Bool.not_eq_true'] at this
      have := (dup_iff x.S i).1 this.1.1.2 j hj
      simpa using this
    · rw [List.getElem?_map, funsR_get, if_pos (by omega), Nat.zero_add]
      have := (hfn i hi).2 j hj
      simpa using this
  have e1 := rdSy_put hsn hg.rank (funsL_pre x x.F.len) x.S.len 0 (by omega)
  have e2 := rdFu_put hg hsn (fun i hi => (hfn i hi).1) x.F.len 0 (by omega)
  have e3 := rdBodies_put hg hN x.F.len 0 (by omega)
  have e4 : rdSc (putL x) = some (x, true) := by
    unfold rdSc rdL putL
    rw [e1, Option.bind_some]
    simp only
    rw [e2, Option.map_some, Option.bind_some]
    unfold rdB
    simp only
    rw [e3, Option.map_some, sySc_put hn, fuSc_put hn, funsR_sorted]
  unfold getE getSc
  rw [if_neg (by omega), if_neg (by omega), e4]
  simp [h]

/-- a scheme, and beyond its lists what a reading leaves there -/
def Sc.norm (x : Sc) : Sc := ⟨⟨x.S.len, fun i => if i < x.S.len then x.S.nm i else ByteArray.empty, fun i => if i < x.S.len then x.S.rk i else 0⟩,
  ⟨x.F.len, fun i => if i < x.F.len then x.F.nm i else ByteArray.empty, fun i => if i < x.F.len then x.F.st i else .nil, fun i => if i < x.F.len then x.F.bk i else 0, fun i => if i < x.F.len then x.F.bn i else 0, fun i => if i < x.F.len then x.F.bt i else .nil⟩⟩

theorem norm_norm (x : Sc) : Norm x.norm := by
  refine ⟨?_, ?_, ?_, ?_, ?_, ?_, ?_⟩ <;>
    (intro i hi
     exact if_neg (Nat.not_lt.2 hi))

theorem isC_norm {w : World} {x : Sc} {a : At2} (h : IsC w x a) : IsC w x.norm a := by
  obtain ⟨⟨s1, s2, s3, s4, s5⟩, f1, f2, f3, f4, f5⟩ := h
  refine ⟨⟨s1, s2, s3, s4, ?_⟩, f1, f2, f3, f4, ?_⟩
  · rcases s5 with s5 | ⟨b, off, e, hr⟩
    · exact Or.inl s5
    · refine Or.inr ⟨b, off, e, fun i hi => ?_⟩
      have hi' : i < x.S.len := hi
      have := hr i hi
      show _ = some (Value.string (if i < x.S.len then x.S.nm i else ByteArray.empty)) ∧ _ = some (Value.int .i64 (if i < x.S.len then x.S.rk i else 0))
      rw [if_pos hi', if_pos hi']
      exact this
  · rcases f5 with f5 | ⟨b, off, e, hr⟩
    · exact Or.inl f5
    · refine Or.inr ⟨b, off, e, fun i hi => ?_⟩
      have hi' : i < x.F.len := hi
      have := hr i hi
      unfold RowF1 at this ⊢
      have e1 : x.norm.F.nm i = x.F.nm i := if_pos hi'
      have e2 : x.norm.F.st i = x.F.st i := if_pos hi'
      have e3 : x.norm.F.bk i = x.F.bk i := if_pos hi'
      have e4 : x.norm.F.bn i = x.F.bn i := if_pos hi'
      have e5 : x.norm.F.bt i = x.F.bt i := if_pos hi'
      rw [e1, e2, e3, e4, e5]
      exact this

end Go.Proofs.YtjkcopgfcafpeaaGreatDoor

