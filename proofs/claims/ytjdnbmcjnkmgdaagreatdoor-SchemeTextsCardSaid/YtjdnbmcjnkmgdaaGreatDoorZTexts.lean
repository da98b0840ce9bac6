/-
  Whatever text is handed in, the statement on texts that are read answers true and leaves the text as it was. Conditions: none but the row's own (the package variables read as the program's text lays them).
-/
import Derived.Test.YtjdnbmcjnkmgdaaGreatDoorMg30
import Derived.Test.YtjdnbmcjnkmgdaaGreatDoorMg31
import Derived.Test.YtjdnbmcjnkmgdaaGreatDoorCards
import Derived.Test.YtjdnbmcjnkmgdaaGreatDoorTie
import Derived.SevenTiedAt

/-
  The walk of the statement on texts that are read. Conditions: the package variables read as laid; that a text which is read is written back.
-/
set_option linter.unusedSimpArgs false
set_option linter.unusedVariables false
namespace Go.Proofs.YtjdnbmcjnkmgdaaGreatDoor
open Go.RowKit Go.Maps

theorem getSc_no {s : List UInt8} (h : getE s ≠ 0) : getSc s = noSc := by
  unfold getE at h
  unfold getSc
  split
  · rfl
  · rename_i h1
    rw [if_neg h1] at h
    cases hr : rdSc s with
    | none => rfl
    | some x =>
      rw [hr] at h
      simp only at h ⊢
      split
      · rename_i h2; rw [if_pos h2] at h; exact absurd rfl h
      · rfl

set_option maxRecDepth 100000 in
set_option maxHeartbeats 4000000 in
theorem law_stexts' (hp : ∀ s, getE s = 0 → putE (getSc s) = 0 ∧ putT (getSc s) = s) (s : ByteArray) (w : World) (hg : Gl w) (h6 : 6 ≤ w.heap.size) :
    Calls Tryz.prog 10 #[.string s] w fun e w' => e = .returned (.bool true) ∧ Below w.heap.size w w' := by
  obtain ⟨l, hl⟩ : ∃ l : List UInt8, s = ⟨l.toArray⟩ := ⟨s.data.toList, (str_self s).symm⟩
  subst hl
  have H1 := Lib.hid fun W h h' => sget_any l W h h'
  have H2 := Lib.hid fun W h h' => alive3_any W h h'
  by_cases h0 : getE l = 0
  · obtain ⟨p1, p2⟩ := hp l h0
    have H3 := Lib.hid fun a W h => sput_any (getSc l) a W h
    rw [p1, p2] at H3
    rw [h0] at H1
    generalize getSc l = x at H1 H3
    clear hp p1 p2 h0
    go_enter Tryz.func10, Tryz.ntmps10
    go_wp2_with fail
    refine (H1.out _ hg h6).mono ?_
    rintro e w1 ⟨⟨sp, sn, sc, fp, fn, fc⟩, rfl, hC, hb1⟩
    have HC := Lib.hid hC
    have HB := Lib.hid hb1
    clear hC hb1 H1
    go_wp2_with fail
    refine (H3.out _ _ (HC.out.alloc _)).mono ?_
    rintro e w2 ⟨rfl, hb2⟩
    have B2 := below_box HB.out hb2
    have HB2 := Lib.hid B2
    clear B2 hb2
    go_wp2_with fail
    refine (H2.out _ (hg.keep fun b hb => HB2.out.block b (by omega)) (by have := HB2.out.size; omega)).mono ?_
    rintro e w3 ⟨rfl, hb3⟩
    go_wp2_with fail
    go_ret
    exact ⟨rfl, HB2.out.trans (hb3.mono HB2.out.size)⟩
  · have e0 := getSc_no h0
    rw [e0] at H1
    have hd : (getE l == 0) = false := by simpa using h0
    generalize getE l = k at H1 hd
    clear hp e0 h0
    go_enter Tryz.func10, Tryz.ntmps10
    go_wp2_with fail
    refine (H1.out _ hg h6).mono ?_
    rintro e w1 ⟨⟨sp, sn, sc, fp, fn, fc⟩, rfl, hC, hb1⟩
    obtain rfl : sn = 0 := hC.1.1
    obtain rfl : fn = 0 := hC.2.1
    have HB := Lib.hid (hb1.alloc hb1.size (.cells #[.slice sp 0 sc, .slice fp 0 fc] 25))
    clear hC hb1 H1
    go_wp2_with fail
    refine (H2.out _ (hg.keep fun b hb => HB.out.block b (by omega)) (by have := HB.out.size; omega)).mono ?_
    rintro e w3 ⟨rfl, hb3⟩
    go_wp2_with fail
    go_ret
    exact ⟨rfl, HB.out.trans (hb3.mono HB.out.size)⟩

end Go.Proofs.YtjdnbmcjnkmgdaaGreatDoor

/-
  Plain mathematics: a text that is read as a scheme is the string of that scheme. Conditions: none.
-/
set_option linter.unusedSimpArgs false
set_option linter.unusedVariables false
namespace Go.Proofs.YtjdnbmcjnkmgdaaGreatDoor
open Go.RowKit Go.Maps

theorem ans_casesS (s : List UInt8) : (ansE s = 0 ∧ (ansT s).valid = true ∧ s.length ≤ 65536 ∧ rd s = some (ansT s, [])) ∨ (ansE s ≠ 0 ∧ ansT s = .nil) := by
  by_cases hs : s.length ≤ 65536
  case neg => exact Or.inr (by simp [ansE, ansT, hs])
  case pos =>
    cases h : rd s with
    | none => exact Or.inr (by simp [ansE, ansT, hs, h])
    | some x =>
      obtain ⟨t, r⟩ := x
      cases r with
      | cons a r => exact Or.inr (by simp [ansE, ansT, hs, h])
      | nil =>
        cases hv : t.valid with
        | false => exact Or.inr (by simp [ansE, ansT, hs, h, hv, T.oE])
        | true => exact Or.inl (by simp [ansE, ansT, hs, h, hv, T.oE])

theorem rdName_app {s r : List UInt8} {n : ByteArray} (h : rdName s = some (n, r)) : s = n.data.toList ++ r := by
  unfold rdName at h
  split at h
  · simp only [Option.some.injEq, Prod.mk.injEq] at h
    obtain ⟨rfl, rfl⟩ := h
    exact (List.takeWhile_append_dropWhile).symm
  · cases h

theorem need_app {p s r : List UInt8} (h : need p s = some r) : s = p ++ r := by
  unfold need at h
  split at h
  · rename_i hp
    obtain ⟨r', rfl⟩ := (pre_iff p s).1 hp
    simpa using h
  · cases h

theorem cutAt_app {m s a b : List UInt8} (h : cutAt m s = some (a, b)) : s = a ++ (m ++ b) := by
  unfold cutAt at h
  split at h
  · rename_i hc
    simp only [Option.some.injEq, Prod.mk.injEq] at h
    obtain ⟨rfl, rfl⟩ := h
    unfold Lib.cut at hc ⊢
    split at hc
    · rename_i hi
      rw [if_pos hi]
      rcases Lib.index_spec s m with ⟨h1, _⟩ | ⟨i, h1, h2, h3, _⟩
      · omega
      · rw [h1, Int.toNat_natCast]
        simp only
        unfold Lib.occAt at h3
        rw [List.isPrefixOf_iff_prefix] at h3
        obtain ⟨t, ht⟩ := h3
        have e : s.drop (i + m.length) = t := by
          rw [← List.drop_drop, ← ht]
          simp
        rw [e, ht, List.take_append_drop]
    · cases hc
  · cases h

theorem isD_iff {c : UInt8} (h : inD c = true) : 48 ≤ c.toNat ∧ c.toNat ≤ 57 := by
  unfold inD isD at h
  simp only [Bool.and_eq_true, decide_eq_true_eq] at h
  omega

theorem parse_ge : ∀ (l : List UInt8) (acc u : Nat), Lib.parseUint10 acc l = .ok u → acc ≤ u
  | [], acc, u, h => by
    simp only [Lib.parseUint10] at h
    injection h with h
    omega
  | c :: r, acc, u, h => by
    simp only [Lib.parseUint10] at h
    split at h
    · split at h
      · cases h
      · split at h
        · cases h
        · have := parse_ge r _ u h
          omega
    · cases h

theorem parse_step {c : UInt8} {r : List UInt8} {acc u : Nat} (h : Lib.parseUint10 acc (c :: r) = .ok u) : (48 ≤ c.toNat ∧ c.toNat ≤ 57) ∧ Lib.parseUint10 (acc * 10 + (c.toNat - 48)) r = .ok u := by
  simp only [Lib.parseUint10] at h
  split at h
  · rename_i hc
    split at h
    · cases h
    · split at h
      · cases h
      · exact ⟨hc, h⟩
  · cases h

theorem u8_of {c : UInt8} {k : Nat} (h : c.toNat = k) (hk : k < 256) : UInt8.ofNat k = c := by
  subst h
  exact UInt8.ofNat_toNat

/-- a number below 100 that a reader takes is spelt as it is written -/
theorem numOf_dec {d : List UInt8} {v : Int} (h : numOf d = some v) (hd : ∀ c ∈ d, inD c = true) (hv : v < 100) : 0 ≤ v ∧ Lib.decDigits v.toNat = d := by
  have hp := numOf_pos h
  unfold numOf at h
  cases d with
  | nil => exact absurd rfl hp
  | cons c r =>
    have hc := isD_iff (hd c (by simp))
    have ha : ∀ v', Lib.atoiAll (c :: r) = .ok v' → ∃ u, Lib.parseUint10 0 (c :: r) = .ok u ∧ v' = (u : Int) := by
      intro v' h
      unfold Lib.atoiAll Lib.parseMag at h
      have h1 : ¬ c.toNat = 43 := by omega
      have h2 : ¬ c.toNat = 45 := by omega
      simp only [h1, h2, or_self, if_false] at h
      rw [if_neg (show ¬ (c :: r) = [] by simp)] at h
      cases hu : Lib.parseUint10 0 (c :: r) with
      | ok u =>
        rw [hu] at h
        refine ⟨u, rfl, ?_⟩
        simp only [not_false_eq_true, true_and, false_and, if_false] at h
        split at h
        · cases h
        · injection h with h
          exact h.symm
      | _ => rw [hu] at h; cases h
    cases hA : Lib.atoiAll (c :: r) with
    | ok v' =>
      rw [hA] at h
      simp only at h
      obtain ⟨u, hu, rfl⟩ := ha v' hA
      split at h
      · rename_i hh
        simp only [Option.some.injEq] at h
        subst h
        refine ⟨by omega, ?_⟩
        rw [Int.toNat_natCast]
        obtain ⟨_, s1⟩ := parse_step hu
        cases r with
        | nil =>
          simp only [Lib.parseUint10] at s1
          injection s1 with s1
          rw [Lib.decDigits_one (by omega), u8_of (c := c) (by omega) (by omega)]
        | cons c2 r2 =>
          have hz : ¬ c = 48 := fun e => hh.2 ⟨by simp, by simp [e]⟩
          have hz' : c.toNat ≠ 48 := fun e => hz (by rw [← u8_of (c := c) e (by omega)]; rfl)
          obtain ⟨hc2, s2⟩ := parse_step s1
          cases r2 with
          | nil =>
            simp only [Lib.parseUint10] at s2
            injection s2 with s2
            rw [Lib.decDigits_two (by omega) (by omega), u8_of (c := c) (by omega) (by omega), u8_of (c := c2) (by omega) (by omega)]
          | cons c3 r3 =>
            obtain ⟨hc3, s3⟩ := parse_step s2
            have := parse_ge _ _ _ s3
            omega
      · cases h
    | _ => rw [hA] at h; cases h

theorem rdNum_app {s r : List UInt8} {v : Int} (h : rdNum s = some (v, r)) (hv : v < 100) : s = Lib.decDigits v.toNat ++ r := by
  unfold rdNum at h
  rw [Option.map_eq_some_iff] at h
  obtain ⟨v', h1, h2⟩ := h
  simp only [Prod.mk.injEq] at h2
  obtain ⟨rfl, rfl⟩ := h2
  rw [(numOf_dec h1 (fun c hc => List.all_eq_true.1 List.all_takeWhile c hc) hv).2]
  exact (List.takeWhile_append_dropWhile).symm

theorem idxR_at : ∀ (l : List ByteArray) (x : ByteArray) (i : Nat), idxR l x = some i → i < l.length ∧ l.reverse[i]? = some x
  | [], _, _, h => by cases h
  | n :: r, x, i, h => by
    unfold idxR at h
    cases hr : idxR r x with
    | some j =>
      rw [hr] at h
      simp only [Option.some.injEq] at h
      subst h
      obtain ⟨h1, h2⟩ := idxR_at r x j hr
      refine ⟨by simp; omega, ?_⟩
      rw [List.reverse_cons, List.getElem?_append_left (by simpa using h1)]
      exact h2
    | none =>
      rw [hr] at h
      simp only at h
      split at h
      · rename_i e
        simp only [Option.some.injEq] at h
        subst h e
        refine ⟨by simp, ?_⟩
        simp
      · cases h

theorem idx_at {l : List ByteArray} {x : ByteArray} {i : Nat} (h : idx l x = some i) : i < l.length ∧ l[i]? = some x := by
  have := idxR_at l.reverse x i h
  simpa using this

/-- the names of a scheme are those of these lists -/
def Named (x : Sc) (S F : List ByteArray) : Prop := (∀ i n, S[i]? = some n → x.S.nm i = n) ∧ (∀ i n, F[i]? = some n → x.F.nm i = n)

theorem rdHead_app {x : Sc} {S F : List ByteArray} (hN : Named x S F) {s r : List UInt8} {k n : Int} (h : rdHead S F s = some ((k, n), r)) (hv : k = 0 → n < 100) : s = hTx x k n ++ r := by
  unfold rdHead at h
  split at h
  · rename_i hp
    obtain ⟨s', rfl⟩ := (pre_iff _ _).1 hp
    rw [Option.map_eq_some_iff] at h
    obtain ⟨⟨v, r'⟩, h1, h2⟩ := h
    simp only [Prod.mk.injEq] at h2
    obtain ⟨⟨rfl, rfl⟩, rfl⟩ := h2
    have := rdNum_app h1 (hv rfl)
    simp only [List.singleton_append, List.drop_succ_cons, List.drop_zero] at this
    unfold hTx
    rw [if_pos rfl, List.singleton_append, this]
    rfl
  · split at h
    · rename_i hp
      obtain ⟨s', rfl⟩ := (pre_iff _ _).1 hp
      rw [Option.bind_eq_some_iff] at h
      obtain ⟨⟨v, r'⟩, h1, h2⟩ := h
      rw [Option.map_eq_some_iff] at h2
      obtain ⟨i, h3, h4⟩ := h2
      simp only [Prod.mk.injEq] at h4
      obtain ⟨⟨rfl, rfl⟩, rfl⟩ := h4
      have e := rdName_app h1
      simp only [List.singleton_append, List.drop_succ_cons, List.drop_zero] at e
      have hn := hN.1 i _ (idx_at h3).2
      unfold hTx
      rw [if_neg (by decide), if_neg (by decide), Int.toNat_natCast, hn, List.singleton_append, e]
      rfl
    · rw [Option.bind_eq_some_iff] at h
      obtain ⟨⟨v, r'⟩, h1, h2⟩ := h
      rw [Option.map_eq_some_iff] at h2
      obtain ⟨i, h3, h4⟩ := h2
      simp only [Prod.mk.injEq] at h4
      obtain ⟨⟨rfl, rfl⟩, rfl⟩ := h4
      have e := rdName_app h1
      have hn := hN.2 i _ (idx_at h3).2
      unfold hTx
      rw [if_neg (by decide), if_pos rfl, Int.toNat_natCast, hn]
      exact e

theorem goodH_var {x : Sc} {k n : Int} (h : goodH x k n) : k = 0 → n < 100 := by
  rintro rfl
  obtain ⟨_, h1⟩ := h
  rcases h1 with h1 | h1 | h1
  · exact h1.2
  · exact absurd h1.1 (by decide)
  · exact absurd h1.1 (by decide)

theorem rdArgs_app {x : Sc} {S F : List ByteArray} (hN : Named x S F) : ∀ (f : Nat) (s : List UInt8) (a : X) (r : List UInt8), rdArgs S F f s = some (a, r) → goodX x a → s = aTx x a ++ r := by
  intro f
  induction f with
  | zero => intro s a r h; cases h
  | succ f ih =>
    intro s a r h hg
    unfold rdArgs at h
    split at h
    · rename_i h1
      obtain ⟨s', rfl⟩ := (pre_iff _ _).1 h1
      simp only [List.singleton_append, List.drop_succ_cons, List.drop_zero] at h
      split at h
      · rename_i h2
        obtain ⟨s2, rfl⟩ := (pre_iff _ _).1 h2
        split at h
        · cases h
        · rename_i hd rr he
          split at h
          · cases h
          · rename_i a2 r2 he2
            split at h
            · rename_i hc
              rw [Option.map_eq_some_iff] at h
              obtain ⟨y, hy, he3⟩ := h
              simp only [Prod.mk.injEq] at he3
              obtain ⟨rfl, rfl⟩ := he3
              obtain ⟨g1, g2, g3⟩ := hg
              obtain ⟨r3, rfl⟩ := (pre_iff _ _).1 hc.2
              have e1 := rdHead_app hN (k := hd.1) (n := hd.2) he (goodH_var g1)
              have e2 := ih _ _ _ he2 g2
              have e3 := ih _ _ _ hy g3
              simp only [List.singleton_append, List.drop_succ_cons, List.drop_zero] at e1 e2 e3
              simp only [aTx, if_neg hc.1]
              rw [List.singleton_append, List.singleton_append, e1, e2, e3]
              simp
            · cases h
      · split at h
        · cases h
        · rename_i hd rr he
          rw [Option.map_eq_some_iff] at h
          obtain ⟨y, hy, he3⟩ := h
          simp only [Prod.mk.injEq] at he3
          obtain ⟨rfl, rfl⟩ := he3
          obtain ⟨g1, g2, g3⟩ := hg
          have e1 := rdHead_app hN (k := hd.1) (n := hd.2) he (goodH_var g1)
          have e3 := ih _ _ _ hy g3
          simp only [aTx]
          rw [if_pos (by rfl), List.singleton_append, e1, e3]
          simp
    · simp only [Option.some.injEq, Prod.mk.injEq] at h
      obtain ⟨rfl, rfl⟩ := h
      simp [aTx]

theorem rdBody_app {x : Sc} {S F : List ByteArray} (hN : Named x S F) {s : List UInt8} {k n : Int} {a : X} (h : rdBody S F s = some (k, n, a)) (hh : goodH x k n) (hg : goodX x a) : s = tTx x k n a := by
  unfold rdBody at h
  rw [Option.bind_eq_some_iff] at h
  obtain ⟨⟨t, r⟩, h1, h2⟩ := h
  split at h2
  · rename_i hr
    simp only [Option.some.injEq] at h2
    simp only at h2 hr
    subst h2
    unfold rdT at h1
    rw [Option.bind_eq_some_iff] at h1
    obtain ⟨⟨hd, r1⟩, h3, h4⟩ := h1
    rw [Option.map_eq_some_iff] at h4
    obtain ⟨⟨a', r2⟩, h5, h6⟩ := h4
    simp only [Prod.mk.injEq] at h6
    obtain ⟨⟨rfl, rfl, rfl⟩, rfl⟩ := h6
    have e1 := rdHead_app hN (k := hd.1) (n := hd.2) h3 (goodH_var hh)
    have e2 := rdArgs_app hN _ _ _ _ h5 hg
    rw [List.isEmpty_iff] at hr
    subst hr
    rw [List.append_nil] at e2
    simp only at e2
    rw [e1, e2]
    rfl
  · cases h2

theorem rdSyms_app {sy : List (ByteArray × Int)} (hr : ∀ y ∈ sy, y.2 < 100) (x : Sc) : ∀ (f : Nat) (s : List UInt8) (l : List (ByteArray × Int)) (r : List UInt8) (i : Nat), rdSyms f s = some (l, r) → sy.drop i = l → x.S = sySc sy → s = symsL x i l.length ++ r := by
  intro f
  induction f with
  | zero => intro s l r i h; cases h
  | succ f ih =>
    intro s l r i h hl hx
    unfold rdSyms at h
    split at h
    · rename_i hp
      obtain ⟨s', rfl⟩ := (pre_iff _ _).1 hp
      rw [Option.bind_eq_some_iff] at h
      obtain ⟨⟨y, r1⟩, h1, h2⟩ := h
      rw [Option.map_eq_some_iff] at h2
      obtain ⟨⟨l', r2⟩, h3, h4⟩ := h2
      simp only [Prod.mk.injEq] at h4
      obtain ⟨rfl, rfl⟩ := h4
      have hi : i < sy.length := by
        have := congrArg List.length hl
        simp only [List.length_drop, List.length_cons] at this
        omega
      have hy : sy[i]? = some y := by
        have := congrArg List.head? hl
        simpa using this
      have hd : sy.drop (i + 1) = l' := by
        have := congrArg List.tail hl
        simpa using this
      have e1 := ih _ _ _ (i + 1) h3 hd hx
      unfold rdSym at h1
      simp only [Option.bind_eq_some_iff, Option.map_eq_some_iff] at h1
      obtain ⟨⟨n, r0⟩, g0, r4, g1, ⟨k, r5⟩, g2, r6, g3, g4⟩ := h1
      simp only [Prod.mk.injEq] at g4
      obtain ⟨rfl, rfl⟩ := g4
      have a0 := rdName_app g0
      have a1 := need_app g1
      have hk : k < 100 := hr _ (List.mem_of_getElem? hy)
      have a2 := rdNum_app g2 hk
      have a3 := need_app g3
      simp only at a0 a1 a2 a3 e1
      have hn : x.S.nm i = n := by rw [hx]; simp [sySc, List.getD, hy]
      have hrk : x.S.rk i = k := by rw [hx]; simp [sySc, List.getD, hy]
      have ed : (symW ++ s').drop 7 = s' := rfl
      rw [ed] at a0
      simp only [symsL, List.length_cons]
      unfold symL
      rw [hn, hrk, a0, a1, a2, a3, e1]
      simp [symW]
    · simp only [Option.some.injEq, Prod.mk.injEq] at h
      obtain ⟨rfl, rfl⟩ := h
      simp [symsL]

theorem ansE_txt {c : List UInt8} (h : ansE c = 0) : (ansT c).pT = c := by
  rcases ans_casesS c with ⟨hk, hv, hs, hr⟩ | ⟨hk, ht⟩
  · have := rd_txt (c.length + 1) c (ansT c) [] (by omega) hr
    rw [List.append_nil] at this
    simp only [T.pT, hv, if_true]
    exact this.symm
  · exact absurd h (by omega)

theorem rdFuns_app {L : List FL} {b : List (Int × Int × X)} {x : Sc} (hx : x.F = fuSc L b) (hs : sorted L = true) (hb : ∀ i, i < L.length → (L.getD i ⟨ByteArray.empty, .nil, 0, []⟩).bd = tTx x (x.F.bk i) (x.F.bn i) (x.F.bt i)) :
    ∀ (f : Nat) (s : List UInt8) (l : List FL) (i : Nat), rdFuns f s = some l → L.drop i = l → s = funsL x i l.length := by
  intro f
  induction f with
  | zero => intro s l i h; cases h
  | succ f ih =>
    intro s l i h hl
    unfold rdFuns at h
    split at h
    · rename_i he
      simp only [Option.some.injEq] at h
      subst h
      rw [List.isEmpty_iff] at he
      rw [he]
      rfl
    · simp only [Option.bind_eq_some_iff, Option.map_eq_some_iff] at h
      obtain ⟨r0, h0, ⟨y, r1⟩, h1, l', h2, rfl⟩ := h
      have hi : i < L.length := by
        have := congrArg List.length hl
        simp only [List.length_drop, List.length_cons] at this
        omega
      have hy : L[i]? = some y := by
        have := congrArg List.head? hl
        simpa using this
      have hd : L.drop (i + 1) = l' := by
        have := congrArg List.tail hl
        simpa using this
      have e1 := ih _ _ (i + 1) h2 hd
      have e0 := need_app h0
      have hbd := hb i hi
      have her : y.er = 0 := by
        have := List.all_eq_true.1 hs y (List.mem_of_getElem? hy)
        simpa using this
      unfold rdFun at h1
      simp only [Option.bind_eq_some_iff] at h1
      obtain ⟨⟨n, q0⟩, g0, q1, g1, ⟨c1, c2⟩, g2, g3⟩ := h1
      simp only at g3
      split at g3
      · cases g3
      · rw [Option.map_eq_some_iff] at g3
        obtain ⟨⟨b1, b2⟩, g4, g5⟩ := g3
        simp only [Prod.mk.injEq] at g5
        obtain ⟨rfl, rfl⟩ := g5
        have a0 := rdName_app g0
        have a1 := need_app g1
        have a2 := cutAt_app g2
        have a4 := cutAt_app g4
        simp only at a0 a1 a2 a4 e1 her
        have hpt := ansE_txt her
        have hn : x.F.nm i = n := by rw [hx]; simp [fuSc, List.getD, hy]
        have hst : x.F.st i = ansT c1 := by rw [hx]; simp [fuSc, List.getD, hy]
        have hbb : b1 = tTx x (x.F.bk i) (x.F.bn i) (x.F.bt i) := by
          rw [← hbd]
          simp [List.getD, hy]
        simp only [funsL, List.length_cons]
        unfold funL
        rw [← hbb, hn, hst, hpt, e0, a0, a1, a2, a4, e1]
        simp [funW]

theorem rdBodies_at {S F : List ByteArray} : ∀ (L : List FL) (b : List (Int × Int × X)), rdBodies S F L = some b → b.length = L.length ∧ ∀ (i : Nat) (f : FL), L[i]? = some f → ∃ t, b[i]? = some t ∧ rdBody S F f.bd = some t
  | [], b, h => by
    simp only [rdBodies, Option.some.injEq] at h
    subst h
    exact ⟨rfl, fun i f hf => by simp at hf⟩
  | f0 :: r, b, h => by
    simp only [rdBodies, Option.bind_eq_some_iff, Option.map_eq_some_iff] at h
    obtain ⟨t, h1, b', h2, rfl⟩ := h
    obtain ⟨g1, g2⟩ := rdBodies_at r b' h2
    refine ⟨by simp [g1], fun i f hf => ?_⟩
    cases i with
    | zero =>
      simp only [List.getElem?_cons_zero, Option.some.injEq] at hf
      subst hf
      exact ⟨t, by simp, h1⟩
    | succ i =>
      simp only [List.getElem?_cons_succ] at hf ⊢
      exact g2 i f hf

/-- a text that is read is written back -/
theorem texts_back {s : List UInt8} (h : getE s = 0) : putE (getSc s) = 0 ∧ putT (getSc s) = s := by
  unfold getE at h
  split at h
  · exact absurd h (by decide)
  · rename_i hl
    have hg : getSc s = match rdSc s with | none => noSc | some x => if x.2 = true ∧ scOk x.1 = true then x.1 else noSc := by unfold getSc; rw [if_neg hl]; cases rdSc s <;> rfl
    rw [hg]
    cases hr : rdSc s with
    | none => rw [hr] at h; exact absurd h (by decide)
    | some y =>
      rw [hr] at h
      simp only at h ⊢
      split at h
      · rename_i hc
        rw [if_pos hc]
        have hgood := good_of hc.2
        unfold rdSc at hr
        rw [Option.bind_eq_some_iff] at hr
        obtain ⟨⟨sy, L⟩, h1, h2⟩ := hr
        rw [Option.map_eq_some_iff] at h2
        obtain ⟨b, h3, rfl⟩ := h2
        simp only at hc hgood ⊢
        unfold rdL at h1
        rw [Option.bind_eq_some_iff] at h1
        obtain ⟨⟨sy', r1⟩, g1, g2⟩ := h1
        rw [Option.map_eq_some_iff] at g2
        obtain ⟨L', g3, g4⟩ := g2
        simp only [Prod.mk.injEq] at g4
        obtain ⟨rfl, rfl⟩ := g4
        obtain ⟨x, hx⟩ : ∃ x, (⟨sySc sy', fuSc L' b⟩ : Sc) = x := ⟨_, rfl⟩
        have hxS : x.S = sySc sy' := by rw [← hx]
        have hxF : x.F = fuSc L' b := by rw [← hx]
        rw [hx] at hc hgood ⊢
        have hN : Named x (sy'.map (·.1)) (L'.map (·.nm)) := by
          refine ⟨fun i n hi => ?_, fun i n hi => ?_⟩
          · rw [List.getElem?_map, Option.map_eq_some_iff] at hi
            obtain ⟨z, hz, rfl⟩ := hi
            rw [hxS]; simp [sySc, List.getD, hz]
          · rw [List.getElem?_map, Option.map_eq_some_iff] at hi
            obtain ⟨z, hz, rfl⟩ := hi
            rw [hxF]; simp [fuSc, List.getD, hz]
        have hlS : x.S.len = sy'.length := by rw [hxS]; rfl
        have hlF : x.F.len = L'.length := by rw [hxF]; rfl
        have hrk : ∀ y ∈ sy', y.2 < 100 := by
          intro y hy
          obtain ⟨i, hi⟩ := List.getElem?_of_mem hy
          have hi' : i < sy'.length := (List.getElem?_eq_some_iff.1 hi).1
          have := hgood.rank i (by omega)
          have e : x.S.rk i = y.2 := by rw [hxS]; simp [sySc, List.getD, hi]
          omega
        have hb : ∀ i, i < L'.length → (L'.getD i ⟨ByteArray.empty, .nil, 0, []⟩).bd = tTx x (x.F.bk i) (x.F.bn i) (x.F.bt i) := by
          intro i hi
          obtain ⟨_, hat⟩ := rdBodies_at L' b h3
          obtain ⟨⟨k, n, a⟩, ht, hbd⟩ := hat i L'[i] (by simp [hi])
          have e1 : x.F.bk i = k := by rw [hxF]; simp [fuSc, List.getD, ht]
          have e2 : x.F.bn i = n := by rw [hxF]; simp [fuSc, List.getD, ht]
          have e3 : x.F.bt i = a := by rw [hxF]; simp [fuSc, List.getD, ht]
          have gh := hgood.head i (by omega)
          have gx := hgood.body i (by omega)
          rw [e1, e2] at gh
          rw [e3] at gx
          rw [e1, e2, e3]
          have := rdBody_app hN hbd gh gx
          simpa [List.getD, hi] using this
        have t1 := rdSyms_app hrk x _ _ _ _ 0 g1 (List.drop_zero) hxS
        have t2 := rdFuns_app hxF hc.1 hb _ _ _ 0 g3 (List.drop_zero)
        have hput : putL x = s := by
          unfold putL
          rw [hlS, hlF]
          simp only at t1 t2
          rw [t1, t2]
        unfold putE putT
        rw [hput, if_pos hc.2, if_pos hc.2, if_neg hl, if_neg hl]
        exact ⟨rfl, rfl⟩
      · exact absurd h (by decide)

theorem law_stexts (s : ByteArray) (w : World) (hg : Gl w) (h6 : 6 ≤ w.heap.size) :
    Calls Tryz.prog 10 #[.string s] w fun e w' => e = .returned (.bool true) ∧ Below w.heap.size w w' := law_stexts' (fun _ h => texts_back h) s w hg h6

end Go.Proofs.YtjdnbmcjnkmgdaaGreatDoor

set_option linter.unusedSimpArgs false
set_option linter.unusedVariables false
namespace Go.Proofs.YtjdnbmcjnkmgdaaGreatDoor
open Go.ChangeShapes Go.WideShapes Go.ChangeAt Go.RowKit
open Go.ChangeMaps (open_string shut_string)

set_option maxRecDepth 100000 in
theorem schemeTexts_lifted (os : Os) (started : os.Started) (H : Type) (enc : TypeId × Value → H) :
    ReturnsInHanded {} Tryz.checked os 10 .any (fun w args => (Rows.schemeTextsSpec.pre enc Tryz.prog Tryz.f10 [] false w args ∧ laidMetH Tryz.prog laidL w) ∧ sizedMet enc Tryz.prog Tryz.f10 (OpenSpec.ofChange Rows.schemeTextsSpec) false w args)
      (Rows.schemeTextsSpec.post enc Tryz.prog Tryz.f10 false true false false) := by
  refine lifted_shaped (C := Tryz.checked) (X := fun w _ => laidMetH Tryz.prog laidL w) (fun _ _ _ hh h => h.of_heap hh) P.own started (by kernel_rfl) Tryz.func10
    (ChangeSpec.witness_shaped (enc := enc) (C := Tryz.checked) (os := os) (X := fun w _ => laidMetH Tryz.prog laidL w) false (World.doorLaid Tryz.prog 62 os) #[.string ⟨#[]⟩] 8 rfl (World.shaped_of_RefB (by kernel_rfl) (by kernel_rfl)) (by kernel_rfl) (by kernel_rfl) (by kernel_rfl) (door_met os _)) ?_
  intro W args ds gs before hval0 hW _ hL hsh
  have hW' := hW
  obtain ⟨p, q, hA0, hV, rfl, hfz, hnd⟩ := hW
  have hA : DataW.TrodAll enc Tryz.prog W 0 (fun _ => true) true Tryz.f10.params.toList args.toList ds p := hA0
  rw [Tryz.params10] at hA hval0
  obtain ⟨v0, d0, rfl, rfl, h0⟩ := trodAll_one hA
  obtain ⟨rfl, rfl⟩ := trodVars_none hV
  obtain ⟨base0, hv0⟩ := hval0 0 9 v0 rfl rfl
  obtain ⟨s0, rfl, rfl, rfl, w0⟩ := open_string Tryz.underlying9 hv0 h0
  clear hA0 hval0
  simp only [List.append_nil] at hW'
  obtain ⟨hg, h6⟩ := gl_of hL hsh
  refine (law_stexts s0 W hg h6).mono fun e W' ⟨he, hb⟩ => ?_
  subst he
  have hlt := fun x hx => hW'.lt x hx
  exact ⟨_, rfl, post_below (pv := []) hW' (fun _ _ _ => trodAll_mk1 (shut_bool Tryz.underlying4 true))
    (fun sp hsp => trodAll_mk1 (shut_string Tryz.underlying9 w0))
    (fun _ _ => rfl) (by simp) hb (ok_one (by kernel_rfl) rfl (okWide_bool_mk Tryz.underlying4 true))⟩

theorem schemeTexts_row : Rows.SchemeTextsSaid :=
  OpenClaim.holds_of_wide 10 Tryz.f10 rfl rfl rfl rfl rfl rfl rfl ⟨rfl, rfl, rfl, rfl, rfl⟩ rfl rfl rfl rfl rfl (by kernel_rfl) Tryz.func10 (by kernel_rfl)
    (of_decide_eq_true (by kernel_rfl)) (by unfold Func.isWrapper; rw [if_neg (of_decide_eq_false (by kernel_rfl))]; exact ⟨rfl, rfl⟩)
    (fun os started H enc _ => schemeTexts_lifted os started H enc)

theorem schemeTexts_holds : Rows.SchemeTextsCardSaid :=
  Claim7.holds_tied_plain_at .later [] [.data, .data, .data, .sentinel, .sentinel] true Rows.schemeTextsCard.stood.harness true
    schemeTexts_row (fun _ h => by cases h) (by kernel_rfl) (fun _ h => by cases h) schemeTexts_row_tie rfl ⟨rfl, rfl⟩ (by kernel_rfl) rfl
    (fun f fn hf hfn => by
      obtain rfl : f = 10 := Option.some.inj ((show Tryz.prog.funcNamed "virgation/virgationlaw03.SchemeTexts" = some 10 by kernel_rfl).symm.trans hf) |>.symm
      obtain rfl : fn = Tryz.f10 := (Option.some.inj (Tryz.func10.symm.trans hfn)).symm
      exact ⟨by kernel_rfl, fun j t ht => by
        rw [Tryz.params10] at ht
        have hm : t ∈ [9] := by simpa using Array.mem_of_getElem? ht
        have hall : ([9].all fun u => !Tryz.prog.wantsStandIn u) = true := by kernel_rfl
        exact (show Tryz.prog.wantsStandIn t = false by simpa using List.all_eq_true.1 hall t hm)⟩)
    (by kernel_rfl)

end Go.Proofs.YtjdnbmcjnkmgdaaGreatDoor

