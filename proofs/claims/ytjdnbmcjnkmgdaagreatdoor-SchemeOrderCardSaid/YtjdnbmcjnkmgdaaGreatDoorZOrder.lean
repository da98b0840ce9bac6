/-
  Whatever scheme is handed in, the statement on Order and Ranks answers true and leaves the scheme as it was. Conditions: none but the row's own (the package variables read as the program's text lays them).
-/
import Derived.Test.YtjdnbmcjnkmgdaaGreatDoorMg21
import Derived.Test.YtjdnbmcjnkmgdaaGreatDoorMg19
import Derived.Test.YtjdnbmcjnkmgdaaGreatDoorMh02
import Derived.Test.YtjdnbmcjnkmgdaaGreatDoorMg31
import Derived.Test.YtjdnbmcjnkmgdaaGreatDoorCards
import Derived.Test.YtjdnbmcjnkmgdaaGreatDoorTie
import Derived.SevenTiedAt

/-
  The walk of Ranks: what it answers, for whatever scheme. Conditions: none but that the scheme lies in memory.
-/
set_option linter.unusedSimpArgs false
set_option linter.unusedVariables false
namespace Go.Proofs.YtjdnbmcjnkmgdaaGreatDoor
open Go.RowKit

def rks (S : Sy) (j : Nat) : List Int := (List.range j).map S.rk

theorem rks_snoc (S : Sy) (j : Nat) : (rks S j).map intv ++ [Value.int .i64 (S.rk j)] = (rks S (j + 1)).map intv := by
  unfold rks
  rw [List.range_succ, List.map_append, List.map_append]
  rfl

def Sc.ranks (x : Sc) : List Int := if scOk x = true then rks x.S x.S.len else []

theorem scOk_syms {x : Sc} (h : scOk x = true) : x.S.len ≤ 24 := by
  unfold scOk at h
  simp only [Bool.and_eq_true] at h
  have h2 := plOk_syms h.1.2
  unfold symsOk at h2
  simp only [Bool.and_eq_true, decide_eq_true_eq] at h2
  exact h2.1

def RanksPost (w : World) (x : Sc) (e : Ending) (w' : World) : Prop :=
  ∃ v, e = .returned (.tuple #[v, .int .i64 (scE x)]) ∧ w'.ownsRow w.heap.size 3 1 v x.ranks.length (x.ranks.map intv) ∧ Below w.heap.size w w'

set_option maxRecDepth 100000 in
set_option maxHeartbeats 2000000 in
theorem sranks_any (x : Sc) (a : At2) (w : World) (h : IsC w x a) :
    Calls Tryz.prog 21 #[.agg #[.slice a.sp a.sn a.sc, .slice a.fp a.fn a.fc]] w (RanksPost w x) := by
  obtain ⟨i0, hi0, hz0, hz1, hz2⟩ := info_parts infoI
  have HC := Lib.hid (fun W h => scheck_any x a W h)
  obtain ⟨sp, sn, sc, fp, fn, fc⟩ := a
  obtain ⟨hS, hF⟩ := id h
  dsimp only at hS hF HC ⊢
  obtain rfl : sn = x.S.len := hS.1
  have hbx := heap_new w (.cells #[.slice sp x.S.len sc, .slice fp fn fc] 25)
  obtain ⟨s1, s2⟩ := two_cells hbx
  obtain ⟨_, hcap, hmax, _, hrow⟩ := id hS
  unfold maxLen at hmax
  have HX := Lib.hid hbx
  have HH := Lib.hid h
  unfold RanksPost
  cases hok : scOk x with
  | false =>
    have e1 : scE x = 7 := by unfold scE; rw [hok]; rfl
    have e2 : x.ranks = [] := by unfold Sc.ranks; rw [hok]; rfl
    rw [e1] at HC ⊢
    rw [e2]
    clear e1 e2 hok hS hF hbx h hcap hmax hrow
    go_enter Tryz.func21, Tryz.ntmps21
    go_wp2_with fail
    refine (HC.out _ (HH.out.alloc _)).mono ?_
    rintro e w1 ⟨rfl, hb1⟩
    go_wp2_with fail
    go_ret2
    exact ⟨_, rfl, World.ownsRow_nil _ _ _ _, below_call hb1⟩
  | true =>
    have e1 : scE x = 0 := by unfold scE; rw [hok]; rfl
    have e2 : x.ranks = rks x.S x.S.len := by unfold Sc.ranks; rw [hok]; rfl
    have h24 := scOk_syms hok
    rw [e1] at HC ⊢
    rw [e2]
    clear e1 e2 hok hS hF hbx h
    go_enter Tryz.func21, Tryz.ntmps21
    go_wp2_with fail
    refine (HC.out _ (HH.out.alloc _)).mono ?_
    rintro e w1 ⟨rfl, hb1⟩
    obtain ⟨s3, s4⟩ := two_cells (box3_later hb1 HX.out)
    have HB := Lib.hid (below_call hb1)
    clear s1 s2 hb1 HX
    go_wp2_with fail
    go_loopw [5, 16] (fun u i wr => ∃ (j : Nat) (v : Value), j ≤ x.S.len ∧ i = .int .i64 (j : Int) ∧ v = u ∧ wr.ownsRow w.heap.size 3 1 v j ((rks x.S j).map intv) ∧ Below w.heap.size w wr)
      (fun _ i _ => x.S.len - (Go.RowKit.intOf i).toNat)
    case atStart => exact ⟨0, _, Nat.zero_le _, rfl, rfl, World.ownsRow_nil _ _ _ _, HB.out⟩
    case round =>
      clear HB s3 s4
      obtain ⟨j, v, hj, rfl, rfl, hown, hb⟩ := hrel
      by_cases hlt : j < x.S.len
      · rcases hrow with h0 | ⟨b, off, rfl, hr⟩
        · omega
        obtain ⟨e1, e2⟩ := hr j hlt
        have hkk := (bcell hb).1
        have f1 := (hkk _ _ (lt_of_cell e1)).trans e1
        have f2 := (hkk _ _ (lt_of_cell e2)).trans e2
        have hsn := Lib.hid (rks_snoc x.S j)
        generalize x.S.nm j = s at f1
        generalize x.S.rk j = rk at f2 hsn
        clear hkk e1 e2
        have hmx : j + 1 ≤ maxLen := by simp only [maxLen]; omega
        go_upto_region 8 with fail
        have ho2 := hown.alloc (.cells #[.string s, .int .i64 rk] 64)
        have hb2 := hb.alloc hb.size (.cells #[.string s, .int .i64 rk] 64)
        obtain ⟨v1, v2⟩ := two_cells (heap_new wr (.cells #[.string s, .int .i64 rk] 64))
        generalize wr.heap.size = bf at v1 v2 ⊢
        generalize wr.alloc (.cells #[.string s, .int .i64 rk] 64) = W2 at ho2 hb2 v1 v2 ⊢
        have hz := hb2.size
        clear hown hb f1 f2
        go_wp2_with (at_builtin; refine wpList_append_own _ rfl (.tmp 20) (.tmp 23) 33 rfl w.heap.size 3 i0 (.int .i64 0) 1 8 Tryz.underlying33 hi0 hz0 hz1 hz2 rfl Nat.one_pos v j _ rfl (ho2.alloc _) ⟨W2.heap.size, 0, none⟩ 1 1 [.int .i64 rk] rfl rfl (cell_one_new _ _ _) (one_intv rk) hmx (by omega) (by simp; omega) ?_; intro v1' w9 hown1 hgrow1 _)
        have hb9 := below_own hb2 ho2 hgrow1
        rw [hsn.out] at hown1
        go_roundw
        case rel => exact ⟨j + 1, _, by omega, by go_num, rfl, hown1, hb9⟩
        case measure => simp [Go.RowKit.intOf]; omega
      · obtain rfl : j = x.S.len := by omega
        have hl : (rks x.S x.S.len).length = x.S.len := by simp [rks]
        have HL := Lib.hid hl
        clear hl
        go_wp2_with fail
        go_ret2
        exact ⟨_, rfl, by rw [HL.out]; exact hown, hb⟩

end Go.Proofs.YtjdnbmcjnkmgdaaGreatDoor

/-
  The walks of the reference's Order and Ranks. Conditions: that the scheme lies in memory.
-/
set_option linter.unusedSimpArgs false
set_option linter.unusedVariables false
namespace Go.Proofs.YtjdnbmcjnkmgdaaGreatDoor
open Go.RowKit Go.Maps

set_option maxRecDepth 100000 in
set_option maxHeartbeats 2000000 in
theorem reforder3_any (x : Sc) (a : At2) (w : World) (h : IsC w x a) :
    Calls Tryz.prog 20 #[.agg #[.slice a.sp a.sn a.sc, .slice a.fp a.fn a.fc]] w fun e w' => e = .returned (.tuple #[.int .i64 (x.ordN : Int), .int .i64 (scE x)]) ∧ Below w.heap.size w w' := by
  have HC := Lib.hid (fun W h => refis3_any x a W h)
  obtain ⟨sp, sn, sc, fp, fn, fc⟩ := a
  obtain ⟨hS, hF⟩ := id h
  dsimp only at hS hF HC ⊢
  obtain rfl : fn = x.F.len := hF.1
  have hbx := heap_new w (.cells #[.slice sp sn sc, .slice fp x.F.len fc] 25)
  obtain ⟨s1, s2⟩ := two_cells hbx
  obtain ⟨_, hcap, hmax, _, hrow⟩ := id hF
  unfold maxLen at hmax
  have HX := Lib.hid hbx
  have HH := Lib.hid h
  cases hok : scOk x with
  | false =>
    have e1 : scE x = 7 := by unfold scE; rw [hok]; rfl
    have e2 : x.ordN = 0 := by unfold Sc.ordN; rw [hok]; rfl
    rw [hok] at HC
    rw [e1, e2]
    clear e1 e2 hok hS hF hbx h hcap hmax hrow
    go_enter Tryz.func20, Tryz.ntmps20
    go_wp2_with fail
    refine (HC.out _ (HH.out.alloc _)).mono ?_
    rintro e w1 ⟨rfl, hb1⟩
    go_wp2_with fail
    go_ret2
    exact ⟨rfl, below_call hb1⟩
  | true =>
    have e1 : scE x = 0 := by unfold scE; rw [hok]; rfl
    have e2 : x.ordN = ordF x.F 0 x.F.len 0 := by unfold Sc.ordN; rw [hok]; rfl
    obtain ⟨z, hz⟩ : ∃ z, x.ordN = z := ⟨_, rfl⟩
    have hvs := (good_of hok).sort
    rw [hok] at HC
    rw [e1]
    rw [hz] at e2 ⊢
    have HZ := Lib.hid e2.symm
    clear e1 e2 hz hok hS hF hbx h
    go_enter Tryz.func20, Tryz.ntmps20
    go_wp2_with fail
    refine (HC.out _ (HH.out.alloc _)).mono ?_
    rintro e w1 ⟨rfl, hb1⟩
    obtain ⟨s3, s4⟩ := two_cells (box3_later hb1 HX.out)
    have HB := Lib.hid (below_call hb1)
    clear s1 s2 hb1 HX
    go_wp2_with fail
    go_loopw [4, 13] (fun v i wr => ∃ j m : Nat, j ≤ x.F.len ∧ i = .int .i64 (j : Int) ∧ v = .int .i64 (m : Int) ∧ ordF x.F j (x.F.len - j) m = z ∧ Below w.heap.size w wr)
      (fun _ i _ => x.F.len - (Go.RowKit.intOf i).toNat)
    case atStart => exact ⟨0, 0, Nat.zero_le _, rfl, rfl, HZ.out, HB.out⟩
    case round =>
      clear HB s3 s4 HZ
      obtain ⟨j, m, hj, rfl, rfl, hm, hb⟩ := hrel
      by_cases hlt : j < x.F.len
      · rcases hrow with h0 | ⟨b, off, rfl, hr⟩
        · omega
        obtain ⟨p', n', c', q', m', d', e1, e2, e3, e4, e5, e6, e7⟩ := hr j hlt
        have hkk := (bcell hb).1
        have f1 := (hkk _ _ (lt_of_cell e1)).trans e1
        have f2 := (hkk _ _ (lt_of_cell e2)).trans e2
        have f3 := (hkk _ _ (lt_of_cell e3)).trans e3
        have f4 := (hkk _ _ (lt_of_cell e4)).trans e4
        have f5 := (hkk _ _ (lt_of_cell e5)).trans e5
        have hm2 : ordF x.F (j + 1) (x.F.len - (j + 1)) (max m (x.F.st j).oN) = z := by
          rw [← hm, show x.F.len - j = (x.F.len - (j + 1)) + 1 by omega]; rfl
        have HM := Lib.hid hm2
        have hor : (x.F.st j).ord = (x.F.st j).oN := by unfold T.oN; rw [if_pos (hvs j hlt)]
        have hO := fun W h => rank_any (x.F.st j).nodes (x.F.st j) W p' n' c' (Nat.le_refl _) (T.valid_nodes _ (hvs j hlt)) h
        rw [hor] at hO
        have HO := Lib.hid hO
        have ht := e6.below hb
        have HBB := Lib.hid hb
        generalize x.F.nm j = s at f1
        generalize x.F.bk j = bk at f3
        generalize x.F.bn j = bn at f4
        clear hm hm2 hO hor hkk e1 e2 e3 e4 e5 e6 e7 hb
        go_wp2_with fail
        refine (HO.out _ (ht.alloc _)).mono ?_
        rintro e w2 ⟨rfl, hb2⟩
        have hb3 := base_next HBB.out hb2
        clear hb2 f1 f2 f3 f4 f5 ht HO HBB
        go_wp2_with fail
        go_roundw
        case rel => exact ⟨j + 1, max m (x.F.st j).oN, by omega, by go_num, val_int (by omega), HM.out, hb3⟩
        case measure => simp [Go.RowKit.intOf]; omega
      · have hm2 : m = z := by rw [← hm, show x.F.len - j = 0 by omega]; rfl
        subst hm2
        clear hm
        go_wp2_with fail
        go_ret2
        exact ⟨rfl, hb⟩

set_option maxRecDepth 100000 in
set_option maxHeartbeats 2000000 in
theorem refranks3_any (x : Sc) (a : At2) (w : World) (h : IsC w x a) :
    Calls Tryz.prog 22 #[.agg #[.slice a.sp a.sn a.sc, .slice a.fp a.fn a.fc]] w (RanksPost w x) := by
  obtain ⟨i0, hi0, hz0, hz1, hz2⟩ := info_parts infoI
  have HC := Lib.hid (fun W h => refis3_any x a W h)
  obtain ⟨sp, sn, sc, fp, fn, fc⟩ := a
  obtain ⟨hS, hF⟩ := id h
  dsimp only at hS hF HC ⊢
  obtain rfl : sn = x.S.len := hS.1
  have hbx := heap_new w (.cells #[.slice sp x.S.len sc, .slice fp fn fc] 25)
  obtain ⟨s1, s2⟩ := two_cells hbx
  obtain ⟨_, hcap, hmax, _, hrow⟩ := id hS
  unfold maxLen at hmax
  have HX := Lib.hid hbx
  have HH := Lib.hid h
  unfold RanksPost
  cases hok : scOk x with
  | false =>
    have e1 : scE x = 7 := by unfold scE; rw [hok]; rfl
    have e2 : x.ranks = [] := by unfold Sc.ranks; rw [hok]; rfl
    rw [hok] at HC
    rw [e1, e2]
    clear e1 e2 hok hS hF hbx h hcap hmax hrow
    go_enter Tryz.func22, Tryz.ntmps22
    go_wp2_with fail
    refine (HC.out _ (HH.out.alloc _)).mono ?_
    rintro e w1 ⟨rfl, hb1⟩
    go_wp2_with fail
    go_ret2
    exact ⟨_, rfl, World.ownsRow_nil _ _ _ _, below_call hb1⟩
  | true =>
    have e1 : scE x = 0 := by unfold scE; rw [hok]; rfl
    have e2 : x.ranks = rks x.S x.S.len := by unfold Sc.ranks; rw [hok]; rfl
    have h24 := scOk_syms hok
    rw [hok] at HC
    rw [e1, e2]
    clear e1 e2 hok hS hF hbx h
    go_enter Tryz.func22, Tryz.ntmps22
    go_wp2_with fail
    refine (HC.out _ (HH.out.alloc _)).mono ?_
    rintro e w1 ⟨rfl, hb1⟩
    obtain ⟨s3, s4⟩ := two_cells (box3_later hb1 HX.out)
    have HB := Lib.hid (below_call hb1)
    clear s1 s2 hb1 HX
    go_wp2_with fail
    go_loopw [4, 13] (fun u i wr => ∃ (j : Nat) (v : Value), j ≤ x.S.len ∧ i = .int .i64 (j : Int) ∧ v = u ∧ wr.ownsRow w.heap.size 3 1 v j ((rks x.S j).map intv) ∧ Below w.heap.size w wr)
      (fun _ i _ => x.S.len - (Go.RowKit.intOf i).toNat)
    case atStart => exact ⟨0, _, Nat.zero_le _, rfl, rfl, World.ownsRow_nil _ _ _ _, HB.out⟩
    case round =>
      clear HB s3 s4
      obtain ⟨j, v, hj, rfl, rfl, hown, hb⟩ := hrel
      by_cases hlt : j < x.S.len
      · rcases hrow with h0 | ⟨b, off, rfl, hr⟩
        · omega
        obtain ⟨e1, e2⟩ := hr j hlt
        have hkk := (bcell hb).1
        have f1 := (hkk _ _ (lt_of_cell e1)).trans e1
        have f2 := (hkk _ _ (lt_of_cell e2)).trans e2
        have hsn := Lib.hid (rks_snoc x.S j)
        generalize x.S.nm j = s at f1
        generalize x.S.rk j = rk at f2 hsn
        clear hkk e1 e2
        have hmx : j + 1 ≤ maxLen := by simp only [maxLen]; omega
        go_upto_region 7 with fail
        have ho2 := hown.alloc (.cells #[.string s, .int .i64 rk] 64)
        have hb2 := hb.alloc hb.size (.cells #[.string s, .int .i64 rk] 64)
        obtain ⟨v1, v2⟩ := two_cells (heap_new wr (.cells #[.string s, .int .i64 rk] 64))
        generalize wr.heap.size = bf at v1 v2 ⊢
        generalize wr.alloc (.cells #[.string s, .int .i64 rk] 64) = W2 at ho2 hb2 v1 v2 ⊢
        have hz := hb2.size
        clear hown hb f1 f2
        go_wp2_with (at_builtin; refine wpList_append_own _ rfl (.tmp 17) (.tmp 20) 33 rfl w.heap.size 3 i0 (.int .i64 0) 1 8 Tryz.underlying33 hi0 hz0 hz1 hz2 rfl Nat.one_pos v j _ rfl (ho2.alloc _) ⟨W2.heap.size, 0, none⟩ 1 1 [.int .i64 rk] rfl rfl (cell_one_new _ _ _) (one_intv rk) hmx (by omega) (by simp; omega) ?_; intro v1' w9 hown1 hgrow1 _)
        have hb9 := below_own hb2 ho2 hgrow1
        rw [hsn.out] at hown1
        go_roundw
        case rel => exact ⟨j + 1, _, by omega, by go_num, rfl, hown1, hb9⟩
        case measure => simp [Go.RowKit.intOf]; omega
      · obtain rfl : j = x.S.len := by omega
        have hl : (rks x.S x.S.len).length = x.S.len := by simp [rks]
        have HL := Lib.hid hl
        clear hl
        go_wp2_with fail
        go_ret2
        exact ⟨_, rfl, by rw [HL.out]; exact hown, hb⟩

end Go.Proofs.YtjdnbmcjnkmgdaaGreatDoor

/-
  The walk of the statement on Order and Ranks. Conditions: that the scheme lies in memory, and the package variables read as laid.
-/
set_option linter.unusedSimpArgs false
set_option linter.unusedVariables false
namespace Go.Proofs.YtjdnbmcjnkmgdaaGreatDoor
open Go.RowKit Go.Maps

set_option maxRecDepth 100000 in
set_option maxHeartbeats 2000000 in
/-- the law's comparison of one list with itself -/
theorem ints3_true (L : List Int) (w : World) (p q : Option Addr) (n c m c' : Nat) (h1 : IsI w L p n c) (h2 : IsI w L q m c') :
    Calls Tryz.prog 23 #[.slice p n c, .slice q m c'] w fun e w' => e = .returned (.bool true) ∧ Below w.heap.size w w' := by
  obtain ⟨rfl, hc1, hm1, hr1⟩ := h1
  obtain ⟨rfl, hc2, hm2, hr2⟩ := h2
  unfold maxLen at hm1 hm2
  go_enter Tryz.func23, Tryz.ntmps23
  go_wp2_with fail
  go_loopw [13] (fun i wr => ∃ j : Nat, j ≤ L.length ∧ i = .int .i64 (j : Int) ∧ Below w.heap.size w wr)
    (fun i _ => L.length - (Go.RowKit.intOf i).toNat)
  case atStart => exact ⟨0, Nat.zero_le _, rfl, Below.refl _ _⟩
  case round =>
    obtain ⟨j, hj, rfl, hb⟩ := hrel
    by_cases hlt : j < L.length
    · rcases hr1 with ⟨_, h0⟩ | ⟨b1, o1, rfl, hb1, hx1⟩
      · omega
      rcases hr2 with ⟨_, h0⟩ | ⟨b2, o2, rfl, hb2, hx2⟩
      · omega
      obtain ⟨x, hx⟩ : ∃ x, L[j] = x := ⟨_, rfl⟩
      have hc1' := ((bcell hb).1 b1 (o1 + j) hb1).trans (hx1 j x (by rw [List.getElem?_eq_getElem hlt, hx]))
      have hc2' := ((bcell hb).1 b2 (o2 + j) hb2).trans (hx2 j x (by rw [List.getElem?_eq_getElem hlt, hx]))
      have hd : (x != x) = false := by simp
      clear hx1 hx2 hx
      go_wp2_with fail
      go_quiet (fail)
      go_wp2_with fail
      go_roundw
      case rel => exact ⟨j + 1, by omega, by go_num, below_drewN hb _⟩
      case measure => simp [Go.RowKit.intOf]; omega
    · go_wp2_with fail
      go_ret
      exact ⟨rfl, hb⟩

theorem isI_own3 {W : World} {B : Nat} {v : Value} {L : List Int} (h : W.ownsRow B 3 1 v L.length (L.map intv)) : ∃ p c, v = .slice p L.length c ∧ IsI W L p L.length c := by
  obtain ⟨hx, h2⟩ := id h
  rcases h2 with ⟨rfl, h0⟩ | ⟨g, cap, cur, rfl, hbg, hg, hnc, hcm, hcs, htake⟩
  · exact ⟨none, 0, by rw [h0], rfl, by omega, Nat.zero_le _, Or.inl ⟨rfl, rfl⟩⟩
  · refine ⟨_, _, rfl, rfl, hnc, hcm, Or.inr ⟨g, 0, rfl, lt_of_block hg, fun j x hj => ?_⟩⟩
    have hl : j < L.length := (List.getElem?_eq_some_iff.1 hj).1
    rw [Nat.zero_add, h.cellAt j (by omega), List.getElem?_map, hj]
    rfl

set_option maxRecDepth 100000 in
set_option maxHeartbeats 4000000 in
theorem law_sorder (x : Sc) (a : At2) (w : World) (h : IsC w x a) (hg : Gl w) (h6 : 6 ≤ w.heap.size) :
    Calls Tryz.prog 5 #[.agg #[.slice a.sp a.sn a.sc, .slice a.fp a.fn a.fc]] w fun e w' => e = .returned (.bool true) ∧ Below w.heap.size w w' := by
  have H1 := Lib.hid fun W (hb : Below w.heap.size w W) => sorder_any x a W (h.below hb)
  have H2 := Lib.hid fun W (hb : Below w.heap.size w W) => reforder3_any x a W (h.below hb)
  have H3 := Lib.hid fun W (hb : Below w.heap.size w W) => sranks_any x a W (h.below hb)
  have H4 := Lib.hid fun W (hb : Below w.heap.size w W) => refranks3_any x a W (h.below hb)
  have HA := Lib.hid fun W (hb : Below w.heap.size w W) => alive3_any W (hg.keep fun b hb' => hb.block b (by omega)) (by have := hb.size; omega)
  have HI := Lib.hid fun W p q n c m c' h h' => ints3_true x.ranks W p q n c m c' h h'
  obtain ⟨sp, sn, sc, fp, fn, fc⟩ := a
  dsimp only at H1 H2 H3 H4 ⊢
  unfold RanksPost at H3 H4
  generalize x.ranks = L at H3 H4 HI
  generalize scE x = k at H1 H2 H3 H4
  generalize x.ordN = o at H1 H2
  have hbx := heap_new w (.cells #[.slice sp sn sc, .slice fp fn fc] 25)
  have B0 := (Below.refl w.heap.size w).alloc (Nat.le_refl _) (.cells #[.slice sp sn sc, .slice fp fn fc] 25)
  obtain ⟨⟨s1, s2⟩, _⟩ := two_box hbx
  have HB := Lib.hid (And.intro hbx B0)
  clear h hg h6 hbx B0
  go_enter Tryz.func5, Tryz.ntmps5
  go_wp2_with fail
  refine (H1.out _ HB.out.2).mono ?_
  rintro e w1 ⟨rfl, hb1⟩
  have h1 := Lib.hid (And.intro (box3_later hb1 HB.out.1) (HB.out.2.trans (hb1.mono HB.out.2.size)))
  clear hb1 HB s1 s2 H1
  obtain ⟨⟨s1, s2⟩, _⟩ := two_box h1.out.1
  go_wp2_with fail
  refine (H2.out _ h1.out.2).mono ?_
  rintro e w2 ⟨rfl, hb2⟩
  have h2 := Lib.hid (And.intro (box3_later hb2 h1.out.1) (h1.out.2.trans (hb2.mono h1.out.2.size)))
  clear hb2 h1 s1 s2 H2
  obtain ⟨⟨s1, s2⟩, _⟩ := two_box h2.out.1
  go_wp2_with fail
  refine (H3.out _ h2.out.2).mono ?_
  rintro e w3 ⟨v3, rfl, hO3, hb3⟩
  obtain ⟨p3, c3, rfl, hi3⟩ := isI_own3 hO3
  have h3 := Lib.hid (And.intro (box3_later hb3 h2.out.1) (And.intro (h2.out.2.trans (hb3.mono h2.out.2.size)) hi3))
  clear hb3 h2 s1 s2 H3 hO3 hi3
  obtain ⟨⟨s1, s2⟩, _⟩ := two_box h3.out.1
  go_wp2_with fail
  refine (H4.out _ h3.out.2.1).mono ?_
  rintro e w4 ⟨v4, rfl, hO4, hb4⟩
  obtain ⟨p4, c4, rfl, hi4⟩ := isI_own3 hO4
  have h4 := Lib.hid (And.intro (h3.out.2.1.trans (hb4.mono h3.out.2.1.size)) (And.intro (h3.out.2.2.below hb4) hi4))
  clear hb4 h3 s1 s2 H4 hO4 hi4
  go_wp2_with fail
  refine (HI.out _ _ _ _ _ _ _ h4.out.2.1 h4.out.2.2).mono ?_
  rintro e w5 ⟨rfl, hb5⟩
  have B5 := h4.out.1.trans (hb5.mono h4.out.1.size)
  have HB5 := Lib.hid B5
  clear hb5 h4 B5
  go_wp2_with fail
  refine (HA.out _ HB5.out).mono ?_
  rintro e w6 ⟨rfl, hb6⟩
  go_wp2_with fail
  go_ret
  exact ⟨rfl, HB5.out.trans (hb6.mono HB5.out.size)⟩

end Go.Proofs.YtjdnbmcjnkmgdaaGreatDoor

set_option linter.unusedSimpArgs false
set_option linter.unusedVariables false
namespace Go.Proofs.YtjdnbmcjnkmgdaaGreatDoor
open Go.ChangeShapes Go.WideShapes Go.ChangeAt Go.RowKit
open Go.ChangeMaps (open_string shut_string)

set_option maxRecDepth 100000 in
theorem schemeOrder_lifted (os : Os) (started : os.Started) (H : Type) (enc : TypeId × Value → H) :
    ReturnsInHanded {} Tryz.checked os 5 .any (fun w args => (Rows.schemeOrderSpec.pre enc Tryz.prog Tryz.f5 [] false w args ∧ laidMetH Tryz.prog laidL w) ∧ sizedMet enc Tryz.prog Tryz.f5 (OpenSpec.ofChange Rows.schemeOrderSpec) false w args)
      (Rows.schemeOrderSpec.post enc Tryz.prog Tryz.f5 false true false false) := by
  refine lifted_shaped (C := Tryz.checked) (X := fun w _ => laidMetH Tryz.prog laidL w) (fun _ _ _ hh h => h.of_heap hh) P.own started (by kernel_rfl) Tryz.func5
    (ChangeSpec.witness_shaped (enc := enc) (C := Tryz.checked) (os := os) (X := fun w _ => laidMetH Tryz.prog laidL w) false (World.doorLaid Tryz.prog 62 os) #[.agg #[.slice none 0 0, .slice none 0 0]] 8 rfl (World.shaped_of_RefB (by kernel_rfl) (by kernel_rfl)) (by kernel_rfl) (by kernel_rfl) (by kernel_rfl) (door_met os _)) ?_
  intro W args ds gs before hval0 hW _ hL hsh
  have hW' := hW
  obtain ⟨p, q, hA0, hV, rfl, hfz, hnd⟩ := hW
  have hA : DataW.TrodAll enc Tryz.prog W 0 (fun _ => true) true Tryz.f5.params.toList args.toList ds p := hA0
  rw [Tryz.params5] at hA hval0
  obtain ⟨v0, d0, rfl, rfl, h0⟩ := trodAll_one hA
  obtain ⟨rfl, rfl⟩ := trodVars_none hV
  have k0 := h0
  obtain ⟨base0, hv0⟩ := hval0 0 25 v0 rfl rfl
  obtain ⟨x0, b0, rfl, i0⟩ := open_scheme hv0 h0
  clear hA0 hval0
  simp only [List.append_nil] at hW'
  obtain ⟨hg, h6⟩ := gl_of hL hsh
  refine (law_sorder x0 b0 W i0 hg h6).mono fun e W' ⟨he, hb⟩ => ?_
  subst he
  have hlt := fun x hx => hW'.lt x hx
  exact ⟨_, rfl, post_below (pv := []) hW' (fun _ _ _ => trodAll_mk1 (shut_bool Tryz.underlying4 true))
    (fun sp hsp => trodAll_mk1 (WideElems.Trod_stays P.laidOut P.readC (of_decide_eq_true (by kernel_rfl)) k0 (fun x hx => hb.same (hlt x (by simp [hx]))) (fun x hx => hsp x (by simp [hx]))))
    (fun _ _ => rfl) (by simp) hb (ok_one (by kernel_rfl) rfl (okWide_bool_mk Tryz.underlying4 true))⟩

theorem schemeOrder_row : Rows.SchemeOrderSaid :=
  OpenClaim.holds_of_wide 5 Tryz.f5 rfl rfl rfl rfl rfl rfl rfl ⟨rfl, rfl, rfl, rfl, rfl⟩ rfl rfl rfl rfl rfl (by kernel_rfl) Tryz.func5 (by kernel_rfl)
    (of_decide_eq_true (by kernel_rfl)) (by unfold Func.isWrapper; rw [if_neg (of_decide_eq_false (by kernel_rfl))]; exact ⟨rfl, rfl⟩)
    (fun os started H enc _ => schemeOrder_lifted os started H enc)

theorem schemeOrder_holds : Rows.SchemeOrderCardSaid :=
  Claim7.holds_tied_plain_at .later [] [.data, .data, .data, .sentinel, .sentinel] true Rows.schemeOrderCard.stood.harness true
    schemeOrder_row (fun _ h => by cases h) (by kernel_rfl) (fun _ h => by cases h) schemeOrder_row_tie rfl ⟨rfl, rfl⟩ (by kernel_rfl) rfl
    (fun f fn hf hfn => by
      obtain rfl : f = 5 := Option.some.inj ((show Tryz.prog.funcNamed "virgation/virgationlaw03.SchemeOrder" = some 5 by kernel_rfl).symm.trans hf) |>.symm
      obtain rfl : fn = Tryz.f5 := (Option.some.inj (Tryz.func5.symm.trans hfn)).symm
      exact ⟨by kernel_rfl, fun j t ht => by
        rw [Tryz.params5] at ht
        have hm : t ∈ [25] := by simpa using Array.mem_of_getElem? ht
        have hall : ([25].all fun u => !Tryz.prog.wantsStandIn u) = true := by kernel_rfl
        exact (show Tryz.prog.wantsStandIn t = false by simpa using List.all_eq_true.1 hall t hm)⟩)
    (by kernel_rfl)

end Go.Proofs.YtjdnbmcjnkmgdaaGreatDoor

