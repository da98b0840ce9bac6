/-
  Whatever scheme is handed in, the statement on Put answers true and leaves the scheme as it was. Conditions: none but the row's own (the package variables read as the program's text lays them).
-/
import Derived.Test.YtjdnbmcjnkmgdaaGreatDoorMh02
import Derived.Test.YtjdnbmcjnkmgdaaGreatDoorMg29
import Derived.Test.YtjdnbmcjnkmgdaaGreatDoorMg30
import Derived.Test.YtjdnbmcjnkmgdaaGreatDoorMg31
import Derived.Test.YtjdnbmcjnkmgdaaGreatDoorCards
import Derived.Test.YtjdnbmcjnkmgdaaGreatDoorTie
import Derived.SevenTiedAt

/-
  The walks of the reference's Number and Term. Conditions: numbers below 100; heads that exist, names of at most 24 bytes, terms of at most 1000 nodes.
-/
set_option linter.unusedSimpArgs false
set_option linter.unusedVariables false
namespace Go.Proofs.YtjdnbmcjnkmgdaaGreatDoor
open Go.RowKit Go.Maps

set_option maxRecDepth 100000 in
set_option maxHeartbeats 2000000 in
theorem refdigit_any (i : Nat) (h : i < 10) (w : World) :
    Calls Tryz.prog 54 #[.int .i64 (i : Int)] w fun e w' => e = .returned (.string ⟨(Lib.decDigits i).toArray⟩) ∧ w = w' := by
  rw [Lib.decDigits_one h]
  have hc : i = 0 ∨ i = 1 ∨ i = 2 ∨ i = 3 ∨ i = 4 ∨ i = 5 ∨ i = 6 ∨ i = 7 ∨ i = 8 ∨ i = 9 := by omega
  rcases hc with rfl | rfl | rfl | rfl | rfl | rfl | rfl | rfl | rfl | rfl
  all_goals
    go_enter Tryz.func54, Tryz.ntmps54
    go_wp2_with fail
    go_ret
    exact ⟨rfl, rfl⟩

set_option maxRecDepth 100000 in
set_option maxHeartbeats 2000000 in
theorem refnumber_any (i : Nat) (h : i < 100) (w : World) :
    Calls Tryz.prog 54 #[.int .i64 (i : Int)] w fun e w' => e = .returned (.string ⟨(Lib.decDigits i).toArray⟩) ∧ w = w' := by
  by_cases h1 : i < 10
  · exact refdigit_any i h1 w
  · have hd : Lib.decDigits i = Lib.decDigits (i / 10) ++ Lib.decDigits (i % 10) := by
      rw [Lib.decDigits_two h1 h, Lib.decDigits_one (by omega), Lib.decDigits_one (by omega)]
      rfl
    rw [hd]
    have HQ := Lib.hid (refdigit_any (i / 10) (by omega))
    have HR := Lib.hid (refdigit_any (i % 10) (by omega))
    have hl1 := dec_len (i / 10) (by omega)
    have hl2 := dec_len (i % 10) (by omega)
    have q1 : (i : Int).tdiv 10 = ((i / 10 : Nat) : Int) := rfl
    have q2 : (i : Int).tmod 10 = ((i % 10 : Nat) : Int) := rfl
    have hlt : decide ((i : Int) < 10) = false := by rw [decide_eq_false_iff_not]; omega
    generalize hq : i / 10 = q at HQ hl1 q1
    generalize hr : i % 10 = r at HR hl2 q2
    clear hd
    go_enter Tryz.func54, Tryz.ntmps54
    go_wp2_with fail
    refine (HQ.out _).mono ?_
    rintro e w1 ⟨rfl, rfl⟩
    go_wp2_with fail
    refine (HR.out _).mono ?_
    rintro e w2 ⟨rfl, rfl⟩
    go_wp2_with fail
    go_ret
    exact ⟨congrArg (fun z => Ending.returned (.string z)) (str_append _ _), rfl⟩

set_option maxRecDepth 100000 in
set_option maxHeartbeats 8000000 in
theorem refterm3_any (x : Sc) (a0 : At2) (hN : NamesOk x) (N : Nat) : ∀ (a : X) (k n : Int) (w : World) (p : Option Addr) (l cap : Nat), a.sz < N → a.sz ≤ 1000 → IsC w x a0 → goodH x k n → goodX x a → IsX w a p l cap →
    Calls Tryz.prog 56 #[.agg #[.slice a0.sp a0.sn a0.sc, .slice a0.fp a0.fn a0.fc], .agg #[.int .i64 k, .int .i64 n, .slice p l cap]] w fun e w' => e = .returned (.string ⟨(tTx x k n a).toArray⟩) ∧ Below w.heap.size w w' := by
  induction N with
  | zero => intro a k n w p l cap h; omega
  | succ N ih =>
    intro a k n w p l cap hN1 h1000 hC hgh hgx his
    have hlen := a.len_le_sz
    obtain ⟨hn, hcap, hmax, hnil, hrow⟩ := his
    subst hn
    have IH := Lib.hid ih
    clear ih
    have hhl := hTx_len hN hgh
    have hal := aTx_len hN hgx
    have B2 : Below w.heap.size w ((w.alloc (.cells #[.slice a0.sp a0.sn a0.sc, .slice a0.fp a0.fn a0.fc] 25)).alloc (.cells #[.int .i64 k, .int .i64 n, .slice p a.len cap] 50)) := ((Below.refl _ _).alloc (Nat.le_refl _) _).alloc (by simp) _
    have HC := Lib.hid hC
    have HGX := Lib.hid hgx
    obtain ⟨h0, h1⟩ := hgh
    obtain ⟨m, rfl⟩ : ∃ m : Nat, n = m := ⟨n.toNat, by omega⟩
    obtain ⟨sp, sn, sc, fp, fn, fc⟩ := a0
    obtain ⟨hS, hF⟩ := hC
    dsimp only at hS hF B2 HC ⊢
    obtain rfl : fn = x.F.len := hF.1
    obtain rfl : sn = x.S.len := hS.1
    have HB2 := Lib.hid B2
    obtain ⟨hd, hhd⟩ : ∃ hd, hTx x k (m : Int) = hd := ⟨_, rfl⟩
    obtain ⟨tt, htt⟩ : ∃ tt, tTx x k (m : Int) a = tt := ⟨_, rfl⟩
    have htt2 : hd ++ aTx x a = tt := by rw [← htt, ← hhd]; rfl
    have htl : tt.length ≤ 28025 := by rw [← htt2, List.length_append, ← hhd]; omega
    rw [htt]
    rw [hhd] at hhl
    have HT := Lib.hid htt2
    clear htt htt2 hgx
    go_enter Tryz.func56, Tryz.ntmps56
    rcases h1 with ⟨rfl, h1⟩ | ⟨rfl, h1⟩ | ⟨rfl, h1⟩
    case' inl =>
      have e : hd = 36 :: Lib.decDigits m := by rw [← hhd]; unfold hTx; rw [if_pos rfl, Int.toNat_natCast]
      have hv : (⟨#[36]⟩ : ByteArray) ++ ⟨(Lib.decDigits m).toArray⟩ = ⟨hd.toArray⟩ := by rw [e]; exact cons_str _ _
      have HI := Lib.hid fun W => refnumber_any m (by omega) W
      have hl := dec_len m (by omega)
      clear e hhd hS hF B2
      go_wp2_with fail
      refine (HI.out _).mono ?_
      rintro e w1 ⟨rfl, rfl⟩
      go_upto_region 8 with fail
      clear HI hl hv h1
      have hsb := alloc_kept (heap_new w (.cells #[.slice sp x.S.len sc, .slice fp x.F.len fc] 25)) (.cells #[.int .i64 0, .int .i64 (m : Int), .slice p a.len cap] 50)
      have htb := heap_new2 w (.cells #[.slice sp x.S.len sc, .slice fp x.F.len fc] 25) (.cells #[.int .i64 0, .int .i64 (m : Int), .slice p a.len cap] 50)
      generalize (w.alloc (.cells #[.slice sp x.S.len sc, .slice fp x.F.len fc] 25)).alloc (.cells #[.int .i64 0, .int .i64 (m : Int), .slice p a.len cap] 50) = W2 at hsb htb HB2 ⊢
    case' inr.inl =>
      obtain ⟨b, off, rfl, hc⟩ := rowF_name hF (show m < x.F.len by omega)
      have e : (⟨hd.toArray⟩ : ByteArray) = x.F.nm m := by rw [← hhd]; unfold hTx; rw [if_neg (by decide), if_pos rfl, Int.toNat_natCast]
      have hc2 := ((bcell B2).1 _ _ (lt_of_cell hc)).trans hc
      have hlt : m < x.F.len := by omega
      rw [← e] at hc2
      clear e hhd hS hF hc B2
      go_upto_region 8 with fail
      clear hc2 hlt h1
      have hsb := alloc_kept (heap_new w (.cells #[.slice sp x.S.len sc, .slice (some ⟨b, off, none⟩) x.F.len fc] 25)) (.cells #[.int .i64 1, .int .i64 (m : Int), .slice p a.len cap] 50)
      have htb := heap_new2 w (.cells #[.slice sp x.S.len sc, .slice (some ⟨b, off, none⟩) x.F.len fc] 25) (.cells #[.int .i64 1, .int .i64 (m : Int), .slice p a.len cap] 50)
      generalize (w.alloc (.cells #[.slice sp x.S.len sc, .slice (some ⟨b, off, none⟩) x.F.len fc] 25)).alloc (.cells #[.int .i64 1, .int .i64 (m : Int), .slice p a.len cap] 50) = W2 at hsb htb HB2 ⊢
    case' inr.inr =>
      obtain ⟨b, off, rfl, hc⟩ := rowS_name hS (show m < x.S.len by omega)
      have e : hd = 35 :: (x.S.nm m).data.toList := by rw [← hhd]; unfold hTx; rw [if_neg (by decide), if_neg (by decide), Int.toNat_natCast]
      have hv : (⟨#[35]⟩ : ByteArray) ++ x.S.nm m = ⟨hd.toArray⟩ := by rw [e]; apply ByteArray.ext; simp
      have hl := hN.2 m (by omega)
      have hc2 := ((bcell B2).1 _ _ (lt_of_cell hc)).trans hc
      have hlt : m < x.S.len := by omega
      clear e hhd hS hF hc B2
      go_upto_region 8 with fail
      clear hc2 hlt hl hv h1
      have hsb := alloc_kept (heap_new w (.cells #[.slice (some ⟨b, off, none⟩) x.S.len sc, .slice fp x.F.len fc] 25)) (.cells #[.int .i64 2, .int .i64 (m : Int), .slice p a.len cap] 50)
      have htb := heap_new2 w (.cells #[.slice (some ⟨b, off, none⟩) x.S.len sc, .slice fp x.F.len fc] 25) (.cells #[.int .i64 2, .int .i64 (m : Int), .slice p a.len cap] 50)
      generalize (w.alloc (.cells #[.slice (some ⟨b, off, none⟩) x.S.len sc, .slice fp x.F.len fc] 25)).alloc (.cells #[.int .i64 2, .int .i64 (m : Int), .slice p a.len cap] 50) = W2 at hsb htb HB2 ⊢
    all_goals
      obtain ⟨⟨y1, y2, y3⟩, _⟩ := term_box htb
      have HW := Lib.hid (And.intro hsb htb)
      clear hsb htb
      go_wp2_with fail
      go_loopw [5, 36] (fun v i wr => ∃ (j : Nat) (d : List UInt8), j ≤ a.len ∧ i = .int .i64 (j : Int) ∧ v = .string ⟨d.toArray⟩ ∧ d ++ aTx x (a.drop j) = tt ∧ Below W2.heap.size W2 wr)
        (fun _ i _ => a.len - (Go.RowKit.intOf i).toNat)
      case atStart => exact ⟨0, hd, Nat.zero_le _, rfl, rfl, by rw [X.drop_zero]; exact HT.out, Below.refl _ _⟩
      case round =>
        clear y1 y2 y3
        obtain ⟨j, d, hj, rfl, rfl, hmo, hb⟩ := hrel
        have hdl : d.length ≤ 28025 := by have := congrArg List.length hmo; rw [List.length_append] at this; omega
        have hz := hb.size
        have bx1 := (hb.block _ (lt_of_block HW.out.1)).trans HW.out.1
        have bx2 := (hb.block _ (lt_of_block HW.out.2)).trans HW.out.2
        have s1 := fun o => (two_box (alloc_kept bx1 o)).1.1
        have s2 := fun o => (two_box (alloc_kept bx1 o)).1.2
        obtain ⟨⟨y1, y2, y3⟩, _⟩ := term_box bx2
        have hba : Below w.heap.size w wr := HB2.out.trans (hb.mono HB2.out.size)
        have HB := Lib.hid hba
        have HBr := Lib.hid hb
        have HM := Lib.hid hmo
        have HCr := Lib.hid (HC.out.below hba)
        clear hmo hb bx1 bx2 hba
        by_cases hlt : j < a.len
        · rcases hrow with h0 | ⟨b, off, rfl, hr⟩
          · omega
          obtain ⟨hck, hcn, p', n', cap', hc, hi⟩ := base3_at (Keeps3.below HB.out (Nat.le_refl _)) hr hlt
          have hsz := a.sz_ga j hlt
          obtain ⟨hgj, hgxj⟩ := goodX_at HGX.out hlt
          have hl1 := hTx_len hN hgj
          have hl2 := aTx_len hN hgxj
          have hdrop := aTx_drop x a j hlt
          have hln' := hi.1
          have HDR := Lib.hid hdrop
          have HGJ := Lib.hid (And.intro hgj hgxj)
          have HXi := Lib.hid hi
          clear hdrop hgj hgxj hi
          generalize hka : a.gk j = ka at hck HDR HGJ hl1
          generalize hna : a.gn j = na at hcn HDR HGJ hl1
          generalize haa : a.ga j = aa at HDR HGJ HXi hl2 hsz hln'
          clear hka hna haa
          have htl2 : (tTx x ka na aa).length ≤ 28025 := by unfold tTx; rw [List.length_append]; omega
          have HIH := Lib.hid fun W hC hX => IH.out aa ka na W p' n' cap' (by omega) (by omega) hC HGJ.out.1 HGJ.out.2 hX
          have e1 : ¬ 9223372036854775807 < d.length + 1 := by omega
          have e2 : ¬ 9223372036854775807 < d.length + 2 := by omega
          by_cases h0 : aa.len = 0
          · have hd0 : ((n' : Int) == 0) = true := by rw [hln']; simp [h0]
            have hmo2 : (d ++ 32 :: tTx x ka na aa) ++ aTx x (a.drop (j + 1)) = tt := by
              rw [← HM.out, HDR.out, if_pos h0]
              have : aTx x aa = [] := by
                have := X.drop_end aa 0 (by omega)
                rw [X.drop_zero] at this
                rw [this]; rfl
              unfold tTx
              rw [this]; simp
            have HM2 := Lib.hid hmo2
            generalize tTx x ka na aa = t2 at HM2 HIH htl2
            have e3 : ¬ 9223372036854775807 < d.length + 1 + t2.length := by omega
            clear hmo2 h0 HDR HM hln'
            go_wp2_with fail
            refine (HIH.out _ (HCr.out.alloc _) (HXi.out.alloc _)).mono ?_
            rintro e w3 ⟨rfl, hb3⟩
            have hb4 : Below W2.heap.size W2 w3 := (HBr.out.alloc (by omega) _).trans (hb3.mono (by simp; omega))
            have HB4 := Lib.hid hb4
            clear hb4 hb3
            go_wp2_with fail
            go_roundw
            case rel => exact ⟨j + 1, d ++ 32 :: t2, by omega, by go_num, by apply congrArg Value.string; apply ByteArray.ext; simp, HM2.out, HB4.out⟩
            case measure => simp [Go.RowKit.intOf]; omega
          · have hd0 : ((n' : Int) == 0) = false := by rw [hln']; simp; omega
            have hmo2 : (d ++ 32 :: 40 :: (tTx x ka na aa ++ [41])) ++ aTx x (a.drop (j + 1)) = tt := by
              rw [← HM.out, HDR.out, if_neg h0]; simp [tTx]
            have HM2 := Lib.hid hmo2
            generalize tTx x ka na aa = t2 at HM2 HIH htl2
            have e3 : ¬ 9223372036854775807 < d.length + 2 + t2.length := by omega
            have e4 : ¬ 9223372036854775807 < d.length + 2 + t2.length + 1 := by omega
            clear hmo2 h0 HDR HM hln'
            go_wp2_with fail
            refine (HIH.out _ (HCr.out.alloc _) (HXi.out.alloc _)).mono ?_
            rintro e w3 ⟨rfl, hb3⟩
            have hb4 : Below W2.heap.size W2 w3 := (HBr.out.alloc (by omega) _).trans (hb3.mono (by simp; omega))
            have HB4 := Lib.hid hb4
            clear hb4 hb3
            go_wp2_with fail
            go_roundw
            case rel => exact ⟨j + 1, d ++ 32 :: 40 :: (t2 ++ [41]), by omega, by go_num, by apply congrArg Value.string; apply ByteArray.ext; simp, HM2.out, HB4.out⟩
            case measure => simp [Go.RowKit.intOf]; omega
        · have hmo2 : d = tt := by
            have := HM.out
            rw [X.drop_end a j (by omega)] at this
            simpa [aTx] using this
          subst hmo2
          go_wp2_with fail
          go_ret
          exact ⟨rfl, HB.out⟩

end Go.Proofs.YtjdnbmcjnkmgdaaGreatDoor

/-
  The walk of the reference's Put. Conditions: that the scheme lies in memory.
-/
set_option linter.unusedSimpArgs false
set_option linter.unusedVariables false
namespace Go.Proofs.YtjdnbmcjnkmgdaaGreatDoor
open Go.RowKit Go.Maps

theorem str_of {s : ByteArray} {l : List UInt8} (h : s.data.toList = l) : Value.string s = .string ⟨l.toArray⟩ := by rw [← h, str_self]

theorem held7 {W : World} {fb sb : Nat} {v0 v1 v2 v3 v4 u0 u1 : Value} {t t' : TypeId} (h1 : W.heap[fb]? = some (.cells #[v0, v1, v2, v3, v4] t (0, 0))) (h2 : W.heap[sb]? = some (.cells #[u0, u1] t' (0, 0))) :
    W.cell? ⟨fb, 0, none⟩ = some v0 ∧ W.cell? ⟨fb, 1, none⟩ = some v1 ∧ W.cell? ⟨fb, 2, none⟩ = some v2 ∧ W.cell? ⟨fb, 2 + 1, none⟩ = some v3 ∧ W.cell? ⟨fb, 2 + 2, none⟩ = some v4 ∧ W.cell? ⟨sb, 0, none⟩ = some u0 ∧ W.cell? ⟨sb, 1, none⟩ = some u1 := by
  obtain ⟨a0, a1, a2, a3, a4⟩ := fun_box h1
  obtain ⟨⟨b0, b1⟩, _⟩ := two_box h2
  exact ⟨a0, a1, a2, a3, a4, b0, b1⟩

set_option maxRecDepth 100000 in
set_option maxHeartbeats 2000000 in
theorem refput3_no (x : Sc) (a : At2) (w : World) (h : IsC w x a) (hno : scOk x = false) :
    Calls Tryz.prog 27 #[.agg #[.slice a.sp a.sn a.sc, .slice a.fp a.fn a.fc]] w fun e w' => e = .returned (.tuple #[.string ⟨#[]⟩, .int .i64 7]) ∧ Below w.heap.size w w' := by
  have HK := Lib.hid fun W h => refis3_any x a W h
  rw [hno] at HK
  go_enter Tryz.func27, Tryz.ntmps27
  go_wp2_with fail
  refine (HK.out _ (h.alloc _)).mono ?_
  rintro e w1 ⟨rfl, hb1⟩
  go_wp2_with fail
  go_ret2
  exact ⟨rfl, ((Below.refl _ _).alloc (Nat.le_refl _) _).trans (hb1.mono (by simp))⟩

set_option maxRecDepth 100000 in
set_option maxHeartbeats 8000000 in
theorem refput3_ok (x : Sc) (a : At2) (w : World) (h : IsC w x a) (hg : Good x) (hok : scOk x = true) (L : List UInt8) (hL : symsL x 0 x.S.len ++ funsL x 0 x.F.len = L) (hlen : L.length ≤ 1000000) (R : Value) (hR : (if 65536 < L.length then Value.tuple #[.string ⟨#[]⟩, .int .i64 3] else .tuple #[.string ⟨L.toArray⟩, .int .i64 0]) = R) :
    Calls Tryz.prog 27 #[.agg #[.slice a.sp a.sn a.sc, .slice a.fp a.fn a.fc]] w fun e w' => e = .returned R ∧ Below w.heap.size w w' := by
  have HK := Lib.hid fun W h => refis3_any x a W h
  rw [hok] at HK
  have hS := hg.syms
  have hF := hg.funs
  have HG := Lib.hid hg
  obtain ⟨sp, sn, sc, fp, fn, fc⟩ := a
  obtain rfl : sn = x.S.len := h.1.1
  obtain rfl : fn = x.F.len := h.2.1
  have HC := Lib.hid h
  have HL := Lib.hid hL
  have HR := Lib.hid hR
  clear hok hg h hL hR
  go_enter Tryz.func27, Tryz.ntmps27
  go_wp2_with fail
  refine (HK.out _ (HC.out.alloc _)).mono ?_
  rintro e w1 ⟨rfl, hb1⟩
  have hbox : w1.heap[w.heap.size]? = some (.cells #[.slice sp x.S.len sc, .slice fp x.F.len fc] 25 (0, 0)) := by
    rw [hb1.block _ (by simp)]
    exact heap_new _ _
  have hb0 : Below w.heap.size w w1 := ((Below.refl _ _).alloc (Nat.le_refl _) _).trans (hb1.mono (by simp))
  obtain ⟨⟨s1, s2⟩, _⟩ := two_box hbox
  have HB := Lib.hid (And.intro hbox hb0)
  clear hbox hb0 hb1 HK
  go_wp2_with fail
  go_loopw [4, 15] (fun u v wr => ∃ (j : Nat) (d : List UInt8), j ≤ x.S.len ∧ v = .int .i64 (j : Int) ∧ u = .string ⟨d.toArray⟩ ∧ d ++ (symsL x j (x.S.len - j) ++ funsL x 0 x.F.len) = L ∧ Below w.heap.size w wr ∧ wr.heap[w.heap.size]? = some (.cells #[.slice sp x.S.len sc, .slice fp x.F.len fc] 25 (0, 0)))
    (fun _ v _ => x.S.len - (Go.RowKit.intOf v).toNat)
  case atStart => exact ⟨0, [], Nat.zero_le _, rfl, rfl, HL.out, HB.out.2, HB.out.1⟩
  case round =>
    clear HB s1 s2 HL
    obtain ⟨j, d, hj, rfl, rfl, hmo, hb, hbox⟩ := hrel
    have hdl : d.length ≤ 1000000 := by have := congrArg List.length hmo; rw [List.length_append] at this; omega
    have HM := Lib.hid hmo
    have HP := Lib.hid (And.intro hb hbox)
    clear hmo hb hbox
    by_cases hlt : j < x.S.len
    · obtain ⟨b, off, rfl, hc1, hc2⟩ := rowS_all (HC.out.below HP.out.1).1 hlt
      have hn24 := HG.out.names.2 j hlt
      obtain ⟨hr0, hr4⟩ := HG.out.rank j hlt
      have hsl := symL_len HG.out hlt
      obtain ⟨m, hm⟩ : ∃ m : Nat, x.S.rk j = m := ⟨(x.S.rk j).toNat, by omega⟩
      have hst : symL x j = [115, 121, 109, 98, 111, 108, 32] ++ ((x.S.nm j).data.toList ++ (32 :: (Lib.decDigits m ++ [10]))) := by unfold symL; rw [hm, Int.toNat_natCast]
      have hmo2 : (d ++ symL x j) ++ (symsL x (j + 1) (x.S.len - (j + 1)) ++ funsL x 0 x.F.len) = L := by rw [← HM.out, putL_sym x j hlt]; simp
      rw [hm] at hc2 hr4
      have hdl2 := dec_len m (by omega)
      have HI := Lib.hid fun W => refnumber_any m (by omega) W
      have HM2 := Lib.hid hmo2
      generalize symL x j = sl at hst hsl HM2
      have HST := Lib.hid hst
      clear hst hmo2 HM hm hr0
      generalize x.S.nm j = nmj at hc1 hn24 HST
      have hbw : Below wr.heap.size wr ((wr.alloc (.cells #[.string nmj, .int .i64 (m : Int)] 64)).drew) := below_drewN ((Below.refl _ _).alloc (Nat.le_refl _) _) 1
      have HW := Lib.hid (And.intro (HP.out.1.trans (hbw.mono HP.out.1.size)) (box3_later hbw HP.out.2))
      have hbx : ((wr.alloc (.cells #[.string nmj, .int .i64 (m : Int)] 64)).drew).heap[wr.heap.size]? = some (.cells #[.string nmj, .int .i64 (m : Int)] 64 (0, 0)) := heap_new _ _
      have K0 := (two_box hbx).1
      clear hbw hbx
      have e0 : ¬ 9223372036854775807 < d.length + 7 := by omega
      have e1 : ¬ 9223372036854775807 < d.length + 7 + nmj.size := by omega
      have e2 : ¬ 9223372036854775807 < d.length + 7 + nmj.size + 1 := by omega
      have e3 : ¬ 9223372036854775807 < d.length + 7 + nmj.size + 1 + (Lib.decDigits m).length := by omega
      have e4 : ¬ 9223372036854775807 < d.length + 7 + nmj.size + 1 + (Lib.decDigits m).length + 1 := by omega
      go_upto_region 7 with fail
      go_region_held3 (fun W => W.cell? ⟨wr.heap.size, 0, none⟩ = some (.string nmj) ∧ W.cell? ⟨wr.heap.size, 1, none⟩ = some (.int .i64 (m : Int)))
        (exact K0)
        (first | (go_at_call 54; refine (HI.out _).mono ?_; rintro e w3 ⟨rfl, rfl⟩))
      all_goals
        go_wp2_with fail
        go_roundw
        case rel => exact ⟨j + 1, d ++ sl, by omega, by go_num, str_of (by rw [HST.out]; simp), HM2.out, HW.out.1, HW.out.2⟩
        case measure => simp [Go.RowKit.intOf]; omega
    · have hmo2 : d ++ funsL x 0 x.F.len = L := by
        have := HM.out
        rw [show x.S.len - j = 0 by omega] at this
        simpa [symsL] using this
      have s1 := (two_box HP.out.2).1.1
      have s2 := (two_box HP.out.2).1.2
      have HM2 := Lib.hid hmo2
      clear hmo2 HM hdl
      go_wp2_with fail
      clear s1 s2
      go_loopw [4, 34] (fun u v wr => ∃ (j : Nat) (d : List UInt8), j ≤ x.F.len ∧ v = .int .i64 (j : Int) ∧ u = .string ⟨d.toArray⟩ ∧ d ++ funsL x j (x.F.len - j) = L ∧ Below w.heap.size w wr ∧ wr.heap[w.heap.size]? = some (.cells #[.slice sp x.S.len sc, .slice fp x.F.len fc] 25 (0, 0)))
        (fun _ v _ => x.F.len - (Go.RowKit.intOf v).toNat)
      case atStart => exact ⟨0, d, Nat.zero_le _, rfl, rfl, HM2.out, HP.out.1, HP.out.2⟩
      case round =>
        clear HM2 HP hj hlt
        obtain ⟨j, d, hj, rfl, rfl, hmo, hb, hbox⟩ := hrel
        have hdl : d.length ≤ 1000000 := by have := congrArg List.length hmo; rw [List.length_append] at this; omega
        have HM := Lib.hid hmo
        have HP := Lib.hid (And.intro hb hbox)
        clear hmo hb hbox
        by_cases hlt : j < x.F.len
        · obtain ⟨b, off, rfl, hrow⟩ := rowF_all (HC.out.below HP.out.1).2 hlt
          obtain ⟨p, n, c, q, m, e', hc1, hc2, hc3, hc4, hc5, hT, hX⟩ := hrow
          have hn24 := HG.out.names.1 j hlt
          have hgh := HG.out.head j hlt
          have hgx := HG.out.body j hlt
          have hsz := HG.out.size j hlt
          have hv := HG.out.sort j hlt
          have hpl := pT_len hv
          have htl := tTx_len HG.out.names hgh hgx
          have hfl := funL_len HG.out hlt
          have hpe : (x.F.st j).pT = (x.F.st j).txt := by unfold T.pT; rw [if_pos hv]
          have hst : funL x j = [102, 117, 110, 32] ++ ((x.F.nm j).data.toList ++ ([32, 58, 32] ++ ((x.F.st j).pT ++ ([32, 61, 32] ++ (tTx x (x.F.bk j) (x.F.bn j) (x.F.bt j) ++ [10]))))) := rfl
          have hmo2 : (d ++ funL x j) ++ funsL x (j + 1) (x.F.len - (j + 1)) = L := by rw [← HM.out, putL_fun x j hlt]; simp
          have HM2 := Lib.hid hmo2
          have HPU := fun W h => text_any (x.F.st j).nodes (x.F.st j) W p n c (Nat.le_refl _) (T.valid_nodes _ hv) h
          rw [← hpe] at HPU
          have HPU := Lib.hid HPU
          have HSP := Lib.hid fun W hC hX => refterm3_any x ⟨sp, x.S.len, sc, some ⟨b, off, none⟩, x.F.len, fc⟩ HG.out.names 1001 (x.F.bt j) (x.F.bk j) (x.F.bn j) W q m e' (by omega) (by omega) hC hgh hgx hX
          generalize tTx x (x.F.bk j) (x.F.bn j) (x.F.bt j) = tt at hst htl HSP
          generalize (x.F.st j).pT = pt at hst hpl HPU
          generalize funL x j = sl at hst hfl HM2
          have HST := Lib.hid hst
          clear hst hmo2 HM hgh hgx hpe hv
          generalize x.F.nm j = nmj at hc1 hn24 HST
          generalize x.F.bk j = bkj at hc3 HSP
          generalize x.F.bn j = bnj at hc4 HSP
          have hbw : Below wr.heap.size wr ((wr.alloc (.cells #[.string nmj, .slice p n c, .int .i64 bkj, .int .i64 bnj, .slice q m e'] 52)).drew) := below_drewN ((Below.refl _ _).alloc (Nat.le_refl _) _) 1
          have hbx : ((wr.alloc (.cells #[.string nmj, .slice p n c, .int .i64 bkj, .int .i64 bnj, .slice q m e'] 52)).drew).heap[wr.heap.size]? = some (.cells #[.string nmj, .slice p n c, .int .i64 bkj, .int .i64 bnj, .slice q m e'] 52 (0, 0)) := heap_new _ _
          have hB := HP.out.1.trans (hbw.mono HP.out.1.size)
          have K0 := held7 hbx (box3_later hbw HP.out.2)
          have HW := Lib.hid (And.intro hbx (And.intro hB (And.intro (box3_later hbw HP.out.2) (And.intro (hT.below hbw) (And.intro (hX.below hbw) (HC.out.below hB))))))
          clear hbw hbx hB hT hX
          have e0 : ¬ 9223372036854775807 < d.length + 4 := by omega
          have e1 : ¬ 9223372036854775807 < d.length + 4 + nmj.size := by omega
          have e2 : ¬ 9223372036854775807 < d.length + 4 + nmj.size + 3 := by omega
          have e3 : ¬ 9223372036854775807 < d.length + 4 + nmj.size + 3 + pt.length := by omega
          have e4 : ¬ 9223372036854775807 < d.length + 4 + nmj.size + 3 + pt.length + 3 := by omega
          have e5 : ¬ 9223372036854775807 < d.length + 4 + nmj.size + 3 + pt.length + 3 + tt.length := by omega
          have e6 : ¬ 9223372036854775807 < d.length + 4 + nmj.size + 3 + pt.length + 3 + tt.length + 1 := by omega
          go_upto_region 12 with fail
          go_region_held3 (fun W => W.cell? ⟨wr.heap.size, 0, none⟩ = some (.string nmj) ∧ W.cell? ⟨wr.heap.size, 1, none⟩ = some (.slice p n c) ∧ W.cell? ⟨wr.heap.size, 2, none⟩ = some (.int .i64 bkj) ∧ W.cell? ⟨wr.heap.size, 2 + 1, none⟩ = some (.int .i64 bnj) ∧ W.cell? ⟨wr.heap.size, 2 + 2, none⟩ = some (.slice q m e') ∧ W.cell? ⟨w.heap.size, 0, none⟩ = some (.slice sp x.S.len sc) ∧ W.cell? ⟨w.heap.size, 1, none⟩ = some (.slice (some ⟨b, off, none⟩) x.F.len fc))
            (first | exact K0 | exact K3 | exact K4)
            (first
            | (go_at_call 55; refine (HPU.out _ HW.out.2.2.2.1).mono ?_; rintro e w3 ⟨rfl, hb3⟩; have hbx3 := box3_later hb3 HW.out.1; have hsb3 := box3_later hb3 HW.out.2.2.1; have K3 := held7 hbx3 hsb3)
            | (go_at_call 56; refine (HSP.out _ (HW.out.2.2.2.2.2.below hb3) (HW.out.2.2.2.2.1.below hb3)).mono ?_; rintro e w4 ⟨rfl, hb4⟩; have K4 := held7 (box3_later hb4 hbx3) (box3_later hb4 hsb3)))
          all_goals
            have hB4 := HW.out.2.1.trans ((hb3.trans (hb4.mono hb3.size)).mono HW.out.2.1.size)
            have HB4 := Lib.hid (And.intro hB4 (box3_later hb4 hsb3))
            clear hB4
            go_wp2_with fail
            go_roundw
            case rel => exact ⟨j + 1, d ++ sl, by omega, by go_num, str_of (by rw [HST.out]; simp), HM2.out, HB4.out.1, HB4.out.2⟩
            case measure => simp [Go.RowKit.intOf]; omega
        · have hmo2 : d = L := by
            have := HM.out
            rw [show x.F.len - j = 0 by omega] at this
            simpa [funsL] using this
          subst hmo2
          have hR' := HR.out
          by_cases h6 : 65536 < d.length
          · rw [if_pos h6] at hR'
            subst hR'
            have hd : decide ((65536 : Int) < (d.length : Int)) = true := by simp; omega
            go_wp2_with fail
            go_ret2
            exact ⟨rfl, HP.out.1⟩
          · rw [if_neg h6] at hR'
            subst hR'
            have hd : decide ((65536 : Int) < (d.length : Int)) = false := by simp; omega
            go_wp2_with fail
            go_ret2
            exact ⟨rfl, HP.out.1⟩

theorem refput3_any (x : Sc) (a : At2) (w : World) (h : IsC w x a) :
    Calls Tryz.prog 27 #[.agg #[.slice a.sp a.sn a.sc, .slice a.fp a.fn a.fc]] w fun e w' => e = .returned (.tuple #[.string ⟨(putT x).toArray⟩, .int .i64 (putE x)]) ∧ Below w.heap.size w w' := by
  cases hs : scOk x with
  | false =>
    have e1 : putT x = [] := by unfold putT; rw [hs]; rfl
    have e2 : putE x = 7 := by unfold putE; rw [hs]; rfl
    rw [e1, e2]
    exact refput3_no x a w h hs
  | true =>
    refine refput3_ok x a w h (good_of hs) hs (putL x) rfl (putL_len (good_of hs)) _ ?_
    unfold putT putE
    rw [hs]
    by_cases h6 : 65536 < (putL x).length
    · simp [h6]
    · simp [h6]

end Go.Proofs.YtjdnbmcjnkmgdaaGreatDoor

/-
  The walk of the statement on Put. Conditions: that the scheme lies in memory, and the package variables read as laid.
-/
set_option linter.unusedSimpArgs false
set_option linter.unusedVariables false
namespace Go.Proofs.YtjdnbmcjnkmgdaaGreatDoor
open Go.RowKit Go.Maps

set_option maxRecDepth 100000 in
set_option maxHeartbeats 4000000 in
theorem law_sput (x : Sc) (a : At2) (w : World) (h : IsC w x a) (hg : Gl w) (h6 : 6 ≤ w.heap.size) :
    Calls Tryz.prog 7 #[.agg #[.slice a.sp a.sn a.sc, .slice a.fp a.fn a.fc]] w fun e w' => e = .returned (.bool true) ∧ Below w.heap.size w w' := by
  have H1 := Lib.hid fun W (hb : Below w.heap.size w W) => sput_any x a W (h.below hb)
  have H2 := Lib.hid fun W (hb : Below w.heap.size w W) => refput3_any x a W (h.below hb)
  have HA := Lib.hid fun W (hb : Below w.heap.size w W) => alive3_any W (hg.keep fun b hb' => hb.block b (by omega)) (by have := hb.size; omega)
  obtain ⟨sp, sn, sc, fp, fn, fc⟩ := a
  dsimp only at H1 H2 ⊢
  generalize putT x = L at H1 H2
  generalize putE x = k at H1 H2
  have hbx := heap_new w (.cells #[.slice sp sn sc, .slice fp fn fc] 25)
  have B0 := (Below.refl w.heap.size w).alloc (Nat.le_refl _) (.cells #[.slice sp sn sc, .slice fp fn fc] 25)
  obtain ⟨⟨s1, s2⟩, _⟩ := two_box hbx
  have HB := Lib.hid (And.intro hbx B0)
  clear h hg h6 hbx B0
  go_enter Tryz.func7, Tryz.ntmps7
  go_wp2_with fail
  refine (H1.out _ HB.out.2).mono ?_
  rintro e w1 ⟨rfl, hb1⟩
  have h1 := Lib.hid (And.intro (box3_later hb1 HB.out.1) (HB.out.2.trans (hb1.mono HB.out.2.size)))
  clear hb1 HB s1 s2 H1
  obtain ⟨⟨s1, s2⟩, _⟩ := two_box h1.out.1
  go_wp2_with fail
  refine (H2.out _ h1.out.2).mono ?_
  rintro e w2 ⟨rfl, hb2⟩
  have h2 := Lib.hid (And.intro (box3_later hb2 h1.out.1) (h1.out.2.trans (hb2.mono h1.out.2.size)))
  clear hb2 h1 s1 s2 H2
  go_wp2_with fail
  refine (HA.out _ h2.out.2).mono ?_
  rintro e w6 ⟨rfl, hb6⟩
  go_wp2_with fail
  go_ret
  exact ⟨rfl, h2.out.2.trans (hb6.mono h2.out.2.size)⟩

end Go.Proofs.YtjdnbmcjnkmgdaaGreatDoor

set_option linter.unusedSimpArgs false
set_option linter.unusedVariables false
namespace Go.Proofs.YtjdnbmcjnkmgdaaGreatDoor
open Go.ChangeShapes Go.WideShapes Go.ChangeAt Go.RowKit
open Go.ChangeMaps (open_string shut_string)

set_option maxRecDepth 100000 in
theorem schemePut_lifted (os : Os) (started : os.Started) (H : Type) (enc : TypeId × Value → H) :
    ReturnsInHanded {} Tryz.checked os 7 .any (fun w args => (Rows.schemePutSpec.pre enc Tryz.prog Tryz.f7 [] false w args ∧ laidMetH Tryz.prog laidL w) ∧ sizedMet enc Tryz.prog Tryz.f7 (OpenSpec.ofChange Rows.schemePutSpec) false w args)
      (Rows.schemePutSpec.post enc Tryz.prog Tryz.f7 false true false false) := by
  refine lifted_shaped (C := Tryz.checked) (X := fun w _ => laidMetH Tryz.prog laidL w) (fun _ _ _ hh h => h.of_heap hh) P.own started (by kernel_rfl) Tryz.func7
    (ChangeSpec.witness_shaped (enc := enc) (C := Tryz.checked) (os := os) (X := fun w _ => laidMetH Tryz.prog laidL w) false (World.doorLaid Tryz.prog 62 os) #[.agg #[.slice none 0 0, .slice none 0 0]] 8 rfl (World.shaped_of_RefB (by kernel_rfl) (by kernel_rfl)) (by kernel_rfl) (by kernel_rfl) (by kernel_rfl) (door_met os _)) ?_
  intro W args ds gs before hval0 hW _ hL hsh
  have hW' := hW
  obtain ⟨p, q, hA0, hV, rfl, hfz, hnd⟩ := hW
  have hA : DataW.TrodAll enc Tryz.prog W 0 (fun _ => true) true Tryz.f7.params.toList args.toList ds p := hA0
  rw [Tryz.params7] at hA hval0
  obtain ⟨v0, d0, rfl, rfl, h0⟩ := trodAll_one hA
  obtain ⟨rfl, rfl⟩ := trodVars_none hV
  have k0 := h0
  obtain ⟨base0, hv0⟩ := hval0 0 25 v0 rfl rfl
  obtain ⟨x0, b0, rfl, i0⟩ := open_scheme hv0 h0
  clear hA0 hval0
  simp only [List.append_nil] at hW'
  obtain ⟨hg, h6⟩ := gl_of hL hsh
  refine (law_sput x0 b0 W i0 hg h6).mono fun e W' ⟨he, hb⟩ => ?_
  subst he
  have hlt := fun x hx => hW'.lt x hx
  exact ⟨_, rfl, post_below (pv := []) hW' (fun _ _ _ => trodAll_mk1 (shut_bool Tryz.underlying4 true))
    (fun sp hsp => trodAll_mk1 (WideElems.Trod_stays P.laidOut P.readC (of_decide_eq_true (by kernel_rfl)) k0 (fun x hx => hb.same (hlt x (by simp [hx]))) (fun x hx => hsp x (by simp [hx]))))
    (fun _ _ => rfl) (by simp) hb (ok_one (by kernel_rfl) rfl (okWide_bool_mk Tryz.underlying4 true))⟩

theorem schemePut_row : Rows.SchemePutSaid :=
  OpenClaim.holds_of_wide 7 Tryz.f7 rfl rfl rfl rfl rfl rfl rfl ⟨rfl, rfl, rfl, rfl, rfl⟩ rfl rfl rfl rfl rfl (by kernel_rfl) Tryz.func7 (by kernel_rfl)
    (of_decide_eq_true (by kernel_rfl)) (by unfold Func.isWrapper; rw [if_neg (of_decide_eq_false (by kernel_rfl))]; exact ⟨rfl, rfl⟩)
    (fun os started H enc _ => schemePut_lifted os started H enc)

theorem schemePut_holds : Rows.SchemePutCardSaid :=
  Claim7.holds_tied_plain_at .later [] [.data, .data, .data, .sentinel, .sentinel] true Rows.schemePutCard.stood.harness true
    schemePut_row (fun _ h => by cases h) (by kernel_rfl) (fun _ h => by cases h) schemePut_row_tie rfl ⟨rfl, rfl⟩ (by kernel_rfl) rfl
    (fun f fn hf hfn => by
      obtain rfl : f = 7 := Option.some.inj ((show Tryz.prog.funcNamed "virgation/virgationlaw03.SchemePut" = some 7 by kernel_rfl).symm.trans hf) |>.symm
      obtain rfl : fn = Tryz.f7 := (Option.some.inj (Tryz.func7.symm.trans hfn)).symm
      exact ⟨by kernel_rfl, fun j t ht => by
        rw [Tryz.params7] at ht
        have hm : t ∈ [25] := by simpa using Array.mem_of_getElem? ht
        have hall : ([25].all fun u => !Tryz.prog.wantsStandIn u) = true := by kernel_rfl
        exact (show Tryz.prog.wantsStandIn t = false by simpa using List.all_eq_true.1 hall t hm)⟩)
    (by kernel_rfl)

end Go.Proofs.YtjdnbmcjnkmgdaaGreatDoor

