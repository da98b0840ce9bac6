/-
  The walk of the reference's Subst. Conditions: at most 2^44 args.
-/
import Derived.Test.YtlgfaobbjnhfoaaTWalkZ3
import Derived.Test.YtlgfaobbjnhfoaaTWalkV
set_option linter.unusedSimpArgs false
set_option linter.unusedVariables false
namespace Go.Proofs.Ytlgfaobbjnhfoaa
open Go.RowKit

theorem szs_snoc (args : X) (j : Nat) (h : j < args.len) (z : Int) (hz : z = 1 + ((args.ga j).sz : Int)) : ((szs args).take j).map intv ++ [Value.int .i64 z] = ((szs args).take (j + 1)).map intv := by
  have hl : j < (szs args).length := by rw [szs_len]; exact h
  have h1 := szs_get args j h
  rw [List.getElem?_eq_getElem hl] at h1
  have h2 : (szs args)[j] = z := by injection h1 with h1; rw [h1, hz]
  rw [← h2]
  exact take_map_snoc _ j hl

theorem last_cell {xs : List Value} {j : Nat} (h : xs.length = j) (v : Value) : (xs ++ [v])[j]? = some v := by subst h; simp

theorem rep1_size (args : X) (k n : Int) (a : X) : (rep1 args k n (rep args a)).2.2.sz + 1 = g1 args k n + gsz args a := by
  unfold rep1 g1
  have h := gsz_rep args a
  by_cases hk : k = 0
  · rw [if_pos hk, if_pos hk]
    simp only [X.sz_app]
    omega
  · rw [if_neg hk, if_neg hk]
    simp only []
    omega

set_option maxRecDepth 100000 in
set_option maxHeartbeats 6000000 in
theorem refsubst_any (args a : X) (k n : Int) (w : World) (p q : Option Addr) (l cap m cap' : Nat) (his : IsX w a p l cap) (hia : IsX w args q m cap') (hbig : args.len ≤ 17592186044416) (E K Nn : Int) (A : X) (hres : subRes args k n a = (E, K, Nn, A)) :
    Calls Try.prog 30 #[.agg #[.int .i64 k, .int .i64 n, .slice p l cap], .slice q m cap'] w fun e w' =>
      ∃ r c, e = .returned (.tuple #[.agg #[.int .i64 K, .int .i64 Nn, .slice r A.len c], .int .i64 E]) ∧ OwnX w' A r c w.heap.size w'.heap.size ∧ Below w.heap.size w w' := by
  obtain ⟨i0, hi0, hz0, hz1', hz2⟩ := info_parts infoI
  have HD := Lib.hid hres
  clear hres
  obtain ⟨hn, hcap, hmax, hnil, hrow⟩ := id hia
  subst hn
  unfold maxLen at hmax
  have V0 := Vars2.start w (.cells #[.int .i64 k, .int .i64 n, .slice p l cap] 35) (.cells #[.int .i64 0, .int .i64 0, .slice none 0 0] 35)
  go_enter Try.func30, Try.ntmps30
  go_wp2_with fail
  refine (tlarge_any a k n _ p l cap ((his.alloc _).alloc _)).mono ?_
  rintro e w1 ⟨rfl, hb1⟩
  have V1 := V0.below hb1
  clear hb1 V0
  obtain ⟨r1, r2, r3⟩ := box3_cells V1.2.1
  obtain ⟨f1, f2, f3⟩ := free3 V1.2.1
  have hz1 := lt_of_block V1.2.1
  have HV1 := Lib.hid V1
  clear V1
  by_cases h1 : a.sz < 100000
  case neg =>
    have e1 := HD.out
    unfold subRes at e1
    rw [if_neg h1] at e1
    obtain ⟨rfl, rfl, rfl, rfl⟩ : 3 = E ∧ 0 = K ∧ 0 = Nn ∧ X.nil = A := by simpa using e1
    have hd : decide (a.sz < 100000) = false := by simpa using h1
    clear HD e1
    go_wp2_with fail
    exact bodyPost_ret (v := .tuple #[.agg #[.int .i64 0, .int .i64 0, .slice none 0 0], .int .i64 3]) (by simp [results, Try.results30, go_sem, r1, r2, r3]) rfl ⟨none, 0, rfl, ownX_nil _ _ _, below_set3 _ _ _ HV1.out.2.2 (by omega)⟩
  case pos =>
    have hd : decide (a.sz < 100000) = true := by simpa using h1
    clear r1 r2 r3 f1 f2 f3
    go_wp2_with fail
    go_loopw [6, 16] (fun x i wr => ∃ (j : Nat) (v : Value), j ≤ args.len ∧ v = x ∧ i = .int .i64 (j : Int) ∧ wr.ownsRow (w.heap.size + 2) 3 1 v j (((szs args).take j).map intv) ∧ (∀ i, i < j → (args.ga i).sz < 100000) ∧
        Vars2 w (.cells #[.int .i64 k, .int .i64 n, .slice p l cap] 35) (.cells #[.int .i64 0, .int .i64 0, .slice none 0 0] 35) wr)
      (fun _ i _ => args.len - (intOf i).toNat)
    case atStart => exact ⟨0, _, Nat.zero_le _, rfl, rfl, World.ownsRow_nil _ _ _ _, fun i h => absurd h (Nat.not_lt_zero _), HV1.out⟩
    case round =>
      clear HV1 hz1
      obtain ⟨j, v, hj, rfl, rfl, hown, hall, hV⟩ := hrel
      have HA := Lib.hid hall
      have HV := Lib.hid hV
      have hzr := lt_of_block hV.2.1
      clear hall hV
      by_cases hlt : j < args.len
      · rcases hrow with h0 | ⟨b, off, rfl, hr⟩
        · omega
        obtain ⟨hck, hcn, p', n', cap1, hc, hi⟩ := base3_at (Keeps3.below HV.out.2.2 (Nat.le_refl _)) hr hlt
        have hmx : j + 1 ≤ maxLen := by simp only [maxLen]; omega
        have hby : (j + 1) * 8 ≤ 140737488355328 := by omega
        have HC := Lib.hid (tnodes_any ((args.ga j).sz + 1) (args.ga j) (args.gk j) (args.gn j) (wr.alloc (.cells #[.int .i64 (args.gk j), .int .i64 (args.gn j), .slice p' n' cap1] 35)) p' n' cap1 100000 (Nat.lt_succ_self _) (by omega) (by omega) (hi.alloc _))
        obtain ⟨z, hz⟩ : ∃ z : Nat, min (1 + (args.ga j).sz) ((100000 : Int).toNat + 1) = z := ⟨_, rfl⟩
        rw [hz] at HC
        have hzs : z = min (1 + (args.ga j).sz) 100001 := by rw [← hz]; rfl
        obtain ⟨zi, hzi⟩ : ∃ zi : Int, (z : Int) = zi := ⟨_, rfl⟩
        rw [hzi] at HC
        have hzs2 : zi = ((min (1 + (args.ga j).sz) 100001 : Nat) : Int) := by omega
        have HZ := Lib.hid hzs2
        clear hz hzs hzi hzs2
        go_wp2_with fail
        refine HC.out.mono ?_
        rintro e w2 ⟨rfl, hb2⟩
        have V2 := HV.out.below (below_call hb2)
        have ho2 : w2.ownsRow (w.heap.size + 2) 3 1 v j (((szs args).take j).map intv) := hown.kept (row := none) ⟨(below_call hb2).os, (below_call hb2).tape, (below_call hb2).output, (below_call hb2).size, fun k hk _ => (below_call hb2).block k hk⟩ (by cases hv : v.ownBlock <;> simp)
        have hz2' := lt_of_block V2.2.1
        have HV2 := Lib.hid V2
        clear hb2 V2 HC HV hown hc hck hcn hi
        have ok : ∀ (w3 : World) (Y : Obj), (w2.alloc Y).grownBy w3 v.ownBlock → Vars2 w (.cells #[.int .i64 k, .int .i64 n, .slice p l cap] 35) (.cells #[.int .i64 0, .int .i64 0, .slice none 0 0] 35) w3 := fun w3 Y hg => by
          have hltv := ho2.lt
          have hb : Below (w.heap.size + 2) (w2.alloc Y) w3 := (Below.refl _ _).grown hg (by simp; omega) fun k hk => (hltv k hk).1
          have hV := HV2.out.below ((Below.refl _ _).alloc (Nat.le_refl _) Y)
          exact ⟨(hb.block _ (by omega)).trans hV.1, (hb.block _ (by omega)).trans hV.2.1, hV.2.2.trans (hb.mono (by omega))⟩
        have OK := Lib.hid ok
        clear ok
        have hlx : (((szs args).take j).map intv).length = j := by have := ho2.1; omega
        by_cases hsm : (args.ga j).sz < 100000
        · have hzz : zi = 1 + ((args.ga j).sz : Int) := by have := HZ.out; omega
          have hd9 : decide (100000 < zi) = false := by rw [decide_eq_false_iff_not]; omega
          have hsn := szs_snoc args j hlt zi hzz
          have HSN := Lib.hid hsn
          have hall' : ∀ i, i < j + 1 → (args.ga i).sz < 100000 := fun i h => by
            by_cases e : i = j
            · subst e; exact hsm
            · exact HA.out i (by omega)
          have HA' := Lib.hid hall'
          clear hsn hall' HA hzz HZ hsm
          go_wp2_with (at_builtin; refine wpList_append_lies _ rfl (.tmp 20) (.tmp 23) 47 rfl (w.heap.size + 2) 3 i0 (.int .i64 0) 1 8 Try.underlying47 hi0 hz0 hz1' hz2 rfl Nat.one_pos v j _ rfl (ho2.alloc _) ⟨w2.heap.size, 0, none⟩ 1 1 [.int .i64 zi] rfl rfl (cell_one_new _ _ _) (one_intv _) Nat.one_pos hmx hby (by simp; omega) (w2.heap.size + 1) (size_new _ _) ?_; intro g cp w3 hown3 hgrow hat hglt; have hcz := (hown3.cellAt j (by omega)).trans (last_cell hlx _); have V3 := OK.out _ _ hgrow)
          rw [HSN.out] at hown3
          have HV3 := Lib.hid V3
          clear hcz hgrow hat V3
          go_roundw
          case rel => exact ⟨j + 1, _, by omega, rfl, by go_num, hown3, HA'.out, HV3.out⟩
          case measure => simp [intOf]; omega
        · have hd9 : decide (100000 < zi) = true := by rw [decide_eq_true_eq]; have := HZ.out; omega
          have hsf := smalls_not hlt hsm
          have e1 := HD.out
          unfold subRes at e1
          rw [if_pos h1, if_neg (by rw [hsf]; simp)] at e1
          obtain ⟨rfl, rfl, rfl, rfl⟩ : 3 = E ∧ 0 = K ∧ 0 = Nn ∧ X.nil = A := by simpa using e1
          clear HD e1 hsf hsm HZ HA
          go_wp2_with (at_builtin; refine wpList_append_lies _ rfl (.tmp 20) (.tmp 23) 47 rfl (w.heap.size + 2) 3 i0 (.int .i64 0) 1 8 Try.underlying47 hi0 hz0 hz1' hz2 rfl Nat.one_pos v j _ rfl (ho2.alloc _) ⟨w2.heap.size, 0, none⟩ 1 1 [.int .i64 zi] rfl rfl (cell_one_new _ _ _) (one_intv _) Nat.one_pos hmx hby (by simp; omega) (w2.heap.size + 1) (size_new _ _) ?_; intro g cp w3 hown3 hgrow hat hglt; have hcz := (hown3.cellAt j (by omega)).trans (last_cell hlx _); have V3 := OK.out _ _ hgrow; have rr := box3_cells V3.2.1; obtain ⟨r1, r2, r3⟩ := rr; have ff := free3 V3.2.1; obtain ⟨f1, f2, f3⟩ := ff)
          exact bodyPost_ret (v := .tuple #[.agg #[.int .i64 0, .int .i64 0, .slice none 0 0], .int .i64 3]) (by simp [results, Try.results30, go_sem, r1, r2, r3]) rfl ⟨none, 0, rfl, ownX_nil _ _ _, below_set3 _ _ _ V3.2.2 (by omega)⟩
      · obtain rfl : j = args.len := by omega
        have hsm : smalls args = true := smalls_of fun i hi => HA.out i hi
        have ht : (szs args).take args.len = szs args := by rw [← szs_len args]; exact List.take_length
        rw [ht] at hown
        obtain ⟨sq, sc, rfl, hsi⟩ := isI_own hown
        have ix : IsX wr a p l cap := his.below HV.out.2.2
        have hlS := szs_len args
        rw [hlS] at hsi ⊢
        have HSI := Lib.hid hsi
        have HVA := Lib.hid (fun W h => variables_any (a.sz + 1) a k n [] W p l cap none 0 0 (Nat.lt_succ_self _) (by simp; omega) h (isI_nil W))
        obtain ⟨L, hL⟩ : ∃ L, vars1 k n a [] = L := ⟨_, rfl⟩
        have hLl := vars1_len k n a []
        have hkn := kn1_all args k n a
        rw [hL] at HVA hLl hkn
        have HKN := Lib.hid hkn
        clear hL hkn ht hown hlS hsi HA hrow
        obtain ⟨t1, t2, t3⟩ := box3_cells HV.out.1
        go_wp2_with fail
        refine (HVA.out _ ix).mono ?_
        rintro e w3 ⟨lq, lc, rfl, hiL, hb3⟩
        have V3 := HV.out.below hb3
        have hsi3 := HSI.out.below hb3
        have ix3 := ix.below hb3
        obtain ⟨_, hlc, hlm, hlr⟩ := id hiL
        unfold maxLen at hlm
        have HV3 := Lib.hid V3
        have HSI3 := Lib.hid hsi3
        have HIL := Lib.hid hiL
        have hLl' : L.length ≤ 100001 := by simp at hLl; omega
        obtain ⟨t1, t2, t3⟩ := box3_cells HV3.out.1
        clear hb3 V3 hsi3 HV HSI ix HVA hLl
        go_wp2_with fail
        go_loopw [37] (fun i wq => ∃ j2 : Nat, j2 ≤ L.length ∧ i = .int .i64 (j2 : Int) ∧ (∀ i (h : i < L.length), i < j2 → 0 ≤ L[i] ∧ L[i] < args.len) ∧ wq = w3)
          (fun i _ => L.length - (intOf i).toNat)
        case atStart => exact ⟨0, Nat.zero_le _, rfl, fun i h h0 => absurd h0 (Nat.not_lt_zero _), rfl⟩
        case round =>
          obtain ⟨j2, hj2, rfl, hok, rfl⟩ := hrel
          have HOK := Lib.hid hok
          clear hok
          by_cases hlt2 : j2 < L.length
          · rcases hlr with ⟨_, h0⟩ | ⟨lb, lo, rfl, hlb, hlcell⟩
            · omega
            obtain ⟨x, hx⟩ : ∃ x, L[j2] = x := ⟨_, rfl⟩
            have hcx := hlcell j2 x (by rw [List.getElem?_eq_getElem hlt2, hx])
            clear hlcell
            by_cases hgood : 0 ≤ x ∧ x < args.len
            · have d1 : decide (x < 0) = false := by rw [decide_eq_false_iff_not]; omega
              have d2 : decide ((args.len : Int) ≤ x) = false := by rw [decide_eq_false_iff_not]; omega
              have hok' : ∀ i (h : i < L.length), i < j2 + 1 → 0 ≤ L[i] ∧ L[i] < args.len := fun i h hi => by
                by_cases e : i = j2
                · subst e; rw [hx]; exact hgood
                · exact HOK.out i h (by omega)
              have HOK' := Lib.hid hok'
              clear hok' HOK hgood hx
              go_wp2_with fail
              go_roundw
              case rel => exact ⟨j2 + 1, by omega, by go_num, HOK'.out, by trivial⟩
              case measure => simp [intOf]; omega
            · have hknf : kn1 args k n a = false := by
                cases hk : kn1 args k n a with
                | false => rfl
                | true => exact absurd (HKN.out.1 hk x (by rw [← hx]; exact List.getElem_mem hlt2)) hgood
              have e1 := HD.out
              unfold subRes at e1
              rw [if_pos h1, if_pos hsm, if_neg (by rw [hknf]; simp)] at e1
              obtain ⟨rfl, rfl, rfl, rfl⟩ : 2 = E ∧ 0 = K ∧ 0 = Nn ∧ X.nil = A := by simpa using e1
              obtain ⟨r1, r2, r3⟩ := box3_cells HV3.out.2.1
              obtain ⟨f1, f2, f3⟩ := free3 HV3.out.2.1
              clear HD e1 hknf hsm HKN HOK
              by_cases hneg : x < 0
              · have d1 : decide (x < 0) = true := by simpa using hneg
                clear hgood hx hneg
                go_wp2_with fail
                exact bodyPost_ret (v := .tuple #[.agg #[.int .i64 0, .int .i64 0, .slice none 0 0], .int .i64 2]) (by simp [results, Try.results30, go_sem, r1, r2, r3]) rfl ⟨none, 0, rfl, ownX_nil _ _ _, below_set3 _ _ _ HV3.out.2.2 (by omega)⟩
              · have d1 : decide (x < 0) = false := by simpa using hneg
                have d2 : decide ((args.len : Int) ≤ x) = true := by rw [decide_eq_true_eq]; omega
                clear hgood hx hneg
                go_wp2_with fail
                exact bodyPost_ret (v := .tuple #[.agg #[.int .i64 0, .int .i64 0, .slice none 0 0], .int .i64 2]) (by simp [results, Try.results30, go_sem, r1, r2, r3]) rfl ⟨none, 0, rfl, ownX_nil _ _ _, below_set3 _ _ _ HV3.out.2.2 (by omega)⟩
          · have hkn : kn1 args k n a = true := HKN.out.2 fun v hv => by
              obtain ⟨i, hi, rfl⟩ := List.getElem_of_mem hv
              exact HOK.out i hi (by omega)
            have hkn2 := hkn
            unfold kn1 at hkn2
            obtain ⟨hk1, hk2⟩ : kn args k n a = true ∧ allB (kn args) a = true := by simpa using hkn2
            have hKK := kn_known hk1
            have hAA := AllX_mono (fun _ _ _ h => kn_known h) (allB_AllX hk2)
            have HGR := Lib.hid (fun W h h' => grown_any args hsm (a.sz + 1) a k n W p l cap sq args.len sc (Nat.lt_succ_self _) h h' hKK hAA (by omega))
            have HRP := Lib.hid (fun W h h' hR => refreplace_any args hsm (a.sz + 1) a k n W p l cap q args.len cap' (Nat.lt_succ_self _) h1 hKK hAA hR h h')
            have hR1 := rep1_size args k n a
            have iax3 := hia.below HV3.out.2.2
            have HIA3 := Lib.hid iax3
            have e1 := HD.out
            unfold subRes at e1
            rw [if_pos h1, if_pos hsm, if_pos hkn] at e1
            have HE := Lib.hid e1
            clear hkn hkn2 hk1 hk2 hKK hAA HKN HOK hlr iax3 e1 HD
            go_wp2_with fail
            refine (HGR.out _ ix3 HSI3.out).mono ?_
            rintro e w4 ⟨rfl, hb4⟩
            have V4 := HV3.out.below hb4
            have ix4 := ix3.below hb4
            have iax4 := HIA3.out.below hb4
            obtain ⟨r1, r2, r3⟩ := box3_cells V4.2.1
            obtain ⟨f1, f2, f3⟩ := free3 V4.2.1
            obtain ⟨t1, t2, t3⟩ := box3_cells V4.1
            have HV4 := Lib.hid V4
            clear hb4 V4 HV3 HSI3 HIA3 HGR HIL
            by_cases hroom : g1 args k n + gsz args a ≤ 100000
            · obtain ⟨zi, hzi⟩ : ∃ zi : Int, ((min (g1 args k n + gsz args a) 100001 : Nat) : Int) = zi := ⟨_, rfl⟩
              have hd3 : decide (100000 < zi) = false := by rw [decide_eq_false_iff_not]; omega
              have e2 := HE.out
              rw [if_pos hroom] at e2
              obtain ⟨e3, e4⟩ := Prod.mk.inj e2
              subst e3
              have HR := HRP.out w4 ix4 iax4 (by omega)
              rw [e4] at HR
              have HRR := Lib.hid HR
              rw [hzi]
              clear HE HRP e2 e4 HR hzi hroom hR1
              go_wp2_with fail
              refine HRR.out.mono ?_
              rintro e w5 ⟨r, c, rfl, hO, hb5⟩
              have V5 := HV4.out.below hb5
              obtain ⟨r1, r2, r3⟩ := box3_cells V5.2.1
              obtain ⟨f1, f2, f3⟩ := free3 V5.2.1
              have hz5 := lt_of_block HV4.out.2.1
              have HV5 := Lib.hid V5
              clear hb5 V5 HV4
              go_wp2_with fail
              exact bodyPost_ret (v := .tuple #[.agg #[.int .i64 K, .int .i64 Nn, .slice r A.len c], .int .i64 0]) (by simp [results, Try.results30, go_sem, r1, r2, r3]) rfl ⟨r, c, rfl, hO.set3 _ _ _ (by omega) (by omega), below_set3 _ _ _ HV5.out.2.2 (by omega)⟩
            · obtain ⟨zi, hzi⟩ : ∃ zi : Int, ((min (g1 args k n + gsz args a) 100001 : Nat) : Int) = zi := ⟨_, rfl⟩
              have hd3 : decide (100000 < zi) = true := by rw [decide_eq_true_eq]; omega
              have e2 := HE.out
              rw [if_neg hroom] at e2
              obtain ⟨rfl, rfl, rfl, rfl⟩ : 3 = E ∧ 0 = K ∧ 0 = Nn ∧ X.nil = A := by simpa using e2
              rw [hzi]
              clear HE HRP e2 hzi hroom hR1
              go_wp2_with fail
              exact bodyPost_ret (v := .tuple #[.agg #[.int .i64 0, .int .i64 0, .slice none 0 0], .int .i64 3]) (by simp [results, Try.results30, go_sem, r1, r2, r3]) rfl ⟨none, 0, rfl, ownX_nil _ _ _, below_set3 _ _ _ HV4.out.2.2 (by omega)⟩

end Go.Proofs.Ytlgfaobbjnhfoaa
