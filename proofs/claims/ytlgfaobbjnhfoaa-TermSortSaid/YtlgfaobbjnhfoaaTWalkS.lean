/-
  The walks of the reference's Symbols, Is and Check, and of the place that the statements hand on. Conditions: none but that the place lies in memory.
-/
import Derived.Test.YtlgfaobbjnhfoaaTWalkM
set_option linter.unusedSimpArgs false
set_option linter.unusedVariables false
namespace Go.Proofs.Ytlgfaobbjnhfoaa
open Go.RowKit

theorem toList_inj {s t : ByteArray} (h : s.toList = t.toList) : s = t := by
  rw [ByteArray.toList_eq, ByteArray.toList_eq] at h
  apply ByteArray.ext
  exact Array.toList_inj.1 h

theorem dup_yes {S : Sy} {i j : Nat} (h : j < i) (he : S.nm j = S.nm i) : dup S i = true := by
  unfold dup
  exact List.any_eq_true.2 ⟨j, List.mem_range.2 h, by simp [he]⟩

theorem dup_no {S : Sy} {i : Nat} (h : ∀ j, j < i → S.nm j ≠ S.nm i) : dup S i = false := by
  unfold dup
  rw [List.any_eq_false]
  intro j hj
  simpa using h j (List.mem_range.1 hj)

set_option maxRecDepth 100000 in
set_option maxHeartbeats 4000000 in
theorem refsymbols_any (S : Sy) (w : World) (p : Option Addr) (n cap : Nat) (his : IsS w S p n cap) :
    Calls Try.prog 70 #[.slice p n cap] w fun e w' => e = .returned (.bool (symsOk S)) ∧ Below w.heap.size w w' := by
  obtain ⟨hn, hcap, hmax, hnil, hrow⟩ := his
  subst hn
  unfold maxLen at hmax
  by_cases h24 : S.len ≤ 24
  · obtain ⟨r, hr⟩ : ∃ r, symsOk S = r := ⟨_, rfl⟩
    rw [hr]
    have hr2 : symFrom S S.len 0 = r := by rw [← hr]; unfold symsOk; rw [decide_eq_true h24]; rfl
    have HR := Lib.hid hr2
    clear hr hr2
    go_enter Try.func70, Try.ntmps70
    go_wp2_with fail
    go_loopw [12] (fun i wr => ∃ j : Nat, j ≤ S.len ∧ i = .int .i64 (j : Int) ∧ symFrom S (S.len - j) j = r ∧ Below w.heap.size w wr)
      (fun i _ => S.len - (intOf i).toNat)
    case atStart => exact ⟨0, Nat.zero_le _, rfl, HR.out, Below.refl _ _⟩
    case round =>
      obtain ⟨j, hj, rfl, hmo, hb⟩ := hrel
      have HM := Lib.hid hmo
      clear hmo
      by_cases hlt : j < S.len
      · rcases hrow with h0 | ⟨b, off, rfl, hr⟩
        · omega
        have hc1 := (hr j hlt).1
        have hc2 := (hr j hlt).2
        have hlb := lt_of_cell hc1
        have g1 := ((bcell hb).1 _ _ hlb).trans hc1
        have g2 := ((bcell hb).1 _ _ hlb).trans hc2
        have hz := hb.size
        clear hc1 hc2
        have hsf : symFrom S (S.len - j) j = (symOk S j && symFrom S (S.len - (j + 1)) (j + 1)) := by
          rw [show S.len - j = (S.len - (j + 1)) + 1 by omega]; rfl
        rw [HM.out] at hsf
        unfold symOk at hsf
        have hdy := fun k (h : k < j) (he : S.nm k = S.nm j) => dup_yes h he
        have hdn := fun (h : ∀ k, k < j → S.nm k ≠ S.nm j) => dup_no h
        generalize dup S j = d at hsf hdy hdn
        generalize S.nm j = s at g1 hsf hdy hdn
        generalize S.rk j = rk at g2 hsf
        have HS := Lib.hid hsf
        have HY := Lib.hid hdy
        have HN := Lib.hid hdn
        have hrr := fun k (h : k < j) => (hr k (by omega))
        have HRR := Lib.hid hrr
        clear hsf hdy hdn HM hr hrr
        go_wp2_with fail
        refine (name_any s _).mono ?_
        rintro e w2 ⟨rfl, rfl⟩
        have hbx := heap_new wr (.cells #[.string s, .int .i64 rk] 66)
        have hb3 := hb.alloc hb.size (.cells #[.string s, .int .i64 rk] 66)
        have HBX := Lib.hid hbx
        clear hbx
        cases hnm : nm s with
        | false =>
          go_wp2_with fail
          go_ret
          exact ⟨ret_bool (by rw [HS.out, hnm]; rfl), hb3⟩
        | true =>
          cases h1 : decide (rk < 0) with
          | true =>
            go_wp2_with fail
            go_ret
            exact ⟨ret_bool (by rw [HS.out, hnm, h1]; simp), hb3⟩
          | false =>
            cases h2 : decide (4 < rk) with
            | true =>
              go_wp2_with fail
              go_ret
              exact ⟨ret_bool (by rw [HS.out, hnm, h1, h2]; simp), hb3⟩
            | false =>
              have hS2 := HS.out
              rw [hnm, h1, h2] at hS2
              have HS2 := Lib.hid hS2
              clear HS hS2
              go_wp2_with fail
              generalize wr.heap.size = bb at HBX hz ⊢
              clear g1 g2 hnm h1 h2
              have HB3 := Lib.hid hb3
              clear hb hb3
              go_loopw [35] (fun i wq => ∃ k : Nat, k ≤ j ∧ i = .int .i64 (k : Int) ∧ (∀ k', k' < k → S.nm k' ≠ s) ∧ wq.heap[bb]? = some (.cells #[.string s, .int .i64 rk] 66 (0, 0)) ∧ Below w.heap.size w wq)
                (fun i _ => j - (intOf i).toNat)
              case atStart => exact ⟨0, Nat.zero_le _, rfl, fun k' h => absurd h (Nat.not_lt_zero _), HBX.out, HB3.out⟩
              case round =>
                clear HBX HB3
                obtain ⟨k, hk, rfl, hne, hbx, hb⟩ := hrel
                have HNE := Lib.hid hne
                have HBX := Lib.hid hbx
                have y1 : ∀ o, (wr.alloc o).cell? ⟨bb, 0, none⟩ = some (.string s) := fun o => (keep_alloc _ o _ _ (lt_of_block hbx)).trans (by simp [World.cell?, hbx])
                clear hne hbx
                by_cases hlt2 : k < j
                · have q1 := ((bcell hb).1 _ _ (lt_of_cell (HRR.out k hlt2).1)).trans (HRR.out k hlt2).1
                  have q2 := ((bcell hb).1 _ _ (lt_of_cell (HRR.out k hlt2).2)).trans (HRR.out k hlt2).2
                  have hb4 := hb.alloc hb.size (.cells #[.string (S.nm k), .int .i64 (S.rk k)] 66)
                  by_cases he : S.nm k = s
                  · have hd := HY.out k hlt2 he
                    subst hd
                    have hd1 : (s.toList == (S.nm k).toList) = true := by simp [he]
                    clear he HY HN HNE HBX
                    generalize S.nm k = t at q1 hd1 hb4
                    generalize S.rk k = rt at q2 hb4
                    go_wp2_with fail
                    go_ret
                    exact ⟨ret_bool (by rw [HS2.out]; simp), hb4⟩
                  · have hd1 : (s.toList == (S.nm k).toList) = false := by
                      rw [beq_eq_false_iff_ne]
                      exact fun h => he (toList_inj h).symm
                    have hne2 : ∀ k', k' < k + 1 → S.nm k' ≠ s := by
                      intro k' hk'
                      by_cases hkk : k' = k
                      · subst hkk; exact he
                      · exact HNE.out k' (by omega)
                    have HNE2 := Lib.hid hne2
                    have hbx2 := alloc_kept HBX.out (.cells #[.string (S.nm k), .int .i64 (S.rk k)] 66)
                    clear he HNE hne2
                    generalize S.nm k = t at q1 hd1 hb4 hbx2
                    generalize S.rk k = rt at q2 hb4 hbx2
                    go_wp2_with fail
                    go_roundw
                    case rel => exact ⟨k + 1, by omega, by go_num, HNE2.out, hbx2, hb4⟩
                    case measure => simp [intOf]; omega
                · obtain rfl : k = j := by omega
                  have hd := HN.out HNE.out
                  subst hd
                  clear y1 HBX
                  go_wp2_with fail
                  go_roundw
                  case rel => exact ⟨k + 1, by omega, by go_num, by rw [HS2.out]; simp, hb⟩
                  case measure => simp [intOf]; omega
      · go_wp2_with fail
        go_ret
        exact ⟨ret_bool (by rw [← HM.out, show S.len - j = 0 by omega]; rfl), hb⟩
  · have e1 : symsOk S = false := by unfold symsOk; rw [decide_eq_false h24]; rfl
    rw [e1]
    clear e1
    go_enter Try.func70, Try.ntmps70
    go_wp2_with fail
    go_ret
    exact ⟨rfl, Below.refl _ _⟩

set_option maxRecDepth 100000 in
set_option maxHeartbeats 4000000 in
theorem refis_any (x : Pl) (a : At3) (w : World) (h : IsP w x a) :
    Calls Try.prog 37 #[.agg #[.slice a.sp a.sn a.sc, .slice a.fp a.fn a.fc, .slice a.pp a.pn a.pc]] w fun e w' => e = .returned (.bool (plOk x)) ∧ Below w.heap.size w w' := by
  obtain ⟨h1, h2, h3⟩ := h
  obtain ⟨sp, sn, sc, fp, fn, fc, pp, pn, pc⟩ := a
  dsimp only at h1 h2 h3 ⊢
  obtain ⟨hfn, hfcap, hfmax, hfnil, hfrow⟩ := h2
  obtain ⟨hpn, hpcap, hpmax, hpnil, hprow⟩ := h3
  subst hfn hpn
  unfold maxLen at hfmax hpmax
  obtain ⟨r, hr⟩ : ∃ r, plOk x = r := ⟨_, rfl⟩
  rw [hr]
  unfold plOk at hr
  obtain ⟨b1, hb1⟩ : ∃ b1, symsOk x.S = b1 := ⟨_, rfl⟩
  have HSY := refsymbols_any x.S
  rw [hb1] at hr HSY
  have HR := Lib.hid hr
  have HSy := Lib.hid HSY
  clear hr hb1 HSY
  go_enter Try.func37, Try.ntmps37
  go_wp2_with fail
  refine (HSy.out _ _ _ _ (h1.alloc _)).mono ?_
  rintro e w1 ⟨rfl, hb1⟩
  obtain ⟨y1, y2, y3⟩ := boxP_cells (a := ⟨sp, sn, sc, fp, x.F.len, fc, pp, x.P.len, pc⟩) (box3_later hb1 (heap_new w (At3.box ⟨sp, sn, sc, fp, x.F.len, fc, pp, x.P.len, pc⟩ 25)))
  dsimp only at y1 y2 y3
  have B1 := below_call hb1
  have hbox := box3_later hb1 (heap_new w (At3.box ⟨sp, sn, sc, fp, x.F.len, fc, pp, x.P.len, pc⟩ 25))
  have HBX := Lib.hid hbox
  clear hb1 hbox h1 HSy
  cases b1 with
  | false =>
    go_wp2_with fail
    go_ret
    exact ⟨ret_bool (by rw [← HR.out]; rfl), B1⟩
  | true =>
    by_cases h64 : x.F.len ≤ 64
    case neg =>
      have e : r = false := by rw [← HR.out]; unfold validL; rw [decide_eq_false h64]; rfl
      subst e
      go_wp2_with fail
      go_ret
      exact ⟨rfl, B1⟩
    case pos =>
      by_cases h8 : x.P.len ≤ 8
      case neg =>
        have e : r = false := by rw [← HR.out]; unfold validL; rw [decide_eq_false h8]; simp
        subst e
        go_wp2_with fail
        go_ret
        exact ⟨rfl, B1⟩
      case pos =>
        have e : r = (allV x.F && allV x.P) := by rw [← HR.out]; unfold validL; rw [decide_eq_true h64, decide_eq_true h8]; simp
        have HE := Lib.hid e
        clear HR e
        go_wp2_with fail
        have HB1 := Lib.hid B1
        clear B1 y1 y2 y3
        go_loopw [26] (fun i wr => ∃ j : Nat, j ≤ x.F.len ∧ i = .int .i64 (j : Int) ∧ allV (x.F.drop j) = allV x.F ∧ wr.heap[w.heap.size]? = some (At3.box ⟨sp, sn, sc, fp, x.F.len, fc, pp, x.P.len, pc⟩ 25) ∧ Below w.heap.size w wr)
          (fun i _ => x.F.len - (intOf i).toNat)
        case atStart => exact ⟨0, Nat.zero_le _, rfl, by rw [T.drop_zero], HBX.out, HB1.out⟩
        case round =>
          clear HBX HB1
          obtain ⟨j, hj, rfl, hmo, hbx, hb⟩ := hrel
          have HM := Lib.hid hmo
          have HBX := Lib.hid hbx
          clear hmo hbx
          by_cases hlt : j < x.F.len
          · rcases hfrow with h0 | ⟨b, off, rfl, hr⟩
            · omega
            obtain ⟨p', n', cap', hc, hi⟩ := base_at (Keeps.below hb) hr hlt
            have hst := allV_drop x.F j hlt
            rw [HM.out] at hst
            have his := is_any (x.F.get j) _ p' n' cap' (hi.alloc (.cells #[.slice p' n' cap'] 40))
            generalize (x.F.get j).valid = v at hst his
            have HS := Lib.hid hst
            clear hst hr
            go_wp2_with fail
            refine his.mono ?_
            rintro e w2 ⟨rfl, hb2⟩
            have B2 := base_next hb hb2
            have bx2 := box3_later (below_call hb2) HBX.out
            clear hb2
            cases v with
            | true =>
              go_wp2_with fail
              go_roundw
              case rel => exact ⟨j + 1, by omega, by go_num, by rw [HS.out]; simp, bx2, B2⟩
              case measure => simp [intOf]; omega
            | false =>
              go_wp2_with fail
              go_ret
              exact ⟨ret_bool (by rw [HE.out, HS.out]; rfl), B2⟩
          · have hF : allV x.F = true := by rw [← HM.out, T.drop_end x.F j (by omega)]; rfl
            have e2 := HE.out
            rw [hF] at e2
            have HE2 := Lib.hid e2
            obtain ⟨y1, y2, y3⟩ := boxP_cells HBX.out
            dsimp only at y1 y2 y3
            have HB := Lib.hid hb
            clear HE e2 hF HM
            go_wp2_with fail
            clear hb HBX y1 y2 y3 hfrow
            go_loopw [37] (fun i wr => ∃ j : Nat, j ≤ x.P.len ∧ i = .int .i64 (j : Int) ∧ allV (x.P.drop j) = allV x.P ∧ Below w.heap.size w wr)
              (fun i _ => x.P.len - (intOf i).toNat)
            case atStart => exact ⟨0, Nat.zero_le _, rfl, by rw [T.drop_zero], HB.out⟩
            case round =>
              clear HB
              obtain ⟨j2, hj2, rfl, hmo, hb⟩ := hrel
              have HM := Lib.hid hmo
              clear hmo
              by_cases hlt2 : j2 < x.P.len
              · rcases hprow with h0 | ⟨b, off, rfl, hr⟩
                · omega
                obtain ⟨p', n', cap', hc, hi⟩ := base_at (Keeps.below hb) hr hlt2
                have hst := allV_drop x.P j2 hlt2
                rw [HM.out] at hst
                have his := is_any (x.P.get j2) _ p' n' cap' (hi.alloc (.cells #[.slice p' n' cap'] 40))
                generalize (x.P.get j2).valid = v at hst his
                have HS := Lib.hid hst
                clear hst hr
                go_wp2_with fail
                refine his.mono ?_
                rintro e w2 ⟨rfl, hb2⟩
                have B2 := base_next hb hb2
                clear hb2
                cases v with
                | true =>
                  go_wp2_with fail
                  go_roundw
                  case rel => exact ⟨j2 + 1, by omega, by go_num, by rw [HS.out]; simp, B2⟩
                  case measure => simp [intOf]; omega
                | false =>
                  go_wp2_with fail
                  go_ret
                  exact ⟨ret_bool (by rw [HE2.out, HS.out]; rfl), B2⟩
              · have hP : allV x.P = true := by rw [← HM.out, T.drop_end x.P j2 (by omega)]; rfl
                have e3 := HE2.out
                rw [hP] at e3
                subst e3
                clear HE2 hP HM
                go_wp2_with fail
                go_ret
                exact ⟨rfl, hb⟩

set_option maxRecDepth 100000 in
set_option maxHeartbeats 800000 in
theorem placecheck_any (x : Pl) (a : At3) (w : World) (h : IsP w x a) :
    Calls Try.prog 16 #[.agg #[.slice a.sp a.sn a.sc, .slice a.fp a.fn a.fc, .slice a.pp a.pn a.pc]] w fun e w' => e = .returned (.int .i64 (plE x)) ∧ Below w.heap.size w w' := by
  have hI := fun W h => refis_any x a W h
  unfold plE
  generalize plOk x = r at hI ⊢
  have HI := Lib.hid hI
  clear hI
  go_enter Try.func16, Try.ntmps16
  go_wp2_with fail
  refine (HI.out _ (h.alloc _)).mono ?_
  rintro e w1 ⟨rfl, hb1⟩
  have B1 := below_call hb1
  clear hb1
  cases r with
  | true =>
    go_wp2_with fail
    go_ret
    exact ⟨rfl, B1⟩
  | false =>
    go_wp2_with fail
    go_ret
    exact ⟨rfl, B1⟩

set_option maxRecDepth 100000 in
set_option maxHeartbeats 800000 in
theorem given_any (a : At3) (w : World) :
    Calls Try.prog 15 #[.agg #[.slice a.sp a.sn a.sc, .slice a.fp a.fn a.fc, .slice a.pp a.pn a.pc]] w fun e w' => e = .returned (.agg #[.slice a.sp a.sn a.sc, .slice a.fp a.fn a.fc, .slice a.pp a.pn a.pc]) ∧ Below w.heap.size w w' := by
  obtain ⟨sp, sn, sc, fp, fn, fc, pp, pn, pc⟩ := a
  dsimp only
  have b0 : ∀ o1 o2, Below w.heap.size w ((w.alloc o1).alloc o2) := fun o1 o2 => ((Below.refl _ _).alloc (Nat.le_refl _) _).alloc (by simp) _
  go_enter Try.func15, Try.ntmps15
  go_wp2_with fail
  exact bodyPost_ret (v := .agg #[.slice sp sn sc, .slice fp fn fc, .slice pp pn pc]) (by simp [results, Try.results15, go_sem]) rfl ⟨rfl, b0 _ _⟩

end Go.Proofs.Ytlgfaobbjnhfoaa
