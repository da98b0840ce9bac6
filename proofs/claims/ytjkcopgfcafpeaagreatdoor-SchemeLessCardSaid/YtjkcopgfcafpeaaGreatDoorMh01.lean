/-
  Parts of one proof, laid into one text: TPlainO, TWalkS, TWalkX, TWalkY. Conditions: each part names its own.
-/
import Derived.Test.YtjkcopgfcafpeaaGreatDoorMg20

/-
  Plain mathematics of the sort of a term: the reference's recursion says the same as the program's one pass over all terms in it. Conditions: the place is a valid one.
-/
set_option linter.unusedSimpArgs false
set_option linter.unusedVariables false
namespace Go.Proofs.YtjkcopgfcafpeaaGreatDoor
open Go.RowKit

/-- do the arguments have sorts, those that stand in H from place i on? -/
def ofA (x : Pl) : X → T → Nat → Bool
  | .nil, _, _ => true
  | .cons k n a r, H, i => (((rsT x k n a.len).2 && ofA x a (hdT x k n).1 0) && T.eqT (rsT x k n a.len).1 (H.get i)) && ofA x r H (i + 1)

theorem ofA_drop (x : Pl) (H : T) (a : X) (j : Nat) (h : j < a.len) :
    ofA x (a.drop j) H j = ((((rsT x (a.gk j) (a.gn j) (a.ga j).len).2 && ofA x (a.ga j) (hdT x (a.gk j) (a.gn j)).1 0) && T.eqT (rsT x (a.gk j) (a.gn j) (a.ga j).len).1 (H.get j)) && ofA x (a.drop (j + 1)) H (j + 1)) := by
  rw [X.drop_cons a j h]; rfl

/-- the sort of a term, and whether it has one -/
def ofR (x : Pl) (k n : Int) (a : X) : T × Bool := if ((rsT x k n a.len).2 && ofA x a (hdT x k n).1 0) = true then ((rsT x k n a.len).1, true) else (.nil, false)

theorem T.get_end (t : T) : ∀ i, t.len ≤ i → t.get i = .nil := by
  induction t with
  | nil => intro i _; cases i <;> rfl
  | cons h t ihh iht =>
    intro i hi
    cases i with
    | zero => simp only [T.len] at hi; omega
    | succ i => exact iht i (by simp only [T.len] at hi; omega)

theorem T.get_nodes (t : T) (i : Nat) (h : t.nodes ≤ 60) : (t.get i).nodes ≤ 60 := by
  by_cases hi : i < t.len
  · have := t.nodes_get i hi; omega
  · rw [T.get_end t i (by omega)]; simp [T.nodes]

theorem T.drop_valid (t : T) (k : Nat) (h : t.valid = true) : (t.drop k).valid = true := by
  simp only [T.valid, T.few, Bool.and_eq_true, decide_eq_true_eq] at h ⊢
  obtain ⟨⟨h1, h2⟩, h3, h4⟩ := h
  have := t.nodes_drop_le k
  have := t.ord_drop_le k
  have := t.len_drop k
  exact ⟨⟨by omega, by omega⟩, by omega, t.kids_drop_of k h4⟩

theorem repT_valid (r : Nat) (h : r ≤ 4) : (repT r).valid = true := by
  match r, h with
  | 0, _ => rfl
  | 1, _ => rfl
  | 2, _ => rfl
  | 3, _ => rfl
  | 4, _ => rfl

theorem hdT_valid {x : Pl} (hp : plOk x = true) (k n : Int) : (hdT x k n).1.valid = true := by
  have hS := plOk_syms hp
  simp only [plOk, validL, Bool.and_eq_true] at hp
  obtain ⟨⟨_, _, hF⟩, _, hP⟩ := hp
  unfold hdT
  split
  · rfl
  · split
    · split
      · exact allV_at hP (by omega)
      · rfl
    · split
      · split
        · exact allV_at hF (by omega)
        · rfl
      · split
        · split
          · have := symsOk_rank hS (i := n.toNat) (by omega)
            exact repT_valid _ (by omega)
          · rfl
        · rfl

theorem rsT_valid {x : Pl} (hp : plOk x = true) (k n : Int) (m : Nat) : (rsT x k n m).1.valid = true := by
  unfold rsT
  split
  · exact T.drop_valid _ _ (hdT_valid hp k n)
  · rfl

theorem same_eqT {s t : T} (h1 : s.nodes ≤ 60) (h2 : t.nodes ≤ 60) : T.same s t = T.eqT s t := by simp [T.same, h1, h2]

theorem ofA_eq {x : Pl} (hp : plOk x = true) (a : X) : ∀ (H : T) (i : Nat), H.nodes ≤ 60 → ofA x a H i = (sargs x H a i && allB (suit x) a) := by
  induction a with
  | nil => intro H i _; rfl
  | cons k n a r iha ihr =>
    intro H i hH
    have e1 := iha (hdT x k n).1 0 (T.valid_nodes _ (hdT_valid hp k n))
    have e2 := ihr H (i + 1) hH
    have e3 : T.same (rsT x k n a.len).1 (H.get i) = T.eqT (rsT x k n a.len).1 (H.get i) := same_eqT (T.valid_nodes _ (rsT_valid hp k n _)) (T.get_nodes H i hH)
    simp only [ofA, sargs, allB, e1, e2, e3, suit]
    cases (rsT x k n a.len).2 <;> cases sargs x (hdT x k n).1 a 0 <;> cases allB (suit x) a <;> cases T.eqT (rsT x k n a.len).1 (H.get i) <;> cases sargs x H r (i + 1) <;> cases allB (suit x) r <;> rfl

/-- what Sort returns, by the reference's words -/
theorem sortRes_of (x : Pl) (k n : Int) (a : X) : sortRes x k n a = if plOk x = true then if a.sz < 100000 then if (ofR x k n a).2 = true then (0, (ofR x k n a).1) else (6, .nil) else (3, .nil) else (2, .nil) := by
  unfold sortRes
  by_cases hp : plOk x = true
  · rw [if_pos hp, if_pos hp]
    by_cases hs : a.sz < 100000
    · rw [if_pos hs, if_pos hs]
      have e1 := ofA_eq hp a (hdT x k n).1 0 (T.valid_nodes _ (hdT_valid hp k n))
      have e2 : ((rsT x k n a.len).2 && ofA x a (hdT x k n).1 0) = (suit x k n a && allB (suit x) a) := by rw [e1]; unfold suit; rw [Bool.and_assoc]
      have hv := rsT_valid hp k n a.len
      unfold ofR
      rw [e2]
      by_cases h : (suit x k n a && allB (suit x) a) = true
      · rw [if_pos h, if_pos h, if_pos rfl]
        have e3 : (rsT x k n a.len).1.bE 0 = 0 := by unfold T.bE; rw [if_pos hv, if_pos ⟨Int.le_refl _, by omega⟩]
        have e4 : (rsT x k n a.len).1.bT 0 = (rsT x k n a.len).1 := by unfold T.bT; rw [if_pos ⟨hv, Int.le_refl _, by omega⟩]; exact T.drop_zero _
        rw [e3, e4]
      · rw [if_neg h, if_neg h, if_neg (by simp)]
    · rw [if_neg hs, if_neg hs]
  · rw [if_neg hp, if_neg hp]

theorem sortRes_valid {x : Pl} {k n : Int} {a : X} {E : Int} {S : T} (h : sortRes x k n a = (E, S)) : S.valid = true := by
  rw [sortRes_of] at h
  split at h
  · rename_i hp
    split at h
    · split at h
      · have e := (Prod.mk.inj h).2
        rw [← e]
        unfold ofR
        split
        · exact rsT_valid hp _ _ _
        · rfl
      · rw [← (Prod.mk.inj h).2]; rfl
    · rw [← (Prod.mk.inj h).2]; rfl
  · rw [← (Prod.mk.inj h).2]; rfl

end Go.Proofs.YtjkcopgfcafpeaaGreatDoor

/-
  The walks of the reference's Symbols, Is and Check, and of the place that the statements hand on. Conditions: none but that the place lies in memory.
-/
set_option linter.unusedSimpArgs false
set_option linter.unusedVariables false
namespace Go.Proofs.YtjkcopgfcafpeaaGreatDoor
open Go.RowKit

theorem toList_inj {s t : ByteArray} (h : s.toList = t.toList) : s = t := by
  rw [ByteArray.toList_eq, ByteArray.toList_eq] at h
  apply ByteArray.ext
  exact Array.toList_inj.1 h

theorem dup_yes {S : Sy} {i j : Nat} (h : j < i) (he : S.nm j = S.nm i) : dup S i = true := by
  unfold dup
  exact List.any_eq_true.2 ⟨j, List.mem_range.2 h, by simp [he]⟩

theorem dup_no {S : Sy} {i : Nat} (h : ∀ j, j < i → S.nm j ≠ S.nm i) : dup S i = false := by
  unfold dup
  rw [List.any_eq_false]
  intro j hj
  simpa using h j (List.mem_range.1 hj)

set_option maxRecDepth 100000 in
set_option maxHeartbeats 4000000 in
theorem refsymbols_any (S : Sy) (w : World) (p : Option Addr) (n cap : Nat) (his : IsS w S p n cap) :
    Calls Tryz.prog 36 #[.slice p n cap] w fun e w' => e = .returned (.bool (symsOk S)) ∧ Below w.heap.size w w' := by
  obtain ⟨hn, hcap, hmax, hnil, hrow⟩ := his
  subst hn
  unfold maxLen at hmax
  by_cases h24 : S.len ≤ 24
  · obtain ⟨r, hr⟩ : ∃ r, symsOk S = r := ⟨_, rfl⟩
    rw [hr]
    have hr2 : symFrom S S.len 0 = r := by rw [← hr]; unfold symsOk; rw [decide_eq_true h24]; rfl
    have HR := Lib.hid hr2
    clear hr hr2
    go_enter Tryz.func36, Tryz.ntmps36
    go_wp2_with fail
    go_loopw [12] (fun i wr => ∃ j : Nat, j ≤ S.len ∧ i = .int .i64 (j : Int) ∧ symFrom S (S.len - j) j = r ∧ Below w.heap.size w wr)
      (fun i _ => S.len - (intOf i).toNat)
    case atStart => exact ⟨0, Nat.zero_le _, rfl, HR.out, Below.refl _ _⟩
    case round =>
      obtain ⟨j, hj, rfl, hmo, hb⟩ := hrel
      have HM := Lib.hid hmo
      clear hmo
      by_cases hlt : j < S.len
      · rcases hrow with h0 | ⟨b, off, rfl, hr⟩
        · omega
        have hc1 := (hr j hlt).1
        have hc2 := (hr j hlt).2
        have hlb := lt_of_cell hc1
        have g1 := ((bcell hb).1 _ _ hlb).trans hc1
        have g2 := ((bcell hb).1 _ _ hlb).trans hc2
        have hz := hb.size
        clear hc1 hc2
        have hsf : symFrom S (S.len - j) j = (symOk S j && symFrom S (S.len - (j + 1)) (j + 1)) := by
          rw [show S.len - j = (S.len - (j + 1)) + 1 by omega]; rfl
        rw [HM.out] at hsf
        unfold symOk at hsf
        have hdy := fun k (h : k < j) (he : S.nm k = S.nm j) => dup_yes h he
        have hdn := fun (h : ∀ k, k < j → S.nm k ≠ S.nm j) => dup_no h
        generalize dup S j = d at hsf hdy hdn
        generalize S.nm j = s at g1 hsf hdy hdn
        generalize S.rk j = rk at g2 hsf
        have HS := Lib.hid hsf
        have HY := Lib.hid hdy
        have HN := Lib.hid hdn
        have hrr := fun k (h : k < j) => (hr k (by omega))
        have HRR := Lib.hid hrr
        clear hsf hdy hdn HM hr hrr
        go_wp2_with fail
        refine (name_any s _).mono ?_
        rintro e w2 ⟨rfl, rfl⟩
        have hbx := heap_new wr (.cells #[.string s, .int .i64 rk] 64)
        have hb3 := hb.alloc hb.size (.cells #[.string s, .int .i64 rk] 64)
        have HBX := Lib.hid hbx
        clear hbx
        cases hnm : nm s with
        | false =>
          go_wp2_with fail
          go_ret
          exact ⟨ret_bool (by rw [HS.out, hnm]; rfl), hb3⟩
        | true =>
          cases h1 : decide (rk < 0) with
          | true =>
            go_wp2_with fail
            go_ret
            exact ⟨ret_bool (by rw [HS.out, hnm, h1]; simp), hb3⟩
          | false =>
            cases h2 : decide (4 < rk) with
            | true =>
              go_wp2_with fail
              go_ret
              exact ⟨ret_bool (by rw [HS.out, hnm, h1, h2]; simp), hb3⟩
            | false =>
              have hS2 := HS.out
              rw [hnm, h1, h2] at hS2
              have HS2 := Lib.hid hS2
              clear HS hS2
              go_wp2_with fail
              generalize wr.heap.size = bb at HBX hz ⊢
              clear g1 g2 hnm h1 h2
              have HB3 := Lib.hid hb3
              clear hb hb3
              go_loopw [35] (fun i wq => ∃ k : Nat, k ≤ j ∧ i = .int .i64 (k : Int) ∧ (∀ k', k' < k → S.nm k' ≠ s) ∧ wq.heap[bb]? = some (.cells #[.string s, .int .i64 rk] 64 (0, 0)) ∧ Below w.heap.size w wq)
                (fun i _ => j - (intOf i).toNat)
              case atStart => exact ⟨0, Nat.zero_le _, rfl, fun k' h => absurd h (Nat.not_lt_zero _), HBX.out, HB3.out⟩
              case round =>
                clear HBX HB3
                obtain ⟨k, hk, rfl, hne, hbx, hb⟩ := hrel
                have HNE := Lib.hid hne
                have HBX := Lib.hid hbx
                have y1 : ∀ o, (wr.alloc o).cell? ⟨bb, 0, none⟩ = some (.string s) := fun o => (keep_alloc _ o _ _ (lt_of_block hbx)).trans (by simp [World.cell?, hbx])
                clear hne hbx
                by_cases hlt2 : k < j
                · have q1 := ((bcell hb).1 _ _ (lt_of_cell (HRR.out k hlt2).1)).trans (HRR.out k hlt2).1
                  have q2 := ((bcell hb).1 _ _ (lt_of_cell (HRR.out k hlt2).2)).trans (HRR.out k hlt2).2
                  have hb4 := hb.alloc hb.size (.cells #[.string (S.nm k), .int .i64 (S.rk k)] 64)
                  by_cases he : S.nm k = s
                  · have hd := HY.out k hlt2 he
                    subst hd
                    have hd1 : (s.toList == (S.nm k).toList) = true := by simp [he]
                    clear he HY HN HNE HBX
                    generalize S.nm k = t at q1 hd1 hb4
                    generalize S.rk k = rt at q2 hb4
                    go_wp2_with fail
                    go_ret
                    exact ⟨ret_bool (by rw [HS2.out]; simp), hb4⟩
                  · have hd1 : (s.toList == (S.nm k).toList) = false := by
                      rw [beq_eq_false_iff_ne]
                      exact fun h => he (toList_inj h).symm
                    have hne2 : ∀ k', k' < k + 1 → S.nm k' ≠ s := by
                      intro k' hk'
                      by_cases hkk : k' = k
                      · subst hkk; exact he
                      · exact HNE.out k' (by omega)
                    have HNE2 := Lib.hid hne2
                    have hbx2 := alloc_kept HBX.out (.cells #[.string (S.nm k), .int .i64 (S.rk k)] 64)
                    clear he HNE hne2
                    generalize S.nm k = t at q1 hd1 hb4 hbx2
                    generalize S.rk k = rt at q2 hb4 hbx2
                    go_wp2_with fail
                    go_roundw
                    case rel => exact ⟨k + 1, by omega, by go_num, HNE2.out, hbx2, hb4⟩
                    case measure => simp [intOf]; omega
                · obtain rfl : k = j := by omega
                  have hd := HN.out HNE.out
                  subst hd
                  clear y1 HBX
                  go_wp2_with fail
                  go_roundw
                  case rel => exact ⟨k + 1, by omega, by go_num, by rw [HS2.out]; simp, hb⟩
                  case measure => simp [intOf]; omega
      · go_wp2_with fail
        go_ret
        exact ⟨ret_bool (by rw [← HM.out, show S.len - j = 0 by omega]; rfl), hb⟩
  · have e1 : symsOk S = false := by unfold symsOk; rw [decide_eq_false h24]; rfl
    rw [e1]
    clear e1
    go_enter Tryz.func36, Tryz.ntmps36
    go_wp2_with fail
    go_ret
    exact ⟨rfl, Below.refl _ _⟩

end Go.Proofs.YtjkcopgfcafpeaaGreatDoor

/-
  The walk of the reference's head. Conditions: none but that the place lies in memory and its symbols are valid.
-/
set_option linter.unusedSimpArgs false
set_option linter.unusedVariables false
namespace Go.Proofs.YtjkcopgfcafpeaaGreatDoor
open Go.RowKit

set_option maxRecDepth 100000 in
set_option maxHeartbeats 1600000 in
theorem refhead_any (x : Pl) (a : At3) (k n : Int) (w0 w : World) (p : Option Addr) (l cap : Nat) (h : Holds w0 x a w) (hS : symsOk x.S = true) :
    Calls Tryz.prog 107 #[.agg #[.slice a.sp a.sn a.sc, .slice a.fp a.fn a.fc, .slice a.pp a.pn a.pc], .agg #[.int .i64 k, .int .i64 n, .slice p l cap]] w (Gives w0 (hdT x k n).1 (hdT x k n).2 w) := by
  obtain ⟨⟨s1, s2, s3, s4, s5⟩, ⟨f1, f2, f3, f4, f5⟩, ⟨p1, p2, p3, p4, p5⟩⟩ := h.isP
  unfold maxLen at s3 f3 p3
  have hb3 := below3 w
  by_cases hn : n < 0
  · have e1 : hdT x k n = (.nil, false) := by unfold hdT; rw [if_pos hn]
    have hd : decide (n < 0) = true := by simpa using hn
    rw [e1]
    clear e1 hn
    go_enter Tryz.func107, Tryz.ntmps107
    go_wp2_with fail
    exact bodyPost_ret (v := .tuple #[.agg #[.slice none 0 0], .bool false]) (by simp [results, Tryz.results107, go_sem]) rfl ⟨none, 0, rfl, stays_nil _ _ _, (hb3 _ _ _)⟩
  · obtain ⟨i, rfl⟩ : ∃ i : Nat, n = (i : Int) := ⟨n.toNat, by omega⟩
    have hnn : decide ((i : Int) < 0) = false := by simp
    by_cases hk0 : k = 0
    · have d0 : (k == 0) = true := by simp [hk0]
      have d1 : (k == 1) = false := by simp [hk0]
      have d2 : (k == 2) = false := by simp [hk0]
      by_cases hi : i < x.P.len
      · have hd := hi
        rcases p5 with h0 | ⟨b, off, hpe, hr⟩
        · omega
        obtain ⟨p', n', cap', hc, hit⟩ := hr.at (i := i) (by omega)
        obtain ⟨hcw, hlb⟩ := h.cell hc
        have e1 : hdT x k (i : Int) = (x.P.get i, true) := by unfold hdT; rw [if_neg hn, if_pos hk0, if_pos (by omega)]; rfl
        rw [e1]
        have C := fun x y z => (keep3 w x y z b (off + i) hlb).trans hcw
        obtain rfl := hit.1
        clear e1 hn
        go_enter Tryz.func107, Tryz.ntmps107
        go_wp2_with fail
        exact bodyPost_ret (v := .tuple #[.agg #[.slice p' (x.P.get i).len cap'], .bool true]) (by simp [results, Tryz.results107, go_sem]) rfl ⟨p', cap', rfl, stays_old h (hb3 _ _ _) hit, (hb3 _ _ _)⟩
      · have hd : ¬ ((i : Int) < (x.P.len : Int)) := by omega
        have e1 : hdT x k (i : Int) = (.nil, false) := by unfold hdT; rw [if_neg hn, if_pos hk0, if_neg (by omega)]
        rw [e1]
        clear e1 hn
        go_enter Tryz.func107, Tryz.ntmps107
        go_wp2_with fail
        exact bodyPost_ret (v := .tuple #[.agg #[.slice none 0 0], .bool false]) (by simp [results, Tryz.results107, go_sem]) rfl ⟨none, 0, rfl, stays_nil _ _ _, (hb3 _ _ _)⟩
    · have d0 : (k == 0) = false := by simp [hk0]
      by_cases hk1 : k = 1
      · have d1 : (k == 1) = true := by simp [hk1]
        have d2 : (k == 2) = false := by simp [hk1]
        by_cases hi : i < x.F.len
        · have hd := hi
          rcases f5 with h0 | ⟨b, off, hpe, hr⟩
          · omega
          obtain ⟨p', n', cap', hc, hit⟩ := hr.at (i := i) (by omega)
          obtain ⟨hcw, hlb⟩ := h.cell hc
          have e1 : hdT x k (i : Int) = (x.F.get i, true) := by unfold hdT; rw [if_neg hn, if_neg hk0, if_pos hk1, if_pos (by omega)]; rfl
          rw [e1]
          have C := fun x y z => (keep3 w x y z b (off + i) hlb).trans hcw
          obtain rfl := hit.1
          clear e1 hn
          go_enter Tryz.func107, Tryz.ntmps107
          go_wp2_with fail
          exact bodyPost_ret (v := .tuple #[.agg #[.slice p' (x.F.get i).len cap'], .bool true]) (by simp [results, Tryz.results107, go_sem]) rfl ⟨p', cap', rfl, stays_old h (hb3 _ _ _) hit, (hb3 _ _ _)⟩
        · have hd : ¬ ((i : Int) < (x.F.len : Int)) := by omega
          have e1 : hdT x k (i : Int) = (.nil, false) := by unfold hdT; rw [if_neg hn, if_neg hk0, if_pos hk1, if_neg (by omega)]
          rw [e1]
          clear e1 hn
          go_enter Tryz.func107, Tryz.ntmps107
          go_wp2_with fail
          exact bodyPost_ret (v := .tuple #[.agg #[.slice none 0 0], .bool false]) (by simp [results, Tryz.results107, go_sem]) rfl ⟨none, 0, rfl, stays_nil _ _ _, (hb3 _ _ _)⟩
      · have d1 : (k == 1) = false := by simp [hk1]
        by_cases hk2 : k = 2
        · have d2 : (k == 2) = true := by simp [hk2]
          by_cases hi : i < x.S.len
          · rcases s5 with h0 | ⟨b, off, hpe, hr⟩
            · omega
            have hc := (hr i hi).2
            obtain ⟨r0, r4⟩ := symsOk_rank hS hi
            have e1 : hdT x k (i : Int) = (repT (x.S.rk i).toNat, true) := by unfold hdT; rw [if_neg hn, if_neg hk0, if_neg hk1, if_pos hk2, if_pos (by omega)]; rfl
            obtain ⟨r, hr'⟩ : ∃ r : Nat, x.S.rk i = (r : Int) := ⟨(x.S.rk i).toNat, by omega⟩
            rw [hr'] at hc r4 e1
            rw [e1]
            obtain ⟨hcw, hlb⟩ := h.cell hc
            have C := fun x y z => (keep3 w x y z b (off + i * 2 + 1) hlb).trans hcw
            have hmk := run_make_sorts r (by omega)
            clear e1 hn
            go_enter Tryz.func107, Tryz.ntmps107
            go_wp2_with fail
            refine bodyPost_ret (v := .tuple #[.agg #[.slice (some ⟨w.heap.size + 1 + 1 + 1, 0, none⟩) r r], .bool true]) (by simp [results, Tryz.results107, go_sem]) rfl ⟨some ⟨w.heap.size + 1 + 1 + 1, 0, none⟩, r, by rw [repT_len]; rfl, ?_, ?_⟩
            · intro w'' hw
              exact isT_made ((hw _ (Or.inr (by omega)) (by simp)).trans (heap4 _ _ _ _ _).2.2.2) (by omega)
            · exact (hb3 _ _ _).alloc (by simp only [World.size_alloc]; omega) _
          · have hd : ¬ ((i : Int) < (x.S.len : Int)) := by omega
            have e1 : hdT x k (i : Int) = (.nil, false) := by unfold hdT; rw [if_neg hn, if_neg hk0, if_neg hk1, if_pos hk2, if_neg (by omega)]
            rw [e1]
            clear e1 hn
            go_enter Tryz.func107, Tryz.ntmps107
            go_wp2_with fail
            exact bodyPost_ret (v := .tuple #[.agg #[.slice none 0 0], .bool false]) (by simp [results, Tryz.results107, go_sem]) rfl ⟨none, 0, rfl, stays_nil _ _ _, (hb3 _ _ _)⟩
        · have d2 : (k == 2) = false := by simp [hk2]
          have e1 : hdT x k (i : Int) = (.nil, false) := by unfold hdT; rw [if_neg hn, if_neg hk0, if_neg hk1, if_neg hk2]
          rw [e1]
          clear e1 hn
          go_enter Tryz.func107, Tryz.ntmps107
          go_wp2_with fail
          exact bodyPost_ret (v := .tuple #[.agg #[.slice none 0 0], .bool false]) (by simp [results, Tryz.results107, go_sem]) rfl ⟨none, 0, rfl, stays_nil _ _ _, (hb3 _ _ _)⟩

end Go.Proofs.YtjkcopgfcafpeaaGreatDoor

/-
  The walk of the reference's Of: the sort of a term, if it has one. Conditions: the place is a valid one in memory, the term lies in memory.
-/
set_option linter.unusedSimpArgs false
set_option linter.unusedVariables false
namespace Go.Proofs.YtjkcopgfcafpeaaGreatDoor
open Go.RowKit

theorem of_stays {w0 w w1 wr w'' : World} {o x y z : Obj} {v : Value} (hle : w0.heap.size ≤ w.heap.size) (hz : w.heap.size + 3 ≤ w1.heap.size) (hb : Below (w1.alloc o).heap.size (w1.alloc o) wr)
    (hw : ∀ j, (j < w0.heap.size ∨ w.heap.size ≤ j) → j < (wr.setCell ⟨w.heap.size + 1 + 1, 0, none⟩ v).heap.size → w''.heap[j]? = (wr.setCell ⟨w.heap.size + 1 + 1, 0, none⟩ v).heap[j]?) :
    ∀ j, (j < w0.heap.size ∨ (((w.alloc x).alloc y).alloc z).heap.size ≤ j) → j < w1.heap.size → w''.heap[j]? = w1.heap[j]? := by
  intro j hj hlt
  have hs : (((w.alloc x).alloc y).alloc z).heap.size = w.heap.size + 3 := by simp
  rw [hs] at hj
  have hsz := hb.size
  simp only [World.size_alloc] at hsz
  rw [hw j (by omega) (by rw [setCell_size]; omega), Below.heap_setCell _ _ _ _ (by show j ≠ w.heap.size + 1 + 1; omega), hb.block j (by simp; omega), Below.heap_alloc _ _ _ hlt]

theorem ofR_no1 {x : Pl} {k n : Int} {a : X} (h : (rsT x k n a.len).2 = false) : ofR x k n a = (.nil, false) := by
  unfold ofR; rw [h]; rfl

theorem ofR_yes {x : Pl} {k n : Int} {a : X} {H : T} (h1 : hdT x k n = (H, true)) (h2 : a.len ≤ H.len) : ofR x k n a = if ofA x a H 0 = true then (H.drop a.len, true) else (.nil, false) := by
  have e : rsT x k n a.len = (H.drop a.len, true) := by unfold rsT; rw [h1]; rw [if_pos ⟨rfl, h2⟩]
  unfold ofR
  rw [e, h1]
  simp

set_option maxRecDepth 100000 in
set_option maxHeartbeats 6000000 in
theorem refof_any (x : Pl) (a3 : At3) (hp : plOk x = true) (w0 : World) (N : Nat) : ∀ (k n : Int) (a : X) (w : World) (p : Option Addr) (l cap : Nat), a.sz < N → Holds w0 x a3 w → IsX w a p l cap → a.sz < 4611686018427387904 →
    Calls Tryz.prog 66 #[.agg #[.slice a3.sp a3.sn a3.sc, .slice a3.fp a3.fn a3.fc, .slice a3.pp a3.pn a3.pc], .agg #[.int .i64 k, .int .i64 n, .slice p l cap]] w (Gives w0 (ofR x k n a).1 (ofR x k n a).2 w) := by
  have hS := plOk_syms hp
  induction N with
  | zero => intro k n a w p l cap hN; omega
  | succ N ih =>
    intro k n a w p l cap hN h his hl
    have IH := Lib.hid ih
    clear ih
    have hlen := a.len_le_sz
    obtain ⟨hn, hcap, hmax, hnil, hrow⟩ := id his
    subst hn
    unfold maxLen at hmax
    have hb3 := below3 w
    have hs3 : ∀ x y z, (((w.alloc x).alloc y).alloc z).heap.size = w.heap.size + 3 := by intro x y z; simp
    have hH := fun W h => refhead_any x a3 k n w0 W p a.len cap h hS
    obtain ⟨R, okR, hR⟩ : ∃ R okR, ofR x k n a = (R, okR) := ⟨_, _, rfl⟩
    obtain ⟨H, ok, hHe⟩ : ∃ H ok, hdT x k n = (H, ok) := ⟨_, _, rfl⟩
    have hno : (ok = false ∨ ¬ a.len ≤ H.len) → (R, okR) = (.nil, false) := fun hh => by
      rw [← hR]; apply ofR_no1; unfold rsT; rw [hHe, if_neg]; rintro ⟨e1, e2⟩; rcases hh with hh | hh
      · rw [hh] at e1; cases e1
      · exact hh e2
    have hye : ok = true → a.len ≤ H.len → (R, okR) = if ofA x a H 0 = true then (H.drop a.len, true) else (.nil, false) := fun e1 e2 => by
      subst e1; rw [← hR]; exact ofR_yes hHe e2
    rw [hR]
    rw [hHe] at hH
    dsimp only
    have HH := Lib.hid hH
    have HNO := Lib.hid hno
    have HYE := Lib.hid hye
    clear hH hHe hR hno hye
    cases ok with
    | false =>
      obtain ⟨rfl, rfl⟩ := Prod.mk.inj (HNO.out (Or.inl rfl))
      clear HNO HYE
      go_enter Tryz.func66, Tryz.ntmps66
      go_wp2_with fail
      refine (HH.out _ (((h.alloc _).alloc _).alloc _)).mono ?_
      rintro e w1 ⟨q, c, rfl, hi, hb1⟩
      obtain ⟨y0, y1, y2⟩ := heap3 w (a3.box 103) (.cells #[.int .i64 k, .int .i64 n, .slice p a.len cap] 50) (.cells #[.slice none 0 0] 47)
      have r1 := cell_box (box3_later hb1 y2)
      have f1 := free_of_one (box3_later hb1 y2)
      obtain ⟨t1, t2, t3⟩ := box3_cells (box3_later hb1 y1)
      have B := (hb3 _ _ _).trans (hb1.mono (by rw [hs3]; omega))
      have hz := hb1.size
      rw [hs3] at hz
      clear y0 y1 y2 hb1
      have A1 := fun o => (keep_alloc w1 o (w.heap.size + 1) 2 (by omega)).trans t3
      have A2 := fun o => (keep_alloc w1 o (w.heap.size + 1 + 1) 0 (by omega)).trans r1
      have A3 := fun o => ((bcell ((Below.refl w1.heap.size w1).alloc (Nat.le_refl _) o)).2 (w.heap.size + 1 + 1) 0 (by omega)).trans f1
      go_wp2_with fail
      refine bodyPost_ret (v := .tuple #[.agg #[.slice none 0 0], .bool false]) (by simp [results, Tryz.results66, go_sem, A2]) rfl ⟨none, 0, rfl, stays_nil _ _ _, ?_⟩
      exact (B.alloc (by omega) _).setCell (by simp; omega) _
    | true =>
      by_cases hle : a.len ≤ H.len
      case neg =>
        obtain ⟨rfl, rfl⟩ := Prod.mk.inj (HNO.out (Or.inr hle))
        clear HNO HYE
        have hd4 : decide (H.len < a.len) = true := by simp; omega
        go_enter Tryz.func66, Tryz.ntmps66
        go_wp2_with fail
        refine (HH.out _ (((h.alloc _).alloc _).alloc _)).mono ?_
        rintro e w1 ⟨q, c, rfl, hi, hb1⟩
        obtain ⟨y0, y1, y2⟩ := heap3 w (a3.box 103) (.cells #[.int .i64 k, .int .i64 n, .slice p a.len cap] 50) (.cells #[.slice none 0 0] 47)
        have r1 := cell_box (box3_later hb1 y2)
        have f1 := free_of_one (box3_later hb1 y2)
        obtain ⟨t1, t2, t3⟩ := box3_cells (box3_later hb1 y1)
        have B := (hb3 _ _ _).trans (hb1.mono (by rw [hs3]; omega))
        have hz := hb1.size
        rw [hs3] at hz
        clear y0 y1 y2 hb1
        have A1 := fun o => (keep_alloc w1 o (w.heap.size + 1) 2 (by omega)).trans t3
        have A2 := fun o => (keep_alloc w1 o (w.heap.size + 1 + 1) 0 (by omega)).trans r1
        have A3 := fun o => ((bcell ((Below.refl w1.heap.size w1).alloc (Nat.le_refl _) o)).2 (w.heap.size + 1 + 1) 0 (by omega)).trans f1
        go_wp2_with fail
        refine bodyPost_ret (v := .tuple #[.agg #[.slice none 0 0], .bool false]) (by simp [results, Tryz.results66, go_sem, A2]) rfl ⟨none, 0, rfl, stays_nil _ _ _, ?_⟩
        exact (B.alloc (by omega) _).setCell (by simp; omega) _
      case pos =>
        have hye := HYE.out rfl hle
        obtain ⟨r, hr0⟩ : ∃ r, ofA x a H 0 = r := ⟨_, rfl⟩
        rw [hr0] at hye
        have HRE := Lib.hid hr0
        have HY := Lib.hid hye
        clear HNO HYE hr0 hye
        go_enter Tryz.func66, Tryz.ntmps66
        go_wp2_with fail
        refine (HH.out _ (((h.alloc _).alloc _).alloc _)).mono ?_
        rintro e w1 ⟨q, c, rfl, hi, hb1⟩
        obtain ⟨y0, y1, y2⟩ := heap3 w (a3.box 103) (.cells #[.int .i64 k, .int .i64 n, .slice p a.len cap] 50) (.cells #[.slice none 0 0] 47)
        have y0 := box3_later hb1 y0
        have y1 := box3_later hb1 y1
        have y2 := box3_later hb1 y2
        have B := (hb3 (a3.box 103) (.cells #[.int .i64 k, .int .i64 n, .slice p a.len cap] 50) (.cells #[.slice none 0 0] 47)).trans (hb1.mono (by rw [hs3]; omega))
        have h1 := (((h.alloc _).alloc _).alloc _).below hb1
        have hz := hb1.size
        rw [hs3] at hz
        have i1 := hi.here
        have HI := Lib.hid hi
        have HH1 := Lib.hid h1
        have HI1 := Lib.hid i1
        have Y0 := Lib.hid y0
        have Y2 := Lib.hid y2
        have t3 := (box3_cells (alloc_kept y1 (.cells #[.slice q H.len c] 47))).2.2
        have s1 := cell_box (heap_new w1 (.cells #[.slice q H.len c] 47))
        have hd4 : decide (H.len < a.len) = false := by simp; omega
        have Y1 := Lib.hid y1
        clear y0 y1 y2 hb1 hi h1 i1
        go_wp2_with fail
        clear t3 s1 hd4
        go_loopw [33] (fun i wr => ∃ j : Nat, j ≤ a.len ∧ i = .int .i64 (j : Int) ∧ ofA x (a.drop j) H j = r ∧ Below (w1.alloc (.cells #[.slice q H.len c] 47)).heap.size (w1.alloc (.cells #[.slice q H.len c] 47)) wr)
          (fun i _ => a.len - (intOf i).toNat)
        case atStart => exact ⟨0, Nat.zero_le _, rfl, by rw [X.drop_zero]; exact HRE.out, Below.refl _ _⟩
        case round =>
          obtain ⟨j, hj, rfl, hmo, hb⟩ := hrel
          have HM := Lib.hid hmo
          have HBB := Lib.hid hb
          have bw : Below w.heap.size w wr := (B.alloc B.size _).trans (hb.mono (by simp; omega))
          have hzr := hb.size
          simp only [World.size_alloc] at hzr
          have q0 := box3_later hb (alloc_kept Y0.out _)
          have q1 := box3_later hb (alloc_kept Y1.out _)
          have q2 := box3_later hb (alloc_kept Y2.out _)
          have q3 := box3_later hb (heap_new w1 (.cells #[.slice q H.len c] 47))
          have hh : Holds w0 x a3 wr := (HH1.out.alloc _).below hb
          have hiq : IsT wr H q H.len c := (HI1.out.alloc _).below hb
          have Q0 := Lib.hid q0
          have Q1 := Lib.hid q1
          have Q2 := Lib.hid q2
          have Q3 := Lib.hid q3
          have QH := Lib.hid hh
          have QI := Lib.hid hiq
          clear hmo hb q0 q1 q2 q3 hh hiq
          by_cases hlt : j < a.len
          · rcases hrow with h0 | ⟨b, off, rfl, hr⟩
            · omega
            obtain ⟨hck, hcn, p', n', cap', hc, hi⟩ := base3_at (Keeps3.below bw (Nat.le_refl _)) hr hlt
            obtain rfl := hi.1
            have hg := a.sz_ga j hlt
            have hgl := (a.ga j).len_le_sz
            obtain ⟨x1, x2, x3⟩ := boxP_cells (alloc_kept Q0.out (.cells #[.int .i64 (a.gk j), .int .i64 (a.gn j), .slice p' (a.ga j).len cap'] 50))
            go_wp2_with fail
            refine (IH.out (a.gk j) (a.gn j) (a.ga j) _ p' _ cap' (by omega) (QH.out.alloc _) (hi.alloc _) (by omega)).mono ?_
            rintro e w3 ⟨q8, c8, rfl, hi8, hb8⟩
            have hst := ofA_drop x H a j hlt
            rw [HM.out] at hst
            have hof : ofR x (a.gk j) (a.gn j) (a.ga j) = if ((rsT x (a.gk j) (a.gn j) (a.ga j).len).2 && ofA x (a.ga j) (hdT x (a.gk j) (a.gn j)).1 0) = true then ((rsT x (a.gk j) (a.gn j) (a.ga j).len).1, true) else (.nil, false) := rfl
            generalize ((rsT x (a.gk j) (a.gn j) (a.ga j).len).2 && ofA x (a.ga j) (hdT x (a.gk j) (a.gn j)).1 0) = o8 at hst hof
            generalize (rsT x (a.gk j) (a.gn j) (a.ga j).len).1 = S8 at hst hof
            obtain ⟨R8, ok8, hR8⟩ : ∃ R8 ok8, ofR x (a.gk j) (a.gn j) (a.ga j) = (R8, ok8) := ⟨_, _, rfl⟩
            rw [hR8] at hi8 hof ⊢
            dsimp only at hi8 ⊢
            have HS := Lib.hid hst
            have HO := Lib.hid hof
            clear hst hof hR8 HM
            have z0 := box3_later (below_call hb8) Q2.out
            have z7 := box3_later (below_call hb8) Q3.out
            have z8 := QI.out.below (below_call hb8)
            have BW := HBB.out.trans ((below_call hb8).mono HBB.out.size)
            have bw3 := bw.trans ((below_call hb8).mono bw.size)
            have i8 := hi8.here
            have hz3 := (below_call hb8).size
            clear hi8 hb8
            have t10 := cell_box (heap_new w3 (.cells #[.slice q8 R8.len c8] 47))
            have z0' := alloc_kept z0 (.cells #[.slice q8 R8.len c8] 47)
            have z7' := alloc_kept z7 (.cells #[.slice q8 R8.len c8] 47)
            have z8' := z8.alloc (.cells #[.slice q8 R8.len c8] 47)
            have i8' := i8.alloc (.cells #[.slice q8 R8.len c8] 47)
            have BW' := BW.alloc BW.size (.cells #[.slice q8 R8.len c8] 47)
            have bw4 := bw3.alloc bw3.size (.cells #[.slice q8 R8.len c8] 47)
            have r1 := cell_box z0'
            have f1 := free_of_one z0'
            have t6 := cell_box z7'
            obtain ⟨_, hcH, hmH, _, hrH⟩ := id z8'
            unfold maxLen at hmH
            rcases hrH with h0 | ⟨bH, oH, rfl, hrH⟩
            · omega
            obtain ⟨pH, nH, cH, hcell, hiH⟩ := hrH.at (i := j) (by omega)
            obtain rfl := hiH.1
            have hjH : j < H.len := by omega
            have I8 := Lib.hid i8'
            have IHH := Lib.hid hiH
            have BW4 := Lib.hid BW'
            have bw4' := Lib.hid bw4
            clear z0 z7 z8 i8 BW bw3 z0' z7' z8' i8' hiH hrH BW' bw4 Q0 Q1 Q2 Q3 QH QI
            have hzz : w.heap.size + 1 + 1 < w3.heap.size + 1 := by omega
            cases ok8 with
            | false =>
              have ho8 : o8 = false := by
                have := HO.out
                cases o8 with
                | false => rfl
                | true => simp at this
              subst ho8
              go_wp2_with fail
              generalize (w3.alloc (.cells #[.slice q8 R8.len c8] 47)) = W4 at t10 t6 r1 f1 hcell I8 IHH BW4 bw4' ⊢
              clear t10 t6 hcell I8 IHH
              go_quiet (fail)
              go_wp2_with fail
              have hRR := HY.out
              rw [HS.out] at hRR
              obtain ⟨rfl, rfl⟩ := Prod.mk.inj (by simpa using hRR)
              refine bodyPost_ret (v := .tuple #[.agg #[.slice none 0 0], .bool false]) (by simp [results, Tryz.results66, go_sem, r1]) rfl ⟨none, 0, rfl, stays_nil _ _ _, ?_⟩
              exact (below_drewN bw4'.out _).setCell (by simp; omega) _
            | true =>
              have ho8 : o8 = true ∧ S8 = R8 := by
                have := HO.out
                cases o8 with
                | false => simp at this
                | true => simpa using this.symm
              obtain ⟨rfl, rfl⟩ := ho8
              have HB := fun W h h' => refequal_any S8.nodes S8 (H.get j) W q8 pH S8.len c8 (H.get j).len cH (Nat.le_refl _) h h'
              have hS8 := HS.out
              cases hsm : T.eqT S8 (H.get j) with
              | false =>
                rw [hsm] at HB hS8
                have HB' := Lib.hid HB
                have HS' := Lib.hid hS8
                clear HB hS8 HS HO
                go_wp2_with fail
                generalize (w3.alloc (.cells #[.slice q8 S8.len c8] 47)) = W4 at t10 t6 r1 f1 hcell I8 IHH BW4 bw4' ⊢
                go_still_tail 9, (by kernel_rfl)
                change wpList _ _ _ _ _ W4.drew
                go_wp2_with fail
                refine (HB'.out _ (I8.out.keeps (Keeps.drew _)) (IHH.out.keeps (Keeps.drew _))).mono ?_
                rintro e w5 ⟨rfl, hb5⟩
                have g1 := ((bcell hb5).1 (w.heap.size + 1 + 1) 0 (by have := bw4'.out.size; have := lt_of_cell r1; simpa using this)).trans r1
                have g2 := ((bcell hb5).2 (w.heap.size + 1 + 1) 0 (by have := bw4'.out.size; have := lt_of_cell r1; simpa using this)).trans f1
                clear t10 t6 r1 f1 hcell I8 IHH
                go_wp2_with fail
                have hRR := HY.out
                rw [HS'.out] at hRR
                obtain ⟨rfl, rfl⟩ := Prod.mk.inj (by simpa using hRR)
                refine bodyPost_ret (v := .tuple #[.agg #[.slice none 0 0], .bool false]) (by simp [results, Tryz.results66, go_sem, g1]) rfl ⟨none, 0, rfl, stays_nil _ _ _, ?_⟩
                exact (bw4'.out.drew.trans (hb5.mono bw4'.out.size)).setCell (by simp; omega) _
              | true =>
                rw [hsm] at HB hS8
                have HB' := Lib.hid HB
                have HS' := Lib.hid hS8
                clear HB hS8 HS HO
                go_wp2_with fail
                generalize (w3.alloc (.cells #[.slice q8 S8.len c8] 47)) = W4 at t10 t6 r1 f1 hcell I8 IHH BW4 bw4' ⊢
                go_still_tail 9, (by kernel_rfl)
                change wpList _ _ _ _ _ W4.drew
                go_wp2_with fail
                refine (HB'.out _ (I8.out.keeps (Keeps.drew _)) (IHH.out.keeps (Keeps.drew _))).mono ?_
                rintro e w5 ⟨rfl, hb5⟩
                have hb5' : Below W4.heap.size W4 w5 := (Below.refl _ _).drew.trans hb5
                have B5 := BW4.out.trans (hb5'.mono BW4.out.size)
                clear hb5 hb5' r1 f1 t10 t6 hcell I8 IHH
                go_wp2_with fail
                go_roundw
                case rel => exact ⟨j + 1, by omega, by go_num, by rw [HS'.out]; simp, B5⟩
                case measure => simp [intOf]; omega
          · have hmo := HM.out
            rw [X.drop_end a j (by omega)] at hmo
            have hr : r = true := by rw [← hmo]; rfl
            subst hr
            obtain ⟨rfl, rfl⟩ := Prod.mk.inj (show (R, okR) = (H.drop a.len, true) by have := HY.out; rwa [if_pos rfl] at this)
            have t3 := (box3_cells Q1.out).2.2
            have r1 := cell_box Q2.out
            have f1 := free_of_one Q2.out
            have s1 := cell_box Q3.out
            obtain ⟨_, hlc, hcm, _⟩ := id QI.out
            unfold maxLen at hcm
            clear hmo Q0 Q1 Q2 Q3 QH QI HM
            have hlz : w.heap.size + 1 + 1 < wr.heap.size := by omega
            have hck : a.len < c ∨ a.len = c := by omega
            have hd4 : decide (H.len < a.len) = false := by simp; omega
            rcases hck with hck | hck
            · go_wp2_with fail
              refine bodyPost_ret (v := .tuple #[.agg #[.slice (q.map (·.add a.len)) (H.len - a.len) (c - a.len)], .bool true]) (by simp [results, Tryz.results66, go_sem, r1]) rfl ⟨_, _, by rw [T.len_drop], ?_, bw.setCell (by simp; omega) _⟩
              intro w'' hw
              have h1 := (HI.out w'' (of_stays h.le hz HBB.out hw)).drop hle
              rw [if_neg (by omega), ← T.len_drop] at h1
              exact h1
            · go_wp2_with fail
              refine bodyPost_ret (v := .tuple #[.agg #[.slice q (H.len - a.len) (c - a.len)], .bool true]) (by simp [results, Tryz.results66, go_sem, r1]; omega) rfl ⟨_, _, by rw [T.len_drop, hck], ?_, bw.setCell (by simp; omega) _⟩
              intro w'' hw
              have h1 := (HI.out w'' (of_stays h.le hz HBB.out hw)).drop hle
              rw [if_pos hck.symm, ← T.len_drop] at h1
              rw [hck] at h1
              exact h1

end Go.Proofs.YtjkcopgfcafpeaaGreatDoor

