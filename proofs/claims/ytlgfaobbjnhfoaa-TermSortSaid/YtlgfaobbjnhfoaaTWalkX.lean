/-
  The walk of the reference's head. Conditions: none but that the place lies in memory and its symbols are valid.
-/
import Derived.Test.YtlgfaobbjnhfoaaTWalkN
import Derived.Test.YtlgfaobbjnhfoaaTWalkS
set_option linter.unusedSimpArgs false
set_option linter.unusedVariables false
namespace Go.Proofs.Ytlgfaobbjnhfoaa
open Go.RowKit

set_option maxRecDepth 100000 in
set_option maxHeartbeats 1600000 in
theorem refhead_any (x : Pl) (a : At3) (k n : Int) (w0 w : World) (p : Option Addr) (l cap : Nat) (h : Holds w0 x a w) (hS : symsOk x.S = true) :
    Calls Try.prog 79 #[.agg #[.slice a.sp a.sn a.sc, .slice a.fp a.fn a.fc, .slice a.pp a.pn a.pc], .agg #[.int .i64 k, .int .i64 n, .slice p l cap]] w (Gives w0 (hdT x k n).1 (hdT x k n).2 w) := by
  obtain ⟨⟨s1, s2, s3, s4, s5⟩, ⟨f1, f2, f3, f4, f5⟩, ⟨p1, p2, p3, p4, p5⟩⟩ := h.isP
  unfold maxLen at s3 f3 p3
  have hb3 := below3 w
  by_cases hn : n < 0
  · have e1 : hdT x k n = (.nil, false) := by unfold hdT; rw [if_pos hn]
    have hd : decide (n < 0) = true := by simpa using hn
    rw [e1]
    clear e1 hn
    go_enter Try.func79, Try.ntmps79
    go_wp2_with fail
    exact bodyPost_ret (v := .tuple #[.agg #[.slice none 0 0], .bool false]) (by simp [results, Try.results79, go_sem]) rfl ⟨none, 0, rfl, stays_nil _ _ _, (hb3 _ _ _)⟩
  · obtain ⟨i, rfl⟩ : ∃ i : Nat, n = (i : Int) := ⟨n.toNat, by omega⟩
    have hnn : decide ((i : Int) < 0) = false := by simp
    by_cases hk0 : k = 0
    · have d0 : (k == 0) = true := by simp [hk0]
      have d1 : (k == 1) = false := by simp [hk0]
      have d2 : (k == 2) = false := by simp [hk0]
      by_cases hi : i < x.P.len
      · have hd := hi
        rcases p5 with h0 | ⟨b, off, hpe, hr⟩
        · omega
        obtain ⟨p', n', cap', hc, hit⟩ := hr.at (i := i) (by omega)
        obtain ⟨hcw, hlb⟩ := h.cell hc
        have e1 : hdT x k (i : Int) = (x.P.get i, true) := by unfold hdT; rw [if_neg hn, if_pos hk0, if_pos (by omega)]; rfl
        rw [e1]
        have C := fun x y z => (keep3 w x y z b (off + i) hlb).trans hcw
        obtain rfl := hit.1
        clear e1 hn
        go_enter Try.func79, Try.ntmps79
        go_wp2_with fail
        exact bodyPost_ret (v := .tuple #[.agg #[.slice p' (x.P.get i).len cap'], .bool true]) (by simp [results, Try.results79, go_sem]) rfl ⟨p', cap', rfl, stays_old h (hb3 _ _ _) hit, (hb3 _ _ _)⟩
      · have hd : ¬ ((i : Int) < (x.P.len : Int)) := by omega
        have e1 : hdT x k (i : Int) = (.nil, false) := by unfold hdT; rw [if_neg hn, if_pos hk0, if_neg (by omega)]
        rw [e1]
        clear e1 hn
        go_enter Try.func79, Try.ntmps79
        go_wp2_with fail
        exact bodyPost_ret (v := .tuple #[.agg #[.slice none 0 0], .bool false]) (by simp [results, Try.results79, go_sem]) rfl ⟨none, 0, rfl, stays_nil _ _ _, (hb3 _ _ _)⟩
    · have d0 : (k == 0) = false := by simp [hk0]
      by_cases hk1 : k = 1
      · have d1 : (k == 1) = true := by simp [hk1]
        have d2 : (k == 2) = false := by simp [hk1]
        by_cases hi : i < x.F.len
        · have hd := hi
          rcases f5 with h0 | ⟨b, off, hpe, hr⟩
          · omega
          obtain ⟨p', n', cap', hc, hit⟩ := hr.at (i := i) (by omega)
          obtain ⟨hcw, hlb⟩ := h.cell hc
          have e1 : hdT x k (i : Int) = (x.F.get i, true) := by unfold hdT; rw [if_neg hn, if_neg hk0, if_pos hk1, if_pos (by omega)]; rfl
          rw [e1]
          have C := fun x y z => (keep3 w x y z b (off + i) hlb).trans hcw
          obtain rfl := hit.1
          clear e1 hn
          go_enter Try.func79, Try.ntmps79
          go_wp2_with fail
          exact bodyPost_ret (v := .tuple #[.agg #[.slice p' (x.F.get i).len cap'], .bool true]) (by simp [results, Try.results79, go_sem]) rfl ⟨p', cap', rfl, stays_old h (hb3 _ _ _) hit, (hb3 _ _ _)⟩
        · have hd : ¬ ((i : Int) < (x.F.len : Int)) := by omega
          have e1 : hdT x k (i : Int) = (.nil, false) := by unfold hdT; rw [if_neg hn, if_neg hk0, if_pos hk1, if_neg (by omega)]
          rw [e1]
          clear e1 hn
          go_enter Try.func79, Try.ntmps79
          go_wp2_with fail
          exact bodyPost_ret (v := .tuple #[.agg #[.slice none 0 0], .bool false]) (by simp [results, Try.results79, go_sem]) rfl ⟨none, 0, rfl, stays_nil _ _ _, (hb3 _ _ _)⟩
      · have d1 : (k == 1) = false := by simp [hk1]
        by_cases hk2 : k = 2
        · have d2 : (k == 2) = true := by simp [hk2]
          by_cases hi : i < x.S.len
          · rcases s5 with h0 | ⟨b, off, hpe, hr⟩
            · omega
            have hc := (hr i hi).2
            obtain ⟨r0, r4⟩ := symsOk_rank hS hi
            have e1 : hdT x k (i : Int) = (repT (x.S.rk i).toNat, true) := by unfold hdT; rw [if_neg hn, if_neg hk0, if_neg hk1, if_pos hk2, if_pos (by omega)]; rfl
            obtain ⟨r, hr'⟩ : ∃ r : Nat, x.S.rk i = (r : Int) := ⟨(x.S.rk i).toNat, by omega⟩
            rw [hr'] at hc r4 e1
            rw [e1]
            obtain ⟨hcw, hlb⟩ := h.cell hc
            have C := fun x y z => (keep3 w x y z b (off + i * 2 + 1) hlb).trans hcw
            have hmk := run_make_sorts r (by omega)
            clear e1 hn
            go_enter Try.func79, Try.ntmps79
            go_wp2_with fail
            refine bodyPost_ret (v := .tuple #[.agg #[.slice (some ⟨w.heap.size + 1 + 1 + 1, 0, none⟩) r r], .bool true]) (by simp [results, Try.results79, go_sem]) rfl ⟨some ⟨w.heap.size + 1 + 1 + 1, 0, none⟩, r, by rw [repT_len]; rfl, ?_, ?_⟩
            · intro w'' hw
              exact isT_made ((hw _ (Or.inr (by omega)) (by simp)).trans (heap4 _ _ _ _ _).2.2.2) (by omega)
            · exact (hb3 _ _ _).alloc (by simp only [World.size_alloc]; omega) _
          · have hd : ¬ ((i : Int) < (x.S.len : Int)) := by omega
            have e1 : hdT x k (i : Int) = (.nil, false) := by unfold hdT; rw [if_neg hn, if_neg hk0, if_neg hk1, if_pos hk2, if_neg (by omega)]
            rw [e1]
            clear e1 hn
            go_enter Try.func79, Try.ntmps79
            go_wp2_with fail
            exact bodyPost_ret (v := .tuple #[.agg #[.slice none 0 0], .bool false]) (by simp [results, Try.results79, go_sem]) rfl ⟨none, 0, rfl, stays_nil _ _ _, (hb3 _ _ _)⟩
        · have d2 : (k == 2) = false := by simp [hk2]
          have e1 : hdT x k (i : Int) = (.nil, false) := by unfold hdT; rw [if_neg hn, if_neg hk0, if_neg hk1, if_neg hk2]
          rw [e1]
          clear e1 hn
          go_enter Try.func79, Try.ntmps79
          go_wp2_with fail
          exact bodyPost_ret (v := .tuple #[.agg #[.slice none 0 0], .bool false]) (by simp [results, Try.results79, go_sem]) rfl ⟨none, 0, rfl, stays_nil _ _ _, (hb3 _ _ _)⟩

end Go.Proofs.Ytlgfaobbjnhfoaa
