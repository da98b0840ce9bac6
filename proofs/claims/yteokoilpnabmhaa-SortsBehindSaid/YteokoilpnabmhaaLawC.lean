/-
  The walk of the statement on Behind. Conditions: none but that the sort lies in memory.
-/
import Derived.Test.YteokoilpnabmhaaLawB
namespace Go.Proofs.Yteokoilpnabmhaa
open Go.RowKit

theorem is_bool (t : T) (b : Bool) (hv : t.valid = b) (w : World) (p : Option Addr) (n cap : Nat) (his : IsT w t p n cap) :
    Calls Try.prog 28 #[.agg #[.slice p n cap]] w fun e w' => e = .returned (.bool b) ∧ Below w.heap.size w w' := by
  have := is_any t w p n cap his
  rwa [hv] at this

set_option maxHeartbeats 400000 in
theorem refbehind_bad (t : T) (w : World) (p : Option Addr) (n cap : Nat) (k : Int) (his : IsT w t p n cap) (hv : t.valid = false) :
    Calls Try.prog 23 #[.agg #[.slice p n cap], .int .i64 k] w fun e w' => e = .returned (.tuple #[.agg #[.slice none 0 0], .int .i64 6]) ∧ Below w.heap.size w w' := by
  go_enter Try.func23, Try.ntmps23
  go_wp2_with fail
  refine (is_bool t false hv _ p n cap ((his.alloc _).alloc _)).mono ?_
  rintro e w1 ⟨rfl, hb1⟩
  obtain ⟨hc1, hf1⟩ := bcell hb1
  have hb : Below w.heap.size w w1 := (((Below.refl w.heap.size w).alloc (Nat.le_refl _) _).alloc (by simp) _).trans (hb1.mono (by simp; omega))
  have hr1 : w1.cell? ⟨w.heap.size + 1, 0, none⟩ = some (.slice none 0 0) := by rw [hc1 _ _ (by simp)]; simp
  go_wp2_with fail
  refine bodyPost_ret (v := .tuple #[.agg #[.slice none 0 0], .int .i64 6]) (by simp [results, Try.results23, go_sem, hr1]) rfl ⟨rfl, hb.setCell (by simp) _⟩

set_option maxHeartbeats 400000 in
theorem refbehind_arg (t : T) (w : World) (p : Option Addr) (n cap : Nat) (k : Int) (his : IsT w t p n cap) (hv : t.valid = true) (hk : k < 0 ∨ (n : Int) < k) :
    Calls Try.prog 23 #[.agg #[.slice p n cap], .int .i64 k] w fun e w' => e = .returned (.tuple #[.agg #[.slice none 0 0], .int .i64 2]) ∧ Below w.heap.size w w' := by
  rcases hk with hk | hk
  all_goals
    go_enter Try.func23, Try.ntmps23
    go_wp2_with fail
    refine (is_bool t true hv _ p n cap ((his.alloc _).alloc _)).mono ?_
    rintro e w1 ⟨rfl, hb1⟩
    obtain ⟨hc1, hf1⟩ := bcell hb1
    have hb : Below w.heap.size w w1 := (((Below.refl w.heap.size w).alloc (Nat.le_refl _) _).alloc (by simp) _).trans (hb1.mono (by simp; omega))
    have hr1 : w1.cell? ⟨w.heap.size + 1, 0, none⟩ = some (.slice none 0 0) := by rw [hc1 _ _ (by simp)]; simp
    by_cases h0 : 0 ≤ k
    all_goals
      first
      | omega
      | (go_wp2_with fail
         refine bodyPost_ret (v := .tuple #[.agg #[.slice none 0 0], .int .i64 2]) (by simp [results, Try.results23, go_sem, hr1]) rfl ⟨rfl, hb.setCell (by simp) _⟩)

set_option maxHeartbeats 400000 in
theorem refbehind_ok (t : T) (w : World) (p : Option Addr) (n cap k : Nat) (his : IsT w t p n cap) (hv : t.valid = true) (hk : k ≤ n) :
    Calls Try.prog 23 #[.agg #[.slice p n cap], .int .i64 (k : Int)] w fun e w' => ∃ q c, e = .returned (.tuple #[.agg #[.slice q (t.drop k).len c], .int .i64 0]) ∧ Own w' (t.drop k) q c w.heap.size w'.heap.size ∧ Below w.heap.size w w' := by
  have h60 := t.valid_nodes hv
  have h60' := T.nodes_drop_le t k
  have hcap := his.2.1
  have hmax := his.2.2.1
  unfold maxLen at hmax
  have hck : k < cap ∨ k = cap := by omega
  rcases hck with hck | rfl
  · go_enter Try.func23, Try.ntmps23
    go_wp2_with fail
    refine (is_bool t true hv _ p n cap ((his.alloc _).alloc _)).mono ?_
    rintro e w1 ⟨rfl, hb1⟩
    have hi1 := (((his.alloc _).alloc _).below hb1).drop hk
    rw [if_neg (by omega)] at hi1
    have HI := Lib.hid hi1
    clear hi1
    obtain ⟨hc1, hf1⟩ := bcell hb1
    have hb : Below w.heap.size w w1 := (((Below.refl w.heap.size w).alloc (Nat.le_refl _) _).alloc (by simp) _).trans (hb1.mono (by simp; omega))
    have hz1 := hb1.size
    simp only [World.size_alloc] at hz1
    go_wp2_with fail
    refine (copy_any (t.drop k).nodes (t.drop k) _ _ _ _ (Nat.le_refl _) (by omega) HI.out).mono ?_
    rintro e w2 ⟨q, c, rfl, hO, hb2⟩
    have hr1 : w2.cell? ⟨w.heap.size + 1, 0, none⟩ = some (.slice none 0 0) := by rw [(bcell hb2).1 _ _ (by omega), hc1 _ _ (by simp)]; simp
    have hr2 : w2.frozen? ⟨w.heap.size + 1, 0, none⟩ = false := by rw [(bcell hb2).2 _ _ (by omega), hf1 _ _ (by simp)]; simp
    go_wp2_with fail
    refine bodyPost_ret (v := .tuple #[.agg #[.slice q (t.drop k).len c], .int .i64 0]) (by simp [results, Try.results23, go_sem, hr1]) rfl ⟨q, c, rfl, ?_, (hb.trans (hb2.mono hb.size)).setCell (by simp) _⟩
    have := (hO.set (a := ⟨w.heap.size + 1, 0, none⟩) (show w.heap.size + 1 < w1.heap.size by omega) (.slice q (t.drop k).len c)).mono (lo' := w.heap.size) (by omega) (Nat.le_refl _)
    simpa [World.setCell] using this
  · go_enter Try.func23, Try.ntmps23
    go_wp2_with fail
    refine (is_bool t true hv _ p n k ((his.alloc _).alloc _)).mono ?_
    rintro e w1 ⟨rfl, hb1⟩
    have hi1 := (((his.alloc _).alloc _).below hb1).drop hk
    rw [if_pos rfl, show n - k = 0 by omega, Nat.sub_self] at hi1
    have HI := Lib.hid hi1
    clear hi1
    obtain ⟨hc1, hf1⟩ := bcell hb1
    have hb : Below w.heap.size w w1 := (((Below.refl w.heap.size w).alloc (Nat.le_refl _) _).alloc (by simp) _).trans (hb1.mono (by simp; omega))
    have hz1 := hb1.size
    simp only [World.size_alloc] at hz1
    go_wp2_with fail
    refine (copy_any (t.drop k).nodes (t.drop k) _ _ _ _ (Nat.le_refl _) (by omega) HI.out).mono ?_
    rintro e w2 ⟨q, c, rfl, hO, hb2⟩
    have hr1 : w2.cell? ⟨w.heap.size + 1, 0, none⟩ = some (.slice none 0 0) := by rw [(bcell hb2).1 _ _ (by omega), hc1 _ _ (by simp)]; simp
    have hr2 : w2.frozen? ⟨w.heap.size + 1, 0, none⟩ = false := by rw [(bcell hb2).2 _ _ (by omega), hf1 _ _ (by simp)]; simp
    go_wp2_with fail
    refine bodyPost_ret (v := .tuple #[.agg #[.slice q (t.drop k).len c], .int .i64 0]) (by simp [results, Try.results23, go_sem, hr1]) rfl ⟨q, c, rfl, ?_, (hb.trans (hb2.mono hb.size)).setCell (by simp) _⟩
    have := (hO.set (a := ⟨w.heap.size + 1, 0, none⟩) (show w.heap.size + 1 < w1.heap.size by omega) (.slice q (t.drop k).len c)).mono (lo' := w.heap.size) (by omega) (Nat.le_refl _)
    simpa [World.setCell] using this

theorem refbehind_any (t : T) (w : World) (p : Option Addr) (n cap : Nat) (k : Int) (his : IsT w t p n cap) :
    Calls Try.prog 23 #[.agg #[.slice p n cap], .int .i64 k] w fun e w' => ∃ q c, e = .returned (.tuple #[.agg #[.slice q (t.bT k).len c], .int .i64 (t.bE k)]) ∧ Own w' (t.bT k) q c w.heap.size w'.heap.size ∧ Below w.heap.size w w' := by
  have hn := his.1
  cases hv : t.valid with
  | false =>
    have e1 : t.bT k = .nil := by simp [T.bT, hv]
    have e2 : t.bE k = 6 := by simp [T.bE, hv]
    rw [e1, e2]
    exact (refbehind_bad t w p n cap k his hv).mono fun _ w' ⟨h1, h2⟩ => ⟨none, 0, h1, own_nil w' _ _, h2⟩
  | true =>
    by_cases hk : 0 ≤ k ∧ k ≤ t.len
    · have e1 : t.bT k = t.drop k.toNat := by simp [T.bT, hv, hk]
      have e2 : t.bE k = 0 := by simp [T.bE, hv, hk]
      rw [e1, e2]
      have := refbehind_ok t w p n cap k.toNat his hv (by omega)
      rwa [show ((k.toNat : Nat) : Int) = k by omega] at this
    · have e1 : t.bT k = .nil := by unfold T.bT; rw [if_neg (fun h => hk h.2)]
      have e2 : t.bE k = 2 := by unfold T.bE; rw [if_pos hv, if_neg hk]
      rw [e1, e2]
      exact (refbehind_arg t w p n cap k his hv (by omega)).mono fun _ w' ⟨h1, h2⟩ => ⟨none, 0, h1, own_nil w' _ _, h2⟩

theorem T.bT_nodes (t : T) (k : Int) : (t.bT k).nodes ≤ 60 := by
  unfold T.bT
  split
  · rename_i h
    have := t.valid_nodes h.1
    have := t.nodes_drop_le k.toNat
    omega
  · simp [T.nodes]

set_option maxHeartbeats 800000 in
theorem law_behind (t : T) (w : World) (p : Option Addr) (n cap : Nat) (k : Int) (his : IsT w t p n cap) :
    Calls Try.prog 6 #[.agg #[.slice p n cap], .int .i64 k] w fun e w' => e = .returned (.bool true) ∧ Below w.heap.size w w' := by
  have h60 := t.bT_nodes k
  have hB := fun W h => behind_any t W p n cap k h
  have hR := fun W h => refbehind_any t W p n cap k h
  generalize t.bT k = u at h60 hB hR
  generalize t.bE k = oe at hB hR
  have hS := fun W q n c q' n' c' h h' => refsame_any u u W q q' n c n' c' h h'
  rw [show T.same u u = true by simp [T.same, h60, T.eqT_refl]] at hS
  have HB := Lib.hid hB
  have HR := Lib.hid hR
  have HS := Lib.hid hS
  clear hB hR hS h60
  go_enter Try.func6, Try.ntmps6
  go_wp2_with fail
  refine (HB.out _ (his.alloc _)).mono ?_
  rintro e w1 ⟨q, c, rfl, hO, hb1⟩
  obtain ⟨hc1, hf1⟩ := bcell hb1
  have hz1 := hb1.size
  simp only [World.size_alloc] at hz1
  have hwl : w.heap.size < w1.heap.size := by omega
  have i1 := (his.alloc _).below hb1
  go_wp2_with fail
  refine (HR.out _ (i1.alloc _)).mono ?_
  rintro e w2 ⟨q2, c2, rfl, hO2, hb2⟩
  obtain ⟨hc2, hf2⟩ := bcell hb2
  have hz2 := hb2.size
  simp only [World.size_alloc] at hz2
  have hwl2 : w1.heap.size < w2.heap.size := by omega
  have j2 := ((hO.isT.alloc (.cells #[.slice q u.len c] 24)).below hb2).alloc (.cells #[.slice q2 u.len c2] 24)
  go_wp2_with fail
  refine (HS.out _ _ _ _ _ _ _ j2 (hO2.isT.alloc _)).mono ?_
  rintro e w3 ⟨rfl, hb3⟩
  go_wp2_with fail
  refine (alive_any _).mono ?_
  rintro e w4 ⟨rfl, hb4⟩
  go_wp2_with fail
  go_ret
  have x3 := base_next (base_next (below_call hb1) hb2) hb3
  exact ⟨rfl, x3.trans (hb4.mono x3.size)⟩

end Go.Proofs.Yteokoilpnabmhaa
