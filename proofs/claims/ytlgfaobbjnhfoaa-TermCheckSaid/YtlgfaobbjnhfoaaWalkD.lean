/-
  The walks of Size, Check and what is built on them. Conditions: none but that the sort lies in memory.
-/
import Derived.Test.YtlgfaobbjnhfoaaWalkC
namespace Go.Proofs.Ytlgfaobbjnhfoaa
open Go.RowKit

set_option maxHeartbeats 400000 in
theorem size_no (t : T) (w : World) (p : Option Addr) (n cap : Nat) (his : IsT w t p n cap) (h60 : ¬ t.nodes ≤ 60) :
    Calls Try.prog 92 #[.agg #[.slice p n cap]] w fun e w' => e = .returned (.tuple #[.int .i64 61, .int .i64 0]) ∧ Below w.heap.size w w' := by
  have hc := fun W h1 h2 => all_count t.nodes t W p n cap (w.heap.size + 1) 0 (Nat.le_refl _) h1 h2 (by omega)
  have HC := Lib.hid hc
  clear hc
  go_enter Try.func92, Try.ntmps92
  go_wp2_with fail
  refine (HC.out _ ((his.alloc _).alloc _) (heap_new2 _ _ _)).mono ?_
  rintro e w1 ⟨rfl, hb1⟩
  rw [Nat.zero_add] at hb1
  have hd : decide (0 + t.nodes ≤ 60) = false := by simpa using h60
  have c1 := cell_of_one hb1.2
  have c2 := free_of_one hb1.2
  go_wp2_with fail
  refine bodyPost_ret (v := .tuple #[.int .i64 61, .int .i64 0]) (by simp [results, Try.results92, go_sem, c1]) rfl ⟨rfl, ?_⟩
  have h1 : Below w.heap.size w w1 := (((Below.refl w.heap.size w).alloc (Nat.le_refl _) _).alloc (by simp) _).trans ((hb1.below (by simp)).mono (by omega))
  exact h1.setCell (by simp) _

set_option maxHeartbeats 400000 in
theorem size_yes (t : T) (w : World) (p : Option Addr) (n cap : Nat) (his : IsT w t p n cap) (h60 : t.nodes ≤ 60) :
    Calls Try.prog 92 #[.agg #[.slice p n cap]] w fun e w' => e = .returned (.tuple #[.int .i64 (t.nodes : Int), .int .i64 ((t.ord : Int) + 1)]) ∧ Below w.heap.size w w' := by
  have hc := fun W h1 h2 => all_count t.nodes t W p n cap (w.heap.size + 1) 0 (Nat.le_refl _) h1 h2 (by omega)
  have HC := Lib.hid hc
  clear hc
  go_enter Try.func92, Try.ntmps92
  go_wp2_with fail
  refine (HC.out _ ((his.alloc _).alloc _) (heap_new2 _ _ _)).mono ?_
  rintro e w1 ⟨rfl, hb1⟩
  rw [Nat.zero_add] at hb1
  have hd : decide (0 + t.nodes ≤ 60) = true := by simpa using h60
  rw [Nat.min_eq_left (by omega)] at hb1
  have c1 := cell_of_one hb1.2
  have c2 := free_of_one hb1.2
  have c3 : w1.cell? ⟨w.heap.size, 0, none⟩ = some (.slice p n cap) := Cnt.keeps (c0 := 0) (ty := 3) (heap_new2 _ _ _) hb1 _ _ _ _ _ (by simp)
  have hi1 : IsT w1 t p n cap := ((his.alloc _).alloc _).keeps (Cnt.keeps (c0 := 0) (ty := 3) (heap_new2 _ _ _) hb1)
  have hn := hb1.1.size
  simp only [World.size_alloc] at hn
  have h1 : Below w.heap.size w w1 := (((Below.refl w.heap.size w).alloc (Nat.le_refl _) _).alloc (by simp) _).trans ((hb1.below (by simp)).mono (by omega))
  clear hb1
  go_wp2_with fail
  go_region_with ((go_at_call 102; refine (high_any t.nodes t _ p n cap (Nat.le_refl _) h60 ?_).mono ?_; exact hi1.drew; rintro e w' ⟨rfl, hb2⟩; have q1 := (hb2.cell (p := ⟨w.heap.size + 1, 0, none⟩) hn).trans c1; have q2 := (hb2.frozen (p := ⟨w.heap.size + 1, 0, none⟩) hn).trans c2))
  all_goals go_wp2_with fail
  all_goals
    refine bodyPost_ret (v := .tuple #[.int .i64 (t.nodes : Int), .int .i64 ((t.ord : Int) + 1)]) (by simp [results, Try.results92, go_sem, q1]) rfl ⟨rfl, ?_⟩
    exact (h1.drew.trans (hb2.mono h1.size)).setCell (by simp) _

set_option maxHeartbeats 400000 in
theorem small_any (t : T) (w : World) (p : Option Addr) (n cap : Nat) (his : IsT w t p n cap) :
    Calls Try.prog 95 #[.agg #[.slice p n cap]] w fun e w' => e = .returned (.bool (decide (t.nodes ≤ 60))) ∧ Below w.heap.size w w' := by
  by_cases h60 : t.nodes ≤ 60
  · go_enter Try.func95, Try.ntmps95
    go_wp2_with fail
    refine (size_yes t _ p n cap (his.alloc _) h60).mono ?_
    rintro e w1 ⟨rfl, hb1⟩
    go_wp2_with fail
    go_ret
    exact ⟨ret_bool (by simp [h60]; omega), below_call hb1⟩
  · go_enter Try.func95, Try.ntmps95
    go_wp2_with fail
    refine (size_no t _ p n cap (his.alloc _) h60).mono ?_
    rintro e w1 ⟨rfl, hb1⟩
    go_wp2_with fail
    go_ret
    exact ⟨ret_bool (by simp [h60]), below_call hb1⟩

set_option maxHeartbeats 400000 in
theorem check_yes (t : T) (w : World) (p : Option Addr) (n cap : Nat) (his : IsT w t p n cap) (hv : t.valid = true) :
    Calls Try.prog 73 #[.agg #[.slice p n cap]] w fun e w' => e = .returned (.int .i64 0) ∧ Below w.heap.size w w' := by
  simp only [T.valid, Bool.and_eq_true, decide_eq_true_eq] at hv
  obtain ⟨⟨h60, h30⟩, hfew⟩ := hv
  go_enter Try.func73, Try.ntmps73
  go_wp2_with fail
  refine (size_yes t _ p n cap (his.alloc _) h60).mono ?_
  rintro e w1 ⟨rfl, hb1⟩
  obtain ⟨hc1, hf1⟩ := bcell hb1
  go_wp2_with fail
  refine (all_few t.nodes t _ p n cap (Nat.le_refl _) ((his.alloc _).below hb1)).mono ?_
  rintro e w2 ⟨rfl, hb2⟩
  go_wp2_with fail
  go_ret
  exact ⟨rfl, (below_call hb1).trans (hb2.mono (below_call hb1).size)⟩

set_option maxHeartbeats 400000 in
theorem check_no (t : T) (w : World) (p : Option Addr) (n cap : Nat) (his : IsT w t p n cap) (hv : t.valid = false) :
    Calls Try.prog 73 #[.agg #[.slice p n cap]] w fun e w' => e = .returned (.int .i64 6) ∧ Below w.heap.size w w' := by
  by_cases h60 : t.nodes ≤ 60
  case neg =>
    go_enter Try.func73, Try.ntmps73
    go_wp2_with fail
    refine (size_no t _ p n cap (his.alloc _) h60).mono ?_
    rintro e w1 ⟨rfl, hb1⟩
    go_wp2_with fail
    go_ret
    exact ⟨rfl, below_call hb1⟩
  by_cases h30 : t.ord + 1 ≤ 30
  case neg =>
    go_enter Try.func73, Try.ntmps73
    go_wp2_with fail
    refine (size_yes t _ p n cap (his.alloc _) h60).mono ?_
    rintro e w1 ⟨rfl, hb1⟩
    go_wp2_with fail
    go_ret
    exact ⟨rfl, below_call hb1⟩
  have hfew : t.few = false := by simpa [T.valid, h60, h30] using hv
  go_enter Try.func73, Try.ntmps73
  go_wp2_with fail
  refine (size_yes t _ p n cap (his.alloc _) h60).mono ?_
  rintro e w1 ⟨rfl, hb1⟩
  obtain ⟨hc1, hf1⟩ := bcell hb1
  go_wp2_with fail
  refine (all_few t.nodes t _ p n cap (Nat.le_refl _) ((his.alloc _).below hb1)).mono ?_
  rintro e w2 ⟨rfl, hb2⟩
  go_wp2_with fail
  go_ret
  exact ⟨rfl, (below_call hb1).trans (hb2.mono (below_call hb1).size)⟩

set_option maxHeartbeats 400000 in
theorem is_any (t : T) (w : World) (p : Option Addr) (n cap : Nat) (his : IsT w t p n cap) :
    Calls Try.prog 71 #[.agg #[.slice p n cap]] w fun e w' => e = .returned (.bool t.valid) ∧ Below w.heap.size w w' := by
  by_cases h60 : t.nodes ≤ 60
  case neg =>
    go_enter Try.func71, Try.ntmps71
    go_wp2_with fail
    refine (nodes_any t.nodes t _ p n cap 60 (Nat.le_refl _) (by omega) (by omega) (his.alloc _)).mono ?_
    rintro e w1 ⟨rfl, hb1⟩
    rw [Nat.min_eq_right (by omega)]
    go_wp2_with fail
    go_ret
    exact ⟨ret_bool (by simp [T.valid, h60]), below_call hb1⟩
  have hv : t.valid = (decide (t.ord + 1 ≤ 30) && t.few) := by simp [T.valid, h60]
  have HV := Lib.hid hv
  clear hv
  go_enter Try.func71, Try.ntmps71
  go_wp2_with fail
  refine (nodes_any t.nodes t _ p n cap 60 (Nat.le_refl _) (by omega) (by omega) (his.alloc _)).mono ?_
  rintro e w1 ⟨rfl, hb1⟩
  rw [Nat.min_eq_left (by omega)]
  obtain ⟨hc1, hf1⟩ := bcell hb1
  go_wp2_with fail
  refine (depth_any t.nodes t _ p n cap (Nat.le_refl _) h60 ((his.alloc _).below hb1)).mono ?_
  rintro e w2 ⟨rfl, hb2⟩
  have hb12 := (below_call hb1).trans (hb2.mono (below_call hb1).size)
  by_cases h30 : t.ord + 1 ≤ 30
  case neg =>
    go_wp2_with fail
    go_ret
    exact ⟨ret_bool (by rw [HV.out]; simp [h30]), hb12⟩
  have hcell2 : w2.cell? ⟨w.heap.size, 0, none⟩ = some (.slice p n cap) := by
    rw [(bcell hb2).1 _ _ (by have := hb1.size; simp only [World.size_alloc] at this; omega), hc1 _ _ (by simp)]; simp
  go_wp2_with fail
  refine (few_any t.nodes t _ p n cap (Nat.le_refl _) (((his.alloc _).below hb1).below hb2)).mono ?_
  rintro e w3 ⟨rfl, hb3⟩
  go_wp2_with fail
  go_ret
  exact ⟨ret_bool (by rw [HV.out]; simp [h30]), hb12.trans (hb3.mono hb12.size)⟩

/-- what Same returns -/
def T.same (s t : T) : Bool := decide (s.nodes ≤ 60) && (decide (t.nodes ≤ 60) && T.eqT s t)

set_option maxHeartbeats 400000 in
theorem same_any (s t : T) (w : World) (p q : Option Addr) (n cap m cap' : Nat) (his : IsT w s p n cap) (hit : IsT w t q m cap') :
    Calls Try.prog 77 #[.agg #[.slice p n cap], .agg #[.slice q m cap']] w fun e w' => e = .returned (.bool (T.same s t)) ∧ Below w.heap.size w w' := by
  have h0 : ∀ x y : Obj, Below w.heap.size w ((w.alloc x).alloc y) := fun x y => ((Below.refl _ _).alloc (Nat.le_refl _) _).alloc (by simp) _
  have H0 := Lib.hid h0
  clear h0
  go_enter Try.func77, Try.ntmps77
  go_wp2_with fail
  refine (small_any s _ p n cap ((his.alloc _).alloc _)).mono ?_
  rintro e w1 ⟨rfl, hb1⟩
  have hw1 := (H0.out _ _).trans (hb1.mono (H0.out _ _).size)
  obtain ⟨hc1, hf1⟩ := bcell hb1
  have hz1 := hb1.size
  simp only [World.size_alloc] at hz1
  have hza : w.heap.size < w1.heap.size := by omega
  have hzb : w.heap.size + 1 < w1.heap.size := by omega
  by_cases h1 : s.nodes ≤ 60
  case neg =>
    have hd : decide (s.nodes ≤ 60) = false := by simpa using h1
    go_wp2_with fail
    go_ret
    exact ⟨ret_bool (by simp [T.same, h1]), hw1⟩
  have hd : decide (s.nodes ≤ 60) = true := by simpa using h1
  go_wp2_with fail
  refine (small_any t _ q m cap' (((hit.alloc _).alloc _).below hb1)).mono ?_
  rintro e w2 ⟨rfl, hb2⟩
  have hw2 := hw1.trans (hb2.mono hw1.size)
  obtain ⟨hc2, hf2⟩ := bcell hb2
  by_cases h2 : t.nodes ≤ 60
  case neg =>
    have hd2 : decide (t.nodes ≤ 60) = false := by simpa using h2
    go_wp2_with fail
    go_ret
    exact ⟨ret_bool (by simp [T.same, h2]), hw2⟩
  have hd2 : decide (t.nodes ≤ 60) = true := by simpa using h2
  go_wp2_with fail
  refine (equal_any s.nodes s t _ p q n cap m cap' (Nat.le_refl _) ((((his.alloc _).alloc _).below hb1).below hb2) ((((hit.alloc _).alloc _).below hb1).below hb2)).mono ?_
  rintro e w3 ⟨rfl, hb3⟩
  go_wp2_with fail
  go_ret
  exact ⟨ret_bool (by simp [T.same, h1, h2]), hw2.trans (hb3.mono hw2.size)⟩

set_option maxHeartbeats 400000 in
theorem refsame_any (s t : T) (w : World) (p q : Option Addr) (n cap m cap' : Nat) (his : IsT w s p n cap) (hit : IsT w t q m cap') :
    Calls Try.prog 24 #[.agg #[.slice p n cap], .agg #[.slice q m cap']] w fun e w' => e = .returned (.bool (T.same s t)) ∧ Below w.heap.size w w' := by
  have h0 : ∀ x y : Obj, Below w.heap.size w ((w.alloc x).alloc y) := fun x y => ((Below.refl _ _).alloc (Nat.le_refl _) _).alloc (by simp) _
  have H0 := Lib.hid h0
  clear h0
  go_enter Try.func24, Try.ntmps24
  go_wp2_with fail
  refine (nodes_any s.nodes s _ p n cap 60 (Nat.le_refl _) (by omega) (by omega) ((his.alloc _).alloc _)).mono ?_
  rintro e w1 ⟨rfl, hb1⟩
  have hw1 := (H0.out _ _).trans (hb1.mono (H0.out _ _).size)
  obtain ⟨hc1, hf1⟩ := bcell hb1
  have hz1 := hb1.size
  simp only [World.size_alloc] at hz1
  have hza : w.heap.size < w1.heap.size := by omega
  have hzb : w.heap.size + 1 < w1.heap.size := by omega
  by_cases h1 : s.nodes ≤ 60
  case neg =>
    rw [Nat.min_eq_right (by omega)]
    go_wp2_with fail
    go_ret
    exact ⟨ret_bool (by simp [T.same, h1]), hw1⟩
  rw [Nat.min_eq_left (by omega)]
  go_wp2_with fail
  refine (nodes_any t.nodes t _ q m cap' 60 (Nat.le_refl _) (by omega) (by omega) (((hit.alloc _).alloc _).below hb1)).mono ?_
  rintro e w2 ⟨rfl, hb2⟩
  have hw2 := hw1.trans (hb2.mono hw1.size)
  obtain ⟨hc2, hf2⟩ := bcell hb2
  by_cases h2 : t.nodes ≤ 60
  case neg =>
    rw [Nat.min_eq_right (by omega)]
    go_wp2_with fail
    go_ret
    exact ⟨ret_bool (by simp [T.same, h2]), hw2⟩
  rw [Nat.min_eq_left (by omega)]
  go_wp2_with fail
  refine (refequal_any s.nodes s t _ p q n cap m cap' (Nat.le_refl _) ((((his.alloc _).alloc _).below hb1).below hb2) ((((hit.alloc _).alloc _).below hb1).below hb2)).mono ?_
  rintro e w3 ⟨rfl, hb3⟩
  go_wp2_with fail
  go_ret
  exact ⟨ret_bool (by simp [T.same, h1, h2]), hw2.trans (hb3.mono hw2.size)⟩

/-- what Order returns -/
def T.oN (t : T) : Nat := if t.valid then t.ord else 0
def T.oE (t : T) : Int := if t.valid then 0 else 6

theorem T.valid_nodes (t : T) (h : t.valid = true) : t.nodes ≤ 60 := by
  simp only [T.valid, Bool.and_eq_true, decide_eq_true_eq] at h; exact h.1.1

theorem check_any (t : T) (w : World) (p : Option Addr) (n cap : Nat) (his : IsT w t p n cap) :
    Calls Try.prog 73 #[.agg #[.slice p n cap]] w fun e w' => e = .returned (.int .i64 t.oE) ∧ Below w.heap.size w w' := by
  cases hv : t.valid with
  | false => rw [show t.oE = 6 by simp [T.oE, hv]]; exact check_no t w p n cap his hv
  | true => rw [show t.oE = 0 by simp [T.oE, hv]]; exact check_yes t w p n cap his hv

end Go.Proofs.Ytlgfaobbjnhfoaa
