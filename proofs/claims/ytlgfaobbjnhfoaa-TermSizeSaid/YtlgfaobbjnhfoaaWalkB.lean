/-
  The walks of Nodes, few and all. Conditions: none but that the sort lies in memory.
-/
import Derived.Test.YtlgfaobbjnhfoaaWalkA
namespace Go.Proofs.Ytlgfaobbjnhfoaa
open Go.RowKit

set_option maxHeartbeats 400000 in
theorem nodes_any (N : Nat) : ∀ (t : T) (w : World) (p : Option Addr) (n cap : Nat) (m : Int), t.nodes ≤ N → 0 ≤ m → m ≤ 60 → IsT w t p n cap →
    Calls Try.prog 58 #[.agg #[.slice p n cap], .int .i64 m] w fun e w' => e = .returned (.int .i64 ((min t.nodes (m.toNat + 1) : Nat) : Int)) ∧ Below w.heap.size w w' := by
  induction N with
  | zero => intro t w p n cap m hN; have := t.nodes_pos; omega
  | succ N ih =>
    intro t w p n cap m hN hm0 hm60 his
    have hlen := t.len_lt_nodes
    obtain ⟨hn, hcap, hmax, hnil, hrow⟩ := his
    subst hn
    unfold maxLen at hmax
    have IH := Lib.hid ih
    clear ih
    go_enter Try.func58, Try.ntmps58
    go_wp2_with fail
    go_loopw [5, 6] (fun v i wr => ∃ k c : Nat, k ≤ t.len ∧ i = .int .i64 (k : Int) ∧ v = .int .i64 (c : Int) ∧ 1 ≤ c ∧ (c : Int) ≤ m + 1 ∧ min (c + (t.drop k).nodes - 1) (m.toNat + 1) = min t.nodes (m.toNat + 1) ∧ Below (w.heap.size + 1) (w.alloc (.cells #[.slice p t.len cap] 40)) wr)
      (fun _ i _ => t.len - (intOf i).toNat)
    case atStart => exact ⟨0, 1, Nat.zero_le _, rfl, rfl, by omega, by omega, by rw [T.drop_zero]; congr 1; omega, Below.refl _ _⟩
    case round =>
      obtain ⟨k, c, hk, rfl, rfl, hc1, hcm, hmo, hb⟩ := hrel
      have HM := Lib.hid hmo
      clear hmo
      have hbox := box_cell hb
      by_cases hlt : k < t.len
      · rcases hrow with h0 | ⟨b, off, rfl, hr⟩
        · omega
        obtain ⟨p', n', cap', hc, hi⟩ := round_at hb hr hlt
        have hg := t.nodes_get k hlt
        by_cases hcle : (c : Int) ≤ m
        · go_wp2_with fail
          refine (IH.out (t.get k) _ p' n' cap' (m - c) (by omega) (by omega) (by omega) hi).mono ?_
          rintro e w' ⟨rfl, hb1⟩
          go_wp2_with fail
          have hd := t.nodes_drop k hlt
          have hp := (t.drop (k + 1)).nodes_pos
          go_roundw
          case rel => exact ⟨k + 1, c + min (t.get k).nodes (m.toNat - c + 1), by omega, by go_num, val_int (by omega), by omega, by omega, by have h1 := HM.out; omega, hb.trans (hb1.mono (by have := hb.size; simp only [World.size_alloc] at this; omega))⟩
          case measure => simp [intOf]; omega
        · go_wp2_with fail
          go_ret
          have h1 := HM.out
          have hp := (t.drop k).nodes_pos
          exact ⟨ret_int (by omega), below_round hb⟩
      · go_wp2_with fail
        go_ret
        have h1 := HM.out
        rw [T.drop_end t k (by omega)] at h1
        simp only [T.nodes] at h1
        exact ⟨ret_int (by omega), below_round hb⟩

set_option maxHeartbeats 400000 in
theorem few_any (N : Nat) : ∀ (t : T) (w : World) (p : Option Addr) (n cap : Nat), t.nodes ≤ N → IsT w t p n cap →
    Calls Try.prog 89 #[.agg #[.slice p n cap]] w fun e w' => e = .returned (.bool t.few) ∧ Below w.heap.size w w' := by
  induction N with
  | zero => intro t w p n cap hN; have := t.nodes_pos; omega
  | succ N ih =>
    intro t w p n cap hN his
    have hlen := t.len_lt_nodes
    obtain ⟨hn, hcap, hmax, hnil, hrow⟩ := his
    subst hn
    unfold maxLen at hmax
    have IH := Lib.hid ih
    clear ih
    go_enter Try.func89, Try.ntmps89
    go_wp2_with fail
    go_loopw [8] (fun i wr => ∃ k : Nat, k ≤ t.len ∧ i = .int .i64 (k : Int) ∧ (t.drop k).kids = t.kids ∧ Below (w.heap.size + 1) (w.alloc (.cells #[.slice p t.len cap] 40)) wr)
      (fun i _ => t.len - (intOf i).toNat)
    case atStart => exact ⟨0, Nat.zero_le _, rfl, by rw [T.drop_zero], Below.refl _ _⟩
    case round =>
      obtain ⟨k, hk, rfl, hmo, hb⟩ := hrel
      have HM := Lib.hid hmo
      clear hmo
      have hbox := box_cell hb
      by_cases hlt : k < t.len
      · rcases hrow with h0 | ⟨b, off, rfl, hr⟩
        · omega
        obtain ⟨p', n', cap', hc, hi⟩ := round_at hb hr hlt
        have hg := t.nodes_get k hlt
        go_wp2_with fail
        refine (IH.out (t.get k) _ p' n' cap' (by omega) (hi.alloc _)).mono ?_
        rintro e w' ⟨rfl, hb1⟩
        go_wp2_with fail
        · go_ret
          exact ⟨ret_bool (T.few_not t k hlt HM.out (by assumption)).symm, below_round (round_next hb hb1)⟩
        · go_roundw
          case rel => exact ⟨k + 1, by omega, by go_num, T.kids_step t k hlt HM.out (by assumption), round_next hb hb1⟩
          case measure => simp [intOf]; omega
      · go_wp2_with fail
        go_ret
        exact ⟨ret_bool (T.few_end t k hlt HM.out), below_round hb⟩

set_option maxHeartbeats 400000 in
theorem pred_few (w : World) (p : Option Addr) (n cap : Nat) :
    Calls Try.prog 93 #[.agg #[.slice p n cap]] w fun e w' => e = .returned (.bool (decide ((n : Int) ≤ 8))) ∧ Below w.heap.size w w' := by
  go_enter Try.func93, Try.ntmps93
  go_wp2_with fail
  go_ret
  exact ⟨rfl, (Below.refl _ _).alloc (Nat.le_refl _) _⟩

set_option maxHeartbeats 400000 in
theorem all_few (N : Nat) : ∀ (t : T) (w : World) (p : Option Addr) (n cap : Nat), t.nodes ≤ N → IsT w t p n cap →
    Calls Try.prog 94 #[.agg #[.slice p n cap], .func (Fn.func 93) #[] #[]] w fun e w' => e = .returned (.bool t.few) ∧ Below w.heap.size w w' := by
  induction N with
  | zero => intro t w p n cap hN; have := t.nodes_pos; omega
  | succ N ih =>
    intro t w p n cap hN his
    have hlen := t.len_lt_nodes
    obtain ⟨hn, hcap, hmax, hnil, hrow⟩ := his
    subst hn
    unfold maxLen at hmax
    have IH := Lib.hid ih
    clear ih
    go_enter Try.func94, Try.ntmps94
    go_wp2_with fail
    refine (pred_few _ _ _ _).mono ?_
    rintro e w1 ⟨rfl, hb1⟩
    have hbox1 : w1.cell? ⟨w.heap.size, 0, none⟩ = some (.slice p t.len cap) := by
      rw [(bcell hb1).1 _ _ (by simp)]; simp
    by_cases h8 : t.len ≤ 8
    case neg =>
      have hd : decide ((t.len : Int) ≤ 8) = false := by simp; omega
      go_wp2_with fail
      go_ret
      exact ⟨ret_bool (by unfold T.few; simp [h8]), below_call hb1⟩
    case pos =>
      have hd : decide ((t.len : Int) ≤ 8) = true := by simp; omega
      have hb0 := below_call hb1
      clear hb1
      go_wp2_with fail
      clear hbox1
      go_loopw [14] (fun i wr => ∃ k : Nat, k ≤ t.len ∧ i = .int .i64 (k : Int) ∧ (t.drop k).kids = t.kids ∧ Below w.heap.size w wr)
        (fun i _ => t.len - (intOf i).toNat)
      case atStart => exact ⟨0, Nat.zero_le _, rfl, by rw [T.drop_zero], hb0⟩
      case round =>
        clear hb0
        obtain ⟨k, hk, rfl, hmo, hb⟩ := hrel
        have HM := Lib.hid hmo
        clear hmo
        by_cases hlt : k < t.len
        · rcases hrow with h0 | ⟨b, off, rfl, hr⟩
          · omega
          obtain ⟨p', n', cap', hc, hi⟩ := base_at (Keeps.below hb) hr hlt
          have hg := t.nodes_get k hlt
          go_wp2_with fail
          refine (IH.out (t.get k) _ p' n' cap' (by omega) (hi.alloc _)).mono ?_
          rintro e w' ⟨rfl, hb1⟩
          go_wp2_with fail
          · go_ret
            exact ⟨ret_bool (T.few_not t k hlt HM.out (by assumption)).symm, base_next hb hb1⟩
          · go_roundw
            case rel => exact ⟨k + 1, by omega, by go_num, T.kids_step t k hlt HM.out (by assumption), base_next hb hb1⟩
            case measure => simp [intOf]; omega
        · go_wp2_with fail
          go_ret
          have h1 := T.few_end t k hlt HM.out
          exact ⟨ret_bool (by rw [← h1]; simp; omega), hb⟩

set_option maxHeartbeats 400000 in
theorem pred_count (w : World) (p : Option Addr) (n cap bc c : Nat) (hc : w.heap[bc]? = some (.cells #[.int .i64 (c : Int)] 3 (0, 0))) (hc60 : c ≤ 60) :
    Calls Try.prog 101 #[.agg #[.slice p n cap], .pointer (some ⟨bc, 0, none⟩)] w fun e w' => e = .returned (.bool (decide ((c : Int) + 1 ≤ 60))) ∧ Cnt w w' bc 3 (c + 1) := by
  have c1 := cell_of_one hc
  have c2 := free_of_one hc
  have c3 := lt_of_block hc
  go_enter Try.func101, Try.ntmps101
  go_wp2_with fail
  go_ret
  have hw := Cnt.write (d := c + 1) hc
  exact ⟨rfl, hw.trans (Cnt.start hw.2 _)⟩

set_option maxHeartbeats 400000 in
theorem all_count (N : Nat) : ∀ (t : T) (w : World) (p : Option Addr) (n cap bc c : Nat), t.nodes ≤ N → IsT w t p n cap → w.heap[bc]? = some (.cells #[.int .i64 (c : Int)] 3 (0, 0)) → c ≤ 60 →
    Calls Try.prog 94 #[.agg #[.slice p n cap], .func (Fn.func 101) #[] #[.pointer (some ⟨bc, 0, none⟩)]] w fun e w' =>
      e = .returned (.bool (decide (c + t.nodes ≤ 60))) ∧ Cnt w w' bc 3 (min (c + t.nodes) 61) := by
  induction N with
  | zero => intro t w p n cap bc c hN; have := t.nodes_pos; omega
  | succ N ih =>
    intro t w p n cap bc c hN his hbc hc60
    have hlen := t.len_lt_nodes
    have hpos := t.nodes_pos
    obtain ⟨hn, hcap, hmax, hnil, hrow⟩ := his
    subst hn
    unfold maxLen at hmax
    have IH := Lib.hid ih
    have HB := Lib.hid hbc
    have hs := lt_of_block hbc
    clear ih hbc
    go_enter Try.func94, Try.ntmps94
    go_wp2_with fail
    refine (pred_count _ _ _ _ bc c (Cnt.start HB.out _).2 hc60).mono ?_
    rintro e w1 ⟨rfl, hb1⟩
    have hb0 : Cnt w w1 bc 3 (c + 1) := (Cnt.start HB.out _).trans hb1
    have hbox1 : w1.cell? ⟨w.heap.size, 0, none⟩ = some (.slice p t.len cap) := Cnt.keeps (Cnt.start HB.out _).2 hb1 _ _ _ _ _ (by simp)
    clear hb1
    have HB0 := Lib.hid hb0
    clear hb0
    by_cases h61 : (c : Int) + 1 ≤ 60
    · have hd : decide ((c : Int) + 1 ≤ 60) = true := by simpa using h61
      go_wp2_with fail
      clear hbox1
      go_loopw [14] (fun i wr => ∃ k c' : Nat, k ≤ t.len ∧ i = .int .i64 (k : Int) ∧ c' ≤ 60 ∧ c' + (t.drop k).nodes = c + 1 + t.nodes ∧ Cnt w wr bc 3 c')
        (fun i _ => t.len - (intOf i).toNat)
      case atStart => exact ⟨0, c + 1, Nat.zero_le _, rfl, by omega, by rw [T.drop_zero], HB0.out⟩
      case round =>
        clear HB0
        obtain ⟨k, c', hk, rfl, hc', hmo, hb⟩ := hrel
        have HM := Lib.hid hmo
        have HC := Lib.hid hb
        have hks := Cnt.keeps HB.out hb
        clear hmo hb
        by_cases hlt : k < t.len
        · rcases hrow with h0 | ⟨b, off, rfl, hr⟩
          · omega
          obtain ⟨p', n', cap', hc, hi⟩ := base_at hks hr hlt
          have hg := t.nodes_get k hlt
          clear hks
          go_wp2_with fail
          have hst := Cnt.start HC.out.2 (.cells #[.slice p' n' cap'] 40)
          refine (IH.out (t.get k) _ p' n' cap' bc c' (by omega) (hi.alloc _) hst.2 hc').mono ?_
          rintro e w' ⟨rfl, hb1⟩
          have HD := Lib.hid ((HC.out.trans hst).trans hb1)
          clear hb1 hst
          have hd' := t.nodes_drop k hlt
          have hp' := (t.drop (k + 1)).nodes_pos
          have HE := Lib.hid hd'
          clear hd'
          by_cases hle : c' + (t.get k).nodes ≤ 60
          · have hd2 : decide (c' + (t.get k).nodes ≤ 60) = true := by simpa using hle
            go_wp2_with fail
            go_roundw
            case rel => exact ⟨k + 1, c' + (t.get k).nodes, by omega, by go_num, by omega, by have h1 := HM.out; have h2 := HE.out; omega, by have h3 := HD.out; rw [Nat.min_eq_left (by omega)] at h3; exact h3⟩
            case measure => simp [intOf]; omega
          · have hd2 : decide (c' + (t.get k).nodes ≤ 60) = false := by simpa using hle
            go_wp2_with fail
            go_ret
            have h1 := HM.out
            have h2 := HE.out
            have h3 := HD.out
            exact ⟨ret_bool (by simp; omega), by rw [Nat.min_eq_right (by omega)] at h3 ⊢; exact h3⟩
        · go_wp2_with fail
          go_ret
          have h1 := HM.out
          have h3 := HC.out
          rw [T.drop_end t k (by omega)] at h1
          simp only [T.nodes] at h1
          obtain rfl : c' = c + t.nodes := by omega
          exact ⟨ret_bool (by simp; omega), by rw [Nat.min_eq_left (by omega)]; exact h3⟩
    · have hd : decide ((c : Int) + 1 ≤ 60) = false := by simpa using h61
      go_wp2_with fail
      go_ret
      have h3 := HB0.out
      exact ⟨ret_bool (by simp; omega), by rw [show min (c + t.nodes) 61 = c + 1 by omega]; exact h3⟩

end Go.Proofs.Ytlgfaobbjnhfoaa
