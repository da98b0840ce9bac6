/-
  Parts of one proof, laid into one text: WalkA, WalkB, WalkC, WalkD, TWalkA, TWalkB, TWalkC. Conditions: each part names its own.
-/
import Derived.Test.YtjkcopgfcafpeaaGreatDoorRows
import Derived.Test.YtjkcopgfcafpeaaGreatDoorMg02
import Derived.WalkSpells
import Derived.WalkLawsBesides
import Derived.Lib.Hide
import Derived.Deep.DeepFit
import Derived.StillTailTactics
import Derived.Deep.RegionWith
import Derived.BigQuiet
import Derived.Deep.QuietTactic
import Derived.Deep.LoopGhost
import Derived.Deep.DeepCutAuto

/-
  The walks of the functions that only count: the depth and the order of a sort. Conditions: at most 60 nodes.
-/
namespace Go.Proofs.YtjkcopgfcafpeaaGreatDoor
open Go.RowKit

set_option maxHeartbeats 400000 in
theorem high_any (N : Nat) : ∀ (t : T) (w : World) (p : Option Addr) (n cap : Nat), t.nodes ≤ N → t.nodes ≤ 60 → IsT w t p n cap →
    Calls Tryz.prog 137 #[.agg #[.slice p n cap]] w fun e w' => e = .returned (.int .i64 ((t.ord + 1 : Nat) : Int)) ∧ Below w.heap.size w w' := by
  induction N with
  | zero => intro t w p n cap hN; have := t.nodes_pos; omega
  | succ N ih =>
    intro t w p n cap hN h60 his
    have hlen := t.len_lt_nodes
    have hord := t.ord_lt_nodes
    obtain ⟨hn, hcap, hmax, hnil, hrow⟩ := his
    subst hn
    have hn60 : t.len ≤ 60 := by omega
    have IH := Lib.hid ih
    clear ih
    go_enter Tryz.func137, Tryz.ntmps137
    go_wp2_with fail
    go_loopw [3, 9] (fun v i wr => ∃ k m : Nat, k ≤ t.len ∧ i = .int .i64 (k : Int) ∧ v = .int .i64 (m : Int) ∧ m ≤ 60 ∧ max m (t.drop k).ord = t.ord ∧ Below (w.heap.size + 1) (w.alloc (.cells #[.slice p t.len cap] 47)) wr)
      (fun _ i _ => t.len - (intOf i).toNat)
    case atStart => exact ⟨0, 0, Nat.zero_le _, rfl, rfl, by omega, by rw [T.drop_zero]; omega, Below.refl _ _⟩
    case round =>
      obtain ⟨k, m, hk, rfl, rfl, hm, hmo, hb⟩ := hrel
      have HM := Lib.hid hmo
      clear hmo
      by_cases hlt : k < t.len
      · rcases hrow with h0 | ⟨b, off, rfl, hr⟩
        · omega
        obtain ⟨p', n', cap', hc, hi⟩ := round_at hb hr hlt
        have hg := t.nodes_get k hlt
        have ho := (t.get k).ord_lt_nodes
        go_wp2_with fail
        refine (IH.out (t.get k) _ p' n' cap' (by omega) (by omega) (hi.alloc _)).mono ?_
        rintro e w' ⟨rfl, hb1⟩
        go_wp2_with fail
        go_roundw
        case rel => exact ⟨k + 1, max m (1 + (t.get k).ord), by omega, by go_num, val_int (int_max _ _), by omega, by have h1 := HM.out; rw [T.ord_drop t k hlt] at h1; omega, round_next hb hb1⟩
        case measure => simp [intOf]; omega
      · go_wp2_with fail
        go_ret
        have h1 := HM.out
        rw [T.drop_end t k (by omega)] at h1
        simp only [T.ord] at h1
        exact ⟨ret_int (by omega), below_round hb⟩

set_option maxHeartbeats 400000 in
theorem depth_any (N : Nat) : ∀ (t : T) (w : World) (p : Option Addr) (n cap : Nat), t.nodes ≤ N → t.nodes ≤ 60 → IsT w t p n cap →
    Calls Tryz.prog 79 #[.agg #[.slice p n cap]] w fun e w' => e = .returned (.int .i64 ((t.ord + 1 : Nat) : Int)) ∧ Below w.heap.size w w' := by
  induction N with
  | zero => intro t w p n cap hN; have := t.nodes_pos; omega
  | succ N ih =>
    intro t w p n cap hN h60 his
    have hlen := t.len_lt_nodes
    have hord := t.ord_lt_nodes
    obtain ⟨hn, hcap, hmax, hnil, hrow⟩ := his
    subst hn
    have hn60 : t.len ≤ 60 := by omega
    have IH := Lib.hid ih
    clear ih
    go_enter Tryz.func79, Tryz.ntmps79
    go_wp2_with fail
    go_loopw [3, 9] (fun v i wr => ∃ k m : Nat, k ≤ t.len ∧ i = .int .i64 (k : Int) ∧ v = .int .i64 (m : Int) ∧ m ≤ 60 ∧ max m (t.drop k).ord = t.ord ∧ Below (w.heap.size + 1) (w.alloc (.cells #[.slice p t.len cap] 47)) wr)
      (fun _ i _ => t.len - (intOf i).toNat)
    case atStart => exact ⟨0, 0, Nat.zero_le _, rfl, rfl, by omega, by rw [T.drop_zero]; omega, Below.refl _ _⟩
    case round =>
      obtain ⟨k, m, hk, rfl, rfl, hm, hmo, hb⟩ := hrel
      have HM := Lib.hid hmo
      clear hmo
      by_cases hlt : k < t.len
      · rcases hrow with h0 | ⟨b, off, rfl, hr⟩
        · omega
        obtain ⟨p', n', cap', hc, hi⟩ := round_at hb hr hlt
        have hg := t.nodes_get k hlt
        have ho := (t.get k).ord_lt_nodes
        go_wp2_with fail
        refine (IH.out (t.get k) _ p' n' cap' (by omega) (by omega) (hi.alloc _)).mono ?_
        rintro e w' ⟨rfl, hb1⟩
        go_wp2_with fail
        go_roundw
        case rel => exact ⟨k + 1, max m (1 + (t.get k).ord), by omega, by go_num, val_int (int_max _ _), by omega, by have h1 := HM.out; rw [T.ord_drop t k hlt] at h1; omega, round_next hb hb1⟩
        case measure => simp [intOf]; omega
      · go_wp2_with fail
        go_ret
        have h1 := HM.out
        rw [T.drop_end t k (by omega)] at h1
        simp only [T.ord] at h1
        exact ⟨ret_int (by omega), below_round hb⟩

set_option maxHeartbeats 400000 in
theorem order_any (N : Nat) : ∀ (t : T) (w : World) (p : Option Addr) (n cap : Nat), t.nodes ≤ N → t.nodes ≤ 60 → IsT w t p n cap →
    Calls Tryz.prog 88 #[.agg #[.slice p n cap]] w fun e w' => e = .returned (.int .i64 ((t.ord : Nat) : Int)) ∧ Below w.heap.size w w' := by
  induction N with
  | zero => intro t w p n cap hN; have := t.nodes_pos; omega
  | succ N ih =>
    intro t w p n cap hN h60 his
    have hlen := t.len_lt_nodes
    have hord := t.ord_lt_nodes
    obtain ⟨hn, hcap, hmax, hnil, hrow⟩ := his
    subst hn
    have hn60 : t.len ≤ 60 := by omega
    have IH := Lib.hid ih
    clear ih
    go_enter Tryz.func88, Tryz.ntmps88
    go_wp2_with fail
    go_loopw [3, 9] (fun v i wr => ∃ k m : Nat, k ≤ t.len ∧ i = .int .i64 (k : Int) ∧ v = .int .i64 (m : Int) ∧ m ≤ 60 ∧ max m (t.drop k).ord = t.ord ∧ Below (w.heap.size + 1) (w.alloc (.cells #[.slice p t.len cap] 47)) wr)
      (fun _ i _ => t.len - (intOf i).toNat)
    case atStart => exact ⟨0, 0, Nat.zero_le _, rfl, rfl, by omega, by rw [T.drop_zero]; omega, Below.refl _ _⟩
    case round =>
      obtain ⟨k, m, hk, rfl, rfl, hm, hmo, hb⟩ := hrel
      have HM := Lib.hid hmo
      clear hmo
      by_cases hlt : k < t.len
      · rcases hrow with h0 | ⟨b, off, rfl, hr⟩
        · omega
        obtain ⟨p', n', cap', hc, hi⟩ := round_at hb hr hlt
        have hg := t.nodes_get k hlt
        have ho := (t.get k).ord_lt_nodes
        go_wp2_with fail
        refine (IH.out (t.get k) _ p' n' cap' (by omega) (by omega) (hi.alloc _)).mono ?_
        rintro e w' ⟨rfl, hb1⟩
        go_wp2_with fail
        go_roundw
        case rel => exact ⟨k + 1, max m (1 + (t.get k).ord), by omega, by go_num, val_int (int_max' _ _), by omega, by have h1 := HM.out; rw [T.ord_drop t k hlt] at h1; omega, round_next hb hb1⟩
        case measure => simp [intOf]; omega
      · go_wp2_with fail
        go_ret
        have h1 := HM.out
        rw [T.drop_end t k (by omega)] at h1
        simp only [T.ord] at h1
        exact ⟨ret_int (by omega), below_round hb⟩

set_option maxHeartbeats 400000 in
theorem rank_any (N : Nat) : ∀ (t : T) (w : World) (p : Option Addr) (n cap : Nat), t.nodes ≤ N → t.nodes ≤ 60 → IsT w t p n cap →
    Calls Tryz.prog 45 #[.agg #[.slice p n cap]] w fun e w' => e = .returned (.int .i64 ((t.ord : Nat) : Int)) ∧ Below w.heap.size w w' := by
  induction N with
  | zero => intro t w p n cap hN; have := t.nodes_pos; omega
  | succ N ih =>
    intro t w p n cap hN h60 his
    have hlen := t.len_lt_nodes
    have hord := t.ord_lt_nodes
    obtain ⟨hn, hcap, hmax, hnil, hrow⟩ := his
    subst hn
    have hn60 : t.len ≤ 60 := by omega
    have IH := Lib.hid ih
    clear ih
    go_enter Tryz.func45, Tryz.ntmps45
    go_wp2_with fail
    go_loopw [3, 9] (fun v i wr => ∃ k m : Nat, k ≤ t.len ∧ i = .int .i64 (k : Int) ∧ v = .int .i64 (m : Int) ∧ m ≤ 60 ∧ max m (t.drop k).ord = t.ord ∧ Below (w.heap.size + 1) (w.alloc (.cells #[.slice p t.len cap] 47)) wr)
      (fun _ i _ => t.len - (intOf i).toNat)
    case atStart => exact ⟨0, 0, Nat.zero_le _, rfl, rfl, by omega, by rw [T.drop_zero]; omega, Below.refl _ _⟩
    case round =>
      obtain ⟨k, m, hk, rfl, rfl, hm, hmo, hb⟩ := hrel
      have HM := Lib.hid hmo
      clear hmo
      by_cases hlt : k < t.len
      · rcases hrow with h0 | ⟨b, off, rfl, hr⟩
        · omega
        obtain ⟨p', n', cap', hc, hi⟩ := round_at hb hr hlt
        have hg := t.nodes_get k hlt
        have ho := (t.get k).ord_lt_nodes
        go_wp2_with fail
        refine (IH.out (t.get k) _ p' n' cap' (by omega) (by omega) (hi.alloc _)).mono ?_
        rintro e w' ⟨rfl, hb1⟩
        go_wp2_with fail
        go_roundw
        case rel => exact ⟨k + 1, max m (1 + (t.get k).ord), by omega, by go_num, val_int (int_max' _ _), by omega, by have h1 := HM.out; rw [T.ord_drop t k hlt] at h1; omega, round_next hb hb1⟩
        case measure => simp [intOf]; omega
      · go_wp2_with fail
        go_ret
        have h1 := HM.out
        rw [T.drop_end t k (by omega)] at h1
        simp only [T.ord] at h1
        exact ⟨ret_int (by omega), below_round hb⟩

end Go.Proofs.YtjkcopgfcafpeaaGreatDoor

/-
  The walks of Nodes, few and all. Conditions: none but that the sort lies in memory.
-/
namespace Go.Proofs.YtjkcopgfcafpeaaGreatDoor
open Go.RowKit

set_option maxHeartbeats 400000 in
theorem nodes_any (N : Nat) : ∀ (t : T) (w : World) (p : Option Addr) (n cap : Nat) (m : Int), t.nodes ≤ N → 0 ≤ m → m ≤ 60 → IsT w t p n cap →
    Calls Tryz.prog 78 #[.agg #[.slice p n cap], .int .i64 m] w fun e w' => e = .returned (.int .i64 ((min t.nodes (m.toNat + 1) : Nat) : Int)) ∧ Below w.heap.size w w' := by
  induction N with
  | zero => intro t w p n cap m hN; have := t.nodes_pos; omega
  | succ N ih =>
    intro t w p n cap m hN hm0 hm60 his
    have hlen := t.len_lt_nodes
    obtain ⟨hn, hcap, hmax, hnil, hrow⟩ := his
    subst hn
    unfold maxLen at hmax
    have IH := Lib.hid ih
    clear ih
    go_enter Tryz.func78, Tryz.ntmps78
    go_wp2_with fail
    go_loopw [5, 6] (fun v i wr => ∃ k c : Nat, k ≤ t.len ∧ i = .int .i64 (k : Int) ∧ v = .int .i64 (c : Int) ∧ 1 ≤ c ∧ (c : Int) ≤ m + 1 ∧ min (c + (t.drop k).nodes - 1) (m.toNat + 1) = min t.nodes (m.toNat + 1) ∧ Below (w.heap.size + 1) (w.alloc (.cells #[.slice p t.len cap] 47)) wr)
      (fun _ i _ => t.len - (intOf i).toNat)
    case atStart => exact ⟨0, 1, Nat.zero_le _, rfl, rfl, by omega, by omega, by rw [T.drop_zero]; congr 1; omega, Below.refl _ _⟩
    case round =>
      obtain ⟨k, c, hk, rfl, rfl, hc1, hcm, hmo, hb⟩ := hrel
      have HM := Lib.hid hmo
      clear hmo
      have hbox := box_cell hb
      by_cases hlt : k < t.len
      · rcases hrow with h0 | ⟨b, off, rfl, hr⟩
        · omega
        obtain ⟨p', n', cap', hc, hi⟩ := round_at hb hr hlt
        have hg := t.nodes_get k hlt
        by_cases hcle : (c : Int) ≤ m
        · go_wp2_with fail
          refine (IH.out (t.get k) _ p' n' cap' (m - c) (by omega) (by omega) (by omega) hi).mono ?_
          rintro e w' ⟨rfl, hb1⟩
          go_wp2_with fail
          have hd := t.nodes_drop k hlt
          have hp := (t.drop (k + 1)).nodes_pos
          go_roundw
          case rel => exact ⟨k + 1, c + min (t.get k).nodes (m.toNat - c + 1), by omega, by go_num, val_int (by omega), by omega, by omega, by have h1 := HM.out; omega, hb.trans (hb1.mono (by have := hb.size; simp only [World.size_alloc] at this; omega))⟩
          case measure => simp [intOf]; omega
        · go_wp2_with fail
          go_ret
          have h1 := HM.out
          have hp := (t.drop k).nodes_pos
          exact ⟨ret_int (by omega), below_round hb⟩
      · go_wp2_with fail
        go_ret
        have h1 := HM.out
        rw [T.drop_end t k (by omega)] at h1
        simp only [T.nodes] at h1
        exact ⟨ret_int (by omega), below_round hb⟩

set_option maxHeartbeats 400000 in
theorem few_any (N : Nat) : ∀ (t : T) (w : World) (p : Option Addr) (n cap : Nat), t.nodes ≤ N → IsT w t p n cap →
    Calls Tryz.prog 80 #[.agg #[.slice p n cap]] w fun e w' => e = .returned (.bool t.few) ∧ Below w.heap.size w w' := by
  induction N with
  | zero => intro t w p n cap hN; have := t.nodes_pos; omega
  | succ N ih =>
    intro t w p n cap hN his
    have hlen := t.len_lt_nodes
    obtain ⟨hn, hcap, hmax, hnil, hrow⟩ := his
    subst hn
    unfold maxLen at hmax
    have IH := Lib.hid ih
    clear ih
    go_enter Tryz.func80, Tryz.ntmps80
    go_wp2_with fail
    go_loopw [8] (fun i wr => ∃ k : Nat, k ≤ t.len ∧ i = .int .i64 (k : Int) ∧ (t.drop k).kids = t.kids ∧ Below (w.heap.size + 1) (w.alloc (.cells #[.slice p t.len cap] 47)) wr)
      (fun i _ => t.len - (intOf i).toNat)
    case atStart => exact ⟨0, Nat.zero_le _, rfl, by rw [T.drop_zero], Below.refl _ _⟩
    case round =>
      obtain ⟨k, hk, rfl, hmo, hb⟩ := hrel
      have HM := Lib.hid hmo
      clear hmo
      have hbox := box_cell hb
      by_cases hlt : k < t.len
      · rcases hrow with h0 | ⟨b, off, rfl, hr⟩
        · omega
        obtain ⟨p', n', cap', hc, hi⟩ := round_at hb hr hlt
        have hg := t.nodes_get k hlt
        go_wp2_with fail
        refine (IH.out (t.get k) _ p' n' cap' (by omega) (hi.alloc _)).mono ?_
        rintro e w' ⟨rfl, hb1⟩
        go_wp2_with fail
        · go_ret
          exact ⟨ret_bool (T.few_not t k hlt HM.out (by assumption)).symm, below_round (round_next hb hb1)⟩
        · go_roundw
          case rel => exact ⟨k + 1, by omega, by go_num, T.kids_step t k hlt HM.out (by assumption), round_next hb hb1⟩
          case measure => simp [intOf]; omega
      · go_wp2_with fail
        go_ret
        exact ⟨ret_bool (T.few_end t k hlt HM.out), below_round hb⟩

set_option maxHeartbeats 400000 in
theorem pred_few (w : World) (p : Option Addr) (n cap : Nat) :
    Calls Tryz.prog 118 #[.agg #[.slice p n cap]] w fun e w' => e = .returned (.bool (decide ((n : Int) ≤ 8))) ∧ Below w.heap.size w w' := by
  go_enter Tryz.func118, Tryz.ntmps118
  go_wp2_with fail
  go_ret
  exact ⟨rfl, (Below.refl _ _).alloc (Nat.le_refl _) _⟩

set_option maxHeartbeats 400000 in
theorem all_few (N : Nat) : ∀ (t : T) (w : World) (p : Option Addr) (n cap : Nat), t.nodes ≤ N → IsT w t p n cap →
    Calls Tryz.prog 119 #[.agg #[.slice p n cap], .func (Fn.func 118) #[] #[]] w fun e w' => e = .returned (.bool t.few) ∧ Below w.heap.size w w' := by
  induction N with
  | zero => intro t w p n cap hN; have := t.nodes_pos; omega
  | succ N ih =>
    intro t w p n cap hN his
    have hlen := t.len_lt_nodes
    obtain ⟨hn, hcap, hmax, hnil, hrow⟩ := his
    subst hn
    unfold maxLen at hmax
    have IH := Lib.hid ih
    clear ih
    go_enter Tryz.func119, Tryz.ntmps119
    go_wp2_with fail
    refine (pred_few _ _ _ _).mono ?_
    rintro e w1 ⟨rfl, hb1⟩
    have hbox1 : w1.cell? ⟨w.heap.size, 0, none⟩ = some (.slice p t.len cap) := by
      rw [(bcell hb1).1 _ _ (by simp)]; simp
    by_cases h8 : t.len ≤ 8
    case neg =>
      have hd : decide ((t.len : Int) ≤ 8) = false := by simp; omega
      go_wp2_with fail
      go_ret
      exact ⟨ret_bool (by unfold T.few; simp [h8]), below_call hb1⟩
    case pos =>
      have hd : decide ((t.len : Int) ≤ 8) = true := by simp; omega
      have hb0 := below_call hb1
      clear hb1
      go_wp2_with fail
      clear hbox1
      go_loopw [14] (fun i wr => ∃ k : Nat, k ≤ t.len ∧ i = .int .i64 (k : Int) ∧ (t.drop k).kids = t.kids ∧ Below w.heap.size w wr)
        (fun i _ => t.len - (intOf i).toNat)
      case atStart => exact ⟨0, Nat.zero_le _, rfl, by rw [T.drop_zero], hb0⟩
      case round =>
        clear hb0
        obtain ⟨k, hk, rfl, hmo, hb⟩ := hrel
        have HM := Lib.hid hmo
        clear hmo
        by_cases hlt : k < t.len
        · rcases hrow with h0 | ⟨b, off, rfl, hr⟩
          · omega
          obtain ⟨p', n', cap', hc, hi⟩ := base_at (Keeps.below hb) hr hlt
          have hg := t.nodes_get k hlt
          go_wp2_with fail
          refine (IH.out (t.get k) _ p' n' cap' (by omega) (hi.alloc _)).mono ?_
          rintro e w' ⟨rfl, hb1⟩
          go_wp2_with fail
          · go_ret
            exact ⟨ret_bool (T.few_not t k hlt HM.out (by assumption)).symm, base_next hb hb1⟩
          · go_roundw
            case rel => exact ⟨k + 1, by omega, by go_num, T.kids_step t k hlt HM.out (by assumption), base_next hb hb1⟩
            case measure => simp [intOf]; omega
        · go_wp2_with fail
          go_ret
          have h1 := T.few_end t k hlt HM.out
          exact ⟨ret_bool (by rw [← h1]; simp; omega), hb⟩

set_option maxHeartbeats 400000 in
theorem pred_count (w : World) (p : Option Addr) (n cap bc c : Nat) (hc : w.heap[bc]? = some (.cells #[.int .i64 (c : Int)] 3 (0, 0))) (hc60 : c ≤ 60) :
    Calls Tryz.prog 136 #[.agg #[.slice p n cap], .pointer (some ⟨bc, 0, none⟩)] w fun e w' => e = .returned (.bool (decide ((c : Int) + 1 ≤ 60))) ∧ Cnt w w' bc 3 (c + 1) := by
  have c1 := cell_of_one hc
  have c2 := free_of_one hc
  have c3 := lt_of_block hc
  go_enter Tryz.func136, Tryz.ntmps136
  go_wp2_with fail
  go_ret
  have hw := Cnt.write (d := c + 1) hc
  exact ⟨rfl, hw.trans (Cnt.start hw.2 _)⟩

set_option maxHeartbeats 400000 in
theorem all_count (N : Nat) : ∀ (t : T) (w : World) (p : Option Addr) (n cap bc c : Nat), t.nodes ≤ N → IsT w t p n cap → w.heap[bc]? = some (.cells #[.int .i64 (c : Int)] 3 (0, 0)) → c ≤ 60 →
    Calls Tryz.prog 119 #[.agg #[.slice p n cap], .func (Fn.func 136) #[] #[.pointer (some ⟨bc, 0, none⟩)]] w fun e w' =>
      e = .returned (.bool (decide (c + t.nodes ≤ 60))) ∧ Cnt w w' bc 3 (min (c + t.nodes) 61) := by
  induction N with
  | zero => intro t w p n cap bc c hN; have := t.nodes_pos; omega
  | succ N ih =>
    intro t w p n cap bc c hN his hbc hc60
    have hlen := t.len_lt_nodes
    have hpos := t.nodes_pos
    obtain ⟨hn, hcap, hmax, hnil, hrow⟩ := his
    subst hn
    unfold maxLen at hmax
    have IH := Lib.hid ih
    have HB := Lib.hid hbc
    have hs := lt_of_block hbc
    clear ih hbc
    go_enter Tryz.func119, Tryz.ntmps119
    go_wp2_with fail
    refine (pred_count _ _ _ _ bc c (Cnt.start HB.out _).2 hc60).mono ?_
    rintro e w1 ⟨rfl, hb1⟩
    have hb0 : Cnt w w1 bc 3 (c + 1) := (Cnt.start HB.out _).trans hb1
    have hbox1 : w1.cell? ⟨w.heap.size, 0, none⟩ = some (.slice p t.len cap) := Cnt.keeps (Cnt.start HB.out _).2 hb1 _ _ _ _ _ (by simp)
    clear hb1
    have HB0 := Lib.hid hb0
    clear hb0
    by_cases h61 : (c : Int) + 1 ≤ 60
    · have hd : decide ((c : Int) + 1 ≤ 60) = true := by simpa using h61
      go_wp2_with fail
      clear hbox1
      go_loopw [14] (fun i wr => ∃ k c' : Nat, k ≤ t.len ∧ i = .int .i64 (k : Int) ∧ c' ≤ 60 ∧ c' + (t.drop k).nodes = c + 1 + t.nodes ∧ Cnt w wr bc 3 c')
        (fun i _ => t.len - (intOf i).toNat)
      case atStart => exact ⟨0, c + 1, Nat.zero_le _, rfl, by omega, by rw [T.drop_zero], HB0.out⟩
      case round =>
        clear HB0
        obtain ⟨k, c', hk, rfl, hc', hmo, hb⟩ := hrel
        have HM := Lib.hid hmo
        have HC := Lib.hid hb
        have hks := Cnt.keeps HB.out hb
        clear hmo hb
        by_cases hlt : k < t.len
        · rcases hrow with h0 | ⟨b, off, rfl, hr⟩
          · omega
          obtain ⟨p', n', cap', hc, hi⟩ := base_at hks hr hlt
          have hg := t.nodes_get k hlt
          clear hks
          go_wp2_with fail
          have hst := Cnt.start HC.out.2 (.cells #[.slice p' n' cap'] 47)
          refine (IH.out (t.get k) _ p' n' cap' bc c' (by omega) (hi.alloc _) hst.2 hc').mono ?_
          rintro e w' ⟨rfl, hb1⟩
          have HD := Lib.hid ((HC.out.trans hst).trans hb1)
          clear hb1 hst
          have hd' := t.nodes_drop k hlt
          have hp' := (t.drop (k + 1)).nodes_pos
          have HE := Lib.hid hd'
          clear hd'
          by_cases hle : c' + (t.get k).nodes ≤ 60
          · have hd2 : decide (c' + (t.get k).nodes ≤ 60) = true := by simpa using hle
            go_wp2_with fail
            go_roundw
            case rel => exact ⟨k + 1, c' + (t.get k).nodes, by omega, by go_num, by omega, by have h1 := HM.out; have h2 := HE.out; omega, by have h3 := HD.out; rw [Nat.min_eq_left (by omega)] at h3; exact h3⟩
            case measure => simp [intOf]; omega
          · have hd2 : decide (c' + (t.get k).nodes ≤ 60) = false := by simpa using hle
            go_wp2_with fail
            go_ret
            have h1 := HM.out
            have h2 := HE.out
            have h3 := HD.out
            exact ⟨ret_bool (by simp; omega), by rw [Nat.min_eq_right (by omega)] at h3 ⊢; exact h3⟩
        · go_wp2_with fail
          go_ret
          have h1 := HM.out
          have h3 := HC.out
          rw [T.drop_end t k (by omega)] at h1
          simp only [T.nodes] at h1
          obtain rfl : c' = c + t.nodes := by omega
          exact ⟨ret_bool (by simp; omega), by rw [Nat.min_eq_left (by omega)]; exact h3⟩
    · have hd : decide ((c : Int) + 1 ≤ 60) = false := by simpa using h61
      go_wp2_with fail
      go_ret
      have h3 := HB0.out
      exact ⟨ret_bool (by simp; omega), by rw [show min (c + t.nodes) 61 = c + 1 by omega]; exact h3⟩

end Go.Proofs.YtjkcopgfcafpeaaGreatDoor

/-
  The walks of equality. Conditions: none but that the sorts lie in memory.
-/
namespace Go.Proofs.YtjkcopgfcafpeaaGreatDoor
open Go.RowKit

set_option maxRecDepth 100000 in
set_option maxHeartbeats 400000 in
theorem equal_any (N : Nat) : ∀ (s t : T) (w : World) (p q : Option Addr) (n cap m cap' : Nat), s.nodes ≤ N → IsT w s p n cap → IsT w t q m cap' →
    Calls Tryz.prog 115 #[.agg #[.slice p n cap], .agg #[.slice q m cap']] w fun e w' => e = .returned (.bool (T.eqT s t)) ∧ Below w.heap.size w w' := by
  induction N with
  | zero => intro s t w p q n cap m cap' hN; have := s.nodes_pos; omega
  | succ N ih =>
    intro s t w p q n cap m cap' hN his hit
    obtain ⟨hn, hcap, hmax, hnil, hrow⟩ := his
    obtain ⟨hn', hcap', hmax', hnil', hrow'⟩ := hit
    subst hn hn'
    unfold maxLen at hmax hmax'
    have IH := Lib.hid ih
    clear ih
    by_cases hl : s.len = t.len
    case neg =>
      have hd : ((s.len : Int) != (t.len : Int)) = true := by rw [bne_iff_ne]; omega
      go_enter Tryz.func115, Tryz.ntmps115
      go_wp2_with fail
      go_ret
      exact ⟨ret_bool (T.eqT_len s t hl).symm, ((Below.refl _ _).alloc (Nat.le_refl _) _).alloc (by simp) _⟩
    case pos =>
      have hd : ((s.len : Int) != (t.len : Int)) = false := by simp [hl]
      have hle : t.len ≤ s.len := by omega
      have hle' : s.len ≤ t.len := by omega
      clear hl
      go_enter Tryz.func115, Tryz.ntmps115
      go_wp2_with fail
      go_loopw [16] (fun i wr => ∃ k : Nat, k ≤ s.len ∧ i = .int .i64 (k : Int) ∧ T.eqT (s.drop k) (t.drop k) = T.eqT s t ∧
          Below (w.heap.size + 2) ((w.alloc (.cells #[.slice p s.len cap] 47)).alloc (.cells #[.slice q t.len cap'] 47)) wr)
        (fun i _ => s.len - (intOf i).toNat)
      case atStart => exact ⟨0, Nat.zero_le _, rfl, by rw [T.drop_zero, T.drop_zero], Below.refl _ _⟩
      case round =>
        obtain ⟨k, hk, rfl, hmo, hb⟩ := hrel
        have HM := Lib.hid hmo
        clear hmo
        have hks := keeps_two hb
        obtain ⟨hbox1, hbox2⟩ := box_two hb
        by_cases hlt : k < s.len
        · rcases hrow with h0 | ⟨b, off, rfl, hr⟩
          · omega
          rcases hrow' with h0 | ⟨b', off', rfl, hr'⟩
          · omega
          obtain ⟨p1, n1, cap1, hc1, hi1⟩ := base_at hks hr hlt
          obtain ⟨p2, n2, cap2, hc2, hi2⟩ := base_at hks hr' (show k < t.len by omega)
          have hg := s.nodes_get k hlt
          clear hks
          go_wp2_with fail
          have hlt2 : k < t.len := by omega
          go_still_tail 10, (by kernel_rfl)
          change wpList _ _ _ _ _ wr.drew
          go_wp2_with fail
          refine (IH.out (s.get k) (t.get k) _ p1 p2 n1 cap1 n2 cap2 (by omega) hi1.drew hi2.drew).mono ?_
          rintro e w' ⟨rfl, hb1⟩
          go_wp2_with fail
          · go_ret
            exact ⟨ret_bool (T.eqT_not s t k hlt hlt2 HM.out (by assumption)).symm, (below_two hb).drew.trans (hb1.mono (below_two hb).size)⟩
          · go_roundw
            case rel => exact ⟨k + 1, by omega, by go_num, T.eqT_step s t k hlt hlt2 HM.out (by assumption), hb.drew.trans (hb1.mono (by have := hb.size; simp only [World.size_alloc] at this; exact this))⟩
            case measure => simp [intOf]; omega
        · go_wp2_with fail
          go_ret
          exact ⟨ret_bool (T.eqT_end s t k hlt (by omega) HM.out).symm, below_two hb⟩

set_option maxRecDepth 100000 in
set_option maxHeartbeats 400000 in
theorem refequal_any (N : Nat) : ∀ (s t : T) (w : World) (p q : Option Addr) (n cap m cap' : Nat), s.nodes ≤ N → IsT w s p n cap → IsT w t q m cap' →
    Calls Tryz.prog 76 #[.agg #[.slice p n cap], .agg #[.slice q m cap']] w fun e w' => e = .returned (.bool (T.eqT s t)) ∧ Below w.heap.size w w' := by
  induction N with
  | zero => intro s t w p q n cap m cap' hN; have := s.nodes_pos; omega
  | succ N ih =>
    intro s t w p q n cap m cap' hN his hit
    obtain ⟨hn, hcap, hmax, hnil, hrow⟩ := his
    obtain ⟨hn', hcap', hmax', hnil', hrow'⟩ := hit
    subst hn hn'
    unfold maxLen at hmax hmax'
    have IH := Lib.hid ih
    clear ih
    by_cases hl : s.len = t.len
    case neg =>
      have hd : ((s.len : Int) != (t.len : Int)) = true := by rw [bne_iff_ne]; omega
      go_enter Tryz.func76, Tryz.ntmps76
      go_wp2_with fail
      go_ret
      exact ⟨ret_bool (T.eqT_len s t hl).symm, ((Below.refl _ _).alloc (Nat.le_refl _) _).alloc (by simp) _⟩
    case pos =>
      have hd : ((s.len : Int) != (t.len : Int)) = false := by simp [hl]
      have hle : t.len ≤ s.len := by omega
      have hle' : s.len ≤ t.len := by omega
      clear hl
      go_enter Tryz.func76, Tryz.ntmps76
      go_wp2_with fail
      go_loopw [16] (fun i wr => ∃ k : Nat, k ≤ s.len ∧ i = .int .i64 (k : Int) ∧ T.eqT (s.drop k) (t.drop k) = T.eqT s t ∧
          Below (w.heap.size + 2) ((w.alloc (.cells #[.slice p s.len cap] 47)).alloc (.cells #[.slice q t.len cap'] 47)) wr)
        (fun i _ => s.len - (intOf i).toNat)
      case atStart => exact ⟨0, Nat.zero_le _, rfl, by rw [T.drop_zero, T.drop_zero], Below.refl _ _⟩
      case round =>
        obtain ⟨k, hk, rfl, hmo, hb⟩ := hrel
        have HM := Lib.hid hmo
        clear hmo
        have hks := keeps_two hb
        obtain ⟨hbox1, hbox2⟩ := box_two hb
        by_cases hlt : k < s.len
        · rcases hrow with h0 | ⟨b, off, rfl, hr⟩
          · omega
          rcases hrow' with h0 | ⟨b', off', rfl, hr'⟩
          · omega
          obtain ⟨p1, n1, cap1, hc1, hi1⟩ := base_at hks hr hlt
          obtain ⟨p2, n2, cap2, hc2, hi2⟩ := base_at hks hr' (show k < t.len by omega)
          have hg := s.nodes_get k hlt
          clear hks
          go_wp2_with fail
          have hlt2 : k < t.len := by omega
          go_still_tail 10, (by kernel_rfl)
          change wpList _ _ _ _ _ wr.drew
          go_wp2_with fail
          refine (IH.out (s.get k) (t.get k) _ p1 p2 n1 cap1 n2 cap2 (by omega) hi1.drew hi2.drew).mono ?_
          rintro e w' ⟨rfl, hb1⟩
          go_wp2_with fail
          · go_ret
            exact ⟨ret_bool (T.eqT_not s t k hlt hlt2 HM.out (by assumption)).symm, (below_two hb).drew.trans (hb1.mono (below_two hb).size)⟩
          · go_roundw
            case rel => exact ⟨k + 1, by omega, by go_num, T.eqT_step s t k hlt hlt2 HM.out (by assumption), hb.drew.trans (hb1.mono (by have := hb.size; simp only [World.size_alloc] at this; exact this))⟩
            case measure => simp [intOf]; omega
        · go_wp2_with fail
          go_ret
          exact ⟨ret_bool (T.eqT_end s t k hlt (by omega) HM.out).symm, below_two hb⟩

end Go.Proofs.YtjkcopgfcafpeaaGreatDoor

/-
  The walks of Size, Check and what is built on them. Conditions: none but that the sort lies in memory.
-/
namespace Go.Proofs.YtjkcopgfcafpeaaGreatDoor
open Go.RowKit

set_option maxHeartbeats 400000 in
theorem size_no (t : T) (w : World) (p : Option Addr) (n cap : Nat) (his : IsT w t p n cap) (h60 : ¬ t.nodes ≤ 60) :
    Calls Tryz.prog 117 #[.agg #[.slice p n cap]] w fun e w' => e = .returned (.tuple #[.int .i64 61, .int .i64 0]) ∧ Below w.heap.size w w' := by
  have hc := fun W h1 h2 => all_count t.nodes t W p n cap (w.heap.size + 1) 0 (Nat.le_refl _) h1 h2 (by omega)
  have HC := Lib.hid hc
  clear hc
  go_enter Tryz.func117, Tryz.ntmps117
  go_wp2_with fail
  refine (HC.out _ ((his.alloc _).alloc _) (heap_new2 _ _ _)).mono ?_
  rintro e w1 ⟨rfl, hb1⟩
  rw [Nat.zero_add] at hb1
  have hd : decide (0 + t.nodes ≤ 60) = false := by simpa using h60
  have c1 := cell_of_one hb1.2
  have c2 := free_of_one hb1.2
  go_wp2_with fail
  refine bodyPost_ret (v := .tuple #[.int .i64 61, .int .i64 0]) (by simp [results, Tryz.results117, go_sem, c1]) rfl ⟨rfl, ?_⟩
  have h1 : Below w.heap.size w w1 := (((Below.refl w.heap.size w).alloc (Nat.le_refl _) _).alloc (by simp) _).trans ((hb1.below (by simp)).mono (by omega))
  exact h1.setCell (by simp) _

set_option maxHeartbeats 400000 in
theorem size_yes (t : T) (w : World) (p : Option Addr) (n cap : Nat) (his : IsT w t p n cap) (h60 : t.nodes ≤ 60) :
    Calls Tryz.prog 117 #[.agg #[.slice p n cap]] w fun e w' => e = .returned (.tuple #[.int .i64 (t.nodes : Int), .int .i64 ((t.ord : Int) + 1)]) ∧ Below w.heap.size w w' := by
  have hc := fun W h1 h2 => all_count t.nodes t W p n cap (w.heap.size + 1) 0 (Nat.le_refl _) h1 h2 (by omega)
  have HC := Lib.hid hc
  clear hc
  go_enter Tryz.func117, Tryz.ntmps117
  go_wp2_with fail
  refine (HC.out _ ((his.alloc _).alloc _) (heap_new2 _ _ _)).mono ?_
  rintro e w1 ⟨rfl, hb1⟩
  rw [Nat.zero_add] at hb1
  have hd : decide (0 + t.nodes ≤ 60) = true := by simpa using h60
  rw [Nat.min_eq_left (by omega)] at hb1
  have c1 := cell_of_one hb1.2
  have c2 := free_of_one hb1.2
  have c3 : w1.cell? ⟨w.heap.size, 0, none⟩ = some (.slice p n cap) := Cnt.keeps (c0 := 0) (ty := 3) (heap_new2 _ _ _) hb1 _ _ _ _ _ (by simp)
  have hi1 : IsT w1 t p n cap := ((his.alloc _).alloc _).keeps (Cnt.keeps (c0 := 0) (ty := 3) (heap_new2 _ _ _) hb1)
  have hn := hb1.1.size
  simp only [World.size_alloc] at hn
  have h1 : Below w.heap.size w w1 := (((Below.refl w.heap.size w).alloc (Nat.le_refl _) _).alloc (by simp) _).trans ((hb1.below (by simp)).mono (by omega))
  clear hb1
  go_wp2_with fail
  go_region_with ((go_at_call 137; refine (high_any t.nodes t _ p n cap (Nat.le_refl _) h60 ?_).mono ?_; exact hi1.drew; rintro e w' ⟨rfl, hb2⟩; have q1 := (hb2.cell (p := ⟨w.heap.size + 1, 0, none⟩) hn).trans c1; have q2 := (hb2.frozen (p := ⟨w.heap.size + 1, 0, none⟩) hn).trans c2))
  all_goals go_wp2_with fail
  all_goals
    refine bodyPost_ret (v := .tuple #[.int .i64 (t.nodes : Int), .int .i64 ((t.ord : Int) + 1)]) (by simp [results, Tryz.results117, go_sem, q1]) rfl ⟨rfl, ?_⟩
    exact (h1.drew.trans (hb2.mono h1.size)).setCell (by simp) _

set_option maxHeartbeats 400000 in
theorem small_any (t : T) (w : World) (p : Option Addr) (n cap : Nat) (his : IsT w t p n cap) :
    Calls Tryz.prog 114 #[.agg #[.slice p n cap]] w fun e w' => e = .returned (.bool (decide (t.nodes ≤ 60))) ∧ Below w.heap.size w w' := by
  by_cases h60 : t.nodes ≤ 60
  · go_enter Tryz.func114, Tryz.ntmps114
    go_wp2_with fail
    refine (size_yes t _ p n cap (his.alloc _) h60).mono ?_
    rintro e w1 ⟨rfl, hb1⟩
    go_wp2_with fail
    go_ret
    exact ⟨ret_bool (by simp [h60]; omega), below_call hb1⟩
  · go_enter Tryz.func114, Tryz.ntmps114
    go_wp2_with fail
    refine (size_no t _ p n cap (his.alloc _) h60).mono ?_
    rintro e w1 ⟨rfl, hb1⟩
    go_wp2_with fail
    go_ret
    exact ⟨ret_bool (by simp [h60]), below_call hb1⟩

set_option maxHeartbeats 400000 in
theorem check_yes (t : T) (w : World) (p : Option Addr) (n cap : Nat) (his : IsT w t p n cap) (hv : t.valid = true) :
    Calls Tryz.prog 87 #[.agg #[.slice p n cap]] w fun e w' => e = .returned (.int .i64 0) ∧ Below w.heap.size w w' := by
  simp only [T.valid, Bool.and_eq_true, decide_eq_true_eq] at hv
  obtain ⟨⟨h60, h30⟩, hfew⟩ := hv
  go_enter Tryz.func87, Tryz.ntmps87
  go_wp2_with fail
  refine (size_yes t _ p n cap (his.alloc _) h60).mono ?_
  rintro e w1 ⟨rfl, hb1⟩
  obtain ⟨hc1, hf1⟩ := bcell hb1
  go_wp2_with fail
  refine (all_few t.nodes t _ p n cap (Nat.le_refl _) ((his.alloc _).below hb1)).mono ?_
  rintro e w2 ⟨rfl, hb2⟩
  go_wp2_with fail
  go_ret
  exact ⟨rfl, (below_call hb1).trans (hb2.mono (below_call hb1).size)⟩

set_option maxHeartbeats 400000 in
theorem check_no (t : T) (w : World) (p : Option Addr) (n cap : Nat) (his : IsT w t p n cap) (hv : t.valid = false) :
    Calls Tryz.prog 87 #[.agg #[.slice p n cap]] w fun e w' => e = .returned (.int .i64 6) ∧ Below w.heap.size w w' := by
  by_cases h60 : t.nodes ≤ 60
  case neg =>
    go_enter Tryz.func87, Tryz.ntmps87
    go_wp2_with fail
    refine (size_no t _ p n cap (his.alloc _) h60).mono ?_
    rintro e w1 ⟨rfl, hb1⟩
    go_wp2_with fail
    go_ret
    exact ⟨rfl, below_call hb1⟩
  by_cases h30 : t.ord + 1 ≤ 30
  case neg =>
    go_enter Tryz.func87, Tryz.ntmps87
    go_wp2_with fail
    refine (size_yes t _ p n cap (his.alloc _) h60).mono ?_
    rintro e w1 ⟨rfl, hb1⟩
    go_wp2_with fail
    go_ret
    exact ⟨rfl, below_call hb1⟩
  have hfew : t.few = false := by simpa [T.valid, h60, h30] using hv
  go_enter Tryz.func87, Tryz.ntmps87
  go_wp2_with fail
  refine (size_yes t _ p n cap (his.alloc _) h60).mono ?_
  rintro e w1 ⟨rfl, hb1⟩
  obtain ⟨hc1, hf1⟩ := bcell hb1
  go_wp2_with fail
  refine (all_few t.nodes t _ p n cap (Nat.le_refl _) ((his.alloc _).below hb1)).mono ?_
  rintro e w2 ⟨rfl, hb2⟩
  go_wp2_with fail
  go_ret
  exact ⟨rfl, (below_call hb1).trans (hb2.mono (below_call hb1).size)⟩

set_option maxHeartbeats 400000 in
theorem is_any (t : T) (w : World) (p : Option Addr) (n cap : Nat) (his : IsT w t p n cap) :
    Calls Tryz.prog 37 #[.agg #[.slice p n cap]] w fun e w' => e = .returned (.bool t.valid) ∧ Below w.heap.size w w' := by
  by_cases h60 : t.nodes ≤ 60
  case neg =>
    go_enter Tryz.func37, Tryz.ntmps37
    go_wp2_with fail
    refine (nodes_any t.nodes t _ p n cap 60 (Nat.le_refl _) (by omega) (by omega) (his.alloc _)).mono ?_
    rintro e w1 ⟨rfl, hb1⟩
    rw [Nat.min_eq_right (by omega)]
    go_wp2_with fail
    go_ret
    exact ⟨ret_bool (by simp [T.valid, h60]), below_call hb1⟩
  have hv : t.valid = (decide (t.ord + 1 ≤ 30) && t.few) := by simp [T.valid, h60]
  have HV := Lib.hid hv
  clear hv
  go_enter Tryz.func37, Tryz.ntmps37
  go_wp2_with fail
  refine (nodes_any t.nodes t _ p n cap 60 (Nat.le_refl _) (by omega) (by omega) (his.alloc _)).mono ?_
  rintro e w1 ⟨rfl, hb1⟩
  rw [Nat.min_eq_left (by omega)]
  obtain ⟨hc1, hf1⟩ := bcell hb1
  go_wp2_with fail
  refine (depth_any t.nodes t _ p n cap (Nat.le_refl _) h60 ((his.alloc _).below hb1)).mono ?_
  rintro e w2 ⟨rfl, hb2⟩
  have hb12 := (below_call hb1).trans (hb2.mono (below_call hb1).size)
  by_cases h30 : t.ord + 1 ≤ 30
  case neg =>
    go_wp2_with fail
    go_ret
    exact ⟨ret_bool (by rw [HV.out]; simp [h30]), hb12⟩
  have hcell2 : w2.cell? ⟨w.heap.size, 0, none⟩ = some (.slice p n cap) := by
    rw [(bcell hb2).1 _ _ (by have := hb1.size; simp only [World.size_alloc] at this; omega), hc1 _ _ (by simp)]; simp
  go_wp2_with fail
  refine (few_any t.nodes t _ p n cap (Nat.le_refl _) (((his.alloc _).below hb1).below hb2)).mono ?_
  rintro e w3 ⟨rfl, hb3⟩
  go_wp2_with fail
  go_ret
  exact ⟨ret_bool (by rw [HV.out]; simp [h30]), hb12.trans (hb3.mono hb12.size)⟩

/-- what Same returns -/
def T.same (s t : T) : Bool := decide (s.nodes ≤ 60) && (decide (t.nodes ≤ 60) && T.eqT s t)

set_option maxHeartbeats 400000 in
theorem same_any (s t : T) (w : World) (p q : Option Addr) (n cap m cap' : Nat) (his : IsT w s p n cap) (hit : IsT w t q m cap') :
    Calls Tryz.prog 85 #[.agg #[.slice p n cap], .agg #[.slice q m cap']] w fun e w' => e = .returned (.bool (T.same s t)) ∧ Below w.heap.size w w' := by
  have h0 : ∀ x y : Obj, Below w.heap.size w ((w.alloc x).alloc y) := fun x y => ((Below.refl _ _).alloc (Nat.le_refl _) _).alloc (by simp) _
  have H0 := Lib.hid h0
  clear h0
  go_enter Tryz.func85, Tryz.ntmps85
  go_wp2_with fail
  refine (small_any s _ p n cap ((his.alloc _).alloc _)).mono ?_
  rintro e w1 ⟨rfl, hb1⟩
  have hw1 := (H0.out _ _).trans (hb1.mono (H0.out _ _).size)
  obtain ⟨hc1, hf1⟩ := bcell hb1
  have hz1 := hb1.size
  simp only [World.size_alloc] at hz1
  have hza : w.heap.size < w1.heap.size := by omega
  have hzb : w.heap.size + 1 < w1.heap.size := by omega
  by_cases h1 : s.nodes ≤ 60
  case neg =>
    have hd : decide (s.nodes ≤ 60) = false := by simpa using h1
    go_wp2_with fail
    go_ret
    exact ⟨ret_bool (by simp [T.same, h1]), hw1⟩
  have hd : decide (s.nodes ≤ 60) = true := by simpa using h1
  go_wp2_with fail
  refine (small_any t _ q m cap' (((hit.alloc _).alloc _).below hb1)).mono ?_
  rintro e w2 ⟨rfl, hb2⟩
  have hw2 := hw1.trans (hb2.mono hw1.size)
  obtain ⟨hc2, hf2⟩ := bcell hb2
  by_cases h2 : t.nodes ≤ 60
  case neg =>
    have hd2 : decide (t.nodes ≤ 60) = false := by simpa using h2
    go_wp2_with fail
    go_ret
    exact ⟨ret_bool (by simp [T.same, h2]), hw2⟩
  have hd2 : decide (t.nodes ≤ 60) = true := by simpa using h2
  go_wp2_with fail
  refine (equal_any s.nodes s t _ p q n cap m cap' (Nat.le_refl _) ((((his.alloc _).alloc _).below hb1).below hb2) ((((hit.alloc _).alloc _).below hb1).below hb2)).mono ?_
  rintro e w3 ⟨rfl, hb3⟩
  go_wp2_with fail
  go_ret
  exact ⟨ret_bool (by simp [T.same, h1, h2]), hw2.trans (hb3.mono hw2.size)⟩

/-- what Order returns -/
def T.oN (t : T) : Nat := if t.valid then t.ord else 0
def T.oE (t : T) : Int := if t.valid then 0 else 6

theorem T.valid_nodes (t : T) (h : t.valid = true) : t.nodes ≤ 60 := by
  simp only [T.valid, Bool.and_eq_true, decide_eq_true_eq] at h; exact h.1.1

set_option maxHeartbeats 400000 in
theorem orderF_any (t : T) (w : World) (p : Option Addr) (n cap : Nat) (his : IsT w t p n cap) :
    Calls Tryz.prog 44 #[.agg #[.slice p n cap]] w fun e w' => e = .returned (.tuple #[.int .i64 (t.oN : Int), .int .i64 t.oE]) ∧ Below w.heap.size w w' := by
  cases hv : t.valid with
  | false =>
    have e1 : t.oN = 0 := by simp [T.oN, hv]
    have e2 : t.oE = 6 := by simp [T.oE, hv]
    rw [e1, e2]
    clear e1 e2
    go_enter Tryz.func44, Tryz.ntmps44
    go_wp2_with fail
    refine (check_no t _ p n cap (his.alloc _) hv).mono ?_
    rintro e w1 ⟨rfl, hb1⟩
    go_wp2_with fail
    go_ret2
    exact ⟨rfl, below_call hb1⟩
  | true =>
    have e1 : t.oN = t.ord := by simp [T.oN, hv]
    have e2 : t.oE = 0 := by simp [T.oE, hv]
    rw [e1, e2]
    clear e1 e2
    have h60 := t.valid_nodes hv
    go_enter Tryz.func44, Tryz.ntmps44
    go_wp2_with fail
    refine (check_yes t _ p n cap (his.alloc _) hv).mono ?_
    rintro e w1 ⟨rfl, hb1⟩
    obtain ⟨hc1, hf1⟩ := bcell hb1
    go_wp2_with fail
    refine (order_any t.nodes t _ p n cap (Nat.le_refl _) h60 ((his.alloc _).below hb1)).mono ?_
    rintro e w2 ⟨rfl, hb2⟩
    go_wp2_with fail
    go_ret2
    exact ⟨rfl, (below_call hb1).trans (hb2.mono (below_call hb1).size)⟩

theorem check_any (t : T) (w : World) (p : Option Addr) (n cap : Nat) (his : IsT w t p n cap) :
    Calls Tryz.prog 87 #[.agg #[.slice p n cap]] w fun e w' => e = .returned (.int .i64 t.oE) ∧ Below w.heap.size w w' := by
  cases hv : t.valid with
  | false => rw [show t.oE = 6 by simp [T.oE, hv]]; exact check_no t w p n cap his hv
  | true => rw [show t.oE = 0 by simp [T.oE, hv]]; exact check_yes t w p n cap his hv

end Go.Proofs.YtjkcopgfcafpeaaGreatDoor

/-
  The walks of the functions that only count: the depth and the nodes of a term, and equality. Conditions: for the depth at most 100000 nodes.
-/
set_option linter.unusedSimpArgs false
set_option linter.unusedVariables false
namespace Go.Proofs.YtjkcopgfcafpeaaGreatDoor
open Go.RowKit

set_option maxHeartbeats 400000 in
theorem thigh_any (N : Nat) : ∀ (a : X) (k n : Int) (w : World) (p : Option Addr) (l cap : Nat), a.sz < N → a.sz < 100000 → IsX w a p l cap →
    Calls Tryz.prog 113 #[.agg #[.int .i64 k, .int .i64 n, .slice p l cap]] w fun e w' => e = .returned (.int .i64 ((a.dep + 1 : Nat) : Int)) ∧ Below w.heap.size w w' := by
  induction N with
  | zero => intro a k n w p l cap hN; omega
  | succ N ih =>
    intro a k n w p l cap hN h60 his
    have hlen := a.len_le_sz
    have hdep := a.dep_le_sz
    obtain ⟨hn, hcap, hmax, hnil, hrow⟩ := his
    subst hn
    have hn60 : a.len < 100000 := by omega
    have IH := Lib.hid ih
    clear ih
    go_enter Tryz.func113, Tryz.ntmps113
    go_wp2_with fail
    go_loopw [3, 9] (fun v i wr => ∃ j m : Nat, j ≤ a.len ∧ i = .int .i64 (j : Int) ∧ v = .int .i64 (m : Int) ∧ m < 100000 ∧ max m (a.drop j).dep = a.dep ∧ Below w.heap.size w wr)
      (fun _ i _ => a.len - (intOf i).toNat)
    case atStart => exact ⟨0, 0, Nat.zero_le _, rfl, rfl, by omega, by rw [X.drop_zero]; omega, (Below.refl _ _).alloc (Nat.le_refl _) _⟩
    case round =>
      obtain ⟨j, m, hj, rfl, rfl, hm, hmo, hb⟩ := hrel
      have HM := Lib.hid hmo
      clear hmo
      by_cases hlt : j < a.len
      · rcases hrow with h0 | ⟨b, off, rfl, hr⟩
        · omega
        obtain ⟨hck, hcn, p', n', cap', hc, hi⟩ := base3_at (Keeps3.below hb (Nat.le_refl _)) hr hlt
        have hg := a.sz_ga j hlt
        have ho := (a.ga j).dep_le_sz
        go_wp2_with fail
        refine (IH.out (a.ga j) _ _ _ p' n' cap' (by omega) (by omega) (hi.alloc _)).mono ?_
        rintro e w' ⟨rfl, hb1⟩
        go_wp2_with fail
        go_roundw
        case rel => exact ⟨j + 1, max m (1 + (a.ga j).dep), by omega, by go_num, val_int (int_max _ _), by omega, by have h1 := HM.out; rw [X.dep_drop a j hlt] at h1; omega, base_next hb hb1⟩
        case measure => simp [intOf]; omega
      · go_wp2_with fail
        go_ret
        have h1 := HM.out
        rw [X.drop_end a j (by omega)] at h1
        simp only [X.dep] at h1
        exact ⟨ret_int (by omega), hb⟩

set_option maxHeartbeats 400000 in
theorem tdepth_any (N : Nat) : ∀ (a : X) (k n : Int) (w : World) (p : Option Addr) (l cap : Nat), a.sz < N → a.sz < 100000 → IsX w a p l cap →
    Calls Tryz.prog 65 #[.agg #[.int .i64 k, .int .i64 n, .slice p l cap]] w fun e w' => e = .returned (.int .i64 ((a.dep + 1 : Nat) : Int)) ∧ Below w.heap.size w w' := by
  induction N with
  | zero => intro a k n w p l cap hN; omega
  | succ N ih =>
    intro a k n w p l cap hN h60 his
    have hlen := a.len_le_sz
    have hdep := a.dep_le_sz
    obtain ⟨hn, hcap, hmax, hnil, hrow⟩ := his
    subst hn
    have hn60 : a.len < 100000 := by omega
    have IH := Lib.hid ih
    clear ih
    go_enter Tryz.func65, Tryz.ntmps65
    go_wp2_with fail
    go_loopw [3, 9] (fun v i wr => ∃ j m : Nat, j ≤ a.len ∧ i = .int .i64 (j : Int) ∧ v = .int .i64 (m : Int) ∧ m < 100000 ∧ max m (a.drop j).dep = a.dep ∧ Below w.heap.size w wr)
      (fun _ i _ => a.len - (intOf i).toNat)
    case atStart => exact ⟨0, 0, Nat.zero_le _, rfl, rfl, by omega, by rw [X.drop_zero]; omega, (Below.refl _ _).alloc (Nat.le_refl _) _⟩
    case round =>
      obtain ⟨j, m, hj, rfl, rfl, hm, hmo, hb⟩ := hrel
      have HM := Lib.hid hmo
      clear hmo
      by_cases hlt : j < a.len
      · rcases hrow with h0 | ⟨b, off, rfl, hr⟩
        · omega
        obtain ⟨hck, hcn, p', n', cap', hc, hi⟩ := base3_at (Keeps3.below hb (Nat.le_refl _)) hr hlt
        have hg := a.sz_ga j hlt
        have ho := (a.ga j).dep_le_sz
        go_wp2_with fail
        refine (IH.out (a.ga j) _ _ _ p' n' cap' (by omega) (by omega) (hi.alloc _)).mono ?_
        rintro e w' ⟨rfl, hb1⟩
        go_wp2_with fail
        go_roundw
        case rel => exact ⟨j + 1, max m (1 + (a.ga j).dep), by omega, by go_num, val_int (int_max _ _), by omega, by have h1 := HM.out; rw [X.dep_drop a j hlt] at h1; omega, base_next hb hb1⟩
        case measure => simp [intOf]; omega
      · go_wp2_with fail
        go_ret
        have h1 := HM.out
        rw [X.drop_end a j (by omega)] at h1
        simp only [X.dep] at h1
        exact ⟨ret_int (by omega), hb⟩

set_option maxHeartbeats 400000 in
theorem tnodes_any (N : Nat) : ∀ (a : X) (k n : Int) (w : World) (p : Option Addr) (l cap : Nat) (m : Int), a.sz < N → 0 ≤ m → m ≤ 100000 → IsX w a p l cap →
    Calls Tryz.prog 64 #[.agg #[.int .i64 k, .int .i64 n, .slice p l cap], .int .i64 m] w fun e w' => e = .returned (.int .i64 ((min (1 + a.sz) (m.toNat + 1) : Nat) : Int)) ∧ Below w.heap.size w w' := by
  induction N with
  | zero => intro a k n w p l cap m hN; omega
  | succ N ih =>
    intro a k n w p l cap m hN hm0 hm60 his
    have hlen := a.len_le_sz
    obtain ⟨hn, hcap, hmax, hnil, hrow⟩ := his
    subst hn
    unfold maxLen at hmax
    have IH := Lib.hid ih
    clear ih
    go_enter Tryz.func64, Tryz.ntmps64
    go_wp2_with fail
    go_loopw [5, 6] (fun v i wr => ∃ j c : Nat, j ≤ a.len ∧ i = .int .i64 (j : Int) ∧ v = .int .i64 (c : Int) ∧ 1 ≤ c ∧ (c : Int) ≤ m + 1 ∧ min (c + (a.drop j).sz) (m.toNat + 1) = min (1 + a.sz) (m.toNat + 1) ∧ wr.cell? ⟨w.heap.size, 2, none⟩ = some (.slice p a.len cap) ∧ Below w.heap.size w wr)
      (fun _ i _ => a.len - (intOf i).toNat)
    case atStart => exact ⟨0, 1, Nat.zero_le _, rfl, rfl, by omega, by omega, by rw [X.drop_zero], by simp, (Below.refl _ _).alloc (Nat.le_refl _) _⟩
    case round =>
      obtain ⟨j, c, hj, rfl, rfl, hc1, hcm, hmo, hbox, hb⟩ := hrel
      have HM := Lib.hid hmo
      clear hmo
      by_cases hlt : j < a.len
      · rcases hrow with h0 | ⟨b, off, rfl, hr⟩
        · omega
        obtain ⟨hck, hcn, p', n', cap', hc, hi⟩ := base3_at (Keeps3.below hb (Nat.le_refl _)) hr hlt
        have hg := a.sz_ga j hlt
        by_cases hcle : (c : Int) ≤ m
        · go_wp2_with fail
          refine (IH.out (a.ga j) _ _ _ p' n' cap' (m - c) (by omega) (by omega) (by omega) hi).mono ?_
          rintro e w' ⟨rfl, hb1⟩
          go_wp2_with fail
          have hd := a.sz_drop j hlt
          go_roundw
          case rel => exact ⟨j + 1, c + min (1 + (a.ga j).sz) (m.toNat - c + 1), by omega, by go_num, val_int (by omega), by omega, by omega, by have h1 := HM.out; omega, by rw [(bcell hb1).1 _ _ (lt_of_cell hbox)]; exact hbox, hb.trans (hb1.mono hb.size)⟩
          case measure => simp [intOf]; omega
        · go_wp2_with fail
          go_ret
          have h1 := HM.out
          exact ⟨ret_int (by omega), hb⟩
      · go_wp2_with fail
        go_ret
        have h1 := HM.out
        rw [X.drop_end a j (by omega)] at h1
        simp only [X.sz] at h1
        exact ⟨ret_int (by omega), hb⟩

/-- slices.EqualFunc of the program's own equality, where that is so for the terms in the slices -/
theorem teqfunc_of (N : Nat)
    (ih : ∀ (s t : X) (k n k' n' : Int) (w : World) (p q : Option Addr) (l cap m cap' : Nat), s.sz < N → IsX w s p l cap → IsX w t q m cap' →
      Calls Tryz.prog 116 #[.agg #[.int .i64 k, .int .i64 n, .slice p l cap], .agg #[.int .i64 k', .int .i64 n', .slice q m cap']] w fun e w' => e = .returned (.bool (X.eq1 k n s k' n' t)) ∧ Below w.heap.size w w')
    (s t : X) (w : World) (p q : Option Addr) (l cap m cap' : Nat) (hN : s.sz ≤ N) (his : IsX w s p l cap) (hit : IsX w t q m cap') :
    Calls Tryz.prog 135 #[.slice p l cap, .slice q m cap', .func (Fn.func 116) #[] #[]] w fun e w' => e = .returned (.bool (X.eqX s t)) ∧ Below w.heap.size w w' := by
  obtain ⟨hn, hcap, hmax, hnil, hrow⟩ := his
  obtain ⟨hn', hcap', hmax', hnil', hrow'⟩ := hit
  subst hn hn'
  unfold maxLen at hmax hmax'
  have IH := Lib.hid ih
  clear ih
  by_cases hl : s.len = t.len
  case neg =>
    have hd : ((s.len : Int) != (t.len : Int)) = true := by rw [bne_iff_ne]; omega
    go_enter Tryz.func135, Tryz.ntmps135
    go_wp2_with fail
    go_ret
    exact ⟨ret_bool (X.eqX_len s t hl).symm, Below.refl _ _⟩
  case pos =>
    have hd : ((s.len : Int) != (t.len : Int)) = false := by simp [hl]
    have hle : t.len ≤ s.len := by omega
    have hle' : s.len ≤ t.len := by omega
    clear hl
    go_enter Tryz.func135, Tryz.ntmps135
    go_wp2_with fail
    go_loopw [17] (fun i wr => ∃ j : Nat, j ≤ s.len ∧ i = .int .i64 (j : Int) ∧ X.eqX (s.drop j) (t.drop j) = X.eqX s t ∧ Below w.heap.size w wr)
      (fun i _ => s.len - (intOf i).toNat)
    case atStart => exact ⟨0, Nat.zero_le _, rfl, by rw [X.drop_zero, X.drop_zero], Below.refl _ _⟩
    case round =>
      obtain ⟨j, hj, rfl, hmo, hb⟩ := hrel
      have HM := Lib.hid hmo
      clear hmo
      by_cases hlt : j < s.len
      · rcases hrow with h0 | ⟨b, off, rfl, hr⟩
        · omega
        rcases hrow' with h0 | ⟨b', off', rfl, hr'⟩
        · omega
        have hlt2 : j < t.len := by omega
        obtain ⟨hck1, hcn1, p1, n1, cap1, hc1, hi1⟩ := base3_at (Keeps3.below hb (Nat.le_refl _)) hr hlt
        obtain ⟨hck2, hcn2, p2, n2, cap2, hc2, hi2⟩ := base3_at (Keeps3.below hb (Nat.le_refl _)) hr' hlt2
        have hg := s.sz_ga j hlt
        have A1 := fun x => (keep_alloc wr x _ _ (lt_of_cell hck2)).trans hck2
        have A2 := fun x => (keep_alloc wr x _ _ (lt_of_cell hcn2)).trans hcn2
        have A3 := fun x => (keep_alloc wr x _ _ (lt_of_cell hc2)).trans hc2
        go_wp2_with fail
        refine (IH.out (s.ga j) (t.ga j) _ _ _ _ _ p1 p2 n1 cap1 n2 cap2 (by omega) ((hi1.alloc _).alloc _) ((hi2.alloc _).alloc _)).mono ?_
        rintro e w' ⟨rfl, hb1⟩
        have hb2 : Below w.heap.size w w' := (hb.trans (((Below.refl _ _).alloc hb.size _).alloc (by have := hb.size; simp; omega) _)).trans (hb1.mono (by have := hb.size; simp; omega))
        go_wp2_with fail
        · go_ret
          exact ⟨ret_bool (X.eqX_not s t j hlt hlt2 HM.out (by assumption)).symm, hb2⟩
        · go_roundw
          case rel => exact ⟨j + 1, by omega, by go_num, X.eqX_step s t j hlt hlt2 HM.out (by assumption), hb2⟩
          case measure => simp [intOf]; omega
      · go_wp2_with fail
        go_ret
        exact ⟨ret_bool (X.eqX_end s t j hlt (by omega) HM.out).symm, hb⟩

set_option maxHeartbeats 400000 in
theorem tequal_any (N : Nat) : ∀ (s t : X) (k n k' n' : Int) (w : World) (p q : Option Addr) (l cap m cap' : Nat), s.sz < N → IsX w s p l cap → IsX w t q m cap' →
      Calls Tryz.prog 116 #[.agg #[.int .i64 k, .int .i64 n, .slice p l cap], .agg #[.int .i64 k', .int .i64 n', .slice q m cap']] w fun e w' => e = .returned (.bool (X.eq1 k n s k' n' t)) ∧ Below w.heap.size w w' := by
  induction N with
  | zero => intro s t k n k' n' w p q l cap m cap' hN; omega
  | succ N ih =>
    intro s t k n k' n' w p q l cap m cap' hN his hit
    have E := Lib.hid (teqfunc_of N ih s t)
    clear ih
    have b0 : ∀ x y, Below w.heap.size w ((w.alloc x).alloc y) := fun x y => ((Below.refl _ _).alloc (Nat.le_refl _) _).alloc (by simp) _
    by_cases hk : k = k'
    · have hd1 : (k == k') = true := by simp [hk]
      by_cases hn : n = n'
      · have hd2 : (n == n') = true := by simp [hn]
        have he : X.eq1 k n s k' n' t = X.eqX s t := by simp [X.eq1, hk, hn]
        rw [he]
        clear he hk hn
        go_enter Tryz.func116, Tryz.ntmps116
        go_wp2_with fail
        refine (E.out _ p q l cap m cap' (by omega) ((his.alloc _).alloc _) ((hit.alloc _).alloc _)).mono ?_
        rintro e w' ⟨rfl, hb1⟩
        go_wp2_with fail
        go_ret
        exact ⟨rfl, (b0 _ _).trans (hb1.mono (by simp; omega))⟩
      · have hd2 : (n == n') = false := by simp [hn]
        have he : X.eq1 k n s k' n' t = false := by simp [X.eq1, hn]
        rw [he]
        clear he hk hn
        go_enter Tryz.func116, Tryz.ntmps116
        go_wp2_with fail
        go_ret
        exact ⟨rfl, b0 _ _⟩
    · have hd1 : (k == k') = false := by simp [hk]
      have he : X.eq1 k n s k' n' t = false := by simp [X.eq1, hk]
      rw [he]
      clear he hk
      go_enter Tryz.func116, Tryz.ntmps116
      go_wp2_with fail
      go_ret
      exact ⟨rfl, b0 _ _⟩

end Go.Proofs.YtjkcopgfcafpeaaGreatDoor

/-
  The walk of all, for whatever function is handed to it; counting nodes. Conditions: none but that the term lies in memory.
-/
set_option linter.unusedSimpArgs false
set_option linter.unusedVariables false
namespace Go.Proofs.YtjkcopgfcafpeaaGreatDoor
open Go.RowKit

/-- each term of a list has a property -/
def X.AllX (G : Int → Int → X → Prop) : X → Prop
  | .nil => True
  | .cons k n a r => G k n a ∧ X.AllX G a ∧ X.AllX G r

theorem X.AllX.at {G : Int → Int → X → Prop} {t : X} : ∀ {i : Nat}, X.AllX G t → i < t.len → G (t.gk i) (t.gn i) (t.ga i) ∧ X.AllX G (t.ga i) := by
  induction t with
  | nil => intro _ _ h; exact absurd h (Nat.not_lt_zero _)
  | cons k n a r iha ihr =>
    intro i h hi
    cases i with
    | zero => exact ⟨h.1, h.2.1⟩
    | succ i => exact ihr h.2.2 (by simp only [X.len] at hi; omega)

theorem X.AllX.triv {G : Int → Int → X → Prop} (h : ∀ k n a, G k n a) (t : X) : X.AllX G t := by
  induction t with
  | nil => trivial
  | cons k n a r iha ihr => exact ⟨h _ _ _, iha, ihr⟩

theorem walk_live {σ : Type} {f : σ → Int → Int → X → σ × Bool} {L : σ → Prop} (hl : ∀ s k n a, L s → (f s k n a).2 = true → L (f s k n a).1) (t : X) :
    ∀ s, L s → (X.walk f s t).2 = true → L (X.walk f s t).1 := by
  induction t with
  | nil => intro s h _; exact h
  | cons k n a r iha ihr =>
    intro s h hw
    simp only [X.walk] at hw ⊢
    split at hw
    · rename_i h1
      rw [if_pos h1]
      split at hw
      · rename_i h2
        rw [if_pos h2]
        exact ihr _ (iha _ (hl _ _ _ _ h h1) h2) hw
      · exact absurd hw (by simp)
    · exact absurd hw (by simp)

theorem walk1_live {σ : Type} {f : σ → Int → Int → X → σ × Bool} {L : σ → Prop} (hl : ∀ s k n a, L s → (f s k n a).2 = true → L (f s k n a).1) (s : σ) (k n : Int) (a : X) (h : L s) (hw : (X.walk1 f s k n a).2 = true) : L (X.walk1 f s k n a).1 := by
  rw [← X.walk_one] at hw ⊢
  exact walk_live hl _ s h hw

/-- what a function that is handed to all must be: f is what it does, of a state s; I says how the state lies in memory, L of which states it is asked, R what it may turn -/
structure Fits {σ : Type} (run : Value → World → (Ending → World → Prop) → Prop) (f : σ → Int → Int → X → σ × Bool) (L : σ → Prop) (I : σ → World → Prop) (R : World → World → Prop) (G : Int → Int → X → Prop) : Prop where
  run : ∀ s k n a w p l cap, L s → I s w → G k n a → IsX w a p l cap →
    run (.agg #[.int .i64 k, .int .i64 n, .slice p l cap]) w fun e w' => e = .returned (.bool (f s k n a).2) ∧ I (f s k n a).1 w' ∧ R w w'
  live : ∀ s k n a, L s → (f s k n a).2 = true → L (f s k n a).1
  trans : ∀ a b c, R a b → R b c → R a c
  alloc : ∀ s w o, I s w → I s (w.alloc o) ∧ R w (w.alloc o)
  keeps : ∀ s w w', I s w → R w w' → Keeps3 w w'

set_option maxHeartbeats 1000000 in
theorem all_count1 {σ : Type} {c0 : Nat} {f : σ → Int → Int → X → σ × Bool} {L : σ → Prop} {I : σ → World → Prop} {R : World → World → Prop} {G : Int → Int → X → Prop}
    (hf : Fits (fun v w Q => Calls Tryz.prog 133 #[v, .pointer (some ⟨c0, 0, none⟩)] w Q) f L I R G) (N : Nat) :
    ∀ (a : X) (s : σ) (k n : Int) (w : World) (p : Option Addr) (l cap : Nat), a.sz < N → L s → I s w → G k n a → X.AllX G a → IsX w a p l cap →
    Calls Tryz.prog 69 #[.agg #[.int .i64 k, .int .i64 n, .slice p l cap], .func (Fn.func 133) #[] #[.pointer (some ⟨c0, 0, none⟩)]] w fun e w' =>
      e = .returned (.bool (X.walk1 f s k n a).2) ∧ I (X.walk1 f s k n a).1 w' ∧ R w w' := by
  induction N with
  | zero => intro a s k n w p l cap hN; omega
  | succ N ih =>
    intro a s k n w p l cap hN hL hI hG hA his
    have hlen := a.len_le_sz
    obtain ⟨hn, hcap, hmax, hnil, hrow⟩ := id his
    subst hn
    unfold maxLen at hmax
    have IH := Lib.hid ih
    clear ih
    have HI := Lib.hid hI
    clear hI
    have HA := Lib.hid hA
    clear hA
    obtain ⟨rs, rb, hres⟩ : ∃ rs rb, X.walk1 f s k n a = (rs, rb) := ⟨_, _, rfl⟩
    rw [hres]
    dsimp only
    have HR := Lib.hid hres
    clear hres
    go_enter Tryz.func69, Tryz.ntmps69
    go_wp2_with fail
    refine (hf.run s k n a _ p a.len cap hL (hf.alloc s w _ HI.out).1 hG (his.alloc _)).mono ?_
    rintro e w1 ⟨rfl, hI1, hR1⟩
    have hbox1 : w1.cell? ⟨w.heap.size, 2, none⟩ = some (.slice p a.len cap) := hf.keeps s _ _ (hf.alloc s w _ HI.out).1 hR1 w.heap.size ⟨2, p, a.len, cap, by simp⟩ _ _ (by simp)
    have hR0 : R w w1 := hf.trans _ _ _ (hf.alloc s w _ HI.out).2 hR1
    clear hR1
    have HF := Lib.hid hf
    cases hb : (f s k n a).2 with
    | false =>
      have e1 : X.walk1 f s k n a = ((f s k n a).1, false) := by unfold X.walk1; rw [hb]; rfl
      rw [HR.out] at e1
      obtain ⟨rfl, rfl⟩ := Prod.mk.inj e1
      clear hf
      go_wp2_with fail
      go_ret
      exact ⟨rfl, hI1, hR0⟩
    | true =>
      have e1 : X.walk1 f s k n a = X.walk f (f s k n a).1 a := by unfold X.walk1; rw [hb]; rfl
      rw [HR.out] at e1
      have hL1 : L (f s k n a).1 := hf.live s k n a hL hb
      generalize (f s k n a).1 = s1 at hI1 hL1 e1
      have HS := Lib.hid e1.symm
      clear e1 hb hL HR
      have HL1 := Lib.hid hL1
      have HI1 := Lib.hid hI1
      have HR0 := Lib.hid hR0
      clear hf hL1 hI1 hR0
      go_wp2_with fail
      clear hbox1
      go_loopw [14] (fun i wr => ∃ (j : Nat) (t : σ), j ≤ a.len ∧ i = .int .i64 (j : Int) ∧ L t ∧ I t wr ∧ R w wr ∧ X.walk f t (a.drop j) = (rs, rb))
        (fun i _ => a.len - (intOf i).toNat)
      case atStart => exact ⟨0, s1, Nat.zero_le _, rfl, HL1.out, HI1.out, HR0.out, by rw [X.drop_zero]; exact HS.out⟩
      case round =>
        clear HL1 HI1 HR0 HS
        obtain ⟨j, t, hj, rfl, hLt, hIt, hRt, hmo⟩ := hrel
        have HM := Lib.hid hmo
        have HLt := Lib.hid hLt
        have HIt := Lib.hid hIt
        have HRt := Lib.hid hRt
        clear hmo hLt hIt hRt
        by_cases hlt : j < a.len
        · rcases hrow with h0 | ⟨b, off, rfl, hr⟩
          · omega
          obtain ⟨hck, hcn, p', n', cap', hc, hi⟩ := base3_at (HF.out.keeps s _ _ HI.out HRt.out) hr hlt
          have hg := a.sz_ga j hlt
          obtain ⟨hG', hA'⟩ := HA.out.at hlt
          have HG := Lib.hid hG'
          have HA' := Lib.hid hA'
          clear hG' hA'
          go_wp2_with fail
          refine (IH.out (a.ga j) t _ _ _ p' n' cap' (by omega) HLt.out (HF.out.alloc t wr _ HIt.out).1 HG.out HA'.out (hi.alloc _)).mono ?_
          rintro e w' ⟨rfl, hI2, hR2⟩
          have hR3 : R w w' := HF.out.trans _ _ _ HRt.out (HF.out.trans _ _ _ (HF.out.alloc t wr _ HIt.out).2 hR2)
          have hw := X.walk_drop f t a j hlt
          have hlv := walk1_live HF.out.live t (a.gk j) (a.gn j) (a.ga j) HLt.out
          rw [HM.out] at hw
          have HI2 := Lib.hid hI2
          have HR3 := Lib.hid hR3
          have HW := Lib.hid hw
          have HLV := Lib.hid hlv
          clear hI2 hR2 hR3 hw hlv
          cases hb2 : (X.walk1 f t (a.gk j) (a.gn j) (a.ga j)).2 with
          | false =>
            go_wp2_with fail
            go_ret
            have hw := HW.out
            rw [hb2] at hw
            simp only [Bool.false_eq_true, if_false] at hw
            obtain ⟨rfl, rfl⟩ := Prod.mk.inj hw
            exact ⟨rfl, HI2.out, HR3.out⟩
          | true =>
            go_wp2_with fail
            go_roundw
            case rel =>
              have hw := HW.out
              rw [hb2] at hw
              simp only [if_true] at hw
              exact ⟨j + 1, _, by omega, by go_num, HLV.out hb2, HI2.out, HR3.out, hw.symm⟩
            case measure => simp [intOf]; omega
        · go_wp2_with fail
          go_ret
          have h1 := HM.out
          rw [X.drop_end a j (by omega)] at h1
          simp only [X.walk] at h1
          obtain ⟨rfl, rfl⟩ := Prod.mk.inj h1
          exact ⟨rfl, HIt.out, HRt.out⟩

end Go.Proofs.YtjkcopgfcafpeaaGreatDoor

/-
  The walk of all, for the other functions that are handed to it. Conditions: none but that the term lies in memory.
-/
set_option linter.unusedSimpArgs false
set_option linter.unusedVariables false
namespace Go.Proofs.YtjkcopgfcafpeaaGreatDoor
open Go.RowKit

set_option maxHeartbeats 1000000 in
theorem all_sort1 {σ : Type} {c0 : Nat} {f : σ → Int → Int → X → σ × Bool} {L : σ → Prop} {I : σ → World → Prop} {R : World → World → Prop} {G : Int → Int → X → Prop}
    (hf : Fits (fun v w Q => Calls Tryz.prog 70 #[v, .pointer (some ⟨c0, 0, none⟩)] w Q) f L I R G) (N : Nat) :
    ∀ (a : X) (s : σ) (k n : Int) (w : World) (p : Option Addr) (l cap : Nat), a.sz < N → L s → I s w → G k n a → X.AllX G a → IsX w a p l cap →
    Calls Tryz.prog 69 #[.agg #[.int .i64 k, .int .i64 n, .slice p l cap], .func (Fn.func 70) #[] #[.pointer (some ⟨c0, 0, none⟩)]] w fun e w' =>
      e = .returned (.bool (X.walk1 f s k n a).2) ∧ I (X.walk1 f s k n a).1 w' ∧ R w w' := by
  induction N with
  | zero => intro a s k n w p l cap hN; omega
  | succ N ih =>
    intro a s k n w p l cap hN hL hI hG hA his
    have hlen := a.len_le_sz
    obtain ⟨hn, hcap, hmax, hnil, hrow⟩ := id his
    subst hn
    unfold maxLen at hmax
    have IH := Lib.hid ih
    clear ih
    have HI := Lib.hid hI
    clear hI
    have HA := Lib.hid hA
    clear hA
    obtain ⟨rs, rb, hres⟩ : ∃ rs rb, X.walk1 f s k n a = (rs, rb) := ⟨_, _, rfl⟩
    rw [hres]
    dsimp only
    have HR := Lib.hid hres
    clear hres
    go_enter Tryz.func69, Tryz.ntmps69
    go_wp2_with fail
    refine (hf.run s k n a _ p a.len cap hL (hf.alloc s w _ HI.out).1 hG (his.alloc _)).mono ?_
    rintro e w1 ⟨rfl, hI1, hR1⟩
    have hbox1 : w1.cell? ⟨w.heap.size, 2, none⟩ = some (.slice p a.len cap) := hf.keeps s _ _ (hf.alloc s w _ HI.out).1 hR1 w.heap.size ⟨2, p, a.len, cap, by simp⟩ _ _ (by simp)
    have hR0 : R w w1 := hf.trans _ _ _ (hf.alloc s w _ HI.out).2 hR1
    clear hR1
    have HF := Lib.hid hf
    cases hb : (f s k n a).2 with
    | false =>
      have e1 : X.walk1 f s k n a = ((f s k n a).1, false) := by unfold X.walk1; rw [hb]; rfl
      rw [HR.out] at e1
      obtain ⟨rfl, rfl⟩ := Prod.mk.inj e1
      clear hf
      go_wp2_with fail
      go_ret
      exact ⟨rfl, hI1, hR0⟩
    | true =>
      have e1 : X.walk1 f s k n a = X.walk f (f s k n a).1 a := by unfold X.walk1; rw [hb]; rfl
      rw [HR.out] at e1
      have hL1 : L (f s k n a).1 := hf.live s k n a hL hb
      generalize (f s k n a).1 = s1 at hI1 hL1 e1
      have HS := Lib.hid e1.symm
      clear e1 hb hL HR
      have HL1 := Lib.hid hL1
      have HI1 := Lib.hid hI1
      have HR0 := Lib.hid hR0
      clear hf hL1 hI1 hR0
      go_wp2_with fail
      clear hbox1
      go_loopw [14] (fun i wr => ∃ (j : Nat) (t : σ), j ≤ a.len ∧ i = .int .i64 (j : Int) ∧ L t ∧ I t wr ∧ R w wr ∧ X.walk f t (a.drop j) = (rs, rb))
        (fun i _ => a.len - (intOf i).toNat)
      case atStart => exact ⟨0, s1, Nat.zero_le _, rfl, HL1.out, HI1.out, HR0.out, by rw [X.drop_zero]; exact HS.out⟩
      case round =>
        clear HL1 HI1 HR0 HS
        obtain ⟨j, t, hj, rfl, hLt, hIt, hRt, hmo⟩ := hrel
        have HM := Lib.hid hmo
        have HLt := Lib.hid hLt
        have HIt := Lib.hid hIt
        have HRt := Lib.hid hRt
        clear hmo hLt hIt hRt
        by_cases hlt : j < a.len
        · rcases hrow with h0 | ⟨b, off, rfl, hr⟩
          · omega
          obtain ⟨hck, hcn, p', n', cap', hc, hi⟩ := base3_at (HF.out.keeps s _ _ HI.out HRt.out) hr hlt
          have hg := a.sz_ga j hlt
          obtain ⟨hG', hA'⟩ := HA.out.at hlt
          have HG := Lib.hid hG'
          have HA' := Lib.hid hA'
          clear hG' hA'
          go_wp2_with fail
          refine (IH.out (a.ga j) t _ _ _ p' n' cap' (by omega) HLt.out (HF.out.alloc t wr _ HIt.out).1 HG.out HA'.out (hi.alloc _)).mono ?_
          rintro e w' ⟨rfl, hI2, hR2⟩
          have hR3 : R w w' := HF.out.trans _ _ _ HRt.out (HF.out.trans _ _ _ (HF.out.alloc t wr _ HIt.out).2 hR2)
          have hw := X.walk_drop f t a j hlt
          have hlv := walk1_live HF.out.live t (a.gk j) (a.gn j) (a.ga j) HLt.out
          rw [HM.out] at hw
          have HI2 := Lib.hid hI2
          have HR3 := Lib.hid hR3
          have HW := Lib.hid hw
          have HLV := Lib.hid hlv
          clear hI2 hR2 hR3 hw hlv
          cases hb2 : (X.walk1 f t (a.gk j) (a.gn j) (a.ga j)).2 with
          | false =>
            go_wp2_with fail
            go_ret
            have hw := HW.out
            rw [hb2] at hw
            simp only [Bool.false_eq_true, if_false] at hw
            obtain ⟨rfl, rfl⟩ := Prod.mk.inj hw
            exact ⟨rfl, HI2.out, HR3.out⟩
          | true =>
            go_wp2_with fail
            go_roundw
            case rel =>
              have hw := HW.out
              rw [hb2] at hw
              simp only [if_true] at hw
              exact ⟨j + 1, _, by omega, by go_num, HLV.out hb2, HI2.out, HR3.out, hw.symm⟩
            case measure => simp [intOf]; omega
        · go_wp2_with fail
          go_ret
          have h1 := HM.out
          rw [X.drop_end a j (by omega)] at h1
          simp only [X.walk] at h1
          obtain ⟨rfl, rfl⟩ := Prod.mk.inj h1
          exact ⟨rfl, HIt.out, HRt.out⟩

end Go.Proofs.YtjkcopgfcafpeaaGreatDoor

