/-
  The walks of the functions that only count: the depth and the order of a sort. Conditions: at most 60 nodes.
-/
import Derived.Test.YtlgfaobbjnhfoaaRows
import Derived.Test.YtlgfaobbjnhfoaaMem
import Derived.WalkSpells
import Derived.WalkLawsBesides
import Derived.Lib.Hide
import Derived.Deep.DeepFit
import Derived.StillTailTactics
import Derived.Deep.RegionWith
import Derived.BigQuiet
import Derived.Deep.QuietTactic
import Derived.Deep.LoopGhost
import Derived.Deep.DeepCutAuto
namespace Go.Proofs.Ytlgfaobbjnhfoaa
open Go.RowKit

set_option maxHeartbeats 400000 in
theorem high_any (N : Nat) : ∀ (t : T) (w : World) (p : Option Addr) (n cap : Nat), t.nodes ≤ N → t.nodes ≤ 60 → IsT w t p n cap →
    Calls Try.prog 102 #[.agg #[.slice p n cap]] w fun e w' => e = .returned (.int .i64 ((t.ord + 1 : Nat) : Int)) ∧ Below w.heap.size w w' := by
  induction N with
  | zero => intro t w p n cap hN; have := t.nodes_pos; omega
  | succ N ih =>
    intro t w p n cap hN h60 his
    have hlen := t.len_lt_nodes
    have hord := t.ord_lt_nodes
    obtain ⟨hn, hcap, hmax, hnil, hrow⟩ := his
    subst hn
    have hn60 : t.len ≤ 60 := by omega
    have IH := Lib.hid ih
    clear ih
    go_enter Try.func102, Try.ntmps102
    go_wp2_with fail
    go_loopw [3, 9] (fun v i wr => ∃ k m : Nat, k ≤ t.len ∧ i = .int .i64 (k : Int) ∧ v = .int .i64 (m : Int) ∧ m ≤ 60 ∧ max m (t.drop k).ord = t.ord ∧ Below (w.heap.size + 1) (w.alloc (.cells #[.slice p t.len cap] 40)) wr)
      (fun _ i _ => t.len - (intOf i).toNat)
    case atStart => exact ⟨0, 0, Nat.zero_le _, rfl, rfl, by omega, by rw [T.drop_zero]; omega, Below.refl _ _⟩
    case round =>
      obtain ⟨k, m, hk, rfl, rfl, hm, hmo, hb⟩ := hrel
      have HM := Lib.hid hmo
      clear hmo
      by_cases hlt : k < t.len
      · rcases hrow with h0 | ⟨b, off, rfl, hr⟩
        · omega
        obtain ⟨p', n', cap', hc, hi⟩ := round_at hb hr hlt
        have hg := t.nodes_get k hlt
        have ho := (t.get k).ord_lt_nodes
        go_wp2_with fail
        refine (IH.out (t.get k) _ p' n' cap' (by omega) (by omega) (hi.alloc _)).mono ?_
        rintro e w' ⟨rfl, hb1⟩
        go_wp2_with fail
        go_roundw
        case rel => exact ⟨k + 1, max m (1 + (t.get k).ord), by omega, by go_num, val_int (int_max _ _), by omega, by have h1 := HM.out; rw [T.ord_drop t k hlt] at h1; omega, round_next hb hb1⟩
        case measure => simp [intOf]; omega
      · go_wp2_with fail
        go_ret
        have h1 := HM.out
        rw [T.drop_end t k (by omega)] at h1
        simp only [T.ord] at h1
        exact ⟨ret_int (by omega), below_round hb⟩

set_option maxHeartbeats 400000 in
theorem depth_any (N : Nat) : ∀ (t : T) (w : World) (p : Option Addr) (n cap : Nat), t.nodes ≤ N → t.nodes ≤ 60 → IsT w t p n cap →
    Calls Try.prog 88 #[.agg #[.slice p n cap]] w fun e w' => e = .returned (.int .i64 ((t.ord + 1 : Nat) : Int)) ∧ Below w.heap.size w w' := by
  induction N with
  | zero => intro t w p n cap hN; have := t.nodes_pos; omega
  | succ N ih =>
    intro t w p n cap hN h60 his
    have hlen := t.len_lt_nodes
    have hord := t.ord_lt_nodes
    obtain ⟨hn, hcap, hmax, hnil, hrow⟩ := his
    subst hn
    have hn60 : t.len ≤ 60 := by omega
    have IH := Lib.hid ih
    clear ih
    go_enter Try.func88, Try.ntmps88
    go_wp2_with fail
    go_loopw [3, 9] (fun v i wr => ∃ k m : Nat, k ≤ t.len ∧ i = .int .i64 (k : Int) ∧ v = .int .i64 (m : Int) ∧ m ≤ 60 ∧ max m (t.drop k).ord = t.ord ∧ Below (w.heap.size + 1) (w.alloc (.cells #[.slice p t.len cap] 40)) wr)
      (fun _ i _ => t.len - (intOf i).toNat)
    case atStart => exact ⟨0, 0, Nat.zero_le _, rfl, rfl, by omega, by rw [T.drop_zero]; omega, Below.refl _ _⟩
    case round =>
      obtain ⟨k, m, hk, rfl, rfl, hm, hmo, hb⟩ := hrel
      have HM := Lib.hid hmo
      clear hmo
      by_cases hlt : k < t.len
      · rcases hrow with h0 | ⟨b, off, rfl, hr⟩
        · omega
        obtain ⟨p', n', cap', hc, hi⟩ := round_at hb hr hlt
        have hg := t.nodes_get k hlt
        have ho := (t.get k).ord_lt_nodes
        go_wp2_with fail
        refine (IH.out (t.get k) _ p' n' cap' (by omega) (by omega) (hi.alloc _)).mono ?_
        rintro e w' ⟨rfl, hb1⟩
        go_wp2_with fail
        go_roundw
        case rel => exact ⟨k + 1, max m (1 + (t.get k).ord), by omega, by go_num, val_int (int_max _ _), by omega, by have h1 := HM.out; rw [T.ord_drop t k hlt] at h1; omega, round_next hb hb1⟩
        case measure => simp [intOf]; omega
      · go_wp2_with fail
        go_ret
        have h1 := HM.out
        rw [T.drop_end t k (by omega)] at h1
        simp only [T.ord] at h1
        exact ⟨ret_int (by omega), below_round hb⟩

end Go.Proofs.Ytlgfaobbjnhfoaa
