/-
  The walks of equality. Conditions: none but that the sorts lie in memory.
-/
import Derived.Test.YtlgfaobbjnhfoaaWalkB
namespace Go.Proofs.Ytlgfaobbjnhfoaa
open Go.RowKit

set_option maxRecDepth 100000 in
set_option maxHeartbeats 400000 in
theorem equal_any (N : Nat) : ∀ (s t : T) (w : World) (p q : Option Addr) (n cap m cap' : Nat), s.nodes ≤ N → IsT w s p n cap → IsT w t q m cap' →
    Calls Try.prog 96 #[.agg #[.slice p n cap], .agg #[.slice q m cap']] w fun e w' => e = .returned (.bool (T.eqT s t)) ∧ Below w.heap.size w w' := by
  induction N with
  | zero => intro s t w p q n cap m cap' hN; have := s.nodes_pos; omega
  | succ N ih =>
    intro s t w p q n cap m cap' hN his hit
    obtain ⟨hn, hcap, hmax, hnil, hrow⟩ := his
    obtain ⟨hn', hcap', hmax', hnil', hrow'⟩ := hit
    subst hn hn'
    unfold maxLen at hmax hmax'
    have IH := Lib.hid ih
    clear ih
    by_cases hl : s.len = t.len
    case neg =>
      have hd : ((s.len : Int) != (t.len : Int)) = true := by rw [bne_iff_ne]; omega
      go_enter Try.func96, Try.ntmps96
      go_wp2_with fail
      go_ret
      exact ⟨ret_bool (T.eqT_len s t hl).symm, ((Below.refl _ _).alloc (Nat.le_refl _) _).alloc (by simp) _⟩
    case pos =>
      have hd : ((s.len : Int) != (t.len : Int)) = false := by simp [hl]
      have hle : t.len ≤ s.len := by omega
      have hle' : s.len ≤ t.len := by omega
      clear hl
      go_enter Try.func96, Try.ntmps96
      go_wp2_with fail
      go_loopw [16] (fun i wr => ∃ k : Nat, k ≤ s.len ∧ i = .int .i64 (k : Int) ∧ T.eqT (s.drop k) (t.drop k) = T.eqT s t ∧
          Below (w.heap.size + 2) ((w.alloc (.cells #[.slice p s.len cap] 40)).alloc (.cells #[.slice q t.len cap'] 40)) wr)
        (fun i _ => s.len - (intOf i).toNat)
      case atStart => exact ⟨0, Nat.zero_le _, rfl, by rw [T.drop_zero, T.drop_zero], Below.refl _ _⟩
      case round =>
        obtain ⟨k, hk, rfl, hmo, hb⟩ := hrel
        have HM := Lib.hid hmo
        clear hmo
        have hks := keeps_two hb
        obtain ⟨hbox1, hbox2⟩ := box_two hb
        by_cases hlt : k < s.len
        · rcases hrow with h0 | ⟨b, off, rfl, hr⟩
          · omega
          rcases hrow' with h0 | ⟨b', off', rfl, hr'⟩
          · omega
          obtain ⟨p1, n1, cap1, hc1, hi1⟩ := base_at hks hr hlt
          obtain ⟨p2, n2, cap2, hc2, hi2⟩ := base_at hks hr' (show k < t.len by omega)
          have hg := s.nodes_get k hlt
          clear hks
          go_wp2_with fail
          have hlt2 : k < t.len := by omega
          go_still_tail 10, (by kernel_rfl)
          change wpList _ _ _ _ _ wr.drew
          go_wp2_with fail
          refine (IH.out (s.get k) (t.get k) _ p1 p2 n1 cap1 n2 cap2 (by omega) hi1.drew hi2.drew).mono ?_
          rintro e w' ⟨rfl, hb1⟩
          go_wp2_with fail
          · go_ret
            exact ⟨ret_bool (T.eqT_not s t k hlt hlt2 HM.out (by assumption)).symm, (below_two hb).drew.trans (hb1.mono (below_two hb).size)⟩
          · go_roundw
            case rel => exact ⟨k + 1, by omega, by go_num, T.eqT_step s t k hlt hlt2 HM.out (by assumption), hb.drew.trans (hb1.mono (by have := hb.size; simp only [World.size_alloc] at this; exact this))⟩
            case measure => simp [intOf]; omega
        · go_wp2_with fail
          go_ret
          exact ⟨ret_bool (T.eqT_end s t k hlt (by omega) HM.out).symm, below_two hb⟩

set_option maxRecDepth 100000 in
set_option maxHeartbeats 400000 in
theorem refequal_any (N : Nat) : ∀ (s t : T) (w : World) (p q : Option Addr) (n cap m cap' : Nat), s.nodes ≤ N → IsT w s p n cap → IsT w t q m cap' →
    Calls Try.prog 42 #[.agg #[.slice p n cap], .agg #[.slice q m cap']] w fun e w' => e = .returned (.bool (T.eqT s t)) ∧ Below w.heap.size w w' := by
  induction N with
  | zero => intro s t w p q n cap m cap' hN; have := s.nodes_pos; omega
  | succ N ih =>
    intro s t w p q n cap m cap' hN his hit
    obtain ⟨hn, hcap, hmax, hnil, hrow⟩ := his
    obtain ⟨hn', hcap', hmax', hnil', hrow'⟩ := hit
    subst hn hn'
    unfold maxLen at hmax hmax'
    have IH := Lib.hid ih
    clear ih
    by_cases hl : s.len = t.len
    case neg =>
      have hd : ((s.len : Int) != (t.len : Int)) = true := by rw [bne_iff_ne]; omega
      go_enter Try.func42, Try.ntmps42
      go_wp2_with fail
      go_ret
      exact ⟨ret_bool (T.eqT_len s t hl).symm, ((Below.refl _ _).alloc (Nat.le_refl _) _).alloc (by simp) _⟩
    case pos =>
      have hd : ((s.len : Int) != (t.len : Int)) = false := by simp [hl]
      have hle : t.len ≤ s.len := by omega
      have hle' : s.len ≤ t.len := by omega
      clear hl
      go_enter Try.func42, Try.ntmps42
      go_wp2_with fail
      go_loopw [16] (fun i wr => ∃ k : Nat, k ≤ s.len ∧ i = .int .i64 (k : Int) ∧ T.eqT (s.drop k) (t.drop k) = T.eqT s t ∧
          Below (w.heap.size + 2) ((w.alloc (.cells #[.slice p s.len cap] 40)).alloc (.cells #[.slice q t.len cap'] 40)) wr)
        (fun i _ => s.len - (intOf i).toNat)
      case atStart => exact ⟨0, Nat.zero_le _, rfl, by rw [T.drop_zero, T.drop_zero], Below.refl _ _⟩
      case round =>
        obtain ⟨k, hk, rfl, hmo, hb⟩ := hrel
        have HM := Lib.hid hmo
        clear hmo
        have hks := keeps_two hb
        obtain ⟨hbox1, hbox2⟩ := box_two hb
        by_cases hlt : k < s.len
        · rcases hrow with h0 | ⟨b, off, rfl, hr⟩
          · omega
          rcases hrow' with h0 | ⟨b', off', rfl, hr'⟩
          · omega
          obtain ⟨p1, n1, cap1, hc1, hi1⟩ := base_at hks hr hlt
          obtain ⟨p2, n2, cap2, hc2, hi2⟩ := base_at hks hr' (show k < t.len by omega)
          have hg := s.nodes_get k hlt
          clear hks
          go_wp2_with fail
          have hlt2 : k < t.len := by omega
          go_still_tail 10, (by kernel_rfl)
          change wpList _ _ _ _ _ wr.drew
          go_wp2_with fail
          refine (IH.out (s.get k) (t.get k) _ p1 p2 n1 cap1 n2 cap2 (by omega) hi1.drew hi2.drew).mono ?_
          rintro e w' ⟨rfl, hb1⟩
          go_wp2_with fail
          · go_ret
            exact ⟨ret_bool (T.eqT_not s t k hlt hlt2 HM.out (by assumption)).symm, (below_two hb).drew.trans (hb1.mono (below_two hb).size)⟩
          · go_roundw
            case rel => exact ⟨k + 1, by omega, by go_num, T.eqT_step s t k hlt hlt2 HM.out (by assumption), hb.drew.trans (hb1.mono (by have := hb.size; simp only [World.size_alloc] at this; exact this))⟩
            case measure => simp [intOf]; omega
        · go_wp2_with fail
          go_ret
          exact ⟨ret_bool (T.eqT_end s t k hlt (by omega) HM.out).symm, below_two hb⟩

end Go.Proofs.Ytlgfaobbjnhfoaa
