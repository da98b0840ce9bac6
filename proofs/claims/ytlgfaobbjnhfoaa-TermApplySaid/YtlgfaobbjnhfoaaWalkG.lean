/-
  The walks of Behind. Conditions: none but that the sort lies in memory.
-/
import Derived.Test.YtlgfaobbjnhfoaaWalkF
namespace Go.Proofs.Ytlgfaobbjnhfoaa
open Go.RowKit

/-- what Behind returns -/
def T.bE (t : T) (k : Int) : Int := if t.valid then (if 0 ≤ k ∧ k ≤ t.len then 0 else 2) else 6
def T.bT (t : T) (k : Int) : T := if t.valid ∧ 0 ≤ k ∧ k ≤ t.len then t.drop k.toNat else .nil

theorem own_nil (w : World) (lo hi : Nat) : Own w .nil none 0 lo hi := ⟨Nat.le_refl _, by simp [maxLen], fun _ => rfl, Or.inl rfl⟩

/-- the slice behind k arguments -/
theorem IsT.drop {w : World} {t : T} {p : Option Addr} {n cap k : Nat} (h : IsT w t p n cap) (hk : k ≤ n) : IsT w (t.drop k) (if cap = k then p else p.map (·.add k)) (n - k) (cap - k) := by
  obtain ⟨h1, h2, h3, h4, h5⟩ := h
  subst h1
  refine ⟨(T.len_drop t k).symm, by omega, by omega, ?_, ?_⟩
  · intro hn
    by_cases hc : cap = k
    · omega
    · rw [if_neg hc] at hn
      have := h4 (by simpa using hn)
      omega
  · by_cases h0 : t.len - k = 0
    · exact Or.inl h0
    · right
      rcases h5 with h5 | ⟨b, off, rfl, hr⟩
      · omega
      · refine ⟨b, off + k, ?_, hr.drop k⟩
        rw [if_neg (by omega)]
        simp only [Option.map_some, Option.some.injEq]
        unfold Addr.add
        split
        · simp_all
        · rfl

set_option maxHeartbeats 400000 in
theorem behind_bad (t : T) (w : World) (p : Option Addr) (n cap : Nat) (k : Int) (his : IsT w t p n cap) (hv : t.valid = false) :
    Calls Try.prog 56 #[.agg #[.slice p n cap], .int .i64 k] w fun e w' => e = .returned (.tuple #[.agg #[.slice none 0 0], .int .i64 6]) ∧ Below w.heap.size w w' := by
  go_enter Try.func56, Try.ntmps56
  go_wp2_with fail
  refine (check_no t _ p n cap ((his.alloc _).alloc _) hv).mono ?_
  rintro e w1 ⟨rfl, hb1⟩
  obtain ⟨hc1, hf1⟩ := bcell hb1
  have hb : Below w.heap.size w w1 := (((Below.refl w.heap.size w).alloc (Nat.le_refl _) _).alloc (by simp) _).trans (hb1.mono (by simp; omega))
  have hr1 : w1.cell? ⟨w.heap.size + 1, 0, none⟩ = some (.slice none 0 0) := by rw [hc1 _ _ (by simp)]; simp
  go_wp2_with fail
  refine bodyPost_ret (v := .tuple #[.agg #[.slice none 0 0], .int .i64 6]) (by simp [results, Try.results56, go_sem, hr1]) rfl ⟨rfl, hb.setCell (by simp) _⟩

set_option maxHeartbeats 400000 in
theorem behind_arg (t : T) (w : World) (p : Option Addr) (n cap : Nat) (k : Int) (his : IsT w t p n cap) (hv : t.valid = true) (hk : k < 0 ∨ (n : Int) < k) :
    Calls Try.prog 56 #[.agg #[.slice p n cap], .int .i64 k] w fun e w' => e = .returned (.tuple #[.agg #[.slice none 0 0], .int .i64 2]) ∧ Below w.heap.size w w' := by
  rcases hk with hk | hk
  all_goals
    go_enter Try.func56, Try.ntmps56
    go_wp2_with fail
    refine (check_yes t _ p n cap ((his.alloc _).alloc _) hv).mono ?_
    rintro e w1 ⟨rfl, hb1⟩
    obtain ⟨hc1, hf1⟩ := bcell hb1
    have hb : Below w.heap.size w w1 := (((Below.refl w.heap.size w).alloc (Nat.le_refl _) _).alloc (by simp) _).trans (hb1.mono (by simp; omega))
    have hr1 : w1.cell? ⟨w.heap.size + 1, 0, none⟩ = some (.slice none 0 0) := by rw [hc1 _ _ (by simp)]; simp
    by_cases h0 : 0 ≤ k
    all_goals
      first
      | omega
      | (go_wp2_with fail
         refine bodyPost_ret (v := .tuple #[.agg #[.slice none 0 0], .int .i64 2]) (by simp [results, Try.results56, go_sem, hr1]) rfl ⟨rfl, hb.setCell (by simp) _⟩)

set_option maxHeartbeats 400000 in
theorem behind_ok (t : T) (w : World) (p : Option Addr) (n cap k : Nat) (his : IsT w t p n cap) (hv : t.valid = true) (hk : k ≤ n) :
    Calls Try.prog 56 #[.agg #[.slice p n cap], .int .i64 (k : Int)] w fun e w' => ∃ q c, e = .returned (.tuple #[.agg #[.slice q (t.drop k).len c], .int .i64 0]) ∧ Own w' (t.drop k) q c w.heap.size w'.heap.size ∧ Below w.heap.size w w' := by
  have h60 := t.valid_nodes hv
  have h60' := T.nodes_drop_le t k
  have hcap := his.2.1
  have hmax := his.2.2.1
  unfold maxLen at hmax
  have hck : k < cap ∨ k = cap := by omega
  rcases hck with hck | rfl
  · go_enter Try.func56, Try.ntmps56
    go_wp2_with fail
    refine (check_yes t _ p n cap ((his.alloc _).alloc _) hv).mono ?_
    rintro e w1 ⟨rfl, hb1⟩
    have hi1 := (((his.alloc _).alloc _).below hb1).drop hk
    rw [if_neg (by omega)] at hi1
    have HI := Lib.hid hi1
    clear hi1
    obtain ⟨hc1, hf1⟩ := bcell hb1
    have hb : Below w.heap.size w w1 := (((Below.refl w.heap.size w).alloc (Nat.le_refl _) _).alloc (by simp) _).trans (hb1.mono (by simp; omega))
    have hz1 := hb1.size
    simp only [World.size_alloc] at hz1
    go_wp2_with fail
    refine (fresh_any (t.drop k).nodes (t.drop k) _ _ _ _ (Nat.le_refl _) (by omega) HI.out).mono ?_
    rintro e w2 ⟨q, c, rfl, hO, hb2⟩
    have hr1 : w2.cell? ⟨w.heap.size + 1, 0, none⟩ = some (.slice none 0 0) := by rw [(bcell hb2).1 _ _ (by omega), hc1 _ _ (by simp)]; simp
    have hr2 : w2.frozen? ⟨w.heap.size + 1, 0, none⟩ = false := by rw [(bcell hb2).2 _ _ (by omega), hf1 _ _ (by simp)]; simp
    go_wp2_with fail
    refine bodyPost_ret (v := .tuple #[.agg #[.slice q (t.drop k).len c], .int .i64 0]) (by simp [results, Try.results56, go_sem, hr1]) rfl ⟨q, c, rfl, ?_, (hb.trans (hb2.mono hb.size)).setCell (by simp) _⟩
    have := (hO.set (a := ⟨w.heap.size + 1, 0, none⟩) (show w.heap.size + 1 < w1.heap.size by omega) (.slice q (t.drop k).len c)).mono (lo' := w.heap.size) (by omega) (Nat.le_refl _)
    simpa [World.setCell] using this
  · go_enter Try.func56, Try.ntmps56
    go_wp2_with fail
    refine (check_yes t _ p n k ((his.alloc _).alloc _) hv).mono ?_
    rintro e w1 ⟨rfl, hb1⟩
    have hi1 := (((his.alloc _).alloc _).below hb1).drop hk
    rw [if_pos rfl, show n - k = 0 by omega, Nat.sub_self] at hi1
    have HI := Lib.hid hi1
    clear hi1
    obtain ⟨hc1, hf1⟩ := bcell hb1
    have hb : Below w.heap.size w w1 := (((Below.refl w.heap.size w).alloc (Nat.le_refl _) _).alloc (by simp) _).trans (hb1.mono (by simp; omega))
    have hz1 := hb1.size
    simp only [World.size_alloc] at hz1
    go_wp2_with fail
    refine (fresh_any (t.drop k).nodes (t.drop k) _ _ _ _ (Nat.le_refl _) (by omega) HI.out).mono ?_
    rintro e w2 ⟨q, c, rfl, hO, hb2⟩
    have hr1 : w2.cell? ⟨w.heap.size + 1, 0, none⟩ = some (.slice none 0 0) := by rw [(bcell hb2).1 _ _ (by omega), hc1 _ _ (by simp)]; simp
    have hr2 : w2.frozen? ⟨w.heap.size + 1, 0, none⟩ = false := by rw [(bcell hb2).2 _ _ (by omega), hf1 _ _ (by simp)]; simp
    go_wp2_with fail
    refine bodyPost_ret (v := .tuple #[.agg #[.slice q (t.drop k).len c], .int .i64 0]) (by simp [results, Try.results56, go_sem, hr1]) rfl ⟨q, c, rfl, ?_, (hb.trans (hb2.mono hb.size)).setCell (by simp) _⟩
    have := (hO.set (a := ⟨w.heap.size + 1, 0, none⟩) (show w.heap.size + 1 < w1.heap.size by omega) (.slice q (t.drop k).len c)).mono (lo' := w.heap.size) (by omega) (Nat.le_refl _)
    simpa [World.setCell] using this

theorem behind_any (t : T) (w : World) (p : Option Addr) (n cap : Nat) (k : Int) (his : IsT w t p n cap) :
    Calls Try.prog 56 #[.agg #[.slice p n cap], .int .i64 k] w fun e w' => ∃ q c, e = .returned (.tuple #[.agg #[.slice q (t.bT k).len c], .int .i64 (t.bE k)]) ∧ Own w' (t.bT k) q c w.heap.size w'.heap.size ∧ Below w.heap.size w w' := by
  have hn := his.1
  cases hv : t.valid with
  | false =>
    have e1 : t.bT k = .nil := by simp [T.bT, hv]
    have e2 : t.bE k = 6 := by simp [T.bE, hv]
    rw [e1, e2]
    exact (behind_bad t w p n cap k his hv).mono fun _ w' ⟨h1, h2⟩ => ⟨none, 0, h1, own_nil w' _ _, h2⟩
  | true =>
    by_cases hk : 0 ≤ k ∧ k ≤ t.len
    · have e1 : t.bT k = t.drop k.toNat := by simp [T.bT, hv, hk]
      have e2 : t.bE k = 0 := by simp [T.bE, hv, hk]
      rw [e1, e2]
      have := behind_ok t w p n cap k.toNat his hv (by omega)
      rwa [show ((k.toNat : Nat) : Int) = k by omega] at this
    · have e1 : t.bT k = .nil := by unfold T.bT; rw [if_neg (fun h => hk h.2)]
      have e2 : t.bE k = 2 := by unfold T.bE; rw [if_pos hv, if_neg hk]
      rw [e1, e2]
      exact (behind_arg t w p n cap k his hv (by omega)).mono fun _ w' ⟨h1, h2⟩ => ⟨none, 0, h1, own_nil w' _ _, h2⟩

end Go.Proofs.Ytlgfaobbjnhfoaa
