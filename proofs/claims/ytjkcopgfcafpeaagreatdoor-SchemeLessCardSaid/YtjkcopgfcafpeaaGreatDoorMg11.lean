/-
  Parts of one proof, laid into one text: WalkF, WalkG. Conditions: each part names its own.
-/
import Derived.Test.YtjkcopgfcafpeaaGreatDoorMg07
import Derived.Test.YtjkcopgfcafpeaaGreatDoorMg05
import Derived.Deep.RegionLaw

/-
  The walks of fresh and Copy, which make a sort anew. Conditions: at most 60 nodes.
-/
namespace Go.Proofs.YtjkcopgfcafpeaaGreatDoor
open Go.RowKit

theorem infoS : (Tryz.prog.info? 47).map (fun i => (i.zero, i.size, i.bytes)) = some (some (.agg #[.slice none 0 0]), 1, 24) := by kernel_rfl

set_option maxHeartbeats 800000 in
theorem fresh_any (N : Nat) : ∀ (t : T) (w : World) (p : Option Addr) (n cap : Nat), t.nodes ≤ N → t.nodes ≤ 60 → IsT w t p n cap →
    Calls Tryz.prog 110 #[.slice p n cap] w fun e w' => ∃ q c, e = .returned (.slice q t.len c) ∧ Own w' t q c w.heap.size w'.heap.size ∧ Below w.heap.size w w' := by
  obtain ⟨i0, hi0, hz0, hz1', hz2⟩ := info_parts infoS
  induction N with
  | zero => intro t w p n cap hN; have := t.nodes_pos; omega
  | succ N ih =>
    intro t w p n cap hN h60 his
    have hlen := t.len_lt_nodes
    obtain ⟨hn, hcap, hmax, hnil, hrow⟩ := his
    subst hn
    have hn60 : t.len ≤ 60 := by omega
    have IH := Lib.hid ih
    clear ih
    go_enter Tryz.func110, Tryz.ntmps110
    go_wp2_with fail
    go_loopw [3, 8] (fun v i wr => ∃ (k : Nat) (q : Option Addr) (c : Nat), k ≤ t.len ∧ i = .int .i64 (k : Int) ∧ v = .slice q k c ∧ Got wr 47 t k (.slice q k c) w.heap.size ∧ Below w.heap.size w wr)
      (fun _ i _ => t.len - (intOf i).toNat)
    case atStart => exact ⟨0, none, 0, Nat.zero_le _, rfl, rfl, Got.start _ _ _ _ (Nat.le_refl _), Below.refl _ _⟩
    case round =>
      obtain ⟨k, q, c, hk, rfl, rfl, hgot, hb⟩ := hrel
      have HG := Lib.hid hgot
      clear hgot
      by_cases hlt : k < t.len
      · rcases hrow with h0 | ⟨b, off, rfl, hr⟩
        · omega
        obtain ⟨p', n', cap', hc, hi⟩ := base_at (Keeps.below hb) hr hlt
        have hg := t.nodes_get k hlt
        have hz := hb.size
        go_wp2_with fail
        refine (IH.out (t.get k) _ p' n' cap' (by omega) (by omega) (hi.alloc _)).mono ?_
        rintro e w1 ⟨q1, c1, rfl, hO, hb1⟩
        obtain ⟨xs, hown, hkids⟩ := HG.out
        have hownA : ∀ o, (w1.alloc o).ownsRow w.heap.size 47 1 (.slice q k c) k xs := fun o => by
          refine ((hown.alloc _).kept (row := none) ⟨hb1.os, hb1.tape, hb1.output, hb1.size, fun k hk _ => hb1.block k hk⟩ ?_).alloc o
          cases (Value.slice q k c).ownBlock with
          | none => exact Or.inl rfl
          | some g => exact Or.inr (by simp)
        have hz1 := hb1.size
        simp only [World.size_alloc] at hz1
        have hmx : k + 1 ≤ maxLen := by simp only [maxLen]; omega
        go_wp2_with (at_builtin; refine wpList_append_lies _ rfl _ _ 43 rfl w.heap.size 47 i0 (.agg #[.slice none 0 0]) 1 24 Tryz.underlying43 hi0 hz0 hz1' hz2 rfl (by decide) _ k xs rfl (hownA _) ⟨w1.heap.size, 0, none⟩ 1 1 [.slice q1 (t.get k).len c1] rfl rfl (cell_one_new _ _ _) (by simp [Value.oneCell']) (by decide) hmx (by omega) (by simp; omega) (w1.heap.size + 1) (by simp) ?_; intro g cp w3 hown3 hgrow hat hglt)
        have hfin := Got.round hlt hb hown hkids hb1 hO hown3 hgrow hat
        clear hown3 hgrow hat hownA
        go_roundw
        case rel => exact ⟨k + 1, some ⟨g, 0, none⟩, cp, by omega, by go_num, rfl, hfin.1, hfin.2⟩
        case measure => simp [intOf]; omega
      · go_wp2_with fail
        go_ret
        obtain ⟨q', c', he, ho⟩ := HG.out.finish hk hlt
        exact ⟨q', c', by rw [← he]; rfl, ho, hb⟩

set_option maxHeartbeats 800000 in
theorem copy_any (N : Nat) : ∀ (t : T) (w : World) (p : Option Addr) (n cap : Nat), t.nodes ≤ N → t.nodes ≤ 60 → IsT w t p n cap →
    Calls Tryz.prog 74 #[.agg #[.slice p n cap]] w fun e w' => ∃ q c, e = .returned (.agg #[.slice q t.len c]) ∧ Own w' t q c w.heap.size w'.heap.size ∧ Below w.heap.size w w' := by
  obtain ⟨i0, hi0, hz0, hz1', hz2⟩ := info_parts infoS
  induction N with
  | zero => intro t w p n cap hN; have := t.nodes_pos; omega
  | succ N ih =>
    intro t w p n cap hN h60 his
    have hlen := t.len_lt_nodes
    obtain ⟨hn, hcap, hmax, hnil, hrow⟩ := his
    subst hn
    have hn60 : t.len ≤ 60 := by omega
    have IH := Lib.hid ih
    clear ih
    go_enter Tryz.func74, Tryz.ntmps74
    go_wp2_with fail
    go_loopw [9] (fun i wr => ∃ (k : Nat) (q : Option Addr) (c : Nat), k ≤ t.len ∧ i = .int .i64 (k : Int) ∧ Got wr 47 t k (.slice q k c) (w.heap.size + 3) ∧ wr.heap[w.heap.size + 2]? = some (.cells #[.slice q k c] 47 (0, 0)) ∧
        Below (w.heap.size + 2) ((w.alloc (.cells #[.slice p t.len cap] 47)).alloc (.cells #[.slice none 0 0] 47)) wr)
      (fun i _ => t.len - (intOf i).toNat)
    case atStart =>
      have h0 := Got.start (((w.alloc (.cells #[.slice p t.len cap] 47)).alloc (.cells #[.slice none 0 0] 47)).alloc (.cells #[.slice none 0 0] 47)) 47 t (w.heap.size + 3) (by simp)
      have h1 := heap_new ((w.alloc (.cells #[.slice p t.len cap] 47)).alloc (.cells #[.slice none 0 0] 47)) (.cells #[.slice none 0 0] 47)
      simp only [World.size_alloc] at h1
      exact ⟨0, none, 0, Nat.zero_le _, rfl, h0, h1, (Below.refl _ _).alloc (by simp) _⟩
    case round =>
      obtain ⟨k, q, c, hk, rfl, hgot, hout, hb⟩ := hrel
      have HG := Lib.hid hgot
      have HOut := Lib.hid hout
      have ho1 := cell_of_one hout
      have ho2 := free_of_one hout
      have ho3 := lt_of_block hout
      clear hgot hout
      by_cases hlt : k < t.len
      · rcases hrow with h0 | ⟨b, off, rfl, hr⟩
        · omega
        obtain ⟨p', n', cap', hc, hi⟩ := base_at (keeps_two hb) hr hlt
        have hg := t.nodes_get k hlt
        obtain ⟨xs, hown, hkids⟩ := HG.out
        have hmx : k + 1 ≤ maxLen := by simp only [maxLen]; omega
        have hby : (k + 1) * 24 ≤ 140737488355328 := by omega
        have hz := hb.size
        simp only [World.size_alloc] at hz
        have ok : ∀ (w1 w3 : World) (Y : Obj), Below (wr.alloc (.cells #[.slice p' n' cap'] 47)).drew.heap.size (wr.alloc (.cells #[.slice p' n' cap'] 47)).drew w1 → (w1.alloc Y).grownBy w3 (Value.slice q k c).ownBlock → w3.heap[w.heap.size + 2]? = some (.cells #[.slice q k c] 47 (0, 0)) :=
          fun w1 w3 Y h1 h2 => out_kept (B := w.heap.size + 3) ho3 HOut.out (by omega) h1 hown.lt h2
        have OK := Lib.hid ok
        clear ok
        go_wp2_with fail
        go_region_law (first
          | (go_simp; go_at_call 74; refine (IH.out (t.get k) _ p' n' cap' (by omega) (by omega) ?_).mono ?_; exact (hi.alloc _).drew; rintro e w1 ⟨q1, c1, rfl, hO, hb1⟩;
             have hownA := fun o => (ownsRow_keep ((hown.alloc _).drew) hb1).alloc o; have hz1 := hb1.size; simp at hz1; have hz2' : w.heap.size + 3 ≤ w1.heap.size := (by omega); have oc1 := cell_of_one (call_kept ho3 HOut.out hb1); have oc2 := free_of_one (call_kept ho3 HOut.out hb1); have oc3 := fun o => cell_of_one (alloc_kept (call_kept ho3 HOut.out hb1) o); have oc4 : w.heap.size + 1 + 1 < w1.heap.size := (by omega))
          | (refine step_append_lies (w1.alloc (.cells #[.slice q1 (t.get k).len c1] 47)) rfl (.tmp 14) (.tmp 17) 43 rfl (w.heap.size + 3) 47 i0 (.agg #[.slice none 0 0]) 1 24 ?_ ?_ ?_ ?_ ?_ ?_ ?_ (.slice q k c) k xs ?_ ?_ ⟨w1.heap.size, 0, none⟩ 1 1 [.slice q1 (t.get k).len c1] ?_ ?_ ?_ ?_ ?_ ?_ ?_ ?_ (w1.heap.size+1) ?_ ?_; exact Tryz.underlying43; exact hi0; exact hz0; exact hz1'; exact hz2; rfl; exact Nat.one_pos; rfl; exact hownA _; rfl; rfl; exact cell_one_new _ _ _; exact one_slice _ _ _; exact Nat.one_pos; exact hmx; exact hby; exact base_le _ hz2'; exact size_new _ _; intro g cp w3 hown3 hgrow hat hglt; have hh3 := OK.out _ _ _ hb1 hgrow; have o1 := cell_of_one hh3; have o2 := free_of_one hh3))
        all_goals go_wp2_with fail
        all_goals
          go_roundw
          case rel => exact ⟨k + 1, some ⟨g, 0, none⟩, cp, by omega, by go_num, (Got.round' (wx := (wr.alloc (.cells #[.slice p' n' cap'] 47)).drew) hlt hown hkids (fun j hj => Below.heap_alloc wr _ j hj) (by simp) hb1 hO hown3 hgrow hat).set (Nat.lt_succ_self _) _, one_setCell hh3, (below_collect hb hz hb1 (by omega) hown.lt hgrow).setCell (Nat.le_refl _) _⟩
          case measure => simp [intOf]; omega
      · have hr1 := (box_two hb).2
        have hr2 : wr.frozen? ⟨w.heap.size + 1, 0, none⟩ = false := by rw [(bcell hb).2 _ _ (by omega)]; simp
        go_wp2_with fail
        obtain ⟨q', c', he, hO⟩ := HG.out.finish hk hlt
        obtain ⟨rfl, rfl, rfl⟩ : q = q' ∧ k = t.len ∧ c = c' := by simpa using he
        refine bodyPost_ret (v := .agg #[.slice q t.len c]) (by simp [results, Tryz.results74, go_sem, hr1]) rfl ⟨q, c, rfl, ?_, (below_two hb).setCell (by simp) _⟩
        have := (hO.set (a := ⟨w.heap.size + 1, 0, none⟩) (by simp) (.slice q t.len c)).mono (lo' := w.heap.size) (by omega) (Nat.le_refl _)
        simpa [World.setCell] using this

end Go.Proofs.YtjkcopgfcafpeaaGreatDoor

/-
  The walks of Behind. Conditions: none but that the sort lies in memory.
-/
namespace Go.Proofs.YtjkcopgfcafpeaaGreatDoor
open Go.RowKit

/-- what Behind returns -/
def T.bE (t : T) (k : Int) : Int := if t.valid then (if 0 ≤ k ∧ k ≤ t.len then 0 else 2) else 6
def T.bT (t : T) (k : Int) : T := if t.valid ∧ 0 ≤ k ∧ k ≤ t.len then t.drop k.toNat else .nil

theorem own_nil (w : World) (lo hi : Nat) : Own w .nil none 0 lo hi := ⟨Nat.le_refl _, by simp [maxLen], fun _ => rfl, Or.inl rfl⟩

/-- the slice behind k arguments -/
theorem IsT.drop {w : World} {t : T} {p : Option Addr} {n cap k : Nat} (h : IsT w t p n cap) (hk : k ≤ n) : IsT w (t.drop k) (if cap = k then p else p.map (·.add k)) (n - k) (cap - k) := by
  obtain ⟨h1, h2, h3, h4, h5⟩ := h
  subst h1
  refine ⟨(T.len_drop t k).symm, by omega, by omega, ?_, ?_⟩
  · intro hn
    by_cases hc : cap = k
    · omega
    · rw [if_neg hc] at hn
      have := h4 (by simpa using hn)
      omega
  · by_cases h0 : t.len - k = 0
    · exact Or.inl h0
    · right
      rcases h5 with h5 | ⟨b, off, rfl, hr⟩
      · omega
      · refine ⟨b, off + k, ?_, hr.drop k⟩
        rw [if_neg (by omega)]
        simp only [Option.map_some, Option.some.injEq]
        unfold Addr.add
        split
        · simp_all
        · rfl

set_option maxHeartbeats 400000 in
theorem behind_bad (t : T) (w : World) (p : Option Addr) (n cap : Nat) (k : Int) (his : IsT w t p n cap) (hv : t.valid = false) :
    Calls Tryz.prog 73 #[.agg #[.slice p n cap], .int .i64 k] w fun e w' => e = .returned (.tuple #[.agg #[.slice none 0 0], .int .i64 6]) ∧ Below w.heap.size w w' := by
  go_enter Tryz.func73, Tryz.ntmps73
  go_wp2_with fail
  refine (check_no t _ p n cap ((his.alloc _).alloc _) hv).mono ?_
  rintro e w1 ⟨rfl, hb1⟩
  obtain ⟨hc1, hf1⟩ := bcell hb1
  have hb : Below w.heap.size w w1 := (((Below.refl w.heap.size w).alloc (Nat.le_refl _) _).alloc (by simp) _).trans (hb1.mono (by simp; omega))
  have hr1 : w1.cell? ⟨w.heap.size + 1, 0, none⟩ = some (.slice none 0 0) := by rw [hc1 _ _ (by simp)]; simp
  go_wp2_with fail
  refine bodyPost_ret (v := .tuple #[.agg #[.slice none 0 0], .int .i64 6]) (by simp [results, Tryz.results73, go_sem, hr1]) rfl ⟨rfl, hb.setCell (by simp) _⟩

set_option maxHeartbeats 400000 in
theorem behind_arg (t : T) (w : World) (p : Option Addr) (n cap : Nat) (k : Int) (his : IsT w t p n cap) (hv : t.valid = true) (hk : k < 0 ∨ (n : Int) < k) :
    Calls Tryz.prog 73 #[.agg #[.slice p n cap], .int .i64 k] w fun e w' => e = .returned (.tuple #[.agg #[.slice none 0 0], .int .i64 2]) ∧ Below w.heap.size w w' := by
  rcases hk with hk | hk
  all_goals
    go_enter Tryz.func73, Tryz.ntmps73
    go_wp2_with fail
    refine (check_yes t _ p n cap ((his.alloc _).alloc _) hv).mono ?_
    rintro e w1 ⟨rfl, hb1⟩
    obtain ⟨hc1, hf1⟩ := bcell hb1
    have hb : Below w.heap.size w w1 := (((Below.refl w.heap.size w).alloc (Nat.le_refl _) _).alloc (by simp) _).trans (hb1.mono (by simp; omega))
    have hr1 : w1.cell? ⟨w.heap.size + 1, 0, none⟩ = some (.slice none 0 0) := by rw [hc1 _ _ (by simp)]; simp
    by_cases h0 : 0 ≤ k
    all_goals
      first
      | omega
      | (go_wp2_with fail
         refine bodyPost_ret (v := .tuple #[.agg #[.slice none 0 0], .int .i64 2]) (by simp [results, Tryz.results73, go_sem, hr1]) rfl ⟨rfl, hb.setCell (by simp) _⟩)

set_option maxHeartbeats 400000 in
theorem behind_ok (t : T) (w : World) (p : Option Addr) (n cap k : Nat) (his : IsT w t p n cap) (hv : t.valid = true) (hk : k ≤ n) :
    Calls Tryz.prog 73 #[.agg #[.slice p n cap], .int .i64 (k : Int)] w fun e w' => ∃ q c, e = .returned (.tuple #[.agg #[.slice q (t.drop k).len c], .int .i64 0]) ∧ Own w' (t.drop k) q c w.heap.size w'.heap.size ∧ Below w.heap.size w w' := by
  have h60 := t.valid_nodes hv
  have h60' := T.nodes_drop_le t k
  have hcap := his.2.1
  have hmax := his.2.2.1
  unfold maxLen at hmax
  have hck : k < cap ∨ k = cap := by omega
  rcases hck with hck | rfl
  · go_enter Tryz.func73, Tryz.ntmps73
    go_wp2_with fail
    refine (check_yes t _ p n cap ((his.alloc _).alloc _) hv).mono ?_
    rintro e w1 ⟨rfl, hb1⟩
    have hi1 := (((his.alloc _).alloc _).below hb1).drop hk
    rw [if_neg (by omega)] at hi1
    have HI := Lib.hid hi1
    clear hi1
    obtain ⟨hc1, hf1⟩ := bcell hb1
    have hb : Below w.heap.size w w1 := (((Below.refl w.heap.size w).alloc (Nat.le_refl _) _).alloc (by simp) _).trans (hb1.mono (by simp; omega))
    have hz1 := hb1.size
    simp only [World.size_alloc] at hz1
    go_wp2_with fail
    refine (fresh_any (t.drop k).nodes (t.drop k) _ _ _ _ (Nat.le_refl _) (by omega) HI.out).mono ?_
    rintro e w2 ⟨q, c, rfl, hO, hb2⟩
    have hr1 : w2.cell? ⟨w.heap.size + 1, 0, none⟩ = some (.slice none 0 0) := by rw [(bcell hb2).1 _ _ (by omega), hc1 _ _ (by simp)]; simp
    have hr2 : w2.frozen? ⟨w.heap.size + 1, 0, none⟩ = false := by rw [(bcell hb2).2 _ _ (by omega), hf1 _ _ (by simp)]; simp
    go_wp2_with fail
    refine bodyPost_ret (v := .tuple #[.agg #[.slice q (t.drop k).len c], .int .i64 0]) (by simp [results, Tryz.results73, go_sem, hr1]) rfl ⟨q, c, rfl, ?_, (hb.trans (hb2.mono hb.size)).setCell (by simp) _⟩
    have := (hO.set (a := ⟨w.heap.size + 1, 0, none⟩) (show w.heap.size + 1 < w1.heap.size by omega) (.slice q (t.drop k).len c)).mono (lo' := w.heap.size) (by omega) (Nat.le_refl _)
    simpa [World.setCell] using this
  · go_enter Tryz.func73, Tryz.ntmps73
    go_wp2_with fail
    refine (check_yes t _ p n k ((his.alloc _).alloc _) hv).mono ?_
    rintro e w1 ⟨rfl, hb1⟩
    have hi1 := (((his.alloc _).alloc _).below hb1).drop hk
    rw [if_pos rfl, show n - k = 0 by omega, Nat.sub_self] at hi1
    have HI := Lib.hid hi1
    clear hi1
    obtain ⟨hc1, hf1⟩ := bcell hb1
    have hb : Below w.heap.size w w1 := (((Below.refl w.heap.size w).alloc (Nat.le_refl _) _).alloc (by simp) _).trans (hb1.mono (by simp; omega))
    have hz1 := hb1.size
    simp only [World.size_alloc] at hz1
    go_wp2_with fail
    refine (fresh_any (t.drop k).nodes (t.drop k) _ _ _ _ (Nat.le_refl _) (by omega) HI.out).mono ?_
    rintro e w2 ⟨q, c, rfl, hO, hb2⟩
    have hr1 : w2.cell? ⟨w.heap.size + 1, 0, none⟩ = some (.slice none 0 0) := by rw [(bcell hb2).1 _ _ (by omega), hc1 _ _ (by simp)]; simp
    have hr2 : w2.frozen? ⟨w.heap.size + 1, 0, none⟩ = false := by rw [(bcell hb2).2 _ _ (by omega), hf1 _ _ (by simp)]; simp
    go_wp2_with fail
    refine bodyPost_ret (v := .tuple #[.agg #[.slice q (t.drop k).len c], .int .i64 0]) (by simp [results, Tryz.results73, go_sem, hr1]) rfl ⟨q, c, rfl, ?_, (hb.trans (hb2.mono hb.size)).setCell (by simp) _⟩
    have := (hO.set (a := ⟨w.heap.size + 1, 0, none⟩) (show w.heap.size + 1 < w1.heap.size by omega) (.slice q (t.drop k).len c)).mono (lo' := w.heap.size) (by omega) (Nat.le_refl _)
    simpa [World.setCell] using this

theorem behind_any (t : T) (w : World) (p : Option Addr) (n cap : Nat) (k : Int) (his : IsT w t p n cap) :
    Calls Tryz.prog 73 #[.agg #[.slice p n cap], .int .i64 k] w fun e w' => ∃ q c, e = .returned (.tuple #[.agg #[.slice q (t.bT k).len c], .int .i64 (t.bE k)]) ∧ Own w' (t.bT k) q c w.heap.size w'.heap.size ∧ Below w.heap.size w w' := by
  have hn := his.1
  cases hv : t.valid with
  | false =>
    have e1 : t.bT k = .nil := by simp [T.bT, hv]
    have e2 : t.bE k = 6 := by simp [T.bE, hv]
    rw [e1, e2]
    exact (behind_bad t w p n cap k his hv).mono fun _ w' ⟨h1, h2⟩ => ⟨none, 0, h1, own_nil w' _ _, h2⟩
  | true =>
    by_cases hk : 0 ≤ k ∧ k ≤ t.len
    · have e1 : t.bT k = t.drop k.toNat := by simp [T.bT, hv, hk]
      have e2 : t.bE k = 0 := by simp [T.bE, hv, hk]
      rw [e1, e2]
      have := behind_ok t w p n cap k.toNat his hv (by omega)
      rwa [show ((k.toNat : Nat) : Int) = k by omega] at this
    · have e1 : t.bT k = .nil := by unfold T.bT; rw [if_neg (fun h => hk h.2)]
      have e2 : t.bE k = 2 := by unfold T.bE; rw [if_pos hv, if_neg hk]
      rw [e1, e2]
      exact (behind_arg t w p n cap k his hv (by omega)).mono fun _ w' ⟨h1, h2⟩ => ⟨none, 0, h1, own_nil w' _ _, h2⟩

end Go.Proofs.YtjkcopgfcafpeaaGreatDoor

