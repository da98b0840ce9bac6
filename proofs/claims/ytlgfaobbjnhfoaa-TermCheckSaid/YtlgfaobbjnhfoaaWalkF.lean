/-
  The walks of fresh and Copy, which make a sort anew. Conditions: at most 60 nodes.
-/
import Derived.Test.YtlgfaobbjnhfoaaWalkD
import Derived.Test.YtlgfaobbjnhfoaaMem3
import Derived.Deep.RegionLaw
namespace Go.Proofs.Ytlgfaobbjnhfoaa
open Go.RowKit

theorem infoS : (Try.prog.info? 40).map (fun i => (i.zero, i.size, i.bytes)) = some (some (.agg #[.slice none 0 0]), 1, 24) := by kernel_rfl

set_option maxHeartbeats 800000 in
theorem fresh_any (N : Nat) : ∀ (t : T) (w : World) (p : Option Addr) (n cap : Nat), t.nodes ≤ N → t.nodes ≤ 60 → IsT w t p n cap →
    Calls Try.prog 78 #[.slice p n cap] w fun e w' => ∃ q c, e = .returned (.slice q t.len c) ∧ Own w' t q c w.heap.size w'.heap.size ∧ Below w.heap.size w w' := by
  obtain ⟨i0, hi0, hz0, hz1', hz2⟩ := info_parts infoS
  induction N with
  | zero => intro t w p n cap hN; have := t.nodes_pos; omega
  | succ N ih =>
    intro t w p n cap hN h60 his
    have hlen := t.len_lt_nodes
    obtain ⟨hn, hcap, hmax, hnil, hrow⟩ := his
    subst hn
    have hn60 : t.len ≤ 60 := by omega
    have IH := Lib.hid ih
    clear ih
    go_enter Try.func78, Try.ntmps78
    go_wp2_with fail
    go_loopw [3, 8] (fun v i wr => ∃ (k : Nat) (q : Option Addr) (c : Nat), k ≤ t.len ∧ i = .int .i64 (k : Int) ∧ v = .slice q k c ∧ Got wr 40 t k (.slice q k c) w.heap.size ∧ Below w.heap.size w wr)
      (fun _ i _ => t.len - (intOf i).toNat)
    case atStart => exact ⟨0, none, 0, Nat.zero_le _, rfl, rfl, Got.start _ _ _ _ (Nat.le_refl _), Below.refl _ _⟩
    case round =>
      obtain ⟨k, q, c, hk, rfl, rfl, hgot, hb⟩ := hrel
      have HG := Lib.hid hgot
      clear hgot
      by_cases hlt : k < t.len
      · rcases hrow with h0 | ⟨b, off, rfl, hr⟩
        · omega
        obtain ⟨p', n', cap', hc, hi⟩ := base_at (Keeps.below hb) hr hlt
        have hg := t.nodes_get k hlt
        have hz := hb.size
        go_wp2_with fail
        refine (IH.out (t.get k) _ p' n' cap' (by omega) (by omega) (hi.alloc _)).mono ?_
        rintro e w1 ⟨q1, c1, rfl, hO, hb1⟩
        obtain ⟨xs, hown, hkids⟩ := HG.out
        have hownA : ∀ o, (w1.alloc o).ownsRow w.heap.size 40 1 (.slice q k c) k xs := fun o => by
          refine ((hown.alloc _).kept (row := none) ⟨hb1.os, hb1.tape, hb1.output, hb1.size, fun k hk _ => hb1.block k hk⟩ ?_).alloc o
          cases (Value.slice q k c).ownBlock with
          | none => exact Or.inl rfl
          | some g => exact Or.inr (by simp)
        have hz1 := hb1.size
        simp only [World.size_alloc] at hz1
        have hmx : k + 1 ≤ maxLen := by simp only [maxLen]; omega
        go_wp2_with (at_builtin; refine wpList_append_lies _ rfl _ _ 23 rfl w.heap.size 40 i0 (.agg #[.slice none 0 0]) 1 24 Try.underlying23 hi0 hz0 hz1' hz2 rfl (by decide) _ k xs rfl (hownA _) ⟨w1.heap.size, 0, none⟩ 1 1 [.slice q1 (t.get k).len c1] rfl rfl (cell_one_new _ _ _) (by simp [Value.oneCell']) (by decide) hmx (by omega) (by simp; omega) (w1.heap.size + 1) (by simp) ?_; intro g cp w3 hown3 hgrow hat hglt)
        have hfin := Got.round hlt hb hown hkids hb1 hO hown3 hgrow hat
        clear hown3 hgrow hat hownA
        go_roundw
        case rel => exact ⟨k + 1, some ⟨g, 0, none⟩, cp, by omega, by go_num, rfl, hfin.1, hfin.2⟩
        case measure => simp [intOf]; omega
      · go_wp2_with fail
        go_ret
        obtain ⟨q', c', he, ho⟩ := HG.out.finish hk hlt
        exact ⟨q', c', by rw [← he]; rfl, ho, hb⟩

set_option maxHeartbeats 800000 in
theorem copy_any (N : Nat) : ∀ (t : T) (w : World) (p : Option Addr) (n cap : Nat), t.nodes ≤ N → t.nodes ≤ 60 → IsT w t p n cap →
    Calls Try.prog 39 #[.agg #[.slice p n cap]] w fun e w' => ∃ q c, e = .returned (.agg #[.slice q t.len c]) ∧ Own w' t q c w.heap.size w'.heap.size ∧ Below w.heap.size w w' := by
  obtain ⟨i0, hi0, hz0, hz1', hz2⟩ := info_parts infoS
  induction N with
  | zero => intro t w p n cap hN; have := t.nodes_pos; omega
  | succ N ih =>
    intro t w p n cap hN h60 his
    have hlen := t.len_lt_nodes
    obtain ⟨hn, hcap, hmax, hnil, hrow⟩ := his
    subst hn
    have hn60 : t.len ≤ 60 := by omega
    have IH := Lib.hid ih
    clear ih
    go_enter Try.func39, Try.ntmps39
    go_wp2_with fail
    go_loopw [9] (fun i wr => ∃ (k : Nat) (q : Option Addr) (c : Nat), k ≤ t.len ∧ i = .int .i64 (k : Int) ∧ Got wr 40 t k (.slice q k c) (w.heap.size + 3) ∧ wr.heap[w.heap.size + 2]? = some (.cells #[.slice q k c] 40 (0, 0)) ∧
        Below (w.heap.size + 2) ((w.alloc (.cells #[.slice p t.len cap] 40)).alloc (.cells #[.slice none 0 0] 40)) wr)
      (fun i _ => t.len - (intOf i).toNat)
    case atStart =>
      have h0 := Got.start (((w.alloc (.cells #[.slice p t.len cap] 40)).alloc (.cells #[.slice none 0 0] 40)).alloc (.cells #[.slice none 0 0] 40)) 40 t (w.heap.size + 3) (by simp)
      have h1 := heap_new ((w.alloc (.cells #[.slice p t.len cap] 40)).alloc (.cells #[.slice none 0 0] 40)) (.cells #[.slice none 0 0] 40)
      simp only [World.size_alloc] at h1
      exact ⟨0, none, 0, Nat.zero_le _, rfl, h0, h1, (Below.refl _ _).alloc (by simp) _⟩
    case round =>
      obtain ⟨k, q, c, hk, rfl, hgot, hout, hb⟩ := hrel
      have HG := Lib.hid hgot
      have HOut := Lib.hid hout
      have ho1 := cell_of_one hout
      have ho2 := free_of_one hout
      have ho3 := lt_of_block hout
      clear hgot hout
      by_cases hlt : k < t.len
      · rcases hrow with h0 | ⟨b, off, rfl, hr⟩
        · omega
        obtain ⟨p', n', cap', hc, hi⟩ := base_at (keeps_two hb) hr hlt
        have hg := t.nodes_get k hlt
        obtain ⟨xs, hown, hkids⟩ := HG.out
        have hmx : k + 1 ≤ maxLen := by simp only [maxLen]; omega
        have hby : (k + 1) * 24 ≤ 140737488355328 := by omega
        have hz := hb.size
        simp only [World.size_alloc] at hz
        have ok : ∀ (w1 w3 : World) (Y : Obj), Below (wr.alloc (.cells #[.slice p' n' cap'] 40)).drew.heap.size (wr.alloc (.cells #[.slice p' n' cap'] 40)).drew w1 → (w1.alloc Y).grownBy w3 (Value.slice q k c).ownBlock → w3.heap[w.heap.size + 2]? = some (.cells #[.slice q k c] 40 (0, 0)) :=
          fun w1 w3 Y h1 h2 => out_kept (B := w.heap.size + 3) ho3 HOut.out (by omega) h1 hown.lt h2
        have OK := Lib.hid ok
        clear ok
        go_wp2_with fail
        go_region_law (first
          | (go_simp; go_at_call 39; refine (IH.out (t.get k) _ p' n' cap' (by omega) (by omega) ?_).mono ?_; exact (hi.alloc _).drew; rintro e w1 ⟨q1, c1, rfl, hO, hb1⟩;
             have hownA := fun o => (ownsRow_keep ((hown.alloc _).drew) hb1).alloc o; have hz1 := hb1.size; simp at hz1; have hz2' : w.heap.size + 3 ≤ w1.heap.size := (by omega); have oc1 := cell_of_one (call_kept ho3 HOut.out hb1); have oc2 := free_of_one (call_kept ho3 HOut.out hb1); have oc3 := fun o => cell_of_one (alloc_kept (call_kept ho3 HOut.out hb1) o); have oc4 : w.heap.size + 1 + 1 < w1.heap.size := (by omega))
          | (refine step_append_lies (w1.alloc (.cells #[.slice q1 (t.get k).len c1] 40)) rfl (.tmp 14) (.tmp 17) 23 rfl (w.heap.size + 3) 40 i0 (.agg #[.slice none 0 0]) 1 24 ?_ ?_ ?_ ?_ ?_ ?_ ?_ (.slice q k c) k xs ?_ ?_ ⟨w1.heap.size, 0, none⟩ 1 1 [.slice q1 (t.get k).len c1] ?_ ?_ ?_ ?_ ?_ ?_ ?_ ?_ (w1.heap.size+1) ?_ ?_; exact Try.underlying23; exact hi0; exact hz0; exact hz1'; exact hz2; rfl; exact Nat.one_pos; rfl; exact hownA _; rfl; rfl; exact cell_one_new _ _ _; exact one_slice _ _ _; exact Nat.one_pos; exact hmx; exact hby; exact base_le _ hz2'; exact size_new _ _; intro g cp w3 hown3 hgrow hat hglt; have hh3 := OK.out _ _ _ hb1 hgrow; have o1 := cell_of_one hh3; have o2 := free_of_one hh3))
        all_goals go_wp2_with fail
        all_goals
          go_roundw
          case rel => exact ⟨k + 1, some ⟨g, 0, none⟩, cp, by omega, by go_num, (Got.round' (wx := (wr.alloc (.cells #[.slice p' n' cap'] 40)).drew) hlt hown hkids (fun j hj => Below.heap_alloc wr _ j hj) (by simp) hb1 hO hown3 hgrow hat).set (Nat.lt_succ_self _) _, one_setCell hh3, (below_collect hb hz hb1 (by omega) hown.lt hgrow).setCell (Nat.le_refl _) _⟩
          case measure => simp [intOf]; omega
      · have hr1 := (box_two hb).2
        have hr2 : wr.frozen? ⟨w.heap.size + 1, 0, none⟩ = false := by rw [(bcell hb).2 _ _ (by omega)]; simp
        go_wp2_with fail
        obtain ⟨q', c', he, hO⟩ := HG.out.finish hk hlt
        obtain ⟨rfl, rfl, rfl⟩ : q = q' ∧ k = t.len ∧ c = c' := by simpa using he
        refine bodyPost_ret (v := .agg #[.slice q t.len c]) (by simp [results, Try.results39, go_sem, hr1]) rfl ⟨q, c, rfl, ?_, (below_two hb).setCell (by simp) _⟩
        have := (hO.set (a := ⟨w.heap.size + 1, 0, none⟩) (by simp) (.slice q t.len c)).mono (lo' := w.heap.size) (by omega) (Nat.le_refl _)
        simpa [World.setCell] using this

end Go.Proofs.Ytlgfaobbjnhfoaa