/-
  The walk of the reference's Apply: the term's own row, grown in a variable that lies between it and the new terms. Conditions: none but that the terms lie in memory.
-/
import Derived.Test.YtlgfaobbjnhfoaaTWalkT
import Derived.Deep.Onto
import Derived.OneCell
set_option linter.unusedSimpArgs false
set_option linter.unusedVariables false
namespace Go.Proofs.Ytlgfaobbjnhfoaa
open Go.RowKit

theorem GotX.mono {w : World} {ty : TypeId} {y : X} {v : Value} {B B' : Nat} (h : GotX w ty y v B) (hb : B' ≤ B) : GotX w ty y v B' := by
  obtain ⟨xs, h1, h2⟩ := h
  exact ⟨xs, h1.mono hb, h2.mono hb (Nat.le_refl _)⟩

theorem KidsX.app {w : World} {a y : X} {ys : List Value} {gg : Option Nat} {mid2 hi : Nat} (h2 : KidsX w y ys gg mid2 hi) : ∀ {xs : List Value} {lo mid : Nat}, mid ≤ mid2 → KidsX w a xs gg lo mid → KidsX w (a.app y) (xs ++ ys) gg lo hi := by
  induction a with
  | nil =>
    rintro xs lo mid hm ⟨rfl, h⟩
    exact h2.mono (by omega) (Nat.le_refl _)
  | cons k n x r ihx ihr =>
    rintro xs lo mid hm ⟨l, m, c, p, rest, rfl, a1, a2, a4, a5, a6, a7, a8, a3⟩
    exact ⟨l, m, c, p, rest ++ ys, by simp, a1, a2, a4, a5, a6, a7, a8, ihr hm a3⟩

/-- the terms a, and behind them the terms y, in one row of the call's own; what a leads to lies below block bo, what y leads to above it, and the row is not in it -/
def Got2 (w : World) (ty : TypeId) (a y : X) (v : Value) (B bo : Nat) : Prop :=
  ∃ xs1 xs2, w.ownsRow B ty 3 v (a.len + y.len) (xs1 ++ xs2) ∧ KidsX w a xs1 v.ownBlock B bo ∧ KidsX w y xs2 v.ownBlock (bo + 1) w.heap.size ∧ v.ownBlock ≠ some bo

theorem Got2.start {w : World} {ty : TypeId} {a : X} {v : Value} {B : Nat} (h : GotX w ty a v B) (o : Obj) : Got2 (w.alloc o) ty a .nil v B w.heap.size := by
  obtain ⟨xs, h1, h2⟩ := h
  refine ⟨xs, [], ?_, h2.keep fun j _ hj _ => Below.heap_alloc w o j hj, ⟨rfl, by simp⟩, ?_⟩
  · have := h1.alloc o
    simpa [X.len] using this
  · intro e
    have := (h1.lt _ e).2
    omega

theorem Got2.set {w : World} {ty : TypeId} {a y : X} {v : Value} {B bo : Nat} (h : Got2 w ty a y v B bo) (o : Nat) (u : Value) : Got2 (w.setCell ⟨bo, o, none⟩ u) ty a y v B bo := by
  obtain ⟨xs1, xs2, h1, h2, h3, h4⟩ := h
  have hs : (w.setCell ⟨bo, o, none⟩ u).heap.size = w.heap.size := by simp [World.setCell]
  refine ⟨xs1, xs2, ownsRow_setCell_other h1 h4 u, h2.keep fun j _ hj _ => Below.heap_setCell _ _ _ _ (by show j ≠ bo; omega), ?_, h4⟩
  rw [hs]
  exact h3.keep fun j hj _ _ => Below.heap_setCell _ _ _ _ (by show j ≠ bo; omega)

theorem Got2.got {w : World} {ty : TypeId} {a y : X} {v : Value} {B bo : Nat} (h : Got2 w ty a y v B bo) : GotX w ty (a.app y) v B := by
  obtain ⟨xs1, xs2, h1, h2, h3, h4⟩ := h
  exact ⟨xs1 ++ xs2, by rw [X.len_app]; exact h1, KidsX.app h3 (Nat.le_succ _) h2⟩

theorem Got2.round {wr wx w1 w3 : World} {ty : TypeId} {a y x : X} {B bo : Nat} {v : Value} {q : Option Addr} {c g cap : Nat} {xs1 xs2 : List Value} {k n : Int} {Y : Obj}
    (hown0 : wr.ownsRow B ty 3 v (a.len + y.len) (xs1 ++ xs2)) (hk1 : KidsX wr a xs1 v.ownBlock B bo) (hk2 : KidsX wr y xs2 v.ownBlock (bo + 1) wr.heap.size) (hne : v.ownBlock ≠ some bo) (hbo : bo < wr.heap.size)
    (hx : ∀ j, j < wr.heap.size → wx.heap[j]? = wr.heap[j]?) (hxs : wx.heap.size = wr.heap.size + 1)
    (hb1 : Below wx.heap.size wx w1) (hO : OwnX w1 x q c wx.heap.size w1.heap.size)
    (hown : w3.ownsRow B ty 3 (.slice (some ⟨g, 0, none⟩) (a.len + y.len + 1) cap) (a.len + y.len + 1) (xs1 ++ xs2 ++ [.int .i64 k, .int .i64 n, .slice q x.len c]))
    (hgrow : (w1.alloc Y).grownBy w3 v.ownBlock) (hat : v.ownBlock = some g ∨ g = w1.heap.size + 1) : Got2 w3 ty a (y.snoc k n x) (.slice (some ⟨g, 0, none⟩) (a.len + y.len + 1) cap) B bo := by
  have hz1 := hb1.size
  rw [hxs] at hO hz1
  have hlt := hown0.lt
  have hwr : ∀ j, j < wr.heap.size → (w1.alloc Y).heap[j]? = wr.heap[j]? := fun j hj => by
    rw [Below.heap_alloc _ _ _ (by omega), hb1.block j (by omega), hx j hj]
  have hblk : ∀ j, j < w1.heap.size + 1 → v.ownBlock ≠ some j → w3.heap[j]? = (w1.alloc Y).heap[j]? := fun j hj hne => hgrow.block j (by simp only [World.size_alloc]; exact hj) (fun e => hne e.symm)
  have hO' : OwnX w3 x q c (wr.heap.size + 1) w1.heap.size := hO.keep fun j e f => by
    rw [hblk j (by omega) (fun h => by have := (hlt j h).2; omega)]
    exact Below.heap_alloc _ _ _ f
  have hg : ∀ b, (Value.slice (some ⟨g, 0, none⟩) (a.len + y.len + 1) cap).ownBlock = some b → b = g := by
    intro b hb; simp [Value.ownBlock] at hb; omega
  have k1 : KidsX w3 a xs1 (Value.slice (some ⟨g, 0, none⟩) (a.len + y.len + 1) cap).ownBlock B bo := by
    refine KidsX.own ?_ (hk1.keep fun j _ hj hn => (hblk j (by omega) hn).trans (hwr j (by omega)))
    rcases hat with hat | hat
    · exact Or.inl (by rw [hat]; simp [Value.ownBlock])
    · exact Or.inr fun b hb => Or.inr (by have := hg b hb; omega)
  have k2 : KidsX w3 y xs2 (Value.slice (some ⟨g, 0, none⟩) (a.len + y.len + 1) cap).ownBlock (bo + 1) wr.heap.size := by
    refine KidsX.own ?_ (hk2.keep fun j _ hj hn => (hblk j (by omega) hn).trans (hwr j (by omega)))
    rcases hat with hat | hat
    · exact Or.inl (by rw [hat]; simp [Value.ownBlock])
    · exact Or.inr fun b hb => Or.inr (by have := hg b hb; omega)
  obtain ⟨o1, o2, o3, o4⟩ := hO'
  have hs3 := hgrow.size
  simp only [World.size_alloc] at hs3
  refine ⟨xs1, xs2 ++ [.int .i64 k, .int .i64 n, .slice q x.len c], ?_, k1, (KidsX.snoc o1 o2 o3 hz1 o4 (Nat.le_succ _) ?_ k2).mono (Nat.le_refl _) (by omega), ?_⟩
  · rw [X.len_snoc, ← List.append_assoc]; exact hown
  · intro b hb
    have := hg b hb
    subst this
    rcases hat with hat | hat
    · exact Or.inl (by have := (hlt _ hat).2; omega)
    · exact Or.inr (by omega)
  · intro e
    have := hg bo e
    rcases hat with hat | hat
    · exact hne (by rw [hat, this])
    · omega

set_option maxRecDepth 100000 in
set_option maxHeartbeats 4000000 in
theorem tcopy_got (a : X) (k n : Int) (w : World) (p : Option Addr) (l cap : Nat) (h60 : a.sz < 100000) (his : IsX w a p l cap) :
    Calls Try.prog 38 #[.agg #[.int .i64 k, .int .i64 n, .slice p l cap]] w fun e w' =>
      ∃ q c, e = .returned (.agg #[.int .i64 k, .int .i64 n, .slice q a.len c]) ∧ GotX w' 35 a (.slice q a.len c) w.heap.size ∧ Below w.heap.size w w' := by
  obtain ⟨i0, hi0, hz0, hz1', hz2⟩ := info_parts infoX
  have IH := Lib.hid (fun (a : X) (k n : Int) (W : World) (p : Option Addr) (l cap : Nat) (h : a.sz < 100000) (h' : IsX W a p l cap) => tcopy_any (a.sz + 1) a k n W p l cap (Nat.lt_succ_self _) h h')
  have hlen := a.len_le_sz
  obtain ⟨hn, hcap, hmax, hnil, hrow⟩ := his
  subst hn
  have hn60 : a.len < 100000 := by omega
  go_enter Try.func38, Try.ntmps38
  go_wp2_with fail
  go_loopw [14] (fun i wr => ∃ (j : Nat) (y : X) (q : Option Addr) (c : Nat), j ≤ a.len ∧ i = .int .i64 (j : Int) ∧ y.app (a.drop j) = a ∧ GotX wr 35 y (.slice q y.len c) (w.heap.size + 3) ∧
      wr.heap[w.heap.size + 2]? = some (.cells #[.int .i64 k, .int .i64 n, .slice q y.len c] 35 (0, 0)) ∧
      Below (w.heap.size + 2) ((w.alloc (.cells #[.int .i64 k, .int .i64 n, .slice p a.len cap] 35)).alloc (.cells #[.int .i64 0, .int .i64 0, .slice none 0 0] 35)) wr)
    (fun i _ => a.len - (intOf i).toNat)
  case atStart =>
    have h1 := heap_new ((w.alloc (.cells #[.int .i64 k, .int .i64 n, .slice p a.len cap] 35)).alloc (.cells #[.int .i64 0, .int .i64 0, .slice none 0 0] 35)) (.cells #[.int .i64 k, .int .i64 n, .slice none 0 0] 35)
    simp only [World.size_alloc] at h1
    exact ⟨0, .nil, none, 0, Nat.zero_le _, rfl, by rw [X.drop_zero]; rfl, GotX.start (World.ownsRow_nil _ _ _ _) (by simp), h1, (Below.refl _ _).alloc (by simp) _⟩
  case round =>
    obtain ⟨j, y, q, c, hj, rfl, hy, hgot, hout, hb⟩ := hrel
    have hyl : y.len = j := by
      have := congrArg X.len hy
      rw [X.len_app, X.len_drop] at this
      omega
    have HY := Lib.hid hy
    have HG := Lib.hid hgot
    have HYL := Lib.hid hyl
    have HOut := Lib.hid hout
    obtain ⟨ho1, ho2, ho3⟩ := box3_cells hout
    obtain ⟨fo1, fo2, fo3⟩ := free3 hout
    have hlo := lt_of_block hout
    obtain ⟨bt1, bt2⟩ := box_two1 hb
    obtain ⟨y1, y2, y3⟩ := box3_cells bt1
    obtain ⟨z1, z2, z3⟩ := box3_cells bt2
    obtain ⟨fz1, fz2, fz3⟩ := free3 bt2
    clear hgot hout hy hyl bt1 bt2
    by_cases hlt : j < a.len
    · clear z1 z2 z3 fz1 fz2 fz3
      rcases hrow with h0 | ⟨b, off, rfl, hr⟩
      · omega
      obtain ⟨hck, hcn, p', n', cap', hc, hi⟩ := base3_at (keeps3_two hb) hr hlt
      have hg := a.sz_ga j hlt
      obtain ⟨xs, hown, hkids⟩ := HG.out
      have hmx : y.len + 1 ≤ maxLen := by have := HYL.out; simp only [maxLen]; omega
      have hby : (y.len + 1) * 40 ≤ 140737488355328 := by have := HYL.out; omega
      have hz := hb.size
      simp only [World.size_alloc] at hz
      have ok : ∀ (w1 w3 : World) (Y : Obj), Below (wr.alloc (.cells #[.int .i64 (a.gk j), .int .i64 (a.gn j), .slice p' n' cap'] 35)).drew.heap.size (wr.alloc (.cells #[.int .i64 (a.gk j), .int .i64 (a.gn j), .slice p' n' cap'] 35)).drew w1 → (w1.alloc Y).grownBy w3 (Value.slice q y.len c).ownBlock →
          w3.heap[w.heap.size + 2]? = some (.cells #[.int .i64 k, .int .i64 n, .slice q y.len c] 35 (0, 0)) :=
        fun w1 w3 Y h1 h2 => out_kept (B := w.heap.size + 3) hlo HOut.out (by omega) h1 hown.lt h2
      have OK := Lib.hid ok
      clear ok y1 y2 y3
      go_upto_region 5 with fail
      go_region_law (first
        | (go_simp; go_at_call 38; refine (IH.out (a.ga j) _ _ _ p' n' cap' (by omega) ?_).mono ?_; exact (hi.alloc _).drew; rintro e w1 ⟨q1, c1, rfl, hO, hb1⟩;
           have hownA := fun o => (ownsRow_later ((hown.alloc _).drew) hb1).alloc o; have hz1 := hb1.size; simp at hz1; have hz2' : w.heap.size + 3 ≤ w1.heap.size := (by omega); have ca := box3_cells (call_kept hlo HOut.out hb1); obtain ⟨ca1, ca2, ca3⟩ := ca; have cb := free3 (call_kept hlo HOut.out hb1); obtain ⟨cb1, cb2, cb3⟩ := cb; have oc3 := fun o => (box3_cells (alloc_kept (call_kept hlo HOut.out hb1) o)).2.2; have oc4 : w.heap.size + 1 + 1 < w1.heap.size := (by omega))
        | (refine step_append_lies (w1.alloc (.cells #[.int .i64 (a.gk j), .int .i64 (a.gn j), .slice q1 (a.ga j).len c1] 35)) rfl (.tmp 19) (.tmp 22) 33 rfl (w.heap.size + 3) 35 i0 (.agg #[.int .i64 0, .int .i64 0, .slice none 0 0]) 3 40 ?_ ?_ ?_ ?_ ?_ ?_ ?_ (.slice q y.len c) y.len xs ?_ ?_ ⟨w1.heap.size, 0, none⟩ 1 1 [.int .i64 (a.gk j), .int .i64 (a.gn j), .slice q1 (a.ga j).len c1] ?_ ?_ ?_ ?_ ?_ ?_ ?_ ?_ (w1.heap.size+1) ?_ ?_; exact Try.underlying33; exact hi0; exact hz0; exact hz1'; exact hz2; rfl; exact (by decide); rfl; exact hownA _; rfl; rfl; exact World.news_of_block (heap_new _ _); exact one_three _ _ _ _ _; exact Nat.one_pos; exact hmx; exact hby; exact base_le _ hz2'; exact size_new _ _; intro g cp w3 hown3 hgrow hat hglt; have hh3 := OK.out _ _ _ hb1 hgrow; obtain ⟨o1, o2, o3⟩ := box3_cells hh3; obtain ⟨o4, o5, o6⟩ := free3 hh3))
      all_goals go_wp2_with fail
      all_goals
        have hy' : (y.snoc (a.gk j) (a.gn j) (a.ga j)).app (a.drop (j + 1)) = a := by rw [X.snoc_app, ← X.drop_cons a j hlt]; exact HY.out
        have hl' : (y.snoc (a.gk j) (a.gn j) (a.ga j)).len = y.len + 1 := X.len_snoc _ _ _ _
        have HL := Lib.hid hl'
        clear hl'
        go_roundw
        case rel => exact ⟨j + 1, _, some ⟨g, 0, none⟩, cp, by omega, by go_num, hy', by rw [HL.out]; exact (GotX.round' (wx := (wr.alloc (.cells #[.int .i64 (a.gk j), .int .i64 (a.gn j), .slice p' n' cap'] 35)).drew) hown hkids (fun j hj => Below.heap_alloc wr _ j hj) (by simp) hb1 hO hown3 hgrow hat).set (Nat.lt_succ_self _) _, by rw [HL.out]; exact field_set hh3, (below_collect hb hz hb1 (by omega) hown.lt hgrow).setCell (Nat.le_refl _) _⟩
        case measure => simp [intOf]; omega
    · obtain rfl : y = a := by
        have h := HY.out
        rw [X.drop_end a j (by omega), X.app_nil] at h
        exact h
      clear HY y1 y2 y3
      go_wp2_with fail
      have hg := (((HG.out.set (a := ⟨w.heap.size + 1, 0, none⟩) (show w.heap.size + 1 < w.heap.size + 3 by omega) (.int .i64 k)).set (a := ⟨w.heap.size + 1, 1, none⟩) (show w.heap.size + 1 < w.heap.size + 3 by omega) (.int .i64 n)).set (a := ⟨w.heap.size + 1, 2, none⟩) (show w.heap.size + 1 < w.heap.size + 3 by omega) (.slice q y.len c)).mono (show w.heap.size ≤ w.heap.size + 3 by omega)
      exact bodyPost_ret (v := .agg #[.int .i64 k, .int .i64 n, .slice q y.len c]) (by simp [results, Try.results38, go_sem, z1, z2, z3]) rfl ⟨q, c, rfl, hg, below_set3 _ _ _ (below_two hb) (by omega)⟩

end Go.Proofs.Ytlgfaobbjnhfoaa
