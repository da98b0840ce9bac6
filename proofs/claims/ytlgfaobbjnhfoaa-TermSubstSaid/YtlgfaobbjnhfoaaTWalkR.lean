/-
  The walk of the reference's Copy: it makes the term anew. Conditions: at most 100000 nodes.
-/
import Derived.Test.YtlgfaobbjnhfoaaTWalkJ
import Derived.Deep.RegionLaw
set_option linter.unusedSimpArgs false
set_option linter.unusedVariables false
namespace Go.Proofs.Ytlgfaobbjnhfoaa
open Go.RowKit

theorem keeps3_two {w wr : World} {x y : Obj} (hb : Below (w.heap.size + 2) ((w.alloc x).alloc y) wr) : Keeps3 w wr := by
  refine Keeps3.of fun b o h => ?_
  rw [(bcell hb).1 b o (by omega), keep_alloc _ _ b o (by simp; omega)]
  exact keep_alloc w x b o h

theorem box_two1 {w wr : World} {x y : Obj} (hb : Below (w.heap.size + 2) ((w.alloc x).alloc y) wr) : wr.heap[w.heap.size]? = some x ∧ wr.heap[w.heap.size + 1]? = some y := by
  refine ⟨?_, ?_⟩
  · rw [hb.block _ (by omega)]; exact alloc_kept (heap_new w x) y
  · rw [hb.block _ (by omega)]; exact heap_new2 w x y

theorem field_set {w : World} {b : Nat} {x y z u : Value} {ty : TypeId} (h : w.heap[b]? = some (.cells #[x, y, z] ty (0, 0))) : (w.setCell ⟨b, 2, none⟩ u).heap[b]? = some (.cells #[x, y, u] ty (0, 0)) := by
  have := heap_setCell_same w b 2 #[x, y, z] ty u h
  simpa using this

theorem one_three (a b : Int) (q : Option Addr) (n c : Nat) : ∀ u ∈ [Value.int .i64 a, .int .i64 b, Value.slice q n c], u.oneCell' = true := by simp [Value.oneCell']

theorem GotX.round' {wr wx w1 w3 : World} {ty : TypeId} {y : X} {B : Nat} {v : Value} {q : Option Addr} {c g cap : Nat} {xs : List Value} {k n : Int} {a : X} {Y : Obj}
    (hown0 : wr.ownsRow B ty 3 v y.len xs) (hkids : KidsX wr y xs v.ownBlock B wr.heap.size)
    (hx : ∀ j, j < wr.heap.size → wx.heap[j]? = wr.heap[j]?) (hxs : wx.heap.size = wr.heap.size + 1)
    (hb1 : Below wx.heap.size wx w1) (hO : OwnX w1 a q c wx.heap.size w1.heap.size)
    (hown : w3.ownsRow B ty 3 (.slice (some ⟨g, 0, none⟩) (y.len + 1) cap) (y.len + 1) (xs ++ [.int .i64 k, .int .i64 n, .slice q a.len c]))
    (hgrow : (w1.alloc Y).grownBy w3 v.ownBlock) (hat : v.ownBlock = some g ∨ g = w1.heap.size + 1) : GotX w3 ty (y.snoc k n a) (.slice (some ⟨g, 0, none⟩) (y.len + 1) cap) B := by
  have hz1 := hb1.size
  rw [hxs] at hO hz1
  refine GotX.push (wy := w1.alloc Y) (lo := wr.heap.size + 1) (hi := w1.heap.size) hown0 hkids ?_ (hO.keep fun j _ b => Below.heap_alloc _ _ _ b) (Nat.le_succ _) hz1 (by simp) hown hgrow (by simpa using hat)
  intro j hj
  rw [Below.heap_alloc _ _ _ (by omega), hb1.block j (by omega), hx j hj]

set_option maxRecDepth 100000 in
set_option maxHeartbeats 4000000 in
theorem tcopy_any (N : Nat) : ∀ (a : X) (k n : Int) (w : World) (p : Option Addr) (l cap : Nat), a.sz < N → a.sz < 100000 → IsX w a p l cap →
    Calls Try.prog 38 #[.agg #[.int .i64 k, .int .i64 n, .slice p l cap]] w (Made k n a w) := by
  obtain ⟨i0, hi0, hz0, hz1', hz2⟩ := info_parts infoX
  induction N with
  | zero => intro a k n w p l cap hN; omega
  | succ N ih =>
    intro a k n w p l cap hN h60 his
    have hlen := a.len_le_sz
    obtain ⟨hn, hcap, hmax, hnil, hrow⟩ := his
    subst hn
    have hn60 : a.len < 100000 := by omega
    have IH := Lib.hid ih
    clear ih
    go_enter Try.func38, Try.ntmps38
    go_wp2_with fail
    go_loopw [14] (fun i wr => ∃ (j : Nat) (y : X) (q : Option Addr) (c : Nat), j ≤ a.len ∧ i = .int .i64 (j : Int) ∧ y.app (a.drop j) = a ∧ GotX wr 35 y (.slice q y.len c) (w.heap.size + 3) ∧
        wr.heap[w.heap.size + 2]? = some (.cells #[.int .i64 k, .int .i64 n, .slice q y.len c] 35 (0, 0)) ∧
        Below (w.heap.size + 2) ((w.alloc (.cells #[.int .i64 k, .int .i64 n, .slice p a.len cap] 35)).alloc (.cells #[.int .i64 0, .int .i64 0, .slice none 0 0] 35)) wr)
      (fun i _ => a.len - (intOf i).toNat)
    case atStart =>
      have h1 := heap_new ((w.alloc (.cells #[.int .i64 k, .int .i64 n, .slice p a.len cap] 35)).alloc (.cells #[.int .i64 0, .int .i64 0, .slice none 0 0] 35)) (.cells #[.int .i64 k, .int .i64 n, .slice none 0 0] 35)
      simp only [World.size_alloc] at h1
      exact ⟨0, .nil, none, 0, Nat.zero_le _, rfl, by rw [X.drop_zero]; rfl, GotX.start (World.ownsRow_nil _ _ _ _) (by simp), h1, (Below.refl _ _).alloc (by simp) _⟩
    case round =>
      obtain ⟨j, y, q, c, hj, rfl, hy, hgot, hout, hb⟩ := hrel
      have hyl : y.len = j := by
        have := congrArg X.len hy
        rw [X.len_app, X.len_drop] at this
        omega
      have HY := Lib.hid hy
      have HG := Lib.hid hgot
      have HYL := Lib.hid hyl
      have HOut := Lib.hid hout
      obtain ⟨ho1, ho2, ho3⟩ := box3_cells hout
      obtain ⟨fo1, fo2, fo3⟩ := free3 hout
      have hlo := lt_of_block hout
      obtain ⟨bt1, bt2⟩ := box_two1 hb
      obtain ⟨y1, y2, y3⟩ := box3_cells bt1
      obtain ⟨z1, z2, z3⟩ := box3_cells bt2
      obtain ⟨fz1, fz2, fz3⟩ := free3 bt2
      clear hgot hout hy hyl bt1 bt2
      by_cases hlt : j < a.len
      · clear z1 z2 z3 fz1 fz2 fz3
        rcases hrow with h0 | ⟨b, off, rfl, hr⟩
        · omega
        obtain ⟨hck, hcn, p', n', cap', hc, hi⟩ := base3_at (keeps3_two hb) hr hlt
        have hg := a.sz_ga j hlt
        obtain ⟨xs, hown, hkids⟩ := HG.out
        have hmx : y.len + 1 ≤ maxLen := by have := HYL.out; simp only [maxLen]; omega
        have hby : (y.len + 1) * 40 ≤ 140737488355328 := by have := HYL.out; omega
        have hz := hb.size
        simp only [World.size_alloc] at hz
        have ok : ∀ (w1 w3 : World) (Y : Obj), Below (wr.alloc (.cells #[.int .i64 (a.gk j), .int .i64 (a.gn j), .slice p' n' cap'] 35)).drew.heap.size (wr.alloc (.cells #[.int .i64 (a.gk j), .int .i64 (a.gn j), .slice p' n' cap'] 35)).drew w1 → (w1.alloc Y).grownBy w3 (Value.slice q y.len c).ownBlock →
            w3.heap[w.heap.size + 2]? = some (.cells #[.int .i64 k, .int .i64 n, .slice q y.len c] 35 (0, 0)) :=
          fun w1 w3 Y h1 h2 => out_kept (B := w.heap.size + 3) hlo HOut.out (by omega) h1 hown.lt h2
        have OK := Lib.hid ok
        clear ok y1 y2 y3
        go_upto_region 5 with fail
        go_region_law (first
          | (go_simp; go_at_call 38; refine (IH.out (a.ga j) _ _ _ p' n' cap' (by omega) (by omega) ?_).mono ?_; exact (hi.alloc _).drew; rintro e w1 ⟨q1, c1, rfl, hO, hb1⟩;
             have hownA := fun o => (ownsRow_later ((hown.alloc _).drew) hb1).alloc o; have hz1 := hb1.size; simp at hz1; have hz2' : w.heap.size + 3 ≤ w1.heap.size := (by omega); have ca := box3_cells (call_kept hlo HOut.out hb1); obtain ⟨ca1, ca2, ca3⟩ := ca; have cb := free3 (call_kept hlo HOut.out hb1); obtain ⟨cb1, cb2, cb3⟩ := cb; have oc3 := fun o => (box3_cells (alloc_kept (call_kept hlo HOut.out hb1) o)).2.2; have oc4 : w.heap.size + 1 + 1 < w1.heap.size := (by omega))
          | (refine step_append_lies (w1.alloc (.cells #[.int .i64 (a.gk j), .int .i64 (a.gn j), .slice q1 (a.ga j).len c1] 35)) rfl (.tmp 19) (.tmp 22) 33 rfl (w.heap.size + 3) 35 i0 (.agg #[.int .i64 0, .int .i64 0, .slice none 0 0]) 3 40 ?_ ?_ ?_ ?_ ?_ ?_ ?_ (.slice q y.len c) y.len xs ?_ ?_ ⟨w1.heap.size, 0, none⟩ 1 1 [.int .i64 (a.gk j), .int .i64 (a.gn j), .slice q1 (a.ga j).len c1] ?_ ?_ ?_ ?_ ?_ ?_ ?_ ?_ (w1.heap.size+1) ?_ ?_; exact Try.underlying33; exact hi0; exact hz0; exact hz1'; exact hz2; rfl; exact (by decide); rfl; exact hownA _; rfl; rfl; exact World.news_of_block (heap_new _ _); exact one_three _ _ _ _ _; exact Nat.one_pos; exact hmx; exact hby; exact base_le _ hz2'; exact size_new _ _; intro g cp w3 hown3 hgrow hat hglt; have hh3 := OK.out _ _ _ hb1 hgrow; obtain ⟨o1, o2, o3⟩ := box3_cells hh3; obtain ⟨o4, o5, o6⟩ := free3 hh3))
        all_goals go_wp2_with fail
        all_goals
          have hy' : (y.snoc (a.gk j) (a.gn j) (a.ga j)).app (a.drop (j + 1)) = a := by rw [X.snoc_app, ← X.drop_cons a j hlt]; exact HY.out
          have hl' : (y.snoc (a.gk j) (a.gn j) (a.ga j)).len = y.len + 1 := X.len_snoc _ _ _ _
          have HL := Lib.hid hl'
          clear hl'
          go_roundw
          case rel => exact ⟨j + 1, _, some ⟨g, 0, none⟩, cp, by omega, by go_num, hy', by rw [HL.out]; exact (GotX.round' (wx := (wr.alloc (.cells #[.int .i64 (a.gk j), .int .i64 (a.gn j), .slice p' n' cap'] 35)).drew) hown hkids (fun j hj => Below.heap_alloc wr _ j hj) (by simp) hb1 hO hown3 hgrow hat).set (Nat.lt_succ_self _) _, by rw [HL.out]; exact field_set hh3, (below_collect hb hz hb1 (by omega) hown.lt hgrow).setCell (Nat.le_refl _) _⟩
          case measure => simp [intOf]; omega
      · obtain rfl : y = a := by
          have h := HY.out
          rw [X.drop_end a j (by omega), X.app_nil] at h
          exact h
        clear HY y1 y2 y3
        go_wp2_with fail
        obtain ⟨q', c', he, hO⟩ := HG.out.finish
        obtain ⟨rfl, rfl⟩ : q = q' ∧ c = c' := by simpa using he
        exact bodyPost_ret (v := .agg #[.int .i64 k, .int .i64 n, .slice q y.len c]) (by simp [results, Try.results38, go_sem, z1, z2, z3]) rfl ⟨q, c, rfl, hO.set3 _ _ _ (by omega) (by omega), below_set3 _ _ _ (below_two hb) (by omega)⟩

end Go.Proofs.Ytlgfaobbjnhfoaa
