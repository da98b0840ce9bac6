/-
  Parts of one proof, laid into one text: ERefA, ERefB, ERefC. Conditions: each part names its own.
-/
import Derived.Test.YteolfpdkpihnlaaMg13
import Derived.Deep.RegionLaw
import Derived.Test.YteolfpdkpihnlaaMg01

/-
  The walks of the reference's Copy and Top, which make trees anew. Conditions: at most 100000 nodes.
-/
set_option linter.unusedSimpArgs false
set_option linter.unusedVariables false
namespace Go.Proofs.Yteolfpdkpihnlaa
open Go.RowKit

theorem keeps2_two {w wr : World} {x y : Obj} (hb : Below (w.heap.size + 2) ((w.alloc x).alloc y) wr) : Keeps2 w wr := by
  refine Keeps2.of fun b o h => ?_
  rw [(bcell hb).1 b o (by omega), keep_alloc _ _ b o (by simp; omega)]
  exact keep_alloc w x b o h

theorem box_twoY {w wr : World} {x y : Obj} (hb : Below (w.heap.size + 2) ((w.alloc x).alloc y) wr) : wr.heap[w.heap.size]? = some x ∧ wr.heap[w.heap.size + 1]? = some y := by
  refine ⟨?_, ?_⟩
  · rw [hb.block _ (by omega)]; exact alloc_kept (heap_new w x) y
  · rw [hb.block _ (by omega)]; exact heap_new2 w x y

theorem fieldY_set {w : World} {b : Nat} {x y u : Value} {ty : TypeId} (h : w.heap[b]? = some (.cells #[x, y] ty (0, 0))) : (w.setCell ⟨b, 1, none⟩ u).heap[b]? = some (.cells #[x, u] ty (0, 0)) := by
  have := heap_setCell_same w b 1 #[x, y] ty u h
  simpa using this

theorem one_two (b : Int) (q : Option Addr) (n c : Nat) : ∀ u ∈ [Value.int .i64 b, Value.slice q n c], u.oneCell' = true := by simp [Value.oneCell']

theorem ownsRowY_later {wr w1 : World} {B : Nat} {ty : TypeId} {v : Value} {n : Nat} {xs : List Value} (h : wr.ownsRow B ty 2 v n xs) (hb : Below wr.heap.size wr w1) : w1.ownsRow B ty 2 v n xs := by
  refine h.kept (row := none) ⟨hb.os, hb.tape, hb.output, hb.size, fun k hk _ => hb.block k hk⟩ ?_
  cases v.ownBlock with
  | none => exact Or.inl rfl
  | some g => exact Or.inr (by simp)

theorem GotY.round' {wr wx w1 w3 : World} {ty : TypeId} {y : Y} {B : Nat} {v : Value} {q : Option Addr} {c g cap : Nat} {xs : List Value} {n : Int} {a : Y} {Yo : Obj}
    (hown0 : wr.ownsRow B ty 2 v y.len xs) (hkids : KidsY wr y xs v.ownBlock B wr.heap.size)
    (hx : ∀ j, j < wr.heap.size → wx.heap[j]? = wr.heap[j]?) (hxs : wx.heap.size = wr.heap.size + 1)
    (hb1 : Below wx.heap.size wx w1) (hO : OwnY w1 a q c wx.heap.size w1.heap.size)
    (hown : w3.ownsRow B ty 2 (.slice (some ⟨g, 0, none⟩) (y.len + 1) cap) (y.len + 1) (xs ++ [.int .i64 n, .slice q a.len c]))
    (hgrow : (w1.alloc Yo).grownBy w3 v.ownBlock) (hat : v.ownBlock = some g ∨ g = w1.heap.size + 1) : GotY w3 ty (y.snoc n a) (.slice (some ⟨g, 0, none⟩) (y.len + 1) cap) B := by
  have hz1 := hb1.size
  rw [hxs] at hO hz1
  refine GotY.push (wy := w1.alloc Yo) (lo := wr.heap.size + 1) (hi := w1.heap.size) hown0 hkids ?_ (hO.keep fun j _ b => Below.heap_alloc _ _ _ b) (Nat.le_succ _) hz1 (by simp) hown hgrow (by simpa using hat)
  intro j _ hj
  rw [Below.heap_alloc _ _ _ (by omega), hb1.block j (by omega), hx j hj]

theorem mkY_step {tn : Nat → Int} {ta : Nat → Y} {N j : Nat} (h : j < N) : mkY tn ta (N - j) j = .cons (tn j) (ta j) (mkY tn ta (N - (j + 1)) (j + 1)) := by
  rw [show N - j = (N - (j + 1)) + 1 by omega]; rfl

theorem mkY_end {tn : Nat → Int} {ta : Nat → Y} {N j : Nat} (h : ¬ j < N) : mkY tn ta (N - j) j = .nil := by
  rw [show N - j = 0 by omega]; rfl

/-- the result's box is filled, behind a loop that collects -/
theorem made_store {w wB wr : World} {r : Nat} {n : Int} {a : Y} {q : Option Addr} {c lo : Nat} (u v : Value) (hlo : r < lo) (hw : w.heap.size ≤ r) (hO : OwnY wr a q c lo wr.heap.size) (hB : Below w.heap.size w wr) :
    MadeY n a w (.returned (.agg #[.int .i64 n, .slice q a.len c])) ((wr.setCell ⟨r, 0, none⟩ u).setCell ⟨r, 1, none⟩ v) := by
  refine ⟨q, c, rfl, ?_, (hB.setCell hw u).setCell hw v⟩
  rw [size_set2]
  exact (hO.set2 hlo u v).mono (by omega) (Nat.le_refl _)

set_option maxRecDepth 100000 in
set_option maxHeartbeats 4000000 in
theorem ecopy_any (N : Nat) : ∀ (a : Y) (n : Int) (w : World) (p : Option Addr) (l cap : Nat),  a.sz < N → a.sz < 100000 → IsY w a p l cap →
    Calls Try.prog 43 #[.agg #[.int .i64 n, .slice p l cap]] w (MadeY n a w) := by
  obtain ⟨i0, hi0, hz0, hz1', hz2⟩ := info_parts infoY
  induction N with
  | zero => intro a n  w p l cap  hN; omega
  | succ N ih =>
    intro a n  w p l cap  hN h60 his
    have hlen := a.len_le_sz
    obtain ⟨hn, hcap, hmax, hnil, hrow⟩ := his
    subst hn
    have hn60 : a.len < 100000 := by omega
    have IH := Lib.hid ih
    clear ih
    have HT := Lib.hid (mkY_self a)
    go_enter Try.func43, Try.ntmps43
    go_wp2_with fail
    go_loopw [12] (fun i wr => ∃ (j : Nat) (y : Y) (q : Option Addr) (c : Nat), j ≤ a.len ∧ i = .int .i64 (j : Int) ∧ y.app (mkY a.gn a.ga (a.len - j) j) = a ∧ GotY wr 25 y (.slice q y.len c) (w.heap.size + 3) ∧
        wr.heap[w.heap.size + 2]? = some (.cells #[.int .i64 n, .slice q y.len c] 25 (0, 0)) ∧
        Below (w.heap.size + 2) ((w.alloc (.cells #[.int .i64 n, .slice p a.len cap] 25)).alloc (.cells #[.int .i64 0, .slice none 0 0] 25)) wr)
      (fun i _ => a.len - (intOf i).toNat)
    case atStart =>
      have h1 := heap_new ((w.alloc (.cells #[.int .i64 n, .slice p a.len cap] 25)).alloc (.cells #[.int .i64 0, .slice none 0 0] 25)) (.cells #[.int .i64 n, .slice none 0 0] 25)
      simp only [World.size_alloc] at h1
      exact ⟨0, .nil, none, 0, Nat.zero_le _, rfl, HT.out, GotY.start (World.ownsRow_nil _ _ _ _) (by simp), h1, (Below.refl _ _).alloc (by simp) _⟩
    case round =>
      obtain ⟨j, y, q, c, hj, rfl, hy, hgot, hout, hb⟩ := hrel
      have hyl : y.len = j := by
        have h1 := congrArg Y.len hy
        have h2 := congrArg Y.len HT.out
        rw [Y.len_app, len_mkY] at h1
        rw [len_mkY] at h2
        omega
      have HY := Lib.hid hy
      have HG := Lib.hid hgot
      have HYL := Lib.hid hyl
      have HOut := Lib.hid hout
      obtain ⟨ho1, ho3⟩ := box2_cells hout
      obtain ⟨fo1, fo3⟩ := free2 hout
      have hlo := lt_of_block hout
      obtain ⟨bt1, bt2⟩ := box_twoY hb
      obtain ⟨y1, y3⟩ := box2_cells bt1
      obtain ⟨z1, z3⟩ := box2_cells bt2
      obtain ⟨fz1, fz3⟩ := free2 bt2
      clear hgot hout hy hyl bt1 bt2
      by_cases hlt : j < a.len
      · clear z1 z3 fz1 fz3
        rcases hrow with h0 | ⟨b, off, rfl, hr⟩
        · omega
        obtain ⟨hcn, p', n', cap', hc, hi⟩ := base2_at (keeps2_two hb) hr hlt
        have hg := a.sz_ga j hlt
        obtain ⟨xs, hown, hkids⟩ := HG.out
        have hmx : y.len + 1 ≤ maxLen := by have := HYL.out; simp only [maxLen]; omega
        have hby : (y.len + 1) * 32 ≤ 140737488355328 := by have := HYL.out; omega
        have hz := hb.size
        simp only [World.size_alloc] at hz
        have ok : ∀ (w1 w3 : World) (Yo : Obj), Below (wr.alloc (.cells #[.int .i64 (a.gn j), .slice p' n' cap'] 25)).drew.heap.size (wr.alloc (.cells #[.int .i64 (a.gn j), .slice p' n' cap'] 25)).drew w1 → (w1.alloc Yo).grownBy w3 (Value.slice q y.len c).ownBlock →
            w3.heap[w.heap.size + 2]? = some (.cells #[.int .i64 n, .slice q y.len c] 25 (0, 0)) :=
          fun w1 w3 Yo h1 h2 => out_kept (B := w.heap.size + 3) hlo HOut.out (by omega) h1 hown.lt h2
        have OK := Lib.hid ok
        have hm := Lib.hid (show mkY a.gn a.ga (a.len - j) j = .cons (a.gn j) (a.ga j) (mkY a.gn a.ga (a.len - (j + 1)) (j + 1)) from mkY_step hlt)
        have J := fun W h => IH.out (a.ga j) (a.gn j) W p' n' cap' (by omega) (by omega) h
        have HJ := Lib.hid J
        clear J ok y1 y3
        go_upto_region 5 with fail
        go_region_law (first
          | (go_simp; go_at_call 43; refine (HJ.out (wr.alloc (.cells #[.int .i64 (a.gn j), .slice p' n' cap'] 25)).drew (hi.alloc _).drew).mono ?_; rintro e w1 ⟨q1, c1, rfl, hO, hb1⟩;
             have hownA := fun o => (ownsRowY_later ((hown.alloc _).drew) hb1).alloc o; have hz1 := hb1.size; simp at hz1; have hz2' : w.heap.size + 3 ≤ w1.heap.size := (by omega); have ca := box2_cells (call_kept hlo HOut.out hb1); obtain ⟨ca1, ca3⟩ := ca; have cb := free2 (call_kept hlo HOut.out hb1); obtain ⟨cb1, cb3⟩ := cb; have oc3 := fun o => (box2_cells (alloc_kept (call_kept hlo HOut.out hb1) o)).2; have oc4 : w.heap.size + 1 + 1 < w1.heap.size := (by omega))
          | (refine step_append_lies (w1.alloc (.cells #[.int .i64 (a.gn j), .slice q1 ((a.ga j)).len c1] 25)) rfl (.tmp 17) (.tmp 20) 23 rfl (w.heap.size + 3) 25 i0 (.agg #[.int .i64 0, .slice none 0 0]) 2 32 ?_ ?_ ?_ ?_ ?_ ?_ ?_ (.slice q y.len c) y.len xs ?_ ?_ ⟨w1.heap.size, 0, none⟩ 1 1 [.int .i64 (a.gn j), .slice q1 ((a.ga j)).len c1] ?_ ?_ ?_ ?_ ?_ ?_ ?_ ?_ (w1.heap.size+1) ?_ ?_; exact Try.underlying23; exact hi0; exact hz0; exact hz1'; exact hz2; rfl; exact (by decide); rfl; exact hownA _; rfl; rfl; exact World.news_of_block (heap_new _ _); exact one_two _ _ _ _; exact Nat.one_pos; exact hmx; exact hby; exact base_le _ hz2'; exact size_new _ _; intro g cp w3 hown3 hgrow hat hglt; have hh3 := OK.out _ _ _ hb1 hgrow; obtain ⟨o1, o3⟩ := box2_cells hh3; obtain ⟨o4, o6⟩ := free2 hh3))
        all_goals go_wp2_with fail
        all_goals
          have hl' : (y.snoc (a.gn j) (a.ga j)).len = y.len + 1 := Y.len_snoc _ _ _
          have HL := Lib.hid hl'
          clear hl'
          go_roundw
          case rel => exact ⟨j + 1, _, some ⟨g, 0, none⟩, cp, by omega, by go_num, by rw [Y.snoc_app, ← hm.out]; exact HY.out, by rw [HL.out]; exact (GotY.round' (wx := (wr.alloc (.cells #[.int .i64 (a.gn j), .slice p' n' cap'] 25)).drew) hown hkids (fun j hj => Below.heap_alloc wr _ j hj) (by simp) hb1 hO hown3 hgrow hat).set (Nat.lt_succ_self _) _, by rw [HL.out]; exact fieldY_set hh3, (below_collect hb hz hb1 (by omega) hown.lt hgrow).setCell (Nat.le_refl _) _⟩
          case measure => simp [intOf]; omega
      · obtain rfl : y = a := by
          have h := HY.out
          rw [mkY_end hlt, Y.app_nil] at h
          exact h
        clear HY y1 y3
        go_wp2_with fail
        obtain ⟨q', c', he, hO⟩ := HG.out.finish
        obtain ⟨rfl, rfl⟩ : q = q' ∧ c = c' := by simpa using he
        exact bodyPost_ret (v := .agg #[.int .i64 n, .slice q y.len c]) (by simp [results, Try.results43, go_sem, z1, z3]) rfl (made_store (wB := w) (lo := w.heap.size + 3) _ _ (by omega) (by omega) hO (below_two hb))

end Go.Proofs.Yteolfpdkpihnlaa

/-
  The walk of the reference's Top, which make trees anew. Conditions: at most 100000 nodes.
-/
set_option linter.unusedSimpArgs false
set_option linter.unusedVariables false
namespace Go.Proofs.Yteolfpdkpihnlaa
open Go.RowKit

set_option maxHeartbeats 400000 in
theorem unknown_any (w : World) : Calls Try.prog 86 #[] w (MadeY (-1) .nil w) := by
  go_enter Try.func86, Try.ntmps86
  go_wp2_with fail
  refine bodyPost_ret (v := .agg #[.int .i64 (-1), .slice none 0 0]) (by simp [results, Try.results86, go_sem]) rfl ?_
  exact ⟨none, 0, rfl, ownY_nil _ _ _, (Below.refl _ _).alloc (Nat.le_refl _) _⟩

set_option maxRecDepth 100000 in
set_option maxHeartbeats 4000000 in
theorem etop_any (N : Nat) : ∀ (a : Y) (n : Int) (d : Nat) (di : Int) (w : World) (p : Option Addr) (l cap : Nat), di = (d : Int) → d ≤ 9223372036854775807 →  a.sz < N → a.sz < 100000 → IsY w a p l cap →
    Calls Try.prog 66 #[.agg #[.int .i64 n, .slice p l cap], .int .i64 di] w (MadeY (cut1n d n) (cut1a d a) w) := by
  obtain ⟨i0, hi0, hz0, hz1', hz2⟩ := info_parts infoY
  induction N with
  | zero => intro a n d di  w p l cap hdi hd  hN; omega
  | succ N ih =>
    intro a n d di  w p l cap hdi hd  hN h60 his
    have hlen := a.len_le_sz
    obtain ⟨hn, hcap, hmax, hnil, hrow⟩ := his
    subst hn
    have hn60 : a.len < 100000 := by omega
    have IH := Lib.hid ih
    clear ih
    subst hdi
    by_cases h0 : d = 0
    · subst h0
      have e1 : cut1n 0 n = -1 := rfl
      have e2 : cut1a 0 a = .nil := rfl
      rw [e1, e2]
      go_enter Try.func66, Try.ntmps66
      go_wp2_with fail
      refine (unknown_any _).mono ?_
      rintro e w1 ⟨q1, c1, rfl, hO, hb1⟩
      have z0 := box2_later hb1 (heap_new2 w (.cells #[.int .i64 n, .slice p a.len cap] 25) (.cells #[.int .i64 0, .slice none 0 0] 25))
      obtain ⟨z1, z2⟩ := box2_cells z0
      obtain ⟨f1, f2⟩ := free2 z0
      have hz := hb1.size
      have hz2 : w.heap.size + 2 ≤ w1.heap.size := by simpa using hz
      clear z0
      go_wp2_with fail
      refine bodyPost_ret (v := .agg #[.int .i64 (-1), .slice q1 Y.nil.len c1]) (by simp [results, Try.results66, go_sem, z1, z2]) rfl ?_
      exact made_store (wB := w) _ _ (by simp <;> omega) (by omega) hO ((((Below.refl w.heap.size w).alloc (Nat.le_refl _) _).alloc (by simp) _).trans (hb1.mono (by simp <;> omega)))
    have hdb : ((d : Int) ≤ 0) = False := by simp; omega
    have hdp : ¬ (d : Int) ≤ 0 := by omega
    have e1 : cut1n d n = n := if_neg h0
    have e2 : cut1a d a = topY (d - 1) a := if_neg h0
    rw [e1, e2]
    have HT := Lib.hid (mk_cut (d - 1) a)
    clear e1 e2 hdb
    generalize topY (d - 1) a = tt at *
    go_enter Try.func66, Try.ntmps66
    go_wp2_with fail
    go_loopw [17] (fun i wr => ∃ (j : Nat) (y : Y) (q : Option Addr) (c : Nat), j ≤ a.len ∧ i = .int .i64 (j : Int) ∧ y.app (mkY (fun i => cut1n (d - 1) (a.gn i)) (fun i => cut1a (d - 1) (a.ga i)) (a.len - j) j) = tt ∧ GotY wr 25 y (.slice q y.len c) (w.heap.size + 3) ∧
        wr.heap[w.heap.size + 2]? = some (.cells #[.int .i64 n, .slice q y.len c] 25 (0, 0)) ∧
        Below (w.heap.size + 2) ((w.alloc (.cells #[.int .i64 n, .slice p a.len cap] 25)).alloc (.cells #[.int .i64 0, .slice none 0 0] 25)) wr)
      (fun i _ => a.len - (intOf i).toNat)
    case atStart =>
      have h1 := heap_new ((w.alloc (.cells #[.int .i64 n, .slice p a.len cap] 25)).alloc (.cells #[.int .i64 0, .slice none 0 0] 25)) (.cells #[.int .i64 n, .slice none 0 0] 25)
      simp only [World.size_alloc] at h1
      exact ⟨0, .nil, none, 0, Nat.zero_le _, rfl, HT.out, GotY.start (World.ownsRow_nil _ _ _ _) (by simp), h1, (Below.refl _ _).alloc (by simp) _⟩
    case round =>
      obtain ⟨j, y, q, c, hj, rfl, hy, hgot, hout, hb⟩ := hrel
      have hyl : y.len = j := by
        have h1 := congrArg Y.len hy
        have h2 := congrArg Y.len HT.out
        rw [Y.len_app, len_mkY] at h1
        rw [len_mkY] at h2
        omega
      have HY := Lib.hid hy
      have HG := Lib.hid hgot
      have HYL := Lib.hid hyl
      have HOut := Lib.hid hout
      obtain ⟨ho1, ho3⟩ := box2_cells hout
      obtain ⟨fo1, fo3⟩ := free2 hout
      have hlo := lt_of_block hout
      obtain ⟨bt1, bt2⟩ := box_twoY hb
      obtain ⟨y1, y3⟩ := box2_cells bt1
      obtain ⟨z1, z3⟩ := box2_cells bt2
      obtain ⟨fz1, fz3⟩ := free2 bt2
      clear hgot hout hy hyl bt1 bt2
      by_cases hlt : j < a.len
      · clear z1 z3 fz1 fz3
        rcases hrow with h0 | ⟨b, off, rfl, hr⟩
        · omega
        obtain ⟨hcn, p', n', cap', hc, hi⟩ := base2_at (keeps2_two hb) hr hlt
        have hg := a.sz_ga j hlt
        obtain ⟨xs, hown, hkids⟩ := HG.out
        have hmx : y.len + 1 ≤ maxLen := by have := HYL.out; simp only [maxLen]; omega
        have hby : (y.len + 1) * 32 ≤ 140737488355328 := by have := HYL.out; omega
        have hz := hb.size
        simp only [World.size_alloc] at hz
        have ok : ∀ (w1 w3 : World) (Yo : Obj), Below (wr.alloc (.cells #[.int .i64 (a.gn j), .slice p' n' cap'] 25)).drew.heap.size (wr.alloc (.cells #[.int .i64 (a.gn j), .slice p' n' cap'] 25)).drew w1 → (w1.alloc Yo).grownBy w3 (Value.slice q y.len c).ownBlock →
            w3.heap[w.heap.size + 2]? = some (.cells #[.int .i64 n, .slice q y.len c] 25 (0, 0)) :=
          fun w1 w3 Yo h1 h2 => out_kept (B := w.heap.size + 3) hlo HOut.out (by omega) h1 hown.lt h2
        have OK := Lib.hid ok
        have hm := Lib.hid (show mkY (fun i => cut1n (d - 1) (a.gn i)) (fun i => cut1a (d - 1) (a.ga i)) (a.len - j) j = .cons (cut1n (d - 1) (a.gn j)) (cut1a (d - 1) (a.ga j)) (mkY (fun i => cut1n (d - 1) (a.gn i)) (fun i => cut1a (d - 1) (a.ga i)) (a.len - (j + 1)) (j + 1)) from mkY_step hlt)
        have J := fun W h => IH.out (a.ga j) (a.gn j) (d - 1) (IntKind.i64.wrap ((d : Int) - 1)) W p' n' cap' (by rw [IntKind.wrap_i64]; omega) (by omega) (by omega) (by omega) h
        have HJ := Lib.hid J
        clear J ok y1 y3
        go_upto_region 7 with fail
        go_region_law (first
          | (go_simp; go_at_call 66; refine (HJ.out (wr.alloc (.cells #[.int .i64 (a.gn j), .slice p' n' cap'] 25)).drew (hi.alloc _).drew).mono ?_; rintro e w1 ⟨q1, c1, rfl, hO, hb1⟩;
             have hownA := fun o => (ownsRowY_later ((hown.alloc _).drew) hb1).alloc o; have hz1 := hb1.size; simp at hz1; have hz2' : w.heap.size + 3 ≤ w1.heap.size := (by omega); have ca := box2_cells (call_kept hlo HOut.out hb1); obtain ⟨ca1, ca3⟩ := ca; have cb := free2 (call_kept hlo HOut.out hb1); obtain ⟨cb1, cb3⟩ := cb; have oc3 := fun o => (box2_cells (alloc_kept (call_kept hlo HOut.out hb1) o)).2; have oc4 : w.heap.size + 1 + 1 < w1.heap.size := (by omega))
          | (refine step_append_lies (w1.alloc (.cells #[.int .i64 (cut1n (d - 1) (a.gn j)), .slice q1 ((cut1a (d - 1) (a.ga j))).len c1] 25)) rfl (.tmp 22) (.tmp 27) 23 rfl (w.heap.size + 3) 25 i0 (.agg #[.int .i64 0, .slice none 0 0]) 2 32 ?_ ?_ ?_ ?_ ?_ ?_ ?_ (.slice q y.len c) y.len xs ?_ ?_ ⟨w1.heap.size, 0, none⟩ 1 1 [.int .i64 (cut1n (d - 1) (a.gn j)), .slice q1 ((cut1a (d - 1) (a.ga j))).len c1] ?_ ?_ ?_ ?_ ?_ ?_ ?_ ?_ (w1.heap.size+1) ?_ ?_; exact Try.underlying23; exact hi0; exact hz0; exact hz1'; exact hz2; rfl; exact (by decide); rfl; exact hownA _; rfl; rfl; exact World.news_of_block (heap_new _ _); exact one_two _ _ _ _; exact Nat.one_pos; exact hmx; exact hby; exact base_le _ hz2'; exact size_new _ _; intro g cp w3 hown3 hgrow hat hglt; have hh3 := OK.out _ _ _ hb1 hgrow; obtain ⟨o1, o3⟩ := box2_cells hh3; obtain ⟨o4, o6⟩ := free2 hh3))
        all_goals go_wp2_with fail
        all_goals
          have hl' : (y.snoc (cut1n (d - 1) (a.gn j)) (cut1a (d - 1) (a.ga j))).len = y.len + 1 := Y.len_snoc _ _ _
          have HL := Lib.hid hl'
          clear hl'
          go_roundw
          case rel => exact ⟨j + 1, _, some ⟨g, 0, none⟩, cp, by omega, by go_num, by rw [Y.snoc_app, ← hm.out]; exact HY.out, by rw [HL.out]; exact (GotY.round' (wx := (wr.alloc (.cells #[.int .i64 (a.gn j), .slice p' n' cap'] 25)).drew) hown hkids (fun j hj => Below.heap_alloc wr _ j hj) (by simp) hb1 hO hown3 hgrow hat).set (Nat.lt_succ_self _) _, by rw [HL.out]; exact fieldY_set hh3, (below_collect hb hz hb1 (by omega) hown.lt hgrow).setCell (Nat.le_refl _) _⟩
          case measure => simp [intOf]; omega
      · obtain rfl : y = tt := by
          have h := HY.out
          rw [mkY_end hlt, Y.app_nil] at h
          exact h
        clear HY y1 y3
        go_wp2_with fail
        obtain ⟨q', c', he, hO⟩ := HG.out.finish
        obtain ⟨rfl, rfl⟩ : q = q' ∧ c = c' := by simpa using he
        exact bodyPost_ret (v := .agg #[.int .i64 n, .slice q y.len c]) (by simp [results, Try.results66, go_sem, z1, z3]) rfl (made_store (wB := w) (lo := w.heap.size + 3) _ _ (by omega) (by omega) hO (below_two hb))

end Go.Proofs.Yteolfpdkpihnlaa

/-
  The walk of the reference's meet, which makes trees anew. Conditions: at most 100000 nodes; the trees are over the same symbols.
-/
set_option linter.unusedSimpArgs false
set_option linter.unusedVariables false
namespace Go.Proofs.Yteolfpdkpihnlaa
open Go.RowKit

theorem keeps2_three {w wr : World} {x y z : Obj} (hb : Below (w.heap.size + 3) (((w.alloc x).alloc y).alloc z) wr) : Keeps2 w wr := by
  refine Keeps2.of fun b o h => ?_
  rw [(bcell hb).1 b o (by omega), keep_alloc _ _ b o (by simp; omega), keep_alloc _ _ b o (by simp; omega)]
  exact keep_alloc w x b o h

theorem box_threeY {w wr : World} {x y z : Obj} (hb : Below (w.heap.size + 3) (((w.alloc x).alloc y).alloc z) wr) : wr.heap[w.heap.size]? = some x ∧ wr.heap[w.heap.size + 1]? = some y ∧ wr.heap[w.heap.size + 1 + 1]? = some z := by
  refine ⟨?_, ?_, ?_⟩
  · rw [hb.block _ (by omega)]; exact alloc_kept (alloc_kept (heap_new w x) y) z
  · rw [hb.block _ (by omega)]; exact alloc_kept (heap_new2 w x y) z
  · rw [hb.block _ (by omega)]; exact heap_new3 w x y z

theorem below_three {w wr : World} {x y z : Obj} (hb : Below (w.heap.size + 3) (((w.alloc x).alloc y).alloc z) wr) : Below w.heap.size w wr :=
  (below3 w x y z).trans (hb.mono (by omega))

theorem out_kept0 {wr w1 w3 : World} {j B : Nat} {o Yo : Obj} {v : Value} (hj : j < wr.heap.size) (h : wr.heap[j]? = some o) (hjB : j < B) (hb1 : Below wr.drew.heap.size wr.drew w1)
    (hlt : ∀ k, v.ownBlock = some k → B ≤ k ∧ k < wr.heap.size) (hgrow : (w1.alloc Yo).grownBy w3 v.ownBlock) : w3.heap[j]? = some o := by
  have hz1 : wr.heap.size ≤ w1.heap.size := hb1.size
  rw [hgrow.block j (by simp only [World.size_alloc]; omega) (fun e => by have := (hlt j e.symm).1; omega), Below.heap_alloc _ _ _ (by omega), hb1.block j hj]
  exact h

theorem call_kept0 {wr w1 : World} {j : Nat} {o : Obj} (hj : j < wr.heap.size) (h : wr.heap[j]? = some o) (hb1 : Below wr.drew.heap.size wr.drew w1) : w1.heap[j]? = some o := by
  rw [hb1.block j hj]; exact h

theorem below_collect0 {W wr w1 w3 : World} {B B' : Nat} {Yo : Obj} {v : Value} (hb : Below B' W wr) (hB : B' ≤ wr.heap.size) (hb1 : Below wr.drew.heap.size wr.drew w1) (hBB : B' ≤ B)
    (hlt : ∀ k, v.ownBlock = some k → B ≤ k ∧ k < wr.heap.size) (hgrow : (w1.alloc Yo).grownBy w3 v.ownBlock) : Below B' W w3 := by
  have hz1 : wr.heap.size ≤ w1.heap.size := hb1.size
  have h1 : Below B' wr w1 := ⟨hb1.os, hb1.tape, hb1.output, hb1.size, fun j hj => hb1.block j (by show j < wr.heap.size; omega)⟩
  exact ((hb.trans h1).alloc (by omega) Yo).grown hgrow (by simp only [World.size_alloc]; omega) fun j hj => by have := (hlt j hj).1; omega

theorem GotY.round0 {wr w1 w3 : World} {ty : TypeId} {y : Y} {B : Nat} {v : Value} {q : Option Addr} {c g cap : Nat} {xs : List Value} {n : Int} {a : Y} {Yo : Obj}
    (hown0 : wr.ownsRow B ty 2 v y.len xs) (hkids : KidsY wr y xs v.ownBlock B wr.heap.size)
    (hb1 : Below wr.drew.heap.size wr.drew w1) (hO : OwnY w1 a q c wr.heap.size w1.heap.size)
    (hown : w3.ownsRow B ty 2 (.slice (some ⟨g, 0, none⟩) (y.len + 1) cap) (y.len + 1) (xs ++ [.int .i64 n, .slice q a.len c]))
    (hgrow : (w1.alloc Yo).grownBy w3 v.ownBlock) (hat : v.ownBlock = some g ∨ g = w1.heap.size + 1) : GotY w3 ty (y.snoc n a) (.slice (some ⟨g, 0, none⟩) (y.len + 1) cap) B := by
  have hz1 : wr.heap.size ≤ w1.heap.size := hb1.size
  refine GotY.push (wy := w1.alloc Yo) (lo := wr.heap.size) (hi := w1.heap.size) hown0 hkids ?_ (hO.keep fun j _ b => Below.heap_alloc _ _ _ b) (Nat.le_refl _) hz1 (by simp) hown hgrow (by simpa using hat)
  intro j _ hj
  rw [Below.heap_alloc _ _ _ (by omega)]
  exact hb1.block j hj

theorem mg_facts {R : List Int} {D : Int → Y → Int → Y → Int × Y} {n : Int} {a b : Y} (ho1 : over1 R n a = true) (ho2 : over1 R n b = true) :
    a.len = b.len ∧ overE R a = true ∧ overE R b = true ∧ mkY (fun i => (mg1 D (a.gn i) (a.ga i) (b.gn i) (b.ga i)).1) (fun i => (mg1 D (a.gn i) (a.ga i) (b.gn i) (b.ga i)).2) a.len 0 = mgY D a b := by
  have hl := over_len ho1 ho2
  refine ⟨hl, ?_, ?_, ?_⟩
  · simp only [over1, Bool.and_eq_true] at ho1; exact ho1.2
  · simp only [over1, Bool.and_eq_true] at ho2; exact ho2.2
  · have h := mkY_mg D a b hl a.len 0 (by omega)
    rwa [Y.drop_zero, Y.drop_zero] at h

set_option maxRecDepth 100000 in
set_option maxHeartbeats 8000000 in
theorem emeet_any (R : List Int) (N : Nat) : ∀ (a b : Y) (n n' : Int) (w : World) (p p' : Option Addr) (l cap l' cap' : Nat), a.sz < N → a.sz < 100000 → over1 R n a = true → over1 R n' b = true → IsY w a p l cap → IsY w b p' l' cap' →
    Calls Try.prog 60 #[.agg #[.int .i64 n, .slice p l cap], .agg #[.int .i64 n', .slice p' l' cap']] w (MadeY (mg1 dMeet n a n' b).1 (mg1 dMeet n a n' b).2 w) := by
  obtain ⟨i0, hi0, hz0, hz1', hz2⟩ := info_parts infoY
  induction N with
  | zero => intro a b n n' w p p' l cap l' cap' hN; omega
  | succ N ih =>
    intro a b n n' w p p' l cap l' cap' hN h60 ho1 ho2 his hit
    have hlen := a.len_le_sz
    by_cases hnn : n = n'
    case neg =>
      have e1 : mg1 dMeet n a n' b = (-1, .nil) := if_neg hnn
      rw [e1]
      dsimp only
      have hd : (n != n') = true := by simpa using hnn
      clear e1 ih ho1 ho2 hnn
      go_enter Try.func60, Try.ntmps60
      go_wp2_with fail
      refine (unknown_any _).mono ?_
      rintro e w1 ⟨q1, c1, rfl, hO, hb1⟩
      have z0 := box2_later hb1 (heap_new3 w (.cells #[.int .i64 n, .slice p l cap] 25) (.cells #[.int .i64 n', .slice p' l' cap'] 25) (.cells #[.int .i64 0, .slice none 0 0] 25))
      obtain ⟨z1, z2⟩ := box2_cells z0
      obtain ⟨f1, f2⟩ := free2 z0
      have hz := hb1.size
      have hz2 : w.heap.size + 3 ≤ w1.heap.size := by simpa using hz
      clear z0
      go_wp2_with fail
      refine bodyPost_ret (v := .agg #[.int .i64 (-1), .slice q1 Y.nil.len c1]) (by simp [results, Try.results60, go_sem, z1, z2]) rfl ?_
      exact made_store (wB := w) (lo := w.heap.size + 3) _ _ (by omega) (by omega) (hO.mono (by simp <;> omega) (Nat.le_refl _)) ((below3 w _ _ _).trans (hb1.mono (by simp <;> omega)))
    case pos =>
    subst hnn
    have e1 : mg1 dMeet n a n b = (n, mgY dMeet a b) := if_pos rfl
    rw [e1]
    dsimp only
    have hd : (n != n) = false := by simp
    obtain ⟨hlab, hk1, hk2, hmk⟩ := mg_facts (D := dMeet) ho1 ho2
    have HT := Lib.hid hmk
    have HK1 := Lib.hid hk1
    have HK2 := Lib.hid hk2
    generalize mgY dMeet a b = tt at *
    clear e1 hmk hk1 hk2 ho1 ho2
    obtain ⟨hn, hcap, hmax, hnil, hrow⟩ := his
    obtain ⟨hn', hcap', hmax', hnil', hrow'⟩ := hit
    subst hn hn'
    have hle : a.len ≤ b.len := by omega
    have hle' : b.len ≤ a.len := by omega
    clear hlab
    have hn60 : a.len < 100000 := by omega
    have IH := Lib.hid ih
    clear ih
    go_enter Try.func60, Try.ntmps60
    go_wp2_with fail
    clear hd
    go_loopw [19] (fun i wr => ∃ (j : Nat) (y : Y) (q : Option Addr) (c : Nat), j ≤ a.len ∧ i = .int .i64 (j : Int) ∧ y.app (mkY (fun i => (mg1 dMeet (a.gn i) (a.ga i) (b.gn i) (b.ga i)).1) (fun i => (mg1 dMeet (a.gn i) (a.ga i) (b.gn i) (b.ga i)).2) (a.len - j) j) = tt ∧ GotY wr 25 y (.slice q y.len c) (w.heap.size + 4) ∧
        wr.heap[w.heap.size + 3]? = some (.cells #[.int .i64 n, .slice q y.len c] 25 (0, 0)) ∧
        Below (w.heap.size + 3) (((w.alloc (.cells #[.int .i64 n, .slice p a.len cap] 25)).alloc (.cells #[.int .i64 n, .slice p' b.len cap'] 25)).alloc (.cells #[.int .i64 0, .slice none 0 0] 25)) wr)
      (fun i _ => a.len - (intOf i).toNat)
    case atStart =>
      have h1 := heap_new (((w.alloc (.cells #[.int .i64 n, .slice p a.len cap] 25)).alloc (.cells #[.int .i64 n, .slice p' b.len cap'] 25)).alloc (.cells #[.int .i64 0, .slice none 0 0] 25)) (.cells #[.int .i64 n, .slice none 0 0] 25)
      simp only [World.size_alloc] at h1
      exact ⟨0, .nil, none, 0, Nat.zero_le _, rfl, HT.out, GotY.start (World.ownsRow_nil _ _ _ _) (by simp), h1, (Below.refl _ _).alloc (by simp) _⟩
    case round =>
      obtain ⟨j, y, q, c, hj, rfl, hy, hgot, hout, hb⟩ := hrel
      have hyl : y.len = j := by
        have h1 := congrArg Y.len hy
        have h2 := congrArg Y.len HT.out
        rw [Y.len_app, len_mkY] at h1
        rw [len_mkY] at h2
        omega
      have HY := Lib.hid hy
      have HG := Lib.hid hgot
      have HYL := Lib.hid hyl
      have HOut := Lib.hid hout
      obtain ⟨ho1, ho3⟩ := box2_cells hout
      obtain ⟨fo1, fo3⟩ := free2 hout
      have hlo := lt_of_block hout
      obtain ⟨bt1, bt2, bt3⟩ := box_threeY hb
      obtain ⟨y1, y3⟩ := box2_cells bt1
      obtain ⟨x1, x3⟩ := box2_cells bt2
      obtain ⟨z1, z3⟩ := box2_cells bt3
      obtain ⟨fz1, fz3⟩ := free2 bt3
      clear hgot hout hy hyl bt1 bt2 bt3
      by_cases hlt : j < a.len
      · clear z1 z3 fz1 fz3
        rcases hrow with h0 | ⟨rb, off, rfl, hr⟩
        · omega
        rcases hrow' with h0 | ⟨rb', off', rfl, hr'⟩
        · omega
        have hltb : j < b.len := by omega
        obtain ⟨hcn, p1, n1, cap1, hc, hi⟩ := base2_at (keeps2_three hb) hr hlt
        obtain ⟨hcn2, p2, n2, cap2, hc2, hi2⟩ := base2_at (keeps2_three hb) hr' hltb
        have hg := a.sz_ga j hlt
        obtain ⟨xs, hown, hkids⟩ := HG.out
        have hmx : y.len + 1 ≤ maxLen := by have := HYL.out; simp only [maxLen]; omega
        have hby : (y.len + 1) * 32 ≤ 140737488355328 := by have := HYL.out; omega
        have hz := hb.size
        simp only [World.size_alloc] at hz
        have ok : ∀ (w1 w3 : World) (Yo : Obj), Below wr.drew.heap.size wr.drew w1 → (w1.alloc Yo).grownBy w3 (Value.slice q y.len c).ownBlock →
            w3.heap[w.heap.size + 3]? = some (.cells #[.int .i64 n, .slice q y.len c] 25 (0, 0)) :=
          fun w1 w3 Yo h1 h2 => out_kept0 (B := w.heap.size + 4) hlo HOut.out (by omega) h1 hown.lt h2
        have OK := Lib.hid ok
        have hm := Lib.hid (show mkY (fun i => (mg1 dMeet (a.gn i) (a.ga i) (b.gn i) (b.ga i)).1) (fun i => (mg1 dMeet (a.gn i) (a.ga i) (b.gn i) (b.ga i)).2) (a.len - j) j = .cons (mg1 dMeet (a.gn j) (a.ga j) (b.gn j) (b.ga j)).1 (mg1 dMeet (a.gn j) (a.ga j) (b.gn j) (b.ga j)).2 (mkY (fun i => (mg1 dMeet (a.gn i) (a.ga i) (b.gn i) (b.ga i)).1) (fun i => (mg1 dMeet (a.gn i) (a.ga i) (b.gn i) (b.ga i)).2) (a.len - (j + 1)) (j + 1)) from mkY_step hlt)
        have J := fun W h h' => IH.out (a.ga j) (b.ga j) (a.gn j) (b.gn j) W p1 p2 n1 cap1 n2 cap2 (by omega) (by omega) (overE_at HK1.out hlt) (overE_at HK2.out hltb) h h'
        generalize (mg1 dMeet (a.gn j) (a.ga j) (b.gn j) (b.ga j)).1 = nj at *
        generalize (mg1 dMeet (a.gn j) (a.ga j) (b.gn j) (b.ga j)).2 = aj at *
        have HJ := Lib.hid J
        clear J ok
        go_upto_region 7 with fail
        go_region_law (first
          | (go_simp; go_at_call 60; refine (HJ.out wr.drew hi.drew hi2.drew).mono ?_; rintro e w1 ⟨q1, c1, rfl, hO, hb1⟩;
             have hownA := fun o => (ownsRowY_later (wr := wr.drew) (hown) hb1).alloc o; have hz1 : wr.heap.size ≤ w1.heap.size := hb1.size; have hz2' : w.heap.size + 4 ≤ w1.heap.size := (by omega); have ca := box2_cells (call_kept0 hlo HOut.out hb1); obtain ⟨ca1, ca3⟩ := ca; have cb := free2 (call_kept0 hlo HOut.out hb1); obtain ⟨cb1, cb3⟩ := cb; have oc3 := fun o => (box2_cells (alloc_kept (call_kept0 hlo HOut.out hb1) o)).2; have oc4 : w.heap.size + 1 + 1 + 1 < w1.heap.size := (by omega))
          | (refine step_append_lies (w1.alloc (.cells #[.int .i64 nj, .slice q1 aj.len c1] 25)) rfl (.tmp 23) (.tmp 35) 23 rfl (w.heap.size + 4) 25 i0 (.agg #[.int .i64 0, .slice none 0 0]) 2 32 ?_ ?_ ?_ ?_ ?_ ?_ ?_ (.slice q y.len c) y.len xs ?_ ?_ ⟨w1.heap.size, 0, none⟩ 1 1 [.int .i64 nj, .slice q1 aj.len c1] ?_ ?_ ?_ ?_ ?_ ?_ ?_ ?_ (w1.heap.size+1) ?_ ?_; exact Try.underlying23; exact hi0; exact hz0; exact hz1'; exact hz2; rfl; exact (by decide); rfl; exact hownA _; rfl; rfl; exact World.news_of_block (heap_new _ _); exact one_two _ _ _ _; exact Nat.one_pos; exact hmx; exact hby; exact base_le _ hz2'; exact size_new _ _; intro g cp w3 hown3 hgrow hat hglt; have hh3 := OK.out _ _ _ hb1 hgrow; obtain ⟨o1, o3⟩ := box2_cells hh3; obtain ⟨o4, o6⟩ := free2 hh3))
        all_goals go_wp2_with fail
        all_goals
          have hl' : (y.snoc nj aj).len = y.len + 1 := Y.len_snoc _ _ _
          have HL := Lib.hid hl'
          clear hl'
          go_roundw
          case rel => exact ⟨j + 1, _, some ⟨g, 0, none⟩, cp, by omega, by go_num, by rw [Y.snoc_app, ← hm.out]; exact HY.out, by rw [HL.out]; exact (GotY.round0 hown hkids hb1 hO hown3 hgrow hat).set (Nat.lt_succ_self _) _, by rw [HL.out]; exact fieldY_set hh3, (below_collect0 hb (by omega) hb1 (by omega) hown.lt hgrow).setCell (Nat.le_refl _) _⟩
          case measure => simp [intOf]; omega
      · obtain rfl : y = tt := by
          have h := HY.out
          rw [mkY_end hlt, Y.app_nil] at h
          exact h
        clear HY y1 y3 x1 x3
        go_wp2_with fail
        obtain ⟨q', c', he, hO⟩ := HG.out.finish
        obtain ⟨rfl, rfl⟩ : q = q' ∧ c = c' := by simpa using he
        exact bodyPost_ret (v := .agg #[.int .i64 n, .slice q y.len c]) (by simp [results, Try.results60, go_sem, z1, z3]) rfl (made_store (wB := w) (lo := w.heap.size + 4) _ _ (by omega) (by omega) hO (below_three hb))

end Go.Proofs.Yteolfpdkpihnlaa

