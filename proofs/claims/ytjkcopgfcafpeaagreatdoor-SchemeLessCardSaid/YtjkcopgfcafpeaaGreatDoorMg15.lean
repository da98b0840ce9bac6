/-
  Parts of one proof, laid into one text: TWalkJ, TWalkR, TPlainV. Conditions: each part names its own.
-/
import Derived.Test.YtjkcopgfcafpeaaGreatDoorMg13
import Derived.Deep.OwnRows
import Derived.Deep.RegionLaw

/-
  The walk of Subst: what it returns, for whatever term and args. Conditions: at most 2^44 args.
-/
set_option linter.unusedSimpArgs false
set_option linter.unusedVariables false
namespace Go.Proofs.YtjkcopgfcafpeaaGreatDoor
open Go.RowKit

theorem infoI : (Tryz.prog.info? 3).map (fun i => (i.zero, i.size, i.bytes)) = some (some (.int .i64 0), 1, 8) := by kernel_rfl

/-- each term of a list has at most 100000 nodes -/
def smalls : X → Bool
  | .nil => true
  | .cons _ _ a r => decide (a.sz < 100000) && smalls r

theorem smalls_at {t : X} : ∀ {i : Nat}, smalls t = true → i < t.len → (t.ga i).sz < 100000 := by
  induction t with
  | nil => intro _ _ h; exact absurd h (Nat.not_lt_zero _)
  | cons k n a r iha ihr =>
    intro i h hi
    simp only [smalls, Bool.and_eq_true, decide_eq_true_eq] at h
    cases i with
    | zero => exact h.1
    | succ i => exact ihr h.2 (by simp only [X.len] at hi; omega)

theorem smalls_of {t : X} : (∀ i, i < t.len → (t.ga i).sz < 100000) → smalls t = true := by
  induction t with
  | nil => intro _; rfl
  | cons k n a r iha ihr =>
    intro h
    simp only [smalls, Bool.and_eq_true, decide_eq_true_eq]
    exact ⟨h 0 (by simp [X.len]), ihr fun i hi => h (i + 1) (by simp only [X.len]; omega)⟩

theorem smalls_not {t : X} {i : Nat} (hi : i < t.len) (h : ¬ (t.ga i).sz < 100000) : smalls t = false := by
  cases hs : smalls t with
  | false => rfl
  | true => exact absurd (smalls_at hs hi) h

def kn1 (args : X) (k n : Int) (a : X) : Bool := kn args k n a && allB (kn args) a

/-- what Subst returns: an error, and a term -/
def subRes (args : X) (k n : Int) (a : X) : Int × Int × Int × X :=
  if a.sz < 100000 then
    if smalls args = true then
      if kn1 args k n a = true then
        if g1 args k n + gsz args a ≤ 100000 then (0, rep1 args k n (rep args a)) else (3, 0, 0, .nil)
      else (2, 0, 0, .nil)
    else (3, 0, 0, .nil)
  else (3, 0, 0, .nil)

/-- the row of the sizes while it is filled -/
def SzRow (args : X) (sb j : Nat) (w : World) : Prop := ∃ cs : Array Value, w.heap[sb]? = some (.cells cs 3 (0, 0)) ∧ cs.size = args.len ∧ ∀ i, i < j → cs[i]? = some (.int .i64 (1 + ((args.ga i).sz : Int))) ∧ (args.ga i).sz < 100000

theorem SzRow.keep {args : X} {sb j : Nat} {w w' : World} (h : SzRow args sb j w) (hk : w'.heap[sb]? = w.heap[sb]?) : SzRow args sb j w' := by
  obtain ⟨cs, h1, h2⟩ := h
  exact ⟨cs, by rw [hk]; exact h1, h2⟩

theorem SzRow.cell {args : X} {sb j : Nat} {w : World} (h : SzRow args sb j w) {i : Nat} (hi : i < args.len) : (∃ v, w.cell? ⟨sb, i, none⟩ = some v) ∧ w.frozen? ⟨sb, i, none⟩ = false := by
  obtain ⟨cs, h1, h2, _⟩ := h
  refine ⟨⟨cs[i]'(by omega), ?_⟩, ?_⟩
  · rw [cell_of_row w sb i cs _ _ h1]; exact Array.getElem?_eq_getElem (by omega)
  · simp [World.frozen?, h1]

theorem SzRow.set {args : X} {sb j : Nat} {w : World} (h : SzRow args sb j w) (hj : j < args.len) {z : Int} (hz : z = 1 + ((args.ga j).sz : Int)) (hs : (args.ga j).sz < 100000) : SzRow args sb (j + 1) (w.setCell ⟨sb, j, none⟩ (.int .i64 z)) := by
  obtain ⟨cs, h1, h2, h3⟩ := h
  subst hz
  refine ⟨_, heap_setCell_same w sb j cs _ _ h1, by simp [h2], fun i hi => ?_⟩
  by_cases he : i = j
  · subst he
    exact ⟨by simp [h2, hj], hs⟩
  · have := h3 i (by omega)
    refine ⟨?_, this.2⟩
    rw [Array.getElem?_setIfInBounds_ne (fun e => he e.symm)]
    exact this.1

theorem SzRow.sizes {args : X} {sb : Nat} {w : World} (h : SzRow args sb args.len w) : Sizes args sb w := by
  obtain ⟨cs, h1, h2, h3⟩ := h
  intro i hi
  exact ⟨by rw [cell_of_row w sb i cs _ _ h1]; exact (h3 i hi).1, (h3 i hi).2⟩

theorem heap3 (w : World) (x y z : Obj) : (((w.alloc x).alloc y).alloc z).heap[w.heap.size]? = some x ∧ (((w.alloc x).alloc y).alloc z).heap[w.heap.size + 1]? = some y ∧ (((w.alloc x).alloc y).alloc z).heap[w.heap.size + 1 + 1]? = some z := by
  refine ⟨alloc_kept (alloc_kept (heap_new w x) y) z, alloc_kept (heap_new2 w x y) z, ?_⟩
  have h := heap_new2 (w.alloc x) y z
  rw [World.size_alloc] at h
  exact h

/-- the variables of Subst, in their blocks -/
def Vars3 (w : World) (x y z : Obj) (W : World) : Prop := W.heap[w.heap.size]? = some x ∧ W.heap[w.heap.size + 1]? = some y ∧ W.heap[w.heap.size + 1 + 1]? = some z ∧ Below w.heap.size w W

theorem Vars3.below {w W W' : World} {x y z : Obj} (h : Vars3 w x y z W) (hb : Below W.heap.size W W') : Vars3 w x y z W' :=
  ⟨box3_later hb h.1, box3_later hb h.2.1, box3_later hb h.2.2.1, h.2.2.2.trans (hb.mono h.2.2.2.size)⟩

theorem Vars3.start (w : World) (x y z : Obj) : Vars3 w x y z (((w.alloc x).alloc y).alloc z) :=
  ⟨(heap3 w x y z).1, (heap3 w x y z).2.1, (heap3 w x y z).2.2, (((Below.refl w.heap.size w).alloc (Nat.le_refl _) _).alloc (by simp) _).alloc (by simp; omega) _⟩

theorem Vars3.set {w W : World} {x y z : Obj} (h : Vars3 w x y z W) {b : Nat} (hb : w.heap.size + 1 + 1 < b) (o : Nat) (v : Value) : Vars3 w x y z (W.setCell ⟨b, o, none⟩ v) :=
  ⟨by rw [Below.heap_setCell _ _ _ _ (by show w.heap.size ≠ b; omega)]; exact h.1, by rw [Below.heap_setCell _ _ _ _ (by show w.heap.size + 1 ≠ b; omega)]; exact h.2.1,
    by rw [Below.heap_setCell _ _ _ _ (by show w.heap.size + 1 + 1 ≠ b; omega)]; exact h.2.2.1, h.2.2.2.setCell (by show w.heap.size ≤ b; omega) _⟩

theorem setCell_size (w : World) (a : Addr) (v : Value) : (w.setCell a v).heap.size = w.heap.size := by simp [World.setCell]

end Go.Proofs.YtjkcopgfcafpeaaGreatDoor

/-
  The walk of the reference's Copy: it makes the term anew. Conditions: at most 100000 nodes.
-/
set_option linter.unusedSimpArgs false
set_option linter.unusedVariables false
namespace Go.Proofs.YtjkcopgfcafpeaaGreatDoor
open Go.RowKit

theorem keeps3_two {w wr : World} {x y : Obj} (hb : Below (w.heap.size + 2) ((w.alloc x).alloc y) wr) : Keeps3 w wr := by
  refine Keeps3.of fun b o h => ?_
  rw [(bcell hb).1 b o (by omega), keep_alloc _ _ b o (by simp; omega)]
  exact keep_alloc w x b o h

theorem box_two1 {w wr : World} {x y : Obj} (hb : Below (w.heap.size + 2) ((w.alloc x).alloc y) wr) : wr.heap[w.heap.size]? = some x ∧ wr.heap[w.heap.size + 1]? = some y := by
  refine ⟨?_, ?_⟩
  · rw [hb.block _ (by omega)]; exact alloc_kept (heap_new w x) y
  · rw [hb.block _ (by omega)]; exact heap_new2 w x y

theorem field_set {w : World} {b : Nat} {x y z u : Value} {ty : TypeId} (h : w.heap[b]? = some (.cells #[x, y, z] ty (0, 0))) : (w.setCell ⟨b, 2, none⟩ u).heap[b]? = some (.cells #[x, y, u] ty (0, 0)) := by
  have := heap_setCell_same w b 2 #[x, y, z] ty u h
  simpa using this

theorem one_three (a b : Int) (q : Option Addr) (n c : Nat) : ∀ u ∈ [Value.int .i64 a, .int .i64 b, Value.slice q n c], u.oneCell' = true := by simp [Value.oneCell']

theorem GotX.round' {wr wx w1 w3 : World} {ty : TypeId} {y : X} {B : Nat} {v : Value} {q : Option Addr} {c g cap : Nat} {xs : List Value} {k n : Int} {a : X} {Y : Obj}
    (hown0 : wr.ownsRow B ty 3 v y.len xs) (hkids : KidsX wr y xs v.ownBlock B wr.heap.size)
    (hx : ∀ j, j < wr.heap.size → wx.heap[j]? = wr.heap[j]?) (hxs : wx.heap.size = wr.heap.size + 1)
    (hb1 : Below wx.heap.size wx w1) (hO : OwnX w1 a q c wx.heap.size w1.heap.size)
    (hown : w3.ownsRow B ty 3 (.slice (some ⟨g, 0, none⟩) (y.len + 1) cap) (y.len + 1) (xs ++ [.int .i64 k, .int .i64 n, .slice q a.len c]))
    (hgrow : (w1.alloc Y).grownBy w3 v.ownBlock) (hat : v.ownBlock = some g ∨ g = w1.heap.size + 1) : GotX w3 ty (y.snoc k n a) (.slice (some ⟨g, 0, none⟩) (y.len + 1) cap) B := by
  have hz1 := hb1.size
  rw [hxs] at hO hz1
  refine GotX.push (wy := w1.alloc Y) (lo := wr.heap.size + 1) (hi := w1.heap.size) hown0 hkids ?_ (hO.keep fun j _ b => Below.heap_alloc _ _ _ b) (Nat.le_succ _) hz1 (by simp) hown hgrow (by simpa using hat)
  intro j hj
  rw [Below.heap_alloc _ _ _ (by omega), hb1.block j (by omega), hx j hj]

set_option maxRecDepth 100000 in
set_option maxHeartbeats 4000000 in
theorem tcopy_any (N : Nat) : ∀ (a : X) (k n : Int) (w : World) (p : Option Addr) (l cap : Nat), a.sz < N → a.sz < 100000 → IsX w a p l cap →
    Calls Tryz.prog 75 #[.agg #[.int .i64 k, .int .i64 n, .slice p l cap]] w (Made k n a w) := by
  obtain ⟨i0, hi0, hz0, hz1', hz2⟩ := info_parts infoX
  induction N with
  | zero => intro a k n w p l cap hN; omega
  | succ N ih =>
    intro a k n w p l cap hN h60 his
    have hlen := a.len_le_sz
    obtain ⟨hn, hcap, hmax, hnil, hrow⟩ := his
    subst hn
    have hn60 : a.len < 100000 := by omega
    have IH := Lib.hid ih
    clear ih
    go_enter Tryz.func75, Tryz.ntmps75
    go_wp2_with fail
    go_loopw [14] (fun i wr => ∃ (j : Nat) (y : X) (q : Option Addr) (c : Nat), j ≤ a.len ∧ i = .int .i64 (j : Int) ∧ y.app (a.drop j) = a ∧ GotX wr 50 y (.slice q y.len c) (w.heap.size + 3) ∧
        wr.heap[w.heap.size + 2]? = some (.cells #[.int .i64 k, .int .i64 n, .slice q y.len c] 50 (0, 0)) ∧
        Below (w.heap.size + 2) ((w.alloc (.cells #[.int .i64 k, .int .i64 n, .slice p a.len cap] 50)).alloc (.cells #[.int .i64 0, .int .i64 0, .slice none 0 0] 50)) wr)
      (fun i _ => a.len - (intOf i).toNat)
    case atStart =>
      have h1 := heap_new ((w.alloc (.cells #[.int .i64 k, .int .i64 n, .slice p a.len cap] 50)).alloc (.cells #[.int .i64 0, .int .i64 0, .slice none 0 0] 50)) (.cells #[.int .i64 k, .int .i64 n, .slice none 0 0] 50)
      simp only [World.size_alloc] at h1
      exact ⟨0, .nil, none, 0, Nat.zero_le _, rfl, by rw [X.drop_zero]; rfl, GotX.start (World.ownsRow_nil _ _ _ _) (by simp), h1, (Below.refl _ _).alloc (by simp) _⟩
    case round =>
      obtain ⟨j, y, q, c, hj, rfl, hy, hgot, hout, hb⟩ := hrel
      have hyl : y.len = j := by
        have := congrArg X.len hy
        rw [X.len_app, X.len_drop] at this
        omega
      have HY := Lib.hid hy
      have HG := Lib.hid hgot
      have HYL := Lib.hid hyl
      have HOut := Lib.hid hout
      obtain ⟨ho1, ho2, ho3⟩ := box3_cells hout
      obtain ⟨fo1, fo2, fo3⟩ := free3 hout
      have hlo := lt_of_block hout
      obtain ⟨bt1, bt2⟩ := box_two1 hb
      obtain ⟨y1, y2, y3⟩ := box3_cells bt1
      obtain ⟨z1, z2, z3⟩ := box3_cells bt2
      obtain ⟨fz1, fz2, fz3⟩ := free3 bt2
      clear hgot hout hy hyl bt1 bt2
      by_cases hlt : j < a.len
      · clear z1 z2 z3 fz1 fz2 fz3
        rcases hrow with h0 | ⟨b, off, rfl, hr⟩
        · omega
        obtain ⟨hck, hcn, p', n', cap', hc, hi⟩ := base3_at (keeps3_two hb) hr hlt
        have hg := a.sz_ga j hlt
        obtain ⟨xs, hown, hkids⟩ := HG.out
        have hmx : y.len + 1 ≤ maxLen := by have := HYL.out; simp only [maxLen]; omega
        have hby : (y.len + 1) * 40 ≤ 140737488355328 := by have := HYL.out; omega
        have hz := hb.size
        simp only [World.size_alloc] at hz
        have ok : ∀ (w1 w3 : World) (Y : Obj), Below (wr.alloc (.cells #[.int .i64 (a.gk j), .int .i64 (a.gn j), .slice p' n' cap'] 50)).drew.heap.size (wr.alloc (.cells #[.int .i64 (a.gk j), .int .i64 (a.gn j), .slice p' n' cap'] 50)).drew w1 → (w1.alloc Y).grownBy w3 (Value.slice q y.len c).ownBlock →
            w3.heap[w.heap.size + 2]? = some (.cells #[.int .i64 k, .int .i64 n, .slice q y.len c] 50 (0, 0)) :=
          fun w1 w3 Y h1 h2 => out_kept (B := w.heap.size + 3) hlo HOut.out (by omega) h1 hown.lt h2
        have OK := Lib.hid ok
        clear ok y1 y2 y3
        go_upto_region 5 with fail
        go_region_law (first
          | (go_simp; go_at_call 75; refine (IH.out (a.ga j) _ _ _ p' n' cap' (by omega) (by omega) ?_).mono ?_; exact (hi.alloc _).drew; rintro e w1 ⟨q1, c1, rfl, hO, hb1⟩;
             have hownA := fun o => (ownsRow_later ((hown.alloc _).drew) hb1).alloc o; have hz1 := hb1.size; simp at hz1; have hz2' : w.heap.size + 3 ≤ w1.heap.size := (by omega); have ca := box3_cells (call_kept hlo HOut.out hb1); obtain ⟨ca1, ca2, ca3⟩ := ca; have cb := free3 (call_kept hlo HOut.out hb1); obtain ⟨cb1, cb2, cb3⟩ := cb; have oc3 := fun o => (box3_cells (alloc_kept (call_kept hlo HOut.out hb1) o)).2.2; have oc4 : w.heap.size + 1 + 1 < w1.heap.size := (by omega))
          | (refine step_append_lies (w1.alloc (.cells #[.int .i64 (a.gk j), .int .i64 (a.gn j), .slice q1 (a.ga j).len c1] 50)) rfl (.tmp 19) (.tmp 22) 48 rfl (w.heap.size + 3) 50 i0 (.agg #[.int .i64 0, .int .i64 0, .slice none 0 0]) 3 40 ?_ ?_ ?_ ?_ ?_ ?_ ?_ (.slice q y.len c) y.len xs ?_ ?_ ⟨w1.heap.size, 0, none⟩ 1 1 [.int .i64 (a.gk j), .int .i64 (a.gn j), .slice q1 (a.ga j).len c1] ?_ ?_ ?_ ?_ ?_ ?_ ?_ ?_ (w1.heap.size+1) ?_ ?_; exact Tryz.underlying48; exact hi0; exact hz0; exact hz1'; exact hz2; rfl; exact (by decide); rfl; exact hownA _; rfl; rfl; exact World.news_of_block (heap_new _ _); exact one_three _ _ _ _ _; exact Nat.one_pos; exact hmx; exact hby; exact base_le _ hz2'; exact size_new _ _; intro g cp w3 hown3 hgrow hat hglt; have hh3 := OK.out _ _ _ hb1 hgrow; obtain ⟨o1, o2, o3⟩ := box3_cells hh3; obtain ⟨o4, o5, o6⟩ := free3 hh3))
        all_goals go_wp2_with fail
        all_goals
          have hy' : (y.snoc (a.gk j) (a.gn j) (a.ga j)).app (a.drop (j + 1)) = a := by rw [X.snoc_app, ← X.drop_cons a j hlt]; exact HY.out
          have hl' : (y.snoc (a.gk j) (a.gn j) (a.ga j)).len = y.len + 1 := X.len_snoc _ _ _ _
          have HL := Lib.hid hl'
          clear hl'
          go_roundw
          case rel => exact ⟨j + 1, _, some ⟨g, 0, none⟩, cp, by omega, by go_num, hy', by rw [HL.out]; exact (GotX.round' (wx := (wr.alloc (.cells #[.int .i64 (a.gk j), .int .i64 (a.gn j), .slice p' n' cap'] 50)).drew) hown hkids (fun j hj => Below.heap_alloc wr _ j hj) (by simp) hb1 hO hown3 hgrow hat).set (Nat.lt_succ_self _) _, by rw [HL.out]; exact field_set hh3, (below_collect hb hz hb1 (by omega) hown.lt hgrow).setCell (Nat.le_refl _) _⟩
          case measure => simp [intOf]; omega
      · obtain rfl : y = a := by
          have h := HY.out
          rw [X.drop_end a j (by omega), X.app_nil] at h
          exact h
        clear HY y1 y2 y3
        go_wp2_with fail
        obtain ⟨q', c', he, hO⟩ := HG.out.finish
        obtain ⟨rfl, rfl⟩ : q = q' ∧ c = c' := by simpa using he
        exact bodyPost_ret (v := .agg #[.int .i64 k, .int .i64 n, .slice q y.len c]) (by simp [results, Tryz.results75, go_sem, z1, z2, z3]) rfl ⟨q, c, rfl, hO.set3 _ _ _ (by omega) (by omega), below_set3 _ _ _ (below_two hb) (by omega)⟩

end Go.Proofs.YtjkcopgfcafpeaaGreatDoor

/-
  Plain mathematics of the variables of a term: the ordered list of their numbers, as the reference makes it. Conditions: none.
-/
set_option linter.unusedSimpArgs false
set_option linter.unusedVariables false
namespace Go.Proofs.YtjkcopgfcafpeaaGreatDoor
open Go.RowKit

/-- put a number into an ordered list, unless it is there -/
def ins (n : Int) : List Int → List Int
  | [] => [n]
  | x :: r => if x < n then x :: ins n r else if x = n then x :: r else n :: x :: r

theorem ins_len (n : Int) (l : List Int) : (ins n l).length ≤ l.length + 1 := by
  induction l with
  | nil => simp [ins]
  | cons x r ih =>
    simp only [ins]
    split
    · simp; omega
    · split <;> simp

theorem ins_pos (n : Int) (l : List Int) : 1 ≤ (ins n l).length := by
  cases l with
  | nil => simp [ins]
  | cons x r =>
    simp only [ins]
    split
    · simp
    · split <;> simp

theorem mem_ins (n v : Int) (l : List Int) : v ∈ ins n l ↔ v = n ∨ v ∈ l := by
  induction l with
  | nil => simp [ins]
  | cons x r ih =>
    simp only [ins]
    split
    · simp only [List.mem_cons, ih]
      constructor
      · rintro (h | h | h) <;> simp [h]
      · rintro (h | h | h) <;> simp [h]
    · split
      · rename_i h1
        subst h1
        simp only [List.mem_cons]
        constructor
        · intro h; exact Or.inr h
        · rintro (h | h)
          · exact Or.inl h
          · exact h
      · simp only [List.mem_cons]

/-- strictly increasing -/
def Inc (l : List Int) : Prop := l.Pairwise (· < ·)

theorem ins_inc (n : Int) (l : List Int) (h : Inc l) : Inc (ins n l) := by
  induction l with
  | nil => simp [ins, Inc]
  | cons x r ih =>
    obtain ⟨h1, h2⟩ := List.pairwise_cons.1 h
    simp only [ins]
    split
    · rename_i h3
      refine List.pairwise_cons.2 ⟨fun y hy => ?_, ih h2⟩
      rcases (mem_ins n y r).1 hy with e | e
      · rw [e]; exact h3
      · exact h1 y e
    · split
      · exact h
      · refine List.pairwise_cons.2 ⟨fun y hy => ?_, h⟩
        rcases List.mem_cons.1 hy with e | e
        · rw [e]; omega
        · have := h1 y e; omega

theorem inc_ext {l m : List Int} (hl : Inc l) (hm : Inc m) (h : ∀ v, v ∈ l ↔ v ∈ m) : l = m := by
  induction l generalizing m with
  | nil =>
    cases m with
    | nil => rfl
    | cons y s => exact absurd ((h y).2 (by simp)) (by simp)
  | cons x r ih =>
    cases m with
    | nil => exact absurd ((h x).1 (by simp)) (by simp)
    | cons y s =>
      obtain ⟨h1, h2⟩ := List.pairwise_cons.1 hl
      obtain ⟨h3, h4⟩ := List.pairwise_cons.1 hm
      have hxy : x = y := by
        rcases List.mem_cons.1 ((h x).1 (by simp)) with e | e
        · exact e
        · rcases List.mem_cons.1 ((h y).2 (by simp)) with e' | e'
          · exact e'.symm
          · have := h1 y e'; have := h3 x e; omega
      subst hxy
      rw [ih h2 h4 (fun v => ?_)]
      constructor
      · intro hv
        rcases List.mem_cons.1 ((h v).1 (by simp [hv])) with e | e
        · have := h1 v hv; omega
        · exact e
      · intro hv
        rcases List.mem_cons.1 ((h v).2 (by simp [hv])) with e | e
        · have := h3 v hv; omega
        · exact e

/-- a list with the numbers of the variables in all terms of another list -/
def vars : X → List Int → List Int
  | .nil, l => l
  | .cons k n a r, l => vars r (vars a (if k = 0 then ins n l else l))

/-- the same, of one term -/
def vars1 (k n : Int) (a : X) (l : List Int) : List Int := vars a (if k = 0 then ins n l else l)

theorem vars_drop (t : X) (i : Nat) (h : i < t.len) (l : List Int) : vars (t.drop i) l = vars (t.drop (i + 1)) (vars1 (t.gk i) (t.gn i) (t.ga i) l) := by
  rw [X.drop_cons t i h]; rfl

theorem vars_len (t : X) : ∀ l : List Int, (vars t l).length ≤ l.length + t.sz := by
  induction t with
  | nil => intro l; simp [vars, X.sz]
  | cons k n a r iha ihr =>
    intro l
    simp only [vars, X.sz]
    have h1 := ihr (vars a (if k = 0 then ins n l else l))
    have h2 := iha (if k = 0 then ins n l else l)
    have h3 := ins_len n l
    split at h1 <;> split at h2 <;> (try split) <;> omega

theorem vars1_len (k n : Int) (a : X) (l : List Int) : (vars1 k n a l).length ≤ l.length + a.sz + 1 := by
  have h1 := vars_len a (if k = 0 then ins n l else l)
  have h2 := ins_len n l
  unfold vars1
  split at h1 <;> rename_i h <;> simp only [h, if_true, if_false] at h1 ⊢ <;> omega

theorem vars_inc (t : X) : ∀ l : List Int, Inc l → Inc (vars t l) := by
  induction t with
  | nil => intro l h; exact h
  | cons k n a r iha ihr =>
    intro l h
    refine ihr _ (iha _ ?_)
    split
    · exact ins_inc n l h
    · exact h

/-- the number v is that of a variable in a list of terms -/
def hasV (v : Int) : X → Prop
  | .nil => False
  | .cons k n a r => (k = 0 ∧ n = v) ∨ hasV v a ∨ hasV v r

theorem mem_vars (v : Int) (t : X) : ∀ l : List Int, v ∈ vars t l ↔ v ∈ l ∨ hasV v t := by
  induction t with
  | nil => intro l; simp [vars, hasV]
  | cons k n a r iha ihr =>
    intro l
    simp only [vars, hasV, ihr, iha]
    by_cases hk : k = 0
    · simp only [hk, if_true, mem_ins, true_and]
      constructor
      · rintro (((h | h) | h) | h)
        · exact Or.inr (Or.inl h.symm)
        · exact Or.inl h
        · exact Or.inr (Or.inr (Or.inl h))
        · exact Or.inr (Or.inr (Or.inr h))
      · rintro (h | h | h | h)
        · exact Or.inl (Or.inl (Or.inr h))
        · exact Or.inl (Or.inl (Or.inl h.symm))
        · exact Or.inl (Or.inr h)
        · exact Or.inr h
    · simp only [hk, if_false, false_and, false_or, or_assoc]

theorem mem_vars1 (v k n : Int) (a : X) (l : List Int) : v ∈ vars1 k n a l ↔ v ∈ l ∨ hasV v (.cons k n a .nil) := by
  have := mem_vars v (.cons k n a .nil) l
  exact this

theorem vars1_inc (k n : Int) (a : X) : Inc (vars1 k n a []) := vars_inc (.cons k n a .nil) [] List.Pairwise.nil

theorem kn_all (args t : X) : allB (kn args) t = true ↔ ∀ v, hasV v t → 0 ≤ v ∧ v < args.len := by
  induction t with
  | nil => simp [allB, hasV]
  | cons k n a r iha ihr =>
    simp only [allB, hasV, Bool.and_eq_true, iha, ihr, kn, Bool.or_eq_true, Bool.not_eq_true', decide_eq_false_iff_not, decide_eq_true_eq]
    constructor
    · rintro ⟨⟨h1, h2⟩, h3⟩ v (⟨e1, e2⟩ | h | h)
      · rcases h1 with h1 | h1
        · exact absurd e1 h1
        · rw [← e2]; exact h1
      · exact h2 v h
      · exact h3 v h
    · intro h
      refine ⟨⟨?_, fun v hv => h v (Or.inr (Or.inl hv))⟩, fun v hv => h v (Or.inr (Or.inr hv))⟩
      by_cases hk : k = 0
      · exact Or.inr (h n (Or.inl ⟨hk, rfl⟩))
      · exact Or.inl hk

theorem kn1_all (args : X) (k n : Int) (a : X) : kn1 args k n a = true ↔ ∀ v ∈ vars1 k n a [], 0 ≤ v ∧ v < args.len := by
  have h := kn_all args (.cons k n a .nil)
  have e : kn1 args k n a = allB (kn args) (.cons k n a .nil) := by unfold kn1; simp [allB, kn]
  rw [e, h]
  constructor
  · intro h v hv
    exact h v (((mem_vars1 v k n a []).1 hv).resolve_left (by simp))
  · intro h v hv
    exact h v ((mem_vars1 v k n a []).2 (Or.inr hv))

/-- where insert stands after j numbers -/
theorem ins_take (n : Int) : ∀ (l : List Int) (j : Nat), (∀ i (h : i < l.length), i < j → l[i] < n) → j ≤ l.length → ins n l = l.take j ++ ins n (l.drop j) := by
  intro l
  induction l with
  | nil => intro j _ hj; simp at hj; subst hj; rfl
  | cons x r ih =>
    intro j h hj
    cases j with
    | zero => rfl
    | succ j =>
      have h0 : x < n := h 0 (by simp) (by omega)
      simp only [List.take_succ_cons, List.drop_succ_cons, List.cons_append]
      rw [← ih j (fun i hi hij => by have := h (i + 1) (by simp; omega) (by omega); simpa using this) (by simp at hj; omega)]
      simp only [ins, h0, if_true]

theorem ins_drop_lt (n : Int) (l : List Int) (j : Nat) (h : j < l.length) (hx : l[j] < n) : ins n (l.drop j) = l[j] :: ins n (l.drop (j + 1)) := by
  rw [List.drop_eq_getElem_cons h]
  simp only [ins, hx, if_true]

theorem ins_drop_eq (n : Int) (l : List Int) (j : Nat) (h : j < l.length) (hx : l[j] = n) : ins n (l.drop j) = n :: l.drop (j + 1) := by
  rw [List.drop_eq_getElem_cons h]
  simp only [ins]
  rw [if_neg (by omega), if_pos hx, hx]

theorem ins_drop_gt (n : Int) (l : List Int) (j : Nat) (h : j < l.length) (hx : n < l[j]) : ins n (l.drop j) = n :: l.drop j := by
  conv => lhs; rw [List.drop_eq_getElem_cons h]
  simp only [ins]
  rw [if_neg (by omega), if_neg (by omega), ← List.drop_eq_getElem_cons h]

theorem ins_drop_end (n : Int) (l : List Int) (j : Nat) (h : l.length ≤ j) : ins n (l.drop j) = [n] := by
  rw [List.drop_eq_nil_of_le h]; rfl

end Go.Proofs.YtjkcopgfcafpeaaGreatDoor

