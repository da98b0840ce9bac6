/-
  Parts of one proof, laid into one text: EList, EMake, ECut, EMergeM, EMergeJ. Conditions: each part names its own.
-/
import Derived.Test.YteolfpdkpihnlaaMg10
import Derived.Test.YteolfpdkpihnlaaMg05
import Derived.OwnWalk
import Derived.Deep.AppendLies
import Derived.StillTailTactics

/-
  The walk of list, for whatever of the program's functions makes its trees. Conditions: at most 1000000 trees.
-/
set_option linter.unusedSimpArgs false
set_option linter.unusedVariables false
namespace Go.Proofs.Yteolfpdkpihnlaa
open Go.RowKit

theorem infoY : (Try.prog.info? 25).map (fun i => (i.zero, i.size, i.bytes)) = some (some (.agg #[.int .i64 0, .slice none 0 0]), 2, 32) := by kernel_rfl

/-- what the box that may be turned holds, if there is one -/
def IG (g : Option Nat) (s : Bool) (w : World) : Prop := ∀ b, g = some b → w.heap[b]? = some (.cells #[.bool s] 4 (0, 0))

theorem IG.none (s : Bool) (w : World) : IG none s w := fun _ h => by cases h

theorem IG.lt {g : Option Nat} {s : Bool} {w : World} (h : IG g s w) : ∀ b, g = some b → b < w.heap.size := fun b e => lt_of_block (h b e)

theorem IG.below {g : Option Nat} {s : Bool} {w w' : World} {B : Nat} (h : IG g s w) (hb : Below B w w') (hB : ∀ b, g = some b → b < B) : IG g s w' :=
  fun b e => (hb.block b (hB b e)).trans (h b e)

theorem IG.alloc {g : Option Nat} {s : Bool} {w : World} (h : IG g s w) (o : Obj) : IG g s (w.alloc o) := fun b e => alloc_kept (h b e) o

/-- from w to w' one block alone may have turned, of those that were there -/
theorem gby_refl (w : World) (g : Option Nat) : w.grownBy w g := ⟨rfl, rfl, rfl, Nat.le_refl _, fun _ _ _ => rfl⟩

theorem gby_trans {a w c : World} {g : Option Nat} (h : a.grownBy w g) (k : w.grownBy c g) : a.grownBy c g :=
  ⟨k.os.trans h.os, k.tape.trans h.tape, k.output.trans h.output, Nat.le_trans h.size k.size, fun j hj hne => (k.block j (Nat.lt_of_lt_of_le hj h.size) hne).trans (h.block j hj hne)⟩

theorem gby_below {a w c : World} {g : Option Nat} (h : a.grownBy w g) (k : Below a.heap.size w c) : a.grownBy c g :=
  ⟨k.os.trans h.os, k.tape.trans h.tape, k.output.trans h.output, Nat.le_trans h.size k.size, fun j hj hne => (k.block j hj).trans (h.block j hj hne)⟩

theorem below_gby {w w' : World} {g : Option Nat} (h : Below w.heap.size w w') : w.grownBy w' g := gby_below (gby_refl w g) h

theorem gby_alloc (w : World) (g : Option Nat) (o : Obj) : w.grownBy (w.alloc o) g := below_gby ((Below.refl _ _).alloc (Nat.le_refl _) o)

/-- what is below the turned block's world is kept, but for the box, which holds no slice -/
theorem keeps2_gby {g : Option Nat} {s : Bool} {w w' : World} (hI : IG g s w) (h : w.grownBy w' g) : Keeps2 w w' := by
  rintro i ⟨o, p, n, c, hc⟩ o' v hv
  have hlt := lt_of_cell hc
  have h1 : g ≠ some i := by
    intro e
    exact IBox.cell (hI i e) (by intros; simp) hc
  rw [World.cell?_of_block (w := w) (h.block i hlt (fun e => h1 e.symm))]
  exact hv

/-- trees, from number i on -/
def mkY (tn : Nat → Int) (ta : Nat → Y) : Nat → Nat → Y
  | 0, _ => .nil
  | n + 1, i => .cons (tn i) (ta i) (mkY tn ta n (i + 1))

theorem len_mkY (tn : Nat → Int) (ta : Nat → Y) : ∀ n i, (mkY tn ta n i).len = n := by
  intro n
  induction n with
  | zero => intro i; rfl
  | succ n ih => intro i; simp only [mkY, Y.len, ih]

def okN (ok : Nat → Bool) : Nat → Nat → Bool
  | 0, _ => true
  | n + 1, i => ok i && okN ok n (i + 1)

theorem mkY_drop (t : Y) : ∀ n i, n + i = t.len → mkY t.gn t.ga n i = t.drop i := by
  intro n
  induction n with
  | zero => intro i h; rw [Y.drop_end t i (by omega)]; rfl
  | succ n ih => intro i h; rw [Y.drop_cons t i (by omega)]; simp only [mkY]; rw [ih (i + 1) (by omega)]

theorem mkY_self (t : Y) : mkY t.gn t.ga t.len 0 = t := by rw [mkY_drop t t.len 0 (by omega), Y.drop_zero]

/-- a tree made anew, where a box may be turned -/
def PostE (n : Int) (a : Y) (g : Option Nat) (s : Bool) (W : World) (e : Ending) (w' : World) : Prop :=
  (∃ q c, e = .returned (.agg #[.int .i64 n, .slice q a.len c]) ∧ OwnY w' a q c W.heap.size w'.heap.size) ∧ IG g s w' ∧ W.grownBy w' g

theorem ownsRow2_gby {wr w1 : World} {B : Nat} {g : Option Nat} {ty : TypeId} {v : Value} {n : Nat} {xs : List Value} (h : wr.ownsRow B ty 2 v n xs) (hb : wr.grownBy w1 g) (hg : ∀ b, g = some b → b < B) : w1.ownsRow B ty 2 v n xs := by
  refine h.kept (row := g) hb ?_
  by_cases e : v.ownBlock = g
  · cases hg2 : g with
    | none => left; rw [e, hg2]
    | some b =>
      have h1 := (h.lt b (by rw [e, hg2])).1
      have h2 := hg b hg2
      omega
  · exact Or.inr e

/-- behind a round of list: the call, the new cells, the append -/
theorem GotY.roundG {w wr w1 w3 : World} {ty : TypeId} {y : Y} {v : Value} {q : Option Addr} {c k cap : Nat} {xs : List Value} {n : Int} {a : Y} {oy : Obj} {g : Option Nat} {s : Bool}
    (hw : w.grownBy wr g) (hgl : ∀ b, g = some b → b < w.heap.size)
    (hown0 : wr.ownsRow w.heap.size ty 2 v y.len xs) (hkids : KidsY wr y xs v.ownBlock w.heap.size wr.heap.size)
    (hb1 : wr.grownBy w1 g) (hI : IG g s w1) (hO : OwnY w1 a q c wr.heap.size w1.heap.size)
    (hown : w3.ownsRow w.heap.size ty 2 (.slice (some ⟨k, 0, none⟩) (y.len + 1) cap) (y.len + 1) (xs ++ [.int .i64 n, .slice q a.len c]))
    (hgrow : (w1.alloc oy).grownBy w3 v.ownBlock) (hat : v.ownBlock = some k ∨ k = w1.heap.size + 1) :
    GotY w3 ty (y.snoc n a) (.slice (some ⟨k, 0, none⟩) (y.len + 1) cap) w.heap.size ∧ IG g s w3 ∧ w.grownBy w3 g := by
  have hz1 := hb1.size
  have hz0 := hw.size
  have hlt := hown0.lt
  have hb3 : Below w.heap.size w1 w3 := by
    have h1 : Below w.heap.size w1 (w1.alloc oy) := (Below.refl _ _).alloc (by omega) oy
    exact h1.grown hgrow (by simp only [World.size_alloc]; omega) fun j hj => (hlt j hj).1
  refine ⟨GotY.push (wy := w1.alloc oy) (lo := wr.heap.size) (hi := w1.heap.size) hown0 hkids ?_ (hO.keep fun j _ b => Below.heap_alloc _ _ _ b) (Nat.le_refl _) hz1 (by simp) hown hgrow (by simpa using hat), ?_, ?_⟩
  · intro j hBj hj
    rw [Below.heap_alloc _ _ _ (by omega), hb1.block j hj (fun e => by have := hgl j e.symm; omega)]
  · exact hI.below hb3 hgl
  · exact gby_below (gby_trans hw ⟨hb1.os, hb1.tape, hb1.output, hb1.size, hb1.block⟩) hb3

set_option maxRecDepth 100000 in
set_option maxHeartbeats 1600000 in
theorem list_fresh {c0 : Nat} (w : World) (g : Option Nat) (N : Nat) (tn : Nat → Int) (ta : Nat → Y) (ok : Nat → Bool) (s r : Bool) (tot : Y) (hN : N ≤ 1000000)
    (hI : IG g s w) (htot : mkY tn ta N 0 = tot) (hr : (s && okN ok N 0) = r)
    (hrun : ∀ i s W, i < N → IG g s W → w.grownBy W g → Calls Try.prog 87 #[.int .i64 (i : Nat), .pointer (some ⟨c0, 0, none⟩)] W (PostE (tn i) (ta i) g (s && ok i) W)) :
    Calls Try.prog 85 #[.int .i64 (N : Int), .func (Fn.func 87) #[] #[.pointer (some ⟨c0, 0, none⟩)]] w fun e w' =>
      (∃ q c, e = .returned (.slice q tot.len c) ∧ OwnY w' tot q c w.heap.size w'.heap.size) ∧ IG g r w' ∧ w.grownBy w' g := by
  obtain ⟨i0, hi0, hz0, hz1', hz2⟩ := info_parts infoY
  have hgl := hI.lt
  have HI := Lib.hid hI
  have HT := Lib.hid htot
  have HR := Lib.hid hr
  have HRUN := Lib.hid hrun
  have HGL := Lib.hid hgl
  clear hI htot hr hrun hgl
  by_cases h0 : N = 0
  · subst h0
    go_enter Try.func85, Try.ntmps85
    go_wp2_with fail
    go_ret
    obtain rfl := HT.out
    exact ⟨⟨none, 0, rfl, ownY_nil _ _ _⟩, by have h := HR.out; simp only [okN, Bool.and_true] at h; rw [← h]; exact HI.out, gby_refl _ _⟩
  have hd0 : ((N : Int) == 0) = false := by simp [h0]
  go_enter Try.func85, Try.ntmps85
  go_wp2_with (at_make; refine wpList_make_own _ rfl _ _ 23 rfl w.heap.size 25 i0 (.agg #[.int .i64 0, .slice none 0 0]) 2 Try.underlying23 hi0 hz0 hz1' .i64 .i64 _ N rfl rfl rfl (by rw [hz2]; omega) (by unfold maxLen; omega) (Nat.le_refl _) ?_; intro w0 hown0 hgrow0)
  go_loopw [5, 12] (fun v i wr => ∃ (j : Nat) (y : Y) (q : Option Addr) (c : Nat) (u : Bool), j ≤ N ∧ i = .int .i64 (j : Int) ∧ v = .slice q y.len c ∧ y.app (mkY tn ta (N - j) j) = tot ∧ (u && okN ok (N - j) j) = r ∧ GotY wr 25 y (.slice q y.len c) w.heap.size ∧ IG g u wr ∧ w.grownBy wr g)
    (fun _ i _ => N - (intOf i).toNat)
  case atStart =>
    have hb0 : Below w.heap.size w w0 := ⟨hgrow0.os, hgrow0.tape, hgrow0.output, hgrow0.size, fun j hj => hgrow0.block j hj (fun e => by cases e)⟩
    exact ⟨0, .nil, _, _, s, Nat.zero_le _, rfl, rfl, HT.out, HR.out, GotY.start hown0 hgrow0.size, HI.out.below hb0 HGL.out, below_gby hb0⟩
  case round =>
    clear hown0 hgrow0
    obtain ⟨j, y, q, c, u, hj, rfl, rfl, hy, hu, hgot, hI, hw⟩ := hrel
    have hyl : y.len = j := by
      have h1 := congrArg Y.len hy
      have h2 := congrArg Y.len HT.out
      rw [Y.len_app, len_mkY] at h1
      rw [len_mkY] at h2
      omega
    have HY := Lib.hid hy
    have HU := Lib.hid hu
    have HG := Lib.hid hgot
    have HYL := Lib.hid hyl
    have HIu := Lib.hid hI
    have HW := Lib.hid hw
    clear hgot hy hyl hu hI hw
    by_cases hlt : j < N
    · go_wp2_with fail
      refine (HRUN.out j u _ hlt HIu.out HW.out).mono ?_
      rintro e w1 ⟨⟨q1, c1, rfl, hO⟩, hI1, hb1⟩
      obtain ⟨xs, hown, hkids⟩ := HG.out
      have hz0' := HW.out.size
      have hz1 := hb1.size
      have hownA : ∀ o, (w1.alloc o).ownsRow w.heap.size 25 2 (.slice q y.len c) y.len xs := fun o => (ownsRow2_gby hown hb1 HGL.out).alloc o
      have HB1 := Lib.hid hb1
      have HI1 := Lib.hid hI1
      clear hb1 hI1
      have hmx : y.len + 1 ≤ maxLen := by have := HYL.out; simp only [maxLen]; omega
      have hmx1 : y.len + 1 ≤ 1000000 := by have := HYL.out; omega
      have hm : mkY tn ta (N - j) j = .cons (tn j) (ta j) (mkY tn ta (N - (j + 1)) (j + 1)) := by rw [show N - j = (N - (j + 1)) + 1 by omega]; rfl
      have hm2 : okN ok (N - j) j = (ok j && okN ok (N - (j + 1)) (j + 1)) := by rw [show N - j = (N - (j + 1)) + 1 by omega]; rfl
      have HM := Lib.hid hm
      have HM2 := Lib.hid hm2
      clear hm hm2
      generalize hnj : tn j = nj at *
      generalize haj : ta j = aj at *
      clear hnj haj
      go_wp2_with (at_builtin; refine wpList_append_lies _ rfl _ _ 23 rfl w.heap.size 25 i0 (.agg #[.int .i64 0, .slice none 0 0]) 2 32 Try.underlying23 hi0 hz0 hz1' hz2 rfl (by decide) _ y.len xs rfl (hownA _) ⟨w1.heap.size, 0, none⟩ 1 1 [.int .i64 nj, .slice q1 aj.len c1] rfl rfl (World.news_of_block (heap_new _ _)) (by simp [Value.oneCell']) (by decide) hmx (by omega) (by simp; omega) (w1.heap.size + 1) (by simp) ?_; intro g3 cp w3 hown3 hgrow hat hglt)
      obtain ⟨f1, f2, f3⟩ := GotY.roundG HW.out HGL.out hown hkids HB1.out HI1.out hO hown3 hgrow hat
      clear hown3 hgrow hat hownA
      have hl' : (y.snoc nj aj).len = y.len + 1 := Y.len_snoc _ _ _
      have HL := Lib.hid hl'
      clear hl'
      go_roundw
      case rel => exact ⟨j + 1, _, some ⟨g3, 0, none⟩, cp, u && ok j, by omega, by go_num, by rw [HL.out], by rw [Y.snoc_app, ← HM.out]; exact HY.out, by rw [Bool.and_assoc, ← HM2.out]; exact HU.out, by rw [HL.out]; exact f1, f2, f3⟩
      case measure => simp [intOf]; omega
    · have hy := HY.out
      rw [show N - j = 0 by omega] at hy
      obtain rfl : y = tot := by rw [← hy]; exact (Y.app_nil y).symm
      have hu := HU.out
      rw [show N - j = 0 by omega] at hu
      simp only [okN, Bool.and_true] at hu
      clear hy
      go_wp2_with fail
      go_ret
      obtain ⟨q', c', he, ho⟩ := HG.out.finish
      exact ⟨⟨q', c', by rw [← he]; rfl, ho⟩, by rw [← hu]; exact HIu.out, HW.out⟩

set_option maxRecDepth 100000 in
set_option maxHeartbeats 1600000 in
theorem list_cut {c0 c1 : Nat} (w : World) (g : Option Nat) (N : Nat) (tn : Nat → Int) (ta : Nat → Y) (ok : Nat → Bool) (s r : Bool) (tot : Y) (hN : N ≤ 1000000)
    (hI : IG g s w) (htot : mkY tn ta N 0 = tot) (hr : (s && okN ok N 0) = r)
    (hrun : ∀ i s W, i < N → IG g s W → w.grownBy W g → Calls Try.prog 88 #[.int .i64 (i : Nat), .pointer (some ⟨c0, 0, none⟩), .pointer (some ⟨c1, 0, none⟩)] W (PostE (tn i) (ta i) g (s && ok i) W)) :
    Calls Try.prog 85 #[.int .i64 (N : Int), .func (Fn.func 88) #[] #[.pointer (some ⟨c0, 0, none⟩), .pointer (some ⟨c1, 0, none⟩)]] w fun e w' =>
      (∃ q c, e = .returned (.slice q tot.len c) ∧ OwnY w' tot q c w.heap.size w'.heap.size) ∧ IG g r w' ∧ w.grownBy w' g := by
  obtain ⟨i0, hi0, hz0, hz1', hz2⟩ := info_parts infoY
  have hgl := hI.lt
  have HI := Lib.hid hI
  have HT := Lib.hid htot
  have HR := Lib.hid hr
  have HRUN := Lib.hid hrun
  have HGL := Lib.hid hgl
  clear hI htot hr hrun hgl
  by_cases h0 : N = 0
  · subst h0
    go_enter Try.func85, Try.ntmps85
    go_wp2_with fail
    go_ret
    obtain rfl := HT.out
    exact ⟨⟨none, 0, rfl, ownY_nil _ _ _⟩, by have h := HR.out; simp only [okN, Bool.and_true] at h; rw [← h]; exact HI.out, gby_refl _ _⟩
  have hd0 : ((N : Int) == 0) = false := by simp [h0]
  go_enter Try.func85, Try.ntmps85
  go_wp2_with (at_make; refine wpList_make_own _ rfl _ _ 23 rfl w.heap.size 25 i0 (.agg #[.int .i64 0, .slice none 0 0]) 2 Try.underlying23 hi0 hz0 hz1' .i64 .i64 _ N rfl rfl rfl (by rw [hz2]; omega) (by unfold maxLen; omega) (Nat.le_refl _) ?_; intro w0 hown0 hgrow0)
  go_loopw [5, 12] (fun v i wr => ∃ (j : Nat) (y : Y) (q : Option Addr) (c : Nat) (u : Bool), j ≤ N ∧ i = .int .i64 (j : Int) ∧ v = .slice q y.len c ∧ y.app (mkY tn ta (N - j) j) = tot ∧ (u && okN ok (N - j) j) = r ∧ GotY wr 25 y (.slice q y.len c) w.heap.size ∧ IG g u wr ∧ w.grownBy wr g)
    (fun _ i _ => N - (intOf i).toNat)
  case atStart =>
    have hb0 : Below w.heap.size w w0 := ⟨hgrow0.os, hgrow0.tape, hgrow0.output, hgrow0.size, fun j hj => hgrow0.block j hj (fun e => by cases e)⟩
    exact ⟨0, .nil, _, _, s, Nat.zero_le _, rfl, rfl, HT.out, HR.out, GotY.start hown0 hgrow0.size, HI.out.below hb0 HGL.out, below_gby hb0⟩
  case round =>
    clear hown0 hgrow0
    obtain ⟨j, y, q, c, u, hj, rfl, rfl, hy, hu, hgot, hI, hw⟩ := hrel
    have hyl : y.len = j := by
      have h1 := congrArg Y.len hy
      have h2 := congrArg Y.len HT.out
      rw [Y.len_app, len_mkY] at h1
      rw [len_mkY] at h2
      omega
    have HY := Lib.hid hy
    have HU := Lib.hid hu
    have HG := Lib.hid hgot
    have HYL := Lib.hid hyl
    have HIu := Lib.hid hI
    have HW := Lib.hid hw
    clear hgot hy hyl hu hI hw
    by_cases hlt : j < N
    · go_wp2_with fail
      refine (HRUN.out j u _ hlt HIu.out HW.out).mono ?_
      rintro e w1 ⟨⟨q1, c1, rfl, hO⟩, hI1, hb1⟩
      obtain ⟨xs, hown, hkids⟩ := HG.out
      have hz0' := HW.out.size
      have hz1 := hb1.size
      have hownA : ∀ o, (w1.alloc o).ownsRow w.heap.size 25 2 (.slice q y.len c) y.len xs := fun o => (ownsRow2_gby hown hb1 HGL.out).alloc o
      have HB1 := Lib.hid hb1
      have HI1 := Lib.hid hI1
      clear hb1 hI1
      have hmx : y.len + 1 ≤ maxLen := by have := HYL.out; simp only [maxLen]; omega
      have hmx1 : y.len + 1 ≤ 1000000 := by have := HYL.out; omega
      have hm : mkY tn ta (N - j) j = .cons (tn j) (ta j) (mkY tn ta (N - (j + 1)) (j + 1)) := by rw [show N - j = (N - (j + 1)) + 1 by omega]; rfl
      have hm2 : okN ok (N - j) j = (ok j && okN ok (N - (j + 1)) (j + 1)) := by rw [show N - j = (N - (j + 1)) + 1 by omega]; rfl
      have HM := Lib.hid hm
      have HM2 := Lib.hid hm2
      clear hm hm2
      generalize hnj : tn j = nj at *
      generalize haj : ta j = aj at *
      clear hnj haj
      go_wp2_with (at_builtin; refine wpList_append_lies _ rfl _ _ 23 rfl w.heap.size 25 i0 (.agg #[.int .i64 0, .slice none 0 0]) 2 32 Try.underlying23 hi0 hz0 hz1' hz2 rfl (by decide) _ y.len xs rfl (hownA _) ⟨w1.heap.size, 0, none⟩ 1 1 [.int .i64 nj, .slice q1 aj.len c1] rfl rfl (World.news_of_block (heap_new _ _)) (by simp [Value.oneCell']) (by decide) hmx (by omega) (by simp; omega) (w1.heap.size + 1) (by simp) ?_; intro g3 cp w3 hown3 hgrow hat hglt)
      obtain ⟨f1, f2, f3⟩ := GotY.roundG HW.out HGL.out hown hkids HB1.out HI1.out hO hown3 hgrow hat
      clear hown3 hgrow hat hownA
      have hl' : (y.snoc nj aj).len = y.len + 1 := Y.len_snoc _ _ _
      have HL := Lib.hid hl'
      clear hl'
      go_roundw
      case rel => exact ⟨j + 1, _, some ⟨g3, 0, none⟩, cp, u && ok j, by omega, by go_num, by rw [HL.out], by rw [Y.snoc_app, ← HM.out]; exact HY.out, by rw [Bool.and_assoc, ← HM2.out]; exact HU.out, by rw [HL.out]; exact f1, f2, f3⟩
      case measure => simp [intOf]; omega
    · have hy := HY.out
      rw [show N - j = 0 by omega] at hy
      obtain rfl : y = tot := by rw [← hy]; exact (Y.app_nil y).symm
      have hu := HU.out
      rw [show N - j = 0 by omega] at hu
      simp only [okN, Bool.and_true] at hu
      clear hy
      go_wp2_with fail
      go_ret
      obtain ⟨q', c', he, ho⟩ := HG.out.finish
      exact ⟨⟨q', c', by rw [← he]; rfl, ho⟩, by rw [← hu]; exact HIu.out, HW.out⟩

set_option maxRecDepth 100000 in
set_option maxHeartbeats 1600000 in
theorem list_merge {c0 c1 c2 : Nat} (w : World) (g : Option Nat) (N : Nat) (tn : Nat → Int) (ta : Nat → Y) (ok : Nat → Bool) (s r : Bool) (tot : Y) (hN : N ≤ 1000000)
    (hI : IG g s w) (htot : mkY tn ta N 0 = tot) (hr : (s && okN ok N 0) = r)
    (hrun : ∀ i s W, i < N → IG g s W → w.grownBy W g → Calls Try.prog 84 #[.int .i64 (i : Nat), .pointer (some ⟨c0, 0, none⟩), .pointer (some ⟨c1, 0, none⟩), .pointer (some ⟨c2, 0, none⟩)] W (PostE (tn i) (ta i) g (s && ok i) W)) :
    Calls Try.prog 85 #[.int .i64 (N : Int), .func (Fn.func 84) #[] #[.pointer (some ⟨c0, 0, none⟩), .pointer (some ⟨c1, 0, none⟩), .pointer (some ⟨c2, 0, none⟩)]] w fun e w' =>
      (∃ q c, e = .returned (.slice q tot.len c) ∧ OwnY w' tot q c w.heap.size w'.heap.size) ∧ IG g r w' ∧ w.grownBy w' g := by
  obtain ⟨i0, hi0, hz0, hz1', hz2⟩ := info_parts infoY
  have hgl := hI.lt
  have HI := Lib.hid hI
  have HT := Lib.hid htot
  have HR := Lib.hid hr
  have HRUN := Lib.hid hrun
  have HGL := Lib.hid hgl
  clear hI htot hr hrun hgl
  by_cases h0 : N = 0
  · subst h0
    go_enter Try.func85, Try.ntmps85
    go_wp2_with fail
    go_ret
    obtain rfl := HT.out
    exact ⟨⟨none, 0, rfl, ownY_nil _ _ _⟩, by have h := HR.out; simp only [okN, Bool.and_true] at h; rw [← h]; exact HI.out, gby_refl _ _⟩
  have hd0 : ((N : Int) == 0) = false := by simp [h0]
  go_enter Try.func85, Try.ntmps85
  go_wp2_with (at_make; refine wpList_make_own _ rfl _ _ 23 rfl w.heap.size 25 i0 (.agg #[.int .i64 0, .slice none 0 0]) 2 Try.underlying23 hi0 hz0 hz1' .i64 .i64 _ N rfl rfl rfl (by rw [hz2]; omega) (by unfold maxLen; omega) (Nat.le_refl _) ?_; intro w0 hown0 hgrow0)
  go_loopw [5, 12] (fun v i wr => ∃ (j : Nat) (y : Y) (q : Option Addr) (c : Nat) (u : Bool), j ≤ N ∧ i = .int .i64 (j : Int) ∧ v = .slice q y.len c ∧ y.app (mkY tn ta (N - j) j) = tot ∧ (u && okN ok (N - j) j) = r ∧ GotY wr 25 y (.slice q y.len c) w.heap.size ∧ IG g u wr ∧ w.grownBy wr g)
    (fun _ i _ => N - (intOf i).toNat)
  case atStart =>
    have hb0 : Below w.heap.size w w0 := ⟨hgrow0.os, hgrow0.tape, hgrow0.output, hgrow0.size, fun j hj => hgrow0.block j hj (fun e => by cases e)⟩
    exact ⟨0, .nil, _, _, s, Nat.zero_le _, rfl, rfl, HT.out, HR.out, GotY.start hown0 hgrow0.size, HI.out.below hb0 HGL.out, below_gby hb0⟩
  case round =>
    clear hown0 hgrow0
    obtain ⟨j, y, q, c, u, hj, rfl, rfl, hy, hu, hgot, hI, hw⟩ := hrel
    have hyl : y.len = j := by
      have h1 := congrArg Y.len hy
      have h2 := congrArg Y.len HT.out
      rw [Y.len_app, len_mkY] at h1
      rw [len_mkY] at h2
      omega
    have HY := Lib.hid hy
    have HU := Lib.hid hu
    have HG := Lib.hid hgot
    have HYL := Lib.hid hyl
    have HIu := Lib.hid hI
    have HW := Lib.hid hw
    clear hgot hy hyl hu hI hw
    by_cases hlt : j < N
    · go_wp2_with fail
      refine (HRUN.out j u _ hlt HIu.out HW.out).mono ?_
      rintro e w1 ⟨⟨q1, c1, rfl, hO⟩, hI1, hb1⟩
      obtain ⟨xs, hown, hkids⟩ := HG.out
      have hz0' := HW.out.size
      have hz1 := hb1.size
      have hownA : ∀ o, (w1.alloc o).ownsRow w.heap.size 25 2 (.slice q y.len c) y.len xs := fun o => (ownsRow2_gby hown hb1 HGL.out).alloc o
      have HB1 := Lib.hid hb1
      have HI1 := Lib.hid hI1
      clear hb1 hI1
      have hmx : y.len + 1 ≤ maxLen := by have := HYL.out; simp only [maxLen]; omega
      have hmx1 : y.len + 1 ≤ 1000000 := by have := HYL.out; omega
      have hm : mkY tn ta (N - j) j = .cons (tn j) (ta j) (mkY tn ta (N - (j + 1)) (j + 1)) := by rw [show N - j = (N - (j + 1)) + 1 by omega]; rfl
      have hm2 : okN ok (N - j) j = (ok j && okN ok (N - (j + 1)) (j + 1)) := by rw [show N - j = (N - (j + 1)) + 1 by omega]; rfl
      have HM := Lib.hid hm
      have HM2 := Lib.hid hm2
      clear hm hm2
      generalize hnj : tn j = nj at *
      generalize haj : ta j = aj at *
      clear hnj haj
      go_wp2_with (at_builtin; refine wpList_append_lies _ rfl _ _ 23 rfl w.heap.size 25 i0 (.agg #[.int .i64 0, .slice none 0 0]) 2 32 Try.underlying23 hi0 hz0 hz1' hz2 rfl (by decide) _ y.len xs rfl (hownA _) ⟨w1.heap.size, 0, none⟩ 1 1 [.int .i64 nj, .slice q1 aj.len c1] rfl rfl (World.news_of_block (heap_new _ _)) (by simp [Value.oneCell']) (by decide) hmx (by omega) (by simp; omega) (w1.heap.size + 1) (by simp) ?_; intro g3 cp w3 hown3 hgrow hat hglt)
      obtain ⟨f1, f2, f3⟩ := GotY.roundG HW.out HGL.out hown hkids HB1.out HI1.out hO hown3 hgrow hat
      clear hown3 hgrow hat hownA
      have hl' : (y.snoc nj aj).len = y.len + 1 := Y.len_snoc _ _ _
      have HL := Lib.hid hl'
      clear hl'
      go_roundw
      case rel => exact ⟨j + 1, _, some ⟨g3, 0, none⟩, cp, u && ok j, by omega, by go_num, by rw [HL.out], by rw [Y.snoc_app, ← HM.out]; exact HY.out, by rw [Bool.and_assoc, ← HM2.out]; exact HU.out, by rw [HL.out]; exact f1, f2, f3⟩
      case measure => simp [intOf]; omega
    · have hy := HY.out
      rw [show N - j = 0 by omega] at hy
      obtain rfl : y = tot := by rw [← hy]; exact (Y.app_nil y).symm
      have hu := HU.out
      rw [show N - j = 0 by omega] at hu
      simp only [okN, Bool.and_true] at hu
      clear hy
      go_wp2_with fail
      go_ret
      obtain ⟨q', c', he, ho⟩ := HG.out.finish
      exact ⟨⟨q', c', by rw [← he]; rfl, ho⟩, by rw [← hu]; exact HIu.out, HW.out⟩

end Go.Proofs.Yteolfpdkpihnlaa

/-
  The walks of fresh and cut, which make trees anew. Conditions: at most 100000 nodes.
-/
set_option linter.unusedSimpArgs false
set_option linter.unusedVariables false
namespace Go.Proofs.Yteolfpdkpihnlaa
open Go.RowKit

/-- a tree made anew -/
def MadeY (n : Int) (a : Y) (W : World) (e : Ending) (w' : World) : Prop := ∃ q c, e = .returned (.agg #[.int .i64 n, .slice q a.len c]) ∧ OwnY w' a q c W.heap.size w'.heap.size ∧ Below W.heap.size W w'

theorem made_post {n : Int} {a : Y} {g : Option Nat} {s : Bool} {W w' : World} {e : Ending} (h : MadeY n a W e w') (hI : IG g s W) : PostE n a g s W e w' := by
  obtain ⟨q, c, h1, h2, h3⟩ := h
  exact ⟨⟨q, c, h1, h2⟩, hI.below h3 hI.lt, below_gby h3⟩

theorem gby_none {W w' : World} (h : W.grownBy w' none) : Below W.heap.size W w' := ⟨h.os, h.tape, h.output, h.size, fun j hj => h.block j hj (fun e => by cases e)⟩

theorem post_made {n : Int} {a : Y} {s : Bool} {W w' : World} {e : Ending} (h : PostE n a none s W e w') : MadeY n a W e w' := by
  obtain ⟨⟨q, c, h1, h2⟩, _, h3⟩ := h
  exact ⟨q, c, h1, h2, gby_none h3⟩

theorem OwnY.set2 {w : World} {t : Y} {p : Option Addr} {c lo hi r : Nat} (h : OwnY w t p c lo hi) (hr : r < lo) (u v : Value) : OwnY ((w.setCell ⟨r, 0, none⟩ u).setCell ⟨r, 1, none⟩ v) t p c lo hi :=
  (h.set (a := ⟨r, 0, none⟩) hr u).set (a := ⟨r, 1, none⟩) hr v

theorem size_set2 (w : World) (a b : Addr) (u v : Value) : ((w.setCell a u).setCell b v).heap.size = w.heap.size := by simp [World.setCell]

/-- the result's box is filled -/
theorem postE_store {w wB w1 : World} {g : Option Nat} {s : Bool} {r : Nat} {n : Int} {a : Y} {q : Option Addr} {c : Nat} (u v : Value) (hB : Below w.heap.size w wB) (hwr : w.heap.size ≤ r) (hr : r < wB.heap.size)
    (hgl : ∀ b, g = some b → b < w.heap.size) (hO : OwnY w1 a q c wB.heap.size w1.heap.size) (hI : IG g s w1) (hg : wB.grownBy w1 g) :
    PostE n a g s w (.returned (.agg #[.int .i64 n, .slice q a.len c])) ((w1.setCell ⟨r, 0, none⟩ u).setCell ⟨r, 1, none⟩ v) := by
  have hz := hB.size
  have hz1 := hg.size
  refine ⟨⟨q, c, rfl, ?_⟩, ?_, ?_⟩
  · rw [size_set2]
    exact (hO.set2 hr u v).mono hz (Nat.le_refl _)
  · intro b e
    have := hgl b e
    rw [Below.heap_setCell _ _ _ _ (by simp only; omega), Below.heap_setCell _ _ _ _ (by simp only; omega)]
    exact hI b e
  · have h1 : w.grownBy w1 g := ⟨hg.os.trans hB.os, hg.tape.trans hB.tape, hg.output.trans hB.output, by omega, fun j hj hne => (hg.block j (by omega) hne).trans (hB.block j hj)⟩
    have hb1 : Below w.heap.size w1 ((w1.setCell ⟨r, 0, none⟩ u).setCell ⟨r, 1, none⟩ v) := ((Below.refl w.heap.size w1).setCell hwr u).setCell hwr v
    exact gby_below h1 hb1

theorem isY_gby {wB W : World} {g : Option Nat} {s : Bool} {a : Y} {p : Option Addr} {l cap : Nat} (h : IsY wB a p l cap) (hI : IG g s wB) (hg : wB.grownBy W g) : IsY W a p l cap := h.keeps (keeps2_gby hI hg)

/-- each tree of a list, changed -/
def mapY (F : Int → Y → Int) (G : Int → Y → Y) : Y → Y
  | .nil => .nil
  | .cons n a r => .cons (F n a) (G n a) (mapY F G r)

theorem mkY_map (F : Int → Y → Int) (G : Int → Y → Y) (t : Y) : ∀ n i, n + i = t.len → mkY (fun i => F (t.gn i) (t.ga i)) (fun i => G (t.gn i) (t.ga i)) n i = mapY F G (t.drop i) := by
  intro n
  induction n with
  | zero => intro i h; rw [Y.drop_end t i (by omega)]; rfl
  | succ n ih => intro i h; rw [Y.drop_cons t i (by omega)]; simp only [mkY, mapY]; rw [ih (i + 1) (by omega)]

theorem okN_true : ∀ n i, okN (fun _ => true) n i = true := by
  intro n
  induction n with
  | zero => intro i; rfl
  | succ n ih => intro i; simp [okN, ih]

set_option maxRecDepth 100000 in
set_option maxHeartbeats 800000 in
/-- the function that fresh hands to list -/
theorem fresh1_of (a : Y) (n : Int) (i : Nat) (W : World) (bx : Nat) (p : Option Addr) (l cap : Nat) (hi : i < a.len) (hbx : W.heap[bx]? = some (.cells #[.int .i64 n, .slice p l cap] 25 (0, 0))) (his : IsY W a p l cap)
    (ih : ∀ (W : World) p l cap, IsY W (a.ga i) p l cap → Calls Try.prog 63 #[.agg #[.int .i64 (a.gn i), .slice p l cap]] W (MadeY (a.gn i) (a.ga i) W)) :
    Calls Try.prog 87 #[.int .i64 (i : Nat), .pointer (some ⟨bx, 0, none⟩)] W (MadeY (a.gn i) (a.ga i) W) := by
  obtain ⟨hl, hcap, hmax, hnil, hrow⟩ := his
  subst hl
  unfold maxLen at hmax
  rcases hrow with h0 | ⟨b, off, rfl, hr⟩
  · omega
  obtain ⟨hcn, p', n', cap', hc, hi'⟩ := base2_at (Keeps2.alloc W (.cells #[.int .i64 0, .slice none 0 0] 25)) hr hi
  obtain ⟨x1, x2⟩ := box2_cells (alloc_kept hbx (.cells #[.int .i64 0, .slice none 0 0] 25))
  have hlt := lt_of_block hbx
  have IH := Lib.hid ih
  clear ih hbx hr
  go_enter Try.func87, Try.ntmps87
  go_wp2_with fail
  refine (IH.out _ p' n' cap' hi').mono ?_
  rintro e w1 ⟨q1, c1, rfl, hO, hb1⟩
  have r0 := heap_new W (.cells #[.int .i64 0, .slice none 0 0] 25)
  obtain ⟨r1, r2⟩ := box2_cells (box2_later hb1 r0)
  have f1 : w1.frozen? ⟨W.heap.size, 0, none⟩ = false := by rw [(bcell hb1).2 _ _ (by simp)]; simp
  have f2 : w1.frozen? ⟨W.heap.size, 1, none⟩ = false := by rw [(bcell hb1).2 _ _ (by simp)]; simp
  have hz := hb1.size
  simp only [World.size_alloc] at hz
  clear r0
  go_wp2_with fail
  refine bodyPost_ret (v := .agg #[.int .i64 (a.gn i), .slice q1 (a.ga i).len c1]) (by simp [results, Try.results87, go_sem, r1, r2]) rfl ?_
  exact post_made (s := true) (postE_store _ _ ((Below.refl _ _).alloc (Nat.le_refl _) _) (Nat.le_refl _) (by simp) (fun _ h => by cases h) hO (IG.none _ _) (below_gby hb1))

set_option maxRecDepth 100000 in
set_option maxHeartbeats 1600000 in
theorem efresh_any (N : Nat) : ∀ (a : Y) (n : Int) (w : World) (p : Option Addr) (l cap : Nat), a.sz < N → a.sz < 100000 → IsY w a p l cap →
    Calls Try.prog 63 #[.agg #[.int .i64 n, .slice p l cap]] w (MadeY n a w) := by
  induction N with
  | zero => intro a n w p l cap hN; omega
  | succ N ih =>
    intro a n w p l cap hN h60 his
    have hlen := a.len_le_sz
    have hl := his.1
    subst hl
    have hsz : (((w.alloc (.cells #[.int .i64 n, .slice p a.len cap] 25)).alloc (.cells #[.int .i64 0, .slice none 0 0] 25)).drew).heap.size = w.heap.size + 2 := by simp
    have J := list_fresh (c0 := w.heap.size) (((w.alloc (.cells #[.int .i64 n, .slice p a.len cap] 25)).alloc (.cells #[.int .i64 0, .slice none 0 0] 25)).drew) none a.len a.gn a.ga (fun _ => true) true true a (by omega) (IG.none _ _) (mkY_self a) (by rw [okN_true]; rfl)
      (fun i s W hi _ hg => (fresh1_of a n i W w.heap.size p a.len cap hi (((gby_none hg).block _ (by rw [hsz]; omega)).trans (alloc_kept (heap_new _ _) _)) (isY_gby (s := true) ((his.alloc _).alloc _).drew (IG.none _ _) hg)
        (fun W p l cap h => ih (a.ga i) _ W p l cap (by have := a.sz_ga i hi; omega) (by have := a.sz_ga i hi; omega) h)).mono fun e w' h => made_post h (IG.none _ _))
    have HJ := Lib.hid J
    clear J ih hsz
    go_enter Try.func63, Try.ntmps63
    go_wp2_with fail
    go_region_with ((go_at_call 85; refine (HJ.out).mono ?_; rintro e w1 ⟨⟨r, c, rfl, hO⟩, _, hg1⟩; have q0 := gby_none hg1; have q := box2_cells (box2_later q0 (alloc_kept (heap_new w (.cells #[.int .i64 n, .slice p a.len cap] 25)) (.cells #[.int .i64 0, .slice none 0 0] 25))); obtain ⟨q1, q2⟩ := q; have z := box2_cells (box2_later q0 (heap_new2 w (.cells #[.int .i64 n, .slice p a.len cap] 25) (.cells #[.int .i64 0, .slice none 0 0] 25))); obtain ⟨z1, z2⟩ := z; have f1 : w1.frozen? ⟨w.heap.size + 1, 0, none⟩ = false := (((bcell q0).2 _ _ (by simp)).trans (by simp)); have f2 : w1.frozen? ⟨w.heap.size + 1, 1, none⟩ = false := (((bcell q0).2 _ _ (by simp)).trans (by simp)); have hz := q0.size; have hz2 : w.heap.size + 2 ≤ w1.heap.size := (by simpa using hz)))
    all_goals go_wp2_with fail
    all_goals
      refine bodyPost_ret (v := .agg #[.int .i64 n, .slice r a.len c]) (by simp [results, Try.results63, go_sem, z1, z2]) rfl ?_
      exact post_made (s := true) (postE_store _ _ ((((Below.refl w.heap.size w).alloc (Nat.le_refl _) _).alloc (by simp) _).drew) (by omega) (by simp) (fun _ h => by cases h) hO (IG.none _ _) hg1)

end Go.Proofs.Yteolfpdkpihnlaa

/-
  The walk of cut, which makes trees anew. Conditions: at most 100000 nodes.
-/
set_option linter.unusedSimpArgs false
set_option linter.unusedVariables false
namespace Go.Proofs.Yteolfpdkpihnlaa
open Go.RowKit

theorem free2 {W : World} {b : Nat} {x y : Value} {ty : TypeId} (h : W.heap[b]? = some (.cells #[x, y] ty (0, 0))) : W.frozen? ⟨b, 0, none⟩ = false ∧ W.frozen? ⟨b, 1, none⟩ = false := by
  refine ⟨?_, ?_⟩ <;> simp [World.frozen?, h]

/-- the first levels of each tree of a list -/
def topY : Nat → Y → Y
  | _, .nil => .nil
  | d, .cons n a r => .cons (if d = 0 then -1 else n) (if d = 0 then .nil else topY (d - 1) a) (topY d r)

def cut1n (d : Nat) (n : Int) : Int := if d = 0 then -1 else n
def cut1a (d : Nat) (a : Y) : Y := if d = 0 then .nil else topY (d - 1) a

theorem topY_map (d : Nat) (t : Y) : mapY (fun n _ => cut1n d n) (fun _ a => cut1a d a) t = topY d t := by
  induction t with
  | nil => rfl
  | cons n a r _ ih => simp only [mapY, topY, ih]; rfl

theorem mk_cut (d : Nat) (t : Y) : mkY (fun i => cut1n d (t.gn i)) (fun i => cut1a d (t.ga i)) t.len 0 = topY d t := by
  have h := mkY_map (fun n _ => cut1n d n) (fun _ a => cut1a d a) t t.len 0 (by omega)
  rw [Y.drop_zero, topY_map] at h
  exact h

set_option maxRecDepth 100000 in
set_option maxHeartbeats 1600000 in
/-- the function that cut hands to list -/
theorem cut1_of (a : Y) (n : Int) (d i : Nat) (W : World) (bx bd : Nat) (p : Option Addr) (l cap : Nat) (hd0 : 0 < d) (hd : d ≤ 9223372036854775807) (hi : i < a.len)
    (hbx : W.heap[bx]? = some (.cells #[.int .i64 n, .slice p l cap] 25 (0, 0))) (hbd : W.heap[bd]? = some (.cells #[.int .i64 (d : Int)] 3 (0, 0))) (his : IsY W a p l cap)
    (ih : ∀ (W : World) p l cap, IsY W (a.ga i) p l cap → Calls Try.prog 65 #[.agg #[.int .i64 (a.gn i), .slice p l cap], .int .i64 ((d : Int) - 1)] W (MadeY (cut1n (d - 1) (a.gn i)) (cut1a (d - 1) (a.ga i)) W)) :
    Calls Try.prog 88 #[.int .i64 (i : Nat), .pointer (some ⟨bx, 0, none⟩), .pointer (some ⟨bd, 0, none⟩)] W (MadeY (cut1n (d - 1) (a.gn i)) (cut1a (d - 1) (a.ga i)) W) := by
  obtain ⟨hl, hcap, hmax, hnil, hrow⟩ := his
  subst hl
  unfold maxLen at hmax
  rcases hrow with h0 | ⟨b, off, rfl, hr⟩
  · omega
  obtain ⟨hcn, p', n', cap', hc, hi'⟩ := base2_at (Keeps2.alloc W (.cells #[.int .i64 0, .slice none 0 0] 25)) hr hi
  obtain ⟨x1, x2⟩ := box2_cells (alloc_kept hbx (.cells #[.int .i64 0, .slice none 0 0] 25))
  have x3 := cell_of_one (alloc_kept hbd (.cells #[.int .i64 0, .slice none 0 0] 25))
  have hlt := lt_of_block hbx
  have hlt2 := lt_of_block hbd
  have hii : (i : Int) < (a.len : Int) := by omega
  have hi0 : (0 : Int) ≤ (i : Int) := by omega
  have IH := Lib.hid ih
  clear ih hbx hbd hr
  generalize hN : cut1n (d - 1) (a.gn i) = nn at *
  generalize hA : cut1a (d - 1) (a.ga i) = aa at *
  clear hN hA
  go_enter Try.func88, Try.ntmps88
  go_wp2_with fail
  have r0 := heap_new W (.cells #[.int .i64 0, .slice none 0 0] 25)
  have hB0 : Below W.heap.size W (W.alloc (.cells #[.int .i64 0, .slice none 0 0] 25)) := (Below.refl _ _).alloc (Nat.le_refl _) _
  have hs0 : (W.alloc (.cells #[.int .i64 0, .slice none 0 0] 25)).heap.size = W.heap.size + 1 := by simp
  have fr1 : (W.alloc (.cells #[.int .i64 0, .slice none 0 0] 25)).frozen? ⟨W.heap.size, 0, none⟩ = false := by simp
  have fr2 : (W.alloc (.cells #[.int .i64 0, .slice none 0 0] 25)).frozen? ⟨W.heap.size, 1, none⟩ = false := by simp
  generalize W.alloc (.cells #[.int .i64 0, .slice none 0 0] 25) = W2 at hcn hc hi' x1 x2 x3 r0 hB0 hs0 fr1 fr2 ⊢
  go_still_tail 7, (by kernel_rfl)
  change wpList _ _ _ _ _ W2.drew
  go_wp2_with fail
  refine (IH.out _ p' n' cap' hi'.drew).mono ?_
  rintro e w1 ⟨q1, c1, rfl, hO, hb1⟩
  have hb2 : Below W2.heap.size W2 w1 := ⟨hb1.os, hb1.tape, hb1.output, hb1.size, hb1.block⟩
  have z0 := box2_later hb2 r0
  obtain ⟨z1, z2⟩ := box2_cells z0
  obtain ⟨f1, f2⟩ := free2 z0
  have hz : W2.heap.size ≤ w1.heap.size := hb1.size
  clear z0
  have hz2 : W.heap.size + 1 ≤ w1.heap.size := by omega
  go_wp2_with fail
  refine bodyPost_ret (v := .agg #[.int .i64 nn, .slice q1 aa.len c1]) (by simp [results, Try.results88, go_sem, z1, z2]) rfl ?_
  exact post_made (s := true) (postE_store (wB := W2.drew) _ _ hB0.drew (Nat.le_refl _) (by show W.heap.size < W2.heap.size; omega) (fun _ h => by cases h) hO (IG.none _ _) (below_gby hb1))

set_option maxRecDepth 100000 in
set_option maxHeartbeats 1600000 in
theorem ecut_any (N : Nat) : ∀ (a : Y) (n : Int) (d : Nat) (di : Int) (w : World) (p : Option Addr) (l cap : Nat), di = (d : Int) → d ≤ 9223372036854775807 → a.sz < N → a.sz < 100000 → IsY w a p l cap →
    Calls Try.prog 65 #[.agg #[.int .i64 n, .slice p l cap], .int .i64 di] w (MadeY (cut1n d n) (cut1a d a) w) := by
  induction N with
  | zero => intro a n d di w p l cap _ _ hN; omega
  | succ N ih =>
    rintro a n d _ w p l cap rfl hd hN h60 his
    have hlen := a.len_le_sz
    have hl := his.1
    subst hl
    by_cases h0 : d = 0
    · subst h0
      have e1 : cut1n 0 n = -1 := rfl
      have e2 : cut1a 0 a = .nil := rfl
      rw [e1, e2]
      go_enter Try.func65, Try.ntmps65
      go_wp2_with fail
      refine bodyPost_ret (v := .agg #[.int .i64 (-1), .slice none 0 0]) (by simp [results, Try.results65, go_sem]) rfl ?_
      refine ⟨none, 0, rfl, ownY_nil _ _ _, ?_⟩
      exact below3 w _ _ _
    have hdb : ((d : Int) == 0) = false := by simp [h0]
    have e1 : cut1n d n = n := if_neg h0
    have e2 : cut1a d a = topY (d - 1) a := if_neg h0
    rw [e1, e2]
    clear e1 e2
    have hsz : ((((w.alloc (.cells #[.int .i64 n, .slice p a.len cap] 25)).alloc (.cells #[.int .i64 (d : Int)] 3)).alloc (.cells #[.int .i64 0, .slice none 0 0] 25)).drew).heap.size = w.heap.size + 3 := by simp
    have htl : (topY (d - 1) a).len = a.len := by rw [← mk_cut, len_mkY]
    have J := list_cut (c0 := w.heap.size) (c1 := w.heap.size + 1) ((((w.alloc (.cells #[.int .i64 n, .slice p a.len cap] 25)).alloc (.cells #[.int .i64 (d : Int)] 3)).alloc (.cells #[.int .i64 0, .slice none 0 0] 25)).drew) none a.len (fun i => cut1n (d - 1) (a.gn i)) (fun i => cut1a (d - 1) (a.ga i)) (fun _ => true) true true (topY (d - 1) a) (by omega) (IG.none _ _) (mk_cut _ _) (by rw [okN_true]; rfl)
      (fun i s W hi _ hg => (cut1_of a n d i W w.heap.size (w.heap.size + 1) p a.len cap (by omega) hd hi (((gby_none hg).block _ (by rw [hsz]; omega)).trans (alloc_kept (alloc_kept (heap_new _ _) _) _)) (((gby_none hg).block _ (by rw [hsz]; omega)).trans (alloc_kept (heap_new2 _ _ _) _)) (isY_gby (s := true) (((his.alloc _).alloc _).alloc _).drew (IG.none _ _) hg)
        (fun W p l cap h => ih (a.ga i) _ (d - 1) _ W p l cap (by omega) (by omega) (by have := a.sz_ga i hi; omega) (by have := a.sz_ga i hi; omega) h)).mono fun e w' h => made_post h (IG.none _ _))
    have HJ := Lib.hid J
    clear J ih hsz
    generalize topY (d - 1) a = tt at *
    clear h0 htl
    go_enter Try.func65, Try.ntmps65
    go_wp2_with fail
    go_region_with ((go_at_call 85; refine (HJ.out).mono ?_; rintro e w1 ⟨⟨r, c, rfl, hO⟩, _, hg1⟩; have q0 := gby_none hg1; have q := box2_cells (box2_later q0 (alloc_kept (alloc_kept (heap_new w (.cells #[.int .i64 n, .slice p a.len cap] 25)) (.cells #[.int .i64 (d : Int)] 3)) (.cells #[.int .i64 0, .slice none 0 0] 25))); obtain ⟨q1, q2⟩ := q; have z0 := box2_later q0 (heap_new3 w (.cells #[.int .i64 n, .slice p a.len cap] 25) (.cells #[.int .i64 (d : Int)] 3) (.cells #[.int .i64 0, .slice none 0 0] 25)); have z := box2_cells z0; obtain ⟨z1, z2⟩ := z; have f := free2 z0; obtain ⟨f1, f2⟩ := f; clear z0; have hz := q0.size; have hz2 : w.heap.size + 3 ≤ w1.heap.size := (by simpa using hz)))
    all_goals go_wp2_with fail
    all_goals
      refine bodyPost_ret (v := .agg #[.int .i64 n, .slice r tt.len c]) (by simp [results, Try.results65, go_sem, z1, z2]) rfl ?_
      exact post_made (s := true) (postE_store _ _ ((below3 w _ _ _).drew) (by omega) (by simp <;> omega) (fun _ h => by cases h) hO (IG.none _ _) hg1)

end Go.Proofs.Yteolfpdkpihnlaa

/-
  The walk of merge, with the functions that Meet and Join hand to it. Conditions: at most 100000 nodes; the trees are over the same symbols.
-/
set_option linter.unusedSimpArgs false
set_option linter.unusedVariables false
namespace Go.Proofs.Yteolfpdkpihnlaa
open Go.RowKit

/-- what two lists of trees have in common, where D says what stands where trees differ -/
def mgY (D : Int → Y → Int → Y → Int × Y) : Y → Y → Y
  | .cons n a r, .cons n' a' r' => if n = n' then .cons n (mgY D a a') (mgY D r r') else .cons (D n a n' a').1 (D n a n' a').2 (mgY D r r')
  | _, _ => .nil

/-- may all that differs do so? -/
def mgOk (d : Int → Int → Bool) : Y → Y → Bool
  | .cons n a r, .cons n' a' r' => if n = n' then mgOk d a a' && mgOk d r r' else d n n' && mgOk d r r'
  | _, _ => true

def mg1 (D : Int → Y → Int → Y → Int × Y) (n : Int) (a : Y) (n' : Int) (a' : Y) : Int × Y := if n = n' then (n, mgY D a a') else D n a n' a'
def mgOk1 (d : Int → Int → Bool) (n : Int) (a : Y) (n' : Int) (a' : Y) : Bool := if n = n' then mgOk d a a' else d n n'

theorem mgY_cons (D : Int → Y → Int → Y → Int × Y) (n : Int) (a r : Y) (n' : Int) (a' r' : Y) : mgY D (.cons n a r) (.cons n' a' r') = .cons (mg1 D n a n' a').1 (mg1 D n a n' a').2 (mgY D r r') := by
  simp only [mgY, mg1]
  split <;> rfl

theorem mgOk_cons (d : Int → Int → Bool) (n : Int) (a r : Y) (n' : Int) (a' r' : Y) : mgOk d (.cons n a r) (.cons n' a' r') = (mgOk1 d n a n' a' && mgOk d r r') := by
  simp only [mgOk, mgOk1]
  split <;> rfl

theorem mkY_mg (D : Int → Y → Int → Y → Int × Y) (a b : Y) (hl : a.len = b.len) : ∀ n i, n + i = a.len →
    mkY (fun i => (mg1 D (a.gn i) (a.ga i) (b.gn i) (b.ga i)).1) (fun i => (mg1 D (a.gn i) (a.ga i) (b.gn i) (b.ga i)).2) n i = mgY D (a.drop i) (b.drop i) := by
  intro n
  induction n with
  | zero => intro i h; rw [Y.drop_end a i (by omega), Y.drop_end b i (by omega)]; rfl
  | succ n ih =>
    intro i h
    rw [Y.drop_cons a i (by omega), Y.drop_cons b i (by omega), mgY_cons]
    simp only [mkY]
    rw [ih (i + 1) (by omega)]

theorem okN_mg (d : Int → Int → Bool) (a b : Y) (hl : a.len = b.len) : ∀ n i, n + i = a.len → okN (fun i => mgOk1 d (a.gn i) (a.ga i) (b.gn i) (b.ga i)) n i = mgOk d (a.drop i) (b.drop i) := by
  intro n
  induction n with
  | zero => intro i h; rw [Y.drop_end a i (by omega), Y.drop_end b i (by omega)]; rfl
  | succ n ih =>
    intro i h
    rw [Y.drop_cons a i (by omega), Y.drop_cons b i (by omega), mgOk_cons]
    simp only [okN]
    rw [ih (i + 1) (by omega)]

theorem mgY_len (D : Int → Y → Int → Y → Int × Y) (a b : Y) (hl : a.len = b.len) : (mgY D a b).len = a.len := by
  have h := mkY_mg D a b hl a.len 0 (by omega)
  rw [Y.drop_zero, Y.drop_zero] at h
  rw [← h, len_mkY]

theorem below4 (w : World) (x y z u : Obj) : Below w.heap.size w ((((w.alloc x).alloc y).alloc z).alloc u) := (below3 w x y z).alloc (by simp <;> omega) _

theorem heap_new4 (w : World) (x y z u : Obj) : ((((w.alloc x).alloc y).alloc z).alloc u).heap[w.heap.size + 3]? = some u := by
  have h := heap_new (((w.alloc x).alloc y).alloc z) u
  simpa using h

set_option maxRecDepth 100000 in
set_option maxHeartbeats 1600000 in
/-- the function that merge hands to list -/
theorem merge1_meet  (D : Int → Y → Int → Y → Int × Y) (d : Int → Int → Bool) (g : Option Nat) (s : Bool) (a b : Y) (n n' : Int) (i : Nat) (W : World) (ba bb bf : Nat) (p p' : Option Addr) (l cap l' cap' : Nat) (hi : i < a.len) (hib : i < b.len)
    (hba : W.heap[ba]? = some (.cells #[.int .i64 n, .slice p l cap] 25 (0, 0))) (hbb : W.heap[bb]? = some (.cells #[.int .i64 n', .slice p' l' cap'] 25 (0, 0)))
    (hbf : W.heap[bf]? = some (.cells #[.func (Fn.func 59) #[] #[]] 66 (0, 0))) (his : IsY W a p l cap) (hit : IsY W b p' l' cap') (hI : IG g s W)
    (ih : ∀ (W : World) p l cap p' l' cap', IG g s W → IsY W (a.ga i) p l cap → IsY W (b.ga i) p' l' cap' → Calls Try.prog 58 #[.agg #[.int .i64 (a.gn i), .slice p l cap], .agg #[.int .i64 (b.gn i), .slice p' l' cap'], .func (Fn.func 59) #[] #[]] W (PostE (mg1 D (a.gn i) (a.ga i) (b.gn i) (b.ga i)).1 (mg1 D (a.gn i) (a.ga i) (b.gn i) (b.ga i)).2 g (s && mgOk1 d (a.gn i) (a.ga i) (b.gn i) (b.ga i)) W)) :
    Calls Try.prog 84 #[.int .i64 (i : Nat), .pointer (some ⟨ba, 0, none⟩), .pointer (some ⟨bb, 0, none⟩), .pointer (some ⟨bf, 0, none⟩)] W (PostE (mg1 D (a.gn i) (a.ga i) (b.gn i) (b.ga i)).1 (mg1 D (a.gn i) (a.ga i) (b.gn i) (b.ga i)).2 g (s && mgOk1 d (a.gn i) (a.ga i) (b.gn i) (b.ga i)) W) := by
  obtain ⟨hl, hcap, hmax, hnil, hrow⟩ := his
  subst hl
  unfold maxLen at hmax
  obtain ⟨hl', hcap', hmax', hnil', hrow'⟩ := hit
  subst hl'
  unfold maxLen at hmax'
  rcases hrow with h0 | ⟨rb, off, rfl, hr⟩
  · omega
  rcases hrow' with h0 | ⟨rb', off', rfl, hr'⟩
  · omega
  obtain ⟨hcn, p1, n1, cap1, hc, hi1⟩ := base2_at (Keeps2.alloc W (.cells #[.int .i64 0, .slice none 0 0] 25)) hr hi
  obtain ⟨hcn', p2, n2, cap2, hc', hi2⟩ := base2_at (Keeps2.alloc W (.cells #[.int .i64 0, .slice none 0 0] 25)) hr' hib
  obtain ⟨x1, x2⟩ := box2_cells (alloc_kept hba (.cells #[.int .i64 0, .slice none 0 0] 25))
  obtain ⟨x3, x4⟩ := box2_cells (alloc_kept hbb (.cells #[.int .i64 0, .slice none 0 0] 25))
  have x5 := cell_of_one (alloc_kept hbf (.cells #[.int .i64 0, .slice none 0 0] 25))
  have hlt := lt_of_block hba
  have hlt2 := lt_of_block hbb
  have hlt3 := lt_of_block hbf
  have hii : (i : Int) < (a.len : Int) := by omega
  have hii2 : (i : Int) < (b.len : Int) := by omega
  have hi0 : (0 : Int) ≤ (i : Int) := by omega
  have hgl := Lib.hid hI.lt
  have hI2 := hI.alloc (.cells #[.int .i64 0, .slice none 0 0] 25)
  have IH := Lib.hid ih
  clear ih hba hbb hbf hr hr' hI
  generalize (s && mgOk1 d (a.gn i) (a.ga i) (b.gn i) (b.ga i)) = ss at *
  generalize (mg1 D (a.gn i) (a.ga i) (b.gn i) (b.ga i)).1 = nn at *
  generalize (mg1 D (a.gn i) (a.ga i) (b.gn i) (b.ga i)).2 = aa at *
  go_enter Try.func84, Try.ntmps84
  go_wp2_with fail
  have r0 := heap_new W (.cells #[.int .i64 0, .slice none 0 0] 25)
  have hB0 : Below W.heap.size W (W.alloc (.cells #[.int .i64 0, .slice none 0 0] 25)) := (Below.refl _ _).alloc (Nat.le_refl _) _
  have hs0 : (W.alloc (.cells #[.int .i64 0, .slice none 0 0] 25)).heap.size = W.heap.size + 1 := by simp
  generalize W.alloc (.cells #[.int .i64 0, .slice none 0 0] 25) = W2 at hcn hc hi1 hcn' hc' hi2 x1 x2 x3 x4 x5 r0 hB0 hs0 hI2 ⊢
  go_still_tail 11, (by kernel_rfl)
  change wpList _ _ _ _ _ W2.drew
  go_wp2_with fail
  refine (IH.out W2.drew p1 n1 cap1 p2 n2 cap2 hI2 hi1.drew hi2.drew).mono ?_
  rintro e w1 ⟨⟨q1, c1, rfl, hO⟩, hI3, hg3⟩
  have hgr : w1.heap[W.heap.size]? = some (.cells #[.int .i64 0, .slice none 0 0] 25 (0, 0)) := (hg3.block _ (by show W.heap.size < W2.heap.size; omega) (fun e => by have := hgl.out _ e.symm; omega)).trans r0
  obtain ⟨z1, z2⟩ := box2_cells hgr
  obtain ⟨f1, f2⟩ := free2 hgr
  have hz : W2.heap.size ≤ w1.heap.size := hg3.size
  have hz2 : W.heap.size + 1 ≤ w1.heap.size := by omega
  clear hgr
  go_wp2_with fail
  refine bodyPost_ret (v := .agg #[.int .i64 nn, .slice q1 aa.len c1]) (by simp [results, Try.results84, go_sem, z1, z2]) rfl ?_
  exact postE_store (wB := W2.drew) _ _ hB0.drew (Nat.le_refl _) (by show W.heap.size < W2.heap.size; omega) hgl.out hO hI3 hg3

set_option maxRecDepth 100000 in
set_option maxHeartbeats 3200000 in
theorem merge_meet  (R : List Int) (D : Int → Y → Int → Y → Int × Y) (d : Int → Int → Bool) (g : Option Nat)
    (hD : ∀ (a b : Y) (n n' : Int) (s : Bool) (W : World) (p p' : Option Addr) (l cap l' cap' : Nat), n ≠ n' → a.sz < 100000 → b.sz < 100000 → IG g s W → IsY W a p l cap → IsY W b p' l' cap' →
      Calls Try.prog 59 #[.agg #[.int .i64 n, .slice p l cap], .agg #[.int .i64 n', .slice p' l' cap']] W (PostE (D n a n' b).1 (D n a n' b).2 g (s && d n n') W)) (N : Nat) :
    ∀ (a b : Y) (n n' : Int) (s : Bool) (w : World) (p p' : Option Addr) (l cap l' cap' : Nat), a.sz < N → a.sz < 100000 → b.sz < 100000 → over1 R n a = true → over1 R n' b = true → IG g s w → IsY w a p l cap → IsY w b p' l' cap' →
    Calls Try.prog 58 #[.agg #[.int .i64 n, .slice p l cap], .agg #[.int .i64 n', .slice p' l' cap'], .func (Fn.func 59) #[] #[]] w (PostE (mg1 D n a n' b).1 (mg1 D n a n' b).2 g (s && mgOk1 d n a n' b) w) := by
  induction N with
  | zero => intro a b n n' s w p p' l cap l' cap' hN; omega
  | succ N ih =>
    intro a b n n' s w p p' l cap l' cap' hN h60 h61 ho1 ho2 hI his hit
    have hlen := a.len_le_sz
    have hgl := Lib.hid hI.lt
    by_cases hn : n = n'
    case neg =>
      have e1 : mg1 D n a n' b = D n a n' b := if_neg hn
      have e2 : mgOk1 d n a n' b = d n n' := if_neg hn
      rw [e1, e2]
      have hd : (n != n') = true := by simpa using hn
      have J := hD a b n n' s ((((w.alloc (.cells #[.int .i64 n, .slice p l cap] 25)).alloc (.cells #[.int .i64 n', .slice p' l' cap'] 25)).alloc (.cells #[.func (Fn.func 59) #[] #[]] 66)).alloc (.cells #[.int .i64 0, .slice none 0 0] 25)) p p' l cap l' cap' hn h60 h61
        ((((hI.alloc _).alloc _).alloc _).alloc _) ((((his.alloc _).alloc _).alloc _).alloc _) ((((hit.alloc _).alloc _).alloc _).alloc _)
      have HJ := Lib.hid J
      clear J ih e1 e2 hn ho1 ho2 hD hI
      generalize (s && d n n') = ss at *
      generalize (D n a n' b).1 = nn at *
      generalize (D n a n' b).2 = aa at *
      go_enter Try.func58, Try.ntmps58
      go_wp2_with fail
      refine (HJ.out).mono ?_
      rintro e w1 ⟨⟨r, c, rfl, hO⟩, hI1, hg1⟩
      have z0 := (hg1.block (w.heap.size + 3) (by simp only [World.size_alloc]; omega) (fun e => by have := hgl.out _ e.symm; omega)).trans (heap_new4 w _ _ _ _)
      obtain ⟨z1, z2⟩ := box2_cells z0
      obtain ⟨f1, f2⟩ := free2 z0
      have hz := hg1.size
      have hz2 : w.heap.size + 4 ≤ w1.heap.size := (by simpa using hz)
      clear z0
      go_wp2_with fail
      refine bodyPost_ret (v := .agg #[.int .i64 nn, .slice r aa.len c]) (by simp [results, Try.results58, go_sem, z1, z2]) rfl ?_
      exact postE_store (r := w.heap.size + 3) _ _ (below4 w _ _ _ _) (by omega) (by simp only [World.size_alloc]; omega) hgl.out hO hI1 hg1
    case pos =>
      subst hn
      have e1 : mg1 D n a n b = (n, mgY D a b) := if_pos rfl
      have e2 : mgOk1 d n a n b = mgOk d a b := if_pos rfl
      rw [e1, e2]
      dsimp only
      have hlab := over_len ho1 ho2
      have hd : (n != n) = false := by simp
      have hl := his.1
      subst hl
      have hsz : (((((w.alloc (.cells #[.int .i64 n, .slice p a.len cap] 25)).alloc (.cells #[.int .i64 n, .slice p' l' cap'] 25)).alloc (.cells #[.func (Fn.func 59) #[] #[]] 66)).alloc (.cells #[.int .i64 0, .slice none 0 0] 25)).drew).heap.size = w.heap.size + 4 := by simp
      have hok : okN (fun i => mgOk1 d (a.gn i) (a.ga i) (b.gn i) (b.ga i)) a.len 0 = mgOk d a b := by
        have h := okN_mg d a b hlab a.len 0 (by omega)
        rwa [Y.drop_zero, Y.drop_zero] at h
      have hmk : mkY (fun i => (mg1 D (a.gn i) (a.ga i) (b.gn i) (b.ga i)).1) (fun i => (mg1 D (a.gn i) (a.ga i) (b.gn i) (b.ga i)).2) a.len 0 = mgY D a b := by
        have h := mkY_mg D a b hlab a.len 0 (by omega)
        rwa [Y.drop_zero, Y.drop_zero] at h
      have hk1 : overE R a = true := by simp only [over1, Bool.and_eq_true] at ho1; exact ho1.2
      have hk2 : overE R b = true := by simp only [over1, Bool.and_eq_true] at ho2; exact ho2.2
      have hIB := (((hI.alloc (.cells #[.int .i64 n, .slice p a.len cap] 25)).alloc (.cells #[.int .i64 n, .slice p' l' cap'] 25)).alloc (.cells #[.func (Fn.func 59) #[] #[]] 66)).alloc (.cells #[.int .i64 0, .slice none 0 0] 25)
      have hnb : ∀ k, w.heap.size ≤ k → g ≠ some k := fun k hk e => by have := hgl.out k e; omega
      have J := list_merge (c0 := w.heap.size) (c1 := w.heap.size + 1) (c2 := w.heap.size + 1 + 1) (((((w.alloc (.cells #[.int .i64 n, .slice p a.len cap] 25)).alloc (.cells #[.int .i64 n, .slice p' l' cap'] 25)).alloc (.cells #[.func (Fn.func 59) #[] #[]] 66)).alloc (.cells #[.int .i64 0, .slice none 0 0] 25)).drew) g a.len _ _ _ s (s && mgOk d a b) (mgY D a b) (by omega) hIB hmk (by rw [hok])
        (fun i s' W hi hI' hg => merge1_meet D d g s' a b n n i W w.heap.size (w.heap.size + 1) (w.heap.size + 1 + 1) p p' a.len cap l' cap' hi (by omega)
          ((hg.block _ (by rw [hsz]; omega) (fun e => hnb _ (by omega) e.symm)).trans (alloc_kept (alloc_kept (alloc_kept (heap_new _ _) _) _) _))
          ((hg.block _ (by rw [hsz]; omega) (fun e => hnb _ (by omega) e.symm)).trans (alloc_kept (alloc_kept (heap_new2 _ _ _) _) _))
          ((hg.block _ (by rw [hsz]; omega) (fun e => hnb _ (by omega) e.symm)).trans (alloc_kept (heap_new3 _ _ _ _) _))
          (isY_gby ((((his.alloc _).alloc _).alloc _).alloc _).drew hIB hg) (isY_gby ((((hit.alloc _).alloc _).alloc _).alloc _).drew hIB hg) hI'
          (fun W p l cap p' l' cap' hI'' h1 h2 => ih (a.ga i) (b.ga i) _ _ s' W p p' l cap l' cap' (by have := a.sz_ga i hi; omega) (by have := a.sz_ga i hi; omega) (by have := b.sz_ga i (by omega); omega) (overE_at hk1 hi) (overE_at hk2 (by omega)) hI'' h1 h2))
      have HJ := Lib.hid J
      clear J ih hsz hok hmk hk1 hk2 hIB hnb e1 e2 hlab ho1 ho2 hD hI
      generalize (s && mgOk d a b) = ss at *
      generalize mgY D a b = tt at *
      go_enter Try.func58, Try.ntmps58
      go_wp2_with fail
      go_region_with ((go_at_call 85; refine (HJ.out).mono ?_; rintro e w1 ⟨⟨r, c, rfl, hO⟩, hI1, hg1⟩; have q := box2_cells ((hg1.block (w.heap.size) (by simp <;> omega) (fun e => by have := hgl.out _ e.symm; omega)).trans (alloc_kept (alloc_kept (alloc_kept (heap_new w (.cells #[.int .i64 n, .slice p a.len cap] 25)) (.cells #[.int .i64 n, .slice p' l' cap'] 25)) (.cells #[.func (Fn.func 59) #[] #[]] 66)) (.cells #[.int .i64 0, .slice none 0 0] 25))); obtain ⟨q1, q2⟩ := q; have z0 := (hg1.block (w.heap.size + 1 + 1 + 1) (by simp <;> omega) (fun e => by have := hgl.out _ e.symm; omega)).trans (heap_new4 w (.cells #[.int .i64 n, .slice p a.len cap] 25) (.cells #[.int .i64 n, .slice p' l' cap'] 25) (.cells #[.func (Fn.func 59) #[] #[]] 66) (.cells #[.int .i64 0, .slice none 0 0] 25)); have z := box2_cells z0; obtain ⟨z1, z2⟩ := z; have f := free2 z0; obtain ⟨f1, f2⟩ := f; clear z0; have hz := hg1.size; have hz2 : w.heap.size + 4 ≤ w1.heap.size := (by simpa using hz)))
      all_goals go_wp2_with fail
      all_goals
        refine bodyPost_ret (v := .agg #[.int .i64 n, .slice r tt.len c]) (by simp [results, Try.results58, go_sem, z1, z2]) rfl ?_
        exact postE_store (r := w.heap.size + 1 + 1 + 1) _ _ ((below4 w _ _ _ _).drew) (by omega) (by simp <;> omega) hgl.out hO hI1 hg1

end Go.Proofs.Yteolfpdkpihnlaa

/-
  The walk of merge, with the functions that Meet and Join hand to it. Conditions: at most 100000 nodes; the trees are over the same symbols.
-/
set_option linter.unusedSimpArgs false
set_option linter.unusedVariables false
namespace Go.Proofs.Yteolfpdkpihnlaa
open Go.RowKit

set_option maxRecDepth 100000 in
set_option maxHeartbeats 1600000 in
/-- the function that merge hands to list -/
theorem merge1_join {gb : Nat} (D : Int → Y → Int → Y → Int × Y) (d : Int → Int → Bool) (g : Option Nat) (s : Bool) (a b : Y) (n n' : Int) (i : Nat) (W : World) (ba bb bf : Nat) (p p' : Option Addr) (l cap l' cap' : Nat) (hi : i < a.len) (hib : i < b.len)
    (hba : W.heap[ba]? = some (.cells #[.int .i64 n, .slice p l cap] 25 (0, 0))) (hbb : W.heap[bb]? = some (.cells #[.int .i64 n', .slice p' l' cap'] 25 (0, 0)))
    (hbf : W.heap[bf]? = some (.cells #[.func (Fn.func 62) #[] #[.pointer (some ⟨gb, 0, none⟩)]] 66 (0, 0))) (his : IsY W a p l cap) (hit : IsY W b p' l' cap') (hI : IG g s W)
    (ih : ∀ (W : World) p l cap p' l' cap', IG g s W → IsY W (a.ga i) p l cap → IsY W (b.ga i) p' l' cap' → Calls Try.prog 58 #[.agg #[.int .i64 (a.gn i), .slice p l cap], .agg #[.int .i64 (b.gn i), .slice p' l' cap'], .func (Fn.func 62) #[] #[.pointer (some ⟨gb, 0, none⟩)]] W (PostE (mg1 D (a.gn i) (a.ga i) (b.gn i) (b.ga i)).1 (mg1 D (a.gn i) (a.ga i) (b.gn i) (b.ga i)).2 g (s && mgOk1 d (a.gn i) (a.ga i) (b.gn i) (b.ga i)) W)) :
    Calls Try.prog 84 #[.int .i64 (i : Nat), .pointer (some ⟨ba, 0, none⟩), .pointer (some ⟨bb, 0, none⟩), .pointer (some ⟨bf, 0, none⟩)] W (PostE (mg1 D (a.gn i) (a.ga i) (b.gn i) (b.ga i)).1 (mg1 D (a.gn i) (a.ga i) (b.gn i) (b.ga i)).2 g (s && mgOk1 d (a.gn i) (a.ga i) (b.gn i) (b.ga i)) W) := by
  obtain ⟨hl, hcap, hmax, hnil, hrow⟩ := his
  subst hl
  unfold maxLen at hmax
  obtain ⟨hl', hcap', hmax', hnil', hrow'⟩ := hit
  subst hl'
  unfold maxLen at hmax'
  rcases hrow with h0 | ⟨rb, off, rfl, hr⟩
  · omega
  rcases hrow' with h0 | ⟨rb', off', rfl, hr'⟩
  · omega
  obtain ⟨hcn, p1, n1, cap1, hc, hi1⟩ := base2_at (Keeps2.alloc W (.cells #[.int .i64 0, .slice none 0 0] 25)) hr hi
  obtain ⟨hcn', p2, n2, cap2, hc', hi2⟩ := base2_at (Keeps2.alloc W (.cells #[.int .i64 0, .slice none 0 0] 25)) hr' hib
  obtain ⟨x1, x2⟩ := box2_cells (alloc_kept hba (.cells #[.int .i64 0, .slice none 0 0] 25))
  obtain ⟨x3, x4⟩ := box2_cells (alloc_kept hbb (.cells #[.int .i64 0, .slice none 0 0] 25))
  have x5 := cell_of_one (alloc_kept hbf (.cells #[.int .i64 0, .slice none 0 0] 25))
  have hlt := lt_of_block hba
  have hlt2 := lt_of_block hbb
  have hlt3 := lt_of_block hbf
  have hii : (i : Int) < (a.len : Int) := by omega
  have hii2 : (i : Int) < (b.len : Int) := by omega
  have hi0 : (0 : Int) ≤ (i : Int) := by omega
  have hgl := Lib.hid hI.lt
  have hI2 := hI.alloc (.cells #[.int .i64 0, .slice none 0 0] 25)
  have IH := Lib.hid ih
  clear ih hba hbb hbf hr hr' hI
  generalize (s && mgOk1 d (a.gn i) (a.ga i) (b.gn i) (b.ga i)) = ss at *
  generalize (mg1 D (a.gn i) (a.ga i) (b.gn i) (b.ga i)).1 = nn at *
  generalize (mg1 D (a.gn i) (a.ga i) (b.gn i) (b.ga i)).2 = aa at *
  go_enter Try.func84, Try.ntmps84
  go_wp2_with fail
  have r0 := heap_new W (.cells #[.int .i64 0, .slice none 0 0] 25)
  have hB0 : Below W.heap.size W (W.alloc (.cells #[.int .i64 0, .slice none 0 0] 25)) := (Below.refl _ _).alloc (Nat.le_refl _) _
  have hs0 : (W.alloc (.cells #[.int .i64 0, .slice none 0 0] 25)).heap.size = W.heap.size + 1 := by simp
  generalize W.alloc (.cells #[.int .i64 0, .slice none 0 0] 25) = W2 at hcn hc hi1 hcn' hc' hi2 x1 x2 x3 x4 x5 r0 hB0 hs0 hI2 ⊢
  go_still_tail 11, (by kernel_rfl)
  change wpList _ _ _ _ _ W2.drew
  go_wp2_with fail
  refine (IH.out W2.drew p1 n1 cap1 p2 n2 cap2 hI2 hi1.drew hi2.drew).mono ?_
  rintro e w1 ⟨⟨q1, c1, rfl, hO⟩, hI3, hg3⟩
  have hgr : w1.heap[W.heap.size]? = some (.cells #[.int .i64 0, .slice none 0 0] 25 (0, 0)) := (hg3.block _ (by show W.heap.size < W2.heap.size; omega) (fun e => by have := hgl.out _ e.symm; omega)).trans r0
  obtain ⟨z1, z2⟩ := box2_cells hgr
  obtain ⟨f1, f2⟩ := free2 hgr
  have hz : W2.heap.size ≤ w1.heap.size := hg3.size
  have hz2 : W.heap.size + 1 ≤ w1.heap.size := by omega
  clear hgr
  go_wp2_with fail
  refine bodyPost_ret (v := .agg #[.int .i64 nn, .slice q1 aa.len c1]) (by simp [results, Try.results84, go_sem, z1, z2]) rfl ?_
  exact postE_store (wB := W2.drew) _ _ hB0.drew (Nat.le_refl _) (by show W.heap.size < W2.heap.size; omega) hgl.out hO hI3 hg3

set_option maxRecDepth 100000 in
set_option maxHeartbeats 3200000 in
theorem merge_join {gb : Nat} (R : List Int) (D : Int → Y → Int → Y → Int × Y) (d : Int → Int → Bool) (g : Option Nat)
    (hD : ∀ (a b : Y) (n n' : Int) (s : Bool) (W : World) (p p' : Option Addr) (l cap l' cap' : Nat), n ≠ n' → a.sz < 100000 → b.sz < 100000 → IG g s W → IsY W a p l cap → IsY W b p' l' cap' →
      Calls Try.prog 62 #[.agg #[.int .i64 n, .slice p l cap], .agg #[.int .i64 n', .slice p' l' cap'], .pointer (some ⟨gb, 0, none⟩)] W (PostE (D n a n' b).1 (D n a n' b).2 g (s && d n n') W)) (N : Nat) :
    ∀ (a b : Y) (n n' : Int) (s : Bool) (w : World) (p p' : Option Addr) (l cap l' cap' : Nat), a.sz < N → a.sz < 100000 → b.sz < 100000 → over1 R n a = true → over1 R n' b = true → IG g s w → IsY w a p l cap → IsY w b p' l' cap' →
    Calls Try.prog 58 #[.agg #[.int .i64 n, .slice p l cap], .agg #[.int .i64 n', .slice p' l' cap'], .func (Fn.func 62) #[] #[.pointer (some ⟨gb, 0, none⟩)]] w (PostE (mg1 D n a n' b).1 (mg1 D n a n' b).2 g (s && mgOk1 d n a n' b) w) := by
  induction N with
  | zero => intro a b n n' s w p p' l cap l' cap' hN; omega
  | succ N ih =>
    intro a b n n' s w p p' l cap l' cap' hN h60 h61 ho1 ho2 hI his hit
    have hlen := a.len_le_sz
    have hgl := Lib.hid hI.lt
    by_cases hn : n = n'
    case neg =>
      have e1 : mg1 D n a n' b = D n a n' b := if_neg hn
      have e2 : mgOk1 d n a n' b = d n n' := if_neg hn
      rw [e1, e2]
      have hd : (n != n') = true := by simpa using hn
      have J := hD a b n n' s ((((w.alloc (.cells #[.int .i64 n, .slice p l cap] 25)).alloc (.cells #[.int .i64 n', .slice p' l' cap'] 25)).alloc (.cells #[.func (Fn.func 62) #[] #[.pointer (some ⟨gb, 0, none⟩)]] 66)).alloc (.cells #[.int .i64 0, .slice none 0 0] 25)) p p' l cap l' cap' hn h60 h61
        ((((hI.alloc _).alloc _).alloc _).alloc _) ((((his.alloc _).alloc _).alloc _).alloc _) ((((hit.alloc _).alloc _).alloc _).alloc _)
      have HJ := Lib.hid J
      clear J ih e1 e2 hn ho1 ho2 hD hI
      generalize (s && d n n') = ss at *
      generalize (D n a n' b).1 = nn at *
      generalize (D n a n' b).2 = aa at *
      go_enter Try.func58, Try.ntmps58
      go_wp2_with fail
      refine (HJ.out).mono ?_
      rintro e w1 ⟨⟨r, c, rfl, hO⟩, hI1, hg1⟩
      have z0 := (hg1.block (w.heap.size + 3) (by simp only [World.size_alloc]; omega) (fun e => by have := hgl.out _ e.symm; omega)).trans (heap_new4 w _ _ _ _)
      obtain ⟨z1, z2⟩ := box2_cells z0
      obtain ⟨f1, f2⟩ := free2 z0
      have hz := hg1.size
      have hz2 : w.heap.size + 4 ≤ w1.heap.size := (by simpa using hz)
      clear z0
      go_wp2_with fail
      refine bodyPost_ret (v := .agg #[.int .i64 nn, .slice r aa.len c]) (by simp [results, Try.results58, go_sem, z1, z2]) rfl ?_
      exact postE_store (r := w.heap.size + 3) _ _ (below4 w _ _ _ _) (by omega) (by simp only [World.size_alloc]; omega) hgl.out hO hI1 hg1
    case pos =>
      subst hn
      have e1 : mg1 D n a n b = (n, mgY D a b) := if_pos rfl
      have e2 : mgOk1 d n a n b = mgOk d a b := if_pos rfl
      rw [e1, e2]
      dsimp only
      have hlab := over_len ho1 ho2
      have hd : (n != n) = false := by simp
      have hl := his.1
      subst hl
      have hsz : (((((w.alloc (.cells #[.int .i64 n, .slice p a.len cap] 25)).alloc (.cells #[.int .i64 n, .slice p' l' cap'] 25)).alloc (.cells #[.func (Fn.func 62) #[] #[.pointer (some ⟨gb, 0, none⟩)]] 66)).alloc (.cells #[.int .i64 0, .slice none 0 0] 25)).drew).heap.size = w.heap.size + 4 := by simp
      have hok : okN (fun i => mgOk1 d (a.gn i) (a.ga i) (b.gn i) (b.ga i)) a.len 0 = mgOk d a b := by
        have h := okN_mg d a b hlab a.len 0 (by omega)
        rwa [Y.drop_zero, Y.drop_zero] at h
      have hmk : mkY (fun i => (mg1 D (a.gn i) (a.ga i) (b.gn i) (b.ga i)).1) (fun i => (mg1 D (a.gn i) (a.ga i) (b.gn i) (b.ga i)).2) a.len 0 = mgY D a b := by
        have h := mkY_mg D a b hlab a.len 0 (by omega)
        rwa [Y.drop_zero, Y.drop_zero] at h
      have hk1 : overE R a = true := by simp only [over1, Bool.and_eq_true] at ho1; exact ho1.2
      have hk2 : overE R b = true := by simp only [over1, Bool.and_eq_true] at ho2; exact ho2.2
      have hIB := (((hI.alloc (.cells #[.int .i64 n, .slice p a.len cap] 25)).alloc (.cells #[.int .i64 n, .slice p' l' cap'] 25)).alloc (.cells #[.func (Fn.func 62) #[] #[.pointer (some ⟨gb, 0, none⟩)]] 66)).alloc (.cells #[.int .i64 0, .slice none 0 0] 25)
      have hnb : ∀ k, w.heap.size ≤ k → g ≠ some k := fun k hk e => by have := hgl.out k e; omega
      have J := list_merge (c0 := w.heap.size) (c1 := w.heap.size + 1) (c2 := w.heap.size + 1 + 1) (((((w.alloc (.cells #[.int .i64 n, .slice p a.len cap] 25)).alloc (.cells #[.int .i64 n, .slice p' l' cap'] 25)).alloc (.cells #[.func (Fn.func 62) #[] #[.pointer (some ⟨gb, 0, none⟩)]] 66)).alloc (.cells #[.int .i64 0, .slice none 0 0] 25)).drew) g a.len _ _ _ s (s && mgOk d a b) (mgY D a b) (by omega) hIB hmk (by rw [hok])
        (fun i s' W hi hI' hg => merge1_join D d g s' a b n n i W w.heap.size (w.heap.size + 1) (w.heap.size + 1 + 1) p p' a.len cap l' cap' hi (by omega)
          ((hg.block _ (by rw [hsz]; omega) (fun e => hnb _ (by omega) e.symm)).trans (alloc_kept (alloc_kept (alloc_kept (heap_new _ _) _) _) _))
          ((hg.block _ (by rw [hsz]; omega) (fun e => hnb _ (by omega) e.symm)).trans (alloc_kept (alloc_kept (heap_new2 _ _ _) _) _))
          ((hg.block _ (by rw [hsz]; omega) (fun e => hnb _ (by omega) e.symm)).trans (alloc_kept (heap_new3 _ _ _ _) _))
          (isY_gby ((((his.alloc _).alloc _).alloc _).alloc _).drew hIB hg) (isY_gby ((((hit.alloc _).alloc _).alloc _).alloc _).drew hIB hg) hI'
          (fun W p l cap p' l' cap' hI'' h1 h2 => ih (a.ga i) (b.ga i) _ _ s' W p p' l cap l' cap' (by have := a.sz_ga i hi; omega) (by have := a.sz_ga i hi; omega) (by have := b.sz_ga i (by omega); omega) (overE_at hk1 hi) (overE_at hk2 (by omega)) hI'' h1 h2))
      have HJ := Lib.hid J
      clear J ih hsz hok hmk hk1 hk2 hIB hnb e1 e2 hlab ho1 ho2 hD hI
      generalize (s && mgOk d a b) = ss at *
      generalize mgY D a b = tt at *
      go_enter Try.func58, Try.ntmps58
      go_wp2_with fail
      go_region_with ((go_at_call 85; refine (HJ.out).mono ?_; rintro e w1 ⟨⟨r, c, rfl, hO⟩, hI1, hg1⟩; have q := box2_cells ((hg1.block (w.heap.size) (by simp <;> omega) (fun e => by have := hgl.out _ e.symm; omega)).trans (alloc_kept (alloc_kept (alloc_kept (heap_new w (.cells #[.int .i64 n, .slice p a.len cap] 25)) (.cells #[.int .i64 n, .slice p' l' cap'] 25)) (.cells #[.func (Fn.func 62) #[] #[.pointer (some ⟨gb, 0, none⟩)]] 66)) (.cells #[.int .i64 0, .slice none 0 0] 25))); obtain ⟨q1, q2⟩ := q; have z0 := (hg1.block (w.heap.size + 1 + 1 + 1) (by simp <;> omega) (fun e => by have := hgl.out _ e.symm; omega)).trans (heap_new4 w (.cells #[.int .i64 n, .slice p a.len cap] 25) (.cells #[.int .i64 n, .slice p' l' cap'] 25) (.cells #[.func (Fn.func 62) #[] #[.pointer (some ⟨gb, 0, none⟩)]] 66) (.cells #[.int .i64 0, .slice none 0 0] 25)); have z := box2_cells z0; obtain ⟨z1, z2⟩ := z; have f := free2 z0; obtain ⟨f1, f2⟩ := f; clear z0; have hz := hg1.size; have hz2 : w.heap.size + 4 ≤ w1.heap.size := (by simpa using hz)))
      all_goals go_wp2_with fail
      all_goals
        refine bodyPost_ret (v := .agg #[.int .i64 n, .slice r tt.len c]) (by simp [results, Try.results58, go_sem, z1, z2]) rfl ?_
        exact postE_store (r := w.heap.size + 1 + 1 + 1) _ _ ((below4 w _ _ _ _).drew) (by omega) (by simp <;> omega) hgl.out hO hI1 hg1

end Go.Proofs.Yteolfpdkpihnlaa

