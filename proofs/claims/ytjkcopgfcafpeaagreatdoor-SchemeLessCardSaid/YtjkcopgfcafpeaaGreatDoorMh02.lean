/-
  Parts of one proof, laid into one text: SRefP, SRefI0, SRefI. Conditions: each part names its own.
-/
import Derived.Test.YtjkcopgfcafpeaaGreatDoorMg30
import Derived.Test.YtjkcopgfcafpeaaGreatDoorMh01

/-
  The walk of the reference's Place: the symbols, the functions' sorts, and those of a function's parameters. Conditions: that the scheme lies in memory.
-/
set_option linter.unusedSimpArgs false
set_option linter.unusedVariables false
namespace Go.Proofs.YtjkcopgfcafpeaaGreatDoor
open Go.RowKit Go.Maps

/-- the scheme's box, the answer's block, the place's block, and the row that is collected -/
structure PQ (w : World) (F : Fu) (o ro : Obj) (sp : Option Addr) (sn sc : Nat) (b : Nat) (j : Nat) (q : Option Addr) (c : Nat) (vs : List Value) (u : Value) (wr : World) : Prop where
  own : wr.ownsRow (b + 1) 47 1 (.slice q j c) j vs
  vals : ∀ i, i < j → ∃ p n d, vs[i]? = some (.slice p n d) ∧ IsT w (F.st i) p n d
  box : wr.heap[b]? = some (.cells #[.slice sp sn sc, .slice q j c, u] 103 (0, 0))
  sbox : wr.heap[w.heap.size]? = some o
  rbox : wr.heap[w.heap.size + 1]? = some ro
  bel : Below w.heap.size w wr
  lt : w.heap.size + 1 < b

theorem PQ.alloc {w wr : World} {F : Fu} {o ro : Obj} {sp : Option Addr} {sn sc b j c : Nat} {q : Option Addr} {vs : List Value} {u : Value} (h : PQ w F o ro sp sn sc b j q c vs u wr) (x : Obj) : PQ w F o ro sp sn sc b j q c vs u (wr.alloc x) :=
  ⟨h.own.alloc _, h.vals, alloc_kept h.box _, alloc_kept h.sbox _, alloc_kept h.rbox _, h.bel.alloc h.bel.size _, h.lt⟩

theorem PQ.drew {w wr : World} {F : Fu} {o ro : Obj} {sp : Option Addr} {sn sc b j c : Nat} {q : Option Addr} {vs : List Value} {u : Value} (h : PQ w F o ro sp sn sc b j q c vs u wr) : PQ w F o ro sp sn sc b j q c vs u wr.drew :=
  ⟨h.own, h.vals, h.box, h.sbox, h.rbox, h.bel.drew, h.lt⟩

/-- behind an append and the store of its answer -/
theorem PQ.push {w W w3 : World} {F : Fu} {o ro Y : Obj} {sp : Option Addr} {sn sc b j c g cp : Nat} {q p : Option Addr} {n d : Nat} {vs : List Value} {u : Value} (h : PQ w F o ro sp sn sc b j q c vs u W) (hi : IsT w (F.st j) p n d)
    (hown : w3.ownsRow (b + 1) 47 1 (.slice (some ⟨g, 0, none⟩) (j + 1) cp) (j + 1) (vs ++ [.slice p n d])) (hgrow : (W.alloc Y).grownBy w3 (Value.slice q j c).ownBlock) :
    PQ w F o ro sp sn sc b (j + 1) (some ⟨g, 0, none⟩) cp (vs ++ [.slice p n d]) u (w3.setCell ⟨b, 1, none⟩ (.slice (some ⟨g, 0, none⟩) (j + 1) cp)) := by
  have hlt := h.own.lt
  have hb := lt_of_block h.box
  have hs := lt_of_block h.sbox
  have hr := lt_of_block h.rbox
  have hl := h.lt
  have hvl : vs.length = j := by have := h.own.1; omega
  have k1 : ∀ i, i ≤ b → i < W.heap.size → w3.heap[i]? = W.heap[i]? := fun i h1 h2 => by
    rw [hgrow.block i (by simp only [World.size_alloc]; omega) (fun e => by have := (hlt i e.symm).1; omega), Below.heap_alloc _ _ _ h2]
  refine ⟨ownsRow_setCell_below hown (Nat.lt_succ_self _) _, ?_, three_set1 ((k1 b (Nat.le_refl _) hb).trans h.box), ?_, ?_, ?_, hl⟩
  · intro i hij
    by_cases e : i = j
    · subst e
      exact ⟨p, n, d, by rw [List.getElem?_append_right (by omega), hvl, Nat.sub_self]; rfl, hi⟩
    · obtain ⟨p', n', d', h1, h2⟩ := h.vals i (by omega)
      exact ⟨p', n', d', by rw [List.getElem?_append_left (by omega)]; exact h1, h2⟩
  · rw [Below.heap_setCell _ _ _ _ (show w.heap.size ≠ b by omega)]
    exact (k1 _ (by omega) hs).trans h.sbox
  · rw [Below.heap_setCell _ _ _ _ (show w.heap.size + 1 ≠ b by omega)]
    exact (k1 _ (by omega) hr).trans h.rbox
  · exact ((h.bel.alloc h.bel.size Y).grown hgrow (by simp only [World.size_alloc]; have := h.bel.size; omega) fun i hi => by have := (hlt i hi).1; omega).setCell (show w.heap.size ≤ b by omega) _

/-- before the store, the place's block is as it was -/
theorem PQ.mid {w W w3 : World} {F : Fu} {o ro Y : Obj} {sp : Option Addr} {sn sc b j c : Nat} {q : Option Addr} {vs : List Value} {u : Value} (h : PQ w F o ro sp sn sc b j q c vs u W) (hgrow : (W.alloc Y).grownBy w3 (Value.slice q j c).ownBlock) :
    w3.heap[b]? = some (.cells #[.slice sp sn sc, .slice q j c, u] 103 (0, 0)) := by
  have hb := lt_of_block h.box
  rw [hgrow.block b (by simp only [World.size_alloc]; omega) (fun e => by have := (h.own.lt b e.symm).1; omega), Below.heap_alloc _ _ _ hb]
  exact h.box

/-- what has been collected is a list of sorts -/
theorem PQ.isT {w wr : World} {F : Fu} {o ro : Obj} {sp : Option Addr} {sn sc b j c : Nat} {q : Option Addr} {vs : List Value} {u : Value} (h : PQ w F o ro sp sn sc b j q c vs u wr) : IsT wr (stsF F 0 j) q j c :=
  isT_sts h.own fun i hi => by obtain ⟨p, n, d, h1, h2⟩ := h.vals i hi; exact ⟨p, n, d, h1, h2.below h.bel⟩

def PlacePost (w : World) (x : Sc) (sp : Option Addr) (sn sc : Nat) (i : Nat) (e : Ending) (w' : World) : Prop :=
  ∃ (q : Option Addr) (c : Nat) (pp : Option Addr) (pn pc : Nat), e = .returned (.agg #[.slice sp sn sc, .slice q x.F.len c, .slice pp pn pc]) ∧ IsP w' (x.pl (x.F.st i)) ⟨sp, sn, sc, q, x.F.len, c, pp, pn, pc⟩ ∧ Below w.heap.size w w'

set_option maxRecDepth 100000 in
set_option maxHeartbeats 8000000 in
theorem refplace_any (x : Sc) (a : At2) (i : Nat) (w : World) (h : IsC w x a) (hi : i < x.F.len) (h64 : x.F.len ≤ 64) :
    Calls Tryz.prog 67 #[.agg #[.slice a.sp a.sn a.sc, .slice a.fp a.fn a.fc], .int .i64 (i : Int)] w (PlacePost w x a.sp a.sn a.sc i) := by
  obtain ⟨i0, hi0, hz0, hz1', hz2⟩ := info_parts infoS
  obtain ⟨sp, sn, sc, fp, fn, fc⟩ := a
  obtain ⟨hS, hF⟩ := id h
  dsimp only at hS hF ⊢
  obtain rfl : fn = x.F.len := hF.1
  obtain ⟨b0, off, rfl, _⟩ := rowF_all hF hi
  obtain ⟨_, _, _, _, hrow0⟩ := id hF
  have hr : RowF w x.F b0 off := by
    rcases hrow0 with h | ⟨b', off', e, hr⟩
    · omega
    · injection e with e
      injection e with e1 e2
      subst e1 e2
      exact hr
  obtain ⟨pp, pn, pc, _, _, _, _, ei2, _, _, _, ei6, _⟩ := hr i hi
  have HR := Lib.hid hr
  have HSy := Lib.hid hS
  have HT := Lib.hid ei6
  have hii : (i : Int) < (x.F.len : Int) := by omega
  have B2 : Below w.heap.size w ((w.alloc (.cells #[.slice sp sn sc, .slice (some ⟨b0, off, none⟩) x.F.len fc] 25)).alloc (.cells #[.slice none 0 0, .slice none 0 0, .slice none 0 0] 103)) := ((Below.refl _ _).alloc (Nat.le_refl _) _).alloc (by simp) _
  have q2 := ((bcell B2).1 _ _ (lt_of_cell ei2)).trans ei2
  have q2d := fun o => ((bcell (B2.alloc (by simp; omega) o)).1 _ _ (lt_of_cell ei2)).trans ei2
  clear hS hF hrow0 hr ei6 h
  go_enter Tryz.func67, Tryz.ntmps67
  go_upto_region 1 with fail
  have hib : b0 < w.heap.size := lt_of_cell ei2
  have K0 : ((w.alloc (.cells #[.slice sp sn sc, .slice (some ⟨b0, off, none⟩) x.F.len fc] 25)).alloc (.cells #[.slice none 0 0, .slice none 0 0, .slice none 0 0] 103)).drew.cell? ⟨w.heap.size, 0, none⟩ = some (.slice sp sn sc) ∧ ((w.alloc (.cells #[.slice sp sn sc, .slice (some ⟨b0, off, none⟩) x.F.len fc] 25)).alloc (.cells #[.slice none 0 0, .slice none 0 0, .slice none 0 0] 103)).drew.cell? ⟨w.heap.size, 1, none⟩ = some (.slice (some ⟨b0, off, none⟩) x.F.len fc) ∧ ((w.alloc (.cells #[.slice sp sn sc, .slice (some ⟨b0, off, none⟩) x.F.len fc] 25)).alloc (.cells #[.slice none 0 0, .slice none 0 0, .slice none 0 0] 103)).drew.cell? ⟨b0, off + i * 5 + 1, none⟩ = some (.slice pp pn pc) :=
    ⟨(two_box (alloc_kept (heap_new _ _) _)).1.1, (two_box (alloc_kept (heap_new _ _) _)).1.2, q2⟩
  go_cut [5] from 8 to 18 (fun v5 wx => v5 = .pointer (some ⟨w.heap.size + 1 + 1, 0, none⟩) ∧ PQ w x.F (.cells #[.slice sp sn sc, .slice (some ⟨b0, off, none⟩) x.F.len fc] 25 (0, 0)) (.cells #[.slice none 0 0, .slice none 0 0, .slice none 0 0] 103 (0, 0)) sp sn sc (w.heap.size + 1 + 1) 0 none 0 [] (.slice pp pn pc) wx)
  case first =>
    go_region_held3 (fun W => W.cell? ⟨w.heap.size, 0, none⟩ = some (.slice sp sn sc) ∧ W.cell? ⟨w.heap.size, 1, none⟩ = some (.slice (some ⟨b0, off, none⟩) x.F.len fc) ∧ W.cell? ⟨b0, off + i * 5 + 1, none⟩ = some (.slice pp pn pc))
      (first | exact K0 | go_keep)
      (first | fail)
    all_goals
      go_wp2_with fail
      go_meet
      case rel =>
        refine ⟨rfl, PQ.drew ?_⟩
        exact ⟨World.ownsRow_nil _ _ _ _, fun i h => absurd h (Nat.not_lt_zero _), by rw [show w.heap.size + 1 + 1 = ((w.alloc (.cells #[.slice sp sn sc, .slice (some ⟨b0, off, none⟩) x.F.len fc] 25)).alloc (.cells #[.slice none 0 0, .slice none 0 0, .slice none 0 0] 103)).heap.size by simp]; exact heap_new _ _, alloc_kept (alloc_kept (heap_new _ _) _) _, by have := heap_new (w.alloc (.cells #[.slice sp sn sc, .slice (some ⟨b0, off, none⟩) x.F.len fc] 25)) (.cells #[.slice none 0 0, .slice none 0 0, .slice none 0 0] 103); rw [World.size_alloc] at this; exact alloc_kept this _, B2.alloc (by simp; omega) _, by omega⟩
  case rest =>
    obtain ⟨rfl, hP0⟩ := hcut
    obtain ⟨s1, s2⟩ := two_cells hP0.sbox
    have HP0 := Lib.hid hP0
    clear hP0 K0 q2 q2d B2 ei2 hib
    go_wp2_with fail
    go_loopw [21] (fun v wr => ∃ (j : Nat) (q : Option Addr) (c : Nat) (vs : List Value), j ≤ x.F.len ∧ v = .int .i64 (j : Int) ∧ PQ w x.F (.cells #[.slice sp sn sc, .slice (some ⟨b0, off, none⟩) x.F.len fc] 25 (0, 0)) (.cells #[.slice none 0 0, .slice none 0 0, .slice none 0 0] 103 (0, 0)) sp sn sc (w.heap.size + 1 + 1) j q c vs (.slice pp pn pc) wr)
      (fun v _ => x.F.len - (Go.RowKit.intOf v).toNat)
    case atStart => exact ⟨0, none, 0, [], Nat.zero_le _, rfl, HP0.out⟩
    case round =>
      clear HP0 s1 s2
      obtain ⟨j, q, c, vs, hj, rfl, hP⟩ := hrel
      by_cases hlt : j < x.F.len
      · obtain ⟨p', n', c', q', m', d', e1, e2, e3, e4, e5, e6, e7⟩ := HR.out j hlt
        have hkk := (bcell hP.bel).1
        have f1 := (hkk _ _ (lt_of_cell e1)).trans e1
        have f2 := (hkk _ _ (lt_of_cell e2)).trans e2
        have f3 := (hkk _ _ (lt_of_cell e3)).trans e3
        have f4 := (hkk _ _ (lt_of_cell e4)).trans e4
        have f5 := (hkk _ _ (lt_of_cell e5)).trans e5
        have HPP := Lib.hid hP
        have HTj := Lib.hid e6
        clear hP hkk e1 e2 e3 e4 e5 e6 e7
        generalize x.F.nm j = s at f1
        generalize x.F.bk j = bk at f3
        generalize x.F.bn j = bn at f4
        go_upto_region 5 with fail
        have S2 := HPP.out.alloc (.cells #[.string s, .slice p' n' c', .int .i64 bk, .int .i64 bn, .slice q' m' d'] 52)
        obtain ⟨y1, y2, y3, y4, y5⟩ := three_cells S2.box
        obtain ⟨v1, v2, v3, v4, v5⟩ := five_cells (heap_new wr (.cells #[.string s, .slice p' n' c', .int .i64 bk, .int .i64 bn, .slice q' m' d'] 52))
        have hbase : w.heap.size + 1 + 1 + 1 ≤ wr.heap.size := lt_of_block HPP.out.box
        have hbase2 : w.heap.size + 1 + 1 + 1 ≤ (wr.alloc (.cells #[.string s, .slice p' n' c', .int .i64 bk, .int .i64 bn, .slice q' m' d'] 52)).heap.size := by simp only [World.size_alloc]; omega
        generalize wr.heap.size = bf at v1 v2 v3 v4 v5 ⊢
        generalize wr.alloc (.cells #[.string s, .slice p' n' c', .int .i64 bk, .int .i64 bn, .slice q' m' d'] 52) = W2 at S2 y1 y2 y3 y4 y5 v1 v2 v3 v4 v5 hbase2 ⊢
        have HS2 := Lib.hid S2
        have hown := S2.own
        have hmx : j + 1 ≤ maxLen := by simp only [maxLen]; omega
        have hby : (j + 1) * 24 ≤ 140737488355328 := by omega
        clear S2 f1 f2 f3 f4 f5
        go_wp2_with (at_builtin; refine wpList_append_lies _ rfl _ _ 43 rfl (w.heap.size + 1 + 1 + 1) 47 i0 (.agg #[.slice none 0 0]) 1 24 Tryz.underlying43 hi0 hz0 hz1' hz2 rfl Nat.one_pos (.slice q j c) j vs rfl (hown.alloc _) ⟨W2.heap.size, 0, none⟩ 1 1 [.slice p' n' c'] rfl rfl (cell_one_new _ _ _) (one_slice _ _ _) Nat.one_pos hmx hby (base_le _ hbase2) (W2.heap.size + 1) (size_new _ _) ?_; intro g cp w9 hown3 hgrow hat hglt; have hh3 := three_cells (HS2.out.mid hgrow); have o1 := hh3.2.1; have o2 := hh3.2.2.2.1; clear hh3)
        have P := PQ.push HS2.out HTj.out hown3 hgrow
        go_roundw
        case rel => exact ⟨j + 1, some ⟨g, 0, none⟩, cp, _, by omega, by go_num, P⟩
        case measure => simp [Go.RowKit.intOf]; omega
      · obtain rfl : j = x.F.len := by omega
        obtain ⟨y1, y2, y3, y4, y5⟩ := three_cells hP.box
        obtain ⟨r1, r2, r3, r4, r5⟩ := three_cells hP.rbox
        have r0 : wr.frozen? ⟨w.heap.size + 1, 0, none⟩ = false := by simp [World.frozen?, hP.rbox]
        have HPP := Lib.hid hP
        clear hP
        go_wp2_with fail
        refine bodyPost_ret (v := .agg #[.slice sp sn sc, .slice q x.F.len c, .slice pp pn pc]) (by simp [results, Tryz.results67, go_sem, r1, r2, r3]) rfl ⟨q, c, pp, pn, pc, rfl, ?_⟩
        have hl : w.heap.size + 1 < w.heap.size + 1 + 1 + 1 := by omega
        have B3 : Below w.heap.size w (((wr.setCell ⟨w.heap.size + 1, 0, none⟩ (.slice sp sn sc)).setCell ⟨w.heap.size + 1, 1, none⟩ (.slice q x.F.len c)).setCell ⟨w.heap.size + 1, 2, none⟩ (.slice pp pn pc)) :=
          ((HPP.out.bel.setCell (p := ⟨w.heap.size + 1, 0, none⟩) (Nat.le_succ _) _).setCell (p := ⟨w.heap.size + 1, 1, none⟩) (Nat.le_succ _) _).setCell (p := ⟨w.heap.size + 1, 2, none⟩) (Nat.le_succ _) _
        exact ⟨⟨HSy.out.below B3, isT_sts (ownsRow_setCell_below (ownsRow_setCell_below (ownsRow_setCell_below HPP.out.own hl _) hl _) hl _) (fun i hi => by obtain ⟨p, n, d, h1, h2⟩ := HPP.out.vals i hi; exact ⟨p, n, d, h1, h2.below B3⟩), HT.out.below B3⟩, B3⟩

end Go.Proofs.YtjkcopgfcafpeaaGreatDoor

/-
  Plain mathematics: when a scheme is valid, in the reference's words. Conditions: none.
-/
set_option linter.unusedSimpArgs false
set_option linter.unusedVariables false
namespace Go.Proofs.YtjkcopgfcafpeaaGreatDoor
open Go.RowKit Go.Maps

/-- is function j such, its body's sort aside? -/
def fnOk (x : Sc) (j : Nat) : Prop := nm (x.F.nm j) = true ∧ (x.F.st j).valid = true ∧ (x.F.bt j).sz + 1 ≤ 400 ∧ (x.F.bt j).dep + 1 ≤ 30 ∧ ∀ i, i < j → x.F.nm i ≠ x.F.nm j

/-- has the body of function j the sort o? -/
def bdOk (x : Sc) (j : Nat) : Prop := (ofR (x.pl (x.F.st j)) (x.F.bk j) (x.F.bn j) (x.F.bt j)).2 = true ∧ (ofR (x.pl (x.F.st j)) (x.F.bk j) (x.F.bn j) (x.F.bt j)).1.len = 0

theorem symFrom_of (S : Sy) : ∀ (m i : Nat), (∀ j, i ≤ j → j < i + m → symOk S j = true) → symFrom S m i = true
  | 0, _, _ => rfl
  | m + 1, i, h => by
    simp only [symFrom, Bool.and_eq_true]
    exact ⟨h i (Nat.le_refl _) (by omega), symFrom_of S m (i + 1) fun j h1 h2 => h j (by omega) (by omega)⟩

theorem dup_iff (S : Sy) (j : Nat) : dup S j = false ↔ ∀ i, i < j → S.nm i ≠ S.nm j := by
  unfold dup
  rw [Bool.eq_false_iff, ne_eq, List.any_eq_true]
  constructor
  · intro h i hi e
    exact h ⟨i, List.mem_range.2 hi, decide_eq_true e⟩
  · rintro h ⟨i, hi, e⟩
    exact h i (List.mem_range.1 hi) (of_decide_eq_true e)

theorem allV_of {t : T} : (∀ i, i < t.len → (t.get i).valid = true) → allV t = true := by
  induction t with
  | nil => intro _; rfl
  | cons h r ihh ihr =>
    intro hv
    simp only [allV, Bool.and_eq_true]
    exact ⟨hv 0 (by simp [T.len]), ihr fun i hi => hv (i + 1) (by simp only [T.len]; omega)⟩

theorem bodiesOk_of (x : Sc) : ∀ (m i : Nat), (∀ j, i ≤ j → j < i + m → bodyOk x j = true) → bodiesOk x i m = true
  | 0, _, _ => rfl
  | m + 1, i, h => by
    simp only [bodiesOk, Bool.and_eq_true]
    exact ⟨h i (Nat.le_refl _) (by omega), bodiesOk_of x m (i + 1) fun j h1 h2 => h j (by omega) (by omega)⟩

theorem distF_iff (x : Sc) : distF x.F = true ↔ ∀ j, j < x.F.len → nm (x.F.nm j) = true ∧ ∀ i, i < j → x.F.nm i ≠ x.F.nm j := by
  unfold distF
  constructor
  · intro h j hj
    have := symFrom_at x.F.sy x.F.len 0 h j (Nat.zero_le _) (by omega)
    rw [symOk_sy, Bool.and_eq_true] at this
    exact ⟨this.1, (dup_iff x.F.sy j).1 (by simpa using this.2)⟩
  · intro h
    refine symFrom_of _ _ _ fun j _ hj => ?_
    rw [symOk_sy, Bool.and_eq_true]
    exact ⟨(h j (by omega)).1, by simpa using (dup_iff x.F.sy j).2 (h j (by omega)).2⟩

theorem validF_iff (x : Sc) (h64 : x.F.len ≤ 64) : validL (stsF x.F 0 x.F.len) 64 = true ↔ ∀ j, j < x.F.len → (x.F.st j).valid = true := by
  unfold validL
  rw [Bool.and_eq_true, stsF_len, decide_eq_true_eq]
  constructor
  · rintro ⟨_, h⟩ j hj
    have := allV_at (t := stsF x.F 0 x.F.len) (i := j) h (by rw [stsF_len]; exact hj)
    rwa [stsF_get _ _ _ _ hj, Nat.zero_add] at this
  · intro h
    refine ⟨h64, allV_of fun i hi => ?_⟩
    rw [stsF_len] at hi
    rw [stsF_get _ _ _ _ hi, Nat.zero_add]
    exact h i hi

theorem T.kids_get (t : T) : ∀ i, i < t.len → t.kids = true → (t.get i).len ≤ 8 ∧ (t.get i).kids = true := by
  induction t with
  | nil => intro i hi; exact absurd hi (Nat.not_lt_zero _)
  | cons h r ihh ihr =>
    intro i hi hk
    simp only [T.kids, Bool.and_eq_true, decide_eq_true_eq] at hk
    cases i with
    | zero => exact hk.1
    | succ i => exact ihr i (by simp only [T.len] at hi; omega) hk.2

theorem T.ord_get (t : T) : ∀ i, i < t.len → (t.get i).ord + 1 ≤ t.ord := by
  induction t with
  | nil => intro i hi; exact absurd hi (Nat.not_lt_zero _)
  | cons h r ihh ihr =>
    intro i hi
    cases i with
    | zero => simp only [T.get, T.ord]; omega
    | succ i =>
      have := ihr i (by simp only [T.len] at hi; omega)
      simp only [T.get, T.ord]
      omega

theorem T.valid_get (t : T) (i : Nat) (hi : i < t.len) (h : t.valid = true) : (t.get i).valid = true := by
  simp only [T.valid, T.few, Bool.and_eq_true, decide_eq_true_eq] at h ⊢
  obtain ⟨⟨h1, h2⟩, h3, h4⟩ := h
  have g1 := t.nodes_get i hi
  have g2 := t.ord_get i hi
  have g3 := t.kids_get i hi h4
  exact ⟨⟨by omega, by omega⟩, g3.1, g3.2⟩

/-- a place with these parameters is a valid one -/
theorem plOk_at {x : Sc} (hs : symsOk x.S = true) (h64 : x.F.len ≤ 64) (hv : ∀ j, j < x.F.len → (x.F.st j).valid = true) (P : T) (hP : P.valid = true ∨ P = .nil) : plOk (x.pl P) = true := by
  unfold plOk
  simp only [Bool.and_eq_true]
  refine ⟨⟨hs, (validF_iff x h64).2 hv⟩, ?_⟩
  rcases hP with hP | rfl
  · have hP' := hP
    simp only [T.valid, T.few, Bool.and_eq_true, decide_eq_true_eq] at hP'
    show validL P 8 = true
    unfold validL
    rw [Bool.and_eq_true, decide_eq_true_eq]
    exact ⟨hP'.2.1, allV_of fun i hi => T.valid_get P i hi hP⟩
  · rfl

theorem bodyOk_iff {x : Sc} (hs : symsOk x.S = true) (h64 : x.F.len ≤ 64) (hv : ∀ j, j < x.F.len → (x.F.st j).valid = true) {j : Nat} (hj : j < x.F.len) :
    bodyOk x j = true ↔ ((x.F.bt j).sz + 1 ≤ 400 ∧ (x.F.bt j).dep + 1 ≤ 30) ∧ bdOk x j := by
  have hp := plOk_at hs h64 hv (x.F.st j) (Or.inl (hv j hj))
  unfold bodyOk fitsB bdOk
  rw [sortRes_of, if_pos hp]
  simp only [Bool.and_eq_true, Bool.not_eq_true', decide_eq_false_iff_not, decide_eq_true_eq]
  unfold X.szN X.szD
  by_cases hz : (x.F.bt j).sz < 100000
  · rw [if_pos hz, if_pos hz, if_pos hz]
    by_cases h : (ofR (x.pl (x.F.st j)) (x.F.bk j) (x.F.bn j) (x.F.bt j)).2 = true
    · rw [if_pos h]
      simp only [h, true_and]
      constructor
      · rintro ⟨⟨g1, g2⟩, g3⟩; exact ⟨⟨by omega, by omega⟩, g3⟩
      · rintro ⟨⟨g1, g2⟩, g3⟩; exact ⟨⟨by omega, by omega⟩, g3⟩
    · rw [if_neg h]
      constructor
      · rintro ⟨_, g3, _⟩; exact absurd g3 (by decide)
      · rintro ⟨_, g3, _⟩; exact absurd g3 h
  · rw [if_neg hz, if_neg hz]
    constructor
    · rintro ⟨⟨g1, _⟩, _⟩; exact absurd g1 (by decide)
    · rintro ⟨⟨g1, _⟩, _⟩; omega

theorem scOk_iff (x : Sc) : scOk x = true ↔ symsOk x.S = true ∧ 1 ≤ x.F.len ∧ x.F.len ≤ 64 ∧ (∀ j, j < x.F.len → fnOk x j) ∧ (x.F.st 0).len = 0 ∧ ∀ j, j < x.F.len → bdOk x j := by
  constructor
  · intro h
    have hb := fun j (hj : j < x.F.len) => bodiesOk_at x x.F.len 0 (by simp only [scOk, Bool.and_eq_true] at h; exact h.2) j (Nat.zero_le _) (show j < 0 + x.F.len by omega)
    have hg := good_of h
    simp only [scOk, Bool.and_eq_true, Bool.not_eq_true', decide_eq_false_iff_not] at h
    obtain ⟨⟨⟨⟨⟨h1, h2⟩, h3⟩, h4⟩, h5⟩, h6⟩ := h
    simp only [plOk, Bool.and_eq_true] at h5
    have hs : symsOk x.S = true := h5.1.1
    have hd := (distF_iff x).1 h3
    have hbi := fun j (hj : j < x.F.len) => (bodyOk_iff hs (by omega) hg.sort hj).1 (hb j hj)
    exact ⟨hs, by omega, by omega, fun j hj => ⟨(hd j hj).1, hg.sort j hj, (hbi j hj).1.1, (hbi j hj).1.2, (hd j hj).2⟩, by omega, fun j hj => (hbi j hj).2⟩
  · rintro ⟨hs, h1, h2, h3, h4, h5⟩
    have hv := fun j hj => (h3 j hj).2.1
    simp only [scOk, Bool.and_eq_true, Bool.not_eq_true', decide_eq_false_iff_not]
    exact ⟨⟨⟨⟨⟨by omega, by omega⟩, (distF_iff x).2 fun j hj => ⟨(h3 j hj).1, (h3 j hj).2.2.2.2⟩⟩, by omega⟩, plOk_at hs h2 hv .nil (Or.inr rfl)⟩,
      bodiesOk_of x _ _ fun j _ hj => (bodyOk_iff hs h2 hv (by omega)).2 ⟨⟨(h3 j (by omega)).2.2.1, (h3 j (by omega)).2.2.2.1⟩, h5 j (by omega)⟩⟩

end Go.Proofs.YtjkcopgfcafpeaaGreatDoor

/-
  The walk of the reference's Is: is a scheme valid. Conditions: that the scheme lies in memory.
-/
set_option linter.unusedSimpArgs false
set_option linter.unusedVariables false
namespace Go.Proofs.YtjkcopgfcafpeaaGreatDoor
open Go.RowKit Go.Maps

/-- behind the call of Of: a variable with the sort, one that says whether there is one -/
def CutI (Wb : World) (S : T) (B : Bool) (v9 v10 : Value) (W : World) : Prop := ∃ (b : Nat) (q : Option Addr) (c : Nat), v9 = .pointer (some ⟨b, 0, none⟩) ∧ v10 = .bool B ∧ W.heap[b]? = some (.cells #[.slice q S.len c] 47 (0, 0)) ∧ Below Wb.heap.size Wb W

theorem cutI_new {Wb W : World} {S : T} {B : Bool} {q : Option Addr} {c : Nat} (h : Below Wb.heap.size Wb (W.alloc (.cells #[.slice q S.len c] 47))) : CutI Wb S B (.pointer (some ⟨W.heap.size, 0, none⟩)) (.bool B) (W.alloc (.cells #[.slice q S.len c] 47)) :=
  ⟨_, q, c, rfl, rfl, heap_new _ _, h⟩

theorem cutI_set {Wb W : World} {S : T} {B : Bool} {q : Option Addr} {c b : Nat} (hz : W.heap[b]? = some (.cells #[.slice none 0 0] 47 (0, 0))) (h : Below Wb.heap.size Wb (W.setCell ⟨b, 0, none⟩ (.slice q S.len c))) : CutI Wb S B (.pointer (some ⟨b, 0, none⟩)) (.bool B) (W.setCell ⟨b, 0, none⟩ (.slice q S.len c)) :=
  ⟨_, q, c, rfl, rfl, one_setCell hz, h⟩

theorem kept_i {P : Prop} {X w5 : World} {b : Nat} {o : Obj} (hb : Below X.heap.size X w5) (h : X.heap[b]? = some o) (k : w5.heap[b]? = some o → P) : P := k (box3_later hb h)

theorem h5_next {Wb W W' : World} {sb fb : Nat} {u1 u2 u3 u4 u5 : Value} (hb : Below W.heap.size W W') (h : W.cell? ⟨sb, 0, none⟩ = some u1 ∧ W.cell? ⟨sb, 1, none⟩ = some u2 ∧ W.cell? ⟨fb, 2, none⟩ = some u3 ∧ W.cell? ⟨fb, 2 + 1, none⟩ = some u4 ∧ W.cell? ⟨fb, 2 + 2, none⟩ = some u5 ∧ Below Wb.heap.size Wb W) :
    W'.cell? ⟨sb, 0, none⟩ = some u1 ∧ W'.cell? ⟨sb, 1, none⟩ = some u2 ∧ W'.cell? ⟨fb, 2, none⟩ = some u3 ∧ W'.cell? ⟨fb, 2 + 1, none⟩ = some u4 ∧ W'.cell? ⟨fb, 2 + 2, none⟩ = some u5 ∧ Below Wb.heap.size Wb W' := by
  obtain ⟨h1, h2, h3, h4, h5, h6⟩ := h
  have hk := (bcell hb).1
  exact ⟨(hk _ _ (lt_of_cell h1)).trans h1, (hk _ _ (lt_of_cell h2)).trans h2, (hk _ _ (lt_of_cell h3)).trans h3, (hk _ _ (lt_of_cell h4)).trans h4, (hk _ _ (lt_of_cell h5)).trans h5, h6.trans (hb.mono h6.size)⟩

theorem h5_alloc {Wb W : World} {sb fb : Nat} {u1 u2 u3 u4 u5 : Value} (o : Obj) (h : W.cell? ⟨sb, 0, none⟩ = some u1 ∧ W.cell? ⟨sb, 1, none⟩ = some u2 ∧ W.cell? ⟨fb, 2, none⟩ = some u3 ∧ W.cell? ⟨fb, 2 + 1, none⟩ = some u4 ∧ W.cell? ⟨fb, 2 + 2, none⟩ = some u5 ∧ Below Wb.heap.size Wb W) :
    (W.alloc o).cell? ⟨sb, 0, none⟩ = some u1 ∧ (W.alloc o).cell? ⟨sb, 1, none⟩ = some u2 ∧ (W.alloc o).cell? ⟨fb, 2, none⟩ = some u3 ∧ (W.alloc o).cell? ⟨fb, 2 + 1, none⟩ = some u4 ∧ (W.alloc o).cell? ⟨fb, 2 + 2, none⟩ = some u5 ∧ Below Wb.heap.size Wb (W.alloc o) :=
  h5_next ((Below.refl _ _).alloc (Nat.le_refl _) o) h

theorem h5_set {Wb W : World} {sb fb b : Nat} {u1 u2 u3 u4 u5 v : Value} (hb : Wb.heap.size ≤ b) (h1 : sb < Wb.heap.size) (h2 : fb < Wb.heap.size) (h : W.cell? ⟨sb, 0, none⟩ = some u1 ∧ W.cell? ⟨sb, 1, none⟩ = some u2 ∧ W.cell? ⟨fb, 2, none⟩ = some u3 ∧ W.cell? ⟨fb, 2 + 1, none⟩ = some u4 ∧ W.cell? ⟨fb, 2 + 2, none⟩ = some u5 ∧ Below Wb.heap.size Wb W) :
    (W.setCell ⟨b, 0, none⟩ v).cell? ⟨sb, 0, none⟩ = some u1 ∧ (W.setCell ⟨b, 0, none⟩ v).cell? ⟨sb, 1, none⟩ = some u2 ∧ (W.setCell ⟨b, 0, none⟩ v).cell? ⟨fb, 2, none⟩ = some u3 ∧ (W.setCell ⟨b, 0, none⟩ v).cell? ⟨fb, 2 + 1, none⟩ = some u4 ∧ (W.setCell ⟨b, 0, none⟩ v).cell? ⟨fb, 2 + 2, none⟩ = some u5 ∧ Below Wb.heap.size Wb (W.setCell ⟨b, 0, none⟩ v) := by
  obtain ⟨g1, g2, g3, g4, g5, g6⟩ := h
  have hk : ∀ k o, k < Wb.heap.size → (W.setCell ⟨b, 0, none⟩ v).cell? ⟨k, o, none⟩ = W.cell? ⟨k, o, none⟩ := fun k o hk => World.cell?_setCell_far _ _ _ _ (show b ≠ k by omega)
  exact ⟨(hk _ _ h1).trans g1, (hk _ _ h1).trans g2, (hk _ _ h2).trans g3, (hk _ _ h2).trans g4, (hk _ _ h2).trans g5, g6.setCell (p := ⟨b, 0, none⟩) hb _⟩

theorem h5_swap {Wb W : World} {sb fb : Nat} {u1 u2 u3 u4 u5 : Value} {z o : Obj} (hle : Wb.heap.size ≤ W.heap.size) (h1 : sb < Wb.heap.size) (h2 : fb < Wb.heap.size) (h : (W.alloc z).cell? ⟨sb, 0, none⟩ = some u1 ∧ (W.alloc z).cell? ⟨sb, 1, none⟩ = some u2 ∧ (W.alloc z).cell? ⟨fb, 2, none⟩ = some u3 ∧ (W.alloc z).cell? ⟨fb, 2 + 1, none⟩ = some u4 ∧ (W.alloc z).cell? ⟨fb, 2 + 2, none⟩ = some u5 ∧ Below Wb.heap.size Wb (W.alloc z)) :
    (W.alloc o).cell? ⟨sb, 0, none⟩ = some u1 ∧ (W.alloc o).cell? ⟨sb, 1, none⟩ = some u2 ∧ (W.alloc o).cell? ⟨fb, 2, none⟩ = some u3 ∧ (W.alloc o).cell? ⟨fb, 2 + 1, none⟩ = some u4 ∧ (W.alloc o).cell? ⟨fb, 2 + 2, none⟩ = some u5 ∧ Below Wb.heap.size Wb (W.alloc o) := by
  obtain ⟨g1, g2, g3, g4, g5, g6⟩ := h
  have hk : ∀ k f, k < Wb.heap.size → (W.alloc o).cell? ⟨k, f, none⟩ = (W.alloc z).cell? ⟨k, f, none⟩ := fun k f hk => (keep_alloc W o k f (by omega)).trans (keep_alloc W z k f (by omega)).symm
  refine ⟨(hk _ _ h1).trans g1, (hk _ _ h1).trans g2, (hk _ _ h2).trans g3, (hk _ _ h2).trans g4, (hk _ _ h2).trans g5, g6.os, g6.tape, g6.output, by simp only [World.size_alloc]; omega, fun k hk => ?_⟩
  rw [← g6.block k hk, Below.heap_alloc _ _ _ (by omega), Below.heap_alloc _ _ _ (by omega)]

theorem h5_bel {Wb W : World} {sb fb : Nat} {u1 u2 u3 u4 u5 : Value} (h : W.cell? ⟨sb, 0, none⟩ = some u1 ∧ W.cell? ⟨sb, 1, none⟩ = some u2 ∧ W.cell? ⟨fb, 2, none⟩ = some u3 ∧ W.cell? ⟨fb, 2 + 1, none⟩ = some u4 ∧ W.cell? ⟨fb, 2 + 2, none⟩ = some u5 ∧ Below Wb.heap.size Wb W) : Below Wb.heap.size Wb W := h.2.2.2.2.2

theorem drew_heap {W : World} {b : Nat} {o : Obj} (h : W.heap[b]? = some o) : W.drew.heap[b]? = some o := h

set_option maxRecDepth 100000 in
set_option maxHeartbeats 8000000 in
theorem refis3_any (x : Sc) (a : At2) (w : World) (h : IsC w x a) :
    Calls Tryz.prog 31 #[.agg #[.slice a.sp a.sn a.sc, .slice a.fp a.fn a.fc]] w fun e w' => e = .returned (.bool (scOk x)) ∧ Below w.heap.size w w' := by
  have hiff := scOk_iff x
  obtain ⟨R, hR⟩ : ∃ R, scOk x = R := ⟨_, rfl⟩
  rw [hR] at hiff ⊢
  clear hR
  have hno : ∀ {P : Prop}, (R = true → P) → ¬ P → R = false := fun h1 h2 => Bool.eq_false_iff.2 fun e => h2 (h1 e)
  obtain ⟨sp, sn, sc, fp, fn, fc⟩ := a
  obtain ⟨hS, hF⟩ := id h
  dsimp only at hS hF ⊢
  obtain rfl : fn = x.F.len := hF.1
  have hcap := hF.2.1
  have hmax := hF.2.2.1
  unfold maxLen at hmax
  have HSY := Lib.hid fun W h => refsymbols_any x.S W sp sn sc h
  have hbx := heap_new w (.cells #[.slice sp sn sc, .slice fp x.F.len fc] 25)
  obtain ⟨s1, s2⟩ := two_cells hbx
  have HI := Lib.hid hiff
  have HF := Lib.hid hF
  have HSS := Lib.hid hS
  have HX := Lib.hid hbx
  have HC := Lib.hid h
  clear hS hF h hbx hiff
  go_enter Tryz.func31, Tryz.ntmps31
  go_wp2_with fail
  refine (HSY.out _ (HSS.out.alloc _)).mono ?_
  rintro e w1 ⟨rfl, hb1⟩
  have B1 := below_call hb1
  have hb2 := box3_later hb1 HX.out
  clear s1 s2
  obtain ⟨s1, s2⟩ := two_cells hb2
  have HB1 := Lib.hid (And.intro B1 hb2)
  clear B1 hb1 hb2 HSY HX
  cases hsy : symsOk x.S with
  | false =>
    have hRf : R = false := hno (fun e => (HI.out.1 e).1) (by rw [hsy]; decide)
    clear HI
    go_wp2_with fail
    go_ret
    exact ⟨by rw [hRf]; rfl, HB1.out.1⟩
  | true =>
    by_cases hl0 : x.F.len = 0
    · have hRf : R = false := hno (fun e => (HI.out.1 e).2.1) (by omega)
      have hd : decide ((x.F.len : Int) < 1) = true := by simp; omega
      clear HI hsy
      go_wp2_with fail
      go_ret
      exact ⟨by rw [hRf]; rfl, HB1.out.1⟩
    · have hd : decide ((x.F.len : Int) < 1) = false := by rw [decide_eq_false_iff_not]; omega
      by_cases h64 : x.F.len ≤ 64
      · have hd2 : decide ((64 : Int) < (x.F.len : Int)) = false := by rw [decide_eq_false_iff_not]; omega
        have hlen : 0 < x.F.len := by omega
        obtain ⟨b0, off, rfl, _⟩ := rowF_all HF.out hlen
        have hr : RowF w x.F b0 off := by
          rcases HF.out.2.2.2.2 with h | ⟨b', off', e, hr⟩
          · omega
          · injection e with e
            injection e with e1 e2
            subst e1 e2
            exact hr
        have HR := Lib.hid hr
        have HY := Lib.hid hsy
        clear hsy hr
        go_wp2_with fail
        go_loopw [30] (fun v wr => ∃ j : Nat, j ≤ x.F.len ∧ v = .int .i64 (j : Int) ∧ (∀ i, i < j → fnOk x i) ∧ Below w.heap.size w wr ∧ wr.heap[w.heap.size]? = some (.cells #[.slice sp sn sc, .slice (some ⟨b0, off, none⟩) x.F.len fc] 25 (0, 0)))
          (fun v _ => x.F.len - (Go.RowKit.intOf v).toNat)
        case atStart => exact ⟨0, Nat.zero_le _, rfl, fun i h => absurd h (Nat.not_lt_zero _), HB1.out⟩
        case round =>
          clear s1 s2 HB1
          obtain ⟨j, hj, rfl, hfn, hB, hsb⟩ := hrel
          have HFN := Lib.hid hfn
          have HB := Lib.hid (And.intro hB hsb)
          clear hfn hB hsb
          by_cases hlt : j < x.F.len
          · obtain ⟨p', n', c', q', m', d', e1, e2, e3, e4, e5, e6, e7⟩ := HR.out j hlt
            have hkk := (bcell HB.out.1).1
            have f1 := (hkk _ _ (lt_of_cell e1)).trans e1
            have f2 := (hkk _ _ (lt_of_cell e2)).trans e2
            have f3 := (hkk _ _ (lt_of_cell e3)).trans e3
            have f4 := (hkk _ _ (lt_of_cell e4)).trans e4
            have f5 := (hkk _ _ (lt_of_cell e5)).trans e5
            have hBO : ∀ o, Below w.heap.size w (wr.alloc o) := fun o => HB.out.1.alloc HB.out.1.size o
            have HT := Lib.hid fun W (hb : Below w.heap.size w W) => is_any (x.F.st j) W p' n' c' (e6.below hb)
            have HN := Lib.hid fun W (hb : Below w.heap.size w W) => tnodes_any ((x.F.bt j).sz + 1) (x.F.bt j) (x.F.bk j) (x.F.bn j) W q' m' d' 400 (Nat.lt_succ_self _) (by decide) (by decide) (e7.below hb)
            have HD := Lib.hid fun W (hb : Below w.heap.size w W) (hz : (x.F.bt j).sz < 100000) => tdepth_any ((x.F.bt j).sz + 1) (x.F.bt j) (x.F.bk j) (x.F.bn j) W q' m' d' (Nat.lt_succ_self _) hz (e7.below hb)
            have HFJ := Lib.hid (fun e => (HI.out.1 e).2.2.2.1 j hlt)
            have HNM := Lib.hid fun W => name_any (x.F.nm j) W
            have hfx := heap_new wr (.cells #[.string (x.F.nm j), .slice p' n' c', .int .i64 (x.F.bk j), .int .i64 (x.F.bn j), .slice q' m' d'] 52)
            have hsx := alloc_kept HB.out.2 (.cells #[.string (x.F.nm j), .slice p' n' c', .int .i64 (x.F.bk j), .int .i64 (x.F.bn j), .slice q' m' d'] 52)
            have HFX := Lib.hid (And.intro hfx (And.intro hsx (hBO (.cells #[.string (x.F.nm j), .slice p' n' c', .int .i64 (x.F.bk j), .int .i64 (x.F.bn j), .slice q' m' d'] 52))))
            clear hkk e1 e2 e3 e4 e5 e6 e7 hfx hsx hBO
            go_wp2_with fail
            refine (HNM.out _).mono ?_
            rintro e w2 ⟨rfl, rfl⟩
            obtain ⟨y1, y2, y3, y4, y5⟩ := fun_box HFX.out.1
            cases hnm : nm (x.F.nm j) with
            | false =>
              have hRf : R = false := hno (fun e => (HFJ.out e).1) (by rw [hnm]; decide)
              go_wp2_with fail
              go_ret
              exact ⟨by rw [hRf]; rfl, HFX.out.2.2⟩
            | true =>
              go_wp2_with fail
              refine (HT.out _ HFX.out.2.2).mono ?_
              rintro e w3 ⟨rfl, hb3⟩
              have h3 := Lib.hid (And.intro (box3_later hb3 HFX.out.1) (And.intro (box3_later hb3 HFX.out.2.1) (HFX.out.2.2.trans (hb3.mono HFX.out.2.2.size))))
              clear hb3 HFX y1 y2 y3 y4 y5
              obtain ⟨y1, y2, y3, y4, y5⟩ := fun_box h3.out.1
              cases hva : (x.F.st j).valid with
              | false =>
                have hRf : R = false := hno (fun e => (HFJ.out e).2.1) (by rw [hva]; decide)
                go_wp2_with fail
                go_ret
                exact ⟨by rw [hRf]; rfl, h3.out.2.2⟩
              | true =>
                go_wp2_with fail
                refine (HN.out _ h3.out.2.2).mono ?_
                rintro e w4 ⟨rfl, hb4⟩
                have h4 := Lib.hid (And.intro (box3_later hb4 h3.out.1) (And.intro (box3_later hb4 h3.out.2.1) (h3.out.2.2.trans (hb4.mono h3.out.2.2.size))))
                clear hb4 h3 y1 y2 y3 y4 y5
                obtain ⟨y1, y2, y3, y4, y5⟩ := fun_box h4.out.1
                by_cases hsz : (x.F.bt j).sz + 1 ≤ 400
                · have hd3 : decide ((400 : Int) < ((min (1 + (x.F.bt j).sz) ((400 : Int).toNat + 1) : Nat) : Int)) = false := by rw [decide_eq_false_iff_not, show (400 : Int).toNat = 400 from rfl]; omega
                  have hH := HD.out
                  generalize ((min (1 + (x.F.bt j).sz) ((400 : Int).toNat + 1) : Nat) : Int) = zz at hd3 ⊢
                  have HH := Lib.hid hH
                  clear hH HD HN HT
                  go_wp2_with fail
                  refine (HH.out _ h4.out.2.2 (by omega)).mono ?_
                  rintro e w5 ⟨rfl, hb5⟩
                  have h5 := Lib.hid (And.intro (box3_later hb5 h4.out.1) (And.intro (box3_later hb5 h4.out.2.1) (h4.out.2.2.trans (hb5.mono h4.out.2.2.size))))
                  clear hb5 h4 y1 y2 y3 y4 y5 HH
                  by_cases hdp : (x.F.bt j).dep + 1 ≤ 30
                  · have hd4 : decide ((30 : Int) < (((x.F.bt j).dep + 1 : Nat) : Int)) = false := by rw [decide_eq_false_iff_not]; omega
                    generalize (((x.F.bt j).dep + 1 : Nat) : Int) = zz2 at hd4 ⊢
                    obtain ⟨v1, v2⟩ := two_cells h5.out.2.1
                    have hj0 : (0 : Int) ≤ (j : Int) := by omega
                    have hjc : (j : Int) ≤ (fc : Int) := by omega
                    go_wp2_with fail
                    clear v1 v2 f1 f2 f3 f4 f5
                    have hbl : wr.heap.size < w5.heap.size := lt_of_block h5.out.1
                    generalize hfb : wr.heap.size = fb at h5 ⊢
                    have HB5 := h5
                    clear h5 hfb
                    generalize hnj : x.F.nm j = s at HB5 HFJ ⊢
                    have HNJ := Lib.hid hnj
                    have HVA := Lib.hid (And.intro hnm (And.intro hva (And.intro hsz hdp)))
                    have HRj := Lib.hid fun i (hi : i < j) => HR.out i (by omega)
                    clear hnj hnm hva hsz hdp hd3 hd4 hbl
                    generalize x.F.bk j = bkj at HB5 ⊢
                    generalize x.F.bn j = bnj at HB5 ⊢
                    go_loopw [62] (fun v wi => ∃ i : Nat, i ≤ j ∧ v = .int .i64 (i : Int) ∧ (∀ i', i' < i → x.F.nm i' ≠ s) ∧ wi.heap[fb]? = some (.cells #[.string s, .slice p' n' c', .int .i64 bkj, .int .i64 bnj, .slice q' m' d'] 52 (0, 0)) ∧ wi.heap[w.heap.size]? = some (.cells #[.slice sp sn sc, .slice (some ⟨b0, off, none⟩) x.F.len fc] 25 (0, 0)) ∧ Below w.heap.size w wi)
                      (fun v _ => j - (Go.RowKit.intOf v).toNat)
                    case atStart => exact ⟨0, Nat.zero_le _, rfl, fun i h => absurd h (Nat.not_lt_zero _), HB5.out⟩
                    case round =>
                      clear HB5
                      obtain ⟨i, hi, rfl, hne, hfx, hsx, hbi⟩ := hrel
                      have HNE := Lib.hid hne
                      have HWI := Lib.hid (And.intro hfx (And.intro hsx hbi))
                      clear hne hfx hsx hbi
                      by_cases hlt2 : i < j
                      · obtain ⟨p2, n2, c2, q3, m2, d2, e1, e2, e3, e4, e5, _, _⟩ := HRj.out i hlt2
                        have hkk := (bcell HWI.out.2.2).1
                        have f1 := (hkk _ _ (lt_of_cell e1)).trans e1
                        have f2 := (hkk _ _ (lt_of_cell e2)).trans e2
                        have f3 := (hkk _ _ (lt_of_cell e3)).trans e3
                        have f4 := (hkk _ _ (lt_of_cell e4)).trans e4
                        have f5 := (hkk _ _ (lt_of_cell e5)).trans e5
                        have y1 : ∀ o, (wr.alloc o).cell? ⟨fb, 0, none⟩ = some (.string s) := fun o => (fun_box (alloc_kept HWI.out.1 o)).1
                        have hb4 := fun o => HWI.out.2.2.alloc HWI.out.2.2.size o
                        have HB4 := Lib.hid hb4
                        clear hkk e1 e2 e3 e4 e5 hb4
                        by_cases he : x.F.nm i = s
                        · have hRf : R = false := hno (fun e => (HFJ.out e).2.2.2.2 i hlt2) (by rw [HNJ.out]; exact fun h => h he)
                          have hd1 : (s.toList == (x.F.nm i).toList) = true := by simp [he]
                          generalize x.F.nm i = t at f1 hd1
                          generalize x.F.bk i = bki at f3
                          generalize x.F.bn i = bni at f4
                          go_wp2_with fail
                          go_ret
                          exact ⟨by first | rfl | (rw [hRf]; rfl), HB4.out _⟩
                        · have hd1 : (s.toList == (x.F.nm i).toList) = false := by
                            rw [beq_eq_false_iff_ne]
                            exact fun h => he (toList_inj h).symm
                          have hne2 : ∀ i', i' < i + 1 → x.F.nm i' ≠ s := by
                            intro i' hi'
                            by_cases hkk : i' = i
                            · subst hkk; exact he
                            · exact HNE.out i' (by omega)
                          have HNE2 := Lib.hid hne2
                          clear he HNE hne2
                          generalize x.F.nm i = t at f1 hd1
                          generalize x.F.bk i = bki at f3
                          generalize x.F.bn i = bni at f4
                          go_wp2_with fail
                          go_roundw
                          case rel => exact ⟨i + 1, by omega, by go_num, HNE2.out, alloc_kept HWI.out.1 _, alloc_kept HWI.out.2.1 _, HB4.out _⟩
                          case measure => simp [intOf]; omega
                      · obtain rfl : i = j := by omega
                        have hfj : fnOk x i := ⟨HVA.out.1, HVA.out.2.1, HVA.out.2.2.1, HVA.out.2.2.2, by rw [HNJ.out]; exact HNE.out⟩
                        have hall : ∀ k, k < i + 1 → fnOk x k := fun k hk => by
                          by_cases hki : k = i
                          · rw [hki]; exact hfj
                          · exact HFN.out k (by omega)
                        have HALL := Lib.hid hall
                        clear hall hfj HNE HVA HNJ HFN
                        go_wp2_with fail
                        go_roundw
                        case rel => exact ⟨i + 1, by omega, by go_num, HALL.out, HWI.out.2.2, HWI.out.2.1⟩
                        case measure => simp [intOf]; omega
                  · have hRf : R = false := hno (fun e => (HFJ.out e).2.2.2.1) hdp
                    have hd4 : decide ((30 : Int) < (((x.F.bt j).dep + 1 : Nat) : Int)) = true := by rw [decide_eq_true_eq]; omega
                    generalize (((x.F.bt j).dep + 1 : Nat) : Int) = zz2 at hd4 ⊢
                    go_wp2_with fail
                    go_ret
                    exact ⟨by rw [hRf]; rfl, h5.out.2.2⟩
                · have hRf : R = false := hno (fun e => (HFJ.out e).2.2.1) hsz
                  have hd3 : decide ((400 : Int) < ((min (1 + (x.F.bt j).sz) ((400 : Int).toNat + 1) : Nat) : Int)) = true := by rw [decide_eq_true_eq, show (400 : Int).toNat = 400 from rfl]; omega
                  generalize ((min (1 + (x.F.bt j).sz) ((400 : Int).toNat + 1) : Nat) : Int) = zz at hd3 ⊢
                  go_wp2_with fail
                  go_ret
                  exact ⟨by rw [hRf]; rfl, h4.out.2.2⟩
          · obtain rfl : j = x.F.len := by omega
            obtain ⟨p0, n0, c0, q0, m0, d0, _, e2, _, _, _, e6, _⟩ := HR.out 0 hlen
            obtain rfl : n0 = (x.F.st 0).len := e6.1
            have g3 : wr.cell? ⟨b0, off + 1, none⟩ = some (.slice p0 (x.F.st 0).len c0) := by
              have := ((bcell HB.out.1).1 _ _ (lt_of_cell e2)).trans e2
              simpa using this
            obtain ⟨v1, v2⟩ := two_cells HB.out.2
            have hli : (0 : Int) < (x.F.len : Int) := by omega
            clear e2 e6
            by_cases hs0 : (x.F.st 0).len = 0
            · have HS0 := Lib.hid hs0
              rw [hs0] at g3
              clear hs0
              go_wp2_with fail
              clear v1 v2
              go_loopw [84] (fun v wr => ∃ j : Nat, j ≤ x.F.len ∧ v = .int .i64 (j : Int) ∧ (∀ i, i < j → bdOk x i) ∧ Below w.heap.size w wr ∧ wr.heap[w.heap.size]? = some (.cells #[.slice sp sn sc, .slice (some ⟨b0, off, none⟩) x.F.len fc] 25 (0, 0)))
                (fun v _ => x.F.len - (Go.RowKit.intOf v).toNat)
              case atStart => exact ⟨0, Nat.zero_le _, rfl, fun i h => absurd h (Nat.not_lt_zero _), HB.out⟩
              case round =>
                clear HB g3
                obtain ⟨j, hj, rfl, hbd, hB, hsb⟩ := hrel
                have HBD := Lib.hid hbd
                have HB := Lib.hid (And.intro hB hsb)
                clear hbd hB hsb
                by_cases hlt3 : j < x.F.len
                · obtain ⟨p', n', c', q', m', d', e1, e2, e3, e4, e5, e6, e7⟩ := HR.out j hlt3
                  have hkk := (bcell HB.out.1).1
                  have f1 := (hkk _ _ (lt_of_cell e1)).trans e1
                  have f2 := (hkk _ _ (lt_of_cell e2)).trans e2
                  have f3 := (hkk _ _ (lt_of_cell e3)).trans e3
                  have f4 := (hkk _ _ (lt_of_cell e4)).trans e4
                  have f5 := (hkk _ _ (lt_of_cell e5)).trans e5
                  have hpl := plOk_at HY.out h64 (fun i hi => (HFN.out i hi).2.1) (x.F.st j) (Or.inl (HFN.out j hlt3).2.1)
                  have hszj := (HFN.out j hlt3).2.2.1
                  obtain ⟨S2, B2, hof⟩ : ∃ S2 B2, ofR (x.pl (x.F.st j)) (x.F.bk j) (x.F.bn j) (x.F.bt j) = (S2, B2) := ⟨_, _, rfl⟩
                  have HPL := Lib.hid fun W (hb : Below w.heap.size w W) => refplace_any x ⟨sp, sn, sc, some ⟨b0, off, none⟩, x.F.len, fc⟩ j W (HC.out.below hb) hlt3 h64
                  have hOF := fun W aa (h : IsP W (x.pl (x.F.st j)) aa) (hb : Below w.heap.size w W) => refof_any (x.pl (x.F.st j)) aa hpl W ((x.F.bt j).sz + 1) (x.F.bk j) (x.F.bn j) (x.F.bt j) W q' m' d' (Nat.lt_succ_self _) ⟨h, Nat.le_refl _, fun _ _ => rfl⟩ (e7.below hb) (by omega)
                  rw [hof] at hOF
                  have HOF := Lib.hid hOF
                  have hbj : bdOk x j ↔ B2 = true ∧ S2.len = 0 := by unfold bdOk; rw [hof]
                  have HBJ := Lib.hid hbj
                  have HFJ := Lib.hid (fun e => (HI.out.1 e).2.2.2.2.2 j hlt3)
                  clear hkk e1 e2 e3 e4 e5 e6 e7 hOF hof hbj hpl hszj
                  generalize x.F.nm j = s at f1
                  generalize x.F.bk j = bkj at f3 HOF
                  generalize x.F.bn j = bnj at f4 HOF
                  go_upto_region 20 with fail
                  have hfx := heap_new wr (.cells #[.string s, .slice p' n' c', .int .i64 bkj, .int .i64 bnj, .slice q' m' d'] 52)
                  have hsx := alloc_kept HB.out.2 (.cells #[.string s, .slice p' n' c', .int .i64 bkj, .int .i64 bnj, .slice q' m' d'] 52)
                  have hbw := HB.out.1.alloc HB.out.1.size (.cells #[.string s, .slice p' n' c', .int .i64 bkj, .int .i64 bnj, .slice q' m' d'] 52)
                  generalize wr.alloc (.cells #[.string s, .slice p' n' c', .int .i64 bkj, .int .i64 bnj, .slice q' m' d'] 52) = Wb at hfx hsx hbw ⊢
                  generalize wr.heap.size = fb at hfx ⊢
                  clear f1 f2 f3 f4 f5
                  have hfb := lt_of_block hfx
                  have hsb := lt_of_block hsx
                  have K0 : Wb.drew.cell? ⟨w.heap.size, 0, none⟩ = some (.slice sp sn sc) ∧ Wb.drew.cell? ⟨w.heap.size, 1, none⟩ = some (.slice (some ⟨b0, off, none⟩) x.F.len fc) ∧ Wb.drew.cell? ⟨fb, 2, none⟩ = some (.int .i64 bkj) ∧ Wb.drew.cell? ⟨fb, 2 + 1, none⟩ = some (.int .i64 bnj) ∧ Wb.drew.cell? ⟨fb, 2 + 2, none⟩ = some (.slice q' m' d') ∧ Below Wb.heap.size Wb Wb.drew :=
                    ⟨(two_box hsx).1.1, (two_box hsx).1.2, (fun_box hfx).2.2.1, (fun_box hfx).2.2.2.1, (fun_box hfx).2.2.2.2, (Below.refl _ _).drew⟩
                  have HW := Lib.hid (And.intro hfx (And.intro hsx hbw))
                  clear hfx hsx hbw HB
                  go_cut [9, 10] from 90 to 98 (fun v9 v10 wx => CutI Wb S2 B2 v9 v10 wx)
                  case first =>
                    go_region_held3 (fun W => W.cell? ⟨w.heap.size, 0, none⟩ = some (.slice sp sn sc) ∧ W.cell? ⟨w.heap.size, 1, none⟩ = some (.slice (some ⟨b0, off, none⟩) x.F.len fc) ∧ W.cell? ⟨fb, 2, none⟩ = some (.int .i64 bkj) ∧ W.cell? ⟨fb, 2 + 1, none⟩ = some (.int .i64 bnj) ∧ W.cell? ⟨fb, 2 + 2, none⟩ = some (.slice q' m' d') ∧ Below Wb.heap.size Wb W)
                      (first | with_reducible exact K0 | ((with_reducible refine h5_alloc _ ?_); assumption) | ((with_reducible refine h5_set ?_ hsb hfb ?_); (first | exact Nat.le_refl _ | exact hb3.size); assumption) | (refine h5_swap (W := w4) (z := .cells #[.slice none 0 0] 47) (Nat.le_trans hb3.size hb4.size) hsb hfb ?_; assumption) | (refine h5_next hb4 ?_; assumption) | (refine h5_next hb3 ?_; assumption) | exact h5_alloc (.cells #[.slice none 0 0] 47) K0)
                      (first
                      | (go_at_call 67; refine (HPL.out _ (HW.out.2.2.trans ((h5_bel (by assumption)).mono HW.out.2.2.size))).mono ?_; rintro e w3 ⟨qq, cc, pp, pn, pc, rfl, hP3, hb3⟩;
                          first
                          | (refine use_kept (b := Wb.heap.size) (o := .cells #[.slice none 0 0] 47) hb3 ?_ ?_; (repeat (first | (refine heap_new_eq ?_; (solve | with_reducible rfl | simp only [World.size_alloc])) | refine alloc_kept ?_ _)); intro hz6; have g1 := cell_box hz6; have g2 := free_of_one hz6)
                          | (have hz6 := True.intro))
                      | (go_at_call 66; refine Calls.mono (HOF.out _ ⟨sp, sn, sc, qq, x.F.len, cc, pp, pn, pc⟩ ?_ ?_) ?_; (repeat (first | exact hP3 | refine IsP.alloc ?_ _)); exact HW.out.2.2.trans ((h5_bel (by assumption)).mono HW.out.2.2.size); rintro e w4 ⟨q2, c2, rfl, _, hb4⟩;
                          first
                          | (refine kept_i (b := w3.heap.size) (o := .cells #[.slice none 0 0] 47) hb4 ?_ ?_; (repeat (first | (refine heap_new_eq ?_; (solve | with_reducible rfl | simp only [World.size_alloc])) | refine alloc_kept ?_ _)); intro hz7; have g3 := cell_box hz7; have g4 := free_of_one hz7)
                          | (refine kept_i (b := Wb.heap.size) (o := .cells #[.slice none 0 0] 47) hb4 ?_ ?_; exact hz6; intro hz7; have g3 := cell_box hz7; have g4 := free_of_one hz7)
                          | (have hz7 := True.intro)))
                    all_goals
                      go_wp2_with fail
                      go_meet
                      case rel =>
                        first
                        | exact cutI_new (h5_bel (by assumption))
                        | exact cutI_set hz7 (h5_bel (by assumption))
                  case rest =>
                    obtain ⟨b9, q9, c9, rfl, rfl, hz9, hbl9⟩ := hcut
                    have B9 : Below w.heap.size w wc := HW.out.2.2.trans (hbl9.mono HW.out.2.2.size)
                    have sb9 := (hbl9.block _ (lt_of_block HW.out.2.1)).trans HW.out.2.1
                    have k9 := cell_box hz9
                    have HZ := Lib.hid (And.intro B9 sb9)
                    clear K0 HPL HOF hz9 hbl9 B9 sb9 HW
                    cases B2 with
                    | false =>
                      have hRf : R = false := hno (fun e => (HBJ.out.1 (HFJ.out e)).1) (by decide)
                      go_wp2_with fail
                      go_ret
                      exact ⟨by first | rfl | (rw [hRf]; rfl), HZ.out.1⟩
                    | true =>
                      by_cases hs2 : S2.len = 0
                      · have hbdj : bdOk x j := HBJ.out.2 ⟨rfl, hs2⟩
                        rw [hs2] at k9
                        have hall : ∀ i, i < j + 1 → bdOk x i := fun i hi => by
                          by_cases hij : i = j
                          · rw [hij]; exact hbdj
                          · exact HBD.out i (by omega)
                        have HALL := Lib.hid hall
                        clear hall hbdj HBJ HFJ HBD hs2
                        go_wp2_with fail
                        go_roundw
                        case rel => exact ⟨j + 1, by omega, by go_num, HALL.out, HZ.out⟩
                        case measure => simp [intOf]; omega
                      · have hRf : R = false := hno (fun e => (HBJ.out.1 (HFJ.out e)).2) hs2
                        obtain ⟨zz, hzz⟩ : ∃ zz, S2.len = zz + 1 := ⟨S2.len - 1, by omega⟩
                        rw [hzz] at k9
                        clear hs2 hzz HBJ HFJ
                        go_wp2_with fail
                        go_ret
                        exact ⟨by first | rfl | (rw [hRf]; rfl), HZ.out.1⟩
                · have hRt : R = true := HI.out.2 ⟨HY.out, hlen, h64, fun i hi => HFN.out i hi, HS0.out, fun i hi => HBD.out i (by omega)⟩
                  go_wp2_with fail
                  go_ret
                  exact ⟨by first | rfl | (rw [hRt]; rfl), HB.out.1⟩
            · have hRf : R = false := hno (fun e => (HI.out.1 e).2.2.2.2.1) hs0
              obtain ⟨zz, hzz⟩ : ∃ zz, (x.F.st 0).len = zz + 1 := ⟨(x.F.st 0).len - 1, by omega⟩
              rw [hzz] at g3
              clear hs0 hzz
              go_wp2_with fail
              go_ret
              exact ⟨by first | rfl | (rw [hRf]; rfl), HB.out.1⟩
      · have hRf : R = false := hno (fun e => (HI.out.1 e).2.2.1) h64
        have hd2 : decide ((64 : Int) < (x.F.len : Int)) = true := by simp; omega
        clear HI hsy
        go_wp2_with fail
        go_ret
        exact ⟨by rw [hRf]; rfl, HB1.out.1⟩

end Go.Proofs.YtjkcopgfcafpeaaGreatDoor

