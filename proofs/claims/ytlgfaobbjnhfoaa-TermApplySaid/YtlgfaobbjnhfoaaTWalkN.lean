/-
  The walks of head and rest. Conditions: the place is one in memory, its symbols good.
-/
import Derived.Test.YtlgfaobbjnhfoaaTWalkM
import Derived.Test.YtlgfaobbjnhfoaaTWalkJ
set_option linter.unusedSimpArgs false
set_option linter.unusedVariables false
namespace Go.Proofs.Ytlgfaobbjnhfoaa
open Go.RowKit

/-- n times the sort o -/
def repT : Nat → T
  | 0 => .nil
  | n + 1 => .cons .nil (repT n)

theorem repT_len (n : Nat) : (repT n).len = n := by
  induction n with
  | zero => rfl
  | succ n ih => simp only [repT, T.len, ih]

theorem row_rep {w : World} {b : Nat} (r : Nat) : ∀ {off : Nat}, (∀ i, i < r → w.cell? ⟨b, off + i, none⟩ = some (.slice none 0 0)) → Row w (repT r) b off := by
  induction r with
  | zero => intro _ _; trivial
  | succ r ih =>
    intro off h
    refine ⟨⟨none, 0, h 0 (Nat.succ_pos _), Nat.le_refl _, by simp [maxLen], fun _ => rfl, Or.inl rfl⟩, ih fun i hi => ?_⟩
    rw [show off + 1 + i = off + (i + 1) by omega]
    exact h (i + 1) (by omega)

/-- the sort of a head, if there is one -/
def hdT (x : Pl) (k n : Int) : T × Bool :=
  if n < 0 then (.nil, false)
  else if k = 0 then (if n < x.P.len then (x.P.get n.toNat, true) else (.nil, false))
  else if k = 1 then (if n < x.F.len then (x.F.get n.toNat, true) else (.nil, false))
  else if k = 2 then (if n < x.S.len then (repT (x.S.rk n.toNat).toNat, true) else (.nil, false))
  else (.nil, false)

theorem symFrom_at (S : Sy) : ∀ (m i : Nat), symFrom S m i = true → ∀ j, i ≤ j → j < i + m → symOk S j = true := by
  intro m
  induction m with
  | zero => intro i _ j h1 h2; omega
  | succ m ih =>
    intro i h j h1 h2
    simp only [symFrom, Bool.and_eq_true] at h
    by_cases he : j = i
    · rw [he]; exact h.1
    · exact ih (i + 1) h.2 j (by omega) (by omega)

theorem symsOk_rank {S : Sy} (h : symsOk S = true) {i : Nat} (hi : i < S.len) : 0 ≤ S.rk i ∧ S.rk i ≤ 4 := by
  simp only [symsOk, Bool.and_eq_true] at h
  have := symFrom_at S S.len 0 h.2 i (Nat.zero_le _) (by omega)
  simp only [symOk, Bool.and_eq_true, Bool.not_eq_true', decide_eq_false_iff_not] at this
  omega

/-- three blocks more -/
theorem keep3 (w : World) (x y z : Obj) (b o : Nat) (h : b < w.heap.size) : (((w.alloc x).alloc y).alloc z).cell? ⟨b, o, none⟩ = w.cell? ⟨b, o, none⟩ := by
  rw [keep_alloc _ _ _ _ (by simp only [World.size_alloc]; omega), keep_alloc _ _ _ _ (by simp only [World.size_alloc]; omega), keep_alloc _ _ _ _ h]

theorem below3 (w : World) (x y z : Obj) : Below w.heap.size w (((w.alloc x).alloc y).alloc z) := (((Below.refl w.heap.size w).alloc (Nat.le_refl _) x).alloc (by simp) y).alloc (by simp; omega) z

/-- the place lay in an earlier world, whose blocks are as they were -/
structure Holds (w0 : World) (x : Pl) (a : At3) (w : World) : Prop where
  isP : IsP w0 x a
  le : w0.heap.size ≤ w.heap.size
  old : ∀ j, j < w0.heap.size → w.heap[j]? = w0.heap[j]?

theorem Holds.below {w0 w w' : World} {x : Pl} {a : At3} (h : Holds w0 x a w) (hb : Below w.heap.size w w') : Holds w0 x a w' :=
  ⟨h.isP, Nat.le_trans h.le hb.size, fun j hj => (hb.block j (Nat.lt_of_lt_of_le hj h.le)).trans (h.old j hj)⟩

theorem Holds.alloc {w0 w : World} {x : Pl} {a : At3} (h : Holds w0 x a w) (o : Obj) : Holds w0 x a (w.alloc o) := h.below ((Below.refl _ _).alloc (Nat.le_refl _) _)

theorem Holds.cell {w0 w : World} {x : Pl} {a : At3} (h : Holds w0 x a w) {b o : Nat} {v : Value} (hc : w0.cell? ⟨b, o, none⟩ = some v) : w.cell? ⟨b, o, none⟩ = some v ∧ b < w.heap.size := by
  have hlt := lt_of_cell hc
  exact ⟨(World.cell?_of_block (h.old b hlt)).trans hc, Nat.lt_of_lt_of_le hlt h.le⟩

/-- whatever comes later that keeps the old place and all that is new keeps the sort -/
def Stays (w0 W w' : World) (t : T) (q : Option Addr) (c : Nat) : Prop := ∀ w'' : World, (∀ j, (j < w0.heap.size ∨ W.heap.size ≤ j) → j < w'.heap.size → w''.heap[j]? = w'.heap[j]?) → IsT w'' t q t.len c

theorem Stays.isT {w0 W w' w'' : World} {t : T} {q : Option Addr} {c : Nat} (h : Stays w0 W w' t q c) (hb : Below w'.heap.size w' w'') : IsT w'' t q t.len c := h w'' fun j _ hj => hb.block j hj

theorem Stays.here {w0 W w' : World} {t : T} {q : Option Addr} {c : Nat} (h : Stays w0 W w' t q c) : IsT w' t q t.len c := h w' fun _ _ _ => rfl

theorem stays_old {w0 w w' : World} {x : Pl} {a : At3} (hH : Holds w0 x a w) (hb : Below w.heap.size w w') {t : T} {p : Option Addr} {cap : Nat} (hit : IsT w0 t p t.len cap) : Stays w0 w w' t p cap := by
  intro w'' hw
  refine hit.keep fun b o hlt => World.cell?_of_block ?_
  rw [hw b (Or.inl hlt) (Nat.lt_of_lt_of_le (Nat.lt_of_lt_of_le hlt hH.le) hb.size), hb.block b (Nat.lt_of_lt_of_le hlt hH.le), hH.old b hlt]

/-- a sort, and whether there is one -/
def Gives (w0 : World) (h : T) (ok : Bool) (W : World) (e : Ending) (w' : World) : Prop := ∃ q c, e = .returned (.tuple #[.agg #[.slice q h.len c], .bool ok]) ∧ Stays w0 W w' h q c ∧ Below W.heap.size W w'

theorem isT_nil (w : World) : IsT w .nil none 0 0 := ⟨rfl, Nat.le_refl _, by simp [maxLen], fun _ => rfl, Or.inl rfl⟩

theorem stays_nil (w0 W w' : World) : Stays w0 W w' .nil none 0 := fun w'' _ => isT_nil w''

theorem infoO : (Try.prog.info? 40).map (fun i => (i.zero, i.size, i.bytes)) = some (some (.agg #[.slice none 0 0]), 1, 24) := by kernel_rfl

theorem run_make_sorts (r : Nat) (hr : r ≤ 4) (w : World) : (Instr.makeSlice 23 (.int .i64 (r : Int)) (.int .i64 (r : Int))).run Try.prog w = .ok (.slice (some ⟨w.heap.size, 0, none⟩) r r) (w.alloc (.cells (madeCells #[.slice none 0 0] r) 40)) := by
  obtain ⟨i0, hi0, hz0, hz1, hz2⟩ := info_parts infoO
  have h := run_make (P := Try.prog) w 23 40 i0 (.agg #[.slice none 0 0]) Try.underlying23 hi0 hz0 .i64 .i64 r r (by omega) (Int.le_refl _) (by rw [hz2]; omega) (by omega)
  simp only [Int.toNat_natCast, hz1, Nat.mul_one] at h
  exact h

theorem madeCells_at (z : Value) (r i : Nat) (h : i < r) : (madeCells #[z] r)[i]? = some z := by
  simp [madeCells, h, Nat.mod_one]

theorem isT_made {W : World} {B r : Nat} {ty : TypeId} (h : W.heap[B]? = some (.cells (madeCells #[.slice none 0 0] r) ty (0, 0))) (hr : r ≤ 4 := by omega) : IsT W (repT r) (some ⟨B, 0, none⟩) (repT r).len r := by
  refine ⟨rfl, by rw [repT_len]; exact Nat.le_refl _, by unfold maxLen; omega, fun e => by simp at e, Or.inr ⟨B, 0, rfl, row_rep r fun i hi => ?_⟩⟩
  rw [cell_of_row W B (0 + i) _ _ _ h, Nat.zero_add]
  exact madeCells_at _ _ _ hi

set_option maxRecDepth 100000 in
set_option maxHeartbeats 1600000 in
theorem thead_any (x : Pl) (a : At3) (k n : Int) (w0 w : World) (p : Option Addr) (l cap : Nat) (h : Holds w0 x a w) (hS : symsOk x.S = true) :
    Calls Try.prog 76 #[.agg #[.slice a.sp a.sn a.sc, .slice a.fp a.fn a.fc, .slice a.pp a.pn a.pc], .agg #[.int .i64 k, .int .i64 n, .slice p l cap]] w (Gives w0 (hdT x k n).1 (hdT x k n).2 w) := by
  obtain ⟨⟨s1, s2, s3, s4, s5⟩, ⟨f1, f2, f3, f4, f5⟩, ⟨p1, p2, p3, p4, p5⟩⟩ := h.isP
  unfold maxLen at s3 f3 p3
  have hb3 := below3 w
  by_cases hn : n < 0
  · have e1 : hdT x k n = (.nil, false) := by unfold hdT; rw [if_pos hn]
    have hd : decide (n < 0) = true := by simpa using hn
    rw [e1]
    clear e1 hn
    go_enter Try.func76, Try.ntmps76
    go_wp2_with fail
    exact bodyPost_ret (v := .tuple #[.agg #[.slice none 0 0], .bool false]) (by simp [results, Try.results76, go_sem]) rfl ⟨none, 0, rfl, stays_nil _ _ _, (hb3 _ _ _)⟩
  · obtain ⟨i, rfl⟩ : ∃ i : Nat, n = (i : Int) := ⟨n.toNat, by omega⟩
    have hnn : decide ((i : Int) < 0) = false := by simp
    by_cases hk0 : k = 0
    · have d0 : (k == 0) = true := by simp [hk0]
      have d1 : (k == 1) = false := by simp [hk0]
      have d2 : (k == 2) = false := by simp [hk0]
      by_cases hi : i < x.P.len
      · have hd := hi
        rcases p5 with h0 | ⟨b, off, hpe, hr⟩
        · omega
        obtain ⟨p', n', cap', hc, hit⟩ := hr.at (i := i) (by omega)
        obtain ⟨hcw, hlb⟩ := h.cell hc
        have e1 : hdT x k (i : Int) = (x.P.get i, true) := by unfold hdT; rw [if_neg hn, if_pos hk0, if_pos (by omega)]; rfl
        rw [e1]
        have C := fun x y z => (keep3 w x y z b (off + i) hlb).trans hcw
        obtain rfl := hit.1
        clear e1 hn
        go_enter Try.func76, Try.ntmps76
        go_wp2_with fail
        exact bodyPost_ret (v := .tuple #[.agg #[.slice p' (x.P.get i).len cap'], .bool true]) (by simp [results, Try.results76, go_sem]) rfl ⟨p', cap', rfl, stays_old h (hb3 _ _ _) hit, (hb3 _ _ _)⟩
      · have hd : ¬ ((i : Int) < (x.P.len : Int)) := by omega
        have e1 : hdT x k (i : Int) = (.nil, false) := by unfold hdT; rw [if_neg hn, if_pos hk0, if_neg (by omega)]
        rw [e1]
        clear e1 hn
        go_enter Try.func76, Try.ntmps76
        go_wp2_with fail
        exact bodyPost_ret (v := .tuple #[.agg #[.slice none 0 0], .bool false]) (by simp [results, Try.results76, go_sem]) rfl ⟨none, 0, rfl, stays_nil _ _ _, (hb3 _ _ _)⟩
    · have d0 : (k == 0) = false := by simp [hk0]
      by_cases hk1 : k = 1
      · have d1 : (k == 1) = true := by simp [hk1]
        have d2 : (k == 2) = false := by simp [hk1]
        by_cases hi : i < x.F.len
        · have hd := hi
          rcases f5 with h0 | ⟨b, off, hpe, hr⟩
          · omega
          obtain ⟨p', n', cap', hc, hit⟩ := hr.at (i := i) (by omega)
          obtain ⟨hcw, hlb⟩ := h.cell hc
          have e1 : hdT x k (i : Int) = (x.F.get i, true) := by unfold hdT; rw [if_neg hn, if_neg hk0, if_pos hk1, if_pos (by omega)]; rfl
          rw [e1]
          have C := fun x y z => (keep3 w x y z b (off + i) hlb).trans hcw
          obtain rfl := hit.1
          clear e1 hn
          go_enter Try.func76, Try.ntmps76
          go_wp2_with fail
          exact bodyPost_ret (v := .tuple #[.agg #[.slice p' (x.F.get i).len cap'], .bool true]) (by simp [results, Try.results76, go_sem]) rfl ⟨p', cap', rfl, stays_old h (hb3 _ _ _) hit, (hb3 _ _ _)⟩
        · have hd : ¬ ((i : Int) < (x.F.len : Int)) := by omega
          have e1 : hdT x k (i : Int) = (.nil, false) := by unfold hdT; rw [if_neg hn, if_neg hk0, if_pos hk1, if_neg (by omega)]
          rw [e1]
          clear e1 hn
          go_enter Try.func76, Try.ntmps76
          go_wp2_with fail
          exact bodyPost_ret (v := .tuple #[.agg #[.slice none 0 0], .bool false]) (by simp [results, Try.results76, go_sem]) rfl ⟨none, 0, rfl, stays_nil _ _ _, (hb3 _ _ _)⟩
      · have d1 : (k == 1) = false := by simp [hk1]
        by_cases hk2 : k = 2
        · have d2 : (k == 2) = true := by simp [hk2]
          by_cases hi : i < x.S.len
          · rcases s5 with h0 | ⟨b, off, hpe, hr⟩
            · omega
            have hc := (hr i hi).2
            obtain ⟨r0, r4⟩ := symsOk_rank hS hi
            have e1 : hdT x k (i : Int) = (repT (x.S.rk i).toNat, true) := by unfold hdT; rw [if_neg hn, if_neg hk0, if_neg hk1, if_pos hk2, if_pos (by omega)]; rfl
            obtain ⟨r, hr'⟩ : ∃ r : Nat, x.S.rk i = (r : Int) := ⟨(x.S.rk i).toNat, by omega⟩
            rw [hr'] at hc r4 e1
            rw [e1]
            obtain ⟨hcw, hlb⟩ := h.cell hc
            have C := fun x y z => (keep3 w x y z b (off + i * 2 + 1) hlb).trans hcw
            have hmk := run_make_sorts r (by omega)
            clear e1 hn
            go_enter Try.func76, Try.ntmps76
            go_wp2_with fail
            refine bodyPost_ret (v := .tuple #[.agg #[.slice (some ⟨w.heap.size + 1 + 1 + 1, 0, none⟩) r r], .bool true]) (by simp [results, Try.results76, go_sem]) rfl ⟨some ⟨w.heap.size + 1 + 1 + 1, 0, none⟩, r, by rw [repT_len]; rfl, ?_, ?_⟩
            · intro w'' hw
              exact isT_made ((hw _ (Or.inr (by omega)) (by simp)).trans (heap4 _ _ _ _ _).2.2.2) (by omega)
            · exact (hb3 _ _ _).alloc (by simp only [World.size_alloc]; omega) _
          · have hd : ¬ ((i : Int) < (x.S.len : Int)) := by omega
            have e1 : hdT x k (i : Int) = (.nil, false) := by unfold hdT; rw [if_neg hn, if_neg hk0, if_neg hk1, if_pos hk2, if_neg (by omega)]
            rw [e1]
            clear e1 hn
            go_enter Try.func76, Try.ntmps76
            go_wp2_with fail
            exact bodyPost_ret (v := .tuple #[.agg #[.slice none 0 0], .bool false]) (by simp [results, Try.results76, go_sem]) rfl ⟨none, 0, rfl, stays_nil _ _ _, (hb3 _ _ _)⟩
        · have d2 : (k == 2) = false := by simp [hk2]
          have e1 : hdT x k (i : Int) = (.nil, false) := by unfold hdT; rw [if_neg hn, if_neg hk0, if_neg hk1, if_neg hk2]
          rw [e1]
          clear e1 hn
          go_enter Try.func76, Try.ntmps76
          go_wp2_with fail
          exact bodyPost_ret (v := .tuple #[.agg #[.slice none 0 0], .bool false]) (by simp [results, Try.results76, go_sem]) rfl ⟨none, 0, rfl, stays_nil _ _ _, (hb3 _ _ _)⟩

/-- what is behind m arguments of a head -/
def rsT (x : Pl) (k n : Int) (m : Nat) : T × Bool := if (hdT x k n).2 = true ∧ m ≤ (hdT x k n).1.len then ((hdT x k n).1.drop m, true) else (.nil, false)

theorem rest_stays {w0 w w1 w'' : World} {o x y z : Obj} {v : Value} (hle : w0.heap.size ≤ w.heap.size) (hz : w.heap.size + 3 ≤ w1.heap.size)
    (hw : ∀ j, (j < w0.heap.size ∨ w.heap.size ≤ j) → j < ((w1.alloc o).setCell ⟨w.heap.size + 1 + 1, 0, none⟩ v).heap.size → w''.heap[j]? = ((w1.alloc o).setCell ⟨w.heap.size + 1 + 1, 0, none⟩ v).heap[j]?) :
    ∀ j, (j < w0.heap.size ∨ (((w.alloc x).alloc y).alloc z).heap.size ≤ j) → j < w1.heap.size → w''.heap[j]? = w1.heap[j]? := by
  intro j hj hlt
  have hs : (((w.alloc x).alloc y).alloc z).heap.size = w.heap.size + 3 := by simp
  rw [hs] at hj
  rw [hw j (by omega) (by rw [setCell_size]; simp; omega), Below.heap_setCell _ _ _ _ (by show j ≠ w.heap.size + 1 + 1; omega), Below.heap_alloc _ _ _ hlt]

set_option maxRecDepth 100000 in
set_option maxHeartbeats 1600000 in
theorem trest_any (x : Pl) (a : At3) (k n : Int) (w0 w : World) (p : Option Addr) (l cap : Nat) (h : Holds w0 x a w) (hS : symsOk x.S = true) (hl : l ≤ 4611686018427387904) :
    Calls Try.prog 55 #[.agg #[.slice a.sp a.sn a.sc, .slice a.fp a.fn a.fc, .slice a.pp a.pn a.pc], .agg #[.int .i64 k, .int .i64 n, .slice p l cap]] w (Gives w0 (rsT x k n l).1 (rsT x k n l).2 w) := by
  have hb3 := below3 w
  have hH := fun W h => thead_any x a k n w0 W p l cap h hS
  obtain ⟨H, ok, hHe⟩ : ∃ H ok, hdT x k n = (H, ok) := ⟨_, _, rfl⟩
  have hR : rsT x k n l = if ok = true ∧ l ≤ H.len then (H.drop l, true) else (.nil, false) := by unfold rsT; rw [hHe]
  rw [hHe] at hH
  have HH := Lib.hid hH
  clear hH hHe
  have hs3 : ∀ x y z, (((w.alloc x).alloc y).alloc z).heap.size = w.heap.size + 3 := by intro x y z; simp
  cases ok with
  | false =>
    rw [if_neg (by simp)] at hR
    rw [hR]
    clear hR
    go_enter Try.func55, Try.ntmps55
    go_wp2_with fail
    refine (HH.out _ (((h.alloc _).alloc _).alloc _)).mono ?_
    rintro e w1 ⟨q, c, rfl, hi, hb1⟩
    obtain ⟨y0, y1, y2⟩ := heap3 w (a.box 28) (.cells #[.int .i64 k, .int .i64 n, .slice p l cap] 35) (.cells #[.slice none 0 0] 40)
    have r1 := cell_box (box3_later hb1 y2)
    have f1 := free_of_one (box3_later hb1 y2)
    obtain ⟨t1, t2, t3⟩ := box3_cells (box3_later hb1 y1)
    have B := (hb3 _ _ _).trans (hb1.mono (by rw [hs3]; omega))
    have hz := hb1.size
    rw [hs3] at hz
    clear y0 y1 y2 hb1
    have A1 := fun o => (keep_alloc w1 o (w.heap.size + 1) 2 (by omega)).trans t3
    have A2 := fun o => (keep_alloc w1 o (w.heap.size + 1 + 1) 0 (by omega)).trans r1
    have A3 := fun o => ((bcell ((Below.refl w1.heap.size w1).alloc (Nat.le_refl _) o)).2 (w.heap.size + 1 + 1) 0 (by omega)).trans f1
    go_wp2_with fail
    refine bodyPost_ret (v := .tuple #[.agg #[.slice none 0 0], .bool false]) (by simp [results, Try.results55, go_sem, A2]) rfl ⟨none, 0, rfl, stays_nil _ _ _, ?_⟩
    exact (B.alloc (by omega) _).setCell (by simp; omega) _
  | true =>
    by_cases hle : l ≤ H.len
    · rw [if_pos ⟨rfl, hle⟩] at hR
      rw [hR]
      clear hR
      have hdl := H.len_drop l
      go_enter Try.func55, Try.ntmps55
      go_wp2_with fail
      refine (HH.out _ (((h.alloc _).alloc _).alloc _)).mono ?_
      rintro e w1 ⟨q, c, rfl, hi, hb1⟩
      obtain ⟨y0, y1, y2⟩ := heap3 w (a.box 28) (.cells #[.int .i64 k, .int .i64 n, .slice p l cap] 35) (.cells #[.slice none 0 0] 40)
      have r1 := cell_box (box3_later hb1 y2)
      have f1 := free_of_one (box3_later hb1 y2)
      obtain ⟨t1, t2, t3⟩ := box3_cells (box3_later hb1 y1)
      have B := (hb3 _ _ _).trans (hb1.mono (by rw [hs3]; omega))
      have hz := hb1.size
      rw [hs3] at hz
      clear y0 y1 y2 hb1
      have A1 := fun o => (keep_alloc w1 o (w.heap.size + 1) 2 (by omega)).trans t3
      have A2 := fun o => (keep_alloc w1 o (w.heap.size + 1 + 1) 0 (by omega)).trans r1
      have A3 := fun o => ((bcell ((Below.refl w1.heap.size w1).alloc (Nat.le_refl _) o)).2 (w.heap.size + 1 + 1) 0 (by omega)).trans f1
      have hlc : H.len ≤ c := hi.here.2.1
      have hcm : c ≤ maxLen := hi.here.2.2.1
      unfold maxLen at hcm
      have hck : l < c ∨ l = c := by omega
      rcases hck with hck | hck
      · have HI := Lib.hid hi
        clear hi hdl
        have hd4 : decide (H.len < l) = false := by simp; omega
        go_wp2_with fail
        refine bodyPost_ret (v := .tuple #[.agg #[.slice (q.map (·.add l)) (H.len - l) (c - l)], .bool true]) (by simp [results, Try.results55, go_sem, A2]) rfl ⟨_, _, by rw [T.len_drop], ?_, (B.alloc (by omega) _).setCell (by simp; omega) _⟩
        intro w'' hw
        have h1 := (HI.out w'' (rest_stays h.le hz hw)).drop hle
        rw [if_neg (by omega), ← T.len_drop] at h1
        exact h1
      · have HI := Lib.hid hi
        clear hi hdl
        have hd4 : decide (H.len < l) = false := by simp; omega
        go_wp2_with fail
        refine bodyPost_ret (v := .tuple #[.agg #[.slice q (H.len - l) (c - l)], .bool true]) (by simp [results, Try.results55, go_sem, A2]; omega) rfl ⟨_, _, by rw [T.len_drop], ?_, (B.alloc (by omega) _).setCell (by simp; omega) _⟩
        intro w'' hw
        have h1 := (HI.out w'' (rest_stays h.le hz hw)).drop hle
        rw [if_pos hck.symm, ← T.len_drop] at h1
        exact h1
    · rw [if_neg (fun h => hle h.2)] at hR
      rw [hR]
      clear hR
      have hd4 : decide (H.len < l) = true := by simp; omega
      go_enter Try.func55, Try.ntmps55
      go_wp2_with fail
      refine (HH.out _ (((h.alloc _).alloc _).alloc _)).mono ?_
      rintro e w1 ⟨q, c, rfl, hi, hb1⟩
      obtain ⟨y0, y1, y2⟩ := heap3 w (a.box 28) (.cells #[.int .i64 k, .int .i64 n, .slice p l cap] 35) (.cells #[.slice none 0 0] 40)
      have r1 := cell_box (box3_later hb1 y2)
      have f1 := free_of_one (box3_later hb1 y2)
      obtain ⟨t1, t2, t3⟩ := box3_cells (box3_later hb1 y1)
      have B := (hb3 _ _ _).trans (hb1.mono (by rw [hs3]; omega))
      have hz := hb1.size
      rw [hs3] at hz
      clear y0 y1 y2 hb1
      have A1 := fun o => (keep_alloc w1 o (w.heap.size + 1) 2 (by omega)).trans t3
      have A2 := fun o => (keep_alloc w1 o (w.heap.size + 1 + 1) 0 (by omega)).trans r1
      have A3 := fun o => ((bcell ((Below.refl w1.heap.size w1).alloc (Nat.le_refl _) o)).2 (w.heap.size + 1 + 1) 0 (by omega)).trans f1
      go_wp2_with fail
      refine bodyPost_ret (v := .tuple #[.agg #[.slice none 0 0], .bool false]) (by simp [results, Try.results55, go_sem, A2]) rfl ⟨none, 0, rfl, stays_nil _ _ _, ?_⟩
      exact (B.alloc (by omega) _).setCell (by simp; omega) _

end Go.Proofs.Ytlgfaobbjnhfoaa
