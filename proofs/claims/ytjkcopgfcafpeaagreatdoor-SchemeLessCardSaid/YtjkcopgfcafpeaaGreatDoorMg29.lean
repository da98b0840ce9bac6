/-
  Parts of one proof, laid into one text: SGet, SPut, SPutP, SPutW, SPutX, SAlive0. Conditions: each part names its own.
-/
import Derived.Test.YtjkcopgfcafpeaaGreatDoorMg28
import Derived.Test.YtjkcopgfcafpeaaGreatDoorMg21
import Derived.Test.YtjkcopgfcafpeaaGreatDoorMg10

/-
  The walk of Get: what it returns for whatever text. Conditions: the package-level variables hold values of their types.
-/
set_option linter.unusedSimpArgs false
set_option linter.unusedVariables false
namespace Go.Proofs.YtjkcopgfcafpeaaGreatDoor
open Go.RowKit Go.Maps

theorem rdBodies_len {S F : List ByteArray} : ∀ {L : List FL} {b : List (Int × Int × X)}, rdBodies S F L = some b → b.length = L.length
  | [], b, h => by
    simp only [rdBodies, Option.some.injEq] at h
    subst h; rfl
  | f :: r, b, h => by
    simp only [rdBodies, Option.bind_eq_some_iff, Option.map_eq_some_iff] at h
    obtain ⟨t, _, y, hy, rfl⟩ := h
    simp [rdBodies_len hy]

theorem rdSyms_le : ∀ (f : Nat) (s r : List UInt8) (l : List (ByteArray × Int)), rdSyms f s = some (l, r) → r.length + l.length ≤ s.length
  | 0, _, _, _, h => by cases h
  | f + 1, s, r, l, h => by
    unfold rdSyms at h
    split at h
    · simp only [Option.bind_eq_some_iff, Option.map_eq_some_iff] at h
      obtain ⟨⟨x, r1⟩, h1, ⟨y, r2⟩, h2, h3⟩ := h
      simp only [Prod.mk.injEq] at h3
      obtain ⟨rfl, rfl⟩ := h3
      have := rdSym_lt h1
      have := rdSyms_le f _ _ _ h2
      simp only [List.length_drop, List.length_cons] at *
      omega
    · simp only [Option.some.injEq, Prod.mk.injEq] at h
      obtain ⟨rfl, rfl⟩ := h
      simp

theorem rdFuns_le : ∀ (f : Nat) (s : List UInt8) (L : List FL), rdFuns f s = some L → L.length ≤ s.length ∧ ∀ x ∈ L, x.bd.length ≤ s.length
  | 0, _, _, h => by cases h
  | f + 1, s, L, h => by
    unfold rdFuns at h
    split at h
    · simp only [Option.some.injEq] at h
      subst h
      simp
    · simp only [Option.bind_eq_some_iff, Option.map_eq_some_iff] at h
      obtain ⟨r0, h0, ⟨x, r1⟩, h1, y, h2, rfl⟩ := h
      have l0 := need_le h0
      have l1 := rdFun_lt h1
      obtain ⟨l2, l3⟩ := rdFuns_le f _ _ h2
      simp only at *
      refine ⟨by simp only [List.length_cons]; omega, fun z hz => ?_⟩
      rcases List.mem_cons.1 hz with rfl | hz
      · omega
      · have := l3 z hz; omega

theorem rdL_le {s : List UInt8} {x : List (ByteArray × Int) × List FL} (h : rdL s = some x) : x.2.length ≤ s.length ∧ ∀ f ∈ x.2, f.bd.length ≤ s.length := by
  unfold rdL at h
  simp only [Option.bind_eq_some_iff, Option.map_eq_some_iff] at h
  obtain ⟨⟨l, r⟩, h1, y, h2, rfl⟩ := h
  have l1 := rdSyms_le _ _ _ _ h1
  obtain ⟨l2, l3⟩ := rdFuns_le _ _ _ h2
  simp only at *
  exact ⟨by omega, fun f hf => by have := l3 f hf; omega⟩

theorem syV_get (l : List (ByteArray × Int)) (i : Nat) (hi : i < l.length) : (syV l)[i * 2]? = some (.string (l[i]).1) ∧ (syV l)[i * 2 + 1]? = some (.int .i64 (l[i]).2) := by
  induction l generalizing i with
  | nil => simp at hi
  | cons x r ih =>
    cases i with
    | zero => exact ⟨rfl, rfl⟩
    | succ i =>
      have := ih i (by simpa using hi)
      rw [show (i + 1) * 2 = i * 2 + 2 by omega]
      exact this

/-- a draft whose bodies are all read is a scheme in memory -/
theorem DS.isC {w : World} {B : Nat} {p : Pos} {n1 n2 : List ByteArray} {sy : List (ByteArray × Int)} {L : List FL} {b : List (Int × Int × X)} {bs : List (List UInt8)} {bad : Bool} (h : DS w B p n1 n2 sy L b bs bad) :
    IsC w ⟨sySc sy, fuSc L b⟩ ⟨p.ps, sy.length, p.cs, p.pf, L.length, p.cf⟩ := by
  refine ⟨?_, ?_⟩
  · show IsS w (sySc sy) p.ps sy.length p.cs
    have hS := h.rowS
    rcases hS.2 with ⟨e, h0⟩ | ⟨g, cap, cur, e, hb, hh, h1, h2, h3, h4⟩
    · injection e with e1 e2 e3
      refine ⟨rfl, by omega, by rw [e3]; simp [maxLen], fun _ => e3, Or.inl h0⟩
    · injection e with e1 e2 e3
      refine ⟨rfl, by rw [e3]; exact h1, by rw [e3]; exact h2, fun e => (by rw [e1] at e; cases e), Or.inr ⟨g, 0, e1, fun i hi => ?_⟩⟩
      have hi' : i < sy.length := hi
      obtain ⟨v1, v2⟩ := syV_get sy i hi'
      rw [e1] at hS
      have hd : sy.getD i (ByteArray.empty, 0) = sy[i] := by simp [hi']
      refine ⟨?_, ?_⟩
      · rw [Nat.zero_add, hS.cellAt _ (by omega), v1]
        show _ = some (Value.string (sy.getD i (ByteArray.empty, 0)).1)
        rw [hd]
      · rw [Nat.zero_add, hS.cellAt _ (by omega), v2]
        show _ = some (Value.int .i64 (sy.getD i (ByteArray.empty, 0)).2)
        rw [hd]
  · show IsF w (fuSc L b) p.pf L.length p.cf
    obtain ⟨vs, hF, hA⟩ := h.rowF
    rcases hF.2 with ⟨e, h0⟩ | ⟨g, cap, cur, e, hb, hh, h1, h2, h3, h4⟩
    · injection e with e1 e2 e3
      refine ⟨rfl, by omega, by rw [e3]; simp [maxLen], fun _ => e3, Or.inl h0⟩
    · injection e with e1 e2 e3
      refine ⟨rfl, by rw [e3]; exact h1, by rw [e3]; exact h2, fun e => (by rw [e1] at e; cases e), Or.inr ⟨g, 0, e1, fun i hi => ?_⟩⟩
      have hi' : i < L.length := hi
      obtain ⟨q, c, lo, hi2, r, d, lo2, hi3, v1, v2, v3, v4, v5, hO, hX, _⟩ := hA i hi'
      rw [e1] at hF
      refine ⟨q, _, c, r, _, d, ?_, ?_, ?_, ?_, ?_, hO.isT, hX.isX⟩
      · rw [Nat.zero_add, hF.cellAt _ (by omega)]; exact v1
      · rw [Nat.zero_add, hF.cellAt _ (by omega)]; exact v2
      · rw [Nat.zero_add, hF.cellAt _ (by omega)]; exact v3
      · rw [Nat.zero_add, hF.cellAt _ (by omega)]; exact v4
      · rw [Nat.zero_add, hF.cellAt _ (by omega)]; exact v5

theorem isC_no (w : World) : IsC w noSc ⟨none, 0, 0, none, 0, 0⟩ :=
  ⟨⟨rfl, Nat.le_refl _, by simp [maxLen], fun _ => rfl, Or.inl rfl⟩, ⟨rfl, Nat.le_refl _, by simp [maxLen], fun _ => rfl, Or.inl rfl⟩⟩

def GetP (w : World) (x : Sc) (k : Int) (e : Ending) (w' : World) : Prop :=
  ∃ a : At2, e = .returned (.tuple #[.agg #[.slice a.sp a.sn a.sc, .slice a.fp a.fn a.fc], .int .i64 k]) ∧ IsC w' x a ∧ Below w.heap.size w w'

def zC : Obj := .cells #[.slice none 0 0, .slice none 0 0] 25

theorem two_box {w : World} {b : Nat} {x y : Value} {t : TypeId} (h : w.heap[b]? = some (.cells #[x, y] t (0, 0))) : (w.cell? ⟨b, 0, none⟩ = some x ∧ w.cell? ⟨b, 1, none⟩ = some y) ∧ w.frozen? ⟨b, 0, none⟩ = false ∧ w.frozen? ⟨b, 1, none⟩ = false := by
  refine ⟨⟨?_, ?_⟩, ?_, ?_⟩ <;> simp [World.cell?, World.frozen?, h]

theorem below_set2 {B b : Nat} {w W : World} (h : Below B w W) (hb : B ≤ b) (x y : Value) : Below B w ((W.setCell ⟨b, 0, none⟩ x).setCell ⟨b, 1, none⟩ y) :=
  (h.setCell (p := ⟨b, 0, none⟩) hb x).setCell (p := ⟨b, 1, none⟩) hb y

set_option maxHeartbeats 1600000 in
theorem sget_long (s : List UInt8) (w : World) (hs : 65536 < s.length) :
    Calls Tryz.prog 28 #[.string ⟨s.toArray⟩] w (GetP w noSc 3) := by
  have hd : ((65536 : Int) < (s.length : Int)) := by omega
  obtain ⟨⟨k0, k1⟩, z0, z1⟩ := two_box (heap_new w (.cells #[.slice none 0 0, .slice none 0 0] 25))
  go_enter Tryz.func28, Tryz.ntmps28
  go_wp2_with fail
  refine bodyPost_ret (v := .tuple #[.agg #[.slice none 0 0, .slice none 0 0], .int .i64 3]) (by simp [results, Tryz.results28, go_sem, k0, k1]) rfl ⟨⟨none, 0, 0, none, 0, 0⟩, rfl, isC_no _, ?_⟩
  exact (Below.refl w.heap.size w).alloc (Nat.le_refl _) _

set_option maxHeartbeats 1600000 in
theorem sget_form (s : List UInt8) (w : World) (hg : Gl w) (h6 : 6 ≤ w.heap.size) (hs : s.length ≤ 65536) (h : rdL s = none) :
    Calls Tryz.prog 28 #[.string ⟨s.toArray⟩] w (GetP w noSc 4) := by
  have hd : ¬ ((65536 : Int) < (s.length : Int)) := by omega
  have hbx := heap_new w (.cells #[.slice none 0 0, .slice none 0 0] 25)
  have hg0 : Gl (w.alloc (.cells #[.slice none 0 0, .slice none 0 0] 25)) := hg.below h6 ((Below.refl _ _).alloc (Nat.le_refl _) _)
  have c1 := Lib.hid fun W hg h6 => allD_bad s W hg h6 hs h
  clear hg h
  go_enter Tryz.func28, Tryz.ntmps28
  go_wp2_with fail
  refine (c1.out _ hg0 (by simp; omega)).mono ?_
  rintro e w1 ⟨rfl, hb1⟩
  have b1 := res_later hb1
  obtain ⟨⟨k0, k1⟩, z0, z1⟩ := two_box b1
  have B1 := below_call hb1
  have HB := Lib.hid B1
  clear hb1 b1 B1 hbx hg0
  go_wp2_with fail
  refine bodyPost_ret (v := .tuple #[.agg #[.slice none 0 0, .slice none 0 0], .int .i64 4]) (by simp [results, Tryz.results28, go_sem, k0, k1]) rfl ⟨⟨none, 0, 0, none, 0, 0⟩, rfl, isC_no _, ?_⟩
  exact below_set2 HB.out (Nat.le_refl _) _ _

set_option maxHeartbeats 1600000 in
theorem sget_form2 (s : List UInt8) (w : World) (hg : Gl w) (h6 : 6 ≤ w.heap.size) (hs : s.length ≤ 65536) (x : List (ByteArray × Int) × List FL) (h : rdL s = some x) (hb : rdB x = none) :
    Calls Tryz.prog 28 #[.string ⟨s.toArray⟩] w (GetP w noSc 4) := by
  have hd : ¬ ((65536 : Int) < (s.length : Int)) := by omega
  have hg0 : Gl (w.alloc (.cells #[.slice none 0 0, .slice none 0 0] 25)) := hg.below h6 ((Below.refl _ _).alloc (Nat.le_refl _) _)
  have c1 := Lib.hid fun W hg h6 => allD_ok s W hg h6 hs x h
  obtain ⟨hl1, hl2⟩ := rdL_le h
  obtain ⟨sy, L⟩ := x
  dsimp only at hl1 hl2 c1
  have c2 := Lib.hid fun B p W hD hg h6 => bodies_any B p sy L (!sorted L) W hD hg h6 (by omega) (fun f hf => by have := hl2 f hf; omega)
  rw [hb] at c2
  have HG := Lib.hid hg
  clear hg h hb hl2
  go_enter Tryz.func28, Tryz.ntmps28
  go_wp2_with fail
  refine (c1.out _ hg0 (by simp; omega)).mono ?_
  rintro e w1 ⟨p, rfl, hD, hb1⟩
  have b1 := res_later hb1
  have B1 := below_call hb1
  have hz := hb1.size
  simp only [World.size_alloc] at hz hD
  have gl1 := HG.out.below h6 B1
  have HB := Lib.hid (And.intro B1 b1)
  clear hb1 b1 B1 hg0 c1
  go_wp2_with fail
  refine (c2.out _ p _ hD gl1 (by omega)).mono ?_
  rintro e w2 ⟨_, hn⟩
  obtain ⟨rfl, hb2⟩ := hn rfl
  have b2 := (hb2.block w.heap.size (by omega)).trans HB.out.2
  have B2 := HB.out.1.trans (hb2.mono (by omega))
  obtain ⟨⟨k0, k1⟩, z0, z1⟩ := two_box b2
  have HB2 := Lib.hid B2
  clear hb2 b2 B2 hD gl1 hn
  go_wp2_with fail
  refine bodyPost_ret (v := .tuple #[.agg #[.slice none 0 0, .slice none 0 0], .int .i64 4]) (by simp [results, Tryz.results28, go_sem, k0, k1]) rfl ⟨⟨none, 0, 0, none, 0, 0⟩, rfl, isC_no _, ?_⟩
  exact below_set2 HB2.out (Nat.le_refl _) _ _

set_option maxHeartbeats 3200000 in
theorem sget_read (s : List UInt8) (w : World) (hg : Gl w) (h6 : 6 ≤ w.heap.size) (hs : s.length ≤ 65536) (x : List (ByteArray × Int) × List FL) (h : rdL s = some x) (b : List (Int × Int × X)) (hb : rdB x = some b) :
    Calls Tryz.prog 28 #[.string ⟨s.toArray⟩] w (GetP w (if sorted x.2 = true ∧ scOk ⟨sySc x.1, fuSc x.2 b⟩ = true then ⟨sySc x.1, fuSc x.2 b⟩ else noSc) (if sorted x.2 = true ∧ scOk ⟨sySc x.1, fuSc x.2 b⟩ = true then 0 else 7)) := by
  have hd : ¬ ((65536 : Int) < (s.length : Int)) := by omega
  have hg0 : Gl (w.alloc (.cells #[.slice none 0 0, .slice none 0 0] 25)) := hg.below h6 ((Below.refl _ _).alloc (Nat.le_refl _) _)
  have c1 := Lib.hid fun W hg h6 => allD_ok s W hg h6 hs x h
  obtain ⟨hl1, hl2⟩ := rdL_le h
  obtain ⟨sy, L⟩ := x
  dsimp only at hl1 hl2 c1 ⊢
  have c2 := Lib.hid fun B p W hD hg h6 => bodies_any B p sy L (!sorted L) W hD hg h6 (by omega) (fun f hf => by have := hl2 f hf; omega)
  rw [hb] at c2
  have HG := Lib.hid hg
  obtain ⟨xs, hxs⟩ : ∃ xs : Sc, xs = ⟨sySc sy, fuSc L b⟩ := ⟨_, rfl⟩
  rw [← hxs]
  have HX := Lib.hid hxs
  have c3 := Lib.hid fun a W h => scheck_any xs a W h
  obtain ⟨so, hso⟩ : ∃ so, sorted L = so := ⟨_, rfl⟩
  unfold ReadsOk at c1
  dsimp only at c1
  rw [hso] at c1 c2 ⊢
  clear hg h hb hl2 hxs hso
  cases so with
  | false =>
    rw [if_neg (by simp), if_neg (by simp)]
    go_enter Tryz.func28, Tryz.ntmps28
    go_wp2_with fail
    refine (c1.out _ hg0 (by simp; omega)).mono ?_
    rintro e w1 ⟨p, rfl, hD, hb1⟩
    have b1 := res_later hb1
    have B1 := below_call hb1
    have hz := hb1.size
    simp only [World.size_alloc] at hz hD
    have gl1 := HG.out.below h6 B1
    have HB := Lib.hid (And.intro B1 b1)
    clear hb1 b1 B1 hg0 c1
    go_wp2_with fail
    refine (c2.out _ p _ hD gl1 (by omega)).mono ?_
    rintro e w2 ⟨hy, _⟩
    obtain ⟨rfl, hD2, hb2⟩ := hy _ rfl
    have b2 := (hb2.block w.heap.size (by omega)).trans HB.out.2
    have B2 := HB.out.1.trans (hb2.mono (by omega))
    obtain ⟨⟨k0, k1⟩, z0, z1⟩ := two_box b2
    have y3 : w2.cell? ⟨p.D, 2 + 1, none⟩ = some (.bool true) := (DS.cells hD2).1.2.2.2.1
    have HB2 := Lib.hid B2
    clear hb2 b2 B2 hD gl1 hy hD2
    go_wp2_with fail
    refine bodyPost_ret (v := .tuple #[.agg #[.slice none 0 0, .slice none 0 0], .int .i64 7]) (by simp [results, Tryz.results28, go_sem, k0, k1]) rfl ⟨⟨none, 0, 0, none, 0, 0⟩, rfl, isC_no _, ?_⟩
    exact below_set2 HB2.out (Nat.le_refl _) _ _
  | true =>
    obtain ⟨ok, hok⟩ : ∃ ok, scOk xs = ok := ⟨_, rfl⟩
    have hse : scE xs = if ok = true then 0 else 7 := by unfold scE; rw [hok]
    rw [hse] at c3
    rw [hok]
    clear hok hse
    cases ok with
    | false =>
      rw [if_neg (by simp), if_neg (by simp)]
      go_enter Tryz.func28, Tryz.ntmps28
      go_wp2_with fail
      refine (c1.out _ hg0 (by simp; omega)).mono ?_
      rintro e w1 ⟨p, rfl, hD, hb1⟩
      have b1 := res_later hb1
      have B1 := below_call hb1
      have hz := hb1.size
      simp only [World.size_alloc] at hz hD
      have gl1 := HG.out.below h6 B1
      have HB := Lib.hid (And.intro B1 b1)
      clear hb1 b1 B1 hg0 c1
      go_wp2_with fail
      refine (c2.out _ p _ hD gl1 (by omega)).mono ?_
      rintro e w2 ⟨hy, _⟩
      obtain ⟨rfl, hD2, hb2⟩ := hy _ rfl
      have b2 := (hb2.block w.heap.size (by omega)).trans HB.out.2
      have B2 := HB.out.1.trans (hb2.mono (by omega))
      obtain ⟨⟨y0, y1, y2, y3, _⟩, _⟩ := DS.cells hD2
      have y3' : w2.cell? ⟨p.D, 2 + 1, none⟩ = some (.bool false) := y3
      have hC := DS.isC hD2
      have hCx : IsC w2 xs ⟨p.ps, sy.length, p.cs, p.pf, L.length, p.cf⟩ := by rw [HX.out]; exact hC
      have HB2 := Lib.hid (And.intro B2 b2)
      clear hb2 b2 B2 hD gl1 hy hD2 hC
      go_wp2_with fail
      refine (c3.out _ _ hCx).mono ?_
      rintro e w3 ⟨rfl, hb3⟩
      have b3 := (hb3.block w.heap.size (lt_of_block HB2.out.2)).trans HB2.out.2
      have B3 := HB2.out.1.trans (hb3.mono HB2.out.1.size)
      obtain ⟨⟨k0, k1⟩, z0, z1⟩ := two_box b3
      have HB3 := Lib.hid B3
      clear hb3 b3 B3 hCx y0 y1 y2 y3 y3'
      go_wp2_with fail
      refine bodyPost_ret (v := .tuple #[.agg #[.slice none 0 0, .slice none 0 0], .int .i64 7]) (by simp [results, Tryz.results28, go_sem, k0, k1]) rfl ⟨⟨none, 0, 0, none, 0, 0⟩, rfl, isC_no _, ?_⟩
      exact below_set2 HB3.out (Nat.le_refl _) _ _
    | true =>
      rw [if_pos (by simp), if_pos (by simp)]
      go_enter Tryz.func28, Tryz.ntmps28
      go_wp2_with fail
      refine (c1.out _ hg0 (by simp; omega)).mono ?_
      rintro e w1 ⟨p, rfl, hD, hb1⟩
      have b1 := res_later hb1
      have B1 := below_call hb1
      have hz := hb1.size
      simp only [World.size_alloc] at hz hD
      have gl1 := HG.out.below h6 B1
      have HB := Lib.hid (And.intro B1 b1)
      clear hb1 b1 B1 hg0 c1
      go_wp2_with fail
      refine (c2.out _ p _ hD gl1 (by omega)).mono ?_
      rintro e w2 ⟨hy, _⟩
      obtain ⟨rfl, hD2, hb2⟩ := hy _ rfl
      have b2 := (hb2.block w.heap.size (by omega)).trans HB.out.2
      have B2 := HB.out.1.trans (hb2.mono (by omega))
      obtain ⟨⟨y0, y1, y2, y3, _⟩, _⟩ := DS.cells hD2
      have y3' : w2.cell? ⟨p.D, 2 + 1, none⟩ = some (.bool false) := y3
      have hC := DS.isC hD2
      have hCx : IsC w2 xs ⟨p.ps, sy.length, p.cs, p.pf, L.length, p.cf⟩ := by rw [HX.out]; exact hC
      have HB2 := Lib.hid (And.intro B2 (And.intro b2 hD2))
      clear hb2 b2 B2 hD gl1 hy hD2 hC
      go_wp2_with fail
      refine (c3.out _ _ hCx).mono ?_
      rintro e w3 ⟨rfl, hb3⟩
      have b3 := (hb3.block w.heap.size (lt_of_block HB2.out.2.1)).trans HB2.out.2.1
      have B3 := HB2.out.1.trans (hb3.mono HB2.out.1.size)
      have D3 := DS.below HB2.out.2.2 hb3
      obtain ⟨⟨k0, k1⟩, z0, z1⟩ := two_box b3
      clear y0 y1 y2 y3 y3'
      obtain ⟨⟨y0, y1, y2, y3, _⟩, _⟩ := DS.cells D3
      have HB3 := Lib.hid (And.intro B3 D3)
      clear hb3 b3 B3 hCx D3
      go_wp2_with fail
      refine bodyPost_ret (v := .tuple #[.agg #[.slice p.ps sy.length p.cs, .slice p.pf L.length p.cf], .int .i64 0]) (by simp [results, Tryz.results28, go_sem, k0, k1]) rfl ⟨⟨p.ps, sy.length, p.cs, p.pf, L.length, p.cf⟩, rfl, ?_, below_set2 HB3.out.1 (Nat.le_refl _) _ _⟩
      rw [HX.out]
      exact DS.isC (DS.setLow (DS.setLow HB3.out.2 (show w.heap.size < w.heap.size + 1 + 3 by omega) 0 _) (show w.heap.size < w.heap.size + 1 + 3 by omega) 1 _)

theorem sget_any (s : List UInt8) (w : World) (hg : Gl w) (h6 : 6 ≤ w.heap.size) :
    Calls Tryz.prog 28 #[.string ⟨s.toArray⟩] w (GetP w (getSc s) (getE s)) := by
  unfold getSc getE
  by_cases hs : 65536 < s.length
  · rw [if_pos hs, if_pos hs]
    exact sget_long s w hs
  · rw [if_neg hs, if_neg hs]
    unfold rdSc
    cases h : rdL s with
    | none => exact sget_form s w hg h6 (by omega) h
    | some x =>
      simp only [Option.bind_some]
      cases hb : rdB x with
      | none => exact sget_form2 s w hg h6 (by omega) x h hb
      | some b => exact sget_read s w hg h6 (by omega) x h b hb

end Go.Proofs.YtjkcopgfcafpeaaGreatDoor

/-
  Plain mathematics of a scheme's string; the walks of head and spell. Conditions: heads that exist, names of at most 24 bytes, terms of at most 1000 nodes.
-/
set_option linter.unusedSimpArgs false
set_option linter.unusedVariables false
namespace Go.Proofs.YtjkcopgfcafpeaaGreatDoor
open Go.RowKit Go.Maps

/-- the string of a head -/
def hTx (x : Sc) (k n : Int) : List UInt8 :=
  if k = 0 then 36 :: Lib.decDigits n.toNat else if k = 1 then (x.F.nm n.toNat).data.toList else 35 :: (x.S.nm n.toNat).data.toList

/-- the string of arguments, each with its blank -/
def aTx (x : Sc) : X → List UInt8
  | .nil => []
  | .cons k n a r => (if a.len = 0 then 32 :: hTx x k n else 32 :: 40 :: (hTx x k n ++ aTx x a ++ [41])) ++ aTx x r

/-- the string of a term -/
def tTx (x : Sc) (k n : Int) (a : X) : List UInt8 := hTx x k n ++ aTx x a

theorem aTx_drop (x : Sc) (a : X) (i : Nat) (h : i < a.len) : aTx x (a.drop i) = (if (a.ga i).len = 0 then 32 :: hTx x (a.gk i) (a.gn i) else 32 :: 40 :: (hTx x (a.gk i) (a.gn i) ++ aTx x (a.ga i) ++ [41])) ++ aTx x (a.drop (i + 1)) := by
  rw [X.drop_cons a i h]; rfl

/-- does a head exist? -/
def goodH (x : Sc) (k n : Int) : Prop := 0 ≤ n ∧ ((k = 0 ∧ n < 100) ∨ (k = 1 ∧ n < x.F.len) ∨ (k = 2 ∧ n < x.S.len))

def goodX (x : Sc) (a : X) : Prop := X.AllX (fun k n _ => goodH x k n) a

/-- names of at most 24 bytes -/
def NamesOk (x : Sc) : Prop := (∀ i, i < x.F.len → (x.F.nm i).size ≤ 24) ∧ (∀ i, i < x.S.len → (x.S.nm i).size ≤ 24)

theorem dec_len (i : Nat) (h : i < 100) : (Lib.decDigits i).length ≤ 2 := by
  unfold Lib.decDigits
  split
  · simp
  · rw [List.length_append]
    unfold Lib.decDigits
    rw [dif_pos (by omega)]
    simp

theorem hTx_len {x : Sc} {k n : Int} (hN : NamesOk x) (h : goodH x k n) : (hTx x k n).length ≤ 25 := by
  obtain ⟨h0, h1⟩ := h
  unfold hTx
  rcases h1 with ⟨rfl, h1⟩ | ⟨rfl, h1⟩ | ⟨rfl, h1⟩
  · rw [if_pos rfl]
    have := dec_len n.toNat (by omega)
    simp only [List.length_cons]; omega
  · rw [if_neg (by decide), if_pos rfl]
    have := hN.1 n.toNat (by omega)
    have e : (x.F.nm n.toNat).size = (x.F.nm n.toNat).data.toList.length := (Array.length_toList).symm
    omega
  · rw [if_neg (by decide), if_neg (by decide)]
    have := hN.2 n.toNat (by omega)
    have e : (x.S.nm n.toNat).size = (x.S.nm n.toNat).data.toList.length := (Array.length_toList).symm
    simp only [List.length_cons]; omega

theorem aTx_len {x : Sc} (hN : NamesOk x) : ∀ {a : X}, goodX x a → (aTx x a).length ≤ 28 * a.sz
  | .nil, _ => by simp [aTx]
  | .cons k n a r, h => by
    obtain ⟨h1, h2, h3⟩ := h
    have l1 := hTx_len hN h1
    have l2 := aTx_len hN h2
    have l3 := aTx_len hN h3
    simp only [aTx, List.length_append, X.sz]
    split <;> simp only [List.length_cons, List.length_append, List.length_nil] <;> omega

theorem cons_str (c : UInt8) (l : List UInt8) : (⟨#[c]⟩ : ByteArray) ++ (⟨l.toArray⟩ : ByteArray) = ⟨(c :: l).toArray⟩ := by
  apply ByteArray.ext
  simp

theorem str_self (s : ByteArray) : (⟨s.data.toList.toArray⟩ : ByteArray) = s := by
  apply ByteArray.ext
  simp

theorem rowF_name {w : World} {F : Fu} {p : Option Addr} {n c i : Nat} (h : IsF w F p n c) (hi : i < F.len) : ∃ b off, p = some ⟨b, off, none⟩ ∧ w.cell? ⟨b, off + i * 5, none⟩ = some (.string (F.nm i)) := by
  obtain ⟨hn, _, _, _, hrow⟩ := h
  rcases hrow with h1 | ⟨b, off, e, hr⟩
  · omega
  · obtain ⟨_, _, _, _, _, _, g1, _⟩ := hr i hi
    exact ⟨b, off, e, g1⟩

theorem rowS_name {w : World} {S : Sy} {p : Option Addr} {n c i : Nat} (h : IsS w S p n c) (hi : i < S.len) : ∃ b off, p = some ⟨b, off, none⟩ ∧ w.cell? ⟨b, off + i * 2, none⟩ = some (.string (S.nm i)) := by
  obtain ⟨hn, _, _, _, hrow⟩ := h
  rcases hrow with h1 | ⟨b, off, e, hr⟩
  · omega
  · exact ⟨b, off, e, (hr i hi).1⟩

set_option maxRecDepth 100000 in
set_option maxHeartbeats 2000000 in
theorem shead_any (x : Sc) (a : At2) (k n : Int) (w : World) (q : Option Addr) (l d : Nat) (h : IsC w x a) (hg : goodH x k n) (hN : NamesOk x) :
    Calls Tryz.prog 93 #[.agg #[.slice a.sp a.sn a.sc, .slice a.fp a.fn a.fc], .agg #[.int .i64 k, .int .i64 n, .slice q l d]] w fun e w' => e = .returned (.string ⟨(hTx x k n).toArray⟩) ∧ Below w.heap.size w w' := by
  obtain ⟨sp, sn, sc, fp, fn, fc⟩ := a
  obtain ⟨hS, hF⟩ := id h
  dsimp only at hS hF ⊢
  obtain rfl : fn = x.F.len := hF.1
  obtain rfl : sn = x.S.len := hS.1
  have B0 : Below w.heap.size w ((w.alloc (.cells #[.slice sp x.S.len sc, .slice fp x.F.len fc] 25)).alloc (.cells #[.int .i64 k, .int .i64 n, .slice q l d] 50)) := ((Below.refl _ _).alloc (Nat.le_refl _) _).alloc (by simp) _
  have HB := Lib.hid B0
  obtain ⟨h0, h1⟩ := hg
  obtain ⟨m, rfl⟩ : ∃ m : Nat, n = m := ⟨n.toNat, by omega⟩
  rcases h1 with ⟨rfl, h1⟩ | ⟨rfl, h1⟩ | ⟨rfl, h1⟩
  · have e : hTx x 0 (m : Int) = 36 :: Lib.decDigits m := by unfold hTx; rw [if_pos rfl, Int.toNat_natCast]
    rw [e]
    have HI := Lib.hid fun W => itoa_any m (by omega) W
    have hl := dec_len m (by omega)
    clear e h hS hF B0
    go_enter Tryz.func93, Tryz.ntmps93
    go_wp2_with fail
    refine (HI.out _).mono ?_
    rintro e w1 ⟨rfl, rfl⟩
    go_wp2_with fail
    go_ret
    exact ⟨congrArg (fun z => Ending.returned (.string z)) (cons_str _ _), HB.out⟩
  · have e : hTx x 1 (m : Int) = (x.F.nm m).data.toList := by unfold hTx; rw [if_neg (by decide), if_pos rfl, Int.toNat_natCast]
    rw [e]
    obtain ⟨b, off, rfl, hc⟩ := rowF_name hF (show m < x.F.len by omega)
    have hc2 := ((bcell B0).1 _ _ (lt_of_cell hc)).trans hc
    have hlt : m < x.F.len := by omega
    clear e h hS hF hc B0
    go_enter Tryz.func93, Tryz.ntmps93
    go_wp2_with fail
    go_ret
    exact ⟨congrArg (fun z => Ending.returned (.string z)) (str_self _).symm, HB.out⟩
  · have e : hTx x 2 (m : Int) = 35 :: (x.S.nm m).data.toList := by unfold hTx; rw [if_neg (by decide), if_neg (by decide), Int.toNat_natCast]
    rw [e]
    obtain ⟨b, off, rfl, hc⟩ := rowS_name hS (show m < x.S.len by omega)
    have hl := hN.2 m (by omega)
    have hc2 := ((bcell B0).1 _ _ (lt_of_cell hc)).trans hc
    have hlt : m < x.S.len := by omega
    clear e h hS hF hc B0
    go_enter Tryz.func93, Tryz.ntmps93
    go_wp2_with fail
    go_ret
    exact ⟨congrArg (fun z => Ending.returned (.string z)) (by apply ByteArray.ext; simp), HB.out⟩

theorem goodX_at {x : Sc} {a : X} {i : Nat} (h : goodX x a) (hi : i < a.len) : goodH x (a.gk i) (a.gn i) ∧ goodX x (a.ga i) := X.AllX.at h hi

set_option maxRecDepth 100000 in
set_option maxHeartbeats 4000000 in
theorem sspell_any (x : Sc) (a0 : At2) (hN : NamesOk x) (N : Nat) : ∀ (a : X) (k n : Int) (w : World) (p : Option Addr) (l cap : Nat), a.sz < N → a.sz ≤ 1000 → IsC w x a0 → goodH x k n → goodX x a → IsX w a p l cap →
    Calls Tryz.prog 51 #[.agg #[.slice a0.sp a0.sn a0.sc, .slice a0.fp a0.fn a0.fc], .agg #[.int .i64 k, .int .i64 n, .slice p l cap]] w fun e w' => e = .returned (.string ⟨(tTx x k n a).toArray⟩) ∧ Below w.heap.size w w' := by
  induction N with
  | zero => intro a k n w p l cap h; omega
  | succ N ih =>
    intro a k n w p l cap hN1 h1000 hC hgh hgx his
    have hlen := a.len_le_sz
    obtain ⟨hn, hcap, hmax, hnil, hrow⟩ := his
    subst hn
    have IH := Lib.hid ih
    clear ih
    have HH := Lib.hid fun k n W q l d h hg => shead_any x a0 k n W q l d h hg hN
    have hhl := hTx_len hN hgh
    have hal := aTx_len hN hgx
    have B2 : Below w.heap.size w ((w.alloc (.cells #[.slice a0.sp a0.sn a0.sc, .slice a0.fp a0.fn a0.fc] 25)).alloc (.cells #[.int .i64 k, .int .i64 n, .slice p a.len cap] 50)) := ((Below.refl _ _).alloc (Nat.le_refl _) _).alloc (by simp) _
    have HC := Lib.hid hC
    have HGX := Lib.hid hgx
    have HGH := Lib.hid hgh
    have hib := Lib.fresh_isBuilder 75 5 ((w.alloc (.cells #[.slice a0.sp a0.sn a0.sc, .slice a0.fp a0.fn a0.fc] 25)).alloc (.cells #[.int .i64 k, .int .i64 n, .slice p a.len cap] 50))
    simp only [World.size_alloc] at hib
    clear hC hgx hgh
    go_enter Tryz.func51, Tryz.ntmps51
    go_wp2_with fail
    refine (HH.out _ _ _ _ _ _ (HC.out.below (B2.alloc (by simp; omega) _)) HGH.out).mono ?_
    rintro e w1 ⟨rfl, hb1⟩
    have hz1 := hb1.size
    simp only [World.size_alloc] at hz1
    have hi1 := isBuilder_keep hib hb1
    have B3 : Below (w.heap.size + 1 + 1) ((w.alloc (.cells #[.slice a0.sp a0.sn a0.sc, .slice a0.fp a0.fn a0.fc] 25)).alloc (.cells #[.int .i64 k, .int .i64 n, .slice p a.len cap] 50)) w1 :=
      ((Below.refl _ _).alloc (by simp) _).trans (hb1.mono (by simp))
    have HI1 := Lib.hid (And.intro hi1 B3)
    clear hi1 B3 hib hb1
    go_wp2_with fail
    refine (writeString (w.heap.size + 1 + 1) (w.heap.size + 1 + 1) _ _ _ HI1.out.1 (len_ok (d := []) rfl (by simp only [List.length_nil]; omega)) (by omega)).mono ?_
    rintro e w2 ⟨rfl, hw2, hb2⟩
    have hi2 := wrote (d := []) rfl rfl hw2
    have B4 := HI1.out.2.trans hb2
    simp only [List.nil_append] at hi2
    obtain ⟨bx1, bx2⟩ := box_two1 B4
    obtain ⟨⟨y1, y2, y3⟩, _⟩ := term_box bx2
    have HI2 := Lib.hid (And.intro hi2 B4)
    clear hi2 B4 hw2 hb2 HI1 bx1 bx2
    go_wp2_with fail
    go_loopw [15] (fun i wr => ∃ (j : Nat) (d : List UInt8), j ≤ a.len ∧ i = .int .i64 (j : Int) ∧ d ++ aTx x (a.drop j) = tTx x k n a ∧ Lib.IsBuilder 75 5 (w.heap.size + 1 + 1) (w.heap.size + 1 + 1) (Lib.byteCells d) wr ∧
        Below (w.heap.size + 1 + 1) ((w.alloc (.cells #[.slice a0.sp a0.sn a0.sc, .slice a0.fp a0.fn a0.fc] 25)).alloc (.cells #[.int .i64 k, .int .i64 n, .slice p a.len cap] 50)) wr)
      (fun i _ => a.len - (Go.RowKit.intOf i).toNat)
    case atStart => exact ⟨0, hTx x k n, Nat.zero_le _, rfl, by rw [X.drop_zero]; rfl, HI2.out.1, HI2.out.2⟩
    case round =>
      clear HI2 y1 y2 y3
      obtain ⟨j, d, hj, rfl, hmo, hib, hb⟩ := hrel
      have hdl : d.length ≤ 28025 := by have := congrArg List.length hmo; simp only [tTx, List.length_append] at this; omega
      have HM := Lib.hid hmo
      have HI := Lib.hid hib
      have HB := Lib.hid hb
      have hz := hb.size
      simp only [World.size_alloc] at hz
      obtain ⟨bx1, bx2⟩ := box_two1 hb
      have s1 := fun o => (two_box (alloc_kept bx1 o)).1.1
      have s2 := fun o => (two_box (alloc_kept bx1 o)).1.2
      have hCr : IsC wr x a0 := HC.out.below (B2.trans (hb.mono (by omega)))
      have HCr := Lib.hid hCr
      clear hmo hib hb bx1 bx2 hCr
      by_cases hlt : j < a.len
      · rcases hrow with h0 | ⟨b, off, rfl, hr⟩
        · omega
        obtain ⟨hck, hcn, p', n', cap', hc, hi⟩ := base3_at (keeps3_two HB.out) hr hlt
        have hsz := a.sz_ga j hlt
        obtain ⟨hgj, hgxj⟩ := goodX_at HGX.out hlt
        have hl1 := hTx_len hN hgj
        have hl2 := aTx_len hN hgxj
        have hdrop := aTx_drop x a j hlt
        have hln' := hi.1
        have HDR := Lib.hid hdrop
        have HGJ := Lib.hid (And.intro hgj hgxj)
        have HXi := Lib.hid hi
        clear hdrop hgj hgxj hi
        generalize hka : a.gk j = ka at hck HDR HGJ hl1
        generalize hna : a.gn j = na at hcn HDR HGJ hl1
        generalize haa : a.ga j = aa at HDR HGJ HXi hl2 hsz hln'
        clear hka hna haa
        by_cases h0 : aa.len = 0
        · have hd : ((n' : Int) == 0) = true := by rw [hln']; simp [h0]
          have hmo2 : (d ++ 32 :: hTx x ka na) ++ aTx x (a.drop (j + 1)) = tTx x k n a := by
            rw [← HM.out, HDR.out, if_pos h0]; simp
          have HM2 := Lib.hid hmo2
          clear hmo2 h0 HDR HM hln'
          go_wp2_with fail
          refine (HH.out _ _ _ _ _ _ (HCr.out.alloc _) HGJ.out.1).mono ?_
          rintro e w3 ⟨rfl, hb3⟩
          have hz3 := hb3.size
          simp only [World.size_alloc] at hz3
          have hi3 := isBuilder_keep (isBuilder_alloc HI.out (.cells #[.int .i64 ka, .int .i64 na, .slice p' n' cap'] 50)) hb3
          have B5 := (HB.out.alloc (by omega) (.cells #[.int .i64 ka, .int .i64 na, .slice p' n' cap'] 50)).trans (hb3.mono (by simp; omega))
          clear hb3
          go_wp2_with fail
          refine (writeString (w.heap.size + 1 + 1) (w.heap.size + 1 + 1) _ _ _ hi3 (len_ok (l := 32 :: hTx x ka na) (by simp) (by simp only [List.length_cons]; omega)) (by omega)).mono ?_
          rintro e w4 ⟨rfl, hw4, hb4⟩
          have hi4 := wrote (l := 32 :: hTx x ka na) rfl (by simp) hw4
          have HI4 := Lib.hid (And.intro hi4 (B5.trans hb4))
          clear hi4 hw4 hb4 hi3 B5
          go_wp2_with fail
          go_roundw
          case rel => exact ⟨j + 1, _, by omega, by go_num, HM2.out, HI4.out.1, HI4.out.2⟩
          case measure => simp [Go.RowKit.intOf]; omega
        · have hd : ((n' : Int) == 0) = false := by rw [hln']; simp; omega
          have hmo2 : (d ++ 32 :: 40 :: (tTx x ka na aa ++ [41])) ++ aTx x (a.drop (j + 1)) = tTx x k n a := by
            rw [← HM.out, HDR.out, if_neg h0]; simp [tTx]
          have htl : (tTx x ka na aa).length ≤ 28025 := by unfold tTx; rw [List.length_append]; omega
          have HM2 := Lib.hid hmo2
          have HIH := Lib.hid fun W hC hX => IH.out aa ka na W p' n' cap' (by omega) (by omega) hC HGJ.out.1 HGJ.out.2 hX
          generalize tTx x ka na aa = tt at HM2 HIH htl
          clear hmo2 h0 HDR HM hln'
          go_wp2_with fail
          refine (HIH.out _ (HCr.out.alloc _) (HXi.out.alloc _)).mono ?_
          rintro e w3 ⟨rfl, hb3⟩
          have hz3 := hb3.size
          simp only [World.size_alloc] at hz3
          have hi3 := isBuilder_keep (isBuilder_alloc HI.out (.cells #[.int .i64 ka, .int .i64 na, .slice p' n' cap'] 50)) hb3
          have B5 := (HB.out.alloc (by omega) (.cells #[.int .i64 ka, .int .i64 na, .slice p' n' cap'] 50)).trans (hb3.mono (by simp; omega))
          clear hb3
          go_wp2_with fail
          refine (writeString (w.heap.size + 1 + 1) (w.heap.size + 1 + 1) _ _ _ hi3 (len_ok (l := 32 :: 40 :: (tt ++ [41])) (by simp) (by simp only [List.length_cons, List.length_append, List.length_nil]; omega)) (by omega)).mono ?_
          rintro e w4 ⟨rfl, hw4, hb4⟩
          have hi4 := wrote (l := 32 :: 40 :: (tt ++ [41])) rfl (by simp) hw4
          have HI4 := Lib.hid (And.intro hi4 (B5.trans hb4))
          clear hi4 hw4 hb4 hi3 B5
          go_wp2_with fail
          go_roundw
          case rel => exact ⟨j + 1, _, by omega, by go_num, HM2.out, HI4.out.1, HI4.out.2⟩
          case measure => simp [Go.RowKit.intOf]; omega
      · have hmo2 : d = tTx x k n a := by
          have := HM.out
          rw [X.drop_end a j (by omega)] at this
          simpa [aTx] using this
        subst hmo2
        go_wp2_with fail
        refine (builderString (w.heap.size + 1 + 1) (w.heap.size + 1 + 1) _ _ HI.out (by omega)).mono ?_
        rintro e w3 ⟨rfl, hb3⟩
        go_wp2_with fail
        go_ret
        exact ⟨rfl, B2.trans ((HB.out.trans hb3).mono (by omega))⟩

end Go.Proofs.YtjkcopgfcafpeaaGreatDoor

/-
  Plain mathematics of a scheme's string: what a scheme that is valid gives for its names, heads and lengths. Conditions: none.
-/
set_option linter.unusedSimpArgs false
set_option linter.unusedVariables false
namespace Go.Proofs.YtjkcopgfcafpeaaGreatDoor
open Go.RowKit Go.Maps

def symL (x : Sc) (i : Nat) : List UInt8 := [115, 121, 109, 98, 111, 108, 32] ++ ((x.S.nm i).data.toList ++ (32 :: (Lib.decDigits (x.S.rk i).toNat ++ [10])))

def symsL (x : Sc) : Nat → Nat → List UInt8
  | _, 0 => []
  | i, m + 1 => symL x i ++ symsL x (i + 1) m

def funL (x : Sc) (i : Nat) : List UInt8 := [102, 117, 110, 32] ++ ((x.F.nm i).data.toList ++ ([32, 58, 32] ++ ((x.F.st i).pT ++ ([32, 61, 32] ++ (tTx x (x.F.bk i) (x.F.bn i) (x.F.bt i) ++ [10])))))

def funsL (x : Sc) : Nat → Nat → List UInt8
  | _, 0 => []
  | i, m + 1 => funL x i ++ funsL x (i + 1) m

/-- the string of a scheme -/
def putL (x : Sc) : List UInt8 := symsL x 0 x.S.len ++ funsL x 0 x.F.len

def putE (x : Sc) : Int := if scOk x = true then (if 65536 < (putL x).length then 3 else 0) else 7

def putT (x : Sc) : List UInt8 := if scOk x = true then (if 65536 < (putL x).length then [] else putL x) else []

/-- what a valid scheme gives -/
structure Good (x : Sc) : Prop where
  names : NamesOk x
  rank : ∀ i, i < x.S.len → 0 ≤ x.S.rk i ∧ x.S.rk i ≤ 4
  syms : x.S.len ≤ 24
  funs : x.F.len ≤ 64
  some : 0 < x.F.len
  head : ∀ i, i < x.F.len → goodH x (x.F.bk i) (x.F.bn i)
  body : ∀ i, i < x.F.len → goodX x (x.F.bt i)
  size : ∀ i, i < x.F.len → (x.F.bt i).sz ≤ 400
  sort : ∀ i, i < x.F.len → (x.F.st i).valid = true

theorem goodH_of {x : Sc} {P : T} {k n : Int} (hP : P.len < 100) (h : (hdT (x.pl P) k n).2 = true) : goodH x k n := by
  unfold hdT at h
  split at h
  · exact absurd h (by simp)
  · rename_i h0
    refine ⟨by omega, ?_⟩
    split at h
    · rename_i hk
      split at h
      · rename_i h1
        change n < (P.len : Int) at h1
        exact Or.inl ⟨hk, by omega⟩
      · exact absurd h (by simp)
    · split at h
      · rename_i hk
        split at h
        · rename_i h1
          change n < ((stsF x.F 0 x.F.len).len : Int) at h1
          rw [stsF_len] at h1
          exact Or.inr (Or.inl ⟨hk, h1⟩)
        · exact absurd h (by simp)
      · split at h
        · rename_i hk
          split at h
          · rename_i h1
            exact Or.inr (Or.inr ⟨hk, h1⟩)
          · exact absurd h (by simp)
        · exact absurd h (by simp)

theorem suit_head {x : Pl} {k n : Int} {a : X} (h : suit x k n a = true) : (hdT x k n).2 = true := by
  unfold suit at h
  rw [Bool.and_eq_true] at h
  have h1 := h.1
  unfold rsT at h1
  split at h1
  · rename_i h2; exact h2.1
  · exact absurd h1 (by simp)

theorem goodX_of {x : Sc} {P : T} (hP : P.len < 100) : ∀ {a : X}, allB (suit (x.pl P)) a = true → goodX x a
  | .nil, _ => trivial
  | .cons k n a r, h => by
    simp only [allB, Bool.and_eq_true] at h
    exact ⟨goodH_of hP (suit_head h.1.1), goodX_of hP h.1.2, goodX_of hP h.2⟩

theorem bodiesOk_at (x : Sc) : ∀ (m i : Nat), bodiesOk x i m = true → ∀ j, i ≤ j → j < i + m → bodyOk x j = true := by
  intro m
  induction m with
  | zero => intro i _ j h1 h2; omega
  | succ m ih =>
    intro i h j h1 h2
    simp only [bodiesOk, Bool.and_eq_true] at h
    by_cases he : j = i
    · rw [he]; exact h.1
    · exact ih (i + 1) h.2 j (by omega) (by omega)

theorem nm_size {s : ByteArray} (h : nm s = true) : s.size ≤ 24 := by
  simp only [nm, Bool.and_eq_true, decide_eq_true_eq] at h
  exact h.1.1.2

theorem symOk_name {S : Sy} {i : Nat} (h : symOk S i = true) : nm (S.nm i) = true := by
  simp only [symOk, Bool.and_eq_true] at h
  exact h.1.1.1

theorem valid_len8 {t : T} (h : t.valid = true) : t.len < 100 := by
  have h1 := T.valid_nodes _ h
  have h2 := t.len_lt_nodes
  omega

theorem good_of {x : Sc} (h : scOk x = true) : Good x := by
  simp only [scOk, Bool.and_eq_true, Bool.not_eq_true', decide_eq_false_iff_not] at h
  obtain ⟨⟨⟨⟨⟨h1, h2⟩, h3⟩, h4⟩, h5⟩, h6⟩ := h
  simp only [plOk, Bool.and_eq_true, validL] at h5
  obtain ⟨⟨h51, _, h52⟩, _⟩ := h5
  have hs := h51
  change symsOk x.S = true at hs
  have hv : ∀ i, i < x.F.len → (x.F.st i).valid = true := fun i hi => by
    have := allV_at (t := stsF x.F 0 x.F.len) (i := i) h52 (by rw [stsF_len]; exact hi)
    rwa [stsF_get _ _ _ _ hi, Nat.zero_add] at this
  have hb : ∀ i, i < x.F.len → bodyOk x i = true := fun i hi => bodiesOk_at x _ _ h6 i (Nat.zero_le _) (by omega)
  have hbd : ∀ i, i < x.F.len → (x.F.bt i).sz ≤ 400 ∧ (suit (x.pl (x.F.st i)) (x.F.bk i) (x.F.bn i) (x.F.bt i) = true ∧ allB (suit (x.pl (x.F.st i))) (x.F.bt i) = true) := fun i hi => by
    have := hb i hi
    simp only [bodyOk, fitsB, Bool.and_eq_true, Bool.not_eq_true', decide_eq_false_iff_not, decide_eq_true_eq] at this
    obtain ⟨⟨g1, g2⟩, g3, g4⟩ := this
    refine ⟨?_, ?_⟩
    · unfold X.szN at g1
      split at g1 <;> omega
    · unfold sortRes at g3
      split at g3
      · split at g3
        · split at g3
          · rename_i g; rwa [Bool.and_eq_true] at g
          · exact absurd g3 (by simp)
        · exact absurd g3 (by simp)
      · exact absurd g3 (by simp)
  have h8 : ∀ i, i < x.F.len → (x.F.st i).len < 100 := fun i hi => valid_len8 (hv i hi)
  refine ⟨⟨fun i hi => ?_, fun i hi => ?_⟩, fun i hi => symsOk_rank hs hi, ?_, by omega, by omega, fun i hi => goodH_of (h8 i hi) (suit_head (hbd i hi).2.1), fun i hi => goodX_of (h8 i hi) (hbd i hi).2.2, fun i hi => (hbd i hi).1, hv⟩
  · have := symFrom_at x.F.sy x.F.len 0 h3 i (Nat.zero_le _) (by omega)
    exact nm_size (symOk_name this)
  · simp only [symsOk, Bool.and_eq_true] at hs
    have := symFrom_at x.S x.S.len 0 hs.2 i (Nat.zero_le _) (by omega)
    exact nm_size (symOk_name this)
  · simp only [symsOk, Bool.and_eq_true, decide_eq_true_eq] at hs
    exact hs.1

theorem size_list (s : ByteArray) : s.data.toList.length = s.size := Array.length_toList

theorem symL_len {x : Sc} (h : Good x) {i : Nat} (hi : i < x.S.len) : (symL x i).length ≤ 40 := by
  have h1 := h.names.2 i hi
  have h2 := h.rank i hi
  have h3 := dec_len (x.S.rk i).toNat (by omega)
  simp only [symL, List.length_append, List.length_cons, List.length_nil, size_list]
  omega

theorem symsL_len {x : Sc} (h : Good x) : ∀ (m i : Nat), i + m ≤ x.S.len → (symsL x i m).length ≤ 40 * m
  | 0, _, _ => Nat.zero_le _
  | m + 1, i, hi => by
    have h1 := symL_len h (show i < x.S.len by omega)
    have h2 := symsL_len h m (i + 1) (by omega)
    simp only [symsL, List.length_append]
    omega

theorem pT_len {t : T} (h : t.valid = true) : t.pT.length ≤ 420 := by
  have h1 := t.txt_len
  have h2 := T.valid_nodes _ h
  simp only [T.pT, h, if_true]
  omega

theorem tTx_len {x : Sc} (h : NamesOk x) {k n : Int} {a : X} (hh : goodH x k n) (ha : goodX x a) : (tTx x k n a).length ≤ 25 + 28 * a.sz := by
  have h1 := hTx_len h hh
  have h2 := aTx_len h ha
  simp only [tTx, List.length_append]
  omega

theorem funL_len {x : Sc} (h : Good x) {i : Nat} (hi : i < x.F.len) : (funL x i).length ≤ 12000 := by
  have h1 := h.names.1 i hi
  have h2 := tTx_len h.names (h.head i hi) (h.body i hi)
  have h3 := h.size i hi
  have h4 := pT_len (h.sort i hi)
  simp only [funL, List.length_append, List.length_cons, List.length_nil, size_list]
  omega

theorem funsL_len {x : Sc} (h : Good x) : ∀ (m i : Nat), i + m ≤ x.F.len → (funsL x i m).length ≤ 12000 * m
  | 0, _, _ => Nat.zero_le _
  | m + 1, i, hi => by
    have h1 := funL_len h (show i < x.F.len by omega)
    have h2 := funsL_len h m (i + 1) (by omega)
    simp only [funsL, List.length_append]
    omega

theorem putL_len {x : Sc} (h : Good x) : (putL x).length ≤ 1000000 := by
  have h1 := symsL_len h x.S.len 0 (by omega)
  have h2 := funsL_len h x.F.len 0 (by omega)
  have h3 := h.syms
  have h4 := h.funs
  simp only [putL, List.length_append]
  omega

theorem len_ok6 {d l : List UInt8} {x : ByteArray} (hx : x.data.toList = l) (h : d.length + l.length ≤ 10000000) : (Lib.byteCells d).length + x.size ≤ 140737488355328 := by
  subst hx
  rw [Lib.byteCells_length]
  have : x.size = x.data.toList.length := (Array.length_toList).symm
  omega

end Go.Proofs.YtjkcopgfcafpeaaGreatDoor

/-
  The walk of Put: what it answers, for whatever scheme. Conditions: none but that the scheme lies in memory.
-/
set_option linter.unusedSimpArgs false
set_option linter.unusedVariables false
namespace Go.Proofs.YtjkcopgfcafpeaaGreatDoor
open Go.Shelf Go.RowKit Go.Maps

def lays170_ren : Go.Shelf.Ren := ⟨fun | 170 => 52 | n => n, fun | 0 => 0 | 3 => 3 | 37 => 73 | 70 => 72 | 72 => 75 | 5 => 5 | n => n, fun | n => n⟩
theorem lays170 : Go.Proofs.Lays.n170 Tryz.prog lays170_ren := {
  mixed := by kernel_rfl
  f170 := Tryz.func52.trans (congrArg some (by kernel_rfl))
  t0 := Tryz.underlying0
  a0 := Tryz.isAgg0
  z0 := Tryz.sizeOf0
  v0 := Tryz.zeroValue0
  t3 := Tryz.underlying3
  a3 := Tryz.isAgg3
  z3 := Tryz.sizeOf3
  v3 := Tryz.zeroValue3
  t37 := Tryz.underlying73
  a37 := Tryz.isAgg73
  z37 := Tryz.sizeOf73
  v37 := Tryz.zeroValue73
  t70 := Tryz.underlying72
  a70 := Tryz.isAgg72
  z70 := Tryz.sizeOf72
  v70 := Tryz.zeroValue72
  t72 := Tryz.underlying75
  a72 := Tryz.isAgg75
  z72 := Tryz.sizeOf75
  v72 := Tryz.zeroValue75 }

/-- b.Len() -/
theorem builderLen (B b : Nat) (l : List UInt8) (w : World) (h : Lib.IsBuilder 75 5 B b (Lib.byteCells l) w) :
    Calls Tryz.prog 52 #[.pointer (some ⟨b, 0, none⟩)] w fun e w' => e = .returned (.int .i64 (l.length : Int)) ∧ w = w' := by
  refine (Any.Builder_Len lays170 B b _ w h).mono ?_
  rintro e w' ⟨rfl, rfl⟩
  exact ⟨by rw [Lib.byteCells_length], rfl⟩

/-- copyCheck on a builder whose slice is v: only the builder's first cell may change -/
theorem copyCheckK (b : Nat) (p v : Value) (w : World) (hbk : w.heap[b]? = some (.cells #[p, v] 75 (0, 0))) (hp : p = .pointer none ∨ p = .pointer (some ⟨b, 0, none⟩)) :
    Calls Tryz.prog 90 #[.pointer (some ⟨b, 0, none⟩)] w fun e w' => e = .returned (.tuple #[]) ∧ w'.heap[b]? = some (.cells #[.pointer (some ⟨b, 0, none⟩), v] 75 (0, 0)) ∧ Below b w w' ∧ (∀ j, j ≠ b → w'.heap[j]? = w.heap[j]?) := by
  rcases hp with rfl | rfl
  · refine (Any.Builder_copyCheck_fresh { lays166 with } extra166.toX72 b w (by simp [World.cell?, hbk]) (by simp [World.shape?, hbk]; decide) (by simp [World.frozen?, hbk])).mono ?_
    rintro e w' ⟨rfl, rfl⟩
    refine ⟨rfl, ?_, (Below.refl _ _).setCell (p := ⟨b, 0, none⟩) (Nat.le_refl _) _, fun j hj => Below.heap_setCell _ _ _ _ (by exact hj)⟩
    simp [World.setCell, Array.getElem?_modify, hbk]
  · refine (Any.Builder_copyCheck_used { lays166 with } extra166.toX72 b w (by simp [World.cell?, hbk])).mono ?_
    rintro e w' ⟨rfl, rfl⟩
    exact ⟨rfl, hbk, Below.refl _ _, fun j _ => rfl⟩

set_option maxRecDepth 100000 in
set_option maxHeartbeats 2000000 in
/-- WriteString: what else lies in memory stays as it was -/
theorem writeStringK (B b : Nat) (p v : Value) (bs : List Value) (s : ByteArray) (w : World) (hB : B ≤ b) (hbk : w.heap[b]? = some (.cells #[p, v] 75 (0, 0))) (hp : p = .pointer none ∨ p = .pointer (some ⟨b, 0, none⟩))
    (hown : w.ownsRow B 5 1 v bs.length bs) (hne : v.ownBlock ≠ some b) (hlen : bs.length + s.size ≤ 140737488355328) (hBw : B ≤ w.heap.size) :
    Calls Tryz.prog 48 #[.pointer (some ⟨b, 0, none⟩), .string s] w fun e w' => e = .returned (.tuple #[.int .i64 s.size, .nilIface]) ∧
      Lib.BuilderAt 75 5 B b (.pointer (some ⟨b, 0, none⟩)) (bs ++ Lib.strCells s) w' ∧ Below B w w' ∧ (∀ j, j < w.heap.size → j ≠ b → v.ownBlock ≠ some j → w'.heap[j]? = w.heap[j]?) := by
  obtain ⟨i0, hi0, hz0, hz1, hz2⟩ := info_parts extra166.infoByte
  have hsz := hlen
  have HK := Lib.hid (copyCheckK b p v w hbk hp)
  have HO := Lib.hid (And.intro hbk (And.intro hown hne))
  have hbl := lt_of_block hbk
  clear hbk hown hne
  go_enter Tryz.func48, Tryz.ntmps48
  go_wp2_with fail
  refine HK.out.mono ?_
  rintro e w1 ⟨rfl, hb1, hbel, hk1⟩
  have hown1 : w1.ownsRow B 5 1 v bs.length bs := HO.out.2.1.kept (row := some b) ⟨hbel.os, hbel.tape, hbel.output, hbel.size, fun k _ hk => hk1 k (fun e => hk (by rw [e]))⟩ (Or.inr HO.out.2.2)
  have hz := hbel.size
  have c1 : w1.cell? ⟨b, 1, none⟩ = some v := by simp [World.cell?, hb1]
  have HO1 := Lib.hid (And.intro hb1 (And.intro hbel hk1))
  clear hb1 hbel hk1
  go_wp2_with (at_builtin; refine Lib.wpList_append_own_string _ rfl _ _ 73 9 rfl B 5 i0 Tryz.underlying73 Tryz.underlying9 hi0 hz0 hz1 hz2 _ _ _ rfl hown1 s rfl ?c3 ?c4 ?c5 ?_)
  case c3 => unfold maxLen; omega
  case c4 => omega
  case c5 => omega
  intro v' w2 hown' hgrow _
  have hb2 : w2.heap[b]? = some (.cells #[.pointer (some ⟨b, 0, none⟩), v] 75 (0, 0)) := by
    rw [hgrow.block b (lt_of_block HO1.out.1) (fun e => HO.out.2.2 e.symm)]
    exact HO1.out.1
  have d1 : w2.cell? ⟨b, 1, none⟩ = some v := by simp [World.cell?, hb2]
  have f1 : w2.frozen? ⟨b, 1, none⟩ = false := by simp [World.frozen?, hb2]
  have HO2 := Lib.hid (And.intro hown' (And.intro hgrow hb2))
  clear hown' hgrow hb2
  obtain ⟨ao, n', cap, rfl⟩ : ∃ ao n' cap, v' = .slice ao n' cap := by
    rcases HO2.out.1.2 with ⟨hv, _⟩ | ⟨g, cap, cur, hv, _⟩
    · exact ⟨_, _, _, hv⟩
    · exact ⟨_, _, _, hv⟩
  go_wp2_with fail
  go_ret2
  refine ⟨rfl, ?_, ?_, ?_⟩
  · exact Lib.BuilderAt.put (T := 75) (e := 5) hB HO2.out.2.2 (bs' := bs ++ Lib.strCells s) (by simpa [Lib.strCells_length] using HO2.out.1) (by decide)
  · exact (((HO1.out.2.1.mono hB).grown HO2.out.2.1 (by omega) (fun k hk => (HO.out.2.1.lt k hk).1))).setCell (p := ⟨b, 1, none⟩) hB _
  · intro j hj hjb hjv
    rw [Below.heap_setCell _ _ _ _ (by exact hjb), HO2.out.2.1.block j (by omega) (fun e => hjv e.symm)]
    exact HO1.out.2.2 j hjb

theorem rowF_all {w : World} {F : Fu} {p : Option Addr} {n c i : Nat} (h : IsF w F p n c) (hi : i < F.len) : ∃ b off, p = some ⟨b, off, none⟩ ∧ RowF1 w F b (off + i * 5) i := by
  obtain ⟨hn, _, _, _, hrow⟩ := h
  rcases hrow with h1 | ⟨b, off, e, hr⟩
  · omega
  · exact ⟨b, off, e, hr i hi⟩

theorem rowS_all {w : World} {S : Sy} {p : Option Addr} {n c i : Nat} (h : IsS w S p n c) (hi : i < S.len) : ∃ b off, p = some ⟨b, off, none⟩ ∧ w.cell? ⟨b, off + i * 2, none⟩ = some (.string (S.nm i)) ∧ w.cell? ⟨b, off + i * 2 + 1, none⟩ = some (.int .i64 (S.rk i)) := by
  obtain ⟨hn, _, _, _, hrow⟩ := h
  rcases hrow with h1 | ⟨b, off, e, hr⟩
  · omega
  · exact ⟨b, off, e, hr i hi⟩

theorem putL_sym (x : Sc) (j : Nat) (h : j < x.S.len) : symsL x j (x.S.len - j) = symL x j ++ symsL x (j + 1) (x.S.len - (j + 1)) := by
  rw [show x.S.len - j = (x.S.len - (j + 1)) + 1 by omega]; rfl

theorem putL_fun (x : Sc) (j : Nat) (h : j < x.F.len) : funsL x j (x.F.len - j) = funL x j ++ funsL x (j + 1) (x.F.len - (j + 1)) := by
  rw [show x.F.len - j = (x.F.len - (j + 1)) + 1 by omega]; rfl

/-- the cells of a function's box -/
theorem fun_box {w : World} {b : Nat} {v0 v1 v2 v3 v4 : Value} {t : TypeId} (h : w.heap[b]? = some (.cells #[v0, v1, v2, v3, v4] t (0, 0))) :
    w.cell? ⟨b, 0, none⟩ = some v0 ∧ w.cell? ⟨b, 1, none⟩ = some v1 ∧ w.cell? ⟨b, 2, none⟩ = some v2 ∧ w.cell? ⟨b, 2 + 1, none⟩ = some v3 ∧ w.cell? ⟨b, 2 + 2, none⟩ = some v4 := by
  refine ⟨?_, ?_, ?_, ?_, ?_⟩ <;> simp [World.cell?, h]

theorem held6 {W : World} {fb sb : Nat} {v0 v1 v2 v3 v4 u0 u1 : Value} {t t' : TypeId} (h1 : W.heap[fb]? = some (.cells #[v0, v1, v2, v3, v4] t (0, 0))) (h2 : W.heap[sb]? = some (.cells #[u0, u1] t' (0, 0))) :
    W.cell? ⟨fb, 0, none⟩ = some v0 ∧ W.cell? ⟨fb, 2, none⟩ = some v2 ∧ W.cell? ⟨fb, 2 + 1, none⟩ = some v3 ∧ W.cell? ⟨fb, 2 + 2, none⟩ = some v4 ∧ W.cell? ⟨sb, 0, none⟩ = some u0 ∧ W.cell? ⟨sb, 1, none⟩ = some u1 := by
  obtain ⟨a0, a1, a2, a3, a4⟩ := fun_box h1
  obtain ⟨⟨b0, b1⟩, _⟩ := two_box h2
  exact ⟨a0, a2, a3, a4, b0, b1⟩

/-- what Put's loops keep: the string so far lies in the builder, all else is as it was -/
structure PW (w1 : World) (w : World) (a : At2) (d : List UInt8) (wr : World) : Prop where
  bld : Lib.IsBuilder 75 5 w1.heap.size w1.heap.size (Lib.byteCells d) wr
  below : Below w1.heap.size w1 wr
  lt : w1.heap.size < wr.heap.size
  start : Below w.heap.size w w1
  box : w1.heap[w.heap.size]? = some (.cells #[.slice a.sp a.sn a.sc, .slice a.fp a.fn a.fc] 25 (0, 0))

theorem PW.step {w1 w : World} {a : At2} {d : List UInt8} {wr w2 : World} (h : PW w1 w a d wr) (hb : Below wr.heap.size wr w2) : PW w1 w a d w2 :=
  ⟨isBuilder_keep h.bld hb, h.below.trans (hb.mono (Nat.le_of_lt h.lt)), by have := hb.size; have := h.lt; omega, h.start, h.box⟩

theorem PW.heap {w1 w : World} {a : At2} {d : List UInt8} {wr : World} (h : PW w1 w a d wr) : wr.heap[w.heap.size]? = some (.cells #[.slice a.sp a.sn a.sc, .slice a.fp a.fn a.fc] 25 (0, 0)) := by
  rw [h.below.block _ (lt_of_block h.box)]
  exact h.box

theorem PW.all {w1 w : World} {a : At2} {d : List UInt8} {wr : World} (h : PW w1 w a d wr) : Below w.heap.size w wr := h.start.trans (h.below.mono (by have := lt_of_block h.box; omega))

theorem PW.isC {x : Sc} {w1 w : World} {a : At2} {d : List UInt8} {wr : World} (h : PW w1 w a d wr) (hc : IsC w x a) : IsC wr x a := hc.below h.all

theorem PW.write {w1 w : World} {a : At2} {d l : List UInt8} {s : ByteArray} {wr w2 : World} (h : PW w1 w a d wr) (hs : s.data.toList = l) (hw : Lib.BuilderAt 75 5 w1.heap.size w1.heap.size (.pointer (some ⟨w1.heap.size, 0, none⟩)) (Lib.byteCells d ++ Lib.strCells s) w2) (hb : Below w1.heap.size wr w2) : PW w1 w a (d ++ l) w2 :=
  ⟨wrote rfl hs hw, h.below.trans hb, by have := hb.size; have := h.lt; omega, h.start, h.box⟩

theorem PW.drew {w1 w : World} {a : At2} {d : List UInt8} {wr : World} (h : PW w1 w a d wr) : PW w1 w a d wr.drew := h.step (below_drewN (Below.refl _ _) 1)

/-- what the loop's own blocks hold, a write into the builder leaves -/
theorem PW.writeK {w1 w : World} {a : At2} {d l : List UInt8} {s : ByteArray} {wr w4 : World} (h : PW w1 w a d wr) (hb : Below wr.heap.size wr w4) (hs : s.data.toList = l) (hlen : (Lib.byteCells d).length + s.size ≤ 140737488355328) :
    Calls Tryz.prog 48 #[.pointer (some ⟨w1.heap.size, 0, none⟩), .string s] w4 fun e w5 => e = .returned (.tuple #[.int .i64 s.size, .nilIface]) ∧ PW w1 w a (d ++ l) w5 ∧ (∀ j, wr.heap.size ≤ j → j < w4.heap.size → w5.heap[j]? = w4.heap[j]?) := by
  have P4 := h.step hb
  obtain ⟨p, hp, hB, v, hbk, hown, hne⟩ : ∃ p, (p = .pointer none ∨ p = .pointer (some ⟨w1.heap.size, 0, none⟩)) ∧ Lib.BuilderAt 75 5 w1.heap.size w1.heap.size p (Lib.byteCells d) wr := by
    rcases h.bld with h | h
    · exact ⟨_, Or.inl rfl, h⟩
    · exact ⟨_, Or.inr rfl, h⟩
  have hg : ∀ k, v.ownBlock = some k → k < wr.heap.size := fun k hk => (hown.lt k hk).2
  have hbk4 : w4.heap[w1.heap.size]? = some (.cells #[p, v] 75 (0, 0)) := (hb.block _ h.lt).trans hbk
  have hown4 : w4.ownsRow w1.heap.size 5 1 v (Lib.byteCells d).length (Lib.byteCells d) := by
    refine hown.kept (row := none) ⟨hb.os, hb.tape, hb.output, hb.size, fun k hk _ => hb.block k hk⟩ (by cases hv : v.ownBlock <;> simp)
  refine (writeStringK w1.heap.size w1.heap.size p v (Lib.byteCells d) s w4 hB hbk4 hp hown4 hne hlen (Nat.le_of_lt P4.lt)).mono ?_
  rintro e w5 ⟨rfl, hw, hb5, hk⟩
  refine ⟨rfl, P4.write hs hw hb5, fun j hj hj4 => hk j hj4 (by have := h.lt; omega) fun e => ?_⟩
  have := hg j e
  omega

end Go.Proofs.YtjkcopgfcafpeaaGreatDoor

/-
  The walk of Put: what it answers, for whatever scheme. Conditions: none but that the scheme lies in memory.
-/
set_option linter.unusedSimpArgs false
set_option linter.unusedVariables false
namespace Go.Proofs.YtjkcopgfcafpeaaGreatDoor
open Go.Shelf Go.RowKit Go.Maps

set_option maxRecDepth 100000 in
set_option maxHeartbeats 2000000 in
theorem sput_no (x : Sc) (a : At2) (w : World) (h : IsC w x a) (hno : scOk x = false) :
    Calls Tryz.prog 26 #[.agg #[.slice a.sp a.sn a.sc, .slice a.fp a.fn a.fc]] w fun e w' => e = .returned (.tuple #[.string ⟨#[]⟩, .int .i64 7]) ∧ Below w.heap.size w w' := by
  have HK := Lib.hid fun W h => scheck_any x a W h
  have he : scE x = 7 := by unfold scE; rw [hno]; rfl
  rw [he] at HK
  clear he
  go_enter Tryz.func26, Tryz.ntmps26
  go_wp2_with fail
  refine (HK.out _ (h.alloc _)).mono ?_
  rintro e w1 ⟨rfl, hb1⟩
  go_wp2_with fail
  go_ret2
  exact ⟨rfl, ((Below.refl _ _).alloc (Nat.le_refl _) _).trans (hb1.mono (by simp))⟩

set_option maxRecDepth 100000 in
set_option maxHeartbeats 8000000 in
theorem sput_ok (x : Sc) (a : At2) (w : World) (h : IsC w x a) (hg : Good x) (hz : scE x = 0) (L : List UInt8) (hL : symsL x 0 x.S.len ++ funsL x 0 x.F.len = L) (hlen : L.length ≤ 1000000) (R : Value) (hR : (if 65536 < L.length then Value.tuple #[.string ⟨#[]⟩, .int .i64 3] else .tuple #[.string ⟨L.toArray⟩, .int .i64 0]) = R) :
    Calls Tryz.prog 26 #[.agg #[.slice a.sp a.sn a.sc, .slice a.fp a.fn a.fc]] w fun e w' => e = .returned R ∧ Below w.heap.size w w' := by
  have HK := Lib.hid fun W h => scheck_any x a W h
  rw [hz] at HK
  have hS := hg.syms
  have hF := hg.funs
  have HG := Lib.hid hg
  obtain ⟨sp, sn, sc, fp, fn, fc⟩ := a
  obtain rfl : sn = x.S.len := h.1.1
  obtain rfl : fn = x.F.len := h.2.1
  have HC := Lib.hid h
  have HL := Lib.hid hL
  have HR := Lib.hid hR
  clear hz hg h hL hR
  go_enter Tryz.func26, Tryz.ntmps26
  go_wp2_with fail
  refine (HK.out _ (HC.out.alloc _)).mono ?_
  rintro e w1 ⟨rfl, hb1⟩
  have hz1 := hb1.size
  simp only [World.size_alloc] at hz1
  have hbox : w1.heap[w.heap.size]? = some (.cells #[.slice sp x.S.len sc, .slice fp x.F.len fc] 25 (0, 0)) := by
    rw [hb1.block _ (by simp)]
    exact heap_new _ _
  have P1 : PW w1 w ⟨sp, x.S.len, sc, fp, x.F.len, fc⟩ [] (w1.alloc (.cells #[.pointer none, .slice none 0 0] 75)) :=
    ⟨Lib.fresh_isBuilder 75 5 w1, (Below.refl _ _).alloc (Nat.le_refl _) _, by simp, ((Below.refl _ _).alloc (Nat.le_refl _) _).trans (hb1.mono (by simp)), hbox⟩
  obtain ⟨⟨s1, s2⟩, _⟩ := two_box P1.heap
  have HP1 := Lib.hid P1
  clear P1 hbox hb1 HK
  go_wp2_with fail
  go_loopw [20] (fun v wr => ∃ (j : Nat) (d : List UInt8), j ≤ x.S.len ∧ v = .int .i64 (j : Int) ∧ d ++ (symsL x j (x.S.len - j) ++ funsL x 0 x.F.len) = L ∧ PW w1 w ⟨sp, x.S.len, sc, fp, x.F.len, fc⟩ d wr)
    (fun v _ => x.S.len - (Go.RowKit.intOf v).toNat)
  case atStart => exact ⟨0, [], Nat.zero_le _, rfl, HL.out, HP1.out⟩
  case round =>
    clear HP1 s1 s2 HL
    obtain ⟨j, d, hj, rfl, hmo, hP⟩ := hrel
    have hdl : d.length ≤ 1000000 := by have := congrArg List.length hmo; rw [List.length_append] at this; omega
    have HM := Lib.hid hmo
    have HP := Lib.hid hP
    clear hmo hP
    by_cases hlt : j < x.S.len
    · obtain ⟨b, off, rfl, hc1, hc2⟩ := rowS_all (HP.out.isC HC.out).1 hlt
      have hn24 := HG.out.names.2 j hlt
      obtain ⟨hr0, hr4⟩ := HG.out.rank j hlt
      have hsl := symL_len HG.out hlt
      obtain ⟨m, hm⟩ : ∃ m : Nat, x.S.rk j = m := ⟨(x.S.rk j).toNat, by omega⟩
      have hst : symL x j = [115, 121, 109, 98, 111, 108, 32] ++ ((x.S.nm j).data.toList ++ (32 :: (Lib.decDigits m ++ [10]))) := by unfold symL; rw [hm, Int.toNat_natCast]
      have hmo2 : (d ++ symL x j) ++ (symsL x (j + 1) (x.S.len - (j + 1)) ++ funsL x 0 x.F.len) = L := by rw [← HM.out, putL_sym x j hlt]; simp
      rw [hm] at hc2 hr4
      have hdl2 := dec_len m (by omega)
      have HI := Lib.hid fun W => itoa_any m (by omega) W
      have HM2 := Lib.hid hmo2
      generalize symL x j = sl at hst hsl HM2
      have HST := Lib.hid hst
      clear hst hmo2 HM hm hr0
      generalize x.S.nm j = nmj at hc1 hn24 HST
      go_upto_region 8 with fail
      have hx : ((⟨#[115, 121, 109, 98, 111, 108, 32]⟩ : ByteArray) ++ nmj ++ ⟨#[32]⟩ ++ ⟨(Lib.decDigits m).toArray⟩ ++ ⟨#[10]⟩ : ByteArray).data.toList = sl := by rw [HST.out]; simp
      have hlo := len_ok6 (d := d) hx (by omega)
      have hbw : Below wr.heap.size wr ((wr.alloc (.cells #[.string nmj, .int .i64 (m : Int)] 64)).drew) := below_drewN ((Below.refl _ _).alloc (Nat.le_refl _) _) 1
      have hbx : ((wr.alloc (.cells #[.string nmj, .int .i64 (m : Int)] 64)).drew).heap[wr.heap.size]? = some (.cells #[.string nmj, .int .i64 (m : Int)] 64 (0, 0)) := heap_new _ _
      have K0 := (two_box hbx).1
      have HX := Lib.hid (And.intro hx (And.intro hlo (And.intro hbw hbx)))
      clear hx hlo hbw hbx
      have e1 : ¬ 9223372036854775807 < 7 + nmj.size := by omega
      have e2 : ¬ 9223372036854775807 < 7 + nmj.size + 1 := by omega
      have e3 : ¬ 9223372036854775807 < 7 + nmj.size + 1 + (Lib.decDigits m).length := by omega
      have e4 : ¬ 9223372036854775807 < 7 + nmj.size + 1 + (Lib.decDigits m).length + 1 := by omega
      go_region_held3 (fun W => W.cell? ⟨wr.heap.size, 0, none⟩ = some (.string nmj) ∧ W.cell? ⟨wr.heap.size, 1, none⟩ = some (.int .i64 (m : Int)))
        (first | exact K0 | exact K4)
        (first
        | (go_at_call 49; refine (HI.out _).mono ?_; rintro e w3 ⟨rfl, rfl⟩)
        | (go_at_call 48; refine (HP.out.writeK HX.out.2.2.1 HX.out.1 HX.out.2.1).mono ?_; rintro e w4 ⟨rfl, P4, hk4⟩; have K4 := (two_box ((hk4 _ (Nat.le_refl _) (lt_of_block HX.out.2.2.2)).trans HX.out.2.2.2)).1))
      all_goals
        go_wp2_with fail
        go_roundw
        case rel => exact ⟨j + 1, _, by omega, by go_num, HM2.out, P4⟩
        case measure => simp [Go.RowKit.intOf]; omega
    · have hmo2 : d ++ funsL x 0 x.F.len = L := by
        have := HM.out
        rw [show x.S.len - j = 0 by omega] at this
        simpa [symsL] using this
      have s1 := (two_box HP.out.heap).1.1
      have s2 := (two_box HP.out.heap).1.2
      have HM2 := Lib.hid hmo2
      clear hmo2 HM hdl
      go_wp2_with fail
      clear s1 s2
      go_loopw [38] (fun v wr => ∃ (j : Nat) (d : List UInt8), j ≤ x.F.len ∧ v = .int .i64 (j : Int) ∧ d ++ funsL x j (x.F.len - j) = L ∧ PW w1 w ⟨sp, x.S.len, sc, fp, x.F.len, fc⟩ d wr)
        (fun v _ => x.F.len - (Go.RowKit.intOf v).toNat)
      case atStart => exact ⟨0, d, Nat.zero_le _, rfl, HM2.out, HP.out⟩
      case round =>
        clear HM2 HP hj hlt
        obtain ⟨j, d, hj, rfl, hmo, hP⟩ := hrel
        have hdl : d.length ≤ 1000000 := by have := congrArg List.length hmo; rw [List.length_append] at this; omega
        have HM := Lib.hid hmo
        have HP := Lib.hid hP
        clear hmo hP
        by_cases hlt : j < x.F.len
        · obtain ⟨b, off, rfl, hrow⟩ := rowF_all (HP.out.isC HC.out).2 hlt
          obtain ⟨p, n, c, q, m, e', hc1, hc2, hc3, hc4, hc5, hT, hX⟩ := hrow
          have hn24 := HG.out.names.1 j hlt
          have hgh := HG.out.head j hlt
          have hgx := HG.out.body j hlt
          have hsz := HG.out.size j hlt
          have hpl := pT_len (HG.out.sort j hlt)
          have htl := tTx_len HG.out.names hgh hgx
          have hfl := funL_len HG.out hlt
          have hst : funL x j = [102, 117, 110, 32] ++ ((x.F.nm j).data.toList ++ ([32, 58, 32] ++ ((x.F.st j).pT ++ ([32, 61, 32] ++ (tTx x (x.F.bk j) (x.F.bn j) (x.F.bt j) ++ [10]))))) := rfl
          have hmo2 : (d ++ funL x j) ++ funsL x (j + 1) (x.F.len - (j + 1)) = L := by rw [← HM.out, putL_fun x j hlt]; simp
          have HM2 := Lib.hid hmo2
          have HPU := Lib.hid fun W h => put_any (x.F.st j) W p n c h
          have HSP := Lib.hid fun W hC hX => sspell_any x ⟨sp, x.S.len, sc, some ⟨b, off, none⟩, x.F.len, fc⟩ HG.out.names 1001 (x.F.bt j) (x.F.bk j) (x.F.bn j) W q m e' (by omega) (by omega) hC hgh hgx hX
          have HT := Lib.hid hT
          have HX := Lib.hid hX
          generalize tTx x (x.F.bk j) (x.F.bn j) (x.F.bt j) = tt at hst htl HSP
          generalize (x.F.st j).pT = pt at hst hpl HPU
          generalize funL x j = sl at hst hfl HM2
          have HST := Lib.hid hst
          clear hst hmo2 HM hgh hgx hT hX
          generalize x.F.nm j = nmj at hc1 hn24 HST
          generalize x.F.bk j = bkj at hc3 HSP
          generalize x.F.bn j = bnj at hc4 HSP
          go_wp2_with fail
          refine (HPU.out _ (HT.out.alloc _)).mono ?_
          rintro e w3 ⟨rfl, hb3⟩
          have hbx : w3.heap[wr.heap.size]? = some (.cells #[.string nmj, .slice p n c, .int .i64 bkj, .int .i64 bnj, .slice q m e'] 52 (0, 0)) := (hb3.block _ (by simp)).trans (heap_new _ _)
          have hbw : Below wr.heap.size wr w3 := ((Below.refl _ _).alloc (Nat.le_refl _) _).trans (hb3.mono (by simp))
          have P3 := HP.out.step hbw
          have HX3 : IsX w3 (x.F.bt j) q m e' := HX.out.below hbw
          have hC3 := P3.isC HC.out
          obtain ⟨f0, f1, f2, f3, f4⟩ := fun_box hbx
          have s1 := (two_box P3.heap).1.1
          have s2 := (two_box P3.heap).1.2
          have HP3 := Lib.hid (And.intro P3 (And.intro HX3 (And.intro hC3 hbx)))
          have HBW := Lib.hid (below_drewN hbw 1)
          clear hbx hbw P3 HX3 hC3 hb3 HPU HT HX
          go_upto_region 14 with fail
          have hx : ((⟨#[102, 117, 110, 32]⟩ : ByteArray) ++ nmj ++ ⟨#[32, 58, 32]⟩ ++ ⟨pt.toArray⟩ ++ ⟨#[32, 61, 32]⟩ ++ ⟨tt.toArray⟩ ++ ⟨#[10]⟩ : ByteArray).data.toList = sl := by rw [HST.out]; simp
          have hlo := len_ok6 (d := d) hx (by omega)
          have HL6 := Lib.hid (And.intro hx hlo)
          clear hx hlo
          have e1 : ¬ 9223372036854775807 < 4 + nmj.size := by omega
          have e2 : ¬ 9223372036854775807 < 4 + nmj.size + 3 := by omega
          have e3 : ¬ 9223372036854775807 < 4 + nmj.size + 3 + pt.length := by omega
          have e4 : ¬ 9223372036854775807 < 4 + nmj.size + 3 + pt.length + 3 := by omega
          have e5 : ¬ 9223372036854775807 < 4 + nmj.size + 3 + pt.length + 3 + tt.length := by omega
          have e6 : ¬ 9223372036854775807 < 4 + nmj.size + 3 + pt.length + 3 + tt.length + 1 := by omega
          have K0 := held6 (W := w3.drew) HP3.out.2.2.2 HP3.out.1.heap
          go_region_held3 (fun W => W.cell? ⟨wr.heap.size, 0, none⟩ = some (.string nmj) ∧ W.cell? ⟨wr.heap.size, 2, none⟩ = some (.int .i64 bkj) ∧ W.cell? ⟨wr.heap.size, 2 + 1, none⟩ = some (.int .i64 bnj) ∧ W.cell? ⟨wr.heap.size, 2 + 2, none⟩ = some (.slice q m e') ∧ W.cell? ⟨w.heap.size, 0, none⟩ = some (.slice sp x.S.len sc) ∧ W.cell? ⟨w.heap.size, 1, none⟩ = some (.slice (some ⟨b, off, none⟩) x.F.len fc))
            (first | exact K0 | exact K4 | exact K5)
            (first
            | (go_at_call 51; refine (HSP.out _ ?_ ?_).mono ?_; exact HP3.out.2.2.1.below (below_drewN (Below.refl _ _) 1); exact HP3.out.2.1.below (below_drewN (Below.refl _ _) 1); rintro e w4 ⟨rfl, hb4⟩; have hbx4 := (hb4.block _ (lt_of_block HP3.out.2.2.2)).trans HP3.out.2.2.2; have K4 := held6 hbx4 (HP3.out.1.drew.step hb4).heap)
            | (go_at_call 48; refine (HP.out.writeK (HBW.out.trans (hb4.mono HBW.out.size)) HL6.out.1 HL6.out.2).mono ?_; rintro e w5 ⟨rfl, P5, hk5⟩; have K5 := held6 ((hk5 _ (Nat.le_refl _) (lt_of_block hbx4)).trans hbx4) P5.heap))
          all_goals
            go_wp2_with fail
            go_roundw
            case rel => exact ⟨j + 1, _, by omega, by go_num, HM2.out, P5⟩
            case measure => simp [Go.RowKit.intOf]; omega
        · have hmo2 : d = L := by
            have := HM.out
            rw [show x.F.len - j = 0 by omega] at this
            simpa [funsL] using this
          subst hmo2
          go_wp2_with fail
          refine (builderLen w1.heap.size w1.heap.size d _ HP.out.bld).mono ?_
          rintro e w3 ⟨rfl, rfl⟩
          have hR' := HR.out
          by_cases h6 : 65536 < d.length
          · rw [if_pos h6] at hR'
            subst hR'
            have hd : decide ((65536 : Int) < (d.length : Int)) = true := by simp; omega
            go_wp2_with fail
            go_ret2
            exact ⟨rfl, HP.out.all⟩
          · rw [if_neg h6] at hR'
            subst hR'
            have hd : decide ((65536 : Int) < (d.length : Int)) = false := by simp; omega
            go_wp2_with fail
            refine (builderString w1.heap.size w1.heap.size d _ HP.out.bld (Nat.le_of_lt HP.out.lt)).mono ?_
            rintro e w4 ⟨rfl, hb4⟩
            go_wp2_with fail
            go_ret2
            exact ⟨rfl, HP.out.all.trans (hb4.mono HP.out.start.size)⟩

theorem sput_any (x : Sc) (a : At2) (w : World) (h : IsC w x a) :
    Calls Tryz.prog 26 #[.agg #[.slice a.sp a.sn a.sc, .slice a.fp a.fn a.fc]] w fun e w' => e = .returned (.tuple #[.string ⟨(putT x).toArray⟩, .int .i64 (putE x)]) ∧ Below w.heap.size w w' := by
  cases hs : scOk x with
  | false =>
    have e1 : putT x = [] := by unfold putT; rw [hs]; rfl
    have e2 : putE x = 7 := by unfold putE; rw [hs]; rfl
    rw [e1, e2]
    exact sput_no x a w h hs
  | true =>
    have hz : scE x = 0 := by unfold scE; rw [hs]; rfl
    refine sput_ok x a w h (good_of hs) hz (putL x) rfl (putL_len (good_of hs)) _ ?_
    unfold putT putE
    rw [hs]
    by_cases h6 : 65536 < (putL x).length
    · simp [h6]
    · simp [h6]

end Go.Proofs.YtjkcopgfcafpeaaGreatDoor

/-
  The chapter's example in plain form: what reading and writing it gives. Conditions: none.
-/
set_option linter.unusedSimpArgs false
set_option linter.unusedVariables false
namespace Go.Proofs.YtjkcopgfcafpeaaGreatDoor
open Go.RowKit Go.Maps

def alS : List UInt8 := [115, 121, 109, 98, 111, 108, 32, 97, 32, 50, 10, 115, 121, 109, 98, 111, 108, 32, 98, 32, 49, 10, 115, 121, 109, 98, 111, 108, 32, 99, 32, 48, 10, 102, 117, 110, 32, 115, 32, 58, 32, 111, 32, 61, 32, 102, 32, 35, 99, 10, 102, 117, 110, 32, 102, 32, 58, 32, 111, 32, 62, 32, 111, 32, 61, 32, 35, 97, 32, 36, 48, 32, 40, 102, 32, 40, 35, 98, 32, 36, 48, 41, 41, 10]

theorem alS_nm : rdName [97, 32, 50, 10] = some (⟨#[97]⟩, [32, 50, 10]) := by kernel_rfl
theorem alS_num : rdNum [50, 10] = some (2, [10]) := by kernel_rfl
theorem alS_cut : cutAt [10] [32, 50, 10] = some ([32, 50], []) := by kernel_rfl
theorem alS_e : getE alS = 0 := by kernel_rfl
theorem alS_p : putL (getSc alS) = alS := by kernel_rfl
theorem alS_s : scOk (getSc alS) = true := by kernel_rfl
theorem alS_o : (getSc alS).ordN = 1 := by kernel_rfl
theorem alS_f : (getSc alS).F.len = 2 := by kernel_rfl

end Go.Proofs.YtjkcopgfcafpeaaGreatDoor

