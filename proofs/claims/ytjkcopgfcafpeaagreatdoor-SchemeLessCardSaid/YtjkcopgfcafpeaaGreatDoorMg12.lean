/-
  Parts of one proof, laid into one text: TWalkE. Conditions: each part names its own.
-/
import Derived.Test.YtjkcopgfcafpeaaGreatDoorMg08
import Derived.Test.YtjkcopgfcafpeaaGreatDoorMg05

/-
  The walks of Size and Same, the program's and the reference's. Conditions: none but that the terms lie in memory.
-/
set_option linter.unusedSimpArgs false
set_option linter.unusedVariables false
namespace Go.Proofs.YtjkcopgfcafpeaaGreatDoor
open Go.RowKit

/-- what Size returns -/
def X.szN (a : X) : Int := if a.sz < 100000 then 1 + (a.sz : Int) else 100001
def X.szD (a : X) : Int := if a.sz < 100000 then (a.dep : Int) + 1 else 0

set_option maxHeartbeats 400000 in
theorem tsize_any (a : X) (k n : Int) (w : World) (p : Option Addr) (l cap : Nat) (his : IsX w a p l cap) :
    Calls Tryz.prog 84 #[.agg #[.int .i64 k, .int .i64 n, .slice p l cap]] w fun e w' => e = .returned (.tuple #[.int .i64 a.szN, .int .i64 a.szD]) ∧ Below w.heap.size w w' := by
  by_cases h : a.sz < 100000
  · have e1 : a.szN = 1 + (a.sz : Int) := if_pos h
    have e2 : a.szD = (a.dep : Int) + 1 := if_pos h
    have hm : min (1 + a.sz) 100001 = 1 + a.sz := by omega
    rw [e1, e2]
    have hC := fun W h => count_any a k n W p l cap h
    rw [hm] at hC
    have HC := Lib.hid hC
    clear e1 e2 hm hC
    go_enter Tryz.func84, Tryz.ntmps84
    go_wp2_with fail
    refine (HC.out _ (his.alloc _)).mono ?_
    rintro e w1 ⟨rfl, hb1⟩
    have hi1 := (his.alloc _).below hb1
    have hc1 : w1.cell? ⟨w.heap.size, 0, none⟩ = some (.int .i64 k) := by rw [(bcell hb1).1 _ _ (by simp)]; simp
    have hc2 : w1.cell? ⟨w.heap.size, 1, none⟩ = some (.int .i64 n) := by rw [(bcell hb1).1 _ _ (by simp)]; simp
    have hc3 : w1.cell? ⟨w.heap.size, 2, none⟩ = some (.slice p l cap) := by rw [(bcell hb1).1 _ _ (by simp)]; simp
    have hd : (((1 + a.sz : Nat) : Int) == 100001) = false := by simp; omega
    go_wp2_with fail
    refine (thigh_any (a.sz + 1) a k n _ p l cap (Nat.lt_succ_self _) h hi1).mono ?_
    rintro e w2 ⟨rfl, hb2⟩
    go_wp2_with fail
    go_ret2
    exact ⟨rfl, (below_call hb1).trans (hb2.mono (below_call hb1).size)⟩
  · have e1 : a.szN = 100001 := if_neg h
    have e2 : a.szD = 0 := if_neg h
    have hm : ((min (1 + a.sz) 100001 : Nat) : Int) = 100001 := by omega
    rw [e1, e2]
    have hC := fun W h => count_any a k n W p l cap h
    rw [hm] at hC
    have HC := Lib.hid hC
    clear e1 e2 hm hC
    go_enter Tryz.func84, Tryz.ntmps84
    go_wp2_with fail
    refine (HC.out _ (his.alloc _)).mono ?_
    rintro e w1 ⟨rfl, hb1⟩
    go_wp2_with fail
    go_ret2
    exact ⟨rfl, below_call hb1⟩

/-- what Same returns -/
def X.sm (k n : Int) (a : X) (k' n' : Int) (a' : X) : Bool := decide (a.sz < 100000) && decide (a'.sz < 100000) && X.eq1 k n a k' n' a'

/-- the two terms that Same holds -/
def Two (w : World) (k n : Int) (a : X) (p : Option Addr) (l cap : Nat) (k' n' : Int) (a' : X) (p' : Option Addr) (l' cap' : Nat) (B : Nat) (W : World) : Prop :=
  W.heap[B]? = some (.cells #[.int .i64 k, .int .i64 n, .slice p l cap] 50 (0, 0)) ∧ W.heap[B + 1]? = some (.cells #[.int .i64 k', .int .i64 n', .slice p' l' cap'] 50 (0, 0)) ∧
  IsX W a p l cap ∧ IsX W a' p' l' cap' ∧ Below w.heap.size w W

theorem box3_later {W w1 : World} {b : Nat} {o : Obj} (hb : Below W.heap.size W w1) (h : W.heap[b]? = some o) : w1.heap[b]? = some o := by
  rw [hb.block b (lt_of_block h)]; exact h

theorem box3_cells {W : World} {b : Nat} {k n : Int} {v : Value} (h : W.heap[b]? = some (.cells #[.int .i64 k, .int .i64 n, v] 50 (0, 0))) :
    W.cell? ⟨b, 0, none⟩ = some (.int .i64 k) ∧ W.cell? ⟨b, 1, none⟩ = some (.int .i64 n) ∧ W.cell? ⟨b, 2, none⟩ = some v := by
  refine ⟨?_, ?_, ?_⟩ <;> simp [World.cell?, h]

set_option maxHeartbeats 800000 in
theorem tsame_any (a a' : X) (k n k' n' : Int) (w : World) (p p' : Option Addr) (l cap l' cap' : Nat) (his : IsX w a p l cap) (hit : IsX w a' p' l' cap') :
    Calls Tryz.prog 86 #[.agg #[.int .i64 k, .int .i64 n, .slice p l cap], .agg #[.int .i64 k', .int .i64 n', .slice p' l' cap']] w fun e w' => e = .returned (.bool (X.sm k n a k' n' a')) ∧ Below w.heap.size w w' := by
  obtain ⟨r, hr⟩ : ∃ r, X.sm k n a k' n' a' = r := ⟨_, rfl⟩
  rw [hr]
  have HR := Lib.hid hr
  clear hr
  have b0 : ∀ x y, Below w.heap.size w ((w.alloc x).alloc y) := fun x y => ((Below.refl _ _).alloc (Nat.le_refl _) _).alloc (by simp) _
  go_enter Tryz.func86, Tryz.ntmps86
  go_wp2_with fail
  refine (tsmall_any a k n _ p l cap ((his.alloc _).alloc _)).mono ?_
  rintro e w1 ⟨rfl, hb1⟩
  have i1 := ((hit.alloc _).alloc _).below hb1
  have j1 := ((his.alloc _).alloc _).below hb1
  obtain ⟨x1, x2, x3⟩ := box3_cells (box3_later hb1 (heap_new2 w (.cells #[.int .i64 k, .int .i64 n, .slice p l cap] 50) (.cells #[.int .i64 k', .int .i64 n', .slice p' l' cap'] 50)))
  obtain ⟨y1, y2, y3⟩ := box3_cells (box3_later hb1 (alloc_kept (heap_new w (.cells #[.int .i64 k, .int .i64 n, .slice p l cap] 50)) (.cells #[.int .i64 k', .int .i64 n', .slice p' l' cap'] 50)))
  have b1 := (b0 _ _).trans (hb1.mono (by simp; omega))
  have hz1 := hb1.size
  simp only [World.size_alloc] at hz1
  clear hb1
  by_cases h1 : a.sz < 100000
  · have hd1 : decide (a.sz < 100000) = true := by simpa using h1
    go_wp2_with fail
    refine (tsmall_any a' k' n' _ p' l' cap' i1).mono ?_
    rintro e w2 ⟨rfl, hb2⟩
    have i2 := i1.below hb2
    have j2 := j1.below hb2
    have X1 := ((bcell hb2).1 (w.heap.size + 1) 0 (by omega)).trans x1
    have X2 := ((bcell hb2).1 (w.heap.size + 1) 1 (by omega)).trans x2
    have X3 := ((bcell hb2).1 (w.heap.size + 1) 2 (by omega)).trans x3
    have Y1 := ((bcell hb2).1 (w.heap.size) 0 (by omega)).trans y1
    have Y2 := ((bcell hb2).1 (w.heap.size) 1 (by omega)).trans y2
    have Y3 := ((bcell hb2).1 (w.heap.size) 2 (by omega)).trans y3
    have b2 := b1.trans (hb2.mono b1.size)
    clear hb2 x1 x2 x3 y1 y2 y3
    by_cases h2 : a'.sz < 100000
    · have hd2 : decide (a'.sz < 100000) = true := by simpa using h2
      have e1 := HR.out
      unfold X.sm at e1
      rw [hd1, hd2] at e1
      simp only [Bool.true_and] at e1
      have HE := Lib.hid e1
      clear e1
      go_wp2_with fail
      refine (tequal_any (a.sz + 1) a a' k n k' n' _ p p' l cap l' cap' (Nat.lt_succ_self _) j2 i2).mono ?_
      rintro e w3 ⟨rfl, hb3⟩
      go_wp2_with fail
      go_ret
      exact ⟨ret_bool HE.out, b2.trans (hb3.mono b2.size)⟩
    · have hd2 : decide (a'.sz < 100000) = false := by simpa using h2
      go_wp2_with fail
      go_ret
      exact ⟨ret_bool (by rw [← HR.out]; unfold X.sm; rw [hd2]; simp), b2⟩
  · have hd1 : decide (a.sz < 100000) = false := by simpa using h1
    go_wp2_with fail
    go_ret
    exact ⟨ret_bool (by rw [← HR.out]; unfold X.sm; rw [hd1]; simp), b1⟩

set_option maxRecDepth 100000 in
set_option maxHeartbeats 800000 in
theorem trefequal_any (N : Nat) : ∀ (s t : X) (k n k' n' : Int) (w : World) (p q : Option Addr) (l cap m cap' : Nat), s.sz < N → IsX w s p l cap → IsX w t q m cap' →
      Calls Tryz.prog 77 #[.agg #[.int .i64 k, .int .i64 n, .slice p l cap], .agg #[.int .i64 k', .int .i64 n', .slice q m cap']] w fun e w' => e = .returned (.bool (X.eq1 k n s k' n' t)) ∧ Below w.heap.size w w' := by
  induction N with
  | zero => intro s t k n k' n' w p q l cap m cap' hN; omega
  | succ N ih =>
    intro s t k n k' n' w p q l cap m cap' hN his hit
    have IH := Lib.hid ih
    clear ih
    have b0 : ∀ x y, Below w.heap.size w ((w.alloc x).alloc y) := fun x y => ((Below.refl _ _).alloc (Nat.le_refl _) _).alloc (by simp) _
    obtain ⟨hn, hcap, hmax, hnil, hrow⟩ := his
    obtain ⟨hn', hcap', hmax', hnil', hrow'⟩ := hit
    subst hn hn'
    unfold maxLen at hmax hmax'
    by_cases hk : k = k'
    · have hd1 : (k != k') = false := by simp [hk]
      by_cases hn : n = n'
      · have hd2 : (n != n') = false := by simp [hn]
        have he : X.eq1 k n s k' n' t = X.eqX s t := by simp [X.eq1, hk, hn]
        rw [he]
        clear he hk hn
        by_cases hl : s.len = t.len
        case neg =>
          have hd : ((s.len : Int) != (t.len : Int)) = true := by rw [bne_iff_ne]; omega
          have HL := Lib.hid hl
          clear hl
          go_enter Tryz.func77, Tryz.ntmps77
          go_wp2_with fail
          go_ret
          exact ⟨ret_bool (X.eqX_len s t HL.out).symm, b0 _ _⟩
        case pos =>
          have hd : ((s.len : Int) != (t.len : Int)) = false := by simp [hl]
          have hle : t.len ≤ s.len := by omega
          have hle' : s.len ≤ t.len := by omega
          clear hl
          go_enter Tryz.func77, Tryz.ntmps77
          go_wp2_with fail
          clear hd hd1 hd2
          go_loopw [30] (fun i wr => ∃ j : Nat, j ≤ s.len ∧ i = .int .i64 (j : Int) ∧ X.eqX (s.drop j) (t.drop j) = X.eqX s t ∧
              wr.cell? ⟨w.heap.size, 2, none⟩ = some (.slice p s.len cap) ∧ wr.cell? ⟨w.heap.size + 1, 2, none⟩ = some (.slice q t.len cap') ∧ Below w.heap.size w wr)
            (fun i _ => s.len - (intOf i).toNat)
          case atStart => exact ⟨0, Nat.zero_le _, rfl, by rw [X.drop_zero, X.drop_zero], by simp, by simp, b0 _ _⟩
          case round =>
            obtain ⟨j, hj, rfl, hmo, hbox1, hbox2, hb⟩ := hrel
            have HM := Lib.hid hmo
            clear hmo
            have hks := Keeps3.below hb (Nat.le_refl _)
            by_cases hlt : j < s.len
            · rcases hrow with h0 | ⟨b, off, rfl, hr⟩
              · omega
              rcases hrow' with h0 | ⟨b', off', rfl, hr'⟩
              · omega
              have hlt2 : j < t.len := by omega
              obtain ⟨hck1, hcn1, p1, n1, cap1, hc1, hi1⟩ := base3_at hks hr hlt
              obtain ⟨hck2, hcn2, p2, n2, cap2, hc2, hi2⟩ := base3_at hks hr' hlt2
              have hg := s.sz_ga j hlt
              clear hks
              go_wp2_with fail
              go_still_tail 10, (by kernel_rfl)
              change wpList _ _ _ _ _ wr.drew
              go_wp2_with fail
              refine (IH.out (s.ga j) (t.ga j) _ _ _ _ _ p1 p2 n1 cap1 n2 cap2 (by omega) hi1.drew hi2.drew).mono ?_
              rintro e w' ⟨rfl, hb1⟩
              have hb2 : Below w.heap.size w w' := hb.drew.trans (hb1.mono hb.size)
              go_wp2_with fail
              · go_ret
                exact ⟨ret_bool (X.eqX_not s t j hlt hlt2 HM.out (by assumption)).symm, hb2⟩
              · go_roundw
                case rel => exact ⟨j + 1, by omega, by go_num, X.eqX_step s t j hlt hlt2 HM.out (by assumption), (hb1.cell (p := ⟨w.heap.size, 2, none⟩) (lt_of_cell (w := wr) hbox1)).trans hbox1, (hb1.cell (p := ⟨w.heap.size + 1, 2, none⟩) (lt_of_cell (w := wr) hbox2)).trans hbox2, hb2⟩
                case measure => simp [intOf]; omega
            · go_wp2_with fail
              go_ret
              exact ⟨ret_bool (X.eqX_end s t j hlt (by omega) HM.out).symm, hb⟩
      · have hd2 : (n != n') = true := by simp [hn]
        have he : X.eq1 k n s k' n' t = false := by simp [X.eq1, hn]
        rw [he]
        clear he hk hn
        go_enter Tryz.func77, Tryz.ntmps77
        go_wp2_with fail
        go_ret
        exact ⟨rfl, b0 _ _⟩
    · have hd1 : (k != k') = true := by simp [hk]
      have he : X.eq1 k n s k' n' t = false := by simp [X.eq1, hk]
      rw [he]
      clear he hk
      go_enter Tryz.func77, Tryz.ntmps77
      go_wp2_with fail
      go_ret
      exact ⟨rfl, b0 _ _⟩

end Go.Proofs.YtjkcopgfcafpeaaGreatDoor

