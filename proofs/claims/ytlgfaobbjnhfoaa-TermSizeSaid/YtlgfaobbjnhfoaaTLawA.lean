/-
  The walk of the statement on Size and Same, where the example holds. Conditions: none but that the terms lie in memory.
-/
import Derived.Test.YtlgfaobbjnhfoaaTWalkQ
import Derived.Deep.RegionHeld3
set_option linter.unusedSimpArgs false
set_option linter.unusedVariables false
namespace Go.Proofs.Ytlgfaobbjnhfoaa
open Go.RowKit

/-- two terms in their variables, in whatever world comes: said of a predicate that is a letter -/
theorem held2 (w : World) (b : Nat) (k n k' n' : Int) (a a' : X) (p p' : Option Addr) (l cap l' cap' : Nat) : ∃ S : World → Prop,
    (∀ W, W.heap[b]? = some (.cells #[.int .i64 k, .int .i64 n, .slice p l cap] 35 (0, 0)) → W.heap[b + 1]? = some (.cells #[.int .i64 k', .int .i64 n', .slice p' l' cap'] 35 (0, 0)) → IsX W a p l cap → IsX W a' p' l' cap' → Below w.heap.size w W → S W) ∧
    (∀ W, S W → W.cell? ⟨b, 0, none⟩ = some (.int .i64 k) ∧ W.cell? ⟨b, 1, none⟩ = some (.int .i64 n) ∧ W.cell? ⟨b, 2, none⟩ = some (.slice p l cap) ∧ W.cell? ⟨b + 1, 0, none⟩ = some (.int .i64 k') ∧ W.cell? ⟨b + 1, 1, none⟩ = some (.int .i64 n') ∧ W.cell? ⟨b + 1, 2, none⟩ = some (.slice p' l' cap') ∧ S W) ∧
    (∀ W, S W → IsX W a p l cap) ∧ (∀ W, S W → IsX W a' p' l' cap') ∧ (∀ W, S W → Below w.heap.size w W) ∧ (∀ W W', S W → Below W.heap.size W W' → S W') := by
  refine ⟨fun W => W.heap[b]? = some (.cells #[.int .i64 k, .int .i64 n, .slice p l cap] 35 (0, 0)) ∧ W.heap[b + 1]? = some (.cells #[.int .i64 k', .int .i64 n', .slice p' l' cap'] 35 (0, 0)) ∧ IsX W a p l cap ∧ IsX W a' p' l' cap' ∧ Below w.heap.size w W,
    fun W h1 h2 h3 h4 h5 => ⟨h1, h2, h3, h4, h5⟩, fun W h => ⟨(box3_cells h.1).1, (box3_cells h.1).2.1, (box3_cells h.1).2.2, (box3_cells h.2.1).1, (box3_cells h.2.1).2.1, (box3_cells h.2.1).2.2, h⟩,
    fun W h => h.2.2.1, fun W h => h.2.2.2.1, fun W h => h.2.2.2.2, fun W W' h hb => ⟨box3_later hb h.1, box3_later hb h.2.1, h.2.2.1.below hb, h.2.2.2.1.below hb, h.2.2.2.2.trans (hb.mono h.2.2.2.2.size)⟩⟩

set_option maxRecDepth 100000 in
set_option maxHeartbeats 4000000 in
theorem law_size (hal : Alive) (a a' : X) (k n k' n' : Int) (w : World) (p p' : Option Addr) (l cap l' cap' : Nat) (his : IsX w a p l cap) (hit : IsX w a' p' l' cap') :
    Calls Try.prog 4 #[.agg #[.int .i64 k, .int .i64 n, .slice p l cap], .agg #[.int .i64 k', .int .i64 n', .slice p' l' cap']] w fun e w' => e = .returned (.bool true) ∧ Below w.heap.size w w' := by
  have hA := Lib.hid hal
  clear hal
  obtain ⟨S, s0, s1, s7, s8, s9, sN⟩ := held2 w w.heap.size k n k' n' a a' p p' l cap l' cap'
  have hz := fun W (h : S W) => tsize_any a k n W p l cap (s7 W h)
  have hy := fun W (h : S W) => trefsize_any a k n W p l cap (s7 W h)
  obtain ⟨f, hf1, hf2⟩ : ∃ f : Int → Int → Option Addr → Nat → Nat → Bool,
      (∀ W k2 n2 p2 l2 c2, S W → ((k2, n2, p2, l2, c2) = (k, n, p, l, cap) ∨ (k2, n2, p2, l2, c2) = (k', n', p', l', cap')) →
        Calls Try.prog 20 #[.agg #[.int .i64 k, .int .i64 n, .slice p l cap], .agg #[.int .i64 k2, .int .i64 n2, .slice p2 l2 c2]] W fun e w' => e = .returned (.bool (f k2 n2 p2 l2 c2)) ∧ Below W.heap.size W w') ∧
      (∀ W k2 n2 p2 l2 c2, S W → ((k2, n2, p2, l2, c2) = (k, n, p, l, cap) ∨ (k2, n2, p2, l2, c2) = (k', n', p', l', cap')) →
        Calls Try.prog 21 #[.agg #[.int .i64 k, .int .i64 n, .slice p l cap], .agg #[.int .i64 k2, .int .i64 n2, .slice p2 l2 c2]] W fun e w' => e = .returned (.bool (f k2 n2 p2 l2 c2)) ∧ Below W.heap.size W w') := by
    by_cases hsame : (k', n', p', l', cap') = (k, n, p, l, cap) ∧ a' ≠ a
    · obtain ⟨he, hne⟩ := hsame
      refine ⟨fun _ _ _ _ _ => X.sm k n a k n a, fun W k2 n2 p2 l2 c2 h hor => ?_, fun W k2 n2 p2 l2 c2 h hor => ?_⟩
      · have h2 : (k2, n2, p2, l2, c2) = (k, n, p, l, cap) := by rcases hor with h | h; exact h; exact h.trans he
        obtain ⟨rfl, rfl, rfl, rfl, rfl⟩ : k2 = k ∧ n2 = n ∧ p2 = p ∧ l2 = l ∧ c2 = cap := by simpa using h2
        exact tsame_any a a _ _ _ _ W _ _ _ _ _ _ (s7 W h) (s7 W h)
      · have h2 : (k2, n2, p2, l2, c2) = (k, n, p, l, cap) := by rcases hor with h | h; exact h; exact h.trans he
        obtain ⟨rfl, rfl, rfl, rfl, rfl⟩ : k2 = k ∧ n2 = n ∧ p2 = p ∧ l2 = l ∧ c2 = cap := by simpa using h2
        exact trefsame_any a a _ _ _ _ W _ _ _ _ _ _ (s7 W h) (s7 W h)
    · refine ⟨fun k2 n2 p2 l2 c2 => if (k2, n2, p2, l2, c2) = (k, n, p, l, cap) then X.sm k n a k n a else X.sm k n a k' n' a', fun W k2 n2 p2 l2 c2 h hor => ?_, fun W k2 n2 p2 l2 c2 h hor => ?_⟩
      · by_cases h2 : (k2, n2, p2, l2, c2) = (k, n, p, l, cap)
        · obtain ⟨rfl, rfl, rfl, rfl, rfl⟩ : k2 = k ∧ n2 = n ∧ p2 = p ∧ l2 = l ∧ c2 = cap := by simpa using h2
          dsimp only; rw [if_pos rfl]
          exact tsame_any a a _ _ _ _ W _ _ _ _ _ _ (s7 W h) (s7 W h)
        · rcases hor with h3 | h3
          · exact absurd h3 h2
          · dsimp only; rw [if_neg h2]
            obtain ⟨rfl, rfl, rfl, rfl, rfl⟩ : k2 = k' ∧ n2 = n' ∧ p2 = p' ∧ l2 = l' ∧ c2 = cap' := by simpa using h3
            exact tsame_any a a' _ _ _ _ W _ _ _ _ _ _ (s7 W h) (s8 W h)
      · by_cases h2 : (k2, n2, p2, l2, c2) = (k, n, p, l, cap)
        · obtain ⟨rfl, rfl, rfl, rfl, rfl⟩ : k2 = k ∧ n2 = n ∧ p2 = p ∧ l2 = l ∧ c2 = cap := by simpa using h2
          dsimp only; rw [if_pos rfl]
          exact trefsame_any a a _ _ _ _ W _ _ _ _ _ _ (s7 W h) (s7 W h)
        · rcases hor with h3 | h3
          · exact absurd h3 h2
          · dsimp only; rw [if_neg h2]
            obtain ⟨rfl, rfl, rfl, rfl, rfl⟩ : k2 = k' ∧ n2 = n' ∧ p2 = p' ∧ l2 = l' ∧ c2 = cap' := by simpa using h3
            exact trefsame_any a a' _ _ _ _ W _ _ _ _ _ _ (s7 W h) (s8 W h)
  generalize a.szN = z1 at hz hy
  generalize a.szD = z2 at hz hy
  have HZ := Lib.hid hz
  have HY := Lib.hid hy
  have H1 := Lib.hid hf1
  have H2 := Lib.hid hf2
  have HB := Lib.hid s9
  have SN := Lib.hid sN
  have MK := Lib.hid s1
  have RS : ∀ W, (W.cell? ⟨w.heap.size, 0, none⟩ = some (.int .i64 k) ∧ W.cell? ⟨w.heap.size, 1, none⟩ = some (.int .i64 n) ∧ W.cell? ⟨w.heap.size, 2, none⟩ = some (.slice p l cap) ∧ W.cell? ⟨w.heap.size + 1, 0, none⟩ = some (.int .i64 k') ∧ W.cell? ⟨w.heap.size + 1, 1, none⟩ = some (.int .i64 n') ∧ W.cell? ⟨w.heap.size + 1, 2, none⟩ = some (.slice p' l' cap') ∧ S W) → S W := fun W h => h.2.2.2.2.2.2
  have RS := Lib.hid RS
  have b0 : ∀ x y, Below w.heap.size w ((w.alloc x).alloc y) := fun x y => ((Below.refl _ _).alloc (Nat.le_refl _) _).alloc (by simp) _
  have S0 := Lib.hid (s0 _ (alloc_kept (heap_new w (.cells #[.int .i64 k, .int .i64 n, .slice p l cap] 35)) (.cells #[.int .i64 k', .int .i64 n', .slice p' l' cap'] 35)) (heap_new2 w _ (.cells #[.int .i64 k', .int .i64 n', .slice p' l' cap'] 35)) ((his.alloc _).alloc _) ((hit.alloc _).alloc _) (b0 _ _))
  clear hz hy hf1 hf2 s0 s1 s7 s8 s9 sN b0
  go_enter Try.func4, Try.ntmps4
  go_wp2_with fail
  refine (HZ.out _ S0.out).mono ?_
  rintro e w1 ⟨rfl, hb1⟩
  have f1 := SN.out _ _ S0.out hb1
  obtain ⟨y1, y2, y3, _⟩ := MK.out _ f1
  clear hb1 S0
  go_wp2_with fail
  refine (HY.out _ f1).mono ?_
  rintro e w2 ⟨rfl, hb2⟩
  have f2 := SN.out _ _ f1 hb2
  have f3 := SN.out _ w2.drew f2 ((Below.refl _ _).drew)
  have f4 := MK.out _ f3
  clear hb2 f1 f2 f3 y1 y2 y3
  go_wp2_with fail
  go_region_held3 (fun W => W.cell? ⟨w.heap.size, 0, none⟩ = some (.int .i64 k) ∧ W.cell? ⟨w.heap.size, 1, none⟩ = some (.int .i64 n) ∧ W.cell? ⟨w.heap.size, 2, none⟩ = some (.slice p l cap) ∧ W.cell? ⟨w.heap.size + 1, 0, none⟩ = some (.int .i64 k') ∧ W.cell? ⟨w.heap.size + 1, 1, none⟩ = some (.int .i64 n') ∧ W.cell? ⟨w.heap.size + 1, 2, none⟩ = some (.slice p' l' cap') ∧ S W)
    (first | exact f4 | exact MK.out _ (SN.out _ _ (RS.out _ (by assumption)) (by assumption)))
    (first
    | (go_at_call 20; refine (H1.out _ _ _ _ _ _ (RS.out _ (by assumption)) ?_).mono ?_; (first | exact Or.inl rfl | exact Or.inr rfl); rintro e w3 ⟨rfl, hb3⟩)
    | (go_at_call 21; refine (H2.out _ _ _ _ _ _ (RS.out _ (by assumption)) ?_).mono ?_; (first | exact Or.inl rfl | exact Or.inr rfl); rintro e w4 ⟨rfl, hb4⟩)
    | (go_at_call 17; refine (hA.out _).mono ?_; rintro e w5 ⟨rfl, hb5⟩))
  all_goals
    go_wp2_with fail
    go_ret
    exact ⟨rfl, HB.out _ (RS.out _ (by assumption))⟩

end Go.Proofs.Ytlgfaobbjnhfoaa
