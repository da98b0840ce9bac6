/-
  Parts of one proof, laid into one text: TWalkE, ELawA. Conditions: each part names its own.
-/
import Derived.Test.YteolfpdkpihnlaaMg08
import Derived.Test.YteolfpdkpihnlaaMg05
import Derived.Test.YteolfpdkpihnlaaMg10
import Derived.Deep.RegionHeld3

/-
  The walks of Size and Same, the program's and the reference's. Conditions: none but that the terms lie in memory.
-/
set_option linter.unusedSimpArgs false
set_option linter.unusedVariables false
namespace Go.Proofs.Yteolfpdkpihnlaa
open Go.RowKit

/-- what Size returns -/
def X.szN (a : X) : Int := if a.sz < 100000 then 1 + (a.sz : Int) else 100001
def X.szD (a : X) : Int := if a.sz < 100000 then (a.dep : Int) + 1 else 0

/-- what Same returns -/
def X.sm (k n : Int) (a : X) (k' n' : Int) (a' : X) : Bool := decide (a.sz < 100000) && decide (a'.sz < 100000) && X.eq1 k n a k' n' a'

theorem box3_later {W w1 : World} {b : Nat} {o : Obj} (hb : Below W.heap.size W w1) (h : W.heap[b]? = some o) : w1.heap[b]? = some o := by
  rw [hb.block b (lt_of_block h)]; exact h

end Go.Proofs.Yteolfpdkpihnlaa

/-
  The walk of the statement on Same, where the example holds. Conditions: none but that the trees lie in memory.
-/
set_option linter.unusedSimpArgs false
set_option linter.unusedVariables false
namespace Go.Proofs.Yteolfpdkpihnlaa
open Go.RowKit

/-- the example holds -/
def AliveE : Prop := ∀ w : World, Calls Try.prog 22 #[] w fun e w' => e = .returned (.bool true) ∧ Below w.heap.size w w'

/-- two trees in their variables, in whatever world comes: said of a predicate that is a letter -/
theorem held2E (w : World) (b : Nat) (n n' : Int) (a a' : Y) (p p' : Option Addr) (l cap l' cap' : Nat) : ∃ S : World → Prop,
    (∀ W, W.heap[b]? = some (.cells #[.int .i64 n, .slice p l cap] 25 (0, 0)) → W.heap[b + 1]? = some (.cells #[.int .i64 n', .slice p' l' cap'] 25 (0, 0)) → IsY W a p l cap → IsY W a' p' l' cap' → Below w.heap.size w W → S W) ∧
    (∀ W, S W → W.cell? ⟨b, 0, none⟩ = some (.int .i64 n) ∧ W.cell? ⟨b, 1, none⟩ = some (.slice p l cap) ∧ W.cell? ⟨b + 1, 0, none⟩ = some (.int .i64 n') ∧ W.cell? ⟨b + 1, 1, none⟩ = some (.slice p' l' cap') ∧ S W) ∧
    (∀ W, S W → IsY W a p l cap) ∧ (∀ W, S W → IsY W a' p' l' cap') ∧ (∀ W, S W → Below w.heap.size w W) ∧ (∀ W W', S W → Below W.heap.size W W' → S W') := by
  refine ⟨fun W => W.heap[b]? = some (.cells #[.int .i64 n, .slice p l cap] 25 (0, 0)) ∧ W.heap[b + 1]? = some (.cells #[.int .i64 n', .slice p' l' cap'] 25 (0, 0)) ∧ IsY W a p l cap ∧ IsY W a' p' l' cap' ∧ Below w.heap.size w W,
    fun W h1 h2 h3 h4 h5 => ⟨h1, h2, h3, h4, h5⟩, fun W h => ⟨(box2_cells h.1).1, (box2_cells h.1).2, (box2_cells h.2.1).1, (box2_cells h.2.1).2, h⟩,
    fun W h => h.2.2.1, fun W h => h.2.2.2.1, fun W h => h.2.2.2.2, fun W W' h hb => ⟨box2_later hb h.1, box2_later hb h.2.1, h.2.2.1.below hb, h.2.2.2.1.below hb, h.2.2.2.2.trans (hb.mono h.2.2.2.2.size)⟩⟩

set_option maxRecDepth 100000 in
set_option maxHeartbeats 4000000 in
theorem law_esame (hal : AliveE) (a a' : Y) (n n' : Int) (w : World) (p p' : Option Addr) (l cap l' cap' : Nat) (his : IsY w a p l cap) (hit : IsY w a' p' l' cap') :
    Calls Try.prog 4 #[.agg #[.int .i64 n, .slice p l cap], .agg #[.int .i64 n', .slice p' l' cap']] w fun e w' => e = .returned (.bool true) ∧ Below w.heap.size w w' := by
  have hA := Lib.hid hal
  clear hal
  obtain ⟨S, s0, s1, s7, s8, s9, sN⟩ := held2E w w.heap.size n n' a a' p p' l cap l' cap'
  obtain ⟨f, hf1, hf2⟩ : ∃ f : Int → Option Addr → Nat → Nat → Bool,
      (∀ W n2 p2 l2 c2, S W → ((n2, p2, l2, c2) = (n, p, l, cap) ∨ (n2, p2, l2, c2) = (n', p', l', cap')) →
        Calls Try.prog 23 #[.agg #[.int .i64 n, .slice p l cap], .agg #[.int .i64 n2, .slice p2 l2 c2]] W fun e w' => e = .returned (.bool (f n2 p2 l2 c2)) ∧ Below W.heap.size W w') ∧
      (∀ W n2 p2 l2 c2, S W → ((n2, p2, l2, c2) = (n, p, l, cap) ∨ (n2, p2, l2, c2) = (n', p', l', cap')) →
        Calls Try.prog 24 #[.agg #[.int .i64 n, .slice p l cap], .agg #[.int .i64 n2, .slice p2 l2 c2]] W fun e w' => e = .returned (.bool (f n2 p2 l2 c2)) ∧ Below W.heap.size W w') := by
    by_cases hsame : (n', p', l', cap') = (n, p, l, cap) ∧ a' ≠ a
    · obtain ⟨he, hne⟩ := hsame
      refine ⟨fun _ _ _ _ => Y.sm n a n a, fun W n2 p2 l2 c2 h hor => ?_, fun W n2 p2 l2 c2 h hor => ?_⟩
      · have h2 : (n2, p2, l2, c2) = (n, p, l, cap) := by rcases hor with h | h; exact h; exact h.trans he
        obtain ⟨rfl, rfl, rfl, rfl⟩ : n2 = n ∧ p2 = p ∧ l2 = l ∧ c2 = cap := by simpa using h2
        exact esame_any a a _ _ W _ _ _ _ _ _ (s7 W h) (s7 W h)
      · have h2 : (n2, p2, l2, c2) = (n, p, l, cap) := by rcases hor with h | h; exact h; exact h.trans he
        obtain ⟨rfl, rfl, rfl, rfl⟩ : n2 = n ∧ p2 = p ∧ l2 = l ∧ c2 = cap := by simpa using h2
        exact erefsame_any a a _ _ W _ _ _ _ _ _ (s7 W h) (s7 W h)
    · refine ⟨fun n2 p2 l2 c2 => if (n2, p2, l2, c2) = (n, p, l, cap) then Y.sm n a n a else Y.sm n a n' a', fun W n2 p2 l2 c2 h hor => ?_, fun W n2 p2 l2 c2 h hor => ?_⟩
      · by_cases h2 : (n2, p2, l2, c2) = (n, p, l, cap)
        · obtain ⟨rfl, rfl, rfl, rfl⟩ : n2 = n ∧ p2 = p ∧ l2 = l ∧ c2 = cap := by simpa using h2
          dsimp only; rw [if_pos rfl]
          exact esame_any a a _ _ W _ _ _ _ _ _ (s7 W h) (s7 W h)
        · rcases hor with h3 | h3
          · exact absurd h3 h2
          · dsimp only; rw [if_neg h2]
            obtain ⟨rfl, rfl, rfl, rfl⟩ : n2 = n' ∧ p2 = p' ∧ l2 = l' ∧ c2 = cap' := by simpa using h3
            exact esame_any a a' _ _ W _ _ _ _ _ _ (s7 W h) (s8 W h)
      · by_cases h2 : (n2, p2, l2, c2) = (n, p, l, cap)
        · obtain ⟨rfl, rfl, rfl, rfl⟩ : n2 = n ∧ p2 = p ∧ l2 = l ∧ c2 = cap := by simpa using h2
          dsimp only; rw [if_pos rfl]
          exact erefsame_any a a _ _ W _ _ _ _ _ _ (s7 W h) (s7 W h)
        · rcases hor with h3 | h3
          · exact absurd h3 h2
          · dsimp only; rw [if_neg h2]
            obtain ⟨rfl, rfl, rfl, rfl⟩ : n2 = n' ∧ p2 = p' ∧ l2 = l' ∧ c2 = cap' := by simpa using h3
            exact erefsame_any a a' _ _ W _ _ _ _ _ _ (s7 W h) (s8 W h)
  have H1 := Lib.hid hf1
  have H2 := Lib.hid hf2
  have HB := Lib.hid s9
  have SN := Lib.hid sN
  have MK := Lib.hid s1
  have RS : ∀ W, (W.cell? ⟨w.heap.size, 0, none⟩ = some (.int .i64 n) ∧ W.cell? ⟨w.heap.size, 1, none⟩ = some (.slice p l cap) ∧ W.cell? ⟨w.heap.size + 1, 0, none⟩ = some (.int .i64 n') ∧ W.cell? ⟨w.heap.size + 1, 1, none⟩ = some (.slice p' l' cap') ∧ S W) → S W := fun W h => h.2.2.2.2
  have RS := Lib.hid RS
  have b0 : ∀ x y, Below w.heap.size w ((w.alloc x).alloc y) := fun x y => ((Below.refl _ _).alloc (Nat.le_refl _) _).alloc (by simp) _
  have S0 := s0 _ (alloc_kept (heap_new w (.cells #[.int .i64 n, .slice p l cap] 25)) (.cells #[.int .i64 n', .slice p' l' cap'] 25)) (heap_new2 w _ (.cells #[.int .i64 n', .slice p' l' cap'] 25)) ((his.alloc _).alloc _) ((hit.alloc _).alloc _) (b0 _ _)
  have f3 := SN.out _ ((w.alloc (.cells #[.int .i64 n, .slice p l cap] 25)).alloc (.cells #[.int .i64 n', .slice p' l' cap'] 25)).drew S0 ((Below.refl _ _).drew)
  clear hf1 hf2 s0 s1 s7 s8 s9 sN b0 S0
  go_enter Try.func4, Try.ntmps4
  go_wp2_with fail
  generalize (w.alloc (.cells #[.int .i64 n, .slice p l cap] 25)).alloc (.cells #[.int .i64 n', .slice p' l' cap'] 25) = W0 at f3 ⊢
  have f4 := MK.out _ f3
  clear f3
  go_region_held3 (fun W => W.cell? ⟨w.heap.size, 0, none⟩ = some (.int .i64 n) ∧ W.cell? ⟨w.heap.size, 1, none⟩ = some (.slice p l cap) ∧ W.cell? ⟨w.heap.size + 1, 0, none⟩ = some (.int .i64 n') ∧ W.cell? ⟨w.heap.size + 1, 1, none⟩ = some (.slice p' l' cap') ∧ S W)
    (first | exact f4 | exact MK.out _ (SN.out _ _ (RS.out _ (by assumption)) (by assumption)))
    (first
    | (go_at_call 23; refine (H1.out _ _ _ _ _ (RS.out _ (by assumption)) ?_).mono ?_; (first | exact Or.inl rfl | exact Or.inr rfl); rintro e w3 ⟨rfl, hb3⟩)
    | (go_at_call 24; refine (H2.out _ _ _ _ _ (RS.out _ (by assumption)) ?_).mono ?_; (first | exact Or.inl rfl | exact Or.inr rfl); rintro e w4 ⟨rfl, hb4⟩)
    | (go_at_call 22; refine (hA.out _).mono ?_; rintro e w5 ⟨rfl, hb5⟩))
  all_goals
    go_wp2_with fail
    go_ret
    exact ⟨rfl, HB.out _ (RS.out _ (by assumption))⟩

end Go.Proofs.Yteolfpdkpihnlaa

