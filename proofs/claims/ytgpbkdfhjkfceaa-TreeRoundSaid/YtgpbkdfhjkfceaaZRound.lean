/-
  Whatever symbols and tree are handed in, the statement on a tree that is written and read back answers true and leaves these as it was. Conditions: none but the row's own (memory that leads back into itself is shut out).
-/
import Derived.Test.YtgpbkdfhjkfceaaMg26
import Derived.Test.YtgpbkdfhjkfceaaMg27
import Derived.Test.YtgpbkdfhjkfceaaMg14
import Derived.Test.YtgpbkdfhjkfceaaMg28
import Derived.Test.YtgpbkdfhjkfceaaMg22
import Derived.Deep.RegionHeld3
import Derived.Test.YtgpbkdfhjkfceaaMg23

/-
  A tree is read back from its string: without memory. Conditions: the symbols are good, the tree is over them.
-/
set_option linter.unusedSimpArgs false
set_option linter.unusedVariables false
namespace Go.Proofs.Ytgpbkdfhjkfceaa
open Y

theorem nm_split {x : ByteArray} (h : nm x = true) : ∃ c r, x.data.toList = c :: r ∧ c ≠ 95 ∧ ∀ y ∈ x.data.toList, inN y = true := by
  obtain ⟨⟨l⟩⟩ := x
  cases l with
  | nil =>
    simp only [nm, Bool.and_eq_true, decide_eq_true_eq] at h
    exact absurd h.1.1.1 (Nat.lt_irrefl 0)
  | cons c r =>
    simp only [nm, Bool.and_eq_true, decide_eq_true_eq, oks, List.all_eq_true, List.drop_zero] at h
    refine ⟨c, r, rfl, ?_, fun y hy => h.2 y hy⟩
    rintro rfl
    have h1 := h.1.2
    simp [isL, byt] at h1

theorem symFrom_at2 {S : Sy} : ∀ {n i : Nat}, symFrom S n i = true → ∀ j, i ≤ j → j < i + n → symOk S j = true := by
  intro n
  induction n with
  | zero => intro i _ j h1 h2; omega
  | succ n ih =>
    intro i h j h1 h2
    simp only [symFrom, Bool.and_eq_true] at h
    by_cases e : j = i
    · subst e; exact h.1
    · exact ih h.2 j (by omega) (by omega)

theorem syms_distinct {S : Sy} (h : symsOk S = true) {i j : Nat} (hij : i < j) (hj : j < S.len) : S.nm i ≠ S.nm j := by
  simp only [symsOk, Bool.and_eq_true] at h
  have h1 := symFrom_at2 h.2 j (Nat.zero_le _) (by omega)
  simp only [symOk, Bool.and_eq_true, Bool.not_eq_true', dup, List.any_eq_false] at h1
  have h2 := h1.1.1.2 i (List.mem_range.2 hij)
  simpa using h2

theorem idxS_self {S : Sy} (h : symsOk S = true) {m : Nat} : ∀ {i : Nat}, m < i → i ≤ S.len → idxS S (S.nm m) i = some m := by
  intro i
  induction i with
  | zero => intro h1 _; omega
  | succ i ih =>
    intro h1 h2
    unfold idxS
    by_cases e : m = i
    · subst e; simp
    · rw [if_neg (fun he => syms_distinct h (show m < i by omega) (by omega) he.symm)]
      exact ih (by omega) (by omega)

/-- what may stand behind a name -/
def stopB : List UInt8 → Bool
  | [] => true
  | c :: _ => !inN c

theorem takeName {l r : List UInt8} (hl : ∀ y ∈ l, inN y = true) (hr : stopB r = true) : (l ++ r).takeWhile inN = l ∧ (l ++ r).dropWhile inN = r := by
  induction l with
  | nil =>
    cases r with
    | nil => exact ⟨rfl, rfl⟩
    | cons c r =>
      have hc : inN c = false := by simpa [stopB] using hr
      simp [List.takeWhile, List.dropWhile, hc]
  | cons c l ih =>
    have hc : inN c = true := hl c (by simp)
    obtain ⟨h1, h2⟩ := ih (fun y hy => hl y (by simp [hy]))
    simp [List.takeWhile, List.dropWhile, hc, h1, h2]

theorem rdName_of {x : ByteArray} (h : nm x = true) {r : List UInt8} (hr : stopB r = true) : rdName (x.data.toList ++ r) = some (x, r) := by
  obtain ⟨c, r', _, _, hall⟩ := nm_split h
  obtain ⟨h1, h2⟩ := takeName hall hr
  unfold rdName
  rw [h1, h2]
  have e : (⟨x.data.toList.toArray⟩ : ByteArray) = x := by
    apply ByteArray.ext
    simp
  rw [e, if_pos h]

theorem stop_of {c : UInt8} (h : inN c = false) (r : List UInt8) : stopB (c :: r) = true := by simp [stopB, h]

theorem stop_44 (r : List UInt8) : stopB (44 :: r) = true := stop_of (by decide) r
theorem stop_40 (r : List UInt8) : stopB (40 :: r) = true := stop_of (by decide) r
theorem stop_41 (r : List UInt8) : stopB (41 :: r) = true := stop_of (by decide) r

theorem txL_stop (S : Sy) (a : Y) (r : List UInt8) (hr : stopB r = true) : stopB (txL S 44 a ++ r) = true := by
  cases a with
  | nil => exact hr
  | cons n a s =>
    rw [txL_cons]
    exact stop_44 _

theorem pre_one (c : UInt8) (r : List UInt8) : pre [c] (c :: r) = true := by simp [pre, List.isPrefixOf]

theorem pre_not {c d : UInt8} (h : c ≠ d) (r : List UInt8) : pre [d] (c :: r) = false := by
  simp only [pre, List.isPrefixOf, Bool.and_true, beq_eq_false_iff_ne]
  exact fun e => h e.symm

theorem rdKids_tx (S : Sy) (g : List UInt8 → Option (Int × Y × List UInt8)) (a : Y) : ∀ (mb : UInt8) (r : List UInt8), stopB r = true →
    (∀ i, i < a.len → ∀ r', stopB r' = true → g (tx1 S (a.gn i) (a.ga i) ++ r') = some (a.gn i, a.ga i, r')) → rdKids g a.len mb (txL S mb a ++ r) = some (a, r) := by
  induction a with
  | nil => intro mb r _ _; rfl
  | cons n a s iha ihs =>
    intro mb r hr hg
    rw [txL_cons]
    simp only [len, rdKids, List.cons_append, List.append_assoc]
    rw [if_pos (pre_one _ _)]
    simp only [List.drop_succ_cons, List.drop_zero]
    have h0 := hg 0 (by simp [len]) (txL S 44 s ++ r) (txL_stop S s r hr)
    simp only [gn, ga] at h0
    rw [h0]
    have h1 := ihs 44 r hr (fun i hi r' hr' => hg (i + 1) (by simp [len]; omega) r' hr')
    simp only [Option.bind_some, h1, Option.map_some]

theorem rdE_tx {S : Sy} (hS : symsOk S = true) : ∀ (f : Nat) (n : Int) (a : Y) (r : List UInt8), over1 (ranksE S) n a = true → a.dep < f → stopB r = true → rdE S f (tx1 S n a ++ r) = some (n, a, r) := by
  obtain ⟨_, hrk, hnm⟩ := symsOk_facts hS
  intro f
  induction f with
  | zero => intro n a r _ h; omega
  | succ f ih =>
    intro n a r ho hd hr
    simp only [over1, Bool.and_eq_true] at ho
    by_cases hn : n = -1
    · subst hn
      rw [suit_nil ho.1]
      simp only [tx1, if_true, List.cons_append, List.nil_append, rdE]
      rw [if_pos (pre_one _ _)]
      rfl
    · have hs := suit_iff.1 ho.1
      rcases hs with ⟨e, _⟩ | ⟨h0, h1, h2⟩
      · exact absurd e hn
      obtain ⟨m, rfl⟩ : ∃ m : Nat, n = (m : Int) := ⟨n.toNat, by omega⟩
      rw [Int.toNat_natCast] at h2
      have hm : m < S.len := by have := h1; rw [ranksE_len] at this; omega
      have hrkm : S.rk m = (a.len : Int) := by
        rw [h2, List.getD_eq_getElem?_getD, ranksE, List.getElem?_map, List.getElem?_range hm]; rfl
      obtain ⟨c, r', hc, hc95, _⟩ := nm_split (hnm m hm)
      have hkids : ∀ i, i < a.len → ∀ r'', stopB r'' = true → rdE S f (tx1 S (a.gn i) (a.ga i) ++ r'') = some (a.gn i, a.ga i, r'') := by
        intro i hi r'' hr''
        have := dep_ga a i hi
        exact ih _ _ _ (overE_at ho.2 hi) (by omega) hr''
      have ht : tx1 S (m : Int) a ++ r = (S.nm m).data.toList ++ ((if a.len = 0 then [] else txL S 40 a ++ [41]) ++ r) := by
        simp only [tx1, if_neg hn, Int.toNat_natCast, List.append_assoc]
      rw [ht]
      have hp : pre [95] ((S.nm m).data.toList ++ ((if a.len = 0 then [] else txL S 40 a ++ [41]) ++ r)) = false := by
        rw [hc]; exact pre_not hc95 _
      simp only [rdE]
      rw [hp]
      simp only [Bool.false_eq_true, if_false]
      by_cases hl : a.len = 0
      · have ha : a = .nil := by cases a with
          | nil => rfl
          | cons n a r => simp [len] at hl
        subst ha
        rw [if_pos hl, List.nil_append, rdName_of (hnm m hm) hr, Option.bind_some, idxS_self hS hm (Nat.le_refl _), Option.bind_some, hrkm]
        rfl
      · rw [if_neg hl, List.append_assoc]
        have hst : stopB (txL S 40 a ++ ([41] ++ r)) = true := by
          cases a with
          | nil => exact absurd rfl hl
          | cons n2 a2 s2 => rw [txL_cons]; exact stop_40 _
        rw [rdName_of (hnm m hm) hst, Option.bind_some, idxS_self hS hm (Nat.le_refl _), Option.bind_some, hrkm, Int.toNat_natCast,
          rdKids_tx S (rdE S f) a 40 ([41] ++ r) (stop_41 r) hkids, Option.bind_some]
        show (if a.len = 0 then _ else if pre [41] (41 :: r) = true then some ((m : Int), a, (41 :: r).drop 1) else none) = _
        rw [if_neg hl, if_pos (pre_one _ _)]
        rfl

theorem txL_dep {S : Sy} {R : List Int} (t : Y) : ∀ m, overE R t = true → t.dep ≤ (txL S m t).length := by
  induction t with
  | nil => intro m _; simp [dep]
  | cons n a r iha ihr =>
    intro m o
    rw [overE_cons_iff] at o
    rw [txL_cons]
    have h1 := ihr 44 o.2
    have h2 : a.dep ≤ (tx1 S n a).length := by
      by_cases hn : n = -1
      · subst hn; rw [suit_nil o.1.1]; simp [dep]
      · by_cases hl : a.len = 0
        · have ha : a = .nil := by cases a with
            | nil => rfl
            | cons n a r => simp [len] at hl
          subst ha; simp [dep]
        · have := iha 40 o.1.2
          simp only [tx1, if_neg hn, if_neg hl, List.length_append, List.length_singleton]
          omega
    simp only [dep, List.length_cons, List.length_append]
    omega

theorem getE_tx {S : Sy} (hS : symsOk S = true) {n : Int} {a : Y} (ht : treeOk (ranksE S) n a = true) (hl : ¬ 65536 < (tx1 S n a).length) : getE S (tx1 S n a) = (0, n, a) := by
  obtain ⟨s1, d1, o1⟩ := treeOk_split ht
  have ho : over1 (ranksE S) n a = true := by rw [← over_one]; exact o1
  have hd := txL_dep (S := S) (.cons n a .nil) 40 o1
  rw [dep_one, txL_cons] at hd
  have hd2 : (txL S 44 .nil).length = 0 := rfl
  simp only [List.length_cons, List.length_append, hd2] at hd
  have h := rdE_tx hS ((tx1 S n a).length + 1) n a [] ho (by omega) rfl
  rw [List.append_nil] at h
  unfold getE
  rw [if_pos hS, if_neg hl, h]
  simp only [ht, if_true]

end Go.Proofs.Ytgpbkdfhjkfceaa

/-
  The walk of the statement on a tree that is written and read back, where the example holds. Conditions: none but that symbols and tree lie in memory.
-/
set_option linter.unusedSimpArgs false
set_option linter.unusedVariables false
namespace Go.Proofs.Ytgpbkdfhjkfceaa
open Go.RowKit

set_option maxRecDepth 100000 in
set_option maxHeartbeats 4000000 in
theorem law_eround (hal : AliveE) (S : Sy) (a : Y) (n : Int) (w : World) (sp p : Option Addr) (sn sc l cap : Nat) (hsy : IsS w S sp sn sc) (his : IsY w a p l cap) :
    Calls Try.prog 16 #[.slice sp sn sc, .agg #[.int .i64 n, .slice p l cap]] w fun e w' => e = .returned (.bool true) ∧ Below w.heap.size w w' := by
  have hl := his.1
  subst hl
  have hA := Lib.hid hal
  have K0 : KP w (w.alloc (.cells #[.int .i64 n, .slice p a.len cap] 25)) w.heap.size S sp sn sc n a p cap := ⟨hsy.alloc _, heap_new _ _, his.alloc _, (Below.refl _ _).alloc (Nat.le_refl _) _⟩
  have HK := Lib.hid K0
  have HSy := Lib.hid fun W (h : IsS W S sp sn sc) => refsymbols_any S W sp sn sc h
  have MK := Lib.hid fun W (h : KP w W w.heap.size S sp sn sc n a p cap) => (And.intro (box2_cells h.hbt).1 (And.intro (box2_cells h.hbt).2 h) : W.cell? ⟨w.heap.size, 0, none⟩ = some (.int .i64 n) ∧ W.cell? ⟨w.heap.size, 1, none⟩ = some (.slice p a.len cap) ∧ KP w W w.heap.size S sp sn sc n a p cap)
  have RS := Lib.hid fun W (h : W.cell? ⟨w.heap.size, 0, none⟩ = some (.int .i64 n) ∧ W.cell? ⟨w.heap.size, 1, none⟩ = some (.slice p a.len cap) ∧ KP w W w.heap.size S sp sn sc n a p cap) => (h.2.2 : KP w W w.heap.size S sp sn sc n a p cap)
  have f3 := MK.out _ (K0.drew)
  clear hal K0 hsy his
  cases hok : symsOk S with
  | false =>
    rw [hok] at HSy
    clear hok
    go_enter Try.func16, Try.ntmps16
    go_wp2_with fail
    refine wp_region_held_drew (S := (fun W => W.cell? ⟨w.heap.size, 0, none⟩ = some (.int .i64 n) ∧ W.cell? ⟨w.heap.size, 1, none⟩ = some (.slice p a.len cap) ∧ KP w W w.heap.size S sp sn sc n a p cap)) (by kernel_rfl) f3 (fun hHeld => ?_)
    refine wpAnyH_take (i := 0) (oi := { dst := some 9, op := Go.Op.move (Go.Operand.tmp 0), type := 44, pos := "law.go:168", after := #[], guard := none }) (v := ?_) rfl (by kernel_rfl) (by kernel_rfl) (by kernel_rfl) (fun _ _ _ h => h) (Or.inl ⟨by rfl, ?_⟩) (by assumption) ?_
    rotate_left
    · intro W hSw; (try dsimp only at hSw); go_simp; with_reducible rfl
    try simp only [Act.put, List.setIfInBounds_toArray, List.set_cons_zero, List.set_cons_succ]
    refine wpAnyH_ready (rs := [1]) (by kernel_rfl) (by simp) ?_
    refine AllReadyH.cons (o := { dst := some 10, op := Go.Op.call { callee := Go.Callee.value (Go.Operand.func 40), args := #[Go.Operand.tmp 9], argTypes := #[44] }, type := 4, pos := "law.go:168", after := #[{ on := 0, ground := Go.Ground.data }], guard := none }) rfl (fun K hK => ?_) AllReadyH.nil
    go_simp
    go_at_call 40
    refine (HSy.out _ hHeld.2.2.syms).mono ?_
    rintro e w3 ⟨rfl, hb3⟩
    have HK3 := Lib.hid (hHeld.2.2.below hb3)
    have hHeld3 := MK.out _ HK3.out
    go_wp2_with fail
    refine hK.out _ _ hHeld3 (fun hHeld4 => ?_)
    clear hK K
    try simp only [Act.put, List.setIfInBounds_toArray, List.set_cons_zero, List.set_cons_succ]
    refine wpAnyH_take (i := 2) (oi := { dst := some 11, op := Go.Op.unOp Go.UnOp.not 4 (Go.Operand.tmp 10), type := 4, pos := "law.go:168", after := #[{ on := 1, ground := Go.Ground.data }], guard := none }) (v := ?_) rfl (by kernel_rfl) (by kernel_rfl) (by kernel_rfl) (fun _ _ _ h => h) (Or.inl ⟨by rfl, ?_⟩) (by assumption) ?_
    rotate_left
    · intro W hSw; (try dsimp only at hSw); go_simp; with_reducible rfl
    try simp only [Act.put, List.setIfInBounds_toArray, List.set_cons_zero, List.set_cons_succ]
    refine wpAnyH_take (i := 3) (oi := { dst := some 12, op := Go.Op.move (Go.Operand.tmp 11), type := 4, pos := "law.go:168", after := #[{ on := 2, ground := Go.Ground.data }, { on := 1, ground := Go.Ground.chain }], guard := none }) (v := ?_) rfl (by kernel_rfl) (by kernel_rfl) (by kernel_rfl) (fun _ _ _ h => h) (Or.inl ⟨by rfl, ?_⟩) (by assumption) ?_
    rotate_left
    · intro W hSw; (try dsimp only at hSw); go_simp; with_reducible rfl
    try simp only [Act.put, List.setIfInBounds_toArray, List.set_cons_zero, List.set_cons_succ]
    refine wpAnyH_take (i := 4) (oi := { dst := some 13, op := Go.Op.move (Go.Operand.tmp 0), type := 44, pos := "law.go:168", after := #[{ on := 3, ground := Go.Ground.guard }], guard := some (3, false) }) (v := undef) rfl (by kernel_rfl) (by kernel_rfl) (by kernel_rfl) (fun _ _ _ h => h) (Or.inr ⟨by rfl, rfl⟩) (by assumption) ?_
    try simp only [Act.put, List.setIfInBounds_toArray, List.set_cons_zero, List.set_cons_succ]
    refine wpAnyH_take (i := 5) (oi := { dst := some 14, op := Go.Op.call { callee := Go.Callee.value (Go.Operand.func 42), args := #[Go.Operand.tmp 13], argTypes := #[44] }, type := 22, pos := "law.go:168", after := #[{ on := 4, ground := Go.Ground.data }, { on := 3, ground := Go.Ground.chain }, { on := 3, ground := Go.Ground.guard }], guard := some (3, false) }) (v := undef) rfl (by kernel_rfl) (by kernel_rfl) (by kernel_rfl) (fun _ _ _ h => h) (Or.inr ⟨by rfl, rfl⟩) (by assumption) ?_
    try simp only [Act.put, List.setIfInBounds_toArray, List.set_cons_zero, List.set_cons_succ]
    refine wpAnyH_take (i := 6) (oi := { dst := some 15, op := Go.Op.load 25 (Go.Operand.tmp 3), type := 25, pos := "law.go:168", after := #[{ on := 3, ground := Go.Ground.guard }], guard := some (3, false) }) (v := undef) rfl (by kernel_rfl) (by kernel_rfl) (by kernel_rfl) (fun _ _ _ h => h) (Or.inr ⟨by rfl, rfl⟩) (by assumption) ?_
    try simp only [Act.put, List.setIfInBounds_toArray, List.set_cons_zero, List.set_cons_succ]
    refine wpAnyH_take (i := 7) (oi := { dst := some 16, op := Go.Op.call { callee := Go.Callee.value (Go.Operand.func 41), args := #[Go.Operand.tmp 14, Go.Operand.tmp 15], argTypes := #[22, 25] }, type := 4, pos := "law.go:168", after := #[{ on := 5, ground := Go.Ground.data }, { on := 6, ground := Go.Ground.data }, { on := 5, ground := Go.Ground.chain }, { on := 3, ground := Go.Ground.guard }], guard := some (3, false) }) (v := undef) rfl (by kernel_rfl) (by kernel_rfl) (by kernel_rfl) (fun _ _ _ h => h) (Or.inr ⟨by rfl, rfl⟩) (by assumption) ?_
    try simp only [Act.put, List.setIfInBounds_toArray, List.set_cons_zero, List.set_cons_succ]
    refine wpAnyH_take (i := 8) (oi := { dst := some 17, op := Go.Op.unOp Go.UnOp.not 4 (Go.Operand.tmp 16), type := 4, pos := "law.go:168", after := #[{ on := 7, ground := Go.Ground.data }, { on := 3, ground := Go.Ground.guard }], guard := some (3, false) }) (v := undef) rfl (by kernel_rfl) (by kernel_rfl) (by kernel_rfl) (fun _ _ _ h => h) (Or.inr ⟨by rfl, rfl⟩) (by assumption) ?_
    try simp only [Act.put, List.setIfInBounds_toArray, List.set_cons_zero, List.set_cons_succ]
    refine wpAnyH_take (i := 9) (oi := { dst := some 18, op := Go.Op.pick (Go.Operand.tmp 12) (Go.Operand.const (Go.Value.bool true)) (Go.Operand.tmp 17), type := 4, pos := "law.go:168", after := #[{ on := 3, ground := Go.Ground.data }, { on := 8, ground := Go.Ground.data }], guard := none }) (v := ?_) rfl (by kernel_rfl) (by kernel_rfl) (by kernel_rfl) (fun _ _ _ h => h) (Or.inl ⟨by rfl, ?_⟩) (by assumption) ?_
    rotate_left
    · intro W hSw; (try dsimp only at hSw); go_simp; with_reducible rfl
    try simp only [Act.put, List.setIfInBounds_toArray, List.set_cons_zero, List.set_cons_succ]
    refine wpAnyH_done (by kernel_rfl) ?_ _
    all_goals
      go_wp2_with fail
      refine (hA.out _).mono ?_
      rintro e wz ⟨rfl, hbz⟩
      go_wp2_with fail
      go_ret
      exact ⟨rfl, (HK3.out.below hbz).base⟩
  | true =>
    rw [hok] at HSy
    have hsl := (symsOk_facts hok).1
    have HRK := Lib.hid fun W (h : IsS W S sp sn sc) => erefranksof_any S W sp sn sc h (by omega)
    have HIS := Lib.hid fun W rq rc (h1 : IsL W (ranksE S) rq (ranksE S).length rc) (h2 : IsY W a p a.len cap) => erefis_any (ranksE S) a n W rq p _ rc _ cap h1 h2
    cases ht : treeOk (ranksE S) n a with
    | false =>
      rw [ht] at HIS
      clear ht hok hsl
      go_enter Try.func16, Try.ntmps16
      go_wp2_with fail
      go_region_held3 (fun W => W.cell? ⟨w.heap.size, 0, none⟩ = some (.int .i64 n) ∧ W.cell? ⟨w.heap.size, 1, none⟩ = some (.slice p a.len cap) ∧ KP w W w.heap.size S sp sn sc n a p cap)
        (first | exact f3 | exact MK.out _ ((RS.out _ (by assumption)).below (by assumption)))
        (first
        | (go_at_call 40; refine (HSy.out _ (RS.out _ (by assumption)).syms).mono ?_; rintro e w3 ⟨rfl, hb3⟩)
        | (go_at_call 42; refine (HRK.out _ (RS.out _ (by assumption)).syms).mono ?_; rintro e w4 ⟨rq, rc, rfl, hL, _, hb4⟩)
        | (go_at_call 41; refine (HIS.out _ _ _ hL (RS.out _ (by assumption)).isY).mono ?_; rintro e w5 ⟨rfl, hb5⟩))
      all_goals
        go_wp2_with fail
        refine (hA.out _).mono ?_
        rintro e wz ⟨rfl, hbz⟩
        go_wp2_with fail
        go_ret
        exact ⟨rfl, ((RS.out _ (by assumption)).below hbz).base⟩
    | true =>
      rw [ht] at HIS
      have HP := Lib.hid fun W (h1 : IsS W S sp sn sc) (h2 : IsY W a p a.len cap) => eput_any S a n W sp p sn sc _ cap h1 h2
      by_cases hlong : 65536 < (tx1 S n a).length
      · have hp : putE S n a = (3, []) := by unfold putE; rw [if_pos hok, if_pos ht, if_pos hlong]
        rw [hp] at HP
        clear hp hlong ht hok hsl
        go_enter Try.func16, Try.ntmps16
        go_wp2_with fail
        go_region_held3 (fun W => W.cell? ⟨w.heap.size, 0, none⟩ = some (.int .i64 n) ∧ W.cell? ⟨w.heap.size, 1, none⟩ = some (.slice p a.len cap) ∧ KP w W w.heap.size S sp sn sc n a p cap)
          (first | exact f3 | exact MK.out _ ((RS.out _ (by assumption)).below (by assumption)))
          (first
          | (go_at_call 40; refine (HSy.out _ (RS.out _ (by assumption)).syms).mono ?_; rintro e w3 ⟨rfl, hb3⟩)
          | (go_at_call 42; refine (HRK.out _ (RS.out _ (by assumption)).syms).mono ?_; rintro e w4 ⟨rq, rc, rfl, hL, _, hb4⟩)
          | (go_at_call 41; refine (HIS.out _ _ _ hL (RS.out _ (by assumption)).isY).mono ?_; rintro e w5 ⟨rfl, hb5⟩))
        all_goals
          have HK5 := Lib.hid (RS.out _ (by assumption))
          have kc := box2_cells HK5.out.hbt
          obtain ⟨k1, k2⟩ := kc
          go_wp2_with fail
          refine (HP.out _ HK5.out.syms HK5.out.isY).mono ?_
          rintro e w6 ⟨rfl, hb6⟩
          have HK6 := Lib.hid (HK5.out.below hb6)
          go_wp2_with fail
          refine (hA.out _).mono ?_
          rintro e wz ⟨rfl, hbz⟩
          go_wp2_with fail
          go_ret
          exact ⟨rfl, (HK6.out.below hbz).base⟩
      · have hp : putE S n a = (0, tx1 S n a) := by unfold putE; rw [if_pos hok, if_pos ht, if_neg hlong]
        rw [hp] at HP
        have HG := Lib.hid fun W (h1 : IsS W S sp sn sc) => eget_any S (tx1 S n a) W sp sn sc h1
        rw [getE_tx hok ht hlong] at HG
        have hsz := (treeOk_split ht).1
        have HE := Lib.hid fun W q c (h1 : IsY W a q a.len c) (h2 : IsY W a p a.len cap) => erefsame_any a a n n W q p _ c _ cap h1 h2
        rw [sm_refl hsz] at HE
        generalize tx1 S n a = tx at *
        have hle : decide ((tx.length : Int) ≤ 65536) = true := by simpa using (by omega : (tx.length : Int) ≤ 65536)
        have hle2 : tx.length ≤ 65536 := by omega
        clear hp hlong ht hok hsl hsz
        go_enter Try.func16, Try.ntmps16
        go_wp2_with fail
        go_region_held3 (fun W => W.cell? ⟨w.heap.size, 0, none⟩ = some (.int .i64 n) ∧ W.cell? ⟨w.heap.size, 1, none⟩ = some (.slice p a.len cap) ∧ KP w W w.heap.size S sp sn sc n a p cap)
          (first | exact f3 | exact MK.out _ ((RS.out _ (by assumption)).below (by assumption)))
          (first
          | (go_at_call 40; refine (HSy.out _ (RS.out _ (by assumption)).syms).mono ?_; rintro e w3 ⟨rfl, hb3⟩)
          | (go_at_call 42; refine (HRK.out _ (RS.out _ (by assumption)).syms).mono ?_; rintro e w4 ⟨rq, rc, rfl, hL, _, hb4⟩)
          | (go_at_call 41; refine (HIS.out _ _ _ hL (RS.out _ (by assumption)).isY).mono ?_; rintro e w5 ⟨rfl, hb5⟩))
        all_goals
          have HK5 := Lib.hid (RS.out _ (by assumption))
          have kc := box2_cells HK5.out.hbt
          obtain ⟨k1, k2⟩ := kc
          go_wp2_with fail
          refine (HP.out _ HK5.out.syms HK5.out.isY).mono ?_
          rintro e w6 ⟨rfl, hb6⟩
          have HK6 := Lib.hid (HK5.out.below hb6)
          clear hb6
          go_wp2_with fail
          refine (HG.out _ HK6.out.syms).mono ?_
          rintro e w7 ⟨q, c, rfl, hO, hb7⟩
          have HK7 := Lib.hid ((HK6.out.below hb7).alloc (.cells #[.int .i64 n, .slice q a.len c] 25))
          have hI := hO.isY.alloc (.cells #[.int .i64 n, .slice q a.len c] 25)
          have HI := Lib.hid hI
          have kc := box2_cells HK7.out.hbt
          obtain ⟨k3, k4⟩ := kc
          clear hb7 hO hI
          go_wp2_with fail
          refine (HE.out _ q c HI.out HK7.out.isY).mono ?_
          rintro e w8 ⟨rfl, hb8⟩
          have HK8 := Lib.hid (HK7.out.below hb8)
          clear hb8
          go_wp2_with fail
          refine (hA.out _).mono ?_
          rintro e wz ⟨rfl, hbz⟩
          go_wp2_with fail
          go_ret
          exact ⟨rfl, (HK8.out.below hbz).base⟩

end Go.Proofs.Ytgpbkdfhjkfceaa

set_option linter.unusedSimpArgs false
set_option linter.unusedVariables false
namespace Go.Proofs.Ytgpbkdfhjkfceaa
open Go.ChangeShapes Go.WideShapes Go.ChangeAt Go.RowKit
open Go.ChangeMaps (open_string shut_string)

set_option maxRecDepth 100000 in
theorem treeRound_lifted (os : Os) (started : os.Started) (H : Type) (enc : TypeId × Value → H) :
    ReturnsInHanded {} Try.checked os 16 .any (Rows.treeRoundSpec.pre6 enc Try.prog Try.f16 Rows.treeRoundRow.domain false) (Rows.treeRoundSpec.post enc Try.prog Try.f16 false true false false) := by
  refine returnsInHanded_of_change (C := Try.checked) PE.own started (by kernel_rfl) Try.func16
    (ChangeSpec.witness6 (enc := enc) (C := Try.checked) false ⟨#[], #[.slice none 0 0, .agg #[.int .i64 0, .slice none 0 0]], []⟩ 8 (by kernel_rfl) (by kernel_rfl) (by kernel_rfl) (by kernel_rfl)) ?_
  intro W base args ds gs before hval0 hW hcnd _
  have hval : ∀ (j : Nat) t v, Try.f16.params[j]? = some t → args[j]? = some v → Value.okWide Try.prog W .any base t v := hval0
  have hW' := hW
  obtain ⟨p, q, hA0, hV, rfl, hfz, hnd⟩ := hW
  have hA : DataW.TrodAll enc Try.prog W 0 (fun _ => true) true Try.f16.params.toList args.toList ds p := hA0
  rw [Try.params16] at hA hval
  obtain ⟨v0, v1, d0, d1, p0, p1, rfl, rfl, rfl, h0, h1⟩ := trodAll_two hA
  obtain ⟨rfl, rfl⟩ := trodVars_none hV
  have k0 := h0
  obtain ⟨a0, n0, c0, t0, rfl, i0⟩ := open_syms (hval 0 44 v0 rfl rfl) h0
  have k1 := h1
  obtain ⟨ni1, a1, n1, c1, t1, rfl, i1⟩ := open_tree (hval 1 25 v1 rfl rfl) h1
  clear hA0 hval0
  simp only [List.append_nil] at hW'
  refine (law_eround alive_any t0 t1 ni1 W a0 a1 n0 c0 n1 c1 i0 i1).mono fun e W' ⟨he, hb⟩ => ?_
  subst he
  have hlt := fun x hx => hW'.lt x hx
  exact ⟨_, rfl, post_below (pv := []) hW' (fun _ _ _ => trodAll_mk1 (shut_bool Try.underlying4 true))
    (fun sp hsp => trodAll_mk2 (WideElems.Trod_stays PE.laidOut PE.readSyL (of_decide_eq_true (by kernel_rfl)) k0 (fun x hx => hb.same (hlt x (by simp [hx]))) (fun x hx => hsp x (by simp [hx]))) (WideElems.Trod_stays PE.laidOut PE.readY (of_decide_eq_true (by kernel_rfl)) k1 (fun x hx => hb.same (hlt x (by simp [hx]))) (fun x hx => hsp x (by simp [hx]))))
    (fun _ _ => rfl) (by simp) hb (ok_one (by kernel_rfl) rfl (okWide_bool_mk Try.underlying4 true))⟩

theorem treeRound_holds : Rows.TreeRoundSaid :=
  OpenClaim.holds_of_wide 16 Try.f16 rfl rfl rfl rfl rfl rfl rfl ⟨rfl, rfl, rfl, rfl, rfl⟩ rfl rfl rfl rfl rfl (by kernel_rfl) Try.func16 (by kernel_rfl)
    (of_decide_eq_true (by kernel_rfl)) (by unfold Func.isWrapper; rw [if_neg (of_decide_eq_false (by kernel_rfl))]; exact ⟨rfl, rfl⟩)
    (fun os started H enc _ => treeRound_lifted os started H enc)

end Go.Proofs.Ytgpbkdfhjkfceaa

