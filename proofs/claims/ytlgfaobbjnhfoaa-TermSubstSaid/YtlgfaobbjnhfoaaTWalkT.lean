/-
  The walks of Apply and of the statements' comparison of two results. Conditions: none but that the terms lie in memory.
-/
import Derived.Test.YtlgfaobbjnhfoaaTWalkQ
import Derived.Test.YtlgfaobbjnhfoaaTWalkR
set_option linter.unusedSimpArgs false
set_option linter.unusedVariables false
namespace Go.Proofs.Ytlgfaobbjnhfoaa
open Go.RowKit

theorem eqX_refl (a : X) : X.eqX a a = true := by
  induction a with
  | nil => simp [X.eqX]
  | cons k n a r iha ihr => simp [X.eqX, iha, ihr]

theorem sm_refl (k n : Int) (a : X) (h : a.sz < 100000) : X.sm k n a k n a = true := by simp [X.sm, X.eq1, eqX_refl, h]

set_option maxRecDepth 100000 in
set_option maxHeartbeats 1600000 in
theorem is_true (A : X) (hs : A.sz < 100000) (K Nn E : Int) (w : World) (r r' : Option Addr) (c c' : Nat) (i1 : IsX w A r A.len c) (i2 : IsX w A r' A.len c') :
    Calls Try.prog 31 #[.agg #[.int .i64 K, .int .i64 Nn, .slice r A.len c], .int .i64 E, .agg #[.int .i64 K, .int .i64 Nn, .slice r' A.len c'], .int .i64 E] w fun e w' => e = .returned (.bool true) ∧ Below w.heap.size w w' := by
  have hx := fun W h h' => trefsame_any A A K Nn K Nn W r r' A.len c A.len c' h h'
  rw [sm_refl K Nn A hs] at hx
  have HX := Lib.hid hx
  clear hx hs
  have b0 : ∀ o1 o2, Below w.heap.size w ((w.alloc o1).alloc o2) := fun o1 o2 => ((Below.refl _ _).alloc (Nat.le_refl _) _).alloc (by simp) _
  go_enter Try.func31, Try.ntmps31
  go_wp2_with fail
  refine (HX.out _ ((i1.alloc _).alloc _) ((i2.alloc _).alloc _)).mono ?_
  rintro e w1 ⟨rfl, hb1⟩
  go_wp2_with fail
  go_ret
  exact ⟨rfl, (b0 _ _).trans (hb1.mono (b0 _ _).size)⟩

/-- what Apply returns: an error, and a term -/
def appRes (args : X) (k n : Int) (a : X) : Int × Int × Int × X := if 1 + a.sz + args.sz ≤ 100000 then (0, k, n, a.app args) else (3, 0, 0, .nil)

theorem appRes_sz {args a A : X} {k n E K Nn : Int} (h : appRes args k n a = (E, K, Nn, A)) : A.sz < 100000 := by
  unfold appRes at h
  split at h
  · obtain ⟨_, h⟩ := Prod.mk.inj h
    obtain ⟨_, h⟩ := Prod.mk.inj h
    obtain ⟨_, h⟩ := Prod.mk.inj h
    rw [← h, X.sz_app]; omega
  · obtain ⟨_, h⟩ := Prod.mk.inj h
    obtain ⟨_, h⟩ := Prod.mk.inj h
    obtain ⟨_, h⟩ := Prod.mk.inj h
    rw [← h]; decide

theorem sz_drop (a : X) (i : Nat) (h : i < a.len) : (a.drop i).sz = 1 + (a.ga i).sz + (a.drop (i + 1)).sz := by
  rw [X.drop_cons a i h]; rfl

/-- the two variables of Apply, in their blocks -/
def Vars2 (w : World) (x y : Obj) (W : World) : Prop := W.heap[w.heap.size]? = some x ∧ W.heap[w.heap.size + 1]? = some y ∧ Below w.heap.size w W

theorem Vars2.below {w W W' : World} {x y : Obj} (h : Vars2 w x y W) (hb : Below W.heap.size W W') : Vars2 w x y W' :=
  ⟨box3_later hb h.1, box3_later hb h.2.1, h.2.2.trans (hb.mono h.2.2.size)⟩

theorem Vars2.start (w : World) (x y : Obj) : Vars2 w x y ((w.alloc x).alloc y) :=
  ⟨alloc_kept (heap_new w x) y, heap_new2 w x y, ((Below.refl w.heap.size w).alloc (Nat.le_refl _) _).alloc (by simp) _⟩

set_option maxRecDepth 100000 in
set_option maxHeartbeats 8000000 in
theorem apply_any (args a : X) (k n : Int) (w : World) (p q : Option Addr) (l cap m cap' : Nat) (his : IsX w a p l cap) (hia : IsX w args q m cap') (E K Nn : Int) (A : X) (hres : appRes args k n a = (E, K, Nn, A)) :
    Calls Try.prog 32 #[.agg #[.int .i64 k, .int .i64 n, .slice p l cap], .slice q m cap'] w fun e w' =>
      ∃ r c, e = .returned (.tuple #[.agg #[.int .i64 K, .int .i64 Nn, .slice r A.len c], .int .i64 E]) ∧ OwnX w' A r c w.heap.size w'.heap.size ∧ Below w.heap.size w w' := by
  have HD := Lib.hid hres
  clear hres
  obtain ⟨hn, hcap, hmax, hnil, hrow⟩ := id hia
  subst hn
  unfold maxLen at hmax
  have HIA := Lib.hid hia
  have HIS := Lib.hid his
  clear hia his
  go_enter Try.func32, Try.ntmps32
  go_wp2_with fail
  refine (count_any a k n _ p l cap ((HIS.out.alloc _).alloc _)).mono ?_
  rintro e w1 ⟨rfl, hb1⟩
  have V1 := (Vars2.start w _ _).below hb1
  have HV1 := Lib.hid V1
  clear hb1 V1
  obtain ⟨c0, hc0⟩ : ∃ c0, min (1 + a.sz) 100001 = c0 := ⟨_, rfl⟩
  rw [hc0]
  go_wp2_with fail
  go_loopw [6, 13] (fun v i wr => ∃ j m : Nat, j ≤ args.len ∧ i = .int .i64 (j : Int) ∧ v = .int .i64 (m : Int) ∧ m ≤ 200001 ∧ (m ≤ 100000 → m + (args.drop j).sz = 1 + a.sz + args.sz) ∧ (100001 ≤ m → 100001 ≤ 1 + a.sz + args.sz) ∧
      Vars2 w (.cells #[.int .i64 k, .int .i64 n, .slice p l cap] 35) (.cells #[.int .i64 0, .int .i64 0, .slice none 0 0] 35) wr)
    (fun _ i _ => args.len - (intOf i).toNat)
  case atStart => exact ⟨0, c0, Nat.zero_le _, rfl, rfl, by omega, fun h => by rw [X.drop_zero]; omega, fun h => by omega, HV1.out⟩
  case round =>
    clear HV1 hc0
    obtain ⟨j, m, hj, rfl, rfl, hm2, h1, h2, hV⟩ := hrel
    have HV := Lib.hid hV
    have H1 := Lib.hid h1
    have H2 := Lib.hid h2
    clear hV h1 h2
    obtain ⟨r1, r2, r3⟩ := box3_cells HV.out.2.1
    obtain ⟨f1, f2, f3⟩ := free3 HV.out.2.1
    obtain ⟨t1, t2, t3⟩ := box3_cells HV.out.1
    have hzr := lt_of_block HV.out.2.1
    by_cases hm : m ≤ 100000
    case neg =>
      have e1 := HD.out
      unfold appRes at e1
      rw [if_neg (by have := H2.out (by omega); omega)] at e1
      obtain ⟨rfl, rfl, rfl, rfl⟩ : 3 = E ∧ 0 = K ∧ 0 = Nn ∧ X.nil = A := by simpa using e1
      have hd9 : decide (100001 ≤ (m : Int)) = true := by rw [decide_eq_true_eq]; omega
      clear HD e1 H1 H2 t1 t2 t3 hm
      have HM2 := Lib.hid hm2
      clear hm2
      generalize (m : Int) = mi at hd9 ⊢
      by_cases hlt : j < args.len
      · rcases hrow with h0 | ⟨b, off, rfl, hr⟩
        · omega
        obtain ⟨hck, hcn, p', n', cap1, hc, hi⟩ := base3_at (Keeps3.below HV.out.2.2 (Nat.le_refl _)) hr hlt
        have Z := fun x => box3_cells (alloc_kept (heap_set3 (k := 0) (n := 0) (v := .slice none 0 0) HV.out.2.1) x)
        have Z1 := fun x => (Z x).1
        have Z2 := fun x => (Z x).2.1
        have Z3 := fun x => (Z x).2.2
        have hbz := fun x => (below_set3 (.int .i64 0) (.int .i64 0) (.slice none 0 0) HV.out.2.2 (b := w.heap.size + 1) (by omega)).alloc (below_set3 (.int .i64 0) (.int .i64 0) (.slice none 0 0) HV.out.2.2 (b := w.heap.size + 1) (by omega)).size x
        have HBZ := Lib.hid hbz
        have ZZ := Lib.hid (And.intro Z1 (And.intro Z2 Z3))
        clear hbz Z Z1 Z2 Z3
        go_wp2_with fail
        obtain ⟨Z1, Z2, Z3⟩ := ZZ.out
        exact bodyPost_ret (v := .tuple #[.agg #[.int .i64 0, .int .i64 0, .slice none 0 0], .int .i64 3]) (by simp [results, Try.results32, go_sem, Z1, Z2, Z3]) rfl ⟨none, 0, rfl, ownX_nil _ _ _, HBZ.out _⟩
      · go_wp2_with fail
        exact bodyPost_ret (v := .tuple #[.agg #[.int .i64 0, .int .i64 0, .slice none 0 0], .int .i64 3]) (by simp [results, Try.results32, go_sem, r1, r2, r3]) rfl ⟨none, 0, rfl, ownX_nil _ _ _, below_set3 _ _ _ HV.out.2.2 (by omega)⟩
    case pos =>
      by_cases hlt : j < args.len
      · clear r1 r2 r3 f1 f2 f3 t1 t2 t3
        rcases hrow with h0 | ⟨b, off, rfl, hr⟩
        · omega
        obtain ⟨hck, hcn, p', n', cap1, hc, hi⟩ := base3_at (Keeps3.below HV.out.2.2 (Nat.le_refl _)) hr hlt
        have hsd := sz_drop args j hlt
        have he := H1.out hm
        obtain ⟨s, hs⟩ : ∃ s, min (1 + (args.ga j).sz) 100001 = s := ⟨_, rfl⟩
        have n1 : m + s ≤ 100000 → m + s + (args.drop (j + 1)).sz = 1 + a.sz + args.sz := by omega
        have n2 : 100001 ≤ m + s → 100001 ≤ 1 + a.sz + args.sz := by omega
        have N1 := Lib.hid n1
        have N2 := Lib.hid n2
        have hs2 : s ≤ 100001 := by omega
        have hd9 : decide (100001 ≤ (m : Int)) = false := by rw [decide_eq_false_iff_not]; omega
        have HC := Lib.hid (fun W h => count_any (args.ga j) (args.gk j) (args.gn j) W p' n' cap1 h)
        rw [hs] at HC
        clear hsd he n1 n2 hs H1 H2
        go_wp2_with fail
        refine (HC.out _ (hi.alloc _)).mono ?_
        rintro e w2 ⟨rfl, hb2⟩
        have V2 := HV.out.below (below_call hb2)
        clear hb2
        go_wp2_with fail
        go_roundw
        case rel => exact ⟨j + 1, m + s, by omega, by go_num, val_int (by omega), by omega, N1.out, N2.out, V2⟩
        case measure => simp [intOf]; omega
      · obtain rfl : j = args.len := by omega
        have he := H1.out hm
        rw [X.drop_end args args.len (by omega)] at he
        have hez : m = 1 + a.sz + args.sz := he
        have e1 := HD.out
        unfold appRes at e1
        rw [if_pos (by omega)] at e1
        obtain ⟨rfl, rfl, rfl, rfl⟩ : 0 = E ∧ k = K ∧ n = Nn ∧ a.app args = A := by simpa using e1
        have l1 := a.len_le_sz
        have l2 := args.len_le_sz
        have J : ∀ W, IsX W a p l cap → IsX W args q args.len cap' → Calls Try.prog 68 #[.slice p l cap, .slice q args.len cap', .func (Fn.func 69) #[] #[]] W fun e w' => ∃ r c, e = .returned (.slice r (a.app args).len c) ∧ OwnX w' (a.app args) r c W.heap.size w'.heap.size ∧ Below W.heap.size W w' := by
          intro W h h'
          have := join_fresh (g := fun k n a => (k, n, a)) (Env := fun _ => True) a args W p q l cap args.len cap' h h' (by omega) trivial (fun _ _ _ _ => trivial)
            (fun j hj W p l cap h => tfresh_any (a.sz + 1) (a.ga j) _ _ W p l cap (by have := a.sz_ga j hj; omega) (by have := a.sz_ga j hj; omega) h)
            (fun j hj W p l cap _ h => tfresh_any (args.sz + 1) (args.ga j) _ _ W p l cap (by have := args.sz_ga j hj; omega) (by have := args.sz_ga j hj; omega) h)
          rwa [X.map_id] at this
        have ix : IsX wr a p l cap := HIS.out.below HV.out.2.2
        have iax : IsX wr args q args.len cap' := HIA.out.below HV.out.2.2
        have hd9 : decide (100001 ≤ (m : Int)) = false := by rw [decide_eq_false_iff_not]; omega
        obtain ⟨al, hal⟩ : ∃ al, (a.app args).len = al := ⟨_, rfl⟩
        rw [hal] at J
        have HJ := Lib.hid J
        have HAL := Lib.hid hal
        clear J hal H1 H2 HD e1 he hez l1 l2 hrow hlt
        go_wp2_with fail
        go_region_with ((go_at_call 68; refine (HJ.out _ ?_ ?_).mono ?_; exact ix.drew; exact iax.drew; rintro e w5 ⟨r, c, rfl, hO5, hb5⟩; have q := box3_cells (box3_later (drew_later hb5) HV.out.2.1); obtain ⟨q1, q2, q3⟩ := q; have g := free3 (box3_later (drew_later hb5) HV.out.2.1); obtain ⟨g1, g2, g3⟩ := g; have u := box3_cells (box3_later (drew_later hb5) HV.out.1); obtain ⟨u1, u2, u3⟩ := u))
        all_goals go_wp2_with fail
        all_goals
          exact bodyPost_ret (v := .tuple #[.agg #[.int .i64 k, .int .i64 n, .slice r al c], .int .i64 0]) (by simp [results, Try.results32, go_sem, q1, q2, q3]) rfl ⟨r, c, by rw [HAL.out], hO5.set3 _ _ _ (show w.heap.size + 1 < wr.drew.heap.size from hzr) (show w.heap.size ≤ wr.drew.heap.size from Nat.le_of_lt (Nat.lt_of_succ_lt hzr)), below_set3 _ _ _ (HV.out.2.2.trans ((drew_later hb5).mono HV.out.2.2.size)) (Nat.le_succ _)⟩

end Go.Proofs.Ytlgfaobbjnhfoaa
