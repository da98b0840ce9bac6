/-
  The walk of the statement on the nodes behind a substitution, where the example holds. Conditions: none but that the terms lie in memory.
-/
import Derived.Test.YtlgfaobbjnhfoaaTWalkQ
set_option linter.unusedSimpArgs false
set_option linter.unusedVariables false
namespace Go.Proofs.Ytlgfaobbjnhfoaa
open Go.RowKit

/-- how many variables of a number are in a list of terms -/
def cnt : X → Int → Nat
  | .nil, _ => 0
  | .cons k n a r, v => (if k = 0 ∧ n = v then 1 else 0) + cnt a v + cnt r v

/-- the same, of one node -/
def c0 (k n v : Int) : Nat := if k = 0 ∧ n = v then 1 else 0

theorem cnt_le (t : X) (v : Int) : cnt t v ≤ t.sz := by
  induction t with
  | nil => exact Nat.le_refl _
  | cons k n a r iha ihr => simp only [cnt, X.sz]; split <;> omega

theorem cnt_drop (t : X) (v : Int) (i : Nat) (h : i < t.len) : cnt (t.drop i) v = c0 (t.gk i) (t.gn i) v + cnt (t.ga i) v + cnt (t.drop (i + 1)) v := by
  rw [X.drop_cons t i h]; rfl

/-- what the variables with numbers below m add -/
def wsL (args t : X) : Nat → Nat
  | 0 => 0
  | m + 1 => wsL args t m + cnt t (m : Int) * (args.ga m).sz

/-- the same, of one node -/
def ws1 (args : X) (k n : Int) : Nat → Nat
  | 0 => 0
  | m + 1 => ws1 args k n m + c0 k n (m : Int) * (args.ga m).sz

theorem wsL_nil (args : X) (m : Nat) : wsL args .nil m = 0 := by
  induction m with
  | zero => rfl
  | succ m ih => simp [wsL, ih, cnt]

theorem wsL_cons (args : X) (k n : Int) (a r : X) (m : Nat) : wsL args (.cons k n a r) m = ws1 args k n m + wsL args a m + wsL args r m := by
  induction m with
  | zero => rfl
  | succ m ih =>
    simp only [wsL, ws1, ih]
    have : cnt (.cons k n a r) (m : Int) = c0 k n (m : Int) + cnt a (m : Int) + cnt r (m : Int) := rfl
    rw [this, Nat.add_mul, Nat.add_mul]
    omega

theorem ws1_eq (args : X) (k n : Int) (m : Nat) : ws1 args k n m = if k = 0 ∧ 0 ≤ n ∧ n < m then (args.ga n.toNat).sz else 0 := by
  induction m with
  | zero => simp only [ws1]; rw [if_neg (by omega)]
  | succ m ih =>
    simp only [ws1, ih, c0]
    by_cases hk : k = 0
    · by_cases hn : n = (m : Int)
      · subst hn
        rw [if_neg (by omega), if_pos ⟨hk, rfl⟩, if_pos (by omega), Int.toNat_natCast]; omega
      · rw [if_neg (show ¬ (k = 0 ∧ n = (m : Int)) from fun h => hn h.2)]
        by_cases h2 : 0 ≤ n ∧ n < (m : Int)
        · rw [if_pos ⟨hk, h2⟩, if_pos ⟨hk, by omega⟩]; omega
        · rw [if_neg (fun h => h2 h.2), if_neg (fun h => h2 ⟨h.2.1, by omega⟩)]; simp
    · rw [if_neg (fun h => hk h.1), if_neg (fun h => hk h.1), if_neg (fun h => hk h.1)]; simp

theorem g1_eq (args : X) (k n : Int) (h : kn args k n .nil = true) : g1 args k n = 1 + ws1 args k n args.len := by
  rw [ws1_eq]
  have hk := kn_known h
  unfold g1 Known at *
  by_cases h0 : k = 0
  · rcases hk with hk | hk
    · exact absurd h0 hk
    · rw [if_pos h0, if_pos ⟨h0, hk⟩]
  · rw [if_neg h0, if_neg (fun h => h0 h.1)]

theorem gsz_eq (args t : X) (h : allB (kn args) t = true) : gsz args t = t.sz + wsL args t args.len := by
  induction t with
  | nil => simp [gsz, X.sz, wsL_nil]
  | cons k n a r iha ihr =>
    simp only [allB, Bool.and_eq_true] at h
    have hg : gsz args (.cons k n a r) = g1 args k n + gsz args a + gsz args r := rfl
    rw [hg, wsL_cons, g1_eq args k n h.1.1, iha h.1.2, ihr h.2]
    simp only [X.sz]; omega

/-- what the variables of one term with numbers below m add -/
def wT (args : X) (k n : Int) (a : X) (m : Nat) : Nat := ws1 args k n m + wsL args a m

theorem wT_succ (args : X) (k n : Int) (a : X) (m : Nat) : wT args k n a (m + 1) = wT args k n a m + (c0 k n (m : Int) + cnt a (m : Int)) * (args.ga m).sz := by
  unfold wT
  simp only [ws1, wsL, Nat.add_mul]; omega

theorem wT_mono (args : X) (k n : Int) (a : X) (m : Nat) : ∀ j, wT args k n a m ≤ wT args k n a (m + j) := by
  intro j
  induction j with
  | zero => exact Nat.le_refl _
  | succ j ih => rw [show m + (j + 1) = (m + j) + 1 by omega, wT_succ]; omega

theorem wT_all (args : X) (k n : Int) (a : X) (h : kn1 args k n a = true) : g1 args k n + gsz args a = 1 + a.sz + wT args k n a args.len := by
  have h2 : kn args k n a = true ∧ allB (kn args) a = true := by simpa [kn1] using h
  rw [g1_eq args k n h2.1, gsz_eq args a h2.2]
  unfold wT; omega

set_option maxRecDepth 100000 in
set_option maxHeartbeats 800000 in
theorem tcount_any (v : Int) (N : Nat) : ∀ (a : X) (k n : Int) (w : World) (p : Option Addr) (l cap : Nat), a.sz < N → a.sz < 100000 → IsX w a p l cap →
    Calls Try.prog 35 #[.agg #[.int .i64 k, .int .i64 n, .slice p l cap], .int .i64 v] w fun e w' => e = .returned (.int .i64 ((c0 k n v + cnt a v : Nat) : Int)) ∧ Below w.heap.size w w' := by
  induction N with
  | zero => intro a k n w p l cap hN; omega
  | succ N ih =>
    intro a k n w p l cap hN h60 his
    have hlen := a.len_le_sz
    have hcl := cnt_le a v
    obtain ⟨hn, hcap, hmax, hnil, hrow⟩ := his
    subst hn
    have hn60 : a.len < 100000 := by omega
    have IH := Lib.hid ih
    clear ih
    obtain ⟨s, hs, hs1, hd⟩ : ∃ s : Nat, c0 k n v = s ∧ s ≤ 1 ∧ ((k = 0 ∧ n = v ∧ s = 1) ∨ (k = 0 ∧ n ≠ v ∧ s = 0) ∨ (k ≠ 0 ∧ s = 0)) := by
      refine ⟨c0 k n v, rfl, ?_, ?_⟩
      · unfold c0; split <;> omega
      · unfold c0
        by_cases h1 : k = 0
        · by_cases h2 : n = v
          · exact Or.inl ⟨h1, h2, by rw [if_pos ⟨h1, h2⟩]⟩
          · exact Or.inr (Or.inl ⟨h1, h2, by rw [if_neg (fun h => h2 h.2)]⟩)
        · exact Or.inr (Or.inr ⟨h1, by rw [if_neg (fun h => h1 h.1)]⟩)
    rw [hs]
    clear hs
    rcases hd with ⟨h1, h2, hse⟩ | ⟨h1, h2, hse⟩ | ⟨h1, hse⟩
    case' inl =>
      have d1 : (k == 0) = true := by simp [h1]
      have d2 : (n == v) = true := by simp [h2]
      clear h1 h2
    case' inr.inl =>
      have d1 : (k == 0) = true := by simp [h1]
      have d2 : (n == v) = false := by simp [h2]
      clear h1 h2
    case' inr.inr =>
      have d1 : (k == 0) = false := by simp [h1]
      clear h1
    all_goals
      have HSE := Lib.hid hse
      clear hse
      go_enter Try.func35, Try.ntmps35
      go_wp2_with fail
      go_loopw [5, 20] (fun c i wr => ∃ j m : Nat, j ≤ a.len ∧ i = .int .i64 (j : Int) ∧ c = .int .i64 (m : Int) ∧ m ≤ 100000 ∧ m + cnt (a.drop j) v = s + cnt a v ∧ Below w.heap.size w wr)
        (fun _ i _ => a.len - (intOf i).toNat)
      case atStart => exact ⟨0, s, Nat.zero_le _, rfl, by rw [HSE.out]; rfl, by omega, by rw [X.drop_zero], (Below.refl _ _).alloc (Nat.le_refl _) _⟩
      case round =>
        obtain ⟨j, m, hj, rfl, rfl, hm, hmo, hb⟩ := hrel
        have HM := Lib.hid hmo
        clear hmo
        by_cases hlt : j < a.len
        · rcases hrow with h0 | ⟨b, off, rfl, hr⟩
          · omega
          obtain ⟨hck, hcn, p', n', cap', hc, hi⟩ := base3_at (Keeps3.below hb (Nat.le_refl _)) hr hlt
          have hg := a.sz_ga j hlt
          have hcd := cnt_drop a v j hlt
          have ho := cnt_le (a.ga j) v
          go_wp2_with fail
          refine (IH.out (a.ga j) _ _ _ p' n' cap' (by omega) (by omega) (hi.alloc _)).mono ?_
          rintro e w' ⟨rfl, hb1⟩
          have hq : m + (c0 (a.gk j) (a.gn j) v + cnt (a.ga j) v) ≤ 100000 := by have := HM.out; omega
          generalize c0 (a.gk j) (a.gn j) v + cnt (a.ga j) v = q at hq hcd ⊢
          go_wp2_with fail
          go_roundw
          case rel => exact ⟨j + 1, m + q, by omega, by go_num, val_int (by omega), by omega, by have h1 := HM.out; omega, base_next hb hb1⟩
          case measure => simp [intOf]; omega
        · go_wp2_with fail
          go_ret
          have h1 := HM.out
          rw [X.drop_end a j (by omega)] at h1
          simp only [cnt] at h1
          exact ⟨ret_int (by omega), hb⟩

/-- Subst went well: what that says -/
theorem subRes_ok {args a : X} {k n : Int} (h : (subRes args k n a).1 = 0) : a.sz < 100000 ∧ smalls args = true ∧ kn1 args k n a = true ∧ g1 args k n + gsz args a ≤ 100000 ∧ subRes args k n a = (0, rep1 args k n (rep args a)) := by
  unfold subRes at h ⊢
  split at h
  · rename_i h1
    split at h
    · rename_i h2
      split at h
      · rename_i h3
        split at h
        · rename_i h4
          exact ⟨h1, h2, h3, h4, by rw [if_pos h1, if_pos h2, if_pos h3, if_pos h4]⟩
        · exact absurd h (by decide)
      · exact absurd h (by decide)
    · exact absurd h (by decide)
  · exact absurd h (by decide)

theorem alive_late (hal : Alive) {w W : World} (hb : Below w.heap.size w W) : Calls Try.prog 17 #[] W fun e w' => e = .returned (.bool true) ∧ Below w.heap.size w w' :=
  (hal W).mono fun _ _ h => ⟨h.1, hb.trans (h.2.mono hb.size)⟩

theorem wrap_small (x : Int) (h0 : 0 ≤ x) (h1 : x ≤ 100000) : wrap64 x = x := by unfold wrap64; omega

theorem wrap_sum (Q P C s : Nat) (h : (C : Int) * (s : Int) = (P : Int)) (hq : Q + P ≤ 100000) : wrap64 ((Q : Int) + wrap64 ((C : Int) * (1 + (s : Int) - 1))) = ((Q + P : Nat) : Int) := by
  have e : (1 : Int) + (s : Int) - 1 = (s : Int) := by omega
  rw [e, h, wrap_small (P : Int) (by omega) (by omega), wrap_small _ (by omega) (by omega)]
  omega

set_option maxRecDepth 100000 in
set_option maxHeartbeats 4000000 in
theorem law_nodes (hal : Alive) (a args : X) (k n : Int) (w : World) (p q : Option Addr) (l cap m cap' : Nat) (his : IsX w a p l cap) (hia : IsX w args q m cap') :
    Calls Try.prog 12 #[.agg #[.int .i64 k, .int .i64 n, .slice p l cap], .slice q m cap'] w fun e w' => e = .returned (.bool true) ∧ Below w.heap.size w w' := by
  have HAL := Lib.hid hal
  clear hal
  obtain ⟨hn, hcap, hmax, hnil, hrow⟩ := id hia
  subst hn
  unfold maxLen at hmax
  have b0 := fun x => (Below.refl w.heap.size w).alloc (Nat.le_refl _) x
  by_cases h20 : args.len ≤ 20
  case neg =>
    go_enter Try.func12, Try.ntmps12
    go_wp2_with fail
    refine (alive_late HAL.out (b0 _)).mono ?_
    rintro e w1 ⟨rfl, hb1⟩
    go_wp2_with fail
    go_ret
    exact ⟨rfl, hb1⟩
  case pos =>
    obtain ⟨E, K, Nn, A, hres⟩ : ∃ E K Nn A, subRes args k n a = (E, K, Nn, A) := ⟨_, _, _, _, rfl⟩
    have HS := Lib.hid (fun W h h' => subst_any args a k n W p q l cap args.len cap' h h' (by omega) E K Nn A hres)
    by_cases hE : E = 0
    case neg =>
      have hd : (E != 0) = true := by simp [hE]
      clear hE hres
      go_enter Try.func12, Try.ntmps12
      go_wp2_with fail
      refine (HS.out _ (his.alloc _) (hia.alloc _)).mono ?_
      rintro e w1 ⟨r, c, rfl, hO, hb1⟩
      have B1 := below_call hb1
      go_wp2_with fail
      refine (alive_late HAL.out (B1.alloc B1.size _)).mono ?_
      rintro e w2 ⟨rfl, hb2⟩
      go_wp2_with fail
      go_ret
      exact ⟨rfl, hb2⟩
    case pos =>
      subst hE
      obtain ⟨g1', g2', g3', g4', g5'⟩ := subRes_ok (args := args) (a := a) (k := k) (n := n) (by rw [hres])
      rw [hres] at g5'
      have hsz := rep1_sz args k n a
      rw [← (Prod.mk.inj g5').2] at hsz
      dsimp only at hsz
      have hall := wT_all args k n a g3'
      have hmono := fun i j => wT_mono args k n a i j
      have hx1 := fun W h => tsize_any a k n W p l cap h
      have ez1 : a.szN = 1 + (a.sz : Int) := by unfold X.szN; rw [if_pos g1']
      rw [ez1] at hx1
      have ez2 : A.szN = 1 + (A.sz : Int) := by unfold X.szN; rw [if_pos (by omega)]
      have hx2 := fun W r c h => tsize_any A K Nn W r A.len c h
      rw [ez2] at hx2
      generalize a.szD = d1 at hx1
      generalize A.szD = d2 at hx2
      have HX1 := Lib.hid hx1
      have HX2 := Lib.hid hx2
      have HC := Lib.hid (fun i W h => tcount_any i (a.sz + 1) a k n W p l cap (Nat.lt_succ_self _) g1' h)
      have HSM := Lib.hid g2'
      have HT : 1 + A.sz = 1 + a.sz + wT args k n a args.len := by omega
      have HTL := Lib.hid HT
      have HMO := Lib.hid hmono
      have h100 : 1 + A.sz ≤ 100000 := by omega
      clear hx1 hx2 ez1 ez2 hres g2' g3' g4' g5' hsz hall hmono HT
      go_enter Try.func12, Try.ntmps12
      go_wp2_with fail
      refine (HS.out _ (his.alloc _) (hia.alloc _)).mono ?_
      rintro e w1 ⟨r, c, rfl, hO, hb1⟩
      have t1 := box3_later hb1 (heap_new w (.cells #[.int .i64 k, .int .i64 n, .slice p l cap] 35))
      have B1 := below_call hb1
      have hi1 := hO.isX
      obtain ⟨x1, x2, x3⟩ := box3_cells (alloc_kept t1 (.cells #[.int .i64 K, .int .i64 Nn, .slice r A.len c] 35))
      have t2 := alloc_kept t1 (.cells #[.int .i64 K, .int .i64 Nn, .slice r A.len c] 35)
      have u2 := heap_new w1 (.cells #[.int .i64 K, .int .i64 Nn, .slice r A.len c] 35)
      have B2 := B1.alloc B1.size (.cells #[.int .i64 K, .int .i64 Nn, .slice r A.len c] 35)
      have i2 := hi1.alloc (.cells #[.int .i64 K, .int .i64 Nn, .slice r A.len c] 35)
      clear hb1 hO hi1 t1 B1
      go_wp2_with fail
      refine (HX1.out _ (his.below B2)).mono ?_
      rintro e w2 ⟨rfl, hb2⟩
      have t3 := box3_later hb2 t2
      have u3 := box3_later hb2 u2
      have i3 := i2.below hb2
      have B3 := B2.trans (hb2.mono B2.size)
      generalize w1.heap.size = bu at u3 ⊢
      clear hb2 t2 u2 i2 B2 x1 x2 x3
      go_wp2_with fail
      have T3 := Lib.hid t3
      have U3 := Lib.hid u3
      have I3 := Lib.hid i3
      clear t3 u3 i3
      go_loopw [7, 35] (fun v i wr => ∃ j : Nat, j ≤ args.len ∧ i = .int .i64 (j : Int) ∧ v = .int .i64 ((1 + a.sz + wT args k n a j : Nat) : Int) ∧ wr.heap[w.heap.size]? = some (.cells #[.int .i64 k, .int .i64 n, .slice p l cap] 35 (0, 0)) ∧
          wr.heap[bu]? = some (.cells #[.int .i64 K, .int .i64 Nn, .slice r A.len c] 35 (0, 0)) ∧ IsX wr A r A.len c ∧ Below w.heap.size w wr)
        (fun _ i _ => args.len - (intOf i).toNat)
      case atStart => exact ⟨0, Nat.zero_le _, rfl, rfl, T3.out, U3.out, I3.out, B3⟩
      case round =>
        clear T3 U3 I3 B3
        obtain ⟨j, hj, rfl, rfl, ht, hu, hi, hb⟩ := hrel
        have HTt := Lib.hid ht
        have HUu := Lib.hid hu
        have HIi := Lib.hid hi
        clear ht hu hi
        by_cases hlt : j < args.len
        · rcases hrow with h0 | ⟨b, off, rfl, hr⟩
          · omega
          obtain ⟨hck, hcn, p', n', cap1, hc, hix⟩ := base3_at (Keeps3.below hb (Nat.le_refl _)) hr hlt
          have hsm := smalls_at HSM.out hlt
          have ez : (args.ga j).szN = 1 + ((args.ga j).sz : Int) := by unfold X.szN; rw [if_pos hsm]
          have hx := fun W h => tsize_any (args.ga j) (args.gk j) (args.gn j) W p' n' cap1 h
          rw [ez] at hx
          generalize (args.ga j).szD = dd at hx
          have HX := Lib.hid hx
          have hCj := HC.out (j : Int)
          have hw := wT_succ args k n a j
          have hm1 := HMO.out (j + 1) (args.len - (j + 1))
          rw [show j + 1 + (args.len - (j + 1)) = args.len by omega] at hm1
          have htl := HTL.out
          generalize c0 k n (j : Int) + cnt a (j : Int) = C at hCj hw
          generalize (args.ga j).sz = s at hsm HX hw
          obtain ⟨P, hP⟩ : ∃ P, C * s = P := ⟨_, rfl⟩
          rw [hP] at hw
          have hPi : (C : Int) * (s : Int) = (P : Int) := by rw [← hP]; simp
          have hPb : P ≤ 100000 := by omega
          have hQ : 1 + a.sz + wT args k n a j + P ≤ 100000 := by omega
          have hQ2 : 1 + a.sz + wT args k n a (j + 1) = 1 + a.sz + wT args k n a j + P := by omega
          have HQ2 := Lib.hid hQ2
          have HCJ := Lib.hid hCj
          have hQ3 : 1 + a.sz + wT args k n a j ≤ 100000 := by omega
          generalize 1 + a.sz + wT args k n a j = Q at hQ HQ2 hQ3 ⊢
          clear hx ez hCj hw hm1 htl hP hQ2
          go_wp2_with fail
          refine (HX.out _ (hix.alloc _)).mono ?_
          rintro e w3 ⟨rfl, hb3⟩
          have t4 := box3_later (below_call hb3) HTt.out
          have u4 := box3_later (below_call hb3) HUu.out
          have i4 := HIi.out.below (below_call hb3)
          have B4 := base_next hb hb3
          obtain ⟨x1, x2, x3⟩ := box3_cells t4
          have U4 := Lib.hid u4
          have T4 := Lib.hid t4
          have I4 := Lib.hid i4
          clear hb3 t4 u4 i4 HTt HUu HIi
          go_wp2_with fail
          refine (HCJ.out _ (his.below B4)).mono ?_
          rintro e w4 ⟨rfl, hb4⟩
          have t5 := box3_later hb4 T4.out
          have u5 := box3_later hb4 U4.out
          have i5 := I4.out.below hb4
          have B5 := B4.trans (hb4.mono B4.size)
          clear hb4 T4 U4 I4 x1 x2 x3
          go_wp2_with fail
          go_roundw
          case rel => exact ⟨j + 1, by omega, by go_num, val_int ((wrap_sum Q P C s hPi hQ).trans (congrArg Nat.cast HQ2.out.symm)), t5, u5, i5, B5⟩
          case measure => simp [intOf]; omega
        · obtain rfl : j = args.len := by omega
          have htl := HTL.out
          have hq : 1 + a.sz + wT args k n a args.len = 1 + A.sz := by omega
          rw [hq]
          obtain ⟨x1, x2, x3⟩ := box3_cells HUu.out
          have hd : (((1 + A.sz : Nat) : Int) == 1 + (A.sz : Int)) = true := by simp
          clear hq htl
          go_wp2_with fail
          refine (HX2.out _ _ _ HIi.out).mono ?_
          rintro e w3 ⟨rfl, hb3⟩
          have B4 := hb.trans (hb3.mono hb.size)
          go_wp2_with fail
          refine (alive_late HAL.out B4).mono ?_
          rintro e w4 ⟨rfl, hb4⟩
          go_wp2_with fail
          go_ret
          exact ⟨rfl, hb4⟩

end Go.Proofs.Ytlgfaobbjnhfoaa
