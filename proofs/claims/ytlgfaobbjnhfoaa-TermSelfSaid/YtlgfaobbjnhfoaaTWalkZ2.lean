/-
  The walks of the reference's Variables and grown. Conditions: a term of at most 100000 nodes, args of at most 100000 nodes each.
-/
import Derived.Test.YtlgfaobbjnhfoaaTWalkZ
set_option linter.unusedSimpArgs false
set_option linter.unusedVariables false
namespace Go.Proofs.Ytlgfaobbjnhfoaa
open Go.RowKit

set_option maxRecDepth 100000 in
set_option maxHeartbeats 1600000 in
theorem variables_any (N : Nat) : ∀ (a : X) (k n : Int) (l : List Int) (w : World) (p : Option Addr) (lp cap : Nat) (q : Option Addr) (m cap' : Nat), a.sz < N → l.length + a.sz + 1 ≤ 200000 → IsX w a p lp cap → IsI w l q m cap' →
    Calls Try.prog 62 #[.agg #[.int .i64 k, .int .i64 n, .slice p lp cap], .slice q m cap'] w (InsPost w (vars1 k n a l)) := by
  induction N with
  | zero => intro a k n l w p lp cap q m cap' hN; omega
  | succ N ih =>
    intro a k n l w p lp cap q m cap' hN hl his hil
    have hlen := a.len_le_sz
    obtain ⟨hn, hcap, hmax, hnil, hrow⟩ := id his
    subst hn
    unfold maxLen at hmax
    have IH := Lib.hid ih
    clear ih
    obtain rfl := hil.1
    have hpre : (k = 0 ∧ vars1 k n a l = vars a (ins n l)) ∨ (k ≠ 0 ∧ vars1 k n a l = vars a l) := by
      unfold vars1
      by_cases h : k = 0
      · exact Or.inl ⟨h, by rw [if_pos h]⟩
      · exact Or.inr ⟨h, by rw [if_neg h]⟩
    obtain ⟨R, hR⟩ : ∃ R, vars1 k n a l = R := ⟨_, rfl⟩
    rw [hR] at hpre ⊢
    clear hR
    rcases hpre with ⟨hk, hv⟩ | ⟨hk, hv⟩
    · have hd : (k == 0) = true := by simp [hk]
      have hil2 := ins_len n l
      have HV := Lib.hid hv
      have HI := Lib.hid (fun W h => insert_any l n W q l.length cap' h (by omega))
      clear hv hk
      go_enter Try.func62, Try.ntmps62
      go_wp2_with fail
      refine (HI.out _ (hil.alloc _)).mono ?_
      rintro e w1 ⟨q1, c1, rfl, hi1, hb1⟩
      have t3 := (box3_cells (box3_later hb1 (heap_new w (.cells #[.int .i64 k, .int .i64 n, .slice p a.len cap] 35)))).2.2
      have B1 := below_call hb1
      clear hb1
      go_wp2_with fail
      clear t3
      go_loopw [1, 17] (fun v i wr => ∃ (j : Nat) (L : List Int) (r : Option Addr) (c : Nat), j ≤ a.len ∧ v = .slice r L.length c ∧ i = .int .i64 (j : Int) ∧ IsI wr L r L.length c ∧ vars (a.drop j) L = R ∧ L.length + (a.drop j).sz ≤ 200000 ∧ Below w.heap.size w wr)
        (fun _ i _ => a.len - (intOf i).toNat)
      case atStart => exact ⟨0, ins n l, q1, c1, Nat.zero_le _, rfl, rfl, hi1, by rw [X.drop_zero]; exact HV.out.symm, by rw [X.drop_zero]; omega, B1⟩
      case round =>
        obtain ⟨j, L, r, c, hj, rfl, rfl, hiL, hmo, hLl, hb⟩ := hrel
        have HM := Lib.hid hmo
        clear hmo
        by_cases hlt : j < a.len
        · rcases hrow with h0 | ⟨b, off, rfl, hr⟩
          · omega
          obtain ⟨hck, hcn, p', n', cap1, hc, hi⟩ := base3_at (Keeps3.below hb (Nat.le_refl _)) hr hlt
          have hg := a.sz_ga j hlt
          have hsd := a.sz_drop j hlt
          have hvl := vars1_len (a.gk j) (a.gn j) (a.ga j) L
          have hst := vars_drop a j hlt L
          rw [HM.out] at hst
          have HS := Lib.hid hst
          clear hst HM
          go_wp2_with fail
          refine (IH.out (a.ga j) _ _ L _ p' n' cap1 r L.length c (by omega) (by omega) (hi.alloc _) (hiL.alloc _)).mono ?_
          rintro e w' ⟨q2, c2, rfl, hi2, hb2⟩
          generalize vars1 (a.gk j) (a.gn j) (a.ga j) L = L2 at hvl HS hi2 ⊢
          go_wp2_with fail
          go_roundw
          case rel => exact ⟨j + 1, L2, q2, c2, by omega, rfl, by go_num, hi2, HS.out.symm, by omega, base_next hb hb2⟩
          case measure => simp [intOf]; omega
        · go_wp2_with fail
          go_ret
          have h1 := HM.out
          rw [X.drop_end a j (by omega)] at h1
          have h2 : L = R := h1
          subst h2
          exact ⟨r, c, rfl, hiL, hb⟩
    · have hd : (k == 0) = false := by simp [hk]
      have HV := Lib.hid hv
      clear hv hk
      go_enter Try.func62, Try.ntmps62
      go_wp2_with fail
      go_loopw [1, 17] (fun v i wr => ∃ (j : Nat) (L : List Int) (r : Option Addr) (c : Nat), j ≤ a.len ∧ v = .slice r L.length c ∧ i = .int .i64 (j : Int) ∧ IsI wr L r L.length c ∧ vars (a.drop j) L = R ∧ L.length + (a.drop j).sz ≤ 200000 ∧ Below w.heap.size w wr)
        (fun _ i _ => a.len - (intOf i).toNat)
      case atStart => exact ⟨0, l, q, cap', Nat.zero_le _, rfl, rfl, hil.alloc _, by rw [X.drop_zero]; exact HV.out.symm, by rw [X.drop_zero]; omega, (Below.refl _ _).alloc (Nat.le_refl _) _⟩
      case round =>
        obtain ⟨j, L, r, c, hj, rfl, rfl, hiL, hmo, hLl, hb⟩ := hrel
        have HM := Lib.hid hmo
        clear hmo
        by_cases hlt : j < a.len
        · rcases hrow with h0 | ⟨b, off, rfl, hr⟩
          · omega
          obtain ⟨hck, hcn, p', n', cap1, hc, hi⟩ := base3_at (Keeps3.below hb (Nat.le_refl _)) hr hlt
          have hg := a.sz_ga j hlt
          have hsd := a.sz_drop j hlt
          have hvl := vars1_len (a.gk j) (a.gn j) (a.ga j) L
          have hst := vars_drop a j hlt L
          rw [HM.out] at hst
          have HS := Lib.hid hst
          clear hst HM
          go_wp2_with fail
          refine (IH.out (a.ga j) _ _ L _ p' n' cap1 r L.length c (by omega) (by omega) (hi.alloc _) (hiL.alloc _)).mono ?_
          rintro e w' ⟨q2, c2, rfl, hi2, hb2⟩
          generalize vars1 (a.gk j) (a.gn j) (a.ga j) L = L2 at hvl HS hi2 ⊢
          go_wp2_with fail
          go_roundw
          case rel => exact ⟨j + 1, L2, q2, c2, by omega, rfl, by go_num, hi2, HS.out.symm, by omega, base_next hb hb2⟩
          case measure => simp [intOf]; omega
        · go_wp2_with fail
          go_ret
          have h1 := HM.out
          rw [X.drop_end a j (by omega)] at h1
          have h2 : L = R := h1
          subst h2
          exact ⟨r, c, rfl, hiL, hb⟩

/-- the nodes of args, a list -/
def szs : X → List Int
  | .nil => []
  | .cons _ _ a r => (1 + (a.sz : Int)) :: szs r

theorem szs_len (args : X) : (szs args).length = args.len := by
  induction args with
  | nil => rfl
  | cons k n a r iha ihr => simp only [szs, List.length_cons, X.len, ihr]

theorem szs_get (args : X) : ∀ i, i < args.len → (szs args)[i]? = some (1 + ((args.ga i).sz : Int)) := by
  induction args with
  | nil => intro i h; exact absurd h (Nat.not_lt_zero _)
  | cons k n a r iha ihr =>
    intro i hi
    cases i with
    | zero => rfl
    | succ i => exact ihr i (by simp only [X.len] at hi; omega)

theorem gsz_drop (args t : X) (i : Nat) (h : i < t.len) : gsz args (t.drop i) = g1 args (t.gk i) (t.gn i) + gsz args (t.ga i) + gsz args (t.drop (i + 1)) := by
  rw [X.drop_cons t i h]; rfl

set_option maxRecDepth 100000 in
set_option maxHeartbeats 1600000 in
theorem grown_any (args : X) (hsm : smalls args = true) (N : Nat) : ∀ (a : X) (k n : Int) (w : World) (p : Option Addr) (lp cap : Nat) (q : Option Addr) (m cap' : Nat), a.sz < N → IsX w a p lp cap → IsI w (szs args) q m cap' → Known args k n a → X.AllX (Known args) a → a.sz < 4611686018427387904 →
    Calls Try.prog 66 #[.agg #[.int .i64 k, .int .i64 n, .slice p lp cap], .slice q m cap'] w fun e w' => e = .returned (.int .i64 ((min (g1 args k n + gsz args a) 100001 : Nat) : Int)) ∧ Below w.heap.size w w' := by
  induction N with
  | zero => intro a k n w p lp cap q m cap' hN; omega
  | succ N ih =>
    intro a k n w p lp cap q m cap' hN his hil hK hA hbig
    have hlen := a.len_le_sz
    obtain ⟨hn, hcap, hmax, hnil, hrow⟩ := id his
    subst hn
    unfold maxLen at hmax
    have IH := Lib.hid ih
    clear ih
    have HAA := Lib.hid hA
    obtain ⟨g, hg1, hgl, hcase⟩ : ∃ g : Nat, g1 args k n = g ∧ g ≤ 100000 ∧ ((k = 0 ∧ ∃ i : Nat, n = (i : Int) ∧ i < args.len ∧ g = 1 + (args.ga i).sz) ∨ (k ≠ 0 ∧ g = 1)) := by
      refine ⟨_, rfl, ?_, ?_⟩
      · unfold g1
        split
        · rcases hK with h | ⟨h1, h2⟩
          · omega
          · have := smalls_at hsm (i := n.toNat) (by omega); omega
        · omega
      · unfold g1
        by_cases h : k = 0
        · left
          rcases hK with h' | ⟨h1, h2⟩
          · exact absurd h h'
          · exact ⟨h, n.toNat, by omega, by omega, by rw [if_pos h]⟩
        · exact Or.inr ⟨h, by rw [if_neg h]⟩
    rw [hg1]
    clear hg1 hK hA
    have go : ∀ j c : Nat, min (c + gsz args (a.drop j)) 100001 = min (g + gsz args a) 100001 → j < a.len → c ≤ 100001 → min (min (c + min (g1 args (a.gk j) (a.gn j) + gsz args (a.ga j)) 100001) 100001 + gsz args (a.drop (j + 1))) 100001 = min (g + gsz args a) 100001 := by
      intro j c h1 h2 h3
      rw [gsz_drop args a j h2] at h1
      omega
    have GO := Lib.hid go
    clear go
    rcases hcase with ⟨hk, i, rfl, hi, hge⟩ | ⟨hk, hge⟩
    · have hd : (k == 0) = true := by simp [hk]
      have hsz := szs_get args i hi
      obtain ⟨rfl, hq2, hq3, hq4⟩ := id hil
      rw [szs_len] at hq2
      have hlS := szs_len args
      rcases hq4 with ⟨_, h0⟩ | ⟨sb, so, rfl, hsb, hsc⟩
      · omega
      have hcell := ((bcell ((Below.refl w.heap.size w).alloc (Nat.le_refl _) (.cells #[.int .i64 k, .int .i64 (i : Int), .slice p a.len cap] 35))).1 sb (so + i) hsb).trans (hsc i _ hsz)
      have hge' : (1 + ((args.ga i).sz : Int)) = (g : Int) := by omega
      rw [hge'] at hcell
      have hil2 := Lib.hid hil
      rw [hlS] at hil2 ⊢
      unfold maxLen at hq3
      clear hk hge hge' hsz hsc hil hlS
      go_enter Try.func66, Try.ntmps66
      go_wp2_with fail
      clear hcell
      go_loopw [5, 19] (fun v i wr => ∃ j c : Nat, j ≤ a.len ∧ i = .int .i64 (j : Int) ∧ v = .int .i64 (c : Int) ∧ c ≤ 100001 ∧ min (c + gsz args (a.drop j)) 100001 = min (g + gsz args a) 100001 ∧ Below w.heap.size w wr)
        (fun _ i _ => a.len - (intOf i).toNat)
      case atStart => exact ⟨0, g, Nat.zero_le _, rfl, rfl, by omega, by rw [X.drop_zero], (Below.refl _ _).alloc (Nat.le_refl _) _⟩
      case round =>
        obtain ⟨j, c, hj, rfl, rfl, hcm, hmo, hb⟩ := hrel
        have HM := Lib.hid hmo
        clear hmo
        by_cases hlt : j < a.len
        · rcases hrow with h0 | ⟨b, off, rfl, hr⟩
          · omega
          obtain ⟨hck, hcn, p', n', cap1, hc, hi⟩ := base3_at (Keeps3.below hb (Nat.le_refl _)) hr hlt
          have hg := a.sz_ga j hlt
          have hat := HAA.out.at hlt
          have hstep := GO.out j c HM.out hlt hcm
          have HC := Lib.hid (IH.out (a.ga j) (a.gk j) (a.gn j) (wr.alloc (.cells #[.int .i64 (a.gk j), .int .i64 (a.gn j), .slice p' n' cap1] 35)) p' n' cap1 (some ⟨sb, so, none⟩) _ cap' (by omega) (hi.alloc _) ((hil2.out.below hb).alloc _) hat.1 hat.2 (by omega))
          obtain ⟨s, hs⟩ : ∃ s, min (g1 args (a.gk j) (a.gn j) + gsz args (a.ga j)) 100001 = s := ⟨_, rfl⟩
          have hs1 : s ≤ 100001 := by omega
          rw [hs] at HC hstep
          have HS := Lib.hid hstep
          clear hs hat hstep HM
          go_wp2_with fail
          refine HC.out.mono ?_
          rintro e w' ⟨rfl, hb2⟩
          go_wp2_with fail
          go_roundw
          case rel => exact ⟨j + 1, min (c + s) 100001, by omega, by go_num, val_int (by first | omega | (split <;> omega)), by omega, HS.out, base_next hb hb2⟩
          case measure => simp [intOf]; omega
        · go_wp2_with fail
          go_ret
          have h1 := HM.out
          rw [X.drop_end a j (by omega)] at h1
          simp only [gsz] at h1
          exact ⟨ret_int (by omega), hb⟩
    · have hd : (k == 0) = false := by simp [hk]
      clear hk
      go_enter Try.func66, Try.ntmps66
      go_wp2_with fail
      go_loopw [5, 19] (fun v i wr => ∃ j c : Nat, j ≤ a.len ∧ i = .int .i64 (j : Int) ∧ v = .int .i64 (c : Int) ∧ c ≤ 100001 ∧ min (c + gsz args (a.drop j)) 100001 = min (g + gsz args a) 100001 ∧ Below w.heap.size w wr)
        (fun _ i _ => a.len - (intOf i).toNat)
      case atStart => exact ⟨0, g, Nat.zero_le _, rfl, by rw [hge]; rfl, by omega, by rw [X.drop_zero], (Below.refl _ _).alloc (Nat.le_refl _) _⟩
      case round =>
        clear hge
        obtain ⟨j, c, hj, rfl, rfl, hcm, hmo, hb⟩ := hrel
        have HM := Lib.hid hmo
        clear hmo
        by_cases hlt : j < a.len
        · rcases hrow with h0 | ⟨b, off, rfl, hr⟩
          · omega
          obtain ⟨hck, hcn, p', n', cap1, hc, hi⟩ := base3_at (Keeps3.below hb (Nat.le_refl _)) hr hlt
          have hg := a.sz_ga j hlt
          have hat := HAA.out.at hlt
          have hstep := GO.out j c HM.out hlt hcm
          have HC := Lib.hid (IH.out (a.ga j) (a.gk j) (a.gn j) (wr.alloc (.cells #[.int .i64 (a.gk j), .int .i64 (a.gn j), .slice p' n' cap1] 35)) p' n' cap1 q _ cap' (by omega) (hi.alloc _) ((hil.below hb).alloc _) hat.1 hat.2 (by omega))
          obtain ⟨s, hs⟩ : ∃ s, min (g1 args (a.gk j) (a.gn j) + gsz args (a.ga j)) 100001 = s := ⟨_, rfl⟩
          have hs1 : s ≤ 100001 := by omega
          rw [hs] at HC hstep
          have HS := Lib.hid hstep
          clear hs hat hstep HM
          go_wp2_with fail
          refine HC.out.mono ?_
          rintro e w' ⟨rfl, hb2⟩
          go_wp2_with fail
          go_roundw
          case rel => exact ⟨j + 1, min (c + s) 100001, by omega, by go_num, val_int (by first | omega | (split <;> omega)), by omega, HS.out, base_next hb hb2⟩
          case measure => simp [intOf]; omega
        · go_wp2_with fail
          go_ret
          have h1 := HM.out
          rw [X.drop_end a j (by omega)] at h1
          simp only [gsz] at h1
          exact ⟨ret_int (by omega), hb⟩

end Go.Proofs.Ytlgfaobbjnhfoaa
