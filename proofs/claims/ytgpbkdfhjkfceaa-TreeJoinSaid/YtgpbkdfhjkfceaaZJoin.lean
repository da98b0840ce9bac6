/-
  Whatever ranks and trees are handed in, the statement on Join answers true and leaves these as it was. Conditions: none but the row's own (memory that leads back into itself is shut out).
-/
import Derived.Test.YtgpbkdfhjkfceaaMg16
import Derived.Test.YtgpbkdfhjkfceaaMg14
import Derived.Test.YtgpbkdfhjkfceaaMg27
import Derived.Deep.RegionHeld3
import Derived.Test.YtgpbkdfhjkfceaaMg28
import Derived.Test.YtgpbkdfhjkfceaaMg23

/-
  The walks of the reference's Union and Join. Conditions: at most 100000 nodes; the trees are over the same symbols.
-/
set_option linter.unusedSimpArgs false
set_option linter.unusedVariables false
namespace Go.Proofs.Ytgpbkdfhjkfceaa
open Go.RowKit

/-- what Union answers -/
def unE (n : Int) (a : Y) (n' : Int) (b : Y) : Bool × Int × Y := if mgOk1 okJoin n a n' b = true then (true, mg1 dJoin n a n' b) else (false, 0, .nil)

def UnPost (x : Bool × Int × Y) (w : World) (e : Ending) (w' : World) : Prop :=
  ∃ q c, e = .returned (.tuple #[.agg #[.int .i64 x.2.1, .slice q x.2.2.len c], .bool x.1]) ∧ OwnY w' x.2.2 q c w.heap.size w'.heap.size ∧ Below w.heap.size w w'

theorem unE_left {R : List Int} {a : Y} {n' : Int} {b : Y} (h1 : over1 R (-1) a = true) (h2 : over1 R n' b = true) : unE (-1) a n' b = (true, n', b) := by
  simp only [over1, Bool.and_eq_true] at h1 h2
  have ha := suit_nil h1.1
  subst ha
  by_cases h : -1 = n'
  · subst h
    have hb := suit_nil h2.1
    subst hb
    simp [unE, mgOk1, mgOk, mg1, mgY]
  · simp [unE, mgOk1, mg1, h, okJoin, dJoin]

theorem unE_right {R : List Int} {n : Int} {a b : Y} (hn : n ≠ -1) : unE n a (-1) b = (true, n, a) := by
  simp [unE, mgOk1, mg1, hn, okJoin, dJoin]

theorem unE_none {n : Int} {a : Y} {n' : Int} {b : Y} (h1 : n ≠ -1) (h2 : n' ≠ -1) (h3 : n ≠ n') : unE n a n' b = (false, 0, .nil) := by
  simp [unE, mgOk1, h1, h2, h3, okJoin]

theorem unE_same (n : Int) (a b : Y) : unE n a n b = if mgOk okJoin a b = true then (true, n, mgY dJoin a b) else (false, 0, .nil) := by
  simp [unE, mgOk1, mg1]

theorem mgOk_at {d : Int → Int → Bool} {a b : Y} {j : Nat} (h1 : j < a.len) (h2 : j < b.len) : mgOk d (a.drop j) (b.drop j) = (mgOk1 d (a.gn j) (a.ga j) (b.gn j) (b.ga j) && mgOk d (a.drop (j + 1)) (b.drop (j + 1))) := by
  rw [Y.drop_cons a j h1, Y.drop_cons b j h2, mgOk_cons]

/-- behind a round's call: the copy's variable -/
def XB (wr wx : World) (xb : Nat) (m : Int) (t : Y) (q : Option Addr) (c : Nat) : Prop :=
  Below wr.heap.size wr wx ∧ wr.heap.size ≤ xb ∧ wx.heap[xb]? = some (.cells #[.int .i64 m, .slice q t.len c] 25 (0, 0)) ∧ OwnY wx t q c wr.heap.size wx.heap.size

theorem XB.after {wr w1 : World} {m : Int} {t : Y} {q : Option Addr} {c : Nat} {o : Obj} (hb : Below wr.heap.size wr w1) (hO : OwnY w1 t q c wr.heap.size w1.heap.size) (ho : o = .cells #[.int .i64 m, .slice q t.len c] 25) :
    XB wr (w1.alloc o) w1.heap.size m t q c := by
  subst ho
  exact ⟨hb.alloc hb.size _, hb.size, heap_new _ _, (hO.keep fun k _ hk => Below.heap_alloc _ _ _ hk).mono (Nat.le_refl _) (by simp)⟩

theorem XB.before {wr w1 : World} {xb : Nat} {m : Int} {t : Y} {q : Option Addr} {c lo : Nat} (hb : Below wr.heap.size wr w1) (hx : w1.heap[xb]? = some (.cells #[.int .i64 0, .slice none 0 0] 25 (0, 0))) (h1 : wr.heap.size ≤ xb) (h2 : xb < lo) (hO : OwnY w1 t q c lo w1.heap.size) :
    XB wr (put2 w1 xb (.int .i64 m) (.slice q t.len c)) xb m t q c := by
  refine ⟨(hb.setCell h1 _).setCell h1 _, h1, put2_box hx, (put2_own hO h2).mono (by omega) ?_⟩
  unfold put2
  rw [size_set2]
  exact Nat.le_refl _

set_option maxRecDepth 100000 in
set_option maxHeartbeats 8000000 in
theorem eunion_any (R : List Int) (N : Nat) : ∀ (a b : Y) (n n' : Int) (w : World) (p p' : Option Addr) (l cap l' cap' : Nat), a.sz < N → a.sz < 100000 → b.sz < 100000 → over1 R n a = true → over1 R n' b = true → IsY w a p l cap → IsY w b p' l' cap' →
    Calls Try.prog 64 #[.agg #[.int .i64 n, .slice p l cap], .agg #[.int .i64 n', .slice p' l' cap']] w (UnPost (unE n a n' b) w) := by
  obtain ⟨i0, hi0, hz0, hz1', hz2⟩ := info_parts infoY
  induction N with
  | zero => intro a b n n' w p p' l cap l' cap' hN; omega
  | succ N ih =>
    intro a b n n' w p p' l cap l' cap' hN h60 h60b ho1 ho2 his hit
    have hlen := a.len_le_sz
    have hl := his.1
    subst hl
    have hl' := hit.1
    subst hl'
    have b3 := below3 w (.cells #[.int .i64 n, .slice p a.len cap] 25) (.cells #[.int .i64 n', .slice p' b.len cap'] 25) (.cells #[.int .i64 0, .slice none 0 0] 25)
    have hz3 := heap_new3 w (.cells #[.int .i64 n, .slice p a.len cap] 25) (.cells #[.int .i64 n', .slice p' b.len cap'] 25) (.cells #[.int .i64 0, .slice none 0 0] 25)
    by_cases hn : n = -1
    · subst hn
      rw [unE_left ho1 ho2]
      have HC := Lib.hid (ecopy_any (b.sz + 1) b n' _ p' _ cap' (Nat.lt_succ_self _) h60b (((hit.alloc (.cells #[.int .i64 (-1), .slice p a.len cap] 25)).alloc (.cells #[.int .i64 n', .slice p' b.len cap'] 25)).alloc (.cells #[.int .i64 0, .slice none 0 0] 25)))
      have HB3 := Lib.hid b3
      have HZ3 := Lib.hid hz3
      clear ih ho1 ho2 his hit b3 hz3
      go_enter Try.func64, Try.ntmps64
      go_wp2_with fail
      refine (HC.out).mono ?_
      rintro e w1 ⟨q, c, rfl, hO, hb1⟩
      have z0 := box2_later hb1 HZ3.out
      obtain ⟨⟨z1, z2⟩, f1, f2⟩ := tree_box z0
      have hz := lt_of_block z0
      have hsz := hb1.size
      simp only [World.size_alloc] at hsz hO
      have hb2 := HB3.out.trans (hb1.mono (by simp <;> omega))
      clear hb1 z0
      go_wp2_with fail
      refine bodyPost_ret (v := .tuple #[.agg #[.int .i64 n', .slice q b.len c], .bool true]) (by simp [results, Try.results64, go_sem, z1, z2]) rfl ?_
      refine ⟨q, c, rfl, ?_, (hb2.setCell (show w.heap.size ≤ w.heap.size + 1 + 1 by omega) _).setCell (show w.heap.size ≤ w.heap.size + 1 + 1 by omega) _⟩
      rw [size_set2]
      exact (hO.set2 (r := w.heap.size + 1 + 1) (by omega) _ _).mono (by omega) (Nat.le_refl _)
    by_cases hn' : n' = -1
    · subst hn'
      rw [unE_right (R := R) hn]
      have hd : (n == -1) = false := by simp [hn]
      have HC := Lib.hid (ecopy_any (a.sz + 1) a n _ p _ cap (Nat.lt_succ_self _) h60 (((his.alloc (.cells #[.int .i64 n, .slice p a.len cap] 25)).alloc (.cells #[.int .i64 (-1), .slice p' b.len cap'] 25)).alloc (.cells #[.int .i64 0, .slice none 0 0] 25)))
      have HB3 := Lib.hid b3
      have HZ3 := Lib.hid hz3
      clear ih ho1 ho2 his hit b3 hz3
      go_enter Try.func64, Try.ntmps64
      go_wp2_with fail
      refine (HC.out).mono ?_
      rintro e w1 ⟨q, c, rfl, hO, hb1⟩
      have z0 := box2_later hb1 HZ3.out
      obtain ⟨⟨z1, z2⟩, f1, f2⟩ := tree_box z0
      have hz := lt_of_block z0
      have hsz := hb1.size
      simp only [World.size_alloc] at hsz hO
      have hb2 := HB3.out.trans (hb1.mono (by simp <;> omega))
      clear hb1 z0
      go_wp2_with fail
      refine bodyPost_ret (v := .tuple #[.agg #[.int .i64 n, .slice q a.len c], .bool true]) (by simp [results, Try.results64, go_sem, z1, z2]) rfl ?_
      refine ⟨q, c, rfl, ?_, (hb2.setCell (show w.heap.size ≤ w.heap.size + 1 + 1 by omega) _).setCell (show w.heap.size ≤ w.heap.size + 1 + 1 by omega) _⟩
      rw [size_set2]
      exact (hO.set2 (r := w.heap.size + 1 + 1) (by omega) _ _).mono (by omega) (Nat.le_refl _)
    by_cases hnn : n = n'
    case neg =>
      rw [unE_none hn hn' hnn]
      have hd : (n == -1) = false := by simp [hn]
      have hd' : (n' == -1) = false := by simp [hn']
      have hd2 : (n != n') = true := by simpa using hnn
      have HB3 := Lib.hid b3
      have HZ3 := Lib.hid hz3
      clear ih ho1 ho2 his hit b3 hz3 hnn hn hn'
      go_enter Try.func64, Try.ntmps64
      go_wp2_with fail
      refine bodyPost_ret (v := .tuple #[.agg #[.int .i64 0, .slice none 0 0], .bool false]) (by simp [results, Try.results64, go_sem]) rfl ?_
      refine ⟨none, 0, rfl, ownY_nil _ _ _, ?_⟩
      first | exact (HB3.out.setCell (by omega) _).setCell (by omega) _ | exact HB3.out
    case pos =>
      subst hnn
      rw [unE_same]
      have hd : (n == -1) = false := by simp [hn]
      have hd2 : (n != n) = false := by simp
      obtain ⟨hlab, hk1, hk2, hmk⟩ := mg_facts (D := dJoin) ho1 ho2
      have HT := Lib.hid hmk
      have HK1 := Lib.hid hk1
      have HK2 := Lib.hid hk2
      generalize mgY dJoin a b = tt at *
      obtain ⟨okk, hokk⟩ : ∃ x, mgOk okJoin a b = x := ⟨_, rfl⟩
      rw [hokk]
      have HOK := Lib.hid hokk
      obtain ⟨ANS, hans⟩ : ∃ x, (if okk = true then (true, n, tt) else (false, 0, .nil) : Bool × Int × Y) = x := ⟨_, rfl⟩
      rw [hans]
      have HANS := Lib.hid hans
      clear hmk hk1 hk2 ho1 ho2 hokk hans b3 hz3
      obtain ⟨_, hcap, hmax, hnil, hrow⟩ := his
      obtain ⟨_, hcap', hmax', hnil', hrow'⟩ := hit
      have hle : a.len ≤ b.len := by omega
      have hle' : b.len ≤ a.len := by omega
      clear hlab
      have hn60 : a.len < 100000 := by omega
      have IH := Lib.hid ih
      clear ih
      go_enter Try.func64, Try.ntmps64
      go_wp2_with fail
      clear hd hd2
      go_loopw [5, 32] (fun r i wr => ∃ (j : Nat) (y : Y) (q : Option Addr) (c : Nat), r = .bool false ∧ j ≤ a.len ∧ i = .int .i64 (j : Int) ∧ y.app (mkY (fun i => (mg1 dJoin (a.gn i) (a.ga i) (b.gn i) (b.ga i)).1) (fun i => (mg1 dJoin (a.gn i) (a.ga i) (b.gn i) (b.ga i)).2) (a.len - j) j) = tt ∧ mgOk okJoin (a.drop j) (b.drop j) = okk ∧ GotY wr 25 y (.slice q y.len c) (w.heap.size + 4) ∧
          wr.heap[w.heap.size + 3]? = some (.cells #[.int .i64 n, .slice q y.len c] 25 (0, 0)) ∧
          Below (w.heap.size + 3) (((w.alloc (.cells #[.int .i64 n, .slice p a.len cap] 25)).alloc (.cells #[.int .i64 n, .slice p' b.len cap'] 25)).alloc (.cells #[.int .i64 0, .slice none 0 0] 25)) wr)
        (fun _ i _ => a.len - (intOf i).toNat)
      case atStart =>
        have h1 := heap_new (((w.alloc (.cells #[.int .i64 n, .slice p a.len cap] 25)).alloc (.cells #[.int .i64 n, .slice p' b.len cap'] 25)).alloc (.cells #[.int .i64 0, .slice none 0 0] 25)) (.cells #[.int .i64 n, .slice none 0 0] 25)
        simp only [World.size_alloc] at h1
        exact ⟨0, .nil, none, 0, rfl, Nat.zero_le _, rfl, HT.out, by rw [Y.drop_zero, Y.drop_zero]; exact HOK.out, GotY.start (World.ownsRow_nil _ _ _ _) (by simp), h1, (Below.refl _ _).alloc (by simp) _⟩
      case round =>
        obtain ⟨j, y, q, c, rfl, hj, rfl, hy, hoj, hgot, hout, hb⟩ := hrel
        have hyl : y.len = j := by
          have h1 := congrArg Y.len hy
          have h2 := congrArg Y.len HT.out
          rw [Y.len_app, len_mkY] at h1
          rw [len_mkY] at h2
          omega
        have HY := Lib.hid hy
        have HG := Lib.hid hgot
        have HYL := Lib.hid hyl
        have HOut := Lib.hid hout
        have HOJ := Lib.hid hoj
        obtain ⟨ho1, ho3⟩ := box2_cells hout
        obtain ⟨fo1, fo3⟩ := free2 hout
        have hlo := lt_of_block hout
        obtain ⟨bt1, bt2, bt3⟩ := box_threeY hb
        have HBT := Lib.hid (And.intro bt1 (And.intro bt2 bt3))
        obtain ⟨y1, y3⟩ := box2_cells bt1
        obtain ⟨x1, x3⟩ := box2_cells bt2
        obtain ⟨z1, z3⟩ := box2_cells bt3
        obtain ⟨fz1, fz3⟩ := free2 bt3
        clear hgot hout hy hyl hoj bt1 bt2 bt3
        by_cases hlt : j < a.len
        · clear z1 z3 fz1 fz3
          rcases hrow with h0 | ⟨rb, off, rfl, hr⟩
          · omega
          rcases hrow' with h0 | ⟨rb', off', rfl, hr'⟩
          · omega
          have hltb : j < b.len := by omega
          obtain ⟨hcn, p1, n1, cap1, hc, hi⟩ := base2_at (keeps2_three hb) hr hlt
          obtain ⟨hcn2, p2, n2, cap2, hc2, hi2⟩ := base2_at (keeps2_three hb) hr' hltb
          have hg := a.sz_ga j hlt
          have hgb := b.sz_ga j hltb
          have hmx : y.len + 1 ≤ maxLen := by have := HYL.out; simp only [maxLen]; omega
          have hby : (y.len + 1) * 32 ≤ 140737488355328 := by have := HYL.out; omega
          have hz := hb.size
          simp only [World.size_alloc] at hz
          have hm := Lib.hid (show mkY (fun i => (mg1 dJoin (a.gn i) (a.ga i) (b.gn i) (b.ga i)).1) (fun i => (mg1 dJoin (a.gn i) (a.ga i) (b.gn i) (b.ga i)).2) (a.len - j) j = .cons (mg1 dJoin (a.gn j) (a.ga j) (b.gn j) (b.ga j)).1 (mg1 dJoin (a.gn j) (a.ga j) (b.gn j) (b.ga j)).2 (mkY (fun i => (mg1 dJoin (a.gn i) (a.ga i) (b.gn i) (b.ga i)).1) (fun i => (mg1 dJoin (a.gn i) (a.ga i) (b.gn i) (b.ga i)).2) (a.len - (j + 1)) (j + 1)) from mkY_step hlt)
          have J := fun W h h' => IH.out (a.ga j) (b.ga j) (a.gn j) (b.gn j) W p1 p2 n1 cap1 n2 cap2 (by omega) (by omega) (by omega) (overE_at HK1.out hlt) (overE_at HK2.out hltb) h h'
          have hstep := mgOk_at (d := okJoin) hlt hltb
          obtain ⟨U, hU⟩ : ∃ U, unE (a.gn j) (a.ga j) (b.gn j) (b.ga j) = U := ⟨_, rfl⟩
          have hU1 : U.1 = mgOk1 okJoin (a.gn j) (a.ga j) (b.gn j) (b.ga j) := by rw [← hU]; unfold unE; cases mgOk1 okJoin (a.gn j) (a.ga j) (b.gn j) (b.ga j) <;> rfl
          have hU2 : U.1 = true → U.2 = (mg1 dJoin (a.gn j) (a.ga j) (b.gn j) (b.ga j)) := by rw [← hU]; unfold unE; cases mgOk1 okJoin (a.gn j) (a.ga j) (b.gn j) (b.ga j) <;> simp
          rw [hU] at J
          rw [← hU1, HOJ.out] at hstep
          have HSTEP := Lib.hid hstep
          have HU2 := Lib.hid hU2
          obtain ⟨okj, mm, aj⟩ := U
          have MB := Lib.hid fun W (h : Below wr.heap.size wr W) => (⟨(box2_cells (box2_later h HBT.out.1)).2, (box2_cells (box2_later h HBT.out.2.1)).2, ((bcell h).1 _ _ (lt_of_cell hcn)).trans hcn, ((bcell h).1 _ _ (lt_of_cell hc)).trans hc, ((bcell h).1 _ _ (lt_of_cell hcn2)).trans hcn2, ((bcell h).1 _ _ (lt_of_cell hc2)).trans hc2, h⟩ : W.cell? ⟨w.heap.size, 1, none⟩ = some (.slice (some ⟨rb, off, none⟩) a.len cap) ∧ W.cell? ⟨w.heap.size + 1, 1, none⟩ = some (.slice (some ⟨rb', off', none⟩) b.len cap') ∧ W.cell? ⟨rb, off + j * 2, none⟩ = some (.int .i64 (a.gn j)) ∧ W.cell? ⟨rb, off + j * 2 + 1, none⟩ = some (.slice p1 n1 cap1) ∧ W.cell? ⟨rb', off' + j * 2, none⟩ = some (.int .i64 (b.gn j)) ∧ W.cell? ⟨rb', off' + j * 2 + 1, none⟩ = some (.slice p2 n2 cap2) ∧ Below wr.heap.size wr W)
          generalize a.gn j = na at *
          generalize b.gn j = nb at *
          have HJ := Lib.hid J
          clear J hstep hU hU1 hU2
          go_upto_region 11 with fail
          go_cut [8, 9] from 33 to 58 (fun v8 v9 wx => ∃ (xb : Nat) (q1 : Option Addr) (c1 : Nat), v8 = .pointer (some ⟨xb, 0, none⟩) ∧ v9 = .bool okj ∧ XB wr wx xb mm aj q1 c1)
          case first =>
            refine wp_region_held_drew (S := fun W => W.cell? ⟨w.heap.size, 1, none⟩ = some (.slice (some ⟨rb, off, none⟩) a.len cap) ∧ W.cell? ⟨w.heap.size + 1, 1, none⟩ = some (.slice (some ⟨rb', off', none⟩) b.len cap') ∧ W.cell? ⟨rb, off + j * 2, none⟩ = some (.int .i64 na) ∧ W.cell? ⟨rb, off + j * 2 + 1, none⟩ = some (.slice p1 n1 cap1) ∧ W.cell? ⟨rb', off' + j * 2, none⟩ = some (.int .i64 nb) ∧ W.cell? ⟨rb', off' + j * 2 + 1, none⟩ = some (.slice p2 n2 cap2) ∧ Below wr.heap.size wr W) (by kernel_rfl) (MB.out _ (Below.refl _ _).drew) (fun hHeld => ?_)
            refine wpAnyH_take (i := 0) (oi := { dst := some 36, op := Go.Op.fieldAddr 25 (Go.Operand.tmp 2) 1, type := 0, pos := "ref.go:164", after := #[], guard := none }) (v := ?_) rfl (by kernel_rfl) (by kernel_rfl) (by kernel_rfl) (fun _ _ _ h => h) (Or.inl ⟨by rfl, ?_⟩) (by assumption) ?_
            rotate_left
            · intro W hSw; (try dsimp only at hSw); go_simp; with_reducible rfl
            try simp only [Act.put, List.setIfInBounds_toArray, List.set_cons_zero, List.set_cons_succ]
            refine wpAnyH_take (i := 1) (oi := { dst := some 37, op := Go.Op.load 23 (Go.Operand.tmp 36), type := 23, pos := "ref.go:164", after := #[{ on := 0, ground := Go.Ground.data }], guard := none }) (v := ?_) rfl (by kernel_rfl) (by kernel_rfl) (by kernel_rfl) (fun _ _ _ h => h) (Or.inl ⟨by rfl, ?_⟩) (by assumption) ?_
            rotate_left
            · intro W hSw; (try dsimp only at hSw); go_simp; with_reducible rfl
            try simp only [Act.put, List.setIfInBounds_toArray, List.set_cons_zero, List.set_cons_succ]
            refine wpAnyH_take (i := 2) (oi := { dst := some 38, op := Go.Op.move (Go.Operand.tmp 7), type := 3, pos := "ref.go:164", after := #[], guard := none }) (v := ?_) rfl (by kernel_rfl) (by kernel_rfl) (by kernel_rfl) (fun _ _ _ h => h) (Or.inl ⟨by rfl, ?_⟩) (by assumption) ?_
            rotate_left
            · intro W hSw; (try dsimp only at hSw); go_simp; with_reducible rfl
            try simp only [Act.put, List.setIfInBounds_toArray, List.set_cons_zero, List.set_cons_succ]
            refine wpAnyH_take (i := 3) (oi := { dst := some 39, op := Go.Op.indexAddr 23 (Go.Operand.tmp 37) (Go.Operand.tmp 38), type := 0, pos := "ref.go:164", after := #[{ on := 1, ground := Go.Ground.data }, { on := 2, ground := Go.Ground.data }], guard := none }) (v := ?_) rfl (by kernel_rfl) (by kernel_rfl) (by kernel_rfl) (fun _ _ _ h => h) (Or.inl ⟨by rfl, ?_⟩) (by assumption) ?_
            rotate_left
            · intro W hSw; (try dsimp only at hSw); go_simp; with_reducible rfl
            try simp only [Act.put, List.setIfInBounds_toArray, List.set_cons_zero, List.set_cons_succ]
            refine wpAnyH_take (i := 4) (oi := { dst := some 40, op := Go.Op.load 25 (Go.Operand.tmp 39), type := 25, pos := "ref.go:164", after := #[{ on := 3, ground := Go.Ground.data }], guard := none }) (v := ?_) rfl (by kernel_rfl) (by kernel_rfl) (by kernel_rfl) (fun _ _ _ h => h) (Or.inl ⟨by rfl, ?_⟩) (by assumption) ?_
            rotate_left
            · intro W hSw; (try dsimp only at hSw); go_simp; with_reducible rfl
            try simp only [Act.put, List.setIfInBounds_toArray, List.set_cons_zero, List.set_cons_succ]
            refine wpAnyH_take (i := 5) (oi := { dst := some 41, op := Go.Op.fieldAddr 25 (Go.Operand.tmp 3) 1, type := 0, pos := "ref.go:164", after := #[], guard := none }) (v := ?_) rfl (by kernel_rfl) (by kernel_rfl) (by kernel_rfl) (fun _ _ _ h => h) (Or.inl ⟨by rfl, ?_⟩) (by assumption) ?_
            rotate_left
            · intro W hSw; (try dsimp only at hSw); go_simp; with_reducible rfl
            try simp only [Act.put, List.setIfInBounds_toArray, List.set_cons_zero, List.set_cons_succ]
            refine wpAnyH_take (i := 6) (oi := { dst := some 42, op := Go.Op.load 23 (Go.Operand.tmp 41), type := 23, pos := "ref.go:164", after := #[{ on := 5, ground := Go.Ground.data }], guard := none }) (v := ?_) rfl (by kernel_rfl) (by kernel_rfl) (by kernel_rfl) (fun _ _ _ h => h) (Or.inl ⟨by rfl, ?_⟩) (by assumption) ?_
            rotate_left
            · intro W hSw; (try dsimp only at hSw); go_simp; with_reducible rfl
            try simp only [Act.put, List.setIfInBounds_toArray, List.set_cons_zero, List.set_cons_succ]
            refine wpAnyH_take (i := 7) (oi := { dst := some 43, op := Go.Op.move (Go.Operand.tmp 7), type := 3, pos := "ref.go:164", after := #[], guard := none }) (v := ?_) rfl (by kernel_rfl) (by kernel_rfl) (by kernel_rfl) (fun _ _ _ h => h) (Or.inl ⟨by rfl, ?_⟩) (by assumption) ?_
            rotate_left
            · intro W hSw; (try dsimp only at hSw); go_simp; with_reducible rfl
            try simp only [Act.put, List.setIfInBounds_toArray, List.set_cons_zero, List.set_cons_succ]
            refine wpAnyH_take (i := 8) (oi := { dst := some 44, op := Go.Op.indexAddr 23 (Go.Operand.tmp 42) (Go.Operand.tmp 43), type := 0, pos := "ref.go:164", after := #[{ on := 6, ground := Go.Ground.data }, { on := 7, ground := Go.Ground.data }], guard := none }) (v := ?_) rfl (by kernel_rfl) (by kernel_rfl) (by kernel_rfl) (fun _ _ _ h => h) (Or.inl ⟨by rfl, ?_⟩) (by assumption) ?_
            rotate_left
            · intro W hSw; (try dsimp only at hSw); go_simp; with_reducible rfl
            try simp only [Act.put, List.setIfInBounds_toArray, List.set_cons_zero, List.set_cons_succ]
            refine wpAnyH_take (i := 9) (oi := { dst := some 45, op := Go.Op.load 25 (Go.Operand.tmp 44), type := 25, pos := "ref.go:164", after := #[{ on := 8, ground := Go.Ground.data }], guard := none }) (v := ?_) rfl (by kernel_rfl) (by kernel_rfl) (by kernel_rfl) (fun _ _ _ h => h) (Or.inl ⟨by rfl, ?_⟩) (by assumption) ?_
            rotate_left
            · intro W hSw; (try dsimp only at hSw); go_simp; with_reducible rfl
            try simp only [Act.put, List.setIfInBounds_toArray, List.set_cons_zero, List.set_cons_succ]
            have BW : Below wr.heap.size wr wr.drew := (Below.refl _ _).drew
            generalize wr.drew = V0 at *
            refine wpAnyH_ready (rs := [10, 14]) (by kernel_rfl) (by simp) ?_
            refine AllReadyH.cons (o := { dst := some 46, op := Go.Op.call { callee := Go.Callee.value (Go.Operand.func 64), args := #[Go.Operand.tmp 40, Go.Operand.tmp 45], argTypes := #[25, 25] }, type := 67, pos := "ref.go:164", after := #[{ on := 4, ground := Go.Ground.data }, { on := 9, ground := Go.Ground.data }], guard := none }) rfl (fun K hK => ?_) ?_
            · go_simp
              go_at_call 64
              refine (HJ.out V0 (hi.below BW) (hi2.below BW)).mono ?_
              rintro e w1 ⟨q1, c1, rfl, hO, hb1⟩
              have BW1 := BW.trans (hb1.mono BW.size)
              have s1 := MB.out _ BW1
              have hO2 := hO.mono BW.size (Nat.le_refl _)
              have HXB := Lib.hid (XB.after (m := mm) BW1 hO2 rfl)
              have s2 := MB.out _ HXB.out.1
              have s3 := MB.out _ (BW1.alloc BW1.size (.cells #[.int .i64 0, .slice none 0 0] 25))
              clear hO hO2 hb1
              go_wp2_with fail
              refine hK.out _ _ s1 (fun hHeld => ?_)
              clear hK K
              try simp only [Act.put, List.setIfInBounds_toArray, List.set_cons_zero, List.set_cons_succ]
              refine wpAnyH_take (i := 11) (oi := { dst := some 35, op := Go.Op.move (Go.Operand.tmp 46), type := 67, pos := "ref.go:164", after := #[{ on := 10, ground := Go.Ground.data }], guard := none }) (v := ?_) rfl (by kernel_rfl) (by kernel_rfl) (by kernel_rfl) (fun _ _ _ h => h) (Or.inl ⟨by rfl, ?_⟩) (by assumption) ?_
              rotate_left
              · intro W hSw; (try dsimp only at hSw); go_simp; with_reducible rfl
              try simp only [Act.put, List.setIfInBounds_toArray, List.set_cons_zero, List.set_cons_succ]
              refine wpAnyH_take (i := 12) (oi := { dst := some 47, op := Go.Op.extract (Go.Operand.tmp 35) 0, type := 25, pos := "ref.go:164", after := #[{ on := 11, ground := Go.Ground.data }], guard := none }) (v := ?_) rfl (by kernel_rfl) (by kernel_rfl) (by kernel_rfl) (fun _ _ _ h => h) (Or.inl ⟨by rfl, ?_⟩) (by assumption) ?_
              rotate_left
              · intro W hSw; (try dsimp only at hSw); go_simp; with_reducible rfl
              try simp only [Act.put, List.setIfInBounds_toArray, List.set_cons_zero, List.set_cons_succ]
              have e8 := heap_new w1 (.cells #[.int .i64 0, .slice none 0 0] 25)
              obtain ⟨g1, g2⟩ := box2_cells e8
              obtain ⟨g3, g4⟩ := free2 e8
              refine wpAnyH_take (i := 13) (oi := { dst := some 48, op := Go.Op.extract (Go.Operand.tmp 35) 1, type := 4, pos := "ref.go:164", after := #[{ on := 11, ground := Go.Ground.data }, { on := 15, ground := Go.Ground.gcOnly Go.Departure.lateStores }], guard := none }) (v := ?_) rfl (by kernel_rfl) (by kernel_rfl) (by kernel_rfl) (fun _ _ _ h => h) (Or.inl ⟨by rfl, ?_⟩) (by assumption) ?_
              rotate_left
              · intro W hSw; (try dsimp only at hSw); go_simp; with_reducible rfl
              try simp only [Act.put, List.setIfInBounds_toArray, List.set_cons_zero, List.set_cons_succ]
              refine wpAnyH_ready (rs := [14]) (by kernel_rfl) (by simp) ?_
              refine AllReadyH.cons (o := { dst := some 8, op := Go.Op.alloc 25, type := 0, pos := "ref.go:164", after := #[], guard := none }) rfl (fun K hK => ?_) AllReadyH.nil
              go_simp
              refine hK.out _ _ s3 (fun hHeld => ?_)
              clear hK K
              try simp only [Act.put, List.setIfInBounds_toArray, List.set_cons_zero, List.set_cons_succ]
              refine wpAnyH_ready (rs := [15]) (by kernel_rfl) (by simp) ?_
              refine AllReadyH.cons (o := { dst := none, op := Go.Op.store 25 (Go.Operand.tmp 8) (Go.Operand.tmp 47), type := 0, pos := "ref.go:164", after := #[{ on := 14, ground := Go.Ground.data }, { on := 12, ground := Go.Ground.data }, { on := 10, ground := Go.Ground.chain }, { on := 0, ground := Go.Ground.phase }, { on := 1, ground := Go.Ground.phase }, { on := 2, ground := Go.Ground.phase }, { on := 3, ground := Go.Ground.phase }, { on := 4, ground := Go.Ground.phase }, { on := 5, ground := Go.Ground.phase }, { on := 6, ground := Go.Ground.phase }, { on := 7, ground := Go.Ground.phase }, { on := 8, ground := Go.Ground.phase }, { on := 9, ground := Go.Ground.phase }, { on := 10, ground := Go.Ground.phase }, { on := 11, ground := Go.Ground.phase }, { on := 12, ground := Go.Ground.phase }, { on := 13, ground := Go.Ground.textOnly Go.Departure.lateStores }, { on := 14, ground := Go.Ground.phase }], guard := none }) rfl (fun K hK => ?_) AllReadyH.nil
              go_simp
              refine hK.out _ _ s2 (fun hHeld => ?_)
              clear hK K
              try simp only [Act.put, List.setIfInBounds_toArray, List.set_cons_zero, List.set_cons_succ]
              refine wpAnyH_ready (rs := [16]) (by kernel_rfl) (by simp) ?_
              refine AllReadyH.cons (o := { dst := some 9, op := Go.Op.assign (Go.Operand.tmp 48), type := 4, pos := "ref.go:164", after := #[{ on := 13, ground := Go.Ground.data }, { on := 15, ground := Go.Ground.chain }, { on := 0, ground := Go.Ground.phase }, { on := 1, ground := Go.Ground.phase }, { on := 2, ground := Go.Ground.phase }, { on := 3, ground := Go.Ground.phase }, { on := 4, ground := Go.Ground.phase }, { on := 5, ground := Go.Ground.phase }, { on := 6, ground := Go.Ground.phase }, { on := 7, ground := Go.Ground.phase }, { on := 8, ground := Go.Ground.phase }, { on := 9, ground := Go.Ground.phase }, { on := 10, ground := Go.Ground.phase }, { on := 11, ground := Go.Ground.phase }, { on := 12, ground := Go.Ground.phase }, { on := 13, ground := Go.Ground.phase }, { on := 14, ground := Go.Ground.phase }, { on := 15, ground := Go.Ground.phase }], guard := none }) rfl (fun K hK => ?_) AllReadyH.nil
              go_simp
              refine hK.out _ _ s2 (fun hHeld => ?_)
              clear hK K
              try simp only [Act.put, List.setIfInBounds_toArray, List.set_cons_zero, List.set_cons_succ]
              refine wpAnyH_done (by kernel_rfl) ?_ _
              go_wp2_with fail
              go_meet
              case rel => exact ⟨_, q1, c1, rfl, rfl, HXB.out⟩
            refine AllReadyH.cons (o := { dst := some 8, op := Go.Op.alloc 25, type := 0, pos := "ref.go:164", after := #[], guard := none }) rfl (fun K hK => ?_) AllReadyH.nil
            go_simp
            have BV := BW.alloc BW.size (.cells #[.int .i64 0, .slice none 0 0] 25)
            have e7 := heap_new V0 (.cells #[.int .i64 0, .slice none 0 0] 25)
            have hle0 : wr.heap.size ≤ V0.heap.size := BW.size
            have hlt0 := lt_of_block e7
            refine hK.out _ _ (MB.out _ BV) (fun hHeld => ?_)
            clear hK K
            try simp only [Act.put, List.setIfInBounds_toArray, List.set_cons_zero, List.set_cons_succ]
            generalize V0.alloc (.cells #[.int .i64 0, .slice none 0 0] 25) = V1 at *
            generalize V0.heap.size = xb at *
            refine wpAnyH_ready (rs := [10]) (by kernel_rfl) (by simp) ?_
            refine AllReadyH.cons (o := { dst := some 46, op := Go.Op.call { callee := Go.Callee.value (Go.Operand.func 64), args := #[Go.Operand.tmp 40, Go.Operand.tmp 45], argTypes := #[25, 25] }, type := 67, pos := "ref.go:164", after := #[{ on := 4, ground := Go.Ground.data }, { on := 9, ground := Go.Ground.data }], guard := none }) rfl (fun K hK => ?_) AllReadyH.nil
            go_simp
            go_at_call 64
            refine (HJ.out V1 (hi.below BV) (hi2.below BV)).mono ?_
            rintro e w1 ⟨q1, c1, rfl, hO, hb1⟩
            have BW1 := BV.trans (hb1.mono BV.size)
            have s1 := MB.out _ BW1
            have e8 := box2_later hb1 e7
            have HXB := Lib.hid (XB.before (m := mm) BW1 e8 hle0 hlt0 hO)
            have s2 := MB.out _ HXB.out.1
            unfold put2 at HXB s2
            obtain ⟨g1, g2⟩ := box2_cells e8
            obtain ⟨g3, g4⟩ := free2 e8
            clear hO hb1
            go_wp2_with fail
            refine hK.out _ _ s1 (fun hHeld => ?_)
            clear hK K
            try simp only [Act.put, List.setIfInBounds_toArray, List.set_cons_zero, List.set_cons_succ]
            refine wpAnyH_take (i := 11) (oi := { dst := some 35, op := Go.Op.move (Go.Operand.tmp 46), type := 67, pos := "ref.go:164", after := #[{ on := 10, ground := Go.Ground.data }], guard := none }) (v := ?_) rfl (by kernel_rfl) (by kernel_rfl) (by kernel_rfl) (fun _ _ _ h => h) (Or.inl ⟨by rfl, ?_⟩) (by assumption) ?_
            rotate_left
            · intro W hSw; (try dsimp only at hSw); go_simp; with_reducible rfl
            try simp only [Act.put, List.setIfInBounds_toArray, List.set_cons_zero, List.set_cons_succ]
            refine wpAnyH_take (i := 12) (oi := { dst := some 47, op := Go.Op.extract (Go.Operand.tmp 35) 0, type := 25, pos := "ref.go:164", after := #[{ on := 11, ground := Go.Ground.data }], guard := none }) (v := ?_) rfl (by kernel_rfl) (by kernel_rfl) (by kernel_rfl) (fun _ _ _ h => h) (Or.inl ⟨by rfl, ?_⟩) (by assumption) ?_
            rotate_left
            · intro W hSw; (try dsimp only at hSw); go_simp; with_reducible rfl
            try simp only [Act.put, List.setIfInBounds_toArray, List.set_cons_zero, List.set_cons_succ]
            refine wpAnyH_take (i := 13) (oi := { dst := some 48, op := Go.Op.extract (Go.Operand.tmp 35) 1, type := 4, pos := "ref.go:164", after := #[{ on := 11, ground := Go.Ground.data }, { on := 15, ground := Go.Ground.gcOnly Go.Departure.lateStores }], guard := none }) (v := ?_) rfl (by kernel_rfl) (by kernel_rfl) (by kernel_rfl) (fun _ _ _ h => h) (Or.inl ⟨by rfl, ?_⟩) (by assumption) ?_
            rotate_left
            · intro W hSw; (try dsimp only at hSw); go_simp; with_reducible rfl
            try simp only [Act.put, List.setIfInBounds_toArray, List.set_cons_zero, List.set_cons_succ]
            refine wpAnyH_ready (rs := [15]) (by kernel_rfl) (by simp) ?_
            refine AllReadyH.cons (o := { dst := none, op := Go.Op.store 25 (Go.Operand.tmp 8) (Go.Operand.tmp 47), type := 0, pos := "ref.go:164", after := #[{ on := 14, ground := Go.Ground.data }, { on := 12, ground := Go.Ground.data }, { on := 10, ground := Go.Ground.chain }, { on := 0, ground := Go.Ground.phase }, { on := 1, ground := Go.Ground.phase }, { on := 2, ground := Go.Ground.phase }, { on := 3, ground := Go.Ground.phase }, { on := 4, ground := Go.Ground.phase }, { on := 5, ground := Go.Ground.phase }, { on := 6, ground := Go.Ground.phase }, { on := 7, ground := Go.Ground.phase }, { on := 8, ground := Go.Ground.phase }, { on := 9, ground := Go.Ground.phase }, { on := 10, ground := Go.Ground.phase }, { on := 11, ground := Go.Ground.phase }, { on := 12, ground := Go.Ground.phase }, { on := 13, ground := Go.Ground.textOnly Go.Departure.lateStores }, { on := 14, ground := Go.Ground.phase }], guard := none }) rfl (fun K hK => ?_) AllReadyH.nil
            go_simp
            refine hK.out _ _ s2 (fun hHeld => ?_)
            clear hK K
            try simp only [Act.put, List.setIfInBounds_toArray, List.set_cons_zero, List.set_cons_succ]
            refine wpAnyH_ready (rs := [16]) (by kernel_rfl) (by simp) ?_
            refine AllReadyH.cons (o := { dst := some 9, op := Go.Op.assign (Go.Operand.tmp 48), type := 4, pos := "ref.go:164", after := #[{ on := 13, ground := Go.Ground.data }, { on := 15, ground := Go.Ground.chain }, { on := 0, ground := Go.Ground.phase }, { on := 1, ground := Go.Ground.phase }, { on := 2, ground := Go.Ground.phase }, { on := 3, ground := Go.Ground.phase }, { on := 4, ground := Go.Ground.phase }, { on := 5, ground := Go.Ground.phase }, { on := 6, ground := Go.Ground.phase }, { on := 7, ground := Go.Ground.phase }, { on := 8, ground := Go.Ground.phase }, { on := 9, ground := Go.Ground.phase }, { on := 10, ground := Go.Ground.phase }, { on := 11, ground := Go.Ground.phase }, { on := 12, ground := Go.Ground.phase }, { on := 13, ground := Go.Ground.phase }, { on := 14, ground := Go.Ground.phase }, { on := 15, ground := Go.Ground.phase }], guard := none }) rfl (fun K hK => ?_) AllReadyH.nil
            go_simp
            refine hK.out _ _ s2 (fun hHeld => ?_)
            clear hK K
            try simp only [Act.put, List.setIfInBounds_toArray, List.set_cons_zero, List.set_cons_succ]
            refine wpAnyH_done (by kernel_rfl) ?_ _
            go_wp2_with fail
            go_meet
            case rel => exact ⟨_, q1, c1, rfl, rfl, HXB.out⟩
          case rest =>
            obtain ⟨xb, q1, c1, rfl, rfl, hxb⟩ := hcut
            have HX := Lib.hid hxb
            have hbx := hb.trans (hxb.1.mono (by omega))
            have HBX := Lib.hid hbx
            have hzx := hxb.1.size
            clear hb hbx hxb MB HJ
            have bt3 := box2_later HX.out.1 HBT.out.2.2
            obtain ⟨z1, z3⟩ := box2_cells bt3
            obtain ⟨fz1, fz3⟩ := free2 bt3
            have hzl := lt_of_block bt3
            clear bt3
            cases okj with
            | false =>
              have hk : okk = false := by have h := HSTEP.out; simpa using h
              go_wp2_with fail
              refine bodyPost_ret (v := .tuple #[.agg #[.int .i64 0, .slice none 0 0], .bool false]) (by simp [results, Try.results64, go_sem, z1, z3]) rfl ?_
              rw [← HANS.out, hk]
              exact ⟨none, 0, rfl, ownY_nil _ _ _, ((below_three HBX.out).setCell (show w.heap.size ≤ w.heap.size + 1 + 1 by omega) _).setCell (show w.heap.size ≤ w.heap.size + 1 + 1 by omega) _⟩
            | true =>
              have hmm := HU2.out rfl
              have hm2 := hm.out
              rw [← hmm] at hm2
              have HM2 := Lib.hid hm2
              obtain ⟨xs, hown, hkids⟩ := HG.out
              have hownA := fun o => (ownsRowY_later (wr := wr) hown HX.out.1).alloc o
              have hz2' : w.heap.size + 4 ≤ wc.heap.size := by omega
              have hb1 : Below wr.drew.heap.size wr.drew wc := ⟨HX.out.1.os, HX.out.1.tape, HX.out.1.output, HX.out.1.size, HX.out.1.block⟩
              have HB1 := Lib.hid hb1
              have HOWN := Lib.hid hown
              have HKI := Lib.hid hkids
              obtain ⟨w1', w2'⟩ := box2_cells HX.out.2.2.1
              have oc := box2_cells (call_kept0 hlo HOut.out hb1)
              obtain ⟨oc1, oc2⟩ := oc
              have oc3 := fun o => (box2_cells (alloc_kept (call_kept0 hlo HOut.out hb1) o)).2
              have hxl := lt_of_block HX.out.2.2.1
              clear hmm hm2 hown hkids hb1 z1 z3 fz1 fz3 ho1 ho3 fo1 fo3 y1 y3 x1 x3
              go_wp2_with (at_builtin; refine wpList_append_lies _ rfl _ _ 23 rfl (w.heap.size + 4) 25 i0 (.agg #[.int .i64 0, .slice none 0 0]) 2 32 Try.underlying23 hi0 hz0 hz1' hz2 rfl (by decide) (.slice q y.len c) y.len xs rfl (hownA _) ⟨wc.heap.size, 0, none⟩ 1 1 [.int .i64 mm, .slice q1 aj.len c1] rfl rfl (World.news_of_block (heap_new _ _)) (one_two _ _ _ _) (by decide) hmx hby (base_le _ hz2') (wc.heap.size + 1) (size_new _ _) ?_; intro g cp w3 hown3 hgrow hat hglt; have hh3 := out_kept0 (B := w.heap.size + 4) hlo HOut.out (by omega) HB1.out HOWN.out.lt hgrow; obtain ⟨o1, o3⟩ := box2_cells hh3; obtain ⟨o4, o6⟩ := free2 hh3)
              have hl' : (y.snoc mm aj).len = y.len + 1 := Y.len_snoc _ _ _
              have HL := Lib.hid hl'
              clear hl'
              go_roundw
              case rel =>

                exact ⟨j + 1, _, some ⟨g, 0, none⟩, cp, rfl, by omega, by go_num, by rw [Y.snoc_app, ← HM2.out]; exact HY.out, by have h := HSTEP.out; simpa using h.symm, by rw [HL.out]; exact (GotY.round0 HOWN.out HKI.out HB1.out HX.out.2.2.2 hown3 hgrow hat).set (Nat.lt_succ_self _) _, by rw [HL.out]; exact fieldY_set hh3, (below_collect0 (wr := wc) (HBX.out) (by omega) ⟨(Below.refl wc.heap.size wc).os, (Below.refl wc.heap.size wc).tape, (Below.refl wc.heap.size wc).output, (Below.refl wc.heap.size wc).size, (Below.refl wc.heap.size wc).block⟩ (by omega) (fun k e => ⟨(HOWN.out.lt k e).1, by have := (HOWN.out.lt k e).2; omega⟩) hgrow).setCell (Nat.le_refl _) _⟩
              case measure => simp [intOf]; omega
        · obtain rfl : y = tt := by
            have h := HY.out
            rw [mkY_end hlt, Y.app_nil] at h
            exact h
          have hk : okk = true := by
            rw [← HOJ.out, Y.drop_end a j (by omega)]
            simp [mgOk]
          clear HY y1 y3 x1 x3
          go_wp2_with fail
          obtain ⟨q', c', he, hO⟩ := HG.out.finish
          obtain ⟨rfl, rfl⟩ : q = q' ∧ c = c' := by simpa using he
          refine bodyPost_ret (v := .tuple #[.agg #[.int .i64 n, .slice q y.len c], .bool true]) (by simp [results, Try.results64, go_sem, z1, z3]) rfl ?_
          rw [← HANS.out, hk]
          refine ⟨q, c, rfl, ?_, ((below_three hb).setCell (show w.heap.size ≤ w.heap.size + 1 + 1 by omega) _).setCell (show w.heap.size ≤ w.heap.size + 1 + 1 by omega) _⟩
          rw [size_set2]
          exact (hO.set2 (r := w.heap.size + 1 + 1) (by omega) _ _).mono (by omega) (Nat.le_refl _)

end Go.Proofs.Ytgpbkdfhjkfceaa

/-
  The walk of the reference's Join. Conditions: none but that ranks and trees lie in memory.
-/
set_option linter.unusedSimpArgs false
set_option linter.unusedVariables false
namespace Go.Proofs.Ytgpbkdfhjkfceaa
open Go.RowKit

set_option maxRecDepth 100000 in
set_option maxHeartbeats 3200000 in
theorem erefjointop_any (R : List Int) (a b : Y) (n n' : Int) (w : World) (rp p p' : Option Addr) (rn rc l cap l' cap' : Nat) (hR : IsL w R rp rn rc) (his : IsY w a p l cap) (hit : IsY w b p' l' cap') :
    Calls Try.prog 31 #[.slice rp rn rc, .agg #[.int .i64 n, .slice p l cap], .agg #[.int .i64 n', .slice p' l' cap']] w (GetPost (joinE R n a n' b) w) := by
  have hl := his.1
  subst hl
  have hl' := hit.1
  subst hl'
  have hK : KT w (((w.alloc (.cells #[.int .i64 n, .slice p a.len cap] 25)).alloc (.cells #[.int .i64 n', .slice p' b.len cap'] 25)).alloc (.cells #[.int .i64 0, .slice none 0 0] 25)) w.heap.size (w.heap.size + 1) (w.heap.size + 1 + 1) R rp rn rc n a p cap n' b p' cap' :=
    ⟨((hR.alloc _).alloc _).alloc _, alloc_kept (alloc_kept (heap_new _ _) _) _, alloc_kept (heap_new2 _ _ _) _, heap_new3 _ _ _ _, ((his.alloc _).alloc _).alloc _, ((hit.alloc _).alloc _).alloc _, below3 _ _ _ _⟩
  have hK2 := hK.alloc (.cells #[.int .i64 n, .slice p a.len cap, .int .i64 n', .slice p' b.len cap'] 25)
  have J := erefcheck_any R (.cons n a (.cons n' b .nil)) _ rp (some ⟨w.heap.size + 1 + 1 + 1, 0, none⟩) rn rc 2 2 hK2.rk (isY_two (heap_new4 _ _ _ _ _) hK2.i1 hK2.i2)
  change Calls _ _ _ _ (fun e w' => e = .returned (.int .i64 (chkTwo R n a n' b)) ∧ _) at J
  have HK2 := Lib.hid hK2
  clear hR his hit hK hK2
  by_cases hc : chkTwo R n a n' b = 0
  · obtain ⟨t1, t2⟩ := chkTwo_ok hc
    obtain ⟨s1, _, o1⟩ := treeOk_facts t1
    obtain ⟨s2, _, o2⟩ := treeOk_facts t2
    rw [hc] at J
    have HJ := Lib.hid J
    have HU := Lib.hid fun W (i1 : IsY W a p a.len cap) (i2 : IsY W b p' b.len cap') => eunion_any R (a.sz + 1) a b n n' W p p' _ cap _ cap' (Nat.lt_succ_self _) (by omega) (by omega) o1 o2 i1 i2
    obtain ⟨U, hU⟩ : ∃ U, unE n a n' b = U := ⟨_, rfl⟩
    have hans : joinE R n a n' b = if U.1 = true then (if treeOk R U.2.1 U.2.2 = true then (0, U.2) else (3, 0, .nil)) else (5, 0, .nil) := by
      unfold joinE
      rw [if_pos hc, ← hU]
      unfold unE
      cases hk : mgOk1 okJoin n a n' b with
      | false => rfl
      | true =>
        by_cases hs : (mg1 dJoin n a n' b).2.sz < 20000
        · have ht := join_ok t1 t2 hs
          simp [hs, ht]
        · have ht : treeOk R (mg1 dJoin n a n' b).1 (mg1 dJoin n a n' b).2 = false := by
            cases h : treeOk R (mg1 dJoin n a n' b).1 (mg1 dJoin n a n' b).2 with
            | false => rfl
            | true => exact absurd (treeOk_split h).1 hs
          simp [hs, ht]
    rw [hU] at HU
    obtain ⟨ANS, hA⟩ : ∃ A, joinE R n a n' b = A := ⟨_, rfl⟩
    rw [hA] at hans ⊢
    obtain ⟨okk, m, t⟩ := U
    have HIS := Lib.hid fun W q c (h1 : IsL W R rp rn rc) (h2 : IsY W t q t.len c) => erefis_any R t m W rp q rn rc _ c h1 h2
    dsimp only at hans
    generalize treeOk R m t = tk at *
    have HANS := Lib.hid hans
    clear J hc t1 t2 s1 s2 o1 o2 hU hans hA
    go_enter Try.func31, Try.ntmps31
    go_wp2_with fail
    refine (HJ.out).mono ?_
    rintro e w1 ⟨rfl, hb1⟩
    have hK := HK2.out.below hb1
    obtain ⟨x1, x2⟩ := box2_cells hK.h1
    obtain ⟨y1, y2⟩ := box2_cells hK.h2
    have HK := Lib.hid hK
    clear hb1 hK HK2 HJ
    go_wp2_with fail
    refine (HU.out _ HK.out.i1 HK.out.i2).mono ?_
    rintro e w2 ⟨q, c, rfl, hO, hb2⟩
    have hK2 := (HK.out.below hb2).alloc (.cells #[.int .i64 m, .slice q t.len c] 25)
    have hO2 : OwnY (w2.alloc (.cells #[.int .i64 m, .slice q t.len c] 25)) t q c w1.heap.size w2.heap.size := hO.keep fun k _ hk => Below.heap_alloc _ _ _ hk
    have hz1 := lt_of_block HK.out.hr
    have hsz := hb2.size
    have t0 := heap_new w2 (.cells #[.int .i64 m, .slice q t.len c] 25)
    obtain ⟨⟨z1, z2⟩, f1, f2⟩ := tree_box hK2.hr
    have hz := lt_of_block hK2.hr
    have HK3 := Lib.hid hK2
    have HO2 := Lib.hid hO2
    have HT0 := Lib.hid t0
    clear hb2 hO hO2 hK2 x1 x2 y1 y2 HK t0
    cases okk with
    | false =>
      go_wp2_with fail
      refine bodyPost_ret (v := .tuple #[.agg #[.int .i64 0, .slice none 0 0], .int .i64 5]) (by simp [results, Try.results31, go_sem, z1, z2]) rfl ?_
      rw [HANS.out]
      exact getPost_zero 5 _ _ (by omega) HK3.out.base
    | true =>
      clear z1 z2 f1 f2 hz
      go_wp2_with fail
      refine (HIS.out _ q c HK3.out.rk HO2.out.isY).mono ?_
      rintro e w3 ⟨rfl, hb3⟩
      have hK4 := HK3.out.below hb3
      have t1 := box2_later hb3 HT0.out
      obtain ⟨⟨z1, z2⟩, f1, f2⟩ := tree_box hK4.hr
      obtain ⟨g1, g2⟩ := box2_cells t1
      have hz := lt_of_block hK4.hr
      have hO3 : OwnY w3 t q c w1.heap.size w2.heap.size := HO2.out.keep fun k _ hk => hb3.block k (by simp; omega)
      have hsz3 : w2.heap.size ≤ w3.heap.size := by have := hb3.size; simp at this; omega
      have HK4 := Lib.hid hK4
      have HO3 := Lib.hid hO3
      clear hb3 hK4 hO3 t1
      cases tk with
      | false =>
        go_wp2_with fail
        refine bodyPost_ret (v := .tuple #[.agg #[.int .i64 0, .slice none 0 0], .int .i64 3]) (by simp [results, Try.results31, go_sem, z1, z2]) rfl ?_
        rw [HANS.out]
        exact getPost_zero 3 _ _ (by omega) HK4.out.base
      | true =>
        go_wp2_with fail
        refine bodyPost_ret (v := .tuple #[.agg #[.int .i64 m, .slice q t.len c], .int .i64 0]) (by simp [results, Try.results31, go_sem, z1, z2]) rfl ?_
        rw [HANS.out]
        exact getPost_own 0 m t q c _ _ (by omega) (by omega) hsz3 HO3.out HK4.out.base
  · have e1 : joinE R n a n' b = (chkTwo R n a n' b, 0, .nil) := if_neg hc
    rw [e1]
    have hd : (chkTwo R n a n' b != 0) = true := by simpa using hc
    generalize chkTwo R n a n' b = x at *
    have HJ := Lib.hid J
    clear J hc e1
    go_enter Try.func31, Try.ntmps31
    go_wp2_with fail
    refine (HJ.out).mono ?_
    rintro e w1 ⟨rfl, hb1⟩
    have hK := HK2.out.below hb1
    obtain ⟨⟨z1, z2⟩, f1, f2⟩ := tree_box hK.hr
    have hz := lt_of_block hK.hr
    clear hb1
    go_wp2_with fail
    refine bodyPost_ret (v := .tuple #[.agg #[.int .i64 0, .slice none 0 0], .int .i64 x]) (by simp [results, Try.results31, go_sem, z1, z2]) rfl ?_
    exact getPost_zero x _ _ (by omega) hK.base

end Go.Proofs.Ytgpbkdfhjkfceaa

/-
  The walk of the statement on Join, where the example holds. Conditions: none but that the arguments lie in memory.
-/
set_option linter.unusedSimpArgs false
set_option linter.unusedVariables false
namespace Go.Proofs.Ytgpbkdfhjkfceaa
open Go.RowKit

theorem joinE_is (R : List Int) (n : Int) (a : Y) (n' : Int) (b : Y) :
    (joinE R n a n' b).1 = 0 ∧ (joinE R n a n' b).2.2.sz < 20000 ∨ (joinE R n a n' b).1 ≠ 0 ∧ (joinE R n a n' b).2.1 = 0 ∧ (joinE R n a n' b).2.2 = .nil := by
  unfold joinE
  split
  · split
    · split
      · rename_i h
        exact Or.inl ⟨rfl, h⟩
      · exact Or.inr ⟨by decide, rfl, rfl⟩
    · exact Or.inr ⟨by decide, rfl, rfl⟩
  · rename_i h
    exact Or.inr ⟨h, rfl, rfl⟩

set_option maxRecDepth 100000 in
set_option maxHeartbeats 1600000 in
theorem law_ejoin (hal : AliveE) (R : List Int) (a b : Y) (n n' : Int) (w : World) (rp p p' : Option Addr) (rn rc l cap l' cap' : Nat) (hR : IsL w R rp rn rc) (his : IsY w a p l cap) (hit : IsY w b p' l' cap') :
    Calls Try.prog 7 #[.slice rp rn rc, .agg #[.int .i64 n, .slice p l cap], .agg #[.int .i64 n', .slice p' l' cap']] w fun e w' => e = .returned (.bool true) ∧ Below w.heap.size w w' := by
  have hl := his.1
  subst hl
  have hl' := hit.1
  subst hl'
  have hA := Lib.hid hal
  have K0 := kk_two (n1 := n) (n2 := n') hR his hit
  have HX := Lib.hid fun W (h1 : IsL W R rp rn rc) (h2 : IsY W a p a.len cap) (h3 : IsY W b p' b.len cap') => ejointop_any R a b n n' W rp p p' rn rc _ cap _ cap' h1 h2 h3
  have HY := Lib.hid fun W (h1 : IsL W R rp rn rc) (h2 : IsY W a p a.len cap) (h3 : IsY W b p' b.len cap') => erefjointop_any R a b n n' W rp p p' rn rc _ cap _ cap' h1 h2 h3
  have hE := joinE_is R n a n' b
  generalize joinE R n a n' b = f at *
  obtain ⟨x, m, t⟩ := f
  have HZ := Lib.hid fun W q q' c c' h1 h2 => eis_any x m t hE W q q' c c' h1 h2
  have HK := Lib.hid K0
  clear hal K0 hR his hE hit
  go_enter Try.func7, Try.ntmps7
  go_wp2_with fail
  refine (HX.out _ HK.out.rk HK.out.i1 HK.out.i2).mono ?_
  rintro e w1 ⟨q, c, rfl, hO1, hb1⟩
  have HK1 := Lib.hid ((HK.out.below hb1).alloc (.cells #[.int .i64 m, .slice q t.len c] 25))
  have hI1 := hO1.isY.alloc (.cells #[.int .i64 m, .slice q t.len c] 25)
  have hx1 := heap_new w1 (.cells #[.int .i64 m, .slice q t.len c] 25)
  have HI1 := Lib.hid hI1
  have HX1 := Lib.hid hx1
  have kc := HK1.out.cells
  obtain ⟨⟨k1, k2⟩, ⟨k3, k4⟩, _⟩ := kc
  clear hb1 HK hO1 hI1 hx1
  go_wp2_with fail
  refine (HY.out _ HK1.out.rk HK1.out.i1 HK1.out.i2).mono ?_
  rintro e w2 ⟨q', c', rfl, hO2, hb2⟩
  have HK2 := Lib.hid ((HK1.out.below hb2).alloc (.cells #[.int .i64 m, .slice q' t.len c'] 25))
  have HI2 := Lib.hid (hO2.isY.alloc (.cells #[.int .i64 m, .slice q' t.len c'] 25))
  have HI3 := Lib.hid ((HI1.out.below hb2).alloc (.cells #[.int .i64 m, .slice q' t.len c'] 25))
  have hx2 := box2_cells (heap_new w2 (.cells #[.int .i64 m, .slice q' t.len c'] 25))
  have hx3 := box2_cells (alloc_kept (box2_later hb2 HX1.out) (.cells #[.int .i64 m, .slice q' t.len c'] 25))
  obtain ⟨u1, u2⟩ := hx2
  obtain ⟨u3, u4⟩ := hx3
  clear hb2 HK1 hO2 HI1 HX1 k1 k2 k3 k4
  go_wp2_with fail
  refine (HZ.out _ q q' c c' HI3.out HI2.out).mono ?_
  rintro e w3 ⟨rfl, hb3⟩
  have HK3 := Lib.hid (HK2.out.below hb3)
  clear hb3 HK2 HI2 HI3 u1 u2 u3 u4
  go_wp2_with fail
  refine (hA.out _).mono ?_
  rintro e w4 ⟨rfl, hb4⟩
  go_wp2_with fail
  go_ret
  exact ⟨rfl, (HK3.out.below hb4).base⟩

end Go.Proofs.Ytgpbkdfhjkfceaa

set_option linter.unusedSimpArgs false
set_option linter.unusedVariables false
namespace Go.Proofs.Ytgpbkdfhjkfceaa
open Go.ChangeShapes Go.WideShapes Go.ChangeAt Go.RowKit
open Go.ChangeMaps (open_string shut_string)

set_option maxRecDepth 100000 in
theorem treeJoin_lifted (os : Os) (started : os.Started) (H : Type) (enc : TypeId × Value → H) :
    ReturnsInHanded {} Try.checked os 7 .any (Rows.treeJoinSpec.pre6 enc Try.prog Try.f7 Rows.treeJoinRow.domain false) (Rows.treeJoinSpec.post enc Try.prog Try.f7 false true false false) := by
  refine returnsInHanded_of_change (C := Try.checked) PE.own started (by kernel_rfl) Try.func7
    (ChangeSpec.witness6 (enc := enc) (C := Try.checked) false ⟨#[], #[.slice none 0 0, .agg #[.int .i64 0, .slice none 0 0], .agg #[.int .i64 0, .slice none 0 0]], []⟩ 8 (by kernel_rfl) (by kernel_rfl) (by kernel_rfl) (by kernel_rfl)) ?_
  intro W base args ds gs before hval0 hW hcnd _
  have hval : ∀ (j : Nat) t v, Try.f7.params[j]? = some t → args[j]? = some v → Value.okWide Try.prog W .any base t v := hval0
  have hW' := hW
  obtain ⟨p, q, hA0, hV, rfl, hfz, hnd⟩ := hW
  have hA : DataW.TrodAll enc Try.prog W 0 (fun _ => true) true Try.f7.params.toList args.toList ds p := hA0
  rw [Try.params7] at hA hval
  obtain ⟨v0, v1, v2, d0, d1, d2, p0, p1, p2, rfl, rfl, rfl, h0, h1, h2⟩ := trodAll_three hA
  obtain ⟨rfl, rfl⟩ := trodVars_none hV
  have k0 := h0
  obtain ⟨a0, n0, c0, t0, rfl, i0⟩ := open_ints (hval 0 22 v0 rfl rfl) h0
  have k1 := h1
  obtain ⟨ni1, a1, n1, c1, t1, rfl, i1⟩ := open_tree (hval 1 25 v1 rfl rfl) h1
  have k2 := h2
  obtain ⟨ni2, a2, n2, c2, t2, rfl, i2⟩ := open_tree (hval 2 25 v2 rfl rfl) h2
  clear hA0 hval0
  simp only [List.append_nil] at hW'
  refine (law_ejoin alive_any t0 t1 t2 ni1 ni2 W a0 a1 a2 n0 c0 n1 c1 n2 c2 i0 i1 i2).mono fun e W' ⟨he, hb⟩ => ?_
  subst he
  have hlt := fun x hx => hW'.lt x hx
  exact ⟨_, rfl, post_below (pv := []) hW' (fun _ _ _ => trodAll_mk1 (shut_bool Try.underlying4 true))
    (fun sp hsp => trodAll_mk3 (WideElems.Trod_stays PE.laidOut PE.readI (of_decide_eq_true (by kernel_rfl)) k0 (fun x hx => hb.same (hlt x (by simp [hx]))) (fun x hx => hsp x (by simp [hx]))) (WideElems.Trod_stays PE.laidOut PE.readY (of_decide_eq_true (by kernel_rfl)) k1 (fun x hx => hb.same (hlt x (by simp [hx]))) (fun x hx => hsp x (by simp [hx]))) (WideElems.Trod_stays PE.laidOut PE.readY (of_decide_eq_true (by kernel_rfl)) k2 (fun x hx => hb.same (hlt x (by simp [hx]))) (fun x hx => hsp x (by simp [hx]))))
    (fun _ _ => rfl) (by simp) hb (ok_one (by kernel_rfl) rfl (okWide_bool_mk Try.underlying4 true))⟩

theorem treeJoin_holds : Rows.TreeJoinSaid :=
  OpenClaim.holds_of_wide 7 Try.f7 rfl rfl rfl rfl rfl rfl rfl ⟨rfl, rfl, rfl, rfl, rfl⟩ rfl rfl rfl rfl rfl (by kernel_rfl) Try.func7 (by kernel_rfl)
    (of_decide_eq_true (by kernel_rfl)) (by unfold Func.isWrapper; rw [if_neg (of_decide_eq_false (by kernel_rfl))]; exact ⟨rfl, rfl⟩)
    (fun os started H enc _ => treeJoin_lifted os started H enc)

end Go.Proofs.Ytgpbkdfhjkfceaa

