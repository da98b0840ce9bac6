/-
  The walks of replace and of its function literal: a term with args in the place of its variables, made anew. Conditions: at most 100000 nodes; each variable is the number of an arg.
-/
import Derived.Test.YtlgfaobbjnhfoaaTWalkG
set_option linter.unusedSimpArgs false
set_option linter.unusedVariables false
namespace Go.Proofs.Ytlgfaobbjnhfoaa
open Go.RowKit

/-- a term whose arguments have become ra, with args in the place of its head -/
def rep1 (args : X) (k n : Int) (ra : X) : Int × Int × X := if k = 0 then (args.gk n.toNat, args.gn n.toNat, (args.ga n.toNat).app ra) else (k, n, ra)

/-- each term of a list, with args in the place of its variables -/
def rep (args : X) : X → X
  | .nil => .nil
  | .cons k n a r => .cons (rep1 args k n (rep args a)).1 (rep1 args k n (rep args a)).2.1 (rep1 args k n (rep args a)).2.2 (rep args r)

theorem rep_map (args t : X) : t.map (fun k n a => rep1 args k n (rep args a)) = rep args t := by
  induction t with
  | nil => rfl
  | cons k n a r iha ihr => simp only [X.map, rep, ihr]

/-- what may stand at a node where args are substituted -/
def Known (args : X) (k n : Int) (_ : X) : Prop := k ≠ 0 ∨ (0 ≤ n ∧ n < args.len)

set_option maxRecDepth 100000 in
set_option maxHeartbeats 1600000 in
theorem join_replace {cb : Nat} {g : Int → Int → X → Int × Int × X} {Env : World → Prop} (own more : X) (w : World) (p q : Option Addr) (l cap m cap' : Nat) (hio : IsX w own p l cap) (him : IsX w more q m cap') (hlen : own.len + more.len ≤ 1000000)
    (hE : Env w) (hEb : ∀ W W', Env W → Below W.heap.size W W' → Env W')
    (hfresh : ∀ j, j < own.len → ∀ W p l cap, IsX W (own.ga j) p l cap → Calls Try.prog 69 #[.agg #[.int .i64 (own.gk j), .int .i64 (own.gn j), .slice p l cap]] W (Made (own.gk j) (own.gn j) (own.ga j) W))
    (hch : ∀ j, j < more.len → ∀ W p l cap, Env W → IsX W (more.ga j) p l cap → Calls Try.prog 85 #[.agg #[.int .i64 (more.gk j), .int .i64 (more.gn j), .slice p l cap], .pointer (some ⟨cb, 0, none⟩)] W (Made (g (more.gk j) (more.gn j) (more.ga j)).1 (g (more.gk j) (more.gn j) (more.ga j)).2.1 (g (more.gk j) (more.gn j) (more.ga j)).2.2 W)) :
    Calls Try.prog 68 #[.slice p l cap, .slice q m cap', .func (Fn.func 85) #[] #[.pointer (some ⟨cb, 0, none⟩)]] w fun e w' =>
      ∃ r c, e = .returned (.slice r (own.app (more.map g)).len c) ∧ OwnX w' (own.app (more.map g)) r c w.heap.size w'.heap.size ∧ Below w.heap.size w w' := by
  obtain ⟨i0, hi0, hz0, hz1', hz2⟩ := info_parts infoX
  obtain ⟨tot, htot⟩ : ∃ tot, own.app (more.map g) = tot := ⟨_, rfl⟩
  rw [htot]
  have htl : tot.len = own.len + more.len := by rw [← htot, X.len_app, X.len_map]
  have HT := Lib.hid htot
  have HF := Lib.hid hfresh
  have HC := Lib.hid hch
  have HE := Lib.hid hEb
  have HE0 := Lib.hid hE
  clear htot hfresh hch hEb hE
  obtain ⟨hn, hcap, hmax, hnil, hrow⟩ := hio
  obtain ⟨hn', hcap', hmax', hnil', hrow'⟩ := him
  subst hn hn'
  have G := fun W => tgrow_any (own.len + more.len) W hlen
  simp only [Int.natCast_add] at G
  have HG := Lib.hid G
  clear G
  go_enter Try.func68, Try.ntmps68
  go_wp2_with fail
  refine (HG.out _).mono ?_
  rintro e w0 ⟨r0, c0, rfl, hown0, hb0⟩
  have hz0' := hb0.size
  go_wp2_with fail
  go_loopw [7, 20] (fun v i wr => ∃ (j : Nat) (y : X) (r : Option Addr) (c : Nat), j ≤ own.len ∧ i = .int .i64 (j : Int) ∧ v = .slice r y.len c ∧ y.app (own.drop j) = own ∧ GotX wr 35 y (.slice r y.len c) w.heap.size ∧ Below w.heap.size w wr)
    (fun _ i _ => own.len - (intOf i).toNat)
  case atStart => exact ⟨0, .nil, r0, c0, Nat.zero_le _, rfl, rfl, by rw [X.drop_zero]; rfl, GotX.start hown0 hz0', hb0⟩
  case round =>
    clear hown0 hb0
    obtain ⟨j, y, r, c, hj, rfl, rfl, hy, hgot, hb⟩ := hrel
    have hyl : y.len = j := by
      have := congrArg X.len hy
      rw [X.len_app, X.len_drop] at this
      omega
    have HY := Lib.hid hy
    have HGt := Lib.hid hgot
    have HYL := Lib.hid hyl
    clear hgot hy hyl
    by_cases hlt : j < own.len
    · rcases hrow with h0 | ⟨b, off, rfl, hr⟩
      · omega
      obtain ⟨hck, hcn, p', n', cap1, hc, hi⟩ := base3_at (Keeps3.below hb (Nat.le_refl _)) hr hlt
      have hz := hb.size
      go_wp2_with fail
      refine (HF.out j hlt _ p' n' cap1 (hi.alloc _)).mono ?_
      rintro e w1 ⟨q1, c1, rfl, hO, hb1⟩
      obtain ⟨xs, hown, hkids⟩ := HGt.out
      have hownA : ∀ o, (w1.alloc o).ownsRow w.heap.size 35 3 (.slice r y.len c) y.len xs := fun o => ((ownsRow_later (hown.alloc _) hb1)).alloc o
      have hz1 := hb1.size
      simp only [World.size_alloc] at hz1
      have hmx : y.len + 1 ≤ maxLen := by have := HYL.out; simp only [maxLen]; omega
      have hmx1 : y.len + 1 ≤ 1000000 := by have := HYL.out; omega
      go_wp2_with (at_builtin; refine wpList_append_lies _ rfl _ _ 33 rfl w.heap.size 35 i0 (.agg #[.int .i64 0, .int .i64 0, .slice none 0 0]) 3 40 Try.underlying33 hi0 hz0 hz1' hz2 rfl (by decide) _ y.len xs rfl (hownA _) ⟨w1.heap.size, 0, none⟩ 1 1 [.int .i64 (own.gk j), .int .i64 (own.gn j), .slice q1 (own.ga j).len c1] rfl rfl (World.news_of_block (heap_new _ _)) (by simp [Value.oneCell']) (by decide) hmx (by omega) (by simp; omega) (w1.heap.size + 1) (by simp) ?_; intro g3 cp w3 hown3 hgrow hat hglt)
      have hfin := GotX.round hb hown hkids hb1 hO hown3 hgrow hat
      clear hown3 hgrow hat hownA
      have hy' : (y.snoc (own.gk j) (own.gn j) (own.ga j)).app (own.drop (j + 1)) = own := by rw [X.snoc_app, ← X.drop_cons own j hlt]; exact HY.out
      have hl' : (y.snoc (own.gk j) (own.gn j) (own.ga j)).len = y.len + 1 := X.len_snoc _ _ _ _
      have HL := Lib.hid hl'
      clear hl'
      go_roundw
      case rel => exact ⟨j + 1, _, some ⟨g3, 0, none⟩, cp, by omega, by go_num, by rw [HL.out], hy', by rw [HL.out]; exact hfin.1, hfin.2⟩
      case measure => simp [intOf]; omega
    · obtain rfl : y = own := by
        have h := HY.out
        rw [X.drop_end own j (by omega), X.app_nil] at h
        exact h
      clear HY
      go_wp2_with fail
      have hHE : Env wr := HE.out _ _ HE0.out hb
      have HE1 := Lib.hid hHE
      clear hHE
      go_loopw [7, 32] (fun v i wr => ∃ (j : Nat) (z : X) (r : Option Addr) (c : Nat), j ≤ more.len ∧ i = .int .i64 (j : Int) ∧ v = .slice r z.len c ∧ z.app ((more.drop j).map g) = tot ∧ GotX wr 35 z (.slice r z.len c) w.heap.size ∧ Below w.heap.size w wr)
        (fun _ i _ => more.len - (intOf i).toNat)
      case atStart => exact ⟨0, y, r, c, Nat.zero_le _, rfl, rfl, by rw [X.drop_zero]; exact HT.out, HGt.out, hb⟩
      case round =>
        clear hb HGt HE1
        obtain ⟨j2, z, r2, c2, hj2, rfl, rfl, hz2', hgot2, hb⟩ := hrel
        have hzl : z.len + (more.len - j2) = tot.len := by
          have := congrArg X.len hz2'
          rw [X.len_app, X.len_map, X.len_drop] at this
          omega
        have HZ := Lib.hid hz2'
        have HGt := Lib.hid hgot2
        have HZL := Lib.hid hzl
        clear hgot2 hz2' hzl
        by_cases hlt2 : j2 < more.len
        · rcases hrow' with h0 | ⟨b, off, rfl, hr⟩
          · omega
          obtain ⟨hck, hcn, p', n', cap1, hc, hi⟩ := base3_at (Keeps3.below hb (Nat.le_refl _)) hr hlt2
          have hz := hb.size
          go_wp2_with fail
          refine (HC.out j2 hlt2 _ p' n' cap1 (HE.out _ _ HE0.out (hb.alloc hz _)) (hi.alloc _)).mono ?_
          rintro e w1 ⟨q1, c1, rfl, hO, hb1⟩
          obtain ⟨xs, hown, hkids⟩ := HGt.out
          have hownA : ∀ o, (w1.alloc o).ownsRow w.heap.size 35 3 (.slice r2 z.len c2) z.len xs := fun o => ((ownsRow_later (hown.alloc _) hb1)).alloc o
          have hz1 := hb1.size
          simp only [World.size_alloc] at hz1
          have hmx : z.len + 1 ≤ maxLen := by have := HZL.out; simp only [maxLen]; omega
          have hmx1 : z.len + 1 ≤ 1000000 := by have := HZL.out; omega
          obtain ⟨kg, hkg⟩ : ∃ kg, (g (more.gk j2) (more.gn j2) (more.ga j2)).1 = kg := ⟨_, rfl⟩
          obtain ⟨ng, hng⟩ : ∃ ng, (g (more.gk j2) (more.gn j2) (more.ga j2)).2.1 = ng := ⟨_, rfl⟩
          obtain ⟨ag, hag⟩ : ∃ ag, (g (more.gk j2) (more.gn j2) (more.ga j2)).2.2 = ag := ⟨_, rfl⟩
          rw [hkg, hng, hag]
          rw [hag] at hO
          have hm := X.map_drop g more j2 hlt2
          rw [hkg, hng, hag] at hm
          have HM := Lib.hid hm
          clear hm hkg hng hag
          go_wp2_with (at_builtin; refine wpList_append_lies _ rfl _ _ 33 rfl w.heap.size 35 i0 (.agg #[.int .i64 0, .int .i64 0, .slice none 0 0]) 3 40 Try.underlying33 hi0 hz0 hz1' hz2 rfl (by decide) _ z.len xs rfl (hownA _) ⟨w1.heap.size, 0, none⟩ 1 1 [.int .i64 kg, .int .i64 ng, .slice q1 ag.len c1] rfl rfl (World.news_of_block (heap_new _ _)) (by simp [Value.oneCell']) (by decide) hmx (by omega) (by simp; omega) (w1.heap.size + 1) (by simp) ?_; intro g3 cp w3 hown3 hgrow hat hglt)
          have hfin := GotX.round hb hown hkids hb1 hO hown3 hgrow hat
          clear hown3 hgrow hat hownA
          have hy' : (z.snoc kg ng ag).app ((more.drop (j2 + 1)).map g) = tot := by rw [X.snoc_app, ← HM.out]; exact HZ.out
          have hl' : (z.snoc kg ng ag).len = z.len + 1 := X.len_snoc _ _ _ _
          have HL := Lib.hid hl'
          clear hl'
          go_roundw
          case rel => exact ⟨j2 + 1, _, some ⟨g3, 0, none⟩, cp, by omega, by go_num, by rw [HL.out], hy', by rw [HL.out]; exact hfin.1, hfin.2⟩
          case measure => simp [intOf]; omega
        · obtain rfl : z = tot := by
            have h := HZ.out
            rw [X.drop_end more j2 (by omega)] at h
            rw [← h]; exact (X.app_nil z).symm
          go_wp2_with fail
          go_ret
          obtain ⟨q', c', he, ho⟩ := HGt.out.finish
          exact ⟨q', c', by rw [← he]; rfl, ho, hb⟩

/-- the args in their variable -/
def EnvA (args : X) (cb : Nat) (q : Option Addr) (m cap : Nat) (W : World) : Prop := W.cell? ⟨cb, 0, none⟩ = some (.slice q m cap) ∧ IsX W args q m cap

theorem EnvA.later {args : X} {cb m cap : Nat} {q : Option Addr} (W W' : World) (h : EnvA args cb q m cap W) (hb : Below W.heap.size W W') : EnvA args cb q m cap W' :=
  ⟨by rw [(bcell hb).1 _ _ (lt_of_cell h.1)]; exact h.1, h.2.below hb⟩

/-- the three result cells are written -/
theorem OwnX.set3 {w1 : World} {a : X} {r : Option Addr} {c lo b : Nat} (u v x : Value) (hO : OwnX w1 a r c lo w1.heap.size) (hb : b < lo) {lo' : Nat} (hlo : lo' ≤ lo) :
    OwnX (((w1.setCell ⟨b, 0, none⟩ u).setCell ⟨b, 1, none⟩ v).setCell ⟨b, 2, none⟩ x) a r c lo' (((w1.setCell ⟨b, 0, none⟩ u).setCell ⟨b, 1, none⟩ v).setCell ⟨b, 2, none⟩ x).heap.size := by
  have h := (((hO.set (a := ⟨b, 0, none⟩) hb u).set (a := ⟨b, 1, none⟩) hb v).set (a := ⟨b, 2, none⟩) hb x).mono (lo' := lo') hlo (Nat.le_refl _)
  simpa [World.setCell] using h

theorem below_set3 {w w1 : World} {B b : Nat} (u v x : Value) (h : Below B w w1) (hb : B ≤ b) : Below B w (((w1.setCell ⟨b, 0, none⟩ u).setCell ⟨b, 1, none⟩ v).setCell ⟨b, 2, none⟩ x) :=
  ((h.setCell hb _).setCell hb _).setCell hb _

theorem heap4 (w : World) (x y z v : Obj) : ((((w.alloc x).alloc y).alloc z).alloc v).heap[w.heap.size]? = some x ∧ ((((w.alloc x).alloc y).alloc z).alloc v).heap[w.heap.size + 1]? = some y ∧
    ((((w.alloc x).alloc y).alloc z).alloc v).heap[w.heap.size + 1 + 1]? = some z ∧ ((((w.alloc x).alloc y).alloc z).alloc v).heap[w.heap.size + 1 + 1 + 1]? = some v := by
  refine ⟨alloc_kept (alloc_kept (alloc_kept (heap_new w x) y) z) v, alloc_kept (alloc_kept (heap_new2 w x y) z) v, ?_, ?_⟩
  · have h := heap_new2 (w.alloc x) y z
    rw [World.size_alloc] at h
    exact alloc_kept h v
  · have h := heap_new2 ((w.alloc x).alloc y) z v
    rw [World.size_alloc, World.size_alloc] at h
    exact h

theorem keep4 (w : World) (x y z v : Obj) (b o : Nat) (h : b < w.heap.size) : ((((w.alloc x).alloc y).alloc z).alloc v).cell? ⟨b, o, none⟩ = w.cell? ⟨b, o, none⟩ := by
  rw [keep_alloc _ _ _ _ (by simp only [World.size_alloc]; omega), keep_alloc _ _ _ _ (by simp only [World.size_alloc]; omega), keep_alloc _ _ _ _ (by simp only [World.size_alloc]; omega), keep_alloc _ _ _ _ h]

theorem free3 {W : World} {b : Nat} {u v x : Value} {ty : TypeId} (h : W.heap[b]? = some (.cells #[u, v, x] ty (0, 0))) : W.frozen? ⟨b, 0, none⟩ = false ∧ W.frozen? ⟨b, 1, none⟩ = false ∧ W.frozen? ⟨b, 2, none⟩ = false := by
  refine ⟨?_, ?_, ?_⟩ <;> simp [World.frozen?, h]

theorem cell_box {W : World} {b : Nat} {v : Value} {ty : TypeId} (h : W.heap[b]? = some (.cells #[v] ty (0, 0))) : W.cell? ⟨b, 0, none⟩ = some v := by simp [World.cell?, h]

set_option maxRecDepth 100000 in
set_option maxHeartbeats 800000 in
theorem lit_replace (args : X) (cb : Nat) (q : Option Addr) (m cap' : Nat) (k n : Int) (a : X) (k' n' : Int) (a' : X)
    (hr : ∀ (W : World) (p : Option Addr) (l cap : Nat), IsX W a p l cap → IsX W args q m cap' → Calls Try.prog 65 #[.agg #[.int .i64 k, .int .i64 n, .slice p l cap], .slice q m cap'] W (Made k' n' a' W))
    (w : World) (p : Option Addr) (l cap : Nat) (hE : EnvA args cb q m cap' w) (his : IsX w a p l cap) :
    Calls Try.prog 85 #[.agg #[.int .i64 k, .int .i64 n, .slice p l cap], .pointer (some ⟨cb, 0, none⟩)] w (Made k' n' a' w) := by
  have HR := Lib.hid hr
  clear hr
  obtain ⟨hc, hia⟩ := hE
  have hlt := lt_of_cell hc
  go_enter Try.func85, Try.ntmps85
  go_wp2_with fail
  refine (HR.out _ p l cap ((his.alloc _).alloc _) ((hia.alloc _).alloc _)).mono ?_
  rintro e w1 ⟨r, c, rfl, hO, hb1⟩
  have hz : ∀ x y, ((w.alloc x).alloc y).heap.size = w.heap.size + 2 := by intro x y; simp
  rw [hz] at hO hb1
  have hs := hb1.size
  rw [hz] at hs
  have r1 : w1.cell? ⟨w.heap.size + 1, 0, none⟩ = some (.int .i64 0) := by rw [(bcell hb1).1 _ _ (by omega)]; simp
  have r2 : w1.cell? ⟨w.heap.size + 1, 1, none⟩ = some (.int .i64 0) := by rw [(bcell hb1).1 _ _ (by omega)]; simp
  have r3 : w1.cell? ⟨w.heap.size + 1, 2, none⟩ = some (.slice none 0 0) := by rw [(bcell hb1).1 _ _ (by omega)]; simp
  have f1 : w1.frozen? ⟨w.heap.size + 1, 0, none⟩ = false := by rw [(bcell hb1).2 _ _ (by omega)]; simp
  have f2 : w1.frozen? ⟨w.heap.size + 1, 1, none⟩ = false := by rw [(bcell hb1).2 _ _ (by omega)]; simp
  have f3 : w1.frozen? ⟨w.heap.size + 1, 2, none⟩ = false := by rw [(bcell hb1).2 _ _ (by omega)]; simp
  have h1 : Below w.heap.size w w1 := (((Below.refl w.heap.size w).alloc (Nat.le_refl _) _).alloc (by simp) _).trans (hb1.mono (by omega))
  go_wp2_with fail
  exact bodyPost_ret (v := .agg #[.int .i64 k', .int .i64 n', .slice r a'.len c]) (by simp [results, Try.results85, go_sem, r1, r2, r3]) rfl ⟨r, c, rfl, hO.set3 _ _ _ (by omega) (by omega), below_set3 _ _ _ h1 (by omega)⟩

set_option maxRecDepth 100000 in
set_option maxHeartbeats 1600000 in
theorem replace_any (args : X) (hargs : ∀ i, i < args.len → (args.ga i).sz < 100000) (N : Nat) : ∀ (a : X) (k n : Int) (w : World) (p q : Option Addr) (l cap m cap' : Nat), a.sz < N → a.sz < 100000 → Known args k n a → X.AllX (Known args) a → IsX w a p l cap → IsX w args q m cap' →
    Calls Try.prog 65 #[.agg #[.int .i64 k, .int .i64 n, .slice p l cap], .slice q m cap'] w (Made (rep1 args k n (rep args a)).1 (rep1 args k n (rep args a)).2.1 (rep1 args k n (rep args a)).2.2 w) := by
  induction N with
  | zero => intro a k n w p q l cap m cap' hN; omega
  | succ N ih =>
    intro a k n w p q l cap m cap' hN h60 hK hA his hia
    have hlen := a.len_le_sz
    have J : ∀ (own : X) (cb : Nat) W p1 l1 cap1 p l cap, own.sz < 100000 → EnvA args cb q m cap' W → IsX W own p1 l1 cap1 → IsX W a p l cap →
        Calls Try.prog 68 #[.slice p1 l1 cap1, .slice p l cap, .func (Fn.func 85) #[] #[.pointer (some ⟨cb, 0, none⟩)]] W fun e w' => ∃ r c, e = .returned (.slice r (own.app (rep args a)).len c) ∧ OwnX w' (own.app (rep args a)) r c W.heap.size w'.heap.size ∧ Below W.heap.size W w' := by
      intro own cb W p1 l1 cap1 p l cap hos hE hio hi
      have hol := own.len_le_sz
      have := join_replace (cb := cb) (g := fun k n a => rep1 args k n (rep args a)) (Env := EnvA args cb q m cap') own a W p1 p l1 cap1 l cap hio hi (by omega) hE EnvA.later
        (fun j hj W p l cap h => tfresh_any 100000 (own.ga j) _ _ W p l cap (by have := own.sz_ga j hj; omega) (by have := own.sz_ga j hj; omega) h)
        (fun j hj W p l cap hE h => lit_replace args cb q m cap' _ _ _ _ _ _ (fun W p l cap h1 h2 => ih (a.ga j) _ _ W p q l cap m cap' (by have := a.sz_ga j hj; omega) (by have := a.sz_ga j hj; omega) (hA.at hj).1 (hA.at hj).2 h1 h2) W p l cap hE h)
      rwa [rep_map] at this
    have HJ := Lib.hid J
    clear J ih
    have hz4 : ∀ x y z v, ((((w.alloc x).alloc y).alloc z).alloc v).heap.size = w.heap.size + 4 := by intro x y z v; simp
    have hb4 : ∀ x y z v, Below w.heap.size w ((((w.alloc x).alloc y).alloc z).alloc v) := fun x y z v => ((((Below.refl w.heap.size w).alloc (Nat.le_refl _) x).alloc (by simp) y).alloc (by simp; omega) z).alloc (by simp; omega) v
    by_cases hk0 : k = 0
    · have hkn : 0 ≤ n ∧ n < args.len := by
        rcases hK with h | h
        · exact absurd hk0 h
        · exact h
      subst hk0
      obtain ⟨i, rfl⟩ : ∃ i : Nat, n = (i : Int) := ⟨n.toNat, by omega⟩
      have hi : i < args.len := by omega
      have e1 : rep1 args 0 (i : Int) (rep args a) = (args.gk i, args.gn i, (args.ga i).app (rep args a)) := by unfold rep1; rw [if_pos rfl]; rfl
      rw [e1]
      have hsz := hargs i hi
      obtain ⟨hnm, hcapm, hmaxm, hnilm, hrowm⟩ := id hia
      subst hnm
      rcases hrowm with h0 | ⟨b, off, rfl, hr⟩
      · omega
      obtain ⟨g1, g2, p', n', cap1, hc0, hi0⟩ := base3_at (Keeps3.refl w) hr hi
      have hlb := lt_of_cell g1
      have B1 := fun x y z v => (keep4 w x y z v b (off + i * 3) hlb).trans g1
      have B2 := fun x y z v => (keep4 w x y z v b (off + i * 3 + 1) hlb).trans g2
      have B3 := fun x y z v => (keep4 w x y z v b (off + i * 3 + 2) hlb).trans hc0
      clear hkn hK e1
      go_enter Try.func65, Try.ntmps65
      go_wp2_with fail
      refine (HJ.out (args.ga i) (w.heap.size + 1) _ p' n' cap1 p l cap hsz ⟨cell_box (heap4 _ _ _ _ _).2.1, (((hia.alloc _).alloc _).alloc _).alloc _⟩ ((((hi0.alloc _).alloc _).alloc _).alloc _) ((((his.alloc _).alloc _).alloc _).alloc _)).mono ?_
      rintro e w1 ⟨r, c, rfl, hO, hb1⟩
      rw [hz4] at hO hb1
      have hs := hb1.size
      rw [hz4] at hs
      obtain ⟨y0, y1, y2, y3⟩ := heap4 w (.cells #[.int .i64 0, .int .i64 (i : Int), .slice p l cap] 35) (.cells #[.slice (some ⟨b, off, none⟩) args.len cap'] 33) (.cells #[.int .i64 0, .int .i64 0, .slice none 0 0] 35) (.cells #[.int .i64 (args.gk i), .int .i64 (args.gn i), .slice p' n' cap1] 35)
      obtain ⟨h1, h2, _⟩ := box3_cells ((hb1.block _ (by omega)).trans y3)
      obtain ⟨r1, r2, r3⟩ := box3_cells ((hb1.block _ (by omega)).trans y2)
      obtain ⟨f1, f2, f3⟩ := free3 ((hb1.block _ (by omega)).trans y2)
      have hB : Below w.heap.size w w1 := (hb4 _ _ _ _).trans (hb1.mono (by omega))
      clear y0 y1 y2 y3 B1 B2 B3
      go_wp2_with fail
      exact bodyPost_ret (v := .agg #[.int .i64 (args.gk i), .int .i64 (args.gn i), .slice r ((args.ga i).app (rep args a)).len c]) (by simp [results, Try.results65, go_sem, r1, r2, r3]) rfl ⟨r, c, rfl, hO.set3 _ _ _ (by omega) (by omega), below_set3 _ _ _ hB (by omega)⟩
    · have hd : (k == 0) = false := by simp [hk0]
      have e1 : rep1 args k n (rep args a) = (k, n, rep args a) := by unfold rep1; rw [if_neg hk0]
      rw [e1]
      clear hK e1 hk0
      go_enter Try.func65, Try.ntmps65
      go_wp2_with fail
      refine (HJ.out .nil (w.heap.size + 1) _ none 0 0 p l cap (by simp [X.sz]) ⟨cell_box (heap4 _ _ _ _ _).2.1, (((hia.alloc _).alloc _).alloc _).alloc _⟩ (isX_nil _) ((((his.alloc _).alloc _).alloc _).alloc _)).mono ?_
      rintro e w1 ⟨r, c, rfl, hO, hb1⟩
      rw [hz4] at hO hb1
      have hs := hb1.size
      rw [hz4] at hs
      obtain ⟨y0, y1, y2, y3⟩ := heap4 w (.cells #[.int .i64 k, .int .i64 n, .slice p l cap] 35) (.cells #[.slice q m cap'] 33) (.cells #[.int .i64 0, .int .i64 0, .slice none 0 0] 35) (.cells #[.int .i64 k, .int .i64 n, .slice none 0 0] 35)
      obtain ⟨h1, h2, _⟩ := box3_cells ((hb1.block _ (by omega)).trans y3)
      obtain ⟨r1, r2, r3⟩ := box3_cells ((hb1.block _ (by omega)).trans y2)
      obtain ⟨f1, f2, f3⟩ := free3 ((hb1.block _ (by omega)).trans y2)
      have hB : Below w.heap.size w w1 := (hb4 _ _ _ _).trans (hb1.mono (by omega))
      clear y0 y1 y2 y3
      go_wp2_with fail
      exact bodyPost_ret (v := .agg #[.int .i64 k, .int .i64 n, .slice r (rep args a).len c]) (by simp [results, Try.results65, go_sem, r1, r2, r3, X.app]) rfl ⟨r, c, rfl, hO.set3 _ _ _ (by omega) (by omega), below_set3 _ _ _ hB (by omega)⟩

end Go.Proofs.Ytlgfaobbjnhfoaa
