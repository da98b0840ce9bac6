/-
  The walks of slices.Grow from nothing, of join, fresh and replace, which make terms anew. Conditions: at most 100000 nodes.
-/
import Derived.Test.YtlgfaobbjnhfoaaTWalkE
import Derived.Test.YtlgfaobbjnhfoaaTMem3
import Derived.Lib.AppendZeros
import Derived.Deep.AppendLies
import Derived.Deep.RegionLaw
set_option linter.unusedSimpArgs false
set_option linter.unusedVariables false
namespace Go.Proofs.Ytlgfaobbjnhfoaa
open Go.RowKit

theorem infoX : (Try.prog.info? 35).map (fun i => (i.zero, i.size, i.bytes)) = some (some (.agg #[.int .i64 0, .int .i64 0, .slice none 0 0]), 3, 40) := by kernel_rfl

theorem zeroCells_size (z : Array Value) (n : Nat) : (Builtin.zeroCells z n).size = n * z.size := by simp [Builtin.zeroCells]

set_option maxRecDepth 100000 in
set_option maxHeartbeats 800000 in
theorem tgrow_any (m : Nat) (w : World) (hm : m ≤ 1000000) :
    Calls Try.prog 86 #[.slice none 0 0, .int .i64 (m : Int)] w fun e w' => ∃ p c, e = .returned (.slice p 0 c) ∧ w'.ownsRow w.heap.size 35 3 (.slice p 0 c) 0 [] ∧ Below w.heap.size w w' := by
  obtain ⟨i0, hi0, hz0, hz1, hz2⟩ := info_parts infoX
  by_cases h0 : m = 0
  · subst h0
    go_enter Try.func86, Try.ntmps86
    go_wp2_with fail
    go_ret
    exact ⟨none, 0, rfl, World.ownsRow_nil _ _ _ _, Below.refl _ _⟩
  · have hpos : 0 < m := by omega
    have hr := fun ty => Lib.run_append_nil_zeros w 33 3 ty 35 i0 (.agg #[.int .i64 0, .int .i64 0, .slice none 0 0]) .i64 .i64 Try.underlying33 Try.underlying3 hi0 hz0 m hpos (by omega) (by omega) (by rw [hz2]; omega)
    have hge := grownCap_ge w m 0 35
    have hle := grownCap_le_maxLen w m 0 35 (by simp [maxLen]; omega)
    generalize grownCap w m 0 35 = G at hr hge hle
    have HR := Lib.hid hr
    clear hr
    go_enter Try.func86, Try.ntmps86
    go_wp2_with (at_builtin; refine Lib.wpList_append_run _ rfl _ _ _ _ rfl _ _ rfl rfl _ _ (HR.out _) ?_)
    go_ret
    refine ⟨some ⟨w.heap.size, 0, none⟩, G, rfl, ?_, (Below.refl w.heap.size w).drew.alloc (by simp) _⟩
    have := World.ownsRow_made (base := w.heap.size) (e := 35) (size := 3) w.drew (Builtin.zeroCells #[.int .i64 0, .int .i64 0, .slice none 0 0] m ++ Builtin.zeroCells #[.int .i64 0, .int .i64 0, .slice none 0 0] (G - m)) G (by simp) hle (by simp [zeroCells_size]; omega)
    exact this

/-- a term made anew -/
def Made (k n : Int) (a : X) (W : World) (e : Ending) (w' : World) : Prop := ∃ q c, e = .returned (.agg #[.int .i64 k, .int .i64 n, .slice q a.len c]) ∧ OwnX w' a q c W.heap.size w'.heap.size ∧ Below W.heap.size W w'

theorem ownsRow_later {wr w1 : World} {B : Nat} {ty : TypeId} {v : Value} {n : Nat} {xs : List Value} (h : wr.ownsRow B ty 3 v n xs) (hb : Below wr.heap.size wr w1) : w1.ownsRow B ty 3 v n xs := by
  refine h.kept (row := none) ⟨hb.os, hb.tape, hb.output, hb.size, fun k hk _ => hb.block k hk⟩ ?_
  cases v.ownBlock with
  | none => exact Or.inl rfl
  | some g => exact Or.inr (by simp)

/-- behind a round: a box X, the call, the new cells Y, the append -/
theorem GotX.round {w wr w1 w3 : World} {ty : TypeId} {y : X} {v : Value} {q : Option Addr} {c g cap : Nat} {xs : List Value} {k n : Int} {a : X} {ox oy : Obj} (hb : Below w.heap.size w wr)
    (hown0 : wr.ownsRow w.heap.size ty 3 v y.len xs) (hkids : KidsX wr y xs v.ownBlock w.heap.size wr.heap.size)
    (hb1 : Below (wr.alloc ox).heap.size (wr.alloc ox) w1) (hO : OwnX w1 a q c (wr.alloc ox).heap.size w1.heap.size)
    (hown : w3.ownsRow w.heap.size ty 3 (.slice (some ⟨g, 0, none⟩) (y.len + 1) cap) (y.len + 1) (xs ++ [.int .i64 k, .int .i64 n, .slice q a.len c]))
    (hgrow : (w1.alloc oy).grownBy w3 v.ownBlock) (hat : v.ownBlock = some g ∨ g = w1.heap.size + 1) :
    GotX w3 ty (y.snoc k n a) (.slice (some ⟨g, 0, none⟩) (y.len + 1) cap) w.heap.size ∧ Below w.heap.size w w3 := by
  have hz1 := hb1.size
  simp only [World.size_alloc] at hz1 hO
  have hlt := hown0.lt
  refine ⟨GotX.push (wy := w1.alloc oy) (lo := wr.heap.size + 1) (hi := w1.heap.size) hown0 hkids ?_ (hO.keep fun j _ b => Below.heap_alloc _ _ _ b) (Nat.le_succ _) hz1 (by simp) hown hgrow (by simpa using hat), ?_⟩
  · intro j hj
    rw [Below.heap_alloc _ _ _ (by omega), hb1.block j (by simp only [World.size_alloc]; omega), Below.heap_alloc _ _ _ hj]
  · have h1 : Below w.heap.size w w1 := base_next hb hb1
    exact (h1.alloc h1.size oy).grown hgrow (by have := h1.size; simp only [World.size_alloc]; omega) fun j hj => (hlt j hj).1

set_option maxRecDepth 100000 in
set_option maxHeartbeats 1600000 in
theorem join_fresh  {g : Int → Int → X → Int × Int × X} {Env : World → Prop} (own more : X) (w : World) (p q : Option Addr) (l cap m cap' : Nat) (hio : IsX w own p l cap) (him : IsX w more q m cap') (hlen : own.len + more.len ≤ 1000000)
    (hE : Env w) (hEb : ∀ W W', Env W → Below W.heap.size W W' → Env W')
    (hfresh : ∀ j, j < own.len → ∀ W p l cap, IsX W (own.ga j) p l cap → Calls Try.prog 69 #[.agg #[.int .i64 (own.gk j), .int .i64 (own.gn j), .slice p l cap]] W (Made (own.gk j) (own.gn j) (own.ga j) W))
    (hch : ∀ j, j < more.len → ∀ W p l cap, Env W → IsX W (more.ga j) p l cap → Calls Try.prog 69 #[.agg #[.int .i64 (more.gk j), .int .i64 (more.gn j), .slice p l cap]] W (Made (g (more.gk j) (more.gn j) (more.ga j)).1 (g (more.gk j) (more.gn j) (more.ga j)).2.1 (g (more.gk j) (more.gn j) (more.ga j)).2.2 W)) :
    Calls Try.prog 68 #[.slice p l cap, .slice q m cap', .func (Fn.func 69) #[] #[]] w fun e w' =>
      ∃ r c, e = .returned (.slice r (own.app (more.map g)).len c) ∧ OwnX w' (own.app (more.map g)) r c w.heap.size w'.heap.size ∧ Below w.heap.size w w' := by
  obtain ⟨i0, hi0, hz0, hz1', hz2⟩ := info_parts infoX
  obtain ⟨tot, htot⟩ : ∃ tot, own.app (more.map g) = tot := ⟨_, rfl⟩
  rw [htot]
  have htl : tot.len = own.len + more.len := by rw [← htot, X.len_app, X.len_map]
  have HT := Lib.hid htot
  have HF := Lib.hid hfresh
  have HC := Lib.hid hch
  have HE := Lib.hid hEb
  have HE0 := Lib.hid hE
  clear htot hfresh hch hEb hE
  obtain ⟨hn, hcap, hmax, hnil, hrow⟩ := hio
  obtain ⟨hn', hcap', hmax', hnil', hrow'⟩ := him
  subst hn hn'
  have G := fun W => tgrow_any (own.len + more.len) W hlen
  simp only [Int.natCast_add] at G
  have HG := Lib.hid G
  clear G
  go_enter Try.func68, Try.ntmps68
  go_wp2_with fail
  refine (HG.out _).mono ?_
  rintro e w0 ⟨r0, c0, rfl, hown0, hb0⟩
  have hz0' := hb0.size
  go_wp2_with fail
  go_loopw [7, 20] (fun v i wr => ∃ (j : Nat) (y : X) (r : Option Addr) (c : Nat), j ≤ own.len ∧ i = .int .i64 (j : Int) ∧ v = .slice r y.len c ∧ y.app (own.drop j) = own ∧ GotX wr 35 y (.slice r y.len c) w.heap.size ∧ Below w.heap.size w wr)
    (fun _ i _ => own.len - (intOf i).toNat)
  case atStart => exact ⟨0, .nil, r0, c0, Nat.zero_le _, rfl, rfl, by rw [X.drop_zero]; rfl, GotX.start hown0 hz0', hb0⟩
  case round =>
    clear hown0 hb0
    obtain ⟨j, y, r, c, hj, rfl, rfl, hy, hgot, hb⟩ := hrel
    have hyl : y.len = j := by
      have := congrArg X.len hy
      rw [X.len_app, X.len_drop] at this
      omega
    have HY := Lib.hid hy
    have HGt := Lib.hid hgot
    have HYL := Lib.hid hyl
    clear hgot hy hyl
    by_cases hlt : j < own.len
    · rcases hrow with h0 | ⟨b, off, rfl, hr⟩
      · omega
      obtain ⟨hck, hcn, p', n', cap1, hc, hi⟩ := base3_at (Keeps3.below hb (Nat.le_refl _)) hr hlt
      have hz := hb.size
      go_wp2_with fail
      refine (HF.out j hlt _ p' n' cap1 (hi.alloc _)).mono ?_
      rintro e w1 ⟨q1, c1, rfl, hO, hb1⟩
      obtain ⟨xs, hown, hkids⟩ := HGt.out
      have hownA : ∀ o, (w1.alloc o).ownsRow w.heap.size 35 3 (.slice r y.len c) y.len xs := fun o => ((ownsRow_later (hown.alloc _) hb1)).alloc o
      have hz1 := hb1.size
      simp only [World.size_alloc] at hz1
      have hmx : y.len + 1 ≤ maxLen := by have := HYL.out; simp only [maxLen]; omega
      have hmx1 : y.len + 1 ≤ 1000000 := by have := HYL.out; omega
      go_wp2_with (at_builtin; refine wpList_append_lies _ rfl _ _ 33 rfl w.heap.size 35 i0 (.agg #[.int .i64 0, .int .i64 0, .slice none 0 0]) 3 40 Try.underlying33 hi0 hz0 hz1' hz2 rfl (by decide) _ y.len xs rfl (hownA _) ⟨w1.heap.size, 0, none⟩ 1 1 [.int .i64 (own.gk j), .int .i64 (own.gn j), .slice q1 (own.ga j).len c1] rfl rfl (World.news_of_block (heap_new _ _)) (by simp [Value.oneCell']) (by decide) hmx (by omega) (by simp; omega) (w1.heap.size + 1) (by simp) ?_; intro g3 cp w3 hown3 hgrow hat hglt)
      have hfin := GotX.round hb hown hkids hb1 hO hown3 hgrow hat
      clear hown3 hgrow hat hownA
      have hy' : (y.snoc (own.gk j) (own.gn j) (own.ga j)).app (own.drop (j + 1)) = own := by rw [X.snoc_app, ← X.drop_cons own j hlt]; exact HY.out
      have hl' : (y.snoc (own.gk j) (own.gn j) (own.ga j)).len = y.len + 1 := X.len_snoc _ _ _ _
      have HL := Lib.hid hl'
      clear hl'
      go_roundw
      case rel => exact ⟨j + 1, _, some ⟨g3, 0, none⟩, cp, by omega, by go_num, by rw [HL.out], hy', by rw [HL.out]; exact hfin.1, hfin.2⟩
      case measure => simp [intOf]; omega
    · obtain rfl : y = own := by
        have h := HY.out
        rw [X.drop_end own j (by omega), X.app_nil] at h
        exact h
      clear HY
      go_wp2_with fail
      have hHE : Env wr := HE.out _ _ HE0.out hb
      have HE1 := Lib.hid hHE
      clear hHE
      go_loopw [7, 32] (fun v i wr => ∃ (j : Nat) (z : X) (r : Option Addr) (c : Nat), j ≤ more.len ∧ i = .int .i64 (j : Int) ∧ v = .slice r z.len c ∧ z.app ((more.drop j).map g) = tot ∧ GotX wr 35 z (.slice r z.len c) w.heap.size ∧ Below w.heap.size w wr)
        (fun _ i _ => more.len - (intOf i).toNat)
      case atStart => exact ⟨0, y, r, c, Nat.zero_le _, rfl, rfl, by rw [X.drop_zero]; exact HT.out, HGt.out, hb⟩
      case round =>
        clear hb HGt HE1
        obtain ⟨j2, z, r2, c2, hj2, rfl, rfl, hz2', hgot2, hb⟩ := hrel
        have hzl : z.len + (more.len - j2) = tot.len := by
          have := congrArg X.len hz2'
          rw [X.len_app, X.len_map, X.len_drop] at this
          omega
        have HZ := Lib.hid hz2'
        have HGt := Lib.hid hgot2
        have HZL := Lib.hid hzl
        clear hgot2 hz2' hzl
        by_cases hlt2 : j2 < more.len
        · rcases hrow' with h0 | ⟨b, off, rfl, hr⟩
          · omega
          obtain ⟨hck, hcn, p', n', cap1, hc, hi⟩ := base3_at (Keeps3.below hb (Nat.le_refl _)) hr hlt2
          have hz := hb.size
          go_wp2_with fail
          refine (HC.out j2 hlt2 _ p' n' cap1 (HE.out _ _ HE0.out (hb.alloc hz _)) (hi.alloc _)).mono ?_
          rintro e w1 ⟨q1, c1, rfl, hO, hb1⟩
          obtain ⟨xs, hown, hkids⟩ := HGt.out
          have hownA : ∀ o, (w1.alloc o).ownsRow w.heap.size 35 3 (.slice r2 z.len c2) z.len xs := fun o => ((ownsRow_later (hown.alloc _) hb1)).alloc o
          have hz1 := hb1.size
          simp only [World.size_alloc] at hz1
          have hmx : z.len + 1 ≤ maxLen := by have := HZL.out; simp only [maxLen]; omega
          have hmx1 : z.len + 1 ≤ 1000000 := by have := HZL.out; omega
          obtain ⟨kg, hkg⟩ : ∃ kg, (g (more.gk j2) (more.gn j2) (more.ga j2)).1 = kg := ⟨_, rfl⟩
          obtain ⟨ng, hng⟩ : ∃ ng, (g (more.gk j2) (more.gn j2) (more.ga j2)).2.1 = ng := ⟨_, rfl⟩
          obtain ⟨ag, hag⟩ : ∃ ag, (g (more.gk j2) (more.gn j2) (more.ga j2)).2.2 = ag := ⟨_, rfl⟩
          rw [hkg, hng, hag]
          rw [hag] at hO
          have hm := X.map_drop g more j2 hlt2
          rw [hkg, hng, hag] at hm
          have HM := Lib.hid hm
          clear hm hkg hng hag
          go_wp2_with (at_builtin; refine wpList_append_lies _ rfl _ _ 33 rfl w.heap.size 35 i0 (.agg #[.int .i64 0, .int .i64 0, .slice none 0 0]) 3 40 Try.underlying33 hi0 hz0 hz1' hz2 rfl (by decide) _ z.len xs rfl (hownA _) ⟨w1.heap.size, 0, none⟩ 1 1 [.int .i64 kg, .int .i64 ng, .slice q1 ag.len c1] rfl rfl (World.news_of_block (heap_new _ _)) (by simp [Value.oneCell']) (by decide) hmx (by omega) (by simp; omega) (w1.heap.size + 1) (by simp) ?_; intro g3 cp w3 hown3 hgrow hat hglt)
          have hfin := GotX.round hb hown hkids hb1 hO hown3 hgrow hat
          clear hown3 hgrow hat hownA
          have hy' : (z.snoc kg ng ag).app ((more.drop (j2 + 1)).map g) = tot := by rw [X.snoc_app, ← HM.out]; exact HZ.out
          have hl' : (z.snoc kg ng ag).len = z.len + 1 := X.len_snoc _ _ _ _
          have HL := Lib.hid hl'
          clear hl'
          go_roundw
          case rel => exact ⟨j2 + 1, _, some ⟨g3, 0, none⟩, cp, by omega, by go_num, by rw [HL.out], hy', by rw [HL.out]; exact hfin.1, hfin.2⟩
          case measure => simp [intOf]; omega
        · obtain rfl : z = tot := by
            have h := HZ.out
            rw [X.drop_end more j2 (by omega)] at h
            rw [← h]; exact (X.app_nil z).symm
          go_wp2_with fail
          go_ret
          obtain ⟨q', c', he, ho⟩ := HGt.out.finish
          exact ⟨q', c', by rw [← he]; rfl, ho, hb⟩

end Go.Proofs.Ytlgfaobbjnhfoaa
