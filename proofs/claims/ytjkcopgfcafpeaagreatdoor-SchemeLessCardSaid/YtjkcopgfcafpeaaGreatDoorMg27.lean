/-
  Parts of one proof, laid into one text: STermT, SLines, SGetO, SFun, SFunW, SFunN. Conditions: each part names its own.
-/
import Derived.Test.YtjkcopgfcafpeaaGreatDoorMg26
import Derived.Test.YtjkcopgfcafpeaaGreatDoorMg15
import Derived.RegionDies

/-
  The walk of term: a head and the arguments that follow. Conditions: texts of at most 65536 bytes.
-/
set_option linter.unusedSimpArgs false
set_option linter.unusedVariables false
namespace Go.Proofs.YtjkcopgfcafpeaaGreatDoor
open Go.RowKit Go.Maps

/-- where term's loop stands: what it has collected -/
structure Tt (w wr : World) (R D m1 m2 : Nat) (n1 n2 : List ByteArray) (bo : Nat) (k n : Int) (acc : X) (q : Option Addr) (c : Nat) (r : List UInt8) : Prop where
  rest : Rd wr R r
  got : GotX wr 50 acc (.slice q acc.len c) (bo + 1)
  out : wr.heap[bo]? = some (.cells #[.int .i64 k, .int .i64 n, .slice q acc.len c] 50 (0, 0))
  res : wr.heap[w.heap.size]? = some (.cells #[.int .i64 0, .int .i64 0, .slice none 0 0] 50 (0, 0))
  grown : w.grownBy wr (some R)
  env : Env w R D m1 m2 n1 n2
  ltR : R < w.heap.size
  lo : w.heap.size < bo

theorem GotX.step {wr w1 : World} {ty : TypeId} {y : X} {v : Value} {B R : Nat} (h : GotX wr ty y v B) (hR : R < B) (hg : wr.grownBy w1 (some R)) : GotX w1 ty y v B := by
  obtain ⟨xs, h1, h2⟩ := h
  refine ⟨xs, h1.kept hg ?_, (h2.keep fun k a b _ => hg.block k b (fun e => by injection e; omega)).mono (Nat.le_refl _) hg.size⟩
  cases hv : v.ownBlock with
  | none => exact Or.inl rfl
  | some g => exact Or.inr (fun e => by have := (h1.lt g hv).1; injection e; omega)

/-- one more term, behind a step in which only the reader's block turned -/
theorem GotX.push' {wr wy w3 : World} {ty : TypeId} {y : X} {B R : Nat} {v : Value} {q : Option Addr} {c hi g cap : Nat} {xs : List Value} {k n : Int} {a : X}
    (hown0 : wr.ownsRow B ty 3 v y.len xs) (hkids : KidsX wr y xs v.ownBlock B wr.heap.size) (hR : R < B)
    (hwr : ∀ j, j < wr.heap.size → j ≠ R → wy.heap[j]? = wr.heap[j]?) (hO : OwnX wy a q c wr.heap.size hi) (hlh : wr.heap.size ≤ hi) (hhi : hi ≤ wy.heap.size)
    (hown : w3.ownsRow B ty 3 (.slice (some ⟨g, 0, none⟩) (y.len + 1) cap) (y.len + 1) (xs ++ [.int .i64 k, .int .i64 n, .slice q a.len c]))
    (hgrow : wy.grownBy w3 v.ownBlock) (hat : v.ownBlock = some g ∨ g = wy.heap.size) : GotX w3 ty (y.snoc k n a) (.slice (some ⟨g, 0, none⟩) (y.len + 1) cap) B := by
  refine ⟨_, by rw [X.len_snoc]; exact hown, ?_⟩
  have hlt := hown0.lt
  have hblk : ∀ j, j < wy.heap.size → v.ownBlock ≠ some j → w3.heap[j]? = wy.heap[j]? := fun j hj hne => hgrow.block j hj (fun e => hne e.symm)
  have hO' : OwnX w3 a q c wr.heap.size hi := hO.keep fun j x y => hblk j (by omega) (fun e => by have := (hlt j e).2; omega)
  have hk0 : KidsX wy y xs v.ownBlock B wr.heap.size := hkids.keep fun j a b _ => hwr j b (by omega)
  have hk1 : KidsX w3 y xs v.ownBlock B wr.heap.size := hk0.keep fun j _ b d => hblk j (by omega) d
  have hg : ∀ b, (Value.slice (some ⟨g, 0, none⟩) (y.len + 1) cap).ownBlock = some b → b = g := by
    intro b hb; simp [Value.ownBlock] at hb; omega
  have hk2 : KidsX w3 y xs (Value.slice (some ⟨g, 0, none⟩) (y.len + 1) cap).ownBlock B wr.heap.size := by
    refine hk1.own ?_
    rcases hat with hat | hat
    · exact Or.inl (by rw [hat]; simp [Value.ownBlock])
    · exact Or.inr fun b hb => Or.inr (by have := hg b hb; omega)
  obtain ⟨o1, o2, o3, o4⟩ := hO'
  refine (KidsX.snoc o1 o2 o3 hlh o4 (Nat.le_refl _) ?_ hk2).mono (Nat.le_refl _) (Nat.le_trans hhi hgrow.size)
  intro b hb
  have := hg b hb
  subst this
  rcases hat with hat | hat
  · exact Or.inl (by have := (hlt _ hat).2; omega)
  · exact Or.inr (by omega)

section
variable {w wr w1 : World} {R D m1 m2 : Nat} {n1 n2 : List ByteArray} {bo : Nat} {k n : Int} {acc : X} {q : Option Addr} {c : Nat} {r r1 : List UInt8}

theorem Tt.step (h : Tt w wr R D m1 m2 n1 n2 bo k n acc q c r) (hg : wr.grownBy w1 (some R)) (hr : Rd w1 R r1) : Tt w w1 R D m1 m2 n1 n2 bo k n acc q c r1 := by
  have h1 := lt_of_block h.out
  have h2 := lt_of_block h.res
  have h3 := h.ltR
  have h4 := h.lo
  exact ⟨hr, h.got.step (by omega) hg, (hg.block _ h1 (fun e => by injection e; omega)).trans h.out, (hg.block _ h2 (fun e => by injection e; omega)).trans h.res, grown_tr h.grown hg, h.env, h3, h4⟩

theorem Tt.skip (h : Tt w wr R D m1 m2 n1 n2 bo k n acc q c r) (r1 : List UInt8) : Tt w (wr.setCell ⟨R, 0, none⟩ (.string ⟨r1.toArray⟩)) R D m1 m2 n1 n2 bo k n acc q c r1 :=
  h.step (grown_set0 _ _ _) (rd_set h.rest r1)

theorem Tt.drew (h : Tt w wr R D m1 m2 n1 n2 bo k n acc q c r) : Tt w wr.drew R D m1 m2 n1 n2 bo k n acc q c r :=
  h.step ⟨rfl, rfl, rfl, Nat.le_refl _, fun _ _ _ => rfl⟩ h.rest

/-- one more argument is collected: W the world ahead of its reading, W2 behind it, w3 behind the append -/
theorem Tt.push {W W2 w3 : World} {t : Int × Int × X} {q1 : Option Addr} {c1 g cp : Nat} {xs : List Value} {r2 : List UInt8} {Y : Obj} (S : Tt w W R D m1 m2 n1 n2 bo k n acc q c r)
    (hown0 : W.ownsRow (bo + 1) 50 3 (.slice q acc.len c) acc.len xs) (hkids : KidsX W acc xs (Value.slice q acc.len c).ownBlock (bo + 1) W.heap.size)
    (G : W.grownBy W2 (some R)) (hR2 : Rd W2 R r2) (O : OwnX W2 t.2.2 q1 c1 W.heap.size W2.heap.size)
    (hown : w3.ownsRow (bo + 1) 50 3 (.slice (some ⟨g, 0, none⟩) (acc.len + 1) cp) (acc.len + 1) (xs ++ [.int .i64 t.1, .int .i64 t.2.1, .slice q1 t.2.2.len c1]))
    (hgrow : (W2.alloc Y).grownBy w3 (Value.slice q acc.len c).ownBlock) (hat : (Value.slice q acc.len c).ownBlock = some g ∨ g = W2.heap.size + 1) :
    Tt w (w3.setCell ⟨bo, 2, none⟩ (.slice (some ⟨g, 0, none⟩) (acc.len + 1) cp)) R D m1 m2 n1 n2 bo k n (acc.snoc t.1 t.2.1 t.2.2) (some ⟨g, 0, none⟩) cp r2 ∧ w3.heap[bo]? = some (.cells #[.int .i64 k, .int .i64 n, .slice q acc.len c] 50 (0, 0)) := by
  have hl := S.lo
  have hRl := S.ltR
  have S2 := S.step G hR2
  have hlt := hown0.lt
  have hs2 := G.size
  have hblk : ∀ j, j < W2.heap.size → (Value.slice q acc.len c).ownBlock ≠ some j → w3.heap[j]? = W2.heap[j]? := fun j hj hn => by
    rw [hgrow.block j (by simp only [World.size_alloc]; omega) (fun e => hn e.symm), Below.heap_alloc _ _ _ hj]
  have low : ∀ j, j < bo + 1 → (Value.slice q acc.len c).ownBlock ≠ some j := fun j hj e => by have := (hlt j e).1; omega
  have o1 := lt_of_block S2.out
  have o2 := lt_of_block S2.res
  have hs3 : W2.heap.size ≤ w3.heap.size := by have := hgrow.size; simp only [World.size_alloc] at this; omega
  have hout : w3.heap[bo]? = some (.cells #[.int .i64 k, .int .i64 n, .slice q acc.len c] 50 (0, 0)) := (hblk _ o1 (low _ (by omega))).trans S2.out
  have hlen : (acc.snoc t.1 t.2.1 t.2.2).len = acc.len + 1 := X.len_snoc _ _ _ _
  have g3 : W.grownBy w3 (some R) ∨ True := Or.inr trivial
  have got := GotX.push' (wy := W2.alloc Y) (hi := W2.heap.size) hown0 hkids (show R < bo + 1 by omega) (fun j hj hn => (Below.heap_alloc _ _ _ (by omega)).trans (G.block j hj (fun e => hn (by injection e)))) (O.keep fun j _ hj => Below.heap_alloc _ _ _ hj) hs2 (by simp) hown hgrow (by simpa using hat)
  refine ⟨⟨?_, ?_, ?_, ?_, ?_, ?_, hRl, hl⟩, hout⟩
  · unfold Rd
    rw [Below.heap_setCell _ _ _ _ (show R ≠ bo by omega), hblk R (by omega) (low _ (by omega))]
    exact hR2
  · rw [hlen]
    exact got.set (Nat.lt_succ_self bo) _
  · rw [hlen]
    exact field_set hout
  · rw [Below.heap_setCell _ _ _ _ (show w.heap.size ≠ bo by omega), hblk _ o2 (low _ (by omega))]
    exact S2.res
  · have g1 := S2.grown
    refine ⟨hgrow.os.trans g1.os, hgrow.tape.trans g1.tape, hgrow.output.trans g1.output, ?_, fun i hi hn => ?_⟩
    · have := g1.size; simp only [World.setCell, Array.size_modify]; omega
    · rw [Below.heap_setCell _ _ _ _ (show i ≠ bo by omega), hblk i (by have := g1.size; omega) (low i (by omega))]
      exact g1.block i hi hn
  · exact S.env

theorem Tt.envr (h : Tt w wr R D m1 m2 n1 n2 bo k n acc q c r) : Env wr R D m1 m2 n1 n2 := h.env.step h.grown

end

theorem rdA_none {S F : List ByteArray} {s : List UInt8} (h : rdArg S F s = none) : rdA S F (32 :: s) = none := by rw [rdA_arg, h]; rfl

theorem rdA_some {S F : List ByteArray} {s r : List UInt8} {t : Int × Int × X} (h : rdArg S F s = some (t, r)) : rdA S F (32 :: s) = (rdA S F r).map fun y => (X.cons t.1 t.2.1 t.2.2 y.1, y.2) := by rw [rdA_arg, h]; rfl

theorem rdA_push {S F : List ByteArray} {s r r4 : List UInt8} {acc a : X} {k n : Int} (hrd : rdA S F s = (rdA S F r).map fun x => (acc.app x.1, x.2)) (h1 : rdA S F r = (rdA S F r4).map fun x => (X.cons k n a x.1, x.2)) :
    rdA S F s = (rdA S F r4).map fun x => ((acc.snoc k n a).app x.1, x.2) := by
  rw [hrd, h1, Option.map_map]
  congr 1
  funext x
  simp [X.snoc_app]

set_option maxRecDepth 100000 in
set_option maxHeartbeats 4000000 in
theorem term_any (N : Nat) : ∀ (R D m1 m2 : Nat) (n1 n2 : List ByteArray) (s : List UInt8) (w : World), s.length < N → s.length ≤ 65536 → Rd w R s → Env w R D m1 m2 n1 n2 →
    Calls Tryz.prog 102 #[.pointer (some ⟨D, 0, none⟩), .pointer (some ⟨R, 0, none⟩)] w (TermAny (rdT n1 n2 s) w R) := by
  obtain ⟨i0, hi0, hz0, hz1', hz2⟩ := info_parts infoX
  induction N with
  | zero => intro R D m1 m2 n1 n2 s w h; omega
  | succ N ih =>
    intro R D m1 m2 n1 n2 s w hN hs hr hE
    have IH := Lib.hid (ih R D m1 m2 n1 n2)
    clear ih
    have hlt := hE.lt
    obtain ⟨f, hf⟩ : ∃ f, rdT n1 n2 s = f := ⟨_, rfl⟩
    rw [hf]
    have HF := Lib.hid hf.symm
    clear hf
    have c1 := Lib.hid fun W hr h => dhead_env R D m1 m2 n1 n2 s hs W hr h
    have h0 := alloc_kept hr (.cells #[.int .i64 0, .int .i64 0, .slice none 0 0] 50)
    have hb := heap_new w (.cells #[.int .i64 0, .int .i64 0, .slice none 0 0] 50)
    have hE0 := hE.alloc (.cells #[.int .i64 0, .int .i64 0, .slice none 0 0] 50)
    have g0 : w.grownBy (w.alloc (.cells #[.int .i64 0, .int .i64 0, .slice none 0 0] 50)) (some R) := World.grownBy_alloc w _ _
    have HE := Lib.hid hE
    clear hr hE
    go_enter Tryz.func102, Tryz.ntmps102
    go_wp2_with fail
    refine (c1.out _ h0 hE0).mono ?_
    rintro e w1 ⟨hy, hn⟩
    cases hh : rdHead n1 n2 s with
    | none =>
      obtain ⟨rfl, g2⟩ := hn hh
      have HH := Lib.hid hh
      clear hy hn c1 hh
      go_wp2_with fail
      exact ⟨rfl, termAny_none (by rw [HF.out]; unfold rdT; rw [HH.out]; rfl) ⟨rfl, grown_tr g0 g2⟩⟩
    | some x =>
      obtain ⟨⟨k, n⟩, r0⟩ := x
      obtain ⟨rfl, r2, g2⟩ := hy _ _ hh
      have hrl := rdHead_lt hh
      have hf2 : f = (rdA n1 n2 r0).map fun a => ((k, n, a.1), a.2) := by rw [HF.out]; unfold rdT; rw [hh]; rfl
      have HF2 := Lib.hid hf2
      clear hy hn c1 hh hf2 HF
      have b2 : w1.heap[w.heap.size]? = some (.cells #[.int .i64 0, .int .i64 0, .slice none 0 0] 50 (0, 0)) := by
        rw [g2.block _ (by simp) (fun e => by injection e; omega)]; exact hb
      have hlo := lt_of_block b2
      have g3 := grown_tr g0 g2
      have hst : Tt w (w1.alloc (.cells #[.int .i64 k, .int .i64 n, .slice none 0 0] 50)) R D m1 m2 n1 n2 w1.heap.size k n .nil none 0 r0 :=
        ⟨alloc_kept r2 _, GotX.start (World.ownsRow_nil _ _ _ _) (by simp), heap_new _ _, alloc_kept b2 _, grown_new g3 _, HE.out, hlt, hlo⟩
      have HST := Lib.hid hst
      clear hst g3 g2 g0 r2 b2 h0 hb hE0 HE
      go_wp2_with fail
      generalize w1.heap.size = bo at HST hlo ⊢
      go_loopw [9] (fun _ wr => ∃ (acc : X) (q : Option Addr) (c : Nat) (r : List UInt8), r.length + acc.len ≤ s.length ∧ rdA n1 n2 r0 = (rdA n1 n2 r).map (fun x => (acc.app x.1, x.2)) ∧ Tt w wr R D m1 m2 n1 n2 bo k n acc q c r)
        (fun _ wr => restLen wr R)
      case atStart => exact ⟨.nil, none, 0, r0, by simp only [X.len]; omega, by cases rdA n1 n2 r0 <;> rfl, HST.out⟩
      case round =>
        clear HST
        obtain ⟨acc, q, c, r, hle, hrd, hT⟩ := hrel
        have HD := Lib.hid hrd
        clear hrd
        by_cases p32 : pre [32] r = true
        · obtain ⟨r1, rfl⟩ := (pre_iff _ _).1 p32
          simp only [List.singleton_append] at hT HD hle p32 ⊢
          simp only [List.length_cons] at hle
          have c2 := Lib.hid fun W hr => skip_yes R ⟨#[32]⟩ (32 :: r1) [32] rfl W hr (by rfl)
          clear p32
          go_wp2_with fail
          refine (c2.out _ hT.rest).mono ?_
          rintro e w2 ⟨rfl, hw2⟩
          have S2 : Tt w w2 R D m1 m2 n1 n2 bo k n acc q c r1 := by rw [← hw2]; exact hT.skip _
          clear hw2
          have hrest : restLen w2 R = r1.length := restLen_rd S2.rest
          have hrest0 : restLen wr R = r1.length + 1 := restLen_rd hT.rest
          have HR := Lib.hid hrest
          have HR0 := Lib.hid hrest0
          have SD := S2.drew
          have HA := Lib.hid (fun W h1 h2 => arg_any R D m1 m2 n1 n2 r1 W h1 h2 (by omega) fun s' W' h3 h4 h5 => IH.out s' W' (by omega) (by omega) h4 h5)
          obtain ⟨⟨y1, y2, y3⟩, z1, z2, z3⟩ := term_box S2.out
          have HS2 := Lib.hid S2
          have HSD := Lib.hid SD
          clear hrest hrest0 S2 hT SD c2
          cases hh : rdArg n1 n2 r1 with
          | none =>
            have HH := Lib.hid hh
            clear hh
            go_upto_region 3 with fail
            go_region_dies
            all_goals
              go_wp2_with fail
              refine (HA.out _ HSD.out.rest HSD.out.envr).mono ?_
              rintro e w3 ⟨_, hn⟩
              obtain ⟨rfl, g3⟩ := hn HH.out
              go_wp2_with fail
              exact ⟨rfl, termAny_none (by rw [HF2.out, HD.out, rdA_none HH.out]; rfl) ⟨rfl, grown_tr HSD.out.grown g3⟩⟩
          | some x =>
            obtain ⟨⟨ka, na, a⟩, r2⟩ := x
            have hal := rdArg_lt hh
            dsimp only at hal
            have HH := Lib.hid hh
            clear hh
            obtain ⟨xs, hown, hkids⟩ := HSD.out.got
            have hlt2 := lt_of_block HSD.out.out
            have hmx : acc.len + 1 ≤ maxLen := by simp only [maxLen]; omega
            have hby : (acc.len + 1) * 40 ≤ 140737488355328 := by omega
            have HW := Lib.hid hown
            clear hown
            go_upto_region 3 with fail
            go_region_law (first
              | (go_simp; go_at_call 130; refine (HA.out _ HSD.out.rest HSD.out.envr).mono ?_; rintro e w3 ⟨hy, _⟩; obtain ⟨q1, c1, rfl, r3, hO, g3⟩ := hy _ _ HH.out; have S3 := HSD.out.step g3 r3; obtain ⟨⟨ca1, ca2, ca3⟩, cb1, cb2, cb3⟩ := term_box S3.out; have oc3 := fun o => (term_box (alloc_kept S3.out o)).1.2.2; have hownA := fun o => (HW.out.kept g3 (by cases q with | none => exact Or.inl rfl | some a => exact Or.inr (fun e => by have := (HW.out.lt _ rfl).1; have := HSD.out.ltR; have := HSD.out.lo; simp [Value.ownBlock] at e; simp [Value.ownBlock] at *; omega))).alloc o; have hz3 := lt_of_block S3.out)
              | (refine step_append_lies (w3.alloc (.cells #[.int .i64 ka, .int .i64 na, .slice q1 a.len c1] 50)) rfl (.tmp 12) (.tmp 16) 48 rfl (bo + 1) 50 i0 (.agg #[.int .i64 0, .int .i64 0, .slice none 0 0]) 3 40 ?_ ?_ ?_ ?_ ?_ ?_ ?_ (.slice q acc.len c) acc.len xs ?_ ?_ ⟨w3.heap.size, 0, none⟩ 1 1 [.int .i64 ka, .int .i64 na, .slice q1 a.len c1] ?_ ?_ ?_ ?_ ?_ ?_ ?_ ?_ (w3.heap.size+1) ?_ ?_; exact Tryz.underlying48; exact hi0; exact hz0; exact hz1'; exact hz2; rfl; exact (by decide); rfl; exact hownA _; rfl; rfl; exact World.news_of_block (heap_new _ _); exact one_three _ _ _ _ _; exact Nat.one_pos; exact hmx; exact hby; exact base_le _ hz3; exact size_new _ _; intro g cp w9 hown3 hgrow hat hglt; obtain ⟨SP, hh3⟩ := Tt.push HSD.out HW.out hkids g3 r3 hO hown3 hgrow hat; obtain ⟨⟨o1, o2, o3⟩, o4, o5, o6⟩ := term_box hh3))
            all_goals go_wp2_with fail
            all_goals
              have hq := rdA_push HD.out (rdA_some HH.out)
              have hm1 := restLen_rd SP.rest
              have hln := X.len_snoc acc ka na a
              have HQ := Lib.hid hq
              have HM := Lib.hid hm1
              have HLn := Lib.hid hln
              clear hq hm1 hln
              go_roundw
              case rel => exact ⟨acc.snoc ka na a, some ⟨g, 0, none⟩, cp, r2, by rw [HLn.out]; omega, HQ.out, SP⟩
              case measure => rw [HR0.out]; exact Nat.lt_of_le_of_lt (Nat.le_of_eq HM.out) (by omega)
        · have c2 := Lib.hid fun W hr => skip_no R ⟨#[32]⟩ r [32] rfl W hr (by simpa using p32)
          have hend : f = some ((k, n, acc), r) := by
            rw [HF2.out, HD.out, rdA_end (by simpa using p32)]
            simp [X.app_nil]
          have HEn := Lib.hid hend
          clear p32 hend
          go_wp2_with fail
          refine (c2.out _ hT.rest).mono ?_
          rintro e w2 ⟨rfl, hw2⟩
          have S2 : Tt w w2 R D m1 m2 n1 n2 bo k n acc q c r := by rw [← hw2]; exact hT.skip _
          clear hw2 hT c2
          obtain ⟨⟨y1, y2, y3⟩, z1, z2, z3⟩ := term_box S2.out
          obtain ⟨⟨f11, f12, f13⟩, f21, f22, f23⟩ := term_box S2.res
          have HS2 := Lib.hid S2
          clear S2
          go_wp2_with fail
          have hlw := HS2.out.ltR
          have hlo2 := HS2.out.lo
          refine bodyPost_ret (v := .agg #[.int .i64 k, .int .i64 n, .slice q acc.len c]) (by simp [results, Tryz.results102, go_sem, f11, f12, f13]) rfl (termAny_some HEn.out ?_)
          obtain ⟨q', c', he, hO⟩ := HS2.out.got.finish
          obtain ⟨rfl, rfl⟩ : q = q' ∧ c = c' := by simpa using he
          refine ⟨q, c, rfl, (put3_far (show R ≠ w.heap.size by omega)).trans HS2.out.rest, (put3_own hO (by omega)).mono (by omega) ?_, put3_grown HS2.out.grown (Nat.le_refl _)⟩
          have := put3_size w2 w.heap.size (.int .i64 k) (.int .i64 n) (.slice q acc.len c)
          unfold put3 at this
          rw [this]
          exact Nat.le_refl _

end Go.Proofs.YtjkcopgfcafpeaaGreatDoor

/-
  The walk of symbol, which reads a line of a symbol into a draft. Conditions: texts of at most 65536 bytes.
-/
set_option linter.unusedSimpArgs false
set_option linter.unusedVariables false
namespace Go.Proofs.YtjkcopgfcafpeaaGreatDoor
open Go.RowKit Go.Maps

/-- below B all but the reader's block is as it was -/
structure Chg (B R : Nat) (w w' : World) : Prop where
  os : w'.os = w.os
  tape : w'.tape = w.tape
  output : w'.output = w.output
  size : w.heap.size ≤ w'.heap.size
  block : ∀ k, k < B → k ≠ R → w'.heap[k]? = w.heap[k]?

theorem Chg.refl (B R : Nat) (w : World) : Chg B R w w := ⟨rfl, rfl, rfl, Nat.le_refl _, fun _ _ _ => rfl⟩

theorem Chg.trans {B R : Nat} {a b c : World} (h : Chg B R a b) (k : Chg B R b c) : Chg B R a c :=
  ⟨k.os.trans h.os, k.tape.trans h.tape, k.output.trans h.output, Nat.le_trans h.size k.size, fun i hi hn => (k.block i hi hn).trans (h.block i hi hn)⟩

theorem Chg.grownR {B R : Nat} {w w' : World} (hg : w.grownBy w' (some R)) (hB : B ≤ w.heap.size) : Chg B R w w' :=
  ⟨hg.os, hg.tape, hg.output, hg.size, fun k hk hn => hg.block k (by omega) (fun e => hn (by injection e))⟩

theorem Chg.grown {B R : Nat} {w w' : World} {row : Option Nat} (hg : w.grownBy w' row) (hB : B ≤ w.heap.size) (hr : ∀ k, row = some k → B ≤ k) : Chg B R w w' :=
  ⟨hg.os, hg.tape, hg.output, hg.size, fun k hk _ => hg.block k (by omega) (fun e => by have := hr k e.symm; omega)⟩

theorem Chg.set {B R : Nat} {a w : World} (h : Chg B R a w) {b o : Nat} (hb : B ≤ b) (v : Value) : Chg B R a (w.setCell ⟨b, o, none⟩ v) :=
  h.trans ⟨rfl, rfl, rfl, by simp [World.setCell], fun k hk _ => Below.heap_setCell _ _ _ _ (show k ≠ b by omega)⟩

theorem Chg.alloc {B R : Nat} {a w : World} (h : Chg B R a w) (hB : B ≤ w.heap.size) (o : Obj) : Chg B R a (w.alloc o) :=
  h.trans ⟨rfl, rfl, rfl, by simp, fun k hk _ => Below.heap_alloc _ _ _ (by omega)⟩

theorem Gl.chg {w w' : World} {B R : Nat} (h : Gl w) (h6 : 6 ≤ R) (hR : R < B) (hc : Chg B R w w') : Gl w' := h.keep fun k hk => hc.block k (by omega) (by omega)

theorem infoSy : (Tryz.prog.info? 64).map (fun i => (i.zero, i.size, i.bytes)) = some (some (.agg #[.string ⟨#[]⟩, .int .i64 0]), 2, 24) := by kernel_rfl

/-- the cells of a draft's box -/
theorem DS.cells {w : World} {B : Nat} {p : Pos} {n1 n2 : List ByteArray} {sy : List (ByteArray × Int)} {L : List FL} {b : List (Int × Int × X)} {bs : List (List UInt8)} {bad : Bool} (h : DS w B p n1 n2 sy L b bs bad) :
    (w.cell? ⟨p.D, 0, none⟩ = some (.slice p.ps sy.length p.cs) ∧ w.cell? ⟨p.D, 1, none⟩ = some (.slice p.pf L.length p.cf) ∧ w.cell? ⟨p.D, 2, none⟩ = some (.slice p.pb bs.length p.cb) ∧ w.cell? ⟨p.D, 3, none⟩ = some (.bool bad) ∧ w.cell? ⟨p.D, 4, none⟩ = some (.map (some p.m1)) ∧ w.cell? ⟨p.D, 5, none⟩ = some (.map (some p.m2))) ∧
    (w.frozen? ⟨p.D, 0, none⟩ = false ∧ w.frozen? ⟨p.D, 1, none⟩ = false ∧ w.frozen? ⟨p.D, 2, none⟩ = false ∧ w.frozen? ⟨p.D, 3, none⟩ = false) := by
  obtain ⟨h1, h2, h3, h4, h5, h6, h7⟩ := six_cells h.box
  exact ⟨⟨h1, h2, h3, h4, h5, h6⟩, h7 0 (by decide), h7 1 (by decide), h7 2 (by decide), h7 3 (by decide)⟩

/-- a draft between two lines: p says where it lies -/
def DrL (w : World) (B : Nat) (p : Pos) (sy : List (ByteArray × Int)) (L : List FL) (bad : Bool) : Prop :=
  DS w B p (sy.map (·.1)) (L.map (·.nm)) sy L [] (L.map (·.bd)) bad

def Pos.same (p p' : Pos) : Prop := p'.D = p.D ∧ p'.m1 = p.m1 ∧ p'.m2 = p.m2

theorem panic_any {w : World} : ([{ v := .iface 26 (.int .i64 4), recovered := false }] : List PanicEntry) = [{ v := .iface 26 (.int .i64 4), recovered := false }] := rfl

theorem drL_snoc {w : World} {B : Nat} {p : Pos} {sy : List (ByteArray × Int)} {L : List FL} {bad : Bool} {n : ByteArray} {k : Int} (h : DS w B p (sy.map (·.1) ++ [n]) (L.map (·.nm)) (sy ++ [(n, k)]) L [] (L.map (·.bd)) bad) : DrL w B p (sy ++ [(n, k)]) L bad := by
  unfold DrL
  rw [List.map_append]
  exact h

/-- what reading a line of a symbol does -/
def SymOk (w : World) (B R : Nat) (p : Pos) (sy : List (ByteArray × Int)) (L : List FL) (bad : Bool) (x : ByteArray × Int) (r : List UInt8) (e : Ending) (w' : World) : Prop :=
  ∃ p', e = .returned (.tuple #[]) ∧ Rd w' R r ∧ DrL w' B p' (sy ++ [x]) L bad ∧ p.same p' ∧ Chg B R w w'

def Bad (w : World) (B R : Nat) (e : Ending) (w' : World) : Prop := e = .panicked [{ v := .iface 26 (.int .i64 4), recovered := false }] ∧ Chg B R w w'

theorem one_sy (n : ByteArray) (k : Int) : ∀ u ∈ [Value.string n, .int .i64 k], u.oneCell' = true := by simp [Value.oneCell']

set_option maxRecDepth 100000 in
set_option maxHeartbeats 4000000 in
theorem symbol_yes (B R : Nat) (p : Pos) (sy : List (ByteArray × Int)) (L : List FL) (bad : Bool) (s r : List UInt8) (x : ByteArray × Int) (w : World) (hr : Rd w R s) (hD : DrL w B p sy L bad) (hR : R < B) (hs : s.length ≤ 65536) (hle : sy.length ≤ 65536) (h : rdSym s = some (x, r)) :
    Calls Tryz.prog 98 #[.pointer (some ⟨p.D, 0, none⟩), .pointer (some ⟨R, 0, none⟩)] w (SymOk w B R p sy L bad x r) := by
  obtain ⟨i0, hi0, hz0, hz1', hz2⟩ := info_parts infoSy
  unfold rdSym at h
  simp only [Option.bind_eq_some_iff, Option.map_eq_some_iff] at h
  obtain ⟨⟨n, r0⟩, h0, r1, h1, ⟨k, r2⟩, h2, r3, h3, h4⟩ := h
  simp only [Prod.mk.injEq] at h4
  obtain ⟨rfl, rfl⟩ := h4
  obtain ⟨l0, l24, _⟩ := rdName_lt h0
  have l1 := need_le h1
  have l2 := rdNum_lt h2
  simp only at l0 l1 l2 h1 h2 h3
  have c0 := Lib.hid fun W hr => rname_yes R s r0 n W hr hs h0
  unfold need at h1 h3
  split at h1
  case isFalse => cases h1
  rename_i p1
  split at h3
  case isFalse => cases h3
  rename_i p3
  simp only [Option.some.injEq] at h1 h3
  have c1 := Lib.hid fun W hr => need_yes R ⟨#[32]⟩ r0 [32] rfl W hr p1
  rw [h1] at c1
  have c2 := Lib.hid fun W hr => rnum_yes R r1 r2 k W hr (by omega) h2
  have c3 := Lib.hid fun W hr => need_yes R ⟨#[10]⟩ r2 [10] rfl W hr p3
  rw [h3] at c3
  have c4 := Lib.hid fun W hm => enter_any p.m1 (sy.map (·.1)) n W hm (by simp; omega) l24
  have hB := (hD.lt (Or.inl rfl)).1
  have hBs := (hD.lt (Or.inl rfl)).2
  have HD := Lib.hid hD
  have HR := Lib.hid hr
  clear hr hD h0 h1 h2 h3 p1 p3
  go_enter Tryz.func98, Tryz.ntmps98
  go_wp2_with fail
  refine (c0.out _ HR.out).mono ?_
  rintro e w1 ⟨rfl, q1, g1⟩
  go_wp2_with fail
  refine (c1.out _ q1).mono ?_
  rintro e w2 ⟨rfl, hw2⟩
  have q2 : Rd w2 R r1 := by rw [← hw2]; exact rd_set q1 _
  have g2 : w.grownBy w2 (some R) := by rw [← hw2]; exact grown_set g1 _
  clear hw2 q1 g1 c0 c1 HR
  go_wp2_with fail
  refine (c2.out _ q2).mono ?_
  rintro e w3 ⟨rfl, q3, g3⟩
  go_wp2_with fail
  refine (c3.out _ q3).mono ?_
  rintro e w4 ⟨rfl, hw4⟩
  have q4 : Rd w4 R r3 := by rw [← hw4]; exact rd_set q3 _
  have g4 : w.grownBy w4 (some R) := by rw [← hw4]; exact grown_set (grown_tr g2 g3) _
  have D4 : DrL w4 B p sy L bad := HD.out.step hR g4
  have K4 := Chg.grownR (B := B) g4 (by omega)
  clear hw4 q3 g3 q2 g2 c2 c3 g4
  have HD4 := Lib.hid D4
  have HK4 := Lib.hid K4
  have HQ4 := Lib.hid q4
  have DD : DrL w4.drew B p sy L bad := D4.keep (fun _ _ _ => rfl) (Nat.le_refl _)
  obtain ⟨⟨y0, y1, y2, y3, y4, y5⟩, z0, z1, z2, z3⟩ := DD.cells
  have HDD := Lib.hid DD
  have hlen : (sy.map (·.1)).length = sy.length := by simp
  rw [hlen] at c4
  clear D4 K4 q4 DD hlen
  go_upto_region 4 with fail
  go_region_with ((go_at_call 125; refine (c4.out _ HDD.out.map1).mono ?_; rintro e w5 ⟨rfl, hm5, hg5⟩))
  all_goals
    have D5 := DS.enter1 HDD.out hm5 hg5
    have K5 : Chg B R w w5 := (HK4.out.trans ⟨rfl, rfl, rfl, Nat.le_refl _, fun _ _ _ => rfl⟩ : Chg B R w w4.drew).trans (Chg.grown hg5 (by have := (HDD.out.lt (Or.inl rfl)); omega) fun j hj => by injection hj with hj; rw [← hj]; exact HDD.out.ge1)
    have q5 : Rd w5 R r3 := (hg5.block R (lt_of_block HQ4.out) (fun e => by injection e with e; have := HDD.out.ge1; omega)).trans HQ4.out
    clear y0 y1 y2 y3 y4 y5 z0 z1 z2 z3 hm5 hg5 c4
    obtain ⟨⟨y0, y1, y2, y3, y4, y5⟩, z0, z1, z2, z3⟩ := D5.cells
    have hown := D5.rowS
    have hmx : sy.length + 1 ≤ maxLen := by simp only [maxLen]; omega
    have hby : (sy.length + 1) * 24 ≤ 140737488355328 := by omega
    have hBw : B ≤ w5.heap.size := by have := D5.lt (Or.inl rfl); omega
    have hne : ∀ g, (Value.slice p.ps sy.length p.cs).ownBlock = some g → g ≠ R := fun g e => by have := (hown.lt g e).1; omega
    have HD5 := Lib.hid D5
    have HK5 := Lib.hid K5
    have HQ5 := Lib.hid q5
    clear D5 K5 q5 HQ4 HK4 HDD HD4
    go_wp2_with (at_builtin; refine wpList_append_lies _ rfl _ _ 22 rfl B 64 i0 (.agg #[.string ⟨#[]⟩, .int .i64 0]) 2 24 Tryz.underlying22 hi0 hz0 hz1' hz2 rfl (by decide) (.slice p.ps sy.length p.cs) sy.length _ rfl (hown.alloc _) ⟨w5.heap.size, 0, none⟩ 1 1 [.string n, .int .i64 k] rfl rfl (World.news_of_block (heap_new _ _)) (one_sy _ _) Nat.one_pos hmx hby (base_le _ hBw) (w5.heap.size + 1) (size_new _ _) ?_; intro g cp w9 hown3 hgrow hat hglt; obtain ⟨SP, hmid⟩ := DS.pushS (x := (n, k)) HD5.out hown3 hgrow hat; obtain ⟨m0, m1, m2, m3, m4, m5, m6⟩ := six_cells (hmid.trans HD5.out.box); have m7 := m6 0 (by decide); clear m6)
    go_end0
    refine ⟨_, rfl, ?_, drL_snoc SP, ⟨rfl, rfl, rfl⟩, ?_⟩
    · have hRw := lt_of_block HQ5.out
      unfold Rd
      rw [Below.heap_setCell _ _ _ _ (show R ≠ p.D by omega), hgrow.block R (by simp only [World.size_alloc]; omega) (fun e => hne R e.symm rfl), Below.heap_alloc _ _ _ hRw]
      exact HQ5.out
    · exact ((HK5.out.alloc hBw _).trans (Chg.grown hgrow (base_le _ hBw) fun j hj => (hown.lt j hj).1)).set hB _

end Go.Proofs.YtjkcopgfcafpeaaGreatDoor

/-
  What sorts.Get returns lies in memory of its own; the walk of symbol where a line is none. Conditions: texts of at most 65536 bytes.
-/
set_option linter.unusedSimpArgs false
set_option linter.unusedVariables false
namespace Go.Proofs.YtjkcopgfcafpeaaGreatDoor
open Go.RowKit Go.Maps

def GetOwn (w : World) (t : T) (k : Int) (e : Ending) (w' : World) : Prop :=
  ∃ (q : Option Addr) (c : Nat), e = .returned (.tuple #[.agg #[.slice q t.len c], .int .i64 k]) ∧ Own w' t q c w.heap.size w'.heap.size ∧ Below w.heap.size w w'

theorem getPost_nil {w w' : World} {k : Int} {e : Ending} (h : GetPost w .nil k e w') : GetOwn w .nil k e w' := by
  obtain ⟨q, c, h1, h2, h3⟩ := h
  obtain ⟨h4, h5, h6, h7, h8⟩ := h2
  exact ⟨q, c, h1, ⟨h5, h6, h7, Or.inl rfl⟩, h3⟩

set_option maxHeartbeats 800000 in
theorem getown_ok (s : List UInt8) (t : T) (hs : s.length ≤ 65536) (h : rd s = some (t, [])) (hv : t.valid = true) (w : World) :
    Calls Tryz.prog 126 #[.string ⟨s.toArray⟩] w (GetOwn w t 0) := by
  have hd : ¬ ((65536 : Int) < (s.length : Int)) := by omega
  have HR := Lib.hid fun w => read_ok s t w hs h
  have HC := Lib.hid fun w p n cap his => check_yes t w p n cap his hv
  clear h hv
  go_enter Tryz.func126, Tryz.ntmps126
  go_wp2_with fail
  refine (HR.out _).mono ?_
  rintro e w1 ⟨q, c, rfl, hO, hb1⟩
  have hz := hb1.size
  simp only [World.size_alloc] at hz hO
  have his := hO.isT.alloc (.cells #[.slice q t.len c] 47)
  have h0 := alloc_kept (res_later hb1) (.cells #[.slice q t.len c] 47)
  go_wp2_with fail
  refine (HC.out _ _ _ _ his).mono ?_
  rintro e w2 ⟨rfl, hb2⟩
  have h1 := kept_of_below hb2 h0
  have h2 := kept_of_below hb2 (heap_new w1 (.cells #[.slice q t.len c] 47))
  have hO2 : Own w2 t q c (w.heap.size + 1) w1.heap.size := (hO.keep (w' := w1.alloc (.cells #[.slice q t.len c] 47)) fun k _ hk => Below.heap_alloc _ _ _ hk).keep fun k _ hk => hb2.block k (by simp; omega)
  have k0 := cell_of_one h1
  have k1 := free_of_one h1
  have k2 := cell_of_one h2
  have hz2 := hb2.size
  simp only [World.size_alloc] at hz2
  go_wp2_with fail
  refine bodyPost_ret (v := .tuple #[.agg #[.slice q t.len c], .int .i64 0]) (by simp [results, Tryz.results126, go_sem, k0]) rfl ⟨q, c, rfl, ?_, ((below_call hb1).trans ((below_call hb2).mono (by omega))).setCell (Nat.le_refl _) _⟩
  have := hO2.set (a := ⟨w.heap.size, 0, none⟩) (show w.heap.size < w.heap.size + 1 by omega) (.slice q t.len c)
  exact this.mono (by omega) (by simp [World.setCell]; omega)

theorem getown_any (s : List UInt8) (hs : s.length ≤ 65536) (w : World) : Calls Tryz.prog 126 #[.string ⟨s.toArray⟩] w (GetOwn w (ansT s) (ansE s)) := by
  by_cases h : ∃ t, rd s = some (t, []) ∧ t.valid = true
  · obtain ⟨t, h, hv⟩ := h
    rw [show ansT s = t by simp [ansT, hs, h, hv], show ansE s = 0 by simp [ansE, hs, h, T.oE, hv]]
    exact getown_ok s t hs h hv w
  · have e1 : ansT s = .nil := by
      unfold ansT
      rw [if_pos hs]
      split
      · rename_i t he
        rw [if_neg (fun hv => h ⟨t, he, hv⟩)]
      · rfl
    have := get_any s w
    rw [e1] at this ⊢
    exact this.mono fun e w' h => getPost_nil h

set_option maxHeartbeats 4000000 in
theorem symbol_no (B R : Nat) (p : Pos) (s : List UInt8) (w : World) (hr : Rd w R s) (hg : Gl w) (h6 : 6 ≤ R) (hB : B ≤ w.heap.size) (hR : R < B) (hs : s.length ≤ 65536) (h : rdSym s = none) :
    Calls Tryz.prog 98 #[.pointer (some ⟨p.D, 0, none⟩), .pointer (some ⟨R, 0, none⟩)] w (Bad w B R) := by
  have HR := Lib.hid hr
  have HG := Lib.hid hg
  have hRw := lt_of_block hr
  unfold rdSym at h
  cases h0 : rdName s with
  | none =>
    have c0 := Lib.hid fun W hr => rname_no R s W hr hs h0
    clear hr hg h h0
    go_enter Tryz.func98, Tryz.ntmps98
    go_wp2_with fail
    refine (c0.out _ HR.out).mono ?_
    rintro e w1 ⟨rfl, g1⟩
    go_wp2_with fail
    exact ⟨rfl, rfl, Chg.grownR g1 hB⟩
  | some x =>
    obtain ⟨n, r0⟩ := x
    rw [h0, Option.bind_some] at h
    have l0 := (rdName_lt h0).1
    have c0 := Lib.hid fun W hr => rname_yes R s r0 n W hr hs h0
    simp only at h
    clear h0
    cases h1 : need [32] r0 with
    | none =>
      have p1 : pre [32] r0 = false := by
        unfold need at h1
        split at h1
        · cases h1
        · rename_i hp; simpa using hp
      have c1 := Lib.hid fun W hr => need_no R ⟨#[32]⟩ r0 [32] rfl W hr p1
      clear hr hg h h1 p1
      go_enter Tryz.func98, Tryz.ntmps98
      go_wp2_with fail
      refine (c0.out _ HR.out).mono ?_
      rintro e w1 ⟨rfl, q1, g1⟩
      go_wp2_with fail
      refine (c1.out _ q1).mono ?_
      rintro e w2 ⟨rfl, hw2⟩
      have g2 : w.grownBy w2 (some R) := by rw [← hw2]; exact grown_set g1 _
      clear hw2
      go_wp2_with fail
      exact ⟨rfl, rfl, Chg.grownR g2 hB⟩
    | some r1 =>
      rw [h1, Option.bind_some] at h
      have l1 := need_le h1
      have p1 : pre [32] r0 = true ∧ r0.drop ([32] : List UInt8).length = r1 := by
        unfold need at h1
        split at h1
        · rename_i hp; exact ⟨hp, by simpa using h1⟩
        · cases h1
      have c1 := Lib.hid fun W hr => need_yes R ⟨#[32]⟩ r0 [32] rfl W hr p1.1
      rw [p1.2] at c1
      clear h1 p1
      cases h2 : rdNum r1 with
      | none =>
        have c2 := Lib.hid fun W hr hg => rnum_no R r1 W hr hg h6 (by omega) h2
        clear hr hg h h2
        go_enter Tryz.func98, Tryz.ntmps98
        go_wp2_with fail
        refine (c0.out _ HR.out).mono ?_
        rintro e w1 ⟨rfl, q1, g1⟩
        go_wp2_with fail
        refine (c1.out _ q1).mono ?_
        rintro e w2 ⟨rfl, hw2⟩
        have q2 : Rd w2 R r1 := by rw [← hw2]; exact rd_set q1 _
        have g2 : w.grownBy w2 (some R) := by rw [← hw2]; exact grown_set g1 _
        have gl2 := HG.out.step h6 g2 (by omega)
        clear hw2 q1 g1 c0 c1
        go_wp2_with fail
        refine (c2.out _ q2 gl2).mono ?_
        rintro e w3 ⟨rfl, g3⟩
        go_wp2_with fail
        exact ⟨rfl, rfl, Chg.grownR (grown_tr g2 g3) hB⟩
      | some x =>
        obtain ⟨k, r2⟩ := x
        rw [h2, Option.bind_some] at h
        have l2 := rdNum_lt h2
        have c2 := Lib.hid fun W hr => rnum_yes R r1 r2 k W hr (by omega) h2
        clear h2
        have p3 : pre [10] r2 = false := by
          rw [Option.map_eq_none_iff] at h
          simp only at h
          unfold need at h
          split at h
          · cases h
          · rename_i hp; simpa using hp
        have c3 := Lib.hid fun W hr => need_no R ⟨#[10]⟩ r2 [10] rfl W hr p3
        clear hr hg h p3
        go_enter Tryz.func98, Tryz.ntmps98
        go_wp2_with fail
        refine (c0.out _ HR.out).mono ?_
        rintro e w1 ⟨rfl, q1, g1⟩
        go_wp2_with fail
        refine (c1.out _ q1).mono ?_
        rintro e w2 ⟨rfl, hw2⟩
        have q2 : Rd w2 R r1 := by rw [← hw2]; exact rd_set q1 _
        have g2 : w.grownBy w2 (some R) := by rw [← hw2]; exact grown_set g1 _
        clear hw2 q1 g1 c0 c1
        go_wp2_with fail
        refine (c2.out _ q2).mono ?_
        rintro e w3 ⟨rfl, q3, g3⟩
        go_wp2_with fail
        refine (c3.out _ q3).mono ?_
        rintro e w4 ⟨rfl, hw4⟩
        have g4 : w.grownBy w4 (some R) := by rw [← hw4]; exact grown_set (grown_tr g2 g3) _
        clear hw4
        go_wp2_with fail
        exact ⟨rfl, rfl, Chg.grownR g4 hB⟩

end Go.Proofs.YtjkcopgfcafpeaaGreatDoor

/-
  What the reading of a line of a function holds on its way. Conditions: none.
-/
set_option linter.unusedSimpArgs false
set_option linter.unusedVariables false
namespace Go.Proofs.YtjkcopgfcafpeaaGreatDoor
open Go.RowKit Go.Maps

/-- a draft, the reader, and a sort in a box of its own in block bS, which lies in blocks from lo to bS -/
structure Fs (w wr : World) (B R : Nat) (p : Pos) (n1 n2 : List ByteArray) (sy : List (ByteArray × Int)) (L : List FL) (bs : List (List UInt8)) (bad : Bool) (t : T) (q : Option Addr) (c lo bS : Nat) (r : List UInt8) : Prop where
  ds : DS wr B p n1 n2 sy L [] bs bad
  rest : Rd wr R r
  own : Own wr t q c lo bS
  box : wr.heap[bS]? = some (.cells #[.slice q t.len c] 47 (0, 0))
  chg : Chg B R w wr
  le : B ≤ lo
  hi : lo ≤ bS
  cl : ∀ g, p.mut g → g < lo ∨ bS < g
  ltR : R < B

section
variable {w wr w' : World} {B R : Nat} {p p' : Pos} {n1 n2 n1' n2' : List ByteArray} {sy sy' : List (ByteArray × Int)} {L L' : List FL} {bs bs' : List (List UInt8)} {bad bad' : Bool} {t : T} {q : Option Addr} {c lo bS : Nat} {r r' : List UInt8}

theorem Fs.lt (h : Fs w wr B R p n1 n2 sy L bs bad t q c lo bS r) : bS < wr.heap.size := lt_of_block h.box

theorem Fs.next (h : Fs w wr B R p n1 n2 sy L bs bad t q c lo bS r) (hD : DS w' B p' n1' n2' sy' L' [] bs' bad') (hr : Rd w' R r') (hc : Chg B R wr w') (hk : ∀ k, lo ≤ k → k ≤ bS → w'.heap[k]? = wr.heap[k]?) (hm : ∀ g, p'.mut g → p.mut g ∨ wr.heap.size ≤ g) :
    Fs w w' B R p' n1' n2' sy' L' bs' bad' t q c lo bS r' :=
  ⟨hD, hr, h.own.keep fun k a b => hk k a (by omega), (hk bS h.hi (Nat.le_refl _)).trans h.box, h.chg.trans hc, h.le, h.hi, fun g hg => by
    rcases hm g hg with e | e
    · exact h.cl g e
    · have := h.lt; exact Or.inr (by omega), h.ltR⟩

theorem Fs.step (h : Fs w wr B R p n1 n2 sy L bs bad t q c lo bS r) (hg : wr.grownBy w' (some R)) (hr : Rd w' R r') : Fs w w' B R p n1 n2 sy L bs bad t q c lo bS r' := by
  have hB := h.ds.lt (Or.inl rfl)
  have hl := h.lt
  have hR := h.ltR
  have hle := h.le
  exact h.next (h.ds.step h.ltR hg) hr (Chg.grownR hg (by omega)) (fun k a b => hg.block k (by omega) (fun e => by injection e; omega)) fun g e => Or.inl e

theorem Fs.drew (h : Fs w wr B R p n1 n2 sy L bs bad t q c lo bS r) : Fs w wr.drew B R p n1 n2 sy L bs bad t q c lo bS r := h.step ⟨rfl, rfl, rfl, Nat.le_refl _, fun _ _ _ => rfl⟩ h.rest

theorem Fs.ne (h : Fs w wr B R p n1 n2 sy L bs bad t q c lo bS r) {g : Nat} (hg : p.mut g) {k : Nat} (h1 : lo ≤ k) (h2 : k ≤ bS) : k ≠ g := by
  have := h.cl g hg
  omega

theorem Fs.setBad (h : Fs w wr B R p n1 n2 sy L bs bad t q c lo bS r) (v : Bool) : Fs w (wr.setCell ⟨p.D, 3, none⟩ (.bool v)) B R p n1 n2 sy L bs v t q c lo bS r := by
  have hB := h.ds.lt (Or.inl rfl)
  have hR := h.ltR
  refine h.next (h.ds.setBad v) ?_ ((Chg.refl B R wr).set hB.1 _) (fun k a b => Below.heap_setCell _ _ _ _ (h.ne (Or.inl rfl) a b)) fun g e => Or.inl e
  unfold Rd
  rw [Below.heap_setCell _ _ _ _ (show R ≠ p.D by omega)]
  exact h.rest

theorem Fs.enter2 (h : Fs w wr B R p n1 n2 sy L bs bad t q c lo bS r) {x : List ByteArray} (hm : MapN w' p.m2 x) (hg : wr.grownBy w' (some p.m2)) : Fs w w' B R p n1 x sy L bs bad t q c lo bS r := by
  have hB := h.ds.lt (Or.inr (Or.inr (Or.inl rfl)))
  have hl := h.lt
  have hR := h.ltR
  exact h.next (h.ds.enter2 hm hg) ((hg.block R (lt_of_block h.rest) (fun e => by injection e; omega)).trans h.rest) (Chg.grown hg (by omega) fun k e => by injection e; omega)
    (fun k a b => hg.block k (by omega) (fun e => by have := h.ne (Or.inr (Or.inr (Or.inl rfl))) a b; injection e; omega)) fun g e => Or.inl e

theorem mutB {p : Pos} {g cp z k : Nat} (hg : (Value.slice p.pb 0 0).ownBlock = some g ∨ z ≤ g) (h : ({ p with pb := some ⟨g, 0, none⟩, cb := cp } : Pos).mut k) : p.mut k ∨ z ≤ k := by
  rcases h with e | e | e | e | e | e
  · exact Or.inl (Or.inl e)
  · exact Or.inl (Or.inr (Or.inl e))
  · exact Or.inl (Or.inr (Or.inr (Or.inl e)))
  · exact Or.inl (Or.inr (Or.inr (Or.inr (Or.inl e))))
  · exact Or.inl (Or.inr (Or.inr (Or.inr (Or.inr (Or.inl e)))))
  · have : k = g := by simp [Value.ownBlock] at e; omega
    subst this
    rcases hg with e2 | e2
    · exact Or.inl (Or.inr (Or.inr (Or.inr (Or.inr (Or.inr e2)))))
    · exact Or.inr e2

theorem Fs.pushB {W w3 : World} (h : Fs w W B R p n1 n2 sy L bs bad t q c lo bS r) {x : List UInt8} {g cp : Nat} {Y : Obj}
    (hown : w3.ownsRow B 9 1 (.slice (some ⟨g, 0, none⟩) (bs.length + 1) cp) (bs.length + 1) (bdV bs ++ [.string ⟨x.toArray⟩]))
    (hgrow : (W.alloc Y).grownBy w3 (Value.slice p.pb bs.length p.cb).ownBlock) (hat : (Value.slice p.pb bs.length p.cb).ownBlock = some g ∨ g = W.heap.size + 1) :
    Fs w (w3.setCell ⟨p.D, 2, none⟩ (.slice (some ⟨g, 0, none⟩) (bs.length + 1) cp)) B R { p with pb := some ⟨g, 0, none⟩, cb := cp } n1 n2 sy L (bs ++ [x]) bad t q c lo bS r ∧ w3.heap[p.D]? = W.heap[p.D]? := by
  obtain ⟨hD, hm⟩ := h.ds.pushB hown hgrow hat
  have hB := h.ds.lt (Or.inl rfl)
  have hl := h.lt
  have hR := h.ltR
  have hgr : ∀ k, (Value.slice p.pb bs.length p.cb).ownBlock = some k → p.mut k := fun k e => Or.inr (Or.inr (Or.inr (Or.inr (Or.inr (by rw [own_same p.pb 0 0 bs.length p.cb]; exact e)))))
  have hk : ∀ k, k < W.heap.size → ¬ p.mut k → w3.heap[k]? = W.heap[k]? := fun k a b => by
    rw [hgrow.block k (by simp only [World.size_alloc]; omega) (fun e => b (hgr k e.symm)), Below.heap_alloc _ _ _ a]
  have hRm : ¬ p.mut R := fun e => by have := (h.ds.lt e).1; omega
  refine ⟨h.next hD ?_ (((Chg.refl B R W).alloc (by omega) Y).trans (Chg.grown hgrow (by simp only [World.size_alloc]; omega) fun k e => (h.ds.lt (hgr k e)).1) |>.set hB.1 _) (fun k a b => ?_) (fun k hk => mutB (grow_at (Y := Y) hat) hk), hm⟩
  · unfold Rd
    rw [Below.heap_setCell _ _ _ _ (show R ≠ p.D by omega), hk R (lt_of_block h.rest) hRm]
    exact h.rest
  · rw [Below.heap_setCell _ _ _ _ (h.ne (Or.inl rfl) a b)]
    exact hk k (by omega) fun e => (h.ne e a b) rfl

theorem Fs.pushBm {W w3 : World} (h : Fs w W B R p n1 n2 sy L bs bad t q c lo bS r) {x : List UInt8} {g cp m : Nat} {Y : Obj} (hm : bs.length = m)
    (hown : w3.ownsRow B 9 1 (.slice (some ⟨g, 0, none⟩) (m + 1) cp) (m + 1) (bdV bs ++ [.string ⟨x.toArray⟩]))
    (hgrow : (W.alloc Y).grownBy w3 (Value.slice p.pb m p.cb).ownBlock) (hat : (Value.slice p.pb m p.cb).ownBlock = some g ∨ g = W.heap.size + 1) :
    Fs w (w3.setCell ⟨p.D, 2, none⟩ (.slice (some ⟨g, 0, none⟩) (m + 1) cp)) B R { p with pb := some ⟨g, 0, none⟩, cb := cp } n1 n2 sy L (bs ++ [x]) bad t q c lo bS r ∧ w3.heap[p.D]? = W.heap[p.D]? := by
  subst hm
  exact h.pushB hown hgrow hat

theorem DS.rowBm {W : World} {b : List (Int × Int × X)} (h : DS W B p n1 n2 sy L b bs bad) {m : Nat} (hm : bs.length = m) : W.ownsRow B 9 1 (.slice p.pb m p.cb) m (bdV bs) := by
  subst hm
  exact h.rowB
end

/-- where a sort has been read and boxed -/
theorem Fs.start {w w3 w4 : World} {B R : Nat} {p : Pos} {n1 n2 : List ByteArray} {sy : List (ByteArray × Int)} {L : List FL} {bs : List (List UInt8)} {bad : Bool} {t : T} {q : Option Addr} {c : Nat} {r : List UInt8}
    (hD : DS w3 B p n1 n2 sy L [] bs bad) (hr : Rd w3 R r) (hc : Chg B R w w3) (hR : R < B) (hO : Own w4 t q c w3.heap.size w4.heap.size) (hb : Below w3.heap.size w3 w4) :
    Fs w (w4.alloc (.cells #[.slice q t.len c] 47)) B R p n1 n2 sy L bs bad t q c w3.heap.size w4.heap.size r := by
  have hB := hD.lt (Or.inl rfl)
  have hz := hb.size
  exact ⟨(hD.below hb).alloc _, alloc_kept (rd_below hr hb) _, hO.keep fun k _ hk => Below.heap_alloc _ _ _ hk, heap_new _ _, (hc.trans ⟨hb.os, hb.tape, hb.output, hb.size, fun k hk _ => hb.block k (by omega)⟩).alloc (by omega) _, by omega, hb.size, fun g hg => by have := (hD.lt hg).2; exact Or.inl this, hR⟩

end Go.Proofs.YtjkcopgfcafpeaaGreatDoor

/-
  The walk of function, which reads a line of a function into a draft. Conditions: texts of at most 65536 bytes.
-/
set_option linter.unusedSimpArgs false
set_option linter.unusedVariables false
namespace Go.Proofs.YtjkcopgfcafpeaaGreatDoor
open Go.RowKit Go.Maps

theorem infoFu : (Tryz.prog.info? 52).map (fun i => (i.zero, i.size, i.bytes)) = some (some (.agg #[.string ⟨#[]⟩, .slice none 0 0, .int .i64 0, .int .i64 0, .slice none 0 0]), 5, 80) := by kernel_rfl
theorem infoStr : (Tryz.prog.info? 9).map (fun i => (i.zero, i.size, i.bytes)) = some (some (.string ⟨#[]⟩), 1, 16) := by kernel_rfl

theorem one_str (n : ByteArray) : ∀ u ∈ [Value.string n], u.oneCell' = true := by simp [Value.oneCell']
theorem one_fu (n : ByteArray) (q : Option Addr) (l c : Nat) : ∀ u ∈ [Value.string n, .slice q l c, .int .i64 0, .int .i64 0, .slice none 0 0], u.oneCell' = true := by simp [Value.oneCell']

theorem drL_fun {w : World} {B : Nat} {p : Pos} {sy : List (ByteArray × Int)} {L : List FL} {bad : Bool} {x : FL} (h : DS w B p (sy.map (·.1)) (L.map (·.nm) ++ [x.nm]) sy (L ++ [x]) [] (L.map (·.bd) ++ [x.bd]) bad) : DrL w B p sy (L ++ [x]) bad := by
  unfold DrL
  rw [List.map_append, List.map_append]
  exact h

/-- what reading a line of a function does -/
def FunOk (w : World) (B R : Nat) (p : Pos) (sy : List (ByteArray × Int)) (L : List FL) (bad : Bool) (x : FL) (r : List UInt8) (e : Ending) (w' : World) : Prop :=
  ∃ p', e = .returned (.tuple #[]) ∧ Rd w' R r ∧ DrL w' B p' sy (L ++ [x]) (bad || !decide (x.er = 0)) ∧ p.same p' ∧ Chg B R w w'

theorem cutAt_len {m s a b : List UInt8} (h : cutAt m s = some (a, b)) : a.length ≤ s.length ∧ b.length ≤ s.length := by
  have := cutAt_le h
  omega

theorem Gl.grownR {w w' : World} {R : Nat} (h : Gl w) (h6 : 6 ≤ R) (hw : R < w.heap.size) (hg : w.grownBy w' (some R)) : Gl w' := h.step h6 hg (by omega)

set_option maxRecDepth 100000 in
set_option maxHeartbeats 8000000 in
theorem function_yes (B R : Nat) (p : Pos) (sy : List (ByteArray × Int)) (L : List FL) (bad : Bool) (s r0 r1 part r2 body r3 : List UInt8) (n : ByteArray) (w : World) (hr : Rd w R s) (hD : DrL w B p sy L bad) (hg : Gl w) (h6 : 6 ≤ R) (hR : R < B) (hs : s.length ≤ 65536) (hle : L.length ≤ 65536)
    (h0 : rdName s = some (n, r0)) (h1 : need [32, 58, 32] r0 = some r1) (h2 : cutAt [32, 61, 32] r1 = some (part, r2)) (h3 : ansE part ≠ 4) (h4 : cutAt [10] r2 = some (body, r3)) :
    Calls Tryz.prog 100 #[.pointer (some ⟨p.D, 0, none⟩), .pointer (some ⟨R, 0, none⟩)] w (FunOk w B R p sy L bad ⟨n, ansT part, ansE part, body⟩ r3) := by
  obtain ⟨i0, hi0, hz0, hz1', hz2⟩ := info_parts infoFu
  obtain ⟨j0, hj0, hy0, hy1', hy2⟩ := info_parts infoStr
  obtain ⟨l0, l24, _⟩ := rdName_lt h0
  have l1 := need_le h1
  have l2 := cutAt_len h2
  have l4 := cutAt_len h4
  have c0 := Lib.hid fun W hr => rname_yes R s r0 n W hr hs h0
  have p1 : pre [32, 58, 32] r0 = true ∧ r0.drop ([32, 58, 32] : List UInt8).length = r1 := by
    unfold need at h1
    split at h1
    · rename_i hp; exact ⟨hp, by simpa using h1⟩
    · cases h1
  have c1 := Lib.hid fun W hr => need_yes R ⟨#[32, 58, 32]⟩ r0 [32, 58, 32] rfl W hr p1.1
  rw [p1.2] at c1
  have c2 := Lib.hid fun W hr hg => until_yes R ⟨#[32, 61, 32]⟩ r1 [32, 61, 32] part r2 rfl W hr hg (by omega) h2
  have c3 := Lib.hid fun W => getown_any part (by omega) W
  have c4 := Lib.hid fun W hr hg => until_yes R ⟨#[10]⟩ r2 [10] body r3 rfl W hr hg (by omega) h4
  have c5 := Lib.hid fun W hm => enter_any p.m2 (L.map (·.nm)) n W hm (by simp; omega) l24
  have hlen : (L.map (·.nm)).length = L.length := by simp
  have hlenB : (L.map (·.bd)).length = L.length := by simp
  rw [hlen] at c5
  have HLB := Lib.hid hlenB
  have hB := (hD.lt (Or.inl rfl)).1
  have hBs := (hD.lt (Or.inl rfl)).2
  have HD := Lib.hid hD
  have HR := Lib.hid hr
  have HG := Lib.hid hg
  obtain ⟨er, her⟩ : ∃ er, ansE part = er := ⟨_, rfl⟩
  obtain ⟨t, ht⟩ : ∃ t, ansT part = t := ⟨_, rfl⟩
  rw [her] at h3 c3 ⊢
  rw [ht] at c3 ⊢
  obtain ⟨v, hv⟩ : ∃ v, (bad || !decide (er = 0)) = v := ⟨_, rfl⟩
  have HV := Lib.hid hv
  have hpost : ∀ e w', FunOk w B R p sy L bad ⟨n, t, er, body⟩ r3 e w' ↔ ∃ p', e = .returned (.tuple #[]) ∧ Rd w' R r3 ∧ DrL w' B p' sy (L ++ [⟨n, t, er, body⟩]) v ∧ p.same p' ∧ Chg B R w w' := fun e w' => by unfold FunOk; rw [hv]
  refine Calls.mono ?_ fun e w' h => (hpost e w').2 h
  clear hv hpost
  have hd4 : (er == 4) = false := by simpa using h3
  clear hr hD hg h0 h1 h2 h3 h4 p1 her ht hlen hlenB
  go_enter Tryz.func100, Tryz.ntmps100
  go_wp2_with fail
  refine (c0.out _ HR.out).mono ?_
  rintro e w1 ⟨rfl, q1, g1⟩
  go_wp2_with fail
  refine (c1.out _ q1).mono ?_
  rintro e w2 ⟨rfl, hw2⟩
  have q2 : Rd w2 R r1 := by rw [← hw2]; exact rd_set q1 _
  have g2 : w.grownBy w2 (some R) := by rw [← hw2]; exact grown_set g1 _
  have gl2 := HG.out.grownR h6 (by omega) g2
  clear hw2 q1 g1 c0 c1 HR
  go_wp2_with fail
  refine (c2.out _ q2 gl2).mono ?_
  rintro e w3 ⟨rfl, q3, g3⟩
  have g3' := grown_tr g2 g3
  have D3 := HD.out.step hR g3'
  have gl3 := HG.out.grownR h6 (by omega) g3'
  have K3 := Chg.grownR (B := B) g3' (by omega)
  have H3 := Lib.hid (And.intro D3 (And.intro gl3 (And.intro K3 q3)))
  clear q3 g3 g3' q2 g2 gl2 c2 D3 gl3 K3 HD
  go_wp2_with fail
  refine (c3.out _).mono ?_
  rintro e w4 ⟨q, c, rfl, hO, hb4⟩
  have S4 := Fs.start H3.out.1 H3.out.2.2.2 H3.out.2.2.1 hR hO hb4
  have gl4 : Gl (w4.alloc (.cells #[.slice q t.len c] 47)) := HG.out.chg h6 hR S4.chg
  generalize w3.heap.size = lo at S4
  have bx := cell_of_one S4.box
  obtain ⟨⟨y0, y1, y2, y3, y4, y5⟩, z0, z1, z2, z3⟩ := S4.ds.cells
  clear hO hb4 c3 H3
  have HS4 := Lib.hid S4
  have HG4 := Lib.hid gl4
  clear S4 gl4
  generalize hW5 : w4.alloc (.cells #[.slice q t.len c] 47) = w5 at HS4 HG4 bx y0 y1 y2 y3 y4 y5 z0 z1 z2 z3
  have S6 := HS4.out.setBad v
  have gl6 := HG.out.chg h6 hR S6.chg
  have HS6 := Lib.hid S6
  have HG6 := Lib.hid gl6
  clear S6 gl6 HS4 HG4
  cases bad
  case' true =>
    have hvt : v = true := by rw [← HV.out]; rfl
    have e : w5.setCell ⟨p.D, 3, none⟩ (.bool true) = w5.setCell ⟨p.D, 3, none⟩ (.bool v) := by rw [hvt]
    have HE := Lib.hid e
    clear e hvt
    go_upto_region 6 with fail
    rw [HE.out]
    generalize w5.setCell ⟨p.D, 3, none⟩ (.bool v) = W6 at HS6 HG6 ⊢
    clear HE
  case' false =>
    have hvt : v = (er != 0) := by
      rw [← HV.out, Bool.false_or]
      rfl
    have e : w5.setCell ⟨p.D, 3, none⟩ (.bool (er != 0)) = w5.setCell ⟨p.D, 3, none⟩ (.bool v) := by rw [hvt]
    have HE := Lib.hid e
    clear e hvt
    go_upto_region 6 with fail
    rw [HE.out]
    generalize w5.setCell ⟨p.D, 3, none⟩ (.bool v) = W6 at HS6 HG6 ⊢
    clear HE
  all_goals
    clear bx y0 y1 y2 y3 y4 y5 z0 z1 z2 z3 hW5
    have SD := HS6.out.drew
    have glD : Gl W6.drew := HG6.out.keep fun _ _ => rfl
    obtain ⟨⟨y0, y1, y2, y3, y4, y5⟩, z0, z1, z2, z3⟩ := SD.ds.cells
    have hown := SD.ds.rowB
    have hmx : L.length + 1 ≤ maxLen := by simp only [maxLen]; omega
    have hby : (L.length + 1) * 16 ≤ 140737488355328 := by omega
    have HSD := Lib.hid SD
    have HGD := Lib.hid glD
    have HOW := Lib.hid hown
    clear SD glD hown HS6 HG6
    go_cut [] from 31 to 42 (fun wx => ∃ p' : Pos, p.same p' ∧ Fs w wx B R p' (sy.map (·.1)) (L.map (·.nm)) sy L (L.map (·.bd) ++ [body]) v t q c lo w4.heap.size r3)
    case first =>
      go_region_law (first
        | (go_simp; go_at_call 127; refine (c4.out _ HSD.out.rest HGD.out).mono ?_; rintro e w7 ⟨rfl, q7, g7⟩; have S7 := HSD.out.step g7 q7; have hB7 := (S7.ds.lt (Or.inl rfl)); have a7 := S7.ds.cells; obtain ⟨⟨a0, a1, a2, a3, a4, a5⟩, b0, b1, b2, b3⟩ := a7; have oc := fun o => (S7.ds.alloc o).cells.1.2.2.1; have hownA := fun o => (S7.ds.alloc o).rowBm HLB.out; have hBw : B ≤ w7.heap.size := (by omega))
        | (refine step_append_lies (w7.alloc (.cells #[.string ⟨body.toArray⟩] 9)) rfl (.tmp 35) (.tmp 38) 90 rfl B 9 j0 (.string ⟨#[]⟩) 1 16 ?_ ?_ ?_ ?_ ?_ ?_ ?_ (.slice p.pb L.length p.cb) L.length (bdV (L.map (·.bd))) ?_ ?_ ⟨w7.heap.size, 0, none⟩ 1 1 [.string ⟨body.toArray⟩] ?_ ?_ ?_ ?_ ?_ ?_ ?_ ?_ (w7.heap.size+1) ?_ ?_; exact Tryz.underlying90; exact hj0; exact hy0; exact hy1'; exact hy2; rfl; exact (by decide); rfl; exact hownA _; rfl; rfl; exact World.news_of_block (heap_new _ _); exact one_str _; exact Nat.one_pos; exact hmx; exact hby; exact base_le _ hBw; exact size_new _ _; intro g cp w9 hown3 hgrow hat hglt; obtain ⟨SP, hmid⟩ := Fs.pushBm S7 HLB.out hown3 hgrow hat; obtain ⟨o0, o1, o2, o3, o4, o5, o6⟩ := six_cells (hmid.trans S7.ds.box); have o7 := o6 2 (by decide); clear o6))
      all_goals go_wp2_with fail
      all_goals
        go_meet
        case rel => exact ⟨{ p with pb := some ⟨g, 0, none⟩, cb := cp }, ⟨rfl, rfl, rfl⟩, SP⟩
    case rest =>
      clear y0 y1 y2 y3 y4 y5 z0 z1 z2 z3 HSD HGD HOW hmx hby
      obtain ⟨⟨D', a1, a2, ps', cs', pf', cf', pb', cb'⟩, ⟨e1, e2, e3⟩, S⟩ := hcut
      dsimp only at e1 e2 e3
      subst e1 e2 e3
      have SD := S.drew
      obtain ⟨⟨y0, y1, y2, y3, y4, y5⟩, z0, z1, z2, z3⟩ := SD.ds.cells
      dsimp only at y0 y1 y2 y3 y4 y5 z0 z1 z2 z3
      have HS := Lib.hid S
      have HSD := Lib.hid SD
      clear S SD
      go_upto_region 7 with fail
      go_cut [] from 42 to 54 (fun wx => Fs w wx B R ⟨p.D, p.m1, p.m2, ps', cs', pf', cf', pb', cb'⟩ (sy.map (·.1)) (L.map (·.nm) ++ [n]) sy L (L.map (·.bd) ++ [body]) v t q c lo w4.heap.size r3)
      case first =>
        go_region_with ((go_at_call 125; refine (c5.out _ HSD.out.ds.map2).mono ?_; rintro e w8 ⟨rfl, hm8, hg8⟩))
        all_goals go_wp2_with fail
        all_goals
          go_meet
          case rel => exact HSD.out.enter2 hm8 hg8
      case rest =>
        clear y0 y1 y2 y3 y4 y5 z0 z1 z2 z3 HSD HS
        have SD := hcut.drew
        obtain ⟨⟨y0, y1, y2, y3, y4, y5⟩, z0, z1, z2, z3⟩ := SD.ds.cells
        dsimp only at y0 y1 y2 y3 y4 y5 z0 z1 z2 z3
        have bx := cell_of_one SD.box
        have oc := fun o => (hcut.ds.alloc o).cells.1.2.1
        have ob := fun o => cell_of_one (alloc_kept hcut.box o)
        dsimp only at oc
        obtain ⟨vs, hF, hA⟩ := SD.ds.rowF
        dsimp only at hF
        have hmx : L.length + 1 ≤ maxLen := by simp only [maxLen]; omega
        have hby : (L.length + 1) * 80 ≤ 140737488355328 := by omega
        have hBw : B ≤ wc.drew.heap.size := by have := SD.ds.lt (Or.inl rfl); omega
        have HSD := Lib.hid SD
        have hownA : ∀ o, ((wc.alloc o).drew).ownsRow B 52 5 (.slice pf' L.length cf') L.length vs := fun o => World.ownsRow.alloc (w := wc) hF o
        have HF := Lib.hid hF
        have HA := Lib.hid hA
        clear SD hcut hF hA
        go_upto_region 8 with fail
        go_region_law (refine step_append_lies (wc.alloc (.cells #[.string n, .slice q t.len c, .int .i64 0, .int .i64 0, .slice none 0 0] 52)).drew rfl (.tmp 59) (.tmp 63) 23 rfl B 52 i0 (.agg #[.string ⟨#[]⟩, .slice none 0 0, .int .i64 0, .int .i64 0, .slice none 0 0]) 5 80 ?_ ?_ ?_ ?_ ?_ ?_ ?_ (.slice pf' L.length cf') L.length vs ?_ ?_ ⟨wc.heap.size, 0, none⟩ 1 1 [.string n, .slice q t.len c, .int .i64 0, .int .i64 0, .slice none 0 0] ?_ ?_ ?_ ?_ ?_ ?_ ?_ ?_ (wc.heap.size+1) ?_ ?_; exact Tryz.underlying23; exact hi0; exact hz0; exact hz1'; exact hz2; rfl; exact (by decide); rfl; exact hownA _; rfl; rfl; exact World.news_of_block (heap_new _ _); exact one_fu _ _ _ _; exact Nat.one_pos; exact hmx; exact hby; exact base_le _ hBw; exact size_new _ _; intro g cp w9 hown3 hgrow hat hglt; obtain ⟨SP, hmid⟩ := DS.pushF (x := ⟨n, t, er, body⟩) HSD.out.ds HSD.out.own HSD.out.le (Nat.le_of_lt HSD.out.lt) (fun g hg => (HSD.out.cl g hg).imp id Nat.le_of_lt) hown3 HF.out HA.out hgrow hat; obtain ⟨o0, o1, o2, o3, o4, o5, o6⟩ := six_cells (hmid.trans HSD.out.ds.box); have o7 := o6 1 (by decide); clear o6)
        all_goals go_wp2_with fail
        all_goals
          go_end0
          refine ⟨rfl, ?_, _, drL_fun SP, ⟨rfl, rfl, rfl⟩, ?_⟩
          · have hRw := lt_of_block HSD.out.rest
            have hne : (Value.slice pf' L.length cf').ownBlock ≠ some R := fun e => by have := (HF.out.lt R e).1; omega
            unfold Rd
            rw [Below.heap_setCell _ _ _ _ (show R ≠ p.D by omega), hgrow.block R (by show R < (wc.heap.push _).size; simp; exact Nat.lt_succ_of_lt hRw) (fun e => hne e.symm)]
            exact alloc_kept HSD.out.rest _
          · exact ((HSD.out.chg.alloc hBw _).trans (Chg.grown hgrow (base_le (w := wc.drew) _ hBw) fun j hj => (HF.out.lt j hj).1)).set hB _

end Go.Proofs.YtjkcopgfcafpeaaGreatDoor

/-
  The walk of function where a line is none. Conditions: texts of at most 65536 bytes.
-/
set_option linter.unusedSimpArgs false
set_option linter.unusedVariables false
namespace Go.Proofs.YtjkcopgfcafpeaaGreatDoor
open Go.RowKit Go.Maps

theorem need_no_pre {p s : List UInt8} (h : need p s = none) : pre p s = false := by
  unfold need at h
  split at h
  · cases h
  · rename_i hp; simpa using hp

theorem need_yes_pre {p s r : List UInt8} (h : need p s = some r) : pre p s = true ∧ s.drop p.length = r := by
  unfold need at h
  split at h
  · rename_i hp; exact ⟨hp, by simpa using h⟩
  · cases h

set_option maxHeartbeats 4000000 in
theorem function_no1 (B R : Nat) (p : Pos) (s : List UInt8) (w : World) (hr : Rd w R s) (hg : Gl w) (h6 : 6 ≤ R) (hB : B ≤ w.heap.size) (hR : R < B) (hs : s.length ≤ 65536)
    (h : ∀ n r0 r1 c, rdName s = some (n, r0) → need [32, 58, 32] r0 = some r1 → cutAt [32, 61, 32] r1 = some c → ansE c.1 = 4) :
    Calls Tryz.prog 100 #[.pointer (some ⟨p.D, 0, none⟩), .pointer (some ⟨R, 0, none⟩)] w (Bad w B R) := by
  have HR := Lib.hid hr
  have HG := Lib.hid hg
  have hRw := lt_of_block hr
  cases h0 : rdName s with
  | none =>
    have c0 := Lib.hid fun W hr => rname_no R s W hr hs h0
    clear hr hg h h0
    go_enter Tryz.func100, Tryz.ntmps100
    go_wp2_with fail
    refine (c0.out _ HR.out).mono ?_
    rintro e w1 ⟨rfl, g1⟩
    go_wp2_with fail
    exact ⟨rfl, rfl, Chg.grownR g1 hB⟩
  | some x =>
    obtain ⟨n, r0⟩ := x
    have l0 := (rdName_lt h0).1
    have c0 := Lib.hid fun W hr => rname_yes R s r0 n W hr hs h0
    cases h1 : need [32, 58, 32] r0 with
    | none =>
      have c1 := Lib.hid fun W hr => need_no R ⟨#[32, 58, 32]⟩ r0 [32, 58, 32] rfl W hr (need_no_pre h1)
      clear hr hg h h0 h1
      go_enter Tryz.func100, Tryz.ntmps100
      go_wp2_with fail
      refine (c0.out _ HR.out).mono ?_
      rintro e w1 ⟨rfl, q1, g1⟩
      go_wp2_with fail
      refine (c1.out _ q1).mono ?_
      rintro e w2 ⟨rfl, hw2⟩
      have g2 : w.grownBy w2 (some R) := by rw [← hw2]; exact grown_set g1 _
      clear hw2
      go_wp2_with fail
      exact ⟨rfl, rfl, Chg.grownR g2 hB⟩
    | some r1 =>
      have l1 := need_le h1
      obtain ⟨p1, p2⟩ := need_yes_pre h1
      have c1 := Lib.hid fun W hr => need_yes R ⟨#[32, 58, 32]⟩ r0 [32, 58, 32] rfl W hr p1
      rw [p2] at c1
      clear p1 p2
      cases h2 : cutAt [32, 61, 32] r1 with
      | none =>
        have c2 := Lib.hid fun W hr hg => until_no R ⟨#[32, 61, 32]⟩ r1 [32, 61, 32] rfl W hr hg (by omega) h2
        clear hr hg h h0 h1 h2
        go_enter Tryz.func100, Tryz.ntmps100
        go_wp2_with fail
        refine (c0.out _ HR.out).mono ?_
        rintro e w1 ⟨rfl, q1, g1⟩
        go_wp2_with fail
        refine (c1.out _ q1).mono ?_
        rintro e w2 ⟨rfl, hw2⟩
        have q2 : Rd w2 R r1 := by rw [← hw2]; exact rd_set q1 _
        have g2 : w.grownBy w2 (some R) := by rw [← hw2]; exact grown_set g1 _
        have gl2 := HG.out.grownR h6 (by omega) g2
        clear hw2 q1 g1 c0 c1
        go_wp2_with fail
        refine (c2.out _ q2 gl2).mono ?_
        rintro e w3 ⟨rfl, g3⟩
        go_wp2_with fail
        exact ⟨rfl, rfl, Chg.grownR (grown_tr g2 g3) hB⟩
      | some x =>
        obtain ⟨part, r2⟩ := x
        have l2 := cutAt_len h2
        have h3 : ansE part = 4 := h n r0 r1 (part, r2) h0 h1 h2
        have c2 := Lib.hid fun W hr hg => until_yes R ⟨#[32, 61, 32]⟩ r1 [32, 61, 32] part r2 rfl W hr hg (by omega) h2
        have c3 := Lib.hid fun W => getown_any part (by omega) W
        rw [h3] at c3
        clear hr hg h h0 h1 h2 h3
        go_enter Tryz.func100, Tryz.ntmps100
        go_wp2_with fail
        refine (c0.out _ HR.out).mono ?_
        rintro e w1 ⟨rfl, q1, g1⟩
        go_wp2_with fail
        refine (c1.out _ q1).mono ?_
        rintro e w2 ⟨rfl, hw2⟩
        have q2 : Rd w2 R r1 := by rw [← hw2]; exact rd_set q1 _
        have g2 : w.grownBy w2 (some R) := by rw [← hw2]; exact grown_set g1 _
        have gl2 := HG.out.grownR h6 (by omega) g2
        clear hw2 q1 g1 c0 c1
        go_wp2_with fail
        refine (c2.out _ q2 gl2).mono ?_
        rintro e w3 ⟨rfl, q3, g3⟩
        have K3 := Chg.grownR (B := B) (grown_tr g2 g3) hB
        clear q3 g3 q2 g2 gl2 c2
        go_wp2_with fail
        refine (c3.out _).mono ?_
        rintro e w4 ⟨q, c, rfl, hO, hb4⟩
        have K4 : Chg B R w w4 := K3.trans ⟨hb4.os, hb4.tape, hb4.output, hb4.size, fun k hk _ => hb4.block k (by have := K3.size; omega)⟩
        clear hO c3
        go_wp2_with fail
        refine (fail_any _).mono ?_
        rintro e w5 ⟨rfl, rfl⟩
        go_wp2_with fail
        exact ⟨rfl, rfl, K4.alloc (by have := K4.size; omega) _⟩

set_option maxRecDepth 100000 in
set_option maxHeartbeats 8000000 in
theorem function_no2 (B R : Nat) (p : Pos) (sy : List (ByteArray × Int)) (L : List FL) (bad : Bool) (s r0 r1 part r2 : List UInt8) (n : ByteArray) (w : World) (hr : Rd w R s) (hD : DrL w B p sy L bad) (hg : Gl w) (h6 : 6 ≤ R) (hR : R < B) (hs : s.length ≤ 65536) (hle : L.length ≤ 65536)
    (h0 : rdName s = some (n, r0)) (h1 : need [32, 58, 32] r0 = some r1) (h2 : cutAt [32, 61, 32] r1 = some (part, r2)) (h3 : ansE part ≠ 4) (h4 : cutAt [10] r2 = none) :
    Calls Tryz.prog 100 #[.pointer (some ⟨p.D, 0, none⟩), .pointer (some ⟨R, 0, none⟩)] w (Bad w B R) := by
  obtain ⟨i0, hi0, hz0, hz1', hz2⟩ := info_parts infoFu
  obtain ⟨j0, hj0, hy0, hy1', hy2⟩ := info_parts infoStr
  obtain ⟨l0, l24, _⟩ := rdName_lt h0
  have l1 := need_le h1
  have l2 := cutAt_len h2
  have c0 := Lib.hid fun W hr => rname_yes R s r0 n W hr hs h0
  have p1 : pre [32, 58, 32] r0 = true ∧ r0.drop ([32, 58, 32] : List UInt8).length = r1 := by
    unfold need at h1
    split at h1
    · rename_i hp; exact ⟨hp, by simpa using h1⟩
    · cases h1
  have c1 := Lib.hid fun W hr => need_yes R ⟨#[32, 58, 32]⟩ r0 [32, 58, 32] rfl W hr p1.1
  rw [p1.2] at c1
  have c2 := Lib.hid fun W hr hg => until_yes R ⟨#[32, 61, 32]⟩ r1 [32, 61, 32] part r2 rfl W hr hg (by omega) h2
  have c3 := Lib.hid fun W => getown_any part (by omega) W
  have c4 := Lib.hid fun W hr hg => until_no R ⟨#[10]⟩ r2 [10] rfl W hr hg (by omega) h4
  have hlenB : (L.map (·.bd)).length = L.length := by simp
  have HLB := Lib.hid hlenB
  have hB := (hD.lt (Or.inl rfl)).1
  have hBs := (hD.lt (Or.inl rfl)).2
  have HD := Lib.hid hD
  have HR := Lib.hid hr
  have HG := Lib.hid hg
  obtain ⟨er, her⟩ : ∃ er, ansE part = er := ⟨_, rfl⟩
  obtain ⟨t, ht⟩ : ∃ t, ansT part = t := ⟨_, rfl⟩
  rw [her] at h3 c3
  rw [ht] at c3
  obtain ⟨v, hv⟩ : ∃ v, (bad || !decide (er = 0)) = v := ⟨_, rfl⟩
  have HV := Lib.hid hv
  clear hv
  have hd4 : (er == 4) = false := by simpa using h3
  clear hr hD hg h0 h1 h2 h3 h4 p1 her ht hlenB
  go_enter Tryz.func100, Tryz.ntmps100
  go_wp2_with fail
  refine (c0.out _ HR.out).mono ?_
  rintro e w1 ⟨rfl, q1, g1⟩
  go_wp2_with fail
  refine (c1.out _ q1).mono ?_
  rintro e w2 ⟨rfl, hw2⟩
  have q2 : Rd w2 R r1 := by rw [← hw2]; exact rd_set q1 _
  have g2 : w.grownBy w2 (some R) := by rw [← hw2]; exact grown_set g1 _
  have gl2 := HG.out.grownR h6 (by omega) g2
  clear hw2 q1 g1 c0 c1 HR
  go_wp2_with fail
  refine (c2.out _ q2 gl2).mono ?_
  rintro e w3 ⟨rfl, q3, g3⟩
  have g3' := grown_tr g2 g3
  have D3 := HD.out.step hR g3'
  have gl3 := HG.out.grownR h6 (by omega) g3'
  have K3 := Chg.grownR (B := B) g3' (by omega)
  have H3 := Lib.hid (And.intro D3 (And.intro gl3 (And.intro K3 q3)))
  clear q3 g3 g3' q2 g2 gl2 c2 D3 gl3 K3 HD
  go_wp2_with fail
  refine (c3.out _).mono ?_
  rintro e w4 ⟨q, c, rfl, hO, hb4⟩
  have S4 := Fs.start H3.out.1 H3.out.2.2.2 H3.out.2.2.1 hR hO hb4
  have gl4 : Gl (w4.alloc (.cells #[.slice q t.len c] 47)) := HG.out.chg h6 hR S4.chg
  generalize w3.heap.size = lo at S4
  have bx := cell_of_one S4.box
  obtain ⟨⟨y0, y1, y2, y3, y4, y5⟩, z0, z1, z2, z3⟩ := S4.ds.cells
  clear hO hb4 c3 H3
  have HS4 := Lib.hid S4
  have HG4 := Lib.hid gl4
  clear S4 gl4
  generalize hW5 : w4.alloc (.cells #[.slice q t.len c] 47) = w5 at HS4 HG4 bx y0 y1 y2 y3 y4 y5 z0 z1 z2 z3
  have S6 := HS4.out.setBad v
  have gl6 := HG.out.chg h6 hR S6.chg
  have HS6 := Lib.hid S6
  have HG6 := Lib.hid gl6
  clear S6 gl6 HS4 HG4
  cases bad
  case' true =>
    have hvt : v = true := by rw [← HV.out]; rfl
    have e : w5.setCell ⟨p.D, 3, none⟩ (.bool true) = w5.setCell ⟨p.D, 3, none⟩ (.bool v) := by rw [hvt]
    have HE := Lib.hid e
    clear e hvt
    go_upto_region 6 with fail
    rw [HE.out]
    generalize w5.setCell ⟨p.D, 3, none⟩ (.bool v) = W6 at HS6 HG6 ⊢
    clear HE
  case' false =>
    have hvt : v = (er != 0) := by
      rw [← HV.out, Bool.false_or]
      rfl
    have e : w5.setCell ⟨p.D, 3, none⟩ (.bool (er != 0)) = w5.setCell ⟨p.D, 3, none⟩ (.bool v) := by rw [hvt]
    have HE := Lib.hid e
    clear e hvt
    go_upto_region 6 with fail
    rw [HE.out]
    generalize w5.setCell ⟨p.D, 3, none⟩ (.bool v) = W6 at HS6 HG6 ⊢
    clear HE
  all_goals
    clear bx y0 y1 y2 y3 y4 y5 z0 z1 z2 z3 hW5
    have SD := HS6.out.drew
    have glD : Gl W6.drew := HG6.out.keep fun _ _ => rfl
    obtain ⟨⟨y0, y1, y2, y3, y4, y5⟩, z0, z1, z2, z3⟩ := SD.ds.cells
    have HSD := Lib.hid SD
    have HGD := Lib.hid glD
    clear SD glD HS6 HG6
    go_region_dies
    all_goals
      go_wp2_with fail
      refine (c4.out _ HSD.out.rest HGD.out).mono ?_
      rintro e w7 ⟨rfl, g7⟩
      go_wp2_with fail
      exact ⟨rfl, rfl, HSD.out.chg.trans (Chg.grownR g7 (by have := HSD.out.ds.lt (Or.inl rfl); omega))⟩

theorem function_no (B R : Nat) (p : Pos) (sy : List (ByteArray × Int)) (L : List FL) (bad : Bool) (s : List UInt8) (w : World) (hr : Rd w R s) (hD : DrL w B p sy L bad) (hg : Gl w) (h6 : 6 ≤ R) (hR : R < B) (hs : s.length ≤ 65536) (hle : L.length ≤ 65536) (h : rdFun s = none) :
    Calls Tryz.prog 100 #[.pointer (some ⟨p.D, 0, none⟩), .pointer (some ⟨R, 0, none⟩)] w (Bad w B R) := by
  have hB : B ≤ w.heap.size := by have := hD.lt (Or.inl rfl); omega
  by_cases hall : ∀ n r0 r1 c, rdName s = some (n, r0) → need [32, 58, 32] r0 = some r1 → cutAt [32, 61, 32] r1 = some c → ansE c.1 = 4
  · exact function_no1 B R p s w hr hg h6 hB hR hs hall
  · simp only [Classical.not_forall] at hall
    obtain ⟨n, r0, r1, ⟨part, r2⟩, h0, h1, h2, h3⟩ := hall
    simp only at h3
    refine function_no2 B R p sy L bad s r0 r1 part r2 n w hr hD hg h6 hR hs hle h0 h1 h2 h3 ?_
    unfold rdFun at h
    rw [h0, Option.bind_some, h1, Option.bind_some, h2, Option.bind_some, if_neg h3, Option.map_eq_none_iff] at h
    exact h

end Go.Proofs.YtjkcopgfcafpeaaGreatDoor

