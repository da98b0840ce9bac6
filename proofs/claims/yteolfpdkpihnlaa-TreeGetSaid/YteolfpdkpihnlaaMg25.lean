/-
  Parts of one proof, laid into one text: ERead, EAll, ERanks. Conditions: each part names its own.
-/
import Derived.Test.YteolfpdkpihnlaaMg24
import Derived.Deep.RegionLaw
import Derived.RegionDies
import Derived.Test.YteolfpdkpihnlaaMg10

/-
  The walk of read: a tree of any size, of these symbols. Conditions: texts of at most 65536 bytes, ranks of at most 4.
-/
set_option linter.unusedSimpArgs false
set_option linter.unusedVariables false
namespace Go.Proofs.Yteolfpdkpihnlaa
open Go.RowKit Go.Maps

theorem IsS.gr {w w' : World} {S : Sy} {p : Option Addr} {n c R : Nat} {s : List UInt8} (h : IsS w S p n c) (hr : Rd w R s) (hg : w.grownBy w' (some R)) : IsS w' S p n c := by
  obtain ⟨h1, h2, h3, h4, h5⟩ := h
  refine ⟨h1, h2, h3, h4, ?_⟩
  rcases h5 with h5 | ⟨b, off, e, hrow⟩
  · exact Or.inl h5
  · refine Or.inr ⟨b, off, e, fun i hi => ?_⟩
    obtain ⟨x1, x2⟩ := hrow i hi
    have hne : b ≠ R := by
      rintro rfl
      unfold World.cell? at x2
      unfold Rd at hr
      simp only [hr] at x2
      simp at x2
    have hb := hg.block b (lt_of_cell x1) (fun e => hne (by injection e))
    exact ⟨(World.cell?_of_block (w := w) hb).trans x1, (World.cell?_of_block (w := w) hb).trans x2⟩

theorem grown_own2 {w wr : World} {b j : Nat} (h : w.grownBy wr (some b)) (hj : w.heap.size ≤ j) (u v : Value) : w.grownBy ((wr.setCell ⟨j, 0, none⟩ u).setCell ⟨j, 1, none⟩ v) (some b) := by
  refine ⟨h.os, h.tape, h.output, by rw [size_set2]; exact h.size, fun i hi hn => ?_⟩
  rw [Below.heap_setCell _ _ _ _ (show i ≠ j by omega), Below.heap_setCell _ _ _ _ (show i ≠ j by omega)]
  exact h.block i hi hn

/-- what stays where only the reader's block turns -/
structure EnvE (w : World) (R m : Nat) (S : Sy) (sp : Option Addr) (sn sc : Nat) : Prop where
  syms : IsS w S sp sn sc
  map : MapS w m S S.len
  ne : m ≠ R
  lt : R < w.heap.size
  kind : ∃ s, Rd w R s

theorem EnvE.step {w w' : World} {R m : Nat} {S : Sy} {sp : Option Addr} {sn sc : Nat} (h : EnvE w R m S sp sn sc) (hg : w.grownBy w' (some R)) (hk : ∃ s, Rd w' R s) : EnvE w' R m S sp sn sc := by
  obtain ⟨s, hs⟩ := h.kind
  obtain ⟨_, _, e1⟩ := mapS_block h.map
  exact ⟨h.syms.gr hs hg, mapS_far h.map (hg.block _ (lt_of_block e1) (fun e => h.ne (by injection e))), h.ne, Nat.lt_of_lt_of_le h.lt hg.size, hk⟩

/-- what reading a tree does -/
def ReadOk (w : World) (R : Nat) (n : Int) (a : Y) (r : List UInt8) (e : Ending) (w' : World) : Prop :=
  ∃ q c, e = .returned (.agg #[.int .i64 n, .slice q a.len c]) ∧ Rd w' R r ∧ OwnY w' a q c w.heap.size w'.heap.size ∧ w.grownBy w' (some R)

def ReadAny (f : Option (Int × Y × List UInt8)) (w : World) (R : Nat) (e : Ending) (w' : World) : Prop :=
  (∀ n a r, f = some (n, a, r) → ReadOk w R n a r e w') ∧ (f = none → Fails w R e w')

theorem readAny_none {f : Option (Int × Y × List UInt8)} {w w' : World} {R : Nat} {e : Ending} (hf : f = none) (h : Fails w R e w') : ReadAny f w R e w' := by
  subst hf
  exact ⟨fun _ _ _ h => (by cases h), fun _ => h⟩

theorem readAny_some {f : Option (Int × Y × List UInt8)} {w w' : World} {R : Nat} {e : Ending} {n : Int} {a : Y} {r : List UInt8} (hf : f = some (n, a, r)) (h : ReadOk w R n a r e w') : ReadAny f w R e w' := by
  subst hf
  refine ⟨fun n' a' r' h' => ?_, fun h => (by cases h)⟩
  simp only [Option.some.injEq, Prod.mk.injEq] at h'
  obtain ⟨rfl, rfl, rfl⟩ := h'
  exact h

/-- where read's loop stands: what it has collected -/
structure Te (w wr : World) (R bo : Nat) (n : Int) (acc : Y) (q : Option Addr) (c : Nat) (r : List UInt8) : Prop where
  rest : Rd wr R r
  got : GotY wr 25 acc (.slice q acc.len c) (bo + 1)
  out : wr.heap[bo]? = some (.cells #[.int .i64 n, .slice q acc.len c] 25 (0, 0))
  res : wr.heap[w.heap.size]? = some (.cells #[.int .i64 0, .slice none 0 0] 25 (0, 0))
  grown : w.grownBy wr (some R)
  ltR : R < w.heap.size
  lo : w.heap.size < bo

theorem GotY.step {wr w1 : World} {ty : TypeId} {y : Y} {v : Value} {B R : Nat} (h : GotY wr ty y v B) (hR : R < B) (hg : wr.grownBy w1 (some R)) : GotY w1 ty y v B := by
  obtain ⟨xs, h1, h2⟩ := h
  refine ⟨xs, h1.kept hg ?_, (h2.keep fun k a b _ => hg.block k b (fun e => by injection e; omega)).mono (Nat.le_refl _) hg.size⟩
  cases hv : v.ownBlock with
  | none => exact Or.inl rfl
  | some g => exact Or.inr (fun e => by have := (h1.lt g hv).1; injection e; omega)

section
variable {w wr w1 : World} {R bo : Nat} {n : Int} {acc : Y} {q : Option Addr} {c : Nat} {r r1 : List UInt8}

theorem Te.step (h : Te w wr R bo n acc q c r) (hg : wr.grownBy w1 (some R)) (hr : Rd w1 R r1) : Te w w1 R bo n acc q c r1 := by
  have h1 := lt_of_block h.out
  have h2 := lt_of_block h.res
  have h3 := h.ltR
  have h4 := h.lo
  exact ⟨hr, h.got.step (by omega) hg, (hg.block _ h1 (fun e => by injection e; omega)).trans h.out, (hg.block _ h2 (fun e => by injection e; omega)).trans h.res, grown_tr h.grown hg, h3, h4⟩

theorem Te.skip (h : Te w wr R bo n acc q c r) (r1 : List UInt8) : Te w (wr.setCell ⟨R, 0, none⟩ (.string ⟨r1.toArray⟩)) R bo n acc q c r1 :=
  h.step (grown_set0 _ _ _) (rd_set h.rest r1)

theorem Te.drew (h : Te w wr R bo n acc q c r) : Te w wr.drew R bo n acc q c r :=
  h.step ⟨rfl, rfl, rfl, Nat.le_refl _, fun _ _ _ => rfl⟩ h.rest

/-- one more kid is collected: W the world ahead of its reading, W2 behind it, w3 behind the append -/
theorem Te.push {W W2 w3 : World} {k : Int} {a : Y} {q1 : Option Addr} {c1 g cp : Nat} {xs : List Value} {r2 : List UInt8} {Yo : Obj} (S : Te w W R bo n acc q c r)
    (hown0 : W.ownsRow (bo + 1) 25 2 (.slice q acc.len c) acc.len xs) (hkids : KidsY W acc xs (Value.slice q acc.len c).ownBlock (bo + 1) W.heap.size)
    (G : W.grownBy W2 (some R)) (hR2 : Rd W2 R r2) (O : OwnY W2 a q1 c1 W.heap.size W2.heap.size)
    (hown : w3.ownsRow (bo + 1) 25 2 (.slice (some ⟨g, 0, none⟩) (acc.len + 1) cp) (acc.len + 1) (xs ++ [.int .i64 k, .slice q1 a.len c1]))
    (hgrow : (W2.alloc Yo).grownBy w3 (Value.slice q acc.len c).ownBlock) (hat : (Value.slice q acc.len c).ownBlock = some g ∨ g = W2.heap.size + 1) :
    Te w (w3.setCell ⟨bo, 1, none⟩ (.slice (some ⟨g, 0, none⟩) (acc.len + 1) cp)) R bo n (acc.snoc k a) (some ⟨g, 0, none⟩) cp r2 ∧ w3.heap[bo]? = some (.cells #[.int .i64 n, .slice q acc.len c] 25 (0, 0)) := by
  have hl := S.lo
  have hRl := S.ltR
  have S2 := S.step G hR2
  have hlt := hown0.lt
  have hs2 := G.size
  have hblk : ∀ j, j < W2.heap.size → (Value.slice q acc.len c).ownBlock ≠ some j → w3.heap[j]? = W2.heap[j]? := fun j hj hn => by
    rw [hgrow.block j (by simp only [World.size_alloc]; omega) (fun e => hn e.symm), Below.heap_alloc _ _ _ hj]
  have low : ∀ j, j < bo + 1 → (Value.slice q acc.len c).ownBlock ≠ some j := fun j hj e => by have := (hlt j e).1; omega
  have o1 := lt_of_block S2.out
  have o2 := lt_of_block S2.res
  have hs3 : W2.heap.size ≤ w3.heap.size := by have := hgrow.size; simp only [World.size_alloc] at this; omega
  have hout : w3.heap[bo]? = some (.cells #[.int .i64 n, .slice q acc.len c] 25 (0, 0)) := (hblk _ o1 (low _ (by omega))).trans S2.out
  have hlen : (acc.snoc k a).len = acc.len + 1 := Y.len_snoc _ _ _
  have got := GotY.push (wy := W2.alloc Yo) (lo := W.heap.size) (hi := W2.heap.size) hown0 hkids (fun j hBj hj => (Below.heap_alloc _ _ _ (by omega)).trans (G.block j hj (fun e => by injection e; omega))) (O.keep fun j _ hj => Below.heap_alloc _ _ _ hj) (Nat.le_refl _) hs2 (by simp) hown hgrow (by simpa using hat)
  refine ⟨⟨?_, ?_, ?_, ?_, ?_, hRl, hl⟩, hout⟩
  · unfold Rd
    rw [Below.heap_setCell _ _ _ _ (show R ≠ bo by omega), hblk R (by omega) (low _ (by omega))]
    exact hR2
  · rw [hlen]
    exact got.set (Nat.lt_succ_self bo) _
  · rw [hlen]
    exact fieldY_set hout
  · rw [Below.heap_setCell _ _ _ _ (show w.heap.size ≠ bo by omega), hblk _ o2 (low _ (by omega))]
    exact S2.res
  · have g1 := S2.grown
    refine ⟨hgrow.os.trans g1.os, hgrow.tape.trans g1.tape, hgrow.output.trans g1.output, ?_, fun i hi hn => ?_⟩
    · have := g1.size; simp only [World.setCell, Array.size_modify]; omega
    · rw [Below.heap_setCell _ _ _ _ (show i ≠ bo by omega), hblk i (by have := g1.size; omega) (low i (by omega))]
      exact g1.block i hi hn

end

theorem tree_box {w : World} {b : Nat} {n : Int} {v : Value} (h : w.heap[b]? = some (.cells #[.int .i64 n, v] 25 (0, 0))) :
    (w.cell? ⟨b, 0, none⟩ = some (.int .i64 n) ∧ w.cell? ⟨b, 1, none⟩ = some v) ∧ w.frozen? ⟨b, 0, none⟩ = false ∧ w.frozen? ⟨b, 1, none⟩ = false :=
  ⟨box2_cells h, free2 h⟩

theorem rdKids_none {g : List UInt8 → Option (Int × Y × List UInt8)} {k : Nat} {mb : UInt8} {r : List UInt8} (h : pre [mb] r = false) : rdKids g (k + 1) mb r = none := by
  unfold rdKids; rw [if_neg (by rw [h]; simp)]

theorem rdKids_bad {g : List UInt8 → Option (Int × Y × List UInt8)} {k : Nat} {mb : UInt8} {r : List UInt8} (h : pre [mb] r = true) (hg : g (r.drop 1) = none) : rdKids g (k + 1) mb r = none := by
  unfold rdKids; rw [if_pos h, hg]; rfl

theorem rdKids_push {g : List UInt8 → Option (Int × Y × List UInt8)} {k0 k : Nat} {mb0 mb : UInt8} {r0 r r2 : List UInt8} {acc : Y} {n : Int} {a : Y}
    (hrd : rdKids g k0 mb0 r0 = (rdKids g (k + 1) mb r).map fun x => (acc.app x.1, x.2)) (h : pre [mb] r = true) (hg : g (r.drop 1) = some (n, a, r2)) :
    rdKids g k0 mb0 r0 = (rdKids g k 44 r2).map fun x => ((acc.snoc n a).app x.1, x.2) := by
  have h1 : rdKids g (k + 1) mb r = (rdKids g k 44 r2).map fun y => (Y.cons n a y.1, y.2) := by
    rw [show rdKids g (k + 1) mb r = if pre [mb] r = true then (g (r.drop 1)).bind fun x => (rdKids g k 44 x.2.2).map fun y => (Y.cons x.1 x.2.1 y.1, y.2) else none from rfl, if_pos h, hg]
    rfl
  rw [hrd, h1, Option.map_map]
  congr 1
  funext x
  simp [Y.snoc_app]

set_option maxRecDepth 100000 in
set_option maxHeartbeats 8000000 in
theorem eread_any (S : Sy) (hS : ∀ i, i < S.len → 0 ≤ S.rk i ∧ S.rk i ≤ 4) (hS24 : S.len ≤ 24) (N : Nat) : ∀ (s : List UInt8) (w : World) (R m : Nat) (sp : Option Addr) (sn sc : Nat), s.length < N → s.length ≤ 65536 → Rd w R s → EnvE w R m S sp sn sc →
    Calls Try.prog 75 #[.pointer (some ⟨R, 0, none⟩), .slice sp sn sc, .map (some m)] w (ReadAny (rdE S N s) w R) := by
  obtain ⟨i0, hi0, hz0, hz1', hz2⟩ := info_parts infoY
  induction N with
  | zero => intro s w R m sp sn sc hN; omega
  | succ N ih =>
    intro s w R m sp sn sc hN hs hr hE
    have IH := Lib.hid fun s w h1 h2 h3 h4 => ih s w R m sp sn sc h1 h2 h3 h4
    clear ih
    have hlt := hE.lt
    have HE := Lib.hid hE
    have HRk := Lib.hid hS
    obtain ⟨f, hf⟩ : ∃ f, rdE S (N + 1) s = f := ⟨_, rfl⟩
    rw [hf]
    have HF := Lib.hid hf.symm
    have h0 := alloc_kept hr (.cells #[.int .i64 0, .slice none 0 0] 25)
    have hb := heap_new w (.cells #[.int .i64 0, .slice none 0 0] 25)
    have g0 : w.grownBy (w.alloc (.cells #[.int .i64 0, .slice none 0 0] 25)) (some R) := World.grownBy_alloc w _ _
    clear hf hE hS
    by_cases p95 : pre [95] s = true
    · have c0 := Lib.hid fun W hr => skip_yes R ⟨#[95]⟩ s [95] rfl W hr p95
      have hv : f = some (-1, .nil, s.drop 1) := by rw [HF.out]; unfold rdE; rw [if_pos p95]
      have HV := Lib.hid hv
      clear hv HF hr p95
      go_enter Try.func75, Try.ntmps75
      go_wp2_with fail
      refine (c0.out _ h0).mono ?_
      rintro e w1 ⟨rfl, hw1⟩
      have r1 : Rd w1 R (s.drop 1) := by rw [← hw1]; exact rd_set h0 _
      have g1 : w.grownBy w1 (some R) := by rw [← hw1]; exact grown_set g0 _
      have b1 : w1.heap[w.heap.size]? = some (.cells #[.int .i64 0, .slice none 0 0] 25 (0, 0)) := by
        rw [← hw1, Below.heap_setCell _ _ _ _ (show w.heap.size ≠ R by omega)]; exact hb
      clear hw1 h0 hb g0 c0
      obtain ⟨⟨f11, f12⟩, f21, f22⟩ := tree_box b1
      have hz := lt_of_block b1
      clear b1
      go_wp2_with fail
      refine bodyPost_ret (v := .agg #[.int .i64 (-1), .slice none 0 0]) (by simp [results, Try.results75, go_sem, f11, f12]) rfl (readAny_some HV.out ?_)
      refine ⟨none, 0, rfl, ?_, ownY_nil _ _ _, grown_own2 g1 (Nat.le_refl _) _ _⟩
      unfold Rd
      rw [Below.heap_setCell _ _ _ _ (show R ≠ w.heap.size by omega), Below.heap_setCell _ _ _ _ (show R ≠ w.heap.size by omega)]
      exact r1
    have c0 := Lib.hid fun W hr => skip_no R ⟨#[95]⟩ s [95] rfl W hr (by simpa using p95)
    have hv : f = (rdName s).bind fun x => (idxS S x.1 S.len).bind fun i => (rdKids (rdE S N) (S.rk i).toNat 40 x.2).bind fun y => rdShut i y := by rw [HF.out]; rw [show rdE S (N + 1) s = if pre [95] s = true then some (-1, .nil, s.drop 1) else (rdName s).bind fun x => (idxS S x.1 S.len).bind fun i => (rdKids (rdE S N) (S.rk i).toNat 40 x.2).bind fun y => rdShut i y from rfl, if_neg p95]
    have HV := Lib.hid hv
    clear hv HF hr p95
    go_enter Try.func75, Try.ntmps75
    go_wp2_with fail
    refine (c0.out _ h0).mono ?_
    rintro e w1 ⟨rfl, hw1⟩
    have r1 : Rd w1 R s := by rw [← hw1]; exact rd_set h0 _
    have g1 : w.grownBy w1 (some R) := by rw [← hw1]; exact grown_set g0 _
    have b1 : w1.heap[w.heap.size]? = some (.cells #[.int .i64 0, .slice none 0 0] 25 (0, 0)) := by
      rw [← hw1, Below.heap_setCell _ _ _ _ (show w.heap.size ≠ R by omega)]; exact hb
    clear hw1 h0 hb g0 c0
    cases hh : rdName s with
    | none =>
      have c1 := Lib.hid fun W hr => rname_no R s W hr hs hh
      have HH := Lib.hid hh
      clear hh
      go_wp2_with fail
      refine (c1.out _ r1).mono ?_
      rintro e w2 ⟨rfl, g2⟩
      go_wp2_with fail
      exact ⟨rfl, readAny_none (by rw [HV.out, HH.out]; rfl) ⟨rfl, grown_tr g1 g2⟩⟩
    | some x =>
      obtain ⟨x, r0⟩ := x
      have c1 := Lib.hid fun W hr => rname_yes R s r0 x W hr hs hh
      obtain ⟨hrl, hx24, _⟩ := rdName_lt hh
      have hf2 : f = (idxS S x S.len).bind fun i => (rdKids (rdE S N) (S.rk i).toNat 40 r0).bind fun y => rdShut i y := by rw [HV.out, hh]; rfl
      have HF2 := Lib.hid hf2
      clear hf2 HV hh
      go_wp2_with fail
      refine (c1.out _ r1).mono ?_
      rintro e w2 ⟨rfl, r2, g2⟩
      have g3 := grown_tr g1 g2
      have b2 : w2.heap[w.heap.size]? = some (.cells #[.int .i64 0, .slice none 0 0] 25 (0, 0)) := by
        rw [g2.block _ (lt_of_block b1) (fun e => by injection e; omega)]; exact b1
      have hE2 := HE.out.step g3 ⟨_, r2⟩
      have hlook := mapS_look hE2.map x hx24
      clear g1 g2 r1 b1 c1
      cases hi : idxS S x S.len with
      | none =>
        rw [hi] at hlook
        have HI := Lib.hid hi
        have hlook2 : (Instr.lookup 78 (.map (some m)) (.string x) true).run Try.prog w2 = .ok (.tuple #[.int .i64 (0 : Int), .bool false]) w2 := hlook
        clear hi hlook
        go_wp2_with fail
        refine (fail_any _).mono ?_
        rintro e w3 ⟨rfl, rfl⟩
        go_wp2_with fail
        exact ⟨rfl, readAny_none (by rw [HF2.out, HI.out]; rfl) ⟨rfl, g3⟩⟩
      | some i =>
        rw [hi] at hlook
        have hil := idxS_lt hi
        have hf3 : f = (rdKids (rdE S N) (S.rk i).toNat 40 r0).bind fun y => rdShut i y := by rw [HF2.out, hi]; rfl
        have HF3 := Lib.hid hf3
        have hlook2 : (Instr.lookup 78 (.map (some m)) (.string x) true).run Try.prog w2 = .ok (.tuple #[.int .i64 (i : Int), .bool true]) w2 := hlook
        clear hi hlook hf3 HF2
        obtain ⟨hsl, hscap, hsmax, hsnil, hsrow⟩ := hE2.syms
        subst hsl
        unfold maxLen at hsmax
        rcases hsrow with hz | ⟨sb, so, rfl, hrow⟩
        · omega
        obtain ⟨hk1, hk2⟩ := HRk.out i hil
        obtain ⟨_, hcr⟩ := hrow i hil
        obtain ⟨K, hK⟩ : ∃ K : Nat, (S.rk i).toNat = K := ⟨_, rfl⟩
        have hK2 : S.rk i = (K : Int) := by omega
        have hK4 : K ≤ 4 := by omega
        rw [hK] at HF3
        rw [hK2] at hcr
        clear hK hK2 hk1 hk2 hrow
        have hcr2 := fun o => (keep_alloc w2 o _ _ (lt_of_cell hcr)).trans hcr
        have hii : (i : Int) < (S.len : Int) := by omega
        have hst : Te w (w2.alloc (.cells #[.int .i64 (i : Int), .slice none 0 0] 25)) R w2.heap.size (i : Int) .nil none 0 r0 :=
          ⟨alloc_kept r2 _, GotY.start (World.ownsRow_nil _ _ _ _) (by simp), heap_new _ _, alloc_kept b2 _, grown_new g3 _, hlt, lt_of_block b2⟩
        have hlo := lt_of_block b2
        have HST := Lib.hid hst
        clear hst g3 r2 b2 hE2
        go_wp2_with fail
        clear hcr hcr2
        generalize w2.heap.size = bo at HST hlo ⊢
        go_loopw [10, 31] (fun v u wr => ∃ (j : Nat) (acc : Y) (q : Option Addr) (c : Nat) (r : List UInt8) (mb : UInt8), j ≤ K ∧ u = .int .i64 (j : Int) ∧ v = .string ⟨#[mb]⟩ ∧ acc.len = j ∧ r.length ≤ r0.length ∧ rdKids (rdE S N) K 40 r0 = (rdKids (rdE S N) (K - j) mb r).map (fun x => (acc.app x.1, x.2)) ∧ Te w wr R bo (i : Int) acc q c r)
          (fun _ u _ => K - (intOf u).toNat)
        case atStart => exact ⟨0, .nil, none, 0, r0, 40, Nat.zero_le _, rfl, rfl, rfl, Nat.le_refl _, by rw [Nat.sub_zero]; cases rdKids (rdE S N) K 40 r0 <;> rfl, HST.out⟩
        case round =>
          clear HST
          obtain ⟨j, acc, q, c, r, mb, hj, rfl, rfl, hal, hle, hrd, hT⟩ := hrel
          have HD := Lib.hid hrd
          have HAL := Lib.hid hal
          clear hrd hal
          by_cases hjk : j < K
          · have hKj : K - j = (K - (j + 1)) + 1 := by omega
            rw [hKj] at HD
            clear hKj
            by_cases pm : pre [mb] r = true
            · have hpl := pre_length pm
              simp only [List.length_singleton] at hpl
              have hdl : (r.drop 1).length = r.length - 1 := List.length_drop
              have HDL := Lib.hid hdl
              clear hdl
              have c2 := Lib.hid fun W hr => need_yes R ⟨#[mb]⟩ r [mb] rfl W hr pm
              have PM := Lib.hid pm
              clear pm
              go_wp2_with fail
              refine (c2.out _ hT.rest).mono ?_
              rintro e w3 ⟨rfl, hw3⟩
              have S2 : Te w w3 R bo (i : Int) acc q c (r.drop 1) := by rw [← hw3]; exact hT.skip _
              clear hw3 hT c2
              have SD := S2.drew
              have hED := HE.out.step SD.grown ⟨_, SD.rest⟩
              have HA := Lib.hid (fun W h1 h2 => IH.out (r.drop 1) W (by have := HDL.out; omega) (by have := HDL.out; omega) h1 h2)
              obtain ⟨⟨y1, y2⟩, z1, z2⟩ := tree_box S2.out
              have HS2 := Lib.hid S2
              have HSD := Lib.hid SD
              have HED := Lib.hid hED
              clear S2 SD hED
              cases hh : rdE S N (r.drop 1) with
              | none =>
                have HH := Lib.hid hh
                clear hh
                go_upto_region 11 with fail
                go_region_dies
                all_goals
                  go_wp2_with fail
                  refine (HA.out _ HSD.out.rest HED.out).mono ?_
                  rintro e w4 ⟨_, hn⟩
                  obtain ⟨rfl, g4⟩ := hn HH.out
                  go_wp2_with fail
                  exact ⟨rfl, readAny_none (by rw [HF3.out, HD.out, rdKids_bad PM.out HH.out]; rfl) ⟨rfl, grown_tr HSD.out.grown g4⟩⟩
              | some z =>
                obtain ⟨kn, ka, r4⟩ := z
                have hrl4 := rdE_lt S N _ _ _ _ hh
                have HH := Lib.hid hh
                clear hh
                obtain ⟨xs, hown, hkids⟩ := HSD.out.got
                have hlt2 := lt_of_block HSD.out.out
                have hmx : acc.len + 1 ≤ maxLen := by have := HAL.out; simp only [maxLen]; omega
                have hby : (acc.len + 1) * 32 ≤ 140737488355328 := by have := HAL.out; omega
                have HW := Lib.hid hown
                clear hown
                go_upto_region 11 with fail
                go_region_law (first
                  | (go_simp; go_at_call 75; refine (HA.out _ HSD.out.rest HED.out).mono ?_; rintro e w4 ⟨hy, _⟩; obtain ⟨q1, c1, rfl, r5, hO, g4⟩ := hy _ _ _ HH.out; have S3 := HSD.out.step g4 r5; obtain ⟨⟨ca1, ca2⟩, cb1, cb2⟩ := tree_box S3.out; have oc3 := fun o => (tree_box (alloc_kept S3.out o)).1.2; have hownA := fun o => (HW.out.kept g4 (by cases q with | none => exact Or.inl rfl | some a => exact Or.inr (fun e => by have := (HW.out.lt _ rfl).1; have := HSD.out.ltR; have := HSD.out.lo; simp [Value.ownBlock] at e; simp [Value.ownBlock] at *; omega))).alloc o; have hz3 := lt_of_block S3.out)
                  | (refine step_append_lies (w4.alloc (.cells #[.int .i64 kn, .slice q1 ka.len c1] 25)) rfl (.tmp 37) (.tmp 42) 23 rfl (bo + 1) 25 i0 (.agg #[.int .i64 0, .slice none 0 0]) 2 32 ?_ ?_ ?_ ?_ ?_ ?_ ?_ (.slice q acc.len c) acc.len xs ?_ ?_ ⟨w4.heap.size, 0, none⟩ 1 1 [.int .i64 kn, .slice q1 ka.len c1] ?_ ?_ ?_ ?_ ?_ ?_ ?_ ?_ (w4.heap.size+1) ?_ ?_; exact Try.underlying23; exact hi0; exact hz0; exact hz1'; exact hz2; rfl; exact (by decide); rfl; exact hownA _; rfl; rfl; exact World.news_of_block (heap_new _ _); exact one_two _ _ _ _; exact Nat.one_pos; exact hmx; exact hby; exact base_le _ hz3; exact size_new _ _; intro g cp w9 hown3 hgrow hat hglt; obtain ⟨SP, hh3⟩ := Te.push HSD.out HW.out hkids g4 r5 hO hown3 hgrow hat; obtain ⟨⟨o1, o2⟩, o4, o5⟩ := tree_box hh3))
                all_goals go_wp2_with fail
                all_goals
                  have hq := rdKids_push HD.out PM.out HH.out
                  have hln := Y.len_snoc acc kn ka
                  have HQ := Lib.hid hq
                  have HLn := Lib.hid hln
                  clear hq hln
                  go_roundw
                  case rel => exact ⟨j + 1, acc.snoc kn ka, some ⟨g, 0, none⟩, cp, r4, 44, by omega, by go_num, rfl, by rw [HLn.out, HAL.out], by have := HDL.out; omega, HQ.out, SP⟩
                  case measure => simp [intOf]; omega
            · have pm' : pre [mb] r = false := by simpa using pm
              have c2 := Lib.hid fun W hr => need_no R ⟨#[mb]⟩ r [mb] rfl W hr pm'
              have hend : f = none := by rw [HF3.out, HD.out, rdKids_none pm']; rfl
              have HEn := Lib.hid hend
              clear pm pm' hend
              go_wp2_with fail
              refine (c2.out _ hT.rest).mono ?_
              rintro e w3 ⟨rfl, hw3⟩
              have g4 : w.grownBy w3 (some R) := by rw [← hw3]; exact grown_set hT.grown _
              clear hw3
              go_wp2_with fail
              exact ⟨rfl, readAny_none HEn.out ⟨rfl, g4⟩⟩
          · have hf4 : f = rdShut i (acc, r) := by
              rw [HF3.out, HD.out, show K - j = 0 by omega]
              simp [rdKids, Y.app_nil]
            have HF4 := Lib.hid hf4
            clear hf4
            obtain ⟨⟨y1, y2⟩, z1, z2⟩ := tree_box hT.out
            obtain ⟨⟨x1, x2⟩, v1, v2⟩ := tree_box hT.res
            have hlt5 := lt_of_block hT.out
            have hlt6 := lt_of_block hT.res
            by_cases h00 : acc.len = 0
            · have hd : decide ((0 : Int) < (acc.len : Int)) = false := by simp; omega
              have hf5 : f = some ((i : Int), acc, r) := by rw [HF4.out]; unfold rdShut; rw [if_pos h00]
              have HF5 := Lib.hid hf5
              clear hf5
              have hd2 : decide (0 < acc.len) = false := by simp; omega
              have hd3 : ¬ (0 : Int) < (acc.len : Int) := by omega
              clear h00
              go_wp2_with fail
              obtain ⟨q', c', he, hO⟩ := hT.got.finish
              obtain ⟨rfl, rfl⟩ : q = q' ∧ c = c' := by simpa using he
              refine bodyPost_ret (v := .agg #[.int .i64 (i : Int), .slice q acc.len c]) (by simp [results, Try.results75, go_sem, x1, x2]) rfl (readAny_some HF5.out ?_)
              refine ⟨q, c, rfl, ?_, ?_, grown_own2 hT.grown (Nat.le_refl _) _ _⟩
              · unfold Rd
                rw [Below.heap_setCell _ _ _ _ (show R ≠ w.heap.size by omega), Below.heap_setCell _ _ _ _ (show R ≠ w.heap.size by omega)]
                exact hT.rest
              · rw [size_set2]
                exact (hO.set2 (by omega) _ _).mono (by omega) (Nat.le_refl _)
            · have hd3 : (0 : Int) < (acc.len : Int) := by omega
              by_cases p41 : pre [41] r = true
              · have hf5 : f = some ((i : Int), acc, r.drop 1) := by rw [HF4.out]; unfold rdShut; rw [if_neg h00, if_pos p41]
                have HF5 := Lib.hid hf5
                have c2 := Lib.hid fun W hr => need_yes R ⟨#[41]⟩ r [41] rfl W hr p41
                clear hf5 p41 h00
                go_wp2_with fail
                refine (c2.out _ hT.rest).mono ?_
                rintro e w3 ⟨rfl, hw3⟩
                have S3 : Te w w3 R bo (i : Int) acc q c (r.drop 1) := by rw [← hw3]; exact hT.skip _
                clear hw3 y1 y2 z1 z2 x1 x2 v1 v2 hT
                obtain ⟨⟨y1, y2⟩, z1, z2⟩ := tree_box S3.out
                obtain ⟨⟨x1, x2⟩, v1, v2⟩ := tree_box S3.res
                have hlt5 := lt_of_block S3.out
                have hlt6 := lt_of_block S3.res
                go_wp2_with fail
                obtain ⟨q', c', he, hO⟩ := S3.got.finish
                obtain ⟨rfl, rfl⟩ : q = q' ∧ c = c' := by simpa using he
                refine bodyPost_ret (v := .agg #[.int .i64 (i : Int), .slice q acc.len c]) (by simp [results, Try.results75, go_sem, x1, x2]) rfl (readAny_some HF5.out ?_)
                refine ⟨q, c, rfl, ?_, ?_, grown_own2 S3.grown (Nat.le_refl _) _ _⟩
                · unfold Rd
                  rw [Below.heap_setCell _ _ _ _ (show R ≠ w.heap.size by omega), Below.heap_setCell _ _ _ _ (show R ≠ w.heap.size by omega)]
                  exact S3.rest
                · rw [size_set2]
                  exact (hO.set2 (by omega) _ _).mono (by omega) (Nat.le_refl _)
              · have hf5 : f = none := by rw [HF4.out]; unfold rdShut; rw [if_neg h00, if_neg p41]
                have HF5 := Lib.hid hf5
                have c2 := Lib.hid fun W hr => need_no R ⟨#[41]⟩ r [41] rfl W hr (by simpa using p41)
                clear hf5 p41 h00
                go_wp2_with fail
                refine (c2.out _ hT.rest).mono ?_
                rintro e w3 ⟨rfl, hw3⟩
                have g4 : w.grownBy w3 (some R) := by rw [← hw3]; exact grown_set hT.grown _
                clear hw3
                go_wp2_with fail
                exact ⟨rfl, readAny_none HF5.out ⟨rfl, g4⟩⟩

end Go.Proofs.Yteolfpdkpihnlaa

/-
  The walk of All at a tree's reader: it recovers what the reader panics with. Conditions: a text of at most 65536 bytes.
-/
set_option linter.unusedSimpArgs false
set_option linter.unusedVariables false
namespace Go.Proofs.Yteolfpdkpihnlaa
open Go.RowKit Go.Maps

/-- two cells written -/
def put2 (w : World) (b : Nat) (x y : Value) : World := (w.setCell ⟨b, 0, none⟩ x).setCell ⟨b, 1, none⟩ y

theorem put2_far {w : World} {b j : Nat} {x y : Value} (h : j ≠ b) : (put2 w b x y).heap[j]? = w.heap[j]? := by
  unfold put2
  rw [Below.heap_setCell _ _ _ _ h, Below.heap_setCell _ _ _ _ h]

theorem put2_box {w : World} {b : Nat} {u v x y : Value} {ty : TypeId} (h : w.heap[b]? = some (.cells #[u, v] ty (0, 0))) : (put2 w b x y).heap[b]? = some (.cells #[x, y] ty (0, 0)) := by
  have h1 := heap_setCell_same w b 0 #[u, v] ty x h
  have h2 := heap_setCell_same (w.setCell ⟨b, 0, none⟩ x) b 1 #[x, v] ty y (by simpa using h1)
  unfold put2
  simpa using h2

theorem put2_own {w : World} {b : Nat} {x y : Value} {t : Y} {q : Option Addr} {c lo hi : Nat} (h : OwnY w t q c lo hi) (hb : b < lo) : OwnY (put2 w b x y) t q c lo hi :=
  h.keep fun k hk _ => put2_far (by omega)

def zY : Obj := .cells #[.int .i64 0, .slice none 0 0] 25

theorem catchY_panicking (bp bq : Nat) {x y : Value} {v : Value} {ty : TypeId} (u : TypeId) (pv : Value) (older : List PanicEntry) (w : World) (hp : w.heap[bp]? = some (.cells #[x, y] 25 (0, 0))) (hq : w.heap[bq]? = some (.cells #[v] ty (0, 0))) (hn : bq ≠ bp) :
    CallsD Try.prog 91 #[.pointer (some ⟨bp, 0, none⟩), .pointer (some ⟨bq, 0, none⟩)] (.panicking ({ v := .iface u pv, recovered := false } :: older)) w fun e u' w' =>
      e = .returned (.tuple #[]) ∧ u' = .panicking ({ v := .iface u pv, recovered := true } :: older) ∧ w'.heap[bp]? = some zY ∧ w'.cell? ⟨bq, 0, none⟩ = some (.bool false) ∧ ∀ B, B ≤ bp → B ≤ bq → B ≤ w.heap.size → Below B w w' := by
  obtain ⟨⟨n1, n2⟩, _⟩ := tree_box (heap_new w (.cells #[.int .i64 0, .slice none 0 0] 25))
  have hpA := alloc_kept hp (.cells #[.int .i64 0, .slice none 0 0] 25)
  have ca : (w.alloc (.cells #[.int .i64 0, .slice none 0 0] 25)).cell? ⟨bp, 0, none⟩ = some x := by simp [World.cell?, hpA]
  have cb : (w.alloc (.cells #[.int .i64 0, .slice none 0 0] 25)).cell? ⟨bp, 1, none⟩ = some y := by simp [World.cell?, hpA]
  obtain ⟨b1, b2⟩ := free2 hpA
  have hbx := put2_box (x := .int .i64 0) (y := .slice none 0 0) hpA
  have hqA : (put2 (w.alloc (.cells #[.int .i64 0, .slice none 0 0] 25)) bp (.int .i64 0) (.slice none 0 0)).heap[bq]? = some (.cells #[v] ty (0, 0)) := (put2_far hn).trans (alloc_kept hq _)
  have hc2 := cell_of_one hqA
  have hz2 := free_of_one hqA
  have hfin : ((put2 (w.alloc (.cells #[.int .i64 0, .slice none 0 0] 25)) bp (.int .i64 0) (.slice none 0 0)).setCell ⟨bq, 0, none⟩ (.bool false)).heap[bp]? = some zY := (Below.heap_setCell _ _ _ _ (Ne.symm hn)).trans hbx
  have hfb : ∀ B, B ≤ bp → B ≤ bq → B ≤ w.heap.size → Below B w ((put2 (w.alloc (.cells #[.int .i64 0, .slice none 0 0] 25)) bp (.int .i64 0) (.slice none 0 0)).setCell ⟨bq, 0, none⟩ (.bool false)) := fun B h1 h2 h3 =>
    ((((Below.refl B w).alloc h3 _).setCell (p := ⟨bp, 0, none⟩) h1 _).setCell (p := ⟨bp, 1, none⟩) h1 _).setCell h2 _
  unfold put2 at hc2 hz2 hfin hfb
  have HFI := Lib.hid hfin
  have HFB := Lib.hid hfb
  clear hfin hfb hqA hbx
  refine callsD_of_wpS Try.func91 rfl fun c₀ cs hu => ?_
  apply wpS_seq
  apply wpS_region
  simp [wpOpsS, go_sem, recoverD, hu, Try.ntmps91, Exit.thenS]
  refine wpS_cond (t := true) (by simp [Act.eval, Array.replicate]) ?_
  simp only [if_true]
  apply wpS_seq
  apply wpS_region
  simp [wpOpsS, go_sem, Exit.thenS, Try.zeroValue25, Try.isAgg25, Try.sizeOf25, Try.underlying25, Array.replicate]
  apply wpS_region
  simp [wpOpsS, go_sem, n1, n2, ca, cb, b1, b2, hc2, hz2, bodyPostS, results, Try.results91]
  exact ⟨HFI.out, HFB.out⟩

theorem catchY_idle (p q : Addr) (w : World) :
    CallsD Try.prog 91 #[.pointer (some p), .pointer (some q)] .returning w fun e u' w' => e = .returned (.tuple #[]) ∧ u' = .returning ∧ w' = w := by
  refine callsD_of_wpS Try.func91 rfl fun c₀ cs hu => ?_
  apply wpS_seq
  apply wpS_region
  simp [wpOpsS, go_sem, recoverD, hu, Try.ntmps91, Exit.thenS]
  refine wpS_cond (t := false) (by simp [Act.eval, Array.replicate]) ?_
  simp only [Bool.false_eq_true, if_false]
  refine wpS_of_wp (wp_skip ?_)
  cases c₀
  simp_all [bodyPostS, results, Try.results91]

theorem ended_any (b : Nat) (s : List UInt8) (w : World) (hr : Rd w b s) :
    Calls Try.prog 92 #[.pointer (some ⟨b, 0, none⟩)] w fun e w' => e = .returned (.bool s.isEmpty) ∧ w = w' := by
  have c1 := cell_of_one hr
  clear hr
  go_enter Try.func92, Try.ntmps92
  go_wp2_with fail
  go_ret
  exact ⟨rfl, rfl⟩

set_option maxHeartbeats 1600000 in
/-- the function that Get hands to All -/
theorem getfn_any (S : Sy) (hS : ∀ i, i < S.len → 0 ≤ S.rk i ∧ S.rk i ≤ 4) (hS24 : S.len ≤ 24) (N : Nat) (s : List UInt8) (w : World) (R m bs bm : Nat) (sp : Option Addr) (sn sc : Nat) (hN : s.length < N) (hs : s.length ≤ 65536) (hr : Rd w R s) (hE : EnvE w R m S sp sn sc)
    (hbs : w.heap[bs]? = some (.cells #[.slice sp sn sc] 44 (0, 0))) (hbm : w.heap[bm]? = some (.cells #[.map (some m)] 78 (0, 0))) :
    Calls Try.prog 74 #[.pointer (some ⟨R, 0, none⟩), .pointer (some ⟨bs, 0, none⟩), .pointer (some ⟨bm, 0, none⟩)] w (ReadAny (rdE S N s) w R) := by
  have hlt := hE.lt
  have h0 := alloc_kept hr (.cells #[.int .i64 0, .slice none 0 0] 25)
  have g0 : w.grownBy (w.alloc (.cells #[.int .i64 0, .slice none 0 0] 25)) (some R) := World.grownBy_alloc w _ _
  have hE0 := hE.step g0 ⟨_, h0⟩
  have hb := heap_new w (.cells #[.int .i64 0, .slice none 0 0] 25)
  have hc := Lib.hid (eread_any S hS hS24 N s _ R m sp sn sc hN hs h0 hE0)
  have x1 := cell_of_one hbs
  have x2 := cell_of_one hbm
  have x3 := lt_of_block hbs
  have x4 := lt_of_block hbm
  generalize rdE S N s = f at hc ⊢
  clear hr hE hE0 hbs hbm h0 hS
  go_enter Try.func74, Try.ntmps74
  go_wp2_with fail
  refine (hc.out).mono ?_
  rintro e w1 ⟨hy, hn⟩
  cases f with
  | none =>
    obtain ⟨rfl, g1⟩ := hn rfl
    clear hy hn
    go_wp2_with fail
    exact ⟨rfl, readAny_none rfl ⟨rfl, grown_tr g0 g1⟩⟩
  | some z =>
    obtain ⟨n, a, r⟩ := z
    obtain ⟨q, c, rfl, r1, hO, g1⟩ := hy _ _ _ rfl
    clear hy hn
    have b1 : w1.heap[w.heap.size]? = some (.cells #[.int .i64 0, .slice none 0 0] 25 (0, 0)) := by
      rw [g1.block _ (by simp) (fun e => by injection e; omega)]; exact hb
    have g2 := grown_tr g0 g1
    have hsz : (w.alloc (.cells #[.int .i64 0, .slice none 0 0] 25)).heap.size = w.heap.size + 1 := by simp
    rw [hsz] at hO
    obtain ⟨⟨f1, f2⟩, z1, z2⟩ := tree_box b1
    have hz := lt_of_block b1
    clear b1 g0 g1 hb hsz
    go_wp2_with fail
    refine bodyPost_ret (v := .agg #[.int .i64 n, .slice q a.len c]) (by simp [results, Try.results74, go_sem, f1, f2]) rfl (readAny_some rfl ?_)
    refine ⟨q, c, rfl, ?_, ?_, grown_own2 g2 (Nat.le_refl _) _ _⟩
    · unfold Rd
      rw [Below.heap_setCell _ _ _ _ (show R ≠ w.heap.size by omega), Below.heap_setCell _ _ _ _ (show R ≠ w.heap.size by omega)]
      exact r1
    · rw [size_set2]
      exact (hO.set2 (by omega) _ _).mono (by omega) (Nat.le_refl _)

/-- the three blocks that All has made: the results and the reader -/
def W3Y (w : World) (s : List UInt8) : World := ((w.alloc (.cells #[.int .i64 0, .slice none 0 0] 25)).alloc (.cells #[.bool false] 4)).alloc (.cells #[.string ⟨s.toArray⟩] 102)

theorem W3Y_facts (w : World) (s : List UInt8) : Rd (W3Y w s) (w.heap.size + 1 + 1) s ∧ (W3Y w s).heap.size = w.heap.size + 3 ∧ (W3Y w s).heap[w.heap.size]? = some zY ∧ (W3Y w s).heap[w.heap.size + 1]? = some (.cells #[.bool false] 4 (0, 0)) ∧ Below w.heap.size w (W3Y w s) := by
  refine ⟨?_, by simp [W3Y], alloc_kept (alloc_kept (heap_new _ _) _) _, alloc_kept (heap_new2 _ _ _) _, below3 w _ _ _⟩
  have := heap_new2 (w.alloc (.cells #[.int .i64 0, .slice none 0 0] 25)) (.cells #[.bool false] 4) (.cells #[.string ⟨s.toArray⟩] 102)
  simp only [World.size_alloc] at this
  exact this

theorem after_tree {w w1 : World} {s : List UInt8} (hg : (W3Y w s).grownBy w1 (some (w.heap.size + 1 + 1))) :
    w1.heap[w.heap.size]? = some (.cells #[.int .i64 0, .slice none 0 0] 25 (0, 0)) ∧ w1.heap[w.heap.size + 1]? = some (.cells #[.bool false] 4 (0, 0)) ∧ Below w.heap.size w w1 := by
  obtain ⟨_, hz, h0, h1, hb⟩ := W3Y_facts w s
  refine ⟨?_, ?_, hb.trans ⟨hg.os, hg.tape, hg.output, hg.size, fun k hk => hg.block k (by omega) (fun e => by injection e; omega)⟩⟩
  · rw [hg.block _ (by omega) (fun e => by injection e; omega)]; exact h0
  · rw [hg.block _ (by omega) (fun e => by injection e; omega)]; exact h1

def TreeBad (w : World) (e : Ending) (w' : World) : Prop := e = .returned (.tuple #[.agg #[.int .i64 0, .slice none 0 0], .bool false]) ∧ Below w.heap.size w w'

def TreeGot (w : World) (n : Int) (a : Y) (e : Ending) (w' : World) : Prop :=
  ∃ q c, e = .returned (.tuple #[.agg #[.int .i64 n, .slice q a.len c], .bool true]) ∧ OwnY w' a q c w.heap.size w'.heap.size ∧ Below w.heap.size w w'

/-- what All is called with: symbols and a map in boxes -/
structure InE (w : World) (m bs bm : Nat) (S : Sy) (sp : Option Addr) (sn sc : Nat) : Prop where
  syms : IsS w S sp sn sc
  map : MapS w m S S.len
  hbs : w.heap[bs]? = some (.cells #[.slice sp sn sc] 44 (0, 0))
  hbm : w.heap[bm]? = some (.cells #[.map (some m)] 78 (0, 0))

theorem InE.env {w : World} {m bs bm : Nat} {S : Sy} {sp : Option Addr} {sn sc : Nat} (h : InE w m bs bm S sp sn sc) (s : List UInt8) :
    EnvE (W3Y w s) (w.heap.size + 1 + 1) m S sp sn sc ∧ (W3Y w s).heap[bs]? = some (.cells #[.slice sp sn sc] 44 (0, 0)) ∧ (W3Y w s).heap[bm]? = some (.cells #[.map (some m)] 78 (0, 0)) := by
  obtain ⟨hr, hz, _, _, hb⟩ := W3Y_facts w s
  obtain ⟨_, _, e1⟩ := mapS_block h.map
  have hm := lt_of_block e1
  exact ⟨⟨((h.syms.alloc _).alloc _).alloc _, mapS_far h.map (hb.block m hm), by omega, by omega, ⟨_, hr⟩⟩, alloc_kept (alloc_kept (alloc_kept h.hbs _) _) _, alloc_kept (alloc_kept (alloc_kept h.hbm _) _) _⟩

section
variable (S : Sy) (hS : ∀ i, i < S.len → 0 ≤ S.rk i ∧ S.rk i ≤ 4) (hS24 : S.len ≤ 24) (s : List UInt8) (w : World) (m bs bm : Nat) (sp : Option Addr) (sn sc : Nat) (hs : s.length ≤ 65536) (hI : InE w m bs bm S sp sn sc)
include hS hS24 hs hI

set_option maxHeartbeats 1600000 in
theorem allY_none (h : rdE S (s.length + 1) s = none) :
    Calls Try.prog 73 #[.string ⟨s.toArray⟩, .func (Fn.func 74) #[] #[.pointer (some ⟨bs, 0, none⟩), .pointer (some ⟨bm, 0, none⟩)]] w (TreeBad w) := by
  have hmf : ∀ (fn : Fn) (first cap : Array Value) (w : World), (Instr.makeFunc fn first cap).run Try.prog w = .ok (.func fn first cap) w := fun _ _ _ _ => rfl
  obtain ⟨r3, hz3, _, _, b3⟩ := W3Y_facts w s
  obtain ⟨hE, e1, e2⟩ := hI.env s
  have hc := Lib.hid ((getfn_any S hS hS24 (s.length + 1) s (W3Y w s) (w.heap.size + 1 + 1) m bs bm sp sn sc (Nat.lt_succ_self _) hs r3 hE e1 e2).mono fun e w' hh => hh.2 h)
  clear h hI hE e1 e2 hS
  go_enter_defers Try.func73, Try.ntmps73
  go_wp2_with fail
  refine (hc.out).mono ?_
  rintro e w1 ⟨rfl, hg⟩
  obtain ⟨h0, h1, hb⟩ := after_tree hg
  go_wp2_with fail
  refine leaves_cons (f := 91) (args := #[.pointer (some ⟨w.heap.size, 0, none⟩), .pointer (some ⟨w.heap.size + 1, 0, none⟩)]) (by simp) (by simp [go_sem]) ?_
  refine (catchY_panicking w.heap.size (w.heap.size + 1) _ _ [] _ h0 h1 (by omega)).mono ?_
  rintro e u' w'' ⟨rfl, rfl, k0, l0, hB⟩
  obtain ⟨⟨k1, k2⟩, _⟩ := tree_box k0
  simp [Leaves, settle, results, Try.results73, go_sem, k1, k2, l0]
  exact ⟨rfl, hb.trans (hB _ (Nat.le_refl _) (by omega) hb.size)⟩

set_option maxHeartbeats 1600000 in
theorem allY_more (n : Int) (a : Y) (r : List UInt8) (h : rdE S (s.length + 1) s = some (n, a, r)) (hr : r.isEmpty = false) :
    Calls Try.prog 73 #[.string ⟨s.toArray⟩, .func (Fn.func 74) #[] #[.pointer (some ⟨bs, 0, none⟩), .pointer (some ⟨bm, 0, none⟩)]] w (TreeBad w) := by
  have hmf : ∀ (fn : Fn) (first cap : Array Value) (w : World), (Instr.makeFunc fn first cap).run Try.prog w = .ok (.func fn first cap) w := fun _ _ _ _ => rfl
  obtain ⟨r3, hz3, _, _, b3⟩ := W3Y_facts w s
  obtain ⟨hE, e1, e2⟩ := hI.env s
  have hc := Lib.hid ((getfn_any S hS hS24 (s.length + 1) s (W3Y w s) (w.heap.size + 1 + 1) m bs bm sp sn sc (Nat.lt_succ_self _) hs r3 hE e1 e2).mono fun e w' hh => hh.1 n a r h)
  have HE := Lib.hid fun b W hd => ended_any b r W hd
  rw [hr] at HE
  clear h hI hE e1 e2 hS hr
  go_enter_defers Try.func73, Try.ntmps73
  go_wp2_with fail
  refine (hc.out).mono ?_
  rintro e w1 ⟨q, c, rfl, hrd, hO, hg⟩
  obtain ⟨h0, h1, hb⟩ := after_tree hg
  obtain ⟨⟨a1, a2⟩, b1, b2⟩ := tree_box h0
  have h0' := put2_box (x := .int .i64 n) (y := .slice q a.len c) h0
  have h1' : (put2 w1 w.heap.size (.int .i64 n) (.slice q a.len c)).heap[w.heap.size + 1]? = some (.cells #[.bool false] 4 (0, 0)) := (put2_far (by omega)).trans h1
  have hr' : Rd (put2 w1 w.heap.size (.int .i64 n) (.slice q a.len c)) (w.heap.size + 1 + 1) r := (put2_far (by omega)).trans hrd
  have hb' : Below w.heap.size w (put2 w1 w.heap.size (.int .i64 n) (.slice q a.len c)) := (hb.setCell (p := ⟨w.heap.size, 0, none⟩) (Nat.le_refl _) _).setCell (p := ⟨w.heap.size, 1, none⟩) (Nat.le_refl _) _
  have H1 := Lib.hid (And.intro h0' (And.intro h1' hb'))
  unfold put2 at hr' H1
  clear h0' h1' hb' hO
  go_wp2_with fail
  refine (HE.out _ _ hr').mono ?_
  rintro e w2 ⟨rfl, rfl⟩
  go_wp2_with fail
  refine (fail_any _).mono ?_
  rintro e w2 ⟨rfl, rfl⟩
  go_wp2_with fail
  refine leaves_cons (f := 91) (args := #[.pointer (some ⟨w.heap.size, 0, none⟩), .pointer (some ⟨w.heap.size + 1, 0, none⟩)]) (by simp) (by simp [go_sem]) ?_
  refine (catchY_panicking w.heap.size (w.heap.size + 1) _ _ [] _ H1.out.1 H1.out.2.1 (by omega)).mono ?_
  rintro e u' w'' ⟨rfl, rfl, k0, l0, hB⟩
  obtain ⟨⟨k1, k2⟩, _⟩ := tree_box k0
  simp [Leaves, settle, results, Try.results73, go_sem, k1, k2, l0]
  exact ⟨rfl, H1.out.2.2.trans (hB _ (Nat.le_refl _) (by omega) H1.out.2.2.size)⟩

set_option maxHeartbeats 1600000 in
theorem allY_ok (n : Int) (a : Y) (h : rdE S (s.length + 1) s = some (n, a, [])) :
    Calls Try.prog 73 #[.string ⟨s.toArray⟩, .func (Fn.func 74) #[] #[.pointer (some ⟨bs, 0, none⟩), .pointer (some ⟨bm, 0, none⟩)]] w (TreeGot w n a) := by
  have hmf : ∀ (fn : Fn) (first cap : Array Value) (w : World), (Instr.makeFunc fn first cap).run Try.prog w = .ok (.func fn first cap) w := fun _ _ _ _ => rfl
  obtain ⟨r3, hz3, _, _, b3⟩ := W3Y_facts w s
  obtain ⟨hE, e1, e2⟩ := hI.env s
  have hc := Lib.hid ((getfn_any S hS hS24 (s.length + 1) s (W3Y w s) (w.heap.size + 1 + 1) m bs bm sp sn sc (Nat.lt_succ_self _) hs r3 hE e1 e2).mono fun e w' hh => hh.1 n a [] h)
  have HE := Lib.hid fun b W hd => ended_any b [] W hd
  clear h hI hE e1 e2 hS
  go_enter_defers Try.func73, Try.ntmps73
  go_wp2_with fail
  refine (hc.out).mono ?_
  rintro e w1 ⟨q, c, rfl, hrd, hO, hg⟩
  rw [hz3] at hO
  obtain ⟨h0, h1, hb⟩ := after_tree hg
  obtain ⟨⟨a1, a2⟩, b1, b2⟩ := tree_box h0
  have h0' := put2_box (x := .int .i64 n) (y := .slice q a.len c) h0
  have h1' : (put2 w1 w.heap.size (.int .i64 n) (.slice q a.len c)).heap[w.heap.size + 1]? = some (.cells #[.bool false] 4 (0, 0)) := (put2_far (by omega)).trans h1
  have hr' : Rd (put2 w1 w.heap.size (.int .i64 n) (.slice q a.len c)) (w.heap.size + 1 + 1) [] := (put2_far (by omega)).trans hrd
  have hb' : Below w.heap.size w (put2 w1 w.heap.size (.int .i64 n) (.slice q a.len c)) := (hb.setCell (p := ⟨w.heap.size, 0, none⟩) (Nat.le_refl _) _).setCell (p := ⟨w.heap.size, 1, none⟩) (Nat.le_refl _) _
  have hO' : OwnY (put2 w1 w.heap.size (.int .i64 n) (.slice q a.len c)) a q c (w.heap.size + 3) w1.heap.size := put2_own hO (by omega)
  obtain ⟨⟨k1, k2⟩, z1, z2⟩ := tree_box h0'
  have l0 := cell_of_one h1'
  have l1 := free_of_one h1'
  have h0'' := put2_box (x := .int .i64 n) (y := .slice q a.len c) h0'
  have h1'' := (put2_far (x := .int .i64 n) (y := .slice q a.len c) (show w.heap.size + 1 ≠ w.heap.size by omega)).trans h1'
  have hO'' := put2_own (x := .int .i64 n) (y := .slice q a.len c) hO' (show w.heap.size < w.heap.size + 3 by omega)
  have l2 := cell_of_one h1''
  have l3 := free_of_one h1''
  have hb'' := (hb'.setCell (p := ⟨w.heap.size, 0, none⟩) (Nat.le_refl _) (.int .i64 n)).setCell (p := ⟨w.heap.size, 1, none⟩) (Nat.le_refl _) (.slice q a.len c)
  have hbx := (Below.heap_setCell (put2 (put2 w1 w.heap.size (.int .i64 n) (.slice q a.len c)) w.heap.size (.int .i64 n) (.slice q a.len c)) ⟨w.heap.size + 1, 0, none⟩ (.bool true) w.heap.size (by show w.heap.size ≠ w.heap.size + 1; omega)).trans h0''
  obtain ⟨⟨x1, x2⟩, _⟩ := tree_box hbx
  have H1 := Lib.hid (And.intro hO'' hb'')
  have hz1 : w.heap.size + 3 ≤ w1.heap.size := by have := hg.size; omega
  clear h0' h1' hb' hO' hO hO'' hb'' h0'' h1'' hbx
  unfold put2 at hr' k1 k2 z1 z2 l0 l1 l2 l3 x1 x2 H1
  go_wp2_with fail
  refine (HE.out _ _ hr').mono ?_
  rintro e w2 ⟨rfl, rfl⟩
  go_wp2_with fail
  refine leaves_cons (f := 91) (args := #[.pointer (some ⟨w.heap.size, 0, none⟩), .pointer (some ⟨w.heap.size + 1, 0, none⟩)]) (by simp) (by simp [go_sem]) ?_
  refine (catchY_idle ⟨w.heap.size, 0, none⟩ ⟨w.heap.size + 1, 0, none⟩ _).mono ?_
  rintro e u' w'' ⟨rfl, rfl, rfl⟩
  simp [Leaves, settle, results, Try.results73, go_sem, x1, x2, l2]
  refine ⟨q, c, rfl, ?_, H1.out.2.setCell (by simp) _⟩
  refine ((H1.out.1.set (a := ⟨w.heap.size + 1, 0, none⟩) (show w.heap.size + 1 < w.heap.size + 3 by omega) _).mono (by omega) ?_)
  simp [World.setCell]

end

end Go.Proofs.Yteolfpdkpihnlaa

/-
  The walks of ranksOf, the program's and the reference's. Conditions: at most 1000000 symbols.
-/
set_option linter.unusedSimpArgs false
set_option linter.unusedVariables false
namespace Go.Proofs.Yteolfpdkpihnlaa
open Go.RowKit

theorem infoI6 : (Try.prog.info? 3).map (fun i => (i.zero, i.size, i.bytes)) = some (some (.int .i64 0), 1, 8) := by kernel_rfl

def intE (x : Int) : Value := .int .i64 x

/-- the ranks of symbols -/
def ranksE (S : Sy) : List Int := (List.range S.len).map S.rk

theorem ranksE_len (S : Sy) : (ranksE S).length = S.len := by simp [ranksE]

theorem isL_own {w : World} {B n : Nat} {v : Value} {l : List Int} (h : w.ownsRow B 3 1 v n (l.map intE)) : ∃ q c, v = .slice q l.length c ∧ IsL w l q l.length c ∧ ∀ a, q = some a → a.block < w.heap.size := by
  have hn : n = l.length := by have := h.1; simpa using this.symm
  subst hn
  have hlt := h.lt
  rcases h.2 with ⟨rfl, h0⟩ | ⟨g, cap, cur, rfl, _, hg, hc, hm, hs, ht⟩
  · exact ⟨none, 0, by rw [h0], ⟨rfl, by omega, by simp [maxLen], fun _ => rfl, Or.inl h0⟩, fun a e => by cases e⟩
  · refine ⟨some ⟨g, 0, none⟩, cap, rfl, ⟨rfl, hc, hm, fun e => by simp at e, Or.inr ⟨g, 0, rfl, fun i hi => ?_⟩⟩, fun a e => by injection e with e; subst e; exact lt_of_block hg⟩
    have h2 := h.cellAt i (by omega)
    rw [Nat.zero_add, h2, List.getElem?_map, List.getD_eq_getElem?_getD, List.getElem?_eq_getElem hi]; rfl

theorem range_snoc (f : Nat → Int) (j : Nat) : (((List.range j).map f).map intE) ++ [.int .i64 (f j)] = ((List.range (j + 1)).map f).map intE := by
  rw [List.range_succ, List.map_append, List.map_append]; rfl

theorem ownsRow1_later {wr w1 : World} {B : Nat} {ty : TypeId} {v : Value} {n : Nat} {xs : List Value} (h : wr.ownsRow B ty 1 v n xs) (hb : Below wr.heap.size wr w1) : w1.ownsRow B ty 1 v n xs := by
  refine h.kept (row := none) ⟨hb.os, hb.tape, hb.output, hb.size, fun k hk _ => hb.block k hk⟩ ?_
  cases v.ownBlock with
  | none => exact Or.inl rfl
  | some g => exact Or.inr (by simp)

/-- what ranksOf returns -/
def RanksPost (S : Sy) (w : World) (e : Ending) (w' : World) : Prop := ∃ q c, e = .returned (.slice q (ranksE S).length c) ∧ IsL w' (ranksE S) q (ranksE S).length c ∧ (∀ a, q = some a → a.block < w'.heap.size) ∧ Below w.heap.size w w'

set_option maxRecDepth 100000 in
set_option maxHeartbeats 1600000 in
theorem eranks_any (S : Sy) (w : World) (p : Option Addr) (n cap : Nat) (his : IsS w S p n cap) (hn6 : S.len ≤ 1000000) :
    Calls Try.prog 68 #[.slice p n cap] w (RanksPost S w) := by
  obtain ⟨i0, hi0, hz0, hz1', hz2⟩ := info_parts infoI6
  obtain ⟨hn, hcap, hmax, hnil, hrow⟩ := his
  subst hn
  unfold maxLen at hmax
  go_enter Try.func68, Try.ntmps68
  go_wp2_with fail
  go_loopw [3, 8] (fun v i wr => ∃ (j : Nat) (q : Option Addr) (c : Nat), j ≤ S.len ∧ i = .int .i64 (j : Int) ∧ v = .slice q j c ∧ wr.ownsRow w.heap.size 3 1 (.slice q j c) j (((List.range j).map S.rk).map intE) ∧ Below w.heap.size w wr)
    (fun _ i _ => S.len - (intOf i).toNat)
  case atStart => exact ⟨0, none, 0, Nat.zero_le _, rfl, rfl, World.ownsRow_nil _ _ _ _, Below.refl _ _⟩
  case round =>
    obtain ⟨j, q, c, hj, rfl, rfl, hown, hb⟩ := hrel
    have HW := Lib.hid hown
    clear hown
    by_cases hlt : j < S.len
    · rcases hrow with h0 | ⟨b, off, rfl, hr⟩
      · omega
      obtain ⟨c1, c2⟩ := hr j hlt
      have d1 := ((bcell hb).1 _ _ (lt_of_cell c1)).trans c1
      have d2 := ((bcell hb).1 _ _ (lt_of_cell c2)).trans c2
      have hz := hb.size
      have hownA : ∀ o o', ((wr.alloc o).alloc o').ownsRow w.heap.size 3 1 (.slice q j c) j (((List.range j).map S.rk).map intE) := fun o o' => (HW.out.alloc o).alloc o'
      have hlt3 := HW.out.lt
      have HLT := Lib.hid hlt3
      have hmx : j + 1 ≤ maxLen := by simp only [maxLen]; omega
      have hrs := Lib.hid (range_snoc S.rk j)
      generalize ((List.range j).map S.rk).map intE = xs at *
      generalize S.rk j = rj at *
      clear c1 c2 hr hlt3
      go_wp2_with (at_builtin; refine wpList_append_lies _ rfl _ _ 22 rfl w.heap.size 3 i0 (.int .i64 0) 1 8 Try.underlying22 hi0 hz0 hz1' hz2 rfl (by decide) _ j xs rfl (hownA _ _) ⟨wr.heap.size + 1, 0, none⟩ 1 1 [.int .i64 rj] rfl rfl (World.news_of_block (by simpa using heap_new (wr.alloc _) (.cells #[.int .i64 rj] 3))) (by simp [Value.oneCell']) (by decide) hmx (by omega) (by simp; omega) (wr.heap.size + 2) (by simp) ?_; intro g3 cp w3 hown3 hgrow hat hglt)
      have hb3 : Below w.heap.size w w3 := ((hb.alloc hz _).alloc (by simp; omega) _).grown hgrow (by simp; omega) fun k hk => (HLT.out k hk).1
      rw [hrs.out] at hown3
      clear hgrow hat hownA
      go_roundw
      case rel => exact ⟨j + 1, some ⟨g3, 0, none⟩, cp, by omega, by go_num, rfl, hown3, hb3⟩
      case measure => simp [intOf]; omega
    · obtain rfl : j = S.len := by omega
      go_wp2_with fail
      go_ret
      have hown := HW.out
      change wr.ownsRow w.heap.size 3 1 (.slice q S.len c) S.len ((ranksE S).map intE) at hown
      obtain ⟨q', c', he, h1, h2⟩ := isL_own hown
      exact ⟨q', c', by rw [← he]; rfl, h1, h2, hb⟩

set_option maxRecDepth 100000 in
set_option maxHeartbeats 1600000 in
theorem erefranksof_any (S : Sy) (w : World) (p : Option Addr) (n cap : Nat) (his : IsS w S p n cap) (hn6 : S.len ≤ 1000000) :
    Calls Try.prog 42 #[.slice p n cap] w (RanksPost S w) := by
  obtain ⟨i0, hi0, hz0, hz1', hz2⟩ := info_parts infoI6
  obtain ⟨hn, hcap, hmax, hnil, hrow⟩ := his
  subst hn
  unfold maxLen at hmax
  go_enter Try.func42, Try.ntmps42
  go_wp2_with fail
  go_loopw [3, 8] (fun v i wr => ∃ (j : Nat) (q : Option Addr) (c : Nat), j ≤ S.len ∧ i = .int .i64 (j : Int) ∧ v = .slice q j c ∧ wr.ownsRow w.heap.size 3 1 (.slice q j c) j (((List.range j).map S.rk).map intE) ∧ Below w.heap.size w wr)
    (fun _ i _ => S.len - (intOf i).toNat)
  case atStart => exact ⟨0, none, 0, Nat.zero_le _, rfl, rfl, World.ownsRow_nil _ _ _ _, Below.refl _ _⟩
  case round =>
    obtain ⟨j, q, c, hj, rfl, rfl, hown, hb⟩ := hrel
    have HW := Lib.hid hown
    clear hown
    by_cases hlt : j < S.len
    · rcases hrow with h0 | ⟨b, off, rfl, hr⟩
      · omega
      obtain ⟨c1, c2⟩ := hr j hlt
      have d1 := ((bcell hb).1 _ _ (lt_of_cell c1)).trans c1
      have d2 := ((bcell hb).1 _ _ (lt_of_cell c2)).trans c2
      have hz := hb.size
      have hownA : ∀ o o', ((wr.alloc o).alloc o').ownsRow w.heap.size 3 1 (.slice q j c) j (((List.range j).map S.rk).map intE) := fun o o' => (HW.out.alloc o).alloc o'
      have hlt3 := HW.out.lt
      have HLT := Lib.hid hlt3
      have hmx : j + 1 ≤ maxLen := by simp only [maxLen]; omega
      have hrs := Lib.hid (range_snoc S.rk j)
      generalize ((List.range j).map S.rk).map intE = xs at *
      generalize S.rk j = rj at *
      clear c1 c2 hr hlt3
      go_wp2_with (at_builtin; refine wpList_append_lies _ rfl _ _ 22 rfl w.heap.size 3 i0 (.int .i64 0) 1 8 Try.underlying22 hi0 hz0 hz1' hz2 rfl (by decide) _ j xs rfl (hownA _ _) ⟨wr.heap.size + 1, 0, none⟩ 1 1 [.int .i64 rj] rfl rfl (World.news_of_block (by simpa using heap_new (wr.alloc _) (.cells #[.int .i64 rj] 3))) (by simp [Value.oneCell']) (by decide) hmx (by omega) (by simp; omega) (wr.heap.size + 2) (by simp) ?_; intro g3 cp w3 hown3 hgrow hat hglt)
      have hb3 : Below w.heap.size w w3 := ((hb.alloc hz _).alloc (by simp; omega) _).grown hgrow (by simp; omega) fun k hk => (HLT.out k hk).1
      rw [hrs.out] at hown3
      clear hgrow hat hownA
      go_roundw
      case rel => exact ⟨j + 1, some ⟨g3, 0, none⟩, cp, by omega, by go_num, rfl, hown3, hb3⟩
      case measure => simp [intOf]; omega
    · obtain rfl : j = S.len := by omega
      go_wp2_with fail
      go_ret
      have hown := HW.out
      change wr.ownsRow w.heap.size 3 1 (.slice q S.len c) S.len ((ranksE S).map intE) at hown
      obtain ⟨q', c', he, h1, h2⟩ := isL_own hown
      exact ⟨q', c', by rw [← he]; rfl, h1, h2, hb⟩

end Go.Proofs.Yteolfpdkpihnlaa

