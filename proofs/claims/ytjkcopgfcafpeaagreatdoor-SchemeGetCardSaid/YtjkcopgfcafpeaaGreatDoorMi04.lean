/-
  Parts of one proof, laid into one text: SGrG, SSame, SSelf. Conditions: each part names its own.
-/
import Derived.Test.YtjkcopgfcafpeaaGreatDoorMi03
import Derived.Test.YtjkcopgfcafpeaaGreatDoorMi02
import Derived.Test.YtjkcopgfcafpeaaGreatDoorMg12
import Derived.Test.YtjkcopgfcafpeaaGreatDoorMg30

/-
  The walk of the reference's parseTerm. Conditions: that the scheme lies in memory and its names are such, places within the text, texts of at most 65536 bytes.
-/
set_option linter.unusedSimpArgs false
set_option linter.unusedVariables false
namespace Go.Proofs.YtjkcopgfcafpeaaGreatDoor
open Go.RowKit Go.Maps

/-- how much is left to be read -/
def msrT (L : Nat) (v u : Value) : Nat := match u with
  | .bool true => 1 + (L - (Go.RowKit.intOf v).toNat)
  | _ => 0

set_option maxRecDepth 100000 in
set_option maxHeartbeats 8000000 in
theorem parseterm3_any (x : Sc) (hx : NmOk x) (a : At2) (s : List UInt8) (hs : s.length ≤ 65536) (N : Nat) : ∀ (i : Nat) (w : World), s.length - i < N → i ≤ s.length → IsC w x a →
    Calls Tryz.prog 61 #[.agg #[.slice a.sp a.sn a.sc, .slice a.fp a.fn a.fc], .string ⟨s.toArray⟩, .int .i64 (i : Int)] w (TermP s x i w) := by
  obtain ⟨i0, hi0, hz0, hz1', hz2⟩ := info_parts infoX
  induction N with
  | zero => intro i w h; omega
  | succ N ih =>
    intro i w hN hi h
    have HH := Lib.hid fun (j : Int) (i' : Nat) (hj : j = (i' : Int)) (hi' : i' ≤ s.length) W (hb : Below w.heap.size w W) => (show Calls Tryz.prog 106 #[.agg #[.slice a.sp a.sn a.sc, .slice a.fp a.fn a.fc], .string ⟨s.toArray⟩, .int .i64 j] W (HeadP s x i' W) from hj ▸ parsehead3_any x hx a s i' hi' hs W (h.below hb))
    have IH := Lib.hid fun (j : Int) (i' : Nat) (hj : j = (i' : Int)) (hlt : i < i') (hi' : i' ≤ s.length) W (hb : Below w.heap.size w W) => (show Calls Tryz.prog 61 #[.agg #[.slice a.sp a.sn a.sc, .slice a.fp a.fn a.fc], .string ⟨s.toArray⟩, .int .i64 j] W (TermP s x i' W) from hj ▸ ih i' W (by omega) hi' (h.below hb))
    have HB1 := Lib.hid fun (j : Int) (m : Nat) (hj : j = (m : Int)) (hm : m ≤ s.length) (bv : Bool) (hb : Proofs.YtjkcopgfcafpeaaGreatDoor.pre [32] (s.drop m) = bv) W => begins3_at s [32] m j ⟨#[32]⟩ bv rfl hm hs (by decide) hj hb W
    have HB2 := Lib.hid fun (j : Int) (m : Nat) (hj : j = (m : Int)) (hm : m ≤ s.length) (bv : Bool) (hb : Proofs.YtjkcopgfcafpeaaGreatDoor.pre [32, 40] (s.drop m) = bv) W => begins3_at s [32, 40] m j ⟨#[32, 40]⟩ bv rfl hm hs (by decide) hj hb W
    have HB3 := Lib.hid fun (j : Int) (m : Nat) (hj : j = (m : Int)) (hm : m ≤ s.length) (bv : Bool) (hb : Proofs.YtjkcopgfcafpeaaGreatDoor.pre [41] (s.drop m) = bv) W => begins3_at s [41] m j ⟨#[41]⟩ bv rfl hm hs (by decide) hj hb W
    clear ih h
    obtain ⟨sp, sn, sc, fp, fn, fc⟩ := a
    dsimp only at HH IH ⊢
    have hb1 := alloc_kept (heap_new w (.cells #[.slice sp sn sc, .slice fp fn fc] 25)) (.cells #[.int .i64 0, .int .i64 0, .slice none 0 0] 50)
    have hb2 := heap_new2 w (.cells #[.slice sp sn sc, .slice fp fn fc] 25) (.cells #[.int .i64 0, .int .i64 0, .slice none 0 0] 50)
    have hB0 : Below w.heap.size w ((w.alloc (.cells #[.slice sp sn sc, .slice fp fn fc] 25)).alloc (.cells #[.int .i64 0, .int .i64 0, .slice none 0 0] 50)) := ((Below.refl _ _).alloc (Nat.le_refl _) _).alloc (by simp) _
    obtain ⟨⟨s1, s2⟩, _⟩ := two_box hb1
    have HBX := Lib.hid (And.intro hb1 (And.intro hb2 hB0))
    clear hb2 hB0 hb1
    go_enter Tryz.func61, Tryz.ntmps61
    go_wp2_with fail
    refine (HH.out _ i rfl hi _ HBX.out.2.2).mono ?_
    rintro e w1 ⟨g1, g2, hb1⟩
    obtain ⟨k, n, mm, ok, rfl, hcase⟩ : ∃ (k n mm : Int) (ok : Bool), e = .returned (.tuple #[.agg #[.int .i64 k, .int .i64 n, .slice none 0 0], .int .i64 mm, .bool ok]) ∧
        ((ok = true ∧ ∃ m : Nat, mm = (m : Int) ∧ m ≤ s.length ∧ i < m ∧ StT x s i k n .nil m) ∨ (ok = false ∧ rdT (SN x) (FN x) (s.drop i) = none)) := by
      cases hrd : rdHead (SN x) (FN x) (s.drop i) with
      | none =>
        obtain ⟨k, n, m, he⟩ := g2 hrd
        exact ⟨k, n, m, false, he, Or.inr ⟨rfl, stT_none hrd⟩⟩
      | some z =>
        obtain ⟨⟨k, n⟩, r⟩ := z
        obtain ⟨m, he, hm, hd⟩ := g1 k n r hrd
        refine ⟨k, n, m, true, he, Or.inl ⟨rfl, m, rfl, hm, ?_, stT_start (by rw [hrd, hd])⟩⟩
        have := rdHead_lt hrd
        rw [← hd] at this
        simp only [List.length_drop] at this
        omega
    have hz1 := hb1.size
    simp only [World.size_alloc] at hz1
    have hB1 := HBX.out.2.2.trans (hb1.mono HBX.out.2.2.size)
    have hT0 : TS w (.cells #[.slice sp sn sc, .slice fp fn fc] 25) w1.heap.size k n .nil none 0 (w1.alloc (.cells #[.int .i64 k, .int .i64 n, .slice none 0 0] 50)) :=
      ⟨GotX.start (World.ownsRow_nil _ _ _ _) (by simp), heap_new _ _, alloc_kept (box3_later hb1 HBX.out.2.1) _, alloc_kept (box3_later hb1 HBX.out.1) _, hB1.alloc hB1.size _, by omega⟩
    have HT0 := Lib.hid (And.intro hT0 hcase)
    clear hT0 hcase g1 g2 hb1 hB1 s1 s2 HBX hz1
    go_wp2_with fail
    generalize w1.alloc (.cells #[.int .i64 k, .int .i64 n, .slice none 0 0] 50) = W1 at HT0 ⊢
    generalize w1.heap.size = bt at HT0 ⊢
    go_loopw [2, 10] (fun v u wr => (∃ (y : X) (q : Option Addr) (c m : Nat), u = .bool true ∧ v = .int .i64 (m : Int) ∧ TS w (.cells #[.slice sp sn sc, .slice fp fn fc] 25) bt k n y q c wr ∧ StT x s i k n y m ∧ i < m ∧ m ≤ s.length ∧ y.len ≤ m) ∨
        (∃ (q : Option Addr) (l c : Nat) (m : Int), u = .bool false ∧ v = .int .i64 m ∧ TB w bt k n q l c wr ∧ rdT (SN x) (FN x) (s.drop i) = none))
      (fun v u _ => msrT s.length v u)
    case atStart =>
      obtain ⟨hT, ⟨rfl, m, rfl, hm, him, hst⟩ | ⟨rfl, hno⟩⟩ := HT0.out
      · exact Or.inl ⟨.nil, none, 0, m, rfl, rfl, hT, hst, him, hm, Nat.zero_le _⟩
      · exact Or.inr ⟨none, 0, 0, mm, rfl, rfl, hT.bad, hno⟩
    case round =>
      clear HT0
      rcases hrel with ⟨y, q, c, m, rfl, rfl, hT, hst, him, hml, hym⟩ | ⟨q, l, c, m, rfl, rfl, hT, hno⟩
      · have HT := Lib.hid (And.intro hT hst)
        cases hp : Proofs.YtjkcopgfcafpeaaGreatDoor.pre [32] (s.drop m) with
        | false =>
          have hb1 := HB1.out (m : Int) m rfl hml false hp
          have HB := Lib.hid hb1
          obtain ⟨⟨t1, t2, t3⟩, _⟩ := term_box hT.box
          obtain ⟨⟨r1, r2, r3⟩, z1, z2, z3⟩ := term_box hT.res
          have hbel := hT.bel
          obtain ⟨q', c', he, hO⟩ := hT.got.finish
          injection he with he1 he2 he3
          subst he1 he3
          have hge := hT.ge
          have hz := hT.bel.size
          have HF := Lib.hid (And.intro hO (And.intro hbel (stT_end hst hp)))
          clear hb1 hT hst hbel hO
          go_wp2_with fail
          refine (HB.out _).mono ?_
          rintro e w2 ⟨rfl, rfl⟩
          go_wp2_with fail
          refine bodyPost_ret (v := .tuple #[.agg #[.int .i64 k, .int .i64 n, .slice q y.len c], .int .i64 (m : Int), .bool true]) (by simp [results, Tryz.results61, go_sem, r1, r2, r3]) rfl ⟨?_, ?_, below_set3 _ _ _ HF.out.2.1 (by omega)⟩
          · intro k' n' a' r' h'
            rw [HF.out.2.2] at h'
            simp only [Option.some.injEq, Prod.mk.injEq] at h'
            obtain ⟨⟨rfl, rfl, rfl⟩, rfl⟩ := h'
            exact ⟨_, _, m, rfl, hml, rfl, OwnX.set3 _ _ _ (lo := bt + 1) HF.out.1 (by omega) (by omega)⟩
          · intro h'
            rw [HF.out.2.2] at h'
            cases h'
        | true =>
          have hpl := pre_length hp
          simp only [List.length_singleton, List.length_drop] at hpl
          obtain ⟨xs, hown0, hkids⟩ := hT.got
          have hlo := hown0.lt
          have hbtl : bt < wr.heap.size := lt_of_block hT.box
          have hmx : y.len + 1 ≤ maxLen := by simp only [maxLen]; omega
          have hby : (y.len + 1) * 40 ≤ 140737488355328 := by omega
          have s1 := fun o => (two_box (alloc_kept hT.sb o)).1.1
          have s2 := fun o => (two_box (alloc_kept hT.sb o)).1.2
          have hB2 := hT.bel.alloc hT.bel.size (.cells #[.int .i64 0, .int .i64 0, .slice none 0 0] 50)
          have HBE := Lib.hid hB2
          clear hT hst hB2
          cases hq : Proofs.YtjkcopgfcafpeaaGreatDoor.pre [32, 40] (s.drop m) with
          | false =>
            have HP := Lib.hid (stT_plain HT.out.2 hp hq)
            have HQ := Lib.hid (And.intro hp hq)
            clear hp hq
            go_wp2_with fail
            refine (HB1.out (m : Int) m rfl hml true HQ.out.1 _).mono ?_
            rintro e w2 ⟨rfl, rfl⟩
            go_wp2_with fail
            refine (HB2.out (m : Int) m rfl hml false HQ.out.2 _).mono ?_
            rintro e w2 ⟨rfl, rfl⟩
            go_wp2_with fail
            refine (HH.out _ (m + 1) (by omega) (by omega) _ HBE.out).mono ?_
            rintro e w2 ⟨g1, g2, hb2⟩
            obtain ⟨k2, n2, mm2, ok2, rfl, hc2⟩ : ∃ (k2 n2 mm2 : Int) (ok2 : Bool), e = .returned (.tuple #[.agg #[.int .i64 k2, .int .i64 n2, .slice none 0 0], .int .i64 mm2, .bool ok2]) ∧
                ((ok2 = true ∧ ∃ m2 : Nat, mm2 = (m2 : Int) ∧ m2 ≤ s.length ∧ m < m2 ∧ StT x s i k n (y.snoc k2 n2 .nil) m2) ∨ (ok2 = false ∧ rdT (SN x) (FN x) (s.drop i) = none)) := by
              cases hrd : rdHead (SN x) (FN x) (s.drop (m + 1)) with
              | none =>
                obtain ⟨k2, n2, m2, he⟩ := g2 hrd
                exact ⟨k2, n2, m2, false, he, Or.inr ⟨rfl, HP.out.2 hrd⟩⟩
              | some z =>
                obtain ⟨⟨k2, n2⟩, r⟩ := z
                obtain ⟨m2, he, hm2, hd⟩ := g1 k2 n2 r hrd
                refine ⟨k2, n2, m2, true, he, Or.inl ⟨rfl, m2, rfl, hm2, ?_, HP.out.1 k2 n2 m2 (by rw [hrd, hd])⟩⟩
                have := rdHead_lt hrd
                rw [← hd] at this
                simp only [List.length_drop] at this
                omega
            have hxb : w2.heap[wr.heap.size]? = some (.cells #[.int .i64 0, .int .i64 0, .slice none 0 0] 50 (0, 0)) := (hb2.block _ (by simp)).trans (heap_new _ _)
            have hbt2 := box3_later hb2 (alloc_kept HT.out.1.box (.cells #[.int .i64 0, .int .i64 0, .slice none 0 0] 50))
            obtain ⟨⟨x1, x2, x3⟩, xz1, xz2, xz3⟩ := term_box hxb
            obtain ⟨hfil, hps⟩ := fill3 (a := .int .i64 k2) (b := .int .i64 n2) (c := .slice none 0 0) rfl hb2
            have hpx := put3_box (x := .int .i64 k2) (y := .int .i64 n2) (z := .slice none 0 0) hxb
            have hpb := (put3_far (w := w2) (b := wr.heap.size) (k := bt) (x := .int .i64 k2) (y := .int .i64 n2) (z := .slice none 0 0) (by omega)).trans hbt2
            have hownA := fun o => (owns_later (hown0.alloc (.cells #[.int .i64 k2, .int .i64 n2, .slice none 0 0] 50)) hfil).alloc o
            have hpa := fun o => term_box (alloc_kept hpb o)
            have hps' : (put3 w2 wr.heap.size (.int .i64 k2) (.int .i64 n2) (.slice none 0 0)).heap.size = w2.heap.size := hps
            have hbase : bt + 1 ≤ (put3 w2 wr.heap.size (.int .i64 k2) (.int .i64 n2) (.slice none 0 0)).heap.size := by have := hb2.size; simp only [World.size_alloc] at this; omega
            have hpsz : ∀ o, ((put3 w2 wr.heap.size (.int .i64 k2) (.int .i64 n2) (.slice none 0 0)).alloc o).heap.size = w2.heap.size + 1 := fun o => by rw [World.size_alloc, hps]
            have hout9 : ∀ (o : Obj) (w9 : World), ((put3 w2 wr.heap.size (.int .i64 k2) (.int .i64 n2) (.slice none 0 0)).alloc o).grownBy w9 (Value.slice q y.len c).ownBlock → w9.heap[bt]? = some (.cells #[.int .i64 k, .int .i64 n, .slice q y.len c] 50 (0, 0)) := fun o w9 hg => by rw [hg.block bt (by have := lt_of_block hpb; simp only [World.size_alloc]; omega) (fun e => by have := (hlo _ e.symm).1; omega)]; exact alloc_kept hpb o
            obtain ⟨⟨px1, px2, px3⟩, _⟩ := term_box hpx
            obtain ⟨⟨pt1, pt2, pt3⟩, pz1, pz2, pz3⟩ := term_box hpb
            unfold put3 at px1 px2 px3 pt1 pt2 pt3 pz1 pz2 pz3 hownA hpa hps hbase hpsz hout9
            have HC2 := Lib.hid (And.intro hc2 (And.intro hb2 hkids))
            clear g1 g2 hc2 hb2 hkids hxb hbt2 hfil hpx hpb s1 s2
            go_wp2_with (at_builtin; refine wpList_append_lies _ rfl _ _ 48 rfl (bt + 1) 50 i0 (.agg #[.int .i64 0, .int .i64 0, .slice none 0 0]) 3 40 Tryz.underlying48 hi0 hz0 hz1' hz2 rfl (by decide) (.slice q y.len c) y.len xs rfl (hownA _) ⟨w2.heap.size, 0, none⟩ 1 1 [.int .i64 k2, .int .i64 n2, .slice none 0 0] rfl rfl (World.news_of_block (heap_new_eq hps.symm)) (one_three _ _ _ _ _) (by decide) hmx hby (base_le _ hbase) (w2.heap.size + 1) (hpsz _) ?_; intro g cp w9 hown9 hgrow hat hglt; obtain ⟨⟨d1, d2, d3⟩, dz1, dz2, dz3⟩ := term_box (hout9 _ _ hgrow))
            have HF := Lib.hid (And.intro hown9 (And.intro hgrow hat))
            clear hown9 hgrow hat hglt
            go_roundw
            case rel =>
              rcases HC2.out.1 with ⟨rfl, m2, rfl, hm2, hmm, hst2⟩ | ⟨rfl, hno⟩
              · refine Or.inl ⟨y.snoc k2 n2 .nil, some ⟨g, 0, none⟩, cp, m2, rfl, rfl, ?_, hst2, by omega, hm2, by rw [X.len_snoc]; omega⟩
                exact TS.push HT.out.1 hown0 HC2.out.2.2 HC2.out.2.1 (ownX_nil _ _ _) HF.out.1 HF.out.2.1 HF.out.2.2
              · exact Or.inr ⟨some ⟨g, 0, none⟩, y.len + 1, cp, mm2, rfl, rfl, TS.spoil HT.out.1 hown0 HC2.out.2.1 HF.out.2.1, hno⟩
            case measure =>
              rcases HC2.out.1 with ⟨rfl, m2, rfl, hm2, hmm, hst2⟩ | ⟨rfl, hno⟩
              · simp [msrT, Go.RowKit.intOf]; omega
              · simp only [msrT]; omega
          | true => 
            have hpl2 := pre_length hq
            simp only [List.length_cons, List.length_nil, List.length_drop] at hpl2
            have HP := Lib.hid (stT_open HT.out.2 hq)
            have HQ := Lib.hid (And.intro hp hq)
            clear hp hq
            go_wp2_with fail
            refine (HB1.out (m : Int) m rfl hml true HQ.out.1 _).mono ?_
            rintro e w2 ⟨rfl, rfl⟩
            go_wp2_with fail
            refine (HB2.out (m : Int) m rfl hml true HQ.out.2 _).mono ?_
            rintro e w2 ⟨rfl, rfl⟩
            go_wp2_with fail
            refine (IH.out _ (m + 2) (by omega) (by omega) (by omega) _ HBE.out).mono ?_
            rintro e w2 ⟨g1, g2, hb2⟩
            obtain ⟨k2, n2, q2, l2, c2, mm2, ok2, rfl, hc2⟩ : ∃ (k2 n2 : Int) (q2 : Option Addr) (l2 c2 : Nat) (mm2 : Int) (ok2 : Bool), e = .returned (.tuple #[.agg #[.int .i64 k2, .int .i64 n2, .slice q2 l2 c2], .int .i64 mm2, .bool ok2]) ∧
                ((ok2 = true ∧ ∃ (a2 : X) (m2 : Nat), l2 = a2.len ∧ mm2 = (m2 : Int) ∧ m2 ≤ s.length ∧ m < m2 ∧ a2.len ≤ s.length ∧ OwnX w2 a2 q2 c2 (wr.heap.size + 1) w2.heap.size ∧ (a2.len ≠ 0 ∧ Proofs.YtjkcopgfcafpeaaGreatDoor.pre [41] (s.drop m2) = true → StT x s i k n (y.snoc k2 n2 a2) (m2 + 1)) ∧ (¬ (a2.len ≠ 0 ∧ Proofs.YtjkcopgfcafpeaaGreatDoor.pre [41] (s.drop m2) = true) → rdT (SN x) (FN x) (s.drop i) = none)) ∨ (ok2 = false ∧ rdT (SN x) (FN x) (s.drop i) = none)) := by
              cases hrd : rdT (SN x) (FN x) (s.drop (m + 2)) with
              | none =>
                obtain ⟨k2, n2, m2, q2, l2, c2, he⟩ := g2 hrd
                exact ⟨k2, n2, q2, l2, c2, m2, false, he, Or.inr ⟨rfl, HP.out.2 hrd⟩⟩
              | some z =>
                obtain ⟨⟨k2, n2, a2⟩, r⟩ := z
                obtain ⟨q2, c2, m2, he, hm2, hd, hO⟩ := g1 k2 n2 a2 r hrd
                have hlt := rdT_lt hrd
                rw [← hd] at hlt
                simp only [List.length_drop] at hlt
                refine ⟨k2, n2, q2, a2.len, c2, m2, true, he, Or.inl ⟨rfl, a2, m2, rfl, rfl, hm2, by omega, by omega, by simpa using hO, HP.out.1 k2 n2 a2 m2 (by rw [hrd, hd])⟩⟩
            have hxb : w2.heap[wr.heap.size]? = some (.cells #[.int .i64 0, .int .i64 0, .slice none 0 0] 50 (0, 0)) := (hb2.block _ (by simp)).trans (heap_new _ _)
            have hbt2 := box3_later hb2 (alloc_kept HT.out.1.box (.cells #[.int .i64 0, .int .i64 0, .slice none 0 0] 50))
            obtain ⟨⟨x1, x2, x3⟩, xz1, xz2, xz3⟩ := term_box hxb
            obtain ⟨⟨xt1, xt2, xt3⟩, xtz1, xtz2, xtz3⟩ := term_box hbt2
            obtain ⟨hfil, hps⟩ := fill3 (a := .int .i64 k2) (b := .int .i64 n2) (c := .slice q2 l2 c2) rfl hb2
            have hpx := put3_box (x := .int .i64 k2) (y := .int .i64 n2) (z := .slice q2 l2 c2) hxb
            have hpb := (put3_far (w := w2) (b := wr.heap.size) (k := bt) (x := .int .i64 k2) (y := .int .i64 n2) (z := .slice q2 l2 c2) (by omega)).trans hbt2
            have hownA := fun o => (owns_later (hown0.alloc (.cells #[.int .i64 k2, .int .i64 n2, .slice q2 l2 c2] 50)) hfil).alloc o
            have hpa := fun o => term_box (alloc_kept hpb o)
            have hps' : (put3 w2 wr.heap.size (.int .i64 k2) (.int .i64 n2) (.slice q2 l2 c2)).heap.size = w2.heap.size := hps
            have hbase : bt + 1 ≤ (put3 w2 wr.heap.size (.int .i64 k2) (.int .i64 n2) (.slice q2 l2 c2)).heap.size := by have := hb2.size; simp only [World.size_alloc] at this; omega
            have hpsz : ∀ o, ((put3 w2 wr.heap.size (.int .i64 k2) (.int .i64 n2) (.slice q2 l2 c2)).alloc o).heap.size = w2.heap.size + 1 := fun o => by rw [World.size_alloc, hps]
            have hout9 : ∀ (o : Obj) (w9 : World), ((put3 w2 wr.heap.size (.int .i64 k2) (.int .i64 n2) (.slice q2 l2 c2)).alloc o).grownBy w9 (Value.slice q y.len c).ownBlock → w9.heap[bt]? = some (.cells #[.int .i64 k, .int .i64 n, .slice q y.len c] 50 (0, 0)) := fun o w9 hg => by rw [hg.block bt (by have := lt_of_block hpb; simp only [World.size_alloc]; omega) (fun e => by have := (hlo _ e.symm).1; omega)]; exact alloc_kept hpb o
            obtain ⟨⟨px1, px2, px3⟩, pxz1, pxz2, pxz3⟩ := term_box hpx
            obtain ⟨⟨pt1, pt2, pt3⟩, pz1, pz2, pz3⟩ := term_box hpb
            unfold put3 at px1 px2 px3 pxz1 pxz2 pxz3 pt1 pt2 pt3 pz1 pz2 pz3 hownA hpa hps hbase hpsz hout9
            have HC2 := Lib.hid (And.intro hb2 hkids)
            clear g1 g2 hb2 hkids hxb hbt2 hfil hpx hpb s1 s2
            rcases hc2 with ⟨rfl, a2, m2, rfl, rfl, hm2, hmm, ha2, hO, hy, hn⟩ | ⟨rfl, hno⟩
            · have HO := Lib.hid hO
              clear hO
              rcases Nat.eq_zero_or_pos a2.len with h0 | h0
              · have HNO := Lib.hid (hn (fun h => h.1 h0))
                clear hn hy
                simp only [h0] at px1 px2 px3 pxz1 pxz2 pxz3 pt1 pt2 pt3 pz1 pz2 pz3 hownA hpa hps hps' hbase hpsz hout9
                go_wp2_with (at_builtin; refine wpList_append_lies _ rfl _ _ 48 rfl (bt + 1) 50 i0 (.agg #[.int .i64 0, .int .i64 0, .slice none 0 0]) 3 40 Tryz.underlying48 hi0 hz0 hz1' hz2 rfl (by decide) (.slice q y.len c) y.len xs rfl (hownA _) ⟨w2.heap.size, 0, none⟩ 1 1 [.int .i64 k2, .int .i64 n2, .slice q2 0 c2] rfl rfl (World.news_of_block (heap_new_eq hps.symm)) (one_three _ _ _ _ _) (by decide) hmx hby (base_le _ hbase) (w2.heap.size + 1) (hpsz _) ?_; intro g cp w9 hown9 hgrow hat hglt; obtain ⟨⟨d1, d2, d3⟩, dz1, dz2, dz3⟩ := term_box (hout9 _ _ hgrow))
                have HF := Lib.hid (And.intro hown9 (And.intro hgrow hat))
                clear hown9 hgrow hat hglt
                go_roundw
                case rel => exact Or.inr ⟨some ⟨g, 0, none⟩, y.len + 1, cp, _, rfl, rfl, TS.spoil HT.out.1 hown0 HC2.out.1 HF.out.2.1, HNO.out⟩
                case measure => simp only [msrT]; omega
              · cases hc : Proofs.YtjkcopgfcafpeaaGreatDoor.pre [41] (s.drop m2) with
                | false =>
                  have HX := Lib.hid (And.intro hc trivial)
                  have HNO := Lib.hid (hn (fun h => by rw [hc] at h; exact absurd h.2 (by decide)))
                  clear hn hy hc
                  go_wp2_with fail
                  refine (HB3.out (m2 : Int) m2 rfl hm2 false HX.out.1 _).mono ?_
                  rintro e w2' ⟨rfl, rfl⟩
                  go_wp2_with (at_builtin; refine wpList_append_lies _ rfl _ _ 48 rfl (bt + 1) 50 i0 (.agg #[.int .i64 0, .int .i64 0, .slice none 0 0]) 3 40 Tryz.underlying48 hi0 hz0 hz1' hz2 rfl (by decide) (.slice q y.len c) y.len xs rfl (hownA _) ⟨w2.heap.size, 0, none⟩ 1 1 [.int .i64 k2, .int .i64 n2, .slice q2 a2.len c2] rfl rfl (World.news_of_block (heap_new_eq hps.symm)) (one_three _ _ _ _ _) (by decide) hmx hby (base_le _ hbase) (w2.heap.size + 1) (hpsz _) ?_; intro g cp w9 hown9 hgrow hat hglt; obtain ⟨⟨d1, d2, d3⟩, dz1, dz2, dz3⟩ := term_box (hout9 _ _ hgrow))
                  have HF := Lib.hid (And.intro hown9 (And.intro hgrow hat))
                  clear hown9 hgrow hat hglt
                  go_roundw
                  case rel => exact Or.inr ⟨some ⟨g, 0, none⟩, y.len + 1, cp, _, rfl, rfl, TS.spoil HT.out.1 hown0 HC2.out.1 HF.out.2.1, HNO.out⟩
                  case measure => simp only [msrT]; omega
                | true =>
                  have hpl3 := pre_length hc
                  simp only [List.length_singleton, List.length_drop] at hpl3
                  have HX := Lib.hid (And.intro hc (hy ⟨by omega, hc⟩))
                  clear hn hy hc
                  go_wp2_with fail
                  refine (HB3.out (m2 : Int) m2 rfl hm2 true HX.out.1 _).mono ?_
                  rintro e w2' ⟨rfl, rfl⟩
                  go_wp2_with (at_builtin; refine wpList_append_lies _ rfl _ _ 48 rfl (bt + 1) 50 i0 (.agg #[.int .i64 0, .int .i64 0, .slice none 0 0]) 3 40 Tryz.underlying48 hi0 hz0 hz1' hz2 rfl (by decide) (.slice q y.len c) y.len xs rfl (hownA _) ⟨w2.heap.size, 0, none⟩ 1 1 [.int .i64 k2, .int .i64 n2, .slice q2 a2.len c2] rfl rfl (World.news_of_block (heap_new_eq hps.symm)) (one_three _ _ _ _ _) (by decide) hmx hby (base_le _ hbase) (w2.heap.size + 1) (hpsz _) ?_; intro g cp w9 hown9 hgrow hat hglt; obtain ⟨⟨d1, d2, d3⟩, dz1, dz2, dz3⟩ := term_box (hout9 _ _ hgrow))
                  have HF := Lib.hid (And.intro hown9 (And.intro hgrow hat))
                  clear hown9 hgrow hat hglt
                  go_roundw
                  case rel =>
                    refine Or.inl ⟨y.snoc k2 n2 a2, some ⟨g, 0, none⟩, cp, m2 + 1, rfl, by simp, ?_, HX.out.2, by omega, by omega, by rw [X.len_snoc]; omega⟩
                    exact TS.push HT.out.1 hown0 HC2.out.2 HC2.out.1 HO.out HF.out.1 HF.out.2.1 HF.out.2.2
                  case measure => simp [msrT, Go.RowKit.intOf]; omega
            · have HNO := Lib.hid hno
              clear hno
              go_wp2_with (at_builtin; refine wpList_append_lies _ rfl _ _ 48 rfl (bt + 1) 50 i0 (.agg #[.int .i64 0, .int .i64 0, .slice none 0 0]) 3 40 Tryz.underlying48 hi0 hz0 hz1' hz2 rfl (by decide) (.slice q y.len c) y.len xs rfl (hownA _) ⟨w2.heap.size, 0, none⟩ 1 1 [.int .i64 k2, .int .i64 n2, .slice q2 l2 c2] rfl rfl (World.news_of_block (heap_new_eq hps.symm)) (one_three _ _ _ _ _) (by decide) hmx hby (base_le _ hbase) (w2.heap.size + 1) (hpsz _) ?_; intro g cp w9 hown9 hgrow hat hglt; obtain ⟨⟨d1, d2, d3⟩, dz1, dz2, dz3⟩ := term_box (hout9 _ _ hgrow))
              have HF := Lib.hid (And.intro hown9 (And.intro hgrow hat))
              clear hown9 hgrow hat hglt
              go_roundw
              case rel => exact Or.inr ⟨some ⟨g, 0, none⟩, y.len + 1, cp, _, rfl, rfl, TS.spoil HT.out.1 hown0 HC2.out.1 HF.out.2.1, HNO.out⟩
              case measure => simp only [msrT]; omega
      · obtain ⟨⟨t1, t2, t3⟩, _⟩ := term_box hT.box
        obtain ⟨⟨r1, r2, r3⟩, z1, z2, z3⟩ := term_box hT.res
        have HF := Lib.hid (And.intro hT.bel hno)
        clear hT hno
        go_wp2_with fail
        refine bodyPost_ret (v := .tuple #[.agg #[.int .i64 k, .int .i64 n, .slice q l c], .int .i64 m, .bool false]) (by simp [results, Tryz.results61, go_sem, r1, r2, r3]) rfl ⟨?_, ?_, below_set3 _ _ _ HF.out.1 (by omega)⟩
        · intro k' n' a' r' h'
          rw [HF.out.2] at h'
          cases h'
        · intro h'
          exact ⟨_, _, _, _, _, _, rfl⟩

end Go.Proofs.YtjkcopgfcafpeaaGreatDoor

/-
  The walks of Same: the program's and the reference's. Conditions: that the schemes lie in memory.
-/
set_option linter.unusedSimpArgs false
set_option linter.unusedVariables false
namespace Go.Proofs.YtjkcopgfcafpeaaGreatDoor
open Go.RowKit Go.Maps

theorem same_eqV {s t : T} (h1 : s.valid = true) (h2 : t.valid = true) : T.same s t = T.eqT s t := by
  have g1 := T.valid_nodes _ h1
  have g2 := T.valid_nodes _ h2
  simp [T.same, g1, g2]

theorem sm_eq1 {k n k' n' : Int} {a a' : X} (h1 : a.sz < 100000) (h2 : a'.sz < 100000) : X.sm k n a k' n' a' = X.eq1 k n a k' n' a' := by
  simp [X.sm, h1, h2]

/-- the two schemes' boxes that a comparison holds -/
theorem boxes2 {W : World} {b1 b2 : Nat} {u1 u2 v1 v2 : Value} {t t' : TypeId} (h1 : W.heap[b1]? = some (.cells #[u1, u2] t (0, 0))) (h2 : W.heap[b2]? = some (.cells #[v1, v2] t' (0, 0))) :
    W.cell? ⟨b1, 0, none⟩ = some u1 ∧ W.cell? ⟨b1, 1, none⟩ = some u2 ∧ W.cell? ⟨b2, 0, none⟩ = some v1 ∧ W.cell? ⟨b2, 1, none⟩ = some v2 := ⟨(two_box h1).1.1, (two_box h1).1.2, (two_box h2).1.1, (two_box h2).1.2⟩

set_option maxRecDepth 100000 in
set_option maxHeartbeats 4000000 in
theorem alike_any (x y : Fu) (i : Nat) (w : World) (p : Option Addr) (l c : Nat) (q : Option Addr) (m d : Nat) (p' : Option Addr) (l' c' : Nat) (q' : Option Addr) (m' d' : Nat)
    (h1 : (x.st i).valid = true) (h2 : (y.st i).valid = true) (h3 : (x.bt i).sz < 100000) (h4 : (y.bt i).sz < 100000)
    (ht : IsT w (x.st i) p l c) (hb : IsX w (x.bt i) q m d) (ht' : IsT w (y.st i) p' l' c') (hb' : IsX w (y.bt i) q' m' d') :
    Calls Tryz.prog 43 #[.agg #[.string (x.nm i), .slice p l c, .int .i64 (x.bk i), .int .i64 (x.bn i), .slice q m d], .agg #[.string (y.nm i), .slice p' l' c', .int .i64 (y.bk i), .int .i64 (y.bn i), .slice q' m' d']] w fun e w' => e = .returned (.bool (funE x y i)) ∧ Below w.heap.size w w' := by
  have HS := fun W (hb : Below w.heap.size w W) => same_any (x.st i) (y.st i) W p p' l c l' c' (ht.below hb) (ht'.below hb)
  have HX := fun W (h : Below w.heap.size w W) => tsame_any (x.bt i) (y.bt i) (x.bk i) (x.bn i) (y.bk i) (y.bn i) W q q' m d m' d' (hb.below h) (hb'.below h)
  rw [same_eqV h1 h2] at HS
  rw [sm_eq1 h3 h4] at HX
  have HS := Lib.hid HS
  have HX := Lib.hid HX
  unfold funE
  generalize T.eqT (x.st i) (y.st i) = B1 at HS
  generalize X.eq1 (x.bk i) (x.bn i) (x.bt i) (y.bk i) (y.bn i) (y.bt i) = B2 at HX
  generalize x.nm i = s1
  generalize y.nm i = s2
  generalize x.bk i = k1 at HX
  generalize y.bk i = k2 at HX
  generalize x.bn i = n1 at HX
  generalize y.bn i = n2 at HX
  have hbx1 := alloc_kept (heap_new w (.cells #[.string s1, .slice p l c, .int .i64 k1, .int .i64 n1, .slice q m d] 52)) (.cells #[.string s2, .slice p' l' c', .int .i64 k2, .int .i64 n2, .slice q' m' d'] 52)
  have hbx2 := heap_new2 w (.cells #[.string s1, .slice p l c, .int .i64 k1, .int .i64 n1, .slice q m d] 52) (.cells #[.string s2, .slice p' l' c', .int .i64 k2, .int .i64 n2, .slice q' m' d'] 52)
  have B2' : Below w.heap.size w ((w.alloc (.cells #[.string s1, .slice p l c, .int .i64 k1, .int .i64 n1, .slice q m d] 52)).alloc (.cells #[.string s2, .slice p' l' c', .int .i64 k2, .int .i64 n2, .slice q' m' d'] 52)) := ((Below.refl _ _).alloc (Nat.le_refl _) _).alloc (by simp) _
  have HB := Lib.hid (And.intro B2' (And.intro hbx1 hbx2))
  clear B2' hbx1 hbx2 ht hb ht' hb' h1 h2 h3 h4
  by_cases he : s1 = s2
  · have hd : (s1.toList == s2.toList) = true := by simp [he]
    have hz : (decide (s1 = s2) && (B1 && B2)) = (B1 && B2) := by simp [he]
    rw [hz]
    clear he hz
    go_enter Tryz.func43, Tryz.ntmps43
    cases B1 with
    | false =>
      go_wp2_with fail
      refine (HS.out _ HB.out.1).mono ?_
      rintro e w1 ⟨rfl, hb1⟩
      go_wp2_with fail
      go_ret
      exact ⟨rfl, HB.out.1.trans (hb1.mono HB.out.1.size)⟩
    | true =>
      go_wp2_with fail
      refine (HS.out _ HB.out.1).mono ?_
      rintro e w1 ⟨rfl, hb1⟩
      have hB := HB.out.1.trans (hb1.mono HB.out.1.size)
      obtain ⟨a0, a1, a2, a3, a4⟩ := fun_box (box3_later hb1 HB.out.2.1)
      obtain ⟨c0, c1, c2, c3, c4⟩ := fun_box (box3_later hb1 HB.out.2.2)
      have HB1 := Lib.hid hB
      clear hB hb1
      go_wp2_with fail
      refine (HX.out _ HB1.out).mono ?_
      rintro e w2 ⟨rfl, hb2⟩
      go_wp2_with fail
      go_ret
      exact ⟨rfl, HB1.out.trans (hb2.mono HB1.out.size)⟩
  · have hd : (s1.toList == s2.toList) = false := strs_ne he
    have hz : (decide (s1 = s2) && (B1 && B2)) = false := by simp [he]
    rw [hz]
    clear he hz
    go_enter Tryz.func43, Tryz.ntmps43
    go_wp2_with fail
    go_ret
    exact ⟨rfl, HB.out.1⟩

set_option maxRecDepth 100000 in
set_option maxHeartbeats 4000000 in
/-- slices.EqualFunc of functions, by alike -/
theorem funsequal_any (x y : Fu) (w : World) (p q : Option Addr) (n c m c' : Nat) (hv1 : ∀ i, i < x.len → (x.st i).valid = true ∧ (x.bt i).sz < 100000) (hv2 : ∀ i, i < y.len → (y.st i).valid = true ∧ (y.bt i).sz < 100000)
    (hx : IsF w x p n c) (hy : IsF w y q m c') :
    Calls Tryz.prog 42 #[.slice p n c, .slice q m c', .func (Fn.func 43) #[] #[]] w fun e w' => e = .returned (.bool (fuEq x y)) ∧ Below w.heap.size w w' := by
  have hx0 := hx
  have hy0 := hy
  obtain ⟨rfl, hcap, hmax, hnil, _⟩ := hx
  obtain ⟨rfl, hcap', hmax', hnil', _⟩ := hy
  unfold maxLen at hmax hmax'
  have HXY := Lib.hid (And.intro hx0 hy0)
  have HV := Lib.hid (And.intro hv1 hv2)
  clear hx0 hy0 hv1 hv2
  by_cases hl : x.len = y.len
  case neg =>
    have hd : ((x.len : Int) != (y.len : Int)) = true := by rw [bne_iff_ne]; omega
    have e : fuEq x y = false := by simp [fuEq, hl]
    rw [e]
    go_enter Tryz.func42, Tryz.ntmps42
    go_wp2_with fail
    go_ret
    exact ⟨rfl, Below.refl _ _⟩
  case pos =>
    have hd : ((x.len : Int) != (y.len : Int)) = false := by simp [hl]
    have e : funsE x y 0 (x.len - 0) = fuEq x y := by simp [fuEq, hl]
    have hle : x.len ≤ y.len := by omega
    obtain ⟨Z, hZ⟩ : ∃ Z, fuEq x y = Z := ⟨_, rfl⟩
    rw [hZ] at e ⊢
    clear hZ hl
    go_enter Tryz.func42, Tryz.ntmps42
    go_wp2_with fail
    go_loopw [17] (fun v wr => ∃ j : Nat, j ≤ x.len ∧ v = .int .i64 (j : Int) ∧ funsE x y j (x.len - j) = Z ∧ Below w.heap.size w wr)
      (fun v _ => x.len - (Go.RowKit.intOf v).toNat)
    case atStart => exact ⟨0, Nat.zero_le _, rfl, e, Below.refl _ _⟩
    case round =>
      clear hd
      obtain ⟨j, hj, rfl, hmo, hb⟩ := hrel
      have HB := Lib.hid hb
      by_cases hlt : j < x.len
      · obtain ⟨b1, o1, rfl, p1, n1, c1, q1, m1, d1, e1, e2, e3, e4, e5, e6, e7⟩ := rowF_all (HXY.out.1.below hb) hlt
        obtain ⟨b2, o2, rfl, p2, n2, c2, q2, m2, d2, f1, f2, f3, f4, f5, f6, f7⟩ := rowF_all (HXY.out.2.below hb) (show j < y.len by omega)
        have hlt2 : j < y.len := by omega
        have A1 := fun o => (keep_alloc wr o _ _ (lt_of_cell f1)).trans f1
        have A2 := fun o => (keep_alloc wr o _ _ (lt_of_cell f2)).trans f2
        have A3 := fun o => (keep_alloc wr o _ _ (lt_of_cell f3)).trans f3
        have A4 := fun o => (keep_alloc wr o _ _ (lt_of_cell f4)).trans f4
        have A5 := fun o => (keep_alloc wr o _ _ (lt_of_cell f5)).trans f5
        have HA := Lib.hid fun W (h : Below wr.heap.size wr W) => alike_any x y j W p1 n1 c1 q1 m1 d1 p2 n2 c2 q2 m2 d2 (HV.out.1 j hlt).1 (HV.out.2 j hlt2).1 (HV.out.1 j hlt).2 (HV.out.2 j hlt2).2 (e6.below h) (e7.below h) (f6.below h) (f7.below h)
        have hB : ∀ o o' : Obj, Below wr.heap.size wr ((wr.alloc o).alloc o') := fun o o' => ((Below.refl _ _).alloc (Nat.le_refl _) _).alloc (by simp) _
        have HB2 := Lib.hid hB
        rw [funsE_at x y hlt] at hmo
        clear hb e6 e7 f6 f7 hB f1 f2 f3 f4 f5
        generalize x.nm j = s1 at e1 HA
        generalize y.nm j = s2 at A1 HA
        generalize x.bk j = k1 at e3 HA
        generalize y.bk j = k2 at A3 HA
        generalize x.bn j = n1' at e4 HA
        generalize y.bn j = n2' at A4 HA
        cases hE : funE x y j with
        | true =>
          rw [hE] at HA hmo
          have HM := Lib.hid hmo
          clear hmo hE
          go_wp2_with fail
          refine (HA.out _ (HB2.out _ _)).mono ?_
          rintro e w1 ⟨rfl, hb1⟩
          have hB1 := HB.out.trans (((HB2.out _ _).trans (hb1.mono (HB2.out _ _).size)).mono HB.out.size)
          have HB1 := Lib.hid hB1
          clear hB1 hb1
          go_wp2_with fail
          go_roundw
          case rel => exact ⟨j + 1, by omega, by go_num, HM.out, HB1.out⟩
          case measure => simp [Go.RowKit.intOf]; omega
        | false =>
          rw [hE] at HA hmo
          have hz : Z = false := by rw [← hmo]; rfl
          subst hz
          clear hmo hE
          go_wp2_with fail
          refine (HA.out _ (HB2.out _ _)).mono ?_
          rintro e w1 ⟨rfl, hb1⟩
          have hB1 := HB.out.trans (((HB2.out _ _).trans (hb1.mono (HB2.out _ _).size)).mono HB.out.size)
          have HB1 := Lib.hid hB1
          clear hB1 hb1
          go_wp2_with fail
          go_ret
          exact ⟨rfl, HB1.out⟩
      · have hz : Z = true := by rw [← hmo]; exact funsE_end x y hlt
        subst hz
        clear hmo
        go_wp2_with fail
        go_ret
        exact ⟨rfl, HB.out⟩

/-- what Same answers -/
def scSame (x y : Sc) : Bool := scOk x && (scOk y && scEq x y)

theorem good_small {x : Sc} (h : scOk x = true) : ∀ i, i < x.F.len → (x.F.st i).valid = true ∧ (x.F.bt i).sz < 100000 := fun i hi => ⟨(good_of h).sort i hi, by have := (good_of h).size i hi; omega⟩

set_option maxRecDepth 100000 in
set_option maxHeartbeats 4000000 in
theorem ssame_any (x y : Sc) (a b : At2) (w : World) (hx : IsC w x a) (hy : IsC w y b) :
    Calls Tryz.prog 17 #[.agg #[.slice a.sp a.sn a.sc, .slice a.fp a.fn a.fc], .agg #[.slice b.sp b.sn b.sc, .slice b.fp b.fn b.fc]] w fun e w' => e = .returned (.bool (scSame x y)) ∧ Below w.heap.size w w' := by
  have H1 := Lib.hid fun W (h : Below w.heap.size w W) => scheck_any x a W (hx.below h)
  have H2 := Lib.hid fun W (h : Below w.heap.size w W) => scheck_any y b W (hy.below h)
  have H3 := Lib.hid fun W (h : Below w.heap.size w W) => symsequal_any x.S y.S W a.sp b.sp a.sn a.sc b.sn b.sc (hx.1.below h) (hy.1.below h)
  have H4 := Lib.hid fun (h1 : scOk x = true) (h2 : scOk y = true) W (h : Below w.heap.size w W) => funsequal_any x.F y.F W a.fp b.fp a.fn a.fc b.fn b.fc (good_small h1) (good_small h2) (hx.2.below h) (hy.2.below h)
  obtain ⟨sp, sn, sc, fp, fn, fc⟩ := a
  obtain ⟨sp', sn', sc', fp', fn', fc'⟩ := b
  dsimp only at H1 H2 H3 H4 ⊢
  have hbx1 := alloc_kept (heap_new w (.cells #[.slice sp sn sc, .slice fp fn fc] 25)) (.cells #[.slice sp' sn' sc', .slice fp' fn' fc'] 25)
  have hbx2 := heap_new2 w (.cells #[.slice sp sn sc, .slice fp fn fc] 25) (.cells #[.slice sp' sn' sc', .slice fp' fn' fc'] 25)
  have B2 : Below w.heap.size w ((w.alloc (.cells #[.slice sp sn sc, .slice fp fn fc] 25)).alloc (.cells #[.slice sp' sn' sc', .slice fp' fn' fc'] 25)) := ((Below.refl _ _).alloc (Nat.le_refl _) _).alloc (by simp) _
  have HB := Lib.hid (And.intro B2 (And.intro hbx1 hbx2))
  clear B2 hbx1 hbx2 hx hy
  unfold scSame scEq
  generalize syEq x.S y.S = B1 at H3
  generalize fuEq x.F y.F = B2 at H4
  unfold scE at H1 H2
  cases h1 : scOk x with
  | false =>
    rw [h1] at H1
    rw [if_neg (by simp)] at H1
    clear H4
    go_enter Tryz.func17, Tryz.ntmps17
    go_wp2_with fail
    refine (H1.out _ HB.out.1).mono ?_
    rintro e w1 ⟨rfl, hb1⟩
    go_wp2_with fail
    go_ret
    exact ⟨rfl, HB.out.1.trans (hb1.mono HB.out.1.size)⟩
  | true =>
    rw [h1] at H1
    rw [if_pos rfl] at H1
    cases h2 : scOk y with
    | false =>
      rw [h2] at H2
      rw [if_neg (by simp)] at H2
      clear H4
      go_enter Tryz.func17, Tryz.ntmps17
      go_wp2_with fail
      refine (H1.out _ HB.out.1).mono ?_
      rintro e w1 ⟨rfl, hb1⟩
      obtain ⟨s1, s2, s3, s4⟩ := boxes2 (box3_later hb1 HB.out.2.1) (box3_later hb1 HB.out.2.2)
      have HB1 := Lib.hid (HB.out.1.trans (hb1.mono HB.out.1.size))
      clear hb1
      go_wp2_with fail
      refine (H2.out _ HB1.out).mono ?_
      rintro e w2 ⟨rfl, hb2⟩
      go_wp2_with fail
      go_ret
      exact ⟨rfl, HB1.out.trans (hb2.mono HB1.out.size)⟩
    | true =>
      rw [h2] at H2
      rw [if_pos rfl] at H2
      have H4' := Lib.hid (H4.out h1 h2)
      clear H4
      go_enter Tryz.func17, Tryz.ntmps17
      go_wp2_with fail
      refine (H1.out _ HB.out.1).mono ?_
      rintro e w1 ⟨rfl, hb1⟩
      have HB1 := Lib.hid (And.intro (HB.out.1.trans (hb1.mono HB.out.1.size)) (And.intro (box3_later hb1 HB.out.2.1) (box3_later hb1 HB.out.2.2)))
      obtain ⟨s1, s2, s3, s4⟩ := boxes2 HB1.out.2.1 HB1.out.2.2
      clear hb1 HB H1
      go_wp2_with fail
      refine (H2.out _ HB1.out.1).mono ?_
      rintro e w2 ⟨rfl, hb2⟩
      have HB2 := Lib.hid (And.intro (HB1.out.1.trans (hb2.mono HB1.out.1.size)) (And.intro (box3_later hb2 HB1.out.2.1) (box3_later hb2 HB1.out.2.2)))
      clear hb2 HB1 s1 s2 s3 s4 H2
      obtain ⟨s1, s2, s3, s4⟩ := boxes2 HB2.out.2.1 HB2.out.2.2
      go_wp2_with fail
      refine (H3.out _ HB2.out.1).mono ?_
      cases B1 with
      | false =>
        rintro e w3 ⟨rfl, hb3⟩
        go_wp2_with fail
        go_ret
        exact ⟨rfl, HB2.out.1.trans (hb3.mono HB2.out.1.size)⟩
      | true =>
        rintro e w3 ⟨rfl, hb3⟩
        have HB3 := Lib.hid (And.intro (HB2.out.1.trans (hb3.mono HB2.out.1.size)) (And.intro (box3_later hb3 HB2.out.2.1) (box3_later hb3 HB2.out.2.2)))
        clear hb3 HB2 s1 s2 s3 s4 H3
        obtain ⟨s1, s2, s3, s4⟩ := boxes2 HB3.out.2.1 HB3.out.2.2
        go_wp2_with fail
        refine (H4'.out _ HB3.out.1).mono ?_
        rintro e w4 ⟨rfl, hb4⟩
        go_wp2_with fail
        go_ret
        exact ⟨rfl, HB3.out.1.trans (hb4.mono HB3.out.1.size)⟩

end Go.Proofs.YtjkcopgfcafpeaaGreatDoor

/-
  The walks of the reference's Equal and Same, of two places at which one scheme lies. Conditions: that it lies there.
-/
set_option linter.unusedSimpArgs false
set_option linter.unusedVariables false
namespace Go.Proofs.YtjkcopgfcafpeaaGreatDoor
open Go.RowKit Go.Maps

theorem cell_next {W W' : World} (hb : Below W.heap.size W W') {b o : Nat} {v : Value} (h : W.cell? ⟨b, o, none⟩ = some v) : W'.cell? ⟨b, o, none⟩ = some v := ((bcell hb).1 b o (lt_of_cell h)).trans h

/-- what the comparison of two functions reads: two boxes' second fields, two rows -/
theorem at12_next {W W' : World} (hb : Below W.heap.size W W') {A B : Nat} {va vb : Value} {b1 o1 : Nat} {v0 v1 v2 v3 v4 : Value} {b2 o2 : Nat} {u0 u1 u2 u3 u4 : Value}
    (h : W.cell? ⟨A, 1, none⟩ = some va ∧ W.cell? ⟨B, 1, none⟩ = some vb ∧ W.cell? ⟨b1, o1, none⟩ = some v0 ∧ W.cell? ⟨b1, o1 + 1, none⟩ = some v1 ∧ W.cell? ⟨b1, o1 + 2, none⟩ = some v2 ∧ W.cell? ⟨b1, o1 + 2 + 1, none⟩ = some v3 ∧ W.cell? ⟨b1, o1 + 2 + 2, none⟩ = some v4 ∧ W.cell? ⟨b2, o2, none⟩ = some u0 ∧ W.cell? ⟨b2, o2 + 1, none⟩ = some u1 ∧ W.cell? ⟨b2, o2 + 2, none⟩ = some u2 ∧ W.cell? ⟨b2, o2 + 2 + 1, none⟩ = some u3 ∧ W.cell? ⟨b2, o2 + 2 + 2, none⟩ = some u4) :
    W'.cell? ⟨A, 1, none⟩ = some va ∧ W'.cell? ⟨B, 1, none⟩ = some vb ∧ W'.cell? ⟨b1, o1, none⟩ = some v0 ∧ W'.cell? ⟨b1, o1 + 1, none⟩ = some v1 ∧ W'.cell? ⟨b1, o1 + 2, none⟩ = some v2 ∧ W'.cell? ⟨b1, o1 + 2 + 1, none⟩ = some v3 ∧ W'.cell? ⟨b1, o1 + 2 + 2, none⟩ = some v4 ∧ W'.cell? ⟨b2, o2, none⟩ = some u0 ∧ W'.cell? ⟨b2, o2 + 1, none⟩ = some u1 ∧ W'.cell? ⟨b2, o2 + 2, none⟩ = some u2 ∧ W'.cell? ⟨b2, o2 + 2 + 1, none⟩ = some u3 ∧ W'.cell? ⟨b2, o2 + 2 + 2, none⟩ = some u4 := by
  obtain ⟨h1, h2, h3, h4, h5, h6, h7, h8, h9, h10, h11, h12⟩ := h
  exact ⟨cell_next hb h1, cell_next hb h2, cell_next hb h3, cell_next hb h4, cell_next hb h5, cell_next hb h6, cell_next hb h7, cell_next hb h8, cell_next hb h9, cell_next hb h10, cell_next hb h11, cell_next hb h12⟩

set_option maxRecDepth 100000 in
set_option maxHeartbeats 8000000 in
/-- the reference's Equal, of two places at which one scheme lies -/
theorem refequal3_self (x : Sc) (a b : At2) (w : World) (hx : IsC w x a) (hy : IsC w x b) :
    Calls Tryz.prog 35 #[.agg #[.slice a.sp a.sn a.sc, .slice a.fp a.fn a.fc], .agg #[.slice b.sp b.sn b.sc, .slice b.fp b.fn b.fc]] w fun e w' => e = .returned (.bool true) ∧ Below w.heap.size w w' := by
  obtain ⟨sp, sn, sc, fp, fn, fc⟩ := a
  obtain ⟨sp', sn', sc', fp', fn', fc'⟩ := b
  obtain ⟨rfl, hsc, hsm, hsz, _⟩ := id hx.1
  obtain ⟨rfl, hfc, hfm, hfz, _⟩ := id hx.2
  obtain ⟨e1, hsc', hsm', hsz', _⟩ := id hy.1
  obtain ⟨e2, hfc', hfm', hfz', _⟩ := id hy.2
  unfold maxLen at hsm hfm hsm' hfm'
  dsimp only at e1 e2 hsc hsm hsz hfc hfm hfz hsc' hsm' hsz' hfc' hfm' hfz' ⊢
  subst e1 e2
  have HXY := Lib.hid (And.intro hx hy)
  clear hx hy hsz hfz hsz' hfz'
  have hbx1 := alloc_kept (heap_new w (.cells #[.slice sp x.S.len sc, .slice fp x.F.len fc] 25)) (.cells #[.slice sp' x.S.len sc', .slice fp' x.F.len fc'] 25)
  have hbx2 := heap_new2 w (.cells #[.slice sp x.S.len sc, .slice fp x.F.len fc] 25) (.cells #[.slice sp' x.S.len sc', .slice fp' x.F.len fc'] 25)
  have B2 : Below w.heap.size w ((w.alloc (.cells #[.slice sp x.S.len sc, .slice fp x.F.len fc] 25)).alloc (.cells #[.slice sp' x.S.len sc', .slice fp' x.F.len fc'] 25)) := ((Below.refl _ _).alloc (Nat.le_refl _) _).alloc (by simp) _
  have HB := Lib.hid (And.intro B2 (And.intro hbx1 hbx2))
  clear B2 hbx1 hbx2
  have hd1 : ((x.S.len : Int) != (x.S.len : Int)) = false := by simp
  have hd2 : ((x.F.len : Int) != (x.F.len : Int)) = false := by simp
  go_enter Tryz.func35, Tryz.ntmps35
  go_wp2_with fail
  clear hd1 hd2
  go_loopw [26] (fun v wr => ∃ j : Nat, j ≤ x.S.len ∧ v = .int .i64 (j : Int) ∧ Below w.heap.size w wr ∧
      wr.heap[w.heap.size]? = some (.cells #[.slice sp x.S.len sc, .slice fp x.F.len fc] 25 (0, 0)) ∧ wr.heap[w.heap.size + 1]? = some (.cells #[.slice sp' x.S.len sc', .slice fp' x.F.len fc'] 25 (0, 0)))
    (fun v _ => x.S.len - (Go.RowKit.intOf v).toNat)
  case atStart => exact ⟨0, Nat.zero_le _, rfl, HB.out.1, HB.out.2.1, HB.out.2.2⟩
  case round =>
    clear HB
    obtain ⟨j, hj, rfl, hb, hb1, hb2⟩ := hrel
    have HB := Lib.hid (And.intro hb (And.intro hb1 hb2))
    obtain ⟨t1, t2, t3, t4⟩ := boxes2 hb1 hb2
    clear hb hb1 hb2
    by_cases hlt : j < x.S.len
    · obtain ⟨b1, o1, rfl, f1, f2⟩ := rowS_all (HXY.out.1.below HB.out.1).1 hlt
      obtain ⟨b2, o2, rfl, f3, f4⟩ := rowS_all (HXY.out.2.below HB.out.1).1 hlt
      generalize x.S.nm j = s1 at f1 f3
      generalize x.S.rk j = k1 at f2 f4
      go_wp2_with fail
      go_quiet (fail)
      go_wp2_with fail
      go_roundw
      case rel => exact ⟨j + 1, by omega, by go_num, below_drewN HB.out.1 _, HB.out.2.1, HB.out.2.2⟩
      case measure => simp [Go.RowKit.intOf]; omega
    · go_wp2_with fail
      clear t1 t2 t3 t4
      go_loopw [44] (fun v wr => ∃ j : Nat, j ≤ x.F.len ∧ v = .int .i64 (j : Int) ∧ Below w.heap.size w wr ∧
          wr.heap[w.heap.size]? = some (.cells #[.slice sp x.S.len sc, .slice fp x.F.len fc] 25 (0, 0)) ∧ wr.heap[w.heap.size + 1]? = some (.cells #[.slice sp' x.S.len sc', .slice fp' x.F.len fc'] 25 (0, 0)))
        (fun v _ => x.F.len - (Go.RowKit.intOf v).toNat)
      case atStart => exact ⟨0, Nat.zero_le _, rfl, HB.out.1, HB.out.2.1, HB.out.2.2⟩
      case round =>
        clear HB hj hlt
        obtain ⟨j, hj, rfl, hb, hb1, hb2⟩ := hrel
        have HB := Lib.hid (And.intro hb (And.intro hb1 hb2))
        clear hb
        by_cases hlt : j < x.F.len
        · obtain ⟨b1, o1, rfl, p1, n1, c1, q1, m1, d1, e1, e2, e3, e4, e5, e6, e7⟩ := rowF_all (HXY.out.1.below HB.out.1).2 hlt
          obtain ⟨b2, o2, rfl, p2, n2, c2, q2, m2, d2, f1, f2, f3, f4, f5, f6, f7⟩ := rowF_all (HXY.out.2.below HB.out.1).2 hlt
          have K0 : wr.drew.cell? ⟨w.heap.size, 1, none⟩ = some (.slice (some ⟨b1, o1, none⟩) x.F.len fc) ∧ wr.drew.cell? ⟨w.heap.size + 1, 1, none⟩ = some (.slice (some ⟨b2, o2, none⟩) x.F.len fc') ∧ wr.drew.cell? ⟨b1, o1 + j * 5, none⟩ = some (.string (x.F.nm j)) ∧ wr.drew.cell? ⟨b1, o1 + j * 5 + 1, none⟩ = some (.slice p1 n1 c1) ∧ wr.drew.cell? ⟨b1, o1 + j * 5 + 2, none⟩ = some (.int .i64 (x.F.bk j)) ∧ wr.drew.cell? ⟨b1, o1 + j * 5 + 2 + 1, none⟩ = some (.int .i64 (x.F.bn j)) ∧ wr.drew.cell? ⟨b1, o1 + j * 5 + 2 + 2, none⟩ = some (.slice q1 m1 d1) ∧ wr.drew.cell? ⟨b2, o2 + j * 5, none⟩ = some (.string (x.F.nm j)) ∧ wr.drew.cell? ⟨b2, o2 + j * 5 + 1, none⟩ = some (.slice p2 n2 c2) ∧ wr.drew.cell? ⟨b2, o2 + j * 5 + 2, none⟩ = some (.int .i64 (x.F.bk j)) ∧ wr.drew.cell? ⟨b2, o2 + j * 5 + 2 + 1, none⟩ = some (.int .i64 (x.F.bn j)) ∧ wr.drew.cell? ⟨b2, o2 + j * 5 + 2 + 2, none⟩ = some (.slice q2 m2 d2) :=
            ⟨(boxes2 hb1 hb2).2.1, (boxes2 hb1 hb2).2.2.2, e1, e2, e3, e4, e5, f1, f2, f3, f4, f5⟩
          have HS := fun W (h : Below w.heap.size w W ∧ Below wr.heap.size wr W) => refequal_any (x.F.st j).nodes (x.F.st j) (x.F.st j) W p1 p2 n1 c1 n2 c2 (Nat.le_refl _) (e6.below h.2) (f6.below h.2)
          have HX := fun W (h : Below w.heap.size w W ∧ Below wr.heap.size wr W) => trefequal_any ((x.F.bt j).sz + 1) (x.F.bt j) (x.F.bt j) (x.F.bk j) (x.F.bn j) (x.F.bk j) (x.F.bn j) W q1 q2 m1 d1 m2 d2 (Nat.lt_succ_self _) (e7.below h.2) (f7.below h.2)
          rw [(T.eqT_iff (x.F.st j) (x.F.st j)).2 rfl] at HS
          rw [show X.eq1 (x.F.bk j) (x.F.bn j) (x.F.bt j) (x.F.bk j) (x.F.bn j) (x.F.bt j) = true by simp [X.eq1, (X.eqX_iff (x.F.bt j) (x.F.bt j)).2 rfl]] at HX
          have HS := Lib.hid HS
          have HX := Lib.hid HX
          have hBD : Below w.heap.size w wr.drew ∧ Below wr.heap.size wr wr.drew := ⟨below_drewN HB.out.1 1, below_drewN (Below.refl _ _) 1⟩
          have HBD := Lib.hid hBD
          clear hb1 hb2 e1 e2 e3 e4 e5 e6 e7 f1 f2 f3 f4 f5 f6 f7 hBD
          generalize x.F.nm j = s1 at K0
          generalize x.F.bk j = k1 at K0 HX
          generalize x.F.bn j = n1' at K0 HX
          go_wp2_with fail
          go_region_held3 (fun W => W.cell? ⟨w.heap.size, 1, none⟩ = some (.slice (some ⟨b1, o1, none⟩) x.F.len fc) ∧ W.cell? ⟨w.heap.size + 1, 1, none⟩ = some (.slice (some ⟨b2, o2, none⟩) x.F.len fc') ∧ W.cell? ⟨b1, o1 + j * 5, none⟩ = some (.string s1) ∧ W.cell? ⟨b1, o1 + j * 5 + 1, none⟩ = some (.slice p1 n1 c1) ∧ W.cell? ⟨b1, o1 + j * 5 + 2, none⟩ = some (.int .i64 k1) ∧ W.cell? ⟨b1, o1 + j * 5 + 2 + 1, none⟩ = some (.int .i64 n1') ∧ W.cell? ⟨b1, o1 + j * 5 + 2 + 2, none⟩ = some (.slice q1 m1 d1) ∧ W.cell? ⟨b2, o2 + j * 5, none⟩ = some (.string s1) ∧ W.cell? ⟨b2, o2 + j * 5 + 1, none⟩ = some (.slice p2 n2 c2) ∧ W.cell? ⟨b2, o2 + j * 5 + 2, none⟩ = some (.int .i64 k1) ∧ W.cell? ⟨b2, o2 + j * 5 + 2 + 1, none⟩ = some (.int .i64 n1') ∧ W.cell? ⟨b2, o2 + j * 5 + 2 + 2, none⟩ = some (.slice q2 m2 d2))
            (first | exact K0 | (refine at12_next hb4 ?_; assumption) | (refine at12_next hb3 ?_; assumption))
            (first
            | (go_at_call 76; refine (HS.out _ HBD.out).mono ?_; rintro e w3 ⟨rfl, hb3⟩)
            | (go_at_call 77; refine (HX.out _ ⟨HBD.out.1.trans (hb3.mono HBD.out.1.size), HBD.out.2.trans (hb3.mono HBD.out.2.size)⟩).mono ?_; rintro e w4 ⟨rfl, hb4⟩))
          all_goals
            have hb34 := hb3.trans (hb4.mono hb3.size)
            have HF := Lib.hid (And.intro (HBD.out.1.trans (hb34.mono HBD.out.1.size)) (And.intro (box3_later (HBD.out.2.trans (hb34.mono HBD.out.2.size)) HB.out.2.1) (box3_later (HBD.out.2.trans (hb34.mono HBD.out.2.size)) HB.out.2.2)))
            clear hb34
            go_wp2_with fail
            go_roundw
            case rel => exact ⟨j + 1, by omega, by go_num, HF.out.1, HF.out.2.1, HF.out.2.2⟩
            case measure => simp [Go.RowKit.intOf]; omega
        · obtain ⟨t1, t2, t3, t4⟩ := boxes2 hb1 hb2
          clear hb1 hb2
          go_wp2_with fail
          go_ret
          exact ⟨rfl, HB.out.1⟩

set_option maxRecDepth 100000 in
set_option maxHeartbeats 4000000 in
theorem refsame3_self (x : Sc) (a b : At2) (w : World) (hx : IsC w x a) (hy : IsC w x b) :
    Calls Tryz.prog 18 #[.agg #[.slice a.sp a.sn a.sc, .slice a.fp a.fn a.fc], .agg #[.slice b.sp b.sn b.sc, .slice b.fp b.fn b.fc]] w fun e w' => e = .returned (.bool (scOk x)) ∧ Below w.heap.size w w' := by
  have H1 := Lib.hid fun W (h : Below w.heap.size w W) => refis3_any x a W (hx.below h)
  have H2 := Lib.hid fun W (h : Below w.heap.size w W) => refis3_any x b W (hy.below h)
  have H3 := Lib.hid fun W (h : Below w.heap.size w W) => refequal3_self x a b W (hx.below h) (hy.below h)
  obtain ⟨sp, sn, sc, fp, fn, fc⟩ := a
  obtain ⟨sp', sn', sc', fp', fn', fc'⟩ := b
  dsimp only at H1 H2 H3 ⊢
  have hbx1 := alloc_kept (heap_new w (.cells #[.slice sp sn sc, .slice fp fn fc] 25)) (.cells #[.slice sp' sn' sc', .slice fp' fn' fc'] 25)
  have hbx2 := heap_new2 w (.cells #[.slice sp sn sc, .slice fp fn fc] 25) (.cells #[.slice sp' sn' sc', .slice fp' fn' fc'] 25)
  have B2 : Below w.heap.size w ((w.alloc (.cells #[.slice sp sn sc, .slice fp fn fc] 25)).alloc (.cells #[.slice sp' sn' sc', .slice fp' fn' fc'] 25)) := ((Below.refl _ _).alloc (Nat.le_refl _) _).alloc (by simp) _
  have HB := Lib.hid (And.intro B2 (And.intro hbx1 hbx2))
  clear B2 hbx1 hbx2 hx hy
  cases h1 : scOk x with
  | false =>
    rw [h1] at H1
    go_enter Tryz.func18, Tryz.ntmps18
    go_wp2_with fail
    refine (H1.out _ HB.out.1).mono ?_
    rintro e w1 ⟨rfl, hb1⟩
    go_wp2_with fail
    go_ret
    exact ⟨rfl, HB.out.1.trans (hb1.mono HB.out.1.size)⟩
  | true =>
    rw [h1] at H1 H2
    go_enter Tryz.func18, Tryz.ntmps18
    go_wp2_with fail
    refine (H1.out _ HB.out.1).mono ?_
    rintro e w1 ⟨rfl, hb1⟩
    have HB1 := Lib.hid (And.intro (HB.out.1.trans (hb1.mono HB.out.1.size)) (And.intro (box3_later hb1 HB.out.2.1) (box3_later hb1 HB.out.2.2)))
    obtain ⟨s1, s2, s3, s4⟩ := boxes2 HB1.out.2.1 HB1.out.2.2
    clear hb1 HB H1
    go_wp2_with fail
    refine (H2.out _ HB1.out.1).mono ?_
    rintro e w2 ⟨rfl, hb2⟩
    have HB2 := Lib.hid (And.intro (HB1.out.1.trans (hb2.mono HB1.out.1.size)) (And.intro (box3_later hb2 HB1.out.2.1) (box3_later hb2 HB1.out.2.2)))
    clear hb2 HB1 s1 s2 s3 s4 H2
    obtain ⟨s1, s2, s3, s4⟩ := boxes2 HB2.out.2.1 HB2.out.2.2
    go_wp2_with fail
    refine (H3.out _ HB2.out.1).mono ?_
    rintro e w3 ⟨rfl, hb3⟩
    go_wp2_with fail
    go_ret
    exact ⟨rfl, HB2.out.1.trans (hb3.mono HB2.out.1.size)⟩


end Go.Proofs.YtjkcopgfcafpeaaGreatDoor

