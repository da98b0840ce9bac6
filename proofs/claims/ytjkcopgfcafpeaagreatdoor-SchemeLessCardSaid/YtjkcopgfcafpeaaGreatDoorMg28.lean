/-
  Parts of one proof, laid into one text: SLinesW, SAllD, SAllT, SBodies. Conditions: each part names its own.
-/
import Derived.Test.YtjkcopgfcafpeaaGreatDoorMg27

/-
  The walk of lines, which reads all lines of a scheme into a draft. Conditions: texts of at most 65536 bytes.
-/
set_option linter.unusedSimpArgs false
set_option linter.unusedVariables false
namespace Go.Proofs.YtjkcopgfcafpeaaGreatDoor
open Go.RowKit Go.Maps

def LinesAny (w : World) (R : Nat) (s : List UInt8) (e : Ending) (w' : World) : Prop :=
  (∀ x, rdL s = some x → ∃ p : Pos, e = .returned (.pointer (some ⟨p.D, 0, none⟩)) ∧ Rd w' R [] ∧ DrL w' w.heap.size p x.1 x.2 (!sorted x.2) ∧ Chg w.heap.size R w w') ∧ (rdL s = none → Bad w w.heap.size R e w')

theorem lines_none {w w' : World} {R : Nat} {s : List UInt8} {e : Ending} (h : rdL s = none) (hb : Bad w w.heap.size R e w') : LinesAny w R s e w' := by
  refine ⟨fun x hx => ?_, fun _ => hb⟩
  rw [h] at hx
  cases hx

theorem rdSy_push {s r r1 r2 : List UInt8} {sy : List (ByteArray × Int)} {x : ByteArray × Int} (hrd : rdSy s = (rdSy r).map fun y => (sy ++ y.1, y.2)) (hp : pre symW r = true) (hr : r.drop 7 = r1) (h : rdSym r1 = some (x, r2)) :
    rdSy s = (rdSy r2).map fun y => ((sy ++ [x]) ++ y.1, y.2) := by
  rw [hrd, rdSy_more hp, hr, h, Option.bind_some, Option.map_map]
  congr 1
  funext y
  simp

theorem rdSy_bad {s r r1 : List UInt8} {sy : List (ByteArray × Int)} (hrd : rdSy s = (rdSy r).map fun y => (sy ++ y.1, y.2)) (hp : pre symW r = true) (hr : r.drop 7 = r1) (h : rdSym r1 = none) : rdL s = none := by
  unfold rdL
  rw [hrd, rdSy_more hp, hr, h]
  rfl

theorem rdFu_push {s r r1 r2 : List UInt8} {L : List FL} {x : FL} (hrd : rdFu s = (rdFu r).map fun y => L ++ y) (h0 : r ≠ []) (hr : need funW r = some r1) (h : rdFun r1 = some (x, r2)) :
    rdFu s = (rdFu r2).map fun y => (L ++ [x]) ++ y := by
  rw [hrd, rdFu_more h0, hr, Option.bind_some, h, Option.bind_some, Option.map_map]
  congr 1
  funext y
  simp

theorem rdFu_bad {s r : List UInt8} {L : List FL} (hrd : rdFu s = (rdFu r).map fun y => L ++ y) (h0 : r ≠ []) (h : ∀ r1, need funW r = some r1 → rdFun r1 = none) : rdFu s = none := by
  rw [hrd, rdFu_more h0]
  cases hn : need funW r with
  | none => rfl
  | some r1 => rw [Option.bind_some, h r1 hn]; rfl

theorem sorted_snoc (L : List FL) (x : FL) : sorted (L ++ [x]) = (sorted L && decide (x.er = 0)) := by simp [sorted]

/-- a new draft -/
theorem drL_new (w : World) :
    DrL (((w.alloc (.map #[] 0)).alloc (.map #[] 0)).alloc (.cells #[.slice none 0 0, .slice none 0 0, .slice none 0 0, .bool false, .map (some w.heap.size), .map (some (w.heap.size + 1))] 93)) w.heap.size ⟨w.heap.size + 2, w.heap.size, w.heap.size + 1, none, 0, none, 0, none, 0⟩ [] [] false := by
  have hbx := heap_new ((w.alloc (.map #[] 0)).alloc (.map #[] 0)) (.cells #[.slice none 0 0, .slice none 0 0, .slice none 0 0, .bool false, .map (some w.heap.size), .map (some (w.heap.size + 1))] 93)
  simp only [World.size_alloc] at hbx
  have m1 : MapN (w.alloc (.map #[] 0)) w.heap.size [] := World.ownsMap_made _ _ _ _
  have m2 : MapN ((w.alloc (.map #[] 0)).alloc (.map #[] 0)) (w.heap.size + 1) [] := by
    have := World.ownsMap_made (H := Unit) (w.alloc (.map #[] 0)) Tryz.prog 9 (plainElem Tryz.prog 3)
    rw [World.size_alloc] at this
    exact this
  refine ⟨hbx, (m1.alloc _).alloc _, m2.alloc _, World.ownsRow_nil _ _ _ _, World.ownsRow_nil _ _ _ _, ⟨[], World.ownsRow_nil _ _ _ _, fun i hi => absurd hi (Nat.not_lt_zero _)⟩, ?_, ?_, ?_, ?_⟩
  · show w.heap.size ≠ w.heap.size + 1; omega
  · show w.heap.size ≤ w.heap.size + 2; omega
  · exact Nat.le_refl _
  · show w.heap.size ≤ w.heap.size + 1; omega

set_option maxRecDepth 100000 in
set_option maxHeartbeats 8000000 in
theorem lines_any (R : Nat) (s : List UInt8) (w : World) (hr : Rd w R s) (hg : Gl w) (h6 : 6 ≤ R) (hs : s.length ≤ 65536) :
    Calls Tryz.prog 58 #[.pointer (some ⟨R, 0, none⟩)] w (LinesAny w R s) := by
  have hRw := lt_of_block hr
  have hmm := @run_makeMap Tryz.prog
  have h0 := drL_new w
  have K0 : Chg w.heap.size R w (((w.alloc (.map #[] 0)).alloc (.map #[] 0)).alloc (.cells #[.slice none 0 0, .slice none 0 0, .slice none 0 0, .bool false, .map (some w.heap.size), .map (some (w.heap.size + 1))] 93)) :=
    (((Chg.refl _ R w).alloc (Nat.le_refl _) _).alloc (by simp) _).alloc (by simp; omega) _
  have R0 := alloc_kept (alloc_kept (alloc_kept hr (.map #[] 0)) (.map #[] 0)) (.cells #[.slice none 0 0, .slice none 0 0, .slice none 0 0, .bool false, .map (some w.heap.size), .map (some (w.heap.size + 1))] 93)
  have H0 := Lib.hid (And.intro h0 (And.intro K0 R0))
  have HG := Lib.hid hg
  clear h0 K0 R0 hr hg
  go_enter Tryz.func58, Tryz.ntmps58
  go_wp2_with fail
  clear hmm
  go_loopw [8] (fun _ wr => ∃ (p : Pos) (sy : List (ByteArray × Int)) (r : List UInt8), p.D = w.heap.size + 2 ∧ sy.length + r.length ≤ s.length ∧ rdSy s = (rdSy r).map (fun y => (sy ++ y.1, y.2)) ∧ Rd wr R r ∧ DrL wr w.heap.size p sy [] false ∧ Chg w.heap.size R w wr)
    (fun _ wr => restLen wr R)
  case atStart => exact ⟨_, [], s, rfl, by simp, by cases rdSy s <;> rfl, H0.out.2.2, H0.out.1, H0.out.2.1⟩
  case round =>
    clear H0
    obtain ⟨p, sy, r, hpD, hle, hrd, hRd, hD, hC⟩ := hrel
    have HP := Lib.hid hpD
    have HSY := Lib.hid hrd
    have HD := Lib.hid hD
    have HC := Lib.hid hC
    have hgl := HG.out.chg h6 hRw hC
    clear hpD hrd hD hC
    by_cases hp : pre symW r = true
    · obtain ⟨r1, hr1⟩ : ∃ r1, r.drop symW.length = r1 := ⟨_, rfl⟩
      have c0 := Lib.hid fun W hr => skip_yes R ⟨#[115, 121, 109, 98, 111, 108, 32]⟩ r symW rfl W hr hp
      rw [hr1] at c0
      have hl1 : r1.length + 7 ≤ r.length := by have := pre_length hp; rw [← hr1, List.length_drop]; simp only [symW, List.length_cons, List.length_nil] at *; omega
      have hrl : restLen wr R = r.length := restLen_rd hRd
      have HRL := Lib.hid hrl
      have HH := Lib.hid (And.intro hp hr1)
      clear hp hr1 hrl
      go_wp2_with fail
      refine (c0.out _ hRd).mono ?_
      rintro e w1 ⟨rfl, hw1⟩
      have q1 : Rd w1 R r1 := by rw [← hw1]; exact rd_set hRd _
      have g1 : wr.grownBy w1 (some R) := by rw [← hw1]; exact grown_set0 _ _ _
      have D1 := HD.out.step hRw g1
      have K1 := HC.out.trans (Chg.grownR (B := w.heap.size) g1 HC.out.size)
      have gl1 := HG.out.chg h6 hRw K1
      have H1 := Lib.hid (And.intro D1 (And.intro K1 gl1))
      clear hw1 g1 hRd D1 K1 gl1 hgl c0
      cases hsy : rdSym r1 with
      | none =>
        have c1 := Lib.hid fun W hr hg hB => symbol_no w.heap.size R p r1 W hr hg h6 hB hRw (by omega) hsy
        rw [HP.out] at c1
        have HN := Lib.hid hsy
        clear hsy
        go_wp2_with fail
        refine (c1.out _ q1 H1.out.2.2 H1.out.2.1.size).mono ?_
        rintro e w2 ⟨rfl, K2⟩
        go_wp2_with fail
        exact ⟨rfl, lines_none (rdSy_bad HSY.out HH.out.1 HH.out.2 HN.out) ⟨rfl, H1.out.2.1.trans K2⟩⟩
      | some x =>
        obtain ⟨x, r2⟩ := x
        have hl2 := rdSym_lt hsy
        have c1 := Lib.hid fun W hr hD => symbol_yes w.heap.size R p sy [] false r1 r2 x W hr hD hRw (by omega) (by omega) hsy
        rw [HP.out] at c1
        have HN := Lib.hid hsy
        clear hsy
        go_wp2_with fail
        refine (c1.out _ q1 H1.out.1).mono ?_
        rintro e w2 ⟨p', rfl, q2, D2, hsame, K2⟩
        have H2 := Lib.hid (And.intro D2 (And.intro hsame (And.intro K2 q2)))
        clear D2 hsame K2 q2 q1
        go_wp2_with fail
        go_roundw
        case rel => exact ⟨p', sy ++ [x], r2, H2.out.2.1.1.trans HP.out, by rw [List.length_append, List.length_singleton]; omega, rdSy_push HSY.out HH.out.1 HH.out.2 HN.out, H2.out.2.2.2, H2.out.1, H1.out.2.1.trans H2.out.2.2.1⟩
        case measure => rw [HRL.out, restLen_rd H2.out.2.2.2]; omega
    · have hp' : pre symW r = false := by simpa using hp
      have c0 := Lib.hid fun W hr => skip_no R ⟨#[115, 121, 109, 98, 111, 108, 32]⟩ r symW rfl W hr hp'
      have hsy2 : rdL s = (rdFu r).map fun y => (sy, y) := by
        unfold rdL
        rw [HSY.out, rdSy_end hp']
        simp
      have HS := Lib.hid hsy2
      clear hp hp' hsy2 HSY
      go_wp2_with fail
      refine (c0.out _ hRd).mono ?_
      rintro e w1 ⟨rfl, hw1⟩
      have q1 : Rd w1 R r := by rw [← hw1]; exact rd_set hRd _
      have g1 : wr.grownBy w1 (some R) := by rw [← hw1]; exact grown_set0 _ _ _
      have D1 := HD.out.step hRw g1
      have K1 := HC.out.trans (Chg.grownR (B := w.heap.size) g1 HC.out.size)
      have H1 := Lib.hid (And.intro D1 (And.intro K1 q1))
      clear hw1 g1 hRd D1 K1 hgl c0 q1 HD HC
      go_wp2_with fail
      go_loopw [13] (fun _ wr => ∃ (p : Pos) (L : List FL) (r2 : List UInt8), p.D = w.heap.size + 2 ∧ L.length + r2.length ≤ s.length ∧ rdFu r = (rdFu r2).map (fun y => L ++ y) ∧ Rd wr R r2 ∧ DrL wr w.heap.size p sy L (!sorted L) ∧ Chg w.heap.size R w wr)
        (fun _ wr => restLen wr R)
      case atStart => exact ⟨p, [], r, HP.out, by simp; omega, by cases rdFu r <;> rfl, H1.out.2.2, H1.out.1, H1.out.2.1⟩
      case round =>
        clear H1 HP
        obtain ⟨p, L, r2, hpD, hle2, hrd, hRd, hD, hC⟩ := hrel
        have HP := Lib.hid hpD
        have HFU := Lib.hid hrd
        have HD := Lib.hid hD
        have HC := Lib.hid hC
        have hgl := HG.out.chg h6 hRw hC
        have HE := Lib.hid (fun W hr => ended_any R r2 W hr)
        clear hpD hrd hD hC
        cases r2 with
        | nil =>
          have hend : rdL s = some (sy, L) := by
            rw [HS.out, HFU.out, rdFu_end]
            simp
          have HEn := Lib.hid hend
          clear hend hgl
          go_wp2_with fail
          refine (HE.out _ hRd).mono ?_
          rintro e w2 ⟨rfl, rfl⟩
          have HR2 := Lib.hid hRd
          clear hRd
          go_wp2_with fail
          go_ret
          refine ⟨fun x hx => ?_, fun hx => (by rw [HEn.out] at hx; cases hx)⟩
          rw [HEn.out] at hx
          injection hx with hx
          subst hx
          exact ⟨p, by rw [HP.out]; rfl, HR2.out, HD.out, HC.out⟩
        | cons ch r3 =>
          have hrl : restLen wr R = (ch :: r3).length := restLen_rd hRd
          have HRL := Lib.hid hrl
          have hne : (ch :: r3) ≠ [] := by simp
          have HNE := Lib.hid hne
          clear hrl hne
          generalize hrr : (ch :: r3) = rr at HFU hRd HE HRL HNE hle2
          have hemp : rr.isEmpty = false := by rw [← hrr]; rfl
          rw [hemp] at HE
          clear hrr hemp
          cases hnd : need funW rr with
          | none =>
            have c0 := Lib.hid fun W hr => need_no R ⟨#[102, 117, 110, 32]⟩ rr funW rfl W hr (need_no_pre hnd)
            have hbad : rdL s = none := by rw [HS.out, rdFu_bad HFU.out HNE.out (fun r1 h1 => by rw [hnd] at h1; cases h1)]; rfl
            have HB := Lib.hid hbad
            clear hnd hbad hgl
            go_wp2_with fail
            refine (HE.out _ hRd).mono ?_
            rintro e w2 ⟨rfl, rfl⟩
            go_wp2_with fail
            refine (c0.out _ hRd).mono ?_
            rintro e w3 ⟨rfl, hw3⟩
            have g3 : wr.grownBy w3 (some R) := by rw [← hw3]; exact grown_set0 _ _ _
            clear hw3
            go_wp2_with fail
            exact ⟨rfl, lines_none HB.out ⟨rfl, HC.out.trans (Chg.grownR g3 HC.out.size)⟩⟩
          | some r1 =>
            have hl1 := need_le hnd
            simp only [funW, List.length_cons, List.length_nil] at hl1
            obtain ⟨p1, p2⟩ := need_yes_pre hnd
            have c0 := Lib.hid fun W hr => need_yes R ⟨#[102, 117, 110, 32]⟩ rr funW rfl W hr p1
            rw [p2] at c0
            clear p1 p2
            have HND := Lib.hid hnd
            cases hfn : rdFun r1 with
            | none =>
              have c1 := Lib.hid fun W hr hD hg => function_no w.heap.size R p sy L (!sorted L) r1 W hr hD hg h6 hRw (by omega) (by omega) hfn
              rw [HP.out] at c1
              have hbad : rdL s = none := by rw [HS.out, rdFu_bad HFU.out HNE.out (fun r1' h1 => by rw [hnd] at h1; injection h1 with h1; rw [← h1]; exact hfn)]; rfl
              have HB := Lib.hid hbad
              clear hnd hbad hgl hfn
              go_wp2_with fail
              refine (HE.out _ hRd).mono ?_
              rintro e w2 ⟨rfl, rfl⟩
              go_wp2_with fail
              refine (c0.out _ hRd).mono ?_
              rintro e w3 ⟨rfl, hw3⟩
              have q3 : Rd w3 R r1 := by rw [← hw3]; exact rd_set hRd _
              have g3 : wr.grownBy w3 (some R) := by rw [← hw3]; exact grown_set0 _ _ _
              have D3 := HD.out.step hRw g3
              have K3 := HC.out.trans (Chg.grownR (B := w.heap.size) g3 HC.out.size)
              have gl3 := HG.out.chg h6 hRw K3
              have H3 := Lib.hid (And.intro D3 (And.intro K3 gl3))
              clear hw3 g3 hRd D3 K3 gl3 c0
              go_wp2_with fail
              refine (c1.out _ q3 H3.out.1 H3.out.2.2).mono ?_
              rintro e w4 ⟨rfl, K4⟩
              go_wp2_with fail
              exact ⟨rfl, lines_none HB.out ⟨rfl, H3.out.2.1.trans K4⟩⟩
            | some x =>
              obtain ⟨x, r4⟩ := x
              have hl4 := rdFun_lt hfn
              have hfun := rdFu_push HFU.out HNE.out hnd hfn
              have hx := hfn
              unfold rdFun at hx
              simp only [Option.bind_eq_some_iff] at hx
              obtain ⟨⟨n, r5⟩, h0, r6, h1, ⟨part, r7⟩, h2, h3⟩ := hx
              simp only at h1 h2 h3
              by_cases h4 : ansE part = 4
              · rw [if_pos h4] at h3; cases h3
              rw [if_neg h4, Option.map_eq_some_iff] at h3
              obtain ⟨⟨body, r8⟩, h5, h7⟩ := h3
              simp only [Prod.mk.injEq] at h7
              obtain ⟨rfl, rfl⟩ := h7
              have c1 := Lib.hid fun W hr hD hg => function_yes w.heap.size R p sy L (!sorted L) r1 r5 r6 part r7 body r8 n W hr hD hg h6 hRw (by omega) (by omega) h0 h1 h2 h4 h5
              rw [HP.out] at c1
              have HFN := Lib.hid hfun
              clear hnd hgl hfn hfun h0 h1 h2 h4 h5
              go_wp2_with fail
              refine (HE.out _ hRd).mono ?_
              rintro e w2 ⟨rfl, rfl⟩
              go_wp2_with fail
              refine (c0.out _ hRd).mono ?_
              rintro e w3 ⟨rfl, hw3⟩
              have q3 : Rd w3 R r1 := by rw [← hw3]; exact rd_set hRd _
              have g3 : wr.grownBy w3 (some R) := by rw [← hw3]; exact grown_set0 _ _ _
              have D3 := HD.out.step hRw g3
              have K3 := HC.out.trans (Chg.grownR (B := w.heap.size) g3 HC.out.size)
              have gl3 := HG.out.chg h6 hRw K3
              have H3 := Lib.hid (And.intro D3 (And.intro K3 gl3))
              clear hw3 g3 hRd D3 K3 gl3 c0
              go_wp2_with fail
              refine (c1.out _ q3 H3.out.1 H3.out.2.2).mono ?_
              rintro e w4 ⟨p', rfl, q4, D4, hsame, K4⟩
              have hso : (!sorted (L ++ [⟨n, ansT part, ansE part, body⟩])) = (!sorted L || !decide (ansE part = 0)) := by rw [sorted_snoc, Bool.not_and]
              have D5 : DrL w4 w.heap.size p' sy (L ++ [⟨n, ansT part, ansE part, body⟩]) (!sorted (L ++ [⟨n, ansT part, ansE part, body⟩])) := by rw [hso]; exact D4
              have H4 := Lib.hid (And.intro D5 (And.intro hsame (And.intro K4 q4)))
              clear D4 D5 hsame K4 q4 q3 hso
              go_wp2_with fail
              go_roundw
              case rel => exact ⟨p', L ++ [⟨n, ansT part, ansE part, body⟩], r8, H4.out.2.1.1.trans HP.out, by rw [List.length_append, List.length_singleton]; omega, HFN.out, H4.out.2.2.2, H4.out.1, H3.out.2.1.trans H4.out.2.2.1⟩
              case measure => rw [HRL.out, restLen_rd H4.out.2.2.2]; omega

end Go.Proofs.YtjkcopgfcafpeaaGreatDoor

/-
  The walks of All at lines and at a draft's term: it recovers what the reader panics with. Conditions: texts of at most 65536 bytes.
-/
set_option linter.unusedSimpArgs false
set_option linter.unusedVariables false
namespace Go.Proofs.YtjkcopgfcafpeaaGreatDoor
open Go.RowKit Go.Maps

theorem catchD_panicking (bp bq : Nat) {x y : Value} {tx ty : TypeId} (u : TypeId) (pv : Value) (older : List PanicEntry) (w : World) (hp : w.heap[bp]? = some (.cells #[x] tx (0, 0))) (hq : w.heap[bq]? = some (.cells #[y] ty (0, 0))) (hn : bq ≠ bp) :
    CallsD Tryz.prog 94 #[.pointer (some ⟨bp, 0, none⟩), .pointer (some ⟨bq, 0, none⟩)] (.panicking ({ v := .iface u pv, recovered := false } :: older)) w fun e u' w' =>
      e = .returned (.tuple #[]) ∧ u' = .panicking ({ v := .iface u pv, recovered := true } :: older) ∧ w'.cell? ⟨bp, 0, none⟩ = some (.pointer none) ∧ w'.cell? ⟨bq, 0, none⟩ = some (.bool false) ∧ ∀ B, B ≤ bp → B ≤ bq → Below B w w' := by
  have hqA := other_set hq hn (.pointer none)
  have hc := cell_of_one hp
  have hz := free_of_one hp
  have hc2 := cell_of_one hqA
  have hz2 := free_of_one hqA
  refine callsD_of_wpS Tryz.func94 rfl fun c₀ cs hu => ?_
  apply wpS_seq
  apply wpS_region
  simp [wpOpsS, go_sem, recoverD, hu, Tryz.ntmps94, Exit.thenS]
  refine wpS_cond (t := true) (by simp [Act.eval, Array.replicate]) ?_
  simp only [if_true]
  apply wpS_seq
  apply wpS_region
  simp [wpOpsS, go_sem, Exit.thenS, Array.replicate]
  apply wpS_region
  simp [wpOpsS, go_sem, hc, hz, hc2, hz2, bodyPostS, results, Tryz.results94]
  exact fun B h1 h2 => ((Below.refl B w).setCell h1 _).setCell h2 _

theorem catchD_idle (p q : Addr) (w : World) :
    CallsD Tryz.prog 94 #[.pointer (some p), .pointer (some q)] .returning w fun e u' w' => e = .returned (.tuple #[]) ∧ u' = .returning ∧ w' = w := by
  refine callsD_of_wpS Tryz.func94 rfl fun c₀ cs hu => ?_
  apply wpS_seq
  apply wpS_region
  simp [wpOpsS, go_sem, recoverD, hu, Tryz.ntmps94, Exit.thenS]
  refine wpS_cond (t := false) (by simp [Act.eval, Array.replicate]) ?_
  simp only [Bool.false_eq_true, if_false]
  refine wpS_of_wp (wp_skip ?_)
  cases c₀
  simp_all [bodyPostS, results, Tryz.results94]

/-- the three blocks that All makes: the results and the reader -/
def W3D (w : World) (s : List UInt8) : World := ((w.alloc (.cells #[.pointer none] 86)).alloc (.cells #[.bool false] 4)).alloc (.cells #[.string ⟨s.toArray⟩] 123)

theorem W3D_facts (w : World) (s : List UInt8) : Rd (W3D w s) (w.heap.size + 1 + 1) s ∧ (W3D w s).heap.size = w.heap.size + 3 ∧ (W3D w s).heap[w.heap.size]? = some (.cells #[.pointer none] 86 (0, 0)) ∧ (W3D w s).heap[w.heap.size + 1]? = some (.cells #[.bool false] 4 (0, 0)) ∧ Below w.heap.size w (W3D w s) := by
  refine ⟨?_, by simp [W3D], alloc_kept (alloc_kept (heap_new _ _) _) _, alloc_kept (heap_new2 _ _ _) _, (((Below.refl w.heap.size w).alloc (Nat.le_refl _) _).alloc (by simp) _).alloc (by simp; omega) _⟩
  have := heap_new2 (w.alloc (.cells #[.pointer none] 86)) (.cells #[.bool false] 4) (.cells #[.string ⟨s.toArray⟩] 123)
  simp only [World.size_alloc] at this
  exact this

theorem after_lines {w w1 : World} {s : List UInt8} (hg : Chg (W3D w s).heap.size (w.heap.size + 1 + 1) (W3D w s) w1) :
    w1.heap[w.heap.size]? = some (.cells #[.pointer none] 86 (0, 0)) ∧ w1.heap[w.heap.size + 1]? = some (.cells #[.bool false] 4 (0, 0)) ∧ Below w.heap.size w w1 := by
  obtain ⟨_, hz, h0, h1, hb⟩ := W3D_facts w s
  refine ⟨(hg.block _ (by omega) (by omega)).trans h0, (hg.block _ (by omega) (by omega)).trans h1, hb.trans ⟨hg.os, hg.tape, hg.output, hg.size, fun k hk => hg.block k (by omega) (by omega)⟩⟩

theorem Gl.below {w w' : World} (h : Gl w) (h6 : 6 ≤ w.heap.size) (hb : Below w.heap.size w w') : Gl w' := h.keep fun k hk => hb.block k (by omega)

theorem DS.setLow {w : World} {B : Nat} {p : Pos} {n1 n2 : List ByteArray} {sy : List (ByteArray × Int)} {L : List FL} {b : List (Int × Int × X)} {bs : List (List UInt8)} {bad : Bool} (h : DS w B p n1 n2 sy L b bs bad) {k : Nat} (hk : k < B) (o : Nat) (v : Value) : DS (w.setCell ⟨k, o, none⟩ v) B p n1 n2 sy L b bs bad :=
  h.keep (fun j a _ => Below.heap_setCell _ _ _ _ (show j ≠ k by omega)) (by simp [World.setCell])

def ReadsOk (w : World) (s : List UInt8) (x : List (ByteArray × Int) × List FL) (e : Ending) (w' : World) : Prop :=
  ∃ p : Pos, e = .returned (.tuple #[.pointer (some ⟨p.D, 0, none⟩), .bool true]) ∧ DrL w' (w.heap.size + 3) p x.1 x.2 (!sorted x.2) ∧ Below w.heap.size w w'

set_option maxHeartbeats 1600000 in
theorem allD_bad (s : List UInt8) (w : World) (hg : Gl w) (h6 : 6 ≤ w.heap.size) (hs : s.length ≤ 65536) (h : rdL s = none) :
    Calls Tryz.prog 57 #[.string ⟨s.toArray⟩, .func (Fn.func 58) #[] #[]] w fun e w' => e = .returned (.tuple #[.pointer none, .bool false]) ∧ Below w.heap.size w w' := by
  have hmf : ∀ (fn : Fn) (first cap : Array Value) (w : World), (Instr.makeFunc fn first cap).run Tryz.prog w = .ok (.func fn first cap) w := fun _ _ _ _ => rfl
  obtain ⟨r3, hz3, _, _, b3⟩ := W3D_facts w s
  have hc := Lib.hid fun W hr hg => (lines_any (w.heap.size + 1 + 1) s W hr hg (by omega) hs).mono fun e w' hh => hh.2 h
  have gl3 := hg.below h6 b3
  clear h hg
  go_enter_defers Tryz.func57, Tryz.ntmps57
  go_wp2_with fail
  refine (hc.out _ r3 gl3).mono ?_
  rintro e w1 ⟨rfl, hg⟩
  obtain ⟨h0, h1, hb⟩ := after_lines hg
  go_wp2_with fail
  refine leaves_cons (f := 94) (args := #[.pointer (some ⟨w.heap.size, 0, none⟩), .pointer (some ⟨w.heap.size + 1, 0, none⟩)]) (by simp) (by simp [go_sem]) ?_
  refine (catchD_panicking w.heap.size (w.heap.size + 1) _ _ [] _ h0 h1 (by omega)).mono ?_
  rintro e u' w'' ⟨rfl, rfl, k0, l0, hB⟩
  simp [Leaves, settle, results, Tryz.results57, go_sem, k0, l0]
  exact hb.trans (hB _ (Nat.le_refl _) (by omega))

set_option maxHeartbeats 1600000 in
theorem allD_ok (s : List UInt8) (w : World) (hg : Gl w) (h6 : 6 ≤ w.heap.size) (hs : s.length ≤ 65536) (x : List (ByteArray × Int) × List FL) (h : rdL s = some x) :
    Calls Tryz.prog 57 #[.string ⟨s.toArray⟩, .func (Fn.func 58) #[] #[]] w (ReadsOk w s x) := by
  have hmf : ∀ (fn : Fn) (first cap : Array Value) (w : World), (Instr.makeFunc fn first cap).run Tryz.prog w = .ok (.func fn first cap) w := fun _ _ _ _ => rfl
  obtain ⟨r3, hz3, _, _, b3⟩ := W3D_facts w s
  have hc := Lib.hid fun W hr hg => (lines_any (w.heap.size + 1 + 1) s W hr hg (by omega) hs).mono fun e w' hh => hh.1 x h
  have gl3 := hg.below h6 b3
  have HE := Lib.hid fun b W hd => ended_any b [] W hd
  clear h hg
  go_enter_defers Tryz.func57, Tryz.ntmps57
  go_wp2_with fail
  refine (hc.out _ r3 gl3).mono ?_
  rintro e w1 ⟨p, rfl, hrd, hD, hg⟩
  obtain ⟨h0, h1, hb⟩ := after_lines hg
  have hge := hD.lt (Or.inl rfl)
  change DrL w1 (W3D w s).heap.size p x.1 x.2 (!sorted x.2) at hD
  rw [hz3] at hD
  have m0 := cell_of_one h0
  have m1 := free_of_one h0
  have h0' := out_set (v' := .pointer (some ⟨p.D, 0, none⟩)) h0
  have h1' := other_set h1 (by omega) (.pointer (some ⟨p.D, 0, none⟩)) (a := w.heap.size)
  have hr' := other_set hrd (by omega) (.pointer (some ⟨p.D, 0, none⟩)) (a := w.heap.size)
  have k0 := cell_of_one h0'
  have k1 := free_of_one h0'
  have l0 := cell_of_one h1'
  have l1 := free_of_one h1'
  have HD := Lib.hid hD
  have HB := Lib.hid hb
  clear hD hb
  go_wp2_with fail
  refine (HE.out _ _ hr').mono ?_
  rintro e w2 ⟨rfl, rfl⟩
  go_wp2_with fail
  · refine leaves_cons (f := 94) (args := #[.pointer (some ⟨w.heap.size, 0, none⟩), .pointer (some ⟨w.heap.size + 1, 0, none⟩)]) (by simp) (by simp [go_sem]) ?_
    refine (catchD_idle ⟨w.heap.size, 0, none⟩ ⟨w.heap.size + 1, 0, none⟩ _).mono ?_
    rintro e u' w'' ⟨rfl, rfl, rfl⟩
    simp [Leaves, settle, results, Tryz.results57, go_sem, k0, l0]
    refine ⟨p, rfl, ?_, ((HB.out.setCell (by simp) _).setCell (by simp) _).setCell (by simp) _⟩
    exact ((HD.out.setLow (by omega) 0 _).setLow (by omega) 0 _).setLow (by omega) 0 _

end Go.Proofs.YtjkcopgfcafpeaaGreatDoor

/-
  The walks of All at a draft's term. Conditions: texts of at most 65536 bytes.
-/
set_option linter.unusedSimpArgs false
set_option linter.unusedVariables false
namespace Go.Proofs.YtjkcopgfcafpeaaGreatDoor
open Go.RowKit Go.Maps

def zT : Obj := .cells #[.int .i64 0, .int .i64 0, .slice none 0 0] 50

theorem catchT_panicking (bp bq : Nat) {x y z : Value} {v : Value} {ty : TypeId} (u : TypeId) (pv : Value) (older : List PanicEntry) (w : World) (hp : w.heap[bp]? = some (.cells #[x, y, z] 50 (0, 0))) (hq : w.heap[bq]? = some (.cells #[v] ty (0, 0))) (hn : bq ≠ bp) :
    CallsD Tryz.prog 128 #[.pointer (some ⟨bp, 0, none⟩), .pointer (some ⟨bq, 0, none⟩)] (.panicking ({ v := .iface u pv, recovered := false } :: older)) w fun e u' w' =>
      e = .returned (.tuple #[]) ∧ u' = .panicking ({ v := .iface u pv, recovered := true } :: older) ∧ w'.heap[bp]? = some zT ∧ w'.cell? ⟨bq, 0, none⟩ = some (.bool false) ∧ ∀ B, B ≤ bp → B ≤ bq → B ≤ w.heap.size → Below B w w' := by
  obtain ⟨⟨n1, n2, n3⟩, _⟩ := term_box (heap_new w (.cells #[.int .i64 0, .int .i64 0, .slice none 0 0] 50))
  have hpA := alloc_kept hp (.cells #[.int .i64 0, .int .i64 0, .slice none 0 0] 50)
  obtain ⟨⟨a1, a2, a3⟩, b1, b2, b3⟩ := term_box hpA
  have hbx := put3_box (x := .int .i64 0) (y := .int .i64 0) (z := .slice none 0 0) hpA
  have hqA : (put3 (w.alloc (.cells #[.int .i64 0, .int .i64 0, .slice none 0 0] 50)) bp (.int .i64 0) (.int .i64 0) (.slice none 0 0)).heap[bq]? = some (.cells #[v] ty (0, 0)) := (put3_far hn).trans (alloc_kept hq _)
  have hc2 := cell_of_one hqA
  have hz2 := free_of_one hqA
  have hfin : ((put3 (w.alloc (.cells #[.int .i64 0, .int .i64 0, .slice none 0 0] 50)) bp (.int .i64 0) (.int .i64 0) (.slice none 0 0)).setCell ⟨bq, 0, none⟩ (.bool false)).heap[bp]? = some zT := (Below.heap_setCell _ _ _ _ (Ne.symm hn)).trans hbx
  have hfb : ∀ B, B ≤ bp → B ≤ bq → B ≤ w.heap.size → Below B w ((put3 (w.alloc (.cells #[.int .i64 0, .int .i64 0, .slice none 0 0] 50)) bp (.int .i64 0) (.int .i64 0) (.slice none 0 0)).setCell ⟨bq, 0, none⟩ (.bool false)) := fun B h1 h2 h3 =>
    (((((Below.refl B w).alloc h3 _).setCell (p := ⟨bp, 0, none⟩) h1 _).setCell (p := ⟨bp, 1, none⟩) h1 _).setCell (p := ⟨bp, 2, none⟩) h1 _).setCell h2 _
  unfold put3 at hc2 hz2 hfin hfb
  have HFI := Lib.hid hfin
  have HFB := Lib.hid hfb
  clear hfin hfb hqA hbx
  refine callsD_of_wpS Tryz.func128 rfl fun c₀ cs hu => ?_
  apply wpS_seq
  apply wpS_region
  simp [wpOpsS, go_sem, recoverD, hu, Tryz.ntmps128, Exit.thenS]
  refine wpS_cond (t := true) (by simp [Act.eval, Array.replicate]) ?_
  simp only [if_true]
  apply wpS_seq
  apply wpS_region
  simp [wpOpsS, go_sem, Exit.thenS, Tryz.zeroValue50, Tryz.isAgg50, Tryz.sizeOf50, Tryz.underlying50, Array.replicate]
  apply wpS_region
  simp [wpOpsS, go_sem, n1, n2, n3, a1, a2, a3, b1, b2, b3, hc2, hz2, bodyPostS, results, Tryz.results128]
  exact ⟨HFI.out, HFB.out⟩

theorem catchT_idle (p q : Addr) (w : World) :
    CallsD Tryz.prog 128 #[.pointer (some p), .pointer (some q)] .returning w fun e u' w' => e = .returned (.tuple #[]) ∧ u' = .returning ∧ w' = w := by
  refine callsD_of_wpS Tryz.func128 rfl fun c₀ cs hu => ?_
  apply wpS_seq
  apply wpS_region
  simp [wpOpsS, go_sem, recoverD, hu, Tryz.ntmps128, Exit.thenS]
  refine wpS_cond (t := false) (by simp [Act.eval, Array.replicate]) ?_
  simp only [Bool.false_eq_true, if_false]
  refine wpS_of_wp (wp_skip ?_)
  cases c₀
  simp_all [bodyPostS, results, Tryz.results128]

/-- a draft's two maps -/
structure Ms (w : World) (D m1 m2 : Nat) (n1 n2 : List ByteArray) : Prop where
  c4 : w.cell? ⟨D, 4, none⟩ = some (.map (some m1))
  c5 : w.cell? ⟨D, 5, none⟩ = some (.map (some m2))
  map1 : MapN w m1 n1
  map2 : MapN w m2 n2

theorem Ms.env {w w' : World} {R D m1 m2 : Nat} {n1 n2 : List ByteArray} (h : Ms w D m1 m2 n1 n2) (hg : Gl w) (h6 : 6 ≤ w.heap.size) (hb : Below w.heap.size w w') (hR : w.heap.size ≤ R) (hR2 : R < w'.heap.size) : Env w' R D m1 m2 n1 n2 := by
  obtain ⟨_, _, e1⟩ := mapN_block h.map1
  obtain ⟨_, _, e2⟩ := mapN_block h.map2
  have l1 := lt_of_block e1
  have l2 := lt_of_block e2
  have lD : D < w.heap.size := lt_of_cell h.c4
  have hz := hb.size
  exact ⟨⟨((bcell hb).1 _ _ lD).trans h.c4, ((bcell hb).1 _ _ lD).trans h.c5, mapN_far h.map1 (hb.block _ l1), mapN_far h.map2 (hb.block _ l2), by omega, by omega, by omega, by omega⟩, hg.below h6 hb, by omega, hR2⟩

/-- the three blocks that All makes: the results and the reader -/
def W3T (w : World) (s : List UInt8) : World := ((w.alloc (.cells #[.int .i64 0, .int .i64 0, .slice none 0 0] 50)).alloc (.cells #[.bool false] 4)).alloc (.cells #[.string ⟨s.toArray⟩] 123)

theorem W3T_facts (w : World) (s : List UInt8) : Rd (W3T w s) (w.heap.size + 1 + 1) s ∧ (W3T w s).heap.size = w.heap.size + 3 ∧ (W3T w s).heap[w.heap.size]? = some zT ∧ (W3T w s).heap[w.heap.size + 1]? = some (.cells #[.bool false] 4 (0, 0)) ∧ Below w.heap.size w (W3T w s) := by
  refine ⟨?_, by simp [W3T], alloc_kept (alloc_kept (heap_new _ _) _) _, alloc_kept (heap_new2 _ _ _) _, (((Below.refl w.heap.size w).alloc (Nat.le_refl _) _).alloc (by simp) _).alloc (by simp; omega) _⟩
  have := heap_new2 (w.alloc (.cells #[.int .i64 0, .int .i64 0, .slice none 0 0] 50)) (.cells #[.bool false] 4) (.cells #[.string ⟨s.toArray⟩] 123)
  simp only [World.size_alloc] at this
  exact this

theorem after_term {w w1 : World} {s : List UInt8} (hg : (W3T w s).grownBy w1 (some (w.heap.size + 1 + 1))) :
    w1.heap[w.heap.size]? = some (.cells #[.int .i64 0, .int .i64 0, .slice none 0 0] 50 (0, 0)) ∧ w1.heap[w.heap.size + 1]? = some (.cells #[.bool false] 4 (0, 0)) ∧ Below w.heap.size w w1 := by
  obtain ⟨_, hz, h0, h1, hb⟩ := W3T_facts w s
  refine ⟨(hg.block _ (by omega) (fun e => by injection e; omega)).trans h0, (hg.block _ (by omega) (fun e => by injection e; omega)).trans h1, hb.trans ⟨hg.os, hg.tape, hg.output, hg.size, fun k hk => hg.block k (by omega) (fun e => by injection e; omega)⟩⟩

def TermBad (w : World) (e : Ending) (w' : World) : Prop := e = .returned (.tuple #[.agg #[.int .i64 0, .int .i64 0, .slice none 0 0], .bool false]) ∧ Below w.heap.size w w'

def TermGot (w : World) (t : Int × Int × X) (e : Ending) (w' : World) : Prop :=
  ∃ q c, e = .returned (.tuple #[.agg #[.int .i64 t.1, .int .i64 t.2.1, .slice q t.2.2.len c], .bool true]) ∧ OwnX w' t.2.2 q c w.heap.size w'.heap.size ∧ Below w.heap.size w w'

set_option maxHeartbeats 1600000 in
theorem allT_none (D m1 m2 : Nat) (n1 n2 : List ByteArray) (s : List UInt8) (w : World) (hm : Ms w D m1 m2 n1 n2) (hg : Gl w) (h6 : 6 ≤ w.heap.size) (hs : s.length ≤ 65536) (h : rdT n1 n2 s = none) :
    Calls Tryz.prog 101 #[.string ⟨s.toArray⟩, .func (Fn.func 102) #[.pointer (some ⟨D, 0, none⟩)] #[]] w (TermBad w) := by
  have hmf : ∀ (fn : Fn) (first cap : Array Value) (w : World), (Instr.makeFunc fn first cap).run Tryz.prog w = .ok (.func fn first cap) w := fun _ _ _ _ => rfl
  obtain ⟨r3, hz3, _, _, b3⟩ := W3T_facts w s
  have hE := hm.env hg h6 b3 (show w.heap.size ≤ w.heap.size + 1 + 1 by omega) (by omega)
  have hc := Lib.hid fun W hr hE => (term_any (s.length + 1) (w.heap.size + 1 + 1) D m1 m2 n1 n2 s W (by omega) hs hr hE).mono fun e w' hh => hh.2 h
  clear h hg hm
  go_enter_defers Tryz.func101, Tryz.ntmps101
  go_wp2_with fail
  refine (hc.out _ r3 hE).mono ?_
  rintro e w1 ⟨rfl, hg⟩
  obtain ⟨h0, h1, hb⟩ := after_term hg
  go_wp2_with fail
  refine leaves_cons (f := 128) (args := #[.pointer (some ⟨w.heap.size, 0, none⟩), .pointer (some ⟨w.heap.size + 1, 0, none⟩)]) (by simp) (by simp [go_sem]) ?_
  refine (catchT_panicking w.heap.size (w.heap.size + 1) _ _ [] _ h0 h1 (by omega)).mono ?_
  rintro e u' w'' ⟨rfl, rfl, k0, l0, hB⟩
  obtain ⟨⟨k1, k2, k3⟩, _⟩ := term_box k0
  simp [Leaves, settle, results, Tryz.results101, go_sem, k1, k2, k3, l0]
  exact ⟨rfl, hb.trans (hB _ (Nat.le_refl _) (by omega) hb.size)⟩

set_option maxHeartbeats 1600000 in
theorem allT_more (D m1 m2 : Nat) (n1 n2 : List ByteArray) (s r : List UInt8) (t : Int × Int × X) (w : World) (hm : Ms w D m1 m2 n1 n2) (hg : Gl w) (h6 : 6 ≤ w.heap.size) (hs : s.length ≤ 65536) (h : rdT n1 n2 s = some (t, r)) (hr : r.isEmpty = false) :
    Calls Tryz.prog 101 #[.string ⟨s.toArray⟩, .func (Fn.func 102) #[.pointer (some ⟨D, 0, none⟩)] #[]] w (TermBad w) := by
  have hmf : ∀ (fn : Fn) (first cap : Array Value) (w : World), (Instr.makeFunc fn first cap).run Tryz.prog w = .ok (.func fn first cap) w := fun _ _ _ _ => rfl
  obtain ⟨r3, hz3, _, _, b3⟩ := W3T_facts w s
  have hE := hm.env hg h6 b3 (show w.heap.size ≤ w.heap.size + 1 + 1 by omega) (by omega)
  have hc := Lib.hid fun W hr hE => (term_any (s.length + 1) (w.heap.size + 1 + 1) D m1 m2 n1 n2 s W (by omega) hs hr hE).mono fun e w' hh => hh.1 t r h
  have HE := Lib.hid fun b W hd => ended_any b r W hd
  rw [hr] at HE
  clear h hg hm hr
  go_enter_defers Tryz.func101, Tryz.ntmps101
  go_wp2_with fail
  refine (hc.out _ r3 hE).mono ?_
  rintro e w1 ⟨q, c, rfl, hrd, hO, hg⟩
  obtain ⟨h0, h1, hb⟩ := after_term hg
  obtain ⟨⟨a1, a2, a3⟩, b1, b2, b3⟩ := term_box h0
  have h0' := put3_box (x := .int .i64 t.1) (y := .int .i64 t.2.1) (z := .slice q t.2.2.len c) h0
  have h1' : (put3 w1 w.heap.size (.int .i64 t.1) (.int .i64 t.2.1) (.slice q t.2.2.len c)).heap[w.heap.size + 1]? = some (.cells #[.bool false] 4 (0, 0)) := (put3_far (by omega)).trans h1
  have hr' : Rd (put3 w1 w.heap.size (.int .i64 t.1) (.int .i64 t.2.1) (.slice q t.2.2.len c)) (w.heap.size + 1 + 1) r := (put3_far (by omega)).trans hrd
  have hb' : Below w.heap.size w (put3 w1 w.heap.size (.int .i64 t.1) (.int .i64 t.2.1) (.slice q t.2.2.len c)) := ((hb.setCell (p := ⟨w.heap.size, 0, none⟩) (Nat.le_refl _) _).setCell (p := ⟨w.heap.size, 1, none⟩) (Nat.le_refl _) _).setCell (p := ⟨w.heap.size, 2, none⟩) (Nat.le_refl _) _
  have H1 := Lib.hid (And.intro h0' (And.intro h1' hb'))
  unfold put3 at hr' H1
  clear h0' h1' hb' hO
  go_wp2_with fail
  refine (HE.out _ _ hr').mono ?_
  rintro e w2 ⟨rfl, rfl⟩
  go_wp2_with fail
  refine (fail_any _).mono ?_
  rintro e w2 ⟨rfl, rfl⟩
  go_wp2_with fail
  refine leaves_cons (f := 128) (args := #[.pointer (some ⟨w.heap.size, 0, none⟩), .pointer (some ⟨w.heap.size + 1, 0, none⟩)]) (by simp) (by simp [go_sem]) ?_
  refine (catchT_panicking w.heap.size (w.heap.size + 1) _ _ [] _ H1.out.1 H1.out.2.1 (by omega)).mono ?_
  rintro e u' w'' ⟨rfl, rfl, k0, l0, hB⟩
  obtain ⟨⟨k1, k2, k3⟩, _⟩ := term_box k0
  simp [Leaves, settle, results, Tryz.results101, go_sem, k1, k2, k3, l0]
  exact ⟨rfl, H1.out.2.2.trans (hB _ (Nat.le_refl _) (by omega) H1.out.2.2.size)⟩

set_option maxHeartbeats 1600000 in
theorem allT_ok (D m1 m2 : Nat) (n1 n2 : List ByteArray) (s : List UInt8) (t : Int × Int × X) (w : World) (hm : Ms w D m1 m2 n1 n2) (hg : Gl w) (h6 : 6 ≤ w.heap.size) (hs : s.length ≤ 65536) (h : rdT n1 n2 s = some (t, [])) :
    Calls Tryz.prog 101 #[.string ⟨s.toArray⟩, .func (Fn.func 102) #[.pointer (some ⟨D, 0, none⟩)] #[]] w (TermGot w t) := by
  have hmf : ∀ (fn : Fn) (first cap : Array Value) (w : World), (Instr.makeFunc fn first cap).run Tryz.prog w = .ok (.func fn first cap) w := fun _ _ _ _ => rfl
  obtain ⟨r3, hz3, _, _, b3⟩ := W3T_facts w s
  have hE := hm.env hg h6 b3 (show w.heap.size ≤ w.heap.size + 1 + 1 by omega) (by omega)
  have hc := Lib.hid fun W hr hE => (term_any (s.length + 1) (w.heap.size + 1 + 1) D m1 m2 n1 n2 s W (by omega) hs hr hE).mono fun e w' hh => hh.1 t [] h
  have HE := Lib.hid fun b W hd => ended_any b [] W hd
  clear h hg hm
  go_enter_defers Tryz.func101, Tryz.ntmps101
  go_wp2_with fail
  refine (hc.out _ r3 hE).mono ?_
  rintro e w1 ⟨q, c, rfl, hrd, hO, hg⟩
  change OwnX w1 t.2.2 q c (W3T w s).heap.size w1.heap.size at hO
  rw [hz3] at hO
  obtain ⟨h0, h1, hb⟩ := after_term hg
  obtain ⟨⟨a1, a2, a3⟩, b1, b2, b3⟩ := term_box h0
  have h0' := put3_box (x := .int .i64 t.1) (y := .int .i64 t.2.1) (z := .slice q t.2.2.len c) h0
  have h1' : (put3 w1 w.heap.size (.int .i64 t.1) (.int .i64 t.2.1) (.slice q t.2.2.len c)).heap[w.heap.size + 1]? = some (.cells #[.bool false] 4 (0, 0)) := (put3_far (by omega)).trans h1
  have hr' : Rd (put3 w1 w.heap.size (.int .i64 t.1) (.int .i64 t.2.1) (.slice q t.2.2.len c)) (w.heap.size + 1 + 1) [] := (put3_far (by omega)).trans hrd
  have hb' : Below w.heap.size w (put3 w1 w.heap.size (.int .i64 t.1) (.int .i64 t.2.1) (.slice q t.2.2.len c)) := ((hb.setCell (p := ⟨w.heap.size, 0, none⟩) (Nat.le_refl _) _).setCell (p := ⟨w.heap.size, 1, none⟩) (Nat.le_refl _) _).setCell (p := ⟨w.heap.size, 2, none⟩) (Nat.le_refl _) _
  have hO' : OwnX (put3 w1 w.heap.size (.int .i64 t.1) (.int .i64 t.2.1) (.slice q t.2.2.len c)) t.2.2 q c (w.heap.size + 3) w1.heap.size := put3_own hO (by omega)
  obtain ⟨⟨k1, k2, k3⟩, z1, z2, z3⟩ := term_box h0'
  have l0 := cell_of_one h1'
  have l1 := free_of_one h1'
  have h0'' := put3_box (x := .int .i64 t.1) (y := .int .i64 t.2.1) (z := .slice q t.2.2.len c) h0'
  have h1'' := (put3_far (x := .int .i64 t.1) (y := .int .i64 t.2.1) (z := .slice q t.2.2.len c) (show w.heap.size + 1 ≠ w.heap.size by omega)).trans h1'
  have hO'' := put3_own (x := .int .i64 t.1) (y := .int .i64 t.2.1) (z := .slice q t.2.2.len c) hO' (show w.heap.size < w.heap.size + 3 by omega)
  have l2 := cell_of_one h1''
  have l3 := free_of_one h1''
  have hb'' := ((hb'.setCell (p := ⟨w.heap.size, 0, none⟩) (Nat.le_refl _) (.int .i64 t.1)).setCell (p := ⟨w.heap.size, 1, none⟩) (Nat.le_refl _) (.int .i64 t.2.1)).setCell (p := ⟨w.heap.size, 2, none⟩) (Nat.le_refl _) (.slice q t.2.2.len c)
  have hbx := (Below.heap_setCell (put3 (put3 w1 w.heap.size (.int .i64 t.1) (.int .i64 t.2.1) (.slice q t.2.2.len c)) w.heap.size (.int .i64 t.1) (.int .i64 t.2.1) (.slice q t.2.2.len c)) ⟨w.heap.size + 1, 0, none⟩ (.bool true) w.heap.size (by show w.heap.size ≠ w.heap.size + 1; omega)).trans h0''
  obtain ⟨⟨x1, x2, x3⟩, _⟩ := term_box hbx
  have H1 := Lib.hid (And.intro hO'' hb'')
  clear h0' h1' hb' hO' hO hO'' hb'' h0'' h1'' hbx
  unfold put3 at hr' k1 k2 k3 z1 z2 z3 l0 l1 l2 l3 x1 x2 x3 H1
  go_wp2_with fail
  refine (HE.out _ _ hr').mono ?_
  rintro e w2 ⟨rfl, rfl⟩
  go_wp2_with fail
  refine leaves_cons (f := 128) (args := #[.pointer (some ⟨w.heap.size, 0, none⟩), .pointer (some ⟨w.heap.size + 1, 0, none⟩)]) (by simp) (by simp [go_sem]) ?_
  refine (catchT_idle ⟨w.heap.size, 0, none⟩ ⟨w.heap.size + 1, 0, none⟩ _).mono ?_
  rintro e u' w'' ⟨rfl, rfl, rfl⟩
  simp [Leaves, settle, results, Tryz.results101, go_sem, x1, x2, x3, l2]
  refine ⟨q, c, rfl, ?_, H1.out.2.setCell (by simp) _⟩
  have hz1 : (W3T w s).heap.size ≤ w1.heap.size := hg.size
  refine ((H1.out.1.set (a := ⟨w.heap.size + 1, 0, none⟩) (show w.heap.size + 1 < w.heap.size + 3 by omega) _).mono (by omega) ?_)
  simp [World.setCell]

end Go.Proofs.YtjkcopgfcafpeaaGreatDoor

/-
  The walk of readBodies, which reads the bodies of a draft's functions. Conditions: texts of at most 65536 bytes.
-/
set_option linter.unusedSimpArgs false
set_option linter.unusedVariables false
namespace Go.Proofs.YtjkcopgfcafpeaaGreatDoor
open Go.RowKit Go.Maps

theorem ownsRow_setAt {w : World} {B : Nat} {ty : TypeId} {sz n cap g j : Nat} {xs : List Value} (h : w.ownsRow B ty sz (.slice (some ⟨g, 0, none⟩) n cap) n xs) (u : Value) :
    (w.setCell ⟨g, j, none⟩ u).ownsRow B ty sz (.slice (some ⟨g, 0, none⟩) n cap) n (xs.set j u) := by
  refine ⟨by rw [List.length_set]; exact h.1, ?_⟩
  rcases h.2 with ⟨e, _⟩ | ⟨g', cap', cur, e, hb, hh, h1, h2, h3, h4⟩
  · cases e
  · injection e with e1 e2 e3
    injection e1 with e1
    injection e1 with e1
    subst e1 e3
    refine Or.inr ⟨g, cap, cur.setIfInBounds j u, rfl, hb, six_set hh, h1, h2, by simpa using h3, ?_⟩
    rw [← h4]
    simp [List.take_set]

theorem fuSc_b {L : List FL} {b : List (Int × Int × X)} {t : Int × Int × X} {i : Nat} (hi : i < b.length) : (fuSc L (b ++ [t])).bk i = (fuSc L b).bk i ∧ (fuSc L (b ++ [t])).bn i = (fuSc L b).bn i ∧ (fuSc L (b ++ [t])).bt i = (fuSc L b).bt i := by
  refine ⟨?_, ?_, ?_⟩ <;> simp [fuSc, List.getElem?_append_left hi]

theorem fuSc_c {L : List FL} {b : List (Int × Int × X)} {t : Int × Int × X} : (fuSc L (b ++ [t])).bk b.length = t.1 ∧ (fuSc L (b ++ [t])).bn b.length = t.2.1 ∧ (fuSc L (b ++ [t])).bt b.length = t.2.2 := by
  refine ⟨?_, ?_, ?_⟩ <;> simp [fuSc]

theorem fuSc_d {L : List FL} {b : List (Int × Int × X)} {t : Int × Int × X} {i : Nat} (hi : b.length < i) : (fuSc L (b ++ [t])).bk i = (fuSc L b).bk i ∧ (fuSc L (b ++ [t])).bn i = (fuSc L b).bn i ∧ (fuSc L (b ++ [t])).bt i = (fuSc L b).bt i := by
  have h1 : (b ++ [t])[i]? = none := List.getElem?_eq_none (by simp; omega)
  have h2 : b[i]? = none := List.getElem?_eq_none (by omega)
  refine ⟨?_, ?_, ?_⟩ <;> simp [fuSc, h1, h2]

/-- the body of one more function is put in its place -/
theorem DS.setBody {W : World} {B : Nat} {p : Pos} {n1 n2 : List ByteArray} {sy : List (ByteArray × Int)} {L : List FL} {b : List (Int × Int × X)} {bs : List (List UInt8)} {bad : Bool} {t : Int × Int × X} {q : Option Addr} {c lo hi g : Nat}
    (h : DS W B p n1 n2 sy L b bs bad) (hi1 : b.length < L.length) (hg : p.pf = some ⟨g, 0, none⟩) (hO : OwnX W t.2.2 q c lo hi) (hlo : B ≤ lo) (hhi : hi ≤ W.heap.size) (hcl : ∀ k, p.mut k → k < lo ∨ hi ≤ k) :
    DS (((W.setCell ⟨g, b.length * 5 + 2, none⟩ (.int .i64 t.1)).setCell ⟨g, b.length * 5 + 2 + 1, none⟩ (.int .i64 t.2.1)).setCell ⟨g, b.length * 5 + 2 + 2, none⟩ (.slice q t.2.2.len c)) B p n1 n2 sy L (b ++ [t]) bs bad := by
  obtain ⟨b1, b2, b3, b4, b5, b6, b7, b8, b9, b10, b11, b12, b13⟩ := h.boxes
  obtain ⟨vs, hF, hA⟩ := h.rowF
  have hgo : (Value.slice p.pf 0 0).ownBlock = some g := by rw [hg]; rfl
  have hgm : p.mut g := Or.inr (Or.inr (Or.inr (Or.inr (Or.inl hgo))))
  have hk : ∀ k, k ≠ g → (((W.setCell ⟨g, b.length * 5 + 2, none⟩ (.int .i64 t.1)).setCell ⟨g, b.length * 5 + 2 + 1, none⟩ (.int .i64 t.2.1)).setCell ⟨g, b.length * 5 + 2 + 2, none⟩ (.slice q t.2.2.len c)).heap[k]? = W.heap[k]? := fun k hn => by
    rw [Below.heap_setCell _ _ _ _ hn, Below.heap_setCell _ _ _ _ hn, Below.heap_setCell _ _ _ _ hn]
  have hsz : (((W.setCell ⟨g, b.length * 5 + 2, none⟩ (.int .i64 t.1)).setCell ⟨g, b.length * 5 + 2 + 1, none⟩ (.int .i64 t.2.1)).setCell ⟨g, b.length * 5 + 2 + 2, none⟩ (.slice q t.2.2.len c)).heap.size = W.heap.size := by simp [World.setCell]
  have hF2 : (((W.setCell ⟨g, b.length * 5 + 2, none⟩ (.int .i64 t.1)).setCell ⟨g, b.length * 5 + 2 + 1, none⟩ (.int .i64 t.2.1)).setCell ⟨g, b.length * 5 + 2 + 2, none⟩ (.slice q t.2.2.len c)).ownsRow B 52 5 (.slice p.pf L.length p.cf) L.length
      (((vs.set (b.length * 5 + 2) (.int .i64 t.1)).set (b.length * 5 + 2 + 1) (.int .i64 t.2.1)).set (b.length * 5 + 2 + 2) (.slice q t.2.2.len c)) := by
    rw [hg] at hF ⊢
    exact ownsRow_setAt (ownsRow_setAt (ownsRow_setAt hF _) _) _
  have hvl : vs.length = L.length * 5 := hF.1
  refine ⟨(hk _ (fun e => b4 (by rw [e]; exact hgo))).trans h.box, mapN_far h.map1 (hk _ (fun e => b7 (by rw [e]; exact hgo))), mapN_far h.map2 (hk _ (fun e => b10 (by rw [e]; exact hgo))),
    ownsRow_far h.rowS fun k e => hk k (fun e2 => by subst e2; exact (b12 k e).1 hgo), ownsRow_far h.rowB fun k e => hk k (fun e2 => by subst e2; exact b13 k hgo e), ⟨_, hF2, ?_⟩, h.ne, h.geD, h.ge1, h.ge2⟩
  intro i hi2
  obtain ⟨q', c', lo', hi', r', d', lo2, hi3, h1, h2, h3, h4, h5, h6, h7, h8, h9, h10, h11, h12⟩ := (hA i hi2).keep (p' := p) (fun k a c d => hk k (fun e => d (by rw [e]; exact hgm))) (by rw [hsz]; exact Nat.le_refl _) (fun k hk => Or.inl hk)
  have hst : (fuSc L (b ++ [t])).st i = (fuSc L b).st i := rfl
  have hnm : (fuSc L (b ++ [t])).nm i = (fuSc L b).nm i := rfl
  by_cases e : i = b.length
  · subst e
    obtain ⟨e1, e2, e3⟩ := fuSc_c (L := L) (b := b) (t := t)
    refine ⟨q', c', lo', hi', q, c, lo, hi, ?_, ?_, ?_, ?_, ?_, by rw [hst]; exact h6, ?_, h8, h9, hlo, by rw [hsz]; exact hhi, fun k hk => ⟨(h12 k hk).1, hcl k hk⟩⟩
    · rw [List.getElem?_set_ne (by omega), List.getElem?_set_ne (by omega), List.getElem?_set_ne (by omega), hnm]; exact h1
    · rw [List.getElem?_set_ne (by omega), List.getElem?_set_ne (by omega), List.getElem?_set_ne (by omega), hst]; exact h2
    · rw [List.getElem?_set_ne (by omega), List.getElem?_set_ne (by omega), List.getElem?_set_self (by omega), e1]
    · rw [List.getElem?_set_ne (by omega), show b.length * 5 + 3 = b.length * 5 + 2 + 1 by omega, List.getElem?_set_self (by simp; omega), e2]
    · rw [show b.length * 5 + 4 = b.length * 5 + 2 + 2 by omega, List.getElem?_set_self (by simp; omega), e3]
    · rw [e3]
      exact hO.keep fun k a c => hk k (fun e => by subst e; have := hcl k hgm; omega)
  · have ee : (fuSc L (b ++ [t])).bk i = (fuSc L b).bk i ∧ (fuSc L (b ++ [t])).bn i = (fuSc L b).bn i ∧ (fuSc L (b ++ [t])).bt i = (fuSc L b).bt i := by
      by_cases hl : i < b.length
      · exact fuSc_b hl
      · exact fuSc_d (by omega)
    obtain ⟨e1, e2, e3⟩ := ee
    refine ⟨q', c', lo', hi', r', d', lo2, hi3, ?_, ?_, ?_, ?_, ?_, by rw [hst]; exact h6, by rw [e3]; exact h7, h8, h9, h10, h11, h12⟩
    · rw [List.getElem?_set_ne (by omega), List.getElem?_set_ne (by omega), List.getElem?_set_ne (by omega), hnm]; exact h1
    · rw [List.getElem?_set_ne (by omega), List.getElem?_set_ne (by omega), List.getElem?_set_ne (by omega), hst]; exact h2
    · rw [List.getElem?_set_ne (by omega), List.getElem?_set_ne (by omega), List.getElem?_set_ne (by omega), e1]; exact h3
    · rw [List.getElem?_set_ne (by omega), List.getElem?_set_ne (by omega), List.getElem?_set_ne (by omega), e2]; exact h4
    · rw [List.getElem?_set_ne (by omega), List.getElem?_set_ne (by omega), List.getElem?_set_ne (by omega), e3]; exact h5

/-- between two bodies -/
def DrB (w : World) (B : Nat) (p : Pos) (sy : List (ByteArray × Int)) (L : List FL) (b : List (Int × Int × X)) (bad : Bool) : Prop :=
  DS w B p (sy.map (·.1)) (L.map (·.nm)) sy L b (L.map (·.bd)) bad

def BodiesAny (w : World) (B : Nat) (p : Pos) (sy : List (ByteArray × Int)) (L : List FL) (bad : Bool) (f : Option (List (Int × Int × X))) (e : Ending) (w' : World) : Prop :=
  (∀ b, f = some b → e = .returned (.bool true) ∧ DrB w' B p sy L b bad ∧ Below B w w') ∧ (f = none → e = .returned (.bool false) ∧ Below B w w')

theorem bodiesAny_none {w w' : World} {B : Nat} {p : Pos} {sy : List (ByteArray × Int)} {L : List FL} {bad : Bool} {f : Option (List (Int × Int × X))} {e : Ending} (hf : f = none) (h : e = .returned (.bool false) ∧ Below B w w') : BodiesAny w B p sy L bad f e w' := by
  subst hf
  exact ⟨fun _ h => (by cases h), fun _ => h⟩

theorem bodiesAny_some {w w' : World} {B : Nat} {p : Pos} {sy : List (ByteArray × Int)} {L : List FL} {bad : Bool} {f : Option (List (Int × Int × X))} {b : List (Int × Int × X)} {e : Ending} (hf : f = some b) (h : e = .returned (.bool true) ∧ DrB w' B p sy L b bad ∧ Below B w w') : BodiesAny w B p sy L bad f e w' := by
  subst hf
  refine ⟨fun b' h' => ?_, fun h => (by cases h)⟩
  injection h' with h'
  subst h'
  exact h

theorem rdBodies_step {S F : List ByteArray} {L : List FL} {i : Nat} (hi : i < L.length) : rdBodies S F (L.drop i) = (rdBody S F (L[i]).bd).bind fun t => (rdBodies S F (L.drop (i + 1))).map fun y => t :: y := by
  rw [List.drop_eq_getElem_cons hi]
  rfl

theorem rdBodies_push {S F : List ByteArray} {L : List FL} {i : Nat} {b : List (Int × Int × X)} {t : Int × Int × X} (hi : i < L.length) (h : rdBodies S F L = (rdBodies S F (L.drop i)).map fun y => b ++ y) (ht : rdBody S F (L[i]).bd = some t) :
    rdBodies S F L = (rdBodies S F (L.drop (i + 1))).map fun y => (b ++ [t]) ++ y := by
  rw [h, rdBodies_step hi, ht, Option.bind_some, Option.map_map]
  congr 1
  funext y
  simp

theorem DS.ms {w : World} {B : Nat} {p : Pos} {n1 n2 : List ByteArray} {sy : List (ByteArray × Int)} {L : List FL} {b : List (Int × Int × X)} {bs : List (List UInt8)} {bad : Bool} (h : DS w B p n1 n2 sy L b bs bad) : Ms w p.D p.m1 p.m2 n1 n2 :=
  ⟨h.cells.1.2.2.2.2.1, h.cells.1.2.2.2.2.2, h.map1, h.map2⟩

theorem rdBody_cases (S F : List ByteArray) (s : List UInt8) : (rdBody S F s = none ∧ (rdT S F s = none ∨ ∃ t r, rdT S F s = some (t, r) ∧ r.isEmpty = false)) ∨ ∃ t, rdBody S F s = some t ∧ rdT S F s = some (t, []) := by
  unfold rdBody
  cases h : rdT S F s with
  | none => exact Or.inl ⟨rfl, Or.inl rfl⟩
  | some x =>
    obtain ⟨t, r⟩ := x
    simp only [Option.bind_some]
    cases r with
    | nil => exact Or.inr ⟨t, rfl, rfl⟩
    | cons a r => exact Or.inl ⟨rfl, Or.inr ⟨t, a :: r, rfl, rfl⟩⟩

/-- All at a body -/
theorem allT_bad (D m1 m2 : Nat) (n1 n2 : List ByteArray) (s : List UInt8) (w : World) (hm : Ms w D m1 m2 n1 n2) (hg : Gl w) (h6 : 6 ≤ w.heap.size) (hs : s.length ≤ 65536) (h : rdT n1 n2 s = none ∨ ∃ t r, rdT n1 n2 s = some (t, r) ∧ r.isEmpty = false) :
    Calls Tryz.prog 101 #[.string ⟨s.toArray⟩, .func (Fn.func 102) #[.pointer (some ⟨D, 0, none⟩)] #[]] w (TermBad w) := by
  rcases h with h | ⟨t, r, h, hr⟩
  · exact allT_none D m1 m2 n1 n2 s w hm hg h6 hs h
  · exact allT_more D m1 m2 n1 n2 s r t w hm hg h6 hs h hr

set_option maxRecDepth 100000 in
set_option maxHeartbeats 8000000 in
theorem bodies_any (B : Nat) (p : Pos) (sy : List (ByteArray × Int)) (L : List FL) (bad : Bool) (w : World) (hD : DrL w B p sy L bad) (hg : Gl w) (h6 : 6 ≤ B) (hle : L.length ≤ 65536) (hbd : ∀ f ∈ L, f.bd.length ≤ 65536) :
    Calls Tryz.prog 59 #[.pointer (some ⟨p.D, 0, none⟩)] w (BodiesAny w B p sy L bad (rdB (sy, L))) := by
  obtain ⟨D, m1, m2, ps, cs, pf, cf, pb, cb⟩ := p
  obtain ⟨⟨y0, y1, y2, y3, y4, y5⟩, z0, z1, z2, z3⟩ := hD.cells
  dsimp only at y0 y1 y2 y3 y4 y5 z0 z1 z2 z3 ⊢
  have hlB : (L.map (·.bd)).length = L.length := by simp
  rw [hlB] at y2
  have HD := Lib.hid hD
  have HG := Lib.hid hg
  have HBD := Lib.hid hbd
  obtain ⟨f, hf⟩ : ∃ f, rdB (sy, L) = f := ⟨_, rfl⟩
  rw [hf]
  have hf2 : rdBodies (sy.map (·.1)) (L.map (·.nm)) L = f := hf
  have HF := Lib.hid hf2
  have hBw := hD.lt (Or.inl rfl)
  dsimp only at hBw
  have hrow := hD.rowBm hlB
  dsimp only at hrow
  have HRow := Lib.hid hrow
  clear hD hg hbd hf hf2 hlB hrow
  go_enter Tryz.func59, Tryz.ntmps59
  go_wp2_with fail
  go_loopw [12] (fun i wr => ∃ (b : List (Int × Int × X)), b.length ≤ L.length ∧ i = .int .i64 (b.length : Int) ∧ f = (rdBodies (sy.map (·.1)) (L.map (·.nm)) (L.drop b.length)).map (fun y => b ++ y) ∧ DrB wr B ⟨D, m1, m2, ps, cs, pf, cf, pb, cb⟩ sy L b bad ∧ Below B w wr)
    (fun i _ => L.length - (Go.RowKit.intOf i).toNat)
  case atStart => exact ⟨[], Nat.zero_le _, rfl, by rw [← HF.out]; simp, HD.out, Below.refl _ _⟩
  case round =>
    clear y0 y1 y2 y3 y4 y5 z0 z1 z2 z3
    obtain ⟨b, hbl, rfl, hfb, hD, hb⟩ := hrel
    have HFB := Lib.hid hfb
    have HDB := Lib.hid hD
    have HB := Lib.hid hb
    have hz := hb.size
    clear hfb hD hb
    by_cases hlt : b.length < L.length
    · have hlB : (L.map (·.bd)).length = L.length := by simp
      obtain ⟨gb, capb, hpb, hgB, _⟩ := World.ownsRow.form (DS.rowBm HDB.out hlB) (by omega)
      obtain ⟨vs, hF, _⟩ := DS.rowF HDB.out
      obtain ⟨gf, capf, hpf, hgF, hgF2⟩ := World.ownsRow.form hF (by omega)
      dsimp only at hpb hpf hF
      injection hpb with hpb1 hpb2 hpb3
      injection hpf with hpf1 hpf2 hpf3
      subst hpb1 hpf1
      clear hpb2 hpb3 hpf2 hpf3
      have hrow := DS.rowBm HDB.out hlB
      have hbt : (bdV (L.map (·.bd)))[b.length]? = some (.string ⟨(L[b.length]).bd.toArray⟩) := by simp [bdV, hlt]
      have hcell : wr.cell? ⟨gb, b.length, none⟩ = some (.string ⟨(L[b.length]).bd.toArray⟩) := by
        have := hrow.cells (g := gb) rfl b.length _ hbt
        rwa [Go.WideShapes.add_plain, Nat.zero_add] at this
      have hs := HBD.out (L[b.length]) (List.getElem_mem hlt)
      have hgl : Gl wr := HG.out.keep fun k hk => HB.out.block k (by omega)
      have hms := DS.ms HDB.out
      dsimp only at hms
      have HMS := Lib.hid hms
      have HGl := Lib.hid hgl
      have HC := Lib.hid hcell
      clear hrow hbt hF hms hgl hlB
      rcases rdBody_cases (sy.map (·.1)) (L.map (·.nm)) (L[b.length]).bd with ⟨hb1, hb2⟩ | ⟨t, ht1, ht2⟩
      · have HT := Lib.hid fun W hm hg h6 => allT_bad D m1 m2 _ _ _ W hm hg h6 hs hb2
        have hnone : f = none := by rw [HFB.out, rdBodies_step hlt, hb1]; rfl
        have HN := Lib.hid hnone
        clear hb1 hb2 hnone
        go_wp2_with fail
        refine (HT.out _ HMS.out HGl.out (by omega)).mono ?_
        rintro e w1 ⟨rfl, hb1⟩
        go_wp2_with fail
        go_ret
        exact bodiesAny_none HN.out ⟨rfl, (HB.out.trans (hb1.mono (by omega))).alloc (by have := hb1.size; omega) _⟩
      · have HT := Lib.hid fun W hm hg h6 => allT_ok D m1 m2 _ _ _ t W hm hg h6 hs ht2
        have hpush : f = (rdBodies (sy.map (·.1)) (L.map (·.nm)) (L.drop (b.length + 1))).map (fun y => (b ++ [t]) ++ y) := by
          rw [← HF.out]
          exact rdBodies_push hlt (by rw [HF.out]; exact HFB.out) ht1
        have HPU := Lib.hid hpush
        clear hpush ht1 ht2
        go_wp2_with fail
        refine (HT.out _ HMS.out HGl.out (by omega)).mono ?_
        rintro e w1 ⟨q, c, rfl, hO, hb1⟩
        have hz1 := hb1.size
        have S5 : DrB (w1.alloc (.cells #[.int .i64 t.1, .int .i64 t.2.1, .slice q t.2.2.len c] 50)) B ⟨D, m1, m2, ps, cs, some ⟨gf, 0, none⟩, cf, some ⟨gb, 0, none⟩, cb⟩ sy L b bad := (HDB.out.below hb1).alloc _
        have hO5 : OwnX (w1.alloc (.cells #[.int .i64 t.1, .int .i64 t.2.1, .slice q t.2.2.len c] 50)) t.2.2 q c wr.heap.size w1.heap.size := hO.keep fun j _ hj => Below.heap_alloc _ _ _ hj
        have B5 : Below B w (w1.alloc (.cells #[.int .i64 t.1, .int .i64 t.2.1, .slice q t.2.2.len c] 50)) := (HB.out.trans (hb1.mono (by omega))).alloc (by omega) _
        have bx := heap_new w1 (.cells #[.int .i64 t.1, .int .i64 t.2.1, .slice q t.2.2.len c] 50)
        have hcl : ∀ k, (⟨D, m1, m2, ps, cs, some ⟨gf, 0, none⟩, cf, some ⟨gb, 0, none⟩, cb⟩ : Pos).mut k → k < wr.heap.size ∨ w1.heap.size ≤ k := fun k hk => Or.inl (DS.lt HDB.out hk).2
        have hs5 : w1.heap.size ≤ (w1.alloc (.cells #[.int .i64 t.1, .int .i64 t.2.1, .slice q t.2.2.len c] 50)).heap.size := by simp
        generalize hW : w1.alloc (.cells #[.int .i64 t.1, .int .i64 t.2.1, .slice q t.2.2.len c] 50) = w5 at S5 hO5 B5 bx hs5
        obtain ⟨⟨y0, y1, y2, y3, y4, y5⟩, z0, z1, z2, z3⟩ := DS.cells (w := w5.drew) (DS.keep S5 (fun _ _ _ => rfl) (Nat.le_refl _))
        dsimp only at y0 y1 y2 y3 y4 y5 z0 z1 z2 z3
        obtain ⟨⟨x0, x1, x2⟩, _⟩ := term_box (w := w5.drew) bx
        obtain ⟨vs5, hF5, _⟩ := DS.rowF S5
        dsimp only at hF5
        have hv5 : vs5.length = L.length * 5 := hF5.1
        have f0 : w5.drew.frozen? ⟨gf, b.length * 5 + 2, none⟩ = false := hF5.frozenAt _
        have f1 : w5.drew.frozen? ⟨gf, b.length * 5 + 2 + 1, none⟩ = false := hF5.frozenAt _
        have f2 : w5.drew.frozen? ⟨gf, b.length * 5 + 2 + 2, none⟩ = false := hF5.frozenAt _
        have e0 : w5.drew.cell? ⟨gf, b.length * 5 + 2, none⟩ = some vs5[b.length * 5 + 2] := (hF5.cellAt _ (by omega)).trans (List.getElem?_eq_getElem (by omega))
        have e1 : w5.drew.cell? ⟨gf, b.length * 5 + 2 + 1, none⟩ = some vs5[b.length * 5 + 2 + 1] := (hF5.cellAt _ (by omega)).trans (List.getElem?_eq_getElem (by omega))
        have e2 : w5.drew.cell? ⟨gf, b.length * 5 + 2 + 2, none⟩ = some vs5[b.length * 5 + 2 + 2] := (hF5.cellAt _ (by omega)).trans (List.getElem?_eq_getElem (by omega))
        have f1' : w5.frozen? ⟨gf, b.length * 5 + 2 + 1, none⟩ = false := f1
        have f2' : w5.frozen? ⟨gf, b.length * 5 + 2 + 2, none⟩ = false := f2
        have e1' : w5.cell? ⟨gf, b.length * 5 + 2 + 1, none⟩ = some vs5[b.length * 5 + 2 + 1] := e1
        have e2' : w5.cell? ⟨gf, b.length * 5 + 2 + 2, none⟩ = some vs5[b.length * 5 + 2 + 2] := e2
        have H5 := Lib.hid (And.intro S5 (And.intro hO5 (And.intro B5 (And.intro hcl hs5))))
        clear S5 hO5 B5 hcl bx hO hb1 hF5 HT HMS HGl
        have S6 := DS.setBody (t := t) (W := w5.drew) (DS.keep H5.out.1 (fun _ _ _ => rfl) (Nat.le_refl _)) hlt rfl (OwnX.keep (w := w5) (w' := w5.drew) (fun _ _ _ => rfl) H5.out.2.1) (show B ≤ wr.heap.size by omega) H5.out.2.2.2.2 H5.out.2.2.2.1
        have B6 : Below B w (((w5.drew.setCell ⟨gf, b.length * 5 + 2, none⟩ (.int .i64 t.1)).setCell ⟨gf, b.length * 5 + 2 + 1, none⟩ (.int .i64 t.2.1)).setCell ⟨gf, b.length * 5 + 2 + 2, none⟩ (.slice q t.2.2.len c)) :=
          (((H5.out.2.2.1.drew).setCell hgF _).setCell hgF _).setCell hgF _
        have H6 := Lib.hid (And.intro S6 B6)
        have hln : (b ++ [t]).length = b.length + 1 := by simp
        have HLn := Lib.hid hln
        clear S6 B6 hln
        go_upto_region 7 with fail
        go_region
        all_goals go_wp2_with fail
        all_goals
          go_roundw
          case rel => exact ⟨b ++ [t], by rw [HLn.out]; omega, by rw [HLn.out]; go_num, by rw [HLn.out]; exact HPU.out, H6.out.1, H6.out.2⟩
          case measure => simp [Go.RowKit.intOf]; omega
    · have hend : f = some b := by
        rw [HFB.out, List.drop_eq_nil_of_le (by omega)]
        simp [rdBodies]
      have HN := Lib.hid hend
      clear hend
      go_wp2_with fail
      go_ret
      exact bodiesAny_some HN.out ⟨rfl, HDB.out, HB.out⟩

end Go.Proofs.YtjkcopgfcafpeaaGreatDoor

