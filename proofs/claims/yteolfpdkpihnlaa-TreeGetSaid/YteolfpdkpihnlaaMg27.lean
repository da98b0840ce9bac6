/-
  Parts of one proof, laid into one text: ESpell, EPut, ETop, EJoin. Conditions: each part names its own.
-/
import Derived.Test.YteolfpdkpihnlaaMg26
import Derived.Test.YteolfpdkpihnlaaMg03
import Derived.Test.YteolfpdkpihnlaaMg04
import Derived.Shelf.Strings.BuilderK
import Derived.Shelf.Strings.BuilderF
import Derived.Test.YteolfpdkpihnlaaMg13
import Derived.Test.YteolfpdkpihnlaaMg01

/-
  The walk of spell, which writes a tree's string into a builder. Conditions: trees over the symbols, whose strings are at most 2^46 bytes long.
-/
set_option linter.unusedSimpArgs false
set_option linter.unusedVariables false
namespace Go.Proofs.Yteolfpdkpihnlaa
open Go.Shelf Go.RowKit

/-- the strings of the trees of a list, each behind a mark -/
def txL (S : Sy) : UInt8 → Y → List UInt8
  | _, .nil => []
  | m, .cons n a r => m :: ((if n = -1 then [95] else (S.nm n.toNat).data.toList ++ (if a.len = 0 then [] else txL S 40 a ++ [41])) ++ txL S 44 r)

/-- the string of a tree -/
def tx1 (S : Sy) (n : Int) (a : Y) : List UInt8 := if n = -1 then [95] else (S.nm n.toNat).data.toList ++ (if a.len = 0 then [] else txL S 40 a ++ [41])

theorem txL_cons (S : Sy) (m : UInt8) (n : Int) (a r : Y) : txL S m (.cons n a r) = m :: (tx1 S n a ++ txL S 44 r) := rfl

theorem txL_drop (S : Sy) (m : UInt8) (t : Y) (i : Nat) (h : i < t.len) : txL S m (t.drop i) = m :: (tx1 S (t.gn i) (t.ga i) ++ txL S 44 (t.drop (i + 1))) := by
  rw [Y.drop_cons t i h, txL_cons]

theorem txL_end (S : Sy) (m : UInt8) (t : Y) (i : Nat) (h : ¬ i < t.len) : txL S m (t.drop i) = [] := by
  rw [Y.drop_end t i (by omega)]; rfl

theorem len_txL {S : Sy} {R : List Int} (hR : R.length = S.len) (hS : ∀ i, i < S.len → (S.nm i).size ≤ 24) (t : Y) : ∀ m, overE R t = true → (txL S m t).length ≤ 28 * t.sz := by
  induction t with
  | nil => intro m _; simp [txL]
  | cons n a r iha ihr =>
    intro m h
    simp only [overE, Bool.and_eq_true] at h
    have h1 := iha 40 h.1.2
    have h2 := ihr 44 h.2
    rw [txL_cons]
    simp only [List.length_cons, List.length_append, Y.sz]
    have h3 : (tx1 S n a).length ≤ 25 + (txL S 40 a).length + 1 := by
      unfold tx1
      split
      · simp <;> omega
      · rename_i hn
        have hs := h.1.1
        simp only [suitE, Bool.or_eq_true, Bool.and_eq_true, decide_eq_true_eq] at hs
        have hnl : n.toNat < S.len := by omega
        have h4 := hS _ hnl
        have h5 : (S.nm n.toNat).data.toList.length = (S.nm n.toNat).size := Array.length_toList
        split
        · simp only [List.length_append, List.length_nil]; omega
        · simp only [List.length_append, List.length_singleton]; omega
    omega

theorem len_tx1 {S : Sy} {R : List Int} (hR : R.length = S.len) (hS : ∀ i, i < S.len → (S.nm i).size ≤ 24) (n : Int) (a : Y) (h : over1 R n a = true) : (tx1 S n a).length ≤ 28 * (1 + a.sz) := by
  have h1 := len_txL hR hS (.cons n a .nil) 44 (by simpa [overE, over1] using h)
  rw [txL_cons] at h1
  simp only [txL, List.length_cons, List.append_nil, Y.sz] at h1
  omega

/-- what a writer leaves: more in the builder, all else as it was -/
def Wrote (B b : Nat) (d : List UInt8) (w w' : World) : Prop :=
  Lib.IsBuilderF 73 5 B b (Lib.byteCells d) w' ∧ Below B w w' ∧ Lib.OthersKept 5 (some b) w w'

theorem isBuilderF_lt {T e : TypeId} {B b : Nat} {bs : List Value} {w : World} (h : Lib.IsBuilderF T e B b bs w) : b < w.heap.size := by
  rcases h with h | h <;> exact h.lt

theorem isBuilderF_keep {T e : TypeId} {B b : Nat} {bs : List Value} {w w' : World} (h : Lib.IsBuilderF T e B b bs w) (hb : Below w.heap.size w w') : Lib.IsBuilderF T e B b bs w' := by
  have key : ∀ p, Lib.BuilderAtF T e B b p bs w → Lib.BuilderAtF T e B b p bs w' := fun p h => by
    have hlt := h.lt
    obtain ⟨h1, v, h2, h3, h4⟩ := h
    refine ⟨h1, v, by rw [hb.block b hlt]; exact h2, h3.kept (row := none) ⟨hb.os, hb.tape, hb.output, hb.size, fun k hk _ => hb.block k hk⟩ ?_, h4⟩
    cases v.ownBlock with
    | none => exact Or.inl rfl
    | some g => exact Or.inr (by simp)
  rcases h with h | h
  · exact Or.inl (key _ h)
  · exact Or.inr (key _ h)

theorem isBuilderF_alloc {T e : TypeId} {B b : Nat} {bs : List Value} {w : World} (h : Lib.IsBuilderF T e B b bs w) (x : Obj) : Lib.IsBuilderF T e B b bs (w.alloc x) :=
  isBuilderF_keep h ((Below.refl _ _).alloc (Nat.le_refl _) x)

theorem Wrote.trans {B b : Nat} {d d' : List UInt8} {u v w : World} (h : Wrote B b d u v) (k : Wrote B b d' v w) : Wrote B b d' u w :=
  ⟨k.1, h.2.1.trans k.2.1, h.2.2.trans k.2.2⟩

theorem others_alloc (b : Option Nat) (w : World) (o : Obj) : Lib.OthersKept 5 b w (w.alloc o) := (Lib.OthersKept.refl _ _ _).alloc o

/-- a box that is no row of bytes stands -/
theorem Wrote.box {B b k : Nat} {d : List UInt8} {u v : World} {cs : Array Value} (h : Wrote B b d u v) (hk : u.heap[k]? = some (.cells cs 25 (0, 0))) (hne : k ≠ b) : v.heap[k]? = some (.cells cs 25 (0, 0)) :=
  h.2.2 k _ hk (fun e => hne (by injection e)) (fun c fz e => by injection e with _ e2 _; exact absurd e2 (by decide))

theorem write6 (B b : Nat) (d l : List UInt8) (x : ByteArray) (w : World) (hx : x.data.toList = l) (h : Lib.IsBuilderF 73 5 B b (Lib.byteCells d) w) (hlen : d.length + l.length ≤ 70368744177664) (hBw : B ≤ w.heap.size) :
    Calls Try.prog 90 #[.pointer (some ⟨b, 0, none⟩), .string x] w fun e w' => e = .returned (.tuple #[.int .i64 x.size, .nilIface]) ∧ Wrote B b (d ++ l) w w' := by
  have hl : (Lib.byteCells d).length + x.size ≤ 140737488355328 := by
    subst hx
    rw [Lib.byteCells_length]
    have : x.size = x.data.toList.length := (Array.length_toList).symm
    omega
  refine (Any.Builder_WriteString_k lays166 extra166 B b _ x w h hl hBw).mono ?_
  rintro e w' ⟨he, h1, h2, h3⟩
  refine ⟨he, Or.inr ?_, h2, h3⟩
  subst hx
  rw [Lib.strCells_eq, ← Lib.byteCells_append] at h1
  exact h1

set_option maxHeartbeats 400000 in
theorem elen_any (B b : Nat) (d : List UInt8) (w : World) (h : Lib.IsBuilderF 73 5 B b (Lib.byteCells d) w) :
    Calls Try.prog 70 #[.pointer (some ⟨b, 0, none⟩)] w fun e w' => e = .returned (.int .i64 (d.length : Int)) ∧ w' = w := by
  obtain ⟨p, hB, v, hbk, hown, hne⟩ : ∃ p, Lib.BuilderAtF 73 5 B b p (Lib.byteCells d) w := by
    rcases h with h | h
    · exact ⟨_, h⟩
    · exact ⟨_, h⟩
  obtain ⟨ao, cap, rfl⟩ : ∃ ao cap, v = .slice ao d.length cap := by
    have hl : (Lib.byteCells d).length = d.length := Lib.byteCells_length d
    rcases hown.2 with ⟨hv, h0⟩ | ⟨g, cap, cur, fz, hv, _⟩
    · exact ⟨none, 0, by rw [hv]; congr 1; omega⟩
    · exact ⟨some ⟨g, 0, none⟩, cap, by rw [hv, hl]⟩
  have c1 : w.cell? ⟨b, 1, none⟩ = some (.slice ao d.length cap) := by simp [World.cell?, hbk]
  have hlt := lt_of_block hbk
  clear hown hne hbk h
  go_enter Try.func70, Try.ntmps70
  go_wp2_with fail
  go_ret
  exact ⟨rfl, rfl⟩

set_option maxRecDepth 100000 in
set_option maxHeartbeats 3200000 in
theorem espell_any (S : Sy) (R : List Int) (hR : R.length = S.len) (w0 : World) (B b : Nat) (sp : Option Addr) (sc : Nat) (hB : w0.heap.size ≤ B) (hsy : IsS w0 S sp S.len sc) (N : Nat) : ∀ (a : Y) (n : Int) (p : Option Addr) (l cap : Nat) (w : World) (d : List UInt8),
    a.sz < N → IsY w0 a p l cap → over1 R n a = true → Below w0.heap.size w0 w → Lib.IsBuilderF 73 5 B b (Lib.byteCells d) w → B ≤ w.heap.size → d.length + (tx1 S n a).length ≤ 70368744177664 →
    Calls Try.prog 69 #[.pointer (some ⟨b, 0, none⟩), .slice sp S.len sc, .agg #[.int .i64 n, .slice p l cap]] w fun e w' => e = .returned (.tuple #[]) ∧ Wrote B b (d ++ tx1 S n a) w w' := by
  induction N with
  | zero => intro a n p l cap w d hN; omega
  | succ N ih =>
    intro a n p l cap w d hN his ho hw hb hBw hlen
    have IH := Lib.hid ih
    clear ih
    have hbl := isBuilderF_lt hb
    have HB := Lib.hid hb
    have HW := Lib.hid hw
    obtain ⟨hl, hcap, hmax, hnil, hrow⟩ := his
    subst hl
    unfold maxLen at hmax
    have hW1 : Wrote B b d w (w.alloc (.cells #[.int .i64 n, .slice p a.len cap] 25)) := ⟨isBuilderF_alloc hb _, (Below.refl _ _).alloc hBw _, others_alloc _ _ _⟩
    have HW1 := Lib.hid hW1
    clear hW1
    by_cases hu : n = -1
    · subst hu
      have hd1 : ((-1 : Int) == -1) = true := rfl
      have ht : tx1 S (-1) a = [95] := rfl
      rw [ht] at hlen ⊢
      simp only [List.length_singleton] at hlen
      clear hb hw ho ht
      go_enter Try.func69, Try.ntmps69
      go_wp2_with fail
      refine (write6 B b d [95] ⟨#[95]⟩ _ (by rfl) HW1.out.1 (by simp only [List.length_singleton]; omega) (by simp; omega)).mono ?_
      rintro e w1 ⟨rfl, hB1⟩
      go_wp2_with fail
      all_goals first | go_end0 | refine bodyPost_ret (v := .tuple #[]) (by simp [results, Try.results69, go_sem]) rfl ?_
      all_goals exact ⟨rfl, HW1.out.trans hB1⟩
    have hd1 : (n == -1) = false := by simp [hu]
    have hov := ho
    simp only [over1, suitE, Bool.and_eq_true, Bool.or_eq_true, decide_eq_true_eq] at hov
    obtain ⟨m, rfl⟩ : ∃ m : Nat, n = (m : Int) := ⟨n.toNat, by omega⟩
    have hm : m < S.len := by omega
    have hmi : (m : Int) < (S.len : Int) := by omega
    have hoe : overE R a = true := hov.2
    have HOE := Lib.hid hoe
    have ht : tx1 S (m : Int) a = (S.nm m).data.toList ++ (if a.len = 0 then [] else txL S 40 a ++ [41]) := by unfold tx1; rw [if_neg hu]; rfl
    have HT := Lib.hid ht
    obtain ⟨hsl, hscap, hsmax, hsnil, hsrow⟩ := id hsy
    unfold maxLen at hsmax
    rcases hsrow with hz | ⟨sb, so, rfl, hsr⟩
    · omega
    obtain ⟨hnm, _⟩ := hsr m hm
    have hnm1 := ((bcell hw).1 _ _ (lt_of_cell hnm)).trans hnm
    have hnm2 := fun o => (keep_alloc w o _ _ (lt_of_cell hnm1)).trans hnm1
    obtain ⟨x, hx⟩ : ∃ x, S.nm m = x := ⟨_, rfl⟩
    rw [hx] at hnm1 hnm2 HT
    have hlen2 : d.length + (x.data.toList ++ (if a.len = 0 then [] else txL S 40 a ++ [41])).length ≤ 70368744177664 := by have := HT.out; rw [this] at hlen; exact hlen
    clear hb hw ho hov ht hoe hnm hsr hx hu hlen
    by_cases h0 : a.len = 0
    · have hd2 : ((a.len : Int) == 0) = true := by simp [h0]
      rw [if_pos h0, List.append_nil] at hlen2
      have ht2 : tx1 S (m : Int) a = x.data.toList := by rw [HT.out, if_pos h0, List.append_nil]
      have HT2 := Lib.hid ht2
      clear ht2 HT h0
      go_enter Try.func69, Try.ntmps69
      go_wp2_with fail
      refine (write6 B b d x.data.toList x _ rfl HW1.out.1 hlen2 (by simp; omega)).mono ?_
      rintro e w1 ⟨rfl, hB1⟩
      have y0 := hB1.box (heap_new w (.cells #[.int .i64 (m : Int), .slice p a.len cap] 25)) (by omega)
      obtain ⟨y1, y2⟩ := box2_cells y0
      have hz := lt_of_block y0
      clear y0
      go_wp2_with fail
      all_goals first | go_end0 | refine bodyPost_ret (v := .tuple #[]) (by simp [results, Try.results69, go_sem]) rfl ?_
      all_goals exact ⟨rfl, by rw [HT2.out]; exact HW1.out.trans hB1⟩
    · have hd2 : ((a.len : Int) == 0) = false := by simp [h0]
      rw [if_neg h0] at hlen2
      have ht2 : tx1 S (m : Int) a = x.data.toList ++ (txL S 40 a ++ [41]) := by rw [HT.out, if_neg h0]
      have HT2 := Lib.hid ht2
      simp only [List.length_append, List.length_singleton] at hlen2
      clear ht2 HT
      rcases hrow with hz | ⟨rb, off, rfl, hr⟩
      · omega
      go_enter Try.func69, Try.ntmps69
      go_wp2_with fail
      refine (write6 B b d x.data.toList x _ rfl HW1.out.1 (by omega) (by simp; omega)).mono ?_
      rintro e w1 ⟨rfl, hB1⟩
      have y0 := hB1.box (heap_new w (.cells #[.int .i64 (m : Int), .slice (some ⟨rb, off, none⟩) a.len cap] 25)) (by omega)
      obtain ⟨y1, y2⟩ := box2_cells y0
      have hz := lt_of_block y0
      have HB1 := Lib.hid (HW1.out.trans hB1)
      clear y0 hB1 HW1
      go_wp2_with fail
      go_loopw [6, 29] (fun v i wr => ∃ (j : Nat) (mb : UInt8) (t : List UInt8), j ≤ a.len ∧ i = .int .i64 (j : Int) ∧ v = .string ⟨#[mb]⟩ ∧ x.data.toList ++ txL S 40 a = t ++ txL S mb (a.drop j) ∧ Wrote B b (d ++ t) w wr)
        (fun _ i _ => a.len - (intOf i).toNat)
      case atStart => exact ⟨0, 40, x.data.toList, Nat.zero_le _, rfl, rfl, by rw [Y.drop_zero], HB1.out⟩
      case round =>
        obtain ⟨j, mb, t, hj, rfl, rfl, ht, hWr⟩ := hrel
        have HTT := Lib.hid ht
        have HWR := Lib.hid hWr
        have hsz := hWr.2.1.size
        have hw2 : Below w0.heap.size w0 wr := HW.out.trans (hWr.2.1.mono hB)
        have htl : t.length + (txL S mb (a.drop j)).length = x.data.toList.length + (txL S 40 a).length := by
          have := congrArg List.length ht
          simpa [List.length_append] using this.symm
        have HTL := Lib.hid htl
        have HW2 := Lib.hid hw2
        have hbl2 := isBuilderF_lt hWr.1
        clear ht hWr htl
        by_cases hlt : j < a.len
        · obtain ⟨hcn, p', n', cap', hc, hi⟩ := hr.at hlt
          have e1 := ((bcell hw2).1 _ _ (lt_of_cell hcn)).trans hcn
          have e2 := ((bcell hw2).1 _ _ (lt_of_cell hc)).trans hc
          have HI := Lib.hid hi
          have hg := a.sz_ga j hlt
          have hdr := Lib.hid (txL_drop S mb a j hlt)
          have hWA : Wrote B b (d ++ t) wr (wr.alloc (.cells #[.int .i64 (a.gn j), .slice p' n' cap'] 25)) := ⟨isBuilderF_alloc HWR.out.1 _, (Below.refl _ _).alloc (by omega) _, others_alloc _ _ _⟩
          have HWA := Lib.hid hWA
          have hlt2 : (d ++ t).length + 1 + (tx1 S (a.gn j) (a.ga j)).length ≤ 70368744177664 := by
            have h1 := HTL.out
            rw [hdr.out] at h1
            simp only [List.length_cons, List.length_append] at h1 ⊢
            omega
          have HL2 := Lib.hid hlt2
          clear hcn hc hi hw2 hWA hlt2
          go_wp2_with fail
          refine (write6 B b (d ++ t) [mb] ⟨#[mb]⟩ _ (by rfl) HWA.out.1 (by have := HL2.out; simp only [List.length_singleton]; omega) (by simp; omega)).mono ?_
          rintro e w2 ⟨rfl, hB2⟩
          have y0 := hB2.box (heap_new wr (.cells #[.int .i64 (a.gn j), .slice p' n' cap'] 25)) (by omega)
          obtain ⟨y1, y2⟩ := box2_cells y0
          have hz2 := lt_of_block y0
          have HB2 := Lib.hid (HWA.out.trans hB2)
          clear y0 hB2 HWA
          go_wp2_with fail
          refine (IH.out (a.ga j) (a.gn j) p' n' cap' w2 (d ++ t ++ [mb]) (by omega) HI.out (overE_at HOE.out hlt) (HW2.out.trans (HB2.out.2.1.mono hB)) HB2.out.1 (by have := HB2.out.2.1.size; omega) (by have := HL2.out; simp only [List.length_append, List.length_singleton] at this ⊢; omega)).mono ?_
          rintro e w3 ⟨rfl, hB3⟩
          go_wp2_with fail
          go_roundw
          case rel => exact ⟨j + 1, 44, t ++ mb :: tx1 S (a.gn j) (a.ga j), by omega, by go_num, rfl, by rw [HTT.out, hdr.out]; simp, by
            have h := (HWR.out.trans HB2.out).trans hB3
            rw [show d ++ t ++ [mb] ++ tx1 S (a.gn j) (a.ga j) = d ++ (t ++ mb :: tx1 S (a.gn j) (a.ga j)) by simp] at h
            exact h⟩
          case measure => simp [intOf]; omega
        · have htt : t = x.data.toList ++ txL S 40 a := by
            rw [HTT.out, txL_end S mb a j hlt, List.append_nil]
          subst htt
          have h1 := HTL.out
          rw [txL_end S mb a j hlt] at h1
          clear HTT HTL
          go_wp2_with fail
          refine (write6 B b (d ++ (x.data.toList ++ txL S 40 a)) [41] ⟨#[41]⟩ _ (by rfl) HWR.out.1 (by simp only [List.length_append, List.length_singleton] at *; omega) (by omega)).mono ?_
          rintro e w2 ⟨rfl, hB2⟩
          go_wp2_with fail
          all_goals go_end0
          all_goals exact ⟨rfl, by
            rw [HT2.out]
            have h := HWR.out.trans hB2
            rw [show d ++ (x.data.toList ++ txL S 40 a) ++ [41] = d ++ (x.data.toList ++ (txL S 40 a ++ [41])) by simp] at h
            exact h⟩

end Go.Proofs.Yteolfpdkpihnlaa

/-
  The walk of Put. Conditions: none but that the symbols and the tree lie in memory.
-/
set_option linter.unusedSimpArgs false
set_option linter.unusedVariables false
namespace Go.Proofs.Yteolfpdkpihnlaa
open Go.Shelf Go.RowKit

/-- what Put answers -/
def putE (S : Sy) (n : Int) (a : Y) : Int × List UInt8 :=
  if symsOk S = true then
    if treeOk (ranksE S) n a = true then
      if 65536 < (tx1 S n a).length then (3, []) else (0, tx1 S n a)
    else (9, [])
  else (2, [])

def PutPost (x : Int × List UInt8) (w : World) (e : Ending) (w' : World) : Prop := e = .returned (.tuple #[.string ⟨x.2.toArray⟩, .int .i64 x.1]) ∧ Below w.heap.size w w'

/-- what the call of check needs, and what is left to do behind it -/
structure KP (w W : World) (bt : Nat) (S : Sy) (sp : Option Addr) (sn sc : Nat) (n : Int) (a : Y) (p : Option Addr) (cap : Nat) : Prop where
  syms : IsS W S sp sn sc
  hbt : W.heap[bt]? = some (.cells #[.int .i64 n, .slice p a.len cap] 25 (0, 0))
  isY : IsY W a p a.len cap
  base : Below w.heap.size w W

section
variable {w W W' : World} {bt : Nat} {S : Sy} {sp : Option Addr} {sn sc : Nat} {n : Int} {a : Y} {p : Option Addr} {cap : Nat}

theorem KP.below (h : KP w W bt S sp sn sc n a p cap) (hb : Below W.heap.size W W') : KP w W' bt S sp sn sc n a p cap :=
  ⟨h.syms.below hb, (hb.block _ (lt_of_block h.hbt)).trans h.hbt, h.isY.below hb, h.base.trans (hb.mono h.base.size)⟩

theorem KP.alloc (h : KP w W bt S sp sn sc n a p cap) (o : Obj) : KP w (W.alloc o) bt S sp sn sc n a p cap := h.below ((Below.refl _ _).alloc (Nat.le_refl _) o)

theorem KP.drew (h : KP w W bt S sp sn sc n a p cap) : KP w W.drew bt S sp sn sc n a p cap := h.below (Below.refl _ _).drew
end

set_option maxRecDepth 100000 in
set_option maxHeartbeats 8000000 in
theorem eput_any (S : Sy) (a : Y) (n : Int) (w : World) (sp p : Option Addr) (sn sc l cap : Nat) (hsy : IsS w S sp sn sc) (his : IsY w a p l cap) :
    Calls Try.prog 36 #[.slice sp sn sc, .agg #[.int .i64 n, .slice p l cap]] w (PutPost (putE S n a) w) := by
  have hl := his.1
  subst hl
  have hsl := hsy.1
  subst hsl
  obtain ⟨f, hf⟩ : ∃ f, putE S n a = f := ⟨_, rfl⟩
  rw [hf]
  have HF := Lib.hid hf.symm
  clear hf
  have hs := symbols_any S (w.alloc (.cells #[.int .i64 n, .slice p a.len cap] 25)) sp S.len sc (hsy.alloc _)
  have HSY := Lib.hid hs
  have K0 : KP w (w.alloc (.cells #[.int .i64 n, .slice p a.len cap] 25)) w.heap.size S sp S.len sc n a p cap := ⟨hsy.alloc _, heap_new _ _, his.alloc _, (Below.refl _ _).alloc (Nat.le_refl _) _⟩
  have HK0 := Lib.hid K0
  clear hs K0 his hsy
  cases hok : symsOk S with
  | false =>
    rw [hok] at HSY
    have hv : f = (2, []) := by rw [HF.out]; unfold putE; rw [hok]; rfl
    subst hv
    clear HF hok
    go_enter Try.func36, Try.ntmps36
    go_wp2_with fail
    refine (HSY.out).mono ?_
    rintro e w1 ⟨rfl, hb1⟩
    go_wp2_with fail
    go_ret2
    exact ⟨rfl, (HK0.out.below hb1).base⟩
  | true =>
    rw [hok] at HSY
    obtain ⟨h24, hrk, hnm⟩ := symsOk_facts hok
    have hrok := ranksOk_of hok
    have hck : ∀ W rp rc q, KP w W w.heap.size S sp S.len sc n a p cap → IsL W (ranksE S) rp (ranksE S).length rc → (∀ a, rp = some a → a.block < W.heap.size) → IsY W (.cons n a .nil) q 1 1 →
        Calls Try.prog 50 #[.slice rp (ranksE S).length rc, .slice q 1 1] W fun e w' => e = .returned (.int .i64 (if treeOk (ranksE S) n a = true then 0 else 9)) ∧ Below W.heap.size W w' := fun W rp rc q h h1 h2 h3 => by
      have := echeck_any (ranksE S) (.cons n a .nil) W rp q _ rc 1 1 h1 h2 h3
      rw [show chk6 (ranksE S) (.cons n a .nil) = if treeOk (ranksE S) n a = true then 0 else 9 by unfold chk6; rw [if_pos hrok]; rfl] at this
      exact this
    have HCK := Lib.hid hck
    have hlok : ∀ W, KP w W w.heap.size S sp S.len sc n a p cap → Calls Try.prog 68 #[.slice sp S.len sc] W (RanksPost S W) := fun W h => eranks_any S W sp _ sc h.syms (by omega)
    have HRK := Lib.hid hlok
    clear hck hlok
    go_enter Try.func36, Try.ntmps36
    go_wp2_with fail
    refine (HSY.out).mono ?_
    rintro e W0 ⟨rfl, hb1⟩
    have HK := Lib.hid (HK0.out.below hb1)
    have hB6 := lt_of_block HK.out.hbt
    clear hb1 HK0 HSY
    go_wp2_with fail
    have KD := Lib.hid HK.out.drew
    have KA := Lib.hid (HK.out.alloc (.cells #[.int .i64 n, .slice p a.len cap] 25)).drew
    obtain ⟨t1, t2⟩ := box2_cells HK.out.hbt
    have hnew := Lib.hid (show (W0.alloc (.cells #[.int .i64 n, .slice p a.len cap] 25)).drew.heap[W0.heap.size]? = _ from heap_new W0 (.cells #[.int .i64 n, .slice p a.len cap] 25))
    cases ht : treeOk (ranksE S) n a with
    | false =>
      have hv : f = (9, []) := by rw [HF.out]; unfold putE; rw [hok, if_pos rfl, ht]; rfl
      rw [ht] at HCK
      simp only [Bool.false_eq_true, if_false] at HCK
      subst hv
      clear HF hok ht
      go_region_with (first
        | (go_at_call 68; refine (HRK.out _ KD.out).mono ?_; rintro e w8 ⟨rq, rc, rfl, hL, hLl, hb8⟩; have K8 := Lib.hid (KD.out.below hb8); have kc := box2_cells K8.out.hbt; obtain ⟨k1, k2⟩ := kc; have K9 := Lib.hid (K8.out.alloc (.cells #[.int .i64 n, .slice p a.len cap] 25)); have hchk := Lib.hid (HCK.out (w8.alloc (.cells #[.int .i64 n, .slice p a.len cap] 25)) rq rc (some ⟨w8.heap.size, 0, none⟩) K9.out (hL.alloc _) (fun a e => by have := hLl a e; simp only [World.size_alloc]; omega) (isY_one (heap_new w8 _) K9.out.isY)))
        | (go_at_call 68; refine (HRK.out _ KA.out).mono ?_; rintro e w8 ⟨rq, rc, rfl, hL, hLl, hb8⟩; have K9 := Lib.hid (KA.out.below hb8); have hn8 := box2_later hb8 hnew.out; have hchk := Lib.hid (HCK.out w8 rq rc (some ⟨W0.heap.size, 0, none⟩) K9.out hL hLl (isY_one hn8 K9.out.isY)))
        | (go_at_call 50; refine (hchk.out).mono ?_; rintro e w9 ⟨rfl, hb9⟩; have K10 := Lib.hid (K9.out.below hb9); have kd := box2_cells K10.out.hbt; obtain ⟨m1, m2⟩ := kd; have n5 := lt_of_block K10.out.hbt; have n6 := fun o => box2_cells (alloc_kept K10.out.hbt o); have n7 := fun o => (n6 o).1; have n8 := fun o => (n6 o).2; clear n6))
      all_goals go_wp2_with fail
      all_goals go_ret2
      all_goals exact ⟨rfl, K10.out.base⟩
    | true =>
      have hlen : (tx1 S n a).length ≤ 28 * (1 + a.sz) := by
        have h := ht
        simp only [treeOk, Bool.and_eq_true] at h
        exact len_tx1 (ranksE_len S) (fun i hi => nm_size (hnm i hi)) n a h.2
      have hov : over1 (ranksE S) n a = true := by
        have h := ht
        simp only [treeOk, Bool.and_eq_true] at h
        exact h.2
      have hsz : a.sz < 20000 := by
        have h := ht
        simp only [treeOk, Bool.and_eq_true, decide_eq_true_eq] at h
        exact h.1.1
      have hv : f = if 65536 < (tx1 S n a).length then (3, []) else (0, tx1 S n a) := by rw [HF.out]; unfold putE; rw [hok, if_pos rfl, ht, if_pos rfl]
      have HV := Lib.hid hv
      have HOV := Lib.hid hov
      rw [ht] at HCK
      simp only [if_true] at HCK
      clear HF hok ht hv hov hrk hnm
      go_region_with (first
        | (go_at_call 68; refine (HRK.out _ KD.out).mono ?_; rintro e w8 ⟨rq, rc, rfl, hL, hLl, hb8⟩; have K8 := Lib.hid (KD.out.below hb8); have kc := box2_cells K8.out.hbt; obtain ⟨k1, k2⟩ := kc; have K9 := Lib.hid (K8.out.alloc (.cells #[.int .i64 n, .slice p a.len cap] 25)); have hchk := Lib.hid (HCK.out (w8.alloc (.cells #[.int .i64 n, .slice p a.len cap] 25)) rq rc (some ⟨w8.heap.size, 0, none⟩) K9.out (hL.alloc _) (fun a e => by have := hLl a e; simp only [World.size_alloc]; omega) (isY_one (heap_new w8 _) K9.out.isY)))
        | (go_at_call 68; refine (HRK.out _ KA.out).mono ?_; rintro e w8 ⟨rq, rc, rfl, hL, hLl, hb8⟩; have K9 := Lib.hid (KA.out.below hb8); have hn8 := box2_later hb8 hnew.out; have hchk := Lib.hid (HCK.out w8 rq rc (some ⟨W0.heap.size, 0, none⟩) K9.out hL hLl (isY_one hn8 K9.out.isY)))
        | (go_at_call 50; refine (hchk.out).mono ?_; rintro e w9 ⟨rfl, hb9⟩; have K10 := Lib.hid (K9.out.below hb9); have kd := box2_cells K10.out.hbt; obtain ⟨m1, m2⟩ := kd; have n5 := lt_of_block K10.out.hbt; have n6 := fun o => box2_cells (alloc_kept K10.out.hbt o); have n7 := fun o => (n6 o).1; have n8 := fun o => (n6 o).2; clear n6))
      all_goals go_wp2_with fail
      all_goals
        have kx := lt_of_block K10.out.hbt
        have hfr : Lib.IsBuilderF 73 5 w9.heap.size w9.heap.size (Lib.byteCells []) (w9.alloc (.cells #[.pointer none, .slice none 0 0] 73)) :=
          Lib.IsBuilderF.of (Or.inl ⟨Nat.le_refl _, _, heap_new _ _, World.ownsRow_nil _ _ _ _, by simp [Value.ownBlock]⟩)
        refine (espell_any S (ranksE S) (ranksE_len S) w9 w9.heap.size w9.heap.size sp sc (Nat.le_refl _) K10.out.syms (a.sz + 1) a n p _ cap _ [] (Nat.lt_succ_self _) K10.out.isY HOV.out ((Below.refl _ _).alloc (Nat.le_refl _) _) hfr (by simp) (by simp only [List.length_nil]; omega)).mono ?_
        rintro e w11 ⟨rfl, hW⟩
        rw [List.nil_append] at hW
        have hz11 := hW.2.1.size
        have hlt11 := isBuilderF_lt hW.1
        have hfin : Below w.heap.size w w11 := K10.out.base.trans ((((Below.refl w9.heap.size w9).alloc (Nat.le_refl _) _).trans hW.2.1).mono K10.out.base.size)
        have HLN := Lib.hid (elen_any w9.heap.size w9.heap.size (tx1 S n a) w11 hW.1)
        have HST := Lib.hid (Any.Builder_String_any_f lays169 extra169 w9.heap.size w9.heap.size (tx1 S n a) w11 hW.1 (by omega))
        have HFB := Lib.hid hfin
        clear hfr hW hfin
        generalize tx1 S n a = tt at *
        go_wp2_with fail
        refine (HLN.out).mono ?_
        rintro e w12 ⟨rfl, rfl⟩
        by_cases hl : 65536 < tt.length
        · have hl2 : (65536 : Int) < (tt.length : Int) := by omega
          have hv := HV.out
          rw [if_pos hl] at hv
          have HV2 := Lib.hid hv
          clear hl hv
          go_wp2_with fail
          go_ret2
          rw [HV2.out]
          exact ⟨rfl, HFB.out⟩
        · have hl2 : ¬ (65536 : Int) < (tt.length : Int) := by omega
          have hv := HV.out
          rw [if_neg hl] at hv
          have HV2 := Lib.hid hv
          clear hl hv
          go_wp2_with fail
          refine (HST.out).mono ?_
          rintro e w13 ⟨rfl, _, hb13⟩
          go_wp2_with fail
          go_ret2
          rw [HV2.out]
          exact ⟨rfl, HFB.out.trans (hb13.mono (by have := K10.out.base.size; omega))⟩

end Go.Proofs.Yteolfpdkpihnlaa

/-
  The walks of Check, AtLeast, Meet, Join, Cut and At. Conditions: none but that ranks and trees lie in memory.
-/
set_option linter.unusedSimpArgs false
set_option linter.unusedVariables false
namespace Go.Proofs.Yteolfpdkpihnlaa
open Go.RowKit

/-- what Check answers, of one tree and of two -/
def chkOne (R : List Int) (n : Int) (a : Y) : Int := chk6 R (.cons n a .nil)
def chkTwo (R : List Int) (n : Int) (a : Y) (n' : Int) (b : Y) : Int := chk6 R (.cons n a (.cons n' b .nil))

theorem chkOne_ok {R : List Int} {n : Int} {a : Y} (h : chkOne R n a = 0) : treeOk R n a = true := by
  unfold chkOne chk6 at h
  split at h
  · simp only [chkE] at h
    split at h
    · assumption
    · simp at h
  · simp at h

theorem chkTwo_ok {R : List Int} {n : Int} {a : Y} {n' : Int} {b : Y} (h : chkTwo R n a n' b = 0) : treeOk R n a = true ∧ treeOk R n' b = true := by
  unfold chkTwo chk6 at h
  split at h
  · simp only [chkE] at h
    split at h
    · split at h
      · exact ⟨by assumption, by assumption⟩
      · simp at h
    · simp at h
  · simp at h

theorem treeOk_facts {R : List Int} {n : Int} {a : Y} (h : treeOk R n a = true) : a.sz < 20000 ∧ a.dep < 200 ∧ over1 R n a = true := by
  simp only [treeOk, Bool.and_eq_true, decide_eq_true_eq] at h
  exact ⟨h.1.1, h.1.2, h.2⟩

theorem isY_two {W : World} {b : Nat} {n n' : Int} {a a' : Y} {q q' : Option Addr} {c c' : Nat} {ty : TypeId} (h : W.heap[b]? = some (.cells #[.int .i64 n, .slice q a.len c, .int .i64 n', .slice q' a'.len c'] ty (0, 0))) (his : IsY W a q a.len c) (hit : IsY W a' q' a'.len c') :
    IsY W (.cons n a (.cons n' a' .nil)) (some ⟨b, 0, none⟩) 2 2 := by
  obtain ⟨h1, h2, h3, h4, h5⟩ := his
  obtain ⟨i1, i2, i3, i4, i5⟩ := hit
  exact ⟨rfl, Nat.le_refl _, by simp [maxLen], (fun e => by cases e), Or.inr ⟨b, 0, rfl, by simp [World.cell?, h], ⟨q, c, by simp [World.cell?, h], h2, h3, h4, h5⟩, by simp [World.cell?, h], ⟨q', c', by simp [World.cell?, h], i2, i3, i4, i5⟩, trivial⟩⟩

/-- the boxes of a function on two trees, and what they lead to -/
structure KT (w W : World) (b1 b2 br : Nat) (R : List Int) (rp : Option Addr) (rn rc : Nat) (n : Int) (a : Y) (p : Option Addr) (cap : Nat) (n' : Int) (b : Y) (p' : Option Addr) (cap' : Nat) : Prop where
  rk : IsL W R rp rn rc
  h1 : W.heap[b1]? = some (.cells #[.int .i64 n, .slice p a.len cap] 25 (0, 0))
  h2 : W.heap[b2]? = some (.cells #[.int .i64 n', .slice p' b.len cap'] 25 (0, 0))
  hr : W.heap[br]? = some (.cells #[.int .i64 0, .slice none 0 0] 25 (0, 0))
  i1 : IsY W a p a.len cap
  i2 : IsY W b p' b.len cap'
  base : Below w.heap.size w W

section
variable {w W W' : World} {b1 b2 br : Nat} {R : List Int} {rp : Option Addr} {rn rc : Nat} {n : Int} {a : Y} {p : Option Addr} {cap : Nat} {n' : Int} {b : Y} {p' : Option Addr} {cap' : Nat}

theorem KT.below (h : KT w W b1 b2 br R rp rn rc n a p cap n' b p' cap') (hb : Below W.heap.size W W') : KT w W' b1 b2 br R rp rn rc n a p cap n' b p' cap' :=
  ⟨h.rk.below hb, box2_later hb h.h1, box2_later hb h.h2, box2_later hb h.hr, h.i1.below hb, h.i2.below hb, h.base.trans (hb.mono h.base.size)⟩

theorem KT.alloc (h : KT w W b1 b2 br R rp rn rc n a p cap n' b p' cap') (o : Obj) : KT w (W.alloc o) b1 b2 br R rp rn rc n a p cap n' b p' cap' := h.below ((Below.refl _ _).alloc (Nat.le_refl _) o)

theorem KT.drew (h : KT w W b1 b2 br R rp rn rc n a p cap n' b p' cap') : KT w W.drew b1 b2 br R rp rn rc n a p cap n' b p' cap' := h.below (Below.refl _ _).drew
end

/-- a result's box, filled with zero -/
theorem getPost_zero {w W : World} {r : Nat} (x : Int) (u v : Value) (hr : w.heap.size ≤ r) (hb : Below w.heap.size w W) : GetPost (x, 0, .nil) w (.returned (.tuple #[.agg #[.int .i64 0, .slice none 0 0], .int .i64 x])) ((W.setCell ⟨r, 0, none⟩ u).setCell ⟨r, 1, none⟩ v) :=
  ⟨none, 0, rfl, ownY_nil _ _ _, (hb.setCell hr u).setCell hr v⟩

/-- a result's box, filled with a tree of the call's own -/
theorem getPost_own {w W : World} {r lo hi : Nat} (x n : Int) (a : Y) (q : Option Addr) (c : Nat) (u v : Value) (hr : w.heap.size ≤ r) (hlo : r < lo) (hhi : hi ≤ W.heap.size) (hO : OwnY W a q c lo hi) (hb : Below w.heap.size w W) :
    GetPost (x, n, a) w (.returned (.tuple #[.agg #[.int .i64 n, .slice q a.len c], .int .i64 x])) ((W.setCell ⟨r, 0, none⟩ u).setCell ⟨r, 1, none⟩ v) := by
  refine ⟨q, c, rfl, ?_, (hb.setCell hr u).setCell hr v⟩
  rw [size_set2]
  exact (hO.set2 hlo u v).mono (by omega) hhi

set_option maxHeartbeats 800000 in
theorem echeckone_any (R : List Int) (a : Y) (n : Int) (w : World) (rp p : Option Addr) (rn rc l cap : Nat) (hR : IsL w R rp rn rc) (his : IsY w a p l cap) :
    Calls Try.prog 20 #[.slice rp rn rc, .agg #[.int .i64 n, .slice p l cap]] w fun e w' => e = .returned (.int .i64 (chkOne R n a)) ∧ Below w.heap.size w w' := by
  have hl := his.1
  subst hl
  obtain ⟨x, hx⟩ : ∃ x, chkOne R n a = x := ⟨_, rfl⟩
  have J := echeck6_any R (.cons n a .nil) ((w.alloc (.cells #[.int .i64 n, .slice p a.len cap] 25)).alloc (.cells #[.int .i64 n, .slice p a.len cap] 25)) rp (some ⟨w.heap.size + 1, 0, none⟩) rn rc 1 1 ((hR.alloc _).alloc _) (isY_one (heap_new2 _ _ _) ((his.alloc _).alloc _))
  change Calls _ _ _ _ (fun e w' => e = .returned (.int .i64 (chkOne R n a)) ∧ _) at J
  rw [hx] at J ⊢
  have HJ := Lib.hid J
  clear J hR his hx
  go_enter Try.func20, Try.ntmps20
  go_wp2_with fail
  refine (HJ.out).mono ?_
  rintro e w1 ⟨rfl, hb1⟩
  go_wp2_with fail
  go_ret
  exact ⟨rfl, ((((Below.refl w.heap.size w).alloc (Nat.le_refl _) _).alloc (by simp) _).trans (hb1.mono (by simp <;> omega)))⟩

/-- what AtLeast answers -/
def leastE (R : List Int) (n : Int) (a : Y) (n' : Int) (b : Y) : Bool × Int := if chkTwo R n a n' b = 0 then (Y.le1 n a n' b, 0) else (false, chkTwo R n a n' b)

set_option maxHeartbeats 1600000 in
theorem eatleast_any (R : List Int) (a b : Y) (n n' : Int) (w : World) (rp p p' : Option Addr) (rn rc l cap l' cap' : Nat) (hR : IsL w R rp rn rc) (his : IsY w a p l cap) (hit : IsY w b p' l' cap') :
    Calls Try.prog 25 #[.slice rp rn rc, .agg #[.int .i64 n, .slice p l cap], .agg #[.int .i64 n', .slice p' l' cap']] w fun e w' => e = .returned (.tuple #[.bool (leastE R n a n' b).1, .int .i64 (leastE R n a n' b).2]) ∧ Below w.heap.size w w' := by
  have hl := his.1
  subst hl
  have hl' := hit.1
  subst hl'
  have J := echeck6_any R (.cons n a (.cons n' b .nil)) (((w.alloc (.cells #[.int .i64 n, .slice p a.len cap] 25)).alloc (.cells #[.int .i64 n', .slice p' b.len cap'] 25)).alloc (.cells #[.int .i64 n, .slice p a.len cap, .int .i64 n', .slice p' b.len cap'] 25)) rp (some ⟨w.heap.size + 1 + 1, 0, none⟩) rn rc 2 2 (((hR.alloc _).alloc _).alloc _) (isY_two (heap_new3 _ _ _ _) (((his.alloc _).alloc _).alloc _) (((hit.alloc _).alloc _).alloc _))
  change Calls _ _ _ _ (fun e w' => e = .returned (.int .i64 (chkTwo R n a n' b)) ∧ _) at J
  have b3 := below3 w (.cells #[.int .i64 n, .slice p a.len cap] 25) (.cells #[.int .i64 n', .slice p' b.len cap'] 25) (.cells #[.int .i64 n, .slice p a.len cap, .int .i64 n', .slice p' b.len cap'] 25)
  have HB3 := Lib.hid b3
  have HS := Lib.hid his
  have HT := Lib.hid hit
  clear b3
  by_cases hc : chkTwo R n a n' b = 0
  · have e1 : leastE R n a n' b = (Y.le1 n a n' b, 0) := if_pos hc
    rw [e1]
    rw [hc] at J
    have HJ := Lib.hid J
    clear J hR his hit hc e1
    go_enter Try.func25, Try.ntmps25
    go_wp2_with fail
    refine (HJ.out).mono ?_
    rintro e w1 ⟨rfl, hb1⟩
    obtain ⟨x1, x2⟩ := box2_cells (box2_later hb1 (alloc_kept (alloc_kept (heap_new w (.cells #[.int .i64 n, .slice p a.len cap] 25)) _) _))
    obtain ⟨y1, y2⟩ := box2_cells (box2_later hb1 (alloc_kept (heap_new2 w _ (.cells #[.int .i64 n', .slice p' b.len cap'] 25)) _))
    have HA := Lib.hid ((((HS.out.alloc _).alloc _).alloc _).below hb1)
    have HB := Lib.hid ((((HT.out.alloc _).alloc _).alloc _).below hb1)
    have hb2 := HB3.out.trans (hb1.mono HB3.out.size)
    have HB2 := Lib.hid hb2
    clear hb1 hb2
    go_wp2_with fail
    refine (eleast_any (a.sz + 1) a b n n' _ p p' _ cap _ cap' (Nat.lt_succ_self _) HA.out HB.out).mono ?_
    rintro e w2 ⟨rfl, hb3⟩
    go_wp2_with fail
    go_ret2
    exact ⟨rfl, HB2.out.trans (hb3.mono HB2.out.size)⟩
  · have e1 : leastE R n a n' b = (false, chkTwo R n a n' b) := if_neg hc
    rw [e1]
    have hd : (chkTwo R n a n' b != 0) = true := by simpa using hc
    generalize chkTwo R n a n' b = x at *
    have HJ := Lib.hid J
    clear J hR his hit hc e1
    go_enter Try.func25, Try.ntmps25
    go_wp2_with fail
    refine (HJ.out).mono ?_
    rintro e w1 ⟨rfl, hb1⟩
    go_wp2_with fail
    go_ret2
    exact ⟨rfl, HB3.out.trans (hb1.mono HB3.out.size)⟩

set_option maxHeartbeats 800000 in
theorem meet1_any (a b : Y) (n n' : Int) (s : Bool) (W : World) (p p' : Option Addr) (l cap l' cap' : Nat) :
    Calls Try.prog 59 #[.agg #[.int .i64 n, .slice p l cap], .agg #[.int .i64 n', .slice p' l' cap']] W (PostE (dMeet n a n' b).1 (dMeet n a n' b).2 none (s && true) W) := by
  go_enter Try.func59, Try.ntmps59
  go_wp2_with fail
  refine bodyPost_ret (v := .agg #[.int .i64 (-1), .slice none 0 0]) (by simp [results, Try.results59, go_sem]) rfl ?_
  refine made_post ⟨none, 0, rfl, ownY_nil _ _ _, ?_⟩ (IG.none _ _)
  exact below3 W _ _ _

/-- what Meet answers -/
def meetE (R : List Int) (n : Int) (a : Y) (n' : Int) (b : Y) : Int × Int × Y := if chkTwo R n a n' b = 0 then (0, (mg1 dMeet n a n' b).1, (mg1 dMeet n a n' b).2) else (chkTwo R n a n' b, 0, .nil)

set_option maxRecDepth 100000 in
set_option maxHeartbeats 3200000 in
theorem emeettop_any (R : List Int) (a b : Y) (n n' : Int) (w : World) (rp p p' : Option Addr) (rn rc l cap l' cap' : Nat) (hR : IsL w R rp rn rc) (his : IsY w a p l cap) (hit : IsY w b p' l' cap') :
    Calls Try.prog 27 #[.slice rp rn rc, .agg #[.int .i64 n, .slice p l cap], .agg #[.int .i64 n', .slice p' l' cap']] w (GetPost (meetE R n a n' b) w) := by
  have hl := his.1
  subst hl
  have hl' := hit.1
  subst hl'
  have hK : KT w (((w.alloc (.cells #[.int .i64 n, .slice p a.len cap] 25)).alloc (.cells #[.int .i64 n', .slice p' b.len cap'] 25)).alloc (.cells #[.int .i64 0, .slice none 0 0] 25)) w.heap.size (w.heap.size + 1) (w.heap.size + 1 + 1) R rp rn rc n a p cap n' b p' cap' :=
    ⟨((hR.alloc _).alloc _).alloc _, alloc_kept (alloc_kept (heap_new _ _) _) _, alloc_kept (heap_new2 _ _ _) _, heap_new3 _ _ _ _, ((his.alloc _).alloc _).alloc _, ((hit.alloc _).alloc _).alloc _, below3 _ _ _ _⟩
  have hK2 := hK.alloc (.cells #[.int .i64 n, .slice p a.len cap, .int .i64 n', .slice p' b.len cap'] 25)
  have J := echeck6_any R (.cons n a (.cons n' b .nil)) _ rp (some ⟨w.heap.size + 1 + 1 + 1, 0, none⟩) rn rc 2 2 hK2.rk (isY_two (heap_new4 _ _ _ _ _) hK2.i1 hK2.i2)
  change Calls _ _ _ _ (fun e w' => e = .returned (.int .i64 (chkTwo R n a n' b)) ∧ _) at J
  have HK2 := Lib.hid hK2
  clear hR his hit hK hK2
  by_cases hc : chkTwo R n a n' b = 0
  · have e1 : meetE R n a n' b = (0, (mg1 dMeet n a n' b).1, (mg1 dMeet n a n' b).2) := if_pos hc
    rw [e1]
    obtain ⟨t1, t2⟩ := chkTwo_ok hc
    obtain ⟨s1, _, o1⟩ := treeOk_facts t1
    obtain ⟨s2, _, o2⟩ := treeOk_facts t2
    rw [hc] at J
    have HJ := Lib.hid J
    have HM := Lib.hid fun W (h : KT w W w.heap.size (w.heap.size + 1) (w.heap.size + 1 + 1) R rp rn rc n a p cap n' b p' cap') => (merge_meet R dMeet (fun _ _ => true) none (fun a b n n' s W p p' l cap l' cap' _ _ _ _ _ _ => meet1_any a b n n' s W p p' l cap l' cap') (a.sz + 1) a b n n' true W p p' _ cap _ cap' (Nat.lt_succ_self _) (by omega) (by omega) o1 o2 (IG.none _ _) h.i1 h.i2).mono (fun e w' h => post_made h)
    clear J hc e1 t1 t2 s1 s2 o1 o2
    generalize (mg1 dMeet n a n' b).1 = nn at *
    generalize (mg1 dMeet n a n' b).2 = aa at *
    go_enter Try.func27, Try.ntmps27
    go_wp2_with fail
    refine (HJ.out).mono ?_
    rintro e w1 ⟨rfl, hb1⟩
    have hK := HK2.out.below hb1
    obtain ⟨x1, x2⟩ := box2_cells hK.h1
    obtain ⟨y1, y2⟩ := box2_cells hK.h2
    have HK := Lib.hid hK
    clear hb1 hK HK2
    go_wp2_with fail
    refine (HM.out _ HK.out).mono ?_
    rintro e w2 ⟨q, c, rfl, hO, hb2⟩
    have hK2 := HK.out.below hb2
    obtain ⟨⟨z1, z2⟩, f1, f2⟩ := tree_box hK2.hr
    have hz := lt_of_block hK2.hr
    have hz1 := lt_of_block HK.out.hr
    have zz := alloc_kept (put2_box (x := .int .i64 nn) (y := .slice q aa.len c) hK2.hr) (.cells #[.int .i64 nn, .slice q aa.len c] 25)
    unfold put2 at zz
    obtain ⟨⟨k1, k2⟩, _⟩ := tree_box zz
    clear zz x1 x2 y1 y2
    go_wp2_with fail
    refine bodyPost_ret (v := .tuple #[.agg #[.int .i64 nn, .slice q aa.len c], .int .i64 0]) (by simp [results, Try.results27, go_sem, k1, k2]) rfl ?_
    have hbase := hK2.base
    refine ⟨q, c, rfl, ?_, ((hbase.setCell (show w.heap.size ≤ w.heap.size + 1 + 1 by omega) _).setCell (show w.heap.size ≤ w.heap.size + 1 + 1 by omega) _).alloc (by simp [World.setCell] <;> omega) _⟩
    refine ((hO.set2 (r := w.heap.size + 1 + 1) (by omega) (.int .i64 nn) (.slice q aa.len c)).keep fun k _ hk => Below.heap_alloc _ _ _ (by rw [size_set2]; omega)).mono (by have := HK.out.base.size; omega) (by simp [World.setCell])
  · have e1 : meetE R n a n' b = (chkTwo R n a n' b, 0, .nil) := if_neg hc
    rw [e1]
    have hd : (chkTwo R n a n' b != 0) = true := by simpa using hc
    generalize chkTwo R n a n' b = x at *
    have HJ := Lib.hid J
    clear J hc e1
    go_enter Try.func27, Try.ntmps27
    go_wp2_with fail
    refine (HJ.out).mono ?_
    rintro e w1 ⟨rfl, hb1⟩
    have hK := HK2.out.below hb1
    obtain ⟨⟨z1, z2⟩, f1, f2⟩ := tree_box hK.hr
    have hz := lt_of_block hK.hr
    clear hb1
    go_wp2_with fail
    refine bodyPost_ret (v := .tuple #[.agg #[.int .i64 0, .slice none 0 0], .int .i64 x]) (by simp [results, Try.results27, go_sem, z1, z2]) rfl ?_
    exact getPost_zero x _ _ (by omega) hK.base

/-- what Cut answers -/
def cutE (R : List Int) (n : Int) (a : Y) (d : Int) : Int × Int × Y := if chkOne R n a = 0 then (if d < 0 then (2, 0, .nil) else (0, cut1n d.toNat n, cut1a d.toNat a)) else (chkOne R n a, 0, .nil)

set_option maxRecDepth 100000 in
set_option maxHeartbeats 3200000 in
theorem ecuttop_any (R : List Int) (a : Y) (n d : Int) (w : World) (rp p : Option Addr) (rn rc l cap : Nat) (hd63 : d ≤ 9223372036854775807) (hR : IsL w R rp rn rc) (his : IsY w a p l cap) :
    Calls Try.prog 32 #[.slice rp rn rc, .agg #[.int .i64 n, .slice p l cap], .int .i64 d] w (GetPost (cutE R n a d) w) := by
  have hl := his.1
  subst hl
  have b2 : ∀ x y, Below w.heap.size w ((w.alloc x).alloc y) := fun x y => ((Below.refl _ _).alloc (Nat.le_refl _) _).alloc (by simp) _
  have hK : KT w ((w.alloc (.cells #[.int .i64 n, .slice p a.len cap] 25)).alloc (.cells #[.int .i64 0, .slice none 0 0] 25)) w.heap.size w.heap.size (w.heap.size + 1) R rp rn rc n a p cap n a p cap :=
    ⟨(hR.alloc _).alloc _, alloc_kept (heap_new _ _) _, alloc_kept (heap_new _ _) _, heap_new2 _ _ _, (his.alloc _).alloc _, (his.alloc _).alloc _, b2 _ _⟩
  have hK2 := hK.alloc (.cells #[.int .i64 n, .slice p a.len cap] 25)
  have J := echeck6_any R (.cons n a .nil) _ rp (some ⟨w.heap.size + 1 + 1, 0, none⟩) rn rc 1 1 hK2.rk (isY_one (heap_new3 _ _ _ _) hK2.i1)
  change Calls _ _ _ _ (fun e w' => e = .returned (.int .i64 (chkOne R n a)) ∧ _) at J
  have HK2 := Lib.hid hK2
  clear hR his hK hK2 b2
  by_cases hc : chkOne R n a = 0
  · obtain ⟨s1, _, o1⟩ := treeOk_facts (chkOne_ok hc)
    have e1 : cutE R n a d = if d < 0 then (2, 0, .nil) else (0, cut1n d.toNat n, cut1a d.toNat a) := if_pos hc
    rw [e1]
    rw [hc] at J
    have HJ := Lib.hid J
    clear J hc e1 o1
    by_cases hneg : d < 0
    · rw [if_pos hneg]
      go_enter Try.func32, Try.ntmps32
      go_wp2_with fail
      refine (HJ.out).mono ?_
      rintro e w1 ⟨rfl, hb1⟩
      have hK := HK2.out.below hb1
      obtain ⟨⟨z1, z2⟩, f1, f2⟩ := tree_box hK.hr
      have hz := lt_of_block hK.hr
      clear hb1
      go_wp2_with fail
      refine bodyPost_ret (v := .tuple #[.agg #[.int .i64 0, .slice none 0 0], .int .i64 2]) (by simp [results, Try.results32, go_sem, z1, z2]) rfl ?_
      exact getPost_zero 2 _ _ (by omega) hK.base
    · rw [if_neg hneg]
      obtain ⟨m, rfl⟩ : ∃ m : Nat, d = (m : Int) := ⟨d.toNat, by omega⟩
      rw [Int.toNat_natCast]
      have HC := Lib.hid fun W (h : IsY W a p a.len cap) => ecut_any (a.sz + 1) a n m (m : Int) W p _ cap rfl (by omega) (Nat.lt_succ_self _) (by omega) h
      generalize cut1n m n = nn at *
      generalize cut1a m a = aa at *
      go_enter Try.func32, Try.ntmps32
      go_wp2_with fail
      refine (HJ.out).mono ?_
      rintro e w1 ⟨rfl, hb1⟩
      have hK := HK2.out.below hb1
      obtain ⟨x1, x2⟩ := box2_cells hK.h1
      have HK := Lib.hid hK
      clear hb1 hK HK2
      go_wp2_with fail
      refine (HC.out _ HK.out.i1).mono ?_
      rintro e w2 ⟨q, c, rfl, hO, hb2⟩
      have hK2 := HK.out.below hb2
      obtain ⟨⟨z1, z2⟩, f1, f2⟩ := tree_box hK2.hr
      have hz := lt_of_block hK2.hr
      have hz1 := lt_of_block HK.out.hr
      clear x1 x2
      go_wp2_with fail
      refine bodyPost_ret (v := .tuple #[.agg #[.int .i64 nn, .slice q aa.len c], .int .i64 0]) (by simp [results, Try.results32, go_sem, z1, z2]) rfl ?_
      exact getPost_own 0 nn aa q c _ _ (by omega) (by omega) (Nat.le_refl _) hO hK2.base
  · have e1 : cutE R n a d = (chkOne R n a, 0, .nil) := if_neg hc
    rw [e1]
    have hd : (chkOne R n a != 0) = true := by simpa using hc
    generalize chkOne R n a = x at *
    have HJ := Lib.hid J
    clear J hc e1
    go_enter Try.func32, Try.ntmps32
    go_wp2_with fail
    refine (HJ.out).mono ?_
    rintro e w1 ⟨rfl, hb1⟩
    have hK := HK2.out.below hb1
    obtain ⟨⟨z1, z2⟩, f1, f2⟩ := tree_box hK.hr
    have hz := lt_of_block hK.hr
    clear hb1
    go_wp2_with fail
    refine bodyPost_ret (v := .tuple #[.agg #[.int .i64 0, .slice none 0 0], .int .i64 x]) (by simp [results, Try.results32, go_sem, z1, z2]) rfl ?_
    exact getPost_zero x _ _ (by omega) hK.base

end Go.Proofs.Yteolfpdkpihnlaa

/-
  The walk of Join. Conditions: none but that ranks and trees lie in memory.
-/
set_option linter.unusedSimpArgs false
set_option linter.unusedVariables false
namespace Go.Proofs.Yteolfpdkpihnlaa
open Go.RowKit

theorem postE_storeg {w wB w1 : World} {g : Option Nat} {s : Bool} {r : Nat} {n : Int} {a : Y} {q : Option Addr} {c : Nat} (u v : Value) (hB : w.grownBy wB g) (hwr : w.heap.size ≤ r) (hr : r < wB.heap.size)
    (hgl : ∀ b, g = some b → b < w.heap.size) (hO : OwnY w1 a q c wB.heap.size w1.heap.size) (hI : IG g s w1) (hg : wB.grownBy w1 g) :
    PostE n a g s w (.returned (.agg #[.int .i64 n, .slice q a.len c])) ((w1.setCell ⟨r, 0, none⟩ u).setCell ⟨r, 1, none⟩ v) := by
  have hz := hB.size
  have hz1 := hg.size
  refine ⟨⟨q, c, rfl, ?_⟩, ?_, ?_⟩
  · rw [size_set2]
    exact (hO.set2 hr u v).mono hz (Nat.le_refl _)
  · intro b e
    have := hgl b e
    rw [Below.heap_setCell _ _ _ _ (by simp only; omega), Below.heap_setCell _ _ _ _ (by simp only; omega)]
    exact hI b e
  · exact gby_below (gby_trans hB hg) (((Below.refl w.heap.size w1).setCell hwr u).setCell hwr v)

set_option maxRecDepth 100000 in
set_option maxHeartbeats 1600000 in
theorem join1_any (a b : Y) (n n' : Int) (s : Bool) (gb : Nat) (W : World) (p p' : Option Addr) (l cap l' cap' : Nat) (h1 : a.sz < 100000) (h2 : b.sz < 100000) (hI : IG (some gb) s W) (his : IsY W a p l cap) (hit : IsY W b p' l' cap') :
    Calls Try.prog 62 #[.agg #[.int .i64 n, .slice p l cap], .agg #[.int .i64 n', .slice p' l' cap'], .pointer (some ⟨gb, 0, none⟩)] W (PostE (dJoin n a n' b).1 (dJoin n a n' b).2 (some gb) (s && okJoin n n') W) := by
  have hgl := hI.lt
  have hgb := hI.lt gb rfl
  have HI := Lib.hid hI
  have HGL := Lib.hid hgl
  have hb := hI gb rfl
  have c1 := cell_of_one hb
  have c2 := free_of_one hb
  clear hI hgl hb
  by_cases hn : n = -1
  · have e1 : dJoin n a n' b = (n', b) := if_pos hn
    have e2 : (s && okJoin n n') = s := by unfold okJoin; rw [decide_eq_true hn]; simp
    rw [e1, e2]
    dsimp only
    have hd : (n == -1) = true := by simp [hn]
    have HC := Lib.hid (efresh_any (b.sz + 1) b n' (((W.alloc (.cells #[.int .i64 n, .slice p l cap] 25)).alloc (.cells #[.int .i64 n', .slice p' l' cap'] 25)).alloc (.cells #[.int .i64 0, .slice none 0 0] 25)) p' l' cap' (Nat.lt_succ_self _) h2 (((hit.alloc _).alloc _).alloc _))
    clear e1 e2 hn his hit
    go_enter Try.func62, Try.ntmps62
    go_wp2_with fail
    refine (HC.out).mono ?_
    rintro e w1 ⟨q, c, rfl, hO, hb1⟩
    have z0 := box2_later hb1 (heap_new3 W (.cells #[.int .i64 n, .slice p l cap] 25) (.cells #[.int .i64 n', .slice p' l' cap'] 25) (.cells #[.int .i64 0, .slice none 0 0] 25))
    obtain ⟨⟨z1, z2⟩, f1, f2⟩ := tree_box z0
    have hz := lt_of_block z0
    clear z0
    go_wp2_with fail
    refine bodyPost_ret (v := .agg #[.int .i64 n', .slice q b.len c]) (by simp [results, Try.results62, go_sem, z1, z2]) rfl ?_
    exact postE_store (r := W.heap.size + 1 + 1) _ _ (below3 W _ _ _) (by omega) (by simp <;> omega) HGL.out hO ((((HI.out.alloc _).alloc _).alloc _).below hb1 (fun b e => by have := HGL.out b e; simp; omega)) (below_gby hb1)
  · have e1 : dJoin n a n' b = (n, a) := if_neg hn
    have e2 : okJoin n n' = (n' == -1) := by unfold okJoin; rw [decide_eq_false hn]; rfl
    rw [e1, e2]
    dsimp only
    have hd : (n == -1) = false := by simp [hn]
    obtain ⟨u, hu⟩ : ∃ u, (n' == -1) = u := ⟨_, rfl⟩
    rw [hu]
    have hst : ∀ v : Bool, IG (some gb) v ((((W.alloc (.cells #[.int .i64 n, .slice p l cap] 25)).alloc (.cells #[.int .i64 n', .slice p' l' cap'] 25)).alloc (.cells #[.int .i64 0, .slice none 0 0] 25)).setCell ⟨gb, 0, none⟩ (.bool v)) := fun v k e => by
      injection e with e
      subst e
      have h := heap_setCell_same _ gb 0 #[.bool s] 4 (.bool v) ((((HI.out.alloc (.cells #[.int .i64 n, .slice p l cap] 25)).alloc (.cells #[.int .i64 n', .slice p' l' cap'] 25)).alloc (.cells #[.int .i64 0, .slice none 0 0] 25)) gb rfl)
      simpa using h
    have hgr : ∀ v : Bool, W.grownBy ((((W.alloc (.cells #[.int .i64 n, .slice p l cap] 25)).alloc (.cells #[.int .i64 n', .slice p' l' cap'] 25)).alloc (.cells #[.int .i64 0, .slice none 0 0] 25)).setCell ⟨gb, 0, none⟩ (.bool v)) (some gb) := fun v => by
      have h := below_gby (g := some gb) (below3 W (.cells #[.int .i64 n, .slice p l cap] 25) (.cells #[.int .i64 n', .slice p' l' cap'] 25) (.cells #[.int .i64 0, .slice none 0 0] 25))
      exact ⟨h.os, h.tape, h.output, by simp [World.setCell]; omega, fun j hj hne => (Below.heap_setCell _ _ _ _ (fun e => hne (by rw [e]))).trans (h.block j hj hne)⟩
    have HST := Lib.hid hst
    have HGR := Lib.hid hgr
    have HC := Lib.hid fun W2 (h : IsY W2 a p l cap) => efresh_any (a.sz + 1) a n W2 p l cap (Nat.lt_succ_self _) h1 h
    have HIS := Lib.hid his
    have zr := fun v => (Below.heap_setCell ((((W.alloc (.cells #[.int .i64 n, .slice p l cap] 25)).alloc (.cells #[.int .i64 n', .slice p' l' cap'] 25)).alloc (.cells #[.int .i64 0, .slice none 0 0] 25))) ⟨gb, 0, none⟩ (.bool v) (W.heap.size + 1 + 1) (by show W.heap.size + 1 + 1 ≠ gb; omega)).trans (heap_new3 W (.cells #[.int .i64 n, .slice p l cap] 25) (.cells #[.int .i64 n', .slice p' l' cap'] 25) (.cells #[.int .i64 0, .slice none 0 0] 25))
    have ZR := Lib.hid zr
    have hb3 := (((HI.out.alloc (.cells #[.int .i64 n, .slice p l cap] 25)).alloc (.cells #[.int .i64 n', .slice p' l' cap'] 25)).alloc (.cells #[.int .i64 0, .slice none 0 0] 25)) gb rfl
    have c3 := cell_of_one hb3
    have c4 := free_of_one hb3
    clear e1 e2 hn his hit hst hgr zr hb3 c1 c2
    cases s <;> cases u
    all_goals
      go_enter Try.func62, Try.ntmps62
      go_wp2_with fail
      refine (HC.out _ (HIS.out.keeps (keeps2_gby HI.out (HGR.out _)))).mono ?_
      rintro e w1 ⟨q, c, rfl, hO, hb1⟩
      have z0 := box2_later hb1 (ZR.out _)
      obtain ⟨⟨z1, z2⟩, f1, f2⟩ := tree_box z0
      have hz := lt_of_block z0
      clear z0
      go_wp2_with fail
      refine bodyPost_ret (v := .agg #[.int .i64 n, .slice q a.len c]) (by simp [results, Try.results62, go_sem, z1, z2]) rfl ?_
      exact postE_storeg (r := W.heap.size + 1 + 1) _ _ (HGR.out _) (by omega) (by simp [World.setCell] <;> omega) HGL.out hO ((HST.out _).below hb1 (fun b e => by have := HGL.out b e; simp [World.setCell]; omega)) (below_gby hb1)

/-- what Join answers -/
def joinE (R : List Int) (n : Int) (a : Y) (n' : Int) (b : Y) : Int × Int × Y :=
  if chkTwo R n a n' b = 0 then
    if mgOk1 okJoin n a n' b = true then
      if (mg1 dJoin n a n' b).2.sz < 20000 then (0, (mg1 dJoin n a n' b).1, (mg1 dJoin n a n' b).2) else (3, 0, .nil)
    else (5, 0, .nil)
  else (chkTwo R n a n' b, 0, .nil)

set_option maxRecDepth 100000 in
set_option maxHeartbeats 3200000 in
theorem ejointop_any (R : List Int) (a b : Y) (n n' : Int) (w : World) (rp p p' : Option Addr) (rn rc l cap l' cap' : Nat) (hR : IsL w R rp rn rc) (his : IsY w a p l cap) (hit : IsY w b p' l' cap') :
    Calls Try.prog 30 #[.slice rp rn rc, .agg #[.int .i64 n, .slice p l cap], .agg #[.int .i64 n', .slice p' l' cap']] w (GetPost (joinE R n a n' b) w) := by
  have hl := his.1
  subst hl
  have hl' := hit.1
  subst hl'
  have hK : KT w (((w.alloc (.cells #[.int .i64 n, .slice p a.len cap] 25)).alloc (.cells #[.int .i64 n', .slice p' b.len cap'] 25)).alloc (.cells #[.int .i64 0, .slice none 0 0] 25)) w.heap.size (w.heap.size + 1) (w.heap.size + 1 + 1) R rp rn rc n a p cap n' b p' cap' :=
    ⟨((hR.alloc _).alloc _).alloc _, alloc_kept (alloc_kept (heap_new _ _) _) _, alloc_kept (heap_new2 _ _ _) _, heap_new3 _ _ _ _, ((his.alloc _).alloc _).alloc _, ((hit.alloc _).alloc _).alloc _, below3 _ _ _ _⟩
  have hK2 := hK.alloc (.cells #[.int .i64 n, .slice p a.len cap, .int .i64 n', .slice p' b.len cap'] 25)
  have J := echeck6_any R (.cons n a (.cons n' b .nil)) _ rp (some ⟨w.heap.size + 1 + 1 + 1, 0, none⟩) rn rc 2 2 hK2.rk (isY_two (heap_new4 _ _ _ _ _) hK2.i1 hK2.i2)
  change Calls _ _ _ _ (fun e w' => e = .returned (.int .i64 (chkTwo R n a n' b)) ∧ _) at J
  have HK2 := Lib.hid hK2
  clear hR his hit hK hK2
  by_cases hc : chkTwo R n a n' b = 0
  · have e1 : joinE R n a n' b = if mgOk1 okJoin n a n' b = true then (if (mg1 dJoin n a n' b).2.sz < 20000 then (0, (mg1 dJoin n a n' b).1, (mg1 dJoin n a n' b).2) else (3, 0, .nil)) else (5, 0, .nil) := if_pos hc
    rw [e1]
    obtain ⟨t1, t2⟩ := chkTwo_ok hc
    obtain ⟨s1, _, o1⟩ := treeOk_facts t1
    obtain ⟨s2, _, o2⟩ := treeOk_facts t2
    rw [hc] at J
    generalize hans : (if mgOk1 okJoin n a n' b = true then (if (mg1 dJoin n a n' b).2.sz < 20000 then (0, (mg1 dJoin n a n' b).1, (mg1 dJoin n a n' b).2) else (3, 0, .nil)) else (5, 0, .nil) : Int × Int × Y) = ans
    have HJ := Lib.hid J
    have HM := Lib.hid fun gb W (hI : IG (some gb) true W) (i1 : IsY W a p a.len cap) (i2 : IsY W b p' b.len cap') => merge_join (gb := gb) R dJoin okJoin (some gb) (fun a b n n' s W p p' l cap l' cap' _ h1 h2 hI i1 i2 => join1_any a b n n' s gb W p p' l cap l' cap' h1 h2 hI i1 i2) (a.sz + 1) a b n n' true W p p' _ cap _ cap' (Nat.lt_succ_self _) (by omega) (by omega) o1 o2 hI i1 i2
    simp only [Bool.true_and] at HM
    clear J hc e1 t1 t2 s1 s2 o1 o2
    generalize (mg1 dJoin n a n' b).1 = nn at *
    generalize (mg1 dJoin n a n' b).2 = aa at *
    generalize mgOk1 okJoin n a n' b = ok at *
    have HAns := Lib.hid hans
    clear hans
    go_enter Try.func30, Try.ntmps30
    go_wp2_with fail
    refine (HJ.out).mono ?_
    rintro e w1 ⟨rfl, hb1⟩
    have hK := (HK2.out.below hb1).alloc (.cells #[.bool true] 4)
    have hKx := (HK2.out.below hb1)
    obtain ⟨x1, x2⟩ := box2_cells hKx.h1
    obtain ⟨y1, y2⟩ := box2_cells hKx.h2
    have x3 := lt_of_block hKx.h1
    have y3 := lt_of_block hKx.h2
    have hz1 := lt_of_block hKx.hr
    have HK := Lib.hid hK
    have hI : IG (some w1.heap.size) true (w1.alloc (.cells #[.bool true] 4)) := fun k e => by injection e with e; subst e; exact heap_new _ _
    have HI := Lib.hid hI
    clear hb1 hK HK2 hKx hI
    go_wp2_with fail
    refine (HM.out _ _ HI.out HK.out.i1 HK.out.i2).mono ?_
    rintro e w2 ⟨⟨q, c, rfl, hO⟩, hI2, hg2⟩
    have hsz2 := hg2.size
    simp only [World.size_alloc] at hsz2
    have hO3 : OwnY w2 aa q c (w1.heap.size + 1) w2.heap.size := by
      have h := hO
      rwa [World.size_alloc] at h
    have g0 := hI2 _ rfl
    have g1 := cell_of_one g0
    have hr2 := (hg2.block (w.heap.size + 1 + 1) (by simp; omega) (fun e => by injection e; omega)).trans HK.out.hr
    have hbase : Below w.heap.size w w2 := HK.out.base.trans ⟨hg2.os, hg2.tape, hg2.output, hg2.size, fun j hj => hg2.block j (by have := HK.out.base.size; omega) (fun e => by injection e; omega)⟩
    clear x1 x2 y1 y2 x3 y3 HK HI HM hg2 hO hI2
    cases ok with
    | false =>
      have zz := alloc_kept (put2_box (x := .int .i64 0) (y := .slice none 0 0) hr2) (.cells #[.int .i64 nn, .slice q aa.len c] 25)
      unfold put2 at zz
      obtain ⟨⟨k1, k2⟩, _⟩ := tree_box zz
      obtain ⟨⟨z1, z2⟩, f1, f2⟩ := tree_box hr2
      have hz := lt_of_block hr2
      have g3 := lt_of_block g0
      clear zz
      go_wp2_with fail
      refine bodyPost_ret (v := .tuple #[.agg #[.int .i64 0, .slice none 0 0], .int .i64 5]) (by simp [results, Try.results30, go_sem, k1, k2]) rfl ?_
      rw [← HAns.out]
      exact ⟨none, 0, rfl, ownY_nil _ _ _, ((hbase.setCell (show w.heap.size ≤ w.heap.size + 1 + 1 by omega) _).setCell (show w.heap.size ≤ w.heap.size + 1 + 1 by omega) _).alloc (by simp [World.setCell] <;> omega) _⟩
    | true =>
      have hSM := Lib.hid (esmall_any aa nn (w2.alloc (.cells #[.int .i64 nn, .slice q aa.len c] 25)) q aa.len c (hO3.isY.alloc _))
      have hr3 := alloc_kept hr2 (.cells #[.int .i64 nn, .slice q aa.len c] 25)
      have hO4 : OwnY (w2.alloc (.cells #[.int .i64 nn, .slice q aa.len c] 25)) aa q c (w1.heap.size + 1) w2.heap.size := hO3.keep fun k _ hk => Below.heap_alloc _ _ _ hk
      have HB := Lib.hid hbase
      have g3 := lt_of_block g0
      clear hr2 hbase g0
      go_wp2_with fail
      refine (hSM.out).mono ?_
      rintro e w3 ⟨rfl, hb3⟩
      have z0 := box2_later hb3 hr3
      have t0 := box2_later hb3 (heap_new w2 (.cells #[.int .i64 nn, .slice q aa.len c] 25))
      obtain ⟨⟨z1, z2⟩, f1, f2⟩ := tree_box z0
      obtain ⟨t1, t2⟩ := box2_cells t0
      have hz := lt_of_block z0
      have hb4 : Below w.heap.size w w3 := (HB.out.alloc HB.out.size _).trans (hb3.mono (by have := HB.out.size; simp; omega))
      have hO5 : OwnY w3 aa q c (w1.heap.size + 1) w2.heap.size := hO4.keep fun k _ hk => hb3.block k (by simp; omega)
      have hsz3 : w2.heap.size ≤ w3.heap.size := by have := hb3.size; simp at this; omega
      clear hb3 z0 t0 hO4 hO3 hr3
      by_cases hs : aa.sz < 20000
      · have hds : decide (aa.sz < 20000) = true := by simpa using hs
        have HS := Lib.hid hs
        clear hs
        go_wp2_with fail
        refine bodyPost_ret (v := .tuple #[.agg #[.int .i64 nn, .slice q aa.len c], .int .i64 0]) (by simp [results, Try.results30, go_sem, z1, z2]) rfl ?_
        rw [← HAns.out, if_pos trivial, if_pos HS.out]
        exact getPost_own 0 nn aa q c _ _ (by omega) (by omega) hsz3 hO5 hb4
      · have hds : decide (aa.sz < 20000) = false := by simpa using hs
        have HS := Lib.hid hs
        clear hs
        go_wp2_with fail
        refine bodyPost_ret (v := .tuple #[.agg #[.int .i64 0, .slice none 0 0], .int .i64 3]) (by simp [results, Try.results30, go_sem, z1, z2]) rfl ?_
        rw [← HAns.out, if_pos trivial, if_neg HS.out]
        exact getPost_zero 3 _ _ (by omega) hb4
  · have e1 : joinE R n a n' b = (chkTwo R n a n' b, 0, .nil) := if_neg hc
    rw [e1]
    have hd : (chkTwo R n a n' b != 0) = true := by simpa using hc
    generalize chkTwo R n a n' b = x at *
    have HJ := Lib.hid J
    clear J hc e1
    go_enter Try.func30, Try.ntmps30
    go_wp2_with fail
    refine (HJ.out).mono ?_
    rintro e w1 ⟨rfl, hb1⟩
    have hK := HK2.out.below hb1
    obtain ⟨⟨z1, z2⟩, f1, f2⟩ := tree_box hK.hr
    have hz := lt_of_block hK.hr
    clear hb1
    go_wp2_with fail
    refine bodyPost_ret (v := .tuple #[.agg #[.int .i64 0, .slice none 0 0], .int .i64 x]) (by simp [results, Try.results30, go_sem, z1, z2]) rfl ?_
    exact getPost_zero x _ _ (by omega) hK.base

end Go.Proofs.Yteolfpdkpihnlaa

