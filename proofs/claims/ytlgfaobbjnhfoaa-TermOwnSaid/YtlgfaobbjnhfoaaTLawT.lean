/-
  The walk of the statement on memory, where the example holds: what came in stays as it was. Conditions: numbers of 64 bits.
-/
import Derived.Test.YtlgfaobbjnhfoaaTPlainO
import Derived.Test.YtlgfaobbjnhfoaaTWalkS
import Derived.Test.YtlgfaobbjnhfoaaTLawN
import Derived.Test.YtlgfaobbjnhfoaaTWalkV
import Derived.Test.YtlgfaobbjnhfoaaTWalkFc
import Derived.Test.YtlgfaobbjnhfoaaTWalkG2
import Derived.Test.YtlgfaobbjnhfoaaTMem3
import Derived.Test.YtlgfaobbjnhfoaaTWalkJ
set_option linter.unusedSimpArgs false
set_option linter.unusedVariables false
namespace Go.Proofs.Ytlgfaobbjnhfoaa
open Go.RowKit

/-- nothing outside of the blocks from lo to hi has turned, nothing is new -/
structure Touch (lo hi : Nat) (w w' : World) : Prop where
  os : w'.os = w.os
  tape : w'.tape = w.tape
  output : w'.output = w.output
  size : w'.heap.size = w.heap.size
  block : ∀ j, (j < lo ∨ hi ≤ j) → w'.heap[j]? = w.heap[j]?

theorem Touch.refl (lo hi : Nat) (w : World) : Touch lo hi w w := ⟨rfl, rfl, rfl, rfl, fun _ _ => rfl⟩

theorem Touch.trans {lo hi : Nat} {a b c : World} (h : Touch lo hi a b) (k : Touch lo hi b c) : Touch lo hi a c :=
  ⟨k.os.trans h.os, k.tape.trans h.tape, k.output.trans h.output, k.size.trans h.size, fun j hj => (k.block j hj).trans (h.block j hj)⟩

theorem Touch.mono {lo hi lo' hi' : Nat} {a b : World} (h : Touch lo hi a b) (hl : lo' ≤ lo) (hh : hi ≤ hi') : Touch lo' hi' a b :=
  ⟨h.os, h.tape, h.output, h.size, fun j hj => h.block j (by omega)⟩

theorem Touch.set (w : World) {lo hi b : Nat} (hl : lo ≤ b) (hh : b < hi) (o : Nat) (v : Value) : Touch lo hi w (w.setCell ⟨b, o, none⟩ v) :=
  ⟨rfl, rfl, rfl, setCell_size _ _ _, fun j hj => Below.heap_setCell _ _ _ _ (show j ≠ b by omega)⟩

theorem Touch.below {lo hi : Nat} {a b : World} (h : Touch lo hi a b) : Below lo a b := ⟨h.os, h.tape, h.output, by rw [h.size]; exact Nat.le_refl _, fun j hj => h.block j (Or.inl hj)⟩

/-- the row's cells from place i on -/
def RowFrom (w : World) (b i0 : Nat) (us : List Value) : Prop := ∀ i v, us[i]? = some v → w.cell? ⟨b, i0 + i, none⟩ = some v ∧ w.frozen? ⟨b, i0 + i, none⟩ = false

theorem RowFrom.cut {w w1 : World} {b i0 : Nat} {x y z : Value} {us : List Value} (h : RowFrom w b i0 (x :: y :: z :: us)) (hb : w1.heap[b]? = w.heap[b]?) (v : Value) : RowFrom (w1.setCell ⟨b, i0 + 1, none⟩ v) b (i0 + 3) us := by
  intro i u hi
  have h1 := h (i + 3) u (by simpa using hi)
  rw [show i0 + (i + 3) = i0 + 3 + i by omega] at h1
  refine ⟨?_, ?_⟩
  · rw [World.cell?_setCell_other _ _ _ _ (fun e => by injection e with _ e2; omega), World.cell?_of_block (w := w) hb]
    exact h1.1
  · rw [show (w1.setCell ⟨b, i0 + 1, none⟩ v).frozen? ⟨b, i0 + 3 + i, none⟩ = w1.frozen? ⟨b, i0 + 3 + i, none⟩ by simp [go_sem], World.frozen?_of_block (w := w) hb]
    exact h1.2

set_option maxRecDepth 100000 in
set_option maxHeartbeats 1600000 in
theorem turn_any (N : Nat) : ∀ (t : X) (w : World) (p : Option Addr) (c lo hi : Nat), t.sz < N → t.sz < 100000 → OwnX w t p c lo hi →
    Calls Try.prog 40 #[.slice p t.len c] w fun e w' => e = .returned (.tuple #[]) ∧ Touch lo hi w w' := by
  induction N with
  | zero => intro t w p c lo hi hN; omega
  | succ N ih =>
    intro t w p c lo hi hN h60 hO
    have IH := Lib.hid ih
    clear ih
    have hlen := t.len_le_sz
    obtain ⟨hcap, hmax, hnil, hrow⟩ := hO
    unfold maxLen at hmax
    by_cases h0 : t.len = 0
    · rw [h0] at hcap ⊢
      clear hrow
      go_enter Try.func40, Try.ntmps40
      go_wp2_with fail
      refine wp_loop_rounds 1 ?_
      rw [rounds_succ]
      go_wp2_with fail
      go_end0
      exact ⟨rfl, Touch.refl _ _ _⟩
    · rcases hrow with h | ⟨b, us, rfl, hlb, hbh, hr, hk⟩
      · exact absurd h h0
      have r0 : RowFrom w b 0 us := fun i v hi => by rw [Nat.zero_add]; exact hr i v hi
      have HR := Lib.hid r0
      have HK := Lib.hid hk
      clear hr hk r0 h0 hnil
      go_enter Try.func40, Try.ntmps40
      go_wp2_with fail
      go_loopw [5] (fun i wr => ∃ (j : Nat) (vs : List Value) (l : Nat), j ≤ t.len ∧ i = .int .i64 (j : Int) ∧ RowFrom wr b (j * 3) vs ∧ lo ≤ l ∧ KidsX wr (t.drop j) vs (some b) l hi ∧ Touch lo hi w wr)
        (fun i _ => t.len - (intOf i).toNat)
      case atStart => exact ⟨0, us, lo, Nat.zero_le _, rfl, by rw [Nat.zero_mul]; exact HR.out, Nat.le_refl _, by rw [X.drop_zero]; exact HK.out, Touch.refl _ _ _⟩
      case round =>
        clear HR HK
        obtain ⟨j, vs, l, hj, rfl, hr, hll, hk, ht⟩ := hrel
        by_cases hlt : j < t.len
        · rw [X.drop_cons t j hlt] at hk
          obtain ⟨l1, m, c', p', rest, rfl, a1, a2, a4, a5, a6, a7, a8, a3⟩ := hk
          have hbk := a4 b rfl
          have hle := a3.le
          have hg := t.sz_ga j hlt
          have e1 := hr 1 _ rfl
          have e2 := hr 2 _ rfl
          have hOk : OwnX wr (t.ga j) p' c' l1 m := ⟨a5, a6, a7, a8⟩
          have q2 := e2.1
          have HRR := Lib.hid hr
          have HK3 := Lib.hid a3
          have E1 := Lib.hid e1
          have HIJ := Lib.hid (IH.out (t.ga j) wr p' c' l1 m (by omega) (by omega) hOk)
          have hck : (j : Int) < (t.len : Int) := by omega
          clear hr hOk a8 e1 e2 a3 a4 a7
          go_wp2_with fail
          refine HIJ.out.mono ?_
          rintro e w1 ⟨rfl, ht1⟩
          have hb1 : w1.heap[b]? = wr.heap[b]? := ht1.block b hbk
          have g1 := (World.cell?_of_block (w := wr) (a := ⟨b, j * 3 + 1, none⟩) hb1).trans E1.out.1
          have g2 := (World.frozen?_of_block (w := wr) (a := ⟨b, j * 3 + 1, none⟩) hb1).trans E1.out.2
          have HT1 := Lib.hid ht1
          clear ht1 q2
          go_wp2_with fail
          go_roundw
          case rel =>
            refine ⟨j + 1, rest, m, by omega, by go_num, ?_, by omega, ?_, (ht.trans (HT1.out.mono (by omega) (by omega))).trans (Touch.set _ hlb hbh _ _)⟩
            · rw [show (j + 1) * 3 = j * 3 + 3 by omega]; exact HRR.out.cut hb1 _
            · exact HK3.out.keep fun k' hk1 hk2 hne => (Below.heap_setCell _ _ _ _ (show k' ≠ b by rintro rfl; exact hne rfl)).trans (HT1.out.block k' (by omega))
          case measure => simp [intOf]; omega
        · go_wp2_with fail
          go_end0
          exact ⟨rfl, ht⟩

/-- what the statement's own variables hold, whatever is called -/
structure KSo (w : World) (x : Pl) (a3 : At3) (k n : Int) (a : X) (p : Option Addr) (l cap : Nat) (W : World) : Prop where
  vars : Vars2 w (a3.box 25) (.cells #[.int .i64 k, .int .i64 n, .slice p l cap] 35) W
  isP : IsP W x a3
  isX : IsX W a p l cap

theorem isP_drew {w : World} {x : Pl} {a : At3} (h : IsP w x a) : IsP w.drew x a := h.below (Below.refl _ _).drew

theorem KSo.below {w : World} {x : Pl} {a3 : At3} {k n : Int} {a : X} {p : Option Addr} {l cap : Nat} {W W' : World} (h : KSo w x a3 k n a p l cap W) (hb : Below W.heap.size W W') : KSo w x a3 k n a p l cap W' := ⟨h.vars.below hb, h.isP.below hb, h.isX.below hb⟩

theorem KSo.alloc {w : World} {x : Pl} {a3 : At3} {k n : Int} {a : X} {p : Option Addr} {l cap : Nat} {W : World} (h : KSo w x a3 k n a p l cap W) (o : Obj) : KSo w x a3 k n a p l cap (W.alloc o) := h.below ((Below.refl _ _).alloc (Nat.le_refl _) _)

theorem KSo.drew {w : World} {x : Pl} {a3 : At3} {k n : Int} {a : X} {p : Option Addr} {l cap : Nat} {W : World} (h : KSo w x a3 k n a p l cap W) : KSo w x a3 k n a p l cap W.drew := h.below (Below.refl _ _).drew

theorem use_kept2o {P : Prop} {X w5 : World} {b : Nat} {o : Obj} (hb : Below X.heap.size X w5) (h : X.heap[b]? = some o) (k : w5.heap[b]? = some o → P) : P := k (box3_later hb h)

theorem cuseo {P : Prop} {w : World} {x : Pl} {a3 : At3} {k n : Int} {a : X} {p : Option Addr} {l cap : Nat} {W : World} (h : KSo w x a3 k n a p l cap W)
    (c : W.cell? ⟨w.heap.size + 1, 0, none⟩ = some (.int .i64 k) → W.cell? ⟨w.heap.size + 1, 1, none⟩ = some (.int .i64 n) → W.cell? ⟨w.heap.size + 1, 2, none⟩ = some (.slice p l cap) →
      (∀ o : Obj, (W.alloc o).cell? ⟨w.heap.size + 1, 0, none⟩ = some (.int .i64 k)) → (∀ o : Obj, (W.alloc o).cell? ⟨w.heap.size + 1, 1, none⟩ = some (.int .i64 n)) → (∀ o : Obj, (W.alloc o).cell? ⟨w.heap.size + 1, 2, none⟩ = some (.slice p l cap)) → P) : P :=
  c (box3_cells h.vars.2.1).1 (box3_cells h.vars.2.1).2.1 (box3_cells h.vars.2.1).2.2 (fun o => (box3_cells (alloc_kept h.vars.2.1 o)).1) (fun o => (box3_cells (alloc_kept h.vars.2.1 o)).2.1) (fun o => (box3_cells (alloc_kept h.vars.2.1 o)).2.2)

/-- where the statement's own copies lie -/
structure OB where
  b8 : Nat
  r8 : Option Addr
  c8 : Nat
  b9 : Nat
  r9 : Option Addr
  c9 : Nat
  b10 : Nat
  r10 : Option Addr
  c10 : Nat
  b11 : Nat
  r11 : Option Addr
  c11 : Nat

/-- what the statement holds behind its copies -/
structure O7 (w : World) (x : Pl) (a3 : At3) (k n : Int) (a args : X) (p : Option Addr) (l cap : Nat) (q : Option Addr) (m cap' : Nat) (o : OB) (W : World) : Prop where
  pb : W.heap[w.heap.size]? = some (a3.box 25)
  tb : W.heap[w.heap.size + 1]? = some (.cells #[.int .i64 k, .int .i64 n, .slice p l cap] 35 (0, 0))
  ab : W.heap[w.heap.size + 1 + 1]? = some (.cells #[.int .i64 0, .int .i64 0, .slice q m cap'] 35 (0, 0))
  wb : W.heap[o.b8]? = some (.cells #[.int .i64 k, .int .i64 n, .slice o.r8 a.len o.c8] 35 (0, 0))
  w8 : IsX W a o.r8 a.len o.c8
  bb : W.heap[o.b9]? = some (.cells #[.int .i64 0, .int .i64 0, .slice o.r9 args.len o.c9] 35 (0, 0))
  w9 : IsX W args o.r9 args.len o.c9
  sb : W.heap[o.b10]? = some (.cells #[.slice o.r10 x.P.len o.c10] 40 (0, 0))
  w10 : IsT W x.P o.r10 x.P.len o.c10
  fb : W.heap[o.b11]? = some (.cells #[.slice o.r11 x.F.len o.c11] 40 (0, 0))
  w11 : IsT W x.F o.r11 x.F.len o.c11
  isP : IsP W x a3
  isX : IsX W a p l cap
  isA : IsX W args q m cap'
  base : Below w.heap.size w W

theorem O7.keep {w : World} {x : Pl} {a3 : At3} {k n : Int} {a args : X} {p : Option Addr} {l cap : Nat} {q : Option Addr} {m cap' : Nat} {o : OB} {W W' : World} (h : O7 w x a3 k n a args p l cap q m cap' o W) (hb : Below W.heap.size W W') : O7 w x a3 k n a args p l cap q m cap' o W' :=
  ⟨box3_later hb h.pb, box3_later hb h.tb, box3_later hb h.ab, box3_later hb h.wb, h.w8.below hb, box3_later hb h.bb, h.w9.below hb, box3_later hb h.sb, h.w10.below hb, box3_later hb h.fb, h.w11.below hb, h.isP.below hb, h.isX.below hb, h.isA.below hb, h.base.trans (hb.mono h.base.size)⟩

/-- from the world behind the copies on -/
structure KO (w : World) (x : Pl) (a3 : At3) (k n : Int) (a : X) (p : Option Addr) (l cap : Nat) (W7 W : World) : Prop where
  ks : KSo w x a3 k n a p l cap W
  bel : Below W7.heap.size W7 W

theorem KO.below {w : World} {x : Pl} {a3 : At3} {k n : Int} {a : X} {p : Option Addr} {l cap : Nat} {W7 W W' : World} (h : KO w x a3 k n a p l cap W7 W) (hb : Below W.heap.size W W') : KO w x a3 k n a p l cap W7 W' := ⟨h.ks.below hb, h.bel.trans (hb.mono h.bel.size)⟩

theorem KO.alloc {w : World} {x : Pl} {a3 : At3} {k n : Int} {a : X} {p : Option Addr} {l cap : Nat} {W7 W : World} (h : KO w x a3 k n a p l cap W7 W) (o : Obj) : KO w x a3 k n a p l cap W7 (W.alloc o) := h.below ((Below.refl _ _).alloc (Nat.le_refl _) _)

theorem KO.drew {w : World} {x : Pl} {a3 : At3} {k n : Int} {a : X} {p : Option Addr} {l cap : Nat} {W7 W : World} (h : KO w x a3 k n a p l cap W7 W) : KO w x a3 k n a p l cap W7 W.drew := h.below (Below.refl _ _).drew

theorem kuseO {P : Prop} {w : World} {x : Pl} {a3 : At3} {k n : Int} {a : X} {p : Option Addr} {l cap : Nat} {W7 W W' : World} (hb : Below W.heap.size W W') (h : KO w x a3 k n a p l cap W7 W) (c : KO w x a3 k n a p l cap W7 W' → P) : P := c (h.below hb)

/-- behind the call of Sort: a variable with a sort of the call's own -/
def CutO (W7 : World) (S : T) (v12 : Value) (W : World) : Prop := ∃ (b : Nat) (q : Option Addr) (c lo hi : Nat), v12 = .pointer (some ⟨b, 0, none⟩) ∧
  W.heap[b]? = some (.cells #[.slice q S.len c] 40 (0, 0)) ∧ Own W S q c lo hi ∧ W7.heap.size ≤ lo ∧ W7.heap.size ≤ b ∧ (b < lo ∨ hi ≤ b) ∧ hi ≤ W.heap.size ∧ Below W7.heap.size W7 W

theorem cutO_new {W7 : World} {S : T} {q : Option Addr} {c lo : Nat} {W : World} (hO : Own W S q c lo W.heap.size) (hlo : W7.heap.size ≤ lo) (h : Below W7.heap.size W7 W) :
    CutO W7 S (.pointer (some ⟨W.heap.size, 0, none⟩)) (W.alloc (.cells #[.slice q S.len c] 40)) :=
  ⟨_, q, c, lo, W.heap.size, rfl, heap_new _ _, hO.keep fun j _ hj => Below.heap_alloc _ _ _ hj, hlo, h.size, Or.inr (Nat.le_refl _), by simp, h.alloc h.size _⟩

theorem cutO_set {W7 : World} {S : T} {q : Option Addr} {c lo b : Nat} {W : World} (hz : W.heap[b]? = some (.cells #[.slice none 0 0] 40 (0, 0))) (hO : Own W S q c lo W.heap.size) (hlo : W7.heap.size ≤ lo) (hlt : b < lo) (hge : W7.heap.size ≤ b) (h : Below W7.heap.size W7 W) :
    CutO W7 S (.pointer (some ⟨b, 0, none⟩)) (W.setCell ⟨b, 0, none⟩ (.slice q S.len c)) :=
  ⟨_, q, c, lo, W.heap.size, rfl, one_setCell hz, hO.set (a := ⟨b, 0, none⟩) hlt _, hlo, hge, Or.inl hlt, by rw [setCell_size]; exact Nat.le_refl _, h.setCell hge _⟩

/-- the cells of a sort's row, from place j on -/
def SCells (g : Nat) (S : T) (j : Nat) (W : World) : Prop := ∀ i, j ≤ i → i < S.len → ∃ (p : Option Addr) (n c : Nat), W.cell? ⟨g, i, none⟩ = some (.slice p n c) ∧ W.frozen? ⟨g, i, none⟩ = false ∧ n ≤ 60

theorem sCells_of {W : World} {S : T} {g c lo hi : Nat} (hv : S.valid = true) (h : Own W S (some ⟨g, 0, none⟩) c lo hi) : SCells g S 0 W := by
  intro i _ hi
  have hT := h.isT
  obtain ⟨_, _, _, h4⟩ := h
  rcases h4 with h0 | ⟨b, us, e, _, _, hr, hk⟩
  · omega
  have eb : g = b := by injection e with e; injection e
  subst eb
  obtain ⟨_, _, _, _, hrow⟩ := hT
  rcases hrow with h0 | ⟨b', off, e2, hrow⟩
  · omega
  have e3 : g = b' ∧ 0 = off := by injection e2 with e2; injection e2 with e2 e3; exact ⟨e2, e3⟩
  obtain ⟨rfl, rfl⟩ := e3
  obtain ⟨p, n, cp, hc, hit⟩ := hrow.at hi
  have hn := hit.1
  have hnode := T.get_nodes S i (T.valid_nodes S hv)
  have hln := (S.get i).len_lt_nodes
  rw [Nat.zero_add] at hc
  refine ⟨p, n, cp, hc, ?_, by omega⟩
  have hlen := hk.length
  have hiu : i < us.length := by omega
  exact (hr i us[i] (List.getElem?_eq_getElem hiu)).2

theorem SCells.step {W W' : World} {g : Nat} {S : T} {j : Nat} (h : SCells g S j W) (hc : ∀ i, i ≠ j → W'.cell? ⟨g, i, none⟩ = W.cell? ⟨g, i, none⟩ ∧ W'.frozen? ⟨g, i, none⟩ = W.frozen? ⟨g, i, none⟩) : SCells g S (j + 1) W' := by
  intro i h1 h2
  obtain ⟨p, n, c, a1, a2, a3⟩ := h i (by omega) h2
  exact ⟨p, n, c, (hc i (by omega)).1.trans a1, (hc i (by omega)).2.trans a2, a3⟩

theorem scells_set {W : World} {g j i : Nat} {v : Value} {o : Obj} (hg : g < W.heap.size) (hij : i ≠ j) :
    ((W.setCell ⟨g, j, none⟩ v).alloc o).drew.cell? ⟨g, i, none⟩ = W.cell? ⟨g, i, none⟩ ∧ ((W.setCell ⟨g, j, none⟩ v).alloc o).drew.frozen? ⟨g, i, none⟩ = W.frozen? ⟨g, i, none⟩ := by
  have hs : g < (W.setCell ⟨g, j, none⟩ v).heap.size := by rw [setCell_size]; exact hg
  refine ⟨(keep_alloc (W.setCell ⟨g, j, none⟩ v) o g i hs).trans (World.cell?_setCell_other _ _ _ _ (fun e => by injection e with _ e2; omega)), ?_⟩
  refine ((bcell ((Below.refl _ (W.setCell ⟨g, j, none⟩ v)).alloc (Nat.le_refl _) o)).2 g i hs).trans ?_
  simp [go_sem]

theorem box_set {W : World} {g j b : Nat} {v : Value} {o x : Obj} (hb : b ≠ g) (h : W.heap[b]? = some x) : ((W.setCell ⟨g, j, none⟩ v).alloc o).drew.heap[b]? = some x :=
  alloc_kept ((Below.heap_setCell _ _ _ _ hb).trans h) o

theorem below_set_alloc {B : Nat} {a W : World} {g j : Nat} (v : Value) (o : Obj) (h : Below B a W) (hB : B ≤ W.heap.size) (hg : B ≤ g) : Below B a ((W.setCell ⟨g, j, none⟩ v).alloc o).drew :=
  ((h.setCell hg v).alloc (by rw [setCell_size]; exact hB) o).drew

set_option maxRecDepth 100000 in
set_option maxHeartbeats 8000000 in
theorem law_own (hal : Alive) (x : Pl) (a3 : At3) (k n : Int) (a args : X) (w : World) (p : Option Addr) (l cap : Nat) (q : Option Addr) (m cap' : Nat) (h : IsP w x a3) (his : IsX w a p l cap) (hia : IsX w args q m cap') (hw : wf64 n) (hwa : WfX a) :
    Calls Try.prog 13 #[.agg #[.slice a3.sp a3.sn a3.sc, .slice a3.fp a3.fn a3.fc, .slice a3.pp a3.pn a3.pc], .agg #[.int .i64 k, .int .i64 n, .slice p l cap], .slice q m cap'] w fun e w' => e = .returned (.bool true) ∧ Below w.heap.size w w' := by
  have HAL := Lib.hid hal
  clear hal
  have V0 := Vars3.start w (a3.box 25) (.cells #[.int .i64 k, .int .i64 n, .slice p l cap] 35) (.cells #[.int .i64 0, .int .i64 0, .slice q m cap'] 35)
  have HNT := Lib.hid (fun W h => tnodes_any (a.sz + 1) a k n W p l cap 1000 (Nat.lt_succ_self _) (by omega) (by omega) h)
  have HNA := Lib.hid (fun W h => tnodes_any (args.sz + 1) args 0 0 W q m cap' 1000 (Nat.lt_succ_self _) (by omega) (by omega) h)
  have HIS := Lib.hid (fun W h => refis_any x a3 W h)
  by_cases c1 : (m : Int) ≤ 20
  case neg =>
    have d1 : decide ((20 : Int) < (m : Int)) = true := by rw [decide_eq_true_eq]; omega
    have d1' : (20 : Int) < (m : Int) := by omega
    go_enter Try.func13, Try.ntmps13
    go_wp2_with fail
    refine (alive_late HAL.out V0.2.2.2).mono ?_
    rintro e w4 ⟨rfl, hb4⟩
    go_wp2_with fail
    go_ret
    exact ⟨rfl, hb4⟩
  case pos =>
    have d1 : ¬ (20 : Int) < (m : Int) := by omega
    obtain ⟨zi, hzi⟩ : ∃ zi : Int, ((min (1 + a.sz) ((1000 : Int).toNat + 1) : Nat) : Int) = zi := ⟨_, rfl⟩
    rw [hzi] at HNT
    obtain ⟨zj, hzj⟩ : ∃ zj : Int, ((min (1 + args.sz) ((1000 : Int).toNat + 1) : Nat) : Int) = zj := ⟨_, rfl⟩
    rw [hzj] at HNA
    have e1000 : ((1000 : Int).toNat) = 1000 := rfl
    rw [e1000] at hzi hzj
    have hsa : decide (1000 < zi) = false → a.sz < 1000 := fun h => by rw [decide_eq_false_iff_not] at h; omega
    have hsr : decide (1000 < zj) = false → args.sz < 1000 := fun h => by rw [decide_eq_false_iff_not] at h; omega
    have HSA := Lib.hid hsa
    have HSR := Lib.hid hsr
    clear hzi hzj e1000 hsa hsr
    go_enter Try.func13, Try.ntmps13
    go_wp2_with fail
    refine (HNT.out _ (((his.alloc _).alloc _).alloc _)).mono ?_
    rintro e w1 ⟨rfl, hb1⟩
    have V1 := V0.below hb1
    obtain ⟨x1, x2, x3⟩ := boxP_cells V1.1
    obtain ⟨t1, t2, t3⟩ := box3_cells V1.2.1
    obtain ⟨u1, u2, u3⟩ := box3_cells V1.2.2.1
    have HV1 := Lib.hid V1
    clear V0 V1 hb1
    cases hd2 : decide (1000 < zi) with
    | true =>
      go_wp2_with fail
      refine (alive_late HAL.out HV1.out.2.2.2).mono ?_
      rintro e w4 ⟨rfl, hb4⟩
      go_wp2_with fail
      go_ret
      exact ⟨rfl, hb4⟩
    | false =>
      have ia1 : IsX w1 args q m cap' := hia.below HV1.out.2.2.2
      go_wp2_with fail
      refine (HNA.out _ ia1).mono ?_
      rintro e w2 ⟨rfl, hb2⟩
      have V2 := HV1.out.below hb2
      have HV2 := Lib.hid V2
      clear x1 x2 x3 t1 t2 t3 u1 u2 u3 ia1
      obtain ⟨x1, x2, x3⟩ := boxP_cells V2.1
      obtain ⟨t1, t2, t3⟩ := box3_cells V2.2.1
      obtain ⟨u1, u2, u3⟩ := box3_cells V2.2.2.1
      clear V2 hb2 HV1
      cases hd3 : decide (1000 < zj) with
      | true =>
        go_wp2_with fail
        refine (alive_late HAL.out HV2.out.2.2.2).mono ?_
        rintro e w4 ⟨rfl, hb4⟩
        go_wp2_with fail
        go_ret
        exact ⟨rfl, hb4⟩
      | false =>
        have ip2 : IsP w2 x a3 := h.below HV2.out.2.2.2
        go_wp2_with fail
        refine (HIS.out _ ip2).mono ?_
        rintro e w3 ⟨rfl, hb3⟩
        have V3 := HV2.out.below hb3
        have HV3 := Lib.hid V3
        clear x1 x2 x3 t1 t2 t3 u1 u2 u3 ip2
        obtain ⟨x1, x2, x3⟩ := boxP_cells V3.1
        obtain ⟨t1, t2, t3⟩ := box3_cells V3.2.1
        obtain ⟨u1, u2, u3⟩ := box3_cells V3.2.2.1
        clear V3 hb3 HV2
        have hs1 := HSA.out hd2
        have hs2 := HSR.out hd3
        clear HSA HSR HNT HNA HIS
        cases hp : plOk x with
        | false =>
          go_wp2_with fail
          refine (alive_late HAL.out HV3.out.2.2.2).mono ?_
          rintro e w4 ⟨rfl, hb4⟩
          go_wp2_with fail
          go_ret
          exact ⟨rfl, hb4⟩
        | true =>
          -- the copies
          have HC8 := Lib.hid (fun W h => tcopy_any (a.sz + 1) a k n W p l cap (Nat.lt_succ_self _) (by omega) h)
          have HC9 := Lib.hid (fun W h => tcopy_any (args.sz + 1) args 0 0 W q m cap' (Nat.lt_succ_self _) (by omega) h)
          obtain ⟨hnF, hnP⟩ := plOk_nodes hp
          have HCP := Lib.hid (fun W h => copyb_any x.P.nodes x.P W a3.pp a3.pn a3.pc (Nat.le_refl _) hnP h)
          have HCF := Lib.hid (fun W h => copyb_any x.F.nodes x.F W a3.fp a3.fn a3.fc (Nat.le_refl _) hnF h)
          clear hnF hnP
          have B3 := HV3.out.2.2.2
          have i3 := his.below B3
          go_wp2_with fail
          refine (HC8.out _ i3).mono ?_
          rintro e w4 ⟨r8, c8, rfl, hO8, hb4⟩
          have V4 := (HV3.out.below hb4).below ((Below.refl _ _).alloc (Nat.le_refl _) (.cells #[.int .i64 k, .int .i64 n, .slice r8 a.len c8] 35))
          have y8 := heap_new w4 (.cells #[.int .i64 k, .int .i64 n, .slice r8 a.len c8] 35)
          have z8 := hO8.isX.alloc (.cells #[.int .i64 k, .int .i64 n, .slice r8 a.len c8] 35)
          clear x1 x2 x3 t1 t2 t3 u1 u2 u3 hb4 hO8 i3 B3 HC8
          obtain ⟨u1, u2, u3⟩ := box3_cells V4.2.2.1
          have i4 := hia.below V4.2.2.2
          have HV4 := Lib.hid V4
          have Y8 := Lib.hid y8
          have Z8 := Lib.hid z8
          clear V4 y8 z8 HV3
          go_wp2_with fail
          refine (HC9.out _ i4).mono ?_
          rintro e w5 ⟨r9, c9, rfl, hO9, hb5⟩
          have b5 := hb5.trans (((Below.refl w5.heap.size w5).alloc (Nat.le_refl _) (.cells #[.int .i64 0, .int .i64 0, .slice r9 args.len c9] 35)).mono hb5.size)
          have V5 := HV4.out.below b5
          have y8 := box3_later b5 Y8.out
          have z8 := Z8.out.below b5
          have y9 := heap_new w5 (.cells #[.int .i64 0, .int .i64 0, .slice r9 args.len c9] 35)
          have z9 := hO9.isX.alloc (.cells #[.int .i64 0, .int .i64 0, .slice r9 args.len c9] 35)
          clear u1 u2 u3 hb5 hO9 i4 b5 HC9 Y8 Z8 HV4
          obtain ⟨x1, x2, x3⟩ := boxP_cells V5.1
          have ip5 : IsT _ x.P a3.pp a3.pn a3.pc := (h.below V5.2.2.2).2.2
          have HV5 := Lib.hid V5
          have Y8 := Lib.hid y8
          have Z8 := Lib.hid z8
          have Y9 := Lib.hid y9
          have Z9 := Lib.hid z9
          clear V5 y8 z8 y9 z9
          go_wp2_with fail
          refine (HCP.out _ ip5).mono ?_
          rintro e w6 ⟨r10, c10, rfl, hO10, hb6⟩
          have b6 := hb6.trans (((Below.refl w6.heap.size w6).alloc (Nat.le_refl _) (.cells #[.slice r10 x.P.len c10] 40)).mono hb6.size)
          have V6 := HV5.out.below b6
          have y8 := box3_later b6 Y8.out
          have z8 := Z8.out.below b6
          have y9 := box3_later b6 Y9.out
          have z9 := Z9.out.below b6
          have y10 := heap_new w6 (.cells #[.slice r10 x.P.len c10] 40)
          have z10 := hO10.isT.alloc (.cells #[.slice r10 x.P.len c10] 40)
          clear x1 x2 x3 hb6 hO10 ip5 b6 HCP Y8 Z8 Y9 Z9 HV5
          obtain ⟨x1, x2, x3⟩ := boxP_cells V6.1
          have if6 : IsT _ x.F a3.fp a3.fn a3.fc := (h.below V6.2.2.2).2.1
          have HV6 := Lib.hid V6
          have Y8 := Lib.hid y8
          have Z8 := Lib.hid z8
          have Y9 := Lib.hid y9
          have Z9 := Lib.hid z9
          have Y10 := Lib.hid y10
          have Z10 := Lib.hid z10
          clear V6 y8 z8 y9 z9 y10 z10
          go_wp2_with fail
          refine (HCF.out _ if6).mono ?_
          rintro e w7 ⟨r11, c11, rfl, hO11, hb7⟩
          have b7 := hb7.trans (((Below.refl w7.heap.size w7).alloc (Nat.le_refl _) (.cells #[.slice r11 x.F.len c11] 40)).mono hb7.size)
          have V7 := HV6.out.below b7
          have h7 : O7 w x a3 k n a args p l cap q m cap' ⟨w4.heap.size, r8, c8, w5.heap.size, r9, c9, w6.heap.size, r10, c10, w7.heap.size, r11, c11⟩ (w7.alloc (.cells #[.slice r11 x.F.len c11] 40)) :=
            ⟨V7.1, V7.2.1, V7.2.2.1, box3_later b7 Y8.out, Z8.out.below b7, box3_later b7 Y9.out, Z9.out.below b7, box3_later b7 Y10.out, Z10.out.below b7, heap_new _ _, hO11.isT.alloc _, h.below V7.2.2.2, his.below V7.2.2.2, hia.below V7.2.2.2, V7.2.2.2⟩
          have H7 := Lib.hid h7
          clear x1 x2 x3 hb7 hO11 if6 b7 HCF Y8 Z8 Y9 Z9 Y10 Z10 HV6 V7 h7
          go_upto_region 8 with fail
          obtain ⟨W7, hW7⟩ : ∃ W7, w7.alloc (.cells #[.slice r11 x.F.len c11] 40) = W7 := ⟨_, rfl⟩
          rw [hW7] at H7 ⊢
          clear hW7
          generalize w7.heap.size = b11 at H7 ⊢
          generalize w6.heap.size = b10 at H7 ⊢
          generalize w5.heap.size = b9 at H7 ⊢
          generalize w4.heap.size = b8 at H7 ⊢
          obtain ⟨E, S, hres⟩ : ∃ E S, sortRes x k n a = (E, S) := ⟨_, _, rfl⟩
          have hSv := sortRes_valid hres
          have HP := Lib.hid (fun W h h' => sort_any x a3 k n a W p l cap h h' E S hres)
          have HG := Lib.hid (fun W => given_any a3 W)
          have HSV := Lib.hid hSv
          clear hres hSv
          go_cut [12] from 19 to 126 (fun v12 wx => CutO W7 S v12 wx)
          case first =>
            have K0 : KO w x a3 k n a p l cap W7 W7 := ⟨⟨⟨H7.out.pb, H7.out.tb, H7.out.base⟩, H7.out.isP, H7.out.isX⟩, Below.refl _ _⟩
            obtain ⟨x1, x2, x3⟩ := boxP_cells H7.out.pb
            obtain ⟨t1, t2, t3⟩ := box3_cells H7.out.tb
            have x4 := fun o : Obj => (boxP_cells (alloc_kept H7.out.pb o)).1
            have x5 := fun o : Obj => (boxP_cells (alloc_kept H7.out.pb o)).2.1
            have x6 := fun o : Obj => (boxP_cells (alloc_kept H7.out.pb o)).2.2
            have t4 := fun o : Obj => (box3_cells (alloc_kept H7.out.tb o)).1
            have t5 := fun o : Obj => (box3_cells (alloc_kept H7.out.tb o)).2.1
            have t6 := fun o : Obj => (box3_cells (alloc_kept H7.out.tb o)).2.2
            go_region_with (first
              | (go_at_call 15; refine (HG.out _).mono ?_; rintro e w3' ⟨rfl, hb3⟩; refine kuseO (w := w) (x := x) (a3 := a3) (k := k) (n := n) (a := a) (p := p) (l := l) (cap := cap) (W7 := W7) hb3 ?_ ?_; (repeat (first | exact K0 | refine KO.drew ?_ | refine KO.alloc ?_ _)); intro K3; refine cuseo K3.ks ?_; intro s1 s2 s3 s4 s5 s6;
                  first
                  | (refine use_kept (b := W7.heap.size) (o := .cells #[.slice none 0 0] 40) hb3 ?_ ?_; (repeat (first | (refine heap_new_eq ?_; (solve | with_reducible rfl | simp only [World.size_alloc])) | refine alloc_kept ?_ _)); intro hz6; have g1 := cell_box hz6; have g2 := free_of_one hz6)
                  | (have hz6 := True.intro))
              | (go_at_call 22; refine Calls.mono (HP.out _ ?_ ?_) ?_; (repeat (first | exact K3.ks.isP | refine isP_drew ?_ | refine IsP.alloc ?_ _)); (repeat (first | exact K3.ks.isX | refine IsX.drew ?_ | refine IsX.alloc ?_ _)); rintro e w4' ⟨q12, c12, rfl, hO4, hb4⟩; refine kuseO (w := w) (x := x) (a3 := a3) (k := k) (n := n) (a := a) (p := p) (l := l) (cap := cap) (W7 := W7) hb4 ?_ ?_; (repeat (first | exact K3 | refine KO.drew ?_ | refine KO.alloc ?_ _)); intro K4;
                  first
                  | (refine use_kept2o (b := w3'.heap.size) (o := .cells #[.slice none 0 0] 40) hb4 ?_ ?_; (repeat (first | (refine heap_new_eq ?_; (solve | with_reducible rfl | simp only [World.size_alloc])) | refine alloc_kept ?_ _)); intro hz7; have g3 := cell_box hz7; have g4 := free_of_one hz7)
                  | (refine use_kept2o (b := W7.heap.size) (o := .cells #[.slice none 0 0] 40) hb4 ?_ ?_; exact hz6; intro hz7; have g3 := cell_box hz7; have g4 := free_of_one hz7)
                  | (have hz7 := True.intro)))
            all_goals
              go_wp2_with fail
              go_meet
              case rel =>
                first
                | exact cutO_new hO4 K3.bel.size K4.bel
                | exact cutO_set hz7 hO4 K3.bel.size (lt_of_block hz6) (Nat.le_refl _) K4.bel
                | exact cutO_set hz7 hO4 (by have := K3.bel.size; simp only [World.size_alloc]; omega) (by simp) K3.bel.size K4.bel
          case rest =>
            obtain ⟨b12, q12, c12, lo, hi, rfl, s12, hO, hlo, hb12, hbd, hhi, B8⟩ := hcut
            clear HP HG
            have hg : S.len = 0 ∨ ∃ g, q12 = some ⟨g, 0, none⟩ ∧ W7.heap.size ≤ g ∧ g ≠ b12 := by
              obtain ⟨_, _, _, h4⟩ := id hO
              rcases h4 with h0 | ⟨g, us, e, g1, g2, _, _⟩
              · exact Or.inl h0
              · exact Or.inr ⟨g, e, by omega, by omega⟩
            have hsc : ∀ g, q12 = some ⟨g, 0, none⟩ → SCells g S 0 wc := fun g e => by subst e; exact sCells_of HSV.out hO
            have hcm : S.len ≤ c12 ∧ c12 ≤ 9223372036854775807 := ⟨hO.1, by have := hO.2.1; unfold maxLen at this; omega⟩
            have hSl : S.len ≤ 60 := by have h1 := T.valid_nodes S HSV.out; have h2 := S.len_lt_nodes; omega
            have HSC := Lib.hid hsc
            have HS12 := Lib.hid s12
            have HB8 := Lib.hid B8
            have k12 := cell_of_one s12
            obtain ⟨hcm1, hcm2⟩ := hcm
            clear hO hsc s12 B8 hbd hhi
            go_wp2_with fail
            clear k12
            go_loopw [62] (fun v wr => ∃ j : Nat, j ≤ S.len ∧ v = .int .i64 (j : Int) ∧ (∀ g, q12 = some ⟨g, 0, none⟩ → SCells g S j wr) ∧ wr.heap[b12]? = some (.cells #[.slice q12 S.len c12] 40 (0, 0)) ∧ Below W7.heap.size W7 wr)
              (fun v _ => S.len - (Go.RowKit.intOf v).toNat)
            case atStart => exact ⟨0, Nat.zero_le _, rfl, HSC.out, HS12.out, HB8.out⟩
            case round =>
              clear HSC HS12 HB8
              obtain ⟨j, hj, rfl, hsc, hs12, hB⟩ := hrel
              have k12 := cell_of_one hs12
              have HSC := Lib.hid hsc
              have HS12 := Lib.hid hs12
              have HB := Lib.hid hB
              clear hsc hs12 hB
              by_cases hlt : j < S.len
              · rcases hg with h0 | ⟨g, rfl, hg7, hgb⟩
                · omega
                obtain ⟨p', n', c', hcell, hfr, hn60⟩ := HSC.out g rfl j (Nat.le_refl _) hlt
                have hmk : ∀ w, (Instr.makeSlice 23 (.int .i64 ((n' : Int) + 1)) (.int .i64 ((n' : Int) + 1))).run Try.prog w = .ok (.slice (some ⟨w.heap.size, 0, none⟩) (n' + 1) (n' + 1)) (w.alloc (.cells (madeCells #[.slice none 0 0] (n' + 1)) 40)) := fun w => by
                  rw [show ((n' : Int) + 1) = ((n' + 1 : Nat) : Int) by omega]; exact run_make_sorts2 (n' + 1) (by omega) w
                have hgl := lt_of_cell hcell
                go_wp2_with fail
                have hsc2 : SCells g S j wr := HSC.out g rfl
                have hs2 : wr.heap[b12]? = some (.cells #[.slice (some ⟨g, 0, none⟩) S.len c12] 40 (0, 0)) := HS12.out
                have hB2 : Below W7.heap.size W7 wr := HB.out
                have k12' : wr.cell? ⟨b12, 0, none⟩ = some (.slice (some ⟨g, 0, none⟩) S.len c12) := k12
                have hcell' : wr.cell? ⟨g, j, none⟩ = some (.slice p' n' c') := hcell
                have hfr' : wr.frozen? ⟨g, j, none⟩ = false := hfr
                have hgl' : g < wr.heap.size := hgl
                clear HSC HS12 HB k12 hcell hfr hgl
                generalize wr = W2 at hsc2 hs2 hB2 k12' hcell' hfr' hgl' ⊢
                have hbl := lt_of_block hs2
                have HSC := Lib.hid hsc2
                have HS12 := Lib.hid hs2
                have HB := Lib.hid hB2
                clear hsc2 hs2 hB2
                have hmk2 := hmk W2.drew
                go_region
                all_goals go_wp2_with fail
                all_goals
                  go_roundw
                  case rel => exact ⟨j + 1, by omega, by go_num, fun g' e => (by have eg : g = g' := (by injection e with e; injection e); subst eg; exact HSC.out.step fun i hij => scells_set hgl' hij), box_set (fun e => hgb e.symm) HS12.out, below_set_alloc _ _ HB.out HB.out.size hg7⟩
                  case measure => simp [Go.RowKit.intOf]; omega
              · clear HSC HS12 HSV
                have hia1 : args.len ≤ 17592186044416 := by rw [← hia.1]; omega
                obtain ⟨fE, fL, hfr⟩ : ∃ fE fL, freeRes k n a = (fE, fL) := ⟨_, _, rfl⟩
                obtain ⟨uE, uK, uN, uA, hsu⟩ : ∃ uE uK uN uA, subRes args k n a = (uE, uK, uN, uA) := ⟨_, _, _, _, rfl⟩
                obtain ⟨vE, vK, vN, vA, hap⟩ : ∃ vE vK vN vA, appRes args k n a = (vE, vK, vN, vA) := ⟨_, _, _, _, rfl⟩
                have hus := subRes_sz hsu
                have hvs := appRes_sz hap
                have HFR := Lib.hid (fun W h => tfree_any k n a W p l cap h hw hwa fE fL hfr)
                have HSI := Lib.hid (fun W h => tsize_any a k n W p l cap h)
                have HSU := Lib.hid (fun W h h' => subst_any args a k n W p q l cap m cap' h h' hia1 uE uK uN uA hsu)
                have HAP := Lib.hid (fun W h h' => apply_any args a k n W p q l cap m cap' h h' vE vK vN vA hap)
                have HTU := Lib.hid (fun W r c lo hi h => turn_any (uA.sz + 1) uA W r c lo hi (Nat.lt_succ_self _) hus h)
                have HTV := Lib.hid (fun W r c lo hi h => turn_any (vA.sz + 1) vA W r c lo hi (Nat.lt_succ_self _) hvs h)
                have e1 : X.eq1 k n a k n a = true := by unfold X.eq1; simp [X.eqX_refl]
                have e2 : X.eq1 0 0 args 0 0 args = true := by unfold X.eq1; simp [X.eqX_refl]
                have HE1 := Lib.hid (fun W p' q' l' c' m' d' h h' => trefequal_any (a.sz + 1) a a k n k n W p' q' l' c' m' d' (Nat.lt_succ_self _) h h')
                have HE2 := Lib.hid (fun W p' q' l' c' m' d' h h' => trefequal_any (args.sz + 1) args args 0 0 0 0 W p' q' l' c' m' d' (Nat.lt_succ_self _) h h')
                have HE3 := Lib.hid (fun W p' q' l' c' m' d' h h' => refequal_any x.P.nodes x.P x.P W p' q' l' c' m' d' (Nat.le_refl _) h h')
                have HE4 := Lib.hid (fun W p' q' l' c' m' d' h h' => refequal_any x.F.nodes x.F x.F W p' q' l' c' m' d' (Nat.le_refl _) h h')
                rw [e1] at HE1
                rw [e2] at HE2
                rw [T.eqT_refl] at HE3 HE4
                clear e1 e2 hus hvs hfr hsu hap hia1 hw hwa hg hs1 hs2
                have hX := H7.out.keep HB.out
                obtain ⟨x1, x2, x3⟩ := box3_cells hX.tb
                have ix := hX.isX
                clear hX
                go_wp2_with fail
                refine (HFR.out _ ix).mono ?_
                rintro e W1 ⟨_, _, rfl, _, hb1⟩
                have B1 := HB.out.trans (hb1.mono HB.out.size)
                have hX := H7.out.keep B1
                clear x1 x2 x3 ix hb1 HB HFR
                obtain ⟨x1, x2, x3⟩ := box3_cells hX.tb
                have ix := hX.isX
                have HB := Lib.hid B1
                clear hX B1
                go_wp2_with fail
                refine (HSI.out _ ix).mono ?_
                rintro e W2 ⟨rfl, hb1⟩
                have B1 := HB.out.trans (hb1.mono HB.out.size)
                have hX := H7.out.keep B1
                clear x1 x2 x3 ix hb1 HB HSI
                obtain ⟨x1, x2, x3⟩ := box3_cells hX.tb
                have ix := hX.isX
                have ia := hX.isA
                have HB := Lib.hid B1
                clear hX B1
                go_wp2_with fail
                refine (HSU.out _ ix ia).mono ?_
                rintro e W3 ⟨r, c, rfl, hO, hb1⟩
                have B1 := HB.out.trans (hb1.mono HB.out.size)
                have B2 := B1.alloc B1.size (.cells #[.int .i64 uK, .int .i64 uN, .slice r uA.len c] 35)
                have hOk := hO.keep fun j _ hj => Below.heap_alloc W3 (.cells #[.int .i64 uK, .int .i64 uN, .slice r uA.len c] 35) j hj
                have hlo := HB.out.size
                obtain ⟨y1, y2, y3⟩ := box3_cells (heap_new W3 (.cells #[.int .i64 uK, .int .i64 uN, .slice r uA.len c] 35))
                have HO := Lib.hid hOk
                clear x1 x2 x3 ix ia hb1 HB HSU hO hOk B1
                have HB := Lib.hid B2
                have HLO := Lib.hid hlo
                clear B2 hlo
                go_wp2_with fail
                refine (HTU.out _ _ _ _ _ HO.out).mono ?_
                rintro e W4 ⟨rfl, ht⟩
                have B1 := HB.out.trans (ht.below.mono HLO.out)
                have hX := H7.out.keep B1
                clear y1 y2 y3 ht HB HTU HO HLO
                obtain ⟨x1, x2, x3⟩ := box3_cells hX.tb
                have ix := hX.isX
                have ia := hX.isA
                have HB := Lib.hid B1
                clear hX B1
                go_wp2_with fail
                refine (HAP.out _ ix ia).mono ?_
                rintro e W5 ⟨r, c, rfl, hO, hb1⟩
                have B1 := HB.out.trans (hb1.mono HB.out.size)
                have B2 := B1.alloc B1.size (.cells #[.int .i64 vK, .int .i64 vN, .slice r vA.len c] 35)
                have hOk := hO.keep fun j _ hj => Below.heap_alloc W5 (.cells #[.int .i64 vK, .int .i64 vN, .slice r vA.len c] 35) j hj
                have hlo := HB.out.size
                obtain ⟨y1, y2, y3⟩ := box3_cells (heap_new W5 (.cells #[.int .i64 vK, .int .i64 vN, .slice r vA.len c] 35))
                have HO := Lib.hid hOk
                clear x1 x2 x3 ix ia hb1 HB HAP hO hOk B1
                have HB := Lib.hid B2
                have HLO := Lib.hid hlo
                clear B2 hlo
                go_wp2_with fail
                refine (HTV.out _ _ _ _ _ HO.out).mono ?_
                rintro e W6 ⟨rfl, ht⟩
                have B1 := HB.out.trans (ht.below.mono HLO.out)
                have hX := H7.out.keep B1
                clear y1 y2 y3 ht HB HTV HO HLO
                have HB := Lib.hid B1
                have HX := Lib.hid hX
                clear B1 hX
                obtain ⟨x1, x2, x3⟩ := box3_cells HX.out.tb
                obtain ⟨y1, y2, y3⟩ := box3_cells HX.out.wb
                go_wp2_with fail
                refine (HE1.out _ _ _ _ _ _ _ HX.out.isX HX.out.w8).mono ?_
                rintro e W8 ⟨rfl, hb1⟩
                have B1 := HB.out.trans (hb1.mono HB.out.size)
                have hX := H7.out.keep B1
                clear x1 x2 x3 y1 y2 y3 hb1 HB HX HE1
                have HB := Lib.hid B1
                have HX := Lib.hid hX
                clear B1 hX
                obtain ⟨x1, x2, x3⟩ := box3_cells HX.out.ab
                obtain ⟨y1, y2, y3⟩ := box3_cells HX.out.bb
                go_wp2_with fail
                refine (HE2.out _ _ _ _ _ _ _ HX.out.isA HX.out.w9).mono ?_
                rintro e W9 ⟨rfl, hb1⟩
                have B1 := HB.out.trans (hb1.mono HB.out.size)
                have hX := H7.out.keep B1
                clear x1 x2 x3 y1 y2 y3 hb1 HB HX HE2
                have HB := Lib.hid B1
                have HX := Lib.hid hX
                clear B1 hX
                obtain ⟨x1, x2, x3⟩ := boxP_cells HX.out.pb
                have y1 := cell_of_one HX.out.sb
                go_wp2_with fail
                refine (HE3.out _ _ _ _ _ _ _ HX.out.isP.2.2 HX.out.w10).mono ?_
                rintro e W10 ⟨rfl, hb1⟩
                have B1 := HB.out.trans (hb1.mono HB.out.size)
                have hX := H7.out.keep B1
                clear x1 x2 x3 y1 hb1 HB HX HE3
                have HB := Lib.hid B1
                have HX := Lib.hid hX
                clear B1 hX
                obtain ⟨x1, x2, x3⟩ := boxP_cells HX.out.pb
                have y1 := cell_of_one HX.out.fb
                go_wp2_with fail
                refine (HE4.out _ _ _ _ _ _ _ HX.out.isP.2.1 HX.out.w11).mono ?_
                rintro e W11 ⟨rfl, hb1⟩
                have B1 := HB.out.trans (hb1.mono HB.out.size)
                have hX := H7.out.keep B1
                clear x1 x2 x3 y1 hb1 HB HX HE4
                have B2 := hX.base
                clear hX B1
                go_wp2_with fail
                refine (alive_late HAL.out B2).mono ?_
                rintro e w4 ⟨rfl, hb4⟩
                go_wp2_with fail
                go_ret
                exact ⟨rfl, hb4⟩

end Go.Proofs.Ytlgfaobbjnhfoaa
