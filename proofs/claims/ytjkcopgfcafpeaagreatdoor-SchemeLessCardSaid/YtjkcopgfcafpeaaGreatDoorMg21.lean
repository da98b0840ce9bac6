/-
  Parts of one proof, laid into one text: SWalkB, SMem2, SWalkC, SMem3, SWalkD, SWalkE, SWalkF. Conditions: each part names its own.
-/
import Derived.Test.YtjkcopgfcafpeaaGreatDoorMg20
import Derived.Test.YtjkcopgfcafpeaaGreatDoorMg05

/-
  The walk of fits: may a term be the body of a function in a place. Conditions: none but that they lie in memory.
-/
set_option linter.unusedSimpArgs false
set_option linter.unusedVariables false
namespace Go.Proofs.YtjkcopgfcafpeaaGreatDoor
open Go.RowKit

def fitsB (x : Pl) (k n : Int) (a : X) : Bool := !decide (400 < a.szN) && !decide (30 < a.szD) && (decide ((sortRes x k n a).1 = 0) && decide ((sortRes x k n a).2.len = 0))

set_option maxRecDepth 100000 in
set_option maxHeartbeats 2000000 in
theorem fits_any (x : Pl) (a3 : At3) (k n : Int) (a : X) (w : World) (p : Option Addr) (l cap : Nat) (h : IsP w x a3) (his : IsX w a p l cap) :
    Calls Tryz.prog 40 #[.agg #[.slice a3.sp a3.sn a3.sc, .slice a3.fp a3.fn a3.fc, .slice a3.pp a3.pn a3.pc], .agg #[.int .i64 k, .int .i64 n, .slice p l cap]] w fun e w' => e = .returned (.bool (fitsB x k n a)) ∧ Below w.heap.size w w' := by
  obtain ⟨E, S, hres⟩ : ∃ E S, sortRes x k n a = (E, S) := ⟨_, _, rfl⟩
  have HS := Lib.hid (fun W h h' => sort_any x a3 k n a W p l cap h h' E S hres)
  have HZ := Lib.hid (fun W h => tsize_any a k n W p l cap h)
  have hb : fitsB x k n a = (!decide (400 < a.szN) && !decide (30 < a.szD) && (decide (E = 0) && decide (S.len = 0))) := by unfold fitsB; rw [hres]
  rw [hb]
  clear hb hres
  generalize a.szN = z1 at HZ ⊢
  generalize a.szD = z2 at HZ ⊢
  have V0 := Vars2.start w (a3.box 45) (.cells #[.int .i64 k, .int .i64 n, .slice p l cap] 50)
  go_enter Tryz.func40, Tryz.ntmps40
  go_wp2_with fail
  refine (HZ.out _ ((his.alloc _).alloc _)).mono ?_
  rintro e w1 ⟨rfl, hb1⟩
  have V1 := V0.below hb1
  obtain ⟨x1, x2, x3⟩ := boxP_cells V1.1
  obtain ⟨t1, t2, t3⟩ := box3_cells V1.2.1
  have HV := Lib.hid V1
  clear V0 V1 hb1 HZ
  cases c1 : decide (400 < z1) with
  | true =>
    go_wp2_with fail
    go_ret
    exact ⟨ret_bool (by rw [c1]; rfl), HV.out.2.2⟩
  | false =>
    cases c2 : decide (30 < z2) with
    | true =>
      go_wp2_with fail
      go_ret
      exact ⟨ret_bool (by rw [c1, c2]; rfl), HV.out.2.2⟩
    | false =>
      have ip := h.below HV.out.2.2
      have ix := his.below HV.out.2.2
      go_wp2_with fail
      refine (HS.out _ ip ix).mono ?_
      rintro e w2 ⟨q, c, rfl, hO, hb2⟩
      have B1 := HV.out.2.2
      have B2 := B1.trans (hb2.mono B1.size)
      have B3 := B2.alloc B2.size (.cells #[.slice q S.len c] 47)
      have y := cell_of_one (heap_new w2 (.cells #[.slice q S.len c] 47))
      have HB := Lib.hid B3
      clear hO hb2 B1 B2 B3 ip ix x1 x2 x3 t1 t2 t3 HS
      by_cases e0 : E = 0
      · subst e0
        go_wp2_with fail
        go_ret
        exact ⟨ret_bool (by rw [Bool.eq_iff_iff, beq_iff_eq, decide_eq_true_eq]; omega), HB.out⟩
      · have hd : (E == 0) = false := by simpa using e0
        go_wp2_with fail
        go_ret
        exact ⟨ret_bool (by rw [c1, c2]; simp [e0]), HB.out⟩

end Go.Proofs.YtjkcopgfcafpeaaGreatDoor

/-
  The sorts of a scheme's functions, collected by a call; what Check answers. Conditions: none.
-/
set_option linter.unusedSimpArgs false
set_option linter.unusedVariables false
namespace Go.Proofs.YtjkcopgfcafpeaaGreatDoor
open Go.RowKit

/-- the sorts of m functions from function i on -/
def stsF (F : Fu) : Nat → Nat → T
  | _, 0 => .nil
  | i, m + 1 => .cons (F.st i) (stsF F (i + 1) m)

theorem stsF_len (F : Fu) (m : Nat) : ∀ i, (stsF F i m).len = m := by
  induction m with
  | zero => intro i; rfl
  | succ m ih => intro i; simp [stsF, T.len, ih]

theorem stsF_get (F : Fu) (m : Nat) : ∀ i j, j < m → (stsF F i m).get j = F.st (i + j) := by
  induction m with
  | zero => intro i j h; omega
  | succ m ih =>
    intro i j h
    cases j with
    | zero => rfl
    | succ j =>
      show (stsF F (i + 1) m).get j = _
      rw [ih (i + 1) j (by omega)]
      congr 1
      omega

theorem row_mk2 {W : World} {t : T} : ∀ {b off : Nat}, (∀ i, i < t.len → ∃ p n cap, W.cell? ⟨b, off + i, none⟩ = some (.slice p n cap) ∧ IsT W (t.get i) p n cap) → Proofs.YtjkcopgfcafpeaaGreatDoor.Row W t b off := by
  induction t with
  | nil => intros; trivial
  | cons h t ihh iht =>
    intro b off hc
    obtain ⟨p, n, cap, h1, h2, h3, h4, h5, h6⟩ := hc 0 (by simp [T.len])
    simp only [T.get] at h2 h6
    subst h2
    refine ⟨⟨p, cap, h1, h3, h4, h5, h6⟩, iht fun i hi => ?_⟩
    have := hc (i + 1) (by simp only [T.len]; omega)
    rw [show off + 1 + i = off + (i + 1) by omega]
    exact this

/-- a row of the call's own whose entries are the functions' sorts is a list of these -/
theorem isT_sts {wr : World} {F : Fu} {B j c : Nat} {q : Option Addr} {vs : List Value} (hown : wr.ownsRow B 47 1 (.slice q j c) j vs)
    (hv : ∀ i, i < j → ∃ p n d, vs[i]? = some (.slice p n d) ∧ IsT wr (F.st i) p n d) : IsT wr (stsF F 0 j) q j c := by
  obtain ⟨hx, hown'⟩ := id hown
  refine ⟨(stsF_len F j 0).symm, ?_⟩
  rcases hown' with ⟨h, h0⟩ | ⟨g, cap, cur, h, hbg, hg, hnc, hcm, hcs, htake⟩
  · injection h with h1 h2 h3
    subst h1 h2 h3
    exact ⟨Nat.le_refl _, by simp [maxLen], fun _ => rfl, Or.inl rfl⟩
  · injection h with h1 h2 h3
    subst h1 h3
    refine ⟨hnc, hcm, fun e => by simp at e, ?_⟩
    by_cases h0 : j = 0
    · exact Or.inl h0
    · refine Or.inr ⟨g, 0, rfl, row_mk2 fun i hi => ?_⟩
      rw [stsF_len] at hi
      obtain ⟨p, n, d, h1, h2⟩ := hv i hi
      refine ⟨p, n, d, ?_, by rw [stsF_get F j 0 i hi, Nat.zero_add]; exact h2⟩
      rw [Nat.zero_add, hown.cellAt i (by omega)]
      exact h1

/-- the place of the bodies, for a function with these parameters -/
def Sc.pl (x : Sc) (P : T) : Pl := ⟨x.S, stsF x.F 0 x.F.len, P⟩

def bodyOk (x : Sc) (i : Nat) : Bool := fitsB (x.pl (x.F.st i)) (x.F.bk i) (x.F.bn i) (x.F.bt i)

/-- the bodies of m functions from function i on may be such -/
def bodiesOk (x : Sc) : Nat → Nat → Bool
  | _, 0 => true
  | i, m + 1 => bodyOk x i && bodiesOk x (i + 1) m

/-- is this a scheme? -/
def scOk (x : Sc) : Bool := !decide (x.F.len = 0) && !decide (64 < x.F.len) && distF x.F && !decide (0 < (x.F.st 0).len) && plOk (x.pl .nil) && bodiesOk x 0 x.F.len

def scE (x : Sc) : Int := if scOk x = true then 0 else 7

end Go.Proofs.YtjkcopgfcafpeaaGreatDoor

/-
  The walk of Check where it ends before its loops. Conditions: none but that the scheme lies in memory.
-/
set_option linter.unusedSimpArgs false
set_option linter.unusedVariables false
namespace Go.Proofs.YtjkcopgfcafpeaaGreatDoor
open Go.RowKit

theorem at_zero {w : World} {F : Fu} {p : Option Addr} {n c : Nat} (h : IsF w F p n c) (h0 : F.len ≠ 0) :
    ∃ b off p0 n0 c0, p = some ⟨b, off, none⟩ ∧ w.cell? ⟨b, off + 1, none⟩ = some (.slice p0 n0 c0) ∧ n0 = (F.st 0).len := by
  obtain ⟨hn, _, _, _, hrow⟩ := h
  rcases hrow with h1 | ⟨b, off, e, hr⟩
  · omega
  · obtain ⟨p0, n0, c0, _, _, _, _, g2, _, _, _, g6, _⟩ := hr 0 (by omega)
    exact ⟨b, off, p0, n0, c0, e, by simpa using g2, g6.1⟩

theorem two_cells {W : World} {b : Nat} {u v : Value} {ty : TypeId} (h : W.heap[b]? = some (.cells #[u, v] ty (0, 0))) : W.cell? ⟨b, 0, none⟩ = some u ∧ W.cell? ⟨b, 1, none⟩ = some v := by
  refine ⟨?_, ?_⟩ <;> simp [World.cell?, h]

set_option maxRecDepth 100000 in
set_option maxHeartbeats 2000000 in
theorem scheck_early (x : Sc) (a : At2) (w : World) (h : IsC w x a) (hno : (!decide (x.F.len = 0) && !decide (64 < x.F.len) && distF x.F && !decide (0 < (x.F.st 0).len)) = false) :
    Calls Tryz.prog 14 #[.agg #[.slice a.sp a.sn a.sc, .slice a.fp a.fn a.fc]] w fun e w' => e = .returned (.int .i64 7) ∧ Below w.heap.size w w' := by
  obtain ⟨sp, sn, sc, fp, fn, fc⟩ := a
  obtain ⟨hS, hF⟩ := id h
  dsimp only at hS hF ⊢
  obtain rfl : fn = x.F.len := hF.1
  have hbx := heap_new w (.cells #[.slice sp sn sc, .slice fp x.F.len fc] 25)
  have B0 : Below w.heap.size w (w.alloc (.cells #[.slice sp sn sc, .slice fp x.F.len fc] 25)) := (Below.refl _ _).alloc (Nat.le_refl _) _
  obtain ⟨s1, s2⟩ := two_cells hbx
  have HX := Lib.hid hbx
  have HB := Lib.hid B0
  clear B0 hbx h hS
  by_cases c0 : x.F.len = 0
  · have hd : ((x.F.len : Int) == 0) = true := by simp; omega
    clear hno hF c0
    go_enter Tryz.func14, Tryz.ntmps14
    go_wp2_with fail
    go_ret
    exact ⟨rfl, HB.out⟩
  · have hd : ((x.F.len : Int) == 0) = false := by simp; omega
    by_cases c1 : 64 < x.F.len
    · have hd2 : decide ((64 : Int) < (x.F.len : Int)) = true := by rw [decide_eq_true_eq]; omega
      clear hno hF c1 c0
      go_enter Tryz.func14, Tryz.ntmps14
      go_wp2_with fail
      go_ret
      exact ⟨rfl, HB.out⟩
    · have hd2 : decide ((64 : Int) < (x.F.len : Int)) = false := by rw [decide_eq_false_iff_not]; omega
      have HDI := Lib.hid (fun W h => distinct_any x.F W fp x.F.len fc h (by omega))
      obtain ⟨d, hdd⟩ : ∃ d, distF x.F = d := ⟨_, rfl⟩
      rw [hdd] at HDI hno
      clear hdd
      obtain ⟨b, off, p0, n0, c0', rfl, g2, en⟩ := at_zero hF c0
      have hnn : d = false ∨ (0 < n0) := by
        cases d
        · exact Or.inl rfl
        · right
          rw [en]
          simp [c0, c1] at hno
          omega
      have HF := Lib.hid hF
      have hk := Lib.hid g2
      have hlen : 0 < x.F.len := by omega
      have hlen2 : (0 : Int) < (x.F.len : Int) := by omega
      clear hno hF g2 en c0 c1
      generalize x.F.len = m at hd hd2 s1 s2 HX HB HDI HF hlen hlen2 ⊢
      cases d with
      | false =>
        go_enter Tryz.func14, Tryz.ntmps14
        go_wp2_with fail
        refine (HDI.out _ (HF.out.alloc _)).mono ?_
        rintro e w1 ⟨rfl, hb1⟩
        go_wp2_with fail
        go_ret
        exact ⟨rfl, below_call hb1⟩
      | true =>
        have hp : 0 < n0 := by rcases hnn with h | h; cases h; exact h
        have hd3 : decide ((0 : Int) < (n0 : Int)) = true := by rw [decide_eq_true_eq]; omega
        clear hnn
        go_enter Tryz.func14, Tryz.ntmps14
        go_wp2_with fail
        refine (HDI.out _ (HF.out.alloc _)).mono ?_
        rintro e w1 ⟨rfl, hb1⟩
        have B1 := below_call hb1
        have hb2 := box3_later hb1 HX.out
        have s4 := (two_cells hb2).2
        have g3 := ((bcell B1).1 _ _ (lt_of_cell hk.out)).trans hk.out
        have HB1 := Lib.hid B1
        clear hb2 B1 hb1 s1 s2
        go_wp2_with fail
        go_ret
        exact ⟨rfl, HB1.out⟩

end Go.Proofs.YtjkcopgfcafpeaaGreatDoor

/-
  What Check's first loop holds, which collects the functions' sorts into a place. Conditions: none.
-/
set_option linter.unusedSimpArgs false
set_option linter.unusedVariables false
namespace Go.Proofs.YtjkcopgfcafpeaaGreatDoor
open Go.RowKit

theorem three_set1 {w : World} {b : Nat} {u1 u2 u3 v : Value} {t : TypeId} (h : w.heap[b]? = some (.cells #[u1, u2, u3] t (0, 0))) : (w.setCell ⟨b, 1, none⟩ v).heap[b]? = some (.cells #[u1, v, u3] t (0, 0)) := by
  have hlt := lt_of_block h
  have h' : w.heap[b] = .cells #[u1, u2, u3] t (0, 0) := by simpa [Array.getElem?_eq_getElem hlt] using h
  show (w.heap.modify b _)[b]? = _
  rw [Array.getElem?_eq_getElem (by simpa using hlt), Array.getElem_modify_self, h']
  rfl

theorem three_set2 {w : World} {b : Nat} {u1 u2 u3 v : Value} {t : TypeId} (h : w.heap[b]? = some (.cells #[u1, u2, u3] t (0, 0))) : (w.setCell ⟨b, 2, none⟩ v).heap[b]? = some (.cells #[u1, u2, v] t (0, 0)) := by
  have hlt := lt_of_block h
  have h' : w.heap[b] = .cells #[u1, u2, u3] t (0, 0) := by simpa [Array.getElem?_eq_getElem hlt] using h
  show (w.heap.modify b _)[b]? = _
  rw [Array.getElem?_eq_getElem (by simpa using hlt), Array.getElem_modify_self, h']
  rfl

theorem three_cells {w : World} {b : Nat} {u1 u2 u3 : Value} {t : TypeId} (h : w.heap[b]? = some (.cells #[u1, u2, u3] t (0, 0))) :
    w.cell? ⟨b, 0, none⟩ = some u1 ∧ w.cell? ⟨b, 1, none⟩ = some u2 ∧ w.cell? ⟨b, 2, none⟩ = some u3 ∧ w.frozen? ⟨b, 1, none⟩ = false ∧ w.frozen? ⟨b, 2, none⟩ = false := by
  refine ⟨?_, ?_, ?_, ?_, ?_⟩ <;> simp [World.cell?, World.frozen?, h]

theorem five_cells {w : World} {b : Nat} {u1 u2 u3 u4 u5 : Value} {t : TypeId} (h : w.heap[b]? = some (.cells #[u1, u2, u3, u4, u5] t (0, 0))) :
    w.cell? ⟨b, 0, none⟩ = some u1 ∧ w.cell? ⟨b, 1, none⟩ = some u2 ∧ w.cell? ⟨b, 2, none⟩ = some u3 ∧ w.cell? ⟨b, 3, none⟩ = some u4 ∧ w.cell? ⟨b, 4, none⟩ = some u5 := by
  refine ⟨?_, ?_, ?_, ?_, ?_⟩ <;> simp [World.cell?, h]

/-- the place's block, the scheme's block, and the row that is collected -/
structure PS (w : World) (F : Fu) (o : Obj) (sp : Option Addr) (sn sc : Nat) (b : Nat) (j : Nat) (q : Option Addr) (c : Nat) (vs : List Value) (u : Value) (wr : World) : Prop where
  own : wr.ownsRow (b + 1) 47 1 (.slice q j c) j vs
  vals : ∀ i, i < j → ∃ p n d, vs[i]? = some (.slice p n d) ∧ IsT w (F.st i) p n d
  box : wr.heap[b]? = some (.cells #[.slice sp sn sc, .slice q j c, u] 45 (0, 0))
  sbox : wr.heap[w.heap.size]? = some o
  bel : Below w.heap.size w wr
  lt : w.heap.size < b

theorem PS.start {w w1 : World} {F : Fu} {o : Obj} {sp : Option Addr} {sn sc : Nat} (h1 : w1.heap[w.heap.size]? = some o) (hb : Below w.heap.size w w1) :
    PS w F o sp sn sc w1.heap.size 0 none 0 [] (.slice none 0 0) (w1.alloc (.cells #[.slice sp sn sc, .slice none 0 0, .slice none 0 0] 45)) :=
  ⟨World.ownsRow_nil _ _ _ _, fun i h => absurd h (Nat.not_lt_zero _), heap_new _ _, alloc_kept h1 _, hb.alloc hb.size _, lt_of_block h1⟩

theorem PS.alloc {w wr : World} {F : Fu} {o : Obj} {sp : Option Addr} {sn sc b j c : Nat} {q : Option Addr} {vs : List Value} {u : Value} (h : PS w F o sp sn sc b j q c vs u wr) (x : Obj) : PS w F o sp sn sc b j q c vs u (wr.alloc x) :=
  ⟨h.own.alloc _, h.vals, alloc_kept h.box _, alloc_kept h.sbox _, h.bel.alloc h.bel.size _, h.lt⟩

/-- behind an append and the store of its answer -/
theorem PS.push {w W w3 : World} {F : Fu} {o Y : Obj} {sp : Option Addr} {sn sc b j c g cp : Nat} {q p : Option Addr} {n d : Nat} {vs : List Value} {u : Value} (h : PS w F o sp sn sc b j q c vs u W) (hi : IsT w (F.st j) p n d)
    (hown : w3.ownsRow (b + 1) 47 1 (.slice (some ⟨g, 0, none⟩) (j + 1) cp) (j + 1) (vs ++ [.slice p n d])) (hgrow : (W.alloc Y).grownBy w3 (Value.slice q j c).ownBlock) :
    PS w F o sp sn sc b (j + 1) (some ⟨g, 0, none⟩) cp (vs ++ [.slice p n d]) u (w3.setCell ⟨b, 1, none⟩ (.slice (some ⟨g, 0, none⟩) (j + 1) cp)) := by
  have hlt := h.own.lt
  have hb := lt_of_block h.box
  have hs := lt_of_block h.sbox
  have hl := h.lt
  have hvl : vs.length = j := by have := h.own.1; omega
  have k1 : ∀ i, i ≤ b → i < W.heap.size → w3.heap[i]? = W.heap[i]? := fun i h1 h2 => by
    rw [hgrow.block i (by simp only [World.size_alloc]; omega) (fun e => by have := (hlt i e.symm).1; omega), Below.heap_alloc _ _ _ h2]
  refine ⟨ownsRow_setCell_below hown (Nat.lt_succ_self _) _, ?_, three_set1 ((k1 b (Nat.le_refl _) hb).trans h.box), ?_, ?_, hl⟩
  · intro i hij
    by_cases e : i = j
    · subst e
      exact ⟨p, n, d, by rw [List.getElem?_append_right (by omega), hvl, Nat.sub_self]; rfl, hi⟩
    · obtain ⟨p', n', d', h1, h2⟩ := h.vals i (by omega)
      exact ⟨p', n', d', by rw [List.getElem?_append_left (by omega)]; exact h1, h2⟩
  · rw [Below.heap_setCell _ _ _ _ (show w.heap.size ≠ b by omega)]
    exact (k1 _ (by omega) hs).trans h.sbox
  · exact ((h.bel.alloc h.bel.size Y).grown hgrow (by simp only [World.size_alloc]; have := h.bel.size; omega) fun i hi => by have := (hlt i hi).1; omega).setCell (Nat.le_of_lt hl) _

/-- before the store, the place's block is as it was -/
theorem PS.mid {w W w3 : World} {F : Fu} {o Y : Obj} {sp : Option Addr} {sn sc b j c : Nat} {q : Option Addr} {vs : List Value} {u : Value} (h : PS w F o sp sn sc b j q c vs u W) (hgrow : (W.alloc Y).grownBy w3 (Value.slice q j c).ownBlock) :
    w3.heap[b]? = some (.cells #[.slice sp sn sc, .slice q j c, u] 45 (0, 0)) := by
  have hb := lt_of_block h.box
  rw [hgrow.block b (by simp only [World.size_alloc]; omega) (fun e => by have := (h.own.lt b e.symm).1; omega), Below.heap_alloc _ _ _ hb]
  exact h.box

/-- the parameters set -/
theorem PS.param {w wr : World} {F : Fu} {o : Obj} {sp : Option Addr} {sn sc b j c : Nat} {q : Option Addr} {vs : List Value} {u : Value} (h : PS w F o sp sn sc b j q c vs u wr) (v : Value) : PS w F o sp sn sc b j q c vs v (wr.setCell ⟨b, 2, none⟩ v) :=
  ⟨ownsRow_setCell_below h.own (Nat.lt_succ_self _) _, h.vals, three_set2 h.box, by rw [Below.heap_setCell _ _ _ _ (show w.heap.size ≠ b by have := h.lt; omega)]; exact h.sbox, h.bel.setCell (Nat.le_of_lt h.lt) _, h.lt⟩

theorem PS.below {w wr w' : World} {F : Fu} {o : Obj} {sp : Option Addr} {sn sc b j c : Nat} {q : Option Addr} {vs : List Value} {u : Value} (h : PS w F o sp sn sc b j q c vs u wr) (hb : Below wr.heap.size wr w') : PS w F o sp sn sc b j q c vs u w' :=
  ⟨ownsRow_keep h.own hb, h.vals, (hb.block _ (lt_of_block h.box)).trans h.box, (hb.block _ (lt_of_block h.sbox)).trans h.sbox, h.bel.trans (hb.mono h.bel.size), h.lt⟩

/-- what has been collected is a list of sorts -/
theorem PS.isT {w wr : World} {F : Fu} {o : Obj} {sp : Option Addr} {sn sc b j c : Nat} {q : Option Addr} {vs : List Value} {u : Value} (h : PS w F o sp sn sc b j q c vs u wr) : IsT wr (stsF F 0 j) q j c :=
  isT_sts h.own fun i hi => by obtain ⟨p, n, d, h1, h2⟩ := h.vals i hi; exact ⟨p, n, d, h1, h2.below h.bel⟩

end Go.Proofs.YtjkcopgfcafpeaaGreatDoor

/-
  The walk of Check where its loops run. Conditions: none but that the scheme lies in memory.
-/
set_option linter.unusedSimpArgs false
set_option linter.unusedVariables false
namespace Go.Proofs.YtjkcopgfcafpeaaGreatDoor
open Go.RowKit

set_option maxRecDepth 100000 in
set_option maxHeartbeats 4000000 in
theorem scheck_main (x : Sc) (a : At2) (w : World) (h : IsC w x a) (c0 : x.F.len ≠ 0) (c1 : x.F.len ≤ 64) (cd : distF x.F = true) (cs : (x.F.st 0).len = 0) (r1 r2 : Bool) (hr1 : plOk (x.pl .nil) = r1) (hr2 : bodiesOk x 0 x.F.len = r2) :
    Calls Tryz.prog 14 #[.agg #[.slice a.sp a.sn a.sc, .slice a.fp a.fn a.fc]] w fun e w' => e = .returned (.int .i64 (if (r1 && r2) = true then 0 else 7)) ∧ Below w.heap.size w w' := by
  obtain ⟨i0, hi0, hz0, hz1', hz2⟩ := info_parts infoS
  obtain ⟨sp, sn, sc, fp, fn, fc⟩ := a
  obtain ⟨hS, hF⟩ := id h
  dsimp only at hS hF ⊢
  obtain rfl : fn = x.F.len := hF.1
  have hbx := heap_new w (.cells #[.slice sp sn sc, .slice fp x.F.len fc] 25)
  obtain ⟨s1, s2⟩ := two_cells hbx
  have hd : ((x.F.len : Int) == 0) = false := by simp; omega
  have hd2 : decide ((64 : Int) < (x.F.len : Int)) = false := by rw [decide_eq_false_iff_not]; omega
  have HDI := Lib.hid (fun W h => distinct_any x.F W fp x.F.len fc h c1)
  rw [cd] at HDI
  obtain ⟨b0, off, p0, n0, c0', rfl, g2, en⟩ := at_zero hF c0
  obtain rfl : n0 = 0 := by omega
  obtain ⟨z, hz⟩ : ∃ z : Int, (if (r1 && r2) = true then (0 : Int) else 7) = z := ⟨_, rfl⟩
  rw [hz]
  have HZ := Lib.hid hz
  clear hz
  obtain ⟨_, _, _, _, hrow0⟩ := id hF
  have hr : RowF w x.F b0 off := by
    rcases hrow0 with h | ⟨b', off', e, hr⟩
    · omega
    · injection e with e
      injection e with e1 e2
      subst e1 e2
      exact hr
  have HF := Lib.hid hF
  have HX := Lib.hid hbx
  have hk := Lib.hid g2
  have HR := Lib.hid hr
  have HSy := Lib.hid hS
  have HP := Lib.hid (fun W aa hh => tcheck_any (x.pl .nil) aa W hh)
  obtain ⟨pe, hpe⟩ : ∃ pe, plE (x.pl .nil) = pe := ⟨_, rfl⟩
  rw [hpe] at HP
  have hpe2 : pe = if r1 = true then 0 else 2 := by rw [← hpe]; unfold plE; rw [hr1]
  have HPE := Lib.hid hpe2
  have HBO := Lib.hid hr2
  have hlen : 0 < x.F.len := by omega
  have hlen2 : (0 : Int) < (x.F.len : Int) := by omega
  clear hpe hpe2 hr1 hr2 hS hF hbx g2 hr hrow0 en cs cd h c0
  go_enter Tryz.func14, Tryz.ntmps14
  go_wp2_with fail
  refine (HDI.out _ (HF.out.alloc _)).mono ?_
  rintro e w1 ⟨rfl, hb1⟩
  have B1 := below_call hb1
  have hb2 := box3_later hb1 HX.out
  obtain ⟨s3, s4⟩ := two_cells hb2
  have s5 := fun o => (two_cells (alloc_kept hb2 o)).2
  have g3 := ((bcell B1).1 _ _ (lt_of_cell hk.out)).trans hk.out
  have HP0 := Lib.hid (PS.start (F := x.F) (sp := sp) (sn := sn) (sc := sc) hb2 B1)
  clear hb2 B1 hb1 s1 s2 HX HDI hk
  go_wp2_with fail
  go_loopw [40] (fun v wr => ∃ (j : Nat) (q : Option Addr) (c : Nat) (vs : List Value), j ≤ x.F.len ∧ v = .int .i64 (j : Int) ∧ PS w x.F (.cells #[.slice sp sn sc, .slice (some ⟨b0, off, none⟩) x.F.len fc] 25 (0, 0)) sp sn sc w1.heap.size j q c vs (.slice none 0 0) wr)
    (fun v _ => x.F.len - (Go.RowKit.intOf v).toNat)
  case atStart => exact ⟨0, none, 0, [], Nat.zero_le _, rfl, HP0.out⟩
  case round =>
    clear HP0 s3 s4 s5 g3
    obtain ⟨j, q, c, vs, hj, rfl, hP⟩ := hrel
    by_cases hlt : j < x.F.len
    · obtain ⟨p', n', c', q', m', d', e1, e2, e3, e4, e5, e6, e7⟩ := HR.out j hlt
      have hkk := (bcell hP.bel).1
      have f1 := (hkk _ _ (lt_of_cell e1)).trans e1
      have f2 := (hkk _ _ (lt_of_cell e2)).trans e2
      have f3 := (hkk _ _ (lt_of_cell e3)).trans e3
      have f4 := (hkk _ _ (lt_of_cell e4)).trans e4
      have f5 := (hkk _ _ (lt_of_cell e5)).trans e5
      have HPP := Lib.hid hP
      have HT := Lib.hid e6
      clear hP hkk e1 e2 e3 e4 e5 e6 e7
      generalize x.F.nm j = s at f1
      generalize x.F.bk j = bk at f3
      generalize x.F.bn j = bn at f4
      go_upto_region 7 with fail
      have S2 := HPP.out.alloc (.cells #[.string s, .slice p' n' c', .int .i64 bk, .int .i64 bn, .slice q' m' d'] 52)
      obtain ⟨y1, y2, y3, y4, y5⟩ := three_cells S2.box
      obtain ⟨v1, v2, v3, v4, v5⟩ := five_cells (heap_new wr (.cells #[.string s, .slice p' n' c', .int .i64 bk, .int .i64 bn, .slice q' m' d'] 52))
      have hbase : w1.heap.size + 1 ≤ wr.heap.size := lt_of_block HPP.out.box
      have hbase2 : w1.heap.size + 1 ≤ (wr.alloc (.cells #[.string s, .slice p' n' c', .int .i64 bk, .int .i64 bn, .slice q' m' d'] 52)).heap.size := by simp only [World.size_alloc]; omega
      generalize wr.heap.size = bf at v1 v2 v3 v4 v5 ⊢
      generalize wr.alloc (.cells #[.string s, .slice p' n' c', .int .i64 bk, .int .i64 bn, .slice q' m' d'] 52) = W2 at S2 y1 y2 y3 y4 y5 v1 v2 v3 v4 v5 hbase2 ⊢
      have HS2 := Lib.hid S2
      have hown := S2.own
      have hmx : j + 1 ≤ maxLen := by simp only [maxLen]; omega
      have hby : (j + 1) * 24 ≤ 140737488355328 := by omega
      clear S2 f1 f2 f3 f4 f5
      go_wp2_with (at_builtin; refine wpList_append_lies _ rfl _ _ 43 rfl (w1.heap.size + 1) 47 i0 (.agg #[.slice none 0 0]) 1 24 Tryz.underlying43 hi0 hz0 hz1' hz2 rfl Nat.one_pos (.slice q j c) j vs rfl (hown.alloc _) ⟨W2.heap.size, 0, none⟩ 1 1 [.slice p' n' c'] rfl rfl (cell_one_new _ _ _) (one_slice _ _ _) Nat.one_pos hmx hby (base_le _ hbase2) (W2.heap.size + 1) (size_new _ _) ?_; intro g cp w9 hown3 hgrow hat hglt; have hh3 := three_cells (HS2.out.mid hgrow); have o1 := hh3.2.1; have o2 := hh3.2.2.2.1; clear hh3)
      have P := PS.push HS2.out HT.out hown3 hgrow
      go_roundw
      case rel => exact ⟨j + 1, some ⟨g, 0, none⟩, cp, _, by omega, by go_num, P⟩
      case measure => simp [Go.RowKit.intOf]; omega
    · obtain rfl : j = x.F.len := by omega
      obtain ⟨y1, y2, y3, y4, y5⟩ := three_cells hP.box
      obtain ⟨v1, v2⟩ := two_cells hP.sbox
      have hPl : IsP wr (x.pl .nil) ⟨sp, sn, sc, q, x.F.len, c, none, 0, 0⟩ := ⟨HSy.out.below hP.bel, hP.isT, rfl, Nat.le_refl _, Nat.zero_le _, fun _ => rfl, Or.inl rfl⟩
      have HPP := Lib.hid hP
      have HPL := Lib.hid hPl
      clear hP hPl
      go_wp2_with fail
      refine (HP.out _ _ HPL.out).mono ?_
      rintro e w4 ⟨rfl, hb4⟩
      have P4 := HPP.out.below hb4
      obtain ⟨v1, v2⟩ := two_cells P4.sbox
      have HP4 := Lib.hid P4
      clear P4 hb4 HPL HPP y1 y2 y3 y4 y5 HP
      cases r1 with
      | false =>
        obtain rfl : pe = 2 := HPE.out
        go_wp2_with fail
        go_ret
        exact ⟨by rw [← HZ.out]; rfl, HP4.out.bel⟩
      | true =>
        obtain rfl : pe = 0 := HPE.out
        go_wp2_with fail
        go_loopw [58] (fun v wr => ∃ (j : Nat) (u : Value), j ≤ x.F.len ∧ v = .int .i64 (j : Int) ∧ bodiesOk x j (x.F.len - j) = r2 ∧ PS w x.F (.cells #[.slice sp sn sc, .slice (some ⟨b0, off, none⟩) x.F.len fc] 25 (0, 0)) sp sn sc w1.heap.size x.F.len q c vs u wr)
          (fun v _ => x.F.len - (Go.RowKit.intOf v).toNat)
        case atStart => exact ⟨0, _, Nat.zero_le _, rfl, HBO.out, HP4.out⟩
        case round =>
          clear HP4 v1 v2 HBO
          obtain ⟨j, u, hj, rfl, hbo, hP⟩ := hrel
          have HBJ := Lib.hid hbo
          clear hbo
          by_cases hlt : j < x.F.len
          · obtain ⟨p', n', c', q', m', d', e1, e2, e3, e4, e5, e6, e7⟩ := HR.out j hlt
            have hkk := (bcell hP.bel).1
            have f1 := (hkk _ _ (lt_of_cell e1)).trans e1
            have f2 := (hkk _ _ (lt_of_cell e2)).trans e2
            have f3 := (hkk _ _ (lt_of_cell e3)).trans e3
            have f4 := (hkk _ _ (lt_of_cell e4)).trans e4
            have f5 := (hkk _ _ (lt_of_cell e5)).trans e5
            have HPP := Lib.hid hP
            have HT := Lib.hid e6
            have HTX := Lib.hid e7
            have hsf : bodiesOk x j (x.F.len - j) = (fitsB (x.pl (x.F.st j)) (x.F.bk j) (x.F.bn j) (x.F.bt j) && bodiesOk x (j + 1) (x.F.len - (j + 1))) := by
              rw [show x.F.len - j = (x.F.len - (j + 1)) + 1 by omega]; rfl
            rw [HBJ.out] at hsf
            obtain ⟨fb, hfb⟩ : ∃ fb, fitsB (x.pl (x.F.st j)) (x.F.bk j) (x.F.bn j) (x.F.bt j) = fb := ⟨_, rfl⟩
            have HFI := Lib.hid (fun W aa h h' => fits_any (x.pl (x.F.st j)) aa (x.F.bk j) (x.F.bn j) (x.F.bt j) W q' m' d' h h')
            rw [hfb] at hsf HFI
            have HSF := Lib.hid hsf
            clear hP hkk e1 e2 e3 e4 e5 e6 e7 hsf hfb HBJ
            generalize x.F.nm j = s at f1
            generalize x.F.bk j = bk at f3 HFI
            generalize x.F.bn j = bn at f4 HFI
            go_upto_region 14 with fail
            have S2 := HPP.out.alloc (.cells #[.string s, .slice p' n' c', .int .i64 bk, .int .i64 bn, .slice q' m' d'] 52)
            have hfx := heap_new wr (.cells #[.string s, .slice p' n' c', .int .i64 bk, .int .i64 bn, .slice q' m' d'] 52)
            have hne : wr.heap.size ≠ w1.heap.size := by have := lt_of_block HPP.out.box; omega
            generalize wr.heap.size = bf at hfx hne ⊢
            generalize wr.alloc (.cells #[.string s, .slice p' n' c', .int .i64 bk, .int .i64 bn, .slice q' m' d'] 52) = W2 at S2 hfx ⊢
            obtain ⟨y1, y2, y3, y4, y5⟩ := three_cells S2.box
            obtain ⟨v1, v2, v3, v4, v5⟩ := five_cells hfx
            have S3 := S2.param (.slice p' n' c')
            obtain ⟨t1, t2, t3, t4, t5⟩ := three_cells S3.box
            have hfx3 := (Below.heap_setCell W2 ⟨w1.heap.size, 2, none⟩ (.slice p' n' c') bf hne).trans hfx
            obtain ⟨u1, u2, u3, u4, u5⟩ := five_cells hfx3
            have hPl : IsP (W2.setCell ⟨w1.heap.size, 2, none⟩ (.slice p' n' c')) (x.pl (x.F.st j)) ⟨sp, sn, sc, q, x.F.len, c, p', n', c'⟩ := ⟨HSy.out.below S3.bel, S3.isT, HT.out.below S3.bel⟩
            have hXl := HTX.out.below S3.bel
            have HS3 := Lib.hid S3
            have HPL := Lib.hid hPl
            have HXL := Lib.hid hXl
            clear S2 S3 hfx hfx3 hPl hXl f1 f2 f3 f4 f5 HPP
            go_wp2_with fail
            refine (HFI.out _ _ HPL.out HXL.out).mono ?_
            rintro e w5 ⟨rfl, hb5⟩
            have P5 := HS3.out.below hb5
            have HP5 := Lib.hid P5
            clear P5 hb5 HPL HXL HS3
            cases fb with
            | false =>
              go_wp2_with fail
              go_ret
              exact ⟨by rw [← HZ.out, HSF.out]; rfl, HP5.out.bel⟩
            | true =>
              go_wp2_with fail
              go_roundw
              case rel => exact ⟨j + 1, _, by omega, by go_num, by rw [HSF.out]; simp, HP5.out⟩
              case measure => simp [Go.RowKit.intOf]; omega
          · go_wp2_with fail
            go_ret
            exact ⟨by rw [← HZ.out, ← HBJ.out, show x.F.len - j = 0 by omega]; rfl, hP.bel⟩

end Go.Proofs.YtjkcopgfcafpeaaGreatDoor

/-
  The walk of Check: what it answers, for whatever scheme. Conditions: none but that the scheme lies in memory.
-/
set_option linter.unusedSimpArgs false
set_option linter.unusedVariables false
namespace Go.Proofs.YtjkcopgfcafpeaaGreatDoor
open Go.RowKit

theorem scheck_any (x : Sc) (a : At2) (w : World) (h : IsC w x a) :
    Calls Tryz.prog 14 #[.agg #[.slice a.sp a.sn a.sc, .slice a.fp a.fn a.fc]] w fun e w' => e = .returned (.int .i64 (scE x)) ∧ Below w.heap.size w w' := by
  cases hc : (!decide (x.F.len = 0) && !decide (64 < x.F.len) && distF x.F && !decide (0 < (x.F.st 0).len)) with
  | false =>
    have e : scE x = 7 := by unfold scE scOk; rw [hc]; rfl
    rw [e]
    exact scheck_early x a w h hc
  | true =>
    have hs : scOk x = (plOk (x.pl .nil) && bodiesOk x 0 x.F.len) := by
      unfold scOk
      rw [hc]
      cases plOk (x.pl .nil) <;> cases bodiesOk x 0 x.F.len <;> rfl
    have e : scE x = if (plOk (x.pl .nil) && bodiesOk x 0 x.F.len) = true then 0 else 7 := by unfold scE; rw [hs]
    rw [e]
    simp only [Bool.and_eq_true, Bool.not_eq_true', decide_eq_false_iff_not] at hc
    exact scheck_main x a w h hc.1.1.1 (by omega) hc.1.2 (by omega) _ _ rfl rfl

end Go.Proofs.YtjkcopgfcafpeaaGreatDoor

/-
  The walk of Order: what it answers, for whatever scheme. Conditions: none but that the scheme lies in memory.
-/
set_option linter.unusedSimpArgs false
set_option linter.unusedVariables false
namespace Go.Proofs.YtjkcopgfcafpeaaGreatDoor
open Go.RowKit

/-- the greatest order among m functions from function i on, and acc -/
def ordF (F : Fu) : Nat → Nat → Nat → Nat
  | _, 0, acc => acc
  | i, m + 1, acc => ordF F (i + 1) m (max acc (F.st i).oN)

def Sc.ordN (x : Sc) : Nat := if scOk x = true then ordF x.F 0 x.F.len 0 else 0

set_option maxRecDepth 100000 in
set_option maxHeartbeats 2000000 in
theorem sorder_any (x : Sc) (a : At2) (w : World) (h : IsC w x a) :
    Calls Tryz.prog 19 #[.agg #[.slice a.sp a.sn a.sc, .slice a.fp a.fn a.fc]] w fun e w' => e = .returned (.tuple #[.int .i64 (x.ordN : Int), .int .i64 (scE x)]) ∧ Below w.heap.size w w' := by
  have HC := Lib.hid (fun W h => scheck_any x a W h)
  obtain ⟨sp, sn, sc, fp, fn, fc⟩ := a
  obtain ⟨hS, hF⟩ := id h
  dsimp only at hS hF HC ⊢
  obtain rfl : fn = x.F.len := hF.1
  have hbx := heap_new w (.cells #[.slice sp sn sc, .slice fp x.F.len fc] 25)
  obtain ⟨s1, s2⟩ := two_cells hbx
  obtain ⟨_, hcap, hmax, _, hrow⟩ := id hF
  unfold maxLen at hmax
  have HX := Lib.hid hbx
  have HH := Lib.hid h
  cases hok : scOk x with
  | false =>
    have e1 : scE x = 7 := by unfold scE; rw [hok]; rfl
    have e2 : x.ordN = 0 := by unfold Sc.ordN; rw [hok]; rfl
    rw [e1] at HC ⊢
    rw [e2]
    clear e1 e2 hok hS hF hbx h hcap hmax hrow
    go_enter Tryz.func19, Tryz.ntmps19
    go_wp2_with fail
    refine (HC.out _ (HH.out.alloc _)).mono ?_
    rintro e w1 ⟨rfl, hb1⟩
    go_wp2_with fail
    go_ret2
    exact ⟨rfl, below_call hb1⟩
  | true =>
    have e1 : scE x = 0 := by unfold scE; rw [hok]; rfl
    have e2 : x.ordN = ordF x.F 0 x.F.len 0 := by unfold Sc.ordN; rw [hok]; rfl
    obtain ⟨z, hz⟩ : ∃ z, x.ordN = z := ⟨_, rfl⟩
    rw [e1] at HC ⊢
    rw [hz] at e2 ⊢
    have HZ := Lib.hid e2.symm
    clear e1 e2 hz hok hS hF hbx h
    go_enter Tryz.func19, Tryz.ntmps19
    go_wp2_with fail
    refine (HC.out _ (HH.out.alloc _)).mono ?_
    rintro e w1 ⟨rfl, hb1⟩
    obtain ⟨s3, s4⟩ := two_cells (box3_later hb1 HX.out)
    have HB := Lib.hid (below_call hb1)
    clear s1 s2 hb1 HX
    go_wp2_with fail
    go_loopw [5, 18] (fun v i wr => ∃ j m : Nat, j ≤ x.F.len ∧ i = .int .i64 (j : Int) ∧ v = .int .i64 (m : Int) ∧ ordF x.F j (x.F.len - j) m = z ∧ Below w.heap.size w wr)
      (fun _ i _ => x.F.len - (Go.RowKit.intOf i).toNat)
    case atStart => exact ⟨0, 0, Nat.zero_le _, rfl, rfl, HZ.out, HB.out⟩
    case round =>
      clear HB s3 s4 HZ
      obtain ⟨j, m, hj, rfl, rfl, hm, hb⟩ := hrel
      by_cases hlt : j < x.F.len
      · rcases hrow with h0 | ⟨b, off, rfl, hr⟩
        · omega
        obtain ⟨p', n', c', q', m', d', e1, e2, e3, e4, e5, e6, e7⟩ := hr j hlt
        have hkk := (bcell hb).1
        have f1 := (hkk _ _ (lt_of_cell e1)).trans e1
        have f2 := (hkk _ _ (lt_of_cell e2)).trans e2
        have f3 := (hkk _ _ (lt_of_cell e3)).trans e3
        have f4 := (hkk _ _ (lt_of_cell e4)).trans e4
        have f5 := (hkk _ _ (lt_of_cell e5)).trans e5
        have hm2 : ordF x.F (j + 1) (x.F.len - (j + 1)) (max m (x.F.st j).oN) = z := by
          rw [← hm, show x.F.len - j = (x.F.len - (j + 1)) + 1 by omega]; rfl
        have HM := Lib.hid hm2
        have HO := Lib.hid (fun W h => orderF_any (x.F.st j) W p' n' c' h)
        have ht := e6.below hb
        have HBB := Lib.hid hb
        generalize x.F.nm j = s at f1
        generalize x.F.bk j = bk at f3
        generalize x.F.bn j = bn at f4
        clear hm hm2 hkk e1 e2 e3 e4 e5 e6 e7 hb
        go_wp2_with fail
        refine (HO.out _ (ht.alloc _)).mono ?_
        rintro e w2 ⟨rfl, hb2⟩
        have hb3 := base_next HBB.out hb2
        clear hb2 f1 f2 f3 f4 f5 ht HO HBB
        go_wp2_with fail
        go_roundw
        case rel => exact ⟨j + 1, max m (x.F.st j).oN, by omega, by go_num, val_int (by rw [Nat.max_def]; split <;> split <;> omega), HM.out, hb3⟩
        case measure => simp [Go.RowKit.intOf]; omega
      · have hm2 : m = z := by rw [← hm, show x.F.len - j = 0 by omega]; rfl
        subst hm2
        clear hm
        go_wp2_with fail
        go_ret2
        exact ⟨rfl, hb⟩

end Go.Proofs.YtjkcopgfcafpeaaGreatDoor

