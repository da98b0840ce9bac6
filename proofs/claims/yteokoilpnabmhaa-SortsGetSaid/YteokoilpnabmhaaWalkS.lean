/-
  The walks of the reference's begins and Parse. Conditions: a text of at most 65536 bytes.
-/
import Derived.Test.YteokoilpnabmhaaWalkR
set_option linter.unusedSimpArgs false
set_option linter.unusedVariables false
namespace Go.Proofs.Yteokoilpnabmhaa
open Go.RowKit

theorem take_pre (p l : List UInt8) : ((l.take p.length) == p) = Proofs.Yteokoilpnabmhaa.pre p l := by
  by_cases h : Proofs.Yteokoilpnabmhaa.pre p l = true
  · obtain ⟨r, rfl⟩ := (pre_iff _ _).1 h
    rw [h]; simp
  · have h' : Proofs.Yteokoilpnabmhaa.pre p l = false := by simpa using h
    rw [h', beq_eq_false_iff_ne]
    intro e
    apply h
    exact (pre_iff _ _).2 ⟨l.drop p.length, (List.take_append_drop p.length l).symm.trans (congrArg (· ++ l.drop p.length) e)⟩

set_option maxHeartbeats 800000 in
theorem begins_at (s p : List UInt8) (i : Nat) (j : Int) (x : ByteArray) (bv : Bool) (hx : x.data.toList = p) (hi : i ≤ s.length) (hs : s.length ≤ 65536) (hp : p.length ≤ 4) (hj : j = (i : Int))
    (hb : Proofs.Yteokoilpnabmhaa.pre p (s.drop i) = bv) (w : World) :
    Calls Try.prog 58 #[.string ⟨s.toArray⟩, .int .i64 j, .string x] w fun e w' => e = .returned (.bool bv) ∧ w = w' := by
  subst hj
  have hz : x.size = p.length := by rw [← hx]; rfl
  have HX := Lib.hid hx
  have HB := Lib.hid hb
  clear hx hb
  go_enter Try.func58, Try.ntmps58
  go_wp2_with fail
  · refine bodyPost_ret (v := .bool _) (by simp [results, Try.results58, go_sem]; rfl) rfl ⟨ret_bool ?_, rfl⟩
    rw [← HB.out, ← take_pre, Lib.extract_toList, Lib.toList_data, HX.out]
    simp
  · refine bodyPost_ret (v := .bool false) (by simp [results, Try.results58, go_sem]) rfl ⟨ret_bool ?_, rfl⟩
    rw [← HB.out]
    symm
    rw [Bool.eq_false_iff]
    intro h
    have := pre_length h
    simp only [List.length_drop] at this
    omega

theorem drop_of {s p r : List UInt8} {i : Nat} (hi : i ≤ s.length) (h : s.drop i = p ++ r) : s.drop (i + p.length) = r ∧ i + p.length + r.length = s.length := by
  refine ⟨by rw [← List.drop_drop, h]; simp, ?_⟩
  have := congrArg List.length h
  simp only [List.length_drop, List.length_append] at this
  omega

theorem pre4 (r : List UInt8) : Proofs.Yteokoilpnabmhaa.pre [41, 32, 62, 32] r = true ↔ Proofs.Yteokoilpnabmhaa.pre [41] r = true ∧ Proofs.Yteokoilpnabmhaa.pre [32, 62, 32] (r.drop 1) = true := by
  constructor
  · intro h
    obtain ⟨r1, rfl⟩ := (pre_iff _ _).1 h
    exact ⟨by simp [Proofs.Yteokoilpnabmhaa.pre], by simp [Proofs.Yteokoilpnabmhaa.pre]⟩
  · rintro ⟨h1, h2⟩
    obtain ⟨r1, rfl⟩ := (pre_iff _ _).1 h1
    obtain ⟨r2, h3⟩ := (pre_iff _ _).1 h2
    simp only [List.singleton_append, List.drop_succ_cons, List.drop_zero] at h3
    subst h3
    simp [Proofs.Yteokoilpnabmhaa.pre]

/-- where Parse's loop stands: what it has collected -/
structure Pt (w wr : World) (acc : T) (q : Option Addr) (c : Nat) (xs : List Value) : Prop where
  own : wr.ownsRow (w.heap.size + 2) 24 1 (.slice q acc.len c) acc.len xs
  kids : Kids wr acc xs (Value.slice q acc.len c).ownBlock (w.heap.size + 2) wr.heap.size
  out : wr.heap[w.heap.size + 1]? = some (.cells #[.slice q acc.len c] 24 (0, 0))
  res : wr.heap[w.heap.size]? = some (.cells #[.slice none 0 0] 24 (0, 0))
  below : Below w.heap.size w wr

theorem kept_of_below {wr w1 : World} {i : Nat} {o : Obj} (hb : Below wr.heap.size wr w1) (h : wr.heap[i]? = some o) : w1.heap[i]? = some o := by
  rw [hb.block _ (lt_of_block h)]; exact h

theorem Pt.step {w wr w1 : World} {acc : T} {q : Option Addr} {c : Nat} {xs : List Value} (h : Pt w wr acc q c xs) (hb : Below wr.heap.size wr w1) : Pt w w1 acc q c xs := by
  have hz := h.below.size
  refine ⟨ownsRow_keep h.own hb, ?_, kept_of_below hb h.out, kept_of_below hb h.res, h.below.trans (hb.mono hz)⟩
  exact (h.kids.keep fun j _ hj2 _ => hb.block j hj2).mono (Nat.le_refl _) hb.size

theorem Pt.alloc {w wr : World} {acc : T} {q : Option Addr} {c : Nat} {xs : List Value} (h : Pt w wr acc q c xs) (x : Obj) : Pt w (wr.alloc x) acc q c xs :=
  h.step ((Below.refl wr.heap.size wr).alloc (Nat.le_refl _) x)

/-- one more is collected -/
theorem Pt.push {w W W2 w3 : World} {acc h : T} {q q1 : Option Addr} {c c1 g cp m : Nat} {xs : List Value} {Y : Obj} (S : Pt w W acc q c xs) (G : Below W.heap.size W W2)
    (O : Own W2 h q1 c1 W.heap.size m) (hm1 : W.heap.size ≤ m) (hm : m ≤ W2.heap.size)
    (hown : w3.ownsRow (w.heap.size + 2) 24 1 (.slice (some ⟨g, 0, none⟩) (acc.len + 1) cp) (acc.len + 1) (xs ++ [.slice q1 h.len c1]))
    (hgrow : (W2.alloc Y).grownBy w3 (Value.slice q acc.len c).ownBlock) (hat : (Value.slice q acc.len c).ownBlock = some g ∨ g = W2.heap.size + 1) :
    Pt w (w3.setCell ⟨w.heap.size + 1, 0, none⟩ (.slice (some ⟨g, 0, none⟩) (acc.len + 1) cp)) (acc.snoc h) (some ⟨g, 0, none⟩) cp (xs ++ [.slice q1 h.len c1]) := by
  have S2 := S.step G
  have hlt := S.own.lt
  have hlt2 := S2.own.lt
  have hk : acc.len < (acc.snoc h).len := by rw [T.len_snoc]; omega
  have hblk : ∀ j, j < W2.heap.size → (Value.slice q acc.len c).ownBlock ≠ some j → w3.heap[j]? = W2.heap[j]? := fun j hj hn => by
    rw [hgrow.block j (by simp only [World.size_alloc]; omega) (fun e => hn e.symm), Below.heap_alloc _ _ _ hj]
  have low : ∀ j, j < w.heap.size + 2 → (Value.slice q acc.len c).ownBlock ≠ some j := fun j hj e => by have := (hlt j e).1; omega
  have o1 := lt_of_block S2.out
  have got := Got.step (w := W2.alloc Y) (w1 := w3) (ty := 24) (t := acc.snoc h) (k := acc.len) (B := w.heap.size + 2) (v := .slice q acc.len c) (q := q1) (c := c1) (lo := W.heap.size) (hi := m) (g := g) (cap := cp) (xs := xs) hk
    (by rw [T.take_snoc_self]; exact S.kids.keep fun j hj hj2 _ => by rw [Below.heap_alloc _ _ _ (by have := G.size; omega)]; exact G.block j hj2)
    hm1 (by simp only [World.size_alloc]; omega) (fun j hj => (hlt j hj).2) (by rw [T.get_snoc_self]; exact O.keep fun j _ hj => Below.heap_alloc _ _ _ (by omega))
    (by rw [T.get_snoc_self]; exact hown) hgrow (by simpa using hat)
  have got2 := got.set (a := ⟨w.heap.size + 1, 0, none⟩) (show w.heap.size + 1 < w.heap.size + 2 by omega) (.slice (some ⟨g, 0, none⟩) (acc.len + 1) cp)
  have hout : w3.heap[w.heap.size + 1]? = some (.cells #[.slice q acc.len c] 24 (0, 0)) := by rw [hblk _ o1 (low _ (by omega))]; exact S2.out
  have hres : w3.heap[w.heap.size]? = some (.cells #[.slice none 0 0] 24 (0, 0)) := by rw [hblk _ (lt_of_block S2.res) (low _ (by omega))]; exact S2.res
  have hx : (xs ++ [Value.slice q1 h.len c1]).length = acc.len + 1 := by simpa using hown.1
  refine ⟨?_, ?_, ?_, ?_, ?_⟩
  · rw [T.len_snoc]; exact ownsRow_setCell_below hown (show w.heap.size + 1 < w.heap.size + 2 by omega) _
  · obtain ⟨xs', h1, h2⟩ := got
    rw [← T.len_snoc acc h, T.take_all _ _ (Nat.le_refl _) (Nat.lt_irrefl _)] at h2
    have e : xs' = xs ++ [Value.slice q1 h.len c1] := by
      rcases h1.2 with ⟨e1, _⟩ | ⟨g1, cap1, cur1, e1, _, hg1, _, _, _, ht1⟩
      · cases e1
      · rcases hown.2 with ⟨e2, _⟩ | ⟨g2, cap2, cur2, e2, _, hg2, _, _, _, ht2⟩
        · cases e2
        · have eg : g1 = g2 := by rw [e1] at e2; injection e2 with e2; injection e2 with e2; injection e2
          subst eg
          rw [hg1] at hg2
          injection hg2 with hg2
          injection hg2 with hg2
          subst hg2
          rw [← ht1, ← ht2]
    rw [T.len_snoc]
    have hs : (w3.setCell ⟨w.heap.size + 1, 0, none⟩ (.slice (some ⟨g, 0, none⟩) (acc.len + 1) cp)).heap.size = w3.heap.size := by simp [World.setCell]
    rw [hs, ← e]
    rw [T.len_snoc] at h2
    exact h2.keep fun j hj _ _ => Below.heap_setCell _ _ _ _ (show j ≠ w.heap.size + 1 by omega)
  · rw [T.len_snoc]; exact one_setCell hout
  · rw [Below.heap_setCell _ _ _ _ (show w.heap.size ≠ w.heap.size + 1 by omega)]; exact hres
  · have g1 := S2.below
    refine ⟨hgrow.os.trans g1.os, hgrow.tape.trans g1.tape, hgrow.output.trans g1.output, ?_, fun i hi => ?_⟩
    · have := hgrow.size; have := g1.size; simp only [World.size_alloc] at *; simp only [World.setCell, Array.size_modify]; omega
    · rw [Below.heap_setCell _ _ _ _ (show i ≠ w.heap.size + 1 by omega), hblk i (by have := g1.size; omega) (low i (by omega))]
      exact g1.block i hi

theorem Pt.out_push {w W2 w3 : World} {acc : T} {q : Option Addr} {c : Nat} {xs : List Value} {Y : Obj} (S : Pt w W2 acc q c xs) (hgrow : (W2.alloc Y).grownBy w3 (Value.slice q acc.len c).ownBlock) :
    w3.heap[w.heap.size + 1]? = some (.cells #[.slice q acc.len c] 24 (0, 0)) := by
  have hlt := S.own.lt
  have o1 := lt_of_block S.out
  rw [hgrow.block _ (by simp only [World.size_alloc]; omega) (fun e => by have := (hlt _ e.symm).1; omega), Below.heap_alloc _ _ _ o1]
  exact S.out

end Go.Proofs.Yteokoilpnabmhaa
