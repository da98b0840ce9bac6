/-
  The walk of All at read: it recovers what the reader panics with. Conditions: a text of at most 65536 bytes.
-/
import Derived.Test.YteokoilpnabmhaaWalkQ
set_option linter.unusedSimpArgs false
set_option linter.unusedVariables false
namespace Go.Proofs.Yteokoilpnabmhaa
open Go.RowKit

theorem out_set {w1 : World} {b : Nat} {v v' : Value} {ty : TypeId} (h : w1.heap[b]? = some (.cells #[v] ty (0, 0))) : (w1.setCell ⟨b, 0, none⟩ v').heap[b]? = some (.cells #[v'] ty (0, 0)) := one_setCell h

theorem other_set {w1 : World} {b a : Nat} {o : Obj} (h : w1.heap[b]? = some o) (hn : b ≠ a) (v' : Value) : (w1.setCell ⟨a, 0, none⟩ v').heap[b]? = some o := (Below.heap_setCell w1 _ _ b hn).trans h

theorem catch_panicking (bp bq : Nat) {x y : Value} {tx ty : TypeId} (u : TypeId) (pv : Value) (older : List PanicEntry) (w : World) (hp : w.heap[bp]? = some (.cells #[x] tx (0, 0))) (hq : w.heap[bq]? = some (.cells #[y] ty (0, 0))) (hn : bq ≠ bp) :
    CallsD Try.prog 52 #[.pointer (some ⟨bp, 0, none⟩), .pointer (some ⟨bq, 0, none⟩)] (.panicking ({ v := .iface u pv, recovered := false } :: older)) w fun e u' w' =>
      e = .returned (.tuple #[]) ∧ u' = .panicking ({ v := .iface u pv, recovered := true } :: older) ∧ w'.cell? ⟨bp, 0, none⟩ = some (.slice none 0 0) ∧ w'.cell? ⟨bq, 0, none⟩ = some (.bool false) ∧ ∀ B, B ≤ bp → B ≤ bq → B ≤ w.heap.size → Below B w w' := by
  have hn0 := cell_of_one (heap_new w (.cells #[.slice none 0 0] 24))
  have hpA := alloc_kept hp (.cells #[.slice none 0 0] 24)
  have hqA := other_set (alloc_kept hq (.cells #[.slice none 0 0] 24)) hn (.slice none 0 0)
  have hc := cell_of_one hpA
  have hz := free_of_one hpA
  have hc2 := cell_of_one hqA
  have hz2 := free_of_one hqA
  refine callsD_of_wpS Try.func52 rfl fun c₀ cs hu => ?_
  apply wpS_seq
  apply wpS_region
  simp [wpOpsS, go_sem, recoverD, hu, Try.ntmps52, Exit.thenS]
  refine wpS_cond (t := true) (by simp [Act.eval, Array.replicate]) ?_
  simp only [if_true]
  apply wpS_seq
  apply wpS_region
  simp [wpOpsS, go_sem, Exit.thenS, Try.zeroValue24, Try.isAgg24, Try.sizeOf24, Try.underlying24, Array.replicate]
  apply wpS_region
  simp [wpOpsS, go_sem, hn0, hc, hz, hc2, hz2, bodyPostS, results, Try.results52]
  exact fun B h1 h2 h3 => (((Below.refl B w).alloc h3 _).setCell h1 _).setCell h2 _

theorem ended_any (b : Nat) (s : List UInt8) (w : World) (hr : Rd w b s) :
    Calls Try.prog 53 #[.pointer (some ⟨b, 0, none⟩)] w fun e w' => e = .returned (.bool s.isEmpty) ∧ w = w' := by
  have c1 := cell_of_one hr
  clear hr
  go_enter Try.func53, Try.ntmps53
  go_wp2_with fail
  go_ret
  exact ⟨rfl, rfl⟩

theorem catch_idle (p q : Addr) (w : World) :
    CallsD Try.prog 52 #[.pointer (some p), .pointer (some q)] .returning w fun e u' w' => e = .returned (.tuple #[]) ∧ u' = .returning ∧ w' = w := by
  refine callsD_of_wpS Try.func52 rfl fun c₀ cs hu => ?_
  apply wpS_seq
  apply wpS_region
  simp [wpOpsS, go_sem, recoverD, hu, Try.ntmps52, Exit.thenS]
  refine wpS_cond (t := false) (by simp [Act.eval, Array.replicate]) ?_
  simp only [Bool.false_eq_true, if_false]
  refine wpS_of_wp (wp_skip ?_)
  cases c₀
  simp_all [bodyPostS, results, Try.results52]

/-- the three blocks that read has made: the results and the reader -/
def W3 (w : World) (s : List UInt8) : World := ((w.alloc (.cells #[.slice none 0 0] 24)).alloc (.cells #[.bool false] 4)).alloc (.cells #[.string ⟨s.toArray⟩] 66)

theorem W3_rd (w : World) (s : List UInt8) : Rd (W3 w s) (w.heap.size + 1 + 1) s := by
  have := heap_new2 (w.alloc (.cells #[.slice none 0 0] 24)) (.cells #[.bool false] 4) (.cells #[.string ⟨s.toArray⟩] 66)
  simp only [World.size_alloc] at this
  exact this

theorem W3_size (w : World) (s : List UInt8) : (W3 w s).heap.size = w.heap.size + 3 := by simp [W3]

theorem W3_blocks (w : World) (s : List UInt8) : (W3 w s).heap[w.heap.size]? = some (.cells #[.slice none 0 0] 24 (0, 0)) ∧ (W3 w s).heap[w.heap.size + 1]? = some (.cells #[.bool false] 4 (0, 0)) :=
  ⟨alloc_kept (alloc_kept (heap_new _ _) _) _, alloc_kept (heap_new2 _ _ _) _⟩

theorem W3_below (w : World) (s : List UInt8) : Below w.heap.size w (W3 w s) :=
  (((Below.refl w.heap.size w).alloc (Nat.le_refl _) _).alloc (by simp) _).alloc (by simp; omega) _

theorem grown_below {w wr : World} {b B : Nat} (h : w.grownBy wr (some b)) (hB : B ≤ b) (hw : B ≤ w.heap.size) : Below B w wr :=
  ⟨h.os, h.tape, h.output, h.size, fun k hk => h.block k (by omega) (fun e => by injection e; omega)⟩

theorem after_sort {w w1 : World} {s : List UInt8} (hg : (W3 w s).grownBy w1 (some (w.heap.size + 1 + 1))) :
    w1.heap[w.heap.size]? = some (.cells #[.slice none 0 0] 24 (0, 0)) ∧ w1.heap[w.heap.size + 1]? = some (.cells #[.bool false] 4 (0, 0)) ∧ Below w.heap.size w w1 := by
  obtain ⟨h0, h1⟩ := W3_blocks w s
  have hz := W3_size w s
  refine ⟨?_, ?_, (W3_below w s).trans (grown_below hg (by omega) (by omega))⟩
  · rw [hg.block _ (by omega) (fun e => by injection e; omega)]; exact h0
  · rw [hg.block _ (by omega) (fun e => by injection e; omega)]; exact h1

set_option maxHeartbeats 1600000 in
theorem read_bad1 (s : List UInt8) (w : World) (hs : s.length ≤ 65536) (h : rd s = none) :
    Calls Try.prog 46 #[.string ⟨s.toArray⟩, .func (Fn.func 47) #[] #[]] w fun e w' => e = .returned (.tuple #[.agg #[.slice none 0 0], .bool false]) ∧ Below w.heap.size w w' := by
  have hmf : ∀ (fn : Fn) (first cap : Array Value) (w : World), (Instr.makeFunc fn first cap).run Try.prog w = .ok (.func fn first cap) w := fun _ _ _ _ => rfl
  have hc := Lib.hid fun b W hr => (sort_any (s.length + 1) b s W (by omega) hs hr).mono fun e w' hh => hh.2 h
  clear h
  go_enter_defers Try.func46, Try.ntmps46
  go_wp2_with fail
  refine (hc.out _ _ (W3_rd w s)).mono ?_
  rintro e w1 ⟨rfl, hg⟩
  obtain ⟨h0, h1, hb⟩ := after_sort hg
  go_wp2_with fail
  refine leaves_cons (f := 52) (args := #[.pointer (some ⟨w.heap.size, 0, none⟩), .pointer (some ⟨w.heap.size + 1, 0, none⟩)]) (by simp) (by simp [go_sem]) ?_
  refine (catch_panicking w.heap.size (w.heap.size + 1) _ _ [] _ h0 h1 (by omega)).mono ?_
  rintro e u' w'' ⟨rfl, rfl, k0, l0, hB⟩
  simp [Leaves, settle, results, Try.results46, go_sem, k0, l0]
  exact hb.trans (hB _ (Nat.le_refl _) (by omega) hb.size)

set_option maxHeartbeats 1600000 in
theorem read_bad2 (s r : List UInt8) (t : T) (w : World) (hs : s.length ≤ 65536) (h : rd s = some (t, r)) (hr : r.isEmpty = false) :
    Calls Try.prog 46 #[.string ⟨s.toArray⟩, .func (Fn.func 47) #[] #[]] w fun e w' => e = .returned (.tuple #[.agg #[.slice none 0 0], .bool false]) ∧ Below w.heap.size w w' := by
  have hmf : ∀ (fn : Fn) (first cap : Array Value) (w : World), (Instr.makeFunc fn first cap).run Try.prog w = .ok (.func fn first cap) w := fun _ _ _ _ => rfl
  have hc := Lib.hid fun b W hr => (sort_any (s.length + 1) b s W (by omega) hs hr).mono fun e w' hh => hh.1 t _ h
  have HE := Lib.hid fun b W hd => ended_any b r W hd
  rw [hr] at HE
  clear h hr
  go_enter_defers Try.func46, Try.ntmps46
  go_wp2_with fail
  refine (hc.out _ _ (W3_rd w s)).mono ?_
  rintro e w1 ⟨q, c, rfl, hrd, ho, hg⟩
  obtain ⟨h0, h1, hb⟩ := after_sort hg
  have m0 := cell_of_one h0
  have m1 := free_of_one h0
  have h0' := out_set (v' := .slice q t.len c) h0
  have h1' := other_set h1 (by omega) (.slice q t.len c) (a := w.heap.size)
  have hr' := other_set hrd (by omega) (.slice q t.len c) (a := w.heap.size)
  go_wp2_with fail
  refine (HE.out _ _ hr').mono ?_
  rintro e w2 ⟨rfl, rfl⟩
  go_wp2_with fail
  refine (fail_any _).mono ?_
  rintro e w2 ⟨rfl, rfl⟩
  go_wp2_with fail
  refine leaves_cons (f := 52) (args := #[.pointer (some ⟨w.heap.size, 0, none⟩), .pointer (some ⟨w.heap.size + 1, 0, none⟩)]) (by simp) (by simp [go_sem]) ?_
  refine (catch_panicking w.heap.size (w.heap.size + 1) _ _ [] _ h0' h1' (by omega)).mono ?_
  rintro e u' w'' ⟨rfl, rfl, k0, l0, hB⟩
  simp [Leaves, settle, results, Try.results46, go_sem, k0, l0]
  have hb' := hb.setCell (p := ⟨w.heap.size, 0, none⟩) (Nat.le_refl w.heap.size) (.slice q t.len c)
  exact hb'.trans (hB _ (Nat.le_refl _) (by omega) hb'.size)

set_option maxHeartbeats 1600000 in
theorem read_ok (s : List UInt8) (t : T) (w : World) (hs : s.length ≤ 65536) (h : rd s = some (t, [])) :
    Calls Try.prog 46 #[.string ⟨s.toArray⟩, .func (Fn.func 47) #[] #[]] w fun e w' => ∃ q c, e = .returned (.tuple #[.agg #[.slice q t.len c], .bool true]) ∧ Own w' t q c w.heap.size w'.heap.size ∧ Below w.heap.size w w' := by
  have hmf : ∀ (fn : Fn) (first cap : Array Value) (w : World), (Instr.makeFunc fn first cap).run Try.prog w = .ok (.func fn first cap) w := fun _ _ _ _ => rfl
  have hc := Lib.hid fun b W hr => (sort_any (s.length + 1) b s W (by omega) hs hr).mono fun e w' hh => hh.1 t _ h
  have HE := Lib.hid fun b W hd => ended_any b [] W hd
  clear h
  go_enter_defers Try.func46, Try.ntmps46
  go_wp2_with fail
  refine (hc.out _ _ (W3_rd w s)).mono ?_
  rintro e w1 ⟨q, c, rfl, hrd, ho, hg⟩
  obtain ⟨h0, h1, hb⟩ := after_sort hg
  have m0 := cell_of_one h0
  have m1 := free_of_one h0
  have h0' := out_set (v' := .slice q t.len c) h0
  have h1' := other_set h1 (by omega) (.slice q t.len c) (a := w.heap.size)
  have hr' := other_set hrd (by omega) (.slice q t.len c) (a := w.heap.size)
  have k0 := cell_of_one h0'
  have k1 := free_of_one h0'
  have l0 := cell_of_one h1'
  have l1 := free_of_one h1'
  have r0 := cell_of_one hr'
  go_wp2_with fail
  refine (HE.out _ _ hr').mono ?_
  rintro e w2 ⟨rfl, rfl⟩
  go_wp2_with fail
  · refine leaves_cons (f := 52) (args := #[.pointer (some ⟨w.heap.size, 0, none⟩), .pointer (some ⟨w.heap.size + 1, 0, none⟩)]) (by simp) (by simp [go_sem]) ?_
    refine (catch_idle ⟨w.heap.size, 0, none⟩ ⟨w.heap.size + 1, 0, none⟩ _).mono ?_
    rintro e u' w'' ⟨rfl, rfl, rfl⟩
    simp [Leaves, settle, results, Try.results46, go_sem, k0, l0]
    have hz := W3_size w s
    refine ⟨q, c, ⟨rfl, rfl⟩, ?_, ((hb.setCell (by simp) _).setCell (by simp) _).setCell (by simp) _⟩
    refine (((ho.set (by simp [hz]) _).set (by simp [hz]) _).set (by simp [hz]) _).mono (by omega) (by simp)

end Go.Proofs.Yteokoilpnabmhaa
