/-
  The walks of read and bracketed. Conditions: a text of at most 65536 bytes.
-/
import Derived.Test.YteokoilpnabmhaaWalkP
set_option linter.unusedSimpArgs false
set_option linter.unusedVariables false
namespace Go.Proofs.Yteokoilpnabmhaa
open Go.RowKit

/-- what sort does at a rest s -/
def SortOk (w : World) (b : Nat) (t : T) (r : List UInt8) (e : Ending) (w' : World) : Prop :=
  ∃ q c, e = .returned (.agg #[.slice q t.len c]) ∧ Rd w' b r ∧ Own w' t q c w.heap.size w'.heap.size ∧ w.grownBy w' (some b)
def SortBad (w : World) (b : Nat) (e : Ending) (w' : World) : Prop := e = .panicked [{ v := .iface 27 (.int .i64 4), recovered := false }] ∧ w.grownBy w' (some b)

theorem grown_new {w wr : World} {b : Nat} (h : w.grownBy wr (some b)) (x : Obj) : w.grownBy (wr.alloc x) (some b) :=
  grown_tr h ⟨rfl, rfl, rfl, by simp, fun i hi _ => Below.heap_alloc wr x i hi⟩

theorem grown_own {w wr : World} {b : Nat} (h : w.grownBy wr (some b)) {j : Nat} (hj : w.heap.size ≤ j) (u : Value) : w.grownBy (wr.setCell ⟨j, 0, none⟩ u) (some b) :=
  ⟨h.os, h.tape, h.output, by simpa [World.setCell] using h.size, fun i hi hn => (Below.heap_setCell wr _ _ i (show i ≠ j by omega)).trans (h.block i hi hn)⟩

set_option maxHeartbeats 800000 in
theorem bracketed_ok (b : Nat) (s : List UInt8) (h : T) (r : List UInt8) (w : World) (hr : Rd w b s) (h0 : h.len ≠ 0)
    (hs : ∀ W, Rd W b s → Calls Try.prog 47 #[.pointer (some ⟨b, 0, none⟩)] W (SortOk W b h (41 :: r))) :
    Calls Try.prog 56 #[.pointer (some ⟨b, 0, none⟩)] w (SortOk w b h r) := by
  have hd : ((h.len : Int) == 0) = false := by simp; omega
  have HS := Lib.hid hs
  have hlt := lt_of_block hr
  have hn := Lib.hid fun W hr => need_yes b ⟨#[41]⟩ (41 :: r) [41] rfl W hr rfl
  clear hs h0
  go_enter Try.func56, Try.ntmps56
  go_wp2_with fail
  refine (HS.out _ (alloc_kept hr _)).mono ?_
  rintro e w1 ⟨q, c, rfl, hr1, hO, hg⟩
  have hz := hg.size
  simp only [World.size_alloc] at hz hO
  go_wp2_with fail
  refine (hn.out _ (alloc_kept hr1 _)).mono ?_
  rintro e w2 ⟨rfl, hw2⟩
  have hres1 : w1.heap[w.heap.size]? = some (.cells #[.slice none 0 0] 24 (0, 0)) := by
    rw [hg.block _ (by simp) (fun e => by injection e; omega)]; exact heap_new _ _
  have hres2 : w2.heap[w.heap.size]? = some (.cells #[.slice none 0 0] 24 (0, 0)) := by
    rw [← hw2, Below.heap_setCell _ _ _ _ (show w.heap.size ≠ b by omega)]; exact alloc_kept hres1 _
  have hbox2 : w2.heap[w1.heap.size]? = some (.cells #[.slice q h.len c] 24 (0, 0)) := by
    rw [← hw2, Below.heap_setCell _ _ _ _ (show w1.heap.size ≠ b by omega)]; exact heap_new _ _
  have hr2 : Rd w2 b r := by rw [← hw2]; exact rd_set (alloc_kept hr1 _) r
  have hO2 : Own w2 h q c (w.heap.size + 1) w1.heap.size := hO.keep fun j hj hj2 => by
    rw [← hw2, Below.heap_setCell _ _ _ _ (show j ≠ b by omega), Below.heap_alloc _ _ _ hj2]
  have hg2 : w.grownBy w2 (some b) := by
    rw [← hw2]
    exact grown_set (grown_new (grown_tr (grown_new ⟨rfl, rfl, rfl, Nat.le_refl _, fun _ _ _ => rfl⟩ _) hg) _) _
  have hsz2 : w1.heap.size ≤ w2.heap.size := by rw [← hw2]; simp [World.setCell]
  clear hw2
  have k1 := cell_of_one hres2
  have k2 := free_of_one hres2
  have k3 := cell_of_one hbox2
  have HR := Lib.hid hres2
  have HB := Lib.hid hbox2
  have HW := Lib.hid hr2
  clear hres1 hres2 hbox2 hr2 hr1
  go_wp2_with fail
  refine bodyPost_ret (v := .agg #[.slice q h.len c]) (by simp [results, Try.results56, go_sem, k1]) rfl ⟨q, c, rfl, ?_, ?_, grown_own hg2 (Nat.le_refl _) _⟩
  · unfold Rd; rw [Below.heap_setCell _ _ _ _ (show b ≠ w.heap.size by omega)]; exact HW.out
  · have := (hO2.set (a := ⟨w.heap.size, 0, none⟩) (show w.heap.size < w.heap.size + 1 by omega) (.slice q h.len c)).mono (lo' := w.heap.size) (hi' := w2.heap.size) (by omega) hsz2
    simpa [World.setCell] using this

set_option maxHeartbeats 800000 in
theorem bracketed_bad1 (b : Nat) (s : List UInt8) (w : World) (hr : Rd w b s)
    (hs : ∀ W, Rd W b s → Calls Try.prog 47 #[.pointer (some ⟨b, 0, none⟩)] W (SortBad W b)) :
    Calls Try.prog 56 #[.pointer (some ⟨b, 0, none⟩)] w (SortBad w b) := by
  have HS := Lib.hid hs
  clear hs
  go_enter Try.func56, Try.ntmps56
  go_wp2_with fail
  refine (HS.out _ (alloc_kept hr _)).mono ?_
  rintro e w1 ⟨rfl, hg⟩
  go_wp2_with fail
  exact ⟨rfl, rfl, grown_tr (grown_new ⟨rfl, rfl, rfl, Nat.le_refl _, fun _ _ _ => rfl⟩ _) hg⟩

set_option maxHeartbeats 800000 in
theorem bracketed_bad2 (b : Nat) (s : List UInt8) (h : T) (r : List UInt8) (w : World) (hr : Rd w b s) (h0 : h.len = 0)
    (hs : ∀ W, Rd W b s → Calls Try.prog 47 #[.pointer (some ⟨b, 0, none⟩)] W (SortOk W b h r)) :
    Calls Try.prog 56 #[.pointer (some ⟨b, 0, none⟩)] w (SortBad w b) := by
  have hd : ((h.len : Int) == 0) = true := by simp [h0]
  have HS := Lib.hid hs
  clear hs h0
  go_enter Try.func56, Try.ntmps56
  go_wp2_with fail
  refine (HS.out _ (alloc_kept hr _)).mono ?_
  rintro e w1 ⟨q, c, rfl, hr1, hO, hg⟩
  go_wp2_with fail
  refine (fail_any _).mono ?_
  rintro e w2 ⟨rfl, rfl⟩
  go_wp2_with fail
  exact ⟨rfl, rfl, grown_new (grown_tr (grown_new ⟨rfl, rfl, rfl, Nat.le_refl _, fun _ _ _ => rfl⟩ _) hg) _⟩

set_option maxHeartbeats 800000 in
theorem bracketed_bad3 (b : Nat) (s : List UInt8) (h : T) (r : List UInt8) (w : World) (hr : Rd w b s) (h0 : h.len ≠ 0) (hp : pre [41] r = false)
    (hs : ∀ W, Rd W b s → Calls Try.prog 47 #[.pointer (some ⟨b, 0, none⟩)] W (SortOk W b h r)) :
    Calls Try.prog 56 #[.pointer (some ⟨b, 0, none⟩)] w (SortBad w b) := by
  have hd : ((h.len : Int) == 0) = false := by simp; omega
  have HS := Lib.hid hs
  have hn := Lib.hid fun W hr => need_no b ⟨#[41]⟩ r [41] rfl W hr hp
  clear hs h0 hp
  go_enter Try.func56, Try.ntmps56
  go_wp2_with fail
  refine (HS.out _ (alloc_kept hr _)).mono ?_
  rintro e w1 ⟨q, c, rfl, hr1, hO, hg⟩
  go_wp2_with fail
  refine (hn.out _ (alloc_kept hr1 _)).mono ?_
  rintro e w2 ⟨rfl, rfl⟩
  go_wp2_with fail
  exact ⟨rfl, rfl, grown_set (grown_new (grown_tr (grown_new ⟨rfl, rfl, rfl, Nat.le_refl _, fun _ _ _ => rfl⟩ _) hg) _) _⟩

/-- what is left of the reader's text, for the loop's measure -/
def restLen (w : World) (b : Nat) : Nat :=
  match w.cell? ⟨b, 0, none⟩ with
  | some (.string x) => x.size
  | _ => 0

theorem restLen_rd {w : World} {b : Nat} {s : List UInt8} (h : Rd w b s) : restLen w b = s.length := by
  have := cell_of_one h
  unfold restLen
  rw [this]
  simp [ByteArray.size]

/-- what sort does at s, whatever s is -/
def SortAny (w : World) (b : Nat) (s : List UInt8) (e : Ending) (w' : World) : Prop :=
  (∀ t r, rd s = some (t, r) → SortOk w b t r e w') ∧ (rd s = none → SortBad w b e w')

theorem rd_o_more (r : List UInt8) : rd (111 :: 32 :: 62 :: 32 :: r) = (rd r).map (fun x => (T.cons T.nil x.1, x.2)) := by
  rw [rd_step, if_neg (by simp [Proofs.Yteokoilpnabmhaa.pre]), if_pos (by simp [Proofs.Yteokoilpnabmhaa.pre]), if_pos (by simp [Proofs.Yteokoilpnabmhaa.pre])]; rfl

theorem rd_o_end (r : List UInt8) (h : Proofs.Yteokoilpnabmhaa.pre [32, 62, 32] r = false) : rd (111 :: r) = some (T.nil, r) := by
  rw [rd_step, if_neg (by simp [Proofs.Yteokoilpnabmhaa.pre]), if_pos (by simp [Proofs.Yteokoilpnabmhaa.pre])]
  simp [h]

theorem rd_neither (r : List UInt8) (h1 : ¬ Proofs.Yteokoilpnabmhaa.pre [40] r = true) (h2 : ¬ Proofs.Yteokoilpnabmhaa.pre [111] r = true) : rd r = none := by
  rw [rd_step, if_neg h1, if_neg h2]

theorem rd_open_none (s : List UInt8) (h : rd s = none) : rd (40 :: s) = none := by rw [rd_open, h]

theorem rd_open_bad (s : List UInt8) (h : T) (r : List UInt8) (hs : rd s = some (h, r)) (hb : ¬ (h.len ≠ 0 ∧ Proofs.Yteokoilpnabmhaa.pre [41] r = true ∧ Proofs.Yteokoilpnabmhaa.pre [32, 62, 32] (r.drop 1) = true)) : rd (40 :: s) = none := by
  rw [rd_open, hs]
  simp only
  rw [if_neg hb]

theorem rd_open_more (s : List UInt8) (h : T) (r : List UInt8) (hs : rd s = some (h, 41 :: 32 :: 62 :: 32 :: r)) (h0 : h.len ≠ 0) : rd (40 :: s) = (rd r).map (fun x => (T.cons h x.1, x.2)) := by
  rw [rd_open, hs]
  simp only
  rw [if_pos ⟨h0, by simp [Proofs.Yteokoilpnabmhaa.pre], by simp [Proofs.Yteokoilpnabmhaa.pre]⟩]
  rfl

theorem rd_push {s r r4 : List UInt8} {acc h : T} (hrd : rd s = (rd r).map (fun x => (acc.app x.1, x.2))) (h1 : rd r = (rd r4).map (fun x => (T.cons h x.1, x.2))) : rd s = (rd r4).map (fun x => ((acc.snoc h).app x.1, x.2)) := by
  rw [hrd, h1, Option.map_map]
  congr 1
  funext x
  simp [T.app_snoc]

theorem any_bad {w w' : World} {b : Nat} {s r : List UInt8} {acc : T} {e : Ending} (hrd : rd s = (rd r).map (fun x => (acc.app x.1, x.2))) (h1 : rd r = none) (h : SortBad w b e w') : SortAny w b s e w' := by
  rw [h1] at hrd
  exact ⟨fun t r' h2 => (by rw [hrd] at h2; cases h2), fun _ => h⟩

theorem any_ok {w w' : World} {b : Nat} {s r r1 : List UInt8} {acc : T} {e : Ending} (hrd : rd s = (rd r).map (fun x => (acc.app x.1, x.2))) (h1 : rd r = some (T.nil, r1)) (h : SortOk w b acc r1 e w') : SortAny w b s e w' := by
  rw [h1] at hrd
  simp only [Option.map_some, T.app_nil] at hrd
  exact ⟨fun t r' h2 => (by rw [hrd] at h2; simp only [Option.some.injEq, Prod.mk.injEq] at h2; obtain ⟨rfl, rfl⟩ := h2; exact h), fun h2 => (by rw [hrd] at h2; cases h2)⟩

theorem out_push {w W2 w3 : World} {b : Nat} {acc : T} {q : Option Addr} {c : Nat} {xs : List Value} {r : List UInt8} {Y : Obj} (S : St w W2 b acc q c xs r) (hgrow : (W2.alloc Y).grownBy w3 (Value.slice q acc.len c).ownBlock) :
    w3.heap[w.heap.size + 1]? = some (.cells #[.slice q acc.len c] 24 (0, 0)) := by
  have hlt := S.own.lt
  have o1 := lt_of_block S.out
  rw [hgrow.block _ (by simp only [World.size_alloc]; omega) (fun e => by have := (hlt _ e.symm).1; omega), Below.heap_alloc _ _ _ o1]
  exact S.out

theorem grown_refl (w : World) (b : Nat) : w.grownBy w (some b) := ⟨rfl, rfl, rfl, Nat.le_refl _, fun _ _ _ => rfl⟩

theorem rest_lt {w w' : World} {b : Nat} {s s' : List UInt8} (h : Rd w b s) (h' : Rd w' b s') (hl : s'.length < s.length) : restLen w' b < restLen w b := by
  rw [restLen_rd h, restLen_rd h']; exact hl

set_option maxHeartbeats 1600000 in
theorem sort_any (n : Nat) : ∀ (b : Nat) (s : List UInt8) (w : World), s.length < n → s.length ≤ 65536 → Rd w b s →
    Calls Try.prog 47 #[.pointer (some ⟨b, 0, none⟩)] w (SortAny w b s) := by
  obtain ⟨i0, hi0, hz0, hz1', hz2⟩ := info_parts infoS
  induction n with
  | zero => intro b s w h; omega
  | succ n ih =>
    intro b s w hn hs hr
    have IH := Lib.hid ih
    clear ih
    have hlt := lt_of_block hr
    have hst : St w ((w.alloc (.cells #[.slice none 0 0] 24)).alloc (.cells #[.slice none 0 0] 24)) b .nil none 0 [] s := by
      refine ⟨alloc_kept (alloc_kept hr _) _, World.ownsRow_nil _ _ _ _, ⟨rfl, by simp⟩, heap_new2 _ _ _, alloc_kept (heap_new _ _) _, grown_new (grown_new ⟨rfl, rfl, rfl, Nat.le_refl _, fun _ _ _ => rfl⟩ _) _, hlt⟩
    clear hr
    go_enter Try.func47, Try.ntmps47
    go_wp2_with fail
    go_loopw [5] (fun _ wr => ∃ (acc : T) (q : Option Addr) (c : Nat) (xs : List Value) (r : List UInt8), acc.len + r.length ≤ s.length ∧ rd s = (rd r).map (fun x => (acc.app x.1, x.2)) ∧ St w wr b acc q c xs r)
      (fun _ wr => restLen wr b)
    case atStart => exact ⟨.nil, none, 0, [], s, by simp [T.len], by cases rd s <;> rfl, hst⟩
    case round =>
      clear hst
      obtain ⟨acc, q, c, xs, r, hlen, hrd, hst⟩ := hrel
      have HD := Lib.hid hrd
      clear hrd
      have hmx : acc.len + 1 ≤ maxLen := by simp only [maxLen]; omega
      have hby : (acc.len + 1) * 24 ≤ 140737488355328 := by omega
      by_cases p40 : pre [40] r = true
      · obtain ⟨s1, rfl⟩ := (pre_iff _ _).1 p40
        clear p40
        simp only [List.singleton_append, List.length_cons] at hlen
        have c1 := Lib.hid fun W hr => skip_yes b ⟨#[40]⟩ (40 :: s1) [40] rfl W hr rfl
        have HS := Lib.hid fun W hr => IH.out b s1 W (by omega) (by omega) hr
        cases h1 : rd s1 with
        | none =>
          have c2 := Lib.hid fun W hr => bracketed_bad1 b s1 W hr fun W hr => (HS.out W hr).mono fun _ _ h => h.2 h1
          have H1 := Lib.hid (rd_open_none s1 h1)
          clear h1
          go_wp2_with fail
          refine (c1.out _ hst.rest).mono ?_
          rintro e w1 ⟨rfl, hw1⟩
          have S1 : St w w1 b acc q c xs s1 := by rw [← hw1]; exact hst.skip s1
          clear hw1
          go_wp2_with fail
          refine (c2.out _ S1.rest).mono ?_
          rintro e w2 ⟨rfl, hg2⟩
          go_wp2_with fail
          exact ⟨rfl, any_bad HD.out H1.out ⟨rfl, grown_tr S1.grown hg2⟩⟩
        | some x =>
          obtain ⟨h, r1⟩ := x
          have hl1 := rd_lt h1
          by_cases h0 : h.len = 0
          · have c2 := Lib.hid fun W hr => bracketed_bad2 b s1 h r1 W hr h0 fun W hr => (HS.out W hr).mono fun _ _ h => h.1 _ _ h1
            have H1 := Lib.hid (rd_open_bad s1 h r1 h1 (fun hh => hh.1 h0))
            clear h1 h0
            go_wp2_with fail
            refine (c1.out _ hst.rest).mono ?_
            rintro e w1 ⟨rfl, hw1⟩
            have S1 : St w w1 b acc q c xs s1 := by rw [← hw1]; exact hst.skip s1
            clear hw1
            go_wp2_with fail
            refine (c2.out _ S1.rest).mono ?_
            rintro e w2 ⟨rfl, hg2⟩
            go_wp2_with fail
            exact ⟨rfl, any_bad HD.out H1.out ⟨rfl, grown_tr S1.grown hg2⟩⟩
          by_cases p41 : pre [41] r1 = true
          case neg =>
            have c2 := Lib.hid fun W hr => bracketed_bad3 b s1 h r1 W hr h0 (by simpa using p41) fun W hr => (HS.out W hr).mono fun _ _ h => h.1 _ _ h1
            have H1 := Lib.hid (rd_open_bad s1 h r1 h1 (fun hh => p41 hh.2.1))
            clear h1 h0 p41
            go_wp2_with fail
            refine (c1.out _ hst.rest).mono ?_
            rintro e w1 ⟨rfl, hw1⟩
            have S1 : St w w1 b acc q c xs s1 := by rw [← hw1]; exact hst.skip s1
            clear hw1
            go_wp2_with fail
            refine (c2.out _ S1.rest).mono ?_
            rintro e w2 ⟨rfl, hg2⟩
            go_wp2_with fail
            exact ⟨rfl, any_bad HD.out H1.out ⟨rfl, grown_tr S1.grown hg2⟩⟩
          case pos =>
            obtain ⟨r2, rfl⟩ := (pre_iff _ _).1 p41
            clear p41
            simp only [List.singleton_append, List.length_cons] at hl1
            have c2 := Lib.hid fun W hr => bracketed_ok b s1 h r2 W hr h0 fun W hr => (HS.out W hr).mono fun _ _ h => h.1 _ _ h1
            by_cases p32 : pre [32, 62, 32] r2 = true
            case neg =>
              have c3 := Lib.hid fun W hr => need_no b ⟨#[32, 62, 32]⟩ r2 [32, 62, 32] rfl W hr (by simpa using p32)
              have H1 := Lib.hid (rd_open_bad s1 h _ h1 (fun hh => p32 hh.2.2))
              clear h1 h0 p32
              go_wp2_with fail
              refine (c1.out _ hst.rest).mono ?_
              rintro e w1 ⟨rfl, hw1⟩
              have S1 : St w w1 b acc q c xs s1 := by rw [← hw1]; exact hst.skip s1
              clear hw1
              go_wp2_with fail
              refine (c2.out _ S1.rest).mono ?_
              rintro e w2 ⟨q1, c1', rfl, hr2, hO2, hg2⟩
              have S2 := S1.step hg2 hr2
              go_wp2_with fail
              refine (c3.out _ (S2.alloc _).rest).mono ?_
              rintro e w3 ⟨rfl, hw3⟩
              have S3 : w.grownBy w3 (some b) := by rw [← hw3]; exact ((S2.alloc _).skip r2).grown
              clear hw3
              go_wp2_with fail
              exact ⟨rfl, any_bad HD.out H1.out ⟨rfl, S3⟩⟩
            case pos =>
              obtain ⟨r4, rfl⟩ := (pre_iff _ _).1 p32
              clear p32
              simp only [List.cons_append, List.nil_append, List.length_cons] at hl1
              have c3 := Lib.hid fun W hr => need_yes b ⟨#[32, 62, 32]⟩ (32 :: 62 :: 32 :: r4) [32, 62, 32] rfl W hr rfl
              have H1 := Lib.hid (rd_open_more s1 h r4 h1 h0)
              clear h1 h0
              go_wp2_with fail
              refine (c1.out _ hst.rest).mono ?_
              rintro e w1 ⟨rfl, hw1⟩
              have S1 : St w w1 b acc q c xs s1 := by rw [← hw1]; exact hst.skip s1
              clear hw1
              go_wp2_with fail
              refine (c2.out _ S1.rest).mono ?_
              rintro e w2 ⟨q1, c1', rfl, hr2, hO2, hg2⟩
              have S2 := S1.step hg2 hr2
              go_wp2_with fail
              refine (c3.out _ (S2.alloc _).rest).mono ?_
              rintro e w3 ⟨rfl, hw3⟩
              have hlw := S2.lt
              have hsz := S2.grown.size
              have ho2 := lt_of_block S2.out
              have hg3 : w1.grownBy w3 (some b) := by rw [← hw3]; exact grown_set (grown_new hg2 _) _
              have SW : St w w3 b acc q c xs r4 := by rw [← hw3]; exact (S2.alloc _).skip r4
              have hbox : w3.heap[w2.heap.size]? = some (.cells #[.slice q1 h.len c1'] 24 (0, 0)) := by
                rw [← hw3, Below.heap_setCell _ _ _ _ (show w2.heap.size ≠ b by omega)]; exact heap_new _ _
              have hO3 : Own w3 h q1 c1' w1.heap.size w2.heap.size := hO2.keep fun j hj hj2 => by
                have := S1.grown.size
                rw [← hw3, Below.heap_setCell _ _ _ _ (show j ≠ b by omega), Below.heap_alloc _ _ _ hj2]
              have hsz3 : w2.heap.size ≤ w3.heap.size := by rw [← hw3]; simp [World.setCell]
              clear hw3
              have k1 := cell_of_one SW.out
              have k3 := cell_of_one hbox
              have hbase : w.heap.size + 2 ≤ w3.heap.size := by omega
              have hg2s := hg2.size
              clear hbox
              go_wp2_with (at_builtin; refine wpList_append_lies _ rfl _ _ 22 rfl (w.heap.size + 2) 24 i0 (.agg #[.slice none 0 0]) 1 24 Try.underlying22 hi0 hz0 hz1' hz2 rfl Nat.one_pos (.slice q acc.len c) acc.len xs rfl (SW.own.alloc _) ⟨w3.heap.size, 0, none⟩ 1 1 [.slice q1 h.len c1'] rfl rfl (cell_one_new _ _ _) (one_slice _ _ _) Nat.one_pos hmx hby (base_le _ hbase) (w3.heap.size + 1) (size_new _ _) ?_; intro g cp w9 hown3 hgrow hat hglt; have hh3 := out_push SW hgrow; have o1 := cell_of_one hh3; have o2 := free_of_one hh3; clear hh3)
              have P := St.push S1 hg3 SW.rest hO3 hg2s hsz3 hown3 hgrow hat
              clear hown3 hgrow hat o1 o2 k1 k3
              go_roundw
              case rel => exact ⟨acc.snoc h, some ⟨g, 0, none⟩, cp, _, r4, by rw [T.len_snoc]; omega, rd_push HD.out H1.out, P⟩
              case measure => exact rest_lt hst.rest P.rest (by simp; omega)
      · by_cases p111 : pre [111] r = true
        · have c1 := Lib.hid fun W hr => skip_no b ⟨#[40]⟩ r [40] rfl W hr (by simpa using p40)
          obtain ⟨r1, rfl⟩ := (pre_iff _ _).1 p111
          clear p40 p111
          simp only [List.singleton_append, List.length_cons] at hlen
          have c2 := Lib.hid fun W hr => need_yes b ⟨#[111]⟩ (111 :: r1) [111] rfl W hr rfl
          by_cases p32 : pre [32, 62, 32] r1 = true
          · obtain ⟨r4, rfl⟩ := (pre_iff _ _).1 p32
            clear p32
            simp only [List.cons_append, List.nil_append, List.length_cons] at hlen
            have c3 := Lib.hid fun W hr => skip_yes b ⟨#[32, 62, 32]⟩ (32 :: 62 :: 32 :: r4) [32, 62, 32] rfl W hr rfl
            have H1 := Lib.hid (rd_o_more r4)
            go_wp2_with fail
            refine (c1.out _ hst.rest).mono ?_
            rintro e w1 ⟨rfl, hw1⟩
            have S1 : St w w1 b acc q c xs (111 :: 32 :: 62 :: 32 :: r4) := by rw [← hw1]; exact hst.skip _
            clear hw1
            go_wp2_with fail
            refine (c2.out _ S1.rest).mono ?_
            rintro e w2 ⟨rfl, hw2⟩
            have S2 : St w w2 b acc q c xs (32 :: 62 :: 32 :: r4) := by rw [← hw2]; exact S1.skip _
            clear hw2
            go_wp2_with fail
            refine (c3.out _ S2.rest).mono ?_
            rintro e w3 ⟨rfl, hw3⟩
            have SW : St w w3 b acc q c xs r4 := by rw [← hw3]; exact S2.skip _
            clear hw3
            have k1 := cell_of_one SW.out
            have ho2 := lt_of_block SW.out
            have hbase : w.heap.size + 2 ≤ w3.heap.size := by omega
            go_wp2_with (at_builtin; refine wpList_append_lies _ rfl _ _ 22 rfl (w.heap.size + 2) 24 i0 (.agg #[.slice none 0 0]) 1 24 Try.underlying22 hi0 hz0 hz1' hz2 rfl Nat.one_pos (.slice q acc.len c) acc.len xs rfl (SW.own.alloc _) ⟨w3.heap.size, 0, none⟩ 1 1 [.slice none 0 0] rfl rfl (cell_one_new _ _ _) (one_slice _ _ _) Nat.one_pos hmx hby (base_le _ hbase) (w3.heap.size + 1) (size_new _ _) ?_; intro g cp w9 hown3 hgrow hat hglt; have hh3 := out_push SW hgrow; have o1 := cell_of_one hh3; have o2 := free_of_one hh3; clear hh3)
            have P := St.push (h := .nil) SW (grown_refl _ _) SW.rest (own_nil _ _ _) (Nat.le_refl _) (Nat.le_refl _) hown3 hgrow hat
            clear hown3 hgrow hat o1 o2 k1
            go_roundw
            case rel => exact ⟨acc.snoc .nil, some ⟨g, 0, none⟩, cp, _, r4, by rw [T.len_snoc]; omega, rd_push HD.out H1.out, P⟩
            case measure => exact rest_lt hst.rest P.rest (by simp; omega)
          · have c3 := Lib.hid fun W hr => skip_no b ⟨#[32, 62, 32]⟩ r1 [32, 62, 32] rfl W hr (by simpa using p32)
            have H1 := Lib.hid (rd_o_end r1 (by simpa using p32))
            clear p32
            go_wp2_with fail
            refine (c1.out _ hst.rest).mono ?_
            rintro e w1 ⟨rfl, hw1⟩
            have S1 : St w w1 b acc q c xs (111 :: r1) := by rw [← hw1]; exact hst.skip _
            clear hw1
            go_wp2_with fail
            refine (c2.out _ S1.rest).mono ?_
            rintro e w2 ⟨rfl, hw2⟩
            have S2 : St w w2 b acc q c xs r1 := by rw [← hw2]; exact S1.skip _
            clear hw2
            go_wp2_with fail
            refine (c3.out _ S2.rest).mono ?_
            rintro e w3 ⟨rfl, hw3⟩
            have SW : St w w3 b acc q c xs r1 := by rw [← hw3]; exact S2.skip _
            clear hw3
            have k1 := cell_of_one SW.out
            have k2 := cell_of_one SW.res
            have k3 := free_of_one SW.res
            go_wp2_with fail
            have hlw := SW.lt
            refine bodyPost_ret (v := .agg #[.slice q acc.len c]) (by simp [results, Try.results47, go_sem, k2]) rfl (any_ok HD.out H1.out ⟨q, c, rfl, ?_, ?_, grown_own SW.grown (Nat.le_refl _) _⟩)
            · unfold Rd; rw [Below.heap_setCell _ _ _ _ (show b ≠ w.heap.size by omega)]; exact SW.rest
            · have got : Got w3 24 acc acc.len (.slice q acc.len c) (w.heap.size + 2) := ⟨xs, SW.own, by rw [T.take_len]; exact SW.kids⟩
              obtain ⟨q', c', he, hO⟩ := got.finish (Nat.le_refl _) (Nat.lt_irrefl _)
              obtain ⟨rfl, rfl⟩ : q = q' ∧ c = c' := by simpa using he
              have := (hO.set (a := ⟨w.heap.size, 0, none⟩) (show w.heap.size < w.heap.size + 2 by omega) (.slice q acc.len c)).mono (lo' := w.heap.size) (hi' := w3.heap.size) (by omega) (Nat.le_refl _)
              simpa [World.setCell] using this
        · have c1 := Lib.hid fun W hr => skip_no b ⟨#[40]⟩ r [40] rfl W hr (by simpa using p40)
          have c2 := Lib.hid fun W hr => need_no b ⟨#[111]⟩ r [111] rfl W hr (by simpa using p111)
          have H1 := Lib.hid (rd_neither r p40 p111)
          clear p40 p111
          go_wp2_with fail
          refine (c1.out _ hst.rest).mono ?_
          rintro e w1 ⟨rfl, hw1⟩
          have S1 : St w w1 b acc q c xs r := by rw [← hw1]; exact hst.skip _
          clear hw1
          go_wp2_with fail
          refine (c2.out _ S1.rest).mono ?_
          rintro e w2 ⟨rfl, hw2⟩
          have S2 : w.grownBy w2 (some b) := by rw [← hw2]; exact (S1.skip r).grown
          clear hw2
          go_wp2_with fail
          exact ⟨rfl, any_bad HD.out H1.out ⟨rfl, S2⟩⟩

end Go.Proofs.Yteokoilpnabmhaa
