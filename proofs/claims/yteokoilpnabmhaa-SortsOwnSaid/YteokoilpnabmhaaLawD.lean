/-
  The walk of the statement on what is modified: turn changes the rows of a fresh sort alone. Conditions: none but that the sort lies in memory.
-/
import Derived.Test.YteokoilpnabmhaaLawC
set_option linter.unusedSimpArgs false
set_option linter.unusedVariables false
namespace Go.Proofs.Yteokoilpnabmhaa
open Go.RowKit

/-- block b, blocks from lo to hi and new blocks alone have turned -/
structure Ch (w w' : World) (b lo hi : Nat) : Prop where
  os : w'.os = w.os
  tape : w'.tape = w.tape
  output : w'.output = w.output
  size : w.heap.size ≤ w'.heap.size
  block : ∀ j, j < w.heap.size → j ≠ b → ¬ (lo ≤ j ∧ j < hi) → w'.heap[j]? = w.heap[j]?

theorem Ch.refl (w : World) (b lo hi : Nat) : Ch w w b lo hi := ⟨rfl, rfl, rfl, Nat.le_refl _, fun _ _ _ _ => rfl⟩

theorem Ch.trans {a w w' : World} {b lo hi : Nat} (h : Ch a w b lo hi) (k : Ch w w' b lo hi) : Ch a w' b lo hi :=
  ⟨k.os.trans h.os, k.tape.trans h.tape, k.output.trans h.output, Nat.le_trans h.size k.size, fun j h1 h2 h3 => (k.block j (Nat.lt_of_lt_of_le h1 h.size) h2 h3).trans (h.block j h1 h2 h3)⟩

theorem Ch.mono {w w' : World} {b b' lo hi l m : Nat} (h : Ch w w' b' l m) (hb : b' = b ∨ (lo ≤ b' ∧ b' < hi)) (h1 : lo ≤ l) (h2 : m ≤ hi) : Ch w w' b lo hi :=
  ⟨h.os, h.tape, h.output, h.size, fun j a c d => h.block j a (by rintro rfl; rcases hb with rfl | hb; exact c rfl; exact d hb) (fun e => d ⟨by omega, by omega⟩)⟩

theorem Ch.set {w : World} (b o : Nat) (u : Value) (lo hi : Nat) : Ch w (w.setCell ⟨b, o, none⟩ u) b lo hi :=
  ⟨rfl, rfl, rfl, by simp [World.setCell], fun j _ h _ => Below.heap_setCell w _ _ j h⟩

theorem Ch.new (w : World) (x : Obj) (b lo hi : Nat) : Ch w (w.alloc x) b lo hi := ⟨rfl, rfl, rfl, by simp, fun j h _ _ => Below.heap_alloc w x j h⟩

theorem Ch.below {w w' : World} {b lo hi B : Nat} (h : Ch w w' b lo hi) (hw : B ≤ w.heap.size) (hb : B ≤ b) (hl : B ≤ lo) : Below B w w' :=
  ⟨h.os, h.tape, h.output, h.size, fun k hk => h.block k (by omega) (by omega) (by omega)⟩

/-- the cells of a row from the k-th on -/
def RowFrom (w : World) (b k : Nat) (us : List Value) : Prop := ∀ i v, k ≤ i → us[i]? = some v → w.cell? ⟨b, i, none⟩ = some v ∧ w.frozen? ⟨b, i, none⟩ = false

theorem RowFrom.keep {w w' : World} {b k : Nat} {us : List Value} (hk : w'.heap[b]? = w.heap[b]?) (h : RowFrom w b k us) : RowFrom w' b k us :=
  fun i v hi hu => ⟨by rw [World.cell?_of_block (w := w) hk]; exact (h i v hi hu).1, by rw [World.frozen?_of_block (w := w) hk]; exact (h i v hi hu).2⟩

theorem RowFrom.next {w : World} {b k : Nat} {us : List Value} (h : RowFrom w b k us) (u : Value) : RowFrom (w.setCell ⟨b, k, none⟩ u) b (k + 1) us := by
  intro i v hi hu
  obtain ⟨h1, h2⟩ := h i v (by omega) hu
  refine ⟨?_, ?_⟩
  · rw [← h1]
    unfold World.cell? World.setCell
    simp only [Array.getElem?_modify]
    cases hh : w.heap[b]? with
    | none => simp [hh]
    | some o => cases o <;> simp [hh, Array.getElem?_modify, show ¬ k = i by omega]
  · rw [← h2]
    unfold World.frozen? World.setCell
    simp only [Array.getElem?_modify]
    cases hh : w.heap[b]? with
    | none => simp [hh]
    | some o => cases o <;> simp [hh]

theorem RowFrom.alloc {w : World} {b k : Nat} {us : List Value} (hb : b < w.heap.size) (h : RowFrom w b k us) (x : Obj) : RowFrom (w.alloc x) b k us := h.keep (Below.heap_alloc _ _ _ hb)

theorem getElem?_drop_head {us : List Value} {k : Nat} {v : Value} {rest : List Value} (h : us.drop k = v :: rest) : us[k]? = some v ∧ us.drop (k + 1) = rest := by
  constructor
  · have : (us.drop k)[0]? = some v := by rw [h]; rfl
    simpa using this
  · have h2 : (us.drop k).drop 1 = rest := by rw [h]; rfl
    simpa [Nat.add_comm] using h2

set_option maxHeartbeats 400000 in
theorem turn_none (w : World) (p : Option Addr) (n c : Nat) (h : n = 0) :
    Calls Try.prog 30 #[.slice p n c] w fun e w' => e = .returned (.tuple #[]) ∧ w = w' := by
  subst h
  go_enter Try.func30, Try.ntmps30
  go_wp2_with fail
  go_loopw [2, 5] (fun _ i wr => i = .int .i64 0 ∧ w = wr) (fun _ _ _ => 0)
  case atStart => exact ⟨rfl, rfl⟩
  case round =>
    obtain ⟨rfl, rfl⟩ := hrel
    go_wp2_with fail
    go_end0
    exact ⟨rfl, rfl⟩

set_option maxHeartbeats 1600000 in
theorem turn_any (N : Nat) : ∀ (t : T) (w : World) (c b lo hi : Nat) (us : List Value), t.nodes ≤ N → t.nodes ≤ 60 → RowIs w b us → Kids w t us (some b) lo hi → hi ≤ w.heap.size → b < w.heap.size →
    Calls Try.prog 30 #[.slice (some ⟨b, 0, none⟩) t.len c] w fun e w' => e = .returned (.tuple #[]) ∧ Ch w w' b lo hi := by
  induction N with
  | zero => intro t w c b lo hi us hN; have := t.nodes_pos; omega
  | succ N ih =>
    intro t w c b lo hi us hN h60 hrow hkids hhi hbw
    have hlen := t.len_lt_nodes
    have hn60 : t.len ≤ 60 := by omega
    have IH := Lib.hid ih
    clear ih
    have hrow0 : RowFrom w b 0 us := fun i v _ hu => hrow i v hu
    have hk0 : Kids w (t.drop 0) (us.drop 0) (some b) lo hi := by rw [T.drop_zero]; exact hkids
    clear hrow hkids
    go_enter Try.func30, Try.ntmps30
    go_wp2_with fail
    go_loopw [2, 5] (fun _ i wr => ∃ k l : Nat, k ≤ t.len ∧ i = .int .i64 (k : Int) ∧ lo ≤ l ∧ RowFrom wr b k us ∧ Kids wr (t.drop k) (us.drop k) (some b) l hi ∧ Ch w wr b lo hi)
      (fun _ i _ => t.len - (intOf i).toNat)
    case atStart => exact ⟨0, lo, Nat.zero_le _, rfl, Nat.le_refl _, hrow0, hk0, Ch.refl _ _ _ _⟩
    case round =>
      clear hrow0 hk0
      obtain ⟨k, l0, hk, rfl, hl0, hrow, hkids, hch⟩ := hrel
      by_cases hlt : k < t.len
      · rw [T.drop_cons t k hlt] at hkids
        obtain ⟨l, m, c1, p1, rest, hus, hl1, hl2, hbn, h5, h6, h7, h8, hrest⟩ := hkids
        obtain ⟨hu1, hu2⟩ := getElem?_drop_head hus
        obtain ⟨hc1, hf1⟩ := hrow k _ (Nat.le_refl _) hu1
        have hle := hrest.le
        have hb' := hbn b rfl
        have hg := t.nodes_get k hlt
        have hz := hch.size
        have HU := Lib.hid hu2
        have HU1 := Lib.hid hu1
        clear hus hu2 hu1
        have hbwr : b < wr.heap.size := by omega
        by_cases h0 : (t.get k).len = 0
        · have hd : (((t.get k).len : Int) == 0) = true := by simp [h0]
          have HZ := Lib.hid h0
          clear h0 h8
          go_wp2_with fail
          refine (turn_none _ _ _ _ HZ.out).mono ?_
          rintro e w1 ⟨rfl, rfl⟩
          go_wp2_with fail
          go_roundw
          case rel => exact ⟨k + 1, m, by omega, by go_num, by omega, ((hrow.next _).alloc (by simpa [World.setCell] using hbwr) _), by rw [HU.out]; exact hrest.keep fun j a d _ => by rw [Below.heap_alloc _ _ _ (by simp only [World.setCell, Array.size_modify]; omega), Below.heap_setCell _ _ _ _ (by rintro rfl; simp_all)], (hch.trans (Ch.set _ _ _ _ _)).trans (Ch.new _ _ _ _ _)⟩
          case measure => simp [intOf]; omega
        · rcases h8 with h8 | ⟨b', us', rfl, hb1, hb2, hr, hkk⟩
          · exact absurd h8 h0
          have hd : (((t.get k).len : Int) == 0) = false := by simp; omega
          clear h0
          go_wp2_with fail
          refine (IH.out (t.get k) _ c1 b' l m us' (by omega) (by omega) hr hkk (by omega) (by omega)).mono ?_
          rintro e w1 ⟨rfl, hch1⟩
          have hblk : w1.heap[b]? = wr.heap[b]? := hch1.block b hbwr (by omega) (by omega)
          have hrow1 := hrow.keep hblk
          obtain ⟨hc2, hf2⟩ := hrow1 k _ (Nat.le_refl _) HU1.out
          have HB := Lib.hid hblk
          clear hblk
          go_wp2_with fail
          go_roundw
          case rel => exact ⟨k + 1, m, by omega, by go_num, by omega, hrow1.next _, by rw [HU.out]; exact hrest.keep fun j a d e => by rw [Below.heap_setCell _ _ _ _ (by rintro rfl; exact e rfl)]; exact hch1.block j (by omega) (by omega) (by omega), (hch.trans (hch1.mono (Or.inr ⟨by omega, by omega⟩) (by omega) (by omega))).trans (Ch.set _ _ _ _ _)⟩
          case measure => simp [intOf]; omega
      · go_wp2_with fail
        go_end0
        exact ⟨rfl, hch⟩

/-- turn, of what Behind has made: nothing that was there before turns -/
theorem turn_own (u : T) (w0 w : World) (q : Option Addr) (c : Nat) (x : Obj) (h60 : u.nodes ≤ 60) (hO : Own w u q c w0.heap.size w.heap.size) (hb : Below w0.heap.size w0 w) :
    Calls Try.prog 30 #[.slice q u.len c] (w.alloc x) fun e w' => e = .returned (.tuple #[]) ∧ Below w0.heap.size w0 w' := by
  have h1 : Below w0.heap.size w0 (w.alloc x) := hb.alloc hb.size x
  obtain ⟨o1, o2, o3, o4⟩ := hO
  rcases o4 with o4 | ⟨b, us, rfl, hl, hh, hr, hk⟩
  · exact (turn_none _ _ _ _ o4).mono fun _ w' ⟨h2, h3⟩ => ⟨h2, h3 ▸ h1⟩
  · have hr' : RowIs (w.alloc x) b us := hr.keep (Below.heap_alloc _ _ _ hh)
    have hk' : Kids (w.alloc x) u us (some b) w0.heap.size w.heap.size := hk.keep fun j _ d _ => Below.heap_alloc _ _ _ d
    refine (turn_any u.nodes u _ c b _ _ us (Nat.le_refl _) h60 hr' hk' (by simp) (by simp; omega)).mono fun _ w' ⟨h2, h3⟩ => ⟨h2, h1.trans ?_⟩
    have := h1.size
    exact h3.below this hl (Nat.le_refl _)

set_option maxHeartbeats 1600000 in
theorem law_own (t : T) (w : World) (p : Option Addr) (n cap : Nat) (k : Int) (his : IsT w t p n cap) :
    Calls Try.prog 12 #[.agg #[.slice p n cap], .int .i64 k] w fun e w' => e = .returned (.bool true) ∧ Below w.heap.size w w' := by
  cases hv : t.valid with
  | false =>
    go_enter Try.func12, Try.ntmps12
    go_wp2_with fail
    refine (is_bool t false hv _ p n cap (his.alloc _)).mono ?_
    rintro e w1 ⟨rfl, hb1⟩
    go_wp2_with fail
    refine (alive_any _).mono ?_
    rintro e w2 ⟨rfl, hb2⟩
    go_wp2_with fail
    go_ret
    exact ⟨rfl, (below_call hb1).trans (hb2.mono (below_call hb1).size)⟩
  | true =>
    have h60 := t.valid_nodes hv
    have hu60 := t.bT_nodes k
    have hB := fun W h => behind_any t W p n cap k h
    generalize t.bT k = u at hB hu60
    generalize t.bE k = oe at hB
    have hE := fun W q c h h' => refequal_any t.nodes t t W p q n cap t.len c (Nat.le_refl _) h h'
    rw [T.eqT_refl] at hE
    have HB := Lib.hid hB
    have HE := Lib.hid hE
    clear hB hE
    go_enter Try.func12, Try.ntmps12
    go_wp2_with fail
    refine (is_bool t true hv _ p n cap (his.alloc _)).mono ?_
    rintro e w1 ⟨rfl, hb1⟩
    have c1 := box_later (b := w.heap.size) (v := .slice p n cap) hb1 (by simp)
    have i1 := (his.alloc _).below hb1
    have b1 := below_call hb1
    clear hb1
    go_wp2_with fail
    refine (copy_any t.nodes t _ p n cap (Nat.le_refl _) h60 i1).mono ?_
    rintro e w2 ⟨q2, c2, rfl, hO2, hb2⟩
    have c2' := box_later hb2 c1
    have i2 := i1.below hb2
    have j2 := hO2.isT
    have b2 := b1.trans (hb2.mono b1.size)
    have l2 := lt_of_cell c2'
    clear hb2 hO2 c1 i1 b1
    go_wp2_with fail
    refine (check_any t _ p n cap (i2.alloc _)).mono ?_
    rintro e w3 ⟨rfl, hb3⟩
    have c3 := box_later (b := w.heap.size) (v := .slice p n cap) hb3 ((keep_alloc _ _ _ _ l2).trans c2')
    have d3 := box_later (b := w2.heap.size) (v := .slice q2 t.len c2) hb3 (by simp)
    have i3 := (i2.alloc (.cells #[.slice q2 t.len c2] 24)).below hb3
    have j3 := (j2.alloc (.cells #[.slice q2 t.len c2] 24)).below hb3
    have b3 := base_next b2 hb3
    clear hb3 c2' i2 j2 b2 l2
    go_wp2_with fail
    refine (size_yes t _ p n cap i3 h60).mono ?_
    rintro e w4 ⟨rfl, hb4⟩
    have c4 := box_later hb4 c3
    have d4 := box_later hb4 d3
    have i4 := i3.below hb4
    have j4 := j3.below hb4
    have b4 := b3.trans (hb4.mono b3.size)
    clear hb4 c3 d3 i3 j3 b3
    go_wp2_with fail
    refine (same_any t t _ p p n cap n cap i4 i4).mono ?_
    rintro e w5 ⟨rfl, hb5⟩
    have c5 := box_later hb5 c4
    have d5 := box_later hb5 d4
    have i5 := i4.below hb5
    have j5 := j4.below hb5
    have b5 := b4.trans (hb5.mono b4.size)
    clear hb5 c4 d4 i4 j4 b4
    go_wp2_with fail
    refine (orderF_any t _ p n cap i5).mono ?_
    rintro e w6 ⟨rfl, hb6⟩
    have c6 := box_later hb6 c5
    have d6 := box_later hb6 d5
    have i6 := i5.below hb6
    have j6 := j5.below hb6
    have b6 := b5.trans (hb6.mono b5.size)
    clear hb6 c5 d5 i5 j5 b5
    go_wp2_with fail
    refine (put_any t _ p n cap i6).mono ?_
    rintro e w7 ⟨rfl, hb7⟩
    have c7 := box_later hb7 c6
    have d7 := box_later hb7 d6
    have i7 := i6.below hb7
    have j7 := j6.below hb7
    have b7 := b6.trans (hb7.mono b6.size)
    clear hb7 c6 d6 i6 j6 b6
    go_wp2_with fail
    refine (HB.out _ i7).mono ?_
    rintro e w8 ⟨q8, c8, rfl, hO8, hb8⟩
    go_wp2_with fail
    refine (turn_own u w7 w8 q8 c8 _ hu60 hO8 hb8).mono ?_
    rintro e w9 ⟨rfl, hb9⟩
    have c9 := box_later hb9 c7
    have d9 := box_later hb9 d7
    have i9 := i7.below hb9
    have j9 := j7.below hb9
    have b9 := b7.trans (hb9.mono b7.size)
    clear hb9 hb8 hO8 c7 d7 i7 j7 b7
    go_wp2_with fail
    refine (HE.out _ _ _ i9 j9).mono ?_
    rintro e w10 ⟨rfl, hb10⟩
    go_wp2_with fail
    refine (alive_any _).mono ?_
    rintro e w11 ⟨rfl, hb11⟩
    go_wp2_with fail
    go_ret
    have b10 := b9.trans (hb10.mono b9.size)
    exact ⟨rfl, b10.trans (hb11.mono b10.size)⟩

end Go.Proofs.Yteokoilpnabmhaa
