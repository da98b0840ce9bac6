/-
  Parts of one proof, laid into one text: SHead, STerm. Conditions: each part names its own.
-/
import Derived.Test.YtjkcopgfcafpeaaGreatDoorMg25
import Derived.Test.YtjkcopgfcafpeaaGreatDoorMg24

/-
  The walks of number and head, which read a head with the names of a draft. Conditions: texts of at most 65536 bytes.
-/
set_option linter.unusedSimpArgs false
set_option linter.unusedVariables false
namespace Go.Proofs.YtjkcopgfcafpeaaGreatDoor
open Go.RowKit Go.Maps

/-- a draft's two maps, for a reader in block R -/
structure Mp (w : World) (R D m1 m2 : Nat) (n1 n2 : List ByteArray) : Prop where
  c4 : w.cell? ⟨D, 4, none⟩ = some (.map (some m1))
  c5 : w.cell? ⟨D, 5, none⟩ = some (.map (some m2))
  map1 : MapN w m1 n1
  map2 : MapN w m2 n2
  neD : D ≠ R
  ne1 : m1 ≠ R
  ne2 : m2 ≠ R
  ltD : D < w.heap.size

theorem Mp.step {w w' : World} {R D m1 m2 : Nat} {n1 n2 : List ByteArray} (h : Mp w R D m1 m2 n1 n2) (hg : w.grownBy w' (some R)) : Mp w' R D m1 m2 n1 n2 := by
  obtain ⟨_, _, e1⟩ := mapN_block h.map1
  obtain ⟨_, _, e2⟩ := mapN_block h.map2
  have hD := hg.block D h.ltD (fun e => h.neD (by injection e))
  exact ⟨(World.cell?_of_block (a := ⟨D, 4, none⟩) hD).trans h.c4, (World.cell?_of_block (a := ⟨D, 5, none⟩) hD).trans h.c5, mapN_far h.map1 (hg.block _ (lt_of_block e1) (fun e => h.ne1 (by injection e))), mapN_far h.map2 (hg.block _ (lt_of_block e2) (fun e => h.ne2 (by injection e))), h.neD, h.ne1, h.ne2, by have := hg.size; have := h.ltD; omega⟩

theorem Mp.alloc {w : World} {R D m1 m2 : Nat} {n1 n2 : List ByteArray} (h : Mp w R D m1 m2 n1 n2) (x : Obj) : Mp (w.alloc x) R D m1 m2 n1 n2 := h.step (World.grownBy_alloc w x _)

theorem Mp.own {w : World} {R D m1 m2 : Nat} {n1 n2 : List ByteArray} (h : Mp w R D m1 m2 n1 n2) : m1 < w.heap.size ∧ m2 < w.heap.size := by
  obtain ⟨_, _, e1⟩ := mapN_block h.map1
  obtain ⟨_, _, e2⟩ := mapN_block h.map2
  exact ⟨lt_of_block e1, lt_of_block e2⟩

set_option maxRecDepth 100000 in
theorem mapN_look {w : World} {m : Nat} {l : List ByteArray} (h : MapN w m l) (n : ByteArray) (hn : n.size ≤ 24) :
    (Instr.lookup 91 (.map (some m)) (.string n) true).run Tryz.prog w = .ok (.tuple #[.int .i64 (((idx l n).getD 0 : Nat) : Int), .bool (idx l n).isSome]) w := by
  have h24 : n.size ≤ maxLen := by unfold maxLen; omega
  have hkey : keyOf Tryz.prog 9 (.string n) = some (keyN n) := Go.WideMaps.keyOf_string_mk Tryz.underlying9 h24
  obtain ⟨v, ps, hrun, hv⟩ := World.ownsMap.look_ok h mlaw Tryz.underlying91 (zeroI _) (plainI (n := 0) (by omega)) hkey
  rw [mp_has] at hrun
  obtain ⟨a, rfl, hz, _⟩ := plainElem_int_inv Tryz.underlying3 hv
  have h2 : (mp l).atKey (keyN n) (.lit (.int .i64 0)) = .lit (.int .i64 a) := congrArg Prod.fst hz
  rw [mp_at] at h2
  injection h2 with h2
  injection h2 with _ h2
  rw [hrun, ← h2]

set_option maxHeartbeats 800000 in
theorem number_yes (R m : Nat) (l : List ByteArray) (s r : List UInt8) (n : ByteArray) (i : Nat) (w : World) (hr : Rd w R s) (hm : MapN w m l) (hne : m ≠ R) (hs : s.length ≤ 65536) (h : rdName s = some (n, r)) (hi : idx l n = some i) :
    Calls Tryz.prog 148 #[.pointer (some ⟨R, 0, none⟩), .map (some m)] w fun e w' => e = .returned (.int .i64 (i : Int)) ∧ Rd w' R r ∧ w.grownBy w' (some R) := by
  obtain ⟨_, h24, _⟩ := rdName_lt h
  have HN := Lib.hid fun w hr => rname_yes R s r n w hr hs h
  have hml : ∀ w', w.grownBy w' (some R) → (Instr.lookup 91 (.map (some m)) (.string n) true).run Tryz.prog w' = .ok (.tuple #[.int .i64 (i : Int), .bool true]) w' := fun w' hg => by
    obtain ⟨_, _, e1⟩ := mapN_block hm
    have := mapN_look (mapN_far hm (hg.block _ (lt_of_block e1) (fun e => hne (by injection e)))) n h24
    rw [hi] at this
    exact this
  have HL := Lib.hid hml
  have HR := Lib.hid hr
  clear hml hr hm hne hs h hi h24
  go_enter Tryz.func148, Tryz.ntmps148
  go_wp2_with fail
  refine (HN.out _ HR.out).mono ?_
  rintro e w1 ⟨rfl, r1, g1⟩
  have hl := HL.out _ g1
  clear HN HL HR
  go_wp2_with fail
  go_ret
  exact ⟨rfl, r1, g1⟩

set_option maxHeartbeats 800000 in
theorem number_no (R m : Nat) (l : List ByteArray) (s : List UInt8) (w : World) (hr : Rd w R s) (hm : MapN w m l) (hne : m ≠ R) (hs : s.length ≤ 65536) (h : ∀ n r, rdName s = some (n, r) → idx l n = none) :
    Calls Tryz.prog 148 #[.pointer (some ⟨R, 0, none⟩), .map (some m)] w (Fails w R) := by
  cases hn : rdName s with
  | none =>
    have HN := Lib.hid fun w hr => rname_no R s w hr hs hn
    have HR := Lib.hid hr
    clear hr hm hne hs h hn
    go_enter Tryz.func148, Tryz.ntmps148
    go_wp2_with fail
    refine (HN.out _ HR.out).mono ?_
    rintro e w1 ⟨rfl, g1⟩
    go_wp2_with fail
    exact ⟨rfl, rfl, g1⟩
  | some x =>
    obtain ⟨n, r⟩ := x
    obtain ⟨_, h24, _⟩ := rdName_lt hn
    have hi := h n r hn
    have HN := Lib.hid fun w hr => rname_yes R s r n w hr hs hn
    have hml : ∀ w', w.grownBy w' (some R) → (Instr.lookup 91 (.map (some m)) (.string n) true).run Tryz.prog w' = .ok (.tuple #[.int .i64 (0 : Int), .bool false]) w' := fun w' hg => by
      obtain ⟨_, _, e1⟩ := mapN_block hm
      have := mapN_look (mapN_far hm (hg.block _ (lt_of_block e1) (fun e => hne (by injection e)))) n h24
      rw [hi] at this
      exact this
    have HL := Lib.hid hml
    have HR := Lib.hid hr
    clear hml hr hm hne hs h hi h24 hn
    go_enter Tryz.func148, Tryz.ntmps148
    go_wp2_with fail
    refine (HN.out _ HR.out).mono ?_
    rintro e w1 ⟨rfl, r1, g1⟩
    have hl := HL.out _ g1
    clear HN HL HR
    go_wp2_with fail
    refine (fail_any _).mono ?_
    rintro e w2 ⟨rfl, rfl⟩
    go_wp2_with fail
    exact ⟨rfl, rfl, g1⟩

/-- what head does at a rest s -/
def HeadOk (w : World) (R : Nat) (h : Int × Int) (r : List UInt8) (e : Ending) (w' : World) : Prop :=
  e = .returned (.agg #[.int .i64 h.1, .int .i64 h.2, .slice none 0 0]) ∧ Rd w' R r ∧ w.grownBy w' (some R)

theorem grown_cells {w wr : World} {b : Nat} (h : w.grownBy wr (some b)) {j : Nat} (hj : w.heap.size ≤ j) (o : Nat) (u : Value) : w.grownBy (wr.setCell ⟨j, o, none⟩ u) (some b) :=
  ⟨h.os, h.tape, h.output, by simpa [World.setCell] using h.size, fun i hi hn => (Below.heap_setCell wr _ _ i (show i ≠ j by omega)).trans (h.block i hi hn)⟩

theorem term_box {w : World} {b : Nat} {x y z : Value} (h : w.heap[b]? = some (.cells #[x, y, z] 50 (0, 0))) :
    (w.cell? ⟨b, 0, none⟩ = some x ∧ w.cell? ⟨b, 1, none⟩ = some y ∧ w.cell? ⟨b, 2, none⟩ = some z) ∧ (w.frozen? ⟨b, 0, none⟩ = false ∧ w.frozen? ⟨b, 1, none⟩ = false ∧ w.frozen? ⟨b, 2, none⟩ = false) := by
  refine ⟨⟨?_, ?_, ?_⟩, ?_, ?_, ?_⟩ <;> simp [World.cell?, World.frozen?, h]

/-- a store of a whole term -/
def put3 (w : World) (b : Nat) (x y z : Value) : World := ((w.setCell ⟨b, 0, none⟩ x).setCell ⟨b, 1, none⟩ y).setCell ⟨b, 2, none⟩ z

theorem put3_box {w : World} {b : Nat} {u1 u2 u3 x y z : Value} {t : TypeId} (h : w.heap[b]? = some (.cells #[u1, u2, u3] t (0, 0))) : (put3 w b x y z).heap[b]? = some (.cells #[x, y, z] t (0, 0)) :=
  six_set (six_set (six_set h))

theorem put3_far {w : World} {b k : Nat} {x y z : Value} (h : k ≠ b) : (put3 w b x y z).heap[k]? = w.heap[k]? := by
  unfold put3
  rw [Below.heap_setCell _ _ _ _ h, Below.heap_setCell _ _ _ _ h, Below.heap_setCell _ _ _ _ h]

theorem put3_grown {w wr : World} {R b : Nat} {x y z : Value} (h : w.grownBy wr (some R)) (hb : w.heap.size ≤ b) : w.grownBy (put3 wr b x y z) (some R) :=
  grown_cells (grown_cells (grown_cells h hb _ _) hb _ _) hb _ _

set_option maxHeartbeats 1600000 in
theorem head_dollar (R D m1 m2 : Nat) (n1 n2 : List ByteArray) (s : List UInt8) (w : World) (hr : Rd w R (36 :: s)) (hm : Mp w R D m1 m2 n1 n2) (hs : s.length ≤ 65536) (v : Int) (r : List UInt8) (h : rdNum s = some (v, r)) :
    Calls Tryz.prog 129 #[.pointer (some ⟨D, 0, none⟩), .pointer (some ⟨R, 0, none⟩)] w (HeadOk w R (0, v) r) := by
  have hlt := lt_of_block hr
  have c1 := Lib.hid fun W hr => skip_yes R ⟨#[36]⟩ (36 :: s) [36] rfl W hr (by simp [Proofs.YtjkcopgfcafpeaaGreatDoor.pre])
  have c2 := Lib.hid fun W hr => rnum_yes R s r v W hr hs h
  have h0 := alloc_kept hr (.cells #[.int .i64 0, .int .i64 0, .slice none 0 0] 50)
  have hb := heap_new w (.cells #[.int .i64 0, .int .i64 0, .slice none 0 0] 50)
  clear hr hm h
  go_enter Tryz.func129, Tryz.ntmps129
  go_wp2_with fail
  refine (c1.out _ h0).mono ?_
  rintro e w1 ⟨rfl, hw1⟩
  have r1 : Rd w1 R s := by rw [← hw1]; exact rd_set h0 s
  have g1 : w.grownBy w1 (some R) := by rw [← hw1]; exact grown_set (World.grownBy_alloc w _ _) _
  have b1 : w1.heap[w.heap.size]? = some (.cells #[.int .i64 0, .int .i64 0, .slice none 0 0] 50 (0, 0)) := by
    rw [← hw1, Below.heap_setCell _ _ _ _ (show w.heap.size ≠ R by omega)]; exact hb
  clear hw1 h0 hb
  go_wp2_with fail
  refine (c2.out _ r1).mono ?_
  rintro e w2 ⟨rfl, r2, g2⟩
  have b2 : w2.heap[w.heap.size]? = some (.cells #[.int .i64 0, .int .i64 0, .slice none 0 0] 50 (0, 0)) := by
    rw [g2.block _ (lt_of_block b1) (fun e => by injection e; omega)]; exact b1
  have g3 := grown_tr g1 g2
  clear g1 g2 r1 b1
  obtain ⟨⟨f11, f12, f13⟩, f21, f22, f23⟩ := term_box b2
  go_wp2_with fail
  refine bodyPost_ret (v := .agg #[.int .i64 0, .int .i64 v, .slice none 0 0]) (by simp [results, Tryz.results129, go_sem, f11, f12, f13]) rfl ⟨rfl, ?_, ?_⟩
  · exact (put3_far (show R ≠ w.heap.size by omega)).trans r2
  · exact put3_grown g3 (Nat.le_refl _)

set_option maxHeartbeats 1600000 in
theorem head_dollar_no (R D m1 m2 : Nat) (n1 n2 : List ByteArray) (s : List UInt8) (w : World) (hr : Rd w R (36 :: s)) (hg : Gl w) (h6 : 6 ≤ R) (hs : s.length ≤ 65536) (h : rdNum s = none) :
    Calls Tryz.prog 129 #[.pointer (some ⟨D, 0, none⟩), .pointer (some ⟨R, 0, none⟩)] w (Fails w R) := by
  have hlt := lt_of_block hr
  have c1 := Lib.hid fun W hr => skip_yes R ⟨#[36]⟩ (36 :: s) [36] rfl W hr (by simp [Proofs.YtjkcopgfcafpeaaGreatDoor.pre])
  have c2 := Lib.hid fun W hr hg => rnum_no R s W hr hg h6 hs h
  have h0 := alloc_kept hr (.cells #[.int .i64 0, .int .i64 0, .slice none 0 0] 50)
  have gl0 : Gl (w.alloc (.cells #[.int .i64 0, .int .i64 0, .slice none 0 0] 50)) := hg.keep fun k hk => Below.heap_alloc _ _ _ (by omega)
  clear hr hg h
  go_enter Tryz.func129, Tryz.ntmps129
  go_wp2_with fail
  refine (c1.out _ h0).mono ?_
  rintro e w1 ⟨rfl, hw1⟩
  have r1 : Rd w1 R s := by rw [← hw1]; exact rd_set h0 s
  have g1 : w.grownBy w1 (some R) := by rw [← hw1]; exact grown_set (World.grownBy_alloc w _ _) _
  have gl1 : Gl w1 := by rw [← hw1]; exact gl0.keep fun k hk => Below.heap_setCell _ _ _ _ (show k ≠ R by omega)
  clear hw1 h0 gl0
  go_wp2_with fail
  refine (c2.out _ r1 gl1).mono ?_
  rintro e w2 ⟨rfl, g2⟩
  go_wp2_with fail
  exact ⟨rfl, rfl, grown_tr g1 g2⟩

set_option maxHeartbeats 1600000 in
theorem head_hash (R D m1 m2 : Nat) (n1 n2 : List ByteArray) (s : List UInt8) (w : World) (hr : Rd w R (35 :: s)) (hm : Mp w R D m1 m2 n1 n2) (hs : s.length ≤ 65536) (n : ByteArray) (i : Nat) (r : List UInt8) (h : rdName s = some (n, r)) (hi : idx n1 n = some i) :
    Calls Tryz.prog 129 #[.pointer (some ⟨D, 0, none⟩), .pointer (some ⟨R, 0, none⟩)] w (HeadOk w R (2, (i : Int)) r) := by
  have hlt := lt_of_block hr
  have hne1 := hm.ne1
  have c0 := Lib.hid fun W hr => skip_no R ⟨#[36]⟩ (35 :: s) [36] rfl W hr (by rfl)
  have c1 := Lib.hid fun W hr => skip_yes R ⟨#[35]⟩ (35 :: s) [35] rfl W hr (by simp [Proofs.YtjkcopgfcafpeaaGreatDoor.pre])
  have c2 := Lib.hid fun W hr hm => number_yes R m1 n1 s r n i W hr hm hne1 hs h hi
  have h0 := alloc_kept hr (.cells #[.int .i64 0, .int .i64 0, .slice none 0 0] 50)
  have hb := heap_new w (.cells #[.int .i64 0, .int .i64 0, .slice none 0 0] 50)
  have hm0 := hm.alloc (.cells #[.int .i64 0, .int .i64 0, .slice none 0 0] 50)
  clear hr hm h hi
  go_enter Tryz.func129, Tryz.ntmps129
  go_wp2_with fail
  refine (c0.out _ h0).mono ?_
  rintro e w1 ⟨rfl, hw1⟩
  have r1 : Rd w1 R (35 :: s) := by rw [← hw1]; exact rd_set h0 _
  have g1 : w.grownBy w1 (some R) := by rw [← hw1]; exact grown_set (World.grownBy_alloc w _ _) _
  have b1 : w1.heap[w.heap.size]? = some (.cells #[.int .i64 0, .int .i64 0, .slice none 0 0] 50 (0, 0)) := by
    rw [← hw1, Below.heap_setCell _ _ _ _ (show w.heap.size ≠ R by omega)]; exact hb
  have k1 : Mp w1 R D m1 m2 n1 n2 := by rw [← hw1]; exact hm0.step (grown_set0 _ _ _)
  clear hw1 h0 hb hm0
  go_wp2_with fail
  refine (c1.out _ r1).mono ?_
  rintro e w2 ⟨rfl, hw2⟩
  have r2 : Rd w2 R s := by rw [← hw2]; exact rd_set r1 _
  have g2 : w.grownBy w2 (some R) := by rw [← hw2]; exact grown_set g1 _
  have b2 : w2.heap[w.heap.size]? = some (.cells #[.int .i64 0, .int .i64 0, .slice none 0 0] 50 (0, 0)) := by
    rw [← hw2, Below.heap_setCell _ _ _ _ (show w.heap.size ≠ R by omega)]; exact b1
  have k2 : Mp w2 R D m1 m2 n1 n2 := by rw [← hw2]; exact k1.step (grown_set0 _ _ _)
  have q4 := k2.c4
  have K2 := Lib.hid k2
  clear hw2 r1 g1 b1 k1 k2
  go_wp2_with fail
  refine (c2.out _ r2 K2.out.map1).mono ?_
  rintro e w3 ⟨rfl, r3, g3⟩
  have b3 : w3.heap[w.heap.size]? = some (.cells #[.int .i64 0, .int .i64 0, .slice none 0 0] 50 (0, 0)) := by
    rw [g3.block _ (lt_of_block b2) (fun e => by injection e; omega)]; exact b2
  have g4 := grown_tr g2 g3
  clear g2 g3 r2 b2 q4
  obtain ⟨⟨f11, f12, f13⟩, f21, f22, f23⟩ := term_box b3
  go_wp2_with fail
  refine bodyPost_ret (v := .agg #[.int .i64 2, .int .i64 (i : Int), .slice none 0 0]) (by simp [results, Tryz.results129, go_sem, f11, f12, f13]) rfl ⟨rfl, ?_, ?_⟩
  · exact (put3_far (show R ≠ w.heap.size by omega)).trans r3
  · exact put3_grown g4 (Nat.le_refl _)

set_option maxHeartbeats 1600000 in
theorem head_hash_no (R D m1 m2 : Nat) (n1 n2 : List ByteArray) (s : List UInt8) (w : World) (hr : Rd w R (35 :: s)) (hm : Mp w R D m1 m2 n1 n2) (hs : s.length ≤ 65536) (h : ∀ n r, rdName s = some (n, r) → idx n1 n = none) :
    Calls Tryz.prog 129 #[.pointer (some ⟨D, 0, none⟩), .pointer (some ⟨R, 0, none⟩)] w (Fails w R) := by
  have hlt := lt_of_block hr
  have hne1 := hm.ne1
  have c0 := Lib.hid fun W hr => skip_no R ⟨#[36]⟩ (35 :: s) [36] rfl W hr (by rfl)
  have c1 := Lib.hid fun W hr => skip_yes R ⟨#[35]⟩ (35 :: s) [35] rfl W hr (by simp [Proofs.YtjkcopgfcafpeaaGreatDoor.pre])
  have c2 := Lib.hid fun W hr hm => number_no R m1 n1 s W hr hm hne1 hs h
  have h0 := alloc_kept hr (.cells #[.int .i64 0, .int .i64 0, .slice none 0 0] 50)
  have hb := heap_new w (.cells #[.int .i64 0, .int .i64 0, .slice none 0 0] 50)
  have hm0 := hm.alloc (.cells #[.int .i64 0, .int .i64 0, .slice none 0 0] 50)
  clear hr hm h
  go_enter Tryz.func129, Tryz.ntmps129
  go_wp2_with fail
  refine (c0.out _ h0).mono ?_
  rintro e w1 ⟨rfl, hw1⟩
  have r1 : Rd w1 R (35 :: s) := by rw [← hw1]; exact rd_set h0 _
  have g1 : w.grownBy w1 (some R) := by rw [← hw1]; exact grown_set (World.grownBy_alloc w _ _) _
  have b1 : w1.heap[w.heap.size]? = some (.cells #[.int .i64 0, .int .i64 0, .slice none 0 0] 50 (0, 0)) := by
    rw [← hw1, Below.heap_setCell _ _ _ _ (show w.heap.size ≠ R by omega)]; exact hb
  have k1 : Mp w1 R D m1 m2 n1 n2 := by rw [← hw1]; exact hm0.step (grown_set0 _ _ _)
  clear hw1 h0 hb hm0
  go_wp2_with fail
  refine (c1.out _ r1).mono ?_
  rintro e w2 ⟨rfl, hw2⟩
  have r2 : Rd w2 R s := by rw [← hw2]; exact rd_set r1 _
  have g2 : w.grownBy w2 (some R) := by rw [← hw2]; exact grown_set g1 _
  have b2 : w2.heap[w.heap.size]? = some (.cells #[.int .i64 0, .int .i64 0, .slice none 0 0] 50 (0, 0)) := by
    rw [← hw2, Below.heap_setCell _ _ _ _ (show w.heap.size ≠ R by omega)]; exact b1
  have k2 : Mp w2 R D m1 m2 n1 n2 := by rw [← hw2]; exact k1.step (grown_set0 _ _ _)
  have q4 := k2.c4
  have K2 := Lib.hid k2
  clear hw2 r1 g1 b1 k1 k2
  go_wp2_with fail
  refine (c2.out _ r2 K2.out.map1).mono ?_
  rintro e w3 ⟨rfl, g3⟩
  go_wp2_with fail
  exact ⟨rfl, rfl, grown_tr g2 g3⟩

set_option maxHeartbeats 1600000 in
theorem head_plain (R D m1 m2 : Nat) (n1 n2 : List ByteArray) (s : List UInt8) (w : World) (hr : Rd w R s) (hm : Mp w R D m1 m2 n1 n2) (hs : s.length ≤ 65536) (p36 : Proofs.YtjkcopgfcafpeaaGreatDoor.pre [36] s = false) (p35 : Proofs.YtjkcopgfcafpeaaGreatDoor.pre [35] s = false) (n : ByteArray) (i : Nat) (r : List UInt8) (h : rdName s = some (n, r)) (hi : idx n2 n = some i) :
    Calls Tryz.prog 129 #[.pointer (some ⟨D, 0, none⟩), .pointer (some ⟨R, 0, none⟩)] w (HeadOk w R (1, (i : Int)) r) := by
  have hlt := lt_of_block hr
  have hne1 := hm.ne2
  have c0 := Lib.hid fun W hr => skip_no R ⟨#[36]⟩ s [36] rfl W hr p36
  have c1 := Lib.hid fun W hr => skip_no R ⟨#[35]⟩ s [35] rfl W hr p35
  have c2 := Lib.hid fun W hr hm => number_yes R m2 n2 s r n i W hr hm hne1 hs h hi
  have h0 := alloc_kept hr (.cells #[.int .i64 0, .int .i64 0, .slice none 0 0] 50)
  have hb := heap_new w (.cells #[.int .i64 0, .int .i64 0, .slice none 0 0] 50)
  have hm0 := hm.alloc (.cells #[.int .i64 0, .int .i64 0, .slice none 0 0] 50)
  clear hr hm h hi
  go_enter Tryz.func129, Tryz.ntmps129
  go_wp2_with fail
  refine (c0.out _ h0).mono ?_
  rintro e w1 ⟨rfl, hw1⟩
  have r1 : Rd w1 R s := by rw [← hw1]; exact rd_set h0 _
  have g1 : w.grownBy w1 (some R) := by rw [← hw1]; exact grown_set (World.grownBy_alloc w _ _) _
  have b1 : w1.heap[w.heap.size]? = some (.cells #[.int .i64 0, .int .i64 0, .slice none 0 0] 50 (0, 0)) := by
    rw [← hw1, Below.heap_setCell _ _ _ _ (show w.heap.size ≠ R by omega)]; exact hb
  have k1 : Mp w1 R D m1 m2 n1 n2 := by rw [← hw1]; exact hm0.step (grown_set0 _ _ _)
  clear hw1 h0 hb hm0
  go_wp2_with fail
  refine (c1.out _ r1).mono ?_
  rintro e w2 ⟨rfl, hw2⟩
  have r2 : Rd w2 R s := by rw [← hw2]; exact rd_set r1 _
  have g2 : w.grownBy w2 (some R) := by rw [← hw2]; exact grown_set g1 _
  have b2 : w2.heap[w.heap.size]? = some (.cells #[.int .i64 0, .int .i64 0, .slice none 0 0] 50 (0, 0)) := by
    rw [← hw2, Below.heap_setCell _ _ _ _ (show w.heap.size ≠ R by omega)]; exact b1
  have k2 : Mp w2 R D m1 m2 n1 n2 := by rw [← hw2]; exact k1.step (grown_set0 _ _ _)
  have q5 := k2.c5
  have K2 := Lib.hid k2
  clear hw2 r1 g1 b1 k1 k2
  go_wp2_with fail
  refine (c2.out _ r2 K2.out.map2).mono ?_
  rintro e w3 ⟨rfl, r3, g3⟩
  have b3 : w3.heap[w.heap.size]? = some (.cells #[.int .i64 0, .int .i64 0, .slice none 0 0] 50 (0, 0)) := by
    rw [g3.block _ (lt_of_block b2) (fun e => by injection e; omega)]; exact b2
  have g4 := grown_tr g2 g3
  clear g2 g3 r2 b2 q5
  obtain ⟨⟨f11, f12, f13⟩, f21, f22, f23⟩ := term_box b3
  go_wp2_with fail
  refine bodyPost_ret (v := .agg #[.int .i64 1, .int .i64 (i : Int), .slice none 0 0]) (by simp [results, Tryz.results129, go_sem, f11, f12, f13]) rfl ⟨rfl, ?_, ?_⟩
  · exact (put3_far (show R ≠ w.heap.size by omega)).trans r3
  · exact put3_grown g4 (Nat.le_refl _)

set_option maxHeartbeats 1600000 in
theorem head_plain_no (R D m1 m2 : Nat) (n1 n2 : List ByteArray) (s : List UInt8) (w : World) (hr : Rd w R s) (hm : Mp w R D m1 m2 n1 n2) (hs : s.length ≤ 65536) (p36 : Proofs.YtjkcopgfcafpeaaGreatDoor.pre [36] s = false) (p35 : Proofs.YtjkcopgfcafpeaaGreatDoor.pre [35] s = false) (h : ∀ n r, rdName s = some (n, r) → idx n2 n = none) :
    Calls Tryz.prog 129 #[.pointer (some ⟨D, 0, none⟩), .pointer (some ⟨R, 0, none⟩)] w (Fails w R) := by
  have hlt := lt_of_block hr
  have hne1 := hm.ne2
  have c0 := Lib.hid fun W hr => skip_no R ⟨#[36]⟩ s [36] rfl W hr p36
  have c1 := Lib.hid fun W hr => skip_no R ⟨#[35]⟩ s [35] rfl W hr p35
  have c2 := Lib.hid fun W hr hm => number_no R m2 n2 s W hr hm hne1 hs h
  have h0 := alloc_kept hr (.cells #[.int .i64 0, .int .i64 0, .slice none 0 0] 50)
  have hb := heap_new w (.cells #[.int .i64 0, .int .i64 0, .slice none 0 0] 50)
  have hm0 := hm.alloc (.cells #[.int .i64 0, .int .i64 0, .slice none 0 0] 50)
  clear hr hm h
  go_enter Tryz.func129, Tryz.ntmps129
  go_wp2_with fail
  refine (c0.out _ h0).mono ?_
  rintro e w1 ⟨rfl, hw1⟩
  have r1 : Rd w1 R s := by rw [← hw1]; exact rd_set h0 _
  have g1 : w.grownBy w1 (some R) := by rw [← hw1]; exact grown_set (World.grownBy_alloc w _ _) _
  have b1 : w1.heap[w.heap.size]? = some (.cells #[.int .i64 0, .int .i64 0, .slice none 0 0] 50 (0, 0)) := by
    rw [← hw1, Below.heap_setCell _ _ _ _ (show w.heap.size ≠ R by omega)]; exact hb
  have k1 : Mp w1 R D m1 m2 n1 n2 := by rw [← hw1]; exact hm0.step (grown_set0 _ _ _)
  clear hw1 h0 hb hm0
  go_wp2_with fail
  refine (c1.out _ r1).mono ?_
  rintro e w2 ⟨rfl, hw2⟩
  have r2 : Rd w2 R s := by rw [← hw2]; exact rd_set r1 _
  have g2 : w.grownBy w2 (some R) := by rw [← hw2]; exact grown_set g1 _
  have b2 : w2.heap[w.heap.size]? = some (.cells #[.int .i64 0, .int .i64 0, .slice none 0 0] 50 (0, 0)) := by
    rw [← hw2, Below.heap_setCell _ _ _ _ (show w.heap.size ≠ R by omega)]; exact b1
  have k2 : Mp w2 R D m1 m2 n1 n2 := by rw [← hw2]; exact k1.step (grown_set0 _ _ _)
  have q5 := k2.c5
  have K2 := Lib.hid k2
  clear hw2 r1 g1 b1 k1 k2
  go_wp2_with fail
  refine (c2.out _ r2 K2.out.map2).mono ?_
  rintro e w3 ⟨rfl, g3⟩
  go_wp2_with fail
  exact ⟨rfl, rfl, grown_tr g2 g3⟩

/-- what head does, whatever the rest is -/
def HeadAny (S F : List ByteArray) (w : World) (R : Nat) (s : List UInt8) (e : Ending) (w' : World) : Prop :=
  (∀ h r, rdHead S F s = some (h, r) → HeadOk w R h r e w') ∧ (rdHead S F s = none → Fails w R e w')

theorem dhead_any (R D m1 m2 : Nat) (n1 n2 : List ByteArray) (s : List UInt8) (w : World) (hr : Rd w R s) (hm : Mp w R D m1 m2 n1 n2) (hg : Gl w) (h6 : 6 ≤ R) (hs : s.length ≤ 65536) :
    Calls Tryz.prog 129 #[.pointer (some ⟨D, 0, none⟩), .pointer (some ⟨R, 0, none⟩)] w (HeadAny n1 n2 w R s) := by
  unfold HeadAny rdHead
  by_cases p36 : pre [36] s = true
  · obtain ⟨s1, rfl⟩ := (pre_iff _ _).1 p36
    simp only [List.singleton_append] at hr p36 hs ⊢
    simp only [List.length_cons] at hs
    rw [if_pos p36]
    simp only [List.drop_succ_cons, List.drop_zero]
    cases hn : rdNum s1 with
    | none => exact (head_dollar_no R D m1 m2 n1 n2 s1 w hr hg h6 (by omega) hn).mono fun e w' h => ⟨fun _ _ h2 => (by cases h2), fun _ => h⟩
    | some x => exact (head_dollar R D m1 m2 n1 n2 s1 w hr hm (by omega) x.1 x.2 hn).mono fun e w' h => ⟨fun _ _ h2 => (by simp only [Option.map_some, Option.some.injEq, Prod.mk.injEq] at h2; obtain ⟨rfl, rfl⟩ := h2; exact h), fun h2 => (by cases h2)⟩
  · rw [if_neg p36]
    have p36' : pre [36] s = false := by simpa using p36
    by_cases p35 : pre [35] s = true
    · obtain ⟨s1, rfl⟩ := (pre_iff _ _).1 p35
      simp only [List.singleton_append] at hr p35 hs ⊢
      simp only [List.length_cons] at hs
      rw [if_pos p35]
      simp only [List.drop_succ_cons, List.drop_zero]
      cases hn : rdName s1 with
      | none => exact (head_hash_no R D m1 m2 n1 n2 s1 w hr hm (by omega) (fun n r h => by rw [hn] at h; cases h)).mono fun e w' h => ⟨fun _ _ h2 => (by cases h2), fun _ => h⟩
      | some x =>
        obtain ⟨n, r⟩ := x
        simp only [Option.bind_some]
        cases hi : idx n1 n with
        | none => exact (head_hash_no R D m1 m2 n1 n2 s1 w hr hm (by omega) (fun n' r' h => by rw [hn] at h; simp only [Option.some.injEq, Prod.mk.injEq] at h; obtain ⟨rfl, _⟩ := h; exact hi)).mono fun e w' h => ⟨fun _ _ h2 => (by cases h2), fun _ => h⟩
        | some i => exact (head_hash R D m1 m2 n1 n2 s1 w hr hm (by omega) n i r hn hi).mono fun e w' h => ⟨fun _ _ h2 => (by simp only [Option.map_some, Option.some.injEq, Prod.mk.injEq] at h2; obtain ⟨rfl, rfl⟩ := h2; exact h), fun h2 => (by cases h2)⟩
    · rw [if_neg p35]
      have p35' : pre [35] s = false := by simpa using p35
      cases hn : rdName s with
      | none => exact (head_plain_no R D m1 m2 n1 n2 s w hr hm hs p36' p35' (fun n r h => by rw [hn] at h; cases h)).mono fun e w' h => ⟨fun _ _ h2 => (by cases h2), fun _ => h⟩
      | some x =>
        obtain ⟨n, r⟩ := x
        simp only [Option.bind_some]
        cases hi : idx n2 n with
        | none => exact (head_plain_no R D m1 m2 n1 n2 s w hr hm hs p36' p35' (fun n' r' h => by rw [hn] at h; simp only [Option.some.injEq, Prod.mk.injEq] at h; obtain ⟨rfl, _⟩ := h; exact hi)).mono fun e w' h => ⟨fun _ _ h2 => (by cases h2), fun _ => h⟩
        | some i => exact (head_plain R D m1 m2 n1 n2 s w hr hm hs p36' p35' n i r hn hi).mono fun e w' h => ⟨fun _ _ h2 => (by simp only [Option.map_some, Option.some.injEq, Prod.mk.injEq] at h2; obtain ⟨rfl, rfl⟩ := h2; exact h), fun h2 => (by cases h2)⟩

end Go.Proofs.YtjkcopgfcafpeaaGreatDoor

/-
  The walks of argument and term, which read a term with the names of a draft. Conditions: texts of at most 65536 bytes.
-/
set_option linter.unusedSimpArgs false
set_option linter.unusedVariables false
namespace Go.Proofs.YtjkcopgfcafpeaaGreatDoor
open Go.RowKit Go.Maps

/-- an argument behind its blank -/
def rdArg (S F : List ByteArray) (s : List UInt8) : Option ((Int × Int × X) × List UInt8) :=
  if pre [40] s = true then (rdT S F (s.drop 1)).bind fun x => if x.1.2.2.len ≠ 0 ∧ pre [41] x.2 = true then some (x.1, x.2.drop 1) else none
  else (rdHead S F s).map fun x => ((x.1.1, x.1.2, .nil), x.2)

theorem rdA_arg {S F : List ByteArray} {s : List UInt8} : rdA S F (32 :: s) = (rdArg S F s).bind fun x => (rdA S F x.2).map fun y => (X.cons x.1.1 x.1.2.1 x.1.2.2 y.1, y.2) := by
  unfold rdArg
  by_cases h : pre [40] s = true
  · obtain ⟨s1, rfl⟩ := (pre_iff _ _).1 h
    simp only [List.singleton_append] at h ⊢
    rw [if_pos h, rdA_open]
    simp only [List.drop_succ_cons, List.drop_zero]
    cases rdT S F s1 with
    | none => rfl
    | some x =>
      simp only [Option.bind_some]
      split <;> rfl
  · rw [if_neg h, rdA_plain (by simpa using h)]
    cases rdHead S F s <;> rfl

theorem rdArg_lt {S F : List ByteArray} {s r : List UInt8} {t : Int × Int × X} (h : rdArg S F s = some (t, r)) : r.length + t.2.2.len < s.length + 1 := by
  unfold rdArg at h
  split at h
  · rename_i hp
    have := pre_length hp
    simp only [List.length_singleton] at this
    rw [Option.bind_eq_some_iff] at h
    obtain ⟨⟨t', r'⟩, h1, h2⟩ := h
    split at h2
    · rename_i hc
      have := pre_length hc.2
      simp only [Option.some.injEq, Prod.mk.injEq] at h2
      obtain ⟨rfl, rfl⟩ := h2
      have := rdT_lt h1
      simp only [List.length_drop] at *
      omega
    · cases h2
  · rw [Option.map_eq_some_iff] at h
    obtain ⟨⟨hd, r'⟩, h1, h2⟩ := h
    simp only [Prod.mk.injEq] at h2
    obtain ⟨rfl, rfl⟩ := h2
    have := rdHead_lt h1
    simp only [X.len]
    omega

/-- what reading a term does -/
def TermOk (w : World) (R : Nat) (t : Int × Int × X) (r : List UInt8) (e : Ending) (w' : World) : Prop :=
  ∃ q c, e = .returned (.agg #[.int .i64 t.1, .int .i64 t.2.1, .slice q t.2.2.len c]) ∧ Rd w' R r ∧ OwnX w' t.2.2 q c w.heap.size w'.heap.size ∧ w.grownBy w' (some R)

def TermAny (f : Option ((Int × Int × X) × List UInt8)) (w : World) (R : Nat) (e : Ending) (w' : World) : Prop :=
  (∀ t r, f = some (t, r) → TermOk w R t r e w') ∧ (f = none → Fails w R e w')

theorem termAny_none {f : Option ((Int × Int × X) × List UInt8)} {w w' : World} {R : Nat} {e : Ending} (hf : f = none) (h : Fails w R e w') : TermAny f w R e w' := by
  subst hf
  exact ⟨fun _ _ h => (by cases h), fun _ => h⟩

theorem termAny_some {f : Option ((Int × Int × X) × List UInt8)} {w w' : World} {R : Nat} {e : Ending} {t : Int × Int × X} {r : List UInt8} (hf : f = some (t, r)) (h : TermOk w R t r e w') : TermAny f w R e w' := by
  subst hf
  refine ⟨fun t' r' h' => ?_, fun h => (by cases h)⟩
  simp only [Option.some.injEq, Prod.mk.injEq] at h'
  obtain ⟨rfl, rfl⟩ := h'
  exact h

theorem Gl.step {w w' : World} {R : Nat} (h : Gl w) (h6 : 6 ≤ R) (hg : w.grownBy w' (some R)) (hs : 6 ≤ w.heap.size) : Gl w' := h.keep fun k hk => hg.block k (by omega) (fun e => by injection e; omega)

/-- what stays where only the reader's block turns -/
structure Env (w : World) (R D m1 m2 : Nat) (n1 n2 : List ByteArray) : Prop where
  mp : Mp w R D m1 m2 n1 n2
  gl : Gl w
  h6 : 6 ≤ R
  lt : R < w.heap.size

theorem Env.step {w w' : World} {R D m1 m2 : Nat} {n1 n2 : List ByteArray} (h : Env w R D m1 m2 n1 n2) (hg : w.grownBy w' (some R)) : Env w' R D m1 m2 n1 n2 :=
  ⟨h.mp.step hg, h.gl.step h.h6 hg (by have := h.h6; have := h.lt; omega), h.h6, by have := h.lt; have := hg.size; omega⟩

theorem Env.alloc {w : World} {R D m1 m2 : Nat} {n1 n2 : List ByteArray} (h : Env w R D m1 m2 n1 n2) (x : Obj) : Env (w.alloc x) R D m1 m2 n1 n2 := h.step (World.grownBy_alloc w x _)

theorem Env.set {w : World} {R D m1 m2 : Nat} {n1 n2 : List ByteArray} (h : Env w R D m1 m2 n1 n2) (v : Value) : Env (w.setCell ⟨R, 0, none⟩ v) R D m1 m2 n1 n2 := h.step (grown_set0 _ _ _)

theorem dhead_env (R D m1 m2 : Nat) (n1 n2 : List ByteArray) (s : List UInt8) (hs : s.length ≤ 65536) (w : World) (hr : Rd w R s) (h : Env w R D m1 m2 n1 n2) :
    Calls Tryz.prog 129 #[.pointer (some ⟨D, 0, none⟩), .pointer (some ⟨R, 0, none⟩)] w (HeadAny n1 n2 w R s) := dhead_any R D m1 m2 n1 n2 s w hr h.mp h.gl h.h6 hs

set_option maxHeartbeats 1600000 in
theorem arg_plain (R D m1 m2 : Nat) (n1 n2 : List ByteArray) (s : List UInt8) (w : World) (hr : Rd w R s) (hE : Env w R D m1 m2 n1 n2) (hs : s.length ≤ 65536) (p40 : pre [40] s = false) :
    Calls Tryz.prog 130 #[.pointer (some ⟨D, 0, none⟩), .pointer (some ⟨R, 0, none⟩)] w (TermAny ((rdHead n1 n2 s).map fun x => ((x.1.1, x.1.2, .nil), x.2)) w R) := by
  have hlt := hE.lt
  obtain ⟨f, hf⟩ : ∃ f, ((rdHead n1 n2 s).map fun x => ((x.1.1, x.1.2, X.nil), x.2)) = f := ⟨_, rfl⟩
  rw [hf]
  have HF := Lib.hid hf.symm
  clear hf
  have c0 := Lib.hid fun W hr => skip_no R ⟨#[40]⟩ s [40] rfl W hr p40
  have c1 := Lib.hid fun W hr h => dhead_env R D m1 m2 n1 n2 s hs W hr h
  have h0 := alloc_kept hr (.cells #[.int .i64 0, .int .i64 0, .slice none 0 0] 50)
  have hb := heap_new w (.cells #[.int .i64 0, .int .i64 0, .slice none 0 0] 50)
  have hE0 := hE.alloc (.cells #[.int .i64 0, .int .i64 0, .slice none 0 0] 50)
  clear hr hE p40
  go_enter Tryz.func130, Tryz.ntmps130
  go_wp2_with fail
  refine (c0.out _ h0).mono ?_
  rintro e w1 ⟨rfl, hw1⟩
  have r1 : Rd w1 R s := by rw [← hw1]; exact rd_set h0 _
  have g1 : w.grownBy w1 (some R) := by rw [← hw1]; exact grown_set (World.grownBy_alloc w _ _) _
  have b1 : w1.heap[w.heap.size]? = some (.cells #[.int .i64 0, .int .i64 0, .slice none 0 0] 50 (0, 0)) := by
    rw [← hw1, Below.heap_setCell _ _ _ _ (show w.heap.size ≠ R by omega)]; exact hb
  have k1 : Env w1 R D m1 m2 n1 n2 := by rw [← hw1]; exact hE0.set _
  clear hw1 h0 hb hE0 c0
  go_wp2_with fail
  refine (c1.out _ r1 k1).mono ?_
  rintro e w2 ⟨hy, hn⟩
  cases hh : rdHead n1 n2 s with
  | none =>
    obtain ⟨rfl, g2⟩ := hn hh
    have HH := Lib.hid hh
    clear hy hn c1 hh
    go_wp2_with fail
    exact ⟨rfl, termAny_none (by rw [HF.out, HH.out]; rfl) ⟨rfl, grown_tr g1 g2⟩⟩
  | some x =>
    obtain ⟨⟨k, n⟩, r⟩ := x
    obtain ⟨rfl, r2, g2⟩ := hy _ _ hh
    have HH := Lib.hid hh
    clear hy hn c1 hh
    have b2 : w2.heap[w.heap.size]? = some (.cells #[.int .i64 0, .int .i64 0, .slice none 0 0] 50 (0, 0)) := by
      rw [g2.block _ (lt_of_block b1) (fun e => by injection e; omega)]; exact b1
    have g3 := grown_tr g1 g2
    clear g1 g2 r1 b1 k1
    obtain ⟨⟨f11, f12, f13⟩, f21, f22, f23⟩ := term_box b2
    go_wp2_with fail
    refine bodyPost_ret (v := .agg #[.int .i64 k, .int .i64 n, .slice none 0 0]) (by simp [results, Tryz.results130, go_sem, f11, f12, f13]) rfl (termAny_some (t := (k, n, .nil)) (r := r) (by rw [HF.out, HH.out]; rfl) ?_)
    exact ⟨none, 0, rfl, (put3_far (show R ≠ w.heap.size by omega)).trans r2, ownX_nil _ _ _, put3_grown g3 (Nat.le_refl _)⟩

theorem put3_own {w : World} {b : Nat} {x y z : Value} {t : X} {q : Option Addr} {c lo hi : Nat} (h : OwnX w t q c lo hi) (hb : b < lo) : OwnX (put3 w b x y z) t q c lo hi :=
  h.keep fun k hk _ => put3_far (by omega)

theorem put3_size (w : World) (b : Nat) (x y z : Value) : (put3 w b x y z).heap.size = w.heap.size := by simp [put3, World.setCell]

set_option maxHeartbeats 1600000 in
theorem arg_open (R D m1 m2 : Nat) (n1 n2 : List ByteArray) (s : List UInt8) (w : World) (hr : Rd w R (40 :: s)) (hE : Env w R D m1 m2 n1 n2) (hs : s.length ≤ 65536)
    (hT : ∀ W, Rd W R s → Env W R D m1 m2 n1 n2 → Calls Tryz.prog 102 #[.pointer (some ⟨D, 0, none⟩), .pointer (some ⟨R, 0, none⟩)] W (TermAny (rdT n1 n2 s) W R)) :
    Calls Tryz.prog 130 #[.pointer (some ⟨D, 0, none⟩), .pointer (some ⟨R, 0, none⟩)] w (TermAny ((rdT n1 n2 s).bind fun x => if x.1.2.2.len ≠ 0 ∧ pre [41] x.2 = true then some (x.1, x.2.drop 1) else none) w R) := by
  have hlt := hE.lt
  obtain ⟨f, hf⟩ : ∃ f, ((rdT n1 n2 s).bind fun x => if x.1.2.2.len ≠ 0 ∧ pre [41] x.2 = true then some (x.1, x.2.drop 1) else none) = f := ⟨_, rfl⟩
  rw [hf]
  have HF := Lib.hid hf.symm
  clear hf
  have c0 := Lib.hid fun W hr => skip_yes R ⟨#[40]⟩ (40 :: s) [40] rfl W hr (by rfl)
  have c1 := Lib.hid hT
  have h0 := alloc_kept hr (.cells #[.int .i64 0, .int .i64 0, .slice none 0 0] 50)
  have hb := heap_new w (.cells #[.int .i64 0, .int .i64 0, .slice none 0 0] 50)
  have hE0 := hE.alloc (.cells #[.int .i64 0, .int .i64 0, .slice none 0 0] 50)
  clear hr hE hT
  go_enter Tryz.func130, Tryz.ntmps130
  go_wp2_with fail
  refine (c0.out _ h0).mono ?_
  rintro e w1 ⟨rfl, hw1⟩
  have r1 : Rd w1 R s := by rw [← hw1]; exact rd_set h0 _
  have g1 : w.grownBy w1 (some R) := by rw [← hw1]; exact grown_set (World.grownBy_alloc w _ _) _
  have b1 : w1.heap[w.heap.size]? = some (.cells #[.int .i64 0, .int .i64 0, .slice none 0 0] 50 (0, 0)) := by
    rw [← hw1, Below.heap_setCell _ _ _ _ (show w.heap.size ≠ R by omega)]; exact hb
  have k1 : Env w1 R D m1 m2 n1 n2 := by rw [← hw1]; exact hE0.set _
  clear hw1 h0 hb hE0 c0
  have hz1 := lt_of_block b1
  go_wp2_with fail
  refine (c1.out _ r1 k1).mono ?_
  rintro e w2 ⟨hy, hn⟩
  cases hh : rdT n1 n2 s with
  | none =>
    obtain ⟨rfl, g2⟩ := hn hh
    have HH := Lib.hid hh
    clear hy hn c1 hh
    go_wp2_with fail
    exact ⟨rfl, termAny_none (by rw [HF.out, HH.out]; rfl) ⟨rfl, grown_tr g1 g2⟩⟩
  | some x =>
    obtain ⟨⟨k, n, a⟩, r⟩ := x
    obtain ⟨q, c, rfl, r2, hO, g2⟩ := hy _ _ hh
    have hrl := rdT_lt hh
    have hf : f = if a.len ≠ 0 ∧ pre [41] r = true then some ((k, n, a), r.drop 1) else none := by rw [HF.out, hh]; rfl
    clear hy hn c1 hh HF
    dsimp only at hO hrl r2
    have b2 : w2.heap[w.heap.size]? = some (.cells #[.int .i64 0, .int .i64 0, .slice none 0 0] 50 (0, 0)) := by
      rw [g2.block _ (lt_of_block b1) (fun e => by injection e; omega)]; exact b1
    have g3 := grown_tr g1 g2
    clear g1 g2 r1 b1 k1
    -- the variable's box
    have o3 := heap_new w2 (.cells #[.int .i64 k, .int .i64 n, .slice q a.len c] 50)
    have b3 := alloc_kept b2 (.cells #[.int .i64 k, .int .i64 n, .slice q a.len c] 50)
    have r3 := alloc_kept r2 (.cells #[.int .i64 k, .int .i64 n, .slice q a.len c] 50)
    have g4 := grown_new g3 (.cells #[.int .i64 k, .int .i64 n, .slice q a.len c] 50)
    have hO4 : OwnX (w2.alloc (.cells #[.int .i64 k, .int .i64 n, .slice q a.len c] 50)) a q c w1.heap.size w2.heap.size := hO.keep fun j _ hj => Below.heap_alloc _ _ _ hj
    have hsz := lt_of_block b2
    have hRl := lt_of_block r2
    obtain ⟨⟨y1, y2, y3⟩, _⟩ := term_box o3
    by_cases h0 : a.len = 0
    · have hd : ((a.len : Int) == 0) = true := by simp [h0]
      rw [if_neg (by simp [h0])] at hf
      have HF := Lib.hid hf
      clear h0 hf
      go_wp2_with fail
      refine (fail_any _).mono ?_
      rintro e w4 ⟨rfl, rfl⟩
      go_wp2_with fail
      exact ⟨rfl, termAny_none HF.out ⟨rfl, g4⟩⟩
    · have hd : ((a.len : Int) == 0) = false := by simp; omega
      by_cases p41 : pre [41] r = true
      · rw [if_pos ⟨h0, p41⟩] at hf
        have HF := Lib.hid hf
        clear hf
        have c2 := Lib.hid fun W hr => need_yes R ⟨#[41]⟩ r [41] rfl W hr p41
        clear h0 p41
        go_wp2_with fail
        refine (c2.out _ r3).mono ?_
        rintro e w4 ⟨rfl, hw4⟩
        have r4 : Rd w4 R (r.drop 1) := by rw [← hw4]; exact rd_set r3 _
        have g5 : w.grownBy w4 (some R) := by rw [← hw4]; exact grown_set g4 _
        have b4 : w4.heap[w.heap.size]? = some (.cells #[.int .i64 0, .int .i64 0, .slice none 0 0] 50 (0, 0)) := by
          rw [← hw4, Below.heap_setCell _ _ _ _ (show w.heap.size ≠ R by omega)]; exact b3
        have o4 : w4.heap[w2.heap.size]? = some (.cells #[.int .i64 k, .int .i64 n, .slice q a.len c] 50 (0, 0)) := by
          rw [← hw4, Below.heap_setCell _ _ _ _ (show w2.heap.size ≠ R by omega)]; exact o3
        have hO5 : OwnX w4 a q c w1.heap.size w2.heap.size := by rw [← hw4]; exact hO4.set (show R < w1.heap.size by omega) _
        clear hw4 r3 g4 b3 o3 hO4 y1 y2 y3 c2
        obtain ⟨⟨y1, y2, y3⟩, _⟩ := term_box o4
        obtain ⟨⟨f11, f12, f13⟩, f21, f22, f23⟩ := term_box b4
        have hz4 := lt_of_block o4
        go_wp2_with fail
        refine bodyPost_ret (v := .agg #[.int .i64 k, .int .i64 n, .slice q a.len c]) (by simp [results, Tryz.results130, go_sem, f11, f12, f13]) rfl (termAny_some HF.out ?_)
        refine ⟨q, c, rfl, (put3_far (show R ≠ w.heap.size by omega)).trans r4, ?_, put3_grown g5 (Nat.le_refl _)⟩
        refine (put3_own hO5 (by omega)).mono (by omega) ?_
        have := put3_size w4 w.heap.size (.int .i64 k) (.int .i64 n) (.slice q a.len c)
        unfold put3 at this
        rw [this]; omega
      · rw [if_neg (fun h => p41 h.2)] at hf
        have HF := Lib.hid hf
        clear hf
        have c2 := Lib.hid fun W hr => need_no R ⟨#[41]⟩ r [41] rfl W hr (by simpa using p41)
        clear h0 p41
        go_wp2_with fail
        refine (c2.out _ r3).mono ?_
        rintro e w4 ⟨rfl, hw4⟩
        have g5 : w.grownBy w4 (some R) := by rw [← hw4]; exact grown_set g4 _
        clear hw4
        go_wp2_with fail
        exact ⟨rfl, termAny_none HF.out ⟨rfl, g5⟩⟩

theorem arg_any (R D m1 m2 : Nat) (n1 n2 : List ByteArray) (s : List UInt8) (w : World) (hr : Rd w R s) (hE : Env w R D m1 m2 n1 n2) (hs : s.length ≤ 65536)
    (hT : ∀ s' W, s'.length < s.length → Rd W R s' → Env W R D m1 m2 n1 n2 → Calls Tryz.prog 102 #[.pointer (some ⟨D, 0, none⟩), .pointer (some ⟨R, 0, none⟩)] W (TermAny (rdT n1 n2 s') W R)) :
    Calls Tryz.prog 130 #[.pointer (some ⟨D, 0, none⟩), .pointer (some ⟨R, 0, none⟩)] w (TermAny (rdArg n1 n2 s) w R) := by
  unfold rdArg
  by_cases h : pre [40] s = true
  · obtain ⟨s1, rfl⟩ := (pre_iff _ _).1 h
    simp only [List.singleton_append] at h hr hs hT ⊢
    rw [if_pos h]
    simp only [List.drop_succ_cons, List.drop_zero]
    simp only [List.length_cons] at hs
    exact arg_open R D m1 m2 n1 n2 s1 w hr hE (by omega) fun W h1 h2 => hT s1 W (by simp) h1 h2
  · rw [if_neg h]
    exact arg_plain R D m1 m2 n1 n2 s w hr hE hs (by simpa using h)

end Go.Proofs.YtjkcopgfcafpeaaGreatDoor

