/-
  Parts of one proof, laid into one text: WalkU, WalkV. Conditions: each part names its own.
-/
import Derived.Test.YtjkcopgfcafpeaaGreatDoorMg16

/-
  The walk of the reference's Parse. Conditions: a text of at most 65536 bytes.
-/
set_option linter.unusedSimpArgs false
set_option linter.unusedVariables false
namespace Go.Proofs.YtjkcopgfcafpeaaGreatDoor
open Go.RowKit

/-- what Parse returns where there is a sort -/
def ParseOk (s : List UInt8) (w : World) (t : T) (r : List UInt8) (e : Ending) (w' : World) : Prop :=
  ∃ (q : Option Addr) (c m : Nat), e = .returned (.tuple #[.agg #[.slice q t.len c], .int .i64 (m : Int), .bool true]) ∧ m ≤ s.length ∧ s.drop m = r ∧ Own w' t q c w.heap.size w'.heap.size ∧ Below w.heap.size w w'

/-- what Parse returns where there is none -/
def ParseBad (w : World) (e : Ending) (w' : World) : Prop :=
  ∃ (q : Option Addr) (n c : Nat) (m : Int), e = .returned (.tuple #[.agg #[.slice q n c], .int .i64 m, .bool false]) ∧ Below w.heap.size w w'

def ParseAny (s : List UInt8) (a : Nat) (w : World) (e : Ending) (w' : World) : Prop :=
  (∀ t r, rd (s.drop a) = some (t, r) → ParseOk s w t r e w') ∧ (rd (s.drop a) = none → ParseBad w e w')

theorem parse_bad {w w' : World} {s r z : List UInt8} {a : Nat} {acc : T} {e : Ending} (hz : s.drop a = z) (hrd : rd z = (rd r).map (fun x => (acc.app x.1, x.2))) (h1 : rd r = none) (h : ParseBad w e w') : ParseAny s a w e w' := by
  subst hz
  rw [h1] at hrd
  exact ⟨fun t r' h2 => (by rw [hrd] at h2; cases h2), fun _ => h⟩

theorem parse_ok {w w' : World} {s r r1 z : List UInt8} {a : Nat} {acc : T} {e : Ending} (hz : s.drop a = z) (hrd : rd z = (rd r).map (fun x => (acc.app x.1, x.2))) (h1 : rd r = some (T.nil, r1)) (h : ParseOk s w acc r1 e w') : ParseAny s a w e w' := by
  subst hz
  rw [h1] at hrd
  simp only [Option.map_some, T.app_nil] at hrd
  exact ⟨fun t r' h2 => (by rw [hrd] at h2; simp only [Option.some.injEq, Prod.mk.injEq] at h2; obtain ⟨rfl, rfl⟩ := h2; exact h), fun h2 => (by rw [hrd] at h2; cases h2)⟩

set_option maxHeartbeats 1600000 in
theorem parse_any (n : Nat) : ∀ (s : List UInt8) (a : Nat) (j : Int) (w : World), j = (a : Int) → s.length - a < n → a ≤ s.length → s.length ≤ 65536 →
    Calls Tryz.prog 105 #[.string ⟨s.toArray⟩, .int .i64 j] w (ParseAny s a w) := by
  obtain ⟨i0, hi0, hz0, hz1', hz2⟩ := info_parts infoS
  induction n with
  | zero => intro s a j w _ h; omega
  | succ n ih =>
    intro s a j w hj hn ha hs
    subst hj
    have IH := Lib.hid ih
    clear ih
    have hst : Pt w ((w.alloc (.cells #[.slice none 0 0] 47)).alloc (.cells #[.slice none 0 0] 47)) .nil none 0 [] :=
      ⟨World.ownsRow_nil _ _ _ _, ⟨rfl, by simp⟩, heap_new2 _ _ _, alloc_kept (heap_new _ _) _, ((Below.refl w.heap.size w).alloc (Nat.le_refl _) _).alloc (by simp) _⟩
    generalize hZ : s.drop a = z
    have HZ := Lib.hid hZ
    go_enter Tryz.func105, Tryz.ntmps105
    go_wp2_with fail
    go_loopw [1] (fun iv wr => ∃ (i : Nat) (acc : T) (q : Option Addr) (c : Nat) (xs : List Value), iv = .int .i64 (i : Int) ∧ a ≤ i ∧ i ≤ s.length ∧ acc.len + (s.length - i) ≤ s.length ∧ rd z = (rd (s.drop i)).map (fun x => (acc.app x.1, x.2)) ∧ Pt w wr acc q c xs)
      (fun iv _ => s.length - (intOf iv).toNat)
    case atStart => exact ⟨a, .nil, none, 0, [], rfl, Nat.le_refl _, ha, by simp [T.len], by rw [hZ]; cases rd z <;> rfl, hst⟩
    case round =>
      clear hst hZ
      obtain ⟨i, acc, q, c, xs, rfl, hai, hi, hlen, hrd, hst⟩ := hrel
      generalize hR : s.drop i = r at hrd
      have HD := Lib.hid hrd
      clear hrd
      have HR := Lib.hid hR
      have hmx : acc.len + 1 ≤ maxLen := by simp only [maxLen]; omega
      have hby : (acc.len + 1) * 24 ≤ 140737488355328 := by omega
      have hbase0 := hst.below.size
      have o0 := lt_of_block hst.out
      have k1 := cell_of_one hst.out
      have k2 := cell_of_one hst.res
      have k3 := free_of_one hst.res
      by_cases p111 : pre [111] r = true
      · obtain ⟨r1, rfl⟩ := (pre_iff _ _).1 p111
        clear p111
        obtain ⟨d1, l1⟩ := drop_of hi hR
        simp only [List.length_singleton] at d1 l1
        clear hR
        by_cases p32 : pre [32, 62, 32] r1 = true
        · obtain ⟨r4, rfl⟩ := (pre_iff _ _).1 p32
          clear p32
          obtain ⟨d4, l4⟩ := drop_of (by omega) d1
          have H1 := Lib.hid (rd_o_more r4)
          have D1 := Lib.hid d1
          have D4 := Lib.hid d4
          clear d1 d4
          go_wp2_with fail
          refine (begins_at s [111] i _ _ true rfl (by omega) hs (by simp) rfl (by rw [HR.out]; rfl) _).mono ?_
          rintro e w1 ⟨rfl, rfl⟩
          go_wp2_with fail
          refine (begins_at s [32, 62, 32] (i + 1) _ _ true rfl (by omega) hs (by simp) (by omega) (by rw [D1.out]; rfl) _).mono ?_
          rintro e w1 ⟨rfl, rfl⟩
          have SW := hst
          have hbase : w.heap.size + 2 ≤ wr.heap.size := by omega
          go_wp2_with (at_builtin; refine wpList_append_lies _ rfl _ _ 43 rfl (w.heap.size + 2) 47 i0 (.agg #[.slice none 0 0]) 1 24 Tryz.underlying43 hi0 hz0 hz1' hz2 rfl Nat.one_pos (.slice q acc.len c) acc.len xs rfl (SW.own.alloc _) ⟨wr.heap.size, 0, none⟩ 1 1 [.slice none 0 0] rfl rfl (cell_one_new _ _ _) (one_slice _ _ _) Nat.one_pos hmx hby (base_le _ hbase) (wr.heap.size + 1) (size_new _ _) ?_; intro g cp w9 hown3 hgrow hat hglt; have hh3 := SW.out_push hgrow; have o1 := cell_of_one hh3; have o2 := free_of_one hh3; clear hh3)
          have P := Pt.push (h := .nil) SW (Below.refl _ _) (own_nil _ _ _) (Nat.le_refl _) (Nat.le_refl _) hown3 hgrow hat
          clear hown3 hgrow hat o1 o2 k1
          go_roundw
          case rel => exact ⟨i + 4, acc.snoc .nil, some ⟨g, 0, none⟩, cp, _, by go_num, by omega, by simp at l4; omega, by rw [T.len_snoc]; omega, by have := rd_push HD.out H1.out; simp only [List.length_cons, List.length_nil] at D4; rw [show i + 4 = i + 1 + 3 by omega, D4.out]; exact this, P⟩
          case measure => simp [intOf]; simp at l4; omega
        · have p32' : pre [32, 62, 32] r1 = false := by simpa using p32
          have H1 := Lib.hid (rd_o_end r1 p32')
          have D1 := Lib.hid d1
          have P32 := Lib.hid p32'
          clear p32 p32' d1
          go_wp2_with fail
          refine (begins_at s [111] i _ _ true rfl (by omega) hs (by simp) rfl (by rw [HR.out]; rfl) _).mono ?_
          rintro e w1 ⟨rfl, rfl⟩
          go_wp2_with fail
          refine (begins_at s [32, 62, 32] (i + 1) _ _ false rfl (by omega) hs (by simp) (by omega) (by rw [D1.out]; exact P32.out) _).mono ?_
          rintro e w1 ⟨rfl, rfl⟩
          go_wp2_with fail
          refine bodyPost_ret (v := .tuple #[.agg #[.slice q acc.len c], .int .i64 ((i : Int) + 1), .bool true]) (by simp [results, Tryz.results105, go_sem, k2]) rfl (parse_ok HZ.out HD.out H1.out ⟨q, c, i + 1, rfl, by omega, D1.out, ?_, hst.below.setCell (Nat.le_refl _) _⟩)
          have got : Got wr 47 acc acc.len (.slice q acc.len c) (w.heap.size + 2) := ⟨xs, hst.own, by rw [T.take_len]; exact hst.kids⟩
          obtain ⟨q', c', he, hO⟩ := got.finish (Nat.le_refl _) (Nat.lt_irrefl _)
          obtain ⟨rfl, rfl⟩ : q = q' ∧ c = c' := by simpa using he
          have := (hO.set (a := ⟨w.heap.size, 0, none⟩) (show w.heap.size < w.heap.size + 2 by omega) (.slice q acc.len c)).mono (lo' := w.heap.size) (hi' := wr.heap.size) (by omega) (Nat.le_refl _)
          simpa [World.setCell] using this
      · have p111' : pre [111] r = false := by simpa using p111
        have P111 := Lib.hid p111'
        by_cases p40 : pre [40] r = true
        · clear p111 p111'
          obtain ⟨r1, rfl⟩ := (pre_iff _ _).1 p40
          clear p40
          obtain ⟨d1, l1⟩ := drop_of hi hR
          simp only [List.length_singleton] at d1 l1
          clear hR
          have HS := Lib.hid fun W j hj => IH.out s (i + 1) j W hj (by omega) (by omega) hs
          cases h1 : rd r1 with
          | none =>
            have H1 := Lib.hid (rd_open_none r1 h1)
            have D1 := Lib.hid (show rd (s.drop (i + 1)) = none by rw [d1]; exact h1)
            clear d1 h1
            go_wp2_with fail
            refine (begins_at s [111] i _ _ false rfl (by omega) hs (by simp) rfl (by rw [HR.out]; exact P111.out) _).mono ?_
            rintro e w1 ⟨rfl, rfl⟩
            go_wp2_with fail
            refine (begins_at s [40] i _ _ true rfl (by omega) hs (by simp) rfl (by rw [HR.out]; rfl) _).mono ?_
            rintro e w1 ⟨rfl, rfl⟩
            go_wp2_with fail
            refine (HS.out _ _ (by omega)).mono ?_
            intro e w1 hh
            obtain ⟨q1, n1, c1, m1, rfl, hb1⟩ := hh.2 D1.out
            have S1 := (hst.step hb1).alloc (.cells #[.slice q1 n1 c1] 47)
            have k1 := cell_of_one S1.out
            have k2 := cell_of_one S1.res
            have k3 := free_of_one S1.res
            go_wp2_with fail
            refine bodyPost_ret (v := .tuple #[.agg #[.slice q acc.len c], .int .i64 i, .bool false]) (by simp [results, Tryz.results105, go_sem, k2]) rfl (parse_bad HZ.out HD.out H1.out ⟨q, acc.len, c, i, rfl, S1.below.setCell (Nat.le_refl _) _⟩)
          | some x =>
            obtain ⟨h, r2⟩ := x
            have hl1 := rd_lt h1
            have D1 := Lib.hid (show rd (s.drop (i + 1)) = some (h, r2) by rw [d1]; exact h1)
            clear d1
            by_cases h0 : h.len = 0
            · have H1 := Lib.hid (rd_open_bad r1 h r2 h1 (fun hh => hh.1 h0))
              have hd : ((h.len : Int) == 0) = true := by simp [h0]
              clear h1 h0
              go_wp2_with fail
              refine (begins_at s [111] i _ _ false rfl (by omega) hs (by simp) rfl (by rw [HR.out]; exact P111.out) _).mono ?_
              rintro e w1 ⟨rfl, rfl⟩
              go_wp2_with fail
              refine (begins_at s [40] i _ _ true rfl (by omega) hs (by simp) rfl (by rw [HR.out]; rfl) _).mono ?_
              rintro e w1 ⟨rfl, rfl⟩
              go_wp2_with fail
              refine (HS.out _ _ (by omega)).mono ?_
              intro e w1 hh
              obtain ⟨q1, c1, m, rfl, hm, hdm, hO1, hb1⟩ := hh.1 _ _ D1.out
              have S1 := (hst.step hb1).alloc (.cells #[.slice q1 h.len c1] 47)
              have k1 := cell_of_one S1.out
              have k2 := cell_of_one S1.res
              have k3 := free_of_one S1.res
              have kb := cell_of_one (heap_new w1 (.cells #[.slice q1 h.len c1] 47))
              go_wp2_with fail
              refine bodyPost_ret (v := .tuple #[.agg #[.slice q acc.len c], .int .i64 i, .bool false]) (by simp [results, Tryz.results105, go_sem, k2]) rfl (parse_bad HZ.out HD.out H1.out ⟨q, acc.len, c, i, rfl, S1.below.setCell (Nat.le_refl _) _⟩)
            · have hd : ((h.len : Int) == 0) = false := by simp; omega
              by_cases p41 : pre [41, 32, 62, 32] r2 = true
              · obtain ⟨r4, rfl⟩ := (pre_iff _ _).1 p41
                clear p41
                have H1 := Lib.hid (rd_open_more r1 h r4 h1 h0)
                clear h1 h0
                go_wp2_with fail
                refine (begins_at s [111] i _ _ false rfl (by omega) hs (by simp) rfl (by rw [HR.out]; exact P111.out) _).mono ?_
                rintro e w1 ⟨rfl, rfl⟩
                go_wp2_with fail
                refine (begins_at s [40] i _ _ true rfl (by omega) hs (by simp) rfl (by rw [HR.out]; rfl) _).mono ?_
                rintro e w1 ⟨rfl, rfl⟩
                go_wp2_with fail
                refine (HS.out _ _ (by omega)).mono ?_
                intro e w1 hh
                obtain ⟨q1, c1, m, rfl, hm, hdm, hO1, hb1⟩ := hh.1 _ _ D1.out
                have S1 := (hst.step hb1).alloc (.cells #[.slice q1 h.len c1] 47)
                have k1 := cell_of_one S1.out
                have k2 := cell_of_one S1.res
                have k3 := free_of_one S1.res
                have kb := cell_of_one (heap_new w1 (.cells #[.slice q1 h.len c1] 47))
                obtain ⟨d4, l4⟩ := drop_of hm hdm
                have DM := Lib.hid hdm
                have D4 := Lib.hid d4
                clear hdm d4
                go_wp2_with fail
                refine (begins_at s [41, 32, 62, 32] m _ _ true rfl hm hs (by simp) rfl (by rw [DM.out]; rfl) _).mono ?_
                rintro e w2 ⟨rfl, hw2⟩
                have hzb := hb1.size
                have SW : Pt w w2 acc q c xs := by rw [← hw2]; exact S1
                have hg1 : Below wr.heap.size wr w2 := by rw [← hw2]; exact hb1.alloc hzb _
                have hO2 : Own w2 h q1 c1 wr.heap.size w1.heap.size := by rw [← hw2]; exact hO1.keep fun j _ hj => Below.heap_alloc _ _ _ hj
                have hm2 : w1.heap.size ≤ w2.heap.size := by rw [← hw2]; simp
                rw [hw2] at k1 kb
                clear hw2 S1 k2 k3 hO1 hb1
                have hbase : w.heap.size + 2 ≤ w2.heap.size := by omega
                go_wp2_with (at_builtin; refine wpList_append_lies _ rfl _ _ 43 rfl (w.heap.size + 2) 47 i0 (.agg #[.slice none 0 0]) 1 24 Tryz.underlying43 hi0 hz0 hz1' hz2 rfl Nat.one_pos (.slice q acc.len c) acc.len xs rfl (SW.own.alloc _) ⟨w2.heap.size, 0, none⟩ 1 1 [.slice q1 h.len c1] rfl rfl (cell_one_new _ _ _) (one_slice _ _ _) Nat.one_pos hmx hby (base_le _ hbase) (w2.heap.size + 1) (size_new _ _) ?_; intro g cp w9 hown3 hgrow hat hglt; have hh3 := SW.out_push hgrow; have o1 := cell_of_one hh3; have o2 := free_of_one hh3; clear hh3)
                have P := Pt.push hst hg1 hO2 hzb hm2 hown3 hgrow hat
                clear hown3 hgrow hat o1 o2 k1
                go_roundw
                case rel => exact ⟨m + 4, acc.snoc h, some ⟨g, 0, none⟩, cp, _, by go_num, by simp at l4 l1 hl1; omega, by simp at l4; omega, by rw [T.len_snoc]; simp at l4 l1 hl1; omega, by have := rd_push HD.out H1.out; simp only [List.length_cons, List.length_nil] at D4; rw [D4.out]; exact this, P⟩
                case measure => simp [intOf]; simp at l4 l1 hl1; omega
              · have H1 := Lib.hid (rd_open_bad r1 h r2 h1 (fun hh => p41 ((pre4 r2).2 hh.2)))
                have P41 := Lib.hid (show pre [41, 32, 62, 32] r2 = false by simpa using p41)
                clear h1 h0 p41
                go_wp2_with fail
                refine (begins_at s [111] i _ _ false rfl (by omega) hs (by simp) rfl (by rw [HR.out]; exact P111.out) _).mono ?_
                rintro e w1 ⟨rfl, rfl⟩
                go_wp2_with fail
                refine (begins_at s [40] i _ _ true rfl (by omega) hs (by simp) rfl (by rw [HR.out]; rfl) _).mono ?_
                rintro e w1 ⟨rfl, rfl⟩
                go_wp2_with fail
                refine (HS.out _ _ (by omega)).mono ?_
                intro e w1 hh
                obtain ⟨q1, c1, m, rfl, hm, hdm, hO1, hb1⟩ := hh.1 _ _ D1.out
                have S1 := (hst.step hb1).alloc (.cells #[.slice q1 h.len c1] 47)
                have k1 := cell_of_one S1.out
                have k2 := cell_of_one S1.res
                have k3 := free_of_one S1.res
                have kb := cell_of_one (heap_new w1 (.cells #[.slice q1 h.len c1] 47))
                have DM := Lib.hid hdm
                clear hdm
                go_wp2_with fail
                refine (begins_at s [41, 32, 62, 32] m _ _ false rfl hm hs (by simp) rfl (by rw [DM.out]; exact P41.out) _).mono ?_
                rintro e w2 ⟨rfl, rfl⟩
                go_wp2_with fail
                refine bodyPost_ret (v := .tuple #[.agg #[.slice q acc.len c], .int .i64 i, .bool false]) (by simp [results, Tryz.results105, go_sem, k2]) rfl (parse_bad HZ.out HD.out H1.out ⟨q, acc.len, c, i, rfl, S1.below.setCell (Nat.le_refl _) _⟩)
        · have H1 := Lib.hid (rd_neither r p40 p111)
          have P40 := Lib.hid (show pre [40] r = false by simpa using p40)
          clear p111 p111' p40 hR
          go_wp2_with fail
          refine (begins_at s [111] i _ _ false rfl (by omega) hs (by simp) rfl (by rw [HR.out]; exact P111.out) _).mono ?_
          rintro e w1 ⟨rfl, rfl⟩
          go_wp2_with fail
          refine (begins_at s [40] i _ _ false rfl (by omega) hs (by simp) rfl (by rw [HR.out]; exact P40.out) _).mono ?_
          rintro e w1 ⟨rfl, rfl⟩
          go_wp2_with fail
          refine bodyPost_ret (v := .tuple #[.agg #[.slice q acc.len c], .int .i64 i, .bool false]) (by simp [results, Tryz.results105, go_sem, k2]) rfl (parse_bad HZ.out HD.out H1.out ⟨q, acc.len, c, i, rfl, hst.below.setCell (Nat.le_refl _) _⟩)

end Go.Proofs.YtjkcopgfcafpeaaGreatDoor

/-
  The walks of Get and of the reference's Get. Conditions: none.
-/
set_option linter.unusedSimpArgs false
set_option linter.unusedVariables false
namespace Go.Proofs.YtjkcopgfcafpeaaGreatDoor
open Go.RowKit

/-- the sort that Get returns -/
def ansT (s : List UInt8) : T := if s.length ≤ 65536 then (match rd s with | some (t, []) => if t.valid then t else .nil | _ => .nil) else .nil
/-- the error that Get returns -/
def ansE (s : List UInt8) : Int := if s.length ≤ 65536 then (match rd s with | some (t, []) => t.oE | _ => 4) else 3

def GetPost (w : World) (t : T) (k : Int) (e : Ending) (w' : World) : Prop :=
  ∃ (q : Option Addr) (c : Nat), e = .returned (.tuple #[.agg #[.slice q t.len c], .int .i64 k]) ∧ IsT w' t q t.len c ∧ Below w.heap.size w w'

theorem isT_nilR (w : World) : IsT w .nil none 0 0 := ⟨rfl, Nat.le_refl _, Nat.zero_le _, fun _ => rfl, Or.inl rfl⟩

def ReadBad (s : List UInt8) : Prop := ∀ w, Calls Tryz.prog 145 #[.string ⟨s.toArray⟩, .func (Fn.func 146) #[] #[]] w fun e w' => e = .returned (.tuple #[.agg #[.slice none 0 0], .bool false]) ∧ Below w.heap.size w w'

theorem read_bad (s : List UInt8) (hs : s.length ≤ 65536) (h : ∀ t, rd s ≠ some (t, [])) : ReadBad s := by
  intro w
  cases he : rd s with
  | none => exact read_bad1 s w hs he
  | some x =>
    obtain ⟨t, r⟩ := x
    refine read_bad2 s r t w hs he ?_
    cases r with
    | nil => exact absurd he (h t)
    | cons a r => rfl

set_option maxHeartbeats 800000 in
theorem get_long (s : List UInt8) (hs : ¬ s.length ≤ 65536) (w : World) :
    Calls Tryz.prog 126 #[.string ⟨s.toArray⟩] w (GetPost w .nil 3) := by
  have hd : ((65536 : Int) < (s.length : Int)) := by omega
  go_enter Tryz.func126, Tryz.ntmps126
  go_wp2_with fail
  refine bodyPost_ret (v := .tuple #[.agg #[.slice none 0 0], .int .i64 3]) (by simp [results, Tryz.results126, go_sem]) rfl ⟨none, 0, rfl, isT_nilR _, (Below.refl w.heap.size w).alloc (Nat.le_refl _) _⟩

/-- in a later world the result's cell is as it was -/
theorem res_later {w w1 : World} {o : Obj} (hb : Below (w.alloc o).heap.size (w.alloc o) w1) : w1.heap[w.heap.size]? = some o := by
  rw [hb.block _ (by simp)]; exact heap_new _ _

set_option maxHeartbeats 800000 in
theorem get_form (s : List UInt8) (hs : s.length ≤ 65536) (h : ReadBad s) (w : World) :
    Calls Tryz.prog 126 #[.string ⟨s.toArray⟩] w (GetPost w .nil 4) := by
  have hd : ¬ ((65536 : Int) < (s.length : Int)) := by omega
  have HR := Lib.hid h
  clear h
  go_enter Tryz.func126, Tryz.ntmps126
  go_wp2_with fail
  refine (HR.out _).mono ?_
  rintro e w1 ⟨rfl, hb1⟩
  have h0 := alloc_kept (res_later hb1) (.cells #[.slice none 0 0] 47)
  have k0 := cell_of_one h0
  have k1 := free_of_one h0
  have hz := hb1.size
  simp only [World.size_alloc] at hz
  go_wp2_with fail
  refine bodyPost_ret (v := .tuple #[.agg #[.slice none 0 0], .int .i64 4]) (by simp [results, Tryz.results126, go_sem, k0]) rfl ⟨none, 0, rfl, isT_nilR _, ((below_call hb1).alloc (by omega) _).setCell (Nat.le_refl _) _⟩

set_option maxHeartbeats 800000 in
theorem get_bad (s : List UInt8) (t : T) (hs : s.length ≤ 65536) (h : rd s = some (t, [])) (hv : t.valid = false) (w : World) :
    Calls Tryz.prog 126 #[.string ⟨s.toArray⟩] w (GetPost w .nil 6) := by
  have hd : ¬ ((65536 : Int) < (s.length : Int)) := by omega
  have HR := Lib.hid fun w => read_ok s t w hs h
  have HC := Lib.hid fun w p n cap his => check_no t w p n cap his hv
  clear h hv
  go_enter Tryz.func126, Tryz.ntmps126
  go_wp2_with fail
  refine (HR.out _).mono ?_
  rintro e w1 ⟨q, c, rfl, hO, hb1⟩
  have hz := hb1.size
  simp only [World.size_alloc] at hz
  have his := hO.isT.alloc (.cells #[.slice q t.len c] 47)
  have h0 := alloc_kept (res_later hb1) (.cells #[.slice q t.len c] 47)
  go_wp2_with fail
  refine (HC.out _ _ _ _ his).mono ?_
  rintro e w2 ⟨rfl, hb2⟩
  have h1 := kept_of_below hb2 h0
  have k0 := cell_of_one h1
  have k1 := free_of_one h1
  have hz2 := hb2.size
  simp only [World.size_alloc] at hz2
  go_wp2_with fail
  refine bodyPost_ret (v := .tuple #[.agg #[.slice none 0 0], .int .i64 6]) (by simp [results, Tryz.results126, go_sem, k0]) rfl ⟨none, 0, rfl, isT_nilR _, ((below_call hb1).trans ((below_call hb2).mono (by omega))).setCell (Nat.le_refl _) _⟩

set_option maxHeartbeats 800000 in
theorem get_ok (s : List UInt8) (t : T) (hs : s.length ≤ 65536) (h : rd s = some (t, [])) (hv : t.valid = true) (w : World) :
    Calls Tryz.prog 126 #[.string ⟨s.toArray⟩] w (GetPost w t 0) := by
  have hd : ¬ ((65536 : Int) < (s.length : Int)) := by omega
  have HR := Lib.hid fun w => read_ok s t w hs h
  have HC := Lib.hid fun w p n cap his => check_yes t w p n cap his hv
  clear h hv
  go_enter Tryz.func126, Tryz.ntmps126
  go_wp2_with fail
  refine (HR.out _).mono ?_
  rintro e w1 ⟨q, c, rfl, hO, hb1⟩
  have hz := hb1.size
  simp only [World.size_alloc] at hz hO
  have his := hO.isT.alloc (.cells #[.slice q t.len c] 47)
  have h0 := alloc_kept (res_later hb1) (.cells #[.slice q t.len c] 47)
  go_wp2_with fail
  refine (HC.out _ _ _ _ his).mono ?_
  rintro e w2 ⟨rfl, hb2⟩
  have h1 := kept_of_below hb2 h0
  have h2 := kept_of_below hb2 (heap_new w1 (.cells #[.slice q t.len c] 47))
  have hO2 : Own w2 t q c (w.heap.size + 1) w1.heap.size := (hO.keep (w' := w1.alloc (.cells #[.slice q t.len c] 47)) fun k _ hk => Below.heap_alloc _ _ _ hk).keep fun k _ hk => hb2.block k (by simp; omega)
  have k0 := cell_of_one h1
  have k1 := free_of_one h1
  have k2 := cell_of_one h2
  have hz2 := hb2.size
  simp only [World.size_alloc] at hz2
  go_wp2_with fail
  refine bodyPost_ret (v := .tuple #[.agg #[.slice q t.len c], .int .i64 0]) (by simp [results, Tryz.results126, go_sem, k0]) rfl ⟨q, c, rfl, (hO2.set (a := ⟨w.heap.size, 0, none⟩) (show w.heap.size < w.heap.size + 1 by omega) _).isT, ((below_call hb1).trans ((below_call hb2).mono (by omega))).setCell (Nat.le_refl _) _⟩

theorem get_any (s : List UInt8) (w : World) : Calls Tryz.prog 126 #[.string ⟨s.toArray⟩] w (GetPost w (ansT s) (ansE s)) := by
  by_cases hs : s.length ≤ 65536
  case neg => rw [show ansT s = .nil by simp [ansT, hs], show ansE s = 3 by simp [ansE, hs]]; exact get_long s hs w
  case pos =>
    by_cases h : ∃ t, rd s = some (t, [])
    · obtain ⟨t, h⟩ := h
      cases hv : t.valid with
      | false => rw [show ansT s = .nil by simp [ansT, hs, h, hv], show ansE s = 6 by simp [ansE, hs, h, T.oE, hv]]; exact get_bad s t hs h hv w
      | true => rw [show ansT s = t by simp [ansT, hs, h, hv], show ansE s = 0 by simp [ansE, hs, h, T.oE, hv]]; exact get_ok s t hs h hv w
    · have h' : ∀ t, rd s ≠ some (t, []) := fun t e => h ⟨t, e⟩
      have e1 : ansT s = .nil := by
        unfold ansT
        rw [if_pos hs]
        split
        · rename_i t he; exact absurd he (h' t)
        · rfl
      have e2 : ansE s = 4 := by
        unfold ansE
        rw [if_pos hs]
        split
        · rename_i t he; exact absurd he (h' t)
        · rfl
      rw [e1, e2]
      exact get_form s hs (read_bad s hs h') w

end Go.Proofs.YtjkcopgfcafpeaaGreatDoor

