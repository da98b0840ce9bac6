/-
  The walk of the reference's Parse. Conditions: a text of at most 65536 bytes.
-/
import Derived.Test.YteokoilpnabmhaaWalkS
set_option linter.unusedSimpArgs false
set_option linter.unusedVariables false
namespace Go.Proofs.Yteokoilpnabmhaa
open Go.RowKit

/-- what Parse returns where there is a sort -/
def ParseOk (s : List UInt8) (w : World) (t : T) (r : List UInt8) (e : Ending) (w' : World) : Prop :=
  ∃ (q : Option Addr) (c m : Nat), e = .returned (.tuple #[.agg #[.slice q t.len c], .int .i64 (m : Int), .bool true]) ∧ m ≤ s.length ∧ s.drop m = r ∧ Own w' t q c w.heap.size w'.heap.size ∧ Below w.heap.size w w'

/-- what Parse returns where there is none -/
def ParseBad (w : World) (e : Ending) (w' : World) : Prop :=
  ∃ (q : Option Addr) (n c : Nat) (m : Int), e = .returned (.tuple #[.agg #[.slice q n c], .int .i64 m, .bool false]) ∧ Below w.heap.size w w'

def ParseAny (s : List UInt8) (a : Nat) (w : World) (e : Ending) (w' : World) : Prop :=
  (∀ t r, rd (s.drop a) = some (t, r) → ParseOk s w t r e w') ∧ (rd (s.drop a) = none → ParseBad w e w')

theorem parse_bad {w w' : World} {s r z : List UInt8} {a : Nat} {acc : T} {e : Ending} (hz : s.drop a = z) (hrd : rd z = (rd r).map (fun x => (acc.app x.1, x.2))) (h1 : rd r = none) (h : ParseBad w e w') : ParseAny s a w e w' := by
  subst hz
  rw [h1] at hrd
  exact ⟨fun t r' h2 => (by rw [hrd] at h2; cases h2), fun _ => h⟩

theorem parse_ok {w w' : World} {s r r1 z : List UInt8} {a : Nat} {acc : T} {e : Ending} (hz : s.drop a = z) (hrd : rd z = (rd r).map (fun x => (acc.app x.1, x.2))) (h1 : rd r = some (T.nil, r1)) (h : ParseOk s w acc r1 e w') : ParseAny s a w e w' := by
  subst hz
  rw [h1] at hrd
  simp only [Option.map_some, T.app_nil] at hrd
  exact ⟨fun t r' h2 => (by rw [hrd] at h2; simp only [Option.some.injEq, Prod.mk.injEq] at h2; obtain ⟨rfl, rfl⟩ := h2; exact h), fun h2 => (by rw [hrd] at h2; cases h2)⟩

set_option maxHeartbeats 1600000 in
theorem parse_any (n : Nat) : ∀ (s : List UInt8) (a : Nat) (j : Int) (w : World), j = (a : Int) → s.length - a < n → a ≤ s.length → s.length ≤ 65536 →
    Calls Try.prog 48 #[.string ⟨s.toArray⟩, .int .i64 j] w (ParseAny s a w) := by
  obtain ⟨i0, hi0, hz0, hz1', hz2⟩ := info_parts infoS
  induction n with
  | zero => intro s a j w _ h; omega
  | succ n ih =>
    intro s a j w hj hn ha hs
    subst hj
    have IH := Lib.hid ih
    clear ih
    have hst : Pt w ((w.alloc (.cells #[.slice none 0 0] 24)).alloc (.cells #[.slice none 0 0] 24)) .nil none 0 [] :=
      ⟨World.ownsRow_nil _ _ _ _, ⟨rfl, by simp⟩, heap_new2 _ _ _, alloc_kept (heap_new _ _) _, ((Below.refl w.heap.size w).alloc (Nat.le_refl _) _).alloc (by simp) _⟩
    generalize hZ : s.drop a = z
    have HZ := Lib.hid hZ
    go_enter Try.func48, Try.ntmps48
    go_wp2_with fail
    go_loopw [1] (fun iv wr => ∃ (i : Nat) (acc : T) (q : Option Addr) (c : Nat) (xs : List Value), iv = .int .i64 (i : Int) ∧ a ≤ i ∧ i ≤ s.length ∧ acc.len + (s.length - i) ≤ s.length ∧ rd z = (rd (s.drop i)).map (fun x => (acc.app x.1, x.2)) ∧ Pt w wr acc q c xs)
      (fun iv _ => s.length - (intOf iv).toNat)
    case atStart => exact ⟨a, .nil, none, 0, [], rfl, Nat.le_refl _, ha, by simp [T.len], by rw [hZ]; cases rd z <;> rfl, hst⟩
    case round =>
      clear hst hZ
      obtain ⟨i, acc, q, c, xs, rfl, hai, hi, hlen, hrd, hst⟩ := hrel
      generalize hR : s.drop i = r at hrd
      have HD := Lib.hid hrd
      clear hrd
      have HR := Lib.hid hR
      have hmx : acc.len + 1 ≤ maxLen := by simp only [maxLen]; omega
      have hby : (acc.len + 1) * 24 ≤ 140737488355328 := by omega
      have hbase0 := hst.below.size
      have o0 := lt_of_block hst.out
      have k1 := cell_of_one hst.out
      have k2 := cell_of_one hst.res
      have k3 := free_of_one hst.res
      by_cases p111 : pre [111] r = true
      · obtain ⟨r1, rfl⟩ := (pre_iff _ _).1 p111
        clear p111
        obtain ⟨d1, l1⟩ := drop_of hi hR
        simp only [List.length_singleton] at d1 l1
        clear hR
        by_cases p32 : pre [32, 62, 32] r1 = true
        · obtain ⟨r4, rfl⟩ := (pre_iff _ _).1 p32
          clear p32
          obtain ⟨d4, l4⟩ := drop_of (by omega) d1
          have H1 := Lib.hid (rd_o_more r4)
          have D1 := Lib.hid d1
          have D4 := Lib.hid d4
          clear d1 d4
          go_wp2_with fail
          refine (begins_at s [111] i _ _ true rfl (by omega) hs (by simp) rfl (by rw [HR.out]; rfl) _).mono ?_
          rintro e w1 ⟨rfl, rfl⟩
          go_wp2_with fail
          refine (begins_at s [32, 62, 32] (i + 1) _ _ true rfl (by omega) hs (by simp) (by omega) (by rw [D1.out]; rfl) _).mono ?_
          rintro e w1 ⟨rfl, rfl⟩
          have SW := hst
          have hbase : w.heap.size + 2 ≤ wr.heap.size := by omega
          go_wp2_with (at_builtin; refine wpList_append_lies _ rfl _ _ 22 rfl (w.heap.size + 2) 24 i0 (.agg #[.slice none 0 0]) 1 24 Try.underlying22 hi0 hz0 hz1' hz2 rfl Nat.one_pos (.slice q acc.len c) acc.len xs rfl (SW.own.alloc _) ⟨wr.heap.size, 0, none⟩ 1 1 [.slice none 0 0] rfl rfl (cell_one_new _ _ _) (one_slice _ _ _) Nat.one_pos hmx hby (base_le _ hbase) (wr.heap.size + 1) (size_new _ _) ?_; intro g cp w9 hown3 hgrow hat hglt; have hh3 := SW.out_push hgrow; have o1 := cell_of_one hh3; have o2 := free_of_one hh3; clear hh3)
          have P := Pt.push (h := .nil) SW (Below.refl _ _) (own_nil _ _ _) (Nat.le_refl _) (Nat.le_refl _) hown3 hgrow hat
          clear hown3 hgrow hat o1 o2 k1
          go_roundw
          case rel => exact ⟨i + 4, acc.snoc .nil, some ⟨g, 0, none⟩, cp, _, by go_num, by omega, by simp at l4; omega, by rw [T.len_snoc]; omega, by have := rd_push HD.out H1.out; simp only [List.length_cons, List.length_nil] at D4; rw [show i + 4 = i + 1 + 3 by omega, D4.out]; exact this, P⟩
          case measure => simp [intOf]; simp at l4; omega
        · have p32' : pre [32, 62, 32] r1 = false := by simpa using p32
          have H1 := Lib.hid (rd_o_end r1 p32')
          have D1 := Lib.hid d1
          have P32 := Lib.hid p32'
          clear p32 p32' d1
          go_wp2_with fail
          refine (begins_at s [111] i _ _ true rfl (by omega) hs (by simp) rfl (by rw [HR.out]; rfl) _).mono ?_
          rintro e w1 ⟨rfl, rfl⟩
          go_wp2_with fail
          refine (begins_at s [32, 62, 32] (i + 1) _ _ false rfl (by omega) hs (by simp) (by omega) (by rw [D1.out]; exact P32.out) _).mono ?_
          rintro e w1 ⟨rfl, rfl⟩
          go_wp2_with fail
          refine bodyPost_ret (v := .tuple #[.agg #[.slice q acc.len c], .int .i64 ((i : Int) + 1), .bool true]) (by simp [results, Try.results48, go_sem, k2]) rfl (parse_ok HZ.out HD.out H1.out ⟨q, c, i + 1, rfl, by omega, D1.out, ?_, hst.below.setCell (Nat.le_refl _) _⟩)
          have got : Got wr 24 acc acc.len (.slice q acc.len c) (w.heap.size + 2) := ⟨xs, hst.own, by rw [T.take_len]; exact hst.kids⟩
          obtain ⟨q', c', he, hO⟩ := got.finish (Nat.le_refl _) (Nat.lt_irrefl _)
          obtain ⟨rfl, rfl⟩ : q = q' ∧ c = c' := by simpa using he
          have := (hO.set (a := ⟨w.heap.size, 0, none⟩) (show w.heap.size < w.heap.size + 2 by omega) (.slice q acc.len c)).mono (lo' := w.heap.size) (hi' := wr.heap.size) (by omega) (Nat.le_refl _)
          simpa [World.setCell] using this
      · have p111' : pre [111] r = false := by simpa using p111
        have P111 := Lib.hid p111'
        by_cases p40 : pre [40] r = true
        · clear p111 p111'
          obtain ⟨r1, rfl⟩ := (pre_iff _ _).1 p40
          clear p40
          obtain ⟨d1, l1⟩ := drop_of hi hR
          simp only [List.length_singleton] at d1 l1
          clear hR
          have HS := Lib.hid fun W j hj => IH.out s (i + 1) j W hj (by omega) (by omega) hs
          cases h1 : rd r1 with
          | none =>
            have H1 := Lib.hid (rd_open_none r1 h1)
            have D1 := Lib.hid (show rd (s.drop (i + 1)) = none by rw [d1]; exact h1)
            clear d1 h1
            go_wp2_with fail
            refine (begins_at s [111] i _ _ false rfl (by omega) hs (by simp) rfl (by rw [HR.out]; exact P111.out) _).mono ?_
            rintro e w1 ⟨rfl, rfl⟩
            go_wp2_with fail
            refine (begins_at s [40] i _ _ true rfl (by omega) hs (by simp) rfl (by rw [HR.out]; rfl) _).mono ?_
            rintro e w1 ⟨rfl, rfl⟩
            go_wp2_with fail
            refine (HS.out _ _ (by omega)).mono ?_
            intro e w1 hh
            obtain ⟨q1, n1, c1, m1, rfl, hb1⟩ := hh.2 D1.out
            have S1 := (hst.step hb1).alloc (.cells #[.slice q1 n1 c1] 24)
            have k1 := cell_of_one S1.out
            have k2 := cell_of_one S1.res
            have k3 := free_of_one S1.res
            go_wp2_with fail
            refine bodyPost_ret (v := .tuple #[.agg #[.slice q acc.len c], .int .i64 i, .bool false]) (by simp [results, Try.results48, go_sem, k2]) rfl (parse_bad HZ.out HD.out H1.out ⟨q, acc.len, c, i, rfl, S1.below.setCell (Nat.le_refl _) _⟩)
          | some x =>
            obtain ⟨h, r2⟩ := x
            have hl1 := rd_lt h1
            have D1 := Lib.hid (show rd (s.drop (i + 1)) = some (h, r2) by rw [d1]; exact h1)
            clear d1
            by_cases h0 : h.len = 0
            · have H1 := Lib.hid (rd_open_bad r1 h r2 h1 (fun hh => hh.1 h0))
              have hd : ((h.len : Int) == 0) = true := by simp [h0]
              clear h1 h0
              go_wp2_with fail
              refine (begins_at s [111] i _ _ false rfl (by omega) hs (by simp) rfl (by rw [HR.out]; exact P111.out) _).mono ?_
              rintro e w1 ⟨rfl, rfl⟩
              go_wp2_with fail
              refine (begins_at s [40] i _ _ true rfl (by omega) hs (by simp) rfl (by rw [HR.out]; rfl) _).mono ?_
              rintro e w1 ⟨rfl, rfl⟩
              go_wp2_with fail
              refine (HS.out _ _ (by omega)).mono ?_
              intro e w1 hh
              obtain ⟨q1, c1, m, rfl, hm, hdm, hO1, hb1⟩ := hh.1 _ _ D1.out
              have S1 := (hst.step hb1).alloc (.cells #[.slice q1 h.len c1] 24)
              have k1 := cell_of_one S1.out
              have k2 := cell_of_one S1.res
              have k3 := free_of_one S1.res
              have kb := cell_of_one (heap_new w1 (.cells #[.slice q1 h.len c1] 24))
              go_wp2_with fail
              refine bodyPost_ret (v := .tuple #[.agg #[.slice q acc.len c], .int .i64 i, .bool false]) (by simp [results, Try.results48, go_sem, k2]) rfl (parse_bad HZ.out HD.out H1.out ⟨q, acc.len, c, i, rfl, S1.below.setCell (Nat.le_refl _) _⟩)
            · have hd : ((h.len : Int) == 0) = false := by simp; omega
              by_cases p41 : pre [41, 32, 62, 32] r2 = true
              · obtain ⟨r4, rfl⟩ := (pre_iff _ _).1 p41
                clear p41
                have H1 := Lib.hid (rd_open_more r1 h r4 h1 h0)
                clear h1 h0
                go_wp2_with fail
                refine (begins_at s [111] i _ _ false rfl (by omega) hs (by simp) rfl (by rw [HR.out]; exact P111.out) _).mono ?_
                rintro e w1 ⟨rfl, rfl⟩
                go_wp2_with fail
                refine (begins_at s [40] i _ _ true rfl (by omega) hs (by simp) rfl (by rw [HR.out]; rfl) _).mono ?_
                rintro e w1 ⟨rfl, rfl⟩
                go_wp2_with fail
                refine (HS.out _ _ (by omega)).mono ?_
                intro e w1 hh
                obtain ⟨q1, c1, m, rfl, hm, hdm, hO1, hb1⟩ := hh.1 _ _ D1.out
                have S1 := (hst.step hb1).alloc (.cells #[.slice q1 h.len c1] 24)
                have k1 := cell_of_one S1.out
                have k2 := cell_of_one S1.res
                have k3 := free_of_one S1.res
                have kb := cell_of_one (heap_new w1 (.cells #[.slice q1 h.len c1] 24))
                obtain ⟨d4, l4⟩ := drop_of hm hdm
                have DM := Lib.hid hdm
                have D4 := Lib.hid d4
                clear hdm d4
                go_wp2_with fail
                refine (begins_at s [41, 32, 62, 32] m _ _ true rfl hm hs (by simp) rfl (by rw [DM.out]; rfl) _).mono ?_
                rintro e w2 ⟨rfl, hw2⟩
                have hzb := hb1.size
                have SW : Pt w w2 acc q c xs := by rw [← hw2]; exact S1
                have hg1 : Below wr.heap.size wr w2 := by rw [← hw2]; exact hb1.alloc hzb _
                have hO2 : Own w2 h q1 c1 wr.heap.size w1.heap.size := by rw [← hw2]; exact hO1.keep fun j _ hj => Below.heap_alloc _ _ _ hj
                have hm2 : w1.heap.size ≤ w2.heap.size := by rw [← hw2]; simp
                rw [hw2] at k1 kb
                clear hw2 S1 k2 k3 hO1 hb1
                have hbase : w.heap.size + 2 ≤ w2.heap.size := by omega
                go_wp2_with (at_builtin; refine wpList_append_lies _ rfl _ _ 22 rfl (w.heap.size + 2) 24 i0 (.agg #[.slice none 0 0]) 1 24 Try.underlying22 hi0 hz0 hz1' hz2 rfl Nat.one_pos (.slice q acc.len c) acc.len xs rfl (SW.own.alloc _) ⟨w2.heap.size, 0, none⟩ 1 1 [.slice q1 h.len c1] rfl rfl (cell_one_new _ _ _) (one_slice _ _ _) Nat.one_pos hmx hby (base_le _ hbase) (w2.heap.size + 1) (size_new _ _) ?_; intro g cp w9 hown3 hgrow hat hglt; have hh3 := SW.out_push hgrow; have o1 := cell_of_one hh3; have o2 := free_of_one hh3; clear hh3)
                have P := Pt.push hst hg1 hO2 hzb hm2 hown3 hgrow hat
                clear hown3 hgrow hat o1 o2 k1
                go_roundw
                case rel => exact ⟨m + 4, acc.snoc h, some ⟨g, 0, none⟩, cp, _, by go_num, by simp at l4 l1 hl1; omega, by simp at l4; omega, by rw [T.len_snoc]; simp at l4 l1 hl1; omega, by have := rd_push HD.out H1.out; simp only [List.length_cons, List.length_nil] at D4; rw [D4.out]; exact this, P⟩
                case measure => simp [intOf]; simp at l4 l1 hl1; omega
              · have H1 := Lib.hid (rd_open_bad r1 h r2 h1 (fun hh => p41 ((pre4 r2).2 hh.2)))
                have P41 := Lib.hid (show pre [41, 32, 62, 32] r2 = false by simpa using p41)
                clear h1 h0 p41
                go_wp2_with fail
                refine (begins_at s [111] i _ _ false rfl (by omega) hs (by simp) rfl (by rw [HR.out]; exact P111.out) _).mono ?_
                rintro e w1 ⟨rfl, rfl⟩
                go_wp2_with fail
                refine (begins_at s [40] i _ _ true rfl (by omega) hs (by simp) rfl (by rw [HR.out]; rfl) _).mono ?_
                rintro e w1 ⟨rfl, rfl⟩
                go_wp2_with fail
                refine (HS.out _ _ (by omega)).mono ?_
                intro e w1 hh
                obtain ⟨q1, c1, m, rfl, hm, hdm, hO1, hb1⟩ := hh.1 _ _ D1.out
                have S1 := (hst.step hb1).alloc (.cells #[.slice q1 h.len c1] 24)
                have k1 := cell_of_one S1.out
                have k2 := cell_of_one S1.res
                have k3 := free_of_one S1.res
                have kb := cell_of_one (heap_new w1 (.cells #[.slice q1 h.len c1] 24))
                have DM := Lib.hid hdm
                clear hdm
                go_wp2_with fail
                refine (begins_at s [41, 32, 62, 32] m _ _ false rfl hm hs (by simp) rfl (by rw [DM.out]; exact P41.out) _).mono ?_
                rintro e w2 ⟨rfl, rfl⟩
                go_wp2_with fail
                refine bodyPost_ret (v := .tuple #[.agg #[.slice q acc.len c], .int .i64 i, .bool false]) (by simp [results, Try.results48, go_sem, k2]) rfl (parse_bad HZ.out HD.out H1.out ⟨q, acc.len, c, i, rfl, S1.below.setCell (Nat.le_refl _) _⟩)
        · have H1 := Lib.hid (rd_neither r p40 p111)
          have P40 := Lib.hid (show pre [40] r = false by simpa using p40)
          clear p111 p111' p40 hR
          go_wp2_with fail
          refine (begins_at s [111] i _ _ false rfl (by omega) hs (by simp) rfl (by rw [HR.out]; exact P111.out) _).mono ?_
          rintro e w1 ⟨rfl, rfl⟩
          go_wp2_with fail
          refine (begins_at s [40] i _ _ false rfl (by omega) hs (by simp) rfl (by rw [HR.out]; exact P40.out) _).mono ?_
          rintro e w1 ⟨rfl, rfl⟩
          go_wp2_with fail
          refine bodyPost_ret (v := .tuple #[.agg #[.slice q acc.len c], .int .i64 i, .bool false]) (by simp [results, Try.results48, go_sem, k2]) rfl (parse_bad HZ.out HD.out H1.out ⟨q, acc.len, c, i, rfl, hst.below.setCell (Nat.le_refl _) _⟩)

end Go.Proofs.Yteokoilpnabmhaa
