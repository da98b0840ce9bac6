/-
  Whatever symbols and tree are handed in, the statement on Put answers true and leaves these as it was. Conditions: none but the row's own (memory that leads back into itself is shut out).
-/
import Derived.Test.YtgpbkdfhjkfceaaMg27
import Derived.Test.YtgpbkdfhjkfceaaMg16
import Derived.Lib.AppendStr
import Derived.Test.YtgpbkdfhjkfceaaMg26
import Derived.Test.YtgpbkdfhjkfceaaMg14
import Derived.Test.YtgpbkdfhjkfceaaMg28
import Derived.Test.YtgpbkdfhjkfceaaMg22
import Derived.Deep.RegionHeld3
import Derived.Laws.BytesString
import Derived.Laws.IdiomStrings
import Derived.Test.YtgpbkdfhjkfceaaMg23

/-
  The walk of the reference's Text, which adds a tree's string to a row of bytes. Conditions: the symbols and the tree lie below a base, the row above it.
-/
set_option linter.unusedSimpArgs false
set_option linter.unusedVariables false
namespace Go.Proofs.Ytgpbkdfhjkfceaa
open Go.RowKit

theorem infoU8 : (Try.prog.info? 5).map (fun i => (i.zero, i.size, i.bytes)) = some (some (.int .u8 0), 1, 1) := by kernel_rfl

def bc (d : List UInt8) : List Value := d.map fun b => Value.int .u8 b.toNat

theorem bc_app (d t : List UInt8) : bc (d ++ t) = bc d ++ bc t := by simp [bc]

/-- all that is no row of bytes is kept -/
def TB (w w' : World) : Prop := w.heap.size ≤ w'.heap.size ∧ ∀ (j : Nat) (o : Obj), w.heap[j]? = some o → (∀ cs fr, o ≠ Obj.cells cs 5 fr) → w'.heap[j]? = some o

theorem TB.refl (w : World) : TB w w := ⟨Nat.le_refl _, fun _ _ h _ => h⟩
theorem TB.trans {a b c : World} (h : TB a b) (h' : TB b c) : TB a c := ⟨Nat.le_trans h.1 h'.1, fun j o e hn => h'.2 j o (h.2 j o e hn) hn⟩
theorem TB.alloc {a b : World} (h : TB a b) (o : Obj) : TB a (b.alloc o) := ⟨by have := h.1; simp; omega, fun j o' e hn => alloc_kept (h.2 j o' e hn) o⟩

theorem TB.tree {a b : World} (h : TB a b) {j : Nat} {cs : Array Value} (e : a.heap[j]? = some (.cells cs 25 (0, 0))) : b.heap[j]? = some (.cells cs 25 (0, 0)) :=
  h.2 j _ e fun cs' fr he => by injection he with _ h2; exact absurd h2 (by decide)

theorem own_u8 {W : World} {B n : Nat} {v : Value} {xs : List Value} (h : W.ownsRow B 5 1 v n xs) {k : Nat} (hk : v.ownBlock = some k) : ∃ cs fr, W.heap[k]? = some (.cells cs 5 fr) := by
  rcases h.2 with ⟨rfl, h0⟩ | ⟨g, cap, cur, rfl, _, hg, _⟩
  · simp [Value.ownBlock] at hk
  · simp only [Value.ownBlock, Option.some.injEq] at hk
    subst hk
    exact ⟨_, _, hg⟩

theorem tb_grow {W w3 : World} {B n : Nat} {v : Value} {xs : List Value} (h : W.ownsRow B 5 1 v n xs) (hgrow : W.grownBy w3 v.ownBlock) : TB W w3 :=
  ⟨hgrow.size, fun j o e hn => (hgrow.block j (lt_of_block e) (fun he => by
    obtain ⟨cs, fr, h2⟩ := own_u8 h he.symm
    rw [h2] at e
    injection e with e
    exact hn cs fr e.symm)).trans e⟩

/-- what Text leaves -/
def Texted (B : Nat) (d : List UInt8) (W w' : World) (v : Value) : Prop := w'.ownsRow B 5 1 v d.length (bc d) ∧ Below B W w' ∧ TB W w'

theorem Texted.trans {B : Nat} {d d' : List UInt8} {a b c : World} {v v' : Value} (h : Texted B d a b v) (h' : Texted B d' b c v') : Texted B d' a c v' := ⟨h'.1, h.2.1.trans h'.2.1, h.2.2.trans h'.2.2⟩

theorem Texted.alloc {B : Nat} {d : List UInt8} {a b : World} {v : Value} (h : Texted B d a b v) (hB : B ≤ a.heap.size) (o : Obj) : Texted B d a (b.alloc o) v :=
  ⟨h.1.alloc o, h.2.1.alloc (by have := h.2.2.1; omega) o, h.2.2.alloc o⟩

/-- a byte is added -/
theorem texted_byte {B : Nat} {d : List UInt8} {a b w3 : World} {v : Value} {g cp : Nat} {c : UInt8} {o : Obj} (h : Texted B d a b v) (hB : B ≤ a.heap.size) (hown : w3.ownsRow B 5 1 (.slice (some ⟨g, 0, none⟩) (d.length + 1) cp) (d.length + 1) (bc d ++ [.int .u8 c.toNat])) (hgrow : (b.alloc o).grownBy w3 v.ownBlock) :
    Texted B (d ++ [c]) a w3 (.slice (some ⟨g, 0, none⟩) (d.length + 1) cp) := by
  have hb : B ≤ (b.alloc o).heap.size := by have := h.2.2.1; simp; omega
  have h1 := h.alloc hB o
  refine ⟨?_, (h1.2.1).grown hgrow hb fun k hk => (h1.1.lt k hk).1, h1.2.2.trans (tb_grow h1.1 hgrow)⟩
  rw [bc_app]
  simpa [bc] using hown

theorem texted_str {B : Nat} {d : List UInt8} {a b w3 : World} {v v' : Value} {s : ByteArray} (h : Texted B d a b v) (hB : B ≤ a.heap.size) (hown : w3.ownsRow B 5 1 v' (d.length + s.size) (bc d ++ Lib.strCells s)) (hgrow : b.grownBy w3 v.ownBlock) : Texted B (d ++ s.data.toList) a w3 v' := by
  have hb : B ≤ b.heap.size := by have := h.2.2.1; omega
  refine ⟨?_, (h.2.1).grown hgrow hb fun k hk => (h.1.lt k hk).1, h.2.2.trans (tb_grow h.1 hgrow)⟩
  rw [bc_app]
  have e : s.data.toList.length = s.size := by simp
  rw [List.length_append, e]
  exact hown

set_option maxRecDepth 100000 in
set_option maxHeartbeats 3200000 in
theorem etext_any (S : Sy) (R : List Int) (hR : R.length = S.len) (w0 : World) (sp : Option Addr) (sc : Nat) (hsy : IsS w0 S sp S.len sc) (N : Nat) : ∀ (a : Y) (n : Int) (p : Option Addr) (l cap : Nat) (w : World) (d : List UInt8) (v : Value),
    a.sz < N → IsY w0 a p l cap → over1 R n a = true → Below w0.heap.size w0 w → w.ownsRow w0.heap.size 5 1 v d.length (bc d) → d.length + (tx1 S n a).length ≤ 70368744177664 →
    Calls Try.prog 72 #[.slice sp S.len sc, .agg #[.int .i64 n, .slice p l cap], v] w fun e w' => ∃ v', e = .returned v' ∧ Texted w0.heap.size (d ++ tx1 S n a) w w' v' := by
  obtain ⟨i0, hi0, hz0, hz1, hz2⟩ := info_parts infoU8
  induction N with
  | zero => intro a n p l cap w d v hN; omega
  | succ N ih =>
    intro a n p l cap w d v hN his ho hw hown hlen
    have IH := Lib.hid ih
    clear ih
    have hBw : w0.heap.size ≤ w.heap.size := hw.size
    have HW := Lib.hid hw
    obtain ⟨hl, hcap, hmax, hnil, hrow⟩ := his
    subst hl
    unfold maxLen at hmax
    have hT0 : Texted w0.heap.size d w w v := ⟨hown, Below.refl _ _, TB.refl _⟩
    have HT0 := Lib.hid hT0
    have HT1 := Lib.hid (hT0.alloc hBw (.cells #[.int .i64 n, .slice p a.len cap] 25))
    clear hT0 hown hw
    by_cases hu : n = -1
    · subst hu
      have hd1 : ((-1 : Int) == -1) = true := rfl
      have ht : tx1 S (-1) a = [95] := rfl
      rw [ht] at hlen ⊢
      simp only [List.length_singleton] at hlen
      have hownA := fun o => (HT1.out.1).alloc o
      clear ho ht
      go_enter Try.func72, Try.ntmps72
      go_wp2_with (at_builtin; refine wpList_append_lies _ rfl _ _ 71 rfl w0.heap.size 5 i0 (.int .u8 0) 1 1 Try.underlying71 hi0 hz0 hz1 hz2 rfl (by decide) v d.length (bc d) rfl (hownA _) ⟨w.heap.size + 1, 0, none⟩ 1 1 [.int .u8 95] rfl rfl (World.news_of_block (by simpa using heap_new (w.alloc _) (.cells #[.int .u8 95] 5))) (by simp [Value.oneCell']) (by decide) (by unfold maxLen; omega) (by omega) (by simp; omega) (w.heap.size + 2) (by simp) ?_; intro g cp w3 hown3 hgrow hat hglt)
      go_ret
      exact ⟨_, rfl, texted_byte (c := 95) HT1.out hBw hown3 hgrow⟩
    have hd1 : (n == -1) = false := by simp [hu]
    have hov := ho
    simp only [over1, suitE, Bool.and_eq_true, Bool.or_eq_true, decide_eq_true_eq] at hov
    obtain ⟨hsuit, hoE⟩ := hov
    have HOE := Lib.hid hoE
    obtain ⟨m, rfl⟩ : ∃ m : Nat, n = (m : Int) := ⟨n.toNat, by omega⟩
    have hmS : m < S.len := by omega
    obtain ⟨_, hsc, hsm, _, hsrow⟩ := hsy
    unfold maxLen at hsm
    rcases hsrow with h0 | ⟨sb, soff, hsp, hs⟩
    · omega
    subst hsp
    obtain ⟨hs1, hs2⟩ := hs m hmS
    have hs3 := ((bcell HW.out).1 _ _ (lt_of_cell hs1)).trans hs1
    have HT := Lib.hid (show tx1 S (m : Int) a = (S.nm m).data.toList ++ (if a.len = 0 then [] else txL S 40 a ++ [41]) by simp only [tx1, if_neg hu, Int.toNat_natCast])
    have hs4 := fun o => (keep_alloc w o _ _ (lt_of_cell hs3)).trans hs3
    generalize S.nm m = x at *
    have hxl : x.data.toList.length = x.size := by simp
    have hlen2 := hlen
    rw [HT.out] at hlen2
    simp only [List.length_append, hxl] at hlen2
    clear hs1 hs2 hs ho hsuit hoE hu
    have hown0 := HT1.out.1
    have hb0 := heap_new w (.cells #[.int .i64 (m : Int), .slice p a.len cap] 25)
    have HB0 := Lib.hid hb0
    go_enter Try.func72, Try.ntmps72
    go_wp2_with (at_builtin; refine Lib.wpList_append_own_string _ rfl _ _ 71 9 rfl w0.heap.size 5 i0 Try.underlying71 Try.underlying9 hi0 hz0 hz1 hz2 v d.length (bc d) rfl hown0 x rfl ?c3 ?c4 ?c5 ?_)
    case c3 => unfold maxLen; omega
    case c4 => omega
    case c5 => first | omega | (simp; omega)
    intro v1 w1 hown1 hgrow1 _
    have HT2 := Lib.hid (texted_str HT1.out hBw hown1 hgrow1)
    have y0 := (tb_grow hown0 hgrow1).tree hb0
    have HY0 := Lib.hid y0
    obtain ⟨y1, y2⟩ := box2_cells y0
    clear hown0 hb0 hown1 hgrow1 y0
    go_wp2_with fail
    go_loopw [2, 26] (fun v i wr => ∃ (j : Nat) (t : List UInt8) (vv : Value), j ≤ a.len ∧ i = .int .i64 (j : Int) ∧ vv = v ∧ x.data.toList ++ txL S 40 a = t ++ txL S (if j = 0 then 40 else 44) (a.drop j) ∧ Texted w0.heap.size (d ++ t) w wr vv ∧ wr.heap[w.heap.size]? = some (.cells #[.int .i64 (m : Int), .slice p a.len cap] 25 (0, 0)))
      (fun _ i _ => a.len - (intOf i).toNat)
    case atStart => exact ⟨0, x.data.toList, _, Nat.zero_le _, rfl, rfl, by rw [Y.drop_zero, if_pos rfl], HT2.out, HY0.out⟩
    case round =>
      obtain ⟨j, t, vv, hj, rfl, rfl, ht, hTr, hbx⟩ := hrel
      have HTT := Lib.hid ht
      have HTR := Lib.hid hTr
      have HBX := Lib.hid hbx
      have hsz := hTr.2.2.1
      have htl : t.length + (txL S (if j = 0 then 40 else 44) (a.drop j)).length = x.size + (txL S 40 a).length := by
        have := congrArg List.length ht
        simp only [List.length_append, hxl] at this
        omega
      have HTL := Lib.hid htl
      clear ht hTr hbx htl
      by_cases hlt : j < a.len
      · rcases hrow with h0 | ⟨rb, off, rfl, hr⟩
        · omega
        have h0 : ¬ a.len = 0 := by omega
        rw [if_neg h0] at hlen2
        simp only [List.length_append, List.length_singleton] at hlen2
        obtain ⟨hcn, p', n', cap', hc, hi⟩ := hr.at hlt
        have hw2 := HW.out.trans HTR.out.2.1
        have e1 := ((bcell hw2).1 _ _ (lt_of_cell hcn)).trans hcn
        have e2 := ((bcell hw2).1 _ _ (lt_of_cell hc)).trans hc
        have HI := Lib.hid hi
        have hg := a.sz_ga j hlt
        have hdr := Lib.hid (txL_drop S (if j = 0 then 40 else 44) a j hlt)
        have HTA := Lib.hid (HTR.out.alloc hBw (.cells #[.int .i64 (a.gn j), .slice p' n' cap'] 25))
        have hownA := fun o => (HTA.out.1).alloc o
        have hl2 : (d ++ t).length + 1 + (tx1 S (a.gn j) (a.ga j)).length ≤ 70368744177664 := by
          have h1 := HTL.out
          rw [hdr.out] at h1
          simp only [List.length_cons, List.length_append] at h1 ⊢
          omega
        have HL2 := Lib.hid hl2
        have hdl : (d ++ t).length + 1 ≤ 70368744177664 := by omega
        have hBr : w0.heap.size ≤ wr.heap.size := by omega
        clear hcn hc hi hw2 hl2 hlen2 hr
        obtain ⟨dt, hdt⟩ : ∃ dt, d ++ t = dt := ⟨_, rfl⟩
        rw [hdt] at HTA HL2 hdl
        have hownA := fun o => (HTA.out.1).alloc o
        have HDT := Lib.hid hdt
        clear hdt
        by_cases hj0 : j = 0
        · have hd2 : ((j : Int) == 0) = true := by simp [hj0]
          have hd3 : (if j = 0 then (40 : UInt8) else 44) = 40 := if_pos hj0
          clear hj0
          go_wp2_with (at_builtin; refine wpList_append_lies _ rfl _ _ 71 rfl w0.heap.size 5 i0 (.int .u8 0) 1 1 Try.underlying71 hi0 hz0 hz1 hz2 rfl (by decide) vv (dt).length (bc (dt)) rfl (hownA _) ⟨wr.heap.size + 1, 0, none⟩ 1 1 [.int .u8 40] rfl rfl (World.news_of_block (by simpa using heap_new (wr.alloc _) (.cells #[.int .u8 40] 5))) (by simp [Value.oneCell']) (by decide) (by unfold maxLen; omega) (by omega) (by simp; omega) (wr.heap.size + 1 + 1) (by simp) ?_; intro g cp w3 hown3 hgrow hat hglt; have z0 := (tb_grow (hownA _) hgrow).tree (alloc_kept (heap_new wr (.cells #[.int .i64 (a.gn j), .slice p' n' cap'] 25)) _); obtain ⟨z1, z2⟩ := box2_cells z0)
          have HT3 := Lib.hid (texted_byte (c := 40) HTA.out hBw hown3 hgrow)
          have hgt := tb_grow (hownA _) hgrow
          have HBX3 := Lib.hid (hgt.tree (alloc_kept (alloc_kept HBX.out _) _))
          clear hown3 hgrow hat hglt z0 hgt
          refine (IH.out (a.ga j) (a.gn j) p' n' cap' w3 (dt ++ [40]) _ (by omega) HI.out (overE_at HOE.out hlt) (HW.out.trans HT3.out.2.1) HT3.out.1 (by have := HL2.out; simp only [List.length_append, List.length_singleton] at this ⊢; omega)).mono ?_
          rintro e w4 ⟨v4, rfl, hT4⟩
          have HT4 := Lib.hid (HT3.out.trans hT4)
          have HBX4 := Lib.hid (hT4.2.2.tree HBX3.out)
          clear hT4
          go_wp2_with fail
          go_roundw
          case rel => exact ⟨j + 1, t ++ 40 :: tx1 S (a.gn j) (a.ga j), v4, by omega, by go_num, rfl, by rw [if_neg (Nat.succ_ne_zero j), HTT.out, hdr.out, hd3]; simp, by have h := HT4.out; rw [← HDT.out] at h; simpa [List.append_assoc] using h, HBX4.out⟩
          case measure => simp [intOf]; omega
        · have hd2 : ((j : Int) == 0) = false := by simp [hj0]
          have hd3 : (if j = 0 then (40 : UInt8) else 44) = 44 := if_neg hj0
          clear hj0
          go_wp2_with (at_builtin; refine wpList_append_lies _ rfl _ _ 71 rfl w0.heap.size 5 i0 (.int .u8 0) 1 1 Try.underlying71 hi0 hz0 hz1 hz2 rfl (by decide) vv (dt).length (bc (dt)) rfl (hownA _) ⟨wr.heap.size + 1, 0, none⟩ 1 1 [.int .u8 44] rfl rfl (World.news_of_block (by simpa using heap_new (wr.alloc _) (.cells #[.int .u8 44] 5))) (by simp [Value.oneCell']) (by decide) (by unfold maxLen; omega) (by omega) (by simp; omega) (wr.heap.size + 1 + 1) (by simp) ?_; intro g cp w3 hown3 hgrow hat hglt; have z0 := (tb_grow (hownA _) hgrow).tree (alloc_kept (heap_new wr (.cells #[.int .i64 (a.gn j), .slice p' n' cap'] 25)) _); obtain ⟨z1, z2⟩ := box2_cells z0)
          have HT3 := Lib.hid (texted_byte (c := 44) HTA.out hBw hown3 hgrow)
          have hgt := tb_grow (hownA _) hgrow
          have HBX3 := Lib.hid (hgt.tree (alloc_kept (alloc_kept HBX.out _) _))
          clear hown3 hgrow hat hglt z0 hgt
          refine (IH.out (a.ga j) (a.gn j) p' n' cap' w3 (dt ++ [44]) _ (by omega) HI.out (overE_at HOE.out hlt) (HW.out.trans HT3.out.2.1) HT3.out.1 (by have := HL2.out; simp only [List.length_append, List.length_singleton] at this ⊢; omega)).mono ?_
          rintro e w4 ⟨v4, rfl, hT4⟩
          have HT4 := Lib.hid (HT3.out.trans hT4)
          have HBX4 := Lib.hid (hT4.2.2.tree HBX3.out)
          clear hT4
          go_wp2_with fail
          go_roundw
          case rel => exact ⟨j + 1, t ++ 44 :: tx1 S (a.gn j) (a.ga j), v4, by omega, by go_num, rfl, by rw [if_neg (Nat.succ_ne_zero j), HTT.out, hdr.out, hd3]; simp, by have h := HT4.out; rw [← HDT.out] at h; simpa [List.append_assoc] using h, HBX4.out⟩
          case measure => simp [intOf]; omega
      · have hjl : j = a.len := by omega
        have hte : x.data.toList ++ txL S 40 a = t := by
          have h := HTT.out
          rw [txL_end S _ a j hlt, List.append_nil] at h
          exact h
        obtain ⟨b1, b2⟩ := box2_cells HBX.out
        have hdl : (d ++ t).length = d.length + (x.size + (txL S 40 a).length) := by
          rw [List.length_append, ← hte, List.length_append, hxl]
        by_cases h0 : a.len = 0
        · have ht2 : tx1 S (m : Int) a = t := by
            rw [HT.out, if_pos h0, List.append_nil, ← hte]
            cases a with
            | nil => simp [txL]
            | cons n2 a2 r2 => simp [Y.len] at h0
          have HT5 := Lib.hid ht2
          have hgt0 : ¬ 0 < a.len := by omega
          clear ht2 hte hlen hlen2
          go_wp2_with fail
          go_ret
          exact ⟨vv, rfl, by rw [HT5.out]; exact HTR.out⟩
        · have ht2 : tx1 S (m : Int) a = t ++ [41] := by rw [HT.out, if_neg h0, ← hte]; simp
          have HT5 := Lib.hid ht2
          have hgt0 : 0 < a.len := by omega
          rw [if_neg h0] at hlen2
          simp only [List.length_append, List.length_singleton] at hlen2
          have hownA := fun o => (HTR.out.1).alloc o
          have hdl2 : (d ++ t).length + 1 ≤ 70368744177664 := by omega
          have hBr : w0.heap.size ≤ wr.heap.size := by omega
          obtain ⟨dt, hdt⟩ : ∃ dt, d ++ t = dt := ⟨_, rfl⟩
          rw [hdt] at HTR hdl2
          have hownA := fun o => (HTR.out.1).alloc o
          have HDT := Lib.hid hdt
          clear ht2 hte hlen hlen2 hdl hdt
          go_wp2_with (at_builtin; refine wpList_append_lies _ rfl _ _ 71 rfl w0.heap.size 5 i0 (.int .u8 0) 1 1 Try.underlying71 hi0 hz0 hz1 hz2 rfl (by decide) vv (dt).length (bc (dt)) rfl (hownA _) ⟨wr.heap.size, 0, none⟩ 1 1 [.int .u8 41] rfl rfl (World.news_of_block (by simpa using heap_new wr (.cells #[.int .u8 41] 5))) (by simp [Value.oneCell']) (by decide) (by unfold maxLen; omega) (by omega) (by simp; omega) (wr.heap.size + 1) (by simp) ?_; intro g cp w3 hown3 hgrow hat hglt)
          go_wp2_with fail
          go_ret
          exact ⟨_, rfl, by rw [HT5.out, ← List.append_assoc, HDT.out]; exact texted_byte (c := 41) HTR.out hBw hown3 hgrow⟩

end Go.Proofs.Ytgpbkdfhjkfceaa

/-
  A tree is read back from its string: without memory. Conditions: the symbols are good, the tree is over them.
-/
set_option linter.unusedSimpArgs false
set_option linter.unusedVariables false
namespace Go.Proofs.Ytgpbkdfhjkfceaa
open Y

theorem nm_split {x : ByteArray} (h : nm x = true) : ∃ c r, x.data.toList = c :: r ∧ c ≠ 95 ∧ ∀ y ∈ x.data.toList, inN y = true := by
  obtain ⟨⟨l⟩⟩ := x
  cases l with
  | nil =>
    simp only [nm, Bool.and_eq_true, decide_eq_true_eq] at h
    exact absurd h.1.1.1 (Nat.lt_irrefl 0)
  | cons c r =>
    simp only [nm, Bool.and_eq_true, decide_eq_true_eq, oks, List.all_eq_true, List.drop_zero] at h
    refine ⟨c, r, rfl, ?_, fun y hy => h.2 y hy⟩
    rintro rfl
    have h1 := h.1.2
    simp [isL, byt] at h1

theorem symFrom_at2 {S : Sy} : ∀ {n i : Nat}, symFrom S n i = true → ∀ j, i ≤ j → j < i + n → symOk S j = true := by
  intro n
  induction n with
  | zero => intro i _ j h1 h2; omega
  | succ n ih =>
    intro i h j h1 h2
    simp only [symFrom, Bool.and_eq_true] at h
    by_cases e : j = i
    · subst e; exact h.1
    · exact ih h.2 j (by omega) (by omega)

theorem syms_distinct {S : Sy} (h : symsOk S = true) {i j : Nat} (hij : i < j) (hj : j < S.len) : S.nm i ≠ S.nm j := by
  simp only [symsOk, Bool.and_eq_true] at h
  have h1 := symFrom_at2 h.2 j (Nat.zero_le _) (by omega)
  simp only [symOk, Bool.and_eq_true, Bool.not_eq_true', dup, List.any_eq_false] at h1
  have h2 := h1.1.1.2 i (List.mem_range.2 hij)
  simpa using h2

theorem idxS_self {S : Sy} (h : symsOk S = true) {m : Nat} : ∀ {i : Nat}, m < i → i ≤ S.len → idxS S (S.nm m) i = some m := by
  intro i
  induction i with
  | zero => intro h1 _; omega
  | succ i ih =>
    intro h1 h2
    unfold idxS
    by_cases e : m = i
    · subst e; simp
    · rw [if_neg (fun he => syms_distinct h (show m < i by omega) (by omega) he.symm)]
      exact ih (by omega) (by omega)

/-- what may stand behind a name -/
def stopB : List UInt8 → Bool
  | [] => true
  | c :: _ => !inN c

theorem takeName {l r : List UInt8} (hl : ∀ y ∈ l, inN y = true) (hr : stopB r = true) : (l ++ r).takeWhile inN = l ∧ (l ++ r).dropWhile inN = r := by
  induction l with
  | nil =>
    cases r with
    | nil => exact ⟨rfl, rfl⟩
    | cons c r =>
      have hc : inN c = false := by simpa [stopB] using hr
      simp [List.takeWhile, List.dropWhile, hc]
  | cons c l ih =>
    have hc : inN c = true := hl c (by simp)
    obtain ⟨h1, h2⟩ := ih (fun y hy => hl y (by simp [hy]))
    simp [List.takeWhile, List.dropWhile, hc, h1, h2]

theorem rdName_of {x : ByteArray} (h : nm x = true) {r : List UInt8} (hr : stopB r = true) : rdName (x.data.toList ++ r) = some (x, r) := by
  obtain ⟨c, r', _, _, hall⟩ := nm_split h
  obtain ⟨h1, h2⟩ := takeName hall hr
  unfold rdName
  rw [h1, h2]
  have e : (⟨x.data.toList.toArray⟩ : ByteArray) = x := by
    apply ByteArray.ext
    simp
  rw [e, if_pos h]

theorem stop_of {c : UInt8} (h : inN c = false) (r : List UInt8) : stopB (c :: r) = true := by simp [stopB, h]

theorem stop_44 (r : List UInt8) : stopB (44 :: r) = true := stop_of (by decide) r
theorem stop_40 (r : List UInt8) : stopB (40 :: r) = true := stop_of (by decide) r
theorem stop_41 (r : List UInt8) : stopB (41 :: r) = true := stop_of (by decide) r

theorem txL_stop (S : Sy) (a : Y) (r : List UInt8) (hr : stopB r = true) : stopB (txL S 44 a ++ r) = true := by
  cases a with
  | nil => exact hr
  | cons n a s =>
    rw [txL_cons]
    exact stop_44 _

theorem pre_one (c : UInt8) (r : List UInt8) : pre [c] (c :: r) = true := by simp [pre, List.isPrefixOf]

theorem pre_not {c d : UInt8} (h : c ≠ d) (r : List UInt8) : pre [d] (c :: r) = false := by
  simp only [pre, List.isPrefixOf, Bool.and_true, beq_eq_false_iff_ne]
  exact fun e => h e.symm

theorem rdKids_tx (S : Sy) (g : List UInt8 → Option (Int × Y × List UInt8)) (a : Y) : ∀ (mb : UInt8) (r : List UInt8), stopB r = true →
    (∀ i, i < a.len → ∀ r', stopB r' = true → g (tx1 S (a.gn i) (a.ga i) ++ r') = some (a.gn i, a.ga i, r')) → rdKids g a.len mb (txL S mb a ++ r) = some (a, r) := by
  induction a with
  | nil => intro mb r _ _; rfl
  | cons n a s iha ihs =>
    intro mb r hr hg
    rw [txL_cons]
    simp only [len, rdKids, List.cons_append, List.append_assoc]
    rw [if_pos (pre_one _ _)]
    simp only [List.drop_succ_cons, List.drop_zero]
    have h0 := hg 0 (by simp [len]) (txL S 44 s ++ r) (txL_stop S s r hr)
    simp only [gn, ga] at h0
    rw [h0]
    have h1 := ihs 44 r hr (fun i hi r' hr' => hg (i + 1) (by simp [len]; omega) r' hr')
    simp only [Option.bind_some, h1, Option.map_some]

theorem rdE_tx {S : Sy} (hS : symsOk S = true) : ∀ (f : Nat) (n : Int) (a : Y) (r : List UInt8), over1 (ranksE S) n a = true → a.dep < f → stopB r = true → rdE S f (tx1 S n a ++ r) = some (n, a, r) := by
  obtain ⟨_, hrk, hnm⟩ := symsOk_facts hS
  intro f
  induction f with
  | zero => intro n a r _ h; omega
  | succ f ih =>
    intro n a r ho hd hr
    simp only [over1, Bool.and_eq_true] at ho
    by_cases hn : n = -1
    · subst hn
      rw [suit_nil ho.1]
      simp only [tx1, if_true, List.cons_append, List.nil_append, rdE]
      rw [if_pos (pre_one _ _)]
      rfl
    · have hs := suit_iff.1 ho.1
      rcases hs with ⟨e, _⟩ | ⟨h0, h1, h2⟩
      · exact absurd e hn
      obtain ⟨m, rfl⟩ : ∃ m : Nat, n = (m : Int) := ⟨n.toNat, by omega⟩
      rw [Int.toNat_natCast] at h2
      have hm : m < S.len := by have := h1; rw [ranksE_len] at this; omega
      have hrkm : S.rk m = (a.len : Int) := by
        rw [h2, List.getD_eq_getElem?_getD, ranksE, List.getElem?_map, List.getElem?_range hm]; rfl
      obtain ⟨c, r', hc, hc95, _⟩ := nm_split (hnm m hm)
      have hkids : ∀ i, i < a.len → ∀ r'', stopB r'' = true → rdE S f (tx1 S (a.gn i) (a.ga i) ++ r'') = some (a.gn i, a.ga i, r'') := by
        intro i hi r'' hr''
        have := dep_ga a i hi
        exact ih _ _ _ (overE_at ho.2 hi) (by omega) hr''
      have ht : tx1 S (m : Int) a ++ r = (S.nm m).data.toList ++ ((if a.len = 0 then [] else txL S 40 a ++ [41]) ++ r) := by
        simp only [tx1, if_neg hn, Int.toNat_natCast, List.append_assoc]
      rw [ht]
      have hp : pre [95] ((S.nm m).data.toList ++ ((if a.len = 0 then [] else txL S 40 a ++ [41]) ++ r)) = false := by
        rw [hc]; exact pre_not hc95 _
      simp only [rdE]
      rw [hp]
      simp only [Bool.false_eq_true, if_false]
      by_cases hl : a.len = 0
      · have ha : a = .nil := by cases a with
          | nil => rfl
          | cons n a r => simp [len] at hl
        subst ha
        rw [if_pos hl, List.nil_append, rdName_of (hnm m hm) hr, Option.bind_some, idxS_self hS hm (Nat.le_refl _), Option.bind_some, hrkm]
        rfl
      · rw [if_neg hl, List.append_assoc]
        have hst : stopB (txL S 40 a ++ ([41] ++ r)) = true := by
          cases a with
          | nil => exact absurd rfl hl
          | cons n2 a2 s2 => rw [txL_cons]; exact stop_40 _
        rw [rdName_of (hnm m hm) hst, Option.bind_some, idxS_self hS hm (Nat.le_refl _), Option.bind_some, hrkm, Int.toNat_natCast,
          rdKids_tx S (rdE S f) a 40 ([41] ++ r) (stop_41 r) hkids, Option.bind_some]
        show (if a.len = 0 then _ else if pre [41] (41 :: r) = true then some ((m : Int), a, (41 :: r).drop 1) else none) = _
        rw [if_neg hl, if_pos (pre_one _ _)]
        rfl

theorem txL_dep {S : Sy} {R : List Int} (t : Y) : ∀ m, overE R t = true → t.dep ≤ (txL S m t).length := by
  induction t with
  | nil => intro m _; simp [dep]
  | cons n a r iha ihr =>
    intro m o
    rw [overE_cons_iff] at o
    rw [txL_cons]
    have h1 := ihr 44 o.2
    have h2 : a.dep ≤ (tx1 S n a).length := by
      by_cases hn : n = -1
      · subst hn; rw [suit_nil o.1.1]; simp [dep]
      · by_cases hl : a.len = 0
        · have ha : a = .nil := by cases a with
            | nil => rfl
            | cons n a r => simp [len] at hl
          subst ha; simp [dep]
        · have := iha 40 o.1.2
          simp only [tx1, if_neg hn, if_neg hl, List.length_append, List.length_singleton]
          omega
    simp only [dep, List.length_cons, List.length_append]
    omega

theorem getE_tx {S : Sy} (hS : symsOk S = true) {n : Int} {a : Y} (ht : treeOk (ranksE S) n a = true) (hl : ¬ 65536 < (tx1 S n a).length) : getE S (tx1 S n a) = (0, n, a) := by
  obtain ⟨s1, d1, o1⟩ := treeOk_split ht
  have ho : over1 (ranksE S) n a = true := by rw [← over_one]; exact o1
  have hd := txL_dep (S := S) (.cons n a .nil) 40 o1
  rw [dep_one, txL_cons] at hd
  have hd2 : (txL S 44 .nil).length = 0 := rfl
  simp only [List.length_cons, List.length_append, hd2] at hd
  have h := rdE_tx hS ((tx1 S n a).length + 1) n a [] ho (by omega) rfl
  rw [List.append_nil] at h
  unfold getE
  rw [if_pos hS, if_neg hl, h]
  simp only [ht, if_true]

end Go.Proofs.Ytgpbkdfhjkfceaa

/-
  The walk of the reference's Put. Conditions: none but that symbols and tree lie in memory.
-/
set_option linter.unusedSimpArgs false
set_option linter.unusedVariables false
namespace Go.Proofs.Ytgpbkdfhjkfceaa
open Go.RowKit

set_option maxRecDepth 100000 in
set_option maxHeartbeats 4000000 in
theorem erefput_any (S : Sy) (a : Y) (n : Int) (w : World) (sp p : Option Addr) (sn sc l cap : Nat) (hsy : IsS w S sp sn sc) (his : IsY w a p l cap) :
    Calls Try.prog 37 #[.slice sp sn sc, .agg #[.int .i64 n, .slice p l cap]] w (PutPost (putE S n a) w) := by
  have hl := his.1
  subst hl
  have hsn := hsy.1
  subst hsn
  have HSY := Lib.hid hsy
  have HIS0 := Lib.hid his
  have K0 : KP w (w.alloc (.cells #[.int .i64 n, .slice p a.len cap] 25)) w.heap.size S sp S.len sc n a p cap := ⟨hsy.alloc _, heap_new _ _, his.alloc _, (Below.refl _ _).alloc (Nat.le_refl _) _⟩
  have HK := Lib.hid K0
  have HSy := Lib.hid fun W (h : IsS W S sp S.len sc) => refsymbols_any S W sp S.len sc h
  have MK := Lib.hid fun W (h : KP w W w.heap.size S sp S.len sc n a p cap) => (And.intro (box2_cells h.hbt).1 (And.intro (box2_cells h.hbt).2 h) : W.cell? ⟨w.heap.size, 0, none⟩ = some (.int .i64 n) ∧ W.cell? ⟨w.heap.size, 1, none⟩ = some (.slice p a.len cap) ∧ KP w W w.heap.size S sp S.len sc n a p cap)
  have RS := Lib.hid fun W (h : W.cell? ⟨w.heap.size, 0, none⟩ = some (.int .i64 n) ∧ W.cell? ⟨w.heap.size, 1, none⟩ = some (.slice p a.len cap) ∧ KP w W w.heap.size S sp S.len sc n a p cap) => (h.2.2 : KP w W w.heap.size S sp S.len sc n a p cap)
  clear K0 hsy his
  obtain ⟨ANS, hA⟩ : ∃ A, putE S n a = A := ⟨_, rfl⟩
  rw [hA]
  cases hok : symsOk S with
  | false =>
    have he : ANS = (2, []) := by rw [← hA]; unfold putE; rw [hok]; rfl
    rw [hok] at HSy
    subst he
    clear hA hok
    go_enter Try.func37, Try.ntmps37
    go_wp2_with fail
    refine (HSy.out _ HK.out.syms).mono ?_
    rintro e w3 ⟨rfl, hb3⟩
    have HK3 := Lib.hid (HK.out.below hb3)
    go_wp2_with fail
    go_ret2
    exact ⟨rfl, HK3.out.base⟩
  | true =>
    rw [hok] at HSy
    obtain ⟨hsl, _, hnm⟩ := symsOk_facts hok
    have HRK := Lib.hid fun W (h : IsS W S sp S.len sc) => erefranksof_any S W sp S.len sc h (by omega)
    have HIS := Lib.hid fun W rq rc (h1 : IsL W (ranksE S) rq (ranksE S).length rc) (h2 : IsY W a p a.len cap) => erefis_any (ranksE S) a n W rq p _ rc _ cap h1 h2
    cases ht : treeOk (ranksE S) n a with
    | false =>
      have he : ANS = (9, []) := by rw [← hA]; unfold putE; rw [hok, if_pos rfl, ht]; rfl
      rw [ht] at HIS
      subst he
      clear ht hok hsl hnm hA
      go_enter Try.func37, Try.ntmps37
      go_wp2_with fail
      refine (HSy.out _ HK.out.syms).mono ?_
      rintro e w3 ⟨rfl, hb3⟩
      have HK3 := Lib.hid (HK.out.below hb3)
      have f3 := MK.out _ HK3.out.drew
      clear hb3
      go_wp2_with fail
      go_region_held3 (fun W => W.cell? ⟨w.heap.size, 0, none⟩ = some (.int .i64 n) ∧ W.cell? ⟨w.heap.size, 1, none⟩ = some (.slice p a.len cap) ∧ KP w W w.heap.size S sp S.len sc n a p cap)
        (first | exact f3 | exact MK.out _ ((RS.out _ (by assumption)).below (by assumption)))
        (first
        | (go_at_call 42; refine (HRK.out _ (RS.out _ (by assumption)).syms).mono ?_; rintro e w4 ⟨rq, rc, rfl, hL, _, hb4⟩)
        | (go_at_call 41; refine (HIS.out _ _ _ hL (RS.out _ (by assumption)).isY).mono ?_; rintro e w5 ⟨rfl, hb5⟩))
      all_goals
        go_wp2_with fail
        go_ret2
        exact ⟨rfl, (RS.out _ (by assumption)).base⟩
    | true =>
      obtain ⟨hsz, _, ho⟩ := treeOk_facts ht
      have hlen := len_tx1 (ranksE_len S) (fun i hi => nm_size (hnm i hi)) n a ho
      have he : ANS = if 65536 < (tx1 S n a).length then (3, []) else (0, tx1 S n a) := by rw [← hA]; unfold putE; rw [hok, if_pos rfl, ht, if_pos rfl]
      have HE := Lib.hid he
      have hpos : 0 < (tx1 S n a).length := by
        unfold tx1
        split
        · simp
        · rename_i hn
          simp only [over1, Bool.and_eq_true] at ho
          rcases suit_iff.1 ho.1 with ⟨e, _⟩ | ⟨h0, h1, _⟩
          · exact absurd e hn
          · rw [ranksE_len] at h1
            obtain ⟨c, r', hc, _, _⟩ := nm_split (hnm n.toNat (by omega))
            rw [hc]
            simp
      have HPOS := Lib.hid hpos
      clear hpos
      rw [ht] at HIS
      have HTX := Lib.hid fun W (hw : Below w.heap.size w W) => etext_any S (ranksE S) (ranksE_len S) w sp sc HSY.out (a.sz + 1) a n p a.len cap W [] (.slice none 0 0) (Nat.lt_succ_self _) HIS0.out ho hw (World.ownsRow_nil _ _ _ _) (by simp; omega)
      simp only [List.nil_append] at HTX
      generalize tx1 S n a = tx at *
      clear ht hok hsl hnm hA he ho
      go_enter Try.func37, Try.ntmps37
      go_wp2_with fail
      refine (HSy.out _ HK.out.syms).mono ?_
      rintro e w3 ⟨rfl, hb3⟩
      have HK3 := Lib.hid (HK.out.below hb3)
      have f3 := MK.out _ HK3.out.drew
      clear hb3
      go_wp2_with fail
      go_region_held3 (fun W => W.cell? ⟨w.heap.size, 0, none⟩ = some (.int .i64 n) ∧ W.cell? ⟨w.heap.size, 1, none⟩ = some (.slice p a.len cap) ∧ KP w W w.heap.size S sp S.len sc n a p cap)
        (first | exact f3 | exact MK.out _ ((RS.out _ (by assumption)).below (by assumption)))
        (first
        | (go_at_call 42; refine (HRK.out _ (RS.out _ (by assumption)).syms).mono ?_; rintro e w4 ⟨rq, rc, rfl, hL, _, hb4⟩)
        | (go_at_call 41; refine (HIS.out _ _ _ hL (RS.out _ (by assumption)).isY).mono ?_; rintro e w5 ⟨rfl, hb5⟩))
      all_goals
        have HK5 := Lib.hid (RS.out _ (by assumption))
        have kc := box2_cells HK5.out.hbt
        obtain ⟨k1, k2⟩ := kc
        go_wp2_with fail
        refine (HTX.out _ HK5.out.base).mono ?_
        rintro e w6 ⟨v6, rfl, hT6⟩
        have HB6 := Lib.hid (HK5.out.base.trans hT6.2.1)
        have hown := hT6.1
        obtain ⟨g, c6, rfl⟩ : ∃ g cap, v6 = .slice (some ⟨g, 0, none⟩) tx.length cap := by
          rcases hown.2 with ⟨_, h0⟩ | ⟨g, cap, cur, hv, _⟩
          · have := HPOS.out
            omega
          · exact ⟨_, _, hv⟩
        have hconv : (convert 71 9 (.slice (some ⟨g, 0, none⟩) tx.length c6)).run Try.prog w6 = .ok (.string ⟨tx.toArray⟩) w6 :=
          run_convert_bytes_back w6 _ _ 5 ⟨g, 0, none⟩ c6 tx Try.underlying71 Try.underlying5 Try.underlying9 (fun j hj => hown.cells (g := g) rfl j _ (by simp [bc, hj]))
        clear hown hT6 k1 k2
        by_cases hlong : 65536 < tx.length
        · have hx : ANS = (3, []) := by rw [HE.out, if_pos hlong]
          have HX := Lib.hid hx
          clear hx hconv
          go_wp2_with fail
          go_ret2
          rw [HX.out]
          exact ⟨rfl, HB6.out⟩
        · have hx : ANS = (0, tx) := by rw [HE.out, if_neg hlong]
          have HX := Lib.hid hx
          clear hx
          go_wp2_with fail
          go_ret2
          rw [HX.out]
          exact ⟨rfl, HB6.out⟩

end Go.Proofs.Ytgpbkdfhjkfceaa

/-
  The walk of the statement on Put, where the example holds. Conditions: none but that symbols and tree lie in memory.
-/
set_option linter.unusedSimpArgs false
set_option linter.unusedVariables false
namespace Go.Proofs.Ytgpbkdfhjkfceaa
open Go.RowKit

set_option maxRecDepth 100000 in
set_option maxHeartbeats 1600000 in
theorem law_eput (hal : AliveE) (S : Sy) (a : Y) (n : Int) (w : World) (sp p : Option Addr) (sn sc l cap : Nat) (hsy : IsS w S sp sn sc) (his : IsY w a p l cap) :
    Calls Try.prog 10 #[.slice sp sn sc, .agg #[.int .i64 n, .slice p l cap]] w fun e w' => e = .returned (.bool true) ∧ Below w.heap.size w w' := by
  have hl := his.1
  subst hl
  have hA := Lib.hid hal
  have K0 : KP w (w.alloc (.cells #[.int .i64 n, .slice p a.len cap] 25)) w.heap.size S sp sn sc n a p cap := ⟨hsy.alloc _, heap_new _ _, his.alloc _, (Below.refl _ _).alloc (Nat.le_refl _) _⟩
  have HX := Lib.hid fun W (h1 : IsS W S sp sn sc) (h2 : IsY W a p a.len cap) => eput_any S a n W sp p sn sc _ cap h1 h2
  have HY := Lib.hid fun W (h1 : IsS W S sp sn sc) (h2 : IsY W a p a.len cap) => erefput_any S a n W sp p sn sc _ cap h1 h2
  generalize putE S n a = f at *
  obtain ⟨x, tx⟩ := f
  have HK := Lib.hid K0
  clear hal K0 hsy his
  go_enter Try.func10, Try.ntmps10
  go_wp2_with fail
  refine (HX.out _ HK.out.syms HK.out.isY).mono ?_
  rintro e w1 ⟨rfl, hb1⟩
  have HK1 := Lib.hid (HK.out.below hb1)
  have kc := box2_cells HK1.out.hbt
  obtain ⟨k1, k2⟩ := kc
  clear hb1 HK
  go_wp2_with fail
  refine (HY.out _ HK1.out.syms HK1.out.isY).mono ?_
  rintro e w2 ⟨rfl, hb2⟩
  have HK2 := Lib.hid (HK1.out.below hb2)
  clear hb2 HK1 k1 k2
  go_wp2_with fail
  refine (hA.out _).mono ?_
  rintro e w3 ⟨rfl, hb3⟩
  go_wp2_with fail
  go_ret
  exact ⟨rfl, (HK2.out.below hb3).base⟩

end Go.Proofs.Ytgpbkdfhjkfceaa

set_option linter.unusedSimpArgs false
set_option linter.unusedVariables false
namespace Go.Proofs.Ytgpbkdfhjkfceaa
open Go.ChangeShapes Go.WideShapes Go.ChangeAt Go.RowKit
open Go.ChangeMaps (open_string shut_string)

set_option maxRecDepth 100000 in
theorem treePut_lifted (os : Os) (started : os.Started) (H : Type) (enc : TypeId × Value → H) :
    ReturnsInHanded {} Try.checked os 10 .any (Rows.treePutSpec.pre6 enc Try.prog Try.f10 Rows.treePutRow.domain false) (Rows.treePutSpec.post enc Try.prog Try.f10 false true false false) := by
  refine returnsInHanded_of_change (C := Try.checked) PE.own started (by kernel_rfl) Try.func10
    (ChangeSpec.witness6 (enc := enc) (C := Try.checked) false ⟨#[], #[.slice none 0 0, .agg #[.int .i64 0, .slice none 0 0]], []⟩ 8 (by kernel_rfl) (by kernel_rfl) (by kernel_rfl) (by kernel_rfl)) ?_
  intro W base args ds gs before hval0 hW hcnd _
  have hval : ∀ (j : Nat) t v, Try.f10.params[j]? = some t → args[j]? = some v → Value.okWide Try.prog W .any base t v := hval0
  have hW' := hW
  obtain ⟨p, q, hA0, hV, rfl, hfz, hnd⟩ := hW
  have hA : DataW.TrodAll enc Try.prog W 0 (fun _ => true) true Try.f10.params.toList args.toList ds p := hA0
  rw [Try.params10] at hA hval
  obtain ⟨v0, v1, d0, d1, p0, p1, rfl, rfl, rfl, h0, h1⟩ := trodAll_two hA
  obtain ⟨rfl, rfl⟩ := trodVars_none hV
  have k0 := h0
  obtain ⟨a0, n0, c0, t0, rfl, i0⟩ := open_syms (hval 0 44 v0 rfl rfl) h0
  have k1 := h1
  obtain ⟨ni1, a1, n1, c1, t1, rfl, i1⟩ := open_tree (hval 1 25 v1 rfl rfl) h1
  clear hA0 hval0
  simp only [List.append_nil] at hW'
  refine (law_eput alive_any t0 t1 ni1 W a0 a1 n0 c0 n1 c1 i0 i1).mono fun e W' ⟨he, hb⟩ => ?_
  subst he
  have hlt := fun x hx => hW'.lt x hx
  exact ⟨_, rfl, post_below (pv := []) hW' (fun _ _ _ => trodAll_mk1 (shut_bool Try.underlying4 true))
    (fun sp hsp => trodAll_mk2 (WideElems.Trod_stays PE.laidOut PE.readSyL (of_decide_eq_true (by kernel_rfl)) k0 (fun x hx => hb.same (hlt x (by simp [hx]))) (fun x hx => hsp x (by simp [hx]))) (WideElems.Trod_stays PE.laidOut PE.readY (of_decide_eq_true (by kernel_rfl)) k1 (fun x hx => hb.same (hlt x (by simp [hx]))) (fun x hx => hsp x (by simp [hx]))))
    (fun _ _ => rfl) (by simp) hb (ok_one (by kernel_rfl) rfl (okWide_bool_mk Try.underlying4 true))⟩

theorem treePut_holds : Rows.TreePutSaid :=
  OpenClaim.holds_of_wide 10 Try.f10 rfl rfl rfl rfl rfl rfl rfl ⟨rfl, rfl, rfl, rfl, rfl⟩ rfl rfl rfl rfl rfl (by kernel_rfl) Try.func10 (by kernel_rfl)
    (of_decide_eq_true (by kernel_rfl)) (by unfold Func.isWrapper; rw [if_neg (of_decide_eq_false (by kernel_rfl))]; exact ⟨rfl, rfl⟩)
    (fun os started H enc _ => treePut_lifted os started H enc)

end Go.Proofs.Ytgpbkdfhjkfceaa

