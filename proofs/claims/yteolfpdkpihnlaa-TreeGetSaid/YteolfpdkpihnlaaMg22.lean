/-
  Parts of one proof, laid into one text: TWalkM, TWalkS. Conditions: each part names its own.
-/
import Derived.Test.YteolfpdkpihnlaaMg20
import Derived.Test.YteolfpdkpihnlaaMg05
import Derived.Test.YteolfpdkpihnlaaMg17
import Derived.Test.YteolfpdkpihnlaaMg12
import Derived.Deep.OwnRows

/-
  The walks of valid, Check, head and rest. Conditions: none but that the place and the term lie in memory.
-/
set_option linter.unusedSimpArgs false
set_option linter.unusedVariables false
namespace Go.Proofs.Yteolfpdkpihnlaa
open Go.RowKit

/-- are all sorts of a list valid? -/
def allV : T → Bool
  | .nil => true
  | .cons h t => h.valid && allV t

theorem allV_drop (t : T) (i : Nat) (h : i < t.len) : allV (t.drop i) = ((t.get i).valid && allV (t.drop (i + 1))) := by
  rw [T.drop_cons t i h]; rfl

theorem allV_at {t : T} : ∀ {i : Nat}, allV t = true → i < t.len → (t.get i).valid = true := by
  induction t with
  | nil => intro _ _ h; exact absurd h (Nat.not_lt_zero _)
  | cons h r ihh ihr =>
    intro i hv hi
    simp only [allV, Bool.and_eq_true] at hv
    cases i with
    | zero => exact hv.1
    | succ i => exact ihr hv.2 (by simp only [T.len] at hi; omega)

def validL (t : T) (m : Nat) : Bool := decide (t.len ≤ m) && allV t

/-- a place -/
structure Pl where
  S : Sy
  F : T
  P : T

def plOk (x : Pl) : Bool := symsOk x.S && validL x.F 64 && validL x.P 8

/-- where a place lies: its three slice values -/
structure At3 where
  sp : Option Addr
  sn : Nat
  sc : Nat
  fp : Option Addr
  fn : Nat
  fc : Nat
  pp : Option Addr
  pn : Nat
  pc : Nat

def At3.val (a : At3) : Value := .agg #[.slice a.sp a.sn a.sc, .slice a.fp a.fn a.fc, .slice a.pp a.pn a.pc]

def At3.box (a : At3) (ty : TypeId) : Obj := .cells #[.slice a.sp a.sn a.sc, .slice a.fp a.fn a.fc, .slice a.pp a.pn a.pc] ty

def IsP (w : World) (x : Pl) (a : At3) : Prop := IsS w x.S a.sp a.sn a.sc ∧ IsT w x.F a.fp a.fn a.fc ∧ IsT w x.P a.pp a.pn a.pc

theorem IsP.below {w w' : World} (hb : Below w.heap.size w w') {x : Pl} {a : At3} (h : IsP w x a) : IsP w' x a := ⟨h.1.below hb, h.2.1.below hb, h.2.2.below hb⟩

theorem IsP.alloc {w : World} {x : Pl} {a : At3} (h : IsP w x a) (o : Obj) : IsP (w.alloc o) x a := h.below ((Below.refl _ _).alloc (Nat.le_refl _) _)

theorem boxP_cells {W : World} {b : Nat} {a : At3} {ty : TypeId} (h : W.heap[b]? = some (a.box ty)) :
    W.cell? ⟨b, 0, none⟩ = some (.slice a.sp a.sn a.sc) ∧ W.cell? ⟨b, 1, none⟩ = some (.slice a.fp a.fn a.fc) ∧ W.cell? ⟨b, 2, none⟩ = some (.slice a.pp a.pn a.pc) := by
  unfold At3.box at h
  refine ⟨?_, ?_, ?_⟩ <;> simp [World.cell?, h]

def plE (x : Pl) : Int := if plOk x then 0 else 2

end Go.Proofs.Yteolfpdkpihnlaa

/-
  The walks of the reference's Symbols, Is and Check, and of the place that the statements hand on. Conditions: none but that the place lies in memory.
-/
set_option linter.unusedSimpArgs false
set_option linter.unusedVariables false
namespace Go.Proofs.Yteolfpdkpihnlaa
open Go.RowKit

theorem toList_inj {s t : ByteArray} (h : s.toList = t.toList) : s = t := by
  rw [ByteArray.toList_eq, ByteArray.toList_eq] at h
  apply ByteArray.ext
  exact Array.toList_inj.1 h

theorem dup_yes {S : Sy} {i j : Nat} (h : j < i) (he : S.nm j = S.nm i) : dup S i = true := by
  unfold dup
  exact List.any_eq_true.2 ⟨j, List.mem_range.2 h, by simp [he]⟩

theorem dup_no {S : Sy} {i : Nat} (h : ∀ j, j < i → S.nm j ≠ S.nm i) : dup S i = false := by
  unfold dup
  rw [List.any_eq_false]
  intro j hj
  simpa using h j (List.mem_range.1 hj)

set_option maxRecDepth 100000 in
set_option maxHeartbeats 4000000 in
theorem refsymbols_any (S : Sy) (w : World) (p : Option Addr) (n cap : Nat) (his : IsS w S p n cap) :
    Calls Try.prog 40 #[.slice p n cap] w fun e w' => e = .returned (.bool (symsOk S)) ∧ Below w.heap.size w w' := by
  obtain ⟨hn, hcap, hmax, hnil, hrow⟩ := his
  subst hn
  unfold maxLen at hmax
  by_cases h24 : S.len ≤ 24
  · obtain ⟨r, hr⟩ : ∃ r, symsOk S = r := ⟨_, rfl⟩
    rw [hr]
    have hr2 : symFrom S S.len 0 = r := by rw [← hr]; unfold symsOk; rw [decide_eq_true h24]; rfl
    have HR := Lib.hid hr2
    clear hr hr2
    go_enter Try.func40, Try.ntmps40
    go_wp2_with fail
    go_loopw [12] (fun i wr => ∃ j : Nat, j ≤ S.len ∧ i = .int .i64 (j : Int) ∧ symFrom S (S.len - j) j = r ∧ Below w.heap.size w wr)
      (fun i _ => S.len - (intOf i).toNat)
    case atStart => exact ⟨0, Nat.zero_le _, rfl, HR.out, Below.refl _ _⟩
    case round =>
      obtain ⟨j, hj, rfl, hmo, hb⟩ := hrel
      have HM := Lib.hid hmo
      clear hmo
      by_cases hlt : j < S.len
      · rcases hrow with h0 | ⟨b, off, rfl, hr⟩
        · omega
        have hc1 := (hr j hlt).1
        have hc2 := (hr j hlt).2
        have hlb := lt_of_cell hc1
        have g1 := ((bcell hb).1 _ _ hlb).trans hc1
        have g2 := ((bcell hb).1 _ _ hlb).trans hc2
        have hz := hb.size
        clear hc1 hc2
        have hsf : symFrom S (S.len - j) j = (symOk S j && symFrom S (S.len - (j + 1)) (j + 1)) := by
          rw [show S.len - j = (S.len - (j + 1)) + 1 by omega]; rfl
        rw [HM.out] at hsf
        unfold symOk at hsf
        have hdy := fun k (h : k < j) (he : S.nm k = S.nm j) => dup_yes h he
        have hdn := fun (h : ∀ k, k < j → S.nm k ≠ S.nm j) => dup_no h
        generalize dup S j = d at hsf hdy hdn
        generalize S.nm j = s at g1 hsf hdy hdn
        generalize S.rk j = rk at g2 hsf
        have HS := Lib.hid hsf
        have HY := Lib.hid hdy
        have HN := Lib.hid hdn
        have hrr := fun k (h : k < j) => (hr k (by omega))
        have HRR := Lib.hid hrr
        clear hsf hdy hdn HM hr hrr
        go_wp2_with fail
        refine (name_any s _).mono ?_
        rintro e w2 ⟨rfl, rfl⟩
        have hbx := heap_new wr (.cells #[.string s, .int .i64 rk] 80)
        have hb3 := hb.alloc hb.size (.cells #[.string s, .int .i64 rk] 80)
        have HBX := Lib.hid hbx
        clear hbx
        cases hnm : nm s with
        | false =>
          go_wp2_with fail
          go_ret
          exact ⟨ret_bool (by rw [HS.out, hnm]; rfl), hb3⟩
        | true =>
          cases h1 : decide (rk < 0) with
          | true =>
            go_wp2_with fail
            go_ret
            exact ⟨ret_bool (by rw [HS.out, hnm, h1]; simp), hb3⟩
          | false =>
            cases h2 : decide (4 < rk) with
            | true =>
              go_wp2_with fail
              go_ret
              exact ⟨ret_bool (by rw [HS.out, hnm, h1, h2]; simp), hb3⟩
            | false =>
              have hS2 := HS.out
              rw [hnm, h1, h2] at hS2
              have HS2 := Lib.hid hS2
              clear HS hS2
              go_wp2_with fail
              generalize wr.heap.size = bb at HBX hz ⊢
              clear g1 g2 hnm h1 h2
              have HB3 := Lib.hid hb3
              clear hb hb3
              go_loopw [35] (fun i wq => ∃ k : Nat, k ≤ j ∧ i = .int .i64 (k : Int) ∧ (∀ k', k' < k → S.nm k' ≠ s) ∧ wq.heap[bb]? = some (.cells #[.string s, .int .i64 rk] 80 (0, 0)) ∧ Below w.heap.size w wq)
                (fun i _ => j - (intOf i).toNat)
              case atStart => exact ⟨0, Nat.zero_le _, rfl, fun k' h => absurd h (Nat.not_lt_zero _), HBX.out, HB3.out⟩
              case round =>
                clear HBX HB3
                obtain ⟨k, hk, rfl, hne, hbx, hb⟩ := hrel
                have HNE := Lib.hid hne
                have HBX := Lib.hid hbx
                have y1 : ∀ o, (wr.alloc o).cell? ⟨bb, 0, none⟩ = some (.string s) := fun o => (keep_alloc _ o _ _ (lt_of_block hbx)).trans (by simp [World.cell?, hbx])
                clear hne hbx
                by_cases hlt2 : k < j
                · have q1 := ((bcell hb).1 _ _ (lt_of_cell (HRR.out k hlt2).1)).trans (HRR.out k hlt2).1
                  have q2 := ((bcell hb).1 _ _ (lt_of_cell (HRR.out k hlt2).2)).trans (HRR.out k hlt2).2
                  have hb4 := hb.alloc hb.size (.cells #[.string (S.nm k), .int .i64 (S.rk k)] 80)
                  by_cases he : S.nm k = s
                  · have hd := HY.out k hlt2 he
                    subst hd
                    have hd1 : (s.toList == (S.nm k).toList) = true := by simp [he]
                    clear he HY HN HNE HBX
                    generalize S.nm k = t at q1 hd1 hb4
                    generalize S.rk k = rt at q2 hb4
                    go_wp2_with fail
                    go_ret
                    exact ⟨ret_bool (by rw [HS2.out]; simp), hb4⟩
                  · have hd1 : (s.toList == (S.nm k).toList) = false := by
                      rw [beq_eq_false_iff_ne]
                      exact fun h => he (toList_inj h).symm
                    have hne2 : ∀ k', k' < k + 1 → S.nm k' ≠ s := by
                      intro k' hk'
                      by_cases hkk : k' = k
                      · subst hkk; exact he
                      · exact HNE.out k' (by omega)
                    have HNE2 := Lib.hid hne2
                    have hbx2 := alloc_kept HBX.out (.cells #[.string (S.nm k), .int .i64 (S.rk k)] 80)
                    clear he HNE hne2
                    generalize S.nm k = t at q1 hd1 hb4 hbx2
                    generalize S.rk k = rt at q2 hb4 hbx2
                    go_wp2_with fail
                    go_roundw
                    case rel => exact ⟨k + 1, by omega, by go_num, HNE2.out, hbx2, hb4⟩
                    case measure => simp [intOf]; omega
                · obtain rfl : k = j := by omega
                  have hd := HN.out HNE.out
                  subst hd
                  clear y1 HBX
                  go_wp2_with fail
                  go_roundw
                  case rel => exact ⟨k + 1, by omega, by go_num, by rw [HS2.out]; simp, hb⟩
                  case measure => simp [intOf]; omega
      · go_wp2_with fail
        go_ret
        exact ⟨ret_bool (by rw [← HM.out, show S.len - j = 0 by omega]; rfl), hb⟩
  · have e1 : symsOk S = false := by unfold symsOk; rw [decide_eq_false h24]; rfl
    rw [e1]
    clear e1
    go_enter Try.func40, Try.ntmps40
    go_wp2_with fail
    go_ret
    exact ⟨rfl, Below.refl _ _⟩

end Go.Proofs.Yteolfpdkpihnlaa

