/-
  Parts of one proof, laid into one text: WalkE. Conditions: each part names its own.
-/
import Derived.Test.YtjkcopgfcafpeaaGreatDoorMg07
import Derived.Test.YtjkcopgfcafpeaaGreatDoorMg03
import Derived.Test.YtjkcopgfcafpeaaGreatDoorMg04

/-
  The walks of spell and Text. Conditions: at most 60 nodes.
-/
namespace Go.Proofs.YtjkcopgfcafpeaaGreatDoor
open Go.RowKit

set_option maxHeartbeats 400000 in
theorem spell_any (N : Nat) : ∀ (t : T) (w : World) (p : Option Addr) (n cap : Nat), t.nodes ≤ N → t.nodes ≤ 60 → IsT w t p n cap →
    Calls Tryz.prog 92 #[.agg #[.slice p n cap]] w fun e w' => e = .returned (.string ⟨t.txt.toArray⟩) ∧ Below w.heap.size w w' := by
  induction N with
  | zero => intro t w p n cap hN; have := t.nodes_pos; omega
  | succ N ih =>
    intro t w p n cap hN h60 his
    have hlen := t.len_lt_nodes
    obtain ⟨hn, hcap, hmax, hnil, hrow⟩ := his
    subst hn
    have hn60 : t.len ≤ 60 := by omega
    have IH := Lib.hid ih
    clear ih
    go_enter Tryz.func92, Tryz.ntmps92
    go_wp2_with fail
    go_loopw [9] (fun i wr => ∃ (k : Nat) (d : List UInt8), k ≤ t.len ∧ i = .int .i64 (k : Int) ∧ d ++ (t.drop k).txt = t.txt ∧ Lib.IsBuilder 75 5 (w.heap.size + 1) (w.heap.size + 1) (Lib.byteCells d) wr ∧
        Below (w.heap.size + 1) (w.alloc (.cells #[.slice p t.len cap] 47)) wr)
      (fun i _ => t.len - (intOf i).toNat)
    case atStart => exact ⟨0, [], Nat.zero_le _, rfl, by rw [T.drop_zero]; rfl, by have := Lib.fresh_isBuilder 75 5 (w.alloc (.cells #[.slice p t.len cap] 47)); rw [World.size_alloc] at this; exact this, (Below.refl _ _).alloc (by simp) _⟩
    case round =>
      obtain ⟨k, d, hk, rfl, hmo, hib, hb⟩ := hrel
      have htl := t.txt_len
      have hdl : d.length ≤ 420 := by have := congrArg List.length hmo; rw [List.length_append] at this; omega
      have HM := Lib.hid hmo
      have HI := Lib.hid hib
      clear hmo hib htl
      by_cases hlt : k < t.len
      · rcases hrow with h0 | ⟨b, off, rfl, hr⟩
        · omega
        obtain ⟨p', n', cap', hc, hi⟩ := round_at hb hr hlt
        have hg := t.nodes_get k hlt
        have hz := hb.size
        simp only [World.size_alloc] at hz
        have hn' := hi.1
        have HN := Lib.hid hn'
        by_cases h0 : n' = 0
        · have hd : ((n' : Int) == 0) = true := by simp [h0]
          have HZ := Lib.hid h0
          clear hn' h0
          go_wp2_with fail
          refine (writeString (w.heap.size + 1) (w.heap.size + 1) _ _ _ (isBuilder_alloc HI.out _) (len_ok rfl (by simp; omega)) (by simp; omega)).mono ?_
          rintro e w1 ⟨rfl, hw1, hb1⟩
          go_wp2_with fail
          have hi1 := wrote rfl rfl hw1
          have hz1 := hb1.size
          simp only [World.size_alloc] at hz1
          refine (writeString (w.heap.size + 1) (w.heap.size + 1) _ _ _ hi1 (len_ok rfl (by simp; omega)) (by omega)).mono ?_
          rintro e w2 ⟨rfl, hw2, hb2⟩
          go_wp2_with fail
          go_roundw
          case rel => exact ⟨k + 1, d ++ [111] ++ [32, 62, 32], by omega, by go_num, by have h1 := HM.out; have h2 := HN.out; have h3 := HZ.out; rw [T.txt_drop t k hlt, if_pos (by omega)] at h1; simpa using h1, wrote rfl rfl hw2, ((hb.alloc hz _).trans hb1).trans hb2⟩
          case measure => simp [intOf]; omega
        · have hd : ((n' : Int) == 0) = false := by simp; omega
          have hgl : (t.get k).txt.length ≤ 420 := by have := (t.get k).txt_len; omega
          have HZ := Lib.hid h0
          clear hn' h0
          go_wp2_with fail
          refine (IH.out (t.get k) _ p' n' cap' (by omega) (by omega) (hi.alloc _)).mono ?_
          rintro e w1 ⟨rfl, hb1⟩
          go_wp2_with fail
          have hz1 := hb1.size
          simp only [World.size_alloc] at hz1
          refine (writeString (w.heap.size + 1) (w.heap.size + 1) _ _ _ (isBuilder_keep (isBuilder_alloc HI.out _) hb1) (len_ok rfl (by simp; omega)) (by omega)).mono ?_
          rintro e w2 ⟨rfl, hw2, hb2⟩
          have hi2 := wrote rfl rfl hw2
          have hz2 := hb2.size
          go_wp2_with fail
          refine (writeString (w.heap.size + 1) (w.heap.size + 1) _ _ _ hi2 (len_ok rfl (by simp; omega)) (by omega)).mono ?_
          rintro e w3 ⟨rfl, hw3, hb3⟩
          go_wp2_with fail
          go_roundw
          case rel => exact ⟨k + 1, _, by omega, by go_num, by have h1 := HM.out; have h2 := HN.out; have h3 := HZ.out; rw [T.txt_drop t k hlt, if_neg (by omega)] at h1; simpa using h1, wrote rfl rfl hw3, ((hb.alloc hz _).trans (hb1.mono (by simp; omega))).trans (hb2.trans hb3)⟩
          case measure => simp [intOf]; omega
      · go_wp2_with fail
        have hz := hb.size
        simp only [World.size_alloc] at hz
        refine (writeString (w.heap.size + 1) (w.heap.size + 1) _ _ _ HI.out (len_ok rfl (by simp; omega)) (by omega)).mono ?_
        rintro e w1 ⟨rfl, hw1, hb1⟩
        have hi1 := wrote rfl rfl hw1
        have hz1 := hb1.size
        go_wp2_with fail
        refine (builderString (w.heap.size + 1) (w.heap.size + 1) _ _ hi1 (by omega)).mono ?_
        rintro e w2 ⟨rfl, hb2⟩
        go_wp2_with fail
        go_ret
        have h1 := HM.out
        rw [T.drop_end t k (by omega)] at h1
        exact ⟨ret_str h1, below_round (hb.trans (hb1.trans hb2))⟩

set_option maxHeartbeats 400000 in
theorem text_any (N : Nat) : ∀ (t : T) (w : World) (p : Option Addr) (n cap : Nat), t.nodes ≤ N → t.nodes ≤ 60 → IsT w t p n cap →
    Calls Tryz.prog 55 #[.agg #[.slice p n cap]] w fun e w' => e = .returned (.string ⟨t.txt.toArray⟩) ∧ Below w.heap.size w w' := by
  induction N with
  | zero => intro t w p n cap hN; have := t.nodes_pos; omega
  | succ N ih =>
    intro t w p n cap hN h60 his
    have hlen := t.len_lt_nodes
    obtain ⟨hn, hcap, hmax, hnil, hrow⟩ := his
    subst hn
    have hn60 : t.len ≤ 60 := by omega
    have IH := Lib.hid ih
    clear ih
    go_enter Tryz.func55, Tryz.ntmps55
    go_wp2_with fail
    go_loopw [3, 9] (fun v i wr => ∃ (k : Nat) (d : List UInt8), k ≤ t.len ∧ i = .int .i64 (k : Int) ∧ v = .string ⟨d.toArray⟩ ∧ d ++ (t.drop k).txt = t.txt ∧
        Below (w.heap.size + 1) (w.alloc (.cells #[.slice p t.len cap] 47)) wr)
      (fun _ i _ => t.len - (intOf i).toNat)
    case atStart => exact ⟨0, [], Nat.zero_le _, rfl, rfl, by rw [T.drop_zero]; rfl, Below.refl _ _⟩
    case round =>
      obtain ⟨k, d, hk, rfl, rfl, hmo, hb⟩ := hrel
      have htl := t.txt_len
      have hdl : d.length ≤ 420 := by have := congrArg List.length hmo; rw [List.length_append] at this; omega
      have HM := Lib.hid hmo
      clear hmo htl
      by_cases hlt : k < t.len
      · rcases hrow with h0 | ⟨b, off, rfl, hr⟩
        · omega
        obtain ⟨p', n', cap', hc, hi⟩ := round_at hb hr hlt
        have hg := t.nodes_get k hlt
        have hz := hb.size
        simp only [World.size_alloc] at hz
        have hn' := hi.1
        have HN := Lib.hid hn'
        by_cases h0 : n' = 0
        · have hd : ((n' : Int) == 0) = true := by simp [h0]
          have HZ := Lib.hid h0
          clear hn' h0
          go_wp2_with fail
          go_roundw
          case rel => exact ⟨k + 1, d ++ [111, 32, 62, 32], by omega, by go_num, val_str (by simp), by have h1 := HM.out; have h2 := HN.out; have h3 := HZ.out; rw [T.txt_drop t k hlt, if_pos (by omega)] at h1; simpa using h1, hb.alloc hz _⟩
          case measure => simp [intOf]; omega
        · have hd : ((n' : Int) == 0) = false := by simp; omega
          have hgl : (t.get k).txt.length ≤ 420 := by have := (t.get k).txt_len; omega
          have HZ := Lib.hid h0
          clear hn' h0
          go_wp2_with fail
          refine (IH.out (t.get k) _ p' n' cap' (by omega) (by omega) (hi.alloc _)).mono ?_
          rintro e w1 ⟨rfl, hb1⟩
          go_wp2_with fail
          go_roundw
          case rel => exact ⟨k + 1, d ++ [40] ++ (t.get k).txt ++ [41, 32, 62, 32], by omega, by go_num, val_str (by simp), by have h1 := HM.out; have h2 := HN.out; have h3 := HZ.out; rw [T.txt_drop t k hlt, if_neg (by omega)] at h1; simpa using h1, round_next hb hb1⟩
          case measure => simp [intOf]; omega
      · go_wp2_with fail
        go_ret
        have h1 := HM.out
        rw [T.drop_end t k (by omega)] at h1
        exact ⟨ret_str' (by rw [← h1]; simp [T.txt]), below_round hb⟩

/-- what Put returns -/
def T.pT (t : T) : List UInt8 := if t.valid then t.txt else []

set_option maxHeartbeats 400000 in
theorem put_any (t : T) (w : World) (p : Option Addr) (n cap : Nat) (his : IsT w t p n cap) :
    Calls Tryz.prog 50 #[.agg #[.slice p n cap]] w fun e w' => e = .returned (.tuple #[.string ⟨t.pT.toArray⟩, .int .i64 t.oE]) ∧ Below w.heap.size w w' := by
  cases hv : t.valid with
  | false =>
    have e1 : t.pT = [] := by simp [T.pT, hv]
    have e2 : t.oE = 6 := by simp [T.oE, hv]
    rw [e1, e2]
    clear e1 e2
    go_enter Tryz.func50, Tryz.ntmps50
    go_wp2_with fail
    refine (check_no t _ p n cap (his.alloc _) hv).mono ?_
    rintro e w1 ⟨rfl, hb1⟩
    go_wp2_with fail
    go_ret2
    exact ⟨rfl, below_call hb1⟩
  | true =>
    have e1 : t.pT = t.txt := by simp [T.pT, hv]
    have e2 : t.oE = 0 := by simp [T.oE, hv]
    rw [e1, e2]
    clear e1 e2
    have h60 := t.valid_nodes hv
    go_enter Tryz.func50, Tryz.ntmps50
    go_wp2_with fail
    refine (check_yes t _ p n cap (his.alloc _) hv).mono ?_
    rintro e w1 ⟨rfl, hb1⟩
    obtain ⟨hc1, hf1⟩ := bcell hb1
    go_wp2_with fail
    refine (spell_any t.nodes t _ p n cap (Nat.le_refl _) h60 ((his.alloc _).below hb1)).mono ?_
    rintro e w2 ⟨rfl, hb2⟩
    go_wp2_with fail
    go_ret2
    exact ⟨rfl, (below_call hb1).trans (hb2.mono (below_call hb1).size)⟩

end Go.Proofs.YtjkcopgfcafpeaaGreatDoor

