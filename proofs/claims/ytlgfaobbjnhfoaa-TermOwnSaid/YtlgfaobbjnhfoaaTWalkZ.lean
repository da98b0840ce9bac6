/-
  How a list of integers lies in memory; the walk of the reference's insert. Conditions: at most 200000 integers.
-/
import Derived.Test.YtlgfaobbjnhfoaaTPlainV
import Derived.Laws.OwnMore
import Derived.Maps.AppendAt
set_option linter.unusedSimpArgs false
set_option linter.unusedVariables false
namespace Go.Proofs.Ytlgfaobbjnhfoaa
open Go.RowKit

def intv (x : Int) : Value := .int .i64 x

/-- the slice value (p, n, cap) is that of l -/
def IsI (w : World) (l : List Int) (p : Option Addr) (n cap : Nat) : Prop :=
  n = l.length ∧ n ≤ cap ∧ cap ≤ maxLen ∧ ((p = none ∧ cap = 0) ∨ ∃ b off, p = some ⟨b, off, none⟩ ∧ b < w.heap.size ∧ ∀ i x, l[i]? = some x → w.cell? ⟨b, off + i, none⟩ = some (.int .i64 x))

theorem IsI.below {w w' : World} {l : List Int} {p : Option Addr} {n cap : Nat} (h : IsI w l p n cap) (hb : Below w.heap.size w w') : IsI w' l p n cap := by
  obtain ⟨h1, h2, h3, h4⟩ := h
  refine ⟨h1, h2, h3, ?_⟩
  rcases h4 with h4 | ⟨b, off, e, hlt, hc⟩
  · exact Or.inl h4
  · exact Or.inr ⟨b, off, e, Nat.lt_of_lt_of_le hlt hb.size, fun i x hx => ((bcell hb).1 b (off + i) hlt).trans (hc i x hx)⟩

theorem IsI.alloc {w : World} {l : List Int} {p : Option Addr} {n cap : Nat} (h : IsI w l p n cap) (o : Obj) : IsI (w.alloc o) l p n cap := h.below ((Below.refl _ _).alloc (Nat.le_refl _) _)

theorem isI_nil (w : World) : IsI w [] none 0 0 := ⟨rfl, Nat.le_refl _, by simp [maxLen], Or.inl ⟨rfl, rfl⟩⟩

theorem isI_own {w : World} {B n : Nat} {v : Value} {l : List Int} (h : w.ownsRow B 3 1 v n (l.map intv)) : ∃ q c, v = .slice q l.length c ∧ IsI w l q l.length c := by
  have hn : n = l.length := by have := h.1; simpa using this.symm
  subst hn
  rcases h.2 with ⟨rfl, h0⟩ | ⟨g, cap, cur, rfl, _, hg, hc, hm, hs, ht⟩
  · have : l = [] := List.eq_nil_of_length_eq_zero h0
    subst this
    exact ⟨none, 0, rfl, isI_nil w⟩
  · refine ⟨some ⟨g, 0, none⟩, cap, rfl, rfl, hc, hm, Or.inr ⟨g, 0, rfl, lt_of_block hg, fun i x hx => ?_⟩⟩
    have hi : i < l.length := by
      rcases Nat.lt_or_ge i l.length with h | h
      · exact h
      · rw [List.getElem?_eq_none h] at hx; cases hx
    have h2 := h.cellAt i (by omega)
    rw [Nat.zero_add, h2, List.getElem?_map, hx]; rfl

theorem one_intv (x : Int) : ∀ u ∈ [Value.int .i64 x], u.oneCell' = true := by simp [Value.oneCell']

theorem all_intv (l : List Int) : ∀ u ∈ l.map intv, u.oneCell' = true := by
  intro u hu
  obtain ⟨x, _, rfl⟩ := List.mem_map.1 hu
  rfl

/-- append of nothing at all -/
theorem wpList_append_empty {P : Program} {w : World} {ops : Array Oper} {rest : List Oper} {o : Oper} {a : Act} {Q : Exit → Act → World → Prop} (hgd : o.guard = none) (s x : Operand) (t : TypeId)
    (ho : o.op = .call { callee := .builtin .append, args := #[s, x], argTypes := #[t, t] }) {e : TypeId} {i : TypeInfo} {size base n : Nat} (ht : P.underlying t = some (.slice e)) (hi : P.info? e = some i)
    {v : Value} {xs : List Value} (hs : a.eval s = v) (hx : a.eval x = .slice none 0 0) (hown : w.ownsRow base e size v n xs) (h : wpList P ops Q rest (a.put o.dst v) w) : wpList P ops Q (o :: rest) a w := by
  refine wpList_plain hgd fun K hK => ?_
  have hr := run_append_owned_none (P := P) (w := w) base t o.type e i size ht hi v n xs hown
  unfold Oper.wp execOp
  simp only [ho, resolve, invoke, builtin, Sem.run_bind, Sem.run_pure, Result.andThen_ok, List.map_toArray, List.map_cons, List.map_nil, hs, hx, hr]
  exact hK _ _ h

set_option maxRecDepth 100000 in
set_option maxHeartbeats 1600000 in
theorem insert_nil (n : Int) (w : World) :
    Calls Try.prog 83 #[.slice none 0 0, .int .i64 n] w fun e w' =>
      ∃ q c, e = .returned (.slice q 1 c) ∧ IsI w' [n] q 1 c ∧ Below w.heap.size w w' := by
  obtain ⟨i0, hi0, hz0, hz1, hz2⟩ := info_parts infoI
  go_enter Try.func83, Try.ntmps83
  go_wp2_with fail
  refine wp_loop_rounds 1 ?_
  rw [rounds_succ]
  go_wp2_with (first
    | (at_builtin; refine wpList_append_own _ rfl (.tmp 28) (.tmp 30) 47 rfl w.heap.size 3 i0 (.int .i64 0) 1 8 Try.underlying47 hi0 hz0 hz1 hz2 rfl Nat.one_pos (.slice none 0 0) 0 [] rfl (World.ownsRow_nil _ _ _ _) ⟨w.heap.size, 0, none⟩ 1 1 [.int .i64 n] rfl rfl (cell_one_new _ _ _) (one_intv n) (by simp [maxLen]) (by omega) (by simp) ?_; intro v1 w1 hown1 hgrow1 _)
    | (at_builtin; refine wpList_append_empty rfl (.tmp 46) (.tmp 49) 47 rfl Try.underlying47 hi0 rfl rfl hown1 ?_))
  go_ret
  obtain ⟨q, c, rfl, hi⟩ := isI_own (l := [n]) hown1
  have hb := ((Below.refl w.heap.size w).alloc (Nat.le_refl _) (.cells #[.int .i64 n] 3)).grown hgrow1 (by simp) (by simp [Value.ownBlock])
  exact ⟨q, c, rfl, hi, hb⟩

theorem take_map_snoc (l : List Int) (j : Nat) (h : j < l.length) : (l.take j).map intv ++ [Value.int .i64 l[j]] = (l.take (j + 1)).map intv := by
  rw [List.take_succ_eq_append_getElem h, List.map_append]; rfl

/-- the round of insert's loop, behind it -/
theorem below_own {w W W1 : World} {B n : Nat} {v : Value} {xs : List Value} {o : Obj} (hb : Below w.heap.size w W) (hown : W.ownsRow w.heap.size B 1 v n xs) (hg : (W.alloc o).grownBy W1 v.ownBlock) : Below w.heap.size w W1 :=
  (hb.alloc hb.size o).grown hg (by rw [World.size_alloc]; have := hb.size; omega) fun k hk => (hown.lt k hk).1

theorem below_own0 {w W W1 : World} {B n : Nat} {v : Value} {xs : List Value} (hb : Below w.heap.size w W) (hown : W.ownsRow w.heap.size B 1 v n xs) (hg : W.grownBy W1 v.ownBlock) : Below w.heap.size w W1 :=
  hb.grown hg hb.size fun k hk => (hown.lt k hk).1

theorem own_room {j K L : Nat} (hj : j ≤ K) (hK : K ≤ L) (hL : L ≤ 200000) : j + 1 + (L - K) ≤ maxLen ∧ (j + 1 + (L - K)) * 8 ≤ 140737488355328 := by
  simp only [maxLen]; omega

theorem drop_cells (l : List Int) (K : Nat) : ((l.drop K).map intv).length = (l.length - K) * 1 := by simp

/-- what insert leaves -/
def InsPost (w : World) (L : List Int) (e : Ending) (w' : World) : Prop := ∃ q c, e = .returned (.slice q L.length c) ∧ IsI w' L q L.length c ∧ Below w.heap.size w w'

theorem insPost_mk {w W1 : World} {B n : Nat} {v : Value} {xs : List Value} {L : List Int} (hown : W1.ownsRow B 3 1 v n xs) (he : xs = L.map intv) (hb : Below w.heap.size w W1) : InsPost w L (.returned v) W1 := by
  subst he
  obtain ⟨q, c, rfl, hi⟩ := isI_own hown
  exact ⟨q, c, rfl, hi, hb⟩

set_option maxRecDepth 100000 in
set_option maxHeartbeats 3200000 in
theorem insert_some (l : List Int) (n : Int) (w : World) (b off cap : Nat) (hcap : l.length ≤ cap) (hmax : cap ≤ maxLen) (hlt : b < w.heap.size) (hc : ∀ i x, l[i]? = some x → w.cell? ⟨b, off + i, none⟩ = some (.int .i64 x)) (hlen : l.length ≤ 200000) :
    Calls Try.prog 83 #[.slice (some ⟨b, off, none⟩) l.length cap, .int .i64 n] w (InsPost w (ins n l)) := by
  obtain ⟨i0, hi0, hz0, hz1, hz2⟩ := info_parts infoI
  unfold maxLen at hmax
  have HC := Lib.hid hc
  clear hc
  go_enter Try.func83, Try.ntmps83
  go_wp2_with fail
  go_loopw [5, 6] (fun x i wr => ∃ (j : Nat) (v : Value), j ≤ l.length ∧ v = x ∧ i = .int .i64 (j : Int) ∧ (∀ i (h : i < l.length), i < j → l[i] < n) ∧ wr.ownsRow w.heap.size 3 1 v j ((l.take j).map intv) ∧ Below w.heap.size w wr)
    (fun _ i _ => l.length - (intOf i).toNat)
  case atStart => exact ⟨0, _, Nat.zero_le _, rfl, rfl, fun i h h0 => absurd h0 (Nat.not_lt_zero _), World.ownsRow_nil _ _ _ _, Below.refl _ _⟩
  case round =>
    obtain ⟨j, v, hj, rfl, rfl, hall, hown, hb⟩ := hrel
    have HA := Lib.hid hall
    have hz := hb.size
    have hmx : j + 1 ≤ maxLen := by simp only [maxLen]; omega
    clear hall
    by_cases hjl : j < l.length
    · have hcell := ((bcell hb).1 b (off + j) hlt).trans (HC.out j l[j] (List.getElem?_eq_getElem hjl))
      obtain ⟨x, hx⟩ : ∃ x, l[j] = x := ⟨_, rfl⟩
      rw [hx] at hcell
      by_cases hxn : x < n
      · have hsn := take_map_snoc l j hjl
        rw [hx] at hsn
        have HS := Lib.hid hsn
        have hall' : ∀ i (h : i < l.length), i < j + 1 → l[i] < n := fun i h hi => by
          by_cases e : i = j
          · subst e; rw [hx]; exact hxn
          · exact HA.out i h (by omega)
        have HA' := Lib.hid hall'
        clear hsn hall' HA hx
        go_wp2_with (at_builtin; refine wpList_append_own _ rfl (.tmp 19) (.tmp 24) 47 rfl w.heap.size 3 i0 (.int .i64 0) 1 8 Try.underlying47 hi0 hz0 hz1 hz2 rfl Nat.one_pos v j _ rfl (hown.alloc _) ⟨wr.heap.size, 0, none⟩ 1 1 [.int .i64 x] rfl rfl (cell_one_new _ _ _) (one_intv x) hmx (by omega) (by simp; omega) ?_; intro v1 w1 hown1 hgrow1 _)
        have hb1 := below_own hb hown hgrow1
        rw [HS.out] at hown1
        clear hgrow1 hcell
        go_roundw
        case rel => exact ⟨j + 1, v1, by omega, rfl, by go_num, HA'.out, hown1, hb1⟩
        case measure => simp [intOf]; omega
      · have hins := ins_take n l j HA.out hj
        have hd2 : decide (x < n) = false := by simp; omega
        have hs1 : ∀ W, Below w.heap.size w W → ∀ K (k : Nat) u, ((l.drop K).map intv)[k]? = some u → W.cell? ⟨b, off + K + k, none⟩ = some u := fun W hW K k u hu => by
          rw [List.getElem?_map, List.getElem?_drop] at hu
          obtain ⟨y, hy, rfl⟩ := Option.map_eq_some_iff.1 hu
          rw [(bcell hW).1 _ _ hlt, Nat.add_assoc]
          exact HC.out _ _ hy
        have hs2 : ∀ W, Below w.heap.size w W → W.cell? ⟨b, off + j, none⟩ = some (.int .i64 x) := fun W hW => ((bcell hW).1 b (off + j) hlt).trans (by rw [← hx]; exact HC.out j l[j] (List.getElem?_eq_getElem hjl))
        have HS1 := Lib.hid hs1
        have HS2 := Lib.hid hs2
        by_cases hxe : x = n
        · rw [ins_drop_eq n l j hjl (hx.trans hxe)] at hins
          have HI := Lib.hid hins
          have hd3 : (x == n) = true := by simp [hxe]
          clear hins HA hs1 hs2 hx hxe hxn
          have hck : j + 1 < cap ∨ j + 1 = cap := by omega
          rcases hck with hck | hck
          · have HRM := own_room (j := j) (K := j + 1) (L := l.length) (by omega) (by omega) hlen
            go_wp2_with (first
            | (at_builtin; refine wpList_append_own _ rfl (.tmp 28) (.tmp 30) 47 rfl w.heap.size 3 i0 (.int .i64 0) 1 8 Try.underlying47 hi0 hz0 hz1 hz2 rfl Nat.one_pos v j _ rfl (hown.alloc _) ⟨wr.heap.size, 0, none⟩ 1 1 [.int .i64 n] rfl rfl (cell_one_new _ _ _) (one_intv n) hmx (by omega) (by simp; omega) ?_; intro v1 w1 hown1 hgrow1 _; have hb1 := below_own hb hown hgrow1; have hcell1 := HS2.out _ hb1)
            | (at_builtin; refine wpList_append_own _ rfl (.tmp 46) (.tmp 49) 47 rfl w.heap.size 3 i0 (.int .i64 0) 1 8 Try.underlying47 hi0 hz0 hz1 hz2 rfl Nat.one_pos v1 (j + 1) _ rfl hown1 ⟨b, off + (j + 1), none⟩ (l.length - (j + 1)) (cap - (j + 1)) ((l.drop (j + 1)).map intv) rfl (drop_cells l _) ?_ (all_intv _) HRM.1 HRM.2 hb1.size ?_; exact (fun k u hu => (by rw [Addr.add_lit]; exact HS1.out _ hb1 _ k u hu)); intro v2 w2 hown2 hgrow2 _))
            have hb2 := below_own0 hb1 hown1 hgrow2
            go_ret
            exact insPost_mk hown2 (by rw [HI.out]; simp [intv]) hb2
          · have HRM := own_room (j := j) (K := j + 1) (L := l.length) (by omega) (by omega) hlen
            have hmc : l.length - (j + 1) = 0 := by omega
            have hdn : l.drop (j + 1) = [] := List.drop_eq_nil_of_le (by omega)
            have HDN := Lib.hid hdn
            clear hdn
            go_wp2_with (first
            | (at_builtin; refine wpList_append_own _ rfl (.tmp 28) (.tmp 30) 47 rfl w.heap.size 3 i0 (.int .i64 0) 1 8 Try.underlying47 hi0 hz0 hz1 hz2 rfl Nat.one_pos v j _ rfl (hown.alloc _) ⟨wr.heap.size, 0, none⟩ 1 1 [.int .i64 n] rfl rfl (cell_one_new _ _ _) (one_intv n) hmx (by omega) (by simp; omega) ?_; intro v1 w1 hown1 hgrow1 _; have hb1 := below_own hb hown hgrow1; have hcell1 := HS2.out _ hb1)
            | (at_builtin; refine wpList_append_own _ rfl (.tmp 46) (.tmp 49) 47 rfl w.heap.size 3 i0 (.int .i64 0) 1 8 Try.underlying47 hi0 hz0 hz1 hz2 rfl Nat.one_pos v1 _ _ rfl hown1 _ _ _ [] rfl (by simp <;> omega) ?_ (by simp) (by simp only [maxLen]; omega) (by omega) hb1.size ?_; exact (fun k u hu => (by simp at hu)); intro v2 w2 hown2 hgrow2 _))
            have hb2 := below_own0 hb1 hown1 hgrow2
            go_ret
            exact insPost_mk hown2 (by rw [HI.out, HDN.out]; simp [intv]) hb2
        · rw [ins_drop_gt n l j hjl (by rw [hx]; omega)] at hins
          have HI := Lib.hid hins
          have hd3 : (x == n) = false := by simp [hxe]
          clear hins HA hs1 hs2 hx hxe hxn
          have HRM := own_room (j := j) (K := j) (L := l.length) (by omega) (by omega) hlen
          have hck : j < cap := by omega
          go_wp2_with (first
            | (at_builtin; refine wpList_append_own _ rfl (.tmp 28) (.tmp 30) 47 rfl w.heap.size 3 i0 (.int .i64 0) 1 8 Try.underlying47 hi0 hz0 hz1 hz2 rfl Nat.one_pos v j _ rfl (hown.alloc _) ⟨wr.heap.size, 0, none⟩ 1 1 [.int .i64 n] rfl rfl (cell_one_new _ _ _) (one_intv n) hmx (by omega) (by simp; omega) ?_; intro v1 w1 hown1 hgrow1 _; have hb1 := below_own hb hown hgrow1; have hcell1 := HS2.out _ hb1)
            | (at_builtin; refine wpList_append_own _ rfl (.tmp 46) (.tmp 49) 47 rfl w.heap.size 3 i0 (.int .i64 0) 1 8 Try.underlying47 hi0 hz0 hz1 hz2 rfl Nat.one_pos v1 (j + 1) _ rfl hown1 ⟨b, off + j, none⟩ (l.length - (j)) (cap - j) ((l.drop (j)).map intv) rfl (drop_cells l _) ?_ (all_intv _) HRM.1 HRM.2 hb1.size ?_; exact (fun k u hu => (by rw [Addr.add_lit]; exact HS1.out _ hb1 _ k u hu)); intro v2 w2 hown2 hgrow2 _))
          have hb2 := below_own0 hb1 hown1 hgrow2
          go_ret
          exact insPost_mk hown2 (by rw [HI.out]; simp [intv]) hb2
    · obtain rfl : j = l.length := by omega
      have hins := ins_take n l l.length HA.out (Nat.le_refl _)
      rw [ins_drop_end n l l.length (Nat.le_refl _)] at hins
      have HI := Lib.hid hins
      clear hins HA
      have hd5 : l.drop l.length = [] := by simp
      have HD5 := Lib.hid hd5
      clear hd5
      have HRM := own_room (j := l.length) (K := l.length) (L := l.length) (by omega) (by omega) hlen
      have hck : l.length < cap ∨ l.length = cap := by omega
      rcases hck with hck | hck
      · go_wp2_with (first
            | (at_builtin; refine wpList_append_own _ rfl (.tmp 28) (.tmp 30) 47 rfl w.heap.size 3 i0 (.int .i64 0) 1 8 Try.underlying47 hi0 hz0 hz1 hz2 rfl Nat.one_pos v l.length _ rfl (hown.alloc _) ⟨wr.heap.size, 0, none⟩ 1 1 [.int .i64 n] rfl rfl (cell_one_new _ _ _) (one_intv n) hmx (by omega) (by simp; omega) ?_; intro v1 w1 hown1 hgrow1 _; have hb1 := below_own hb hown hgrow1)
            | (at_builtin; refine wpList_append_own _ rfl (.tmp 46) (.tmp 49) 47 rfl w.heap.size 3 i0 (.int .i64 0) 1 8 Try.underlying47 hi0 hz0 hz1 hz2 rfl Nat.one_pos v1 _ _ rfl hown1 _ _ _ [] rfl (by simp <;> omega) ?_ (by simp) (by simp only [maxLen]; omega) (by omega) hb1.size ?_; exact (fun k u hu => (by simp at hu)); intro v2 w2 hown2 hgrow2 _))
        have hb2 := below_own0 hb1 hown1 hgrow2
        go_ret
        exact insPost_mk hown2 (by rw [HI.out]; simp [intv]) hb2
      · go_wp2_with (first
            | (at_builtin; refine wpList_append_own _ rfl (.tmp 28) (.tmp 30) 47 rfl w.heap.size 3 i0 (.int .i64 0) 1 8 Try.underlying47 hi0 hz0 hz1 hz2 rfl Nat.one_pos v l.length _ rfl (hown.alloc _) ⟨wr.heap.size, 0, none⟩ 1 1 [.int .i64 n] rfl rfl (cell_one_new _ _ _) (one_intv n) hmx (by omega) (by simp; omega) ?_; intro v1 w1 hown1 hgrow1 _; have hb1 := below_own hb hown hgrow1)
            | (at_builtin; refine wpList_append_own _ rfl (.tmp 46) (.tmp 49) 47 rfl w.heap.size 3 i0 (.int .i64 0) 1 8 Try.underlying47 hi0 hz0 hz1 hz2 rfl Nat.one_pos v1 _ _ rfl hown1 _ _ _ [] rfl (by simp <;> omega) ?_ (by simp) (by simp only [maxLen]; omega) (by omega) hb1.size ?_; exact (fun k u hu => (by simp at hu)); intro v2 w2 hown2 hgrow2 _))
        have hb2 := below_own0 hb1 hown1 hgrow2
        go_ret
        exact insPost_mk hown2 (by rw [HI.out]; simp [intv]) hb2

theorem insert_any (l : List Int) (n : Int) (w : World) (p : Option Addr) (m cap : Nat) (h : IsI w l p m cap) (hlen : l.length ≤ 200000) :
    Calls Try.prog 83 #[.slice p m cap, .int .i64 n] w (InsPost w (ins n l)) := by
  obtain ⟨rfl, h2, h3, h4⟩ := h
  rcases h4 with ⟨rfl, rfl⟩ | ⟨b, off, rfl, hlt, hc⟩
  · obtain rfl : l = [] := List.eq_nil_of_length_eq_zero (by omega)
    exact insert_nil n w
  · exact insert_some l n w b off cap h2 h3 hlt hc hlen

end Go.Proofs.Ytlgfaobbjnhfoaa
