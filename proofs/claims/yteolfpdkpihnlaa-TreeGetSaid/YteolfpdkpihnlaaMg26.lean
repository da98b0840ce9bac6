/-
  Parts of one proof, laid into one text: EGet. Conditions: each part names its own.
-/
import Derived.Test.YteolfpdkpihnlaaMg25

/-
  The walk of Get. Conditions: none but that the symbols lie in memory and are at most 2^40.
-/
set_option linter.unusedSimpArgs false
set_option linter.unusedVariables false
namespace Go.Proofs.Yteolfpdkpihnlaa
open Go.RowKit Go.Maps

theorem symFrom_at {S : Sy} : ∀ {n i : Nat}, symFrom S n i = true → ∀ k, i ≤ k → k < i + n → symOk S k = true := by
  intro n
  induction n with
  | zero => intro i _ k h1 h2; omega
  | succ n ih =>
    intro i h k h1 h2
    simp only [symFrom, Bool.and_eq_true] at h
    by_cases e : k = i
    · subst e; exact h.1
    · exact ih h.2 k (by omega) (by omega)

theorem symsOk_facts {S : Sy} (h : symsOk S = true) : S.len ≤ 24 ∧ (∀ i, i < S.len → 0 ≤ S.rk i ∧ S.rk i ≤ 4) ∧ (∀ i, i < S.len → nm (S.nm i) = true) := by
  simp only [symsOk, Bool.and_eq_true, decide_eq_true_eq] at h
  refine ⟨h.1, fun i hi => ?_, fun i hi => ?_⟩
  · have := symFrom_at h.2 i (Nat.zero_le _) (by omega)
    simp only [symOk, Bool.and_eq_true, Bool.not_eq_true', decide_eq_false_iff_not] at this
    omega
  · have := symFrom_at h.2 i (Nat.zero_le _) (by omega)
    simp only [symOk, Bool.and_eq_true] at this
    exact this.1.1.1

theorem nm_size {n : ByteArray} (h : nm n = true) : n.size ≤ 24 := by
  unfold nm at h
  simp only [Bool.and_eq_true, decide_eq_true_eq] at h
  exact h.1.1.2

theorem ranksOk_of {S : Sy} (h : symsOk S = true) : ranksOk (ranksE S) = true := by
  obtain ⟨h1, h2, _⟩ := symsOk_facts h
  simp only [ranksOk, ranksE_len, Bool.and_eq_true, decide_eq_true_eq, List.all_eq_true]
  refine ⟨h1, fun r hr => ?_⟩
  simp only [ranksE, List.mem_map, List.mem_range] at hr
  obtain ⟨i, hi, rfl⟩ := hr
  exact h2 i hi

/-- what Get answers -/
def getE (S : Sy) (s : List UInt8) : Int × Int × Y :=
  if symsOk S = true then
    if 65536 < s.length then (3, 0, .nil)
    else match rdE S (s.length + 1) s with
      | some (n, a, []) => if treeOk (ranksE S) n a = true then (0, n, a) else (9, 0, .nil)
      | _ => (4, 0, .nil)
  else (2, 0, .nil)

def GetPost (x : Int × Int × Y) (w : World) (e : Ending) (w' : World) : Prop :=
  ∃ q c, e = .returned (.tuple #[.agg #[.int .i64 x.2.1, .slice q x.2.2.len c], .int .i64 x.1]) ∧ OwnY w' x.2.2 q c w.heap.size w'.heap.size ∧ Below w.heap.size w w'

theorem isY_one {W : World} {b : Nat} {n : Int} {a : Y} {q : Option Addr} {c : Nat} {ty : TypeId} (h : W.heap[b]? = some (.cells #[.int .i64 n, .slice q a.len c] ty (0, 0))) (his : IsY W a q a.len c) : IsY W (.cons n a .nil) (some ⟨b, 0, none⟩) 1 1 := by
  obtain ⟨h1, h2, h3, h4, h5⟩ := his
  refine ⟨rfl, Nat.le_refl _, by simp [maxLen], (fun e => by cases e), Or.inr ⟨b, 0, rfl, by simp [World.cell?, h], ⟨q, c, by simp [World.cell?, h], h2, h3, h4, h5⟩, trivial⟩⟩

/-- what the call of check needs, and what is left to do behind it -/
structure KG (w W : World) (br bs bt lo hi : Nat) (S : Sy) (sp : Option Addr) (sn sc : Nat) (n : Int) (a : Y) (q : Option Addr) (c : Nat) : Prop where
  syms : IsS W S sp sn sc
  hbs : W.heap[bs]? = some (.cells #[.slice sp sn sc] 44 (0, 0))
  hbt : W.heap[bt]? = some (.cells #[.int .i64 n, .slice q a.len c] 25 (0, 0))
  hres : W.heap[br]? = some (.cells #[.int .i64 0, .slice none 0 0] 25 (0, 0))
  own : OwnY W a q c lo hi
  hhi : hi ≤ W.heap.size
  base : Below w.heap.size w W

section
variable {w W W' : World} {br bs bt lo hi : Nat} {S : Sy} {sp : Option Addr} {sn sc : Nat} {n : Int} {a : Y} {q : Option Addr} {c : Nat}

theorem KG.below (h : KG w W br bs bt lo hi S sp sn sc n a q c) (hb : Below W.heap.size W W') : KG w W' br bs bt lo hi S sp sn sc n a q c :=
  ⟨h.syms.below hb, (hb.block _ (lt_of_block h.hbs)).trans h.hbs, (hb.block _ (lt_of_block h.hbt)).trans h.hbt, (hb.block _ (lt_of_block h.hres)).trans h.hres,
    h.own.keep fun k _ hk => hb.block k (by have := h.hhi; omega), Nat.le_trans h.hhi hb.size, h.base.trans (hb.mono h.base.size)⟩

theorem KG.alloc (h : KG w W br bs bt lo hi S sp sn sc n a q c) (o : Obj) : KG w (W.alloc o) br bs bt lo hi S sp sn sc n a q c := h.below ((Below.refl _ _).alloc (Nat.le_refl _) o)

theorem KG.drew (h : KG w W br bs bt lo hi S sp sn sc n a q c) : KG w W.drew br bs bt lo hi S sp sn sc n a q c :=
  h.below (Below.refl _ _).drew

theorem KG.isY (h : KG w W br bs bt lo hi S sp sn sc n a q c) : IsY W a q a.len c := h.own.isY
end

set_option maxRecDepth 100000 in
set_option maxHeartbeats 8000000 in
theorem eget_any (S : Sy) (s : List UInt8) (w : World) (sp : Option Addr) (sn sc : Nat) (his : IsS w S sp sn sc) :
    Calls Try.prog 38 #[.slice sp sn sc, .string ⟨s.toArray⟩] w (GetPost (getE S s) w) := by
  have b2 : ∀ x y, Below w.heap.size w ((w.alloc x).alloc y) := fun x y => ((Below.refl _ _).alloc (Nat.le_refl _) _).alloc (by simp) _
  obtain ⟨f, hf⟩ : ∃ f, getE S s = f := ⟨_, rfl⟩
  rw [hf]
  have HF := Lib.hid hf.symm
  clear hf
  have hsy := symbols_any S ((w.alloc (.cells #[.slice sp sn sc] 44)).alloc (.cells #[.int .i64 0, .slice none 0 0] 25)) sp sn sc ((his.alloc _).alloc _)
  have HSY := Lib.hid hsy
  have HIS := Lib.hid his
  clear hsy his
  cases hok : symsOk S with
  | false =>
    rw [hok] at HSY
    have hv : f = (2, 0, .nil) := by rw [HF.out]; unfold getE; rw [hok]; rfl
    subst hv
    clear HF hok
    go_enter Try.func38, Try.ntmps38
    go_wp2_with fail
    refine (HSY.out).mono ?_
    rintro e w1 ⟨rfl, hb1⟩
    have z0 := box2_later hb1 (heap_new2 w (.cells #[.slice sp sn sc] 44) (.cells #[.int .i64 0, .slice none 0 0] 25))
    obtain ⟨⟨z1, z2⟩, f1, f2⟩ := tree_box z0
    have hz := lt_of_block z0
    clear z0
    go_wp2_with fail
    refine bodyPost_ret (v := .tuple #[.agg #[.int .i64 0, .slice none 0 0], .int .i64 2]) (by simp [results, Try.results38, go_sem, z1, z2]) rfl ?_
    exact ⟨none, 0, rfl, ownY_nil _ _ _, (((b2 _ _).trans (hb1.mono (by simp <;> omega))).setCell (by simp <;> omega) _).setCell (by simp <;> omega) _⟩
  | true =>
    rw [hok] at HSY
    obtain ⟨h24, hrk, hnm⟩ := symsOk_facts hok
    by_cases hlong : 65536 < s.length
    · have hv : f = (3, 0, .nil) := by rw [HF.out]; unfold getE; rw [hok, if_pos rfl, if_pos hlong]
      subst hv
      have hd : (65536 : Int) < (s.length : Int) := by omega
      clear HF hok hlong
      go_enter Try.func38, Try.ntmps38
      go_wp2_with fail
      refine (HSY.out).mono ?_
      rintro e w1 ⟨rfl, hb1⟩
      have z0 := box2_later hb1 (heap_new2 w (.cells #[.slice sp sn sc] 44) (.cells #[.int .i64 0, .slice none 0 0] 25))
      obtain ⟨⟨z1, z2⟩, f1, f2⟩ := tree_box z0
      have hz := lt_of_block z0
      clear z0
      go_wp2_with fail
      refine bodyPost_ret (v := .tuple #[.agg #[.int .i64 0, .slice none 0 0], .int .i64 3]) (by simp [results, Try.results38, go_sem, z1, z2]) rfl ?_
      exact ⟨none, 0, rfl, ownY_nil _ _ _, (((b2 _ _).trans (hb1.mono (by simp <;> omega))).setCell (by simp <;> omega) _).setCell (by simp <;> omega) _⟩
    · have hd : ¬ (65536 : Int) < (s.length : Int) := by omega
      have hv : f = match rdE S (s.length + 1) s with
        | some (n, a, []) => if treeOk (ranksE S) n a = true then (0, n, a) else (9, 0, .nil)
        | _ => (4, 0, .nil) := by rw [HF.out]; unfold getE; rw [hok, if_pos rfl, if_neg hlong]
      have HV := Lib.hid hv
      have hrok := ranksOk_of hok
      have hs : s.length ≤ 65536 := by omega
      clear HF hok hlong hv
      have hmm := @run_makeMap Try.prog
      go_enter Try.func38, Try.ntmps38
      go_wp2_with fail
      refine (HSY.out).mono ?_
      rintro e w1 ⟨rfl, hb1⟩
      have z0 := box2_later hb1 (heap_new2 w (.cells #[.slice sp sn sc] 44) (.cells #[.int .i64 0, .slice none 0 0] 25))
      have y0 := box2_later hb1 (alloc_kept (heap_new w (.cells #[.slice sp sn sc] 44)) (.cells #[.int .i64 0, .slice none 0 0] 25))
      have i1 := ((HIS.out.alloc (.cells #[.slice sp sn sc] 44)).alloc (.cells #[.int .i64 0, .slice none 0 0] 25)).below hb1
      have hb0 : Below w.heap.size w w1 := (b2 _ _).trans (hb1.mono (by simp <;> omega))
      have y1 := cell_of_one y0
      have hz := lt_of_block z0
      have hzy := lt_of_block y0
      clear hb1
      go_wp2_with fail
      clear hmm
      obtain ⟨hsl, hscap, hsmax, hsnil, hsrow⟩ := id i1
      subst hsl
      unfold maxLen at hsmax
      go_loopw [23] (fun i wr => ∃ j : Nat, j ≤ S.len ∧ i = .int .i64 (j : Int) ∧ MapS wr w1.heap.size S j ∧ wr.heap[w1.heap.size + 1]? = some (.cells #[.map (some w1.heap.size)] 78 (0, 0)) ∧ Below w1.heap.size w1 wr)
        (fun i _ => S.len - (intOf i).toNat)
      case atStart => exact ⟨0, Nat.zero_le _, rfl, (World.ownsMap_made _ _ _ _).alloc _, by have h := heap_new2 w1 (.map #[] 0) (.cells #[.map (some w1.heap.size)] 78); first | exact h | simpa using h, ((Below.refl _ _).alloc (Nat.le_refl _) _).alloc (by simp) _⟩
      case round =>
        obtain ⟨j, hj, rfl, hmap, hbox, hbr⟩ := hrel
        have HM := Lib.hid hmap
        have HB := Lib.hid hbox
        obtain ⟨_, _, em⟩ := mapS_block hmap
        have hml := lt_of_block em
        have c6 := cell_of_one hbox
        have hbl := lt_of_block hbox
        clear hmap hbox em
        by_cases hlt : j < S.len
        · rcases hsrow with h0 | ⟨b, off, rfl, hr⟩
          · omega
          obtain ⟨g1, g2⟩ := hr j hlt
          have d1 := ((bcell hbr).1 _ _ (lt_of_cell g1)).trans g1
          have d2 := ((bcell hbr).1 _ _ (lt_of_cell g2)).trans g2
          have hs24 : (S.nm j).size ≤ maxLen := by have := nm_size (hnm j hlt); unfold maxLen; omega
          have hkey : keyOf Try.prog 9 (.string (S.nm j)) = some (keyN (S.nm j)) := Go.WideMaps.keyOf_string_mk Try.underlying9 hs24
          have HK := Lib.hid hkey
          have HV2 := Lib.hid (plainI (n := j) (by omega))
          clear g1 g2 hkey hs24 hr
          go_wp2_with (first | (at_mapUpdate; refine wpList_mapUpdate_own _ rfl _ _ _ 78 rfl 9 3 mlaw Try.underlying78 _ w1.heap.size j _ rfl (HM.out.alloc _) (by unfold maxLen; omega) _ _ _ rfl rfl HK.out _ [] HV2.out ?_; intro w3 hown3 hgrow3) | go_in)
          have hb4 : Below w1.heap.size w1 w3 := (hbr.alloc hbr.size _).trans (grown_below (by have := hbr.size; simp; omega) (Nat.le_refl _) hgrow3)
          have hbx4 : w3.heap[w1.heap.size + 1]? = some (.cells #[.map (some w1.heap.size)] 78 (0, 0)) := (hgrow3.block _ (by simp <;> omega) (fun e => by injection e; omega)).trans (alloc_kept HB.out _)
          go_roundw
          case rel => exact ⟨j + 1, by omega, by go_num, hown3, hbx4, hb4⟩
          case measure => simp [intOf]; omega
        · obtain rfl : j = S.len := by omega
          have y4 := box2_later hbr y0
          have z4 := box2_later hbr z0
          have hI : InE wr w1.heap.size w.heap.size (w1.heap.size + 1) S sp S.len sc := ⟨i1.below hbr, HM.out, y4, HB.out⟩
          have hb5 := hb0.trans (hbr.mono hb0.size)
          have hlo5 := hb5.size
          clear i1 hsrow
          have bad : (Calls Try.prog 73 #[.string ⟨s.toArray⟩, .func (Fn.func 74) #[] #[.pointer (some ⟨w.heap.size, 0, none⟩), .pointer (some ⟨w1.heap.size + 1, 0, none⟩)]] wr (TreeBad wr) ∧ f = (4, 0, .nil)) ∨
              ∃ n a, Calls Try.prog 73 #[.string ⟨s.toArray⟩, .func (Fn.func 74) #[] #[.pointer (some ⟨w.heap.size, 0, none⟩), .pointer (some ⟨w1.heap.size + 1, 0, none⟩)]] wr (TreeGot wr n a) ∧ f = if treeOk (ranksE S) n a = true then (0, n, a) else (9, 0, .nil) := by
            cases hh : rdE S (s.length + 1) s with
            | none => exact Or.inl ⟨allY_none S hrk h24 s wr _ _ _ sp _ sc hs hI hh, by rw [HV.out, hh]⟩
            | some z =>
              obtain ⟨n, a, r⟩ := z
              cases r with
              | nil => exact Or.inr ⟨n, a, allY_ok S hrk h24 s wr _ _ _ sp _ sc hs hI n a hh, by rw [HV.out, hh]⟩
              | cons x r => exact Or.inl ⟨allY_more S hrk h24 s wr _ _ _ sp _ sc hs hI n a (x :: r) hh rfl, by rw [HV.out, hh]⟩
          rcases bad with ⟨hA, hv⟩ | ⟨n, a, hA, hv⟩
          · subst hv
            have HA := Lib.hid hA
            clear hA hI HV
            go_wp2_with fail
            refine (HA.out).mono ?_
            rintro e w6 ⟨rfl, hb6⟩
            have z5 := box2_later hb6 z4
            obtain ⟨⟨x1, x2⟩, f1, f2⟩ := tree_box z5
            have hz5 := lt_of_block z5
            have hb7 := hb5.trans (hb6.mono hb5.size)
            have zz := alloc_kept (put2_box (x := .int .i64 0) (y := .slice none 0 0) z5) (.cells #[.int .i64 0, .slice none 0 0] 25)
            unfold put2 at zz
            obtain ⟨⟨k1, k2⟩, _⟩ := tree_box zz
            clear z5 hb6 zz
            go_wp2_with fail
            refine bodyPost_ret (v := .tuple #[.agg #[.int .i64 0, .slice none 0 0], .int .i64 4]) (by simp [results, Try.results38, go_sem, k1, k2]) rfl ?_
            exact ⟨none, 0, rfl, ownY_nil _ _ _, ((hb7.setCell (show w.heap.size ≤ w.heap.size + 1 by omega) _).setCell (show w.heap.size ≤ w.heap.size + 1 by omega) _).alloc (by simp [World.setCell] <;> omega) _⟩
          · have HA := Lib.hid hA
            have HIY := Lib.hid hI.syms
            have HVV := Lib.hid hv
            clear hA hI HV hv
            go_wp2_with fail
            refine (HA.out).mono ?_
            rintro e w6 ⟨q, c, rfl, hO, hb6⟩
            have hK : KG w (w6.alloc (.cells #[.int .i64 n, .slice q a.len c] 25)) (w.heap.size + 1) w.heap.size w6.heap.size wr.heap.size w6.heap.size S sp S.len sc n a q c :=
              ⟨(HIY.out.below hb6).alloc _, alloc_kept (box2_later hb6 y4) _, heap_new _ _, alloc_kept (box2_later hb6 z4) _, hO.keep fun k _ hk => Below.heap_alloc _ _ _ hk, by simp, (hb5.trans (hb6.mono hb5.size)).alloc ((hb5.trans (hb6.mono hb5.size)).size) _⟩
            have hz6 : w.heap.size + 2 ≤ w6.heap.size := by have := hb6.size; have := lt_of_block z4; omega
            have hz7 := hb6.size
            have hlok : ∀ W, KG w W (w.heap.size + 1) w.heap.size w6.heap.size wr.heap.size w6.heap.size S sp S.len sc n a q c → Calls Try.prog 68 #[.slice sp S.len sc] W (RanksPost S W) := fun W h => eranks_any S W sp _ sc h.syms (by omega)
            have HRK := Lib.hid hlok
            have hB6 := lt_of_block hK.hbt
            have HK := Lib.hid hK
            have hck : ∀ W rp rc p, KG w W (w.heap.size + 1) w.heap.size w6.heap.size wr.heap.size w6.heap.size S sp S.len sc n a q c → IsL W (ranksE S) rp (ranksE S).length rc → (∀ a, rp = some a → a.block < W.heap.size) → IsY W (.cons n a .nil) p 1 1 →
                Calls Try.prog 50 #[.slice rp (ranksE S).length rc, .slice p 1 1] W fun e w' => e = .returned (.int .i64 (if treeOk (ranksE S) n a = true then 0 else 9)) ∧ Below W.heap.size W w' := fun W rp rc p h h1 h2 h3 => by
              have := echeck_any (ranksE S) (.cons n a .nil) W rp p _ rc 1 1 h1 h2 h3
              rw [show chk6 (ranksE S) (.cons n a .nil) = if treeOk (ranksE S) n a = true then 0 else 9 by unfold chk6; rw [if_pos hrok]; rfl] at this
              exact this
            have HCK := Lib.hid hck
            have HCK := Lib.hid hck
            clear hlok hO HA hb6 hck
            go_wp2_with fail
            generalize w6.alloc (.cells #[.int .i64 n, .slice q a.len c] 25) = W0 at HK hB6 ⊢
            have KD := Lib.hid HK.out.drew
            have KA := Lib.hid (HK.out.alloc (.cells #[.int .i64 n, .slice q a.len c] 25)).drew
            have s1 := cell_of_one HK.out.hbs
            obtain ⟨⟨t1, t2⟩, _⟩ := tree_box HK.out.hbt
            have s2 := lt_of_block HK.out.hbs
            have hnew := Lib.hid (show (W0.alloc (.cells #[.int .i64 n, .slice q a.len c] 25)).drew.heap[W0.heap.size]? = _ from heap_new W0 (.cells #[.int .i64 n, .slice q a.len c] 25))
            cases ht : treeOk (ranksE S) n a with
            | true =>
              rw [ht] at HCK HVV
              simp only [if_true] at HCK HVV
              have hv := HVV.out
              subst hv
              clear HVV ht
              go_region_with (first
                | (go_at_call 68; refine (HRK.out _ KD.out).mono ?_; rintro e w8 ⟨rq, rc, rfl, hL, hLl, hb8⟩; have K8 := Lib.hid (KD.out.below hb8); have kc := tree_box K8.out.hbt; obtain ⟨⟨k1, k2⟩, _⟩ := kc; have K9 := Lib.hid (K8.out.alloc (.cells #[.int .i64 n, .slice q a.len c] 25)); have hchk := Lib.hid (HCK.out (w8.alloc (.cells #[.int .i64 n, .slice q a.len c] 25)) rq rc (some ⟨w8.heap.size, 0, none⟩) K9.out (hL.alloc _) (fun a e => by have := hLl a e; simp only [World.size_alloc]; omega) (isY_one (heap_new w8 _) K9.out.isY)))
                | (go_at_call 68; refine (HRK.out _ KA.out).mono ?_; rintro e w8 ⟨rq, rc, rfl, hL, hLl, hb8⟩; have K9 := Lib.hid (KA.out.below hb8); have hn8 := box2_later hb8 hnew.out; have hchk := Lib.hid (HCK.out w8 rq rc (some ⟨W0.heap.size, 0, none⟩) K9.out hL hLl (isY_one hn8 K9.out.isY)))
                | (go_at_call 50; refine (hchk.out).mono ?_; rintro e w9 ⟨rfl, hb9⟩; have K10 := Lib.hid (K9.out.below hb9); have kd := tree_box K10.out.hbt; obtain ⟨⟨m1, m2⟩, _⟩ := kd; have ke := tree_box K10.out.hres; obtain ⟨⟨n1, n2⟩, n3, n4⟩ := ke; have n5 := lt_of_block K10.out.hres))
              all_goals go_wp2_with fail
              all_goals
                refine bodyPost_ret (v := .tuple #[.agg #[.int .i64 n, .slice q a.len c], .int .i64 0]) (by simp [results, Try.results38, go_sem, n1, n2]) rfl ?_
                refine ⟨q, c, rfl, ?_, (K10.out.base.setCell (show w.heap.size ≤ w.heap.size + 1 by omega) _).setCell (show w.heap.size ≤ w.heap.size + 1 by omega) _⟩
                rw [size_set2]
                exact (K10.out.own.set2 (by omega) _ _).mono (by omega) K10.out.hhi
            | false =>
              rw [ht] at HCK HVV
              simp only [Bool.false_eq_true, if_false] at HCK HVV
              have hv := HVV.out
              subst hv
              clear HVV ht
              go_region_with (first
                | (go_at_call 68; refine (HRK.out _ KD.out).mono ?_; rintro e w8 ⟨rq, rc, rfl, hL, hLl, hb8⟩; have K8 := Lib.hid (KD.out.below hb8); have kc := tree_box K8.out.hbt; obtain ⟨⟨k1, k2⟩, _⟩ := kc; have K9 := Lib.hid (K8.out.alloc (.cells #[.int .i64 n, .slice q a.len c] 25)); have hchk := Lib.hid (HCK.out (w8.alloc (.cells #[.int .i64 n, .slice q a.len c] 25)) rq rc (some ⟨w8.heap.size, 0, none⟩) K9.out (hL.alloc _) (fun a e => by have := hLl a e; simp only [World.size_alloc]; omega) (isY_one (heap_new w8 _) K9.out.isY)))
                | (go_at_call 68; refine (HRK.out _ KA.out).mono ?_; rintro e w8 ⟨rq, rc, rfl, hL, hLl, hb8⟩; have K9 := Lib.hid (KA.out.below hb8); have hn8 := box2_later hb8 hnew.out; have hchk := Lib.hid (HCK.out w8 rq rc (some ⟨W0.heap.size, 0, none⟩) K9.out hL hLl (isY_one hn8 K9.out.isY)))
                | (go_at_call 50; refine (hchk.out).mono ?_; rintro e w9 ⟨rfl, hb9⟩; have K10 := Lib.hid (K9.out.below hb9); have kd := tree_box K10.out.hbt; obtain ⟨⟨m1, m2⟩, _⟩ := kd; have ke := tree_box K10.out.hres; obtain ⟨⟨n1, n2⟩, n3, n4⟩ := ke; have n5 := lt_of_block K10.out.hres))
              all_goals go_wp2_with fail
              all_goals
                refine bodyPost_ret (v := .tuple #[.agg #[.int .i64 0, .slice none 0 0], .int .i64 9]) (by simp [results, Try.results38, go_sem, n1, n2]) rfl ?_
                exact ⟨none, 0, rfl, ownY_nil _ _ _, (K10.out.base.setCell (show w.heap.size ≤ w.heap.size + 1 by omega) _).setCell (show w.heap.size ≤ w.heap.size + 1 by omega) _⟩

end Go.Proofs.Yteolfpdkpihnlaa

