/-
  Parts of one proof, laid into one text: TWalkL. Conditions: each part names its own.
-/
import Derived.Test.YtjkcopgfcafpeaaGreatDoorMg09
import Derived.Test.YtjkcopgfcafpeaaGreatDoorMg12
import Derived.StringKeys
import Derived.Maps.OwnSet

/-
  The walks of symbols, the program's, which fills a map. Conditions: none but that the symbols lie in memory.
-/
set_option linter.unusedSimpArgs false
set_option linter.unusedVariables false
namespace Go.Proofs.YtjkcopgfcafpeaaGreatDoor
open Go.RowKit Go.Maps

/-- symbols: how many, their names and their ranks -/
structure Sy where
  len : Nat
  nm : Nat → ByteArray
  rk : Nat → Int

/-- the cells from (b, off) on hold the symbols -/
def RowS (w : World) (S : Sy) (b off : Nat) : Prop := ∀ i, i < S.len → w.cell? ⟨b, off + i * 2, none⟩ = some (.string (S.nm i)) ∧ w.cell? ⟨b, off + i * 2 + 1, none⟩ = some (.int .i64 (S.rk i))

def IsS (w : World) (S : Sy) (p : Option Addr) (n cap : Nat) : Prop :=
  n = S.len ∧ n ≤ cap ∧ cap ≤ maxLen ∧ (p = none → cap = 0) ∧ (n = 0 ∨ ∃ b off, p = some ⟨b, off, none⟩ ∧ RowS w S b off)

theorem RowS.below {w w' : World} (hb : Below w.heap.size w w') {S : Sy} {b off : Nat} (h : RowS w S b off) : RowS w' S b off :=
  fun i hi => ⟨((bcell hb).1 _ _ (lt_of_cell (h i hi).1)).trans (h i hi).1, ((bcell hb).1 _ _ (lt_of_cell (h i hi).2)).trans (h i hi).2⟩

theorem IsS.below {w w' : World} (hb : Below w.heap.size w w') {S : Sy} {p : Option Addr} {n cap : Nat} (h : IsS w S p n cap) : IsS w' S p n cap := by
  obtain ⟨h1, h2, h3, h4, h5⟩ := h
  refine ⟨h1, h2, h3, h4, ?_⟩
  rcases h5 with h5 | ⟨b, off, e, hr⟩
  · exact Or.inl h5
  · exact Or.inr ⟨b, off, e, hr.below hb⟩

theorem IsS.alloc {w : World} {S : Sy} {p : Option Addr} {n cap : Nat} (h : IsS w S p n cap) (x : Obj) : IsS (w.alloc x) S p n cap := h.below ((Below.refl _ _).alloc (Nat.le_refl _) _)

/-- is the name of symbol i that of one before it? -/
def dup (S : Sy) (i : Nat) : Bool := (List.range i).any fun j => decide (S.nm j = S.nm i)

/-- is symbol i good behind those before it? -/
def symOk (S : Sy) (i : Nat) : Bool := nm (S.nm i) && !dup S i && !decide (S.rk i < 0) && !decide (4 < S.rk i)

def symFrom (S : Sy) : Nat → Nat → Bool
  | 0, _ => true
  | n + 1, i => symOk S i && symFrom S n (i + 1)

def symsOk (S : Sy) : Bool := decide (S.len ≤ 24) && symFrom S S.len 0

def kyl (S : Sy) (i : Nat) : Lit := .string (S.nm i).data.toList

theorem kyl_inj {S : Sy} {i j : Nat} (h : kyl S i = kyl S j) : S.nm i = S.nm j := by
  unfold kyl at h
  have h1 : (S.nm i).data.toList = (S.nm j).data.toList := by injection h
  apply ByteArray.ext
  exact Array.toList_inj.1 h1

theorem atKey_set {H : Type} (u z : DataW H) (k : Lit) (hk : ∀ x, WideAt.IsKeyLit x → True) : ∀ (acc : List Lit) (m : DataW H), IsMap m → (∀ x ∈ acc, WideAt.IsKeyLit x) →
    (acc.foldl (fun m x => m.put x u) m).atKey k z = if acc.any (fun x => x.sameKey k) then u else m.atKey k z := by
  intro acc
  induction acc with
  | nil => intro m _ _; rfl
  | cons x r ih =>
    intro m hm h
    rw [List.foldl_cons, ih (m.put x u) (hm.put x u) (fun y hy => h y (by simp [hy])), List.any_cons]
    by_cases e : k = x
    · subst e
      rw [atKey_put_same hm (h k (by simp)), WideAt.sameKey_self (h k (by simp))]
      simp
    · rw [atKey_put_other e, sameKey_ne (fun e' => e e'.symm)]
      simp

/-- the map behind i symbols -/
def metM (S : Sy) (i : Nat) : DataW Unit := setOf (.lit (.bool true)) ((List.range i).map (kyl S))

theorem metM_at (S : Sy) (i : Nat) : (metM S i).atKey (kyl S i) (.lit (.bool false)) = .lit (.bool (dup S i)) := by
  have h := atKey_set (H := Unit) (.lit (.bool true)) (.lit (.bool false)) (kyl S i) (fun _ _ => trivial) ((List.range i).map (kyl S)) (.map []) isMap_empty (by intro x hx; obtain ⟨j, _, rfl⟩ := List.mem_map.1 hx; trivial)
  have e : ((List.range i).map (kyl S)).any (fun x => x.sameKey (kyl S i)) = dup S i := by
    unfold dup
    rw [List.any_map]
    congr 1
    funext j
    show (kyl S j).sameKey (kyl S i) = _
    by_cases hj : S.nm j = S.nm i
    · rw [show kyl S j = kyl S i by unfold kyl; rw [hj], WideAt.sameKey_self (by trivial)]; simp [hj]
    · rw [sameKey_ne (fun e => hj (kyl_inj e))]; simp [hj]
  unfold metM setOf
  rw [h, e]
  cases dup S i <;> rfl

theorem metM_step (S : Sy) (i : Nat) : (metM S i).put (kyl S i) (.lit (.bool true)) = metM S (i + 1) := by
  unfold metM
  rw [List.range_succ, List.map_append, List.map_singleton, setOf_snoc]

theorem plainElem_bool_inv {P : Program} {e : TypeId} (he : P.underlying e = some .bool) {v : Value} {x : Bool} {ps : List MemPlace} (h : plainElem (H := Unit) P e v = some (.lit (.bool x), ps)) : v = .bool x := by
  unfold plainElem at h
  rw [he] at h
  cases v <;> simp at h
  rw [h.1]

theorem mlaw : Keyed Tryz.prog 9 := string_keyed Tryz.underlying9

theorem zeroB (w : World) : (zeroValue 4).run Tryz.prog w = .ok (.bool false) w := by kernel_rfl

set_option maxRecDepth 100000 in
set_option maxHeartbeats 1600000 in
theorem symbols_any (S : Sy) (w : World) (p : Option Addr) (n cap : Nat) (his : IsS w S p n cap) :
    Calls Tryz.prog 82 #[.slice p n cap] w fun e w' => e = .returned (.bool (symsOk S)) ∧ Below w.heap.size w w' := by
  obtain ⟨hn, hcap, hmax, hnil, hrow⟩ := his
  subst hn
  unfold maxLen at hmax
  by_cases h24 : S.len ≤ 24
  · obtain ⟨r, hr⟩ : ∃ r, symsOk S = r := ⟨_, rfl⟩
    rw [hr]
    have hr2 : symFrom S S.len 0 = r := by rw [← hr]; unfold symsOk; rw [decide_eq_true h24]; rfl
    have HR := Lib.hid hr2
    clear hr hr2
    have hmm := @run_makeMap Tryz.prog
    go_enter Tryz.func82, Tryz.ntmps82
    go_wp2_with fail
    go_loopw [12] (fun i wr => ∃ j : Nat, j ≤ S.len ∧ i = .int .i64 (j : Int) ∧ symFrom S (S.len - j) j = r ∧ wr.ownsMap Tryz.prog 9 (plainElem Tryz.prog 4) w.heap.size j (metM S j) ∧ Below w.heap.size w wr)
      (fun i _ => S.len - (intOf i).toNat)
    case atStart => exact ⟨0, Nat.zero_le _, rfl, HR.out, World.ownsMap_made _ _ _ _, (Below.refl _ _).alloc (Nat.le_refl _) _⟩
    case round =>
      clear hmm
      obtain ⟨j, hj, rfl, hmo, hown, hb⟩ := hrel
      have HM := Lib.hid hmo
      have HO := Lib.hid hown
      clear hmo hown
      by_cases hlt : j < S.len
      · rcases hrow with h0 | ⟨b, off, rfl, hr⟩
        · omega
        have hc1 := (hr j hlt).1
        have hc2 := (hr j hlt).2
        have hlb := lt_of_cell hc1
        have g1 := ((bcell hb).1 _ _ hlb).trans hc1
        have g2 := ((bcell hb).1 _ _ hlb).trans hc2
        have hz := hb.size
        clear hc1 hc2
        have hsf : symFrom S (S.len - j) j = (symOk S j && symFrom S (S.len - (j + 1)) (j + 1)) := by
          rw [show S.len - j = (S.len - (j + 1)) + 1 by omega]; rfl
        rw [HM.out] at hsf
        unfold symOk at hsf
        have hat := metM_at S j
        have hst := metM_step S j
        have hkl : kyl S j = .string (S.nm j).data.toList := rfl
        rw [hkl] at hat hst
        generalize S.nm j = s at g1 hsf hat hst
        generalize S.rk j = rk at g2 hsf
        have HS := Lib.hid hsf
        have HA := Lib.hid hat
        have HT := Lib.hid hst
        clear hsf hat hst hkl HM
        go_wp2_with fail
        refine (named_any s _).mono ?_
        rintro e w2 ⟨rfl, hb2⟩
        have hbx : w2.heap[wr.heap.size]? = some (.cells #[.string s, .int .i64 rk] 64 (0, 0)) := box3_later hb2 (heap_new _ _)
        have y1 : w2.cell? ⟨wr.heap.size, 0, none⟩ = some (.string s) := by simp [World.cell?, hbx]
        have y2 : w2.cell? ⟨wr.heap.size, 1, none⟩ = some (.int .i64 rk) := by simp [World.cell?, hbx]
        have hb3 := base_next hb hb2
        have hO2 : w2.ownsMap Tryz.prog 9 (plainElem Tryz.prog 4) w.heap.size j (metM S j) := (HO.out.alloc _).kept (row := none) ⟨hb2.os, hb2.tape, hb2.output, hb2.size, fun k hk _ => hb2.block k hk⟩ (by simp)
        clear hb2 hbx HO
        cases hnm : nm s with
        | false =>
          go_wp2_with fail
          go_ret
          exact ⟨ret_bool (by rw [HS.out, hnm]; rfl), hb3⟩
        | true =>
          have hs24 : s.size ≤ maxLen := by
            unfold nm at hnm
            simp only [Bool.and_eq_true, decide_eq_true_eq] at hnm
            have := hnm.1.1.2
            unfold maxLen; omega
          obtain ⟨v, ps, hrun, hv⟩ := hO2.lookup mlaw Tryz.underlying114 (zeroB _) (plainElem_bool Tryz.underlying4 false) (Go.WideMaps.keyOf_string_mk Tryz.underlying9 hs24)
          rw [HA.out] at hv
          obtain rfl := plainElem_bool_inv Tryz.underlying4 hv
          clear hv
          obtain ⟨d, hd⟩ : ∃ d, dup S j = d := ⟨_, rfl⟩
          rw [hd] at hrun
          have hS2 := HS.out
          rw [hd, hnm] at hS2
          have HS2 := Lib.hid hS2
          have HO2 := Lib.hid hO2
          clear hS2 HS hd HA hO2
          cases d with
          | true =>
            go_wp2_with fail
            go_ret
            exact ⟨ret_bool (by rw [HS2.out]; rfl), hb3⟩
          | false =>
            cases h1 : decide (rk < 0) with
            | true =>
              go_wp2_with fail
              go_ret
              exact ⟨ret_bool (by rw [HS2.out, h1]; rfl), hb3⟩
            | false =>
              cases h2 : decide (4 < rk) with
              | true =>
                go_wp2_with fail
                go_ret
                exact ⟨ret_bool (by rw [HS2.out, h1, h2]; rfl), hb3⟩
              | false =>
                go_wp2_with (first | (at_mapUpdate; refine wpList_mapUpdate_own _ rfl _ _ _ 114 rfl 9 4 mlaw Tryz.underlying114 _ w.heap.size j _ rfl HO2.out (by unfold maxLen; omega) _ _ _ rfl rfl (Go.WideMaps.keyOf_string_mk Tryz.underlying9 hs24) _ [] (plainElem_bool Tryz.underlying4 true) ?_; intro w3 hown3 hgrow3) | go_in)
                rw [HT.out] at hown3
                have hb4 : Below w.heap.size w w3 := hb3.trans (grown_below hb3.size (Nat.le_refl _) hgrow3)
                go_roundw
                case rel => exact ⟨j + 1, by omega, by go_num, by rw [HS2.out, h1, h2]; simp, hown3, hb4⟩
                case measure => simp [intOf]; omega
      · go_wp2_with fail
        go_ret
        exact ⟨ret_bool (by rw [← HM.out, show S.len - j = 0 by omega]; rfl), hb⟩
  · have e1 : symsOk S = false := by unfold symsOk; rw [decide_eq_false h24]; rfl
    rw [e1]
    clear e1
    go_enter Tryz.func82, Tryz.ntmps82
    go_wp2_with fail
    go_ret
    exact ⟨rfl, Below.refl _ _⟩

end Go.Proofs.YtjkcopgfcafpeaaGreatDoor

