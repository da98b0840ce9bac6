/-
  Plain mathematics of reading sorts: a text is read as one sort as far as it goes; reading and writing are inverse. Conditions: none.
-/
import Derived.Test.YteokoilpnabmhaaPlain
namespace Go.Proofs.Yteokoilpnabmhaa

/-- does s begin with p? -/
def pre (p s : List UInt8) : Bool := p.isPrefixOf s

theorem pre_iff (p s : List UInt8) : pre p s = true ↔ ∃ r, s = p ++ r := by
  unfold pre
  rw [List.isPrefixOf_iff_prefix]
  constructor
  · rintro ⟨r, h⟩; exact ⟨r, h.symm⟩
  · rintro ⟨r, h⟩; exact ⟨r, h.symm⟩

theorem pre_length {p s : List UInt8} (h : pre p s = true) : p.length ≤ s.length := by
  obtain ⟨r, rfl⟩ := (pre_iff p s).1 h; simp

theorem pre_append (p r : List UInt8) : pre p (p ++ r) = true := (pre_iff _ _).2 ⟨r, rfl⟩

/-- one sort, with this much fuel, and what is left -/
def prs : Nat → List UInt8 → Option (T × List UInt8)
  | 0, _ => none
  | f + 1, s =>
    if pre [40] s then
      match prs f (s.drop 1) with
      | some (h, r) => if h.len ≠ 0 ∧ pre [41] r = true ∧ pre [32, 62, 32] (r.drop 1) = true then (prs f (r.drop 4)).map (fun x => (T.cons h x.1, x.2)) else none
      | none => none
    else if pre [111] s then
      if pre [32, 62, 32] (s.drop 1) then (prs f (s.drop 4)).map (fun x => (T.cons T.nil x.1, x.2)) else some (T.nil, s.drop 1)
    else none

theorem prs_lt : ∀ (f : Nat) (s : List UInt8) (t : T) (r : List UInt8), prs f s = some (t, r) → r.length < s.length := by
  intro f
  induction f with
  | zero => intro s t r h; cases h
  | succ f ih =>
    intro s t r h
    unfold prs at h
    split at h
    · rename_i h1
      have hl := pre_length h1
      split at h
      · rename_i hh rr he
        have hr := ih _ _ _ he
        simp only [List.length_drop, List.length_singleton] at hr hl
        split at h
        · rw [Option.map_eq_some_iff] at h
          obtain ⟨x, hx, he2⟩ := h
          have := ih _ _ _ hx
          simp only [Prod.mk.injEq] at he2
          obtain ⟨_, rfl⟩ := he2
          simp only [List.length_drop] at this
          omega
        · cases h
      · cases h
    · split at h
      · rename_i h1
        have hl := pre_length h1
        simp only [List.length_singleton] at hl
        split at h
        · rw [Option.map_eq_some_iff] at h
          obtain ⟨x, hx, he2⟩ := h
          have := ih _ _ _ hx
          simp only [Prod.mk.injEq] at he2
          obtain ⟨_, rfl⟩ := he2
          simp only [List.length_drop] at this
          omega
        · simp only [Option.some.injEq, Prod.mk.injEq] at h
          obtain ⟨_, rfl⟩ := h
          simp only [List.length_drop]; omega
      · cases h

theorem prs_fuel : ∀ (f g : Nat) (s : List UInt8), s.length < f → s.length < g → prs f s = prs g s := by
  intro f
  induction f with
  | zero => intro g s h; omega
  | succ f ih =>
    intro g s hf hg
    cases g with
    | zero => omega
    | succ g =>
      unfold prs
      by_cases h1 : pre [40] s = true
      · have hl := pre_length h1
        simp only [List.length_singleton] at hl
        rw [if_pos h1, if_pos h1, ih g (s.drop 1) (by simp; omega) (by simp; omega)]
        cases he : prs g (s.drop 1) with
        | none => rfl
        | some x =>
          obtain ⟨h, r⟩ := x
          have hr := prs_lt _ _ _ _ he
          simp only [List.length_drop] at hr
          simp only
          rw [ih g (r.drop 4) (by simp; omega) (by simp; omega)]
      · rw [if_neg h1, if_neg h1]
        by_cases h2 : pre [111] s = true
        · have hl := pre_length h2
          simp only [List.length_singleton] at hl
          rw [if_pos h2, if_pos h2, ih g (s.drop 4) (by simp; omega) (by simp; omega)]
        · rw [if_neg h2, if_neg h2]

/-- one sort, and what is left -/
def rd (s : List UInt8) : Option (T × List UInt8) := prs (s.length + 1) s

theorem rd_lt {s : List UInt8} {t : T} {r : List UInt8} (h : rd s = some (t, r)) : r.length < s.length := prs_lt _ _ _ _ h

theorem rd_step (s : List UInt8) : rd s = if pre [40] s then
      (match rd (s.drop 1) with
      | some (h, r) => if h.len ≠ 0 ∧ pre [41] r = true ∧ pre [32, 62, 32] (r.drop 1) = true then (rd (r.drop 4)).map (fun x => (T.cons h x.1, x.2)) else none
      | none => none)
    else if pre [111] s then
      if pre [32, 62, 32] (s.drop 1) then (rd (s.drop 4)).map (fun x => (T.cons T.nil x.1, x.2)) else some (T.nil, s.drop 1)
    else none := by
  conv => lhs; unfold rd prs
  by_cases h1 : pre [40] s = true
  · have hl := pre_length h1
    simp only [List.length_singleton] at hl
    rw [if_pos h1, if_pos h1, prs_fuel s.length ((s.drop 1).length + 1) (s.drop 1) (by simp; omega) (by omega)]
    change (match rd (s.drop 1) with | some (h, r) => _ | none => _) = _
    cases he : rd (s.drop 1) with
    | none => rfl
    | some x =>
      obtain ⟨h, r⟩ := x
      have hr := rd_lt he
      simp only [List.length_drop] at hr
      simp only
      rw [prs_fuel s.length ((r.drop 4).length + 1) (r.drop 4) (by simp; omega) (by omega)]
      rfl
  · rw [if_neg h1, if_neg h1]
    by_cases h2 : pre [111] s = true
    · have hl := pre_length h2
      simp only [List.length_singleton] at hl
      rw [if_pos h2, if_pos h2, prs_fuel s.length ((s.drop 4).length + 1) (s.drop 4) (by simp; omega) (by omega)]
      rfl
    · rw [if_neg h2, if_neg h2]

/-- what is read is what is written -/
theorem rd_txt (n : Nat) : ∀ (s : List UInt8) (t : T) (r : List UInt8), s.length < n → rd s = some (t, r) → s = t.txt ++ r := by
  induction n with
  | zero => intro s t r h; omega
  | succ n ih =>
    intro s t r hn h
    rw [rd_step] at h
    split at h
    · rename_i h1
      obtain ⟨s1, rfl⟩ := (pre_iff _ _).1 h1
      simp only [List.singleton_append, List.drop_succ_cons, List.drop_zero] at h
      split at h
      · rename_i hh rr he
        have hr := rd_lt he
        have e1 := ih s1 hh rr (by simp at hn; omega) he
        split at h
        · rename_i hc
          obtain ⟨hc1, hc2, hc3⟩ := hc
          obtain ⟨r1, rfl⟩ := (pre_iff _ _).1 hc2
          simp only [List.singleton_append, List.drop_succ_cons, List.drop_zero] at hc3 h
          obtain ⟨r2, rfl⟩ := (pre_iff _ _).1 hc3
          rw [Option.map_eq_some_iff] at h
          obtain ⟨x, hx, he2⟩ := h
          obtain ⟨t', r'⟩ := x
          simp only [Prod.mk.injEq] at he2
          obtain ⟨rfl, rfl⟩ := he2
          simp only [List.cons_append, List.nil_append, List.drop_succ_cons, List.drop_zero] at hx
          have e2 := ih r2 t' r' (by simp at hn hr; omega) hx
          rw [e1, e2]
          simp [T.txt, hc1]
        · cases h
      · cases h
    · split at h
      · rename_i h1
        obtain ⟨s1, rfl⟩ := (pre_iff _ _).1 h1
        simp only [List.singleton_append, List.drop_succ_cons, List.drop_zero] at h
        split at h
        · rename_i hc3
          obtain ⟨r2, rfl⟩ := (pre_iff _ _).1 hc3
          rw [Option.map_eq_some_iff] at h
          obtain ⟨x, hx, he2⟩ := h
          obtain ⟨t', r'⟩ := x
          simp only [Prod.mk.injEq] at he2
          obtain ⟨rfl, rfl⟩ := he2
          simp only [List.cons_append, List.nil_append, List.drop_succ_cons, List.drop_zero] at hx
          have e2 := ih r2 t' r' (by simp at hn; omega) hx
          rw [e2]
          simp [T.txt, T.len]
        · simp only [Option.some.injEq, Prod.mk.injEq] at h
          obtain ⟨rfl, rfl⟩ := h
          rfl
      · cases h

theorem rd_open (s1 : List UInt8) : rd (40 :: s1) = (match rd s1 with
      | some (h, r) => if h.len ≠ 0 ∧ pre [41] r = true ∧ pre [32, 62, 32] (r.drop 1) = true then (rd (r.drop 4)).map (fun x => (T.cons h x.1, x.2)) else none
      | none => none) := by
  rw [rd_step, if_pos (by simp [pre])]; rfl

/-- what is written is read, where no arrow follows -/
theorem txt_rd (t : T) : ∀ (r : List UInt8), pre [32, 62, 32] r = false → rd (t.txt ++ r) = some (t, r) := by
  induction t with
  | nil =>
    intro r hr
    show rd (111 :: r) = _
    rw [rd_step, if_neg (by simp [pre]), if_pos (by simp [pre])]
    simp [hr]
  | cons h t ihh iht =>
    intro r hr
    by_cases h0 : h.len = 0
    · have hn : h = .nil := by cases h with
        | nil => rfl
        | cons a b => simp [T.len] at h0
      subst hn
      have e : (T.cons .nil t).txt ++ r = 111 :: 32 :: 62 :: 32 :: (t.txt ++ r) := by simp [T.txt, T.len]
      rw [e, rd_step, if_neg (by simp [pre]), if_pos (by simp [pre]), if_pos (by simp [pre])]
      simp [iht r hr]
    · have e : (T.cons h t).txt ++ r = 40 :: (h.txt ++ (41 :: 32 :: 62 :: 32 :: (t.txt ++ r))) := by simp [T.txt, h0]
      rw [e, rd_open, ihh (41 :: 32 :: 62 :: 32 :: (t.txt ++ r)) rfl]
      simp only
      rw [if_pos ⟨h0, by simp [pre], by simp [pre]⟩]
      simp [iht r hr]

end Go.Proofs.Yteokoilpnabmhaa
