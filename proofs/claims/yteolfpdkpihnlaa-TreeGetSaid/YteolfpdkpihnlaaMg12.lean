/-
  Parts of one proof, laid into one text: WalkF, WalkG. Conditions: each part names its own.
-/
import Derived.Test.YteolfpdkpihnlaaMg07
import Derived.Test.YteolfpdkpihnlaaMg05
import Derived.Deep.RegionLaw

/-
  The walks of fresh and Copy, which make a sort anew. Conditions: at most 60 nodes.
-/
namespace Go.Proofs.Yteolfpdkpihnlaa
open Go.RowKit

end Go.Proofs.Yteolfpdkpihnlaa

/-
  The walks of Behind. Conditions: none but that the sort lies in memory.
-/
namespace Go.Proofs.Yteolfpdkpihnlaa
open Go.RowKit

/-- what Behind returns -/
def T.bE (t : T) (k : Int) : Int := if t.valid then (if 0 ≤ k ∧ k ≤ t.len then 0 else 2) else 6
def T.bT (t : T) (k : Int) : T := if t.valid ∧ 0 ≤ k ∧ k ≤ t.len then t.drop k.toNat else .nil

theorem own_nil (w : World) (lo hi : Nat) : Own w .nil none 0 lo hi := ⟨Nat.le_refl _, by simp [maxLen], fun _ => rfl, Or.inl rfl⟩

/-- the slice behind k arguments -/
theorem IsT.drop {w : World} {t : T} {p : Option Addr} {n cap k : Nat} (h : IsT w t p n cap) (hk : k ≤ n) : IsT w (t.drop k) (if cap = k then p else p.map (·.add k)) (n - k) (cap - k) := by
  obtain ⟨h1, h2, h3, h4, h5⟩ := h
  subst h1
  refine ⟨(T.len_drop t k).symm, by omega, by omega, ?_, ?_⟩
  · intro hn
    by_cases hc : cap = k
    · omega
    · rw [if_neg hc] at hn
      have := h4 (by simpa using hn)
      omega
  · by_cases h0 : t.len - k = 0
    · exact Or.inl h0
    · right
      rcases h5 with h5 | ⟨b, off, rfl, hr⟩
      · omega
      · refine ⟨b, off + k, ?_, hr.drop k⟩
        rw [if_neg (by omega)]
        simp only [Option.map_some, Option.some.injEq]
        unfold Addr.add
        split
        · simp_all
        · rfl

end Go.Proofs.Yteolfpdkpihnlaa

