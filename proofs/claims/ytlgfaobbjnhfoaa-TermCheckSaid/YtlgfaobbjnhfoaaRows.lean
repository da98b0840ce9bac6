/-
  NARROWER THAN 'FOR EVERY INPUT', by the rows' own cells (each row's printed sentence says how): TermCheck: loops · TermSize: loops · TermSort: loops · TermFree: loops · TermSubst: loops · TermApply: loops · TermSorts: loops · TermTwice: loops · TermSelf: loops · TermNodes: loops · TermOwn: loops.
  DERIVED. THE GIVEN ROWS OF THIS SEAT. 11 by the template 'for every input the law returns true; each argument reads behind the call as it read before'; 0 by the template 'total and deterministic' (their statements: YtlgfaobbjnhfoaaTotals.lean).
  GIVEN WITH THE SEED: the statements are not yours to turn. If you find one false, say at which input.
  Laid BY PROGRAM, IN A SANDBOX (cutbox-rows.mjs): the forced cells as the released guide's own fill.sh prints them over the translation 606345583f265800… (all of the seat's roots in one cut). By AI agents, Wed Nov 11 2026. No macro, syntax, notation, axiom, sorry.
-/
import Derived.Test.YtlgfaobbjnhfoaaChecked
import GoSem.Claim
import GoSem.ClaimJoined
import GoSem.ClaimMapViews
import Derived.JoinedTies
import Derived.KernelRfl
namespace Go.Proofs.Ytlgfaobbjnhfoaa
/- THE CELL 'sum', in the pinned program and in every row, IS THE sha256 OF THE DUMP (.gsa) THAT YtlgfaobbjnhfoaaProg.lean LOADS. Nothing in Lean hashes anything: it is a label: what it is worth is what the hold of that sum in a sandbox is worth. -/
noncomputable def Try.pinned : Pinned := { name := "ytlgfaobbjnhfoaa", sum := "606345583f265800ffd62b9d535e570d4c68e719a5db6acd485cef461a2c03be", checked := Try.checked }
namespace Rows
def none {H : Type} : Left H := { results := [], args := [] }

/-- 'virgationlaw02.TermCheck': WHATEVER THE INPUT: true; the input reads as it did. -/
def termCheckSpec : ChangeSpec := { name := "termCheck", fn := fun _ => fun
  | [d] => { results := [.lit (.bool true)], args := [d] }
  | _ => none }
def termCheckRow : OpenClaim := { program := "ytlgfaobbjnhfoaa", sum := "606345583f265800ffd62b9d535e570d4c68e719a5db6acd485cef461a2c03be", func := "virgation/virgationlaw02.TermCheck", spec := "termCheck", unfollowed := true, recurses := true, loops := true, apart := false }
def TermCheckSaid : Prop := termCheckRow.holds Try.pinned (OpenSpec.ofChange termCheckSpec)

/-- ITS FALSE NEIGHBOUR: 'it returns false'. Refute it at one input. -/
def termCheckWrong : ChangeSpec := { name := "termCheck", fn := fun _ => fun
  | [d] => { results := [.lit (.bool false)], args := [d] }
  | _ => none }
def TermCheckWrongFalsely : Prop := termCheckRow.holds Try.pinned (OpenSpec.ofChange termCheckWrong)

/-- 'virgationlaw02.TermSize': WHATEVER THE INPUT: true; the input reads as it did. -/
def termSizeSpec : ChangeSpec := { name := "termSize", fn := fun _ => fun
  | [d1, d2] => { results := [.lit (.bool true)], args := [d1, d2] }
  | _ => none }
def termSizeRow : OpenClaim := { program := "ytlgfaobbjnhfoaa", sum := "606345583f265800ffd62b9d535e570d4c68e719a5db6acd485cef461a2c03be", func := "virgation/virgationlaw02.TermSize", spec := "termSize", unfollowed := true, recurses := true, loops := true, apart := false }
def TermSizeSaid : Prop := termSizeRow.holds Try.pinned (OpenSpec.ofChange termSizeSpec)

/-- ITS FALSE NEIGHBOUR: 'it returns false'. Refute it at one input. -/
def termSizeWrong : ChangeSpec := { name := "termSize", fn := fun _ => fun
  | [d1, d2] => { results := [.lit (.bool false)], args := [d1, d2] }
  | _ => none }
def TermSizeWrongFalsely : Prop := termSizeRow.holds Try.pinned (OpenSpec.ofChange termSizeWrong)

/-- 'virgationlaw02.TermSort': WHATEVER THE INPUT: true; the input reads as it did. -/
def termSortSpec : ChangeSpec := { name := "termSort", fn := fun _ => fun
  | [d1, d2] => { results := [.lit (.bool true)], args := [d1, d2] }
  | _ => none }
def termSortRow : OpenClaim := { program := "ytlgfaobbjnhfoaa", sum := "606345583f265800ffd62b9d535e570d4c68e719a5db6acd485cef461a2c03be", func := "virgation/virgationlaw02.TermSort", spec := "termSort", unfollowed := true, recurses := true, loops := true, apart := false }
def TermSortSaid : Prop := termSortRow.holds Try.pinned (OpenSpec.ofChange termSortSpec)

/-- ITS FALSE NEIGHBOUR: 'it returns false'. Refute it at one input. -/
def termSortWrong : ChangeSpec := { name := "termSort", fn := fun _ => fun
  | [d1, d2] => { results := [.lit (.bool false)], args := [d1, d2] }
  | _ => none }
def TermSortWrongFalsely : Prop := termSortRow.holds Try.pinned (OpenSpec.ofChange termSortWrong)

/-- 'virgationlaw02.TermFree': WHATEVER THE INPUT: true; the input reads as it did. -/
def termFreeSpec : ChangeSpec := { name := "termFree", fn := fun _ => fun
  | [d] => { results := [.lit (.bool true)], args := [d] }
  | _ => none }
def termFreeRow : OpenClaim := { program := "ytlgfaobbjnhfoaa", sum := "606345583f265800ffd62b9d535e570d4c68e719a5db6acd485cef461a2c03be", func := "virgation/virgationlaw02.TermFree", spec := "termFree", unfollowed := true, recurses := true, loops := true, apart := false }
def TermFreeSaid : Prop := termFreeRow.holds Try.pinned (OpenSpec.ofChange termFreeSpec)

/-- ITS FALSE NEIGHBOUR: 'it returns false'. Refute it at one input. -/
def termFreeWrong : ChangeSpec := { name := "termFree", fn := fun _ => fun
  | [d] => { results := [.lit (.bool false)], args := [d] }
  | _ => none }
def TermFreeWrongFalsely : Prop := termFreeRow.holds Try.pinned (OpenSpec.ofChange termFreeWrong)

/-- 'virgationlaw02.TermSubst': WHATEVER THE INPUT: true; the input reads as it did. -/
def termSubstSpec : ChangeSpec := { name := "termSubst", fn := fun _ => fun
  | [d1, d2] => { results := [.lit (.bool true)], args := [d1, d2] }
  | _ => none }
def termSubstRow : OpenClaim := { program := "ytlgfaobbjnhfoaa", sum := "606345583f265800ffd62b9d535e570d4c68e719a5db6acd485cef461a2c03be", func := "virgation/virgationlaw02.TermSubst", spec := "termSubst", unfollowed := true, recurses := true, loops := true, apart := false }
def TermSubstSaid : Prop := termSubstRow.holds Try.pinned (OpenSpec.ofChange termSubstSpec)

/-- ITS FALSE NEIGHBOUR: 'it returns false'. Refute it at one input. -/
def termSubstWrong : ChangeSpec := { name := "termSubst", fn := fun _ => fun
  | [d1, d2] => { results := [.lit (.bool false)], args := [d1, d2] }
  | _ => none }
def TermSubstWrongFalsely : Prop := termSubstRow.holds Try.pinned (OpenSpec.ofChange termSubstWrong)

/-- 'virgationlaw02.TermApply': WHATEVER THE INPUT: true; the input reads as it did. -/
def termApplySpec : ChangeSpec := { name := "termApply", fn := fun _ => fun
  | [d1, d2] => { results := [.lit (.bool true)], args := [d1, d2] }
  | _ => none }
def termApplyRow : OpenClaim := { program := "ytlgfaobbjnhfoaa", sum := "606345583f265800ffd62b9d535e570d4c68e719a5db6acd485cef461a2c03be", func := "virgation/virgationlaw02.TermApply", spec := "termApply", unfollowed := true, recurses := true, loops := true, apart := false }
def TermApplySaid : Prop := termApplyRow.holds Try.pinned (OpenSpec.ofChange termApplySpec)

/-- ITS FALSE NEIGHBOUR: 'it returns false'. Refute it at one input. -/
def termApplyWrong : ChangeSpec := { name := "termApply", fn := fun _ => fun
  | [d1, d2] => { results := [.lit (.bool false)], args := [d1, d2] }
  | _ => none }
def TermApplyWrongFalsely : Prop := termApplyRow.holds Try.pinned (OpenSpec.ofChange termApplyWrong)

/-- 'virgationlaw02.TermSorts': WHATEVER THE INPUT: true; the input reads as it did. -/
def termSortsSpec : ChangeSpec := { name := "termSorts", fn := fun _ => fun
  | [d1, d2, d3, d4] => { results := [.lit (.bool true)], args := [d1, d2, d3, d4] }
  | _ => none }
def termSortsRow : OpenClaim := { program := "ytlgfaobbjnhfoaa", sum := "606345583f265800ffd62b9d535e570d4c68e719a5db6acd485cef461a2c03be", func := "virgation/virgationlaw02.TermSorts", spec := "termSorts", unfollowed := true, recurses := true, loops := true, apart := false }
def TermSortsSaid : Prop := termSortsRow.holds Try.pinned (OpenSpec.ofChange termSortsSpec)

/-- ITS FALSE NEIGHBOUR: 'it returns false'. Refute it at one input. -/
def termSortsWrong : ChangeSpec := { name := "termSorts", fn := fun _ => fun
  | [d1, d2, d3, d4] => { results := [.lit (.bool false)], args := [d1, d2, d3, d4] }
  | _ => none }
def TermSortsWrongFalsely : Prop := termSortsRow.holds Try.pinned (OpenSpec.ofChange termSortsWrong)

/-- 'virgationlaw02.TermTwice': WHATEVER THE INPUT: true; the input reads as it did. -/
def termTwiceSpec : ChangeSpec := { name := "termTwice", fn := fun _ => fun
  | [d1, d2, d3] => { results := [.lit (.bool true)], args := [d1, d2, d3] }
  | _ => none }
def termTwiceRow : OpenClaim := { program := "ytlgfaobbjnhfoaa", sum := "606345583f265800ffd62b9d535e570d4c68e719a5db6acd485cef461a2c03be", func := "virgation/virgationlaw02.TermTwice", spec := "termTwice", unfollowed := true, recurses := true, loops := true, apart := false }
def TermTwiceSaid : Prop := termTwiceRow.holds Try.pinned (OpenSpec.ofChange termTwiceSpec)

/-- ITS FALSE NEIGHBOUR: 'it returns false'. Refute it at one input. -/
def termTwiceWrong : ChangeSpec := { name := "termTwice", fn := fun _ => fun
  | [d1, d2, d3] => { results := [.lit (.bool false)], args := [d1, d2, d3] }
  | _ => none }
def TermTwiceWrongFalsely : Prop := termTwiceRow.holds Try.pinned (OpenSpec.ofChange termTwiceWrong)

/-- 'virgationlaw02.TermSelf': WHATEVER THE INPUT: true; the input reads as it did. -/
def termSelfSpec : ChangeSpec := { name := "termSelf", fn := fun _ => fun
  | [d] => { results := [.lit (.bool true)], args := [d] }
  | _ => none }
def termSelfRow : OpenClaim := { program := "ytlgfaobbjnhfoaa", sum := "606345583f265800ffd62b9d535e570d4c68e719a5db6acd485cef461a2c03be", func := "virgation/virgationlaw02.TermSelf", spec := "termSelf", unfollowed := true, recurses := true, loops := true, apart := false }
def TermSelfSaid : Prop := termSelfRow.holds Try.pinned (OpenSpec.ofChange termSelfSpec)

/-- ITS FALSE NEIGHBOUR: 'it returns false'. Refute it at one input. -/
def termSelfWrong : ChangeSpec := { name := "termSelf", fn := fun _ => fun
  | [d] => { results := [.lit (.bool false)], args := [d] }
  | _ => none }
def TermSelfWrongFalsely : Prop := termSelfRow.holds Try.pinned (OpenSpec.ofChange termSelfWrong)

/-- 'virgationlaw02.TermNodes': WHATEVER THE INPUT: true; the input reads as it did. -/
def termNodesSpec : ChangeSpec := { name := "termNodes", fn := fun _ => fun
  | [d1, d2] => { results := [.lit (.bool true)], args := [d1, d2] }
  | _ => none }
def termNodesRow : OpenClaim := { program := "ytlgfaobbjnhfoaa", sum := "606345583f265800ffd62b9d535e570d4c68e719a5db6acd485cef461a2c03be", func := "virgation/virgationlaw02.TermNodes", spec := "termNodes", unfollowed := true, recurses := true, loops := true, apart := false }
def TermNodesSaid : Prop := termNodesRow.holds Try.pinned (OpenSpec.ofChange termNodesSpec)

/-- ITS FALSE NEIGHBOUR: 'it returns false'. Refute it at one input. -/
def termNodesWrong : ChangeSpec := { name := "termNodes", fn := fun _ => fun
  | [d1, d2] => { results := [.lit (.bool false)], args := [d1, d2] }
  | _ => none }
def TermNodesWrongFalsely : Prop := termNodesRow.holds Try.pinned (OpenSpec.ofChange termNodesWrong)

/-- 'virgationlaw02.TermOwn': WHATEVER THE INPUT: true; the input reads as it did. -/
def termOwnSpec : ChangeSpec := { name := "termOwn", fn := fun _ => fun
  | [d1, d2, d3] => { results := [.lit (.bool true)], args := [d1, d2, d3] }
  | _ => none }
def termOwnRow : OpenClaim := { program := "ytlgfaobbjnhfoaa", sum := "606345583f265800ffd62b9d535e570d4c68e719a5db6acd485cef461a2c03be", func := "virgation/virgationlaw02.TermOwn", spec := "termOwn", unfollowed := true, recurses := true, loops := true, apart := false }
def TermOwnSaid : Prop := termOwnRow.holds Try.pinned (OpenSpec.ofChange termOwnSpec)

/-- ITS FALSE NEIGHBOUR: 'it returns false'. Refute it at one input. -/
def termOwnWrong : ChangeSpec := { name := "termOwn", fn := fun _ => fun
  | [d1, d2, d3] => { results := [.lit (.bool false)], args := [d1, d2, d3] }
  | _ => none }
def TermOwnWrongFalsely : Prop := termOwnRow.holds Try.pinned (OpenSpec.ofChange termOwnWrong)

/- THE SECOND FORM. 'bulk': how many values and letters a reading holds, each counted each time it is reached (what is shared counts as often as it is met; a slice's spare places count too). A statement '..UptoSaid' is the law's where the arguments, and the package variables that the reading takes, are together of bulk at most 1048576: NARROWER than '..Said'. Prove '..Said' where nothing that the law and all that it calls make is longer than what came in: it says more and counts as full. Else prove '..UptoSaid'. A law counts once. -/
mutual
def uptoBulk {H : Type} : DataW H → Nat
  | .lit (.string bytes) => bytes.length + 1
  | .lit _ => 1
  | .nil => 1
  | .ptr d => uptoBulk d + 1
  | .slice elems spare => uptoBulkAll elems + uptoBulkAll spare + 1
  | .agg parts => uptoBulkAll parts + 1
  | .iface _ d => uptoBulk d + 1
  | .map entries => uptoBulkEntries entries + 1
  | .held _ => 1
def uptoBulkAll {H : Type} : List (DataW H) → Nat
  | [] => 0
  | d :: r => uptoBulk d + uptoBulkAll r
def uptoBulkEntries {H : Type} : List (Lit × DataW H) → Nat
  | [] => 0
  | x :: r => uptoBulkEntry x + uptoBulkEntries r
def uptoBulkEntry {H : Type} : Lit × DataW H → Nat
  | (.string bytes, d) => bytes.length + uptoBulk d + 1
  | (_, d) => uptoBulk d + 1
 end
def uptoSmall : (H : Type) → List (DataW H) → Bool := fun _ ds => decide (uptoBulkAll ds ≤ 1048576)
def OpenSpec.upto (s : _root_.Go.ChangeSpec) : _root_.Go.OpenSpec := { _root_.Go.OpenSpec.ofChange s with cond := some uptoSmall }

/-- 'virgationlaw02.TermCheck', WHERE WHAT IT READS IS OF BULK AT MOST 1048576: true; the input reads as it did. -/
def termCheckUptoRow : OpenClaim := { program := "ytlgfaobbjnhfoaa", sum := "606345583f265800ffd62b9d535e570d4c68e719a5db6acd485cef461a2c03be", func := "virgation/virgationlaw02.TermCheck", spec := "termCheck", unfollowed := true, recurses := true, loops := true, apart := false, narrowed := true }
def TermCheckUptoSaid : Prop := termCheckUptoRow.holds Try.pinned (OpenSpec.upto termCheckSpec)

/-- 'virgationlaw02.TermSize', WHERE WHAT IT READS IS OF BULK AT MOST 1048576: true; the input reads as it did. -/
def termSizeUptoRow : OpenClaim := { program := "ytlgfaobbjnhfoaa", sum := "606345583f265800ffd62b9d535e570d4c68e719a5db6acd485cef461a2c03be", func := "virgation/virgationlaw02.TermSize", spec := "termSize", unfollowed := true, recurses := true, loops := true, apart := false, narrowed := true }
def TermSizeUptoSaid : Prop := termSizeUptoRow.holds Try.pinned (OpenSpec.upto termSizeSpec)

/-- 'virgationlaw02.TermSort', WHERE WHAT IT READS IS OF BULK AT MOST 1048576: true; the input reads as it did. -/
def termSortUptoRow : OpenClaim := { program := "ytlgfaobbjnhfoaa", sum := "606345583f265800ffd62b9d535e570d4c68e719a5db6acd485cef461a2c03be", func := "virgation/virgationlaw02.TermSort", spec := "termSort", unfollowed := true, recurses := true, loops := true, apart := false, narrowed := true }
def TermSortUptoSaid : Prop := termSortUptoRow.holds Try.pinned (OpenSpec.upto termSortSpec)

/-- 'virgationlaw02.TermFree', WHERE WHAT IT READS IS OF BULK AT MOST 1048576: true; the input reads as it did. -/
def termFreeUptoRow : OpenClaim := { program := "ytlgfaobbjnhfoaa", sum := "606345583f265800ffd62b9d535e570d4c68e719a5db6acd485cef461a2c03be", func := "virgation/virgationlaw02.TermFree", spec := "termFree", unfollowed := true, recurses := true, loops := true, apart := false, narrowed := true }
def TermFreeUptoSaid : Prop := termFreeUptoRow.holds Try.pinned (OpenSpec.upto termFreeSpec)

/-- 'virgationlaw02.TermSubst', WHERE WHAT IT READS IS OF BULK AT MOST 1048576: true; the input reads as it did. -/
def termSubstUptoRow : OpenClaim := { program := "ytlgfaobbjnhfoaa", sum := "606345583f265800ffd62b9d535e570d4c68e719a5db6acd485cef461a2c03be", func := "virgation/virgationlaw02.TermSubst", spec := "termSubst", unfollowed := true, recurses := true, loops := true, apart := false, narrowed := true }
def TermSubstUptoSaid : Prop := termSubstUptoRow.holds Try.pinned (OpenSpec.upto termSubstSpec)

/-- 'virgationlaw02.TermApply', WHERE WHAT IT READS IS OF BULK AT MOST 1048576: true; the input reads as it did. -/
def termApplyUptoRow : OpenClaim := { program := "ytlgfaobbjnhfoaa", sum := "606345583f265800ffd62b9d535e570d4c68e719a5db6acd485cef461a2c03be", func := "virgation/virgationlaw02.TermApply", spec := "termApply", unfollowed := true, recurses := true, loops := true, apart := false, narrowed := true }
def TermApplyUptoSaid : Prop := termApplyUptoRow.holds Try.pinned (OpenSpec.upto termApplySpec)

/-- 'virgationlaw02.TermSorts', WHERE WHAT IT READS IS OF BULK AT MOST 1048576: true; the input reads as it did. -/
def termSortsUptoRow : OpenClaim := { program := "ytlgfaobbjnhfoaa", sum := "606345583f265800ffd62b9d535e570d4c68e719a5db6acd485cef461a2c03be", func := "virgation/virgationlaw02.TermSorts", spec := "termSorts", unfollowed := true, recurses := true, loops := true, apart := false, narrowed := true }
def TermSortsUptoSaid : Prop := termSortsUptoRow.holds Try.pinned (OpenSpec.upto termSortsSpec)

/-- 'virgationlaw02.TermTwice', WHERE WHAT IT READS IS OF BULK AT MOST 1048576: true; the input reads as it did. -/
def termTwiceUptoRow : OpenClaim := { program := "ytlgfaobbjnhfoaa", sum := "606345583f265800ffd62b9d535e570d4c68e719a5db6acd485cef461a2c03be", func := "virgation/virgationlaw02.TermTwice", spec := "termTwice", unfollowed := true, recurses := true, loops := true, apart := false, narrowed := true }
def TermTwiceUptoSaid : Prop := termTwiceUptoRow.holds Try.pinned (OpenSpec.upto termTwiceSpec)

/-- 'virgationlaw02.TermSelf', WHERE WHAT IT READS IS OF BULK AT MOST 1048576: true; the input reads as it did. -/
def termSelfUptoRow : OpenClaim := { program := "ytlgfaobbjnhfoaa", sum := "606345583f265800ffd62b9d535e570d4c68e719a5db6acd485cef461a2c03be", func := "virgation/virgationlaw02.TermSelf", spec := "termSelf", unfollowed := true, recurses := true, loops := true, apart := false, narrowed := true }
def TermSelfUptoSaid : Prop := termSelfUptoRow.holds Try.pinned (OpenSpec.upto termSelfSpec)

/-- 'virgationlaw02.TermNodes', WHERE WHAT IT READS IS OF BULK AT MOST 1048576: true; the input reads as it did. -/
def termNodesUptoRow : OpenClaim := { program := "ytlgfaobbjnhfoaa", sum := "606345583f265800ffd62b9d535e570d4c68e719a5db6acd485cef461a2c03be", func := "virgation/virgationlaw02.TermNodes", spec := "termNodes", unfollowed := true, recurses := true, loops := true, apart := false, narrowed := true }
def TermNodesUptoSaid : Prop := termNodesUptoRow.holds Try.pinned (OpenSpec.upto termNodesSpec)

/-- 'virgationlaw02.TermOwn', WHERE WHAT IT READS IS OF BULK AT MOST 1048576: true; the input reads as it did. -/
def termOwnUptoRow : OpenClaim := { program := "ytlgfaobbjnhfoaa", sum := "606345583f265800ffd62b9d535e570d4c68e719a5db6acd485cef461a2c03be", func := "virgation/virgationlaw02.TermOwn", spec := "termOwn", unfollowed := true, recurses := true, loops := true, apart := false, narrowed := true }
def TermOwnUptoSaid : Prop := termOwnUptoRow.holds Try.pinned (OpenSpec.upto termOwnSpec)

end Rows
end Go.Proofs.Ytlgfaobbjnhfoaa
