/-
  NARROWER THAN 'FOR EVERY INPUT', by the rows' own cells (each row's printed sentence says how): TreeCheck: loops · TreeSame: loops · TreeAtLeast: loops · TreeMeet: loops · TreeJoin: loops · TreeCut: loops · TreeAt: loops · TreePut: loops · TreeOrder: loops · TreeMeets: loops · TreeJoins: loops · TreeCuts: loops · TreeRound: loops · TreeOwn: loops.
  DERIVED. THE GIVEN ROWS OF THIS SEAT. 15 by the template 'for every input the law returns true; each argument reads behind the call as it read before'; 0 by the template 'total and deterministic' (their statements: YteolfpdkpihnlaaTotals.lean).
  GIVEN WITH THE SEED: the statements are not yours to turn. If you find one false, say at which input.
  Laid BY PROGRAM, IN A SANDBOX (cutbox-rows.mjs): the forced cells as the released guide's own fill.sh prints them over the translation 06527a54f91e1efd… (all of the seat's roots in one cut). By AI agents, Wed Nov 11 2026. No macro, syntax, notation, axiom, sorry.
-/
import Derived.Test.YteolfpdkpihnlaaChecked
import GoSem.Claim
import GoSem.ClaimJoined
import GoSem.ClaimMapViews
import Derived.JoinedTies
import Derived.KernelRfl
namespace Go.Proofs.Yteolfpdkpihnlaa
/- THE CELL 'sum', in the pinned program and in every row, IS THE sha256 OF THE DUMP (.gsa) THAT YteolfpdkpihnlaaProg.lean LOADS. Nothing in Lean hashes anything: it is a label: what it is worth is what the hold of that sum in a sandbox is worth. -/
noncomputable def Try.pinned : Pinned := { name := "yteolfpdkpihnlaa", sum := "06527a54f91e1efd00e7619cc45863825e9fc167a6ef45687edec0f50cd92d3a", checked := Try.checked }
namespace Rows
def none {H : Type} : Left H := { results := [], args := [] }

/-- 'virgationlaw06.TreeCheck': WHATEVER THE INPUT: true; the input reads as it did. -/
def treeCheckSpec : ChangeSpec := { name := "treeCheck", fn := fun _ => fun
  | [d1, d2] => { results := [.lit (.bool true)], args := [d1, d2] }
  | _ => none }
def treeCheckRow : OpenClaim := { program := "yteolfpdkpihnlaa", sum := "06527a54f91e1efd00e7619cc45863825e9fc167a6ef45687edec0f50cd92d3a", func := "virgation/virgationlaw06.TreeCheck", spec := "treeCheck", inPlace := ["internal/abi.NoEscape"], unfollowed := true, recurses := true, loops := true, apart := false }
def TreeCheckSaid : Prop := treeCheckRow.holds Try.pinned (OpenSpec.ofChange treeCheckSpec)

/-- ITS FALSE NEIGHBOUR: 'it returns false'. Refute it at one input. -/
def treeCheckWrong : ChangeSpec := { name := "treeCheck", fn := fun _ => fun
  | [d1, d2] => { results := [.lit (.bool false)], args := [d1, d2] }
  | _ => none }
def TreeCheckWrongFalsely : Prop := treeCheckRow.holds Try.pinned (OpenSpec.ofChange treeCheckWrong)

/-- 'virgationlaw06.TreeSame': WHATEVER THE INPUT: true; the input reads as it did. -/
def treeSameSpec : ChangeSpec := { name := "treeSame", fn := fun _ => fun
  | [d1, d2] => { results := [.lit (.bool true)], args := [d1, d2] }
  | _ => none }
def treeSameRow : OpenClaim := { program := "yteolfpdkpihnlaa", sum := "06527a54f91e1efd00e7619cc45863825e9fc167a6ef45687edec0f50cd92d3a", func := "virgation/virgationlaw06.TreeSame", spec := "treeSame", inPlace := ["internal/abi.NoEscape"], unfollowed := true, recurses := true, loops := true, apart := false }
def TreeSameSaid : Prop := treeSameRow.holds Try.pinned (OpenSpec.ofChange treeSameSpec)

/-- ITS FALSE NEIGHBOUR: 'it returns false'. Refute it at one input. -/
def treeSameWrong : ChangeSpec := { name := "treeSame", fn := fun _ => fun
  | [d1, d2] => { results := [.lit (.bool false)], args := [d1, d2] }
  | _ => none }
def TreeSameWrongFalsely : Prop := treeSameRow.holds Try.pinned (OpenSpec.ofChange treeSameWrong)

/-- 'virgationlaw06.TreeAtLeast': WHATEVER THE INPUT: true; the input reads as it did. -/
def treeAtLeastSpec : ChangeSpec := { name := "treeAtLeast", fn := fun _ => fun
  | [d1, d2, d3] => { results := [.lit (.bool true)], args := [d1, d2, d3] }
  | _ => none }
def treeAtLeastRow : OpenClaim := { program := "yteolfpdkpihnlaa", sum := "06527a54f91e1efd00e7619cc45863825e9fc167a6ef45687edec0f50cd92d3a", func := "virgation/virgationlaw06.TreeAtLeast", spec := "treeAtLeast", inPlace := ["internal/abi.NoEscape"], unfollowed := true, recurses := true, loops := true, apart := false }
def TreeAtLeastSaid : Prop := treeAtLeastRow.holds Try.pinned (OpenSpec.ofChange treeAtLeastSpec)

/-- ITS FALSE NEIGHBOUR: 'it returns false'. Refute it at one input. -/
def treeAtLeastWrong : ChangeSpec := { name := "treeAtLeast", fn := fun _ => fun
  | [d1, d2, d3] => { results := [.lit (.bool false)], args := [d1, d2, d3] }
  | _ => none }
def TreeAtLeastWrongFalsely : Prop := treeAtLeastRow.holds Try.pinned (OpenSpec.ofChange treeAtLeastWrong)

/-- 'virgationlaw06.TreeMeet': WHATEVER THE INPUT: true; the input reads as it did. -/
def treeMeetSpec : ChangeSpec := { name := "treeMeet", fn := fun _ => fun
  | [d1, d2, d3] => { results := [.lit (.bool true)], args := [d1, d2, d3] }
  | _ => none }
def treeMeetRow : OpenClaim := { program := "yteolfpdkpihnlaa", sum := "06527a54f91e1efd00e7619cc45863825e9fc167a6ef45687edec0f50cd92d3a", func := "virgation/virgationlaw06.TreeMeet", spec := "treeMeet", inPlace := ["internal/abi.NoEscape"], unfollowed := true, recurses := true, loops := true, apart := false }
def TreeMeetSaid : Prop := treeMeetRow.holds Try.pinned (OpenSpec.ofChange treeMeetSpec)

/-- ITS FALSE NEIGHBOUR: 'it returns false'. Refute it at one input. -/
def treeMeetWrong : ChangeSpec := { name := "treeMeet", fn := fun _ => fun
  | [d1, d2, d3] => { results := [.lit (.bool false)], args := [d1, d2, d3] }
  | _ => none }
def TreeMeetWrongFalsely : Prop := treeMeetRow.holds Try.pinned (OpenSpec.ofChange treeMeetWrong)

/-- 'virgationlaw06.TreeJoin': WHATEVER THE INPUT: true; the input reads as it did. -/
def treeJoinSpec : ChangeSpec := { name := "treeJoin", fn := fun _ => fun
  | [d1, d2, d3] => { results := [.lit (.bool true)], args := [d1, d2, d3] }
  | _ => none }
def treeJoinRow : OpenClaim := { program := "yteolfpdkpihnlaa", sum := "06527a54f91e1efd00e7619cc45863825e9fc167a6ef45687edec0f50cd92d3a", func := "virgation/virgationlaw06.TreeJoin", spec := "treeJoin", inPlace := ["internal/abi.NoEscape"], unfollowed := true, recurses := true, loops := true, apart := false }
def TreeJoinSaid : Prop := treeJoinRow.holds Try.pinned (OpenSpec.ofChange treeJoinSpec)

/-- ITS FALSE NEIGHBOUR: 'it returns false'. Refute it at one input. -/
def treeJoinWrong : ChangeSpec := { name := "treeJoin", fn := fun _ => fun
  | [d1, d2, d3] => { results := [.lit (.bool false)], args := [d1, d2, d3] }
  | _ => none }
def TreeJoinWrongFalsely : Prop := treeJoinRow.holds Try.pinned (OpenSpec.ofChange treeJoinWrong)

/-- 'virgationlaw06.TreeCut': WHATEVER THE INPUT: true; the input reads as it did. -/
def treeCutSpec : ChangeSpec := { name := "treeCut", fn := fun _ => fun
  | [d1, d2, d3] => { results := [.lit (.bool true)], args := [d1, d2, d3] }
  | _ => none }
def treeCutRow : OpenClaim := { program := "yteolfpdkpihnlaa", sum := "06527a54f91e1efd00e7619cc45863825e9fc167a6ef45687edec0f50cd92d3a", func := "virgation/virgationlaw06.TreeCut", spec := "treeCut", inPlace := ["internal/abi.NoEscape"], unfollowed := true, recurses := true, loops := true, apart := false }
def TreeCutSaid : Prop := treeCutRow.holds Try.pinned (OpenSpec.ofChange treeCutSpec)

/-- ITS FALSE NEIGHBOUR: 'it returns false'. Refute it at one input. -/
def treeCutWrong : ChangeSpec := { name := "treeCut", fn := fun _ => fun
  | [d1, d2, d3] => { results := [.lit (.bool false)], args := [d1, d2, d3] }
  | _ => none }
def TreeCutWrongFalsely : Prop := treeCutRow.holds Try.pinned (OpenSpec.ofChange treeCutWrong)

/-- 'virgationlaw06.TreeAt': WHATEVER THE INPUT: true; the input reads as it did. -/
def treeAtSpec : ChangeSpec := { name := "treeAt", fn := fun _ => fun
  | [d1, d2, d3] => { results := [.lit (.bool true)], args := [d1, d2, d3] }
  | _ => none }
def treeAtRow : OpenClaim := { program := "yteolfpdkpihnlaa", sum := "06527a54f91e1efd00e7619cc45863825e9fc167a6ef45687edec0f50cd92d3a", func := "virgation/virgationlaw06.TreeAt", spec := "treeAt", inPlace := ["internal/abi.NoEscape"], unfollowed := true, recurses := true, loops := true, apart := false }
def TreeAtSaid : Prop := treeAtRow.holds Try.pinned (OpenSpec.ofChange treeAtSpec)

/-- ITS FALSE NEIGHBOUR: 'it returns false'. Refute it at one input. -/
def treeAtWrong : ChangeSpec := { name := "treeAt", fn := fun _ => fun
  | [d1, d2, d3] => { results := [.lit (.bool false)], args := [d1, d2, d3] }
  | _ => none }
def TreeAtWrongFalsely : Prop := treeAtRow.holds Try.pinned (OpenSpec.ofChange treeAtWrong)

/-- 'virgationlaw06.TreePut': WHATEVER THE INPUT: true; the input reads as it did. -/
def treePutSpec : ChangeSpec := { name := "treePut", fn := fun _ => fun
  | [d1, d2] => { results := [.lit (.bool true)], args := [d1, d2] }
  | _ => none }
def treePutRow : OpenClaim := { program := "yteolfpdkpihnlaa", sum := "06527a54f91e1efd00e7619cc45863825e9fc167a6ef45687edec0f50cd92d3a", func := "virgation/virgationlaw06.TreePut", spec := "treePut", inPlace := ["internal/abi.NoEscape"], unfollowed := true, recurses := true, loops := true, apart := false }
def TreePutSaid : Prop := treePutRow.holds Try.pinned (OpenSpec.ofChange treePutSpec)

/-- ITS FALSE NEIGHBOUR: 'it returns false'. Refute it at one input. -/
def treePutWrong : ChangeSpec := { name := "treePut", fn := fun _ => fun
  | [d1, d2] => { results := [.lit (.bool false)], args := [d1, d2] }
  | _ => none }
def TreePutWrongFalsely : Prop := treePutRow.holds Try.pinned (OpenSpec.ofChange treePutWrong)

/-- 'virgationlaw06.TreeGet': WHATEVER THE INPUT: true; the input reads as it did. -/
def treeGetSpec : ChangeSpec := { name := "treeGet", fn := fun _ => fun
  | [d1, d2] => { results := [.lit (.bool true)], args := [d1, d2] }
  | _ => none }
def treeGetRow : OpenClaim := { program := "yteolfpdkpihnlaa", sum := "06527a54f91e1efd00e7619cc45863825e9fc167a6ef45687edec0f50cd92d3a", func := "virgation/virgationlaw06.TreeGet", spec := "treeGet", inPlace := ["internal/abi.NoEscape"], unfollowed := true, recurses := true, apart := false }
def TreeGetSaid : Prop := treeGetRow.holds Try.pinned (OpenSpec.ofChange treeGetSpec)

/-- ITS FALSE NEIGHBOUR: 'it returns false'. Refute it at one input. -/
def treeGetWrong : ChangeSpec := { name := "treeGet", fn := fun _ => fun
  | [d1, d2] => { results := [.lit (.bool false)], args := [d1, d2] }
  | _ => none }
def TreeGetWrongFalsely : Prop := treeGetRow.holds Try.pinned (OpenSpec.ofChange treeGetWrong)

/-- 'virgationlaw06.TreeOrder': WHATEVER THE INPUT: true; the input reads as it did. -/
def treeOrderSpec : ChangeSpec := { name := "treeOrder", fn := fun _ => fun
  | [d1, d2, d3, d4] => { results := [.lit (.bool true)], args := [d1, d2, d3, d4] }
  | _ => none }
def treeOrderRow : OpenClaim := { program := "yteolfpdkpihnlaa", sum := "06527a54f91e1efd00e7619cc45863825e9fc167a6ef45687edec0f50cd92d3a", func := "virgation/virgationlaw06.TreeOrder", spec := "treeOrder", inPlace := ["internal/abi.NoEscape"], unfollowed := true, recurses := true, loops := true, apart := false }
def TreeOrderSaid : Prop := treeOrderRow.holds Try.pinned (OpenSpec.ofChange treeOrderSpec)

/-- ITS FALSE NEIGHBOUR: 'it returns false'. Refute it at one input. -/
def treeOrderWrong : ChangeSpec := { name := "treeOrder", fn := fun _ => fun
  | [d1, d2, d3, d4] => { results := [.lit (.bool false)], args := [d1, d2, d3, d4] }
  | _ => none }
def TreeOrderWrongFalsely : Prop := treeOrderRow.holds Try.pinned (OpenSpec.ofChange treeOrderWrong)

/-- 'virgationlaw06.TreeMeets': WHATEVER THE INPUT: true; the input reads as it did. -/
def treeMeetsSpec : ChangeSpec := { name := "treeMeets", fn := fun _ => fun
  | [d1, d2, d3, d4] => { results := [.lit (.bool true)], args := [d1, d2, d3, d4] }
  | _ => none }
def treeMeetsRow : OpenClaim := { program := "yteolfpdkpihnlaa", sum := "06527a54f91e1efd00e7619cc45863825e9fc167a6ef45687edec0f50cd92d3a", func := "virgation/virgationlaw06.TreeMeets", spec := "treeMeets", inPlace := ["internal/abi.NoEscape"], unfollowed := true, recurses := true, loops := true, apart := false }
def TreeMeetsSaid : Prop := treeMeetsRow.holds Try.pinned (OpenSpec.ofChange treeMeetsSpec)

/-- ITS FALSE NEIGHBOUR: 'it returns false'. Refute it at one input. -/
def treeMeetsWrong : ChangeSpec := { name := "treeMeets", fn := fun _ => fun
  | [d1, d2, d3, d4] => { results := [.lit (.bool false)], args := [d1, d2, d3, d4] }
  | _ => none }
def TreeMeetsWrongFalsely : Prop := treeMeetsRow.holds Try.pinned (OpenSpec.ofChange treeMeetsWrong)

/-- 'virgationlaw06.TreeJoins': WHATEVER THE INPUT: true; the input reads as it did. -/
def treeJoinsSpec : ChangeSpec := { name := "treeJoins", fn := fun _ => fun
  | [d1, d2, d3, d4] => { results := [.lit (.bool true)], args := [d1, d2, d3, d4] }
  | _ => none }
def treeJoinsRow : OpenClaim := { program := "yteolfpdkpihnlaa", sum := "06527a54f91e1efd00e7619cc45863825e9fc167a6ef45687edec0f50cd92d3a", func := "virgation/virgationlaw06.TreeJoins", spec := "treeJoins", inPlace := ["internal/abi.NoEscape"], unfollowed := true, recurses := true, loops := true, apart := false }
def TreeJoinsSaid : Prop := treeJoinsRow.holds Try.pinned (OpenSpec.ofChange treeJoinsSpec)

/-- ITS FALSE NEIGHBOUR: 'it returns false'. Refute it at one input. -/
def treeJoinsWrong : ChangeSpec := { name := "treeJoins", fn := fun _ => fun
  | [d1, d2, d3, d4] => { results := [.lit (.bool false)], args := [d1, d2, d3, d4] }
  | _ => none }
def TreeJoinsWrongFalsely : Prop := treeJoinsRow.holds Try.pinned (OpenSpec.ofChange treeJoinsWrong)

/-- 'virgationlaw06.TreeCuts': WHATEVER THE INPUT: true; the input reads as it did. -/
def treeCutsSpec : ChangeSpec := { name := "treeCuts", fn := fun _ => fun
  | [d1, d2, d3, d4] => { results := [.lit (.bool true)], args := [d1, d2, d3, d4] }
  | _ => none }
def treeCutsRow : OpenClaim := { program := "yteolfpdkpihnlaa", sum := "06527a54f91e1efd00e7619cc45863825e9fc167a6ef45687edec0f50cd92d3a", func := "virgation/virgationlaw06.TreeCuts", spec := "treeCuts", inPlace := ["internal/abi.NoEscape"], unfollowed := true, recurses := true, loops := true, apart := false }
def TreeCutsSaid : Prop := treeCutsRow.holds Try.pinned (OpenSpec.ofChange treeCutsSpec)

/-- ITS FALSE NEIGHBOUR: 'it returns false'. Refute it at one input. -/
def treeCutsWrong : ChangeSpec := { name := "treeCuts", fn := fun _ => fun
  | [d1, d2, d3, d4] => { results := [.lit (.bool false)], args := [d1, d2, d3, d4] }
  | _ => none }
def TreeCutsWrongFalsely : Prop := treeCutsRow.holds Try.pinned (OpenSpec.ofChange treeCutsWrong)

/-- 'virgationlaw06.TreeRound': WHATEVER THE INPUT: true; the input reads as it did. -/
def treeRoundSpec : ChangeSpec := { name := "treeRound", fn := fun _ => fun
  | [d1, d2] => { results := [.lit (.bool true)], args := [d1, d2] }
  | _ => none }
def treeRoundRow : OpenClaim := { program := "yteolfpdkpihnlaa", sum := "06527a54f91e1efd00e7619cc45863825e9fc167a6ef45687edec0f50cd92d3a", func := "virgation/virgationlaw06.TreeRound", spec := "treeRound", inPlace := ["internal/abi.NoEscape"], unfollowed := true, recurses := true, loops := true, apart := false }
def TreeRoundSaid : Prop := treeRoundRow.holds Try.pinned (OpenSpec.ofChange treeRoundSpec)

/-- ITS FALSE NEIGHBOUR: 'it returns false'. Refute it at one input. -/
def treeRoundWrong : ChangeSpec := { name := "treeRound", fn := fun _ => fun
  | [d1, d2] => { results := [.lit (.bool false)], args := [d1, d2] }
  | _ => none }
def TreeRoundWrongFalsely : Prop := treeRoundRow.holds Try.pinned (OpenSpec.ofChange treeRoundWrong)

/-- 'virgationlaw06.TreeOwn': WHATEVER THE INPUT: true; the input reads as it did. -/
def treeOwnSpec : ChangeSpec := { name := "treeOwn", fn := fun _ => fun
  | [d1, d2, d3, d4, d5] => { results := [.lit (.bool true)], args := [d1, d2, d3, d4, d5] }
  | _ => none }
def treeOwnRow : OpenClaim := { program := "yteolfpdkpihnlaa", sum := "06527a54f91e1efd00e7619cc45863825e9fc167a6ef45687edec0f50cd92d3a", func := "virgation/virgationlaw06.TreeOwn", spec := "treeOwn", inPlace := ["internal/abi.NoEscape"], unfollowed := true, recurses := true, loops := true, apart := false }
def TreeOwnSaid : Prop := treeOwnRow.holds Try.pinned (OpenSpec.ofChange treeOwnSpec)

/-- ITS FALSE NEIGHBOUR: 'it returns false'. Refute it at one input. -/
def treeOwnWrong : ChangeSpec := { name := "treeOwn", fn := fun _ => fun
  | [d1, d2, d3, d4, d5] => { results := [.lit (.bool false)], args := [d1, d2, d3, d4, d5] }
  | _ => none }
def TreeOwnWrongFalsely : Prop := treeOwnRow.holds Try.pinned (OpenSpec.ofChange treeOwnWrong)

/- THE SECOND FORM. 'bulk': how many values and letters a reading holds, each counted each time it is reached (what is shared counts as often as it is met; a slice's spare places count too). A statement '..UptoSaid' is the law's where the arguments, and the package variables that the reading takes, are together of bulk at most 1048576: NARROWER than '..Said'. Prove '..Said' where nothing that the law and all that it calls make is longer than what came in: it says more and counts as full. Else prove '..UptoSaid'. A law counts once. -/
mutual
def uptoBulk {H : Type} : DataW H → Nat
  | .lit (.string bytes) => bytes.length + 1
  | .lit _ => 1
  | .nil => 1
  | .ptr d => uptoBulk d + 1
  | .slice elems spare => uptoBulkAll elems + uptoBulkAll spare + 1
  | .agg parts => uptoBulkAll parts + 1
  | .iface _ d => uptoBulk d + 1
  | .map entries => uptoBulkEntries entries + 1
  | .held _ => 1
def uptoBulkAll {H : Type} : List (DataW H) → Nat
  | [] => 0
  | d :: r => uptoBulk d + uptoBulkAll r
def uptoBulkEntries {H : Type} : List (Lit × DataW H) → Nat
  | [] => 0
  | x :: r => uptoBulkEntry x + uptoBulkEntries r
def uptoBulkEntry {H : Type} : Lit × DataW H → Nat
  | (.string bytes, d) => bytes.length + uptoBulk d + 1
  | (_, d) => uptoBulk d + 1
 end
def uptoSmall : (H : Type) → List (DataW H) → Bool := fun _ ds => decide (uptoBulkAll ds ≤ 1048576)
def OpenSpec.upto (s : _root_.Go.ChangeSpec) : _root_.Go.OpenSpec := { _root_.Go.OpenSpec.ofChange s with cond := some uptoSmall }

/-- 'virgationlaw06.TreeCheck', WHERE WHAT IT READS IS OF BULK AT MOST 1048576: true; the input reads as it did. -/
def treeCheckUptoRow : OpenClaim := { program := "yteolfpdkpihnlaa", sum := "06527a54f91e1efd00e7619cc45863825e9fc167a6ef45687edec0f50cd92d3a", func := "virgation/virgationlaw06.TreeCheck", spec := "treeCheck", inPlace := ["internal/abi.NoEscape"], unfollowed := true, recurses := true, loops := true, apart := false, narrowed := true }
def TreeCheckUptoSaid : Prop := treeCheckUptoRow.holds Try.pinned (OpenSpec.upto treeCheckSpec)

/-- 'virgationlaw06.TreeSame', WHERE WHAT IT READS IS OF BULK AT MOST 1048576: true; the input reads as it did. -/
def treeSameUptoRow : OpenClaim := { program := "yteolfpdkpihnlaa", sum := "06527a54f91e1efd00e7619cc45863825e9fc167a6ef45687edec0f50cd92d3a", func := "virgation/virgationlaw06.TreeSame", spec := "treeSame", inPlace := ["internal/abi.NoEscape"], unfollowed := true, recurses := true, loops := true, apart := false, narrowed := true }
def TreeSameUptoSaid : Prop := treeSameUptoRow.holds Try.pinned (OpenSpec.upto treeSameSpec)

/-- 'virgationlaw06.TreeAtLeast', WHERE WHAT IT READS IS OF BULK AT MOST 1048576: true; the input reads as it did. -/
def treeAtLeastUptoRow : OpenClaim := { program := "yteolfpdkpihnlaa", sum := "06527a54f91e1efd00e7619cc45863825e9fc167a6ef45687edec0f50cd92d3a", func := "virgation/virgationlaw06.TreeAtLeast", spec := "treeAtLeast", inPlace := ["internal/abi.NoEscape"], unfollowed := true, recurses := true, loops := true, apart := false, narrowed := true }
def TreeAtLeastUptoSaid : Prop := treeAtLeastUptoRow.holds Try.pinned (OpenSpec.upto treeAtLeastSpec)

/-- 'virgationlaw06.TreeMeet', WHERE WHAT IT READS IS OF BULK AT MOST 1048576: true; the input reads as it did. -/
def treeMeetUptoRow : OpenClaim := { program := "yteolfpdkpihnlaa", sum := "06527a54f91e1efd00e7619cc45863825e9fc167a6ef45687edec0f50cd92d3a", func := "virgation/virgationlaw06.TreeMeet", spec := "treeMeet", inPlace := ["internal/abi.NoEscape"], unfollowed := true, recurses := true, loops := true, apart := false, narrowed := true }
def TreeMeetUptoSaid : Prop := treeMeetUptoRow.holds Try.pinned (OpenSpec.upto treeMeetSpec)

/-- 'virgationlaw06.TreeJoin', WHERE WHAT IT READS IS OF BULK AT MOST 1048576: true; the input reads as it did. -/
def treeJoinUptoRow : OpenClaim := { program := "yteolfpdkpihnlaa", sum := "06527a54f91e1efd00e7619cc45863825e9fc167a6ef45687edec0f50cd92d3a", func := "virgation/virgationlaw06.TreeJoin", spec := "treeJoin", inPlace := ["internal/abi.NoEscape"], unfollowed := true, recurses := true, loops := true, apart := false, narrowed := true }
def TreeJoinUptoSaid : Prop := treeJoinUptoRow.holds Try.pinned (OpenSpec.upto treeJoinSpec)

/-- 'virgationlaw06.TreeCut', WHERE WHAT IT READS IS OF BULK AT MOST 1048576: true; the input reads as it did. -/
def treeCutUptoRow : OpenClaim := { program := "yteolfpdkpihnlaa", sum := "06527a54f91e1efd00e7619cc45863825e9fc167a6ef45687edec0f50cd92d3a", func := "virgation/virgationlaw06.TreeCut", spec := "treeCut", inPlace := ["internal/abi.NoEscape"], unfollowed := true, recurses := true, loops := true, apart := false, narrowed := true }
def TreeCutUptoSaid : Prop := treeCutUptoRow.holds Try.pinned (OpenSpec.upto treeCutSpec)

/-- 'virgationlaw06.TreeAt', WHERE WHAT IT READS IS OF BULK AT MOST 1048576: true; the input reads as it did. -/
def treeAtUptoRow : OpenClaim := { program := "yteolfpdkpihnlaa", sum := "06527a54f91e1efd00e7619cc45863825e9fc167a6ef45687edec0f50cd92d3a", func := "virgation/virgationlaw06.TreeAt", spec := "treeAt", inPlace := ["internal/abi.NoEscape"], unfollowed := true, recurses := true, loops := true, apart := false, narrowed := true }
def TreeAtUptoSaid : Prop := treeAtUptoRow.holds Try.pinned (OpenSpec.upto treeAtSpec)

/-- 'virgationlaw06.TreePut', WHERE WHAT IT READS IS OF BULK AT MOST 1048576: true; the input reads as it did. -/
def treePutUptoRow : OpenClaim := { program := "yteolfpdkpihnlaa", sum := "06527a54f91e1efd00e7619cc45863825e9fc167a6ef45687edec0f50cd92d3a", func := "virgation/virgationlaw06.TreePut", spec := "treePut", inPlace := ["internal/abi.NoEscape"], unfollowed := true, recurses := true, loops := true, apart := false, narrowed := true }
def TreePutUptoSaid : Prop := treePutUptoRow.holds Try.pinned (OpenSpec.upto treePutSpec)

/-- 'virgationlaw06.TreeGet', WHERE WHAT IT READS IS OF BULK AT MOST 1048576: true; the input reads as it did. -/
def treeGetUptoRow : OpenClaim := { program := "yteolfpdkpihnlaa", sum := "06527a54f91e1efd00e7619cc45863825e9fc167a6ef45687edec0f50cd92d3a", func := "virgation/virgationlaw06.TreeGet", spec := "treeGet", inPlace := ["internal/abi.NoEscape"], unfollowed := true, recurses := true, apart := false, narrowed := true }
def TreeGetUptoSaid : Prop := treeGetUptoRow.holds Try.pinned (OpenSpec.upto treeGetSpec)

/-- 'virgationlaw06.TreeOrder', WHERE WHAT IT READS IS OF BULK AT MOST 1048576: true; the input reads as it did. -/
def treeOrderUptoRow : OpenClaim := { program := "yteolfpdkpihnlaa", sum := "06527a54f91e1efd00e7619cc45863825e9fc167a6ef45687edec0f50cd92d3a", func := "virgation/virgationlaw06.TreeOrder", spec := "treeOrder", inPlace := ["internal/abi.NoEscape"], unfollowed := true, recurses := true, loops := true, apart := false, narrowed := true }
def TreeOrderUptoSaid : Prop := treeOrderUptoRow.holds Try.pinned (OpenSpec.upto treeOrderSpec)

/-- 'virgationlaw06.TreeMeets', WHERE WHAT IT READS IS OF BULK AT MOST 1048576: true; the input reads as it did. -/
def treeMeetsUptoRow : OpenClaim := { program := "yteolfpdkpihnlaa", sum := "06527a54f91e1efd00e7619cc45863825e9fc167a6ef45687edec0f50cd92d3a", func := "virgation/virgationlaw06.TreeMeets", spec := "treeMeets", inPlace := ["internal/abi.NoEscape"], unfollowed := true, recurses := true, loops := true, apart := false, narrowed := true }
def TreeMeetsUptoSaid : Prop := treeMeetsUptoRow.holds Try.pinned (OpenSpec.upto treeMeetsSpec)

/-- 'virgationlaw06.TreeJoins', WHERE WHAT IT READS IS OF BULK AT MOST 1048576: true; the input reads as it did. -/
def treeJoinsUptoRow : OpenClaim := { program := "yteolfpdkpihnlaa", sum := "06527a54f91e1efd00e7619cc45863825e9fc167a6ef45687edec0f50cd92d3a", func := "virgation/virgationlaw06.TreeJoins", spec := "treeJoins", inPlace := ["internal/abi.NoEscape"], unfollowed := true, recurses := true, loops := true, apart := false, narrowed := true }
def TreeJoinsUptoSaid : Prop := treeJoinsUptoRow.holds Try.pinned (OpenSpec.upto treeJoinsSpec)

/-- 'virgationlaw06.TreeCuts', WHERE WHAT IT READS IS OF BULK AT MOST 1048576: true; the input reads as it did. -/
def treeCutsUptoRow : OpenClaim := { program := "yteolfpdkpihnlaa", sum := "06527a54f91e1efd00e7619cc45863825e9fc167a6ef45687edec0f50cd92d3a", func := "virgation/virgationlaw06.TreeCuts", spec := "treeCuts", inPlace := ["internal/abi.NoEscape"], unfollowed := true, recurses := true, loops := true, apart := false, narrowed := true }
def TreeCutsUptoSaid : Prop := treeCutsUptoRow.holds Try.pinned (OpenSpec.upto treeCutsSpec)

/-- 'virgationlaw06.TreeRound', WHERE WHAT IT READS IS OF BULK AT MOST 1048576: true; the input reads as it did. -/
def treeRoundUptoRow : OpenClaim := { program := "yteolfpdkpihnlaa", sum := "06527a54f91e1efd00e7619cc45863825e9fc167a6ef45687edec0f50cd92d3a", func := "virgation/virgationlaw06.TreeRound", spec := "treeRound", inPlace := ["internal/abi.NoEscape"], unfollowed := true, recurses := true, loops := true, apart := false, narrowed := true }
def TreeRoundUptoSaid : Prop := treeRoundUptoRow.holds Try.pinned (OpenSpec.upto treeRoundSpec)

/-- 'virgationlaw06.TreeOwn', WHERE WHAT IT READS IS OF BULK AT MOST 1048576: true; the input reads as it did. -/
def treeOwnUptoRow : OpenClaim := { program := "yteolfpdkpihnlaa", sum := "06527a54f91e1efd00e7619cc45863825e9fc167a6ef45687edec0f50cd92d3a", func := "virgation/virgationlaw06.TreeOwn", spec := "treeOwn", inPlace := ["internal/abi.NoEscape"], unfollowed := true, recurses := true, loops := true, apart := false, narrowed := true }
def TreeOwnUptoSaid : Prop := treeOwnUptoRow.holds Try.pinned (OpenSpec.upto treeOwnSpec)

end Rows
end Go.Proofs.Yteolfpdkpihnlaa
