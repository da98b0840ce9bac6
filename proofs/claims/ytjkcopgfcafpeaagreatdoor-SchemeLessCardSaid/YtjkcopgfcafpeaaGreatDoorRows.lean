/-
  NARROWER THAN 'FOR EVERY INPUT', by the rows' own cells (each row's printed sentence says how): SchemeCheck: loops, laid · SchemeSame: loops, laid · SchemeOrder: loops, laid · SchemeReach: loops, laid · SchemePut: loops, laid · SchemeGet: laid · SchemeRound: loops, laid · SchemeTexts: laid · SchemeBodies: loops, laid · SchemeLess: loops, laid · SchemeOwn: loops, laid.
  DERIVED. THE GIVEN ROWS OF THIS SEAT. 11 by the template 'for every input the law returns true; each argument reads behind the call as it read before'; 0 by the template 'total and deterministic' (their statements: YtjkcopgfcafpeaaGreatDoorTotals.lean).
  GIVEN WITH THE SEED: the statements are not yours to turn. If you find one false, say at which input.
  Laid BY PROGRAM, IN A SANDBOX (cutbox-rows.mjs): the forced cells as the released guide's own fill.sh prints them over the translation d22c8d639be4be0d… (all of the seat's roots in one cut). By AI agents, Wed Nov 11 2026. No macro, syntax, notation, axiom, sorry.
-/
import Derived.Test.YtjkcopgfcafpeaaGreatDoorChecked
import GoSem.Claim
import GoSem.ClaimJoined
import GoSem.ClaimMapViews
import Derived.JoinedTies
import Derived.KernelRfl
namespace Go.Proofs.YtjkcopgfcafpeaaGreatDoor
/- THE CELL 'sum', in the pinned program and in every row, IS THE sha256 OF THE DUMP (.gsa) THAT YtjkcopgfcafpeaaGreatDoorProg.lean LOADS. Nothing in Lean hashes anything: it is a label: what it is worth is what the hold of that sum in a sandbox is worth. -/
noncomputable def Tryz.pinned : Pinned := { name := "ytjkcopgfcafpeaagreatdoor", sum := "d22c8d639be4be0db7383b91f93d8594102c91d5cf9d8ab7e2bfd36b47ec46d9", checked := Tryz.checked }
namespace Rows
def none {H : Type} : Left H := { results := [], args := [] }

/- WHAT THE LISTED PACKAGE-LEVEL VARIABLES READ AS WHEN THE CALL BEGINS. Each datum BY PROGRAM (the guide's laid-datum.mjs) off the statement by which the dump's own 'gosem.cut.vars' lays the variable. In a bare row this is a premise. The card (YtjkcopgfcafpeaaGreatDoorCards.lean) ties it to the program's text. -/
def laid_math_bits_deBruijn32tab {H : Type} : DataW H := .agg [.lit (.int .u8 0), .lit (.int .u8 1), .lit (.int .u8 28), .lit (.int .u8 2), .lit (.int .u8 29), .lit (.int .u8 14), .lit (.int .u8 24), .lit (.int .u8 3), .lit (.int .u8 30), .lit (.int .u8 22), .lit (.int .u8 20), .lit (.int .u8 15), .lit (.int .u8 25), .lit (.int .u8 17), .lit (.int .u8 4), .lit (.int .u8 8), .lit (.int .u8 31), .lit (.int .u8 27), .lit (.int .u8 13), .lit (.int .u8 23), .lit (.int .u8 21), .lit (.int .u8 19), .lit (.int .u8 16), .lit (.int .u8 7), .lit (.int .u8 26), .lit (.int .u8 12), .lit (.int .u8 18), .lit (.int .u8 6), .lit (.int .u8 11), .lit (.int .u8 5), .lit (.int .u8 10), .lit (.int .u8 9)]
def laid_math_bits_deBruijn64tab {H : Type} : DataW H := .agg [.lit (.int .u8 0), .lit (.int .u8 1), .lit (.int .u8 56), .lit (.int .u8 2), .lit (.int .u8 57), .lit (.int .u8 49), .lit (.int .u8 28), .lit (.int .u8 3), .lit (.int .u8 61), .lit (.int .u8 58), .lit (.int .u8 42), .lit (.int .u8 50), .lit (.int .u8 38), .lit (.int .u8 29), .lit (.int .u8 17), .lit (.int .u8 4), .lit (.int .u8 62), .lit (.int .u8 47), .lit (.int .u8 59), .lit (.int .u8 36), .lit (.int .u8 45), .lit (.int .u8 43), .lit (.int .u8 51), .lit (.int .u8 22), .lit (.int .u8 53), .lit (.int .u8 39), .lit (.int .u8 33), .lit (.int .u8 30), .lit (.int .u8 24), .lit (.int .u8 18), .lit (.int .u8 12), .lit (.int .u8 5), .lit (.int .u8 63), .lit (.int .u8 55), .lit (.int .u8 48), .lit (.int .u8 27), .lit (.int .u8 60), .lit (.int .u8 41), .lit (.int .u8 37), .lit (.int .u8 16), .lit (.int .u8 46), .lit (.int .u8 35), .lit (.int .u8 44), .lit (.int .u8 21), .lit (.int .u8 52), .lit (.int .u8 32), .lit (.int .u8 23), .lit (.int .u8 11), .lit (.int .u8 54), .lit (.int .u8 26), .lit (.int .u8 40), .lit (.int .u8 15), .lit (.int .u8 34), .lit (.int .u8 20), .lit (.int .u8 31), .lit (.int .u8 10), .lit (.int .u8 25), .lit (.int .u8 14), .lit (.int .u8 19), .lit (.int .u8 9), .lit (.int .u8 13), .lit (.int .u8 8), .lit (.int .u8 7), .lit (.int .u8 6)]
def laid_internal_strconv_uint64pow10 {H : Type} : DataW H := .agg [.lit (.int .u64 1), .lit (.int .u64 10), .lit (.int .u64 100), .lit (.int .u64 1000), .lit (.int .u64 10000), .lit (.int .u64 100000), .lit (.int .u64 1000000), .lit (.int .u64 10000000), .lit (.int .u64 100000000), .lit (.int .u64 1000000000), .lit (.int .u64 10000000000), .lit (.int .u64 100000000000), .lit (.int .u64 1000000000000), .lit (.int .u64 10000000000000), .lit (.int .u64 100000000000000), .lit (.int .u64 1000000000000000), .lit (.int .u64 10000000000000000), .lit (.int .u64 100000000000000000), .lit (.int .u64 1000000000000000000), .lit (.int .u64 10000000000000000000)]
def laid_strconv_ErrRange {H : Type} : DataW H := .iface "*errors.errorString" (.ptr (.agg [.lit (.string [118, 97, 108, 117, 101, 32, 111, 117, 116, 32, 111, 102, 32, 114, 97, 110, 103, 101])]))
def laid_strconv_ErrSyntax {H : Type} : DataW H := .iface "*errors.errorString" (.ptr (.agg [.lit (.string [105, 110, 118, 97, 108, 105, 100, 32, 115, 121, 110, 116, 97, 120])]))

/-- 'virgationlaw03.SchemeCheck': WHATEVER THE INPUT: true; the input reads as it did. -/
def schemeCheckSpec : ChangeSpec := { name := "schemeCheck", fn := fun _ => fun
  | [d] => { results := [.lit (.bool true)], args := [d] }
  | _ => none }
def schemeCheckRow : OpenClaim := { program := "ytjkcopgfcafpeaagreatdoor", sum := "d22c8d639be4be0db7383b91f93d8594102c91d5cf9d8ab7e2bfd36b47ec46d9", func := "virgation/virgationlaw03.SchemeCheck", spec := "schemeCheck", inPlace := ["internal/bytealg.IndexByteString", "internal/bytealg.IndexString", "internal/abi.NoEscape"], unfollowed := true, recurses := true, named := ["strconv.ErrSyntax", "strconv.ErrRange", "internal/strconv.uint64pow10", "math/bits.deBruijn32tab", "math/bits.deBruijn64tab", "internal/bytealg.MaxLen"], loops := true, apart := false, laid := [("math/bits.deBruijn32tab", laid_math_bits_deBruijn32tab), ("math/bits.deBruijn64tab", laid_math_bits_deBruijn64tab), ("internal/strconv.uint64pow10", laid_internal_strconv_uint64pow10), ("strconv.ErrRange", laid_strconv_ErrRange), ("strconv.ErrSyntax", laid_strconv_ErrSyntax)] }
def SchemeCheckSaid : Prop := schemeCheckRow.holds Tryz.pinned (OpenSpec.ofChange schemeCheckSpec)

/-- ITS FALSE NEIGHBOUR: 'it returns false'. Refute it at one input. -/
def schemeCheckWrong : ChangeSpec := { name := "schemeCheck", fn := fun _ => fun
  | [d] => { results := [.lit (.bool false)], args := [d] }
  | _ => none }
def SchemeCheckWrongFalsely : Prop := schemeCheckRow.holds Tryz.pinned (OpenSpec.ofChange schemeCheckWrong)

/-- 'virgationlaw03.SchemeSame': WHATEVER THE INPUT: true; the input reads as it did. -/
def schemeSameSpec : ChangeSpec := { name := "schemeSame", fn := fun _ => fun
  | [d1, d2] => { results := [.lit (.bool true)], args := [d1, d2] }
  | _ => none }
def schemeSameRow : OpenClaim := { program := "ytjkcopgfcafpeaagreatdoor", sum := "d22c8d639be4be0db7383b91f93d8594102c91d5cf9d8ab7e2bfd36b47ec46d9", func := "virgation/virgationlaw03.SchemeSame", spec := "schemeSame", inPlace := ["internal/bytealg.IndexByteString", "internal/bytealg.IndexString", "internal/abi.NoEscape"], unfollowed := true, recurses := true, named := ["strconv.ErrSyntax", "strconv.ErrRange", "internal/strconv.uint64pow10", "math/bits.deBruijn32tab", "math/bits.deBruijn64tab", "internal/bytealg.MaxLen"], loops := true, apart := false, laid := [("math/bits.deBruijn32tab", laid_math_bits_deBruijn32tab), ("math/bits.deBruijn64tab", laid_math_bits_deBruijn64tab), ("internal/strconv.uint64pow10", laid_internal_strconv_uint64pow10), ("strconv.ErrRange", laid_strconv_ErrRange), ("strconv.ErrSyntax", laid_strconv_ErrSyntax)] }
def SchemeSameSaid : Prop := schemeSameRow.holds Tryz.pinned (OpenSpec.ofChange schemeSameSpec)

/-- ITS FALSE NEIGHBOUR: 'it returns false'. Refute it at one input. -/
def schemeSameWrong : ChangeSpec := { name := "schemeSame", fn := fun _ => fun
  | [d1, d2] => { results := [.lit (.bool false)], args := [d1, d2] }
  | _ => none }
def SchemeSameWrongFalsely : Prop := schemeSameRow.holds Tryz.pinned (OpenSpec.ofChange schemeSameWrong)

/-- 'virgationlaw03.SchemeOrder': WHATEVER THE INPUT: true; the input reads as it did. -/
def schemeOrderSpec : ChangeSpec := { name := "schemeOrder", fn := fun _ => fun
  | [d] => { results := [.lit (.bool true)], args := [d] }
  | _ => none }
def schemeOrderRow : OpenClaim := { program := "ytjkcopgfcafpeaagreatdoor", sum := "d22c8d639be4be0db7383b91f93d8594102c91d5cf9d8ab7e2bfd36b47ec46d9", func := "virgation/virgationlaw03.SchemeOrder", spec := "schemeOrder", inPlace := ["internal/bytealg.IndexByteString", "internal/bytealg.IndexString", "internal/abi.NoEscape"], unfollowed := true, recurses := true, named := ["strconv.ErrSyntax", "strconv.ErrRange", "internal/strconv.uint64pow10", "math/bits.deBruijn32tab", "math/bits.deBruijn64tab", "internal/bytealg.MaxLen"], loops := true, apart := false, laid := [("math/bits.deBruijn32tab", laid_math_bits_deBruijn32tab), ("math/bits.deBruijn64tab", laid_math_bits_deBruijn64tab), ("internal/strconv.uint64pow10", laid_internal_strconv_uint64pow10), ("strconv.ErrRange", laid_strconv_ErrRange), ("strconv.ErrSyntax", laid_strconv_ErrSyntax)] }
def SchemeOrderSaid : Prop := schemeOrderRow.holds Tryz.pinned (OpenSpec.ofChange schemeOrderSpec)

/-- ITS FALSE NEIGHBOUR: 'it returns false'. Refute it at one input. -/
def schemeOrderWrong : ChangeSpec := { name := "schemeOrder", fn := fun _ => fun
  | [d] => { results := [.lit (.bool false)], args := [d] }
  | _ => none }
def SchemeOrderWrongFalsely : Prop := schemeOrderRow.holds Tryz.pinned (OpenSpec.ofChange schemeOrderWrong)

/-- 'virgationlaw03.SchemeReach': WHATEVER THE INPUT: true; the input reads as it did. -/
def schemeReachSpec : ChangeSpec := { name := "schemeReach", fn := fun _ => fun
  | [d] => { results := [.lit (.bool true)], args := [d] }
  | _ => none }
def schemeReachRow : OpenClaim := { program := "ytjkcopgfcafpeaagreatdoor", sum := "d22c8d639be4be0db7383b91f93d8594102c91d5cf9d8ab7e2bfd36b47ec46d9", func := "virgation/virgationlaw03.SchemeReach", spec := "schemeReach", inPlace := ["internal/bytealg.IndexByteString", "internal/bytealg.IndexString", "internal/abi.NoEscape"], unfollowed := true, recurses := true, named := ["strconv.ErrSyntax", "strconv.ErrRange", "internal/strconv.uint64pow10", "math/bits.deBruijn32tab", "math/bits.deBruijn64tab", "internal/bytealg.MaxLen"], loops := true, apart := false, laid := [("math/bits.deBruijn32tab", laid_math_bits_deBruijn32tab), ("math/bits.deBruijn64tab", laid_math_bits_deBruijn64tab), ("internal/strconv.uint64pow10", laid_internal_strconv_uint64pow10), ("strconv.ErrRange", laid_strconv_ErrRange), ("strconv.ErrSyntax", laid_strconv_ErrSyntax)] }
def SchemeReachSaid : Prop := schemeReachRow.holds Tryz.pinned (OpenSpec.ofChange schemeReachSpec)

/-- ITS FALSE NEIGHBOUR: 'it returns false'. Refute it at one input. -/
def schemeReachWrong : ChangeSpec := { name := "schemeReach", fn := fun _ => fun
  | [d] => { results := [.lit (.bool false)], args := [d] }
  | _ => none }
def SchemeReachWrongFalsely : Prop := schemeReachRow.holds Tryz.pinned (OpenSpec.ofChange schemeReachWrong)

/-- 'virgationlaw03.SchemePut': WHATEVER THE INPUT: true; the input reads as it did. -/
def schemePutSpec : ChangeSpec := { name := "schemePut", fn := fun _ => fun
  | [d] => { results := [.lit (.bool true)], args := [d] }
  | _ => none }
def schemePutRow : OpenClaim := { program := "ytjkcopgfcafpeaagreatdoor", sum := "d22c8d639be4be0db7383b91f93d8594102c91d5cf9d8ab7e2bfd36b47ec46d9", func := "virgation/virgationlaw03.SchemePut", spec := "schemePut", inPlace := ["internal/abi.NoEscape", "internal/bytealg.IndexByteString", "internal/bytealg.IndexString"], unfollowed := true, recurses := true, named := ["internal/strconv.uint64pow10", "math/bits.deBruijn32tab", "math/bits.deBruijn64tab", "strconv.ErrSyntax", "strconv.ErrRange", "internal/bytealg.MaxLen"], loops := true, apart := false, laid := [("math/bits.deBruijn32tab", laid_math_bits_deBruijn32tab), ("math/bits.deBruijn64tab", laid_math_bits_deBruijn64tab), ("internal/strconv.uint64pow10", laid_internal_strconv_uint64pow10), ("strconv.ErrRange", laid_strconv_ErrRange), ("strconv.ErrSyntax", laid_strconv_ErrSyntax)] }
def SchemePutSaid : Prop := schemePutRow.holds Tryz.pinned (OpenSpec.ofChange schemePutSpec)

/-- ITS FALSE NEIGHBOUR: 'it returns false'. Refute it at one input. -/
def schemePutWrong : ChangeSpec := { name := "schemePut", fn := fun _ => fun
  | [d] => { results := [.lit (.bool false)], args := [d] }
  | _ => none }
def SchemePutWrongFalsely : Prop := schemePutRow.holds Tryz.pinned (OpenSpec.ofChange schemePutWrong)

/-- 'virgationlaw03.SchemeGet': WHATEVER THE INPUT: true; the input reads as it did. -/
def schemeGetSpec : ChangeSpec := { name := "schemeGet", fn := fun _ => fun
  | [d] => { results := [.lit (.bool true)], args := [d] }
  | _ => none }
def schemeGetRow : OpenClaim := { program := "ytjkcopgfcafpeaagreatdoor", sum := "d22c8d639be4be0db7383b91f93d8594102c91d5cf9d8ab7e2bfd36b47ec46d9", func := "virgation/virgationlaw03.SchemeGet", spec := "schemeGet", inPlace := ["internal/bytealg.IndexByteString", "internal/bytealg.IndexString", "internal/abi.NoEscape"], unfollowed := true, recurses := true, named := ["strconv.ErrSyntax", "strconv.ErrRange", "internal/strconv.uint64pow10", "math/bits.deBruijn32tab", "math/bits.deBruijn64tab", "internal/bytealg.MaxLen"], apart := false, laid := [("math/bits.deBruijn32tab", laid_math_bits_deBruijn32tab), ("math/bits.deBruijn64tab", laid_math_bits_deBruijn64tab), ("internal/strconv.uint64pow10", laid_internal_strconv_uint64pow10), ("strconv.ErrRange", laid_strconv_ErrRange), ("strconv.ErrSyntax", laid_strconv_ErrSyntax)] }
def SchemeGetSaid : Prop := schemeGetRow.holds Tryz.pinned (OpenSpec.ofChange schemeGetSpec)

/-- ITS FALSE NEIGHBOUR: 'it returns false'. Refute it at one input. -/
def schemeGetWrong : ChangeSpec := { name := "schemeGet", fn := fun _ => fun
  | [d] => { results := [.lit (.bool false)], args := [d] }
  | _ => none }
def SchemeGetWrongFalsely : Prop := schemeGetRow.holds Tryz.pinned (OpenSpec.ofChange schemeGetWrong)

/-- 'virgationlaw03.SchemeRound': WHATEVER THE INPUT: true; the input reads as it did. -/
def schemeRoundSpec : ChangeSpec := { name := "schemeRound", fn := fun _ => fun
  | [d] => { results := [.lit (.bool true)], args := [d] }
  | _ => none }
def schemeRoundRow : OpenClaim := { program := "ytjkcopgfcafpeaagreatdoor", sum := "d22c8d639be4be0db7383b91f93d8594102c91d5cf9d8ab7e2bfd36b47ec46d9", func := "virgation/virgationlaw03.SchemeRound", spec := "schemeRound", inPlace := ["internal/bytealg.IndexByteString", "internal/bytealg.IndexString", "internal/abi.NoEscape"], unfollowed := true, recurses := true, named := ["strconv.ErrSyntax", "strconv.ErrRange", "internal/strconv.uint64pow10", "math/bits.deBruijn32tab", "math/bits.deBruijn64tab", "internal/bytealg.MaxLen"], loops := true, apart := false, laid := [("math/bits.deBruijn32tab", laid_math_bits_deBruijn32tab), ("math/bits.deBruijn64tab", laid_math_bits_deBruijn64tab), ("internal/strconv.uint64pow10", laid_internal_strconv_uint64pow10), ("strconv.ErrRange", laid_strconv_ErrRange), ("strconv.ErrSyntax", laid_strconv_ErrSyntax)] }
def SchemeRoundSaid : Prop := schemeRoundRow.holds Tryz.pinned (OpenSpec.ofChange schemeRoundSpec)

/-- ITS FALSE NEIGHBOUR: 'it returns false'. Refute it at one input. -/
def schemeRoundWrong : ChangeSpec := { name := "schemeRound", fn := fun _ => fun
  | [d] => { results := [.lit (.bool false)], args := [d] }
  | _ => none }
def SchemeRoundWrongFalsely : Prop := schemeRoundRow.holds Tryz.pinned (OpenSpec.ofChange schemeRoundWrong)

/-- 'virgationlaw03.SchemeTexts': WHATEVER THE INPUT: true; the input reads as it did. -/
def schemeTextsSpec : ChangeSpec := { name := "schemeTexts", fn := fun _ => fun
  | [d] => { results := [.lit (.bool true)], args := [d] }
  | _ => none }
def schemeTextsRow : OpenClaim := { program := "ytjkcopgfcafpeaagreatdoor", sum := "d22c8d639be4be0db7383b91f93d8594102c91d5cf9d8ab7e2bfd36b47ec46d9", func := "virgation/virgationlaw03.SchemeTexts", spec := "schemeTexts", inPlace := ["internal/bytealg.IndexByteString", "internal/bytealg.IndexString", "internal/abi.NoEscape"], unfollowed := true, recurses := true, named := ["strconv.ErrSyntax", "strconv.ErrRange", "internal/strconv.uint64pow10", "math/bits.deBruijn32tab", "math/bits.deBruijn64tab", "internal/bytealg.MaxLen"], apart := false, laid := [("math/bits.deBruijn32tab", laid_math_bits_deBruijn32tab), ("math/bits.deBruijn64tab", laid_math_bits_deBruijn64tab), ("internal/strconv.uint64pow10", laid_internal_strconv_uint64pow10), ("strconv.ErrRange", laid_strconv_ErrRange), ("strconv.ErrSyntax", laid_strconv_ErrSyntax)] }
def SchemeTextsSaid : Prop := schemeTextsRow.holds Tryz.pinned (OpenSpec.ofChange schemeTextsSpec)

/-- ITS FALSE NEIGHBOUR: 'it returns false'. Refute it at one input. -/
def schemeTextsWrong : ChangeSpec := { name := "schemeTexts", fn := fun _ => fun
  | [d] => { results := [.lit (.bool false)], args := [d] }
  | _ => none }
def SchemeTextsWrongFalsely : Prop := schemeTextsRow.holds Tryz.pinned (OpenSpec.ofChange schemeTextsWrong)

/-- 'virgationlaw03.SchemeBodies': WHATEVER THE INPUT: true; the input reads as it did. -/
def schemeBodiesSpec : ChangeSpec := { name := "schemeBodies", fn := fun _ => fun
  | [d] => { results := [.lit (.bool true)], args := [d] }
  | _ => none }
def schemeBodiesRow : OpenClaim := { program := "ytjkcopgfcafpeaagreatdoor", sum := "d22c8d639be4be0db7383b91f93d8594102c91d5cf9d8ab7e2bfd36b47ec46d9", func := "virgation/virgationlaw03.SchemeBodies", spec := "schemeBodies", inPlace := ["internal/bytealg.IndexByteString", "internal/bytealg.IndexString", "internal/abi.NoEscape"], unfollowed := true, recurses := true, named := ["strconv.ErrSyntax", "strconv.ErrRange", "internal/strconv.uint64pow10", "math/bits.deBruijn32tab", "math/bits.deBruijn64tab", "internal/bytealg.MaxLen"], loops := true, apart := false, laid := [("math/bits.deBruijn32tab", laid_math_bits_deBruijn32tab), ("math/bits.deBruijn64tab", laid_math_bits_deBruijn64tab), ("internal/strconv.uint64pow10", laid_internal_strconv_uint64pow10), ("strconv.ErrRange", laid_strconv_ErrRange), ("strconv.ErrSyntax", laid_strconv_ErrSyntax)] }
def SchemeBodiesSaid : Prop := schemeBodiesRow.holds Tryz.pinned (OpenSpec.ofChange schemeBodiesSpec)

/-- ITS FALSE NEIGHBOUR: 'it returns false'. Refute it at one input. -/
def schemeBodiesWrong : ChangeSpec := { name := "schemeBodies", fn := fun _ => fun
  | [d] => { results := [.lit (.bool false)], args := [d] }
  | _ => none }
def SchemeBodiesWrongFalsely : Prop := schemeBodiesRow.holds Tryz.pinned (OpenSpec.ofChange schemeBodiesWrong)

/-- 'virgationlaw03.SchemeLess': WHATEVER THE INPUT: true; the input reads as it did. -/
def schemeLessSpec : ChangeSpec := { name := "schemeLess", fn := fun _ => fun
  | [d] => { results := [.lit (.bool true)], args := [d] }
  | _ => none }
def schemeLessRow : OpenClaim := { program := "ytjkcopgfcafpeaagreatdoor", sum := "d22c8d639be4be0db7383b91f93d8594102c91d5cf9d8ab7e2bfd36b47ec46d9", func := "virgation/virgationlaw03.SchemeLess", spec := "schemeLess", inPlace := ["internal/bytealg.IndexByteString", "internal/bytealg.IndexString", "internal/abi.NoEscape"], unfollowed := true, recurses := true, named := ["strconv.ErrSyntax", "strconv.ErrRange", "internal/strconv.uint64pow10", "math/bits.deBruijn32tab", "math/bits.deBruijn64tab", "internal/bytealg.MaxLen"], loops := true, apart := false, laid := [("math/bits.deBruijn32tab", laid_math_bits_deBruijn32tab), ("math/bits.deBruijn64tab", laid_math_bits_deBruijn64tab), ("internal/strconv.uint64pow10", laid_internal_strconv_uint64pow10), ("strconv.ErrRange", laid_strconv_ErrRange), ("strconv.ErrSyntax", laid_strconv_ErrSyntax)] }
def SchemeLessSaid : Prop := schemeLessRow.holds Tryz.pinned (OpenSpec.ofChange schemeLessSpec)

/-- ITS FALSE NEIGHBOUR: 'it returns false'. Refute it at one input. -/
def schemeLessWrong : ChangeSpec := { name := "schemeLess", fn := fun _ => fun
  | [d] => { results := [.lit (.bool false)], args := [d] }
  | _ => none }
def SchemeLessWrongFalsely : Prop := schemeLessRow.holds Tryz.pinned (OpenSpec.ofChange schemeLessWrong)

/-- 'virgationlaw03.SchemeOwn': WHATEVER THE INPUT: true; the input reads as it did. -/
def schemeOwnSpec : ChangeSpec := { name := "schemeOwn", fn := fun _ => fun
  | [d] => { results := [.lit (.bool true)], args := [d] }
  | _ => none }
def schemeOwnRow : OpenClaim := { program := "ytjkcopgfcafpeaagreatdoor", sum := "d22c8d639be4be0db7383b91f93d8594102c91d5cf9d8ab7e2bfd36b47ec46d9", func := "virgation/virgationlaw03.SchemeOwn", spec := "schemeOwn", inPlace := ["internal/bytealg.IndexByteString", "internal/bytealg.IndexString", "internal/abi.NoEscape"], unfollowed := true, recurses := true, named := ["strconv.ErrSyntax", "strconv.ErrRange", "internal/strconv.uint64pow10", "math/bits.deBruijn32tab", "math/bits.deBruijn64tab", "internal/bytealg.MaxLen"], loops := true, apart := false, laid := [("math/bits.deBruijn32tab", laid_math_bits_deBruijn32tab), ("math/bits.deBruijn64tab", laid_math_bits_deBruijn64tab), ("internal/strconv.uint64pow10", laid_internal_strconv_uint64pow10), ("strconv.ErrRange", laid_strconv_ErrRange), ("strconv.ErrSyntax", laid_strconv_ErrSyntax)] }
def SchemeOwnSaid : Prop := schemeOwnRow.holds Tryz.pinned (OpenSpec.ofChange schemeOwnSpec)

/-- ITS FALSE NEIGHBOUR: 'it returns false'. Refute it at one input. -/
def schemeOwnWrong : ChangeSpec := { name := "schemeOwn", fn := fun _ => fun
  | [d] => { results := [.lit (.bool false)], args := [d] }
  | _ => none }
def SchemeOwnWrongFalsely : Prop := schemeOwnRow.holds Tryz.pinned (OpenSpec.ofChange schemeOwnWrong)

/- THE SECOND FORM. 'bulk': how many values and letters a reading holds, each counted each time it is reached (what is shared counts as often as it is met; a slice's spare places count too). A statement '..UptoSaid' is the law's where the arguments, and the package variables that the reading takes, are together of bulk at most 1048576: NARROWER than '..Said'. Prove '..Said' where nothing that the law and all that it calls make is longer than what came in: it says more and counts as full. Else prove '..UptoSaid'. A law counts once. -/
mutual
def uptoBulk {H : Type} : DataW H → Nat
  | .lit (.string bytes) => bytes.length + 1
  | .lit _ => 1
  | .nil => 1
  | .ptr d => uptoBulk d + 1
  | .slice elems spare => uptoBulkAll elems + uptoBulkAll spare + 1
  | .agg parts => uptoBulkAll parts + 1
  | .iface _ d => uptoBulk d + 1
  | .map entries => uptoBulkEntries entries + 1
  | .held _ => 1
def uptoBulkAll {H : Type} : List (DataW H) → Nat
  | [] => 0
  | d :: r => uptoBulk d + uptoBulkAll r
def uptoBulkEntries {H : Type} : List (Lit × DataW H) → Nat
  | [] => 0
  | x :: r => uptoBulkEntry x + uptoBulkEntries r
def uptoBulkEntry {H : Type} : Lit × DataW H → Nat
  | (.string bytes, d) => bytes.length + uptoBulk d + 1
  | (_, d) => uptoBulk d + 1
 end
def uptoSmall : (H : Type) → List (DataW H) → Bool := fun _ ds => decide (uptoBulkAll ds ≤ 1048576)
def OpenSpec.upto (s : _root_.Go.ChangeSpec) : _root_.Go.OpenSpec := { _root_.Go.OpenSpec.ofChange s with cond := some uptoSmall }

/-- 'virgationlaw03.SchemeCheck', WHERE WHAT IT READS IS OF BULK AT MOST 1048576: true; the input reads as it did. -/
def schemeCheckUptoRow : OpenClaim := { program := "ytjkcopgfcafpeaagreatdoor", sum := "d22c8d639be4be0db7383b91f93d8594102c91d5cf9d8ab7e2bfd36b47ec46d9", func := "virgation/virgationlaw03.SchemeCheck", spec := "schemeCheck", inPlace := ["internal/bytealg.IndexByteString", "internal/bytealg.IndexString", "internal/abi.NoEscape"], unfollowed := true, recurses := true, named := ["strconv.ErrSyntax", "strconv.ErrRange", "internal/strconv.uint64pow10", "math/bits.deBruijn32tab", "math/bits.deBruijn64tab", "internal/bytealg.MaxLen"], loops := true, apart := false, laid := [("math/bits.deBruijn32tab", laid_math_bits_deBruijn32tab), ("math/bits.deBruijn64tab", laid_math_bits_deBruijn64tab), ("internal/strconv.uint64pow10", laid_internal_strconv_uint64pow10), ("strconv.ErrRange", laid_strconv_ErrRange), ("strconv.ErrSyntax", laid_strconv_ErrSyntax)], narrowed := true }
def SchemeCheckUptoSaid : Prop := schemeCheckUptoRow.holds Tryz.pinned (OpenSpec.upto schemeCheckSpec)

/-- 'virgationlaw03.SchemeSame', WHERE WHAT IT READS IS OF BULK AT MOST 1048576: true; the input reads as it did. -/
def schemeSameUptoRow : OpenClaim := { program := "ytjkcopgfcafpeaagreatdoor", sum := "d22c8d639be4be0db7383b91f93d8594102c91d5cf9d8ab7e2bfd36b47ec46d9", func := "virgation/virgationlaw03.SchemeSame", spec := "schemeSame", inPlace := ["internal/bytealg.IndexByteString", "internal/bytealg.IndexString", "internal/abi.NoEscape"], unfollowed := true, recurses := true, named := ["strconv.ErrSyntax", "strconv.ErrRange", "internal/strconv.uint64pow10", "math/bits.deBruijn32tab", "math/bits.deBruijn64tab", "internal/bytealg.MaxLen"], loops := true, apart := false, laid := [("math/bits.deBruijn32tab", laid_math_bits_deBruijn32tab), ("math/bits.deBruijn64tab", laid_math_bits_deBruijn64tab), ("internal/strconv.uint64pow10", laid_internal_strconv_uint64pow10), ("strconv.ErrRange", laid_strconv_ErrRange), ("strconv.ErrSyntax", laid_strconv_ErrSyntax)], narrowed := true }
def SchemeSameUptoSaid : Prop := schemeSameUptoRow.holds Tryz.pinned (OpenSpec.upto schemeSameSpec)

/-- 'virgationlaw03.SchemeOrder', WHERE WHAT IT READS IS OF BULK AT MOST 1048576: true; the input reads as it did. -/
def schemeOrderUptoRow : OpenClaim := { program := "ytjkcopgfcafpeaagreatdoor", sum := "d22c8d639be4be0db7383b91f93d8594102c91d5cf9d8ab7e2bfd36b47ec46d9", func := "virgation/virgationlaw03.SchemeOrder", spec := "schemeOrder", inPlace := ["internal/bytealg.IndexByteString", "internal/bytealg.IndexString", "internal/abi.NoEscape"], unfollowed := true, recurses := true, named := ["strconv.ErrSyntax", "strconv.ErrRange", "internal/strconv.uint64pow10", "math/bits.deBruijn32tab", "math/bits.deBruijn64tab", "internal/bytealg.MaxLen"], loops := true, apart := false, laid := [("math/bits.deBruijn32tab", laid_math_bits_deBruijn32tab), ("math/bits.deBruijn64tab", laid_math_bits_deBruijn64tab), ("internal/strconv.uint64pow10", laid_internal_strconv_uint64pow10), ("strconv.ErrRange", laid_strconv_ErrRange), ("strconv.ErrSyntax", laid_strconv_ErrSyntax)], narrowed := true }
def SchemeOrderUptoSaid : Prop := schemeOrderUptoRow.holds Tryz.pinned (OpenSpec.upto schemeOrderSpec)

/-- 'virgationlaw03.SchemeReach', WHERE WHAT IT READS IS OF BULK AT MOST 1048576: true; the input reads as it did. -/
def schemeReachUptoRow : OpenClaim := { program := "ytjkcopgfcafpeaagreatdoor", sum := "d22c8d639be4be0db7383b91f93d8594102c91d5cf9d8ab7e2bfd36b47ec46d9", func := "virgation/virgationlaw03.SchemeReach", spec := "schemeReach", inPlace := ["internal/bytealg.IndexByteString", "internal/bytealg.IndexString", "internal/abi.NoEscape"], unfollowed := true, recurses := true, named := ["strconv.ErrSyntax", "strconv.ErrRange", "internal/strconv.uint64pow10", "math/bits.deBruijn32tab", "math/bits.deBruijn64tab", "internal/bytealg.MaxLen"], loops := true, apart := false, laid := [("math/bits.deBruijn32tab", laid_math_bits_deBruijn32tab), ("math/bits.deBruijn64tab", laid_math_bits_deBruijn64tab), ("internal/strconv.uint64pow10", laid_internal_strconv_uint64pow10), ("strconv.ErrRange", laid_strconv_ErrRange), ("strconv.ErrSyntax", laid_strconv_ErrSyntax)], narrowed := true }
def SchemeReachUptoSaid : Prop := schemeReachUptoRow.holds Tryz.pinned (OpenSpec.upto schemeReachSpec)

/-- 'virgationlaw03.SchemePut', WHERE WHAT IT READS IS OF BULK AT MOST 1048576: true; the input reads as it did. -/
def schemePutUptoRow : OpenClaim := { program := "ytjkcopgfcafpeaagreatdoor", sum := "d22c8d639be4be0db7383b91f93d8594102c91d5cf9d8ab7e2bfd36b47ec46d9", func := "virgation/virgationlaw03.SchemePut", spec := "schemePut", inPlace := ["internal/abi.NoEscape", "internal/bytealg.IndexByteString", "internal/bytealg.IndexString"], unfollowed := true, recurses := true, named := ["internal/strconv.uint64pow10", "math/bits.deBruijn32tab", "math/bits.deBruijn64tab", "strconv.ErrSyntax", "strconv.ErrRange", "internal/bytealg.MaxLen"], loops := true, apart := false, laid := [("math/bits.deBruijn32tab", laid_math_bits_deBruijn32tab), ("math/bits.deBruijn64tab", laid_math_bits_deBruijn64tab), ("internal/strconv.uint64pow10", laid_internal_strconv_uint64pow10), ("strconv.ErrRange", laid_strconv_ErrRange), ("strconv.ErrSyntax", laid_strconv_ErrSyntax)], narrowed := true }
def SchemePutUptoSaid : Prop := schemePutUptoRow.holds Tryz.pinned (OpenSpec.upto schemePutSpec)

/-- 'virgationlaw03.SchemeGet', WHERE WHAT IT READS IS OF BULK AT MOST 1048576: true; the input reads as it did. -/
def schemeGetUptoRow : OpenClaim := { program := "ytjkcopgfcafpeaagreatdoor", sum := "d22c8d639be4be0db7383b91f93d8594102c91d5cf9d8ab7e2bfd36b47ec46d9", func := "virgation/virgationlaw03.SchemeGet", spec := "schemeGet", inPlace := ["internal/bytealg.IndexByteString", "internal/bytealg.IndexString", "internal/abi.NoEscape"], unfollowed := true, recurses := true, named := ["strconv.ErrSyntax", "strconv.ErrRange", "internal/strconv.uint64pow10", "math/bits.deBruijn32tab", "math/bits.deBruijn64tab", "internal/bytealg.MaxLen"], apart := false, laid := [("math/bits.deBruijn32tab", laid_math_bits_deBruijn32tab), ("math/bits.deBruijn64tab", laid_math_bits_deBruijn64tab), ("internal/strconv.uint64pow10", laid_internal_strconv_uint64pow10), ("strconv.ErrRange", laid_strconv_ErrRange), ("strconv.ErrSyntax", laid_strconv_ErrSyntax)], narrowed := true }
def SchemeGetUptoSaid : Prop := schemeGetUptoRow.holds Tryz.pinned (OpenSpec.upto schemeGetSpec)

/-- 'virgationlaw03.SchemeRound', WHERE WHAT IT READS IS OF BULK AT MOST 1048576: true; the input reads as it did. -/
def schemeRoundUptoRow : OpenClaim := { program := "ytjkcopgfcafpeaagreatdoor", sum := "d22c8d639be4be0db7383b91f93d8594102c91d5cf9d8ab7e2bfd36b47ec46d9", func := "virgation/virgationlaw03.SchemeRound", spec := "schemeRound", inPlace := ["internal/bytealg.IndexByteString", "internal/bytealg.IndexString", "internal/abi.NoEscape"], unfollowed := true, recurses := true, named := ["strconv.ErrSyntax", "strconv.ErrRange", "internal/strconv.uint64pow10", "math/bits.deBruijn32tab", "math/bits.deBruijn64tab", "internal/bytealg.MaxLen"], loops := true, apart := false, laid := [("math/bits.deBruijn32tab", laid_math_bits_deBruijn32tab), ("math/bits.deBruijn64tab", laid_math_bits_deBruijn64tab), ("internal/strconv.uint64pow10", laid_internal_strconv_uint64pow10), ("strconv.ErrRange", laid_strconv_ErrRange), ("strconv.ErrSyntax", laid_strconv_ErrSyntax)], narrowed := true }
def SchemeRoundUptoSaid : Prop := schemeRoundUptoRow.holds Tryz.pinned (OpenSpec.upto schemeRoundSpec)

/-- 'virgationlaw03.SchemeTexts', WHERE WHAT IT READS IS OF BULK AT MOST 1048576: true; the input reads as it did. -/
def schemeTextsUptoRow : OpenClaim := { program := "ytjkcopgfcafpeaagreatdoor", sum := "d22c8d639be4be0db7383b91f93d8594102c91d5cf9d8ab7e2bfd36b47ec46d9", func := "virgation/virgationlaw03.SchemeTexts", spec := "schemeTexts", inPlace := ["internal/bytealg.IndexByteString", "internal/bytealg.IndexString", "internal/abi.NoEscape"], unfollowed := true, recurses := true, named := ["strconv.ErrSyntax", "strconv.ErrRange", "internal/strconv.uint64pow10", "math/bits.deBruijn32tab", "math/bits.deBruijn64tab", "internal/bytealg.MaxLen"], apart := false, laid := [("math/bits.deBruijn32tab", laid_math_bits_deBruijn32tab), ("math/bits.deBruijn64tab", laid_math_bits_deBruijn64tab), ("internal/strconv.uint64pow10", laid_internal_strconv_uint64pow10), ("strconv.ErrRange", laid_strconv_ErrRange), ("strconv.ErrSyntax", laid_strconv_ErrSyntax)], narrowed := true }
def SchemeTextsUptoSaid : Prop := schemeTextsUptoRow.holds Tryz.pinned (OpenSpec.upto schemeTextsSpec)

/-- 'virgationlaw03.SchemeBodies', WHERE WHAT IT READS IS OF BULK AT MOST 1048576: true; the input reads as it did. -/
def schemeBodiesUptoRow : OpenClaim := { program := "ytjkcopgfcafpeaagreatdoor", sum := "d22c8d639be4be0db7383b91f93d8594102c91d5cf9d8ab7e2bfd36b47ec46d9", func := "virgation/virgationlaw03.SchemeBodies", spec := "schemeBodies", inPlace := ["internal/bytealg.IndexByteString", "internal/bytealg.IndexString", "internal/abi.NoEscape"], unfollowed := true, recurses := true, named := ["strconv.ErrSyntax", "strconv.ErrRange", "internal/strconv.uint64pow10", "math/bits.deBruijn32tab", "math/bits.deBruijn64tab", "internal/bytealg.MaxLen"], loops := true, apart := false, laid := [("math/bits.deBruijn32tab", laid_math_bits_deBruijn32tab), ("math/bits.deBruijn64tab", laid_math_bits_deBruijn64tab), ("internal/strconv.uint64pow10", laid_internal_strconv_uint64pow10), ("strconv.ErrRange", laid_strconv_ErrRange), ("strconv.ErrSyntax", laid_strconv_ErrSyntax)], narrowed := true }
def SchemeBodiesUptoSaid : Prop := schemeBodiesUptoRow.holds Tryz.pinned (OpenSpec.upto schemeBodiesSpec)

/-- 'virgationlaw03.SchemeLess', WHERE WHAT IT READS IS OF BULK AT MOST 1048576: true; the input reads as it did. -/
def schemeLessUptoRow : OpenClaim := { program := "ytjkcopgfcafpeaagreatdoor", sum := "d22c8d639be4be0db7383b91f93d8594102c91d5cf9d8ab7e2bfd36b47ec46d9", func := "virgation/virgationlaw03.SchemeLess", spec := "schemeLess", inPlace := ["internal/bytealg.IndexByteString", "internal/bytealg.IndexString", "internal/abi.NoEscape"], unfollowed := true, recurses := true, named := ["strconv.ErrSyntax", "strconv.ErrRange", "internal/strconv.uint64pow10", "math/bits.deBruijn32tab", "math/bits.deBruijn64tab", "internal/bytealg.MaxLen"], loops := true, apart := false, laid := [("math/bits.deBruijn32tab", laid_math_bits_deBruijn32tab), ("math/bits.deBruijn64tab", laid_math_bits_deBruijn64tab), ("internal/strconv.uint64pow10", laid_internal_strconv_uint64pow10), ("strconv.ErrRange", laid_strconv_ErrRange), ("strconv.ErrSyntax", laid_strconv_ErrSyntax)], narrowed := true }
def SchemeLessUptoSaid : Prop := schemeLessUptoRow.holds Tryz.pinned (OpenSpec.upto schemeLessSpec)

/-- 'virgationlaw03.SchemeOwn', WHERE WHAT IT READS IS OF BULK AT MOST 1048576: true; the input reads as it did. -/
def schemeOwnUptoRow : OpenClaim := { program := "ytjkcopgfcafpeaagreatdoor", sum := "d22c8d639be4be0db7383b91f93d8594102c91d5cf9d8ab7e2bfd36b47ec46d9", func := "virgation/virgationlaw03.SchemeOwn", spec := "schemeOwn", inPlace := ["internal/bytealg.IndexByteString", "internal/bytealg.IndexString", "internal/abi.NoEscape"], unfollowed := true, recurses := true, named := ["strconv.ErrSyntax", "strconv.ErrRange", "internal/strconv.uint64pow10", "math/bits.deBruijn32tab", "math/bits.deBruijn64tab", "internal/bytealg.MaxLen"], loops := true, apart := false, laid := [("math/bits.deBruijn32tab", laid_math_bits_deBruijn32tab), ("math/bits.deBruijn64tab", laid_math_bits_deBruijn64tab), ("internal/strconv.uint64pow10", laid_internal_strconv_uint64pow10), ("strconv.ErrRange", laid_strconv_ErrRange), ("strconv.ErrSyntax", laid_strconv_ErrSyntax)], narrowed := true }
def SchemeOwnUptoSaid : Prop := schemeOwnUptoRow.holds Tryz.pinned (OpenSpec.upto schemeOwnSpec)

end Rows
end Go.Proofs.YtjkcopgfcafpeaaGreatDoor
