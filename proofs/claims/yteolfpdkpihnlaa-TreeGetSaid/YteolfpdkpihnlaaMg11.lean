/-
  Parts of one proof, laid into one text: WalkE. Conditions: each part names its own.
-/
import Derived.Test.YteolfpdkpihnlaaMg07
import Derived.Test.YteolfpdkpihnlaaMg03
import Derived.Test.YteolfpdkpihnlaaMg04

/-
  The walks of spell and Text. Conditions: at most 60 nodes.
-/
namespace Go.Proofs.Yteolfpdkpihnlaa
open Go.RowKit

/-- what Put returns -/
def T.pT (t : T) : List UInt8 := if t.valid then t.txt else []

end Go.Proofs.Yteolfpdkpihnlaa

