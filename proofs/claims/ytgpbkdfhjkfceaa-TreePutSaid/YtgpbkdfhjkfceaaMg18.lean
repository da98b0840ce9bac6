/-
  Parts of one proof, laid into one text: WalkH. Conditions: each part names its own.
-/
import Derived.Test.YtgpbkdfhjkfceaaMg11
import Derived.Test.YtgpbkdfhjkfceaaMg12

/-
  The walks of the statements' own example, and of what holds of it. Conditions: none.
-/
namespace Go.Proofs.Ytgpbkdfhjkfceaa
open Go.RowKit

def ex : T := .cons (.cons .nil .nil) (.cons .nil .nil)

end Go.Proofs.Ytgpbkdfhjkfceaa

