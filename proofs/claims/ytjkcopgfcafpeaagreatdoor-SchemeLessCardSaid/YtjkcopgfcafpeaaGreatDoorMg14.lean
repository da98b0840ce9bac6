/-
  Parts of one proof, laid into one text: WalkH. Conditions: each part names its own.
-/
import Derived.Test.YtjkcopgfcafpeaaGreatDoorMg10
import Derived.Test.YtjkcopgfcafpeaaGreatDoorMg11

/-
  The walks of the statements' own example, and of what holds of it. Conditions: none.
-/
namespace Go.Proofs.YtjkcopgfcafpeaaGreatDoor
open Go.RowKit

def ex : T := .cons (.cons .nil .nil) (.cons .nil .nil)

end Go.Proofs.YtjkcopgfcafpeaaGreatDoor

