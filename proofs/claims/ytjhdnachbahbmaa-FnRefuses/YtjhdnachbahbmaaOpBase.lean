/- Operations and answers as the laws have them: what their helpers do; an argument that is an operation, opened. -/
import Derived.Test.YtjhdnachbahbmaaAnsWalks
namespace Go.Proofs.Ytjhdnachbahbmaa
open Go.ChangeShapes Go.WideShapes Go.ChangeAt Go.RowKit
open Go.ChangeMaps (open_string shut_string)
set_option linter.unusedVariables false
set_option maxRecDepth 100000

/-- An operation's data. -/
structure OpD where
  kind : Int
  a : Int
  b : Int
  c : Int
  site : List UInt8
def opV (o : OpD) : Value := .agg #[.int .i64 o.kind, .int .i64 o.a, .int .i64 o.b, .int .i64 o.c, .string (txt o.site)]
/-- Each number is an int, the text no longer than a string can be. -/
structure SaneOp (o : OpD) : Prop where
  kind : in64 o.kind
  a : in64 o.a
  b : in64 o.b
  c : in64 o.c
  site : o.site.length ≤ 9223372036854775807

def ansV (c v : Int) (vf : Value) : Value := .agg #[.int .i64 c, .int .i64 v, vf]

theorem wrap64_in {x : Int} (h0 : -9223372036854775808 ≤ x) (h1 : x ≤ 9223372036854775807) : wrap64 x = x := by
  unfold wrap64; omega

section
variable {T : Type} {enc : TypeId × Value → T} {w : World} {held : Bool}

end

end Go.Proofs.Ytjhdnachbahbmaa
