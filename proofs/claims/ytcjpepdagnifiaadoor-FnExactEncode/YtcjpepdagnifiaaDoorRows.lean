/-
  NARROWER THAN 'FOR EVERY INPUT', by the rows' own cells (each row's printed sentence says how): FnExactReadEvent: ifaces, laid · FnExactEncode: ifaces, laid.
  DERIVED. THE GIVEN ROWS OF THIS SEAT. 2 by the template 'for every input the law returns true; each argument reads behind the call as it read before'; 0 by the template 'total and deterministic' (their statements: YtcjpepdagnifiaaDoorTotals.lean).
  GIVEN WITH THE SEED: the statements are not yours to turn. If you find one false, say at which input.
  Laid BY PROGRAM, IN A SANDBOX (cutbox-rows.mjs): the forced cells as the released guide's own fill.sh prints them over the translation 14c87dd3baa54854… (all of the seat's roots in one cut). By AI agents, Wed Nov 11 2026. No macro, syntax, notation, axiom, sorry.
-/
import Derived.Test.YtcjpepdagnifiaaDoorChecked
import GoSem.Claim
import GoSem.ClaimJoined
import GoSem.ClaimMapViews
import Derived.JoinedTies
import Derived.KernelRfl
namespace Go.Proofs.YtcjpepdagnifiaaDoor
/- THE CELL 'sum', in the pinned program and in every row, IS THE sha256 OF THE DUMP (.gsa) THAT YtcjpepdagnifiaaDoorProg.lean LOADS. Nothing in Lean hashes anything: it is a label: what it is worth is what the hold of that sum in a sandbox is worth. -/
noncomputable def Tryd.pinned : Pinned := { name := "ytcjpepdagnifiaadoor", sum := "14c87dd3baa548546bcd052308ea558aa1fec00c5d93257055ad651042dab775", checked := Tryd.checked }
namespace Rows
def none {H : Type} : Left H := { results := [], args := [] }

/- WHAT THE LISTED PACKAGE-LEVEL VARIABLES READ AS WHEN THE CALL BEGINS. Each datum BY PROGRAM (the guide's laid-datum.mjs) off the statement by which the dump's own 'gosem.cut.vars' lays the variable. In a bare row this is a premise. The card (YtcjpepdagnifiaaDoorCards.lean) ties it to the program's text. -/
def laid_loop_example_g01412_impl_errEvent {H : Type} : DataW H := .iface "*errors.errorString" (.ptr (.agg [.lit (.string [101, 118, 101, 110, 116, 58, 32, 110, 111, 116, 32, 116, 111, 32, 98, 101, 32, 119, 114, 105, 116, 116, 101, 110, 32, 100, 111, 119, 110])]))
def laid_loop_example_g01412_impl_sumTable {H : Type} : DataW H := .agg [.lit (.int .u32 0), .lit (.int .u32 274646895), .lit (.int .u32 549293790), .lit (.int .u32 820201905), .lit (.int .u32 1098587580), .lit (.int .u32 1361435347), .lit (.int .u32 1640403810), .lit (.int .u32 1905808397), .lit (.int .u32 2197175160), .lit (.int .u32 2460548119), .lit (.int .u32 2722870694), .lit (.int .u32 2987750089), .lit (.int .u32 3280807620), .lit (.int .u32 3553878443), .lit (.int .u32 3811616794), .lit (.int .u32 4084100981)]

/-- 'laws.FnExactReadEvent': WHATEVER THE INPUT: true; the input reads as it did. -/
def fnExactReadEventSpec : ChangeSpec := { name := "fnExactReadEvent", vars := ["loop.example/g01412/impl.errEvent"], fn := fun _ => fun
  | [d1, d2, g1] => { results := [.lit (.bool true)], args := [d1, d2], vars := [g1] }
  | _ => none }
def fnExactReadEventRow : OpenClaim := { program := "ytcjpepdagnifiaadoor", sum := "14c87dd3baa548546bcd052308ea558aa1fec00c5d93257055ad651042dab775", func := "loop.example/g01412/laws.FnExactReadEvent", spec := "fnExactReadEvent", unfollowed := true, recurses := true, named := ["loop.example/g01412/impl.errEvent"], ifaces := true, apart := false, laid := [("loop.example/g01412/impl.errEvent", laid_loop_example_g01412_impl_errEvent)] }
def FnExactReadEventSaid : Prop := fnExactReadEventRow.holds Tryd.pinned (OpenSpec.ofChange fnExactReadEventSpec)

/-- ITS FALSE NEIGHBOUR: 'it returns false'. Refute it at one input. -/
def fnExactReadEventWrong : ChangeSpec := { name := "fnExactReadEvent", vars := ["loop.example/g01412/impl.errEvent"], fn := fun _ => fun
  | [d1, d2, g1] => { results := [.lit (.bool false)], args := [d1, d2], vars := [g1] }
  | _ => none }
def FnExactReadEventWrongFalsely : Prop := fnExactReadEventRow.holds Tryd.pinned (OpenSpec.ofChange fnExactReadEventWrong)

/-- 'laws.FnExactEncode': WHATEVER THE INPUT: true; the input reads as it did. -/
def fnExactEncodeSpec : ChangeSpec := { name := "fnExactEncode", vars := ["loop.example/g01412/impl.errEvent", "loop.example/g01412/impl.sumTable"], fn := fun _ => fun
  | [d1, d2, g1, g2] => { results := [.lit (.bool true)], args := [d1, d2], vars := [g1, g2] }
  | _ => none }
def fnExactEncodeRow : OpenClaim := { program := "ytcjpepdagnifiaadoor", sum := "14c87dd3baa548546bcd052308ea558aa1fec00c5d93257055ad651042dab775", func := "loop.example/g01412/laws.FnExactEncode", spec := "fnExactEncode", inPlace := ["internal/abi.NoEscape"], unfollowed := true, recurses := true, named := ["loop.example/g01412/impl.errEvent", "loop.example/g01412/impl.sumTable"], ifaces := true, apart := false, laid := [("loop.example/g01412/impl.sumTable", laid_loop_example_g01412_impl_sumTable), ("loop.example/g01412/impl.errEvent", laid_loop_example_g01412_impl_errEvent)] }
def FnExactEncodeSaid : Prop := fnExactEncodeRow.holds Tryd.pinned (OpenSpec.ofChange fnExactEncodeSpec)

/-- ITS FALSE NEIGHBOUR: 'it returns false'. Refute it at one input. -/
def fnExactEncodeWrong : ChangeSpec := { name := "fnExactEncode", vars := ["loop.example/g01412/impl.errEvent", "loop.example/g01412/impl.sumTable"], fn := fun _ => fun
  | [d1, d2, g1, g2] => { results := [.lit (.bool false)], args := [d1, d2], vars := [g1, g2] }
  | _ => none }
def FnExactEncodeWrongFalsely : Prop := fnExactEncodeRow.holds Tryd.pinned (OpenSpec.ofChange fnExactEncodeWrong)

/- THE SECOND FORM. 'bulk': how many values and letters a reading holds, each counted each time it is reached (what is shared counts as often as it is met; a slice's spare places count too). A statement '..UptoSaid' is the law's where the arguments, and the package variables that the reading takes, are together of bulk at most 1048576: NARROWER than '..Said'. Prove '..Said' where nothing that the law and all that it calls make is longer than what came in: it says more and counts as full. Else prove '..UptoSaid'. A law counts once. -/
mutual
def uptoBulk {H : Type} : DataW H → Nat
  | .lit (.string bytes) => bytes.length + 1
  | .lit _ => 1
  | .nil => 1
  | .ptr d => uptoBulk d + 1
  | .slice elems spare => uptoBulkAll elems + uptoBulkAll spare + 1
  | .agg parts => uptoBulkAll parts + 1
  | .iface _ d => uptoBulk d + 1
  | .map entries => uptoBulkEntries entries + 1
  | .held _ => 1
def uptoBulkAll {H : Type} : List (DataW H) → Nat
  | [] => 0
  | d :: r => uptoBulk d + uptoBulkAll r
def uptoBulkEntries {H : Type} : List (Lit × DataW H) → Nat
  | [] => 0
  | x :: r => uptoBulkEntry x + uptoBulkEntries r
def uptoBulkEntry {H : Type} : Lit × DataW H → Nat
  | (.string bytes, d) => bytes.length + uptoBulk d + 1
  | (_, d) => uptoBulk d + 1
 end
def uptoSmall : (H : Type) → List (DataW H) → Bool := fun _ ds => decide (uptoBulkAll ds ≤ 1048576)
def OpenSpec.upto (s : _root_.Go.ChangeSpec) : _root_.Go.OpenSpec := { _root_.Go.OpenSpec.ofChange s with cond := some uptoSmall }

/-- 'laws.FnExactReadEvent', WHERE WHAT IT READS IS OF BULK AT MOST 1048576: true; the input reads as it did. -/
def fnExactReadEventUptoRow : OpenClaim := { program := "ytcjpepdagnifiaadoor", sum := "14c87dd3baa548546bcd052308ea558aa1fec00c5d93257055ad651042dab775", func := "loop.example/g01412/laws.FnExactReadEvent", spec := "fnExactReadEvent", unfollowed := true, recurses := true, named := ["loop.example/g01412/impl.errEvent"], ifaces := true, apart := false, laid := [("loop.example/g01412/impl.errEvent", laid_loop_example_g01412_impl_errEvent)], narrowed := true }
def FnExactReadEventUptoSaid : Prop := fnExactReadEventUptoRow.holds Tryd.pinned (OpenSpec.upto fnExactReadEventSpec)

/-- 'laws.FnExactEncode', WHERE WHAT IT READS IS OF BULK AT MOST 1048576: true; the input reads as it did. -/
def fnExactEncodeUptoRow : OpenClaim := { program := "ytcjpepdagnifiaadoor", sum := "14c87dd3baa548546bcd052308ea558aa1fec00c5d93257055ad651042dab775", func := "loop.example/g01412/laws.FnExactEncode", spec := "fnExactEncode", inPlace := ["internal/abi.NoEscape"], unfollowed := true, recurses := true, named := ["loop.example/g01412/impl.errEvent", "loop.example/g01412/impl.sumTable"], ifaces := true, apart := false, laid := [("loop.example/g01412/impl.sumTable", laid_loop_example_g01412_impl_sumTable), ("loop.example/g01412/impl.errEvent", laid_loop_example_g01412_impl_errEvent)], narrowed := true }
def FnExactEncodeUptoSaid : Prop := fnExactEncodeUptoRow.holds Tryd.pinned (OpenSpec.upto fnExactEncodeSpec)

end Rows
end Go.Proofs.YtcjpepdagnifiaaDoor
