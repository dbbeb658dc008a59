/-
  NARROWER THAN 'FOR EVERY INPUT', by the rows' own cells (each row's printed sentence says how): FnFrames: ifaces, laid · FnExactShowFrame: laid · FnExactReadFrame: laid · FnExactShowLog: laid · FnExactReadLog: ifaces, laid · FnExactFrameSpots: ifaces, laid.
  DERIVED. THE GIVEN ROWS OF THIS SEAT. 6 by the template 'for every input the law returns true; each argument reads behind the call as it read before'; 0 by the template 'total and deterministic' (their statements: YthagjamgmlbhkaaDoorTotals.lean).
  GIVEN WITH THE SEED: the statements are not yours to turn. If you find one false, say at which input.
  Laid BY PROGRAM, IN A SANDBOX (cutbox-rows.mjs): the forced cells as the released guide's own fill.sh prints them over the translation f54bb82178324270… (all of the seat's roots in one cut). By AI agents, Wed Nov 11 2026. No macro, syntax, notation, axiom, sorry.
-/
import Derived.Test.YthagjamgmlbhkaaDoorChecked
import GoSem.Claim
import GoSem.ClaimJoined
import GoSem.ClaimMapViews
import Derived.JoinedTies
import Derived.KernelRfl
namespace Go.Proofs.YthagjamgmlbhkaaDoor
/- THE CELL 'sum', in the pinned program and in every row, IS THE sha256 OF THE DUMP (.gsa) THAT YthagjamgmlbhkaaDoorProg.lean LOADS. Nothing in Lean hashes anything: it is a label: what it is worth is what the hold of that sum in a sandbox is worth. -/
noncomputable def Tryd.pinned : Pinned := { name := "ythagjamgmlbhkaadoor", sum := "f54bb821783242701be8e9f07a128f9703a356b67d83a84a3bfa3edb89e06675", checked := Tryd.checked }
namespace Rows
def none {H : Type} : Left H := { results := [], args := [] }

/- WHAT THE LISTED PACKAGE-LEVEL VARIABLES READ AS WHEN THE CALL BEGINS. Each datum BY PROGRAM (the guide's laid-datum.mjs) off the statement by which the dump's own 'gosem.cut.vars' lays the variable. In a bare row this is a premise. The card (YthagjamgmlbhkaaDoorCards.lean) ties it to the program's text. -/
def laid_loop_example_g01412_impl_sumTable {H : Type} : DataW H := .agg [.lit (.int .u32 0), .lit (.int .u32 274646895), .lit (.int .u32 549293790), .lit (.int .u32 820201905), .lit (.int .u32 1098587580), .lit (.int .u32 1361435347), .lit (.int .u32 1640403810), .lit (.int .u32 1905808397), .lit (.int .u32 2197175160), .lit (.int .u32 2460548119), .lit (.int .u32 2722870694), .lit (.int .u32 2987750089), .lit (.int .u32 3280807620), .lit (.int .u32 3553878443), .lit (.int .u32 3811616794), .lit (.int .u32 4084100981)]
def laid_loop_example_g01412_impl_errHead {H : Type} : DataW H := .iface "*errors.errorString" (.ptr (.agg [.lit (.string [100, 111, 101, 115, 32, 110, 111, 116, 32, 98, 101, 103, 105, 110, 32, 97, 115, 32, 97, 32, 108, 111, 103, 32, 100, 111, 101, 115])]))
def laid_loop_example_g01412_impl_errFrame {H : Type} : DataW H := .iface "*errors.errorString" (.ptr (.agg [.lit (.string [110, 111, 32, 102, 114, 97, 109, 101])]))
def laid_loop_example_g01412_impl_errSeq {H : Type} : DataW H := .iface "*errors.errorString" (.ptr (.agg [.lit (.string [110, 111, 116, 32, 116, 104, 101, 32, 110, 101, 120, 116, 32, 110, 117, 109, 98, 101, 114])]))
def laid_loop_example_g01412_impl_errEnd {H : Type} : DataW H := .iface "*errors.errorString" (.ptr (.agg [.lit (.string [110, 111, 32, 102, 114, 97, 109, 101, 32, 119, 105, 116, 104, 111, 117, 116, 32, 112, 97, 121, 108, 111, 97, 100, 32, 97, 116, 32, 116, 104, 101, 32, 101, 110, 100])]))
def laid_loop_example_g01412_impl_errMore {H : Type} : DataW H := .iface "*errors.errorString" (.ptr (.agg [.lit (.string [109, 111, 114, 101, 32, 98, 101, 104, 105, 110, 100, 32, 116, 104, 101, 32, 102, 114, 97, 109, 101, 32, 119, 105, 116, 104, 111, 117, 116, 32, 112, 97, 121, 108, 111, 97, 100])]))

/-- 'laws.FnFrames': WHATEVER THE INPUT: true; the input reads as it did. -/
def fnFramesSpec : ChangeSpec := { name := "fnFrames", vars := ["loop.example/g01412/impl.sumTable", "loop.example/g01412/impl.errSeq", "loop.example/g01412/impl.errMore", "loop.example/g01412/impl.errEnd", "loop.example/g01412/impl.errHead", "loop.example/g01412/impl.errFrame"], fn := fun _ => fun
  | [d, g1, g2, g3, g4, g5, g6] => { results := [.lit (.bool true)], args := [d], vars := [g1, g2, g3, g4, g5, g6] }
  | _ => none }
def fnFramesRow : OpenClaim := { program := "ythagjamgmlbhkaadoor", sum := "f54bb821783242701be8e9f07a128f9703a356b67d83a84a3bfa3edb89e06675", func := "loop.example/g01412/laws.FnFrames", spec := "fnFrames", inPlace := ["internal/abi.NoEscape", "internal/reflectlite.TypeOf"], unfollowed := true, recurses := true, named := ["loop.example/g01412/impl.sumTable", "loop.example/g01412/impl.errSeq", "loop.example/g01412/impl.errMore", "loop.example/g01412/impl.errEnd", "loop.example/g01412/impl.errHead", "loop.example/g01412/impl.errFrame"], ifaces := true, apart := false, laid := [("loop.example/g01412/impl.sumTable", laid_loop_example_g01412_impl_sumTable), ("loop.example/g01412/impl.errHead", laid_loop_example_g01412_impl_errHead), ("loop.example/g01412/impl.errFrame", laid_loop_example_g01412_impl_errFrame), ("loop.example/g01412/impl.errSeq", laid_loop_example_g01412_impl_errSeq), ("loop.example/g01412/impl.errEnd", laid_loop_example_g01412_impl_errEnd), ("loop.example/g01412/impl.errMore", laid_loop_example_g01412_impl_errMore)] }
def FnFramesSaid : Prop := fnFramesRow.holds Tryd.pinned (OpenSpec.ofChange fnFramesSpec)

/-- ITS FALSE NEIGHBOUR: 'it returns false'. Refute it at one input. -/
def fnFramesWrong : ChangeSpec := { name := "fnFrames", vars := ["loop.example/g01412/impl.sumTable", "loop.example/g01412/impl.errSeq", "loop.example/g01412/impl.errMore", "loop.example/g01412/impl.errEnd", "loop.example/g01412/impl.errHead", "loop.example/g01412/impl.errFrame"], fn := fun _ => fun
  | [d, g1, g2, g3, g4, g5, g6] => { results := [.lit (.bool false)], args := [d], vars := [g1, g2, g3, g4, g5, g6] }
  | _ => none }
def FnFramesWrongFalsely : Prop := fnFramesRow.holds Tryd.pinned (OpenSpec.ofChange fnFramesWrong)

/-- 'laws.FnExactShowFrame': WHATEVER THE INPUT: true; the input reads as it did. -/
def fnExactShowFrameSpec : ChangeSpec := { name := "fnExactShowFrame", vars := ["loop.example/g01412/impl.sumTable"], fn := fun _ => fun
  | [d1, d2, g1] => { results := [.lit (.bool true)], args := [d1, d2], vars := [g1] }
  | _ => none }
def fnExactShowFrameRow : OpenClaim := { program := "ythagjamgmlbhkaadoor", sum := "f54bb821783242701be8e9f07a128f9703a356b67d83a84a3bfa3edb89e06675", func := "loop.example/g01412/laws.FnExactShowFrame", spec := "fnExactShowFrame", named := ["loop.example/g01412/impl.sumTable"], apart := false, laid := [("loop.example/g01412/impl.sumTable", laid_loop_example_g01412_impl_sumTable)] }
def FnExactShowFrameSaid : Prop := fnExactShowFrameRow.holds Tryd.pinned (OpenSpec.ofChange fnExactShowFrameSpec)

/-- ITS FALSE NEIGHBOUR: 'it returns false'. Refute it at one input. -/
def fnExactShowFrameWrong : ChangeSpec := { name := "fnExactShowFrame", vars := ["loop.example/g01412/impl.sumTable"], fn := fun _ => fun
  | [d1, d2, g1] => { results := [.lit (.bool false)], args := [d1, d2], vars := [g1] }
  | _ => none }
def FnExactShowFrameWrongFalsely : Prop := fnExactShowFrameRow.holds Tryd.pinned (OpenSpec.ofChange fnExactShowFrameWrong)

/-- 'laws.FnExactReadFrame': WHATEVER THE INPUT: true; the input reads as it did. -/
def fnExactReadFrameSpec : ChangeSpec := { name := "fnExactReadFrame", vars := ["loop.example/g01412/impl.sumTable"], fn := fun _ => fun
  | [d, g1] => { results := [.lit (.bool true)], args := [d], vars := [g1] }
  | _ => none }
def fnExactReadFrameRow : OpenClaim := { program := "ythagjamgmlbhkaadoor", sum := "f54bb821783242701be8e9f07a128f9703a356b67d83a84a3bfa3edb89e06675", func := "loop.example/g01412/laws.FnExactReadFrame", spec := "fnExactReadFrame", named := ["loop.example/g01412/impl.sumTable"], apart := false, laid := [("loop.example/g01412/impl.sumTable", laid_loop_example_g01412_impl_sumTable)] }
def FnExactReadFrameSaid : Prop := fnExactReadFrameRow.holds Tryd.pinned (OpenSpec.ofChange fnExactReadFrameSpec)

/-- ITS FALSE NEIGHBOUR: 'it returns false'. Refute it at one input. -/
def fnExactReadFrameWrong : ChangeSpec := { name := "fnExactReadFrame", vars := ["loop.example/g01412/impl.sumTable"], fn := fun _ => fun
  | [d, g1] => { results := [.lit (.bool false)], args := [d], vars := [g1] }
  | _ => none }
def FnExactReadFrameWrongFalsely : Prop := fnExactReadFrameRow.holds Tryd.pinned (OpenSpec.ofChange fnExactReadFrameWrong)

/-- 'laws.FnExactShowLog': WHATEVER THE INPUT: true; the input reads as it did. -/
def fnExactShowLogSpec : ChangeSpec := { name := "fnExactShowLog", vars := ["loop.example/g01412/impl.sumTable"], fn := fun _ => fun
  | [d, g1] => { results := [.lit (.bool true)], args := [d], vars := [g1] }
  | _ => none }
def fnExactShowLogRow : OpenClaim := { program := "ythagjamgmlbhkaadoor", sum := "f54bb821783242701be8e9f07a128f9703a356b67d83a84a3bfa3edb89e06675", func := "loop.example/g01412/laws.FnExactShowLog", spec := "fnExactShowLog", inPlace := ["internal/abi.NoEscape"], named := ["loop.example/g01412/impl.sumTable"], apart := false, laid := [("loop.example/g01412/impl.sumTable", laid_loop_example_g01412_impl_sumTable)] }
def FnExactShowLogSaid : Prop := fnExactShowLogRow.holds Tryd.pinned (OpenSpec.ofChange fnExactShowLogSpec)

/-- ITS FALSE NEIGHBOUR: 'it returns false'. Refute it at one input. -/
def fnExactShowLogWrong : ChangeSpec := { name := "fnExactShowLog", vars := ["loop.example/g01412/impl.sumTable"], fn := fun _ => fun
  | [d, g1] => { results := [.lit (.bool false)], args := [d], vars := [g1] }
  | _ => none }
def FnExactShowLogWrongFalsely : Prop := fnExactShowLogRow.holds Tryd.pinned (OpenSpec.ofChange fnExactShowLogWrong)

/-- 'laws.FnExactReadLog': WHATEVER THE INPUT: true; the input reads as it did. -/
def fnExactReadLogSpec : ChangeSpec := { name := "fnExactReadLog", vars := ["loop.example/g01412/impl.errSeq", "loop.example/g01412/impl.errMore", "loop.example/g01412/impl.errEnd", "loop.example/g01412/impl.errHead", "loop.example/g01412/impl.errFrame", "loop.example/g01412/impl.sumTable"], fn := fun _ => fun
  | [d, g1, g2, g3, g4, g5, g6] => { results := [.lit (.bool true)], args := [d], vars := [g1, g2, g3, g4, g5, g6] }
  | _ => none }
def fnExactReadLogRow : OpenClaim := { program := "ythagjamgmlbhkaadoor", sum := "f54bb821783242701be8e9f07a128f9703a356b67d83a84a3bfa3edb89e06675", func := "loop.example/g01412/laws.FnExactReadLog", spec := "fnExactReadLog", inPlace := ["internal/reflectlite.TypeOf"], unfollowed := true, recurses := true, named := ["loop.example/g01412/impl.errSeq", "loop.example/g01412/impl.errMore", "loop.example/g01412/impl.errEnd", "loop.example/g01412/impl.errHead", "loop.example/g01412/impl.errFrame", "loop.example/g01412/impl.sumTable"], ifaces := true, apart := false, laid := [("loop.example/g01412/impl.sumTable", laid_loop_example_g01412_impl_sumTable), ("loop.example/g01412/impl.errHead", laid_loop_example_g01412_impl_errHead), ("loop.example/g01412/impl.errFrame", laid_loop_example_g01412_impl_errFrame), ("loop.example/g01412/impl.errSeq", laid_loop_example_g01412_impl_errSeq), ("loop.example/g01412/impl.errEnd", laid_loop_example_g01412_impl_errEnd), ("loop.example/g01412/impl.errMore", laid_loop_example_g01412_impl_errMore)] }
def FnExactReadLogSaid : Prop := fnExactReadLogRow.holds Tryd.pinned (OpenSpec.ofChange fnExactReadLogSpec)

/-- ITS FALSE NEIGHBOUR: 'it returns false'. Refute it at one input. -/
def fnExactReadLogWrong : ChangeSpec := { name := "fnExactReadLog", vars := ["loop.example/g01412/impl.errSeq", "loop.example/g01412/impl.errMore", "loop.example/g01412/impl.errEnd", "loop.example/g01412/impl.errHead", "loop.example/g01412/impl.errFrame", "loop.example/g01412/impl.sumTable"], fn := fun _ => fun
  | [d, g1, g2, g3, g4, g5, g6] => { results := [.lit (.bool false)], args := [d], vars := [g1, g2, g3, g4, g5, g6] }
  | _ => none }
def FnExactReadLogWrongFalsely : Prop := fnExactReadLogRow.holds Tryd.pinned (OpenSpec.ofChange fnExactReadLogWrong)

/-- 'laws.FnExactFrameSpots': WHATEVER THE INPUT: true; the input reads as it did. -/
def fnExactFrameSpotsSpec : ChangeSpec := { name := "fnExactFrameSpots", vars := ["loop.example/g01412/impl.errHead", "loop.example/g01412/impl.errFrame", "loop.example/g01412/impl.errEnd", "loop.example/g01412/impl.sumTable"], fn := fun _ => fun
  | [d, g1, g2, g3, g4] => { results := [.lit (.bool true)], args := [d], vars := [g1, g2, g3, g4] }
  | _ => none }
def fnExactFrameSpotsRow : OpenClaim := { program := "ythagjamgmlbhkaadoor", sum := "f54bb821783242701be8e9f07a128f9703a356b67d83a84a3bfa3edb89e06675", func := "loop.example/g01412/laws.FnExactFrameSpots", spec := "fnExactFrameSpots", inPlace := ["internal/reflectlite.TypeOf"], unfollowed := true, recurses := true, named := ["loop.example/g01412/impl.errHead", "loop.example/g01412/impl.errFrame", "loop.example/g01412/impl.errEnd", "loop.example/g01412/impl.sumTable"], ifaces := true, apart := false, laid := [("loop.example/g01412/impl.sumTable", laid_loop_example_g01412_impl_sumTable), ("loop.example/g01412/impl.errHead", laid_loop_example_g01412_impl_errHead), ("loop.example/g01412/impl.errFrame", laid_loop_example_g01412_impl_errFrame), ("loop.example/g01412/impl.errEnd", laid_loop_example_g01412_impl_errEnd)] }
def FnExactFrameSpotsSaid : Prop := fnExactFrameSpotsRow.holds Tryd.pinned (OpenSpec.ofChange fnExactFrameSpotsSpec)

/-- ITS FALSE NEIGHBOUR: 'it returns false'. Refute it at one input. -/
def fnExactFrameSpotsWrong : ChangeSpec := { name := "fnExactFrameSpots", vars := ["loop.example/g01412/impl.errHead", "loop.example/g01412/impl.errFrame", "loop.example/g01412/impl.errEnd", "loop.example/g01412/impl.sumTable"], fn := fun _ => fun
  | [d, g1, g2, g3, g4] => { results := [.lit (.bool false)], args := [d], vars := [g1, g2, g3, g4] }
  | _ => none }
def FnExactFrameSpotsWrongFalsely : Prop := fnExactFrameSpotsRow.holds Tryd.pinned (OpenSpec.ofChange fnExactFrameSpotsWrong)

/- THE SECOND FORM. 'bulk': how many values and letters a reading holds, each counted each time it is reached (what is shared counts as often as it is met; a slice's spare places count too). A statement '..UptoSaid' is the law's where the arguments, and the package variables that the reading takes, are together of bulk at most 1048576: NARROWER than '..Said'. Prove '..Said' where nothing that the law and all that it calls make is longer than what came in: it says more and counts as full. Else prove '..UptoSaid'. A law counts once. -/
mutual
def uptoBulk {H : Type} : DataW H → Nat
  | .lit (.string bytes) => bytes.length + 1
  | .lit _ => 1
  | .nil => 1
  | .ptr d => uptoBulk d + 1
  | .slice elems spare => uptoBulkAll elems + uptoBulkAll spare + 1
  | .agg parts => uptoBulkAll parts + 1
  | .iface _ d => uptoBulk d + 1
  | .map entries => uptoBulkEntries entries + 1
  | .held _ => 1
def uptoBulkAll {H : Type} : List (DataW H) → Nat
  | [] => 0
  | d :: r => uptoBulk d + uptoBulkAll r
def uptoBulkEntries {H : Type} : List (Lit × DataW H) → Nat
  | [] => 0
  | x :: r => uptoBulkEntry x + uptoBulkEntries r
def uptoBulkEntry {H : Type} : Lit × DataW H → Nat
  | (.string bytes, d) => bytes.length + uptoBulk d + 1
  | (_, d) => uptoBulk d + 1
 end
def uptoSmall : (H : Type) → List (DataW H) → Bool := fun _ ds => decide (uptoBulkAll ds ≤ 1048576)
def OpenSpec.upto (s : _root_.Go.ChangeSpec) : _root_.Go.OpenSpec := { _root_.Go.OpenSpec.ofChange s with cond := some uptoSmall }

/-- 'laws.FnFrames', WHERE WHAT IT READS IS OF BULK AT MOST 1048576: true; the input reads as it did. -/
def fnFramesUptoRow : OpenClaim := { program := "ythagjamgmlbhkaadoor", sum := "f54bb821783242701be8e9f07a128f9703a356b67d83a84a3bfa3edb89e06675", func := "loop.example/g01412/laws.FnFrames", spec := "fnFrames", inPlace := ["internal/abi.NoEscape", "internal/reflectlite.TypeOf"], unfollowed := true, recurses := true, named := ["loop.example/g01412/impl.sumTable", "loop.example/g01412/impl.errSeq", "loop.example/g01412/impl.errMore", "loop.example/g01412/impl.errEnd", "loop.example/g01412/impl.errHead", "loop.example/g01412/impl.errFrame"], ifaces := true, apart := false, laid := [("loop.example/g01412/impl.sumTable", laid_loop_example_g01412_impl_sumTable), ("loop.example/g01412/impl.errHead", laid_loop_example_g01412_impl_errHead), ("loop.example/g01412/impl.errFrame", laid_loop_example_g01412_impl_errFrame), ("loop.example/g01412/impl.errSeq", laid_loop_example_g01412_impl_errSeq), ("loop.example/g01412/impl.errEnd", laid_loop_example_g01412_impl_errEnd), ("loop.example/g01412/impl.errMore", laid_loop_example_g01412_impl_errMore)], narrowed := true }
def FnFramesUptoSaid : Prop := fnFramesUptoRow.holds Tryd.pinned (OpenSpec.upto fnFramesSpec)

/-- 'laws.FnExactShowFrame', WHERE WHAT IT READS IS OF BULK AT MOST 1048576: true; the input reads as it did. -/
def fnExactShowFrameUptoRow : OpenClaim := { program := "ythagjamgmlbhkaadoor", sum := "f54bb821783242701be8e9f07a128f9703a356b67d83a84a3bfa3edb89e06675", func := "loop.example/g01412/laws.FnExactShowFrame", spec := "fnExactShowFrame", named := ["loop.example/g01412/impl.sumTable"], apart := false, laid := [("loop.example/g01412/impl.sumTable", laid_loop_example_g01412_impl_sumTable)], narrowed := true }
def FnExactShowFrameUptoSaid : Prop := fnExactShowFrameUptoRow.holds Tryd.pinned (OpenSpec.upto fnExactShowFrameSpec)

/-- 'laws.FnExactReadFrame', WHERE WHAT IT READS IS OF BULK AT MOST 1048576: true; the input reads as it did. -/
def fnExactReadFrameUptoRow : OpenClaim := { program := "ythagjamgmlbhkaadoor", sum := "f54bb821783242701be8e9f07a128f9703a356b67d83a84a3bfa3edb89e06675", func := "loop.example/g01412/laws.FnExactReadFrame", spec := "fnExactReadFrame", named := ["loop.example/g01412/impl.sumTable"], apart := false, laid := [("loop.example/g01412/impl.sumTable", laid_loop_example_g01412_impl_sumTable)], narrowed := true }
def FnExactReadFrameUptoSaid : Prop := fnExactReadFrameUptoRow.holds Tryd.pinned (OpenSpec.upto fnExactReadFrameSpec)

/-- 'laws.FnExactShowLog', WHERE WHAT IT READS IS OF BULK AT MOST 1048576: true; the input reads as it did. -/
def fnExactShowLogUptoRow : OpenClaim := { program := "ythagjamgmlbhkaadoor", sum := "f54bb821783242701be8e9f07a128f9703a356b67d83a84a3bfa3edb89e06675", func := "loop.example/g01412/laws.FnExactShowLog", spec := "fnExactShowLog", inPlace := ["internal/abi.NoEscape"], named := ["loop.example/g01412/impl.sumTable"], apart := false, laid := [("loop.example/g01412/impl.sumTable", laid_loop_example_g01412_impl_sumTable)], narrowed := true }
def FnExactShowLogUptoSaid : Prop := fnExactShowLogUptoRow.holds Tryd.pinned (OpenSpec.upto fnExactShowLogSpec)

/-- 'laws.FnExactReadLog', WHERE WHAT IT READS IS OF BULK AT MOST 1048576: true; the input reads as it did. -/
def fnExactReadLogUptoRow : OpenClaim := { program := "ythagjamgmlbhkaadoor", sum := "f54bb821783242701be8e9f07a128f9703a356b67d83a84a3bfa3edb89e06675", func := "loop.example/g01412/laws.FnExactReadLog", spec := "fnExactReadLog", inPlace := ["internal/reflectlite.TypeOf"], unfollowed := true, recurses := true, named := ["loop.example/g01412/impl.errSeq", "loop.example/g01412/impl.errMore", "loop.example/g01412/impl.errEnd", "loop.example/g01412/impl.errHead", "loop.example/g01412/impl.errFrame", "loop.example/g01412/impl.sumTable"], ifaces := true, apart := false, laid := [("loop.example/g01412/impl.sumTable", laid_loop_example_g01412_impl_sumTable), ("loop.example/g01412/impl.errHead", laid_loop_example_g01412_impl_errHead), ("loop.example/g01412/impl.errFrame", laid_loop_example_g01412_impl_errFrame), ("loop.example/g01412/impl.errSeq", laid_loop_example_g01412_impl_errSeq), ("loop.example/g01412/impl.errEnd", laid_loop_example_g01412_impl_errEnd), ("loop.example/g01412/impl.errMore", laid_loop_example_g01412_impl_errMore)], narrowed := true }
def FnExactReadLogUptoSaid : Prop := fnExactReadLogUptoRow.holds Tryd.pinned (OpenSpec.upto fnExactReadLogSpec)

/-- 'laws.FnExactFrameSpots', WHERE WHAT IT READS IS OF BULK AT MOST 1048576: true; the input reads as it did. -/
def fnExactFrameSpotsUptoRow : OpenClaim := { program := "ythagjamgmlbhkaadoor", sum := "f54bb821783242701be8e9f07a128f9703a356b67d83a84a3bfa3edb89e06675", func := "loop.example/g01412/laws.FnExactFrameSpots", spec := "fnExactFrameSpots", inPlace := ["internal/reflectlite.TypeOf"], unfollowed := true, recurses := true, named := ["loop.example/g01412/impl.errHead", "loop.example/g01412/impl.errFrame", "loop.example/g01412/impl.errEnd", "loop.example/g01412/impl.sumTable"], ifaces := true, apart := false, laid := [("loop.example/g01412/impl.sumTable", laid_loop_example_g01412_impl_sumTable), ("loop.example/g01412/impl.errHead", laid_loop_example_g01412_impl_errHead), ("loop.example/g01412/impl.errFrame", laid_loop_example_g01412_impl_errFrame), ("loop.example/g01412/impl.errEnd", laid_loop_example_g01412_impl_errEnd)], narrowed := true }
def FnExactFrameSpotsUptoSaid : Prop := fnExactFrameSpotsUptoRow.holds Tryd.pinned (OpenSpec.upto fnExactFrameSpotsSpec)

end Rows
end Go.Proofs.YthagjamgmlbhkaaDoor
