/-
  NARROWER THAN 'FOR EVERY INPUT', by the rows' own cells (each row's printed sentence says how): FnExactSpeakable: ifaces, laid · FnExactShowEvent: ifaces, laid · FnExactReadEvent: ifaces, laid.
  DERIVED. THE GIVEN ROWS OF THIS SEAT. 3 by the template 'for every input the law returns true; each argument reads behind the call as it read before'; 0 by the template 'total and deterministic' (their statements: YtebgngofnmcklaaDoorTotals.lean).
  GIVEN WITH THE SEED: the statements are not yours to turn. If you find one false, say at which input.
  Laid BY PROGRAM, IN A SANDBOX (cutbox-rows.mjs): the forced cells as the released guide's own fill.sh prints them over the translation 879fb0949a0ae4f8… (all of the seat's roots in one cut). By AI agents, Wed Nov 11 2026. No macro, syntax, notation, axiom, sorry.
-/
import Derived.Test.YtebgngofnmcklaaDoorChecked
import GoSem.Claim
import GoSem.ClaimJoined
import GoSem.ClaimMapViews
import Derived.JoinedTies
import Derived.KernelRfl
namespace Go.Proofs.YtebgngofnmcklaaDoor
/- THE CELL 'sum', in the pinned program and in every row, IS THE sha256 OF THE DUMP (.gsa) THAT YtebgngofnmcklaaDoorProg.lean LOADS. Nothing in Lean hashes anything: it is a label: what it is worth is what the hold of that sum in a sandbox is worth. -/
noncomputable def Tryd.pinned : Pinned := { name := "ytebgngofnmcklaadoor", sum := "879fb0949a0ae4f8a2e366170e17e9b5140cd705279d27d3cf90816a90fd6c84", checked := Tryd.checked }
namespace Rows
def none {H : Type} : Left H := { results := [], args := [] }

/- WHAT THE LISTED PACKAGE-LEVEL VARIABLES READ AS WHEN THE CALL BEGINS. Each datum BY PROGRAM (the guide's laid-datum.mjs) off the statement by which the dump's own 'gosem.cut.vars' lays the variable. In a bare row this is a premise. The card (YtebgngofnmcklaaDoorCards.lean) ties it to the program's text. -/
def laid_loop_example_g01412_impl_errEvent {H : Type} : DataW H := .iface "*errors.errorString" (.ptr (.agg [.lit (.string [101, 118, 101, 110, 116, 58, 32, 110, 111, 116, 32, 116, 111, 32, 98, 101, 32, 119, 114, 105, 116, 116, 101, 110, 32, 100, 111, 119, 110])]))

/-- 'laws.FnExactSpeakable': WHATEVER THE INPUT: true; the input reads as it did. -/
def fnExactSpeakableSpec : ChangeSpec := { name := "fnExactSpeakable", vars := ["loop.example/g01412/impl.errEvent"], fn := fun _ => fun
  | [d, g1] => { results := [.lit (.bool true)], args := [d], vars := [g1] }
  | _ => none }
def fnExactSpeakableRow : OpenClaim := { program := "ytebgngofnmcklaadoor", sum := "879fb0949a0ae4f8a2e366170e17e9b5140cd705279d27d3cf90816a90fd6c84", func := "loop.example/g01412/laws.FnExactSpeakable", spec := "fnExactSpeakable", inPlace := ["internal/abi.NoEscape"], unfollowed := true, recurses := true, named := ["loop.example/g01412/impl.errEvent"], ifaces := true, apart := false, laid := [("loop.example/g01412/impl.errEvent", laid_loop_example_g01412_impl_errEvent)] }
def FnExactSpeakableSaid : Prop := fnExactSpeakableRow.holds Tryd.pinned (OpenSpec.ofChange fnExactSpeakableSpec)

/-- ITS FALSE NEIGHBOUR: 'it returns false'. Refute it at one input. -/
def fnExactSpeakableWrong : ChangeSpec := { name := "fnExactSpeakable", vars := ["loop.example/g01412/impl.errEvent"], fn := fun _ => fun
  | [d, g1] => { results := [.lit (.bool false)], args := [d], vars := [g1] }
  | _ => none }
def FnExactSpeakableWrongFalsely : Prop := fnExactSpeakableRow.holds Tryd.pinned (OpenSpec.ofChange fnExactSpeakableWrong)

/-- 'laws.FnExactShowEvent': WHATEVER THE INPUT: true; the input reads as it did. -/
def fnExactShowEventSpec : ChangeSpec := { name := "fnExactShowEvent", vars := ["loop.example/g01412/impl.errEvent"], fn := fun _ => fun
  | [d1, d2, d3, g1] => { results := [.lit (.bool true)], args := [d1, d2, d3], vars := [g1] }
  | _ => none }
def fnExactShowEventRow : OpenClaim := { program := "ytebgngofnmcklaadoor", sum := "879fb0949a0ae4f8a2e366170e17e9b5140cd705279d27d3cf90816a90fd6c84", func := "loop.example/g01412/laws.FnExactShowEvent", spec := "fnExactShowEvent", inPlace := ["internal/abi.NoEscape"], unfollowed := true, recurses := true, named := ["loop.example/g01412/impl.errEvent"], ifaces := true, apart := false, laid := [("loop.example/g01412/impl.errEvent", laid_loop_example_g01412_impl_errEvent)] }
def FnExactShowEventSaid : Prop := fnExactShowEventRow.holds Tryd.pinned (OpenSpec.ofChange fnExactShowEventSpec)

/-- ITS FALSE NEIGHBOUR: 'it returns false'. Refute it at one input. -/
def fnExactShowEventWrong : ChangeSpec := { name := "fnExactShowEvent", vars := ["loop.example/g01412/impl.errEvent"], fn := fun _ => fun
  | [d1, d2, d3, g1] => { results := [.lit (.bool false)], args := [d1, d2, d3], vars := [g1] }
  | _ => none }
def FnExactShowEventWrongFalsely : Prop := fnExactShowEventRow.holds Tryd.pinned (OpenSpec.ofChange fnExactShowEventWrong)

/-- 'laws.FnExactReadEvent': WHATEVER THE INPUT: true; the input reads as it did. -/
def fnExactReadEventSpec : ChangeSpec := { name := "fnExactReadEvent", vars := ["loop.example/g01412/impl.errEvent"], fn := fun _ => fun
  | [d1, d2, g1] => { results := [.lit (.bool true)], args := [d1, d2], vars := [g1] }
  | _ => none }
def fnExactReadEventRow : OpenClaim := { program := "ytebgngofnmcklaadoor", sum := "879fb0949a0ae4f8a2e366170e17e9b5140cd705279d27d3cf90816a90fd6c84", func := "loop.example/g01412/laws.FnExactReadEvent", spec := "fnExactReadEvent", unfollowed := true, recurses := true, named := ["loop.example/g01412/impl.errEvent"], ifaces := true, apart := false, laid := [("loop.example/g01412/impl.errEvent", laid_loop_example_g01412_impl_errEvent)] }
def FnExactReadEventSaid : Prop := fnExactReadEventRow.holds Tryd.pinned (OpenSpec.ofChange fnExactReadEventSpec)

/-- ITS FALSE NEIGHBOUR: 'it returns false'. Refute it at one input. -/
def fnExactReadEventWrong : ChangeSpec := { name := "fnExactReadEvent", vars := ["loop.example/g01412/impl.errEvent"], fn := fun _ => fun
  | [d1, d2, g1] => { results := [.lit (.bool false)], args := [d1, d2], vars := [g1] }
  | _ => none }
def FnExactReadEventWrongFalsely : Prop := fnExactReadEventRow.holds Tryd.pinned (OpenSpec.ofChange fnExactReadEventWrong)

/- THE SECOND FORM. 'bulk': how many values and letters a reading holds, each counted each time it is reached (what is shared counts as often as it is met; a slice's spare places count too). A statement '..UptoSaid' is the law's where the arguments, and the package variables that the reading takes, are together of bulk at most 1048576: NARROWER than '..Said'. Prove '..Said' where nothing that the law and all that it calls make is longer than what came in: it says more and counts as full. Else prove '..UptoSaid'. A law counts once. -/
mutual
def uptoBulk {H : Type} : DataW H → Nat
  | .lit (.string bytes) => bytes.length + 1
  | .lit _ => 1
  | .nil => 1
  | .ptr d => uptoBulk d + 1
  | .slice elems spare => uptoBulkAll elems + uptoBulkAll spare + 1
  | .agg parts => uptoBulkAll parts + 1
  | .iface _ d => uptoBulk d + 1
  | .map entries => uptoBulkEntries entries + 1
  | .held _ => 1
def uptoBulkAll {H : Type} : List (DataW H) → Nat
  | [] => 0
  | d :: r => uptoBulk d + uptoBulkAll r
def uptoBulkEntries {H : Type} : List (Lit × DataW H) → Nat
  | [] => 0
  | x :: r => uptoBulkEntry x + uptoBulkEntries r
def uptoBulkEntry {H : Type} : Lit × DataW H → Nat
  | (.string bytes, d) => bytes.length + uptoBulk d + 1
  | (_, d) => uptoBulk d + 1
 end
def uptoSmall : (H : Type) → List (DataW H) → Bool := fun _ ds => decide (uptoBulkAll ds ≤ 1048576)
def OpenSpec.upto (s : _root_.Go.ChangeSpec) : _root_.Go.OpenSpec := { _root_.Go.OpenSpec.ofChange s with cond := some uptoSmall }

/-- 'laws.FnExactSpeakable', WHERE WHAT IT READS IS OF BULK AT MOST 1048576: true; the input reads as it did. -/
def fnExactSpeakableUptoRow : OpenClaim := { program := "ytebgngofnmcklaadoor", sum := "879fb0949a0ae4f8a2e366170e17e9b5140cd705279d27d3cf90816a90fd6c84", func := "loop.example/g01412/laws.FnExactSpeakable", spec := "fnExactSpeakable", inPlace := ["internal/abi.NoEscape"], unfollowed := true, recurses := true, named := ["loop.example/g01412/impl.errEvent"], ifaces := true, apart := false, laid := [("loop.example/g01412/impl.errEvent", laid_loop_example_g01412_impl_errEvent)], narrowed := true }
def FnExactSpeakableUptoSaid : Prop := fnExactSpeakableUptoRow.holds Tryd.pinned (OpenSpec.upto fnExactSpeakableSpec)

/-- 'laws.FnExactShowEvent', WHERE WHAT IT READS IS OF BULK AT MOST 1048576: true; the input reads as it did. -/
def fnExactShowEventUptoRow : OpenClaim := { program := "ytebgngofnmcklaadoor", sum := "879fb0949a0ae4f8a2e366170e17e9b5140cd705279d27d3cf90816a90fd6c84", func := "loop.example/g01412/laws.FnExactShowEvent", spec := "fnExactShowEvent", inPlace := ["internal/abi.NoEscape"], unfollowed := true, recurses := true, named := ["loop.example/g01412/impl.errEvent"], ifaces := true, apart := false, laid := [("loop.example/g01412/impl.errEvent", laid_loop_example_g01412_impl_errEvent)], narrowed := true }
def FnExactShowEventUptoSaid : Prop := fnExactShowEventUptoRow.holds Tryd.pinned (OpenSpec.upto fnExactShowEventSpec)

/-- 'laws.FnExactReadEvent', WHERE WHAT IT READS IS OF BULK AT MOST 1048576: true; the input reads as it did. -/
def fnExactReadEventUptoRow : OpenClaim := { program := "ytebgngofnmcklaadoor", sum := "879fb0949a0ae4f8a2e366170e17e9b5140cd705279d27d3cf90816a90fd6c84", func := "loop.example/g01412/laws.FnExactReadEvent", spec := "fnExactReadEvent", unfollowed := true, recurses := true, named := ["loop.example/g01412/impl.errEvent"], ifaces := true, apart := false, laid := [("loop.example/g01412/impl.errEvent", laid_loop_example_g01412_impl_errEvent)], narrowed := true }
def FnExactReadEventUptoSaid : Prop := fnExactReadEventUptoRow.holds Tryd.pinned (OpenSpec.upto fnExactReadEventSpec)

end Rows
end Go.Proofs.YtebgngofnmcklaaDoor
