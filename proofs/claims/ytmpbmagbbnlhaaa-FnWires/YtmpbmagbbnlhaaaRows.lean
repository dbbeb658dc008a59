/-
  No cell of these rows narrows 'for every input' (looked for: loops, veiled, ifaces, maps, wideKeys, modest, calm, conditions, laid).
  DERIVED. THE GIVEN ROWS OF THIS SEAT. 6 by the template 'for every input the law returns true; each argument reads behind the call as it read before'; 0 by the template 'total and deterministic' (their statements: YtmpbmagbbnlhaaaTotals.lean).
  GIVEN WITH THE SEED: the statements are not yours to turn. If you find one false, say at which input.
  Laid BY PROGRAM, IN A SANDBOX (cutbox-rows.mjs): the forced cells as the released guide's own fill.sh prints them over the translation c11a6aaefc4ccb24… (all of the seat's roots in one cut). By AI agents, Wed Nov 11 2026. No macro, syntax, notation, axiom, sorry.
-/
import Derived.Test.YtmpbmagbbnlhaaaChecked
import GoSem.Claim
import GoSem.ClaimJoined
import GoSem.ClaimMapViews
import Derived.JoinedTies
import Derived.KernelRfl
namespace Go.Proofs.Ytmpbmagbbnlhaaa
/- THE CELL 'sum', in the pinned program and in every row, IS THE sha256 OF THE DUMP (.gsa) THAT YtmpbmagbbnlhaaaProg.lean LOADS. Nothing in Lean hashes anything: it is a label: what it is worth is what the hold of that sum in a sandbox is worth. -/
noncomputable def Try.pinned : Pinned := { name := "ytmpbmagbbnlhaaa", sum := "c11a6aaefc4ccb24232957c07205322e72ce5a966a6bd184e4c5af948368e85f", checked := Try.checked }
namespace Rows
def none {H : Type} : Left H := { results := [], args := [] }

/-- 'laws.FnWires': WHATEVER THE INPUT: true; the input reads as it did. -/
def fnWiresSpec : ChangeSpec := { name := "fnWires", fn := fun _ => fun
  | [d] => { results := [.lit (.bool true)], args := [d] }
  | _ => none }
def fnWiresRow : OpenClaim := { program := "ytmpbmagbbnlhaaa", sum := "c11a6aaefc4ccb24232957c07205322e72ce5a966a6bd184e4c5af948368e85f", func := "loop.example/g01412/laws.FnWires", spec := "fnWires", apart := false }
def FnWiresSaid : Prop := fnWiresRow.holds Try.pinned (OpenSpec.ofChange fnWiresSpec)

/-- ITS FALSE NEIGHBOUR: 'it returns false'. Refute it at one input. -/
def fnWiresWrong : ChangeSpec := { name := "fnWires", fn := fun _ => fun
  | [d] => { results := [.lit (.bool false)], args := [d] }
  | _ => none }
def FnWiresWrongFalsely : Prop := fnWiresRow.holds Try.pinned (OpenSpec.ofChange fnWiresWrong)

/-- 'laws.FnExactZig': WHATEVER THE INPUT: true; the input reads as it did. -/
def fnExactZigSpec : ChangeSpec := { name := "fnExactZig", fn := fun _ => fun
  | [d] => { results := [.lit (.bool true)], args := [d] }
  | _ => none }
def fnExactZigRow : OpenClaim := { program := "ytmpbmagbbnlhaaa", sum := "c11a6aaefc4ccb24232957c07205322e72ce5a966a6bd184e4c5af948368e85f", func := "loop.example/g01412/laws.FnExactZig", spec := "fnExactZig", apart := false }
def FnExactZigSaid : Prop := fnExactZigRow.holds Try.pinned (OpenSpec.ofChange fnExactZigSpec)

/-- ITS FALSE NEIGHBOUR: 'it returns false'. Refute it at one input. -/
def fnExactZigWrong : ChangeSpec := { name := "fnExactZig", fn := fun _ => fun
  | [d] => { results := [.lit (.bool false)], args := [d] }
  | _ => none }
def FnExactZigWrongFalsely : Prop := fnExactZigRow.holds Try.pinned (OpenSpec.ofChange fnExactZigWrong)

/-- 'laws.FnExactZag': WHATEVER THE INPUT: true; the input reads as it did. -/
def fnExactZagSpec : ChangeSpec := { name := "fnExactZag", fn := fun _ => fun
  | [d] => { results := [.lit (.bool true)], args := [d] }
  | _ => none }
def fnExactZagRow : OpenClaim := { program := "ytmpbmagbbnlhaaa", sum := "c11a6aaefc4ccb24232957c07205322e72ce5a966a6bd184e4c5af948368e85f", func := "loop.example/g01412/laws.FnExactZag", spec := "fnExactZag", apart := false }
def FnExactZagSaid : Prop := fnExactZagRow.holds Try.pinned (OpenSpec.ofChange fnExactZagSpec)

/-- ITS FALSE NEIGHBOUR: 'it returns false'. Refute it at one input. -/
def fnExactZagWrong : ChangeSpec := { name := "fnExactZag", fn := fun _ => fun
  | [d] => { results := [.lit (.bool false)], args := [d] }
  | _ => none }
def FnExactZagWrongFalsely : Prop := fnExactZagRow.holds Try.pinned (OpenSpec.ofChange fnExactZagWrong)

/-- 'laws.FnExactShowInt': WHATEVER THE INPUT: true; the input reads as it did. -/
def fnExactShowIntSpec : ChangeSpec := { name := "fnExactShowInt", fn := fun _ => fun
  | [d] => { results := [.lit (.bool true)], args := [d] }
  | _ => none }
def fnExactShowIntRow : OpenClaim := { program := "ytmpbmagbbnlhaaa", sum := "c11a6aaefc4ccb24232957c07205322e72ce5a966a6bd184e4c5af948368e85f", func := "loop.example/g01412/laws.FnExactShowInt", spec := "fnExactShowInt", apart := false }
def FnExactShowIntSaid : Prop := fnExactShowIntRow.holds Try.pinned (OpenSpec.ofChange fnExactShowIntSpec)

/-- ITS FALSE NEIGHBOUR: 'it returns false'. Refute it at one input. -/
def fnExactShowIntWrong : ChangeSpec := { name := "fnExactShowInt", fn := fun _ => fun
  | [d] => { results := [.lit (.bool false)], args := [d] }
  | _ => none }
def FnExactShowIntWrongFalsely : Prop := fnExactShowIntRow.holds Try.pinned (OpenSpec.ofChange fnExactShowIntWrong)

/-- 'laws.FnExactReadInt': WHATEVER THE INPUT: true; the input reads as it did. -/
def fnExactReadIntSpec : ChangeSpec := { name := "fnExactReadInt", fn := fun _ => fun
  | [d] => { results := [.lit (.bool true)], args := [d] }
  | _ => none }
def fnExactReadIntRow : OpenClaim := { program := "ytmpbmagbbnlhaaa", sum := "c11a6aaefc4ccb24232957c07205322e72ce5a966a6bd184e4c5af948368e85f", func := "loop.example/g01412/laws.FnExactReadInt", spec := "fnExactReadInt", apart := false }
def FnExactReadIntSaid : Prop := fnExactReadIntRow.holds Try.pinned (OpenSpec.ofChange fnExactReadIntSpec)

/-- ITS FALSE NEIGHBOUR: 'it returns false'. Refute it at one input. -/
def fnExactReadIntWrong : ChangeSpec := { name := "fnExactReadInt", fn := fun _ => fun
  | [d] => { results := [.lit (.bool false)], args := [d] }
  | _ => none }
def FnExactReadIntWrongFalsely : Prop := fnExactReadIntRow.holds Try.pinned (OpenSpec.ofChange fnExactReadIntWrong)

/-- 'laws.FnExactShowText': WHATEVER THE INPUT: true; the input reads as it did. -/
def fnExactShowTextSpec : ChangeSpec := { name := "fnExactShowText", fn := fun _ => fun
  | [d] => { results := [.lit (.bool true)], args := [d] }
  | _ => none }
def fnExactShowTextRow : OpenClaim := { program := "ytmpbmagbbnlhaaa", sum := "c11a6aaefc4ccb24232957c07205322e72ce5a966a6bd184e4c5af948368e85f", func := "loop.example/g01412/laws.FnExactShowText", spec := "fnExactShowText", apart := false }
def FnExactShowTextSaid : Prop := fnExactShowTextRow.holds Try.pinned (OpenSpec.ofChange fnExactShowTextSpec)

/-- ITS FALSE NEIGHBOUR: 'it returns false'. Refute it at one input. -/
def fnExactShowTextWrong : ChangeSpec := { name := "fnExactShowText", fn := fun _ => fun
  | [d] => { results := [.lit (.bool false)], args := [d] }
  | _ => none }
def FnExactShowTextWrongFalsely : Prop := fnExactShowTextRow.holds Try.pinned (OpenSpec.ofChange fnExactShowTextWrong)

/- THE SECOND FORM. 'bulk': how many values and letters a reading holds, each counted each time it is reached (what is shared counts as often as it is met; a slice's spare places count too). A statement '..UptoSaid' is the law's where the arguments, and the package variables that the reading takes, are together of bulk at most 1048576: NARROWER than '..Said'. Prove '..Said' where nothing that the law and all that it calls make is longer than what came in: it says more and counts as full. Else prove '..UptoSaid'. A law counts once. -/
mutual
def uptoBulk {H : Type} : DataW H → Nat
  | .lit (.string bytes) => bytes.length + 1
  | .lit _ => 1
  | .nil => 1
  | .ptr d => uptoBulk d + 1
  | .slice elems spare => uptoBulkAll elems + uptoBulkAll spare + 1
  | .agg parts => uptoBulkAll parts + 1
  | .iface _ d => uptoBulk d + 1
  | .map entries => uptoBulkEntries entries + 1
  | .held _ => 1
def uptoBulkAll {H : Type} : List (DataW H) → Nat
  | [] => 0
  | d :: r => uptoBulk d + uptoBulkAll r
def uptoBulkEntries {H : Type} : List (Lit × DataW H) → Nat
  | [] => 0
  | x :: r => uptoBulkEntry x + uptoBulkEntries r
def uptoBulkEntry {H : Type} : Lit × DataW H → Nat
  | (.string bytes, d) => bytes.length + uptoBulk d + 1
  | (_, d) => uptoBulk d + 1
 end
def uptoSmall : (H : Type) → List (DataW H) → Bool := fun _ ds => decide (uptoBulkAll ds ≤ 1048576)
def OpenSpec.upto (s : _root_.Go.ChangeSpec) : _root_.Go.OpenSpec := { _root_.Go.OpenSpec.ofChange s with cond := some uptoSmall }

/-- 'laws.FnWires', WHERE WHAT IT READS IS OF BULK AT MOST 1048576: true; the input reads as it did. -/
def fnWiresUptoRow : OpenClaim := { program := "ytmpbmagbbnlhaaa", sum := "c11a6aaefc4ccb24232957c07205322e72ce5a966a6bd184e4c5af948368e85f", func := "loop.example/g01412/laws.FnWires", spec := "fnWires", apart := false, narrowed := true }
def FnWiresUptoSaid : Prop := fnWiresUptoRow.holds Try.pinned (OpenSpec.upto fnWiresSpec)

/-- 'laws.FnExactZig', WHERE WHAT IT READS IS OF BULK AT MOST 1048576: true; the input reads as it did. -/
def fnExactZigUptoRow : OpenClaim := { program := "ytmpbmagbbnlhaaa", sum := "c11a6aaefc4ccb24232957c07205322e72ce5a966a6bd184e4c5af948368e85f", func := "loop.example/g01412/laws.FnExactZig", spec := "fnExactZig", apart := false, narrowed := true }
def FnExactZigUptoSaid : Prop := fnExactZigUptoRow.holds Try.pinned (OpenSpec.upto fnExactZigSpec)

/-- 'laws.FnExactZag', WHERE WHAT IT READS IS OF BULK AT MOST 1048576: true; the input reads as it did. -/
def fnExactZagUptoRow : OpenClaim := { program := "ytmpbmagbbnlhaaa", sum := "c11a6aaefc4ccb24232957c07205322e72ce5a966a6bd184e4c5af948368e85f", func := "loop.example/g01412/laws.FnExactZag", spec := "fnExactZag", apart := false, narrowed := true }
def FnExactZagUptoSaid : Prop := fnExactZagUptoRow.holds Try.pinned (OpenSpec.upto fnExactZagSpec)

/-- 'laws.FnExactShowInt', WHERE WHAT IT READS IS OF BULK AT MOST 1048576: true; the input reads as it did. -/
def fnExactShowIntUptoRow : OpenClaim := { program := "ytmpbmagbbnlhaaa", sum := "c11a6aaefc4ccb24232957c07205322e72ce5a966a6bd184e4c5af948368e85f", func := "loop.example/g01412/laws.FnExactShowInt", spec := "fnExactShowInt", apart := false, narrowed := true }
def FnExactShowIntUptoSaid : Prop := fnExactShowIntUptoRow.holds Try.pinned (OpenSpec.upto fnExactShowIntSpec)

/-- 'laws.FnExactReadInt', WHERE WHAT IT READS IS OF BULK AT MOST 1048576: true; the input reads as it did. -/
def fnExactReadIntUptoRow : OpenClaim := { program := "ytmpbmagbbnlhaaa", sum := "c11a6aaefc4ccb24232957c07205322e72ce5a966a6bd184e4c5af948368e85f", func := "loop.example/g01412/laws.FnExactReadInt", spec := "fnExactReadInt", apart := false, narrowed := true }
def FnExactReadIntUptoSaid : Prop := fnExactReadIntUptoRow.holds Try.pinned (OpenSpec.upto fnExactReadIntSpec)

/-- 'laws.FnExactShowText', WHERE WHAT IT READS IS OF BULK AT MOST 1048576: true; the input reads as it did. -/
def fnExactShowTextUptoRow : OpenClaim := { program := "ytmpbmagbbnlhaaa", sum := "c11a6aaefc4ccb24232957c07205322e72ce5a966a6bd184e4c5af948368e85f", func := "loop.example/g01412/laws.FnExactShowText", spec := "fnExactShowText", apart := false, narrowed := true }
def FnExactShowTextUptoSaid : Prop := fnExactShowTextUptoRow.holds Try.pinned (OpenSpec.upto fnExactShowTextSpec)

end Rows
end Go.Proofs.Ytmpbmagbbnlhaaa
