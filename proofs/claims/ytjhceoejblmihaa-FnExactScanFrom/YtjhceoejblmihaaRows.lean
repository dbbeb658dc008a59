/-
  No cell of these rows narrows 'for every input' (looked for: loops, veiled, ifaces, maps, wideKeys, modest, calm, conditions, laid).
  DERIVED. THE GIVEN ROWS OF THIS SEAT. 6 by the template 'for every input the law returns true; each argument reads behind the call as it read before'; 0 by the template 'total and deterministic' (their statements: YtjhceoejblmihaaTotals.lean).
  GIVEN WITH THE SEED: the statements are not yours to turn. If you find one false, say at which input.
  Laid BY PROGRAM, IN A SANDBOX (cutbox-rows.mjs): the forced cells as the released guide's own fill.sh prints them over the translation 5bceeeb7ee9094f6… (all of the seat's roots in one cut). By AI agents, Wed Nov 11 2026. No macro, syntax, notation, axiom, sorry.
-/
import Derived.Test.YtjhceoejblmihaaChecked
import GoSem.Claim
import GoSem.ClaimJoined
import GoSem.ClaimMapViews
import Derived.JoinedTies
import Derived.KernelRfl
namespace Go.Proofs.Ytjhceoejblmihaa
/- THE CELL 'sum', in the pinned program and in every row, IS THE sha256 OF THE DUMP (.gsa) THAT YtjhceoejblmihaaProg.lean LOADS. Nothing in Lean hashes anything: it is a label: what it is worth is what the hold of that sum in a sandbox is worth. -/
noncomputable def Try.pinned : Pinned := { name := "ytjhceoejblmihaa", sum := "5bceeeb7ee9094f633a2cfd4d60440541525945554c9ac47df60b0035034d30a", checked := Try.checked }
namespace Rows
def none {H : Type} : Left H := { results := [], args := [] }

/-- 'laws.FnExactTrialNew': WHATEVER THE INPUT: true; the input reads as it did. -/
def fnExactTrialNewSpec : ChangeSpec := { name := "fnExactTrialNew", fn := fun _ => fun
  | [d] => { results := [.lit (.bool true)], args := [d] }
  | _ => none }
def fnExactTrialNewRow : OpenClaim := { program := "ytjhceoejblmihaa", sum := "5bceeeb7ee9094f633a2cfd4d60440541525945554c9ac47df60b0035034d30a", func := "loop.example/g01412/laws.FnExactTrialNew", spec := "fnExactTrialNew", apart := false }
def FnExactTrialNewSaid : Prop := fnExactTrialNewRow.holds Try.pinned (OpenSpec.ofChange fnExactTrialNewSpec)

/-- ITS FALSE NEIGHBOUR: 'it returns false'. Refute it at one input. -/
def fnExactTrialNewWrong : ChangeSpec := { name := "fnExactTrialNew", fn := fun _ => fun
  | [d] => { results := [.lit (.bool false)], args := [d] }
  | _ => none }
def FnExactTrialNewWrongFalsely : Prop := fnExactTrialNewRow.holds Try.pinned (OpenSpec.ofChange fnExactTrialNewWrong)

/-- 'laws.FnExactWhites': WHATEVER THE INPUT: true; the input reads as it did. -/
def fnExactWhitesSpec : ChangeSpec := { name := "fnExactWhites", fn := fun _ => fun
  | [d] => { results := [.lit (.bool true)], args := [d] }
  | _ => none }
def fnExactWhitesRow : OpenClaim := { program := "ytjhceoejblmihaa", sum := "5bceeeb7ee9094f633a2cfd4d60440541525945554c9ac47df60b0035034d30a", func := "loop.example/g01412/laws.FnExactWhites", spec := "fnExactWhites", apart := false }
def FnExactWhitesSaid : Prop := fnExactWhitesRow.holds Try.pinned (OpenSpec.ofChange fnExactWhitesSpec)

/-- ITS FALSE NEIGHBOUR: 'it returns false'. Refute it at one input. -/
def fnExactWhitesWrong : ChangeSpec := { name := "fnExactWhites", fn := fun _ => fun
  | [d] => { results := [.lit (.bool false)], args := [d] }
  | _ => none }
def FnExactWhitesWrongFalsely : Prop := fnExactWhitesRow.holds Try.pinned (OpenSpec.ofChange fnExactWhitesWrong)

/-- 'laws.FnExactMarkGray': WHATEVER THE INPUT: true; the input reads as it did. -/
def fnExactMarkGraySpec : ChangeSpec := { name := "fnExactMarkGray", fn := fun _ => fun
  | [d1, d2, d3] => { results := [.lit (.bool true)], args := [d1, d2, d3] }
  | _ => none }
def fnExactMarkGrayRow : OpenClaim := { program := "ytjhceoejblmihaa", sum := "5bceeeb7ee9094f633a2cfd4d60440541525945554c9ac47df60b0035034d30a", func := "loop.example/g01412/laws.FnExactMarkGray", spec := "fnExactMarkGray", unfollowed := true, recurses := true, apart := false }
def FnExactMarkGraySaid : Prop := fnExactMarkGrayRow.holds Try.pinned (OpenSpec.ofChange fnExactMarkGraySpec)

/-- ITS FALSE NEIGHBOUR: 'it returns false'. Refute it at one input. -/
def fnExactMarkGrayWrong : ChangeSpec := { name := "fnExactMarkGray", fn := fun _ => fun
  | [d1, d2, d3] => { results := [.lit (.bool false)], args := [d1, d2, d3] }
  | _ => none }
def FnExactMarkGrayWrongFalsely : Prop := fnExactMarkGrayRow.holds Try.pinned (OpenSpec.ofChange fnExactMarkGrayWrong)

/-- 'laws.FnExactScanFrom': WHATEVER THE INPUT: true; the input reads as it did. -/
def fnExactScanFromSpec : ChangeSpec := { name := "fnExactScanFrom", fn := fun _ => fun
  | [d1, d2, d3] => { results := [.lit (.bool true)], args := [d1, d2, d3] }
  | _ => none }
def fnExactScanFromRow : OpenClaim := { program := "ytjhceoejblmihaa", sum := "5bceeeb7ee9094f633a2cfd4d60440541525945554c9ac47df60b0035034d30a", func := "loop.example/g01412/laws.FnExactScanFrom", spec := "fnExactScanFrom", unfollowed := true, recurses := true, apart := false }
def FnExactScanFromSaid : Prop := fnExactScanFromRow.holds Try.pinned (OpenSpec.ofChange fnExactScanFromSpec)

/-- ITS FALSE NEIGHBOUR: 'it returns false'. Refute it at one input. -/
def fnExactScanFromWrong : ChangeSpec := { name := "fnExactScanFrom", fn := fun _ => fun
  | [d1, d2, d3] => { results := [.lit (.bool false)], args := [d1, d2, d3] }
  | _ => none }
def FnExactScanFromWrongFalsely : Prop := fnExactScanFromRow.holds Try.pinned (OpenSpec.ofChange fnExactScanFromWrong)

/-- 'laws.FnExactCollect': WHATEVER THE INPUT: true; the input reads as it did. -/
def fnExactCollectSpec : ChangeSpec := { name := "fnExactCollect", fn := fun _ => fun
  | [d] => { results := [.lit (.bool true)], args := [d] }
  | _ => none }
def fnExactCollectRow : OpenClaim := { program := "ytjhceoejblmihaa", sum := "5bceeeb7ee9094f633a2cfd4d60440541525945554c9ac47df60b0035034d30a", func := "loop.example/g01412/laws.FnExactCollect", spec := "fnExactCollect", unfollowed := true, recurses := true, apart := false }
def FnExactCollectSaid : Prop := fnExactCollectRow.holds Try.pinned (OpenSpec.ofChange fnExactCollectSpec)

/-- ITS FALSE NEIGHBOUR: 'it returns false'. Refute it at one input. -/
def fnExactCollectWrong : ChangeSpec := { name := "fnExactCollect", fn := fun _ => fun
  | [d] => { results := [.lit (.bool false)], args := [d] }
  | _ => none }
def FnExactCollectWrongFalsely : Prop := fnExactCollectRow.holds Try.pinned (OpenSpec.ofChange fnExactCollectWrong)

/-- 'laws.FnCounts': WHATEVER THE INPUT: true; the input reads as it did. -/
def fnCountsSpec : ChangeSpec := { name := "fnCounts", fn := fun _ => fun
  | [d] => { results := [.lit (.bool true)], args := [d] }
  | _ => none }
def fnCountsRow : OpenClaim := { program := "ytjhceoejblmihaa", sum := "5bceeeb7ee9094f633a2cfd4d60440541525945554c9ac47df60b0035034d30a", func := "loop.example/g01412/laws.FnCounts", spec := "fnCounts", apart := false }
def FnCountsSaid : Prop := fnCountsRow.holds Try.pinned (OpenSpec.ofChange fnCountsSpec)

/-- ITS FALSE NEIGHBOUR: 'it returns false'. Refute it at one input. -/
def fnCountsWrong : ChangeSpec := { name := "fnCounts", fn := fun _ => fun
  | [d] => { results := [.lit (.bool false)], args := [d] }
  | _ => none }
def FnCountsWrongFalsely : Prop := fnCountsRow.holds Try.pinned (OpenSpec.ofChange fnCountsWrong)

/- THE SECOND FORM. 'bulk': how many values and letters a reading holds, each counted each time it is reached (what is shared counts as often as it is met; a slice's spare places count too). A statement '..UptoSaid' is the law's where the arguments, and the package variables that the reading takes, are together of bulk at most 1048576: NARROWER than '..Said'. Prove '..Said' where nothing that the law and all that it calls make is longer than what came in: it says more and counts as full. Else prove '..UptoSaid'. A law counts once. -/
mutual
def uptoBulk {H : Type} : DataW H → Nat
  | .lit (.string bytes) => bytes.length + 1
  | .lit _ => 1
  | .nil => 1
  | .ptr d => uptoBulk d + 1
  | .slice elems spare => uptoBulkAll elems + uptoBulkAll spare + 1
  | .agg parts => uptoBulkAll parts + 1
  | .iface _ d => uptoBulk d + 1
  | .map entries => uptoBulkEntries entries + 1
  | .held _ => 1
def uptoBulkAll {H : Type} : List (DataW H) → Nat
  | [] => 0
  | d :: r => uptoBulk d + uptoBulkAll r
def uptoBulkEntries {H : Type} : List (Lit × DataW H) → Nat
  | [] => 0
  | x :: r => uptoBulkEntry x + uptoBulkEntries r
def uptoBulkEntry {H : Type} : Lit × DataW H → Nat
  | (.string bytes, d) => bytes.length + uptoBulk d + 1
  | (_, d) => uptoBulk d + 1
 end
def uptoSmall : (H : Type) → List (DataW H) → Bool := fun _ ds => decide (uptoBulkAll ds ≤ 1048576)
def OpenSpec.upto (s : _root_.Go.ChangeSpec) : _root_.Go.OpenSpec := { _root_.Go.OpenSpec.ofChange s with cond := some uptoSmall }

/-- 'laws.FnExactTrialNew', WHERE WHAT IT READS IS OF BULK AT MOST 1048576: true; the input reads as it did. -/
def fnExactTrialNewUptoRow : OpenClaim := { program := "ytjhceoejblmihaa", sum := "5bceeeb7ee9094f633a2cfd4d60440541525945554c9ac47df60b0035034d30a", func := "loop.example/g01412/laws.FnExactTrialNew", spec := "fnExactTrialNew", apart := false, narrowed := true }
def FnExactTrialNewUptoSaid : Prop := fnExactTrialNewUptoRow.holds Try.pinned (OpenSpec.upto fnExactTrialNewSpec)

/-- 'laws.FnExactWhites', WHERE WHAT IT READS IS OF BULK AT MOST 1048576: true; the input reads as it did. -/
def fnExactWhitesUptoRow : OpenClaim := { program := "ytjhceoejblmihaa", sum := "5bceeeb7ee9094f633a2cfd4d60440541525945554c9ac47df60b0035034d30a", func := "loop.example/g01412/laws.FnExactWhites", spec := "fnExactWhites", apart := false, narrowed := true }
def FnExactWhitesUptoSaid : Prop := fnExactWhitesUptoRow.holds Try.pinned (OpenSpec.upto fnExactWhitesSpec)

/-- 'laws.FnExactMarkGray', WHERE WHAT IT READS IS OF BULK AT MOST 1048576: true; the input reads as it did. -/
def fnExactMarkGrayUptoRow : OpenClaim := { program := "ytjhceoejblmihaa", sum := "5bceeeb7ee9094f633a2cfd4d60440541525945554c9ac47df60b0035034d30a", func := "loop.example/g01412/laws.FnExactMarkGray", spec := "fnExactMarkGray", unfollowed := true, recurses := true, apart := false, narrowed := true }
def FnExactMarkGrayUptoSaid : Prop := fnExactMarkGrayUptoRow.holds Try.pinned (OpenSpec.upto fnExactMarkGraySpec)

/-- 'laws.FnExactScanFrom', WHERE WHAT IT READS IS OF BULK AT MOST 1048576: true; the input reads as it did. -/
def fnExactScanFromUptoRow : OpenClaim := { program := "ytjhceoejblmihaa", sum := "5bceeeb7ee9094f633a2cfd4d60440541525945554c9ac47df60b0035034d30a", func := "loop.example/g01412/laws.FnExactScanFrom", spec := "fnExactScanFrom", unfollowed := true, recurses := true, apart := false, narrowed := true }
def FnExactScanFromUptoSaid : Prop := fnExactScanFromUptoRow.holds Try.pinned (OpenSpec.upto fnExactScanFromSpec)

/-- 'laws.FnExactCollect', WHERE WHAT IT READS IS OF BULK AT MOST 1048576: true; the input reads as it did. -/
def fnExactCollectUptoRow : OpenClaim := { program := "ytjhceoejblmihaa", sum := "5bceeeb7ee9094f633a2cfd4d60440541525945554c9ac47df60b0035034d30a", func := "loop.example/g01412/laws.FnExactCollect", spec := "fnExactCollect", unfollowed := true, recurses := true, apart := false, narrowed := true }
def FnExactCollectUptoSaid : Prop := fnExactCollectUptoRow.holds Try.pinned (OpenSpec.upto fnExactCollectSpec)

/-- 'laws.FnCounts', WHERE WHAT IT READS IS OF BULK AT MOST 1048576: true; the input reads as it did. -/
def fnCountsUptoRow : OpenClaim := { program := "ytjhceoejblmihaa", sum := "5bceeeb7ee9094f633a2cfd4d60440541525945554c9ac47df60b0035034d30a", func := "loop.example/g01412/laws.FnCounts", spec := "fnCounts", apart := false, narrowed := true }
def FnCountsUptoSaid : Prop := fnCountsUptoRow.holds Try.pinned (OpenSpec.upto fnCountsSpec)

end Rows
end Go.Proofs.Ytjhceoejblmihaa
