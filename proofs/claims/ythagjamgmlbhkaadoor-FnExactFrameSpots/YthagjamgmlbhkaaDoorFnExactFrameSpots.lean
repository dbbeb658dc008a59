/- impl.FrameSpots answers at every text as the specification's FrameSpots; its answer owns its memory, behind another call too; nothing that came in is written, and the table and the errors stay. For every text; the table and the three errors lie as the program's text lays them (the card ties them). -/
import Derived.Test.YthagjamgmlbhkaaDoorCards
import Derived.Test.YthagjamgmlbhkaaDoorTie
import Derived.Test.YthagjamgmlbhkaaDoorLaidErrs
import Derived.Test.YthagjamgmlbhkaaDoorISpotsWalks
import Derived.WalkKit
import Derived.ProofKit
import Derived.OpenShut
import Derived.ShutString
import Derived.ChangeOld
import Derived.Below
import Derived.Deep.DeepHandedRow
import Derived.ChangeVars
namespace Go.Proofs.YthagjamgmlbhkaaDoor.fnExactFrameSpots
open Go.ChangeShapes Go.WideShapes Go.ChangeAt Go.RowKit
open Go.ChangeMaps (open_string shut_string)
set_option linter.unusedVariables false

theorem own : ownKnob Tryd.prog.godebug = none := by kernel_rfl
theorem laidOut : laidOutB Tryd.prog = true := by kernel_rfl

def tabInto (d : DataW Unit) (o : Obj) : Obj := match o with
  | .cells _ t frozen => .cells (match d with | .agg l => (l.map fun x => match x with | .lit (.int k n) => Value.int k n | _ => Value.bool false).toArray | _ => #[]) t frozen
  | o => o
def errInto (b : Nat) (o : Obj) : Obj := match o with
  | .cells _ t frozen => .cells #[.iface 102 (.pointer (some ⟨b, 0, none⟩))] t frozen
  | o => o
theorem walk {h f e : Addr} (a0 : ByteArray) (w0 : a0.size ≤ maxLen) (w : World) (E : Env3 w.heap.size w h f e) :
    Calls Tryd.prog 8 #[.string a0] w fun e w' => e = .returned (.bool true) ∧ Below w.heap.size w w' :=
  spots_law a0 w w0 (fun hs X hX => iFrameSpots_calls a0.data.toList h f e X hs (env3_later E hX))

set_option maxRecDepth 100000 in
theorem contract (H : Type) (enc : TypeId × Value → H) (W : World) (base : Nat) (args : Array Value) (ds gs : List (DataW H)) (before : List MemPlace)
    (hval : ∀ (j : Nat) t v, Tryd.f8.params[j]? = some t → args[j]? = some v → Value.okWide Tryd.prog W .any base t v)
    (hW : DataW.Whole enc Tryd.prog Tryd.f8.params.toList Rows.fnExactFrameSpotsSpec.vars false W args.toList ds gs before) (hL : laidMetH Tryd.prog Rows.fnExactFrameSpotsRow.laid W) :
    Calls Tryd.prog 8 args W fun e W' => ∃ v, e = .returned v ∧ Rows.fnExactFrameSpotsSpec.post enc Tryd.prog Tryd.f8 false true false false W args v W' := by
  have hW' := hW
  obtain ⟨p, q, hA0, hV0, rfl, hfz, hnd⟩ := hW
  have hV : DataW.TrodVars enc Tryd.prog W (fun _ => true) ["loop.example/g01412/impl.errHead", "loop.example/g01412/impl.errFrame", "loop.example/g01412/impl.errEnd", "loop.example/g01412/impl.sumTable"] gs q := hV0
  have hA : DataW.TrodAll enc Tryd.prog W 0 (fun _ => true) true Tryd.f8.params.toList args.toList ds p := hA0
  rw [Tryd.params8] at hA hval
  obtain ⟨v0, vs0, d0, ds0, p0, q0, hargs, rfl, rfl, h0, r0⟩ := trodAll_cons hA
  obtain ⟨rfl, rfl, rfl⟩ := trodAll_nil r0
  obtain rfl : args = #[v0] := by cases args; simp_all
  obtain ⟨g1, g2, g3, g4, rfl⟩ : ∃ g1 g2 g3 g4, gs = [g1, g2, g3, g4] := by
    have hlen := trodVars_length hV
    match gs, hlen with
    | [g1, g2, g3, g4], _ => exact ⟨_, _, _, _, rfl⟩
  obtain ⟨a0, rfl, rfl, rfl, w0⟩ := open_string Tryd.underlying9 (hval 0 9 v0 rfl rfl) h0
  clear hA0 hV0
  have hL1 : laidMet Tryd.prog [("loop.example/g01412/impl.sumTable", Rows.laid_loop_example_g01412_impl_sumTable), ("loop.example/g01412/impl.errHead", Rows.laid_loop_example_g01412_impl_errHead), ("loop.example/g01412/impl.errFrame", Rows.laid_loop_example_g01412_impl_errFrame), ("loop.example/g01412/impl.errEnd", Rows.laid_loop_example_g01412_impl_errEnd)] W := hL
  obtain ⟨xh, xf, xe, E⟩ := env3_of hL1
  refine (walk a0 w0 W E).mono fun e W' ⟨he, bel⟩ => ?_
  subst he
  exact ⟨_, rfl, _, _, _, [], _, _, hW', trodAll_mk1 (shut_bool Tryd.underlying4 _), (trodAll_cons_mk (shut_string Tryd.underlying9 w0) trodAll_mk0), Below.trodVars laidOut bel (by kernel_rfl) hV, bel.frame _, fun h => by cases h⟩

theorem laid_met (os : Os) : laidMet Tryd.prog Rows.fnExactFrameSpotsRow.laid (World.forCall ({ (World.holding Tryd.prog os ⟨#[.cells #[.string { data := #[100, 111, 101, 115, 32, 110, 111, 116, 32, 98, 101, 103, 105, 110, 32, 97, 115, 32, 97, 32, 108, 111, 103, 32, 100, 111, 101, 115] }] 125, .cells #[.string { data := #[110, 111, 32, 102, 114, 97, 109, 101] }] 125, .cells #[.string { data := #[110, 111, 32, 102, 114, 97, 109, 101, 32, 119, 105, 116, 104, 111, 117, 116, 32, 112, 97, 121, 108, 111, 97, 100, 32, 97, 116, 32, 116, 104, 101, 32, 101, 110, 100] }] 125], #[], []⟩) with heap := (((((World.holding Tryd.prog os ⟨#[.cells #[.string { data := #[100, 111, 101, 115, 32, 110, 111, 116, 32, 98, 101, 103, 105, 110, 32, 97, 115, 32, 97, 32, 108, 111, 103, 32, 100, 111, 101, 115] }] 125, .cells #[.string { data := #[110, 111, 32, 102, 114, 97, 109, 101] }] 125, .cells #[.string { data := #[110, 111, 32, 102, 114, 97, 109, 101, 32, 119, 105, 116, 104, 111, 117, 116, 32, 112, 97, 121, 108, 111, 97, 100, 32, 97, 116, 32, 116, 104, 101, 32, 101, 110, 100] }] 125], #[], []⟩).heap.modify 5 (tabInto Rows.laid_loop_example_g01412_impl_sumTable)).modify 0 (errInto ((World.holding Tryd.prog default ⟨#[], #[], []⟩).heap.size + 0))).modify 4 (errInto ((World.holding Tryd.prog default ⟨#[], #[], []⟩).heap.size + 1))).modify 3 (errInto ((World.holding Tryd.prog default ⟨#[], #[], []⟩).heap.size + 2))) } : World) (fun _ _ => 0) ⟨#[], #[.string ByteArray.empty], []⟩).memory :=
  laidMet_of_run' 8 (by kernel_rfl) (by kernel_rfl)
theorem reads (os : Os) {H : Type} (enc : TypeId × Value → H) : ∃ x, DataW.whole enc Tryd.prog (World.forCall ({ (World.holding Tryd.prog os ⟨#[.cells #[.string { data := #[100, 111, 101, 115, 32, 110, 111, 116, 32, 98, 101, 103, 105, 110, 32, 97, 115, 32, 97, 32, 108, 111, 103, 32, 100, 111, 101, 115] }] 125, .cells #[.string { data := #[110, 111, 32, 102, 114, 97, 109, 101] }] 125, .cells #[.string { data := #[110, 111, 32, 102, 114, 97, 109, 101, 32, 119, 105, 116, 104, 111, 117, 116, 32, 112, 97, 121, 108, 111, 97, 100, 32, 97, 116, 32, 116, 104, 101, 32, 101, 110, 100] }] 125], #[], []⟩) with heap := (((((World.holding Tryd.prog os ⟨#[.cells #[.string { data := #[100, 111, 101, 115, 32, 110, 111, 116, 32, 98, 101, 103, 105, 110, 32, 97, 115, 32, 97, 32, 108, 111, 103, 32, 100, 111, 101, 115] }] 125, .cells #[.string { data := #[110, 111, 32, 102, 114, 97, 109, 101] }] 125, .cells #[.string { data := #[110, 111, 32, 102, 114, 97, 109, 101, 32, 119, 105, 116, 104, 111, 117, 116, 32, 112, 97, 121, 108, 111, 97, 100, 32, 97, 116, 32, 116, 104, 101, 32, 101, 110, 100] }] 125], #[], []⟩).heap.modify 5 (tabInto Rows.laid_loop_example_g01412_impl_sumTable)).modify 0 (errInto ((World.holding Tryd.prog default ⟨#[], #[], []⟩).heap.size + 0))).modify 4 (errInto ((World.holding Tryd.prog default ⟨#[], #[], []⟩).heap.size + 1))).modify 3 (errInto ((World.holding Tryd.prog default ⟨#[], #[], []⟩).heap.size + 2))) } : World) (fun _ _ => 0) ⟨#[], #[.string ByteArray.empty], []⟩).memory Tryd.f8.params.toList Rows.fnExactFrameSpotsSpec.vars false (#[.string ByteArray.empty] : Array Value).toList 8 = some x :=
  Option.isSome_iff_exists.1 (by kernel_rfl)

set_option maxRecDepth 100000 in
theorem lifted (os : Os) (started : os.Started) (H : Type) (enc : TypeId × Value → H) (F : Stop.Interp) :
    ReturnsInHanded {} Tryd.checked os 8 .any ((OpenSpec.ofChange Rows.fnExactFrameSpotsSpec).preRow enc Tryd.prog Tryd.f8 Rows.fnExactFrameSpotsRow.domain false Rows.fnExactFrameSpotsRow.laid) (((OpenSpec.ofChange Rows.fnExactFrameSpotsSpec).at F).post enc Tryd.prog Tryd.f8 false true false false) := by
  obtain ⟨x, hx⟩ := reads os enc
  refine returnsInHanded_of_row (C := Tryd.checked) (s := OpenSpec.ofChange Rows.fnExactFrameSpotsSpec) own started (by kernel_rfl) Tryd.func8
    (witness_row_at (enc := enc) (C := Tryd.checked) false ({ (World.holding Tryd.prog os ⟨#[.cells #[.string { data := #[100, 111, 101, 115, 32, 110, 111, 116, 32, 98, 101, 103, 105, 110, 32, 97, 115, 32, 97, 32, 108, 111, 103, 32, 100, 111, 101, 115] }] 125, .cells #[.string { data := #[110, 111, 32, 102, 114, 97, 109, 101] }] 125, .cells #[.string { data := #[110, 111, 32, 102, 114, 97, 109, 101, 32, 119, 105, 116, 104, 111, 117, 116, 32, 112, 97, 121, 108, 111, 97, 100, 32, 97, 116, 32, 116, 104, 101, 32, 101, 110, 100] }] 125], #[], []⟩) with heap := (((((World.holding Tryd.prog os ⟨#[.cells #[.string { data := #[100, 111, 101, 115, 32, 110, 111, 116, 32, 98, 101, 103, 105, 110, 32, 97, 115, 32, 97, 32, 108, 111, 103, 32, 100, 111, 101, 115] }] 125, .cells #[.string { data := #[110, 111, 32, 102, 114, 97, 109, 101] }] 125, .cells #[.string { data := #[110, 111, 32, 102, 114, 97, 109, 101, 32, 119, 105, 116, 104, 111, 117, 116, 32, 112, 97, 121, 108, 111, 97, 100, 32, 97, 116, 32, 116, 104, 101, 32, 101, 110, 100] }] 125], #[], []⟩).heap.modify 5 (tabInto Rows.laid_loop_example_g01412_impl_sumTable)).modify 0 (errInto ((World.holding Tryd.prog default ⟨#[], #[], []⟩).heap.size + 0))).modify 4 (errInto ((World.holding Tryd.prog default ⟨#[], #[], []⟩).heap.size + 1))).modify 3 (errInto ((World.holding Tryd.prog default ⟨#[], #[], []⟩).heap.size + 2))) } : World) #[.string ByteArray.empty] rfl (by kernel_rfl) (by kernel_rfl) (by kernel_rfl)
      (OpenSpec.preRow_of_cond 8 hx rfl (fun k hk => by cases hk) (by kernel_rfl) (laid_met os))) ?_
  intro W base args ds gs before hval hW _ _ _ hL _ _
  exact contract H enc W base args ds gs before hval hW hL

theorem said : Rows.FnExactFrameSpotsSaid :=
  OpenClaim.holds_of_cond 8 Tryd.f8 rfl rfl rfl rfl rfl rfl rfl ⟨rfl, rfl, rfl, rfl, rfl⟩ rfl rfl rfl rfl rfl (by kernel_rfl) Tryd.func8 (by kernel_rfl)
    (of_decide_eq_true (by kernel_rfl)) (by unfold Func.isWrapper; first | (rw [if_pos (by decide +kernel)]; kernel_rfl) | (rw [if_neg (by decide +kernel)]; exact ⟨rfl, rfl⟩))
    (fun os started H enc _ F => by rw [OpenClaim.pre_eq_preRow]; exact lifted os started H enc F)

theorem plain (f : FuncId) (fn : Func) (hf : Tryd.pinned.checked.prog.funcNamed Tryd.f8.name = some f) (hfn : Tryd.pinned.checked.prog.funcs[f]? = some fn) :
    Rows.fnExactFrameSpotsCard.stood.looks = Tryd.pinned.checked.prog.looks [] ∧ ∀ (j : Nat) t, fn.params[j]? = some t → Tryd.pinned.checked.prog.wantsStandIn t = false := by
  obtain rfl : f = 8 := Option.some.inj ((show Tryd.prog.funcNamed Tryd.f8.name = some 8 by kernel_rfl).symm.trans hf) |>.symm
  obtain rfl : fn = Tryd.f8 := (Option.some.inj (Tryd.func8.symm.trans hfn)).symm
  refine ⟨by kernel_rfl, fun j t ht => ?_⟩
  rw [Tryd.params8] at ht
  have hm : t ∈ [9] := by simpa using Array.mem_of_getElem? ht
  simp only [List.mem_cons, List.not_mem_nil, or_false] at hm
  rcases hm with rfl
  · exact (show Tryd.prog.wantsStandIn 9 = false by kernel_rfl)

end Go.Proofs.YthagjamgmlbhkaaDoor.fnExactFrameSpots
namespace Go.Proofs.YthagjamgmlbhkaaDoor
theorem fnExactFrameSpots_card : Rows.FnExactFrameSpotsCardSaid :=
  Claim7.holds_tied_plain_at .later [] _ _ _ _ fnExactFrameSpots.said (fun _ h => by cases h) (by kernel_rfl) (fun _ h => by cases h) fnExactFrameSpots_row_tie rfl ⟨rfl, rfl⟩ (by kernel_rfl) rfl fnExactFrameSpots.plain (by kernel_rfl)
#print axioms fnExactFrameSpots_card
end Go.Proofs.YthagjamgmlbhkaaDoor
