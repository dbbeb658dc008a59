/- impl.ReadFrame answers at every text as the specification's ReadFrame; nothing that came in is written, and the table of sixteen stays. For every text; the table lies as the program's text lays it (the card ties it). -/
import Derived.Test.YthagjamgmlbhkaaDoorCards
import Derived.Test.YthagjamgmlbhkaaDoorTie
import Derived.Test.YthagjamgmlbhkaaDoorIFrame2Walks
import Derived.WalkKit
import Derived.ProofKit
import Derived.OpenShut
import Derived.ShutString
import Derived.ChangeOld
import Derived.Below
import Derived.Deep.DeepHandedRow
import Derived.Lib.LaidTab
import Derived.Stop.LaidErr
import Derived.ChangeVars
namespace Go.Proofs.YthagjamgmlbhkaaDoor.fnExactReadFrame
open Go.ChangeShapes Go.WideShapes Go.ChangeAt Go.RowKit
open Go.ChangeMaps (open_string shut_string)
set_option linter.unusedVariables false

theorem own : ownKnob Tryd.prog.godebug = none := by kernel_rfl
theorem laidOut : laidOutB Tryd.prog = true := by kernel_rfl
theorem gTab : Tryd.prog.globalNamed "loop.example/g01412/impl.sumTable" = some 5 := by kernel_rfl
theorem gTabType : (Tryd.prog.globals[5]?).map (·.type) = some 101 := by kernel_rfl
theorem cellsTab : Tryd.prog.cellsOf 101 = 16 := by kernel_rfl
theorem cells32 : Tryd.prog.cellsOf 85 = 1 := by kernel_rfl
theorem tabEq : (Rows.laid_loop_example_g01412_impl_sumTable : DataW Unit) = Lib.tabData .u32 tabZ := by kernel_rfl
theorem laidEq : Rows.fnExactReadFrameRow.laid = [("loop.example/g01412/impl.sumTable", Lib.tabData .u32 tabZ)] := by rw [← tabEq]; rfl

/-- What the row's list gives: the table of sixteen. -/
theorem table {W : World} (h : laidMetH Tryd.prog Rows.fnExactReadFrameRow.laid W) : Lib.TabIs Tryd.prog W "loop.example/g01412/impl.sumTable" .u32 tabZ := by
  have h1 : laidMet Tryd.prog Rows.fnExactReadFrameRow.laid W := h
  rw [laidEq] at h1
  exact Lib.tabIs_of_head (rest := []) gTab gTabType Tryd.underlying101 Tryd.underlying85 cells32 cellsTab h1

def tabCells : Array Value := (tabZ.map fun z => Value.int .u32 z).toArray
theorem reads_table {H : Type} (enc : TypeId × Value → H) (W : World) (sp : Nat → Bool) : DataW.trod enc Tryd.prog W 0 sp true 3 101 tabCells.toList = some (Lib.tabData .u32 tabZ, []) := by kernel_rfl
theorem var_below {W W' : World} (bel : Below W.heap.size W W') {cs : Array Value} (h : W.var? Tryd.prog "loop.example/g01412/impl.sumTable" = some cs) : W'.var? Tryd.prog "loop.example/g01412/impl.sumTable" = some cs := by
  simp only [World.var?, gTab, Option.bind_some] at h ⊢
  rcases Nat.lt_or_ge 5 W.heap.size with hl | hl
  · rw [bel.block 5 hl]
    exact h
  · rw [Array.getElem?_eq_none hl] at h
    cases h

def tabInto (d : DataW Unit) (o : Obj) : Obj := match o with
  | .cells _ t frozen => .cells (match d with | .agg l => (l.map fun x => match x with | .lit (.int k n) => Value.int k n | _ => Value.bool false).toArray | _ => #[]) t frozen
  | o => o

theorem walk (a0 : ByteArray) (w0 : a0.size ≤ maxLen) (w : World) (htab : Lib.TabIs Tryd.prog w "loop.example/g01412/impl.sumTable" .u32 tabZ) :
    Calls Tryd.prog 5 #[.string a0] w fun e w' => e = .returned (.bool true) ∧ Below w.heap.size w w' := by
  unfold maxLen at w0
  have HT : Hid (TabAt w) := tab_of htab
  clear htab
  by_cases hb : 1048576 < a0.size
  · go_enter Tryd.func5, Tryd.ntmps5
    go_wp2
    go_ret
    exact ⟨rfl, Below.refl _ _⟩
  · have hs : a0.size ≤ 1048576 := by omega
    have CS : Hid (∀ X, _) := fun X => sReadFrame_calls a0.data.toList X hs
    have CI : Hid (∀ X, TabAt X → _) := fun X hX => iReadFrame_calls a0.data.toList X hX hs
    cases hr : rdF a0.data.toList with
    | none =>
      rw [hr] at CS CI
      clear hr
      go_enter Tryd.func5, Tryd.ntmps5
      go_wp2_with fail
      refine (CS.out _).mono ?_
      rintro e w1 ⟨rfl, b1⟩
      have HT1 : Hid (TabAt w1) := tab_below HT.out b1 (tab_pos HT.out)
      unfold ansF
      go_wp2_with fail
      refine (CI.out _ HT1.out).mono ?_
      rintro e w2 ⟨rfl, b2⟩
      unfold ansF
      go_wp2
      go_ret
      exact ⟨rfl, b1.trans (b2.mono b1.size)⟩
    | some x =>
      obtain ⟨q, t, k⟩ := x
      rw [hr] at CS CI
      clear hr
      go_enter Tryd.func5, Tryd.ntmps5
      go_wp2_with fail
      refine (CS.out _).mono ?_
      rintro e w1 ⟨rfl, b1⟩
      have HT1 : Hid (TabAt w1) := tab_below HT.out b1 (tab_pos HT.out)
      unfold ansF
      go_wp2_with fail
      refine (CI.out _ HT1.out).mono ?_
      rintro e w2 ⟨rfl, b2⟩
      unfold ansF
      go_wp2
      go_ret
      exact ⟨rfl, b1.trans (b2.mono b1.size)⟩

set_option maxRecDepth 100000 in
theorem contract (H : Type) (enc : TypeId × Value → H) (W : World) (base : Nat) (args : Array Value) (ds gs : List (DataW H)) (before : List MemPlace)
    (hval : ∀ (j : Nat) t v, Tryd.f5.params[j]? = some t → args[j]? = some v → Value.okWide Tryd.prog W .any base t v)
    (hW : DataW.Whole enc Tryd.prog Tryd.f5.params.toList Rows.fnExactReadFrameSpec.vars false W args.toList ds gs before) (hL : laidMetH Tryd.prog Rows.fnExactReadFrameRow.laid W) :
    Calls Tryd.prog 5 args W fun e W' => ∃ v, e = .returned v ∧ Rows.fnExactReadFrameSpec.post enc Tryd.prog Tryd.f5 false true false false W args v W' := by
  have hW' := hW
  obtain ⟨p, q, hA0, hV0, rfl, hfz, hnd⟩ := hW
  have hV : DataW.TrodVars enc Tryd.prog W (fun _ => true) ["loop.example/g01412/impl.sumTable"] gs q := hV0
  have hA : DataW.TrodAll enc Tryd.prog W 0 (fun _ => true) true Tryd.f5.params.toList args.toList ds p := hA0
  rw [Tryd.params5] at hA hval
  obtain ⟨v0, vs0, d0, ds0, p0, q0, hargs, rfl, rfl, h0, r0⟩ := trodAll_cons hA
  obtain ⟨rfl, rfl, rfl⟩ := trodAll_nil r0
  obtain rfl : args = #[v0] := by cases args; simp_all
  obtain ⟨g, t, cs, fuel, d, p', rfl, hg, ht, hvar, hd, rfl⟩ := trodVars_one hV
  obtain rfl := Option.some.inj (gTab.symm.trans hg)
  obtain rfl := Option.some.inj (gTabType.symm.trans ht)
  have hcs : W.var? Tryd.prog "loop.example/g01412/impl.sumTable" = some tabCells := table hL
  obtain rfl : cs = tabCells := Option.some.inj (hvar.symm.trans hcs)
  obtain ⟨rfl, rfl⟩ := DataW.Trod.unique (v := .agg tabCells) ⟨fuel, hd⟩ ⟨3, reads_table enc W _⟩
  obtain ⟨a0, rfl, rfl, rfl, w0⟩ := open_string Tryd.underlying9 (hval 0 9 v0 rfl rfl) h0
  clear hA0 hV0
  refine (walk a0 w0 W (table hL)).mono fun e W' ⟨he, bel⟩ => ?_
  subst he
  exact ⟨_, rfl, _, _, _, [], _, _, hW', trodAll_mk1 (shut_bool Tryd.underlying4 _), (trodAll_cons_mk (shut_string Tryd.underlying9 w0) trodAll_mk0), ⟨5, 101, tabCells, 3, [], [], hg, ht, var_below bel hvar, reads_table enc W' _, rfl, rfl⟩, bel.frame _, fun h => by cases h⟩

theorem laid_met (os : Os) : laidMet Tryd.prog Rows.fnExactReadFrameRow.laid (World.forCall ({ (World.holding Tryd.prog os ⟨#[], #[], []⟩) with heap := (World.holding Tryd.prog os ⟨#[], #[], []⟩).heap.modify 5 (tabInto Rows.laid_loop_example_g01412_impl_sumTable) } : World) (fun _ _ => 0) ⟨#[], #[.string ByteArray.empty], []⟩).memory :=
  laidMet_of_run' 8 (by kernel_rfl) (by kernel_rfl)
theorem reads (os : Os) {H : Type} (enc : TypeId × Value → H) : ∃ places, DataW.whole enc Tryd.prog (World.forCall ({ (World.holding Tryd.prog os ⟨#[], #[], []⟩) with heap := (World.holding Tryd.prog os ⟨#[], #[], []⟩).heap.modify 5 (tabInto Rows.laid_loop_example_g01412_impl_sumTable) } : World) (fun _ _ => 0) ⟨#[], #[.string ByteArray.empty], []⟩).memory Tryd.f5.params.toList Rows.fnExactReadFrameSpec.vars false (#[.string ByteArray.empty] : Array Value).toList 8 = some ([.lit (.string [])], [Lib.tabData .u32 tabZ], places) :=
  ⟨[.cell 5 0, .cell 5 1, .cell 5 2, .cell 5 3, .cell 5 4, .cell 5 5, .cell 5 6, .cell 5 7, .cell 5 8, .cell 5 9, .cell 5 10, .cell 5 11, .cell 5 12, .cell 5 13, .cell 5 14, .cell 5 15], by kernel_rfl⟩

set_option maxRecDepth 100000 in
theorem lifted (os : Os) (started : os.Started) (H : Type) (enc : TypeId × Value → H) (F : Stop.Interp) :
    ReturnsInHanded {} Tryd.checked os 5 .any ((OpenSpec.ofChange Rows.fnExactReadFrameSpec).preRow enc Tryd.prog Tryd.f5 Rows.fnExactReadFrameRow.domain false Rows.fnExactReadFrameRow.laid) (((OpenSpec.ofChange Rows.fnExactReadFrameSpec).at F).post enc Tryd.prog Tryd.f5 false true false false) := by
  obtain ⟨places, hx⟩ := reads os enc
  refine returnsInHanded_of_row (C := Tryd.checked) (s := OpenSpec.ofChange Rows.fnExactReadFrameSpec) own started (by kernel_rfl) Tryd.func5
    (witness_row_at (enc := enc) (C := Tryd.checked) false ({ (World.holding Tryd.prog os ⟨#[], #[], []⟩) with heap := (World.holding Tryd.prog os ⟨#[], #[], []⟩).heap.modify 5 (tabInto Rows.laid_loop_example_g01412_impl_sumTable) } : World) #[.string ByteArray.empty] rfl (by kernel_rfl) (by kernel_rfl) (by kernel_rfl)
      (OpenSpec.preRow_of_cond 8 hx (by kernel_rfl) (fun k hk => by cases hk) (by kernel_rfl) (laid_met os))) ?_
  intro W base args ds gs before hval hW _ _ _ hL _ _
  exact contract H enc W base args ds gs before hval hW hL

theorem said : Rows.FnExactReadFrameSaid :=
  OpenClaim.holds_of_cond 5 Tryd.f5 rfl rfl rfl rfl rfl rfl rfl ⟨rfl, rfl, rfl, rfl, rfl⟩ rfl rfl rfl rfl rfl (by kernel_rfl) Tryd.func5 (by kernel_rfl)
    (of_decide_eq_true (by kernel_rfl)) (by unfold Func.isWrapper; first | (rw [if_pos (by decide +kernel)]; kernel_rfl) | (rw [if_neg (by decide +kernel)]; exact ⟨rfl, rfl⟩))
    (fun os started H enc _ F => by rw [OpenClaim.pre_eq_preRow]; exact lifted os started H enc F)

theorem plain (f : FuncId) (fn : Func) (hf : Tryd.pinned.checked.prog.funcNamed Tryd.f5.name = some f) (hfn : Tryd.pinned.checked.prog.funcs[f]? = some fn) :
    Rows.fnExactReadFrameCard.stood.looks = Tryd.pinned.checked.prog.looks [] ∧ ∀ (j : Nat) t, fn.params[j]? = some t → Tryd.pinned.checked.prog.wantsStandIn t = false := by
  obtain rfl : f = 5 := Option.some.inj ((show Tryd.prog.funcNamed Tryd.f5.name = some 5 by kernel_rfl).symm.trans hf) |>.symm
  obtain rfl : fn = Tryd.f5 := (Option.some.inj (Tryd.func5.symm.trans hfn)).symm
  refine ⟨by kernel_rfl, fun j t ht => ?_⟩
  rw [Tryd.params5] at ht
  have hm : t ∈ [9] := by simpa using Array.mem_of_getElem? ht
  simp only [List.mem_cons, List.not_mem_nil, or_false] at hm
  rcases hm with rfl
  · exact (show Tryd.prog.wantsStandIn 9 = false by kernel_rfl)

end Go.Proofs.YthagjamgmlbhkaaDoor.fnExactReadFrame
namespace Go.Proofs.YthagjamgmlbhkaaDoor
theorem fnExactReadFrame_card : Rows.FnExactReadFrameCardSaid :=
  Claim7.holds_tied_plain_at .later [] _ _ _ _ fnExactReadFrame.said (fun _ h => by cases h) (by kernel_rfl) (fun _ h => by cases h) fnExactReadFrame_row_tie rfl ⟨rfl, rfl⟩ (by kernel_rfl) rfl fnExactReadFrame.plain (by kernel_rfl)
#print axioms fnExactReadFrame_card
end Go.Proofs.YthagjamgmlbhkaaDoor
