/- impl.ShowLog answers at every list of texts as the specification's ShowLog; nothing that came in is written, and the table of sixteen stays. For every list; the table lies as the program's text lays it (the card ties it). -/
import Derived.Test.YthagjamgmlbhkaaDoorCards
import Derived.Test.YthagjamgmlbhkaaDoorTie
import Derived.Test.YthagjamgmlbhkaaDoorSLogWalks
import Derived.Test.YthagjamgmlbhkaaDoorILogWalks
import Derived.Test.YthagjamgmlbhkaaDoorOpenStrs
import Derived.WalkKit
import Derived.ProofKit
import Derived.OpenShut
import Derived.ShutString
import Derived.ChangeOld
import Derived.Below
import Derived.Deep.DeepHandedRow
import Derived.Lib.LaidTab
import Derived.Stop.LaidErr
import Derived.ChangeVars
namespace Go.Proofs.YthagjamgmlbhkaaDoor.fnExactShowLog
open Go.ChangeShapes Go.WideShapes Go.ChangeAt Go.RowKit
open Go.ChangeMaps (open_string shut_string)
set_option linter.unusedVariables false

theorem own : ownKnob Tryd.prog.godebug = none := by kernel_rfl
theorem laidOut : laidOutB Tryd.prog = true := by kernel_rfl
theorem gTab : Tryd.prog.globalNamed "loop.example/g01412/impl.sumTable" = some 5 := by kernel_rfl
theorem gTabType : (Tryd.prog.globals[5]?).map (·.type) = some 101 := by kernel_rfl
theorem cellsTab : Tryd.prog.cellsOf 101 = 16 := by kernel_rfl
theorem cells32 : Tryd.prog.cellsOf 85 = 1 := by kernel_rfl
theorem tabEq : (Rows.laid_loop_example_g01412_impl_sumTable : DataW Unit) = Lib.tabData .u32 tabZ := by kernel_rfl
theorem laidEq : Rows.fnExactShowLogRow.laid = [("loop.example/g01412/impl.sumTable", Lib.tabData .u32 tabZ)] := by rw [← tabEq]; rfl

/-- What the row's list gives: the table of sixteen. -/
theorem table {W : World} (h : laidMetH Tryd.prog Rows.fnExactShowLogRow.laid W) : Lib.TabIs Tryd.prog W "loop.example/g01412/impl.sumTable" .u32 tabZ := by
  have h1 : laidMet Tryd.prog Rows.fnExactShowLogRow.laid W := h
  rw [laidEq] at h1
  exact Lib.tabIs_of_head (rest := []) gTab gTabType Tryd.underlying101 Tryd.underlying85 cells32 cellsTab h1

def tabCells : Array Value := (tabZ.map fun z => Value.int .u32 z).toArray
theorem reads_table {H : Type} (enc : TypeId × Value → H) (W : World) (sp : Nat → Bool) : DataW.trod enc Tryd.prog W 0 sp true 3 101 tabCells.toList = some (Lib.tabData .u32 tabZ, []) := by kernel_rfl
theorem var_below {W W' : World} (bel : Below W.heap.size W W') {cs : Array Value} (h : W.var? Tryd.prog "loop.example/g01412/impl.sumTable" = some cs) : W'.var? Tryd.prog "loop.example/g01412/impl.sumTable" = some cs := by
  simp only [World.var?, gTab, Option.bind_some] at h ⊢
  rcases Nat.lt_or_ge 5 W.heap.size with hl | hl
  · rw [bel.block 5 hl]
    exact h
  · rw [Array.getElem?_eq_none hl] at h
    cases h

def tabInto (d : DataW Unit) (o : Obj) : Obj := match o with
  | .cells _ t frozen => .cells (match d with | .agg l => (l.map fun x => match x with | .lit (.int k n) => Value.int k n | _ => Value.bool false).toArray | _ => #[]) t frozen
  | o => o

set_option maxHeartbeats 1000000 in
theorem walk (a0 : Option Addr) (cap0 : Nat) (z0 : List (List UInt8)) (w : World) (w0 : RdS w a0 z0) (y0 : z0.length ≤ 9223372036854775807) (x0 : ∀ z ∈ z0, z.length ≤ 9223372036854775807) (htab : Lib.TabIs Tryd.prog w "loop.example/g01412/impl.sumTable" .u32 tabZ) :
    Calls Tryd.prog 6 #[.slice a0 z0.length cap0] w fun e w' => e = .returned (.bool true) ∧ Below w.heap.size w w' := by
  have HT : Hid (TabAt w) := tab_of htab
  have HR : Hid (RdS w a0 z0) := w0
  have HS := szS_facts z0 1048576
  have CZ : Hid (∀ (_ : Unit), _) := fun _ => szStringS_calls w a0 cap0 z0 1048576 w0 y0 x0 (by omega) (by omega)
  clear htab w0 x0
  generalize szS z0 1048576 = S at *
  by_cases hS : S < 0
  · clear HS
    generalize z0.length = n at *
    go_enter Tryd.func6, Tryd.ntmps6
    go_wp2_with fail
    refine (CZ.out ()).mono ?_
    rintro e w1 ⟨rfl, rfl⟩
    go_wp2
    go_ret
    exact ⟨rfl, Below.refl _ _⟩
  · obtain ⟨hl, hz⟩ := HS (by omega)
    have HL : Hid (z0.length ≤ 16777216) := by show _ ≤ _; omega
    have HZ : Hid (∀ z ∈ z0, z.length ≤ 1048576) := fun z h => by have := hz z h; omega
    have CT : Hid (∀ X, RdS X a0 z0 → _) := fun X hX => toStringS_calls X a0 cap0 z0 hX HL.out
    have CS : Hid (∀ X v cp, RdS X v z0 → _) := fun X v cp hX => sShowLog_calls X v cp z0 hX HL.out HZ.out
    have CI : Hid (∀ X v cp, TabAt X → RdS X v z0 → _) := fun X v cp hT hX => iShowLog_calls X v cp z0 hT hX HL.out HZ.out
    have CE : Hid (∀ X v u c1 c2, RdS X v z0 → RdS X u z0 → _) := fun X v u c1 c2 h1 h2 => eqStringS_rd X v u c1 c2 z0 h1 h2 HL.out
    clear hz
    generalize showL z0 = R at *
    go_enter Tryd.func6, Tryd.ntmps6
    go_wp2_with fail
    refine (CZ.out ()).mono ?_
    rintro e w1 ⟨rfl, rfl⟩
    go_wp2_with fail
    refine (CT.out _ HR.out).mono ?_
    rintro e w2 ⟨v2, rfl, O2, B2⟩
    obtain ⟨p2, c2, rfl, R2⟩ := rdS_own O2
    clear O2
    go_wp2_with fail
    refine (CS.out _ _ _ R2.out).mono ?_
    rintro e w3 ⟨rfl, b3⟩
    have B3 := B2.trans (b3.mono B2.size)
    clear b3 B2 R2
    have R3 : Hid (RdS w3 a0 z0) := rdS_later HR.out B3
    go_wp2_with fail
    refine (CT.out _ R3.out).mono ?_
    rintro e w4 ⟨v4, rfl, O4, b4⟩
    have B4 := B3.trans (b4.mono B3.size)
    clear b4 B3 R3
    obtain ⟨p4, c4, rfl, R4⟩ := rdS_own O4
    clear O4
    have HT4 : Hid (TabAt w4) := tab_below HT.out B4 (tab_pos HT.out)
    go_wp2_with fail
    refine (CI.out _ _ _ HT4.out R4.out).mono ?_
    rintro e w5 ⟨rfl, b5⟩
    have B5 := B4.trans (b5.mono B4.size)
    have R5 : Hid (RdS w5 p4 z0) := rdS_later R4.out b5
    have R5a : Hid (RdS w5 a0 z0) := rdS_later HR.out B5
    clear b5 B4 R4 HT4
    go_wp2_with fail
    refine (CT.out _ R5a.out).mono ?_
    rintro e w6 ⟨v6, rfl, O6, b6⟩
    have B6 := B5.trans (b6.mono B5.size)
    have R6 : Hid (RdS w6 p4 z0) := rdS_later R5.out b6
    obtain ⟨p6, c6, rfl, Q6⟩ := rdS_own O6
    clear b6 B5 R5 R5a O6
    go_wp2_with fail
    refine (CE.out _ _ _ _ _ R6.out Q6.out).mono ?_
    rintro e w7 ⟨rfl, b7⟩
    have B7 := B6.trans (b7.mono B6.size)
    go_wp2
    go_ret
    exact ⟨rfl, B7⟩

set_option maxRecDepth 100000 in
theorem contract (H : Type) (enc : TypeId × Value → H) (W : World) (base : Nat) (args : Array Value) (ds gs : List (DataW H)) (before : List MemPlace)
    (hval : ∀ (j : Nat) t v, Tryd.f6.params[j]? = some t → args[j]? = some v → Value.okWide Tryd.prog W .any base t v)
    (hW : DataW.Whole enc Tryd.prog Tryd.f6.params.toList Rows.fnExactShowLogSpec.vars false W args.toList ds gs before) (hL : laidMetH Tryd.prog Rows.fnExactShowLogRow.laid W) :
    Calls Tryd.prog 6 args W fun e W' => ∃ v, e = .returned v ∧ Rows.fnExactShowLogSpec.post enc Tryd.prog Tryd.f6 false true false false W args v W' := by
  have hW' := hW
  obtain ⟨p, q, hA0, hV0, rfl, hfz, hnd⟩ := hW
  have hV : DataW.TrodVars enc Tryd.prog W (fun _ => true) ["loop.example/g01412/impl.sumTable"] gs q := hV0
  have hA : DataW.TrodAll enc Tryd.prog W 0 (fun _ => true) true Tryd.f6.params.toList args.toList ds p := hA0
  rw [Tryd.params6] at hA hval
  obtain ⟨v0, vs0, d0, ds0, p0, q0, hargs, rfl, rfl, h0, r0⟩ := trodAll_cons hA
  obtain ⟨rfl, rfl, rfl⟩ := trodAll_nil r0
  obtain rfl : args = #[v0] := by cases args; simp_all
  obtain ⟨g, t, cs, fuel, d, p', rfl, hg, ht, hvar, hd, rfl⟩ := trodVars_one hV
  obtain rfl := Option.some.inj (gTab.symm.trans hg)
  obtain rfl := Option.some.inj (gTabType.symm.trans ht)
  have hcs : W.var? Tryd.prog "loop.example/g01412/impl.sumTable" = some tabCells := table hL
  obtain rfl : cs = tabCells := Option.some.inj (hvar.symm.trans hcs)
  obtain ⟨rfl, rfl⟩ := DataW.Trod.unique (v := .agg tabCells) ⟨fuel, hd⟩ ⟨3, reads_table enc W _⟩
  obtain ⟨a0, len0, cap0, rfl⟩ := okWide_slice Tryd.underlying24 (hval 0 24 v0 rfl rfl)
  have k0 := h0
  have lt0 : ∀ x ∈ p0, x.block < W.heap.size := by obtain ⟨m, hm⟩ := k0; exact DataW.trod_lt m _ _ _ hm
  obtain ⟨z0, rfl, w0, y0, x0⟩ : ∃ zs : List (List UInt8), len0 = zs.length ∧ RdS W a0 zs ∧ zs.length ≤ 9223372036854775807 ∧ ∀ z ∈ zs, z.length ≤ 9223372036854775807 := by
    obtain ⟨fuel, hf⟩ := h0
    obtain ⟨a', zs, cap', hcs, h1, h2, h3⟩ := opened_strs hf
    simp [Value.cells] at hcs
    obtain ⟨rfl, rfl, rfl⟩ := hcs
    exact ⟨zs, rfl, h1, h2, h3⟩
  clear hA0 hV0
  refine (walk a0 cap0 z0 W w0 y0 x0 (table hL)).mono fun e W' ⟨he, bel⟩ => ?_
  subst he
  exact ⟨_, rfl, _, _, _, [], _, _, hW', trodAll_mk1 (shut_bool Tryd.underlying4 _), (trodAll_cons_mk (Below.trod laidOut (by kernel_rfl) (of_decide_eq_true (by kernel_rfl)) k0 bel lt0) trodAll_mk0), ⟨5, 101, tabCells, 3, [], [], hg, ht, var_below bel hvar, reads_table enc W' _, rfl, rfl⟩, bel.frame _, fun h => by cases h⟩

theorem laid_met (os : Os) : laidMet Tryd.prog Rows.fnExactShowLogRow.laid (World.forCall ({ (World.holding Tryd.prog os ⟨#[], #[], []⟩) with heap := (World.holding Tryd.prog os ⟨#[], #[], []⟩).heap.modify 5 (tabInto Rows.laid_loop_example_g01412_impl_sumTable) } : World) (fun _ _ => 0) ⟨#[], #[.slice none 0 0], []⟩).memory :=
  laidMet_of_run' 8 (by kernel_rfl) (by kernel_rfl)
theorem reads (os : Os) {H : Type} (enc : TypeId × Value → H) : ∃ places, DataW.whole enc Tryd.prog (World.forCall ({ (World.holding Tryd.prog os ⟨#[], #[], []⟩) with heap := (World.holding Tryd.prog os ⟨#[], #[], []⟩).heap.modify 5 (tabInto Rows.laid_loop_example_g01412_impl_sumTable) } : World) (fun _ _ => 0) ⟨#[], #[.slice none 0 0], []⟩).memory Tryd.f6.params.toList Rows.fnExactShowLogSpec.vars false (#[.slice none 0 0] : Array Value).toList 8 = some ([.nil], [Lib.tabData .u32 tabZ], places) :=
  ⟨[.cell 5 0, .cell 5 1, .cell 5 2, .cell 5 3, .cell 5 4, .cell 5 5, .cell 5 6, .cell 5 7, .cell 5 8, .cell 5 9, .cell 5 10, .cell 5 11, .cell 5 12, .cell 5 13, .cell 5 14, .cell 5 15], by kernel_rfl⟩

set_option maxRecDepth 100000 in
theorem lifted (os : Os) (started : os.Started) (H : Type) (enc : TypeId × Value → H) (F : Stop.Interp) :
    ReturnsInHanded {} Tryd.checked os 6 .any ((OpenSpec.ofChange Rows.fnExactShowLogSpec).preRow enc Tryd.prog Tryd.f6 Rows.fnExactShowLogRow.domain false Rows.fnExactShowLogRow.laid) (((OpenSpec.ofChange Rows.fnExactShowLogSpec).at F).post enc Tryd.prog Tryd.f6 false true false false) := by
  obtain ⟨places, hx⟩ := reads os enc
  refine returnsInHanded_of_row (C := Tryd.checked) (s := OpenSpec.ofChange Rows.fnExactShowLogSpec) own started (by kernel_rfl) Tryd.func6
    (witness_row_at (enc := enc) (C := Tryd.checked) false ({ (World.holding Tryd.prog os ⟨#[], #[], []⟩) with heap := (World.holding Tryd.prog os ⟨#[], #[], []⟩).heap.modify 5 (tabInto Rows.laid_loop_example_g01412_impl_sumTable) } : World) #[.slice none 0 0] rfl (by kernel_rfl) (by kernel_rfl) (by kernel_rfl)
      (OpenSpec.preRow_of_cond 8 hx (by kernel_rfl) (fun k hk => by cases hk) (by kernel_rfl) (laid_met os))) ?_
  intro W base args ds gs before hval hW _ _ _ hL _ _
  exact contract H enc W base args ds gs before hval hW hL

theorem said : Rows.FnExactShowLogSaid :=
  OpenClaim.holds_of_cond 6 Tryd.f6 rfl rfl rfl rfl rfl rfl rfl ⟨rfl, rfl, rfl, rfl, rfl⟩ rfl rfl rfl rfl rfl (by kernel_rfl) Tryd.func6 (by kernel_rfl)
    (of_decide_eq_true (by kernel_rfl)) (by unfold Func.isWrapper; first | (rw [if_pos (by decide +kernel)]; kernel_rfl) | (rw [if_neg (by decide +kernel)]; exact ⟨rfl, rfl⟩))
    (fun os started H enc _ F => by rw [OpenClaim.pre_eq_preRow]; exact lifted os started H enc F)

theorem plain (f : FuncId) (fn : Func) (hf : Tryd.pinned.checked.prog.funcNamed Tryd.f6.name = some f) (hfn : Tryd.pinned.checked.prog.funcs[f]? = some fn) :
    Rows.fnExactShowLogCard.stood.looks = Tryd.pinned.checked.prog.looks [] ∧ ∀ (j : Nat) t, fn.params[j]? = some t → Tryd.pinned.checked.prog.wantsStandIn t = false := by
  obtain rfl : f = 6 := Option.some.inj ((show Tryd.prog.funcNamed Tryd.f6.name = some 6 by kernel_rfl).symm.trans hf) |>.symm
  obtain rfl : fn = Tryd.f6 := (Option.some.inj (Tryd.func6.symm.trans hfn)).symm
  refine ⟨by kernel_rfl, fun j t ht => ?_⟩
  rw [Tryd.params6] at ht
  have hm : t ∈ [24] := by simpa using Array.mem_of_getElem? ht
  simp only [List.mem_cons, List.not_mem_nil, or_false] at hm
  rcases hm with rfl
  · exact (show Tryd.prog.wantsStandIn 24 = false by kernel_rfl)

end Go.Proofs.YthagjamgmlbhkaaDoor.fnExactShowLog
namespace Go.Proofs.YthagjamgmlbhkaaDoor
theorem fnExactShowLog_card : Rows.FnExactShowLogCardSaid :=
  Claim7.holds_tied_plain_at .later [] _ _ _ _ fnExactShowLog.said (fun _ h => by cases h) (by kernel_rfl) (fun _ h => by cases h) fnExactShowLog_row_tie rfl ⟨rfl, rfl⟩ (by kernel_rfl) rfl fnExactShowLog.plain (by kernel_rfl)
#print axioms fnExactShowLog_card
end Go.Proofs.YthagjamgmlbhkaaDoor
