/- impl.Speakable answers at every operation as the specification's Speakable, and writes nothing that was there. For every operation that comes in; no condition. -/
import Derived.Test.YtebgngofnmcklaaDoorCards
import Derived.Test.YtebgngofnmcklaaDoorTie
import Derived.Test.YtebgngofnmcklaaDoorEvLaid
import Derived.Test.YtebgngofnmcklaaDoorEvSpeak
import Derived.Test.YtebgngofnmcklaaDoorOpBase
import Derived.WalkKit
import Derived.ProofKit
import Derived.OpenShut
import Derived.ShutString
import Derived.ChangeOld
import Derived.Below
import Derived.Deep.DeepHandedRow
import Derived.ChangeVars
namespace Go.Proofs.YtebgngofnmcklaaDoor.fnExactSpeakable
open Go.ChangeShapes Go.WideShapes Go.ChangeAt Go.RowKit
open Go.ChangeMaps (open_string shut_string)
set_option linter.unusedVariables false

theorem own : ownKnob Tryd.prog.godebug = none := by kernel_rfl
theorem laidOut : laidOutB Tryd.prog = true := by kernel_rfl

def errInto (b : Nat) (o : Obj) : Obj := match o with
  | .cells _ t frozen => .cells #[.iface 114 (.pointer (some ⟨b, 0, none⟩))] t frozen
  | o => o

theorem walk (v0 : Value) (D0 : OpD) (w : World) (w0 : v0 = opV D0) (y0 : SaneOp D0) {ev : Value} (E : EvE w ev) :
    Calls Tryd.prog 3 #[v0] w fun e w' => e = .returned (.bool true) ∧ Below w.heap.size w w' := by
  subst w0
  obtain ⟨q, hq⟩ := bool_of (SpeakO D0)
  obtain ⟨W, hW⟩ : ∃ W, W = w.alloc (.cells #[.int .i64 D0.kind, .int .i64 D0.a, .int .i64 D0.b, .int .i64 D0.c, .string (txt D0.site)] 23) := ⟨_, rfl⟩
  have BW : Below w.heap.size w W := by rw [hW]; exact (Below.refl _ _).alloc (Nat.le_refl _) _
  have hsz : W.heap.size = w.heap.size + 1 := by rw [hW]; simp
  have HK : Hid (∀ Y, Below W.heap.size W Y → OpAt w.heap.size D0 Y) := fun Y hY k => by
    rw [hY.cell (p := ⟨w.heap.size, k, none⟩) (by show w.heap.size < _; omega), hW, World.cell?_alloc_mark]
  have CZ : Hid (∀ _ : Unit, _) := fun (_ : Unit) => szOp_calls W D0 1048576 y0.site (by omega) (by omega)
  have HQ : Hid (q = true ↔ SpeakO D0) := hq
  have CT : Hid (∀ X : World, _) := fun X => toOp_calls X D0
  have HE : Hid (∀ Y, Below w.heap.size w Y → EvE Y ev) := fun Y hY => evE_later E hY
  by_cases hz : 1048576 - (D0.site.length : Int) < 0
  · rw [if_pos hz] at CZ
    clear hq E
    unfold opV at CZ ⊢
    go_enter Tryd.func3, Tryd.ntmps3
    go_wp2_with fail
    rw [← hW]
    refine (CZ.out ()).mono ?_
    rintro e w1 ⟨rfl, b1⟩
    clear hW
    have B1 := BW.trans (b1.mono BW.size)
    go_wp2
    go_ret
    exact ⟨rfl, B1⟩
  · rw [if_neg hz] at CZ
    have hl : D0.site.length ≤ 1048576 := by omega
    have hz' : ¬ 1048576 - (D0.site.length : Int) < 0 := hz
    have CS : Hid (∀ X : World, _) := fun X => sSpeakable_calls D0 X (by omega) q hq
    have CI : Hid (∀ X, EvE X ev → _) := fun X hX => iSpeakable_calls D0 X hl y0 ev hX q hq
    clear hq E
    generalize 1048576 - (D0.site.length : Int) = z at *
    unfold opV at *
    go_enter Tryd.func3, Tryd.ntmps3
    go_wp2_with fail
    rw [← hW]
    refine (CZ.out ()).mono ?_
    rintro e w1 ⟨rfl, b1⟩
    clear hW
    obtain ⟨c0, c1, c2, c3, c4⟩ := (HK.out _ b1).cells
    go_wp2_with fail
    refine (CT.out _).mono ?_
    rintro e w2 ⟨rfl, b2⟩
    go_wp2_with fail
    refine (CS.out _).mono ?_
    rintro e w3 ⟨rfl, b3⟩
    have T3 := b1.trans ((b2.trans (b3.mono b2.size)).mono b1.size)
    clear b1 b2 b3 c0 c1 c2 c3 c4
    obtain ⟨c0, c1, c2, c3, c4⟩ := (HK.out _ T3).cells
    go_wp2_with fail
    refine (CT.out _).mono ?_
    rintro e w4 ⟨rfl, b4⟩
    have T4 := T3.trans (b4.mono T3.size)
    have B4 := BW.trans (T4.mono BW.size)
    go_wp2_with fail
    refine (CI.out _ (HE.out _ B4)).mono ?_
    rintro e w5 ⟨rfl, b5⟩
    have B5 := B4.trans (b5.mono B4.size)
    cases q
    all_goals
      go_wp2
      go_ret
      exact ⟨rfl, B5⟩

set_option maxRecDepth 100000 in
theorem contract (H : Type) (enc : TypeId × Value → H) (W : World) (base : Nat) (args : Array Value) (ds gs : List (DataW H)) (before : List MemPlace)
    (hval : ∀ (j : Nat) t v, Tryd.f3.params[j]? = some t → args[j]? = some v → Value.okWide Tryd.prog W .any base t v)
    (hW : DataW.Whole enc Tryd.prog Tryd.f3.params.toList Rows.fnExactSpeakableSpec.vars false W args.toList ds gs before) (hL : laidMetH Tryd.prog Rows.fnExactSpeakableRow.laid W) :
    Calls Tryd.prog 3 args W fun e W' => ∃ v, e = .returned v ∧ Rows.fnExactSpeakableSpec.post enc Tryd.prog Tryd.f3 false true false false W args v W' := by
  have hW' := hW
  obtain ⟨p, q, hA0, hV0, rfl, hfz, hnd⟩ := hW
  have hV : DataW.TrodVars enc Tryd.prog W (fun _ => true) ["loop.example/g01412/impl.errEvent"] gs q := hV0
  have hA : DataW.TrodAll enc Tryd.prog W 0 (fun _ => true) true Tryd.f3.params.toList args.toList ds p := hA0
  rw [Tryd.params3] at hA hval
  obtain ⟨v0, vs0, d0, ds0, p0, q0, hargs, rfl, rfl, h0, r0⟩ := trodAll_cons hA
  obtain ⟨rfl, rfl, rfl⟩ := trodAll_nil r0
  obtain rfl : args = #[v0] := by cases args; simp_all
  obtain ⟨g1, rfl⟩ : ∃ g1, gs = [g1] := by
    have hlen := trodVars_length hV
    match gs, hlen with
    | [g1], _ => exact ⟨_, rfl⟩
  have k0 := h0
  have lt0 : ∀ x ∈ p0, x.block < W.heap.size := by obtain ⟨m, hm⟩ := k0; exact DataW.trod_lt m _ _ _ hm
  obtain ⟨D0, w0, y0⟩ := opened_op (hval 0 23 v0 rfl rfl) h0
  clear hA0 hV0
  have hL1 : laidMet Tryd.prog [("loop.example/g01412/impl.errEvent", Rows.laid_loop_example_g01412_impl_errEvent)] W := hL
  obtain ⟨ev, E⟩ := ev_of hL1
  refine (walk v0 D0 W w0 y0 E).mono fun e W' ⟨he, bel⟩ => ?_
  subst he
  exact ⟨_, rfl, _, _, _, [], _, _, hW', trodAll_mk1 (shut_bool Tryd.underlying4 _), (trodAll_cons_mk (Below.trod laidOut (by kernel_rfl) (of_decide_eq_true (by kernel_rfl)) k0 bel lt0) trodAll_mk0), Below.trodVars laidOut bel (by kernel_rfl) hV, bel.frame _, fun h => by cases h⟩

theorem laid_met (os : Os) : laidMet Tryd.prog Rows.fnExactSpeakableRow.laid (World.forCall ({ (World.holding Tryd.prog os ⟨#[.cells #[.string { data := #[101, 118, 101, 110, 116, 58, 32, 110, 111, 116, 32, 116, 111, 32, 98, 101, 32, 119, 114, 105, 116, 116, 101, 110, 32, 100, 111, 119, 110] }] 131], #[], []⟩) with heap := ((World.holding Tryd.prog os ⟨#[.cells #[.string { data := #[101, 118, 101, 110, 116, 58, 32, 110, 111, 116, 32, 116, 111, 32, 98, 101, 32, 119, 114, 105, 116, 116, 101, 110, 32, 100, 111, 119, 110] }] 131], #[], []⟩).heap.modify 0 (errInto ((World.holding Tryd.prog default ⟨#[], #[], []⟩).heap.size + 0))) } : World) (fun _ _ => 0) ⟨#[], #[.agg #[.int .i64 0, .int .i64 0, .int .i64 0, .int .i64 0, .string ByteArray.empty]], []⟩).memory :=
  laidMet_of_run' 8 (by kernel_rfl) (by kernel_rfl)
theorem reads (os : Os) {H : Type} (enc : TypeId × Value → H) : ∃ x, DataW.whole enc Tryd.prog (World.forCall ({ (World.holding Tryd.prog os ⟨#[.cells #[.string { data := #[101, 118, 101, 110, 116, 58, 32, 110, 111, 116, 32, 116, 111, 32, 98, 101, 32, 119, 114, 105, 116, 116, 101, 110, 32, 100, 111, 119, 110] }] 131], #[], []⟩) with heap := ((World.holding Tryd.prog os ⟨#[.cells #[.string { data := #[101, 118, 101, 110, 116, 58, 32, 110, 111, 116, 32, 116, 111, 32, 98, 101, 32, 119, 114, 105, 116, 116, 101, 110, 32, 100, 111, 119, 110] }] 131], #[], []⟩).heap.modify 0 (errInto ((World.holding Tryd.prog default ⟨#[], #[], []⟩).heap.size + 0))) } : World) (fun _ _ => 0) ⟨#[], #[.agg #[.int .i64 0, .int .i64 0, .int .i64 0, .int .i64 0, .string ByteArray.empty]], []⟩).memory Tryd.f3.params.toList Rows.fnExactSpeakableSpec.vars false (#[.agg #[.int .i64 0, .int .i64 0, .int .i64 0, .int .i64 0, .string ByteArray.empty]] : Array Value).toList 8 = some x :=
  Option.isSome_iff_exists.1 (by kernel_rfl)

set_option maxRecDepth 100000 in
theorem lifted (os : Os) (started : os.Started) (H : Type) (enc : TypeId × Value → H) (F : Stop.Interp) :
    ReturnsInHanded {} Tryd.checked os 3 .any ((OpenSpec.ofChange Rows.fnExactSpeakableSpec).preRow enc Tryd.prog Tryd.f3 Rows.fnExactSpeakableRow.domain false Rows.fnExactSpeakableRow.laid) (((OpenSpec.ofChange Rows.fnExactSpeakableSpec).at F).post enc Tryd.prog Tryd.f3 false true false false) := by
  obtain ⟨x, hx⟩ := reads os enc
  refine returnsInHanded_of_row (C := Tryd.checked) (s := OpenSpec.ofChange Rows.fnExactSpeakableSpec) own started (by kernel_rfl) Tryd.func3
    (witness_row_at (enc := enc) (C := Tryd.checked) false ({ (World.holding Tryd.prog os ⟨#[.cells #[.string { data := #[101, 118, 101, 110, 116, 58, 32, 110, 111, 116, 32, 116, 111, 32, 98, 101, 32, 119, 114, 105, 116, 116, 101, 110, 32, 100, 111, 119, 110] }] 131], #[], []⟩) with heap := ((World.holding Tryd.prog os ⟨#[.cells #[.string { data := #[101, 118, 101, 110, 116, 58, 32, 110, 111, 116, 32, 116, 111, 32, 98, 101, 32, 119, 114, 105, 116, 116, 101, 110, 32, 100, 111, 119, 110] }] 131], #[], []⟩).heap.modify 0 (errInto ((World.holding Tryd.prog default ⟨#[], #[], []⟩).heap.size + 0))) } : World) #[.agg #[.int .i64 0, .int .i64 0, .int .i64 0, .int .i64 0, .string ByteArray.empty]] rfl (by kernel_rfl) (by kernel_rfl) (by kernel_rfl)
      (OpenSpec.preRow_of_cond 8 hx rfl (fun k hk => by cases hk) (by kernel_rfl) (laid_met os))) ?_
  intro W base args ds gs before hval hW _ _ _ hL _ _
  exact contract H enc W base args ds gs before hval hW hL

theorem said : Rows.FnExactSpeakableSaid :=
  OpenClaim.holds_of_cond 3 Tryd.f3 rfl rfl rfl rfl rfl rfl rfl ⟨rfl, rfl, rfl, rfl, rfl⟩ rfl rfl rfl rfl rfl (by kernel_rfl) Tryd.func3 (by kernel_rfl)
    (of_decide_eq_true (by kernel_rfl)) (by unfold Func.isWrapper; first | (rw [if_pos (by decide +kernel)]; kernel_rfl) | (rw [if_neg (by decide +kernel)]; exact ⟨rfl, rfl⟩))
    (fun os started H enc _ F => by rw [OpenClaim.pre_eq_preRow]; exact lifted os started H enc F)

theorem plain (f : FuncId) (fn : Func) (hf : Tryd.pinned.checked.prog.funcNamed Tryd.f3.name = some f) (hfn : Tryd.pinned.checked.prog.funcs[f]? = some fn) :
    Rows.fnExactSpeakableCard.stood.looks = Tryd.pinned.checked.prog.looks [] ∧ ∀ (j : Nat) t, fn.params[j]? = some t → Tryd.pinned.checked.prog.wantsStandIn t = false := by
  obtain rfl : f = 3 := Option.some.inj ((show Tryd.prog.funcNamed Tryd.f3.name = some 3 by kernel_rfl).symm.trans hf) |>.symm
  obtain rfl : fn = Tryd.f3 := (Option.some.inj (Tryd.func3.symm.trans hfn)).symm
  refine ⟨by kernel_rfl, fun j t ht => ?_⟩
  rw [Tryd.params3] at ht
  have hm : t ∈ [23] := by simpa using Array.mem_of_getElem? ht
  simp only [List.mem_cons, List.not_mem_nil, or_false] at hm
  rcases hm with rfl
  · exact (show Tryd.prog.wantsStandIn 23 = false by kernel_rfl)

end Go.Proofs.YtebgngofnmcklaaDoor.fnExactSpeakable
namespace Go.Proofs.YtebgngofnmcklaaDoor
theorem fnExactSpeakable_card : Rows.FnExactSpeakableCardSaid :=
  Claim7.holds_tied_plain_at .later [] _ _ _ _ fnExactSpeakable.said (fun _ h => by cases h) (by kernel_rfl) (fun _ h => by cases h) fnExactSpeakable_row_tie rfl ⟨rfl, rfl⟩ (by kernel_rfl) rfl fnExactSpeakable.plain (by kernel_rfl)
#print axioms fnExactSpeakable_card
end Go.Proofs.YtebgngofnmcklaaDoor
