/- impl.ShowEvent answers at every pen, operation and answer the text and the pen of the specification's ShowEvent, its pen owns its memory, behind another call too, and it writes nothing that was there. For every pen, operation and answer that comes in; no condition. -/
import Derived.Test.YtebgngofnmcklaaDoorJShowEventD
import Derived.Test.YtebgngofnmcklaaDoorCards
import Derived.Test.YtebgngofnmcklaaDoorTie
import Derived.Test.YtebgngofnmcklaaDoorOpBase
import Derived.WalkKit
import Derived.ProofKit
import Derived.OpenShut
import Derived.ShutString
import Derived.ChangeOld
import Derived.Below
import Derived.Deep.DeepHandedRow
import Derived.ChangeVars
namespace Go.Proofs.YtebgngofnmcklaaDoor.fnExactShowEvent
open Go.ChangeShapes Go.WideShapes Go.ChangeAt Go.RowKit
open Go.ChangeMaps (open_string shut_string)
set_option linter.unusedVariables false

theorem own : ownKnob Tryd.prog.godebug = none := by kernel_rfl
theorem laidOut : laidOutB Tryd.prog = true := by kernel_rfl

def errInto (b : Nat) (o : Obj) : Obj := match o with
  | .cells _ t frozen => .cells #[.iface 114 (.pointer (some ⟨b, 0, none⟩))] t frozen
  | o => o

theorem walk (v0 : Value) (D0 : PenD) (v1 : Value) (D1 : OpD) (v2 : Value) (D2 : AnsD) (w : World) (w0 : RdP w v0 D0) (y0 : SaneP D0) (w1 : v1 = opV D1) (y1 : SaneOp D1) (w2 : RdA w v2 D2) (y2 : SaneA D2) {ev : Value} (E : EvE w ev) :
    Calls Tryd.prog 4 #[v0, v1, v2] w fun e w' => e = .returned (.bool true) ∧ Below w.heap.size w w' := by
  subst w1
  obtain ⟨q, hq⟩ := bool_of (EvR D0 D1 D2)
  refine show_law v0 v2 D0 D1 D2 w w0 y0 y1 w2 y2 (if q then evT D0 D1 D2 else []) (if q then penB D0 D1 else D0) (fun X => EvE X ev) (fun X hX => evE_later E hX) (fun hs => ?_)
    (fun hs h1 h2 X u ua _ r0 r2 => sShowEvent_calls u ua D0 D1 D2 X r0 r2 hs h1 y1 h2 q hq)
    (fun hs h1 h2 X u ua hE r0 r2 => iShowEvent_calls u ua D0 D1 D2 X r0 r2 hs h1 y1 h2 y2.freed ev hE q hq)
  have hn := hs.sites
  cases q
  · exact Nat.le_succ_of_le hn
  · show (penB D0 D1).sites.length ≤ 1048577
    unfold penB
    simp only
    split
    · simp only [List.length_append, List.length_cons, List.length_nil]
      omega
    · omega

set_option maxRecDepth 100000 in
theorem contract (H : Type) (enc : TypeId × Value → H) (W : World) (base : Nat) (args : Array Value) (ds gs : List (DataW H)) (before : List MemPlace)
    (hval : ∀ (j : Nat) t v, Tryd.f4.params[j]? = some t → args[j]? = some v → Value.okWide Tryd.prog W .any base t v)
    (hW : DataW.Whole enc Tryd.prog Tryd.f4.params.toList Rows.fnExactShowEventSpec.vars false W args.toList ds gs before) (hL : laidMetH Tryd.prog Rows.fnExactShowEventRow.laid W) :
    Calls Tryd.prog 4 args W fun e W' => ∃ v, e = .returned v ∧ Rows.fnExactShowEventSpec.post enc Tryd.prog Tryd.f4 false true false false W args v W' := by
  have hW' := hW
  obtain ⟨p, q, hA0, hV0, rfl, hfz, hnd⟩ := hW
  have hV : DataW.TrodVars enc Tryd.prog W (fun _ => true) ["loop.example/g01412/impl.errEvent"] gs q := hV0
  have hA : DataW.TrodAll enc Tryd.prog W 0 (fun _ => true) true Tryd.f4.params.toList args.toList ds p := hA0
  rw [Tryd.params4] at hA hval
  obtain ⟨v0, vs0, d0, ds0, p0, q0, hargs, rfl, rfl, h0, r0⟩ := trodAll_cons hA
  obtain ⟨v1, vs1, d1, ds1, p1, q1, rfl, rfl, rfl, h1, r1⟩ := trodAll_cons r0
  obtain ⟨v2, vs2, d2, ds2, p2, q2, rfl, rfl, rfl, h2, r2⟩ := trodAll_cons r1
  obtain ⟨rfl, rfl, rfl⟩ := trodAll_nil r2
  obtain rfl : args = #[v0, v1, v2] := by cases args; simp_all
  obtain ⟨g1, rfl⟩ : ∃ g1, gs = [g1] := by
    have hlen := trodVars_length hV
    match gs, hlen with
    | [g1], _ => exact ⟨_, rfl⟩
  have k0 := h0
  have lt0 : ∀ x ∈ p0, x.block < W.heap.size := by obtain ⟨m, hm⟩ := k0; exact DataW.trod_lt m _ _ _ hm
  obtain ⟨D0, w0, y0⟩ := opened_pen (hval 0 31 v0 rfl rfl) h0
  have k1 := h1
  have lt1 : ∀ x ∈ p1, x.block < W.heap.size := by obtain ⟨m, hm⟩ := k1; exact DataW.trod_lt m _ _ _ hm
  obtain ⟨D1, w1, y1⟩ := opened_op (hval 1 23 v1 rfl rfl) h1
  have k2 := h2
  have lt2 : ∀ x ∈ p2, x.block < W.heap.size := by obtain ⟨m, hm⟩ := k2; exact DataW.trod_lt m _ _ _ hm
  obtain ⟨D2, w2, y2⟩ := opened_ans (hval 2 34 v2 rfl rfl) h2
  clear hA0 hV0
  have hL1 : laidMet Tryd.prog [("loop.example/g01412/impl.errEvent", Rows.laid_loop_example_g01412_impl_errEvent)] W := hL
  obtain ⟨ev, E⟩ := ev_of hL1
  refine (walk v0 D0 v1 D1 v2 D2 W w0 y0 w1 y1 w2 y2 E).mono fun e W' ⟨he, bel⟩ => ?_
  subst he
  exact ⟨_, rfl, _, _, _, [], _, _, hW', trodAll_mk1 (shut_bool Tryd.underlying4 _), (trodAll_cons_mk (Below.trod laidOut (by kernel_rfl) (of_decide_eq_true (by kernel_rfl)) k0 bel lt0) (trodAll_cons_mk (Below.trod laidOut (by kernel_rfl) (of_decide_eq_true (by kernel_rfl)) k1 bel lt1) (trodAll_cons_mk (Below.trod laidOut (by kernel_rfl) (of_decide_eq_true (by kernel_rfl)) k2 bel lt2) trodAll_mk0))), Below.trodVars laidOut bel (by kernel_rfl) hV, bel.frame _, fun h => by cases h⟩

theorem laid_met (os : Os) : laidMet Tryd.prog Rows.fnExactShowEventRow.laid (World.forCall ({ (World.holding Tryd.prog os ⟨#[.cells #[.string { data := #[101, 118, 101, 110, 116, 58, 32, 110, 111, 116, 32, 116, 111, 32, 98, 101, 32, 119, 114, 105, 116, 116, 101, 110, 32, 100, 111, 119, 110] }] 131], #[], []⟩) with heap := ((World.holding Tryd.prog os ⟨#[.cells #[.string { data := #[101, 118, 101, 110, 116, 58, 32, 110, 111, 116, 32, 116, 111, 32, 98, 101, 32, 119, 114, 105, 116, 116, 101, 110, 32, 100, 111, 119, 110] }] 131], #[], []⟩).heap.modify 0 (errInto ((World.holding Tryd.prog default ⟨#[], #[], []⟩).heap.size + 0))) } : World) (fun _ _ => 0) ⟨#[], #[.agg #[.int .i64 0, .slice none 0 0], .agg #[.int .i64 0, .int .i64 0, .int .i64 0, .int .i64 0, .string ByteArray.empty], .agg #[.int .i64 0, .int .i64 0, .slice none 0 0]], []⟩).memory :=
  laidMet_of_run' 8 (by kernel_rfl) (by kernel_rfl)
theorem reads (os : Os) {H : Type} (enc : TypeId × Value → H) : ∃ x, DataW.whole enc Tryd.prog (World.forCall ({ (World.holding Tryd.prog os ⟨#[.cells #[.string { data := #[101, 118, 101, 110, 116, 58, 32, 110, 111, 116, 32, 116, 111, 32, 98, 101, 32, 119, 114, 105, 116, 116, 101, 110, 32, 100, 111, 119, 110] }] 131], #[], []⟩) with heap := ((World.holding Tryd.prog os ⟨#[.cells #[.string { data := #[101, 118, 101, 110, 116, 58, 32, 110, 111, 116, 32, 116, 111, 32, 98, 101, 32, 119, 114, 105, 116, 116, 101, 110, 32, 100, 111, 119, 110] }] 131], #[], []⟩).heap.modify 0 (errInto ((World.holding Tryd.prog default ⟨#[], #[], []⟩).heap.size + 0))) } : World) (fun _ _ => 0) ⟨#[], #[.agg #[.int .i64 0, .slice none 0 0], .agg #[.int .i64 0, .int .i64 0, .int .i64 0, .int .i64 0, .string ByteArray.empty], .agg #[.int .i64 0, .int .i64 0, .slice none 0 0]], []⟩).memory Tryd.f4.params.toList Rows.fnExactShowEventSpec.vars false (#[.agg #[.int .i64 0, .slice none 0 0], .agg #[.int .i64 0, .int .i64 0, .int .i64 0, .int .i64 0, .string ByteArray.empty], .agg #[.int .i64 0, .int .i64 0, .slice none 0 0]] : Array Value).toList 8 = some x :=
  Option.isSome_iff_exists.1 (by kernel_rfl)

set_option maxRecDepth 100000 in
theorem lifted (os : Os) (started : os.Started) (H : Type) (enc : TypeId × Value → H) (F : Stop.Interp) :
    ReturnsInHanded {} Tryd.checked os 4 .any ((OpenSpec.ofChange Rows.fnExactShowEventSpec).preRow enc Tryd.prog Tryd.f4 Rows.fnExactShowEventRow.domain false Rows.fnExactShowEventRow.laid) (((OpenSpec.ofChange Rows.fnExactShowEventSpec).at F).post enc Tryd.prog Tryd.f4 false true false false) := by
  obtain ⟨x, hx⟩ := reads os enc
  refine returnsInHanded_of_row (C := Tryd.checked) (s := OpenSpec.ofChange Rows.fnExactShowEventSpec) own started (by kernel_rfl) Tryd.func4
    (witness_row_at (enc := enc) (C := Tryd.checked) false ({ (World.holding Tryd.prog os ⟨#[.cells #[.string { data := #[101, 118, 101, 110, 116, 58, 32, 110, 111, 116, 32, 116, 111, 32, 98, 101, 32, 119, 114, 105, 116, 116, 101, 110, 32, 100, 111, 119, 110] }] 131], #[], []⟩) with heap := ((World.holding Tryd.prog os ⟨#[.cells #[.string { data := #[101, 118, 101, 110, 116, 58, 32, 110, 111, 116, 32, 116, 111, 32, 98, 101, 32, 119, 114, 105, 116, 116, 101, 110, 32, 100, 111, 119, 110] }] 131], #[], []⟩).heap.modify 0 (errInto ((World.holding Tryd.prog default ⟨#[], #[], []⟩).heap.size + 0))) } : World) #[.agg #[.int .i64 0, .slice none 0 0], .agg #[.int .i64 0, .int .i64 0, .int .i64 0, .int .i64 0, .string ByteArray.empty], .agg #[.int .i64 0, .int .i64 0, .slice none 0 0]] rfl (by kernel_rfl) (by kernel_rfl) (by kernel_rfl)
      (OpenSpec.preRow_of_cond 8 hx rfl (fun k hk => by cases hk) (by kernel_rfl) (laid_met os))) ?_
  intro W base args ds gs before hval hW _ _ _ hL _ _
  exact contract H enc W base args ds gs before hval hW hL

theorem said : Rows.FnExactShowEventSaid :=
  OpenClaim.holds_of_cond 4 Tryd.f4 rfl rfl rfl rfl rfl rfl rfl ⟨rfl, rfl, rfl, rfl, rfl⟩ rfl rfl rfl rfl rfl (by kernel_rfl) Tryd.func4 (by kernel_rfl)
    (of_decide_eq_true (by kernel_rfl)) (by unfold Func.isWrapper; first | (rw [if_pos (by decide +kernel)]; kernel_rfl) | (rw [if_neg (by decide +kernel)]; exact ⟨rfl, rfl⟩))
    (fun os started H enc _ F => by rw [OpenClaim.pre_eq_preRow]; exact lifted os started H enc F)

theorem plain (f : FuncId) (fn : Func) (hf : Tryd.pinned.checked.prog.funcNamed Tryd.f4.name = some f) (hfn : Tryd.pinned.checked.prog.funcs[f]? = some fn) :
    Rows.fnExactShowEventCard.stood.looks = Tryd.pinned.checked.prog.looks [] ∧ ∀ (j : Nat) t, fn.params[j]? = some t → Tryd.pinned.checked.prog.wantsStandIn t = false := by
  obtain rfl : f = 4 := Option.some.inj ((show Tryd.prog.funcNamed Tryd.f4.name = some 4 by kernel_rfl).symm.trans hf) |>.symm
  obtain rfl : fn = Tryd.f4 := (Option.some.inj (Tryd.func4.symm.trans hfn)).symm
  refine ⟨by kernel_rfl, fun j t ht => ?_⟩
  rw [Tryd.params4] at ht
  have hm : t ∈ [31, 23, 34] := by simpa using Array.mem_of_getElem? ht
  simp only [List.mem_cons, List.not_mem_nil, or_false] at hm
  rcases hm with rfl | rfl | rfl
  · exact (show Tryd.prog.wantsStandIn 31 = false by kernel_rfl)
  · exact (show Tryd.prog.wantsStandIn 23 = false by kernel_rfl)
  · exact (show Tryd.prog.wantsStandIn 34 = false by kernel_rfl)

end Go.Proofs.YtebgngofnmcklaaDoor.fnExactShowEvent
namespace Go.Proofs.YtebgngofnmcklaaDoor
theorem fnExactShowEvent_card : Rows.FnExactShowEventCardSaid :=
  Claim7.holds_tied_plain_at .later [] _ _ _ _ fnExactShowEvent.said (fun _ h => by cases h) (by kernel_rfl) (fun _ h => by cases h) fnExactShowEvent_row_tie rfl ⟨rfl, rfl⟩ (by kernel_rfl) rfl fnExactShowEvent.plain (by kernel_rfl)
#print axioms fnExactShowEvent_card
end Go.Proofs.YtebgngofnmcklaaDoor
