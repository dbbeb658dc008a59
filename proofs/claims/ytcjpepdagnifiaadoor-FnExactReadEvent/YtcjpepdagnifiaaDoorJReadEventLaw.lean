/- impl.ReadEvent answers at every pen and text as the specification's ReadEvent; nothing that came in is written, what is answered is of memory of its own, and the error stays. For every pen and text; the error lies as the program's text lays it (the card ties it). -/
import Derived.Test.YtcjpepdagnifiaaDoorJReadEventG
import Derived.Test.YtcjpepdagnifiaaDoorCards
import Derived.Test.YtcjpepdagnifiaaDoorTie
import Derived.WalkKit
import Derived.ProofKit
import Derived.OpenShut
import Derived.ShutString
import Derived.ChangeOld
import Derived.Below
import Derived.Deep.DeepHandedRow
import Derived.ChangeVars
namespace Go.Proofs.YtcjpepdagnifiaaDoor.fnExactReadEvent
open Go.ChangeShapes Go.WideShapes Go.ChangeAt Go.RowKit
open Go.ChangeMaps (open_string shut_string)
set_option linter.unusedVariables false

theorem own : ownKnob Tryd.prog.godebug = none := by kernel_rfl
theorem laidOut : laidOutB Tryd.prog = true := by kernel_rfl

def errInto (b : Nat) (o : Obj) : Obj := match o with
  | .cells _ t frozen => .cells #[.iface 130 (.pointer (some ⟨b, 0, none⟩))] t frozen
  | o => o
theorem walk (v0 : Value) (D0 : PenD) (a1 : ByteArray) (w : World) (w0 : RdP w v0 D0) (y0 : SaneP D0) (w1 : a1.size ≤ 9223372036854775807) {ev : Value} (E : EvE w ev) :
    Calls Tryd.prog 3 #[v0, .string a1] w fun e w' => e = .returned (.bool true) ∧ Below w.heap.size w w' := by
  obtain ⟨l, rfl⟩ : ∃ l, a1 = txt l := ⟨a1.data.toList, by unfold txt; simp⟩
  obtain ⟨q, hq⟩ := bool_of (PenR D0)
  have hl0 : l.length ≤ 9223372036854775807 := w1
  have hr1 : PenR D0 → (if q then rEv D0 l else none) = rEv D0 l := fun h => by rw [hq.2 h]; rfl
  have hr2 : ¬ PenR D0 → (if q then rEv D0 l else none) = none := fun h => by
    cases q with
    | false => rfl
    | true => exact absurd (hq.1 rfl) h
  obtain ⟨r, hr⟩ : ∃ r, (if q then rEv D0 l else none) = r := ⟨_, rfl⟩
  rw [hr] at hr1 hr2
  refine read_law v0 D0 l w w0 y0 hl0 (ansO r) (ansA r) (ansP D0 r) r.isSome (fun X => EvE X ev) (fun X hX => evE_later E hX) (fun hs hl => ?_)
    (fun hs hl X u _ h => sReadEvent_calls u D0 l X h hs y0 hl r hr1 hr2)
    (fun hs hl X u hE h => iReadEvent_calls u D0 l X h hs hl ev hE r hr1 hr2)
  have hn := hs.sites
  rcases r_cases hr1 hr2 with rfl | ⟨o, A, rfl, -, h2, -⟩
  · exact ⟨by show D0.sites.length ≤ _; omega, by show 0 ≤ _; omega⟩
  · refine ⟨?_, by show A.freed.length ≤ _; have := h2.2.1.2.2.1; omega⟩
    show (penB D0 o).sites.length ≤ 1048577
    unfold penB
    simp only
    split
    · simp only [List.length_append, List.length_cons, List.length_nil]
      omega
    · omega

set_option maxRecDepth 100000 in
theorem contract (H : Type) (enc : TypeId × Value → H) (W : World) (base : Nat) (args : Array Value) (ds gs : List (DataW H)) (before : List MemPlace)
    (hval : ∀ (j : Nat) t v, Tryd.f3.params[j]? = some t → args[j]? = some v → Value.okWide Tryd.prog W .any base t v)
    (hW : DataW.Whole enc Tryd.prog Tryd.f3.params.toList Rows.fnExactReadEventSpec.vars false W args.toList ds gs before) (hL : laidMetH Tryd.prog Rows.fnExactReadEventRow.laid W) :
    Calls Tryd.prog 3 args W fun e W' => ∃ v, e = .returned v ∧ Rows.fnExactReadEventSpec.post enc Tryd.prog Tryd.f3 false true false false W args v W' := by
  have hW' := hW
  obtain ⟨p, q, hA0, hV0, rfl, hfz, hnd⟩ := hW
  have hV : DataW.TrodVars enc Tryd.prog W (fun _ => true) ["loop.example/g01412/impl.errEvent"] gs q := hV0
  have hA : DataW.TrodAll enc Tryd.prog W 0 (fun _ => true) true Tryd.f3.params.toList args.toList ds p := hA0
  rw [Tryd.params3] at hA hval
  obtain ⟨v0, vs0, d0, ds0, p0, q0, hargs, rfl, rfl, h0, r0⟩ := trodAll_cons hA
  obtain ⟨v1, vs1, d1, ds1, p1, q1, rfl, rfl, rfl, h1, r1⟩ := trodAll_cons r0
  obtain ⟨rfl, rfl, rfl⟩ := trodAll_nil r1
  obtain rfl : args = #[v0, v1] := by cases args; simp_all
  obtain ⟨g1, rfl⟩ : ∃ g1, gs = [g1] := by
    have hlen := trodVars_length hV
    match gs, hlen with
    | [g1], _ => exact ⟨_, rfl⟩
  have k0 := h0
  have lt0 : ∀ x ∈ p0, x.block < W.heap.size := by obtain ⟨m, hm⟩ := k0; exact DataW.trod_lt m _ _ _ hm
  obtain ⟨D0, w0, y0⟩ := opened_pen (hval 0 24 v0 rfl rfl) h0
  obtain ⟨a1, rfl, rfl, rfl, w1⟩ := open_string Tryd.underlying9 (hval 1 9 v1 rfl rfl) h1
  clear hA0 hV0
  have hL1 : laidMet Tryd.prog [("loop.example/g01412/impl.errEvent", Rows.laid_loop_example_g01412_impl_errEvent)] W := hL
  obtain ⟨ev, E⟩ := ev_of hL1
  refine (walk v0 D0 a1 W w0 y0 w1 E).mono fun e W' ⟨he, bel⟩ => ?_
  subst he
  exact ⟨_, rfl, _, _, _, [], _, _, hW', trodAll_mk1 (shut_bool Tryd.underlying4 _), (trodAll_cons_mk (Below.trod laidOut (by kernel_rfl) (of_decide_eq_true (by kernel_rfl)) k0 bel lt0) (trodAll_cons_mk (shut_string Tryd.underlying9 w1) trodAll_mk0)), Below.trodVars laidOut bel (by kernel_rfl) hV, bel.frame _, fun h => by cases h⟩

theorem laid_met (os : Os) : laidMet Tryd.prog Rows.fnExactReadEventRow.laid (World.forCall ({ (World.holding Tryd.prog os ⟨#[.cells #[.string { data := #[101, 118, 101, 110, 116, 58, 32, 110, 111, 116, 32, 116, 111, 32, 98, 101, 32, 119, 114, 105, 116, 116, 101, 110, 32, 100, 111, 119, 110] }] 146], #[], []⟩) with heap := ((World.holding Tryd.prog os ⟨#[.cells #[.string { data := #[101, 118, 101, 110, 116, 58, 32, 110, 111, 116, 32, 116, 111, 32, 98, 101, 32, 119, 114, 105, 116, 116, 101, 110, 32, 100, 111, 119, 110] }] 146], #[], []⟩).heap.modify 0 (errInto ((World.holding Tryd.prog default ⟨#[], #[], []⟩).heap.size + 0))) } : World) (fun _ _ => 0) ⟨#[], #[.agg #[.int .i64 0, .slice none 0 0], .string ByteArray.empty], []⟩).memory :=
  laidMet_of_run' 8 (by kernel_rfl) (by kernel_rfl)
theorem reads (os : Os) {H : Type} (enc : TypeId × Value → H) : ∃ x, DataW.whole enc Tryd.prog (World.forCall ({ (World.holding Tryd.prog os ⟨#[.cells #[.string { data := #[101, 118, 101, 110, 116, 58, 32, 110, 111, 116, 32, 116, 111, 32, 98, 101, 32, 119, 114, 105, 116, 116, 101, 110, 32, 100, 111, 119, 110] }] 146], #[], []⟩) with heap := ((World.holding Tryd.prog os ⟨#[.cells #[.string { data := #[101, 118, 101, 110, 116, 58, 32, 110, 111, 116, 32, 116, 111, 32, 98, 101, 32, 119, 114, 105, 116, 116, 101, 110, 32, 100, 111, 119, 110] }] 146], #[], []⟩).heap.modify 0 (errInto ((World.holding Tryd.prog default ⟨#[], #[], []⟩).heap.size + 0))) } : World) (fun _ _ => 0) ⟨#[], #[.agg #[.int .i64 0, .slice none 0 0], .string ByteArray.empty], []⟩).memory Tryd.f3.params.toList Rows.fnExactReadEventSpec.vars false (#[.agg #[.int .i64 0, .slice none 0 0], .string ByteArray.empty] : Array Value).toList 8 = some x :=
  Option.isSome_iff_exists.1 (by kernel_rfl)

set_option maxRecDepth 100000 in
theorem lifted (os : Os) (started : os.Started) (H : Type) (enc : TypeId × Value → H) (F : Stop.Interp) :
    ReturnsInHanded {} Tryd.checked os 3 .any ((OpenSpec.ofChange Rows.fnExactReadEventSpec).preRow enc Tryd.prog Tryd.f3 Rows.fnExactReadEventRow.domain false Rows.fnExactReadEventRow.laid) (((OpenSpec.ofChange Rows.fnExactReadEventSpec).at F).post enc Tryd.prog Tryd.f3 false true false false) := by
  obtain ⟨x, hx⟩ := reads os enc
  refine returnsInHanded_of_row (C := Tryd.checked) (s := OpenSpec.ofChange Rows.fnExactReadEventSpec) own started (by kernel_rfl) Tryd.func3
    (witness_row_at (enc := enc) (C := Tryd.checked) false ({ (World.holding Tryd.prog os ⟨#[.cells #[.string { data := #[101, 118, 101, 110, 116, 58, 32, 110, 111, 116, 32, 116, 111, 32, 98, 101, 32, 119, 114, 105, 116, 116, 101, 110, 32, 100, 111, 119, 110] }] 146], #[], []⟩) with heap := ((World.holding Tryd.prog os ⟨#[.cells #[.string { data := #[101, 118, 101, 110, 116, 58, 32, 110, 111, 116, 32, 116, 111, 32, 98, 101, 32, 119, 114, 105, 116, 116, 101, 110, 32, 100, 111, 119, 110] }] 146], #[], []⟩).heap.modify 0 (errInto ((World.holding Tryd.prog default ⟨#[], #[], []⟩).heap.size + 0))) } : World) #[.agg #[.int .i64 0, .slice none 0 0], .string ByteArray.empty] rfl (by kernel_rfl) (by kernel_rfl) (by kernel_rfl)
      (OpenSpec.preRow_of_cond 8 hx rfl (fun k hk => by cases hk) (by kernel_rfl) (laid_met os))) ?_
  intro W base args ds gs before hval hW _ _ _ hL _ _
  exact contract H enc W base args ds gs before hval hW hL

theorem said : Rows.FnExactReadEventSaid :=
  OpenClaim.holds_of_cond 3 Tryd.f3 rfl rfl rfl rfl rfl rfl rfl ⟨rfl, rfl, rfl, rfl, rfl⟩ rfl rfl rfl rfl rfl (by kernel_rfl) Tryd.func3 (by kernel_rfl)
    (of_decide_eq_true (by kernel_rfl)) (by unfold Func.isWrapper; first | (rw [if_pos (by decide +kernel)]; kernel_rfl) | (rw [if_neg (by decide +kernel)]; exact ⟨rfl, rfl⟩))
    (fun os started H enc _ F => by rw [OpenClaim.pre_eq_preRow]; exact lifted os started H enc F)

theorem plain (f : FuncId) (fn : Func) (hf : Tryd.pinned.checked.prog.funcNamed Tryd.f3.name = some f) (hfn : Tryd.pinned.checked.prog.funcs[f]? = some fn) :
    Rows.fnExactReadEventCard.stood.looks = Tryd.pinned.checked.prog.looks [] ∧ ∀ (j : Nat) t, fn.params[j]? = some t → Tryd.pinned.checked.prog.wantsStandIn t = false := by
  obtain rfl : f = 3 := Option.some.inj ((show Tryd.prog.funcNamed Tryd.f3.name = some 3 by kernel_rfl).symm.trans hf) |>.symm
  obtain rfl : fn = Tryd.f3 := (Option.some.inj (Tryd.func3.symm.trans hfn)).symm
  refine ⟨by kernel_rfl, fun j t ht => ?_⟩
  rw [Tryd.params3] at ht
  have hm : t ∈ [24, 9] := by simpa using Array.mem_of_getElem? ht
  simp only [List.mem_cons, List.not_mem_nil, or_false] at hm
  rcases hm with rfl | rfl
  · exact (show Tryd.prog.wantsStandIn 24 = false by kernel_rfl)
  · exact (show Tryd.prog.wantsStandIn 9 = false by kernel_rfl)

end Go.Proofs.YtcjpepdagnifiaaDoor.fnExactReadEvent
namespace Go.Proofs.YtcjpepdagnifiaaDoor
theorem fnExactReadEvent_card : Rows.FnExactReadEventCardSaid :=
  Claim7.holds_tied_plain_at .later [] _ _ _ _ fnExactReadEvent.said (fun _ h => by cases h) (by kernel_rfl) (fun _ h => by cases h) fnExactReadEvent_row_tie rfl ⟨rfl, rfl⟩ (by kernel_rfl) rfl fnExactReadEvent.plain (by kernel_rfl)
#print axioms fnExactReadEvent_card
end Go.Proofs.YtcjpepdagnifiaaDoor
