/- impl.Encode answers at every row of operations and of answers as the specification's Encode; nothing that came in is written, and the table and the error stay. For every two rows; the table and the error lie as the program's text lays them (the card ties them). -/
import Derived.Test.YtcjpepdagnifiaaDoorJEncodeF
import Derived.Test.YtcjpepdagnifiaaDoorCards
import Derived.Test.YtcjpepdagnifiaaDoorTie
import Derived.WalkKit
import Derived.ProofKit
import Derived.OpenShut
import Derived.ShutString
import Derived.ChangeOld
import Derived.Below
import Derived.Deep.DeepHandedRow
import Derived.ChangeVars
namespace Go.Proofs.YtcjpepdagnifiaaDoor.fnExactEncode
open Go.ChangeShapes Go.WideShapes Go.ChangeAt Go.RowKit
open Go.ChangeMaps (open_string shut_string)
set_option linter.unusedVariables false

theorem own : ownKnob Tryd.prog.godebug = none := by kernel_rfl
theorem laidOut : laidOutB Tryd.prog = true := by kernel_rfl

def tabInto (d : DataW Unit) (o : Obj) : Obj := match o with
  | .cells _ t frozen => .cells (match d with | .agg l => (l.map fun x => match x with | .lit (.int k n) => Value.int k n | _ => Value.bool false).toArray | _ => #[]) t frozen
  | o => o
def errInto (b : Nat) (o : Obj) : Obj := match o with
  | .cells _ t frozen => .cells #[.iface 130 (.pointer (some ⟨b, 0, none⟩))] t frozen
  | o => o
set_option maxHeartbeats 2000000 in
theorem walk (a0 : Option Addr) (cap0 : Nat) (z0 : List OpD) (a1 : Option Addr) (cap1 : Nat) (z1 : List AnsD) (w : World) (w0 : RdQ w a0 z0) (y0 : z0.length ≤ 9223372036854775807) (x0 : ∀ z ∈ z0, SaneOp z) (w1 : RdY w a1 z1) (y1 : z1.length ≤ 9223372036854775807) (x1 : ∀ z ∈ z1, SaneA z) {ev : Value} (ht : TabAt w) (E : EvE w ev) :
    Calls Tryd.prog 4 #[.slice a0 z0.length cap0, .slice a1 z1.length cap1] w fun e w' => e = .returned (.bool true) ∧ Below w.heap.size w w' := by
  have HR0 : Hid (∀ X, Below w.heap.size w X → RdQ X a0 z0) := fun X hX => rdQ_later w0 hX
  have HR1 : Hid (∀ X, Below w.heap.size w X → RdY X a1 z1) := fun X hX => rdY_later w1 hX
  have HEV : Hid (∀ X, Below w.heap.size w X → EvE X ev) := fun X hX => evE_later E hX
  have HTB : Hid (∀ X, Below w.heap.size w X → TabAt X) := fun X hX => tab_below ht hX (tab_pos ht)
  have HX0 : Hid (∀ z ∈ z0, SaneOp z) := x0
  have HX1 : Hid (∀ z ∈ z1, SaneA z) := x1
  have CZ0 : Hid (∀ (_ : Unit), _) := fun _ => szOpS_calls w a0 cap0 z0 1048576 w0 y0 (fun z h => (x0 z h).site) (by omega) (by omega)
  have F0 := szQ_facts z0 1048576
  have L0 := szQ_le z0 1048576 (by omega)
  by_cases hS : szQ z0 1048576 < 0
  · clear F0 w1 HTB HEV ht E
    generalize szQ z0 1048576 = S at *
    generalize z0.length = n at *
    generalize z1.length = m at *
    go_enter Tryd.func4, Tryd.ntmps4
    go_wp2_with fail
    refine (CZ0.out ()).mono ?_
    rintro e w2 ⟨rfl, b2⟩
    go_wp2
    go_ret
    exact ⟨rfl, b2⟩
  obtain ⟨hl0, hs0⟩ := F0 (by omega)
  have CZ1 : Hid (∀ X, Below w.heap.size w X → _) := fun X hX => szAnswerS_calls X a1 cap1 z1 (szQ z0 1048576) (HR1.out X hX) y1 (fun z h => (x1 z h).len) (by omega) (by omega)
  have F1 := szY_facts z1 (szQ z0 1048576)
  clear w0 w1 x0 x1 ht E
  by_cases hS1 : szY z1 (szQ z0 1048576) < 0
  · clear F1 hs0
    generalize szY z1 (szQ z0 1048576) = S1 at *
    generalize szQ z0 1048576 = S at *
    generalize z0.length = n at *
    generalize z1.length = m at *
    have hS' : 0 ≤ S := by omega
    go_enter Tryd.func4, Tryd.ntmps4
    go_wp2_with fail
    refine (CZ0.out ()).mono ?_
    rintro e w2 ⟨rfl, b2⟩
    go_wp2_with fail
    refine (CZ1.out _ b2).mono ?_
    rintro e w3 ⟨rfl, b3⟩
    have B3 := b2.trans (b3.mono b2.size)
    go_wp2
    go_ret
    exact ⟨rfl, B3⟩
  obtain ⟨hl1, hs1⟩ := F1 (by omega)
  obtain ⟨T, hT⟩ := encT_is z0 z1 showL
  have HT : Hid (EncT z0 z1 T showL) := hT
  have HL0 : Hid (z0.length ≤ 1048576) := by show _ ≤ _; omega
  have HL1 : Hid (z1.length ≤ 1048576) := by show _ ≤ _; omega
  have HSO : Hid (∀ o ∈ z0, SaneOp o ∧ o.site.length ≤ 1048576) := fun o h => ⟨HX0.out o h, by have := hs0 o h; omega⟩
  have HSZ : Hid (∀ z ∈ z1, SaneA z ∧ z.freed.length ≤ 1048576) := fun z h => ⟨HX1.out z h, by have := hs1 z h; omega⟩
  have CT0 : Hid (∀ X, Below w.heap.size w X → _) := fun X hX => toOpS_calls X a0 cap0 z0 (HR0.out X hX) (by omega)
  have CT1 : Hid (∀ X, Below w.heap.size w X → _) := fun X hX => toAnswerS_calls X a1 cap1 z1 (HR1.out X hX) (by omega) (fun z h => by have := (HSZ.out z h).2; omega)
  have CS : Hid (∀ X a c k1 k2, RdQ X a z0 → RdY X c z1 → _) := fun X a c k1 k2 h1 h2 => sEncode_calls X a k1 z0 c k2 z1 h1 h2 HL0.out HL1.out HSO.out HSZ.out T HT.out
  have CI : Hid (∀ X a c k1 k2, Below w.heap.size w X → RdQ X a z0 → RdY X c z1 → _) := fun X a c k1 k2 hX h1 h2 => iEncode_calls X a k1 z0 c k2 z1 h1 h2 HL0.out HL1.out HSO.out HSZ.out T HT.out (HEV.out X hX) (HTB.out X hX)
  have CE0 : Hid (∀ X a c k1 k2, RdQ X a z0 → RdQ X c z0 → _) := fun X a c k1 k2 h1 h2 => eqOpS_calls X a c k1 k2 z0 h1 h2 (by have := HL0.out; omega)
  have CE1 : Hid (∀ X a c k1 k2, RdY X a z1 → RdY X c z1 → _) := fun X a c k1 k2 h1 h2 => eqAnswerS_calls X a c k1 k2 z1 h1 h2 (by have := HL1.out; omega) (fun z h => by have := (HSZ.out z h).2; omega)
  clear hT F1 hs0 hs1 HR0 HR1 HX0 HX1
  generalize szY z1 (szQ z0 1048576) = S1 at *
  generalize szQ z0 1048576 = S at *
  have hS' : 0 ≤ S := by omega
  have hS1' : 0 ≤ S1 := by omega
  go_enter Tryd.func4, Tryd.ntmps4
  go_wp2_with fail
  refine (CZ0.out ()).mono ?_
  rintro e w2 ⟨rfl, b2⟩
  go_wp2_with fail
  refine (CZ1.out _ b2).mono ?_
  rintro e w3 ⟨rfl, b3⟩
  have B3 := b2.trans (b3.mono b2.size)
  clear b2 b3
  go_wp2_with fail
  refine (CT0.out _ B3).mono ?_
  rintro e w4 ⟨rfl, O4, s4, b4⟩
  have B4 := B3.trans (b4.mono B3.size)
  have R4 : Hid (RdQ w4 _ z0) := laidQ_rd O4 s4
  clear b4 O4 s4
  go_wp2_with fail
  refine (CT1.out _ B4).mono ?_
  rintro e w5 ⟨rfl, O5, s5, b5⟩
  have B5 := B4.trans (b5.mono B4.size)
  have R5 : Hid (RdY w5 _ z1) := laidY_rd O5 s5
  have R45 : Hid (RdQ w5 _ z0) := rdQ_later R4.out b5
  clear b5 O5 s5
  go_wp2_with fail
  refine (CS.out _ _ _ _ _ R45.out R5.out).mono ?_
  rintro e w6 ⟨rfl, b6⟩
  have B6 := B5.trans (b6.mono B5.size)
  clear b6 R4 R45 R5
  go_wp2_with fail
  refine (CT0.out _ B6).mono ?_
  rintro e w7 ⟨rfl, O7, s7, b7⟩
  have B7 := B6.trans (b7.mono B6.size)
  have R7 : Hid (RdQ w7 _ z0) := laidQ_rd O7 s7
  clear b7 O7 s7
  go_wp2_with fail
  refine (CT1.out _ B7).mono ?_
  rintro e w8 ⟨rfl, O8, s8, b8⟩
  have B8 := B7.trans (b8.mono B7.size)
  have R8 : Hid (RdY w8 _ z1) := laidY_rd O8 s8
  have R78 : Hid (RdQ w8 _ z0) := rdQ_later R7.out b8
  clear b8 O8 s8
  go_wp2_with fail
  refine (CI.out _ _ _ _ _ B8 R78.out R8.out).mono ?_
  rintro e w9 ⟨rfl, b9⟩
  have B9 := B8.trans (b9.mono B8.size)
  have R9 : Hid (RdY w9 _ z1) := rdY_later R8.out b9
  have R79 : Hid (RdQ w9 _ z0) := rdQ_later R78.out b9
  clear b9 R7 R78 R8
  go_wp2_with fail
  refine (CT0.out _ B9).mono ?_
  rintro e wa ⟨rfl, Oa, sa, ba⟩
  have Ba := B9.trans (ba.mono B9.size)
  have Ra : Hid (RdQ wa _ z0) := laidQ_rd Oa sa
  have R7a : Hid (RdQ wa _ z0) := rdQ_later R79.out ba
  have R9a : Hid (RdY wa _ z1) := rdY_later R9.out ba
  clear ba Oa sa
  go_wp2_with fail
  refine (CE0.out _ _ _ _ _ R7a.out Ra.out).mono ?_
  rintro e wb ⟨rfl, bb⟩
  have Bb := Ba.trans (bb.mono Ba.size)
  have R9b : Hid (RdY wb _ z1) := rdY_later R9a.out bb
  clear bb
  go_wp2_with fail
  refine (CT1.out _ Bb).mono ?_
  rintro e wc ⟨rfl, Oc, sc, bc⟩
  have Bc := Bb.trans (bc.mono Bb.size)
  have Rc : Hid (RdY wc _ z1) := laidY_rd Oc sc
  have R9c : Hid (RdY wc _ z1) := rdY_later R9b.out bc
  clear bc Oc sc
  go_wp2_with fail
  refine (CE1.out _ _ _ _ _ R9c.out Rc.out).mono ?_
  rintro e wd ⟨rfl, bd⟩
  have Bd := Bc.trans (bd.mono Bc.size)
  go_wp2
  go_ret
  exact ⟨rfl, Bd⟩

set_option maxRecDepth 100000 in
theorem contract (H : Type) (enc : TypeId × Value → H) (W : World) (base : Nat) (args : Array Value) (ds gs : List (DataW H)) (before : List MemPlace)
    (hval : ∀ (j : Nat) t v, Tryd.f4.params[j]? = some t → args[j]? = some v → Value.okWide Tryd.prog W .any base t v)
    (hW : DataW.Whole enc Tryd.prog Tryd.f4.params.toList Rows.fnExactEncodeSpec.vars false W args.toList ds gs before) (hL : laidMetH Tryd.prog Rows.fnExactEncodeRow.laid W) :
    Calls Tryd.prog 4 args W fun e W' => ∃ v, e = .returned v ∧ Rows.fnExactEncodeSpec.post enc Tryd.prog Tryd.f4 false true false false W args v W' := by
  have hW' := hW
  obtain ⟨p, q, hA0, hV0, rfl, hfz, hnd⟩ := hW
  have hV : DataW.TrodVars enc Tryd.prog W (fun _ => true) ["loop.example/g01412/impl.errEvent", "loop.example/g01412/impl.sumTable"] gs q := hV0
  have hA : DataW.TrodAll enc Tryd.prog W 0 (fun _ => true) true Tryd.f4.params.toList args.toList ds p := hA0
  rw [Tryd.params4] at hA hval
  obtain ⟨v0, vs0, d0, ds0, p0, q0, hargs, rfl, rfl, h0, r0⟩ := trodAll_cons hA
  obtain ⟨v1, vs1, d1, ds1, p1, q1, rfl, rfl, rfl, h1, r1⟩ := trodAll_cons r0
  obtain ⟨rfl, rfl, rfl⟩ := trodAll_nil r1
  obtain rfl : args = #[v0, v1] := by cases args; simp_all
  obtain ⟨g1, g2, rfl⟩ : ∃ g1 g2, gs = [g1, g2] := by
    have hlen := trodVars_length hV
    match gs, hlen with
    | [g1, g2], _ => exact ⟨_, _, rfl⟩
  obtain ⟨a0, len0, cap0, rfl⟩ := okWide_slice Tryd.underlying41 (hval 0 41 v0 rfl rfl)
  have k0 := h0
  have lt0 : ∀ x ∈ p0, x.block < W.heap.size := by obtain ⟨m, hm⟩ := k0; exact DataW.trod_lt m _ _ _ hm
  obtain ⟨z0, rfl, w0, y0, x0⟩ : ∃ zs : List OpD, len0 = zs.length ∧ RdQ W a0 zs ∧ zs.length ≤ 9223372036854775807 ∧ ∀ z ∈ zs, SaneOp z := by
    obtain ⟨fuel, hf⟩ := h0
    obtain ⟨a', zs, cap', hcs, h1, h2, h3⟩ := opened_ops hf
    simp [Value.cells] at hcs
    obtain ⟨rfl, rfl, rfl⟩ := hcs
    exact ⟨zs, rfl, h1, h2, h3⟩
  obtain ⟨a1, len1, cap1, rfl⟩ := okWide_slice Tryd.underlying42 (hval 1 42 v1 rfl rfl)
  have k1 := h1
  have lt1 : ∀ x ∈ p1, x.block < W.heap.size := by obtain ⟨m, hm⟩ := k1; exact DataW.trod_lt m _ _ _ hm
  obtain ⟨z1, rfl, w1, y1, x1⟩ : ∃ zs : List AnsD, len1 = zs.length ∧ RdY W a1 zs ∧ zs.length ≤ 9223372036854775807 ∧ ∀ z ∈ zs, SaneA z := by
    obtain ⟨fuel, hf⟩ := h1
    obtain ⟨a', zs, cap', hcs, h1, h2, h3⟩ := opened_anss hf
    simp [Value.cells] at hcs
    obtain ⟨rfl, rfl, rfl⟩ := hcs
    exact ⟨zs, rfl, h1, h2, h3⟩
  clear hA0 hV0
  have hL1 : laidMet Tryd.prog [("loop.example/g01412/impl.sumTable", Rows.laid_loop_example_g01412_impl_sumTable), ("loop.example/g01412/impl.errEvent", Rows.laid_loop_example_g01412_impl_errEvent)] W := hL
  obtain ⟨ev, ht, E⟩ := enc_of hL1
  refine (walk a0 cap0 z0 a1 cap1 z1 W w0 y0 x0 w1 y1 x1 ht E).mono fun e W' ⟨he, bel⟩ => ?_
  subst he
  exact ⟨_, rfl, _, _, _, [], _, _, hW', trodAll_mk1 (shut_bool Tryd.underlying4 _), (trodAll_cons_mk (Below.trod laidOut (by kernel_rfl) (of_decide_eq_true (by kernel_rfl)) k0 bel lt0) (trodAll_cons_mk (Below.trod laidOut (by kernel_rfl) (of_decide_eq_true (by kernel_rfl)) k1 bel lt1) trodAll_mk0)), Below.trodVars laidOut bel (by kernel_rfl) hV, bel.frame _, fun h => by cases h⟩

theorem laid_met (os : Os) : laidMet Tryd.prog Rows.fnExactEncodeRow.laid (World.forCall ({ (World.holding Tryd.prog os ⟨#[.cells #[.string { data := #[101, 118, 101, 110, 116, 58, 32, 110, 111, 116, 32, 116, 111, 32, 98, 101, 32, 119, 114, 105, 116, 116, 101, 110, 32, 100, 111, 119, 110] }] 146], #[], []⟩) with heap := (((World.holding Tryd.prog os ⟨#[.cells #[.string { data := #[101, 118, 101, 110, 116, 58, 32, 110, 111, 116, 32, 116, 111, 32, 98, 101, 32, 119, 114, 105, 116, 116, 101, 110, 32, 100, 111, 119, 110] }] 146], #[], []⟩).heap.modify 1 (tabInto Rows.laid_loop_example_g01412_impl_sumTable)).modify 0 (errInto ((World.holding Tryd.prog default ⟨#[], #[], []⟩).heap.size + 0))) } : World) (fun _ _ => 0) ⟨#[], #[.slice none 0 0, .slice none 0 0], []⟩).memory :=
  laidMet_of_run' 8 (by kernel_rfl) (by kernel_rfl)
theorem reads (os : Os) {H : Type} (enc : TypeId × Value → H) : ∃ x, DataW.whole enc Tryd.prog (World.forCall ({ (World.holding Tryd.prog os ⟨#[.cells #[.string { data := #[101, 118, 101, 110, 116, 58, 32, 110, 111, 116, 32, 116, 111, 32, 98, 101, 32, 119, 114, 105, 116, 116, 101, 110, 32, 100, 111, 119, 110] }] 146], #[], []⟩) with heap := (((World.holding Tryd.prog os ⟨#[.cells #[.string { data := #[101, 118, 101, 110, 116, 58, 32, 110, 111, 116, 32, 116, 111, 32, 98, 101, 32, 119, 114, 105, 116, 116, 101, 110, 32, 100, 111, 119, 110] }] 146], #[], []⟩).heap.modify 1 (tabInto Rows.laid_loop_example_g01412_impl_sumTable)).modify 0 (errInto ((World.holding Tryd.prog default ⟨#[], #[], []⟩).heap.size + 0))) } : World) (fun _ _ => 0) ⟨#[], #[.slice none 0 0, .slice none 0 0], []⟩).memory Tryd.f4.params.toList Rows.fnExactEncodeSpec.vars false (#[.slice none 0 0, .slice none 0 0] : Array Value).toList 8 = some x :=
  Option.isSome_iff_exists.1 (by kernel_rfl)

set_option maxRecDepth 100000 in
theorem lifted (os : Os) (started : os.Started) (H : Type) (enc : TypeId × Value → H) (F : Stop.Interp) :
    ReturnsInHanded {} Tryd.checked os 4 .any ((OpenSpec.ofChange Rows.fnExactEncodeSpec).preRow enc Tryd.prog Tryd.f4 Rows.fnExactEncodeRow.domain false Rows.fnExactEncodeRow.laid) (((OpenSpec.ofChange Rows.fnExactEncodeSpec).at F).post enc Tryd.prog Tryd.f4 false true false false) := by
  obtain ⟨x, hx⟩ := reads os enc
  refine returnsInHanded_of_row (C := Tryd.checked) (s := OpenSpec.ofChange Rows.fnExactEncodeSpec) own started (by kernel_rfl) Tryd.func4
    (witness_row_at (enc := enc) (C := Tryd.checked) false ({ (World.holding Tryd.prog os ⟨#[.cells #[.string { data := #[101, 118, 101, 110, 116, 58, 32, 110, 111, 116, 32, 116, 111, 32, 98, 101, 32, 119, 114, 105, 116, 116, 101, 110, 32, 100, 111, 119, 110] }] 146], #[], []⟩) with heap := (((World.holding Tryd.prog os ⟨#[.cells #[.string { data := #[101, 118, 101, 110, 116, 58, 32, 110, 111, 116, 32, 116, 111, 32, 98, 101, 32, 119, 114, 105, 116, 116, 101, 110, 32, 100, 111, 119, 110] }] 146], #[], []⟩).heap.modify 1 (tabInto Rows.laid_loop_example_g01412_impl_sumTable)).modify 0 (errInto ((World.holding Tryd.prog default ⟨#[], #[], []⟩).heap.size + 0))) } : World) #[.slice none 0 0, .slice none 0 0] rfl (by kernel_rfl) (by kernel_rfl) (by kernel_rfl)
      (OpenSpec.preRow_of_cond 8 hx rfl (fun k hk => by cases hk) (by kernel_rfl) (laid_met os))) ?_
  intro W base args ds gs before hval hW _ _ _ hL _ _
  exact contract H enc W base args ds gs before hval hW hL

theorem said : Rows.FnExactEncodeSaid :=
  OpenClaim.holds_of_cond 4 Tryd.f4 rfl rfl rfl rfl rfl rfl rfl ⟨rfl, rfl, rfl, rfl, rfl⟩ rfl rfl rfl rfl rfl (by kernel_rfl) Tryd.func4 (by kernel_rfl)
    (of_decide_eq_true (by kernel_rfl)) (by unfold Func.isWrapper; first | (rw [if_pos (by decide +kernel)]; kernel_rfl) | (rw [if_neg (by decide +kernel)]; exact ⟨rfl, rfl⟩))
    (fun os started H enc _ F => by rw [OpenClaim.pre_eq_preRow]; exact lifted os started H enc F)

theorem plain (f : FuncId) (fn : Func) (hf : Tryd.pinned.checked.prog.funcNamed Tryd.f4.name = some f) (hfn : Tryd.pinned.checked.prog.funcs[f]? = some fn) :
    Rows.fnExactEncodeCard.stood.looks = Tryd.pinned.checked.prog.looks [] ∧ ∀ (j : Nat) t, fn.params[j]? = some t → Tryd.pinned.checked.prog.wantsStandIn t = false := by
  obtain rfl : f = 4 := Option.some.inj ((show Tryd.prog.funcNamed Tryd.f4.name = some 4 by kernel_rfl).symm.trans hf) |>.symm
  obtain rfl : fn = Tryd.f4 := (Option.some.inj (Tryd.func4.symm.trans hfn)).symm
  refine ⟨by kernel_rfl, fun j t ht => ?_⟩
  rw [Tryd.params4] at ht
  have hm : t ∈ [41, 42] := by simpa using Array.mem_of_getElem? ht
  simp only [List.mem_cons, List.not_mem_nil, or_false] at hm
  rcases hm with rfl | rfl
  · exact (show Tryd.prog.wantsStandIn 41 = false by kernel_rfl)
  · exact (show Tryd.prog.wantsStandIn 42 = false by kernel_rfl)

end Go.Proofs.YtcjpepdagnifiaaDoor.fnExactEncode
namespace Go.Proofs.YtcjpepdagnifiaaDoor
theorem fnExactEncode_card : Rows.FnExactEncodeCardSaid :=
  Claim7.holds_tied_plain_at .later [] _ _ _ _ fnExactEncode.said (fun _ h => by cases h) (by kernel_rfl) (fun _ h => by cases h) fnExactEncode_row_tie rfl ⟨rfl, rfl⟩ (by kernel_rfl) rfl fnExactEncode.plain (by kernel_rfl)
#print axioms fnExactEncode_card
end Go.Proofs.YtcjpepdagnifiaaDoor
