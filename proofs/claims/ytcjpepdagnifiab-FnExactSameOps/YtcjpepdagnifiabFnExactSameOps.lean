/- impl.SameOps answers at every two rows of operations as the specification's SameOps; nothing that came in is written. For every two rows. -/
import Derived.Test.YtcjpepdagnifiabRows
import Derived.Test.YtcjpepdagnifiabSameOpsWalks
import Derived.WalkKit
import Derived.ProofKit
import Derived.OpenShut
import Derived.ShutString
import Derived.ChangeOld
import Derived.Below
namespace Go.Proofs.Ytcjpepdagnifiab.fnExactSameOps
open Go.ChangeShapes Go.WideShapes Go.ChangeAt Go.RowKit
open Go.ChangeMaps (open_string shut_string)
set_option linter.unusedVariables false

theorem own : ownKnob Try.prog.godebug = none := by kernel_rfl
theorem laidOut : laidOutB Try.prog = true := by kernel_rfl

set_option maxHeartbeats 1000000 in
theorem walk (a0 : Option Addr) (cap0 : Nat) (z0 : List OpD) (a1 : Option Addr) (cap1 : Nat) (z1 : List OpD) (w : World) (w0 : RdQ w a0 z0) (y0 : z0.length ≤ 9223372036854775807) (x0 : ∀ z ∈ z0, SaneOp z) (w1 : RdQ w a1 z1) (y1 : z1.length ≤ 9223372036854775807) (x1 : ∀ z ∈ z1, SaneOp z) :
    Calls Try.prog 3 #[.slice a0 z0.length cap0, .slice a1 z1.length cap1] w fun e w' => e = .returned (.bool true) ∧ Below w.heap.size w w' := by
  have HR0 : Hid (∀ X, Below w.heap.size w X → RdQ X a0 z0) := fun X hX => rdQ_later w0 hX
  have HR1 : Hid (∀ X, Below w.heap.size w X → RdQ X a1 z1) := fun X hX => rdQ_later w1 hX
  have CZ0 : Hid (∀ (_ : Unit), _) := fun _ => szOpS_calls w a0 cap0 z0 1048576 w0 y0 (fun z h => (x0 z h).site) (by omega) (by omega)
  have F0 := szQ_facts z0 1048576
  have L0 := szQ_le z0 1048576 (by omega)
  by_cases hS : szQ z0 1048576 < 0
  · clear F0 w1
    generalize szQ z0 1048576 = S at *
    generalize z0.length = n at *
    generalize z1.length = m at *
    go_enter Try.func3, Try.ntmps3
    go_wp2_with fail
    refine (CZ0.out ()).mono ?_
    rintro e w2 ⟨rfl, b2⟩
    go_wp2
    go_ret
    exact ⟨rfl, b2⟩
  obtain ⟨hl0, -⟩ := F0 (by omega)
  have CZ1 : Hid (∀ X, Below w.heap.size w X → _) := fun X hX => szOpS_calls X a1 cap1 z1 (szQ z0 1048576) (HR1.out X hX) y1 (fun z h => (x1 z h).site) (by omega) (by omega)
  have F1 := szQ_facts z1 (szQ z0 1048576)
  clear w0 w1 x0 x1
  by_cases hS1 : szQ z1 (szQ z0 1048576) < 0
  · clear F1
    generalize szQ z1 (szQ z0 1048576) = S1 at *
    generalize szQ z0 1048576 = S at *
    generalize z0.length = n at *
    generalize z1.length = m at *
    have hS' : 0 ≤ S := by omega
    go_enter Try.func3, Try.ntmps3
    go_wp2_with fail
    refine (CZ0.out ()).mono ?_
    rintro e w2 ⟨rfl, b2⟩
    go_wp2_with fail
    refine (CZ1.out _ b2).mono ?_
    rintro e w3 ⟨rfl, b3⟩
    have B3 := b2.trans (b3.mono b2.size)
    go_wp2
    go_ret
    exact ⟨rfl, B3⟩
  obtain ⟨hl1, -⟩ := F1 (by omega)
  obtain ⟨q, hq⟩ := bool_of (z0 = z1)
  have HL0 : Hid (z0.length ≤ 1048576) := by show _ ≤ _; omega
  have HL1 : Hid (z1.length ≤ 1048576) := by show _ ≤ _; omega
  have HQ : Hid (q = true ↔ z0 = z1) := hq
  have CT0 : Hid (∀ X, Below w.heap.size w X → _) := fun X hX => toOpS_calls X a0 cap0 z0 (HR0.out X hX) (by omega)
  have CT1 : Hid (∀ X, Below w.heap.size w X → _) := fun X hX => toOpS_calls X a1 cap1 z1 (HR1.out X hX) (by omega)
  have CS : Hid (∀ X a c k1 k2, RdQ X a z0 → RdQ X c z1 → _) := fun X a c k1 k2 h1 h2 => sSameOps_calls X a c k1 k2 z0 z1 q h1 h2 HL0.out HL1.out HQ.out
  have CI : Hid (∀ X a c k1 k2, RdQ X a z0 → RdQ X c z1 → _) := fun X a c k1 k2 h1 h2 => iSameOps_calls X a c k1 k2 z0 z1 q h1 h2 HL0.out HL1.out HQ.out
  have CE0 : Hid (∀ X a c k1 k2, RdQ X a z0 → RdQ X c z0 → _) := fun X a c k1 k2 h1 h2 => eqOpS_calls X a c k1 k2 z0 h1 h2 (by have := HL0.out; omega)
  have CE1 : Hid (∀ X a c k1 k2, RdQ X a z1 → RdQ X c z1 → _) := fun X a c k1 k2 h1 h2 => eqOpS_calls X a c k1 k2 z1 h1 h2 (by have := HL1.out; omega)
  clear hq F1
  generalize szQ z1 (szQ z0 1048576) = S1 at *
  generalize szQ z0 1048576 = S at *
  have hS' : 0 ≤ S := by omega
  have hS1' : 0 ≤ S1 := by omega
  go_enter Try.func3, Try.ntmps3
  go_wp2_with fail
  refine (CZ0.out ()).mono ?_
  rintro e w2 ⟨rfl, b2⟩
  go_wp2_with fail
  refine (CZ1.out _ b2).mono ?_
  rintro e w3 ⟨rfl, b3⟩
  have B3 := b2.trans (b3.mono b2.size)
  clear b2 b3
  go_wp2_with fail
  refine (CT0.out _ B3).mono ?_
  rintro e w4 ⟨rfl, O4, s4, b4⟩
  have B4 := B3.trans (b4.mono B3.size)
  have R4 : Hid (RdQ w4 _ z0) := laidQ_rd O4 s4
  clear b4 O4 s4
  go_wp2_with fail
  refine (CT1.out _ B4).mono ?_
  rintro e w5 ⟨rfl, O5, s5, b5⟩
  have B5 := B4.trans (b5.mono B4.size)
  have R5 : Hid (RdQ w5 _ z1) := laidQ_rd O5 s5
  have R45 : Hid (RdQ w5 _ z0) := rdQ_later R4.out b5
  clear b5 O5 s5
  go_wp2_with fail
  refine (CS.out _ _ _ _ _ R45.out R5.out).mono ?_
  rintro e w6 ⟨rfl, b6⟩
  have B6 := B5.trans (b6.mono B5.size)
  clear b6 R4 R45 R5
  go_wp2_with fail
  refine (CT0.out _ B6).mono ?_
  rintro e w7 ⟨rfl, O7, s7, b7⟩
  have B7 := B6.trans (b7.mono B6.size)
  have R7 : Hid (RdQ w7 _ z0) := laidQ_rd O7 s7
  clear b7 O7 s7
  go_wp2_with fail
  refine (CT1.out _ B7).mono ?_
  rintro e w8 ⟨rfl, O8, s8, b8⟩
  have B8 := B7.trans (b8.mono B7.size)
  have R8 : Hid (RdQ w8 _ z1) := laidQ_rd O8 s8
  have R78 : Hid (RdQ w8 _ z0) := rdQ_later R7.out b8
  clear b8 O8 s8
  go_wp2_with fail
  refine (CI.out _ _ _ _ _ R78.out R8.out).mono ?_
  rintro e w9 ⟨rfl, b9⟩
  have B9 := B8.trans (b9.mono B8.size)
  have R9 : Hid (RdQ w9 _ z1) := rdQ_later R8.out b9
  have R79 : Hid (RdQ w9 _ z0) := rdQ_later R78.out b9
  clear b9 R7 R78 R8
  cases q
  all_goals
    go_wp2_with fail
    refine (CT0.out _ B9).mono ?_
    rintro e wa ⟨rfl, Oa, sa, ba⟩
    have Ba := B9.trans (ba.mono B9.size)
    have Ra : Hid (RdQ wa _ z0) := laidQ_rd Oa sa
    have R7a : Hid (RdQ wa _ z0) := rdQ_later R79.out ba
    have R9a : Hid (RdQ wa _ z1) := rdQ_later R9.out ba
    clear ba Oa sa
    go_wp2_with fail
    refine (CE0.out _ _ _ _ _ R7a.out Ra.out).mono ?_
    rintro e wb ⟨rfl, bb⟩
    have Bb := Ba.trans (bb.mono Ba.size)
    have R9b : Hid (RdQ wb _ z1) := rdQ_later R9a.out bb
    clear bb
    go_wp2_with fail
    refine (CT1.out _ Bb).mono ?_
    rintro e wc ⟨rfl, Oc, sc, bc⟩
    have Bc := Bb.trans (bc.mono Bb.size)
    have Rc : Hid (RdQ wc _ z1) := laidQ_rd Oc sc
    have R9c : Hid (RdQ wc _ z1) := rdQ_later R9b.out bc
    clear bc Oc sc
    go_wp2_with fail
    refine (CE1.out _ _ _ _ _ R9c.out Rc.out).mono ?_
    rintro e wd ⟨rfl, bd⟩
    have Bd := Bc.trans (bd.mono Bc.size)
    go_wp2
    go_ret
    exact ⟨rfl, Bd⟩

set_option maxRecDepth 100000 in
theorem lifted (os : Os) (started : os.Started) (H : Type) (enc : TypeId × Value → H) :
    ReturnsInHanded {} Try.checked os 3 .any (Rows.fnExactSameOpsSpec.pre6 enc Try.prog Try.f3 Rows.fnExactSameOpsRow.domain false) (Rows.fnExactSameOpsSpec.post enc Try.prog Try.f3 false true false false) := by
  refine returnsInHanded_of_change (C := Try.checked) own started (by kernel_rfl) Try.func3
    (ChangeSpec.witness6 (enc := enc) (C := Try.checked) false ⟨#[], #[.slice none 0 0, .slice none 0 0], []⟩ 8 (by kernel_rfl) (by kernel_rfl) (by kernel_rfl) (by kernel_rfl)) ?_
  intro W base args ds gs before hval0 hW hcnd _
  have hval : ∀ (j : Nat) t v, Try.f3.params[j]? = some t → args[j]? = some v → Value.okWide Try.prog W .any base t v := hval0
  have hW' := hW
  obtain ⟨p, q, hA0, hV, rfl, hfz, hnd⟩ := hW
  have hA : DataW.TrodAll enc Try.prog W 0 (fun _ => true) true Try.f3.params.toList args.toList ds p := hA0
  rw [Try.params3] at hA hval
  obtain ⟨v0, vs0, d0, ds0, p0, q0, hargs, rfl, rfl, h0, r0⟩ := trodAll_cons hA
  obtain ⟨v1, vs1, d1, ds1, p1, q1, rfl, rfl, rfl, h1, r1⟩ := trodAll_cons r0
  obtain ⟨rfl, rfl, rfl⟩ := trodAll_nil r1
  obtain rfl : args = #[v0, v1] := by cases args; simp_all
  obtain ⟨rfl, rfl⟩ := trodVars_none hV
  obtain ⟨a0, len0, cap0, rfl⟩ := okWide_slice Try.underlying22 (hval 0 22 v0 rfl rfl)
  have k0 := h0
  have lt0 : ∀ x ∈ p0, x.block < W.heap.size := by obtain ⟨m, hm⟩ := k0; exact DataW.trod_lt m _ _ _ hm
  obtain ⟨z0, rfl, w0, y0, x0⟩ : ∃ zs : List OpD, len0 = zs.length ∧ RdQ W a0 zs ∧ zs.length ≤ 9223372036854775807 ∧ ∀ z ∈ zs, SaneOp z := by
    obtain ⟨fuel, hf⟩ := h0
    obtain ⟨a', zs, cap', hcs, h1, h2, h3⟩ := opened_ops hf
    simp [Value.cells] at hcs
    obtain ⟨rfl, rfl, rfl⟩ := hcs
    exact ⟨zs, rfl, h1, h2, h3⟩
  obtain ⟨a1, len1, cap1, rfl⟩ := okWide_slice Try.underlying22 (hval 1 22 v1 rfl rfl)
  have k1 := h1
  have lt1 : ∀ x ∈ p1, x.block < W.heap.size := by obtain ⟨m, hm⟩ := k1; exact DataW.trod_lt m _ _ _ hm
  obtain ⟨z1, rfl, w1, y1, x1⟩ : ∃ zs : List OpD, len1 = zs.length ∧ RdQ W a1 zs ∧ zs.length ≤ 9223372036854775807 ∧ ∀ z ∈ zs, SaneOp z := by
    obtain ⟨fuel, hf⟩ := h1
    obtain ⟨a', zs, cap', hcs, h1, h2, h3⟩ := opened_ops hf
    simp [Value.cells] at hcs
    obtain ⟨rfl, rfl, rfl⟩ := hcs
    exact ⟨zs, rfl, h1, h2, h3⟩
  clear hA0 hval0
  simp only [List.append_nil] at hW'
  refine (walk a0 cap0 z0 a1 cap1 z1 W w0 y0 x0 w1 y1 x1).mono fun e W' ⟨he, bel⟩ => ?_
  subst he
  exact ⟨_, rfl, _, _, _, [], _, [], hW', trodAll_mk1 (shut_bool Try.underlying4 _), (trodAll_cons_mk (Below.trod laidOut (by kernel_rfl) (of_decide_eq_true (by kernel_rfl)) k0 bel lt0) (trodAll_cons_mk (Below.trod laidOut (by kernel_rfl) (of_decide_eq_true (by kernel_rfl)) k1 bel lt1) trodAll_mk0)), rfl, bel.frame _, fun h => by cases h⟩

theorem over : Rows.fnExactSameOpsRow.holds Try.pinned (OpenSpec.ofChange Rows.fnExactSameOpsSpec) :=
  OpenClaim.holds_of_wide 3 Try.f3 rfl rfl rfl rfl rfl rfl rfl ⟨rfl, rfl, rfl, rfl, rfl⟩ rfl rfl rfl rfl rfl (by kernel_rfl) Try.func3 (by kernel_rfl)
    (of_decide_eq_true (by kernel_rfl)) (by unfold Func.isWrapper; first | (rw [if_pos (by decide +kernel)]; kernel_rfl) | (rw [if_neg (by decide +kernel)]; exact ⟨rfl, rfl⟩))
    (fun os started H enc _ => lifted os started H enc)

end Go.Proofs.Ytcjpepdagnifiab.fnExactSameOps
namespace Go.Proofs.Ytcjpepdagnifiab
theorem fnExactSameOps_holds : Rows.FnExactSameOpsSaid := fnExactSameOps.over
#print axioms fnExactSameOps_holds
end Go.Proofs.Ytcjpepdagnifiab
