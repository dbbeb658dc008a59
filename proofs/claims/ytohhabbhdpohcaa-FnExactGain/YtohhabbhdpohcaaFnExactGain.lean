/- impl.Gain answers at every heap and every number as the specification's Gain, in memory of its own, and writes nothing that was there. For every heap that comes in; no condition. -/
import Derived.Test.YtohhabbhdpohcaaRows
import Derived.Test.YtohhabbhdpohcaaOpenHeap
import Derived.Test.YtohhabbhdpohcaaSGainWalks
import Derived.Test.YtohhabbhdpohcaaGainLaw
import Derived.WalkKit
import Derived.ProofKit
import Derived.OpenShut
import Derived.ShutString
import Derived.ChangeOld
import Derived.Below
namespace Go.Proofs.Ytohhabbhdpohcaa.fnExactGain
open Go.ChangeShapes Go.WideShapes Go.ChangeAt Go.RowKit
open Go.ChangeMaps (open_string shut_string)
set_option linter.unusedVariables false

theorem own : ownKnob Try.prog.godebug = none := by kernel_rfl
theorem laidOut : laidOutB Try.prog = true := by kernel_rfl

theorem gain_small (H : HeapD) (id : Int) (h : SmallH H) : (gainD H id).objs.length ≤ 16777216 ∧ (∀ z ∈ (gainD H id).objs, z.field.length ≤ 16777216) ∧ (gainD H id).weaks.length ≤ 16777216 ∧ (gainD H id).buffer.length ≤ 16777216 ∧ (gainD H id).sites.length ≤ 16777216 := by
  have h0 := h.objs
  have h1 := h.fields
  have h2 := h.weaks
  have h3 := h.buffer
  have h4 := h.sites
  have hb : H.objs.length ≤ 16777216 ∧ (∀ z ∈ H.objs, z.field.length ≤ 16777216) ∧ H.weaks.length ≤ 16777216 ∧ H.buffer.length ≤ 16777216 ∧ H.sites.length ≤ 16777216 := ⟨by omega, fun z hz => by have := h1 z hz; omega, by omega, by omega, by omega⟩
  unfold gainD
  split
  · unfold incD
    split
    · rename_i o ho
      refine ⟨by simpa using hb.1, fun z hz => ?_, hb.2.2.1, hb.2.2.2.1, hb.2.2.2.2⟩
      rcases List.mem_or_eq_of_mem_set hz with hz | hz
      · exact hb.2.1 z hz
      · rw [hz]
        exact hb.2.1 o (List.mem_of_getElem? ho)
    · exact hb
  · exact hb

theorem walk (v0 : Value) (H0 : HeapD) (a1 : Int) (w : World) (w0 : RdH w v0 H0) (y0 : SaneH H0) (w1 : (Lit.int .i64 a1).wf = true) :
    Calls Try.prog 5 #[v0, .int .i64 a1] w fun e w' => e = .returned (.bool true) ∧ Below w.heap.size w w' :=
  gain_law v0 H0 a1 w w0 y0 (gainD H0 a1) (gain_small H0 a1) (fun hs X u r => sGain_calls u H0 a1 X r hs (in64_wf w1)) (fun hs X u r => iGain_calls u H0 a1 X r hs (in64_wf w1))

set_option maxRecDepth 100000 in
theorem lifted (os : Os) (started : os.Started) (H : Type) (enc : TypeId × Value → H) :
    ReturnsInHanded {} Try.checked os 5 .any (Rows.fnExactGainSpec.pre6 enc Try.prog Try.f5 Rows.fnExactGainRow.domain false) (Rows.fnExactGainSpec.post enc Try.prog Try.f5 false true false false) := by
  refine returnsInHanded_of_change (C := Try.checked) own started (by kernel_rfl) Try.func5
    (ChangeSpec.witness6 (enc := enc) (C := Try.checked) false ⟨#[], #[.agg #[.slice none 0 0, .slice none 0 0, .slice none 0 0, .slice none 0 0], .int .i64 0], []⟩ 8 (by kernel_rfl) (by kernel_rfl) (by kernel_rfl) (by kernel_rfl)) ?_
  intro W base args ds gs before hval0 hW hcnd _
  have hval : ∀ (j : Nat) t v, Try.f5.params[j]? = some t → args[j]? = some v → Value.okWide Try.prog W .any base t v := hval0
  have hW' := hW
  obtain ⟨p, q, hA0, hV, rfl, hfz, hnd⟩ := hW
  have hA : DataW.TrodAll enc Try.prog W 0 (fun _ => true) true Try.f5.params.toList args.toList ds p := hA0
  rw [Try.params5] at hA hval
  obtain ⟨v0, vs0, d0, ds0, p0, q0, hargs, rfl, rfl, h0, r0⟩ := trodAll_cons hA
  obtain ⟨v1, vs1, d1, ds1, p1, q1, rfl, rfl, rfl, h1, r1⟩ := trodAll_cons r0
  obtain ⟨rfl, rfl, rfl⟩ := trodAll_nil r1
  obtain rfl : args = #[v0, v1] := by cases args; simp_all
  obtain ⟨rfl, rfl⟩ := trodVars_none hV
  have k0 := h0
  have lt0 : ∀ x ∈ p0, x.block < W.heap.size := by obtain ⟨m, hm⟩ := k0; exact DataW.trod_lt m _ _ _ hm
  obtain ⟨H0, w0, y0⟩ := opened_heap (hval 0 45 v0 rfl rfl) h0
  obtain ⟨a1, rfl, rfl, rfl, w1⟩ := open_int Try.underlying3 (hval 1 3 v1 rfl rfl) h1
  clear hA0 hval0
  simp only [List.append_nil] at hW'
  refine (walk v0 H0 a1 W w0 y0 w1).mono fun e W' ⟨he, bel⟩ => ?_
  subst he
  exact ⟨_, rfl, _, _, _, [], _, [], hW', trodAll_mk1 (shut_bool Try.underlying4 _), (trodAll_cons_mk (Below.trod laidOut (by kernel_rfl) (of_decide_eq_true (by kernel_rfl)) k0 bel lt0) (trodAll_cons_mk (shut_int Try.underlying3 w1) trodAll_mk0)), rfl, bel.frame _, fun h => by cases h⟩

theorem over : Rows.fnExactGainRow.holds Try.pinned (OpenSpec.ofChange Rows.fnExactGainSpec) :=
  OpenClaim.holds_of_wide 5 Try.f5 rfl rfl rfl rfl rfl rfl rfl ⟨rfl, rfl, rfl, rfl, rfl⟩ rfl rfl rfl rfl rfl (by kernel_rfl) Try.func5 (by kernel_rfl)
    (of_decide_eq_true (by kernel_rfl)) (by unfold Func.isWrapper; first | (rw [if_pos (by decide +kernel)]; kernel_rfl) | (rw [if_neg (by decide +kernel)]; exact ⟨rfl, rfl⟩))
    (fun os started H enc _ => lifted os started H enc)

end Go.Proofs.Ytohhabbhdpohcaa.fnExactGain
namespace Go.Proofs.Ytohhabbhdpohcaa
theorem fnExactGain_holds : Rows.FnExactGainSaid := fnExactGain.over
#print axioms fnExactGain_holds
end Go.Proofs.Ytohhabbhdpohcaa
