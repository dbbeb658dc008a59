/- impl.Collect answers at every heap as the specification's Collect, in memory of its own, and writes nothing that was there. For every heap that comes in; no condition. -/
import Derived.Test.YtnjplfofcjonhaaRows
import Derived.Test.YtnjplfofcjonhaaJCollect6
import Derived.WalkKit
import Derived.ProofKit
import Derived.OpenShut
import Derived.ShutString
import Derived.ChangeOld
import Derived.Below
namespace Go.Proofs.Ytnjplfofcjonhaa.fnExactCollect
open Go.ChangeShapes Go.WideShapes Go.ChangeAt Go.RowKit
open Go.ChangeMaps (open_string shut_string)
set_option linter.unusedVariables false

theorem own : ownKnob Try.prog.godebug = none := by kernel_rfl
theorem laidOut : laidOutB Try.prog = true := by kernel_rfl


theorem walk (v0 : Value) (H0 : HeapD) (w : World) (w0 : RdH w v0 H0) (y0 : SaneH H0) :
    Calls Try.prog 4 #[v0] w fun e w' => e = .returned (.bool true) ∧ Below w.heap.size w w' := by
  have hw : ∀ z ∈ H0.objs, ∀ x ∈ z.field, in64 x := fun z hz => (y0.wf.objs z hz).2.2.2.2.2
  have hb : ∀ z ∈ H0.buffer, in64 z := fun z hz => y0.wf.buffer z hz
  by_cases h8 : H0.objs.length = 8
  · refine collect_law v0 H0 w w0 y0 (collH H0, collF H0) (fun hs => ?_) (fun hs X u r c => sCollect_yes u H0 X r hs h8 hw hb) (fun hs X u r c => iCollect_yes u H0 X r hs h8 c hw hb)
    have hl : (collH H0).objs.length = 8 := by simp [collH, coll1, h8]
    have hT8 := suspS_eight H0 hs h8 H0.buffer.length
    have h1 := (kup_small hs 8).fields
    have h2 := (kup_small hs 8).weaks
    have h3 := (kup_small hs 8).sites
    have e := kup_end H0 8 (by omega)
    rw [← e] at hl ⊢
    refine ⟨⟨?_, fun z hz => ?_, ?_, ?_, ?_⟩, ?_⟩
    · show (kup H0 8).objs.length ≤ _
      rw [kup_len]; omega
    · have := h1 z hz; omega
    · show (kup H0 8).weaks.length ≤ _; omega
    · show ([] : List Int).length ≤ _; simp
    · show (kup H0 8).sites.length ≤ _; omega
    · have key : ∀ (zs : List Int) (i : Int), (whiteL zs i).length ≤ zs.length := by
        intro zs
        induction zs with
        | nil => intro i; simp [whiteL]
        | cons o r ih =>
          intro i
          unfold whiteL
          have := ih (i + 1)
          split <;> simp <;> omega
      have h4 := key (suspT H0).colors 0
      have h5 : (suspT H0).colors.length = 8 := hT8.2
      show (collF H0).length ≤ _
      unfold collF whites
      rw [List.length_map]
      omega
  · refine collect_law v0 H0 w w0 y0 (H0, []) (fun hs => ?_) (fun hs X u r c => sCollect_no u H0 X r hs h8) (fun hs X u r c => iCollect_no u H0 X r hs h8)
    have h0 := hs.objs
    have h1 := hs.weaks
    have h2 := hs.buffer
    have h3 := hs.sites
    refine ⟨⟨?_, fun z hz => ?_, ?_, ?_, ?_⟩, ?_⟩
    · show H0.objs.length ≤ _; omega
    · have := hs.fields z hz; omega
    · show H0.weaks.length ≤ _; omega
    · show H0.buffer.length ≤ _; omega
    · show H0.sites.length ≤ _; omega
    · show ([] : List Int).length ≤ _; simp

set_option maxRecDepth 100000 in
theorem lifted (os : Os) (started : os.Started) (H : Type) (enc : TypeId × Value → H) :
    ReturnsInHanded {} Try.checked os 4 .any (Rows.fnExactCollectSpec.pre6 enc Try.prog Try.f4 Rows.fnExactCollectRow.domain false) (Rows.fnExactCollectSpec.post enc Try.prog Try.f4 false true false false) := by
  refine returnsInHanded_of_change (C := Try.checked) own started (by kernel_rfl) Try.func4
    (ChangeSpec.witness6 (enc := enc) (C := Try.checked) false ⟨#[], #[.agg #[.slice none 0 0, .slice none 0 0, .slice none 0 0, .slice none 0 0]], []⟩ 8 (by kernel_rfl) (by kernel_rfl) (by kernel_rfl) (by kernel_rfl)) ?_
  intro W base args ds gs before hval0 hW hcnd _
  have hval : ∀ (j : Nat) t v, Try.f4.params[j]? = some t → args[j]? = some v → Value.okWide Try.prog W .any base t v := hval0
  have hW' := hW
  obtain ⟨p, q, hA0, hV, rfl, hfz, hnd⟩ := hW
  have hA : DataW.TrodAll enc Try.prog W 0 (fun _ => true) true Try.f4.params.toList args.toList ds p := hA0
  rw [Try.params4] at hA hval
  obtain ⟨v0, vs0, d0, ds0, p0, q0, hargs, rfl, rfl, h0, r0⟩ := trodAll_cons hA
  obtain ⟨rfl, rfl, rfl⟩ := trodAll_nil r0
  obtain rfl : args = #[v0] := by cases args; simp_all
  obtain ⟨rfl, rfl⟩ := trodVars_none hV
  have k0 := h0
  have lt0 : ∀ x ∈ p0, x.block < W.heap.size := by obtain ⟨m, hm⟩ := k0; exact DataW.trod_lt m _ _ _ hm
  obtain ⟨H0, w0, y0⟩ := opened_heap (hval 0 45 v0 rfl rfl) h0
  clear hA0 hval0
  simp only [List.append_nil] at hW'
  refine (walk v0 H0 W w0 y0).mono fun e W' ⟨he, bel⟩ => ?_
  subst he
  exact ⟨_, rfl, _, _, _, [], _, [], hW', trodAll_mk1 (shut_bool Try.underlying4 _), (trodAll_cons_mk (Below.trod laidOut (by kernel_rfl) (of_decide_eq_true (by kernel_rfl)) k0 bel lt0) trodAll_mk0), rfl, bel.frame _, fun h => by cases h⟩

theorem over : Rows.fnExactCollectRow.holds Try.pinned (OpenSpec.ofChange Rows.fnExactCollectSpec) :=
  OpenClaim.holds_of_wide 4 Try.f4 rfl rfl rfl rfl rfl rfl rfl ⟨rfl, rfl, rfl, rfl, rfl⟩ rfl rfl rfl rfl rfl (by kernel_rfl) Try.func4 (by kernel_rfl)
    (of_decide_eq_true (by kernel_rfl)) (by unfold Func.isWrapper; first | (rw [if_pos (by decide +kernel)]; kernel_rfl) | (rw [if_neg (by decide +kernel)]; exact ⟨rfl, rfl⟩))
    (fun os started H enc _ => lifted os started H enc)

end Go.Proofs.Ytnjplfofcjonhaa.fnExactCollect
namespace Go.Proofs.Ytnjplfofcjonhaa
theorem fnExactCollect_holds : Rows.FnExactCollectSaid := fnExactCollect.over
#print axioms fnExactCollect_holds
end Go.Proofs.Ytnjplfofcjonhaa
