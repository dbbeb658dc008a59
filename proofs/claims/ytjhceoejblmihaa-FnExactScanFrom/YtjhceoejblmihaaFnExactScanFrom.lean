/- impl.ScanFrom answers at every heap, trial and slot as the specification's ScanFrom, in memory of its own, and writes nothing that was there. For every heap, trial and number that come in; no condition. -/
import Derived.Test.YtjhceoejblmihaaRows
import Derived.Test.YtjhceoejblmihaaSScan
import Derived.Test.YtjhceoejblmihaaIScan
import Derived.Test.YtjhceoejblmihaaScanFromLaw
import Derived.WalkKit
import Derived.ProofKit
import Derived.OpenShut
import Derived.ShutString
import Derived.ChangeOld
import Derived.Below
namespace Go.Proofs.Ytjhceoejblmihaa.fnExactScanFrom
open Go.ChangeShapes Go.WideShapes Go.ChangeAt Go.RowKit
open Go.ChangeMaps (open_string shut_string)
set_option linter.unusedVariables false

theorem own : ownKnob Try.prog.godebug = none := by kernel_rfl
theorem laidOut : laidOutB Try.prog = true := by kernel_rfl

theorem walk (v0 : Value) (H0 : HeapD) (v1 : Value) (D1 : TrialD) (a2 : Int) (w : World) (w0 : RdH w v0 H0) (y0 : SaneH H0) (w1 : RdT w v1 D1) (y1 : SaneT D1) (w2 : (Lit.int .i64 a2).wf = true) :
    Calls Try.prog 6 #[v0, v1, .int .i64 a2] w fun e w' => e = .returned (.bool true) ∧ Below w.heap.size w w' := by
  have hf : ∀ o ∈ H0.objs, ∀ z ∈ o.field, in64 z := fun z hz => (y0.wf.objs z hz).2.2.2.2.2
  obtain ⟨R, hy, hn⟩ : ∃ R, (OkT H0 D1 a2 → R = scanT H0 D1 a2) ∧ (¬ OkT H0 D1 a2 → R = D1) := by
    by_cases hok : OkT H0 D1 a2
    · exact ⟨_, fun _ => rfl, fun h => absurd hok h⟩
    · exact ⟨_, fun h => absurd h hok, fun _ => rfl⟩
  refine scanFrom_law v0 v1 H0 D1 a2 w w0 y0 w1 y1 R (fun hs hst => ?_) (fun hs hst X a b r rt => ?_) (fun hs hst X a b r rt => iScan_calls a b H0 D1 a2 X r rt hs hst hf R hy hn)
  · by_cases hok : OkT H0 D1 a2
    · obtain ⟨k, rfl⟩ : ∃ k : Nat, a2 = (k : Int) := ⟨a2.toNat, by have := hok.lo; omega⟩
      have h8 : Eight R := by rw [hy hok]; exact scanT_eight H0 hs D1 k ⟨hok.counts, hok.colors⟩ (by have := hok.hi; omega)
      have h1 := h8.1
      have h2 := h8.2
      omega
    · rw [hn hok]
      have h1 := hst.counts
      have h2 := hst.colors
      omega
  · by_cases hok : OkT H0 D1 a2
    · rw [hy hok]
      obtain ⟨k, rfl⟩ : ∃ k : Nat, a2 = (k : Int) := ⟨a2.toNat, by have := hok.lo; omega⟩
      exact sScan_yes a b H0 D1 k X r rt hs hst hf hok
    · rw [hn hok]
      exact sScan_no a b H0 D1 _ X r rt hs hst hok

set_option maxRecDepth 100000 in
theorem lifted (os : Os) (started : os.Started) (H : Type) (enc : TypeId × Value → H) :
    ReturnsInHanded {} Try.checked os 6 .any (Rows.fnExactScanFromSpec.pre6 enc Try.prog Try.f6 Rows.fnExactScanFromRow.domain false) (Rows.fnExactScanFromSpec.post enc Try.prog Try.f6 false true false false) := by
  refine returnsInHanded_of_change (C := Try.checked) own started (by kernel_rfl) Try.func6
    (ChangeSpec.witness6 (enc := enc) (C := Try.checked) false ⟨#[], #[.agg #[.slice none 0 0, .slice none 0 0, .slice none 0 0, .slice none 0 0], .agg #[.slice none 0 0, .slice none 0 0], .int .i64 0], []⟩ 8 (by kernel_rfl) (by kernel_rfl) (by kernel_rfl) (by kernel_rfl)) ?_
  intro W base args ds gs before hval0 hW hcnd _
  have hval : ∀ (j : Nat) t v, Try.f6.params[j]? = some t → args[j]? = some v → Value.okWide Try.prog W .any base t v := hval0
  have hW' := hW
  obtain ⟨p, q, hA0, hV, rfl, hfz, hnd⟩ := hW
  have hA : DataW.TrodAll enc Try.prog W 0 (fun _ => true) true Try.f6.params.toList args.toList ds p := hA0
  rw [Try.params6] at hA hval
  obtain ⟨v0, vs0, d0, ds0, p0, q0, hargs, rfl, rfl, h0, r0⟩ := trodAll_cons hA
  obtain ⟨v1, vs1, d1, ds1, p1, q1, rfl, rfl, rfl, h1, r1⟩ := trodAll_cons r0
  obtain ⟨v2, vs2, d2, ds2, p2, q2, rfl, rfl, rfl, h2, r2⟩ := trodAll_cons r1
  obtain ⟨rfl, rfl, rfl⟩ := trodAll_nil r2
  obtain rfl : args = #[v0, v1, v2] := by cases args; simp_all
  obtain ⟨rfl, rfl⟩ := trodVars_none hV
  have k0 := h0
  have lt0 : ∀ x ∈ p0, x.block < W.heap.size := by obtain ⟨m, hm⟩ := k0; exact DataW.trod_lt m _ _ _ hm
  obtain ⟨H0, w0, y0⟩ := opened_heap (hval 0 27 v0 rfl rfl) h0
  have k1 := h1
  have lt1 : ∀ x ∈ p1, x.block < W.heap.size := by obtain ⟨m, hm⟩ := k1; exact DataW.trod_lt m _ _ _ hm
  obtain ⟨D1, w1, y1⟩ := opened_trial (hval 1 42 v1 rfl rfl) h1
  obtain ⟨a2, rfl, rfl, rfl, w2⟩ := open_int Try.underlying3 (hval 2 3 v2 rfl rfl) h2
  clear hA0 hval0
  simp only [List.append_nil] at hW'
  refine (walk v0 H0 v1 D1 a2 W w0 y0 w1 y1 w2).mono fun e W' ⟨he, bel⟩ => ?_
  subst he
  exact ⟨_, rfl, _, _, _, [], _, [], hW', trodAll_mk1 (shut_bool Try.underlying4 _), (trodAll_cons_mk (Below.trod laidOut (by kernel_rfl) (of_decide_eq_true (by kernel_rfl)) k0 bel lt0) (trodAll_cons_mk (Below.trod laidOut (by kernel_rfl) (of_decide_eq_true (by kernel_rfl)) k1 bel lt1) (trodAll_cons_mk (shut_int Try.underlying3 w2) trodAll_mk0))), rfl, bel.frame _, fun h => by cases h⟩

theorem over : Rows.fnExactScanFromRow.holds Try.pinned (OpenSpec.ofChange Rows.fnExactScanFromSpec) :=
  OpenClaim.holds_of_wide 6 Try.f6 rfl rfl rfl rfl rfl rfl rfl ⟨rfl, rfl, rfl, rfl, rfl⟩ rfl rfl rfl rfl rfl (by kernel_rfl) Try.func6 (by kernel_rfl)
    (of_decide_eq_true (by kernel_rfl)) (by unfold Func.isWrapper; first | (rw [if_pos (by decide +kernel)]; kernel_rfl) | (rw [if_neg (by decide +kernel)]; exact ⟨rfl, rfl⟩))
    (fun os started H enc _ => lifted os started H enc)

end Go.Proofs.Ytjhceoejblmihaa.fnExactScanFrom
namespace Go.Proofs.Ytjhceoejblmihaa
theorem fnExactScanFrom_holds : Rows.FnExactScanFromSaid := fnExactScanFrom.over
#print axioms fnExactScanFrom_holds
end Go.Proofs.Ytjhceoejblmihaa
