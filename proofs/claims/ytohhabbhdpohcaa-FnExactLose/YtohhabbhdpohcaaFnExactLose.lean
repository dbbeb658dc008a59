/- impl.Lose answers at every heap and every list of numbers as the specification's Lose, in memory of its own, and writes nothing that was there. For every heap and list that come in; no condition. -/
import Derived.Test.YtohhabbhdpohcaaRows
import Derived.Test.YtohhabbhdpohcaaOpenHeap
import Derived.Test.YtohhabbhdpohcaaSLoseWalks
import Derived.Test.YtohhabbhdpohcaaLoseLaw
import Derived.WalkKit
import Derived.ProofKit
import Derived.OpenShut
import Derived.ShutString
import Derived.ChangeOld
import Derived.Below
namespace Go.Proofs.Ytohhabbhdpohcaa.fnExactLose
open Go.ChangeShapes Go.WideShapes Go.ChangeAt Go.RowKit
open Go.ChangeMaps (open_string shut_string)
set_option linter.unusedVariables false

theorem own : ownKnob Try.prog.godebug = none := by kernel_rfl
theorem laidOut : laidOutB Try.prog = true := by kernel_rfl

theorem lose_small (H : HeapD) (ids : List Int) (h : SmallH H) (hw : ∀ z ∈ H.objs, ∀ x ∈ z.field, in64 x) (hl : ids.length ≤ 1048576) (hi : ∀ x ∈ ids, in64 x) :
    ((loseR H ids).1.objs.length ≤ 16777216 ∧ (∀ z ∈ (loseR H ids).1.objs, z.field.length ≤ 16777216) ∧ (loseR H ids).1.weaks.length ≤ 16777216 ∧ (loseR H ids).1.buffer.length ≤ 16777216 ∧ (loseR H ids).1.sites.length ≤ 16777216) ∧ (loseR H ids).2.length ≤ 16777216 := by
  have key : ∀ n (G : HeapD) (todo fr : List Int), LoseOk G todo fr → ∃ t2, LoseOk (loseF n G todo fr).1 t2 (loseF n G todo fr).2 := by
    intro n
    induction n with
    | zero => intro G todo fr hk; exact ⟨todo, hk⟩
    | succ n ih =>
      intro G todo fr hk
      cases todo with
      | nil => exact ⟨[], hk⟩
      | cons id rest =>
        by_cases h8 : 8 < fr.length
        · rw [loseF, if_pos h8]; exact ⟨_, hk⟩
        · rw [loseF_step (by omega)]
          exact ih _ _ _ (loseOk_step hk (by omega)).1
  obtain ⟨t2, hk⟩ := key (muL ids []) H ids [] (toR_begin h hw hl hi).ok
  unfold loseR
  have h0 := hk.objs
  have h1 := hk.weaks
  have h2 := hk.sites
  have h3 := hk.buf
  have h4 := hk.frl
  exact ⟨⟨by omega, fun z hz => by have := hk.fields z hz; omega, by omega, by omega, by omega⟩, by omega⟩

theorem walk (v0 : Value) (H0 : HeapD) (a1 : Option Addr) (cap1 : Nat) (z1 : List Int) (w : World) (w0 : RdH w v0 H0) (y0 : SaneH H0) (w1 : RdI w a1 z1) (y1 : z1.length ≤ 9223372036854775807) (x1 : ∀ z ∈ z1, in64 z) :
    Calls Try.prog 6 #[v0, .slice a1 z1.length cap1] w fun e w' => e = .returned (.bool true) ∧ Below w.heap.size w w' := by
  have hw : ∀ z ∈ H0.objs, ∀ x ∈ z.field, in64 x := fun z hz => (y0.wf.objs z hz).2.2.2.2.2
  exact lose_law v0 H0 a1 cap1 z1 w w0 y0 w1 y1 (loseR H0 z1) (fun hs hl => lose_small H0 z1 hs hw hl x1) (fun hs hl X u xa xc r ri => sLose_calls u H0 xa xc z1 X r hs hw ri hl x1) (fun hs hl X u xa xc r ri => iLose_calls u H0 xa xc z1 X r hs hw ri hl x1)

set_option maxRecDepth 100000 in
theorem lifted (os : Os) (started : os.Started) (H : Type) (enc : TypeId × Value → H) :
    ReturnsInHanded {} Try.checked os 6 .any (Rows.fnExactLoseSpec.pre6 enc Try.prog Try.f6 Rows.fnExactLoseRow.domain false) (Rows.fnExactLoseSpec.post enc Try.prog Try.f6 false true false false) := by
  refine returnsInHanded_of_change (C := Try.checked) own started (by kernel_rfl) Try.func6
    (ChangeSpec.witness6 (enc := enc) (C := Try.checked) false ⟨#[], #[.agg #[.slice none 0 0, .slice none 0 0, .slice none 0 0, .slice none 0 0], .slice none 0 0], []⟩ 8 (by kernel_rfl) (by kernel_rfl) (by kernel_rfl) (by kernel_rfl)) ?_
  intro W base args ds gs before hval0 hW hcnd _
  have hval : ∀ (j : Nat) t v, Try.f6.params[j]? = some t → args[j]? = some v → Value.okWide Try.prog W .any base t v := hval0
  have hW' := hW
  obtain ⟨p, q, hA0, hV, rfl, hfz, hnd⟩ := hW
  have hA : DataW.TrodAll enc Try.prog W 0 (fun _ => true) true Try.f6.params.toList args.toList ds p := hA0
  rw [Try.params6] at hA hval
  obtain ⟨v0, vs0, d0, ds0, p0, q0, hargs, rfl, rfl, h0, r0⟩ := trodAll_cons hA
  obtain ⟨v1, vs1, d1, ds1, p1, q1, rfl, rfl, rfl, h1, r1⟩ := trodAll_cons r0
  obtain ⟨rfl, rfl, rfl⟩ := trodAll_nil r1
  obtain rfl : args = #[v0, v1] := by cases args; simp_all
  obtain ⟨rfl, rfl⟩ := trodVars_none hV
  have k0 := h0
  have lt0 : ∀ x ∈ p0, x.block < W.heap.size := by obtain ⟨m, hm⟩ := k0; exact DataW.trod_lt m _ _ _ hm
  obtain ⟨H0, w0, y0⟩ := opened_heap (hval 0 45 v0 rfl rfl) h0
  obtain ⟨a1, len1, cap1, rfl⟩ := okWide_slice Try.underlying26 (hval 1 26 v1 rfl rfl)
  have k1 := h1
  have lt1 : ∀ x ∈ p1, x.block < W.heap.size := by obtain ⟨m, hm⟩ := k1; exact DataW.trod_lt m _ _ _ hm
  obtain ⟨z1, rfl, w1, y1, x1⟩ : ∃ zs : List Int, len1 = zs.length ∧ RdI W a1 zs ∧ zs.length ≤ 9223372036854775807 ∧ ∀ z ∈ zs, in64 z := by
    obtain ⟨fuel, hf⟩ := h1
    obtain ⟨a', zs, cap', hcs, h1, h2, h3⟩ := opened_ints hf
    simp [Value.cells] at hcs
    obtain ⟨rfl, rfl, rfl⟩ := hcs
    exact ⟨zs, rfl, h1, h2, h3⟩
  clear hA0 hval0
  simp only [List.append_nil] at hW'
  refine (walk v0 H0 a1 cap1 z1 W w0 y0 w1 y1 x1).mono fun e W' ⟨he, bel⟩ => ?_
  subst he
  exact ⟨_, rfl, _, _, _, [], _, [], hW', trodAll_mk1 (shut_bool Try.underlying4 _), (trodAll_cons_mk (Below.trod laidOut (by kernel_rfl) (of_decide_eq_true (by kernel_rfl)) k0 bel lt0) (trodAll_cons_mk (Below.trod laidOut (by kernel_rfl) (of_decide_eq_true (by kernel_rfl)) k1 bel lt1) trodAll_mk0)), rfl, bel.frame _, fun h => by cases h⟩

theorem over : Rows.fnExactLoseRow.holds Try.pinned (OpenSpec.ofChange Rows.fnExactLoseSpec) :=
  OpenClaim.holds_of_wide 6 Try.f6 rfl rfl rfl rfl rfl rfl rfl ⟨rfl, rfl, rfl, rfl, rfl⟩ rfl rfl rfl rfl rfl (by kernel_rfl) Try.func6 (by kernel_rfl)
    (of_decide_eq_true (by kernel_rfl)) (by unfold Func.isWrapper; first | (rw [if_pos (by decide +kernel)]; kernel_rfl) | (rw [if_neg (by decide +kernel)]; exact ⟨rfl, rfl⟩))
    (fun os started H enc _ => lifted os started H enc)

end Go.Proofs.Ytohhabbhdpohcaa.fnExactLose
namespace Go.Proofs.Ytohhabbhdpohcaa
theorem fnExactLose_holds : Rows.FnExactLoseSaid := fnExactLose.over
#print axioms fnExactLose_holds
end Go.Proofs.Ytohhabbhdpohcaa
