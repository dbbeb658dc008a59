/- Plain facts on the bytes of Var at every number: what is made is read as it, whatever stands behind. No condition. -/
import Derived.Test.YtcjpepdagnifiaaDoorRvMath
namespace Go.Proofs.YtcjpepdagnifiaaDoor

/-- The bytes of Var, none where the number is out of range. -/
def varZ (n : Int) : List UInt8 := if 0 ≤ n ∧ n ≤ 562949953421311 then varB 6 n.toNat else []
theorem varZ_length (n : Int) : (varZ n).length ≤ 7 := by
  unfold varZ; split
  · exact varB_length 6 _
  · simp
theorem varZ_in (n : Int) (h : 0 ≤ n ∧ n ≤ 562949953421311) : varZ n = varB 6 n.toNat := by unfold varZ; rw [if_pos h]
theorem varZ_out (n : Int) (h : ¬ (0 ≤ n ∧ n ≤ 562949953421311)) : varZ n = [] := by unfold varZ; rw [if_neg h]

/-- What Var makes is canonical. -/
theorem varB_canon : ∀ (f m : Nat), m < vlim f → ∀ first, (first = true ∨ 0 < m) → canon (varB f m) first = true ∧ vv (varB f m) = m := by
  intro f
  induction f with
  | zero =>
    intro m hm first hf
    rw [vlim_zero] at hm
    have e : (UInt8.ofNat m).toNat = m := by rw [UInt8.toNat_ofNat']; omega
    rw [varB_small 0 m hm]
    refine ⟨?_, by simp only [vv, e]; omega⟩
    simp only [canon, e, Bool.and_eq_true, decide_eq_true_eq, Bool.or_eq_true]
    refine ⟨hm, ?_⟩
    rcases hf with h | h
    · exact .inl h
    · exact .inr (by omega)
  | succ f ih =>
    intro m hm first hf
    by_cases h : m < 128
    · have e : (UInt8.ofNat m).toNat = m := by rw [UInt8.toNat_ofNat']; omega
      rw [varB_small _ m h]
      refine ⟨?_, by simp only [vv, e]; omega⟩
      simp only [canon, e, Bool.and_eq_true, decide_eq_true_eq, Bool.or_eq_true]
      refine ⟨h, ?_⟩
      rcases hf with h2 | h2
      · exact .inl h2
      · exact .inr (by omega)
    · rw [varB_great f m (by omega)]
      have h2 := ih (m / 128) (vlim_div f m hm) false (.inr (by omega))
      have e : (hiB m).toNat = 128 + m % 128 := by unfold hiB; rw [UInt8.toNat_ofNat']; omega
      cases hr : varB f (m / 128) with
      | nil => exact absurd hr (varB_ne _ _)
      | cons c r =>
        rw [hr] at h2
        refine ⟨?_, ?_⟩
        · simp only [canon, e, Bool.and_eq_true, decide_eq_true_eq]
          exact ⟨by omega, h2.1⟩
        · have e2 : vv (hiB m :: c :: r) = (hiB m).toNat % 128 + 128 * vv (c :: r) := rfl
          rw [e2, e, h2.2]; omega

theorem rdv_var (m : Nat) (tail : List UInt8) (h : m ≤ 562949953421311) : rdv (varB 6 m ++ tail) = (m, (varB 6 m).length) := by
  have hc := varB_canon 6 m (by show m < 128 ^ 7; omega) true (.inl rfl)
  have hl := varB_length 6 m
  have hp : 1 ≤ (varB 6 m).length := by
    cases hr : varB 6 m with
    | nil => exact absurd hr (varB_ne _ _)
    | cons c r => simp
  obtain ⟨j, hj⟩ : ∃ j, (varB 6 m).length = j + 1 := ⟨(varB 6 m).length - 1, by omega⟩
  have ht : (varB 6 m ++ tail).take (j + 1) = varB 6 m := by rw [← hj]; exact List.take_left
  unfold rdv
  rw [rdvG_hit (varB 6 m ++ tail) j 7 true (by omega) (by rw [List.length_append]; omega) (by rw [ht]; exact hc.1), ht, hc.2, hj]
  rfl

/-- What ReadVar tells is what Var makes. -/
theorem rdv_sound (l : List UInt8) : (rdv l).2 = 0 ∨ (1 ≤ (rdv l).2 ∧ (rdv l).2 ≤ l.length ∧ (rdv l).1 ≤ 562949953421311 ∧ varZ ((rdv l).1 : Int) = l.take (rdv l).2) := by
  by_cases h : ∃ k, 1 ≤ k ∧ k ≤ 7 ∧ k ≤ l.length ∧ tst l k = true
  · obtain ⟨k, h1, h7, hl, ht⟩ := h
    have hr := rdv_hit l k h1 h7 hl ht
    have hb := vv_bound (l.take k) (by rw [List.length_take]; omega)
    rw [hr]
    refine .inr ⟨h1, hl, hb, ?_⟩
    rw [varZ_in _ ⟨by omega, by omega⟩]
    have : varB 6 (vv (l.take k)) = l.take k := by simpa [tst] using ht
    exact this
  · have hr := rdv_none l (fun k h1 h7 hl => by
      cases ht : tst l k with
      | false => rfl
      | true => exact absurd ⟨k, h1, h7, hl, ht⟩ h)
    rw [hr]; exact .inl rfl


end Go.Proofs.YtcjpepdagnifiaaDoor
