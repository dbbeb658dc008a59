/- Plain facts on the numbers of chapter 1: what is made is read as it, whatever stands behind. No condition. -/
import Derived.Test.YtdkdjelbgegmeabDoorDraw7Walks
import Derived.Test.YtdkdjelbgegmeabDoorRvMath
import Derived.Test.YtdkdjelbgegmeabDoorRfMath
import Derived.Test.YtdkdjelbgegmeabDoorRdMath
import Derived.Test.YtdkdjelbgegmeabDoorUnhexMath
namespace Go.Proofs.YtdkdjelbgegmeabDoor

theorem varZ_in (n : Int) (h : 0 ≤ n ∧ n ≤ 562949953421311) : varZ n = varB 6 n.toNat := by unfold varZ; rw [if_pos h]
theorem varZ_out (n : Int) (h : ¬ (0 ≤ n ∧ n ≤ 562949953421311)) : varZ n = [] := by unfold varZ; rw [if_neg h]

/-- What Var makes is canonical. -/
theorem varB_canon : ∀ (f m : Nat), m < vlim f → ∀ first, (first = true ∨ 0 < m) → canon (varB f m) first = true ∧ vv (varB f m) = m := by
  intro f
  induction f with
  | zero =>
    intro m hm first hf
    rw [vlim_zero] at hm
    have e : (UInt8.ofNat m).toNat = m := by rw [UInt8.toNat_ofNat']; omega
    rw [varB_small 0 m hm]
    refine ⟨?_, by simp only [vv, e]; omega⟩
    simp only [canon, e, Bool.and_eq_true, decide_eq_true_eq, Bool.or_eq_true]
    refine ⟨hm, ?_⟩
    rcases hf with h | h
    · exact .inl h
    · exact .inr (by omega)
  | succ f ih =>
    intro m hm first hf
    by_cases h : m < 128
    · have e : (UInt8.ofNat m).toNat = m := by rw [UInt8.toNat_ofNat']; omega
      rw [varB_small _ m h]
      refine ⟨?_, by simp only [vv, e]; omega⟩
      simp only [canon, e, Bool.and_eq_true, decide_eq_true_eq, Bool.or_eq_true]
      refine ⟨h, ?_⟩
      rcases hf with h2 | h2
      · exact .inl h2
      · exact .inr (by omega)
    · rw [varB_great f m (by omega)]
      have h2 := ih (m / 128) (vlim_div f m hm) false (.inr (by omega))
      have e : (hiB m).toNat = 128 + m % 128 := by unfold hiB; rw [UInt8.toNat_ofNat']; omega
      cases hr : varB f (m / 128) with
      | nil => exact absurd hr (varB_ne _ _)
      | cons c r =>
        rw [hr] at h2
        refine ⟨?_, ?_⟩
        · simp only [canon, e, Bool.and_eq_true, decide_eq_true_eq]
          exact ⟨by omega, h2.1⟩
        · have e2 : vv (hiB m :: c :: r) = (hiB m).toNat % 128 + 128 * vv (c :: r) := rfl
          rw [e2, e, h2.2]; omega

theorem rdv_var (m : Nat) (tail : List UInt8) (h : m ≤ 562949953421311) : rdv (varB 6 m ++ tail) = (m, (varB 6 m).length) := by
  have hc := varB_canon 6 m (by show m < 128 ^ 7; omega) true (.inl rfl)
  have hl := varB_length 6 m
  have hp : 1 ≤ (varB 6 m).length := by
    cases hr : varB 6 m with
    | nil => exact absurd hr (varB_ne _ _)
    | cons c r => simp
  obtain ⟨j, hj⟩ : ∃ j, (varB 6 m).length = j + 1 := ⟨(varB 6 m).length - 1, by omega⟩
  have ht : (varB 6 m ++ tail).take (j + 1) = varB 6 m := by rw [← hj]; exact List.take_left
  unfold rdv
  rw [rdvG_hit (varB 6 m ++ tail) j 7 true (by omega) (by rw [List.length_append]; omega) (by rw [ht]; exact hc.1), ht, hc.2, hj]
  rfl

/-- What ReadVar tells is what Var makes. -/
theorem rdv_sound (l : List UInt8) : (rdv l).2 = 0 ∨ (1 ≤ (rdv l).2 ∧ (rdv l).2 ≤ l.length ∧ (rdv l).1 ≤ 562949953421311 ∧ varZ ((rdv l).1 : Int) = l.take (rdv l).2) := by
  by_cases h : ∃ k, 1 ≤ k ∧ k ≤ 7 ∧ k ≤ l.length ∧ tst l k = true
  · obtain ⟨k, h1, h7, hl, ht⟩ := h
    have hr := rdv_hit l k h1 h7 hl ht
    have hb := vv_bound (l.take k) (by rw [List.length_take]; omega)
    rw [hr]
    refine .inr ⟨h1, hl, hb, ?_⟩
    rw [varZ_in _ ⟨by omega, by omega⟩]
    have : varB 6 (vv (l.take k)) = l.take k := by simpa [tst] using ht
    exact this
  · have hr := rdv_none l (fun k h1 h7 hl => by
      cases ht : tst l k with
      | false => rfl
      | true => exact absurd ⟨k, h1, h7, hl, ht⟩ h)
    rw [hr]; exact .inl rfl

/-- The seven bytes of Fixed. -/
def fixZ (n : Int) : List UInt8 := if 0 ≤ n ∧ n < 72057594037927936 then low n.toNat 7 else []
theorem rfv_append (a b : List UInt8) : ∀ n, rfv (a ++ b) n = rfv b (rfv a n) := by
  induction a with
  | nil => intro n; rfl
  | cons x r ih => intro n; exact ih _
theorem rfv_low (n : Nat) : ∀ k (acc : Nat), acc = sh n k → rfv (low n k) (acc : Int) = (n : Int) := by
  intro k
  induction k with
  | zero => intro acc h; rw [h, sh_zero]; rfl
  | succ k ih =>
    intro acc h
    have hs := sh_succ n k
    have e : (acc : Int) * 256 + ((UInt8.ofNat (sh n k)).toNat : Int) = ((sh n k : Nat) : Int) := by
      rw [UInt8.toNat_ofNat']; omega
    show rfv (low n k) ((acc : Int) * 256 + ((UInt8.ofNat (sh n k)).toNat : Int)) = _
    rw [e]
    exact ih _ rfl
theorem rfv_fix (n : Nat) (tail : List UInt8) (h : sh n 7 = 0) : rfv ((low n 7 ++ tail).take 7) 0 = (n : Int) := by
  have hl := low_length n 7
  have ht : (low n 7 ++ tail).take 7 = low n 7 := by
    have := List.take_left (l₁ := low n 7) (l₂ := tail)
    rw [hl] at this; exact this
  rw [ht]
  exact rfv_low n 7 0 h.symm

/-- Unhex takes what Hex makes. -/
theorem unhex_hex (l : List UInt8) : unhexB (hexB l) = some l := by
  induction l with
  | nil => rfl
  | cons b r ih =>
    have hb := UInt8.toNat_lt b
    have h1 := fhZ_dg (b.toNat / 16) (by omega)
    have h2 := fhZ_dg (b.toNat % 16) (by omega)
    have e1 : dgZ ((b.toNat / 16 : Nat) : Int) = dg (b.toNat / 16) := rfl
    have e2 : dgZ ((b.toNat % 16 : Nat) : Int) = dg (b.toNat % 16) := rfl
    rw [e1] at h1
    rw [e2] at h2
    have hn : ¬ (fhZ ((dg (b.toNat / 16)).toNat : Int) < 0 ∨ fhZ ((dg (b.toNat % 16)).toNat : Int) < 0) := by rw [h1, h2]; omega
    simp only [hexB, unhexB, if_neg hn, ih, Option.map_some]
    have e3 : byteOf (fhZ ((dg (b.toNat / 16)).toNat : Int)) (fhZ ((dg (b.toNat % 16)).toNat : Int)) = b := by
      rw [h1, h2]
      unfold byteOf
      have : (16 * ((b.toNat / 16 : Nat) : Int) + ((b.toNat % 16 : Nat) : Int)).toNat = b.toNat := by omega
      rw [this]; simp
    rw [e3]

/-- Digits of a number make it again. -/
theorem sv_dec : ∀ u : Nat, sv (Lib.decDigits u) = u := by
  intro u
  induction u using Nat.strongRecOn with
  | ind u ih =>
    by_cases h : u < 10
    · rw [Lib.decDigits_one h]
      have e : sv ([] ++ [UInt8.ofNat (48 + u)]) = u := by
        rw [sv_snoc]
        have en : (UInt8.ofNat (48 + u)).toNat = 48 + u := by rw [UInt8.toNat_ofNat']; omega
        have ed : isDg (UInt8.ofNat (48 + u)) = true := by simp only [isDg, en, Bool.and_eq_true, decide_eq_true_eq]; omega
        rw [if_pos ed, en]
        simp [sv, svFrom]
      exact e
    · rw [Lib.decDigits, dif_neg h, sv_snoc, ih (u / 10) (by omega)]
      have en : (UInt8.ofNat (48 + u % 10)).toNat = 48 + u % 10 := by rw [UInt8.toNat_ofNat']; omega
      have ed : isDg (UInt8.ofNat (48 + u % 10)) = true := by simp only [isDg, en, Bool.and_eq_true, decide_eq_true_eq]; omega
      rw [if_pos ed, en]
      omega

theorem nval_itoa (n : Int) : nval (Lib.itoa n) = n := by
  rcases (by omega : n < 0 ∨ 0 ≤ n) with h | h
  · obtain ⟨u, hu⟩ := Int.eq_ofNat_of_zero_le (a := -n) (by omega)
    obtain rfl : n = -(u : Int) := by omega
    rw [Lib.itoa_neg u (by omega)]
    have hs := sv_trim (45 :: Lib.decDigits u)
    have ht : dTrim (45 :: Lib.decDigits u) = Lib.decDigits u := rfl
    rw [ht, sv_dec] at hs
    unfold nval
    rw [if_pos (show (45 :: Lib.decDigits u).head? = some 45 from rfl), ← hs]
  · obtain ⟨u, rfl⟩ := Int.eq_ofNat_of_zero_le h
    rw [Lib.itoa_nonneg]
    unfold nval
    rw [if_neg (head_digit _ (decDigits_all _)), sv_dec]

theorem nDigits_le : ∀ (k u : Nat), u < 10 ^ (k + 1) → Lib.nDigits u ≤ k + 1 := by
  intro k
  induction k with
  | zero => intro u h; rw [Lib.nDigits_small (by simpa using h)]; omega
  | succ k ih =>
    intro u h
    by_cases h10 : u < 10
    · rw [Lib.nDigits_small h10]; omega
    · rw [Lib.nDigits_big h10]
      have := ih (u / 10) (by rw [Nat.pow_succ] at h; exact Nat.div_lt_of_lt_mul (by rw [Nat.mul_comm]; exact h))
      omega
theorem nDigits_ge : ∀ (k u : Nat), 10 ^ k ≤ u → k + 1 ≤ Lib.nDigits u := by
  intro k
  induction k with
  | zero => intro u h; by_cases h10 : u < 10
            · rw [Lib.nDigits_small h10]; omega
            · rw [Lib.nDigits_big h10]; omega
  | succ k ih =>
    intro u h
    have h10 : ¬ u < 10 := by
      have : (10 ^ 1 : Nat) ≤ 10 ^ (k + 1) := Nat.pow_le_pow_right (by omega) (by omega)
      omega
    rw [Lib.nDigits_big h10]
    have := ih (u / 10) ((Nat.le_div_iff_mul_le (by omega)).2 (by rw [← Nat.pow_succ]; exact h))
    omega

theorem okD_itoa (n : Int) : okD (Lib.itoa n) = decide (-1000000000 < n ∧ n < 1000000000) := by
  have hd : (dTrim (Lib.itoa n)).length = Lib.nDigits n.natAbs := by
    rcases (by omega : n < 0 ∨ 0 ≤ n) with h | h
    · obtain ⟨u, hu⟩ := Int.eq_ofNat_of_zero_le (a := -n) (by omega)
      obtain rfl : n = -(u : Int) := by omega
      rw [Lib.itoa_neg u (by omega)]
      have ht : dTrim (45 :: Lib.decDigits u) = Lib.decDigits u := rfl
      rw [ht, Lib.decDigits_length]
      congr 1; omega
    · obtain ⟨u, rfl⟩ := Int.eq_ofNat_of_zero_le h
      rw [Lib.itoa_nonneg]
      unfold dTrim
      rw [if_neg (head_digit _ (decDigits_all _)), Lib.decDigits_length]
      congr 1
  have e9 : (10 ^ 9 : Nat) = 1000000000 := by decide
  by_cases h : -1000000000 < n ∧ n < 1000000000
  · have h1 := nDigits_le 8 n.natAbs (by rw [e9]; omega)
    rw [okD_good _ (by rw [hd]; omega) (itoa_trim n), nval_itoa]
    simp [h]
  · have h1 := nDigits_ge 9 n.natAbs (by rw [e9]; omega)
    rw [okD_long _ (by rw [hd]; omega)]
    simp [h]

theorem ansN_itoa (n : Int) (h : -1000000000 < n ∧ n < 1000000000) : ansN (Lib.itoa n) = n := by
  have h1 : okD (Lib.itoa n) = true := by rw [okD_itoa]; simpa using h
  unfold ansN; rw [if_pos h1, nval_itoa]

end Go.Proofs.YtdkdjelbgegmeabDoor
