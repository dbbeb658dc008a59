/- Plain facts on numbers and texts on the wire. No condition. -/
import Derived.Test.YtcjpepdagnifiaaDoorVzMath
namespace Go.Proofs.YtcjpepdagnifiaaDoor

def zigZ (n : Int) : Int := if n < -100000000000000 ∨ 100000000000000 < n then -1 else if n < 0 then -2 * n - 1 else 2 * n
def zagZ (n : Int) : Int := if n.tmod 2 = 0 then n.tdiv 2 else -(n.tdiv 2) - 1

theorem zig_out (n : Int) (h : n < -100000000000000 ∨ 100000000000000 < n) : zigZ n = -1 := by unfold zigZ; rw [if_pos h]
theorem zig_neg (n : Int) (h : -100000000000000 ≤ n) (h0 : n < 0) : zigZ n = -2 * n - 1 := by unfold zigZ; rw [if_neg (by omega), if_pos h0]
theorem zig_pos (n : Int) (h : n ≤ 100000000000000) (h0 : 0 ≤ n) : zigZ n = 2 * n := by unfold zigZ; rw [if_neg (by omega), if_neg (by omega)]
theorem zig_bd (n : Int) : -1 ≤ zigZ n ∧ zigZ n ≤ 200000000000000 := by unfold zigZ; split <;> (try split) <;> omega
theorem zig_in (n : Int) (h : -100000000000000 ≤ n ∧ n ≤ 100000000000000) : 0 ≤ zigZ n := by unfold zigZ; split <;> (try split) <;> omega
theorem zig_of (n : Int) (h : 0 ≤ zigZ n) : -100000000000000 ≤ n ∧ n ≤ 100000000000000 := by unfold zigZ at h; split at h <;> omega

theorem zag_even (n : Int) (h : n.tmod 2 = 0) : zagZ n = n.tdiv 2 := by unfold zagZ; rw [if_pos h]
theorem zag_odd (n : Int) (h : ¬ n.tmod 2 = 0) : zagZ n = -(n.tdiv 2) - 1 := by unfold zagZ; rw [if_neg h]
theorem tdiv_two (n : Int) : 2 * n.tdiv 2 + n.tmod 2 = n ∧ -1 ≤ n.tmod 2 ∧ n.tmod 2 ≤ 1 ∧ (0 ≤ n → 0 ≤ n.tmod 2) := by
  refine ⟨Int.mul_tdiv_add_tmod n 2, ?_, ?_, fun h => Int.tmod_nonneg 2 h⟩
  · have := Int.lt_tmod_of_pos n (show (0 : Int) < 2 by omega); omega
  · have := Int.tmod_lt_of_pos n (show (0 : Int) < 2 by omega); omega
theorem zag_bd (n : Int) (h : -9223372036854775808 ≤ n ∧ n ≤ 9223372036854775807) : -4611686018427387904 ≤ zagZ n ∧ zagZ n ≤ 4611686018427387904 := by
  obtain ⟨h1, h2, h3, h4⟩ := tdiv_two n
  unfold zagZ; split <;> omega
theorem zag_zig (n : Int) (h : -100000000000000 ≤ n ∧ n ≤ 100000000000000) : zagZ (zigZ n) = n := by
  obtain ⟨h1, h2, h3, h4⟩ := tdiv_two (zigZ n)
  have h5 := zig_in n h
  have h6 := h4 h5
  by_cases h0 : n < 0
  · have e := zig_neg n h.1 h0
    unfold zagZ; split <;> omega
  · have e := zig_pos n h.2 (by omega)
    unfold zagZ; split <;> omega

/-- What ShowInt makes. -/
def showZ (n : Int) : List UInt8 := varZ (zigZ n)
theorem showZ_length (n : Int) : (showZ n).length ≤ 7 := varZ_length _
theorem showZ_out (n : Int) (h : ¬ (-100000000000000 ≤ n ∧ n ≤ 100000000000000)) : showZ n = [] := by
  unfold showZ; rw [zig_out n (by omega)]; rfl
theorem showZ_in (n : Int) (h : -100000000000000 ≤ n ∧ n ≤ 100000000000000) : showZ n = varB 6 (zigZ n).toNat := by
  unfold showZ; exact varZ_in _ ⟨zig_in n h, by have := zig_bd n; omega⟩

theorem varZ_inj (a b : Int) (ha : 0 ≤ a ∧ a ≤ 562949953421311) (hb : 0 ≤ b ∧ b ≤ 562949953421311) (h : varZ a = varZ b) : a = b := by
  rw [varZ_in a ha, varZ_in b hb] at h
  have h1 := rdv_var a.toNat [] (by omega)
  have h2 := rdv_var b.toNat [] (by omega)
  rw [h, h2] at h1
  have h3 := congrArg Prod.fst h1
  simp only at h3
  omega

theorem rdv_nought (l : List UInt8) (h : (rdv l).2 = 0) : rdv l = (0, 0) := by
  by_cases hk : ∃ k, 1 ≤ k ∧ k ≤ 7 ∧ k ≤ l.length ∧ tst l k = true
  · obtain ⟨k, h1, h7, hl, ht⟩ := hk
    rw [rdv_hit l k h1 h7 hl ht] at h
    simp only at h
    omega
  · exact rdv_none l (fun k h1 h7 hl => by
      cases ht : tst l k with
      | false => rfl
      | true => exact absurd ⟨k, h1, h7, hl, ht⟩ hk)

theorem rdv_le (l : List UInt8) : (rdv l).1 ≤ 562949953421311 ∧ (rdv l).2 ≤ l.length := by
  rcases rdv_sound l with h | h
  · rw [rdv_nought l h]; exact ⟨by omega, by omega⟩
  · exact ⟨h.2.2.1, h.2.1⟩

/-- What ReadInt tells. -/
def rdi (l : List UInt8) : Int × Nat := if zigZ (zagZ ((rdv l).1 : Int)) = ((rdv l).1 : Int) then (zagZ ((rdv l).1 : Int), (rdv l).2) else (0, 0)

theorem rdi_yes (l : List UInt8) (h : zigZ (zagZ ((rdv l).1 : Int)) = ((rdv l).1 : Int)) : rdi l = (zagZ ((rdv l).1 : Int), (rdv l).2) := by unfold rdi; rw [if_pos h]
theorem rdi_no (l : List UInt8) (h : ¬ zigZ (zagZ ((rdv l).1 : Int)) = ((rdv l).1 : Int)) : rdi l = (0, 0) := by unfold rdi; rw [if_neg h]
theorem rdi_nought (l : List UInt8) (h : (rdv l).2 = 0) : rdi l = (0, 0) := by
  have e := rdv_nought l h
  rw [rdi_yes l (by rw [e]; decide), e]; decide

/-- The specification's test: is it the ShowInt of what it says? -/
theorem show_test (l : List UInt8) (h : ¬ (rdv l).2 = 0) : (showZ (zagZ ((rdv l).1 : Int)) == l.take (rdv l).2) = decide (zigZ (zagZ ((rdv l).1 : Int)) = ((rdv l).1 : Int)) := by
  rcases rdv_sound l with h0 | ⟨h1, h2, h3, h4⟩
  · exact absurd h0 h
  · by_cases hz : zigZ (zagZ ((rdv l).1 : Int)) = ((rdv l).1 : Int)
    · unfold showZ
      rw [hz, h4]; simp
    · rw [decide_eq_false hz, beq_eq_false_iff_ne]
      intro he
      have hb := zig_bd (zagZ ((rdv l).1 : Int))
      unfold showZ at he
      rw [← h4] at he
      by_cases hp : 0 ≤ zigZ (zagZ ((rdv l).1 : Int))
      · exact hz (varZ_inj _ _ ⟨hp, by omega⟩ ⟨by omega, by omega⟩ he)
      · rw [varZ_out _ (by omega), varZ_in _ ⟨by omega, by omega⟩] at he
        exact varB_ne _ _ he.symm

theorem rdi_show (n : Int) (t : List UInt8) (h : -100000000000000 ≤ n ∧ n ≤ 100000000000000) : rdi (showZ n ++ t) = (n, (showZ n).length) := by
  have hb := zig_bd n
  have hp := zig_in n h
  have e : rdv (showZ n ++ t) = ((zigZ n).toNat, (showZ n).length) := by rw [showZ_in n h]; exact rdv_var _ _ (by omega)
  have e1 : (((rdv (showZ n ++ t)).1 : Nat) : Int) = zigZ n := by rw [e]; show (((zigZ n).toNat : Nat) : Int) = _; omega
  rw [rdi_yes _ (by rw [e1, zag_zig n h]), e1, zag_zig n h, e]

theorem rdi_sound (l : List UInt8) : (rdi l).2 = 0 ∨ (1 ≤ (rdi l).2 ∧ (rdi l).2 ≤ l.length ∧ showZ (rdi l).1 = l.take (rdi l).2) := by
  by_cases h : (rdv l).2 = 0
  · rw [rdi_nought l h]; exact .inl rfl
  · by_cases hz : zigZ (zagZ ((rdv l).1 : Int)) = ((rdv l).1 : Int)
    · have ht := show_test l h
      rw [decide_eq_true hz] at ht
      rw [rdi_yes l hz]
      exact .inr ⟨by show 1 ≤ (rdv l).2; omega, (rdv_le l).2, eq_of_beq ht⟩
    · rw [rdi_no l hz]; exact .inl rfl

theorem rdi_bd (l : List UInt8) : -100000000000000 ≤ (rdi l).1 ∧ (rdi l).1 ≤ 100000000000000 := by
  by_cases hz : zigZ (zagZ ((rdv l).1 : Int)) = ((rdv l).1 : Int)
  · rw [rdi_yes l hz]; exact zig_of _ (by rw [hz]; omega)
  · rw [rdi_no l hz]; exact ⟨by omega, by omega⟩

/-- What ShowText makes. -/
def showT (t : List UInt8) : List UInt8 := if 8 < t.length then [] else varB 6 t.length ++ t
theorem showT_out (t : List UInt8) (h : 8 < t.length) : showT t = [] := by unfold showT; rw [if_pos h]
theorem showT_in (t : List UInt8) (h : t.length ≤ 8) : showT t = varB 6 t.length ++ t := by unfold showT; rw [if_neg (by omega)]
theorem showT_one (t : List UInt8) (h : t.length ≤ 8) : showT t = UInt8.ofNat t.length :: t := by rw [showT_in t h, varB_small 6 t.length (by omega)]; rfl
theorem showT_length (t : List UInt8) : (showT t).length ≤ 9 := by
  by_cases h : t.length ≤ 8
  · rw [showT_one t h, List.length_cons]; omega
  · rw [showT_out t (by omega)]; simp

/-- What ReadText tells. -/
def rdt (l : List UInt8) : List UInt8 × Nat := if (rdv l).2 = 0 ∨ 8 < (rdv l).1 ∨ l.length - (rdv l).2 < (rdv l).1 then ([], 0) else ((l.drop (rdv l).2).take (rdv l).1, (rdv l).2 + (rdv l).1)
theorem rdt_no (l : List UInt8) (h : (rdv l).2 = 0 ∨ 8 < (rdv l).1 ∨ l.length - (rdv l).2 < (rdv l).1) : rdt l = ([], 0) := by unfold rdt; rw [if_pos h]
theorem rdt_yes (l : List UInt8) (h : ¬ ((rdv l).2 = 0 ∨ 8 < (rdv l).1 ∨ l.length - (rdv l).2 < (rdv l).1)) : rdt l = ((l.drop (rdv l).2).take (rdv l).1, (rdv l).2 + (rdv l).1) := by unfold rdt; rw [if_neg h]
theorem rdt_show (t u : List UInt8) (h : t.length ≤ 8) : rdt (showT t ++ u) = (t, (showT t).length) := by
  have e : rdv (showT t ++ u) = (t.length, 1) := by
    rw [showT_in t h, List.append_assoc, rdv_var t.length (t ++ u) (by omega), varB_small 6 t.length (by omega)]; rfl
  have hl : (showT t ++ u).length = 1 + t.length + u.length := by rw [showT_one t h, List.length_append, List.length_cons]; omega
  rw [rdt_yes _ (by rw [e, hl]; simp only; omega), e]
  simp only
  rw [showT_one t h]
  simp only [List.cons_append, List.drop_succ_cons, List.drop_zero, List.length_cons, List.take_left]
  rw [Nat.add_comm 1]

end Go.Proofs.YtcjpepdagnifiaaDoor
