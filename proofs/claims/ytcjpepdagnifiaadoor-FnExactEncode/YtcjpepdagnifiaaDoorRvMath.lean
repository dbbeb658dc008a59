/- Plain facts on reading a number that Var made. No condition. -/
import Derived.Test.YtcjpepdagnifiaaDoorVarMath
namespace Go.Proofs.YtcjpepdagnifiaaDoor

/-- The number that seven bits of each byte make, the lowest first. -/
def vv : List UInt8 → Nat
  | [] => 0
  | b :: r => b.toNat % 128 + 128 * vv r

theorem vv_lt (t : List UInt8) : vv t < 128 ^ t.length := by
  induction t with
  | nil => simp [vv]
  | cons b r ih =>
    simp only [vv, List.length_cons, Nat.pow_succ]
    omega

theorem vv_bound (t : List UInt8) (h : t.length ≤ 7) : vv t ≤ 562949953421311 := by
  have h1 := vv_lt t
  have h2 : (128 ^ t.length : Nat) ≤ 128 ^ 7 := Nat.pow_le_pow_right (by omega) h
  have h3 : (128 ^ 7 : Nat) = 562949953421312 := by decide
  omega

/-- Is t what Var makes? 'first': is its first byte the number's first? -/
def canon : List UInt8 → Bool → Bool
  | [], _ => false
  | [b], first => decide (b.toNat < 128) && (first || decide (b.toNat ≠ 0))
  | b :: c :: r, _ => decide (128 ≤ b.toNat) && canon (c :: r) false

theorem canon_pos (t : List UInt8) (h : canon t false = true) : 0 < vv t := by
  induction t with
  | nil => simp [canon] at h
  | cons b r ih =>
    cases r with
    | nil => simp [canon] at h; simp [vv]; omega
    | cons c r =>
      simp only [canon, Bool.and_eq_true, decide_eq_true_eq] at h
      have := ih h.2
      simp only [vv] at this ⊢
      omega

theorem ofNat_toNat (b : UInt8) : UInt8.ofNat b.toNat = b := by simp

theorem canon_varB (t : List UInt8) : ∀ (f : Nat) (first : Bool), t.length ≤ f + 1 → canon t first = true → varB f (vv t) = t := by
  induction t with
  | nil => intro f first _ h; simp [canon] at h
  | cons b r ih =>
    intro f first hl h
    cases r with
    | nil =>
      simp only [canon, Bool.and_eq_true, decide_eq_true_eq] at h
      have e : vv [b] = b.toNat := by simp only [vv]; omega
      rw [e, varB_small _ _ h.1, ofNat_toNat]
    | cons c r =>
      simp only [canon, Bool.and_eq_true, decide_eq_true_eq] at h
      have hp := canon_pos _ h.2
      cases f with
      | zero => simp at hl
      | succ f =>
        have hb := UInt8.toNat_lt b
        have e : vv (b :: c :: r) = b.toNat % 128 + 128 * vv (c :: r) := rfl
        rw [varB_great _ _ (by omega)]
        have e1 : vv (b :: c :: r) / 128 = vv (c :: r) := by omega
        have e2 : hiB (vv (b :: c :: r)) = b := by
          unfold hiB
          have : 128 + vv (b :: c :: r) % 128 = b.toNat := by omega
          rw [this, ofNat_toNat]
        rw [e1, e2, ih f false (by simp at hl ⊢; omega) h.2]

theorem varB_ne (f n : Nat) : varB f n ≠ [] := by
  cases f with
  | zero => simp [varB]
  | succ f => simp only [varB]; split <;> simp

theorem canon_of (t : List UInt8) : ∀ (f : Nat), t.length ≤ f + 1 → varB f (vv t) = t → canon t true = true := by
  induction t with
  | nil => intro f _ h; exact absurd h (varB_ne _ _)
  | cons b r ih =>
    intro f hl h
    cases r with
    | nil =>
      have e : vv [b] = b.toNat % 128 := by simp [vv]
      rw [e, varB_small _ _ (by omega)] at h
      have h2 : UInt8.ofNat (b.toNat % 128) = b := by simpa using h
      have h3 := congrArg UInt8.toNat h2
      rw [UInt8.toNat_ofNat'] at h3
      simp only [canon, Bool.true_or, Bool.and_true, decide_eq_true_eq]
      omega
    | cons c r =>
      have hb := UInt8.toNat_lt b
      have e : vv (b :: c :: r) = b.toNat % 128 + 128 * vv (c :: r) := rfl
      by_cases hs : vv (b :: c :: r) < 128
      · rw [varB_small _ _ hs] at h
        simp at h
      · cases f with
        | zero => simp at hl
        | succ f =>
          rw [varB_great _ _ (by omega)] at h
          have e1 : vv (b :: c :: r) / 128 = vv (c :: r) := by omega
          rw [e1] at h
          have h1 : hiB (vv (b :: c :: r)) = b := (List.cons.inj h).1
          have h2 : varB f (vv (c :: r)) = c :: r := (List.cons.inj h).2
          have h3 := ih f (by simp at hl ⊢; omega) h2
          have h4 := congrArg UInt8.toNat h1
          unfold hiB at h4
          rw [UInt8.toNat_ofNat'] at h4
          simp only [canon, Bool.and_eq_true, decide_eq_true_eq]
          refine ⟨by omega, ?_⟩
          cases r with
          | nil =>
            have e3 : vv [c] = c.toNat % 128 := by simp [vv]
            simp only [canon, Bool.true_or, Bool.and_true, decide_eq_true_eq] at h3
            simp only [canon, Bool.false_or, Bool.and_eq_true, decide_eq_true_eq]
            omega
          | cons d r => simpa only [canon] using h3

/-- What ReadVar finds: the number and how many bytes it has. -/
def rdvG : Nat → Bool → List UInt8 → Option (Nat × Nat)
  | 0, _, _ => none
  | _ + 1, _, [] => none
  | f + 1, first, b :: r => if b.toNat < 128 then (if b.toNat = 0 ∧ first = false then none else some (b.toNat, 1)) else (rdvG f false r).map fun x => (b.toNat % 128 + 128 * x.1, x.2 + 1)

def rdv (l : List UInt8) : Nat × Nat := (rdvG 7 true l).getD (0, 0)

theorem rdvG_hit (l : List UInt8) : ∀ (j f : Nat) (first : Bool), j < f → (hj : j < l.length) → canon (l.take (j + 1)) first = true → rdvG f first l = some (vv (l.take (j + 1)), j + 1) := by
  induction l with
  | nil => intro j f first _ hj; simp at hj
  | cons b r ih =>
    intro j f first hf hj h
    cases f with
    | zero => omega
    | succ f =>
      cases j with
      | zero =>
        simp only [List.take_succ_cons, List.take_zero, canon, Bool.and_eq_true, decide_eq_true_eq, Bool.or_eq_true] at h
        have h0 : ¬ (b.toNat = 0 ∧ first = false) := by
          rintro ⟨h1, h2⟩; rcases h.2 with h3 | h3
          · simp [h2] at h3
          · exact h3 h1
        simp only [rdvG, if_pos h.1, if_neg h0, List.take_succ_cons, List.take_zero, vv]
        have : b.toNat % 128 = b.toNat := by omega
        simp [this]
      | succ j =>
        have hj2 : j < r.length := by simpa using hj
        cases hr : r with
        | nil => simp [hr] at hj2
        | cons c r' =>
          rw [hr] at h
          simp only [List.take_succ_cons, canon, Bool.and_eq_true, decide_eq_true_eq] at h
          have hn : ¬ b.toNat < 128 := by omega
          have h5 := ih j f false (by omega) hj2 (by rw [hr, List.take_succ_cons]; exact h.2)
          rw [hr] at h5
          simp only [rdvG, if_neg hn, h5, Option.map_some, List.take_succ_cons, vv]

theorem rdvG_none (l : List UInt8) : ∀ (f : Nat) (first : Bool), (∀ j, j < f → j < l.length → canon (l.take (j + 1)) first = false) → rdvG f first l = none := by
  induction l with
  | nil => intro f first _; cases f <;> rfl
  | cons b r ih =>
    intro f first h
    cases f with
    | zero => rfl
    | succ f =>
      have h0 := h 0 (by omega) (by simp)
      simp only [List.take_succ_cons, List.take_zero, canon] at h0
      by_cases hb : b.toNat < 128
      · have h1 : b.toNat = 0 ∧ first = false := by
          simp only [hb, decide_true, Bool.true_and, Bool.or_eq_false_iff, decide_eq_false_iff_not] at h0
          exact ⟨by omega, h0.1⟩
        simp only [rdvG, if_pos hb, if_pos h1]
      · have h2 := ih f false (by
          intro j hj hl
          have h3 := h (j + 1) (by omega) (by simpa using hl)
          cases hr : r with
          | nil => simp [hr] at hl
          | cons c r' =>
            rw [hr] at h3
            simp only [List.take_succ_cons, canon] at h3
            have : decide (128 ≤ b.toNat) = true := by simp; omega
            rw [this, Bool.true_and] at h3
            rw [List.take_succ_cons]; exact h3)
        simp only [rdvG, if_neg hb, h2, Option.map_none]

/-- Does Var make the first k bytes? -/
def tst (l : List UInt8) (k : Nat) : Bool := varB 6 (vv (l.take k)) == l.take k

theorem rdv_hit (l : List UInt8) (k : Nat) (h1 : 1 ≤ k) (h7 : k ≤ 7) (hl : k ≤ l.length) (h : tst l k = true) : rdv l = (vv (l.take k), k) := by
  obtain ⟨j, rfl⟩ : ∃ j, k = j + 1 := ⟨k - 1, by omega⟩
  have hc := canon_of (l.take (j + 1)) 6 (by rw [List.length_take]; omega) (by simpa [tst] using h)
  unfold rdv
  rw [rdvG_hit l j 7 true (by omega) (by omega) hc]
  rfl

theorem rdv_none (l : List UInt8) (h : ∀ k, 1 ≤ k → k ≤ 7 → k ≤ l.length → tst l k = false) : rdv l = (0, 0) := by
  unfold rdv
  rw [rdvG_none l 7 true]
  · rfl
  · intro j hj hl
    have h1 := h (j + 1) (by omega) (by omega) (by omega)
    cases hc : canon (l.take (j + 1)) true with
    | false => rfl
    | true =>
      have h2 := canon_varB (l.take (j + 1)) 6 true (by rw [List.length_take]; omega) hc
      simp [tst, h2] at h1

theorem vv_take_succ (l : List UInt8) : ∀ (j : Nat) (h : j < l.length), vv (l.take (j + 1)) = vv (l.take j) + 128 ^ j * (l[j].toNat % 128) := by
  induction l with
  | nil => intro j h; simp at h
  | cons b r ih =>
    intro j h
    cases j with
    | zero => simp [vv]
    | succ j =>
      have := ih j (by simpa using h)
      simp only [List.take_succ_cons, vv, this, List.getElem_cons_succ, Nat.pow_succ]
      rw [Nat.mul_add, Nat.mul_comm (128 ^ j) 128, Nat.mul_assoc]
      omega

/-- What is told of all of l, out of what is left behind j bytes that are not the last one. -/
def left (l : List UInt8) (j : Nat) : Option (Nat × Nat) := (rdvG (7 - j) (j == 0) (l.drop j)).map fun x => (vv (l.take j) + 128 ^ j * x.1, x.2 + j)

theorem left_zero (l : List UInt8) : left l 0 = rdvG 7 true l := by
  unfold left
  cases h : rdvG 7 true l <;> simp [h, vv]

theorem left_step (l : List UInt8) (j : Nat) (h7 : j < 7) (h : j < l.length) (hb : 128 ≤ l[j].toNat) : left l j = left l (j + 1) := by
  unfold left
  rw [List.drop_eq_getElem_cons h, show 7 - j = (7 - (j + 1)) + 1 from by omega]
  have hn : ¬ l[j].toNat < 128 := by omega
  have e0 : (j + 1 == 0) = false := by simp
  simp only [rdvG, if_neg hn, e0]
  cases hr : rdvG (7 - (j + 1)) false (l.drop (j + 1)) with
  | none => rfl
  | some x =>
    simp only [Option.map_some]
    rw [vv_take_succ l j h, Nat.pow_succ, Nat.mul_add, Nat.mul_assoc]
    congr 2
    · omega
    · omega

theorem left_hit (l : List UInt8) (j : Nat) (h7 : j < 7) (h : j < l.length) (hb : l[j].toNat < 128) (h0 : l[j].toNat ≠ 0 ∨ j = 0) : left l j = some (vv (l.take (j + 1)), j + 1) := by
  unfold left
  rw [List.drop_eq_getElem_cons h, show 7 - j = (7 - (j + 1)) + 1 from by omega]
  have h1 : ¬ (l[j].toNat = 0 ∧ (j == 0) = false) := by rintro ⟨h2, h3⟩; rcases h0 with h0 | h0 <;> simp_all
  simp only [rdvG, if_pos hb, if_neg h1, Option.map_some]
  rw [vv_take_succ l j h]
  have : l[j].toNat % 128 = l[j].toNat := by omega
  rw [this, Nat.add_comm 1 j]

theorem left_nought (l : List UInt8) (j : Nat) (h7 : j < 7) (h : j < l.length) (hb : l[j].toNat = 0) (h0 : 0 < j) : left l j = none := by
  unfold left
  rw [List.drop_eq_getElem_cons h, show 7 - j = (7 - (j + 1)) + 1 from by omega]
  have h1 : (l[j].toNat = 0 ∧ (j == 0) = false) := ⟨hb, by simp; omega⟩
  have hlt : l[j].toNat < 128 := by omega
  simp only [rdvG, if_pos hlt, if_pos h1, Option.map_none]

theorem left_end (l : List UInt8) (j : Nat) (h : 7 ≤ j ∨ l.length ≤ j) : left l j = none := by
  unfold left
  rcases h with h | h
  · rw [show 7 - j = 0 from by omega]; rfl
  · rw [List.drop_eq_nil_of_le h]
    cases 7 - j <;> rfl

theorem rdv_left (l : List UInt8) (j : Nat) (x : Option (Nat × Nat)) (h : rdvG 7 true l = left l j) (hx : left l j = x) : rdv l = x.getD (0, 0) := by
  unfold rdv; rw [h, hx]

end Go.Proofs.YtcjpepdagnifiaaDoor
