/- What the program's iterator hands out of a log: each frame, and at last why there is no further one. -/
import Derived.Test.YthagjamgmlbhkaaDoorFrame2Math
namespace Go.Proofs.YthagjamgmlbhkaaDoor

/-- No error, or why there is no further frame. -/
abbrev E4 := Option Ordering
abbrev E4.ok : E4 := none
abbrev E4.head : E4 := some .lt
abbrev E4.frame : E4 := some .eq
abbrev E4.fin : E4 := some .gt
structure It where
  q : Nat
  t : List UInt8
  a : Nat
  b : Nat
  e : E4

/-- The items behind the beginning, from place p on; f: fuel. -/
def itG : Nat → List UInt8 → Nat → List It
  | 0, _, p => [⟨0, [], p, p, .fin⟩]
  | f + 1, l, p =>
    if l = [] then [⟨0, [], p, p, .fin⟩]
    else match rdF l with
      | none => [⟨0, [], p, p, .frame⟩]
      | some (q, t, k) => ⟨q, t, p, p + k, .ok⟩ :: itG f (l.drop k) (p + k)
def items (l : List UInt8) : List It := if l.take 5 = magic then itG l.length (l.drop 5) 5 else [⟨0, [], 0, 0, .head⟩]

theorem itG_nil (f p : Nat) : itG f [] p = [⟨0, [], p, p, .fin⟩] := by cases f <;> simp [itG]
theorem itG_none (f : Nat) (l : List UInt8) (p : Nat) (hl : l ≠ []) (h : rdF l = none) : itG (f + 1) l p = [⟨0, [], p, p, .frame⟩] := by simp only [itG, if_neg hl, h]
theorem itG_step (f : Nat) (l : List UInt8) (p q : Nat) (t : List UInt8) (k : Nat) (hl : l ≠ []) (h : rdF l = some (q, t, k)) : itG (f + 1) l p = ⟨q, t, p, p + k, .ok⟩ :: itG f (l.drop k) (p + k) := by simp only [itG, if_neg hl, h]
theorem itG_fuel : ∀ (f g : Nat) (l : List UInt8) (p : Nat), l.length ≤ f → l.length ≤ g → itG f l p = itG g l p := by
  intro f
  induction f with
  | zero =>
    intro g l p h1 _
    obtain rfl : l = [] := List.eq_nil_of_length_eq_zero (by omega)
    rw [itG_nil, itG_nil]
  | succ f ih =>
    intro g l p h1 h2
    by_cases hl : l = []
    · subst hl; rw [itG_nil, itG_nil]
    · cases g with
      | zero => exact absurd (List.eq_nil_of_length_eq_zero (by omega)) hl
      | succ g =>
        cases h : rdF l with
        | none => rw [itG_none f l p hl h, itG_none g l p hl h]
        | some x =>
          obtain ⟨q, t, k⟩ := x
          have hk := rdF_pos l q t k h
          rw [itG_step f l p q t k hl h, itG_step g l p q t k hl h, ih g (l.drop k) (p + k) (by rw [List.length_drop]; omega) (by rw [List.length_drop]; omega)]

theorem drop_ne (l : List UInt8) (p : Nat) (hp : p < l.length) : l.drop p ≠ [] := by
  intro he
  have := congrArg List.length he
  rw [List.length_drop, List.length_nil] at this
  omega
theorem it_step (l : List UInt8) (p q : Nat) (t : List UInt8) (k : Nat) (hp : p < l.length) (h : rdF (l.drop p) = some (q, t, k)) : itG l.length (l.drop p) p = ⟨q, t, p, p + k, .ok⟩ :: itG l.length (l.drop (p + k)) (p + k) := by
  obtain ⟨f, hf⟩ : ∃ f, l.length = f + 1 := ⟨l.length - 1, by omega⟩
  have hk := rdF_pos _ _ _ _ h
  have e := itG_step f (l.drop p) p q t k (drop_ne l p hp) h
  rw [← hf, List.drop_drop] at e
  rw [e, itG_fuel f l.length _ _ (by rw [List.length_drop]; omega) (by rw [List.length_drop]; omega)]
theorem it_none (l : List UInt8) (p : Nat) (hp : p < l.length) (h : rdF (l.drop p) = none) : itG l.length (l.drop p) p = [⟨0, [], p, p, .frame⟩] := by
  obtain ⟨f, hf⟩ : ∃ f, l.length = f + 1 := ⟨l.length - 1, by omega⟩
  rw [hf]
  exact itG_none f _ p (drop_ne l p hp) h
theorem it_end (l : List UInt8) (p : Nat) (hp : l.length ≤ p) : itG l.length (l.drop p) p = [⟨0, [], p, p, .fin⟩] := by rw [List.drop_eq_nil_of_le hp, itG_nil]

theorem itG_length : ∀ (f : Nat) (l : List UInt8) (p : Nat), (itG f l p).length ≤ l.length + 1 := by
  intro f
  induction f with
  | zero => intro l p; simp [itG]
  | succ f ih =>
    intro l p
    by_cases hl : l = []
    · subst hl; rw [itG_nil]; simp
    · cases h : rdF l with
      | none => rw [itG_none f l p hl h]; simp
      | some x =>
        obtain ⟨q, t, k⟩ := x
        have hk := rdF_pos l q t k h
        have hs := rdF_sound l q t k h
        rw [itG_step f l p q t k hl h, List.length_cons]
        have h2 := ih (l.drop k) (p + k)
        rw [List.length_drop] at h2
        omega
theorem items_length (l : List UInt8) : (items l).length ≤ l.length + 1 := by
  unfold items; split
  · have h := itG_length l.length (l.drop 5) 5
    rw [List.length_drop] at h
    omega
  · simp

/-- The spots are where the items begin. -/
theorem itG_spots : ∀ (f : Nat) (l : List UInt8) (p : Nat), l.length ≤ f → (itG f l p).map (·.a) = p :: spG f l p := by
  intro f
  induction f with
  | zero =>
    intro l p h
    obtain rfl : l = [] := List.eq_nil_of_length_eq_zero (by omega)
    simp [itG, spG]
  | succ f ih =>
    intro l p hf
    by_cases hl : l = []
    · subst hl; rw [itG_nil, spG_nil]; rfl
    · cases h : rdF l with
      | none => rw [itG_none f l p hl h, spG_none _ _ _ h]; rfl
      | some x =>
        obtain ⟨q, t, k⟩ := x
        have hk := rdF_pos l q t k h
        rw [itG_step f l p q t k hl h, spG_step f l p q t k hl h, List.map_cons, ih _ _ (by rw [List.length_drop]; omega)]
theorem itG_nohead : ∀ (f : Nat) (l : List UInt8) (p : Nat), ∀ x ∈ itG f l p, x.e ≠ .head := by
  intro f
  induction f with
  | zero => intro l p x hx; simp [itG] at hx; subst hx; simp
  | succ f ih =>
    intro l p x hx
    by_cases hl : l = []
    · subst hl; rw [itG_nil] at hx; simp at hx; subst hx; simp
    · cases h : rdF l with
      | none => rw [itG_none f l p hl h] at hx; simp at hx; subst hx; simp
      | some y =>
        obtain ⟨q, t, k⟩ := y
        rw [itG_step f l p q t k hl h] at hx
        rcases List.mem_cons.1 hx with rfl | hx
        · simp
        · exact ih _ _ _ hx
/-- Where the log begins as it should no item says otherwise, and the items tell the spots; else one item alone, which says so, and there are no spots. -/
theorem items_yes (l : List UInt8) (h : l.take 5 = magic) : (items l).map (·.a) = spots l ∧ ∀ x ∈ items l, x.e ≠ .head := by
  unfold items spots
  rw [if_pos h, if_pos h]
  exact ⟨itG_spots _ _ _ (by rw [List.length_drop]; omega), itG_nohead _ _ _⟩
theorem items_no (l : List UInt8) (h : ¬ l.take 5 = magic) : items l = [⟨0, [], 0, 0, .head⟩] ∧ spots l = [] := by
  unfold items spots
  rw [if_neg h, if_neg h]
  exact ⟨rfl, rfl⟩
theorem magic_prefix (l : List UInt8) : magic <+: l ↔ l.take 5 = magic := by
  constructor
  · rintro ⟨r, rfl⟩; rfl
  · intro h; exact ⟨l.drop 5, by rw [← h, List.take_append_drop]⟩

end Go.Proofs.YthagjamgmlbhkaaDoor
