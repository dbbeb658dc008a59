/- What the laws' own helpers on rows of numbers do: eqIntS, markIntS, heldIntS. -/
import Derived.Test.YtjhdnachbahbmaaOwnI
import Derived.Deep.RegionHeld
namespace Go.Proofs.Ytjhdnachbahbmaa
open Go.RowKit
set_option linter.unusedVariables false

/-- The numbers k, k + 1, ..: what a row is marked with. -/
def marks (k : Int) : Nat → List Int
  | 0 => []
  | n + 1 => k :: marks (k + 1) n
theorem marks_length : ∀ (n : Nat) (k : Int), (marks k n).length = n := by
  intro n
  induction n with
  | zero => intro k; rfl
  | succ n ih => intro k; simp [marks, ih]
theorem marks_at : ∀ (n : Nat) (k : Int) (j : Nat) (h : j < (marks k n).length), (marks k n)[j] = k + (j : Int) := by
  intro n
  induction n with
  | zero => intro k j h; simp [marks] at h
  | succ n ih =>
    intro k j h
    cases j with
    | zero => simp [marks]
    | succ j =>
      simp only [marks, List.getElem_cons_succ]
      rw [ih]
      omega
/-- The first j numbers of a row marked. -/
def marked (k : Int) (zs : List Int) (j : Nat) : List Int := marks k j ++ zs.drop j
theorem marked_length (k : Int) (zs : List Int) (j : Nat) (h : j ≤ zs.length) : (marked k zs j).length = zs.length := by
  unfold marked; rw [List.length_append, marks_length, List.length_drop]; omega
theorem marks_succ : ∀ (n : Nat) (k : Int), marks k (n + 1) = marks k n ++ [k + (n : Int)] := by
  intro n
  induction n with
  | zero => intro k; simp [marks]
  | succ n ih =>
    intro k
    have h := ih (k + 1)
    have e : marks k (n + 1 + 1) = k :: marks (k + 1) (n + 1) := rfl
    rw [e, h]
    have e2 : k + 1 + (n : Int) = k + ((n + 1 : Nat) : Int) := by omega
    rw [e2]
    rfl
theorem marked_succ (k : Int) (zs : List Int) (j : Nat) (h : j < zs.length) : (marked k zs j).set j (k + (j : Int)) = marked k zs (j + 1) := by
  unfold marked
  rw [marks_succ, List.drop_eq_getElem_cons h, List.set_append_right _ _ (by rw [marks_length]; omega), marks_length, Nat.sub_self, List.set_cons_zero, List.append_assoc]
  rfl
theorem marked_all (k : Int) (zs : List Int) : marked k zs zs.length = marks k zs.length := by
  unfold marked; rw [List.drop_length, List.append_nil]

end Go.Proofs.Ytjhdnachbahbmaa
