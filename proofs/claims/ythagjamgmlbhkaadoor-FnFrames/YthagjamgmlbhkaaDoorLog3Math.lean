/- The frames of a log's beginning, one by one. -/
import Derived.Test.YthagjamgmlbhkaaDoorFrameMath
namespace Go.Proofs.YthagjamgmlbhkaaDoor

/-- The frames of payloads, numbered from i on, without a last one. -/
def fr : Nat → List (List UInt8) → List UInt8
  | _, [] => []
  | i, p :: r => frame i p ++ fr (i + 1) r
theorem frames_fr (ps : List (List UInt8)) : ∀ i, frames i ps = fr i ps ++ frame (i + ps.length) [] := by
  induction ps with
  | nil => intro i; simp [frames, fr]
  | cons p r ih => intro i; simp only [frames, fr, ih (i + 1), List.append_assoc, List.length_cons]; rw [show i + 1 + r.length = i + (r.length + 1) from by omega]
theorem fr_snoc (ps : List (List UInt8)) (p : List UInt8) : ∀ i, fr i (ps ++ [p]) = fr i ps ++ frame (i + ps.length) p := by
  induction ps with
  | nil => intro i; simp [fr]
  | cons x r ih => intro i; simp only [List.cons_append, fr, ih (i + 1), List.append_assoc, List.length_cons]; rw [show i + 1 + r.length = i + (r.length + 1) from by omega]
theorem fr_take (ps : List (List UInt8)) (j : Nat) (h : j < ps.length) : fr 0 (ps.take (j + 1)) = fr 0 (ps.take j) ++ frame j ps[j] := by
  rw [List.take_succ_eq_append_getElem h, fr_snoc, List.length_take, Nat.min_eq_left (by omega), Nat.zero_add]
/-- What ShowLog has made when j payloads are in. -/
def logTo (ps : List (List UInt8)) (j : Nat) : List UInt8 := magic ++ fr 0 (ps.take j)
theorem logTo_zero (ps : List (List UInt8)) : logTo ps 0 = magic := by simp [logTo, fr]
theorem logTo_succ (ps : List (List UInt8)) (j : Nat) (h : j < ps.length) : logTo ps (j + 1) = logTo ps j ++ frame j ps[j] := by
  unfold logTo; rw [fr_take ps j h, List.append_assoc]
theorem logTo_all (ps : List (List UInt8)) (h : okL ps) : logTo ps ps.length ++ frame ps.length [] = showL ps := by
  rw [showL_in ps h, frames_fr, logTo, List.take_length, List.append_assoc, Nat.zero_add]
/-- The first j payloads are as they should be. -/
def okTo (ps : List (List UInt8)) (j : Nat) : Prop := ∀ i (h : i < ps.length), i < j → ps[i] ≠ [] ∧ ps[i].length ≤ 200
theorem okTo_zero (ps : List (List UInt8)) : okTo ps 0 := fun i _ h => absurd h (by omega)
theorem okTo_succ (ps : List (List UInt8)) (j : Nat) (hj : j < ps.length) (h : okTo ps j) (h1 : ps[j] ≠ []) (h2 : ps[j].length ≤ 200) : okTo ps (j + 1) := by
  intro i hi hlt
  rcases Nat.lt_or_ge i j with h3 | h3
  · exact h i hi h3
  · obtain rfl : i = j := by omega
    exact ⟨h1, h2⟩
theorem okL_all (ps : List (List UInt8)) (h4 : ps.length ≤ 400) (h : okTo ps ps.length) : okL ps := by
  refine ⟨h4, fun p hp => ?_⟩
  obtain ⟨i, hi, rfl⟩ := List.getElem_of_mem hp
  exact h i hi hi
theorem okL_not (ps : List (List UInt8)) (j : Nat) (hj : j < ps.length) (h : ps[j] = [] ∨ 200 < ps[j].length) : showL ps = [] := by
  refine showL_out ps (fun ho => ?_)
  have h1 := ho.2 ps[j] (List.getElem_mem hj)
  rcases h with h | h
  · exact h1.1 h
  · omega
theorem okL_many (ps : List (List UInt8)) (h : 400 < ps.length) : showL ps = [] := showL_out ps (fun ho => by have := ho.1; omega)
theorem fr_length (ps : List (List UInt8)) : ∀ i, (∀ p ∈ ps, p.length ≤ 200) → (fr i ps).length ≤ 218 * ps.length := by
  induction ps with
  | nil => intro i _; simp [fr]
  | cons p r ih =>
    intro i h
    have h1 := ih (i + 1) (fun x hx => h x (List.mem_cons_of_mem _ hx))
    have h2 := frame_le i p
    have h3 := h p (List.mem_cons_self ..)
    simp only [fr, List.length_append, List.length_cons]
    omega
theorem logTo_length (ps : List (List UInt8)) (j : Nat) (hj : j ≤ ps.length) (h4 : ps.length ≤ 400) (h : okTo ps j) : (logTo ps j).length ≤ 87205 := by
  have h1 := fr_length (ps.take j) 0 (fun p hp => by
    obtain ⟨i, hi, rfl⟩ := List.getElem_of_mem hp
    rw [List.length_take] at hi
    rw [List.getElem_take]
    exact (h i (by omega) (by omega)).2)
  have h5 : magic.length = 5 := rfl
  rw [List.length_take] at h1
  unfold logTo
  rw [List.length_append]
  omega

end Go.Proofs.YthagjamgmlbhkaaDoor
