/- ReadFrame as the program has it: the frame is made again of what was read, and the text must begin with it. -/
import Derived.Test.YthagjamgmlbhkaaDoorFrameMath
namespace Go.Proofs.YthagjamgmlbhkaaDoor

theorem rdF_parts (l : List UInt8) (q' : Nat) (t' : List UInt8) (k' q a n b : Nat) (hv : rdv l = (q, a)) (hv2 : rdv (l.drop a) = (n, b)) (h : rdF l = some (q', t', k')) :
    ¬ (a = 0 ∨ b = 0 ∨ 200 < n ∨ l.length < a + b + n + 4) ∧ q' = q ∧ t' = (l.drop (a + b)).take n := by
  unfold rdF at h
  simp only [hv, hv2] at h
  split at h
  · cases h
  · rename_i hn
    split at h
    · simp only [Option.some.injEq, Prod.mk.injEq] at h
      exact ⟨hn, h.1.symm, h.2.1.symm⟩
    · cases h

theorem rdF_short (l : List UInt8) (q a n b : Nat) (hv : rdv l = (q, a)) (hv2 : rdv (l.drop a) = (n, b)) (h : a = 0 ∨ b = 0 ∨ l.length < a + b + n) : rdF l = none := by
  cases hr : rdF l with
  | none => rfl
  | some x =>
    obtain ⟨q', t', k'⟩ := x
    have h1 := (rdF_parts l q' t' k' q a n b hv hv2 hr).1
    omega

theorem rdF_same (l : List UInt8) (q a n b : Nat) (hne : showF (q : Int) ((l.drop (a + b)).take n) ≠ []) (hp : showF (q : Int) ((l.drop (a + b)).take n) <+: l) :
    rdF l = some (q, (l.drop (a + b)).take n, (showF (q : Int) ((l.drop (a + b)).take n)).length) := by
  generalize (l.drop (a + b)).take n = T at *
  by_cases hin : 0 ≤ (q : Int) ∧ (q : Int) ≤ 400 ∧ T.length ≤ 200
  · have e := showF_in q T (by omega) hin.2.2
    rw [e] at hp ⊢
    obtain ⟨r, hr⟩ := hp
    rw [← hr]
    exact rdF_show q T r (by omega) hin.2.2
  · exact absurd (showF_out _ _ hin) hne

theorem rdF_other (l : List UInt8) (q a n b : Nat) (hv : rdv l = (q, a)) (hv2 : rdv (l.drop a) = (n, b)) (h : showF (q : Int) ((l.drop (a + b)).take n) = [] ∨ ¬ showF (q : Int) ((l.drop (a + b)).take n) <+: l) : rdF l = none := by
  cases hr : rdF l with
  | none => rfl
  | some x =>
    exfalso
    obtain ⟨q', t', k'⟩ := x
    obtain ⟨_, rfl, ht⟩ := rdF_parts l q' t' k' q a n b hv hv2 hr
    obtain ⟨h1, h2, h3, r, h4⟩ := (rdF_iff _ _ _ _).1 hr
    rw [← ht, showF_in q' t' h1 h2] at h
    rcases h with h | h
    · have := frame_pos q' t'
      rw [h] at this
      simp at this
    · exact h ⟨r, h4.symm⟩

end Go.Proofs.YthagjamgmlbhkaaDoor
