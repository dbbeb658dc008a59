/- What the program makes of the items of a log: the payloads, or why there are none. -/
import Derived.Test.YthagjamgmlbhkaaDoorItemMath
namespace Go.Proofs.YthagjamgmlbhkaaDoor

/-- Why a log is none. -/
abbrev E5 := Option (Option Ordering)
abbrev E5.head : E5 := none
abbrev E5.frame : E5 := some none
abbrev E5.seq : E5 := some (some .lt)
abbrev E5.fin : E5 := some (some .eq)
abbrev E5.more : E5 := some (some .gt)
def E4.why : E4 → Option E5
  | none => none
  | some .lt => some E5.head
  | some .eq => some E5.frame
  | some .gt => some E5.fin
def code : Option E5 → Nat
  | none => 0
  | some none => 1
  | some (some none) => 2
  | some (some (some .lt)) => 3
  | some (some (some .eq)) => 4
  | some (some (some .gt)) => 5

/-- One item behind the payloads out of a log of N bytes: what is answered at it, or nothing yet. -/
def stpI (out : List (List UInt8)) (x : It) (N : Nat) : Option (List (List UInt8) × Option E5) :=
  match x.e.why with
  | some r => some ([], some r)
  | none => if x.q ≠ out.length then some ([], some .seq) else if x.t ≠ [] then none else if x.b < N then some ([], some .more) else some (out, none)
def res : List (List UInt8) → List It → Nat → Option (List (List UInt8) × Option E5)
  | _, [], _ => none
  | out, x :: r, N => match stpI out x N with
    | some y => some y
    | none => res (out ++ [x.t]) r N

theorem res_cons_none {out : List (List UInt8)} {x : It} {r : List It} {N : Nat} (h : stpI out x N = none) : res out (x :: r) N = res (out ++ [x.t]) r N := by simp only [res, h]
theorem res_cons_some {out : List (List UInt8)} {x : It} {r : List It} {N : Nat} {y : List (List UInt8) × Option E5} (h : stpI out x N = some y) : res out (x :: r) N = some y := by simp only [res, h]

theorem res_snoc (N : Nat) (x : It) : ∀ (pre : List It) (out : List (List UInt8)), res out pre N = none → res out (pre ++ [x]) N = stpI (out ++ pre.map (·.t)) x N := by
  intro pre
  induction pre with
  | nil =>
    intro out _
    simp only [List.nil_append, List.map_nil, List.append_nil]
    cases h : stpI out x N with
    | none => rw [res_cons_none h]; rfl
    | some y => rw [res_cons_some h]
  | cons a r ih =>
    intro out h
    cases hs : stpI out a N with
    | none =>
      rw [res_cons_none hs] at h
      rw [List.cons_append, res_cons_none hs, ih _ h]
      simp
    | some y => rw [res_cons_some hs] at h; cases h
theorem res_prefix (N : Nat) (ys : List It) (y : List (List UInt8) × Option E5) : ∀ (pre : List It) (out : List (List UInt8)), res out pre N = some y → res out (pre ++ ys) N = some y := by
  intro pre
  induction pre with
  | nil => intro out h; cases h
  | cons a r ih =>
    intro out h
    cases hs : stpI out a N with
    | none => rw [res_cons_none hs] at h; rw [List.cons_append, res_cons_none hs]; exact ih _ h
    | some z => rw [res_cons_some hs] at h; rw [List.cons_append, res_cons_some hs]; exact h

theorem res_itG : ∀ (f : Nat) (l : List UInt8) (p N : Nat) (out : List (List UInt8)), l.length ≤ f → p + l.length = N →
    ∃ k, res out (itG f l p) N = some ((rdG f l out).1, k) ∧ (rdG f l out).2 = code k := by
  intro f
  induction f with
  | zero =>
    intro l p N out h _
    obtain rfl : l = [] := List.eq_nil_of_length_eq_zero (by omega)
    exact ⟨some .fin, rfl, rfl⟩
  | succ f ih =>
    intro l p N out hf hN
    by_cases hl : l = []
    · subst hl; rw [itG_nil, rdG_nil]; exact ⟨some .fin, rfl, rfl⟩
    · cases h : rdF l with
      | none => rw [itG_none f l p hl h, rdG_none f l out hl h]; exact ⟨some .frame, rfl, rfl⟩
      | some y =>
        obtain ⟨q, t, k⟩ := y
        have hk := rdF_pos l q t k h
        have hkl := (rdF_sound l q t k h).2.2.1
        rw [itG_step f l p q t k hl h]
        by_cases hq : q = out.length
        · by_cases ht : t = []
          · subst ht
            rw [rdG_last f l out q k hl h hq]
            by_cases hlt : k < l.length
            · rw [if_pos hlt]
              refine ⟨some .more, res_cons_some ?_, rfl⟩
              simp only [stpI, E4.why]
              rw [if_neg (fun hh => hh hq), if_neg (fun hh => hh rfl), if_pos (by omega)]
            · rw [if_neg hlt]
              refine ⟨none, res_cons_some ?_, rfl⟩
              simp only [stpI, E4.why]
              rw [if_neg (fun hh => hh hq), if_neg (fun hh => hh rfl), if_neg (by omega)]
          · rw [rdG_step f l out q t k hl h hq ht, res_cons_none (by simp only [stpI, E4.why]; rw [if_neg (fun hh => hh hq), if_pos ht])]
            exact ih (l.drop k) (p + k) N (out ++ [t]) (by rw [List.length_drop]; omega) (by rw [List.length_drop]; omega)
        · rw [rdG_seq f l out q t k hl h hq]
          refine ⟨some .seq, res_cons_some ?_, rfl⟩
          simp only [stpI, E4.why]
          rw [if_pos hq]

/-- What the program answers of a log's items is what ReadLog tells. -/
theorem res_items (l : List UInt8) : ∃ k, res [] (items l) l.length = some ((rdL l).1, k) ∧ (rdL l).2 = code k := by
  unfold items rdL
  by_cases h : l.take 5 = magic
  · rw [if_pos h, if_pos h]
    have h5 : 5 ≤ l.length := by
      have := congrArg List.length h
      rw [List.length_take] at this
      have e5 : magic.length = 5 := rfl
      omega
    exact res_itG l.length (l.drop 5) 5 l.length [] (by rw [List.length_drop]; omega) (by rw [List.length_drop]; omega)
  · rw [if_neg h, if_neg h]
    exact ⟨some .head, rfl, rfl⟩

theorem stpI_why (out : List (List UInt8)) (x : It) (N : Nat) (r : E5) (h : x.e.why = some r) : stpI out x N = some ([], some r) := by simp only [stpI, h]
theorem stpI_seq (out : List (List UInt8)) (x : It) (N : Nat) (h : x.e.why = none) (hq : ¬ x.q = out.length) : stpI out x N = some ([], some .seq) := by simp only [stpI, h]; rw [if_pos hq]
theorem stpI_on (out : List (List UInt8)) (x : It) (N : Nat) (h : x.e.why = none) (hq : x.q = out.length) (ht : x.t ≠ []) : stpI out x N = none := by simp only [stpI, h]; rw [if_neg (fun hh => hh hq), if_pos ht]
theorem stpI_more (out : List (List UInt8)) (x : It) (N : Nat) (h : x.e.why = none) (hq : x.q = out.length) (ht : x.t = []) (hb : x.b < N) : stpI out x N = some ([], some .more) := by
  simp only [stpI, h]; rw [if_neg (fun hh => hh hq), if_neg (fun hh => hh ht), if_pos hb]
theorem stpI_last (out : List (List UInt8)) (x : It) (N : Nat) (h : x.e.why = none) (hq : x.q = out.length) (ht : x.t = []) (hb : ¬ x.b < N) : stpI out x N = some (out, none) := by
  simp only [stpI, h]; rw [if_neg (fun hh => hh hq), if_neg (fun hh => hh ht), if_neg hb]

end Go.Proofs.YthagjamgmlbhkaaDoor
