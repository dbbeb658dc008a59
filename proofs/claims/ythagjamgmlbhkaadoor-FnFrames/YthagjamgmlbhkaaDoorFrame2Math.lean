/- Plain facts on where frames stand. No condition. -/
import Derived.Test.YthagjamgmlbhkaaDoorFrameMath
namespace Go.Proofs.YthagjamgmlbhkaaDoor

/-- Where the frames end that l has ahead, l standing at place p. -/
def spG : Nat → List UInt8 → Nat → List Nat
  | 0, _, _ => []
  | f + 1, l, p =>
    if l = [] then []
    else match rdF l with
      | none => []
      | some (_, _, k) => (p + k) :: spG f (l.drop k) (p + k)
/-- What FrameSpots tells. -/
def spots (l : List UInt8) : List Nat := if l.take 5 = magic then 5 :: spG l.length (l.drop 5) 5 else []

theorem spG_nil (f p : Nat) : spG f [] p = [] := by cases f <;> simp [spG]
theorem spG_none (f : Nat) (l : List UInt8) (p : Nat) (h : rdF l = none) : spG f l p = [] := by
  cases f with
  | zero => rfl
  | succ f => simp only [spG, h]; split <;> rfl
theorem spG_step (f : Nat) (l : List UInt8) (p q : Nat) (t : List UInt8) (k : Nat) (hl : l ≠ []) (h : rdF l = some (q, t, k)) : spG (f + 1) l p = (p + k) :: spG f (l.drop k) (p + k) := by simp only [spG, if_neg hl, h]
theorem spG_fuel : ∀ (f g : Nat) (l : List UInt8) (p : Nat), l.length ≤ f → l.length ≤ g → spG f l p = spG g l p := by
  intro f
  induction f with
  | zero =>
    intro g l p hf hg
    obtain rfl : l = [] := List.eq_nil_of_length_eq_zero (by omega)
    rw [spG_nil, spG_nil]
  | succ f ih =>
    intro g l p hf hg
    by_cases hl : l = []
    · subst hl; rw [spG_nil, spG_nil]
    · have hlp : 0 < l.length := List.length_pos_iff.2 hl
      obtain ⟨g, rfl⟩ : ∃ g', g = g' + 1 := ⟨g - 1, by omega⟩
      cases h : rdF l with
      | none => rw [spG_none _ l p h, spG_none _ l p h]
      | some x =>
        obtain ⟨q, t, k⟩ := x
        have hk := rdF_pos l q t k h
        rw [spG_step f l p q t k hl h, spG_step g l p q t k hl h, ih g _ _ (by rw [List.length_drop]; omega) (by rw [List.length_drop]; omega)]
theorem spots_magic (l : List UInt8) : spots (magic ++ l) = 5 :: spG l.length l 5 := by
  unfold spots
  rw [show (magic ++ l).take 5 = magic from rfl, if_pos rfl, show (magic ++ l).drop 5 = l from rfl]
  rw [spG_fuel (magic ++ l).length l.length l 5 (by rw [List.length_append]; omega) (Nat.le_refl _)]

/-- Where the frames of payloads end. -/
def offs : Nat → Nat → List (List UInt8) → List Nat
  | p, i, [] => [p + (frame i []).length]
  | p, i, x :: r => (p + (frame i x).length) :: offs (p + (frame i x).length) (i + 1) r

theorem offs_length (ps : List (List UInt8)) : ∀ p i, (offs p i ps).length = ps.length + 1 := by
  induction ps with
  | nil => intro p i; rfl
  | cons x r ih => intro p i; simp [offs, ih]

theorem spG_frames (ps : List (List UInt8)) : ∀ (p i f : Nat), i + ps.length ≤ 400 → (∀ x ∈ ps, x ≠ [] ∧ x.length ≤ 200) → (frames i ps).length ≤ f → spG f (frames i ps) p = offs p i ps := by
  induction ps with
  | nil =>
    intro p i f hn _ hf
    have hp := frame_pos i []
    simp only [frames, offs] at hf ⊢
    obtain ⟨f, rfl⟩ : ∃ f', f = f' + 1 := ⟨f - 1, by omega⟩
    have h := rdF_show i [] [] (by simpa using hn) (by simp)
    have hne := frame_ne i [] []
    rw [List.append_nil] at h hne
    rw [spG_step f _ p i [] _ hne h, List.drop_length, spG_nil]
  | cons x r ih =>
    intro p i f hn hok hf
    obtain ⟨hp1, hp2⟩ := hok x (by simp)
    have hp := frame_pos i x
    simp only [frames, offs] at hf ⊢
    rw [List.length_append] at hf
    rw [List.length_cons] at hn
    obtain ⟨f, rfl⟩ : ∃ f', f = f' + 1 := ⟨f - 1, by omega⟩
    have h := rdF_show i x (frames (i + 1) r) (by omega) hp2
    rw [spG_step f _ p i x _ (frame_ne _ _ _) h, List.drop_left, ih _ (i + 1) f (by omega) (fun y hy => hok y (by simp [hy])) (by omega)]

theorem spots_show (ps : List (List UInt8)) (h : okL ps) : spots (showL ps) = 5 :: offs 5 0 ps := by
  rw [showL_in ps h, spots_magic, spG_frames ps 5 0 _ (by simpa using h.1) h.2 (Nat.le_refl _)]

/-- Frame j of frames that stand at place p of S. -/
theorem offs_at (S : List UInt8) (ps : List (List UInt8)) : ∀ (p i j : Nat), S.drop p = frames i ps → j ≤ ps.length →
    S.drop ((p :: offs p i ps).getD j 0) = frames (i + j) (ps.drop j) ∧ (p :: offs p i ps).getD (j + 1) 0 = (p :: offs p i ps).getD j 0 + (frame (i + j) (ps.getD j [])).length := by
  induction ps with
  | nil =>
    intro p i j hS hj
    obtain rfl : j = 0 := by simpa using hj
    exact ⟨by simpa using hS, by simp [offs]⟩
  | cons x r ih =>
    intro p i j hS hj
    cases j with
    | zero => exact ⟨by simpa using hS, by simp [offs]⟩
    | succ j =>
      have hS2 : S.drop (p + (frame i x).length) = frames (i + 1) r := by
        rw [← List.drop_drop, hS]; exact List.drop_left
      have h := ih (p + (frame i x).length) (i + 1) j hS2 (by simpa using hj)
      rw [show i + 1 + j = i + (j + 1) from by omega] at h
      simpa [offs] using h

theorem offs_last (ps : List (List UInt8)) : ∀ (p i : Nat), (p :: offs p i ps).getD (ps.length + 1) 0 = p + (frames i ps).length := by
  induction ps with
  | nil => intro p i; simp [offs, frames]
  | cons x r ih =>
    intro p i
    have h := ih (p + (frame i x).length) (i + 1)
    simp only [offs, frames, List.length_cons, List.length_append]
    rw [List.getD_cons_succ, h]
    omega

theorem frames_head (ps : List (List UInt8)) (i j : Nat) (hj : j ≤ ps.length) : ∃ r, frames i (ps.drop j) = frame i (ps.getD j []) ++ r := by
  by_cases h : j < ps.length
  · rw [List.drop_eq_getElem_cons h, List.getD_eq_getElem?_getD, List.getElem?_eq_getElem h]
    exact ⟨_, rfl⟩
  · rw [List.drop_eq_nil_of_le (by omega), List.getD_eq_getElem?_getD, List.getElem?_eq_none (by omega)]
    exact ⟨[], by simp [frames]⟩

/-- What the law asks of the spots of a log. -/
theorem spots_read (ps : List (List UInt8)) (h : okL ps) : (spots (showL ps)).length = ps.length + 2 ∧ (spots (showL ps)).getD (ps.length + 1) 0 = (showL ps).length ∧
    ∀ j, j ≤ ps.length → (spots (showL ps)).getD j 0 ≤ (spots (showL ps)).getD (j + 1) 0 ∧ (spots (showL ps)).getD (j + 1) 0 ≤ (showL ps).length ∧
      rdF ((showL ps).drop ((spots (showL ps)).getD j 0)) = some (j, ps.getD j [], (spots (showL ps)).getD (j + 1) 0 - (spots (showL ps)).getD j 0) := by
  rw [spots_show ps h]
  have hS : (showL ps).drop 5 = frames 0 ps := by rw [showL_in ps h]; rfl
  have hL : (showL ps).length = 5 + (frames 0 ps).length := by rw [showL_in ps h, List.length_append]; rfl
  refine ⟨by simp [offs_length], by rw [offs_last, hL], ?_⟩
  intro j hj
  obtain ⟨h1, h2⟩ := offs_at (showL ps) ps 5 0 j hS hj
  obtain ⟨r, hr⟩ := frames_head ps (0 + j) j hj
  rw [hr] at h1
  have hp : (ps.getD j []).length ≤ 200 := by
    by_cases hlt : j < ps.length
    · rw [List.getD_eq_getElem?_getD, List.getElem?_eq_getElem hlt]
      exact (h.2 _ (List.getElem_mem hlt)).2
    · rw [List.getD_eq_getElem?_getD, List.getElem?_eq_none (by omega)]; simp
  have hjj : 0 + j = j := by omega
  rw [hjj] at h1 h2
  have h3 := rdF_show j (ps.getD j []) r (by have := h.1; omega) hp
  have hlen := congrArg List.length h1
  rw [List.length_drop, List.length_append] at hlen
  have hf := frame_pos j (ps.getD j [])
  refine ⟨by omega, by omega, ?_⟩
  rw [h1, h3, h2]
  simp

end Go.Proofs.YthagjamgmlbhkaaDoor
