/- Plain facts on frames and logs: what is made is read as it was, whatever stands behind; cut anywhere it is none. No condition. -/
import Derived.Test.YthagjamgmlbhkaaDoorVzMath
import Derived.Test.YthagjamgmlbhkaaDoorCrcMath
import Derived.Test.YthagjamgmlbhkaaDoorFixMath
namespace Go.Proofs.YthagjamgmlbhkaaDoor

/-- The sum as a number. -/
def crcN (l : List UInt8) : Nat := 4294967295 - crcL l 4294967295
theorem crcN_lt (l : List UInt8) : crcN l < 4294967296 := by unfold crcN; omega
theorem crcN_int (l : List UInt8) : (4294967295 - (crcL l 4294967295 : Int)) = (crcN l : Int) := by
  have h := crcL_lt l 4294967295 (by decide)
  have e : (2 ^ 32 : Nat) = 4294967296 := by decide
  unfold crcN; omega

/-- What a frame has ahead of its sum, and the frame. -/
def fbody (q : Nat) (p : List UInt8) : List UInt8 := varB 6 q ++ varB 6 p.length ++ p
def frame (q : Nat) (p : List UInt8) : List UInt8 := fbody q p ++ low (crcN (fbody q p)) 4
/-- What ShowFrame makes. -/
def showF (q : Int) (p : List UInt8) : List UInt8 := if 0 ≤ q ∧ q ≤ 400 ∧ p.length ≤ 200 then frame q.toNat p else []

theorem varB_pos (n : Nat) : 1 ≤ (varB 6 n).length := by
  cases hr : varB 6 n with
  | nil => exact absurd hr (varB_ne _ _)
  | cons c r => simp
theorem fbody_length (q : Nat) (p : List UInt8) : (fbody q p).length = (varB 6 q).length + (varB 6 p.length).length + p.length := by
  unfold fbody; rw [List.length_append, List.length_append]
theorem frame_length (q : Nat) (p : List UInt8) : (frame q p).length = (varB 6 q).length + (varB 6 p.length).length + p.length + 4 := by
  unfold frame; rw [List.length_append, low_length, fbody_length]
theorem frame_pos (q : Nat) (p : List UInt8) : 6 ≤ (frame q p).length := by
  have h1 := varB_pos q
  have h2 := varB_pos p.length
  rw [frame_length]; omega
theorem frame_le (q : Nat) (p : List UInt8) : (frame q p).length ≤ p.length + 18 := by
  have h1 := varB_length 6 q
  have h2 := varB_length 6 p.length
  rw [frame_length]; omega
theorem showF_in (q : Nat) (p : List UInt8) (hq : q ≤ 400) (hp : p.length ≤ 200) : showF (q : Int) p = frame q p := by
  unfold showF; rw [if_pos ⟨by omega, by omega, hp⟩]; rfl
theorem showF_out (q : Int) (p : List UInt8) (h : ¬ (0 ≤ q ∧ q ≤ 400 ∧ p.length ≤ 200)) : showF q p = [] := by unfold showF; rw [if_neg h]
theorem showF_length (q : Int) (p : List UInt8) : (showF q p).length ≤ 218 := by
  unfold showF; split
  · rename_i h; have := frame_le q.toNat p; omega
  · simp

/-- What ReadFrame tells: the number, the payload and how many bytes. -/
def rdF (l : List UInt8) : Option (Nat × List UInt8 × Nat) :=
  let a := (rdv l).2
  let n := (rdv (l.drop a)).1
  let b := (rdv (l.drop a)).2
  if a = 0 ∨ b = 0 ∨ 200 < n ∨ l.length < a + b + n + 4 then none
  else if showF ((rdv l).1 : Int) ((l.drop (a + b)).take n) = l.take (a + b + n + 4) then some ((rdv l).1, (l.drop (a + b)).take n, a + b + n + 4) else none

theorem rdF_sound (l : List UInt8) (q : Nat) (t : List UInt8) (k : Nat) (h : rdF l = some (q, t, k)) :
    q ≤ 400 ∧ t.length ≤ 200 ∧ k ≤ l.length ∧ l.take k = frame q t ∧ k = (frame q t).length := by
  unfold rdF at h
  simp only at h
  split at h
  · cases h
  · rename_i hn
    split at h
    · rename_i hs
      simp only [Option.some.injEq, Prod.mk.injEq] at h
      obtain ⟨rfl, rfl, rfl⟩ := h
      have hk : (l.take ((rdv l).2 + (rdv (l.drop (rdv l).2)).2 + (rdv (l.drop (rdv l).2)).1 + 4)).length = (rdv l).2 + (rdv (l.drop (rdv l).2)).2 + (rdv (l.drop (rdv l).2)).1 + 4 := by
        rw [List.length_take]; omega
      by_cases hin : 0 ≤ ((rdv l).1 : Int) ∧ ((rdv l).1 : Int) ≤ 400 ∧ ((l.drop ((rdv l).2 + (rdv (l.drop (rdv l).2)).2)).take (rdv (l.drop (rdv l).2)).1).length ≤ 200
      · rw [showF_in _ _ (by omega) hin.2.2] at hs
        exact ⟨by omega, hin.2.2, by omega, hs.symm, by rw [hs, hk]⟩
      · rw [showF_out _ _ hin] at hs
        rw [← hs] at hk
        simp at hk
    · cases h

theorem rdF_show (q : Nat) (p r : List UInt8) (hq : q ≤ 400) (hp : p.length ≤ 200) : rdF (frame q p ++ r) = some (q, p, (frame q p).length) := by
  have e0 : frame q p ++ r = varB 6 q ++ (varB 6 p.length ++ (p ++ (low (crcN (fbody q p)) 4 ++ r))) := by unfold frame fbody; simp only [List.append_assoc]
  have h1 : rdv (frame q p ++ r) = (q, (varB 6 q).length) := by rw [e0]; exact rdv_var q _ (by omega)
  have hd : (frame q p ++ r).drop (varB 6 q).length = varB 6 p.length ++ (p ++ (low (crcN (fbody q p)) 4 ++ r)) := by rw [e0]; exact List.drop_left
  have h2 : rdv ((frame q p ++ r).drop (varB 6 q).length) = (p.length, (varB 6 p.length).length) := by rw [hd]; exact rdv_var p.length _ (by omega)
  have hd2 : (frame q p ++ r).drop ((varB 6 q).length + (varB 6 p.length).length) = p ++ (low (crcN (fbody q p)) 4 ++ r) := by
    rw [← List.drop_drop, hd]; exact List.drop_left
  have hl := frame_length q p
  have hq1 := varB_pos q
  have hp1 := varB_pos p.length
  have ht : (frame q p ++ r).take ((varB 6 q).length + (varB 6 p.length).length + p.length + 4) = frame q p := by rw [← hl]; exact List.take_left
  unfold rdF
  simp only [h1, h2]
  rw [if_neg (by rw [List.length_append]; omega), hd2, List.take_left, ht, showF_in q p hq hp, if_pos rfl, hl]

/-- A frame stands ahead just where it is told. -/
theorem rdF_iff (l : List UInt8) (q : Nat) (t : List UInt8) (k : Nat) : rdF l = some (q, t, k) ↔ q ≤ 400 ∧ t.length ≤ 200 ∧ k = (frame q t).length ∧ ∃ r, l = frame q t ++ r := by
  constructor
  · intro h
    obtain ⟨h1, h2, h3, h4, h5⟩ := rdF_sound l q t k h
    exact ⟨h1, h2, h5, l.drop k, by rw [← h4, List.take_append_drop]⟩
  · rintro ⟨h1, h2, rfl, r, rfl⟩
    exact rdF_show q t r h1 h2

theorem rdF_cut (q : Nat) (p : List UInt8) (k : Nat) (hq : q ≤ 400) (hp : p.length ≤ 200) (hk : k < (frame q p).length) : rdF ((frame q p).take k) = none := by
  cases h : rdF ((frame q p).take k) with
  | none => rfl
  | some x =>
    exfalso
    obtain ⟨q', t', k'⟩ := x
    obtain ⟨h1, h2, h3, r, h4⟩ := (rdF_iff _ _ _ _).1 h
    have e : frame q p = frame q' t' ++ (r ++ (frame q p).drop k) := by
      rw [← List.append_assoc, ← h4, List.take_append_drop]
    have h5 := rdF_show q' t' (r ++ (frame q p).drop k) h1 h2
    rw [← e] at h5
    have h6 := rdF_show q p [] hq hp
    rw [List.append_nil, h5] at h6
    simp only [Option.some.injEq, Prod.mk.injEq] at h6
    have h7 := congrArg List.length h4
    rw [List.length_append, List.length_take] at h7
    omega
theorem rdF_nil : rdF [] = none := rfl
theorem rdF_pos (l : List UInt8) (q : Nat) (t : List UInt8) (k : Nat) (h : rdF l = some (q, t, k)) : 6 ≤ k := by
  obtain ⟨_, _, _, _, h5⟩ := rdF_sound l q t k h
  have := frame_pos q t; omega

/-- What a log begins with. -/
def magic : List UInt8 := [72, 76, 79, 71, 1]
/-- The frames of payloads, numbered from i on, and the last one. -/
def frames : Nat → List (List UInt8) → List UInt8
  | i, [] => frame i []
  | i, p :: r => frame i p ++ frames (i + 1) r
abbrev okL (ps : List (List UInt8)) : Prop := ps.length ≤ 400 ∧ ∀ p ∈ ps, p ≠ [] ∧ p.length ≤ 200
/-- What ShowLog makes. -/
def showL (ps : List (List UInt8)) : List UInt8 := if okL ps then magic ++ frames 0 ps else []

/-- What ReadLog tells behind the beginning; out: the payloads told so far. -/
def rdG : Nat → List UInt8 → List (List UInt8) → List (List UInt8) × Nat
  | 0, _, _ => ([], 4)
  | f + 1, l, out =>
    if l = [] then ([], 4)
    else match rdF l with
      | none => ([], 2)
      | some (q, t, k) => if q ≠ out.length then ([], 3) else if t = [] then (if k < l.length then ([], 5) else (out, 0)) else rdG f (l.drop k) (out ++ [t])
def rdL (l : List UInt8) : List (List UInt8) × Nat := if l.take 5 = magic then rdG (l.length) (l.drop 5) [] else ([], 1)

theorem rdG_none (f : Nat) (l : List UInt8) (out : List (List UInt8)) (hl : l ≠ []) (h : rdF l = none) : rdG (f + 1) l out = ([], 2) := by simp only [rdG, if_neg hl, h]
theorem rdG_seq (f : Nat) (l : List UInt8) (out : List (List UInt8)) (q : Nat) (t : List UInt8) (k : Nat) (hl : l ≠ []) (h : rdF l = some (q, t, k)) (hq : q ≠ out.length) : rdG (f + 1) l out = ([], 3) := by simp only [rdG, if_neg hl, h, if_pos hq]
theorem rdG_last (f : Nat) (l : List UInt8) (out : List (List UInt8)) (q : Nat) (k : Nat) (hl : l ≠ []) (h : rdF l = some (q, [], k)) (hq : q = out.length) : rdG (f + 1) l out = if k < l.length then ([], 5) else (out, 0) := by
  simp only [rdG, if_neg hl, h, ne_eq, hq, not_true_eq_false, if_false, if_true]
theorem rdG_step (f : Nat) (l : List UInt8) (out : List (List UInt8)) (q : Nat) (t : List UInt8) (k : Nat) (hl : l ≠ []) (h : rdF l = some (q, t, k)) (hq : q = out.length) (ht : t ≠ []) : rdG (f + 1) l out = rdG f (l.drop k) (out ++ [t]) := by
  simp only [rdG, if_neg hl, h, ne_eq, hq, not_true_eq_false, if_false, if_neg ht]
theorem rdG_nil (f : Nat) (out : List (List UInt8)) : rdG f [] out = ([], 4) := by cases f <;> simp [rdG]

/-- More fuel than bytes changes nothing. -/
theorem rdG_fuel : ∀ (f g : Nat) (l : List UInt8) (out : List (List UInt8)), l.length ≤ f → l.length ≤ g → rdG f l out = rdG g l out := by
  intro f
  induction f with
  | zero =>
    intro g l out hf hg
    obtain rfl : l = [] := List.eq_nil_of_length_eq_zero (by omega)
    rw [rdG_nil, rdG_nil]
  | succ f ih =>
    intro g l out hf hg
    by_cases hl : l = []
    · subst hl; rw [rdG_nil, rdG_nil]
    · have hlp : 0 < l.length := List.length_pos_iff.2 hl
      obtain ⟨g, rfl⟩ : ∃ g', g = g' + 1 := ⟨g - 1, by omega⟩
      cases h : rdF l with
      | none => rw [rdG_none f l out hl h, rdG_none g l out hl h]
      | some x =>
        obtain ⟨q, t, k⟩ := x
        have hk := rdF_pos l q t k h
        by_cases hq : q = out.length
        · by_cases ht : t = []
          · subst ht
            rw [rdG_last f l out q k hl h hq, rdG_last g l out q k hl h hq]
          · rw [rdG_step f l out q t k hl h hq ht, rdG_step g l out q t k hl h hq ht]
            exact ih g _ _ (by rw [List.length_drop]; omega) (by rw [List.length_drop]; omega)
        · rw [rdG_seq f l out q t k hl h hq, rdG_seq g l out q t k hl h hq]

theorem frame_ne (q : Nat) (p r : List UInt8) : frame q p ++ r ≠ [] := by
  intro h
  have h1 := congrArg List.length h
  have h2 := frame_pos q p
  rw [List.length_append, List.length_nil] at h1
  omega
theorem take_ne (l : List UInt8) (k : Nat) (h0 : ¬ k = 0) (hk : k ≤ l.length) : l.take k ≠ [] := by
  intro h
  have h1 := congrArg List.length h
  rw [List.length_take, List.length_nil] at h1
  omega

theorem frames_read (ps : List (List UInt8)) : ∀ (out : List (List UInt8)) (f : Nat), out.length + ps.length ≤ 400 → (∀ p ∈ ps, p ≠ [] ∧ p.length ≤ 200) → (frames out.length ps).length ≤ f → rdG f (frames out.length ps) out = (out ++ ps, 0) := by
  induction ps with
  | nil =>
    intro out f hn _ hf
    have hp := frame_pos out.length []
    simp only [frames] at hf ⊢
    obtain ⟨f, rfl⟩ : ∃ f', f = f' + 1 := ⟨f - 1, by omega⟩
    have h := rdF_show out.length [] [] (by simpa using hn) (by simp)
    rw [List.append_nil] at h
    have hne := frame_ne out.length [] []
    rw [List.append_nil] at hne
    rw [rdG_last f _ out out.length _ hne h rfl, if_neg (by omega), List.append_nil]
  | cons p r ih =>
    intro out f hn hok hf
    obtain ⟨hp1, hp2⟩ := hok p (by simp)
    have hp := frame_pos out.length p
    simp only [frames] at hf ⊢
    rw [List.length_append] at hf
    rw [List.length_cons] at hn
    obtain ⟨f, rfl⟩ : ∃ f', f = f' + 1 := ⟨f - 1, by omega⟩
    have h := rdF_show out.length p (frames (out.length + 1) r) (by omega) hp2
    rw [rdG_step f _ out out.length p _ (frame_ne _ _ _) h rfl hp1, List.drop_left]
    have e : out.length + 1 = (out ++ [p]).length := by simp
    rw [e]
    rw [e] at hf
    rw [ih (out ++ [p]) f (by simp; omega) (fun x hx => hok x (by simp [hx])) (by omega)]
    simp

theorem showL_in (ps : List (List UInt8)) (h : okL ps) : showL ps = magic ++ frames 0 ps := by unfold showL; rw [if_pos h]
theorem showL_out (ps : List (List UInt8)) (h : ¬ okL ps) : showL ps = [] := by unfold showL; rw [if_neg h]
theorem rdL_magic (l : List UInt8) : rdL (magic ++ l) = rdG l.length l [] := by
  unfold rdL
  rw [show (magic ++ l).take 5 = magic from rfl, if_pos rfl, show (magic ++ l).drop 5 = l from rfl]
  exact rdG_fuel _ _ _ _ (by rw [List.length_append]; omega) (Nat.le_refl _)
theorem rdL_show (ps : List (List UInt8)) (h : okL ps) : rdL (showL ps) = (ps, 0) := by
  rw [showL_in ps h, rdL_magic]
  have := frames_read ps [] (frames 0 ps).length (by simpa using h.1) h.2 (Nat.le_refl _)
  simpa using this

theorem frames_cut (ps : List (List UInt8)) : ∀ (out : List (List UInt8)) (f k : Nat), out.length + ps.length ≤ 400 → (∀ p ∈ ps, p ≠ [] ∧ p.length ≤ 200) → k < (frames out.length ps).length → k ≤ f → ∃ c, rdG f ((frames out.length ps).take k) out = ([], c) ∧ c ≠ 0 := by
  induction ps with
  | nil =>
    intro out f k hn _ hk hf
    simp only [frames] at hk ⊢
    by_cases h0 : k = 0
    · subst h0; rw [List.take_zero, rdG_nil]; exact ⟨4, rfl, by omega⟩
    · obtain ⟨f, rfl⟩ : ∃ f', f = f' + 1 := ⟨f - 1, by omega⟩
      rw [rdG_none f _ out (take_ne _ _ h0 (by omega)) (rdF_cut out.length [] k (by simpa using hn) (by simp) hk)]
      exact ⟨2, rfl, by omega⟩
  | cons p r ih =>
    intro out f k hn hok hk hf
    obtain ⟨hp1, hp2⟩ := hok p (by simp)
    simp only [frames] at hk ⊢
    rw [List.length_append] at hk
    rw [List.length_cons] at hn
    by_cases h0 : k = 0
    · subst h0; rw [List.take_zero, rdG_nil]; exact ⟨4, rfl, by omega⟩
    · obtain ⟨f, rfl⟩ : ∃ f', f = f' + 1 := ⟨f - 1, by omega⟩
      by_cases hc : k < (frame out.length p).length
      · rw [List.take_append_of_le_length (by omega)]
        rw [rdG_none f _ out (take_ne _ _ h0 (by omega)) (rdF_cut out.length p k (by omega) hp2 hc)]
        exact ⟨2, rfl, by omega⟩
      · obtain ⟨j, rfl⟩ : ∃ j, k = (frame out.length p).length + j := ⟨k - (frame out.length p).length, by omega⟩
        have hp := frame_pos out.length p
        rw [List.take_length_add_append]
        have h := rdF_show out.length p ((frames (out.length + 1) r).take j) (by omega) hp2
        rw [rdG_step f _ out out.length p _ (frame_ne _ _ _) h rfl hp1, List.drop_left]
        have e : out.length + 1 = (out ++ [p]).length := by simp
        rw [e] at hk ⊢
        exact ih (out ++ [p]) f j (by simp; omega) (fun x hx => hok x (by simp [hx])) (by omega) (by omega)

theorem rdL_cut (ps : List (List UInt8)) (k : Nat) (h : okL ps) (hk : k < (showL ps).length) : ∃ c, rdL ((showL ps).take k) = ([], c) ∧ c ≠ 0 := by
  rw [showL_in ps h] at hk ⊢
  by_cases h5 : k < 5
  · refine ⟨1, ?_, by omega⟩
    unfold rdL
    rw [if_neg]
    intro he
    have := congrArg List.length he
    rw [List.length_take, List.length_take] at this
    simp [magic] at this
    omega
  · obtain ⟨j, rfl⟩ : ∃ j, k = 5 + j := ⟨k - 5, by omega⟩
    have e : (magic ++ frames 0 ps).take (5 + j) = magic ++ (frames 0 ps).take j := List.take_length_add_append (l₁ := magic) (l₂ := frames 0 ps) j
    rw [e, rdL_magic]
    have hl : (magic ++ frames 0 ps).length = 5 + (frames 0 ps).length := by rw [List.length_append]; rfl
    rw [hl] at hk
    have hj : j < (frames 0 ps).length := by omega
    exact frames_cut ps [] _ j (by simpa using h.1) h.2 hj (by rw [List.length_take]; omega)

theorem frames_more (ps : List (List UInt8)) (x : List UInt8) (hx : x ≠ []) : ∀ (out : List (List UInt8)) (f : Nat), out.length + ps.length ≤ 400 → (∀ p ∈ ps, p ≠ [] ∧ p.length ≤ 200) → (frames out.length ps).length ≤ f → rdG f (frames out.length ps ++ x) out = ([], 5) := by
  have hxp : 0 < x.length := List.length_pos_iff.2 hx
  induction ps with
  | nil =>
    intro out f hn _ hf
    have hp := frame_pos out.length []
    simp only [frames] at hf ⊢
    obtain ⟨f, rfl⟩ : ∃ f', f = f' + 1 := ⟨f - 1, by omega⟩
    have h := rdF_show out.length [] x (by simpa using hn) (by simp)
    rw [rdG_last f _ out out.length _ (frame_ne _ _ _) h rfl, if_pos (by rw [List.length_append]; omega)]
  | cons p r ih =>
    intro out f hn hok hf
    obtain ⟨hp1, hp2⟩ := hok p (by simp)
    have hp := frame_pos out.length p
    simp only [frames] at hf ⊢
    rw [List.length_append] at hf
    rw [List.length_cons] at hn
    obtain ⟨f, rfl⟩ : ∃ f', f = f' + 1 := ⟨f - 1, by omega⟩
    have h := rdF_show out.length p (frames (out.length + 1) r ++ x) (by omega) hp2
    rw [List.append_assoc, rdG_step f _ out out.length p _ (frame_ne _ _ _) h rfl hp1, List.drop_left]
    have e : out.length + 1 = (out ++ [p]).length := by simp
    rw [e]
    rw [e] at hf
    exact ih (out ++ [p]) f (by simp; omega) (fun y hy => hok y (by simp [hy])) (by omega)

theorem rdL_more (ps : List (List UInt8)) (x : List UInt8) (hx : x ≠ []) (h : okL ps) : rdL (showL ps ++ x) = ([], 5) := by
  rw [showL_in ps h, List.append_assoc, rdL_magic]
  exact frames_more ps x hx [] _ (by simpa using h.1) h.2 (by rw [List.length_append]; simp)
theorem rdL_nil : rdL [] = ([], 1) := rfl

end Go.Proofs.YthagjamgmlbhkaaDoor
