/- Plain facts on frames and logs: what is made is read as it was, whatever stands behind; cut anywhere it is none. No condition. -/
import Derived.Test.YtcjpepdagnifiaaDoorJEncodeE
import Derived.Test.YtcjpepdagnifiaaDoorVzMath
import Derived.Test.YtcjpepdagnifiaaDoorCrcMath
import Derived.Test.YtcjpepdagnifiaaDoorFixMath
import Derived.Test.YtcjpepdagnifiaaDoorVzWalks
import Derived.Test.YtcjpepdagnifiaaDoorFixWalks
import Derived.Test.YtcjpepdagnifiaaDoorSCrcWalks
import Derived.Deep.RegionHeld
import Derived.OwnWalk
import Derived.Test.YtcjpepdagnifiaaDoorOwnI
import Derived.Test.YtcjpepdagnifiaaDoorStrsWalks
import Derived.Deep.Cut
import Derived.Test.YtcjpepdagnifiaaDoorRows
import Derived.Test.YtcjpepdagnifiaaDoorPutWalks
import Derived.WalkKit
import Derived.ProofKit
import Derived.Test.YtcjpepdagnifiaaDoorICrcWalks
import Derived.Test.YtcjpepdagnifiaaDoorProg
import Derived.Lib.Strings
import Derived.Lib.Slices
import Derived.Lib.Walk
import Derived.Lib.Builder
import Derived.Lib.AppendStr
import Derived.Lib.UnsafeStr
import Derived.Laws.Externs
import Derived.Test.YtcjpepdagnifiaaDoorShelf
namespace Go.Proofs.YtcjpepdagnifiaaDoor

/-- The sum as a number. -/
def crcN (l : List UInt8) : Nat := 4294967295 - crcL l 4294967295
theorem crcN_lt (l : List UInt8) : crcN l < 4294967296 := by unfold crcN; omega
theorem crcN_int (l : List UInt8) : (4294967295 - (crcL l 4294967295 : Int)) = (crcN l : Int) := by
  have h := crcL_lt l 4294967295 (by decide)
  have e : (2 ^ 32 : Nat) = 4294967296 := by decide
  unfold crcN; omega

/-- What a frame has ahead of its sum, and the frame. -/
def fbody (q : Nat) (p : List UInt8) : List UInt8 := varB 6 q ++ varB 6 p.length ++ p
def frame (q : Nat) (p : List UInt8) : List UInt8 := fbody q p ++ low (crcN (fbody q p)) 4
/-- What ShowFrame makes. -/
def showF (q : Int) (p : List UInt8) : List UInt8 := if 0 ≤ q ∧ q ≤ 400 ∧ p.length ≤ 200 then frame q.toNat p else []

theorem varB_pos (n : Nat) : 1 ≤ (varB 6 n).length := by
  cases hr : varB 6 n with
  | nil => exact absurd hr (varB_ne _ _)
  | cons c r => simp
theorem fbody_length (q : Nat) (p : List UInt8) : (fbody q p).length = (varB 6 q).length + (varB 6 p.length).length + p.length := by
  unfold fbody; rw [List.length_append, List.length_append]
theorem frame_length (q : Nat) (p : List UInt8) : (frame q p).length = (varB 6 q).length + (varB 6 p.length).length + p.length + 4 := by
  unfold frame; rw [List.length_append, low_length, fbody_length]
theorem frame_pos (q : Nat) (p : List UInt8) : 6 ≤ (frame q p).length := by
  have h1 := varB_pos q
  have h2 := varB_pos p.length
  rw [frame_length]; omega
theorem frame_le (q : Nat) (p : List UInt8) : (frame q p).length ≤ p.length + 18 := by
  have h1 := varB_length 6 q
  have h2 := varB_length 6 p.length
  rw [frame_length]; omega
theorem showF_in (q : Nat) (p : List UInt8) (hq : q ≤ 400) (hp : p.length ≤ 200) : showF (q : Int) p = frame q p := by
  unfold showF; rw [if_pos ⟨by omega, by omega, hp⟩]; rfl
theorem showF_out (q : Int) (p : List UInt8) (h : ¬ (0 ≤ q ∧ q ≤ 400 ∧ p.length ≤ 200)) : showF q p = [] := by unfold showF; rw [if_neg h]
theorem showF_length (q : Int) (p : List UInt8) : (showF q p).length ≤ 218 := by
  unfold showF; split
  · rename_i h; have := frame_le q.toNat p; omega
  · simp

/-- What ReadFrame tells: the number, the payload and how many bytes. -/
def rdF (l : List UInt8) : Option (Nat × List UInt8 × Nat) :=
  let a := (rdv l).2
  let n := (rdv (l.drop a)).1
  let b := (rdv (l.drop a)).2
  if a = 0 ∨ b = 0 ∨ 200 < n ∨ l.length < a + b + n + 4 then none
  else if showF ((rdv l).1 : Int) ((l.drop (a + b)).take n) = l.take (a + b + n + 4) then some ((rdv l).1, (l.drop (a + b)).take n, a + b + n + 4) else none

theorem rdF_sound (l : List UInt8) (q : Nat) (t : List UInt8) (k : Nat) (h : rdF l = some (q, t, k)) :
    q ≤ 400 ∧ t.length ≤ 200 ∧ k ≤ l.length ∧ l.take k = frame q t ∧ k = (frame q t).length := by
  unfold rdF at h
  simp only at h
  split at h
  · cases h
  · rename_i hn
    split at h
    · rename_i hs
      simp only [Option.some.injEq, Prod.mk.injEq] at h
      obtain ⟨rfl, rfl, rfl⟩ := h
      have hk : (l.take ((rdv l).2 + (rdv (l.drop (rdv l).2)).2 + (rdv (l.drop (rdv l).2)).1 + 4)).length = (rdv l).2 + (rdv (l.drop (rdv l).2)).2 + (rdv (l.drop (rdv l).2)).1 + 4 := by
        rw [List.length_take]; omega
      by_cases hin : 0 ≤ ((rdv l).1 : Int) ∧ ((rdv l).1 : Int) ≤ 400 ∧ ((l.drop ((rdv l).2 + (rdv (l.drop (rdv l).2)).2)).take (rdv (l.drop (rdv l).2)).1).length ≤ 200
      · rw [showF_in _ _ (by omega) hin.2.2] at hs
        exact ⟨by omega, hin.2.2, by omega, hs.symm, by rw [hs, hk]⟩
      · rw [showF_out _ _ hin] at hs
        rw [← hs] at hk
        simp at hk
    · cases h

theorem rdF_show (q : Nat) (p r : List UInt8) (hq : q ≤ 400) (hp : p.length ≤ 200) : rdF (frame q p ++ r) = some (q, p, (frame q p).length) := by
  have e0 : frame q p ++ r = varB 6 q ++ (varB 6 p.length ++ (p ++ (low (crcN (fbody q p)) 4 ++ r))) := by unfold frame fbody; simp only [List.append_assoc]
  have h1 : rdv (frame q p ++ r) = (q, (varB 6 q).length) := by rw [e0]; exact rdv_var q _ (by omega)
  have hd : (frame q p ++ r).drop (varB 6 q).length = varB 6 p.length ++ (p ++ (low (crcN (fbody q p)) 4 ++ r)) := by rw [e0]; exact List.drop_left
  have h2 : rdv ((frame q p ++ r).drop (varB 6 q).length) = (p.length, (varB 6 p.length).length) := by rw [hd]; exact rdv_var p.length _ (by omega)
  have hd2 : (frame q p ++ r).drop ((varB 6 q).length + (varB 6 p.length).length) = p ++ (low (crcN (fbody q p)) 4 ++ r) := by
    rw [← List.drop_drop, hd]; exact List.drop_left
  have hl := frame_length q p
  have hq1 := varB_pos q
  have hp1 := varB_pos p.length
  have ht : (frame q p ++ r).take ((varB 6 q).length + (varB 6 p.length).length + p.length + 4) = frame q p := by rw [← hl]; exact List.take_left
  unfold rdF
  simp only [h1, h2]
  rw [if_neg (by rw [List.length_append]; omega), hd2, List.take_left, ht, showF_in q p hq hp, if_pos rfl, hl]

/-- A frame stands ahead just where it is told. -/
theorem rdF_iff (l : List UInt8) (q : Nat) (t : List UInt8) (k : Nat) : rdF l = some (q, t, k) ↔ q ≤ 400 ∧ t.length ≤ 200 ∧ k = (frame q t).length ∧ ∃ r, l = frame q t ++ r := by
  constructor
  · intro h
    obtain ⟨h1, h2, h3, h4, h5⟩ := rdF_sound l q t k h
    exact ⟨h1, h2, h5, l.drop k, by rw [← h4, List.take_append_drop]⟩
  · rintro ⟨h1, h2, rfl, r, rfl⟩
    exact rdF_show q t r h1 h2

theorem rdF_cut (q : Nat) (p : List UInt8) (k : Nat) (hq : q ≤ 400) (hp : p.length ≤ 200) (hk : k < (frame q p).length) : rdF ((frame q p).take k) = none := by
  cases h : rdF ((frame q p).take k) with
  | none => rfl
  | some x =>
    exfalso
    obtain ⟨q', t', k'⟩ := x
    obtain ⟨h1, h2, h3, r, h4⟩ := (rdF_iff _ _ _ _).1 h
    have e : frame q p = frame q' t' ++ (r ++ (frame q p).drop k) := by
      rw [← List.append_assoc, ← h4, List.take_append_drop]
    have h5 := rdF_show q' t' (r ++ (frame q p).drop k) h1 h2
    rw [← e] at h5
    have h6 := rdF_show q p [] hq hp
    rw [List.append_nil, h5] at h6
    simp only [Option.some.injEq, Prod.mk.injEq] at h6
    have h7 := congrArg List.length h4
    rw [List.length_append, List.length_take] at h7
    omega
theorem rdF_nil : rdF [] = none := rfl
theorem rdF_pos (l : List UInt8) (q : Nat) (t : List UInt8) (k : Nat) (h : rdF l = some (q, t, k)) : 6 ≤ k := by
  obtain ⟨_, _, _, _, h5⟩ := rdF_sound l q t k h
  have := frame_pos q t; omega

/-- What a log begins with. -/
def magic : List UInt8 := [72, 76, 79, 71, 1]
/-- The frames of payloads, numbered from i on, and the last one. -/
def frames : Nat → List (List UInt8) → List UInt8
  | i, [] => frame i []
  | i, p :: r => frame i p ++ frames (i + 1) r
abbrev okL (ps : List (List UInt8)) : Prop := ps.length ≤ 400 ∧ ∀ p ∈ ps, p ≠ [] ∧ p.length ≤ 200
/-- What ShowLog makes. -/
def showL (ps : List (List UInt8)) : List UInt8 := if okL ps then magic ++ frames 0 ps else []

/-- What ReadLog tells behind the beginning; out: the payloads told so far. -/
def rdG : Nat → List UInt8 → List (List UInt8) → List (List UInt8) × Nat
  | 0, _, _ => ([], 4)
  | f + 1, l, out =>
    if l = [] then ([], 4)
    else match rdF l with
      | none => ([], 2)
      | some (q, t, k) => if q ≠ out.length then ([], 3) else if t = [] then (if k < l.length then ([], 5) else (out, 0)) else rdG f (l.drop k) (out ++ [t])
def rdL (l : List UInt8) : List (List UInt8) × Nat := if l.take 5 = magic then rdG (l.length) (l.drop 5) [] else ([], 1)

theorem rdG_none (f : Nat) (l : List UInt8) (out : List (List UInt8)) (hl : l ≠ []) (h : rdF l = none) : rdG (f + 1) l out = ([], 2) := by simp only [rdG, if_neg hl, h]
theorem rdG_seq (f : Nat) (l : List UInt8) (out : List (List UInt8)) (q : Nat) (t : List UInt8) (k : Nat) (hl : l ≠ []) (h : rdF l = some (q, t, k)) (hq : q ≠ out.length) : rdG (f + 1) l out = ([], 3) := by simp only [rdG, if_neg hl, h, if_pos hq]
theorem rdG_last (f : Nat) (l : List UInt8) (out : List (List UInt8)) (q : Nat) (k : Nat) (hl : l ≠ []) (h : rdF l = some (q, [], k)) (hq : q = out.length) : rdG (f + 1) l out = if k < l.length then ([], 5) else (out, 0) := by
  simp only [rdG, if_neg hl, h, ne_eq, hq, not_true_eq_false, if_false, if_true]
theorem rdG_step (f : Nat) (l : List UInt8) (out : List (List UInt8)) (q : Nat) (t : List UInt8) (k : Nat) (hl : l ≠ []) (h : rdF l = some (q, t, k)) (hq : q = out.length) (ht : t ≠ []) : rdG (f + 1) l out = rdG f (l.drop k) (out ++ [t]) := by
  simp only [rdG, if_neg hl, h, ne_eq, hq, not_true_eq_false, if_false, if_neg ht]
theorem rdG_nil (f : Nat) (out : List (List UInt8)) : rdG f [] out = ([], 4) := by cases f <;> simp [rdG]

/-- More fuel than bytes changes nothing. -/
theorem rdG_fuel : ∀ (f g : Nat) (l : List UInt8) (out : List (List UInt8)), l.length ≤ f → l.length ≤ g → rdG f l out = rdG g l out := by
  intro f
  induction f with
  | zero =>
    intro g l out hf hg
    obtain rfl : l = [] := List.eq_nil_of_length_eq_zero (by omega)
    rw [rdG_nil, rdG_nil]
  | succ f ih =>
    intro g l out hf hg
    by_cases hl : l = []
    · subst hl; rw [rdG_nil, rdG_nil]
    · have hlp : 0 < l.length := List.length_pos_iff.2 hl
      obtain ⟨g, rfl⟩ : ∃ g', g = g' + 1 := ⟨g - 1, by omega⟩
      cases h : rdF l with
      | none => rw [rdG_none f l out hl h, rdG_none g l out hl h]
      | some x =>
        obtain ⟨q, t, k⟩ := x
        have hk := rdF_pos l q t k h
        by_cases hq : q = out.length
        · by_cases ht : t = []
          · subst ht
            rw [rdG_last f l out q k hl h hq, rdG_last g l out q k hl h hq]
          · rw [rdG_step f l out q t k hl h hq ht, rdG_step g l out q t k hl h hq ht]
            exact ih g _ _ (by rw [List.length_drop]; omega) (by rw [List.length_drop]; omega)
        · rw [rdG_seq f l out q t k hl h hq, rdG_seq g l out q t k hl h hq]

theorem frame_ne (q : Nat) (p r : List UInt8) : frame q p ++ r ≠ [] := by
  intro h
  have h1 := congrArg List.length h
  have h2 := frame_pos q p
  rw [List.length_append, List.length_nil] at h1
  omega
theorem take_ne (l : List UInt8) (k : Nat) (h0 : ¬ k = 0) (hk : k ≤ l.length) : l.take k ≠ [] := by
  intro h
  have h1 := congrArg List.length h
  rw [List.length_take, List.length_nil] at h1
  omega

theorem frames_read (ps : List (List UInt8)) : ∀ (out : List (List UInt8)) (f : Nat), out.length + ps.length ≤ 400 → (∀ p ∈ ps, p ≠ [] ∧ p.length ≤ 200) → (frames out.length ps).length ≤ f → rdG f (frames out.length ps) out = (out ++ ps, 0) := by
  induction ps with
  | nil =>
    intro out f hn _ hf
    have hp := frame_pos out.length []
    simp only [frames] at hf ⊢
    obtain ⟨f, rfl⟩ : ∃ f', f = f' + 1 := ⟨f - 1, by omega⟩
    have h := rdF_show out.length [] [] (by simpa using hn) (by simp)
    rw [List.append_nil] at h
    have hne := frame_ne out.length [] []
    rw [List.append_nil] at hne
    rw [rdG_last f _ out out.length _ hne h rfl, if_neg (by omega), List.append_nil]
  | cons p r ih =>
    intro out f hn hok hf
    obtain ⟨hp1, hp2⟩ := hok p (by simp)
    have hp := frame_pos out.length p
    simp only [frames] at hf ⊢
    rw [List.length_append] at hf
    rw [List.length_cons] at hn
    obtain ⟨f, rfl⟩ : ∃ f', f = f' + 1 := ⟨f - 1, by omega⟩
    have h := rdF_show out.length p (frames (out.length + 1) r) (by omega) hp2
    rw [rdG_step f _ out out.length p _ (frame_ne _ _ _) h rfl hp1, List.drop_left]
    have e : out.length + 1 = (out ++ [p]).length := by simp
    rw [e]
    rw [e] at hf
    rw [ih (out ++ [p]) f (by simp; omega) (fun x hx => hok x (by simp [hx])) (by omega)]
    simp

theorem showL_in (ps : List (List UInt8)) (h : okL ps) : showL ps = magic ++ frames 0 ps := by unfold showL; rw [if_pos h]
theorem showL_out (ps : List (List UInt8)) (h : ¬ okL ps) : showL ps = [] := by unfold showL; rw [if_neg h]
theorem rdL_magic (l : List UInt8) : rdL (magic ++ l) = rdG l.length l [] := by
  unfold rdL
  rw [show (magic ++ l).take 5 = magic from rfl, if_pos rfl, show (magic ++ l).drop 5 = l from rfl]
  exact rdG_fuel _ _ _ _ (by rw [List.length_append]; omega) (Nat.le_refl _)
theorem rdL_show (ps : List (List UInt8)) (h : okL ps) : rdL (showL ps) = (ps, 0) := by
  rw [showL_in ps h, rdL_magic]
  have := frames_read ps [] (frames 0 ps).length (by simpa using h.1) h.2 (Nat.le_refl _)
  simpa using this

theorem frames_cut (ps : List (List UInt8)) : ∀ (out : List (List UInt8)) (f k : Nat), out.length + ps.length ≤ 400 → (∀ p ∈ ps, p ≠ [] ∧ p.length ≤ 200) → k < (frames out.length ps).length → k ≤ f → ∃ c, rdG f ((frames out.length ps).take k) out = ([], c) ∧ c ≠ 0 := by
  induction ps with
  | nil =>
    intro out f k hn _ hk hf
    simp only [frames] at hk ⊢
    by_cases h0 : k = 0
    · subst h0; rw [List.take_zero, rdG_nil]; exact ⟨4, rfl, by omega⟩
    · obtain ⟨f, rfl⟩ : ∃ f', f = f' + 1 := ⟨f - 1, by omega⟩
      rw [rdG_none f _ out (take_ne _ _ h0 (by omega)) (rdF_cut out.length [] k (by simpa using hn) (by simp) hk)]
      exact ⟨2, rfl, by omega⟩
  | cons p r ih =>
    intro out f k hn hok hk hf
    obtain ⟨hp1, hp2⟩ := hok p (by simp)
    simp only [frames] at hk ⊢
    rw [List.length_append] at hk
    rw [List.length_cons] at hn
    by_cases h0 : k = 0
    · subst h0; rw [List.take_zero, rdG_nil]; exact ⟨4, rfl, by omega⟩
    · obtain ⟨f, rfl⟩ : ∃ f', f = f' + 1 := ⟨f - 1, by omega⟩
      by_cases hc : k < (frame out.length p).length
      · rw [List.take_append_of_le_length (by omega)]
        rw [rdG_none f _ out (take_ne _ _ h0 (by omega)) (rdF_cut out.length p k (by omega) hp2 hc)]
        exact ⟨2, rfl, by omega⟩
      · obtain ⟨j, rfl⟩ : ∃ j, k = (frame out.length p).length + j := ⟨k - (frame out.length p).length, by omega⟩
        have hp := frame_pos out.length p
        rw [List.take_length_add_append]
        have h := rdF_show out.length p ((frames (out.length + 1) r).take j) (by omega) hp2
        rw [rdG_step f _ out out.length p _ (frame_ne _ _ _) h rfl hp1, List.drop_left]
        have e : out.length + 1 = (out ++ [p]).length := by simp
        rw [e] at hk ⊢
        exact ih (out ++ [p]) f j (by simp; omega) (fun x hx => hok x (by simp [hx])) (by omega) (by omega)

theorem rdL_cut (ps : List (List UInt8)) (k : Nat) (h : okL ps) (hk : k < (showL ps).length) : ∃ c, rdL ((showL ps).take k) = ([], c) ∧ c ≠ 0 := by
  rw [showL_in ps h] at hk ⊢
  by_cases h5 : k < 5
  · refine ⟨1, ?_, by omega⟩
    unfold rdL
    rw [if_neg]
    intro he
    have := congrArg List.length he
    rw [List.length_take, List.length_take] at this
    simp [magic] at this
    omega
  · obtain ⟨j, rfl⟩ : ∃ j, k = 5 + j := ⟨k - 5, by omega⟩
    have e : (magic ++ frames 0 ps).take (5 + j) = magic ++ (frames 0 ps).take j := List.take_length_add_append (l₁ := magic) (l₂ := frames 0 ps) j
    rw [e, rdL_magic]
    have hl : (magic ++ frames 0 ps).length = 5 + (frames 0 ps).length := by rw [List.length_append]; rfl
    rw [hl] at hk
    have hj : j < (frames 0 ps).length := by omega
    exact frames_cut ps [] _ j (by simpa using h.1) h.2 hj (by rw [List.length_take]; omega)

theorem frames_more (ps : List (List UInt8)) (x : List UInt8) (hx : x ≠ []) : ∀ (out : List (List UInt8)) (f : Nat), out.length + ps.length ≤ 400 → (∀ p ∈ ps, p ≠ [] ∧ p.length ≤ 200) → (frames out.length ps).length ≤ f → rdG f (frames out.length ps ++ x) out = ([], 5) := by
  have hxp : 0 < x.length := List.length_pos_iff.2 hx
  induction ps with
  | nil =>
    intro out f hn _ hf
    have hp := frame_pos out.length []
    simp only [frames] at hf ⊢
    obtain ⟨f, rfl⟩ : ∃ f', f = f' + 1 := ⟨f - 1, by omega⟩
    have h := rdF_show out.length [] x (by simpa using hn) (by simp)
    rw [rdG_last f _ out out.length _ (frame_ne _ _ _) h rfl, if_pos (by rw [List.length_append]; omega)]
  | cons p r ih =>
    intro out f hn hok hf
    obtain ⟨hp1, hp2⟩ := hok p (by simp)
    have hp := frame_pos out.length p
    simp only [frames] at hf ⊢
    rw [List.length_append] at hf
    rw [List.length_cons] at hn
    obtain ⟨f, rfl⟩ : ∃ f', f = f' + 1 := ⟨f - 1, by omega⟩
    have h := rdF_show out.length p (frames (out.length + 1) r ++ x) (by omega) hp2
    rw [List.append_assoc, rdG_step f _ out out.length p _ (frame_ne _ _ _) h rfl hp1, List.drop_left]
    have e : out.length + 1 = (out ++ [p]).length := by simp
    rw [e]
    rw [e] at hf
    exact ih (out ++ [p]) f (by simp; omega) (fun y hy => hok y (by simp [hy])) (by omega)

theorem rdL_more (ps : List (List UInt8)) (x : List UInt8) (hx : x ≠ []) (h : okL ps) : rdL (showL ps ++ x) = ([], 5) := by
  rw [showL_in ps h, List.append_assoc, rdL_magic]
  exact frames_more ps x hx [] _ (by simpa using h.1) h.2 (by rw [List.length_append]; simp)
theorem rdL_nil : rdL [] = ([], 1) := rfl

end Go.Proofs.YtcjpepdagnifiaaDoor

namespace Go.Proofs.YtcjpepdagnifiaaDoor

/-- The frames of payloads, numbered from i on, without a last one. -/
def fr : Nat → List (List UInt8) → List UInt8
  | _, [] => []
  | i, p :: r => frame i p ++ fr (i + 1) r
theorem frames_fr (ps : List (List UInt8)) : ∀ i, frames i ps = fr i ps ++ frame (i + ps.length) [] := by
  induction ps with
  | nil => intro i; simp [frames, fr]
  | cons p r ih => intro i; simp only [frames, fr, ih (i + 1), List.append_assoc, List.length_cons]; rw [show i + 1 + r.length = i + (r.length + 1) from by omega]
theorem fr_snoc (ps : List (List UInt8)) (p : List UInt8) : ∀ i, fr i (ps ++ [p]) = fr i ps ++ frame (i + ps.length) p := by
  induction ps with
  | nil => intro i; simp [fr]
  | cons x r ih => intro i; simp only [List.cons_append, fr, ih (i + 1), List.append_assoc, List.length_cons]; rw [show i + 1 + r.length = i + (r.length + 1) from by omega]
theorem fr_take (ps : List (List UInt8)) (j : Nat) (h : j < ps.length) : fr 0 (ps.take (j + 1)) = fr 0 (ps.take j) ++ frame j ps[j] := by
  rw [List.take_succ_eq_append_getElem h, fr_snoc, List.length_take, Nat.min_eq_left (by omega), Nat.zero_add]
/-- What ShowLog has made when j payloads are in. -/
def logTo (ps : List (List UInt8)) (j : Nat) : List UInt8 := magic ++ fr 0 (ps.take j)
theorem logTo_zero (ps : List (List UInt8)) : logTo ps 0 = magic := by simp [logTo, fr]
theorem logTo_succ (ps : List (List UInt8)) (j : Nat) (h : j < ps.length) : logTo ps (j + 1) = logTo ps j ++ frame j ps[j] := by
  unfold logTo; rw [fr_take ps j h, List.append_assoc]
theorem logTo_all (ps : List (List UInt8)) (h : okL ps) : logTo ps ps.length ++ frame ps.length [] = showL ps := by
  rw [showL_in ps h, frames_fr, logTo, List.take_length, List.append_assoc, Nat.zero_add]
/-- The first j payloads are as they should be. -/
def okTo (ps : List (List UInt8)) (j : Nat) : Prop := ∀ i (h : i < ps.length), i < j → ps[i] ≠ [] ∧ ps[i].length ≤ 200
theorem okTo_zero (ps : List (List UInt8)) : okTo ps 0 := fun i _ h => absurd h (by omega)
theorem okTo_succ (ps : List (List UInt8)) (j : Nat) (hj : j < ps.length) (h : okTo ps j) (h1 : ps[j] ≠ []) (h2 : ps[j].length ≤ 200) : okTo ps (j + 1) := by
  intro i hi hlt
  rcases Nat.lt_or_ge i j with h3 | h3
  · exact h i hi h3
  · obtain rfl : i = j := by omega
    exact ⟨h1, h2⟩
theorem okL_all (ps : List (List UInt8)) (h4 : ps.length ≤ 400) (h : okTo ps ps.length) : okL ps := by
  refine ⟨h4, fun p hp => ?_⟩
  obtain ⟨i, hi, rfl⟩ := List.getElem_of_mem hp
  exact h i hi hi
theorem okL_not (ps : List (List UInt8)) (j : Nat) (hj : j < ps.length) (h : ps[j] = [] ∨ 200 < ps[j].length) : showL ps = [] := by
  refine showL_out ps (fun ho => ?_)
  have h1 := ho.2 ps[j] (List.getElem_mem hj)
  rcases h with h | h
  · exact h1.1 h
  · omega
theorem okL_many (ps : List (List UInt8)) (h : 400 < ps.length) : showL ps = [] := showL_out ps (fun ho => by have := ho.1; omega)
theorem fr_length (ps : List (List UInt8)) : ∀ i, (∀ p ∈ ps, p.length ≤ 200) → (fr i ps).length ≤ 218 * ps.length := by
  induction ps with
  | nil => intro i _; simp [fr]
  | cons p r ih =>
    intro i h
    have h1 := ih (i + 1) (fun x hx => h x (List.mem_cons_of_mem _ hx))
    have h2 := frame_le i p
    have h3 := h p (List.mem_cons_self ..)
    simp only [fr, List.length_append, List.length_cons]
    omega
theorem logTo_length (ps : List (List UInt8)) (j : Nat) (hj : j ≤ ps.length) (h4 : ps.length ≤ 400) (h : okTo ps j) : (logTo ps j).length ≤ 87205 := by
  have h1 := fr_length (ps.take j) 0 (fun p hp => by
    obtain ⟨i, hi, rfl⟩ := List.getElem_of_mem hp
    rw [List.length_take] at hi
    rw [List.getElem_take]
    exact (h i (by omega) (by omega)).2)
  have h5 : magic.length = 5 := rfl
  rw [List.length_take] at h1
  unfold logTo
  rw [List.length_append]
  omega

end Go.Proofs.YtcjpepdagnifiaaDoor

namespace Go.Proofs.YtcjpepdagnifiaaDoor

/-- Where the frames end that l has ahead, l standing at place p. -/
def spG : Nat → List UInt8 → Nat → List Nat
  | 0, _, _ => []
  | f + 1, l, p =>
    if l = [] then []
    else match rdF l with
      | none => []
      | some (_, _, k) => (p + k) :: spG f (l.drop k) (p + k)
/-- What FrameSpots tells. -/
def spots (l : List UInt8) : List Nat := if l.take 5 = magic then 5 :: spG l.length (l.drop 5) 5 else []

theorem spG_nil (f p : Nat) : spG f [] p = [] := by cases f <;> simp [spG]
theorem spG_none (f : Nat) (l : List UInt8) (p : Nat) (h : rdF l = none) : spG f l p = [] := by
  cases f with
  | zero => rfl
  | succ f => simp only [spG, h]; split <;> rfl
theorem spG_step (f : Nat) (l : List UInt8) (p q : Nat) (t : List UInt8) (k : Nat) (hl : l ≠ []) (h : rdF l = some (q, t, k)) : spG (f + 1) l p = (p + k) :: spG f (l.drop k) (p + k) := by simp only [spG, if_neg hl, h]
theorem spG_fuel : ∀ (f g : Nat) (l : List UInt8) (p : Nat), l.length ≤ f → l.length ≤ g → spG f l p = spG g l p := by
  intro f
  induction f with
  | zero =>
    intro g l p hf hg
    obtain rfl : l = [] := List.eq_nil_of_length_eq_zero (by omega)
    rw [spG_nil, spG_nil]
  | succ f ih =>
    intro g l p hf hg
    by_cases hl : l = []
    · subst hl; rw [spG_nil, spG_nil]
    · have hlp : 0 < l.length := List.length_pos_iff.2 hl
      obtain ⟨g, rfl⟩ : ∃ g', g = g' + 1 := ⟨g - 1, by omega⟩
      cases h : rdF l with
      | none => rw [spG_none _ l p h, spG_none _ l p h]
      | some x =>
        obtain ⟨q, t, k⟩ := x
        have hk := rdF_pos l q t k h
        rw [spG_step f l p q t k hl h, spG_step g l p q t k hl h, ih g _ _ (by rw [List.length_drop]; omega) (by rw [List.length_drop]; omega)]
theorem spots_magic (l : List UInt8) : spots (magic ++ l) = 5 :: spG l.length l 5 := by
  unfold spots
  rw [show (magic ++ l).take 5 = magic from rfl, if_pos rfl, show (magic ++ l).drop 5 = l from rfl]
  rw [spG_fuel (magic ++ l).length l.length l 5 (by rw [List.length_append]; omega) (Nat.le_refl _)]

/-- Where the frames of payloads end. -/
def offs : Nat → Nat → List (List UInt8) → List Nat
  | p, i, [] => [p + (frame i []).length]
  | p, i, x :: r => (p + (frame i x).length) :: offs (p + (frame i x).length) (i + 1) r

theorem offs_length (ps : List (List UInt8)) : ∀ p i, (offs p i ps).length = ps.length + 1 := by
  induction ps with
  | nil => intro p i; rfl
  | cons x r ih => intro p i; simp [offs, ih]

theorem spG_frames (ps : List (List UInt8)) : ∀ (p i f : Nat), i + ps.length ≤ 400 → (∀ x ∈ ps, x ≠ [] ∧ x.length ≤ 200) → (frames i ps).length ≤ f → spG f (frames i ps) p = offs p i ps := by
  induction ps with
  | nil =>
    intro p i f hn _ hf
    have hp := frame_pos i []
    simp only [frames, offs] at hf ⊢
    obtain ⟨f, rfl⟩ : ∃ f', f = f' + 1 := ⟨f - 1, by omega⟩
    have h := rdF_show i [] [] (by simpa using hn) (by simp)
    have hne := frame_ne i [] []
    rw [List.append_nil] at h hne
    rw [spG_step f _ p i [] _ hne h, List.drop_length, spG_nil]
  | cons x r ih =>
    intro p i f hn hok hf
    obtain ⟨hp1, hp2⟩ := hok x (by simp)
    have hp := frame_pos i x
    simp only [frames, offs] at hf ⊢
    rw [List.length_append] at hf
    rw [List.length_cons] at hn
    obtain ⟨f, rfl⟩ : ∃ f', f = f' + 1 := ⟨f - 1, by omega⟩
    have h := rdF_show i x (frames (i + 1) r) (by omega) hp2
    rw [spG_step f _ p i x _ (frame_ne _ _ _) h, List.drop_left, ih _ (i + 1) f (by omega) (fun y hy => hok y (by simp [hy])) (by omega)]

theorem spots_show (ps : List (List UInt8)) (h : okL ps) : spots (showL ps) = 5 :: offs 5 0 ps := by
  rw [showL_in ps h, spots_magic, spG_frames ps 5 0 _ (by simpa using h.1) h.2 (Nat.le_refl _)]

/-- Frame j of frames that stand at place p of S. -/
theorem offs_at (S : List UInt8) (ps : List (List UInt8)) : ∀ (p i j : Nat), S.drop p = frames i ps → j ≤ ps.length →
    S.drop ((p :: offs p i ps).getD j 0) = frames (i + j) (ps.drop j) ∧ (p :: offs p i ps).getD (j + 1) 0 = (p :: offs p i ps).getD j 0 + (frame (i + j) (ps.getD j [])).length := by
  induction ps with
  | nil =>
    intro p i j hS hj
    obtain rfl : j = 0 := by simpa using hj
    exact ⟨by simpa using hS, by simp [offs]⟩
  | cons x r ih =>
    intro p i j hS hj
    cases j with
    | zero => exact ⟨by simpa using hS, by simp [offs]⟩
    | succ j =>
      have hS2 : S.drop (p + (frame i x).length) = frames (i + 1) r := by
        rw [← List.drop_drop, hS]; exact List.drop_left
      have h := ih (p + (frame i x).length) (i + 1) j hS2 (by simpa using hj)
      rw [show i + 1 + j = i + (j + 1) from by omega] at h
      simpa [offs] using h

theorem offs_last (ps : List (List UInt8)) : ∀ (p i : Nat), (p :: offs p i ps).getD (ps.length + 1) 0 = p + (frames i ps).length := by
  induction ps with
  | nil => intro p i; simp [offs, frames]
  | cons x r ih =>
    intro p i
    have h := ih (p + (frame i x).length) (i + 1)
    simp only [offs, frames, List.length_cons, List.length_append]
    rw [List.getD_cons_succ, h]
    omega

theorem frames_head (ps : List (List UInt8)) (i j : Nat) (hj : j ≤ ps.length) : ∃ r, frames i (ps.drop j) = frame i (ps.getD j []) ++ r := by
  by_cases h : j < ps.length
  · rw [List.drop_eq_getElem_cons h, List.getD_eq_getElem?_getD, List.getElem?_eq_getElem h]
    exact ⟨_, rfl⟩
  · rw [List.drop_eq_nil_of_le (by omega), List.getD_eq_getElem?_getD, List.getElem?_eq_none (by omega)]
    exact ⟨[], by simp [frames]⟩

/-- What the law asks of the spots of a log. -/
theorem spots_read (ps : List (List UInt8)) (h : okL ps) : (spots (showL ps)).length = ps.length + 2 ∧ (spots (showL ps)).getD (ps.length + 1) 0 = (showL ps).length ∧
    ∀ j, j ≤ ps.length → (spots (showL ps)).getD j 0 ≤ (spots (showL ps)).getD (j + 1) 0 ∧ (spots (showL ps)).getD (j + 1) 0 ≤ (showL ps).length ∧
      rdF ((showL ps).drop ((spots (showL ps)).getD j 0)) = some (j, ps.getD j [], (spots (showL ps)).getD (j + 1) 0 - (spots (showL ps)).getD j 0) := by
  rw [spots_show ps h]
  have hS : (showL ps).drop 5 = frames 0 ps := by rw [showL_in ps h]; rfl
  have hL : (showL ps).length = 5 + (frames 0 ps).length := by rw [showL_in ps h, List.length_append]; rfl
  refine ⟨by simp [offs_length], by rw [offs_last, hL], ?_⟩
  intro j hj
  obtain ⟨h1, h2⟩ := offs_at (showL ps) ps 5 0 j hS hj
  obtain ⟨r, hr⟩ := frames_head ps (0 + j) j hj
  rw [hr] at h1
  have hp : (ps.getD j []).length ≤ 200 := by
    by_cases hlt : j < ps.length
    · rw [List.getD_eq_getElem?_getD, List.getElem?_eq_getElem hlt]
      exact (h.2 _ (List.getElem_mem hlt)).2
    · rw [List.getD_eq_getElem?_getD, List.getElem?_eq_none (by omega)]; simp
  have hjj : 0 + j = j := by omega
  rw [hjj] at h1 h2
  have h3 := rdF_show j (ps.getD j []) r (by have := h.1; omega) hp
  have hlen := congrArg List.length h1
  rw [List.length_drop, List.length_append] at hlen
  have hf := frame_pos j (ps.getD j [])
  refine ⟨by omega, by omega, ?_⟩
  rw [h1, h3, h2]
  simp

end Go.Proofs.YtcjpepdagnifiaaDoor

namespace Go.Proofs.YtcjpepdagnifiaaDoor
open Go.RowKit
set_option linter.unusedVariables false

theorem sFixed4_calls (n : Nat) (w : World) (hn : n < 4294967296) :
    Calls Tryd.prog 84 #[.int .i64 (n : Int), .int .i64 4] w fun e w' => e = .returned (.string (txt (low n 4))) ∧ Below w.heap.size w w' := by
  have h := sFixed_yes n 4 w (by omega) (by omega) (by omega)
  have hz : sh n 4 = 0 := by unfold sh; exact Nat.div_eq_of_lt (by omega)
  rw [if_pos hz] at h
  exact h

theorem sCrcN_calls (l : List UInt8) (w : World) (hs : l.length ≤ 2097152) :
    Calls Tryd.prog 85 #[.string (txt l)] w fun e w' => e = .returned (.int .i64 (crcN l : Int)) ∧ w' = w := by
  have h := sCrc_calls (txt l) w hs
  rw [show (txt l).data.toList = l from rfl] at h
  unfold crcV at h
  rw [crcN_int] at h
  exact h

theorem sShowFrame_calls (q : Int) (p : List UInt8) (w : World) (hp : p.length ≤ 1048576) :
    Calls Tryd.prog 66 #[.int .i64 q, .string (txt p)] w fun e w' => e = .returned (.string (txt (showF q p))) ∧ Below w.heap.size w w' := by
  have hps : (txt p).size = p.length := rfl
  by_cases hq : q < 0 ∨ 400 < q
  · have HE : Hid (showF q p = []) := showF_out q p (by omega)
    have CI : Hid (∀ X, _) := fun X => l1In_no q 0 400 X hq
    clear hq
    go_enter Tryd.func66, Tryd.ntmps66
    go_wp2_with (go_at_call 74; refine (CI.out _).mono ?_; rintro e w' ⟨rfl, rfl⟩)
    go_ret
    exact ⟨ret_str (by rw [HE.out]; rfl), Below.refl _ _⟩
  · have h0 : 0 ≤ q := by omega
    have h4 : q ≤ 400 := by omega
    have CI : Hid (∀ X, _) := fun X => l1In_yes q 0 400 X h0 h4
    by_cases hl : 200 < p.length
    · have HE : Hid (showF q p = []) := showF_out q p (by omega)
      go_enter Tryd.func66, Tryd.ntmps66
      go_wp2_with (go_at_call 74; refine (CI.out _).mono ?_; rintro e w' ⟨rfl, rfl⟩)
      go_ret
      exact ⟨ret_str (by rw [HE.out]; rfl), Below.refl _ _⟩
    · obtain ⟨n, rfl⟩ := Int.eq_ofNat_of_zero_le h0
      have hl2 : p.length ≤ 200 := by omega
      have HE : Hid (showF (n : Int) p = frame n p) := showF_in n p (by omega) hl2
      have HF : Hid (frame n p = fbody n p ++ low (crcN (fbody n p)) 4) := rfl
      have z1 : (txt (varB 6 n)).size ≤ 7 := varB_length 6 n
      have z2 : (txt (varB 6 p.length)).size ≤ 7 := varB_length 6 p.length
      have z3 : (txt (varB 6 n ++ varB 6 p.length)).size ≤ 14 := by rw [txt_size, List.length_append]; rw [txt_size] at z1 z2; omega
      have z4 : (txt (fbody n p)).size ≤ 214 := by rw [txt_size] at *; unfold fbody; rw [List.length_append]; omega
      have z5 : (txt (low (crcN (fbody n p)) 4)).size = 4 := by rw [txt_size, low_length]
      have A1 := txt_append (varB 6 n) (varB 6 p.length)
      have A2 : txt (varB 6 n ++ varB 6 p.length) ++ txt p = txt (fbody n p) := txt_append _ _
      have A3 := txt_append (fbody n p) (low (crcN (fbody n p)) 4)
      have hb := crcN_lt (fbody n p)
      have CC : Hid (∀ X, _) := fun X => sCrcN_calls (fbody n p) X (by rw [txt_size] at z4; omega)
      generalize fbody n p = T at *
      generalize crcN T = c at *
      go_enter Tryd.func66, Tryd.ntmps66
      go_wp2_with fail
      refine (CI.out _).mono ?_
      rintro e w0 ⟨rfl, rfl⟩
      go_wp2_with fail
      refine (sVar_yes n _ (by omega)).mono ?_
      rintro e w1 ⟨rfl, b1⟩
      go_wp2_with fail
      refine (sVar_yes p.length _ (by omega)).mono ?_
      rintro e w2 ⟨rfl, b2⟩
      have B2 := b1.trans (b2.mono b1.size)
      go_wp2_with fail
      refine (CC.out _).mono ?_
      rintro e w3 ⟨rfl, rfl⟩
      go_wp2_with fail
      refine (sFixed4_calls c _ hb).mono ?_
      rintro e w4 ⟨rfl, b4⟩
      have B4 := B2.trans (b4.mono B2.size)
      go_wp2
      go_ret
      exact ⟨ret_str (by rw [HE.out, HF.out]), B4⟩

/-- What ReadFrame answers, of what is told. -/
def ansF : Option (Nat × List UInt8 × Nat) → Array Value
  | none => #[.int .i64 0, .string (txt []), .int .i64 0]
  | some (q, t, k) => #[.int .i64 (q : Int), .string (txt t), .int .i64 (k : Int)]

theorem sReadVar_l (l : List UInt8) (c k : Nat) (w : World) (hs : l.length ≤ 1048576) (hv : rdv l = (c, k)) :
    Calls Tryd.prog 27 #[.string (txt l)] w fun e w' => e = .returned (.tuple #[.int .i64 (c : Int), .int .i64 (k : Int)]) ∧ Below w.heap.size w w' := by
  have h := sReadVar_calls (txt l) w hs
  rw [show (txt l).data.toList = l from rfl, hv] at h
  exact h

theorem extract_txt (l : List UInt8) (x y : Nat) : (txt l).extract x y = txt ((l.drop x).take (y - x)) := ByteArray.extract_mk l x y
theorem extract_from (l : List UInt8) (x : Nat) : (txt l).extract x l.length = txt (l.drop x) := by
  rw [extract_txt, List.take_of_length_le (by rw [List.length_drop]; omega)]
theorem extract_to (l : List UInt8) (y : Nat) : (txt l).extract 0 y = txt (l.take y) := by rw [extract_txt]; simp

theorem ret_isi {a b c : Int} {s : ByteArray} (h : b = c) : Ending.returned (.tuple #[.int .i64 a, .string s, .int .i64 b]) = .returned (.tuple #[.int .i64 a, .string s, .int .i64 c]) := by rw [h]

theorem rdv_parts (l : List UInt8) (q a : Nat) (h : rdv l = (q, a)) : q ≤ 562949953421311 ∧ a ≤ l.length := by
  rcases rdv_sound l with h1 | h1
  · by_cases hk : ∃ k, 1 ≤ k ∧ k ≤ 7 ∧ k ≤ l.length ∧ tst l k = true
    · obtain ⟨k, k1, k7, kl, kt⟩ := hk
      rw [rdv_hit l k k1 k7 kl kt] at h1
      simp only at h1
      omega
    · have hz := rdv_none l (fun k k1 k7 kl => by
        cases ht : tst l k with
        | false => rfl
        | true => exact absurd ⟨k, k1, k7, kl, ht⟩ hk)
      rw [hz] at h
      simp only [Prod.mk.injEq] at h
      omega
  · rw [h] at h1
    exact ⟨h1.2.2.1, h1.2.1⟩

end Go.Proofs.YtcjpepdagnifiaaDoor

namespace Go.Proofs.YtcjpepdagnifiaaDoor
open Go.RowKit
set_option linter.unusedVariables false

def ints (l : List Nat) : List Int := l.map Int.ofNat
theorem ints_length (l : List Nat) : (ints l).length = l.length := by simp [ints]
theorem ints_snoc (l : List Nat) (n : Nat) : ints l ++ [(n : Int)] = ints (l ++ [n]) := by simp [ints]

theorem sp_step (l : List UInt8) (p q : Nat) (t : List UInt8) (k : Nat) (hp : p < l.length) (h : rdF (l.drop p) = some (q, t, k)) : spG l.length (l.drop p) p = (p + k) :: spG l.length (l.drop (p + k)) (p + k) := by
  obtain ⟨f, hf⟩ : ∃ f, l.length = f + 1 := ⟨l.length - 1, by omega⟩
  have hk := rdF_pos _ _ _ _ h
  have hne : l.drop p ≠ [] := by
    intro he
    have := congrArg List.length he
    rw [List.length_drop, List.length_nil] at this
    omega
  have e := spG_step f (l.drop p) p q t k hne h
  rw [← hf, List.drop_drop] at e
  rw [e, spG_fuel f l.length _ _ (by rw [List.length_drop]; omega) (by rw [List.length_drop]; omega)]
theorem sp_end (l : List UInt8) (p : Nat) (hp : l.length ≤ p) : spG l.length (l.drop p) p = [] := by rw [List.drop_eq_nil_of_le hp, spG_nil]

theorem magic_test (l : List UInt8) : ((txt (l.take 5)).toList == [72, 76, 79, 71, 1]) = decide (l.take 5 = magic) := by
  unfold txt
  rw [ByteArray.toList_mk]
  by_cases h : l.take 5 = magic
  · rw [h]; rfl
  · rw [decide_eq_false h, beq_eq_false_iff_ne]; exact h

theorem sMagic_calls (w : World) : Calls Tryd.prog 65 #[] w fun e w' => e = .returned (.string { data := #[72, 76, 79, 71, 1] }) ∧ w' = w := by
  go_enter Tryd.func65, Tryd.ntmps65
  go_wp2
  go_ret
  exact ⟨rfl, rfl⟩

end Go.Proofs.YtcjpepdagnifiaaDoor

namespace Go.Proofs.YtcjpepdagnifiaaDoor
open Go.RowKit
set_option linter.unusedVariables false

set_option maxHeartbeats 1000000 in
theorem sShowLog_calls (w : World) (a : Option Addr) (cap : Nat) (zs : List (List UInt8)) (h : RdS w a zs) (hn : zs.length ≤ 16777216) (hz : ∀ z ∈ zs, z.length ≤ 1048576) :
    Calls Tryd.prog 42 #[.slice a zs.length cap] w fun e w' => e = .returned (.string (txt (showL zs))) ∧ Below w.heap.size w w' := by
  have HA : Hid (RdS w a zs) := h
  have HZ : Hid (∀ (j : Nat) (h : j < zs.length), zs[j].length ≤ 1048576) := fun j h => hz _ (List.getElem_mem h)
  by_cases h4 : 400 < zs.length
  · have HE : Hid (showL zs = []) := okL_many zs h4
    clear h hz HA HZ
    generalize zs.length = n at *
    go_enter Tryd.func42, Tryd.ntmps42
    go_wp2
    go_ret
    exact ⟨ret_str (by rw [HE.out]; rfl), Below.refl _ _⟩
  · have LZ : Hid (logTo zs 0 = magic) := logTo_zero zs
    have OZ : Hid (okTo zs 0) := okTo_zero zs
    have LS : Hid (∀ (j : Nat) (h : j < zs.length), logTo zs (j + 1) = logTo zs j ++ frame j zs[j]) := logTo_succ zs
    have OS : Hid (∀ (j : Nat) (h : j < zs.length), okTo zs j → zs[j] ≠ [] → zs[j].length ≤ 200 → okTo zs (j + 1)) := okTo_succ zs
    have ON : Hid (∀ (j : Nat) (h : j < zs.length), zs[j] = [] ∨ 200 < zs[j].length → showL zs = []) := okL_not zs
    have LA : Hid (okTo zs zs.length → logTo zs zs.length ++ frame zs.length [] = showL zs) := fun ho => logTo_all zs (okL_all zs (by omega) ho)
    have LL : Hid (∀ j, j ≤ zs.length → okTo zs j → (logTo zs j).length ≤ 87205) := fun j hj ho => logTo_length zs j hj (by omega) ho
    have h40 : zs.length ≤ 400 := by omega
    obtain ⟨n, hnn⟩ : ∃ n, zs.length = n := ⟨_, rfl⟩
    have Hn : Hid (zs.length = n) := hnn
    rw [hnn] at h4 h40 hn LA LL ⊢
    clear h hz hnn
    go_enter Tryd.func42, Tryd.ntmps42
    go_wp2_with fail
    refine (sMagic_calls _).mono ?_
    rintro e w1 ⟨rfl, rfl⟩
    go_wp2
    go_loopw [3, 4] (fun s i wr => ∃ j : Nat, j ≤ n ∧ i = .int .i64 (j : Int) ∧ s = .string (txt (logTo zs j)) ∧ Hid (okTo zs j) ∧ Below w1.heap.size w1 wr) (fun _ i _ => n - (intOf i).toNat)
    case atStart => exact ⟨0, by omega, rfl, by rw [LZ.out]; rfl, OZ, Below.refl _ _⟩
    case round =>
      obtain ⟨j, hj, rfl, rfl, HO, hb⟩ := hrel
      by_cases hlt : j < n
      · have hj2 : j < zs.length := by have := Hn.out; omega
        obtain ⟨g, off, rfl, hg, hc1⟩ := HA.out j hj2
        rw [← hb.cell (p := ⟨g, off + j, none⟩) hg] at hc1
        by_cases he : zs[j] = []
        · have HE : Hid (showL zs = []) := ON.out j hj2 (.inl he)
          have hc2 : wr.cell? ⟨g, off + j, none⟩ = some (.string ⟨#[]⟩) := by rw [hc1, he]; rfl
          clear he hc1
          go_wp2
          go_ret
          exact ⟨ret_str (by rw [HE.out]; rfl), hb⟩
        · have hz1 : ((txt zs[j]).toList == []) = false := by
            rw [beq_eq_false_iff_ne]; unfold txt; rw [ByteArray.toList_mk]; exact he
          have hsz : (txt zs[j]).size = zs[j].length := rfl
          by_cases hl : 200 < zs[j].length
          · have HE : Hid (showL zs = []) := ON.out j hj2 (.inr hl)
            clear he
            generalize zs[j] = z at *
            go_wp2
            go_ret
            exact ⟨ret_str (by rw [HE.out]; rfl), hb⟩
          · have h20 : zs[j].length ≤ 200 := by omega
            have HO2 : Hid (okTo zs (j + 1)) := OS.out j hj2 HO.out he h20
            have HL2 : Hid (_ = _) := LS.out j hj2
            have z1 : (txt (logTo zs j)).size ≤ 87205 := LL.out j hj HO.out
            have z2 : (txt (showF (j : Int) zs[j])).size ≤ 218 := showF_length _ _
            have HF : Hid (showF (j : Int) zs[j] = frame j zs[j]) := showF_in j zs[j] (by omega) h20
            have CF : Hid (∀ X, _) := fun X => sShowFrame_calls (j : Int) zs[j] X (by omega)
            have A1 := txt_append (logTo zs j) (showF (j : Int) zs[j])
            rw [HF.out] at z2 CF A1
            clear he
            generalize zs[j] = z at *
            generalize frame j z = fz at *
            go_wp2_with fail
            refine (CF.out _).mono ?_
            rintro e w2 ⟨rfl, b2⟩
            have B2 := hb.trans (b2.mono hb.size)
            go_wp2
            go_roundw
            case rel => exact ⟨j + 1, by omega, by go_num, by rw [HL2.out], HO2, B2⟩
            case measure => simp [intOf]; omega
      · obtain rfl : j = n := by omega
        have HE : Hid (_ = _) := LA.out HO.out
        have z1 : (txt (logTo zs j)).size ≤ 87205 := LL.out j hj HO.out
        have z2 : (txt (showF (j : Int) [])).size ≤ 218 := showF_length _ _
        have HF : Hid (showF (j : Int) [] = frame j []) := showF_in j [] (by omega) (by simp)
        have CF : Hid (∀ X, _) := fun X => sShowFrame_calls (j : Int) [] X (by simp)
        have A1 := txt_append (logTo zs j) (showF (j : Int) [])
        rw [HF.out] at z2 CF A1
        generalize frame j [] = fz at *
        go_wp2_with fail
        refine (CF.out _).mono ?_
        rintro e w2 ⟨rfl, b2⟩
        have B2 := hb.trans (b2.mono hb.size)
        go_wp2
        go_ret
        exact ⟨ret_str (by rw [HE.out]), B2⟩

end Go.Proofs.YtcjpepdagnifiaaDoor

namespace Go.Proofs.YtcjpepdagnifiaaDoor
open Go.RowKit
set_option linter.unusedVariables false
set_option maxRecDepth 100000

set_option maxHeartbeats 2000000 in
theorem sEncode_calls (w : World) (a : Option Addr) (cap : Nat) (os : List OpD) (b : Option Addr) (cap2 : Nat) (zs : List AnsD) (h1 : RdQ w a os) (h2 : RdY w b zs) (hn : os.length ≤ 1048576) (hm : zs.length ≤ 1048576) (so : ∀ o ∈ os, SaneOp o ∧ o.site.length ≤ 1048576) (sz : ∀ z ∈ zs, SaneA z ∧ z.freed.length ≤ 1048576) (T : List UInt8) (hT : EncT os zs T showL) :
    Calls Tryd.prog 18 #[.slice a os.length cap, .slice b zs.length cap2] w fun e w' => e = .returned (.string (txt T)) ∧ Below w.heap.size w w' := by
  by_cases hlen : os.length = zs.length
  case neg =>
    have h0 := hT.len hlen
    subst h0
    have hne : ((os.length : Int) != (zs.length : Int)) = true := by rw [bne_iff_ne]; omega
    generalize os.length = n at *
    generalize zs.length = m at *
    clear h1 h2
    go_enter Tryd.func18, Tryd.ntmps18
    go_wp2
    go_ret
    exact ⟨rfl, Below.refl _ _⟩
  case pos =>
  by_cases h400 : 400 ≤ os.length
  · have h0 := hT.many h400
    subst h0
    have hge : (400 : Int) ≤ (os.length : Int) := by omega
    have hne : ((os.length : Int) != (zs.length : Int)) = false := by rw [hlen]; simp
    rw [← hlen] at hne ⊢
    generalize os.length = n at *
    clear h1 h2 hT hlen
    go_enter Tryd.func18, Tryd.ntmps18
    go_wp2
    go_ret
    exact ⟨rfl, Below.refl _ _⟩
  have HA : Hid (∀ X, Below w.heap.size w X → RdQ X a os) := fun X hX => rdQ_later h1 hX
  have HC : Hid (∀ X, Below w.heap.size w X → RdY X b zs) := fun X hX => rdY_later h2 hX
  have HT : Hid (EncT os zs T showL) := hT
  have HSO : Hid (∀ o ∈ os, SaneOp o ∧ o.site.length ≤ 1048576) := so
  have HSZ : Hid (∀ z ∈ zs, SaneA z ∧ z.freed.length ≤ 1048576) := sz
  have CL : Hid (∀ (X : World) (p : Option Addr) (k : Nat) (ts : List (List UInt8)), RdS X p ts → ts.length ≤ 16777216 → (∀ t ∈ ts, t.length ≤ 1048576) → _) := fun X p k ts h1 h2 h3 => sShowLog_calls X p k ts h1 h2 h3
  obtain ⟨n, hnn⟩ : ∃ n, os.length = n := ⟨_, rfl⟩
  have Hn : Hid (os.length = n) := hnn
  have Hm : Hid (zs.length = n) := hlen.symm.trans hnn
  rw [hnn] at h400 ⊢
  rw [Hm.out]
  have h4 : n < 400 := by omega
  have h4i : (n : Int) < 400 := by omega
  have h4n : ¬ ((400 : Int) ≤ (n : Int)) := by omega
  clear h1 h2 hT so sz hnn hlen hn hm h400
  obtain ⟨V, hV⟩ : ∃ V, V = (w.alloc (.cells #[.int .i64 0, .slice none 0 0] 31)).alloc (.cells #[] 9) := ⟨_, rfl⟩
  have HS0 : Hid (ES w w.heap.size ⟨0, []⟩ [] none 0 (some ⟨w.heap.size + 1, 0, none⟩) 0 0 V) := by
    have hb1 : Below w.heap.size w (w.alloc (.cells #[.int .i64 0, .slice none 0 0] 31)) := (Below.refl _ _).alloc (Nat.le_refl _) _
    have sz1 : (w.alloc (.cells #[.int .i64 0, .slice none 0 0] 31)).heap.size = w.heap.size + 1 := by simp
    rw [hV]
    refine ⟨(Two.new w _ _).later ((Below.refl _ _).alloc (Nat.le_refl _) _), ownS_nil _ _, ?_, fun g _ h => (by simp [Value.ownBlock] at h), hb1.alloc (by omega) _, Nat.le_refl _⟩
    rw [← sz1]
    exact ownS_new _ _ (by omega)
  go_enter Tryd.func18, Tryd.ntmps18
  go_wp2
  rw [← hV]
  clear hV
  go_loopw [6, 7] (fun out i wr => ∃ (j : Nat) (P : PenD) (ts : List (List UInt8)) (x : Option Addr) (c : Nat) (y : Option Addr) (k : Nat), out = .slice y j k ∧ i = .int .i64 (j : Int) ∧ j ≤ n ∧ Hid (EncR os zs j P ts) ∧ Hid (ES w w.heap.size P ts x c y j k wr)) (fun _ i _ => n - (intOf i).toNat)
  case atStart => exact ⟨0, ⟨0, []⟩, [], none, 0, some ⟨w.heap.size + 1, 0, none⟩, 0, rfl, rfl, Nat.zero_le _, ⟨rfl, rfl⟩, HS0⟩
  case round =>
    obtain ⟨j, P, ts, x, c, y, k, rfl, rfl, hj, HR, HS⟩ := hrel
    clear HS0
    have HWS : Hid (w.heap.size ≤ wr.heap.size) := HS.out.bel.size
    by_cases hlt : j < n
    · have hj1 : j < os.length := by have := Hn.out; omega
      have hj2 : j < zs.length := by have := Hm.out; omega
      obtain ⟨ga, oa, rfl, hga, hoa⟩ := HA.out wr HS.out.bel j hj1
      obtain ⟨gb, ob, fb, cb, rfl, hgb, hob, hfb⟩ := HC.out wr HS.out.bel j hj2
      have hsm := small_names HR.out (by omega)
      obtain ⟨hso, hsite⟩ := HSO.out os[j] (List.getElem_mem hj1)
      obtain ⟨hsz, hfl⟩ := HSZ.out zs[j] (List.getElem_mem hj2)
      obtain ⟨q, hq⟩ := bool_of (EvR P os[j] zs[j])
      have HNO : Hid (q = false → T = []) := fun e => HT.out.no (by have := Hn.out; have := Hm.out; omega) j hj1 hj2 P ts HR.out (fun h => by rw [hq.2 h] at e; cases e)
      have HYES : Hid (q = true → EncR os zs (j + 1) (penB P os[j]) (ts ++ [evT P os[j] zs[j]]) ∧ evT P os[j] zs[j] ≠ []) := fun e => ⟨⟨P, ts, hj1, hj2, HR.out, hq.1 e, rfl, rfl⟩, evT_some (hq.1 e)⟩
      have HP : Hid (∀ X, Below wr.heap.size wr X → RdP X (.agg #[.int .i64 P.last, .slice x P.sites.length c]) P) := fun X hX => by
        obtain ⟨y', c', e, hr⟩ := rdS_own (row_later HS.out.nm hX)
        simp only [Value.slice.injEq] at e
        obtain ⟨rfl, -, rfl⟩ := e
        exact ⟨x, c, rfl, hr.out⟩
      have CS : Hid (∀ X, Below wr.heap.size wr X → _) := fun X hX => sShowEvent_calls (.agg #[.int .i64 P.last, .slice x P.sites.length c]) (.agg #[.int .i64 zs[j].code, .int .i64 zs[j].val, .slice fb zs[j].freed.length cb]) P os[j] zs[j] X (HP.out X hX) ⟨fb, cb, rfl, rdI_later hfb hX⟩ hsm hsite hso hfl q hq
      have HO : Hid (∀ X, Below wr.heap.size wr X → OpLie X ga (oa + j * 5) os[j]) := fun X hX => hoa.keep (fun k => hX.cell (p := ⟨ga, k, none⟩) hga)
      have HB : Hid (∀ X, Below wr.heap.size wr X → AnLie X gb (ob + j * 3) zs[j] (.slice fb zs[j].freed.length cb)) := fun X hX => hob.keep (fun k => hX.cell (p := ⟨gb, k, none⟩) hgb)
      clear hsm hso hsite hsz hfl hfb hq HP hoa hob
      generalize evT P os[j] zs[j] = tx at *
      generalize penB P os[j] = PB at *
      generalize os[j] = o at *
      generalize zs[j] = A at *
      unfold opV at CS
      have HPC : Hid (∀ X, Below wr.heap.size wr X → Two X w.heap.size (.int .i64 P.last) (.slice x P.sites.length c)) := fun X hX => HS.out.pen.later hX
      obtain ⟨T1, hT1⟩ : ∃ T1, (if q then tx else []) = T1 := ⟨_, rfl⟩
      obtain ⟨Q1, hQ1⟩ : ∃ Q1, (if q then PB else P) = Q1 := ⟨_, rfl⟩
      rw [hT1, hQ1] at CS
      have HT1 : Hid ((if q then tx else []) = T1) := hT1
      have HQ1 : Hid ((if q then PB else P) = Q1) := hQ1
      clear hT1 hQ1 HA HC HSO HSZ CL
      have hi1 : (j : Int) < (n : Int) := by omega
      have HUP : Hid (∀ X, Below wr.heap.size wr X → Below wr.heap.size wr X) := fun X hX => hX
      go_wp2
      refine wp_region_last 15 (by kernel_rfl) (by kernel_rfl) (RE [.agg #[.int .i64 P.last, .slice x P.sites.length c], .slice (some ⟨ga, oa, none⟩) n cap, .int .i64 (j : Int), .pointer (some ⟨ga, oa + j * 5, none⟩), .agg #[.int .i64 o.kind, .int .i64 o.a, .int .i64 o.b, .int .i64 o.c, .string (txt o.site)], .slice (some ⟨gb, ob, none⟩) n cap2, .int .i64 (j : Int), .pointer (some ⟨gb, ob + j * 3, none⟩), .agg #[.int .i64 A.code, .int .i64 A.val, .slice fb A.freed.length cb]] wr.heap.size (txt T1) Q1) re_mono ?_ ?_
      · intro i o_ hi ho a X hX hA hdep
        have hUP := HUP.out X hX
        have hXs := hX.size
        match i, hi, ho with
        | 0, _, ho =>
          obtain rfl := Option.some.inj ho
          exact opLoadPn (alike_at hA (t := 5) (by kernel_rfl)) (HPC.out X hUP).cells ⟨_, rfl, Below.refl _ _, rfl⟩
        | 1, _, ho =>
          obtain rfl := Option.some.inj ho
          exact opMove (alike_at hA (t := 0) (by kernel_rfl)) ⟨_, rfl, Below.refl _ _, rfl⟩
        | 2, _, ho =>
          obtain rfl := Option.some.inj ho
          exact opMove (alike_at hA (t := 7) (by kernel_rfl)) ⟨_, rfl, Below.refl _ _, rfl⟩
        | 3, _, ho =>
          obtain rfl := Option.some.inj ho
          have g0 : a.eval (.tmp 30) = .slice (some ⟨ga, oa, none⟩) n cap := hdep ⟨1, .data⟩ (by simp) rfl 30 rfl
          have g1 : a.eval (.tmp 31) = .int .i64 (j : Int) := hdep ⟨2, .data⟩ (by simp) rfl 31 rfl
          exact opIdxQ g0 g1 hlt ⟨_, rfl, Below.refl _ _, rfl⟩
        | 4, _, ho =>
          obtain rfl := Option.some.inj ho
          have g0 : a.eval (.tmp 32) = .pointer (some ⟨ga, oa + j * 5, none⟩) := hdep ⟨3, .data⟩ (by simp) rfl 32 rfl
          exact opLoadOpAt g0 (HO.out X hUP) ⟨_, rfl, Below.refl _ _, rfl⟩
        | 5, _, ho =>
          obtain rfl := Option.some.inj ho
          exact opMove (alike_at hA (t := 1) (by kernel_rfl)) ⟨_, rfl, Below.refl _ _, rfl⟩
        | 6, _, ho =>
          obtain rfl := Option.some.inj ho
          exact opMove (alike_at hA (t := 7) (by kernel_rfl)) ⟨_, rfl, Below.refl _ _, rfl⟩
        | 7, _, ho =>
          obtain rfl := Option.some.inj ho
          have g0 : a.eval (.tmp 34) = .slice (some ⟨gb, ob, none⟩) n cap2 := hdep ⟨5, .data⟩ (by simp) rfl 34 rfl
          have g1 : a.eval (.tmp 35) = .int .i64 (j : Int) := hdep ⟨6, .data⟩ (by simp) rfl 35 rfl
          exact opIdxY g0 g1 hlt ⟨_, rfl, Below.refl _ _, rfl⟩
        | 8, _, ho =>
          obtain rfl := Option.some.inj ho
          have g0 : a.eval (.tmp 36) = .pointer (some ⟨gb, ob + j * 3, none⟩) := hdep ⟨7, .data⟩ (by simp) rfl 36 rfl
          exact opLoadAnAt g0 (HB.out X hUP) ⟨_, rfl, Below.refl _ _, rfl⟩
        | 9, _, ho =>
          obtain rfl := Option.some.inj ho
          have g0 : a.eval (.tmp 29) = .agg #[.int .i64 P.last, .slice x P.sites.length c] := hdep ⟨0, .data⟩ (by simp) rfl 29 rfl
          have g1 : a.eval (.tmp 33) = .agg #[.int .i64 o.kind, .int .i64 o.a, .int .i64 o.b, .int .i64 o.c, .string (txt o.site)] := hdep ⟨4, .data⟩ (by simp) rfl 33 rfl
          have g2 : a.eval (.tmp 37) = .agg #[.int .i64 A.code, .int .i64 A.val, .slice fb A.freed.length cb] := hdep ⟨8, .data⟩ (by simp) rfl 37 rfl
          exact opShS g0 g1 g2 (CS.out X hUP) (fun e w' ⟨u, h1, h2, h3⟩ => ⟨_, h1, _, rfl, h3, u, rfl, ownP_kpn h2 hXs⟩)
        | 10, _, ho =>
          obtain rfl := Option.some.inj ho
          have g0 : KRes wr.heap.size (txt T1) Q1 X (a.eval (.tmp 38)) := hdep ⟨9, .data⟩ (by simp) rfl 38 rfl
          exact opMove rfl ⟨_, rfl, Below.refl _ _, g0⟩
        | 11, _, ho =>
          obtain rfl := Option.some.inj ho
          obtain ⟨u, e0, -⟩ : KRes wr.heap.size (txt T1) Q1 X (a.eval (.tmp 28)) := hdep ⟨10, .data⟩ (by simp) rfl 28 rfl
          exact opEx0 e0 ⟨_, rfl, Below.refl _ _, rfl⟩
        | 12, _, ho =>
          obtain rfl := Option.some.inj ho
          obtain ⟨u, e0, hk⟩ : KRes wr.heap.size (txt T1) Q1 X (a.eval (.tmp 28)) := hdep ⟨10, .data⟩ (by simp) rfl 28 rfl
          exact opEx1 e0 ⟨_, rfl, Below.refl _ _, hk⟩
        | 13, _, ho =>
          obtain rfl := Option.some.inj ho
          exact opAllocPen ⟨_, rfl, (Below.refl _ _).alloc (Nat.le_refl _) _, X.heap.size, rfl, hXs, Two.new X _ _⟩
        | 14, _, ho =>
          obtain rfl := Option.some.inj ho
          have g0 : a.eval (.tmp 39) = .string (txt T1) := hdep ⟨11, .data⟩ (by simp) rfl 39 rfl
          exact opAssignT g0 ⟨_, rfl, Below.refl _ _, rfl⟩
      · intro o_ ho a X hX hA hdep
        obtain rfl := Option.some.inj ho
        obtain ⟨gx, e1, gB, hf⟩ : KTwo wr.heap.size X (a.eval (.tmp 9)) := hdep ⟨13, .data⟩ (by simp) rfl 9 rfl
        obtain ⟨yb, cb, e2, hob⟩ : KPn wr.heap.size Q1 X (a.eval (.tmp 40)) := hdep ⟨12, .data⟩ (by simp) rfl 40 rfl
        have e6 : a.eval (.tmp 8) = .string (txt T1) := hdep ⟨14, .chain⟩ (by simp) rfl 8 rfl
        refine opStorePen e1 e2 hf ?_
        obtain ⟨us, hus, rfl⟩ := alike_tmps hA [29, 30, 31, 32, 33, 34, 35, 36, 37, 38, 28, 39, 40, 9, 8] (by kernel_rfl)
        have e3 : us 9 = .pointer (some ⟨gx, 0, none⟩) := (hus 9).symm.trans e1
        have e6' : us 8 = .string (txt T1) := (hus 8).symm.trans e6
        have HTw : Hid (Two ((X.setCell ⟨gx, 0, none⟩ (.int .i64 Q1.last)).setCell ⟨gx, 1, none⟩ (.slice yb Q1.sites.length cb)) gx (.int .i64 Q1.last) (.slice yb Q1.sites.length cb)) := hf.set _ _
        have HOw : Hid (ownS ((X.setCell ⟨gx, 0, none⟩ (.int .i64 Q1.last)).setCell ⟨gx, 1, none⟩ (.slice yb Q1.sites.length cb)) wr.heap.size (.slice yb Q1.sites.length cb) Q1.sites) := row_same hob (fun k hk => by
          obtain ⟨cur, hkk⟩ := row_kind hob k hk
          have hne := kind_ne hkk hf (by decide)
          rw [Below.heap_setCell _ _ _ _ (by exact hne), Below.heap_setCell _ _ _ _ (by exact hne)])
        have HBw : Hid (Below wr.heap.size wr ((X.setCell ⟨gx, 0, none⟩ (.int .i64 Q1.last)).setCell ⟨gx, 1, none⟩ (.slice yb Q1.sites.length cb))) := (hX.setCell gB _).setCell gB _
        have HGb : Hid (wr.heap.size ≤ gx) := gB
        clear hdep hA hus e1 e2 e6 hf hob ho hX gB
        generalize ((X.setCell ⟨gx, 0, none⟩ (.int .i64 Q1.last)).setCell ⟨gx, 1, none⟩ (.slice yb Q1.sites.length cb)) = Y1 at *
        simp only [List.mapIdx_cons, List.mapIdx_nil, Nat.reduceAdd, List.contains_cons, List.contains_nil, Nat.reduceBEq, Bool.or_false, Bool.or_true, if_true, if_false, Bool.false_eq_true, e3, e6']
        clear e3 e6'
        clear HO HB HPC CS
        have HSY : Hid (ES w w.heap.size P ts x c y j k Y1) := HS.out.later HBw.out
        have HOB1 : Hid (∀ g, (Value.slice y j k).ownBlock = some g → g < wr.heap.size) := fun g hg => (World.ownsRow.lt HS.out.out g hg).2
        clear HS HBw HUP
        cases q with
        | false =>
          have hT0 := HNO.out rfl
          subst hT0
          have hT2 : [] = T1 := HT1.out
          subst hT2
          have hes : (txt []).toList.isEmpty = true := txt_none
          have HBE : Hid (Below w.heap.size w Y1) := HSY.out.bel
          clear HNO HYES HR HSY HT HT1 HQ1 HTw HOw HGb HOB1
          go_wp2
          go_ret
          exact ⟨rfl, HBE.out⟩
        | true =>
          obtain ⟨hR1, hne⟩ := HYES.out rfl
          have hT2 : tx = T1 := HT1.out
          subst hT2
          have hQ2 : PB = Q1 := HQ1.out
          subst hQ2
          have HR1 : Hid (EncR os zs (j + 1) PB (ts ++ [tx])) := hR1
          have hes : (txt tx).toList.isEmpty = false := txt_isEmpty hne
          clear HNO HYES HT1 HQ1 hR1 hne
          have htl : ts.length ≤ 1677720 := by have := (encR_names HR.out).2.1; omega
          have HGX : Hid (∀ g, (Value.slice yb PB.sites.length cb).ownBlock = some g → wr.heap.size ≤ g ∧ g < Y1.heap.size) := fun g hg => World.ownsRow.lt HOw.out g hg
          obtain ⟨f0, f1⟩ := HTw.out.cells
          obtain ⟨p0, p1⟩ := HSY.out.pen.cells
          have z0 : Y1.frozen? ⟨w.heap.size, 0, none⟩ = false := Lib.frozen_of_heap HSY.out.pen 0
          have z1 : Y1.frozen? ⟨w.heap.size, 1, none⟩ = false := Lib.frozen_of_heap HSY.out.pen 1
          have HS2 : Hid (ES w w.heap.size PB ts yb cb y j k ((Y1.setCell ⟨w.heap.size, 0, none⟩ (.int .i64 PB.last)).setCell ⟨w.heap.size, 1, none⟩ (.slice yb PB.sites.length cb))) := HSY.out.put (ownS_mono HOw.out (by have := HWS.out; omega)) (fun g hg hx => by have := HOB1.out g hg; have := (HGX.out g hx).1; omega)
          clear HSY HOB1 HGX HOw HTw HGb HR
          go_upto_region 12 with fail
          clear f0 f1 p0 p1 z0 z1
          generalize (Y1.setCell ⟨w.heap.size, 0, none⟩ (.int .i64 PB.last)).setCell ⟨w.heap.size, 1, none⟩ (.slice yb PB.sites.length cb) = Y2 at *
          obtain ⟨U, hU⟩ : ∃ U, U = Y2.alloc (.cells #[.string (txt tx)] 9) := ⟨_, rfl⟩
          have BU : Below Y2.heap.size Y2 U := by rw [hU]; exact (Below.refl _ _).alloc (Nat.le_refl _) _
          have HUc : Hid (U.cell? ⟨Y2.heap.size, 0, none⟩ = some (.string (txt tx))) := by show _ = _; rw [hU, World.cell?_alloc_mark]; rfl
          have HUO : Hid (ownS U w.heap.size (.slice y j k) ts) := row_later HS2.out.out BU
          have HUB : Hid (Below Y2.heap.size Y2 U) := BU
          have HUS : Hid (w.heap.size ≤ U.heap.size) := Nat.le_trans HS2.out.bel.size BU.size
          have HUZ : Hid (U.heap.size = Y2.heap.size + 1) := by show _ = _; rw [hU]; simp
          clear BU
          go_wp2_with (at_builtin; rw [← hU]; clear hU; refine wpList_appendT rfl _ _ rfl w.heap.size (.slice y j k) ts rfl HUO.out ⟨Y2.heap.size, 0, none⟩ tx rfl HUc.out htl HUS.out ?_)
          intro v9 w9 h1 h2 h3 h4 h5
          obtain ⟨y9, k9, hv9, -⟩ := rdS_own h1
          have hl9 : (ts ++ [tx]).length = j + 1 := by have := (encR_names HR1.out).2.1; exact this
          rw [hl9] at hv9
          subst hv9
          have HS3 : Hid (ES w w.heap.size PB (ts ++ [tx]) yb cb y9 (j + 1) k9 w9) := HS2.out.app HUB.out h1 h2 h3.out h4.out (h5.out w.heap.size U (Below.refl _ _) (Nat.le_refl _))
          clear h1 h2 h3 h4 h5 HUO HUB HUS HUZ HUc HS2
          go_wp2
          go_roundw
          case rel => exact ⟨j + 1, PB, ts ++ [tx], yb, cb, y9, k9, rfl, by go_num, by omega, HR1, HS3⟩
          case measure => simp [intOf]; omega
    · obtain rfl : j = n := by omega
      have hts := encR_names HR.out
      have hTe : T = showL ts := HT.out.yes (by have := Hn.out; have := Hm.out; omega) (by have := Hn.out; omega) P ts (by rw [Hn.out]; exact HR.out)
      obtain ⟨y', k', e', hrs⟩ := rdS_own HS.out.out
      simp only [Value.slice.injEq] at e'
      obtain ⟨rfl, -, rfl⟩ := e'
      have CL2 : Hid (∀ _ : Unit, _) := fun (_ : Unit) => CL.out wr y k ts hrs.out (by have := hts.2.1; omega) (fun t ht => by have := hts.2.2.2 t ht; omega)
      rw [hts.2.1] at CL2
      have HBE : Hid (Below w.heap.size w wr) := HS.out.bel
      subst hTe
      clear hts hrs HS HR HT CL
      go_wp2_with fail
      refine (CL2.out ()).mono ?_
      rintro e w1 ⟨rfl, b1⟩
      have B1 := HBE.out.trans (b1.mono HBE.out.size)
      go_wp2
      go_ret
      exact ⟨rfl, B1⟩

end Go.Proofs.YtcjpepdagnifiaaDoor

namespace Go.Proofs.YtcjpepdagnifiaaDoor
open Go.RowKit
set_option linter.unusedVariables false

theorem iFixed_no (n k : Int) (w : World) (h : k < 1 ∨ 7 < k ∨ n < 0) :
    Calls Tryd.prog 90 #[.int .i64 n, .int .i64 k] w fun e w' => e = .returned (.string (txt [])) ∧ w' = w := by
  by_cases h1 : k < 1
  · go_enter Tryd.func90, Tryd.ntmps90
    go_wp2
    go_ret
    exact ⟨rfl, rfl⟩
  · by_cases h2 : 7 < k
    · go_enter Tryd.func90, Tryd.ntmps90
      go_wp2
      go_ret
      exact ⟨rfl, rfl⟩
    · have h3 : n < 0 := by omega
      go_enter Tryd.func90, Tryd.ntmps90
      go_wp2
      go_ret
      exact ⟨rfl, rfl⟩

theorem iFixed_big (n k : Nat) (w : World) (hn : n ≤ 9223372036854775807) (h1 : 1 ≤ k) (h2 : k ≤ 7) (hz : 0 < sh n k) :
    Calls Tryd.prog 90 #[.int .i64 n, .int .i64 k] w fun e w' => e = .returned (.string (txt [])) ∧ w' = w := by
  have g1 : decide ((k : Int) < 1) = false := by simp; omega
  have g2 : decide (7 < (k : Int)) = false := by simp; omega
  have g4 : decide ((n : Int) < 0) = false := by simp
  have g5 : ((n : Int) / 2 ^ (8 * k) != 0) = true := by rw [sh_pow, bne_iff_ne]; omega
  go_enter Tryd.func90, Tryd.ntmps90
  go_wp2
  go_ret
  exact ⟨rfl, rfl⟩

theorem iFixed_yes (n k : Nat) (w : World) (hn : n ≤ 9223372036854775807) (h1 : 1 ≤ k) (h2 : k ≤ 7) (hz : sh n k = 0) :
    Calls Tryd.prog 90 #[.int .i64 n, .int .i64 k] w fun e w' => e = .returned (.string (txt (low n k))) ∧ Below w.heap.size w w' := by
  have g1 : decide ((k : Int) < 1) = false := by simp; omega
  have g2 : decide (7 < (k : Int)) = false := by simp; omega
  have g4 : decide ((n : Int) < 0) = false := by simp
  have g5 : ((n : Int) / 2 ^ (8 * k) != 0) = false := by rw [sh_pow, hz]; rfl
  have hmk := make_row k (by omega)
  clear hz
  go_enter Tryd.func90, Tryd.ntmps90
  go_wp2
  go_loopw [6, 7] (fun a i wr => ∃ j r : Nat, Hid (j + r = k) ∧ a = .int .i64 j ∧ i = .int .i64 ((r : Int) - 1) ∧ Hid (wr.heap[w.heap.size]? = some (.cells (rowB k ((low n k).take j)).toArray 5 (0, 0))) ∧ Below w.heap.size w wr) (fun _ i _ => (intOf i + 1).toNat)
  case atStart => exact ⟨0, k, by show 0 + k = k; omega, rfl, rfl, (by show (w.heap.push _)[w.heap.size]? = _; simp), (Below.refl _ _).alloc (Nat.le_refl _) _⟩
  case round =>
    obtain ⟨j, r, hjr, rfl, rfl, hrow, hb⟩ := hrel
    by_cases hlt : 0 < r
    · obtain ⟨r, rfl⟩ : ∃ r', r = r' + 1 := ⟨r - 1, by omega⟩
      have hr7 : r ≤ 6 := by have := hjr.out; omega
      have HT : Hid (_ = _) := low_take n j r
      have hl : Hid ((j : Int) = (((low n k).take j).length : Int)) := by
        show (j : Int) = _
        rw [List.length_take, low_length]; have := hjr.out; omega
      go_wp2_with fail
      refine (put_calls k w.heap.size ((low n k).take j) [UInt8.ofNat (sh n r)] _ 1 1 ⟨wr.heap.size, 0, none⟩ _ (heap_alloc_old _ _ _ _ hrow.out) hl.out rfl (by simp) (by have h3 := hl.out; have h4 := hjr.out; simp only [List.length_singleton]; omega) (by omega) (src_one wr _ _ (sh_byte n r)) w.heap.size w (hb.alloc hb.size _) (Nat.le_refl _)).mono ?_
      rintro e w1 ⟨rfl, hrow1, hb1⟩
      go_wp2
      go_roundw
      case rel =>
        refine ⟨j + 1, r, (by show j + 1 + r = k; have := hjr.out; omega), by go_num, by go_num, ?_, hb1⟩
        obtain rfl : k = j + r + 1 := by have := hjr.out; omega
        rw [HT.out]; exact hrow1
      case measure => simp [intOf]
    · obtain rfl : r = 0 := by omega
      obtain rfl : j = k := by have := hjr.out; omega
      have hcv : (convert 96 9 (.slice (some ⟨w.heap.size, 0, none⟩) j j)).run Tryd.prog wr = .ok (.string (txt (low n j))) wr := by
        have h := hrow.out
        rw [List.take_of_length_le (by rw [low_length]; omega)] at h
        have h2 := conv_row j w.heap.size j (low n j) wr h
        rw [low_length] at h2
        exact h2
      go_wp2
      go_ret
      exact ⟨rfl, hb⟩

end Go.Proofs.YtcjpepdagnifiaaDoor

namespace Go.Proofs.YtcjpepdagnifiaaDoor
open Go.RowKit
set_option linter.unusedVariables false

theorem iFixed4_calls (n : Nat) (w : World) (hn : n < 4294967296) :
    Calls Tryd.prog 90 #[.int .i64 (n : Int), .int .i64 4] w fun e w' => e = .returned (.string (txt (low n 4))) ∧ Below w.heap.size w w' := by
  have hz : sh n 4 = 0 := by unfold sh; exact Nat.div_eq_of_lt (by omega)
  exact iFixed_yes n 4 w (by omega) (by omega) (by omega) hz

theorem iCrcN_calls (l : List UInt8) (w : World) (hs : l.length ≤ 2097152) (ht : TabAt w) :
    Calls Tryd.prog 91 #[.string (txt l)] w fun e w' => e = .returned (.int .i64 (crcN l : Int)) ∧ Below w.heap.size w w' := by
  have h := iCrc_calls (txt l) w hs ht
  rw [show (txt l).data.toList = l from rfl] at h
  unfold crcV at h
  rw [crcN_int] at h
  exact h

theorem iShowFrame_calls (q : Int) (p : List UInt8) (w : World) (hp : p.length ≤ 1048576) (ht : TabAt w) :
    Calls Tryd.prog 72 #[.int .i64 q, .string (txt p)] w fun e w' => e = .returned (.string (txt (showF q p))) ∧ Below w.heap.size w w' := by
  have HT : Hid (TabAt w) := ht
  clear ht
  have hps : (txt p).size = p.length := rfl
  by_cases h0 : q < 0
  · have HE : Hid (showF q p = []) := showF_out q p (by omega)
    go_enter Tryd.func72, Tryd.ntmps72
    go_wp2
    go_ret
    exact ⟨ret_str (by rw [HE.out]; rfl), Below.refl _ _⟩
  by_cases h4 : 400 < q
  · have HE : Hid (showF q p = []) := showF_out q p (by omega)
    go_enter Tryd.func72, Tryd.ntmps72
    go_wp2
    go_ret
    exact ⟨ret_str (by rw [HE.out]; rfl), Below.refl _ _⟩
  by_cases hl : 200 < p.length
  · have HE : Hid (showF q p = []) := showF_out q p (by omega)
    go_enter Tryd.func72, Tryd.ntmps72
    go_wp2
    go_ret
    exact ⟨ret_str (by rw [HE.out]; rfl), Below.refl _ _⟩
  · obtain ⟨n, rfl⟩ := Int.eq_ofNat_of_zero_le (show 0 ≤ q by omega)
    have hl2 : p.length ≤ 200 := by omega
    have h40 : (n : Int) ≤ 400 := by omega
    have HE : Hid (showF (n : Int) p = frame n p) := showF_in n p (by omega) hl2
    have HF : Hid (frame n p = fbody n p ++ low (crcN (fbody n p)) 4) := rfl
    have z1 : (txt (varB 6 n)).size ≤ 7 := varB_length 6 n
    have z2 : (txt (varB 6 p.length)).size ≤ 7 := varB_length 6 p.length
    have z3 : (txt (varB 6 n ++ varB 6 p.length)).size ≤ 14 := by rw [txt_size, List.length_append]; rw [txt_size] at z1 z2; omega
    have z4 : (txt (fbody n p)).size ≤ 214 := by rw [txt_size] at *; unfold fbody; rw [List.length_append]; omega
    have z5 : (txt (low (crcN (fbody n p)) 4)).size = 4 := by rw [txt_size, low_length]
    have A1 := txt_append (varB 6 n) (varB 6 p.length)
    have A2 : txt (varB 6 n ++ varB 6 p.length) ++ txt p = txt (fbody n p) := txt_append _ _
    have A3 := txt_append (fbody n p) (low (crcN (fbody n p)) 4)
    have hb := crcN_lt (fbody n p)
    have CC : Hid (∀ X, TabAt X → _) := fun X hX => iCrcN_calls (fbody n p) X (by rw [txt_size] at z4; omega) hX
    generalize fbody n p = T at *
    generalize crcN T = c at *
    go_enter Tryd.func72, Tryd.ntmps72
    go_wp2_with fail
    refine (iVar_yes n _ (by omega)).mono ?_
    rintro e w1 ⟨rfl, b1⟩
    go_wp2_with fail
    refine (iVar_yes p.length _ (by omega)).mono ?_
    rintro e w2 ⟨rfl, b2⟩
    have B2 := b1.trans (b2.mono b1.size)
    have HT2 : Hid (TabAt w2) := tab_below HT.out B2 (tab_pos HT.out)
    go_wp2_with fail
    refine (CC.out _ HT2.out).mono ?_
    rintro e w3 ⟨rfl, b3⟩
    have B3 := B2.trans (b3.mono B2.size)
    go_wp2_with fail
    refine (iFixed4_calls c _ hb).mono ?_
    rintro e w4 ⟨rfl, b4⟩
    have B4 := B3.trans (b4.mono B3.size)
    go_wp2
    go_ret
    exact ⟨ret_str (by rw [HE.out, HF.out]), B4⟩

end Go.Proofs.YtcjpepdagnifiaaDoor

namespace Go.Proofs.YtcjpepdagnifiaaDoor
open Go.RowKit
set_option linter.unusedVariables false

theorem sizeBuilderB : (Tryd.prog.info? 98).map (·.size) = some 2 := by kernel_rfl
theorem liesBuilder : liesAt Tryd.prog Tryd.prog.depth 98 (2 / Tryd.prog.cellsOf 98) 0 98 1 = true := by kernel_rfl
theorem infoByteB : (Tryd.prog.info? 5).map (fun i => (i.zero, i.size, i.bytes)) = some (some (.int .u8 0), 1, 1) := by kernel_rfl

set_option maxRecDepth 100000 in
theorem check_used (b : Nat) (w : World) (h0 : w.cell? ⟨b, 0, none⟩ = some (.pointer (some ⟨b, 0, none⟩))) :
    Calls Tryd.prog 88 #[.pointer (some ⟨b, 0, none⟩)] w fun e w' => e = .returned (.tuple #[]) ∧ w' = w := by
  obtain ⟨j, hj, _⟩ := Option.map_eq_some_iff.1 sizeBuilderB
  go_enter Tryd.func88, Tryd.ntmps88
  go_wp2
  rw [Lib.run_neq_ptr_same w _ Tryd.underlying95 hj]
  go_wp2
  go_end0
  exact ⟨rfl, rfl⟩

set_option maxHeartbeats 1000000 in
set_option maxRecDepth 100000 in
theorem check_fresh (b : Nat) (w : World) (h0 : w.cell? ⟨b, 0, none⟩ = some (.pointer none)) (hsh : w.shape? b = some (98, 2)) (hfz : w.frozen? ⟨b, 0, none⟩ = false) :
    Calls Tryd.prog 88 #[.pointer (some ⟨b, 0, none⟩)] w fun e w' => e = .returned (.tuple #[]) ∧ w' = w.setCell ⟨b, 0, none⟩ (.pointer (some ⟨b, 0, none⟩)) := by
  obtain ⟨j, hj, hjs⟩ := Option.map_eq_some_iff.1 sizeBuilderB
  go_enter Tryd.func88, Tryd.ntmps88
  go_wp2
  rw [Lib.run_to_unsafe w ⟨b, 0, none⟩ Tryd.underlying95 Tryd.underlying121 hj (by rw [hjs]; decide) hsh (Nat.zero_lt_succ 1)]
  simp only [Result.andThen]
  rw [Oper.upon_value]
  go_wp2
  rw [run_callFunc_extern Tryd.func102 (by kernel_rfl) (by kernel_rfl) (by kernel_rfl) (e := Extern.AbiNoEscape.same) (by kernel_rfl)]
  rw [Lib.run_noEscape]
  simp only [Result.andThen]
  rw [Oper.upon_value]
  go_wp2
  rw [Lib.run_from_unsafe w ⟨b, 0, none⟩ Tryd.underlying121 Tryd.underlying95 hj hsh liesBuilder]
  simp only [Result.andThen]
  rw [Oper.upon_value]
  go_wp2
  go_end0
  exact ⟨rfl, rfl⟩

/-- A builder of the call's own, from B on, at block b, that holds these bytes. -/
abbrev Bld (B b : Nat) (l : List UInt8) (w : World) : Prop := Lib.IsBuilder 98 5 B b (Lib.byteCells l) w

theorem check_calls (B b : Nat) (bs : List Value) (w : World) (h : Lib.IsBuilder 98 5 B b bs w) :
    Calls Tryd.prog 88 #[.pointer (some ⟨b, 0, none⟩)] w fun e w' => e = .returned (.tuple #[]) ∧ Lib.BuilderAt 98 5 B b (.pointer (some ⟨b, 0, none⟩)) bs w' ∧ Below B w w' := by
  rcases h with h | h
  · refine (check_fresh b w h.cell0 h.shape h.frozen0).mono ?_
    rintro e w' ⟨rfl, rfl⟩
    exact ⟨rfl, h.used _, (Below.refl B w).setCell (p := ⟨b, 0, none⟩) h.1 _⟩
  · refine (check_used b w h.cell0).mono ?_
    rintro e w' ⟨rfl, rfl⟩
    exact ⟨rfl, h, Below.refl B _⟩

set_option maxHeartbeats 2000000 in
set_option maxRecDepth 100000 in
theorem write_cells (B b : Nat) (bs : List Value) (s : ByteArray) (w : World) (h : Lib.IsBuilder 98 5 B b bs w) (hlen : bs.length + s.size ≤ 140737488355328) (hBw : B ≤ w.heap.size) :
    Calls Tryd.prog 71 #[.pointer (some ⟨b, 0, none⟩), .string s] w fun e w' => e = .returned (.tuple #[.int .i64 s.size, .nilIface]) ∧ Lib.BuilderAt 98 5 B b (.pointer (some ⟨b, 0, none⟩)) (bs ++ Lib.strCells s) w' ∧ Below B w w' := by
  obtain ⟨i0, hi, hz0, hz1, hz2⟩ := info_parts infoByteB
  have HH : Hid (Lib.IsBuilder 98 5 B b bs w) := h
  clear h
  go_enter Tryd.func71, Tryd.ntmps71
  go_wp2_with fail
  refine (check_calls B b bs _ HH.out).mono ?_
  rintro e w1 ⟨rfl, ⟨hB, v, hbk, hown, hne⟩, hb1⟩
  have c0 : w1.cell? ⟨b, 0, none⟩ = some (.pointer (some ⟨b, 0, none⟩)) := by rw [Lib.cell_of_heap hbk]; rfl
  have c1 : w1.cell? ⟨b, 1, none⟩ = some v := by rw [Lib.cell_of_heap hbk]; rfl
  go_wp2_with (at_builtin; refine Lib.wpList_append_own_string _ rfl _ _ 96 9 rfl B 5 i0 Tryd.underlying96 Tryd.underlying9 hi hz0 hz1 hz2 _ _ _ rfl hown s rfl ?c3 ?c4 ?c5 ?_)
  case c3 => unfold maxLen; omega
  case c4 => omega
  case c5 => have := hb1.size; omega
  intro v' w2 hown' hgrow _
  have hlt : b < w1.heap.size := by
    rcases Nat.lt_or_ge b w1.heap.size with h' | h'
    · exact h'
    · simp [Array.getElem?_eq_none h'] at hbk
  have hb2 : w2.heap[b]? = some (.cells #[.pointer (some ⟨b, 0, none⟩), v] 98 (0, 0)) := by
    rw [hgrow.block b hlt (fun e => hne e.symm)]
    exact hbk
  have d0 : w2.cell? ⟨b, 0, none⟩ = some (.pointer (some ⟨b, 0, none⟩)) := by rw [Lib.cell_of_heap hb2]; rfl
  have d1 : w2.cell? ⟨b, 1, none⟩ = some v := by rw [Lib.cell_of_heap hb2]; rfl
  have f1 : w2.frozen? ⟨b, 1, none⟩ = false := Lib.frozen_of_heap hb2 1
  obtain ⟨ao, n', cap, rfl⟩ : ∃ ao n' cap, v' = .slice ao n' cap := by
    rcases hown'.2 with ⟨hv, _⟩ | ⟨g, cap, cur, hv, _⟩
    · exact ⟨_, _, _, hv⟩
    · exact ⟨_, _, _, hv⟩
  go_wp2
  go_ret2
  refine ⟨rfl, ?_, ?_⟩
  · exact Lib.BuilderAt.put (T := 98) (e := 5) hB hb2 (bs' := bs ++ Lib.strCells s) (by simpa [Lib.strCells_length] using hown') (by decide)
  · exact (hb1.grown hgrow (by have := hb1.size; omega) (fun k hk => (hown.lt k hk).1)).setCell (p := ⟨b, 1, none⟩) hB _

theorem write_calls (B b : Nat) (l t : List UInt8) (w : World) (h : Bld B b l w) (hlen : l.length + t.length ≤ 1073741824) (hBw : B ≤ w.heap.size) :
    Calls Tryd.prog 71 #[.pointer (some ⟨b, 0, none⟩), .string (txt t)] w fun e w' => e = .returned (.tuple #[.int .i64 t.length, .nilIface]) ∧ Bld B b (l ++ t) w' ∧ Below B w w' := by
  refine (write_cells B b (Lib.byteCells l) (txt t) w h (by rw [Lib.byteCells_length, txt_size]; omega) hBw).mono ?_
  rintro e w' ⟨rfl, h1, h2⟩
  refine ⟨rfl, ?_, h2⟩
  have e1 : Lib.byteCells (l ++ t) = Lib.byteCells l ++ Lib.strCells (txt t) := by simp [Lib.byteCells, Lib.strCells, txt]
  unfold Bld
  rw [e1]
  exact Or.inr h1

end Go.Proofs.YtcjpepdagnifiaaDoor

namespace Go.Proofs.YtcjpepdagnifiaaDoor
open Go.RowKit
set_option linter.unusedVariables false

theorem bldAt_later {B b : Nat} {p : Value} {bs : List Value} {w w' : World} (h : Lib.BuilderAt 98 5 B b p bs w) (hb : Below w.heap.size w w') : Lib.BuilderAt 98 5 B b p bs w' := by
  have hlt := h.lt
  obtain ⟨h1, v, h2, ⟨h3, h4⟩, h5⟩ := h
  refine ⟨h1, v, ?_, ⟨h3, ?_⟩, h5⟩
  · rw [hb.block b hlt]; exact h2
  · rcases h4 with h4 | ⟨g, cap, cur, h6, h7, h8, h9⟩
    · exact .inl h4
    · refine .inr ⟨g, cap, cur, h6, h7, ?_, h9⟩
      rw [hb.block g (Array.getElem?_eq_some_iff.1 h8).1]
      exact h8
theorem bld_later {B b : Nat} {l : List UInt8} {w w' : World} (h : Bld B b l w) (hb : Below w.heap.size w w') : Bld B b l w' := by
  rcases h with h | h
  · exact .inl (bldAt_later h hb)
  · exact .inr (bldAt_later h hb)
theorem bld_new (w : World) : Bld w.heap.size w.heap.size [] (w.alloc (.cells #[.pointer none, .slice none 0 0] 98)) := Lib.fresh_isBuilder _ _ w

set_option maxHeartbeats 1000000 in
theorem iShowLog_calls (w : World) (a : Option Addr) (cap : Nat) (zs : List (List UInt8)) (ht : TabAt w) (h : RdS w a zs) (hn : zs.length ≤ 16777216) (hz : ∀ z ∈ zs, z.length ≤ 1048576) :
    Calls Tryd.prog 46 #[.slice a zs.length cap] w fun e w' => e = .returned (.string (txt (showL zs))) ∧ Below w.heap.size w w' := by
  have HT : Hid (TabAt w) := ht
  have HA : Hid (RdS w a zs) := h
  have HZ : Hid (∀ (j : Nat) (h : j < zs.length), zs[j].length ≤ 1048576) := fun j h => hz _ (List.getElem_mem h)
  clear ht
  by_cases h4 : 400 < zs.length
  · have HE : Hid (showL zs = []) := okL_many zs h4
    clear h hz HA HZ
    generalize zs.length = n at *
    go_enter Tryd.func46, Tryd.ntmps46
    go_wp2
    go_ret
    exact ⟨ret_str (by rw [HE.out]; rfl), Below.refl _ _⟩
  · have LZ : Hid (logTo zs 0 = magic) := logTo_zero zs
    have OZ : Hid (okTo zs 0) := okTo_zero zs
    have LS : Hid (∀ (j : Nat) (h : j < zs.length), logTo zs (j + 1) = logTo zs j ++ frame j zs[j]) := logTo_succ zs
    have OS : Hid (∀ (j : Nat) (h : j < zs.length), okTo zs j → zs[j] ≠ [] → zs[j].length ≤ 200 → okTo zs (j + 1)) := okTo_succ zs
    have ON : Hid (∀ (j : Nat) (h : j < zs.length), zs[j] = [] ∨ 200 < zs[j].length → showL zs = []) := okL_not zs
    have LA : Hid (okTo zs zs.length → logTo zs zs.length ++ frame zs.length [] = showL zs) := fun ho => logTo_all zs (okL_all zs (by omega) ho)
    have LL : Hid (∀ j, j ≤ zs.length → okTo zs j → (logTo zs j).length ≤ 87205) := fun j hj ho => logTo_length zs j hj (by omega) ho
    have h40 : zs.length ≤ 400 := by omega
    obtain ⟨n, hnn⟩ : ∃ n, zs.length = n := ⟨_, rfl⟩
    have Hn : Hid (zs.length = n) := hnn
    rw [hnn] at h4 h40 hn LA LL ⊢
    clear h hz hnn
    have hm : ({ data := #[72, 76, 79, 71, 1] } : ByteArray) = txt magic := rfl
    have B0 : Below w.heap.size w (w.alloc (.cells #[.pointer none, .slice none 0 0] 98)) := (Below.refl _ _).alloc (Nat.le_refl _) _
    have D0 : Hid (Bld w.heap.size w.heap.size [] (w.alloc (.cells #[.pointer none, .slice none 0 0] 98))) := bld_new w
    go_enter Tryd.func46, Tryd.ntmps46
    go_wp2_with fail
    refine (write_calls w.heap.size w.heap.size [] magic _ D0.out (by decide) B0.size).mono ?_
    rintro e w1 ⟨rfl, hD1, b1⟩
    have D1 : Hid (Bld w.heap.size w.heap.size (logTo zs 0) w1) := by rw [LZ.out]; exact hD1
    have B1 := B0.trans b1
    clear hD1 b1 D0 B0 hm
    go_wp2
    go_loopw [13] (fun i wr => ∃ j : Nat, j ≤ n ∧ i = .int .i64 (j : Int) ∧ Hid (Bld w.heap.size w.heap.size (logTo zs j) wr) ∧ Hid (okTo zs j) ∧ Below w.heap.size w wr) (fun i _ => n - (intOf i).toNat)
    case atStart => exact ⟨0, by omega, rfl, D1, OZ, B1⟩
    case round =>
      obtain ⟨j, hj, rfl, HD, HO, hb⟩ := hrel
      have HT2 : Hid (TabAt wr) := tab_below HT.out hb (tab_pos HT.out)
      by_cases hlt : j < n
      · have hj2 : j < zs.length := by have := Hn.out; omega
        obtain ⟨g, off, rfl, hg, hc1⟩ := HA.out j hj2
        rw [← hb.cell (p := ⟨g, off + j, none⟩) hg] at hc1
        have CF : Hid (∀ X, TabAt X → _) := fun X hX => iShowFrame_calls (j : Int) zs[j] X (HZ.out j hj2) hX
        have z2 : (txt (showF (j : Int) zs[j])).size ≤ 218 := showF_length _ _
        have hsz : (txt zs[j]).size = zs[j].length := rfl
        have hzl := HZ.out j hj2
        by_cases he : zs[j] = []
        · have HE : Hid (showL zs = []) := ON.out j hj2 (.inl he)
          have hc2 : wr.cell? ⟨g, off + j, none⟩ = some (.string ⟨#[]⟩) := by rw [hc1, he]; rfl
          rw [he] at CF
          clear he hc1 z2 hsz hzl
          go_wp2_with fail
          refine (CF.out _ HT2.out).mono ?_
          rintro e w2 ⟨rfl, b2⟩
          go_wp2
          go_ret
          exact ⟨ret_str (by rw [HE.out]; rfl), hb.trans (b2.mono hb.size)⟩
        · have hz1 : ((txt zs[j]).toList == []) = false := by
            rw [beq_eq_false_iff_ne]; unfold txt; rw [ByteArray.toList_mk]; exact he
          by_cases hl : 200 < zs[j].length
          · have HE : Hid (showL zs = []) := ON.out j hj2 (.inr hl)
            have HS : showF (j : Int) zs[j] = [] := showF_out _ _ (by omega)
            have e0 : txt (showF (j : Int) zs[j]) = ⟨#[]⟩ := by rw [HS]; rfl
            rw [e0] at CF
            clear he z2 HS e0
            generalize zs[j] = z at *
            go_wp2_with fail
            refine (CF.out _ HT2.out).mono ?_
            rintro e w2 ⟨rfl, b2⟩
            go_wp2
            go_ret
            exact ⟨ret_str (by rw [HE.out]; rfl), hb.trans (b2.mono hb.size)⟩
          · have h20 : zs[j].length ≤ 200 := by omega
            have HO2 : Hid (okTo zs (j + 1)) := OS.out j hj2 HO.out he h20
            have HL2 : Hid (_ = _) := LS.out j hj2
            have z1 : (txt (logTo zs j)).size ≤ 87205 := LL.out j hj HO.out
            have HF : Hid (showF (j : Int) zs[j] = frame j zs[j]) := showF_in j zs[j] (by omega) h20
            have hne : frame j zs[j] ≠ [] := fun h => by have := frame_pos j zs[j]; rw [h] at this; simp at this
            have hz3 : ((txt (frame j zs[j])).toList == []) = false := by
              rw [beq_eq_false_iff_ne]; unfold txt; rw [ByteArray.toList_mk]; exact hne
            rw [HF.out] at z2 CF
            rw [txt_size] at z1 z2
            clear he hne
            generalize zs[j] = z at *
            generalize frame j z = fz at *
            generalize logTo zs j = L at *
            go_wp2_with fail
            refine (CF.out _ HT2.out).mono ?_
            rintro e w2 ⟨rfl, b2⟩
            have B2 := hb.trans (b2.mono hb.size)
            have D2 : Hid (Bld w.heap.size w.heap.size L w2) := bld_later HD.out b2
            go_wp2_with fail
            refine (write_calls w.heap.size w.heap.size L fz _ D2.out (by omega) B2.size).mono ?_
            rintro e w3 ⟨rfl, D3, b3⟩
            have D4 : Hid (Bld w.heap.size w.heap.size (L ++ fz) w3) := D3
            have B3 := B2.trans b3
            clear D3
            go_wp2
            go_roundw
            case rel => exact ⟨j + 1, by omega, by go_num, by rw [HL2.out]; exact D4, HO2, B3⟩
            case measure => simp [intOf]; omega
      · obtain rfl : j = n := by omega
        have HE : Hid (_ = _) := LA.out HO.out
        have z1 : (logTo zs j).length ≤ 87205 := LL.out j hj HO.out
        have z2 : (showF (j : Int) []).length ≤ 218 := showF_length _ _
        have HF : Hid (showF (j : Int) [] = frame j []) := showF_in j [] (by omega) (by simp)
        have CF : Hid (∀ X, TabAt X → _) := fun X hX => iShowFrame_calls (j : Int) [] X (by simp) hX
        rw [HF.out] at z2 CF
        generalize frame j [] = fz at *
        generalize logTo zs j = L at *
        go_wp2_with fail
        refine (CF.out _ HT2.out).mono ?_
        rintro e w2 ⟨rfl, b2⟩
        have B2 := hb.trans (b2.mono hb.size)
        have D2 : Hid (Bld w.heap.size w.heap.size L w2) := bld_later HD.out b2
        go_wp2_with fail
        refine (write_calls w.heap.size w.heap.size L fz _ D2.out (by omega) B2.size).mono ?_
        rintro e w3 ⟨rfl, D3, b3⟩
        have D4 : Hid (Bld w.heap.size w.heap.size (L ++ fz) w3) := D3
        have B3 := B2.trans b3
        clear D3
        go_wp2_with fail
        refine (Tryd.Builder_String_any w.heap.size w.heap.size (L ++ fz) _ D4.out B3.size).mono ?_
        rintro e w4 ⟨rfl, b4⟩
        have B4 := B3.trans b4
        go_wp2
        go_ret
        exact ⟨ret_str (by rw [← HE.out]; rfl), B4⟩

end Go.Proofs.YtcjpepdagnifiaaDoor

namespace Go.Proofs.YtcjpepdagnifiaaDoor
open Go.RowKit
set_option linter.unusedVariables false
set_option maxRecDepth 100000

set_option maxHeartbeats 2000000 in
theorem iEncode_calls (w : World) (a : Option Addr) (cap : Nat) (os : List OpD) (b : Option Addr) (cap2 : Nat) (zs : List AnsD) (h1 : RdQ w a os) (h2 : RdY w b zs) (hn : os.length ≤ 1048576) (hm : zs.length ≤ 1048576) (so : ∀ o ∈ os, SaneOp o ∧ o.site.length ≤ 1048576) (sz : ∀ z ∈ zs, SaneA z ∧ z.freed.length ≤ 1048576) (T : List UInt8) (hT : EncT os zs T showL) {ev : Value} (E : EvE w ev) (ht : TabAt w) :
    Calls Tryd.prog 21 #[.slice a os.length cap, .slice b zs.length cap2] w fun e w' => e = .returned (.string (txt T)) ∧ Below w.heap.size w w' := by
  by_cases hlen : os.length = zs.length
  case neg =>
    have h0 := hT.len hlen
    subst h0
    have hne : ((os.length : Int) != (zs.length : Int)) = true := by rw [bne_iff_ne]; omega
    generalize os.length = n at *
    generalize zs.length = m at *
    clear h1 h2
    go_enter Tryd.func21, Tryd.ntmps21
    go_wp2
    go_ret
    exact ⟨rfl, Below.refl _ _⟩
  case pos =>
  by_cases h400 : 400 ≤ os.length
  · have h0 := hT.many h400
    subst h0
    have hge : (400 : Int) ≤ (os.length : Int) := by omega
    have hne : ((os.length : Int) != (zs.length : Int)) = false := by rw [hlen]; simp
    rw [← hlen] at hne ⊢
    generalize os.length = n at *
    clear h1 h2 hT hlen
    go_enter Tryd.func21, Tryd.ntmps21
    go_wp2
    go_ret
    exact ⟨rfl, Below.refl _ _⟩
  have HA : Hid (∀ X, Below w.heap.size w X → RdQ X a os) := fun X hX => rdQ_later h1 hX
  have HC : Hid (∀ X, Below w.heap.size w X → RdY X b zs) := fun X hX => rdY_later h2 hX
  have HT : Hid (EncT os zs T showL) := hT
  have HSO : Hid (∀ o ∈ os, SaneOp o ∧ o.site.length ≤ 1048576) := so
  have HSZ : Hid (∀ z ∈ zs, SaneA z ∧ z.freed.length ≤ 1048576) := sz
  have HE : Hid (∀ X, Below w.heap.size w X → EvE X ev) := fun X hX => evE_later E hX
  have HTB : Hid (∀ X, Below w.heap.size w X → TabAt X) := fun X hX => tab_below ht hX (tab_pos ht)
  have CL : Hid (∀ (X : World) (p : Option Addr) (k : Nat) (ts : List (List UInt8)), TabAt X → RdS X p ts → ts.length ≤ 16777216 → (∀ t ∈ ts, t.length ≤ 1048576) → _) := fun X p k ts h0 h1 h2 h3 => iShowLog_calls X p k ts h0 h1 h2 h3
  obtain ⟨n, hnn⟩ : ∃ n, os.length = n := ⟨_, rfl⟩
  have Hn : Hid (os.length = n) := hnn
  have Hm : Hid (zs.length = n) := hlen.symm.trans hnn
  rw [hnn] at h400 ⊢
  rw [Hm.out]
  have h4 : n < 400 := by omega
  have h4i : (n : Int) < 400 := by omega
  have h4n : ¬ ((400 : Int) ≤ (n : Int)) := by omega
  clear h1 h2 hT so sz hnn hlen hn hm h400 E ht
  obtain ⟨V, hV⟩ : ∃ V, V = w.alloc (.cells #[.int .i64 0, .slice none 0 0] 31) := ⟨_, rfl⟩
  have HS0 : Hid (ES w w.heap.size ⟨0, []⟩ [] none 0 none 0 0 V) := by
    have hb1 : Below w.heap.size w (w.alloc (.cells #[.int .i64 0, .slice none 0 0] 31)) := (Below.refl _ _).alloc (Nat.le_refl _) _
    rw [hV]
    exact ⟨Two.new w _ _, ownS_nil _ _, ownS_nil _ _, fun g _ h => (by simp [Value.ownBlock] at h), hb1, Nat.le_refl _⟩
  go_enter Tryd.func21, Tryd.ntmps21
  go_wp2
  rw [← hV]
  clear hV
  go_loopw [6, 23] (fun out i wr => ∃ (j : Nat) (P : PenD) (ts : List (List UInt8)) (x : Option Addr) (c : Nat) (y : Option Addr) (k : Nat), out = .slice y j k ∧ i = .int .i64 (j : Int) ∧ j ≤ n ∧ Hid (EncR os zs j P ts) ∧ Hid (ES w w.heap.size P ts x c y j k wr)) (fun _ i _ => n - (intOf i).toNat)
  case atStart => exact ⟨0, ⟨0, []⟩, [], none, 0, none, 0, rfl, rfl, Nat.zero_le _, ⟨rfl, rfl⟩, HS0⟩
  case round =>
    obtain ⟨j, P, ts, x, c, y, k, rfl, rfl, hj, HR, HS⟩ := hrel
    clear HS0
    have HWS : Hid (w.heap.size ≤ wr.heap.size) := HS.out.bel.size
    by_cases hlt : j < n
    · have hj1 : j < os.length := by have := Hn.out; omega
      have hj2 : j < zs.length := by have := Hm.out; omega
      obtain ⟨ga, oa, rfl, hga, hoa⟩ := HA.out wr HS.out.bel j hj1
      obtain ⟨gb, ob, fb, cb, rfl, hgb, hob, hfb⟩ := HC.out wr HS.out.bel j hj2
      have hsm := small_names HR.out (by omega)
      obtain ⟨hso, hsite⟩ := HSO.out os[j] (List.getElem_mem hj1)
      obtain ⟨hsz, hfl⟩ := HSZ.out zs[j] (List.getElem_mem hj2)
      obtain ⟨q, hq⟩ := bool_of (EvR P os[j] zs[j])
      have HNO : Hid (q = false → T = []) := fun e => HT.out.no (by have := Hn.out; have := Hm.out; omega) j hj1 hj2 P ts HR.out (fun h => by rw [hq.2 h] at e; cases e)
      have HYES : Hid (q = true → EncR os zs (j + 1) (penB P os[j]) (ts ++ [evT P os[j] zs[j]]) ∧ evT P os[j] zs[j] ≠ []) := fun e => ⟨⟨P, ts, hj1, hj2, HR.out, hq.1 e, rfl, rfl⟩, evT_some (hq.1 e)⟩
      have HP : Hid (∀ X, Below wr.heap.size wr X → RdP X (.agg #[.int .i64 P.last, .slice x P.sites.length c]) P) := fun X hX => by
        obtain ⟨y', c', e, hr⟩ := rdS_own (row_later HS.out.nm hX)
        simp only [Value.slice.injEq] at e
        obtain ⟨rfl, -, rfl⟩ := e
        exact ⟨x, c, rfl, hr.out⟩
      have CS : Hid (∀ X, Below wr.heap.size wr X → _) := fun X hX => iShowEvent_calls (.agg #[.int .i64 P.last, .slice x P.sites.length c]) (.agg #[.int .i64 zs[j].code, .int .i64 zs[j].val, .slice fb zs[j].freed.length cb]) P os[j] zs[j] X (HP.out X hX) ⟨fb, cb, rfl, rdI_later hfb hX⟩ hsm hsite hso hfl hsz.freed ev (HE.out X (HS.out.bel.trans (hX.mono HS.out.bel.size))) q hq
      have HO : Hid (∀ X, Below wr.heap.size wr X → OpLie X ga (oa + j * 5) os[j]) := fun X hX => hoa.keep (fun k => hX.cell (p := ⟨ga, k, none⟩) hga)
      have HB : Hid (∀ X, Below wr.heap.size wr X → AnLie X gb (ob + j * 3) zs[j] (.slice fb zs[j].freed.length cb)) := fun X hX => hob.keep (fun k => hX.cell (p := ⟨gb, k, none⟩) hgb)
      clear hsm hso hsite hsz hfl hfb hq HP hoa hob
      generalize evT P os[j] zs[j] = tx at *
      generalize penB P os[j] = PB at *
      generalize os[j] = o at *
      generalize zs[j] = A at *
      unfold opV at CS
      have HPC : Hid (∀ X, Below wr.heap.size wr X → Two X w.heap.size (.int .i64 P.last) (.slice x P.sites.length c)) := fun X hX => HS.out.pen.later hX
      obtain ⟨T1, hT1⟩ : ∃ T1, (if q then tx else []) = T1 := ⟨_, rfl⟩
      obtain ⟨Q1, hQ1⟩ : ∃ Q1, (if q then PB else P) = Q1 := ⟨_, rfl⟩
      rw [hT1, hQ1] at CS
      have HT1 : Hid ((if q then tx else []) = T1) := hT1
      have HQ1 : Hid ((if q then PB else P) = Q1) := hQ1
      clear hT1 hQ1 HA HC HSO HSZ CL
      have hi1 : (j : Int) < (n : Int) := by omega
      obtain ⟨o0, o1, o2, o3, o4⟩ := HO.out wr (Below.refl _ _)
      obtain ⟨wr1, hwr1⟩ : ∃ wr1, wr1 = wr.alloc (.cells #[.int .i64 o.kind, .int .i64 o.a, .int .i64 o.b, .int .i64 o.c, .string (txt o.site)] 27) := ⟨_, rfl⟩
      have BW1 : Below wr.heap.size wr wr1 := by rw [hwr1]; exact (Below.refl _ _).alloc (Nat.le_refl _) _
      have HOB : Hid (wr1.heap[wr.heap.size]? = some (.cells #[.int .i64 o.kind, .int .i64 o.a, .int .i64 o.b, .int .i64 o.c, .string (txt o.site)] 27 (0, 0))) := by rw [hwr1]; exact heap_alloc_new wr _
      have hlt1 : wr.heap.size < wr1.heap.size := by rw [hwr1]; simp
      have HWS : Hid (w.heap.size ≤ wr1.heap.size) := Nat.le_trans HWS.out BW1.size
      have HUP : Hid (∀ X, Below wr1.heap.size wr1 X → Below wr.heap.size wr X) := fun X hX => BW1.trans (hX.mono BW1.size)
      have HOL : Hid (∀ X, Below wr1.heap.size wr1 X → OpLie X wr.heap.size 0 o) := fun X hX => by
        have h : X.heap[wr.heap.size]? = some (.cells #[.int .i64 o.kind, .int .i64 o.a, .int .i64 o.b, .int .i64 o.c, .string (txt o.site)] 27 (0, 0)) := (hX.block _ hlt1).trans HOB.out
        exact ⟨by rw [Lib.cell_of_heap h]; rfl, by rw [Lib.cell_of_heap h]; rfl, by rw [Lib.cell_of_heap h]; rfl, by rw [Lib.cell_of_heap h]; rfl, by rw [Lib.cell_of_heap h]; rfl⟩
      have HS1 : Hid (ES w w.heap.size P ts x c y j k wr1) := HS.out.later BW1
      clear BW1 HOB hlt1
      go_wp2
      rw [← hwr1]
      clear hwr1 o0 o1 o2 o3 o4
      refine wp_region_last 12 (by kernel_rfl) (by kernel_rfl) (RE [.agg #[.int .i64 P.last, .slice x P.sites.length c], .agg #[.int .i64 o.kind, .int .i64 o.a, .int .i64 o.b, .int .i64 o.c, .string (txt o.site)], .slice (some ⟨gb, ob, none⟩) n cap2, .int .i64 (j : Int), .pointer (some ⟨gb, ob + j * 3, none⟩), .agg #[.int .i64 A.code, .int .i64 A.val, .slice fb A.freed.length cb]] wr1.heap.size (txt T1) Q1) re_mono ?_ ?_
      · intro i o_ hi ho a X hX hA hdep
        have hUP := HUP.out X hX
        have hXs := hX.size
        match i, hi, ho with
        | 0, _, ho =>
          obtain rfl := Option.some.inj ho
          exact opLoadPn (alike_at hA (t := 5) (by kernel_rfl)) (HPC.out X hUP).cells ⟨_, rfl, Below.refl _ _, rfl⟩
        | 1, _, ho =>
          obtain rfl := Option.some.inj ho
          exact opLoadOpAt (alike_at hA (t := 8) (by kernel_rfl)) (HOL.out X hX) ⟨_, rfl, Below.refl _ _, rfl⟩
        | 2, _, ho =>
          obtain rfl := Option.some.inj ho
          exact opMove (alike_at hA (t := 1) (by kernel_rfl)) ⟨_, rfl, Below.refl _ _, rfl⟩
        | 3, _, ho =>
          obtain rfl := Option.some.inj ho
          exact opMove (alike_at hA (t := 7) (by kernel_rfl)) ⟨_, rfl, Below.refl _ _, rfl⟩
        | 4, _, ho =>
          obtain rfl := Option.some.inj ho
          have g0 : a.eval (.tmp 31) = .slice (some ⟨gb, ob, none⟩) n cap2 := hdep ⟨2, .data⟩ (by simp) rfl 31 rfl
          have g1 : a.eval (.tmp 32) = .int .i64 (j : Int) := hdep ⟨3, .data⟩ (by simp) rfl 32 rfl
          exact opIdxY g0 g1 hlt ⟨_, rfl, Below.refl _ _, rfl⟩
        | 5, _, ho =>
          obtain rfl := Option.some.inj ho
          have g0 : a.eval (.tmp 33) = .pointer (some ⟨gb, ob + j * 3, none⟩) := hdep ⟨4, .data⟩ (by simp) rfl 33 rfl
          exact opLoadAnAt g0 (HB.out X hUP) ⟨_, rfl, Below.refl _ _, rfl⟩
        | 6, _, ho =>
          obtain rfl := Option.some.inj ho
          have g0 : a.eval (.tmp 29) = .agg #[.int .i64 P.last, .slice x P.sites.length c] := hdep ⟨0, .data⟩ (by simp) rfl 29 rfl
          have g1 : a.eval (.tmp 30) = .agg #[.int .i64 o.kind, .int .i64 o.a, .int .i64 o.b, .int .i64 o.c, .string (txt o.site)] := hdep ⟨1, .data⟩ (by simp) rfl 30 rfl
          have g2 : a.eval (.tmp 34) = .agg #[.int .i64 A.code, .int .i64 A.val, .slice fb A.freed.length cb] := hdep ⟨5, .data⟩ (by simp) rfl 34 rfl
          exact opShI g0 g1 g2 (CS.out X hUP) (fun e w' ⟨u, h1, h2, h3⟩ => ⟨_, h1, _, rfl, h3, u, rfl, ownP_kpn h2 hXs⟩)
        | 7, _, ho =>
          obtain rfl := Option.some.inj ho
          have g0 : KRes wr1.heap.size (txt T1) Q1 X (a.eval (.tmp 35)) := hdep ⟨6, .data⟩ (by simp) rfl 35 rfl
          exact opMove rfl ⟨_, rfl, Below.refl _ _, g0⟩
        | 8, _, ho =>
          obtain rfl := Option.some.inj ho
          obtain ⟨u, e0, -⟩ : KRes wr1.heap.size (txt T1) Q1 X (a.eval (.tmp 28)) := hdep ⟨7, .data⟩ (by simp) rfl 28 rfl
          exact opEx0 e0 ⟨_, rfl, Below.refl _ _, rfl⟩
        | 9, _, ho =>
          obtain rfl := Option.some.inj ho
          obtain ⟨u, e0, hk⟩ : KRes wr1.heap.size (txt T1) Q1 X (a.eval (.tmp 28)) := hdep ⟨7, .data⟩ (by simp) rfl 28 rfl
          exact opEx1 e0 ⟨_, rfl, Below.refl _ _, hk⟩
        | 10, _, ho =>
          obtain rfl := Option.some.inj ho
          exact opAllocPen ⟨_, rfl, (Below.refl _ _).alloc (Nat.le_refl _) _, X.heap.size, rfl, hXs, Two.new X _ _⟩
        | 11, _, ho =>
          obtain rfl := Option.some.inj ho
          have g0 : a.eval (.tmp 36) = .string (txt T1) := hdep ⟨8, .data⟩ (by simp) rfl 36 rfl
          exact opAssignT g0 ⟨_, rfl, Below.refl _ _, rfl⟩
      · intro o_ ho a X hX hA hdep
        obtain rfl := Option.some.inj ho
        obtain ⟨gx, e1, gB, hf⟩ : KTwo wr1.heap.size X (a.eval (.tmp 10)) := hdep ⟨10, .data⟩ (by simp) rfl 10 rfl
        obtain ⟨yb, cb, e2, hob⟩ : KPn wr1.heap.size Q1 X (a.eval (.tmp 37)) := hdep ⟨9, .data⟩ (by simp) rfl 37 rfl
        have e6 : a.eval (.tmp 9) = .string (txt T1) := hdep ⟨11, .chain⟩ (by simp) rfl 9 rfl
        refine opStorePen e1 e2 hf ?_
        obtain ⟨us, hus, rfl⟩ := alike_tmps hA [29, 30, 31, 32, 33, 34, 35, 28, 36, 37, 10, 9] (by kernel_rfl)
        have e3 : us 10 = .pointer (some ⟨gx, 0, none⟩) := (hus 10).symm.trans e1
        have e6' : us 9 = .string (txt T1) := (hus 9).symm.trans e6
        have HTw : Hid (Two ((X.setCell ⟨gx, 0, none⟩ (.int .i64 Q1.last)).setCell ⟨gx, 1, none⟩ (.slice yb Q1.sites.length cb)) gx (.int .i64 Q1.last) (.slice yb Q1.sites.length cb)) := hf.set _ _
        have HOw : Hid (ownS ((X.setCell ⟨gx, 0, none⟩ (.int .i64 Q1.last)).setCell ⟨gx, 1, none⟩ (.slice yb Q1.sites.length cb)) wr1.heap.size (.slice yb Q1.sites.length cb) Q1.sites) := row_same hob (fun k hk => by
          obtain ⟨cur, hkk⟩ := row_kind hob k hk
          have hne := kind_ne hkk hf (by decide)
          rw [Below.heap_setCell _ _ _ _ (by exact hne), Below.heap_setCell _ _ _ _ (by exact hne)])
        have HBw : Hid (Below wr1.heap.size wr1 ((X.setCell ⟨gx, 0, none⟩ (.int .i64 Q1.last)).setCell ⟨gx, 1, none⟩ (.slice yb Q1.sites.length cb))) := (hX.setCell gB _).setCell gB _
        have HGb : Hid (wr1.heap.size ≤ gx) := gB
        clear hdep hA hus e1 e2 e6 hf hob ho hX gB
        generalize ((X.setCell ⟨gx, 0, none⟩ (.int .i64 Q1.last)).setCell ⟨gx, 1, none⟩ (.slice yb Q1.sites.length cb)) = Y1 at *
        simp only [List.mapIdx_cons, List.mapIdx_nil, Nat.reduceAdd, List.contains_cons, List.contains_nil, Nat.reduceBEq, Bool.or_false, Bool.or_true, if_true, if_false, Bool.false_eq_true, e3, e6']
        clear e3 e6'
        clear HO HB HPC CS HOL
        have HSY : Hid (ES w w.heap.size P ts x c y j k Y1) := HS1.out.later HBw.out
        have HOB1 : Hid (∀ g, (Value.slice y j k).ownBlock = some g → g < wr1.heap.size) := fun g hg => (World.ownsRow.lt HS1.out.out g hg).2
        clear HS HS1 HBw HUP
        cases q with
        | false =>
          have hT0 := HNO.out rfl
          subst hT0
          have hT2 : [] = T1 := HT1.out
          subst hT2
          have hes : (txt []).toList.isEmpty = true := txt_none
          have HBE : Hid (Below w.heap.size w Y1) := HSY.out.bel
          clear HNO HYES HR HSY HT HT1 HQ1 HTw HOw HGb HOB1
          go_wp2
          go_ret
          exact ⟨rfl, HBE.out⟩
        | true =>
          obtain ⟨hR1, hne⟩ := HYES.out rfl
          have hT2 : tx = T1 := HT1.out
          subst hT2
          have hQ2 : PB = Q1 := HQ1.out
          subst hQ2
          have HR1 : Hid (EncR os zs (j + 1) PB (ts ++ [tx])) := hR1
          have hes : (txt tx).toList.isEmpty = false := txt_isEmpty hne
          clear HNO HYES HT1 HQ1 hR1 hne
          have htl : ts.length ≤ 1677720 := by have := (encR_names HR.out).2.1; omega
          have HGX : Hid (∀ g, (Value.slice yb PB.sites.length cb).ownBlock = some g → wr1.heap.size ≤ g ∧ g < Y1.heap.size) := fun g hg => World.ownsRow.lt HOw.out g hg
          obtain ⟨f0, f1⟩ := HTw.out.cells
          obtain ⟨p0, p1⟩ := HSY.out.pen.cells
          have z0 : Y1.frozen? ⟨w.heap.size, 0, none⟩ = false := Lib.frozen_of_heap HSY.out.pen 0
          have z1 : Y1.frozen? ⟨w.heap.size, 1, none⟩ = false := Lib.frozen_of_heap HSY.out.pen 1
          obtain ⟨U, hU⟩ : ∃ U, U = Y1.alloc (.cells #[.string (txt tx)] 9) := ⟨_, rfl⟩
          have BU : Below Y1.heap.size Y1 U := by rw [hU]; exact (Below.refl _ _).alloc (Nat.le_refl _) _
          have HUc : Hid (U.cell? ⟨Y1.heap.size, 0, none⟩ = some (.string (txt tx))) := by show _ = _; rw [hU, World.cell?_alloc_mark]; rfl
          have HUO : Hid (ownS U w.heap.size (.slice y j k) ts) := row_later HSY.out.out BU
          have HUB : Hid (Below Y1.heap.size Y1 U) := BU
          have HUS : Hid (w.heap.size ≤ U.heap.size) := Nat.le_trans HSY.out.bel.size BU.size
          have HUZ : Hid (U.heap.size = Y1.heap.size + 1) := by show _ = _; rw [hU]; simp
          clear BU
          go_wp2_with (at_builtin; rw [← hU]; clear hU; refine wpList_appendT rfl _ _ rfl w.heap.size (.slice y j k) ts rfl HUO.out ⟨Y1.heap.size, 0, none⟩ tx rfl HUc.out htl HUS.out ?_)
          intro v9 w9 h1 h2 h3 h4 h5
          obtain ⟨y9, k9, hv9, -⟩ := rdS_own h1
          have hl9 : (ts ++ [tx]).length = j + 1 := by have := (encR_names HR1.out).2.1; exact this
          rw [hl9] at hv9
          subst hv9
          have HS3 : Hid (ES w w.heap.size P (ts ++ [tx]) x c y9 (j + 1) k9 w9) := HSY.out.app HUB.out h1 h2 h3.out h4.out (h5.out w.heap.size U (Below.refl _ _) (Nat.le_refl _))
          have HT9 : Two w9 gx (.int .i64 PB.last) (.slice yb PB.sites.length cb) := (h3.out gx (by have := HTw.out.lt; have := HUZ.out; omega) (fun e => by have := HOB1.out gx e; have := HGb.out; omega)).trans ((HUB.out.block gx HTw.out.lt).trans HTw.out)
          have HO9 : ownS w9 w.heap.size (.slice yb PB.sites.length cb) PB.sites := row_same (ownS_mono (row_later HOw.out HUB.out) (by have := HWS.out; omega)) (fun g hg => h3.out g (by have := (HGX.out g hg).2; have := HUZ.out; omega) (fun e => by have := HOB1.out g e; have := (HGX.out g hg).1; omega))
          have HS4 : Hid (ES w w.heap.size PB (ts ++ [tx]) yb cb y9 (j + 1) k9 ((w9.setCell ⟨w.heap.size, 0, none⟩ (.int .i64 PB.last)).setCell ⟨w.heap.size, 1, none⟩ (.slice yb PB.sites.length cb))) := HS3.out.put HO9 (fun g hg hx => by
            rcases h4.out with e | e
            · rw [e] at hg; have := HOB1.out g hg; have := (HGX.out g hx).1; omega
            · rw [e] at hg; obtain rfl := Option.some.inj hg; have := (HGX.out _ hx).2; have := HUZ.out; omega)
          obtain ⟨n0, n1⟩ := HT9.cells
          obtain ⟨m0, m1⟩ := HS3.out.pen.cells
          have y0 : w9.frozen? ⟨w.heap.size, 0, none⟩ = false := Lib.frozen_of_heap HS3.out.pen 0
          have y1 : w9.frozen? ⟨w.heap.size, 1, none⟩ = false := Lib.frozen_of_heap HS3.out.pen 1
          clear h1 h2 h3 h4 h5 HUO HUB HUS HUZ HUc HSY HT9 HO9 HS3 HOB1 HGX HOw HTw HGb HR f0 f1 p0 p1 z0 z1
          go_wp2
          go_roundw
          case rel => exact ⟨j + 1, PB, ts ++ [tx], yb, cb, y9, k9, rfl, by go_num, by omega, HR1, HS4⟩
          case measure => simp [intOf]; omega
    · obtain rfl : j = n := by omega
      have hts := encR_names HR.out
      have hTe : T = showL ts := HT.out.yes (by have := Hn.out; have := Hm.out; omega) (by have := Hn.out; omega) P ts (by rw [Hn.out]; exact HR.out)
      obtain ⟨y', k', e', hrs⟩ := rdS_own HS.out.out
      simp only [Value.slice.injEq] at e'
      obtain ⟨rfl, -, rfl⟩ := e'
      have CL2 : Hid (∀ _ : Unit, _) := fun (_ : Unit) => CL.out wr y k ts (HTB.out wr HS.out.bel) hrs.out (by have := hts.2.1; omega) (fun t ht => by have := hts.2.2.2 t ht; omega)
      rw [hts.2.1] at CL2
      have HBE : Hid (Below w.heap.size w wr) := HS.out.bel
      subst hTe
      clear hts hrs HS HR HT CL
      go_wp2_with fail
      refine (CL2.out ()).mono ?_
      rintro e w1 ⟨rfl, b1⟩
      have B1 := HBE.out.trans (b1.mono HBE.out.size)
      go_wp2
      go_ret
      exact ⟨rfl, B1⟩

end Go.Proofs.YtcjpepdagnifiaaDoor
