/- What is scanned, told by what is reached: whatever the order, the outcome is one. -/
import Derived.Test.YtjhceoejblmihaaPaintMath
namespace Go.Proofs.Ytjhceoejblmihaa
open Go.RowKit
set_option linter.unusedVariables false
set_option maxRecDepth 100000

/-- What may be scanned, what may be painted. -/
structure ScHyp (H : HeapD) (T0 : TrialD) (A Q : Nat → Prop) : Prop where
  aa : ∀ i j : Nat, A i → cnt T0 i ≤ 0 → (j : Int) ∈ kidsOf H (i : Int) → col T0 j = 1 → A j
  aq : ∀ i : Nat, A i → 0 < cnt T0 i → Q i
  qq : ∀ i j : Nat, Q i → (j : Int) ∈ kidsOf H (i : Int) → col T0 j ≠ 0 → Q j
/-- T is T0, the slots P painted black again, the slots S white. -/
structure Sc (H : HeapD) (T0 : TrialD) (A Q : Nat → Prop) (T : TrialD) (P S : List Nat) : Prop where
  e : Eight T
  col : ∀ j, j < 8 → col T j = if j ∈ P then 0 else if j ∈ S then 2 else col T0 j
  cnt : ∀ j, j < 8 → cnt T j = stepN 1 ((flat H P).count (j : Int)) (cnt T0 j)
  nd : P.Nodup
  sl : ∀ k ∈ P, k < 8
  pno : ∀ k ∈ P, Go.Proofs.Ytjhceoejblmihaa.col T0 k ≠ 0
  shut : ∀ i ∈ P, ∀ j : Nat, (j : Int) ∈ kidsOf H (i : Int) → Go.Proofs.Ytjhceoejblmihaa.col T0 j ≠ 0 → j ∈ P
  wg : ∀ k ∈ S, k < 8 ∧ Go.Proofs.Ytjhceoejblmihaa.col T0 k = 1 ∧ Go.Proofs.Ytjhceoejblmihaa.cnt T0 k ≤ 0
  qs : ∀ k ∈ P, Q k
  ws : ∀ k ∈ S, A k
theorem sc_start (H : HeapD) (T : TrialD) (A Q : Nat → Prop) (h8 : Eight T) : Sc H T A Q T [] [] :=
  ⟨h8, fun j _ => by simp, fun j _ => by simp [flat, stepN], by simp, by simp, by simp, by simp, by simp, by simp, by simp⟩
theorem sc_gray {H : HeapD} {T0 T : TrialD} {A Q : Nat → Prop} {P S : List Nat} (h : Sc H T0 A Q T P S) {k : Nat} (hk : k < 8) (hg : col T k = 1) : k ∉ P ∧ k ∉ S ∧ col T0 k = 1 ∧ cnt T k = cnt T0 k := by
  have hc := h.col k hk
  rw [hg] at hc
  have h1 : k ∉ P := fun hm => by rw [if_pos hm] at hc; omega
  rw [if_neg h1] at hc
  have h2 : k ∉ S := fun hm => by rw [if_pos hm] at hc; omega
  rw [if_neg h2] at hc
  refine ⟨h1, h2, hc.symm, ?_⟩
  have h0 : (flat H P).count (k : Int) = 0 := List.count_eq_zero_of_not_mem (fun hm => by
    obtain ⟨i, hi, hz⟩ := mem_flat.1 hm
    exact h1 (h.shut i hi k hz (by omega)))
  rw [h.cnt k hk, h0]; rfl
theorem kid_lt {H : HeapD} {i j : Nat} (h : (j : Int) ∈ kidsOf H (i : Int)) : j < 8 := by
  have := kidsOf_slots H (i : Int) _ h
  omega
/-- Of what is not gray any more. -/
theorem sc_not {H : HeapD} {T0 T : TrialD} {A Q : Nat → Prop} {P S : List Nat} (h : Sc H T0 A Q T P S) {k : Nat} (hk : k < 8) (hg : col T k ≠ 1) (h0 : col T0 k = 1) : k ∈ P ∨ k ∈ S := by
  have hc := h.col k hk
  by_cases h1 : k ∈ P
  · exact .inl h1
  · rw [if_neg h1] at hc
    by_cases h2 : k ∈ S
    · exact .inr h2
    · rw [if_neg h2, h0] at hc; exact absurd hc hg
theorem sc_zero {H : HeapD} {T0 T : TrialD} {A Q : Nat → Prop} {P S : List Nat} (h : Sc H T0 A Q T P S) {j : Nat} (hj : j < 8) (hc : col T j ≠ 0) : j ∉ P ∧ col T0 j ≠ 0 := by
  have he := h.col j hj
  have h1 : j ∉ P := fun hm => by rw [if_pos hm] at he; exact hc he
  refine ⟨h1, ?_⟩
  rw [if_neg h1] at he
  by_cases h2 : j ∈ S
  · have := (h.wg j h2).2.1; omega
  · rw [if_neg h2] at he; rw [← he]; exact hc
theorem sc_black {H : HeapD} {T0 T : TrialD} {A Q : Nat → Prop} (hy : ScHyp H T0 A Q) {P S : List Nat} (h : Sc H T0 A Q T P S) {k : Nat} (hk : k < 8) (hg : col T k = 1) (hp : 0 < cnt T k) (hA : A k) :
    ∃ P', Sc H T0 A Q (spreadAll 1 0 H ⟨T.counts, T.colors.set k 0⟩ [(k : Int)]) P' S ∧ (∀ x ∈ P, x ∈ P') ∧ k ∈ P' := by
  obtain ⟨h1, h2, h3, h4⟩ := sc_gray h hk hg
  obtain ⟨C, hF⟩ := spread_fin 1 0 H T k h.e hk (by omega)
  have hz : ∀ j, j < 8 → col T j ≠ 0 → j ∉ P ∧ col T0 j ≠ 0 := fun j hj hc => sc_zero h hj hc
  have hQk : Q k := hy.aq k hA (by omega)
  have hQC : ∀ x ∈ C, Q x := fun x hx => hF.sound x hx Q hQk (fun i j hi hj hc => hy.qq i j hi hj (hz j (kid_lt hj) hc).2)
  refine ⟨P ++ C, ⟨hF.pt.e, fun j hj => ?_, fun j hj => ?_, ?_, ?_, ?_, ?_, h.wg, ?_, h.ws⟩, fun x hx => by simp [hx], by simp [hF.st]⟩
  · rw [hF.pt.col j hj, h.col j hj]
    by_cases hC : j ∈ C
    · simp [hC]
    · by_cases hP : j ∈ P
      · simp [hP]
      · simp [hC, hP]
  · rw [hF.pt.cnt j hj, h.cnt j hj, flat_append, List.count_append, stepN_add]
  · rw [List.nodup_append]
    exact ⟨h.nd, hF.nd, fun a ha b hb e => by subst e; exact (hz a (h.sl a ha) (hF.no a hb)).1 ha⟩
  · intro x hx
    rcases List.mem_append.1 hx with hx | hx
    · exact h.sl x hx
    · exact hF.sl x hx
  · intro x hx
    rcases List.mem_append.1 hx with hx | hx
    · exact h.pno x hx
    · exact (hz x (hF.sl x hx) (hF.no x hx)).2
  · intro i hi j hj hne
    rcases List.mem_append.1 hi with hi | hi
    · exact List.mem_append_left _ (h.shut i hi j hj hne)
    · by_cases hP : j ∈ P
      · exact List.mem_append_left _ hP
      · refine List.mem_append_right _ (hF.all i hi j hj ?_)
        rw [h.col j (kid_lt hj), if_neg hP]
        by_cases hS : j ∈ S
        · rw [if_pos hS]; omega
        · rw [if_neg hS]; exact hne
  · intro x hx
    rcases List.mem_append.1 hx with hx | hx
    · exact h.qs x hx
    · exact hQC x hx
theorem sc_white {H : HeapD} {T0 T : TrialD} {A Q : Nat → Prop} {P S : List Nat} (h : Sc H T0 A Q T P S) {k : Nat} (hk : k < 8) (hg : col T k = 1) (hp : ¬ 0 < cnt T k) (hA : A k) :
    Sc H T0 A Q ⟨T.counts, T.colors.set k 2⟩ P (S ++ [k]) := by
  obtain ⟨h1, h2, h3, h4⟩ := sc_gray h hk hg
  refine ⟨⟨h.e.1, by simpa using h.e.2⟩, fun j hj => ?_, h.cnt, h.nd, h.sl, h.pno, h.shut, ?_, h.qs, ?_⟩
  · show (T.colors.set k 2).getD j 0 = _
    rw [getD_set _ _ _ _ (by have := h.e.2; omega)]
    by_cases e : k = j
    · subst e; simp [h1]
    · rw [if_neg e]
      have hc := h.col j hj
      unfold Go.Proofs.Ytjhceoejblmihaa.col at hc
      rw [hc]
      have : ¬ j = k := fun x => e x.symm
      simp [this, Go.Proofs.Ytjhceoejblmihaa.col]
  · intro x hx
    rcases List.mem_append.1 hx with hx | hx
    · exact h.wg x hx
    · rw [List.mem_singleton.1 hx]; exact ⟨hk, h3, by omega⟩
  · intro x hx
    rcases List.mem_append.1 hx with hx | hx
    · exact h.ws x hx
    · rw [List.mem_singleton.1 hx]; exact hA

/-- The least of both. -/
def AS (H : HeapD) (T0 : TrialD) (s j : Nat) : Prop := ∀ U : Nat → Prop, (col T0 s = 1 → U s) → (∀ a b : Nat, U a → cnt T0 a ≤ 0 → (b : Int) ∈ kidsOf H (a : Int) → col T0 b = 1 → U b) → U j
def QS (H : HeapD) (T0 : TrialD) (s j : Nat) : Prop := ∀ U : Nat → Prop, (∀ a, AS H T0 s a → 0 < cnt T0 a → U a) → (∀ a b : Nat, U a → (b : Int) ∈ kidsOf H (a : Int) → col T0 b ≠ 0 → U b) → U j
theorem as_hyp (H : HeapD) (T0 : TrialD) (s : Nat) : ScHyp H T0 (AS H T0 s) (QS H T0 s) :=
  ⟨fun i j hi hc hj hg U h1 h2 => h2 i j (hi U h1 h2) hc hj hg, fun i hi hc U h1 _ => h1 i hi hc, fun i j hi hj hne U h1 h2 => h2 i j (hi U h1 h2) hj hne⟩
/-- All that is white leads to what is white or painted. -/
def Full (H : HeapD) (T0 : TrialD) (P S X : List Nat) : Prop := ∀ i ∈ X, ∀ j : Nat, (j : Int) ∈ kidsOf H (i : Int) → col T0 j = 1 → j ∈ P ∨ j ∈ S
structure FinS (H : HeapD) (T0 : TrialD) (s : Nat) (T : TrialD) (P S : List Nat) : Prop where
  sc : Sc H T0 (AS H T0 s) (QS H T0 s) T P S
  full : Full H T0 P S S
  st : col T0 s = 1 → s ∈ P ∨ s ∈ S
theorem fins_as {H : HeapD} {T0 T : TrialD} {s : Nat} {P S : List Nat} (h : FinS H T0 s T P S) (j : Nat) (hj : AS H T0 s j) : j ∈ P ∨ j ∈ S :=
  hj (fun x => x ∈ P ∨ x ∈ S) h.st (fun a b ha hc hb hg => by
    rcases ha with ha | ha
    · exact .inl (h.sc.shut a ha b hb (by omega))
    · exact h.full a ha b hb hg)
theorem fins_p {H : HeapD} {T0 T : TrialD} {s : Nat} {P S : List Nat} (h : FinS H T0 s T P S) (j : Nat) : j ∈ P ↔ QS H T0 s j :=
  ⟨h.sc.qs j, fun hq => hq (fun x => x ∈ P) (fun a ha hc => by
    rcases fins_as h a ha with h1 | h1
    · exact h1
    · have := (h.sc.wg a h1).2.2; omega) (fun a b ha hb hne => h.sc.shut a ha b hb hne)⟩
theorem fins_one {H : HeapD} {T0 A B : TrialD} {s : Nat} {P S P' S' : List Nat} (h1 : FinS H T0 s A P S) (h2 : FinS H T0 s B P' S') : A = B := by
  have hm : ∀ k, k ∈ P ↔ k ∈ P' := fun k => (fins_p h1 k).trans (fins_p h2 k).symm
  have hs : ∀ k, k ∉ P → (k ∈ S ↔ k ∈ S') := fun k hk => by
    constructor
    · intro h
      rcases fins_as h2 k (h1.sc.ws k h) with h | h
      · exact absurd ((hm k).2 h) hk
      · exact h
    · intro h
      rcases fins_as h1 k (h2.sc.ws k h) with h | h
      · exact absurd h hk
      · exact h
  have hp : P.Perm P' := (List.perm_ext_iff_of_nodup h1.sc.nd h2.sc.nd).2 hm
  refine eight_ext h1.sc.e h2.sc.e (fun j hj => ?_) (fun j hj => ?_)
  · rw [h1.sc.col j hj, h2.sc.col j hj]
    by_cases hP : j ∈ P
    · rw [if_pos hP, if_pos ((hm j).1 hP)]
    · rw [if_neg hP, if_neg (fun h => hP ((hm j).2 h))]
      by_cases hS : j ∈ S
      · rw [if_pos hS, if_pos ((hs j hP).1 hS)]
      · rw [if_neg hS, if_neg (fun h => hS ((hs j hP).2 h))]
  · rw [h1.sc.cnt j hj, h2.sc.cnt j hj, (flat_perm H hp).count_eq]

/-- The scan with a list of what waits. -/
structure ScW (H : HeapD) (T0 : TrialD) (s : Nat) (T : TrialD) (todo : List Int) (P S : List Nat) : Prop where
  sc : Sc H T0 (AS H T0 s) (QS H T0 s) T P S
  slots : Slots todo
  full : ∀ i ∈ S, ∀ j : Nat, (j : Int) ∈ kidsOf H (i : Int) → col T0 j = 1 → j ∈ P ∨ j ∈ S ∨ (j : Int) ∈ todo
  st : col T0 s = 1 → s ∈ P ∨ s ∈ S ∨ (s : Int) ∈ todo
  td : ∀ z ∈ todo, col T0 z.toNat = 1 → AS H T0 s z.toNat
theorem scw_step {H : HeapD} {T0 T : TrialD} {s : Nat} {rest : List Int} {k : Int} {P S : List Nat} (h : ScW H T0 s T (rest ++ [k]) P S) : ∃ P' S', ScW H T0 s (scanS H T rest k).1 (scanS H T rest k).2 P' S' := by
  have hk := h.slots k (by simp)
  have hk8 : k.toNat < 8 := by omega
  have ek : ((k.toNat : Nat) : Int) = k := by omega
  have hr : Slots rest := fun z hz => h.slots z (by simp [hz])
  have mv : ∀ (j : Nat) (P' S' : List Nat), (∀ x ∈ P, x ∈ P') → (∀ x ∈ S, x ∈ S') → (k.toNat ∈ P' ∨ k.toNat ∈ S' ∨ ¬ (j : Int) = k) → (j ∈ P ∨ j ∈ S ∨ (j : Int) ∈ rest ++ [k]) → j ∈ P' ∨ j ∈ S' ∨ (j : Int) ∈ rest := by
    intro j P' S' hP hS hkk hj
    rcases hj with hj | hj | hj
    · exact .inl (hP j hj)
    · exact .inr (.inl (hS j hj))
    · rcases List.mem_append.1 hj with hj | hj
      · exact .inr (.inr hj)
      · have e := List.mem_singleton.1 hj
        rcases hkk with hkk | hkk | hkk
        · left; rw [show j = k.toNat from by omega]; exact hkk
        · right; left; rw [show j = k.toNat from by omega]; exact hkk
        · exact absurd e hkk
  unfold scanS
  split
  · rename_i hg
    have hg2 : col T k.toNat ≠ 1 := hg
    refine ⟨P, S, h.sc, hr, fun i hi j hj hc => ?_, fun hc => ?_, fun z hz => h.td z (by simp [hz])⟩
    · refine mv j P S (fun _ hx => hx) (fun _ hx => hx) ?_ (h.full i hi j hj hc)
      by_cases e : (j : Int) = k
      · have e2 : j = k.toNat := by omega
        rcases sc_not h.sc hk8 hg2 (e2 ▸ hc) with h1 | h1
        · exact .inl h1
        · exact .inr (.inl h1)
      · exact .inr (.inr e)
    · refine mv s P S (fun _ hx => hx) (fun _ hx => hx) ?_ (h.st hc)
      by_cases e : (s : Int) = k
      · have e2 : s = k.toNat := by omega
        rcases sc_not h.sc hk8 hg2 (e2 ▸ hc) with h1 | h1
        · exact .inl h1
        · exact .inr (.inl h1)
      · exact .inr (.inr e)
  · rename_i hg
    have hg2 : col T k.toNat = 1 := Decidable.not_not.1 hg
    obtain ⟨q1, q2, q3, q4⟩ := sc_gray h.sc hk8 hg2
    have hA := h.td k (by simp) q3
    split
    · rename_i hp
      have hp2 : 0 < cnt T k.toNat := hp
      obtain ⟨P', h1, h2, h3⟩ := sc_black (as_hyp H T0 s) h.sc hk8 hg2 hp2 hA
      have eb : blackT H T k = spreadAll 1 0 H ⟨T.counts, T.colors.set k.toNat 0⟩ [((k.toNat : Nat) : Int)] := by unfold blackT; rw [ek]
      rw [eb]
      exact ⟨P', S, h1, hr, fun i hi j hj hc => mv j P' S h2 (fun _ hx => hx) (.inl h3) (h.full i hi j hj hc), fun hc => mv s P' S h2 (fun _ hx => hx) (.inl h3) (h.st hc), fun z hz => h.td z (by simp [hz])⟩
    · rename_i hp
      have hp2 : ¬ 0 < cnt T k.toNat := hp
      have h1 := sc_white h.sc hk8 hg2 hp2 hA
      have up : ∀ j : Nat, j ∈ P ∨ j ∈ S ++ [k.toNat] ∨ (j : Int) ∈ rest → j ∈ P ∨ j ∈ S ++ [k.toNat] ∨ (j : Int) ∈ rest ++ kidsOf H k := fun j hj => by
        rcases hj with hj | hj | hj
        · exact .inl hj
        · exact .inr (.inl hj)
        · exact .inr (.inr (List.mem_append_left _ hj))
      refine ⟨P, S ++ [k.toNat], h1, ?_, fun i hi j hj hc => ?_, fun hc => up s (mv s P (S ++ [k.toNat]) (fun _ hx => hx) (fun _ hx => by simp [hx]) (.inr (.inl (by simp))) (h.st hc)), fun z hz hc => ?_⟩
      · intro z hz
        rcases List.mem_append.1 hz with hz | hz
        · exact hr z hz
        · exact kidsOf_slots H k z hz
      · rcases List.mem_append.1 hi with hi | hi
        · exact up j (mv j P (S ++ [k.toNat]) (fun _ hx => hx) (fun _ hx => by simp [hx]) (.inr (.inl (by simp))) (h.full i hi j hj hc))
        · rw [List.mem_singleton.1 hi, ek] at hj
          exact .inr (.inr (List.mem_append_right _ hj))
      · rcases List.mem_append.1 hz with hz | hz
        · exact h.td z (by simp [hz]) hc
        · have hz7 := kidsOf_slots H k z hz
          exact (as_hyp H T0 s).aa k.toNat z.toNat hA (by omega) (by rw [ek, show ((z.toNat : Nat) : Int) = z from by omega]; exact hz) hc
theorem scw_scan {H : HeapD} (hs : SmallH H) {T0 : TrialD} {s : Nat} : ∀ (m f : Nat) {T : TrialD} {todo : List Int} {P S : List Nat}, ScW H T0 s T todo P S → nu (T, todo) ≤ m → m ≤ f → ∃ P' S', FinS H T0 s (scan H f T todo) P' S' := by
  have fin : ∀ {T : TrialD} {P S : List Nat}, ScW H T0 s T [] P S → FinS H T0 s T P S := fun {T P S} h => by
    refine ⟨h.sc, fun i hi j hj hc => ?_, fun hc => ?_⟩
    · rcases h.full i hi j hj hc with h1 | h1 | h1
      · exact .inl h1
      · exact .inr h1
      · cases h1
    · rcases h.st hc with h1 | h1 | h1
      · exact .inl h1
      · exact .inr h1
      · cases h1
  intro m
  induction m with
  | zero =>
    intro f T todo P S h hm hf
    have : todo = [] := List.eq_nil_of_length_eq_zero (by simp only [nu] at hm; omega)
    subst this
    rw [scan_nil]
    exact ⟨P, S, fin h⟩
  | succ m ih =>
    intro f T todo P S h hm hf
    rcases List.eq_nil_or_concat todo with rfl | ⟨rest, k, rfl⟩
    · rw [scan_nil]; exact ⟨P, S, fin h⟩
    · rw [List.concat_eq_append] at hm h ⊢
      obtain ⟨f, rfl⟩ : ∃ f', f = f' + 1 := ⟨f - 1, by omega⟩
      obtain ⟨P', S', h1⟩ := scw_step h
      obtain ⟨e1, e2, e3⟩ := scanS_ok H hs T rest k h.sc.e h.slots
      rw [scan_snoc]
      exact ih f h1 (by show nu (scanS H T rest k) ≤ m; omega) (by omega)
theorem scanT_fin (H : HeapD) (hs : SmallH H) (T : TrialD) (s : Nat) (h8 : Eight T) (hk : s < 8) : ∃ P S, FinS H T s (scanT H T (s : Int)) P S := by
  have w0 : ScW H T s T [(s : Int)] [] [] := by
    refine ⟨sc_start H T _ _ h8, fun z hz => ?_, fun i hi => (by cases hi), fun _ => .inr (.inr (by simp)), fun z hz hc => ?_⟩
    · rw [List.mem_singleton.1 hz]; omega
    · rw [List.mem_singleton.1 hz] at hc ⊢
      exact fun U h1 _ => h1 hc
  exact scw_scan hs _ _ w0 (Nat.le_refl _) (Nat.le_refl _)

/-- The scan by calls: what a call at slot k leaves. -/
def Scanned (H : HeapD) (T0 : TrialD) (A Q : Nat → Prop) (P S : List Nat) (k : Nat) (T' : TrialD) : Prop :=
  ∃ P2 S2, Sc H T0 A Q T' P2 S2 ∧ (∀ x ∈ P, x ∈ P2) ∧ (∀ x ∈ S, x ∈ S2) ∧ (∀ x ∈ S2, x ∉ S → ∀ j : Nat, (j : Int) ∈ kidsOf H (x : Int) → col T0 j = 1 → j ∈ P2 ∨ j ∈ S2) ∧ (col T0 k = 1 → k ∈ P2 ∨ k ∈ S2)
/-- In the midst: slot k is white, the first i of its kids are done. -/
def ScMid (H : HeapD) (T0 : TrialD) (A Q : Nat → Prop) (P S : List Nat) (k i : Nat) (T : TrialD) : Prop :=
  ∃ P2 S2, Sc H T0 A Q T P2 S2 ∧ (∀ x ∈ P, x ∈ P2) ∧ (∀ x ∈ S, x ∈ S2) ∧ k ∈ S2 ∧ (∀ x ∈ S2, x ∉ S → x ≠ k → ∀ j : Nat, (j : Int) ∈ kidsOf H (x : Int) → col T0 j = 1 → j ∈ P2 ∨ j ∈ S2) ∧ (∀ z ∈ (kidsOf H (k : Int)).take i, col T0 z.toNat = 1 → z.toNat ∈ P2 ∨ z.toNat ∈ S2) ∧ A k ∧ cnt T0 k ≤ 0
theorem scanned_no {H : HeapD} {T0 T : TrialD} {A Q : Nat → Prop} {P S : List Nat} {k : Nat} (h : Sc H T0 A Q T P S) (hk : k < 8) (hg : col T k ≠ 1) : Scanned H T0 A Q P S k T :=
  ⟨P, S, h, fun _ hx => hx, fun _ hx => hx, fun x hx hn => absurd hx hn, fun h0 => sc_not h hk hg h0⟩
theorem scanned_black {H : HeapD} {T0 T : TrialD} {A Q : Nat → Prop} (hy : ScHyp H T0 A Q) {P S : List Nat} {k : Nat} (h : Sc H T0 A Q T P S) (hk : k < 8) (hg : col T k = 1) (hp : 0 < cnt T k) (hA : col T0 k = 1 → A k) : Scanned H T0 A Q P S k (spreadAll 1 0 H ⟨T.counts, T.colors.set k 0⟩ [(k : Int)]) := by
  obtain ⟨P', h1, h2, h3⟩ := sc_black hy h hk hg hp (hA (sc_gray h hk hg).2.2.1)
  exact ⟨P', S, h1, h2, fun _ hx => hx, fun x hx hn => absurd hx hn, fun _ => .inl h3⟩
theorem scmid_start {H : HeapD} {T0 T : TrialD} {A Q : Nat → Prop} {P S : List Nat} {k : Nat} (h : Sc H T0 A Q T P S) (hk : k < 8) (hg : col T k = 1) (hp : ¬ 0 < cnt T k) (hA : col T0 k = 1 → A k) : ScMid H T0 A Q P S k 0 ⟨T.counts, T.colors.set k 2⟩ := by
  obtain ⟨q1, q2, q3, q4⟩ := sc_gray h hk hg
  refine ⟨P, S ++ [k], sc_white h hk hg hp (hA q3), fun _ hx => hx, fun _ hx => by simp [hx], by simp, fun x hx hn hne => ?_, fun z hz => (by simp at hz), hA q3, by omega⟩
  rcases List.mem_append.1 hx with hx | hx
  · exact absurd hx hn
  · exact absurd (List.mem_singleton.1 hx) hne
theorem scmid_step {H : HeapD} {T0 T : TrialD} {A Q : Nat → Prop} (hy : ScHyp H T0 A Q) {P S : List Nat} {k i : Nat} (h : ScMid H T0 A Q P S k i T) (hi : i < (kidsOf H (k : Int)).length) (z : Int) (hz : (kidsOf H (k : Int))[i] = z) :
    ∃ P2 S2, Sc H T0 A Q T P2 S2 ∧ (col T0 z.toNat = 1 → A z.toNat) ∧ (0 ≤ z ∧ z ≤ 7) ∧ ∀ T', Scanned H T0 A Q P2 S2 z.toNat T' → ScMid H T0 A Q P S k (i + 1) T' := by
  obtain ⟨P2, S2, h1, h2, h3, h4, h5, h6, h7, h8⟩ := h
  have hmem : z ∈ kidsOf H (k : Int) := hz ▸ List.getElem_mem hi
  have hzs := kidsOf_slots H (k : Int) z hmem
  refine ⟨P2, S2, h1, fun hc => hy.aa k z.toNat h7 h8 (by rw [show ((z.toNat : Nat) : Int) = z from by omega]; exact hmem) hc, hzs, fun T' hT => ?_⟩
  obtain ⟨P3, S3, g1, g2, g3, g4, g5⟩ := hT
  refine ⟨P3, S3, g1, fun x hx => g2 x (h2 x hx), fun x hx => g3 x (h3 x hx), g3 k h4, fun x hx hn hne j hj hc => ?_, fun y hy2 hc => ?_, h7, h8⟩
  · by_cases hxS : x ∈ S2
    · rcases h5 x hxS hn hne j hj hc with h | h
      · exact .inl (g2 j h)
      · exact .inr (g3 j h)
    · exact g4 x hx hxS j hj hc
  · rw [List.take_succ_eq_append_getElem hi, hz] at hy2
    rcases List.mem_append.1 hy2 with hy2 | hy2
    · rcases h6 y hy2 hc with h | h
      · exact .inl (g2 _ h)
      · exact .inr (g3 _ h)
    · rw [List.mem_singleton.1 hy2] at hc ⊢
      exact g5 hc
theorem scmid_end {H : HeapD} {T0 T : TrialD} {A Q : Nat → Prop} {P S : List Nat} {k i : Nat} (h : ScMid H T0 A Q P S k i T) (hi : (kidsOf H (k : Int)).length ≤ i) : Scanned H T0 A Q P S k T := by
  obtain ⟨P2, S2, h1, h2, h3, h4, h5, h6, -, -⟩ := h
  rw [List.take_of_length_le hi] at h6
  refine ⟨P2, S2, h1, h2, h3, fun x hx hn j hj hc => ?_, fun _ => .inr h4⟩
  by_cases e : x = k
  · subst e
    have := h6 (j : Int) hj (by simpa using hc)
    simpa using this
  · exact h5 x hx hn e j hj hc
theorem scanned_all {H : HeapD} (hs : SmallH H) {T T' : TrialD} {k : Nat} (h8 : Eight T) (hk : k < 8) (h : Scanned H T (AS H T k) (QS H T k) [] [] k T') : T' = scanT H T (k : Int) := by
  obtain ⟨P, S, h1, -, -, h4, h5⟩ := h
  obtain ⟨P', S', hF⟩ := scanT_fin H hs T k h8 hk
  exact fins_one (P := P) (S := S) ⟨h1, fun x hx => h4 x hx (by simp), h5⟩ hF

end Go.Proofs.Ytjhceoejblmihaa
