/- What is scanned, told by what is reached: whatever the order, the outcome is one. -/
import Derived.Test.YtjhdnachbahbmaaPaintMath
import Derived.Test.YtjhdnachbahbmaaRingWalks
import Derived.Test.YtjhdnachbahbmaaISlotWalks
import Derived.Test.YtjhdnachbahbmaaAnyOps
import Derived.Shelf.Strconv.Clone
import Derived.Test.YtjhdnachbahbmaaISlicesWalks
import Derived.Test.YtjhdnachbahbmaaHeapMath
import Derived.Test.YtjhdnachbahbmaaEmptyWalks
import Derived.Test.YtjhdnachbahbmaaLoseState
import Derived.Test.YtjhdnachbahbmaaFreeWalks
import Derived.Test.YtjhdnachbahbmaaRightLose
namespace Go.Proofs.Ytjhdnachbahbmaa
open Go.RowKit
set_option linter.unusedVariables false
set_option maxRecDepth 100000

/-- What may be scanned, what may be painted. -/
structure ScHyp (H : HeapD) (T0 : TrialD) (A Q : Nat → Prop) : Prop where
  aa : ∀ i j : Nat, A i → cnt T0 i ≤ 0 → (j : Int) ∈ kidsOf H (i : Int) → col T0 j = 1 → A j
  aq : ∀ i : Nat, A i → 0 < cnt T0 i → Q i
  qq : ∀ i j : Nat, Q i → (j : Int) ∈ kidsOf H (i : Int) → col T0 j ≠ 0 → Q j
/-- T is T0, the slots P painted black again, the slots S white. -/
structure Sc (H : HeapD) (T0 : TrialD) (A Q : Nat → Prop) (T : TrialD) (P S : List Nat) : Prop where
  e : Eight T
  col : ∀ j, j < 8 → col T j = if j ∈ P then 0 else if j ∈ S then 2 else col T0 j
  cnt : ∀ j, j < 8 → cnt T j = stepN 1 ((flat H P).count (j : Int)) (cnt T0 j)
  nd : P.Nodup
  sl : ∀ k ∈ P, k < 8
  pno : ∀ k ∈ P, Go.Proofs.Ytjhdnachbahbmaa.col T0 k ≠ 0
  shut : ∀ i ∈ P, ∀ j : Nat, (j : Int) ∈ kidsOf H (i : Int) → Go.Proofs.Ytjhdnachbahbmaa.col T0 j ≠ 0 → j ∈ P
  wg : ∀ k ∈ S, k < 8 ∧ Go.Proofs.Ytjhdnachbahbmaa.col T0 k = 1 ∧ Go.Proofs.Ytjhdnachbahbmaa.cnt T0 k ≤ 0
  qs : ∀ k ∈ P, Q k
  ws : ∀ k ∈ S, A k
theorem sc_start (H : HeapD) (T : TrialD) (A Q : Nat → Prop) (h8 : Eight T) : Sc H T A Q T [] [] :=
  ⟨h8, fun j _ => by simp, fun j _ => by simp [flat, stepN], by simp, by simp, by simp, by simp, by simp, by simp, by simp⟩
theorem sc_gray {H : HeapD} {T0 T : TrialD} {A Q : Nat → Prop} {P S : List Nat} (h : Sc H T0 A Q T P S) {k : Nat} (hk : k < 8) (hg : col T k = 1) : k ∉ P ∧ k ∉ S ∧ col T0 k = 1 ∧ cnt T k = cnt T0 k := by
  have hc := h.col k hk
  rw [hg] at hc
  have h1 : k ∉ P := fun hm => by rw [if_pos hm] at hc; omega
  rw [if_neg h1] at hc
  have h2 : k ∉ S := fun hm => by rw [if_pos hm] at hc; omega
  rw [if_neg h2] at hc
  refine ⟨h1, h2, hc.symm, ?_⟩
  have h0 : (flat H P).count (k : Int) = 0 := List.count_eq_zero_of_not_mem (fun hm => by
    obtain ⟨i, hi, hz⟩ := mem_flat.1 hm
    exact h1 (h.shut i hi k hz (by omega)))
  rw [h.cnt k hk, h0]; rfl
theorem kid_lt {H : HeapD} {i j : Nat} (h : (j : Int) ∈ kidsOf H (i : Int)) : j < 8 := by
  have := kidsOf_slots H (i : Int) _ h
  omega
/-- Of what is not gray any more. -/
theorem sc_not {H : HeapD} {T0 T : TrialD} {A Q : Nat → Prop} {P S : List Nat} (h : Sc H T0 A Q T P S) {k : Nat} (hk : k < 8) (hg : col T k ≠ 1) (h0 : col T0 k = 1) : k ∈ P ∨ k ∈ S := by
  have hc := h.col k hk
  by_cases h1 : k ∈ P
  · exact .inl h1
  · rw [if_neg h1] at hc
    by_cases h2 : k ∈ S
    · exact .inr h2
    · rw [if_neg h2, h0] at hc; exact absurd hc hg
theorem sc_zero {H : HeapD} {T0 T : TrialD} {A Q : Nat → Prop} {P S : List Nat} (h : Sc H T0 A Q T P S) {j : Nat} (hj : j < 8) (hc : col T j ≠ 0) : j ∉ P ∧ col T0 j ≠ 0 := by
  have he := h.col j hj
  have h1 : j ∉ P := fun hm => by rw [if_pos hm] at he; exact hc he
  refine ⟨h1, ?_⟩
  rw [if_neg h1] at he
  by_cases h2 : j ∈ S
  · have := (h.wg j h2).2.1; omega
  · rw [if_neg h2] at he; rw [← he]; exact hc
theorem sc_black {H : HeapD} {T0 T : TrialD} {A Q : Nat → Prop} (hy : ScHyp H T0 A Q) {P S : List Nat} (h : Sc H T0 A Q T P S) {k : Nat} (hk : k < 8) (hg : col T k = 1) (hp : 0 < cnt T k) (hA : A k) :
    ∃ P', Sc H T0 A Q (spreadAll 1 0 H ⟨T.counts, T.colors.set k 0⟩ [(k : Int)]) P' S ∧ (∀ x ∈ P, x ∈ P') ∧ k ∈ P' := by
  obtain ⟨h1, h2, h3, h4⟩ := sc_gray h hk hg
  obtain ⟨C, hF⟩ := spread_fin 1 0 H T k h.e hk (by omega)
  have hz : ∀ j, j < 8 → col T j ≠ 0 → j ∉ P ∧ col T0 j ≠ 0 := fun j hj hc => sc_zero h hj hc
  have hQk : Q k := hy.aq k hA (by omega)
  have hQC : ∀ x ∈ C, Q x := fun x hx => hF.sound x hx Q hQk (fun i j hi hj hc => hy.qq i j hi hj (hz j (kid_lt hj) hc).2)
  refine ⟨P ++ C, ⟨hF.pt.e, fun j hj => ?_, fun j hj => ?_, ?_, ?_, ?_, ?_, h.wg, ?_, h.ws⟩, fun x hx => by simp [hx], by simp [hF.st]⟩
  · rw [hF.pt.col j hj, h.col j hj]
    by_cases hC : j ∈ C
    · simp [hC]
    · by_cases hP : j ∈ P
      · simp [hP]
      · simp [hC, hP]
  · rw [hF.pt.cnt j hj, h.cnt j hj, flat_append, List.count_append, stepN_add]
  · rw [List.nodup_append]
    exact ⟨h.nd, hF.nd, fun a ha b hb e => by subst e; exact (hz a (h.sl a ha) (hF.no a hb)).1 ha⟩
  · intro x hx
    rcases List.mem_append.1 hx with hx | hx
    · exact h.sl x hx
    · exact hF.sl x hx
  · intro x hx
    rcases List.mem_append.1 hx with hx | hx
    · exact h.pno x hx
    · exact (hz x (hF.sl x hx) (hF.no x hx)).2
  · intro i hi j hj hne
    rcases List.mem_append.1 hi with hi | hi
    · exact List.mem_append_left _ (h.shut i hi j hj hne)
    · by_cases hP : j ∈ P
      · exact List.mem_append_left _ hP
      · refine List.mem_append_right _ (hF.all i hi j hj ?_)
        rw [h.col j (kid_lt hj), if_neg hP]
        by_cases hS : j ∈ S
        · rw [if_pos hS]; omega
        · rw [if_neg hS]; exact hne
  · intro x hx
    rcases List.mem_append.1 hx with hx | hx
    · exact h.qs x hx
    · exact hQC x hx
theorem sc_white {H : HeapD} {T0 T : TrialD} {A Q : Nat → Prop} {P S : List Nat} (h : Sc H T0 A Q T P S) {k : Nat} (hk : k < 8) (hg : col T k = 1) (hp : ¬ 0 < cnt T k) (hA : A k) :
    Sc H T0 A Q ⟨T.counts, T.colors.set k 2⟩ P (S ++ [k]) := by
  obtain ⟨h1, h2, h3, h4⟩ := sc_gray h hk hg
  refine ⟨⟨h.e.1, by simpa using h.e.2⟩, fun j hj => ?_, h.cnt, h.nd, h.sl, h.pno, h.shut, ?_, h.qs, ?_⟩
  · show (T.colors.set k 2).getD j 0 = _
    rw [getD_set _ _ _ _ (by have := h.e.2; omega)]
    by_cases e : k = j
    · subst e; simp [h1]
    · rw [if_neg e]
      have hc := h.col j hj
      unfold Go.Proofs.Ytjhdnachbahbmaa.col at hc
      rw [hc]
      have : ¬ j = k := fun x => e x.symm
      simp [this, Go.Proofs.Ytjhdnachbahbmaa.col]
  · intro x hx
    rcases List.mem_append.1 hx with hx | hx
    · exact h.wg x hx
    · rw [List.mem_singleton.1 hx]; exact ⟨hk, h3, by omega⟩
  · intro x hx
    rcases List.mem_append.1 hx with hx | hx
    · exact h.ws x hx
    · rw [List.mem_singleton.1 hx]; exact hA

/-- The least of both. -/
def AS (H : HeapD) (T0 : TrialD) (s j : Nat) : Prop := ∀ U : Nat → Prop, (col T0 s = 1 → U s) → (∀ a b : Nat, U a → cnt T0 a ≤ 0 → (b : Int) ∈ kidsOf H (a : Int) → col T0 b = 1 → U b) → U j
def QS (H : HeapD) (T0 : TrialD) (s j : Nat) : Prop := ∀ U : Nat → Prop, (∀ a, AS H T0 s a → 0 < cnt T0 a → U a) → (∀ a b : Nat, U a → (b : Int) ∈ kidsOf H (a : Int) → col T0 b ≠ 0 → U b) → U j
theorem as_hyp (H : HeapD) (T0 : TrialD) (s : Nat) : ScHyp H T0 (AS H T0 s) (QS H T0 s) :=
  ⟨fun i j hi hc hj hg U h1 h2 => h2 i j (hi U h1 h2) hc hj hg, fun i hi hc U h1 _ => h1 i hi hc, fun i j hi hj hne U h1 h2 => h2 i j (hi U h1 h2) hj hne⟩
/-- All that is white leads to what is white or painted. -/
def Full (H : HeapD) (T0 : TrialD) (P S X : List Nat) : Prop := ∀ i ∈ X, ∀ j : Nat, (j : Int) ∈ kidsOf H (i : Int) → col T0 j = 1 → j ∈ P ∨ j ∈ S
structure FinS (H : HeapD) (T0 : TrialD) (s : Nat) (T : TrialD) (P S : List Nat) : Prop where
  sc : Sc H T0 (AS H T0 s) (QS H T0 s) T P S
  full : Full H T0 P S S
  st : col T0 s = 1 → s ∈ P ∨ s ∈ S
theorem fins_as {H : HeapD} {T0 T : TrialD} {s : Nat} {P S : List Nat} (h : FinS H T0 s T P S) (j : Nat) (hj : AS H T0 s j) : j ∈ P ∨ j ∈ S :=
  hj (fun x => x ∈ P ∨ x ∈ S) h.st (fun a b ha hc hb hg => by
    rcases ha with ha | ha
    · exact .inl (h.sc.shut a ha b hb (by omega))
    · exact h.full a ha b hb hg)
theorem fins_p {H : HeapD} {T0 T : TrialD} {s : Nat} {P S : List Nat} (h : FinS H T0 s T P S) (j : Nat) : j ∈ P ↔ QS H T0 s j :=
  ⟨h.sc.qs j, fun hq => hq (fun x => x ∈ P) (fun a ha hc => by
    rcases fins_as h a ha with h1 | h1
    · exact h1
    · have := (h.sc.wg a h1).2.2; omega) (fun a b ha hb hne => h.sc.shut a ha b hb hne)⟩
theorem fins_one {H : HeapD} {T0 A B : TrialD} {s : Nat} {P S P' S' : List Nat} (h1 : FinS H T0 s A P S) (h2 : FinS H T0 s B P' S') : A = B := by
  have hm : ∀ k, k ∈ P ↔ k ∈ P' := fun k => (fins_p h1 k).trans (fins_p h2 k).symm
  have hs : ∀ k, k ∉ P → (k ∈ S ↔ k ∈ S') := fun k hk => by
    constructor
    · intro h
      rcases fins_as h2 k (h1.sc.ws k h) with h | h
      · exact absurd ((hm k).2 h) hk
      · exact h
    · intro h
      rcases fins_as h1 k (h2.sc.ws k h) with h | h
      · exact absurd h hk
      · exact h
  have hp : P.Perm P' := (List.perm_ext_iff_of_nodup h1.sc.nd h2.sc.nd).2 hm
  refine eight_ext h1.sc.e h2.sc.e (fun j hj => ?_) (fun j hj => ?_)
  · rw [h1.sc.col j hj, h2.sc.col j hj]
    by_cases hP : j ∈ P
    · rw [if_pos hP, if_pos ((hm j).1 hP)]
    · rw [if_neg hP, if_neg (fun h => hP ((hm j).2 h))]
      by_cases hS : j ∈ S
      · rw [if_pos hS, if_pos ((hs j hP).1 hS)]
      · rw [if_neg hS, if_neg (fun h => hS ((hs j hP).2 h))]
  · rw [h1.sc.cnt j hj, h2.sc.cnt j hj, (flat_perm H hp).count_eq]

/-- The scan with a list of what waits. -/
structure ScW (H : HeapD) (T0 : TrialD) (s : Nat) (T : TrialD) (todo : List Int) (P S : List Nat) : Prop where
  sc : Sc H T0 (AS H T0 s) (QS H T0 s) T P S
  slots : Slots todo
  full : ∀ i ∈ S, ∀ j : Nat, (j : Int) ∈ kidsOf H (i : Int) → col T0 j = 1 → j ∈ P ∨ j ∈ S ∨ (j : Int) ∈ todo
  st : col T0 s = 1 → s ∈ P ∨ s ∈ S ∨ (s : Int) ∈ todo
  td : ∀ z ∈ todo, col T0 z.toNat = 1 → AS H T0 s z.toNat
theorem scw_step {H : HeapD} {T0 T : TrialD} {s : Nat} {rest : List Int} {k : Int} {P S : List Nat} (h : ScW H T0 s T (rest ++ [k]) P S) : ∃ P' S', ScW H T0 s (scanS H T rest k).1 (scanS H T rest k).2 P' S' := by
  have hk := h.slots k (by simp)
  have hk8 : k.toNat < 8 := by omega
  have ek : ((k.toNat : Nat) : Int) = k := by omega
  have hr : Slots rest := fun z hz => h.slots z (by simp [hz])
  have mv : ∀ (j : Nat) (P' S' : List Nat), (∀ x ∈ P, x ∈ P') → (∀ x ∈ S, x ∈ S') → (k.toNat ∈ P' ∨ k.toNat ∈ S' ∨ ¬ (j : Int) = k) → (j ∈ P ∨ j ∈ S ∨ (j : Int) ∈ rest ++ [k]) → j ∈ P' ∨ j ∈ S' ∨ (j : Int) ∈ rest := by
    intro j P' S' hP hS hkk hj
    rcases hj with hj | hj | hj
    · exact .inl (hP j hj)
    · exact .inr (.inl (hS j hj))
    · rcases List.mem_append.1 hj with hj | hj
      · exact .inr (.inr hj)
      · have e := List.mem_singleton.1 hj
        rcases hkk with hkk | hkk | hkk
        · left; rw [show j = k.toNat from by omega]; exact hkk
        · right; left; rw [show j = k.toNat from by omega]; exact hkk
        · exact absurd e hkk
  unfold scanS
  split
  · rename_i hg
    have hg2 : col T k.toNat ≠ 1 := hg
    refine ⟨P, S, h.sc, hr, fun i hi j hj hc => ?_, fun hc => ?_, fun z hz => h.td z (by simp [hz])⟩
    · refine mv j P S (fun _ hx => hx) (fun _ hx => hx) ?_ (h.full i hi j hj hc)
      by_cases e : (j : Int) = k
      · have e2 : j = k.toNat := by omega
        rcases sc_not h.sc hk8 hg2 (e2 ▸ hc) with h1 | h1
        · exact .inl h1
        · exact .inr (.inl h1)
      · exact .inr (.inr e)
    · refine mv s P S (fun _ hx => hx) (fun _ hx => hx) ?_ (h.st hc)
      by_cases e : (s : Int) = k
      · have e2 : s = k.toNat := by omega
        rcases sc_not h.sc hk8 hg2 (e2 ▸ hc) with h1 | h1
        · exact .inl h1
        · exact .inr (.inl h1)
      · exact .inr (.inr e)
  · rename_i hg
    have hg2 : col T k.toNat = 1 := Decidable.not_not.1 hg
    obtain ⟨q1, q2, q3, q4⟩ := sc_gray h.sc hk8 hg2
    have hA := h.td k (by simp) q3
    split
    · rename_i hp
      have hp2 : 0 < cnt T k.toNat := hp
      obtain ⟨P', h1, h2, h3⟩ := sc_black (as_hyp H T0 s) h.sc hk8 hg2 hp2 hA
      have eb : blackT H T k = spreadAll 1 0 H ⟨T.counts, T.colors.set k.toNat 0⟩ [((k.toNat : Nat) : Int)] := by unfold blackT; rw [ek]
      rw [eb]
      exact ⟨P', S, h1, hr, fun i hi j hj hc => mv j P' S h2 (fun _ hx => hx) (.inl h3) (h.full i hi j hj hc), fun hc => mv s P' S h2 (fun _ hx => hx) (.inl h3) (h.st hc), fun z hz => h.td z (by simp [hz])⟩
    · rename_i hp
      have hp2 : ¬ 0 < cnt T k.toNat := hp
      have h1 := sc_white h.sc hk8 hg2 hp2 hA
      have up : ∀ j : Nat, j ∈ P ∨ j ∈ S ++ [k.toNat] ∨ (j : Int) ∈ rest → j ∈ P ∨ j ∈ S ++ [k.toNat] ∨ (j : Int) ∈ rest ++ kidsOf H k := fun j hj => by
        rcases hj with hj | hj | hj
        · exact .inl hj
        · exact .inr (.inl hj)
        · exact .inr (.inr (List.mem_append_left _ hj))
      refine ⟨P, S ++ [k.toNat], h1, ?_, fun i hi j hj hc => ?_, fun hc => up s (mv s P (S ++ [k.toNat]) (fun _ hx => hx) (fun _ hx => by simp [hx]) (.inr (.inl (by simp))) (h.st hc)), fun z hz hc => ?_⟩
      · intro z hz
        rcases List.mem_append.1 hz with hz | hz
        · exact hr z hz
        · exact kidsOf_slots H k z hz
      · rcases List.mem_append.1 hi with hi | hi
        · exact up j (mv j P (S ++ [k.toNat]) (fun _ hx => hx) (fun _ hx => by simp [hx]) (.inr (.inl (by simp))) (h.full i hi j hj hc))
        · rw [List.mem_singleton.1 hi, ek] at hj
          exact .inr (.inr (List.mem_append_right _ hj))
      · rcases List.mem_append.1 hz with hz | hz
        · exact h.td z (by simp [hz]) hc
        · have hz7 := kidsOf_slots H k z hz
          exact (as_hyp H T0 s).aa k.toNat z.toNat hA (by omega) (by rw [ek, show ((z.toNat : Nat) : Int) = z from by omega]; exact hz) hc
theorem scw_scan {H : HeapD} (hs : SmallH H) {T0 : TrialD} {s : Nat} : ∀ (m f : Nat) {T : TrialD} {todo : List Int} {P S : List Nat}, ScW H T0 s T todo P S → nu (T, todo) ≤ m → m ≤ f → ∃ P' S', FinS H T0 s (scan H f T todo) P' S' := by
  have fin : ∀ {T : TrialD} {P S : List Nat}, ScW H T0 s T [] P S → FinS H T0 s T P S := fun {T P S} h => by
    refine ⟨h.sc, fun i hi j hj hc => ?_, fun hc => ?_⟩
    · rcases h.full i hi j hj hc with h1 | h1 | h1
      · exact .inl h1
      · exact .inr h1
      · cases h1
    · rcases h.st hc with h1 | h1 | h1
      · exact .inl h1
      · exact .inr h1
      · cases h1
  intro m
  induction m with
  | zero =>
    intro f T todo P S h hm hf
    have : todo = [] := List.eq_nil_of_length_eq_zero (by simp only [nu] at hm; omega)
    subst this
    rw [scan_nil]
    exact ⟨P, S, fin h⟩
  | succ m ih =>
    intro f T todo P S h hm hf
    rcases List.eq_nil_or_concat todo with rfl | ⟨rest, k, rfl⟩
    · rw [scan_nil]; exact ⟨P, S, fin h⟩
    · rw [List.concat_eq_append] at hm h ⊢
      obtain ⟨f, rfl⟩ : ∃ f', f = f' + 1 := ⟨f - 1, by omega⟩
      obtain ⟨P', S', h1⟩ := scw_step h
      obtain ⟨e1, e2, e3⟩ := scanS_ok H hs T rest k h.sc.e h.slots
      rw [scan_snoc]
      exact ih f h1 (by show nu (scanS H T rest k) ≤ m; omega) (by omega)
theorem scanT_fin (H : HeapD) (hs : SmallH H) (T : TrialD) (s : Nat) (h8 : Eight T) (hk : s < 8) : ∃ P S, FinS H T s (scanT H T (s : Int)) P S := by
  have w0 : ScW H T s T [(s : Int)] [] [] := by
    refine ⟨sc_start H T _ _ h8, fun z hz => ?_, fun i hi => (by cases hi), fun _ => .inr (.inr (by simp)), fun z hz hc => ?_⟩
    · rw [List.mem_singleton.1 hz]; omega
    · rw [List.mem_singleton.1 hz] at hc ⊢
      exact fun U h1 _ => h1 hc
  exact scw_scan hs _ _ w0 (Nat.le_refl _) (Nat.le_refl _)

/-- The scan by calls: what a call at slot k leaves. -/
def Scanned (H : HeapD) (T0 : TrialD) (A Q : Nat → Prop) (P S : List Nat) (k : Nat) (T' : TrialD) : Prop :=
  ∃ P2 S2, Sc H T0 A Q T' P2 S2 ∧ (∀ x ∈ P, x ∈ P2) ∧ (∀ x ∈ S, x ∈ S2) ∧ (∀ x ∈ S2, x ∉ S → ∀ j : Nat, (j : Int) ∈ kidsOf H (x : Int) → col T0 j = 1 → j ∈ P2 ∨ j ∈ S2) ∧ (col T0 k = 1 → k ∈ P2 ∨ k ∈ S2)
/-- In the midst: slot k is white, the first i of its kids are done. -/
def ScMid (H : HeapD) (T0 : TrialD) (A Q : Nat → Prop) (P S : List Nat) (k i : Nat) (T : TrialD) : Prop :=
  ∃ P2 S2, Sc H T0 A Q T P2 S2 ∧ (∀ x ∈ P, x ∈ P2) ∧ (∀ x ∈ S, x ∈ S2) ∧ k ∈ S2 ∧ (∀ x ∈ S2, x ∉ S → x ≠ k → ∀ j : Nat, (j : Int) ∈ kidsOf H (x : Int) → col T0 j = 1 → j ∈ P2 ∨ j ∈ S2) ∧ (∀ z ∈ (kidsOf H (k : Int)).take i, col T0 z.toNat = 1 → z.toNat ∈ P2 ∨ z.toNat ∈ S2) ∧ A k ∧ cnt T0 k ≤ 0
theorem scanned_no {H : HeapD} {T0 T : TrialD} {A Q : Nat → Prop} {P S : List Nat} {k : Nat} (h : Sc H T0 A Q T P S) (hk : k < 8) (hg : col T k ≠ 1) : Scanned H T0 A Q P S k T :=
  ⟨P, S, h, fun _ hx => hx, fun _ hx => hx, fun x hx hn => absurd hx hn, fun h0 => sc_not h hk hg h0⟩
theorem scanned_black {H : HeapD} {T0 T : TrialD} {A Q : Nat → Prop} (hy : ScHyp H T0 A Q) {P S : List Nat} {k : Nat} (h : Sc H T0 A Q T P S) (hk : k < 8) (hg : col T k = 1) (hp : 0 < cnt T k) (hA : col T0 k = 1 → A k) : Scanned H T0 A Q P S k (spreadAll 1 0 H ⟨T.counts, T.colors.set k 0⟩ [(k : Int)]) := by
  obtain ⟨P', h1, h2, h3⟩ := sc_black hy h hk hg hp (hA (sc_gray h hk hg).2.2.1)
  exact ⟨P', S, h1, h2, fun _ hx => hx, fun x hx hn => absurd hx hn, fun _ => .inl h3⟩
theorem scmid_start {H : HeapD} {T0 T : TrialD} {A Q : Nat → Prop} {P S : List Nat} {k : Nat} (h : Sc H T0 A Q T P S) (hk : k < 8) (hg : col T k = 1) (hp : ¬ 0 < cnt T k) (hA : col T0 k = 1 → A k) : ScMid H T0 A Q P S k 0 ⟨T.counts, T.colors.set k 2⟩ := by
  obtain ⟨q1, q2, q3, q4⟩ := sc_gray h hk hg
  refine ⟨P, S ++ [k], sc_white h hk hg hp (hA q3), fun _ hx => hx, fun _ hx => by simp [hx], by simp, fun x hx hn hne => ?_, fun z hz => (by simp at hz), hA q3, by omega⟩
  rcases List.mem_append.1 hx with hx | hx
  · exact absurd hx hn
  · exact absurd (List.mem_singleton.1 hx) hne
theorem scmid_step {H : HeapD} {T0 T : TrialD} {A Q : Nat → Prop} (hy : ScHyp H T0 A Q) {P S : List Nat} {k i : Nat} (h : ScMid H T0 A Q P S k i T) (hi : i < (kidsOf H (k : Int)).length) (z : Int) (hz : (kidsOf H (k : Int))[i] = z) :
    ∃ P2 S2, Sc H T0 A Q T P2 S2 ∧ (col T0 z.toNat = 1 → A z.toNat) ∧ (0 ≤ z ∧ z ≤ 7) ∧ ∀ T', Scanned H T0 A Q P2 S2 z.toNat T' → ScMid H T0 A Q P S k (i + 1) T' := by
  obtain ⟨P2, S2, h1, h2, h3, h4, h5, h6, h7, h8⟩ := h
  have hmem : z ∈ kidsOf H (k : Int) := hz ▸ List.getElem_mem hi
  have hzs := kidsOf_slots H (k : Int) z hmem
  refine ⟨P2, S2, h1, fun hc => hy.aa k z.toNat h7 h8 (by rw [show ((z.toNat : Nat) : Int) = z from by omega]; exact hmem) hc, hzs, fun T' hT => ?_⟩
  obtain ⟨P3, S3, g1, g2, g3, g4, g5⟩ := hT
  refine ⟨P3, S3, g1, fun x hx => g2 x (h2 x hx), fun x hx => g3 x (h3 x hx), g3 k h4, fun x hx hn hne j hj hc => ?_, fun y hy2 hc => ?_, h7, h8⟩
  · by_cases hxS : x ∈ S2
    · rcases h5 x hxS hn hne j hj hc with h | h
      · exact .inl (g2 j h)
      · exact .inr (g3 j h)
    · exact g4 x hx hxS j hj hc
  · rw [List.take_succ_eq_append_getElem hi, hz] at hy2
    rcases List.mem_append.1 hy2 with hy2 | hy2
    · rcases h6 y hy2 hc with h | h
      · exact .inl (g2 _ h)
      · exact .inr (g3 _ h)
    · rw [List.mem_singleton.1 hy2] at hc ⊢
      exact g5 hc
theorem scmid_end {H : HeapD} {T0 T : TrialD} {A Q : Nat → Prop} {P S : List Nat} {k i : Nat} (h : ScMid H T0 A Q P S k i T) (hi : (kidsOf H (k : Int)).length ≤ i) : Scanned H T0 A Q P S k T := by
  obtain ⟨P2, S2, h1, h2, h3, h4, h5, h6, -, -⟩ := h
  rw [List.take_of_length_le hi] at h6
  refine ⟨P2, S2, h1, h2, h3, fun x hx hn j hj hc => ?_, fun _ => .inr h4⟩
  by_cases e : x = k
  · subst e
    have := h6 (j : Int) hj (by simpa using hc)
    simpa using this
  · exact h5 x hx hn e j hj hc
theorem scanned_all {H : HeapD} (hs : SmallH H) {T T' : TrialD} {k : Nat} (h8 : Eight T) (hk : k < 8) (h : Scanned H T (AS H T k) (QS H T k) [] [] k T') : T' = scanT H T (k : Int) := by
  obtain ⟨P, S, h1, -, -, h4, h5⟩ := h
  obtain ⟨P', S', hF⟩ := scanT_fin H hs T k h8 hk
  exact fins_one (P := P) (S := S) ⟨h1, fun x hx => h4 x hx (by simp), h5⟩ hF

end Go.Proofs.Ytjhdnachbahbmaa

namespace Go.Proofs.Ytjhdnachbahbmaa
open Go.RowKit
set_option linter.unusedVariables false
set_option maxRecDepth 100000

theorem iWhites_calls (v : Value) (T : TrialD) (w : World) (h : RdT w v T) (hs : SmallT T) :
    Calls Try.prog 58 #[v] w fun e w' => ∃ u, e = .returned u ∧ ownI w' w.heap.size u (whites T) ∧ Below w.heap.size w w' := by
  obtain ⟨aa, ac, ab, ad, rfl, -, ri⟩ := h
  have hn := hs.colors
  clear hs
  obtain ⟨W, hW⟩ : ∃ W, W = w.alloc (.cells #[.slice aa T.counts.length ac, .slice ab T.colors.length ad] 105) := ⟨_, rfl⟩
  have BW : Below w.heap.size w W := by rw [hW]; exact (Below.refl _ _).alloc (Nat.le_refl _) _
  have hsW : W.heap.size = w.heap.size + 1 := by rw [hW]; simp
  have hp : W.cell? ⟨w.heap.size, 1, none⟩ = some (.slice ab T.colors.length ad) := by rw [hW, World.cell?_alloc_mark]; rfl
  have H0 : Hid (whites T = [] ++ whiteL (T.colors.drop 0) ((0 : Nat) : Int)) := by show _ = _; unfold whites; rw [List.drop_zero]; rfl
  have HS : Hid (∀ (j : Nat) (h : j < T.colors.length), _) := fun j h => white_step T.colors j h
  have HN : Hid (∀ (j : Nat), T.colors.length ≤ j → whiteL (T.colors.drop j) (j : Int) = []) := fun j h => white_end T.colors j h _
  have HR2 : Hid (∀ X, Below W.heap.size W X → RdI X ab T.colors) := fun X hX => rdI_later (rdI_later ri BW) hX
  generalize whites T = Z at *
  generalize T.counts.length = nc at *
  generalize T.colors = zs at *
  obtain ⟨n, hnn⟩ : ∃ n, zs.length = n := ⟨_, rfl⟩
  have Hn : Hid (zs.length = n) := hnn
  rw [hnn] at hn hp hW ⊢
  clear ri hnn
  have HP : Hid (∀ X, Below W.heap.size W X → X.cell? ⟨w.heap.size, 1, none⟩ = some (.slice ab n ad)) := fun X hX => (hX.cell (p := ⟨w.heap.size, 1, none⟩) (by show w.heap.size < _; omega)).trans hp
  have HsW : Hid (W.heap.size = w.heap.size + 1) := hsW
  clear hp hsW
  go_enter Try.func58, Try.ntmps58
  go_wp2
  rw [← hW]
  clear hW
  go_loopw [3, 9] (fun v i wr => ∃ (j : Nat) (P : List Int), j ≤ n ∧ i = .int .i64 j ∧ P.length ≤ j ∧ Hid (Z = P ++ whiteL (zs.drop j) (j : Int)) ∧ ownI wr W.heap.size v P ∧ Below W.heap.size W wr) (fun _ i _ => n - (intOf i).toNat)
  case atStart => exact ⟨0, [], by omega, rfl, by simp, H0, ownI_nil _ _, Below.refl _ _⟩
  case round =>
    obtain ⟨j, P, hj, rfl, hPl, HJ, hown, hb⟩ := hrel
    have hp := HP.out _ hb
    by_cases hlt : j < n
    · have hj2 : j < zs.length := by have := Hn.out; omega
      obtain ⟨g, off, rfl, -, hc⟩ := HR2.out _ hb j hj2
      have HD : Hid (_ = _) := HS.out j hj2
      generalize zs[j] = z at *
      by_cases hz : z = 2
      · subst hz
        have HZ : Hid (Z = (P ++ [(j : Int)]) ++ whiteL (zs.drop (j + 1)) ((j + 1 : Nat) : Int)) := by show _ = _; rw [HJ.out, HD.out, if_pos rfl]; simp
        clear HD
        go_wp2_with (at_builtin; refine wpList_appendI rfl _ _ rfl W.heap.size _ P rfl (ownI_alloc _ hown) ⟨wr.heap.size, 0, none⟩ [(j : Int)] 1 1 rfl rfl ?hsrc ?hlen W (hb.alloc hb.size _) (Nat.le_refl _) ?_)
        case hsrc => exact src_int wr (j : Int)
        case hlen => rw [List.length_singleton]; omega
        · intro v4 w4 O4 B4
          go_wp2
          go_roundw
          case rel => exact ⟨j + 1, P ++ [(j : Int)], by omega, by go_num, by rw [List.length_append, List.length_singleton]; omega, HZ, O4, B4⟩
          case measure => simp [intOf]; omega
      · have HZ : Hid (Z = P ++ whiteL (zs.drop (j + 1)) ((j + 1 : Nat) : Int)) := by show _ = _; rw [HJ.out, HD.out, if_neg hz]
        clear HD
        go_wp2
        go_roundw
        case rel => exact ⟨j + 1, P, by omega, by go_num, by omega, HZ, hown, hb⟩
        case measure => simp [intOf]; omega
    · obtain rfl : j = n := by omega
      have HZ : Hid (Z = P) := by show _ = _; rw [HJ.out, HN.out j (by have := Hn.out; omega), List.append_nil]
      go_wp2
      go_ret
      exact ⟨_, rfl, HZ.out ▸ ownI_mono hown BW.size, BW.trans (hb.mono BW.size)⟩

theorem iKids_calls (v : Value) (H : HeapD) (s : Nat) (w : World) (h : RdH w v H) (hs : SmallH H) (hl : s < H.objs.length) (hf : ∀ z ∈ H.objs[s].field, in64 z) :
    Calls Try.prog 74 #[v, .int .i64 (s : Int)] w fun e w' => ∃ u, e = .returned u ∧ ownI w' w.heap.size u (kidL H H.objs[s].field) ∧ Below w.heap.size w w' := by
  have HRH : Hid (RdH w v H) := h
  obtain ⟨ao, co, aw, cw, ab, cb, sa, sc, rfl, ro, -, -, -⟩ := h
  have hn := hs.objs
  have hfl := hs.fields _ (List.getElem_mem hl)
  clear hs
  obtain ⟨W, hW⟩ : ∃ W, W = w.alloc (.cells #[.slice ao H.objs.length co, .slice aw H.weaks.length cw, .slice ab H.buffer.length cb, .slice sa H.sites.length sc] 33) := ⟨_, rfl⟩
  have BW : Below w.heap.size w W := by rw [hW]; exact (Below.refl _ _).alloc (Nat.le_refl _) _
  have hsW : W.heap.size = w.heap.size + 1 := by rw [hW]; simp
  have hp0 : W.cell? ⟨w.heap.size, 0, none⟩ = some (.slice ao H.objs.length co) := by rw [hW, World.cell?_alloc_mark]; rfl
  have hp1 : W.cell? ⟨w.heap.size, 1, none⟩ = some (.slice aw H.weaks.length cw) := by rw [hW, World.cell?_alloc_mark]; rfl
  have hp2 : W.cell? ⟨w.heap.size, 2, none⟩ = some (.slice ab H.buffer.length cb) := by rw [hW, World.cell?_alloc_mark]; rfl
  have hp3 : W.cell? ⟨w.heap.size, 3, none⟩ = some (.slice sa H.sites.length sc) := by rw [hW, World.cell?_alloc_mark]; rfl
  obtain ⟨g, off, f, fc, rfl, hg, hc, hr⟩ := ro s hl
  have hc6 := hc.c6
  have hcW : W.cell? ⟨g, off + s * 8 + 6, none⟩ = some (.slice f H.objs[s].field.length fc) := (BW.cell (p := ⟨g, off + s * 8 + 6, none⟩) hg).trans hc6
  have hrW : RdI W f H.objs[s].field := rdI_later hr BW
  have HRW : Hid (RdH W _ H) := rdH_later HRH.out BW
  have hgW : g < W.heap.size := by omega
  have HFC : Hid (∀ X, Below W.heap.size W X → X.cell? ⟨g, off + s * 8 + 6, none⟩ = some (.slice f H.objs[s].field.length fc)) := fun X hX => (hX.cell (p := ⟨g, off + s * 8 + 6, none⟩) hgW).trans hcW
  have HRI : Hid (∀ X, Below W.heap.size W X → RdI X f H.objs[s].field) := fun X hX => rdI_later hrW hX
  have HRX : Hid (∀ X, Below W.heap.size W X → RdH X _ H) := fun X hX => rdH_later HRW.out hX
  have HF : Hid (∀ z ∈ H.objs[s].field, in64 z) := hf
  clear hc hc6 hcW hr hrW HRW HRH ro hf hg
  generalize H.objs[s].field = zs at *
  have H0 : Hid (kidL H zs = [] ++ kidL H (zs.drop 0)) := by show _ = _; rw [List.drop_zero]; rfl
  have HS : Hid (∀ (j : Nat) (h : j < zs.length), _) := fun j h => kid_step H zs j h
  have HN : Hid (∀ (j : Nat), zs.length ≤ j → kidL H (zs.drop j) = []) := fun j h => kid_end H zs j h
  generalize hZ : kidL H zs = Z at *
  clear hZ
  obtain ⟨n, hnn⟩ : ∃ n, H.objs.length = n := ⟨_, rfl⟩
  have Hn : Hid (H.objs.length = n) := hnn
  have CS : Hid (∀ (z : Int) X, in64 z → RdH X _ H → _) := fun z X hz hX => iSlotOf_calls (.agg #[.slice (some ⟨g, off, none⟩) H.objs.length co, .slice aw H.weaks.length cw, .slice ab H.buffer.length cb, .slice sa H.sites.length sc]) H z X hX (by omega) hz.1 hz.2
  rw [hnn] at hn hp0 hW hl CS HRX ⊢
  clear hnn
  have hlt0 : w.heap.size < W.heap.size := by omega
  have HP : Hid (∀ X, Below W.heap.size W X → X.cell? ⟨w.heap.size, 0, none⟩ = some (.slice (some ⟨g, off, none⟩) n co) ∧ X.cell? ⟨w.heap.size, 1, none⟩ = some (.slice aw H.weaks.length cw) ∧ X.cell? ⟨w.heap.size, 2, none⟩ = some (.slice ab H.buffer.length cb) ∧ X.cell? ⟨w.heap.size, 3, none⟩ = some (.slice sa H.sites.length sc)) := fun X hX => ⟨(hX.cell (p := ⟨w.heap.size, 0, none⟩) hlt0).trans hp0, (hX.cell (p := ⟨w.heap.size, 1, none⟩) hlt0).trans hp1, (hX.cell (p := ⟨w.heap.size, 2, none⟩) hlt0).trans hp2, (hX.cell (p := ⟨w.heap.size, 3, none⟩) hlt0).trans hp3⟩
  have HsW : Hid (W.heap.size = w.heap.size + 1) := hsW
  clear hp0 hp1 hp2 hp3 hsW hlt0 hgW
  have w6 := HFC.out _ (Below.refl _ _)
  rw [hW] at w6
  have i0 : (s : Int) < (n : Int) := by omega
  go_enter Try.func74, Try.ntmps74
  go_wp2
  rw [← hW]
  clear hW w6
  go_loopw [5, 16] (fun v i wr => ∃ (j : Nat) (P : List Int), j ≤ zs.length ∧ i = .int .i64 j ∧ P.length ≤ j ∧ Hid (Z = P ++ kidL H (zs.drop j)) ∧ ownI wr W.heap.size v P ∧ Below W.heap.size W wr) (fun _ i _ => zs.length - (intOf i).toNat)
  case atStart => exact ⟨0, [], by omega, rfl, by simp, H0, ownI_nil _ _, Below.refl _ _⟩
  case round =>
    obtain ⟨j, P, hj, rfl, hPl, HJ, hown, hb⟩ := hrel
    obtain ⟨p0, p1, p2, p3⟩ := HP.out _ hb
    have hfc := HFC.out _ hb
    by_cases hlt : j < zs.length
    · obtain ⟨fg, fo, rfl, hfg, hcz⟩ := HRI.out _ hb j hlt
      have HD : Hid (_ = _) := HS.out j hlt
      have hz64 := HF.out _ (List.getElem_mem hlt)
      generalize zs[j] = z at *
      have CSX : Hid (∀ X, Below W.heap.size W X → _) := fun X hX => CS.out z X hz64 (HRX.out X hX)
      have i2 : (j : Int) < (zs.length : Int) := by omega
      obtain ⟨sl, hsl⟩ : ∃ sl, slotZ H z = sl := ⟨_, rfl⟩
      have hsl7 : -1 ≤ sl ∧ sl ≤ 7 := by
        rw [← hsl]
        unfold slotZ
        split
        · omega
        · split
          · omega
          · split <;> omega
      rw [hsl] at HD CSX
      clear hsl
      go_wp2_with fail
      refine (CSX.out _ hb).mono ?_
      rintro e X ⟨rfl, hX⟩
      have hown2 := ownI_later hown hX
      have hb2 := hb.trans (hX.mono hb.size)
      clear CSX hown hb p0 p1 p2 p3 hfc hcz
      by_cases hz : 0 ≤ sl
      · have HZ : Hid (Z = (P ++ [sl]) ++ kidL H (zs.drop (j + 1))) := by show _ = _; rw [HJ.out, HD.out, if_pos hz]; simp
        clear HD
        go_wp2_with (at_builtin; refine wpList_appendI rfl _ _ rfl W.heap.size _ P rfl (ownI_alloc _ hown2) ⟨X.heap.size, 0, none⟩ [sl] 1 1 rfl rfl ?hsrc ?hlen W (hb2.alloc hb2.size _) (Nat.le_refl _) ?_)
        case hsrc => exact src_int X sl
        case hlen => rw [List.length_singleton]; omega
        · intro v4 w4 O4 B4
          go_wp2
          go_roundw
          case rel => exact ⟨j + 1, P ++ [sl], by omega, by go_num, by rw [List.length_append, List.length_singleton]; omega, HZ, O4, B4⟩
          case measure => simp [intOf]; omega
      · have HZ : Hid (Z = P ++ kidL H (zs.drop (j + 1))) := by show _ = _; rw [HJ.out, HD.out, if_neg hz]
        clear HD
        go_wp2
        go_roundw
        case rel => exact ⟨j + 1, P, by omega, by go_num, by omega, HZ, hown2, hb2⟩
        case measure => simp [intOf]; omega
    · have e : zs.length ≤ j := by omega
      have HZ : Hid (Z = P) := by show _ = _; rw [HJ.out, HN.out j e, List.append_nil]
      go_wp2
      go_ret
      exact ⟨_, rfl, HZ.out ▸ ownI_mono hown BW.size, BW.trans (hb.mono BW.size)⟩

end Go.Proofs.Ytjhdnachbahbmaa

namespace Go.Proofs.Ytjhdnachbahbmaa
open Go.RowKit
set_option linter.unusedVariables false
set_option maxRecDepth 100000

/-- The cells of a trial in arrays: eight counts, eight colors. -/
def cells16 (T : TrialD) : List Value := (T.counts ++ T.colors).map intV
def arrV (T : TrialD) : Value := .agg (cells16 T).toArray
theorem eight_form {T : TrialD} (h : Eight T) : ∃ a0 a1 a2 a3 a4 a5 a6 a7 b0 b1 b2 b3 b4 b5 b6 b7 : Int, T = ⟨[a0, a1, a2, a3, a4, a5, a6, a7], [b0, b1, b2, b3, b4, b5, b6, b7]⟩ := by
  obtain ⟨xs, ys⟩ := T
  obtain ⟨h1, h2⟩ := h
  match xs, h1, ys, h2 with
  | [a0, a1, a2, a3, a4, a5, a6, a7], _, [b0, b1, b2, b3, b4, b5, b6, b7], _ => exact ⟨_, _, _, _, _, _, _, _, _, _, _, _, _, _, _, _, rfl⟩
/-- A block that holds a trial in arrays. -/
def Arr (X : World) (g : Nat) (T : TrialD) : Prop := X.heap[g]? = some (.cells (cells16 T).toArray 117 (0, 0))
theorem Arr.new (w : World) (T : TrialD) : Arr (w.alloc (.cells (cells16 T).toArray 117)) w.heap.size T := heap_alloc_new w _
theorem Arr.lt {X : World} {g : Nat} {T : TrialD} (h : Arr X g T) : g < X.heap.size := (Array.getElem?_eq_some_iff.1 h).1
theorem Arr.later {X Y : World} {g : Nat} {T : TrialD} (h : Arr X g T) (hb : Below X.heap.size X Y) : Arr Y g T := (hb.block g h.lt).trans h
theorem Arr.same {X Y : World} {g : Nat} {T : TrialD} (h : Arr X g T) (hs : Y.heap[g]? = X.heap[g]?) : Arr Y g T := hs.trans h
theorem Arr.cell {X : World} {g : Nat} {T : TrialD} (h : Arr X g T) (k : Nat) : X.cell? ⟨g, k, none⟩ = (cells16 T)[k]? := by
  have h' : X.heap[g]? = some (.cells (cells16 T).toArray 117 (0, 0)) := h
  simp [World.cell?, h']
theorem Arr.frozen {X : World} {g : Nat} {T : TrialD} (h : Arr X g T) (k : Nat) : X.frozen? ⟨g, k, none⟩ = false := by
  have h' : X.heap[g]? = some (.cells (cells16 T).toArray 117 (0, 0)) := h
  simp [World.frozen?, h']
theorem Arr.count {X : World} {g : Nat} {T : TrialD} (h : Arr X g T) (h8 : Eight T) (k : Nat) (hk : k < 8) : X.cell? ⟨g, k, none⟩ = some (.int .i64 (cnt T k)) := by
  rw [h.cell k]
  unfold cells16 cnt
  have hl : k < T.counts.length := by have := h8.1; omega
  rw [List.getElem?_map, List.getElem?_append_left hl, List.getElem?_eq_getElem hl, List.getD_eq_getElem?_getD, List.getElem?_eq_getElem hl]
  rfl
theorem Arr.color {X : World} {g : Nat} {T : TrialD} (h : Arr X g T) (h8 : Eight T) (k : Nat) (hk : k < 8) : X.cell? ⟨g, 8 + k, none⟩ = some (.int .i64 (col T k)) := by
  rw [h.cell (8 + k)]
  unfold cells16 col
  have hl : k < T.colors.length := by have := h8.2; omega
  rw [List.getElem?_map, List.getElem?_append_right (by have := h8.1; omega), show 8 + k - T.counts.length = k from by have := h8.1; omega, List.getElem?_eq_getElem hl, List.getD_eq_getElem?_getD, List.getElem?_eq_getElem hl]
  rfl
theorem Arr.setCount {X : World} {g : Nat} {T : TrialD} (h : Arr X g T) (h8 : Eight T) (k : Nat) (hk : k < 8) (z : Int) : Arr (X.setCell ⟨g, k, none⟩ (.int .i64 z)) g ⟨T.counts.set k z, T.colors⟩ := by
  have e := heap_setCell_same X g k _ _ (.int .i64 z) h
  have e2 : ((cells16 T).toArray.setIfInBounds k (.int .i64 z)) = (cells16 ⟨T.counts.set k z, T.colors⟩).toArray := by
    unfold cells16
    rw [List.setIfInBounds_toArray]
    simp only [List.map_append, List.map_set, intV]
    rw [List.set_append_left _ _ (by have := h8.1; simpa using by omega)]
  rw [e2] at e
  exact e
theorem Arr.setColor {X : World} {g : Nat} {T : TrialD} (h : Arr X g T) (h8 : Eight T) (k : Nat) (hk : k < 8) (z : Int) : Arr (X.setCell ⟨g, 8 + k, none⟩ (.int .i64 z)) g ⟨T.counts, T.colors.set k z⟩ := by
  have e := heap_setCell_same X g (8 + k) _ _ (.int .i64 z) h
  have e2 : ((cells16 T).toArray.setIfInBounds (8 + k) (.int .i64 z)) = (cells16 ⟨T.counts, T.colors.set k z⟩).toArray := by
    unfold cells16
    rw [List.setIfInBounds_toArray]
    simp only [List.map_append, List.map_set, intV]
    rw [List.set_append_right _ _ (by have := h8.1; simpa using by omega), List.length_map, show 8 + k - T.counts.length = k from by have := h8.1; omega]
  rw [e2] at e
  exact e

theorem arr_v (a0 a1 a2 a3 a4 a5 a6 a7 b0 b1 b2 b3 b4 b5 b6 b7 : Int) : arrV ⟨[a0, a1, a2, a3, a4, a5, a6, a7], [b0, b1, b2, b3, b4, b5, b6, b7]⟩ = .agg #[.int .i64 a0, .int .i64 a1, .int .i64 a2, .int .i64 a3, .int .i64 a4, .int .i64 a5, .int .i64 a6, .int .i64 a7, .int .i64 b0, .int .i64 b1, .int .i64 b2, .int .i64 b3, .int .i64 b4, .int .i64 b5, .int .i64 b6, .int .i64 b7] := rfl
def trD (a0 a1 a2 a3 a4 a5 a6 a7 b0 b1 b2 b3 b4 b5 b6 b7 : Int) : TrialD := ⟨[a0, a1, a2, a3, a4, a5, a6, a7], [b0, b1, b2, b3, b4, b5, b6, b7]⟩
theorem trD_eight (a0 a1 a2 a3 a4 a5 a6 a7 b0 b1 b2 b3 b4 b5 b6 b7 : Int) : Eight (trD a0 a1 a2 a3 a4 a5 a6 a7 b0 b1 b2 b3 b4 b5 b6 b7) := ⟨rfl, rfl⟩
theorem eight_trD {T : TrialD} (h : Eight T) : ∃ a0 a1 a2 a3 a4 a5 a6 a7 b0 b1 b2 b3 b4 b5 b6 b7 : Int, T = trD a0 a1 a2 a3 a4 a5 a6 a7 b0 b1 b2 b3 b4 b5 b6 b7 := by
  obtain ⟨a0, a1, a2, a3, a4, a5, a6, a7, b0, b1, b2, b3, b4, b5, b6, b7, e⟩ := eight_form h
  exact ⟨a0, a1, a2, a3, a4, a5, a6, a7, b0, b1, b2, b3, b4, b5, b6, b7, e⟩
theorem trD_v (a0 a1 a2 a3 a4 a5 a6 a7 b0 b1 b2 b3 b4 b5 b6 b7 : Int) : arrV (trD a0 a1 a2 a3 a4 a5 a6 a7 b0 b1 b2 b3 b4 b5 b6 b7) = .agg #[.int .i64 a0, .int .i64 a1, .int .i64 a2, .int .i64 a3, .int .i64 a4, .int .i64 a5, .int .i64 a6, .int .i64 a7, .int .i64 b0, .int .i64 b1, .int .i64 b2, .int .i64 b3, .int .i64 b4, .int .i64 b5, .int .i64 b6, .int .i64 b7] := rfl
def set16 (X : World) (g : Nat) (a0 a1 a2 a3 a4 a5 a6 a7 b0 b1 b2 b3 b4 b5 b6 b7 : Int) : World := ((((((((((((((((X.setCell ⟨g, 0, none⟩ (.int .i64 a0)).setCell ⟨g, 1, none⟩ (.int .i64 a1)).setCell ⟨g, 2, none⟩ (.int .i64 a2)).setCell ⟨g, 3, none⟩ (.int .i64 a3)).setCell ⟨g, 4, none⟩ (.int .i64 a4)).setCell ⟨g, 5, none⟩ (.int .i64 a5)).setCell ⟨g, 6, none⟩ (.int .i64 a6)).setCell ⟨g, 7, none⟩ (.int .i64 a7)).setCell ⟨g, 8, none⟩ (.int .i64 b0)).setCell ⟨g, 9, none⟩ (.int .i64 b1)).setCell ⟨g, 10, none⟩ (.int .i64 b2)).setCell ⟨g, 11, none⟩ (.int .i64 b3)).setCell ⟨g, 12, none⟩ (.int .i64 b4)).setCell ⟨g, 13, none⟩ (.int .i64 b5)).setCell ⟨g, 14, none⟩ (.int .i64 b6)).setCell ⟨g, 15, none⟩ (.int .i64 b7))
theorem set16_size (X : World) (g : Nat) (a0 a1 a2 a3 a4 a5 a6 a7 b0 b1 b2 b3 b4 b5 b6 b7 : Int) : (set16 X g a0 a1 a2 a3 a4 a5 a6 a7 b0 b1 b2 b3 b4 b5 b6 b7).heap.size = X.heap.size := by
  have e : ∀ (Y : World) (p : Addr) (u : Value), (Y.setCell p u).heap.size = Y.heap.size := fun Y p u => by simp [World.setCell]
  unfold set16
  iterate 16 rw [e]
theorem set16_other (X : World) (g : Nat) (a0 a1 a2 a3 a4 a5 a6 a7 b0 b1 b2 b3 b4 b5 b6 b7 : Int) (i : Nat) (h : i ≠ g) : (set16 X g a0 a1 a2 a3 a4 a5 a6 a7 b0 b1 b2 b3 b4 b5 b6 b7).heap[i]? = X.heap[i]? := by
  have e : ∀ (Y : World) (k : Nat) (u : Value), (Y.setCell ⟨g, k, none⟩ u).heap[i]? = Y.heap[i]? := fun Y k u => heap_setCell_other _ _ _ _ (by exact h)
  unfold set16
  iterate 16 rw [e]
theorem set16_arr {X : World} {g : Nat} {T : TrialD} (h : Arr X g T) (h8 : Eight T) (a0 a1 a2 a3 a4 a5 a6 a7 b0 b1 b2 b3 b4 b5 b6 b7 : Int) : Arr (set16 X g a0 a1 a2 a3 a4 a5 a6 a7 b0 b1 b2 b3 b4 b5 b6 b7) g (trD a0 a1 a2 a3 a4 a5 a6 a7 b0 b1 b2 b3 b4 b5 b6 b7) := by
  obtain ⟨c0, c1, c2, c3, c4, c5, c6, c7, d0, d1, d2, d3, d4, d5, d6, d7, rfl⟩ := eight_form h8
  have h0 : Arr X g ⟨[c0, c1, c2, c3, c4, c5, c6, c7], [d0, d1, d2, d3, d4, d5, d6, d7]⟩ := h
  have h1 : Arr _ g ⟨[a0, c1, c2, c3, c4, c5, c6, c7], [d0, d1, d2, d3, d4, d5, d6, d7]⟩ := h0.setCount ⟨rfl, rfl⟩ 0 (by omega) a0
  have h2 : Arr _ g ⟨[a0, a1, c2, c3, c4, c5, c6, c7], [d0, d1, d2, d3, d4, d5, d6, d7]⟩ := h1.setCount ⟨rfl, rfl⟩ 1 (by omega) a1
  have h3 : Arr _ g ⟨[a0, a1, a2, c3, c4, c5, c6, c7], [d0, d1, d2, d3, d4, d5, d6, d7]⟩ := h2.setCount ⟨rfl, rfl⟩ 2 (by omega) a2
  have h4 : Arr _ g ⟨[a0, a1, a2, a3, c4, c5, c6, c7], [d0, d1, d2, d3, d4, d5, d6, d7]⟩ := h3.setCount ⟨rfl, rfl⟩ 3 (by omega) a3
  have h5 : Arr _ g ⟨[a0, a1, a2, a3, a4, c5, c6, c7], [d0, d1, d2, d3, d4, d5, d6, d7]⟩ := h4.setCount ⟨rfl, rfl⟩ 4 (by omega) a4
  have h6 : Arr _ g ⟨[a0, a1, a2, a3, a4, a5, c6, c7], [d0, d1, d2, d3, d4, d5, d6, d7]⟩ := h5.setCount ⟨rfl, rfl⟩ 5 (by omega) a5
  have h7 : Arr _ g ⟨[a0, a1, a2, a3, a4, a5, a6, c7], [d0, d1, d2, d3, d4, d5, d6, d7]⟩ := h6.setCount ⟨rfl, rfl⟩ 6 (by omega) a6
  have h8 : Arr _ g ⟨[a0, a1, a2, a3, a4, a5, a6, a7], [d0, d1, d2, d3, d4, d5, d6, d7]⟩ := h7.setCount ⟨rfl, rfl⟩ 7 (by omega) a7
  have h9 : Arr _ g ⟨[a0, a1, a2, a3, a4, a5, a6, a7], [b0, d1, d2, d3, d4, d5, d6, d7]⟩ := h8.setColor ⟨rfl, rfl⟩ 0 (by omega) b0
  have h10 : Arr _ g ⟨[a0, a1, a2, a3, a4, a5, a6, a7], [b0, b1, d2, d3, d4, d5, d6, d7]⟩ := h9.setColor ⟨rfl, rfl⟩ 1 (by omega) b1
  have h11 : Arr _ g ⟨[a0, a1, a2, a3, a4, a5, a6, a7], [b0, b1, b2, d3, d4, d5, d6, d7]⟩ := h10.setColor ⟨rfl, rfl⟩ 2 (by omega) b2
  have h12 : Arr _ g ⟨[a0, a1, a2, a3, a4, a5, a6, a7], [b0, b1, b2, b3, d4, d5, d6, d7]⟩ := h11.setColor ⟨rfl, rfl⟩ 3 (by omega) b3
  have h13 : Arr _ g ⟨[a0, a1, a2, a3, a4, a5, a6, a7], [b0, b1, b2, b3, b4, d5, d6, d7]⟩ := h12.setColor ⟨rfl, rfl⟩ 4 (by omega) b4
  have h14 : Arr _ g ⟨[a0, a1, a2, a3, a4, a5, a6, a7], [b0, b1, b2, b3, b4, b5, d6, d7]⟩ := h13.setColor ⟨rfl, rfl⟩ 5 (by omega) b5
  have h15 : Arr _ g ⟨[a0, a1, a2, a3, a4, a5, a6, a7], [b0, b1, b2, b3, b4, b5, b6, d7]⟩ := h14.setColor ⟨rfl, rfl⟩ 6 (by omega) b6
  have h16 : Arr _ g ⟨[a0, a1, a2, a3, a4, a5, a6, a7], [b0, b1, b2, b3, b4, b5, b6, b7]⟩ := h15.setColor ⟨rfl, rfl⟩ 7 (by omega) b7
  exact h16
theorem set16_below {n : Nat} {w X : World} {g : Nat} (a0 a1 a2 a3 a4 a5 a6 a7 b0 b1 b2 b3 b4 b5 b6 b7 : Int) (h : Below n w X) (hg : n ≤ g) : Below n w (set16 X g a0 a1 a2 a3 a4 a5 a6 a7 b0 b1 b2 b3 b4 b5 b6 b7) := by
  have e : ∀ (Y : World) (k : Nat) (u : Value), Below n w Y → Below n w (Y.setCell ⟨g, k, none⟩ u) := fun Y k u hY => hY.setCell (p := ⟨g, k, none⟩) hg u
  unfold set16
  iterate 16 apply e
  exact h
/-- The sixteen cells. -/
theorem Arr.all {X : World} {g : Nat} {a0 a1 a2 a3 a4 a5 a6 a7 b0 b1 b2 b3 b4 b5 b6 b7 : Int} (h : Arr X g (trD a0 a1 a2 a3 a4 a5 a6 a7 b0 b1 b2 b3 b4 b5 b6 b7)) : X.cell? ⟨g, 0, none⟩ = some (.int .i64 a0) ∧ X.cell? ⟨g, 1, none⟩ = some (.int .i64 a1) ∧ X.cell? ⟨g, 2, none⟩ = some (.int .i64 a2) ∧ X.cell? ⟨g, 3, none⟩ = some (.int .i64 a3) ∧ X.cell? ⟨g, 4, none⟩ = some (.int .i64 a4) ∧ X.cell? ⟨g, 5, none⟩ = some (.int .i64 a5) ∧ X.cell? ⟨g, 6, none⟩ = some (.int .i64 a6) ∧ X.cell? ⟨g, 7, none⟩ = some (.int .i64 a7) ∧ X.cell? ⟨g, 8, none⟩ = some (.int .i64 b0) ∧ X.cell? ⟨g, 9, none⟩ = some (.int .i64 b1) ∧ X.cell? ⟨g, 10, none⟩ = some (.int .i64 b2) ∧ X.cell? ⟨g, 11, none⟩ = some (.int .i64 b3) ∧ X.cell? ⟨g, 12, none⟩ = some (.int .i64 b4) ∧ X.cell? ⟨g, 13, none⟩ = some (.int .i64 b5) ∧ X.cell? ⟨g, 14, none⟩ = some (.int .i64 b6) ∧ X.cell? ⟨g, 15, none⟩ = some (.int .i64 b7) := by
  have q : ∀ k, X.cell? ⟨g, k, none⟩ = (#[.int .i64 a0, .int .i64 a1, .int .i64 a2, .int .i64 a3, .int .i64 a4, .int .i64 a5, .int .i64 a6, .int .i64 a7, .int .i64 b0, .int .i64 b1, .int .i64 b2, .int .i64 b3, .int .i64 b4, .int .i64 b5, .int .i64 b6, .int .i64 b7] : Array Value)[k]? := fun k => by
    have h' : X.heap[g]? = some (.cells #[.int .i64 a0, .int .i64 a1, .int .i64 a2, .int .i64 a3, .int .i64 a4, .int .i64 a5, .int .i64 a6, .int .i64 a7, .int .i64 b0, .int .i64 b1, .int .i64 b2, .int .i64 b3, .int .i64 b4, .int .i64 b5, .int .i64 b6, .int .i64 b7] 117 (0, 0)) := h
    simp [World.cell?, h']
  exact ⟨q 0, q 1, q 2, q 3, q 4, q 5, q 6, q 7, q 8, q 9, q 10, q 11, q 12, q 13, q 14, q 15⟩

theorem opLoad16 {t i : Tmp} {ty : TypeId} {pos : String} {af : Array Edge} {a : Act} {X : World} {K : Act → World → Prop} {Q : Exit → Act → World → Prop} {g : Nat} {a0 a1 a2 a3 a4 a5 a6 a7 b0 b1 b2 b3 b4 b5 b6 b7 : Int} (h1 : a.eval (.tmp i) = .pointer (some ⟨g, 0, none⟩)) (hA : Arr X g (trD a0 a1 a2 a3 a4 a5 a6 a7 b0 b1 b2 b3 b4 b5 b6 b7)) (hK : K (a.put (some t) (.agg #[.int .i64 a0, .int .i64 a1, .int .i64 a2, .int .i64 a3, .int .i64 a4, .int .i64 a5, .int .i64 a6, .int .i64 a7, .int .i64 b0, .int .i64 b1, .int .i64 b2, .int .i64 b3, .int .i64 b4, .int .i64 b5, .int .i64 b6, .int .i64 b7])) X) :
    Oper.wp Try.prog ⟨some t, .load 117 (.tmp i), ty, pos, af, none⟩ a X K Q := by
  have e1 := ev_tmp h1
  obtain ⟨f0_, f1_, f2_, f3_, f4_, f5_, f6_, f7_, f8_, f9_, f10_, f11_, f12_, f13_, f14_, f15_⟩ := hA.all
  go_simp; exact hK
set_option maxHeartbeats 1000000 in
theorem opStore16 {i j : Tmp} {ty : TypeId} {pos : String} {af : Array Edge} {a : Act} {X : World} {K : Act → World → Prop} {Q : Exit → Act → World → Prop} {g : Nat} {T : TrialD} {a0 a1 a2 a3 a4 a5 a6 a7 b0 b1 b2 b3 b4 b5 b6 b7 : Int} (h1 : a.eval (.tmp i) = .pointer (some ⟨g, 0, none⟩)) (h2 : a.eval (.tmp j) = .agg #[.int .i64 a0, .int .i64 a1, .int .i64 a2, .int .i64 a3, .int .i64 a4, .int .i64 a5, .int .i64 a6, .int .i64 a7, .int .i64 b0, .int .i64 b1, .int .i64 b2, .int .i64 b3, .int .i64 b4, .int .i64 b5, .int .i64 b6, .int .i64 b7]) (hA : Arr X g T) (h8 : Eight T) (hK : K a (set16 X g a0 a1 a2 a3 a4 a5 a6 a7 b0 b1 b2 b3 b4 b5 b6 b7)) :
    Oper.wp Try.prog ⟨none, .store 117 (.tmp i) (.tmp j), ty, pos, af, none⟩ a X K Q := by
  have e1 := ev_tmp h1
  have e2 := ev_tmp h2
  obtain ⟨p0, p1, p2, p3, p4, p5, p6, p7, p8, p9, p10, p11, p12, p13, p14, p15, rfl⟩ := eight_trD h8
  obtain ⟨f0_, f1_, f2_, f3_, f4_, f5_, f6_, f7_, f8_, f9_, f10_, f11_, f12_, f13_, f14_, f15_⟩ := hA.all
  have z0_ := hA.frozen 0
  have z1_ := hA.frozen 1
  have z2_ := hA.frozen 2
  have z3_ := hA.frozen 3
  have z4_ := hA.frozen 4
  have z5_ := hA.frozen 5
  have z6_ := hA.frozen 6
  have z7_ := hA.frozen 7
  have z8_ := hA.frozen 8
  have z9_ := hA.frozen 9
  have z10_ := hA.frozen 10
  have z11_ := hA.frozen 11
  have z12_ := hA.frozen 12
  have z13_ := hA.frozen 13
  have z14_ := hA.frozen 14
  have z15_ := hA.frozen 15
  unfold set16 at hK
  clear h8 hA
  go_simp; exact hK
theorem wpList_load16 {ops : Array Oper} {rest : List Oper} {t i : Tmp} {ty : TypeId} {pos : String} {af : Array Edge} {a : Act} {X : World} {Q : Exit → Act → World → Prop} {g : Nat} {a0 a1 a2 a3 a4 a5 a6 a7 b0 b1 b2 b3 b4 b5 b6 b7 : Int} (h1 : a.eval (.tmp i) = .pointer (some ⟨g, 0, none⟩)) (hA : Arr X g (trD a0 a1 a2 a3 a4 a5 a6 a7 b0 b1 b2 b3 b4 b5 b6 b7)) (h : wpList Try.prog ops Q rest (a.put (some t) (.agg #[.int .i64 a0, .int .i64 a1, .int .i64 a2, .int .i64 a3, .int .i64 a4, .int .i64 a5, .int .i64 a6, .int .i64 a7, .int .i64 b0, .int .i64 b1, .int .i64 b2, .int .i64 b3, .int .i64 b4, .int .i64 b5, .int .i64 b6, .int .i64 b7])) X) :
    wpList Try.prog ops Q (⟨some t, .load 117 (.tmp i), ty, pos, af, none⟩ :: rest) a X := wpList_plain rfl fun K hK => opLoad16 h1 hA (hK _ _ h)
theorem wpList_store16 {ops : Array Oper} {rest : List Oper} {i j : Tmp} {ty : TypeId} {pos : String} {af : Array Edge} {a : Act} {X : World} {Q : Exit → Act → World → Prop} {g : Nat} {T : TrialD} {a0 a1 a2 a3 a4 a5 a6 a7 b0 b1 b2 b3 b4 b5 b6 b7 : Int} (h1 : a.eval (.tmp i) = .pointer (some ⟨g, 0, none⟩)) (h2 : a.eval (.tmp j) = .agg #[.int .i64 a0, .int .i64 a1, .int .i64 a2, .int .i64 a3, .int .i64 a4, .int .i64 a5, .int .i64 a6, .int .i64 a7, .int .i64 b0, .int .i64 b1, .int .i64 b2, .int .i64 b3, .int .i64 b4, .int .i64 b5, .int .i64 b6, .int .i64 b7]) (hA : Arr X g T) (h8 : Eight T) (h : wpList Try.prog ops Q rest a (set16 X g a0 a1 a2 a3 a4 a5 a6 a7 b0 b1 b2 b3 b4 b5 b6 b7)) :
    wpList Try.prog ops Q (⟨none, .store 117 (.tmp i) (.tmp j), ty, pos, af, none⟩ :: rest) a X := wpList_plain rfl fun K hK => opStore16 h1 h2 hA h8 (hK _ _ h)

end Go.Proofs.Ytjhdnachbahbmaa

namespace Go.Proofs.Ytjhdnachbahbmaa
open Go.RowKit
set_option linter.unusedVariables false
set_option maxRecDepth 100000

set_option maxHeartbeats 4000000 in
theorem painted_same (v : Value) (H : HeapD) (c d : Int) (T : TrialD) (k : Nat) (w : World) (h8 : Eight T) (hk : k < 8) (hc : col T k = c) (h : RdH w v H) :
    Calls Try.prog 73 #[arrV T, v, .int .i64 (k : Int), .int .i64 c, .int .i64 d] w fun e w' => e = .returned (arrV T) ∧ Below w.heap.size w w' := by
  obtain ⟨ao, co, aw, cw, ab, cb, sa, sc, rfl, -, -, -, -⟩ := h
  obtain ⟨a0, a1, a2, a3, a4, a5, a6, a7, b0, b1, b2, b3, b4, b5, b6, b7, rfl⟩ := eight_trD h8
  obtain ⟨W, hW⟩ : ∃ W, W = ((w.alloc (.cells #[.int .i64 a0, .int .i64 a1, .int .i64 a2, .int .i64 a3, .int .i64 a4, .int .i64 a5, .int .i64 a6, .int .i64 a7, .int .i64 b0, .int .i64 b1, .int .i64 b2, .int .i64 b3, .int .i64 b4, .int .i64 b5, .int .i64 b6, .int .i64 b7] 117)).alloc (.cells #[.slice ao H.objs.length co, .slice aw H.weaks.length cw, .slice ab H.buffer.length cb, .slice sa H.sites.length sc] 33)).alloc (.cells #[.int .i64 0, .int .i64 0, .int .i64 0, .int .i64 0, .int .i64 0, .int .i64 0, .int .i64 0, .int .i64 0, .int .i64 0, .int .i64 0, .int .i64 0, .int .i64 0, .int .i64 0, .int .i64 0, .int .i64 0, .int .i64 0] 117) := ⟨_, rfl⟩
  have A0 : Arr W w.heap.size (trD a0 a1 a2 a3 a4 a5 a6 a7 b0 b1 b2 b3 b4 b5 b6 b7) := by
    have f := Arr.new w (trD a0 a1 a2 a3 a4 a5 a6 a7 b0 b1 b2 b3 b4 b5 b6 b7)
    have f2 := f.later ((Below.refl _ _).alloc (Nat.le_refl _) (.cells #[.slice ao H.objs.length co, .slice aw H.weaks.length cw, .slice ab H.buffer.length cb, .slice sa H.sites.length sc] 33))
    have f3 := f2.later ((Below.refl _ _).alloc (Nat.le_refl _) (.cells #[.int .i64 0, .int .i64 0, .int .i64 0, .int .i64 0, .int .i64 0, .int .i64 0, .int .i64 0, .int .i64 0, .int .i64 0, .int .i64 0, .int .i64 0, .int .i64 0, .int .i64 0, .int .i64 0, .int .i64 0, .int .i64 0] 117))
    rw [hW]; exact f3
  have ck := A0.color h8 k hk
  rw [hc] at ck
  rw [hW] at ck
  have hk8 : (k : Int) < 8 := by omega
  clear A0 hc hW
  rw [trD_v]
  go_enter Try.func73, Try.ntmps73
  go_wp2
  refine bodyPost_ret (v := .agg #[.int .i64 a0, .int .i64 a1, .int .i64 a2, .int .i64 a3, .int .i64 a4, .int .i64 a5, .int .i64 a6, .int .i64 a7, .int .i64 b0, .int .i64 b1, .int .i64 b2, .int .i64 b3, .int .i64 b4, .int .i64 b5, .int .i64 b6, .int .i64 b7]) (by simp [results, Try.results73, go_sem, *]) rfl ⟨rfl, ?_⟩
  exact (((Below.refl _ _).alloc (Nat.le_refl _) _).alloc (by simp) _).alloc (by simp; omega) _

theorem others_le_of {c : Int} {T T' : TrialD} (h8 : Eight T) (h8' : Eight T') (h : ∀ j, j < 8 → col T' j ≠ c → col T j ≠ c) : others c T'.colors ≤ others c T.colors := by
  obtain ⟨a0, a1, a2, a3, a4, a5, a6, a7, b0, b1, b2, b3, b4, b5, b6, b7, rfl⟩ := eight_form h8
  obtain ⟨x0, x1, x2, x3, x4, x5, x6, x7, y0, y1, y2, y3, y4, y5, y6, y7, rfl⟩ := eight_form h8'
  have e0 := h 0 (by omega)
  have e1 := h 1 (by omega)
  have e2 := h 2 (by omega)
  have e3 := h 3 (by omega)
  have e4 := h 4 (by omega)
  have e5 := h 5 (by omega)
  have e6 := h 6 (by omega)
  have e7 := h 7 (by omega)
  simp only [col, List.getD_cons_zero, List.getD_cons_succ] at e0 e1 e2 e3 e4 e5 e6 e7
  have one : ∀ x y : Int, (y ≠ c → x ≠ c) → (if (!decide (y = c)) = true then 1 else 0) ≤ (if (!decide (x = c)) = true then 1 else 0) := fun x y hxy => by
    by_cases hy : y = c
    · simp [hy]
    · simp [hy, hxy hy]
  have g0 := one _ _ e0
  have g1 := one _ _ e1
  have g2 := one _ _ e2
  have g3 := one _ _ e3
  have g4 := one _ _ e4
  have g5 := one _ _ e5
  have g6 := one _ _ e6
  have g7 := one _ _ e7
  simp only [others, List.countP_cons, List.countP_nil]
  omega
/-- What is painted stays painted. -/
theorem deep_others {d c : Int} {H : HeapD} {T0 T T' : TrialD} {R : Nat → Prop} {C C' : List Nat} {M M' : List Int} (h : Deep d c H T0 R T C M) (h' : Deep d c H T0 R T' C' M') (hC : ∀ x ∈ C, x ∈ C') : others c T'.colors ≤ others c T.colors :=
  others_le_of h.pt.e h'.pt.e (fun j hj hne => by
    rw [h'.pt.col j hj] at hne
    rw [h.pt.col j hj]
    by_cases hm : j ∈ C
    · rw [if_pos (hC j hm)] at hne; exact absurd rfl hne
    · rw [if_neg hm]
      by_cases hm' : j ∈ C'
      · rw [if_pos hm'] at hne; exact absurd rfl hne
      · rw [if_neg hm'] at hne; exact hne)

/-- The frame of a call: the trial's own block, the heap's, the result's, the row of kids. -/
structure PF (w wr : World) (x0 x1 x2 x3 : Value) (T : TrialD) (vk : Value) (ks : List Int) : Prop where
  bel : Below w.heap.size w wr
  arr : Arr wr w.heap.size T
  heap : Four wr (w.heap.size + 1) x0 x1 x2 x3
  res : Arr wr (w.heap.size + 2) (trD 0 0 0 0 0 0 0 0 0 0 0 0 0 0 0 0)
  kids : ownI wr (w.heap.size + 3) vk ks
theorem PF.later {w wr X : World} {x0 x1 x2 x3 : Value} {T : TrialD} {vk : Value} {ks : List Int} (h : PF w wr x0 x1 x2 x3 T vk ks) (hb : Below wr.heap.size wr X) : PF w X x0 x1 x2 x3 T vk ks :=
  ⟨h.bel.trans (hb.mono h.bel.size), h.arr.later hb, h.heap.later hb, h.res.later hb, ownI_later h.kids hb⟩
/-- Another trial lies in its block. -/
theorem PF.turn {w wr X : World} {x0 x1 x2 x3 : Value} {T T' : TrialD} {vk : Value} {ks : List Int} (h : PF w wr x0 x1 x2 x3 T vk ks) (hb : Below w.heap.size w X) (ho : ∀ i, i ≠ w.heap.size → X.heap[i]? = wr.heap[i]?) (ha : Arr X w.heap.size T') : PF w X x0 x1 x2 x3 T' vk ks :=
  ⟨hb, ha, h.heap.same (ho _ (by omega)), h.res.same (ho _ (by omega)), ownI_same h.kids (fun g hg => ho g (by have := (ownI_lt h.kids g hg).1; omega))⟩

set_option maxHeartbeats 16000000 in
theorem painted_calls (v : Value) (H : HeapD) (c d : Int) (hs : SmallH H) (h8 : H.objs.length = 8) (hf : ∀ o ∈ H.objs, ∀ z ∈ o.field, in64 z) (T0 : TrialD) (R : Nat → Prop) (hR : Runs c H T0 R) :
    ∀ (n : Nat) (T : TrialD) (C : List Nat) (M : List Int) (k : Nat) (w : World), others c T.colors ≤ n → Deep d c H T0 R T C M → k < 8 → (col T0 k ≠ c → R k) → RdH w v H →
      Calls Try.prog 73 #[arrV T, v, .int .i64 (k : Int), .int .i64 c, .int .i64 d] w fun e w' => ∃ T', e = .returned (arrV T') ∧ Painted d c H T0 R C M k T' ∧ Below w.heap.size w w' := by
  intro n
  induction n with
  | zero =>
    intro T C M k w hn hd hk hRk h
    have hc : col T k = c := Decidable.byContradiction fun hne => by
      have hl : k < T.colors.length := by have := hd.pt.e.2; omega
      unfold col at hne
      rw [List.getD_eq_getElem?_getD, List.getElem?_eq_getElem hl, Option.getD_some] at hne
      have := others_set c T.colors k hl hne
      omega
    refine (painted_same v H c d T k w hd.pt.e hk hc h).mono ?_
    rintro e w' ⟨rfl, hb⟩
    exact ⟨T, rfl, painted_yes hd hk hc, hb⟩
  | succ n ih =>
    intro T C M k w hn hd hk hRk h
    by_cases hc : col T k = c
    · refine (painted_same v H c d T k w hd.pt.e hk hc h).mono ?_
      rintro e w' ⟨rfl, hb⟩
      exact ⟨T, rfl, painted_yes hd hk hc, hb⟩
    have HR1 : Hid (∀ X, Below w.heap.size w X → RdH X v H) := fun X hX => rdH_later h hX
    have HST : Hid (Midst d c H T0 R C M k 0 ⟨T.counts, T.colors.set k c⟩) := midst_start hd hk hRk hc
    have HE1 : Hid (Eight ⟨T.counts, T.colors.set k c⟩) := ⟨hd.pt.e.1, by simpa using hd.pt.e.2⟩
    have HO1 : Hid (others c (TrialD.mk T.counts (T.colors.set k c)).colors ≤ n) := by
      have hl : k < T.colors.length := by have := hd.pt.e.2; omega
      have hne := hc
      unfold col at hne
      rw [List.getD_eq_getElem?_getD, List.getElem?_eq_getElem hl, Option.getD_some] at hne
      have := others_set c T.colors k hl hne
      show others c (T.colors.set k c) ≤ n
      omega
    have hk2 : k < H.objs.length := by omega
    have CK : Hid (∀ X, Below w.heap.size w X → _) := fun X hX => iKids_calls v H k X (HR1.out X hX) hs hk2 (hf _ (List.getElem_mem hk2))
    rw [← kidsOf_at H k hk2] at CK
    have hkl := kidsOf_le H (k : Int) hs
    have HIH : Hid (∀ (T : TrialD) (C : List Nat) (M : List Int) (j : Nat) (w' : World), others c T.colors ≤ n → Deep d c H T0 R T C M → j < 8 → (col T0 j ≠ c → R j) → Below w.heap.size w w' → _) := fun T C M j w' h1 h2 h3 h4 h5 => ih T C M j w' h1 h2 h3 h4 (HR1.out w' h5)
    have e8 := hd.pt.e
    obtain ⟨ao, co, aw, cw, ab, cb, sa, sc, rfl, -, -, -, -⟩ := h
    obtain ⟨a0, a1, a2, a3, a4, a5, a6, a7, b0, b1, b2, b3, b4, b5, b6, b7, rfl⟩ := eight_trD e8
    rw [h8] at CK HIH HR1 ⊢
    generalize H.weaks.length = nw at *
    generalize H.buffer.length = nb at *
    generalize H.sites.length = ns at *
    obtain ⟨W, hW⟩ : ∃ W, W = ((w.alloc (.cells #[.int .i64 a0, .int .i64 a1, .int .i64 a2, .int .i64 a3, .int .i64 a4, .int .i64 a5, .int .i64 a6, .int .i64 a7, .int .i64 b0, .int .i64 b1, .int .i64 b2, .int .i64 b3, .int .i64 b4, .int .i64 b5, .int .i64 b6, .int .i64 b7] 117)).alloc (.cells #[.slice ao 8 co, .slice aw nw cw, .slice ab nb cb, .slice sa ns sc] 33)).alloc (.cells #[.int .i64 0, .int .i64 0, .int .i64 0, .int .i64 0, .int .i64 0, .int .i64 0, .int .i64 0, .int .i64 0, .int .i64 0, .int .i64 0, .int .i64 0, .int .i64 0, .int .i64 0, .int .i64 0, .int .i64 0, .int .i64 0] 117) := ⟨_, rfl⟩
    have BW : Below w.heap.size w W := by rw [hW]; exact (((Below.refl _ _).alloc (Nat.le_refl _) _).alloc (by simp) _).alloc (by simp; omega) _
    have sW : W.heap.size = w.heap.size + 3 := by rw [hW]; simp
    have A0 : Arr W w.heap.size (trD a0 a1 a2 a3 a4 a5 a6 a7 b0 b1 b2 b3 b4 b5 b6 b7) := by
      have f := Arr.new w (trD a0 a1 a2 a3 a4 a5 a6 a7 b0 b1 b2 b3 b4 b5 b6 b7)
      have f2 := f.later ((Below.refl _ _).alloc (Nat.le_refl _) (.cells #[.slice ao 8 co, .slice aw nw cw, .slice ab nb cb, .slice sa ns sc] 33))
      have f3 := f2.later ((Below.refl _ _).alloc (Nat.le_refl _) (.cells #[.int .i64 0, .int .i64 0, .int .i64 0, .int .i64 0, .int .i64 0, .int .i64 0, .int .i64 0, .int .i64 0, .int .i64 0, .int .i64 0, .int .i64 0, .int .i64 0, .int .i64 0, .int .i64 0, .int .i64 0, .int .i64 0] 117))
      rw [hW]; exact f3
    have F0 : Four W (w.heap.size + 1) (.slice ao 8 co) (.slice aw nw cw) (.slice ab nb cb) (.slice sa ns sc) := by
      have f := Four.new (w.alloc (.cells #[.int .i64 a0, .int .i64 a1, .int .i64 a2, .int .i64 a3, .int .i64 a4, .int .i64 a5, .int .i64 a6, .int .i64 a7, .int .i64 b0, .int .i64 b1, .int .i64 b2, .int .i64 b3, .int .i64 b4, .int .i64 b5, .int .i64 b6, .int .i64 b7] 117)) (.slice ao 8 co) (.slice aw nw cw) (.slice ab nb cb) (.slice sa ns sc)
      have f3 := f.later ((Below.refl _ _).alloc (Nat.le_refl _) (.cells #[.int .i64 0, .int .i64 0, .int .i64 0, .int .i64 0, .int .i64 0, .int .i64 0, .int .i64 0, .int .i64 0, .int .i64 0, .int .i64 0, .int .i64 0, .int .i64 0, .int .i64 0, .int .i64 0, .int .i64 0, .int .i64 0] 117))
      rw [hW]; simpa using f3
    have Z0 : Arr W (w.heap.size + 2) (trD 0 0 0 0 0 0 0 0 0 0 0 0 0 0 0 0) := by
      have f := Arr.new ((w.alloc (.cells #[.int .i64 a0, .int .i64 a1, .int .i64 a2, .int .i64 a3, .int .i64 a4, .int .i64 a5, .int .i64 a6, .int .i64 a7, .int .i64 b0, .int .i64 b1, .int .i64 b2, .int .i64 b3, .int .i64 b4, .int .i64 b5, .int .i64 b6, .int .i64 b7] 117)).alloc (.cells #[.slice ao 8 co, .slice aw nw cw, .slice ab nb cb, .slice sa ns sc] 33)) (trD 0 0 0 0 0 0 0 0 0 0 0 0 0 0 0 0)
      have f2 : Arr W ((w.alloc (.cells #[.int .i64 a0, .int .i64 a1, .int .i64 a2, .int .i64 a3, .int .i64 a4, .int .i64 a5, .int .i64 a6, .int .i64 a7, .int .i64 b0, .int .i64 b1, .int .i64 b2, .int .i64 b3, .int .i64 b4, .int .i64 b5, .int .i64 b6, .int .i64 b7] 117)).alloc (.cells #[.slice ao 8 co, .slice aw nw cw, .slice ab nb cb, .slice sa ns sc] 33)).heap.size (trD 0 0 0 0 0 0 0 0 0 0 0 0 0 0 0 0) := by rw [hW]; exact f
      simpa using f2
    have ck := A0.color e8 k hk
    have fk := A0.frozen (8 + k)
    obtain ⟨W1, hW1⟩ : ∃ W1, W1 = ((w.alloc (.cells ([.int .i64 a0, .int .i64 a1, .int .i64 a2, .int .i64 a3, .int .i64 a4, .int .i64 a5, .int .i64 a6, .int .i64 a7, .int .i64 b0, .int .i64 b1, .int .i64 b2, .int .i64 b3, .int .i64 b4, .int .i64 b5, .int .i64 b6, .int .i64 b7].set (8 + k) (.int .i64 c)).toArray 117)).alloc (.cells #[.slice ao 8 co, .slice aw nw cw, .slice ab nb cb, .slice sa ns sc] 33)).alloc (.cells #[.int .i64 0, .int .i64 0, .int .i64 0, .int .i64 0, .int .i64 0, .int .i64 0, .int .i64 0, .int .i64 0, .int .i64 0, .int .i64 0, .int .i64 0, .int .i64 0, .int .i64 0, .int .i64 0, .int .i64 0, .int .i64 0] 117) := ⟨_, rfl⟩
    have B1 : Below w.heap.size w W1 := by rw [hW1]; exact (((Below.refl _ _).alloc (Nat.le_refl _) _).alloc (by simp) _).alloc (by simp; omega) _
    have s1 : W1.heap.size = w.heap.size + 3 := by rw [hW1]; simp
    have ec : [.int .i64 a0, .int .i64 a1, .int .i64 a2, .int .i64 a3, .int .i64 a4, .int .i64 a5, .int .i64 a6, .int .i64 a7, .int .i64 b0, .int .i64 b1, .int .i64 b2, .int .i64 b3, .int .i64 b4, .int .i64 b5, .int .i64 b6, .int .i64 b7].set (8 + k) (.int .i64 c) = cells16 ⟨(trD a0 a1 a2 a3 a4 a5 a6 a7 b0 b1 b2 b3 b4 b5 b6 b7).counts, (trD a0 a1 a2 a3 a4 a5 a6 a7 b0 b1 b2 b3 b4 b5 b6 b7).colors.set k c⟩ := by
      unfold cells16
      simp only [List.map_append, List.map_set]
      show (List.map intV (trD a0 a1 a2 a3 a4 a5 a6 a7 b0 b1 b2 b3 b4 b5 b6 b7).counts ++ List.map intV (trD a0 a1 a2 a3 a4 a5 a6 a7 b0 b1 b2 b3 b4 b5 b6 b7).colors).set (8 + k) (intV c) = _
      rw [List.set_append_right _ _ (by simp [trD]), show 8 + k - (List.map intV (trD a0 a1 a2 a3 a4 a5 a6 a7 b0 b1 b2 b3 b4 b5 b6 b7).counts).length = k from by simp [trD]]
    have A1 : Arr W1 w.heap.size ⟨(trD a0 a1 a2 a3 a4 a5 a6 a7 b0 b1 b2 b3 b4 b5 b6 b7).counts, (trD a0 a1 a2 a3 a4 a5 a6 a7 b0 b1 b2 b3 b4 b5 b6 b7).colors.set k c⟩ := by
      rw [ec] at hW1
      have f := Arr.new w ⟨(trD a0 a1 a2 a3 a4 a5 a6 a7 b0 b1 b2 b3 b4 b5 b6 b7).counts, (trD a0 a1 a2 a3 a4 a5 a6 a7 b0 b1 b2 b3 b4 b5 b6 b7).colors.set k c⟩
      have f2 := f.later ((Below.refl _ _).alloc (Nat.le_refl _) (.cells #[.slice ao 8 co, .slice aw nw cw, .slice ab nb cb, .slice sa ns sc] 33))
      have f3 := f2.later ((Below.refl _ _).alloc (Nat.le_refl _) (.cells #[.int .i64 0, .int .i64 0, .int .i64 0, .int .i64 0, .int .i64 0, .int .i64 0, .int .i64 0, .int .i64 0, .int .i64 0, .int .i64 0, .int .i64 0, .int .i64 0, .int .i64 0, .int .i64 0, .int .i64 0, .int .i64 0] 117))
      rw [hW1]; exact f3
    have F1 : Four W1 (w.heap.size + 1) (.slice ao 8 co) (.slice aw nw cw) (.slice ab nb cb) (.slice sa ns sc) := by
      have f := Four.new (w.alloc (.cells ([.int .i64 a0, .int .i64 a1, .int .i64 a2, .int .i64 a3, .int .i64 a4, .int .i64 a5, .int .i64 a6, .int .i64 a7, .int .i64 b0, .int .i64 b1, .int .i64 b2, .int .i64 b3, .int .i64 b4, .int .i64 b5, .int .i64 b6, .int .i64 b7].set (8 + k) (.int .i64 c)).toArray 117)) (.slice ao 8 co) (.slice aw nw cw) (.slice ab nb cb) (.slice sa ns sc)
      have f3 := f.later ((Below.refl _ _).alloc (Nat.le_refl _) (.cells #[.int .i64 0, .int .i64 0, .int .i64 0, .int .i64 0, .int .i64 0, .int .i64 0, .int .i64 0, .int .i64 0, .int .i64 0, .int .i64 0, .int .i64 0, .int .i64 0, .int .i64 0, .int .i64 0, .int .i64 0, .int .i64 0] 117))
      rw [hW1]; simpa using f3
    have Z1 : Arr W1 (w.heap.size + 2) (trD 0 0 0 0 0 0 0 0 0 0 0 0 0 0 0 0) := by
      have f := Arr.new ((w.alloc (.cells ([.int .i64 a0, .int .i64 a1, .int .i64 a2, .int .i64 a3, .int .i64 a4, .int .i64 a5, .int .i64 a6, .int .i64 a7, .int .i64 b0, .int .i64 b1, .int .i64 b2, .int .i64 b3, .int .i64 b4, .int .i64 b5, .int .i64 b6, .int .i64 b7].set (8 + k) (.int .i64 c)).toArray 117)).alloc (.cells #[.slice ao 8 co, .slice aw nw cw, .slice ab nb cb, .slice sa ns sc] 33)) (trD 0 0 0 0 0 0 0 0 0 0 0 0 0 0 0 0)
      have f2 : Arr W1 ((w.alloc (.cells ([.int .i64 a0, .int .i64 a1, .int .i64 a2, .int .i64 a3, .int .i64 a4, .int .i64 a5, .int .i64 a6, .int .i64 a7, .int .i64 b0, .int .i64 b1, .int .i64 b2, .int .i64 b3, .int .i64 b4, .int .i64 b5, .int .i64 b6, .int .i64 b7].set (8 + k) (.int .i64 c)).toArray 117)).alloc (.cells #[.slice ao 8 co, .slice aw nw cw, .slice ab nb cb, .slice sa ns sc] 33)).heap.size (trD 0 0 0 0 0 0 0 0 0 0 0 0 0 0 0 0) := by rw [hW1]; exact f
      simpa using f2
    have HP1 : Hid (∀ X vk ks, Below W1.heap.size W1 X → ownI X (w.heap.size + 3) vk ks → PF w X (.slice ao 8 co) (.slice aw nw cw) (.slice ab nb cb) (.slice sa ns sc) ⟨(trD a0 a1 a2 a3 a4 a5 a6 a7 b0 b1 b2 b3 b4 b5 b6 b7).counts, (trD a0 a1 a2 a3 a4 a5 a6 a7 b0 b1 b2 b3 b4 b5 b6 b7).colors.set k c⟩ vk ks) := fun X vk ks hX ho =>
      ⟨B1.trans (hX.mono B1.size), A1.later hX, F1.later hX, Z1.later hX, ho⟩
    have hk8 : (k : Int) < 8 := by omega
    clear A1 F1 Z1 ec
    generalize (⟨(trD a0 a1 a2 a3 a4 a5 a6 a7 b0 b1 b2 b3 b4 b5 b6 b7).counts, (trD a0 a1 a2 a3 a4 a5 a6 a7 b0 b1 b2 b3 b4 b5 b6 b7).colors.set k c⟩ : TrialD) = T1 at HP1 HST HE1 HO1
    generalize col (trD a0 a1 a2 a3 a4 a5 a6 a7 b0 b1 b2 b3 b4 b5 b6 b7) k = q at *
    rw [hW] at ck fk
    clear A0 F0 Z0 hd hRk e8 hW BW sW
    rw [trD_v]
    obtain ⟨L, hL⟩ : ∃ L, (kidsOf H (k : Int)).length = L := ⟨_, rfl⟩
    have HL : Hid ((kidsOf H (k : Int)).length = L) := hL
    rw [hL] at hkl
    clear hL
    have Hs1 : Hid (W1.heap.size = w.heap.size + 3) := s1
    go_enter Try.func73, Try.ntmps73
    go_wp2_with fail
    rw [← hW1]
    clear hW1 ck fk s1
    refine (CK.out _ B1).mono ?_
    rintro e w2 ⟨vk, rfl, O2, b2⟩
    rw [Hs1.out] at O2
    obtain ⟨ka, kc, hvk, -⟩ := rdI_own O2
    rw [HL.out] at hvk
    subst hvk
    have HPF : Hid (PF w w2 (.slice ao 8 co) (.slice aw nw cw) (.slice ab nb cb) (.slice sa ns sc) T1 (.slice ka L kc) (kidsOf H (k : Int))) := HP1.out _ _ _ b2 O2
    clear b2 O2 CK HP1 B1
    go_wp2
    go_loopw [28] (fun i wr => ∃ (j : Nat) (T2 : TrialD), i = .int .i64 (j : Int) ∧ j ≤ L ∧ Hid (PF w wr (.slice ao 8 co) (.slice aw nw cw) (.slice ab nb cb) (.slice sa ns sc) T2 (.slice ka L kc) (kidsOf H (k : Int))) ∧ Hid (Midst d c H T0 R C M k j T2) ∧ Hid (others c T2.colors ≤ n)) (fun i _ => L - (intOf i).toNat)
    case atStart => exact ⟨0, T1, rfl, by omega, HPF, HST, HO1⟩
    case round =>
      clear HPF HST HO1 HE1
      obtain ⟨j, T2, rfl, hjL, HP, HM, HO⟩ := hrel
      by_cases hlt : j < L
      · have hj2 : j < (kidsOf H (k : Int)).length := by have := HL.out; omega
        obtain ⟨z, hz⟩ : ∃ z, (kidsOf H (k : Int))[j] = z := ⟨_, rfl⟩
        obtain ⟨C2, hD, hsh, hks, hRz, hz7⟩ := midst_count hR HM.out hj2 z hz
        obtain ⟨m, rfl⟩ : ∃ m : Nat, z = (m : Int) := ⟨z.toNat, by omega⟩
        have hm : m < 8 := by omega
        rw [show ((m : Int)).toNat = m from by omega] at hD hRz
        obtain ⟨ka2, kc2, hka, hr⟩ := rdI_own' HP.out.kids
        rw [HL.out] at hka
        simp only [Value.slice.injEq] at hka
        obtain ⟨rfl, -, rfl⟩ := hka
        obtain ⟨kg, ko, rfl, hkg, hcz⟩ := hr j hj2
        rw [hz] at hcz
        have HZ : Hid (_ = _) := hz
        have E2 : Eight T2 := by obtain ⟨_, h, -⟩ := HM.out; exact h.pt.e
        have c2 := HP.out.arr.count E2 m hm
        have f2 := HP.out.arr.frozen m
        have e0 : T2.counts.getD m 0 = cnt T2 m := rfl
        rw [e0] at hD
        obtain ⟨y, hy⟩ : ∃ y, wrap64 (cnt T2 m + d) = y := ⟨_, rfl⟩
        rw [hy] at hD
        obtain ⟨X1, hX1⟩ : ∃ X1, X1 = wr.setCell ⟨w.heap.size, m, none⟩ (.int .i64 y) := ⟨_, rfl⟩
        have A1 : Arr X1 w.heap.size ⟨T2.counts.set m y, T2.colors⟩ := by rw [hX1]; exact HP.out.arr.setCount E2 m hm y
        have BX1 : Below w.heap.size w X1 := by rw [hX1]; exact HP.out.bel.setCell (p := ⟨w.heap.size, m, none⟩) (Nat.le_refl _) _
        have HPX : Hid (PF w X1 (.slice ao 8 co) (.slice aw nw cw) (.slice ab nb cb) (.slice sa ns sc) ⟨T2.counts.set m y, T2.colors⟩ (.slice (some ⟨kg, ko, none⟩) L kc) (kidsOf H (k : Int))) := HP.out.turn BX1 (fun i hi => by rw [hX1]; exact heap_setCell_other _ _ _ _ hi) A1
        have HO3 : Hid (others c (TrialD.mk (T2.counts.set m y) T2.colors).colors ≤ n) := HO
        generalize cnt T2 m = x at *
        have hE3 := hD.pt.e
        generalize (TrialD.mk (T2.counts.set m y) T2.colors) = T3 at *
        obtain ⟨p0, p1, p2, p3, p4, p5, p6, p7, p8, p9, p10, p11, p12, p13, p14, p15, rfl⟩ := eight_trD hE3
        have CI : Hid (∀ _ : Unit, _) := fun (_ : Unit) => HIH.out _ _ _ m X1 HO3.out hD hm hRz BX1
        rw [trD_v] at CI
        have v0 : X1.cell? ⟨w.heap.size + 1, 0, none⟩ = _ := HPX.out.heap.cell 0
        have v1 : X1.cell? ⟨w.heap.size + 1, 1, none⟩ = _ := HPX.out.heap.cell 1
        have v2 : X1.cell? ⟨w.heap.size + 1, 2, none⟩ = _ := HPX.out.heap.cell 2
        have v3 : X1.cell? ⟨w.heap.size + 1, 3, none⟩ = _ := HPX.out.heap.cell 3
        simp only [List.getElem?_toArray, List.getElem?_cons_zero, List.getElem?_cons_succ] at v0 v1 v2 v3
        have HA1 : Hid _ := A1
        rw [hX1] at v0 v1 v2 v3 HA1
        have hm8 : (m : Int) < 8 := by omega
        have hjl : (j : Int) < (L : Int) := by omega
        have HE3 : Hid _ := hE3
        have HD3 : Hid _ := hD
        have HSH : Hid _ := hsh
        have HKS : Hid _ := hks
        clear A1 BX1 hD hRz E2 HM HP e0 hE3 hsh hks HO hr hz7 hz
        go_wp2_with (refine wpList_load16 rfl HA1.out ?_)
        rw [← hX1]
        clear hX1 v0 v1 v2 v3 c2 f2 HA1 hcz
        refine (CI.out ()).mono ?_
        rintro e w3 ⟨T4, rfl, hP4, b3⟩
        have HM4 : Hid (Midst d c H T0 R C M k (j + 1) T4) := midst_step hj2 (m : Int) HZ.out HSH.out HKS.out (by rw [show ((m : Int)).toNat = m from by omega]; exact hP4)
        have PF3 := HPX.out.later b3
        have E4 : Eight T4 := by obtain ⟨_, h, -⟩ := HM4.out; exact h.pt.e
        have HO4 : Hid (others c T4.colors ≤ n) := by
          obtain ⟨C3, h4, -⟩ := hP4
          exact Nat.le_trans (deep_others HD3.out h4 (fun x hx => List.mem_append_left _ hx)) HO3.out
        obtain ⟨q0, q1, q2, q3, q4, q5, q6, q7, q8, q9, q10, q11, q12, q13, q14, q15, rfl⟩ := eight_trD E4
        have HA3 : Hid _ := PF3.arr
        have HPN : Hid (PF w (set16 w3 w.heap.size q0 q1 q2 q3 q4 q5 q6 q7 q8 q9 q10 q11 q12 q13 q14 q15) (.slice ao 8 co) (.slice aw nw cw) (.slice ab nb cb) (.slice sa ns sc) (trD q0 q1 q2 q3 q4 q5 q6 q7 q8 q9 q10 q11 q12 q13 q14 q15) (.slice (some ⟨kg, ko, none⟩) L kc) (kidsOf H (k : Int))) := PF3.turn (set16_below q0 q1 q2 q3 q4 q5 q6 q7 q8 q9 q10 q11 q12 q13 q14 q15 PF3.bel (Nat.le_refl _)) (fun i hi => set16_other _ _ q0 q1 q2 q3 q4 q5 q6 q7 q8 q9 q10 q11 q12 q13 q14 q15 i hi) (set16_arr PF3.arr HE3.out q0 q1 q2 q3 q4 q5 q6 q7 q8 q9 q10 q11 q12 q13 q14 q15)
        rw [trD_v]
        clear PF3 HPX b3 hP4 CI E4
        go_wp2_with (refine wpList_store16 rfl rfl HA3.out HE3.out ?_)
        go_roundw
        case rel => exact ⟨j + 1, trD q0 q1 q2 q3 q4 q5 q6 q7 q8 q9 q10 q11 q12 q13 q14 q15, by go_num, by omega, HPN, HM4, HO4⟩
        case measure => simp [intOf]; omega
      · have hLj : L ≤ j := by omega
        have HFIN : Hid (Painted d c H T0 R C M k T2) := midst_end HM.out (by rw [HL.out]; exact hLj)
        have E2 : Eight T2 := by obtain ⟨_, h, -⟩ := HM.out; exact h.pt.e
        obtain ⟨p0, p1, p2, p3, p4, p5, p6, p7, p8, p9, p10, p11, p12, p13, p14, p15, rfl⟩ := eight_trD E2
        have HA5 : Hid _ := HP.out.arr
        have HR5 : Hid _ := HP.out.res
        have HZ5 : Hid (Eight (trD 0 0 0 0 0 0 0 0 0 0 0 0 0 0 0 0)) := ⟨rfl, rfl⟩
        obtain ⟨f0_, f1_, f2_, f3_, f4_, f5_, f6_, f7_, f8_, f9_, f10_, f11_, f12_, f13_, f14_, f15_⟩ := (set16_arr HP.out.res HZ5.out p0 p1 p2 p3 p4 p5 p6 p7 p8 p9 p10 p11 p12 p13 p14 p15).all
        have HB : Hid (Below w.heap.size w (set16 wr (w.heap.size + 2) p0 p1 p2 p3 p4 p5 p6 p7 p8 p9 p10 p11 p12 p13 p14 p15)) := set16_below p0 p1 p2 p3 p4 p5 p6 p7 p8 p9 p10 p11 p12 p13 p14 p15 HP.out.bel (by omega)
        clear HP HM HO E2
        go_wp2_with (first | (refine wpList_load16 rfl HA5.out ?_) | (refine wpList_store16 rfl rfl HR5.out HZ5.out ?_))
        exact bodyPost_ret (v := .agg #[.int .i64 p0, .int .i64 p1, .int .i64 p2, .int .i64 p3, .int .i64 p4, .int .i64 p5, .int .i64 p6, .int .i64 p7, .int .i64 p8, .int .i64 p9, .int .i64 p10, .int .i64 p11, .int .i64 p12, .int .i64 p13, .int .i64 p14, .int .i64 p15]) (by simp [results, Try.results73, go_sem, *]) rfl ⟨_, rfl, HFIN.out, HB.out⟩

end Go.Proofs.Ytjhdnachbahbmaa

namespace Go.Proofs.Ytjhdnachbahbmaa
open Go.RowKit
set_option linter.unusedVariables false
set_option maxRecDepth 100000

/-- Two rows lie in two blocks. -/
def Dif2 (u v : Value) : Prop := ∀ g, u.ownBlock = some g → v.ownBlock ≠ some g
theorem Dif2.symm {u v : Value} (h : Dif2 u v) : Dif2 v u := fun g h1 h2 => h g h2 h1
/-- A trial's places. -/
structure TSh where
  a : Option Addr
  n : Nat
  c : Nat
  b : Option Addr
  m : Nat
  d : Nat
def TSh.x (s : TSh) : Value := .slice s.a s.n s.c
def TSh.y (s : TSh) : Value := .slice s.b s.m s.d
def TSh.v (s : TSh) : Value := .agg #[.slice s.a s.n s.c, .slice s.b s.m s.d]
/-- A trial in memory of its own, at or behind a size. -/
structure TM (w : World) (B : Nat) (s : TSh) (T : TrialD) : Prop where
  x : ownI w B s.x T.counts
  y : ownI w B s.y T.colors
  dif : Dif2 s.x s.y
theorem TM.later {w w' : World} {B : Nat} {s : TSh} {T : TrialD} (h : TM w B s T) (hb : Below w.heap.size w w') : TM w' B s T := ⟨ownI_later h.x hb, ownI_later h.y hb, h.dif⟩
theorem TM.mono {w : World} {B C : Nat} {s : TSh} {T : TrialD} (h : TM w B s T) (hC : C ≤ B) : TM w C s T := ⟨ownI_mono h.x hC, ownI_mono h.y hC, h.dif⟩
theorem TM.same {w w' : World} {B : Nat} {s : TSh} {T : TrialD} (h : TM w B s T) (hs : ∀ g, B ≤ g → g < w.heap.size → w'.heap[g]? = w.heap[g]?) : TM w' B s T :=
  ⟨ownI_same h.x (fun g hg => hs g (ownI_lt h.x g hg).1 (ownI_lt h.x g hg).2), ownI_same h.y (fun g hg => hs g (ownI_lt h.y g hg).1 (ownI_lt h.y g hg).2), h.dif⟩
theorem own_len {w : World} {B : Nat} {a : Option Addr} {n c : Nat} {zs : List Int} (h : ownI w B (.slice a n c) zs) : n = zs.length := by
  obtain ⟨a2, c2, h1, -⟩ := rdI_own h
  injection h1
theorem TM.lens {w : World} {B : Nat} {s : TSh} {T : TrialD} (h : TM w B s T) : s.n = T.counts.length ∧ s.m = T.colors.length := ⟨own_len h.x, own_len h.y⟩
theorem TM.rd {w : World} {B : Nat} {s : TSh} {T : TrialD} (h : TM w B s T) : RdT w s.v T := by
  obtain ⟨a, c, h1, h2⟩ := rdI_own h.x
  obtain ⟨b, d, h3, h4⟩ := rdI_own h.y
  refine ⟨a, c, b, d, ?_, h2.out, h4.out⟩
  show Value.agg #[s.x, s.y] = _
  rw [h1, h3]

/-- A block of two slices, and a trial's value stored there. -/
def Two (X : World) (g : Nat) (x0 x1 : Value) : Prop := X.heap[g]? = some (.cells #[x0, x1] 105 (0, 0))
theorem Two.cell {X : World} {g : Nat} {x0 x1 : Value} (h : Two X g x0 x1) (k : Nat) : X.cell? ⟨g, k, none⟩ = (#[x0, x1] : Array Value)[k]? := by
  have h' : X.heap[g]? = some (.cells #[x0, x1] 105 (0, 0)) := h
  simp [World.cell?, h']
theorem Two.frozen {X : World} {g : Nat} {x0 x1 : Value} (h : Two X g x0 x1) (k : Nat) : X.frozen? ⟨g, k, none⟩ = false := by
  have h' : X.heap[g]? = some (.cells #[x0, x1] 105 (0, 0)) := h
  simp [World.frozen?, h']
theorem Two.lt {X : World} {g : Nat} {x0 x1 : Value} (h : Two X g x0 x1) : g < X.heap.size := (Array.getElem?_eq_some_iff.1 h).1
theorem Two.same {X Y : World} {g : Nat} {x0 x1 : Value} (h : Two X g x0 x1) (hs : Y.heap[g]? = X.heap[g]?) : Two Y g x0 x1 := hs.trans h
theorem Two.later {X Y : World} {g B : Nat} {x0 x1 : Value} (h : Two X g x0 x1) (hb : Below B X Y) (hg : g < B) : Two Y g x0 x1 := h.same (hb.block g hg)
theorem Two.new (w : World) (x0 x1 : Value) : Two (w.alloc (.cells #[x0, x1] 105)) w.heap.size x0 x1 := heap_alloc_new w _
def setTwo (X : World) (g : Nat) (y0 y1 : Value) : World := (X.setCell ⟨g, 0, none⟩ y0).setCell ⟨g, 1, none⟩ y1
theorem setTwo_size (X : World) (g : Nat) (y0 y1 : Value) : (setTwo X g y0 y1).heap.size = X.heap.size := by unfold setTwo; simp [World.setCell]
theorem setTwo_other (X : World) (g : Nat) (y0 y1 : Value) (i : Nat) (h : i ≠ g) : (setTwo X g y0 y1).heap[i]? = X.heap[i]? := by
  unfold setTwo
  iterate 2 rw [heap_setCell_other _ _ _ _ (by exact h)]
theorem setTwo_cell {X : World} {g : Nat} {u0 u1 : Value} (y0 y1 : Value) (h : Two X g u0 u1) : (setTwo X g y0 y1).cell? ⟨g, 0, none⟩ = some y0 ∧ (setTwo X g y0 y1).cell? ⟨g, 1, none⟩ = some y1 := by
  have same : ∀ (W : World) (q : Nat) (u v : Value), W.cell? ⟨g, q, none⟩ = some v → (W.setCell ⟨g, q, none⟩ u).cell? ⟨g, q, none⟩ = some u := fun W q u v hW => World.cell?_setCell_same W _ u hW
  unfold setTwo
  constructor
  · rw [cell_far _ _ _ _ _ (by omega)]
    exact same _ _ _ _ (h.cell 0)
  · exact same _ _ _ _ (by rw [cell_far _ _ _ _ _ (by omega)]; exact h.cell 1)

theorem opFieldT {t i : Tmp} {ty : TypeId} {pos : String} {af : Array Edge} {a : Act} {X : World} {K : Act → World → Prop} {Q : Exit → Act → World → Prop} {P : Nat} (k : Nat) (hk : k < 2) (h1 : a.eval (.tmp i) = .pointer (some ⟨P, 0, none⟩)) (hK : K (a.put (some t) (.pointer (some ⟨P, k, none⟩))) X) :
    Oper.wp Try.prog ⟨some t, .fieldAddr 105 (.tmp i) k, ty, pos, af, none⟩ a X K Q := by
  have h := ev_tmp h1
  match k, hk with
  | 0, _ => go_simp; exact hK
  | 1, _ => go_simp; exact hK
theorem opBuild2 {t i j : Tmp} {ty : TypeId} {pos : String} {af : Array Edge} {a : Act} {X : World} {K : Act → World → Prop} {Q : Exit → Act → World → Prop} {x y : Option Addr} {n m c d : Nat} (h1 : a.eval (.tmp i) = .slice x n c) (h2 : a.eval (.tmp j) = .slice y m d)
    (hK : K (a.put (some t) (.agg #[.slice x n c, .slice y m d])) X) : Oper.wp Try.prog ⟨some t, .build 105 #[(0, .tmp i), (1, .tmp j)], ty, pos, af, none⟩ a X K Q := by
  have e1 := ev_tmp h1
  have e2 := ev_tmp h2
  go_simp; exact hK
theorem opStoreT {i j : Tmp} {ty : TypeId} {pos : String} {af : Array Edge} {a : Act} {X : World} {K : Act → World → Prop} {Q : Exit → Act → World → Prop} {g : Nat} {u0 u1 : Value} {x y : Option Addr} {n m c d : Nat} (h1 : a.eval (.tmp i) = .pointer (some ⟨g, 0, none⟩)) (h2 : a.eval (.tmp j) = .agg #[.slice x n c, .slice y m d])
    (hf : Two X g u0 u1) (hK : K a (setTwo X g (.slice x n c) (.slice y m d))) : Oper.wp Try.prog ⟨none, .store 105 (.tmp i) (.tmp j), ty, pos, af, none⟩ a X K Q := by
  have e1 := ev_tmp h1
  have e2 := ev_tmp h2
  have k0 : X.cell? ⟨g, 0, none⟩ = some u0 := hf.cell 0
  have k1 : X.cell? ⟨g, 1, none⟩ = some u1 := hf.cell 1
  have f0 := hf.frozen 0
  have f1 := hf.frozen 1
  go_simp; exact hK

/-- What each operation of the copy's literal yields, and to which of the two rows it belongs. -/
def RT (B P : Nat) (aa : Option Addr) (an ac : Nat) (ba : Option Addr) (bn bc : Nat) (NA NB : List Value) : Nat → World → Value → Prop
  | 0, X, v => ∃ g, v = .slice (some ⟨g, 0, none⟩) 0 0 ∧ B ≤ g ∧ X.heap[g]? = some (.cells #[] 3 (0, 0))
  | 1, X, v => v = .pointer (some ⟨P, 0, none⟩)
  | 2, X, v => v = .slice aa an ac
  | 3, X, v => X.ownsRow B 3 1 v an NA
  | 4, X, v => ∃ g, v = .slice (some ⟨g, 0, none⟩) 0 0 ∧ B ≤ g ∧ X.heap[g]? = some (.cells #[] 3 (0, 0))
  | 5, X, v => v = .pointer (some ⟨P, 1, none⟩)
  | 6, X, v => v = .slice ba bn bc
  | 7, X, v => X.ownsRow B 3 1 v bn NB
  | 8, X, v => ∃ x1 c1 x2 c2, v = .agg #[.slice x1 an c1, .slice x2 bn c2] ∧ X.ownsRow B 3 1 (.slice x1 an c1) an NA ∧ X.ownsRow B 3 1 (.slice x2 bn c2) bn NB ∧ Dif2 (.slice x1 an c1) (.slice x2 bn c2)
  | _, _, _ => True
def famT : Nat → Nat
  | 0 => 1
  | 3 => 1
  | 4 => 2
  | 7 => 2
  | _ => 0
def DT (i j : Nat) (u v : Value) : Prop := famT i ≠ 0 → famT j ≠ 0 → famT i ≠ famT j → Dif2 u v
theorem rt_mono {B P : Nat} {aa : Option Addr} {an ac : Nat} {ba : Option Addr} {bn bc : Nat} {NA NB : List Value} (i : Nat) (X Y : World) (v : Value) (h : RT B P aa an ac ba bn bc NA NB i X v) (hb : Below X.heap.size X Y) : RT B P aa an ac ba bn bc NA NB i Y v := by
  have blk : ∀ (g : Nat) (o : Obj), X.heap[g]? = some o → Y.heap[g]? = some o := fun g o hg => (hb.block g (Array.getElem?_eq_some_iff.1 hg).1).trans hg
  match i, h with
  | 0, ⟨g, h1, h2, h3⟩ => exact ⟨g, h1, h2, blk g _ h3⟩
  | 1, h => exact h
  | 2, h => exact h
  | 3, h => exact row_later h hb
  | 4, ⟨g, h1, h2, h3⟩ => exact ⟨g, h1, h2, blk g _ h3⟩
  | 5, h => exact h
  | 6, h => exact h
  | 7, h => exact row_later h hb
  | 8, ⟨x1, c1, x2, c2, h1, h2, h3, h4⟩ => exact ⟨x1, c1, x2, c2, h1, row_later h2 hb, row_later h3 hb, h4⟩
  | n + 9, _ => exact trivial
theorem rt_old {B P : Nat} {aa : Option Addr} {an ac : Nat} {ba : Option Addr} {bn bc : Nat} {NA NB : List Value} (i : Nat) (X : World) (v : Value) (h : RT B P aa an ac ba bn bc NA NB i X v) (hf : famT i ≠ 0) : ∀ g, v.ownBlock = some g → g < X.heap.size := by
  intro g hg
  match i, h, hf with
  | 0, ⟨g2, h1, h2, h3⟩, _ =>
    subst h1
    obtain rfl : g2 = g := by simpa [Value.ownBlock] using hg
    exact (Array.getElem?_eq_some_iff.1 h3).1
  | 3, h, _ => exact (World.ownsRow.lt h g hg).2
  | 4, ⟨g2, h1, h2, h3⟩, _ =>
    subst h1
    obtain rfl : g2 = g := by simpa [Value.ownBlock] using hg
    exact (Array.getElem?_eq_some_iff.1 h3).1
  | 7, h, _ => exact (World.ownsRow.lt h g hg).2
  | 1, _, hf => exact absurd rfl hf
  | 2, _, hf => exact absurd rfl hf
  | 5, _, hf => exact absurd rfl hf
  | 6, _, hf => exact absurd rfl hf
  | 8, _, hf => exact absurd rfl hf
  | n + 9, _, hf => exact absurd rfl hf
/-- What lies in a new block lies in none that was there. -/
theorem dt_new {B P : Nat} {aa : Option Addr} {an ac : Nat} {ba : Option Addr} {bn bc : Nat} {NA NB : List Value} {i j : Nat} {X : World} {u v : Value} (h : RT B P aa an ac ba bn bc NA NB j X v) (hu : u.ownBlock = some X.heap.size) : DT i j u v ∧ DT j i v u :=
  have key : famT j ≠ 0 → Dif2 u v := fun hj g h1 h2 => by
    have h3 := rt_old j X v h hj g h2
    rw [hu] at h1
    injection h1 with h1
    omega
  ⟨fun _ hj _ => key hj, fun hj _ _ => (key hj).symm⟩
/-- What lies where another of its row did, or in a new block. -/
theorem dt_of {B P : Nat} {aa : Option Addr} {an ac : Nat} {ba : Option Addr} {bn bc : Nat} {NA NB : List Value} {i j k g : Nat} {X : World} {u u0 v : Value} (h : RT B P aa an ac ba bn bc NA NB j X v) (hu : ∃ g', u.ownBlock = some g' ∧ (g' = g ∨ g' = X.heap.size)) (h0 : u0.ownBlock = some g) (hf : famT k = famT i) (hk : j ≠ k → DT k j u0 v) : DT i j u v ∧ DT j i v u := by
  obtain ⟨g', h1, rfl | rfl⟩ := hu
  · have key : famT i ≠ 0 → famT j ≠ 0 → famT i ≠ famT j → Dif2 u v := fun hi hj hij q h2 h3 => by
      rw [h1] at h2
      injection h2 with h2
      subst h2
      refine hk ?_ (by rw [hf]; exact hi) hj (by rw [hf]; exact hij) g' h0 h3
      rintro rfl
      exact hij hf.symm
    exact ⟨key, fun hj hi hij => (key hi hj (fun e => hij e.symm)).symm⟩
  · exact dt_new h h1
theorem dt_no {i j : Nat} {u v : Value} (hi : famT i = 0) : DT i j u v ∧ DT j i v u := ⟨fun h => absurd hi h, fun _ h => absurd hi h⟩

end Go.Proofs.Ytjhdnachbahbmaa

namespace Go.Proofs.Ytjhdnachbahbmaa
open Go.RowKit
set_option linter.unusedVariables false
set_option maxRecDepth 100000

/-- Eight of each, and something live in the slot. -/
structure OkT (H : HeapD) (T : TrialD) (slot : Int) : Prop where
  objs : H.objs.length = 8
  counts : T.counts.length = 8
  colors : T.colors.length = 8
  lo : 0 ≤ slot
  hi : slot ≤ 7
  live : ∃ o, H.objs[slot.toNat]? = some o ∧ o.live = true

end Go.Proofs.Ytjhdnachbahbmaa

namespace Go.Proofs.Ytjhdnachbahbmaa
open Go.RowKit
set_option linter.unusedVariables false
set_option maxRecDepth 100000

theorem opFieldR0 {t i : Tmp} {ty : TypeId} {pos : String} {af : Array Edge} {a : Act} {X : World} {K : Act → World → Prop} {Q : Exit → Act → World → Prop} {P : Nat} (h1 : a.eval (.tmp i) = .pointer (some ⟨P, 0, none⟩)) (hK : K (a.put (some t) (.pointer (some ⟨P, 0, none⟩))) X) :
    Oper.wp Try.prog ⟨some t, .fieldAddr 117 (.tmp i) 0, ty, pos, af, none⟩ a X K Q := by
  have h := ev_tmp h1
  go_simp; exact hK
theorem opFieldR1 {t i : Tmp} {ty : TypeId} {pos : String} {af : Array Edge} {a : Act} {X : World} {K : Act → World → Prop} {Q : Exit → Act → World → Prop} {P : Nat} (h1 : a.eval (.tmp i) = .pointer (some ⟨P, 0, none⟩)) (hK : K (a.put (some t) (.pointer (some ⟨P, 8, none⟩))) X) :
    Oper.wp Try.prog ⟨some t, .fieldAddr 117 (.tmp i) 1, ty, pos, af, none⟩ a X K Q := by
  have h := ev_tmp h1
  go_simp; exact hK
theorem opToArr {t i : Tmp} {ty : TypeId} {pos : String} {af : Array Edge} {a : Act} {X : World} {K : Act → World → Prop} {Q : Exit → Act → World → Prop} {g off c : Nat} (h1 : a.eval (.tmp i) = .slice (some ⟨g, off, none⟩) 8 c) (hK : K (a.put (some t) (.pointer (some ⟨g, off, none⟩))) X) :
    Oper.wp Try.prog ⟨some t, .sliceToArrayPointer 115 (.tmp i), ty, pos, af, none⟩ a X K Q := by
  have h := ev_tmp h1
  go_simp; exact hK
theorem opLoadArr {t i : Tmp} {ty : TypeId} {pos : String} {af : Array Edge} {a : Act} {X : World} {K : Act → World → Prop} {Q : Exit → Act → World → Prop} {g off : Nat} {a0 a1 a2 a3 a4 a5 a6 a7 : Int} (h1 : a.eval (.tmp i) = .pointer (some ⟨g, off, none⟩))
    (hR : RdI X (some ⟨g, off, none⟩) [a0, a1, a2, a3, a4, a5, a6, a7]) (hK : K (a.put (some t) (.agg #[.int .i64 a0, .int .i64 a1, .int .i64 a2, .int .i64 a3, .int .i64 a4, .int .i64 a5, .int .i64 a6, .int .i64 a7])) X) :
    Oper.wp Try.prog ⟨some t, .load 115 (.tmp i), ty, pos, af, none⟩ a X K Q := by
  have h := ev_tmp h1
  have q : ∀ j (h : j < 8), X.cell? ⟨g, off + j, none⟩ = some (.int .i64 ([a0, a1, a2, a3, a4, a5, a6, a7][j])) := fun j hj => by
    obtain ⟨g2, off2, e, -, hc⟩ := hR j hj
    injection e with e
    injection e with e1 e2
    subst e1 e2
    exact hc
  have q0 := q 0 (by omega)
  have q1 := q 1 (by omega)
  have q2 := q 2 (by omega)
  have q3 := q 3 (by omega)
  have q4 := q 4 (by omega)
  have q5 := q 5 (by omega)
  have q6 := q 6 (by omega)
  have q7 := q 7 (by omega)
  simp only [List.getElem_cons_zero, List.getElem_cons_succ, Nat.add_zero] at q0 q1 q2 q3 q4 q5 q6 q7
  clear q hR
  go_simp; exact hK
theorem opBuildTr {t i j : Tmp} {ty : TypeId} {pos : String} {af : Array Edge} {a : Act} {X : World} {K : Act → World → Prop} {Q : Exit → Act → World → Prop} {a0 a1 a2 a3 a4 a5 a6 a7 b0 b1 b2 b3 b4 b5 b6 b7 : Int}
    (h1 : a.eval (.tmp i) = .agg #[.int .i64 a0, .int .i64 a1, .int .i64 a2, .int .i64 a3, .int .i64 a4, .int .i64 a5, .int .i64 a6, .int .i64 a7]) (h2 : a.eval (.tmp j) = .agg #[.int .i64 b0, .int .i64 b1, .int .i64 b2, .int .i64 b3, .int .i64 b4, .int .i64 b5, .int .i64 b6, .int .i64 b7])
    (hK : K (a.put (some t) (arrV (trD a0 a1 a2 a3 a4 a5 a6 a7 b0 b1 b2 b3 b4 b5 b6 b7))) X) : Oper.wp Try.prog ⟨some t, .build 117 #[(0, .tmp i), (1, .tmp j)], ty, pos, af, none⟩ a X K Q := by
  have e1 := ev_tmp h1
  have e2 := ev_tmp h2
  rw [trD_v] at hK
  go_simp; exact hK
theorem opLoadHp {t i : Tmp} {ty : TypeId} {pos : String} {af : Array Edge} {a : Act} {X : World} {K : Act → World → Prop} {Q : Exit → Act → World → Prop} {g : Nat} {x0 x1 x2 x3 : Option Addr} {n0 n1 n2 n3 c0 c1 c2 c3 : Nat} (h1 : a.eval (.tmp i) = .pointer (some ⟨g, 0, none⟩))
    (hF : Four X g (.slice x0 n0 c0) (.slice x1 n1 c1) (.slice x2 n2 c2) (.slice x3 n3 c3)) (hK : K (a.put (some t) (.agg #[.slice x0 n0 c0, .slice x1 n1 c1, .slice x2 n2 c2, .slice x3 n3 c3])) X) :
    Oper.wp Try.prog ⟨some t, .load 33 (.tmp i), ty, pos, af, none⟩ a X K Q := by
  have h := ev_tmp h1
  have q0 : X.cell? ⟨g, 0, none⟩ = _ := hF.cell 0
  have q1 : X.cell? ⟨g, 1, none⟩ = _ := hF.cell 1
  have q2 : X.cell? ⟨g, 2, none⟩ = _ := hF.cell 2
  have q3 : X.cell? ⟨g, 3, none⟩ = _ := hF.cell 3
  simp only [List.getElem?_toArray, List.getElem?_cons_zero, List.getElem?_cons_succ] at q0 q1 q2 q3
  go_simp; exact hK
theorem opMoveV {t i : Tmp} {ty : TypeId} {pos : String} {af : Array Edge} {a : Act} {X : World} {K : Act → World → Prop} {Q : Exit → Act → World → Prop} {v : Value} (h1 : a.eval (.tmp i) = v) (hK : K (a.put (some t) v) X) :
    Oper.wp Try.prog ⟨some t, .move (.tmp i), ty, pos, af, none⟩ a X K Q := by
  have h := ev_tmp h1
  go_simp; exact hK
theorem opAllocTr {t : Tmp} {ty : TypeId} {pos : String} {af : Array Edge} {a : Act} {X : World} {K : Act → World → Prop} {Q : Exit → Act → World → Prop} (hK : K (a.put (some t) (.pointer (some ⟨X.heap.size, 0, none⟩))) (X.alloc (.cells #[.int .i64 0, .int .i64 0, .int .i64 0, .int .i64 0, .int .i64 0, .int .i64 0, .int .i64 0, .int .i64 0, .int .i64 0, .int .i64 0, .int .i64 0, .int .i64 0, .int .i64 0, .int .i64 0, .int .i64 0, .int .i64 0] 117))) :
    Oper.wp Try.prog ⟨some t, .alloc 117, ty, pos, af, none⟩ a X K Q := by
  go_simp; exact hK
theorem opSliceArr {t i : Tmp} {ty : TypeId} {pos : String} {af : Array Edge} {a : Act} {X : World} {K : Act → World → Prop} {Q : Exit → Act → World → Prop} {g off : Nat} (h1 : a.eval (.tmp i) = .pointer (some ⟨g, off, none⟩)) (hK : K (a.put (some t) (.slice (some ⟨g, off, none⟩) 8 8)) X) :
    Oper.wp Try.prog ⟨some t, .slice 115 (.tmp i) none none none, ty, pos, af, none⟩ a X K Q := by
  have h := ev_tmp h1
  go_simp; exact hK
/-- A call through a function's value. -/
def TryOp (F : Nat) : Prop := ∀ (t f i j k : Tmp) (ty : TypeId) (pos : String) (af : Array Edge) (ats : Array TypeId) (a : Act) (X : World) (K : Act → World → Prop) (Q : Exit → Act → World → Prop) (u v z : Value) (post : Ending → World → Prop), a.eval (.tmp f) = .func (.func F) #[] #[] → a.eval (.tmp i) = u → a.eval (.tmp j) = v → a.eval (.tmp k) = z →
    Calls Try.prog F #[u, v, z] X post → (∀ e w', post e w' → ∃ x, e = .returned x ∧ K (a.put (some t) x) w') →
    Oper.wp Try.prog ⟨some t, .call { callee := .value (.tmp f), args := #[.tmp i, .tmp j, .tmp k], argTypes := ats }, ty, pos, af, none⟩ a X K Q
theorem tryGray : TryOp 71 := by
  intro t f i j k ty pos af ats a X K Q u v z post h0 h1 h2 h3 hC hK
  have e0 := ev_tmp h0
  have e1 := ev_tmp h1
  have e2 := ev_tmp h2
  have e3 := ev_tmp h3
  go_simp
  refine hC.mono (fun e w' hp => ?_)
  obtain ⟨x, rfl, hx⟩ := hK e w' hp
  exact hx
theorem tryScan : TryOp 72 := by
  intro t f i j k ty pos af ats a X K Q u v z post h0 h1 h2 h3 hC hK
  have e0 := ev_tmp h0
  have e1 := ev_tmp h1
  have e2 := ev_tmp h2
  have e3 := ev_tmp h3
  go_simp
  refine hC.mono (fun e w' hp => ?_)
  obtain ⟨x, rfl, hx⟩ := hK e w' hp
  exact hx
theorem opCloneI {t i : Tmp} {ty : TypeId} {pos : String} {af : Array Edge} {ats : Array TypeId} {a : Act} {X : World} {K : Act → World → Prop} {Q : Exit → Act → World → Prop} {v : Value} {post : Ending → World → Prop} (h1 : a.eval (.tmp i) = v) (hC : Calls Try.prog 21 #[v] X post) (hK : ∀ e w', post e w' → ∃ x, e = .returned x ∧ K (a.put (some t) x) w') :
    Oper.wp Try.prog ⟨some t, .call { callee := .value (.func 21), args := #[.tmp i], argTypes := ats }, ty, pos, af, none⟩ a X K Q := by
  have h := ev_tmp h1
  go_simp
  refine hC.mono (fun e w' hp => ?_)
  obtain ⟨x, rfl, hx⟩ := hK e w' hp
  exact hx
/-- A trial in arrays, read as two rows. -/
theorem Arr.rdx {X : World} {g : Nat} {T : TrialD} (h : Arr X g T) (h8 : Eight T) : RdI X (some ⟨g, 0, none⟩) T.counts := fun j hj => by
  refine ⟨g, 0, rfl, h.lt, ?_⟩
  have hj8 : j < 8 := by have := h8.1; omega
  rw [Nat.zero_add, h.count h8 j hj8]
  unfold cnt
  rw [List.getD_eq_getElem?_getD, List.getElem?_eq_getElem hj]; rfl
theorem Arr.rdy {X : World} {g : Nat} {T : TrialD} (h : Arr X g T) (h8 : Eight T) : RdI X (some ⟨g, 8, none⟩) T.colors := fun j hj => by
  refine ⟨g, 8, rfl, h.lt, ?_⟩
  have hj8 : j < 8 := by have := h8.2; omega
  rw [h.color h8 j hj8]
  unfold col
  rw [List.getD_eq_getElem?_getD, List.getElem?_eq_getElem hj]; rfl

end Go.Proofs.Ytjhdnachbahbmaa

namespace Go.Proofs.Ytjhdnachbahbmaa
open Go.RowKit
set_option linter.unusedVariables false
set_option maxRecDepth 100000

/-- What each operation of two copies yields. -/
def RU (B : Nat) (p0 s1 p3 s4 : Value) (xs ys : List Int) : Nat → World → Value → Prop
  | 0, _, v => v = p0
  | 1, _, v => v = s1
  | 2, X, v => ownI X B v xs
  | 3, _, v => v = p3
  | 4, _, v => v = s4
  | 5, X, v => ownI X B v ys
  | 6, X, v => ∃ x1 c1 x2 c2, v = .agg #[.slice x1 xs.length c1, .slice x2 ys.length c2] ∧ ownI X B (.slice x1 xs.length c1) xs ∧ ownI X B (.slice x2 ys.length c2) ys ∧ Dif2 (.slice x1 xs.length c1) (.slice x2 ys.length c2)
  | _, _, _ => True
def famU : Nat → Nat
  | 2 => 1
  | 5 => 2
  | _ => 0
def DU (i j : Nat) (u v : Value) : Prop := famU i ≠ 0 → famU j ≠ 0 → famU i ≠ famU j → Dif2 u v
theorem ru_mono {B : Nat} {p0 s1 p3 s4 : Value} {xs ys : List Int} (i : Nat) (X Y : World) (v : Value) (h : RU B p0 s1 p3 s4 xs ys i X v) (hb : Below X.heap.size X Y) : RU B p0 s1 p3 s4 xs ys i Y v := by
  match i, h with
  | 0, h => exact h
  | 1, h => exact h
  | 2, h => exact ownI_later h hb
  | 3, h => exact h
  | 4, h => exact h
  | 5, h => exact ownI_later h hb
  | 6, ⟨x1, c1, x2, c2, h1, h2, h3, h4⟩ => exact ⟨x1, c1, x2, c2, h1, ownI_later h2 hb, ownI_later h3 hb, h4⟩
  | n + 7, _ => exact trivial
theorem du_no {i j : Nat} {u v : Value} (hi : famU i = 0) : DU i j u v ∧ DU j i v u := ⟨fun h => absurd hi h, fun _ h => absurd hi h⟩
/-- A row in a new block lies apart from what was there. -/
theorem du_new {B : Nat} {p0 s1 p3 s4 : Value} {xs ys zs : List Int} {i j : Nat} {X Y : World} {u v : Value} (h : RU B p0 s1 p3 s4 xs ys j X v) (hu : ownI Y X.heap.size u zs) : DU i j u v ∧ DU j i v u := by
  have key : famU j ≠ 0 → Dif2 u v := fun hj g h1 h2 => by
    have hg := (ownI_lt hu g h1).1
    have hl : g < X.heap.size := by
      match j, h, hj with
      | 2, h, _ => exact (ownI_lt h g h2).2
      | 5, h, _ => exact (ownI_lt h g h2).2
      | 0, _, hf => exact absurd rfl hf
      | 1, _, hf => exact absurd rfl hf
      | 3, _, hf => exact absurd rfl hf
      | 4, _, hf => exact absurd rfl hf
      | 6, _, hf => exact absurd rfl hf
      | n + 7, _, hf => exact absurd rfl hf
    omega
  exact ⟨fun _ hj _ => key hj, fun hj _ _ => (key hj).symm⟩
theorem clone_calls (w : World) (a : Option Addr) (c : Nat) (zs : List Int) (hr : RdI w a zs) (hm : zs.length ≤ 16777216) :
    Calls Try.prog 21 #[.slice a zs.length c] w fun e w' => ∃ x, e = .returned x ∧ ownI w' w.heap.size x zs ∧ Below w.heap.size w w' := cloneI_calls w a zs.length c (zs.map intV) (srcI hr) hm

set_option maxHeartbeats 8000000 in
theorem iTried_no (v u f : Value) (H : HeapD) (T : TrialD) (slot : Int) (w : World) (h : RdH w v H) (ht : RdT w u T) (hs : SmallH H) (hst : SmallT T) (hno : ¬ OkT H T slot) :
    Calls Try.prog 70 #[v, u, .int .i64 slot, f] w fun e w' => ∃ s : TSh, e = .returned s.v ∧ TM w' w.heap.size s T ∧ Below w.heap.size w w' := by
  have HRH : Hid (∀ X, Below w.heap.size w X → RdH X v H) := fun X hX => rdH_later h hX
  obtain ⟨ao, co, aw, cw, ab, cb, sa, sc, rfl, -, -, -, -⟩ := h
  obtain ⟨xa, xc, ya, yc, rfl, r1, r2⟩ := ht
  have l0 := hs.objs
  have l1 := hst.counts
  have l2 := hst.colors
  generalize H.weaks.length = nw at *
  generalize H.buffer.length = nb at *
  generalize H.sites.length = ns at *
  have HCX : Hid (∀ X, Below w.heap.size w X → _) := fun X hX => clone_calls X xa xc T.counts (rdI_later r1 hX) (by omega)
  have HCY : Hid (∀ X, Below w.heap.size w X → _) := fun X hX => clone_calls X ya yc T.colors (rdI_later r2 hX) (by omega)
  obtain ⟨lo, hlo⟩ : ∃ lo, H.objs.length = lo := ⟨_, rfl⟩
  obtain ⟨lx, hlx⟩ : ∃ lx, T.counts.length = lx := ⟨_, rfl⟩
  obtain ⟨ly, hly⟩ : ∃ ly, T.colors.length = ly := ⟨_, rfl⟩
  have HLO : Hid (H.objs.length = lo) := hlo
  have HLX : Hid (T.counts.length = lx) := hlx
  have HLY : Hid (T.colors.length = ly) := hly
  rw [hlx] at HCX
  rw [hly] at HCY
  rw [hlo, hlx, hly]
  rw [hlo] at l0 HRH
  rw [hlx] at l1
  rw [hly] at l2
  clear hlo hlx hly
  obtain ⟨W, hW⟩ : ∃ W, W = ((w.alloc (.cells #[.slice ao lo co, .slice aw nw cw, .slice ab nb cb, .slice sa ns sc] 33)).alloc (.cells #[.slice xa lx xc, .slice ya ly yc] 105)).alloc (.cells #[.slice none 0 0, .slice none 0 0] 105) := ⟨_, rfl⟩
  have BW : Below w.heap.size w W := by rw [hW]; exact (((Below.refl _ _).alloc (Nat.le_refl _) _).alloc (by simp) _).alloc (by simp; omega) _
  have hWs : W.heap.size = w.heap.size + 3 := by rw [hW]; simp
  have FH : Four W w.heap.size (.slice ao lo co) (.slice aw nw cw) (.slice ab nb cb) (.slice sa ns sc) := by
    have f := Four.new w (.slice ao lo co) (.slice aw nw cw) (.slice ab nb cb) (.slice sa ns sc)
    have f2 := f.later ((Below.refl _ _).alloc (Nat.le_refl _) (.cells #[.slice xa lx xc, .slice ya ly yc] 105))
    have f3 := f2.later ((Below.refl _ _).alloc (Nat.le_refl _) (.cells #[.slice none 0 0, .slice none 0 0] 105))
    rw [hW]; exact f3
  have FP : Two W (w.heap.size + 1) (.slice xa lx xc) (.slice ya ly yc) := by
    have f := Two.new (w.alloc (.cells #[.slice ao lo co, .slice aw nw cw, .slice ab nb cb, .slice sa ns sc] 33)) (.slice xa lx xc) (.slice ya ly yc)
    have f2 := f.later ((Below.refl _ _).alloc (Nat.le_refl _) (.cells #[.slice none 0 0, .slice none 0 0] 105)) (by simp)
    rw [← hW] at f2
    simpa using f2
  have FR : Two W (w.heap.size + 2) (.slice none 0 0) (.slice none 0 0) := by
    have f := Two.new ((w.alloc (.cells #[.slice ao lo co, .slice aw nw cw, .slice ab nb cb, .slice sa ns sc] 33)).alloc (.cells #[.slice xa lx xc, .slice ya ly yc] 105)) (.slice none 0 0) (.slice none 0 0)
    rw [← hW] at f
    simpa using f
  have HG1 : Hid (w.heap.size + 1 < W.heap.size) := by show _ < _; omega
  have HGR : Hid (w.heap.size + 2 < W.heap.size) := by show _ < _; omega
  by_cases h0 : lo = 8
  · subst h0
    by_cases h1 : lx = 8
    · subst h1
      by_cases h2 : ly = 8
      · subst h2
        have hnl : NoLive H slot := by
          by_cases a1 : slot < 0
          · exact .inl a1
          by_cases a2 : 8 ≤ slot
          · exact .inr (.inl a2)
          refine .inr (.inr fun o ho => ?_)
          cases hv : o.live with
          | false => rfl
          | true => exact absurd ⟨HLO.out, HLX.out, HLY.out, by omega, by omega, o, ho, hv⟩ hno
        have CL : Hid (∀ X, Below w.heap.size w X → _) := fun X hX => liveIn_no _ H slot X (HRH.out X hX) (by rw [HLO.out]; omega) hnl
        have BWb0 := BW
        have FPb0 := FP
        have FRb0 := FR
        have HWs : Hid (W.heap.size = w.heap.size + 3) := hWs
        clear HRH hno FH hWs hnl
        go_enter Try.func70, Try.ntmps70
        go_wp2_with fail
        rw [← hW]
        clear hW
        refine (CL.out _ BW).mono ?_
        rintro e Wb ⟨rfl, bb⟩
        have BWb := BW.trans (bb.mono BW.size)
        have FPb := FP.later bb HG1.out
        have FRb := FR.later bb HGR.out
        have hbs := bb.size
        have HG1b : Hid (w.heap.size + 1 < Wb.heap.size) := Nat.lt_of_lt_of_le HG1.out hbs
        have HGRb : Hid (w.heap.size + 2 < Wb.heap.size) := Nat.lt_of_lt_of_le HGR.out hbs
        clear HG1 HGR
        have HG1 : Hid (w.heap.size + 1 < Wb.heap.size) := HG1b
        have HGR : Hid (w.heap.size + 2 < Wb.heap.size) := HGRb
        clear HG1b HGRb BW FP FR BWb0 FPb0 FRb0 CL bb
        go_wp2
        have HBW : Hid (Below w.heap.size w Wb) := BWb
        have HFP : Hid (∀ X, Below Wb.heap.size Wb X → Two X (w.heap.size + 1) (.slice xa 8 xc) (.slice ya 8 yc)) := fun X hX => FPb.later hX HG1.out
        have HRES : Hid (Two Wb (w.heap.size + 2) (.slice none 0 0) (.slice none 0 0)) := FRb
        have HCXb : Hid (∀ X, Below Wb.heap.size Wb X → _) := fun X hX => HCX.out X (HBW.out.trans (hX.mono HBW.out.size))
        have HCYb : Hid (∀ X, Below Wb.heap.size Wb X → _) := fun X hX => HCY.out X (HBW.out.trans (hX.mono HBW.out.size))
        clear BWb FPb FRb
        refine wp_region_pair 7 (by kernel_rfl) (by kernel_rfl) (RU Wb.heap.size (.pointer (some ⟨w.heap.size + 1, 0, none⟩)) (.slice xa 8 xc) (.pointer (some ⟨w.heap.size + 1, 1, none⟩)) (.slice ya 8 yc) T.counts T.colors) DU ru_mono ?_ ?_
        · intro i o hi ho a X hX hA dn hbn hdep
          have hXs := hX.size
          match i, hi, ho with
          | 0, _, ho =>
            obtain rfl := Option.some.inj ho
            exact opFieldT 0 (by omega) (alike_at hA (t := 5) (by kernel_rfl)) ⟨_, rfl, Below.refl _ _, rfl, fun j hj _ t ht => du_no rfl⟩
          | 1, _, ho =>
            obtain rfl := Option.some.inj ho
            have e1 : a.eval (.tmp 32) = (.pointer (some ⟨w.heap.size + 1, 0, none⟩)) := hbn.yields 0 (hdep ⟨0, .data⟩ (by simp) rfl) 32 rfl
            exact opLoadI e1 ((HFP.out X hX).cell 0) ⟨_, rfl, Below.refl _ _, rfl, fun j hj _ t ht => du_no rfl⟩
          | 2, _, ho =>
            obtain rfl := Option.some.inj ho
            have e1 : a.eval (.tmp 33) = (.slice xa 8 xc) := hbn.yields 1 (hdep ⟨1, .data⟩ (by simp) rfl) 33 rfl
            refine opCloneI e1 (HCXb.out X hX) ?_
            rintro e w' ⟨x, rfl, hx, hb⟩
            exact ⟨x, rfl, ⟨_, rfl, hb, ownI_mono hx hXs, fun j hj _ t ht => du_new (hbn.yields j hj t ht) hx⟩⟩
          | 3, _, ho =>
            obtain rfl := Option.some.inj ho
            exact opFieldT 1 (by omega) (alike_at hA (t := 5) (by kernel_rfl)) ⟨_, rfl, Below.refl _ _, rfl, fun j hj _ t ht => du_no rfl⟩
          | 4, _, ho =>
            obtain rfl := Option.some.inj ho
            have e1 : a.eval (.tmp 35) = (.pointer (some ⟨w.heap.size + 1, 1, none⟩)) := hbn.yields 3 (hdep ⟨3, .data⟩ (by simp) rfl) 35 rfl
            exact opLoadI e1 ((HFP.out X hX).cell 1) ⟨_, rfl, Below.refl _ _, rfl, fun j hj _ t ht => du_no rfl⟩
          | 5, _, ho =>
            obtain rfl := Option.some.inj ho
            have e1 : a.eval (.tmp 36) = (.slice ya 8 yc) := hbn.yields 4 (hdep ⟨4, .data⟩ (by simp) rfl) 36 rfl
            refine opCloneI e1 (HCYb.out X hX) ?_
            rintro e w' ⟨x, rfl, hx, hb⟩
            exact ⟨x, rfl, ⟨_, rfl, hb, ownI_mono hx hXs, fun j hj _ t ht => du_new (hbn.yields j hj t ht) hx⟩⟩
          | 6, _, ho =>
            obtain rfl := Option.some.inj ho
            have d2 := hdep ⟨2, .data⟩ (by simp) rfl
            have d5 := hdep ⟨5, .data⟩ (by simp) rfl
            have q1 : ownI X Wb.heap.size (a.eval (.tmp 34)) T.counts := hbn.yields 2 d2 34 rfl
            have q2 : ownI X Wb.heap.size (a.eval (.tmp 37)) T.colors := hbn.yields 5 d5 37 rfl
            have q3 : Dif2 (a.eval (.tmp 34)) (a.eval (.tmp 37)) := hbn.pairs 2 5 d2 d5 (by decide) 34 37 rfl rfl (by decide) (by decide) (by decide)
            obtain ⟨x1, c1, e1, -⟩ := rdI_own q1
            obtain ⟨x2, c2, e2, -⟩ := rdI_own q2
            rw [e1] at q1 q3
            rw [e2] at q2 q3
            exact opBuild2 e1 e2 ⟨_, rfl, Below.refl _ _, ⟨x1, c1, x2, c2, rfl, q1, q2, q3⟩, fun j hj _ t ht => du_no rfl⟩
        · intro o ho a X hX hA dn hbn hdn
          obtain rfl := Option.some.inj ho
          obtain ⟨x1, c1, x2, c2, e2, q1, q2, q3⟩ := hbn.yields 6 (hdn 6 (by omega)) 38 rfl
          have e1 : a.eval (.tmp 8) = .pointer (some ⟨w.heap.size + 2, 0, none⟩) := alike_at hA (t := 8) (by kernel_rfl)
          have hf : Two X (w.heap.size + 2) (.slice none 0 0) (.slice none 0 0) := HRES.out.later hX (HGR.out)
          refine opStoreT e1 e2 hf ?_
          obtain ⟨us, hus, rfl⟩ := alike_tmps hA [32, 33, 34, 35, 36, 37, 38] (by kernel_rfl)
          obtain ⟨k0, k1⟩ := setTwo_cell (.slice x1 (T.counts).length c1) (.slice x2 (T.colors).length c2) hf
          have HT : Hid (TM (setTwo X (w.heap.size + 2) (.slice x1 (T.counts).length c1) (.slice x2 (T.colors).length c2)) w.heap.size ⟨x1, (T.counts).length, c1, x2, (T.colors).length, c2⟩ ⟨T.counts, T.colors⟩) := by
            have ne : ∀ {v : Value} {zs : List Int}, ownI X Wb.heap.size v zs → ownI (setTwo X (w.heap.size + 2) (.slice x1 (T.counts).length c1) (.slice x2 (T.colors).length c2)) w.heap.size v zs := fun hr => ownI_mono (ownI_same hr (fun i hi => setTwo_other _ _ _ _ i (by have := (ownI_lt hr i hi).1; have := HGR.out; omega))) (Nat.le_trans HBW.out.size (Nat.le_refl _))
            exact ⟨ne q1, ne q2, q3⟩
          have HB : Hid (Below w.heap.size w (setTwo X (w.heap.size + 2) (.slice x1 (T.counts).length c1) (.slice x2 (T.colors).length c2))) := by
            unfold setTwo
            exact ((HBW.out.trans (hX.mono HBW.out.size)).setCell (by simp) _).setCell (by simp) _
          clear hbn hdn hA hus e1 e2 hf q1 q2 q3 ho
          generalize setTwo X (w.heap.size + 2) (.slice x1 (T.counts).length c1) (.slice x2 (T.colors).length c2) = Y at *
          simp only [List.mapIdx_cons, List.mapIdx_nil, Nat.reduceAdd, List.contains_cons, List.contains_nil, Nat.reduceBEq, Bool.or_false, Bool.or_true, if_true, if_false, Bool.false_eq_true]
          go_wp2
          exact bodyPost_ret (v := .agg #[.slice x1 (T.counts).length c1, .slice x2 (T.colors).length c2]) (by simp [results, Try.results70, go_sem, *]) rfl ⟨⟨x1, (T.counts).length, c1, x2, (T.colors).length, c2⟩, rfl, HT.out, HB.out⟩
      · have n2 : ¬ (ly : Int) = 8 := by omega
        obtain ⟨Wb, hWb⟩ : ∃ Wb, Wb = W := ⟨_, rfl⟩
        rw [← hWb] at BW FP FR HG1 HGR hW
        have BWb := BW
        have FPb := FP
        have FRb := FR
        clear HRH hno FH hWs
        go_enter Try.func70, Try.ntmps70
        go_wp2
        rw [← hW]
        clear hW hWb BW FP FR
        have HBW : Hid (Below w.heap.size w Wb) := BWb
        have HFP : Hid (∀ X, Below Wb.heap.size Wb X → Two X (w.heap.size + 1) (.slice xa 8 xc) (.slice ya ly yc)) := fun X hX => FPb.later hX HG1.out
        have HRES : Hid (Two Wb (w.heap.size + 2) (.slice none 0 0) (.slice none 0 0)) := FRb
        have HCXb : Hid (∀ X, Below Wb.heap.size Wb X → _) := fun X hX => HCX.out X (HBW.out.trans (hX.mono HBW.out.size))
        have HCYb : Hid (∀ X, Below Wb.heap.size Wb X → _) := fun X hX => HCY.out X (HBW.out.trans (hX.mono HBW.out.size))
        clear BWb FPb FRb
        refine wp_region_pair 7 (by kernel_rfl) (by kernel_rfl) (RU Wb.heap.size (.pointer (some ⟨w.heap.size + 1, 0, none⟩)) (.slice xa 8 xc) (.pointer (some ⟨w.heap.size + 1, 1, none⟩)) (.slice ya ly yc) T.counts T.colors) DU ru_mono ?_ ?_
        · intro i o hi ho a X hX hA dn hbn hdep
          have hXs := hX.size
          match i, hi, ho with
          | 0, _, ho =>
            obtain rfl := Option.some.inj ho
            exact opFieldT 0 (by omega) (alike_at hA (t := 5) (by kernel_rfl)) ⟨_, rfl, Below.refl _ _, rfl, fun j hj _ t ht => du_no rfl⟩
          | 1, _, ho =>
            obtain rfl := Option.some.inj ho
            have e1 : a.eval (.tmp 32) = (.pointer (some ⟨w.heap.size + 1, 0, none⟩)) := hbn.yields 0 (hdep ⟨0, .data⟩ (by simp) rfl) 32 rfl
            exact opLoadI e1 ((HFP.out X hX).cell 0) ⟨_, rfl, Below.refl _ _, rfl, fun j hj _ t ht => du_no rfl⟩
          | 2, _, ho =>
            obtain rfl := Option.some.inj ho
            have e1 : a.eval (.tmp 33) = (.slice xa 8 xc) := hbn.yields 1 (hdep ⟨1, .data⟩ (by simp) rfl) 33 rfl
            refine opCloneI e1 (HCXb.out X hX) ?_
            rintro e w' ⟨x, rfl, hx, hb⟩
            exact ⟨x, rfl, ⟨_, rfl, hb, ownI_mono hx hXs, fun j hj _ t ht => du_new (hbn.yields j hj t ht) hx⟩⟩
          | 3, _, ho =>
            obtain rfl := Option.some.inj ho
            exact opFieldT 1 (by omega) (alike_at hA (t := 5) (by kernel_rfl)) ⟨_, rfl, Below.refl _ _, rfl, fun j hj _ t ht => du_no rfl⟩
          | 4, _, ho =>
            obtain rfl := Option.some.inj ho
            have e1 : a.eval (.tmp 35) = (.pointer (some ⟨w.heap.size + 1, 1, none⟩)) := hbn.yields 3 (hdep ⟨3, .data⟩ (by simp) rfl) 35 rfl
            exact opLoadI e1 ((HFP.out X hX).cell 1) ⟨_, rfl, Below.refl _ _, rfl, fun j hj _ t ht => du_no rfl⟩
          | 5, _, ho =>
            obtain rfl := Option.some.inj ho
            have e1 : a.eval (.tmp 36) = (.slice ya ly yc) := hbn.yields 4 (hdep ⟨4, .data⟩ (by simp) rfl) 36 rfl
            refine opCloneI e1 (HCYb.out X hX) ?_
            rintro e w' ⟨x, rfl, hx, hb⟩
            exact ⟨x, rfl, ⟨_, rfl, hb, ownI_mono hx hXs, fun j hj _ t ht => du_new (hbn.yields j hj t ht) hx⟩⟩
          | 6, _, ho =>
            obtain rfl := Option.some.inj ho
            have d2 := hdep ⟨2, .data⟩ (by simp) rfl
            have d5 := hdep ⟨5, .data⟩ (by simp) rfl
            have q1 : ownI X Wb.heap.size (a.eval (.tmp 34)) T.counts := hbn.yields 2 d2 34 rfl
            have q2 : ownI X Wb.heap.size (a.eval (.tmp 37)) T.colors := hbn.yields 5 d5 37 rfl
            have q3 : Dif2 (a.eval (.tmp 34)) (a.eval (.tmp 37)) := hbn.pairs 2 5 d2 d5 (by decide) 34 37 rfl rfl (by decide) (by decide) (by decide)
            obtain ⟨x1, c1, e1, -⟩ := rdI_own q1
            obtain ⟨x2, c2, e2, -⟩ := rdI_own q2
            rw [e1] at q1 q3
            rw [e2] at q2 q3
            exact opBuild2 e1 e2 ⟨_, rfl, Below.refl _ _, ⟨x1, c1, x2, c2, rfl, q1, q2, q3⟩, fun j hj _ t ht => du_no rfl⟩
        · intro o ho a X hX hA dn hbn hdn
          obtain rfl := Option.some.inj ho
          obtain ⟨x1, c1, x2, c2, e2, q1, q2, q3⟩ := hbn.yields 6 (hdn 6 (by omega)) 38 rfl
          have e1 : a.eval (.tmp 8) = .pointer (some ⟨w.heap.size + 2, 0, none⟩) := alike_at hA (t := 8) (by kernel_rfl)
          have hf : Two X (w.heap.size + 2) (.slice none 0 0) (.slice none 0 0) := HRES.out.later hX (HGR.out)
          refine opStoreT e1 e2 hf ?_
          obtain ⟨us, hus, rfl⟩ := alike_tmps hA [32, 33, 34, 35, 36, 37, 38] (by kernel_rfl)
          obtain ⟨k0, k1⟩ := setTwo_cell (.slice x1 (T.counts).length c1) (.slice x2 (T.colors).length c2) hf
          have HT : Hid (TM (setTwo X (w.heap.size + 2) (.slice x1 (T.counts).length c1) (.slice x2 (T.colors).length c2)) w.heap.size ⟨x1, (T.counts).length, c1, x2, (T.colors).length, c2⟩ ⟨T.counts, T.colors⟩) := by
            have ne : ∀ {v : Value} {zs : List Int}, ownI X Wb.heap.size v zs → ownI (setTwo X (w.heap.size + 2) (.slice x1 (T.counts).length c1) (.slice x2 (T.colors).length c2)) w.heap.size v zs := fun hr => ownI_mono (ownI_same hr (fun i hi => setTwo_other _ _ _ _ i (by have := (ownI_lt hr i hi).1; have := HGR.out; omega))) (Nat.le_trans HBW.out.size (Nat.le_refl _))
            exact ⟨ne q1, ne q2, q3⟩
          have HB : Hid (Below w.heap.size w (setTwo X (w.heap.size + 2) (.slice x1 (T.counts).length c1) (.slice x2 (T.colors).length c2))) := by
            unfold setTwo
            exact ((HBW.out.trans (hX.mono HBW.out.size)).setCell (by simp) _).setCell (by simp) _
          clear hbn hdn hA hus e1 e2 hf q1 q2 q3 ho
          generalize setTwo X (w.heap.size + 2) (.slice x1 (T.counts).length c1) (.slice x2 (T.colors).length c2) = Y at *
          simp only [List.mapIdx_cons, List.mapIdx_nil, Nat.reduceAdd, List.contains_cons, List.contains_nil, Nat.reduceBEq, Bool.or_false, Bool.or_true, if_true, if_false, Bool.false_eq_true]
          go_wp2
          exact bodyPost_ret (v := .agg #[.slice x1 (T.counts).length c1, .slice x2 (T.colors).length c2]) (by simp [results, Try.results70, go_sem, *]) rfl ⟨⟨x1, (T.counts).length, c1, x2, (T.colors).length, c2⟩, rfl, HT.out, HB.out⟩
    · have n1 : ¬ (lx : Int) = 8 := by omega
      obtain ⟨Wb, hWb⟩ : ∃ Wb, Wb = W := ⟨_, rfl⟩
      rw [← hWb] at BW FP FR HG1 HGR hW
      have BWb := BW
      have FPb := FP
      have FRb := FR
      clear HRH hno FH hWs
      go_enter Try.func70, Try.ntmps70
      go_wp2
      rw [← hW]
      clear hW hWb BW FP FR
      have HBW : Hid (Below w.heap.size w Wb) := BWb
      have HFP : Hid (∀ X, Below Wb.heap.size Wb X → Two X (w.heap.size + 1) (.slice xa lx xc) (.slice ya ly yc)) := fun X hX => FPb.later hX HG1.out
      have HRES : Hid (Two Wb (w.heap.size + 2) (.slice none 0 0) (.slice none 0 0)) := FRb
      have HCXb : Hid (∀ X, Below Wb.heap.size Wb X → _) := fun X hX => HCX.out X (HBW.out.trans (hX.mono HBW.out.size))
      have HCYb : Hid (∀ X, Below Wb.heap.size Wb X → _) := fun X hX => HCY.out X (HBW.out.trans (hX.mono HBW.out.size))
      clear BWb FPb FRb
      refine wp_region_pair 7 (by kernel_rfl) (by kernel_rfl) (RU Wb.heap.size (.pointer (some ⟨w.heap.size + 1, 0, none⟩)) (.slice xa lx xc) (.pointer (some ⟨w.heap.size + 1, 1, none⟩)) (.slice ya ly yc) T.counts T.colors) DU ru_mono ?_ ?_
      · intro i o hi ho a X hX hA dn hbn hdep
        have hXs := hX.size
        match i, hi, ho with
        | 0, _, ho =>
          obtain rfl := Option.some.inj ho
          exact opFieldT 0 (by omega) (alike_at hA (t := 5) (by kernel_rfl)) ⟨_, rfl, Below.refl _ _, rfl, fun j hj _ t ht => du_no rfl⟩
        | 1, _, ho =>
          obtain rfl := Option.some.inj ho
          have e1 : a.eval (.tmp 32) = (.pointer (some ⟨w.heap.size + 1, 0, none⟩)) := hbn.yields 0 (hdep ⟨0, .data⟩ (by simp) rfl) 32 rfl
          exact opLoadI e1 ((HFP.out X hX).cell 0) ⟨_, rfl, Below.refl _ _, rfl, fun j hj _ t ht => du_no rfl⟩
        | 2, _, ho =>
          obtain rfl := Option.some.inj ho
          have e1 : a.eval (.tmp 33) = (.slice xa lx xc) := hbn.yields 1 (hdep ⟨1, .data⟩ (by simp) rfl) 33 rfl
          refine opCloneI e1 (HCXb.out X hX) ?_
          rintro e w' ⟨x, rfl, hx, hb⟩
          exact ⟨x, rfl, ⟨_, rfl, hb, ownI_mono hx hXs, fun j hj _ t ht => du_new (hbn.yields j hj t ht) hx⟩⟩
        | 3, _, ho =>
          obtain rfl := Option.some.inj ho
          exact opFieldT 1 (by omega) (alike_at hA (t := 5) (by kernel_rfl)) ⟨_, rfl, Below.refl _ _, rfl, fun j hj _ t ht => du_no rfl⟩
        | 4, _, ho =>
          obtain rfl := Option.some.inj ho
          have e1 : a.eval (.tmp 35) = (.pointer (some ⟨w.heap.size + 1, 1, none⟩)) := hbn.yields 3 (hdep ⟨3, .data⟩ (by simp) rfl) 35 rfl
          exact opLoadI e1 ((HFP.out X hX).cell 1) ⟨_, rfl, Below.refl _ _, rfl, fun j hj _ t ht => du_no rfl⟩
        | 5, _, ho =>
          obtain rfl := Option.some.inj ho
          have e1 : a.eval (.tmp 36) = (.slice ya ly yc) := hbn.yields 4 (hdep ⟨4, .data⟩ (by simp) rfl) 36 rfl
          refine opCloneI e1 (HCYb.out X hX) ?_
          rintro e w' ⟨x, rfl, hx, hb⟩
          exact ⟨x, rfl, ⟨_, rfl, hb, ownI_mono hx hXs, fun j hj _ t ht => du_new (hbn.yields j hj t ht) hx⟩⟩
        | 6, _, ho =>
          obtain rfl := Option.some.inj ho
          have d2 := hdep ⟨2, .data⟩ (by simp) rfl
          have d5 := hdep ⟨5, .data⟩ (by simp) rfl
          have q1 : ownI X Wb.heap.size (a.eval (.tmp 34)) T.counts := hbn.yields 2 d2 34 rfl
          have q2 : ownI X Wb.heap.size (a.eval (.tmp 37)) T.colors := hbn.yields 5 d5 37 rfl
          have q3 : Dif2 (a.eval (.tmp 34)) (a.eval (.tmp 37)) := hbn.pairs 2 5 d2 d5 (by decide) 34 37 rfl rfl (by decide) (by decide) (by decide)
          obtain ⟨x1, c1, e1, -⟩ := rdI_own q1
          obtain ⟨x2, c2, e2, -⟩ := rdI_own q2
          rw [e1] at q1 q3
          rw [e2] at q2 q3
          exact opBuild2 e1 e2 ⟨_, rfl, Below.refl _ _, ⟨x1, c1, x2, c2, rfl, q1, q2, q3⟩, fun j hj _ t ht => du_no rfl⟩
      · intro o ho a X hX hA dn hbn hdn
        obtain rfl := Option.some.inj ho
        obtain ⟨x1, c1, x2, c2, e2, q1, q2, q3⟩ := hbn.yields 6 (hdn 6 (by omega)) 38 rfl
        have e1 : a.eval (.tmp 8) = .pointer (some ⟨w.heap.size + 2, 0, none⟩) := alike_at hA (t := 8) (by kernel_rfl)
        have hf : Two X (w.heap.size + 2) (.slice none 0 0) (.slice none 0 0) := HRES.out.later hX (HGR.out)
        refine opStoreT e1 e2 hf ?_
        obtain ⟨us, hus, rfl⟩ := alike_tmps hA [32, 33, 34, 35, 36, 37, 38] (by kernel_rfl)
        obtain ⟨k0, k1⟩ := setTwo_cell (.slice x1 (T.counts).length c1) (.slice x2 (T.colors).length c2) hf
        have HT : Hid (TM (setTwo X (w.heap.size + 2) (.slice x1 (T.counts).length c1) (.slice x2 (T.colors).length c2)) w.heap.size ⟨x1, (T.counts).length, c1, x2, (T.colors).length, c2⟩ ⟨T.counts, T.colors⟩) := by
          have ne : ∀ {v : Value} {zs : List Int}, ownI X Wb.heap.size v zs → ownI (setTwo X (w.heap.size + 2) (.slice x1 (T.counts).length c1) (.slice x2 (T.colors).length c2)) w.heap.size v zs := fun hr => ownI_mono (ownI_same hr (fun i hi => setTwo_other _ _ _ _ i (by have := (ownI_lt hr i hi).1; have := HGR.out; omega))) (Nat.le_trans HBW.out.size (Nat.le_refl _))
          exact ⟨ne q1, ne q2, q3⟩
        have HB : Hid (Below w.heap.size w (setTwo X (w.heap.size + 2) (.slice x1 (T.counts).length c1) (.slice x2 (T.colors).length c2))) := by
          unfold setTwo
          exact ((HBW.out.trans (hX.mono HBW.out.size)).setCell (by simp) _).setCell (by simp) _
        clear hbn hdn hA hus e1 e2 hf q1 q2 q3 ho
        generalize setTwo X (w.heap.size + 2) (.slice x1 (T.counts).length c1) (.slice x2 (T.colors).length c2) = Y at *
        simp only [List.mapIdx_cons, List.mapIdx_nil, Nat.reduceAdd, List.contains_cons, List.contains_nil, Nat.reduceBEq, Bool.or_false, Bool.or_true, if_true, if_false, Bool.false_eq_true]
        go_wp2
        exact bodyPost_ret (v := .agg #[.slice x1 (T.counts).length c1, .slice x2 (T.colors).length c2]) (by simp [results, Try.results70, go_sem, *]) rfl ⟨⟨x1, (T.counts).length, c1, x2, (T.colors).length, c2⟩, rfl, HT.out, HB.out⟩
  · have n0 : ¬ (lo : Int) = 8 := by omega
    obtain ⟨Wb, hWb⟩ : ∃ Wb, Wb = W := ⟨_, rfl⟩
    rw [← hWb] at BW FP FR HG1 HGR hW
    have BWb := BW
    have FPb := FP
    have FRb := FR
    clear HRH hno FH hWs
    go_enter Try.func70, Try.ntmps70
    go_wp2
    rw [← hW]
    clear hW hWb BW FP FR
    have HBW : Hid (Below w.heap.size w Wb) := BWb
    have HFP : Hid (∀ X, Below Wb.heap.size Wb X → Two X (w.heap.size + 1) (.slice xa lx xc) (.slice ya ly yc)) := fun X hX => FPb.later hX HG1.out
    have HRES : Hid (Two Wb (w.heap.size + 2) (.slice none 0 0) (.slice none 0 0)) := FRb
    have HCXb : Hid (∀ X, Below Wb.heap.size Wb X → _) := fun X hX => HCX.out X (HBW.out.trans (hX.mono HBW.out.size))
    have HCYb : Hid (∀ X, Below Wb.heap.size Wb X → _) := fun X hX => HCY.out X (HBW.out.trans (hX.mono HBW.out.size))
    clear BWb FPb FRb
    refine wp_region_pair 7 (by kernel_rfl) (by kernel_rfl) (RU Wb.heap.size (.pointer (some ⟨w.heap.size + 1, 0, none⟩)) (.slice xa lx xc) (.pointer (some ⟨w.heap.size + 1, 1, none⟩)) (.slice ya ly yc) T.counts T.colors) DU ru_mono ?_ ?_
    · intro i o hi ho a X hX hA dn hbn hdep
      have hXs := hX.size
      match i, hi, ho with
      | 0, _, ho =>
        obtain rfl := Option.some.inj ho
        exact opFieldT 0 (by omega) (alike_at hA (t := 5) (by kernel_rfl)) ⟨_, rfl, Below.refl _ _, rfl, fun j hj _ t ht => du_no rfl⟩
      | 1, _, ho =>
        obtain rfl := Option.some.inj ho
        have e1 : a.eval (.tmp 32) = (.pointer (some ⟨w.heap.size + 1, 0, none⟩)) := hbn.yields 0 (hdep ⟨0, .data⟩ (by simp) rfl) 32 rfl
        exact opLoadI e1 ((HFP.out X hX).cell 0) ⟨_, rfl, Below.refl _ _, rfl, fun j hj _ t ht => du_no rfl⟩
      | 2, _, ho =>
        obtain rfl := Option.some.inj ho
        have e1 : a.eval (.tmp 33) = (.slice xa lx xc) := hbn.yields 1 (hdep ⟨1, .data⟩ (by simp) rfl) 33 rfl
        refine opCloneI e1 (HCXb.out X hX) ?_
        rintro e w' ⟨x, rfl, hx, hb⟩
        exact ⟨x, rfl, ⟨_, rfl, hb, ownI_mono hx hXs, fun j hj _ t ht => du_new (hbn.yields j hj t ht) hx⟩⟩
      | 3, _, ho =>
        obtain rfl := Option.some.inj ho
        exact opFieldT 1 (by omega) (alike_at hA (t := 5) (by kernel_rfl)) ⟨_, rfl, Below.refl _ _, rfl, fun j hj _ t ht => du_no rfl⟩
      | 4, _, ho =>
        obtain rfl := Option.some.inj ho
        have e1 : a.eval (.tmp 35) = (.pointer (some ⟨w.heap.size + 1, 1, none⟩)) := hbn.yields 3 (hdep ⟨3, .data⟩ (by simp) rfl) 35 rfl
        exact opLoadI e1 ((HFP.out X hX).cell 1) ⟨_, rfl, Below.refl _ _, rfl, fun j hj _ t ht => du_no rfl⟩
      | 5, _, ho =>
        obtain rfl := Option.some.inj ho
        have e1 : a.eval (.tmp 36) = (.slice ya ly yc) := hbn.yields 4 (hdep ⟨4, .data⟩ (by simp) rfl) 36 rfl
        refine opCloneI e1 (HCYb.out X hX) ?_
        rintro e w' ⟨x, rfl, hx, hb⟩
        exact ⟨x, rfl, ⟨_, rfl, hb, ownI_mono hx hXs, fun j hj _ t ht => du_new (hbn.yields j hj t ht) hx⟩⟩
      | 6, _, ho =>
        obtain rfl := Option.some.inj ho
        have d2 := hdep ⟨2, .data⟩ (by simp) rfl
        have d5 := hdep ⟨5, .data⟩ (by simp) rfl
        have q1 : ownI X Wb.heap.size (a.eval (.tmp 34)) T.counts := hbn.yields 2 d2 34 rfl
        have q2 : ownI X Wb.heap.size (a.eval (.tmp 37)) T.colors := hbn.yields 5 d5 37 rfl
        have q3 : Dif2 (a.eval (.tmp 34)) (a.eval (.tmp 37)) := hbn.pairs 2 5 d2 d5 (by decide) 34 37 rfl rfl (by decide) (by decide) (by decide)
        obtain ⟨x1, c1, e1, -⟩ := rdI_own q1
        obtain ⟨x2, c2, e2, -⟩ := rdI_own q2
        rw [e1] at q1 q3
        rw [e2] at q2 q3
        exact opBuild2 e1 e2 ⟨_, rfl, Below.refl _ _, ⟨x1, c1, x2, c2, rfl, q1, q2, q3⟩, fun j hj _ t ht => du_no rfl⟩
    · intro o ho a X hX hA dn hbn hdn
      obtain rfl := Option.some.inj ho
      obtain ⟨x1, c1, x2, c2, e2, q1, q2, q3⟩ := hbn.yields 6 (hdn 6 (by omega)) 38 rfl
      have e1 : a.eval (.tmp 8) = .pointer (some ⟨w.heap.size + 2, 0, none⟩) := alike_at hA (t := 8) (by kernel_rfl)
      have hf : Two X (w.heap.size + 2) (.slice none 0 0) (.slice none 0 0) := HRES.out.later hX (HGR.out)
      refine opStoreT e1 e2 hf ?_
      obtain ⟨us, hus, rfl⟩ := alike_tmps hA [32, 33, 34, 35, 36, 37, 38] (by kernel_rfl)
      obtain ⟨k0, k1⟩ := setTwo_cell (.slice x1 (T.counts).length c1) (.slice x2 (T.colors).length c2) hf
      have HT : Hid (TM (setTwo X (w.heap.size + 2) (.slice x1 (T.counts).length c1) (.slice x2 (T.colors).length c2)) w.heap.size ⟨x1, (T.counts).length, c1, x2, (T.colors).length, c2⟩ ⟨T.counts, T.colors⟩) := by
        have ne : ∀ {v : Value} {zs : List Int}, ownI X Wb.heap.size v zs → ownI (setTwo X (w.heap.size + 2) (.slice x1 (T.counts).length c1) (.slice x2 (T.colors).length c2)) w.heap.size v zs := fun hr => ownI_mono (ownI_same hr (fun i hi => setTwo_other _ _ _ _ i (by have := (ownI_lt hr i hi).1; have := HGR.out; omega))) (Nat.le_trans HBW.out.size (Nat.le_refl _))
        exact ⟨ne q1, ne q2, q3⟩
      have HB : Hid (Below w.heap.size w (setTwo X (w.heap.size + 2) (.slice x1 (T.counts).length c1) (.slice x2 (T.colors).length c2))) := by
        unfold setTwo
        exact ((HBW.out.trans (hX.mono HBW.out.size)).setCell (by simp) _).setCell (by simp) _
      clear hbn hdn hA hus e1 e2 hf q1 q2 q3 ho
      generalize setTwo X (w.heap.size + 2) (.slice x1 (T.counts).length c1) (.slice x2 (T.colors).length c2) = Y at *
      simp only [List.mapIdx_cons, List.mapIdx_nil, Nat.reduceAdd, List.contains_cons, List.contains_nil, Nat.reduceBEq, Bool.or_false, Bool.or_true, if_true, if_false, Bool.false_eq_true]
      go_wp2
      exact bodyPost_ret (v := .agg #[.slice x1 (T.counts).length c1, .slice x2 (T.colors).length c2]) (by simp [results, Try.results70, go_sem, *]) rfl ⟨⟨x1, (T.counts).length, c1, x2, (T.colors).length, c2⟩, rfl, HT.out, HB.out⟩

/-- What each operation of the try yields. -/
def RY (B : Nat) (fv p1 s1 q1 g1 p2 s2 q2 g2 u v z r : Value) : Nat → World → Value → Prop
  | 0, _, x => x = fv
  | 1, _, x => x = p1
  | 2, _, x => x = s1
  | 3, _, x => x = q1
  | 4, _, x => x = g1
  | 5, _, x => x = p2
  | 6, _, x => x = s2
  | 7, _, x => x = q2
  | 8, _, x => x = g2
  | 9, _, x => x = u
  | 10, _, x => x = v
  | 11, _, x => x = z
  | 12, _, x => x = r
  | 13, X, x => ∃ g, x = .pointer (some ⟨g, 0, none⟩) ∧ B ≤ g ∧ Arr X g (trD 0 0 0 0 0 0 0 0 0 0 0 0 0 0 0 0)
  | _, _, _ => True
theorem ry_mono {B : Nat} {fv p1 s1 q1 g1 p2 s2 q2 g2 u v z r : Value} (i : Nat) (X Y : World) (x : Value) (h : RY B fv p1 s1 q1 g1 p2 s2 q2 g2 u v z r i X x) (hb : Below X.heap.size X Y) : RY B fv p1 s1 q1 g1 p2 s2 q2 g2 u v z r i Y x := by
  match i, h with
  | 0, h => exact h
  | 1, h => exact h
  | 2, h => exact h
  | 3, h => exact h
  | 4, h => exact h
  | 5, h => exact h
  | 6, h => exact h
  | 7, h => exact h
  | 8, h => exact h
  | 9, h => exact h
  | 10, h => exact h
  | 11, h => exact h
  | 12, h => exact h
  | 13, ⟨g, h1, h2, h3⟩ => exact ⟨g, h1, h2, h3.later hb⟩
  | n + 14, _ => exact trivial

set_option maxHeartbeats 16000000 in
theorem iTried_yes (v u : Value) (F : Nat) (hop : TryOp F) (H : HeapD) (T R : TrialD) (s : Nat) (w : World) (h : RdH w v H) (ht : RdT w u T) (hs : SmallH H) (hst : SmallT T) (hok : OkT H T (s : Int)) (hR : Eight R)
    (hC : ∀ X, Below w.heap.size w X → Calls Try.prog F #[arrV T, v, .int .i64 (s : Int)] X fun e w' => e = .returned (arrV R) ∧ Below X.heap.size X w') :
    Calls Try.prog 70 #[v, u, .int .i64 (s : Int), .func (.func F) #[] #[]] w fun e w' => ∃ s : TSh, e = .returned s.v ∧ TM w' w.heap.size s R ∧ Below w.heap.size w w' := by
  have HRH : Hid (∀ X, Below w.heap.size w X → RdH X v H) := fun X hX => rdH_later h hX
  have hl8 : s < H.objs.length := by have := hok.objs; have := hok.hi; omega
  have hlv : H.objs[s].live = true := by
    obtain ⟨o, ho, h2⟩ := hok.live
    rw [show ((s : Int)).toNat = s from by omega, List.getElem?_eq_getElem hl8] at ho
    injection ho with ho
    rw [ho]; exact h2
  obtain ⟨lg, loff, lf, lcap, -, -, -, CL0⟩ := liveIn_yes v H s w h (by have := hs.objs; omega) (by have := hok.hi; omega) hl8 hlv
  have CL : Hid _ := CL0.out
  have HCC : Hid (∀ X, Below w.heap.size w X → _) := hC
  have E8 : Eight T := ⟨hok.counts, hok.colors⟩
  have HR8 : Hid (Eight R) := hR
  have k0 := hok.objs
  have k1 := hok.counts
  have k2 := hok.colors
  obtain ⟨r0, r1, r2, r3, r4, r5, r6, r7, r8, r9, r10, r11, r12, r13, r14, r15, eR⟩ := eight_trD hR
  have HER : Hid (R = trD r0 r1 r2 r3 r4 r5 r6 r7 r8 r9 r10 r11 r12 r13 r14 r15) := eR
  clear hok hC CL0 eR hR
  obtain ⟨ao, co, aw, cw, ab, cb, sa, sc, rfl, -, -, -, -⟩ := h
  obtain ⟨xa, xc, ya, yc, rfl, r1, r2⟩ := ht
  have l0 := hs.objs
  have l1 := hst.counts
  have l2 := hst.colors
  have HRX : Hid (∀ X, Below w.heap.size w X → RdI X xa T.counts) := fun X hX => rdI_later r1 hX
  have HRY : Hid (∀ X, Below w.heap.size w X → RdI X ya T.colors) := fun X hX => rdI_later r2 hX
  generalize H.weaks.length = nw at *
  generalize H.buffer.length = nb at *
  generalize H.sites.length = ns at *
  have HCX : Hid (∀ X, Below w.heap.size w X → _) := fun X hX => clone_calls X xa xc T.counts (rdI_later r1 hX) (by omega)
  have HCY : Hid (∀ X, Below w.heap.size w X → _) := fun X hX => clone_calls X ya yc T.colors (rdI_later r2 hX) (by omega)
  obtain ⟨lo, hlo⟩ : ∃ lo, H.objs.length = lo := ⟨_, rfl⟩
  obtain ⟨lx, hlx⟩ : ∃ lx, T.counts.length = lx := ⟨_, rfl⟩
  obtain ⟨ly, hly⟩ : ∃ ly, T.colors.length = ly := ⟨_, rfl⟩
  have HLO : Hid (H.objs.length = lo) := hlo
  have HLX : Hid (T.counts.length = lx) := hlx
  have HLY : Hid (T.colors.length = ly) := hly
  rw [hlx] at HCX
  rw [hly] at HCY
  rw [hlo, hlx, hly]
  rw [hlo] at l0 HRH
  rw [hlx] at l1
  rw [hly] at l2
  clear hlo hlx hly
  obtain ⟨W, hW⟩ : ∃ W, W = ((w.alloc (.cells #[.slice ao lo co, .slice aw nw cw, .slice ab nb cb, .slice sa ns sc] 33)).alloc (.cells #[.slice xa lx xc, .slice ya ly yc] 105)).alloc (.cells #[.slice none 0 0, .slice none 0 0] 105) := ⟨_, rfl⟩
  have BW : Below w.heap.size w W := by rw [hW]; exact (((Below.refl _ _).alloc (Nat.le_refl _) _).alloc (by simp) _).alloc (by simp; omega) _
  have hWs : W.heap.size = w.heap.size + 3 := by rw [hW]; simp
  have FH : Four W w.heap.size (.slice ao lo co) (.slice aw nw cw) (.slice ab nb cb) (.slice sa ns sc) := by
    have f := Four.new w (.slice ao lo co) (.slice aw nw cw) (.slice ab nb cb) (.slice sa ns sc)
    have f2 := f.later ((Below.refl _ _).alloc (Nat.le_refl _) (.cells #[.slice xa lx xc, .slice ya ly yc] 105))
    have f3 := f2.later ((Below.refl _ _).alloc (Nat.le_refl _) (.cells #[.slice none 0 0, .slice none 0 0] 105))
    rw [hW]; exact f3
  have FP : Two W (w.heap.size + 1) (.slice xa lx xc) (.slice ya ly yc) := by
    have f := Two.new (w.alloc (.cells #[.slice ao lo co, .slice aw nw cw, .slice ab nb cb, .slice sa ns sc] 33)) (.slice xa lx xc) (.slice ya ly yc)
    have f2 := f.later ((Below.refl _ _).alloc (Nat.le_refl _) (.cells #[.slice none 0 0, .slice none 0 0] 105)) (by simp)
    rw [← hW] at f2
    simpa using f2
  have FR : Two W (w.heap.size + 2) (.slice none 0 0) (.slice none 0 0) := by
    have f := Two.new ((w.alloc (.cells #[.slice ao lo co, .slice aw nw cw, .slice ab nb cb, .slice sa ns sc] 33)).alloc (.cells #[.slice xa lx xc, .slice ya ly yc] 105)) (.slice none 0 0) (.slice none 0 0)
    rw [← hW] at f
    simpa using f
  obtain rfl : lo = 8 := by have := HLO.out; omega
  rw [HLO.out] at CL HCC
  obtain rfl : lx = 8 := by have := HLX.out; omega
  obtain rfl : ly = 8 := by have := HLY.out; omega
  obtain ⟨a0, a1, a2, a3, a4, a5, a6, a7, b0, b1, b2, b3, b4, b5, b6, b7, eT⟩ := eight_trD E8
  subst eT
  have HRX0 := HRX.out
  have HRY0 := HRY.out
  obtain ⟨xg, xo, rfl, -, -⟩ := HRX.out w (Below.refl _ _) 0 (by show 0 < 8; omega)
  obtain ⟨yg, yo, rfl, -, -⟩ := HRY.out w (Below.refl _ _) 0 (by show 0 < 8; omega)
  have HG1 : Hid (w.heap.size + 1 < W.heap.size) := by show _ < _; omega
  have HGR0 : Hid (w.heap.size + 2 < W.heap.size) := by show _ < _; omega
  have HGH : Hid (w.heap.size < W.heap.size) := by show _ < _; omega
  clear HCX HCY HRX0 HRY0 r1 r2
  go_enter Try.func70, Try.ntmps70
  go_wp2_with fail
  rw [← hW]
  refine (CL.out _ BW).mono ?_
  rintro e Wa ⟨rfl, bb⟩
  have BWa := BW.trans (bb.mono BW.size)
  have HFH : Hid (∀ X, Below Wa.heap.size Wa X → Four X w.heap.size (.slice ao 8 co) (.slice aw nw cw) (.slice ab nb cb) (.slice sa ns sc)) := fun X hX => (FH.later bb).later hX
  have HFT : Hid (Two Wa (w.heap.size + 1) (.slice (some ⟨xg, xo, none⟩) 8 xc) (.slice (some ⟨yg, yo, none⟩) 8 yc)) := FP.later bb HG1.out
  have HFR : Hid (Two Wa (w.heap.size + 2) (.slice none 0 0) (.slice none 0 0)) := FR.later bb HGR0.out
  have hbs := bb.size
  have HG1a : Hid (w.heap.size + 1 < Wa.heap.size) := Nat.lt_of_lt_of_le HG1.out hbs
  have HGRa : Hid (w.heap.size + 2 < Wa.heap.size) := Nat.lt_of_lt_of_le HGR0.out hbs
  have HBWa : Hid (Below w.heap.size w Wa) := BWa
  clear hW BW FH FP FR BWa bb HG1 HGR0 HGH hbs CL
  go_wp2
  refine wp_region_last 14 (by kernel_rfl) (by kernel_rfl) (RY Wa.heap.size (.func (.func F) #[] #[]) (.pointer (some ⟨w.heap.size + 1, 0, none⟩)) (.slice (some ⟨xg, xo, none⟩) 8 xc) (.pointer (some ⟨xg, xo, none⟩)) (.agg #[.int .i64 a0, .int .i64 a1, .int .i64 a2, .int .i64 a3, .int .i64 a4, .int .i64 a5, .int .i64 a6, .int .i64 a7]) (.pointer (some ⟨w.heap.size + 1, 1, none⟩)) (.slice (some ⟨yg, yo, none⟩) 8 yc) (.pointer (some ⟨yg, yo, none⟩)) (.agg #[.int .i64 b0, .int .i64 b1, .int .i64 b2, .int .i64 b3, .int .i64 b4, .int .i64 b5, .int .i64 b6, .int .i64 b7]) (arrV (trD a0 a1 a2 a3 a4 a5 a6 a7 b0 b1 b2 b3 b4 b5 b6 b7)) (.agg #[.slice ao 8 co, .slice aw nw cw, .slice ab nb cb, .slice sa ns sc]) (.int .i64 (s : Int)) (arrV R)) ry_mono ?_ ?_
  · intro i o hi ho a X hX hA hdep
    have FX := HFT.out.later hX HG1a.out
    have hXs := hX.size
    have hXw := HBWa.out.trans (hX.mono HBWa.out.size)
    match i, hi, ho with
    | 0, _, ho =>
      obtain rfl := Option.some.inj ho
      exact opMoveV (alike_at hA (t := 3) (by kernel_rfl)) ⟨_, rfl, Below.refl _ _, rfl⟩
    | 1, _, ho =>
      obtain rfl := Option.some.inj ho
      exact opFieldT 0 (by omega) (alike_at hA (t := 5) (by kernel_rfl)) ⟨_, rfl, Below.refl _ _, rfl⟩
    | 2, _, ho =>
      obtain rfl := Option.some.inj ho
      have e1 : a.eval (.tmp 40) = .pointer (some ⟨w.heap.size + 1, 0, none⟩) := hdep ⟨1, .data⟩ (by simp) rfl 40 rfl
      exact opLoadI e1 (FX.cell 0) ⟨_, rfl, Below.refl _ _, rfl⟩
    | 3, _, ho =>
      obtain rfl := Option.some.inj ho
      have e1 : a.eval (.tmp 41) = .slice (some ⟨xg, xo, none⟩) 8 xc := hdep ⟨2, .data⟩ (by simp) rfl 41 rfl
      exact opToArr e1 ⟨_, rfl, Below.refl _ _, rfl⟩
    | 4, _, ho =>
      obtain rfl := Option.some.inj ho
      have e1 : a.eval (.tmp 42) = .pointer (some ⟨xg, xo, none⟩) := hdep ⟨3, .data⟩ (by simp) rfl 42 rfl
      exact opLoadArr e1 (HRX.out X hXw) ⟨_, rfl, Below.refl _ _, rfl⟩
    | 5, _, ho =>
      obtain rfl := Option.some.inj ho
      exact opFieldT 1 (by omega) (alike_at hA (t := 5) (by kernel_rfl)) ⟨_, rfl, Below.refl _ _, rfl⟩
    | 6, _, ho =>
      obtain rfl := Option.some.inj ho
      have e1 : a.eval (.tmp 44) = .pointer (some ⟨w.heap.size + 1, 1, none⟩) := hdep ⟨5, .data⟩ (by simp) rfl 44 rfl
      exact opLoadI e1 (FX.cell 1) ⟨_, rfl, Below.refl _ _, rfl⟩
    | 7, _, ho =>
      obtain rfl := Option.some.inj ho
      have e1 : a.eval (.tmp 45) = .slice (some ⟨yg, yo, none⟩) 8 yc := hdep ⟨6, .data⟩ (by simp) rfl 45 rfl
      exact opToArr e1 ⟨_, rfl, Below.refl _ _, rfl⟩
    | 8, _, ho =>
      obtain rfl := Option.some.inj ho
      have e1 : a.eval (.tmp 46) = .pointer (some ⟨yg, yo, none⟩) := hdep ⟨7, .data⟩ (by simp) rfl 46 rfl
      exact opLoadArr e1 (HRY.out X hXw) ⟨_, rfl, Below.refl _ _, rfl⟩
    | 9, _, ho =>
      obtain rfl := Option.some.inj ho
      have e1 : a.eval (.tmp 43) = .agg #[.int .i64 a0, .int .i64 a1, .int .i64 a2, .int .i64 a3, .int .i64 a4, .int .i64 a5, .int .i64 a6, .int .i64 a7] := hdep ⟨4, .data⟩ (by simp) rfl 43 rfl
      have e2 : a.eval (.tmp 47) = .agg #[.int .i64 b0, .int .i64 b1, .int .i64 b2, .int .i64 b3, .int .i64 b4, .int .i64 b5, .int .i64 b6, .int .i64 b7] := hdep ⟨8, .data⟩ (by simp) rfl 47 rfl
      exact opBuildTr e1 e2 ⟨_, rfl, Below.refl _ _, rfl⟩
    | 10, _, ho =>
      obtain rfl := Option.some.inj ho
      exact opLoadHp (alike_at hA (t := 4) (by kernel_rfl)) (HFH.out X hX) ⟨_, rfl, Below.refl _ _, rfl⟩
    | 11, _, ho =>
      obtain rfl := Option.some.inj ho
      exact opMoveV (alike_at hA (t := 2) (by kernel_rfl)) ⟨_, rfl, Below.refl _ _, rfl⟩
    | 12, _, ho =>
      obtain rfl := Option.some.inj ho
      have e0 : a.eval (.tmp 39) = .func (.func F) #[] #[] := hdep ⟨0, .data⟩ (by simp) rfl 39 rfl
      have e1 : a.eval (.tmp 48) = arrV (trD a0 a1 a2 a3 a4 a5 a6 a7 b0 b1 b2 b3 b4 b5 b6 b7) := hdep ⟨9, .data⟩ (by simp) rfl 48 rfl
      have e2 : a.eval (.tmp 49) = .agg #[.slice ao 8 co, .slice aw nw cw, .slice ab nb cb, .slice sa ns sc] := hdep ⟨10, .data⟩ (by simp) rfl 49 rfl
      have e3 : a.eval (.tmp 50) = .int .i64 (s : Int) := hdep ⟨11, .data⟩ (by simp) rfl 50 rfl
      refine hop _ _ _ _ _ _ _ _ _ _ _ _ _ _ _ _ _ e0 e1 e2 e3 (HCC.out X hXw) ?_
      rintro e w' ⟨rfl, hb⟩
      exact ⟨_, rfl, _, rfl, hb, rfl⟩
    | 13, _, ho =>
      obtain rfl := Option.some.inj ho
      exact opAllocTr ⟨_, rfl, (Below.refl _ _).alloc (Nat.le_refl _) _, X.heap.size, rfl, hXs, Arr.new X (trD 0 0 0 0 0 0 0 0 0 0 0 0 0 0 0 0)⟩
  · intro o ho a X hX hA hdep
    obtain rfl := Option.some.inj ho
    have e12 : a.eval (.tmp 51) = arrV R := hdep ⟨12, .data⟩ (by simp) rfl 51 rfl
    obtain ⟨g, e9, hgB, hAr⟩ := hdep ⟨13, .data⟩ (by simp) rfl 9 rfl
    rw [HER.out, trD_v] at e12
    refine opStore16 e9 e12 hAr ⟨rfl, rfl⟩ ?_
    have AY := set16_arr hAr ⟨rfl, rfl⟩ r0 r1 r2 r3 r4 r5 r6 r7 r8 r9 r10 r11 r12 r13 r14 r15
    rw [← HER.out] at AY
    have hXw := HBWa.out.trans (hX.mono HBWa.out.size)
    have hXs := hX.size
    have BY : Below w.heap.size w (set16 X g r0 r1 r2 r3 r4 r5 r6 r7 r8 r9 r10 r11 r12 r13 r14 r15) := set16_below r0 r1 r2 r3 r4 r5 r6 r7 r8 r9 r10 r11 r12 r13 r14 r15 hXw (by have := HBWa.out.size; omega)
    have sY : (set16 X g r0 r1 r2 r3 r4 r5 r6 r7 r8 r9 r10 r11 r12 r13 r14 r15).heap.size = X.heap.size := set16_size _ _ r0 r1 r2 r3 r4 r5 r6 r7 r8 r9 r10 r11 r12 r13 r14 r15
    have hRY : Two (set16 X g r0 r1 r2 r3 r4 r5 r6 r7 r8 r9 r10 r11 r12 r13 r14 r15) (w.heap.size + 2) (.slice none 0 0) (.slice none 0 0) := (HFR.out.later hX HGRa.out).same (set16_other _ _ r0 r1 r2 r3 r4 r5 r6 r7 r8 r9 r10 r11 r12 r13 r14 r15 _ (by have := HGRa.out; omega))
    obtain ⟨us, hus, rfl⟩ := alike_tmps hA [39, 40, 41, 42, 43, 44, 45, 46, 47, 48, 49, 50, 51, 9] (by kernel_rfl)
    have u9 : us 9 = .pointer (some ⟨g, 0, none⟩) := (hus 9).symm.trans e9
    have HGR1 : Hid (w.heap.size + 2 < (set16 X g r0 r1 r2 r3 r4 r5 r6 r7 r8 r9 r10 r11 r12 r13 r14 r15).heap.size) := by show _ < _; rw [sY]; have := HGRa.out; omega
    clear hdep hA hus e9 e12 hAr ho
    generalize set16 X g r0 r1 r2 r3 r4 r5 r6 r7 r8 r9 r10 r11 r12 r13 r14 r15 = Wb at *
    have HBW : Hid (Below w.heap.size w Wb) := BY
    have HRES : Hid (Two Wb (w.heap.size + 2) (.slice none 0 0) (.slice none 0 0)) := hRY
    have HGR : Hid (w.heap.size + 2 < Wb.heap.size) := HGR1
    have HCXb : Hid (∀ X, Below Wb.heap.size Wb X → _) := fun X hX => clone_calls X (some ⟨g, 0, none⟩) 8 R.counts ((AY.later hX).rdx HR8.out) (by have := HR8.out.1; omega)
    have HCYb : Hid (∀ X, Below Wb.heap.size Wb X → _) := fun X hX => clone_calls X (some ⟨g, 8, none⟩) 8 R.colors ((AY.later hX).rdy HR8.out) (by have := HR8.out.2; omega)
    rw [HR8.out.1] at HCXb
    rw [HR8.out.2] at HCYb
    clear BY sY hRY HGR1 hXw hXs hX HFR HGRa HFT HG1a HFH HBWa HRX HRY HCC AY hop HER
    simp only [List.mapIdx_cons, List.mapIdx_nil, Nat.reduceAdd, List.contains_cons, List.contains_nil, Nat.reduceBEq, Bool.or_false, Bool.or_true, if_true, if_false, Bool.false_eq_true]
    rw [u9]
    clear u9
    go_wp2
    refine wp_region_pair 7 (by kernel_rfl) (by kernel_rfl) (RU Wb.heap.size (.pointer (some ⟨g, 0, none⟩)) (.slice (some ⟨g, 0, none⟩) 8 8) (.pointer (some ⟨g, 8, none⟩)) (.slice (some ⟨g, 8, none⟩) 8 8) R.counts R.colors) DU ru_mono ?_ ?_
    · intro i o hi ho a X hX hA dn hbn hdep
      have hXs := hX.size
      match i, hi, ho with
      | 0, _, ho =>
        obtain rfl := Option.some.inj ho
        exact opFieldR0 (alike_at hA (t := 9) (by kernel_rfl)) ⟨_, rfl, Below.refl _ _, rfl, fun j hj _ t ht => du_no rfl⟩
      | 1, _, ho =>
        obtain rfl := Option.some.inj ho
        have e1 : a.eval (.tmp 52) = (.pointer (some ⟨g, 0, none⟩)) := hbn.yields 0 (hdep ⟨0, .data⟩ (by simp) rfl) 52 rfl
        exact opSliceArr e1 ⟨_, rfl, Below.refl _ _, rfl, fun j hj _ t ht => du_no rfl⟩
      | 2, _, ho =>
        obtain rfl := Option.some.inj ho
        have e1 : a.eval (.tmp 53) = (.slice (some ⟨g, 0, none⟩) 8 8) := hbn.yields 1 (hdep ⟨1, .data⟩ (by simp) rfl) 53 rfl
        refine opCloneI e1 (HCXb.out X hX) ?_
        rintro e w' ⟨x, rfl, hx, hb⟩
        exact ⟨x, rfl, ⟨_, rfl, hb, ownI_mono hx hXs, fun j hj _ t ht => du_new (hbn.yields j hj t ht) hx⟩⟩
      | 3, _, ho =>
        obtain rfl := Option.some.inj ho
        exact opFieldR1 (alike_at hA (t := 9) (by kernel_rfl)) ⟨_, rfl, Below.refl _ _, rfl, fun j hj _ t ht => du_no rfl⟩
      | 4, _, ho =>
        obtain rfl := Option.some.inj ho
        have e1 : a.eval (.tmp 55) = (.pointer (some ⟨g, 8, none⟩)) := hbn.yields 3 (hdep ⟨3, .data⟩ (by simp) rfl) 55 rfl
        exact opSliceArr e1 ⟨_, rfl, Below.refl _ _, rfl, fun j hj _ t ht => du_no rfl⟩
      | 5, _, ho =>
        obtain rfl := Option.some.inj ho
        have e1 : a.eval (.tmp 56) = (.slice (some ⟨g, 8, none⟩) 8 8) := hbn.yields 4 (hdep ⟨4, .data⟩ (by simp) rfl) 56 rfl
        refine opCloneI e1 (HCYb.out X hX) ?_
        rintro e w' ⟨x, rfl, hx, hb⟩
        exact ⟨x, rfl, ⟨_, rfl, hb, ownI_mono hx hXs, fun j hj _ t ht => du_new (hbn.yields j hj t ht) hx⟩⟩
      | 6, _, ho =>
        obtain rfl := Option.some.inj ho
        have d2 := hdep ⟨2, .data⟩ (by simp) rfl
        have d5 := hdep ⟨5, .data⟩ (by simp) rfl
        have q1 : ownI X Wb.heap.size (a.eval (.tmp 54)) R.counts := hbn.yields 2 d2 54 rfl
        have q2 : ownI X Wb.heap.size (a.eval (.tmp 57)) R.colors := hbn.yields 5 d5 57 rfl
        have q3 : Dif2 (a.eval (.tmp 54)) (a.eval (.tmp 57)) := hbn.pairs 2 5 d2 d5 (by decide) 54 57 rfl rfl (by decide) (by decide) (by decide)
        obtain ⟨x1, c1, e1, -⟩ := rdI_own q1
        obtain ⟨x2, c2, e2, -⟩ := rdI_own q2
        rw [e1] at q1 q3
        rw [e2] at q2 q3
        exact opBuild2 e1 e2 ⟨_, rfl, Below.refl _ _, ⟨x1, c1, x2, c2, rfl, q1, q2, q3⟩, fun j hj _ t ht => du_no rfl⟩
    · intro o ho a X hX hA dn hbn hdn
      obtain rfl := Option.some.inj ho
      obtain ⟨x1, c1, x2, c2, e2, q1, q2, q3⟩ := hbn.yields 6 (hdn 6 (by omega)) 58 rfl
      have e1 : a.eval (.tmp 8) = .pointer (some ⟨w.heap.size + 2, 0, none⟩) := alike_at hA (t := 8) (by kernel_rfl)
      have hf : Two X (w.heap.size + 2) (.slice none 0 0) (.slice none 0 0) := HRES.out.later hX (HGR.out)
      refine opStoreT e1 e2 hf ?_
      obtain ⟨us, hus, rfl⟩ := alike_tmps hA [52, 53, 54, 55, 56, 57, 58] (by kernel_rfl)
      obtain ⟨k0, k1⟩ := setTwo_cell (.slice x1 (R.counts).length c1) (.slice x2 (R.colors).length c2) hf
      have HT : Hid (TM (setTwo X (w.heap.size + 2) (.slice x1 (R.counts).length c1) (.slice x2 (R.colors).length c2)) w.heap.size ⟨x1, (R.counts).length, c1, x2, (R.colors).length, c2⟩ ⟨R.counts, R.colors⟩) := by
        have ne : ∀ {v : Value} {zs : List Int}, ownI X Wb.heap.size v zs → ownI (setTwo X (w.heap.size + 2) (.slice x1 (R.counts).length c1) (.slice x2 (R.colors).length c2)) w.heap.size v zs := fun hr => ownI_mono (ownI_same hr (fun i hi => setTwo_other _ _ _ _ i (by have := (ownI_lt hr i hi).1; have := HGR.out; omega))) (Nat.le_trans HBW.out.size (Nat.le_refl _))
        exact ⟨ne q1, ne q2, q3⟩
      have HB : Hid (Below w.heap.size w (setTwo X (w.heap.size + 2) (.slice x1 (R.counts).length c1) (.slice x2 (R.colors).length c2))) := by
        unfold setTwo
        exact ((HBW.out.trans (hX.mono HBW.out.size)).setCell (by simp) _).setCell (by simp) _
      clear hbn hdn hA hus e1 e2 hf q1 q2 q3 ho
      generalize setTwo X (w.heap.size + 2) (.slice x1 (R.counts).length c1) (.slice x2 (R.colors).length c2) = Y at *
      simp only [List.mapIdx_cons, List.mapIdx_nil, Nat.reduceAdd, List.contains_cons, List.contains_nil, Nat.reduceBEq, Bool.or_false, Bool.or_true, if_true, if_false, Bool.false_eq_true]
      go_wp2
      exact bodyPost_ret (v := .agg #[.slice x1 (R.counts).length c1, .slice x2 (R.colors).length c2]) (by simp [results, Try.results70, go_sem, *]) rfl ⟨⟨x1, (R.counts).length, c1, x2, (R.colors).length, c2⟩, rfl, HT.out, HB.out⟩

end Go.Proofs.Ytjhdnachbahbmaa

namespace Go.Proofs.Ytjhdnachbahbmaa
open Go.RowKit
set_option linter.unusedVariables false
set_option maxRecDepth 100000

/-- What painted answers. -/
def paintT (d c : Int) (H : HeapD) (T : TrialD) (k : Nat) : TrialD := if col T k = c then T else spreadAll d c H ⟨T.counts, T.colors.set k c⟩ [(k : Int)]
theorem paintT_eight (d c : Int) (H : HeapD) (T : TrialD) (k : Nat) (h8 : Eight T) (hk : k < 8) : Eight (paintT d c H T k) := by
  unfold paintT
  split
  · exact h8
  · exact spreadAll_eight d c H _ _ ⟨h8.1, by simpa using h8.2⟩ (fun z hz => by rw [List.mem_singleton.1 hz]; omega)
theorem painted_top (v : Value) (H : HeapD) (c d : Int) (hs : SmallH H) (h8 : H.objs.length = 8) (hf : ∀ o ∈ H.objs, ∀ z ∈ o.field, in64 z) (T : TrialD) (k : Nat) (w : World) (hT : Eight T) (hk : k < 8) (h : RdH w v H) :
    Calls Try.prog 73 #[arrV T, v, .int .i64 (k : Int), .int .i64 c, .int .i64 d] w fun e w' => e = .returned (arrV (paintT d c H T k)) ∧ Below w.heap.size w w' := by
  unfold paintT
  by_cases hc : col T k = c
  · rw [if_pos hc]
    exact painted_same v H c d T k w hT hk hc h
  · rw [if_neg hc]
    refine (painted_calls v H c d hs h8 hf T (Rch c H T k) (rch_runs c H T k) _ T [] [] k w (Nat.le_refl _) (deep_start _ hT) hk (fun _ R h1 _ => h1) h).mono ?_
    rintro e w' ⟨T', rfl, hp, hb⟩
    rw [painted_all hT hk hc hp]
    exact ⟨rfl, hb⟩

set_option maxHeartbeats 4000000 in
theorem markGray_calls (v : Value) (H : HeapD) (hs : SmallH H) (h8 : H.objs.length = 8) (hf : ∀ o ∈ H.objs, ∀ z ∈ o.field, in64 z) (T : TrialD) (k : Nat) (w : World) (hT : Eight T) (hk : k < 8) (h : RdH w v H) :
    Calls Try.prog 71 #[arrV T, v, .int .i64 (k : Int)] w fun e w' => e = .returned (arrV (paintT (-1) 1 H T k)) ∧ Below w.heap.size w w' := by
  have CP : Hid (∀ X, Below w.heap.size w X → _) := fun X hX => painted_top v H 1 (-1) hs h8 hf T k X hT hk (rdH_later h hX)
  have hR := paintT_eight (-1) 1 H T k hT hk
  generalize paintT (-1) 1 H T k = R at *
  obtain ⟨ao, co, aw, cw, ab, cb, sa, sc, rfl, -, -, -, -⟩ := h
  obtain ⟨a0, a1, a2, a3, a4, a5, a6, a7, b0, b1, b2, b3, b4, b5, b6, b7, rfl⟩ := eight_trD hT
  obtain ⟨r0, r1, r2, r3, r4, r5, r6, r7, r8, r9, r10, r11, r12, r13, r14, r15, rfl⟩ := eight_trD hR
  rw [trD_v, trD_v] at CP
  rw [trD_v, trD_v]
  obtain ⟨W, hW⟩ : ∃ W, W = ((w.alloc (.cells #[.int .i64 a0, .int .i64 a1, .int .i64 a2, .int .i64 a3, .int .i64 a4, .int .i64 a5, .int .i64 a6, .int .i64 a7, .int .i64 b0, .int .i64 b1, .int .i64 b2, .int .i64 b3, .int .i64 b4, .int .i64 b5, .int .i64 b6, .int .i64 b7] 117)).alloc (.cells #[.slice ao H.objs.length co, .slice aw H.weaks.length cw, .slice ab H.buffer.length cb, .slice sa H.sites.length sc] 33)).alloc (.cells #[.int .i64 0, .int .i64 0, .int .i64 0, .int .i64 0, .int .i64 0, .int .i64 0, .int .i64 0, .int .i64 0, .int .i64 0, .int .i64 0, .int .i64 0, .int .i64 0, .int .i64 0, .int .i64 0, .int .i64 0, .int .i64 0] 117) := ⟨_, rfl⟩
  have BW : Below w.heap.size w W := by rw [hW]; exact (((Below.refl _ _).alloc (Nat.le_refl _) _).alloc (by simp) _).alloc (by simp; omega) _
  have sW : W.heap.size = w.heap.size + 3 := by rw [hW]; simp
  have Z0 : Arr W (w.heap.size + 2) (trD 0 0 0 0 0 0 0 0 0 0 0 0 0 0 0 0) := by
    have f := Arr.new ((w.alloc (.cells #[.int .i64 a0, .int .i64 a1, .int .i64 a2, .int .i64 a3, .int .i64 a4, .int .i64 a5, .int .i64 a6, .int .i64 a7, .int .i64 b0, .int .i64 b1, .int .i64 b2, .int .i64 b3, .int .i64 b4, .int .i64 b5, .int .i64 b6, .int .i64 b7] 117)).alloc (.cells #[.slice ao H.objs.length co, .slice aw H.weaks.length cw, .slice ab H.buffer.length cb, .slice sa H.sites.length sc] 33)) (trD 0 0 0 0 0 0 0 0 0 0 0 0 0 0 0 0)
    have f2 : Arr W ((w.alloc (.cells #[.int .i64 a0, .int .i64 a1, .int .i64 a2, .int .i64 a3, .int .i64 a4, .int .i64 a5, .int .i64 a6, .int .i64 a7, .int .i64 b0, .int .i64 b1, .int .i64 b2, .int .i64 b3, .int .i64 b4, .int .i64 b5, .int .i64 b6, .int .i64 b7] 117)).alloc (.cells #[.slice ao H.objs.length co, .slice aw H.weaks.length cw, .slice ab H.buffer.length cb, .slice sa H.sites.length sc] 33)).heap.size (trD 0 0 0 0 0 0 0 0 0 0 0 0 0 0 0 0) := by rw [hW]; exact f
    simpa using f2
  have HZ : Hid (∀ X, Below W.heap.size W X → Arr X (w.heap.size + 2) (trD 0 0 0 0 0 0 0 0 0 0 0 0 0 0 0 0)) := fun X hX => Z0.later hX
  have HZ8 : Hid (Eight (trD 0 0 0 0 0 0 0 0 0 0 0 0 0 0 0 0)) := ⟨rfl, rfl⟩
  have HBW : Hid (∀ X, Below W.heap.size W X → Below w.heap.size w X) := fun X hX => BW.trans (hX.mono BW.size)
  clear hT hR Z0 sW h8 hf hs
  go_enter Try.func71, Try.ntmps71
  go_wp2_with fail
  rw [← hW]
  clear hW
  refine (CP.out _ BW).mono ?_
  rintro e w1 ⟨rfl, b1⟩
  have HA : Hid _ := HZ.out _ b1
  obtain ⟨f0_, f1_, f2_, f3_, f4_, f5_, f6_, f7_, f8_, f9_, f10_, f11_, f12_, f13_, f14_, f15_⟩ := (set16_arr HA.out HZ8.out r0 r1 r2 r3 r4 r5 r6 r7 r8 r9 r10 r11 r12 r13 r14 r15).all
  have HB : Hid (Below w.heap.size w (set16 w1 (w.heap.size + 2) r0 r1 r2 r3 r4 r5 r6 r7 r8 r9 r10 r11 r12 r13 r14 r15)) := set16_below r0 r1 r2 r3 r4 r5 r6 r7 r8 r9 r10 r11 r12 r13 r14 r15 (HBW.out _ b1) (by omega)
  clear BW b1 CP HZ HBW
  go_wp2_with (refine wpList_store16 rfl rfl HA.out HZ8.out ?_)
  exact bodyPost_ret (v := .agg #[.int .i64 r0, .int .i64 r1, .int .i64 r2, .int .i64 r3, .int .i64 r4, .int .i64 r5, .int .i64 r6, .int .i64 r7, .int .i64 r8, .int .i64 r9, .int .i64 r10, .int .i64 r11, .int .i64 r12, .int .i64 r13, .int .i64 r14, .int .i64 r15]) (by simp [results, Try.results71, go_sem, *]) rfl ⟨rfl, HB.out⟩

/-- What MarkGray and ScanFrom answer, of what is tried. -/
theorem iGray_calls (v u : Value) (H : HeapD) (T : TrialD) (slot : Int) (w : World) (h : RdH w v H) (ht : RdT w u T) (hs : SmallH H) (hst : SmallT T) (hf : ∀ o ∈ H.objs, ∀ z ∈ o.field, in64 z) (R : TrialD) (hy : OkT H T slot → R = paintT (-1) 1 H T slot.toNat) (hn : ¬ OkT H T slot → R = T) :
    Calls Try.prog 67 #[v, u, .int .i64 slot] w fun e w' => ∃ s : TSh, e = .returned s.v ∧ TM w' w.heap.size s R ∧ Below w.heap.size w w' := by
  have C : ∀ X, Below w.heap.size w X → Calls Try.prog 70 #[v, u, .int .i64 slot, .func (.func 71) #[] #[]] X fun e w' => ∃ s : TSh, e = .returned s.v ∧ TM w' X.heap.size s R ∧ Below X.heap.size X w' := fun X hX => by
    by_cases hok : OkT H T slot
    · rw [hy hok]
      obtain ⟨k, rfl⟩ : ∃ k : Nat, slot = (k : Int) := ⟨slot.toNat, by have := hok.lo; omega⟩
      have hk : k < 8 := by have := hok.hi; omega
      have hT : Eight T := ⟨hok.counts, hok.colors⟩
      rw [show ((k : Int)).toNat = k from by omega]
      exact iTried_yes v u _ tryGray H T _ k X (rdH_later h hX) (rdT_later ht hX) hs hst hok (paintT_eight (-1) 1 H T k hT hk) (fun Y hY => markGray_calls v H hs hok.objs hf T k Y hT hk (rdH_later (rdH_later h hX) hY))
    · rw [hn hok]
      exact iTried_no v u _ H T slot X (rdH_later h hX) (rdT_later ht hX) hs hst hok
  have CT : Hid (∀ X, Below w.heap.size w X → _) := C
  clear C hy hn
  obtain ⟨ao, co, aw, cw, ab, cb, sa, sc, rfl, -, -, -, -⟩ := h
  obtain ⟨xa, xc, ya, yc, rfl, -, -⟩ := ht
  obtain ⟨W, hW⟩ : ∃ W, W = ((w.alloc (.cells #[.slice ao H.objs.length co, .slice aw H.weaks.length cw, .slice ab H.buffer.length cb, .slice sa H.sites.length sc] 33)).alloc (.cells #[.slice xa T.counts.length xc, .slice ya T.colors.length yc] 105)).alloc (.cells #[.slice none 0 0, .slice none 0 0] 105) := ⟨_, rfl⟩
  have BW : Below w.heap.size w W := by rw [hW]; exact (((Below.refl _ _).alloc (Nat.le_refl _) _).alloc (by simp) _).alloc (by simp; omega) _
  have hWs : W.heap.size = w.heap.size + 3 := by rw [hW]; simp
  have FR : Two W (w.heap.size + 2) (.slice none 0 0) (.slice none 0 0) := by
    have f := Two.new ((w.alloc (.cells #[.slice ao H.objs.length co, .slice aw H.weaks.length cw, .slice ab H.buffer.length cb, .slice sa H.sites.length sc] 33)).alloc (.cells #[.slice xa T.counts.length xc, .slice ya T.colors.length yc] 105)) (.slice none 0 0) (.slice none 0 0)
    rw [← hW] at f
    simpa using f
  have HFR : Hid (∀ X, Below W.heap.size W X → Two X (w.heap.size + 2) (.slice none 0 0) (.slice none 0 0)) := fun X hX => FR.later hX (by omega)
  have HBW : Hid (∀ X, Below W.heap.size W X → Below w.heap.size w X) := fun X hX => BW.trans (hX.mono BW.size)
  have HWs : Hid (W.heap.size = w.heap.size + 3) := hWs
  clear FR hWs hs hst hf
  go_enter Try.func67, Try.ntmps67
  go_wp2_with fail
  rw [← hW]
  clear hW
  refine (CT.out _ BW).mono ?_
  rintro e w1 ⟨s, rfl, M1, b1⟩
  have F1 := HFR.out _ b1
  have c0 : w1.cell? ⟨w.heap.size + 2, 0, none⟩ = some (.slice none 0 0) := F1.cell 0
  have c1 : w1.cell? ⟨w.heap.size + 2, 1, none⟩ = some (.slice none 0 0) := F1.cell 1
  have f0 := F1.frozen 0
  have f1 := F1.frozen 1
  obtain ⟨k0, k1⟩ := setTwo_cell (.slice s.a s.n s.c) (.slice s.b s.m s.d) F1
  have HT : Hid (TM (setTwo w1 (w.heap.size + 2) (.slice s.a s.n s.c) (.slice s.b s.m s.d)) w.heap.size s R) := by
    have hle : w.heap.size ≤ W.heap.size := by have := HWs.out; omega
    exact (M1.same (fun g hg _ => setTwo_other _ _ _ _ g (by have := HWs.out; omega))).mono hle
  have HB : Hid (Below w.heap.size w (setTwo w1 (w.heap.size + 2) (.slice s.a s.n s.c) (.slice s.b s.m s.d))) := by
    unfold setTwo
    exact ((HBW.out _ b1).setCell (by simp) _).setCell (by simp) _
  unfold setTwo at HT HB k0 k1
  clear F1 M1 BW b1 CT
  have hv : s.v = .agg #[.slice s.a s.n s.c, .slice s.b s.m s.d] := rfl
  rw [hv]
  go_wp2
  exact bodyPost_ret (v := .agg #[.slice s.a s.n s.c, .slice s.b s.m s.d]) (by simp [results, Try.results67, go_sem, *]) rfl ⟨s, rfl, HT.out, HB.out⟩

end Go.Proofs.Ytjhdnachbahbmaa

namespace Go.Proofs.Ytjhdnachbahbmaa
open Go.RowKit
set_option linter.unusedVariables false
set_option maxRecDepth 100000

set_option maxHeartbeats 4000000 in
theorem scanFrom_same (v : Value) (H : HeapD) (T : TrialD) (k : Nat) (w : World) (h8 : Eight T) (hk : k < 8) (hc : col T k ≠ 1) (h : RdH w v H) :
    Calls Try.prog 72 #[arrV T, v, .int .i64 (k : Int)] w fun e w' => e = .returned (arrV T) ∧ Below w.heap.size w w' := by
  obtain ⟨ao, co, aw, cw, ab, cb, sa, sc, rfl, -, -, -, -⟩ := h
  obtain ⟨a0, a1, a2, a3, a4, a5, a6, a7, b0, b1, b2, b3, b4, b5, b6, b7, rfl⟩ := eight_trD h8
  obtain ⟨W, hW⟩ : ∃ W, W = ((w.alloc (.cells #[.int .i64 a0, .int .i64 a1, .int .i64 a2, .int .i64 a3, .int .i64 a4, .int .i64 a5, .int .i64 a6, .int .i64 a7, .int .i64 b0, .int .i64 b1, .int .i64 b2, .int .i64 b3, .int .i64 b4, .int .i64 b5, .int .i64 b6, .int .i64 b7] 117)).alloc (.cells #[.slice ao H.objs.length co, .slice aw H.weaks.length cw, .slice ab H.buffer.length cb, .slice sa H.sites.length sc] 33)).alloc (.cells #[.int .i64 0, .int .i64 0, .int .i64 0, .int .i64 0, .int .i64 0, .int .i64 0, .int .i64 0, .int .i64 0, .int .i64 0, .int .i64 0, .int .i64 0, .int .i64 0, .int .i64 0, .int .i64 0, .int .i64 0, .int .i64 0] 117) := ⟨_, rfl⟩
  have A0 : Arr W w.heap.size (trD a0 a1 a2 a3 a4 a5 a6 a7 b0 b1 b2 b3 b4 b5 b6 b7) := by
    have f := Arr.new w (trD a0 a1 a2 a3 a4 a5 a6 a7 b0 b1 b2 b3 b4 b5 b6 b7)
    have f2 := f.later ((Below.refl _ _).alloc (Nat.le_refl _) (.cells #[.slice ao H.objs.length co, .slice aw H.weaks.length cw, .slice ab H.buffer.length cb, .slice sa H.sites.length sc] 33))
    have f3 := f2.later ((Below.refl _ _).alloc (Nat.le_refl _) (.cells #[.int .i64 0, .int .i64 0, .int .i64 0, .int .i64 0, .int .i64 0, .int .i64 0, .int .i64 0, .int .i64 0, .int .i64 0, .int .i64 0, .int .i64 0, .int .i64 0, .int .i64 0, .int .i64 0, .int .i64 0, .int .i64 0] 117))
    rw [hW]; exact f3
  have ck := A0.color h8 k hk
  generalize col (trD a0 a1 a2 a3 a4 a5 a6 a7 b0 b1 b2 b3 b4 b5 b6 b7) k = q at *
  rw [hW] at ck
  have hk8 : (k : Int) < 8 := by omega
  have hcn : ¬ q = 1 := hc
  clear A0 hc hW
  rw [trD_v]
  go_enter Try.func72, Try.ntmps72
  go_wp2
  refine bodyPost_ret (v := .agg #[.int .i64 a0, .int .i64 a1, .int .i64 a2, .int .i64 a3, .int .i64 a4, .int .i64 a5, .int .i64 a6, .int .i64 a7, .int .i64 b0, .int .i64 b1, .int .i64 b2, .int .i64 b3, .int .i64 b4, .int .i64 b5, .int .i64 b6, .int .i64 b7]) (by simp [results, Try.results72, go_sem, *]) rfl ⟨rfl, ?_⟩
  exact (((Below.refl _ _).alloc (Nat.le_refl _) _).alloc (by simp) _).alloc (by simp; omega) _

set_option maxHeartbeats 4000000 in
theorem scanFrom_black (v : Value) (H : HeapD) (hs : SmallH H) (h8 : H.objs.length = 8) (hf : ∀ o ∈ H.objs, ∀ z ∈ o.field, in64 z) (T : TrialD) (k : Nat) (w : World) (hT : Eight T) (hk : k < 8) (hc : col T k = 1) (hp : 0 < cnt T k) (h : RdH w v H) :
    Calls Try.prog 72 #[arrV T, v, .int .i64 (k : Int)] w fun e w' => e = .returned (arrV (spreadAll 1 0 H ⟨T.counts, T.colors.set k 0⟩ [(k : Int)])) ∧ Below w.heap.size w w' := by
  have CP0 : ∀ X, Below w.heap.size w X → _ := fun X hX => painted_top v H 0 1 hs h8 hf T k X hT hk (rdH_later h hX)
  have hR := paintT_eight 1 0 H T k hT hk
  have e : paintT 1 0 H T k = spreadAll 1 0 H ⟨T.counts, T.colors.set k 0⟩ [(k : Int)] := by unfold paintT; rw [if_neg (by omega)]
  rw [e] at CP0 hR
  have CP : Hid (∀ X, Below w.heap.size w X → _) := CP0
  clear CP0 e
  generalize spreadAll 1 0 H ⟨T.counts, T.colors.set k 0⟩ [(k : Int)] = R at *
  obtain ⟨ao, co, aw, cw, ab, cb, sa, sc, rfl, -, -, -, -⟩ := h
  obtain ⟨a0, a1, a2, a3, a4, a5, a6, a7, b0, b1, b2, b3, b4, b5, b6, b7, rfl⟩ := eight_trD hT
  obtain ⟨r0, r1, r2, r3, r4, r5, r6, r7, r8, r9, r10, r11, r12, r13, r14, r15, rfl⟩ := eight_trD hR
  obtain ⟨W, hW⟩ : ∃ W, W = ((w.alloc (.cells #[.int .i64 a0, .int .i64 a1, .int .i64 a2, .int .i64 a3, .int .i64 a4, .int .i64 a5, .int .i64 a6, .int .i64 a7, .int .i64 b0, .int .i64 b1, .int .i64 b2, .int .i64 b3, .int .i64 b4, .int .i64 b5, .int .i64 b6, .int .i64 b7] 117)).alloc (.cells #[.slice ao H.objs.length co, .slice aw H.weaks.length cw, .slice ab H.buffer.length cb, .slice sa H.sites.length sc] 33)).alloc (.cells #[.int .i64 0, .int .i64 0, .int .i64 0, .int .i64 0, .int .i64 0, .int .i64 0, .int .i64 0, .int .i64 0, .int .i64 0, .int .i64 0, .int .i64 0, .int .i64 0, .int .i64 0, .int .i64 0, .int .i64 0, .int .i64 0] 117) := ⟨_, rfl⟩
  have BW : Below w.heap.size w W := by rw [hW]; exact (((Below.refl _ _).alloc (Nat.le_refl _) _).alloc (by simp) _).alloc (by simp; omega) _
  have A0 : Arr W w.heap.size (trD a0 a1 a2 a3 a4 a5 a6 a7 b0 b1 b2 b3 b4 b5 b6 b7) := by
    have f := Arr.new w (trD a0 a1 a2 a3 a4 a5 a6 a7 b0 b1 b2 b3 b4 b5 b6 b7)
    have f2 := f.later ((Below.refl _ _).alloc (Nat.le_refl _) (.cells #[.slice ao H.objs.length co, .slice aw H.weaks.length cw, .slice ab H.buffer.length cb, .slice sa H.sites.length sc] 33))
    have f3 := f2.later ((Below.refl _ _).alloc (Nat.le_refl _) (.cells #[.int .i64 0, .int .i64 0, .int .i64 0, .int .i64 0, .int .i64 0, .int .i64 0, .int .i64 0, .int .i64 0, .int .i64 0, .int .i64 0, .int .i64 0, .int .i64 0, .int .i64 0, .int .i64 0, .int .i64 0, .int .i64 0] 117))
    rw [hW]; exact f3
  have Z0 : Arr W (w.heap.size + 2) (trD 0 0 0 0 0 0 0 0 0 0 0 0 0 0 0 0) := by
    have f := Arr.new ((w.alloc (.cells #[.int .i64 a0, .int .i64 a1, .int .i64 a2, .int .i64 a3, .int .i64 a4, .int .i64 a5, .int .i64 a6, .int .i64 a7, .int .i64 b0, .int .i64 b1, .int .i64 b2, .int .i64 b3, .int .i64 b4, .int .i64 b5, .int .i64 b6, .int .i64 b7] 117)).alloc (.cells #[.slice ao H.objs.length co, .slice aw H.weaks.length cw, .slice ab H.buffer.length cb, .slice sa H.sites.length sc] 33)) (trD 0 0 0 0 0 0 0 0 0 0 0 0 0 0 0 0)
    have f2 : Arr W ((w.alloc (.cells #[.int .i64 a0, .int .i64 a1, .int .i64 a2, .int .i64 a3, .int .i64 a4, .int .i64 a5, .int .i64 a6, .int .i64 a7, .int .i64 b0, .int .i64 b1, .int .i64 b2, .int .i64 b3, .int .i64 b4, .int .i64 b5, .int .i64 b6, .int .i64 b7] 117)).alloc (.cells #[.slice ao H.objs.length co, .slice aw H.weaks.length cw, .slice ab H.buffer.length cb, .slice sa H.sites.length sc] 33)).heap.size (trD 0 0 0 0 0 0 0 0 0 0 0 0 0 0 0 0) := by rw [hW]; exact f
    simpa using f2
  have ck := A0.color hT k hk
  have cc := A0.count hT k hk
  rw [hc] at ck
  generalize cnt (trD a0 a1 a2 a3 a4 a5 a6 a7 b0 b1 b2 b3 b4 b5 b6 b7) k = q at *
  rw [hW] at ck cc
  rw [trD_v, trD_v] at CP
  rw [trD_v, trD_v]
  have HZ : Hid (∀ X, Below W.heap.size W X → Arr X (w.heap.size + 2) (trD 0 0 0 0 0 0 0 0 0 0 0 0 0 0 0 0)) := fun X hX => Z0.later hX
  have HZ8 : Hid (Eight (trD 0 0 0 0 0 0 0 0 0 0 0 0 0 0 0 0)) := ⟨rfl, rfl⟩
  have HBW : Hid (∀ X, Below W.heap.size W X → Below w.heap.size w X) := fun X hX => BW.trans (hX.mono BW.size)
  have hk8 : (k : Int) < 8 := by omega
  clear hT hR Z0 A0 h8 hf hs hc
  go_enter Try.func72, Try.ntmps72
  go_wp2_with fail
  rw [← hW]
  clear hW ck cc
  refine (CP.out _ BW).mono ?_
  rintro e w1 ⟨rfl, b1⟩
  have HA : Hid _ := HZ.out _ b1
  obtain ⟨f0_, f1_, f2_, f3_, f4_, f5_, f6_, f7_, f8_, f9_, f10_, f11_, f12_, f13_, f14_, f15_⟩ := (set16_arr HA.out HZ8.out r0 r1 r2 r3 r4 r5 r6 r7 r8 r9 r10 r11 r12 r13 r14 r15).all
  have HB : Hid (Below w.heap.size w (set16 w1 (w.heap.size + 2) r0 r1 r2 r3 r4 r5 r6 r7 r8 r9 r10 r11 r12 r13 r14 r15)) := set16_below r0 r1 r2 r3 r4 r5 r6 r7 r8 r9 r10 r11 r12 r13 r14 r15 (HBW.out _ b1) (by omega)
  clear BW b1 CP HZ HBW
  go_wp2_with (refine wpList_store16 rfl rfl HA.out HZ8.out ?_)
  exact bodyPost_ret (v := .agg #[.int .i64 r0, .int .i64 r1, .int .i64 r2, .int .i64 r3, .int .i64 r4, .int .i64 r5, .int .i64 r6, .int .i64 r7, .int .i64 r8, .int .i64 r9, .int .i64 r10, .int .i64 r11, .int .i64 r12, .int .i64 r13, .int .i64 r14, .int .i64 r15]) (by simp [results, Try.results72, go_sem, *]) rfl ⟨rfl, HB.out⟩

theorem colored_le_of {T T' : TrialD} (h8 : Eight T) (h8' : Eight T') (h : ∀ j, j < 8 → col T' j = 1 → col T j = 1) : colored 1 T'.colors ≤ colored 1 T.colors := by
  obtain ⟨a0, a1, a2, a3, a4, a5, a6, a7, b0, b1, b2, b3, b4, b5, b6, b7, rfl⟩ := eight_form h8
  obtain ⟨x0, x1, x2, x3, x4, x5, x6, x7, y0, y1, y2, y3, y4, y5, y6, y7, rfl⟩ := eight_form h8'
  have e0 := h 0 (by omega)
  have e1 := h 1 (by omega)
  have e2 := h 2 (by omega)
  have e3 := h 3 (by omega)
  have e4 := h 4 (by omega)
  have e5 := h 5 (by omega)
  have e6 := h 6 (by omega)
  have e7 := h 7 (by omega)
  simp only [col, List.getD_cons_zero, List.getD_cons_succ] at e0 e1 e2 e3 e4 e5 e6 e7
  have one : ∀ x y : Int, (y = 1 → x = 1) → (if decide (y = 1) = true then 1 else 0) ≤ (if decide (x = 1) = true then 1 else 0) := fun x y hxy => by
    by_cases hy : y = 1
    · simp [hy, hxy hy]
    · simp [hy]
  have g0 := one _ _ e0
  have g1 := one _ _ e1
  have g2 := one _ _ e2
  have g3 := one _ _ e3
  have g4 := one _ _ e4
  have g5 := one _ _ e5
  have g6 := one _ _ e6
  have g7 := one _ _ e7
  simp only [colored, List.countP_cons, List.countP_nil]
  omega
theorem sc_colored {H : HeapD} {T0 T T' : TrialD} {A Q : Nat → Prop} {P S P' S' : List Nat} (h : Sc H T0 A Q T P S) (h' : Sc H T0 A Q T' P' S') (hP : ∀ x ∈ P, x ∈ P') (hS : ∀ x ∈ S, x ∈ S') : colored 1 T'.colors ≤ colored 1 T.colors :=
  colored_le_of h.e h'.e (fun j hj hg => by
    obtain ⟨q1, q2, q3, -⟩ := sc_gray h' hj hg
    rw [h.col j hj, if_neg (fun hm => q1 (hP j hm)), if_neg (fun hm => q2 (hS j hm))]
    exact q3)

set_option maxHeartbeats 16000000 in
theorem scanFrom_calls (v : Value) (H : HeapD) (hs : SmallH H) (h8 : H.objs.length = 8) (hf : ∀ o ∈ H.objs, ∀ z ∈ o.field, in64 z) (T0 : TrialD) (A Q : Nat → Prop) (hy : ScHyp H T0 A Q) :
    ∀ (n : Nat) (T : TrialD) (P S : List Nat) (k : Nat) (w : World), colored 1 T.colors ≤ n → Sc H T0 A Q T P S → k < 8 → (col T0 k = 1 → A k) → RdH w v H →
      Calls Try.prog 72 #[arrV T, v, .int .i64 (k : Int)] w fun e w' => ∃ T', e = .returned (arrV T') ∧ Scanned H T0 A Q P S k T' ∧ Below w.heap.size w w' := by
  intro n
  induction n with
  | zero =>
    intro T P S k w hn hd hk hAk h
    have hc : col T k ≠ 1 := fun hne => by
      have hl : k < T.colors.length := by have := hd.e.2; omega
      unfold col at hne
      rw [List.getD_eq_getElem?_getD, List.getElem?_eq_getElem hl, Option.getD_some] at hne
      have := colored_lt 1 2 T.colors k hl (by decide) hne
      omega
    refine (scanFrom_same v H T k w hd.e hk hc h).mono ?_
    rintro e w' ⟨rfl, hb⟩
    exact ⟨T, rfl, scanned_no hd hk hc, hb⟩
  | succ n ih =>
    intro T P S k w hn hd hk hAk h
    by_cases hc : col T k = 1
    case neg =>
      refine (scanFrom_same v H T k w hd.e hk hc h).mono ?_
      rintro e w' ⟨rfl, hb⟩
      exact ⟨T, rfl, scanned_no hd hk hc, hb⟩
    by_cases hp : 0 < cnt T k
    · refine (scanFrom_black v H hs h8 hf T k w hd.e hk hc hp h).mono ?_
      rintro e w' ⟨rfl, hb⟩
      exact ⟨_, rfl, scanned_black hy hd hk hc hp hAk, hb⟩
    have HR1 : Hid (∀ X, Below w.heap.size w X → RdH X v H) := fun X hX => rdH_later h hX
    have HST : Hid (ScMid H T0 A Q P S k 0 ⟨T.counts, T.colors.set k 2⟩) := scmid_start hd hk hc hp hAk
    have HO1 : Hid (colored 1 (TrialD.mk T.counts (T.colors.set k 2)).colors ≤ n) := by
      have hl : k < T.colors.length := by have := hd.e.2; omega
      have hne := hc
      unfold col at hne
      rw [List.getD_eq_getElem?_getD, List.getElem?_eq_getElem hl, Option.getD_some] at hne
      have := colored_lt 1 2 T.colors k hl (by decide) hne
      show colored 1 (T.colors.set k 2) ≤ n
      omega
    have hk2 : k < H.objs.length := by omega
    have CK : Hid (∀ X, Below w.heap.size w X → _) := fun X hX => iKids_calls v H k X (HR1.out X hX) hs hk2 (hf _ (List.getElem_mem hk2))
    rw [← kidsOf_at H k hk2] at CK
    have hkl := kidsOf_le H (k : Int) hs
    have HIH : Hid (∀ (T : TrialD) (P S : List Nat) (j : Nat) (w' : World), colored 1 T.colors ≤ n → Sc H T0 A Q T P S → j < 8 → (col T0 j = 1 → A j) → Below w.heap.size w w' → _) := fun T P S j w' h1 h2 h3 h4 h5 => ih T P S j w' h1 h2 h3 h4 (HR1.out w' h5)
    have e8 := hd.e
    obtain ⟨ao, co, aw, cw, ab, cb, sa, sc, rfl, -, -, -, -⟩ := h
    obtain ⟨a0, a1, a2, a3, a4, a5, a6, a7, b0, b1, b2, b3, b4, b5, b6, b7, rfl⟩ := eight_trD e8
    rw [h8] at CK HIH HR1 ⊢
    generalize H.weaks.length = nw at *
    generalize H.buffer.length = nb at *
    generalize H.sites.length = ns at *
    obtain ⟨W, hW⟩ : ∃ W, W = ((w.alloc (.cells #[.int .i64 a0, .int .i64 a1, .int .i64 a2, .int .i64 a3, .int .i64 a4, .int .i64 a5, .int .i64 a6, .int .i64 a7, .int .i64 b0, .int .i64 b1, .int .i64 b2, .int .i64 b3, .int .i64 b4, .int .i64 b5, .int .i64 b6, .int .i64 b7] 117)).alloc (.cells #[.slice ao 8 co, .slice aw nw cw, .slice ab nb cb, .slice sa ns sc] 33)).alloc (.cells #[.int .i64 0, .int .i64 0, .int .i64 0, .int .i64 0, .int .i64 0, .int .i64 0, .int .i64 0, .int .i64 0, .int .i64 0, .int .i64 0, .int .i64 0, .int .i64 0, .int .i64 0, .int .i64 0, .int .i64 0, .int .i64 0] 117) := ⟨_, rfl⟩
    have A0 : Arr W w.heap.size (trD a0 a1 a2 a3 a4 a5 a6 a7 b0 b1 b2 b3 b4 b5 b6 b7) := by
      have f := Arr.new w (trD a0 a1 a2 a3 a4 a5 a6 a7 b0 b1 b2 b3 b4 b5 b6 b7)
      have f2 := f.later ((Below.refl _ _).alloc (Nat.le_refl _) (.cells #[.slice ao 8 co, .slice aw nw cw, .slice ab nb cb, .slice sa ns sc] 33))
      have f3 := f2.later ((Below.refl _ _).alloc (Nat.le_refl _) (.cells #[.int .i64 0, .int .i64 0, .int .i64 0, .int .i64 0, .int .i64 0, .int .i64 0, .int .i64 0, .int .i64 0, .int .i64 0, .int .i64 0, .int .i64 0, .int .i64 0, .int .i64 0, .int .i64 0, .int .i64 0, .int .i64 0] 117))
      rw [hW]; exact f3
    have ck := A0.color e8 k hk
    have cc := A0.count e8 k hk
    have fk := A0.frozen (8 + k)
    obtain ⟨W1, hW1⟩ : ∃ W1, W1 = ((w.alloc (.cells ([.int .i64 a0, .int .i64 a1, .int .i64 a2, .int .i64 a3, .int .i64 a4, .int .i64 a5, .int .i64 a6, .int .i64 a7, .int .i64 b0, .int .i64 b1, .int .i64 b2, .int .i64 b3, .int .i64 b4, .int .i64 b5, .int .i64 b6, .int .i64 b7].set (8 + k) (.int .i64 2)).toArray 117)).alloc (.cells #[.slice ao 8 co, .slice aw nw cw, .slice ab nb cb, .slice sa ns sc] 33)).alloc (.cells #[.int .i64 0, .int .i64 0, .int .i64 0, .int .i64 0, .int .i64 0, .int .i64 0, .int .i64 0, .int .i64 0, .int .i64 0, .int .i64 0, .int .i64 0, .int .i64 0, .int .i64 0, .int .i64 0, .int .i64 0, .int .i64 0] 117) := ⟨_, rfl⟩
    have B1 : Below w.heap.size w W1 := by rw [hW1]; exact (((Below.refl _ _).alloc (Nat.le_refl _) _).alloc (by simp) _).alloc (by simp; omega) _
    have s1 : W1.heap.size = w.heap.size + 3 := by rw [hW1]; simp
    have ec : [.int .i64 a0, .int .i64 a1, .int .i64 a2, .int .i64 a3, .int .i64 a4, .int .i64 a5, .int .i64 a6, .int .i64 a7, .int .i64 b0, .int .i64 b1, .int .i64 b2, .int .i64 b3, .int .i64 b4, .int .i64 b5, .int .i64 b6, .int .i64 b7].set (8 + k) (.int .i64 2) = cells16 ⟨(trD a0 a1 a2 a3 a4 a5 a6 a7 b0 b1 b2 b3 b4 b5 b6 b7).counts, (trD a0 a1 a2 a3 a4 a5 a6 a7 b0 b1 b2 b3 b4 b5 b6 b7).colors.set k 2⟩ := by
      unfold cells16
      simp only [List.map_append, List.map_set]
      show (List.map intV (trD a0 a1 a2 a3 a4 a5 a6 a7 b0 b1 b2 b3 b4 b5 b6 b7).counts ++ List.map intV (trD a0 a1 a2 a3 a4 a5 a6 a7 b0 b1 b2 b3 b4 b5 b6 b7).colors).set (8 + k) (intV 2) = _
      rw [List.set_append_right _ _ (by simp [trD]), show 8 + k - (List.map intV (trD a0 a1 a2 a3 a4 a5 a6 a7 b0 b1 b2 b3 b4 b5 b6 b7).counts).length = k from by simp [trD]]
    have A1 : Arr W1 w.heap.size ⟨(trD a0 a1 a2 a3 a4 a5 a6 a7 b0 b1 b2 b3 b4 b5 b6 b7).counts, (trD a0 a1 a2 a3 a4 a5 a6 a7 b0 b1 b2 b3 b4 b5 b6 b7).colors.set k 2⟩ := by
      rw [ec] at hW1
      have f := Arr.new w ⟨(trD a0 a1 a2 a3 a4 a5 a6 a7 b0 b1 b2 b3 b4 b5 b6 b7).counts, (trD a0 a1 a2 a3 a4 a5 a6 a7 b0 b1 b2 b3 b4 b5 b6 b7).colors.set k 2⟩
      have f2 := f.later ((Below.refl _ _).alloc (Nat.le_refl _) (.cells #[.slice ao 8 co, .slice aw nw cw, .slice ab nb cb, .slice sa ns sc] 33))
      have f3 := f2.later ((Below.refl _ _).alloc (Nat.le_refl _) (.cells #[.int .i64 0, .int .i64 0, .int .i64 0, .int .i64 0, .int .i64 0, .int .i64 0, .int .i64 0, .int .i64 0, .int .i64 0, .int .i64 0, .int .i64 0, .int .i64 0, .int .i64 0, .int .i64 0, .int .i64 0, .int .i64 0] 117))
      rw [hW1]; exact f3
    have F1 : Four W1 (w.heap.size + 1) (.slice ao 8 co) (.slice aw nw cw) (.slice ab nb cb) (.slice sa ns sc) := by
      have f := Four.new (w.alloc (.cells ([.int .i64 a0, .int .i64 a1, .int .i64 a2, .int .i64 a3, .int .i64 a4, .int .i64 a5, .int .i64 a6, .int .i64 a7, .int .i64 b0, .int .i64 b1, .int .i64 b2, .int .i64 b3, .int .i64 b4, .int .i64 b5, .int .i64 b6, .int .i64 b7].set (8 + k) (.int .i64 2)).toArray 117)) (.slice ao 8 co) (.slice aw nw cw) (.slice ab nb cb) (.slice sa ns sc)
      have f3 := f.later ((Below.refl _ _).alloc (Nat.le_refl _) (.cells #[.int .i64 0, .int .i64 0, .int .i64 0, .int .i64 0, .int .i64 0, .int .i64 0, .int .i64 0, .int .i64 0, .int .i64 0, .int .i64 0, .int .i64 0, .int .i64 0, .int .i64 0, .int .i64 0, .int .i64 0, .int .i64 0] 117))
      rw [hW1]; simpa using f3
    have Z1 : Arr W1 (w.heap.size + 2) (trD 0 0 0 0 0 0 0 0 0 0 0 0 0 0 0 0) := by
      have f := Arr.new ((w.alloc (.cells ([.int .i64 a0, .int .i64 a1, .int .i64 a2, .int .i64 a3, .int .i64 a4, .int .i64 a5, .int .i64 a6, .int .i64 a7, .int .i64 b0, .int .i64 b1, .int .i64 b2, .int .i64 b3, .int .i64 b4, .int .i64 b5, .int .i64 b6, .int .i64 b7].set (8 + k) (.int .i64 2)).toArray 117)).alloc (.cells #[.slice ao 8 co, .slice aw nw cw, .slice ab nb cb, .slice sa ns sc] 33)) (trD 0 0 0 0 0 0 0 0 0 0 0 0 0 0 0 0)
      have f2 : Arr W1 ((w.alloc (.cells ([.int .i64 a0, .int .i64 a1, .int .i64 a2, .int .i64 a3, .int .i64 a4, .int .i64 a5, .int .i64 a6, .int .i64 a7, .int .i64 b0, .int .i64 b1, .int .i64 b2, .int .i64 b3, .int .i64 b4, .int .i64 b5, .int .i64 b6, .int .i64 b7].set (8 + k) (.int .i64 2)).toArray 117)).alloc (.cells #[.slice ao 8 co, .slice aw nw cw, .slice ab nb cb, .slice sa ns sc] 33)).heap.size (trD 0 0 0 0 0 0 0 0 0 0 0 0 0 0 0 0) := by rw [hW1]; exact f
      simpa using f2
    have HP1 : Hid (∀ X vk ks, Below W1.heap.size W1 X → ownI X (w.heap.size + 3) vk ks → PF w X (.slice ao 8 co) (.slice aw nw cw) (.slice ab nb cb) (.slice sa ns sc) ⟨(trD a0 a1 a2 a3 a4 a5 a6 a7 b0 b1 b2 b3 b4 b5 b6 b7).counts, (trD a0 a1 a2 a3 a4 a5 a6 a7 b0 b1 b2 b3 b4 b5 b6 b7).colors.set k 2⟩ vk ks) := fun X vk ks hX ho =>
      ⟨B1.trans (hX.mono B1.size), A1.later hX, F1.later hX, Z1.later hX, ho⟩
    have hk8 : (k : Int) < 8 := by omega
    clear A1 F1 Z1 ec
    generalize (⟨(trD a0 a1 a2 a3 a4 a5 a6 a7 b0 b1 b2 b3 b4 b5 b6 b7).counts, (trD a0 a1 a2 a3 a4 a5 a6 a7 b0 b1 b2 b3 b4 b5 b6 b7).colors.set k 2⟩ : TrialD) = T1 at HP1 HST HO1
    rw [hc] at ck
    generalize cnt (trD a0 a1 a2 a3 a4 a5 a6 a7 b0 b1 b2 b3 b4 b5 b6 b7) k = q at *
    rw [hW] at ck fk cc
    clear A0 hd hAk e8 hW hc
    rw [trD_v]
    obtain ⟨L, hL⟩ : ∃ L, (kidsOf H (k : Int)).length = L := ⟨_, rfl⟩
    have HL : Hid ((kidsOf H (k : Int)).length = L) := hL
    rw [hL] at hkl
    clear hL
    have Hs1 : Hid (W1.heap.size = w.heap.size + 3) := s1
    go_enter Try.func72, Try.ntmps72
    go_wp2_with fail
    rw [← hW1]
    clear hW1 ck fk cc s1
    refine (CK.out _ B1).mono ?_
    rintro e w2 ⟨vk, rfl, O2, b2⟩
    rw [Hs1.out] at O2
    obtain ⟨ka, kc, hvk, -⟩ := rdI_own O2
    rw [HL.out] at hvk
    subst hvk
    have HPF : Hid (PF w w2 (.slice ao 8 co) (.slice aw nw cw) (.slice ab nb cb) (.slice sa ns sc) T1 (.slice ka L kc) (kidsOf H (k : Int))) := HP1.out _ _ _ b2 O2
    clear b2 O2 CK HP1 B1
    go_wp2
    go_loopw [31] (fun i wr => ∃ (j : Nat) (T2 : TrialD), i = .int .i64 (j : Int) ∧ j ≤ L ∧ Hid (PF w wr (.slice ao 8 co) (.slice aw nw cw) (.slice ab nb cb) (.slice sa ns sc) T2 (.slice ka L kc) (kidsOf H (k : Int))) ∧ Hid (ScMid H T0 A Q P S k j T2) ∧ Hid (colored 1 T2.colors ≤ n)) (fun i _ => L - (intOf i).toNat)
    case atStart => exact ⟨0, T1, rfl, by omega, HPF, HST, HO1⟩
    case round =>
      clear HPF HST HO1
      obtain ⟨j, T2, rfl, hjL, HP, HM, HO⟩ := hrel
      by_cases hlt : j < L
      · have hj2 : j < (kidsOf H (k : Int)).length := by have := HL.out; omega
        obtain ⟨z, hz⟩ : ∃ z, (kidsOf H (k : Int))[j] = z := ⟨_, rfl⟩
        obtain ⟨P2, S2, hD, hAz, hz7, hnx⟩ := scmid_step hy HM.out hj2 z hz
        obtain ⟨m, rfl⟩ : ∃ m : Nat, z = (m : Int) := ⟨z.toNat, by omega⟩
        have hm : m < 8 := by omega
        rw [show ((m : Int)).toNat = m from by omega] at hAz hnx
        obtain ⟨ka2, kc2, hka, hr⟩ := rdI_own' HP.out.kids
        rw [HL.out] at hka
        simp only [Value.slice.injEq] at hka
        obtain ⟨rfl, -, rfl⟩ := hka
        obtain ⟨kg, ko, rfl, hkg, hcz⟩ := hr j hj2
        rw [hz] at hcz
        have hE3 := hD.e
        obtain ⟨p0, p1, p2, p3, p4, p5, p6, p7, p8, p9, p10, p11, p12, p13, p14, p15, rfl⟩ := eight_trD hE3
        have CI : Hid (∀ _ : Unit, _) := fun (_ : Unit) => HIH.out _ _ _ m wr HO.out hD hm hAz HP.out.bel
        rw [trD_v] at CI
        have v0 : wr.cell? ⟨w.heap.size + 1, 0, none⟩ = _ := HP.out.heap.cell 0
        have v1 : wr.cell? ⟨w.heap.size + 1, 1, none⟩ = _ := HP.out.heap.cell 1
        have v2 : wr.cell? ⟨w.heap.size + 1, 2, none⟩ = _ := HP.out.heap.cell 2
        have v3 : wr.cell? ⟨w.heap.size + 1, 3, none⟩ = _ := HP.out.heap.cell 3
        simp only [List.getElem?_toArray, List.getElem?_cons_zero, List.getElem?_cons_succ] at v0 v1 v2 v3
        have HA1 : Hid _ := HP.out.arr
        have hjl : (j : Int) < (L : Int) := by omega
        have HE3 : Hid _ := hE3
        have HD3 : Hid _ := hD
        have HNX : Hid _ := hnx
        clear hD hAz HM hE3 hnx hr hz7 hz
        go_wp2_with (refine wpList_load16 rfl HA1.out ?_)
        clear v0 v1 v2 v3 HA1 hcz
        refine (CI.out ()).mono ?_
        rintro e w3 ⟨T4, rfl, hP4, b3⟩
        have HM4 : Hid (ScMid H T0 A Q P S k (j + 1) T4) := HNX.out T4 hP4
        have PF3 := HP.out.later b3
        have E4 : Eight T4 := by obtain ⟨_, _, h, -⟩ := HM4.out; exact h.e
        have HO4 : Hid (colored 1 T4.colors ≤ n) := by
          obtain ⟨P3, S3, h4, h5, h6, -⟩ := hP4
          exact Nat.le_trans (sc_colored HD3.out h4 h5 h6) HO.out
        obtain ⟨q0, q1, q2, q3, q4, q5, q6, q7, q8, q9, q10, q11, q12, q13, q14, q15, rfl⟩ := eight_trD E4
        have HA3 : Hid _ := PF3.arr
        have HPN : Hid (PF w (set16 w3 w.heap.size q0 q1 q2 q3 q4 q5 q6 q7 q8 q9 q10 q11 q12 q13 q14 q15) (.slice ao 8 co) (.slice aw nw cw) (.slice ab nb cb) (.slice sa ns sc) (trD q0 q1 q2 q3 q4 q5 q6 q7 q8 q9 q10 q11 q12 q13 q14 q15) (.slice (some ⟨kg, ko, none⟩) L kc) (kidsOf H (k : Int))) := PF3.turn (set16_below q0 q1 q2 q3 q4 q5 q6 q7 q8 q9 q10 q11 q12 q13 q14 q15 PF3.bel (Nat.le_refl _)) (fun i hi => set16_other _ _ q0 q1 q2 q3 q4 q5 q6 q7 q8 q9 q10 q11 q12 q13 q14 q15 i hi) (set16_arr PF3.arr HE3.out q0 q1 q2 q3 q4 q5 q6 q7 q8 q9 q10 q11 q12 q13 q14 q15)
        rw [trD_v]
        clear PF3 HP b3 hP4 CI E4
        go_wp2_with (refine wpList_store16 rfl rfl HA3.out HE3.out ?_)
        go_roundw
        case rel => exact ⟨j + 1, trD q0 q1 q2 q3 q4 q5 q6 q7 q8 q9 q10 q11 q12 q13 q14 q15, by go_num, by omega, HPN, HM4, HO4⟩
        case measure => simp [intOf]; omega
      · have hLj : L ≤ j := by omega
        have HFIN : Hid (Scanned H T0 A Q P S k T2) := scmid_end HM.out (by rw [HL.out]; exact hLj)
        have E2 : Eight T2 := by obtain ⟨_, _, h, -⟩ := HM.out; exact h.e
        obtain ⟨p0, p1, p2, p3, p4, p5, p6, p7, p8, p9, p10, p11, p12, p13, p14, p15, rfl⟩ := eight_trD E2
        have HA5 : Hid _ := HP.out.arr
        have HR5 : Hid _ := HP.out.res
        have HZ5 : Hid (Eight (trD 0 0 0 0 0 0 0 0 0 0 0 0 0 0 0 0)) := ⟨rfl, rfl⟩
        obtain ⟨f0_, f1_, f2_, f3_, f4_, f5_, f6_, f7_, f8_, f9_, f10_, f11_, f12_, f13_, f14_, f15_⟩ := (set16_arr HP.out.res HZ5.out p0 p1 p2 p3 p4 p5 p6 p7 p8 p9 p10 p11 p12 p13 p14 p15).all
        have HB : Hid (Below w.heap.size w (set16 wr (w.heap.size + 2) p0 p1 p2 p3 p4 p5 p6 p7 p8 p9 p10 p11 p12 p13 p14 p15)) := set16_below p0 p1 p2 p3 p4 p5 p6 p7 p8 p9 p10 p11 p12 p13 p14 p15 HP.out.bel (by omega)
        clear HP HM HO E2
        go_wp2_with (first | (refine wpList_load16 rfl HA5.out ?_) | (refine wpList_store16 rfl rfl HR5.out HZ5.out ?_))
        exact bodyPost_ret (v := .agg #[.int .i64 p0, .int .i64 p1, .int .i64 p2, .int .i64 p3, .int .i64 p4, .int .i64 p5, .int .i64 p6, .int .i64 p7, .int .i64 p8, .int .i64 p9, .int .i64 p10, .int .i64 p11, .int .i64 p12, .int .i64 p13, .int .i64 p14, .int .i64 p15]) (by simp [results, Try.results72, go_sem, *]) rfl ⟨_, rfl, HFIN.out, HB.out⟩

theorem scanFrom_top (v : Value) (H : HeapD) (hs : SmallH H) (h8 : H.objs.length = 8) (hf : ∀ o ∈ H.objs, ∀ z ∈ o.field, in64 z) (T : TrialD) (k : Nat) (w : World) (hT : Eight T) (hk : k < 8) (h : RdH w v H) :
    Calls Try.prog 72 #[arrV T, v, .int .i64 (k : Int)] w fun e w' => e = .returned (arrV (scanT H T (k : Int))) ∧ Below w.heap.size w w' := by
  refine (scanFrom_calls v H hs h8 hf T (AS H T k) (QS H T k) (as_hyp H T k) _ T [] [] k w (Nat.le_refl _) (sc_start H T _ _ hT) hk (fun hc U h1 _ => h1 hc) h).mono ?_
  rintro e w' ⟨T', rfl, hp, hb⟩
  rw [scanned_all hs hT hk hp]
  exact ⟨rfl, hb⟩
theorem scanT_eight (H : HeapD) (hs : SmallH H) (T : TrialD) (k : Nat) (hT : Eight T) (hk : k < 8) : Eight (scanT H T (k : Int)) := by
  obtain ⟨P, S, h⟩ := scanT_fin H hs T k hT hk
  exact h.sc.e

theorem iScan_calls (v u : Value) (H : HeapD) (T : TrialD) (slot : Int) (w : World) (h : RdH w v H) (ht : RdT w u T) (hs : SmallH H) (hst : SmallT T) (hf : ∀ o ∈ H.objs, ∀ z ∈ o.field, in64 z) (R : TrialD) (hy : OkT H T slot → R = scanT H T slot) (hn : ¬ OkT H T slot → R = T) :
    Calls Try.prog 68 #[v, u, .int .i64 slot] w fun e w' => ∃ s : TSh, e = .returned s.v ∧ TM w' w.heap.size s R ∧ Below w.heap.size w w' := by
  have C : ∀ X, Below w.heap.size w X → Calls Try.prog 70 #[v, u, .int .i64 slot, .func (.func 72) #[] #[]] X fun e w' => ∃ s : TSh, e = .returned s.v ∧ TM w' X.heap.size s R ∧ Below X.heap.size X w' := fun X hX => by
    by_cases hok : OkT H T slot
    · rw [hy hok]
      obtain ⟨k, rfl⟩ : ∃ k : Nat, slot = (k : Int) := ⟨slot.toNat, by have := hok.lo; omega⟩
      have hk : k < 8 := by have := hok.hi; omega
      have hT : Eight T := ⟨hok.counts, hok.colors⟩
      exact iTried_yes v u _ tryScan H T _ k X (rdH_later h hX) (rdT_later ht hX) hs hst hok (scanT_eight H hs T k hT hk) (fun Y hY => scanFrom_top v H hs hok.objs hf T k Y hT hk (rdH_later (rdH_later h hX) hY))
    · rw [hn hok]
      exact iTried_no v u _ H T slot X (rdH_later h hX) (rdT_later ht hX) hs hst hok
  have CT : Hid (∀ X, Below w.heap.size w X → _) := C
  clear C hy hn
  obtain ⟨ao, co, aw, cw, ab, cb, sa, sc, rfl, -, -, -, -⟩ := h
  obtain ⟨xa, xc, ya, yc, rfl, -, -⟩ := ht
  obtain ⟨W, hW⟩ : ∃ W, W = ((w.alloc (.cells #[.slice ao H.objs.length co, .slice aw H.weaks.length cw, .slice ab H.buffer.length cb, .slice sa H.sites.length sc] 33)).alloc (.cells #[.slice xa T.counts.length xc, .slice ya T.colors.length yc] 105)).alloc (.cells #[.slice none 0 0, .slice none 0 0] 105) := ⟨_, rfl⟩
  have BW : Below w.heap.size w W := by rw [hW]; exact (((Below.refl _ _).alloc (Nat.le_refl _) _).alloc (by simp) _).alloc (by simp; omega) _
  have hWs : W.heap.size = w.heap.size + 3 := by rw [hW]; simp
  have FR : Two W (w.heap.size + 2) (.slice none 0 0) (.slice none 0 0) := by
    have f := Two.new ((w.alloc (.cells #[.slice ao H.objs.length co, .slice aw H.weaks.length cw, .slice ab H.buffer.length cb, .slice sa H.sites.length sc] 33)).alloc (.cells #[.slice xa T.counts.length xc, .slice ya T.colors.length yc] 105)) (.slice none 0 0) (.slice none 0 0)
    rw [← hW] at f
    simpa using f
  have HFR : Hid (∀ X, Below W.heap.size W X → Two X (w.heap.size + 2) (.slice none 0 0) (.slice none 0 0)) := fun X hX => FR.later hX (by omega)
  have HBW : Hid (∀ X, Below W.heap.size W X → Below w.heap.size w X) := fun X hX => BW.trans (hX.mono BW.size)
  have HWs : Hid (W.heap.size = w.heap.size + 3) := hWs
  clear FR hWs hs hst hf
  go_enter Try.func68, Try.ntmps68
  go_wp2_with fail
  rw [← hW]
  clear hW
  refine (CT.out _ BW).mono ?_
  rintro e w1 ⟨s, rfl, M1, b1⟩
  have F1 := HFR.out _ b1
  have c0 : w1.cell? ⟨w.heap.size + 2, 0, none⟩ = some (.slice none 0 0) := F1.cell 0
  have c1 : w1.cell? ⟨w.heap.size + 2, 1, none⟩ = some (.slice none 0 0) := F1.cell 1
  have f0 := F1.frozen 0
  have f1 := F1.frozen 1
  obtain ⟨k0, k1⟩ := setTwo_cell (.slice s.a s.n s.c) (.slice s.b s.m s.d) F1
  have HT : Hid (TM (setTwo w1 (w.heap.size + 2) (.slice s.a s.n s.c) (.slice s.b s.m s.d)) w.heap.size s R) := by
    have hle : w.heap.size ≤ W.heap.size := by have := HWs.out; omega
    exact (M1.same (fun g hg _ => setTwo_other _ _ _ _ g (by have := HWs.out; omega))).mono hle
  have HB : Hid (Below w.heap.size w (setTwo w1 (w.heap.size + 2) (.slice s.a s.n s.c) (.slice s.b s.m s.d))) := by
    unfold setTwo
    exact ((HBW.out _ b1).setCell (by simp) _).setCell (by simp) _
  unfold setTwo at HT HB k0 k1
  clear F1 M1 BW b1 CT
  have hv : s.v = .agg #[.slice s.a s.n s.c, .slice s.b s.m s.d] := rfl
  rw [hv]
  go_wp2
  exact bodyPost_ret (v := .agg #[.slice s.a s.n s.c, .slice s.b s.m s.d]) (by simp [results, Try.results68, go_sem, *]) rfl ⟨s, rfl, HT.out, HB.out⟩

end Go.Proofs.Ytjhdnachbahbmaa

namespace Go.Proofs.Ytjhdnachbahbmaa
open Go.RowKit
set_option linter.unusedVariables false
set_option maxRecDepth 100000

theorem opIndexAt {t i j : Tmp} {ty : TypeId} {pos : String} {af : Array Edge} {a : Act} {X : World} {K : Act → World → Prop} {Q : Exit → Act → World → Prop} {g off n c k : Nat} (h1 : a.eval (.tmp i) = .slice (some ⟨g, off, none⟩) n c) (h2 : a.eval (.tmp j) = .int .i64 (k : Int)) (hk : k < n) (hK : K (a.put (some t) (.pointer (some ⟨g, off + k * 8, none⟩))) X) :
    Oper.wp Try.prog ⟨some t, .indexAddr 29 (.tmp i) (.tmp j), ty, pos, af, none⟩ a X K Q := by
  have e1 := ev_tmp h1
  have e2 := ev_tmp h2
  go_simp; exact hK
theorem opNew1 {t i : Tmp} {ty : TypeId} {pos : String} {af : Array Edge} {a : Act} {X : World} {K : Act → World → Prop} {Q : Exit → Act → World → Prop} {z : Int} (h1 : a.eval (.tmp i) = .int .i64 z) (hK : K (a.put (some t) (.slice (some ⟨X.heap.size, 0, none⟩) 1 1)) (X.alloc (.cells #[.int .i64 z] 3))) :
    Oper.wp Try.prog ⟨some t, .buildSlice 28 1 #[(0, .tmp i)], ty, pos, af, none⟩ a X K Q := by
  have e1 := ev_tmp h1
  go_simp; exact hK
theorem opStoreRow {i j : Tmp} {ty : TypeId} {pos : String} {af : Array Edge} {a : Act} {X : World} {K : Act → World → Prop} {Q : Exit → Act → World → Prop} {g p n c : Nat} {u : Value} {x : Option Addr} (h1 : a.eval (.tmp i) = .pointer (some ⟨g, p, none⟩)) (h2 : a.eval (.tmp j) = .slice x n c) (hc : X.cell? ⟨g, p, none⟩ = some u) (hf : X.frozen? ⟨g, p, none⟩ = false) (hK : K a (X.setCell ⟨g, p, none⟩ (.slice x n c))) :
    Oper.wp Try.prog ⟨none, .store 28 (.tmp i) (.tmp j), ty, pos, af, none⟩ a X K Q := by
  have e1 := ev_tmp h1
  have e2 := ev_tmp h2
  go_simp; exact hK
/-- append of one number onto a row of one's own, at a frame of which only what is read is known. -/
theorem wp_appendL {w : World} {o : Oper} {a : Act} {K : Act → World → Prop} {Q : Exit → Act → World → Prop} (s x : Operand)
    (ho : o.op = .call { callee := .builtin .append, args := #[s, x], argTypes := #[28, 28] }) (B : Nat) (v : Value) (P : List Int) (hs : a.eval s = v) (hown : ownI w B v P)
    (ad : Addr) (z : Int) (hx : a.eval x = .slice (some ad) 1 1) (hsrc : w.cell? ad = some (.int .i64 z)) (hlen : P.length ≤ 16777215) (hB : B ≤ w.heap.size)
    (h : ∀ v' w', ownI w' B v' (P ++ [z]) → w.heap.size ≤ w'.heap.size → (∀ i, i < w.heap.size → v.ownBlock ≠ some i → w'.heap[i]? = w.heap[i]?) → (v'.ownBlock = v.ownBlock ∨ v'.ownBlock = some w.heap.size) → (∀ C w0, Below C w0 w → C ≤ B → Below C w0 w') → K (a.put o.dst v') w') : o.wp Try.prog a w K Q := by
  obtain ⟨i0, hi, hz0, hz1, hz2⟩ := info_parts infoI
  have hlt := World.ownsRow.lt hown
  obtain ⟨v', w', hr, hown', hgrow, _, hat⟩ := run_append_own_at (P := Try.prog) w B 28 o.type 3 i0 (.int .i64 0) 1 8 Try.underlying28 hi hz0 hz1 hz2 rfl (by decide) v P.length (P.map intV) hown ad 1 1 [intV z] rfl
    (fun j u hj => by
      match j, hj with
      | 0, hj =>
        simp at hj
        subst hj
        rw [show ad.add 0 = ad from by cases ad; simp [Addr.add]]
        exact hsrc
      | j + 1, hj => simp at hj)
    (fun u hu => by simp at hu; subst hu; rfl) (by unfold maxLen; omega) (by omega) hB
  unfold Oper.wp execOp
  simp only [ho, resolve, invoke, builtin, Sem.run_bind, Sem.run_pure, Result.andThen_ok, List.map_toArray, List.map_cons, List.map_nil, hs, hx, hr]
  refine h v' w' ?_ hgrow.size (fun i hi hne => hgrow.block i hi (fun e => hne e.symm)) hat (fun C w0 hb hC => ?_)
  · unfold ownI
    rw [List.length_append, List.map_append]
    exact hown'
  · exact ⟨hgrow.os.trans hb.os, hgrow.tape.trans hb.tape, hgrow.output.trans hb.output, Nat.le_trans hb.size hgrow.size, fun k hk => (hgrow.block k (by omega) (fun e => by have := (hlt k e.symm).1; omega)).trans (hb.block k hk)⟩

/-- A trial's variable and its two rows, at and behind the variable's block. -/
structure TI (W wr : World) (gt : Nat) (vx vy : Value) (xs ys : List Int) : Prop where
  bel : Below gt W wr
  x : ownI wr (gt + 1) vx xs
  y : ownI wr (gt + 1) vy ys
  dif : Dif2 vx vy
  t : Two wr gt vx vy
/-- Another row of counts is laid into the variable. -/
theorem ti_x {W wr X : World} {gt : Nat} {vx vy vx' : Value} {xs ys xs' : List Int} (h : TI W wr gt vx vy xs ys) (hb : Below gt W X) (ht : Two X gt vx vy) (hy : ownI X (gt + 1) vy ys) (hx : ownI X (gt + 1) vx' xs') (hat : vx'.ownBlock = vx.ownBlock ∨ ∃ q, vx'.ownBlock = some q ∧ wr.heap.size ≤ q) : TI W (X.setCell ⟨gt, 0, none⟩ vx') gt vx' vy xs' ys := by
  have oth : ∀ g, g ≠ gt → (X.setCell ⟨gt, 0, none⟩ vx').heap[g]? = X.heap[g]? := fun g hg => heap_setCell_other _ _ _ _ (by exact hg)
  refine ⟨hb.setCell (Nat.le_refl _) _, ownI_same hx (fun g hg => oth g (by have := (ownI_lt hx g hg).1; omega)), ownI_same hy (fun g hg => oth g (by have := (ownI_lt hy g hg).1; omega)), fun g h1 h2 => ?_, ?_⟩
  · rcases hat with e | ⟨q, e, hq⟩
    · exact h.dif g (by rw [← e]; exact h1) h2
    · rw [e] at h1
      injection h1 with h1
      have := (ownI_lt h.y g h2).2
      omega
  · have ht' : X.heap[gt]? = some (.cells #[vx, vy] 105 (0, 0)) := ht
    show (X.setCell ⟨gt, 0, none⟩ vx').heap[gt]? = _
    simp [World.setCell, ht', Array.getElem?_modify]
theorem ti_y {W wr X : World} {gt : Nat} {vx vy vy' : Value} {xs ys ys' : List Int} (h : TI W wr gt vx vy xs ys) (hb : Below gt W X) (ht : Two X gt vx vy) (hx : ownI X (gt + 1) vx xs) (hy : ownI X (gt + 1) vy' ys') (hat : vy'.ownBlock = vy.ownBlock ∨ ∃ q, vy'.ownBlock = some q ∧ wr.heap.size ≤ q) : TI W (X.setCell ⟨gt, 1, none⟩ vy') gt vx vy' xs ys' := by
  have oth : ∀ g, g ≠ gt → (X.setCell ⟨gt, 1, none⟩ vy').heap[g]? = X.heap[g]? := fun g hg => heap_setCell_other _ _ _ _ (by exact hg)
  refine ⟨hb.setCell (Nat.le_refl _) _, ownI_same hx (fun g hg => oth g (by have := (ownI_lt hx g hg).1; omega)), ownI_same hy (fun g hg => oth g (by have := (ownI_lt hy g hg).1; omega)), fun g h1 h2 => ?_, ?_⟩
  · rcases hat with e | ⟨q, e, hq⟩
    · exact h.dif g h1 (by rw [← e]; exact h2)
    · rw [e] at h2
      injection h2 with h2
      have := (ownI_lt h.x g h1).2
      omega
  · have ht' : X.heap[gt]? = some (.cells #[vx, vy] 105 (0, 0)) := ht
    show (X.setCell ⟨gt, 1, none⟩ vy').heap[gt]? = _
    simp [World.setCell, ht', Array.getElem?_modify]

/-- What holds amid the counts' append. -/
structure TJ (W wr : World) (gt : Nat) (vx vy : Value) (xs ys : List Int) (dn : Nat → Prop) (X : World) : Prop where
  bel : Below gt W X
  t : Two X gt vx vy
  y : ownI X (gt + 1) vy ys
  ge : wr.heap.size ≤ X.heap.size
  x : ¬ dn 9 → ownI X (gt + 1) vx xs
theorem TJ.later {W wr X Y : World} {gt : Nat} {vx vy : Value} {xs ys : List Int} {dn : Nat → Prop} {i : Nat} (h : TJ W wr gt vx vy xs ys dn X) (hb : Below X.heap.size X Y) : TJ W wr gt vx vy xs ys (fun j => dn j ∨ j = i) Y :=
  ⟨h.bel.trans (hb.mono (Nat.le_of_lt h.t.lt)), h.t.same (hb.block gt h.t.lt), ownI_later h.y hb, Nat.le_trans h.ge hb.size, fun hn => ownI_later (h.x (fun h => hn (.inl h))) hb⟩
def RN (wr : World) (gt gh : Nat) (vx : Value) (xs : List Int) (g off n co k : Nat) (z : Int) : Nat → World → Value → Prop
  | 0, X, v => v = .pointer (some ⟨gt, 0, none⟩)
  | 1, X, v => v = vx
  | 2, X, v => v = .pointer (some ⟨gh, 0, none⟩)
  | 3, X, v => v = .slice (some ⟨g, off, none⟩) n co
  | 4, X, v => v = .int .i64 (k : Int)
  | 5, X, v => v = .pointer (some ⟨g, off + k * 8, none⟩)
  | 6, X, v => v = .pointer (some ⟨g, off + k * 8 + 5, none⟩)
  | 7, X, v => v = .int .i64 z
  | 8, X, v => ∃ q, v = .slice (some ⟨q, 0, none⟩) 1 1 ∧ wr.heap.size ≤ q ∧ X.heap[q]? = some (.cells #[.int .i64 z] 3 (0, 0))
  | 9, X, v => ownI X (gt + 1) v (xs ++ [z]) ∧ (v.ownBlock = vx.ownBlock ∨ ∃ q, v.ownBlock = some q ∧ wr.heap.size ≤ q)
  | 10, X, v => v = .pointer (some ⟨gt, 0, none⟩)
  | _, _, _ => True
theorem rn_mono {wr : World} {gt gh : Nat} {vx : Value} {xs : List Int} {g off n co k : Nat} {z : Int} (i : Nat) (X Y : World) (v : Value) (h : RN wr gt gh vx xs g off n co k z i X v) (hb : Below X.heap.size X Y) : RN wr gt gh vx xs g off n co k z i Y v := by
  match i, h with
  | 0, h => exact h
  | 1, h => exact h
  | 2, h => exact h
  | 3, h => exact h
  | 4, h => exact h
  | 5, h => exact h
  | 6, h => exact h
  | 7, h => exact h
  | 8, ⟨q, h1, h2, h3⟩ => exact ⟨q, h1, h2, (hb.block q (Array.getElem?_eq_some_iff.1 h3).1).trans h3⟩
  | 9, ⟨h1, h2⟩ => exact ⟨ownI_later h1 hb, h2⟩
  | 10, h => exact h
  | m + 11, _ => exact trivial
/-- The append leaves what the others yielded. -/
theorem rn_app {wr : World} {gt gh : Nat} {vx : Value} {xs : List Int} {g off n co k : Nat} {z : Int} (i : Nat) (hi : i ≠ 9) (X Y : World) (v : Value) (h : RN wr gt gh vx xs g off n co k z i X v) (hv : ∀ q, vx.ownBlock = some q → q < wr.heap.size) (oth : ∀ i, i < X.heap.size → vx.ownBlock ≠ some i → Y.heap[i]? = X.heap[i]?) : RN wr gt gh vx xs g off n co k z i Y v := by
  match i, h with
  | 0, h => exact h
  | 1, h => exact h
  | 2, h => exact h
  | 3, h => exact h
  | 4, h => exact h
  | 5, h => exact h
  | 6, h => exact h
  | 7, h => exact h
  | 8, ⟨q, h1, h2, h3⟩ => exact ⟨q, h1, h2, (oth q (Array.getElem?_eq_some_iff.1 h3).1 (fun e => by have := hv q e; omega)).trans h3⟩
  | 9, _ => exact absurd rfl hi
  | 10, h => exact h
  | m + 11, _ => exact trivial

/-- A new trial. -/
def trialNew (H : HeapD) : TrialD := ⟨(H.objs.take 8).map (·.count), (H.objs.take 8).map (fun _ => 0)⟩

theorem ti_start (W : World) : TI W (W.alloc (.cells #[.slice none 0 0, .slice none 0 0] 105)) W.heap.size (.slice none 0 0) (.slice none 0 0) [] [] :=
  ⟨(Below.refl _ _).alloc (Nat.le_refl _) _, ownI_nil _ _, ownI_nil _ _, fun g h => (by simp [Value.ownBlock] at h), heap_alloc_new W _⟩
theorem cnt_step (H : HeapD) (j : Nat) (h : j < H.objs.length) : (H.objs.take (j + 1)).map (·.count) = (H.objs.take j).map (·.count) ++ [H.objs[j].count] := by
  rw [List.take_succ_eq_append_getElem h, List.map_append]; rfl
theorem zer_step (H : HeapD) (j : Nat) (h : j < H.objs.length) : (H.objs.take (j + 1)).map (fun _ => (0 : Int)) = (H.objs.take j).map (fun _ => (0 : Int)) ++ [0] := by
  rw [List.take_succ_eq_append_getElem h, List.map_append]; rfl

end Go.Proofs.Ytjhdnachbahbmaa

namespace Go.Proofs.Ytjhdnachbahbmaa
open Go.RowKit
set_option linter.unusedVariables false
set_option maxRecDepth 100000

def grayF (H : HeapD) (T : TrialD) (id : Int) : TrialD := if 0 ≤ slotZ H id then paintT (-1) 1 H T (slotZ H id).toNat else T
def scanF (H : HeapD) (T : TrialD) (id : Int) : TrialD := if 0 ≤ slotZ H id then scanT H T (slotZ H id) else T
def suspG (H : HeapD) (j : Nat) : TrialD := (H.buffer.take j).foldl (grayF H) (trialNew H)
def suspS (H : HeapD) (j : Nat) : TrialD := (H.buffer.take j).foldl (scanF H) (suspG H H.buffer.length)
/-- The trial of all that is suspected. -/
def suspT (H : HeapD) : TrialD := suspS H H.buffer.length
theorem trialNew_eight (H : HeapD) (h8 : H.objs.length = 8) : Eight (trialNew H) := by
  unfold trialNew
  constructor <;> simp [h8]
theorem okT_of_slot (H : HeapD) (T : TrialD) (id : Int) (hT : Eight T) (h8 : H.objs.length = 8) : OkT H T (slotZ H id) ↔ 0 ≤ slotZ H id := by
  constructor
  · intro h; exact h.lo
  · intro h
    have hr := slotZ_range H id
    refine ⟨h8, hT.1, hT.2, h, hr.2, ?_⟩
    unfold slotZ at h ⊢
    split at h
    · omega
    · rename_i h1
      rw [if_neg h1]
      cases ho : H.objs[(id % 8).toNat]? with
      | none => rw [ho] at h; simp at h
      | some o =>
        rw [ho] at h
        simp only at h ⊢
        split at h
        · rename_i h2
          rw [if_pos h2]
          exact ⟨o, ho, h2.1⟩
        · omega
theorem grayF_eight (H : HeapD) (T : TrialD) (id : Int) (hT : Eight T) : Eight (grayF H T id) := by
  unfold grayF
  split
  · rename_i h
    exact paintT_eight _ _ _ _ _ hT (by have := slotZ_range H id; omega)
  · exact hT
theorem scanF_eight (H : HeapD) (hs : SmallH H) (T : TrialD) (id : Int) (hT : Eight T) : Eight (scanF H T id) := by
  unfold scanF
  split
  · rename_i h
    obtain ⟨k, hk⟩ : ∃ k : Nat, slotZ H id = (k : Int) := ⟨(slotZ H id).toNat, by omega⟩
    rw [hk]
    exact scanT_eight H hs T k hT (by have := slotZ_range H id; omega)
  · exact hT
theorem suspG_eight (H : HeapD) (h8 : H.objs.length = 8) : ∀ j, Eight (suspG H j) := by
  have key : ∀ (l : List Int) (T : TrialD), Eight T → Eight (l.foldl (grayF H) T) := by
    intro l
    induction l with
    | nil => intro T h; exact h
    | cons z r ih => intro T h; exact ih _ (grayF_eight H T z h)
  exact fun j => key _ _ (trialNew_eight H h8)
theorem suspS_eight (H : HeapD) (hs : SmallH H) (h8 : H.objs.length = 8) : ∀ j, Eight (suspS H j) := by
  have key : ∀ (l : List Int) (T : TrialD), Eight T → Eight (l.foldl (scanF H) T) := by
    intro l
    induction l with
    | nil => intro T h; exact h
    | cons z r ih => intro T h; exact ih _ (scanF_eight H hs T z h)
  exact fun j => key _ _ (suspG_eight H h8 _)
theorem suspG_step (H : HeapD) (j : Nat) (h : j < H.buffer.length) : suspG H (j + 1) = grayF H (suspG H j) H.buffer[j] := by
  unfold suspG
  rw [List.take_succ_eq_append_getElem h, List.foldl_append]; rfl
theorem suspS_step (H : HeapD) (j : Nat) (h : j < H.buffer.length) : suspS H (j + 1) = scanF H (suspS H j) H.buffer[j] := by
  unfold suspS
  rw [List.take_succ_eq_append_getElem h, List.foldl_append]; rfl
theorem suspG_zero (H : HeapD) : suspG H 0 = trialNew H := by simp [suspG]
theorem suspS_zero (H : HeapD) : suspS H 0 = suspG H H.buffer.length := by simp [suspS]

end Go.Proofs.Ytjhdnachbahbmaa

namespace Go.Proofs.Ytjhdnachbahbmaa
open Go.RowKit
set_option linter.unusedVariables false

theorem iInEdges_calls (v : Value) (H : HeapD) (s : Nat) (w : World) (h : RdH w v H) (hs : SmallH H) (h8 : s < 8) :
    Calls Try.prog 62 #[v, .int .i64 (s : Int)] w fun e w' => e = .returned (.int .i64 (inEdges H (s : Int))) ∧ Below w.heap.size w w' := by
  have HR0 : Hid (∀ X, Below w.heap.size w X → RdH X v H) := fun X hX => rdH_later h hX
  obtain ⟨ao, co, aw, cw, ab, cb, sa, sc, hv, ro, -, -, -⟩ := h
  have hn := hs.objs
  obtain ⟨W, hW⟩ : ∃ W, W = w.alloc (.cells #[.slice ao H.objs.length co, .slice aw H.weaks.length cw, .slice ab H.buffer.length cb, .slice sa H.sites.length sc] 33) := ⟨_, rfl⟩
  have BW : Below w.heap.size w W := by rw [hW]; exact (Below.refl _ _).alloc (Nat.le_refl _) _
  have hWs : W.heap.size = w.heap.size + 1 := by rw [hW]; simp
  by_cases hl : NoLive H (s : Int)
  · have HE : Hid (inEdges H (s : Int) = 0) := by
      show _ = _
      unfold inEdges
      rw [if_pos (by omega)]
      rcases hl with h1 | h1 | h1
      · omega
      · omega
      · cases ho : H.objs[((s : Int)).toNat]? with
        | none => rfl
        | some o => simp only; rw [if_neg (by rw [h1 o ho]; simp)]
    have CL : Hid (∀ X, Below w.heap.size w X → _) := fun X hX => liveIn_no v H (s : Int) X (HR0.out X hX) hn hl
    subst hv
    clear ro hl HR0
    go_enter Try.func62, Try.ntmps62
    go_wp2_with fail
    rw [← hW]
    clear hW hWs
    refine (CL.out _ BW).mono ?_
    rintro e w1 ⟨rfl, b1⟩
    have B1 := BW.trans (b1.mono BW.size)
    go_wp2
    go_ret
    exact ⟨ret_zz HE.out.symm, B1⟩
  · have hlen : s < H.objs.length := by
      apply Classical.byContradiction
      intro hc
      exact hl (.inr (.inr (fun o ho => by rw [List.getElem?_eq_none (by omega)] at ho; cases ho)))
    have hlive : H.objs[s].live = true := by
      apply Classical.byContradiction
      intro hc
      refine hl (.inr (.inr (fun o ho => ?_)))
      rw [show ((s : Int)).toNat = s from by omega, List.getElem?_eq_getElem hlen] at ho
      injection ho with ho
      rw [← ho]
      simpa using hc
    obtain ⟨g, off, f, fc, hg, hc, -, CL⟩ := liveIn_yes v H s W (HR0.out W BW) hn h8 hlen hlive
    have HE : Hid (inEdges H (s : Int) = (inE (idZ (s : Int) H.objs[s].gen) H.objs : Int)) := by
      show _ = _
      unfold inEdges
      rw [if_pos (by omega), show ((s : Int)).toNat = s from by omega, List.getElem?_eq_getElem hlen]
      simp only
      rw [if_pos hlive]
    have HC1 : Hid (∀ X, Below W.heap.size W X → X.cell? ⟨g, off + s * 8 + 1, none⟩ = some (.int .i64 H.objs[s].gen)) := fun X hX => (hX.cell (p := ⟨g, off + s * 8 + 1, none⟩) hg).trans hc.c1
    have CID : Hid (∀ X, _) := fun X => iIdOf_calls (s : Int) H.objs[s].gen X
    clear hc hlive
    generalize H.objs[s].gen = og at *
    rw [HE.out]
    generalize idZ (s : Int) og = id at *
    have HS : Hid (∀ (j : Nat) (h : j < H.objs.length), inE id (H.objs.take (j + 1)) = inE id (H.objs.take j) + inO id H.objs[j]) := fun j h => inE_succ id H.objs j h
    have HL : Hid (∀ j, inE id (H.objs.take j) ≤ 1048576 * 1048576) := by
      intro j
      have h1 := inE_le id (H.objs.take j) 1048576 (fun z hz => hs.fields z (List.mem_of_mem_take hz))
      have h2 : (H.objs.take j).length ≤ 1048576 := by rw [List.length_take]; have := hs.objs; omega
      exact Nat.le_trans h1 (Nat.mul_le_mul_right _ h2)
    have HF : Hid (∀ z ∈ H.objs, z.field.length ≤ 1048576) := hs.fields
    have HW : Hid (inE id (H.objs.take H.objs.length) = inE id H.objs) := by show _ = _; rw [List.take_length]
    have HRO : Hid (∀ X, Below W.heap.size W X → RdO X ao H.objs) := fun X hX => rdO_later (rdO_later ro BW) hX
    have HP0 : Hid (∀ X, Below W.heap.size W X → X.cell? ⟨w.heap.size, 0, none⟩ = some (.slice ao H.objs.length co)) := fun X hX => by
      obtain ⟨k0, -⟩ := four_kept w 33 (.slice ao H.objs.length co) (.slice aw H.weaks.length cw) (.slice ab H.buffer.length cb) (.slice sa H.sites.length sc) X (by rw [hWs, hW] at hX; exact hX)
      exact k0
    obtain ⟨n, hnn⟩ : ∃ n, H.objs.length = n := ⟨_, rfl⟩
    have Hn : Hid (H.objs.length = n) := hnn
    have HB : Hid (Below w.heap.size w W) := BW
    rw [hnn] at hn HP0 HW hW hv
    subst hv
    clear ro hl hs hnn hWs BW HR0 HE
    go_enter Try.func62, Try.ntmps62
    go_wp2_with fail
    rw [← hW]
    clear hW
    refine (CL.out _ (Below.refl _ _)).mono ?_
    rintro e w1 ⟨rfl, b1⟩
    have c1 := HC1.out _ b1
    have hp := HP0.out _ b1
    go_wp2_with fail
    refine (CID.out _).mono ?_
    rintro e w2 ⟨rfl, hw2⟩
    subst hw2
    go_wp2
    clear c1 hp
    go_loopw [7, 24] (fun x i wr => ∃ j : Nat, j ≤ n ∧ i = .int .i64 j ∧ x = .int .i64 (inE id (H.objs.take j) : Int) ∧ Below W.heap.size W wr) (fun _ i _ => n - (intOf i).toNat)
    case atStart => exact ⟨0, by omega, rfl, by simp [inE], b1⟩
    case round =>
      obtain ⟨j, hj, rfl, rfl, hb⟩ := hrel
      by_cases hlt : j < n
      · have hj2 : j < H.objs.length := by have := Hn.out; omega
        obtain ⟨gj, offj, fj, fcj, rfl, hgj, hcj, hrj⟩ := HRO.out _ hb j hj2
        obtain ⟨o, ho⟩ : ∃ o, H.objs[j] = o := ⟨_, rfl⟩
        have HS2 : Hid (_ = _) := HS.out j hj2
        have hfl := HF.out _ (List.getElem_mem hj2)
        have hbd := HL.out j
        rw [ho] at hcj hrj HS2 hfl
        clear ho
        obtain ⟨ol, og2, os1, oh, orr, oc, ofl, op⟩ := o
        obtain ⟨c0, c1, c2, c3, c4, c5, c6, c7⟩ := hcj
        simp only at c0 c1 c2 c3 c4 c5 c6 c7 HS2 hfl hrj
        have bV : Below wr.heap.size wr (wr.alloc (.cells #[.bool ol, .int .i64 og2, .int .i64 os1, .int .i64 oh, .int .i64 orr, .int .i64 oc, .slice fj ofl.length fcj, .bool op] 50)) := (Below.refl _ _).alloc (Nat.le_refl _) _
        have HBV : Hid (Below W.heap.size W (wr.alloc (.cells #[.bool ol, .int .i64 og2, .int .i64 os1, .int .i64 oh, .int .i64 orr, .int .i64 oc, .slice fj ofl.length fcj, .bool op] 50))) := hb.trans (bV.mono hb.size)
        generalize inE id (H.objs.take j) = N at *
        cases ol with
        | false =>
          have HT : Hid (inE id (H.objs.take (j + 1)) = N) := by show _ = _; rw [HS2.out]; simp [inO]
          clear hrj bV
          go_wp2
          go_roundw
          case rel => exact ⟨j + 1, by omega, by go_num, by rw [HT.out], HBV.out⟩
          case measure => simp [intOf]; omega
        | true =>
          have HT : Hid (inE id (H.objs.take (j + 1)) = N + ofl.count id) := by show _ = _; rw [HS2.out]; simp [inO]
          have CT : Hid (∀ u : Unit, _) := fun (_ : Unit) => timesIn_calls _ fj fcj ofl id (rdI_later hrj bV) hfl
          have hcl : ofl.count id ≤ 1048576 := Nat.le_trans List.count_le_length hfl
          clear hrj bV
          generalize ofl.count id = M at *
          go_wp2_with fail
          refine (CT.out ()).mono ?_
          rintro e w3 ⟨rfl, hw3⟩
          have B3 : Below W.heap.size W w3 := by rw [hw3]; exact HBV.out
          clear hw3
          go_wp2
          go_roundw
          case rel => exact ⟨j + 1, by omega, by go_num, by rw [HT.out]; go_num, B3⟩
          case measure => simp [intOf]; omega
      · obtain rfl : j = n := by omega
        go_wp2
        go_ret
        exact ⟨ret_zz (by rw [HW.out]), HB.out.trans (hb.mono HB.out.size)⟩

end Go.Proofs.Ytjhdnachbahbmaa

namespace Go.Proofs.Ytjhdnachbahbmaa
open Go.RowKit
set_option linter.unusedVariables false

theorem mem_take {α : Type} (zs : List α) (i : Nat) (x : α) : x ∈ zs.take i ↔ ∃ k, ∃ (h : k < zs.length), k < i ∧ zs[k] = x := by
  constructor
  · intro h
    obtain ⟨k, hk, e⟩ := List.mem_iff_getElem.1 h
    rw [List.length_take] at hk
    exact ⟨k, by omega, by omega, by rw [List.getElem_take] at e; exact e⟩
  · rintro ⟨k, h1, h2, e⟩
    exact List.mem_iff_getElem.2 ⟨k, by rw [List.length_take]; omega, by rw [List.getElem_take]; exact e⟩

/-- Names as they are wanted: at most m of them, none shorter than l, no two alike. -/
def NamesIn (m l : Nat) (zs : List (List UInt8)) : Prop := zs.length ≤ m ∧ ∀ i (h : i < zs.length), (l ≤ zs[i].length ∧ zs[i].length ≤ 8) ∧ zs[i] ∉ zs.take i
/-- A heap's names as they are wanted, those behind the sixth too. -/
def NamesOk (zs : List (List UInt8)) : Prop := zs.length ≤ 6 ∧ ∀ i (h : i < zs.length), (1 ≤ zs[i].length ∧ zs[i].length ≤ 8) ∧ zs[i] ∉ zs.take i

theorem namesOk_calls (m l : Nat) (hm0 : m ≤ 400) (hl0 : l ≤ 8) (w : World) (a : Option Addr) (cap : Nat) (zs : List (List UInt8)) (h : RdS w a zs) (hcap : zs.length ≤ cap) (hn : zs.length ≤ 1048576) (hnm : ∀ z ∈ zs, z.length ≤ 1048576) (b : Bool) (hb : b = true ↔ NamesIn m l zs) :
    Calls Try.prog 31 #[.slice a zs.length cap, .int .i64 (m : Int), .int .i64 (l : Int)] w fun e w' => e = .returned (.bool b) ∧ w' = w := by
  have HNO : Hid (¬ NamesIn m l zs → b = false) := fun hn => by cases b with | false => rfl | true => exact absurd (hb.1 rfl) hn
  have HY : Hid (NamesIn m l zs → b = true) := hb.2
  clear hb
  by_cases h6 : m < zs.length
  · have hb0 := HNO.out (fun ok => by have := ok.1; omega)
    subst hb0
    clear h hnm
    go_enter Try.func31, Try.ntmps31
    go_wp2
    go_ret
    exact ⟨rfl, rfl⟩
  · have HA : Hid (RdS w a zs) := h
    have HM : Hid (∀ z ∈ zs, z.length ≤ 1048576) := hnm
    have h7 : zs.length ≤ m := by omega
    have HNX : Hid (∀ i (h : i < zs.length), ¬ ((l ≤ zs[i].length ∧ zs[i].length ≤ 8) ∧ zs[i] ∉ zs.take i) → b = false) := fun i hi hn => HNO.out (fun ok => hn (ok.2 i hi))
    have HY2 : Hid ((∀ i (h : i < zs.length), (l ≤ zs[i].length ∧ zs[i].length ≤ 8) ∧ zs[i] ∉ zs.take i) → b = true) := fun hh => HY.out ⟨h7, hh⟩
    have HTK : Hid (∀ j, j ≤ zs.length → (zs.take j).length = j) := fun j hj => by rw [List.length_take]; omega
    have HRT : Hid (∀ j, RdS w a (zs.take j)) := fun j i hi => by
      have hi2 : i < zs.length := by rw [List.length_take] at hi; omega
      obtain ⟨g', off', e1, e2, e3⟩ := HA.out i hi2
      exact ⟨g', off', e1, e2, by rw [List.getElem_take]; exact e3⟩
    obtain ⟨n, hnn⟩ : ∃ n, zs.length = n := ⟨_, rfl⟩
    have Hn : Hid (zs.length = n) := hnn
    rw [hnn] at hn hcap h7 h6 ⊢
    clear h hnm HNO HY hnn
    go_enter Try.func31, Try.ntmps31
    go_wp2
    go_loop [15] (fun i => ∃ j : Nat, j ≤ n ∧ i = .int .i64 j ∧ Hid (∀ i (h : i < zs.length), i < j → (l ≤ zs[i].length ∧ zs[i].length ≤ 8) ∧ zs[i] ∉ zs.take i)) (fun i => n - (intOf i).toNat)
    case atStart => exact ⟨0, by omega, rfl, fun i _ h => absurd h (by omega)⟩
    case round =>
      obtain ⟨j, hj, rfl, HJ⟩ := hrel
      by_cases hlt : j < n
      · have hj2 : j < zs.length := by have := Hn.out; omega
        obtain ⟨g, off, rfl, -, hc⟩ := HA.out j hj2
        have HX : Hid (¬ ((l ≤ zs[j].length ∧ zs[j].length ≤ 8) ∧ zs[j] ∉ zs.take j) → b = false) := HNX.out j hj2
        have HZ : Hid (((l ≤ zs[j].length ∧ zs[j].length ≤ 8) ∧ zs[j] ∉ zs.take j) → ∀ i (h : i < zs.length), i < j + 1 → (l ≤ zs[i].length ∧ zs[i].length ≤ 8) ∧ zs[i] ∉ zs.take i) := fun ho i hi hl => by
          rcases Nat.lt_or_ge i j with h3 | h3
          · exact HJ.out i hi h3
          · obtain rfl : i = j := by omega
            exact ho
        have hxl := HM.out _ (List.getElem_mem hj2)
        have htk := HTK.out j (by have := Hn.out; omega)
        have CH : Hid (∀ c, _) := fun c => hasStr_calls w (some ⟨g, off, none⟩) c (zs.take j) zs[j] (HRT.out j) (by rw [htk]; omega)
        rw [htk] at CH
        obtain ⟨x, hx⟩ : ∃ x, zs[j] = x := ⟨_, rfl⟩
        rw [hx] at hc HX HZ hxl CH
        clear hx htk
        have hsz : (txt x).size = x.length := rfl
        have i2 : (j : Int) ≤ (cap : Int) := by omega
        generalize hL : x.length = L at *
        by_cases hl8 : l ≤ L ∧ L ≤ 8
        · by_cases hm : x ∈ zs.take j
          · have hb0 := HX.out (fun hh => hh.2 hm)
            subst hb0
            rw [decide_eq_true hm] at CH
            go_wp2_with fail
            refine (within_yes (L : Int) (l : Int) 8 _ (by omega) (by omega)).mono ?_
            rintro e V ⟨rfl, hV⟩
            subst hV
            go_wp2_with fail
            refine (CH.out _).mono ?_
            rintro e V2 ⟨rfl, hV2⟩
            subst hV2
            go_wp2
            go_ret
            exact ⟨rfl, rfl⟩
          · have HFIN : Hid _ := HZ.out ⟨hl8, hm⟩
            rw [decide_eq_false hm] at CH
            go_wp2_with fail
            refine (within_yes (L : Int) (l : Int) 8 _ (by omega) (by omega)).mono ?_
            rintro e V ⟨rfl, hV⟩
            subst hV
            go_wp2_with fail
            refine (CH.out _).mono ?_
            rintro e V2 ⟨rfl, hV2⟩
            subst hV2
            go_wp2
            go_round
            case rel => exact ⟨j + 1, by omega, by go_num, HFIN⟩
            case measure => simp [intOf]; omega
        · have hb0 := HX.out (fun hh => hl8 hh.1)
          subst hb0
          go_wp2_with fail
          refine (within_no (L : Int) (l : Int) 8 _ (by omega)).mono ?_
          rintro e V ⟨rfl, hV⟩
          subst hV
          go_wp2
          go_ret
          exact ⟨rfl, rfl⟩
      · have ej : n ≤ j := by omega
        have hb1 := HY2.out (fun i hi => HJ.out i hi (by have := Hn.out; omega))
        subst hb1
        go_wp2
        go_ret
        exact ⟨rfl, rfl⟩

theorem sitesOk_calls (w : World) (a : Option Addr) (cap : Nat) (zs : List (List UInt8)) (h : RdS w a zs) (hcap : zs.length ≤ cap) (hn : zs.length ≤ 1048576) (hnm : ∀ z ∈ zs, z.length ≤ 1048576) (b : Bool) (hb : b = true ↔ NamesOk zs) :
    Calls Try.prog 31 #[.slice a zs.length cap, .int .i64 6, .int .i64 1] w fun e w' => e = .returned (.bool b) ∧ w' = w :=
  namesOk_calls 6 1 (by omega) (by omega) w a cap zs h hcap hn hnm b hb

/-- The ids kept aside, as they are wanted. -/
def BufOk (H : HeapD) : Prop := H.buffer.length ≤ 8 ∧ ∀ i (h : i < H.buffer.length), okB H i H.buffer[i]

theorem bufferOk_calls (v : Value) (H : HeapD) (w : World) (h : RdH w v H) (hcap : CapH v) (hs : SmallH H) (hf : WfH H) (b : Bool) (hb : b = true ↔ BufOk H) :
    Calls Try.prog 32 #[v] w fun e w' => e = .returned (.bool b) ∧ Below w.heap.size w w' := by
  have HR0 : Hid (∀ X, Below w.heap.size w X → RdH X v H) := fun X hX => rdH_later h hX
  obtain ⟨ao, co, aw, cw, ab, cb, sa, sc, rfl, ro, rwk, ri, rs⟩ := h
  have hcb : H.buffer.length ≤ cb := by
    obtain ⟨a0, n0, k0, a1, n1, k1, a2, n2, k2, a3, n3, k3, e, h0, h1, h2, h3⟩ := hcap
    simp only [Value.agg.injEq, Array.mk.injEq, List.cons.injEq, Value.slice.injEq] at e
    obtain ⟨-, -, ⟨-, e1, e2⟩, -⟩ := e
    omega
  have HNO : Hid (¬ BufOk H → b = false) := fun hn => by cases b with | false => rfl | true => exact absurd (hb.1 rfl) hn
  have HY : Hid (BufOk H → b = true) := hb.2
  have l0 := hs.objs
  have l2 := hs.buffer
  obtain ⟨W, hW⟩ : ∃ W, W = w.alloc (.cells #[.slice ao H.objs.length co, .slice aw H.weaks.length cw, .slice ab H.buffer.length cb, .slice sa H.sites.length sc] 33) := ⟨_, rfl⟩
  have BW : Below w.heap.size w W := by rw [hW]; exact (Below.refl _ _).alloc (Nat.le_refl _) _
  have hWs : W.heap.size = w.heap.size + 1 := by rw [hW]; simp
  have HK : Hid (∀ X, Below W.heap.size W X → _) := fun X (hX : Below W.heap.size W X) => four_kept w 33 (.slice ao H.objs.length co) (.slice aw H.weaks.length cw) (.slice ab H.buffer.length cb) (.slice sa H.sites.length sc) X (by rw [hWs, hW] at hX; exact hX)
  have HRI : Hid (∀ X, Below W.heap.size W X → RdI X ab H.buffer) := fun X hX => rdI_later (rdI_later ri BW) hX
  clear hb ro rwk ri rs hcap
  by_cases h8 : 8 < H.buffer.length
  · have hb0 := HNO.out (fun ok => by have := ok.1; omega)
    subst hb0
    go_enter Try.func32, Try.ntmps32
    go_wp2
    go_ret
    exact ⟨rfl, (Below.refl _ _).alloc (Nat.le_refl _) _⟩
  · have h9 : H.buffer.length ≤ 8 := by omega
    have HNX : Hid (∀ i (h : i < H.buffer.length), ¬ okB H i H.buffer[i] → b = false) := fun i hi hn => HNO.out (fun ok => hn (ok.2 i hi))
    have HY2 : Hid ((∀ i (h : i < H.buffer.length), okB H i H.buffer[i]) → b = true) := fun hh => HY.out ⟨h9, hh⟩
    have CS : Hid (∀ X (z : Int), Below W.heap.size W X → in64 z → _) := fun X z hX hz => iSlotOf_calls (.agg #[.slice ao H.objs.length co, .slice aw H.weaks.length cw, .slice ab H.buffer.length cb, .slice sa H.sites.length sc]) H z X (HR0.out X (BW.trans (hX.mono BW.size))) hs.objs hz.1 hz.2
    have HF : Hid (∀ z ∈ H.buffer, in64 z) := hf.buffer
    have HB : Hid (Below w.heap.size w W) := BW
    obtain ⟨n, hnn⟩ : ∃ n, H.buffer.length = n := ⟨_, rfl⟩
    have Hn : Hid (H.buffer.length = n) := hnn
    obtain ⟨k0, k1, k2, k3⟩ := HK.out _ (Below.refl _ _)
    rw [hnn] at hcb h8 h9 l2 hW HK CS k2 ⊢
    clear hs hf HNO HY HR0 hnn BW hWs
    go_enter Try.func32, Try.ntmps32
    go_wp2
    rw [← hW]
    clear hW k0 k1 k2 k3
    go_loopw [12] (fun i X => ∃ j : Nat, j ≤ n ∧ i = .int .i64 j ∧ Below W.heap.size W X ∧ Hid (∀ i (h : i < H.buffer.length), i < j → okB H i H.buffer[i])) (fun i _ => n - (intOf i).toNat)
    case atStart => exact ⟨0, by omega, rfl, Below.refl _ _, fun i _ h => absurd h (by omega)⟩
    case round =>
      obtain ⟨j, hj, rfl, hb, HJ⟩ := hrel
      by_cases hlt : j < n
      · have hj2 : j < H.buffer.length := by have := Hn.out; omega
        obtain ⟨g, off, rfl, -, hc⟩ := HRI.out _ hb j hj2
        have HX : Hid (¬ okB H j H.buffer[j] → b = false) := HNX.out j hj2
        have HZ : Hid (okB H j H.buffer[j] → ∀ i (h : i < H.buffer.length), i < j + 1 → okB H i H.buffer[i]) := fun ho i hi hl => by
          rcases Nat.lt_or_ge i j with h3 | h3
          · exact HJ.out i hi h3
          · obtain rfl : i = j := by omega
            exact ho
        have htk : (H.buffer.take j).length = j := by rw [List.length_take]; omega
        have HRT : Hid (∀ X, Below W.heap.size W X → RdI X (some ⟨g, off, none⟩) (H.buffer.take j)) := fun X hX i hi => by
          have hi2 : i < H.buffer.length := by rw [htk] at hi; omega
          obtain ⟨g', off', e1, e2, e3⟩ := HRI.out X hX i hi2
          exact ⟨g', off', e1, e2, by rw [List.getElem_take]; exact e3⟩
        have CH : Hid (∀ X c, Below W.heap.size W X → _) := fun X c hX => hasInt_calls X (some ⟨g, off, none⟩) c (H.buffer.take j) H.buffer[j] (HRT.out X hX) (by rw [htk]; omega)
        have CS2 : Hid (∀ u : Unit, _) := fun (_ : Unit) => CS.out wr H.buffer[j] hb (HF.out _ (List.getElem_mem hj2))
        rw [htk] at CH
        obtain ⟨x, hx⟩ : ∃ x, H.buffer[j] = x := ⟨_, rfl⟩
        rw [hx] at hc HX HZ CH CS2
        clear hx htk
        have i2 : (j : Int) ≤ (cb : Int) := by omega
        obtain ⟨k0, k1, k2, k3⟩ := HK.out _ hb
        by_cases hsl : slotZ H x < 0
        · have hb0 := HX.out (fun hh => by have := hh.1; omega)
          subst hb0
          clear HX HZ
          generalize slotZ H x = sl at *
          go_wp2_with fail
          refine (CS2.out ()).mono ?_
          rintro e w1 ⟨rfl, b1⟩
          have B1 := hb.trans (b1.mono hb.size)
          go_wp2
          go_ret
          exact ⟨rfl, HB.out.trans (B1.mono HB.out.size)⟩
        · have hsl2 : 0 ≤ slotZ H x := by omega
          by_cases hm : x ∈ H.buffer.take j
          · have hb0 := HX.out (fun hh => hh.2 hm)
            subst hb0
            rw [decide_eq_true hm] at CH
            clear HX HZ
            generalize slotZ H x = sl at *
            go_wp2_with fail
            refine (CS2.out ()).mono ?_
            rintro e w1 ⟨rfl, b1⟩
            have B1 := hb.trans (b1.mono hb.size)
            clear k0 k1 k2 k3
            obtain ⟨k0, k1, k2, k3⟩ := HK.out _ B1
            go_wp2_with fail
            refine (CH.out _ _ B1).mono ?_
            rintro e w2 ⟨rfl, hw2⟩
            subst hw2
            go_wp2
            go_ret
            exact ⟨rfl, HB.out.trans (B1.mono HB.out.size)⟩
          · have HFIN : Hid _ := HZ.out ⟨hsl2, hm⟩
            rw [decide_eq_false hm] at CH
            clear HX HZ
            generalize slotZ H x = sl at *
            go_wp2_with fail
            refine (CS2.out ()).mono ?_
            rintro e w1 ⟨rfl, b1⟩
            have B1 := hb.trans (b1.mono hb.size)
            clear k0 k1 k2 k3
            obtain ⟨k0, k1, k2, k3⟩ := HK.out _ B1
            go_wp2_with fail
            refine (CH.out _ _ B1).mono ?_
            rintro e w2 ⟨rfl, hw2⟩
            subst hw2
            go_wp2
            go_roundw
            case rel => exact ⟨j + 1, by omega, by go_num, B1, HFIN⟩
            case measure => simp [intOf]; omega
      · have ej : n ≤ j := by omega
        have hb1 := HY2.out (fun i hi => HJ.out i hi (by have := Hn.out; omega))
        subst hb1
        go_wp2
        go_ret
        exact ⟨rfl, HB.out.trans (hb.mono HB.out.size)⟩

theorem weakWrong_calls (d : WeakD) (w : World) (b : Bool) (hb : b = true ↔ okW d) :
    Calls Try.prog 37 #[.agg #[.bool d.used, .int .i64 d.target]] w fun e w' => e = .returned (.bool (!b)) ∧ Below w.heap.size w w' := by
  obtain ⟨du, dt⟩ := d
  simp only
  have hbn : ¬ okW ⟨du, dt⟩ → b = false := fun hn => by cases b with | false => rfl | true => exact absurd (hb.1 rfl) hn
  cases du with
  | false =>
    by_cases hz : dt = 0
    · have e : b = true := hb.2 ⟨fun _ => hz, fun h => by cases h⟩
      subst e hz
      clear hb hbn
      go_enter Try.func37, Try.ntmps37
      go_wp2
      go_ret
      exact ⟨rfl, (Below.refl _ _).alloc (Nat.le_refl _) _⟩
    · have e := hbn (fun h => hz (h.1 rfl))
      subst e
      have hq : (dt != 0) = true := by rw [bne_iff_ne]; exact hz
      clear hb hbn
      go_enter Try.func37, Try.ntmps37
      go_wp2
      go_ret
      exact ⟨ret_bb (by first | rfl | (rw [hq]; rfl)), (Below.refl _ _).alloc (Nat.le_refl _) _⟩
  | true =>
    by_cases hz : 8 ≤ dt ∧ dt ≤ 7999
    · have e : b = true := hb.2 ⟨fun h => (by cases h), fun _ => hz⟩
      subst e
      clear hb hbn
      go_enter Try.func37, Try.ntmps37
      go_wp2_with fail
      refine (within_yes dt 8 7999 _ hz.1 hz.2).mono ?_
      rintro e V ⟨rfl, hV⟩
      have BV : Below w.heap.size w V := by rw [hV]; exact (Below.refl _ _).alloc (Nat.le_refl _) _
      clear hV
      go_wp2
      go_ret
      exact ⟨rfl, BV⟩
    · have e := hbn (fun h => hz (h.2 rfl))
      subst e
      clear hb hbn
      go_enter Try.func37, Try.ntmps37
      go_wp2_with fail
      refine (within_no dt 8 7999 _ (by omega)).mono ?_
      rintro e V ⟨rfl, hV⟩
      have BV : Below w.heap.size w V := by rw [hV]; exact (Below.refl _ _).alloc (Nat.le_refl _) _
      clear hV
      go_wp2
      go_ret
      exact ⟨rfl, BV⟩

end Go.Proofs.Ytjhdnachbahbmaa

namespace Go.Proofs.Ytjhdnachbahbmaa
open Go.RowKit
set_option linter.unusedVariables false

end Go.Proofs.Ytjhdnachbahbmaa

namespace Go.Proofs.Ytjhdnachbahbmaa
open Go.RowKit
set_option linter.unusedVariables false

/-- What Count is in a right heap, in ints that wrap. -/
def madeZ (H : HeapD) (s : Int) (o : ObjD) : Int := IntKind.i64.wrap (IntKind.i64.wrap (o.holds + o.roots) + inEdges H s)

set_option maxRecDepth 100000 in
set_option maxHeartbeats 4000000 in
theorem countMade_calls (v : Value) (H : HeapD) (s : Nat) (o : ObjD) (w : World) (h : RdH w v H) (hs : SmallH H) (h8 : s < 8) (g p : Nat) (f : Option Addr) (fc : Nat) (hg : g < w.heap.size) (hc : ObjAt w g p o (.slice f o.field.length fc)) :
    Calls Try.prog 53 #[v, .int .i64 (s : Int), .pointer (some ⟨g, p, none⟩)] w fun e w' => e = .returned (.int .i64 (madeZ H (s : Int) o)) ∧ Below w.heap.size w w' := by
  have HR0 : Hid (∀ X, Below w.heap.size w X → RdH X v H) := fun X hX => rdH_later h hX
  obtain ⟨ao, co, aw, cw, ab, cb, sa, sc, rfl, ro, rwk, ri, rs⟩ := h
  obtain ⟨W, hW⟩ : ∃ W, W = w.alloc (.cells #[.slice ao H.objs.length co, .slice aw H.weaks.length cw, .slice ab H.buffer.length cb, .slice sa H.sites.length sc] 33) := ⟨_, rfl⟩
  have BW : Below w.heap.size w W := by rw [hW]; exact (Below.refl _ _).alloc (Nat.le_refl _) _
  have hWs : W.heap.size = w.heap.size + 1 := by rw [hW]; simp
  have HK : Hid (∀ X, Below W.heap.size W X → _) := fun X (hX : Below W.heap.size W X) => four_kept w 33 (.slice ao H.objs.length co) (.slice aw H.weaks.length cw) (.slice ab H.buffer.length cb) (.slice sa H.sites.length sc) X (by rw [hWs, hW] at hX; exact hX)
  have HOB : Hid (∀ X, Below W.heap.size W X → ObjAt X g p o (.slice f o.field.length fc)) := fun X hX => (hc.keep (fun k => BW.cell (p := ⟨g, k, none⟩) hg)).keep (fun k => hX.cell (p := ⟨g, k, none⟩) (Nat.lt_of_lt_of_le hg BW.size))
  have HB : Hid (∀ X, Below W.heap.size W X → Below w.heap.size w X) := fun X hX => BW.trans (hX.mono BW.size)
  have CE2 : Hid (∀ X : LaterW W, _) := fun X => iInEdges_calls _ H s X.on (HR0.out X.on (BW.trans (X.bel.mono BW.size))) hs h8
  have HM : Hid (madeZ H (s : Int) o = IntKind.i64.wrap (IntKind.i64.wrap (o.holds + o.roots) + inEdges H (s : Int))) := rfl
  generalize madeZ H (s : Int) o = M at *
  generalize inEdges H (s : Int) = E at *
  obtain ⟨ol, og, ost, oh, orr, oc, ofl, op⟩ := o
  simp only at *
  have hne := LaterW.some_ W
  have z3 : ∀ X : LaterW W, X.on.cell? ⟨g, p + 3, none⟩ = some (.int .i64 oh) := fun X => (HOB.out _ X.bel).c3
  have z4 : ∀ X : LaterW W, X.on.cell? ⟨g, p + 4, none⟩ = some (.int .i64 orr) := fun X => (HOB.out _ X.bel).c4
  have y0 : ∀ X : LaterW W, X.on.cell? ⟨w.heap.size, 0, none⟩ = some (.slice ao H.objs.length co) := fun X => (HK.out _ X.bel).1
  have y1 : ∀ X : LaterW W, X.on.cell? ⟨w.heap.size, 1, none⟩ = some (.slice aw H.weaks.length cw) := fun X => (HK.out _ X.bel).2.1
  have y2 : ∀ X : LaterW W, X.on.cell? ⟨w.heap.size, 2, none⟩ = some (.slice ab H.buffer.length cb) := fun X => (HK.out _ X.bel).2.2.1
  have y3 : ∀ X : LaterW W, X.on.cell? ⟨w.heap.size, 3, none⟩ = some (.slice sa H.sites.length sc) := fun X => (HK.out _ X.bel).2.2.2
  obtain ⟨S, hS⟩ : ∃ S, IntKind.i64.wrap (oh + orr) = S := ⟨_, rfl⟩
  rw [hS] at HM
  have hM : IntKind.i64.wrap (S + E) = M := HM.out.symm
  clear ro rwk ri rs hs HR0 hc hWs HM
  go_enter Try.func53, Try.ntmps53
  go_wp2
  rw [← hW]
  clear hW
  refine wp_region_later W (Below.refl _ _) (by kernel_rfl) (by kernel_rfl) ?_
  repeat (go_big_quiet_step (first
    | (go_at_call 62; refine (CE2.out _).mono ?_; rintro e w1 ⟨rfl, b1⟩; exact ⟨rfl, LaterW.step _ b1⟩)))
  refine wpQuiet_nil ?_
  rintro _ ⟨⟨X, hX⟩, rfl⟩
  go_wp2
  go_ret
  exact ⟨rfl, HB.out _ hX⟩

end Go.Proofs.Ytjhdnachbahbmaa

namespace Go.Proofs.Ytjhdnachbahbmaa
open Go.RowKit
set_option linter.unusedVariables false
set_option maxRecDepth 100000

/-- Is a slot white? -/
def isW (T : TrialD) (i : Nat) : Bool := decide (T.colors.getD i 0 = 2)
def collO (T : TrialD) (i : Nat) (o : ObjD) : ObjD := if isW T i = true then emptyD o.gen else { o with purple := false }
def wipeO (T : TrialD) (i : Nat) (o : ObjD) : ObjD := if isW T i = true then emptyD o.gen else o
def made2 (H1 : HeapD) (i : Nat) (o : ObjD) : ObjD := if o.live = true then { o with count := madeZ H1 (i : Int) o } else o
/-- Behind the first pass: what is white is empty, nothing is purple. -/
def coll1 (H : HeapD) : HeapD := { H with objs := H.objs.mapIdx (collO (suspT H)) }
def collH (H : HeapD) : HeapD := { H with objs := (coll1 H).objs.mapIdx (made2 (coll1 H)), buffer := [] }
def genAt (H : HeapD) (i : Int) : Int := match H.objs[i.toNat]? with
  | some o => o.gen
  | none => 0
def collF (H : HeapD) : List Int := (whites (suspT H)).map (fun i => idZ i (genAt H i))

/-- The same in what InEdges looks at. -/
def Alike3 (a b : ObjD) : Prop := a.live = b.live ∧ a.gen = b.gen ∧ a.field = b.field
theorem inE_alike (id : Int) : ∀ (A B : List ObjD), A.length = B.length → (∀ i (h1 : i < A.length) (h2 : i < B.length), Alike3 A[i] B[i]) → inE id A = inE id B := by
  intro A
  induction A with
  | nil => intro B hl _; cases B with | nil => rfl | cons b r => simp at hl
  | cons a r ih =>
    intro B hl h
    cases B with
    | nil => simp at hl
    | cons b r2 =>
      have h0 := h 0 (by simp) (by simp)
      have h1 := ih r2 (by simpa using hl) (fun i p q => by
        have := h (i + 1) (by simp; omega) (by simp; omega)
        simpa using this)
      have e : inO id a = inO id b := by
        obtain ⟨x, y, z⟩ := h0
        simp only [List.getElem_cons_zero] at x y z
        unfold inO
        rw [x, z]
      unfold inE at h1 ⊢
      simp only [List.map_cons, List.sum_cons]
      rw [e, h1]
theorem inEdges_alike {G K : HeapD} (hl : G.objs.length = K.objs.length) (h : ∀ i (h1 : i < G.objs.length) (h2 : i < K.objs.length), Alike3 G.objs[i] K.objs[i]) (slot : Int) : inEdges G slot = inEdges K slot := by
  unfold inEdges
  split
  · by_cases hs : slot.toNat < G.objs.length
    · have hs2 : slot.toNat < K.objs.length := by omega
      rw [List.getElem?_eq_getElem hs, List.getElem?_eq_getElem hs2]
      obtain ⟨x, y, z⟩ := h _ hs hs2
      simp only []
      rw [x, y, inE_alike _ _ _ hl h]
    · rw [List.getElem?_eq_none (by omega), List.getElem?_eq_none (by omega)]
  · rfl
theorem madeZ_alike {G K : HeapD} (hl : G.objs.length = K.objs.length) (h : ∀ i (h1 : i < G.objs.length) (h2 : i < K.objs.length), Alike3 G.objs[i] K.objs[i]) (slot : Int) (a b : ObjD) (hh : a.holds = b.holds) (hr : a.roots = b.roots) : madeZ G slot a = madeZ K slot b := by
  unfold madeZ
  rw [hh, hr, inEdges_alike hl h]

/-- A list of which the first j are done by f. -/
def upTo (f : Nat → ObjD → ObjD) (j : Nat) (os : List ObjD) : List ObjD := os.mapIdx (fun i o => if i < j then f i o else o)
theorem upTo_length (f : Nat → ObjD → ObjD) (j : Nat) (os : List ObjD) : (upTo f j os).length = os.length := by simp [upTo]
theorem upTo_zero (f : Nat → ObjD → ObjD) (os : List ObjD) : upTo f 0 os = os := by
  refine List.ext_getElem (by simp [upTo]) (fun i h1 h2 => ?_)
  simp [upTo]
theorem upTo_all (f : Nat → ObjD → ObjD) (j : Nat) (os : List ObjD) (h : os.length ≤ j) : upTo f j os = os.mapIdx f := by
  refine List.ext_getElem (by simp [upTo]) (fun i h1 h2 => ?_)
  have : i < j := by simp [upTo] at h1; omega
  simp [upTo, this]
theorem upTo_get (f : Nat → ObjD → ObjD) (j i : Nat) (os : List ObjD) (h : i < os.length) : (upTo f j os)[i]'(by rw [upTo_length]; exact h) = if i < j then f i os[i] else os[i] := by simp [upTo]
theorem upTo_step (f : Nat → ObjD → ObjD) (j : Nat) (os : List ObjD) (h : j < os.length) : upTo f (j + 1) os = (upTo f j os).set j (f j os[j]) := by
  refine List.ext_getElem (by simp [upTo]) (fun i h1 h2 => ?_)
  have hi : i < os.length := by simpa [upTo] using h1
  rw [List.getElem_set, upTo_get f (j + 1) i os hi]
  by_cases e : j = i
  · subst e; simp
  · rw [if_neg e, upTo_get f j i os hi]
    by_cases hlt : i < j
    · rw [if_pos (by omega), if_pos hlt]
    · rw [if_neg (by omega), if_neg hlt]

end Go.Proofs.Ytjhdnachbahbmaa

namespace Go.Proofs.Ytjhdnachbahbmaa
open Go.RowKit
set_option linter.unusedVariables false
set_option maxRecDepth 100000

/-- One slot settled: nothing is purple, what is live is counted anew. -/
def setl (K : HeapD) (i : Nat) (o : ObjD) : ObjD := if o.live = true then { o with purple := false, count := madeZ K (i : Int) o } else { o with purple := false }
def settleH (K : HeapD) : HeapD := { K with objs := K.objs.mapIdx (setl K), buffer := [] }
def setlAt (K : HeapD) (j : Nat) : HeapD := { K with objs := upTo (setl K) j K.objs, buffer := [] }
theorem setl_alike (K : HeapD) (i : Nat) (o : ObjD) : Alike3 (setl K i o) o := by
  unfold setl
  split <;> exact ⟨rfl, rfl, rfl⟩
theorem setlAt_len (K : HeapD) (j : Nat) : (setlAt K j).objs.length = K.objs.length := upTo_length _ _ _
theorem setlAt_get (K : HeapD) (j i : Nat) (h : i < K.objs.length) : (setlAt K j).objs[i]'(by rw [setlAt_len]; exact h) = if i < j then setl K i K.objs[i] else K.objs[i] := upTo_get _ _ _ _ h
theorem setlAt_alike (K : HeapD) (j i : Nat) (h1 : i < (setlAt K j).objs.length) (h2 : i < K.objs.length) : Alike3 (setlAt K j).objs[i] K.objs[i] := by
  rw [setlAt_get K j i h2]
  split
  · exact setl_alike K i _
  · exact ⟨rfl, rfl, rfl⟩
/-- One object turned in what InEdges doesn't look at. -/
theorem setO_alike {A : HeapD} {B : HeapD} (hl : A.objs.length = B.objs.length) (h : ∀ i (h1 : i < A.objs.length) (h2 : i < B.objs.length), Alike3 A.objs[i] B.objs[i]) (k : Nat) (o : ObjD) (hk : k < B.objs.length) (ho : Alike3 o B.objs[k]) :
    ∀ i (h1 : i < ({ A with objs := A.objs.set k o } : HeapD).objs.length) (h2 : i < B.objs.length), Alike3 ({ A with objs := A.objs.set k o } : HeapD).objs[i] B.objs[i] := by
  intro i h1 h2
  simp only [List.getElem_set]
  by_cases e : k = i
  · subst e; rw [if_pos rfl]; exact ho
  · rw [if_neg e]; exact h i (by simpa using h1) h2
theorem small_alike {A B : HeapD} (hs : SmallH B) (hl : A.objs.length = B.objs.length) (h : ∀ i (h1 : i < A.objs.length) (h2 : i < B.objs.length), Alike3 A.objs[i] B.objs[i]) (hw : A.weaks = B.weaks) (hb : A.buffer.length ≤ 1048576) (hst : A.sites = B.sites) : SmallH A := by
  refine ⟨by rw [hl]; exact hs.objs, fun z hz => ?_, by rw [hw]; exact hs.weaks, hb, by rw [hst]; exact hs.sites, by rw [hst]; exact hs.names⟩
  obtain ⟨i, hi, rfl⟩ := List.getElem_of_mem hz
  rw [(h i hi (by omega)).2.2]
  exact hs.fields _ (List.getElem_mem _)

set_option maxHeartbeats 8000000 in
theorem settle_calls (W w : World) (B gx : Nat) (s : HSh) (K : HeapD) (vq vf : Value) (todo fr : List Int) (h : LS W w B gx s K vq vf todo fr) (hs : SmallH K) (h8 : K.objs.length = 8) :
    Calls Try.prog 60 #[.pointer (some ⟨gx, 0, none⟩)] w fun e w' => e = .returned (.tuple #[]) ∧ ∃ s', LS W w' B gx s' (settleH K) vq vf todo fr := by
  obtain ⟨go, hgo, -, -⟩ := hm_own h.m 0 (by omega)
  have L0 : LS W (w.setCell ⟨gx, 2, none⟩ (.slice none 0 0)) B gx { s with ba := none, bn := 0, bc := 0 } { K with buffer := [] } vq vf todo fr :=
    ls_buf h h.bel (Nat.le_refl _) (fun _ _ _ => rfl) none 0 0 [] rfl (ownI_nil _ _) (fun g hg => by simp [Value.ownBlock] at hg)
  have E0 : ({ K with buffer := [] } : HeapD) = setlAt K 0 := by unfold setlAt; rw [upTo_zero]
  rw [E0] at L0
  have HEND : Hid (setlAt K 8 = settleH K) := by show _ = _; unfold setlAt settleH; rw [upTo_all _ _ _ (by omega)]
  have HSM : Hid (SmallH K) := hs
  have HL8 : Hid (K.objs.length = 8) := h8
  have y2 : w.cell? ⟨gx, 2, none⟩ = some (.slice s.ba s.bn s.bc) := h.x.cell 2
  have f2 := h.x.frozen 2
  obtain ⟨V, hV⟩ : ∃ V, V = w.setCell ⟨gx, 2, none⟩ (.slice none 0 0) := ⟨_, rfl⟩
  rw [← hV] at L0
  have HSL : Hid (s.os.length = 8) := by show _ = _; have := L0.m.lo; rw [setlAt_len, h8] at this; exact this
  obtain ⟨s1, hs1⟩ : ∃ s1 : HSh, { s with ba := none, bn := 0, bc := 0 } = s1 := ⟨_, rfl⟩
  have hgo1 : s1.oa = some ⟨go, 0, none⟩ := by rw [← hs1]; exact hgo
  have x0 : V.cell? ⟨gx, 0, none⟩ = some (.slice s.oa s.os.length s.oc) := by have := L0.x.cell 0; exact this
  have x1 : V.cell? ⟨gx, 1, none⟩ = some (.slice s.wa s.wn s.wc) := by have := L0.x.cell 1; exact this
  have x2 : V.cell? ⟨gx, 2, none⟩ = some (.slice none 0 0) := by have := L0.x.cell 2; exact this
  have x3 : V.cell? ⟨gx, 3, none⟩ = some (.slice s.sa s.sn s.sc) := by have := L0.x.cell 3; exact this
  rw [hs1] at L0
  have HL0 : Hid (LS W V B gx s1 (setlAt K 0) vq vf todo fr) := L0
  have hln : s.os.length ≤ 1048576 := by have := HSL.out; omega
  have CC : Hid (∀ X : World, _) := fun X => cellsOf_calls X s.oa s.os.length s.oc (.slice s.wa s.wn s.wc) (.slice none 0 0) (.slice s.sa s.sn s.sc) hln go 0 (fun _ => hgo) ⟨_, _, _, _, _, _, _, _, _, rfl, rfl, rfl⟩
  obtain ⟨x, hx, hxs⟩ := cells_idxs go 0 s.os.length
  have HX : Hid (∀ i : Nat, i < 8 → ∀ X : World, (Instr.index 47 (.agg x) (.int .i64 (i : Int))).run Try.prog X = .ok (.pointer (some ⟨go, i * 8, none⟩)) X) := fun i hi X => by
    have e := hxs i hi X
    unfold cellA at e
    rw [if_pos (by have := HSL.out; omega), Nat.zero_add] at e
    exact e
  rw [hx] at CC
  rw [hV] at x0 x1 x2 x3
  have HGO1 : Hid (s1.oa = some ⟨go, 0, none⟩) := hgo1
  have HS1 : Hid (s1.v = .agg #[.slice s.oa s.os.length s.oc, .slice s.wa s.wn s.wc, .slice none 0 0, .slice s.sa s.sn s.sc]) := by show _ = _; rw [← hs1]; rfl
  have HS4 : Hid (∀ X, Four X gx (.slice s1.oa s1.os.length s1.oc) (.slice s1.wa s1.wn s1.wc) (.slice s1.ba s1.bn s1.bc) (.slice s1.sa s1.sn s1.sc) → Four X gx (.slice s.oa s.os.length s.oc) (.slice s.wa s.wn s.wc) (.slice none 0 0) (.slice s.sa s.sn s.sc)) := fun X hX => by rw [← hs1] at hX; exact hX
  clear hx hxs L0 h hs h8 E0 hs1 hln hgo hgo1
  go_enter Try.func60, Try.ntmps60
  go_wp2_with fail
  rw [← hV]
  clear hV x0 x1 x2 x3 y2 f2
  refine (CC.out _).mono ?_
  rintro e w1 ⟨rfl, b1⟩
  have HL1 : Hid (LS W w1 B gx s1 (setlAt K 0) vq vf todo fr) := ls_later HL0.out b1
  clear b1 CC HL0
  go_wp2
  go_loopw [11] (fun i wr => ∃ j : Nat, i = .int .i64 (j : Int) ∧ j ≤ 8 ∧ Hid (LS W wr B gx s1 (setlAt K j) vq vf todo fr)) (fun i _ => 8 - (intOf i).toNat)
  case atStart => exact ⟨0, rfl, by omega, HL1⟩
  case round =>
    obtain ⟨j, rfl, hj8, HI⟩ := hrel
    by_cases hlt : j < 8
    · have hix := HX.out j hlt
      have hjK : j < K.objs.length := by have := HL8.out; omega
      have hjS : j < (setlAt K j).objs.length := by rw [setlAt_len]; exact hjK
      obtain ⟨hj2, ho, hfz⟩ := hm_obj HI.out.m j hjS go HGO1.out
      have HG : Hid ((setlAt K j).objs[j] = K.objs[j]) := by show _ = _; rw [setlAt_get K j j hjK, if_neg (Nat.lt_irrefl _)]
      have HL2 : Hid (LS W (wr.setCell ⟨go, j * 8 + 7, none⟩ (.bool false)) B gx s1 { setlAt K j with objs := (setlAt K j).objs.set j { (setlAt K j).objs[j] with purple := false } } vq vf todo fr) := ls_obj HI.out go _ _ HGO1.out (hm_purple HI.out.m j hjS go HGO1.out false)
      have HST : Hid (setlAt K (j + 1) = { setlAt K j with objs := (setlAt K j).objs.set j (setl K j K.objs[j]) }) := by show _ = _; unfold setlAt; rw [upTo_step _ _ _ hjK]
      rw [HG.out] at HL2 ho
      have c7 := ho.c7
      have z7 := hfz 7 (by omega)
      have z5 := hfz 5 (by omega)
      obtain ⟨V2, hV2⟩ : ∃ V2, V2 = wr.setCell ⟨go, j * 8 + 7, none⟩ (.bool false) := ⟨_, rfl⟩
      have c0 : V2.cell? ⟨go, j * 8 + 0, none⟩ = some (.bool K.objs[j].live) := by rw [hV2, cell_far _ _ _ _ _ (by omega)]; exact ho.c0
      rw [Nat.add_zero] at c0
      rw [← hV2] at HL2
      cases hlv : K.objs[j].live with
      | false =>
        have HN : Hid (LS W V2 B gx s1 (setlAt K (j + 1)) vq vf todo fr) := by
          have e : setl K j K.objs[j] = { K.objs[j] with purple := false } := by unfold setl; rw [if_neg (by simp [hlv])]
          rw [HST.out, e]; exact HL2.out
        rw [hlv] at c0
        rw [hV2] at c0 HN
        clear HL2 HI HST HG ho hfz hV2 z5
        go_wp2
        go_roundw
        case rel => exact ⟨j + 1, by go_num, by omega, HN⟩
        case measure => simp [intOf]; omega
      | true =>
        obtain ⟨Hc, hHc⟩ : ∃ Hc : HeapD, Hc = { setlAt K j with objs := (setlAt K j).objs.set j { K.objs[j] with purple := false } } := ⟨_, rfl⟩
        rw [← hHc] at HL2
        have hal : ∀ i (h1 : i < Hc.objs.length) (h2 : i < K.objs.length), Alike3 Hc.objs[i] K.objs[i] := by
          subst hHc
          exact setO_alike (setlAt_len K j) (fun i h1 h2 => setlAt_alike K j i h1 h2) j _ hjK ⟨rfl, rfl, rfl⟩
        have hcl : Hc.objs.length = K.objs.length := by rw [hHc]; simp [setlAt_len]
        have hsc : SmallH Hc := small_alike HSM.out hcl hal (by rw [hHc]; rfl) (by rw [hHc]; show ([] : List Int).length ≤ _; simp) (by rw [hHc]; rfl)
        have hjc : j < Hc.objs.length := by omega
        have hoc : Hc.objs[j] = { K.objs[j] with purple := false } := by simp only [hHc, List.getElem_set_self]
        obtain ⟨hj3, ho3, hfz3⟩ := hm_obj HL2.out.m j hjc go HGO1.out
        have hfn : s1.os[j].n = Hc.objs[j].field.length := (HL2.out.m.f j hjc hj3).1
        rw [hfn, hoc] at ho3
        have hgl : go < V2.heap.size := (hm_bl HL2.out.m (.inl ⟨_, HGO1.out, rfl⟩)).2
        have CM : Hid (∀ _ : Unit, _) := fun (_ : Unit) => countMade_calls s1.v Hc j { K.objs[j] with purple := false } V2 (hm_rd HL2.out.m) hsc hlt go (j * 8) _ _ hgl ho3
        have HMZ : Hid (madeZ Hc (j : Int) { K.objs[j] with purple := false } = madeZ K (j : Int) K.objs[j]) := madeZ_alike hcl hal _ _ _ rfl rfl
        rw [HMZ.out, HS1.out] at CM
        have X2 := HS4.out _ HL2.out.x
        have u0 : V2.cell? ⟨gx, 0, none⟩ = some (.slice s.oa s.os.length s.oc) := X2.cell 0
        have u1 : V2.cell? ⟨gx, 1, none⟩ = some (.slice s.wa s.wn s.wc) := X2.cell 1
        have u2 : V2.cell? ⟨gx, 2, none⟩ = some (.slice none 0 0) := X2.cell 2
        have u3 : V2.cell? ⟨gx, 3, none⟩ = some (.slice s.sa s.sn s.sc) := X2.cell 3
        have HSE : Hid (setl K j K.objs[j] = { K.objs[j] with purple := false, count := madeZ K (j : Int) K.objs[j] }) := by show _ = _; unfold setl; rw [if_pos hlv]
        have HHc : Hid (Hc = { setlAt K j with objs := (setlAt K j).objs.set j { K.objs[j] with purple := false } }) := hHc
        have HOC : Hid (Hc.objs[j] = { K.objs[j] with purple := false }) := hoc
        obtain ⟨M, hM⟩ : ∃ M, madeZ K (j : Int) K.objs[j] = M := ⟨_, rfl⟩
        rw [hM] at CM HSE
        rw [hlv] at c0
        rw [hV2] at c0 u0 u1 u2 u3
        clear HI HG ho hfz z5 hM hHc hal hcl hsc hoc ho3 hfn HMZ X2 hgl hj3 hfz3
        go_wp2_with fail
        rw [← hV2]
        clear hV2 c0 u0 u1 u2 u3 c7 z7
        refine (CM.out ()).mono ?_
        rintro e w3 ⟨rfl, b3⟩
        have HL3 : Hid (LS W w3 B gx s1 Hc vq vf todo fr) := ls_later HL2.out b3
        have HL4 : Hid (LS W (w3.setCell ⟨go, j * 8 + 5, none⟩ (.int .i64 M)) B gx s1 { Hc with objs := Hc.objs.set j { Hc.objs[j] with count := M } } vq vf todo fr) := ls_obj HL3.out go _ _ HGO1.out (hm_count HL3.out.m j hjc go HGO1.out M)
        obtain ⟨_, ho4, hfz4⟩ := hm_obj HL3.out.m j hjc go HGO1.out
        have c5 := ho4.c5
        have z5 := hfz4 5 (by omega)
        have HN : Hid (LS W (w3.setCell ⟨go, j * 8 + 5, none⟩ (.int .i64 M)) B gx s1 (setlAt K (j + 1)) vq vf todo fr) := by
          have e : ({ Hc with objs := Hc.objs.set j { Hc.objs[j] with count := M } } : HeapD) = setlAt K (j + 1) := by
            rw [HST.out, HSE.out, HOC.out, HHc.out]
            simp
          rw [← e]; exact HL4.out
        clear HL2 HL3 HL4 ho4 hfz4 b3 CM HST
        go_wp2
        go_roundw
        case rel => exact ⟨j + 1, by go_num, by omega, HN⟩
        case measure => simp [intOf]; omega
    · have hj : j = 8 := by omega
      have HFIN : Hid (LS W wr B gx s1 (settleH K) vq vf todo fr) := by show LS _ _ _ _ _ _ _ _ _ _; rw [← HEND.out, ← hj]; exact HI.out
      clear HI
      go_wp2
      go_end0
      exact ⟨rfl, s1, HFIN.out⟩

end Go.Proofs.Ytjhdnachbahbmaa

namespace Go.Proofs.Ytjhdnachbahbmaa
open Go.RowKit
set_option linter.unusedVariables false
set_option maxRecDepth 100000

theorem whiteL_mem (zs : List Int) : ∀ (i j : Int), j ∈ whiteL zs i ↔ ∃ k : Nat, k < zs.length ∧ j = i + (k : Int) ∧ zs.getD k 0 = 2 := by
  induction zs with
  | nil => intro i j; simp [whiteL]
  | cons z r ih =>
    intro i j
    have key : j ∈ whiteL r (i + 1) ↔ ∃ k : Nat, k + 1 < (z :: r).length ∧ j = i + ((k + 1 : Nat) : Int) ∧ (z :: r).getD (k + 1) 0 = 2 := by
      rw [ih]
      constructor
      · rintro ⟨k, h1, h2, h3⟩; exact ⟨k, by simpa using h1, by omega, by simpa using h3⟩
      · rintro ⟨k, h1, h2, h3⟩; exact ⟨k, by simpa using h1, by omega, by simpa using h3⟩
    unfold whiteL
    split
    · rename_i hz
      rw [List.mem_cons, key]
      constructor
      · rintro (rfl | ⟨k, h⟩)
        · exact ⟨0, by simp, by omega, by simpa using hz⟩
        · exact ⟨k + 1, h⟩
      · rintro ⟨k, h1, h2, h3⟩
        cases k with
        | zero => left; omega
        | succ k => right; exact ⟨k, h1, h2, h3⟩
    · rename_i hz
      rw [key]
      constructor
      · rintro ⟨k, h⟩; exact ⟨k + 1, h⟩
      · rintro ⟨k, h1, h2, h3⟩
        cases k with
        | zero => exact absurd (by simpa using h3) hz
        | succ k => exact ⟨k, h1, h2, h3⟩
theorem whites_mem (T : TrialD) (hT : Eight T) (i : Nat) (hi : i < 8) : (i : Int) ∈ whites T ↔ isW T i = true := by
  unfold whites isW
  rw [whiteL_mem, decide_eq_true_iff]
  constructor
  · rintro ⟨k, h1, h2, h3⟩
    rw [show i = k from by omega]; exact h3
  · intro h
    exact ⟨i, by have := hT.2; omega, by omega, h⟩
theorem whites_slots (T : TrialD) (hT : Eight T) : Slots (whites T) := fun z hz => by
  unfold whites at hz
  obtain ⟨k, h1, h2, -⟩ := (whiteL_mem _ _ _).1 hz
  have := hT.2
  omega
/-- The first j of the white ones are empty. -/
def wipeAt (H : HeapD) (ws : List Int) (j : Nat) : HeapD := { H with objs := H.objs.mapIdx (fun i o => if (i : Int) ∈ ws.take j then emptyD o.gen else o) }
theorem wipeAt_len (H : HeapD) (ws : List Int) (j : Nat) : (wipeAt H ws j).objs.length = H.objs.length := by simp [wipeAt]
theorem wipeAt_get (H : HeapD) (ws : List Int) (j i : Nat) (h : i < H.objs.length) : (wipeAt H ws j).objs[i]'(by rw [wipeAt_len]; exact h) = if (i : Int) ∈ ws.take j then emptyD H.objs[i].gen else H.objs[i] := by simp [wipeAt]
theorem wipeAt_gen (H : HeapD) (ws : List Int) (j i : Nat) (h : i < H.objs.length) : ((wipeAt H ws j).objs[i]'(by rw [wipeAt_len]; exact h)).gen = H.objs[i].gen := by
  rw [wipeAt_get H ws j i h]
  split <;> rfl
theorem wipeAt_zero (H : HeapD) (ws : List Int) : wipeAt H ws 0 = H := by
  have e : H.objs.mapIdx (fun i o => if (i : Int) ∈ ws.take 0 then emptyD o.gen else o) = H.objs := List.ext_getElem (by simp) (fun i h1 h2 => by simp)
  unfold wipeAt
  rw [e]
theorem wipeAt_step (H : HeapD) (ws : List Int) (j k : Nat) (hj : j < ws.length) (hk : k < H.objs.length) (hw : ws[j] = (k : Int)) : wipeAt H ws (j + 1) = setO (wipeAt H ws j) k (emptyD H.objs[k].gen) := by
  have e : (wipeAt H ws (j + 1)).objs = (wipeAt H ws j).objs.set k (emptyD H.objs[k].gen) := by
    refine List.ext_getElem (by simp [wipeAt]) (fun i h1 h2 => ?_)
    have hi : i < H.objs.length := by rw [wipeAt_len] at h1; exact h1
    rw [List.getElem_set, wipeAt_get H ws (j + 1) i hi, List.take_succ_eq_append_getElem hj, hw]
    by_cases e : k = i
    · subst e; simp
    · rw [if_neg e, wipeAt_get H ws j i hi]
      have : ¬ (i : Int) = (k : Int) := by omega
      simp [this]
  show wipeAt H ws (j + 1) = { wipeAt H ws j with objs := (wipeAt H ws j).objs.set k (emptyD H.objs[k].gen) }
  rw [← e]
  rfl
theorem wipe_settle (H : HeapD) (T : TrialD) (hT : Eight T) (h8 : H.objs.length = 8) (hTs : T = suspT H) : settleH (wipeAt H (whites T) (whites T).length) = collH H := by
  obtain ⟨K, hK⟩ : ∃ K, wipeAt H (whites T) (whites T).length = K := ⟨_, rfl⟩
  have hKl : K.objs.length = H.objs.length := by rw [← hK]; exact wipeAt_len _ _ _
  have hKg : ∀ i (h : i < H.objs.length), K.objs[i]'(by omega) = wipeO T i H.objs[i] := fun i h => by
    have e := wipeAt_get H (whites T) (whites T).length i h
    rw [List.take_length] at e
    subst hK
    rw [e]
    unfold wipeO
    by_cases hw : isW T i = true
    · rw [if_pos hw, if_pos ((whites_mem T hT i (by omega)).2 hw)]
    · rw [if_neg hw, if_neg (fun hm => hw ((whites_mem T hT i (by omega)).1 hm))]
  have h1l : (coll1 H).objs.length = H.objs.length := by simp [coll1]
  have h1g : ∀ i (h : i < H.objs.length), (coll1 H).objs[i]'(by omega) = collO T i H.objs[i] := fun i h => by subst hTs; simp [coll1]
  have hal : ∀ i (a : i < K.objs.length) (b : i < (coll1 H).objs.length), Alike3 K.objs[i] (coll1 H).objs[i] := fun i a b => by
    rw [hKg i (by omega), h1g i (by omega)]
    unfold wipeO collO
    split <;> exact ⟨rfl, rfl, rfl⟩
  rw [hK]
  unfold settleH collH
  have e : K.objs.mapIdx (setl K) = (coll1 H).objs.mapIdx (made2 (coll1 H)) := by
    refine List.ext_getElem (by simp; omega) (fun i a b => ?_)
    have hi : i < H.objs.length := by simp at a; omega
    simp only [List.getElem_mapIdx]
    rw [hKg i hi, h1g i hi]
    unfold wipeO collO
    by_cases hw : isW T i = true
    · rw [if_pos hw, if_pos hw]
      unfold setl made2 emptyD
      simp
    · rw [if_neg hw, if_neg hw]
      unfold setl made2
      by_cases hlv : H.objs[i].live = true
      · rw [if_pos hlv, if_pos hlv, madeZ_alike (by omega) hal (i : Int) H.objs[i] { H.objs[i] with purple := false } rfl rfl]
      · rw [if_neg hlv, if_neg hlv]
  rw [e, ← hK]
  rfl
def freedAt (H : HeapD) (ws : List Int) (j : Nat) : List Int := (ws.take j).map (fun i => idZ i (genAt H i))
theorem freedAt_step (H : HeapD) (ws : List Int) (j k : Nat) (hj : j < ws.length) (hk : k < H.objs.length) (hw : ws[j] = (k : Int)) : freedAt H ws (j + 1) = freedAt H ws j ++ [idZ (k : Int) H.objs[k].gen] := by
  unfold freedAt
  rw [List.take_succ_eq_append_getElem hj, hw, List.map_append]
  have e : genAt H (k : Int) = H.objs[k].gen := by unfold genAt; rw [show ((k : Int)).toNat = k from by omega, List.getElem?_eq_getElem hk]
  simp [e]

end Go.Proofs.Ytjhdnachbahbmaa

namespace Go.Proofs.Ytjhdnachbahbmaa
open Go.RowKit
set_option linter.unusedVariables false
set_option maxRecDepth 100000

/-- A sum over the numbers below n of which something is so. -/
def sumP (f : Nat → Nat) (p : Nat → Bool) : Nat → Nat
  | 0 => 0
  | n + 1 => sumP f p n + (if p n = true then f n else 0)
theorem sumP_flip (f : Nat → Nat) (p q : Nat → Bool) (k : Nat) (hp : p k = false) (hq : q k = true) (ho : ∀ i, i ≠ k → q i = p i) : ∀ n, sumP f q n = sumP f p n + (if k < n then f k else 0) := by
  intro n
  induction n with
  | zero => rfl
  | succ n ih =>
    unfold sumP
    rw [ih]
    by_cases e : n = k
    · subst e; simp [hp, hq]
    · rw [ho n e]
      by_cases e2 : k < n
      · have e3 : k < n + 1 := by omega
        simp only [e2, e3, if_true]; omega
      · have e3 : ¬ k < n + 1 := by omega
        simp only [e2, e3, if_false]; omega
theorem sumP_mono (f : Nat → Nat) (p q : Nat → Bool) (h : ∀ i, p i = true → q i = true) : ∀ n, sumP f p n ≤ sumP f q n := by
  intro n
  induction n with
  | zero => exact Nat.le_refl _
  | succ n ih =>
    unfold sumP
    cases hp : p n with
    | true => rw [h n hp]; simp; omega
    | false => simp; omega
theorem sumP_same (f : Nat → Nat) (p q : Nat → Bool) : ∀ n, (∀ i, i < n → p i ≠ q i → f i = 0) → sumP f p n = sumP f q n := by
  intro n
  induction n with
  | zero => intro _; rfl
  | succ n ih =>
    intro h
    unfold sumP
    rw [ih (fun i hi => h i (by omega))]
    by_cases e : p n = q n
    · rw [e]
    · rw [h n (by omega) e]; simp
theorem sumP_split (f : Nat → Nat) (p : Nat → Bool) : ∀ n, sumP f (fun _ => true) n = sumP f p n + sumP f (fun i => !p i) n := by
  intro n
  induction n with
  | zero => rfl
  | succ n ih =>
    unfold sumP
    rw [ih]
    cases hp : p n <;> simp <;> omega
theorem sumP_ge (f : Nat → Nat) (p : Nat → Bool) (k : Nat) (hp : p k = true) : ∀ n, k < n → f k ≤ sumP f p n := by
  intro n
  induction n with
  | zero => intro h; omega
  | succ n ih =>
    intro h
    unfold sumP
    by_cases e : k = n
    · subst e; rw [hp]; simp
    · have := ih (by omega); omega
theorem sumP_le (f : Nat → Nat) (p : Nat → Bool) (m : Nat) (hf : ∀ i, f i ≤ m) : ∀ n, sumP f p n ≤ n * m := by
  intro n
  induction n with
  | zero => simp [sumP]
  | succ n ih =>
    unfold sumP
    have := hf n
    rw [Nat.succ_mul]
    split <;> omega

/-- How many fields of the slots lead to slot j. -/
def kidC (H : HeapD) (j i : Nat) : Nat := (kidsOf H (i : Int)).count (j : Int)
theorem kidL_len (H : HeapD) (zs : List Int) : (kidL H zs).length ≤ zs.length := by
  induction zs with
  | nil => exact Nat.le_refl _
  | cons z r ih =>
    unfold kidL
    split
    · simp only [List.length_cons]; omega
    · simp only [List.length_cons]; omega
theorem kidC_le {H : HeapD} {todo : List Int} (h : JH H todo) (j i : Nat) : kidC H j i ≤ 3 := by
  unfold kidC kidsOf
  rw [show ((i : Int)).toNat = i from by omega]
  by_cases hi : i < H.objs.length
  · rw [List.getElem?_eq_getElem hi]
    simp only
    have e1 := kidL_len H H.objs[i].field
    rw [(h.objs i hi).1.2] at e1
    exact Nat.le_trans List.count_le_length e1
  · rw [List.getElem?_eq_none (by omega)]; simp
theorem flat_sum (H : HeapD) (j : Nat) : ∀ (C : List Nat), C.Nodup → (∀ k ∈ C, k < 8) → (flat H C).count (j : Int) = sumP (kidC H j) (fun i => decide (i ∈ C)) 8 := by
  intro C
  induction C with
  | nil => intro _ _; simp [flat, sumP]
  | cons k r ih =>
    intro hn hs
    obtain ⟨h1, h2⟩ := List.nodup_cons.1 hn
    rw [flat_cons, List.count_append, ih h2 (fun x hx => hs x (List.mem_cons_of_mem _ hx))]
    have := sumP_flip (kidC H j) (fun i => decide (i ∈ r)) (fun i => decide (i ∈ k :: r)) k (decide_eq_false h1) (by simp) (fun i hi => by simp [hi]) 8
    rw [this, if_pos (hs k (List.mem_cons_self ..))]
    unfold kidC
    omega
theorem flat_le {H : HeapD} {todo : List Int} (h : JH H todo) (j : Nat) (C : List Nat) (hn : C.Nodup) (hs : ∀ k ∈ C, k < 8) : (flat H C).count (j : Int) ≤ 24 := by
  rw [flat_sum H j C hn hs]
  have := sumP_le (kidC H j) (fun i => decide (i ∈ C)) 3 (kidC_le h j) 8
  omega
theorem kidL_count (H : HeapD) (j : Nat) (id : Int) (hid : ∀ z, slotZ H z = (j : Int) ↔ z = id) (zs : List Int) : (kidL H zs).count (j : Int) = zs.count id := by
  induction zs with
  | nil => rfl
  | cons z r ih =>
    unfold kidL
    rw [List.count_cons]
    by_cases hz : z = id
    · have e := (hid z).2 hz
      rw [if_pos (by omega), List.count_cons, ih, e, hz]; simp
    · have e : slotZ H z ≠ (j : Int) := fun e => hz ((hid z).1 e)
      split
      · rw [List.count_cons, ih]; simp [e, hz]
      · rw [ih]; simp [hz]
theorem kid_live {H : HeapD} {i j : Nat} (h : (j : Int) ∈ kidsOf H (i : Int)) : ∃ hj : j < H.objs.length, H.objs[j].live = true := by
  unfold kidsOf at h
  cases ho : H.objs[((i : Int)).toNat]? with
  | none => rw [ho] at h; simp at h
  | some o =>
    rw [ho] at h
    simp only at h
    have key : ∀ zs : List Int, (j : Int) ∈ kidL H zs → ∃ z, slotZ H z = (j : Int) := by
      intro zs
      induction zs with
      | nil => intro h; simp [kidL] at h
      | cons z r ih =>
        intro h
        unfold kidL at h
        split at h
        · rcases List.mem_cons.1 h with e | e
          · exact ⟨z, e.symm⟩
          · exact ih e
        · exact ih h
    obtain ⟨z, hz⟩ := key _ h
    obtain ⟨k, hk, ek, -, hl, -⟩ := slot_inv (H := H) (id := z) (by omega)
    obtain rfl : k = j := by omega
    exact ⟨hk, hl⟩
theorem slot_id {H : HeapD} {todo : List Int} (h : JH H todo) {j : Nat} (hj : j < H.objs.length) (hl : H.objs[j].live = true) (z : Int) : slotZ H z = (j : Int) ↔ z = idZ (j : Int) H.objs[j].gen := by
  obtain ⟨m1, -, m3⟩ := h.objs j hj
  obtain ⟨l1, -⟩ := m3 hl
  constructor
  · intro e
    obtain ⟨-, h8, -, e2, -⟩ := id_slot hj e
    rw [idZ_live h8 l1.1 m1.1.2]; exact e2
  · intro e
    rw [e]; exact slot_of h.size.1 hj hl ⟨l1.1, m1.1.2⟩
/-- All that leads to a live object, slot by slot. -/
theorem inE_sum {H : HeapD} {todo : List Int} (h : JH H todo) {j : Nat} (hj : j < H.objs.length) (hl : H.objs[j].live = true) : inE (idZ (j : Int) H.objs[j].gen) H.objs = sumP (kidC H j) (fun _ => true) 8 := by
  have h8 := h.size.1
  have key : ∀ n, n ≤ 8 → inE (idZ (j : Int) H.objs[j].gen) (H.objs.take n) = sumP (kidC H j) (fun _ => true) n := by
    intro n
    induction n with
    | zero => intro _; rfl
    | succ n ih =>
      intro hn
      have hi : n < H.objs.length := by omega
      rw [inE_succ _ _ n hi, ih (by omega), show sumP (kidC H j) (fun _ => true) (n + 1) = sumP (kidC H j) (fun _ => true) n + kidC H j n from by simp [sumP]]
      refine congrArg (sumP (kidC H j) (fun _ => true) n + ·) ?_
      unfold kidC kidsOf inO
      rw [show ((n : Int)).toNat = n from by omega, List.getElem?_eq_getElem hi]
      simp only
      rw [kidL_count H j _ (slot_id h hj hl)]
      split
      · rfl
      · rename_i hd
        obtain ⟨m1, m2, -⟩ := h.objs n hi
        have hd2 : H.objs[n].live = false := by cases e : H.objs[n].live with
          | true => exact absurd e hd
          | false => rfl
        obtain ⟨-, -, -, -, -, d6⟩ := m2 hd2
        obtain ⟨k1, -, k3⟩ := h.objs j hj
        refine (List.count_eq_zero.2 (fun hm => ?_)).symm
        obtain ⟨q, hq, e⟩ := List.getElem_of_mem hm
        rw [d6 q hq, idZ_live (by omega) (k3 hl).1.1 k1.1.2] at e
        omega
  have := key 8 (Nat.le_refl _)
  rw [List.take_of_length_le (by omega)] at this
  exact this
theorem stepN_up (n : Nat) (z : Int) (h0 : -1000000 ≤ z) (h1 : z ≤ 1000000) (hn : n ≤ 1000000) : stepN 1 n z = z + (n : Int) := by
  induction n with
  | zero => simp [stepN]
  | succ n ih => unfold stepN; rw [ih (by omega)]; unfold wrap64; omega
theorem stepN_down (n : Nat) (z : Int) (h0 : -1000000 ≤ z) (h1 : z ≤ 1000000) (hn : n ≤ 1000000) : stepN (-1) n z = z - (n : Int) := by
  induction n with
  | zero => simp [stepN]
  | succ n ih => unfold stepN; rw [ih (by omega)]; unfold wrap64; omega

/-- What is gray so far: C, begun at what B says. -/
structure GrI (H : HeapD) (T : TrialD) (C : List Nat) (B : Nat → Prop) : Prop where
  e : Eight T
  col : ∀ j, j < 8 → Go.Proofs.Ytjhdnachbahbmaa.col T j = if j ∈ C then 1 else 0
  cnt : ∀ j, j < 8 → Go.Proofs.Ytjhdnachbahbmaa.cnt T j = stepN (-1) ((flat H C).count (j : Int)) (Go.Proofs.Ytjhdnachbahbmaa.cnt (trialNew H) j)
  nd : C.Nodup
  sl : ∀ k ∈ C, k < 8
  shut : ∀ i ∈ C, ∀ j : Nat, (j : Int) ∈ kidsOf H (i : Int) → j ∈ C
  frm : ∀ R : Nat → Prop, (∀ b, B b → R b) → (∀ i j : Nat, R i → (j : Int) ∈ kidsOf H (i : Int) → R j) → ∀ k ∈ C, R k
  st : ∀ b, B b → b ∈ C
theorem gr_start {H : HeapD} (h8 : H.objs.length = 8) : GrI H (trialNew H) [] (fun _ => False) :=
  ⟨trialNew_eight H h8, fun j hj => by
    unfold Go.Proofs.Ytjhdnachbahbmaa.col trialNew
    rw [List.getD_eq_getElem?_getD, List.getElem?_map]
    cases (H.objs.take 8)[j]? <;> simp, fun j hj => by simp [flat, stepN], by simp, by simp, by simp, by simp, by simp⟩
theorem gr_step {H : HeapD} {T : TrialD} {C : List Nat} {B : Nat → Prop} (h : GrI H T C B) (s : Nat) (hs : s < 8) : ∃ C', GrI H (paintT (-1) 1 H T s) C' (fun b => B b ∨ b = s) := by
  unfold paintT
  by_cases hc : Go.Proofs.Ytjhdnachbahbmaa.col T s = 1
  · rw [if_pos hc]
    have hm : s ∈ C := by
      have := h.col s hs
      by_cases e : s ∈ C
      · exact e
      · rw [if_neg e, hc] at this; omega
    exact ⟨C, h.e, h.col, h.cnt, h.nd, h.sl, h.shut, fun R hB hR => h.frm R (fun b hb => hB b (.inl hb)) hR, fun b hb => by
      rcases hb with hb | hb
      · exact h.st b hb
      · rw [hb]; exact hm⟩
  · rw [if_neg hc]
    obtain ⟨D, hD⟩ := spread_fin (-1) 1 H T s h.e hs hc
    have hg : ∀ j, j < 8 → (Go.Proofs.Ytjhdnachbahbmaa.col T j = 1 ↔ j ∈ C) := fun j hj => by
      rw [h.col j hj]
      by_cases e : j ∈ C
      · simp [e]
      · simp [e]
    refine ⟨C ++ D, hD.pt.e, fun j hj => ?_, fun j hj => ?_, ?_, fun k hk => ?_, fun i hi j hj => ?_, fun R hB hR k hk => ?_, fun b hb => ?_⟩
    · rw [hD.pt.col j hj, h.col j hj]
      by_cases e1 : j ∈ D
      · simp [e1]
      · by_cases e2 : j ∈ C <;> simp [e1, e2]
    · rw [hD.pt.cnt j hj, h.cnt j hj, flat_append, List.count_append, stepN_add]
    · rw [List.nodup_append]
      refine ⟨h.nd, hD.nd, fun a ha b hb e => ?_⟩
      subst e
      exact hD.no a hb ((hg a (h.sl a ha)).2 ha)
    · rcases List.mem_append.1 hk with e | e
      · exact h.sl k e
      · exact hD.sl k e
    · rcases List.mem_append.1 hi with e | e
      · exact List.mem_append_left _ (h.shut i e j hj)
      · by_cases e2 : Go.Proofs.Ytjhdnachbahbmaa.col T j = 1
        · exact List.mem_append_left _ ((hg j (kid_lt hj)).1 e2)
        · exact List.mem_append_right _ (hD.all i e j hj e2)
    · rcases List.mem_append.1 hk with e | e
      · exact h.frm R (fun b hb => hB b (.inl hb)) hR k e
      · exact hD.sound k e R (hB s (.inr rfl)) (fun i j hi hj _ => hR i j hi hj)
    · rcases hb with hb | hb
      · exact List.mem_append_left _ (h.st b hb)
      · rw [hb]; exact List.mem_append_right _ hD.st
theorem gr_iff {H : HeapD} {T : TrialD} {C : List Nat} {A B : Nat → Prop} (h : GrI H T C A) (e : ∀ b, A b ↔ B b) : GrI H T C B :=
  ⟨h.e, h.col, h.cnt, h.nd, h.sl, h.shut, fun R hB hR => h.frm R (fun b hb => hB b ((e b).1 hb)) hR, fun b hb => h.st b ((e b).2 hb)⟩
theorem gr_all {H : HeapD} : ∀ (l : List Int) (T : TrialD) (C : List Nat) (B : Nat → Prop), GrI H T C B → (∀ x ∈ l, 0 ≤ slotZ H x) → ∃ C', GrI H (l.foldl (grayF H) T) C' (fun b => B b ∨ ∃ x ∈ l, slotZ H x = (b : Int)) := by
  intro l
  induction l with
  | nil => intro T C B h _; exact ⟨C, gr_iff h (fun b => by simp)⟩
  | cons x r ih =>
    intro T C B h hl
    have hx := hl x (List.mem_cons_self ..)
    have hr := slotZ_range H x
    obtain ⟨D, hD⟩ := gr_step h (slotZ H x).toNat (by omega)
    have e : grayF H T x = paintT (-1) 1 H T (slotZ H x).toNat := by unfold grayF; rw [if_pos hx]
    rw [List.foldl_cons, e]
    obtain ⟨C', h'⟩ := ih _ D _ hD (fun y hy => hl y (List.mem_cons_of_mem _ hy))
    refine ⟨C', gr_iff h' (fun b => ?_)⟩
    constructor
    · rintro ((hb | hb) | ⟨y, hy, ey⟩)
      · exact .inl hb
      · exact .inr ⟨x, List.mem_cons_self .., by omega⟩
      · exact .inr ⟨y, List.mem_cons_of_mem _ hy, ey⟩
    · rintro (hb | ⟨y, hy, ey⟩)
      · exact .inl (.inl hb)
      · rcases List.mem_cons.1 hy with e2 | e2
        · subst e2; exact .inl (.inr (by omega))
        · exact .inr ⟨y, e2, ey⟩

end Go.Proofs.Ytjhdnachbahbmaa
