/- What spec.ScanFrom answers, step by step. -/
import Derived.Test.YtjhdnachbahbmaaRingMath
namespace Go.Proofs.Ytjhdnachbahbmaa
open Go.RowKit
set_option linter.unusedVariables false
set_option maxRecDepth 100000

theorem kidStep_colored (d c e : Int) (hc : c ≠ e) (p : TrialD × List Int) (z : Int) (h8 : Eight p.1) (hz : 0 ≤ z ∧ z ≤ 7) : colored e (kidStep d c p z).1.colors ≤ colored e p.1.colors := by
  unfold kidStep
  split
  · exact Nat.le_refl _
  · exact colored_set e c p.1.colors z.toNat (by have := h8.2; omega) hc
theorem kids_colored (d c e : Int) (hc : c ≠ e) (ks : List Int) : ∀ (p : TrialD × List Int), Eight p.1 → Slots p.2 → Slots ks → colored e (ks.foldl (kidStep d c) p).1.colors ≤ colored e p.1.colors := by
  induction ks with
  | nil => intro p _ _ _; exact Nat.le_refl _
  | cons z r ih =>
    intro p h8 hs hk
    obtain ⟨a1, a2, _⟩ := kidStep_ok d c p z h8 hs (hk z (by simp))
    exact Nat.le_trans (ih _ a1 a2 (fun x hx => hk x (by simp [hx]))) (kidStep_colored d c e hc p z h8 (hk z (by simp)))
theorem spread_colored (d c e : Int) (hc : c ≠ e) (kids : Int → List Int) (hk : ∀ k, Slots (kids k)) : ∀ (f : Nat) (T : TrialD) (todo : List Int), Eight T → Slots todo → colored e (spread d c kids f T todo).colors ≤ colored e T.colors := by
  intro f
  induction f with
  | zero => intro T todo _ _; exact Nat.le_refl _
  | succ f ih =>
    intro T todo h8 hs
    rcases List.eq_nil_or_concat todo with rfl | ⟨rest, k, rfl⟩
    · rw [spread_nil]; exact Nat.le_refl _
    · rw [List.concat_eq_append] at hs ⊢
      rw [spread_snoc]
      obtain ⟨a1, a2, _⟩ := round_ok d c kids hk T rest k h8 hs
      exact Nat.le_trans (ih _ _ a1 a2) (kids_colored d c e hc (kids k) (T, rest) h8 (fun x hx => hs x (by simp [hx])) (hk k))
theorem black_eight (H : HeapD) (T : TrialD) (k : Int) (h8 : Eight T) (hk : 0 ≤ k ∧ k ≤ 7) : Eight (blackT H T k) :=
  spreadAll_eight 1 0 H _ _ ⟨h8.1, by simpa using h8.2⟩ (fun z hz => by rw [List.mem_singleton.1 hz]; exact hk)
theorem black_gray (H : HeapD) (T : TrialD) (k : Int) (h8 : Eight T) (hk : 0 ≤ k ∧ k ≤ 7) : colored 1 (blackT H T k).colors ≤ colored 1 T.colors := by
  refine Nat.le_trans (spread_colored 1 0 1 (by decide) (kidsOf H) (kidsOf_slots H) _ _ _ ⟨h8.1, by simpa using h8.2⟩ (fun z hz => by rw [List.mem_singleton.1 hz]; exact hk)) ?_
  exact colored_set 1 0 T.colors k.toNat (by have := h8.2; omega) (by decide)

/-- One round of ScanFrom: the last that waits is taken off. -/
def scanS (H : HeapD) (T : TrialD) (rest : List Int) (k : Int) : TrialD × List Int :=
  if T.colors.getD k.toNat 0 ≠ 1 then (T, rest)
  else if 0 < T.counts.getD k.toNat 0 then (blackT H T k, rest)
  else (⟨T.counts, T.colors.set k.toNat 2⟩, rest ++ kidsOf H k)
def nu (p : TrialD × List Int) : Nat := colored 1 p.1.colors * 1048577 + p.2.length
theorem scanS_ok (H : HeapD) (hs : SmallH H) (T : TrialD) (rest : List Int) (k : Int) (h8 : Eight T) (ht : Slots (rest ++ [k])) :
    Eight (scanS H T rest k).1 ∧ Slots (scanS H T rest k).2 ∧ nu (scanS H T rest k) < nu (T, rest ++ [k]) := by
  have hk := ht k (by simp)
  have hr : Slots rest := fun z hz => ht z (by simp [hz])
  have hi : k.toNat < T.colors.length := by have := h8.2; omega
  unfold scanS
  split
  · exact ⟨h8, hr, by simp [nu]⟩
  · rename_i hg
    split
    · refine ⟨black_eight H T k h8 hk, hr, ?_⟩
      have h1 := Nat.mul_le_mul_right 1048577 (black_gray H T k h8 hk)
      simp only [nu, List.length_append, List.length_singleton]
      omega
    · have hg2 : T.colors[k.toNat] = 1 := by
        have h1 := Decidable.not_not.1 hg
        rw [List.getD_eq_getElem?_getD, List.getElem?_eq_getElem hi, Option.getD_some] at h1
        exact h1
      refine ⟨⟨h8.1, by simpa using h8.2⟩, fun z hz => ?_, ?_⟩
      · rcases List.mem_append.1 hz with hz | hz
        · exact hr z hz
        · exact kidsOf_slots H k z hz
      · have h1 := colored_lt 1 2 T.colors k.toNat hi (by decide) hg2
        have h2 := kidsOf_le H k hs
        simp only [nu, List.length_append, List.length_singleton]
        rw [← h1, Nat.add_mul]
        omega
/-- All rounds. -/
def scan (H : HeapD) : Nat → TrialD → List Int → TrialD
  | 0, T, _ => T
  | f + 1, T, todo => match todo.getLast? with
    | none => T
    | some k => scan H f (scanS H T todo.dropLast k).1 (scanS H T todo.dropLast k).2
theorem scan_nil (H : HeapD) (f : Nat) (T : TrialD) : scan H f T [] = T := by cases f <;> rfl
theorem scan_snoc (H : HeapD) (f : Nat) (T : TrialD) (rest : List Int) (k : Int) : scan H (f + 1) T (rest ++ [k]) = scan H f (scanS H T rest k).1 (scanS H T rest k).2 := by simp [scan]
theorem scan_more (H : HeapD) (hs : SmallH H) : ∀ (m f g : Nat) (T : TrialD) (todo : List Int), Eight T → Slots todo → nu (T, todo) ≤ m → m ≤ f → m ≤ g → scan H f T todo = scan H g T todo := by
  intro m
  induction m with
  | zero =>
    intro f g T todo h8 ht hm hf hg
    have : todo = [] := List.eq_nil_of_length_eq_zero (by simp only [nu] at hm; omega)
    subst this
    rw [scan_nil, scan_nil]
  | succ m ih =>
    intro f g T todo h8 ht hm hf hg
    rcases List.eq_nil_or_concat todo with rfl | ⟨rest, k, rfl⟩
    · rw [scan_nil, scan_nil]
    · rw [List.concat_eq_append] at ht hm ⊢
      obtain ⟨f, rfl⟩ : ∃ f', f = f' + 1 := ⟨f - 1, by omega⟩
      obtain ⟨g, rfl⟩ : ∃ g', g = g' + 1 := ⟨g - 1, by omega⟩
      rw [scan_snoc, scan_snoc]
      obtain ⟨a1, a2, a3⟩ := scanS_ok H hs T rest k h8 ht
      exact ih f g _ _ a1 a2 (by show nu (scanS H T rest k) ≤ m; omega) (by omega) (by omega)
def scanAll (H : HeapD) (T : TrialD) (todo : List Int) : TrialD := scan H (nu (T, todo)) T todo
theorem scanAll_nil (H : HeapD) (T : TrialD) : scanAll H T [] = T := scan_nil _ _ _
theorem scanAll_snoc (H : HeapD) (hs : SmallH H) (T : TrialD) (rest : List Int) (k : Int) (h8 : Eight T) (ht : Slots (rest ++ [k])) : scanAll H T (rest ++ [k]) = scanAll H (scanS H T rest k).1 (scanS H T rest k).2 := by
  obtain ⟨a1, a2, a3⟩ := scanS_ok H hs T rest k h8 ht
  unfold scanAll
  obtain ⟨m, hm⟩ : ∃ m, nu (T, rest ++ [k]) = m + 1 := ⟨nu (T, rest ++ [k]) - 1, by omega⟩
  rw [hm, scan_snoc]
  exact scan_more H hs _ _ _ _ _ a1 a2 (Nat.le_refl _) (by show nu (scanS H T rest k) ≤ m; omega) (Nat.le_refl _)
/-- What spec.ScanFrom answers where the slot is one of a right trial. -/
def scanT (H : HeapD) (T : TrialD) (slot : Int) : TrialD := scanAll H T [slot]

end Go.Proofs.Ytjhdnachbahbmaa
