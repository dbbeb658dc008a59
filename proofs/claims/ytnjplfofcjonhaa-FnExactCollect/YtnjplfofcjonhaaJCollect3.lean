/- Texts of this claim, joined: part 3 of 6. -/
import Derived.Test.YtnjplfofcjonhaaJCollect2
import Derived.Shelf.Strconv.Clone
namespace Go.Proofs.Ytnjplfofcjonhaa
open Go.RowKit
set_option linter.unusedVariables false
set_option maxRecDepth 100000
def others (c : Int) (zs : List Int) : Nat := zs.countP (fun z => !decide (z = c))
theorem others_le (c : Int) (zs : List Int) : others c zs ≤ zs.length := List.countP_le_length
theorem others_set (c : Int) (zs : List Int) (i : Nat) (h : i < zs.length) (hne : zs[i] ≠ c) : others c (zs.set i c) + 1 = others c zs := by
  unfold others
  have h1 := List.countP_set (p := fun z : Int => !decide (z = c)) (l := zs) (i := i) (a := c) h
  have h2 : 0 < zs.countP (fun z => !decide (z = c)) := List.countP_pos_iff.2 ⟨zs[i], List.getElem_mem _, by simpa using hne⟩
  rw [h1]
  simp only [hne, decide_false, decide_true, Bool.not_false, Bool.not_true, if_true, Bool.false_eq_true, if_false]
  omega
def colored (c : Int) (zs : List Int) : Nat := zs.countP (fun z => decide (z = c))
theorem colored_le (c : Int) (zs : List Int) : colored c zs ≤ zs.length := List.countP_le_length
theorem colored_set (c d : Int) (zs : List Int) (i : Nat) (h : i < zs.length) (hcd : d ≠ c) : colored c (zs.set i d) ≤ colored c zs := by
  unfold colored
  rw [List.countP_set (p := fun z : Int => decide (z = c)) (l := zs) (i := i) (a := d) h]
  simp only [hcd, decide_false, Bool.false_eq_true, if_false]
  omega
theorem colored_lt (c d : Int) (zs : List Int) (i : Nat) (h : i < zs.length) (hcd : d ≠ c) (hi : zs[i] = c) : colored c (zs.set i d) + 1 = colored c zs := by
  unfold colored
  have h1 := List.countP_set (p := fun z : Int => decide (z = c)) (l := zs) (i := i) (a := d) h
  have h2 : 0 < zs.countP (fun z => decide (z = c)) := List.countP_pos_iff.2 ⟨zs[i], List.getElem_mem _, by simpa using hi⟩
  rw [h1]
  simp only [hi, hcd, decide_false, decide_true, Bool.false_eq_true, if_true, if_false]
  omega
def Eight (T : TrialD) : Prop := T.counts.length = 8 ∧ T.colors.length = 8
def Slots (zs : List Int) : Prop := ∀ z ∈ zs, 0 ≤ z ∧ z ≤ 7
def kidsOf (H : HeapD) (k : Int) : List Int := match H.objs[k.toNat]? with
  | some o => kidL H o.field
  | none => []
theorem slotZ_range (H : HeapD) (z : Int) : -1 ≤ slotZ H z ∧ slotZ H z ≤ 7 := by
  unfold slotZ
  split
  · omega
  · split
    · omega
    · split <;> omega
theorem kidL_slots (H : HeapD) (zs : List Int) : Slots (kidL H zs) := by
  induction zs with
  | nil => intro z hz; simp [kidL] at hz
  | cons x r ih =>
    intro z hz
    unfold kidL at hz
    split at hz
    · rename_i h0
      rcases List.mem_cons.1 hz with rfl | hz
      · exact ⟨h0, (slotZ_range H x).2⟩
      · exact ih z hz
    · exact ih z hz
theorem kidsOf_slots (H : HeapD) (k : Int) : Slots (kidsOf H k) := by
  unfold kidsOf
  split
  · exact kidL_slots H _
  · intro z hz; cases hz
theorem kidsOf_at (H : HeapD) (s : Nat) (h : s < H.objs.length) : kidsOf H (s : Int) = kidL H H.objs[s].field := by
  unfold kidsOf
  rw [show ((s : Int)).toNat = s from by omega, List.getElem?_eq_getElem h]
theorem kidsOf_le (H : HeapD) (k : Int) (hs : SmallH H) : (kidsOf H k).length ≤ 1048576 := by
  unfold kidsOf
  split
  · rename_i o ho
    have h1 := hs.fields o (List.mem_of_getElem? ho)
    exact Nat.le_trans (kidL_le H _) h1
  · simp
def kidStep (d c : Int) (p : TrialD × List Int) (z : Int) : TrialD × List Int :=
  if p.1.colors.getD z.toNat 0 = c then (⟨p.1.counts.set z.toNat (wrap64 (p.1.counts.getD z.toNat 0 + d)), p.1.colors⟩, p.2)
  else (⟨p.1.counts.set z.toNat (wrap64 (p.1.counts.getD z.toNat 0 + d)), p.1.colors.set z.toNat c⟩, p.2 ++ [z])
def mu (c : Int) (p : TrialD × List Int) : Nat := 2 * others c p.1.colors + p.2.length
theorem kidStep_ok (d c : Int) (p : TrialD × List Int) (z : Int) (h8 : Eight p.1) (hs : Slots p.2) (hz : 0 ≤ z ∧ z ≤ 7) :
    Eight (kidStep d c p z).1 ∧ Slots (kidStep d c p z).2 ∧ mu c (kidStep d c p z) ≤ mu c p := by
  obtain ⟨h1, h2⟩ := h8
  unfold kidStep
  split
  · exact ⟨⟨by simpa using h1, h2⟩, hs, Nat.le_refl _⟩
  · rename_i hne
    have hi : z.toNat < p.1.colors.length := by omega
    rw [List.getD_eq_getElem?_getD, List.getElem?_eq_getElem hi, Option.getD_some] at hne
    refine ⟨⟨by simpa using h1, by simpa using h2⟩, fun x hx => ?_, ?_⟩
    · rcases List.mem_append.1 hx with hx | hx
      · exact hs x hx
      · rw [List.mem_singleton.1 hx]; exact hz
    · have := others_set c p.1.colors z.toNat hi hne
      simp only [mu, List.length_append, List.length_singleton]
      omega
theorem kids_ok (d c : Int) (ks : List Int) : ∀ (p : TrialD × List Int), Eight p.1 → Slots p.2 → Slots ks → Eight (ks.foldl (kidStep d c) p).1 ∧ Slots (ks.foldl (kidStep d c) p).2 ∧ mu c (ks.foldl (kidStep d c) p) ≤ mu c p := by
  induction ks with
  | nil => intro p h8 hs _; exact ⟨h8, hs, Nat.le_refl _⟩
  | cons z r ih =>
    intro p h8 hs hk
    obtain ⟨a1, a2, a3⟩ := kidStep_ok d c p z h8 hs (hk z (by simp))
    obtain ⟨b1, b2, b3⟩ := ih _ a1 a2 (fun x hx => hk x (by simp [hx]))
    exact ⟨b1, b2, Nat.le_trans b3 a3⟩
def roundS (d c : Int) (kids : Int → List Int) (T : TrialD) (rest : List Int) (k : Int) : TrialD × List Int := (kids k).foldl (kidStep d c) (T, rest)
def spread (d c : Int) (kids : Int → List Int) : Nat → TrialD → List Int → TrialD
  | 0, T, _ => T
  | f + 1, T, todo => match todo.getLast? with
    | none => T
    | some k => spread d c kids f (roundS d c kids T todo.dropLast k).1 (roundS d c kids T todo.dropLast k).2
theorem spread_nil (d c : Int) (kids : Int → List Int) (f : Nat) (T : TrialD) : spread d c kids f T [] = T := by
  cases f <;> rfl
theorem spread_snoc (d c : Int) (kids : Int → List Int) (f : Nat) (T : TrialD) (rest : List Int) (k : Int) : spread d c kids (f + 1) T (rest ++ [k]) = spread d c kids f (roundS d c kids T rest k).1 (roundS d c kids T rest k).2 := by
  simp [spread]
theorem round_ok (d c : Int) (kids : Int → List Int) (hk : ∀ k, Slots (kids k)) (T : TrialD) (rest : List Int) (k : Int) (h8 : Eight T) (hs : Slots (rest ++ [k])) :
    Eight (roundS d c kids T rest k).1 ∧ Slots (roundS d c kids T rest k).2 ∧ mu c (roundS d c kids T rest k) < mu c (T, rest ++ [k]) := by
  obtain ⟨a1, a2, a3⟩ := kids_ok d c (kids k) (T, rest) h8 (fun x hx => hs x (by simp [hx])) (hk k)
  refine ⟨a1, a2, Nat.lt_of_le_of_lt a3 ?_⟩
  simp [mu]
theorem spread_eight (d c : Int) (kids : Int → List Int) (hk : ∀ k, Slots (kids k)) : ∀ (f : Nat) (T : TrialD) (todo : List Int), Eight T → Slots todo → Eight (spread d c kids f T todo) := by
  intro f
  induction f with
  | zero => intro T todo h8 _; exact h8
  | succ f ih =>
    intro T todo h8 hs
    rcases List.eq_nil_or_concat todo with rfl | ⟨rest, k, rfl⟩
    · rw [spread_nil]; exact h8
    · rw [List.concat_eq_append] at hs ⊢
      rw [spread_snoc]
      obtain ⟨a1, a2, _⟩ := round_ok d c kids hk T rest k h8 hs
      exact ih _ _ a1 a2
theorem spread_more (d c : Int) (kids : Int → List Int) (hk : ∀ k, Slots (kids k)) : ∀ (m : Nat) (f g : Nat) (T : TrialD) (todo : List Int), Eight T → Slots todo → mu c (T, todo) ≤ m → m ≤ f → m ≤ g → spread d c kids f T todo = spread d c kids g T todo := by
  intro m
  induction m with
  | zero =>
    intro f g T todo h8 hs hm hf hg
    have : todo = [] := List.eq_nil_of_length_eq_zero (by simp only [mu] at hm; omega)
    subst this
    rw [spread_nil, spread_nil]
  | succ m ih =>
    intro f g T todo h8 hs hm hf hg
    rcases List.eq_nil_or_concat todo with rfl | ⟨rest, k, rfl⟩
    · rw [spread_nil, spread_nil]
    · rw [List.concat_eq_append] at hs hm ⊢
      obtain ⟨f, rfl⟩ : ∃ f', f = f' + 1 := ⟨f - 1, by omega⟩
      obtain ⟨g, rfl⟩ : ∃ g', g = g' + 1 := ⟨g - 1, by omega⟩
      rw [spread_snoc, spread_snoc]
      obtain ⟨a1, a2, a3⟩ := round_ok d c kids hk T rest k h8 hs
      exact ih f g _ _ a1 a2 (by show mu c (roundS d c kids T rest k) ≤ m; omega) (by omega) (by omega)
def spreadAll (d c : Int) (H : HeapD) (T : TrialD) (todo : List Int) : TrialD := spread d c (kidsOf H) (mu c (T, todo)) T todo
theorem spreadAll_nil (d c : Int) (H : HeapD) (T : TrialD) : spreadAll d c H T [] = T := spread_nil _ _ _ _ _
theorem spreadAll_snoc (d c : Int) (H : HeapD) (T : TrialD) (rest : List Int) (k : Int) (h8 : Eight T) (hs : Slots (rest ++ [k])) : spreadAll d c H T (rest ++ [k]) = spreadAll d c H (roundS d c (kidsOf H) T rest k).1 (roundS d c (kidsOf H) T rest k).2 := by
  obtain ⟨a1, a2, a3⟩ := round_ok d c (kidsOf H) (kidsOf_slots H) T rest k h8 hs
  unfold spreadAll
  obtain ⟨m, hm⟩ : ∃ m, mu c (T, rest ++ [k]) = m + 1 := ⟨mu c (T, rest ++ [k]) - 1, by omega⟩
  rw [hm, spread_snoc]
  exact spread_more d c (kidsOf H) (kidsOf_slots H) _ _ _ _ _ a1 a2 (Nat.le_refl _) (by show mu c (roundS d c (kidsOf H) T rest k) ≤ m; omega) (Nat.le_refl _)
theorem spreadAll_eight (d c : Int) (H : HeapD) (T : TrialD) (todo : List Int) (h8 : Eight T) (hs : Slots todo) : Eight (spreadAll d c H T todo) := spread_eight d c _ (kidsOf_slots H) _ T todo h8 hs
def grayT (H : HeapD) (T : TrialD) (slot : Int) : TrialD := spreadAll (-1) 1 H ⟨T.counts, T.colors.set slot.toNat 1⟩ [slot]
def blackT (H : HeapD) (T : TrialD) (slot : Int) : TrialD := spreadAll 1 0 H ⟨T.counts, T.colors.set slot.toNat 0⟩ [slot]
end Go.Proofs.Ytnjplfofcjonhaa

namespace Go.Proofs.Ytnjplfofcjonhaa
open Go.RowKit
set_option linter.unusedVariables false
set_option maxRecDepth 100000
theorem kidStep_colored (d c e : Int) (hc : c ≠ e) (p : TrialD × List Int) (z : Int) (h8 : Eight p.1) (hz : 0 ≤ z ∧ z ≤ 7) : colored e (kidStep d c p z).1.colors ≤ colored e p.1.colors := by
  unfold kidStep
  split
  · exact Nat.le_refl _
  · exact colored_set e c p.1.colors z.toNat (by have := h8.2; omega) hc
theorem kids_colored (d c e : Int) (hc : c ≠ e) (ks : List Int) : ∀ (p : TrialD × List Int), Eight p.1 → Slots p.2 → Slots ks → colored e (ks.foldl (kidStep d c) p).1.colors ≤ colored e p.1.colors := by
  induction ks with
  | nil => intro p _ _ _; exact Nat.le_refl _
  | cons z r ih =>
    intro p h8 hs hk
    obtain ⟨a1, a2, _⟩ := kidStep_ok d c p z h8 hs (hk z (by simp))
    exact Nat.le_trans (ih _ a1 a2 (fun x hx => hk x (by simp [hx]))) (kidStep_colored d c e hc p z h8 (hk z (by simp)))
theorem spread_colored (d c e : Int) (hc : c ≠ e) (kids : Int → List Int) (hk : ∀ k, Slots (kids k)) : ∀ (f : Nat) (T : TrialD) (todo : List Int), Eight T → Slots todo → colored e (spread d c kids f T todo).colors ≤ colored e T.colors := by
  intro f
  induction f with
  | zero => intro T todo _ _; exact Nat.le_refl _
  | succ f ih =>
    intro T todo h8 hs
    rcases List.eq_nil_or_concat todo with rfl | ⟨rest, k, rfl⟩
    · rw [spread_nil]; exact Nat.le_refl _
    · rw [List.concat_eq_append] at hs ⊢
      rw [spread_snoc]
      obtain ⟨a1, a2, _⟩ := round_ok d c kids hk T rest k h8 hs
      exact Nat.le_trans (ih _ _ a1 a2) (kids_colored d c e hc (kids k) (T, rest) h8 (fun x hx => hs x (by simp [hx])) (hk k))
theorem black_eight (H : HeapD) (T : TrialD) (k : Int) (h8 : Eight T) (hk : 0 ≤ k ∧ k ≤ 7) : Eight (blackT H T k) :=
  spreadAll_eight 1 0 H _ _ ⟨h8.1, by simpa using h8.2⟩ (fun z hz => by rw [List.mem_singleton.1 hz]; exact hk)
theorem black_gray (H : HeapD) (T : TrialD) (k : Int) (h8 : Eight T) (hk : 0 ≤ k ∧ k ≤ 7) : colored 1 (blackT H T k).colors ≤ colored 1 T.colors := by
  refine Nat.le_trans (spread_colored 1 0 1 (by decide) (kidsOf H) (kidsOf_slots H) _ _ _ ⟨h8.1, by simpa using h8.2⟩ (fun z hz => by rw [List.mem_singleton.1 hz]; exact hk)) ?_
  exact colored_set 1 0 T.colors k.toNat (by have := h8.2; omega) (by decide)
def scanS (H : HeapD) (T : TrialD) (rest : List Int) (k : Int) : TrialD × List Int :=
  if T.colors.getD k.toNat 0 ≠ 1 then (T, rest)
  else if 0 < T.counts.getD k.toNat 0 then (blackT H T k, rest)
  else (⟨T.counts, T.colors.set k.toNat 2⟩, rest ++ kidsOf H k)
def nu (p : TrialD × List Int) : Nat := colored 1 p.1.colors * 1048577 + p.2.length
theorem scanS_ok (H : HeapD) (hs : SmallH H) (T : TrialD) (rest : List Int) (k : Int) (h8 : Eight T) (ht : Slots (rest ++ [k])) :
    Eight (scanS H T rest k).1 ∧ Slots (scanS H T rest k).2 ∧ nu (scanS H T rest k) < nu (T, rest ++ [k]) := by
  have hk := ht k (by simp)
  have hr : Slots rest := fun z hz => ht z (by simp [hz])
  have hi : k.toNat < T.colors.length := by have := h8.2; omega
  unfold scanS
  split
  · exact ⟨h8, hr, by simp [nu]⟩
  · rename_i hg
    split
    · refine ⟨black_eight H T k h8 hk, hr, ?_⟩
      have h1 := Nat.mul_le_mul_right 1048577 (black_gray H T k h8 hk)
      simp only [nu, List.length_append, List.length_singleton]
      omega
    · have hg2 : T.colors[k.toNat] = 1 := by
        have h1 := Decidable.not_not.1 hg
        rw [List.getD_eq_getElem?_getD, List.getElem?_eq_getElem hi, Option.getD_some] at h1
        exact h1
      refine ⟨⟨h8.1, by simpa using h8.2⟩, fun z hz => ?_, ?_⟩
      · rcases List.mem_append.1 hz with hz | hz
        · exact hr z hz
        · exact kidsOf_slots H k z hz
      · have h1 := colored_lt 1 2 T.colors k.toNat hi (by decide) hg2
        have h2 := kidsOf_le H k hs
        simp only [nu, List.length_append, List.length_singleton]
        rw [← h1, Nat.add_mul]
        omega
def scan (H : HeapD) : Nat → TrialD → List Int → TrialD
  | 0, T, _ => T
  | f + 1, T, todo => match todo.getLast? with
    | none => T
    | some k => scan H f (scanS H T todo.dropLast k).1 (scanS H T todo.dropLast k).2
theorem scan_nil (H : HeapD) (f : Nat) (T : TrialD) : scan H f T [] = T := by cases f <;> rfl
theorem scan_snoc (H : HeapD) (f : Nat) (T : TrialD) (rest : List Int) (k : Int) : scan H (f + 1) T (rest ++ [k]) = scan H f (scanS H T rest k).1 (scanS H T rest k).2 := by simp [scan]
theorem scan_more (H : HeapD) (hs : SmallH H) : ∀ (m f g : Nat) (T : TrialD) (todo : List Int), Eight T → Slots todo → nu (T, todo) ≤ m → m ≤ f → m ≤ g → scan H f T todo = scan H g T todo := by
  intro m
  induction m with
  | zero =>
    intro f g T todo h8 ht hm hf hg
    have : todo = [] := List.eq_nil_of_length_eq_zero (by simp only [nu] at hm; omega)
    subst this
    rw [scan_nil, scan_nil]
  | succ m ih =>
    intro f g T todo h8 ht hm hf hg
    rcases List.eq_nil_or_concat todo with rfl | ⟨rest, k, rfl⟩
    · rw [scan_nil, scan_nil]
    · rw [List.concat_eq_append] at ht hm ⊢
      obtain ⟨f, rfl⟩ : ∃ f', f = f' + 1 := ⟨f - 1, by omega⟩
      obtain ⟨g, rfl⟩ : ∃ g', g = g' + 1 := ⟨g - 1, by omega⟩
      rw [scan_snoc, scan_snoc]
      obtain ⟨a1, a2, a3⟩ := scanS_ok H hs T rest k h8 ht
      exact ih f g _ _ a1 a2 (by show nu (scanS H T rest k) ≤ m; omega) (by omega) (by omega)
def scanAll (H : HeapD) (T : TrialD) (todo : List Int) : TrialD := scan H (nu (T, todo)) T todo
theorem scanAll_nil (H : HeapD) (T : TrialD) : scanAll H T [] = T := scan_nil _ _ _
theorem scanAll_snoc (H : HeapD) (hs : SmallH H) (T : TrialD) (rest : List Int) (k : Int) (h8 : Eight T) (ht : Slots (rest ++ [k])) : scanAll H T (rest ++ [k]) = scanAll H (scanS H T rest k).1 (scanS H T rest k).2 := by
  obtain ⟨a1, a2, a3⟩ := scanS_ok H hs T rest k h8 ht
  unfold scanAll
  obtain ⟨m, hm⟩ : ∃ m, nu (T, rest ++ [k]) = m + 1 := ⟨nu (T, rest ++ [k]) - 1, by omega⟩
  rw [hm, scan_snoc]
  exact scan_more H hs _ _ _ _ _ a1 a2 (Nat.le_refl _) (by show nu (scanS H T rest k) ≤ m; omega) (Nat.le_refl _)
def scanT (H : HeapD) (T : TrialD) (slot : Int) : TrialD := scanAll H T [slot]
end Go.Proofs.Ytnjplfofcjonhaa

namespace Go.Proofs.Ytnjplfofcjonhaa
open Go.RowKit
set_option linter.unusedVariables false
set_option maxRecDepth 100000
def col (T : TrialD) (j : Nat) : Int := T.colors.getD j 0
def cnt (T : TrialD) (j : Nat) : Int := T.counts.getD j 0
def stepN (d : Int) : Nat → Int → Int
  | 0, z => z
  | n + 1, z => wrap64 (stepN d n z + d)
theorem stepN_add (d : Int) (m n : Nat) (z : Int) : stepN d (m + n) z = stepN d n (stepN d m z) := by
  induction n with
  | zero => rfl
  | succ n ih => rw [← Nat.add_assoc]; simp only [stepN]; rw [ih]
theorem getD_set (zs : List Int) (i j : Nat) (x : Int) (h : i < zs.length) : (zs.set i x).getD j 0 = if i = j then x else zs.getD j 0 := by
  simp only [List.getD_eq_getElem?_getD, List.getElem?_set]
  by_cases e : i = j
  · subst e; simp [h]
  · simp [e]
theorem eight_ext {A B : TrialD} (hA : Eight A) (hB : Eight B) (h1 : ∀ j, j < 8 → col A j = col B j) (h2 : ∀ j, j < 8 → cnt A j = cnt B j) : A = B := by
  obtain ⟨a1, a2⟩ := A
  obtain ⟨b1, b2⟩ := B
  simp only [Eight] at hA hB
  have key : ∀ (x y : List Int), x.length = 8 → y.length = 8 → (∀ j, j < 8 → x.getD j 0 = y.getD j 0) → x = y := by
    intro x y hx hy h
    refine List.ext_getElem (by omega) (fun i h3 h4 => ?_)
    have := h i (by omega)
    simpa [List.getD_eq_getElem?_getD, List.getElem?_eq_getElem h3, List.getElem?_eq_getElem h4] using this
  rw [key a1 b1 hA.1 hB.1 h2, key a2 b2 hA.2 hB.2 h1]
structure Pt (d c : Int) (T0 T : TrialD) (C : List Nat) (M : List Int) : Prop where
  e : Eight T
  col : ∀ j, j < 8 → col T j = if j ∈ C then c else col T0 j
  cnt : ∀ j, j < 8 → cnt T j = stepN d (M.count (j : Int)) (cnt T0 j)
theorem pt_refl (d c : Int) (T : TrialD) (h : Eight T) : Pt d c T T [] [] := ⟨h, fun j _ => by simp, fun j _ => by simp [stepN]⟩
theorem pt_col {d c : Int} {T0 T : TrialD} {C : List Nat} {M : List Int} (h : Pt d c T0 T C M) (k : Nat) (hk : k < 8) : Pt d c T0 ⟨T.counts, T.colors.set k c⟩ (C ++ [k]) M := by
  refine ⟨⟨h.e.1, by simpa using h.e.2⟩, fun j hj => ?_, h.cnt⟩
  show (T.colors.set k c).getD j 0 = _
  rw [getD_set _ _ _ _ (by have := h.e.2; omega)]
  have := h.col j hj
  unfold Go.Proofs.Ytnjplfofcjonhaa.col at this
  by_cases e : k = j
  · subst e; simp
  · rw [if_neg e, this]
    have : ¬ j = k := fun x => e x.symm
    simp [this, Go.Proofs.Ytnjplfofcjonhaa.col]
theorem pt_cnt {d c : Int} {T0 T : TrialD} {C : List Nat} {M : List Int} (h : Pt d c T0 T C M) (z : Int) (hz : 0 ≤ z ∧ z ≤ 7) : Pt d c T0 ⟨T.counts.set z.toNat (wrap64 (T.counts.getD z.toNat 0 + d)), T.colors⟩ C (M ++ [z]) := by
  refine ⟨⟨by simpa using h.e.1, h.e.2⟩, h.col, fun j hj => ?_⟩
  show (T.counts.set z.toNat _).getD j 0 = _
  rw [getD_set _ _ _ _ (by have := h.e.1; omega)]
  have hc := h.cnt j hj
  unfold Go.Proofs.Ytnjplfofcjonhaa.cnt at hc
  rw [List.count_append]
  by_cases e : z.toNat = j
  · have ez : z = (j : Int) := by omega
    subst ez
    rw [if_pos e, e, hc]
    simp [stepN, Go.Proofs.Ytnjplfofcjonhaa.cnt]
  · have ez : ¬ z = (j : Int) := by omega
    have h0 : List.count (j : Int) [z] = 0 := List.count_eq_zero_of_not_mem (by simp; exact fun x => ez x.symm)
    rw [if_neg e, hc, h0, Nat.add_zero]
    rfl
theorem pt_perm {d c : Int} {T0 T : TrialD} {C C' : List Nat} {M M' : List Int} (h : Pt d c T0 T C M) (hC : ∀ j, j ∈ C ↔ j ∈ C') (hM : M.Perm M') : Pt d c T0 T C' M' :=
  ⟨h.e, fun j hj => by rw [h.col j hj]; simp only [hC], fun j hj => by rw [h.cnt j hj, hM.count_eq]⟩
def flat (H : HeapD) (C : List Nat) : List Int := C.flatMap (fun k : Nat => kidsOf H (k : Int))
theorem flat_nil (H : HeapD) : flat H [] = [] := rfl
theorem flat_cons (H : HeapD) (k : Nat) (C : List Nat) : flat H (k :: C) = kidsOf H (k : Int) ++ flat H C := by simp [flat]
theorem flat_append (H : HeapD) (C D : List Nat) : flat H (C ++ D) = flat H C ++ flat H D := by simp [flat]
theorem flat_perm (H : HeapD) {C D : List Nat} (h : C.Perm D) : (flat H C).Perm (flat H D) := List.Perm.flatMap_right _ h
theorem mem_flat {H : HeapD} {C : List Nat} {z : Int} : z ∈ flat H C ↔ ∃ k ∈ C, z ∈ kidsOf H (k : Int) := by simp [flat]
def Runs (c : Int) (H : HeapD) (T0 : TrialD) (R : Nat → Prop) : Prop := ∀ i j : Nat, R i → (j : Int) ∈ kidsOf H (i : Int) → col T0 j ≠ c → R j
def Rch (c : Int) (H : HeapD) (T0 : TrialD) (s k : Nat) : Prop := ∀ R : Nat → Prop, R s → Runs c H T0 R → R k
structure Fin' (d c : Int) (H : HeapD) (T0 : TrialD) (s : Nat) (T : TrialD) (C : List Nat) : Prop where
  pt : Pt d c T0 T C (flat H C)
  nd : C.Nodup
  sl : ∀ k ∈ C, k < 8
  st : s ∈ C
  no : ∀ k ∈ C, col T0 k ≠ c
  sound : ∀ k ∈ C, Rch c H T0 s k
  all : ∀ i ∈ C, ∀ j : Nat, (j : Int) ∈ kidsOf H (i : Int) → col T0 j ≠ c → j ∈ C
theorem fin_mem {d c : Int} {H : HeapD} {T0 T : TrialD} {s : Nat} {C : List Nat} (h : Fin' d c H T0 s T C) (k : Nat) : k ∈ C ↔ Rch c H T0 s k :=
  ⟨h.sound k, fun hr => hr (fun j => j ∈ C) h.st (fun i j hi hj hc => h.all i hi j hj hc)⟩
theorem fin_one {d c : Int} {H : HeapD} {T0 A B : TrialD} {s : Nat} {C D : List Nat} (h1 : Fin' d c H T0 s A C) (h2 : Fin' d c H T0 s B D) : A = B := by
  have hm : ∀ k, k ∈ C ↔ k ∈ D := fun k => (fin_mem h1 k).trans (fin_mem h2 k).symm
  have hp : C.Perm D := (List.perm_ext_iff_of_nodup h1.nd h2.nd).2 hm
  refine eight_ext h1.pt.e h2.pt.e (fun j hj => ?_) (fun j hj => ?_)
  · rw [h1.pt.col j hj, h2.pt.col j hj]; simp only [hm]
  · rw [h1.pt.cnt j hj, h2.pt.cnt j hj, (flat_perm H hp).count_eq]
structure Wait (d c : Int) (H : HeapD) (T0 : TrialD) (R : Nat → Prop) (T : TrialD) (todo : List Int) (C E F : List Nat) (M : List Int) : Prop where
  pt : Pt d c T0 T C M
  nd : C.Nodup
  sl : ∀ k ∈ C, k < 8
  no : ∀ k ∈ C, col T0 k ≠ c
  sound : ∀ k ∈ C, R k
  split : C.Perm (E ++ todo.map Int.toNat)
  slots : Slots todo
  all : ∀ i ∈ F, ∀ j : Nat, (j : Int) ∈ kidsOf H (i : Int) → col T0 j ≠ c → j ∈ C
theorem wait_kid {d c : Int} {H : HeapD} {T0 : TrialD} {R : Nat → Prop} {T : TrialD} {todo : List Int} {C E F : List Nat} {M : List Int} (h : Wait d c H T0 R T todo C E F M) (z : Int) (hz : 0 ≤ z ∧ z ≤ 7) (hR : col T0 z.toNat ≠ c → R z.toNat) :
    ∃ C', Wait d c H T0 R (kidStep d c (T, todo) z).1 (kidStep d c (T, todo) z).2 C' E F (M ++ [z]) ∧ (∀ k ∈ C, k ∈ C') ∧ (col T0 z.toNat ≠ c → z.toNat ∈ C') := by
  have hc := h.pt.col z.toNat (by omega)
  unfold kidStep
  split
  · rename_i hg
    have hg2 : col T z.toNat = c := hg
    refine ⟨C, ⟨pt_cnt h.pt z hz, h.nd, h.sl, h.no, h.sound, h.split, h.slots, h.all⟩, fun k hk => hk, fun hne => ?_⟩
    rw [hg2] at hc
    by_cases hm : z.toNat ∈ C
    · exact hm
    · rw [if_neg hm] at hc; exact absurd hc.symm hne
  · rename_i hg
    have hg2 : ¬ col T z.toNat = c := hg
    have hm : z.toNat ∉ C := fun hm => by rw [if_pos hm] at hc; exact hg2 hc
    rw [if_neg hm] at hc
    have hne : col T0 z.toNat ≠ c := by rw [← hc]; exact hg2
    refine ⟨C ++ [z.toNat], ⟨?_, ?_, ?_, ?_, ?_, ?_, ?_, ?_⟩, fun k hk => by simp [hk], fun _ => by simp⟩
    · exact pt_col (pt_cnt h.pt z hz) z.toNat (by omega)
    · rw [List.nodup_append]
      exact ⟨h.nd, by simp, fun a ha b hb e => by simp at hb; subst hb; subst e; exact hm ha⟩
    · intro k hk
      rcases List.mem_append.1 hk with hk | hk
      · exact h.sl k hk
      · simp at hk; omega
    · intro k hk
      rcases List.mem_append.1 hk with hk | hk
      · exact h.no k hk
      · rw [List.mem_singleton.1 hk]; exact hne
    · intro k hk
      rcases List.mem_append.1 hk with hk | hk
      · exact h.sound k hk
      · rw [List.mem_singleton.1 hk]; exact hR hne
    · rw [List.map_append, ← List.append_assoc]
      exact h.split.append_right _
    · intro x hx
      rcases List.mem_append.1 hx with hx | hx
      · exact h.slots x hx
      · rw [List.mem_singleton.1 hx]; exact hz
    · intro i hi j hj hc; simp [h.all i hi j hj hc]
theorem wait_kids {d c : Int} {H : HeapD} {T0 : TrialD} {R : Nat → Prop} (ks : List Int) (hks : Slots ks) (hR : ∀ z ∈ ks, col T0 z.toNat ≠ c → R z.toNat) : ∀ {T : TrialD} {todo : List Int} {C E F : List Nat} {M : List Int}, Wait d c H T0 R T todo C E F M →
    ∃ C', Wait d c H T0 R (ks.foldl (kidStep d c) (T, todo)).1 (ks.foldl (kidStep d c) (T, todo)).2 C' E F (M ++ ks) ∧ (∀ k ∈ C, k ∈ C') ∧ (∀ z ∈ ks, col T0 z.toNat ≠ c → z.toNat ∈ C') := by
  induction ks with
  | nil => intro T todo C E F M h; exact ⟨C, by simpa using h, fun _ hk => hk, fun z hz => by cases hz⟩
  | cons z r ih =>
    intro T todo C E F M h
    obtain ⟨C1, h1, a1, b1⟩ := wait_kid h z (hks z (by simp)) (hR z (by simp))
    obtain ⟨C2, h2, a2, b2⟩ := ih (fun x hx => hks x (by simp [hx])) (fun x hx => hR x (by simp [hx])) h1
    refine ⟨C2, by simpa using h2, fun k hk => a2 k (a1 k hk), fun x hx hne => ?_⟩
    rcases List.mem_cons.1 hx with rfl | hx
    · exact a2 _ (b1 hne)
    · exact b2 x hx hne
theorem wait_round {d c : Int} {H : HeapD} {T0 : TrialD} {R : Nat → Prop} (hR : Runs c H T0 R) {T : TrialD} {rest : List Int} {k : Int} {C E : List Nat} {M : List Int} (h : Wait d c H T0 R T (rest ++ [k]) C E E M) :
    ∃ C', Wait d c H T0 R (roundS d c (kidsOf H) T rest k).1 (roundS d c (kidsOf H) T rest k).2 C' (E ++ [k.toNat]) (E ++ [k.toNat]) (M ++ kidsOf H k) ∧ ∀ x ∈ C, x ∈ C' := by
  have hk := h.slots k (by simp)
  have ek : ((k.toNat : Nat) : Int) = k := by omega
  have hkC : k.toNat ∈ C := h.split.mem_iff.2 (by simp)
  have hRz : ∀ z ∈ kidsOf H k, col T0 z.toNat ≠ c → R z.toNat := fun z hz hne => by
    have h0 := kidsOf_slots H k z hz
    refine hR k.toNat z.toNat (h.sound _ hkC) ?_ hne
    rw [ek, show ((z.toNat : Nat) : Int) = z from by omega]; exact hz
  have h1 : Wait d c H T0 R T rest C (E ++ [k.toNat]) E M := by
    refine ⟨h.pt, h.nd, h.sl, h.no, h.sound, h.split.trans ?_, fun x hx => h.slots x (by simp [hx]), h.all⟩
    rw [List.map_append, List.append_assoc]
    exact (List.perm_append_comm (l₁ := rest.map Int.toNat) (l₂ := [k.toNat])).append_left E
  obtain ⟨C', h2, a2, b2⟩ := wait_kids (kidsOf H k) (kidsOf_slots H k) hRz h1
  refine ⟨C', ⟨h2.pt, h2.nd, h2.sl, h2.no, h2.sound, h2.split, h2.slots, fun i hi j hj hne => ?_⟩, a2⟩
  rcases List.mem_append.1 hi with hi | hi
  · exact h2.all i hi j hj hne
  · rw [List.mem_singleton.1 hi, ek] at hj
    have := b2 (j : Int) hj (by simpa using hne)
    simpa using this
theorem wait_spread {d c : Int} {H : HeapD} {T0 : TrialD} {R : Nat → Prop} (hR : Runs c H T0 R) : ∀ (m : Nat) (f : Nat) {T : TrialD} {todo : List Int} {C E : List Nat} {M : List Int}, Wait d c H T0 R T todo C E E M → mu c (T, todo) ≤ m → m ≤ f → M.Perm (flat H E) →
    ∃ C' M', Wait d c H T0 R (spread d c (kidsOf H) f T todo) [] C' C' C' M' ∧ M'.Perm (flat H C') ∧ ∀ x ∈ C, x ∈ C' := by
  intro m
  induction m with
  | zero =>
    intro f T todo C E M h hm hf hM
    have : todo = [] := List.eq_nil_of_length_eq_zero (by simp only [mu] at hm; omega)
    subst this
    rw [spread_nil]
    have hp : C.Perm E := by simpa using h.split
    exact ⟨C, M, ⟨h.pt, h.nd, h.sl, h.no, h.sound, by simp, h.slots, fun i hi => h.all i (hp.mem_iff.1 hi)⟩, hM.trans (flat_perm H hp.symm), fun _ hx => hx⟩
  | succ m ih =>
    intro f T todo C E M h hm hf hM
    rcases List.eq_nil_or_concat todo with rfl | ⟨rest, k, rfl⟩
    · rw [spread_nil]
      have hp : C.Perm E := by simpa using h.split
      exact ⟨C, M, ⟨h.pt, h.nd, h.sl, h.no, h.sound, by simp, h.slots, fun i hi => h.all i (hp.mem_iff.1 hi)⟩, hM.trans (flat_perm H hp.symm), fun _ hx => hx⟩
    · rw [List.concat_eq_append] at hm h ⊢
      obtain ⟨f, rfl⟩ : ∃ f', f = f' + 1 := ⟨f - 1, by omega⟩
      have hk := h.slots k (by simp)
      obtain ⟨C1, h1, a1⟩ := wait_round hR h
      obtain ⟨e1, e2, e3⟩ := round_ok d c (kidsOf H) (kidsOf_slots H) T rest k h.pt.e h.slots
      rw [spread_snoc]
      obtain ⟨C2, M2, h2, p2, a2⟩ := ih f h1 (by show mu c (roundS d c (kidsOf H) T rest k) ≤ m; omega) (by omega) (by
        rw [flat_append, flat_cons, flat_nil, List.append_nil, show ((k.toNat : Nat) : Int) = k from by omega]
        exact hM.append_right _)
      exact ⟨C2, M2, h2, p2, fun x hx => a2 x (a1 x hx)⟩
theorem spread_fin (d c : Int) (H : HeapD) (T : TrialD) (s : Nat) (h8 : Eight T) (hs : s < 8) (hc : col T s ≠ c) : ∃ C, Fin' d c H T s (spreadAll d c H ⟨T.counts, T.colors.set s c⟩ [(s : Int)]) C := by
  have hR : Runs c H T (Rch c H T s) := fun i j hi hj hne R h1 h2 => h2 i j (hi R h1 h2) hj hne
  have w0 : Wait d c H T (Rch c H T s) ⟨T.counts, T.colors.set s c⟩ [(s : Int)] [s] [] [] [] := by
    refine ⟨by simpa using pt_col (pt_refl d c T h8) s hs, by simp, by simpa using hs, by simpa using hc, ?_, by simp, ?_, by simp⟩
    · intro k hk
      rw [List.mem_singleton.1 hk]
      exact fun R h1 _ => h1
    · intro z hz
      rw [List.mem_singleton.1 hz]; omega
  obtain ⟨C, M, h, hp, a⟩ := wait_spread hR _ _ w0 (Nat.le_refl _) (Nat.le_refl _) (by simp [flat])
  exact ⟨C, ⟨pt_perm h.pt (fun _ => Iff.rfl) hp, h.nd, h.sl, a s (by simp), h.no, h.sound, h.all⟩⟩
structure Deep (d c : Int) (H : HeapD) (T0 : TrialD) (R : Nat → Prop) (T : TrialD) (C : List Nat) (M : List Int) : Prop where
  pt : Pt d c T0 T C M
  nd : C.Nodup
  sl : ∀ k ∈ C, k < 8
  no : ∀ k ∈ C, col T0 k ≠ c
  sound : ∀ k ∈ C, R k
def Shut (c : Int) (H : HeapD) (T0 : TrialD) (C D : List Nat) : Prop := ∀ i ∈ D, ∀ j : Nat, (j : Int) ∈ kidsOf H (i : Int) → col T0 j ≠ c → j ∈ C
def Painted (d c : Int) (H : HeapD) (T0 : TrialD) (R : Nat → Prop) (C : List Nat) (M : List Int) (k : Nat) (T' : TrialD) : Prop :=
  ∃ C2, Deep d c H T0 R T' (C ++ C2) (M ++ flat H C2) ∧ Shut c H T0 (C ++ C2) C2 ∧ (col T0 k ≠ c → k ∈ C ++ C2)
def Midst (d c : Int) (H : HeapD) (T0 : TrialD) (R : Nat → Prop) (C : List Nat) (M : List Int) (k i : Nat) (T : TrialD) : Prop :=
  ∃ C2, Deep d c H T0 R T (C ++ k :: C2) (M ++ ((kidsOf H (k : Int)).take i ++ flat H C2)) ∧ Shut c H T0 (C ++ k :: C2) C2 ∧ ∀ z ∈ (kidsOf H (k : Int)).take i, col T0 z.toNat ≠ c → z.toNat ∈ C ++ k :: C2
theorem painted_yes {d c : Int} {H : HeapD} {T0 T : TrialD} {R : Nat → Prop} {C : List Nat} {M : List Int} {k : Nat} (h : Deep d c H T0 R T C M) (hk : k < 8) (hc : col T k = c) : Painted d c H T0 R C M k T := by
  refine ⟨[], by simpa [flat] using h, fun i hi => (by cases hi), fun hne => ?_⟩
  have := h.pt.col k hk
  rw [hc] at this
  by_cases hm : k ∈ C
  · simpa using hm
  · rw [if_neg hm] at this; exact absurd this.symm hne
theorem midst_start {d c : Int} {H : HeapD} {T0 T : TrialD} {R : Nat → Prop} {C : List Nat} {M : List Int} {k : Nat} (h : Deep d c H T0 R T C M) (hk : k < 8) (hR : col T0 k ≠ c → R k) (hc : col T k ≠ c) : Midst d c H T0 R C M k 0 ⟨T.counts, T.colors.set k c⟩ := by
  have hcl := h.pt.col k hk
  have hm : k ∉ C := fun hm => by rw [if_pos hm] at hcl; exact hc hcl
  rw [if_neg hm] at hcl
  have hne : col T0 k ≠ c := by rw [← hcl]; exact hc
  refine ⟨[], ⟨?_, ?_, ?_, ?_, ?_⟩, fun i hi => (by cases hi), fun z hz => (by simp at hz)⟩
  · simpa [flat] using pt_col h.pt k hk
  · rw [List.nodup_append]
    exact ⟨h.nd, by simp, fun a ha b hb e => by simp at hb; subst hb; subst e; exact hm ha⟩
  all_goals
    intro x hx
    rcases List.mem_append.1 hx with hx | hx
  · exact h.sl x hx
  · rw [List.mem_singleton.1 hx]; exact hk
  · exact h.no x hx
  · rw [List.mem_singleton.1 hx]; exact hne
  · exact h.sound x hx
  · rw [List.mem_singleton.1 hx]; exact hR hne
theorem midst_count {d c : Int} {H : HeapD} {T0 T : TrialD} {R : Nat → Prop} (hR : Runs c H T0 R) {C : List Nat} {M : List Int} {k i : Nat} (h : Midst d c H T0 R C M k i T) (hi : i < (kidsOf H (k : Int)).length) (z : Int) (hz : (kidsOf H (k : Int))[i] = z) :
    ∃ C2, Deep d c H T0 R ⟨T.counts.set z.toNat (wrap64 (T.counts.getD z.toNat 0 + d)), T.colors⟩ (C ++ k :: C2) (M ++ ((kidsOf H (k : Int)).take (i + 1) ++ flat H C2)) ∧ Shut c H T0 (C ++ k :: C2) C2 ∧ (∀ z ∈ (kidsOf H (k : Int)).take i, col T0 z.toNat ≠ c → z.toNat ∈ C ++ k :: C2) ∧ (col T0 z.toNat ≠ c → R z.toNat) ∧ (0 ≤ z ∧ z ≤ 7) := by
  obtain ⟨C2, h1, h2, h3⟩ := h
  have hmem : z ∈ kidsOf H (k : Int) := hz ▸ List.getElem_mem hi
  have hzs := kidsOf_slots H (k : Int) z hmem
  refine ⟨C2, ⟨pt_perm (pt_cnt h1.pt z hzs) (fun _ => Iff.rfl) ?_, h1.nd, h1.sl, h1.no, h1.sound⟩, h2, h3, fun hne => ?_, hzs⟩
  · rw [List.take_succ_eq_append_getElem hi, hz, List.append_assoc, List.append_assoc, List.append_assoc]
    exact (List.Perm.append_left _ (List.perm_append_comm)).append_left M
  · exact hR k z.toNat (h1.sound k (by simp)) (by rw [show ((z.toNat : Nat) : Int) = z from by omega]; exact hmem) hne
theorem midst_step {d c : Int} {H : HeapD} {T0 T' : TrialD} {R : Nat → Prop} {C C2 : List Nat} {M : List Int} {k i : Nat} (hi : i < (kidsOf H (k : Int)).length) (z : Int) (hz : (kidsOf H (k : Int))[i] = z) (h2 : Shut c H T0 (C ++ k :: C2) C2) (h3 : ∀ z ∈ (kidsOf H (k : Int)).take i, col T0 z.toNat ≠ c → z.toNat ∈ C ++ k :: C2)
    (hp : Painted d c H T0 R (C ++ k :: C2) (M ++ ((kidsOf H (k : Int)).take (i + 1) ++ flat H C2)) z.toNat T') : Midst d c H T0 R C M k (i + 1) T' := by
  obtain ⟨C3, g1, g2, g3⟩ := hp
  have eC : C ++ k :: C2 ++ C3 = C ++ k :: (C2 ++ C3) := by simp
  refine ⟨C2 ++ C3, ?_, ?_, ?_⟩
  · rw [eC] at g1
    rw [flat_append]
    simpa using g1
  · rw [← eC]
    intro a ha j hj hne
    rcases List.mem_append.1 ha with ha | ha
    · exact List.mem_append_left _ (h2 a ha j hj hne)
    · exact g2 a ha j hj hne
  · rw [← eC, List.take_succ_eq_append_getElem hi, hz]
    intro x hx hne
    rcases List.mem_append.1 hx with hx | hx
    · exact List.mem_append_left _ (h3 x hx hne)
    · rw [List.mem_singleton.1 hx] at hne ⊢; exact g3 hne
theorem midst_end {d c : Int} {H : HeapD} {T0 T : TrialD} {R : Nat → Prop} {C : List Nat} {M : List Int} {k i : Nat} (h : Midst d c H T0 R C M k i T) (hi : (kidsOf H (k : Int)).length ≤ i) : Painted d c H T0 R C M k T := by
  obtain ⟨C2, h1, h2, h3⟩ := h
  rw [List.take_of_length_le hi] at h1 h3
  refine ⟨k :: C2, by rw [flat_cons]; exact h1, fun a ha j hj hne => ?_, fun _ => by simp⟩
  rcases List.mem_cons.1 ha with rfl | ha
  · have := h3 (j : Int) hj (by simpa using hne)
    simpa using this
  · exact h2 a ha j hj hne
theorem painted_all {d c : Int} {H : HeapD} {T T' : TrialD} {k : Nat} (h8 : Eight T) (hk : k < 8) (hc : col T k ≠ c) (h : Painted d c H T (Rch c H T k) [] [] k T') : T' = spreadAll d c H ⟨T.counts, T.colors.set k c⟩ [(k : Int)] := by
  obtain ⟨C, h1, h2, h3⟩ := h
  simp only [List.nil_append] at h1 h2 h3
  obtain ⟨D, hD⟩ := spread_fin d c H T k h8 hk hc
  exact fin_one (C := C) ⟨h1.pt, h1.nd, h1.sl, h3 hc, h1.no, h1.sound, h2⟩ hD
theorem deep_start {d c : Int} {H : HeapD} {T : TrialD} (R : Nat → Prop) (h8 : Eight T) : Deep d c H T R T [] [] := ⟨pt_refl d c T h8, by simp, by simp, by simp, by simp⟩
theorem rch_runs (c : Int) (H : HeapD) (T : TrialD) (s : Nat) : Runs c H T (Rch c H T s) := fun i j hi hj hne R h1 h2 => h2 i j (hi R h1 h2) hj hne
end Go.Proofs.Ytnjplfofcjonhaa

namespace Go.Proofs.Ytnjplfofcjonhaa
open Go.RowKit
set_option linter.unusedVariables false
set_option maxRecDepth 100000
structure ScHyp (H : HeapD) (T0 : TrialD) (A Q : Nat → Prop) : Prop where
  aa : ∀ i j : Nat, A i → cnt T0 i ≤ 0 → (j : Int) ∈ kidsOf H (i : Int) → col T0 j = 1 → A j
  aq : ∀ i : Nat, A i → 0 < cnt T0 i → Q i
  qq : ∀ i j : Nat, Q i → (j : Int) ∈ kidsOf H (i : Int) → col T0 j ≠ 0 → Q j
structure Sc (H : HeapD) (T0 : TrialD) (A Q : Nat → Prop) (T : TrialD) (P S : List Nat) : Prop where
  e : Eight T
  col : ∀ j, j < 8 → col T j = if j ∈ P then 0 else if j ∈ S then 2 else col T0 j
  cnt : ∀ j, j < 8 → cnt T j = stepN 1 ((flat H P).count (j : Int)) (cnt T0 j)
  nd : P.Nodup
  sl : ∀ k ∈ P, k < 8
  pno : ∀ k ∈ P, Go.Proofs.Ytnjplfofcjonhaa.col T0 k ≠ 0
  shut : ∀ i ∈ P, ∀ j : Nat, (j : Int) ∈ kidsOf H (i : Int) → Go.Proofs.Ytnjplfofcjonhaa.col T0 j ≠ 0 → j ∈ P
  wg : ∀ k ∈ S, k < 8 ∧ Go.Proofs.Ytnjplfofcjonhaa.col T0 k = 1 ∧ Go.Proofs.Ytnjplfofcjonhaa.cnt T0 k ≤ 0
  qs : ∀ k ∈ P, Q k
  ws : ∀ k ∈ S, A k
theorem sc_start (H : HeapD) (T : TrialD) (A Q : Nat → Prop) (h8 : Eight T) : Sc H T A Q T [] [] :=
  ⟨h8, fun j _ => by simp, fun j _ => by simp [flat, stepN], by simp, by simp, by simp, by simp, by simp, by simp, by simp⟩
theorem sc_gray {H : HeapD} {T0 T : TrialD} {A Q : Nat → Prop} {P S : List Nat} (h : Sc H T0 A Q T P S) {k : Nat} (hk : k < 8) (hg : col T k = 1) : k ∉ P ∧ k ∉ S ∧ col T0 k = 1 ∧ cnt T k = cnt T0 k := by
  have hc := h.col k hk
  rw [hg] at hc
  have h1 : k ∉ P := fun hm => by rw [if_pos hm] at hc; omega
  rw [if_neg h1] at hc
  have h2 : k ∉ S := fun hm => by rw [if_pos hm] at hc; omega
  rw [if_neg h2] at hc
  refine ⟨h1, h2, hc.symm, ?_⟩
  have h0 : (flat H P).count (k : Int) = 0 := List.count_eq_zero_of_not_mem (fun hm => by
    obtain ⟨i, hi, hz⟩ := mem_flat.1 hm
    exact h1 (h.shut i hi k hz (by omega)))
  rw [h.cnt k hk, h0]; rfl
theorem kid_lt {H : HeapD} {i j : Nat} (h : (j : Int) ∈ kidsOf H (i : Int)) : j < 8 := by
  have := kidsOf_slots H (i : Int) _ h
  omega
theorem sc_not {H : HeapD} {T0 T : TrialD} {A Q : Nat → Prop} {P S : List Nat} (h : Sc H T0 A Q T P S) {k : Nat} (hk : k < 8) (hg : col T k ≠ 1) (h0 : col T0 k = 1) : k ∈ P ∨ k ∈ S := by
  have hc := h.col k hk
  by_cases h1 : k ∈ P
  · exact .inl h1
  · rw [if_neg h1] at hc
    by_cases h2 : k ∈ S
    · exact .inr h2
    · rw [if_neg h2, h0] at hc; exact absurd hc hg
theorem sc_zero {H : HeapD} {T0 T : TrialD} {A Q : Nat → Prop} {P S : List Nat} (h : Sc H T0 A Q T P S) {j : Nat} (hj : j < 8) (hc : col T j ≠ 0) : j ∉ P ∧ col T0 j ≠ 0 := by
  have he := h.col j hj
  have h1 : j ∉ P := fun hm => by rw [if_pos hm] at he; exact hc he
  refine ⟨h1, ?_⟩
  rw [if_neg h1] at he
  by_cases h2 : j ∈ S
  · have := (h.wg j h2).2.1; omega
  · rw [if_neg h2] at he; rw [← he]; exact hc
theorem sc_black {H : HeapD} {T0 T : TrialD} {A Q : Nat → Prop} (hy : ScHyp H T0 A Q) {P S : List Nat} (h : Sc H T0 A Q T P S) {k : Nat} (hk : k < 8) (hg : col T k = 1) (hp : 0 < cnt T k) (hA : A k) :
    ∃ P', Sc H T0 A Q (spreadAll 1 0 H ⟨T.counts, T.colors.set k 0⟩ [(k : Int)]) P' S ∧ (∀ x ∈ P, x ∈ P') ∧ k ∈ P' := by
  obtain ⟨h1, h2, h3, h4⟩ := sc_gray h hk hg
  obtain ⟨C, hF⟩ := spread_fin 1 0 H T k h.e hk (by omega)
  have hz : ∀ j, j < 8 → col T j ≠ 0 → j ∉ P ∧ col T0 j ≠ 0 := fun j hj hc => sc_zero h hj hc
  have hQk : Q k := hy.aq k hA (by omega)
  have hQC : ∀ x ∈ C, Q x := fun x hx => hF.sound x hx Q hQk (fun i j hi hj hc => hy.qq i j hi hj (hz j (kid_lt hj) hc).2)
  refine ⟨P ++ C, ⟨hF.pt.e, fun j hj => ?_, fun j hj => ?_, ?_, ?_, ?_, ?_, h.wg, ?_, h.ws⟩, fun x hx => by simp [hx], by simp [hF.st]⟩
  · rw [hF.pt.col j hj, h.col j hj]
    by_cases hC : j ∈ C
    · simp [hC]
    · by_cases hP : j ∈ P
      · simp [hP]
      · simp [hC, hP]
  · rw [hF.pt.cnt j hj, h.cnt j hj, flat_append, List.count_append, stepN_add]
  · rw [List.nodup_append]
    exact ⟨h.nd, hF.nd, fun a ha b hb e => by subst e; exact (hz a (h.sl a ha) (hF.no a hb)).1 ha⟩
  · intro x hx
    rcases List.mem_append.1 hx with hx | hx
    · exact h.sl x hx
    · exact hF.sl x hx
  · intro x hx
    rcases List.mem_append.1 hx with hx | hx
    · exact h.pno x hx
    · exact (hz x (hF.sl x hx) (hF.no x hx)).2
  · intro i hi j hj hne
    rcases List.mem_append.1 hi with hi | hi
    · exact List.mem_append_left _ (h.shut i hi j hj hne)
    · by_cases hP : j ∈ P
      · exact List.mem_append_left _ hP
      · refine List.mem_append_right _ (hF.all i hi j hj ?_)
        rw [h.col j (kid_lt hj), if_neg hP]
        by_cases hS : j ∈ S
        · rw [if_pos hS]; omega
        · rw [if_neg hS]; exact hne
  · intro x hx
    rcases List.mem_append.1 hx with hx | hx
    · exact h.qs x hx
    · exact hQC x hx
theorem sc_white {H : HeapD} {T0 T : TrialD} {A Q : Nat → Prop} {P S : List Nat} (h : Sc H T0 A Q T P S) {k : Nat} (hk : k < 8) (hg : col T k = 1) (hp : ¬ 0 < cnt T k) (hA : A k) :
    Sc H T0 A Q ⟨T.counts, T.colors.set k 2⟩ P (S ++ [k]) := by
  obtain ⟨h1, h2, h3, h4⟩ := sc_gray h hk hg
  refine ⟨⟨h.e.1, by simpa using h.e.2⟩, fun j hj => ?_, h.cnt, h.nd, h.sl, h.pno, h.shut, ?_, h.qs, ?_⟩
  · show (T.colors.set k 2).getD j 0 = _
    rw [getD_set _ _ _ _ (by have := h.e.2; omega)]
    by_cases e : k = j
    · subst e; simp [h1]
    · rw [if_neg e]
      have hc := h.col j hj
      unfold Go.Proofs.Ytnjplfofcjonhaa.col at hc
      rw [hc]
      have : ¬ j = k := fun x => e x.symm
      simp [this, Go.Proofs.Ytnjplfofcjonhaa.col]
  · intro x hx
    rcases List.mem_append.1 hx with hx | hx
    · exact h.wg x hx
    · rw [List.mem_singleton.1 hx]; exact ⟨hk, h3, by omega⟩
  · intro x hx
    rcases List.mem_append.1 hx with hx | hx
    · exact h.ws x hx
    · rw [List.mem_singleton.1 hx]; exact hA
def AS (H : HeapD) (T0 : TrialD) (s j : Nat) : Prop := ∀ U : Nat → Prop, (col T0 s = 1 → U s) → (∀ a b : Nat, U a → cnt T0 a ≤ 0 → (b : Int) ∈ kidsOf H (a : Int) → col T0 b = 1 → U b) → U j
def QS (H : HeapD) (T0 : TrialD) (s j : Nat) : Prop := ∀ U : Nat → Prop, (∀ a, AS H T0 s a → 0 < cnt T0 a → U a) → (∀ a b : Nat, U a → (b : Int) ∈ kidsOf H (a : Int) → col T0 b ≠ 0 → U b) → U j
theorem as_hyp (H : HeapD) (T0 : TrialD) (s : Nat) : ScHyp H T0 (AS H T0 s) (QS H T0 s) :=
  ⟨fun i j hi hc hj hg U h1 h2 => h2 i j (hi U h1 h2) hc hj hg, fun i hi hc U h1 _ => h1 i hi hc, fun i j hi hj hne U h1 h2 => h2 i j (hi U h1 h2) hj hne⟩
def Full (H : HeapD) (T0 : TrialD) (P S X : List Nat) : Prop := ∀ i ∈ X, ∀ j : Nat, (j : Int) ∈ kidsOf H (i : Int) → col T0 j = 1 → j ∈ P ∨ j ∈ S
structure FinS (H : HeapD) (T0 : TrialD) (s : Nat) (T : TrialD) (P S : List Nat) : Prop where
  sc : Sc H T0 (AS H T0 s) (QS H T0 s) T P S
  full : Full H T0 P S S
  st : col T0 s = 1 → s ∈ P ∨ s ∈ S
theorem fins_as {H : HeapD} {T0 T : TrialD} {s : Nat} {P S : List Nat} (h : FinS H T0 s T P S) (j : Nat) (hj : AS H T0 s j) : j ∈ P ∨ j ∈ S :=
  hj (fun x => x ∈ P ∨ x ∈ S) h.st (fun a b ha hc hb hg => by
    rcases ha with ha | ha
    · exact .inl (h.sc.shut a ha b hb (by omega))
    · exact h.full a ha b hb hg)
theorem fins_p {H : HeapD} {T0 T : TrialD} {s : Nat} {P S : List Nat} (h : FinS H T0 s T P S) (j : Nat) : j ∈ P ↔ QS H T0 s j :=
  ⟨h.sc.qs j, fun hq => hq (fun x => x ∈ P) (fun a ha hc => by
    rcases fins_as h a ha with h1 | h1
    · exact h1
    · have := (h.sc.wg a h1).2.2; omega) (fun a b ha hb hne => h.sc.shut a ha b hb hne)⟩
theorem fins_one {H : HeapD} {T0 A B : TrialD} {s : Nat} {P S P' S' : List Nat} (h1 : FinS H T0 s A P S) (h2 : FinS H T0 s B P' S') : A = B := by
  have hm : ∀ k, k ∈ P ↔ k ∈ P' := fun k => (fins_p h1 k).trans (fins_p h2 k).symm
  have hs : ∀ k, k ∉ P → (k ∈ S ↔ k ∈ S') := fun k hk => by
    constructor
    · intro h
      rcases fins_as h2 k (h1.sc.ws k h) with h | h
      · exact absurd ((hm k).2 h) hk
      · exact h
    · intro h
      rcases fins_as h1 k (h2.sc.ws k h) with h | h
      · exact absurd h hk
      · exact h
  have hp : P.Perm P' := (List.perm_ext_iff_of_nodup h1.sc.nd h2.sc.nd).2 hm
  refine eight_ext h1.sc.e h2.sc.e (fun j hj => ?_) (fun j hj => ?_)
  · rw [h1.sc.col j hj, h2.sc.col j hj]
    by_cases hP : j ∈ P
    · rw [if_pos hP, if_pos ((hm j).1 hP)]
    · rw [if_neg hP, if_neg (fun h => hP ((hm j).2 h))]
      by_cases hS : j ∈ S
      · rw [if_pos hS, if_pos ((hs j hP).1 hS)]
      · rw [if_neg hS, if_neg (fun h => hS ((hs j hP).2 h))]
  · rw [h1.sc.cnt j hj, h2.sc.cnt j hj, (flat_perm H hp).count_eq]
structure ScW (H : HeapD) (T0 : TrialD) (s : Nat) (T : TrialD) (todo : List Int) (P S : List Nat) : Prop where
  sc : Sc H T0 (AS H T0 s) (QS H T0 s) T P S
  slots : Slots todo
  full : ∀ i ∈ S, ∀ j : Nat, (j : Int) ∈ kidsOf H (i : Int) → col T0 j = 1 → j ∈ P ∨ j ∈ S ∨ (j : Int) ∈ todo
  st : col T0 s = 1 → s ∈ P ∨ s ∈ S ∨ (s : Int) ∈ todo
  td : ∀ z ∈ todo, col T0 z.toNat = 1 → AS H T0 s z.toNat
theorem scw_step {H : HeapD} {T0 T : TrialD} {s : Nat} {rest : List Int} {k : Int} {P S : List Nat} (h : ScW H T0 s T (rest ++ [k]) P S) : ∃ P' S', ScW H T0 s (scanS H T rest k).1 (scanS H T rest k).2 P' S' := by
  have hk := h.slots k (by simp)
  have hk8 : k.toNat < 8 := by omega
  have ek : ((k.toNat : Nat) : Int) = k := by omega
  have hr : Slots rest := fun z hz => h.slots z (by simp [hz])
  have mv : ∀ (j : Nat) (P' S' : List Nat), (∀ x ∈ P, x ∈ P') → (∀ x ∈ S, x ∈ S') → (k.toNat ∈ P' ∨ k.toNat ∈ S' ∨ ¬ (j : Int) = k) → (j ∈ P ∨ j ∈ S ∨ (j : Int) ∈ rest ++ [k]) → j ∈ P' ∨ j ∈ S' ∨ (j : Int) ∈ rest := by
    intro j P' S' hP hS hkk hj
    rcases hj with hj | hj | hj
    · exact .inl (hP j hj)
    · exact .inr (.inl (hS j hj))
    · rcases List.mem_append.1 hj with hj | hj
      · exact .inr (.inr hj)
      · have e := List.mem_singleton.1 hj
        rcases hkk with hkk | hkk | hkk
        · left; rw [show j = k.toNat from by omega]; exact hkk
        · right; left; rw [show j = k.toNat from by omega]; exact hkk
        · exact absurd e hkk
  unfold scanS
  split
  · rename_i hg
    have hg2 : col T k.toNat ≠ 1 := hg
    refine ⟨P, S, h.sc, hr, fun i hi j hj hc => ?_, fun hc => ?_, fun z hz => h.td z (by simp [hz])⟩
    · refine mv j P S (fun _ hx => hx) (fun _ hx => hx) ?_ (h.full i hi j hj hc)
      by_cases e : (j : Int) = k
      · have e2 : j = k.toNat := by omega
        rcases sc_not h.sc hk8 hg2 (e2 ▸ hc) with h1 | h1
        · exact .inl h1
        · exact .inr (.inl h1)
      · exact .inr (.inr e)
    · refine mv s P S (fun _ hx => hx) (fun _ hx => hx) ?_ (h.st hc)
      by_cases e : (s : Int) = k
      · have e2 : s = k.toNat := by omega
        rcases sc_not h.sc hk8 hg2 (e2 ▸ hc) with h1 | h1
        · exact .inl h1
        · exact .inr (.inl h1)
      · exact .inr (.inr e)
  · rename_i hg
    have hg2 : col T k.toNat = 1 := Decidable.not_not.1 hg
    obtain ⟨q1, q2, q3, q4⟩ := sc_gray h.sc hk8 hg2
    have hA := h.td k (by simp) q3
    split
    · rename_i hp
      have hp2 : 0 < cnt T k.toNat := hp
      obtain ⟨P', h1, h2, h3⟩ := sc_black (as_hyp H T0 s) h.sc hk8 hg2 hp2 hA
      have eb : blackT H T k = spreadAll 1 0 H ⟨T.counts, T.colors.set k.toNat 0⟩ [((k.toNat : Nat) : Int)] := by unfold blackT; rw [ek]
      rw [eb]
      exact ⟨P', S, h1, hr, fun i hi j hj hc => mv j P' S h2 (fun _ hx => hx) (.inl h3) (h.full i hi j hj hc), fun hc => mv s P' S h2 (fun _ hx => hx) (.inl h3) (h.st hc), fun z hz => h.td z (by simp [hz])⟩
    · rename_i hp
      have hp2 : ¬ 0 < cnt T k.toNat := hp
      have h1 := sc_white h.sc hk8 hg2 hp2 hA
      have up : ∀ j : Nat, j ∈ P ∨ j ∈ S ++ [k.toNat] ∨ (j : Int) ∈ rest → j ∈ P ∨ j ∈ S ++ [k.toNat] ∨ (j : Int) ∈ rest ++ kidsOf H k := fun j hj => by
        rcases hj with hj | hj | hj
        · exact .inl hj
        · exact .inr (.inl hj)
        · exact .inr (.inr (List.mem_append_left _ hj))
      refine ⟨P, S ++ [k.toNat], h1, ?_, fun i hi j hj hc => ?_, fun hc => up s (mv s P (S ++ [k.toNat]) (fun _ hx => hx) (fun _ hx => by simp [hx]) (.inr (.inl (by simp))) (h.st hc)), fun z hz hc => ?_⟩
      · intro z hz
        rcases List.mem_append.1 hz with hz | hz
        · exact hr z hz
        · exact kidsOf_slots H k z hz
      · rcases List.mem_append.1 hi with hi | hi
        · exact up j (mv j P (S ++ [k.toNat]) (fun _ hx => hx) (fun _ hx => by simp [hx]) (.inr (.inl (by simp))) (h.full i hi j hj hc))
        · rw [List.mem_singleton.1 hi, ek] at hj
          exact .inr (.inr (List.mem_append_right _ hj))
      · rcases List.mem_append.1 hz with hz | hz
        · exact h.td z (by simp [hz]) hc
        · have hz7 := kidsOf_slots H k z hz
          exact (as_hyp H T0 s).aa k.toNat z.toNat hA (by omega) (by rw [ek, show ((z.toNat : Nat) : Int) = z from by omega]; exact hz) hc
theorem scw_scan {H : HeapD} (hs : SmallH H) {T0 : TrialD} {s : Nat} : ∀ (m f : Nat) {T : TrialD} {todo : List Int} {P S : List Nat}, ScW H T0 s T todo P S → nu (T, todo) ≤ m → m ≤ f → ∃ P' S', FinS H T0 s (scan H f T todo) P' S' := by
  have fin : ∀ {T : TrialD} {P S : List Nat}, ScW H T0 s T [] P S → FinS H T0 s T P S := fun {T P S} h => by
    refine ⟨h.sc, fun i hi j hj hc => ?_, fun hc => ?_⟩
    · rcases h.full i hi j hj hc with h1 | h1 | h1
      · exact .inl h1
      · exact .inr h1
      · cases h1
    · rcases h.st hc with h1 | h1 | h1
      · exact .inl h1
      · exact .inr h1
      · cases h1
  intro m
  induction m with
  | zero =>
    intro f T todo P S h hm hf
    have : todo = [] := List.eq_nil_of_length_eq_zero (by simp only [nu] at hm; omega)
    subst this
    rw [scan_nil]
    exact ⟨P, S, fin h⟩
  | succ m ih =>
    intro f T todo P S h hm hf
    rcases List.eq_nil_or_concat todo with rfl | ⟨rest, k, rfl⟩
    · rw [scan_nil]; exact ⟨P, S, fin h⟩
    · rw [List.concat_eq_append] at hm h ⊢
      obtain ⟨f, rfl⟩ : ∃ f', f = f' + 1 := ⟨f - 1, by omega⟩
      obtain ⟨P', S', h1⟩ := scw_step h
      obtain ⟨e1, e2, e3⟩ := scanS_ok H hs T rest k h.sc.e h.slots
      rw [scan_snoc]
      exact ih f h1 (by show nu (scanS H T rest k) ≤ m; omega) (by omega)
theorem scanT_fin (H : HeapD) (hs : SmallH H) (T : TrialD) (s : Nat) (h8 : Eight T) (hk : s < 8) : ∃ P S, FinS H T s (scanT H T (s : Int)) P S := by
  have w0 : ScW H T s T [(s : Int)] [] [] := by
    refine ⟨sc_start H T _ _ h8, fun z hz => ?_, fun i hi => (by cases hi), fun _ => .inr (.inr (by simp)), fun z hz hc => ?_⟩
    · rw [List.mem_singleton.1 hz]; omega
    · rw [List.mem_singleton.1 hz] at hc ⊢
      exact fun U h1 _ => h1 hc
  exact scw_scan hs _ _ w0 (Nat.le_refl _) (Nat.le_refl _)
def Scanned (H : HeapD) (T0 : TrialD) (A Q : Nat → Prop) (P S : List Nat) (k : Nat) (T' : TrialD) : Prop :=
  ∃ P2 S2, Sc H T0 A Q T' P2 S2 ∧ (∀ x ∈ P, x ∈ P2) ∧ (∀ x ∈ S, x ∈ S2) ∧ (∀ x ∈ S2, x ∉ S → ∀ j : Nat, (j : Int) ∈ kidsOf H (x : Int) → col T0 j = 1 → j ∈ P2 ∨ j ∈ S2) ∧ (col T0 k = 1 → k ∈ P2 ∨ k ∈ S2)
def ScMid (H : HeapD) (T0 : TrialD) (A Q : Nat → Prop) (P S : List Nat) (k i : Nat) (T : TrialD) : Prop :=
  ∃ P2 S2, Sc H T0 A Q T P2 S2 ∧ (∀ x ∈ P, x ∈ P2) ∧ (∀ x ∈ S, x ∈ S2) ∧ k ∈ S2 ∧ (∀ x ∈ S2, x ∉ S → x ≠ k → ∀ j : Nat, (j : Int) ∈ kidsOf H (x : Int) → col T0 j = 1 → j ∈ P2 ∨ j ∈ S2) ∧ (∀ z ∈ (kidsOf H (k : Int)).take i, col T0 z.toNat = 1 → z.toNat ∈ P2 ∨ z.toNat ∈ S2) ∧ A k ∧ cnt T0 k ≤ 0
theorem scanned_no {H : HeapD} {T0 T : TrialD} {A Q : Nat → Prop} {P S : List Nat} {k : Nat} (h : Sc H T0 A Q T P S) (hk : k < 8) (hg : col T k ≠ 1) : Scanned H T0 A Q P S k T :=
  ⟨P, S, h, fun _ hx => hx, fun _ hx => hx, fun x hx hn => absurd hx hn, fun h0 => sc_not h hk hg h0⟩
theorem scanned_black {H : HeapD} {T0 T : TrialD} {A Q : Nat → Prop} (hy : ScHyp H T0 A Q) {P S : List Nat} {k : Nat} (h : Sc H T0 A Q T P S) (hk : k < 8) (hg : col T k = 1) (hp : 0 < cnt T k) (hA : col T0 k = 1 → A k) : Scanned H T0 A Q P S k (spreadAll 1 0 H ⟨T.counts, T.colors.set k 0⟩ [(k : Int)]) := by
  obtain ⟨P', h1, h2, h3⟩ := sc_black hy h hk hg hp (hA (sc_gray h hk hg).2.2.1)
  exact ⟨P', S, h1, h2, fun _ hx => hx, fun x hx hn => absurd hx hn, fun _ => .inl h3⟩
theorem scmid_start {H : HeapD} {T0 T : TrialD} {A Q : Nat → Prop} {P S : List Nat} {k : Nat} (h : Sc H T0 A Q T P S) (hk : k < 8) (hg : col T k = 1) (hp : ¬ 0 < cnt T k) (hA : col T0 k = 1 → A k) : ScMid H T0 A Q P S k 0 ⟨T.counts, T.colors.set k 2⟩ := by
  obtain ⟨q1, q2, q3, q4⟩ := sc_gray h hk hg
  refine ⟨P, S ++ [k], sc_white h hk hg hp (hA q3), fun _ hx => hx, fun _ hx => by simp [hx], by simp, fun x hx hn hne => ?_, fun z hz => (by simp at hz), hA q3, by omega⟩
  rcases List.mem_append.1 hx with hx | hx
  · exact absurd hx hn
  · exact absurd (List.mem_singleton.1 hx) hne
theorem scmid_step {H : HeapD} {T0 T : TrialD} {A Q : Nat → Prop} (hy : ScHyp H T0 A Q) {P S : List Nat} {k i : Nat} (h : ScMid H T0 A Q P S k i T) (hi : i < (kidsOf H (k : Int)).length) (z : Int) (hz : (kidsOf H (k : Int))[i] = z) :
    ∃ P2 S2, Sc H T0 A Q T P2 S2 ∧ (col T0 z.toNat = 1 → A z.toNat) ∧ (0 ≤ z ∧ z ≤ 7) ∧ ∀ T', Scanned H T0 A Q P2 S2 z.toNat T' → ScMid H T0 A Q P S k (i + 1) T' := by
  obtain ⟨P2, S2, h1, h2, h3, h4, h5, h6, h7, h8⟩ := h
  have hmem : z ∈ kidsOf H (k : Int) := hz ▸ List.getElem_mem hi
  have hzs := kidsOf_slots H (k : Int) z hmem
  refine ⟨P2, S2, h1, fun hc => hy.aa k z.toNat h7 h8 (by rw [show ((z.toNat : Nat) : Int) = z from by omega]; exact hmem) hc, hzs, fun T' hT => ?_⟩
  obtain ⟨P3, S3, g1, g2, g3, g4, g5⟩ := hT
  refine ⟨P3, S3, g1, fun x hx => g2 x (h2 x hx), fun x hx => g3 x (h3 x hx), g3 k h4, fun x hx hn hne j hj hc => ?_, fun y hy2 hc => ?_, h7, h8⟩
  · by_cases hxS : x ∈ S2
    · rcases h5 x hxS hn hne j hj hc with h | h
      · exact .inl (g2 j h)
      · exact .inr (g3 j h)
    · exact g4 x hx hxS j hj hc
  · rw [List.take_succ_eq_append_getElem hi, hz] at hy2
    rcases List.mem_append.1 hy2 with hy2 | hy2
    · rcases h6 y hy2 hc with h | h
      · exact .inl (g2 _ h)
      · exact .inr (g3 _ h)
    · rw [List.mem_singleton.1 hy2] at hc ⊢
      exact g5 hc
theorem scmid_end {H : HeapD} {T0 T : TrialD} {A Q : Nat → Prop} {P S : List Nat} {k i : Nat} (h : ScMid H T0 A Q P S k i T) (hi : (kidsOf H (k : Int)).length ≤ i) : Scanned H T0 A Q P S k T := by
  obtain ⟨P2, S2, h1, h2, h3, h4, h5, h6, -, -⟩ := h
  rw [List.take_of_length_le hi] at h6
  refine ⟨P2, S2, h1, h2, h3, fun x hx hn j hj hc => ?_, fun _ => .inr h4⟩
  by_cases e : x = k
  · subst e
    have := h6 (j : Int) hj (by simpa using hc)
    simpa using this
  · exact h5 x hx hn e j hj hc
theorem scanned_all {H : HeapD} (hs : SmallH H) {T T' : TrialD} {k : Nat} (h8 : Eight T) (hk : k < 8) (h : Scanned H T (AS H T k) (QS H T k) [] [] k T') : T' = scanT H T (k : Int) := by
  obtain ⟨P, S, h1, -, -, h4, h5⟩ := h
  obtain ⟨P', S', hF⟩ := scanT_fin H hs T k h8 hk
  exact fins_one (P := P) (S := S) ⟨h1, fun x hx => h4 x hx (by simp), h5⟩ hF
end Go.Proofs.Ytnjplfofcjonhaa

namespace Go.Proofs.Ytnjplfofcjonhaa
open Go.RowKit
set_option linter.unusedVariables false
def cellA (g off n k : Nat) : Option Addr := if k < n then some ⟨g, off + k * 8, none⟩ else none
abbrev cellP (g off n k : Nat) : Value := .pointer (cellA g off n k)
def cellsV (g off n : Nat) : Value := .agg #[cellP g off n 0, cellP g off n 1, cellP g off n 2, cellP g off n 3, cellP g off n 4, cellP g off n 5, cellP g off n 6, cellP g off n 7]
structure CI0 (w : World) (s : Nat) (x : Value) (g off j : Nat) : Prop where
  at_ : ∀ k, k < 8 → w.cell? ⟨s, 0, none⟩ = some x ∧ w.cell? ⟨s + 1, k, none⟩ = some (.pointer none) ∧ w.frozen? ⟨s + 1, k, none⟩ = false ∧ w.cell? ⟨s + 1 + 1, k, none⟩ = some (cellP g off j k) ∧ w.frozen? ⟨s + 1 + 1, k, none⟩ = false ∧ s + 1 + 1 < w.heap.size
theorem CI0.set {w : World} {s g off j : Nat} {x : Value} (h : CI0 w s x g off j) (hj : j < 8) : CI0 (w.setCell ⟨s + 1 + 1, j, none⟩ (.pointer (some ⟨g, off + j * 8, none⟩))) s x g off (j + 1) := by
  refine ⟨fun k hk => ?_⟩
  obtain ⟨h1, h2, h3, h4, h5, h6⟩ := h.at_ k hk
  refine ⟨?_, ?_, by rw [World.frozen?_setCell]; exact h3, ?_, by rw [World.frozen?_setCell]; exact h5, by simpa [World.setCell] using h6⟩
  · rw [keep_far _ _ (by show s + 1 + 1 ≠ s; omega)]; exact h1
  · rw [keep_far _ _ (by show s + 1 + 1 ≠ s + 1; omega)]; exact h2
  · by_cases e : j = k
    · subst e
      rw [World.cell?_setCell_same w _ _ h4]
      unfold cellP cellA
      rw [if_pos (by omega)]
    · rw [cell_far _ _ _ _ _ e, h4]
      unfold cellP cellA
      by_cases h2 : k < j
      · rw [if_pos h2, if_pos (by omega)]
      · rw [if_neg h2, if_neg (by omega)]
theorem nil8 (k : Nat) (hk : k < 8) : (#[Value.pointer none, .pointer none, .pointer none, .pointer none, .pointer none, .pointer none, .pointer none, .pointer none] : Array Value)[k]? = some (.pointer none) := by
  match k, hk with
  | 0, _ | 1, _ | 2, _ | 3, _ | 4, _ | 5, _ | 6, _ | 7, _ => rfl
theorem ci_new (w : World) (x x1 x2 x3 : Value) (g off : Nat) : CI0 (((w.alloc (.cells #[x, x1, x2, x3] 29)).alloc (.cells #[.pointer none, .pointer none, .pointer none, .pointer none, .pointer none, .pointer none, .pointer none, .pointer none] 96)).alloc (.cells #[.pointer none, .pointer none, .pointer none, .pointer none, .pointer none, .pointer none, .pointer none, .pointer none] 96)) w.heap.size x g off 0 := by
  obtain ⟨A, hA⟩ : ∃ A, A = w.alloc (.cells #[x, x1, x2, x3] 29) := ⟨_, rfl⟩
  rw [← hA]
  have hs : A.heap.size = w.heap.size + 1 := by rw [hA]; simp
  obtain ⟨B, hB⟩ : ∃ B, B = A.alloc (.cells #[.pointer none, .pointer none, .pointer none, .pointer none, .pointer none, .pointer none, .pointer none, .pointer none] 96) := ⟨_, rfl⟩
  rw [← hB]
  have hs2 : B.heap.size = w.heap.size + 1 + 1 := by rw [hB]; simp [hs]
  refine ⟨fun k hk => ⟨?_, ?_, ?_, ?_, ?_, ?_⟩⟩
  · rw [World.cell?_alloc_lt _ _ _ (by show w.heap.size < _; omega), hB, World.cell?_alloc_lt _ _ _ (by show w.heap.size < _; omega), hA, World.cell?_alloc_mark]; rfl
  · rw [World.cell?_alloc_lt _ _ _ (by show w.heap.size + 1 < _; omega), hB, ← hs, World.cell?_alloc_mark]; exact nil8 k hk
  · have e := ((Below.refl B.heap.size B).alloc (Nat.le_refl _) (.cells #[.pointer none, .pointer none, .pointer none, .pointer none, .pointer none, .pointer none, .pointer none, .pointer none] 96)).frozen (p := ⟨w.heap.size + 1, k, none⟩) (by show w.heap.size + 1 < _; omega)
    rw [e, hB, ← hs, World.frozen?_alloc_mark]; simp
  · rw [← hs2, World.cell?_alloc_mark]; unfold cellP cellA; rw [if_neg (by omega)]; exact nil8 k hk
  · rw [← hs2, World.frozen?_alloc_mark]; simp
  · simp [hs2]
theorem cellA_eight (g off n k : Nat) (h : 8 ≤ n) (hk : k < 8) : cellA g off n k = cellA g off 8 k := by
  unfold cellA; rw [if_pos (by omega), if_pos (by omega)]
theorem cellsV_eight (g off n : Nat) (h : 8 ≤ n) : cellsV g off n = cellsV g off 8 := by
  unfold cellsV cellP
  simp only [cellA_eight g off n _ h (by decide : 0 < 8), cellA_eight g off n _ h (by decide : 1 < 8), cellA_eight g off n _ h (by decide : 2 < 8), cellA_eight g off n _ h (by decide : 3 < 8), cellA_eight g off n _ h (by decide : 4 < 8), cellA_eight g off n _ h (by decide : 5 < 8), cellA_eight g off n _ h (by decide : 6 < 8), cellA_eight g off n _ h (by decide : 7 < 8)]
theorem cellsOf_calls (w : World) (ao : Option Addr) (n co : Nat) (x1 x2 x3 : Value) (hn : n ≤ 1048576) (g off : Nat) (ha : 0 < n → ao = some ⟨g, off, none⟩) (hx : ∃ a1 n1 c1 a2 n2 c2 a3 n3 c3, x1 = .slice a1 n1 c1 ∧ x2 = .slice a2 n2 c2 ∧ x3 = .slice a3 n3 c3) :
    Calls Try.prog 85 #[.agg #[.slice ao n co, x1, x2, x3]] w fun e w' => e = .returned (cellsV g off n) ∧ Below w.heap.size w w' := by
  obtain ⟨a1, n1, c1, a2, n2, c2, a3, n3, c3, rfl, rfl, rfl⟩ := hx
  have HA : Hid (0 < n → ao = some ⟨g, off, none⟩) := ha
  clear ha
  obtain ⟨W, hW⟩ : ∃ W, W = ((w.alloc (.cells #[.slice ao n co, .slice a1 n1 c1, .slice a2 n2 c2, .slice a3 n3 c3] 29)).alloc (.cells #[.pointer none, .pointer none, .pointer none, .pointer none, .pointer none, .pointer none, .pointer none, .pointer none] 96)).alloc (.cells #[.pointer none, .pointer none, .pointer none, .pointer none, .pointer none, .pointer none, .pointer none, .pointer none] 96) := ⟨_, rfl⟩
  have BW : Below w.heap.size w W := by
    rw [hW]
    exact (((Below.refl _ _).alloc (Nat.le_refl _) _).alloc (by simp) _).alloc (by simp; omega) _
  have HI : Hid (CI0 W w.heap.size (.slice ao n co) g off 0) := by
    rw [hW]; exact ci_new w _ _ _ _ g off
  by_cases hn8 : n ≤ 8
  · go_enter Try.func85, Try.ntmps85
    go_wp2
    rw [← hW]
    clear hW
    go_loopw [9] (fun i wr => ∃ j : Nat, j ≤ n ∧ i = .int .i64 j ∧ Hid (CI0 wr w.heap.size (.slice ao n co) g off j) ∧ Below w.heap.size w wr) (fun i _ => n - (intOf i).toNat)
    case atStart => exact ⟨0, by omega, rfl, HI, BW⟩
    case round =>
      obtain ⟨j, hj, rfl, HJ, hb⟩ := hrel
      by_cases hlt : j < n
      · obtain rfl := HA.out (by omega)
        obtain ⟨h0, -, -, h1, h2, -⟩ := HJ.out.at_ j (by omega)
        have HN : Hid (CI0 (wr.setCell ⟨w.heap.size + 1 + 1, j, none⟩ (.pointer (some ⟨g, off + j * 8, none⟩))) w.heap.size (.slice (some ⟨g, off, none⟩) n co) g off (j + 1)) := HJ.out.set (by omega)
        go_wp2
        go_roundw
        case rel => exact ⟨j + 1, by omega, by go_num, HN, Below.setCell hb (by simp only; omega) _⟩
        case measure => simp [intOf]; omega
      · obtain rfl : j = n := by omega
        obtain ⟨-, r0, e0, o0, -, hs⟩ := HJ.out.at_ 0 (by omega)
        obtain ⟨-, r1, e1, o1, -, -⟩ := HJ.out.at_ 1 (by omega)
        obtain ⟨-, r2, e2, o2, -, -⟩ := HJ.out.at_ 2 (by omega)
        obtain ⟨-, r3, e3, o3, -, -⟩ := HJ.out.at_ 3 (by omega)
        obtain ⟨-, r4, e4, o4, -, -⟩ := HJ.out.at_ 4 (by omega)
        obtain ⟨-, r5, e5, o5, -, -⟩ := HJ.out.at_ 5 (by omega)
        obtain ⟨-, r6, e6, o6, -, -⟩ := HJ.out.at_ 6 (by omega)
        obtain ⟨-, r7, e7, o7, -, -⟩ := HJ.out.at_ 7 (by omega)
        go_wp2
        refine bodyPost_ret (v := .agg #[.pointer (cellA g off j 0), .pointer (cellA g off j 1), .pointer (cellA g off j 2), .pointer (cellA g off j 3), .pointer (cellA g off j 4), .pointer (cellA g off j 5), .pointer (cellA g off j 6), .pointer (cellA g off j 7)]) (by simp [results, Try.results85, go_sem, *]) rfl ⟨rfl, ?_⟩
        iterate 8 refine Below.setCell ?_ (by simp only; omega) _
        exact hb
  · go_enter Try.func85, Try.ntmps85
    go_wp2
    rw [← hW]
    clear hW
    go_loopw [9] (fun i wr => ∃ j : Nat, j ≤ 8 ∧ i = .int .i64 j ∧ Hid (CI0 wr w.heap.size (.slice ao n co) g off j) ∧ Below w.heap.size w wr) (fun i _ => 8 - (intOf i).toNat)
    case atStart => exact ⟨0, by omega, rfl, HI, BW⟩
    case round =>
      obtain ⟨j, hj, rfl, HJ, hb⟩ := hrel
      by_cases hlt : j < 8
      · obtain rfl := HA.out (by omega)
        obtain ⟨h0, -, -, h1, h2, -⟩ := HJ.out.at_ j (by omega)
        have HN : Hid (CI0 (wr.setCell ⟨w.heap.size + 1 + 1, j, none⟩ (.pointer (some ⟨g, off + j * 8, none⟩))) w.heap.size (.slice (some ⟨g, off, none⟩) n co) g off (j + 1)) := HJ.out.set (by omega)
        go_wp2
        go_roundw
        case rel => exact ⟨j + 1, by omega, by go_num, HN, Below.setCell hb (by simp only; omega) _⟩
        case measure => simp [intOf]; omega
      · obtain rfl : j = 8 := by omega
        have hn9 : 8 < n := by omega
        have HV : Hid (cellsV g off n = cellsV g off 8) := cellsV_eight g off n (by omega)
        obtain ⟨-, r0, e0, o0, -, hs⟩ := HJ.out.at_ 0 (by omega)
        obtain ⟨-, r1, e1, o1, -, -⟩ := HJ.out.at_ 1 (by omega)
        obtain ⟨-, r2, e2, o2, -, -⟩ := HJ.out.at_ 2 (by omega)
        obtain ⟨-, r3, e3, o3, -, -⟩ := HJ.out.at_ 3 (by omega)
        obtain ⟨-, r4, e4, o4, -, -⟩ := HJ.out.at_ 4 (by omega)
        obtain ⟨-, r5, e5, o5, -, -⟩ := HJ.out.at_ 5 (by omega)
        obtain ⟨-, r6, e6, o6, -, -⟩ := HJ.out.at_ 6 (by omega)
        obtain ⟨-, r7, e7, o7, -, -⟩ := HJ.out.at_ 7 (by omega)
        go_wp2
        refine bodyPost_ret (v := .agg #[.pointer (cellA g off 8 0), .pointer (cellA g off 8 1), .pointer (cellA g off 8 2), .pointer (cellA g off 8 3), .pointer (cellA g off 8 4), .pointer (cellA g off 8 5), .pointer (cellA g off 8 6), .pointer (cellA g off 8 7)]) (by simp [results, Try.results85, go_sem, *]) rfl ⟨by rw [HV.out]; rfl, ?_⟩
        iterate 8 refine Below.setCell ?_ (by simp only; omega) _
        exact hb
theorem iIdOf_calls (slot gen : Int) (w : World) :
    Calls Try.prog 54 #[.int .i64 slot, .int .i64 gen] w fun e w' => e = .returned (.int .i64 (idZ slot gen)) ∧ w' = w := by
  by_cases h : 0 ≤ slot ∧ slot ≤ 7 ∧ 1 ≤ gen ∧ gen ≤ 999
  · have HE : Hid (idZ slot gen = slot + 8 * gen) := by show _ = _; unfold idZ; rw [if_pos h]
    obtain ⟨g1, g2, g3, g4⟩ := h
    go_enter Try.func54, Try.ntmps54
    go_wp2
    go_ret
    exact ⟨ret_zz HE.out.symm, rfl⟩
  · have HE : Hid (idZ slot gen = -1) := by show _ = _; unfold idZ; rw [if_neg h]
    by_cases g1 : slot < 0
    · clear h
      go_enter Try.func54, Try.ntmps54
      go_wp2
      go_ret
      exact ⟨ret_zz HE.out.symm, rfl⟩
    by_cases g2 : 8 ≤ slot
    · clear h
      go_enter Try.func54, Try.ntmps54
      go_wp2
      go_ret
      exact ⟨ret_zz HE.out.symm, rfl⟩
    by_cases g3 : gen < 1
    · clear h
      have g1' : 0 ≤ slot := by omega
      have g2' : slot < 8 := by omega
      go_enter Try.func54, Try.ntmps54
      go_wp2
      go_ret
      exact ⟨ret_zz HE.out.symm, rfl⟩
    have g1' : 0 ≤ slot := by omega
    have g2' : slot < 8 := by omega
    have g3' : 1 ≤ gen := by omega
    have g4' : 999 < gen := by omega
    clear h
    go_enter Try.func54, Try.ntmps54
    go_wp2
    go_ret
    exact ⟨ret_zz HE.out.symm, rfl⟩
end Go.Proofs.Ytnjplfofcjonhaa

namespace Go.Proofs.Ytnjplfofcjonhaa
open Go.RowKit
set_option linter.unusedVariables false
theorem index8_0 (p0 p1 p2 p3 p4 p5 p6 p7 : Option Addr) (w : World) : (Instr.index 96 (.agg #[.pointer p0, .pointer p1, .pointer p2, .pointer p3, .pointer p4, .pointer p5, .pointer p6, .pointer p7]) (.int .i64 0)).run Try.prog w = .ok (.pointer p0) w := by kernel_rfl
theorem index8_1 (p0 p1 p2 p3 p4 p5 p6 p7 : Option Addr) (w : World) : (Instr.index 96 (.agg #[.pointer p0, .pointer p1, .pointer p2, .pointer p3, .pointer p4, .pointer p5, .pointer p6, .pointer p7]) (.int .i64 1)).run Try.prog w = .ok (.pointer p1) w := by kernel_rfl
theorem index8_2 (p0 p1 p2 p3 p4 p5 p6 p7 : Option Addr) (w : World) : (Instr.index 96 (.agg #[.pointer p0, .pointer p1, .pointer p2, .pointer p3, .pointer p4, .pointer p5, .pointer p6, .pointer p7]) (.int .i64 2)).run Try.prog w = .ok (.pointer p2) w := by kernel_rfl
theorem index8_3 (p0 p1 p2 p3 p4 p5 p6 p7 : Option Addr) (w : World) : (Instr.index 96 (.agg #[.pointer p0, .pointer p1, .pointer p2, .pointer p3, .pointer p4, .pointer p5, .pointer p6, .pointer p7]) (.int .i64 3)).run Try.prog w = .ok (.pointer p3) w := by kernel_rfl
theorem index8_4 (p0 p1 p2 p3 p4 p5 p6 p7 : Option Addr) (w : World) : (Instr.index 96 (.agg #[.pointer p0, .pointer p1, .pointer p2, .pointer p3, .pointer p4, .pointer p5, .pointer p6, .pointer p7]) (.int .i64 4)).run Try.prog w = .ok (.pointer p4) w := by kernel_rfl
theorem index8_5 (p0 p1 p2 p3 p4 p5 p6 p7 : Option Addr) (w : World) : (Instr.index 96 (.agg #[.pointer p0, .pointer p1, .pointer p2, .pointer p3, .pointer p4, .pointer p5, .pointer p6, .pointer p7]) (.int .i64 5)).run Try.prog w = .ok (.pointer p5) w := by kernel_rfl
theorem index8_6 (p0 p1 p2 p3 p4 p5 p6 p7 : Option Addr) (w : World) : (Instr.index 96 (.agg #[.pointer p0, .pointer p1, .pointer p2, .pointer p3, .pointer p4, .pointer p5, .pointer p6, .pointer p7]) (.int .i64 6)).run Try.prog w = .ok (.pointer p6) w := by kernel_rfl
theorem index8_7 (p0 p1 p2 p3 p4 p5 p6 p7 : Option Addr) (w : World) : (Instr.index 96 (.agg #[.pointer p0, .pointer p1, .pointer p2, .pointer p3, .pointer p4, .pointer p5, .pointer p6, .pointer p7]) (.int .i64 7)).run Try.prog w = .ok (.pointer p7) w := by kernel_rfl
theorem cells_idx (g off n s : Nat) (hs : s < 8) : ∃ x, cellsV g off n = .agg x ∧ ∀ X : World, (Instr.index 96 (.agg x) (.int .i64 (s : Int))).run Try.prog X = .ok (.pointer (cellA g off n s)) X := by
  refine ⟨_, rfl, fun X => ?_⟩
  match s, hs with
  | 0, _ => exact index8_0 _ _ _ _ _ _ _ _ X
  | 1, _ => exact index8_1 _ _ _ _ _ _ _ _ X
  | 2, _ => exact index8_2 _ _ _ _ _ _ _ _ X
  | 3, _ => exact index8_3 _ _ _ _ _ _ _ _ X
  | 4, _ => exact index8_4 _ _ _ _ _ _ _ _ X
  | 5, _ => exact index8_5 _ _ _ _ _ _ _ _ X
  | 6, _ => exact index8_6 _ _ _ _ _ _ _ _ X
  | 7, _ => exact index8_7 _ _ _ _ _ _ _ _ X
def NoLive (H : HeapD) (slot : Int) : Prop := slot < 0 ∨ 8 ≤ slot ∨ ∀ o, H.objs[slot.toNat]? = some o → o.live = false
set_option maxRecDepth 100000 in
theorem liveIn_no (v : Value) (H : HeapD) (slot : Int) (w : World) (h : RdH w v H) (hn : H.objs.length ≤ 1048576) (hl : NoLive H slot) :
    Calls Try.prog 34 #[v, .int .i64 slot] w fun e w' => e = .returned (.pointer none) ∧ Below w.heap.size w w' := by
  obtain ⟨ao, co, aw, cw, ab, cb, sa, sc, rfl, ro, -, -, -⟩ := h
  by_cases h1 : slot < 0
  · clear hl ro
    go_enter Try.func34, Try.ntmps34
    go_wp2
    go_ret
    exact ⟨rfl, (Below.refl _ _).alloc (Nat.le_refl _) _⟩
  by_cases h2 : 8 ≤ slot
  · clear hl ro
    go_enter Try.func34, Try.ntmps34
    go_wp2
    go_ret
    exact ⟨rfl, (Below.refl _ _).alloc (Nat.le_refl _) _⟩
  obtain ⟨s, rfl⟩ : ∃ s : Nat, slot = (s : Int) := ⟨slot.toNat, by omega⟩
  have hs : s < 8 := by omega
  have hl2 : ∀ (h : s < H.objs.length), H.objs[s].live = false := by
    intro hx
    rcases hl with h | h | h
    · omega
    · omega
    · exact h _ (by rw [show ((s : Int)).toNat = s from by omega, List.getElem?_eq_getElem hx])
  clear hl h1 h2
  have hex : ∃ g off, 0 < H.objs.length → ao = some ⟨g, off, none⟩ := by
    by_cases h0 : 0 < H.objs.length
    · obtain ⟨g, off, f, fc, ha, -⟩ := ro 0 h0
      exact ⟨g, off, fun _ => ha⟩
    · exact ⟨0, 0, fun h => absurd h h0⟩
  obtain ⟨g, off, ha⟩ := hex
  have CC : Hid (∀ X : World, _) := fun X => cellsOf_calls X ao H.objs.length co (.slice aw H.weaks.length cw) (.slice ab H.buffer.length cb) (.slice sa H.sites.length sc) hn g off ha ⟨_, _, _, _, _, _, _, _, _, rfl, rfl, rfl⟩
  obtain ⟨W, hW⟩ : ∃ W, W = w.alloc (.cells #[.slice ao H.objs.length co, .slice aw H.weaks.length cw, .slice ab H.buffer.length cb, .slice sa H.sites.length sc] 29) := ⟨_, rfl⟩
  have BW : Below w.heap.size w W := by rw [hW]; exact (Below.refl _ _).alloc (Nat.le_refl _) _
  obtain ⟨x, hx, hxs⟩ := cells_idx g off H.objs.length s hs
  rw [hx] at CC
  by_cases hlen : s < H.objs.length
  · have hA : cellA g off H.objs.length s = some ⟨g, off + s * 8, none⟩ := by unfold cellA; rw [if_pos hlen]
    rw [hA] at hxs
    obtain ⟨g', off', f, fc, ha', -, hc, -⟩ := rdO_later ro BW s hlen
    rw [ha (by omega)] at ha'
    obtain ⟨rfl, rfl⟩ : g = g' ∧ off = off' := by simpa using ha'
    have hlv := hl2 hlen
    have HC : Hid (∀ X, Below W.heap.size W X → X.cell? ⟨g, off + s * 8, none⟩ = some (.bool false)) := by
      obtain ⟨_, _, _, _, ha2, hg2, _⟩ := ro s hlen
      rw [ha (by omega)] at ha2
      obtain ⟨rfl, rfl⟩ : g = _ ∧ off = _ := by simpa using ha2
      intro X hX
      rw [hX.cell (p := ⟨g, off + s * 8, none⟩) (Nat.lt_of_lt_of_le hg2 BW.size), hc.c0, hlv]
    clear hl2 hc ha' ha ro hlv hx
    go_enter Try.func34, Try.ntmps34
    go_wp2_with fail
    rw [← hW]
    clear hW
    refine (CC.out _).mono ?_
    rintro e w1 ⟨rfl, b1⟩
    have c0 := HC.out _ b1
    have B1 := BW.trans (b1.mono BW.size)
    clear b1 HC CC
    have hi : (s : Int) < 8 := by omega
    go_wp2
    go_ret
    exact ⟨rfl, B1⟩
  · have hA : cellA g off H.objs.length s = none := by unfold cellA; rw [if_neg hlen]
    rw [hA] at hxs
    clear hl2 ha ro hx
    go_enter Try.func34, Try.ntmps34
    go_wp2_with fail
    rw [← hW]
    clear hW
    refine (CC.out _).mono ?_
    rintro e w1 ⟨rfl, b1⟩
    have B1 := BW.trans (b1.mono BW.size)
    clear b1 CC
    have hi : (s : Int) < 8 := by omega
    go_wp2
    go_ret
    exact ⟨rfl, B1⟩
theorem liveIn_yes (v : Value) (H : HeapD) (s : Nat) (w : World) (h : RdH w v H) (hn : H.objs.length ≤ 1048576) (hs : s < 8) (hlen : s < H.objs.length) (hl : H.objs[s].live = true) :
    ∃ g off f cap, g < w.heap.size ∧ ObjAt w g (off + s * 8) H.objs[s] (.slice f H.objs[s].field.length cap) ∧ RdI w f H.objs[s].field ∧
    Hid (∀ X, Below w.heap.size w X → Calls Try.prog 34 #[v, .int .i64 (s : Int)] X fun e w' => e = .returned (.pointer (some ⟨g, off + s * 8, none⟩)) ∧ Below X.heap.size X w') := by
  obtain ⟨ao, co, aw, cw, ab, cb, sa, sc, rfl, ro, -, -, -⟩ := h
  obtain ⟨g, off, f, fc, rfl, hg, hc, hr⟩ := ro s hlen
  refine ⟨g, off, f, fc, hg, hc, hr, ?_⟩
  intro Y hY
  have hgY : g < Y.heap.size := Nat.lt_of_lt_of_le hg hY.size
  have hcY : Y.cell? ⟨g, off + s * 8, none⟩ = some (.bool true) := by rw [hY.cell (p := ⟨g, off + s * 8, none⟩) hg, hc.c0, hl]
  clear hc hr ro hl hY hg
  have CC : Hid (∀ X : World, _) := fun X => cellsOf_calls X (some ⟨g, off, none⟩) H.objs.length co (.slice aw H.weaks.length cw) (.slice ab H.buffer.length cb) (.slice sa H.sites.length sc) hn g off (fun _ => rfl) ⟨_, _, _, _, _, _, _, _, _, rfl, rfl, rfl⟩
  obtain ⟨W, hW⟩ : ∃ W, W = Y.alloc (.cells #[.slice (some ⟨g, off, none⟩) H.objs.length co, .slice aw H.weaks.length cw, .slice ab H.buffer.length cb, .slice sa H.sites.length sc] 29) := ⟨_, rfl⟩
  have BW : Below Y.heap.size Y W := by rw [hW]; exact (Below.refl _ _).alloc (Nat.le_refl _) _
  have HC : Hid (∀ X, Below W.heap.size W X → X.cell? ⟨g, off + s * 8, none⟩ = some (.bool true)) := by
    intro X hX
    rw [hX.cell (p := ⟨g, off + s * 8, none⟩) (Nat.lt_of_lt_of_le hgY BW.size), BW.cell (p := ⟨g, off + s * 8, none⟩) hgY, hcY]
  obtain ⟨x, hx, hxs⟩ := cells_idx g off H.objs.length s hs
  rw [hx] at CC
  have hA : cellA g off H.objs.length s = some ⟨g, off + s * 8, none⟩ := by unfold cellA; rw [if_pos hlen]
  rw [hA] at hxs
  clear hx hcY hgY
  have hi : (s : Int) < 8 := by omega
  go_enter Try.func34, Try.ntmps34
  go_wp2_with fail
  rw [← hW]
  clear hW
  refine (CC.out _).mono ?_
  rintro e w1 ⟨rfl, b1⟩
  have c0 := HC.out _ b1
  have B1 := BW.trans (b1.mono BW.size)
  clear b1 HC CC
  go_wp2
  go_ret
  exact ⟨rfl, B1⟩
theorem iSlotOf_calls (v : Value) (H : HeapD) (id : Int) (w : World) (h : RdH w v H) (hn : H.objs.length ≤ 1048576) (h0 : -9223372036854775808 ≤ id) (h9 : id ≤ 9223372036854775807) :
    Calls Try.prog 35 #[v, .int .i64 id] w fun e w' => e = .returned (.int .i64 (slotZ H id)) ∧ Below w.heap.size w w' := by
  have HR : Hid (RdH w v H) := h
  obtain ⟨ao, co, aw, cw, ab, cb, sa, sc, rfl, ro, -, -, -⟩ := h
  by_cases h1 : id < 8
  · have HE : Hid (slotZ H id = -1) := by show _ = _; unfold slotZ; rw [if_pos (.inl h1)]
    clear ro
    go_enter Try.func35, Try.ntmps35
    go_wp2
    go_ret
    exact ⟨ret_zz HE.out.symm, (Below.refl _ _).alloc (Nat.le_refl _) _⟩
  by_cases h2 : H.objs.length = 8
  rotate_left
  · have HE : Hid (slotZ H id = -1) := by show _ = _; unfold slotZ; rw [if_pos (.inr h2)]
    have h3 : ¬ ((H.objs.length : Int) = 8) := by omega
    clear ro
    go_enter Try.func35, Try.ntmps35
    go_wp2
    go_ret
    exact ⟨ret_zz HE.out.symm, (Below.refl _ _).alloc (Nat.le_refl _) _⟩
  obtain ⟨k, hk⟩ : ∃ k : Nat, id % 8 = (k : Int) := ⟨(id % 8).toNat, by omega⟩
  have hk8 : k < 8 := by omega
  have hkl : k < H.objs.length := by omega
  obtain ⟨o, ho⟩ : ∃ o, H.objs[k] = o := ⟨_, rfl⟩
  have HE : Hid (slotZ H id = if o.live = true ∧ o.gen = id / 8 then (k : Int) else -1) := by
    show _ = _
    unfold slotZ
    rw [if_neg (by omega), hk, show ((k : Int)).toNat = k from by omega, List.getElem?_eq_getElem (by omega), ho]
  have hm : id.tmod 8 = (k : Int) := by rw [Int.tmod_eq_emod_of_nonneg (by omega), hk]
  have hd : id.tdiv 8 = id / 8 := Int.tdiv_eq_ediv_of_nonneg (by omega)
  obtain ⟨q, hq⟩ : ∃ q, id / 8 = q := ⟨_, rfl⟩
  rw [hq] at hd HE
  have h8 : 8 ≤ id := by omega
  have hq0 : 0 ≤ q ∧ q ≤ 9223372036854775807 := by omega
  clear ro h1 hq
  obtain ⟨W, hW⟩ : ∃ W, W = w.alloc (.cells #[.slice ao H.objs.length co, .slice aw H.weaks.length cw, .slice ab H.buffer.length cb, .slice sa H.sites.length sc] 29) := ⟨_, rfl⟩
  have BW : Below w.heap.size w W := by rw [hW]; exact (Below.refl _ _).alloc (Nat.le_refl _) _
  have HRW : Hid (RdH W _ H) := rdH_later HR.out BW
  cases hlv : o.live with
  | false =>
    have HV : Hid (slotZ H id = -1) := by show _ = _; rw [HE.out, if_neg (by simp [hlv])]
    have CL : Hid (∀ u : Unit, _) := fun (_ : Unit) => liveIn_no _ H (k : Int) W HRW.out hn (.inr (.inr (by
      intro o' ho'
      rw [show ((k : Int)).toNat = k from by omega, List.getElem?_eq_getElem hkl, ho] at ho'
      injection ho' with ho'
      rw [← ho']; exact hlv)))
    rw [h2] at CL hW ⊢
    clear hk ho HE HR HRW hlv
    go_enter Try.func35, Try.ntmps35
    go_wp2_with fail
    rw [← hW]
    clear hW
    refine (CL.out ()).mono ?_
    rintro e w1 ⟨rfl, b1⟩
    have B1 := BW.trans (b1.mono BW.size)
    go_wp2
    go_ret
    exact ⟨ret_zz HV.out.symm, B1⟩
  | true =>
    obtain ⟨g, off, f, fc, hg, hc, -, CL0⟩ := liveIn_yes _ H k W HRW.out hn hk8 hkl (by rw [ho]; exact hlv)
    have CL : Hid (∀ u : Unit, _) := fun (_ : Unit) => CL0.out W (Below.refl _ _)
    rw [ho] at hc
    have HC : Hid (∀ X, Below W.heap.size W X → X.cell? ⟨g, off + k * 8 + 1, none⟩ = some (.int .i64 o.gen)) := fun X hX => (hX.cell (p := ⟨g, off + k * 8 + 1, none⟩) hg).trans hc.c1
    rw [hlv] at HE
    generalize o.gen = og at *
    rw [h2] at CL hW ⊢
    clear hk ho HR HRW hlv hc CL0
    by_cases hgq : og = q
    · have HV : Hid (slotZ H id = (k : Int)) := by show _ = _; rw [HE.out, if_pos ⟨rfl, hgq⟩]
      subst hgq
      go_enter Try.func35, Try.ntmps35
      go_wp2_with fail
      rw [← hW]
      clear hW
      refine (CL.out ()).mono ?_
      rintro e w1 ⟨rfl, b1⟩
      have c1 := HC.out _ b1
      have B1 := BW.trans (b1.mono BW.size)
      clear b1 HC
      go_wp2
      go_ret
      exact ⟨ret_zz HV.out.symm, B1⟩
    · have HV : Hid (slotZ H id = -1) := by show _ = _; rw [HE.out, if_neg (by simp [hgq])]
      have hgn : (og != q) = true := by rw [bne_iff_ne]; exact hgq
      go_enter Try.func35, Try.ntmps35
      go_wp2_with fail
      rw [← hW]
      clear hW
      refine (CL.out ()).mono ?_
      rintro e w1 ⟨rfl, b1⟩
      have c1 := HC.out _ b1
      have B1 := BW.trans (b1.mono BW.size)
      clear b1 HC
      go_wp2
      go_ret
      exact ⟨ret_zz HV.out.symm, B1⟩
end Go.Proofs.Ytnjplfofcjonhaa

namespace Go.Proofs.Ytnjplfofcjonhaa
open Go.RowKit
set_option linter.unusedVariables false
set_option maxRecDepth 100000
theorem iWhites_calls (v : Value) (T : TrialD) (w : World) (h : RdT w v T) (hs : SmallT T) :
    Calls Try.prog 68 #[v] w fun e w' => ∃ u, e = .returned u ∧ ownI w' w.heap.size u (whites T) ∧ Below w.heap.size w w' := by
  obtain ⟨aa, ac, ab, ad, rfl, -, ri⟩ := h
  have hn := hs.colors
  clear hs
  obtain ⟨W, hW⟩ : ∃ W, W = w.alloc (.cells #[.slice aa T.counts.length ac, .slice ab T.colors.length ad] 77) := ⟨_, rfl⟩
  have BW : Below w.heap.size w W := by rw [hW]; exact (Below.refl _ _).alloc (Nat.le_refl _) _
  have hsW : W.heap.size = w.heap.size + 1 := by rw [hW]; simp
  have hp : W.cell? ⟨w.heap.size, 1, none⟩ = some (.slice ab T.colors.length ad) := by rw [hW, World.cell?_alloc_mark]; rfl
  have H0 : Hid (whites T = [] ++ whiteL (T.colors.drop 0) ((0 : Nat) : Int)) := by show _ = _; unfold whites; rw [List.drop_zero]; rfl
  have HS : Hid (∀ (j : Nat) (h : j < T.colors.length), _) := fun j h => white_step T.colors j h
  have HN : Hid (∀ (j : Nat), T.colors.length ≤ j → whiteL (T.colors.drop j) (j : Int) = []) := fun j h => white_end T.colors j h _
  have HR2 : Hid (∀ X, Below W.heap.size W X → RdI X ab T.colors) := fun X hX => rdI_later (rdI_later ri BW) hX
  generalize whites T = Z at *
  generalize T.counts.length = nc at *
  generalize T.colors = zs at *
  obtain ⟨n, hnn⟩ : ∃ n, zs.length = n := ⟨_, rfl⟩
  have Hn : Hid (zs.length = n) := hnn
  rw [hnn] at hn hp hW ⊢
  clear ri hnn
  have HP : Hid (∀ X, Below W.heap.size W X → X.cell? ⟨w.heap.size, 1, none⟩ = some (.slice ab n ad)) := fun X hX => (hX.cell (p := ⟨w.heap.size, 1, none⟩) (by show w.heap.size < _; omega)).trans hp
  have HsW : Hid (W.heap.size = w.heap.size + 1) := hsW
  clear hp hsW
  go_enter Try.func68, Try.ntmps68
  go_wp2
  rw [← hW]
  clear hW
  go_loopw [3, 9] (fun v i wr => ∃ (j : Nat) (P : List Int), j ≤ n ∧ i = .int .i64 j ∧ P.length ≤ j ∧ Hid (Z = P ++ whiteL (zs.drop j) (j : Int)) ∧ ownI wr W.heap.size v P ∧ Below W.heap.size W wr) (fun _ i _ => n - (intOf i).toNat)
  case atStart => exact ⟨0, [], by omega, rfl, by simp, H0, ownI_nil _ _, Below.refl _ _⟩
  case round =>
    obtain ⟨j, P, hj, rfl, hPl, HJ, hown, hb⟩ := hrel
    have hp := HP.out _ hb
    by_cases hlt : j < n
    · have hj2 : j < zs.length := by have := Hn.out; omega
      obtain ⟨g, off, rfl, -, hc⟩ := HR2.out _ hb j hj2
      have HD : Hid (_ = _) := HS.out j hj2
      generalize zs[j] = z at *
      by_cases hz : z = 2
      · subst hz
        have HZ : Hid (Z = (P ++ [(j : Int)]) ++ whiteL (zs.drop (j + 1)) ((j + 1 : Nat) : Int)) := by show _ = _; rw [HJ.out, HD.out, if_pos rfl]; simp
        clear HD
        go_wp2_with (at_builtin; refine wpList_appendI rfl _ _ rfl W.heap.size _ P rfl (ownI_alloc _ hown) ⟨wr.heap.size, 0, none⟩ [(j : Int)] 1 1 rfl rfl ?hsrc ?hlen W (hb.alloc hb.size _) (Nat.le_refl _) ?_)
        case hsrc => exact src_int wr (j : Int)
        case hlen => rw [List.length_singleton]; omega
        · intro v4 w4 O4 B4
          go_wp2
          go_roundw
          case rel => exact ⟨j + 1, P ++ [(j : Int)], by omega, by go_num, by rw [List.length_append, List.length_singleton]; omega, HZ, O4, B4⟩
          case measure => simp [intOf]; omega
      · have HZ : Hid (Z = P ++ whiteL (zs.drop (j + 1)) ((j + 1 : Nat) : Int)) := by show _ = _; rw [HJ.out, HD.out, if_neg hz]
        clear HD
        go_wp2
        go_roundw
        case rel => exact ⟨j + 1, P, by omega, by go_num, by omega, HZ, hown, hb⟩
        case measure => simp [intOf]; omega
    · obtain rfl : j = n := by omega
      have HZ : Hid (Z = P) := by show _ = _; rw [HJ.out, HN.out j (by have := Hn.out; omega), List.append_nil]
      go_wp2
      go_ret
      exact ⟨_, rfl, HZ.out ▸ ownI_mono hown BW.size, BW.trans (hb.mono BW.size)⟩
theorem iKids_calls (v : Value) (H : HeapD) (s : Nat) (w : World) (h : RdH w v H) (hs : SmallH H) (hl : s < H.objs.length) (hf : ∀ z ∈ H.objs[s].field, in64 z) :
    Calls Try.prog 118 #[v, .int .i64 (s : Int)] w fun e w' => ∃ u, e = .returned u ∧ ownI w' w.heap.size u (kidL H H.objs[s].field) ∧ Below w.heap.size w w' := by
  have HRH : Hid (RdH w v H) := h
  obtain ⟨ao, co, aw, cw, ab, cb, sa, sc, rfl, ro, -, -, -⟩ := h
  have hn := hs.objs
  have hfl := hs.fields _ (List.getElem_mem hl)
  clear hs
  obtain ⟨W, hW⟩ : ∃ W, W = w.alloc (.cells #[.slice ao H.objs.length co, .slice aw H.weaks.length cw, .slice ab H.buffer.length cb, .slice sa H.sites.length sc] 29) := ⟨_, rfl⟩
  have BW : Below w.heap.size w W := by rw [hW]; exact (Below.refl _ _).alloc (Nat.le_refl _) _
  have hsW : W.heap.size = w.heap.size + 1 := by rw [hW]; simp
  have hp0 : W.cell? ⟨w.heap.size, 0, none⟩ = some (.slice ao H.objs.length co) := by rw [hW, World.cell?_alloc_mark]; rfl
  have hp1 : W.cell? ⟨w.heap.size, 1, none⟩ = some (.slice aw H.weaks.length cw) := by rw [hW, World.cell?_alloc_mark]; rfl
  have hp2 : W.cell? ⟨w.heap.size, 2, none⟩ = some (.slice ab H.buffer.length cb) := by rw [hW, World.cell?_alloc_mark]; rfl
  have hp3 : W.cell? ⟨w.heap.size, 3, none⟩ = some (.slice sa H.sites.length sc) := by rw [hW, World.cell?_alloc_mark]; rfl
  obtain ⟨g, off, f, fc, rfl, hg, hc, hr⟩ := ro s hl
  have hc6 := hc.c6
  have hcW : W.cell? ⟨g, off + s * 8 + 6, none⟩ = some (.slice f H.objs[s].field.length fc) := (BW.cell (p := ⟨g, off + s * 8 + 6, none⟩) hg).trans hc6
  have hrW : RdI W f H.objs[s].field := rdI_later hr BW
  have HRW : Hid (RdH W _ H) := rdH_later HRH.out BW
  have hgW : g < W.heap.size := by omega
  have HFC : Hid (∀ X, Below W.heap.size W X → X.cell? ⟨g, off + s * 8 + 6, none⟩ = some (.slice f H.objs[s].field.length fc)) := fun X hX => (hX.cell (p := ⟨g, off + s * 8 + 6, none⟩) hgW).trans hcW
  have HRI : Hid (∀ X, Below W.heap.size W X → RdI X f H.objs[s].field) := fun X hX => rdI_later hrW hX
  have HRX : Hid (∀ X, Below W.heap.size W X → RdH X _ H) := fun X hX => rdH_later HRW.out hX
  have HF : Hid (∀ z ∈ H.objs[s].field, in64 z) := hf
  clear hc hc6 hcW hr hrW HRW HRH ro hf hg
  generalize H.objs[s].field = zs at *
  have H0 : Hid (kidL H zs = [] ++ kidL H (zs.drop 0)) := by show _ = _; rw [List.drop_zero]; rfl
  have HS : Hid (∀ (j : Nat) (h : j < zs.length), _) := fun j h => kid_step H zs j h
  have HN : Hid (∀ (j : Nat), zs.length ≤ j → kidL H (zs.drop j) = []) := fun j h => kid_end H zs j h
  generalize hZ : kidL H zs = Z at *
  clear hZ
  obtain ⟨n, hnn⟩ : ∃ n, H.objs.length = n := ⟨_, rfl⟩
  have Hn : Hid (H.objs.length = n) := hnn
  have CS : Hid (∀ (z : Int) X, in64 z → RdH X _ H → _) := fun z X hz hX => iSlotOf_calls (.agg #[.slice (some ⟨g, off, none⟩) H.objs.length co, .slice aw H.weaks.length cw, .slice ab H.buffer.length cb, .slice sa H.sites.length sc]) H z X hX (by omega) hz.1 hz.2
  rw [hnn] at hn hp0 hW hl CS HRX ⊢
  clear hnn
  have hlt0 : w.heap.size < W.heap.size := by omega
  have HP : Hid (∀ X, Below W.heap.size W X → X.cell? ⟨w.heap.size, 0, none⟩ = some (.slice (some ⟨g, off, none⟩) n co) ∧ X.cell? ⟨w.heap.size, 1, none⟩ = some (.slice aw H.weaks.length cw) ∧ X.cell? ⟨w.heap.size, 2, none⟩ = some (.slice ab H.buffer.length cb) ∧ X.cell? ⟨w.heap.size, 3, none⟩ = some (.slice sa H.sites.length sc)) := fun X hX => ⟨(hX.cell (p := ⟨w.heap.size, 0, none⟩) hlt0).trans hp0, (hX.cell (p := ⟨w.heap.size, 1, none⟩) hlt0).trans hp1, (hX.cell (p := ⟨w.heap.size, 2, none⟩) hlt0).trans hp2, (hX.cell (p := ⟨w.heap.size, 3, none⟩) hlt0).trans hp3⟩
  have HsW : Hid (W.heap.size = w.heap.size + 1) := hsW
  clear hp0 hp1 hp2 hp3 hsW hlt0 hgW
  have w6 := HFC.out _ (Below.refl _ _)
  rw [hW] at w6
  have i0 : (s : Int) < (n : Int) := by omega
  go_enter Try.func118, Try.ntmps118
  go_wp2
  rw [← hW]
  clear hW w6
  go_loopw [5, 16] (fun v i wr => ∃ (j : Nat) (P : List Int), j ≤ zs.length ∧ i = .int .i64 j ∧ P.length ≤ j ∧ Hid (Z = P ++ kidL H (zs.drop j)) ∧ ownI wr W.heap.size v P ∧ Below W.heap.size W wr) (fun _ i _ => zs.length - (intOf i).toNat)
  case atStart => exact ⟨0, [], by omega, rfl, by simp, H0, ownI_nil _ _, Below.refl _ _⟩
  case round =>
    obtain ⟨j, P, hj, rfl, hPl, HJ, hown, hb⟩ := hrel
    obtain ⟨p0, p1, p2, p3⟩ := HP.out _ hb
    have hfc := HFC.out _ hb
    by_cases hlt : j < zs.length
    · obtain ⟨fg, fo, rfl, hfg, hcz⟩ := HRI.out _ hb j hlt
      have HD : Hid (_ = _) := HS.out j hlt
      have hz64 := HF.out _ (List.getElem_mem hlt)
      generalize zs[j] = z at *
      have CSX : Hid (∀ X, Below W.heap.size W X → _) := fun X hX => CS.out z X hz64 (HRX.out X hX)
      have i2 : (j : Int) < (zs.length : Int) := by omega
      obtain ⟨sl, hsl⟩ : ∃ sl, slotZ H z = sl := ⟨_, rfl⟩
      have hsl7 : -1 ≤ sl ∧ sl ≤ 7 := by
        rw [← hsl]
        unfold slotZ
        split
        · omega
        · split
          · omega
          · split <;> omega
      rw [hsl] at HD CSX
      clear hsl
      go_wp2_with fail
      refine (CSX.out _ hb).mono ?_
      rintro e X ⟨rfl, hX⟩
      have hown2 := ownI_later hown hX
      have hb2 := hb.trans (hX.mono hb.size)
      clear CSX hown hb p0 p1 p2 p3 hfc hcz
      by_cases hz : 0 ≤ sl
      · have HZ : Hid (Z = (P ++ [sl]) ++ kidL H (zs.drop (j + 1))) := by show _ = _; rw [HJ.out, HD.out, if_pos hz]; simp
        clear HD
        go_wp2_with (at_builtin; refine wpList_appendI rfl _ _ rfl W.heap.size _ P rfl (ownI_alloc _ hown2) ⟨X.heap.size, 0, none⟩ [sl] 1 1 rfl rfl ?hsrc ?hlen W (hb2.alloc hb2.size _) (Nat.le_refl _) ?_)
        case hsrc => exact src_int X sl
        case hlen => rw [List.length_singleton]; omega
        · intro v4 w4 O4 B4
          go_wp2
          go_roundw
          case rel => exact ⟨j + 1, P ++ [sl], by omega, by go_num, by rw [List.length_append, List.length_singleton]; omega, HZ, O4, B4⟩
          case measure => simp [intOf]; omega
      · have HZ : Hid (Z = P ++ kidL H (zs.drop (j + 1))) := by show _ = _; rw [HJ.out, HD.out, if_neg hz]
        clear HD
        go_wp2
        go_roundw
        case rel => exact ⟨j + 1, P, by omega, by go_num, by omega, HZ, hown2, hb2⟩
        case measure => simp [intOf]; omega
    · have e : zs.length ≤ j := by omega
      have HZ : Hid (Z = P) := by show _ = _; rw [HJ.out, HN.out j e, List.append_nil]
      go_wp2
      go_ret
      exact ⟨_, rfl, HZ.out ▸ ownI_mono hown BW.size, BW.trans (hb.mono BW.size)⟩
end Go.Proofs.Ytnjplfofcjonhaa

namespace Go.Proofs.Ytnjplfofcjonhaa
open Go.RowKit
set_option linter.unusedVariables false
set_option maxRecDepth 100000
def cells16 (T : TrialD) : List Value := (T.counts ++ T.colors).map intV
def arrV (T : TrialD) : Value := .agg (cells16 T).toArray
theorem eight_form {T : TrialD} (h : Eight T) : ∃ a0 a1 a2 a3 a4 a5 a6 a7 b0 b1 b2 b3 b4 b5 b6 b7 : Int, T = ⟨[a0, a1, a2, a3, a4, a5, a6, a7], [b0, b1, b2, b3, b4, b5, b6, b7]⟩ := by
  obtain ⟨xs, ys⟩ := T
  obtain ⟨h1, h2⟩ := h
  match xs, h1, ys, h2 with
  | [a0, a1, a2, a3, a4, a5, a6, a7], _, [b0, b1, b2, b3, b4, b5, b6, b7], _ => exact ⟨_, _, _, _, _, _, _, _, _, _, _, _, _, _, _, _, rfl⟩
def Arr (X : World) (g : Nat) (T : TrialD) : Prop := X.heap[g]? = some (.cells (cells16 T).toArray 127 (0, 0))
theorem Arr.new (w : World) (T : TrialD) : Arr (w.alloc (.cells (cells16 T).toArray 127)) w.heap.size T := heap_alloc_new w _
theorem Arr.lt {X : World} {g : Nat} {T : TrialD} (h : Arr X g T) : g < X.heap.size := (Array.getElem?_eq_some_iff.1 h).1
theorem Arr.later {X Y : World} {g : Nat} {T : TrialD} (h : Arr X g T) (hb : Below X.heap.size X Y) : Arr Y g T := (hb.block g h.lt).trans h
theorem Arr.same {X Y : World} {g : Nat} {T : TrialD} (h : Arr X g T) (hs : Y.heap[g]? = X.heap[g]?) : Arr Y g T := hs.trans h
theorem Arr.cell {X : World} {g : Nat} {T : TrialD} (h : Arr X g T) (k : Nat) : X.cell? ⟨g, k, none⟩ = (cells16 T)[k]? := by
  have h' : X.heap[g]? = some (.cells (cells16 T).toArray 127 (0, 0)) := h
  simp [World.cell?, h']
theorem Arr.frozen {X : World} {g : Nat} {T : TrialD} (h : Arr X g T) (k : Nat) : X.frozen? ⟨g, k, none⟩ = false := by
  have h' : X.heap[g]? = some (.cells (cells16 T).toArray 127 (0, 0)) := h
  simp [World.frozen?, h']
theorem Arr.count {X : World} {g : Nat} {T : TrialD} (h : Arr X g T) (h8 : Eight T) (k : Nat) (hk : k < 8) : X.cell? ⟨g, k, none⟩ = some (.int .i64 (cnt T k)) := by
  rw [h.cell k]
  unfold cells16 cnt
  have hl : k < T.counts.length := by have := h8.1; omega
  rw [List.getElem?_map, List.getElem?_append_left hl, List.getElem?_eq_getElem hl, List.getD_eq_getElem?_getD, List.getElem?_eq_getElem hl]
  rfl
theorem Arr.color {X : World} {g : Nat} {T : TrialD} (h : Arr X g T) (h8 : Eight T) (k : Nat) (hk : k < 8) : X.cell? ⟨g, 8 + k, none⟩ = some (.int .i64 (col T k)) := by
  rw [h.cell (8 + k)]
  unfold cells16 col
  have hl : k < T.colors.length := by have := h8.2; omega
  rw [List.getElem?_map, List.getElem?_append_right (by have := h8.1; omega), show 8 + k - T.counts.length = k from by have := h8.1; omega, List.getElem?_eq_getElem hl, List.getD_eq_getElem?_getD, List.getElem?_eq_getElem hl]
  rfl
theorem Arr.setCount {X : World} {g : Nat} {T : TrialD} (h : Arr X g T) (h8 : Eight T) (k : Nat) (hk : k < 8) (z : Int) : Arr (X.setCell ⟨g, k, none⟩ (.int .i64 z)) g ⟨T.counts.set k z, T.colors⟩ := by
  have e := heap_setCell_same X g k _ _ (.int .i64 z) h
  have e2 : ((cells16 T).toArray.setIfInBounds k (.int .i64 z)) = (cells16 ⟨T.counts.set k z, T.colors⟩).toArray := by
    unfold cells16
    rw [List.setIfInBounds_toArray]
    simp only [List.map_append, List.map_set, intV]
    rw [List.set_append_left _ _ (by have := h8.1; simpa using by omega)]
  rw [e2] at e
  exact e
theorem Arr.setColor {X : World} {g : Nat} {T : TrialD} (h : Arr X g T) (h8 : Eight T) (k : Nat) (hk : k < 8) (z : Int) : Arr (X.setCell ⟨g, 8 + k, none⟩ (.int .i64 z)) g ⟨T.counts, T.colors.set k z⟩ := by
  have e := heap_setCell_same X g (8 + k) _ _ (.int .i64 z) h
  have e2 : ((cells16 T).toArray.setIfInBounds (8 + k) (.int .i64 z)) = (cells16 ⟨T.counts, T.colors.set k z⟩).toArray := by
    unfold cells16
    rw [List.setIfInBounds_toArray]
    simp only [List.map_append, List.map_set, intV]
    rw [List.set_append_right _ _ (by have := h8.1; simpa using by omega), List.length_map, show 8 + k - T.counts.length = k from by have := h8.1; omega]
  rw [e2] at e
  exact e
def trD (a0 a1 a2 a3 a4 a5 a6 a7 b0 b1 b2 b3 b4 b5 b6 b7 : Int) : TrialD := ⟨[a0, a1, a2, a3, a4, a5, a6, a7], [b0, b1, b2, b3, b4, b5, b6, b7]⟩
theorem eight_trD {T : TrialD} (h : Eight T) : ∃ a0 a1 a2 a3 a4 a5 a6 a7 b0 b1 b2 b3 b4 b5 b6 b7 : Int, T = trD a0 a1 a2 a3 a4 a5 a6 a7 b0 b1 b2 b3 b4 b5 b6 b7 := by
  obtain ⟨a0, a1, a2, a3, a4, a5, a6, a7, b0, b1, b2, b3, b4, b5, b6, b7, e⟩ := eight_form h
  exact ⟨a0, a1, a2, a3, a4, a5, a6, a7, b0, b1, b2, b3, b4, b5, b6, b7, e⟩
theorem trD_v (a0 a1 a2 a3 a4 a5 a6 a7 b0 b1 b2 b3 b4 b5 b6 b7 : Int) : arrV (trD a0 a1 a2 a3 a4 a5 a6 a7 b0 b1 b2 b3 b4 b5 b6 b7) = .agg #[.int .i64 a0, .int .i64 a1, .int .i64 a2, .int .i64 a3, .int .i64 a4, .int .i64 a5, .int .i64 a6, .int .i64 a7, .int .i64 b0, .int .i64 b1, .int .i64 b2, .int .i64 b3, .int .i64 b4, .int .i64 b5, .int .i64 b6, .int .i64 b7] := rfl
def set16 (X : World) (g : Nat) (a0 a1 a2 a3 a4 a5 a6 a7 b0 b1 b2 b3 b4 b5 b6 b7 : Int) : World := ((((((((((((((((X.setCell ⟨g, 0, none⟩ (.int .i64 a0)).setCell ⟨g, 1, none⟩ (.int .i64 a1)).setCell ⟨g, 2, none⟩ (.int .i64 a2)).setCell ⟨g, 3, none⟩ (.int .i64 a3)).setCell ⟨g, 4, none⟩ (.int .i64 a4)).setCell ⟨g, 5, none⟩ (.int .i64 a5)).setCell ⟨g, 6, none⟩ (.int .i64 a6)).setCell ⟨g, 7, none⟩ (.int .i64 a7)).setCell ⟨g, 8, none⟩ (.int .i64 b0)).setCell ⟨g, 9, none⟩ (.int .i64 b1)).setCell ⟨g, 10, none⟩ (.int .i64 b2)).setCell ⟨g, 11, none⟩ (.int .i64 b3)).setCell ⟨g, 12, none⟩ (.int .i64 b4)).setCell ⟨g, 13, none⟩ (.int .i64 b5)).setCell ⟨g, 14, none⟩ (.int .i64 b6)).setCell ⟨g, 15, none⟩ (.int .i64 b7))
theorem set16_size (X : World) (g : Nat) (a0 a1 a2 a3 a4 a5 a6 a7 b0 b1 b2 b3 b4 b5 b6 b7 : Int) : (set16 X g a0 a1 a2 a3 a4 a5 a6 a7 b0 b1 b2 b3 b4 b5 b6 b7).heap.size = X.heap.size := by
  have e : ∀ (Y : World) (p : Addr) (u : Value), (Y.setCell p u).heap.size = Y.heap.size := fun Y p u => by simp [World.setCell]
  unfold set16
  iterate 16 rw [e]
theorem set16_other (X : World) (g : Nat) (a0 a1 a2 a3 a4 a5 a6 a7 b0 b1 b2 b3 b4 b5 b6 b7 : Int) (i : Nat) (h : i ≠ g) : (set16 X g a0 a1 a2 a3 a4 a5 a6 a7 b0 b1 b2 b3 b4 b5 b6 b7).heap[i]? = X.heap[i]? := by
  have e : ∀ (Y : World) (k : Nat) (u : Value), (Y.setCell ⟨g, k, none⟩ u).heap[i]? = Y.heap[i]? := fun Y k u => heap_setCell_other _ _ _ _ (by exact h)
  unfold set16
  iterate 16 rw [e]
theorem set16_arr {X : World} {g : Nat} {T : TrialD} (h : Arr X g T) (h8 : Eight T) (a0 a1 a2 a3 a4 a5 a6 a7 b0 b1 b2 b3 b4 b5 b6 b7 : Int) : Arr (set16 X g a0 a1 a2 a3 a4 a5 a6 a7 b0 b1 b2 b3 b4 b5 b6 b7) g (trD a0 a1 a2 a3 a4 a5 a6 a7 b0 b1 b2 b3 b4 b5 b6 b7) := by
  obtain ⟨c0, c1, c2, c3, c4, c5, c6, c7, d0, d1, d2, d3, d4, d5, d6, d7, rfl⟩ := eight_form h8
  have h0 : Arr X g ⟨[c0, c1, c2, c3, c4, c5, c6, c7], [d0, d1, d2, d3, d4, d5, d6, d7]⟩ := h
  have h1 : Arr _ g ⟨[a0, c1, c2, c3, c4, c5, c6, c7], [d0, d1, d2, d3, d4, d5, d6, d7]⟩ := h0.setCount ⟨rfl, rfl⟩ 0 (by omega) a0
  have h2 : Arr _ g ⟨[a0, a1, c2, c3, c4, c5, c6, c7], [d0, d1, d2, d3, d4, d5, d6, d7]⟩ := h1.setCount ⟨rfl, rfl⟩ 1 (by omega) a1
  have h3 : Arr _ g ⟨[a0, a1, a2, c3, c4, c5, c6, c7], [d0, d1, d2, d3, d4, d5, d6, d7]⟩ := h2.setCount ⟨rfl, rfl⟩ 2 (by omega) a2
  have h4 : Arr _ g ⟨[a0, a1, a2, a3, c4, c5, c6, c7], [d0, d1, d2, d3, d4, d5, d6, d7]⟩ := h3.setCount ⟨rfl, rfl⟩ 3 (by omega) a3
  have h5 : Arr _ g ⟨[a0, a1, a2, a3, a4, c5, c6, c7], [d0, d1, d2, d3, d4, d5, d6, d7]⟩ := h4.setCount ⟨rfl, rfl⟩ 4 (by omega) a4
  have h6 : Arr _ g ⟨[a0, a1, a2, a3, a4, a5, c6, c7], [d0, d1, d2, d3, d4, d5, d6, d7]⟩ := h5.setCount ⟨rfl, rfl⟩ 5 (by omega) a5
  have h7 : Arr _ g ⟨[a0, a1, a2, a3, a4, a5, a6, c7], [d0, d1, d2, d3, d4, d5, d6, d7]⟩ := h6.setCount ⟨rfl, rfl⟩ 6 (by omega) a6
  have h8 : Arr _ g ⟨[a0, a1, a2, a3, a4, a5, a6, a7], [d0, d1, d2, d3, d4, d5, d6, d7]⟩ := h7.setCount ⟨rfl, rfl⟩ 7 (by omega) a7
  have h9 : Arr _ g ⟨[a0, a1, a2, a3, a4, a5, a6, a7], [b0, d1, d2, d3, d4, d5, d6, d7]⟩ := h8.setColor ⟨rfl, rfl⟩ 0 (by omega) b0
  have h10 : Arr _ g ⟨[a0, a1, a2, a3, a4, a5, a6, a7], [b0, b1, d2, d3, d4, d5, d6, d7]⟩ := h9.setColor ⟨rfl, rfl⟩ 1 (by omega) b1
  have h11 : Arr _ g ⟨[a0, a1, a2, a3, a4, a5, a6, a7], [b0, b1, b2, d3, d4, d5, d6, d7]⟩ := h10.setColor ⟨rfl, rfl⟩ 2 (by omega) b2
  have h12 : Arr _ g ⟨[a0, a1, a2, a3, a4, a5, a6, a7], [b0, b1, b2, b3, d4, d5, d6, d7]⟩ := h11.setColor ⟨rfl, rfl⟩ 3 (by omega) b3
  have h13 : Arr _ g ⟨[a0, a1, a2, a3, a4, a5, a6, a7], [b0, b1, b2, b3, b4, d5, d6, d7]⟩ := h12.setColor ⟨rfl, rfl⟩ 4 (by omega) b4
  have h14 : Arr _ g ⟨[a0, a1, a2, a3, a4, a5, a6, a7], [b0, b1, b2, b3, b4, b5, d6, d7]⟩ := h13.setColor ⟨rfl, rfl⟩ 5 (by omega) b5
  have h15 : Arr _ g ⟨[a0, a1, a2, a3, a4, a5, a6, a7], [b0, b1, b2, b3, b4, b5, b6, d7]⟩ := h14.setColor ⟨rfl, rfl⟩ 6 (by omega) b6
  have h16 : Arr _ g ⟨[a0, a1, a2, a3, a4, a5, a6, a7], [b0, b1, b2, b3, b4, b5, b6, b7]⟩ := h15.setColor ⟨rfl, rfl⟩ 7 (by omega) b7
  exact h16
theorem set16_below {n : Nat} {w X : World} {g : Nat} (a0 a1 a2 a3 a4 a5 a6 a7 b0 b1 b2 b3 b4 b5 b6 b7 : Int) (h : Below n w X) (hg : n ≤ g) : Below n w (set16 X g a0 a1 a2 a3 a4 a5 a6 a7 b0 b1 b2 b3 b4 b5 b6 b7) := by
  have e : ∀ (Y : World) (k : Nat) (u : Value), Below n w Y → Below n w (Y.setCell ⟨g, k, none⟩ u) := fun Y k u hY => hY.setCell (p := ⟨g, k, none⟩) hg u
  unfold set16
  iterate 16 apply e
  exact h
theorem Arr.all {X : World} {g : Nat} {a0 a1 a2 a3 a4 a5 a6 a7 b0 b1 b2 b3 b4 b5 b6 b7 : Int} (h : Arr X g (trD a0 a1 a2 a3 a4 a5 a6 a7 b0 b1 b2 b3 b4 b5 b6 b7)) : X.cell? ⟨g, 0, none⟩ = some (.int .i64 a0) ∧ X.cell? ⟨g, 1, none⟩ = some (.int .i64 a1) ∧ X.cell? ⟨g, 2, none⟩ = some (.int .i64 a2) ∧ X.cell? ⟨g, 3, none⟩ = some (.int .i64 a3) ∧ X.cell? ⟨g, 4, none⟩ = some (.int .i64 a4) ∧ X.cell? ⟨g, 5, none⟩ = some (.int .i64 a5) ∧ X.cell? ⟨g, 6, none⟩ = some (.int .i64 a6) ∧ X.cell? ⟨g, 7, none⟩ = some (.int .i64 a7) ∧ X.cell? ⟨g, 8, none⟩ = some (.int .i64 b0) ∧ X.cell? ⟨g, 9, none⟩ = some (.int .i64 b1) ∧ X.cell? ⟨g, 10, none⟩ = some (.int .i64 b2) ∧ X.cell? ⟨g, 11, none⟩ = some (.int .i64 b3) ∧ X.cell? ⟨g, 12, none⟩ = some (.int .i64 b4) ∧ X.cell? ⟨g, 13, none⟩ = some (.int .i64 b5) ∧ X.cell? ⟨g, 14, none⟩ = some (.int .i64 b6) ∧ X.cell? ⟨g, 15, none⟩ = some (.int .i64 b7) := by
  have q : ∀ k, X.cell? ⟨g, k, none⟩ = (#[.int .i64 a0, .int .i64 a1, .int .i64 a2, .int .i64 a3, .int .i64 a4, .int .i64 a5, .int .i64 a6, .int .i64 a7, .int .i64 b0, .int .i64 b1, .int .i64 b2, .int .i64 b3, .int .i64 b4, .int .i64 b5, .int .i64 b6, .int .i64 b7] : Array Value)[k]? := fun k => by
    have h' : X.heap[g]? = some (.cells #[.int .i64 a0, .int .i64 a1, .int .i64 a2, .int .i64 a3, .int .i64 a4, .int .i64 a5, .int .i64 a6, .int .i64 a7, .int .i64 b0, .int .i64 b1, .int .i64 b2, .int .i64 b3, .int .i64 b4, .int .i64 b5, .int .i64 b6, .int .i64 b7] 127 (0, 0)) := h
    simp [World.cell?, h']
  exact ⟨q 0, q 1, q 2, q 3, q 4, q 5, q 6, q 7, q 8, q 9, q 10, q 11, q 12, q 13, q 14, q 15⟩
theorem opLoad16 {t i : Tmp} {ty : TypeId} {pos : String} {af : Array Edge} {a : Act} {X : World} {K : Act → World → Prop} {Q : Exit → Act → World → Prop} {g : Nat} {a0 a1 a2 a3 a4 a5 a6 a7 b0 b1 b2 b3 b4 b5 b6 b7 : Int} (h1 : a.eval (.tmp i) = .pointer (some ⟨g, 0, none⟩)) (hA : Arr X g (trD a0 a1 a2 a3 a4 a5 a6 a7 b0 b1 b2 b3 b4 b5 b6 b7)) (hK : K (a.put (some t) (.agg #[.int .i64 a0, .int .i64 a1, .int .i64 a2, .int .i64 a3, .int .i64 a4, .int .i64 a5, .int .i64 a6, .int .i64 a7, .int .i64 b0, .int .i64 b1, .int .i64 b2, .int .i64 b3, .int .i64 b4, .int .i64 b5, .int .i64 b6, .int .i64 b7])) X) :
    Oper.wp Try.prog ⟨some t, .load 127 (.tmp i), ty, pos, af, none⟩ a X K Q := by
  have e1 := ev_tmp h1
  obtain ⟨f0_, f1_, f2_, f3_, f4_, f5_, f6_, f7_, f8_, f9_, f10_, f11_, f12_, f13_, f14_, f15_⟩ := hA.all
  go_simp; exact hK
set_option maxHeartbeats 1000000 in
theorem opStore16 {i j : Tmp} {ty : TypeId} {pos : String} {af : Array Edge} {a : Act} {X : World} {K : Act → World → Prop} {Q : Exit → Act → World → Prop} {g : Nat} {T : TrialD} {a0 a1 a2 a3 a4 a5 a6 a7 b0 b1 b2 b3 b4 b5 b6 b7 : Int} (h1 : a.eval (.tmp i) = .pointer (some ⟨g, 0, none⟩)) (h2 : a.eval (.tmp j) = .agg #[.int .i64 a0, .int .i64 a1, .int .i64 a2, .int .i64 a3, .int .i64 a4, .int .i64 a5, .int .i64 a6, .int .i64 a7, .int .i64 b0, .int .i64 b1, .int .i64 b2, .int .i64 b3, .int .i64 b4, .int .i64 b5, .int .i64 b6, .int .i64 b7]) (hA : Arr X g T) (h8 : Eight T) (hK : K a (set16 X g a0 a1 a2 a3 a4 a5 a6 a7 b0 b1 b2 b3 b4 b5 b6 b7)) :
    Oper.wp Try.prog ⟨none, .store 127 (.tmp i) (.tmp j), ty, pos, af, none⟩ a X K Q := by
  have e1 := ev_tmp h1
  have e2 := ev_tmp h2
  obtain ⟨p0, p1, p2, p3, p4, p5, p6, p7, p8, p9, p10, p11, p12, p13, p14, p15, rfl⟩ := eight_trD h8
  obtain ⟨f0_, f1_, f2_, f3_, f4_, f5_, f6_, f7_, f8_, f9_, f10_, f11_, f12_, f13_, f14_, f15_⟩ := hA.all
  have z0_ := hA.frozen 0
  have z1_ := hA.frozen 1
  have z2_ := hA.frozen 2
  have z3_ := hA.frozen 3
  have z4_ := hA.frozen 4
  have z5_ := hA.frozen 5
  have z6_ := hA.frozen 6
  have z7_ := hA.frozen 7
  have z8_ := hA.frozen 8
  have z9_ := hA.frozen 9
  have z10_ := hA.frozen 10
  have z11_ := hA.frozen 11
  have z12_ := hA.frozen 12
  have z13_ := hA.frozen 13
  have z14_ := hA.frozen 14
  have z15_ := hA.frozen 15
  unfold set16 at hK
  clear h8 hA
  go_simp; exact hK
theorem wpList_load16 {ops : Array Oper} {rest : List Oper} {t i : Tmp} {ty : TypeId} {pos : String} {af : Array Edge} {a : Act} {X : World} {Q : Exit → Act → World → Prop} {g : Nat} {a0 a1 a2 a3 a4 a5 a6 a7 b0 b1 b2 b3 b4 b5 b6 b7 : Int} (h1 : a.eval (.tmp i) = .pointer (some ⟨g, 0, none⟩)) (hA : Arr X g (trD a0 a1 a2 a3 a4 a5 a6 a7 b0 b1 b2 b3 b4 b5 b6 b7)) (h : wpList Try.prog ops Q rest (a.put (some t) (.agg #[.int .i64 a0, .int .i64 a1, .int .i64 a2, .int .i64 a3, .int .i64 a4, .int .i64 a5, .int .i64 a6, .int .i64 a7, .int .i64 b0, .int .i64 b1, .int .i64 b2, .int .i64 b3, .int .i64 b4, .int .i64 b5, .int .i64 b6, .int .i64 b7])) X) :
    wpList Try.prog ops Q (⟨some t, .load 127 (.tmp i), ty, pos, af, none⟩ :: rest) a X := wpList_plain rfl fun K hK => opLoad16 h1 hA (hK _ _ h)
theorem wpList_store16 {ops : Array Oper} {rest : List Oper} {i j : Tmp} {ty : TypeId} {pos : String} {af : Array Edge} {a : Act} {X : World} {Q : Exit → Act → World → Prop} {g : Nat} {T : TrialD} {a0 a1 a2 a3 a4 a5 a6 a7 b0 b1 b2 b3 b4 b5 b6 b7 : Int} (h1 : a.eval (.tmp i) = .pointer (some ⟨g, 0, none⟩)) (h2 : a.eval (.tmp j) = .agg #[.int .i64 a0, .int .i64 a1, .int .i64 a2, .int .i64 a3, .int .i64 a4, .int .i64 a5, .int .i64 a6, .int .i64 a7, .int .i64 b0, .int .i64 b1, .int .i64 b2, .int .i64 b3, .int .i64 b4, .int .i64 b5, .int .i64 b6, .int .i64 b7]) (hA : Arr X g T) (h8 : Eight T) (h : wpList Try.prog ops Q rest a (set16 X g a0 a1 a2 a3 a4 a5 a6 a7 b0 b1 b2 b3 b4 b5 b6 b7)) :
    wpList Try.prog ops Q (⟨none, .store 127 (.tmp i) (.tmp j), ty, pos, af, none⟩ :: rest) a X := wpList_plain rfl fun K hK => opStore16 h1 h2 hA h8 (hK _ _ h)
end Go.Proofs.Ytnjplfofcjonhaa

namespace Go.Proofs.Ytnjplfofcjonhaa
open Go.RowKit
set_option linter.unusedVariables false
set_option maxRecDepth 100000
set_option maxHeartbeats 4000000 in
theorem painted_same (v : Value) (H : HeapD) (c d : Int) (T : TrialD) (k : Nat) (w : World) (h8 : Eight T) (hk : k < 8) (hc : col T k = c) (h : RdH w v H) :
    Calls Try.prog 117 #[arrV T, v, .int .i64 (k : Int), .int .i64 c, .int .i64 d] w fun e w' => e = .returned (arrV T) ∧ Below w.heap.size w w' := by
  obtain ⟨ao, co, aw, cw, ab, cb, sa, sc, rfl, -, -, -, -⟩ := h
  obtain ⟨a0, a1, a2, a3, a4, a5, a6, a7, b0, b1, b2, b3, b4, b5, b6, b7, rfl⟩ := eight_trD h8
  obtain ⟨W, hW⟩ : ∃ W, W = ((w.alloc (.cells #[.int .i64 a0, .int .i64 a1, .int .i64 a2, .int .i64 a3, .int .i64 a4, .int .i64 a5, .int .i64 a6, .int .i64 a7, .int .i64 b0, .int .i64 b1, .int .i64 b2, .int .i64 b3, .int .i64 b4, .int .i64 b5, .int .i64 b6, .int .i64 b7] 127)).alloc (.cells #[.slice ao H.objs.length co, .slice aw H.weaks.length cw, .slice ab H.buffer.length cb, .slice sa H.sites.length sc] 29)).alloc (.cells #[.int .i64 0, .int .i64 0, .int .i64 0, .int .i64 0, .int .i64 0, .int .i64 0, .int .i64 0, .int .i64 0, .int .i64 0, .int .i64 0, .int .i64 0, .int .i64 0, .int .i64 0, .int .i64 0, .int .i64 0, .int .i64 0] 127) := ⟨_, rfl⟩
  have A0 : Arr W w.heap.size (trD a0 a1 a2 a3 a4 a5 a6 a7 b0 b1 b2 b3 b4 b5 b6 b7) := by
    have f := Arr.new w (trD a0 a1 a2 a3 a4 a5 a6 a7 b0 b1 b2 b3 b4 b5 b6 b7)
    have f2 := f.later ((Below.refl _ _).alloc (Nat.le_refl _) (.cells #[.slice ao H.objs.length co, .slice aw H.weaks.length cw, .slice ab H.buffer.length cb, .slice sa H.sites.length sc] 29))
    have f3 := f2.later ((Below.refl _ _).alloc (Nat.le_refl _) (.cells #[.int .i64 0, .int .i64 0, .int .i64 0, .int .i64 0, .int .i64 0, .int .i64 0, .int .i64 0, .int .i64 0, .int .i64 0, .int .i64 0, .int .i64 0, .int .i64 0, .int .i64 0, .int .i64 0, .int .i64 0, .int .i64 0] 127))
    rw [hW]; exact f3
  have ck := A0.color h8 k hk
  rw [hc] at ck
  rw [hW] at ck
  have hk8 : (k : Int) < 8 := by omega
  clear A0 hc hW
  rw [trD_v]
  go_enter Try.func117, Try.ntmps117
  go_wp2
  refine bodyPost_ret (v := .agg #[.int .i64 a0, .int .i64 a1, .int .i64 a2, .int .i64 a3, .int .i64 a4, .int .i64 a5, .int .i64 a6, .int .i64 a7, .int .i64 b0, .int .i64 b1, .int .i64 b2, .int .i64 b3, .int .i64 b4, .int .i64 b5, .int .i64 b6, .int .i64 b7]) (by simp [results, Try.results117, go_sem, *]) rfl ⟨rfl, ?_⟩
  exact (((Below.refl _ _).alloc (Nat.le_refl _) _).alloc (by simp) _).alloc (by simp; omega) _
theorem others_le_of {c : Int} {T T' : TrialD} (h8 : Eight T) (h8' : Eight T') (h : ∀ j, j < 8 → col T' j ≠ c → col T j ≠ c) : others c T'.colors ≤ others c T.colors := by
  obtain ⟨a0, a1, a2, a3, a4, a5, a6, a7, b0, b1, b2, b3, b4, b5, b6, b7, rfl⟩ := eight_form h8
  obtain ⟨x0, x1, x2, x3, x4, x5, x6, x7, y0, y1, y2, y3, y4, y5, y6, y7, rfl⟩ := eight_form h8'
  have e0 := h 0 (by omega)
  have e1 := h 1 (by omega)
  have e2 := h 2 (by omega)
  have e3 := h 3 (by omega)
  have e4 := h 4 (by omega)
  have e5 := h 5 (by omega)
  have e6 := h 6 (by omega)
  have e7 := h 7 (by omega)
  simp only [col, List.getD_cons_zero, List.getD_cons_succ] at e0 e1 e2 e3 e4 e5 e6 e7
  have one : ∀ x y : Int, (y ≠ c → x ≠ c) → (if (!decide (y = c)) = true then 1 else 0) ≤ (if (!decide (x = c)) = true then 1 else 0) := fun x y hxy => by
    by_cases hy : y = c
    · simp [hy]
    · simp [hy, hxy hy]
  have g0 := one _ _ e0
  have g1 := one _ _ e1
  have g2 := one _ _ e2
  have g3 := one _ _ e3
  have g4 := one _ _ e4
  have g5 := one _ _ e5
  have g6 := one _ _ e6
  have g7 := one _ _ e7
  simp only [others, List.countP_cons, List.countP_nil]
  omega
theorem deep_others {d c : Int} {H : HeapD} {T0 T T' : TrialD} {R : Nat → Prop} {C C' : List Nat} {M M' : List Int} (h : Deep d c H T0 R T C M) (h' : Deep d c H T0 R T' C' M') (hC : ∀ x ∈ C, x ∈ C') : others c T'.colors ≤ others c T.colors :=
  others_le_of h.pt.e h'.pt.e (fun j hj hne => by
    rw [h'.pt.col j hj] at hne
    rw [h.pt.col j hj]
    by_cases hm : j ∈ C
    · rw [if_pos (hC j hm)] at hne; exact absurd rfl hne
    · rw [if_neg hm]
      by_cases hm' : j ∈ C'
      · rw [if_pos hm'] at hne; exact absurd rfl hne
      · rw [if_neg hm'] at hne; exact hne)
structure PF (w wr : World) (x0 x1 x2 x3 : Value) (T : TrialD) (vk : Value) (ks : List Int) : Prop where
  bel : Below w.heap.size w wr
  arr : Arr wr w.heap.size T
  heap : Four wr (w.heap.size + 1) x0 x1 x2 x3
  res : Arr wr (w.heap.size + 2) (trD 0 0 0 0 0 0 0 0 0 0 0 0 0 0 0 0)
  kids : ownI wr (w.heap.size + 3) vk ks
theorem PF.later {w wr X : World} {x0 x1 x2 x3 : Value} {T : TrialD} {vk : Value} {ks : List Int} (h : PF w wr x0 x1 x2 x3 T vk ks) (hb : Below wr.heap.size wr X) : PF w X x0 x1 x2 x3 T vk ks :=
  ⟨h.bel.trans (hb.mono h.bel.size), h.arr.later hb, h.heap.later hb, h.res.later hb, ownI_later h.kids hb⟩
theorem PF.turn {w wr X : World} {x0 x1 x2 x3 : Value} {T T' : TrialD} {vk : Value} {ks : List Int} (h : PF w wr x0 x1 x2 x3 T vk ks) (hb : Below w.heap.size w X) (ho : ∀ i, i ≠ w.heap.size → X.heap[i]? = wr.heap[i]?) (ha : Arr X w.heap.size T') : PF w X x0 x1 x2 x3 T' vk ks :=
  ⟨hb, ha, h.heap.same (ho _ (by omega)), h.res.same (ho _ (by omega)), ownI_same h.kids (fun g hg => ho g (by have := (ownI_lt h.kids g hg).1; omega))⟩
set_option maxHeartbeats 16000000 in
theorem painted_calls (v : Value) (H : HeapD) (c d : Int) (hs : SmallH H) (h8 : H.objs.length = 8) (hf : ∀ o ∈ H.objs, ∀ z ∈ o.field, in64 z) (T0 : TrialD) (R : Nat → Prop) (hR : Runs c H T0 R) :
    ∀ (n : Nat) (T : TrialD) (C : List Nat) (M : List Int) (k : Nat) (w : World), others c T.colors ≤ n → Deep d c H T0 R T C M → k < 8 → (col T0 k ≠ c → R k) → RdH w v H →
      Calls Try.prog 117 #[arrV T, v, .int .i64 (k : Int), .int .i64 c, .int .i64 d] w fun e w' => ∃ T', e = .returned (arrV T') ∧ Painted d c H T0 R C M k T' ∧ Below w.heap.size w w' := by
  intro n
  induction n with
  | zero =>
    intro T C M k w hn hd hk hRk h
    have hc : col T k = c := Decidable.byContradiction fun hne => by
      have hl : k < T.colors.length := by have := hd.pt.e.2; omega
      unfold col at hne
      rw [List.getD_eq_getElem?_getD, List.getElem?_eq_getElem hl, Option.getD_some] at hne
      have := others_set c T.colors k hl hne
      omega
    refine (painted_same v H c d T k w hd.pt.e hk hc h).mono ?_
    rintro e w' ⟨rfl, hb⟩
    exact ⟨T, rfl, painted_yes hd hk hc, hb⟩
  | succ n ih =>
    intro T C M k w hn hd hk hRk h
    by_cases hc : col T k = c
    · refine (painted_same v H c d T k w hd.pt.e hk hc h).mono ?_
      rintro e w' ⟨rfl, hb⟩
      exact ⟨T, rfl, painted_yes hd hk hc, hb⟩
    have HR1 : Hid (∀ X, Below w.heap.size w X → RdH X v H) := fun X hX => rdH_later h hX
    have HST : Hid (Midst d c H T0 R C M k 0 ⟨T.counts, T.colors.set k c⟩) := midst_start hd hk hRk hc
    have HE1 : Hid (Eight ⟨T.counts, T.colors.set k c⟩) := ⟨hd.pt.e.1, by simpa using hd.pt.e.2⟩
    have HO1 : Hid (others c (TrialD.mk T.counts (T.colors.set k c)).colors ≤ n) := by
      have hl : k < T.colors.length := by have := hd.pt.e.2; omega
      have hne := hc
      unfold col at hne
      rw [List.getD_eq_getElem?_getD, List.getElem?_eq_getElem hl, Option.getD_some] at hne
      have := others_set c T.colors k hl hne
      show others c (T.colors.set k c) ≤ n
      omega
    have hk2 : k < H.objs.length := by omega
    have CK : Hid (∀ X, Below w.heap.size w X → _) := fun X hX => iKids_calls v H k X (HR1.out X hX) hs hk2 (hf _ (List.getElem_mem hk2))
    rw [← kidsOf_at H k hk2] at CK
    have hkl := kidsOf_le H (k : Int) hs
    have HIH : Hid (∀ (T : TrialD) (C : List Nat) (M : List Int) (j : Nat) (w' : World), others c T.colors ≤ n → Deep d c H T0 R T C M → j < 8 → (col T0 j ≠ c → R j) → Below w.heap.size w w' → _) := fun T C M j w' h1 h2 h3 h4 h5 => ih T C M j w' h1 h2 h3 h4 (HR1.out w' h5)
    have e8 := hd.pt.e
    obtain ⟨ao, co, aw, cw, ab, cb, sa, sc, rfl, -, -, -, -⟩ := h
    obtain ⟨a0, a1, a2, a3, a4, a5, a6, a7, b0, b1, b2, b3, b4, b5, b6, b7, rfl⟩ := eight_trD e8
    rw [h8] at CK HIH HR1 ⊢
    generalize H.weaks.length = nw at *
    generalize H.buffer.length = nb at *
    generalize H.sites.length = ns at *
    obtain ⟨W, hW⟩ : ∃ W, W = ((w.alloc (.cells #[.int .i64 a0, .int .i64 a1, .int .i64 a2, .int .i64 a3, .int .i64 a4, .int .i64 a5, .int .i64 a6, .int .i64 a7, .int .i64 b0, .int .i64 b1, .int .i64 b2, .int .i64 b3, .int .i64 b4, .int .i64 b5, .int .i64 b6, .int .i64 b7] 127)).alloc (.cells #[.slice ao 8 co, .slice aw nw cw, .slice ab nb cb, .slice sa ns sc] 29)).alloc (.cells #[.int .i64 0, .int .i64 0, .int .i64 0, .int .i64 0, .int .i64 0, .int .i64 0, .int .i64 0, .int .i64 0, .int .i64 0, .int .i64 0, .int .i64 0, .int .i64 0, .int .i64 0, .int .i64 0, .int .i64 0, .int .i64 0] 127) := ⟨_, rfl⟩
    have BW : Below w.heap.size w W := by rw [hW]; exact (((Below.refl _ _).alloc (Nat.le_refl _) _).alloc (by simp) _).alloc (by simp; omega) _
    have sW : W.heap.size = w.heap.size + 3 := by rw [hW]; simp
    have A0 : Arr W w.heap.size (trD a0 a1 a2 a3 a4 a5 a6 a7 b0 b1 b2 b3 b4 b5 b6 b7) := by
      have f := Arr.new w (trD a0 a1 a2 a3 a4 a5 a6 a7 b0 b1 b2 b3 b4 b5 b6 b7)
      have f2 := f.later ((Below.refl _ _).alloc (Nat.le_refl _) (.cells #[.slice ao 8 co, .slice aw nw cw, .slice ab nb cb, .slice sa ns sc] 29))
      have f3 := f2.later ((Below.refl _ _).alloc (Nat.le_refl _) (.cells #[.int .i64 0, .int .i64 0, .int .i64 0, .int .i64 0, .int .i64 0, .int .i64 0, .int .i64 0, .int .i64 0, .int .i64 0, .int .i64 0, .int .i64 0, .int .i64 0, .int .i64 0, .int .i64 0, .int .i64 0, .int .i64 0] 127))
      rw [hW]; exact f3
    have F0 : Four W (w.heap.size + 1) (.slice ao 8 co) (.slice aw nw cw) (.slice ab nb cb) (.slice sa ns sc) := by
      have f := Four.new (w.alloc (.cells #[.int .i64 a0, .int .i64 a1, .int .i64 a2, .int .i64 a3, .int .i64 a4, .int .i64 a5, .int .i64 a6, .int .i64 a7, .int .i64 b0, .int .i64 b1, .int .i64 b2, .int .i64 b3, .int .i64 b4, .int .i64 b5, .int .i64 b6, .int .i64 b7] 127)) (.slice ao 8 co) (.slice aw nw cw) (.slice ab nb cb) (.slice sa ns sc)
      have f3 := f.later ((Below.refl _ _).alloc (Nat.le_refl _) (.cells #[.int .i64 0, .int .i64 0, .int .i64 0, .int .i64 0, .int .i64 0, .int .i64 0, .int .i64 0, .int .i64 0, .int .i64 0, .int .i64 0, .int .i64 0, .int .i64 0, .int .i64 0, .int .i64 0, .int .i64 0, .int .i64 0] 127))
      rw [hW]; simpa using f3
    have Z0 : Arr W (w.heap.size + 2) (trD 0 0 0 0 0 0 0 0 0 0 0 0 0 0 0 0) := by
      have f := Arr.new ((w.alloc (.cells #[.int .i64 a0, .int .i64 a1, .int .i64 a2, .int .i64 a3, .int .i64 a4, .int .i64 a5, .int .i64 a6, .int .i64 a7, .int .i64 b0, .int .i64 b1, .int .i64 b2, .int .i64 b3, .int .i64 b4, .int .i64 b5, .int .i64 b6, .int .i64 b7] 127)).alloc (.cells #[.slice ao 8 co, .slice aw nw cw, .slice ab nb cb, .slice sa ns sc] 29)) (trD 0 0 0 0 0 0 0 0 0 0 0 0 0 0 0 0)
      have f2 : Arr W ((w.alloc (.cells #[.int .i64 a0, .int .i64 a1, .int .i64 a2, .int .i64 a3, .int .i64 a4, .int .i64 a5, .int .i64 a6, .int .i64 a7, .int .i64 b0, .int .i64 b1, .int .i64 b2, .int .i64 b3, .int .i64 b4, .int .i64 b5, .int .i64 b6, .int .i64 b7] 127)).alloc (.cells #[.slice ao 8 co, .slice aw nw cw, .slice ab nb cb, .slice sa ns sc] 29)).heap.size (trD 0 0 0 0 0 0 0 0 0 0 0 0 0 0 0 0) := by rw [hW]; exact f
      simpa using f2
    have ck := A0.color e8 k hk
    have fk := A0.frozen (8 + k)
    obtain ⟨W1, hW1⟩ : ∃ W1, W1 = ((w.alloc (.cells ([.int .i64 a0, .int .i64 a1, .int .i64 a2, .int .i64 a3, .int .i64 a4, .int .i64 a5, .int .i64 a6, .int .i64 a7, .int .i64 b0, .int .i64 b1, .int .i64 b2, .int .i64 b3, .int .i64 b4, .int .i64 b5, .int .i64 b6, .int .i64 b7].set (8 + k) (.int .i64 c)).toArray 127)).alloc (.cells #[.slice ao 8 co, .slice aw nw cw, .slice ab nb cb, .slice sa ns sc] 29)).alloc (.cells #[.int .i64 0, .int .i64 0, .int .i64 0, .int .i64 0, .int .i64 0, .int .i64 0, .int .i64 0, .int .i64 0, .int .i64 0, .int .i64 0, .int .i64 0, .int .i64 0, .int .i64 0, .int .i64 0, .int .i64 0, .int .i64 0] 127) := ⟨_, rfl⟩
    have B1 : Below w.heap.size w W1 := by rw [hW1]; exact (((Below.refl _ _).alloc (Nat.le_refl _) _).alloc (by simp) _).alloc (by simp; omega) _
    have s1 : W1.heap.size = w.heap.size + 3 := by rw [hW1]; simp
    have ec : [.int .i64 a0, .int .i64 a1, .int .i64 a2, .int .i64 a3, .int .i64 a4, .int .i64 a5, .int .i64 a6, .int .i64 a7, .int .i64 b0, .int .i64 b1, .int .i64 b2, .int .i64 b3, .int .i64 b4, .int .i64 b5, .int .i64 b6, .int .i64 b7].set (8 + k) (.int .i64 c) = cells16 ⟨(trD a0 a1 a2 a3 a4 a5 a6 a7 b0 b1 b2 b3 b4 b5 b6 b7).counts, (trD a0 a1 a2 a3 a4 a5 a6 a7 b0 b1 b2 b3 b4 b5 b6 b7).colors.set k c⟩ := by
      unfold cells16
      simp only [List.map_append, List.map_set]
      show (List.map intV (trD a0 a1 a2 a3 a4 a5 a6 a7 b0 b1 b2 b3 b4 b5 b6 b7).counts ++ List.map intV (trD a0 a1 a2 a3 a4 a5 a6 a7 b0 b1 b2 b3 b4 b5 b6 b7).colors).set (8 + k) (intV c) = _
      rw [List.set_append_right _ _ (by simp [trD]), show 8 + k - (List.map intV (trD a0 a1 a2 a3 a4 a5 a6 a7 b0 b1 b2 b3 b4 b5 b6 b7).counts).length = k from by simp [trD]]
    have A1 : Arr W1 w.heap.size ⟨(trD a0 a1 a2 a3 a4 a5 a6 a7 b0 b1 b2 b3 b4 b5 b6 b7).counts, (trD a0 a1 a2 a3 a4 a5 a6 a7 b0 b1 b2 b3 b4 b5 b6 b7).colors.set k c⟩ := by
      rw [ec] at hW1
      have f := Arr.new w ⟨(trD a0 a1 a2 a3 a4 a5 a6 a7 b0 b1 b2 b3 b4 b5 b6 b7).counts, (trD a0 a1 a2 a3 a4 a5 a6 a7 b0 b1 b2 b3 b4 b5 b6 b7).colors.set k c⟩
      have f2 := f.later ((Below.refl _ _).alloc (Nat.le_refl _) (.cells #[.slice ao 8 co, .slice aw nw cw, .slice ab nb cb, .slice sa ns sc] 29))
      have f3 := f2.later ((Below.refl _ _).alloc (Nat.le_refl _) (.cells #[.int .i64 0, .int .i64 0, .int .i64 0, .int .i64 0, .int .i64 0, .int .i64 0, .int .i64 0, .int .i64 0, .int .i64 0, .int .i64 0, .int .i64 0, .int .i64 0, .int .i64 0, .int .i64 0, .int .i64 0, .int .i64 0] 127))
      rw [hW1]; exact f3
    have F1 : Four W1 (w.heap.size + 1) (.slice ao 8 co) (.slice aw nw cw) (.slice ab nb cb) (.slice sa ns sc) := by
      have f := Four.new (w.alloc (.cells ([.int .i64 a0, .int .i64 a1, .int .i64 a2, .int .i64 a3, .int .i64 a4, .int .i64 a5, .int .i64 a6, .int .i64 a7, .int .i64 b0, .int .i64 b1, .int .i64 b2, .int .i64 b3, .int .i64 b4, .int .i64 b5, .int .i64 b6, .int .i64 b7].set (8 + k) (.int .i64 c)).toArray 127)) (.slice ao 8 co) (.slice aw nw cw) (.slice ab nb cb) (.slice sa ns sc)
      have f3 := f.later ((Below.refl _ _).alloc (Nat.le_refl _) (.cells #[.int .i64 0, .int .i64 0, .int .i64 0, .int .i64 0, .int .i64 0, .int .i64 0, .int .i64 0, .int .i64 0, .int .i64 0, .int .i64 0, .int .i64 0, .int .i64 0, .int .i64 0, .int .i64 0, .int .i64 0, .int .i64 0] 127))
      rw [hW1]; simpa using f3
    have Z1 : Arr W1 (w.heap.size + 2) (trD 0 0 0 0 0 0 0 0 0 0 0 0 0 0 0 0) := by
      have f := Arr.new ((w.alloc (.cells ([.int .i64 a0, .int .i64 a1, .int .i64 a2, .int .i64 a3, .int .i64 a4, .int .i64 a5, .int .i64 a6, .int .i64 a7, .int .i64 b0, .int .i64 b1, .int .i64 b2, .int .i64 b3, .int .i64 b4, .int .i64 b5, .int .i64 b6, .int .i64 b7].set (8 + k) (.int .i64 c)).toArray 127)).alloc (.cells #[.slice ao 8 co, .slice aw nw cw, .slice ab nb cb, .slice sa ns sc] 29)) (trD 0 0 0 0 0 0 0 0 0 0 0 0 0 0 0 0)
      have f2 : Arr W1 ((w.alloc (.cells ([.int .i64 a0, .int .i64 a1, .int .i64 a2, .int .i64 a3, .int .i64 a4, .int .i64 a5, .int .i64 a6, .int .i64 a7, .int .i64 b0, .int .i64 b1, .int .i64 b2, .int .i64 b3, .int .i64 b4, .int .i64 b5, .int .i64 b6, .int .i64 b7].set (8 + k) (.int .i64 c)).toArray 127)).alloc (.cells #[.slice ao 8 co, .slice aw nw cw, .slice ab nb cb, .slice sa ns sc] 29)).heap.size (trD 0 0 0 0 0 0 0 0 0 0 0 0 0 0 0 0) := by rw [hW1]; exact f
      simpa using f2
    have HP1 : Hid (∀ X vk ks, Below W1.heap.size W1 X → ownI X (w.heap.size + 3) vk ks → PF w X (.slice ao 8 co) (.slice aw nw cw) (.slice ab nb cb) (.slice sa ns sc) ⟨(trD a0 a1 a2 a3 a4 a5 a6 a7 b0 b1 b2 b3 b4 b5 b6 b7).counts, (trD a0 a1 a2 a3 a4 a5 a6 a7 b0 b1 b2 b3 b4 b5 b6 b7).colors.set k c⟩ vk ks) := fun X vk ks hX ho =>
      ⟨B1.trans (hX.mono B1.size), A1.later hX, F1.later hX, Z1.later hX, ho⟩
    have hk8 : (k : Int) < 8 := by omega
    clear A1 F1 Z1 ec
    generalize (⟨(trD a0 a1 a2 a3 a4 a5 a6 a7 b0 b1 b2 b3 b4 b5 b6 b7).counts, (trD a0 a1 a2 a3 a4 a5 a6 a7 b0 b1 b2 b3 b4 b5 b6 b7).colors.set k c⟩ : TrialD) = T1 at HP1 HST HE1 HO1
    generalize col (trD a0 a1 a2 a3 a4 a5 a6 a7 b0 b1 b2 b3 b4 b5 b6 b7) k = q at *
    rw [hW] at ck fk
    clear A0 F0 Z0 hd hRk e8 hW BW sW
    rw [trD_v]
    obtain ⟨L, hL⟩ : ∃ L, (kidsOf H (k : Int)).length = L := ⟨_, rfl⟩
    have HL : Hid ((kidsOf H (k : Int)).length = L) := hL
    rw [hL] at hkl
    clear hL
    have Hs1 : Hid (W1.heap.size = w.heap.size + 3) := s1
    go_enter Try.func117, Try.ntmps117
    go_wp2_with fail
    rw [← hW1]
    clear hW1 ck fk s1
    refine (CK.out _ B1).mono ?_
    rintro e w2 ⟨vk, rfl, O2, b2⟩
    rw [Hs1.out] at O2
    obtain ⟨ka, kc, hvk, -⟩ := rdI_own O2
    rw [HL.out] at hvk
    subst hvk
    have HPF : Hid (PF w w2 (.slice ao 8 co) (.slice aw nw cw) (.slice ab nb cb) (.slice sa ns sc) T1 (.slice ka L kc) (kidsOf H (k : Int))) := HP1.out _ _ _ b2 O2
    clear b2 O2 CK HP1 B1
    go_wp2
    go_loopw [28] (fun i wr => ∃ (j : Nat) (T2 : TrialD), i = .int .i64 (j : Int) ∧ j ≤ L ∧ Hid (PF w wr (.slice ao 8 co) (.slice aw nw cw) (.slice ab nb cb) (.slice sa ns sc) T2 (.slice ka L kc) (kidsOf H (k : Int))) ∧ Hid (Midst d c H T0 R C M k j T2) ∧ Hid (others c T2.colors ≤ n)) (fun i _ => L - (intOf i).toNat)
    case atStart => exact ⟨0, T1, rfl, by omega, HPF, HST, HO1⟩
    case round =>
      clear HPF HST HO1 HE1
      obtain ⟨j, T2, rfl, hjL, HP, HM, HO⟩ := hrel
      by_cases hlt : j < L
      · have hj2 : j < (kidsOf H (k : Int)).length := by have := HL.out; omega
        obtain ⟨z, hz⟩ : ∃ z, (kidsOf H (k : Int))[j] = z := ⟨_, rfl⟩
        obtain ⟨C2, hD, hsh, hks, hRz, hz7⟩ := midst_count hR HM.out hj2 z hz
        obtain ⟨m, rfl⟩ : ∃ m : Nat, z = (m : Int) := ⟨z.toNat, by omega⟩
        have hm : m < 8 := by omega
        rw [show ((m : Int)).toNat = m from by omega] at hD hRz
        obtain ⟨ka2, kc2, hka, hr⟩ := rdI_own' HP.out.kids
        rw [HL.out] at hka
        simp only [Value.slice.injEq] at hka
        obtain ⟨rfl, -, rfl⟩ := hka
        obtain ⟨kg, ko, rfl, hkg, hcz⟩ := hr j hj2
        rw [hz] at hcz
        have HZ : Hid (_ = _) := hz
        have E2 : Eight T2 := by obtain ⟨_, h, -⟩ := HM.out; exact h.pt.e
        have c2 := HP.out.arr.count E2 m hm
        have f2 := HP.out.arr.frozen m
        have e0 : T2.counts.getD m 0 = cnt T2 m := rfl
        rw [e0] at hD
        obtain ⟨y, hy⟩ : ∃ y, wrap64 (cnt T2 m + d) = y := ⟨_, rfl⟩
        rw [hy] at hD
        obtain ⟨X1, hX1⟩ : ∃ X1, X1 = wr.setCell ⟨w.heap.size, m, none⟩ (.int .i64 y) := ⟨_, rfl⟩
        have A1 : Arr X1 w.heap.size ⟨T2.counts.set m y, T2.colors⟩ := by rw [hX1]; exact HP.out.arr.setCount E2 m hm y
        have BX1 : Below w.heap.size w X1 := by rw [hX1]; exact HP.out.bel.setCell (p := ⟨w.heap.size, m, none⟩) (Nat.le_refl _) _
        have HPX : Hid (PF w X1 (.slice ao 8 co) (.slice aw nw cw) (.slice ab nb cb) (.slice sa ns sc) ⟨T2.counts.set m y, T2.colors⟩ (.slice (some ⟨kg, ko, none⟩) L kc) (kidsOf H (k : Int))) := HP.out.turn BX1 (fun i hi => by rw [hX1]; exact heap_setCell_other _ _ _ _ hi) A1
        have HO3 : Hid (others c (TrialD.mk (T2.counts.set m y) T2.colors).colors ≤ n) := HO
        generalize cnt T2 m = x at *
        have hE3 := hD.pt.e
        generalize (TrialD.mk (T2.counts.set m y) T2.colors) = T3 at *
        obtain ⟨p0, p1, p2, p3, p4, p5, p6, p7, p8, p9, p10, p11, p12, p13, p14, p15, rfl⟩ := eight_trD hE3
        have CI : Hid (∀ _ : Unit, _) := fun (_ : Unit) => HIH.out _ _ _ m X1 HO3.out hD hm hRz BX1
        rw [trD_v] at CI
        have v0 : X1.cell? ⟨w.heap.size + 1, 0, none⟩ = _ := HPX.out.heap.cell 0
        have v1 : X1.cell? ⟨w.heap.size + 1, 1, none⟩ = _ := HPX.out.heap.cell 1
        have v2 : X1.cell? ⟨w.heap.size + 1, 2, none⟩ = _ := HPX.out.heap.cell 2
        have v3 : X1.cell? ⟨w.heap.size + 1, 3, none⟩ = _ := HPX.out.heap.cell 3
        simp only [List.getElem?_toArray, List.getElem?_cons_zero, List.getElem?_cons_succ] at v0 v1 v2 v3
        have HA1 : Hid _ := A1
        rw [hX1] at v0 v1 v2 v3 HA1
        have hm8 : (m : Int) < 8 := by omega
        have hjl : (j : Int) < (L : Int) := by omega
        have HE3 : Hid _ := hE3
        have HD3 : Hid _ := hD
        have HSH : Hid _ := hsh
        have HKS : Hid _ := hks
        clear A1 BX1 hD hRz E2 HM HP e0 hE3 hsh hks HO hr hz7 hz
        go_wp2_with (refine wpList_load16 rfl HA1.out ?_)
        rw [← hX1]
        clear hX1 v0 v1 v2 v3 c2 f2 HA1 hcz
        refine (CI.out ()).mono ?_
        rintro e w3 ⟨T4, rfl, hP4, b3⟩
        have HM4 : Hid (Midst d c H T0 R C M k (j + 1) T4) := midst_step hj2 (m : Int) HZ.out HSH.out HKS.out (by rw [show ((m : Int)).toNat = m from by omega]; exact hP4)
        have PF3 := HPX.out.later b3
        have E4 : Eight T4 := by obtain ⟨_, h, -⟩ := HM4.out; exact h.pt.e
        have HO4 : Hid (others c T4.colors ≤ n) := by
          obtain ⟨C3, h4, -⟩ := hP4
          exact Nat.le_trans (deep_others HD3.out h4 (fun x hx => List.mem_append_left _ hx)) HO3.out
        obtain ⟨q0, q1, q2, q3, q4, q5, q6, q7, q8, q9, q10, q11, q12, q13, q14, q15, rfl⟩ := eight_trD E4
        have HA3 : Hid _ := PF3.arr
        have HPN : Hid (PF w (set16 w3 w.heap.size q0 q1 q2 q3 q4 q5 q6 q7 q8 q9 q10 q11 q12 q13 q14 q15) (.slice ao 8 co) (.slice aw nw cw) (.slice ab nb cb) (.slice sa ns sc) (trD q0 q1 q2 q3 q4 q5 q6 q7 q8 q9 q10 q11 q12 q13 q14 q15) (.slice (some ⟨kg, ko, none⟩) L kc) (kidsOf H (k : Int))) := PF3.turn (set16_below q0 q1 q2 q3 q4 q5 q6 q7 q8 q9 q10 q11 q12 q13 q14 q15 PF3.bel (Nat.le_refl _)) (fun i hi => set16_other _ _ q0 q1 q2 q3 q4 q5 q6 q7 q8 q9 q10 q11 q12 q13 q14 q15 i hi) (set16_arr PF3.arr HE3.out q0 q1 q2 q3 q4 q5 q6 q7 q8 q9 q10 q11 q12 q13 q14 q15)
        rw [trD_v]
        clear PF3 HPX b3 hP4 CI E4
        go_wp2_with (refine wpList_store16 rfl rfl HA3.out HE3.out ?_)
        go_roundw
        case rel => exact ⟨j + 1, trD q0 q1 q2 q3 q4 q5 q6 q7 q8 q9 q10 q11 q12 q13 q14 q15, by go_num, by omega, HPN, HM4, HO4⟩
        case measure => simp [intOf]; omega
      · have hLj : L ≤ j := by omega
        have HFIN : Hid (Painted d c H T0 R C M k T2) := midst_end HM.out (by rw [HL.out]; exact hLj)
        have E2 : Eight T2 := by obtain ⟨_, h, -⟩ := HM.out; exact h.pt.e
        obtain ⟨p0, p1, p2, p3, p4, p5, p6, p7, p8, p9, p10, p11, p12, p13, p14, p15, rfl⟩ := eight_trD E2
        have HA5 : Hid _ := HP.out.arr
        have HR5 : Hid _ := HP.out.res
        have HZ5 : Hid (Eight (trD 0 0 0 0 0 0 0 0 0 0 0 0 0 0 0 0)) := ⟨rfl, rfl⟩
        obtain ⟨f0_, f1_, f2_, f3_, f4_, f5_, f6_, f7_, f8_, f9_, f10_, f11_, f12_, f13_, f14_, f15_⟩ := (set16_arr HP.out.res HZ5.out p0 p1 p2 p3 p4 p5 p6 p7 p8 p9 p10 p11 p12 p13 p14 p15).all
        have HB : Hid (Below w.heap.size w (set16 wr (w.heap.size + 2) p0 p1 p2 p3 p4 p5 p6 p7 p8 p9 p10 p11 p12 p13 p14 p15)) := set16_below p0 p1 p2 p3 p4 p5 p6 p7 p8 p9 p10 p11 p12 p13 p14 p15 HP.out.bel (by omega)
        clear HP HM HO E2
        go_wp2_with (first | (refine wpList_load16 rfl HA5.out ?_) | (refine wpList_store16 rfl rfl HR5.out HZ5.out ?_))
        exact bodyPost_ret (v := .agg #[.int .i64 p0, .int .i64 p1, .int .i64 p2, .int .i64 p3, .int .i64 p4, .int .i64 p5, .int .i64 p6, .int .i64 p7, .int .i64 p8, .int .i64 p9, .int .i64 p10, .int .i64 p11, .int .i64 p12, .int .i64 p13, .int .i64 p14, .int .i64 p15]) (by simp [results, Try.results117, go_sem, *]) rfl ⟨_, rfl, HFIN.out, HB.out⟩
end Go.Proofs.Ytnjplfofcjonhaa

namespace Go.Proofs.Ytnjplfofcjonhaa
open Go.RowKit
set_option linter.unusedVariables false
set_option maxRecDepth 100000
def Dif2 (u v : Value) : Prop := ∀ g, u.ownBlock = some g → v.ownBlock ≠ some g
theorem Dif2.symm {u v : Value} (h : Dif2 u v) : Dif2 v u := fun g h1 h2 => h g h2 h1
structure TSh where
  a : Option Addr
  n : Nat
  c : Nat
  b : Option Addr
  m : Nat
  d : Nat
def TSh.x (s : TSh) : Value := .slice s.a s.n s.c
def TSh.y (s : TSh) : Value := .slice s.b s.m s.d
def TSh.v (s : TSh) : Value := .agg #[.slice s.a s.n s.c, .slice s.b s.m s.d]
structure TM (w : World) (B : Nat) (s : TSh) (T : TrialD) : Prop where
  x : ownI w B s.x T.counts
  y : ownI w B s.y T.colors
  dif : Dif2 s.x s.y
theorem TM.later {w w' : World} {B : Nat} {s : TSh} {T : TrialD} (h : TM w B s T) (hb : Below w.heap.size w w') : TM w' B s T := ⟨ownI_later h.x hb, ownI_later h.y hb, h.dif⟩
theorem TM.mono {w : World} {B C : Nat} {s : TSh} {T : TrialD} (h : TM w B s T) (hC : C ≤ B) : TM w C s T := ⟨ownI_mono h.x hC, ownI_mono h.y hC, h.dif⟩
theorem TM.same {w w' : World} {B : Nat} {s : TSh} {T : TrialD} (h : TM w B s T) (hs : ∀ g, B ≤ g → g < w.heap.size → w'.heap[g]? = w.heap[g]?) : TM w' B s T :=
  ⟨ownI_same h.x (fun g hg => hs g (ownI_lt h.x g hg).1 (ownI_lt h.x g hg).2), ownI_same h.y (fun g hg => hs g (ownI_lt h.y g hg).1 (ownI_lt h.y g hg).2), h.dif⟩
theorem own_len {w : World} {B : Nat} {a : Option Addr} {n c : Nat} {zs : List Int} (h : ownI w B (.slice a n c) zs) : n = zs.length := by
  obtain ⟨a2, c2, h1, -⟩ := rdI_own h
  injection h1
theorem TM.lens {w : World} {B : Nat} {s : TSh} {T : TrialD} (h : TM w B s T) : s.n = T.counts.length ∧ s.m = T.colors.length := ⟨own_len h.x, own_len h.y⟩
theorem TM.rd {w : World} {B : Nat} {s : TSh} {T : TrialD} (h : TM w B s T) : RdT w s.v T := by
  obtain ⟨a, c, h1, h2⟩ := rdI_own h.x
  obtain ⟨b, d, h3, h4⟩ := rdI_own h.y
  refine ⟨a, c, b, d, ?_, h2.out, h4.out⟩
  show Value.agg #[s.x, s.y] = _
  rw [h1, h3]
def Two (X : World) (g : Nat) (x0 x1 : Value) : Prop := X.heap[g]? = some (.cells #[x0, x1] 77 (0, 0))
theorem Two.cell {X : World} {g : Nat} {x0 x1 : Value} (h : Two X g x0 x1) (k : Nat) : X.cell? ⟨g, k, none⟩ = (#[x0, x1] : Array Value)[k]? := by
  have h' : X.heap[g]? = some (.cells #[x0, x1] 77 (0, 0)) := h
  simp [World.cell?, h']
theorem Two.frozen {X : World} {g : Nat} {x0 x1 : Value} (h : Two X g x0 x1) (k : Nat) : X.frozen? ⟨g, k, none⟩ = false := by
  have h' : X.heap[g]? = some (.cells #[x0, x1] 77 (0, 0)) := h
  simp [World.frozen?, h']
theorem Two.lt {X : World} {g : Nat} {x0 x1 : Value} (h : Two X g x0 x1) : g < X.heap.size := (Array.getElem?_eq_some_iff.1 h).1
theorem Two.same {X Y : World} {g : Nat} {x0 x1 : Value} (h : Two X g x0 x1) (hs : Y.heap[g]? = X.heap[g]?) : Two Y g x0 x1 := hs.trans h
theorem Two.later {X Y : World} {g B : Nat} {x0 x1 : Value} (h : Two X g x0 x1) (hb : Below B X Y) (hg : g < B) : Two Y g x0 x1 := h.same (hb.block g hg)
theorem Two.new (w : World) (x0 x1 : Value) : Two (w.alloc (.cells #[x0, x1] 77)) w.heap.size x0 x1 := heap_alloc_new w _
def setTwo (X : World) (g : Nat) (y0 y1 : Value) : World := (X.setCell ⟨g, 0, none⟩ y0).setCell ⟨g, 1, none⟩ y1
theorem setTwo_other (X : World) (g : Nat) (y0 y1 : Value) (i : Nat) (h : i ≠ g) : (setTwo X g y0 y1).heap[i]? = X.heap[i]? := by
  unfold setTwo
  iterate 2 rw [heap_setCell_other _ _ _ _ (by exact h)]
theorem setTwo_cell {X : World} {g : Nat} {u0 u1 : Value} (y0 y1 : Value) (h : Two X g u0 u1) : (setTwo X g y0 y1).cell? ⟨g, 0, none⟩ = some y0 ∧ (setTwo X g y0 y1).cell? ⟨g, 1, none⟩ = some y1 := by
  have same : ∀ (W : World) (q : Nat) (u v : Value), W.cell? ⟨g, q, none⟩ = some v → (W.setCell ⟨g, q, none⟩ u).cell? ⟨g, q, none⟩ = some u := fun W q u v hW => World.cell?_setCell_same W _ u hW
  unfold setTwo
  constructor
  · rw [cell_far _ _ _ _ _ (by omega)]
    exact same _ _ _ _ (h.cell 0)
  · exact same _ _ _ _ (by rw [cell_far _ _ _ _ _ (by omega)]; exact h.cell 1)
theorem opFieldT {t i : Tmp} {ty : TypeId} {pos : String} {af : Array Edge} {a : Act} {X : World} {K : Act → World → Prop} {Q : Exit → Act → World → Prop} {P : Nat} (k : Nat) (hk : k < 2) (h1 : a.eval (.tmp i) = .pointer (some ⟨P, 0, none⟩)) (hK : K (a.put (some t) (.pointer (some ⟨P, k, none⟩))) X) :
    Oper.wp Try.prog ⟨some t, .fieldAddr 77 (.tmp i) k, ty, pos, af, none⟩ a X K Q := by
  have h := ev_tmp h1
  match k, hk with
  | 0, _ => go_simp; exact hK
  | 1, _ => go_simp; exact hK
theorem opBuild2 {t i j : Tmp} {ty : TypeId} {pos : String} {af : Array Edge} {a : Act} {X : World} {K : Act → World → Prop} {Q : Exit → Act → World → Prop} {x y : Option Addr} {n m c d : Nat} (h1 : a.eval (.tmp i) = .slice x n c) (h2 : a.eval (.tmp j) = .slice y m d)
    (hK : K (a.put (some t) (.agg #[.slice x n c, .slice y m d])) X) : Oper.wp Try.prog ⟨some t, .build 77 #[(0, .tmp i), (1, .tmp j)], ty, pos, af, none⟩ a X K Q := by
  have e1 := ev_tmp h1
  have e2 := ev_tmp h2
  go_simp; exact hK
theorem opStoreT {i j : Tmp} {ty : TypeId} {pos : String} {af : Array Edge} {a : Act} {X : World} {K : Act → World → Prop} {Q : Exit → Act → World → Prop} {g : Nat} {u0 u1 : Value} {x y : Option Addr} {n m c d : Nat} (h1 : a.eval (.tmp i) = .pointer (some ⟨g, 0, none⟩)) (h2 : a.eval (.tmp j) = .agg #[.slice x n c, .slice y m d])
    (hf : Two X g u0 u1) (hK : K a (setTwo X g (.slice x n c) (.slice y m d))) : Oper.wp Try.prog ⟨none, .store 77 (.tmp i) (.tmp j), ty, pos, af, none⟩ a X K Q := by
  have e1 := ev_tmp h1
  have e2 := ev_tmp h2
  have k0 : X.cell? ⟨g, 0, none⟩ = some u0 := hf.cell 0
  have k1 : X.cell? ⟨g, 1, none⟩ = some u1 := hf.cell 1
  have f0 := hf.frozen 0
  have f1 := hf.frozen 1
  go_simp; exact hK
def RT (B P : Nat) (aa : Option Addr) (an ac : Nat) (ba : Option Addr) (bn bc : Nat) (NA NB : List Value) : Nat → World → Value → Prop
  | 0, X, v => ∃ g, v = .slice (some ⟨g, 0, none⟩) 0 0 ∧ B ≤ g ∧ X.heap[g]? = some (.cells #[] 3 (0, 0))
  | 1, X, v => v = .pointer (some ⟨P, 0, none⟩)
  | 2, X, v => v = .slice aa an ac
  | 3, X, v => X.ownsRow B 3 1 v an NA
  | 4, X, v => ∃ g, v = .slice (some ⟨g, 0, none⟩) 0 0 ∧ B ≤ g ∧ X.heap[g]? = some (.cells #[] 3 (0, 0))
  | 5, X, v => v = .pointer (some ⟨P, 1, none⟩)
  | 6, X, v => v = .slice ba bn bc
  | 7, X, v => X.ownsRow B 3 1 v bn NB
  | 8, X, v => ∃ x1 c1 x2 c2, v = .agg #[.slice x1 an c1, .slice x2 bn c2] ∧ X.ownsRow B 3 1 (.slice x1 an c1) an NA ∧ X.ownsRow B 3 1 (.slice x2 bn c2) bn NB ∧ Dif2 (.slice x1 an c1) (.slice x2 bn c2)
  | _, _, _ => True
def famT : Nat → Nat
  | 0 => 1
  | 3 => 1
  | 4 => 2
  | 7 => 2
  | _ => 0
def DT (i j : Nat) (u v : Value) : Prop := famT i ≠ 0 → famT j ≠ 0 → famT i ≠ famT j → Dif2 u v
theorem rt_mono {B P : Nat} {aa : Option Addr} {an ac : Nat} {ba : Option Addr} {bn bc : Nat} {NA NB : List Value} (i : Nat) (X Y : World) (v : Value) (h : RT B P aa an ac ba bn bc NA NB i X v) (hb : Below X.heap.size X Y) : RT B P aa an ac ba bn bc NA NB i Y v := by
  have blk : ∀ (g : Nat) (o : Obj), X.heap[g]? = some o → Y.heap[g]? = some o := fun g o hg => (hb.block g (Array.getElem?_eq_some_iff.1 hg).1).trans hg
  match i, h with
  | 0, ⟨g, h1, h2, h3⟩ => exact ⟨g, h1, h2, blk g _ h3⟩
  | 1, h => exact h
  | 2, h => exact h
  | 3, h => exact row_later h hb
  | 4, ⟨g, h1, h2, h3⟩ => exact ⟨g, h1, h2, blk g _ h3⟩
  | 5, h => exact h
  | 6, h => exact h
  | 7, h => exact row_later h hb
  | 8, ⟨x1, c1, x2, c2, h1, h2, h3, h4⟩ => exact ⟨x1, c1, x2, c2, h1, row_later h2 hb, row_later h3 hb, h4⟩
  | n + 9, _ => exact trivial
theorem rt_old {B P : Nat} {aa : Option Addr} {an ac : Nat} {ba : Option Addr} {bn bc : Nat} {NA NB : List Value} (i : Nat) (X : World) (v : Value) (h : RT B P aa an ac ba bn bc NA NB i X v) (hf : famT i ≠ 0) : ∀ g, v.ownBlock = some g → g < X.heap.size := by
  intro g hg
  match i, h, hf with
  | 0, ⟨g2, h1, h2, h3⟩, _ =>
    subst h1
    obtain rfl : g2 = g := by simpa [Value.ownBlock] using hg
    exact (Array.getElem?_eq_some_iff.1 h3).1
  | 3, h, _ => exact (World.ownsRow.lt h g hg).2
  | 4, ⟨g2, h1, h2, h3⟩, _ =>
    subst h1
    obtain rfl : g2 = g := by simpa [Value.ownBlock] using hg
    exact (Array.getElem?_eq_some_iff.1 h3).1
  | 7, h, _ => exact (World.ownsRow.lt h g hg).2
  | 1, _, hf => exact absurd rfl hf
  | 2, _, hf => exact absurd rfl hf
  | 5, _, hf => exact absurd rfl hf
  | 6, _, hf => exact absurd rfl hf
  | 8, _, hf => exact absurd rfl hf
  | n + 9, _, hf => exact absurd rfl hf
theorem dt_new {B P : Nat} {aa : Option Addr} {an ac : Nat} {ba : Option Addr} {bn bc : Nat} {NA NB : List Value} {i j : Nat} {X : World} {u v : Value} (h : RT B P aa an ac ba bn bc NA NB j X v) (hu : u.ownBlock = some X.heap.size) : DT i j u v ∧ DT j i v u :=
  have key : famT j ≠ 0 → Dif2 u v := fun hj g h1 h2 => by
    have h3 := rt_old j X v h hj g h2
    rw [hu] at h1
    injection h1 with h1
    omega
  ⟨fun _ hj _ => key hj, fun hj _ _ => (key hj).symm⟩
theorem dt_of {B P : Nat} {aa : Option Addr} {an ac : Nat} {ba : Option Addr} {bn bc : Nat} {NA NB : List Value} {i j k g : Nat} {X : World} {u u0 v : Value} (h : RT B P aa an ac ba bn bc NA NB j X v) (hu : ∃ g', u.ownBlock = some g' ∧ (g' = g ∨ g' = X.heap.size)) (h0 : u0.ownBlock = some g) (hf : famT k = famT i) (hk : j ≠ k → DT k j u0 v) : DT i j u v ∧ DT j i v u := by
  obtain ⟨g', h1, rfl | rfl⟩ := hu
  · have key : famT i ≠ 0 → famT j ≠ 0 → famT i ≠ famT j → Dif2 u v := fun hi hj hij q h2 h3 => by
      rw [h1] at h2
      injection h2 with h2
      subst h2
      refine hk ?_ (by rw [hf]; exact hi) hj (by rw [hf]; exact hij) g' h0 h3
      rintro rfl
      exact hij hf.symm
    exact ⟨key, fun hj hi hij => (key hi hj (fun e => hij e.symm)).symm⟩
  · exact dt_new h h1
theorem dt_no {i j : Nat} {u v : Value} (hi : famT i = 0) : DT i j u v ∧ DT j i v u := ⟨fun h => absurd hi h, fun _ h => absurd hi h⟩
set_option maxHeartbeats 4000000 in
theorem sCopyT_calls (v : Value) (T : TrialD) (w : World) (h : RdT w v T) (hs : SmallT T) :
    Calls Try.prog 92 #[v] w fun e w' => ∃ s : TSh, e = .returned s.v ∧ TM w' w.heap.size s T ∧ Below w.heap.size w w' := by
  obtain ⟨aa, ac, ab, ad, rfl, r1, r2⟩ := h
  have l0 := hs.counts
  have l1 := hs.colors
  obtain ⟨W, hW⟩ : ∃ W, W = (w.alloc (.cells #[.slice aa T.counts.length ac, .slice ab T.colors.length ad] 77)).alloc (.cells #[.slice none 0 0, .slice none 0 0] 77) := ⟨_, rfl⟩
  have BW : Below w.heap.size w W := by rw [hW]; exact ((Below.refl _ _).alloc (Nat.le_refl _) _).alloc (by simp) _
  have hWs : W.heap.size = w.heap.size + 2 := by rw [hW]; simp
  have FP : Two W w.heap.size (.slice aa T.counts.length ac) (.slice ab T.colors.length ad) := by
    have f1 := Two.new w (.slice aa T.counts.length ac) (.slice ab T.colors.length ad)
    have hb2 : Below (w.heap.size + 1) (w.alloc (.cells #[.slice aa T.counts.length ac, .slice ab T.colors.length ad] 77)) W := by rw [hW]; exact (Below.refl _ _).alloc (by simp) _
    exact (hb2.block w.heap.size (by omega)).trans f1
  have FR : Two W (w.heap.size + 1) (.slice none 0 0) (.slice none 0 0) := by
    rw [hW]
    have f1 := Two.new (w.alloc (.cells #[.slice aa T.counts.length ac, .slice ab T.colors.length ad] 77)) (.slice none 0 0) (.slice none 0 0)
    simpa using f1
  have HSA : Hid (SrcC W aa T.counts.length 1 (T.counts.map intV)) := (srcI r1).later BW
  have HSB : Hid (SrcC W ab T.colors.length 1 (T.colors.map intV)) := (srcI r2).later BW
  have HFP : Hid (Two W w.heap.size (.slice aa T.counts.length ac) (.slice ab T.colors.length ad)) := FP
  have HFR : Hid (Two W (w.heap.size + 1) (.slice none 0 0) (.slice none 0 0)) := FR
  have HBW : Hid (Below w.heap.size w W) := BW
  have HWs : Hid (W.heap.size = w.heap.size + 2) := hWs
  clear r1 r2 FP FR hs BW
  go_enter Try.func92, Try.ntmps92
  go_wp2
  rw [← hW]
  clear hW
  refine wp_region_pair 9 (by kernel_rfl) (by kernel_rfl) (RT W.heap.size w.heap.size aa T.counts.length ac ab T.colors.length ad (T.counts.map intV) (T.colors.map intV)) DT rt_mono ?_ ?_
  · intro i o hi ho a X hX hA dn hbn hdep
    have FX := HFP.out.later hX (by omega)
    have hXs := hX.size
    match i, hi, ho with
    | 0, _, ho =>
      obtain rfl := Option.some.inj ho
      exact opNewI ⟨_, rfl, (Below.refl _ _).alloc (Nat.le_refl _) _, ⟨X.heap.size, rfl, hXs, fresh_at X _⟩, fun j hj _ t ht => dt_new (hbn.yields j hj t ht) rfl⟩
    | 1, _, ho =>
      obtain rfl := Option.some.inj ho
      exact opFieldT 0 (by omega) (alike_at hA (t := 1) (by kernel_rfl)) ⟨_, rfl, Below.refl _ _, rfl, fun j hj _ t ht => dt_no rfl⟩
    | 2, _, ho =>
      obtain rfl := Option.some.inj ho
      have e1 : a.eval (.tmp 4) = .pointer (some ⟨w.heap.size, 0, none⟩) := hbn.yields 1 (hdep ⟨1, .data⟩ (by simp) rfl) 4 rfl
      exact opLoadI e1 (FX.cell 0) ⟨_, rfl, Below.refl _ _, rfl, fun j hj _ t ht => dt_no rfl⟩
    | 3, _, ho =>
      obtain rfl := Option.some.inj ho
      have d0 := hdep ⟨0, .data⟩ (by simp) rfl
      obtain ⟨g, e1, gB, hg⟩ := hbn.yields 0 d0 3 rfl
      have e2 : a.eval (.tmp 5) = .slice aa T.counts.length ac := hbn.yields 2 (hdep ⟨2, .data⟩ (by simp) rfl) 5 rfl
      exact wp_append_fresh elI _ _ rfl g W.heap.size hg gB aa T.counts.length ac _ e1 e2 (HSA.out.later hX) (by omega) (by omega) (fun v' w' r b ho => ⟨_, rfl, b, r, fun j hj _ t ht => dt_of (k := 0) (g := g) (u0 := a.eval (.tmp 3)) (hbn.yields j hj t ht) ho.out (by rw [e1]; rfl) rfl (fun hne => hbn.pairs 0 j d0 hj (fun e => hne e.symm) 3 t rfl ht)⟩)
    | 4, _, ho =>
      obtain rfl := Option.some.inj ho
      exact opNewI ⟨_, rfl, (Below.refl _ _).alloc (Nat.le_refl _) _, ⟨X.heap.size, rfl, hXs, fresh_at X _⟩, fun j hj _ t ht => dt_new (hbn.yields j hj t ht) rfl⟩
    | 5, _, ho =>
      obtain rfl := Option.some.inj ho
      exact opFieldT 1 (by omega) (alike_at hA (t := 1) (by kernel_rfl)) ⟨_, rfl, Below.refl _ _, rfl, fun j hj _ t ht => dt_no rfl⟩
    | 6, _, ho =>
      obtain rfl := Option.some.inj ho
      have e1 : a.eval (.tmp 8) = .pointer (some ⟨w.heap.size, 1, none⟩) := hbn.yields 5 (hdep ⟨5, .data⟩ (by simp) rfl) 8 rfl
      exact opLoadI e1 (FX.cell 1) ⟨_, rfl, Below.refl _ _, rfl, fun j hj _ t ht => dt_no rfl⟩
    | 7, _, ho =>
      obtain rfl := Option.some.inj ho
      have d0 := hdep ⟨4, .data⟩ (by simp) rfl
      obtain ⟨g, e1, gB, hg⟩ := hbn.yields 4 d0 7 rfl
      have e2 : a.eval (.tmp 9) = .slice ab T.colors.length ad := hbn.yields 6 (hdep ⟨6, .data⟩ (by simp) rfl) 9 rfl
      exact wp_append_fresh elI _ _ rfl g W.heap.size hg gB ab T.colors.length ad _ e1 e2 (HSB.out.later hX) (by omega) (by omega) (fun v' w' r b ho => ⟨_, rfl, b, r, fun j hj _ t ht => dt_of (k := 4) (g := g) (u0 := a.eval (.tmp 7)) (hbn.yields j hj t ht) ho.out (by rw [e1]; rfl) rfl (fun hne => hbn.pairs 4 j d0 hj (fun e => hne e.symm) 7 t rfl ht)⟩)
    | 8, _, ho =>
      obtain rfl := Option.some.inj ho
      have d3 := hdep ⟨3, .data⟩ (by simp) rfl
      have d7 := hdep ⟨7, .data⟩ (by simp) rfl
      have q1 : X.ownsRow W.heap.size 3 1 (a.eval (.tmp 6)) T.counts.length (T.counts.map intV) := hbn.yields 3 d3 6 rfl
      have q2 : X.ownsRow W.heap.size 3 1 (a.eval (.tmp 10)) T.colors.length (T.colors.map intV) := hbn.yields 7 d7 10 rfl
      have q3 : Dif2 (a.eval (.tmp 6)) (a.eval (.tmp 10)) := hbn.pairs 3 7 d3 d7 (by decide) 6 10 rfl rfl (by decide) (by decide) (by decide)
      obtain ⟨x1, c1, e1, _⟩ := row_form q1
      obtain ⟨x2, c2, e2, _⟩ := row_form q2
      rw [e1] at q1 q3
      rw [e2] at q2 q3
      exact opBuild2 e1 e2 ⟨_, rfl, Below.refl _ _, ⟨x1, c1, x2, c2, rfl, q1, q2, q3⟩, fun j hj _ t ht => dt_no rfl⟩
  · intro o ho a X hX hA dn hbn hdn
    obtain rfl := Option.some.inj ho
    obtain ⟨x1, c1, x2, c2, e2, q1, q2, q3⟩ := hbn.yields 8 (hdn 8 (by omega)) 11 rfl
    have e1 : a.eval (.tmp 2) = .pointer (some ⟨w.heap.size + 1, 0, none⟩) := alike_at hA (t := 2) (by kernel_rfl)
    have hf : Two X (w.heap.size + 1) (.slice none 0 0) (.slice none 0 0) := HFR.out.later hX (by omega)
    refine opStoreT e1 e2 hf ?_
    obtain ⟨us, hus, rfl⟩ := alike_tmps hA [3, 4, 5, 6, 7, 8, 9, 10, 11] (by kernel_rfl)
    obtain ⟨k0, k1⟩ := setTwo_cell (.slice x1 T.counts.length c1) (.slice x2 T.colors.length c2) hf
    have HT : Hid (TM (setTwo X (w.heap.size + 1) (.slice x1 T.counts.length c1) (.slice x2 T.colors.length c2)) w.heap.size ⟨x1, T.counts.length, c1, x2, T.colors.length, c2⟩ T) := by
      have ne : ∀ {n : Nat} {v : Value} {xs : List Value}, X.ownsRow W.heap.size 3 1 v n xs → (setTwo X (w.heap.size + 1) (.slice x1 T.counts.length c1) (.slice x2 T.colors.length c2)).ownsRow w.heap.size 3 1 v n xs := fun hr => row_mono (row_same hr (fun i hi => setTwo_other _ _ _ _ i (by have := (World.ownsRow.lt hr i hi).1; omega))) (by omega)
      exact ⟨ne q1, ne q2, q3⟩
    have HB : Hid (Below w.heap.size w (setTwo X (w.heap.size + 1) (.slice x1 T.counts.length c1) (.slice x2 T.colors.length c2))) := by
      unfold setTwo
      exact ((HBW.out.trans (hX.mono HBW.out.size)).setCell (by simp) _).setCell (by simp) _
    clear hbn hdn hA hus e1 e2 hf q1 q2 q3 ho
    generalize setTwo X (w.heap.size + 1) (.slice x1 T.counts.length c1) (.slice x2 T.colors.length c2) = Y at *
    simp only [List.mapIdx_cons, List.mapIdx_nil, Nat.reduceAdd, List.contains_cons, List.contains_nil, Nat.reduceBEq, Bool.or_false, Bool.or_true, if_true, if_false, Bool.false_eq_true]
    go_wp2
    refine bodyPost_ret (v := .agg #[.slice x1 T.counts.length c1, .slice x2 T.colors.length c2]) (by simp [results, Try.results92, go_sem, *]) rfl ⟨⟨x1, T.counts.length, c1, x2, T.colors.length, c2⟩, rfl, HT.out, HB.out⟩
end Go.Proofs.Ytnjplfofcjonhaa

namespace Go.Proofs.Ytnjplfofcjonhaa
open Go.RowKit
set_option linter.unusedVariables false
set_option maxRecDepth 100000
structure OkT (H : HeapD) (T : TrialD) (slot : Int) : Prop where
  objs : H.objs.length = 8
  counts : T.counts.length = 8
  colors : T.colors.length = 8
  lo : 0 ≤ slot
  hi : slot ≤ 7
  live : ∃ o, H.objs[slot.toNat]? = some o ∧ o.live = true
theorem sOkT_calls (v u : Value) (H : HeapD) (T : TrialD) (slot : Int) (w : World) (h : RdH w v H) (ht : RdT w u T) (hs : SmallH H) (hst : SmallT T) (b : Bool) (hb : b = true ↔ OkT H T slot) :
    Calls Try.prog 93 #[v, u, .int .i64 slot] w fun e w' => e = .returned (.bool b) ∧ Below w.heap.size w w' := by
  obtain ⟨ao, co, aw, cw, ab, cb, sa, sc, rfl, ro, -, -, -⟩ := h
  obtain ⟨xa, xc, ya, yc, rfl, -, -⟩ := ht
  have l0 := hs.objs
  have l1 := hst.counts
  have l2 := hst.colors
  obtain ⟨W, hW⟩ : ∃ W, W = (w.alloc (.cells #[.slice ao H.objs.length co, .slice aw H.weaks.length cw, .slice ab H.buffer.length cb, .slice sa H.sites.length sc] 29)).alloc (.cells #[.slice xa T.counts.length xc, .slice ya T.colors.length yc] 77) := ⟨_, rfl⟩
  have BW : Below w.heap.size w W := by rw [hW]; exact ((Below.refl _ _).alloc (Nat.le_refl _) _).alloc (by simp) _
  have HB : Hid (b = true ↔ OkT H T slot) := hb
  clear hs hst hb
  obtain ⟨n, hn⟩ : ∃ n, H.objs.length = n := ⟨_, rfl⟩
  obtain ⟨m, hm⟩ : ∃ m, T.counts.length = m := ⟨_, rfl⟩
  obtain ⟨k, hk⟩ : ∃ k, T.colors.length = k := ⟨_, rfl⟩
  have Hn : Hid (H.objs.length = n) := hn
  have Hm : Hid (T.counts.length = m) := hm
  have Hk : Hid (T.colors.length = k) := hk
  rw [hn] at l0 hW ⊢
  rw [hm] at l1 hW ⊢
  rw [hk] at l2 hW ⊢
  have HR : Hid (RdO W ao H.objs) := rdO_later ro BW
  have no : ¬ OkT H T slot → b = false := fun hno => by
    cases b with
    | false => rfl
    | true => exact absurd (HB.out.1 rfl) hno
  clear hn hm hk ro
  by_cases g1 : n = 8
  · have c1 : ((n : Int) == 8) = true := by simp [g1]
    by_cases g2 : m = 8
    · have c2 : ((m : Int) == 8) = true := by simp [g2]
      by_cases g3 : k = 8
      · have c3 : ((k : Int) == 8) = true := by simp [g3]
        by_cases g4 : slot < 0 ∨ 7 < slot
        · have C1 : Hid (∀ X, _) := fun X => l1In_no slot 0 7 X g4
          obtain rfl := no (fun h => by have := h.lo; have := h.hi; omega)
          subst g1 g2 g3
          clear g4 no HB HR
          go_enter Try.func93, Try.ntmps93
          go_wp2_with fail
          rw [← hW]
          clear hW
          refine (C1.out _).mono ?_
          rintro e W1 ⟨rfl, hw1⟩
          subst hw1
          go_wp2
          go_ret
          exact ⟨rfl, BW⟩
        · have C1 : Hid (∀ X, _) := fun X => l1In_yes slot 0 7 X (by omega) (by omega)
          obtain ⟨s, rfl⟩ : ∃ s : Nat, slot = (s : Int) := ⟨slot.toNat, by omega⟩
          have hs8 : s < 8 := by omega
          have hsl : s < H.objs.length := by have := Hn.out; omega
          obtain ⟨g, off, f, fc, rfl, -, hc, -⟩ := HR.out s hsl
          obtain ⟨o, ho⟩ : ∃ o, H.objs[s] = o := ⟨_, rfl⟩
          rw [ho] at hc
          have c0 := hc.c0
          have HV : Hid (b = o.live) := by
            show b = o.live
            have hg : H.objs[((s : Nat) : Int).toNat]? = some o := by rw [show ((s : Nat) : Int).toNat = s from by omega, List.getElem?_eq_getElem hsl, ho]
            cases hl : o.live with
            | true => exact HB.out.2 ⟨by have := Hn.out; omega, by have := Hm.out; omega, by have := Hk.out; omega, by omega, by omega, o, hg, hl⟩
            | false => exact no (fun h => by
                obtain ⟨o2, h1, h2⟩ := h.live
                rw [hg] at h1
                injection h1 with h1
                subst h1
                rw [hl] at h2
                cases h2)
          subst g1 g2 g3
          clear no HB HR hc ho hsl
          generalize o.live = lv at *
          have p0 : W.cell? ⟨w.heap.size, 0, none⟩ = some (.slice (some ⟨g, off, none⟩) 8 co) := by
            rw [hW]
            rw [((Below.refl _ _).alloc (Nat.le_refl _) _ : Below _ (w.alloc (.cells #[.slice (some ⟨g, off, none⟩) 8 co, .slice aw H.weaks.length cw, .slice ab H.buffer.length cb, .slice sa H.sites.length sc] 29)) _).cell (p := ⟨w.heap.size, 0, none⟩) (by simp), World.cell?_alloc_mark]
            rfl
          go_enter Try.func93, Try.ntmps93
          go_wp2_with fail
          rw [← hW]
          clear hW
          refine (C1.out _).mono ?_
          rintro e W1 ⟨rfl, hw1⟩
          subst hw1
          go_wp2
          go_ret
          exact ⟨by rw [HV.out]; rfl, BW⟩
      · obtain rfl := no (fun h => g3 (by have := h.colors; have := Hk.out; omega))
        have c3 : ((k : Int) == 8) = false := by simp; omega
        subst g1 g2
        clear no HB HR
        go_enter Try.func93, Try.ntmps93
        go_wp2
        rw [← hW]
        go_ret
        exact ⟨rfl, BW⟩
    · obtain rfl := no (fun h => g2 (by have := h.counts; have := Hm.out; omega))
      have c2 : ((m : Int) == 8) = false := by simp; omega
      subst g1
      clear no HB HR
      go_enter Try.func93, Try.ntmps93
      go_wp2
      rw [← hW]
      go_ret
      exact ⟨rfl, BW⟩
  · obtain rfl := no (fun h => g1 (by have := h.objs; have := Hn.out; omega))
    have c1 : ((n : Int) == 8) = false := by simp; omega
    clear no HB HR
    go_enter Try.func93, Try.ntmps93
    go_wp2
    rw [← hW]
    go_ret
    exact ⟨rfl, BW⟩
end Go.Proofs.Ytnjplfofcjonhaa

namespace Go.Proofs.Ytnjplfofcjonhaa
open Go.RowKit
set_option linter.unusedVariables false
set_option maxRecDepth 100000
theorem opFieldR0 {t i : Tmp} {ty : TypeId} {pos : String} {af : Array Edge} {a : Act} {X : World} {K : Act → World → Prop} {Q : Exit → Act → World → Prop} {P : Nat} (h1 : a.eval (.tmp i) = .pointer (some ⟨P, 0, none⟩)) (hK : K (a.put (some t) (.pointer (some ⟨P, 0, none⟩))) X) :
    Oper.wp Try.prog ⟨some t, .fieldAddr 127 (.tmp i) 0, ty, pos, af, none⟩ a X K Q := by
  have h := ev_tmp h1
  go_simp; exact hK
theorem opFieldR1 {t i : Tmp} {ty : TypeId} {pos : String} {af : Array Edge} {a : Act} {X : World} {K : Act → World → Prop} {Q : Exit → Act → World → Prop} {P : Nat} (h1 : a.eval (.tmp i) = .pointer (some ⟨P, 0, none⟩)) (hK : K (a.put (some t) (.pointer (some ⟨P, 8, none⟩))) X) :
    Oper.wp Try.prog ⟨some t, .fieldAddr 127 (.tmp i) 1, ty, pos, af, none⟩ a X K Q := by
  have h := ev_tmp h1
  go_simp; exact hK
theorem opToArr {t i : Tmp} {ty : TypeId} {pos : String} {af : Array Edge} {a : Act} {X : World} {K : Act → World → Prop} {Q : Exit → Act → World → Prop} {g off c : Nat} (h1 : a.eval (.tmp i) = .slice (some ⟨g, off, none⟩) 8 c) (hK : K (a.put (some t) (.pointer (some ⟨g, off, none⟩))) X) :
    Oper.wp Try.prog ⟨some t, .sliceToArrayPointer 125 (.tmp i), ty, pos, af, none⟩ a X K Q := by
  have h := ev_tmp h1
  go_simp; exact hK
theorem opLoadArr {t i : Tmp} {ty : TypeId} {pos : String} {af : Array Edge} {a : Act} {X : World} {K : Act → World → Prop} {Q : Exit → Act → World → Prop} {g off : Nat} {a0 a1 a2 a3 a4 a5 a6 a7 : Int} (h1 : a.eval (.tmp i) = .pointer (some ⟨g, off, none⟩))
    (hR : RdI X (some ⟨g, off, none⟩) [a0, a1, a2, a3, a4, a5, a6, a7]) (hK : K (a.put (some t) (.agg #[.int .i64 a0, .int .i64 a1, .int .i64 a2, .int .i64 a3, .int .i64 a4, .int .i64 a5, .int .i64 a6, .int .i64 a7])) X) :
    Oper.wp Try.prog ⟨some t, .load 125 (.tmp i), ty, pos, af, none⟩ a X K Q := by
  have h := ev_tmp h1
  have q : ∀ j (h : j < 8), X.cell? ⟨g, off + j, none⟩ = some (.int .i64 ([a0, a1, a2, a3, a4, a5, a6, a7][j])) := fun j hj => by
    obtain ⟨g2, off2, e, -, hc⟩ := hR j hj
    injection e with e
    injection e with e1 e2
    subst e1 e2
    exact hc
  have q0 := q 0 (by omega)
  have q1 := q 1 (by omega)
  have q2 := q 2 (by omega)
  have q3 := q 3 (by omega)
  have q4 := q 4 (by omega)
  have q5 := q 5 (by omega)
  have q6 := q 6 (by omega)
  have q7 := q 7 (by omega)
  simp only [List.getElem_cons_zero, List.getElem_cons_succ, Nat.add_zero] at q0 q1 q2 q3 q4 q5 q6 q7
  clear q hR
  go_simp; exact hK
theorem opBuildTr {t i j : Tmp} {ty : TypeId} {pos : String} {af : Array Edge} {a : Act} {X : World} {K : Act → World → Prop} {Q : Exit → Act → World → Prop} {a0 a1 a2 a3 a4 a5 a6 a7 b0 b1 b2 b3 b4 b5 b6 b7 : Int}
    (h1 : a.eval (.tmp i) = .agg #[.int .i64 a0, .int .i64 a1, .int .i64 a2, .int .i64 a3, .int .i64 a4, .int .i64 a5, .int .i64 a6, .int .i64 a7]) (h2 : a.eval (.tmp j) = .agg #[.int .i64 b0, .int .i64 b1, .int .i64 b2, .int .i64 b3, .int .i64 b4, .int .i64 b5, .int .i64 b6, .int .i64 b7])
    (hK : K (a.put (some t) (arrV (trD a0 a1 a2 a3 a4 a5 a6 a7 b0 b1 b2 b3 b4 b5 b6 b7))) X) : Oper.wp Try.prog ⟨some t, .build 127 #[(0, .tmp i), (1, .tmp j)], ty, pos, af, none⟩ a X K Q := by
  have e1 := ev_tmp h1
  have e2 := ev_tmp h2
  rw [trD_v] at hK
  go_simp; exact hK
theorem opLoadHp {t i : Tmp} {ty : TypeId} {pos : String} {af : Array Edge} {a : Act} {X : World} {K : Act → World → Prop} {Q : Exit → Act → World → Prop} {g : Nat} {x0 x1 x2 x3 : Option Addr} {n0 n1 n2 n3 c0 c1 c2 c3 : Nat} (h1 : a.eval (.tmp i) = .pointer (some ⟨g, 0, none⟩))
    (hF : Four X g (.slice x0 n0 c0) (.slice x1 n1 c1) (.slice x2 n2 c2) (.slice x3 n3 c3)) (hK : K (a.put (some t) (.agg #[.slice x0 n0 c0, .slice x1 n1 c1, .slice x2 n2 c2, .slice x3 n3 c3])) X) :
    Oper.wp Try.prog ⟨some t, .load 29 (.tmp i), ty, pos, af, none⟩ a X K Q := by
  have h := ev_tmp h1
  have q0 : X.cell? ⟨g, 0, none⟩ = _ := hF.cell 0
  have q1 : X.cell? ⟨g, 1, none⟩ = _ := hF.cell 1
  have q2 : X.cell? ⟨g, 2, none⟩ = _ := hF.cell 2
  have q3 : X.cell? ⟨g, 3, none⟩ = _ := hF.cell 3
  simp only [List.getElem?_toArray, List.getElem?_cons_zero, List.getElem?_cons_succ] at q0 q1 q2 q3
  go_simp; exact hK
theorem opMoveV {t i : Tmp} {ty : TypeId} {pos : String} {af : Array Edge} {a : Act} {X : World} {K : Act → World → Prop} {Q : Exit → Act → World → Prop} {v : Value} (h1 : a.eval (.tmp i) = v) (hK : K (a.put (some t) v) X) :
    Oper.wp Try.prog ⟨some t, .move (.tmp i), ty, pos, af, none⟩ a X K Q := by
  have h := ev_tmp h1
  go_simp; exact hK
theorem opAllocTr {t : Tmp} {ty : TypeId} {pos : String} {af : Array Edge} {a : Act} {X : World} {K : Act → World → Prop} {Q : Exit → Act → World → Prop} (hK : K (a.put (some t) (.pointer (some ⟨X.heap.size, 0, none⟩))) (X.alloc (.cells #[.int .i64 0, .int .i64 0, .int .i64 0, .int .i64 0, .int .i64 0, .int .i64 0, .int .i64 0, .int .i64 0, .int .i64 0, .int .i64 0, .int .i64 0, .int .i64 0, .int .i64 0, .int .i64 0, .int .i64 0, .int .i64 0] 127))) :
    Oper.wp Try.prog ⟨some t, .alloc 127, ty, pos, af, none⟩ a X K Q := by
  go_simp; exact hK
theorem opSliceArr {t i : Tmp} {ty : TypeId} {pos : String} {af : Array Edge} {a : Act} {X : World} {K : Act → World → Prop} {Q : Exit → Act → World → Prop} {g off : Nat} (h1 : a.eval (.tmp i) = .pointer (some ⟨g, off, none⟩)) (hK : K (a.put (some t) (.slice (some ⟨g, off, none⟩) 8 8)) X) :
    Oper.wp Try.prog ⟨some t, .slice 125 (.tmp i) none none none, ty, pos, af, none⟩ a X K Q := by
  have h := ev_tmp h1
  go_simp; exact hK
def TryOp (F : Nat) : Prop := ∀ (t f i j k : Tmp) (ty : TypeId) (pos : String) (af : Array Edge) (ats : Array TypeId) (a : Act) (X : World) (K : Act → World → Prop) (Q : Exit → Act → World → Prop) (u v z : Value) (post : Ending → World → Prop), a.eval (.tmp f) = .func (.func F) #[] #[] → a.eval (.tmp i) = u → a.eval (.tmp j) = v → a.eval (.tmp k) = z →
    Calls Try.prog F #[u, v, z] X post → (∀ e w', post e w' → ∃ x, e = .returned x ∧ K (a.put (some t) x) w') →
    Oper.wp Try.prog ⟨some t, .call { callee := .value (.tmp f), args := #[.tmp i, .tmp j, .tmp k], argTypes := ats }, ty, pos, af, none⟩ a X K Q
theorem tryGray : TryOp 110 := by
  intro t f i j k ty pos af ats a X K Q u v z post h0 h1 h2 h3 hC hK
  have e0 := ev_tmp h0
  have e1 := ev_tmp h1
  have e2 := ev_tmp h2
  have e3 := ev_tmp h3
  go_simp
  refine hC.mono (fun e w' hp => ?_)
  obtain ⟨x, rfl, hx⟩ := hK e w' hp
  exact hx
theorem tryScan : TryOp 111 := by
  intro t f i j k ty pos af ats a X K Q u v z post h0 h1 h2 h3 hC hK
  have e0 := ev_tmp h0
  have e1 := ev_tmp h1
  have e2 := ev_tmp h2
  have e3 := ev_tmp h3
  go_simp
  refine hC.mono (fun e w' hp => ?_)
  obtain ⟨x, rfl, hx⟩ := hK e w' hp
  exact hx
theorem opCloneI {t i : Tmp} {ty : TypeId} {pos : String} {af : Array Edge} {ats : Array TypeId} {a : Act} {X : World} {K : Act → World → Prop} {Q : Exit → Act → World → Prop} {v : Value} {post : Ending → World → Prop} (h1 : a.eval (.tmp i) = v) (hC : Calls Try.prog 36 #[v] X post) (hK : ∀ e w', post e w' → ∃ x, e = .returned x ∧ K (a.put (some t) x) w') :
    Oper.wp Try.prog ⟨some t, .call { callee := .value (.func 36), args := #[.tmp i], argTypes := ats }, ty, pos, af, none⟩ a X K Q := by
  have h := ev_tmp h1
  go_simp
  refine hC.mono (fun e w' hp => ?_)
  obtain ⟨x, rfl, hx⟩ := hK e w' hp
  exact hx
theorem Arr.rdx {X : World} {g : Nat} {T : TrialD} (h : Arr X g T) (h8 : Eight T) : RdI X (some ⟨g, 0, none⟩) T.counts := fun j hj => by
  refine ⟨g, 0, rfl, h.lt, ?_⟩
  have hj8 : j < 8 := by have := h8.1; omega
  rw [Nat.zero_add, h.count h8 j hj8]
  unfold cnt
  rw [List.getD_eq_getElem?_getD, List.getElem?_eq_getElem hj]; rfl
theorem Arr.rdy {X : World} {g : Nat} {T : TrialD} (h : Arr X g T) (h8 : Eight T) : RdI X (some ⟨g, 8, none⟩) T.colors := fun j hj => by
  refine ⟨g, 8, rfl, h.lt, ?_⟩
  have hj8 : j < 8 := by have := h8.2; omega
  rw [h.color h8 j hj8]
  unfold col
  rw [List.getD_eq_getElem?_getD, List.getElem?_eq_getElem hj]; rfl
end Go.Proofs.Ytnjplfofcjonhaa
