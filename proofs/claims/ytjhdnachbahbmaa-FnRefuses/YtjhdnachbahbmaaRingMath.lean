/- Trials step by step: what is taken away or given back along the fields, and what is scanned. -/
import Derived.Test.YtjhdnachbahbmaaRingWalks
namespace Go.Proofs.Ytjhdnachbahbmaa
open Go.RowKit
set_option linter.unusedVariables false
set_option maxRecDepth 100000

/-- How many are of another color. -/
def others (c : Int) (zs : List Int) : Nat := zs.countP (fun z => !decide (z = c))
theorem others_le (c : Int) (zs : List Int) : others c zs ≤ zs.length := List.countP_le_length
theorem others_set (c : Int) (zs : List Int) (i : Nat) (h : i < zs.length) (hne : zs[i] ≠ c) : others c (zs.set i c) + 1 = others c zs := by
  unfold others
  have h1 := List.countP_set (p := fun z : Int => !decide (z = c)) (l := zs) (i := i) (a := c) h
  have h2 : 0 < zs.countP (fun z => !decide (z = c)) := List.countP_pos_iff.2 ⟨zs[i], List.getElem_mem _, by simpa using hne⟩
  rw [h1]
  simp only [hne, decide_false, decide_true, Bool.not_false, Bool.not_true, if_true, Bool.false_eq_true, if_false]
  omega
/-- How many are of a color. -/
def colored (c : Int) (zs : List Int) : Nat := zs.countP (fun z => decide (z = c))
theorem colored_le (c : Int) (zs : List Int) : colored c zs ≤ zs.length := List.countP_le_length
theorem colored_set (c d : Int) (zs : List Int) (i : Nat) (h : i < zs.length) (hcd : d ≠ c) : colored c (zs.set i d) ≤ colored c zs := by
  unfold colored
  rw [List.countP_set (p := fun z : Int => decide (z = c)) (l := zs) (i := i) (a := d) h]
  simp only [hcd, decide_false, Bool.false_eq_true, if_false]
  omega
theorem colored_lt (c d : Int) (zs : List Int) (i : Nat) (h : i < zs.length) (hcd : d ≠ c) (hi : zs[i] = c) : colored c (zs.set i d) + 1 = colored c zs := by
  unfold colored
  have h1 := List.countP_set (p := fun z : Int => decide (z = c)) (l := zs) (i := i) (a := d) h
  have h2 : 0 < zs.countP (fun z => decide (z = c)) := List.countP_pos_iff.2 ⟨zs[i], List.getElem_mem _, by simpa using hi⟩
  rw [h1]
  simp only [hi, hcd, decide_false, decide_true, Bool.false_eq_true, if_true, if_false]
  omega

/-- Eight counts, eight colors. -/
def Eight (T : TrialD) : Prop := T.counts.length = 8 ∧ T.colors.length = 8
def Slots (zs : List Int) : Prop := ∀ z ∈ zs, 0 ≤ z ∧ z ≤ 7
/-- The slots to which a slot's fields lead. -/
def kidsOf (H : HeapD) (k : Int) : List Int := match H.objs[k.toNat]? with
  | some o => kidL H o.field
  | none => []
theorem slotZ_range (H : HeapD) (z : Int) : -1 ≤ slotZ H z ∧ slotZ H z ≤ 7 := by
  unfold slotZ
  split
  · omega
  · split
    · omega
    · split <;> omega
theorem kidL_slots (H : HeapD) (zs : List Int) : Slots (kidL H zs) := by
  induction zs with
  | nil => intro z hz; simp [kidL] at hz
  | cons x r ih =>
    intro z hz
    unfold kidL at hz
    split at hz
    · rename_i h0
      rcases List.mem_cons.1 hz with rfl | hz
      · exact ⟨h0, (slotZ_range H x).2⟩
      · exact ih z hz
    · exact ih z hz
theorem kidsOf_slots (H : HeapD) (k : Int) : Slots (kidsOf H k) := by
  unfold kidsOf
  split
  · exact kidL_slots H _
  · intro z hz; cases hz
theorem kidsOf_at (H : HeapD) (s : Nat) (h : s < H.objs.length) : kidsOf H (s : Int) = kidL H H.objs[s].field := by
  unfold kidsOf
  rw [show ((s : Int)).toNat = s from by omega, List.getElem?_eq_getElem h]
theorem kidsOf_le (H : HeapD) (k : Int) (hs : SmallH H) : (kidsOf H k).length ≤ 1048576 := by
  unfold kidsOf
  split
  · rename_i o ho
    have h1 := hs.fields o (List.mem_of_getElem? ho)
    exact Nat.le_trans (kidL_le H _) h1
  · simp

/-- One slot that is led to: its count is turned by d, and where its color is another, it is c now and waits. -/
def kidStep (d c : Int) (p : TrialD × List Int) (z : Int) : TrialD × List Int :=
  if p.1.colors.getD z.toNat 0 = c then (⟨p.1.counts.set z.toNat (wrap64 (p.1.counts.getD z.toNat 0 + d)), p.1.colors⟩, p.2)
  else (⟨p.1.counts.set z.toNat (wrap64 (p.1.counts.getD z.toNat 0 + d)), p.1.colors.set z.toNat c⟩, p.2 ++ [z])
def mu (c : Int) (p : TrialD × List Int) : Nat := 2 * others c p.1.colors + p.2.length
theorem kidStep_ok (d c : Int) (p : TrialD × List Int) (z : Int) (h8 : Eight p.1) (hs : Slots p.2) (hz : 0 ≤ z ∧ z ≤ 7) :
    Eight (kidStep d c p z).1 ∧ Slots (kidStep d c p z).2 ∧ mu c (kidStep d c p z) ≤ mu c p := by
  obtain ⟨h1, h2⟩ := h8
  unfold kidStep
  split
  · exact ⟨⟨by simpa using h1, h2⟩, hs, Nat.le_refl _⟩
  · rename_i hne
    have hi : z.toNat < p.1.colors.length := by omega
    rw [List.getD_eq_getElem?_getD, List.getElem?_eq_getElem hi, Option.getD_some] at hne
    refine ⟨⟨by simpa using h1, by simpa using h2⟩, fun x hx => ?_, ?_⟩
    · rcases List.mem_append.1 hx with hx | hx
      · exact hs x hx
      · rw [List.mem_singleton.1 hx]; exact hz
    · have := others_set c p.1.colors z.toNat hi hne
      simp only [mu, List.length_append, List.length_singleton]
      omega
theorem kids_ok (d c : Int) (ks : List Int) : ∀ (p : TrialD × List Int), Eight p.1 → Slots p.2 → Slots ks → Eight (ks.foldl (kidStep d c) p).1 ∧ Slots (ks.foldl (kidStep d c) p).2 ∧ mu c (ks.foldl (kidStep d c) p) ≤ mu c p := by
  induction ks with
  | nil => intro p h8 hs _; exact ⟨h8, hs, Nat.le_refl _⟩
  | cons z r ih =>
    intro p h8 hs hk
    obtain ⟨a1, a2, a3⟩ := kidStep_ok d c p z h8 hs (hk z (by simp))
    obtain ⟨b1, b2, b3⟩ := ih _ a1 a2 (fun x hx => hk x (by simp [hx]))
    exact ⟨b1, b2, Nat.le_trans b3 a3⟩

/-- One round: the last that waits is taken off, and what it leads to is turned. -/
def roundS (d c : Int) (kids : Int → List Int) (T : TrialD) (rest : List Int) (k : Int) : TrialD × List Int := (kids k).foldl (kidStep d c) (T, rest)
/-- All rounds. -/
def spread (d c : Int) (kids : Int → List Int) : Nat → TrialD → List Int → TrialD
  | 0, T, _ => T
  | f + 1, T, todo => match todo.getLast? with
    | none => T
    | some k => spread d c kids f (roundS d c kids T todo.dropLast k).1 (roundS d c kids T todo.dropLast k).2
theorem spread_nil (d c : Int) (kids : Int → List Int) (f : Nat) (T : TrialD) : spread d c kids f T [] = T := by
  cases f <;> rfl
theorem spread_snoc (d c : Int) (kids : Int → List Int) (f : Nat) (T : TrialD) (rest : List Int) (k : Int) : spread d c kids (f + 1) T (rest ++ [k]) = spread d c kids f (roundS d c kids T rest k).1 (roundS d c kids T rest k).2 := by
  simp [spread]
theorem round_ok (d c : Int) (kids : Int → List Int) (hk : ∀ k, Slots (kids k)) (T : TrialD) (rest : List Int) (k : Int) (h8 : Eight T) (hs : Slots (rest ++ [k])) :
    Eight (roundS d c kids T rest k).1 ∧ Slots (roundS d c kids T rest k).2 ∧ mu c (roundS d c kids T rest k) < mu c (T, rest ++ [k]) := by
  obtain ⟨a1, a2, a3⟩ := kids_ok d c (kids k) (T, rest) h8 (fun x hx => hs x (by simp [hx])) (hk k)
  refine ⟨a1, a2, Nat.lt_of_le_of_lt a3 ?_⟩
  simp [mu]
theorem spread_eight (d c : Int) (kids : Int → List Int) (hk : ∀ k, Slots (kids k)) : ∀ (f : Nat) (T : TrialD) (todo : List Int), Eight T → Slots todo → Eight (spread d c kids f T todo) := by
  intro f
  induction f with
  | zero => intro T todo h8 _; exact h8
  | succ f ih =>
    intro T todo h8 hs
    rcases List.eq_nil_or_concat todo with rfl | ⟨rest, k, rfl⟩
    · rw [spread_nil]; exact h8
    · rw [List.concat_eq_append] at hs ⊢
      rw [spread_snoc]
      obtain ⟨a1, a2, _⟩ := round_ok d c kids hk T rest k h8 hs
      exact ih _ _ a1 a2
/-- As many steps as are wanted: more make no difference. -/
theorem spread_more (d c : Int) (kids : Int → List Int) (hk : ∀ k, Slots (kids k)) : ∀ (m : Nat) (f g : Nat) (T : TrialD) (todo : List Int), Eight T → Slots todo → mu c (T, todo) ≤ m → m ≤ f → m ≤ g → spread d c kids f T todo = spread d c kids g T todo := by
  intro m
  induction m with
  | zero =>
    intro f g T todo h8 hs hm hf hg
    have : todo = [] := List.eq_nil_of_length_eq_zero (by simp only [mu] at hm; omega)
    subst this
    rw [spread_nil, spread_nil]
  | succ m ih =>
    intro f g T todo h8 hs hm hf hg
    rcases List.eq_nil_or_concat todo with rfl | ⟨rest, k, rfl⟩
    · rw [spread_nil, spread_nil]
    · rw [List.concat_eq_append] at hs hm ⊢
      obtain ⟨f, rfl⟩ : ∃ f', f = f' + 1 := ⟨f - 1, by omega⟩
      obtain ⟨g, rfl⟩ : ∃ g', g = g' + 1 := ⟨g - 1, by omega⟩
      rw [spread_snoc, spread_snoc]
      obtain ⟨a1, a2, a3⟩ := round_ok d c kids hk T rest k h8 hs
      exact ih f g _ _ a1 a2 (by show mu c (roundS d c kids T rest k) ≤ m; omega) (by omega) (by omega)
/-- The whole: seventeen rounds are enough for what begins with one slot. -/
def spreadAll (d c : Int) (H : HeapD) (T : TrialD) (todo : List Int) : TrialD := spread d c (kidsOf H) (mu c (T, todo)) T todo
theorem spreadAll_nil (d c : Int) (H : HeapD) (T : TrialD) : spreadAll d c H T [] = T := spread_nil _ _ _ _ _
theorem spreadAll_snoc (d c : Int) (H : HeapD) (T : TrialD) (rest : List Int) (k : Int) (h8 : Eight T) (hs : Slots (rest ++ [k])) : spreadAll d c H T (rest ++ [k]) = spreadAll d c H (roundS d c (kidsOf H) T rest k).1 (roundS d c (kidsOf H) T rest k).2 := by
  obtain ⟨a1, a2, a3⟩ := round_ok d c (kidsOf H) (kidsOf_slots H) T rest k h8 hs
  unfold spreadAll
  obtain ⟨m, hm⟩ : ∃ m, mu c (T, rest ++ [k]) = m + 1 := ⟨mu c (T, rest ++ [k]) - 1, by omega⟩
  rw [hm, spread_snoc]
  exact spread_more d c (kidsOf H) (kidsOf_slots H) _ _ _ _ _ a1 a2 (Nat.le_refl _) (by show mu c (roundS d c (kidsOf H) T rest k) ≤ m; omega) (Nat.le_refl _)
theorem spreadAll_eight (d c : Int) (H : HeapD) (T : TrialD) (todo : List Int) (h8 : Eight T) (hs : Slots todo) : Eight (spreadAll d c H T todo) := spread_eight d c _ (kidsOf_slots H) _ T todo h8 hs

/-- What spec.MarkGray answers. -/
def grayT (H : HeapD) (T : TrialD) (slot : Int) : TrialD := spreadAll (-1) 1 H ⟨T.counts, T.colors.set slot.toNat 1⟩ [slot]
/-- What spec.l7Black answers. -/
def blackT (H : HeapD) (T : TrialD) (slot : Int) : TrialD := spreadAll 1 0 H ⟨T.counts, T.colors.set slot.toNat 0⟩ [slot]

end Go.Proofs.Ytjhdnachbahbmaa
