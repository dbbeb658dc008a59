/- What is painted, told by what is reached: whatever the order, the outcome is one. -/
import Derived.Test.YtjhdnachbahbmaaScanMath
namespace Go.Proofs.Ytjhdnachbahbmaa
open Go.RowKit
set_option linter.unusedVariables false
set_option maxRecDepth 100000

def col (T : TrialD) (j : Nat) : Int := T.colors.getD j 0
def cnt (T : TrialD) (j : Nat) : Int := T.counts.getD j 0
def stepN (d : Int) : Nat → Int → Int
  | 0, z => z
  | n + 1, z => wrap64 (stepN d n z + d)
theorem stepN_add (d : Int) (m n : Nat) (z : Int) : stepN d (m + n) z = stepN d n (stepN d m z) := by
  induction n with
  | zero => rfl
  | succ n ih => rw [← Nat.add_assoc]; simp only [stepN]; rw [ih]
theorem getD_set (zs : List Int) (i j : Nat) (x : Int) (h : i < zs.length) : (zs.set i x).getD j 0 = if i = j then x else zs.getD j 0 := by
  simp only [List.getD_eq_getElem?_getD, List.getElem?_set]
  by_cases e : i = j
  · subst e; simp [h]
  · simp [e]
theorem eight_ext {A B : TrialD} (hA : Eight A) (hB : Eight B) (h1 : ∀ j, j < 8 → col A j = col B j) (h2 : ∀ j, j < 8 → cnt A j = cnt B j) : A = B := by
  obtain ⟨a1, a2⟩ := A
  obtain ⟨b1, b2⟩ := B
  simp only [Eight] at hA hB
  have key : ∀ (x y : List Int), x.length = 8 → y.length = 8 → (∀ j, j < 8 → x.getD j 0 = y.getD j 0) → x = y := by
    intro x y hx hy h
    refine List.ext_getElem (by omega) (fun i h3 h4 => ?_)
    have := h i (by omega)
    simpa [List.getD_eq_getElem?_getD, List.getElem?_eq_getElem h3, List.getElem?_eq_getElem h4] using this
  rw [key a1 b1 hA.1 hB.1 h2, key a2 b2 hA.2 hB.2 h1]

/-- T is T0, the slots C of color c, the counts turned by d once for each of M. -/
structure Pt (d c : Int) (T0 T : TrialD) (C : List Nat) (M : List Int) : Prop where
  e : Eight T
  col : ∀ j, j < 8 → col T j = if j ∈ C then c else col T0 j
  cnt : ∀ j, j < 8 → cnt T j = stepN d (M.count (j : Int)) (cnt T0 j)
theorem pt_refl (d c : Int) (T : TrialD) (h : Eight T) : Pt d c T T [] [] := ⟨h, fun j _ => by simp, fun j _ => by simp [stepN]⟩
theorem pt_col {d c : Int} {T0 T : TrialD} {C : List Nat} {M : List Int} (h : Pt d c T0 T C M) (k : Nat) (hk : k < 8) : Pt d c T0 ⟨T.counts, T.colors.set k c⟩ (C ++ [k]) M := by
  refine ⟨⟨h.e.1, by simpa using h.e.2⟩, fun j hj => ?_, h.cnt⟩
  show (T.colors.set k c).getD j 0 = _
  rw [getD_set _ _ _ _ (by have := h.e.2; omega)]
  have := h.col j hj
  unfold Go.Proofs.Ytjhdnachbahbmaa.col at this
  by_cases e : k = j
  · subst e; simp
  · rw [if_neg e, this]
    have : ¬ j = k := fun x => e x.symm
    simp [this, Go.Proofs.Ytjhdnachbahbmaa.col]
theorem pt_cnt {d c : Int} {T0 T : TrialD} {C : List Nat} {M : List Int} (h : Pt d c T0 T C M) (z : Int) (hz : 0 ≤ z ∧ z ≤ 7) : Pt d c T0 ⟨T.counts.set z.toNat (wrap64 (T.counts.getD z.toNat 0 + d)), T.colors⟩ C (M ++ [z]) := by
  refine ⟨⟨by simpa using h.e.1, h.e.2⟩, h.col, fun j hj => ?_⟩
  show (T.counts.set z.toNat _).getD j 0 = _
  rw [getD_set _ _ _ _ (by have := h.e.1; omega)]
  have hc := h.cnt j hj
  unfold Go.Proofs.Ytjhdnachbahbmaa.cnt at hc
  rw [List.count_append]
  by_cases e : z.toNat = j
  · have ez : z = (j : Int) := by omega
    subst ez
    rw [if_pos e, e, hc]
    simp [stepN, Go.Proofs.Ytjhdnachbahbmaa.cnt]
  · have ez : ¬ z = (j : Int) := by omega
    have h0 : List.count (j : Int) [z] = 0 := List.count_eq_zero_of_not_mem (by simp; exact fun x => ez x.symm)
    rw [if_neg e, hc, h0, Nat.add_zero]
    rfl
theorem pt_perm {d c : Int} {T0 T : TrialD} {C C' : List Nat} {M M' : List Int} (h : Pt d c T0 T C M) (hC : ∀ j, j ∈ C ↔ j ∈ C') (hM : M.Perm M') : Pt d c T0 T C' M' :=
  ⟨h.e, fun j hj => by rw [h.col j hj]; simp only [hC], fun j hj => by rw [h.cnt j hj, hM.count_eq]⟩

/-- What the slots of a list lead to. -/
def flat (H : HeapD) (C : List Nat) : List Int := C.flatMap (fun k : Nat => kidsOf H (k : Int))
theorem flat_nil (H : HeapD) : flat H [] = [] := rfl
theorem flat_cons (H : HeapD) (k : Nat) (C : List Nat) : flat H (k :: C) = kidsOf H (k : Int) ++ flat H C := by simp [flat]
theorem flat_append (H : HeapD) (C D : List Nat) : flat H (C ++ D) = flat H C ++ flat H D := by simp [flat]
theorem flat_perm (H : HeapD) {C D : List Nat} (h : C.Perm D) : (flat H C).Perm (flat H D) := List.Perm.flatMap_right _ h
theorem mem_flat {H : HeapD} {C : List Nat} {z : Int} : z ∈ flat H C ↔ ∃ k ∈ C, z ∈ kidsOf H (k : Int) := by simp [flat]

/-- A predicate that what is not yet of color c takes over along the fields. -/
def Runs (c : Int) (H : HeapD) (T0 : TrialD) (R : Nat → Prop) : Prop := ∀ i j : Nat, R i → (j : Int) ∈ kidsOf H (i : Int) → col T0 j ≠ c → R j
def Rch (c : Int) (H : HeapD) (T0 : TrialD) (s k : Nat) : Prop := ∀ R : Nat → Prop, R s → Runs c H T0 R → R k
/-- What was painted, from one slot on. -/
structure Fin' (d c : Int) (H : HeapD) (T0 : TrialD) (s : Nat) (T : TrialD) (C : List Nat) : Prop where
  pt : Pt d c T0 T C (flat H C)
  nd : C.Nodup
  sl : ∀ k ∈ C, k < 8
  st : s ∈ C
  no : ∀ k ∈ C, col T0 k ≠ c
  sound : ∀ k ∈ C, Rch c H T0 s k
  all : ∀ i ∈ C, ∀ j : Nat, (j : Int) ∈ kidsOf H (i : Int) → col T0 j ≠ c → j ∈ C
theorem fin_mem {d c : Int} {H : HeapD} {T0 T : TrialD} {s : Nat} {C : List Nat} (h : Fin' d c H T0 s T C) (k : Nat) : k ∈ C ↔ Rch c H T0 s k :=
  ⟨h.sound k, fun hr => hr (fun j => j ∈ C) h.st (fun i j hi hj hc => h.all i hi j hj hc)⟩
theorem fin_one {d c : Int} {H : HeapD} {T0 A B : TrialD} {s : Nat} {C D : List Nat} (h1 : Fin' d c H T0 s A C) (h2 : Fin' d c H T0 s B D) : A = B := by
  have hm : ∀ k, k ∈ C ↔ k ∈ D := fun k => (fin_mem h1 k).trans (fin_mem h2 k).symm
  have hp : C.Perm D := (List.perm_ext_iff_of_nodup h1.nd h2.nd).2 hm
  refine eight_ext h1.pt.e h2.pt.e (fun j hj => ?_) (fun j hj => ?_)
  · rw [h1.pt.col j hj, h2.pt.col j hj]; simp only [hm]
  · rw [h1.pt.cnt j hj, h2.pt.cnt j hj, (flat_perm H hp).count_eq]

/-- The walk with a list of what waits. -/
structure Wait (d c : Int) (H : HeapD) (T0 : TrialD) (R : Nat → Prop) (T : TrialD) (todo : List Int) (C E F : List Nat) (M : List Int) : Prop where
  pt : Pt d c T0 T C M
  nd : C.Nodup
  sl : ∀ k ∈ C, k < 8
  no : ∀ k ∈ C, col T0 k ≠ c
  sound : ∀ k ∈ C, R k
  split : C.Perm (E ++ todo.map Int.toNat)
  slots : Slots todo
  all : ∀ i ∈ F, ∀ j : Nat, (j : Int) ∈ kidsOf H (i : Int) → col T0 j ≠ c → j ∈ C
theorem wait_kid {d c : Int} {H : HeapD} {T0 : TrialD} {R : Nat → Prop} {T : TrialD} {todo : List Int} {C E F : List Nat} {M : List Int} (h : Wait d c H T0 R T todo C E F M) (z : Int) (hz : 0 ≤ z ∧ z ≤ 7) (hR : col T0 z.toNat ≠ c → R z.toNat) :
    ∃ C', Wait d c H T0 R (kidStep d c (T, todo) z).1 (kidStep d c (T, todo) z).2 C' E F (M ++ [z]) ∧ (∀ k ∈ C, k ∈ C') ∧ (col T0 z.toNat ≠ c → z.toNat ∈ C') := by
  have hc := h.pt.col z.toNat (by omega)
  unfold kidStep
  split
  · rename_i hg
    have hg2 : col T z.toNat = c := hg
    refine ⟨C, ⟨pt_cnt h.pt z hz, h.nd, h.sl, h.no, h.sound, h.split, h.slots, h.all⟩, fun k hk => hk, fun hne => ?_⟩
    rw [hg2] at hc
    by_cases hm : z.toNat ∈ C
    · exact hm
    · rw [if_neg hm] at hc; exact absurd hc.symm hne
  · rename_i hg
    have hg2 : ¬ col T z.toNat = c := hg
    have hm : z.toNat ∉ C := fun hm => by rw [if_pos hm] at hc; exact hg2 hc
    rw [if_neg hm] at hc
    have hne : col T0 z.toNat ≠ c := by rw [← hc]; exact hg2
    refine ⟨C ++ [z.toNat], ⟨?_, ?_, ?_, ?_, ?_, ?_, ?_, ?_⟩, fun k hk => by simp [hk], fun _ => by simp⟩
    · exact pt_col (pt_cnt h.pt z hz) z.toNat (by omega)
    · rw [List.nodup_append]
      exact ⟨h.nd, by simp, fun a ha b hb e => by simp at hb; subst hb; subst e; exact hm ha⟩
    · intro k hk
      rcases List.mem_append.1 hk with hk | hk
      · exact h.sl k hk
      · simp at hk; omega
    · intro k hk
      rcases List.mem_append.1 hk with hk | hk
      · exact h.no k hk
      · rw [List.mem_singleton.1 hk]; exact hne
    · intro k hk
      rcases List.mem_append.1 hk with hk | hk
      · exact h.sound k hk
      · rw [List.mem_singleton.1 hk]; exact hR hne
    · rw [List.map_append, ← List.append_assoc]
      exact h.split.append_right _
    · intro x hx
      rcases List.mem_append.1 hx with hx | hx
      · exact h.slots x hx
      · rw [List.mem_singleton.1 hx]; exact hz
    · intro i hi j hj hc; simp [h.all i hi j hj hc]
theorem wait_kids {d c : Int} {H : HeapD} {T0 : TrialD} {R : Nat → Prop} (ks : List Int) (hks : Slots ks) (hR : ∀ z ∈ ks, col T0 z.toNat ≠ c → R z.toNat) : ∀ {T : TrialD} {todo : List Int} {C E F : List Nat} {M : List Int}, Wait d c H T0 R T todo C E F M →
    ∃ C', Wait d c H T0 R (ks.foldl (kidStep d c) (T, todo)).1 (ks.foldl (kidStep d c) (T, todo)).2 C' E F (M ++ ks) ∧ (∀ k ∈ C, k ∈ C') ∧ (∀ z ∈ ks, col T0 z.toNat ≠ c → z.toNat ∈ C') := by
  induction ks with
  | nil => intro T todo C E F M h; exact ⟨C, by simpa using h, fun _ hk => hk, fun z hz => by cases hz⟩
  | cons z r ih =>
    intro T todo C E F M h
    obtain ⟨C1, h1, a1, b1⟩ := wait_kid h z (hks z (by simp)) (hR z (by simp))
    obtain ⟨C2, h2, a2, b2⟩ := ih (fun x hx => hks x (by simp [hx])) (fun x hx => hR x (by simp [hx])) h1
    refine ⟨C2, by simpa using h2, fun k hk => a2 k (a1 k hk), fun x hx hne => ?_⟩
    rcases List.mem_cons.1 hx with rfl | hx
    · exact a2 _ (b1 hne)
    · exact b2 x hx hne
theorem wait_round {d c : Int} {H : HeapD} {T0 : TrialD} {R : Nat → Prop} (hR : Runs c H T0 R) {T : TrialD} {rest : List Int} {k : Int} {C E : List Nat} {M : List Int} (h : Wait d c H T0 R T (rest ++ [k]) C E E M) :
    ∃ C', Wait d c H T0 R (roundS d c (kidsOf H) T rest k).1 (roundS d c (kidsOf H) T rest k).2 C' (E ++ [k.toNat]) (E ++ [k.toNat]) (M ++ kidsOf H k) ∧ ∀ x ∈ C, x ∈ C' := by
  have hk := h.slots k (by simp)
  have ek : ((k.toNat : Nat) : Int) = k := by omega
  have hkC : k.toNat ∈ C := h.split.mem_iff.2 (by simp)
  have hRz : ∀ z ∈ kidsOf H k, col T0 z.toNat ≠ c → R z.toNat := fun z hz hne => by
    have h0 := kidsOf_slots H k z hz
    refine hR k.toNat z.toNat (h.sound _ hkC) ?_ hne
    rw [ek, show ((z.toNat : Nat) : Int) = z from by omega]; exact hz
  have h1 : Wait d c H T0 R T rest C (E ++ [k.toNat]) E M := by
    refine ⟨h.pt, h.nd, h.sl, h.no, h.sound, h.split.trans ?_, fun x hx => h.slots x (by simp [hx]), h.all⟩
    rw [List.map_append, List.append_assoc]
    exact (List.perm_append_comm (l₁ := rest.map Int.toNat) (l₂ := [k.toNat])).append_left E
  obtain ⟨C', h2, a2, b2⟩ := wait_kids (kidsOf H k) (kidsOf_slots H k) hRz h1
  refine ⟨C', ⟨h2.pt, h2.nd, h2.sl, h2.no, h2.sound, h2.split, h2.slots, fun i hi j hj hne => ?_⟩, a2⟩
  rcases List.mem_append.1 hi with hi | hi
  · exact h2.all i hi j hj hne
  · rw [List.mem_singleton.1 hi, ek] at hj
    have := b2 (j : Int) hj (by simpa using hne)
    simpa using this
theorem wait_spread {d c : Int} {H : HeapD} {T0 : TrialD} {R : Nat → Prop} (hR : Runs c H T0 R) : ∀ (m : Nat) (f : Nat) {T : TrialD} {todo : List Int} {C E : List Nat} {M : List Int}, Wait d c H T0 R T todo C E E M → mu c (T, todo) ≤ m → m ≤ f → M.Perm (flat H E) →
    ∃ C' M', Wait d c H T0 R (spread d c (kidsOf H) f T todo) [] C' C' C' M' ∧ M'.Perm (flat H C') ∧ ∀ x ∈ C, x ∈ C' := by
  intro m
  induction m with
  | zero =>
    intro f T todo C E M h hm hf hM
    have : todo = [] := List.eq_nil_of_length_eq_zero (by simp only [mu] at hm; omega)
    subst this
    rw [spread_nil]
    have hp : C.Perm E := by simpa using h.split
    exact ⟨C, M, ⟨h.pt, h.nd, h.sl, h.no, h.sound, by simp, h.slots, fun i hi => h.all i (hp.mem_iff.1 hi)⟩, hM.trans (flat_perm H hp.symm), fun _ hx => hx⟩
  | succ m ih =>
    intro f T todo C E M h hm hf hM
    rcases List.eq_nil_or_concat todo with rfl | ⟨rest, k, rfl⟩
    · rw [spread_nil]
      have hp : C.Perm E := by simpa using h.split
      exact ⟨C, M, ⟨h.pt, h.nd, h.sl, h.no, h.sound, by simp, h.slots, fun i hi => h.all i (hp.mem_iff.1 hi)⟩, hM.trans (flat_perm H hp.symm), fun _ hx => hx⟩
    · rw [List.concat_eq_append] at hm h ⊢
      obtain ⟨f, rfl⟩ : ∃ f', f = f' + 1 := ⟨f - 1, by omega⟩
      have hk := h.slots k (by simp)
      obtain ⟨C1, h1, a1⟩ := wait_round hR h
      obtain ⟨e1, e2, e3⟩ := round_ok d c (kidsOf H) (kidsOf_slots H) T rest k h.pt.e h.slots
      rw [spread_snoc]
      obtain ⟨C2, M2, h2, p2, a2⟩ := ih f h1 (by show mu c (roundS d c (kidsOf H) T rest k) ≤ m; omega) (by omega) (by
        rw [flat_append, flat_cons, flat_nil, List.append_nil, show ((k.toNat : Nat) : Int) = k from by omega]
        exact hM.append_right _)
      exact ⟨C2, M2, h2, p2, fun x hx => a2 x (a1 x hx)⟩
theorem spread_fin (d c : Int) (H : HeapD) (T : TrialD) (s : Nat) (h8 : Eight T) (hs : s < 8) (hc : col T s ≠ c) : ∃ C, Fin' d c H T s (spreadAll d c H ⟨T.counts, T.colors.set s c⟩ [(s : Int)]) C := by
  have hR : Runs c H T (Rch c H T s) := fun i j hi hj hne R h1 h2 => h2 i j (hi R h1 h2) hj hne
  have w0 : Wait d c H T (Rch c H T s) ⟨T.counts, T.colors.set s c⟩ [(s : Int)] [s] [] [] [] := by
    refine ⟨by simpa using pt_col (pt_refl d c T h8) s hs, by simp, by simpa using hs, by simpa using hc, ?_, by simp, ?_, by simp⟩
    · intro k hk
      rw [List.mem_singleton.1 hk]
      exact fun R h1 _ => h1
    · intro z hz
      rw [List.mem_singleton.1 hz]; omega
  obtain ⟨C, M, h, hp, a⟩ := wait_spread hR _ _ w0 (Nat.le_refl _) (Nat.le_refl _) (by simp [flat])
  exact ⟨C, ⟨pt_perm h.pt (fun _ => Iff.rfl) hp, h.nd, h.sl, a s (by simp), h.no, h.sound, h.all⟩⟩

/-- The walk by calls: what one call more has painted. -/
structure Deep (d c : Int) (H : HeapD) (T0 : TrialD) (R : Nat → Prop) (T : TrialD) (C : List Nat) (M : List Int) : Prop where
  pt : Pt d c T0 T C M
  nd : C.Nodup
  sl : ∀ k ∈ C, k < 8
  no : ∀ k ∈ C, col T0 k ≠ c
  sound : ∀ k ∈ C, R k
def Shut (c : Int) (H : HeapD) (T0 : TrialD) (C D : List Nat) : Prop := ∀ i ∈ D, ∀ j : Nat, (j : Int) ∈ kidsOf H (i : Int) → col T0 j ≠ c → j ∈ C
/-- What a call of painted at slot k leaves. -/
def Painted (d c : Int) (H : HeapD) (T0 : TrialD) (R : Nat → Prop) (C : List Nat) (M : List Int) (k : Nat) (T' : TrialD) : Prop :=
  ∃ C2, Deep d c H T0 R T' (C ++ C2) (M ++ flat H C2) ∧ Shut c H T0 (C ++ C2) C2 ∧ (col T0 k ≠ c → k ∈ C ++ C2)
/-- In the midst: slot k is painted, the first i of its kids are done. -/
def Midst (d c : Int) (H : HeapD) (T0 : TrialD) (R : Nat → Prop) (C : List Nat) (M : List Int) (k i : Nat) (T : TrialD) : Prop :=
  ∃ C2, Deep d c H T0 R T (C ++ k :: C2) (M ++ ((kidsOf H (k : Int)).take i ++ flat H C2)) ∧ Shut c H T0 (C ++ k :: C2) C2 ∧ ∀ z ∈ (kidsOf H (k : Int)).take i, col T0 z.toNat ≠ c → z.toNat ∈ C ++ k :: C2
theorem painted_yes {d c : Int} {H : HeapD} {T0 T : TrialD} {R : Nat → Prop} {C : List Nat} {M : List Int} {k : Nat} (h : Deep d c H T0 R T C M) (hk : k < 8) (hc : col T k = c) : Painted d c H T0 R C M k T := by
  refine ⟨[], by simpa [flat] using h, fun i hi => (by cases hi), fun hne => ?_⟩
  have := h.pt.col k hk
  rw [hc] at this
  by_cases hm : k ∈ C
  · simpa using hm
  · rw [if_neg hm] at this; exact absurd this.symm hne
theorem midst_start {d c : Int} {H : HeapD} {T0 T : TrialD} {R : Nat → Prop} {C : List Nat} {M : List Int} {k : Nat} (h : Deep d c H T0 R T C M) (hk : k < 8) (hR : col T0 k ≠ c → R k) (hc : col T k ≠ c) : Midst d c H T0 R C M k 0 ⟨T.counts, T.colors.set k c⟩ := by
  have hcl := h.pt.col k hk
  have hm : k ∉ C := fun hm => by rw [if_pos hm] at hcl; exact hc hcl
  rw [if_neg hm] at hcl
  have hne : col T0 k ≠ c := by rw [← hcl]; exact hc
  refine ⟨[], ⟨?_, ?_, ?_, ?_, ?_⟩, fun i hi => (by cases hi), fun z hz => (by simp at hz)⟩
  · simpa [flat] using pt_col h.pt k hk
  · rw [List.nodup_append]
    exact ⟨h.nd, by simp, fun a ha b hb e => by simp at hb; subst hb; subst e; exact hm ha⟩
  all_goals
    intro x hx
    rcases List.mem_append.1 hx with hx | hx
  · exact h.sl x hx
  · rw [List.mem_singleton.1 hx]; exact hk
  · exact h.no x hx
  · rw [List.mem_singleton.1 hx]; exact hne
  · exact h.sound x hx
  · rw [List.mem_singleton.1 hx]; exact hR hne
/-- One kid: its count is turned .. -/
theorem midst_count {d c : Int} {H : HeapD} {T0 T : TrialD} {R : Nat → Prop} (hR : Runs c H T0 R) {C : List Nat} {M : List Int} {k i : Nat} (h : Midst d c H T0 R C M k i T) (hi : i < (kidsOf H (k : Int)).length) (z : Int) (hz : (kidsOf H (k : Int))[i] = z) :
    ∃ C2, Deep d c H T0 R ⟨T.counts.set z.toNat (wrap64 (T.counts.getD z.toNat 0 + d)), T.colors⟩ (C ++ k :: C2) (M ++ ((kidsOf H (k : Int)).take (i + 1) ++ flat H C2)) ∧ Shut c H T0 (C ++ k :: C2) C2 ∧ (∀ z ∈ (kidsOf H (k : Int)).take i, col T0 z.toNat ≠ c → z.toNat ∈ C ++ k :: C2) ∧ (col T0 z.toNat ≠ c → R z.toNat) ∧ (0 ≤ z ∧ z ≤ 7) := by
  obtain ⟨C2, h1, h2, h3⟩ := h
  have hmem : z ∈ kidsOf H (k : Int) := hz ▸ List.getElem_mem hi
  have hzs := kidsOf_slots H (k : Int) z hmem
  refine ⟨C2, ⟨pt_perm (pt_cnt h1.pt z hzs) (fun _ => Iff.rfl) ?_, h1.nd, h1.sl, h1.no, h1.sound⟩, h2, h3, fun hne => ?_, hzs⟩
  · rw [List.take_succ_eq_append_getElem hi, hz, List.append_assoc, List.append_assoc, List.append_assoc]
    exact (List.Perm.append_left _ (List.perm_append_comm)).append_left M
  · exact hR k z.toNat (h1.sound k (by simp)) (by rw [show ((z.toNat : Nat) : Int) = z from by omega]; exact hmem) hne
/-- .. and then it is painted. -/
theorem midst_step {d c : Int} {H : HeapD} {T0 T' : TrialD} {R : Nat → Prop} {C C2 : List Nat} {M : List Int} {k i : Nat} (hi : i < (kidsOf H (k : Int)).length) (z : Int) (hz : (kidsOf H (k : Int))[i] = z) (h2 : Shut c H T0 (C ++ k :: C2) C2) (h3 : ∀ z ∈ (kidsOf H (k : Int)).take i, col T0 z.toNat ≠ c → z.toNat ∈ C ++ k :: C2)
    (hp : Painted d c H T0 R (C ++ k :: C2) (M ++ ((kidsOf H (k : Int)).take (i + 1) ++ flat H C2)) z.toNat T') : Midst d c H T0 R C M k (i + 1) T' := by
  obtain ⟨C3, g1, g2, g3⟩ := hp
  have eC : C ++ k :: C2 ++ C3 = C ++ k :: (C2 ++ C3) := by simp
  refine ⟨C2 ++ C3, ?_, ?_, ?_⟩
  · rw [eC] at g1
    rw [flat_append]
    simpa using g1
  · rw [← eC]
    intro a ha j hj hne
    rcases List.mem_append.1 ha with ha | ha
    · exact List.mem_append_left _ (h2 a ha j hj hne)
    · exact g2 a ha j hj hne
  · rw [← eC, List.take_succ_eq_append_getElem hi, hz]
    intro x hx hne
    rcases List.mem_append.1 hx with hx | hx
    · exact List.mem_append_left _ (h3 x hx hne)
    · rw [List.mem_singleton.1 hx] at hne ⊢; exact g3 hne
theorem midst_end {d c : Int} {H : HeapD} {T0 T : TrialD} {R : Nat → Prop} {C : List Nat} {M : List Int} {k i : Nat} (h : Midst d c H T0 R C M k i T) (hi : (kidsOf H (k : Int)).length ≤ i) : Painted d c H T0 R C M k T := by
  obtain ⟨C2, h1, h2, h3⟩ := h
  rw [List.take_of_length_le hi] at h1 h3
  refine ⟨k :: C2, by rw [flat_cons]; exact h1, fun a ha j hj hne => ?_, fun _ => by simp⟩
  rcases List.mem_cons.1 ha with rfl | ha
  · have := h3 (j : Int) hj (by simpa using hne)
    simpa using this
  · exact h2 a ha j hj hne
/-- From nothing on: what is painted by calls is what is painted by a list. -/
theorem painted_all {d c : Int} {H : HeapD} {T T' : TrialD} {k : Nat} (h8 : Eight T) (hk : k < 8) (hc : col T k ≠ c) (h : Painted d c H T (Rch c H T k) [] [] k T') : T' = spreadAll d c H ⟨T.counts, T.colors.set k c⟩ [(k : Int)] := by
  obtain ⟨C, h1, h2, h3⟩ := h
  simp only [List.nil_append] at h1 h2 h3
  obtain ⟨D, hD⟩ := spread_fin d c H T k h8 hk hc
  exact fin_one (C := C) ⟨h1.pt, h1.nd, h1.sl, h3 hc, h1.no, h1.sound, h2⟩ hD
theorem deep_start {d c : Int} {H : HeapD} {T : TrialD} (R : Nat → Prop) (h8 : Eight T) : Deep d c H T R T [] [] := ⟨pt_refl d c T h8, by simp, by simp, by simp, by simp⟩
theorem rch_runs (c : Int) (H : HeapD) (T : TrialD) (s : Nat) : Runs c H T (Rch c H T s) := fun i j hi hj hne R h1 h2 => h2 i j (hi R h1 h2) hj hne

end Go.Proofs.Ytjhdnachbahbmaa
