/- What a trial of all that is suspected finds in a right heap: what is white. Plain facts, no program. -/
import Derived.Test.YtjhdnachbahbmaaJRefusesA
import Derived.Test.YtjhdnachbahbmaaAppMath
import Derived.Test.YtjhdnachbahbmaaRightLose
import Derived.Test.YtjhdnachbahbmaaLoseState
import Derived.Test.YtjhdnachbahbmaaFreeWalks
import Derived.Deep.RegionHeld
import Derived.Test.YtjhdnachbahbmaaLoseParts
import Derived.Test.YtjhdnachbahbmaaRingMath
import Derived.Test.YtjhdnachbahbmaaLenV
import Derived.Test.YtjhdnachbahbmaaAnyOps
import Derived.Test.YtjhdnachbahbmaaHeapBase
import Derived.Shelf.Strconv.Clone
import Derived.Test.YtjhdnachbahbmaaHeapMark
import Derived.Test.YtjhdnachbahbmaaICopyWalks
namespace Go.Proofs.Ytjhdnachbahbmaa
open Go.RowKit
set_option linter.unusedVariables false
set_option maxRecDepth 100000

/-- What is black again (P) and white (S) so far, out of the gray ones C of the trial TG. -/
structure ScI (H : HeapD) (TG : TrialD) (C : List Nat) (T : TrialD) (P S : List Nat) (B : Nat → Prop) : Prop where
  e : Eight T
  col : ∀ j, j < 8 → Go.Proofs.Ytjhdnachbahbmaa.col T j = if j ∈ P then 0 else if j ∈ S then 2 else if j ∈ C then 1 else 0
  cnt : ∀ j, j < 8 → Go.Proofs.Ytjhdnachbahbmaa.cnt T j = stepN 1 ((flat H P).count (j : Int)) (Go.Proofs.Ytjhdnachbahbmaa.cnt TG j)
  nd : P.Nodup
  sl : ∀ k ∈ P, k < 8
  pc : ∀ k ∈ P, k ∈ C
  sc : ∀ k ∈ S, k ∈ C
  shut : ∀ i ∈ P, ∀ j : Nat, (j : Int) ∈ kidsOf H (i : Int) → j ∈ P
  full : ∀ i ∈ S, ∀ j : Nat, (j : Int) ∈ kidsOf H (i : Int) → j ∈ P ∨ j ∈ S
  wg : ∀ k ∈ S, Go.Proofs.Ytjhdnachbahbmaa.cnt TG k ≤ 0
  why : ∀ k ∈ P, 0 < Go.Proofs.Ytjhdnachbahbmaa.cnt TG k ∨ ∃ a ∈ P, (k : Int) ∈ kidsOf H (a : Int)
  st : ∀ b, B b → b ∈ P ∨ b ∈ S
theorem sci_iff {H : HeapD} {TG T : TrialD} {C P S : List Nat} {A B : Nat → Prop} (h : ScI H TG C T P S A) (e : ∀ b, A b ↔ B b) : ScI H TG C T P S B :=
  ⟨h.e, h.col, h.cnt, h.nd, h.sl, h.pc, h.sc, h.shut, h.full, h.wg, h.why, fun b hb => h.st b ((e b).2 hb)⟩
theorem sci_start {H : HeapD} {TG : TrialD} {C : List Nat} (h8 : Eight TG) (hc : ∀ j, j < 8 → col TG j = if j ∈ C then 1 else 0) : ScI H TG C TG [] [] (fun _ => False) :=
  ⟨h8, fun j hj => by rw [hc j hj]; simp, fun j hj => by simp [flat, stepN], by simp, by simp, by simp, by simp, by simp, by simp, by simp, by simp, by simp⟩
theorem sci_step {H : HeapD} (hJ : JH H []) (hs : SmallH H) {TG : TrialD} {C : List Nat} (hcl : ∀ i ∈ C, ∀ j : Nat, (j : Int) ∈ kidsOf H (i : Int) → j ∈ C) (hb : ∀ j, j < 8 → -1000 ≤ cnt TG j ∧ cnt TG j ≤ 1000)
    {T : TrialD} {P S : List Nat} {B : Nat → Prop} (h : ScI H TG C T P S B) (s : Nat) (h8 : s < 8) (hsC : s ∈ C) : ∃ P' S', ScI H TG C (scanT H T (s : Int)) P' S' (fun b => B b ∨ b = s) := by
  obtain ⟨P', S', hF⟩ := scanT_fin H hs T s h.e h8
  have hc := hF.sc
  have c0 : ∀ j, j < 8 → j ∈ P → Go.Proofs.Ytjhdnachbahbmaa.col T j = 0 := fun j hj hm => by rw [h.col j hj, if_pos hm]
  have c2 : ∀ j, j < 8 → j ∉ P → j ∈ S → Go.Proofs.Ytjhdnachbahbmaa.col T j = 2 := fun j hj h1 h2 => by rw [h.col j hj, if_neg h1, if_pos h2]
  have c1 : ∀ j, j < 8 → j ∉ P → j ∉ S → j ∈ C → Go.Proofs.Ytjhdnachbahbmaa.col T j = 1 := fun j hj h1 h2 h3 => by rw [h.col j hj, if_neg h1, if_neg h2, if_pos h3]
  have cC : ∀ j, j < 8 → Go.Proofs.Ytjhdnachbahbmaa.col T j ≠ 0 → j ∈ C ∧ j ∉ P := fun j hj hn => by
    refine ⟨?_, fun hm => hn (c0 j hj hm)⟩
    by_cases h1 : j ∈ P
    · exact h.pc j h1
    · by_cases h2 : j ∈ S
      · exact h.sc j h2
      · by_cases h3 : j ∈ C
        · exact h3
        · exact absurd (by rw [h.col j hj, if_neg h1, if_neg h2, if_neg h3]) hn
  have cnT : ∀ j, j < 8 → Go.Proofs.Ytjhdnachbahbmaa.cnt T j = Go.Proofs.Ytjhdnachbahbmaa.cnt TG j + ((flat H P).count (j : Int) : Int) := fun j hj => by
    have := flat_le hJ j P h.nd h.sl
    have := hb j hj
    rw [h.cnt j hj, stepN_up _ _ (by omega) (by omega) (by omega)]
  have sS : ∀ k ∈ S', k < 8 ∧ k ∉ P ∧ k ∉ S ∧ k ∈ C := fun k hk => by
    obtain ⟨w1, w2, w3⟩ := hc.wg k hk
    obtain ⟨w4, w5⟩ := cC k w1 (by rw [w2]; omega)
    refine ⟨w1, w5, fun hm => ?_, w4⟩
    have := c2 k w1 w5 hm
    omega
  have sP : ∀ k ∈ P', k < 8 ∧ k ∉ P ∧ k ∈ C := fun k hk => by
    have w1 := hc.sl k hk
    obtain ⟨w4, w5⟩ := cC k w1 (hc.pno k hk)
    exact ⟨w1, w5, w4⟩
  have shut2 : ∀ i ∈ P ++ P', ∀ j : Nat, (j : Int) ∈ kidsOf H (i : Int) → j ∈ P ++ P' := fun i hi j hj => by
    rcases List.mem_append.1 hi with e | e
    · exact List.mem_append_left _ (h.shut i e j hj)
    · have hjC := hcl i (sP i e).2.2 j hj
      by_cases hz : Go.Proofs.Ytjhdnachbahbmaa.col T j = 0
      · by_cases h1 : j ∈ P
        · exact List.mem_append_left _ h1
        · exfalso
          by_cases h2 : j ∈ S
          · have := c2 j (kid_lt hj) h1 h2; omega
          · have := c1 j (kid_lt hj) h1 h2 hjC; omega
      · exact List.mem_append_right _ (hc.shut i e j hj hz)
  refine ⟨P ++ P', S ++ S', hc.e, fun j hj => ?_, fun j hj => ?_, ?_, fun k hk => ?_, fun k hk => ?_, fun k hk => ?_, shut2, fun i hi j hj => ?_, fun k hk => ?_, fun k hk => ?_, fun b hb => ?_⟩
  · rw [hc.col j hj]
    by_cases p2 : j ∈ P'
    · simp [p2]
    · by_cases s2 : j ∈ S'
      · simp [p2, s2, (sS j s2).2.1]
      · rw [h.col j hj]
        simp [p2, s2]
  · rw [hc.cnt j hj, h.cnt j hj, flat_append, List.count_append, stepN_add]
  · rw [List.nodup_append]
    refine ⟨h.nd, hc.nd, fun a ha b hb e => ?_⟩
    subst e
    exact (sP a hb).2.1 ha
  · rcases List.mem_append.1 hk with e | e
    · exact h.sl k e
    · exact (sP k e).1
  · rcases List.mem_append.1 hk with e | e
    · exact h.pc k e
    · exact (sP k e).2.2
  · rcases List.mem_append.1 hk with e | e
    · exact h.sc k e
    · exact (sS k e).2.2.2
  · rcases List.mem_append.1 hi with e | e
    · rcases h.full i e j hj with r | r
      · exact .inl (List.mem_append_left _ r)
      · exact .inr (List.mem_append_left _ r)
    · have hjC := hcl i (sS i e).2.2.2 j hj
      by_cases h1 : j ∈ P
      · exact .inl (List.mem_append_left _ h1)
      · by_cases h2 : j ∈ S
        · exact .inr (List.mem_append_left _ h2)
        · rcases hF.full i e j hj (c1 j (kid_lt hj) h1 h2 hjC) with r | r
          · exact .inl (List.mem_append_right _ r)
          · exact .inr (List.mem_append_right _ r)
  · rcases List.mem_append.1 hk with e | e
    · exact h.wg k e
    · obtain ⟨w1, w2, w3⟩ := hc.wg k e
      have := cnT k w1
      omega
  · rcases List.mem_append.1 hk with e | e
    · rcases h.why k e with r | ⟨a, ha, r⟩
      · exact .inl r
      · exact .inr ⟨a, List.mem_append_left _ ha, r⟩
    · have key := hc.qs k e (fun x => x ∈ P' ∧ (0 < Go.Proofs.Ytjhdnachbahbmaa.cnt TG x ∨ ∃ a ∈ P ++ P', (x : Int) ∈ kidsOf H (a : Int))) (fun a hA hp => by
        have haP : a ∈ P' := (fins_p hF a).2 (fun U h1 _ => h1 a hA hp)
        refine ⟨haP, ?_⟩
        have e1 := cnT a (sP a haP).1
        by_cases e2 : 0 < Go.Proofs.Ytjhdnachbahbmaa.cnt TG a
        · exact .inl e2
        · have e3 : 0 < (flat H P).count (a : Int) := by omega
          obtain ⟨q, hq, r⟩ := mem_flat.1 (List.count_pos_iff.1 e3)
          exact .inr ⟨q, List.mem_append_left _ hq, r⟩) (fun a b ha hb hne => ⟨hc.shut a ha.1 b hb hne, .inr ⟨a, List.mem_append_right _ ha.1, hb⟩⟩)
      exact key.2
  · rcases hb with hb | hb
    · rcases h.st b hb with r | r
      · exact .inl (List.mem_append_left _ r)
      · exact .inr (List.mem_append_left _ r)
    · rw [hb]
      by_cases h1 : s ∈ P
      · exact .inl (List.mem_append_left _ h1)
      · by_cases h2 : s ∈ S
        · exact .inr (List.mem_append_left _ h2)
        · rcases hF.st (c1 s h8 h1 h2 hsC) with r | r
          · exact .inl (List.mem_append_right _ r)
          · exact .inr (List.mem_append_right _ r)
theorem sci_all {H : HeapD} (hJ : JH H []) (hs : SmallH H) {TG : TrialD} {C : List Nat} (hcl : ∀ i ∈ C, ∀ j : Nat, (j : Int) ∈ kidsOf H (i : Int) → j ∈ C) (hb : ∀ j, j < 8 → -1000 ≤ cnt TG j ∧ cnt TG j ≤ 1000) :
    ∀ (l : List Int) (T : TrialD) (P S : List Nat) (B : Nat → Prop), ScI H TG C T P S B → (∀ x ∈ l, 0 ≤ slotZ H x) → (∀ x ∈ l, (slotZ H x).toNat ∈ C) → ∃ P' S', ScI H TG C (l.foldl (scanF H) T) P' S' (fun b => B b ∨ ∃ x ∈ l, slotZ H x = (b : Int)) := by
  intro l
  induction l with
  | nil => intro T P S B h _ _; exact ⟨P, S, sci_iff h (fun b => by simp)⟩
  | cons x r ih =>
    intro T P S B h hl hC
    have hx := hl x (List.mem_cons_self ..)
    have hr := slotZ_range H x
    obtain ⟨P1, S1, h1⟩ := sci_step hJ hs hcl hb h (slotZ H x).toNat (by omega) (hC x (List.mem_cons_self ..))
    have e : scanF H T x = scanT H T ((slotZ H x).toNat : Int) := by unfold scanF; rw [if_pos hx, show (((slotZ H x).toNat : Nat) : Int) = slotZ H x from by omega]
    rw [List.foldl_cons, e]
    obtain ⟨P', S', h'⟩ := ih _ P1 S1 _ h1 (fun y hy => hl y (List.mem_cons_of_mem _ hy)) (fun y hy => hC y (List.mem_cons_of_mem _ hy))
    refine ⟨P', S', sci_iff h' (fun b => ?_)⟩
    constructor
    · rintro ((hb | hb) | ⟨y, hy, ey⟩)
      · exact .inl hb
      · exact .inr ⟨x, List.mem_cons_self .., by omega⟩
      · exact .inr ⟨y, List.mem_cons_of_mem _ hy, ey⟩
    · rintro (hb | ⟨y, hy, ey⟩)
      · exact .inl (.inl hb)
      · rcases List.mem_cons.1 hy with e2 | e2
        · subst e2; exact .inl (.inr (by omega))
        · exact .inr ⟨y, e2, ey⟩

/-- What is not white leads to nothing white, and has a count without it. -/
structure WhiteOk (H : HeapD) (W : Nat → Bool) : Prop where
  is : ∀ i, i < 8 → isW (suspT H) i = W i
  shut : ∀ i j : Nat, i < 8 → W i = false → (j : Int) ∈ kidsOf H (i : Int) → W j = false
  kept : ∀ j (hj : j < H.objs.length), H.objs[j].live = true → W j = false → 1 ≤ H.objs[j].holds + H.objs[j].roots + (sumP (kidC H j) (fun i => !W i) 8 : Int)
theorem cnt_new {H : HeapD} (h8 : H.objs.length = 8) {j : Nat} (hj : j < H.objs.length) : cnt (trialNew H) j = H.objs[j].count := by
  unfold cnt trialNew
  rw [List.getD_eq_getElem?_getD, List.getElem?_map, List.take_of_length_le (by omega), List.getElem?_eq_getElem hj]
  rfl
theorem count_sum {H : HeapD} (hJ : JH H []) {j : Nat} (hj : j < H.objs.length) (hl : H.objs[j].live = true) : H.objs[j].count = H.objs[j].holds + H.objs[j].roots + (sumP (kidC H j) (fun _ => true) 8 : Int) ∧ 0 ≤ H.objs[j].holds ∧ 0 ≤ H.objs[j].roots := by
  obtain ⟨-, -, h3⟩ := hJ.objs j hj
  obtain ⟨l1, -, l3, -⟩ := h3 hl
  rw [inE_sum hJ hj hl] at l3
  simp only [List.count_nil] at l3
  exact ⟨by omega, l1.2.2.1.1, l1.2.2.2.1⟩
theorem white_ok {H : HeapD} (hJ : JH H []) (hs : SmallH H) : ∃ W, WhiteOk H W := by
  have h8 := hJ.size.1
  obtain ⟨C, hG⟩ := gr_all H.buffer _ _ _ (gr_start h8) hJ.bufS
  have eG : H.buffer.foldl (grayF H) (trialNew H) = suspG H H.buffer.length := by unfold suspG; rw [List.take_length]
  rw [eG] at hG
  have hcount : ∀ j (hj : j < H.objs.length), 0 ≤ H.objs[j].count ∧ H.objs[j].count ≤ 64 := fun j hj => by
    cases hl : H.objs[j].live with
    | true => have := count_small hJ hj hl; rw [List.length_nil] at this; omega
    | false => have := ((hJ.objs j hj).2.1 hl).2.2.2.1; omega
  have hcG : ∀ j (hj : j < H.objs.length), cnt (suspG H H.buffer.length) j = H.objs[j].count - ((flat H C).count (j : Int) : Int) := fun j hj => by
    have e1 := flat_le hJ j C hG.nd hG.sl
    have e2 := hcount j hj
    rw [hG.cnt j (by omega), cnt_new h8 hj, stepN_down _ _ (by omega) (by omega) (by omega)]
  have hb : ∀ j, j < 8 → -1000 ≤ cnt (suspG H H.buffer.length) j ∧ cnt (suspG H H.buffer.length) j ≤ 1000 := fun j hj => by
    have e1 := flat_le hJ j C hG.nd hG.sl
    have e2 := hcount j (by omega)
    rw [hcG j (by omega)]; omega
  obtain ⟨P, S, hS⟩ := sci_all hJ hs hG.shut hb H.buffer _ _ _ _ (sci_start hG.e hG.col) hJ.bufS (fun x hx => hG.st _ (.inr ⟨x, hx, by have := hJ.bufS x hx; omega⟩))
  have eS : H.buffer.foldl (scanF H) (suspG H H.buffer.length) = suspT H := by unfold suspT suspS; rw [List.take_length]
  rw [eS] at hS
  have hall : ∀ k ∈ C, k ∈ P ∨ k ∈ S := hG.frm (fun k => k ∈ P ∨ k ∈ S) (fun b hb => hS.st b hb) (fun i j hi hj => by
    rcases hi with e | e
    · exact .inl (hS.shut i e j hj)
    · exact hS.full i e j hj)
  have hflat : ∀ j : Nat, (flat H C).count (j : Int) = sumP (kidC H j) (fun i => decide (i ∈ C)) 8 := fun j => flat_sum H j C hG.nd hG.sl
  have hpos : ∀ a j : Nat, (j : Int) ∈ kidsOf H (a : Int) → 1 ≤ kidC H j a := fun a j hk => List.count_pos_iff.2 hk
  refine ⟨fun i => decide (i ∈ S ∧ i ∉ P), fun i hi => ?_, fun i j hi hw hk => ?_, fun j hj hl hw => ?_⟩
  · unfold isW
    have e := hS.col i hi
    unfold Go.Proofs.Ytjhdnachbahbmaa.col at e
    rw [e]
    by_cases h1 : i ∈ P
    · simp [h1]
    · by_cases h2 : i ∈ S
      · simp [h1, h2]
      · by_cases h3 : i ∈ C <;> simp [h1, h2, h3]
  · refine decide_eq_false (fun hj => ?_)
    have hw2 : ¬ (i ∈ S ∧ i ∉ P) := of_decide_eq_false hw
    by_cases h1 : i ∈ P
    · exact hj.2 (hS.shut i h1 j hk)
    · have h2 : i ∉ S := fun e => hw2 ⟨e, h1⟩
      have h3 : i ∉ C := fun e => by rcases hall i e with r | r; exact h1 r; exact h2 r
      obtain ⟨hjl, hl⟩ := kid_live hk
      have e1 := hS.wg j hj.1
      rw [hcG j hjl, hflat] at e1
      obtain ⟨e2, e3, e4⟩ := count_sum hJ hjl hl
      have e5 := sumP_split (kidC H j) (fun i => decide (i ∈ C)) 8
      have e6 := sumP_ge (kidC H j) (fun i => !decide (i ∈ C)) i (by simp [h3]) 8 hi
      have e7 := hpos i j hk
      omega
  · have hw2 : ¬ (j ∈ S ∧ j ∉ P) := of_decide_eq_false hw
    obtain ⟨e2, e3, e4⟩ := count_sum hJ hj hl
    by_cases h1 : j ∈ P
    · rcases hS.why j h1 with r | ⟨a, ha, r⟩
      · rw [hcG j hj, hflat] at r
        have e5 := sumP_split (kidC H j) (fun i => decide (i ∈ C)) 8
        have e6 := sumP_mono (kidC H j) (fun i => !decide (i ∈ C)) (fun i => !decide (i ∈ S ∧ i ∉ P)) (fun i hi => by
          have : i ∉ C := by simpa using hi
          simp only [Bool.not_eq_true', decide_eq_false_iff_not]
          exact fun hh => this (hS.sc i hh.1)) 8
        omega
      · have e6 := sumP_ge (kidC H j) (fun i => !decide (i ∈ S ∧ i ∉ P)) a (by simp [ha]) 8 (hS.sl a ha)
        have e7 := hpos a j r
        omega
    · have h2 : j ∉ S := fun e => hw2 ⟨e, h1⟩
      have h3 : j ∉ C := fun e => by rcases hall j e with r | r; exact h1 r; exact h2 r
      have e6 := sumP_same (kidC H j) (fun _ => true) (fun i => !decide (i ∈ S ∧ i ∉ P)) 8 (fun i hi hne => by
        have hiS : i ∈ S := by
          by_cases e : i ∈ S
          · exact e
          · exact absurd (by simp [e]) hne
        refine List.count_eq_zero.2 (fun hk => h3 (hG.shut i (hS.sc i hiS) j hk)))
      obtain ⟨-, -, m3⟩ := hJ.objs j hj
      have := (m3 hl).2.2.2.1
      omega

end Go.Proofs.Ytjhdnachbahbmaa

namespace Go.Proofs.Ytjhdnachbahbmaa
open Go.RowKit
set_option linter.unusedVariables false

/-- What is done to a right heap. -/
def workR (H : HeapD) (o : OpD) : HeapD × AnsD :=
  if o.kind = 1 then allocR H o.site
  else if o.kind = 2 ∨ o.kind = 3 ∨ o.kind = 5 ∨ o.kind = 6 then holdR H o.kind o.a
  else if o.kind = 4 then storeR H o.a o.b o.c
  else if o.kind = 7 then weakR H o.a
  else if o.kind = 8 then loadR H o.a
  else if o.kind = 9 then dropR H o.a
  else if o.kind = 10 then (collH H, ⟨0, 0, collF H⟩)
  else refR H 2

end Go.Proofs.Ytjhdnachbahbmaa

namespace Go.Proofs.Ytjhdnachbahbmaa
open Go.RowKit
set_option linter.unusedVariables false
set_option maxRecDepth 100000

/-- One object is turned in its counts alone, and what waits with it. -/
theorem jh_turn {H : HeapD} {todo todo' : List Int} (h : JH H todo) {k : Nat} (hk : k < H.objs.length) (hl : H.objs[k].live = true) (o' : ObjD) (ol : o'.live = true) (og : o'.gen = H.objs[k].gen) (os : o'.site = H.objs[k].site) (of : o'.field = H.objs[k].field) (op : o'.purple = H.objs[k].purple) (hh : 0 ≤ o'.holds ∧ o'.holds ≤ 20) (hr : 0 ≤ o'.roots ∧ o'.roots ≤ 20)
    (hc : o'.count - o'.holds - o'.roots - (todo'.count (idZ (k : Int) H.objs[k].gen) : Int) = H.objs[k].count - H.objs[k].holds - H.objs[k].roots - (todo.count (idZ (k : Int) H.objs[k].gen) : Int)) (h1 : 1 ≤ o'.count) (ht : ∀ x, x ≠ idZ (k : Int) H.objs[k].gen → todo'.count x = todo.count x) : JH (setO H k o') todo' := by
  have hS : ∀ x, slotZ (setO H k o') x = slotZ H x := fun x => slotZ_set k hk o' (by rw [ol, hl]) og x
  have hI : ∀ x, inE x (setO H k o').objs = inE x H.objs := fun x => by
    have e := inE_setO x H k hk o'
    have e2 : inO x o' = inO x H.objs[k] := by unfold inO; rw [ol, hl, of]
    omega
  refine ⟨⟨by simpa [setO] using h.size.1, h.size.2⟩, fun i hi => ?_, h.weaks, fun x hx => by rw [hS]; exact h.bufS x hx, h.bufN, h.sites⟩
  have hi2 : i < H.objs.length := by simpa [setO] using hi
  obtain ⟨m1, m2, m3⟩ := h.objs i hi2
  by_cases e : i = k
  · subst e
    have eo : (setO H i o').objs[i] = o' := by simp [setO]
    rw [eo]
    obtain ⟨l1, l2, l3, l4, l5⟩ := m3 hl
    refine ⟨by rw [og, of]; exact m1, fun hd => (by rw [ol] at hd; cases hd), fun _ => ⟨⟨by rw [og]; exact l1.1, by rw [os]; exact l1.2.1, hh, hr⟩, fun j hj => ?_, ?_, h1, ?_⟩⟩
    · rw [hS]
      have hj2 : j < H.objs[i].field.length := by rw [← of]; exact hj
      have := l2 j hj2
      rw [show o'.field[j] = H.objs[i].field[j] from by simp only [of]]
      exact this
    · rw [og, hI]; omega
    · rw [og, op]; exact l5
  · have eo : (setO H k o').objs[i] = H.objs[i] := by simp [setO, List.getElem_set_ne (Ne.symm e)]
    rw [eo]
    refine ⟨m1, m2, fun hli => ?_⟩
    obtain ⟨l1, l2, l3, l4, l5⟩ := m3 hli
    obtain ⟨n1, -, n3⟩ := h.objs k hk
    have hne : idZ (i : Int) H.objs[i].gen ≠ idZ (k : Int) H.objs[k].gen := fun e2 => by
      have a1 := slot_of h.size.1 hi2 hli ⟨l1.1, m1.1.2⟩
      have a2 := slot_of h.size.1 hk hl ⟨(n3 hl).1.1, n1.1.2⟩
      rw [e2, a2] at a1; omega
    refine ⟨l1, fun j hj => by rw [hS]; exact l2 j hj, ?_, l4, l5⟩
    rw [hI, ht _ hne]; exact l3
/-- What leads to nothing live may wait or not. -/
theorem jh_more {H : HeapD} {todo : List Int} {x : Int} (h : JH H todo) (hx : slotZ H x < 0) : JH H (x :: todo) := by
  refine ⟨h.size, fun i hi => ?_, h.weaks, h.bufS, h.bufN, h.sites⟩
  obtain ⟨m1, m2, m3⟩ := h.objs i hi
  refine ⟨m1, m2, fun hli => ?_⟩
  obtain ⟨l1, l2, l3, l4, l5⟩ := m3 hli
  have hne : idZ (i : Int) H.objs[i].gen ≠ x := fun e2 => by
    have := slot_of h.size.1 hi hli ⟨l1.1, m1.1.2⟩
    rw [e2] at this; omega
  exact ⟨l1, l2, by rw [List.count_cons_of_ne (Ne.symm hne)]; exact l3, l4, l5⟩
theorem id_live {H : HeapD} {todo : List Int} (h : JH H todo) {id : Int} {k : Nat} (hk : k < H.objs.length) (ek : slotZ H id = (k : Int)) : H.objs[k].live = true ∧ idZ (k : Int) H.objs[k].gen = id ∧ 8 ≤ id ∧ id ≤ 7999 := by
  obtain ⟨hl, h8, hn, hi, hi8⟩ := id_slot hk ek
  obtain ⟨h1, -, h3⟩ := h.objs k hk
  have g1 := (h3 hl).1.1
  have g9 := h1.1.2
  exact ⟨hl, by rw [idZ_live h8 g1 g9]; exact hi.symm, hi8, by omega⟩
/-- To gain: one count more than there is. -/
theorem jh_gain {H : HeapD} (h : JH H []) (id : Int) : JH (gainD H id) [id] := by
  unfold gainD
  by_cases hs : 0 ≤ slotZ H id
  · rw [if_pos hs]
    obtain ⟨k, hk, ek, -⟩ := slot_inv hs
    obtain ⟨hl, eid, -, -⟩ := id_live h hk ek
    obtain ⟨c1, c2⟩ := count_small h hk hl
    rw [List.length_nil] at c2
    have hw : wrap64 (H.objs[k].count + 1) = H.objs[k].count + 1 := by unfold wrap64; omega
    rw [ek, show ((k : Int)).toNat = k from by omega, incD_at hk, hw]
    obtain ⟨h1, -, h3⟩ := h.objs k hk
    obtain ⟨l1, -⟩ := h3 hl
    refine jh_turn h hk hl { H.objs[k] with count := H.objs[k].count + 1 } hl rfl rfl rfl rfl l1.2.2.1 l1.2.2.2 ?_ (by simp only; omega) (fun x hx => ?_)
    · rw [eid]; simp only [List.count_cons_self, List.count_nil]; omega
    · rw [eid] at hx; rw [List.count_cons_of_ne (Ne.symm hx)]
  · rw [if_neg hs]; exact jh_more h (by omega)
theorem cnt_set (x c : Int) : ∀ (l : List Int) (j : Nat) (hj : j < l.length), (l.set j c).count x + (if l[j] = x then 1 else 0) = l.count x + (if c = x then 1 else 0) := by
  intro l
  induction l with
  | nil => intro j hj; simp at hj
  | cons a r ih =>
    intro j hj
    cases j with
    | zero => simp only [List.set_cons_zero, List.getElem_cons_zero, List.count_cons, beq_iff_eq]; omega
    | succ j =>
      have := ih j (by simpa using hj)
      simp only [List.set_cons_succ, List.getElem_cons_succ, List.count_cons, beq_iff_eq]; omega
/-- A field is turned: what it led to waits, what it leads to waits no more. -/
theorem jh_field {H : HeapD} {c : Int} (h : JH H [c]) {k : Nat} (hk : k < H.objs.length) (hl : H.objs[k].live = true) (j : Nat) (hj : j < 3) (hc : c = -1 ∨ 0 ≤ slotZ H c) : JH (setO H k { H.objs[k] with field := H.objs[k].field.set j c }) [H.objs[k].field.getD j (-1)] := by
  obtain ⟨n1, -, n3⟩ := h.objs k hk
  have hjl : j < H.objs[k].field.length := by rw [n1.2]; exact hj
  obtain ⟨old, hold⟩ : ∃ old, H.objs[k].field[j] = old := ⟨_, rfl⟩
  rw [show H.objs[k].field.getD j (-1) = old from by rw [List.getD_eq_getElem?_getD, List.getElem?_eq_getElem hjl, hold]; rfl]
  obtain ⟨o', ho'⟩ : ∃ o', ({ H.objs[k] with field := H.objs[k].field.set j c } : ObjD) = o' := ⟨_, rfl⟩
  have ol : o'.live = true := by rw [← ho']; exact hl
  have og : o'.gen = H.objs[k].gen := by rw [← ho']
  have of : o'.field = H.objs[k].field.set j c := by rw [← ho']
  rw [ho']
  have hS : ∀ x, slotZ (setO H k o') x = slotZ H x := fun x => slotZ_set k hk o' (by rw [ol, hl]) og x
  have hI : ∀ x, inE x (setO H k o').objs + (if old = x then 1 else 0) = inE x H.objs + (if c = x then 1 else 0) := fun x => by
    have e := inE_setO x H k hk o'
    have e2 : inO x o' = (H.objs[k].field.set j c).count x := by unfold inO; rw [if_pos ol, of]
    have e3 : inO x H.objs[k] = H.objs[k].field.count x := by unfold inO; rw [if_pos hl]
    have e4 := cnt_set x c H.objs[k].field j hjl
    rw [hold] at e4
    omega
  have h1c : ∀ y x : Int, ([y] : List Int).count x = if y = x then 1 else 0 := fun y x => by simp [List.count_cons]
  refine ⟨⟨by simpa [setO] using h.size.1, h.size.2⟩, fun i hi => ?_, h.weaks, fun x hx => by rw [hS]; exact h.bufS x hx, h.bufN, h.sites⟩
  have hi2 : i < H.objs.length := by simpa [setO] using hi
  obtain ⟨m1, m2, m3⟩ := h.objs i hi2
  by_cases e : i = k
  · subst e
    have eo : (setO H i o').objs[i] = o' := by simp [setO]
    rw [eo]
    obtain ⟨l1, l2, l3, l4, l5⟩ := m3 hl
    have eh : o'.holds = H.objs[i].holds ∧ o'.roots = H.objs[i].roots ∧ o'.count = H.objs[i].count ∧ o'.site = H.objs[i].site ∧ o'.purple = H.objs[i].purple := by rw [← ho']; exact ⟨rfl, rfl, rfl, rfl, rfl⟩
    obtain ⟨e1, e2, e3, e4, e5⟩ := eh
    refine ⟨⟨by rw [og]; exact m1.1, by rw [of, List.length_set]; exact m1.2⟩, fun hd => (by rw [ol] at hd; cases hd), fun _ => ⟨⟨by rw [og]; exact l1.1, by rw [e4]; exact l1.2.1, by rw [e1]; exact l1.2.2.1, by rw [e2]; exact l1.2.2.2⟩, fun q hq => ?_, ?_, by rw [e3]; exact l4, by rw [og, e5]; exact l5⟩⟩
    · rw [hS]
      have hq2 : q < (H.objs[i].field.set j c).length := by rw [← of]; exact hq
      rw [show o'.field[q] = (H.objs[i].field.set j c)[q] from by simp only [of], List.getElem_set]
      split
      · exact hc
      · exact l2 q (by simpa using hq2)
    · rw [og, e1, e2, e3]
      have := hI (idZ (i : Int) H.objs[i].gen)
      rw [h1c] at l3 ⊢
      omega
  · have eo : (setO H k o').objs[i] = H.objs[i] := by simp [setO, List.getElem_set_ne (Ne.symm e)]
    rw [eo]
    refine ⟨m1, m2, fun hli => ?_⟩
    obtain ⟨l1, l2, l3, l4, l5⟩ := m3 hli
    refine ⟨l1, fun q hq => by rw [hS]; exact l2 q hq, ?_, l4, l5⟩
    have := hI (idZ (i : Int) H.objs[i].gen)
    rw [h1c] at l3 ⊢
    omega

end Go.Proofs.Ytjhdnachbahbmaa

namespace Go.Proofs.Ytjhdnachbahbmaa
open Go.RowKit
set_option linter.unusedVariables false
set_option maxRecDepth 100000

theorem gain_set {H : HeapD} {k : Nat} (hk : k < H.objs.length) (o1 : ObjD) (h1 : o1.live = H.objs[k].live) (h2 : o1.gen = H.objs[k].gen) (a : Int) (ek : slotZ H a = (k : Int)) : gainD (setO H k o1) a = setO H k { o1 with count := wrap64 (o1.count + 1) } := by
  have e : slotZ (setO H k o1) a = (k : Int) := by rw [slotZ_set k hk o1 h1 h2]; exact ek
  have hk2 : k < (setO H k o1).objs.length := by simpa [setO] using hk
  unfold gainD
  rw [e, if_pos (by omega), show ((k : Int)).toNat = k from by omega, incD_at hk2]
  simp [setO]
theorem gain_slotZ (H : HeapD) (x y : Int) : slotZ (gainD H x) y = slotZ H y := by
  unfold gainD
  by_cases hs : 0 ≤ slotZ H x
  · obtain ⟨k, hk, ek, -⟩ := slot_inv hs
    rw [if_pos hs, ek, show ((k : Int)).toNat = k from by omega, incD_at hk]
    exact slotZ_set k hk { H.objs[k] with count := wrap64 (H.objs[k].count + 1) } rfl rfl y
  · rw [if_neg hs]

theorem hold_right {H : HeapD} (h : OkH H) (hs : SmallH H) (hw : ∀ z ∈ H.objs, ∀ x ∈ z.field, in64 x) (kind a : Int) (ha : in64 a) : OkH (holdR H kind a).1 := by
  unfold holdR
  by_cases hz : slotZ H a < 0
  · rw [if_pos hz]; exact h
  · rw [if_neg hz]
    have hJ := jh_of_ok h
    obtain ⟨k, hk, ek, -⟩ := slot_inv (H := H) (id := a) (by omega)
    obtain ⟨hl, eid, -, -⟩ := id_live hJ hk ek
    obtain ⟨c1, c2⟩ := count_small hJ hk hl
    rw [List.length_nil] at c2
    have hwc : wrap64 (H.objs[k].count + 1) = H.objs[k].count + 1 := by unfold wrap64; omega
    obtain ⟨m1, -, m3⟩ := hJ.objs k hk
    obtain ⟨⟨g1, g2, g3, g4⟩, -⟩ := m3 hl
    have hf : H.objs[k].field.length ≤ 1048576 := by rw [m1.2]; omega
    have hwf : ∀ x ∈ H.objs[k].field, in64 x := hw _ (List.getElem_mem hk)
    have h1c : ([a] : List Int).count (idZ (k : Int) H.objs[k].gen) = 1 := by rw [eid]; simp
    have h0c : ∀ x, x ≠ idZ (k : Int) H.objs[k].gen → ([a] : List Int).count x = ([] : List Int).count x := fun x hx => by rw [eid] at hx; rw [List.count_cons_of_ne (Ne.symm hx)]
    rw [ek, show ((k : Int)).toNat = k from by omega, List.getElem?_eq_getElem hk]
    simp only
    by_cases k2 : kind = 2
    · rw [if_pos k2]
      by_cases hm : 20 ≤ H.objs[k].holds
      · rw [if_pos hm]; exact h
      · rw [if_neg hm]
        simp only
        rw [gain_set hk { H.objs[k] with holds := H.objs[k].holds + 1 } rfl rfl a ek]
        simp only
        rw [hwc]
        refine ok_of_jh (jh_turn hJ hk hl _ hl rfl rfl rfl rfl ?_ g4 ?_ ?_ (fun _ _ => rfl)) <;> simp only <;> omega
    · rw [if_neg k2]
      by_cases k5 : kind = 5
      · rw [if_pos k5]
        by_cases hm : 20 ≤ H.objs[k].roots
        · rw [if_pos hm]; exact h
        · rw [if_neg hm]
          simp only
          rw [gain_set hk { H.objs[k] with roots := H.objs[k].roots + 1 } rfl rfl a ek]
          simp only
          rw [hwc]
          refine ok_of_jh (jh_turn hJ hk hl _ hl rfl rfl rfl rfl g3 ?_ ?_ ?_ (fun _ _ => rfl)) <;> simp only <;> omega
      · rw [if_neg k5]
        by_cases k3 : kind = 3
        · rw [if_pos k3]
          by_cases hm : H.objs[k].holds < 1
          · rw [if_pos hm]; exact h
          · rw [if_neg hm]
            have hJ2 : JH (setO H k { H.objs[k] with holds := H.objs[k].holds - 1 }) [a] := by
              refine jh_turn hJ hk hl _ hl rfl rfl rfl rfl ?_ g4 ?_ c1 h0c
              · simp only; omega
              · rw [h1c]; simp only [List.count_nil]; omega
            exact (lose_right hJ2 (setO_small hs k _ hf) (setO_wf hw k _ hwf) (by simp) (fun x hx => by rw [List.mem_singleton.1 hx]; exact ha)).1
        · rw [if_neg k3]
          by_cases hm : H.objs[k].roots < 1
          · rw [if_pos hm]; exact h
          · rw [if_neg hm]
            have hJ2 : JH (setO H k { H.objs[k] with roots := H.objs[k].roots - 1 }) [a] := by
              refine jh_turn hJ hk hl _ hl rfl rfl rfl rfl g3 ?_ ?_ c1 h0c
              · simp only; omega
              · rw [h1c]; simp only [List.count_nil]; omega
            exact (lose_right hJ2 (setO_small hs k _ hf) (setO_wf hw k _ hwf) (by simp) (fun x hx => by rw [List.mem_singleton.1 hx]; exact ha)).1

theorem store_right {H : HeapD} (h : OkH H) (hs : SmallH H) (hw : ∀ z ∈ H.objs, ∀ x ∈ z.field, in64 x) (a b c : Int) (hc : in64 c) : OkH (storeR H a b c).1 := by
  unfold storeR
  by_cases hz : slotZ H a < 0 ∨ (c ≠ -1 ∧ slotZ H c < 0)
  · rw [if_pos hz]; exact h
  · rw [if_neg hz]
    by_cases hb : b < 0 ∨ 2 < b
    · rw [if_pos hb]; exact h
    · rw [if_neg hb]
      have hJ := jh_gain (jh_of_ok h) c
      obtain ⟨k, hk, ek, -⟩ := slot_inv (H := H) (id := a) (by omega)
      have hk2 : k < (gainD H c).objs.length := by rw [gain_len]; exact hk
      have ek2 : slotZ (gainD H c) a = (k : Int) := by rw [gain_slotZ]; exact ek
      obtain ⟨hl, -, -, -⟩ := id_live hJ hk2 ek2
      have hw2 := gain_wf hw c
      rw [ek, show ((k : Int)).toNat = k from by omega, List.getElem?_eq_getElem hk2]
      simp only
      have hcc : c = -1 ∨ 0 ≤ slotZ (gainD H c) c := by
        rw [gain_slotZ]
        by_cases e : c = -1
        · exact .inl e
        · exact .inr (by omega)
      obtain ⟨m1, -, -⟩ := hJ.objs k hk2
      have hJ2 := jh_field hJ hk2 hl b.toNat (by omega) hcc
      refine (lose_right hJ2 (setO_small (gainH_small hs c) k _ (by simp only [List.length_set]; rw [m1.2]; omega)) (setO_wf hw2 k _ (fun x hx => ?_)) (by simp) (fun x hx => ?_)).1
      · rcases List.mem_or_eq_of_mem_set hx with e | e
        · exact hw2 _ (List.getElem_mem hk2) x e
        · rw [e]; exact hc
      · rw [List.mem_singleton.1 hx, List.getD_eq_getElem?_getD, List.getElem?_eq_getElem (by rw [m1.2]; omega)]
        exact hw2 _ (List.getElem_mem hk2) _ (List.getElem_mem _)

theorem weak_right {H : HeapD} (h : OkH H) (j : Nat) (d : WeakD) (hd : okW d) : OkH { H with weaks := H.weaks.set j d } := by
  refine ⟨⟨h.size.1, by simpa using h.size.2.1, h.size.2.2⟩, h.objs, fun i hi => ?_, h.buffer, h.sites⟩
  show okW (H.weaks.set j d)[i]
  rw [List.getElem_set]
  split
  · exact hd
  · exact h.weaks i (by simpa using hi)

theorem inE_zero (x : Int) : ∀ (os : List ObjD), (∀ z ∈ os, z.live = true → x ∉ z.field) → inE x os = 0 := by
  intro os
  induction os with
  | nil => intro _; rfl
  | cons a r ih =>
    intro h
    have e1 := ih (fun z hz => h z (List.mem_cons_of_mem _ hz))
    have e2 : inO x a = 0 := by
      unfold inO
      split
      · rename_i hl; exact List.count_eq_zero.2 (h a (List.mem_cons_self ..) hl)
      · rfl
    unfold inE at e1 ⊢
    rw [List.map_cons, List.sum_cons, e1, e2]
theorem slot_other {H : HeapD} (k : Nat) (o : ObjD) (id : Int) (hn : (id % 8).toNat ≠ k) : slotZ (setO H k o) id = slotZ H id := by
  unfold slotZ
  have hl : (setO H k o).objs.length = H.objs.length := by simp [setO]
  have e : (setO H k o).objs[(id % 8).toNat]? = H.objs[(id % 8).toNat]? := by
    show (H.objs.set k o)[(id % 8).toNat]? = _
    rw [List.getElem?_set_ne (Ne.symm hn)]
  rw [hl, e]
/-- A new object where none is live. -/
theorem jh_new {H : HeapD} (h : JH H []) {k : Nat} (hk : k < H.objs.length) (hd : H.objs[k].live = false) (hg : H.objs[k].gen < 999) (s : Int) (hs : 0 ≤ s ∧ s ≤ (H.sites.length : Int) - 1) : JH (setO H k (madeO (H.objs[k].gen + 1) s)) [] := by
  have h8 := h.size.1
  obtain ⟨n1, -, -⟩ := h.objs k hk
  have nk : ∀ x, 0 ≤ slotZ H x → (x % 8).toNat ≠ k ∧ x ≠ -1 := fun x hx => by
    obtain ⟨j, hj, -, j8, hl, -, e, b8⟩ := slot_inv hx
    have : j ≠ k := fun e2 => by subst e2; rw [hd] at hl; cases hl
    exact ⟨by omega, by omega⟩
  have hS : ∀ x, 0 ≤ slotZ H x → slotZ (setO H k (madeO (H.objs[k].gen + 1) s)) x = slotZ H x := fun x hx => slot_other k _ x (nk x hx).1
  have hI : ∀ x, x ≠ -1 → inE x (setO H k (madeO (H.objs[k].gen + 1) s)).objs = inE x H.objs := fun x hx => by
    have e := inE_setO x H k hk (madeO (H.objs[k].gen + 1) s)
    have e1 : inO x (madeO (H.objs[k].gen + 1) s) = 0 := by
      unfold inO
      rw [if_pos (show (madeO (H.objs[k].gen + 1) s).live = true from rfl)]
      refine List.count_eq_zero.2 (fun hm => hx ?_)
      simpa [madeO] using hm
    have e2 : inO x H.objs[k] = 0 := by unfold inO; rw [hd]; rfl
    omega
  have eid : idZ (k : Int) (H.objs[k].gen + 1) = (k : Int) + 8 * (H.objs[k].gen + 1) := idZ_live (by omega) (by omega) (by omega)
  have hnew : ¬ 0 ≤ slotZ H (idZ (k : Int) (H.objs[k].gen + 1)) := fun hx => by
    have := (nk _ hx).1
    rw [eid] at this; omega
  refine ⟨⟨by simpa [setO] using h8, h.size.2⟩, fun i hi => ?_, h.weaks, fun x hx => by rw [hS x (h.bufS x hx)]; exact h.bufS x hx, h.bufN, h.sites⟩
  have hi2 : i < H.objs.length := by simpa [setO] using hi
  obtain ⟨m1, m2, m3⟩ := h.objs i hi2
  by_cases e : i = k
  · subst e
    have eo : (setO H i (madeO (H.objs[i].gen + 1) s)).objs[i] = madeO (H.objs[i].gen + 1) s := by simp [setO]
    rw [eo]
    refine ⟨⟨by show 0 ≤ H.objs[i].gen + 1 ∧ H.objs[i].gen + 1 ≤ 999; omega, rfl⟩, fun hf => (by cases hf), fun _ => ⟨⟨by show 1 ≤ H.objs[i].gen + 1; omega, hs, by show (0 : Int) ≤ 1 ∧ (1 : Int) ≤ 20; omega, by show (0 : Int) ≤ 0 ∧ (0 : Int) ≤ 20; omega⟩, fun q hq => .inl ?_, ?_, by show (1 : Int) ≤ 1; omega, ?_⟩⟩
    · have hq3 : q < 3 := hq
      match q, hq3 with
      | 0, _ => rfl
      | 1, _ => rfl
      | 2, _ => rfl
    · show (1 : Int) = 1 + 0 + (inE (idZ (i : Int) (H.objs[i].gen + 1)) (setO H i (madeO (H.objs[i].gen + 1) s)).objs : Int) + _
      rw [hI _ (by rw [eid]; omega), inE_zero]
      · simp
      · intro z hz hlz hm
        obtain ⟨q, hq, rfl⟩ := List.getElem_of_mem hz
        obtain ⟨-, -, q3⟩ := h.objs q hq
        obtain ⟨r, hr, er⟩ := List.getElem_of_mem hm
        rcases (q3 hlz).2.1 r hr with e2 | e2
        · rw [er, eid] at e2; omega
        · rw [er] at e2; exact hnew e2
    · exact ⟨fun hf => (by cases hf), fun hm => absurd (h.bufS _ hm) hnew⟩
  · have eo : (setO H k (madeO (H.objs[k].gen + 1) s)).objs[i] = H.objs[i] := by simp [setO, List.getElem_set_ne (Ne.symm e)]
    rw [eo]
    refine ⟨m1, m2, fun hli => ?_⟩
    obtain ⟨l1, l2, l3, l4, l5⟩ := m3 hli
    refine ⟨l1, fun q hq => ?_, ?_, l4, l5⟩
    · rcases l2 q hq with e2 | e2
      · exact .inl e2
      · exact .inr (by rw [hS _ e2]; exact e2)
    · rw [hI _ (by rw [idZ_live (by omega) l1.1 m1.1.2]; omega)]; exact l3

theorem idxL_lt {α : Type} [DecidableEq α] (x : α) : ∀ (zs : List α) (i : Int), idxL x zs i = -1 ∨ idxL x zs i < i + (zs.length : Int) := by
  intro zs
  induction zs with
  | nil => intro i; exact .inl rfl
  | cons y r ih =>
    intro i
    unfold idxL
    split
    · exact .inr (by simp only [List.length_cons]; omega)
    · rcases ih (i + 1) with e | e
      · exact .inl e
      · exact .inr (by simp only [List.length_cons]; omega)

theorem alloc_right {H : HeapD} (h : OkH H) (x : List UInt8) : OkH (allocR H x).1 := by
  unfold allocR
  by_cases hx : x.length < 1 ∨ 8 < x.length
  · rw [if_pos hx]; exact h
  · rw [if_neg hx]
    by_cases hf : freeZ H < 0
    · rw [if_pos hf]; exact h
    · rw [if_neg hf]
      by_cases hs : siteZ H x < 0 ∧ 6 ≤ H.sites.length
      · rw [if_pos hs]; exact h
      · rw [if_neg hs]
        obtain ⟨k, hk, ek, -, hd, hg⟩ := freeZ_yes H hf
        rw [ek, show ((k : Int)).toNat = k from by omega, List.getElem?_eq_getElem hk]
        simp only
        have hJ := jh_of_ok h
        have hmem := idxL_mem x H.sites 0 (by omega)
        unfold namedH siteN
        by_cases hn : siteZ H x < 0
        · rw [if_pos hn, if_pos hn]
          have hnm : x ∉ H.sites := fun hm => by have := hmem.2 hm; unfold siteZ at hn; omega
          have hJ2 : JH { H with sites := H.sites ++ [x] } [] := by
            refine ⟨⟨h.size.1, h.size.2.1, by simp only [List.length_append, List.length_cons, List.length_nil]; omega⟩, fun i hi => ?_, h.weaks, hJ.bufS, hJ.bufN, fun i hi => ?_⟩
            · obtain ⟨m1, m2, m3⟩ := hJ.objs i hi
              refine ⟨m1, m2, fun hl => ?_⟩
              obtain ⟨⟨g1, g2, g3, g4⟩, l2, l3, l4, l5⟩ := m3 hl
              exact ⟨⟨g1, ⟨g2.1, by simp only [List.length_append, List.length_cons, List.length_nil]; omega⟩, g3, g4⟩, l2, l3, l4, l5⟩
            · have hi' : i < H.sites.length + 1 := by simpa using hi
              by_cases e : i = H.sites.length
              · subst e
                have ei : (H.sites ++ [x])[H.sites.length] = x := by simp
                refine ⟨by show 1 ≤ (H.sites ++ [x])[H.sites.length].length ∧ (H.sites ++ [x])[H.sites.length].length ≤ 8; rw [ei]; omega, fun q hq hqi => ?_⟩
                show (H.sites ++ [x])[q] ≠ (H.sites ++ [x])[H.sites.length]
                rw [ei, List.getElem_append_left hqi]
                exact fun e2 => hnm (e2 ▸ List.getElem_mem hqi)
              · have hi3 : i < H.sites.length := by omega
                have ei : (H.sites ++ [x])[i] = H.sites[i] := List.getElem_append_left hi3
                obtain ⟨s1, s2⟩ := h.sites i hi3
                refine ⟨by show 1 ≤ (H.sites ++ [x])[i].length ∧ (H.sites ++ [x])[i].length ≤ 8; rw [ei]; exact s1, fun q hq hqi => ?_⟩
                show (H.sites ++ [x])[q] ≠ (H.sites ++ [x])[i]
                rw [ei, List.getElem_append_left (by omega)]
                exact s2 q (by omega) hqi
          exact ok_of_jh (jh_new hJ2 hk hd hg _ (by simp only [List.length_append, List.length_cons, List.length_nil]; omega))
        · rw [if_neg hn, if_neg hn]
          exact ok_of_jh (jh_new hJ hk hd hg _ ⟨by omega, by
            have := idxL_lt x H.sites 0
            unfold siteZ at hn ⊢
            omega⟩)

end Go.Proofs.Ytjhdnachbahbmaa

namespace Go.Proofs.Ytjhdnachbahbmaa
open Go.RowKit
set_option linter.unusedVariables false
set_option maxRecDepth 100000

theorem hm_cap {w : World} {B : Nat} {s : HSh} {H : HeapD} (h : HM w B s H) : CapH s.v := by
  have h1 := h.b
  have h2 := h.st
  unfold ownI at h1
  unfold ownS at h2
  rw [← h.lb] at h1
  rw [← h.ls] at h2
  exact ⟨_, _, _, _, _, _, _, _, _, _, _, _, rfl, h.co, h.cw, row_cap h1, row_cap h2⟩

/-- Five cells of an operation in a block of their own. -/
def Five (X : World) (g : Nat) (o : OpD) : Prop := X.heap[g]? = some (.cells #[.int .i64 o.kind, .int .i64 o.a, .int .i64 o.b, .int .i64 o.c, .string (txt o.site)] 25 (0, 0))
theorem Five.cell {X : World} {g : Nat} {o : OpD} (h : Five X g o) (k : Nat) : X.cell? ⟨g, k, none⟩ = (#[.int .i64 o.kind, .int .i64 o.a, .int .i64 o.b, .int .i64 o.c, .string (txt o.site)] : Array Value)[k]? := by
  have h' : X.heap[g]? = some (.cells #[.int .i64 o.kind, .int .i64 o.a, .int .i64 o.b, .int .i64 o.c, .string (txt o.site)] 25 (0, 0)) := h
  simp [World.cell?, h']
theorem Five.cells {X : World} {g : Nat} {o : OpD} (h : Five X g o) : X.cell? ⟨g, 0, none⟩ = some (.int .i64 o.kind) ∧ X.cell? ⟨g, 1, none⟩ = some (.int .i64 o.a) ∧ X.cell? ⟨g, 2, none⟩ = some (.int .i64 o.b) ∧ X.cell? ⟨g, 3, none⟩ = some (.int .i64 o.c) ∧ X.cell? ⟨g, 4, none⟩ = some (.string (txt o.site)) :=
  ⟨h.cell 0, h.cell 1, h.cell 2, h.cell 3, h.cell 4⟩
theorem Five.lt {X : World} {g : Nat} {o : OpD} (h : Five X g o) : g < X.heap.size := (Array.getElem?_eq_some_iff.1 h).1
theorem Five.later {X Y : World} {g : Nat} {o : OpD} (h : Five X g o) (hb : Below X.heap.size X Y) : Five Y g o := (hb.block g h.lt).trans h
theorem Five.same {X Y : World} {g : Nat} {o : OpD} (h : Five X g o) (hs : Y.heap[g]? = X.heap[g]?) : Five Y g o := hs.trans h
theorem Five.new (X : World) (o : OpD) : Five (X.alloc (.cells #[.int .i64 o.kind, .int .i64 o.a, .int .i64 o.b, .int .i64 o.c, .string (txt o.site)] 25)) X.heap.size o := heap_alloc_new X _
theorem Four.cells {X : World} {g : Nat} {x0 x1 x2 x3 : Value} (h : Four X g x0 x1 x2 x3) : X.cell? ⟨g, 0, none⟩ = some x0 ∧ X.cell? ⟨g, 1, none⟩ = some x1 ∧ X.cell? ⟨g, 2, none⟩ = some x2 ∧ X.cell? ⟨g, 3, none⟩ = some x3 := ⟨h.cell 0, h.cell 1, h.cell 2, h.cell 3⟩
theorem Four.frees {X : World} {g : Nat} {x0 x1 x2 x3 : Value} (h : Four X g x0 x1 x2 x3) : X.frozen? ⟨g, 0, none⟩ = false ∧ X.frozen? ⟨g, 1, none⟩ = false ∧ X.frozen? ⟨g, 2, none⟩ = false ∧ X.frozen? ⟨g, 3, none⟩ = false := ⟨h.frozen 0, h.frozen 1, h.frozen 2, h.frozen 3⟩
theorem Three.cells {X : World} {g : Nat} {x0 x1 x2 : Value} (h : Three X g x0 x1 x2) : X.cell? ⟨g, 0, none⟩ = some x0 ∧ X.cell? ⟨g, 1, none⟩ = some x1 ∧ X.cell? ⟨g, 2, none⟩ = some x2 := ⟨h.cell 0, h.cell 1, h.cell 2⟩
theorem Three.frees {X : World} {g : Nat} {x0 x1 x2 : Value} (h : Three X g x0 x1 x2) : X.frozen? ⟨g, 0, none⟩ = false ∧ X.frozen? ⟨g, 1, none⟩ = false ∧ X.frozen? ⟨g, 2, none⟩ = false := ⟨h.frozen 0, h.frozen 1, h.frozen 2⟩
theorem Three.same {X Y : World} {g : Nat} {x0 x1 x2 : Value} (h : Three X g x0 x1 x2) (hs : Y.heap[g]? = X.heap[g]?) : Three Y g x0 x1 x2 := hs.trans h
/-- Three cells of a block are written. -/
def setThree (X : World) (g : Nat) (y0 y1 y2 : Value) : World := ((X.setCell ⟨g, 0, none⟩ y0).setCell ⟨g, 1, none⟩ y1).setCell ⟨g, 2, none⟩ y2
theorem setThree_size (X : World) (g : Nat) (y0 y1 y2 : Value) : (setThree X g y0 y1 y2).heap.size = X.heap.size := by unfold setThree; simp [World.setCell]
theorem setThree_other (X : World) (g : Nat) (y0 y1 y2 : Value) (i : Nat) (h : i ≠ g) : (setThree X g y0 y1 y2).heap[i]? = X.heap[i]? := by
  unfold setThree
  iterate 3 rw [heap_setCell_other _ _ _ _ (by exact h)]

/-- What a helper of the specification enters with: the heap's box, the operation's, the two results'. -/
theorem entry4 (w : World) (x0 x1 x2 x3 : Value) (o : OpD) : ∃ W, W = (((w.alloc (.cells #[x0, x1, x2, x3] 33)).alloc (.cells #[.int .i64 o.kind, .int .i64 o.a, .int .i64 o.b, .int .i64 o.c, .string (txt o.site)] 25)).alloc (.cells #[.slice none 0 0, .slice none 0 0, .slice none 0 0, .slice none 0 0] 33)).alloc (.cells #[.int .i64 0, .int .i64 0, .slice none 0 0] 38) ∧
    Below w.heap.size w W ∧ W.heap.size = w.heap.size + 4 ∧ Four W w.heap.size x0 x1 x2 x3 ∧ Five W (w.heap.size + 1) o ∧ Four W (w.heap.size + 2) (.slice none 0 0) (.slice none 0 0) (.slice none 0 0) (.slice none 0 0) ∧ Three W (w.heap.size + 3) (.int .i64 0) (.int .i64 0) (.slice none 0 0) := by
  obtain ⟨w1, h1⟩ : ∃ w1, w1 = w.alloc (.cells #[x0, x1, x2, x3] 33) := ⟨_, rfl⟩
  obtain ⟨w2, h2⟩ : ∃ w2, w2 = w1.alloc (.cells #[.int .i64 o.kind, .int .i64 o.a, .int .i64 o.b, .int .i64 o.c, .string (txt o.site)] 25) := ⟨_, rfl⟩
  obtain ⟨w3, h3⟩ : ∃ w3, w3 = w2.alloc (.cells #[.slice none 0 0, .slice none 0 0, .slice none 0 0, .slice none 0 0] 33) := ⟨_, rfl⟩
  obtain ⟨w4, h4⟩ : ∃ w4, w4 = w3.alloc (.cells #[.int .i64 0, .int .i64 0, .slice none 0 0] 38) := ⟨_, rfl⟩
  have b1 : Below w.heap.size w w1 := by rw [h1]; exact (Below.refl _ _).alloc (Nat.le_refl _) _
  have b2 : Below w1.heap.size w1 w2 := by rw [h2]; exact (Below.refl _ _).alloc (Nat.le_refl _) _
  have b3 : Below w2.heap.size w2 w3 := by rw [h3]; exact (Below.refl _ _).alloc (Nat.le_refl _) _
  have b4 : Below w3.heap.size w3 w4 := by rw [h4]; exact (Below.refl _ _).alloc (Nat.le_refl _) _
  have s1 : w1.heap.size = w.heap.size + 1 := by rw [h1]; simp
  have s2 : w2.heap.size = w.heap.size + 2 := by rw [h2]; simp [s1]
  have s3 : w3.heap.size = w.heap.size + 3 := by rw [h3]; simp [s2]
  have s4 : w4.heap.size = w.heap.size + 4 := by rw [h4]; simp [s3]
  have f1 : Four w1 w.heap.size x0 x1 x2 x3 := by rw [h1]; exact Four.new _ _ _ _ _
  have f2 : Five w2 (w.heap.size + 1) o := by rw [← s1, h2]; exact Five.new _ _
  have f3 : Four w3 (w.heap.size + 2) (.slice none 0 0) (.slice none 0 0) (.slice none 0 0) (.slice none 0 0) := by rw [← s2, h3]; exact Four.new _ _ _ _ _
  have f4 : Three w4 (w.heap.size + 3) (.int .i64 0) (.int .i64 0) (.slice none 0 0) := by rw [← s3, h4]; exact Three.new _ _ _ _
  refine ⟨w4, by rw [h4, h3, h2, h1], ?_, s4, ((f1.later b2).later b3).later b4, (f2.later b3).later b4, f3.later b4, f4⟩
  exact ((b1.trans (b2.mono (by omega))).trans (b3.mono (by omega))).trans (b4.mono (by omega))
/-- What a method on an operation enters with: the operation's box, the answer's. -/
theorem entry2 (w : World) (o : OpD) : ∃ W, W = (w.alloc (.cells #[.int .i64 o.kind, .int .i64 o.a, .int .i64 o.b, .int .i64 o.c, .string (txt o.site)] 25)).alloc (.cells #[.int .i64 0, .int .i64 0, .slice none 0 0] 38) ∧
    Below w.heap.size w W ∧ W.heap.size = w.heap.size + 2 ∧ Five W w.heap.size o ∧ Three W (w.heap.size + 1) (.int .i64 0) (.int .i64 0) (.slice none 0 0) := by
  obtain ⟨w1, h1⟩ : ∃ w1, w1 = w.alloc (.cells #[.int .i64 o.kind, .int .i64 o.a, .int .i64 o.b, .int .i64 o.c, .string (txt o.site)] 25) := ⟨_, rfl⟩
  obtain ⟨w2, h2⟩ : ∃ w2, w2 = w1.alloc (.cells #[.int .i64 0, .int .i64 0, .slice none 0 0] 38) := ⟨_, rfl⟩
  have b1 : Below w.heap.size w w1 := by rw [h1]; exact (Below.refl _ _).alloc (Nat.le_refl _) _
  have b2 : Below w1.heap.size w1 w2 := by rw [h2]; exact (Below.refl _ _).alloc (Nat.le_refl _) _
  have s1 : w1.heap.size = w.heap.size + 1 := by rw [h1]; simp
  have s2 : w2.heap.size = w.heap.size + 2 := by rw [h2]; simp [s1]
  have f1 : Five w1 w.heap.size o := by rw [h1]; exact Five.new _ _
  have f2 : Three w2 (w.heap.size + 1) (.int .i64 0) (.int .i64 0) (.slice none 0 0) := by rw [← s1, h2]; exact Three.new _ _ _ _
  exact ⟨w2, by rw [h2, h1], b1.trans (b2.mono (by omega)), s2, f1.later b2, f2⟩

/-- What a helper of the specification leaves. -/
def SpecPost (w : World) (B : Nat) (R : HeapD × AnsD) (e : Ending) (w' : World) : Prop := ∃ (s : HSh) (vf : Value), e = .returned (.tuple #[s.v, ansV R.2.code R.2.val vf]) ∧ HM w' B s R.1 ∧ ownI w' B vf R.2.freed ∧ (∀ g, vf.ownBlock = some g → ¬ HasB s g) ∧ Below B w w'
theorem hm_no {w : World} {B : Nat} {s : HSh} {H : HeapD} (h : HM w B s H) {g : Nat} (hg : g < B ∨ w.heap.size ≤ g) : ¬ HasB s g := fun hh => by have := hm_bl h hh; omega
theorem spec_end {w wr : World} {n B : Nat} {s : HSh} {H : HeapD} {vf : Value} {fr : List Int} {c v : Int} (hb : Below B w wr) (m : HM wr B s H) (f : ownI wr B vf fr) (d : ∀ g, vf.ownBlock = some g → ¬ HasB s g) (hn : B ≤ n) (h2 : ¬ HasB s n) (h3 : ¬ HasB s (n + 1)) (f2 : vf.ownBlock ≠ some n) (f3 : vf.ownBlock ≠ some (n + 1)) (y0 y1 y2 y3 z0 z1 z2 : Value) :
    SpecPost w B (H, ⟨c, v, fr⟩) (.returned (.tuple #[s.v, ansV c v vf])) (setThree (setFour wr n y0 y1 y2 y3) (n + 1) z0 z1 z2) := by
  have oth : ∀ g, g ≠ n → g ≠ n + 1 → (setThree (setFour wr n y0 y1 y2 y3) (n + 1) z0 z1 z2).heap[g]? = wr.heap[g]? := fun g e1 e2 => (setThree_other _ _ _ _ _ g e2).trans (setFour_other _ _ _ _ _ _ g e1)
  refine ⟨s, vf, rfl, hm_same m (by rw [setThree_size, setFour_size]; exact Nat.le_refl _) (fun g hg => oth g (fun e => h2 (by rw [← e]; exact hg)) (fun e => h3 (by rw [← e]; exact hg))), ownI_same f (fun g hg => oth g (fun e => f2 (by rw [← e]; exact hg)) (fun e => f3 (by rw [← e]; exact hg))), d, ?_⟩
  unfold setThree setFour
  iterate 7 refine Below.setCell ?_ (by simp only; omega) _
  exact hb
/-- Nothing is freed. -/
theorem spec_end0 {w wr : World} {n B : Nat} {s : HSh} {H : HeapD} {c v : Int} (hb : Below B w wr) (m : HM wr B s H) (hn : B ≤ n) (h2 : ¬ HasB s n) (h3 : ¬ HasB s (n + 1)) (y0 y1 y2 y3 z0 z1 z2 : Value) :
    SpecPost w B (H, ⟨c, v, []⟩) (.returned (.tuple #[s.v, ansV c v (.slice none 0 0)])) (setThree (setFour wr n y0 y1 y2 y3) (n + 1) z0 z1 z2) :=
  spec_end hb m (ownI_nil _ _) (fun g hg => by simp [Value.ownBlock] at hg) hn h2 h3 (by simp [Value.ownBlock]) (by simp [Value.ownBlock]) _ _ _ _ _ _ _

/-- What an operation of the specification ends with where nothing is freed. -/
def EndS (w : World) (B : Nat) (s : HSh) : Prop := ∀ X H2 c v y0 y1 y2 y3 z0 z1 z2, Below B w X → HM X B s H2 → SpecPost w B (H2, ⟨c, v, []⟩) (.returned (.tuple #[.agg #[.slice s.oa s.os.length s.oc, .slice s.wa s.wn s.wc, .slice s.ba s.bn s.bc, .slice s.sa s.sn s.sc], ansV c v (.slice none 0 0)])) (setThree (setFour X (w.heap.size + 1 + 1) y0 y1 y2 y3) (w.heap.size + 1 + 1 + 1) z0 z1 z2)
theorem endS {w : World} {B : Nat} {s : HSh} (hB : B ≤ w.heap.size + 1 + 1) (n2 : ¬ HasB s (w.heap.size + 1 + 1)) (n3 : ¬ HasB s (w.heap.size + 1 + 1 + 1)) : EndS w B s :=
  fun X H2 c v y0 y1 y2 y3 z0 z1 z2 h1 h2 => spec_end0 h1 h2 hB n2 n3 y0 y1 y2 y3 z0 z1 z2

theorem hm_holds {w : World} {B : Nat} {s : HSh} {H : HeapD} (h : HM w B s H) (k : Nat) (hk : k < H.objs.length) (g : Nat) (hg : s.oa = some ⟨g, 0, none⟩) (z : Int) : HM (w.setCell ⟨g, k * 8 + 3, none⟩ (.int .i64 z)) B s (setO H k { H.objs[k] with holds := z }) :=
  hm_cell h k hk g hg 3 (.int .i64 z) (by omega) _ rfl (fun f ho =>
    ⟨by rw [cell_far _ _ _ _ _ (by omega)]; exact ho.c0, by rw [cell_far _ _ _ _ _ (by omega)]; exact ho.c1, by rw [cell_far _ _ _ _ _ (by omega)]; exact ho.c2, World.cell?_setCell_same w _ _ ho.c3, by rw [cell_far _ _ _ _ _ (by omega)]; exact ho.c4,
     by rw [cell_far _ _ _ _ _ (by omega)]; exact ho.c5, by rw [cell_far _ _ _ _ _ (by omega)]; exact ho.c6, by rw [cell_far _ _ _ _ _ (by omega)]; exact ho.c7⟩)
theorem hm_roots {w : World} {B : Nat} {s : HSh} {H : HeapD} (h : HM w B s H) (k : Nat) (hk : k < H.objs.length) (g : Nat) (hg : s.oa = some ⟨g, 0, none⟩) (z : Int) : HM (w.setCell ⟨g, k * 8 + 4, none⟩ (.int .i64 z)) B s (setO H k { H.objs[k] with roots := z }) :=
  hm_cell h k hk g hg 4 (.int .i64 z) (by omega) _ rfl (fun f ho =>
    ⟨by rw [cell_far _ _ _ _ _ (by omega)]; exact ho.c0, by rw [cell_far _ _ _ _ _ (by omega)]; exact ho.c1, by rw [cell_far _ _ _ _ _ (by omega)]; exact ho.c2, by rw [cell_far _ _ _ _ _ (by omega)]; exact ho.c3, World.cell?_setCell_same w _ _ ho.c4,
     by rw [cell_far _ _ _ _ _ (by omega)]; exact ho.c5, by rw [cell_far _ _ _ _ _ (by omega)]; exact ho.c6, by rw [cell_far _ _ _ _ _ (by omega)]; exact ho.c7⟩)

/-- One handle is turned. -/
theorem hm_weak {w : World} {B : Nat} {s : HSh} {H : HeapD} (h : HM w B s H) (k : Nat) (hk : k < H.weaks.length) (g : Nat) (hg : s.wa = some ⟨g, 0, none⟩) (d : WeakD) : HM (setWeak w g (k * 2) d) B s { H with weaks := H.weaks.set k d } := by
  have hp := h.sep
  have oth : ∀ x, HasB s x → x ≠ g → (setWeak w g (k * 2) d).heap[x]? = w.heap[x]? := fun x _ hx => by
    unfold setWeak
    iterate 2 rw [heap_setCell_other _ _ _ _ (by exact hx)]
  obtain ⟨g0, e0, hw0, hf0⟩ := h.wk k hk
  rw [hg] at e0; injection e0 with e0; injection e0 with e0 _ _; subst e0
  exact {
    lo := h.lo
    lw := by simp [h.lw]
    lb := h.lb
    ls := h.ls
    o := fun i hi hi2 => by
      obtain ⟨g2, h1, h2, h3⟩ := h.o i hi hi2
      have hb := oth g2 (.inl ⟨_, h1, rfl⟩) (fun e => hp.ow _ _ h1 hg (by simp only; exact e))
      exact ⟨g2, h1, objAt_same h2 hb, fun k hk => (World.frozen?_of_block (a := ⟨g2, i * 8 + k, none⟩) hb).trans (h3 k hk)⟩
    f := fun i hi hi2 => ⟨(h.f i hi hi2).1, ownI_same (h.f i hi hi2).2 (fun x hx => by
      obtain ⟨y, hy, e⟩ := own_some hx
      exact oth x (.inr (.inr (.inr (.inr ⟨_, List.getElem_mem hi2, y, hy, e⟩)))) (fun e2 => hp.fw _ (List.getElem_mem hi2) _ y hg hy (by simp only; rw [e, e2])))⟩
    og := fun x hx => ⟨(h.og x hx).1, by unfold setWeak; simp only [World.setCell, Array.size_modify]; exact (h.og x hx).2⟩
    wk := fun i hi => by
      simp only [List.length_set] at hi
      obtain ⟨g2, h1, h2, h3⟩ := h.wk i hi
      rw [hg] at h1; injection h1 with h1; injection h1 with h1 _ _; subst h1
      refine ⟨g, hg, ?_, fun q hq => by unfold setWeak; rw [World.frozen?_setCell, World.frozen?_setCell]; exact h3 q hq⟩
      by_cases e : k = i
      · subst e
        simp only [List.getElem_set_self]
        unfold setWeak
        exact ⟨by rw [cell_far _ _ _ _ _ (by omega)]; exact World.cell?_setCell_same w _ _ hw0.c0, World.cell?_setCell_same _ _ _ (by rw [cell_far _ _ _ _ _ (by omega)]; exact hw0.c1)⟩
      · simp only [List.getElem_set_ne e]
        unfold setWeak
        exact ⟨by rw [cell_far _ _ _ _ _ (by omega), cell_far _ _ _ _ _ (by omega)]; exact h2.c0, by rw [cell_far _ _ _ _ _ (by omega), cell_far _ _ _ _ _ (by omega)]; exact h2.c1⟩
    wg := fun x hx => ⟨(h.wg x hx).1, by unfold setWeak; simp only [World.setCell, Array.size_modify]; exact (h.wg x hx).2⟩
    b := ownI_same h.b (fun x hx => by
      obtain ⟨y, hy, e⟩ := own_some hx
      exact oth x (.inr (.inr (.inl ⟨y, hy, e⟩))) (fun e2 => hp.wb _ y hg hy (by simp only; rw [e, e2])))
    st := ownS_same h.st (fun x hx => by
      obtain ⟨y, hy, e⟩ := own_some hx
      exact oth x (.inr (.inr (.inr (.inl ⟨y, hy, e⟩)))) (fun e2 => hp.ws _ y hg hy (by simp only; rw [e, e2])))
    sep := hp
    co := h.co
    cw := h.cw }

/-- One place of one object's fields is turned. -/
theorem hm_field {w : World} {B : Nat} {s : HSh} {H : HeapD} (h : HM w B s H) (k : Nat) (hk : k < H.objs.length) (hk2 : k < s.os.length) (g : Nat) (hg : s.os[k].f = some ⟨g, 0, none⟩) (j : Nat) (z : Int) (o' : ObjD) (ho : o' = { H.objs[k] with field := H.objs[k].field.set j z }) : HM (w.setCell ⟨g, j, none⟩ (.int .i64 z)) B s (setO H k o') := by
  subst ho
  have hp := h.sep
  have hm := List.getElem_mem hk2
  have oth : ∀ x, x ≠ g → (w.setCell ⟨g, j, none⟩ (.int .i64 z)).heap[x]? = w.heap[x]? := fun x hx => heap_setCell_other _ _ _ _ (by exact hx)
  exact {
    lo := by simp [h.lo, setO]
    lw := h.lw
    lb := h.lb
    ls := h.ls
    o := fun i hi hi2 => by
      have hi3 : i < H.objs.length := by simpa [setO] using hi
      obtain ⟨g2, h1, h2, h3⟩ := h.o i hi3 hi2
      have hb := oth g2 (fun e => hp.fo _ hm _ _ h1 hg (by simp only; exact e))
      refine ⟨g2, h1, ?_, fun q hq => (World.frozen?_of_block (a := ⟨g2, i * 8 + q, none⟩) hb).trans (h3 q hq)⟩
      have h4 := objAt_same h2 hb
      by_cases e : k = i
      · subst e
        simp only [setO, List.getElem_set_self]
        exact ⟨h4.c0, h4.c1, h4.c2, h4.c3, h4.c4, h4.c5, h4.c6, h4.c7⟩
      · simp only [setO, List.getElem_set_ne e]
        exact h4
    f := fun i hi hi2 => by
      have hi3 : i < H.objs.length := by simpa [setO] using hi
      obtain ⟨h1, h2⟩ := h.f i hi3 hi2
      by_cases e : k = i
      · subst e
        simp only [setO, List.getElem_set_self, List.length_set]
        refine ⟨h1, ?_⟩
        rw [hg] at h2 ⊢
        exact ownI_set h2 h1 j z
      · simp only [setO, List.getElem_set_ne e]
        refine ⟨h1, ownI_same h2 (fun x hx => oth x (fun e2 => ?_))⟩
        obtain ⟨y, hy, e3⟩ := own_some hx
        rcases Nat.lt_or_gt_of_ne e with hl | hl
        · exact (List.pairwise_iff_getElem.1 hp.ff) k i hk2 hi2 hl _ y hg hy (by simp only; rw [e3, e2])
        · exact (List.pairwise_iff_getElem.1 hp.ff) i k hi2 hk2 hl y _ hy hg (by simp only; rw [e3, e2])
    og := fun x hx => ⟨(h.og x hx).1, by simp only [World.setCell, Array.size_modify]; exact (h.og x hx).2⟩
    wk := fun i hi => by
      obtain ⟨g2, h1, h2, h3⟩ := h.wk i hi
      have hb := oth g2 (fun e => hp.fw _ hm _ _ h1 hg (by simp only; exact e))
      exact ⟨g2, h1, h2.keep (fun q => World.cell?_of_block (a := ⟨g2, q, none⟩) hb), fun q hq => (World.frozen?_of_block (a := ⟨g2, i * 2 + q, none⟩) hb).trans (h3 q hq)⟩
    wg := fun x hx => ⟨(h.wg x hx).1, by simp only [World.setCell, Array.size_modify]; exact (h.wg x hx).2⟩
    b := ownI_same h.b (fun x hx => by
      obtain ⟨y, hy, e⟩ := own_some hx
      exact oth x (fun e2 => hp.fb _ hm y _ hy hg (by simp only; rw [e, e2])))
    st := ownS_same h.st (fun x hx => by
      obtain ⟨y, hy, e⟩ := own_some hx
      exact oth x (fun e2 => hp.fs _ hm y _ hy hg (by simp only; rw [e, e2])))
    sep := hp
    co := h.co
    cw := h.cw }

/-- The heap has a row in the block, other than the names. -/
def HasN (s : HSh) (g : Nat) : Prop := (∃ x, s.oa = some x ∧ x.block = g) ∨ (∃ x, s.wa = some x ∧ x.block = g) ∨ (∃ x, s.ba = some x ∧ x.block = g) ∨ ∃ t ∈ s.os, ∃ x, t.f = some x ∧ x.block = g
theorem HasN.has {s : HSh} {g : Nat} (h : HasN s g) : HasB s g := by
  rcases h with h | h | h | h
  · exact .inl h
  · exact .inr (.inl h)
  · exact .inr (.inr (.inl h))
  · exact .inr (.inr (.inr (.inr h)))
theorem hasB_names {s : HSh} {sa : Option Addr} {sn sc g : Nat} (h : HasB { s with sa := sa, sn := sn, sc := sc } g) : HasN s g ∨ ∃ x, sa = some x ∧ x.block = g := by
  rcases h with h | h | h | h | h
  · exact .inl (.inl h)
  · exact .inl (.inr (.inl h))
  · exact .inl (.inr (.inr (.inl h)))
  · exact .inr h
  · exact .inl (.inr (.inr (.inr h)))
/-- The names' row lies in no other's block. -/
theorem hm_ndif {w : World} {B : Nat} {s : HSh} {H : HeapD} (h : HM w B s H) {g : Nat} (hg : HasN s g) (x : Addr) (hx : s.sa = some x) : x.block ≠ g := by
  have hp := h.sep
  rcases hg with ⟨y, hy, rfl⟩ | ⟨y, hy, rfl⟩ | ⟨y, hy, rfl⟩ | ⟨t, ht, y, hy, rfl⟩
  · exact hp.os.symm x y hx hy
  · exact hp.ws.symm x y hx hy
  · exact hp.bs.symm x y hx hy
  · exact hp.fs t ht x y hx hy
/-- The names are others. -/
theorem hm_names {w w' : World} {B : Nat} {s : HSh} {H : HeapD} (h : HM w B s H) (hsz : w.heap.size ≤ w'.heap.size) (hs : ∀ g, HasN s g → w'.heap[g]? = w.heap[g]?) (sa : Option Addr) (sn sc : Nat) (Z : List (List UInt8)) (hn : sn = Z.length) (hb : ownS w' B (.slice sa sn sc) Z) (hd : ∀ x, sa = some x → ¬ HasN s x.block) :
    HM w' B { s with sa := sa, sn := sn, sc := sc } { H with sites := Z } where
  lo := h.lo
  lw := h.lw
  lb := h.lb
  ls := hn
  o := fun j hj hj2 => by
    obtain ⟨g, h1, h2, h3⟩ := h.o j hj hj2
    have hg := hs g (.inl ⟨_, h1, rfl⟩)
    exact ⟨g, h1, objAt_same h2 hg, fun k hk => (World.frozen?_of_block (a := ⟨g, j * 8 + k, none⟩) hg).trans (h3 k hk)⟩
  f := fun j hj hj2 => ⟨(h.f j hj hj2).1, ownI_same (h.f j hj hj2).2 (fun g hg => by obtain ⟨x, hx, e⟩ := own_some hg; exact hs g (.inr (.inr (.inr ⟨_, List.getElem_mem hj2, x, hx, e⟩))))⟩
  og := fun x hx => ⟨(h.og x hx).1, Nat.lt_of_lt_of_le (h.og x hx).2 hsz⟩
  wk := fun j hj => by
    obtain ⟨g, h1, h2, h3⟩ := h.wk j hj
    have hg := hs g (.inr (.inl ⟨_, h1, rfl⟩))
    exact ⟨g, h1, h2.keep (fun k => World.cell?_of_block (a := ⟨g, k, none⟩) hg), fun k hk => (World.frozen?_of_block (a := ⟨g, j * 2 + k, none⟩) hg).trans (h3 k hk)⟩
  wg := fun x hx => ⟨(h.wg x hx).1, Nat.lt_of_lt_of_le (h.wg x hx).2 hsz⟩
  b := ownI_same h.b (fun g hg => by obtain ⟨x, hx, e⟩ := own_some hg; exact hs g (.inr (.inr (.inl ⟨x, hx, e⟩))))
  st := hb
  sep := ⟨h.sep.ow, h.sep.ob, fun x y hx hy e => hd y hy (.inl ⟨x, hx, e⟩), h.sep.wb, fun x y hx hy e => hd y hy (.inr (.inl ⟨x, hx, e⟩)), fun x y hx hy e => hd y hy (.inr (.inr (.inl ⟨x, hx, e⟩))), h.sep.fo, h.sep.fw, h.sep.fb, fun t ht x y hx hy e => hd x hx (.inr (.inr (.inr ⟨t, ht, y, hy, e.symm⟩))), h.sep.ff⟩
  co := h.co
  cw := h.cw

/-- The heap in the variable is another, of memory that is new; a list is freed beside it. -/
theorem ls_swap {W wr w1 : World} {B gx : Nat} {s s1 : HSh} {H H1 : HeapD} {vq vf vf1 : Value} {todo fr fr1 : List Int} (h : LS W wr B gx s H vq vf todo fr) (b1 : Below wr.heap.size wr w1) (m1 : HM w1 wr.heap.size s1 H1) (f1 : ownI w1 wr.heap.size vf1 fr1) (d1 : ∀ g, vf1.ownBlock = some g → ¬ HasB s1 g) :
    LS W (setFour w1 gx (.slice s1.oa s1.os.length s1.oc) (.slice s1.wa s1.wn s1.wc) (.slice s1.ba s1.bn s1.bc) (.slice s1.sa s1.sn s1.sc)) B gx s1 H1 (.slice none 0 0) vf1 [] fr1 := by
  have hl := h.x.lt
  have hx1 := h.x.later b1
  have nx : ¬ HasB s1 gx := hm_no m1 (.inl hl)
  have nf : vf1.ownBlock ≠ some gx := fun e => by have := (ownI_lt f1 gx e).1; omega
  refine ⟨?_, h.hB, ?_, Four.setAll hx1 _ _ _ _, h.gB, nx, .inl ⟨rfl, rfl⟩, ?_, fun g hg => by simp [Value.ownBlock] at hg, d1, fun g hg => by simp [Value.ownBlock] at hg⟩
  · unfold setFour
    iterate 4 refine Below.setCell ?_ (by simp only; exact h.gB) _
    exact h.bel.trans (b1.mono h.le)
  · exact hm_mono (hm_same m1 (by rw [setFour_size]; exact Nat.le_refl _) (fun g hg => setFour_other _ _ _ _ _ _ g (fun e => nx (by rw [← e]; exact hg)))) h.le
  · exact ownI_mono (ownI_same f1 (fun g hg => setFour_other _ _ _ _ _ _ g (fun e => nf (by rw [← e]; exact hg)))) h.le
/-- A cell that is neither the heap's nor the variable's nor a list's is written: a box of one's own. -/
theorem ls_far {W wr : World} {B gx : Nat} {s : HSh} {H : HeapD} {vq vf : Value} {todo fr : List Int} (h : LS W wr B gx s H vq vf todo fr) (n j : Nat) (u : Value) (hn : B ≤ n) (h1 : ¬ HasB s n) (h2 : n ≠ gx) (h3 : vq.ownBlock ≠ some n) (h4 : vf.ownBlock ≠ some n) : LS W (wr.setCell ⟨n, j, none⟩ u) B gx s H vq vf todo fr := by
  have oth : ∀ g, g ≠ n → (wr.setCell ⟨n, j, none⟩ u).heap[g]? = wr.heap[g]? := fun g hg => heap_setCell_other _ _ _ _ (by exact hg)
  exact ⟨h.bel.setCell (by exact hn) _, h.hB, hm_same h.m (by simp [World.setCell]) (fun g hg => oth g (fun e => h1 (by rw [← e]; exact hg))), h.x.same (oth gx h2.symm), h.gB, h.sx, ownQ_same h.q (fun g hg => oth g (fun e => h3 (by rw [← e]; exact hg))), ownI_same h.f (fun g hg => oth g (fun e => h4 (by rw [← e]; exact hg))), h.sq, h.sf, h.qf⟩
theorem ls_far3 {W wr : World} {B gx : Nat} {s : HSh} {H : HeapD} {vq vf : Value} {todo fr : List Int} (h : LS W wr B gx s H vq vf todo fr) (n : Nat) (y0 y1 y2 : Value) (hn : B ≤ n) (h1 : ¬ HasB s n) (h2 : n ≠ gx) (h3 : vq.ownBlock ≠ some n) (h4 : vf.ownBlock ≠ some n) : LS W (setThree wr n y0 y1 y2) B gx s H vq vf todo fr :=
  ls_far (ls_far (ls_far h n 0 y0 hn h1 h2 h3 h4) n 1 y1 hn h1 h2 h3 h4) n 2 y2 hn h1 h2 h3 h4

/-- Holds or roots of the object in slot k: field fo, its number c, the object with another. -/
structure TimesOf (H : HeapD) (k fo : Nat) (c : Int) (st : Int → ObjD) : Prop where
  cell : ∀ X B s go, HM X B s H → s.oa = some ⟨go, 0, none⟩ → X.cell? ⟨go, k * 8 + fo, none⟩ = some (.int .i64 c) ∧ X.frozen? ⟨go, k * 8 + fo, none⟩ = false
  set : ∀ X B s go M, HM X B s H → s.oa = some ⟨go, 0, none⟩ → HM (X.setCell ⟨go, k * 8 + fo, none⟩ (.int .i64 M)) B s (setO H k (st M))
  small : SmallH H → ∀ M, SmallH (setO H k (st M))
  wf : (∀ z ∈ H.objs, ∀ x ∈ z.field, in64 x) → ∀ M, ∀ z ∈ (setO H k (st M)).objs, ∀ x ∈ z.field, in64 x
theorem times_holds (H : HeapD) (k : Nat) (hk : k < H.objs.length) : TimesOf H k 3 H.objs[k].holds (fun M => { H.objs[k] with holds := M }) :=
  ⟨fun X B s go h hg => by
    obtain ⟨_, hob, hfz⟩ := hm_obj h k hk go hg
    exact ⟨hob.c3, hfz 3 (by omega)⟩, fun X B s go M h hg => hm_holds h k hk go hg M,
   fun hs M => setO_small hs k _ (show H.objs[k].field.length ≤ _ from hs.fields _ (List.getElem_mem hk)), fun hw M => setO_wf hw k _ (show ∀ x ∈ H.objs[k].field, in64 x from hw _ (List.getElem_mem hk))⟩
theorem times_roots (H : HeapD) (k : Nat) (hk : k < H.objs.length) : TimesOf H k 4 H.objs[k].roots (fun M => { H.objs[k] with roots := M }) :=
  ⟨fun X B s go h hg => by
    obtain ⟨_, hob, hfz⟩ := hm_obj h k hk go hg
    exact ⟨hob.c4, hfz 4 (by omega)⟩, fun X B s go M h hg => hm_roots h k hk go hg M,
   fun hs M => setO_small hs k _ (show H.objs[k].field.length ≤ _ from hs.fields _ (List.getElem_mem hk)), fun hw M => setO_wf hw k _ (show ∀ x ∈ H.objs[k].field, in64 x from hw _ (List.getElem_mem hk))⟩
theorem holdR_at {H : HeapD} {a : Int} {k : Nat} (hk : k < H.objs.length) (ek : slotZ H a = (k : Int)) :
    (20 ≤ H.objs[k].holds → holdR H 2 a = (H, ⟨4, 0, []⟩)) ∧ (¬ 20 ≤ H.objs[k].holds → holdR H 2 a = (gainD (setO H k { H.objs[k] with holds := H.objs[k].holds + 1 }) a, ⟨0, 0, []⟩)) ∧
    (20 ≤ H.objs[k].roots → holdR H 5 a = (H, ⟨4, 0, []⟩)) ∧ (¬ 20 ≤ H.objs[k].roots → holdR H 5 a = (gainD (setO H k { H.objs[k] with roots := H.objs[k].roots + 1 }) a, ⟨0, 0, []⟩)) ∧
    (H.objs[k].holds < 1 → holdR H 3 a = (H, ⟨5, 0, []⟩)) ∧ (¬ H.objs[k].holds < 1 → holdR H 3 a = lostR (setO H k { H.objs[k] with holds := H.objs[k].holds - 1 }) a) ∧
    (H.objs[k].roots < 1 → holdR H 6 a = (H, ⟨5, 0, []⟩)) ∧ (¬ H.objs[k].roots < 1 → holdR H 6 a = lostR (setO H k { H.objs[k] with roots := H.objs[k].roots - 1 }) a) := by
  have hz : ¬ slotZ H a < 0 := by omega
  have hget : H.objs[((k : Int)).toNat]? = some H.objs[k] := by rw [Int.toNat_natCast, List.getElem?_eq_getElem hk]
  refine ⟨fun ht => ?_, fun ht => ?_, fun ht => ?_, fun ht => ?_, fun ht => ?_, fun ht => ?_, fun ht => ?_, fun ht => ?_⟩ <;> (unfold holdR; rw [if_neg hz, ek, hget]; simp [ht, refR])

end Go.Proofs.Ytjhdnachbahbmaa

namespace Go.Proofs.Ytjhdnachbahbmaa
open Go.RowKit
set_option linter.unusedVariables false

set_option maxRecDepth 100000 in
set_option maxHeartbeats 4000000 in
theorem liveOk_calls (v : Value) (H : HeapD) (s : Nat) (o : ObjD) (w : World) (h : RdH w v H) (hs : SmallH H) (hf : WfH H) (h8 : s < 8) (g p : Nat) (f : Option Addr) (fc : Nat) (hg : g < w.heap.size) (hc : ObjAt w g p o (.slice f o.field.length fc)) (hr : RdI w f o.field) (hfl : o.field.length ≤ 1048576) (hwo : WfO o) (b : Bool) (hb : b = true ↔ liveO H s o) :
    Calls Try.prog 34 #[v, .int .i64 (s : Int), .pointer (some ⟨g, p, none⟩)] w fun e w' => e = .returned (.bool b) ∧ Below w.heap.size w w' := by
  have HR0 : Hid (∀ X, Below w.heap.size w X → RdH X v H) := fun X hX => rdH_later h hX
  obtain ⟨ao, co, aw, cw, ab, cb, sa, sc, rfl, ro, rwk, ri, rs⟩ := h
  have HNO : Hid (¬ liveO H s o → b = false) := fun hn => by cases b with | false => rfl | true => exact absurd (hb.1 rfl) hn
  have HY : Hid (liveO H s o → b = true) := hb.2
  have l0 := hs.objs
  have l2 := hs.buffer
  have l3 := hs.sites
  obtain ⟨W, hW⟩ : ∃ W, W = w.alloc (.cells #[.slice ao H.objs.length co, .slice aw H.weaks.length cw, .slice ab H.buffer.length cb, .slice sa H.sites.length sc] 33) := ⟨_, rfl⟩
  have BW : Below w.heap.size w W := by rw [hW]; exact (Below.refl _ _).alloc (Nat.le_refl _) _
  have hWs : W.heap.size = w.heap.size + 1 := by rw [hW]; simp
  have HK : Hid (∀ X, Below W.heap.size W X → _) := fun X (hX : Below W.heap.size W X) => four_kept w 33 (.slice ao H.objs.length co) (.slice aw H.weaks.length cw) (.slice ab H.buffer.length cb) (.slice sa H.sites.length sc) X (by rw [hWs, hW] at hX; exact hX)
  have HOB : Hid (∀ X, Below W.heap.size W X → ObjAt X g p o (.slice f o.field.length fc)) := fun X hX => (hc.keep (fun k => BW.cell (p := ⟨g, k, none⟩) hg)).keep (fun k => hX.cell (p := ⟨g, k, none⟩) (Nat.lt_of_lt_of_le hg BW.size))
  have HRF : Hid (∀ X, Below W.heap.size W X → RdI X f o.field) := fun X hX => rdI_later (rdI_later hr BW) hX
  have HRI : Hid (∀ X, Below W.heap.size W X → RdI X ab H.buffer) := fun X hX => rdI_later (rdI_later ri BW) hX
  have HRD : Hid (∀ X, Below W.heap.size W X → RdH X _ H) := fun X hX => HR0.out X (BW.trans (hX.mono BW.size))
  have HB : Hid (∀ X, Below W.heap.size W X → Below w.heap.size w X) := fun X hX => BW.trans (hX.mono BW.size)
  have CS : Hid (∀ X (z : Int), Below W.heap.size W X → in64 z → _) := fun X z hX hz => iSlotOf_calls _ H z X (HRD.out X hX) hs.objs hz.1 hz.2
  have CE : Hid (∀ X, Below W.heap.size W X → _) := fun X hX => countMade_calls _ H s o X (HRD.out X hX) hs h8 g p f fc (Nat.lt_of_lt_of_le (Nat.lt_of_lt_of_le hg BW.size) hX.size) (HOB.out X hX)
  have CI : Hid (∀ X, _) := fun X => iIdOf_calls (s : Int) o.gen X
  have CH : Hid (∀ X, Below W.heap.size W X → _) := fun X hX => hasInt_calls X ab cb H.buffer (idZ (s : Int) o.gen) (HRI.out X hX) (by omega)
  have hebd := inEdges_bd H hs (s : Int)
  have HMZ : Hid (madeZ H (s : Int) o = IntKind.i64.wrap (IntKind.i64.wrap (o.holds + o.roots) + inEdges H (s : Int))) := rfl
  generalize madeZ H (s : Int) o = MZ at *
  obtain ⟨w1, w2, w3, w4, w5, w6⟩ := hwo
  have HW6 : Hid (∀ z ∈ o.field, in64 z) := w6
  obtain ⟨ol, og, ost, oh, orr, oc, ofl, op⟩ := o
  simp only at *
  unfold liveO ledO at HNO HY
  simp only at HNO HY
  unfold in64 at w1 w2 w3 w4 w5
  have HNR : Hid (¬ (1 ≤ og ∧ (0 ≤ ost ∧ ost ≤ (H.sites.length : Int) - 1) ∧ (0 ≤ oh ∧ oh ≤ 20) ∧ (0 ≤ orr ∧ orr ≤ 20)) → b = false) := fun hn => HNO.out (fun ok => hn ok.1)
  have HNF : Hid (∀ k (h : k < ofl.length), ¬ (ofl[k] = -1 ∨ 0 ≤ slotZ H ofl[k]) → b = false) := fun k hk hn => HNO.out (fun ok => hn (ok.2.1 k hk))
  have HNC : Hid (¬ (oc = oh + orr + inEdges H (s : Int) ∧ 1 ≤ oc) → b = false) := fun hn => HNO.out (fun ok => hn ⟨ok.2.2.1, ok.2.2.2.1⟩)
  have HNP : Hid (∀ q, (1 ≤ og ∧ (0 ≤ ost ∧ ost ≤ (H.sites.length : Int) - 1) ∧ (0 ≤ oh ∧ oh ≤ 20) ∧ (0 ≤ orr ∧ orr ≤ 20)) → (∀ k (h : k < ofl.length), ofl[k] = -1 ∨ 0 ≤ slotZ H ofl[k]) → (oc = oh + orr + inEdges H (s : Int) ∧ 1 ≤ oc) → decide (idZ (s : Int) og ∈ H.buffer) = q → b = (op == q)) := fun q a1 a2 a3 a4 => by
    by_cases e : op = q
    · rw [HY.out ⟨a1, a2, a3.1, a3.2, by rw [a4]; exact e⟩, e]; simp
    · rw [HNO.out (fun ok => e (by rw [ok.2.2.2.2, a4]))]; simp [e]
  generalize inEdges H (s : Int) = E at *
  generalize idZ (s : Int) og = id at *
  generalize hmem : decide (id ∈ H.buffer) = mem at *
  have HNP2 : Hid ((1 ≤ og ∧ (0 ≤ ost ∧ ost ≤ (H.sites.length : Int) - 1) ∧ (0 ≤ oh ∧ oh ≤ 20) ∧ (0 ≤ orr ∧ orr ≤ 20)) → (∀ k (h : k < ofl.length), ofl[k] = -1 ∨ 0 ≤ slotZ H ofl[k]) → (oc = oh + orr + E ∧ 1 ≤ oc) → b = (op == mem)) := fun a1 a2 a3 => HNP.out mem a1 a2 a3 rfl
  have hne := LaterW.some_ W
  have z1 : ∀ X : LaterW W, X.on.cell? ⟨g, p + 1, none⟩ = some (.int .i64 og) := fun X => (HOB.out _ X.bel).c1
  have z2 : ∀ X : LaterW W, X.on.cell? ⟨g, p + 2, none⟩ = some (.int .i64 ost) := fun X => (HOB.out _ X.bel).c2
  have z3 : ∀ X : LaterW W, X.on.cell? ⟨g, p + 3, none⟩ = some (.int .i64 oh) := fun X => (HOB.out _ X.bel).c3
  have z4 : ∀ X : LaterW W, X.on.cell? ⟨g, p + 4, none⟩ = some (.int .i64 orr) := fun X => (HOB.out _ X.bel).c4
  have y3 : ∀ X : LaterW W, X.on.cell? ⟨w.heap.size, 3, none⟩ = some (.slice sa H.sites.length sc) := fun X => (HK.out _ X.bel).2.2.2
  have r0 : IntKind.i64.wrap ((H.sites.length : Int) - 1) = (H.sites.length : Int) - 1 := by rw [IntKind.wrap_i64]; omega
  clear hb ro rwk ri rs hs hf HR0 HNO HY HNP hc hr w6 hmem hWs
  by_cases e1 : og < 1
  · have hb0 := HNR.out (fun h => by omega)
    subst hb0
    have hq1 : decide (og < 1) = true := decide_eq_true e1
    go_enter Try.func34, Try.ntmps34
    go_wp2
    rw [← hW]
    clear hW
    refine wp_region_later W (Below.refl _ _) (by kernel_rfl) (by kernel_rfl) ?_
    repeat (go_big_quiet_step (fail))
    refine wpQuiet_nil ?_
    rintro _ ⟨⟨X, hX⟩, rfl⟩
    go_wp2
    go_ret
    exact ⟨rfl, HB.out _ hX⟩
  have hq1 : decide (og < 1) = false := decide_eq_false e1
  by_cases e2 : 0 ≤ ost ∧ ost ≤ (H.sites.length : Int) - 1
  rotate_left
  · have hb0 := HNR.out (fun h => e2 h.2.1)
    subst hb0
    go_enter Try.func34, Try.ntmps34
    go_wp2
    rw [← hW]
    clear hW
    refine wp_region_later W (Below.refl _ _) (by kernel_rfl) (by kernel_rfl) ?_
    repeat (go_big_quiet_step (first
      | (go_at_call_of 33 (Value.int IntKind.i64 ost); refine (within_no ost 0 ((H.sites.length : Int) - 1) _ (by omega)).mono ?_; rintro e w1 ⟨rfl, hw1⟩; exact ⟨rfl, _, hw1⟩)))
    refine wpQuiet_nil ?_
    rintro _ ⟨⟨X, hX⟩, rfl⟩
    go_wp2
    go_ret
    exact ⟨rfl, HB.out _ hX⟩
  by_cases e3 : 0 ≤ oh ∧ oh ≤ 20
  rotate_left
  · have hb0 := HNR.out (fun h => e3 h.2.2.1)
    subst hb0
    go_enter Try.func34, Try.ntmps34
    go_wp2
    rw [← hW]
    clear hW
    refine wp_region_later W (Below.refl _ _) (by kernel_rfl) (by kernel_rfl) ?_
    repeat (go_big_quiet_step (first
      | (go_at_call_of 33 (Value.int IntKind.i64 ost); refine (within_yes ost 0 ((H.sites.length : Int) - 1) _ e2.1 e2.2).mono ?_; rintro e w1 ⟨rfl, hw1⟩; exact ⟨rfl, _, hw1⟩)
      | (go_at_call_of 33 (Value.int IntKind.i64 oh); refine (within_no oh 0 20 _ (by omega)).mono ?_; rintro e w1 ⟨rfl, hw1⟩; exact ⟨rfl, _, hw1⟩)
      | (go_at_call_of 33 (Value.int IntKind.i64 orr); refine (within_no orr 0 20 _ (by omega)).mono ?_; rintro e w1 ⟨rfl, hw1⟩; exact ⟨rfl, _, hw1⟩)))
    refine wpQuiet_nil ?_
    rintro _ ⟨⟨X, hX⟩, rfl⟩
    go_wp2
    go_ret
    exact ⟨rfl, HB.out _ hX⟩
  by_cases e4 : 0 ≤ orr ∧ orr ≤ 20
  rotate_left
  · have hb0 := HNR.out (fun h => e4 h.2.2.2)
    subst hb0
    go_enter Try.func34, Try.ntmps34
    go_wp2
    rw [← hW]
    clear hW
    refine wp_region_later W (Below.refl _ _) (by kernel_rfl) (by kernel_rfl) ?_
    repeat (go_big_quiet_step (first
      | (go_at_call_of 33 (Value.int IntKind.i64 ost); refine (within_yes ost 0 ((H.sites.length : Int) - 1) _ e2.1 e2.2).mono ?_; rintro e w1 ⟨rfl, hw1⟩; exact ⟨rfl, _, hw1⟩)
      | (go_at_call_of 33 (Value.int IntKind.i64 oh); refine (within_yes oh 0 20 _ e3.1 e3.2).mono ?_; rintro e w1 ⟨rfl, hw1⟩; exact ⟨rfl, _, hw1⟩)
      | (go_at_call_of 33 (Value.int IntKind.i64 orr); refine (within_no orr 0 20 _ (by omega)).mono ?_; rintro e w1 ⟨rfl, hw1⟩; exact ⟨rfl, _, hw1⟩)))
    refine wpQuiet_nil ?_
    rintro _ ⟨⟨X, hX⟩, rfl⟩
    go_wp2
    go_ret
    exact ⟨rfl, HB.out _ hX⟩
  have HR1 : Hid (1 ≤ og ∧ (0 ≤ ost ∧ ost ≤ (H.sites.length : Int) - 1) ∧ (0 ≤ oh ∧ oh ≤ 20) ∧ (0 ≤ orr ∧ orr ≤ 20)) := ⟨by omega, e2, e3, e4⟩
  have z6 : ∀ X : LaterW W, X.on.cell? ⟨g, p + 6, none⟩ = some (.slice f ofl.length fc) := fun X => (HOB.out _ X.bel).c6
  have HC6 : Hid (∀ X, Below W.heap.size W X → X.cell? ⟨g, p + 6, none⟩ = some (.slice f ofl.length fc)) := fun X hX => (HOB.out _ hX).c6
  go_enter Try.func34, Try.ntmps34
  go_wp2
  rw [← hW]
  clear hW
  refine wp_region_later W (Below.refl _ _) (by kernel_rfl) (by kernel_rfl) ?_
  repeat (go_big_quiet_step (first
    | (go_at_call_of 33 (Value.int IntKind.i64 ost); refine (within_yes ost 0 ((H.sites.length : Int) - 1) _ e2.1 e2.2).mono ?_; rintro e w1 ⟨rfl, hw1⟩; exact ⟨rfl, _, hw1⟩)
    | (go_at_call_of 33 (Value.int IntKind.i64 oh); refine (within_yes oh 0 20 _ e3.1 e3.2).mono ?_; rintro e w1 ⟨rfl, hw1⟩; exact ⟨rfl, _, hw1⟩)
    | (go_at_call_of 33 (Value.int IntKind.i64 orr); refine (within_yes orr 0 20 _ e4.1 e4.2).mono ?_; rintro e w1 ⟨rfl, hw1⟩; exact ⟨rfl, _, hw1⟩)))
  refine wpQuiet_nil ?_
  rintro _ ⟨⟨X, hX⟩, rfl⟩
  have c6 := HC6.out _ hX
  clear z1 z2 z3 z4 z6 y3 hne
  go_wp2
  clear c6
  go_loopw [47] (fun i X => ∃ k : Nat, k ≤ ofl.length ∧ i = .int .i64 (k : Int) ∧ Below W.heap.size W X ∧ Hid (∀ i (h : i < ofl.length), i < k → (ofl[i] = -1 ∨ 0 ≤ slotZ H ofl[i]))) (fun i _ => ofl.length - (intOf i).toNat)
  case atStart => exact ⟨0, by omega, rfl, hX, fun i _ h => absurd h (by omega)⟩
  case round =>
    clear hX
    obtain ⟨k, hk, rfl, hX, HKK⟩ := hrel
    by_cases hlt : k < ofl.length
    · obtain ⟨gf, of2, rfl, -, hcf⟩ := HRF.out _ hX k hlt
      have HZN : Hid (¬ (ofl[k] = -1 ∨ 0 ≤ slotZ H ofl[k]) → b = false) := HNF.out k hlt
      have HZ : Hid ((ofl[k] = -1 ∨ 0 ≤ slotZ H ofl[k]) → ∀ i (h : i < ofl.length), i < k + 1 → (ofl[i] = -1 ∨ 0 ≤ slotZ H ofl[i])) := fun hz i hi hl => by
        rcases Nat.lt_or_ge i k with h3 | h3
        · exact HKK.out i hi h3
        · obtain rfl : i = k := by omega
          exact hz
      have CS2 : Hid (∀ u : Unit, _) := fun (_ : Unit) => CS.out wr ofl[k] hX (HW6.out _ (List.getElem_mem hlt))
      generalize ofl[k] = z at *
      obtain ⟨k0, k1, k2, k3⟩ := HK.out _ hX
      by_cases hz : z = -1
      · have HFIN : Hid _ := HZ.out (.inl hz)
        subst hz
        go_wp2
        go_roundw
        case rel => exact ⟨k + 1, by omega, by go_num, hX, HFIN⟩
        case measure => simp [intOf]; omega
      · have hq : (z != -1) = true := by rw [bne_iff_ne]; exact hz
        by_cases hsl : slotZ H z < 0
        · have hb0 := HZN.out (fun h => by rcases h with h | h; exact hz h; omega)
          subst hb0
          clear HZ HZN
          generalize slotZ H z = sl at *
          go_wp2_with fail
          refine (CS2.out ()).mono ?_
          rintro e w1 ⟨rfl, b1⟩
          have B1 := hX.trans (b1.mono hX.size)
          go_wp2
          go_ret
          exact ⟨rfl, HB.out _ B1⟩
        · have HFIN : Hid _ := HZ.out (.inr (by omega))
          have hsl2 : 0 ≤ slotZ H z := by omega
          clear HZ HZN
          generalize slotZ H z = sl at *
          go_wp2_with fail
          refine (CS2.out ()).mono ?_
          rintro e w1 ⟨rfl, b1⟩
          have B1 := hX.trans (b1.mono hX.size)
          go_wp2
          go_roundw
          case rel => exact ⟨k + 1, by omega, by go_num, B1, HFIN⟩
          case measure => simp [intOf]; omega
    · have ek : ofl.length ≤ k := by omega
      have HLED : Hid (∀ k (h : k < ofl.length), ofl[k] = -1 ∨ 0 ≤ slotZ H ofl[k]) := fun i hi => HKK.out i hi (by omega)
      have HOB2 : Hid (∀ X : LaterW wr, ObjAt X.on g p _ _) := fun X => HOB.out X.on (hX.trans (X.bel.mono hX.size))
      have HK2 : Hid (∀ X : LaterW wr, _) := fun X => HK.out X.on (hX.trans (X.bel.mono hX.size))
      have hne := LaterW.some_ wr
      have z1 : ∀ X : LaterW wr, X.on.cell? ⟨g, p + 1, none⟩ = some (.int .i64 og) := fun X => (HOB2.out X).c1
      have z3 : ∀ X : LaterW wr, X.on.cell? ⟨g, p + 3, none⟩ = some (.int .i64 oh) := fun X => (HOB2.out X).c3
      have z4 : ∀ X : LaterW wr, X.on.cell? ⟨g, p + 4, none⟩ = some (.int .i64 orr) := fun X => (HOB2.out X).c4
      have z5 : ∀ X : LaterW wr, X.on.cell? ⟨g, p + 5, none⟩ = some (.int .i64 oc) := fun X => (HOB2.out X).c5
      have z7 : ∀ X : LaterW wr, X.on.cell? ⟨g, p + 7, none⟩ = some (.bool op) := fun X => (HOB2.out X).c7
      have y0 : ∀ X : LaterW wr, X.on.cell? ⟨w.heap.size, 0, none⟩ = some (.slice ao H.objs.length co) := fun X => (HK2.out X).1
      have y1 : ∀ X : LaterW wr, X.on.cell? ⟨w.heap.size, 1, none⟩ = some (.slice aw H.weaks.length cw) := fun X => (HK2.out X).2.1
      have y2 : ∀ X : LaterW wr, X.on.cell? ⟨w.heap.size, 2, none⟩ = some (.slice ab H.buffer.length cb) := fun X => (HK2.out X).2.2.1
      have y3 : ∀ X : LaterW wr, X.on.cell? ⟨w.heap.size, 3, none⟩ = some (.slice sa H.sites.length sc) := fun X => (HK2.out X).2.2.2
      have CE2 : Hid (∀ X : LaterW wr, _) := fun X => CE.out X.on (hX.trans (X.bel.mono hX.size))
      have r1 : IntKind.i64.wrap (oh + orr) = oh + orr := by rw [IntKind.wrap_i64]; omega
      have r2 : IntKind.i64.wrap (oh + orr + E) = oh + orr + E := by rw [IntKind.wrap_i64]; omega
      have hmz := HMZ.out
      rw [r1, r2] at hmz
      subst hmz
      clear r1 r2
      by_cases g2 : oc < 1
      · have hb0 := HNC.out (fun h => by omega)
        subst hb0
        have hq2 : decide (oc < 1) = true := decide_eq_true g2
        go_wp2
        refine wp_region_later wr (Below.refl _ _) (by kernel_rfl) (by kernel_rfl) ?_
        repeat (go_big_quiet_step (fail))
        refine wpQuiet_nil ?_
        rintro _ ⟨⟨X, hY⟩, rfl⟩
        go_wp2
        go_ret
        exact ⟨rfl, HB.out _ (hX.trans (hY.mono hX.size))⟩
      have hq2 : decide (oc < 1) = false := decide_eq_false g2
      by_cases g1 : oc = oh + orr + E
      rotate_left
      · have hb0 := HNC.out (fun h => g1 h.1)
        subst hb0
        have hq : (oc != oh + orr + E) = true := by rw [bne_iff_ne]; exact g1
        go_wp2
        refine wp_region_later wr (Below.refl _ _) (by kernel_rfl) (by kernel_rfl) ?_
        repeat (go_big_quiet_step (first
          | (go_at_call 53; refine (CE2.out _).mono ?_; rintro e w1 ⟨rfl, b1⟩; exact ⟨rfl, LaterW.step _ b1⟩)))
        refine wpQuiet_nil ?_
        rintro _ ⟨⟨X, hY⟩, rfl⟩
        go_wp2
        go_ret
        exact ⟨rfl, HB.out _ (hX.trans (hY.mono hX.size))⟩
      have hq : (oc != oh + orr + E) = false := by rw [bne_eq_false_iff_eq]; exact g1
      have hbp := HNP2.out HR1.out HLED.out ⟨g1, by omega⟩
      clear HNR HNF HNC HNP2 HLED HKK g1 g2
      go_wp2
      refine wp_region_later wr (Below.refl _ _) (by kernel_rfl) (by kernel_rfl) ?_
      repeat (go_big_quiet_step (first
        | (go_at_call 53; refine (CE2.out _).mono ?_; rintro e w1 ⟨rfl, b1⟩; exact ⟨rfl, LaterW.step _ b1⟩)))
      refine wpQuiet_nil ?_
      intro X hXe
      have hY : Below wr.heap.size wr X := by obtain ⟨n, hn⟩ := hXe; rw [hn]; exact n.bel
      clear hXe
      have B2 := hX.trans (hY.mono hX.size)
      have hne2 := LaterW.some_ X
      have CH2 : Hid (∀ Y : LaterW X, _) := fun Y => CH.out Y.on (B2.trans (Y.bel.mono B2.size))
      have x1 : ∀ Y : LaterW X, Y.on.cell? ⟨g, p + 1, none⟩ = some (.int .i64 og) := fun Y => (HOB.out Y.on (B2.trans (Y.bel.mono B2.size))).c1
      have x7 : ∀ Y : LaterW X, Y.on.cell? ⟨g, p + 7, none⟩ = some (.bool op) := fun Y => (HOB.out Y.on (B2.trans (Y.bel.mono B2.size))).c7
      have x2 : ∀ Y : LaterW X, Y.on.cell? ⟨w.heap.size, 2, none⟩ = some (.slice ab H.buffer.length cb) := fun Y => (HK.out Y.on (B2.trans (Y.bel.mono B2.size))).2.2.1
      clear z1 z3 z4 z5 z7 y0 y1 y2 y3 hne hq hq2
      subst hbp
      go_wp2
      refine wp_region_later X (Below.refl _ _) (by kernel_rfl) (by kernel_rfl) ?_
      repeat (go_big_quiet_step (first
        | (go_at_call 42; refine (CI.out _).mono ?_; rintro e w1 ⟨rfl, hw1⟩; exact ⟨rfl, _, hw1⟩)
        | (go_at_call 52; refine (CH2.out _).mono ?_; rintro e w1 ⟨rfl, hw1⟩; exact ⟨rfl, _, hw1⟩)))
      refine wpQuiet_nil ?_
      rintro _ ⟨⟨Y, hZ⟩, rfl⟩
      go_wp2
      go_ret
      exact ⟨rfl, HB.out _ (B2.trans (hZ.mono B2.size))⟩

end Go.Proofs.Ytjhdnachbahbmaa

namespace Go.Proofs.Ytjhdnachbahbmaa
open Go.RowKit
set_option linter.unusedVariables false

/-- Every handle is right. -/
def AllW (ds : List WeakD) : Prop := ∀ i (h : i < ds.length), okW ds[i]

theorem idxWeak_calls (w : World) (a : Option Addr) (cap : Nat) (ds : List WeakD) (h : RdW w a ds) (hn : ds.length ≤ 1048576) :
    Calls Try.prog 47 #[.slice a ds.length cap, .func (.func 37) #[] #[]] w fun e w' => ∃ z : Int, e = .returned (.int .i64 z) ∧ (0 ≤ z ↔ ¬ AllW ds) ∧ Below w.heap.size w w' := by
  have HA : Hid (∀ X, Below w.heap.size w X → RdW X a ds) := fun X hX => rdW_later h hX
  obtain ⟨n, hnn⟩ : ∃ n, ds.length = n := ⟨_, rfl⟩
  have Hn : Hid (ds.length = n) := hnn
  rw [hnn] at hn
  rw [hnn]
  clear h hnn
  go_enter Try.func47, Try.ntmps47
  go_wp2
  go_loopw [8] (fun i X => ∃ j : Nat, j ≤ n ∧ i = .int .i64 j ∧ Below w.heap.size w X ∧ Hid (∀ i (h : i < ds.length), i < j → okW ds[i])) (fun i _ => n - (intOf i).toNat)
  case atStart => exact ⟨0, by omega, rfl, Below.refl _ _, fun i _ h => absurd h (by omega)⟩
  case round =>
    obtain ⟨j, hj, rfl, hb, HJ⟩ := hrel
    by_cases hlt : j < n
    · have hj2 : j < ds.length := by have := Hn.out; omega
      obtain ⟨g, off, rfl, hg, hc⟩ := HA.out _ hb j hj2
      obtain ⟨c0, c1⟩ := hc
      obtain ⟨q, hq⟩ := bool_of (okW ds[j])
      have CW : Hid (∀ X, _) := fun X => weakWrong_calls ds[j] X q hq
      have HW : Hid (q = true → ∀ i (h : i < ds.length), i < j + 1 → okW ds[i]) := fun ho i hi hl => by
        rcases Nat.lt_or_ge i j with h3 | h3
        · exact HJ.out i hi h3
        · obtain rfl : i = j := by omega
          exact hq.1 ho
      have HWN : Hid (q = false → ¬ AllW ds) := fun ho hall => by rw [hq.2 (hall j hj2)] at ho; cases ho
      clear hq
      generalize ds[j].used = du at *
      generalize ds[j].target = dt at *
      cases q with
      | true =>
        have HFIN : Hid _ := HW.out rfl
        go_wp2_with fail
        refine (CW.out _).mono ?_
        rintro e w1 ⟨rfl, b1⟩
        have B1 := hb.trans (b1.mono hb.size)
        go_wp2
        go_roundw
        case rel => exact ⟨j + 1, by omega, by go_num, B1, HFIN⟩
        case measure => simp [intOf]; omega
      | false =>
        have HFIN : Hid _ := HWN.out rfl
        go_wp2_with fail
        refine (CW.out _).mono ?_
        rintro e w1 ⟨rfl, b1⟩
        have B1 := hb.trans (b1.mono hb.size)
        go_wp2
        go_ret
        exact ⟨(j : Int), rfl, ⟨fun _ => HFIN.out, fun _ => by omega⟩, B1⟩
    · have ej : n ≤ j := by omega
      go_wp2
      go_ret
      exact ⟨-1, rfl, ⟨fun h => by omega, fun h => absurd (fun i hi => HJ.out i hi (by have := Hn.out; omega)) h⟩, hb⟩

theorem hasWeak_calls (w : World) (a : Option Addr) (cap : Nat) (ds : List WeakD) (h : RdW w a ds) (hn : ds.length ≤ 1048576) (b : Bool) (hb : b = true ↔ AllW ds) :
    Calls Try.prog 36 #[.slice a ds.length cap, .func (.func 37) #[] #[]] w fun e w' => e = .returned (.bool (!b)) ∧ Below w.heap.size w w' := by
  have C : Hid (∀ u : Unit, _) := fun (_ : Unit) => idxWeak_calls w a cap ds h hn
  rw [← hb] at C
  clear h hb
  go_enter Try.func36, Try.ntmps36
  go_wp2_with fail
  refine (C.out ()).mono ?_
  rintro e w1 ⟨z, rfl, hz, b1⟩
  have HZ : Hid (decide (0 ≤ z) = !b) := by show _ = _; cases b <;> simp_all
  clear hz
  go_wp2
  go_ret
  exact ⟨ret_bb HZ.out, b1⟩

/-- A list of numbers from 0 to n - 1, no two alike, has at most n. -/
theorem few {n : Nat} : ∀ {l : List Nat}, l.Nodup → (∀ x ∈ l, x < n) → l.length ≤ n := by
  induction n with
  | zero => intro l _ h; cases l with | nil => simp | cons x r => exact absurd (h x (by simp)) (by omega)
  | succ n ih =>
    intro l hn h
    by_cases hm : n ∈ l
    · have h1 := ih (l := l.erase n) (hn.erase n) (fun x hx => by
        have h2 := h x (List.mem_of_mem_erase hx)
        have h3 : x ≠ n := fun e => by subst e; exact (hn.mem_erase_iff.1 hx).1 rfl
        omega)
      rw [List.length_erase_of_mem hm] at h1
      omega
    · have h1 := ih (l := l) hn (fun x hx => by
        have h2 := h x hx
        have h3 : x ≠ n := fun e => by subst e; exact hm hx
        omega)
      omega
theorem slotZ_back (H : HeapD) (x : Int) (h : 0 ≤ slotZ H x) : ∃ k, ∃ (hk : k < H.objs.length), slotZ H x = (k : Int) ∧ k < 8 ∧ x = (k : Int) + 8 * H.objs[k].gen := by
  unfold slotZ at h ⊢
  by_cases h1 : x < 8 ∨ H.objs.length ≠ 8
  · rw [if_pos h1] at h; omega
  · rw [if_neg h1] at h ⊢
    have h8 : H.objs.length = 8 := by omega
    have hk : (x % 8).toNat < H.objs.length := by omega
    rw [List.getElem?_eq_getElem hk] at h ⊢
    simp only at h ⊢
    by_cases h2 : H.objs[(x % 8).toNat].live = true ∧ H.objs[(x % 8).toNat].gen = x / 8
    · rw [if_pos h2] at h ⊢
      refine ⟨(x % 8).toNat, hk, by omega, by omega, ?_⟩
      rw [h2.2]; omega
    · rw [if_neg h2] at h; omega
theorem bufOk_iff (H : HeapD) : BufOk H ↔ ∀ i (h : i < H.buffer.length), okB H i H.buffer[i] := by
  refine ⟨fun h => h.2, fun h => ⟨?_, h⟩⟩
  have hnd : (H.buffer.map (fun x => (slotZ H x).toNat)).Nodup := by
    unfold List.Nodup
    rw [List.pairwise_iff_getElem]
    intro i j hi hj hij e
    rw [List.length_map] at hi hj
    rw [List.getElem_map, List.getElem_map] at e
    obtain ⟨k, hk, e1, -, e2⟩ := slotZ_back H _ (h i hi).1
    obtain ⟨k', hk', e3, -, e4⟩ := slotZ_back H _ (h j hj).1
    rw [e1, e3] at e
    obtain rfl : k = k' := by omega
    refine (h j hj).2 ((mem_take _ _ _).2 ⟨i, hi, hij, ?_⟩)
    rw [e2, e4]
  have h1 := few hnd (n := 8) (fun y hy => by
    obtain ⟨x, hx, rfl⟩ := List.mem_map.1 hy
    obtain ⟨i, hi, rfl⟩ := List.mem_iff_getElem.1 hx
    obtain ⟨k, hk, e1, e2, -⟩ := slotZ_back H _ (h i hi).1
    rw [e1]; omega)
  rw [List.length_map] at h1
  exact h1
theorem namesOk_iff (H : HeapD) : NamesOk H.sites ↔ H.sites.length ≤ 6 ∧ ∀ i (h : i < H.sites.length), okN H i H.sites[i] := by
  unfold NamesOk okN
  constructor
  · rintro ⟨h1, h2⟩
    exact ⟨h1, fun i hi => ⟨(h2 i hi).1, fun k hk hki e => (h2 i hi).2 ((mem_take _ _ _).2 ⟨k, hk, hki, e⟩)⟩⟩
  · rintro ⟨h1, h2⟩
    exact ⟨h1, fun i hi => ⟨(h2 i hi).1, fun hm => by obtain ⟨k, hk, hki, e⟩ := (mem_take _ _ _).1 hm; exact (h2 i hi).2 k hk hki e⟩⟩
theorem dead_iff (o : ObjD) (hl : o.live = false) (h3 : o.field.length = 3) : o = emptyD o.gen ↔ deadO o := by
  obtain ⟨ol, og, ost, oh, orr, oc, ofl, op⟩ := o
  simp only at hl h3
  subst hl
  unfold emptyD deadO
  simp only [ObjD.mk.injEq, true_and]
  constructor
  · rintro ⟨rfl, rfl, rfl, rfl, rfl, rfl⟩
    refine ⟨rfl, rfl, rfl, rfl, rfl, fun k hk => ?_⟩
    match k, hk with
    | 0, _ | 1, _ | 2, _ => rfl
  · rintro ⟨rfl, rfl, rfl, rfl, rfl, hk⟩
    refine ⟨rfl, rfl, rfl, rfl, ?_, rfl⟩
    match ofl, h3, hk with
    | [a, b, c], _, hk =>
      have h0 := hk 0 (by simp)
      have h1 := hk 1 (by simp)
      have h2 := hk 2 (by simp)
      simp at h0 h1 h2
      rw [h0, h1, h2]
set_option maxRecDepth 100000 in
set_option maxHeartbeats 4000000 in
theorem iHeapOk_calls (v : Value) (H : HeapD) (w : World) (h : RdH w v H) (hs : SmallH H) (hf : WfH H) (hcap : CapH v) (b : Bool) (hbb : b = true ↔ OkH H) :
    Calls Try.prog 16 #[v] w fun e w' => e = .returned (.bool b) ∧ Below w.heap.size w w' := by
  have HR0 : Hid (∀ X, Below w.heap.size w X → RdH X v H) := fun X hX => rdH_later h hX
  have HCP : Hid (CapH v) := hcap
  obtain ⟨ao, co, aw, cw, ab, cb, sa, sc, rfl, ro, rwk, ri, rs⟩ := h
  have hcs : H.sites.length ≤ sc := by
    obtain ⟨a0, n0, k0, a1, n1, k1, a2, n2, k2, a3, n3, k3, e, h0, h1, h2, h3⟩ := hcap
    simp only [Value.agg.injEq, Array.mk.injEq, List.cons.injEq, Value.slice.injEq] at e
    obtain ⟨-, -, -, ⟨-, e1, e2⟩, -⟩ := e
    omega
  have HNO : Hid (¬ OkH H → b = false) := bool_no hbb
  have HYES : Hid (OkH H → b = true) := hbb.2
  clear hbb
  obtain ⟨bN, hbN⟩ := bool_of (NamesOk H.sites)
  obtain ⟨bB, hbB⟩ := bool_of (BufOk H)
  obtain ⟨bW, hbW⟩ := bool_of (AllW H.weaks)
  have l0 := hs.objs
  have l1 := hs.weaks
  have l2 := hs.buffer
  have l3 := hs.sites
  obtain ⟨W, hW⟩ : ∃ W, W = w.alloc (.cells #[.slice ao H.objs.length co, .slice aw H.weaks.length cw, .slice ab H.buffer.length cb, .slice sa H.sites.length sc] 33) := ⟨_, rfl⟩
  have BW : Below w.heap.size w W := by rw [hW]; exact (Below.refl _ _).alloc (Nat.le_refl _) _
  have hWs : W.heap.size = w.heap.size + 1 := by rw [hW]; simp
  have HK : Hid (∀ X, Below W.heap.size W X → _) := fun X (hX : Below W.heap.size W X) => four_kept w 33 (.slice ao H.objs.length co) (.slice aw H.weaks.length cw) (.slice ab H.buffer.length cb) (.slice sa H.sites.length sc) X (by rw [hWs, hW] at hX; exact hX)
  have HRS : Hid (∀ X, Below W.heap.size W X → RdS X sa H.sites) := fun X hX => rdS_later (rdS_later rs BW) hX
  have HRO : Hid (∀ X, Below W.heap.size W X → RdO X ao H.objs) := fun X hX => rdO_later (rdO_later ro BW) hX
  have HRW : Hid (∀ X, Below W.heap.size W X → RdW X aw H.weaks) := fun X hX => rdW_later (rdW_later rwk BW) hX
  have HRD : Hid (∀ X, Below W.heap.size W X → RdH X _ H) := fun X hX => HR0.out X (BW.trans (hX.mono BW.size))
  have HB : Hid (∀ X, Below W.heap.size W X → Below w.heap.size w X) := fun X hX => BW.trans (hX.mono BW.size)
  have CSI : Hid (∀ X, Below W.heap.size W X → _) := fun X hX => sitesOk_calls X sa sc H.sites (HRS.out X hX) hcs l3 hs.names bN hbN
  have CBU : Hid (∀ X, Below W.heap.size W X → _) := fun X hX => bufferOk_calls _ H X (HRD.out X hX) HCP.out hs hf bB hbB
  have CWK : Hid (∀ X, Below W.heap.size W X → _) := fun X hX => hasWeak_calls X aw cw H.weaks (HRW.out X hX) l1 bW hbW
  have HS : Hid (SmallH H) := hs
  have HF : Hid (WfH H) := hf
  clear ro rwk ri rs hs hf hcap HR0 hWs
  by_cases h0 : H.objs.length = 8
  rotate_left
  · have hb := HNO.out (fun ok => h0 ok.size.1)
    subst hb
    have q0 : ¬ ((H.objs.length : Int) = 8) := by omega
    clear hW
    go_enter Try.func16, Try.ntmps16
    go_wp2
    go_ret
    exact ⟨rfl, (Below.refl _ _).alloc (Nat.le_refl _) _⟩
  by_cases h1 : H.weaks.length = 8
  rotate_left
  · have hb := HNO.out (fun ok => h1 ok.size.2.1)
    subst hb
    have q1 : ¬ ((H.weaks.length : Int) = 8) := by omega
    rw [h0]
    clear hW
    go_enter Try.func16, Try.ntmps16
    go_wp2
    go_ret
    exact ⟨rfl, (Below.refl _ _).alloc (Nat.le_refl _) _⟩
  have H0 : Hid (H.objs.length = 8) := h0
  have H1 : Hid (H.weaks.length = 8) := h1
  obtain ⟨k0, k1, k2, k3⟩ := HK.out _ (Below.refl _ _)
  rw [h0, h1] at hW HK CBU
  rw [h0] at k0 ⊢
  rw [h1] at k1 CWK ⊢
  clear h0 h1
  by_cases hN : NamesOk H.sites
  rotate_left
  · have hb := HNO.out (fun ok => hN ((namesOk_iff H).2 ⟨ok.size.2.2, ok.sites⟩))
    subst hb
    rw [bool_no hbN hN] at CSI
    go_enter Try.func16, Try.ntmps16
    go_wp2_with fail
    rw [← hW]
    clear hW
    refine (CSI.out _ (Below.refl _ _)).mono ?_
    rintro e W1 ⟨rfl, hw1⟩
    subst hw1
    go_wp2
    go_ret
    exact ⟨rfl, BW⟩
  rw [hbN.2 hN] at CSI
  by_cases hB : BufOk H
  rotate_left
  · have hb := HNO.out (fun ok => hB ((bufOk_iff H).2 ok.buffer))
    subst hb
    rw [bool_no hbB hB] at CBU
    go_enter Try.func16, Try.ntmps16
    go_wp2_with fail
    rw [← hW]
    clear hW
    refine (CSI.out _ (Below.refl _ _)).mono ?_
    rintro e W1 ⟨rfl, hw1⟩
    subst hw1
    go_wp2_with fail
    refine (CBU.out _ (Below.refl _ _)).mono ?_
    rintro e w2 ⟨rfl, b2⟩
    go_wp2
    go_ret
    exact ⟨rfl, HB.out _ b2⟩
  rw [hbB.2 hB] at CBU
  have HNX : Hid (∀ i (h : i < H.objs.length), ¬ okO H i H.objs[i] → b = false) := fun i hi hn => HNO.out (fun ok => hn (ok.objs i hi))
  have HNW : Hid (¬ AllW H.weaks → b = false) := fun hn => HNO.out (fun ok => hn ok.weaks)
  have HAY : Hid ((∀ i (h : i < H.objs.length), okO H i H.objs[i]) → AllW H.weaks → b = true) := fun a1 a2 => HYES.out ⟨⟨H0.out, H1.out, ((namesOk_iff H).1 hN).1⟩, a1, a2, (bufOk_iff H).1 hB, ((namesOk_iff H).1 hN).2⟩
  have hex : ∃ g off, ao = some ⟨g, off, none⟩ := by
    obtain ⟨g, off, f, fc, ha, -⟩ := HRO.out _ (Below.refl _ _) 0 (by have := H0.out; omega)
    exact ⟨g, off, ha⟩
  obtain ⟨g, off, rfl⟩ := hex
  have CC : Hid (∀ X : World, _) := fun X => cellsOf_calls X (some ⟨g, off, none⟩) 8 co (.slice aw 8 cw) (.slice ab H.buffer.length cb) (.slice sa H.sites.length sc) (by omega) g off (fun _ => rfl) ⟨_, _, _, _, _, _, _, _, _, rfl, rfl, rfl⟩
  obtain ⟨x, hx, hxs⟩ := cells_idxs g off 8
  have HX : Hid (∀ s : Nat, s < 8 → ∀ X : World, (Instr.index 47 (.agg x) (.int .i64 (s : Int))).run Try.prog X = .ok (.pointer (cellA g off 8 s)) X) := hxs
  rw [hx] at CC
  have HOB : Hid (∀ X, Below W.heap.size W X → ∀ j (h : j < H.objs.length), ∃ f cap, g < X.heap.size ∧ ObjAt X g (off + j * 8) H.objs[j] (.slice f H.objs[j].field.length cap) ∧ RdI X f H.objs[j].field) := fun X hX j hj => by
    obtain ⟨g', off', f, cap, e1, e2, e3, e4⟩ := HRO.out X hX j hj
    simp only [Option.some.injEq, Addr.mk.injEq, and_true] at e1
    obtain ⟨rfl, rfl⟩ := e1
    exact ⟨f, cap, e2, e3, e4⟩
  have HBW : Hid (bW = true ↔ AllW H.weaks) := hbW
  clear HNO HYES hx hxs hN hB hbN hbB hbW
  go_enter Try.func16, Try.ntmps16
  go_wp2_with fail
  rw [← hW]
  clear hW
  refine (CSI.out _ (Below.refl _ _)).mono ?_
  rintro e W1 ⟨rfl, hw1⟩
  subst hw1
  go_wp2_with fail
  refine (CBU.out _ (Below.refl _ _)).mono ?_
  rintro e w2 ⟨rfl, b2⟩
  clear k0 k1 k2 k3
  obtain ⟨k0, k1, k2, k3⟩ := HK.out _ b2
  go_wp2_with fail
  refine (CC.out _).mono ?_
  rintro e w3 ⟨rfl, b3⟩
  have B3 := b2.trans (b3.mono b2.size)
  clear k0 k1 k2 k3 CSI CBU CC
  go_wp2
  go_loopw [28] (fun i X => ∃ j : Nat, j ≤ 8 ∧ i = .int .i64 j ∧ Below W1.heap.size W1 X ∧ Hid (∀ i (h : i < H.objs.length), i < j → okO H i H.objs[i])) (fun i _ => 8 - (intOf i).toNat)
  case atStart => exact ⟨0, by omega, rfl, B3, fun i _ h => absurd h (by omega)⟩
  case round =>
    obtain ⟨j, hj, rfl, hb, HJ⟩ := hrel
    by_cases hlt : j < 8
    · have hj2 : j < H.objs.length := by have := H0.out; omega
      have hix := HX.out j hlt
      have hA : cellA g off 8 j = some ⟨g, off + j * 8, none⟩ := by unfold cellA; rw [if_pos hlt]
      rw [hA] at hix
      clear hA
      obtain ⟨f, fc, hg, hc, hr⟩ := HOB.out _ hb j hj2
      have HNJ : Hid (¬ okO H j H.objs[j] → b = false) := HNX.out j hj2
      have HOX : Hid (okO H j H.objs[j] → ∀ i (h : i < H.objs.length), i < j + 1 → okO H i H.objs[i]) := fun ho i hi hl => by
        rcases Nat.lt_or_ge i j with h3 | h3
        · exact HJ.out i hi h3
        · obtain rfl : i = j := by omega
          exact ho
      have hfl := HS.out.fields _ (List.getElem_mem hj2)
      have HWF : Hid (WfO H.objs[j]) := HF.out.objs _ (List.getElem_mem hj2)
      obtain ⟨o, ho⟩ : ∃ o, H.objs[j] = o := ⟨_, rfl⟩
      rw [ho] at hc hr HNJ HOX hfl HWF
      obtain ⟨ql, hql⟩ := bool_of (liveO H j o)
      have HQL : Hid (ql = true ↔ liveO H j o) := hql
      clear hql
      have CL : Hid (∀ X : LaterW wr, _) := fun X => liveOk_calls _ H j o X.on (HRD.out _ (hb.trans (X.bel.mono hb.size))) HS.out HF.out hlt g (off + j * 8) f fc (Nat.lt_of_lt_of_le hg X.bel.size) (hc.keep (fun k => X.bel.cell (p := ⟨g, k, none⟩) hg)) (rdI_later hr X.bel) hfl HWF.out ql HQL.out
      rw [H0.out, H1.out] at CL
      have HRF : Hid (∀ X, Below wr.heap.size wr X → RdI X f o.field) := fun X hX => rdI_later hr hX
      have HCE : Hid (∀ X, Below wr.heap.size wr X → ObjAt X g (off + j * 8) o (.slice f o.field.length fc)) := fun X hX => hc.keep (fun k => hX.cell (p := ⟨g, k, none⟩) hg)
      have HK2 : Hid (∀ X : LaterW wr, _) := fun X => HK.out X.on (hb.trans (X.bel.mono hb.size))
      clear ho hr HJ
      obtain ⟨c0, c1, c2, c3, c4, c5, c6, c7⟩ := hc
      by_cases hgen : 0 ≤ o.gen ∧ o.gen ≤ 999
      rotate_left
      · have hb0 := HNJ.out (fun ok => hgen ok.1.1)
        subst hb0
        go_wp2_with fail
        refine (within_no o.gen 0 999 _ (by omega)).mono ?_
        rintro e V ⟨rfl, hV⟩
        subst hV
        go_wp2
        go_ret
        exact ⟨rfl, HB.out _ hb⟩
      by_cases hf3 : o.field.length = 3
      rotate_left
      · have hb0 := HNJ.out (fun ok => hf3 ok.1.2)
        subst hb0
        have q3 : ¬ ((o.field.length : Int) = 3) := by omega
        go_wp2_with fail
        refine (within_yes o.gen 0 999 _ hgen.1 hgen.2).mono ?_
        rintro e V ⟨rfl, hV⟩
        subst hV
        go_wp2
        go_ret
        exact ⟨rfl, HB.out _ hb⟩
      have H3 : Hid (o.field.length = 3) := hf3
      rw [hf3] at c6
      cases hlive : o.live with
      | true =>
        have HL : Hid (ql = false → b = false) := fun hn => HNJ.out (fun ok => by have := HQL.out.2 (ok.2.2 hlive); rw [hn] at this; cases this)
        have HFN : Hid (ql = true → ∀ i (h : i < H.objs.length), i < j + 1 → okO H i H.objs[i]) := fun hd => HOX.out ⟨⟨hgen, H3.out⟩, fun h => (by rw [hlive] at h; cases h), fun _ => HQL.out.1 hd⟩
        have z0 : ∀ X : LaterW wr, X.on.cell? ⟨g, off + j * 8, none⟩ = some (.bool true) := fun X => by rw [← hlive]; exact (HCE.out _ X.bel).c0
        have hne := LaterW.some_ wr
        have y0 : ∀ X : LaterW wr, X.on.cell? ⟨w.heap.size, 0, none⟩ = some (.slice (some ⟨g, off, none⟩) 8 co) := fun X => (HK2.out X).1
        have y1 : ∀ X : LaterW wr, X.on.cell? ⟨w.heap.size, 1, none⟩ = some (.slice aw 8 cw) := fun X => (HK2.out X).2.1
        have y2 : ∀ X : LaterW wr, X.on.cell? ⟨w.heap.size, 2, none⟩ = some (.slice ab H.buffer.length cb) := fun X => (HK2.out X).2.2.1
        have y3 : ∀ X : LaterW wr, X.on.cell? ⟨w.heap.size, 3, none⟩ = some (.slice sa H.sites.length sc) := fun X => (HK2.out X).2.2.2
        clear HQL
        rw [hlive] at c0
        clear hlive hf3
        cases ql with
        | true =>
          have HFIN : Hid _ := HFN.out rfl
          go_wp2_with fail
          refine (within_yes o.gen 0 999 _ hgen.1 hgen.2).mono ?_
          rintro e V ⟨rfl, hV⟩
          subst hV
          go_wp2
          refine wp_region_later V (Below.refl _ _) (by kernel_rfl) (by kernel_rfl) ?_
          repeat (go_big_quiet_step (first
            | (go_at_call 34; refine (CL.out _).mono ?_; rintro e w1 ⟨rfl, b1⟩; exact ⟨rfl, LaterW.step _ b1⟩)))
          refine wpQuiet_nil ?_
          rintro _ ⟨⟨X, hX⟩, rfl⟩
          go_wp2
          go_roundw
          case rel => exact ⟨j + 1, by omega, by go_num, hb.trans (hX.mono hb.size), HFIN⟩
          case measure => simp [intOf]; omega
        | false =>
          have hb0 := HL.out rfl
          subst hb0
          go_wp2_with fail
          refine (within_yes o.gen 0 999 _ hgen.1 hgen.2).mono ?_
          rintro e V ⟨rfl, hV⟩
          subst hV
          go_wp2
          refine wp_region_later V (Below.refl _ _) (by kernel_rfl) (by kernel_rfl) ?_
          repeat (go_big_quiet_step (first
            | (go_at_call 34; refine (CL.out _).mono ?_; rintro e w1 ⟨rfl, b1⟩; exact ⟨rfl, LaterW.step _ b1⟩)))
          refine wpQuiet_nil ?_
          rintro _ ⟨⟨X, hX⟩, rfl⟩
          go_wp2
          go_ret
          exact ⟨rfl, HB.out _ (hb.trans (hX.mono hb.size))⟩
      | false =>
        obtain ⟨q, hq⟩ := bool_of (o = emptyD o.gen)
        have HQE : Hid (q = true ↔ o = emptyD o.gen) := hq
        clear hq
        have HL : Hid (q = false → b = false) := fun hn => HNJ.out (fun ok => by have := HQE.out.2 ((dead_iff o hlive H3.out).2 (ok.2.1 hlive)); rw [hn] at this; cases this)
        have HFN : Hid (q = true → ∀ i (h : i < H.objs.length), i < j + 1 → okO H i H.objs[i]) := fun hd => HOX.out ⟨⟨hgen, H3.out⟩, fun _ => (dead_iff o hlive H3.out).1 (HQE.out.1 hd), fun h => (by rw [hlive] at h; cases h)⟩
        have SO : Hid (∀ X fa fk, Below wr.heap.size wr X → RdI X fa [-1, -1, -1] → _) := fun X fa fk hX hfa => sameObj_calls o (emptyD o.gen) f fa fc fk X (HRF.out X hX) hfa (by omega) (by simp [emptyD]) q HQE.out
        have EO : Hid (∀ X : World, _) := fun X => emptyObj_calls o.gen X
        have D1 : Below wr.heap.size wr wr.drew := (Below.refl _ _).drew
        clear HQE
        rw [hf3] at SO HCE
        rw [hlive] at c0
        have hcell := HCE
        obtain ⟨ol, og, ost, oh, orr, oc, ofl, op⟩ := o
        simp only at *
        subst hlive
        unfold objV at SO EO
        simp only at SO EO
        clear HNJ HOX HRF HWF CL HK2
        have HSX : Hid (∀ X, Below wr.heap.size wr X → (fun X => X.cell? ⟨g, off + j * 8, none⟩ = some (.bool false) ∧ X.cell? ⟨g, off + j * 8 + 1, none⟩ = some (.int .i64 og) ∧ X.cell? ⟨g, off + j * 8 + 2, none⟩ = some (.int .i64 ost) ∧ X.cell? ⟨g, off + j * 8 + 3, none⟩ = some (.int .i64 oh) ∧ X.cell? ⟨g, off + j * 8 + 4, none⟩ = some (.int .i64 orr) ∧ X.cell? ⟨g, off + j * 8 + 5, none⟩ = some (.int .i64 oc) ∧ X.cell? ⟨g, off + j * 8 + 6, none⟩ = some (.slice f 3 fc) ∧ X.cell? ⟨g, off + j * 8 + 7, none⟩ = some (.bool op)) X) := fun X hX => ⟨(HCE.out X hX).c0, (HCE.out X hX).c1, (HCE.out X hX).c2, (HCE.out X hX).c3, (HCE.out X hX).c4, (HCE.out X hX).c5, (HCE.out X hX).c6, (HCE.out X hX).c7⟩
        clear hcell
        go_wp2_with fail
        refine (within_yes og 0 999 _ hgen.1 hgen.2).mono ?_
        rintro e V ⟨rfl, hV⟩
        subst hV
        go_wp2
        clear c0 c1 c2 c3 c4 c5 c6 c7
        refine wp_region_held_drew (S := (fun X => X.cell? ⟨g, off + j * 8, none⟩ = some (.bool false) ∧ X.cell? ⟨g, off + j * 8 + 1, none⟩ = some (.int .i64 og) ∧ X.cell? ⟨g, off + j * 8 + 2, none⟩ = some (.int .i64 ost) ∧ X.cell? ⟨g, off + j * 8 + 3, none⟩ = some (.int .i64 oh) ∧ X.cell? ⟨g, off + j * 8 + 4, none⟩ = some (.int .i64 orr) ∧ X.cell? ⟨g, off + j * 8 + 5, none⟩ = some (.int .i64 oc) ∧ X.cell? ⟨g, off + j * 8 + 6, none⟩ = some (.slice f 3 fc) ∧ X.cell? ⟨g, off + j * 8 + 7, none⟩ = some (.bool op))) (by kernel_rfl) (HSX.out _ D1) (fun hHeld => ?_)
        refine wpAnyH_take (i := 0) (v := ?_) rfl (by kernel_rfl) (by kernel_rfl) (by kernel_rfl) (fun _ _ _ h => h) (Or.inl ⟨by rfl, ?_⟩) (by assumption) ?_
        rotate_left 1
        · intro wX hSw
          (try dsimp only at hSw)
          go_simp
          all_goals (try with_reducible rfl)
        (try simp only [Act.put, List.setIfInBounds_toArray])
        refine wpAnyH_take (i := 1) (v := ?_) rfl (by kernel_rfl) (by kernel_rfl) (by kernel_rfl) (fun _ _ _ h => h) (Or.inl ⟨by rfl, ?_⟩) (by assumption) ?_
        rotate_left 1
        · intro wX hSw
          (try dsimp only at hSw)
          go_simp
          all_goals (try with_reducible rfl)
        (try simp only [Act.put])
        refine wpAnyH_take (i := 2) (v := ?_) rfl (by kernel_rfl) (by kernel_rfl) (by kernel_rfl) (fun _ _ _ h => h) (Or.inl ⟨by rfl, ?_⟩) (by assumption) ?_
        rotate_left 1
        · intro wX hSw
          (try dsimp only at hSw)
          go_simp
          all_goals (try with_reducible rfl)
        (try simp only [Act.put])
        refine wpAnyH_take (i := 3) (v := ?_) rfl (by kernel_rfl) (by kernel_rfl) (by kernel_rfl) (fun _ _ _ h => h) (Or.inl ⟨by rfl, ?_⟩) (by assumption) ?_
        rotate_left 1
        · intro wX hSw
          (try dsimp only at hSw)
          go_simp
          all_goals (try with_reducible rfl)
        (try simp only [Act.put])
        refine wpAnyH_take (i := 4) (v := ?_) rfl (by kernel_rfl) (by kernel_rfl) (by kernel_rfl) (fun _ _ _ h => h) (Or.inl ⟨by rfl, ?_⟩) (by assumption) ?_
        rotate_left 1
        · intro wX hSw
          (try dsimp only at hSw)
          go_simp
          all_goals (try with_reducible rfl)
        (try simp only [Act.put])
        refine wpAnyH_take (i := 5) (v := undef) rfl (by kernel_rfl) (by kernel_rfl) (by kernel_rfl) (fun _ _ _ h => h) (Or.inr ⟨by simp [Region.wanted, yielded], rfl⟩) (by assumption) ?_
        (try simp only [Act.put])
        refine wpAnyH_take (i := 6) (v := undef) rfl (by kernel_rfl) (by kernel_rfl) (by kernel_rfl) (fun _ _ _ h => h) (Or.inr ⟨by simp [Region.wanted, yielded], rfl⟩) (by assumption) ?_
        (try simp only [Act.put])
        refine wpAnyH_take (i := 7) (v := undef) rfl (by kernel_rfl) (by kernel_rfl) (by kernel_rfl) (fun _ _ _ h => h) (Or.inr ⟨by simp [Region.wanted, yielded], rfl⟩) (by assumption) ?_
        (try simp only [Act.put])
        refine wpAnyH_take (i := 8) (v := undef) rfl (by kernel_rfl) (by kernel_rfl) (by kernel_rfl) (fun _ _ _ h => h) (Or.inr ⟨by simp [Region.wanted, yielded], rfl⟩) (by assumption) ?_
        (try simp only [Act.put])
        refine wpAnyH_take (i := 9) (v := undef) rfl (by kernel_rfl) (by kernel_rfl) (by kernel_rfl) (fun _ _ _ h => h) (Or.inr ⟨by simp [Region.wanted, yielded], rfl⟩) (by assumption) ?_
        (try simp only [Act.put])
        refine wpAnyH_take (i := 10) (v := ?_) rfl (by kernel_rfl) (by kernel_rfl) (by kernel_rfl) (fun _ _ _ h => h) (Or.inl ⟨by rfl, ?_⟩) (by assumption) ?_
        rotate_left 1
        · intro wX hSw
          (try dsimp only at hSw)
          go_simp
          all_goals (try with_reducible rfl)
        (try simp only [Act.put])
        refine wpAnyH_take (i := 11) (v := ?_) rfl (by kernel_rfl) (by kernel_rfl) (by kernel_rfl) (fun _ _ _ h => h) (Or.inl ⟨by rfl, ?_⟩) (by assumption) ?_
        rotate_left 1
        · intro wX hSw
          (try dsimp only at hSw)
          go_simp
          all_goals (try with_reducible rfl)
        (try simp only [Act.put])
        refine wpAnyH_take (i := 12) (v := ?_) rfl (by kernel_rfl) (by kernel_rfl) (by kernel_rfl) (fun _ _ _ h => h) (Or.inl ⟨by simp [Region.wanted, yielded], ?_⟩) (by assumption) ?_
        rotate_left 1
        · intro wX hSw
          (try dsimp only at hSw)
          go_simp
          all_goals (try with_reducible rfl)
        (try simp only [Act.put])
        refine wpAnyH_take (i := 13) (v := ?_) rfl (by kernel_rfl) (by kernel_rfl) (by kernel_rfl) (fun _ _ _ h => h) (Or.inl ⟨by simp [Region.wanted, yielded], ?_⟩) (by assumption) ?_
        rotate_left 1
        · intro wX hSw
          (try dsimp only at hSw)
          go_simp
          all_goals (try with_reducible rfl)
        (try simp only [Act.put])
        refine wpAnyH_take (i := 14) (v := ?_) rfl (by kernel_rfl) (by kernel_rfl) (by kernel_rfl) (fun _ _ _ h => h) (Or.inl ⟨by simp [Region.wanted, yielded], ?_⟩) (by assumption) ?_
        rotate_left 1
        · intro wX hSw
          (try dsimp only at hSw)
          go_simp
          all_goals (try with_reducible rfl)
        (try simp only [Act.put])
        refine wpAnyH_take (i := 15) (v := ?_) rfl (by kernel_rfl) (by kernel_rfl) (by kernel_rfl) (fun _ _ _ h => h) (Or.inl ⟨by simp [Region.wanted, yielded], ?_⟩) (by assumption) ?_
        rotate_left 1
        · intro wX hSw
          (try dsimp only at hSw)
          go_simp
          all_goals (try with_reducible rfl)
        (try simp only [Act.put])
        refine wpAnyH_take (i := 16) (v := ?_) rfl (by kernel_rfl) (by kernel_rfl) (by kernel_rfl) (fun _ _ _ h => h) (Or.inl ⟨by simp [Region.wanted, yielded], ?_⟩) (by assumption) ?_
        rotate_left 1
        · intro wX hSw
          (try dsimp only at hSw)
          go_simp
          all_goals (try with_reducible rfl)
        (try simp only [Act.put])
        refine wpAnyH_take (i := 17) (v := ?_) rfl (by kernel_rfl) (by kernel_rfl) (by kernel_rfl) (fun _ _ _ h => h) (Or.inl ⟨by simp [Region.wanted, yielded], ?_⟩) (by assumption) ?_
        rotate_left 1
        · intro wX hSw
          (try dsimp only at hSw)
          go_simp
          all_goals (try with_reducible rfl)
        (try simp only [Act.put])
        refine wpAnyH_take (i := 18) (v := ?_) rfl (by kernel_rfl) (by kernel_rfl) (by kernel_rfl) (fun _ _ _ h => h) (Or.inl ⟨by simp [Region.wanted, yielded], ?_⟩) (by assumption) ?_
        rotate_left 1
        · intro wX hSw
          (try dsimp only at hSw)
          go_simp
          all_goals (try with_reducible rfl)
        (try simp only [Act.put])
        refine wpAnyH_take (i := 19) (v := ?_) rfl (by kernel_rfl) (by kernel_rfl) (by kernel_rfl) (fun _ _ _ h => h) (Or.inl ⟨by simp [Region.wanted, yielded], ?_⟩) (by assumption) ?_
        rotate_left 1
        · intro wX hSw
          (try dsimp only at hSw)
          go_simp
          all_goals (try with_reducible rfl)
        (try simp only [Act.put])
        refine wpAnyH_take (i := 20) (v := ?_) rfl (by kernel_rfl) (by kernel_rfl) (by kernel_rfl) (fun _ _ _ h => h) (Or.inl ⟨by simp [Region.wanted, yielded], ?_⟩) (by assumption) ?_
        rotate_left 1
        · intro wX hSw
          (try dsimp only at hSw)
          go_simp
          all_goals (try with_reducible rfl)
        (try simp only [Act.put])
        refine wpAnyH_take (i := 21) (v := ?_) rfl (by kernel_rfl) (by kernel_rfl) (by kernel_rfl) (fun _ _ _ h => h) (Or.inl ⟨by simp [Region.wanted, yielded], ?_⟩) (by assumption) ?_
        rotate_left 1
        · intro wX hSw
          (try dsimp only at hSw)
          go_simp
          all_goals (try with_reducible rfl)
        (try simp only [Act.put])
        refine wpAnyH_take (i := 22) (v := ?_) rfl (by kernel_rfl) (by kernel_rfl) (by kernel_rfl) (fun _ _ _ h => h) (Or.inl ⟨by simp [Region.wanted, yielded], ?_⟩) (by assumption) ?_
        rotate_left 1
        · intro wX hSw
          (try dsimp only at hSw)
          go_simp
          all_goals (try with_reducible rfl)
        (try simp only [Act.put])
        refine wpAnyH_take (i := 23) (v := ?_) rfl (by kernel_rfl) (by kernel_rfl) (by kernel_rfl) (fun _ _ _ h => h) (Or.inl ⟨by simp [Region.wanted, yielded], ?_⟩) (by assumption) ?_
        rotate_left 1
        · intro wX hSw
          (try dsimp only at hSw)
          go_simp
          all_goals (try with_reducible rfl)
        (try simp only [Act.put])
        refine wpAnyH_take (i := 24) (v := ?_) rfl (by kernel_rfl) (by kernel_rfl) (by kernel_rfl) (fun _ _ _ h => h) (Or.inl ⟨by simp [Region.wanted, yielded], ?_⟩) (by assumption) ?_
        rotate_left 1
        · intro wX hSw
          (try dsimp only at hSw)
          go_simp
          all_goals (try with_reducible rfl)
        (try simp only [Act.put])
        refine wpAnyH_ready (rs := [25]) (by kernel_rfl) (by simp) ?_
        refine AllReadyH.cons rfl (fun K hK => ?_) AllReadyH.nil
        go_simp
        refine (EO.out _).mono ?_
        rintro e w1 ⟨fv, rfl, O1, b1⟩
        obtain ⟨fa, fk, hfv, hr1⟩ := rdI_own' O1
        subst hfv
        have B1 := D1.trans (b1.mono D1.size)
        refine hK.out _ _ (HSX.out _ B1) (fun hHeld2 => ?_)
        clear hK K hHeld
        (try simp only [Act.put, List.setIfInBounds_toArray, List.set_cons_zero, List.set_cons_succ])
        refine wpAnyH_ready (rs := [26]) (by kernel_rfl) (by simp) ?_
        refine AllReadyH.cons rfl (fun K hK => ?_) AllReadyH.nil
        go_simp
        refine (SO.out _ _ _ B1 hr1).mono ?_
        rintro e w2 ⟨rfl, b2⟩
        have B2 := B1.trans (b2.mono B1.size)
        refine hK.out _ _ (HSX.out _ B2) (fun hHeld3 => ?_)
        clear hK K hHeld2
        (try simp only [Act.put, List.setIfInBounds_toArray, List.set_cons_zero, List.set_cons_succ])
        cases q with
        | true =>
          have HFIN : Hid _ := HFN.out rfl
          clear HL HFN
          refine wpAnyH_take (i := 27) (v := .bool false) rfl (by kernel_rfl) (by kernel_rfl) (by kernel_rfl) (fun _ _ _ h => h) (Or.inl ⟨by simp [Region.wanted, yielded], ?_⟩) (by assumption) ?_
          · intro wX hSw
            (try dsimp only at hSw)
            go_simp
            all_goals (try with_reducible rfl)
          (try simp only [Act.put, List.setIfInBounds_toArray])
          refine wpAnyH_take (i := 28) (v := .bool false) rfl (by kernel_rfl) (by kernel_rfl) (by kernel_rfl) (fun _ _ _ h => h) (Or.inl ⟨by simp [Region.wanted, yielded], ?_⟩) (by assumption) ?_
          · intro wX hSw
            (try dsimp only at hSw)
            go_simp
            all_goals (try with_reducible rfl)
          (try simp only [Act.put])
          refine wpAnyH_take (i := 29) (v := .bool false) rfl (by kernel_rfl) (by kernel_rfl) (by kernel_rfl) (fun _ _ _ h => h) (Or.inl ⟨by rfl, ?_⟩) (by assumption) ?_
          · intro wX hSw
            (try dsimp only at hSw)
            go_simp
            all_goals (try with_reducible rfl)
          (try simp only [Act.put])
          refine wpAnyH_done (by kernel_rfl) ?_ _
          go_wp2
          go_roundw
          case rel => exact ⟨j + 1, by omega, by go_num, hb.trans (B2.mono hb.size), HFIN⟩
          case measure => simp [intOf]; omega
        | false =>
          have hb0 := HL.out rfl
          subst hb0
          clear HL HFN
          refine wpAnyH_take (i := 27) (v := .bool true) rfl (by kernel_rfl) (by kernel_rfl) (by kernel_rfl) (fun _ _ _ h => h) (Or.inl ⟨by simp [Region.wanted, yielded], ?_⟩) (by assumption) ?_
          · intro wX hSw
            (try dsimp only at hSw)
            go_simp
            all_goals (try with_reducible rfl)
          (try simp only [Act.put, List.setIfInBounds_toArray])
          refine wpAnyH_take (i := 28) (v := .bool true) rfl (by kernel_rfl) (by kernel_rfl) (by kernel_rfl) (fun _ _ _ h => h) (Or.inl ⟨by simp [Region.wanted, yielded], ?_⟩) (by assumption) ?_
          · intro wX hSw
            (try dsimp only at hSw)
            go_simp
            all_goals (try with_reducible rfl)
          (try simp only [Act.put])
          refine wpAnyH_take (i := 29) (v := .bool true) rfl (by kernel_rfl) (by kernel_rfl) (by kernel_rfl) (fun _ _ _ h => h) (Or.inl ⟨by rfl, ?_⟩) (by assumption) ?_
          · intro wX hSw
            (try dsimp only at hSw)
            go_simp
            all_goals (try with_reducible rfl)
          (try simp only [Act.put])
          refine wpAnyH_done (by kernel_rfl) ?_ _
          go_wp2
          go_ret
          exact ⟨rfl, HB.out _ (hb.trans (B2.mono hb.size))⟩
    · have ej : 8 ≤ j := by omega
      obtain ⟨k0, k1, k2, k3⟩ := HK.out _ hb
      by_cases hw : AllW H.weaks
      · have hb1 := HAY.out (fun i hi => HJ.out i hi (by have := H0.out; omega)) hw
        subst hb1
        rw [HBW.out.2 hw] at CWK
        go_wp2_with fail
        refine (CWK.out _ hb).mono ?_
        rintro e w4 ⟨rfl, b4⟩
        go_wp2
        go_ret
        exact ⟨rfl, HB.out _ (hb.trans (b4.mono hb.size))⟩
      · have hb1 := HNW.out hw
        subst hb1
        rw [bool_no HBW.out hw] at CWK
        go_wp2_with fail
        refine (CWK.out _ hb).mono ?_
        rintro e w4 ⟨rfl, b4⟩
        go_wp2
        go_ret
        exact ⟨rfl, HB.out _ (hb.trans (b4.mono hb.size))⟩

end Go.Proofs.Ytjhdnachbahbmaa

namespace Go.Proofs.Ytjhdnachbahbmaa
open Go.RowKit
set_option linter.unusedVariables false
set_option maxRecDepth 100000

theorem refused_calls (c : Int) (w : World) :
    Calls Try.prog 17 #[.int .i64 c] w fun e w' => e = .returned (ansV c 0 (.slice none 0 0)) ∧ Below w.heap.size w w' := by
  go_enter Try.func17, Try.ntmps17
  go_wp2
  refine bodyPost_ret (v := ansV c 0 (.slice none 0 0)) (by simp [results, Try.results17, go_sem, ansV, *]) rfl ⟨rfl, ?_⟩
  exact (Below.refl _ _).alloc (Nat.le_refl _) _

def workV (k : Int) : Value :=
  if k = 1 then .func (.func 24) #[] #[]
  else if k = 2 ∨ k = 3 ∨ k = 5 ∨ k = 6 then .func (.func 25) #[] #[]
  else if k = 4 then .func (.func 26) #[] #[]
  else if k = 7 then .func (.func 27) #[] #[]
  else if k = 8 then .func (.func 28) #[] #[]
  else if k = 9 then .func (.func 29) #[] #[]
  else if k = 10 then .func (.func 30) #[] #[]
  else .nilFunc


set_option maxHeartbeats 4000000 in
theorem workOf_calls (k : Int) (w : World) (hk : in64 k) :
    Calls Try.prog 15 #[.int .i64 k] w fun e w' => e = .returned (workV k) ∧ Below w.heap.size w w' := by
  have hsf := fun (F : Fn) (a : Addr) (W : World) => run_store Try.prog W a (.func F #[] #[]) .plain rfl
  have hsn := fun (a : Addr) (W : World) => run_store Try.prog W a .nilFunc .plain rfl
  by_cases h0 : k < 0
  · have HV : Hid (workV k = .nilFunc) := by show _ = _; unfold workV; iterate 7 rw [if_neg (by omega)]
    rw [HV.out]
    go_enter Try.func15, Try.ntmps15
    go_wp2
    go_ret
    exact ⟨rfl, (Below.refl _ _).alloc (Nat.le_refl _) _⟩
  · by_cases h9 : 11 ≤ k
    · have HV : Hid (workV k = .nilFunc) := by show _ = _; unfold workV; iterate 7 rw [if_neg (by omega)]
      rw [HV.out]
      go_enter Try.func15, Try.ntmps15
      go_wp2
      go_ret
      exact ⟨rfl, (Below.refl _ _).alloc (Nat.le_refl _) _⟩
    · have hc : k = 0 ∨ k = 1 ∨ k = 2 ∨ k = 3 ∨ k = 4 ∨ k = 5 ∨ k = 6 ∨ k = 7 ∨ k = 8 ∨ k = 9 ∨ k = 10 := by omega
      obtain ⟨v, hv⟩ : ∃ v, workV k = v := ⟨_, rfl⟩
      have HV : Hid (workV k = v) := hv
      rw [hv]
      clear hv h0 h9 hk
      rcases hc with rfl | rfl | rfl | rfl | rfl | rfl | rfl | rfl | rfl | rfl | rfl
      all_goals
        have e := HV.out
        simp only [workV, Int.reduceEq, if_true, if_false, or_true, or_self, or_false] at e
        subst e
        clear HV
        go_enter Try.func15, Try.ntmps15
        go_wp2
        go_ret
        exact ⟨rfl, (Below.refl _ _).alloc (Nat.le_refl _) _⟩

theorem unused_calls (d : WeakD) (w : World) :
    Calls Try.prog 48 #[weakV d] w fun e w' => e = .returned (.bool (!d.used)) ∧ Below w.heap.size w w' := by
  obtain ⟨u, t⟩ := d
  unfold weakV
  simp only
  go_enter Try.func48, Try.ntmps48
  go_wp2
  go_ret
  exact ⟨rfl, (Below.refl _ _).alloc (Nat.le_refl _) _⟩


theorem idxUnused_calls (w : World) (a : Option Addr) (cap : Nat) (ds : List WeakD) (h : RdW w a ds) (hn : ds.length ≤ 1048576) :
    Calls Try.prog 47 #[.slice a ds.length cap, .func (.func 48) #[] #[]] w fun e w' => e = .returned (.int .i64 (freeW ds 0)) ∧ Below w.heap.size w w' := by
  have HA : Hid (∀ X, Below w.heap.size w X → RdW X a ds) := fun X hX => rdW_later h hX
  have H0 : Hid (freeW ds 0 = freeW (ds.drop 0) ((0 : Nat) : Int)) := rfl
  have HS : Hid (∀ (j : Nat) (h : j < ds.length), freeW (ds.drop j) (j : Int) = _) := fun j h => freeW_step ds j h
  have HN : Hid (freeW (ds.drop ds.length) (ds.length : Int) = -1) := freeW_end ds _
  generalize freeW ds 0 = z at *
  obtain ⟨n, hnn⟩ : ∃ n, ds.length = n := ⟨_, rfl⟩
  have Hn : Hid (ds.length = n) := hnn
  rw [hnn] at hn HN
  rw [hnn]
  clear h hnn
  go_enter Try.func47, Try.ntmps47
  go_wp2
  go_loopw [8] (fun i X => ∃ j : Nat, j ≤ n ∧ i = .int .i64 j ∧ Below w.heap.size w X ∧ Hid (z = freeW (ds.drop j) (j : Int))) (fun i _ => n - (intOf i).toNat)
  case atStart => exact ⟨0, by omega, rfl, Below.refl _ _, H0⟩
  case round =>
    obtain ⟨j, hj, rfl, hb, HJ⟩ := hrel
    by_cases hlt : j < n
    · have hj2 : j < ds.length := by have := Hn.out; omega
      obtain ⟨g, off, rfl, hg, hc⟩ := HA.out _ hb j hj2
      obtain ⟨c0, c1⟩ := hc
      have HD := HS.out j hj2
      have CW : Hid (∀ X, _) := fun X => unused_calls ds[j] X
      rw [show weakV ds[j] = .agg #[.bool ds[j].used, .int .i64 ds[j].target] from rfl] at CW
      generalize ds[j].used = du at *
      generalize ds[j].target = dt at *
      cases du with
      | true =>
        have HFIN : Hid (z = freeW (ds.drop (j + 1)) ((j + 1 : Nat) : Int)) := by show _ = _; rw [HJ.out, HD]; simp
        clear HD
        go_wp2_with fail
        refine (CW.out _).mono ?_
        rintro e w1 ⟨rfl, b1⟩
        have B1 := hb.trans (b1.mono hb.size)
        go_wp2
        go_roundw
        case rel => exact ⟨j + 1, by omega, by go_num, B1, HFIN⟩
        case measure => simp [intOf]; omega
      | false =>
        have HFIN : Hid (z = (j : Int)) := by show _ = _; rw [HJ.out, HD]; simp
        clear HD
        go_wp2_with fail
        refine (CW.out _).mono ?_
        rintro e w1 ⟨rfl, b1⟩
        have B1 := hb.trans (b1.mono hb.size)
        go_wp2
        go_ret
        exact ⟨ret_zz HFIN.out.symm, B1⟩
    · obtain rfl : j = n := by omega
      have HFIN : Hid (z = -1) := by show _ = _; rw [HJ.out, HN.out]
      go_wp2
      go_ret
      exact ⟨ret_zz HFIN.out.symm, hb⟩

/-- What a method on an operation leaves. -/
def ImplPost (W : World) (B gx : Nat) (R : HeapD × AnsD) (e : Ending) (w' : World) : Prop := ∃ (s : HSh) (vf : Value), e = .returned (ansV R.2.code R.2.val vf) ∧ LS W w' B gx s R.1 (.slice none 0 0) vf [] R.2.freed

theorem used_no {H : HeapD} {a : Int} (h : usedW H a = none) : a < 0 ∨ (H.weaks.length : Int) ≤ a ∨ ∃ (k : Nat) (hk : k < H.weaks.length), a = (k : Int) ∧ H.weaks[k].used = false := by
  unfold usedW at h
  by_cases h0 : a < 0 ∨ (H.weaks.length : Int) ≤ a
  · rcases h0 with h0 | h0
    · exact .inl h0
    · exact .inr (.inl h0)
  · rw [if_neg h0] at h
    have hk : a.toNat < H.weaks.length := by omega
    rw [List.getElem?_eq_getElem hk] at h
    refine .inr (.inr ⟨a.toNat, hk, by omega, ?_⟩)
    cases hu : H.weaks[a.toNat].used with
    | false => rfl
    | true => simp [hu] at h
theorem used_yes {H : HeapD} {a : Int} {d : WeakD} (h : usedW H a = some d) : ∃ (k : Nat) (hk : k < H.weaks.length), a = (k : Int) ∧ H.weaks[k] = d ∧ d.used = true := by
  unfold usedW at h
  by_cases h0 : a < 0 ∨ (H.weaks.length : Int) ≤ a
  · rw [if_pos h0] at h; cases h
  · rw [if_neg h0] at h
    have hk : a.toNat < H.weaks.length := by omega
    rw [List.getElem?_eq_getElem hk] at h
    simp only at h
    split at h
    · rename_i hu
      injection h with h
      exact ⟨a.toNat, hk, by omega, h, by rw [← h]; exact hu⟩
    · cases h

theorem usedHandle_no (W wr : World) (B gx : Nat) (s : HSh) (H : HeapD) (vq vf : Value) (todo fr : List Int) (hL : LS W wr B gx s H vq vf todo fr) (hn : H.weaks.length ≤ 1048576) (a : Int) (h : usedW H a = none) :
    Calls Try.prog 49 #[.pointer (some ⟨gx, 0, none⟩), .int .i64 a] wr fun e w' => e = .returned (.pointer none) ∧ w' = wr := by
  have c1 : wr.cell? ⟨gx, 1, none⟩ = some (.slice s.wa s.wn s.wc) := hL.x.cell 1
  rw [hL.m.lw] at c1
  rcases used_no h with h0 | h0 | ⟨k, hk, rfl, hu⟩
  · clear h
    go_enter Try.func49, Try.ntmps49
    go_wp2
    go_ret
    exact ⟨rfl, rfl⟩
  · have h1 : ¬ a < 0 := by omega
    generalize H.weaks.length = n at *
    clear h hL
    go_enter Try.func49, Try.ntmps49
    go_wp2
    go_ret
    exact ⟨rfl, rfl⟩
  · obtain ⟨g, hg, hw, -⟩ := hL.m.wk k hk
    have d0 := hw.c0
    rw [hu] at d0
    rw [hg] at c1
    have hi : (k : Int) < (H.weaks.length : Int) := by omega
    clear h hL hw hu hg
    generalize H.weaks.length = n at *
    go_enter Try.func49, Try.ntmps49
    go_wp2
    go_ret
    exact ⟨rfl, rfl⟩
theorem usedHandle_yes (W wr : World) (B gx : Nat) (s : HSh) (H : HeapD) (vq vf : Value) (todo fr : List Int) (hL : LS W wr B gx s H vq vf todo fr) (hn : H.weaks.length ≤ 1048576) (k g : Nat) (hk : k < H.weaks.length) (hu : H.weaks[k].used = true) (hg : s.wa = some ⟨g, 0, none⟩) :
    Calls Try.prog 49 #[.pointer (some ⟨gx, 0, none⟩), .int .i64 (k : Int)] wr fun e w' => e = .returned (.pointer (some ⟨g, k * 2, none⟩)) ∧ w' = wr := by
  have c1 : wr.cell? ⟨gx, 1, none⟩ = some (.slice s.wa s.wn s.wc) := hL.x.cell 1
  rw [hL.m.lw] at c1
  obtain ⟨g2, hg2, hw, -⟩ := hL.m.wk k hk
  rw [hg] at hg2; injection hg2 with hg2; injection hg2 with hg2 _ _; subst hg2
  have d0 := hw.c0
  rw [hu] at d0
  rw [hg] at c1
  have hi : (k : Int) < (H.weaks.length : Int) := by omega
  clear hL hw hu hg
  generalize H.weaks.length = n at *
  go_enter Try.func49, Try.ntmps49
  go_wp2
  go_ret
  exact ⟨rfl, rfl⟩

end Go.Proofs.Ytjhdnachbahbmaa

namespace Go.Proofs.Ytjhdnachbahbmaa
open Go.RowKit
set_option linter.unusedVariables false
set_option maxRecDepth 100000

end Go.Proofs.Ytjhdnachbahbmaa

namespace Go.Proofs.Ytjhdnachbahbmaa
open Go.RowKit
set_option linter.unusedVariables false
set_option maxRecDepth 100000

structure BI (W wr : World) (B ga gb c d : Nat) (T : TrialD) (vq : Value) (todo : List Int) : Prop where
  bel : Below B W wr
  oth : ∀ g, g < W.heap.size → g ≠ ga → g ≠ gb → wr.heap[g]? = W.heap[g]?
  x : ownI wr B (.slice (some ⟨ga, 0, none⟩) 8 c) T.counts
  y : ownI wr B (.slice (some ⟨gb, 0, none⟩) 8 d) T.colors
  ne : ga ≠ gb
  la : ga < W.heap.size
  lb : gb < W.heap.size
  hB : B ≤ W.heap.size
  q : ownI wr W.heap.size vq todo
theorem BI.eight {W wr : World} {B ga gb c d : Nat} {T : TrialD} {vq : Value} {todo : List Int} (h : BI W wr B ga gb c d T vq todo) : Eight T := ⟨(own_len h.x).symm, (own_len h.y).symm⟩
theorem bi_later {W wr X : World} {B ga gb c d : Nat} {T : TrialD} {vq : Value} {todo : List Int} (h : BI W wr B ga gb c d T vq todo) (hb : Below wr.heap.size wr X) : BI W X B ga gb c d T vq todo :=
  have hs := h.bel.size
  ⟨h.bel.trans (hb.mono (Nat.le_trans h.hB hs)), fun g h1 h2 h3 => (hb.block g (by omega)).trans (h.oth g h1 h2 h3), ownI_later h.x hb, ownI_later h.y hb, h.ne, h.la, h.lb, h.hB, ownI_later h.q hb⟩
/-- A count is turned. -/
theorem bi_count {W wr : World} {B ga gb c d : Nat} {T : TrialD} {vq : Value} {todo : List Int} (h : BI W wr B ga gb c d T vq todo) (i : Nat) (z : Int) : BI W (wr.setCell ⟨ga, i, none⟩ (.int .i64 z)) B ga gb c d ⟨T.counts.set i z, T.colors⟩ vq todo := by
  have oth : ∀ g, g ≠ ga → (wr.setCell ⟨ga, i, none⟩ (.int .i64 z)).heap[g]? = wr.heap[g]? := fun g hg => heap_setCell_other _ _ _ _ (by exact hg)
  have hga := (ownI_lt h.x ga rfl).1
  refine ⟨h.bel.setCell hga _, fun g h1 h2 h3 => (oth g h2).trans (h.oth g h1 h2 h3), ownI_set h.x (own_len h.x) i z, ownI_same h.y (fun g hg => oth g (fun e => ?_)), h.ne, h.la, h.lb, h.hB, ownI_same h.q (fun g hg => oth g (fun e => ?_))⟩
  · have : gb = g := by simpa [Value.ownBlock] using hg
    exact h.ne (by omega)
  · have := (ownI_lt h.q g hg).1
    have := h.la
    omega
/-- A color is turned. -/
theorem bi_color {W wr : World} {B ga gb c d : Nat} {T : TrialD} {vq : Value} {todo : List Int} (h : BI W wr B ga gb c d T vq todo) (i : Nat) (z : Int) : BI W (wr.setCell ⟨gb, i, none⟩ (.int .i64 z)) B ga gb c d ⟨T.counts, T.colors.set i z⟩ vq todo := by
  have oth : ∀ g, g ≠ gb → (wr.setCell ⟨gb, i, none⟩ (.int .i64 z)).heap[g]? = wr.heap[g]? := fun g hg => heap_setCell_other _ _ _ _ (by exact hg)
  have hgb := (ownI_lt h.y gb rfl).1
  refine ⟨h.bel.setCell hgb _, fun g h1 h2 h3 => (oth g h3).trans (h.oth g h1 h2 h3), ownI_same h.x (fun g hg => oth g (fun e => ?_)), ownI_set h.y (own_len h.y) i z, h.ne, h.la, h.lb, h.hB, ownI_same h.q (fun g hg => oth g (fun e => ?_))⟩
  · have : ga = g := by simpa [Value.ownBlock] using hg
    exact h.ne (by omega)
  · have := (ownI_lt h.q g hg).1
    have := h.lb
    omega
/-- The last of a row is cut off. -/
theorem ownI_cut {w : World} {B n c : Nat} {a : Option Addr} {zs : List Int} {z : Int} (h : ownI w B (.slice a (n + 1) c) (zs ++ [z])) : ownI w B (.slice a n c) zs := by
  have hl := own_len h
  rw [List.length_append, List.length_singleton] at hl
  obtain rfl : n = zs.length := by omega
  rcases h with ⟨h1, ⟨h2, h3⟩ | ⟨g, cap, cur, h2, h3, h4, h5, h6, h7, h8⟩⟩
  · simp at h3
  · injection h2 with e1 e2 e3
    subst e1 e3
    rw [List.length_append, List.length_singleton] at h5 h8
    refine ⟨by simp, .inr ⟨g, c, cur, rfl, h3, h4, by omega, h6, h7, ?_⟩⟩
    have h9 := congrArg (List.take zs.length) h8
    rw [List.take_take, Nat.mul_one, Nat.min_eq_left (by omega), List.map_append] at h9
    rw [Nat.mul_one, h9]
    have e : (zs.map intV).length = zs.length := List.length_map ..
    rw [← e]
    exact List.take_left
theorem bi_pop {W wr : World} {B ga gb c d : Nat} {T : TrialD} {n qc : Nat} {qa : Option Addr} {rest : List Int} {k : Int} (h : BI W wr B ga gb c d T (.slice qa (n + 1) qc) (rest ++ [k])) : BI W wr B ga gb c d T (.slice qa n qc) rest :=
  ⟨h.bel, h.oth, h.x, h.y, h.ne, h.la, h.lb, h.hB, ownI_cut h.q⟩
/-- Another row waits. -/
theorem bi_push {W wr X : World} {B ga gb c d : Nat} {T : TrialD} {vq vq' : Value} {todo todo' : List Int} (h : BI W wr B ga gb c d T vq todo) (oth : ∀ i, i < wr.heap.size → vq.ownBlock ≠ some i → X.heap[i]? = wr.heap[i]?) (hbel : ∀ C w0, Below C w0 wr → C ≤ W.heap.size → Below C w0 X) (hq : ownI X W.heap.size vq' todo') : BI W X B ga gb c d T vq' todo' := by
  have hs := h.bel.size
  have far : ∀ g, g < W.heap.size → X.heap[g]? = wr.heap[g]? := fun g hg => oth g (by omega) (fun e => by have := (ownI_lt h.q g e).1; omega)
  refine ⟨hbel B W h.bel h.hB, fun g h1 h2 h3 => (far g h1).trans (h.oth g h1 h2 h3), ownI_same h.x (fun g hg => far g ?_), ownI_same h.y (fun g hg => far g ?_), h.ne, h.la, h.lb, h.hB, hq⟩
  · have : ga = g := by simpa [Value.ownBlock] using hg
    have := h.la
    omega
  · have : gb = g := by simpa [Value.ownBlock] using hg
    have := h.lb
    omega
theorem bi_cells {W wr : World} {B ga gb c d : Nat} {T : TrialD} {vq : Value} {todo : List Int} (h : BI W wr B ga gb c d T vq todo) (i : Nat) (hi : i < 8) :
    wr.cell? ⟨ga, i, none⟩ = some (.int .i64 (T.counts.getD i 0)) ∧ wr.frozen? ⟨ga, i, none⟩ = false ∧ wr.cell? ⟨gb, i, none⟩ = some (.int .i64 (T.colors.getD i 0)) ∧ wr.frozen? ⟨gb, i, none⟩ = false := by
  obtain ⟨l1, l2⟩ := h.eight
  have key : ∀ {g n c : Nat} {zs : List Int}, ownI wr B (.slice (some ⟨g, 0, none⟩) n c) zs → i < zs.length → wr.cell? ⟨g, i, none⟩ = some (.int .i64 (zs.getD i 0)) ∧ wr.frozen? ⟨g, i, none⟩ = false := by
    intro g n c zs ho hl
    rcases ownI_form ho with ⟨h1, _⟩ | ⟨g2, cap, h1, _, _, _, _, HC⟩
    · cases h1
    · injection h1 with e1
      injection e1 with e1
      injection e1 with e1
      subst e1
      have := HC.out i hl
      rw [List.getD_eq_getElem?_getD, List.getElem?_eq_getElem hl, Option.getD_some]
      exact this
  obtain ⟨a1, a2⟩ := key h.x (by omega)
  obtain ⟨b1, b2⟩ := key h.y (by omega)
  exact ⟨a1, a2, b1, b2⟩

/-- How many of the eight colors in a block are others: what the loops count down. -/
def othersAt (X : World) (gb : Nat) (c : Int) : Nat := ((List.range 8).filter fun i => match X.cell? ⟨gb, i, none⟩ with | some (.int _ q) => !decide (q = c) | _ => false).length
theorem othersAt_is {W wr : World} {B ga gb cc d : Nat} {T : TrialD} {vq : Value} {todo : List Int} (h : BI W wr B ga gb cc d T vq todo) (c : Int) : othersAt wr gb c = others c T.colors := by
  obtain ⟨l1, l2⟩ := h.eight
  unfold othersAt others
  have h1 : ((List.range 8).filter fun i => match wr.cell? ⟨gb, i, none⟩ with | some (.int _ q) => !decide (q = c) | _ => false) = (List.range 8).filter fun i => !decide (T.colors.getD i 0 = c) := by
    refine List.filter_congr (fun i hi => ?_)
    rw [(bi_cells h i (List.mem_range.1 hi)).2.2.1]
  rw [h1]
  obtain ⟨ys, hys⟩ : ∃ ys, T.colors = ys := ⟨_, rfl⟩
  rw [hys] at l2 ⊢
  match ys, l2 with
  | [a0, a1, a2, a3, a4, a5, a6, a7], _ =>
    simp only [List.range, List.range.loop, List.countP_eq_length_filter]
    by_cases e0 : a0 = c <;> by_cases e1 : a1 = c <;> by_cases e2 : a2 = c <;> by_cases e3 : a3 = c <;> by_cases e4 : a4 = c <;> by_cases e5 : a5 = c <;> by_cases e6 : a6 = c <;> by_cases e7 : a7 = c <;> simp [List.filter, List.getD, e0, e1, e2, e3, e4, e5, e6, e7]

end Go.Proofs.Ytjhdnachbahbmaa

namespace Go.Proofs.Ytjhdnachbahbmaa
open Go.RowKit
set_option linter.unusedVariables false
set_option maxRecDepth 100000

theorem opIndexI {t i j : Tmp} {ty : TypeId} {pos : String} {af : Array Edge} {a : Act} {X : World} {K : Act → World → Prop} {Q : Exit → Act → World → Prop} {g n c k : Nat} (h1 : a.eval (.tmp i) = .slice (some ⟨g, 0, none⟩) n c) (h2 : a.eval (.tmp j) = .int .i64 (k : Int)) (hk : k < n) (hK : K (a.put (some t) (.pointer (some ⟨g, k, none⟩))) X) :
    Oper.wp Try.prog ⟨some t, .indexAddr 28 (.tmp i) (.tmp j), ty, pos, af, none⟩ a X K Q := by
  have e1 := ev_tmp h1
  have e2 := ev_tmp h2
  have k1 : (0 : Int) ≤ (k : Int) := by omega
  have k2 : (k : Int) < (n : Int) := by omega
  go_simp; exact hK
theorem opAdd1 {t i : Tmp} {ty : TypeId} {pos : String} {af : Array Edge} {a : Act} {X : World} {K : Act → World → Prop} {Q : Exit → Act → World → Prop} {z : Int} (h1 : a.eval (.tmp i) = .int .i64 z) (hK : K (a.put (some t) (.int .i64 (wrap64 (z + 1)))) X) :
    Oper.wp Try.prog ⟨some t, .binOp .add 3 (.tmp i) (.const (.int .i64 1)) 3, ty, pos, af, none⟩ a X K Q := by
  have h := ev_tmp h1
  have e : IntKind.i64.wrap (z + 1) = wrap64 (z + 1) := by rw [IntKind.wrap_i64]; simp only [wrap64]
  go_simp; exact hK
theorem opStoreC {i : Tmp} {ty : TypeId} {pos : String} {af : Array Edge} {a : Act} {X : World} {K : Act → World → Prop} {Q : Exit → Act → World → Prop} {g p : Nat} {u : Value} {z : Int} (h1 : a.eval (.tmp i) = .pointer (some ⟨g, p, none⟩)) (hc : X.cell? ⟨g, p, none⟩ = some u) (hf : X.frozen? ⟨g, p, none⟩ = false) (hK : K a (X.setCell ⟨g, p, none⟩ (.int .i64 z))) :
    Oper.wp Try.prog ⟨none, .store 3 (.tmp i) (.const (.int .i64 z)), ty, pos, af, none⟩ a X K Q := by
  have e1 := ev_tmp h1
  go_simp; exact hK
/-- What each operation of 'x.Counts[kids[i]] = x.Counts[kids[i]] + 1' yields. -/
def RB (gx ga c gk n kc j s : Nat) (z z' : Int) : Nat → Value → Prop
  | 0, v => v = .pointer (some ⟨gx, 0, none⟩)
  | 1, v => v = .slice (some ⟨ga, 0, none⟩) 8 c
  | 2, v => v = .slice (some ⟨gk, 0, none⟩) n kc
  | 3, v => v = .int .i64 (j : Int)
  | 4, v => v = .pointer (some ⟨gk, j, none⟩)
  | 5, v => v = .int .i64 (s : Int)
  | 6, v => v = .pointer (some ⟨gx, 0, none⟩)
  | 7, v => v = .slice (some ⟨ga, 0, none⟩) 8 c
  | 8, v => v = .slice (some ⟨gk, 0, none⟩) n kc
  | 9, v => v = .int .i64 (j : Int)
  | 10, v => v = .pointer (some ⟨gk, j, none⟩)
  | 11, v => v = .int .i64 (s : Int)
  | 12, v => v = .pointer (some ⟨ga, s, none⟩)
  | 13, v => v = .int .i64 z
  | 14, v => v = .int .i64 z'
  | 15, v => v = .pointer (some ⟨ga, s, none⟩)
  | _, _ => True
/-- What each operation of 'x.Colors[kids[i]] = ..' yields. -/
def RCo (gx gb d gk n kc j s : Nat) : Nat → Value → Prop
  | 0, v => v = .pointer (some ⟨gx, 1, none⟩)
  | 1, v => v = .slice (some ⟨gb, 0, none⟩) 8 d
  | 2, v => v = .slice (some ⟨gk, 0, none⟩) n kc
  | 3, v => v = .int .i64 (j : Int)
  | 4, v => v = .pointer (some ⟨gk, j, none⟩)
  | 5, v => v = .int .i64 (s : Int)
  | 6, v => v = .pointer (some ⟨gb, s, none⟩)
  | _, _ => True
theorem ownI_one (X : World) (B : Nat) (k : Int) (h : B ≤ X.heap.size) : ownI (X.alloc (.cells #[.int .i64 k] 3)) B (.slice (some ⟨X.heap.size, 0, none⟩) 1 1) [k] :=
  ⟨by simp, .inr ⟨X.heap.size, 1, #[.int .i64 k], rfl, h, heap_alloc_new X _, Nat.le_refl _, by unfold maxLen; omega, rfl, rfl⟩⟩


end Go.Proofs.Ytjhdnachbahbmaa

namespace Go.Proofs.Ytjhdnachbahbmaa
open Go.RowKit
set_option linter.unusedVariables false
set_option maxRecDepth 100000

/-- What a region's operations yield: operation m what P says, the others what stands in the list. -/
def RP (m : Nat) (P : World → Value → Prop) (L : List Value) (i : Nat) (X : World) (v : Value) : Prop := (i = m → P X v) ∧ (i ≠ m → v = L.getD i undef)
theorem rp_mono {m : Nat} {P : World → Value → Prop} {L : List Value} (hP : ∀ X Y v, P X v → Below X.heap.size X Y → P Y v) (i : Nat) (X Y : World) (v : Value) (h : RP m P L i X v) (hb : Below X.heap.size X Y) : RP m P L i Y v :=
  ⟨fun e => hP X Y v (h.1 e) hb, h.2⟩
theorem rp_at {m : Nat} {P : World → Value → Prop} {L : List Value} {i : Nat} {X : World} {v u : Value} (h : RP m P L i X v) (hi : i ≠ m) (hu : L.getD i undef = u) : v = u := (h.2 hi).trans hu
theorem rp_p {m : Nat} {P : World → Value → Prop} {L : List Value} {X : World} {v : Value} (h : RP m P L m X v) : P X v := h.1 rfl
theorem rp_put {m : Nat} {P : World → Value → Prop} {L : List Value} {i : Nat} {X : World} {v : Value} (hi : i ≠ m) (hv : L.getD i undef = v) : RP m P L i X v := ⟨fun e => absurd e hi, fun _ => hv.symm⟩
theorem rp_call {m : Nat} {P : World → Value → Prop} {L : List Value} {X : World} {v : Value} (h : P X v) : RP m P L m X v := ⟨fun _ => h, fun e => absurd rfl e⟩
def noP : World → Value → Prop := fun _ _ => True
theorem noP_mono (X Y : World) (v : Value) (h : noP X v) (hb : Below X.heap.size X Y) : noP Y v := h

theorem opNil {t i : Tmp} {ty : TypeId} {pos : String} {af : Array Edge} {a : Act} {X : World} {K : Act → World → Prop} {Q : Exit → Act → World → Prop} {x : Addr} (h1 : a.eval (.tmp i) = .pointer (some x)) (hK : K (a.put (some t) (.pointer (some x))) X) :
    Oper.wp Try.prog ⟨some t, .nilCheck (.tmp i), ty, pos, af, none⟩ a X K Q := by
  have h := ev_tmp h1
  go_simp; exact hK

end Go.Proofs.Ytjhdnachbahbmaa

namespace Go.Proofs.Ytjhdnachbahbmaa
open Go.RowKit
set_option linter.unusedVariables false
set_option maxRecDepth 100000

theorem opFieldOp {t i : Tmp} {ty : TypeId} {pos : String} {af : Array Edge} {a : Act} {X : World} {K : Act → World → Prop} {Q : Exit → Act → World → Prop} {g : Nat} (k : Nat) (hk : k < 5) (h1 : a.eval (.tmp i) = .pointer (some ⟨g, 0, none⟩)) (hK : K (a.put (some t) (.pointer (some ⟨g, k, none⟩))) X) :
    Oper.wp Try.prog ⟨some t, .fieldAddr 25 (.tmp i) k, ty, pos, af, none⟩ a X K Q := by
  have h := ev_tmp h1
  match k, hk with
  | 0, _ => go_simp; exact hK
  | 1, _ => go_simp; exact hK
  | 2, _ => go_simp; exact hK
  | 3, _ => go_simp; exact hK
  | 4, _ => go_simp; exact hK
theorem opLoadTxt {t i : Tmp} {ty : TypeId} {pos : String} {af : Array Edge} {a : Act} {X : World} {K : Act → World → Prop} {Q : Exit → Act → World → Prop} {g p : Nat} {v : Value} (h1 : a.eval (.tmp i) = .pointer (some ⟨g, p, none⟩)) (hc : X.cell? ⟨g, p, none⟩ = some v) (hK : K (a.put (some t) v) X) :
    Oper.wp Try.prog ⟨some t, .load 9 (.tmp i), ty, pos, af, none⟩ a X K Q := by
  have h := ev_tmp h1
  go_simp; exact hK
/-- append of one text onto a row of one's own, at a frame of which only what is read is known. -/
theorem wp_appendT {w : World} {o : Oper} {a : Act} {K : Act → World → Prop} {Q : Exit → Act → World → Prop} (s x : Operand)
    (ho : o.op = .call { callee := .builtin .append, args := #[s, x], argTypes := #[31, 31] }) (B : Nat) (v : Value) (P : List (List UInt8)) (hs : a.eval s = v) (hown : ownS w B v P)
    (ad : Addr) (z : List UInt8) (hx : a.eval x = .slice (some ad) 1 1) (hsrc : w.cell? ad = some (.string (txt z))) (hlen : P.length ≤ 1677720) (hB : B ≤ w.heap.size)
    (h : ∀ v' w', ownS w' B v' (P ++ [z]) → w.heap.size ≤ w'.heap.size → (∀ i, i < w.heap.size → v.ownBlock ≠ some i → w'.heap[i]? = w.heap[i]?) → (v'.ownBlock = v.ownBlock ∨ v'.ownBlock = some w.heap.size) → (∀ C w0, Below C w0 w → C ≤ B → Below C w0 w') → K (a.put o.dst v') w') : o.wp Try.prog a w K Q := by
  obtain ⟨i0, hi, hz0, hz1, hz2⟩ := info_parts infoS
  have hlt := World.ownsRow.lt hown
  obtain ⟨v', w', hr, hown', hgrow, _, hat⟩ := run_append_own_at (P := Try.prog) w B 31 o.type 9 i0 (.string (txt [])) 1 16 Try.underlying31 hi hz0 hz1 hz2 rfl (by decide) v P.length (P.map strV) hown ad 1 1 [strV z] rfl
    (fun j u hj => by
      match j, hj with
      | 0, hj =>
        simp at hj
        subst hj
        rw [show ad.add 0 = ad from by cases ad; simp [Addr.add]]
        exact hsrc
      | j + 1, hj => simp at hj)
    (fun u hu => by simp at hu; subst hu; rfl) (by unfold maxLen; omega) (by omega) hB
  unfold Oper.wp execOp
  simp only [ho, resolve, invoke, builtin, Sem.run_bind, Sem.run_pure, Result.andThen_ok, List.map_toArray, List.map_cons, List.map_nil, hs, hx, hr]
  refine h v' w' ?_ hgrow.size (fun i hi hne => hgrow.block i hi (fun e => hne e.symm)) hat (fun C w0 hb hC => ?_)
  · unfold ownS
    rw [List.length_append, List.map_append]
    exact hown'
  · exact ⟨hgrow.os.trans hb.os, hgrow.tape.trans hb.tape, hgrow.output.trans hb.output, Nat.le_trans hb.size hgrow.size, fun k hk => (hgrow.block k (by omega) (fun e => by have := (hlt k e.symm).1; omega)).trans (hb.block k hk)⟩
theorem opNewT {t i : Tmp} {ty : TypeId} {pos : String} {af : Array Edge} {a : Act} {X : World} {K : Act → World → Prop} {Q : Exit → Act → World → Prop} {z : ByteArray} (h1 : a.eval (.tmp i) = .string z) (hK : K (a.put (some t) (.slice (some ⟨X.heap.size, 0, none⟩) 1 1)) (X.alloc (.cells #[.string z] 9))) :
    Oper.wp Try.prog ⟨some t, .buildSlice 31 1 #[(0, .tmp i)], ty, pos, af, none⟩ a X K Q := by
  have e1 := ev_tmp h1
  go_simp; exact hK
theorem opStoreTs {i j : Tmp} {ty : TypeId} {pos : String} {af : Array Edge} {a : Act} {X : World} {K : Act → World → Prop} {Q : Exit → Act → World → Prop} {g p n c : Nat} {u : Value} {x : Option Addr} (h1 : a.eval (.tmp i) = .pointer (some ⟨g, p, none⟩)) (h2 : a.eval (.tmp j) = .slice x n c) (hc : X.cell? ⟨g, p, none⟩ = some u) (hf : X.frozen? ⟨g, p, none⟩ = false) (hK : K a (X.setCell ⟨g, p, none⟩ (.slice x n c))) :
    Oper.wp Try.prog ⟨none, .store 31 (.tmp i) (.tmp j), ty, pos, af, none⟩ a X K Q := by
  have e1 := ev_tmp h1
  have e2 := ev_tmp h2
  go_simp; exact hK
theorem opCloneT {t i : Tmp} {ty : TypeId} {pos : String} {af : Array Edge} {ats : Array TypeId} {a : Act} {X : World} {K : Act → World → Prop} {Q : Exit → Act → World → Prop} {u : Value} {post : Ending → World → Prop} (h1 : a.eval (.tmp i) = u) (hC : Calls Try.prog 23 #[u] X post) (hK : ∀ e w', post e w' → ∃ x, e = .returned x ∧ K (a.put (some t) x) w') :
    Oper.wp Try.prog ⟨some t, .call { callee := .value (.func 23), args := #[.tmp i], argTypes := ats }, ty, pos, af, none⟩ a X K Q := by
  have e1 := ev_tmp h1
  go_simp
  refine hC.mono (fun e w' hp => ?_)
  obtain ⟨x, rfl, hx⟩ := hK e w' hp
  exact hx
theorem wpList_appendT {w : World} {ops : Array Oper} {rest : List Oper} {o : Oper} {a : Act} {Q : Exit → Act → World → Prop} (hgd : o.guard = none) (s x : Operand)
    (ho : o.op = .call { callee := .builtin .append, args := #[s, x], argTypes := #[31, 31] }) (B : Nat) (v : Value) (P : List (List UInt8)) (hs : a.eval s = v) (hown : ownS w B v P)
    (ad : Addr) (z : List UInt8) (hx : a.eval x = .slice (some ad) 1 1) (hsrc : w.cell? ad = some (.string (txt z))) (hlen : P.length ≤ 1677720) (hB : B ≤ w.heap.size)
    (h : ∀ v' w', ownS w' B v' (P ++ [z]) → w.heap.size ≤ w'.heap.size → Hid (∀ i, i < w.heap.size → v.ownBlock ≠ some i → w'.heap[i]? = w.heap[i]?) → Hid (v'.ownBlock = v.ownBlock ∨ v'.ownBlock = some w.heap.size) → Hid (∀ C w0, Below C w0 w → C ≤ B → Below C w0 w') → wpList Try.prog ops Q rest (a.put o.dst v') w') : wpList Try.prog ops Q (o :: rest) a w :=
  wpList_plain hgd fun _ hK => wp_appendT s x ho B v P hs hown ad z hx hsrc hlen hB fun v' w' h1 h2 h3 h4 h5 => hK _ _ (h v' w' h1 h2 h3 h4 h5)

end Go.Proofs.Ytjhdnachbahbmaa

namespace Go.Proofs.Ytjhdnachbahbmaa
open Go.RowKit
set_option linter.unusedVariables false
set_option maxRecDepth 100000

theorem opFieldO6 {t i : Tmp} {ty : TypeId} {pos : String} {af : Array Edge} {a : Act} {X : World} {K : Act → World → Prop} {Q : Exit → Act → World → Prop} {g p : Nat} (h1 : a.eval (.tmp i) = .pointer (some ⟨g, p, none⟩)) (hK : K (a.put (some t) (.pointer (some ⟨g, p + 6, none⟩))) X) :
    Oper.wp Try.prog ⟨some t, .fieldAddr 50 (.tmp i) 6, ty, pos, af, none⟩ a X K Q := by
  have h := ev_tmp h1
  go_simp; exact hK
theorem opLoadHw {t i : Tmp} {ty : TypeId} {pos : String} {af : Array Edge} {a : Act} {X : World} {K : Act → World → Prop} {Q : Exit → Act → World → Prop} {g : Nat} {x0 x1 x2 x3 : Value} (h1 : a.eval (.tmp i) = .pointer (some ⟨g, 0, none⟩)) (hf : Four X g x0 x1 x2 x3) (hK : K (a.put (some t) (.agg #[x0, x1, x2, x3])) X) :
    Oper.wp Try.prog ⟨some t, .load 33 (.tmp i), ty, pos, af, none⟩ a X K Q := by
  have h := ev_tmp h1
  obtain ⟨c0, c1, c2, c3⟩ := hf.cells
  clear hf
  go_simp; exact hK
theorem opBuildWk {t j : Tmp} {ty : TypeId} {pos : String} {af : Array Edge} {a : Act} {X : World} {K : Act → World → Prop} {Q : Exit → Act → World → Prop} {z : Int} (h1 : a.eval (.tmp j) = .int .i64 z) (hK : K (a.put (some t) (.agg #[.bool true, .int .i64 z])) X) :
    Oper.wp Try.prog ⟨some t, .build 63 #[(0, .const (.bool true)), (1, .tmp j)], ty, pos, af, none⟩ a X K Q := by
  have h := ev_tmp h1
  go_simp; exact hK
theorem opIndexW {t i j : Tmp} {ty : TypeId} {pos : String} {af : Array Edge} {a : Act} {X : World} {K : Act → World → Prop} {Q : Exit → Act → World → Prop} {g n c k : Nat} (h1 : a.eval (.tmp i) = .slice (some ⟨g, 0, none⟩) n c) (h2 : a.eval (.tmp j) = .int .i64 (k : Int)) (hk : k < n) (hK : K (a.put (some t) (.pointer (some ⟨g, k * 2, none⟩))) X) :
    Oper.wp Try.prog ⟨some t, .indexAddr 30 (.tmp i) (.tmp j), ty, pos, af, none⟩ a X K Q := by
  have e1 := ev_tmp h1
  have e2 := ev_tmp h2
  have k1 : (0 : Int) ≤ (k : Int) := by omega
  have k2 : (k : Int) < (n : Int) := by omega
  go_simp; exact hK
theorem opStoreWk {i j : Tmp} {ty : TypeId} {pos : String} {af : Array Edge} {a : Act} {X : World} {K : Act → World → Prop} {Q : Exit → Act → World → Prop} {g p : Nat} {b : Bool} {z : Int} {u0 u1 : Value} (h1 : a.eval (.tmp i) = .pointer (some ⟨g, p, none⟩)) (h2 : a.eval (.tmp j) = .agg #[.bool b, .int .i64 z]) (c0 : X.cell? ⟨g, p, none⟩ = some u0) (c1 : X.cell? ⟨g, p + 1, none⟩ = some u1) (f0 : X.frozen? ⟨g, p, none⟩ = false) (f1 : X.frozen? ⟨g, p + 1, none⟩ = false) (hK : K a (setWeak X g p ⟨b, z⟩)) :
    Oper.wp Try.prog ⟨none, .store 63 (.tmp i) (.tmp j), ty, pos, af, none⟩ a X K Q := by
  have e1 := ev_tmp h1
  have e2 := ev_tmp h2
  unfold setWeak at hK
  go_simp; exact hK

theorem opGainI {t i j : Tmp} {ty : TypeId} {pos : String} {af : Array Edge} {ats : Array TypeId} {a : Act} {X : World} {K : Act → World → Prop} {Q : Exit → Act → World → Prop} {u v : Value} {post : Ending → World → Prop} (h1 : a.eval (.tmp i) = u) (h2 : a.eval (.tmp j) = v) (hC : Calls Try.prog 45 #[u, v] X post) (hK : ∀ e w', post e w' → ∃ x, e = .returned x ∧ K (a.put (some t) x) w') :
    Oper.wp Try.prog ⟨some t, .call { callee := .value (.func 45), args := #[.tmp i, .tmp j], argTypes := ats }, ty, pos, af, none⟩ a X K Q := by
  have e1 := ev_tmp h1
  have e2 := ev_tmp h2
  go_simp
  refine hC.mono (fun e w' hp => ?_)
  obtain ⟨x, rfl, hx⟩ := hK e w' hp
  exact hx

end Go.Proofs.Ytjhdnachbahbmaa

namespace Go.Proofs.Ytjhdnachbahbmaa
open Go.RowKit
set_option linter.unusedVariables false
set_option maxRecDepth 100000

set_option maxHeartbeats 4000000 in
theorem iTrialNew_calls (v : Value) (H : HeapD) (w : World) (h : RdH w v H) (hs : SmallH H) (hcap : CapH v) :
    Calls Try.prog 66 #[v] w fun e w' => ∃ s : TSh, e = .returned s.v ∧ TM w' w.heap.size s (trialNew H) ∧ Below w.heap.size w w' := by
  obtain ⟨ao, co, aw, cw, ab, cb, sa, sc, rfl, ro, -, -, -⟩ := h
  have hn := hs.objs
  obtain ⟨_, _, _, _, _, _, _, _, _, _, _, _, ev, hcap, -⟩ := hcap
  simp only [Value.agg.injEq, List.cons.injEq, Value.slice.injEq, Array.mk.injEq] at ev
  obtain ⟨⟨rfl, rfl, rfl⟩, -⟩ := ev
  clear hs
  obtain ⟨W, hW⟩ : ∃ W, W = (w.alloc (.cells #[.slice ao H.objs.length co, .slice aw H.weaks.length cw, .slice ab H.buffer.length cb, .slice sa H.sites.length sc] 33)).alloc (.cells #[.slice none 0 0, .slice none 0 0] 105) := ⟨_, rfl⟩
  have BW : Below w.heap.size w W := by rw [hW]; exact ((Below.refl _ _).alloc (Nat.le_refl _) _).alloc (by simp) _
  have hWs : W.heap.size = w.heap.size + 2 := by rw [hW]; simp
  have p0 : W.cell? ⟨w.heap.size, 0, none⟩ = some (.slice ao H.objs.length co) := by
    have f1 := Four.new w (.slice ao H.objs.length co) (.slice aw H.weaks.length cw) (.slice ab H.buffer.length cb) (.slice sa H.sites.length sc)
    have hb2 : Below (w.heap.size + 1) (w.alloc (.cells #[.slice ao H.objs.length co, .slice aw H.weaks.length cw, .slice ab H.buffer.length cb, .slice sa H.sites.length sc] 33)) W := by rw [hW]; exact (Below.refl _ _).alloc (by simp) _
    exact (hb2.cell (p := ⟨w.heap.size, 0, none⟩) (by simp)).trans (f1.cell 0)
  have FR : Two W (w.heap.size + 1) (.slice none 0 0) (.slice none 0 0) := by
    rw [hW]
    have f1 := Two.new (w.alloc (.cells #[.slice ao H.objs.length co, .slice aw H.weaks.length cw, .slice ab H.buffer.length cb, .slice sa H.sites.length sc] 33)) (.slice none 0 0) (.slice none 0 0)
    simpa using f1
  have HP : Hid (∀ X, Below W.heap.size W X → X.cell? ⟨w.heap.size, 0, none⟩ = some (.slice ao H.objs.length co)) := fun X hX => (hX.cell (p := ⟨w.heap.size, 0, none⟩) (by show w.heap.size < _; omega)).trans p0
  have HR : Hid (∀ X, Below W.heap.size W X → RdO X ao H.objs) := fun X hX => rdO_later (rdO_later ro BW) hX
  have HFR : Hid (∀ X, Below W.heap.size W X → Two X (w.heap.size + 1) (.slice none 0 0) (.slice none 0 0)) := fun X hX => FR.later hX (by omega)
  have HWs : Hid (W.heap.size = w.heap.size + 2) := hWs
  have HBW : Hid (Below w.heap.size w W) := BW
  have HT0 : Hid _ := ti_start W
  have HCS : Hid (∀ (j : Nat) (h : j < H.objs.length), (H.objs.take (j + 1)).map (·.count) = (H.objs.take j).map (·.count) ++ [H.objs[j].count]) := fun j h => cnt_step H j h
  have HZS : Hid (∀ (j : Nat) (h : j < H.objs.length), (H.objs.take (j + 1)).map (fun _ => (0 : Int)) = (H.objs.take j).map (fun _ => (0 : Int)) ++ [0]) := fun j h => zer_step H j h
  have HE : Hid (∀ j : Nat, j ≤ 8 → j ≤ H.objs.length → (j = 8 ∨ j = H.objs.length) → trialNew H = ⟨(H.objs.take j).map (·.count), (H.objs.take j).map (fun _ => 0)⟩) := by
    intro j h8 hl hj
    unfold trialNew
    rcases hj with rfl | rfl
    · rfl
    · rw [List.take_of_length_le h8, List.take_of_length_le (Nat.le_refl _)]
  obtain ⟨n, hnn⟩ : ∃ n, H.objs.length = n := ⟨_, rfl⟩
  have Hn : Hid (H.objs.length = n) := hnn
  rw [hnn] at hn hW HP HE hcap ⊢
  obtain ⟨gt, hgt⟩ : ∃ gt, W.heap.size = gt := ⟨_, rfl⟩
  have Hgt : Hid (W.heap.size = gt) := hgt
  rw [hgt] at HP HR HFR HT0
  have HR8 : Hid (∀ X, Below gt W X → RdO X ao H.objs) := HR
  obtain ⟨m, hm, hm8⟩ : ∃ m : Nat, m = min n 8 ∧ m ≤ 8 := ⟨_, rfl, Nat.min_le_right _ _⟩
  have hmn : m ≤ n := by omega
  have HM : Hid (m = 8 ∨ m = n) := by show _ ∨ _; omega
  have hmc : min n 8 ≤ co := by omega
  clear ro p0 FR BW hnn
  go_enter Try.func66, Try.ntmps66
  go_wp2
  rw [← hW, ← hWs, hgt]
  clear hW hWs hgt
  go_loopw [14] (fun i wr => ∃ (j : Nat) (xa : Option Addr) (xc : Nat) (ya : Option Addr) (yc : Nat), i = .int .i64 (j : Int) ∧ j ≤ m ∧ Hid (TI W wr gt (.slice xa j xc) (.slice ya j yc) ((H.objs.take j).map (·.count)) ((H.objs.take j).map (fun _ => 0)))) (fun i _ => m - (intOf i).toNat)
  case atStart => exact ⟨0, none, 0, none, 0, rfl, by omega, HT0⟩
  case round =>
    obtain ⟨j, xa, xc, ya, yc, rfl, hjm, HI⟩ := hrel
    by_cases hlt : j < m
    · have hj2 : j < H.objs.length := by have := Hn.out; omega
      obtain ⟨g, off, f, fc, rfl, hg, hc, -⟩ := HR.out wr HI.out.bel j hj2
      have HXS : Hid (_ = _) := HCS.out j hj2
      have HYS : Hid (_ = _) := HZS.out j hj2
      obtain ⟨o, ho⟩ : ∃ o, H.objs[j] = o := ⟨_, rfl⟩
      rw [ho] at hc HXS
      obtain ⟨c0, c1, c2, c3, c4, c5, c6, c7⟩ := hc
      have hll : ((H.objs.take j).map (fun o : ObjD => o.count)).length = j := by rw [List.length_map, List.length_take]; omega
      have hly0 : ((H.objs.take j).map (fun _ : ObjD => (0 : Int))).length = j := by rw [List.length_map, List.length_take]; omega
      obtain ⟨XS, hXS⟩ : ∃ XS, (H.objs.take j).map (fun o : ObjD => o.count) = XS := ⟨_, rfl⟩
      obtain ⟨YS, hYS⟩ : ∃ YS, (H.objs.take j).map (fun _ : ObjD => (0 : Int)) = YS := ⟨_, rfl⟩
      rw [hXS] at HI HXS hll
      rw [hYS] at HI HYS hly0
      have HLX : Hid (XS.length = j) := hll
      have HLY : Hid (YS.length = j) := hly0
      clear ho hXS hYS hll hly0
      generalize o.live = b0 at *
      generalize o.gen = z1 at *
      generalize o.site = z2 at *
      generalize o.holds = z3 at *
      generalize o.roots = z4 at *
      generalize o.count = z at *
      generalize o.field.length = fl at *
      generalize o.purple = b7 at *
      have t0 : wr.cell? ⟨gt, 0, none⟩ = some (.slice xa j xc) := HI.out.t.cell 0
      have hgl := HI.out.t.lt
      have hgn : ¬ gt = wr.heap.size := by omega
      have HY : Hid (∀ X, Below wr.heap.size wr X → TI W X gt (.slice xa j xc) (.slice ya j yc) XS YS) := fun X hX => ⟨HI.out.bel.trans (hX.mono (by omega)), ownI_later HI.out.x hX, ownI_later HI.out.y hX, HI.out.dif, HI.out.t.same (hX.block gt hgl)⟩
      obtain ⟨U, hU⟩ : ∃ U, U = wr.alloc (.cells #[.bool b0, .int .i64 z1, .int .i64 z2, .int .i64 z3, .int .i64 z4, .int .i64 z, .slice f fl fc, .bool b7] 50) := ⟨_, rfl⟩
      obtain ⟨V, hV⟩ : ∃ V, V = U.alloc (.cells #[.int .i64 z] 3) := ⟨_, rfl⟩
      have bU : Below wr.heap.size wr U := by rw [hU]; exact (Below.refl _ _).alloc (Nat.le_refl _) _
      have sU : U.heap.size = wr.heap.size + 1 := by rw [hU]; simp
      have HIV : Hid _ := HY.out V (by rw [hV]; exact bU.alloc bU.size _)
      have hVc : V.cell? ⟨U.heap.size, 0, none⟩ = some (.int .i64 z) := by rw [hV, World.cell?_alloc_mark]; rfl
      have HVs : Hid (gt + 1 ≤ V.heap.size) := by have := HIV.out.t.lt; exact this
      have HU : Hid (U = _) := hU
      have HsU : Hid (U.heap.size = wr.heap.size + 1) := sU
      clear hU bU sU HI
      go_wp2_with (at_builtin; rw [← HU.out]; try rw [← HsU.out]; rw [← hV]; clear hV HU HsU; refine wpList_appendL rfl _ _ rfl (gt + 1) _ _ rfl HIV.out.x ⟨U.heap.size, 0, none⟩ z rfl hVc ?hlen HVs.out ?_)
      case hlen => rw [HLX.out]; omega
      intro v4 X4 O4 s4 H4 A4 B4
      obtain ⟨xa2, xc2, rfl, -⟩ := rdI_own O4
      have hlx : (XS ++ [z]).length = j + 1 := by rw [List.length_append, HLX.out]; rfl
      rw [hlx] at O4 A4 ⊢
      have T4 : Two X4 gt (.slice xa j xc) (.slice ya j yc) := HIV.out.t.same (H4.out gt HIV.out.t.lt (fun e => by have := (ownI_lt HIV.out.x gt e).1; omega))
      have y4 : ownI X4 (gt + 1) (.slice ya j yc) _ := ownI_same HIV.out.y (fun q hq => H4.out q (ownI_lt HIV.out.y q hq).2 (fun e => HIV.out.dif q e hq))
      have HI2 : Hid _ := ti_x HIV.out (B4.out gt W HIV.out.bel (by omega)) T4 y4 O4 (by
        rcases A4.out with e | e
        · exact .inl e
        · exact .inr ⟨_, e, Nat.le_refl _⟩)
      have d4 : X4.cell? ⟨gt, 0, none⟩ = some (.slice xa j xc) := T4.cell 0
      have f4 := T4.frozen 0
      obtain ⟨Y, hY⟩ : ∃ Y, Y = X4.setCell ⟨gt, 0, none⟩ (.slice xa2 (j + 1) xc2) := ⟨_, rfl⟩
      rw [← hY] at HI2
      have y1 : Y.cell? ⟨gt, 1, none⟩ = some (.slice ya j yc) := HI2.out.t.cell 1
      have hgY := HI2.out.t.lt
      have hgY2 : ¬ gt = Y.heap.size := by omega
      have HY2 : Hid (∀ X, Below Y.heap.size Y X → TI W X gt (.slice xa2 (j + 1) xc2) (.slice ya j yc) (XS ++ [z]) YS) := fun X hX => ⟨HI2.out.bel.trans (hX.mono (by omega)), ownI_later HI2.out.x hX, ownI_later HI2.out.y hX, HI2.out.dif, HI2.out.t.same (hX.block gt hgY)⟩
      obtain ⟨V5, hV5⟩ : ∃ V, V = Y.alloc (.cells #[.int .i64 0] 3) := ⟨_, rfl⟩
      have HIV5 : Hid _ := HY2.out V5 (by rw [hV5]; exact (Below.refl _ _).alloc (Nat.le_refl _) _)
      have hVc5 : V5.cell? ⟨Y.heap.size, 0, none⟩ = some (.int .i64 0) := by rw [hV5, World.cell?_alloc_mark]; rfl
      have HVs5 : Hid (gt + 1 ≤ V5.heap.size) := by have := HIV5.out.t.lt; exact this
      clear T4 y4 O4 H4 A4 B4 hVc c0 c1 c2 c3 c4 c5 c6 c7 t0 HY HY2
      rw [hY] at y1
      have hYs : (X4.setCell ⟨gt, 0, none⟩ (.slice xa2 (j + 1) xc2)).heap.size = Y.heap.size := by rw [hY]
      have HhY : Hid (Y = _) := hY
      clear hY
      go_wp2_with (at_builtin; rw [← HhY.out]; rw [← hV5]; clear hV5; refine wpList_appendL rfl _ _ rfl (gt + 1) _ _ rfl HIV5.out.y ⟨Y.heap.size, 0, none⟩ 0 rfl hVc5 ?hlen2 HVs5.out ?_)
      case hlen2 => rw [HLY.out]; omega
      intro v6 X6 O6 s6 H6 A6 B6
      obtain ⟨ya4, yc4, rfl, -⟩ := rdI_own O6
      have hly : (YS ++ [0]).length = j + 1 := by rw [List.length_append, HLY.out]; rfl
      rw [hly] at O6 A6 ⊢
      have T6 : Two X6 gt (.slice xa2 (j + 1) xc2) (.slice ya j yc) := HIV5.out.t.same (H6.out gt HIV5.out.t.lt (fun e => by have := (ownI_lt HIV5.out.y gt e).1; omega))
      have x6 : ownI X6 (gt + 1) (.slice xa2 (j + 1) xc2) _ := ownI_same HIV5.out.x (fun q hq => H6.out q (ownI_lt HIV5.out.x q hq).2 (fun e => HIV5.out.dif q hq e))
      have HF : Hid _ := ti_y HIV5.out (B6.out gt W HIV5.out.bel (by omega)) T6 x6 O6 (by
        rcases A6.out with e | e
        · exact .inl e
        · exact .inr ⟨_, e, Nat.le_refl _⟩)
      have e4 : X6.cell? ⟨gt, 1, none⟩ = some (.slice ya j yc) := T6.cell 1
      have g4 := T6.frozen 1
      rw [← HXS.out, ← HYS.out] at HF
      clear T6 x6 O6 H6 A6 B6 y1 d4 f4
      go_wp2
      go_roundw
      case rel => exact ⟨j + 1, xa2, xc2, ya4, yc4, by go_num, by omega, HF⟩
      case measure => simp [intOf]; omega
    · have e8 : m ≤ j := by omega
      have HEE : Hid (_ = _) := HE.out j (by omega) (by omega) (by have := HM.out; omega)
      have TW := HI.out.t
      have RW := HFR.out _ HI.out.bel
      have x0 : wr.cell? ⟨gt, 0, none⟩ = some (.slice xa j xc) := TW.cell 0
      have x1 : wr.cell? ⟨gt, 1, none⟩ = some (.slice ya j yc) := TW.cell 1
      have r0 : wr.cell? ⟨w.heap.size + 1, 0, none⟩ = some (.slice none 0 0) := RW.cell 0
      have r1 : wr.cell? ⟨w.heap.size + 1, 1, none⟩ = some (.slice none 0 0) := RW.cell 1
      have z0 := RW.frozen 0
      have z1 := RW.frozen 1
      have HTM : Hid (TM (setTwo wr (w.heap.size + 1) (.slice xa j xc) (.slice ya j yc)) w.heap.size ⟨xa, j, xc, ya, j, yc⟩ (trialNew H)) := by
        have oth : ∀ q, gt + 1 ≤ q → (setTwo wr (w.heap.size + 1) (.slice xa j xc) (.slice ya j yc)).heap[q]? = wr.heap[q]? := fun q hq => setTwo_other _ _ _ _ q (by have := HWs.out; have := Hgt.out; omega)
        rw [HEE.out]
        have hle : w.heap.size ≤ gt + 1 := by have := HWs.out; have := Hgt.out; omega
        exact ⟨ownI_mono (ownI_same HI.out.x (fun q hq => oth q (ownI_lt HI.out.x q hq).1)) hle, ownI_mono (ownI_same HI.out.y (fun q hq => oth q (ownI_lt HI.out.y q hq).1)) hle, HI.out.dif⟩
      have HBL : Hid (Below w.heap.size w (setTwo wr (w.heap.size + 1) (.slice xa j xc) (.slice ya j yc))) := by
        unfold setTwo
        exact ((HBW.out.trans (HI.out.bel.mono (by have := HWs.out; have := Hgt.out; omega))).setCell (by simp) _).setCell (by simp) _
      clear TW RW HI HEE
      go_wp2
      exact bodyPost_ret (v := .agg #[.slice xa j xc, .slice ya j yc]) (by simp [results, Try.results66, go_sem, *]) rfl ⟨⟨xa, j, xc, ya, j, yc⟩, rfl, HTM.out, HBL.out⟩

end Go.Proofs.Ytjhdnachbahbmaa

namespace Go.Proofs.Ytjhdnachbahbmaa
open Go.RowKit Go.ChangeShapes Go.WideShapes Go.ChangeAt Go.Deep
set_option linter.unusedVariables false
set_option maxRecDepth 100000

structure SaneT (T : TrialD) : Prop where
  counts : T.counts.length ≤ 9223372036854775807
  colors : T.colors.length ≤ 9223372036854775807
  wcounts : ∀ z ∈ T.counts, in64 z
  wcolors : ∀ z ∈ T.colors, in64 z

def szT (T : TrialD) (l : Int) : Int := if szN T.counts.length l < 0 then -1 else szN T.colors.length (szN T.counts.length l)

theorem szT_small (T : TrialD) {l : Int} (hl : l ≤ 1048576) (h : ¬ szT T l < 0) : SmallT T := by
  unfold szT szN at h
  constructor <;> (split at h <;> (try split at h) <;> (try split at h) <;> omega)

theorem szT_le (T : TrialD) (l : Int) (h : 0 ≤ l) : szT T l ≤ l := by
  unfold szT szN
  split <;> (try split) <;> (try split) <;> omega

theorem own_dif {w w1 : World} {B : Nat} {u v : Value} {xs ys : List Int} (h1 : ownI w B u xs) (h2 : ownI w1 w.heap.size v ys) : Dif2 u v := fun g hu hv => by
  have a := (ownI_lt h1 g hu).2
  have b := (ownI_lt h2 g hv).1
  omega

/-- What markTrial stores. -/
def markT (s : TSh) (k : Int) : Sts := mkI s.a k s.n ++ mkI s.b (k + (s.n : Int)) s.m

structure CanT (w : World) (s : TSh) : Prop where
  x : CanI w s.a s.n
  y : CanI w s.b s.m
  ln : s.n ≤ 16777216
  lm : s.m ≤ 16777216

theorem tsh_v (s : TSh) : s.v = .agg #[.slice s.a s.n s.c, .slice s.b s.m s.d] := rfl

theorem TM.can {w : World} {B : Nat} {s : TSh} {T : TrialD} (h : TM w B s T) (h1 : T.counts.length ≤ 16777216) (h2 : T.colors.length ≤ 16777216) : CanT w s := by
  obtain ⟨l1, l2⟩ := h.lens
  have hx : ownI w B (.slice s.a s.n s.c) T.counts := h.x
  have hy : ownI w B (.slice s.b s.m s.d) T.colors := h.y
  obtain ⟨a, c, e, q, -⟩ := ownI_can hx
  obtain ⟨b, d, e2, q2, -⟩ := ownI_can hy
  simp only [Value.slice.injEq] at e e2
  exact ⟨by rw [e.1, l1]; exact q, by rw [e2.1, l2]; exact q2, by omega, by omega⟩

theorem TM.blk {w : World} {B : Nat} {s : TSh} {T : TrialD} (h : TM w B s T) (k : Int) : ∀ q ∈ markT s k, B ≤ q.1.block ∧ q.1.block < w.heap.size := by
  intro q hq
  rcases List.mem_append.1 hq with hq | hq
  · obtain ⟨-, x, hx, e⟩ := mkI_block _ _ _ _ hq
    have := ownI_lt h.x x.block (by show (Value.slice s.a s.n s.c).ownBlock = _; rw [hx]; rfl)
    rw [e]; exact this
  · obtain ⟨-, x, hx, e⟩ := mkI_block _ _ _ _ hq
    have := ownI_lt h.y x.block (by show (Value.slice s.b s.m s.d).ownBlock = _; rw [hx]; rfl)
    rw [e]; exact this

theorem TM.nodup {w : World} {B : Nat} {s : TSh} {T : TrialD} (h : TM w B s T) (k : Int) : ((markT s k).map (·.1)).Nodup := by
  unfold markT
  rw [List.map_append, List.nodup_append]
  refine ⟨mkI_nodup _ _ _, mkI_nodup _ _ _, ?_⟩
  intro x hx y hy e
  obtain ⟨p, hp, rfl⟩ := List.mem_map.1 hx
  obtain ⟨q, hq, rfl⟩ := List.mem_map.1 hy
  obtain ⟨-, x, h1, e1⟩ := mkI_block _ _ _ _ hp
  obtain ⟨-, y, h2, e2⟩ := mkI_block _ _ _ _ hq
  refine h.dif x.block (by show (Value.slice s.a s.n s.c).ownBlock = _; rw [h1]; rfl) ?_
  show (Value.slice s.b s.m s.d).ownBlock = _
  rw [h2, ← e1, e, e2]; rfl

structure HeldT (w : World) (s : TSh) (k : Int) : Prop where
  all : ∀ q ∈ markT s k, w.cell? q.1 = some q.2
  x : 0 < s.n → ∃ g off, s.a = some ⟨g, off, none⟩ ∧ g < w.heap.size
  y : 0 < s.m → ∃ g off, s.b = some ⟨g, off, none⟩ ∧ g < w.heap.size

theorem HeldT.later {w w' : World} {s : TSh} {k : Int} (h : HeldT w s k) (hb : Below w.heap.size w w') : HeldT w' s k := by
  refine ⟨fun q hq => ?_, fun hn => ?_, fun hn => ?_⟩
  · refine (hb.cell ?_).trans (h.all q hq)
    rcases List.mem_append.1 hq with hq | hq
    · obtain ⟨h0, x, hx, e⟩ := mkI_block _ _ _ _ hq
      obtain ⟨g, off, h1, h2⟩ := h.x h0
      rw [hx] at h1; injection h1 with h1; rw [e, h1]; exact h2
    · obtain ⟨h0, x, hx, e⟩ := mkI_block _ _ _ _ hq
      obtain ⟨g, off, h1, h2⟩ := h.y h0
      rw [hx] at h1; injection h1 with h1; rw [e, h1]; exact h2
  · obtain ⟨g, off, h1, h2⟩ := h.x hn; exact ⟨g, off, h1, Nat.lt_of_lt_of_le h2 hb.size⟩
  · obtain ⟨g, off, h1, h2⟩ := h.y hn; exact ⟨g, off, h1, Nat.lt_of_lt_of_le h2 hb.size⟩

theorem TM.held {w w' : World} {B : Nat} {s : TSh} {T : TrialD} {k : Int} (h : TM w B s T) (h1 : T.counts.length ≤ 16777216) (h2 : T.colors.length ≤ 16777216) (hb : Below w.heap.size (stores w (markT s k)) w') : HeldT w' s k := by
  have hc := h.can h1 h2
  have hz : HeldT (stores w (markT s k)) s k := by
    refine ⟨stores_mem _ (h.nodup k) w (fun p hp => ?_), fun hn => ?_, fun hn => ?_⟩
    · rcases List.mem_append.1 hp with hp | hp
      · exact mkI_some hc.x p hp
      · exact mkI_some hc.y p hp
    · obtain ⟨g, off, e, l, -⟩ := hc.x 0 hn; exact ⟨g, off, e, by rw [stores_size]; exact l⟩
    · obtain ⟨g, off, e, l, -⟩ := hc.y 0 hn; exact ⟨g, off, e, by rw [stores_size]; exact l⟩
  refine hz.later ?_
  rw [stores_size]; exact hb

section
variable {T : Type} {enc : TypeId × Value → T} {w : World} {held : Bool}

end

theorem rdT_form {w : World} {v : Value} {T : TrialD} (r : RdT w v T) : ∃ a0 n0 k0 a1 n1 k1, v = .agg #[.slice a0 n0 k0, .slice a1 n1 k1] := by
  obtain ⟨a, c, b, d, h, -, -⟩ := r
  exact ⟨_, _, _, _, _, _, h⟩

theorem two_kept (w : World) (t : TypeId) (x0 x1 : Value) (X : World) (hX : Below (w.heap.size + 1) (w.alloc (.cells #[x0, x1] t)) X) : X.cell? ⟨w.heap.size, 0, none⟩ = some x0 ∧ X.cell? ⟨w.heap.size, 1, none⟩ = some x1 := by
  have h : ∀ k, X.cell? ⟨w.heap.size, k, none⟩ = (#[x0, x1] : Array Value)[k]? := fun k => by
    rw [hX.cell (p := ⟨w.heap.size, k, none⟩) (Nat.lt_succ_self _), World.cell?_alloc_mark]
  exact ⟨h 0, h 1⟩

end Go.Proofs.Ytjhdnachbahbmaa

namespace Go.Proofs.Ytjhdnachbahbmaa
open Go.RowKit
set_option linter.unusedVariables false
set_option maxRecDepth 100000

theorem opAllocT {t : Tmp} {ty : TypeId} {pos : String} {af : Array Edge} {a : Act} {X : World} {K : Act → World → Prop} {Q : Exit → Act → World → Prop} (hK : K (a.put (some t) (.pointer (some ⟨X.heap.size, 0, none⟩))) (X.alloc (.cells #[.slice none 0 0, .slice none 0 0] 105))) :
    Oper.wp Try.prog ⟨some t, .alloc 105, ty, pos, af, none⟩ a X K Q := by
  go_simp; exact hK

theorem opImplMarkGray {t i j k : Tmp} {ty : TypeId} {pos : String} {af : Array Edge} {ats : Array TypeId} {a : Act} {X : World} {K : Act → World → Prop} {Q : Exit → Act → World → Prop} {u v z : Value} {post : Ending → World → Prop} (h1 : a.eval (.tmp i) = u) (h2 : a.eval (.tmp j) = v) (h3 : a.eval (.tmp k) = z) (hC : Calls Try.prog 67 #[u, v, z] X post) (hK : ∀ e w', post e w' → ∃ x, e = .returned x ∧ K (a.put (some t) x) w') :
    Oper.wp Try.prog ⟨some t, .call { callee := .value (.func 67), args := #[.tmp i, .tmp j, .tmp k], argTypes := ats }, ty, pos, af, none⟩ a X K Q := by
  have e1 := ev_tmp h1
  have e2 := ev_tmp h2
  have e3 := ev_tmp h3
  go_simp
  refine hC.mono (fun e w' hp => ?_)
  obtain ⟨x, rfl, hx⟩ := hK e w' hp
  exact hx

theorem opImplScanFrom {t i j k : Tmp} {ty : TypeId} {pos : String} {af : Array Edge} {ats : Array TypeId} {a : Act} {X : World} {K : Act → World → Prop} {Q : Exit → Act → World → Prop} {u v z : Value} {post : Ending → World → Prop} (h1 : a.eval (.tmp i) = u) (h2 : a.eval (.tmp j) = v) (h3 : a.eval (.tmp k) = z) (hC : Calls Try.prog 68 #[u, v, z] X post) (hK : ∀ e w', post e w' → ∃ x, e = .returned x ∧ K (a.put (some t) x) w') :
    Oper.wp Try.prog ⟨some t, .call { callee := .value (.func 68), args := #[.tmp i, .tmp j, .tmp k], argTypes := ats }, ty, pos, af, none⟩ a X K Q := by
  have e1 := ev_tmp h1
  have e2 := ev_tmp h2
  have e3 := ev_tmp h3
  go_simp
  refine hC.mono (fun e w' hp => ?_)
  obtain ⟨x, rfl, hx⟩ := hK e w' hp
  exact hx

/-- What each operation of 'x := F(toHeap(h), toTrial(t), slot)' yields. -/
def RL (B : Nat) (vh vt vz : Value) (H : HeapD) (T G : TrialD) : Nat → World → Value → Prop
  | 0, _, v => v = vh
  | 1, X, v => RdH X v H
  | 2, _, v => v = vt
  | 3, X, v => ∃ s : TSh, v = s.v ∧ TM X B s T
  | 4, _, v => v = vz
  | 5, X, v => ∃ s : TSh, v = s.v ∧ TM X B s G
  | 6, X, v => ∃ g, v = .pointer (some ⟨g, 0, none⟩) ∧ B ≤ g ∧ Two X g (.slice none 0 0) (.slice none 0 0)
  | _, _, _ => True

theorem rl_mono {B : Nat} {vh vt vz : Value} {H : HeapD} {T G : TrialD} (i : Nat) (X Y : World) (v : Value) (h : RL B vh vt vz H T G i X v) (hb : Below X.heap.size X Y) : RL B vh vt vz H T G i Y v := by
  match i, h with
  | 0, h => exact h
  | 1, h => exact rdH_later h hb
  | 2, h => exact h
  | 3, ⟨s, h1, h2⟩ => exact ⟨s, h1, h2.later hb⟩
  | 4, h => exact h
  | 5, ⟨s, h1, h2⟩ => exact ⟨s, h1, h2.later hb⟩
  | 6, ⟨g, h1, h2, h3⟩ => exact ⟨g, h1, h2, h3.later hb h3.lt⟩
  | n + 7, _ => exact trivial

/-- A row of numbers lies in no block of a trial's variable. -/
theorem own_two_ne {X : World} {B g : Nat} {v x0 x1 : Value} {zs : List Int} (h : ownI X B v zs) (ht : Two X g x0 x1) : v.ownBlock ≠ some g := by
  intro hv
  rcases h with ⟨h1, ⟨h2, -⟩ | ⟨g2, cap, cur, h2, h3, h4, h5⟩⟩
  · rw [h2] at hv; simp [Value.ownBlock] at hv
  · rw [h2] at hv
    have e : g2 = g := by simpa [Value.ownBlock] using hv
    subst e
    have ht' : X.heap[g2]? = some (.cells #[x0, x1] 105 (0, 0)) := ht
    rw [ht'] at h4
    simp at h4

theorem two_set {X : World} {g : Nat} {x0 x1 : Value} (h : Two X g x0 x1) (y0 y1 : Value) : Two (setTwo X g y0 y1) g y0 y1 := by
  have h1 := heap_setCell_same X g 0 _ _ y0 h
  exact heap_setCell_same _ g 1 _ _ y1 h1

theorem szH_le1 (H : HeapD) : szH H 1048576 ≤ 1048576 := by
  have l1 := szO_le H.objs 1048576 (by omega)
  unfold szH
  generalize szO H.objs 1048576 = a at *
  split
  · omega
  · have l2 := szN_le H.weaks.length a (by omega)
    generalize szN H.weaks.length a = b at *
    split
    · omega
    · have l3 := szN_le H.buffer.length b (by omega)
      generalize szN H.buffer.length b = c at *
      split
      · omega
      · have l4 := szS_le H.sites c (by omega)
        split <;> omega

end Go.Proofs.Ytjhdnachbahbmaa

namespace Go.Proofs.Ytjhdnachbahbmaa
open Go.RowKit
set_option linter.unusedVariables false
set_option maxRecDepth 100000

theorem opLoadTw {t i : Tmp} {ty : TypeId} {pos : String} {af : Array Edge} {a : Act} {X : World} {K : Act → World → Prop} {Q : Exit → Act → World → Prop} {g : Nat} {s : TSh} (h1 : a.eval (.tmp i) = .pointer (some ⟨g, 0, none⟩)) (hF : Two X g (.slice s.a s.n s.c) (.slice s.b s.m s.d)) (hK : K (a.put (some t) s.v) X) :
    Oper.wp Try.prog ⟨some t, .load 105 (.tmp i), ty, pos, af, none⟩ a X K Q := by
  have h := ev_tmp h1
  have q0 : X.cell? ⟨g, 0, none⟩ = some (.slice s.a s.n s.c) := hF.cell 0
  have q1 : X.cell? ⟨g, 1, none⟩ = some (.slice s.b s.m s.d) := hF.cell 1
  rw [tsh_v] at hK
  go_simp; exact hK
theorem opCallSl {t i j : Tmp} {ty : TypeId} {pos : String} {af : Array Edge} {ats : Array TypeId} {a : Act} {X : World} {K : Act → World → Prop} {Q : Exit → Act → World → Prop} {u v : Value} {post : Ending → World → Prop} (h1 : a.eval (.tmp i) = u) (h2 : a.eval (.tmp j) = v) (hC : Calls Try.prog 44 #[u, v] X post) (hK : ∀ e w', post e w' → ∃ x, e = .returned x ∧ K (a.put (some t) x) w') :
    Oper.wp Try.prog ⟨some t, .call { callee := .value (.func 44), args := #[.tmp i, .tmp j], argTypes := ats }, ty, pos, af, none⟩ a X K Q := by
  have e1 := ev_tmp h1
  have e2 := ev_tmp h2
  go_simp
  refine hC.mono (fun e w' hp => ?_)
  obtain ⟨x, rfl, hx⟩ := hK e w' hp
  exact hx
/-- What each operation of 't = MarkGray(h, t, SlotOf(h, id))' yields. -/
def RS (B : Nat) (vh vt vi vs : Value) (G : TrialD) : Nat → World → Value → Prop
  | 0, _, v => v = vh
  | 1, _, v => v = vt
  | 2, _, v => v = vh
  | 3, _, v => v = vi
  | 4, _, v => v = vs
  | 5, X, v => ∃ s : TSh, v = s.v ∧ TM X B s G
  | _, _, _ => True
theorem rs_mono {B : Nat} {vh vt vi vs : Value} {G : TrialD} (i : Nat) (X Y : World) (v : Value) (h : RS B vh vt vi vs G i X v) (hb : Below X.heap.size X Y) : RS B vh vt vi vs G i Y v := by
  match i, h with
  | 0, h => exact h
  | 1, h => exact h
  | 2, h => exact h
  | 3, h => exact h
  | 4, h => exact h
  | 5, ⟨s, h1, h2⟩ => exact ⟨s, h1, h2.later hb⟩
  | n + 6, _ => exact trivial
/-- The frame: the heap's box, the result's, the variable's, and the trial that it holds. -/
structure SF (w wr : World) (gt : Nat) (x0 x1 x2 x3 : Value) (q : TSh) (T : TrialD) : Prop where
  bel : Below w.heap.size w wr
  heap : Four wr w.heap.size x0 x1 x2 x3
  res : Two wr (w.heap.size + 1) (.slice none 0 0) (.slice none 0 0)
  t : Two wr gt (.slice q.a q.n q.c) (.slice q.b q.m q.d)
  lo : w.heap.size + 2 ≤ gt
  tm : TM wr (w.heap.size + 2) q T
theorem sf_set {w wr X : World} {gt : Nat} {x0 x1 x2 x3 : Value} {q q2 : TSh} {T T2 : TrialD} (h : SF w wr gt x0 x1 x2 x3 q T) (hX : Below wr.heap.size wr X) (hT : TM X (w.heap.size + 2) q2 T2) : SF w (setTwo X gt (.slice q2.a q2.n q2.c) (.slice q2.b q2.m q2.d)) gt x0 x1 x2 x3 q2 T2 := by
  have ht := h.t.later hX h.t.lt
  have hl := h.lo
  have oth : ∀ g, g ≠ gt → (setTwo X gt (.slice q2.a q2.n q2.c) (.slice q2.b q2.m q2.d)).heap[g]? = X.heap[g]? := fun g hg => setTwo_other _ _ _ _ g hg
  refine ⟨?_, (h.heap.later hX).same (oth _ (by omega)), (h.res.later hX h.res.lt).same (oth _ (by omega)), two_set ht _ _, h.lo, ⟨ownI_same hT.x (fun i hi => oth i (fun e => own_two_ne hT.x ht (e ▸ hi))), ownI_same hT.y (fun i hi => oth i (fun e => own_two_ne hT.y ht (e ▸ hi))), hT.dif⟩⟩
  unfold setTwo
  exact ((h.bel.trans (hX.mono h.bel.size)).setCell (p := ⟨gt, 0, none⟩) (by show w.heap.size ≤ gt; omega) _).setCell (p := ⟨gt, 1, none⟩) (by show w.heap.size ≤ gt; omega) _

set_option maxHeartbeats 16000000 in
theorem iSusp_calls (v : Value) (H : HeapD) (w : World) (h : RdH w v H) (hs : SmallH H) (h8 : H.objs.length = 8) (hcap : CapH v) (hf : ∀ o ∈ H.objs, ∀ z ∈ o.field, in64 z) (hbf : ∀ z ∈ H.buffer, in64 z) :
    Calls Try.prog 59 #[v] w fun e w' => ∃ s : TSh, e = .returned s.v ∧ TM w' w.heap.size s (suspT H) ∧ Below w.heap.size w w' := by
  have HRH : Hid (∀ X, Below w.heap.size w X → RdH X v H) := fun X hX => rdH_later h hX
  have CN : Hid (∀ X, Below w.heap.size w X → _) := fun X hX => iTrialNew_calls v H X (HRH.out X hX) hs hcap
  have HSM : Hid (SmallH H) := hs
  have HL8 : Hid (H.objs.length = 8) := h8
  have HF : Hid (∀ o ∈ H.objs, ∀ z ∈ o.field, in64 z) := hf
  have HBF : Hid (∀ z ∈ H.buffer, in64 z) := hbf
  have HG0 : Hid (suspG H 0 = trialNew H) := suspG_zero H
  have HS0 : Hid (suspS H 0 = suspG H H.buffer.length) := suspS_zero H
  have HSE : Hid (suspT H = suspS H H.buffer.length) := rfl
  have hbl := hs.buffer
  obtain ⟨ao, co, aw, cw, ab, cb, sa, sc, rfl, -, -, ri, -⟩ := h
  have HRB : Hid (∀ X, Below w.heap.size w X → RdI X ab H.buffer) := fun X hX => rdI_later ri hX
  obtain ⟨nb, hnb⟩ : ∃ nb, H.buffer.length = nb := ⟨_, rfl⟩
  have HLB : Hid (H.buffer.length = nb) := hnb
  rw [h8, hnb] at HRH CN ⊢
  rw [hnb] at hbl HS0 HSE
  generalize H.weaks.length = nw at *
  generalize H.sites.length = ns at *
  obtain ⟨W, hW⟩ : ∃ W, W = (w.alloc (.cells #[.slice ao 8 co, .slice aw nw cw, .slice ab nb cb, .slice sa ns sc] 33)).alloc (.cells #[.slice none 0 0, .slice none 0 0] 105) := ⟨_, rfl⟩
  have BW : Below w.heap.size w W := by rw [hW]; exact ((Below.refl _ _).alloc (Nat.le_refl _) _).alloc (by simp) _
  have sW : W.heap.size = w.heap.size + 2 := by rw [hW]; simp
  have FH : Four W w.heap.size (.slice ao 8 co) (.slice aw nw cw) (.slice ab nb cb) (.slice sa ns sc) := by
    have f := Four.new w (.slice ao 8 co) (.slice aw nw cw) (.slice ab nb cb) (.slice sa ns sc)
    have f2 := f.later ((Below.refl _ _).alloc (Nat.le_refl _) (.cells #[.slice none 0 0, .slice none 0 0] 105))
    rw [hW]; exact f2
  have FR : Two W (w.heap.size + 1) (.slice none 0 0) (.slice none 0 0) := by
    have f := Two.new (w.alloc (.cells #[.slice ao 8 co, .slice aw nw cw, .slice ab nb cb, .slice sa ns sc] 33)) (.slice none 0 0) (.slice none 0 0)
    rw [← hW] at f
    simpa using f
  clear hs h8 hcap hf hbf ri hnb
  go_enter Try.func59, Try.ntmps59
  go_wp2_with fail
  rw [← hW]
  clear hW
  refine (CN.out _ BW).mono ?_
  rintro e w1 ⟨q0, rfl, M1, b1⟩
  have hv0 := tsh_v q0
  obtain ⟨V, hV⟩ : ∃ V, V = w1.alloc (.cells #[.slice q0.a q0.n q0.c, .slice q0.b q0.m q0.d] 105) := ⟨_, rfl⟩
  have BV : Below w1.heap.size w1 V := by rw [hV]; exact (Below.refl _ _).alloc (Nat.le_refl _) _
  have hs1 := b1.size
  have HSF0 : Hid (SF w V w1.heap.size (.slice ao 8 co) (.slice aw nw cw) (.slice ab nb cb) (.slice sa ns sc) q0 (suspG H 0)) := by
    have bb := b1.trans (BV.mono b1.size)
    refine ⟨BW.trans (bb.mono BW.size), (FH.later b1).later BV, (FR.later b1 (by omega)).later BV (by omega), by rw [hV]; exact Two.new w1 _ _, by omega, ?_⟩
    rw [HG0.out, ← sW]
    exact M1.later BV
  have c2 : w1.cell? ⟨w.heap.size, 2, none⟩ = some (.slice ab nb cb) := (FH.later b1).cell 2
  have hq0 : w.heap.size < w1.heap.size := by omega
  have hn0 : ¬ w.heap.size = w1.heap.size := by omega
  rw [hv0]
  clear M1 BV FH FR BW b1 CN
  go_wp2
  rw [← hV]
  obtain ⟨gt, hgt⟩ : ∃ gt, w1.heap.size = gt := ⟨_, rfl⟩
  rw [hgt] at HSF0 ⊢
  clear hV c2 hgt hq0 hn0 hs1 sW
  go_loopw [13] (fun i wr => ∃ (j : Nat) (q : TSh), i = .int .i64 (j : Int) ∧ j ≤ nb ∧ Hid (SF w wr gt (.slice ao 8 co) (.slice aw nw cw) (.slice ab nb cb) (.slice sa ns sc) q (suspG H j))) (fun i _ => nb - (intOf i).toNat)
  case atStart => exact ⟨0, _, rfl, by omega, HSF0⟩
  case round =>
    obtain ⟨j, q, rfl, hjn, HI⟩ := hrel
    by_cases hlt : j < nb
    · have hj2 : j < H.buffer.length := by have := HLB.out; omega
      obtain ⟨bg, bo, rfl, hbg, hbc⟩ := HRB.out wr HI.out.bel j hj2
      have hz64 := HBF.out _ (List.getElem_mem hj2)
      have HST : Hid (suspG H (j + 1) = grayF H (suspG H j) H.buffer[j]) := suspG_step H j hj2
      have HE8 : Hid (Eight (suspG H j)) := suspG_eight H HL8.out j
      generalize H.buffer[j] = id at *
      have CS : Hid (∀ X, Below wr.heap.size wr X → _) := fun X hX => iSlotOf_calls _ H id X (HRH.out X (HI.out.bel.trans (hX.mono HI.out.bel.size))) (by rw [HL8.out]; omega) hz64.1 hz64.2
      have CM : Hid (∀ X, Below wr.heap.size wr X → _) := fun X hX => iGray_calls _ _ H (suspG H j) (slotZ H id) X (HRH.out X (HI.out.bel.trans (hX.mono HI.out.bel.size))) ((HI.out.tm.later hX).rd) HSM.out ⟨by rw [HE8.out.1]; omega, by rw [HE8.out.2]; omega⟩ HF.out (suspG H (j + 1)) (fun hok => by rw [HST.out]; unfold grayF; rw [if_pos hok.lo]) (fun hno => by rw [HST.out]; unfold grayF; rw [if_neg (fun h0 => hno ((okT_of_slot H _ id HE8.out HL8.out).2 h0))])
      generalize slotZ H id = sl at *
      have hjl : (j : Int) < (nb : Int) := by omega
      have hq1 := HI.out.t
      clear hz64 HST
      go_wp2
      refine wp_region_last 6 (by kernel_rfl) (by kernel_rfl) (RS (w.heap.size + 2) (.agg #[.slice ao 8 co, .slice aw nw cw, .slice (some ⟨bg, bo, none⟩) nb cb, .slice sa ns sc]) q.v (.int .i64 id) (.int .i64 sl) (suspG H (j + 1))) rs_mono ?_ ?_
      · intro i o hi ho a X hX hA hdep
        have FX := HI.out.heap.later hX
        have TX := HI.out.t.later hX HI.out.t.lt
        match i, hi, ho with
        | 0, _, ho =>
          obtain rfl := Option.some.inj ho
          exact opLoadHp (alike_at hA (t := 1) (by kernel_rfl)) FX ⟨_, rfl, Below.refl _ _, rfl⟩
        | 1, _, ho =>
          obtain rfl := Option.some.inj ho
          exact opLoadTw (alike_at hA (t := 3) (by kernel_rfl)) TX ⟨_, rfl, Below.refl _ _, rfl⟩
        | 2, _, ho =>
          obtain rfl := Option.some.inj ho
          exact opLoadHp (alike_at hA (t := 1) (by kernel_rfl)) FX ⟨_, rfl, Below.refl _ _, rfl⟩
        | 3, _, ho =>
          obtain rfl := Option.some.inj ho
          exact opMove (alike_at hA (t := 5) (by kernel_rfl)) ⟨_, rfl, Below.refl _ _, rfl⟩
        | 4, _, ho =>
          obtain rfl := Option.some.inj ho
          have e1 : a.eval (.tmp 19) = .agg #[.slice ao 8 co, .slice aw nw cw, .slice (some ⟨bg, bo, none⟩) nb cb, .slice sa ns sc] := hdep ⟨2, .data⟩ (by simp) rfl 19 rfl
          have e2 : a.eval (.tmp 20) = .int .i64 id := hdep ⟨3, .data⟩ (by simp) rfl 20 rfl
          refine opCallSl e1 e2 (CS.out X hX) ?_
          rintro e w' ⟨rfl, hb⟩
          exact ⟨_, rfl, _, rfl, hb, rfl⟩
        | 5, _, ho =>
          obtain rfl := Option.some.inj ho
          have e1 : a.eval (.tmp 17) = .agg #[.slice ao 8 co, .slice aw nw cw, .slice (some ⟨bg, bo, none⟩) nb cb, .slice sa ns sc] := hdep ⟨0, .data⟩ (by simp) rfl 17 rfl
          have e2 : a.eval (.tmp 18) = q.v := hdep ⟨1, .data⟩ (by simp) rfl 18 rfl
          have e3 : a.eval (.tmp 21) = .int .i64 sl := hdep ⟨4, .data⟩ (by simp) rfl 21 rfl
          refine opImplMarkGray e1 e2 e3 (CM.out X hX) ?_
          rintro e w' ⟨x, rfl, hx, hb⟩
          exact ⟨_, rfl, _, rfl, hb, x, rfl, hx.mono (by have := hX.size; have := HI.out.bel.size; have := HI.out.lo; have := HI.out.t.lt; omega)⟩
      · intro o ho a X hX hA hdep
        obtain rfl := Option.some.inj ho
        obtain ⟨q2, e5, hT5⟩ := hdep ⟨5, .data⟩ (by simp) rfl 22 rfl
        have e3 : a.eval (.tmp 3) = .pointer (some ⟨gt, 0, none⟩) := alike_at hA (t := 3) (by kernel_rfl)
        have hTw := HI.out.t.later hX HI.out.t.lt
        rw [tsh_v] at e5
        refine opStoreT e3 e5 hTw ?_
        have HI2 : Hid (SF w (setTwo X gt (.slice q2.a q2.n q2.c) (.slice q2.b q2.m q2.d)) gt (.slice ao 8 co) (.slice aw nw cw) (.slice (some ⟨bg, bo, none⟩) nb cb) (.slice sa ns sc) q2 (suspG H (j + 1))) := sf_set HI.out hX hT5
        obtain ⟨us, hus, rfl⟩ := alike_tmps hA [17, 18, 19, 20, 21, 22] (by kernel_rfl)
        clear hdep hA hus e3 e5 hTw ho hT5 CS CM
        generalize setTwo X gt (.slice q2.a q2.n q2.c) (.slice q2.b q2.m q2.d) = Y at *
        simp only [List.mapIdx_cons, List.mapIdx_nil, Nat.reduceAdd, List.contains_cons, List.contains_nil, Nat.reduceBEq, Bool.or_false, Bool.or_true, if_true, if_false, Bool.false_eq_true]
        go_wp2
        go_roundw
        case rel => exact ⟨j + 1, q2, by go_num, by omega, HI2⟩
        case measure => simp [intOf]; omega
    · have hjn2 : nb ≤ j := by omega
      have HJN : Hid (j = nb) := by show _ = _; omega
      have c2 : wr.cell? ⟨w.heap.size, 2, none⟩ = some (.slice ab nb cb) := HI.out.heap.cell 2
      have HSF1 : Hid (SF w wr gt (.slice ao 8 co) (.slice aw nw cw) (.slice ab nb cb) (.slice sa ns sc) q (suspS H 0)) := by
        have h2 : suspG H j = suspS H 0 := by rw [HS0.out, HJN.out]
        rw [← h2]; exact HI.out
      go_wp2
      clear c2 HI HJN hlt hjn hjn2
      go_loopw [27] (fun i wr => ∃ (j : Nat) (q : TSh), i = .int .i64 (j : Int) ∧ j ≤ nb ∧ Hid (SF w wr gt (.slice ao 8 co) (.slice aw nw cw) (.slice ab nb cb) (.slice sa ns sc) q (suspS H j))) (fun i _ => nb - (intOf i).toNat)
      case atStart => exact ⟨0, _, rfl, by omega, HSF1⟩
      case round =>
        obtain ⟨j, q, rfl, hjn, HI⟩ := hrel
        by_cases hlt : j < nb
        · have hj2 : j < H.buffer.length := by have := HLB.out; omega
          obtain ⟨bg, bo, rfl, hbg, hbc⟩ := HRB.out wr HI.out.bel j hj2
          have hz64 := HBF.out _ (List.getElem_mem hj2)
          have HST : Hid (suspS H (j + 1) = scanF H (suspS H j) H.buffer[j]) := suspS_step H j hj2
          have HE8 : Hid (Eight (suspS H j)) := suspS_eight H HSM.out HL8.out j
          generalize H.buffer[j] = id at *
          have CS : Hid (∀ X, Below wr.heap.size wr X → _) := fun X hX => iSlotOf_calls _ H id X (HRH.out X (HI.out.bel.trans (hX.mono HI.out.bel.size))) (by rw [HL8.out]; omega) hz64.1 hz64.2
          have CM : Hid (∀ X, Below wr.heap.size wr X → _) := fun X hX => iScan_calls _ _ H (suspS H j) (slotZ H id) X (HRH.out X (HI.out.bel.trans (hX.mono HI.out.bel.size))) ((HI.out.tm.later hX).rd) HSM.out ⟨by rw [HE8.out.1]; omega, by rw [HE8.out.2]; omega⟩ HF.out (suspS H (j + 1)) (fun hok => by rw [HST.out]; unfold scanF; rw [if_pos hok.lo]) (fun hno => by rw [HST.out]; unfold scanF; rw [if_neg (fun h0 => hno ((okT_of_slot H _ id HE8.out HL8.out).2 h0))])
          generalize slotZ H id = sl at *
          have hjl : (j : Int) < (nb : Int) := by omega
          have hq1 := HI.out.t
          clear hz64 HST
          go_wp2
          refine wp_region_last 6 (by kernel_rfl) (by kernel_rfl) (RS (w.heap.size + 2) (.agg #[.slice ao 8 co, .slice aw nw cw, .slice (some ⟨bg, bo, none⟩) nb cb, .slice sa ns sc]) q.v (.int .i64 id) (.int .i64 sl) (suspS H (j + 1))) rs_mono ?_ ?_
          · intro i o hi ho a X hX hA hdep
            have FX := HI.out.heap.later hX
            have TX := HI.out.t.later hX HI.out.t.lt
            match i, hi, ho with
            | 0, _, ho =>
              obtain rfl := Option.some.inj ho
              exact opLoadHp (alike_at hA (t := 1) (by kernel_rfl)) FX ⟨_, rfl, Below.refl _ _, rfl⟩
            | 1, _, ho =>
              obtain rfl := Option.some.inj ho
              exact opLoadTw (alike_at hA (t := 3) (by kernel_rfl)) TX ⟨_, rfl, Below.refl _ _, rfl⟩
            | 2, _, ho =>
              obtain rfl := Option.some.inj ho
              exact opLoadHp (alike_at hA (t := 1) (by kernel_rfl)) FX ⟨_, rfl, Below.refl _ _, rfl⟩
            | 3, _, ho =>
              obtain rfl := Option.some.inj ho
              exact opMove (alike_at hA (t := 7) (by kernel_rfl)) ⟨_, rfl, Below.refl _ _, rfl⟩
            | 4, _, ho =>
              obtain rfl := Option.some.inj ho
              have e1 : a.eval (.tmp 33) = .agg #[.slice ao 8 co, .slice aw nw cw, .slice (some ⟨bg, bo, none⟩) nb cb, .slice sa ns sc] := hdep ⟨2, .data⟩ (by simp) rfl 33 rfl
              have e2 : a.eval (.tmp 34) = .int .i64 id := hdep ⟨3, .data⟩ (by simp) rfl 34 rfl
              refine opCallSl e1 e2 (CS.out X hX) ?_
              rintro e w' ⟨rfl, hb⟩
              exact ⟨_, rfl, _, rfl, hb, rfl⟩
            | 5, _, ho =>
              obtain rfl := Option.some.inj ho
              have e1 : a.eval (.tmp 31) = .agg #[.slice ao 8 co, .slice aw nw cw, .slice (some ⟨bg, bo, none⟩) nb cb, .slice sa ns sc] := hdep ⟨0, .data⟩ (by simp) rfl 31 rfl
              have e2 : a.eval (.tmp 32) = q.v := hdep ⟨1, .data⟩ (by simp) rfl 32 rfl
              have e3 : a.eval (.tmp 35) = .int .i64 sl := hdep ⟨4, .data⟩ (by simp) rfl 35 rfl
              refine opImplScanFrom e1 e2 e3 (CM.out X hX) ?_
              rintro e w' ⟨x, rfl, hx, hb⟩
              exact ⟨_, rfl, _, rfl, hb, x, rfl, hx.mono (by have := hX.size; have := HI.out.bel.size; have := HI.out.lo; have := HI.out.t.lt; omega)⟩
          · intro o ho a X hX hA hdep
            obtain rfl := Option.some.inj ho
            obtain ⟨q2, e5, hT5⟩ := hdep ⟨5, .data⟩ (by simp) rfl 36 rfl
            have e3 : a.eval (.tmp 3) = .pointer (some ⟨gt, 0, none⟩) := alike_at hA (t := 3) (by kernel_rfl)
            have hTw := HI.out.t.later hX HI.out.t.lt
            rw [tsh_v] at e5
            refine opStoreT e3 e5 hTw ?_
            have HI2 : Hid (SF w (setTwo X gt (.slice q2.a q2.n q2.c) (.slice q2.b q2.m q2.d)) gt (.slice ao 8 co) (.slice aw nw cw) (.slice (some ⟨bg, bo, none⟩) nb cb) (.slice sa ns sc) q2 (suspS H (j + 1))) := sf_set HI.out hX hT5
            obtain ⟨us, hus, rfl⟩ := alike_tmps hA [31, 32, 33, 34, 35, 36] (by kernel_rfl)
            clear hdep hA hus e3 e5 hTw ho hT5 CS CM
            generalize setTwo X gt (.slice q2.a q2.n q2.c) (.slice q2.b q2.m q2.d) = Y at *
            simp only [List.mapIdx_cons, List.mapIdx_nil, Nat.reduceAdd, List.contains_cons, List.contains_nil, Nat.reduceBEq, Bool.or_false, Bool.or_true, if_true, if_false, Bool.false_eq_true]
            go_wp2
            go_roundw
            case rel => exact ⟨j + 1, q2, by go_num, by omega, HI2⟩
            case measure => simp [intOf]; omega
        · have hjn2 : nb ≤ j := by omega
          have HJN : Hid (j = nb) := by show _ = _; omega
          have HE : Hid (suspT H = suspS H j) := by show _ = _; rw [HJN.out]; exact HSE.out
          have TW := HI.out.t
          have RW := HI.out.res
          have x0 : wr.cell? ⟨gt, 0, none⟩ = some (.slice q.a q.n q.c) := TW.cell 0
          have x1 : wr.cell? ⟨gt, 1, none⟩ = some (.slice q.b q.m q.d) := TW.cell 1
          have r0 : wr.cell? ⟨w.heap.size + 1, 0, none⟩ = some (.slice none 0 0) := RW.cell 0
          have r1 : wr.cell? ⟨w.heap.size + 1, 1, none⟩ = some (.slice none 0 0) := RW.cell 1
          have z0 := RW.frozen 0
          have z1 := RW.frozen 1
          have HFIN : Hid (TM (setTwo wr (w.heap.size + 1) (.slice q.a q.n q.c) (.slice q.b q.m q.d)) w.heap.size q (suspT H) ∧ Below w.heap.size w (setTwo wr (w.heap.size + 1) (.slice q.a q.n q.c) (.slice q.b q.m q.d))) := by
            rw [HE.out]
            refine ⟨(HI.out.tm.same (fun g hg _ => setTwo_other _ _ _ _ g (by omega))).mono (by omega), ?_⟩
            unfold setTwo
            exact (HI.out.bel.setCell (by simp) _).setCell (by simp) _
          clear TW RW HI
          go_wp2
          exact bodyPost_ret (v := .agg #[.slice q.a q.n q.c, .slice q.b q.m q.d]) (by simp [results, Try.results59, go_sem, *]) rfl ⟨q, rfl, HFIN.out⟩

end Go.Proofs.Ytjhdnachbahbmaa

namespace Go.Proofs.Ytjhdnachbahbmaa
open Go.RowKit
set_option linter.unusedVariables false
set_option maxRecDepth 100000

theorem wipe_small {H : HeapD} (hs : SmallH H) (ws : List Int) (j : Nat) : SmallH (wipeAt H ws j) := by
  refine ⟨by rw [wipeAt_len]; exact hs.objs, fun z hz => ?_, hs.weaks, hs.buffer, hs.sites, hs.names⟩
  obtain ⟨i, hi, rfl⟩ := List.getElem_of_mem hz
  have hi2 : i < H.objs.length := by rw [wipeAt_len] at hi; exact hi
  rw [wipeAt_get H ws j i hi2]
  split
  · show ([-1, -1, -1] : List Int).length ≤ _; simp
  · exact hs.fields _ (List.getElem_mem _)

set_option maxHeartbeats 16000000 in
theorem iCollect_yes (v : Value) (H : HeapD) (w : World) (h : RdH w v H) (hs : SmallH H) (h8 : H.objs.length = 8) (hcap : CapH v) (hf : ∀ o ∈ H.objs, ∀ z ∈ o.field, in64 z) (hbf : ∀ z ∈ H.buffer, in64 z) :
    Calls Try.prog 50 #[v] w fun e w' => ∃ (s : HSh) (vf : Value), e = .returned (.tuple #[s.v, vf]) ∧ HM w' w.heap.size s (collH H) ∧ ownI w' w.heap.size vf (collF H) ∧ (∀ g, vf.ownBlock = some g → ¬ HasB s g) ∧ Below w.heap.size w w' := by
  have HRH : Hid (∀ X, Below w.heap.size w X → RdH X v H) := fun X hX => rdH_later h hX
  have CC : Hid (∀ X, Below w.heap.size w X → _) := fun X hX => iCopy_calls v H X (HRH.out X hX) hs
  have CS : Hid (∀ X, Below w.heap.size w X → _) := fun X hX => iSusp_calls v H X (HRH.out X hX) hs h8 hcap hf hbf
  have hT8 := suspS_eight H hs h8 H.buffer.length
  have CWH : Hid (∀ X (q : TSh), RdT X q.v (suspT H) → _) := fun X q hq => iWhites_calls q.v (suspT H) X hq ⟨by have := hT8.1; unfold suspT; omega, by have := hT8.2; unfold suspT; omega⟩
  have HWS : Hid (Slots (whites (suspT H))) := whites_slots _ hT8
  have HFIN0 : Hid (settleH (wipeAt H (whites (suspT H)) (whites (suspT H)).length) = collH H) := wipe_settle H (suspT H) hT8 h8 rfl
  have HFR0 : Hid (freedAt H (whites (suspT H)) (whites (suspT H)).length = collF H) := by show _ = _; unfold freedAt collF; rw [List.take_length]
  have hwl : (whites (suspT H)).length ≤ 8 := by
    have : ∀ (zs : List Int) (i : Int), (whiteL zs i).length ≤ zs.length := by
      intro zs
      induction zs with
      | nil => intro i; simp [whiteL]
      | cons o r ih =>
        intro i
        unfold whiteL
        have := ih (i + 1)
        split <;> simp <;> omega
    have h1 := this (suspT H).colors 0
    have h2 : (suspT H).colors.length = 8 := hT8.2
    unfold whites
    omega
  have HSM : Hid (SmallH H) := hs
  have HL8 : Hid (H.objs.length = 8) := h8
  generalize whites (suspT H) = ws at *
  obtain ⟨L, hL⟩ : ∃ L, ws.length = L := ⟨_, rfl⟩
  have HL : Hid (ws.length = L) := hL
  obtain ⟨ao, co, aw, cw, ab, cb, sa, sc, rfl, -, -, -, -⟩ := h
  rw [h8] at HRH CC CS ⊢
  rw [hL] at hwl HFIN0 HFR0
  generalize H.weaks.length = nw at *
  generalize H.buffer.length = nb at *
  generalize H.sites.length = ns at *
  obtain ⟨W, hW⟩ : ∃ W, W = (w.alloc (.cells #[.slice ao 8 co, .slice aw nw cw, .slice ab nb cb, .slice sa ns sc] 33)).alloc (.cells #[.slice none 0 0, .slice none 0 0, .slice none 0 0, .slice none 0 0] 33) := ⟨_, rfl⟩
  have BW : Below w.heap.size w W := by rw [hW]; exact ((Below.refl _ _).alloc (Nat.le_refl _) _).alloc (by simp) _
  have sW : W.heap.size = w.heap.size + 2 := by rw [hW]; simp
  have FH : Four W w.heap.size (.slice ao 8 co) (.slice aw nw cw) (.slice ab nb cb) (.slice sa ns sc) := by
    have f := Four.new w (.slice ao 8 co) (.slice aw nw cw) (.slice ab nb cb) (.slice sa ns sc)
    have f2 := f.later ((Below.refl _ _).alloc (Nat.le_refl _) (.cells #[.slice none 0 0, .slice none 0 0, .slice none 0 0, .slice none 0 0] 33))
    rw [hW]; exact f2
  have FR : Four W (w.heap.size + 1) (.slice none 0 0) (.slice none 0 0) (.slice none 0 0) (.slice none 0 0) := by
    have f := Four.new (w.alloc (.cells #[.slice ao 8 co, .slice aw nw cw, .slice ab nb cb, .slice sa ns sc] 33)) (.slice none 0 0) (.slice none 0 0) (.slice none 0 0) (.slice none 0 0)
    rw [← hW] at f
    simpa using f
  have HFR : Hid (Four W (w.heap.size + 1) (.slice none 0 0) (.slice none 0 0) (.slice none 0 0) (.slice none 0 0)) := FR
  have HBW : Hid (Below w.heap.size w W) := BW
  have HsW : Hid (W.heap.size = w.heap.size + 2) := sW
  clear hs h8 hcap hf hbf hT8 hL FR
  go_enter Try.func50, Try.ntmps50
  go_wp2_with fail
  rw [← hW]
  clear hW
  refine (CC.out _ BW).mono ?_
  rintro e w1 ⟨s0, rfl, M1, b1⟩
  have hs1 := b1.size
  obtain ⟨V, hV⟩ : ∃ V, V = w1.alloc (.cells #[.slice s0.oa s0.os.length s0.oc, .slice s0.wa s0.wn s0.wc, .slice s0.ba s0.bn s0.bc, .slice s0.sa s0.sn s0.sc] 33) := ⟨_, rfl⟩
  have BV : Below w1.heap.size w1 V := by rw [hV]; exact (Below.refl _ _).alloc (Nat.le_refl _) _
  have bb : Below W.heap.size W V := b1.trans (BV.mono b1.size)
  have HLS0 : Hid (LS W V W.heap.size w1.heap.size s0 H (.slice none 0 0) (.slice none 0 0) [] []) :=
    ⟨bb, Nat.le_refl _, hm_later M1 BV, by rw [hV]; exact Four.new w1 _ _ _ _, hs1, fun hh => by have := (hm_bl M1 hh).2; omega, .inl ⟨rfl, rfl⟩, ownI_nil _ _, fun g hg => (by simp [Value.ownBlock] at hg), fun g hg => (by simp [Value.ownBlock] at hg), fun g hg => (by simp [Value.ownBlock] at hg)⟩
  have F1 := FH.later b1
  have c0 : w1.cell? ⟨w.heap.size, 0, none⟩ = some (.slice ao 8 co) := F1.cell 0
  have c1 : w1.cell? ⟨w.heap.size, 1, none⟩ = some (.slice aw nw cw) := F1.cell 1
  have c2 : w1.cell? ⟨w.heap.size, 2, none⟩ = some (.slice ab nb cb) := F1.cell 2
  have c3 : w1.cell? ⟨w.heap.size, 3, none⟩ = some (.slice sa ns sc) := F1.cell 3
  have hq0 : w.heap.size < w1.heap.size := by omega
  have hn0 : ¬ w.heap.size = w1.heap.size := by omega
  have HBV : Hid (Below w.heap.size w V) := HBW.out.trans (bb.mono HBW.out.size)
  rw [show s0.v = .agg #[.slice s0.oa s0.os.length s0.oc, .slice s0.wa s0.wn s0.wc, .slice s0.ba s0.bn s0.bc, .slice s0.sa s0.sn s0.sc] from rfl]
  clear M1 b1 BV bb F1 FH BW CC sW
  go_wp2_with fail
  rw [← hV]
  clear hV c0 c1 c2 c3 hq0 hn0
  refine (CS.out _ HBV.out).mono ?_
  rintro e w2 ⟨q, rfl, M2, b2⟩
  have HLS2 : Hid (LS W w2 W.heap.size w1.heap.size s0 H (.slice none 0 0) (.slice none 0 0) [] []) := ls_later HLS0.out b2
  have R2 := M2.rd
  have hvq : V.heap.size ≤ w2.heap.size := b2.size
  go_wp2_with fail
  refine (CWH.out _ q R2).mono ?_
  rintro e w3 ⟨vk, rfl, O3, b3⟩
  obtain ⟨ka, kc, hvk, -⟩ := rdI_own O3
  rw [HL.out] at hvk
  subst hvk
  have HLS3 : Hid (LS W w3 W.heap.size w1.heap.size s0 (wipeAt H ws 0) (.slice ka L kc) (.slice none 0 0) ws (freedAt H ws 0)) := by
    have l := ls_later HLS2.out b3
    rw [wipeAt_zero]
    have e0 : freedAt H ws 0 = [] := by simp [freedAt]
    rw [e0]
    exact ⟨l.bel, l.hB, l.m, l.x, l.gB, l.sx, ownQ_own (ownI_mono O3 HLS2.out.le), l.f, fun g hg hh => (by have h1 := (hm_bl HLS2.out.m hh).2; have h2 := (ownI_lt O3 g hg).1; omega), l.sf, fun g hg h2 => (by simp [Value.ownBlock] at h2)⟩
  obtain ⟨go, hgo, -, -⟩ := hm_own HLS3.out.m 0 (by rw [wipeAt_len, HL8.out]; omega)
  have HGO0 : Hid (s0.oa = some ⟨go, 0, none⟩) := hgo
  obtain ⟨gx, hgx⟩ : ∃ gx, w1.heap.size = gx := ⟨_, rfl⟩
  rw [hgx] at HLS3 ⊢
  clear hgo HLS0 HLS2 M2 b2 R2 O3 b3 CS CWH hgx hs1 hvq
  go_wp2
  go_loopw [5, 20] (fun vf i wr => ∃ (j : Nat) (s : HSh) (fa : Option Addr) (fc : Nat), i = .int .i64 (j : Int) ∧ j ≤ L ∧ vf = .slice fa j fc ∧ Hid (s.oa = some ⟨go, 0, none⟩) ∧ Hid (LS W wr W.heap.size gx s (wipeAt H ws j) (.slice ka L kc) vf ws (freedAt H ws j))) (fun _ i _ => L - (intOf i).toNat)
  case atStart => exact ⟨0, s0, none, 0, rfl, by omega, rfl, HGO0, HLS3⟩
  case round =>
    obtain ⟨j, s, fa, fc, rfl, hjL, rfl, HGO, HI⟩ := hrel
    by_cases hlt : j < L
    · have hj2 : j < ws.length := by have := HL.out; omega
      obtain ⟨ka2, kc2, hka, hr⟩ := ownQ_form HI.out.q
      rw [HL.out] at hka
      simp only [Value.slice.injEq] at hka
      obtain ⟨rfl, -, rfl⟩ := hka
      obtain ⟨kg, ko, rfl, hkg, hcz⟩ := hr j hj2
      obtain ⟨k, hk⟩ : ∃ k : Nat, ws[j] = (k : Int) := ⟨ws[j].toNat, by have := HWS.out _ (List.getElem_mem hj2); omega⟩
      have hk8 : k < 8 := by have := HWS.out _ (List.getElem_mem hj2); omega
      have hkH : k < H.objs.length := by have := HL8.out; omega
      have hkW : k < (wipeAt H ws j).objs.length := by rw [wipeAt_len]; exact hkH
      rw [hk] at hcz
      have HWK : Hid (wipeAt H ws (j + 1) = setO (wipeAt H ws j) k (emptyD H.objs[k].gen)) := wipeAt_step H ws j k hj2 hkH hk
      have HFK : Hid (freedAt H ws (j + 1) = freedAt H ws j ++ [idZ (k : Int) H.objs[k].gen]) := freedAt_step H ws j k hj2 hkH hk
      have HFL : Hid ((freedAt H ws j).length = j) := by show _ = _; unfold freedAt; rw [List.length_map, List.length_take]; omega
      have HGN : Hid (∀ X, HM X W.heap.size s (wipeAt H ws j) → X.cell? ⟨go, k * 8 + 1, none⟩ = some (.int .i64 H.objs[k].gen)) := fun X hX => by
        have e := (hm_obj hX k hkW go HGO.out).2.1.c1
        rw [wipeAt_gen H ws j k hkH] at e
        exact e
      have c1 := HGN.out wr HI.out.m
      have CE : Hid (∀ X, _) := fun X => emptyObj_calls H.objs[k].gen X
      have CID : Hid (∀ X, _) := fun X => iIdOf_calls (k : Int) H.objs[k].gen X
      have hsl : s.os.length = 8 := by rw [HI.out.m.lo, wipeAt_len, HL8.out]
      have x0 : wr.cell? ⟨gx, 0, none⟩ = some (.slice (some ⟨go, 0, none⟩) 8 s.oc) := by
        have e : wr.cell? ⟨gx, 0, none⟩ = some (.slice s.oa s.os.length s.oc) := HI.out.x.cell 0
        rw [HGO.out, hsl] at e
        exact e
      generalize H.objs[k].gen = og at *
      generalize idZ (k : Int) og = id at *
      have hk8i : (k : Int) < 8 := by omega
      have hjl : (j : Int) < (L : Int) := by omega
      obtain ⟨V4, hV4⟩ : ∃ V4, V4 = wr.alloc (.cells #[.int .i64 id] 3) := ⟨_, rfl⟩
      have b4 : Below wr.heap.size wr V4 := by rw [hV4]; exact (Below.refl _ _).alloc (Nat.le_refl _) _
      have HI4 : Hid (LS W V4 W.heap.size gx s (wipeAt H ws j) (.slice (some ⟨kg, ko, none⟩) L kc) (.slice fa j fc) ws (freedAt H ws j)) := ls_later HI.out b4
      have hVc : V4.cell? ⟨wr.heap.size, 0, none⟩ = some (.int .i64 id) := by rw [hV4, World.cell?_alloc_mark]; rfl
      have HW4 : Hid (W.heap.size ≤ V4.heap.size) := HI4.out.le
      clear hk hr b4 hsl
      go_wp2_with fail
      refine (CID.out _).mono ?_
      rintro e w3 ⟨rfl, hw3⟩
      subst hw3
      clear CID x0 c1 hcz
      go_wp2_with (at_builtin; rw [← hV4]; clear hV4; refine wpList_appendL rfl _ _ rfl W.heap.size _ _ rfl HI4.out.f ⟨w3.heap.size, 0, none⟩ id rfl hVc ?hlen HW4.out ?_)
      case hlen => rw [HFL.out]; omega
      intro v4 X4 O4 s4 H4 A4 B4
      obtain ⟨fa4, fc4, rfl, -⟩ := rdI_own O4
      have hfl : (freedAt H ws j ++ [id]).length = j + 1 := by rw [List.length_append, HFL.out]; rfl
      rw [hfl] at O4 A4 ⊢
      have HL4 : Hid (LS W X4 W.heap.size gx s (wipeAt H ws j) (.slice (some ⟨kg, ko, none⟩) L kc) (.slice fa4 (j + 1) fc4) ws (freedAt H ws (j + 1))) := by
        rw [HFK.out]
        refine ls_fr HI4.out (B4.out _ _ HI4.out.bel (Nat.le_refl _)) s4 H4.out _ _ O4 ?_
        rcases A4.out with e | e
        · exact .inl e
        · exact .inr ⟨_, e, Nat.le_refl _⟩
      have c1 := HGN.out X4 HL4.out.m
      clear O4 s4 H4 A4 B4 HI4 HI hVc
      go_wp2_with fail
      refine (CE.out _).mono ?_
      rintro e w7 ⟨f7, rfl, o7, b7⟩
      obtain ⟨a7, c7, hv7, -⟩ := rdI_own' o7
      rw [show ([-1, -1, -1] : List Int).length = 3 from rfl] at hv7
      subst hv7
      have HLE : Hid (LS W (setObj w7 go (k * 8) (emptyD og) (.slice a7 3 c7)) W.heap.size gx { s with os := s.os.set k ⟨a7, 3, c7⟩ } (wipeAt H ws (j + 1)) (.slice (some ⟨kg, ko, none⟩) L kc) (.slice fa4 (j + 1) fc4) ws (freedAt H ws (j + 1))) := by
        rw [HWK.out]
        exact ls_put HL4.out b7 k hkW go HGO.out (emptyD og) a7 c7 o7
      obtain ⟨_, ob7, fz7⟩ := hm_obj (hm_later HL4.out.m b7) k hkW go HGO.out
      obtain ⟨v0, e0⟩ := objAt_some ob7 0 (by omega)
      obtain ⟨v1, e1⟩ := objAt_some ob7 1 (by omega)
      obtain ⟨v2, e2⟩ := objAt_some ob7 2 (by omega)
      obtain ⟨v3, e3⟩ := objAt_some ob7 3 (by omega)
      obtain ⟨v4, e4⟩ := objAt_some ob7 4 (by omega)
      obtain ⟨v5, e5⟩ := objAt_some ob7 5 (by omega)
      obtain ⟨v6, e6⟩ := objAt_some ob7 6 (by omega)
      obtain ⟨v7, e7⟩ := objAt_some ob7 7 (by omega)
      have n0 := fz7 0 (by omega)
      have n1 := fz7 1 (by omega)
      have n2 := fz7 2 (by omega)
      have n3 := fz7 3 (by omega)
      have n4 := fz7 4 (by omega)
      have n5 := fz7 5 (by omega)
      have n6 := fz7 6 (by omega)
      have n7 := fz7 7 (by omega)
      rw [Nat.add_zero] at e0 n0
      have HGO2 : Hid (({ s with os := s.os.set k ⟨a7, 3, c7⟩ } : HSh).oa = some ⟨go, 0, none⟩) := HGO.out
      clear o7 b7 ob7 fz7 HL4 HWK HFK c1 CE HGN
      unfold objV
      go_wp2
      go_roundw
      case rel => exact ⟨j + 1, { s with os := s.os.set k ⟨a7, 3, c7⟩ }, fa4, fc4, by go_num, by omega, rfl, HGO2, HLE⟩
      case measure => simp [intOf]; omega
    · have HJ : Hid (j = L) := by show _ = _; omega
      have hwm : SmallH (wipeAt H ws j) := wipe_small HSM.out ws j
      have CSE : Hid (∀ _ : Unit, _) := fun (_ : Unit) => settle_calls W wr W.heap.size gx s (wipeAt H ws j) _ _ _ _ HI.out hwm (by rw [wipeAt_len, HL8.out])
      clear hwm HI
      go_wp2_with fail
      refine (CSE.out ()).mono ?_
      rintro e w4 ⟨rfl, s9, L9⟩
      have HL9 : Hid (LS W w4 W.heap.size gx s9 (collH H) (.slice ka L kc) (.slice fa j fc) ws (collF H)) := by
        have e1 : settleH (wipeAt H ws j) = collH H := by rw [HJ.out]; exact HFIN0.out
        have e2 : freedAt H ws j = collF H := by rw [HJ.out]; exact HFR0.out
        rw [e1, e2] at L9
        exact L9
      have e3 := HsW.out
      have XF := HL9.out.x
      have RF : Four w4 (w.heap.size + 1) (.slice none 0 0) (.slice none 0 0) (.slice none 0 0) (.slice none 0 0) := (HL9.out.bel.block (w.heap.size + 1) (by omega)).trans HFR.out
      have q0 := XF.cell 0
      have q1 := XF.cell 1
      have q2 := XF.cell 2
      have q3 := XF.cell 3
      have r0 := RF.cell 0
      have r1 := RF.cell 1
      have r2 := RF.cell 2
      have r3 := RF.cell 3
      have z0 := RF.frozen 0
      have z1 := RF.frozen 1
      have z2 := RF.frozen 2
      have z3 := RF.frozen 3
      simp only [List.getElem?_toArray, List.getElem?_cons_zero, List.getElem?_cons_succ] at q0 q1 q2 q3 r0 r1 r2 r3
      have HBl : Hid (Below w.heap.size w w4) := HBW.out.trans (HL9.out.bel.mono HBW.out.size)
      clear XF RF CSE L9 e3
      go_wp2
      have e3 := HsW.out
      refine bodyPost_ret (v := .tuple #[.agg #[.slice s9.oa s9.os.length s9.oc, .slice s9.wa s9.wn s9.wc, .slice s9.ba s9.bn s9.bc, .slice s9.sa s9.sn s9.sc], .slice fa j fc]) (by simp [results, Try.results50, go_sem, *]) rfl ⟨s9, .slice fa j fc, rfl, ?_, ?_, HL9.out.sf, ?_⟩
      · refine hm_mono (hm_keepB HL9.out.m ?_) (by omega)
        refine (((keepB_set _ _ ⟨w.heap.size + 1, 0, none⟩ _ (by simp only; omega)).trans (keepB_set _ _ ⟨w.heap.size + 1, 1, none⟩ _ (by simp only; omega))).trans (keepB_set _ _ ⟨w.heap.size + 1, 2, none⟩ _ (by simp only; omega))).trans (keepB_set _ _ ⟨w.heap.size + 1, 3, none⟩ _ (by simp only; omega))
      · exact ownI_mono (ownI_same (w' := setFour w4 (w.heap.size + 1) _ _ _ _) HL9.out.f (fun g hg => setFour_other _ _ _ _ _ _ g (by have := (ownI_lt HL9.out.f g hg).1; omega))) (by omega)
      · iterate 4 refine Below.setCell ?_ (by simp only; omega) _
        exact HBl.out

set_option maxHeartbeats 8000000 in
theorem iCollect_no (v : Value) (H : HeapD) (w : World) (h : RdH w v H) (hs : SmallH H) (h8 : H.objs.length ≠ 8) :
    Calls Try.prog 50 #[v] w fun e w' => ∃ (s : HSh) (vf : Value), e = .returned (.tuple #[s.v, vf]) ∧ HM w' w.heap.size s H ∧ ownI w' w.heap.size vf [] ∧ (∀ g, vf.ownBlock = some g → ¬ HasB s g) ∧ Below w.heap.size w w' := by
  have CC : Hid (∀ X, Below w.heap.size w X → _) := fun X hX => iCopy_calls v H X (rdH_later h hX) hs
  have hol := hs.objs
  obtain ⟨ao, co, aw, cw, ab, cb, sa, sc, rfl, -, -, -, -⟩ := h
  obtain ⟨no, hno⟩ : ∃ no, H.objs.length = no := ⟨_, rfl⟩
  rw [hno] at CC h8 hol ⊢
  have hne : ¬ (no : Int) = 8 := by omega
  generalize H.weaks.length = nw at *
  generalize H.buffer.length = nb at *
  generalize H.sites.length = ns at *
  obtain ⟨W, hW⟩ : ∃ W, W = (w.alloc (.cells #[.slice ao no co, .slice aw nw cw, .slice ab nb cb, .slice sa ns sc] 33)).alloc (.cells #[.slice none 0 0, .slice none 0 0, .slice none 0 0, .slice none 0 0] 33) := ⟨_, rfl⟩
  have BW : Below w.heap.size w W := by rw [hW]; exact ((Below.refl _ _).alloc (Nat.le_refl _) _).alloc (by simp) _
  have sW : W.heap.size = w.heap.size + 2 := by rw [hW]; simp
  have FH : Four W w.heap.size (.slice ao no co) (.slice aw nw cw) (.slice ab nb cb) (.slice sa ns sc) := by
    have f := Four.new w (.slice ao no co) (.slice aw nw cw) (.slice ab nb cb) (.slice sa ns sc)
    have f2 := f.later ((Below.refl _ _).alloc (Nat.le_refl _) (.cells #[.slice none 0 0, .slice none 0 0, .slice none 0 0, .slice none 0 0] 33))
    rw [hW]; exact f2
  have FR : Four W (w.heap.size + 1) (.slice none 0 0) (.slice none 0 0) (.slice none 0 0) (.slice none 0 0) := by
    have f := Four.new (w.alloc (.cells #[.slice ao no co, .slice aw nw cw, .slice ab nb cb, .slice sa ns sc] 33)) (.slice none 0 0) (.slice none 0 0) (.slice none 0 0) (.slice none 0 0)
    rw [← hW] at f
    simpa using f
  have HBW : Hid (Below w.heap.size w W) := BW
  have HsW : Hid (W.heap.size = w.heap.size + 2) := sW
  clear hs hno h8
  go_enter Try.func50, Try.ntmps50
  go_wp2_with fail
  rw [← hW]
  clear hW
  refine (CC.out _ BW).mono ?_
  rintro e w1 ⟨s0, rfl, M1, b1⟩
  have hs1 := b1.size
  have F1 := FH.later b1
  have c0 : w1.cell? ⟨w.heap.size, 0, none⟩ = some (.slice ao no co) := F1.cell 0
  have RF := FR.later b1
  have r0 := RF.cell 0
  have r1 := RF.cell 1
  have r2 := RF.cell 2
  have r3 := RF.cell 3
  have z0 := RF.frozen 0
  have z1 := RF.frozen 1
  have z2 := RF.frozen 2
  have z3 := RF.frozen 3
  simp only [List.getElem?_toArray, List.getElem?_cons_zero, List.getElem?_cons_succ] at r0 r1 r2 r3
  have hq0 : w.heap.size < w1.heap.size := by omega
  have hn0 : ¬ w.heap.size = w1.heap.size := by omega
  have hq1 : w.heap.size + 1 < w1.heap.size := by omega
  have hn1 : ¬ w.heap.size + 1 = w1.heap.size := by omega
  have HM1 : Hid (HM w1 W.heap.size s0 H) := M1
  have HBl : Hid (Below w.heap.size w w1) := HBW.out.trans (b1.mono HBW.out.size)
  rw [show s0.v = .agg #[.slice s0.oa s0.os.length s0.oc, .slice s0.wa s0.wn s0.wc, .slice s0.ba s0.bn s0.bc, .slice s0.sa s0.sn s0.sc] from rfl]
  clear M1 b1 F1 FH FR RF BW CC sW
  go_wp2
  have e3 := HsW.out
  refine bodyPost_ret (v := .tuple #[.agg #[.slice s0.oa s0.os.length s0.oc, .slice s0.wa s0.wn s0.wc, .slice s0.ba s0.bn s0.bc, .slice s0.sa s0.sn s0.sc], .slice none 0 0]) (by simp [results, Try.results50, go_sem, *]) rfl ⟨s0, .slice none 0 0, rfl, ?_, ownI_nil _ _, fun g hg => (by simp [Value.ownBlock] at hg), ?_⟩
  · refine hm_mono (hm_later (hm_keepB HM1.out ?_) ((Below.refl _ _).alloc (Nat.le_refl _) _)) (by omega)
    exact (((keepB_set _ _ ⟨w.heap.size + 1, 0, none⟩ _ (by simp only; omega)).trans (keepB_set _ _ ⟨w.heap.size + 1, 1, none⟩ _ (by simp only; omega))).trans (keepB_set _ _ ⟨w.heap.size + 1, 2, none⟩ _ (by simp only; omega))).trans (keepB_set _ _ ⟨w.heap.size + 1, 3, none⟩ _ (by simp only; omega))
  · have b4 : Below w.heap.size w (setFour w1 (w.heap.size + 1) (.slice s0.oa s0.os.length s0.oc) (.slice s0.wa s0.wn s0.wc) (.slice s0.ba s0.bn s0.bc) (.slice s0.sa s0.sn s0.sc)) := by
      unfold setFour
      iterate 4 refine Below.setCell ?_ (by simp only; omega) _
      exact HBl.out
    exact b4.alloc b4.size _

end Go.Proofs.Ytjhdnachbahbmaa

namespace Go.Proofs.Ytjhdnachbahbmaa
open Go.RowKit
set_option linter.unusedVariables false
set_option maxRecDepth 100000

theorem hsv (s : HSh) : s.v = .agg #[.slice s.oa s.os.length s.oc, .slice s.wa s.wn s.wc, .slice s.ba s.bn s.bc, .slice s.sa s.sn s.sc] := rfl
theorem ls_end {W w wr : World} {B gx : Nat} {s : HSh} {H : HeapD} {vf : Value} {fr : List Int} (n : Nat) (c v : Int) (hL : LS W wr B gx s H (.slice none 0 0) vf [] fr) (hn : B ≤ n) (h1 : ¬ HasB s n) (h2 : n ≠ gx) (h4 : vf.ownBlock ≠ some n) (y0 y1 y2 : Value) : ImplPost W B gx (H, ⟨c, v, fr⟩) (.returned (ansV c v vf)) (setThree wr n y0 y1 y2) :=
  ⟨s, vf, rfl, ls_far3 hL n y0 y1 y2 hn h1 h2 (by simp [Value.ownBlock]) h4⟩
theorem hdx {p : Prop} (h : p) : Hid p := h
/-- What an operation of the program ends with where nothing is freed. -/
def EndI (W wr : World) (B gx : Nat) (s : HSh) : Prop := ∀ X H2 c v y0 y1 y2, LS W X B gx s H2 (.slice none 0 0) (.slice none 0 0) [] [] → ImplPost W B gx (H2, ⟨c, v, []⟩) (.returned (ansV c v (.slice none 0 0))) (setThree X (wr.heap.size + 1) y0 y1 y2)
theorem endI {W wr : World} {B gx : Nat} {s : HSh} (hB : B ≤ wr.heap.size + 1) (nh : ¬ HasB s (wr.heap.size + 1)) (hne : wr.heap.size + 1 ≠ gx) : EndI W wr B gx s :=
  fun X H2 c v y0 y1 y2 hX => ls_end (w := wr) (wr.heap.size + 1) c v hX hB nh hne (by simp [Value.ownBlock]) y0 y1 y2

/-- One handle is turned. -/
theorem ls_weak {W wr : World} {B gx : Nat} {s : HSh} {H : HeapD} {vq vf : Value} {todo fr : List Int} (h : LS W wr B gx s H vq vf todo fr) (k : Nat) (hk : k < H.weaks.length) (g : Nat) (hg : s.wa = some ⟨g, 0, none⟩) (d : WeakD) : LS W (setWeak wr g (k * 2) d) B gx s { H with weaks := H.weaks.set k d } vq vf todo fr := by
  have hh : HasB s g := .inr (.inl ⟨_, hg, rfl⟩)
  have oth : ∀ x, x ≠ g → (setWeak wr g (k * 2) d).heap[x]? = wr.heap[x]? := fun x hx => by
    unfold setWeak
    iterate 2 rw [heap_setCell_other _ _ _ _ (by exact hx)]
  refine ⟨?_, h.hB, hm_weak h.m k hk g hg d, h.x.same (oth gx (fun e => h.sx (by rw [e]; exact hh))), h.gB, h.sx, ownQ_same h.q (fun x hx => oth x (fun e => h.sq x hx (by rw [e]; exact hh))), ownI_same h.f (fun x hx => oth x (fun e => h.sf x hx (by rw [e]; exact hh))), h.sq, h.sf, h.qf⟩
  unfold setWeak
  exact (h.bel.setCell (hm_bl h.m hh).1 _).setCell (hm_bl h.m hh).1 _

set_option maxHeartbeats 4000000 in
theorem opLoad_calls (W wr : World) (B gx : Nat) (s : HSh) (H : HeapD) (o : OpD) (hL : LS W wr B gx s H (.slice none 0 0) (.slice none 0 0) [] []) (hs : SmallH H) (hwf : ∀ d ∈ H.weaks, in64 d.target) :
    Calls Try.prog 28 #[opV o, .pointer (some ⟨gx, 0, none⟩)] wr fun e w' => ImplPost W B gx (loadR H o.a) e w' := by
  obtain ⟨V, hV, BV, sV, F5, F3⟩ := entry2 wr o
  have LV : LS W V B gx s H (.slice none 0 0) (.slice none 0 0) [] [] := ls_later hL BV
  have hgx := hL.x.lt
  have hle := hL.le
  have nh : ¬ HasB s (wr.heap.size + 1) := hm_no hL.m (.inr (by omega))
  have hne : wr.heap.size + 1 ≠ gx := by omega
  have HE : Hid (∀ X H2 c v y0 y1 y2, LS W X B gx s H2 (.slice none 0 0) (.slice none 0 0) [] [] → ImplPost W B gx (H2, ⟨c, v, []⟩) (.returned (ansV c v (.slice none 0 0))) (setThree X (wr.heap.size + 1) y0 y1 y2)) := fun X H2 c v y0 y1 y2 hX => ls_end (w := wr) (wr.heap.size + 1) c v hX (by omega) nh hne (by simp [Value.ownBlock]) y0 y1 y2
  have HT : Hid (Three V (wr.heap.size + 1) (.int .i64 0) (.int .i64 0) (.slice none 0 0)) := F3
  have HL : Hid (LS W V B gx s H (.slice none 0 0) (.slice none 0 0) [] []) := LV
  have CR : Hid (∀ c X, _) := fun c X => refused_calls c X
  unfold opV
  obtain ⟨k0, k1, k2, k3, k4⟩ := F5.cells
  cases hu : usedW H o.a with
  | none =>
    have HR : Hid (loadR H o.a = (H, ⟨2, 0, []⟩)) := by show _ = _; unfold loadR; rw [hu]; rfl
    have CU : Hid (∀ _ : Unit, _) := fun (_ : Unit) => usedHandle_no W V B gx s H _ _ _ _ LV hs.weaks o.a hu
    rw [HR.out]
    clear hs hwf hL LV F5 F3 BV HR hu nh
    go_enter Try.func28, Try.ntmps28
    go_wp2_with fail
    rw [← hV]
    clear hV
    refine (CU.out ()).mono ?_
    rintro e w1 ⟨rfl, rfl⟩
    go_wp2_with fail
    refine (CR.out 2 _).mono ?_
    rintro e w2 ⟨rfl, b2⟩
    have T2 := HT.out.later b2
    obtain ⟨q0, q1, q2⟩ := T2.cells
    obtain ⟨z0, z1, z2⟩ := T2.frees
    have HX : Hid _ := HE.out w2 _ 2 0 (.int .i64 2) (.int .i64 0) (.slice none 0 0) (ls_later HL.out b2)
    rw [show ansV 2 0 (.slice none 0 0) = .agg #[.int .i64 2, .int .i64 0, .slice none 0 0] from rfl]
    clear T2 HE HL HT CR b2 k0 k1 k2 k3 k4 CU
    go_wp2
    exact bodyPost_ret (v := ansV 2 0 (.slice none 0 0)) (by simp [results, Try.results28, go_sem, ansV, *]) rfl HX.out
  | some d =>
    obtain ⟨k, hk, hka, hd, hut⟩ := used_yes hu
    obtain ⟨gw, hgw, hw, -⟩ := LV.m.wk k hk
    have hgl := (LV.m.wg _ hgw).2
    have CU : Hid (∀ _ : Unit, _) := fun (_ : Unit) => usedHandle_yes W V B gx s H _ _ _ _ LV hs.weaks k gw hk (by rw [hd]; exact hut) hgw
    have hti : in64 d.target := by rw [← hd]; exact hwf _ (List.getElem_mem hk)
    have CS : Hid (∀ X : LaterW V, _) := fun X => iSlotOf_calls s.v H d.target X.on (hm_rd (hm_later LV.m X.bel)) hs.objs hti.1 hti.2
    have HR : Hid (loadR H o.a = (H, ⟨0, if slotZ H d.target < 0 then -1 else d.target, []⟩)) := by show _ = _; unfold loadR; rw [hu]
    have yt : ∀ X : LaterW V, X.on.cell? ⟨gw, k * 2 + 1, none⟩ = some (.int .i64 d.target) := fun X => (X.bel.cell (p := ⟨gw, k * 2 + 1, none⟩) hgl).trans (by rw [hw.c1, hd])
    have HYT : Hid (∀ X, Below V.heap.size V X → X.cell? ⟨gw, k * 2 + 1, none⟩ = some (.int .i64 d.target)) := fun X hX => (hX.cell (p := ⟨gw, k * 2 + 1, none⟩) hgl).trans (by rw [hw.c1, hd])
    have y0 : ∀ X : LaterW V, X.on.cell? ⟨gx, 0, none⟩ = some (.slice s.oa s.os.length s.oc) := fun X => (LV.x.later X.bel).cell 0
    have y1 : ∀ X : LaterW V, X.on.cell? ⟨gx, 1, none⟩ = some (.slice s.wa s.wn s.wc) := fun X => (LV.x.later X.bel).cell 1
    have y2 : ∀ X : LaterW V, X.on.cell? ⟨gx, 2, none⟩ = some (.slice s.ba s.bn s.bc) := fun X => (LV.x.later X.bel).cell 2
    have y3 : ∀ X : LaterW V, X.on.cell? ⟨gx, 3, none⟩ = some (.slice s.sa s.sn s.sc) := fun X => (LV.x.later X.bel).cell 3
    have hnel := LaterW.some_ V
    rw [HR.out]
    rw [hsv] at CS
    rw [hka] at k1
    rw [hka] at hV
    generalize slotZ H d.target = z at *
    generalize d.target = dt at *
    obtain ⟨v, hv⟩ : ∃ v, (if z < 0 then -1 else dt) = v := ⟨_, rfl⟩
    have HV : Hid ((if z < 0 then -1 else dt) = v) := hv
    rw [hv]
    clear hv
    clear hs hwf hL LV F5 F3 BV HR hu nh hw hd hti hgw hut
    unfold ansV at *
    rw [hka]
    go_enter Try.func28, Try.ntmps28
    go_wp2_with fail
    rw [← hV]
    clear hV
    refine (CU.out ()).mono ?_
    rintro e w1 ⟨rfl, rfl⟩
    clear CU k0 k1 k2 k3 k4
    go_wp2
    refine wp_region_later w1 (Below.refl _ _) (by kernel_rfl) (by kernel_rfl) ?_
    repeat (go_big_quiet_step (first
      | (go_at_call 44; refine (CS.out _).mono ?_; rintro e w2 ⟨rfl, b2⟩; exact ⟨rfl, LaterW.step _ b2⟩)))
    refine wpQuiet_nil ?_
    intro X hXe
    have hX : Below w1.heap.size w1 X := by obtain ⟨n, hn⟩ := hXe; rw [hn]; exact n.bel
    clear hXe yt y0 y1 y2 y3 hnel CS CR
    have T2 := HT.out.later hX
    obtain ⟨q0, q1, q2⟩ := T2.cells
    obtain ⟨z0, z1, z2⟩ := T2.frees
    have hyt := HYT.out X hX
    by_cases hz : z < 0
    · have hv : v = -1 := by rw [← HV.out, if_pos hz]
      have HX : Hid (ImplPost W B gx (H, ⟨0, v, []⟩) (.returned (.agg #[.int .i64 0, .int .i64 (-1), .slice none 0 0])) (setThree X (wr.heap.size + 1) (.int .i64 0) (.int .i64 (-1)) (.slice none 0 0))) := by rw [hv]; exact HE.out X _ 0 (-1) (.int .i64 0) (.int .i64 (-1)) (.slice none 0 0) (ls_later HL.out hX)
      clear hv
      clear T2 HE HL HT HYT hX
      go_wp2
      exact bodyPost_ret (v := ansV 0 (-1) (.slice none 0 0)) (by simp [results, Try.results28, go_sem, ansV, *]) rfl HX.out
    · have hv : v = dt := by rw [← HV.out, if_neg hz]
      have HX : Hid (ImplPost W B gx (H, ⟨0, v, []⟩) (.returned (.agg #[.int .i64 0, .int .i64 dt, .slice none 0 0])) (setThree X (wr.heap.size + 1) (.int .i64 0) (.int .i64 dt) (.slice none 0 0))) := by rw [hv]; exact HE.out X _ 0 dt (.int .i64 0) (.int .i64 dt) (.slice none 0 0) (ls_later HL.out hX)
      clear hv
      clear T2 HE HL HT HYT hX
      go_wp2
      exact bodyPost_ret (v := ansV 0 dt (.slice none 0 0)) (by simp [results, Try.results28, go_sem, ansV, *]) rfl HX.out

set_option maxHeartbeats 4000000 in
theorem opDrop_calls (W wr : World) (B gx : Nat) (s : HSh) (H : HeapD) (o : OpD) (hL : LS W wr B gx s H (.slice none 0 0) (.slice none 0 0) [] []) (hs : SmallH H) (hwf : ∀ d ∈ H.weaks, in64 d.target) :
    Calls Try.prog 29 #[opV o, .pointer (some ⟨gx, 0, none⟩)] wr fun e w' => ImplPost W B gx (dropR H o.a) e w' := by
  obtain ⟨V, hV, BV, sV, F5, F3⟩ := entry2 wr o
  have LV : LS W V B gx s H (.slice none 0 0) (.slice none 0 0) [] [] := ls_later hL BV
  have hgx := hL.x.lt
  have hle := hL.le
  have nh : ¬ HasB s (wr.heap.size + 1) := hm_no hL.m (.inr (by omega))
  have hne : wr.heap.size + 1 ≠ gx := by omega
  have HE : Hid (∀ X H2 c v y0 y1 y2, LS W X B gx s H2 (.slice none 0 0) (.slice none 0 0) [] [] → ImplPost W B gx (H2, ⟨c, v, []⟩) (.returned (ansV c v (.slice none 0 0))) (setThree X (wr.heap.size + 1) y0 y1 y2)) := fun X H2 c v y0 y1 y2 hX => ls_end (w := wr) (wr.heap.size + 1) c v hX (by omega) nh hne (by simp [Value.ownBlock]) y0 y1 y2
  have HT : Hid (Three V (wr.heap.size + 1) (.int .i64 0) (.int .i64 0) (.slice none 0 0)) := F3
  have HL : Hid (LS W V B gx s H (.slice none 0 0) (.slice none 0 0) [] []) := LV
  have CR : Hid (∀ c X, _) := fun c X => refused_calls c X
  unfold opV
  obtain ⟨k0, k1, k2, k3, k4⟩ := F5.cells
  cases hu : usedW H o.a with
  | none =>
    have HR : Hid (dropR H o.a = (H, ⟨2, 0, []⟩)) := by show _ = _; unfold dropR; rw [hu]; rfl
    have CU : Hid (∀ _ : Unit, _) := fun (_ : Unit) => usedHandle_no W V B gx s H _ _ _ _ LV hs.weaks o.a hu
    rw [HR.out]
    clear hs hwf hL LV F5 F3 BV HR hu nh
    go_enter Try.func29, Try.ntmps29
    go_wp2_with fail
    rw [← hV]
    clear hV
    refine (CU.out ()).mono ?_
    rintro e w1 ⟨rfl, rfl⟩
    go_wp2_with fail
    refine (CR.out 2 _).mono ?_
    rintro e w2 ⟨rfl, b2⟩
    have T2 := HT.out.later b2
    obtain ⟨q0, q1, q2⟩ := T2.cells
    obtain ⟨z0, z1, z2⟩ := T2.frees
    have HX : Hid _ := HE.out w2 _ 2 0 (.int .i64 2) (.int .i64 0) (.slice none 0 0) (ls_later HL.out b2)
    rw [show ansV 2 0 (.slice none 0 0) = .agg #[.int .i64 2, .int .i64 0, .slice none 0 0] from rfl]
    clear T2 HE HL HT CR b2 k0 k1 k2 k3 k4 CU
    go_wp2
    exact bodyPost_ret (v := ansV 2 0 (.slice none 0 0)) (by simp [results, Try.results29, go_sem, ansV, *]) rfl HX.out
  | some d =>
    obtain ⟨k, hk, hka, hd, hut⟩ := used_yes hu
    obtain ⟨gw, hgw, hw, hfw⟩ := LV.m.wk k hk
    have hgl := (LV.m.wg _ hgw).2
    have CU : Hid (∀ _ : Unit, _) := fun (_ : Unit) => usedHandle_yes W V B gx s H _ _ _ _ LV hs.weaks k gw hk (by rw [hd]; exact hut) hgw
    have HR : Hid (dropR H o.a = ({ H with weaks := H.weaks.set k ⟨false, 0⟩ }, ⟨0, 0, []⟩)) := by show _ = _; unfold dropR; rw [hu, hka]; rfl
    have LW : LS W (setWeak V gw (k * 2) ⟨false, 0⟩) B gx s { H with weaks := H.weaks.set k ⟨false, 0⟩ } (.slice none 0 0) (.slice none 0 0) [] [] := ls_weak LV k hk gw hgw ⟨false, 0⟩
    have HX : Hid _ := HE.out _ _ 0 0 (.int .i64 0) (.int .i64 0) (.slice none 0 0) LW
    have d0 := hw.c0
    have d1 := hw.c1
    have e0 := hfw 0 (by omega)
    have e1 := hfw 1 (by omega)
    rw [Nat.add_zero] at e0
    obtain ⟨q0, q1, q2⟩ := F3.cells
    obtain ⟨z0, z1, z2⟩ := F3.frees
    have hng : ¬ gw = wr.heap.size + 1 := fun e => nh (by rw [← e]; exact .inr (.inl ⟨_, hgw, rfl⟩))
    have hng2 : ¬ wr.heap.size + 1 = gw := fun e => hng e.symm
    rw [HR.out]
    rw [hka] at k1
    rw [hka] at hV
    clear hs hwf hL LV LW F5 F3 BV HR hu nh hw hd hgw hut hfw HE HL HT CR
    unfold ansV at *
    rw [hka]
    go_enter Try.func29, Try.ntmps29
    go_wp2_with fail
    rw [← hV]
    clear hV
    refine (CU.out ()).mono ?_
    rintro e w1 ⟨rfl, rfl⟩
    clear CU k0 k1 k2 k3 k4
    unfold setWeak setThree at HX
    go_wp2
    exact bodyPost_ret (v := ansV 0 0 (.slice none 0 0)) (by simp [results, Try.results29, go_sem, ansV, *]) rfl HX.out

set_option maxHeartbeats 4000000 in
theorem opWeak_calls (W wr : World) (B gx : Nat) (s : HSh) (H : HeapD) (o : OpD) (hL : LS W wr B gx s H (.slice none 0 0) (.slice none 0 0) [] []) (hs : SmallH H) (hoa : in64 o.a) :
    Calls Try.prog 27 #[opV o, .pointer (some ⟨gx, 0, none⟩)] wr fun e w' => ImplPost W B gx (weakR H o.a) e w' := by
  obtain ⟨V, hV, BV, sV, F5, F3⟩ := entry2 wr o
  have LV : LS W V B gx s H (.slice none 0 0) (.slice none 0 0) [] [] := ls_later hL BV
  have hgx := hL.x.lt
  have hle := hL.le
  have nh : ¬ HasB s (wr.heap.size + 1) := hm_no hL.m (.inr (by omega))
  have hne : wr.heap.size + 1 ≠ gx := by omega
  have HE : Hid (∀ X H2 c v y0 y1 y2, LS W X B gx s H2 (.slice none 0 0) (.slice none 0 0) [] [] → ImplPost W B gx (H2, ⟨c, v, []⟩) (.returned (ansV c v (.slice none 0 0))) (setThree X (wr.heap.size + 1) y0 y1 y2)) := fun X H2 c v y0 y1 y2 hX => ls_end (w := wr) (wr.heap.size + 1) c v hX (by omega) nh hne (by simp [Value.ownBlock]) y0 y1 y2
  have HT : Hid (Three V (wr.heap.size + 1) (.int .i64 0) (.int .i64 0) (.slice none 0 0)) := F3
  have HL : Hid (LS W V B gx s H (.slice none 0 0) (.slice none 0 0) [] []) := LV
  have CR : Hid (∀ c X, _) := fun c X => refused_calls c X
  unfold opV
  obtain ⟨k0, k1, k2, k3, k4⟩ := F5.cells
  have CS : Hid (∀ X : LaterW V, _) := fun X => iSlotOf_calls s.v H o.a X.on (hm_rd (hm_later LV.m X.bel)) hs.objs hoa.1 hoa.2
  have y0 : ∀ X : LaterW V, X.on.cell? ⟨gx, 0, none⟩ = some (.slice s.oa s.os.length s.oc) := fun X => (LV.x.later X.bel).cell 0
  have y1 : ∀ X : LaterW V, X.on.cell? ⟨gx, 1, none⟩ = some (.slice s.wa s.wn s.wc) := fun X => (LV.x.later X.bel).cell 1
  have y2 : ∀ X : LaterW V, X.on.cell? ⟨gx, 2, none⟩ = some (.slice s.ba s.bn s.bc) := fun X => (LV.x.later X.bel).cell 2
  have y3 : ∀ X : LaterW V, X.on.cell? ⟨gx, 3, none⟩ = some (.slice s.sa s.sn s.sc) := fun X => (LV.x.later X.bel).cell 3
  have l0 : ∀ X : LaterW V, X.on.cell? ⟨wr.heap.size, 0, none⟩ = some (.int .i64 o.kind) := fun X => (F5.later X.bel).cell 0
  have l1 : ∀ X : LaterW V, X.on.cell? ⟨wr.heap.size, 1, none⟩ = some (.int .i64 o.a) := fun X => (F5.later X.bel).cell 1
  have l2 : ∀ X : LaterW V, X.on.cell? ⟨wr.heap.size, 2, none⟩ = some (.int .i64 o.b) := fun X => (F5.later X.bel).cell 2
  have l3 : ∀ X : LaterW V, X.on.cell? ⟨wr.heap.size, 3, none⟩ = some (.int .i64 o.c) := fun X => (F5.later X.bel).cell 3
  have hnel := LaterW.some_ V
  have H5 : Hid (Five V wr.heap.size o) := F5
  rw [hsv] at CS
  by_cases hz : slotZ H o.a < 0
  · have HR : Hid (weakR H o.a = (H, ⟨1, 0, []⟩)) := by show _ = _; unfold weakR; rw [if_pos hz]; rfl
    rw [HR.out]
    generalize slotZ H o.a = z at *
    clear hs hL LV F5 F3 BV HR nh hoa k0 k1 k2 k3 k4
    go_enter Try.func27, Try.ntmps27
    go_wp2
    rw [← hV]
    clear hV
    refine wp_region_later V (Below.refl _ _) (by kernel_rfl) (by kernel_rfl) ?_
    repeat (go_big_quiet_step (first
      | (go_at_call 44; refine (CS.out _).mono ?_; rintro e w2 ⟨rfl, b2⟩; exact ⟨rfl, LaterW.step _ b2⟩)))
    refine wpQuiet_nil ?_
    intro X hXe
    have hX : Below V.heap.size V X := by obtain ⟨n, hn⟩ := hXe; rw [hn]; exact n.bel
    clear hXe y0 y1 y2 y3 l0 l1 l2 l3 hnel CS
    have HTX : Hid (Three X (wr.heap.size + 1) (.int .i64 0) (.int .i64 0) (.slice none 0 0)) := HT.out.later hX
    go_wp2_with fail
    refine (CR.out 1 _).mono ?_
    rintro e w2 ⟨rfl, b2⟩
    have T2 := HTX.out.later b2
    obtain ⟨q0, q1, q2⟩ := T2.cells
    obtain ⟨z0, z1, z2⟩ := T2.frees
    have HX : Hid _ := HE.out w2 _ 1 0 (.int .i64 1) (.int .i64 0) (.slice none 0 0) (ls_later (ls_later HL.out hX) b2)
    rw [show ansV 1 0 (.slice none 0 0) = .agg #[.int .i64 1, .int .i64 0, .slice none 0 0] from rfl]
    clear T2 HE HL HT CR b2 HTX hX H5 
    go_wp2
    exact bodyPost_ret (v := ansV 1 0 (.slice none 0 0)) (by simp [results, Try.results27, go_sem, ansV, *]) rfl HX.out
  · obtain ⟨n, hn⟩ : ∃ n, H.weaks.length = n := ⟨_, rfl⟩
    have HWN : Hid (s.wn = n) := by show _ = _; rw [hL.m.lw, hn]
    have CF : Hid (∀ X, Below V.heap.size V X → _) := fun X hX => idxUnused_calls X s.wa s.wc H.weaks (hm_parts (hm_later LV.m hX)).2.1 hs.weaks
    rw [hn, ← HWN.out] at CF
    have HWK : Hid (∀ j (h : j < H.weaks.length), ∃ g, s.wa = some ⟨g, 0, none⟩ ∧ ∀ X, Below V.heap.size V X → WeakAt X g (j * 2) H.weaks[j] ∧ ∀ k, k < 2 → X.frozen? ⟨g, j * 2 + k, none⟩ = false) := fun j h => by
      obtain ⟨g, e1, -, -⟩ := LV.m.wk j h
      refine ⟨g, e1, fun X hX => ?_⟩
      obtain ⟨g2, e2, e3, e4⟩ := (hm_later LV.m hX).wk j h
      rw [e1] at e2; injection e2 with e2; injection e2 with e2 _ _; subst e2
      exact ⟨e3, e4⟩
    have HLW : Hid (∀ X k (hk : k < H.weaks.length) g (hg : s.wa = some ⟨g, 0, none⟩) d, Below V.heap.size V X → LS W (setWeak X g (k * 2) d) B gx s { H with weaks := H.weaks.set k d } (.slice none 0 0) (.slice none 0 0) [] []) := fun X k hk g hg d hX => ls_weak (ls_later LV hX) k hk g hg d
    by_cases hw : freeW H.weaks 0 < 0
    · have HR : Hid (weakR H o.a = (H, ⟨3, 0, []⟩)) := by show _ = _; unfold weakR; rw [if_neg hz, if_pos hw]; rfl
      rw [HR.out]
      generalize slotZ H o.a = z at *
      generalize freeW H.weaks 0 = f at *
      clear hs hL LV F5 F3 BV HR nh hoa k0 k1 k2 k3 k4 hn HLW HWK
      go_enter Try.func27, Try.ntmps27
      go_wp2
      rw [← hV]
      clear hV
      refine wp_region_later V (Below.refl _ _) (by kernel_rfl) (by kernel_rfl) ?_
      repeat (go_big_quiet_step (first
        | (go_at_call 44; refine (CS.out _).mono ?_; rintro e w2 ⟨rfl, b2⟩; exact ⟨rfl, LaterW.step _ b2⟩)))
      refine wpQuiet_nil ?_
      intro X hXe
      have hX : Below V.heap.size V X := by obtain ⟨n, hn⟩ := hXe; rw [hn]; exact n.bel
      clear hXe y0 y1 y2 y3 l0 l1 l2 l3 hnel CS
      have HTX : Hid (Three X (wr.heap.size + 1) (.int .i64 0) (.int .i64 0) (.slice none 0 0)) := HT.out.later hX
      have x1 : X.cell? ⟨gx, 1, none⟩ = some (.slice s.wa s.wn s.wc) := (HL.out.x.later hX).cell 1
      go_wp2_with fail
      refine (CF.out _ hX).mono ?_
      rintro e w3 ⟨rfl, b3⟩
      go_wp2_with fail
      refine (CR.out 3 _).mono ?_
      rintro e w4 ⟨rfl, b4⟩
      have T2 := (HTX.out.later b3).later b4
      obtain ⟨q0, q1, q2⟩ := T2.cells
      obtain ⟨z0, z1, z2⟩ := T2.frees
      have HX : Hid _ := HE.out w4 _ 3 0 (.int .i64 3) (.int .i64 0) (.slice none 0 0) (ls_later (ls_later (ls_later HL.out hX) b3) b4)
      rw [show ansV 3 0 (.slice none 0 0) = .agg #[.int .i64 3, .int .i64 0, .slice none 0 0] from rfl]
      clear T2 HE HL HT CR b4 b3 HTX hX H5 CF x1 
      go_wp2
      exact bodyPost_ret (v := ansV 3 0 (.slice none 0 0)) (by simp [results, Try.results27, go_sem, ansV, *]) rfl HX.out
    · obtain ⟨k, hk, hfk⟩ := freeW_yes H hw
      have HR : Hid (weakR H o.a = ({ H with weaks := H.weaks.set k ⟨true, o.a⟩ }, ⟨0, (k : Int), []⟩)) := by show _ = _; unfold weakR; rw [if_neg hz, if_neg hw, hfk]; rfl
      obtain ⟨gw, hgw, HWA⟩ := HWK.out k hk
      have HWA2 : Hid (∀ X, Below V.heap.size V X → WeakAt X gw (k * 2) H.weaks[k] ∧ ∀ q, q < 2 → X.frozen? ⟨gw, k * 2 + q, none⟩ = false) := HWA
      have HGW : Hid (s.wa = some ⟨gw, 0, none⟩) := hgw
      have hgwl := (LV.m.wg _ hgw).2
      have hng : ¬ gw = wr.heap.size + 1 := fun e => nh (by rw [← e]; exact .inr (.inl ⟨_, hgw, rfl⟩))
      have hng2 : ¬ wr.heap.size + 1 = gw := fun e => hng e.symm
      rw [HR.out]
      rw [hfk] at CF
      have hkn : (k : Int) < (n : Int) := by omega
      have hk0 : (0 : Int) ≤ (k : Int) := by omega
      generalize slotZ H o.a = z at *
      clear hs hL LV F5 F3 BV HR nh hoa k0 k1 k2 k3 k4 hn HWK HWA hw hfk CR hgw
      go_enter Try.func27, Try.ntmps27
      go_wp2
      rw [← hV]
      clear hV
      refine wp_region_later V (Below.refl _ _) (by kernel_rfl) (by kernel_rfl) ?_
      repeat (go_big_quiet_step (first
        | (go_at_call 44; refine (CS.out _).mono ?_; rintro e w2 ⟨rfl, b2⟩; exact ⟨rfl, LaterW.step _ b2⟩)))
      refine wpQuiet_nil ?_
      intro X hXe
      have hX : Below V.heap.size V X := by obtain ⟨n, hn⟩ := hXe; rw [hn]; exact n.bel
      clear hXe y0 y1 y2 y3 l0 l1 l2 l3 hnel CS
      have x1 : X.cell? ⟨gx, 1, none⟩ = some (.slice s.wa s.wn s.wc) := (HL.out.x.later hX).cell 1
      go_wp2_with fail
      refine (CF.out _ hX).mono ?_
      rintro e w3 ⟨rfl, b3⟩
      have hX3 : Below V.heap.size V w3 := hX.trans (b3.mono hX.size)
      have T3 := HT.out.later hX3
      obtain ⟨q0, q1, q2⟩ := T3.cells
      obtain ⟨z0, z1, z2⟩ := T3.frees
      have K3 := H5.out.later hX3
      have a1 : w3.cell? ⟨wr.heap.size, 1, none⟩ = some (.int .i64 o.a) := K3.cell 1
      have HXX : Hid (∀ Y, Below w3.heap.size w3 Y → Y.cell? ⟨gx, 1, none⟩ = some (.slice (some ⟨gw, 0, none⟩) n s.wc) ∧ Y.cell? ⟨wr.heap.size, 1, none⟩ = some (.int .i64 o.a) ∧ WeakAt Y gw (k * 2) H.weaks[k] ∧ Y.frozen? ⟨gw, k * 2, none⟩ = false ∧ Y.frozen? ⟨gw, k * 2 + 1, none⟩ = false ∧ Three Y (wr.heap.size + 1) (.int .i64 0) (.int .i64 0) (.slice none 0 0)) := fun Y hY => by
        have hVY := hX3.trans (hY.mono hX3.size)
        obtain ⟨a1, a2⟩ := HWA2.out Y hVY
        refine ⟨?_, (H5.out.later hVY).cell 1, a1, by have := a2 0 (by omega); rwa [Nat.add_zero] at this, a2 1 (by omega), HT.out.later hVY⟩
        have e := (HL.out.x.later hVY).cell 1
        rw [HGW.out, HWN.out] at e
        exact e
      have HXE : Hid (∀ Y, Below w3.heap.size w3 Y → ImplPost W B gx ({ H with weaks := H.weaks.set k ⟨true, o.a⟩ }, ⟨0, (k : Int), []⟩) (.returned (ansV 0 (k : Int) (.slice none 0 0))) (setThree (setWeak Y gw (k * 2) ⟨true, o.a⟩) (wr.heap.size + 1) (.int .i64 0) (.int .i64 (k : Int)) (.slice none 0 0))) := fun Y hY => HE.out _ _ 0 (k : Int) (.int .i64 0) (.int .i64 (k : Int)) (.slice none 0 0) (HLW.out Y k hk gw HGW.out ⟨true, o.a⟩ (hX3.trans (hY.mono hX3.size)))
      clear HE HL HT CF x1 hX H5 hX3 T3 K3 HLW HWA2 b3 a1 q0 q1 q2 z0 z1 z2 HGW HWN
      go_wp2
      refine wp_region_last 9 (by kernel_rfl) (by kernel_rfl) (RP 1000 (noP) [.pointer (some ⟨gx, 0, none⟩), .pointer (some ⟨gx, 0, none⟩), .pointer (some ⟨gx, 1, none⟩), .slice (some ⟨gw, 0, none⟩) n s.wc, .int .i64 (k : Int), .pointer (some ⟨wr.heap.size, 1, none⟩), .int .i64 o.a, .agg #[.bool true, .int .i64 o.a], .pointer (some ⟨gw, k * 2, none⟩)]) (rp_mono noP_mono) ?_ ?_
      · intro i o hi ho a X hX hA hdep
        match i, hi, ho with
        | 0, _, ho =>
          obtain rfl := Option.some.inj ho
          exact opMove (alike_at hA (t := 1) (by kernel_rfl))  ⟨_, rfl, Below.refl _ _, rp_put (by decide) rfl⟩
        | 1, _, ho =>
          obtain rfl := Option.some.inj ho
          have g0_ : a.eval (.tmp 22) = .pointer (some ⟨gx, 0, none⟩) := rp_at (hdep ⟨0, .data⟩ (by simp) rfl 22 rfl) (by decide) rfl
          exact opNil g0_  ⟨_, rfl, Below.refl _ _, rp_put (by decide) rfl⟩
        | 2, _, ho =>
          obtain rfl := Option.some.inj ho
          have g0_ : a.eval (.tmp 23) = .pointer (some ⟨gx, 0, none⟩) := rp_at (hdep ⟨1, .data⟩ (by simp) rfl 23 rfl) (by decide) rfl
          exact opField 1 (by omega) g0_  ⟨_, rfl, Below.refl _ _, rp_put (by decide) rfl⟩
        | 3, _, ho =>
          obtain rfl := Option.some.inj ho
          have g0_ : a.eval (.tmp 24) = .pointer (some ⟨gx, 1, none⟩) := rp_at (hdep ⟨2, .data⟩ (by simp) rfl 24 rfl) (by decide) rfl
          exact opLoadW g0_ (HXX.out X hX).1 ⟨_, rfl, Below.refl _ _, rp_put (by decide) rfl⟩
        | 4, _, ho =>
          obtain rfl := Option.some.inj ho
          exact opMove (alike_at hA (t := 5) (by kernel_rfl))  ⟨_, rfl, Below.refl _ _, rp_put (by decide) rfl⟩
        | 5, _, ho =>
          obtain rfl := Option.some.inj ho
          exact opFieldOp 1 (by omega) (alike_at hA (t := 2) (by kernel_rfl))  ⟨_, rfl, Below.refl _ _, rp_put (by decide) rfl⟩
        | 6, _, ho =>
          obtain rfl := Option.some.inj ho
          have g0_ : a.eval (.tmp 27) = .pointer (some ⟨wr.heap.size, 1, none⟩) := rp_at (hdep ⟨5, .data⟩ (by simp) rfl 27 rfl) (by decide) rfl
          exact opLoadInt g0_ (HXX.out X hX).2.1 ⟨_, rfl, Below.refl _ _, rp_put (by decide) rfl⟩
        | 7, _, ho =>
          obtain rfl := Option.some.inj ho
          have g0_ : a.eval (.tmp 28) = .int .i64 o.a := rp_at (hdep ⟨6, .data⟩ (by simp) rfl 28 rfl) (by decide) rfl
          exact opBuildWk g0_  ⟨_, rfl, Below.refl _ _, rp_put (by decide) rfl⟩
        | 8, _, ho =>
          obtain rfl := Option.some.inj ho
          have g0_ : a.eval (.tmp 25) = .slice (some ⟨gw, 0, none⟩) n s.wc := rp_at (hdep ⟨3, .data⟩ (by simp) rfl 25 rfl) (by decide) rfl
          have g1_ : a.eval (.tmp 26) = .int .i64 (k : Int) := rp_at (hdep ⟨4, .data⟩ (by simp) rfl 26 rfl) (by decide) rfl
          exact opIndexW g0_ g1_ (by omega) ⟨_, rfl, Below.refl _ _, rp_put (by decide) rfl⟩
      · intro o ho a X hX hA hdep
        obtain rfl := Option.some.inj ho
        have g0_ : a.eval (.tmp 30) = .pointer (some ⟨gw, k * 2, none⟩) := rp_at (hdep ⟨8, .data⟩ (by simp) rfl 30 rfl) (by decide) rfl
        have g1_ : a.eval (.tmp 29) = .agg #[.bool true, .int .i64 o.a] := rp_at (hdep ⟨7, .data⟩ (by simp) rfl 29 rfl) (by decide) rfl
        refine opStoreWk g0_ g1_ (HXX.out X hX).2.2.1.c0 (HXX.out X hX).2.2.1.c1 (HXX.out X hX).2.2.2.1 (HXX.out X hX).2.2.2.2.1 ?_
        obtain ⟨us, hus, rfl⟩ := alike_tmps hA [22, 23, 24, 25, 26, 27, 28, 29, 30] (by kernel_rfl)
        simp only [List.mapIdx_cons, List.mapIdx_nil, Nat.reduceAdd, List.contains_cons, List.contains_nil, Nat.reduceBEq, Bool.or_false, Bool.or_true, if_true, if_false, Bool.false_eq_true]
        have HX : Hid _ := HXE.out X hX
        have T4 := (HXX.out X hX).2.2.2.2.2
        obtain ⟨q0, q1, q2⟩ := T4.cells
        obtain ⟨z0, z1, z2⟩ := T4.frees
        clear HXE HXX hus hdep hA ho T4 hX g0_ g1_
        unfold setWeak setThree at HX
        unfold setWeak
        go_wp2
        exact bodyPost_ret (v := ansV 0 (k : Int) (.slice none 0 0)) (by simp [results, Try.results27, go_sem, ansV, *]) rfl HX.out
end Go.Proofs.Ytjhdnachbahbmaa
