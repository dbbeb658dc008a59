/- As AnyLast, with what any two operations' answers are to each other (that they lie in two blocks). -/
import Derived.Test.YtjhceoejblmihaaAnyLast
namespace Go.Proofs.Ytjhceoejblmihaa
open Go.RowKit
set_option linter.unusedVariables false

/-- What is known of the operations that have been done. -/
structure Been (ops : Array Oper) (n : Nat) (R : Nat → World → Value → Prop) (D : Nat → Nat → Value → Value → Prop) (a : Act) (X : World) (dn : Nat → Prop) : Prop where
  lt : ∀ j, dn j → j < n
  yields : ∀ j, dn j → ∀ t, dstOf ops j = some t → R j X (a.eval (.tmp t))
  pairs : ∀ j k, dn j → dn k → j ≠ k → ∀ t s, dstOf ops j = some t → dstOf ops k = some s → D j k (a.eval (.tmp t)) (a.eval (.tmp s))

theorem wp_region_pair {P : Program} {id : Nat} {Q : Exit → Act → World → Prop} {a0 : Act} {w0 : World} {ops : Array Oper} (n : Nat) (hm : P.follows .mixedOrders = true) (hg : goodR ops n a0.tmps.size = true)
    (R : Nat → World → Value → Prop) (D : Nat → Nat → Value → Value → Prop) (hmono : ∀ i X Y v, R i X v → Below X.heap.size X Y → R i Y v)
    (hstep : ∀ i o, i < n → ops[i]? = some o → ∀ (a : Act) (X : World), Below w0.heap.size w0 X → Alike ops a0 a → ∀ dn : Nat → Prop, Been ops n R D a X dn → (∀ e ∈ o.after, Region.binds .any e = true → dn e.on) →
      o.wp P a X (fun a' X' => ∃ v, a' = a.put o.dst v ∧ Below X.heap.size X X' ∧ R i X' v ∧ ∀ j, dn j → j ≠ i → ∀ t, dstOf ops j = some t → D i j v (a.eval (.tmp t)) ∧ D j i (a.eval (.tmp t)) v) Q)
    (hlast : ∀ o, ops[n]? = some o → ∀ (a : Act) (X : World), Below w0.heap.size w0 X → Alike ops a0 a → ∀ dn : Nat → Prop, Been ops n R D a X dn → (∀ j, j < n → dn j) →
      o.wp P a X (fun a' X' => Q .normal a' X') Q) : (Code.region id ops true).wp P Q a0 w0 := by
  unfold goodR at hg
  simp only [Bool.and_eq_true, beq_iff_eq, List.all_eq_true, List.any_eq_true, List.mem_range, decide_eq_true_eq] at hg
  obtain ⟨⟨⟨⟨hsz, hord⟩, huse⟩, hdis⟩, hin⟩ := hg
  have hord2 : ∀ i o, ops[i]? = some o → o.guard = none ∧ ∀ e ∈ o.after, Region.binds .any e = true → e.on < i := by
    intro i o ho
    have hi : i < n + 1 := by have := (Array.getElem?_eq_some_iff.1 ho).1; omega
    have h := hord i hi
    rw [ho] at h
    simp only [Option.map_some, Option.getD_some, Bool.and_eq_true, Option.isNone_iff_eq_none, Array.all_eq_true'] at h
    refine ⟨h.1, fun e he hb => ?_⟩
    have := h.2 e he
    rw [hb] at this
    simpa using this
  have huse2 : ∀ j, j < n → ∃ i o e, j < i ∧ ops[i]? = some o ∧ e ∈ o.after ∧ Region.binds .any e = true ∧ e.on = j := by
    intro j hj
    obtain ⟨i, hi, hji, h⟩ := huse j hj
    cases ho : ops[i]? with
    | none => rw [ho] at h; simp at h
    | some o =>
      rw [ho] at h
      simp only [Option.map_some, Option.getD_some, Array.any_eq_true'] at h
      obtain ⟨e, he, hb⟩ := h
      simp only [Bool.and_eq_true, beq_iff_eq] at hb
      exact ⟨i, o, e, hji, ho, he, hb.1, hb.2⟩
  have hdis2 : ∀ i j d, i < n + 1 → j < n + 1 → dstOf ops i = some d → dstOf ops j = some d → i = j := by
    intro i j d hi hj h1 h2
    have h := hdis i hi j hj
    rw [h1, h2] at h
    simpa using h
  have hin2 : ∀ i d, i < n + 1 → dstOf ops i = some d → d < a0.tmps.size := by
    intro i d hi h1
    have h := hin i hi
    rw [h1] at h
    simpa using h
  have inR : ∀ {l : Array Bool} {i : Nat}, i ∈ Region.ready .any ops l → l.getD i true = false ∧ ∃ o, ops[i]? = some o ∧ ∀ e ∈ o.after, Region.binds .any e = true → l.getD e.on false = true := fun h => mem_ready.1 h
  refine wp_region_any hm ?_
  refine wpAny_inv (fun l a w => l.size = n + 1 ∧ (∀ i o, ops[i]? = some o → l.getD i false = true → ∀ e ∈ o.after, Region.binds .any e = true → l.getD e.on false = true) ∧
    ((l.getD n false = false ∧ Alike ops a0 a ∧ Below w0.heap.size w0 w ∧ Been ops n R D a w (fun i => i < n ∧ l.getD i false = true)) ∨ ((∀ i, i < n + 1 → l.getD i false = true) ∧ Q .normal a w))) ?_ ?_ _ _ _ _ ?_ ?_
  · rintro l a w ⟨h1, h2, h3⟩ hr
    have hall := listed_of (fun i o ho => (hord2 i o ho).2) h1 hsz hr
    rcases h3 with ⟨h3, _⟩ | ⟨_, h3⟩
    · rw [hall n (by omega)] at h3; cases h3
    · exact h3
  · rintro l a w i ⟨h1, h2, h3⟩ hi
    obtain ⟨hu, o, ho, hdep⟩ := inR hi
    have hil : i < n + 1 := by have := (Array.getElem?_eq_some_iff.1 ho).1; omega
    have hil2 : i < l.size := by omega
    have hset : ∀ j, (l.setIfInBounds i true).getD j false = if i = j then true else l.getD j false := by
      intro j
      by_cases e : i = j
      · subst e; simp [Array.getD_eq_getD_getElem?, hil2]
      · simp [Array.getD_eq_getD_getElem?, Array.getElem?_setIfInBounds_ne e, e]
    have hcl : ∀ k o, ops[k]? = some o → (l.setIfInBounds i true).getD k false = true → ∀ e ∈ o.after, Region.binds .any e = true → (l.setIfInBounds i true).getD e.on false = true := by
      intro k o2 hk hkl e he hb
      rw [hset]
      split
      · rfl
      · rw [hset] at hkl
        split at hkl
        · rename_i hik
          subst hik
          rw [ho] at hk
          injection hk with hk
          subst hk
          exact hdep e he hb
        · exact h2 k o2 hk hkl e he hb
    have hui : l.getD i false = false := by
      simp only [Array.getD_eq_getD_getElem?, Array.getElem?_eq_getElem hil2, Option.getD_some] at hu ⊢
      exact hu
    rcases h3 with ⟨h3, h4, h5, h6⟩ | ⟨h3, _⟩
    rotate_left
    · rw [h3 i hil] at hui; cases hui
    have hdst : dstOf ops i = o.dst := by unfold dstOf; rw [ho]; rfl
    have hdeps : ∀ e ∈ o.after, Region.binds .any e = true → e.on < n ∧ l.getD e.on false = true := by
      intro e he hb
      have h7 := (hord2 i o ho).2 e he hb
      exact ⟨by omega, hdep e he hb⟩
    unfold wpOp
    rw [ho]
    simp only [Region.wanted, (hord2 i o ho).1, if_true]
    by_cases hin3 : i < n
    · refine .inl (Oper.wp_mono (fun a' w' h => ?_) (hstep i o hin3 ho a w h5 h4 _ h6 hdeps))
      obtain ⟨v, rfl, hb, hR, hD⟩ := h
      refine ⟨by simpa using h1, hcl, .inl ⟨?_, by rw [← hdst]; exact h4.put i v, h5.trans (hb.mono h5.size), ?_⟩⟩
      · rw [hset, if_neg (by omega)]; exact h3
      · have hself : ∀ t, dstOf ops i = some t → (a.put (dstOf ops i) v).eval (.tmp t) = v := by
          intro t ht
          rw [ht, eval_put, if_pos ⟨rfl, by rw [h4.size]; exact hin2 i t (by omega) ht⟩]
        have hoth : ∀ j, i ≠ j → j < n → ∀ t, dstOf ops j = some t → (a.put (dstOf ops i) v).eval (.tmp t) = a.eval (.tmp t) := by
          intro j e hj t ht
          have hne : ∀ d, dstOf ops i = some d → d ≠ t := fun d hd e2 => e (hdis2 i j d (by omega) (by omega) hd (by rw [e2]; exact ht))
          cases hd : dstOf ops i with
          | none => rfl
          | some d => rw [eval_put, if_neg (fun h => hne d hd h.1)]
        have hwas : ∀ j, i ≠ j → (l.setIfInBounds i true).getD j false = true → l.getD j false = true := fun j e h => by rw [hset, if_neg e] at h; exact h
        rw [← hdst]
        refine ⟨fun j hj => hj.1, fun j hj t ht => ?_, fun j k hj hk hjk t s ht hs => ?_⟩
        · by_cases e : i = j
          · subst e
            rw [hself t ht]
            exact hR
          · rw [hoth j e hj.1 t ht]
            exact hmono j w w' _ (h6.yields j ⟨hj.1, hwas j e hj.2⟩ t ht) hb
        · by_cases e : i = j
          · subst e
            rw [hself t ht, hoth k hjk hk.1 s hs]
            exact (hD k ⟨hk.1, hwas k hjk hk.2⟩ (fun h => hjk h.symm) s hs).1
          · by_cases e2 : i = k
            · subst e2
              rw [hself s hs, hoth j e hj.1 t ht]
              exact (hD j ⟨hj.1, hwas j e hj.2⟩ hjk t ht).2
            · rw [hoth j e hj.1 t ht, hoth k e2 hk.1 s hs]
              exact h6.pairs j k ⟨hj.1, hwas j e hj.2⟩ ⟨hk.1, hwas k e2 hk.2⟩ hjk t s ht hs
    · obtain rfl : i = n := by omega
      have key : ∀ m j, j + m = i → (l.setIfInBounds i true).getD j false = true := by
        intro m
        induction m using Nat.strongRecOn with
        | _ m ih =>
          intro j hj
          by_cases e : m = 0
          · rw [hset, if_pos (by omega)]
          · obtain ⟨k, o2, e2, hjk, hk, he2, hb2, hon⟩ := huse2 j (by omega)
            have hk2 : k < i + 1 := by have := (Array.getElem?_eq_some_iff.1 hk).1; omega
            have := hcl k o2 hk (ih (i - k) (by omega) k (by omega)) e2 he2 hb2
            rw [hon] at this
            exact this
      have hall : ∀ j, j < i → j < i ∧ l.getD j false = true := fun j hj => ⟨hj, by
        have := key (i - j) j (by omega)
        rw [hset, if_neg (by omega)] at this
        exact this⟩
      refine .inl (Oper.wp_mono (fun a' w' h => ?_) (hlast o ho a w h5 h4 _ h6 hall))
      refine ⟨by simpa using h1, hcl, .inr ⟨?_, h⟩⟩
      intro j hj
      exact key (i - j) j (by omega)
  · simp [hsz, List.countP_replicate]
  · refine ⟨by simp [hsz], fun i o _ hl => ?_, .inl ⟨?_, Alike.refl _ _, (Below.refl _ _).drew, ?_⟩⟩
    · simp only [Array.getD_eq_getD_getElem?, Array.getElem?_replicate] at hl
      split at hl <;> simp at hl
    · simp only [Array.getD_eq_getD_getElem?, Array.getElem?_replicate]
      split <;> rfl
    · have hno : ∀ i, ¬ (i < n ∧ (Array.replicate ops.size false).getD i false = true) := by
        rintro i ⟨_, hl⟩
        simp only [Array.getD_eq_getD_getElem?, Array.getElem?_replicate] at hl
        split at hl <;> simp at hl
      exact ⟨fun i h => h.1, fun i h => absurd h (hno i), fun i j h => absurd h (hno i)⟩

end Go.Proofs.Ytjhceoejblmihaa
