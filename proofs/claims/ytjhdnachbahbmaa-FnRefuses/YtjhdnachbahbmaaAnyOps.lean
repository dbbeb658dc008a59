/- Joined: LaterQuiet, AnyLast, AnyPair, AnyStep, FreshRow, OpWalks, OpMore, FlatWalks, CopyMath. -/
import Derived.Test.YtjhdnachbahbmaaRows
import Derived.Test.YtjhdnachbahbmaaHeapMark
import Derived.WalkKit
import Derived.ProofKit
import Derived.Below
import Derived.BigQuiet
import Derived.Orders
import Derived.Deep.AppendSrc
import Derived.Lib.SliceRun
import Derived.Maps.AppendAt
/- LaterQuiet: A region that draws its order, whose own operations only read, and whose callees write nothing that was there: one walk, in the order of the text. -/
namespace Go.Proofs.Ytjhdnachbahbmaa
open Go.RowKit
set_option linter.unusedVariables false

/-- The worlds in which all that was there is as it was. -/
structure LaterW (w : World) where
  on : World
  bel : Below w.heap.size w on
theorem LaterW.some_ (w : World) : Nonempty (LaterW w) := ⟨⟨w, Below.refl _ _⟩⟩
theorem LaterW.step {w : World} (n : LaterW w) {X : World} (h : Below n.on.heap.size n.on X) : ∃ m : LaterW w, X = m.on := ⟨⟨X, n.bel.trans (h.mono n.bel.size)⟩, rfl⟩
theorem wp_region_later {P : Program} {id : Nat} {Q : Exit → Act → World → Prop} {a : Act} {w : World} {l : List Oper} (w0 : World) (hw : Below w0.heap.size w0 w) (hm : P.follows .mixedOrders = true) (hB : Region.lexB .any l.toArray = true)
    (h : wpQuiet P l.toArray (fun X => ∃ n : LaterW w0, X = n.on) (fun a' => ∀ w', (∃ n : LaterW w0, w' = n.on) → Q .normal a' w') l a) : (Code.region id l.toArray true).wp P Q a w :=
  wp_region_quiet (C := fun X => ∃ n : LaterW w0, X = n.on) hm hB ⟨⟨_, hw.drew⟩, rfl⟩ (by simpa using h)

end Go.Proofs.Ytjhdnachbahbmaa

/- AnyLast: A region that draws its order, whose operations lay blocks or only read, but for the last one: one walk an operation, whatever the order. -/
namespace Go.Proofs.Ytjhdnachbahbmaa
open Go.RowKit
set_option linter.unusedVariables false

theorem ready_none {md : Region.Mode} {ops : Array Oper} {l : Array Bool} (h : l.toList.countP (fun b => !b) = 0) : Region.ready md ops l = [] := by
  unfold Region.ready
  rw [List.filter_eq_nil_iff]
  intro i _ hc
  simp only [Bool.and_eq_true, Bool.not_eq_true'] at hc
  have hi : i < l.size := by
    rcases Nat.lt_or_ge i l.size with h1 | h1
    · exact h1
    · simp [h1] at hc
  have h1 : l[i] = false := by have := hc.1; simpa [hi] using this
  have := (List.countP_eq_zero.1 h) (l[i]) (by simp)
  rw [h1] at this
  simp at this
theorem wpAny_inv {P : Program} {ops : Array Oper} {Q : Exit → Act → World → Prop} {md : Region.Mode} (I : Array Bool → Act → World → Prop)
    (hd : ∀ l a w, I l a w → Region.ready md ops l = [] → Q .normal a w)
    (hs : ∀ l a w i, I l a w → i ∈ Region.ready md ops l → wpOp P ops Q i (fun a' w' => I (l.setIfInBounds i true) a' w') a w) :
    ∀ (fuel : Nat) (l : Array Bool) (a : Act) (w : World), l.toList.countP (fun b => !b) ≤ fuel → I l a w → wpAny P md ops Q fuel l a w := by
  intro fuel
  induction fuel with
  | zero =>
    intro l a w hl hI
    have hr := ready_none (md := md) (ops := ops) (l := l) (by omega)
    exact ⟨hr, hd l a w hI hr⟩
  | succ fuel ih =>
    intro l a w hl hI
    refine ⟨hd l a w hI, fun i hi => wpOp_mono (fun a' w' h => ih _ a' w' ?_ h) (hs l a w i hI hi)⟩
    have h0 := (mem_ready.1 hi).1
    have hi2 : i < l.size := by
      rcases Nat.lt_or_ge i l.size with h1 | h1
      · exact h1
      · simp [h1] at h0
    have h1 : l.toList[i]'(by simpa using hi2) = false := by simpa [hi2] using h0
    have h2 : (l.setIfInBounds i true).toList = l.toList.set i true := by simp
    rw [h2]
    have h3 := List.countP_set (p := fun b => !b) (l := l.toList) (i := i) (a := true) (by simpa using hi2)
    have h4 : 0 < l.toList.countP (fun b => !b) := List.countP_pos_iff.2 ⟨false, by rw [← h1]; exact List.getElem_mem _, rfl⟩
    rw [h3, h1]
    simp only [Bool.not_false, Bool.not_true, if_true, Bool.false_eq_true, if_false]
    omega

/-- The place of what operation i yields. -/
def dstOf (ops : Array Oper) (i : Nat) : Option Tmp := (ops[i]?).bind (·.dst)
/-- Frames that are alike but for places of the region's own. -/
structure Alike (ops : Array Oper) (a0 a : Act) : Prop where
  defers : a.defers = a0.defers
  size : a.tmps.size = a0.tmps.size
  same : ∀ t, (∀ i, dstOf ops i ≠ some t) → a.eval (.tmp t) = a0.eval (.tmp t)
theorem Alike.refl (ops : Array Oper) (a : Act) : Alike ops a a := ⟨rfl, rfl, fun _ _ => rfl⟩
theorem Alike.put {ops : Array Oper} {a0 a : Act} (h : Alike ops a0 a) (i : Nat) (v : Value) : Alike ops a0 (a.put (dstOf ops i) v) := by
  cases hd : dstOf ops i with
  | none => exact h
  | some d =>
    refine ⟨h.defers, by simp [Act.put, h.size], fun t ht => ?_⟩
    rw [← h.same t ht]
    have hne : d ≠ t := fun e => ht i (by rw [hd, e])
    simp [Act.put, Act.eval, Array.getD_eq_getD_getElem?, Array.getElem?_setIfInBounds_ne hne]
theorem eval_put {a : Act} {d t : Tmp} {v : Value} : (a.put (some d) v).eval (.tmp t) = if d = t ∧ d < a.tmps.size then v else a.eval (.tmp t) := by
  by_cases e : d = t
  · subst e
    by_cases hl : d < a.tmps.size
    · simp [Act.put, Act.eval, Array.getD_eq_getD_getElem?, hl]
    · simp [Act.put, Act.eval, Array.getD_eq_getD_getElem?, hl]
  · simp [Act.put, Act.eval, Array.getD_eq_getD_getElem?, Array.getElem?_setIfInBounds_ne e, e]

/-- Each operation waits for elder ones alone, each but the last is waited for by a later one, no two yield into one place, and each place is one of the frame's. -/
def goodR (ops : Array Oper) (n sz : Nat) : Bool :=
  ops.size == n + 1 && ((List.range (n + 1)).all fun i => ((ops[i]?).map fun o => o.guard.isNone && o.after.all fun e => !Region.binds .any e || decide (e.on < i)).getD false) &&
  ((List.range n).all fun j => (List.range (n + 1)).any fun i => decide (j < i) && ((ops[i]?).map fun o => o.after.any fun e => Region.binds .any e && e.on == j).getD false) &&
  ((List.range (n + 1)).all fun i => (List.range (n + 1)).all fun j => i == j || (match dstOf ops i, dstOf ops j with | some d, some e => d != e | _, _ => true)) &&
  ((List.range (n + 1)).all fun i => match dstOf ops i with | some d => decide (d < sz) | none => true)

theorem listed_of {ops : Array Oper} {l : Array Bool} {n : Nat} (hord : ∀ i o, ops[i]? = some o → ∀ e ∈ o.after, Region.binds .any e = true → e.on < i) (hl : l.size = n) (hn : ops.size = n) (hr : Region.ready .any ops l = []) : ∀ i, i < n → l.getD i false = true := by
  intro i
  induction i using Nat.strongRecOn with
  | _ i ih =>
    intro hi
    rcases hb : l.getD i false with _ | _
    · exfalso
      obtain ⟨o, ho⟩ : ∃ o, ops[i]? = some o := ⟨ops[i]'(by omega), Array.getElem?_eq_getElem (by omega)⟩
      have hm : i ∈ Region.ready .any ops l := by
        refine mem_ready.2 ⟨?_, o, ho, fun e he hbn => ?_⟩
        · have h1 : i < l.size := by omega
          simp only [Array.getD_eq_getD_getElem?, Array.getElem?_eq_getElem h1, Option.getD_some] at hb ⊢
          exact hb
        · have := hord i o ho e he hbn
          exact ih e.on this (by omega)
      rw [hr] at hm
      cases hm
    · rfl

theorem wp_region_last {P : Program} {id : Nat} {Q : Exit → Act → World → Prop} {a0 : Act} {w0 : World} {ops : Array Oper} (n : Nat) (hm : P.follows .mixedOrders = true) (hg : goodR ops n a0.tmps.size = true)
    (R : Nat → World → Value → Prop) (hmono : ∀ i X Y v, R i X v → Below X.heap.size X Y → R i Y v)
    (hstep : ∀ i o, i < n → ops[i]? = some o → ∀ (a : Act) (X : World), Below w0.heap.size w0 X → Alike ops a0 a → (∀ e ∈ o.after, Region.binds .any e = true → ∀ t, dstOf ops e.on = some t → R e.on X (a.eval (.tmp t))) →
      o.wp P a X (fun a' X' => ∃ v, a' = a.put o.dst v ∧ Below X.heap.size X X' ∧ R i X' v) Q)
    (hlast : ∀ o, ops[n]? = some o → ∀ (a : Act) (X : World), Below w0.heap.size w0 X → Alike ops a0 a → (∀ e ∈ o.after, Region.binds .any e = true → ∀ t, dstOf ops e.on = some t → R e.on X (a.eval (.tmp t))) →
      o.wp P a X (fun a' X' => Q .normal a' X') Q) : (Code.region id ops true).wp P Q a0 w0 := by
  unfold goodR at hg
  simp only [Bool.and_eq_true, beq_iff_eq, List.all_eq_true, List.any_eq_true, List.mem_range, decide_eq_true_eq] at hg
  obtain ⟨⟨⟨⟨hsz, hord⟩, huse⟩, hdis⟩, hin⟩ := hg
  have hord2 : ∀ i o, ops[i]? = some o → o.guard = none ∧ ∀ e ∈ o.after, Region.binds .any e = true → e.on < i := by
    intro i o ho
    have hi : i < n + 1 := by have := (Array.getElem?_eq_some_iff.1 ho).1; omega
    have h := hord i hi
    rw [ho] at h
    simp only [Option.map_some, Option.getD_some, Bool.and_eq_true, Option.isNone_iff_eq_none, Array.all_eq_true'] at h
    refine ⟨h.1, fun e he hb => ?_⟩
    have := h.2 e he
    rw [hb] at this
    simpa using this
  have huse2 : ∀ j, j < n → ∃ i o e, j < i ∧ ops[i]? = some o ∧ e ∈ o.after ∧ Region.binds .any e = true ∧ e.on = j := by
    intro j hj
    obtain ⟨i, hi, hji, h⟩ := huse j hj
    cases ho : ops[i]? with
    | none => rw [ho] at h; simp at h
    | some o =>
      rw [ho] at h
      simp only [Option.map_some, Option.getD_some, Array.any_eq_true'] at h
      obtain ⟨e, he, hb⟩ := h
      simp only [Bool.and_eq_true, beq_iff_eq] at hb
      exact ⟨i, o, e, hji, ho, he, hb.1, hb.2⟩
  have hdis2 : ∀ i j d, i < n + 1 → j < n + 1 → dstOf ops i = some d → dstOf ops j = some d → i = j := by
    intro i j d hi hj h1 h2
    have h := hdis i hi j hj
    rw [h1, h2] at h
    simpa using h
  have hin2 : ∀ i d, i < n + 1 → dstOf ops i = some d → d < a0.tmps.size := by
    intro i d hi h1
    have h := hin i hi
    rw [h1] at h
    simpa using h
  have inR : ∀ {l : Array Bool} {i : Nat}, i ∈ Region.ready .any ops l → l.getD i true = false ∧ ∃ o, ops[i]? = some o ∧ ∀ e ∈ o.after, Region.binds .any e = true → l.getD e.on false = true := fun h => mem_ready.1 h
  refine wp_region_any hm ?_
  refine wpAny_inv (fun l a w => l.size = n + 1 ∧ (∀ i o, ops[i]? = some o → l.getD i false = true → ∀ e ∈ o.after, Region.binds .any e = true → l.getD e.on false = true) ∧
    ((l.getD n false = false ∧ Alike ops a0 a ∧ Below w0.heap.size w0 w ∧ ∀ i, i < n → l.getD i false = true → ∀ t, dstOf ops i = some t → R i w (a.eval (.tmp t))) ∨ ((∀ i, i < n + 1 → l.getD i false = true) ∧ Q .normal a w))) ?_ ?_ _ _ _ _ ?_ ?_
  · rintro l a w ⟨h1, h2, h3⟩ hr
    have hall := listed_of (fun i o ho => (hord2 i o ho).2) h1 hsz hr
    rcases h3 with ⟨h3, _⟩ | ⟨_, h3⟩
    · rw [hall n (by omega)] at h3; cases h3
    · exact h3
  · rintro l a w i ⟨h1, h2, h3⟩ hi
    obtain ⟨hu, o, ho, hdep⟩ := inR hi
    have hil : i < n + 1 := by have := (Array.getElem?_eq_some_iff.1 ho).1; omega
    have hil2 : i < l.size := by omega
    have hset : ∀ j, (l.setIfInBounds i true).getD j false = if i = j then true else l.getD j false := by
      intro j
      by_cases e : i = j
      · subst e; simp [Array.getD_eq_getD_getElem?, hil2]
      · simp [Array.getD_eq_getD_getElem?, Array.getElem?_setIfInBounds_ne e, e]
    have hcl : ∀ k o, ops[k]? = some o → (l.setIfInBounds i true).getD k false = true → ∀ e ∈ o.after, Region.binds .any e = true → (l.setIfInBounds i true).getD e.on false = true := by
      intro k o2 hk hkl e he hb
      rw [hset]
      split
      · rfl
      · rw [hset] at hkl
        split at hkl
        · rename_i hik
          subst hik
          rw [ho] at hk
          injection hk with hk
          subst hk
          exact hdep e he hb
        · exact h2 k o2 hk hkl e he hb
    have hui : l.getD i false = false := by
      simp only [Array.getD_eq_getD_getElem?, Array.getElem?_eq_getElem hil2, Option.getD_some] at hu ⊢
      exact hu
    rcases h3 with ⟨h3, h4, h5, h6⟩ | ⟨h3, _⟩
    rotate_left
    · rw [h3 i hil] at hui; cases hui
    have hdst : dstOf ops i = o.dst := by unfold dstOf; rw [ho]; rfl
    have hdeps : ∀ e ∈ o.after, Region.binds .any e = true → ∀ t, dstOf ops e.on = some t → R e.on w (a.eval (.tmp t)) := by
      intro e he hb t ht
      have h7 := (hord2 i o ho).2 e he hb
      exact h6 e.on (by omega) (hdep e he hb) t ht
    unfold wpOp
    rw [ho]
    simp only [Region.wanted, (hord2 i o ho).1, if_true]
    by_cases hin3 : i < n
    · refine .inl (Oper.wp_mono (fun a' w' h => ?_) (hstep i o hin3 ho a w h5 h4 hdeps))
      obtain ⟨v, rfl, hb, hR⟩ := h
      refine ⟨by simpa using h1, hcl, .inl ⟨?_, by rw [← hdst]; exact h4.put i v, h5.trans (hb.mono h5.size), ?_⟩⟩
      · rw [hset, if_neg (by omega)]; exact h3
      · intro j hj hjl t ht
        rw [← hdst]
        by_cases e : i = j
        · subst e
          rw [ht, eval_put, if_pos ⟨rfl, by rw [h4.size]; exact hin2 i t (by omega) ht⟩]
          exact hR
        · rw [hset, if_neg e] at hjl
          have hne : ∀ d, dstOf ops i = some d → d ≠ t := fun d hd e2 => e (hdis2 i j d (by omega) (by omega) hd (by rw [e2]; exact ht))
          have hev : (a.put (dstOf ops i) v).eval (.tmp t) = a.eval (.tmp t) := by
            cases hd : dstOf ops i with
            | none => rfl
            | some d => rw [eval_put, if_neg (fun h => hne d hd h.1)]
          rw [hev]
          exact hmono j w w' _ (h6 j hj hjl t ht) hb
    · obtain rfl : i = n := by omega
      refine .inl (Oper.wp_mono (fun a' w' h => ?_) (hlast o ho a w h5 h4 hdeps))
      refine ⟨by simpa using h1, hcl, .inr ⟨?_, h⟩⟩
      have key : ∀ m j, j + m = i → (l.setIfInBounds i true).getD j false = true := by
        intro m
        induction m using Nat.strongRecOn with
        | _ m ih =>
          intro j hj
          by_cases e : m = 0
          · rw [hset, if_pos (by omega)]
          · obtain ⟨k, o2, e2, hjk, hk, he2, hb2, hon⟩ := huse2 j (by omega)
            have hk2 : k < i + 1 := by have := (Array.getElem?_eq_some_iff.1 hk).1; omega
            have := hcl k o2 hk (ih (i - k) (by omega) k (by omega)) e2 he2 hb2
            rw [hon] at this
            exact this
      intro j hj
      exact key (i - j) j (by omega)
  · simp [hsz, List.countP_replicate]
  · refine ⟨by simp [hsz], fun i o _ hl => ?_, .inl ⟨?_, Alike.refl _ _, (Below.refl _ _).drew, fun i _ hl => ?_⟩⟩
    · simp only [Array.getD_eq_getD_getElem?, Array.getElem?_replicate] at hl
      split at hl <;> simp at hl
    · simp only [Array.getD_eq_getD_getElem?, Array.getElem?_replicate]
      split <;> rfl
    · simp only [Array.getD_eq_getD_getElem?, Array.getElem?_replicate] at hl
      split at hl <;> simp at hl

/-- The region yields into these places alone. -/
def dsIn (ops : Array Oper) (ds : List Nat) : Bool := ops.toList.all fun o => match o.dst with | some d => ds.contains d | none => true
/-- A frame alike, written out. -/
theorem alike_tmps {ops : Array Oper} {a0 a : Act} (h : Alike ops a0 a) (ds : List Nat) (hds : dsIn ops ds = true) :
    ∃ us : Nat → Value, (∀ t, a.eval (.tmp t) = us t) ∧ a = ⟨(a0.tmps.toList.mapIdx fun t v => if ds.contains t then us t else v).toArray, a0.defers⟩ := by
  refine ⟨fun t => a.eval (.tmp t), fun _ => rfl, ?_⟩
  have hds2 : ∀ i d, dstOf ops i = some d → ds.contains d = true := by
    intro i d hd
    unfold dstOf at hd
    cases ho : ops[i]? with
    | none => rw [ho] at hd; simp at hd
    | some o =>
      rw [ho] at hd
      have h1 : o ∈ ops.toList := by simpa using Array.mem_of_getElem? ho
      have h2 := (List.all_eq_true.1 hds) o h1
      simp only [Option.bind_some] at hd
      rw [hd] at h2
      exact h2
  obtain ⟨ts, df⟩ := a
  have h1 := h.defers
  have h2 := h.size
  simp only at h1 h2
  rw [h1]
  congr 1
  apply Array.ext
  · simp [h2]
  · intro i hi1 hi2
    simp only [List.getElem_toArray, List.getElem_mapIdx]
    split
    · simp [Act.eval, Array.getD_eq_getD_getElem?, hi1]
    · rename_i hn
      have := h.same i (fun k hk => hn (hds2 k i hk))
      have h3 : i < a0.tmps.size := by omega
      simp only [Act.eval, Array.getD_eq_getD_getElem?, Array.getElem?_eq_getElem hi1, Array.getElem?_eq_getElem h3, Option.getD_some] at this
      rw [this]
      simp

/-- No operation yields into the place. -/
def notIn (ops : Array Oper) (t : Tmp) : Bool := ops.toList.all fun o => match o.dst with | some d => d != t | none => true
theorem alike_at {ops : Array Oper} {a0 a : Act} (h : Alike ops a0 a) {t : Tmp} (hn : notIn ops t = true) : a.eval (.tmp t) = a0.eval (.tmp t) := by
  refine h.same t (fun i hd => ?_)
  unfold dstOf at hd
  cases ho : ops[i]? with
  | none => rw [ho] at hd; simp at hd
  | some o =>
    rw [ho] at hd
    have h1 : o ∈ ops.toList := by simpa using Array.mem_of_getElem? ho
    have h2 := (List.all_eq_true.1 hn) o h1
    simp only [Option.bind_some] at hd
    rw [hd] at h2
    simp at h2

end Go.Proofs.Ytjhdnachbahbmaa

/- AnyPair: As AnyLast, with what any two operations' answers are to each other (that they lie in two blocks). -/
namespace Go.Proofs.Ytjhdnachbahbmaa
open Go.RowKit
set_option linter.unusedVariables false

/-- What is known of the operations that have been done. -/
structure Been (ops : Array Oper) (n : Nat) (R : Nat → World → Value → Prop) (D : Nat → Nat → Value → Value → Prop) (a : Act) (X : World) (dn : Nat → Prop) : Prop where
  lt : ∀ j, dn j → j < n
  yields : ∀ j, dn j → ∀ t, dstOf ops j = some t → R j X (a.eval (.tmp t))
  pairs : ∀ j k, dn j → dn k → j ≠ k → ∀ t s, dstOf ops j = some t → dstOf ops k = some s → D j k (a.eval (.tmp t)) (a.eval (.tmp s))

theorem wp_region_pair {P : Program} {id : Nat} {Q : Exit → Act → World → Prop} {a0 : Act} {w0 : World} {ops : Array Oper} (n : Nat) (hm : P.follows .mixedOrders = true) (hg : goodR ops n a0.tmps.size = true)
    (R : Nat → World → Value → Prop) (D : Nat → Nat → Value → Value → Prop) (hmono : ∀ i X Y v, R i X v → Below X.heap.size X Y → R i Y v)
    (hstep : ∀ i o, i < n → ops[i]? = some o → ∀ (a : Act) (X : World), Below w0.heap.size w0 X → Alike ops a0 a → ∀ dn : Nat → Prop, Been ops n R D a X dn → (∀ e ∈ o.after, Region.binds .any e = true → dn e.on) →
      o.wp P a X (fun a' X' => ∃ v, a' = a.put o.dst v ∧ Below X.heap.size X X' ∧ R i X' v ∧ ∀ j, dn j → j ≠ i → ∀ t, dstOf ops j = some t → D i j v (a.eval (.tmp t)) ∧ D j i (a.eval (.tmp t)) v) Q)
    (hlast : ∀ o, ops[n]? = some o → ∀ (a : Act) (X : World), Below w0.heap.size w0 X → Alike ops a0 a → ∀ dn : Nat → Prop, Been ops n R D a X dn → (∀ j, j < n → dn j) →
      o.wp P a X (fun a' X' => Q .normal a' X') Q) : (Code.region id ops true).wp P Q a0 w0 := by
  unfold goodR at hg
  simp only [Bool.and_eq_true, beq_iff_eq, List.all_eq_true, List.any_eq_true, List.mem_range, decide_eq_true_eq] at hg
  obtain ⟨⟨⟨⟨hsz, hord⟩, huse⟩, hdis⟩, hin⟩ := hg
  have hord2 : ∀ i o, ops[i]? = some o → o.guard = none ∧ ∀ e ∈ o.after, Region.binds .any e = true → e.on < i := by
    intro i o ho
    have hi : i < n + 1 := by have := (Array.getElem?_eq_some_iff.1 ho).1; omega
    have h := hord i hi
    rw [ho] at h
    simp only [Option.map_some, Option.getD_some, Bool.and_eq_true, Option.isNone_iff_eq_none, Array.all_eq_true'] at h
    refine ⟨h.1, fun e he hb => ?_⟩
    have := h.2 e he
    rw [hb] at this
    simpa using this
  have huse2 : ∀ j, j < n → ∃ i o e, j < i ∧ ops[i]? = some o ∧ e ∈ o.after ∧ Region.binds .any e = true ∧ e.on = j := by
    intro j hj
    obtain ⟨i, hi, hji, h⟩ := huse j hj
    cases ho : ops[i]? with
    | none => rw [ho] at h; simp at h
    | some o =>
      rw [ho] at h
      simp only [Option.map_some, Option.getD_some, Array.any_eq_true'] at h
      obtain ⟨e, he, hb⟩ := h
      simp only [Bool.and_eq_true, beq_iff_eq] at hb
      exact ⟨i, o, e, hji, ho, he, hb.1, hb.2⟩
  have hdis2 : ∀ i j d, i < n + 1 → j < n + 1 → dstOf ops i = some d → dstOf ops j = some d → i = j := by
    intro i j d hi hj h1 h2
    have h := hdis i hi j hj
    rw [h1, h2] at h
    simpa using h
  have hin2 : ∀ i d, i < n + 1 → dstOf ops i = some d → d < a0.tmps.size := by
    intro i d hi h1
    have h := hin i hi
    rw [h1] at h
    simpa using h
  have inR : ∀ {l : Array Bool} {i : Nat}, i ∈ Region.ready .any ops l → l.getD i true = false ∧ ∃ o, ops[i]? = some o ∧ ∀ e ∈ o.after, Region.binds .any e = true → l.getD e.on false = true := fun h => mem_ready.1 h
  refine wp_region_any hm ?_
  refine wpAny_inv (fun l a w => l.size = n + 1 ∧ (∀ i o, ops[i]? = some o → l.getD i false = true → ∀ e ∈ o.after, Region.binds .any e = true → l.getD e.on false = true) ∧
    ((l.getD n false = false ∧ Alike ops a0 a ∧ Below w0.heap.size w0 w ∧ Been ops n R D a w (fun i => i < n ∧ l.getD i false = true)) ∨ ((∀ i, i < n + 1 → l.getD i false = true) ∧ Q .normal a w))) ?_ ?_ _ _ _ _ ?_ ?_
  · rintro l a w ⟨h1, h2, h3⟩ hr
    have hall := listed_of (fun i o ho => (hord2 i o ho).2) h1 hsz hr
    rcases h3 with ⟨h3, _⟩ | ⟨_, h3⟩
    · rw [hall n (by omega)] at h3; cases h3
    · exact h3
  · rintro l a w i ⟨h1, h2, h3⟩ hi
    obtain ⟨hu, o, ho, hdep⟩ := inR hi
    have hil : i < n + 1 := by have := (Array.getElem?_eq_some_iff.1 ho).1; omega
    have hil2 : i < l.size := by omega
    have hset : ∀ j, (l.setIfInBounds i true).getD j false = if i = j then true else l.getD j false := by
      intro j
      by_cases e : i = j
      · subst e; simp [Array.getD_eq_getD_getElem?, hil2]
      · simp [Array.getD_eq_getD_getElem?, Array.getElem?_setIfInBounds_ne e, e]
    have hcl : ∀ k o, ops[k]? = some o → (l.setIfInBounds i true).getD k false = true → ∀ e ∈ o.after, Region.binds .any e = true → (l.setIfInBounds i true).getD e.on false = true := by
      intro k o2 hk hkl e he hb
      rw [hset]
      split
      · rfl
      · rw [hset] at hkl
        split at hkl
        · rename_i hik
          subst hik
          rw [ho] at hk
          injection hk with hk
          subst hk
          exact hdep e he hb
        · exact h2 k o2 hk hkl e he hb
    have hui : l.getD i false = false := by
      simp only [Array.getD_eq_getD_getElem?, Array.getElem?_eq_getElem hil2, Option.getD_some] at hu ⊢
      exact hu
    rcases h3 with ⟨h3, h4, h5, h6⟩ | ⟨h3, _⟩
    rotate_left
    · rw [h3 i hil] at hui; cases hui
    have hdst : dstOf ops i = o.dst := by unfold dstOf; rw [ho]; rfl
    have hdeps : ∀ e ∈ o.after, Region.binds .any e = true → e.on < n ∧ l.getD e.on false = true := by
      intro e he hb
      have h7 := (hord2 i o ho).2 e he hb
      exact ⟨by omega, hdep e he hb⟩
    unfold wpOp
    rw [ho]
    simp only [Region.wanted, (hord2 i o ho).1, if_true]
    by_cases hin3 : i < n
    · refine .inl (Oper.wp_mono (fun a' w' h => ?_) (hstep i o hin3 ho a w h5 h4 _ h6 hdeps))
      obtain ⟨v, rfl, hb, hR, hD⟩ := h
      refine ⟨by simpa using h1, hcl, .inl ⟨?_, by rw [← hdst]; exact h4.put i v, h5.trans (hb.mono h5.size), ?_⟩⟩
      · rw [hset, if_neg (by omega)]; exact h3
      · have hself : ∀ t, dstOf ops i = some t → (a.put (dstOf ops i) v).eval (.tmp t) = v := by
          intro t ht
          rw [ht, eval_put, if_pos ⟨rfl, by rw [h4.size]; exact hin2 i t (by omega) ht⟩]
        have hoth : ∀ j, i ≠ j → j < n → ∀ t, dstOf ops j = some t → (a.put (dstOf ops i) v).eval (.tmp t) = a.eval (.tmp t) := by
          intro j e hj t ht
          have hne : ∀ d, dstOf ops i = some d → d ≠ t := fun d hd e2 => e (hdis2 i j d (by omega) (by omega) hd (by rw [e2]; exact ht))
          cases hd : dstOf ops i with
          | none => rfl
          | some d => rw [eval_put, if_neg (fun h => hne d hd h.1)]
        have hwas : ∀ j, i ≠ j → (l.setIfInBounds i true).getD j false = true → l.getD j false = true := fun j e h => by rw [hset, if_neg e] at h; exact h
        rw [← hdst]
        refine ⟨fun j hj => hj.1, fun j hj t ht => ?_, fun j k hj hk hjk t s ht hs => ?_⟩
        · by_cases e : i = j
          · subst e
            rw [hself t ht]
            exact hR
          · rw [hoth j e hj.1 t ht]
            exact hmono j w w' _ (h6.yields j ⟨hj.1, hwas j e hj.2⟩ t ht) hb
        · by_cases e : i = j
          · subst e
            rw [hself t ht, hoth k hjk hk.1 s hs]
            exact (hD k ⟨hk.1, hwas k hjk hk.2⟩ (fun h => hjk h.symm) s hs).1
          · by_cases e2 : i = k
            · subst e2
              rw [hself s hs, hoth j e hj.1 t ht]
              exact (hD j ⟨hj.1, hwas j e hj.2⟩ hjk t ht).2
            · rw [hoth j e hj.1 t ht, hoth k e2 hk.1 s hs]
              exact h6.pairs j k ⟨hj.1, hwas j e hj.2⟩ ⟨hk.1, hwas k e2 hk.2⟩ hjk t s ht hs
    · obtain rfl : i = n := by omega
      have key : ∀ m j, j + m = i → (l.setIfInBounds i true).getD j false = true := by
        intro m
        induction m using Nat.strongRecOn with
        | _ m ih =>
          intro j hj
          by_cases e : m = 0
          · rw [hset, if_pos (by omega)]
          · obtain ⟨k, o2, e2, hjk, hk, he2, hb2, hon⟩ := huse2 j (by omega)
            have hk2 : k < i + 1 := by have := (Array.getElem?_eq_some_iff.1 hk).1; omega
            have := hcl k o2 hk (ih (i - k) (by omega) k (by omega)) e2 he2 hb2
            rw [hon] at this
            exact this
      have hall : ∀ j, j < i → j < i ∧ l.getD j false = true := fun j hj => ⟨hj, by
        have := key (i - j) j (by omega)
        rw [hset, if_neg (by omega)] at this
        exact this⟩
      refine .inl (Oper.wp_mono (fun a' w' h => ?_) (hlast o ho a w h5 h4 _ h6 hall))
      refine ⟨by simpa using h1, hcl, .inr ⟨?_, h⟩⟩
      intro j hj
      exact key (i - j) j (by omega)
  · simp [hsz, List.countP_replicate]
  · refine ⟨by simp [hsz], fun i o _ hl => ?_, .inl ⟨?_, Alike.refl _ _, (Below.refl _ _).drew, ?_⟩⟩
    · simp only [Array.getD_eq_getD_getElem?, Array.getElem?_replicate] at hl
      split at hl <;> simp at hl
    · simp only [Array.getD_eq_getD_getElem?, Array.getElem?_replicate]
      split <;> rfl
    · have hno : ∀ i, ¬ (i < n ∧ (Array.replicate ops.size false).getD i false = true) := by
        rintro i ⟨_, hl⟩
        simp only [Array.getD_eq_getD_getElem?, Array.getElem?_replicate] at hl
        split at hl <;> simp at hl
      exact ⟨fun i h => h.1, fun i h => absurd h (hno i), fun i j h => absurd h (hno i)⟩

end Go.Proofs.Ytjhdnachbahbmaa

/- AnyStep: As AnyPair, with operations that may write what was there: each says what it leaves of the others' answers. -/
namespace Go.Proofs.Ytjhdnachbahbmaa
open Go.RowKit
set_option linter.unusedVariables false

theorem wp_region_step {P : Program} {id : Nat} {Q : Exit → Act → World → Prop} {a0 : Act} {w0 : World} {ops : Array Oper} (n : Nat) (hm : P.follows .mixedOrders = true) (hg : goodR ops n a0.tmps.size = true)
    (J : (Nat → Prop) → World → Prop) (R : Nat → World → Value → Prop) (D : Nat → Nat → Value → Value → Prop) (hJ : J (fun _ => False) w0.drew)
    (hstep : ∀ i o, i < n → ops[i]? = some o → ∀ (a : Act) (X : World) (dn : Nat → Prop), J dn X → Alike ops a0 a → Been ops n R D a X dn → ¬ dn i → (∀ e ∈ o.after, Region.binds .any e = true → dn e.on) →
      o.wp P a X (fun a' X' => ∃ v, a' = a.put o.dst v ∧ J (fun j => dn j ∨ j = i) X' ∧ R i X' v ∧ ∀ j, dn j → j ≠ i → ∀ t, dstOf ops j = some t → R j X' (a.eval (.tmp t)) ∧ D i j v (a.eval (.tmp t)) ∧ D j i (a.eval (.tmp t)) v) Q)
    (hlast : ∀ o, ops[n]? = some o → ∀ (a : Act) (X : World) (dn : Nat → Prop), J dn X → Alike ops a0 a → Been ops n R D a X dn → (∀ j, j < n → dn j) →
      o.wp P a X (fun a' X' => Q .normal a' X') Q) : (Code.region id ops true).wp P Q a0 w0 := by
  unfold goodR at hg
  simp only [Bool.and_eq_true, beq_iff_eq, List.all_eq_true, List.any_eq_true, List.mem_range, decide_eq_true_eq] at hg
  obtain ⟨⟨⟨⟨hsz, hord⟩, huse⟩, hdis⟩, hin⟩ := hg
  have hord2 : ∀ i o, ops[i]? = some o → o.guard = none ∧ ∀ e ∈ o.after, Region.binds .any e = true → e.on < i := by
    intro i o ho
    have hi : i < n + 1 := by have := (Array.getElem?_eq_some_iff.1 ho).1; omega
    have h := hord i hi
    rw [ho] at h
    simp only [Option.map_some, Option.getD_some, Bool.and_eq_true, Option.isNone_iff_eq_none, Array.all_eq_true'] at h
    refine ⟨h.1, fun e he hb => ?_⟩
    have := h.2 e he
    rw [hb] at this
    simpa using this
  have huse2 : ∀ j, j < n → ∃ i o e, j < i ∧ ops[i]? = some o ∧ e ∈ o.after ∧ Region.binds .any e = true ∧ e.on = j := by
    intro j hj
    obtain ⟨i, hi, hji, h⟩ := huse j hj
    cases ho : ops[i]? with
    | none => rw [ho] at h; simp at h
    | some o =>
      rw [ho] at h
      simp only [Option.map_some, Option.getD_some, Array.any_eq_true'] at h
      obtain ⟨e, he, hb⟩ := h
      simp only [Bool.and_eq_true, beq_iff_eq] at hb
      exact ⟨i, o, e, hji, ho, he, hb.1, hb.2⟩
  have hdis2 : ∀ i j d, i < n + 1 → j < n + 1 → dstOf ops i = some d → dstOf ops j = some d → i = j := by
    intro i j d hi hj h1 h2
    have h := hdis i hi j hj
    rw [h1, h2] at h
    simpa using h
  have hin2 : ∀ i d, i < n + 1 → dstOf ops i = some d → d < a0.tmps.size := by
    intro i d hi h1
    have h := hin i hi
    rw [h1] at h
    simpa using h
  have inR : ∀ {l : Array Bool} {i : Nat}, i ∈ Region.ready .any ops l → l.getD i true = false ∧ ∃ o, ops[i]? = some o ∧ ∀ e ∈ o.after, Region.binds .any e = true → l.getD e.on false = true := fun h => mem_ready.1 h
  refine wp_region_any hm ?_
  refine wpAny_inv (fun l a w => l.size = n + 1 ∧ (∀ i o, ops[i]? = some o → l.getD i false = true → ∀ e ∈ o.after, Region.binds .any e = true → l.getD e.on false = true) ∧
    ((l.getD n false = false ∧ Alike ops a0 a ∧ J (fun i => i < n ∧ l.getD i false = true) w ∧ Been ops n R D a w (fun i => i < n ∧ l.getD i false = true)) ∨ ((∀ i, i < n + 1 → l.getD i false = true) ∧ Q .normal a w))) ?_ ?_ _ _ _ _ ?_ ?_
  · rintro l a w ⟨h1, h2, h3⟩ hr
    have hall := listed_of (fun i o ho => (hord2 i o ho).2) h1 hsz hr
    rcases h3 with ⟨h3, _⟩ | ⟨_, h3⟩
    · rw [hall n (by omega)] at h3; cases h3
    · exact h3
  · rintro l a w i ⟨h1, h2, h3⟩ hi
    obtain ⟨hu, o, ho, hdep⟩ := inR hi
    have hil : i < n + 1 := by have := (Array.getElem?_eq_some_iff.1 ho).1; omega
    have hil2 : i < l.size := by omega
    have hset : ∀ j, (l.setIfInBounds i true).getD j false = if i = j then true else l.getD j false := by
      intro j
      by_cases e : i = j
      · subst e; simp [Array.getD_eq_getD_getElem?, hil2]
      · simp [Array.getD_eq_getD_getElem?, Array.getElem?_setIfInBounds_ne e, e]
    have hcl : ∀ k o, ops[k]? = some o → (l.setIfInBounds i true).getD k false = true → ∀ e ∈ o.after, Region.binds .any e = true → (l.setIfInBounds i true).getD e.on false = true := by
      intro k o2 hk hkl e he hb
      rw [hset]
      split
      · rfl
      · rw [hset] at hkl
        split at hkl
        · rename_i hik
          subst hik
          rw [ho] at hk
          injection hk with hk
          subst hk
          exact hdep e he hb
        · exact h2 k o2 hk hkl e he hb
    have hui : l.getD i false = false := by
      simp only [Array.getD_eq_getD_getElem?, Array.getElem?_eq_getElem hil2, Option.getD_some] at hu ⊢
      exact hu
    rcases h3 with ⟨h3, h4, h5, h6⟩ | ⟨h3, _⟩
    rotate_left
    · rw [h3 i hil] at hui; cases hui
    have hdst : dstOf ops i = o.dst := by unfold dstOf; rw [ho]; rfl
    have hdeps : ∀ e ∈ o.after, Region.binds .any e = true → e.on < n ∧ l.getD e.on false = true := by
      intro e he hb
      have h7 := (hord2 i o ho).2 e he hb
      exact ⟨by omega, hdep e he hb⟩
    unfold wpOp
    rw [ho]
    simp only [Region.wanted, (hord2 i o ho).1, if_true]
    by_cases hin3 : i < n
    · refine .inl (Oper.wp_mono (fun a' w' h => ?_) (hstep i o hin3 ho a w _ h5 h4 h6 (fun h => by rw [h.2] at hui; cases hui) hdeps))
      obtain ⟨v, rfl, hb, hR, hD⟩ := h
      refine ⟨by simpa using h1, hcl, .inl ⟨?_, by rw [← hdst]; exact h4.put i v, ?_, ?_⟩⟩
      · rw [hset, if_neg (by omega)]; exact h3
      · have hdn : (fun j => j < n ∧ (l.setIfInBounds i true).getD j false = true) = (fun j => (j < n ∧ l.getD j false = true) ∨ j = i) := funext fun j => propext (by
          rw [hset]
          by_cases e : i = j
          · subst e; simp [hin3]
          · rw [if_neg e]
            constructor
            · exact fun h => .inl h
            · rintro (h | h)
              · exact h
              · exact absurd h.symm e)
        rw [hdn]
        exact hb
      · have hself : ∀ t, dstOf ops i = some t → (a.put (dstOf ops i) v).eval (.tmp t) = v := by
          intro t ht
          rw [ht, eval_put, if_pos ⟨rfl, by rw [h4.size]; exact hin2 i t (by omega) ht⟩]
        have hoth : ∀ j, i ≠ j → j < n → ∀ t, dstOf ops j = some t → (a.put (dstOf ops i) v).eval (.tmp t) = a.eval (.tmp t) := by
          intro j e hj t ht
          have hne : ∀ d, dstOf ops i = some d → d ≠ t := fun d hd e2 => e (hdis2 i j d (by omega) (by omega) hd (by rw [e2]; exact ht))
          cases hd : dstOf ops i with
          | none => rfl
          | some d => rw [eval_put, if_neg (fun h => hne d hd h.1)]
        have hwas : ∀ j, i ≠ j → (l.setIfInBounds i true).getD j false = true → l.getD j false = true := fun j e h => by rw [hset, if_neg e] at h; exact h
        rw [← hdst]
        refine ⟨fun j hj => hj.1, fun j hj t ht => ?_, fun j k hj hk hjk t s ht hs => ?_⟩
        · by_cases e : i = j
          · subst e
            rw [hself t ht]
            exact hR
          · rw [hoth j e hj.1 t ht]
            exact (hD j ⟨hj.1, hwas j e hj.2⟩ (fun h => e h.symm) t ht).1
        · by_cases e : i = j
          · subst e
            rw [hself t ht, hoth k hjk hk.1 s hs]
            exact (hD k ⟨hk.1, hwas k hjk hk.2⟩ (fun h => hjk h.symm) s hs).2.1
          · by_cases e2 : i = k
            · subst e2
              rw [hself s hs, hoth j e hj.1 t ht]
              exact (hD j ⟨hj.1, hwas j e hj.2⟩ hjk t ht).2.2
            · rw [hoth j e hj.1 t ht, hoth k e2 hk.1 s hs]
              exact h6.pairs j k ⟨hj.1, hwas j e hj.2⟩ ⟨hk.1, hwas k e2 hk.2⟩ hjk t s ht hs
    · obtain rfl : i = n := by omega
      have key : ∀ m j, j + m = i → (l.setIfInBounds i true).getD j false = true := by
        intro m
        induction m using Nat.strongRecOn with
        | _ m ih =>
          intro j hj
          by_cases e : m = 0
          · rw [hset, if_pos (by omega)]
          · obtain ⟨k, o2, e2, hjk, hk, he2, hb2, hon⟩ := huse2 j (by omega)
            have hk2 : k < i + 1 := by have := (Array.getElem?_eq_some_iff.1 hk).1; omega
            have := hcl k o2 hk (ih (i - k) (by omega) k (by omega)) e2 he2 hb2
            rw [hon] at this
            exact this
      have hall : ∀ j, j < i → j < i ∧ l.getD j false = true := fun j hj => ⟨hj, by
        have := key (i - j) j (by omega)
        rw [hset, if_neg (by omega)] at this
        exact this⟩
      refine .inl (Oper.wp_mono (fun a' w' h => ?_) (hlast o ho a w _ h5 h4 h6 hall))
      refine ⟨by simpa using h1, hcl, .inr ⟨?_, h⟩⟩
      intro j hj
      exact key (i - j) j (by omega)
  · simp [hsz, List.countP_replicate]
  · refine ⟨by simp [hsz], fun i o _ hl => ?_, .inl ⟨?_, Alike.refl _ _, ?_, ?_⟩⟩
    · simp only [Array.getD_eq_getD_getElem?, Array.getElem?_replicate] at hl
      split at hl <;> simp at hl
    · simp only [Array.getD_eq_getD_getElem?, Array.getElem?_replicate]
      split <;> rfl
    · have hdn : (fun i => i < n ∧ (Array.replicate ops.size false).getD i false = true) = (fun _ => False) := funext fun i => propext ⟨fun h => by
          have hl := h.2
          simp only [Array.getD_eq_getD_getElem?, Array.getElem?_replicate] at hl
          split at hl <;> simp at hl, fun h => h.elim⟩
      rw [hdn]
      exact hJ
    · have hno : ∀ i, ¬ (i < n ∧ (Array.replicate ops.size false).getD i false = true) := by
        rintro i ⟨_, hl⟩
        simp only [Array.getD_eq_getD_getElem?, Array.getElem?_replicate] at hl
        split at hl <;> simp at hl
      exact ⟨fun i h => h.1, fun i h => absurd h (hno i), fun i j h => absurd h (hno i)⟩

end Go.Proofs.Ytjhdnachbahbmaa

/- FreshRow: append onto a new, empty row, whatever slice is appended; slices.Clone at numbers, texts, handles and objects. -/
namespace Go.Proofs.Ytjhdnachbahbmaa
open Go.RowKit
set_option linter.unusedVariables false
set_option maxRecDepth 100000

/-- A slice type t, its elements' type e, their size in cells and in bytes. -/
structure El (t e : TypeId) (size bytes : Nat) : Prop where
  ht : Try.prog.underlying t = some (.slice e)
  hi : ∃ i z, Try.prog.info? e = some i ∧ i.zero = some z ∧ i.size = size ∧ i.bytes = bytes ∧ z.cells.size = size
  pos : 0 < size

theorem elI : El 28 3 1 8 := ⟨Try.underlying28, by obtain ⟨i, h1, h2, h3, h4⟩ := info_parts infoI; exact ⟨i, _, h1, h2, h3, h4, rfl⟩, by decide⟩

theorem elS : El 31 9 1 16 := ⟨Try.underlying31, by obtain ⟨i, h1, h2, h3, h4⟩ := info_parts infoS; exact ⟨i, _, h1, h2, h3, h4, rfl⟩, by decide⟩

theorem elW : El 30 63 2 16 := ⟨Try.underlying30, by obtain ⟨i, h1, h2, h3, h4⟩ := info_parts infoW; exact ⟨i, _, h1, h2, h3, h4, rfl⟩, by decide⟩

theorem elO : El 29 50 8 80 := ⟨Try.underlying29, by obtain ⟨i, h1, h2, h3, h4⟩ := info_parts infoO; exact ⟨i, _, h1, h2, h3, h4, rfl⟩, by decide⟩


/-- What a slice that is read yields: m elements of the given cells. -/
structure SrcC (w : World) (x : Option Addr) (m size : Nat) (news : List Value) : Prop where
  len : news.length = m * size
  at_ : ∀ j u, news[j]? = some u → ∃ ad, x = some ad ∧ w.cell? (ad.add j) = some u
  one : ∀ u ∈ news, u.oneCell' = true
theorem SrcC.none_ {w : World} {m size : Nat} {news : List Value} (h : SrcC w none m size news) (hs : 0 < size) : m = 0 ∧ news = [] := by
  have hn : news = [] := by
    cases news with
    | nil => rfl
    | cons u r => obtain ⟨ad, h1, _⟩ := h.at_ 0 u rfl; cases h1
  subst hn
  have := h.len
  simp only [List.length_nil] at this
  rcases Nat.mul_eq_zero.1 this.symm with h1 | h1
  · exact ⟨h1, rfl⟩
  · omega
theorem SrcC.src {w : World} {x : Option Addr} {m size c : Nat} {news : List Value} {t e : TypeId} {bytes : Nat} (h : SrcC w x m size news) (el : El t e size bytes) : Src Try.prog size t (.slice x m c) m news w := by
  cases x with
  | none => obtain ⟨rfl, rfl⟩ := h.none_ el.pos; exact Src.ofNil w el.ht c
  | some ad => exact Src.ofSlice w el.ht ad m c news h.len (fun j u hj => by obtain ⟨ad2, h1, h2⟩ := h.at_ j u hj; injection h1 with h1; rw [h1]; exact h2) h.one
theorem SrcC.later {w w' : World} {x : Option Addr} {m size : Nat} {news : List Value} (h : SrcC w x m size news) (hb : Below w.heap.size w w') : SrcC w' x m size news :=
  ⟨h.len, fun j u hj => by
    obtain ⟨ad, h1, h2⟩ := h.at_ j u hj
    exact ⟨ad, h1, (hb.cell (p := ad.add j) (World.block_lt_of_cell? w _ h2)).trans h2⟩, h.one⟩

theorem run_append_fresh {t e : TypeId} {size bytes : Nat} (el : El t e size bytes) (ty : TypeId) (w : World) (g B : Nat) (hg : w.heap[g]? = some (.cells #[] e (0, 0))) (hB : B ≤ g) (x : Option Addr) (m c : Nat) (news : List Value)
    (hs : SrcC w x m size news) (hm : m ≤ 16777216) (hby : m * bytes ≤ 140737488355328) :
    ∃ v' w', (Builtin.append_ #[t, t] ty #[.slice (some ⟨g, 0, none⟩) 0 0, .slice x m c]).run Try.prog w = .ok v' w' ∧ w'.ownsRow B e size v' m news ∧ Below w.heap.size w w' ∧ ∃ g', v'.ownBlock = some g' ∧ (g' = g ∨ g' = w.heap.size) := by
  obtain ⟨i, z, hi, hz, h1, h2, h3⟩ := el.hi
  have hgl : g < w.heap.size := (Array.getElem?_eq_some_iff.1 hg).1
  have hsrc := hs.src (c := c) el
  by_cases h0 : m = 0
  · subst h0
    have hn : news = [] := List.eq_nil_of_length_eq_zero (by have := hs.len; omega)
    subst hn
    subst h1
    have hr := run_append_room_src (P := Try.prog) w t t ty e i el.ht hi g 0 0 0 (.slice x 0 c) 0 [] hsrc (by omega) (fun j hj => by simp at hj) (fun j hj => by simp at hj)
    exact ⟨_, _, hr, ⟨by simp, .inr ⟨g, 0, #[], rfl, hB, hg, Nat.le_refl _, by unfold maxLen; omega, by simp, by simp⟩⟩, Below.refl _ _, g, rfl, .inl rfl⟩
  · subst h1
    subst h2
    have hold : (Builtin.firstCells i.size 0 (.slice (some ⟨g, 0, none⟩) 0 0)).run Try.prog w.drew = .ok ([] : List Value).toArray w.drew := by
      simp [Builtin.firstCells, loadCells, loadCellsFrom]
    have hnc : Builtin.nextslicecap (0 + m) 0 = m := by unfold Builtin.nextslicecap; rw [if_pos (by omega)]; omega
    have hr := run_append_grow_src (P := Try.prog) w t t ty e i z el.ht hi hz (some ⟨g, 0, none⟩) 0 0 [] hold (.slice x m c) m news hsrc (by omega) (by omega) (by rw [hnc]; omega)
    simp only [Nat.zero_add, List.nil_append] at hr
    have hge := grownCap_ge w m 0 e
    have hcm : grownCap w m 0 e ≤ maxLen := grownCap_le_maxLen w m 0 e (by unfold maxLen; omega)
    refine ⟨_, _, hr, ⟨hs.len, .inr ⟨w.heap.size, _, _, rfl, by omega, heap_alloc_new w.drew _, hge, hcm, ?_, ?_⟩⟩, (Below.refl _ _).drew.alloc (Nat.le_refl _) _, _, rfl, .inr rfl⟩
    · simp only [Array.size_append, List.size_toArray, size_zeroCells, h3, hs.len, ← Nat.add_mul]
      congr 1
      omega
    · rw [Array.toList_append, ← hs.len]
      exact List.take_left

theorem wp_append_fresh {t e : TypeId} {size bytes : Nat} (el : El t e size bytes) {w : World} {o : Oper} {a : Act} {K : Act → World → Prop} {Q : Exit → Act → World → Prop} (s x : Operand)
    (ho : o.op = .call { callee := .builtin .append, args := #[s, x], argTypes := #[t, t] }) (g B : Nat) (hg : w.heap[g]? = some (.cells #[] e (0, 0))) (hB : B ≤ g) (xa : Option Addr) (m c : Nat) (news : List Value)
    (hsv : a.eval s = .slice (some ⟨g, 0, none⟩) 0 0) (hxv : a.eval x = .slice xa m c) (hs : SrcC w xa m size news) (hm : m ≤ 16777216) (hby : m * bytes ≤ 140737488355328)
    (h : ∀ v' w', w'.ownsRow B e size v' m news → Below w.heap.size w w' → Hid (∃ g', v'.ownBlock = some g' ∧ (g' = g ∨ g' = w.heap.size)) → K (a.put o.dst v') w') : o.wp Try.prog a w K Q := by
  obtain ⟨v', w', hr, h2, h3, h4⟩ := run_append_fresh el o.type w g B hg hB xa m c news hs hm hby
  unfold Oper.wp execOp
  simp only [ho, resolve, invoke, builtin, Sem.run_bind, Sem.run_pure, Result.andThen_ok, List.map_toArray, List.map_cons, List.map_nil, hsv, hxv, hr]
  exact h v' w' h2 h3 h4
theorem wpList_append_fresh {t e : TypeId} {size bytes : Nat} (el : El t e size bytes) {w : World} {ops : Array Oper} {rest : List Oper} {o : Oper} {a : Act} {Q : Exit → Act → World → Prop} (hgd : o.guard = none) (s x : Operand)
    (ho : o.op = .call { callee := .builtin .append, args := #[s, x], argTypes := #[t, t] }) (g B : Nat) (hg : w.heap[g]? = some (.cells #[] e (0, 0))) (hB : B ≤ g) (xa : Option Addr) (m c : Nat) (news : List Value)
    (hsv : a.eval s = .slice (some ⟨g, 0, none⟩) 0 0) (hxv : a.eval x = .slice xa m c) (hs : SrcC w xa m size news) (hm : m ≤ 16777216) (hby : m * bytes ≤ 140737488355328)
    (h : ∀ v' w', w'.ownsRow B e size v' m news → Below w.heap.size w w' → Hid (∃ g', v'.ownBlock = some g' ∧ (g' = g ∨ g' = w.heap.size)) → wpList Try.prog ops Q rest (a.put o.dst v') w') : wpList Try.prog ops Q (o :: rest) a w :=
  wpList_plain hgd fun _ hK => wp_append_fresh el s x ho g B hg hB xa m c news hsv hxv hs hm hby fun v' w' h2 h3 h4 => hK _ _ (h v' w' h2 h3 h4)
theorem fresh_at (w : World) (e : TypeId) : (w.alloc (.cells #[] e)).heap[w.heap.size]? = some (.cells #[] e (0, 0)) := heap_alloc_new w _

/-- slices.Clone, at each of the four kinds. -/
theorem cloneI_calls (w : World) (a : Option Addr) (m c : Nat) (news : List Value) (hs : SrcC w a m 1 news) (hm : m ≤ 16777216) :
    Calls Try.prog 21 #[.slice a m c] w fun e w' => ∃ x, e = .returned x ∧ w'.ownsRow w.heap.size 3 1 x m news ∧ Below w.heap.size w w' := by
  cases a with
  | none =>
    obtain ⟨rfl, rfl⟩ := hs.none_ (by omega)
    have hq : ∀ X : World, (binOp .eql 28 (.slice none 0 c) (.slice none 0 0)).run Try.prog X = .ok (.bool true) X := fun X => Lib.run_eql_slice_nil X _ _ none 0 c 0 0 elI.ht
    go_enter Try.func21, Try.ntmps21
    go_wp2
    go_ret
    exact ⟨_, rfl, World.ownsRow_nil _ _ _ _, Below.refl _ _⟩
  | some ad =>
    have HS : Hid (SrcC w (some ad) m 1 news) := hs
    clear hs
    have hq : ∀ X : World, (binOp .eql 28 (.slice (some ad) m c) (.slice none 0 0)).run Try.prog X = .ok (.bool false) X := fun X => Lib.run_eql_slice_nil X _ _ (some ad) m c 0 0 elI.ht
    go_enter Try.func21, Try.ntmps21
    go_wp2_with (at_builtin; refine wpList_append_fresh elI rfl _ _ rfl w.heap.size w.heap.size (fresh_at w _) (Nat.le_refl _) (some ad) m c news rfl rfl ?hs hm (by omega) ?_)
    case hs => exact HS.out.later ((Below.refl _ _).alloc (Nat.le_refl _) _)
    intro v' w' h1 h2 _
    have B2 : Below w.heap.size w w' := ((Below.refl _ _).alloc (Nat.le_refl _) _).trans (h2.mono (by simp))
    go_wp2
    go_ret
    exact ⟨_, rfl, h1, B2⟩

theorem cloneS_calls (w : World) (a : Option Addr) (m c : Nat) (news : List Value) (hs : SrcC w a m 1 news) (hm : m ≤ 16777216) :
    Calls Try.prog 22 #[.slice a m c] w fun e w' => ∃ x, e = .returned x ∧ w'.ownsRow w.heap.size 9 1 x m news ∧ Below w.heap.size w w' := by
  cases a with
  | none =>
    obtain ⟨rfl, rfl⟩ := hs.none_ (by omega)
    have hq : ∀ X : World, (binOp .eql 31 (.slice none 0 c) (.slice none 0 0)).run Try.prog X = .ok (.bool true) X := fun X => Lib.run_eql_slice_nil X _ _ none 0 c 0 0 elS.ht
    go_enter Try.func22, Try.ntmps22
    go_wp2
    go_ret
    exact ⟨_, rfl, World.ownsRow_nil _ _ _ _, Below.refl _ _⟩
  | some ad =>
    have HS : Hid (SrcC w (some ad) m 1 news) := hs
    clear hs
    have hq : ∀ X : World, (binOp .eql 31 (.slice (some ad) m c) (.slice none 0 0)).run Try.prog X = .ok (.bool false) X := fun X => Lib.run_eql_slice_nil X _ _ (some ad) m c 0 0 elS.ht
    go_enter Try.func22, Try.ntmps22
    go_wp2_with (at_builtin; refine wpList_append_fresh elS rfl _ _ rfl w.heap.size w.heap.size (fresh_at w _) (Nat.le_refl _) (some ad) m c news rfl rfl ?hs hm (by omega) ?_)
    case hs => exact HS.out.later ((Below.refl _ _).alloc (Nat.le_refl _) _)
    intro v' w' h1 h2 _
    have B2 : Below w.heap.size w w' := ((Below.refl _ _).alloc (Nat.le_refl _) _).trans (h2.mono (by simp))
    go_wp2
    go_ret
    exact ⟨_, rfl, h1, B2⟩

theorem cloneW_calls (w : World) (a : Option Addr) (m c : Nat) (news : List Value) (hs : SrcC w a m 2 news) (hm : m ≤ 16777216) :
    Calls Try.prog 20 #[.slice a m c] w fun e w' => ∃ x, e = .returned x ∧ w'.ownsRow w.heap.size 63 2 x m news ∧ Below w.heap.size w w' := by
  cases a with
  | none =>
    obtain ⟨rfl, rfl⟩ := hs.none_ (by omega)
    have hq : ∀ X : World, (binOp .eql 30 (.slice none 0 c) (.slice none 0 0)).run Try.prog X = .ok (.bool true) X := fun X => Lib.run_eql_slice_nil X _ _ none 0 c 0 0 elW.ht
    go_enter Try.func20, Try.ntmps20
    go_wp2
    go_ret
    exact ⟨_, rfl, World.ownsRow_nil _ _ _ _, Below.refl _ _⟩
  | some ad =>
    have HS : Hid (SrcC w (some ad) m 2 news) := hs
    clear hs
    have hq : ∀ X : World, (binOp .eql 30 (.slice (some ad) m c) (.slice none 0 0)).run Try.prog X = .ok (.bool false) X := fun X => Lib.run_eql_slice_nil X _ _ (some ad) m c 0 0 elW.ht
    go_enter Try.func20, Try.ntmps20
    go_wp2_with (at_builtin; refine wpList_append_fresh elW rfl _ _ rfl w.heap.size w.heap.size (fresh_at w _) (Nat.le_refl _) (some ad) m c news rfl rfl ?hs hm (by omega) ?_)
    case hs => exact HS.out.later ((Below.refl _ _).alloc (Nat.le_refl _) _)
    intro v' w' h1 h2 _
    have B2 : Below w.heap.size w w' := ((Below.refl _ _).alloc (Nat.le_refl _) _).trans (h2.mono (by simp))
    go_wp2
    go_ret
    exact ⟨_, rfl, h1, B2⟩

theorem cloneO_calls (w : World) (a : Option Addr) (m c : Nat) (news : List Value) (hs : SrcC w a m 8 news) (hm : m ≤ 16777216) :
    Calls Try.prog 19 #[.slice a m c] w fun e w' => ∃ x, e = .returned x ∧ w'.ownsRow w.heap.size 50 8 x m news ∧ Below w.heap.size w w' := by
  cases a with
  | none =>
    obtain ⟨rfl, rfl⟩ := hs.none_ (by omega)
    have hq : ∀ X : World, (binOp .eql 29 (.slice none 0 c) (.slice none 0 0)).run Try.prog X = .ok (.bool true) X := fun X => Lib.run_eql_slice_nil X _ _ none 0 c 0 0 elO.ht
    go_enter Try.func19, Try.ntmps19
    go_wp2
    go_ret
    exact ⟨_, rfl, World.ownsRow_nil _ _ _ _, Below.refl _ _⟩
  | some ad =>
    have HS : Hid (SrcC w (some ad) m 8 news) := hs
    clear hs
    have hq : ∀ X : World, (binOp .eql 29 (.slice (some ad) m c) (.slice none 0 0)).run Try.prog X = .ok (.bool false) X := fun X => Lib.run_eql_slice_nil X _ _ (some ad) m c 0 0 elO.ht
    go_enter Try.func19, Try.ntmps19
    go_wp2_with (at_builtin; refine wpList_append_fresh elO rfl _ _ rfl w.heap.size w.heap.size (fresh_at w _) (Nat.le_refl _) (some ad) m c news rfl rfl ?hs hm (by omega) ?_)
    case hs => exact HS.out.later ((Below.refl _ _).alloc (Nat.le_refl _) _)
    intro v' w' h1 h2 _
    have B2 : Below w.heap.size w w' := ((Below.refl _ _).alloc (Nat.le_refl _) _).trans (h2.mono (by simp))
    go_wp2
    go_ret
    exact ⟨_, rfl, h1, B2⟩

end Go.Proofs.Ytjhdnachbahbmaa

/- OpWalks: Single operations at a frame of which only what is read is known: for regions in whatever order. -/
namespace Go.Proofs.Ytjhdnachbahbmaa
open Go.RowKit
set_option linter.unusedVariables false
set_option maxRecDepth 100000

theorem ev_tmp {a : Act} {t : Tmp} {v : Value} (h : a.eval (.tmp t) = v) : a.tmps[t]?.getD undef = v := by
  rw [← h]; simp [Act.eval, Array.getD_eq_getD_getElem?]

theorem opField {t i : Tmp} {ty : TypeId} {pos : String} {af : Array Edge} {a : Act} {X : World} {K : Act → World → Prop} {Q : Exit → Act → World → Prop} {P : Nat} (k : Nat) (hk : k < 4) (h1 : a.eval (.tmp i) = .pointer (some ⟨P, 0, none⟩)) (hK : K (a.put (some t) (.pointer (some ⟨P, k, none⟩))) X) :
    Oper.wp Try.prog ⟨some t, .fieldAddr 33 (.tmp i) k, ty, pos, af, none⟩ a X K Q := by
  have h := ev_tmp h1
  match k, hk with
  | 0, _ => go_simp; exact hK
  | 1, _ => go_simp; exact hK
  | 2, _ => go_simp; exact hK
  | 3, _ => go_simp; exact hK
theorem opLoadO {t i : Tmp} {ty : TypeId} {pos : String} {af : Array Edge} {a : Act} {X : World} {K : Act → World → Prop} {Q : Exit → Act → World → Prop} {P k : Nat} {v : Value} (h1 : a.eval (.tmp i) = .pointer (some ⟨P, k, none⟩)) (hc : X.cell? ⟨P, k, none⟩ = some v) (hK : K (a.put (some t) v) X) :
    Oper.wp Try.prog ⟨some t, .load 29 (.tmp i), ty, pos, af, none⟩ a X K Q := by
  have h := ev_tmp h1
  go_simp; exact hK
theorem opLoadW {t i : Tmp} {ty : TypeId} {pos : String} {af : Array Edge} {a : Act} {X : World} {K : Act → World → Prop} {Q : Exit → Act → World → Prop} {P k : Nat} {v : Value} (h1 : a.eval (.tmp i) = .pointer (some ⟨P, k, none⟩)) (hc : X.cell? ⟨P, k, none⟩ = some v) (hK : K (a.put (some t) v) X) :
    Oper.wp Try.prog ⟨some t, .load 30 (.tmp i), ty, pos, af, none⟩ a X K Q := by
  have h := ev_tmp h1
  go_simp; exact hK
theorem opLoadI {t i : Tmp} {ty : TypeId} {pos : String} {af : Array Edge} {a : Act} {X : World} {K : Act → World → Prop} {Q : Exit → Act → World → Prop} {P k : Nat} {v : Value} (h1 : a.eval (.tmp i) = .pointer (some ⟨P, k, none⟩)) (hc : X.cell? ⟨P, k, none⟩ = some v) (hK : K (a.put (some t) v) X) :
    Oper.wp Try.prog ⟨some t, .load 28 (.tmp i), ty, pos, af, none⟩ a X K Q := by
  have h := ev_tmp h1
  go_simp; exact hK
theorem opLoadS {t i : Tmp} {ty : TypeId} {pos : String} {af : Array Edge} {a : Act} {X : World} {K : Act → World → Prop} {Q : Exit → Act → World → Prop} {P k : Nat} {v : Value} (h1 : a.eval (.tmp i) = .pointer (some ⟨P, k, none⟩)) (hc : X.cell? ⟨P, k, none⟩ = some v) (hK : K (a.put (some t) v) X) :
    Oper.wp Try.prog ⟨some t, .load 31 (.tmp i), ty, pos, af, none⟩ a X K Q := by
  have h := ev_tmp h1
  go_simp; exact hK
theorem opNewW {t : Tmp} {ty : TypeId} {pos : String} {af : Array Edge} {a : Act} {X : World} {K : Act → World → Prop} {Q : Exit → Act → World → Prop} (hK : K (a.put (some t) (.slice (some ⟨X.heap.size, 0, none⟩) 0 0)) (X.alloc (.cells #[] 63))) :
    Oper.wp Try.prog ⟨some t, .buildSlice 30 0 #[], ty, pos, af, none⟩ a X K Q := by go_simp; exact hK
theorem opNewI {t : Tmp} {ty : TypeId} {pos : String} {af : Array Edge} {a : Act} {X : World} {K : Act → World → Prop} {Q : Exit → Act → World → Prop} (hK : K (a.put (some t) (.slice (some ⟨X.heap.size, 0, none⟩) 0 0)) (X.alloc (.cells #[] 3))) :
    Oper.wp Try.prog ⟨some t, .buildSlice 28 0 #[], ty, pos, af, none⟩ a X K Q := by go_simp; exact hK
theorem opNewS {t : Tmp} {ty : TypeId} {pos : String} {af : Array Edge} {a : Act} {X : World} {K : Act → World → Prop} {Q : Exit → Act → World → Prop} (hK : K (a.put (some t) (.slice (some ⟨X.heap.size, 0, none⟩) 0 0)) (X.alloc (.cells #[] 9))) :
    Oper.wp Try.prog ⟨some t, .buildSlice 31 0 #[], ty, pos, af, none⟩ a X K Q := by go_simp; exact hK
theorem opAlloc {t : Tmp} {ty : TypeId} {pos : String} {af : Array Edge} {a : Act} {X : World} {K : Act → World → Prop} {Q : Exit → Act → World → Prop} (hK : K (a.put (some t) (.pointer (some ⟨X.heap.size, 0, none⟩))) (X.alloc (.cells #[.slice none 0 0, .slice none 0 0, .slice none 0 0, .slice none 0 0] 33))) :
    Oper.wp Try.prog ⟨some t, .alloc 33, ty, pos, af, none⟩ a X K Q := by go_simp; exact hK
theorem opBuild3 {t i j k : Tmp} {ty : TypeId} {pos : String} {af : Array Edge} {a : Act} {X : World} {K : Act → World → Prop} {Q : Exit → Act → World → Prop} {x y z : Option Addr} {n m l c d e : Nat} (h1 : a.eval (.tmp i) = .slice x n c) (h2 : a.eval (.tmp j) = .slice y m d) (h3 : a.eval (.tmp k) = .slice z l e)
    (hK : K (a.put (some t) (.agg #[.slice none 0 0, .slice x n c, .slice y m d, .slice z l e])) X) : Oper.wp Try.prog ⟨some t, .build 33 #[(1, .tmp i), (2, .tmp j), (3, .tmp k)], ty, pos, af, none⟩ a X K Q := by
  have e1 := ev_tmp h1
  have e2 := ev_tmp h2
  have e3 := ev_tmp h3
  go_simp; exact hK
theorem opBuild4 {t h i j k : Tmp} {ty : TypeId} {pos : String} {af : Array Edge} {a : Act} {X : World} {K : Act → World → Prop} {Q : Exit → Act → World → Prop} {x0 x y z : Option Addr} {n0 n m l c0 c d e : Nat} (h0 : a.eval (.tmp h) = .slice x0 n0 c0) (h1 : a.eval (.tmp i) = .slice x n c) (h2 : a.eval (.tmp j) = .slice y m d) (h3 : a.eval (.tmp k) = .slice z l e)
    (hK : K (a.put (some t) (.agg #[.slice x0 n0 c0, .slice x n c, .slice y m d, .slice z l e])) X) : Oper.wp Try.prog ⟨some t, .build 33 #[(0, .tmp h), (1, .tmp i), (2, .tmp j), (3, .tmp k)], ty, pos, af, none⟩ a X K Q := by
  have e0 := ev_tmp h0
  have e1 := ev_tmp h1
  have e2 := ev_tmp h2
  have e3 := ev_tmp h3
  go_simp; exact hK
/-- A block of four slices, and a heap's value stored there. -/
def Four (X : World) (g : Nat) (x0 x1 x2 x3 : Value) : Prop := X.heap[g]? = some (.cells #[x0, x1, x2, x3] 33 (0, 0))
theorem Four.cell {X : World} {g : Nat} {x0 x1 x2 x3 : Value} (h : Four X g x0 x1 x2 x3) (k : Nat) : X.cell? ⟨g, k, none⟩ = (#[x0, x1, x2, x3] : Array Value)[k]? := by
  have h' : X.heap[g]? = some (.cells #[x0, x1, x2, x3] 33 (0, 0)) := h
  simp [World.cell?, h']
theorem Four.frozen {X : World} {g : Nat} {x0 x1 x2 x3 : Value} (h : Four X g x0 x1 x2 x3) (k : Nat) : X.frozen? ⟨g, k, none⟩ = false := by
  have h' : X.heap[g]? = some (.cells #[x0, x1, x2, x3] 33 (0, 0)) := h
  simp [World.frozen?, h']
theorem Four.lt {X : World} {g : Nat} {x0 x1 x2 x3 : Value} (h : Four X g x0 x1 x2 x3) : g < X.heap.size := (Array.getElem?_eq_some_iff.1 h).1
theorem Four.same {X Y : World} {g : Nat} {x0 x1 x2 x3 : Value} (h : Four X g x0 x1 x2 x3) (hs : Y.heap[g]? = X.heap[g]?) : Four Y g x0 x1 x2 x3 := hs.trans h
/-- Four cells of a block are written. -/
def setFour (X : World) (g : Nat) (y0 y1 y2 y3 : Value) : World := (((X.setCell ⟨g, 0, none⟩ y0).setCell ⟨g, 1, none⟩ y1).setCell ⟨g, 2, none⟩ y2).setCell ⟨g, 3, none⟩ y3
theorem opStoreH {i j : Tmp} {ty : TypeId} {pos : String} {af : Array Edge} {a : Act} {X : World} {K : Act → World → Prop} {Q : Exit → Act → World → Prop} {g : Nat} {u0 u1 u2 u3 : Value} {x0 x y z : Option Addr} {n0 n m l c0 c d e : Nat} (h1 : a.eval (.tmp i) = .pointer (some ⟨g, 0, none⟩)) (h2 : a.eval (.tmp j) = .agg #[.slice x0 n0 c0, .slice x n c, .slice y m d, .slice z l e])
    (hf : Four X g u0 u1 u2 u3) (hK : K a (setFour X g (.slice x0 n0 c0) (.slice x n c) (.slice y m d) (.slice z l e))) : Oper.wp Try.prog ⟨none, .store 33 (.tmp i) (.tmp j), ty, pos, af, none⟩ a X K Q := by
  have e1 := ev_tmp h1
  have e2 := ev_tmp h2
  have k0 : X.cell? ⟨g, 0, none⟩ = some u0 := hf.cell 0
  have k1 : X.cell? ⟨g, 1, none⟩ = some u1 := hf.cell 1
  have k2 : X.cell? ⟨g, 2, none⟩ = some u2 := hf.cell 2
  have k3 : X.cell? ⟨g, 3, none⟩ = some u3 := hf.cell 3
  have f0 := hf.frozen 0
  have f1 := hf.frozen 1
  have f2 := hf.frozen 2
  have f3 := hf.frozen 3
  go_simp; exact hK
theorem setFour_size (X : World) (g : Nat) (y0 y1 y2 y3 : Value) : (setFour X g y0 y1 y2 y3).heap.size = X.heap.size := by unfold setFour; simp [World.setCell]
theorem setFour_other (X : World) (g : Nat) (y0 y1 y2 y3 : Value) (i : Nat) (h : i ≠ g) : (setFour X g y0 y1 y2 y3).heap[i]? = X.heap[i]? := by
  unfold setFour
  iterate 4 rw [heap_setCell_other _ _ _ _ (by exact h)]
theorem setFour_four {X : World} {g : Nat} {u0 u1 u2 u3 : Value} (y0 y1 y2 y3 : Value) (h : Four X g u0 u1 u2 u3) : ∀ k, k < 4 → (setFour X g y0 y1 y2 y3).cell? ⟨g, k, none⟩ = (#[y0, y1, y2, y3] : Array Value)[k]? := by
  have same : ∀ (W : World) (q : Nat) (u v : Value), W.cell? ⟨g, q, none⟩ = some v → (W.setCell ⟨g, q, none⟩ u).cell? ⟨g, q, none⟩ = some u := fun W q u v hW => World.cell?_setCell_same W _ u hW
  intro k hk
  unfold setFour
  match k, hk with
  | 0, _ =>
    iterate 3 rw [cell_far _ _ _ _ _ (by omega)]
    exact same _ _ _ _ (h.cell 0)
  | 1, _ =>
    iterate 2 rw [cell_far _ _ _ _ _ (by omega)]
    exact same _ _ _ _ (by rw [cell_far _ _ _ _ _ (by omega)]; exact h.cell 1)
  | 2, _ =>
    rw [cell_far _ _ _ _ _ (by omega)]
    exact same _ _ _ _ (by iterate 2 rw [cell_far _ _ _ _ _ (by omega)]
                           exact h.cell 2)
  | 3, _ =>
    exact same _ _ _ _ (by iterate 3 rw [cell_far _ _ _ _ _ (by omega)]
                           exact h.cell 3)

end Go.Proofs.Ytjhdnachbahbmaa

/- OpMore: Operations one by one, more of them: moves, places of objects, loads and stores of numbers. -/
namespace Go.Proofs.Ytjhdnachbahbmaa
open Go.RowKit
set_option linter.unusedVariables false
set_option maxRecDepth 100000

theorem opMove {t i : Tmp} {ty : TypeId} {pos : String} {af : Array Edge} {a : Act} {X : World} {K : Act → World → Prop} {Q : Exit → Act → World → Prop} {v : Value} (h1 : a.eval (.tmp i) = v) (hK : K (a.put (some t) v) X) :
    Oper.wp Try.prog ⟨some t, .move (.tmp i), ty, pos, af, none⟩ a X K Q := by
  have h := ev_tmp h1
  go_simp; exact hK
theorem opIndexO {t i j : Tmp} {ty : TypeId} {pos : String} {af : Array Edge} {a : Act} {X : World} {K : Act → World → Prop} {Q : Exit → Act → World → Prop} {g n c k : Nat} (h1 : a.eval (.tmp i) = .slice (some ⟨g, 0, none⟩) n c) (h2 : a.eval (.tmp j) = .int .i64 (k : Int)) (hk : k < n) (hK : K (a.put (some t) (.pointer (some ⟨g, k * 8, none⟩))) X) :
    Oper.wp Try.prog ⟨some t, .indexAddr 29 (.tmp i) (.tmp j), ty, pos, af, none⟩ a X K Q := by
  have e1 := ev_tmp h1
  have e2 := ev_tmp h2
  have k1 : (0 : Int) ≤ (k : Int) := by omega
  have k2 : (k : Int) < (n : Int) := by omega
  go_simp; exact hK
theorem opFieldO5 {t i : Tmp} {ty : TypeId} {pos : String} {af : Array Edge} {a : Act} {X : World} {K : Act → World → Prop} {Q : Exit → Act → World → Prop} {g p : Nat} (h1 : a.eval (.tmp i) = .pointer (some ⟨g, p, none⟩)) (hK : K (a.put (some t) (.pointer (some ⟨g, p + 5, none⟩))) X) :
    Oper.wp Try.prog ⟨some t, .fieldAddr 50 (.tmp i) 5, ty, pos, af, none⟩ a X K Q := by
  have h := ev_tmp h1
  go_simp; exact hK
theorem opLoadInt {t i : Tmp} {ty : TypeId} {pos : String} {af : Array Edge} {a : Act} {X : World} {K : Act → World → Prop} {Q : Exit → Act → World → Prop} {g p : Nat} {v : Value} (h1 : a.eval (.tmp i) = .pointer (some ⟨g, p, none⟩)) (hc : X.cell? ⟨g, p, none⟩ = some v) (hK : K (a.put (some t) v) X) :
    Oper.wp Try.prog ⟨some t, .load 3 (.tmp i), ty, pos, af, none⟩ a X K Q := by
  have h := ev_tmp h1
  go_simp; exact hK
theorem opSub1 {t i : Tmp} {ty : TypeId} {pos : String} {af : Array Edge} {a : Act} {X : World} {K : Act → World → Prop} {Q : Exit → Act → World → Prop} {z : Int} (h1 : a.eval (.tmp i) = .int .i64 z) (hK : K (a.put (some t) (.int .i64 (wrap64 (z - 1)))) X) :
    Oper.wp Try.prog ⟨some t, .binOp .sub 3 (.tmp i) (.const (.int .i64 1)) 3, ty, pos, af, none⟩ a X K Q := by
  have h := ev_tmp h1
  have e : IntKind.i64.wrap (z - 1) = wrap64 (z - 1) := by rw [IntKind.wrap_i64]; simp only [wrap64]
  go_simp; exact hK
theorem opStoreInt {i j : Tmp} {ty : TypeId} {pos : String} {af : Array Edge} {a : Act} {X : World} {K : Act → World → Prop} {Q : Exit → Act → World → Prop} {g p : Nat} {u : Value} {z : Int} (h1 : a.eval (.tmp i) = .pointer (some ⟨g, p, none⟩)) (h2 : a.eval (.tmp j) = .int .i64 z) (hc : X.cell? ⟨g, p, none⟩ = some u) (hf : X.frozen? ⟨g, p, none⟩ = false) (hK : K a (X.setCell ⟨g, p, none⟩ (.int .i64 z))) :
    Oper.wp Try.prog ⟨none, .store 3 (.tmp i) (.tmp j), ty, pos, af, none⟩ a X K Q := by
  have e1 := ev_tmp h1
  have e2 := ev_tmp h2
  go_simp; exact hK

/-- 'append(l, x)', l a row of one's own: where the new one lies. -/
theorem wpList_appendL {w : World} {ops : Array Oper} {rest : List Oper} {o : Oper} {a : Act} {Q : Exit → Act → World → Prop} (hgd : o.guard = none) (s x : Operand)
    (ho : o.op = .call { callee := .builtin .append, args := #[s, x], argTypes := #[28, 28] }) (B : Nat) (v : Value) (P : List Int) (hs : a.eval s = v) (hown : ownI w B v P)
    (ad : Addr) (z : Int) (hx : a.eval x = .slice (some ad) 1 1) (hsrc : w.cell? ad = some (.int .i64 z)) (hlen : P.length ≤ 16777215) (hB : B ≤ w.heap.size)
    (h : ∀ v' w', ownI w' B v' (P ++ [z]) → w.heap.size ≤ w'.heap.size → Hid (∀ i, i < w.heap.size → v.ownBlock ≠ some i → w'.heap[i]? = w.heap[i]?) → Hid (v'.ownBlock = v.ownBlock ∨ v'.ownBlock = some w.heap.size) → Hid (∀ C w0, Below C w0 w → C ≤ B → Below C w0 w') → wpList Try.prog ops Q rest (a.put o.dst v') w') : wpList Try.prog ops Q (o :: rest) a w := by
  obtain ⟨i0, hi, hz0, hz1, hz2⟩ := info_parts infoI
  have hlt := World.ownsRow.lt hown
  refine wpList_append_own_at w hgd s x 28 ho B 3 i0 (.int .i64 0) 1 8 Try.underlying28 hi hz0 hz1 hz2 rfl (by decide) v P.length (P.map intV) hs hown ad 1 1 [intV z] hx rfl ?_ ?_ ?_ ?_ hB ?_
  · intro j u hj
    match j, hj with
    | 0, hj =>
      simp at hj
      subst hj
      rw [show ad.add 0 = ad from by cases ad; simp [Addr.add]]
      exact hsrc
    | j + 1, hj => simp at hj
  · intro u hu; simp at hu; subst hu; rfl
  · unfold maxLen; omega
  · omega
  · intro v' w' hown' hgrow _ hat
    refine h v' w' ?_ hgrow.size (fun i hi hne => hgrow.block i hi (fun e => hne e.symm)) hat (fun C w0 hb hC => ?_)
    · unfold ownI
      rw [List.length_append, List.map_append]
      exact hown'
    · exact ⟨hgrow.os.trans hb.os, hgrow.tape.trans hb.tape, hgrow.output.trans hb.output, Nat.le_trans hb.size hgrow.size, fun k hk => (hgrow.block k (by omega) (fun e => by have := (hlt k e.symm).1; omega)).trans (hb.block k hk)⟩

end Go.Proofs.Ytjhdnachbahbmaa

/- FlatWalks: Rows as lists of cells: what is read of a row, what a row of one's own holds. -/
namespace Go.Proofs.Ytjhdnachbahbmaa
open Go.RowKit
set_option linter.unusedVariables false
set_option maxRecDepth 100000

theorem flat_len {α : Type} (f : α → List Value) (sz : Nat) (hf : ∀ x, (f x).length = sz) : ∀ l : List α, (l.flatMap f).length = l.length * sz := by
  intro l
  induction l with
  | nil => simp
  | cons x r ih => rw [List.flatMap_cons, List.length_append, ih, hf, List.length_cons, Nat.add_mul]; omega
theorem flat_at {α : Type} (f : α → List Value) (sz : Nat) (hf : ∀ x, (f x).length = sz) : ∀ (l : List α) (j k : Nat) (hj : j < l.length) (hk : k < sz), (l.flatMap f)[j * sz + k]? = (f l[j])[k]? := by
  intro l
  induction l with
  | nil => intro j k hj; simp at hj
  | cons x r ih =>
    intro j k hj hk
    rw [List.flatMap_cons]
    cases j with
    | zero => rw [List.getElem?_append_left (by rw [hf]; omega)]; simp
    | succ j =>
      rw [List.getElem?_append_right (by rw [hf, Nat.add_mul]; omega), hf, show (j + 1) * sz + k - sz = j * sz + k from by rw [Nat.add_mul]; omega, ih j k (by simpa using hj) hk]
      simp
/-- Each cell of such a list is one of an element. -/
theorem flat_of {α : Type} (f : α → List Value) (sz : Nat) (hs : 0 < sz) (hf : ∀ x, (f x).length = sz) (l : List α) (i : Nat) (u : Value) (h : (l.flatMap f)[i]? = some u) : ∃ j k, ∃ hj : j < l.length, k < sz ∧ i = j * sz + k ∧ (f l[j])[k]? = some u := by
  have hi : i < l.length * sz := by rw [← flat_len f sz hf]; exact (List.getElem?_eq_some_iff.1 h).1
  have hj : i / sz < l.length := (Nat.div_lt_iff_lt_mul hs).2 hi
  have hk : i % sz < sz := Nat.mod_lt _ hs
  have e : i = i / sz * sz + i % sz := by rw [Nat.mul_comm]; exact (Nat.div_add_mod i sz).symm
  refine ⟨i / sz, i % sz, hj, hk, e, ?_⟩
  rw [← flat_at f sz hf l _ _ hj hk, ← e]; exact h

def cellsW (d : WeakD) : List Value := [.bool d.used, .int .i64 d.target]
def cellsOb (p : ObjD × OSh) : List Value := [.bool p.1.live, .int .i64 p.1.gen, .int .i64 p.1.site, .int .i64 p.1.holds, .int .i64 p.1.roots, .int .i64 p.1.count, .slice p.2.f p.2.n p.2.c, .bool p.1.purple]
theorem srcI {w : World} {a : Option Addr} {zs : List Int} (h : RdI w a zs) : SrcC w a zs.length 1 (zs.map intV) := by
  refine ⟨by simp, fun j u hj => ?_, fun u hu => by obtain ⟨z, _, rfl⟩ := List.mem_map.1 hu; rfl⟩
  rw [List.getElem?_map] at hj
  obtain ⟨z, hz, rfl⟩ := Option.map_eq_some_iff.1 hj
  obtain ⟨hl, rfl⟩ := List.getElem?_eq_some_iff.1 hz
  obtain ⟨g, off, rfl, _, h2⟩ := h j hl
  exact ⟨_, rfl, by rw [Addr.add_lit]; exact h2⟩
theorem srcS {w : World} {a : Option Addr} {zs : List (List UInt8)} (h : RdS w a zs) : SrcC w a zs.length 1 (zs.map strV) := by
  refine ⟨by simp, fun j u hj => ?_, fun u hu => by obtain ⟨z, _, rfl⟩ := List.mem_map.1 hu; rfl⟩
  rw [List.getElem?_map] at hj
  obtain ⟨z, hz, rfl⟩ := Option.map_eq_some_iff.1 hj
  obtain ⟨hl, rfl⟩ := List.getElem?_eq_some_iff.1 hz
  obtain ⟨g, off, rfl, _, h2⟩ := h j hl
  exact ⟨_, rfl, by rw [Addr.add_lit]; exact h2⟩
theorem srcW {w : World} {a : Option Addr} {ds : List WeakD} (h : RdW w a ds) : SrcC w a ds.length 2 (ds.flatMap cellsW) := by
  refine ⟨flat_len _ 2 (fun _ => rfl) ds, fun i u hi => ?_, fun u hu => ?_⟩
  · obtain ⟨j, k, hj, hk, rfl, hu⟩ := flat_of cellsW 2 (by omega) (fun _ => rfl) ds i u hi
    obtain ⟨g, off, rfl, _, h2⟩ := h j hj
    refine ⟨_, rfl, ?_⟩
    rw [Addr.add_lit, ← Nat.add_assoc]
    match k, hk with
    | 0, _ => rw [← hu]; exact h2.c0
    | 1, _ => rw [← hu]; exact h2.c1
  · obtain ⟨d, _, hu⟩ := List.mem_flatMap.1 hu
    simp only [cellsW, List.mem_cons, List.not_mem_nil, or_false] at hu
    rcases hu with rfl | rfl <;> rfl
theorem srcO {w : World} {a : Option Addr} {os : List ObjD} (h : RdO w a os) :
    ∃ fs : List OSh, fs.length = os.length ∧ (∀ j (h1 : j < os.length) (h2 : j < fs.length), fs[j].n = os[j].field.length ∧ RdI w fs[j].f os[j].field) ∧ SrcC w a os.length 8 ((os.zip fs).flatMap cellsOb) := by
  have key : ∀ i : Fin os.length, ∃ s : OSh, s.n = os[i].field.length ∧ RdI w s.f os[i].field ∧ ∃ g off, a = some ⟨g, off, none⟩ ∧ ObjAt w g (off + i.1 * 8) os[i] (.slice s.f s.n s.c) := by
    intro i
    obtain ⟨g, off, f, fc, h1, _, h3, h4⟩ := h i.1 i.2
    exact ⟨⟨f, _, fc⟩, rfl, h4, g, off, h1, h3⟩
  refine ⟨List.ofFn (fun i => Classical.choose (key i)), by simp, ?_, ?_⟩
  · intro j h1 h2
    rw [List.getElem_ofFn]
    have := Classical.choose_spec (key ⟨j, h1⟩)
    exact ⟨this.1, this.2.1⟩
  · have hl : (os.zip (List.ofFn (fun i => Classical.choose (key i)))).length = os.length := by simp
    refine ⟨by rw [flat_len cellsOb 8 (fun _ => rfl), hl], fun i u hi => ?_, fun u hu => ?_⟩
    · obtain ⟨j, k, hj, hk, rfl, hu⟩ := flat_of cellsOb 8 (by omega) (fun _ => rfl) _ i u hi
      have hj2 : j < os.length := by rw [hl] at hj; exact hj
      rw [List.getElem_zip, List.getElem_ofFn] at hu
      obtain ⟨g, off, h1, h2⟩ := (Classical.choose_spec (key ⟨j, hj2⟩)).2.2
      refine ⟨_, h1, ?_⟩
      rw [Addr.add_lit, ← Nat.add_assoc]
      match k, hk with
      | 0, _ => rw [← hu]; exact h2.c0
      | 1, _ => rw [← hu]; exact h2.c1
      | 2, _ => rw [← hu]; exact h2.c2
      | 3, _ => rw [← hu]; exact h2.c3
      | 4, _ => rw [← hu]; exact h2.c4
      | 5, _ => rw [← hu]; exact h2.c5
      | 6, _ => rw [← hu]; exact h2.c6
      | 7, _ => rw [← hu]; exact h2.c7
    · obtain ⟨p, _, hu⟩ := List.mem_flatMap.1 hu
      simp only [cellsOb, List.mem_cons, List.not_mem_nil, or_false] at hu
      rcases hu with rfl | rfl | rfl | rfl | rfl | rfl | rfl | rfl <;> rfl

/-- A row of one's own, laid open. -/
theorem row_form {w : World} {B n size : Nat} {e : TypeId} {v : Value} {xs : List Value} (h : w.ownsRow B e size v n xs) : ∃ a c, v = .slice a n c ∧ (∀ x, a = some x → ∃ g, x = ⟨g, 0, none⟩ ∧ B ≤ g ∧ g < w.heap.size ∧ ∃ cur, w.heap[g]? = some (.cells cur e (0, 0))) ∧ (0 < n → ∃ g, a = some ⟨g, 0, none⟩) := by
  rcases h with ⟨h1, ⟨h2, h3⟩ | ⟨g, cap, cur, h2, h3, h4, h5, h6, h7⟩⟩
  · exact ⟨none, 0, by rw [h2, h3], (fun x hx => by cases hx), fun h => by omega⟩
  · exact ⟨_, cap, h2, (fun x hx => by injection hx with hx; exact ⟨g, hx.symm, h3, (Array.getElem?_eq_some_iff.1 h4).1, cur, h4⟩), fun _ => ⟨g, rfl⟩⟩
/-- A row is no longer than its room. -/
theorem row_cap {w : World} {B n size c : Nat} {e : TypeId} {a : Option Addr} {xs : List Value} (h : w.ownsRow B e size (.slice a n c) n xs) : n ≤ c := by
  rcases h with ⟨h1, ⟨h2, h3⟩ | ⟨g, cap, cur, h2, h3, h4, h5, h6, h7⟩⟩
  · simp only [Value.slice.injEq] at h2; omega
  · simp only [Value.slice.injEq] at h2; omega
/-- Rows of two kinds lie in two blocks. -/
theorem row_dif {w : World} {B C n m sz sz2 : Nat} {e e2 : TypeId} {a b : Option Addr} {c d : Nat} {xs ys : List Value} (h1 : w.ownsRow B e sz (.slice a n c) n xs) (h2 : w.ownsRow C e2 sz2 (.slice b m d) m ys) (hne : e ≠ e2) : Dif a b := by
  intro x y hx hy he
  obtain ⟨a1, c1, e1, f1, _⟩ := row_form h1
  obtain ⟨a2, c2, e3, f2, _⟩ := row_form h2
  simp only [Value.slice.injEq] at e1 e3
  obtain ⟨g, rfl, _, _, cur, h3⟩ := f1 x (by rw [← e1.1]; exact hx)
  obtain ⟨g2, rfl, _, _, cur2, h4⟩ := f2 y (by rw [← e3.1]; exact hy)
  simp only at he
  subst he
  rw [h3] at h4
  injection h4 with h4
  injection h4 with _ h5 _
  exact hne h5
theorem row_block {w : World} {B n size : Nat} {e : TypeId} {a : Option Addr} {c : Nat} {xs : List Value} (h : w.ownsRow B e size (.slice a n c) n xs) : ∀ x, a = some x → B ≤ x.block ∧ x.block < w.heap.size := fun x hx => World.ownsRow.lt h _ (own_block hx)
theorem row_cells {w : World} {B n size : Nat} {e : TypeId} {a : Option Addr} {c : Nat} {xs : List Value} (h : w.ownsRow B e size (.slice a n c) n xs) (i : Nat) (hi : i < n * size) : ∃ g, a = some ⟨g, 0, none⟩ ∧ w.cell? ⟨g, i, none⟩ = xs[i]? ∧ w.frozen? ⟨g, i, none⟩ = false := by
  have hn : 0 < n := by rcases Nat.eq_zero_or_pos n with e | e; · rw [e] at hi; simp at hi
                        · exact e
  obtain ⟨a1, c1, e1, _, f1⟩ := row_form h
  simp only [Value.slice.injEq] at e1
  obtain ⟨g, hg⟩ := f1 hn
  have ha : a = some ⟨g, 0, none⟩ := by rw [e1.1]; exact hg
  rw [ha] at h
  exact ⟨g, ha, World.ownsRow.cellAt h i hi, World.ownsRow.frozenAt h i⟩
theorem row_weaks {w : World} {B : Nat} {a : Option Addr} {c : Nat} {ds : List WeakD} (h : w.ownsRow B 63 2 (.slice a ds.length c) ds.length (ds.flatMap cellsW)) : ∀ j (h : j < ds.length), ∃ g, a = some ⟨g, 0, none⟩ ∧ WeakAt w g (j * 2) ds[j] ∧ ∀ k, k < 2 → w.frozen? ⟨g, j * 2 + k, none⟩ = false := by
  intro j hj
  have at_ : ∀ k, k < 2 → ∃ g, a = some ⟨g, 0, none⟩ ∧ w.cell? ⟨g, j * 2 + k, none⟩ = (cellsW ds[j])[k]? ∧ w.frozen? ⟨g, j * 2 + k, none⟩ = false := by
    intro k hk
    obtain ⟨g, h1, h2, h3⟩ := row_cells h (j * 2 + k) (by omega)
    exact ⟨g, h1, by rw [h2]; exact flat_at cellsW 2 (fun _ => rfl) ds j k hj hk, h3⟩
  obtain ⟨g, h1, h2, h3⟩ := at_ 0 (by omega)
  have at2 : ∀ k, k < 2 → w.cell? ⟨g, j * 2 + k, none⟩ = (cellsW ds[j])[k]? ∧ w.frozen? ⟨g, j * 2 + k, none⟩ = false := by
    intro k hk
    obtain ⟨g2, e1, e2, e3⟩ := at_ k hk
    rw [h1] at e1; injection e1 with e1; injection e1 with e1 _ _; subst e1
    exact ⟨e2, e3⟩
  exact ⟨g, h1, ⟨(at2 0 (by omega)).1, (at2 1 (by omega)).1⟩, fun k hk => (at2 k hk).2⟩
theorem row_objs {w : World} {B : Nat} {a : Option Addr} {c : Nat} {os : List ObjD} {fs : List OSh} (hl : fs.length = os.length) (h : w.ownsRow B 50 8 (.slice a os.length c) os.length ((os.zip fs).flatMap cellsOb)) :
    ∀ j (h : j < os.length) (h2 : j < fs.length), ∃ g, a = some ⟨g, 0, none⟩ ∧ ObjAt w g (j * 8) os[j] (.slice fs[j].f fs[j].n fs[j].c) ∧ ∀ k, k < 8 → w.frozen? ⟨g, j * 8 + k, none⟩ = false := by
  intro j hj hj2
  have hz : j < (os.zip fs).length := by simp [hl, hj]
  have hzj : (os.zip fs)[j] = (os[j], fs[j]) := by simp
  have at_ : ∀ k, k < 8 → ∃ g, a = some ⟨g, 0, none⟩ ∧ w.cell? ⟨g, j * 8 + k, none⟩ = (cellsOb (os[j], fs[j]))[k]? ∧ w.frozen? ⟨g, j * 8 + k, none⟩ = false := by
    intro k hk
    obtain ⟨g, h1, h2, h3⟩ := row_cells h (j * 8 + k) (by omega)
    exact ⟨g, h1, by rw [h2, flat_at cellsOb 8 (fun _ => rfl) _ j k hz hk, hzj], h3⟩
  obtain ⟨g, h1, h2, h3⟩ := at_ 0 (by omega)
  have at2 : ∀ k, k < 8 → w.cell? ⟨g, j * 8 + k, none⟩ = (cellsOb (os[j], fs[j]))[k]? ∧ w.frozen? ⟨g, j * 8 + k, none⟩ = false := by
    intro k hk
    obtain ⟨g2, e1, e2, e3⟩ := at_ k hk
    rw [h1] at e1; injection e1 with e1; injection e1 with e1 _ _; subst e1
    exact ⟨e2, e3⟩
  exact ⟨g, h1, ⟨(at2 0 (by omega)).1, (at2 1 (by omega)).1, (at2 2 (by omega)).1, (at2 3 (by omega)).1, (at2 4 (by omega)).1, (at2 5 (by omega)).1, (at2 6 (by omega)).1, (at2 7 (by omega)).1⟩, fun k hk => (at2 k hk).2⟩

end Go.Proofs.Ytjhdnachbahbmaa

/- CopyMath: A heap that is being copied: what holds from round to round. -/
namespace Go.Proofs.Ytjhdnachbahbmaa
open Go.RowKit
set_option linter.unusedVariables false
set_option maxRecDepth 100000

theorem Four.set0 {X : World} {g : Nat} {x0 x1 x2 x3 : Value} (h : Four X g x0 x1 x2 x3) (u : Value) : Four (X.setCell ⟨g, 0, none⟩ u) g u x1 x2 x3 := heap_setCell_same X g 0 _ _ u h
theorem Four.set2 {X : World} {g : Nat} {x0 x1 x2 x3 : Value} (h : Four X g x0 x1 x2 x3) (u : Value) : Four (X.setCell ⟨g, 2, none⟩ u) g x0 x1 u x3 := heap_setCell_same X g 2 _ _ u h
theorem Four.setAll {X : World} {g : Nat} {x0 x1 x2 x3 : Value} (h : Four X g x0 x1 x2 x3) (y0 y1 y2 y3 : Value) : Four (setFour X g y0 y1 y2 y3) g y0 y1 y2 y3 :=
  heap_setCell_same _ g 3 _ _ y3 (heap_setCell_same _ g 2 _ _ y2 (heap_setCell_same _ g 1 _ _ y1 (heap_setCell_same X g 0 _ _ y0 h)))
theorem Four.later {X Y : World} {g : Nat} {x0 x1 x2 x3 : Value} (h : Four X g x0 x1 x2 x3) (hb : Below X.heap.size X Y) : Four Y g x0 x1 x2 x3 := (hb.block g h.lt).trans h
theorem Four.new (X : World) (x0 x1 x2 x3 : Value) : Four (X.alloc (.cells #[x0, x1, x2, x3] 33)) X.heap.size x0 x1 x2 x3 := heap_alloc_new X _
/-- An object's box. -/
def OBx (X : World) (b : Nat) (o : ObjD) (f : Value) : Prop := X.heap[b]? = some (.cells #[.bool o.live, .int .i64 o.gen, .int .i64 o.site, .int .i64 o.holds, .int .i64 o.roots, .int .i64 o.count, f, .bool o.purple] 50 (0, 0))
theorem OBx.cell {X : World} {b : Nat} {o : ObjD} {f : Value} (h : OBx X b o f) (j : Nat) : X.cell? ⟨b, j, none⟩ = (#[.bool o.live, .int .i64 o.gen, .int .i64 o.site, .int .i64 o.holds, .int .i64 o.roots, .int .i64 o.count, f, .bool o.purple] : Array Value)[j]? := by rw [World.cell?, show X.heap[b]? = _ from h]; rfl
theorem OBx.frozen {X : World} {b : Nat} {o : ObjD} {f : Value} (h : OBx X b o f) (j : Nat) : X.frozen? ⟨b, j, none⟩ = false := by
  have h' : X.heap[b]? = _ := h
  simp [World.frozen?, h']
theorem OBx.lt {X : World} {b : Nat} {o : ObjD} {f : Value} (h : OBx X b o f) : b < X.heap.size := (Array.getElem?_eq_some_iff.1 h).1
theorem OBx.later {X Y : World} {b : Nat} {o : ObjD} {f : Value} (h : OBx X b o f) (hb : Below X.heap.size X Y) : OBx Y b o f := (hb.block b h.lt).trans h
theorem OBx.set6 {X : World} {b : Nat} {o : ObjD} {f : Value} (h : OBx X b o f) (u : Value) : OBx (X.setCell ⟨b, 6, none⟩ u) b o u := heap_setCell_same X b 6 _ _ u h

theorem row_same {w w' : World} {B n size : Nat} {e : TypeId} {v : Value} {xs : List Value} (h : w.ownsRow B e size v n xs) (hs : ∀ g, v.ownBlock = some g → w'.heap[g]? = w.heap[g]?) : w'.ownsRow B e size v n xs := by
  rcases h with ⟨h1, h2 | ⟨g, cap, cur, h2, h3, h4, h5⟩⟩
  · exact ⟨h1, .inl h2⟩
  · exact ⟨h1, .inr ⟨g, cap, cur, h2, h3, by rw [hs g (by rw [h2]; rfl)]; exact h4, h5⟩⟩
theorem row_later {w w' : World} {B n size : Nat} {e : TypeId} {v : Value} {xs : List Value} (h : w.ownsRow B e size v n xs) (hb : Below w.heap.size w w') : w'.ownsRow B e size v n xs := row_same h (fun g hg => hb.block g (World.ownsRow.lt h g hg).2)
theorem row_mono {w : World} {B C n size : Nat} {e : TypeId} {v : Value} {xs : List Value} (h : w.ownsRow B e size v n xs) (hC : C ≤ B) : w.ownsRow C e size v n xs := by
  rcases h with ⟨h1, h2 | ⟨g, cap, cur, h2, h3, h4⟩⟩
  · exact ⟨h1, .inl h2⟩
  · exact ⟨h1, .inr ⟨g, cap, cur, h2, by omega, h4⟩⟩
/-- The block of a row bears its elements' kind. -/
theorem row_kind {w : World} {B n size : Nat} {e : TypeId} {v : Value} {xs : List Value} (h : w.ownsRow B e size v n xs) (g : Nat) (hg : v.ownBlock = some g) : ∃ cur, w.heap[g]? = some (.cells cur e (0, 0)) := by
  rcases h with ⟨h1, ⟨h2, _⟩ | ⟨g2, cap, cur, h2, h3, h4, h5⟩⟩
  · rw [h2] at hg; cases hg
  · rw [h2] at hg
    injection hg with hg
    exact ⟨cur, by rw [← hg]; exact h4⟩
theorem kind_ne {w : World} {g g2 : Nat} {c c2 : Array Value} {e e2 : TypeId} (h : w.heap[g]? = some (.cells c e (0, 0))) (h2 : w.heap[g2]? = some (.cells c2 e2 (0, 0))) (hne : e ≠ e2) : g ≠ g2 := by
  intro he
  subst he
  rw [h] at h2
  injection h2 with h2
  injection h2 with _ h3 _
  exact hne h3

/-- 'append(objs, o)', objs a row of one's own. -/
theorem wpList_appendO {w : World} {ops : Array Oper} {rest : List Oper} {o : Oper} {a : Act} {Q : Exit → Act → World → Prop} (hgd : o.guard = none) (s x : Operand)
    (ho : o.op = .call { callee := .builtin .append, args := #[s, x], argTypes := #[29, 29] }) (B : Nat) (v : Value) (n : Nat) (xs : List Value) (hs : a.eval s = v) (hown : w.ownsRow B 50 8 v n xs)
    (g : Nat) (p : ObjD × OSh) (hx : a.eval x = .slice (some ⟨g, 0, none⟩) 1 1) (hb : OBx w g p.1 (.slice p.2.f p.2.n p.2.c)) (hn : n ≤ 1677721) (hB : B ≤ w.heap.size)
    (h : ∀ v' w', w'.ownsRow B 50 8 v' (n + 1) (xs ++ cellsOb p) → w.grownBy w' v.ownBlock → wpList Try.prog ops Q rest (a.put o.dst v') w') : wpList Try.prog ops Q (o :: rest) a w := by
  obtain ⟨i0, hi, hz0, hz1, hz2⟩ := info_parts infoO
  refine wpList_append_own w hgd s x 29 ho B 50 i0 _ 8 80 Try.underlying29 hi hz0 hz1 hz2 rfl (by decide) v n xs hs hown ⟨g, 0, none⟩ 1 1 (cellsOb p) hx rfl ?_ ?_ ?_ ?_ hB (fun v' w' h1 h2 _ => h v' w' h1 h2)
  · intro j u hj
    rw [Addr.add_lit, Nat.zero_add, hb.cell j]
    simpa [cellsOb] using hj
  · intro u hu
    simp only [cellsOb, List.mem_cons, List.not_mem_nil, or_false] at hu
    rcases hu with rfl | rfl | rfl | rfl | rfl | rfl | rfl | rfl <;> rfl
  · unfold maxLen; omega
  · omega

/-- The rows of a heap that is being copied: the first j objects are appended, each with a field's row of its own. -/
structure CI (W wr : World) (B g : Nat) (H : HeapD) (vo : Value) (wa : Option Addr) (wc : Nat) (ba : Option Addr) (bc : Nat) (sa : Option Addr) (sc : Nat) (fs : List OSh) (j : Nat) : Prop where
  bel : Below B W wr
  x : Four wr g vo (.slice wa H.weaks.length wc) (.slice ba H.buffer.length bc) (.slice sa H.sites.length sc)
  gB : B ≤ g
  ro : wr.ownsRow B 50 8 vo j (((H.objs.take j).zip fs).flatMap cellsOb)
  rw : wr.ownsRow B 63 2 (.slice wa H.weaks.length wc) H.weaks.length (H.weaks.flatMap cellsW)
  rb : ownI wr B (.slice ba H.buffer.length bc) H.buffer
  rs : ownS wr B (.slice sa H.sites.length sc) H.sites
  jl : j ≤ H.objs.length
  fl : fs.length = j
  f : ∀ i (h : i < fs.length) (h2 : i < H.objs.length), fs[i].n = H.objs[i].field.length ∧ ownI wr B (.slice fs[i].f fs[i].n fs[i].c) H.objs[i].field
  ff : fs.Pairwise (fun t u => Dif t.f u.f)
  fb : ∀ t ∈ fs, Dif ba t.f

theorem ci_step {W wr w5 w6 : World} {B g : Nat} {H : HeapD} {vo v2 : Value} {wa : Option Addr} {wc : Nat} {ba : Option Addr} {bc : Nat} {sa : Option Addr} {sc : Nat} {fs : List OSh} {j : Nat} (h : CI W wr B g H vo wa wc ba bc sa sc fs j) (hB : B ≤ wr.heap.size) (hj : j < H.objs.length) (b5 : Below wr.heap.size wr w5) (t : OSh) (hn : t.n = H.objs[j].field.length) (ht : ownI w5 wr.heap.size (.slice t.f t.n t.c) H.objs[j].field)
    (r6 : w6.ownsRow B 50 8 v2 (j + 1) (((H.objs.take j).zip fs).flatMap cellsOb ++ cellsOb (H.objs[j], t))) (g6 : w5.grownBy w6 vo.ownBlock) : CI W (w6.setCell ⟨g, 0, none⟩ v2) B g H v2 wa wc ba bc sa sc (fs ++ [t]) (j + 1) := by
  have hgl := h.x.lt
  have hs5 := b5.size
  -- a block of another kind than objects and heaps is as it was
  have keep : ∀ (i : Nat) (cur : Array Value) (e : TypeId), w5.heap[i]? = some (.cells cur e (0, 0)) → e ≠ 50 → e ≠ 33 → (w6.setCell ⟨g, 0, none⟩ v2).heap[i]? = w5.heap[i]? := by
    intro i cur e hi h1 h2
    have hi5 : i < w5.heap.size := (Array.getElem?_eq_some_iff.1 hi).1
    have hg5 : w5.heap[g]? = _ := (b5.block g hgl).trans h.x
    rw [heap_setCell_other _ _ _ _ (by exact kind_ne hi hg5 h2)]
    refine g6.block i hi5 (fun e2 => ?_)
    obtain ⟨cur2, hc⟩ := row_kind (row_later h.ro b5) i e2.symm
    exact kind_ne hi hc h1 rfl
  have keepR : ∀ {n sz C : Nat} {e : TypeId} {v : Value} {xs : List Value}, w5.ownsRow C e sz v n xs → e ≠ 50 → e ≠ 33 → (w6.setCell ⟨g, 0, none⟩ v2).ownsRow C e sz v n xs := by
    intro n sz C e v xs hr h1 h2
    refine row_same hr (fun i hi => ?_)
    obtain ⟨cur, hc⟩ := row_kind hr i hi
    exact keep i cur e hc h1 h2
  have hx6 : w6.heap[g]? = w5.heap[g]? := g6.block g (by omega) (fun e2 => by
    obtain ⟨cur2, hc⟩ := row_kind (row_later h.ro b5) g e2.symm
    exact kind_ne hc ((b5.block g hgl).trans h.x) (by decide) rfl)
  have hne2 : ∀ i, v2.ownBlock = some i → i ≠ g := fun i hi => by
    obtain ⟨cur2, hc⟩ := row_kind r6 i hi
    exact kind_ne hc (hx6.trans ((b5.block g hgl).trans h.x)) (by decide)
  refine ⟨?_, ?_, h.gB, ?_, keepR (row_later h.rw b5) (by decide) (by decide), keepR (ownI_later h.rb b5) (by decide) (by decide), keepR (ownS_later h.rs b5) (by decide) (by decide), hj, by simp [h.fl], ?_, ?_, ?_⟩
  · refine Below.setCell ?_ h.gB _
    refine ((h.bel.trans (b5.mono hB)).grown g6 (by omega) (fun k hk => ?_))
    exact (World.ownsRow.lt h.ro k hk).1
  · exact Four.set0 ((h.x.later b5).same hx6) v2
  · have e1 : (H.objs.take (j + 1)).zip (fs ++ [t]) = (H.objs.take j).zip fs ++ [(H.objs[j], t)] := by
      rw [List.take_succ_eq_append_getElem hj, List.zip_append (by simp [h.fl]; omega)]
      rfl
    rw [e1, List.flatMap_append, List.flatMap_cons, List.flatMap_nil, List.append_nil]
    exact row_same r6 (fun i hi => heap_setCell_other _ _ _ _ (by exact hne2 i hi))
  · intro i hi hi2
    by_cases e : i < fs.length
    · rw [List.getElem_append_left e]
      obtain ⟨h1, h2⟩ := h.f i e hi2
      exact ⟨h1, keepR (ownI_later h2 b5) (by decide) (by decide)⟩
    · obtain rfl : i = fs.length := by simp at hi; omega
      have e2 : (fs ++ [t])[fs.length] = t := by simp
      have e3 : H.objs[fs.length] = H.objs[j] := by congr 1; exact h.fl
      rw [e2, e3]
      exact ⟨hn, keepR (ownI_mono ht hB) (by decide) (by decide)⟩
  · rw [List.pairwise_append]
    refine ⟨h.ff, by simp, fun a ha b hb => ?_⟩
    simp only [List.mem_singleton] at hb
    subst hb
    obtain ⟨i, hi, rfl⟩ := List.mem_iff_getElem.1 ha
    intro x y hx hy e
    have h1 := (ownI_lt (h.f i hi (by have := h.fl; omega)).2 _ (own_block hx)).2
    have h2 := (ownI_lt ht _ (own_block hy)).1
    omega
  · intro a ha
    rcases List.mem_append.1 ha with ha | ha
    · exact h.fb a ha
    · simp only [List.mem_singleton] at ha
      subst ha
      intro x y hx hy e
      have h1 := (ownI_lt h.rb _ (own_block hx)).2
      have h2 := (ownI_lt ht _ (own_block hy)).1
      omega
/-- All objects are appended: it is a heap of one's own. -/
theorem ci_end {W wr : World} {B g : Nat} {H : HeapD} {oa : Option Addr} {oc : Nat} {wa : Option Addr} {wc : Nat} {ba : Option Addr} {bc : Nat} {sa : Option Addr} {sc : Nat} {fs : List OSh} (h : CI W wr B g H (.slice oa H.objs.length oc) wa wc ba bc sa sc fs H.objs.length) :
    HM wr B ⟨oa, oc, fs, wa, H.weaks.length, wc, ba, H.buffer.length, bc, sa, H.sites.length, sc⟩ H where
  lo := h.fl
  lw := rfl
  lb := rfl
  ls := rfl
  o := by
    have hr := h.ro
    rw [List.take_length] at hr
    exact row_objs h.fl hr
  f := fun j hj hj2 => h.f j hj2 hj
  og := row_block h.ro
  wk := row_weaks h.rw
  wg := row_block h.rw
  b := h.rb
  st := h.rs
  sep := by
    have fk : ∀ t ∈ fs, ∃ zs : List Int, ownI wr B (.slice t.f t.n t.c) zs ∧ t.n = zs.length := by
      intro t ht
      obtain ⟨i, hi, rfl⟩ := List.mem_iff_getElem.1 ht
      have := h.f i hi (by have := h.fl; omega)
      exact ⟨_, this.2, this.1⟩
    have fd : ∀ {n sz : Nat} {e : TypeId} {a : Option Addr} {c : Nat} {xs : List Value}, wr.ownsRow B e sz (.slice a n c) n xs → e ≠ 3 → ∀ t ∈ fs, Dif a t.f := by
      intro n sz e a c xs hr hne t ht
      obtain ⟨zs, hz, hzn⟩ := fk t ht
      unfold ownI at hz
      rw [← hzn] at hz
      exact row_dif hr hz hne
    have hb := h.rb
    have hs := h.rs
    unfold ownI at hb
    unfold ownS at hs
    exact ⟨row_dif h.ro h.rw (by decide), row_dif h.ro hb (by decide), row_dif h.ro hs (by decide), row_dif h.rw hb (by decide), row_dif h.rw hs (by decide), row_dif hb hs (by decide), fd h.ro (by decide), fd h.rw (by decide), h.fb, fd hs (by decide), h.ff⟩
  co := by have h1 := row_cap h.ro; have h2 := h.fl; simp only; omega
  cw := row_cap h.rw

end Go.Proofs.Ytjhdnachbahbmaa
