/- Lists of numbers, as the small seat of SameAnswer wants them. -/
import Derived.Test.YtnjplfofcjonhabIntsWalks
import Derived.Test.YtnjplfofcjonhabInts2Walks
import Derived.Deep.RegionHeld
import Derived.WalkKit
import Derived.ProofKit
import Derived.OpenShut
import Derived.ChangeSlices
import Derived.Deep.Slices
import Derived.Below
import Derived.BigQuiet
import Derived.Orders
import Derived.Deep.AppendSrc
import Derived.Lib.SliceRun
import Derived.Maps.AppendAt
namespace Go.Proofs.Ytnjplfofcjonhab
open Go.RowKit Go.ChangeShapes Go.WideShapes Go.ChangeAt Go.Deep
set_option linter.unusedVariables false
set_option maxRecDepth 100000

def in64 (z : Int) : Prop := -9223372036854775808 ≤ z ∧ z ≤ 9223372036854775807
theorem in64_wf {z : Int} (h : (Lit.int .i64 z).wf = true) : in64 z := by unfold in64; simpa [Lit.wf, IntKind.min, IntKind.max, IntKind.signed, IntKind.bits] using h
theorem plain_addr {w : World} {x : Addr} {v : Value} (h : w.cell? (x.add 0) = some v) : ∃ b off, x = ⟨b, off, none⟩ := by
  obtain ⟨b, off, spot⟩ := x
  cases spot with
  | none => exact ⟨b, off, rfl⟩
  | some q =>
    exfalso
    simp [Addr.add, World.cell?] at h
    split at h <;> simp at h
theorem add_plain (b off i : Nat) : Addr.add ⟨b, off, none⟩ i = ⟨b, off + i, none⟩ := by unfold Addr.add; split <;> simp_all
section
variable {T : Type} {enc : TypeId × Value → T} {w : World} {held : Bool}
theorem opened_ints {fuel : Nat} {cs : List Value} {x : DataW T × List MemPlace} (h : DataW.trod enc Try.prog w 0 (fun _ => true) held fuel 22 cs = some x) :
    ∃ a zs cap, cs = [.slice a zs.length cap] ∧ RdI w a zs ∧ zs.length ≤ 9223372036854775807 ∧ ∀ z ∈ zs, in64 z := by
  rcases open_ints Try.underlying22 Try.underlying3 (by kernel_rfl) h with ⟨rfl, _⟩ | ⟨x, len, cap, zs, rfl, _, hl, hm, hz, _, hcell, hwf⟩
  · exact ⟨none, [], 0, rfl, fun j hj => by simp at hj, by simp, by simp⟩
  · have hz2 : zs.length = cap := by simpa using hz
    have ht : (zs.take len).length = len := by rw [List.length_take]; omega
    unfold maxLen at hm
    refine ⟨some x, zs.take len, cap, by rw [ht], ?_, by omega, fun z hz => in64_wf (hwf z (List.mem_of_mem_take hz))⟩
    intro j hj
    rw [ht] at hj
    obtain ⟨b, off, rfl⟩ := plain_addr (hcell 0 (by omega))
    have hc := hcell j (by omega)
    rw [add_plain, List.getD_eq_getElem?_getD, List.getElem?_eq_getElem (by omega)] at hc
    refine ⟨b, off, rfl, World.block_lt_of_cell? w _ hc, ?_⟩
    rw [hc, List.getElem_take]
    rfl
end

end Go.Proofs.Ytnjplfofcjonhab
namespace Go.Proofs.Ytnjplfofcjonhab
open Go.RowKit
set_option linter.unusedVariables false

/-- The worlds in which all that was there is as it was. -/
structure LaterW (w : World) where
  on : World
  bel : Below w.heap.size w on
theorem LaterW.some_ (w : World) : Nonempty (LaterW w) := ⟨⟨w, Below.refl _ _⟩⟩
theorem LaterW.step {w : World} (n : LaterW w) {X : World} (h : Below n.on.heap.size n.on X) : ∃ m : LaterW w, X = m.on := ⟨⟨X, n.bel.trans (h.mono n.bel.size)⟩, rfl⟩
theorem wp_region_later {P : Program} {id : Nat} {Q : Exit → Act → World → Prop} {a : Act} {w : World} {l : List Oper} (w0 : World) (hw : Below w0.heap.size w0 w) (hm : P.follows .mixedOrders = true) (hB : Region.lexB .any l.toArray = true)
    (h : wpQuiet P l.toArray (fun X => ∃ n : LaterW w0, X = n.on) (fun a' => ∀ w', (∃ n : LaterW w0, w' = n.on) → Q .normal a' w') l a) : (Code.region id l.toArray true).wp P Q a w :=
  wp_region_quiet (C := fun X => ∃ n : LaterW w0, X = n.on) hm hB ⟨⟨_, hw.drew⟩, rfl⟩ (by simpa using h)

end Go.Proofs.Ytnjplfofcjonhab


/- AnyLast: A region that draws its order, whose operations lay blocks or only read, but for the last one: one walk an operation, whatever the order. -/
namespace Go.Proofs.Ytnjplfofcjonhab
open Go.RowKit
set_option linter.unusedVariables false

theorem ready_none {md : Region.Mode} {ops : Array Oper} {l : Array Bool} (h : l.toList.countP (fun b => !b) = 0) : Region.ready md ops l = [] := by
  unfold Region.ready
  rw [List.filter_eq_nil_iff]
  intro i _ hc
  simp only [Bool.and_eq_true, Bool.not_eq_true'] at hc
  have hi : i < l.size := by
    rcases Nat.lt_or_ge i l.size with h1 | h1
    · exact h1
    · simp [h1] at hc
  have h1 : l[i] = false := by have := hc.1; simpa [hi] using this
  have := (List.countP_eq_zero.1 h) (l[i]) (by simp)
  rw [h1] at this
  simp at this
theorem wpAny_inv {P : Program} {ops : Array Oper} {Q : Exit → Act → World → Prop} {md : Region.Mode} (I : Array Bool → Act → World → Prop)
    (hd : ∀ l a w, I l a w → Region.ready md ops l = [] → Q .normal a w)
    (hs : ∀ l a w i, I l a w → i ∈ Region.ready md ops l → wpOp P ops Q i (fun a' w' => I (l.setIfInBounds i true) a' w') a w) :
    ∀ (fuel : Nat) (l : Array Bool) (a : Act) (w : World), l.toList.countP (fun b => !b) ≤ fuel → I l a w → wpAny P md ops Q fuel l a w := by
  intro fuel
  induction fuel with
  | zero =>
    intro l a w hl hI
    have hr := ready_none (md := md) (ops := ops) (l := l) (by omega)
    exact ⟨hr, hd l a w hI hr⟩
  | succ fuel ih =>
    intro l a w hl hI
    refine ⟨hd l a w hI, fun i hi => wpOp_mono (fun a' w' h => ih _ a' w' ?_ h) (hs l a w i hI hi)⟩
    have h0 := (mem_ready.1 hi).1
    have hi2 : i < l.size := by
      rcases Nat.lt_or_ge i l.size with h1 | h1
      · exact h1
      · simp [h1] at h0
    have h1 : l.toList[i]'(by simpa using hi2) = false := by simpa [hi2] using h0
    have h2 : (l.setIfInBounds i true).toList = l.toList.set i true := by simp
    rw [h2]
    have h3 := List.countP_set (p := fun b => !b) (l := l.toList) (i := i) (a := true) (by simpa using hi2)
    have h4 : 0 < l.toList.countP (fun b => !b) := List.countP_pos_iff.2 ⟨false, by rw [← h1]; exact List.getElem_mem _, rfl⟩
    rw [h3, h1]
    simp only [Bool.not_false, Bool.not_true, if_true, Bool.false_eq_true, if_false]
    omega

/-- The place of what operation i yields. -/
def dstOf (ops : Array Oper) (i : Nat) : Option Tmp := (ops[i]?).bind (·.dst)
/-- Frames that are alike but for places of the region's own. -/
structure Alike (ops : Array Oper) (a0 a : Act) : Prop where
  defers : a.defers = a0.defers
  size : a.tmps.size = a0.tmps.size
  same : ∀ t, (∀ i, dstOf ops i ≠ some t) → a.eval (.tmp t) = a0.eval (.tmp t)
theorem Alike.refl (ops : Array Oper) (a : Act) : Alike ops a a := ⟨rfl, rfl, fun _ _ => rfl⟩
theorem Alike.put {ops : Array Oper} {a0 a : Act} (h : Alike ops a0 a) (i : Nat) (v : Value) : Alike ops a0 (a.put (dstOf ops i) v) := by
  cases hd : dstOf ops i with
  | none => exact h
  | some d =>
    refine ⟨h.defers, by simp [Act.put, h.size], fun t ht => ?_⟩
    rw [← h.same t ht]
    have hne : d ≠ t := fun e => ht i (by rw [hd, e])
    simp [Act.put, Act.eval, Array.getD_eq_getD_getElem?, Array.getElem?_setIfInBounds_ne hne]
theorem eval_put {a : Act} {d t : Tmp} {v : Value} : (a.put (some d) v).eval (.tmp t) = if d = t ∧ d < a.tmps.size then v else a.eval (.tmp t) := by
  by_cases e : d = t
  · subst e
    by_cases hl : d < a.tmps.size
    · simp [Act.put, Act.eval, Array.getD_eq_getD_getElem?, hl]
    · simp [Act.put, Act.eval, Array.getD_eq_getD_getElem?, hl]
  · simp [Act.put, Act.eval, Array.getD_eq_getD_getElem?, Array.getElem?_setIfInBounds_ne e, e]

/-- Each operation waits for elder ones alone, each but the last is waited for by a later one, no two yield into one place, and each place is one of the frame's. -/
def goodR (ops : Array Oper) (n sz : Nat) : Bool :=
  ops.size == n + 1 && ((List.range (n + 1)).all fun i => ((ops[i]?).map fun o => o.guard.isNone && o.after.all fun e => !Region.binds .any e || decide (e.on < i)).getD false) &&
  ((List.range n).all fun j => (List.range (n + 1)).any fun i => decide (j < i) && ((ops[i]?).map fun o => o.after.any fun e => Region.binds .any e && e.on == j).getD false) &&
  ((List.range (n + 1)).all fun i => (List.range (n + 1)).all fun j => i == j || (match dstOf ops i, dstOf ops j with | some d, some e => d != e | _, _ => true)) &&
  ((List.range (n + 1)).all fun i => match dstOf ops i with | some d => decide (d < sz) | none => true)

theorem listed_of {ops : Array Oper} {l : Array Bool} {n : Nat} (hord : ∀ i o, ops[i]? = some o → ∀ e ∈ o.after, Region.binds .any e = true → e.on < i) (hl : l.size = n) (hn : ops.size = n) (hr : Region.ready .any ops l = []) : ∀ i, i < n → l.getD i false = true := by
  intro i
  induction i using Nat.strongRecOn with
  | _ i ih =>
    intro hi
    rcases hb : l.getD i false with _ | _
    · exfalso
      obtain ⟨o, ho⟩ : ∃ o, ops[i]? = some o := ⟨ops[i]'(by omega), Array.getElem?_eq_getElem (by omega)⟩
      have hm : i ∈ Region.ready .any ops l := by
        refine mem_ready.2 ⟨?_, o, ho, fun e he hbn => ?_⟩
        · have h1 : i < l.size := by omega
          simp only [Array.getD_eq_getD_getElem?, Array.getElem?_eq_getElem h1, Option.getD_some] at hb ⊢
          exact hb
        · have := hord i o ho e he hbn
          exact ih e.on this (by omega)
      rw [hr] at hm
      cases hm
    · rfl

theorem wp_region_last {P : Program} {id : Nat} {Q : Exit → Act → World → Prop} {a0 : Act} {w0 : World} {ops : Array Oper} (n : Nat) (hm : P.follows .mixedOrders = true) (hg : goodR ops n a0.tmps.size = true)
    (R : Nat → World → Value → Prop) (hmono : ∀ i X Y v, R i X v → Below X.heap.size X Y → R i Y v)
    (hstep : ∀ i o, i < n → ops[i]? = some o → ∀ (a : Act) (X : World), Below w0.heap.size w0 X → Alike ops a0 a → (∀ e ∈ o.after, Region.binds .any e = true → ∀ t, dstOf ops e.on = some t → R e.on X (a.eval (.tmp t))) →
      o.wp P a X (fun a' X' => ∃ v, a' = a.put o.dst v ∧ Below X.heap.size X X' ∧ R i X' v) Q)
    (hlast : ∀ o, ops[n]? = some o → ∀ (a : Act) (X : World), Below w0.heap.size w0 X → Alike ops a0 a → (∀ e ∈ o.after, Region.binds .any e = true → ∀ t, dstOf ops e.on = some t → R e.on X (a.eval (.tmp t))) →
      o.wp P a X (fun a' X' => Q .normal a' X') Q) : (Code.region id ops true).wp P Q a0 w0 := by
  unfold goodR at hg
  simp only [Bool.and_eq_true, beq_iff_eq, List.all_eq_true, List.any_eq_true, List.mem_range, decide_eq_true_eq] at hg
  obtain ⟨⟨⟨⟨hsz, hord⟩, huse⟩, hdis⟩, hin⟩ := hg
  have hord2 : ∀ i o, ops[i]? = some o → o.guard = none ∧ ∀ e ∈ o.after, Region.binds .any e = true → e.on < i := by
    intro i o ho
    have hi : i < n + 1 := by have := (Array.getElem?_eq_some_iff.1 ho).1; omega
    have h := hord i hi
    rw [ho] at h
    simp only [Option.map_some, Option.getD_some, Bool.and_eq_true, Option.isNone_iff_eq_none, Array.all_eq_true'] at h
    refine ⟨h.1, fun e he hb => ?_⟩
    have := h.2 e he
    rw [hb] at this
    simpa using this
  have huse2 : ∀ j, j < n → ∃ i o e, j < i ∧ ops[i]? = some o ∧ e ∈ o.after ∧ Region.binds .any e = true ∧ e.on = j := by
    intro j hj
    obtain ⟨i, hi, hji, h⟩ := huse j hj
    cases ho : ops[i]? with
    | none => rw [ho] at h; simp at h
    | some o =>
      rw [ho] at h
      simp only [Option.map_some, Option.getD_some, Array.any_eq_true'] at h
      obtain ⟨e, he, hb⟩ := h
      simp only [Bool.and_eq_true, beq_iff_eq] at hb
      exact ⟨i, o, e, hji, ho, he, hb.1, hb.2⟩
  have hdis2 : ∀ i j d, i < n + 1 → j < n + 1 → dstOf ops i = some d → dstOf ops j = some d → i = j := by
    intro i j d hi hj h1 h2
    have h := hdis i hi j hj
    rw [h1, h2] at h
    simpa using h
  have hin2 : ∀ i d, i < n + 1 → dstOf ops i = some d → d < a0.tmps.size := by
    intro i d hi h1
    have h := hin i hi
    rw [h1] at h
    simpa using h
  have inR : ∀ {l : Array Bool} {i : Nat}, i ∈ Region.ready .any ops l → l.getD i true = false ∧ ∃ o, ops[i]? = some o ∧ ∀ e ∈ o.after, Region.binds .any e = true → l.getD e.on false = true := fun h => mem_ready.1 h
  refine wp_region_any hm ?_
  refine wpAny_inv (fun l a w => l.size = n + 1 ∧ (∀ i o, ops[i]? = some o → l.getD i false = true → ∀ e ∈ o.after, Region.binds .any e = true → l.getD e.on false = true) ∧
    ((l.getD n false = false ∧ Alike ops a0 a ∧ Below w0.heap.size w0 w ∧ ∀ i, i < n → l.getD i false = true → ∀ t, dstOf ops i = some t → R i w (a.eval (.tmp t))) ∨ ((∀ i, i < n + 1 → l.getD i false = true) ∧ Q .normal a w))) ?_ ?_ _ _ _ _ ?_ ?_
  · rintro l a w ⟨h1, h2, h3⟩ hr
    have hall := listed_of (fun i o ho => (hord2 i o ho).2) h1 hsz hr
    rcases h3 with ⟨h3, _⟩ | ⟨_, h3⟩
    · rw [hall n (by omega)] at h3; cases h3
    · exact h3
  · rintro l a w i ⟨h1, h2, h3⟩ hi
    obtain ⟨hu, o, ho, hdep⟩ := inR hi
    have hil : i < n + 1 := by have := (Array.getElem?_eq_some_iff.1 ho).1; omega
    have hil2 : i < l.size := by omega
    have hset : ∀ j, (l.setIfInBounds i true).getD j false = if i = j then true else l.getD j false := by
      intro j
      by_cases e : i = j
      · subst e; simp [Array.getD_eq_getD_getElem?, hil2]
      · simp [Array.getD_eq_getD_getElem?, Array.getElem?_setIfInBounds_ne e, e]
    have hcl : ∀ k o, ops[k]? = some o → (l.setIfInBounds i true).getD k false = true → ∀ e ∈ o.after, Region.binds .any e = true → (l.setIfInBounds i true).getD e.on false = true := by
      intro k o2 hk hkl e he hb
      rw [hset]
      split
      · rfl
      · rw [hset] at hkl
        split at hkl
        · rename_i hik
          subst hik
          rw [ho] at hk
          injection hk with hk
          subst hk
          exact hdep e he hb
        · exact h2 k o2 hk hkl e he hb
    have hui : l.getD i false = false := by
      simp only [Array.getD_eq_getD_getElem?, Array.getElem?_eq_getElem hil2, Option.getD_some] at hu ⊢
      exact hu
    rcases h3 with ⟨h3, h4, h5, h6⟩ | ⟨h3, _⟩
    rotate_left
    · rw [h3 i hil] at hui; cases hui
    have hdst : dstOf ops i = o.dst := by unfold dstOf; rw [ho]; rfl
    have hdeps : ∀ e ∈ o.after, Region.binds .any e = true → ∀ t, dstOf ops e.on = some t → R e.on w (a.eval (.tmp t)) := by
      intro e he hb t ht
      have h7 := (hord2 i o ho).2 e he hb
      exact h6 e.on (by omega) (hdep e he hb) t ht
    unfold wpOp
    rw [ho]
    simp only [Region.wanted, (hord2 i o ho).1, if_true]
    by_cases hin3 : i < n
    · refine .inl (Oper.wp_mono (fun a' w' h => ?_) (hstep i o hin3 ho a w h5 h4 hdeps))
      obtain ⟨v, rfl, hb, hR⟩ := h
      refine ⟨by simpa using h1, hcl, .inl ⟨?_, by rw [← hdst]; exact h4.put i v, h5.trans (hb.mono h5.size), ?_⟩⟩
      · rw [hset, if_neg (by omega)]; exact h3
      · intro j hj hjl t ht
        rw [← hdst]
        by_cases e : i = j
        · subst e
          rw [ht, eval_put, if_pos ⟨rfl, by rw [h4.size]; exact hin2 i t (by omega) ht⟩]
          exact hR
        · rw [hset, if_neg e] at hjl
          have hne : ∀ d, dstOf ops i = some d → d ≠ t := fun d hd e2 => e (hdis2 i j d (by omega) (by omega) hd (by rw [e2]; exact ht))
          have hev : (a.put (dstOf ops i) v).eval (.tmp t) = a.eval (.tmp t) := by
            cases hd : dstOf ops i with
            | none => rfl
            | some d => rw [eval_put, if_neg (fun h => hne d hd h.1)]
          rw [hev]
          exact hmono j w w' _ (h6 j hj hjl t ht) hb
    · obtain rfl : i = n := by omega
      refine .inl (Oper.wp_mono (fun a' w' h => ?_) (hlast o ho a w h5 h4 hdeps))
      refine ⟨by simpa using h1, hcl, .inr ⟨?_, h⟩⟩
      have key : ∀ m j, j + m = i → (l.setIfInBounds i true).getD j false = true := by
        intro m
        induction m using Nat.strongRecOn with
        | _ m ih =>
          intro j hj
          by_cases e : m = 0
          · rw [hset, if_pos (by omega)]
          · obtain ⟨k, o2, e2, hjk, hk, he2, hb2, hon⟩ := huse2 j (by omega)
            have hk2 : k < i + 1 := by have := (Array.getElem?_eq_some_iff.1 hk).1; omega
            have := hcl k o2 hk (ih (i - k) (by omega) k (by omega)) e2 he2 hb2
            rw [hon] at this
            exact this
      intro j hj
      exact key (i - j) j (by omega)
  · simp [hsz, List.countP_replicate]
  · refine ⟨by simp [hsz], fun i o _ hl => ?_, .inl ⟨?_, Alike.refl _ _, (Below.refl _ _).drew, fun i _ hl => ?_⟩⟩
    · simp only [Array.getD_eq_getD_getElem?, Array.getElem?_replicate] at hl
      split at hl <;> simp at hl
    · simp only [Array.getD_eq_getD_getElem?, Array.getElem?_replicate]
      split <;> rfl
    · simp only [Array.getD_eq_getD_getElem?, Array.getElem?_replicate] at hl
      split at hl <;> simp at hl

/-- The region yields into these places alone. -/
def dsIn (ops : Array Oper) (ds : List Nat) : Bool := ops.toList.all fun o => match o.dst with | some d => ds.contains d | none => true
/-- A frame alike, written out. -/
theorem alike_tmps {ops : Array Oper} {a0 a : Act} (h : Alike ops a0 a) (ds : List Nat) (hds : dsIn ops ds = true) :
    ∃ us : Nat → Value, (∀ t, a.eval (.tmp t) = us t) ∧ a = ⟨(a0.tmps.toList.mapIdx fun t v => if ds.contains t then us t else v).toArray, a0.defers⟩ := by
  refine ⟨fun t => a.eval (.tmp t), fun _ => rfl, ?_⟩
  have hds2 : ∀ i d, dstOf ops i = some d → ds.contains d = true := by
    intro i d hd
    unfold dstOf at hd
    cases ho : ops[i]? with
    | none => rw [ho] at hd; simp at hd
    | some o =>
      rw [ho] at hd
      have h1 : o ∈ ops.toList := by simpa using Array.mem_of_getElem? ho
      have h2 := (List.all_eq_true.1 hds) o h1
      simp only [Option.bind_some] at hd
      rw [hd] at h2
      exact h2
  obtain ⟨ts, df⟩ := a
  have h1 := h.defers
  have h2 := h.size
  simp only at h1 h2
  rw [h1]
  congr 1
  apply Array.ext
  · simp [h2]
  · intro i hi1 hi2
    simp only [List.getElem_toArray, List.getElem_mapIdx]
    split
    · simp [Act.eval, Array.getD_eq_getD_getElem?, hi1]
    · rename_i hn
      have := h.same i (fun k hk => hn (hds2 k i hk))
      have h3 : i < a0.tmps.size := by omega
      simp only [Act.eval, Array.getD_eq_getD_getElem?, Array.getElem?_eq_getElem hi1, Array.getElem?_eq_getElem h3, Option.getD_some] at this
      rw [this]
      simp

/-- No operation yields into the place. -/
def notIn (ops : Array Oper) (t : Tmp) : Bool := ops.toList.all fun o => match o.dst with | some d => d != t | none => true
theorem alike_at {ops : Array Oper} {a0 a : Act} (h : Alike ops a0 a) {t : Tmp} (hn : notIn ops t = true) : a.eval (.tmp t) = a0.eval (.tmp t) := by
  refine h.same t (fun i hd => ?_)
  unfold dstOf at hd
  cases ho : ops[i]? with
  | none => rw [ho] at hd; simp at hd
  | some o =>
    rw [ho] at hd
    have h1 : o ∈ ops.toList := by simpa using Array.mem_of_getElem? ho
    have h2 := (List.all_eq_true.1 hn) o h1
    simp only [Option.bind_some] at hd
    rw [hd] at h2
    simp at h2

end Go.Proofs.Ytnjplfofcjonhab

namespace Go.Proofs.Ytnjplfofcjonhab
open Go.RowKit
set_option linter.unusedVariables false
theorem ret_q {a b : Bool} (h : a = b) : Ending.returned (.bool a) = .returned (.bool b) := by rw [h]

theorem take_next {α : Type} (zs ys : List α) (j : Nat) (h1 : j < zs.length) (h2 : j < ys.length) (h : zs.take j = ys.take j) : zs.take (j + 1) = ys.take (j + 1) ↔ zs[j] = ys[j] := by
  rw [List.take_succ_eq_append_getElem h1, List.take_succ_eq_append_getElem h2, h]
  constructor
  · intro e; exact (List.cons.inj (List.append_cancel_left e)).1
  · intro e; rw [e]

theorem take_of_eq {α : Type} {zs ys : List α} (h : zs = ys) (j : Nat) : zs.take j = ys.take j := by rw [h]

theorem eq_of_takes {α : Type} {zs ys : List α} (hl : zs.length = ys.length) (h : zs.take zs.length = ys.take zs.length) : zs = ys := by
  rw [List.take_length, hl, List.take_length] at h
  exact h

theorem l5Ints_calls (w : World) (a b : Option Addr) (cap cap2 : Nat) (zs ys : List Int) (q : Bool) (h1 : RdI w a zs) (h2 : RdI w b ys) (hz : zs.length ≤ 16777216) (hy : ys.length ≤ 16777216) (hq : q = true ↔ zs = ys) :
    Calls Try.prog 10 #[.slice a zs.length cap, .slice b ys.length cap2] w fun e w' => e = .returned (.bool q) ∧ Below w.heap.size w w' := by
  have HA : Hid (RdI w a zs) := h1
  have HB : Hid (RdI w b ys) := h2
  have HQ : Hid (q = true ↔ zs = ys) := hq
  clear h1 h2 hq
  by_cases hl : zs.length = ys.length
  · have HN : Hid (∀ (j : Nat) (h1 : j < zs.length) (h2 : j < ys.length), zs.take j = ys.take j → _) := fun j h1 h2 h => take_next zs ys j h1 h2 h
    have HT : Hid (zs = ys → ∀ j, zs.take j = ys.take j) := fun h j => take_of_eq h j
    have HF : Hid (zs.take zs.length = ys.take zs.length → zs = ys) := eq_of_takes hl
    obtain ⟨n, hn⟩ : ∃ n, zs.length = n := ⟨_, rfl⟩
    have Hn : Hid (zs.length = n) := hn
    have Hm : Hid (ys.length = n) := by show _ = _; omega
    rw [← hl, hn] at hy ⊢
    rw [hn] at hz HF
    clear hn hl
    go_enter Try.func10, Try.ntmps10
    go_wp2
    go_loopw [5] (fun i wr => ∃ j : Nat, j ≤ n ∧ i = .int .i64 j ∧ Below w.heap.size w wr ∧ Hid (∀ p, wr.cell? p = w.cell? p) ∧ Hid (zs.take j = ys.take j)) (fun i _ => n - (intOf i).toNat)
    case atStart => exact ⟨0, by omega, rfl, Below.refl _ _, fun _ => rfl, rfl⟩
    case round =>
      obtain ⟨j, hj, rfl, hb, HW, HE⟩ := hrel
      by_cases hlt : j < n
      · have hj2 : j < zs.length := by have := Hn.out; omega
        have hj3 : j < ys.length := by have := Hm.out; omega
        obtain ⟨g, off, rfl, -, hc1⟩ := HA.out j hj2
        obtain ⟨g2, off2, rfl, -, hc2⟩ := HB.out j hj3
        rw [← HW.out] at hc1 hc2
        have HN2 : Hid (_ ↔ _) := HN.out j hj2 hj3 HE.out
        generalize zs[j] = z at *
        generalize ys[j] = y at *
        by_cases he : z = y
        · have HE2 : Hid (zs.take (j + 1) = ys.take (j + 1)) := HN2.out.2 he
          subst he
          go_wp2
          go_region
          all_goals
            go_wp2
            go_roundw
            case rel => exact ⟨j + 1, by omega, by go_num, hb.drew, fun p => HW.out p, HE2⟩
            case measure => simp [intOf]; omega
        · have HR : Hid (q = false) := by
            show _ = _
            rw [← Bool.not_eq_true]
            intro h
            exact he (HN2.out.1 (HT.out (HQ.out.1 h) (j + 1)))
          have hne : (z != y) = true := by rw [bne_iff_ne]; exact he
          go_wp2
          go_region
          all_goals
            go_wp2
            go_ret
            exact ⟨ret_q HR.out.symm, hb.drew⟩
      · obtain rfl : j = n := by omega
        have HR : Hid (q = true) := HQ.out.2 (HF.out HE.out)
        go_wp2
        go_ret
        exact ⟨ret_q HR.out.symm, hb⟩
  · have HR : Hid (q = false) := by
      show _ = _
      rw [← Bool.not_eq_true]
      intro h
      exact hl (by rw [HQ.out.1 h])
    have hne : ((zs.length : Int) != (ys.length : Int)) = true := by rw [bne_iff_ne]; omega
    go_enter Try.func10, Try.ntmps10
    go_wp2
    go_ret
    exact ⟨ret_q HR.out.symm, Below.refl _ _⟩

end Go.Proofs.Ytnjplfofcjonhab
namespace Go.Proofs.Ytnjplfofcjonhab
open Go.RowKit
set_option linter.unusedVariables false
set_option maxRecDepth 100000
theorem drop_eq_step {α : Type} (zs ys : List α) (j : Nat) (h1 : j < zs.length) (h2 : j < ys.length) : zs.drop j = ys.drop j ↔ (zs[j] = ys[j] ∧ zs.drop (j + 1) = ys.drop (j + 1)) := by
  rw [List.drop_eq_getElem_cons h1, List.drop_eq_getElem_cons h2, List.cons.injEq]

theorem eqInt_calls (w : World) (a c : Option Addr) (cap cap2 : Nat) (zs ys : List Int) (h1 : RdI w a zs) (h2 : RdI w c ys) (hn : zs.length ≤ 9223372036854775806) (hm : ys.length ≤ 9223372036854775806) :
    Calls Try.prog 12 #[.slice a zs.length cap, .slice c ys.length cap2] w fun e w' => e = .returned (.bool (decide (zs = ys))) ∧ Below w.heap.size w w' := by
  by_cases hl : zs.length = ys.length
  · have HA : Hid (∀ X : LaterW w, RdI X.on a zs) := fun X => rdI_later h1 X.bel
    have HC : Hid (∀ X : LaterW w, RdI X.on c ys) := fun X => rdI_later h2 X.bel
    have H0 : Hid (decide (zs = ys) = decide (zs.drop 0 = ys.drop 0)) := rfl
    have HS : Hid (∀ (j : Nat) (h1 : j < zs.length) (h2 : j < ys.length), (zs.drop j = ys.drop j) ↔ _) := fun j h1 h2 => drop_eq_step zs ys j h1 h2
    have HE : Hid (zs.drop zs.length = ys.drop zs.length) := by show _ = _; rw [List.drop_length, hl, List.drop_length]
    generalize decide (zs = ys) = b at *
    obtain ⟨n, hnn⟩ : ∃ n, zs.length = n := ⟨_, rfl⟩
    have Hn : Hid (zs.length = n) := hnn
    have Hm : Hid (ys.length = n) := by show _ = _; omega
    rw [hnn] at hn HE ⊢
    rw [Hm.out]
    clear h1 h2 hnn hl hm
    go_enter Try.func12, Try.ntmps12
    go_wp2
    go_loopw [13] (fun i wr => ∃ j : Nat, j ≤ n ∧ i = .int .i64 j ∧ Hid (b = decide (zs.drop j = ys.drop j)) ∧ Below w.heap.size w wr) (fun i _ => n - (intOf i).toNat)
    case atStart => exact ⟨0, by omega, rfl, H0, Below.refl _ _⟩
    case round =>
      obtain ⟨j, hj, rfl, HJ, hb⟩ := hrel
      by_cases hlt : j < n
      · have hj2 : j < zs.length := by have := Hn.out; omega
        have hj3 : j < ys.length := by have := Hm.out; omega
        obtain ⟨g, off, rfl, -, -⟩ := HA.out ⟨w, Below.refl _ _⟩ j hj2
        obtain ⟨g2, off2, rfl, -, -⟩ := HC.out ⟨w, Below.refl _ _⟩ j hj3
        have hne := LaterW.some_ wr
        have z1 : ∀ X : LaterW wr, X.on.cell? ⟨g, off + j, none⟩ = some (.int .i64 zs[j]) := fun X => by
          obtain ⟨g', off', e1, -, e2⟩ := HA.out ⟨X.on, hb.trans (X.bel.mono hb.size)⟩ j hj2
          simp only [Option.some.injEq, Addr.mk.injEq, and_true] at e1
          obtain ⟨rfl, rfl⟩ := e1
          exact e2
        have z2 : ∀ X : LaterW wr, X.on.cell? ⟨g2, off2 + j, none⟩ = some (.int .i64 ys[j]) := fun X => by
          obtain ⟨g', off', e1, -, e2⟩ := HC.out ⟨X.on, hb.trans (X.bel.mono hb.size)⟩ j hj3
          simp only [Option.some.injEq, Addr.mk.injEq, and_true] at e1
          obtain ⟨rfl, rfl⟩ := e1
          exact e2
        have HS2 : Hid (_ ↔ _) := HS.out j hj2 hj3
        generalize zs[j] = z at *
        generalize ys[j] = y at *
        by_cases he : z = y
        · have HR : Hid (b = decide (zs.drop (j + 1) = ys.drop (j + 1))) := by show _ = _; rw [HJ.out, decide_eq_decide, HS2.out]; exact ⟨fun h => h.2, fun h => ⟨he, h⟩⟩
          subst he
          go_wp2
          refine wp_region_later wr (Below.refl _ _) (by kernel_rfl) (by kernel_rfl) ?_
          repeat (go_big_quiet_step (fail))
          refine wpQuiet_nil ?_
          rintro _ ⟨⟨X, hX⟩, rfl⟩
          go_wp2
          go_roundw
          case rel => exact ⟨j + 1, by omega, by go_num, HR, hb.trans (hX.mono hb.size)⟩
          case measure => simp [intOf]; omega
        · have HR : Hid (b = false) := by show _ = _; rw [HJ.out, decide_eq_false (fun h => he (HS2.out.1 h).1)]
          have hq : (z != y) = true := by rw [bne_iff_ne]; exact he
          go_wp2
          refine wp_region_later wr (Below.refl _ _) (by kernel_rfl) (by kernel_rfl) ?_
          repeat (go_big_quiet_step (fail))
          refine wpQuiet_nil ?_
          rintro _ ⟨⟨X, hX⟩, rfl⟩
          go_wp2
          go_ret
          exact ⟨ret_q HR.out.symm, hb.trans (hX.mono hb.size)⟩
      · obtain rfl : j = n := by omega
        have HR : Hid (b = true) := by show _ = _; rw [HJ.out]; exact decide_eq_true HE.out
        go_wp2
        go_ret
        exact ⟨ret_q HR.out.symm, hb⟩
  · have hd : decide (zs = ys) = false := decide_eq_false (fun e => hl (by rw [e]))
    rw [hd]
    have hq : ¬ ((zs.length : Int) = (ys.length : Int)) := by omega
    clear h1 h2 hd
    go_enter Try.func12, Try.ntmps12
    go_wp2
    go_ret
    exact ⟨rfl, Below.refl _ _⟩

end Go.Proofs.Ytnjplfofcjonhab
namespace Go.Proofs.Ytnjplfofcjonhab
open Go.RowKit
theorem ev_tmp {a : Act} {t : Tmp} {v : Value} (h : a.eval (.tmp t) = v) : a.tmps[t]?.getD undef = v := by
  rw [← h]; simp [Act.eval, Array.getD_eq_getD_getElem?]
theorem opMove {t i : Tmp} {ty : TypeId} {pos : String} {af : Array Edge} {a : Act} {X : World} {K : Act → World → Prop} {Q : Exit → Act → World → Prop} {v : Value} (h1 : a.eval (.tmp i) = v) (hK : K (a.put (some t) v) X) :
    Oper.wp Try.prog ⟨some t, .move (.tmp i), ty, pos, af, none⟩ a X K Q := by
  have h := ev_tmp h1
  go_simp; exact hK
theorem bool_of (p : Prop) : ∃ b : Bool, (b = true ↔ p) := by
  by_cases h : p
  · exact ⟨true, by simp [h]⟩
  · exact ⟨false, by simp [h]⟩
theorem bool_no {p : Prop} {b : Bool} (h : b = true ↔ p) (hn : ¬ p) : b = false := by
  cases b with
  | false => rfl
  | true => exact absurd (h.1 rfl) hn
theorem ownI_same {w w' : World} {B : Nat} {v : Value} {zs : List Int} (h : ownI w B v zs) (hs : ∀ g, v.ownBlock = some g → w'.heap[g]? = w.heap[g]?) : ownI w' B v zs := by
  rcases h with ⟨h1, h2 | ⟨g, cap, cur, h2, h3, h4, h5⟩⟩
  · exact ⟨h1, .inl h2⟩
  · exact ⟨h1, .inr ⟨g, cap, cur, h2, h3, by rw [hs g (by rw [h2]; rfl)]; exact h4, h5⟩⟩

end Go.Proofs.Ytnjplfofcjonhab
