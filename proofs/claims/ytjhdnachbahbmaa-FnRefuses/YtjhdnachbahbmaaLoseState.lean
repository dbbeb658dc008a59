/- What holds while a heap loses: the heap's own rows, what waits, what is freed, all apart. -/
import Derived.Test.YtjhdnachbahbmaaLoseMath
import Derived.Test.YtjhdnachbahbmaaAnyOps
import Derived.Maps.AppendAt
namespace Go.Proofs.Ytjhdnachbahbmaa
open Go.RowKit
set_option linter.unusedVariables false
set_option maxRecDepth 100000

structure LS (W wr : World) (B gx : Nat) (s : HSh) (H : HeapD) (vq vf : Value) (todo fr : List Int) : Prop where
  bel : Below B W wr
  hB : B ≤ W.heap.size
  m : HM wr B s H
  x : Four wr gx (.slice s.oa s.os.length s.oc) (.slice s.wa s.wn s.wc) (.slice s.ba s.bn s.bc) (.slice s.sa s.sn s.sc)
  gB : B ≤ gx
  sx : ¬ HasB s gx
  q : ownQ wr B vq todo
  f : ownI wr B vf fr
  sq : ∀ g, vq.ownBlock = some g → ¬ HasB s g
  sf : ∀ g, vf.ownBlock = some g → ¬ HasB s g
  qf : ∀ g, vq.ownBlock = some g → vf.ownBlock ≠ some g
/-- Nothing waits, nothing is freed. -/
abbrev LS0 (W wr : World) (B gx : Nat) (s : HSh) (H : HeapD) : Prop := LS W wr B gx s H (.slice none 0 0) (.slice none 0 0) [] []
theorem LS.le {W wr : World} {B gx : Nat} {s : HSh} {H : HeapD} {vq vf : Value} {todo fr : List Int} (h : LS W wr B gx s H vq vf todo fr) : B ≤ wr.heap.size := Nat.le_trans h.hB h.bel.size
theorem LS.qx {W wr : World} {B gx : Nat} {s : HSh} {H : HeapD} {vq vf : Value} {todo fr : List Int} (h : LS W wr B gx s H vq vf todo fr) (g : Nat) (hg : vq.ownBlock = some g) : g ≠ gx := by
  obtain ⟨cur, hc⟩ := ownQ_kind h.q g hg
  exact kind_ne hc h.x (by decide)
theorem LS.fx {W wr : World} {B gx : Nat} {s : HSh} {H : HeapD} {vq vf : Value} {todo fr : List Int} (h : LS W wr B gx s H vq vf todo fr) (g : Nat) (hg : vf.ownBlock = some g) : g ≠ gx := by
  obtain ⟨cur, hc⟩ := row_kind h.f g hg
  exact kind_ne hc h.x (by decide)
theorem ls_later {W wr w' : World} {B gx : Nat} {s : HSh} {H : HeapD} {vq vf : Value} {todo fr : List Int} (h : LS W wr B gx s H vq vf todo fr) (hb : Below wr.heap.size wr w') : LS W w' B gx s H vq vf todo fr :=
  ⟨h.bel.trans (hb.mono h.le), h.hB, hm_later h.m hb, h.x.later hb, h.gB, h.sx, ownQ_same h.q (fun g hg => hb.block g (ownQ_lt h.q g hg).2), ownI_later h.f hb, h.sq, h.sf, h.qf⟩
theorem ls_pop {W wr : World} {B gx : Nat} {s : HSh} {H : HeapD} {vq vf : Value} {todo fr : List Int} (h : LS W wr B gx s H vq vf todo fr) (v' : Value) (todo' : List Int) (hq : ownQ wr B v' todo') (hv : v'.ownBlock = vq.ownBlock) : LS W wr B gx s H v' vf todo' fr :=
  ⟨h.bel, h.hB, h.m, h.x, h.gB, h.sx, hq, h.f, fun g hg => h.sq g (by rw [← hv]; exact hg), h.sf, fun g hg => h.qf g (by rw [← hv]; exact hg)⟩
/-- A cell of an object is turned. -/
theorem ls_obj {W wr : World} {B gx : Nat} {s : HSh} {H H' : HeapD} {vq vf : Value} {todo fr : List Int} (h : LS W wr B gx s H vq vf todo fr) (go i : Nat) (u : Value) (hgo : s.oa = some ⟨go, 0, none⟩) (hm : HM (wr.setCell ⟨go, i, none⟩ u) B s H') : LS W (wr.setCell ⟨go, i, none⟩ u) B gx s H' vq vf todo fr := by
  have hh : HasB s go := .inl ⟨_, hgo, rfl⟩
  have oth : ∀ g, g ≠ go → (wr.setCell ⟨go, i, none⟩ u).heap[g]? = wr.heap[g]? := fun g hg => heap_setCell_other _ _ _ _ (by exact hg)
  exact ⟨h.bel.setCell (hm_bl h.m hh).1 _, h.hB, hm, h.x.same (oth gx (fun e => h.sx (by rw [e]; exact hh))), h.gB, h.sx, ownQ_same h.q (fun g hg => oth g (fun e => h.sq g hg (by rw [e]; exact hh))), ownI_same h.f (fun g hg => oth g (fun e => h.sf g hg (by rw [e]; exact hh))), h.sq, h.sf, h.qf⟩
/-- Another list is freed. -/
theorem ls_fr {W wr w' : World} {B gx : Nat} {s : HSh} {H : HeapD} {vq vf : Value} {todo fr : List Int} (h : LS W wr B gx s H vq vf todo fr) (hb : Below B W w') (hsz : wr.heap.size ≤ w'.heap.size) (oth : ∀ i, i < wr.heap.size → vf.ownBlock ≠ some i → w'.heap[i]? = wr.heap[i]?) (v' : Value) (fr' : List Int) (hf : ownI w' B v' fr') (hl : v'.ownBlock = vf.ownBlock ∨ ∃ g, v'.ownBlock = some g ∧ wr.heap.size ≤ g) : LS W w' B gx s H vq v' todo fr' := by
  have new : ∀ g, v'.ownBlock = some g → vf.ownBlock = some g ∨ wr.heap.size ≤ g := fun g hg => by
    rcases hl with e | ⟨g2, e, h2⟩
    · exact .inl (by rw [← e]; exact hg)
    · rw [e] at hg; injection hg with hg; subst hg; exact .inr h2
  exact ⟨hb, h.hB, hm_same h.m hsz (fun g hg => oth g (hm_bl h.m hg).2 (fun e => h.sf g e hg)), h.x.same (oth gx h.x.lt (fun e => h.fx gx e rfl)), h.gB, h.sx, ownQ_same h.q (fun g hg => oth g (ownQ_lt h.q g hg).2 (fun e => h.qf g hg e)), hf, h.sq, fun g hg hh => (by
    rcases new g hg with e | e
    · exact h.sf g e hh
    · have := (hm_bl h.m hh).2; omega), fun g hg hg2 => (by
    rcases new g hg2 with e | e
    · exact h.qf g hg e
    · have := (ownQ_lt h.q g hg).2; omega)⟩
/-- Another list waits. -/
theorem ls_todo {W wr w' : World} {B gx : Nat} {s : HSh} {H : HeapD} {vq vf : Value} {todo fr : List Int} (h : LS W wr B gx s H vq vf todo fr) (hb : Below B W w') (hsz : wr.heap.size ≤ w'.heap.size) (oth : ∀ i, i < wr.heap.size → vq.ownBlock ≠ some i → w'.heap[i]? = wr.heap[i]?) (v' : Value) (todo' : List Int) (hq : ownQ w' B v' todo') (hl : v'.ownBlock = vq.ownBlock ∨ ∃ g, v'.ownBlock = some g ∧ wr.heap.size ≤ g) : LS W w' B gx s H v' vf todo' fr := by
  have new : ∀ g, v'.ownBlock = some g → vq.ownBlock = some g ∨ wr.heap.size ≤ g := fun g hg => by
    rcases hl with e | ⟨g2, e, h2⟩
    · exact .inl (by rw [← e]; exact hg)
    · rw [e] at hg; injection hg with hg; subst hg; exact .inr h2
  exact ⟨hb, h.hB, hm_same h.m hsz (fun g hg => oth g (hm_bl h.m hg).2 (fun e => h.sq g e hg)), h.x.same (oth gx h.x.lt (fun e => h.qx gx e rfl)), h.gB, h.sx, hq, ownI_same h.f (fun g hg => oth g (ownI_lt h.f g hg).2 (fun e => h.qf g e hg)), fun g hg hh => (by
    rcases new g hg with e | e
    · exact h.sq g e hh
    · have := (hm_bl h.m hh).2; omega), h.sf, fun g hg hg2 => (by
    rcases new g hg with e | e
    · exact h.qf g e hg2
    · have := (ownI_lt h.f g hg2).2; omega)⟩
theorem hasB_buf {s : HSh} {ba : Option Addr} {bn bc g : Nat} (h : HasB { s with ba := ba, bn := bn, bc := bc } g) : HasB' s g ∨ ∃ x, ba = some x ∧ x.block = g := by
  rcases h with h | h | h | h | h
  · exact .inl (.inl h)
  · exact .inl (.inr (.inl h))
  · exact .inr h
  · exact .inl (.inr (.inr (.inl h)))
  · exact .inl (.inr (.inr (.inr h)))
/-- The buffer is another, and is put into the variable. -/
theorem ls_buf {W wr w1 : World} {B gx : Nat} {s : HSh} {H : HeapD} {vq vf : Value} {todo fr : List Int} (h : LS W wr B gx s H vq vf todo fr) (hb : Below B W w1) (hsz : wr.heap.size ≤ w1.heap.size) (oth : ∀ i, i < wr.heap.size → (Value.slice s.ba s.bn s.bc).ownBlock ≠ some i → w1.heap[i]? = wr.heap[i]?) (ba : Option Addr) (bn bc : Nat) (Z : List Int) (hn : bn = Z.length) (hz : ownI w1 B (.slice ba bn bc) Z)
    (hl : ∀ g, (Value.slice ba bn bc).ownBlock = some g → (Value.slice s.ba s.bn s.bc).ownBlock = some g ∨ wr.heap.size ≤ g) : LS W (w1.setCell ⟨gx, 2, none⟩ (.slice ba bn bc)) B gx { s with ba := ba, bn := bn, bc := bc } { H with buffer := Z } vq vf todo fr := by
  have old : ∀ g, HasB' s g → (Value.slice s.ba s.bn s.bc).ownBlock ≠ some g := fun g hg e => by
    obtain ⟨x, hx, e2⟩ := own_some e
    exact hm_bdif h.m hg x hx e2
  have new : ∀ x, ba = some x → (∃ y, s.ba = some y ∧ y.block = x.block) ∨ wr.heap.size ≤ x.block := fun x hx => by
    rcases hl _ (own_block hx) with e | e
    · obtain ⟨y, hy, e2⟩ := own_some e
      exact .inl ⟨y, hy, e2⟩
    · exact .inr e
  have bk : ∀ x, s.ba = some x → HasB s x.block := fun x hx => .inr (.inr (.inl ⟨x, hx, rfl⟩))
  have hx1 : w1.heap[gx]? = wr.heap[gx]? := oth gx h.x.lt (fun e => by obtain ⟨x, hx, e2⟩ := own_some e; exact h.sx (by rw [← e2]; exact bk x hx))
  have x1 := h.x.same hx1
  have oth2 : ∀ i, i ≠ gx → (w1.setCell ⟨gx, 2, none⟩ (.slice ba bn bc)).heap[i]? = w1.heap[i]? := fun i hi => heap_setCell_other _ _ _ _ (by exact hi)
  have m1 : HM w1 B { s with ba := ba, bn := bn, bc := bc } { H with buffer := Z } := hm_buf h.m hsz (fun g hg => oth g (hm_bl h.m hg.has).2 (old g hg)) ba bn bc Z hn hz (fun x hx hh => by
    rcases new x hx with ⟨y, hy, e⟩ | e
    · exact hm_bdif h.m hh y hy e
    · have := (hm_bl h.m hh.has).2; omega)
  have sx' : ¬ HasB { s with ba := ba, bn := bn, bc := bc } gx := fun hh => by
    rcases hasB_buf hh with h1 | ⟨x, hx, e⟩
    · exact h.sx h1.has
    · rcases new x hx with ⟨y, hy, e2⟩ | e2
      · exact h.sx (by rw [← e, ← e2]; exact bk y hy)
      · have := h.x.lt; omega
  have apart : ∀ {g : Nat}, g < wr.heap.size → ¬ HasB s g → ¬ HasB { s with ba := ba, bn := bn, bc := bc } g := fun hg hn hh => by
    rcases hasB_buf hh with h1 | ⟨x, hx, e⟩
    · exact hn h1.has
    · rcases new x hx with ⟨y, hy, e2⟩ | e2
      · exact hn (by rw [← e, ← e2]; exact bk y hy)
      · omega
  have nb : ∀ g, ¬ HasB s g → (Value.slice s.ba s.bn s.bc).ownBlock ≠ some g := fun g hn e => by obtain ⟨x, hx, e2⟩ := own_some e; exact hn (by rw [← e2]; exact bk x hx)
  refine ⟨hb.setCell h.gB _, h.hB, ?_, x1.set2 _, h.gB, sx', ?_, ?_, fun g hg => apart (ownQ_lt h.q g hg).2 (h.sq g hg), fun g hg => apart (ownI_lt h.f g hg).2 (h.sf g hg), h.qf⟩
  · exact hm_same m1 (by simp [World.setCell]) (fun g hg => oth2 g (fun e => sx' (by rw [← e]; exact hg)))
  · exact ownQ_same h.q (fun g hg => (oth2 g (h.qx g hg)).trans (oth g (ownQ_lt h.q g hg).2 (nb g (h.sq g hg))))
  · exact ownI_same h.f (fun g hg => (oth2 g (h.fx g hg)).trans (oth g (ownI_lt h.f g hg).2 (nb g (h.sf g hg))))
theorem hasB_set {s : HSh} {k : Nat} {t : OSh} {g : Nat} (h : HasB { s with os := s.os.set k t } g) : HasB s g ∨ ∃ x, t.f = some x ∧ x.block = g := by
  rcases h with h | h | h | h | ⟨u, hu, x, hx, e⟩
  · exact .inl (.inl h)
  · exact .inl (.inr (.inl h))
  · exact .inl (.inr (.inr (.inl h)))
  · exact .inl (.inr (.inr (.inr (.inl h))))
  · rcases List.mem_or_eq_of_mem_set hu with hu | rfl
    · exact .inl (.inr (.inr (.inr (.inr ⟨u, hu, x, hx, e⟩))))
    · exact .inr ⟨x, hx, e⟩
theorem setObj_own' {w : World} {B g p : Nat} {o : ObjD} {u v : Value} {zs : List Int} (h : ownI w B v zs) (hg : ∀ i, v.ownBlock = some i → i ≠ g) : ownI (setObj w g p o u) B v zs :=
  ownI_same h (fun i hi => by
    unfold setObj
    iterate 8 rw [heap_setCell_other _ _ _ _ (by exact hg i hi)])
/-- An object is put in a slot, its fields in a row that is new. -/
theorem ls_put {W wr w1 : World} {B gx : Nat} {s : HSh} {H : HeapD} {vq vf : Value} {todo fr : List Int} (h : LS W wr B gx s H vq vf todo fr) (b1 : Below wr.heap.size wr w1) (k : Nat) (hk : k < H.objs.length) (go : Nat) (hgo : s.oa = some ⟨go, 0, none⟩) (o : ObjD) (f : Option Addr) (c : Nat) (hf : ownI w1 wr.heap.size (.slice f o.field.length c) o.field) :
    LS W (setObj w1 go (k * 8) o (.slice f o.field.length c)) B gx { s with os := s.os.set k ⟨f, o.field.length, c⟩ } (setO H k o) vq vf todo fr := by
  have h1 := ls_later h b1
  have hs1 := b1.size
  have hh : HasB s go := .inl ⟨_, hgo, rfl⟩
  have oth : ∀ g, g ≠ go → (setObj w1 go (k * 8) o (.slice f o.field.length c)).heap[g]? = w1.heap[g]? := fun g hg => by
    unfold setObj
    iterate 8 rw [heap_setCell_other _ _ _ _ (by exact hg)]
  have hgl := (hm_bl h.m hh).2
  have fnew : ∀ y, f = some y → wr.heap.size ≤ y.block := fun y hy => (ownI_lt hf _ (own_block hy)).1
  have dn : ∀ {g : Nat}, HasB s g → ∀ x y : Addr, x.block = g → f = some y → x.block ≠ y.block := fun hg x y hx hy e => by
    have := (hm_bl h.m hg).2
    have := fnew y hy
    omega
  obtain ⟨hk2, ho1, _⟩ := hm_obj h1.m k hk go hgo
  have m' : HM (setObj w1 go (k * 8) o (.slice f o.field.length c)) B { s with os := s.os.set k ⟨f, o.field.length, c⟩ } (setO H k o) :=
    hm_setO h1.m k hk go hgo o ⟨f, o.field.length, c⟩ (by rw [setObj_size]; exact Nat.le_refl _) (fun i hi _ => oth i hi) (setObj_at w1 go _ o _ (fun q hq => objAt_some ho1 q hq)) (fun q hq => setObj_other _ _ _ _ _ _ hq) (fun q => setObj_frozen _ _ _ _ _ _) rfl
      (setObj_own' (ownI_mono hf h.le) (fun g hg e => by obtain ⟨y, hy, e2⟩ := own_some hg; have := fnew y hy; omega))
      (fun x y hx hy => dn (.inl ⟨x, hx, rfl⟩) x y rfl hy) (fun x y hx hy => dn (.inr (.inl ⟨x, hx, rfl⟩)) x y rfl hy) (fun x y hx hy => dn (.inr (.inr (.inl ⟨x, hx, rfl⟩))) x y rfl hy) (fun x y hx hy => dn (.inr (.inr (.inr (.inl ⟨x, hx, rfl⟩)))) x y rfl hy)
      (fun j hj _ x y hx hy => dn (.inr (.inr (.inr (.inr ⟨_, List.getElem_mem hj, x, hx, rfl⟩)))) x y rfl hy)
  have apart : ∀ {g : Nat}, g < wr.heap.size → ¬ HasB s g → ¬ HasB { s with os := s.os.set k ⟨f, o.field.length, c⟩ } g := fun hg hn h2 => by
    rcases hasB_set h2 with h3 | ⟨x, hx, e⟩
    · exact hn h3
    · have := fnew x hx; omega
  refine ⟨setObj_below _ _ _ _ h1.bel (hm_bl h.m hh).1, h.hB, m', ?_, h.gB, apart h.x.lt h.sx, ownQ_same h1.q (fun g hg => oth g (fun e => h.sq g hg (by rw [e]; exact hh))), ownI_same h1.f (fun g hg => oth g (fun e => h.sf g hg (by rw [e]; exact hh))), fun g hg => apart (ownQ_lt h.q g hg).2 (h.sq g hg), fun g hg => apart (ownI_lt h.f g hg).2 (h.sf g hg), h.qf⟩
  have x1 := h1.x.same (oth gx (fun e => h.sx (by rw [e]; exact hh)))
  rw [show ({ s with os := s.os.set k ⟨f, o.field.length, c⟩ } : HSh).os.length = s.os.length from by simp]
  exact x1

end Go.Proofs.Ytjhdnachbahbmaa
