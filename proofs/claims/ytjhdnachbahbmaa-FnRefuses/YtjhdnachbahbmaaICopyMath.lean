/- What impl.copyHeap does from round to round; strings.Clone; calls in regions of whatever order. -/
import Derived.Test.YtjhdnachbahbmaaAnyOps
import Derived.Test.YtjhdnachbahbmaaShelf
namespace Go.Proofs.Ytjhdnachbahbmaa
open Go.RowKit
set_option linter.unusedVariables false
set_option maxRecDepth 100000

theorem strClone_calls (s : ByteArray) (w : World) (h : s.size ≤ 281474976710656) : Calls Try.prog 23 #[.string s] w fun e w' => e = .returned (.string s) ∧ Below w.heap.size w w' := by
  go_enter Try.func23, Try.ntmps23
  go_wp2_with fail
  refine (Try.stringslite_Clone s w h).mono ?_
  rintro e w1 ⟨rfl, b1⟩
  go_wp2
  go_ret
  exact ⟨rfl, b1⟩

theorem opCallO {t i : Tmp} {ty : TypeId} {pos : String} {af : Array Edge} {ats : Array TypeId} {a : Act} {X : World} {K : Act → World → Prop} {Q : Exit → Act → World → Prop} {v : Value} {post : Ending → World → Prop} (h1 : a.eval (.tmp i) = v) (hC : Calls Try.prog 19 #[v] X post) (hK : ∀ e w', post e w' → ∃ x, e = .returned x ∧ K (a.put (some t) x) w') :
    Oper.wp Try.prog ⟨some t, .call { callee := .value (.func 19), args := #[.tmp i], argTypes := ats }, ty, pos, af, none⟩ a X K Q := by
  have h := ev_tmp h1
  go_simp
  refine hC.mono (fun e w' hp => ?_)
  obtain ⟨x, rfl, hx⟩ := hK e w' hp
  exact hx
theorem opCallW {t i : Tmp} {ty : TypeId} {pos : String} {af : Array Edge} {ats : Array TypeId} {a : Act} {X : World} {K : Act → World → Prop} {Q : Exit → Act → World → Prop} {v : Value} {post : Ending → World → Prop} (h1 : a.eval (.tmp i) = v) (hC : Calls Try.prog 20 #[v] X post) (hK : ∀ e w', post e w' → ∃ x, e = .returned x ∧ K (a.put (some t) x) w') :
    Oper.wp Try.prog ⟨some t, .call { callee := .value (.func 20), args := #[.tmp i], argTypes := ats }, ty, pos, af, none⟩ a X K Q := by
  have h := ev_tmp h1
  go_simp
  refine hC.mono (fun e w' hp => ?_)
  obtain ⟨x, rfl, hx⟩ := hK e w' hp
  exact hx
theorem opCallI {t i : Tmp} {ty : TypeId} {pos : String} {af : Array Edge} {ats : Array TypeId} {a : Act} {X : World} {K : Act → World → Prop} {Q : Exit → Act → World → Prop} {v : Value} {post : Ending → World → Prop} (h1 : a.eval (.tmp i) = v) (hC : Calls Try.prog 21 #[v] X post) (hK : ∀ e w', post e w' → ∃ x, e = .returned x ∧ K (a.put (some t) x) w') :
    Oper.wp Try.prog ⟨some t, .call { callee := .value (.func 21), args := #[.tmp i], argTypes := ats }, ty, pos, af, none⟩ a X K Q := by
  have h := ev_tmp h1
  go_simp
  refine hC.mono (fun e w' hp => ?_)
  obtain ⟨x, rfl, hx⟩ := hK e w' hp
  exact hx
theorem opCallS {t i : Tmp} {ty : TypeId} {pos : String} {af : Array Edge} {ats : Array TypeId} {a : Act} {X : World} {K : Act → World → Prop} {Q : Exit → Act → World → Prop} {v : Value} {post : Ending → World → Prop} (h1 : a.eval (.tmp i) = v) (hC : Calls Try.prog 22 #[v] X post) (hK : ∀ e w', post e w' → ∃ x, e = .returned x ∧ K (a.put (some t) x) w') :
    Oper.wp Try.prog ⟨some t, .call { callee := .value (.func 22), args := #[.tmp i], argTypes := ats }, ty, pos, af, none⟩ a X K Q := by
  have h := ev_tmp h1
  go_simp
  refine hC.mono (fun e w' hp => ?_)
  obtain ⟨x, rfl, hx⟩ := hK e w' hp
  exact hx

/-- All rows are copied; the first j objects' fields are too. -/
structure DI (W wr : World) (B g : Nat) (H : HeapD) (oa : Option Addr) (oc : Nat) (wa : Option Addr) (wc : Nat) (ba : Option Addr) (bc : Nat) (sa : Option Addr) (sc : Nat) (fs : List OSh) (j : Nat) : Prop where
  bel : Below B W wr
  x : Four wr g (.slice oa H.objs.length oc) (.slice wa H.weaks.length wc) (.slice ba H.buffer.length bc) (.slice sa H.sites.length sc)
  gB : B ≤ g
  og : ∀ y, oa = some y → B ≤ y.block ∧ y.block < wr.heap.size ∧ ∃ cur, wr.heap[y.block]? = some (.cells cur 50 (0, 0))
  fl : fs.length = H.objs.length
  o : ∀ i (h : i < H.objs.length) (h2 : i < fs.length), ∃ go, oa = some ⟨go, 0, none⟩ ∧ ObjAt wr go (i * 8) H.objs[i] (.slice fs[i].f fs[i].n fs[i].c) ∧ ∀ k, k < 8 → wr.frozen? ⟨go, i * 8 + k, none⟩ = false
  rw : wr.ownsRow B 63 2 (.slice wa H.weaks.length wc) H.weaks.length (H.weaks.flatMap cellsW)
  rb : ownI wr B (.slice ba H.buffer.length bc) H.buffer
  rs : ownS wr B (.slice sa H.sites.length sc) H.sites
  nn : ∀ i (h : i < H.objs.length) (h2 : i < fs.length), fs[i].n = H.objs[i].field.length
  f : ∀ i (h : i < H.objs.length) (h2 : i < fs.length), i < j → ownI wr B (.slice fs[i].f fs[i].n fs[i].c) H.objs[i].field
  src : ∀ i (h : i < H.objs.length) (h2 : i < fs.length), j ≤ i → RdI W fs[i].f H.objs[i].field
  ff : ∀ a b (ha : a < fs.length) (hb : b < fs.length), a < b → b < j → Dif fs[a].f fs[b].f
  fb : ∀ i (h2 : i < fs.length), i < j → Dif ba fs[i].f
  oc : H.objs.length ≤ oc

theorem di_step {W wr w1 : World} {B g : Nat} {H : HeapD} {oa : Option Addr} {oc : Nat} {wa : Option Addr} {wc : Nat} {ba : Option Addr} {bc : Nat} {sa : Option Addr} {sc : Nat} {fs : List OSh} {j : Nat} (h : DI W wr B g H oa oc wa wc ba bc sa sc fs j) (hB : B ≤ wr.heap.size) (hj : j < H.objs.length) (b1 : Below wr.heap.size wr w1) (go : Nat) (hgo : oa = some ⟨go, 0, none⟩) (t : OSh) (hn : t.n = H.objs[j].field.length) (ht : ownI w1 wr.heap.size (.slice t.f t.n t.c) H.objs[j].field) :
    DI W (w1.setCell ⟨go, j * 8 + 6, none⟩ (.slice t.f t.n t.c)) B g H oa oc wa wc ba bc sa sc (fs.set j t) (j + 1) := by
  obtain ⟨ob, ol, cur, ok⟩ := h.og _ hgo
  simp only at ob ol ok
  have ok1 : w1.heap[go]? = some (.cells cur 50 (0, 0)) := (b1.block go ol).trans ok
  have hs1 := b1.size
  have hj2 : j < fs.length := by rw [h.fl]; exact hj
  have keep : ∀ (i : Nat) (cu : Array Value) (e : TypeId), w1.heap[i]? = some (.cells cu e (0, 0)) → e ≠ 50 → (w1.setCell ⟨go, j * 8 + 6, none⟩ (.slice t.f t.n t.c)).heap[i]? = w1.heap[i]? := fun i cu e hi hne => heap_setCell_other _ _ _ _ (by exact kind_ne hi ok1 hne)
  have keepR : ∀ {n sz C : Nat} {e : TypeId} {v : Value} {xs : List Value}, w1.ownsRow C e sz v n xs → e ≠ 50 → (w1.setCell ⟨go, j * 8 + 6, none⟩ (.slice t.f t.n t.c)).ownsRow C e sz v n xs := by
    intro n sz C e v xs hr h1
    refine row_same hr (fun i hi => ?_)
    obtain ⟨cu, hc⟩ := row_kind hr i hi
    exact keep i cu e hc h1
  have x1 := h.x.later b1
  have oth : ∀ i (hi : i < H.objs.length) (hi2 : i < fs.length), ObjAt w1 go (i * 8) H.objs[i] (.slice fs[i].f fs[i].n fs[i].c) ∧ ∀ k, k < 8 → w1.frozen? ⟨go, i * 8 + k, none⟩ = false := by
    intro i hi hi2
    obtain ⟨g2, h1, h2, h3⟩ := h.o i hi hi2
    rw [hgo] at h1; injection h1 with h1; injection h1 with h1 _ _; subst h1
    exact ⟨h2.keep (fun k => b1.cell (p := ⟨go, k, none⟩) ol), fun k hk => (b1.frozen (p := ⟨go, i * 8 + k, none⟩) ol).trans (h3 k hk)⟩
  refine ⟨(h.bel.trans (b1.mono hB)).setCell ob _, x1.same (keep g _ _ x1 (by decide)), h.gB, fun y hy => ?_, by simp [h.fl], ?_, keepR (row_later h.rw b1) (by decide), keepR (ownI_later h.rb b1) (by decide), keepR (ownS_later h.rs b1) (by decide), ?_, ?_, ?_, ?_, ?_, ?_⟩
  · rw [hgo] at hy; injection hy with hy; subst hy
    exact ⟨ob, by simp only [World.setCell, Array.size_modify]; omega, _, heap_setCell_same w1 go _ _ _ _ ok1⟩
  · intro i hi hi2
    simp only [List.length_set] at hi2
    obtain ⟨h2, h3⟩ := oth i hi hi2
    refine ⟨go, hgo, ?_, fun k hk => by rw [World.frozen?_setCell]; exact h3 k hk⟩
    by_cases e : j = i
    · subst e
      simp only [List.getElem_set_self]
      exact ⟨by rw [cell_far _ _ _ _ _ (by omega)]; exact h2.c0, by rw [cell_far _ _ _ _ _ (by omega)]; exact h2.c1, by rw [cell_far _ _ _ _ _ (by omega)]; exact h2.c2, by rw [cell_far _ _ _ _ _ (by omega)]; exact h2.c3, by rw [cell_far _ _ _ _ _ (by omega)]; exact h2.c4,
        by rw [cell_far _ _ _ _ _ (by omega)]; exact h2.c5, World.cell?_setCell_same w1 _ _ h2.c6, by rw [cell_far _ _ _ _ _ (by omega)]; exact h2.c7⟩
    · simp only [List.getElem_set_ne e]
      exact ⟨by rw [cell_far _ _ _ _ _ (by omega)]; exact h2.c0, by rw [cell_far _ _ _ _ _ (by omega)]; exact h2.c1, by rw [cell_far _ _ _ _ _ (by omega)]; exact h2.c2, by rw [cell_far _ _ _ _ _ (by omega)]; exact h2.c3, by rw [cell_far _ _ _ _ _ (by omega)]; exact h2.c4,
        by rw [cell_far _ _ _ _ _ (by omega)]; exact h2.c5, by rw [cell_far _ _ _ _ _ (by omega)]; exact h2.c6, by rw [cell_far _ _ _ _ _ (by omega)]; exact h2.c7⟩
  · intro i hi hi2
    simp only [List.length_set] at hi2
    by_cases e : j = i
    · subst e; simp only [List.getElem_set_self]; exact hn
    · simp only [List.getElem_set_ne e]; exact h.nn i hi hi2
  · intro i hi hi2 hij
    simp only [List.length_set] at hi2
    by_cases e : j = i
    · subst e; simp only [List.getElem_set_self]; exact keepR (ownI_mono ht hB) (by decide)
    · simp only [List.getElem_set_ne e]; exact keepR (ownI_later (h.f i hi hi2 (by omega)) b1) (by decide)
  · intro i hi hi2 hij
    simp only [List.length_set] at hi2
    simp only [List.getElem_set_ne (show j ≠ i from by omega)]
    exact h.src i hi hi2 (by omega)
  · intro a b ha hb hab hbj
    simp only [List.length_set] at ha hb
    by_cases e : j = b
    · subst e
      simp only [List.getElem_set_self, List.getElem_set_ne (show j ≠ a from by omega)]
      intro x y hx hy e2
      have h1 := (ownI_lt (h.f a (by rw [← h.fl]; exact ha) ha (by omega)) _ (own_block hx)).2
      have h2 := (ownI_lt ht _ (own_block hy)).1
      omega
    · simp only [List.getElem_set_ne e, List.getElem_set_ne (show j ≠ a from by omega)]
      exact h.ff a b ha hb hab (by omega)
  · intro i hi2 hij
    simp only [List.length_set] at hi2
    by_cases e : j = i
    · subst e
      simp only [List.getElem_set_self]
      intro x y hx hy e2
      have h1 := (ownI_lt h.rb _ (own_block hx)).2
      have h2 := (ownI_lt ht _ (own_block hy)).1
      omega
    · simp only [List.getElem_set_ne e]
      exact h.fb i hi2 (by omega)
  · exact h.oc
theorem di_end {W wr : World} {B g : Nat} {H : HeapD} {oa : Option Addr} {oc : Nat} {wa : Option Addr} {wc : Nat} {ba : Option Addr} {bc : Nat} {sa : Option Addr} {sc : Nat} {fs : List OSh} (h : DI W wr B g H oa oc wa wc ba bc sa sc fs H.objs.length) :
    HM wr B ⟨oa, oc, fs, wa, H.weaks.length, wc, ba, H.buffer.length, bc, sa, H.sites.length, sc⟩ H where
  lo := h.fl
  lw := rfl
  lb := rfl
  ls := rfl
  o := h.o
  f := fun j hj hj2 => ⟨h.nn j hj hj2, h.f j hj hj2 hj⟩
  og := fun x hx => ⟨(h.og x hx).1, (h.og x hx).2.1⟩
  wk := row_weaks h.rw
  wg := row_block h.rw
  b := h.rb
  st := h.rs
  sep := by
    have hfl := h.fl
    have fk : ∀ t ∈ fs, ∃ zs : List Int, ownI wr B (.slice t.f t.n t.c) zs ∧ t.n = zs.length := by
      intro t ht
      obtain ⟨i, hi, rfl⟩ := List.mem_iff_getElem.1 ht
      exact ⟨_, h.f i (by omega) hi (by omega), h.nn i (by omega) hi⟩
    have fd : ∀ {n sz : Nat} {e : TypeId} {a : Option Addr} {c : Nat} {xs : List Value}, wr.ownsRow B e sz (.slice a n c) n xs → e ≠ 3 → ∀ t ∈ fs, Dif a t.f := by
      intro n sz e a c xs hr hne t ht
      obtain ⟨zs, hz, hzn⟩ := fk t ht
      unfold ownI at hz
      rw [← hzn] at hz
      exact row_dif hr hz hne
    have od : ∀ {n sz : Nat} {e : TypeId} {a : Option Addr} {c : Nat} {xs : List Value}, wr.ownsRow B e sz (.slice a n c) n xs → e ≠ 50 → Dif oa a := by
      intro n sz e a c xs hr hne x y hx hy e2
      obtain ⟨_, _, cur, hc⟩ := h.og x hx
      obtain ⟨cu2, hc2⟩ := row_kind hr y.block (own_block hy)
      exact kind_ne hc2 hc hne e2.symm
    have hb := h.rb
    have hs := h.rs
    unfold ownI at hb
    unfold ownS at hs
    exact ⟨od h.rw (by decide), od hb (by decide), od hs (by decide), row_dif h.rw hb (by decide), row_dif h.rw hs (by decide), row_dif hb hs (by decide), fun t ht => (by
        obtain ⟨zs, hz, hzn⟩ := fk t ht
        unfold ownI at hz
        rw [← hzn] at hz
        exact od hz (by decide)), fd h.rw (by decide), fun t ht => (by
        obtain ⟨i, hi, rfl⟩ := List.mem_iff_getElem.1 ht
        exact h.fb i hi (by have hi3 : i < fs.length := hi; omega)), fd hs (by decide), by
      rw [List.pairwise_iff_getElem]
      intro a b ha hb2 hab
      exact h.ff a b ha hb2 hab (by have hb3 : b < fs.length := hb2; omega)⟩
  co := by have h1 := h.oc; have h2 := h.fl; simp only; omega
  cw := row_cap h.rw

/-- A name is written over by itself. -/
theorem hm_site {w : World} {B : Nat} {s : HSh} {H : HeapD} (h : HM w B s H) (j : Nat) (hj : j < H.sites.length) (g : Nat) (hg : s.sa = some ⟨g, 0, none⟩) : HM (w.setCell ⟨g, j, none⟩ (.string (txt H.sites[j]))) B s H := by
  have hp := h.sep
  have ne : ∀ x, HasB s x → (∀ y, s.sa = some y → y.block ≠ x) → (w.setCell ⟨g, j, none⟩ (.string (txt H.sites[j]))).heap[x]? = w.heap[x]? := fun x _ hx => heap_setCell_other _ _ _ _ (by exact fun e => hx _ hg e.symm)
  have hst : ownS (w.setCell ⟨g, j, none⟩ (.string (txt H.sites[j]))) B (.slice s.sa s.sn s.sc) H.sites := by
    have h1 := h.st
    rw [hg] at h1 ⊢
    have h2 := ownS_set h1 h.ls j H.sites[j]
    rw [List.set_getElem_self] at h2
    exact h2
  exact {
    lo := h.lo
    lw := h.lw
    lb := h.lb
    ls := h.ls
    o := fun i hi hi2 => by
      obtain ⟨g2, h1, h2, h3⟩ := h.o i hi hi2
      have hb := ne g2 (.inl ⟨_, h1, rfl⟩) (fun y hy e => hp.os _ y h1 hy e.symm)
      exact ⟨g2, h1, objAt_same h2 hb, fun k hk => (World.frozen?_of_block (a := ⟨g2, i * 8 + k, none⟩) hb).trans (h3 k hk)⟩
    f := fun i hi hi2 => ⟨(h.f i hi hi2).1, ownI_same (h.f i hi hi2).2 (fun x hx => by
      obtain ⟨y, hy, e⟩ := own_some hx
      exact ne x (.inr (.inr (.inr (.inr ⟨_, List.getElem_mem hi2, y, hy, e⟩)))) (fun z hz e2 => hp.fs _ (List.getElem_mem hi2) z y hz hy (by rw [e, e2])))⟩
    og := fun x hx => ⟨(h.og x hx).1, by simp only [World.setCell, Array.size_modify]; exact (h.og x hx).2⟩
    wk := fun i hi => by
      obtain ⟨g2, h1, h2, h3⟩ := h.wk i hi
      have hb := ne g2 (.inr (.inl ⟨_, h1, rfl⟩)) (fun y hy e => hp.ws _ y h1 hy e.symm)
      exact ⟨g2, h1, h2.keep (fun k => World.cell?_of_block (a := ⟨g2, k, none⟩) hb), fun k hk => (World.frozen?_of_block (a := ⟨g2, i * 2 + k, none⟩) hb).trans (h3 k hk)⟩
    wg := fun x hx => ⟨(h.wg x hx).1, by simp only [World.setCell, Array.size_modify]; exact (h.wg x hx).2⟩
    b := ownI_same h.b (fun x hx => by
      obtain ⟨y, hy, e⟩ := own_some hx
      exact ne x (.inr (.inr (.inl ⟨y, hy, e⟩))) (fun z hz e2 => hp.bs y z hy hz (by rw [e, e2])))
    st := hst
    sep := hp
    co := h.co
    cw := h.cw }

end Go.Proofs.Ytjhdnachbahbmaa
