/- A heap whose rows are all its own: it is read, marked, and turned part by part. -/
import Derived.Test.YtjhceoejblmihaaMemHWalks
namespace Go.Proofs.Ytjhceoejblmihaa
open Go.RowKit
set_option linter.unusedVariables false
set_option maxRecDepth 100000

/-- Two rows lie in two blocks. -/
def Dif (a b : Option Addr) : Prop := ∀ x y, a = some x → b = some y → x.block ≠ y.block
theorem Dif.symm {a b : Option Addr} (h : Dif a b) : Dif b a := fun x y hx hy e => h y x hy hx e.symm
theorem Dif.ap {a b : Option Addr} (h : Dif a b) (n m : Nat) : Ap a n b m := fun _ _ x y hx hy => h x y hx hy
structure SepX (s : HSh) : Prop where
  ow : Dif s.oa s.wa
  ob : Dif s.oa s.ba
  os : Dif s.oa s.sa
  wb : Dif s.wa s.ba
  ws : Dif s.wa s.sa
  bs : Dif s.ba s.sa
  fo : ∀ t ∈ s.os, Dif s.oa t.f
  fw : ∀ t ∈ s.os, Dif s.wa t.f
  fb : ∀ t ∈ s.os, Dif s.ba t.f
  fs : ∀ t ∈ s.os, Dif s.sa t.f
  ff : s.os.Pairwise (fun t u => Dif t.f u.f)
structure HM (w : World) (B : Nat) (s : HSh) (H : HeapD) : Prop where
  lo : s.os.length = H.objs.length
  lw : s.wn = H.weaks.length
  lb : s.bn = H.buffer.length
  ls : s.sn = H.sites.length
  o : ∀ j (h : j < H.objs.length) (h2 : j < s.os.length), ∃ g, s.oa = some ⟨g, 0, none⟩ ∧ ObjAt w g (j * 8) H.objs[j] (.slice s.os[j].f s.os[j].n s.os[j].c) ∧ ∀ k, k < 8 → w.frozen? ⟨g, j * 8 + k, none⟩ = false
  f : ∀ j (h : j < H.objs.length) (h2 : j < s.os.length), s.os[j].n = H.objs[j].field.length ∧ ownI w B (.slice s.os[j].f s.os[j].n s.os[j].c) H.objs[j].field
  og : ∀ x, s.oa = some x → B ≤ x.block ∧ x.block < w.heap.size
  wk : ∀ j (h : j < H.weaks.length), ∃ g, s.wa = some ⟨g, 0, none⟩ ∧ WeakAt w g (j * 2) H.weaks[j] ∧ ∀ k, k < 2 → w.frozen? ⟨g, j * 2 + k, none⟩ = false
  wg : ∀ x, s.wa = some x → B ≤ x.block ∧ x.block < w.heap.size
  b : ownI w B (.slice s.ba s.bn s.bc) H.buffer
  st : ownS w B (.slice s.sa s.sn s.sc) H.sites
  sep : SepX s

/-- The heap has a row in the block. -/
def HasB (s : HSh) (g : Nat) : Prop := (∃ x, s.oa = some x ∧ x.block = g) ∨ (∃ x, s.wa = some x ∧ x.block = g) ∨ (∃ x, s.ba = some x ∧ x.block = g) ∨ (∃ x, s.sa = some x ∧ x.block = g) ∨ ∃ t ∈ s.os, ∃ x, t.f = some x ∧ x.block = g
theorem own_block {a : Option Addr} {n c : Nat} {x : Addr} (h : a = some x) : (Value.slice a n c).ownBlock = some x.block := by rw [h]; rfl
theorem own_some {a : Option Addr} {n c g : Nat} (h : (Value.slice a n c).ownBlock = some g) : ∃ x, a = some x ∧ x.block = g := by
  cases a with
  | none => simp [Value.ownBlock] at h
  | some x => exact ⟨x, rfl, by simpa [Value.ownBlock] using h⟩
theorem hm_bl {w : World} {B : Nat} {s : HSh} {H : HeapD} (h : HM w B s H) {g : Nat} (hg : HasB s g) : B ≤ g ∧ g < w.heap.size := by
  rcases hg with ⟨x, hx, rfl⟩ | ⟨x, hx, rfl⟩ | ⟨x, hx, rfl⟩ | ⟨x, hx, rfl⟩ | ⟨t, ht, x, hx, rfl⟩
  · exact h.og x hx
  · exact h.wg x hx
  · exact ownI_lt h.b _ (own_block hx)
  · exact ownS_lt h.st _ (own_block hx)
  · obtain ⟨j, hj, rfl⟩ := List.mem_iff_getElem.1 ht
    exact ownI_lt (h.f j (by rw [← h.lo]; exact hj) hj).2 _ (own_block hx)

theorem ownI_same {w w' : World} {B : Nat} {v : Value} {zs : List Int} (h : ownI w B v zs) (hs : ∀ g, v.ownBlock = some g → w'.heap[g]? = w.heap[g]?) : ownI w' B v zs := by
  rcases h with ⟨h1, h2 | ⟨g, cap, cur, h2, h3, h4, h5⟩⟩
  · exact ⟨h1, .inl h2⟩
  · exact ⟨h1, .inr ⟨g, cap, cur, h2, h3, by rw [hs g (by rw [h2]; rfl)]; exact h4, h5⟩⟩
theorem ownS_same {w w' : World} {B : Nat} {v : Value} {zs : List (List UInt8)} (h : ownS w B v zs) (hs : ∀ g, v.ownBlock = some g → w'.heap[g]? = w.heap[g]?) : ownS w' B v zs := by
  rcases h with ⟨h1, h2 | ⟨g, cap, cur, h2, h3, h4, h5⟩⟩
  · exact ⟨h1, .inl h2⟩
  · exact ⟨h1, .inr ⟨g, cap, cur, h2, h3, by rw [hs g (by rw [h2]; rfl)]; exact h4, h5⟩⟩
theorem objAt_same {w w' : World} {g p : Nat} {o : ObjD} {f : Value} (h : ObjAt w g p o f) (hs : w'.heap[g]? = w.heap[g]?) : ObjAt w' g p o f := h.keep (fun k => World.cell?_of_block (a := ⟨g, k, none⟩) hs)

theorem hm_same {w w' : World} {B : Nat} {s : HSh} {H : HeapD} (h : HM w B s H) (hsz : w.heap.size ≤ w'.heap.size) (hs : ∀ g, HasB s g → w'.heap[g]? = w.heap[g]?) : HM w' B s H where
  lo := h.lo
  lw := h.lw
  lb := h.lb
  ls := h.ls
  o := fun j hj hj2 => by
    obtain ⟨g, h1, h2, h3⟩ := h.o j hj hj2
    have hg := hs g (.inl ⟨_, h1, rfl⟩)
    exact ⟨g, h1, objAt_same h2 hg, fun k hk => (World.frozen?_of_block (a := ⟨g, j * 8 + k, none⟩) hg).trans (h3 k hk)⟩
  f := fun j hj hj2 => ⟨(h.f j hj hj2).1, ownI_same (h.f j hj hj2).2 (fun g hg => by obtain ⟨x, hx, e⟩ := own_some hg; exact hs g (.inr (.inr (.inr (.inr ⟨_, List.getElem_mem hj2, x, hx, e⟩)))))⟩
  og := fun x hx => ⟨(h.og x hx).1, Nat.lt_of_lt_of_le (h.og x hx).2 hsz⟩
  wk := fun j hj => by
    obtain ⟨g, h1, h2, h3⟩ := h.wk j hj
    have hg := hs g (.inr (.inl ⟨_, h1, rfl⟩))
    exact ⟨g, h1, h2.keep (fun k => World.cell?_of_block (a := ⟨g, k, none⟩) hg), fun k hk => (World.frozen?_of_block (a := ⟨g, j * 2 + k, none⟩) hg).trans (h3 k hk)⟩
  wg := fun x hx => ⟨(h.wg x hx).1, Nat.lt_of_lt_of_le (h.wg x hx).2 hsz⟩
  b := ownI_same h.b (fun g hg => by obtain ⟨x, hx, e⟩ := own_some hg; exact hs g (.inr (.inr (.inl ⟨x, hx, e⟩))))
  st := ownS_same h.st (fun g hg => by obtain ⟨x, hx, e⟩ := own_some hg; exact hs g (.inr (.inr (.inr (.inl ⟨x, hx, e⟩)))))
  sep := h.sep
theorem hm_later {w w' : World} {B : Nat} {s : HSh} {H : HeapD} (h : HM w B s H) (hb : Below w.heap.size w w') : HM w' B s H := hm_same h hb.size (fun g hg => hb.block g (hm_bl h hg).2)
theorem hm_keepB {w w' : World} {B : Nat} {s : HSh} {H : HeapD} (h : HM w B s H) (hb : KeepB B w w') : HM w' B s H := hm_same h hb.1 (fun g hg => hb.2 g (hm_bl h hg).1 (hm_bl h hg).2)
theorem hm_mono {w : World} {B C : Nat} {s : HSh} {H : HeapD} (h : HM w B s H) (hC : C ≤ B) : HM w C s H where
  lo := h.lo
  lw := h.lw
  lb := h.lb
  ls := h.ls
  o := h.o
  f := fun j hj hj2 => ⟨(h.f j hj hj2).1, ownI_mono (h.f j hj hj2).2 hC⟩
  og := fun x hx => ⟨Nat.le_trans hC (h.og x hx).1, (h.og x hx).2⟩
  wk := h.wk
  wg := fun x hx => ⟨Nat.le_trans hC (h.wg x hx).1, (h.wg x hx).2⟩
  b := ownI_mono h.b hC
  st := ownS_mono h.st hC
  sep := h.sep

theorem hm_parts {w : World} {B : Nat} {s : HSh} {H : HeapD} (h : HM w B s H) : RdO w s.oa H.objs ∧ RdW w s.wa H.weaks ∧ RdI w s.ba H.buffer ∧ RdS w s.sa H.sites := by
  refine ⟨fun j hj => ?_, fun j hj => ?_, ?_, ?_⟩
  · have hj2 : j < s.os.length := by rw [h.lo]; exact hj
    obtain ⟨g, h1, h2, _⟩ := h.o j hj hj2
    obtain ⟨h4, h5⟩ := h.f j hj hj2
    obtain ⟨a, c, h6, h7⟩ := rdI_own' h5
    simp only [Value.slice.injEq] at h6
    refine ⟨g, 0, s.os[j].f, s.os[j].c, h1, (h.og _ h1).2, ?_, ?_⟩
    · rw [Nat.zero_add, ← h4]; exact h2
    · rw [h6.1]; exact h7
  · obtain ⟨g, h1, h2, _⟩ := h.wk j hj
    exact ⟨g, 0, h1, (h.wg _ h1).2, by rw [Nat.zero_add]; exact h2⟩
  · obtain ⟨a, c, h6, h7⟩ := rdI_own' h.b
    simp only [Value.slice.injEq] at h6
    rw [h6.1]; exact h7
  · obtain ⟨a, c, h6, h7⟩ := rdS_own h.st
    simp only [Value.slice.injEq] at h6
    rw [h6.1]; exact h7.out
theorem hm_rd {w : World} {B : Nat} {s : HSh} {H : HeapD} (h : HM w B s H) : RdH w s.v H := by
  obtain ⟨h1, h2, h3, h4⟩ := hm_parts h
  exact ⟨_, _, _, _, _, _, _, _, by rw [HSh.v, h.lo, h.lw, h.lb, h.ls], h1, h2, h3, h4⟩
theorem hm_mem {w : World} {B : Nat} {s : HSh} {H : HeapD} (h : HM w B s H) (l0 : H.objs.length ≤ 16777216) (l1 : ∀ z ∈ H.objs, z.field.length ≤ 16777216) (l2 : H.weaks.length ≤ 16777216) (l3 : H.buffer.length ≤ 16777216) (l4 : H.sites.length ≤ 16777216) : MemH w B s H := by
  obtain ⟨h1, h2, h3, h4⟩ := hm_parts h
  have hp := h.sep
  refine memH_mk h.lo.symm h.lw.symm h.lb.symm h.ls.symm h1 h2 h3 h4 ⟨?_, ?_, ?_, ?_, ?_, by rw [h.lo]; exact l0, ?_, by rw [h.lw]; exact l2, by rw [h.lb]; exact l3, by rw [h.ls]; exact l4⟩
    ⟨hp.ow.ap _ _, hp.ob.ap _ _, hp.os.ap _ _, hp.wb.ap _ _, hp.ws.ap _ _, hp.bs.ap _ _, fun t ht => (hp.fo t ht).ap _ _, fun t ht => (hp.fw t ht).ap _ _, fun t ht => (hp.fb t ht).ap _ _, fun t ht => (hp.fs t ht).ap _ _, hp.ff.imp (fun hd => hd.ap _ _)⟩
    ⟨fun _ x hx => (h.og x hx).1, fun _ x hx => (h.wg x hx).1, fun _ x hx => (ownI_lt h.b _ (own_block hx)).1, fun _ x hx => (ownS_lt h.st _ (own_block hx)).1, fun t ht _ x hx => (hm_bl h (.inr (.inr (.inr (.inr ⟨t, ht, x, hx, rfl⟩))))).1⟩
  · intro j hj
    have hj2 : j < H.objs.length := by rw [← h.lo]; exact hj
    obtain ⟨g, e1, e2, e3⟩ := h.o j hj2 hj
    obtain ⟨e4, e5⟩ := h.f j hj2 hj
    obtain ⟨a, c, e6, e7, _⟩ := ownI_can e5
    simp only [Value.slice.injEq] at e6
    refine ⟨g, 0, e1, (h.og _ e1).2, fun k hk => ?_, ?_, ?_, fun x hx _ e => ?_⟩
    · rw [Nat.zero_add]; exact ⟨objAt_some e2 k hk, e3 k hk⟩
    · rw [Nat.zero_add]; exact e2.c6
    · rw [e6.1, e6.2.1]; exact e7
    · exact hp.fo _ (List.getElem_mem hj) _ x e1 hx e.symm
  · intro x t hx ht _ y hy e
    exact hp.fo t ht x y hx hy e.symm
  · intro j hj
    obtain ⟨g, e1, e2, e3⟩ := h.wk j (by rw [← h.lw]; exact hj)
    exact ⟨g, 0, e1, (h.wg _ e1).2, ⟨_, by rw [Nat.zero_add]; exact e2.c0⟩, by rw [Nat.zero_add]; exact e3 0 (by omega), ⟨_, by rw [Nat.zero_add]; exact e2.c1⟩, by rw [Nat.zero_add]; exact e3 1 (by omega)⟩
  · obtain ⟨a, c, e6, e7, _⟩ := ownI_can h.b
    simp only [Value.slice.injEq] at e6
    rw [e6.1, e6.2.1]; exact e7
  · obtain ⟨a, c, e6, e7, _⟩ := ownS_can h.st
    simp only [Value.slice.injEq] at e6
    rw [e6.1, e6.2.1]; exact e7
  · intro t ht
    obtain ⟨j, hj, rfl⟩ := List.mem_iff_getElem.1 ht
    have hj2 : j < H.objs.length := by rw [← h.lo]; exact hj
    rw [(h.f j hj2 hj).1]
    exact l1 _ (List.getElem_mem hj2)

/-- One object is turned. -/
theorem hm_setO {w w' : World} {B : Nat} {s : HSh} {H : HeapD} (h : HM w B s H) (k : Nat) (hk : k < H.objs.length) (g : Nat) (hg : s.oa = some ⟨g, 0, none⟩) (o' : ObjD) (t' : OSh) (hsz : w.heap.size ≤ w'.heap.size) (hblk : ∀ i, i ≠ g → i < w.heap.size → w'.heap[i]? = w.heap[i]?)
    (hobj : ObjAt w' g (k * 8) o' (.slice t'.f t'.n t'.c)) (hoth : ∀ q, q < k * 8 ∨ k * 8 + 8 ≤ q → w'.cell? ⟨g, q, none⟩ = w.cell? ⟨g, q, none⟩) (hfr : ∀ q, w'.frozen? ⟨g, q, none⟩ = w.frozen? ⟨g, q, none⟩)
    (hn : t'.n = o'.field.length) (hown : ownI w' B (.slice t'.f t'.n t'.c) o'.field) (d0 : Dif s.oa t'.f) (d1 : Dif s.wa t'.f) (d2 : Dif s.ba t'.f) (d3 : Dif s.sa t'.f) (d4 : ∀ j (h : j < s.os.length), j ≠ k → Dif s.os[j].f t'.f) :
    HM w' B { s with os := s.os.set k t' } { H with objs := H.objs.set k o' } := by
  have hp := h.sep
  have hmem : ∀ t ∈ s.os.set k t', t = t' ∨ ∃ j, ∃ hj : j < s.os.length, j ≠ k ∧ t = s.os[j] := by
    intro t ht
    obtain ⟨j, hj, rfl⟩ := List.mem_iff_getElem.1 ht
    rw [List.getElem_set]
    split
    · exact .inl rfl
    · rename_i e; exact .inr ⟨j, by simpa using hj, fun e2 => e e2.symm, rfl⟩
  have hin : ∀ {P : OSh → Prop}, (∀ t ∈ s.os, P t) → P t' → ∀ t ∈ s.os.set k t', P t := by
    intro P h1 h2 t ht
    rcases hmem t ht with rfl | ⟨j, hj, _, rfl⟩
    · exact h2
    · exact h1 _ (List.getElem_mem hj)
  have hne : ∀ x, HasB s x → (x ≠ g) → w'.heap[x]? = w.heap[x]? := fun x hx hxg => hblk x hxg (hm_bl h hx).2
  exact {
    lo := by simp [h.lo]
    lw := h.lw
    lb := h.lb
    ls := h.ls
    o := fun j hj hj2 => by
      simp only [List.length_set] at hj hj2
      refine ⟨g, hg, ?_, ?_⟩
      · by_cases e : k = j
        · subst e; simp only [List.getElem_set_self]; exact hobj
        · simp only [List.getElem_set_ne e]
          obtain ⟨g2, h1, h2, _⟩ := h.o j hj hj2
          rw [hg] at h1
          injection h1 with h1; injection h1 with h1 _ _; subst h1
          refine ⟨?_, ?_, ?_, ?_, ?_, ?_, ?_, ?_⟩
          · rw [hoth _ (by omega)]; exact h2.c0
          · rw [hoth _ (by omega)]; exact h2.c1
          · rw [hoth _ (by omega)]; exact h2.c2
          · rw [hoth _ (by omega)]; exact h2.c3
          · rw [hoth _ (by omega)]; exact h2.c4
          · rw [hoth _ (by omega)]; exact h2.c5
          · rw [hoth _ (by omega)]; exact h2.c6
          · rw [hoth _ (by omega)]; exact h2.c7
      · intro q hq
        obtain ⟨g2, h1, _, h3⟩ := h.o j hj hj2
        rw [hg] at h1
        injection h1 with h1; injection h1 with h1 _ _; subst h1
        rw [hfr]; exact h3 q hq
    f := fun j hj hj2 => by
      simp only [List.length_set] at hj hj2
      by_cases e : k = j
      · subst e; simp only [List.getElem_set_self]; exact ⟨hn, hown⟩
      · simp only [List.getElem_set_ne e]
        refine ⟨(h.f j hj hj2).1, ownI_same (h.f j hj hj2).2 (fun x hx => ?_)⟩
        obtain ⟨y, hy, e2⟩ := own_some hx
        refine hne x (.inr (.inr (.inr (.inr ⟨_, List.getElem_mem hj2, y, hy, e2⟩)))) (fun e3 => ?_)
        exact hp.fo _ (List.getElem_mem hj2) _ y hg hy (by simp only; rw [e2, e3])
    og := fun x hx => ⟨(h.og x hx).1, Nat.lt_of_lt_of_le (h.og x hx).2 hsz⟩
    wk := fun j hj => by
      obtain ⟨g2, h1, h2, h3⟩ := h.wk j hj
      have hb := hne g2 (.inr (.inl ⟨_, h1, rfl⟩)) (fun e => hp.ow _ _ hg h1 e.symm)
      exact ⟨g2, h1, h2.keep (fun q => World.cell?_of_block (a := ⟨g2, q, none⟩) hb), fun q hq => (World.frozen?_of_block (a := ⟨g2, j * 2 + q, none⟩) hb).trans (h3 q hq)⟩
    wg := fun x hx => ⟨(h.wg x hx).1, Nat.lt_of_lt_of_le (h.wg x hx).2 hsz⟩
    b := ownI_same h.b (fun x hx => by obtain ⟨y, hy, e2⟩ := own_some hx; exact hne x (.inr (.inr (.inl ⟨y, hy, e2⟩))) (fun e3 => hp.ob _ y hg hy (by simp only; rw [e2, e3])))
    st := ownS_same h.st (fun x hx => by obtain ⟨y, hy, e2⟩ := own_some hx; exact hne x (.inr (.inr (.inr (.inl ⟨y, hy, e2⟩)))) (fun e3 => hp.os _ y hg hy (by simp only; rw [e2, e3])))
    sep := ⟨hp.ow, hp.ob, hp.os, hp.wb, hp.ws, hp.bs, hin hp.fo d0, hin hp.fw d1, hin hp.fb d2, hin hp.fs d3, by
      rw [List.pairwise_iff_getElem]
      intro i j hi hj hij
      simp only [List.length_set] at hi hj
      rw [List.getElem_set, List.getElem_set]
      split
      · rename_i e; subst e
        rw [if_neg (by omega)]
        exact (d4 j hj (by omega)).symm
      · rename_i e
        split
        · exact d4 i hi (fun e2 => e e2.symm)
        · exact (List.pairwise_iff_getElem.1 hp.ff) i j hi hj hij⟩ }

theorem hm_obj {w : World} {B : Nat} {s : HSh} {H : HeapD} (h : HM w B s H) (k : Nat) (hk : k < H.objs.length) (g : Nat) (hg : s.oa = some ⟨g, 0, none⟩) : ∃ hk2 : k < s.os.length, ObjAt w g (k * 8) H.objs[k] (.slice s.os[k].f s.os[k].n s.os[k].c) ∧ ∀ q, q < 8 → w.frozen? ⟨g, k * 8 + q, none⟩ = false := by
  have hk2 : k < s.os.length := by rw [h.lo]; exact hk
  obtain ⟨g2, h1, h2, h3⟩ := h.o k hk hk2
  rw [hg] at h1
  injection h1 with h1; injection h1 with h1 _ _; subst h1
  exact ⟨hk2, h2, h3⟩
theorem hm_own {w : World} {B : Nat} {s : HSh} {H : HeapD} (h : HM w B s H) (k : Nat) (hk : k < H.objs.length) : ∃ g, s.oa = some ⟨g, 0, none⟩ ∧ B ≤ g ∧ g < w.heap.size := by
  obtain ⟨g, h1, _⟩ := h.o k hk (by rw [h.lo]; exact hk)
  exact ⟨g, h1, h.og _ h1⟩

/-- One cell of one object is turned, not its field's. -/
theorem hm_cell {w : World} {B : Nat} {s : HSh} {H : HeapD} (h : HM w B s H) (k : Nat) (hk : k < H.objs.length) (g : Nat) (hg : s.oa = some ⟨g, 0, none⟩) (i : Nat) (u : Value) (hi : i < 8) (o' : ObjD) (hf : o'.field = H.objs[k].field)
    (ho : ∀ f, ObjAt w g (k * 8) H.objs[k] f → ObjAt (w.setCell ⟨g, k * 8 + i, none⟩ u) g (k * 8) o' f) : HM (w.setCell ⟨g, k * 8 + i, none⟩ u) B s { H with objs := H.objs.set k o' } := by
  obtain ⟨hk2, h1, h2⟩ := hm_obj h k hk g hg
  have hp := h.sep
  have hm := List.getElem_mem hk2
  have hfk := h.f k hk hk2
  have key := hm_setO (w' := w.setCell ⟨g, k * 8 + i, none⟩ u) h k hk g hg o' s.os[k] (by simp [World.setCell]) (fun j hj _ => heap_setCell_other w _ j u (by simpa using hj)) (ho _ h1)
    (fun q hq => cell_far w g _ _ u (by omega)) (fun q => World.frozen?_setCell _ _ _ _) (by rw [hf]; exact hfk.1)
    (by rw [hf]; exact ownI_same hfk.2 (fun x hx => heap_setCell_other w _ x u (by obtain ⟨y, hy, e⟩ := own_some hx; simp only; intro e2; exact hp.fo _ hm _ y hg hy (by simp only; rw [e, e2]))))
    (hp.fo _ hm) (hp.fw _ hm) (hp.fb _ hm) (hp.fs _ hm)
    (fun j hj hne => by
      rcases Nat.lt_or_gt_of_ne hne with hl | hl
      · exact (List.pairwise_iff_getElem.1 hp.ff) j k hj hk2 hl
      · exact ((List.pairwise_iff_getElem.1 hp.ff) k j hk2 hj hl).symm)
  rw [List.set_getElem_self] at key
  exact key
theorem hm_count {w : World} {B : Nat} {s : HSh} {H : HeapD} (h : HM w B s H) (k : Nat) (hk : k < H.objs.length) (g : Nat) (hg : s.oa = some ⟨g, 0, none⟩) (z : Int) : HM (w.setCell ⟨g, k * 8 + 5, none⟩ (.int .i64 z)) B s { H with objs := H.objs.set k { H.objs[k] with count := z } } :=
  hm_cell h k hk g hg 5 (.int .i64 z) (by omega) _ rfl (fun f ho =>
    ⟨by rw [cell_far _ _ _ _ _ (by omega)]; exact ho.c0, by rw [cell_far _ _ _ _ _ (by omega)]; exact ho.c1, by rw [cell_far _ _ _ _ _ (by omega)]; exact ho.c2, by rw [cell_far _ _ _ _ _ (by omega)]; exact ho.c3, by rw [cell_far _ _ _ _ _ (by omega)]; exact ho.c4,
     World.cell?_setCell_same w _ _ ho.c5, by rw [cell_far _ _ _ _ _ (by omega)]; exact ho.c6, by rw [cell_far _ _ _ _ _ (by omega)]; exact ho.c7⟩)
theorem hm_purple {w : World} {B : Nat} {s : HSh} {H : HeapD} (h : HM w B s H) (k : Nat) (hk : k < H.objs.length) (g : Nat) (hg : s.oa = some ⟨g, 0, none⟩) (b : Bool) : HM (w.setCell ⟨g, k * 8 + 7, none⟩ (.bool b)) B s { H with objs := H.objs.set k { H.objs[k] with purple := b } } :=
  hm_cell h k hk g hg 7 (.bool b) (by omega) _ rfl (fun f ho =>
    ⟨by rw [cell_far _ _ _ _ _ (by omega)]; exact ho.c0, by rw [cell_far _ _ _ _ _ (by omega)]; exact ho.c1, by rw [cell_far _ _ _ _ _ (by omega)]; exact ho.c2, by rw [cell_far _ _ _ _ _ (by omega)]; exact ho.c3, by rw [cell_far _ _ _ _ _ (by omega)]; exact ho.c4,
     by rw [cell_far _ _ _ _ _ (by omega)]; exact ho.c5, by rw [cell_far _ _ _ _ _ (by omega)]; exact ho.c6, World.cell?_setCell_same w _ _ ho.c7⟩)

/-- The heap has a row in the block, other than the buffer. -/
def HasB' (s : HSh) (g : Nat) : Prop := (∃ x, s.oa = some x ∧ x.block = g) ∨ (∃ x, s.wa = some x ∧ x.block = g) ∨ (∃ x, s.sa = some x ∧ x.block = g) ∨ ∃ t ∈ s.os, ∃ x, t.f = some x ∧ x.block = g
theorem HasB'.has {s : HSh} {g : Nat} (h : HasB' s g) : HasB s g := by
  rcases h with h | h | h | h
  · exact .inl h
  · exact .inr (.inl h)
  · exact .inr (.inr (.inr (.inl h)))
  · exact .inr (.inr (.inr (.inr h)))
/-- The buffer's row lies in no other's block. -/
theorem hm_bdif {w : World} {B : Nat} {s : HSh} {H : HeapD} (h : HM w B s H) {g : Nat} (hg : HasB' s g) (x : Addr) (hx : s.ba = some x) : x.block ≠ g := by
  have hp := h.sep
  rcases hg with ⟨y, hy, rfl⟩ | ⟨y, hy, rfl⟩ | ⟨y, hy, rfl⟩ | ⟨t, ht, y, hy, rfl⟩
  · exact hp.ob.symm x y hx hy
  · exact hp.wb.symm x y hx hy
  · exact hp.bs x y hx hy
  · exact hp.fb t ht x y hx hy
/-- The buffer is another. -/
theorem hm_buf {w w' : World} {B : Nat} {s : HSh} {H : HeapD} (h : HM w B s H) (hsz : w.heap.size ≤ w'.heap.size) (hs : ∀ g, HasB' s g → w'.heap[g]? = w.heap[g]?) (ba : Option Addr) (bn bc : Nat) (Z : List Int) (hn : bn = Z.length) (hb : ownI w' B (.slice ba bn bc) Z) (hd : ∀ x, ba = some x → ¬ HasB' s x.block) :
    HM w' B { s with ba := ba, bn := bn, bc := bc } { H with buffer := Z } where
  lo := h.lo
  lw := h.lw
  lb := hn
  ls := h.ls
  o := fun j hj hj2 => by
    obtain ⟨g, h1, h2, h3⟩ := h.o j hj hj2
    have hg := hs g (.inl ⟨_, h1, rfl⟩)
    exact ⟨g, h1, objAt_same h2 hg, fun k hk => (World.frozen?_of_block (a := ⟨g, j * 8 + k, none⟩) hg).trans (h3 k hk)⟩
  f := fun j hj hj2 => ⟨(h.f j hj hj2).1, ownI_same (h.f j hj hj2).2 (fun g hg => by obtain ⟨x, hx, e⟩ := own_some hg; exact hs g (.inr (.inr (.inr ⟨_, List.getElem_mem hj2, x, hx, e⟩))))⟩
  og := fun x hx => ⟨(h.og x hx).1, Nat.lt_of_lt_of_le (h.og x hx).2 hsz⟩
  wk := fun j hj => by
    obtain ⟨g, h1, h2, h3⟩ := h.wk j hj
    have hg := hs g (.inr (.inl ⟨_, h1, rfl⟩))
    exact ⟨g, h1, h2.keep (fun k => World.cell?_of_block (a := ⟨g, k, none⟩) hg), fun k hk => (World.frozen?_of_block (a := ⟨g, j * 2 + k, none⟩) hg).trans (h3 k hk)⟩
  wg := fun x hx => ⟨(h.wg x hx).1, Nat.lt_of_lt_of_le (h.wg x hx).2 hsz⟩
  b := hb
  st := ownS_same h.st (fun g hg => by obtain ⟨x, hx, e⟩ := own_some hg; exact hs g (.inr (.inr (.inl ⟨x, hx, e⟩))))
  sep := ⟨h.sep.ow, fun x y hx hy e => hd y hy (.inl ⟨x, hx, e⟩), h.sep.os, fun x y hx hy e => hd y hy (.inr (.inl ⟨x, hx, e⟩)), h.sep.ws, fun x y hx hy e => hd x hx (.inr (.inr (.inl ⟨y, hy, e.symm⟩))), h.sep.fo, h.sep.fw, fun t ht x y hx hy e => hd x hx (.inr (.inr (.inr ⟨t, ht, y, hy, e.symm⟩))), h.sep.fs, h.sep.ff⟩

end Go.Proofs.Ytjhceoejblmihaa
