/- A heap that toHeap made may be written. -/
import Derived.Test.YtjhceoejblmihaaMarkH3Walks
namespace Go.Proofs.Ytjhceoejblmihaa
open Go.RowKit
set_option linter.unusedVariables false

theorem ownI_can {w : World} {B : Nat} {v : Value} {zs : List Int} (h : ownI w B v zs) : ∃ a c, v = .slice a zs.length c ∧ CanI w a zs.length ∧ ∀ x, a = some x → B ≤ x.block := by
  rcases ownI_form h with ⟨rfl, rfl⟩ | ⟨g, cap, rfl, hB, hg, _, _, HC⟩
  · exact ⟨none, 0, rfl, fun j hj => by simp at hj, fun x hx => by cases hx⟩
  · exact ⟨_, cap, rfl, fun j hj => ⟨g, 0, rfl, hg, ⟨_, by rw [Nat.zero_add]; exact (HC.out j hj).1⟩, by rw [Nat.zero_add]; exact (HC.out j hj).2⟩, fun x hx => by injection hx with hx; subst hx; exact hB⟩
theorem ownS_can {w : World} {B : Nat} {v : Value} {zs : List (List UInt8)} (h : ownS w B v zs) : ∃ a c, v = .slice a zs.length c ∧ CanI w a zs.length ∧ ∀ x, a = some x → B ≤ x.block := by
  rcases ownS_form h with ⟨rfl, rfl⟩ | ⟨g, cap, rfl, hB, hg, _, _, HC⟩
  · exact ⟨none, 0, rfl, fun j hj => by simp at hj, fun x hx => by cases hx⟩
  · exact ⟨_, cap, rfl, fun j hj => ⟨g, 0, rfl, hg, ⟨_, by rw [Nat.zero_add]; exact (HC.out j hj).1⟩, by rw [Nat.zero_add]; exact (HC.out j hj).2⟩, fun x hx => by injection hx with hx; subst hx; exact hB⟩
theorem objAt_some {w : World} {g p : Nat} {o : ObjD} {f : Value} (h : ObjAt w g p o f) : ∀ k, k < 8 → ∃ x, w.cell? ⟨g, p + k, none⟩ = some x := by
  intro k hk
  match k, hk with
  | 0, _ => exact ⟨_, h.c0⟩
  | 1, _ => exact ⟨_, h.c1⟩
  | 2, _ => exact ⟨_, h.c2⟩
  | 3, _ => exact ⟨_, h.c3⟩
  | 4, _ => exact ⟨_, h.c4⟩
  | 5, _ => exact ⟨_, h.c5⟩
  | 6, _ => exact ⟨_, h.c6⟩
  | 7, _ => exact ⟨_, h.c7⟩
theorem laidO_can {w : World} {g : Nat} {os : List ObjD} (h : LaidO w g os os.length) (hg : g < w.heap.size) :
    ∃ ss : List OSh, ss.length = os.length ∧ CanO w (some ⟨g, 0, none⟩) ss ∧ (∀ t ∈ ss, ∀ y, t.f = some y → g + 1 ≤ y.block) ∧ ∀ i (h1 : i < ss.length) (h2 : i < os.length), ss[i].n = os[i].field.length := by
  have key : ∀ i : Fin os.length, ∃ s : OSh, s.n = os[i].field.length ∧ CanO1 w g (0 + i.1 * 8) s ∧ ∀ y, s.f = some y → g + 1 ≤ y.block := by
    intro i
    obtain ⟨f, h1, h2, h3⟩ := h i.1 i.2 i.2
    obtain ⟨a, c, rfl, h4, h5⟩ := ownI_can h2
    refine ⟨⟨a, _, c⟩, rfl, ⟨hg, fun k hk => ⟨?_, ?_⟩, ?_, h4, fun x hx _ => by have := h5 x hx; omega⟩, h5⟩
    · rw [Nat.zero_add]; exact objAt_some h1 k hk
    · rw [Nat.zero_add]; exact h3 k hk
    · rw [Nat.zero_add]; exact h1.c6
  refine ⟨List.ofFn (fun i => Classical.choose (key i)), by simp, ?_, ?_, ?_⟩
  · intro j hj
    refine ⟨g, 0, rfl, ?_⟩
    rw [List.getElem_ofFn]
    exact (Classical.choose_spec (key ⟨j, by simpa using hj⟩)).2.1
  · intro t ht
    obtain ⟨j, hj, rfl⟩ := List.mem_iff_getElem.1 ht
    rw [List.getElem_ofFn]
    exact (Classical.choose_spec (key ⟨j, by simpa using hj⟩)).2.2
  · intro i h1 h2
    rw [List.getElem_ofFn]
    exact (Classical.choose_spec (key ⟨i, h2⟩)).1
theorem ownH_can {w : World} {B : Nat} {v : Value} {H : HeapD} (h : OwnH w B v H) (hs : SmallH H) : ∃ s : HSh, v = s.v ∧ CanH w s ∧ ∀ q ∈ markL s, B ≤ q.1.block := by
  obtain ⟨go, gw, vb, vs, rfl, b1, h1, h2, b2, h3, h4, h5, h6⟩ := h
  obtain ⟨ss, e1, e2, e3, e4⟩ := laidO_can h2 h1
  obtain ⟨ba, bc, rfl, e5, e6⟩ := ownI_can h5
  obtain ⟨sa, sc, rfl, e7, e8⟩ := ownS_can h6
  have hso := hs.objs
  have hsw := hs.weaks
  have hsb := hs.buffer
  have hss := hs.sites
  refine ⟨⟨some ⟨go, 0, none⟩, H.objs.length, ss, some ⟨gw, 0, none⟩, H.weaks.length, H.weaks.length, ba, H.buffer.length, bc, sa, H.sites.length, sc⟩, by rw [HSh.v, e1], ⟨e2, ?_, ?_, e5, e7, by simp only [e1]; omega, ?_, by simp only; omega, by simp only; omega, by simp only; omega⟩, ?_⟩
  · intro x t hx ht _ y hy
    have := e3 t ht y hy
    injection hx with hx
    subst hx
    simp only; omega
  · intro j hj
    obtain ⟨h7, h8⟩ := h4 j hj hj
    exact ⟨gw, 0, rfl, h3, ⟨_, by rw [Nat.zero_add]; exact h7.c0⟩, by rw [Nat.zero_add]; exact h8 0 (by omega), ⟨_, by rw [Nat.zero_add]; exact h7.c1⟩, by rw [Nat.zero_add]; exact h8 1 (by omega)⟩
  · intro t ht
    obtain ⟨j, hj, rfl⟩ := List.mem_iff_getElem.1 ht
    simp only at hj ⊢
    rw [e4 j hj (by omega)]
    have := hs.fields _ (List.getElem_mem (l := H.objs) (n := j) (by omega))
    omega
  · intro q hq
    unfold markL at hq
    simp only [List.mem_append] at hq
    rcases hq with hq | hq | hq | hq
    · rcases mkOs_where go ss 0 1 q hq with ⟨j, i, _, _, _, e⟩ | ⟨t, ht, _, y, hy, e⟩
      · rw [e]; exact b1
      · have := e3 t ht y hy; rw [e]; omega
    · obtain ⟨_, x, hx, e⟩ := mkW_block _ _ _ _ hq
      injection hx with hx; subst hx; rw [e]; exact b2
    · obtain ⟨_, x, hx, e⟩ := mkI_block _ _ _ _ hq
      rw [e]; exact e6 x hx
    · obtain ⟨_, x, hx, e⟩ := mkS_block _ _ _ _ hq
      rw [e]; exact e8 x hx

/-- Stores into other blocks leave a row of one's own. -/
theorem ownI_stores {w : World} {B : Nat} {v : Value} {zs : List Int} (L : Sts) (h : ownI w B v zs) (hL : ∀ q ∈ L, ∀ g, v.ownBlock = some g → q.1.block ≠ g) : ownI (stores w L) B v zs := by
  rcases h with ⟨h1, h2 | ⟨g, cap, cur, h2, h3, h4, h5⟩⟩
  · exact ⟨h1, .inl h2⟩
  · refine ⟨h1, .inr ⟨g, cap, cur, h2, h3, ?_, h5⟩⟩
    rw [stores_block L g (fun q hq => hL q hq g (by rw [h2]; rfl))]
    exact h4

end Go.Proofs.Ytjhceoejblmihaa
