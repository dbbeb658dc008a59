/- The laws' marks on heaps: markHeap, heldHeap. -/
import Derived.Test.YtjhceoejblmihaaMarkHWalks
namespace Go.Proofs.Ytjhceoejblmihaa
open Go.RowKit
set_option linter.unusedVariables false

/-- Where a heap's rows lie. -/
structure HSh where
  oa : Option Addr
  oc : Nat
  os : List OSh
  wa : Option Addr
  wn : Nat
  wc : Nat
  ba : Option Addr
  bn : Nat
  bc : Nat
  sa : Option Addr
  sn : Nat
  sc : Nat
def HSh.v (s : HSh) : Value := .agg #[.slice s.oa s.os.length s.oc, .slice s.wa s.wn s.wc, .slice s.ba s.bn s.bc, .slice s.sa s.sn s.sc]
/-- All of it may be written. -/
structure CanH (w : World) (s : HSh) : Prop where
  o : CanO w s.oa s.os
  ap : ∀ x t, s.oa = some x → t ∈ s.os → 0 < t.n → ∀ y, t.f = some y → y.block ≠ x.block
  wk : CanW w s.wa s.wn
  b : CanI w s.ba s.bn
  st : CanI w s.sa s.sn
  lo : s.os.length ≤ 16777216
  lf : ∀ t ∈ s.os, t.n ≤ 16777216
  lw : s.wn ≤ 16777216
  lb : s.bn ≤ 16777216
  ls : s.sn ≤ 16777216
def HSh.k1 (s : HSh) : Int := 1 + (cntO s.os : Int)
def HSh.k2 (s : HSh) : Int := s.k1 + 2 * (s.wn : Int)
def HSh.k3 (s : HSh) : Nat := 1 + cntO s.os + 2 * s.wn + s.bn
def markL (s : HSh) : Sts := mkO s.oa s.os 1 ++ (mkW s.wa s.k1 s.wn ++ (mkI s.ba s.k2 s.bn ++ mkS s.sa s.k3 s.sn))

theorem canI_later {w w' : World} {a : Option Addr} {n : Nat} (h : CanI w a n) (hb : Below w.heap.size w w') : CanI w' a n := by
  intro j hj
  obtain ⟨g, off, h1, h2, ⟨x, h3⟩, h4⟩ := h j hj
  exact ⟨g, off, h1, Nat.lt_of_lt_of_le h2 hb.size, ⟨x, (hb.cell (p := ⟨g, off + j, none⟩) h2).trans h3⟩, (hb.frozen (p := ⟨g, off + j, none⟩) h2).trans h4⟩
theorem canW_later {w w' : World} {a : Option Addr} {n : Nat} (h : CanW w a n) (hb : Below w.heap.size w w') : CanW w' a n := by
  intro j hj
  obtain ⟨g, off, h1, h2, ⟨x, h3⟩, h4, ⟨y, h5⟩, h6⟩ := h j hj
  exact ⟨g, off, h1, Nat.lt_of_lt_of_le h2 hb.size, ⟨x, (hb.cell (p := ⟨g, off + j * 2, none⟩) h2).trans h3⟩, (hb.frozen (p := ⟨g, off + j * 2, none⟩) h2).trans h4, ⟨y, (hb.cell (p := ⟨g, off + j * 2 + 1, none⟩) h2).trans h5⟩, (hb.frozen (p := ⟨g, off + j * 2 + 1, none⟩) h2).trans h6⟩
theorem canO_later {w w' : World} {a : Option Addr} {ss : List OSh} (h : CanO w a ss) (hb : Below w.heap.size w w') : CanO w' a ss := by
  intro j hj
  obtain ⟨g, off, h1, h2⟩ := h j hj
  refine ⟨g, off, h1, Nat.lt_of_lt_of_le h2.lt hb.size, fun k hk => ?_, (hb.cell (p := ⟨g, off + j * 8 + 6, none⟩) h2.lt).trans h2.head, canI_later h2.row hb, h2.apart⟩
  obtain ⟨⟨x, hx⟩, hf⟩ := h2.cell k hk
  exact ⟨⟨x, (hb.cell (p := ⟨g, off + j * 8 + k, none⟩) h2.lt).trans hx⟩, (hb.frozen (p := ⟨g, off + j * 8 + k, none⟩) h2.lt).trans hf⟩
theorem canH_later {w w' : World} {s : HSh} (h : CanH w s) (hb : Below w.heap.size w w') : CanH w' s :=
  ⟨canO_later h.o hb, h.ap, canW_later h.wk hb, canI_later h.b hb, canI_later h.st hb, h.lo, h.lf, h.lw, h.lb, h.ls⟩

theorem mkOs_mem (g : Nat) (ss : List OSh) : ∀ p k (q : Addr × Value), q ∈ mkOs g p ss k → ∃ j, ∃ (h : j < ss.length), ∃ k', q ∈ mkO1 g (p + j * 8) ss[j] k' := by
  induction ss with
  | nil => intro p k q h; simp [mkOs] at h
  | cons s r ih =>
    intro p k q h
    rcases List.mem_append.1 h with h | h
    · exact ⟨0, by simp, k, by simpa using h⟩
    · obtain ⟨j, hj, k', hq⟩ := ih _ _ q h
      refine ⟨j + 1, by simp; omega, k', ?_⟩
      rw [show p + (j + 1) * 8 = p + 8 + j * 8 from by omega]
      simpa using hq
theorem mkI_some {w : World} {a : Option Addr} {n : Nat} {k : Int} (h : CanI w a n) (q : Addr × Value) (hq : q ∈ mkI a k n) : ∃ x, w.cell? q.1 = some x := by
  obtain ⟨h1, x, h2, h3⟩ := mkI_block _ _ _ _ hq
  rw [h2] at hq
  unfold mkI at hq
  obtain ⟨j, hj, rfl⟩ := List.mem_map.1 hq
  obtain ⟨g', off', e', _, hx, _⟩ := h j (List.mem_range.1 hj)
  rw [h2] at e'; injection e' with e'; subst e'
  exact hx
theorem mkOs_some {w : World} {g off : Nat} {sp : Option Nat} {ss : List OSh} {k : Int} (h : CanO w (some ⟨g, off, sp⟩) ss) (q : Addr × Value) (hq : q ∈ mkOs g off ss k) : ∃ x, w.cell? q.1 = some x := by
  obtain ⟨j, hj, k', hq⟩ := mkOs_mem g ss off k q hq
  obtain ⟨g', off', e, hc⟩ := h j hj
  injection e with e; injection e with e1 e2 e3; subst e1 e2
  unfold mkO1 at hq
  rcases List.mem_append.1 hq with hq | hq
  · simp only [List.mem_cons, List.not_mem_nil, or_false] at hq
    rcases hq with rfl | rfl | rfl | rfl | rfl | rfl
    · exact (hc.cell 0 (by omega)).1
    · exact (hc.cell 1 (by omega)).1
    · exact (hc.cell 2 (by omega)).1
    · exact (hc.cell 3 (by omega)).1
    · exact (hc.cell 4 (by omega)).1
    · exact (hc.cell 5 (by omega)).1
  · rcases List.mem_append.1 hq with hq | hq
    · exact mkI_some hc.row q hq
    · simp only [List.mem_singleton] at hq
      subst hq
      exact (hc.cell 7 (by omega)).1

/-- What is stored lies in rows that were there. -/
theorem canI_lt {w : World} {a : Option Addr} {n : Nat} (h : CanI w a n) (hn : 0 < n) (x : Addr) (hx : a = some x) : x.block < w.heap.size := by
  obtain ⟨g, off, h1, h2, _⟩ := h 0 hn
  rw [hx] at h1; injection h1 with h1; rw [h1]; exact h2
theorem markL_lt {w : World} {s : HSh} (h : CanH w s) : ∀ q ∈ markL s, q.1.block < w.heap.size ∧ ∃ x, w.cell? q.1 = some x := by
  intro q hq
  unfold markL at hq
  rcases List.mem_append.1 hq with hq | hq
  · cases ho : s.oa with
    | none => rw [ho] at hq; simp [mkO] at hq
    | some x =>
      obtain ⟨xg, xo, xs⟩ := x
      rw [ho] at hq
      unfold mkO at hq
      simp only at hq
      have HO := h.o
      rw [ho] at HO
      rcases mkOs_where xg s.os xo 1 q hq with ⟨j, i, h1, h2, h3, h4⟩ | ⟨t, h1, h2, y, h3, h4⟩
      · obtain ⟨g, off, e, hc⟩ := HO j h1
        injection e with e
        injection e with e1 e2 e3
        subst e1 e2
        rw [h4]
        exact ⟨hc.lt, (hc.cell i h2).1⟩
      · obtain ⟨j, hj, rfl⟩ := List.mem_iff_getElem.1 h1
        obtain ⟨g, off, e, hc⟩ := HO j hj
        refine ⟨by rw [h4]; exact canI_lt hc.row h2 y h3, ?_⟩
        -- an entry of a row of fields
        exact mkOs_some HO q hq
  · rcases List.mem_append.1 hq with hq | hq
    · obtain ⟨h1, x, h2, h3⟩ := mkW_block _ _ _ _ hq
      obtain ⟨g, off, e, hg, _⟩ := h.wk 0 h1
      rw [h2] at e; injection e with e
      refine ⟨by rw [h3, e]; exact hg, ?_⟩
      rw [h2, e] at hq
      unfold mkW at hq
      obtain ⟨j, hj, hq⟩ := List.mem_flatMap.1 hq
      obtain ⟨g', off', e', _, hx, _, hy, _⟩ := h.wk j (List.mem_range.1 hj)
      rw [h2, e] at e'; injection e' with e'; injection e' with e1 e2; subst e1 e2
      simp only [List.mem_cons, List.not_mem_nil, or_false] at hq
      rcases hq with rfl | rfl
      · exact hx
      · exact hy
    · rcases List.mem_append.1 hq with hq | hq
      · obtain ⟨h1, x, h2, h3⟩ := mkI_block _ _ _ _ hq
        refine ⟨by rw [h3]; exact canI_lt h.b h1 x h2, ?_⟩
        rw [h2] at hq
        unfold mkI at hq
        obtain ⟨j, hj, rfl⟩ := List.mem_map.1 hq
        obtain ⟨g', off', e', _, hx, _⟩ := h.b j (List.mem_range.1 hj)
        rw [h2] at e'; injection e' with e'; subst e'
        exact hx
      · obtain ⟨h1, x, h2, h3⟩ := mkS_block _ _ _ _ hq
        refine ⟨by rw [h3]; exact canI_lt h.st h1 x h2, ?_⟩
        rw [h2] at hq
        unfold mkS at hq
        obtain ⟨j, hj, rfl⟩ := List.mem_map.1 hq
        obtain ⟨g', off', e', _, hx, _⟩ := h.st j (List.mem_range.1 hj)
        rw [h2] at e'; injection e' with e'; subst e'
        exact hx

end Go.Proofs.Ytjhceoejblmihaa
