/- Rows as lists of cells: what is read of a row, what a row of one's own holds. -/
import Derived.Test.YtjhceoejblmihaaHMWalks
import Derived.Test.YtjhceoejblmihaaFreshRow
namespace Go.Proofs.Ytjhceoejblmihaa
open Go.RowKit
set_option linter.unusedVariables false
set_option maxRecDepth 100000

theorem flat_len {α : Type} (f : α → List Value) (sz : Nat) (hf : ∀ x, (f x).length = sz) : ∀ l : List α, (l.flatMap f).length = l.length * sz := by
  intro l
  induction l with
  | nil => simp
  | cons x r ih => rw [List.flatMap_cons, List.length_append, ih, hf, List.length_cons, Nat.add_mul]; omega
theorem flat_at {α : Type} (f : α → List Value) (sz : Nat) (hf : ∀ x, (f x).length = sz) : ∀ (l : List α) (j k : Nat) (hj : j < l.length) (hk : k < sz), (l.flatMap f)[j * sz + k]? = (f l[j])[k]? := by
  intro l
  induction l with
  | nil => intro j k hj; simp at hj
  | cons x r ih =>
    intro j k hj hk
    rw [List.flatMap_cons]
    cases j with
    | zero => rw [List.getElem?_append_left (by rw [hf]; omega)]; simp
    | succ j =>
      rw [List.getElem?_append_right (by rw [hf, Nat.add_mul]; omega), hf, show (j + 1) * sz + k - sz = j * sz + k from by rw [Nat.add_mul]; omega, ih j k (by simpa using hj) hk]
      simp
/-- Each cell of such a list is one of an element. -/
theorem flat_of {α : Type} (f : α → List Value) (sz : Nat) (hs : 0 < sz) (hf : ∀ x, (f x).length = sz) (l : List α) (i : Nat) (u : Value) (h : (l.flatMap f)[i]? = some u) : ∃ j k, ∃ hj : j < l.length, k < sz ∧ i = j * sz + k ∧ (f l[j])[k]? = some u := by
  have hi : i < l.length * sz := by rw [← flat_len f sz hf]; exact (List.getElem?_eq_some_iff.1 h).1
  have hj : i / sz < l.length := (Nat.div_lt_iff_lt_mul hs).2 hi
  have hk : i % sz < sz := Nat.mod_lt _ hs
  have e : i = i / sz * sz + i % sz := by rw [Nat.mul_comm]; exact (Nat.div_add_mod i sz).symm
  refine ⟨i / sz, i % sz, hj, hk, e, ?_⟩
  rw [← flat_at f sz hf l _ _ hj hk, ← e]; exact h

def cellsW (d : WeakD) : List Value := [.bool d.used, .int .i64 d.target]
def cellsOb (p : ObjD × OSh) : List Value := [.bool p.1.live, .int .i64 p.1.gen, .int .i64 p.1.site, .int .i64 p.1.holds, .int .i64 p.1.roots, .int .i64 p.1.count, .slice p.2.f p.2.n p.2.c, .bool p.1.purple]
theorem srcI {w : World} {a : Option Addr} {zs : List Int} (h : RdI w a zs) : SrcC w a zs.length 1 (zs.map intV) := by
  refine ⟨by simp, fun j u hj => ?_, fun u hu => by obtain ⟨z, _, rfl⟩ := List.mem_map.1 hu; rfl⟩
  rw [List.getElem?_map] at hj
  obtain ⟨z, hz, rfl⟩ := Option.map_eq_some_iff.1 hj
  obtain ⟨hl, rfl⟩ := List.getElem?_eq_some_iff.1 hz
  obtain ⟨g, off, rfl, _, h2⟩ := h j hl
  exact ⟨_, rfl, by rw [Addr.add_lit]; exact h2⟩
theorem srcS {w : World} {a : Option Addr} {zs : List (List UInt8)} (h : RdS w a zs) : SrcC w a zs.length 1 (zs.map strV) := by
  refine ⟨by simp, fun j u hj => ?_, fun u hu => by obtain ⟨z, _, rfl⟩ := List.mem_map.1 hu; rfl⟩
  rw [List.getElem?_map] at hj
  obtain ⟨z, hz, rfl⟩ := Option.map_eq_some_iff.1 hj
  obtain ⟨hl, rfl⟩ := List.getElem?_eq_some_iff.1 hz
  obtain ⟨g, off, rfl, _, h2⟩ := h j hl
  exact ⟨_, rfl, by rw [Addr.add_lit]; exact h2⟩
theorem srcW {w : World} {a : Option Addr} {ds : List WeakD} (h : RdW w a ds) : SrcC w a ds.length 2 (ds.flatMap cellsW) := by
  refine ⟨flat_len _ 2 (fun _ => rfl) ds, fun i u hi => ?_, fun u hu => ?_⟩
  · obtain ⟨j, k, hj, hk, rfl, hu⟩ := flat_of cellsW 2 (by omega) (fun _ => rfl) ds i u hi
    obtain ⟨g, off, rfl, _, h2⟩ := h j hj
    refine ⟨_, rfl, ?_⟩
    rw [Addr.add_lit, ← Nat.add_assoc]
    match k, hk with
    | 0, _ => rw [← hu]; exact h2.c0
    | 1, _ => rw [← hu]; exact h2.c1
  · obtain ⟨d, _, hu⟩ := List.mem_flatMap.1 hu
    simp only [cellsW, List.mem_cons, List.not_mem_nil, or_false] at hu
    rcases hu with rfl | rfl <;> rfl
theorem srcO {w : World} {a : Option Addr} {os : List ObjD} (h : RdO w a os) :
    ∃ fs : List OSh, fs.length = os.length ∧ (∀ j (h1 : j < os.length) (h2 : j < fs.length), fs[j].n = os[j].field.length ∧ RdI w fs[j].f os[j].field) ∧ SrcC w a os.length 8 ((os.zip fs).flatMap cellsOb) := by
  have key : ∀ i : Fin os.length, ∃ s : OSh, s.n = os[i].field.length ∧ RdI w s.f os[i].field ∧ ∃ g off, a = some ⟨g, off, none⟩ ∧ ObjAt w g (off + i.1 * 8) os[i] (.slice s.f s.n s.c) := by
    intro i
    obtain ⟨g, off, f, fc, h1, _, h3, h4⟩ := h i.1 i.2
    exact ⟨⟨f, _, fc⟩, rfl, h4, g, off, h1, h3⟩
  refine ⟨List.ofFn (fun i => Classical.choose (key i)), by simp, ?_, ?_⟩
  · intro j h1 h2
    rw [List.getElem_ofFn]
    have := Classical.choose_spec (key ⟨j, h1⟩)
    exact ⟨this.1, this.2.1⟩
  · have hl : (os.zip (List.ofFn (fun i => Classical.choose (key i)))).length = os.length := by simp
    refine ⟨by rw [flat_len cellsOb 8 (fun _ => rfl), hl], fun i u hi => ?_, fun u hu => ?_⟩
    · obtain ⟨j, k, hj, hk, rfl, hu⟩ := flat_of cellsOb 8 (by omega) (fun _ => rfl) _ i u hi
      have hj2 : j < os.length := by rw [hl] at hj; exact hj
      rw [List.getElem_zip, List.getElem_ofFn] at hu
      obtain ⟨g, off, h1, h2⟩ := (Classical.choose_spec (key ⟨j, hj2⟩)).2.2
      refine ⟨_, h1, ?_⟩
      rw [Addr.add_lit, ← Nat.add_assoc]
      match k, hk with
      | 0, _ => rw [← hu]; exact h2.c0
      | 1, _ => rw [← hu]; exact h2.c1
      | 2, _ => rw [← hu]; exact h2.c2
      | 3, _ => rw [← hu]; exact h2.c3
      | 4, _ => rw [← hu]; exact h2.c4
      | 5, _ => rw [← hu]; exact h2.c5
      | 6, _ => rw [← hu]; exact h2.c6
      | 7, _ => rw [← hu]; exact h2.c7
    · obtain ⟨p, _, hu⟩ := List.mem_flatMap.1 hu
      simp only [cellsOb, List.mem_cons, List.not_mem_nil, or_false] at hu
      rcases hu with rfl | rfl | rfl | rfl | rfl | rfl | rfl | rfl <;> rfl

/-- A row of one's own, laid open. -/
theorem row_form {w : World} {B n size : Nat} {e : TypeId} {v : Value} {xs : List Value} (h : w.ownsRow B e size v n xs) : ∃ a c, v = .slice a n c ∧ (∀ x, a = some x → ∃ g, x = ⟨g, 0, none⟩ ∧ B ≤ g ∧ g < w.heap.size ∧ ∃ cur, w.heap[g]? = some (.cells cur e (0, 0))) ∧ (0 < n → ∃ g, a = some ⟨g, 0, none⟩) := by
  rcases h with ⟨h1, ⟨h2, h3⟩ | ⟨g, cap, cur, h2, h3, h4, h5, h6, h7⟩⟩
  · exact ⟨none, 0, by rw [h2, h3], (fun x hx => by cases hx), fun h => by omega⟩
  · exact ⟨_, cap, h2, (fun x hx => by injection hx with hx; exact ⟨g, hx.symm, h3, (Array.getElem?_eq_some_iff.1 h4).1, cur, h4⟩), fun _ => ⟨g, rfl⟩⟩
/-- Rows of two kinds lie in two blocks. -/
theorem row_dif {w : World} {B C n m sz sz2 : Nat} {e e2 : TypeId} {a b : Option Addr} {c d : Nat} {xs ys : List Value} (h1 : w.ownsRow B e sz (.slice a n c) n xs) (h2 : w.ownsRow C e2 sz2 (.slice b m d) m ys) (hne : e ≠ e2) : Dif a b := by
  intro x y hx hy he
  obtain ⟨a1, c1, e1, f1, _⟩ := row_form h1
  obtain ⟨a2, c2, e3, f2, _⟩ := row_form h2
  simp only [Value.slice.injEq] at e1 e3
  obtain ⟨g, rfl, _, _, cur, h3⟩ := f1 x (by rw [← e1.1]; exact hx)
  obtain ⟨g2, rfl, _, _, cur2, h4⟩ := f2 y (by rw [← e3.1]; exact hy)
  simp only at he
  subst he
  rw [h3] at h4
  injection h4 with h4
  injection h4 with _ h5 _
  exact hne h5
theorem row_block {w : World} {B n size : Nat} {e : TypeId} {a : Option Addr} {c : Nat} {xs : List Value} (h : w.ownsRow B e size (.slice a n c) n xs) : ∀ x, a = some x → B ≤ x.block ∧ x.block < w.heap.size := fun x hx => World.ownsRow.lt h _ (own_block hx)
theorem row_cells {w : World} {B n size : Nat} {e : TypeId} {a : Option Addr} {c : Nat} {xs : List Value} (h : w.ownsRow B e size (.slice a n c) n xs) (i : Nat) (hi : i < n * size) : ∃ g, a = some ⟨g, 0, none⟩ ∧ w.cell? ⟨g, i, none⟩ = xs[i]? ∧ w.frozen? ⟨g, i, none⟩ = false := by
  have hn : 0 < n := by rcases Nat.eq_zero_or_pos n with e | e; · rw [e] at hi; simp at hi
                        · exact e
  obtain ⟨a1, c1, e1, _, f1⟩ := row_form h
  simp only [Value.slice.injEq] at e1
  obtain ⟨g, hg⟩ := f1 hn
  have ha : a = some ⟨g, 0, none⟩ := by rw [e1.1]; exact hg
  rw [ha] at h
  exact ⟨g, ha, World.ownsRow.cellAt h i hi, World.ownsRow.frozenAt h i⟩
theorem row_weaks {w : World} {B : Nat} {a : Option Addr} {c : Nat} {ds : List WeakD} (h : w.ownsRow B 98 2 (.slice a ds.length c) ds.length (ds.flatMap cellsW)) : ∀ j (h : j < ds.length), ∃ g, a = some ⟨g, 0, none⟩ ∧ WeakAt w g (j * 2) ds[j] ∧ ∀ k, k < 2 → w.frozen? ⟨g, j * 2 + k, none⟩ = false := by
  intro j hj
  have at_ : ∀ k, k < 2 → ∃ g, a = some ⟨g, 0, none⟩ ∧ w.cell? ⟨g, j * 2 + k, none⟩ = (cellsW ds[j])[k]? ∧ w.frozen? ⟨g, j * 2 + k, none⟩ = false := by
    intro k hk
    obtain ⟨g, h1, h2, h3⟩ := row_cells h (j * 2 + k) (by omega)
    exact ⟨g, h1, by rw [h2]; exact flat_at cellsW 2 (fun _ => rfl) ds j k hj hk, h3⟩
  obtain ⟨g, h1, h2, h3⟩ := at_ 0 (by omega)
  have at2 : ∀ k, k < 2 → w.cell? ⟨g, j * 2 + k, none⟩ = (cellsW ds[j])[k]? ∧ w.frozen? ⟨g, j * 2 + k, none⟩ = false := by
    intro k hk
    obtain ⟨g2, e1, e2, e3⟩ := at_ k hk
    rw [h1] at e1; injection e1 with e1; injection e1 with e1 _ _; subst e1
    exact ⟨e2, e3⟩
  exact ⟨g, h1, ⟨(at2 0 (by omega)).1, (at2 1 (by omega)).1⟩, fun k hk => (at2 k hk).2⟩
theorem row_objs {w : World} {B : Nat} {a : Option Addr} {c : Nat} {os : List ObjD} {fs : List OSh} (hl : fs.length = os.length) (h : w.ownsRow B 61 8 (.slice a os.length c) os.length ((os.zip fs).flatMap cellsOb)) :
    ∀ j (h : j < os.length) (h2 : j < fs.length), ∃ g, a = some ⟨g, 0, none⟩ ∧ ObjAt w g (j * 8) os[j] (.slice fs[j].f fs[j].n fs[j].c) ∧ ∀ k, k < 8 → w.frozen? ⟨g, j * 8 + k, none⟩ = false := by
  intro j hj hj2
  have hz : j < (os.zip fs).length := by simp [hl, hj]
  have hzj : (os.zip fs)[j] = (os[j], fs[j]) := by simp
  have at_ : ∀ k, k < 8 → ∃ g, a = some ⟨g, 0, none⟩ ∧ w.cell? ⟨g, j * 8 + k, none⟩ = (cellsOb (os[j], fs[j]))[k]? ∧ w.frozen? ⟨g, j * 8 + k, none⟩ = false := by
    intro k hk
    obtain ⟨g, h1, h2, h3⟩ := row_cells h (j * 8 + k) (by omega)
    exact ⟨g, h1, by rw [h2, flat_at cellsOb 8 (fun _ => rfl) _ j k hz hk, hzj], h3⟩
  obtain ⟨g, h1, h2, h3⟩ := at_ 0 (by omega)
  have at2 : ∀ k, k < 8 → w.cell? ⟨g, j * 8 + k, none⟩ = (cellsOb (os[j], fs[j]))[k]? ∧ w.frozen? ⟨g, j * 8 + k, none⟩ = false := by
    intro k hk
    obtain ⟨g2, e1, e2, e3⟩ := at_ k hk
    rw [h1] at e1; injection e1 with e1; injection e1 with e1 _ _; subst e1
    exact ⟨e2, e3⟩
  exact ⟨g, h1, ⟨(at2 0 (by omega)).1, (at2 1 (by omega)).1, (at2 2 (by omega)).1, (at2 3 (by omega)).1, (at2 4 (by omega)).1, (at2 5 (by omega)).1, (at2 6 (by omega)).1, (at2 7 (by omega)).1⟩, fun k hk => (at2 k hk).2⟩

end Go.Proofs.Ytjhceoejblmihaa
