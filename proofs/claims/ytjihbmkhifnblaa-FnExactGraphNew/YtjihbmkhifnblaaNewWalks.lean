/- What spec.HeapNew and impl.HeapNew make. -/
import Derived.Test.YtjihbmkhifnblaaHeapMark
import Derived.Test.YtjihbmkhifnblaaEmptyWalks
import Derived.Test.YtjihbmkhifnblaaFreeWalks
namespace Go.Proofs.Ytjihbmkhifnblaa
open Go.RowKit
set_option linter.unusedVariables false
set_option maxRecDepth 100000

/-- A new heap. -/
def newD : HeapD := ⟨List.replicate 8 (emptyD 0), List.replicate 8 ⟨false, 0⟩, [], []⟩

theorem made_at (z : Array Value) (n k m : Nat) (h : k < n) (hm : k % z.size = m) : (madeCells z n)[k]? = some (z[m]!) := by
  subst hm
  unfold madeCells
  rw [Array.getElem?_map, Array.getElem?_range, if_pos h]
  rfl
theorem cells_obj0 : (Value.agg #[.bool false, .int .i64 0, .int .i64 0, .int .i64 0, .int .i64 0, .int .i64 0, .slice none 0 0, .bool false]).cells = #[.bool false, .int .i64 0, .int .i64 0, .int .i64 0, .int .i64 0, .int .i64 0, .slice none 0 0, .bool false] := by simp [Value.cells]
theorem cells_weak0 : (Value.agg #[.bool false, .int .i64 0]).cells = #[.bool false, .int .i64 0] := by simp [Value.cells]

/-- The cells of eight objects, of eight handles, as they are made. -/
def zeroO : Array Value := madeCells #[.bool false, .int .i64 0, .int .i64 0, .int .i64 0, .int .i64 0, .int .i64 0, .slice none 0 0, .bool false] 64
def zeroW : Array Value := madeCells #[.bool false, .int .i64 0] 16
theorem make_objs8 (u : World) : (Instr.makeSlice 45 (.int .i64 8) (.int .i64 8)).run Try.prog u = .ok (.slice (some ⟨u.heap.size, 0, none⟩) 8 8) (u.alloc (.cells zeroO 73)) := by
  obtain ⟨i0, hi, hz0, hz1, hz2⟩ := info_parts infoO
  have h := run_make (P := Try.prog) u 45 73 i0 _ Try.underlying45 hi hz0 .i64 .i64 8 8 (by omega) (by omega) (by rw [hz2]; omega) (by omega)
  rw [hz1, cells_obj0, show (Int.toNat 8) * 8 = 64 from rfl] at h
  exact h
theorem objs8_at {X : World} {G : Nat} (h : ∀ k, X.cell? ⟨G, k, none⟩ = zeroO[k]?) (j : Nat) (hj : j < 8) : ObjAt X G (j * 8) (emptyD 0) (.slice none 0 0) := by
  constructor <;> rw [h]
  · exact made_at _ _ _ 0 (by omega) (by show _ % 8 = _; omega)
  · exact made_at _ _ _ 1 (by omega) (by show _ % 8 = _; omega)
  · exact made_at _ _ _ 2 (by omega) (by show _ % 8 = _; omega)
  · exact made_at _ _ _ 3 (by omega) (by show _ % 8 = _; omega)
  · exact made_at _ _ _ 4 (by omega) (by show _ % 8 = _; omega)
  · exact made_at _ _ _ 5 (by omega) (by show _ % 8 = _; omega)
  · exact made_at _ _ _ 6 (by omega) (by show _ % 8 = _; omega)
  · exact made_at _ _ _ 7 (by omega) (by show _ % 8 = _; omega)

theorem make_weaks8 (u : World) : (Instr.makeSlice 23 (.int .i64 8) (.int .i64 8)).run Try.prog u = .ok (.slice (some ⟨u.heap.size, 0, none⟩) 8 8) (u.alloc (.cells zeroW 89)) := by
  obtain ⟨i0, hi, hz0, hz1, hz2⟩ := info_parts infoW
  have h := run_make (P := Try.prog) u 23 89 i0 _ Try.underlying23 hi hz0 .i64 .i64 8 8 (by omega) (by omega) (by rw [hz2]; omega) (by omega)
  rw [hz1, cells_weak0, show (Int.toNat 8) * 2 = 16 from rfl] at h
  exact h
theorem weaks8_at {X : World} {G : Nat} (h : ∀ k, X.cell? ⟨G, k, none⟩ = zeroW[k]?) (hf : ∀ k, X.frozen? ⟨G, k, none⟩ = false) : LaidW X G (List.replicate 8 ⟨false, 0⟩) 8 := by
  intro j hj hj8
  refine ⟨?_, fun k _ => hf _⟩
  rw [List.getElem_replicate]
  constructor <;> rw [h]
  · exact made_at _ _ _ 0 (by omega) (by show _ % 2 = _; omega)
  · exact made_at _ _ _ 1 (by omega) (by show _ % 2 = _; omega)

theorem setObj_block (w : World) (g p : Nat) (o : ObjD) (f : Value) (i : Nat) (h : i ≠ g) : (setObj w g p o f).heap[i]? = w.heap[i]? := by
  unfold setObj
  iterate 8 rw [heap_setCell_other _ _ _ _ (by exact h)]
/-- The first objects of a row in block go, each with a row of its own for its fields, at or behind block B. -/
structure NI (X : World) (go B : Nat) (fs : List OSh) : Prop where
  at_ : ∀ i (h : i < fs.length), ObjAt X go (i * 8) (emptyD 0) (.slice fs[i].f 3 fs[i].c) ∧ fs[i].n = 3 ∧ ownI X B (.slice fs[i].f 3 fs[i].c) [-1, -1, -1]
  pw : fs.Pairwise (fun t u => Ap t.f t.n u.f u.n)
theorem ni_later {X Y : World} {go B : Nat} {fs : List OSh} (h : NI X go B fs) (hb : Below X.heap.size X Y) (hg : go < X.heap.size) : NI Y go B fs :=
  ⟨fun i hi => ⟨(h.at_ i hi).1.keep (fun k => hb.cell (p := ⟨go, k, none⟩) hg), (h.at_ i hi).2.1, ownI_later (h.at_ i hi).2.2 hb⟩, h.pw⟩
theorem ni_set {X : World} {go B : Nat} {fs : List OSh} {a : Option Addr} {c : Nat} (h : NI X go B fs) (hg : go < B) (hc : ∀ k, k < 8 → ∃ u, X.cell? ⟨go, fs.length * 8 + k, none⟩ = some u) (ho : ownI X B (.slice a 3 c) [-1, -1, -1]) (hn : ∀ t ∈ fs, ∀ x y, t.f = some x → a = some y → x.block ≠ y.block) :
    NI (setObj X go (fs.length * 8) (emptyD 0) (.slice a 3 c)) go B (fs ++ [⟨a, 3, c⟩]) := by
  refine ⟨fun i hi => ?_, ?_⟩
  · by_cases he : i < fs.length
    · rw [List.getElem_append_left he]
      obtain ⟨h1, h2, h3⟩ := h.at_ i he
      refine ⟨⟨?_, ?_, ?_, ?_, ?_, ?_, ?_, ?_⟩, h2, setObj_own go _ _ _ h3 hg⟩
      all_goals rw [setObj_other _ _ _ _ _ _ (by omega)]
      · exact h1.c0
      · exact h1.c1
      · exact h1.c2
      · exact h1.c3
      · exact h1.c4
      · exact h1.c5
      · exact h1.c6
      · exact h1.c7
    · obtain rfl : i = fs.length := by simp at hi; omega
      have e : (fs ++ [(⟨a, 3, c⟩ : OSh)])[fs.length] = ⟨a, 3, c⟩ := by simp
      rw [e]
      exact ⟨setObj_at X go _ _ _ hc, rfl, setObj_own go _ _ _ ho hg⟩
  · refine List.pairwise_append.2 ⟨h.pw, by simp, ?_⟩
    intro t ht u hu
    simp only [List.mem_singleton] at hu
    subst hu
    exact fun _ _ x y hx hy => hn t ht x y hx hy
theorem ni_mem {X : World} {go gw B C : Nat} {fs : List OSh} (h : NI X go B fs) (hl : fs.length = 8) (hw : LaidW X gw (List.replicate 8 ⟨false, 0⟩) 8) (hf : ∀ k, k < 64 → X.frozen? ⟨go, k, none⟩ = false) (h1 : go < B) (h2 : gw < B) (h3 : go ≠ gw) (h4 : C ≤ go) (h5 : C ≤ gw) (h6 : go < X.heap.size) (h7 : gw < X.heap.size) :
    MemH X C ⟨some ⟨go, 0, none⟩, 8, fs, some ⟨gw, 0, none⟩, 8, 8, none, 0, 0, none, 0, 0⟩ newD := by
  have fb : ∀ t ∈ fs, ∀ x, t.f = some x → B ≤ x.block := by
    intro t ht x hx
    obtain ⟨i, hi, rfl⟩ := List.mem_iff_getElem.1 ht
    exact (ownI_lt (h.at_ i hi).2.2 x.block (by rw [hx]; rfl)).1
  refine memH_mk (by simp [newD, hl]) (by simp [newD]) rfl rfl ?_ ?_ (fun j hj => by simp [newD] at hj) (fun j hj => by simp [newD] at hj) ⟨?_, ?_, ?_, fun j hj => by simp at hj, fun j hj => by simp at hj, by simp only; omega, ?_, by simp only; omega, by simp only; omega, by simp only; omega⟩ ?_ ?_
  · intro j hj
    have hj8 : j < 8 := by simpa [newD] using hj
    obtain ⟨e1, e2, e3⟩ := h.at_ j (by omega)
    obtain ⟨a, cap, e4, e5⟩ := rdI_own' e3
    simp only [Value.slice.injEq] at e4
    obtain ⟨e4, -, -⟩ := e4
    have e : newD.objs[j]'hj = emptyD 0 := List.getElem_replicate ..
    rw [e]
    refine ⟨go, 0, fs[j].f, fs[j].c, rfl, h6, by rw [Nat.zero_add]; exact e1, by rw [e4]; exact e5⟩
  · intro j hj
    have hj8 : j < 8 := by simpa [newD] using hj
    exact ⟨gw, 0, rfl, h7, by rw [Nat.zero_add]; exact (hw j (by simpa using hj8) hj8).1⟩
  · intro j hj
    simp only at hj
    obtain ⟨e1, e2, e3⟩ := h.at_ j hj
    obtain ⟨a, cap, e4, e5, e6⟩ := ownI_can e3
    simp only [Value.slice.injEq] at e4
    obtain ⟨e4, -, -⟩ := e4
    refine ⟨go, 0, rfl, h6, fun k hk => ⟨by rw [Nat.zero_add]; exact objAt_some e1 k hk, by rw [Nat.zero_add]; exact hf _ (by omega)⟩, by rw [Nat.zero_add, e2]; exact e1.c6, by simp only [e4, e2]; exact e5, ?_⟩
    intro x hx _ e
    have := fb _ (List.getElem_mem hj) x hx
    omega
  · intro x t hx ht _ y hy e
    injection hx with hx; subst hx
    have := fb t ht y hy
    simp only at e; omega
  · intro j hj
    simp only at hj
    obtain ⟨e1, e2⟩ := hw j (by simpa using hj) hj
    exact ⟨gw, 0, rfl, h7, ⟨_, by rw [Nat.zero_add]; exact e1.c0⟩, by rw [Nat.zero_add]; exact e2 0 (by omega), ⟨_, by rw [Nat.zero_add]; exact e1.c1⟩, by rw [Nat.zero_add]; exact e2 1 (by omega)⟩
  · intro t ht
    obtain ⟨i, hi, rfl⟩ := List.mem_iff_getElem.1 ht
    simp only at hi ⊢
    rw [(h.at_ i hi).2.1]; omega
  · have ne : ∀ x y : Addr, (some ⟨go, 0, none⟩ : Option Addr) = some x → (some ⟨gw, 0, none⟩ : Option Addr) = some y → x.block ≠ y.block := by
      intro x y hx hy; injection hx with hx; injection hy with hy; subst hx hy; exact h3
    refine ⟨fun _ _ => ne, fun _ h => by simp at h, fun _ h => by simp at h, fun _ h => by simp at h, fun _ h => by simp at h, fun h => by simp at h, ?_, ?_, fun t _ h => by simp at h, fun t _ h => by simp at h, h.pw⟩
    · intro t ht _ _ x y hx hy e
      injection hx with hx; subst hx
      have := fb t ht y hy
      simp only at e; omega
    · intro t ht _ _ x y hx hy e
      injection hx with hx; subst hx
      have := fb t ht y hy
      simp only at e; omega
  · refine ⟨fun _ x hx => by injection hx with hx; subst hx; exact h4, fun _ x hx => by injection hx with hx; subst hx; exact h5, fun h => by simp at h, fun h => by simp at h, ?_⟩
    intro t ht _ x hx
    have := fb t ht x hx
    omega

/-- As the specification fills it: the first j objects have their rows of fields. -/
structure SI (X : World) (go B j : Nat) : Prop where
  done : ∀ i, i < j → ∃ f, ObjAt X go (i * 8) (emptyD 0) f ∧ ownI X B f [-1, -1, -1]
  rest : ∀ i, j ≤ i → i < 8 → ObjAt X go (i * 8) (emptyD 0) (.slice none 0 0)
theorem si_later {X Y : World} {go B j : Nat} (h : SI X go B j) (hb : Below X.heap.size X Y) (hg : go < X.heap.size) : SI Y go B j :=
  ⟨fun i hi => by obtain ⟨f, h1, h2⟩ := h.done i hi; exact ⟨f, h1.keep (fun k => hb.cell (p := ⟨go, k, none⟩) hg), ownI_later h2 hb⟩,
   fun i hi h8 => (h.rest i hi h8).keep (fun k => hb.cell (p := ⟨go, k, none⟩) hg)⟩
theorem si_far {X : World} {go B j : Nat} (p : Addr) (u : Value) (h : SI X go B j) (hp : p.block < go) (hB : p.block < B) : SI (X.setCell p u) go B j :=
  ⟨fun i hi => by obtain ⟨f, h1, h2⟩ := h.done i hi; exact ⟨f, h1.keep (fun k => keep_far p u (by omega) k), ownI_far p u h2 hB⟩,
   fun i hi h8 => (h.rest i hi h8).keep (fun k => keep_far p u (by omega) k)⟩
theorem si_set {X : World} {go B j : Nat} {f : Value} (h : SI X go B j) (hj : j < 8) (ho : ownI X B f [-1, -1, -1]) (hg : go < B) : SI (X.setCell ⟨go, j * 8 + 6, none⟩ f) go B (j + 1) := by
  have one : ∀ i u, i ≠ j → ObjAt X go (i * 8) (emptyD 0) u → ObjAt (X.setCell ⟨go, j * 8 + 6, none⟩ f) go (i * 8) (emptyD 0) u := by
    intro i u hi h1
    refine ⟨?_, ?_, ?_, ?_, ?_, ?_, ?_, ?_⟩ <;> rw [cell_far _ _ _ _ _ (by omega)]
    · exact h1.c0
    · exact h1.c1
    · exact h1.c2
    · exact h1.c3
    · exact h1.c4
    · exact h1.c5
    · exact h1.c6
    · exact h1.c7
  refine ⟨fun i hi => ?_, fun i hi h8 => one i _ (by omega) (h.rest i (by omega) h8)⟩
  by_cases e : i = j
  · subst e
    have h1 := h.rest i (Nat.le_refl _) hj
    refine ⟨f, ⟨?_, ?_, ?_, ?_, ?_, ?_, ?_, ?_⟩, ownI_far _ _ ho hg⟩
    · rw [cell_far _ _ _ _ _ (by omega)]; exact h1.c0
    · rw [cell_far _ _ _ _ _ (by omega)]; exact h1.c1
    · rw [cell_far _ _ _ _ _ (by omega)]; exact h1.c2
    · rw [cell_far _ _ _ _ _ (by omega)]; exact h1.c3
    · rw [cell_far _ _ _ _ _ (by omega)]; exact h1.c4
    · rw [cell_far _ _ _ _ _ (by omega)]; exact h1.c5
    · exact World.cell?_setCell_same X _ _ h1.c6
    · rw [cell_far _ _ _ _ _ (by omega)]; exact h1.c7
  · obtain ⟨u, h1, h2⟩ := h.done i (by omega)
    exact ⟨u, one i u e h1, ownI_far _ _ h2 hg⟩
theorem si_rd {X : World} {go gw B : Nat} (h : SI X go B 8) (hw : LaidW X gw (List.replicate 8 ⟨false, 0⟩) 8) (h6 : go < X.heap.size) (h7 : gw < X.heap.size) : RdH X (.agg #[.slice (some ⟨go, 0, none⟩) 8 8, .slice (some ⟨gw, 0, none⟩) 8 8, .slice none 0 0, .slice none 0 0]) newD := by
  refine ⟨_, _, _, _, _, _, _, _, by simp [newD]; exact ⟨⟨rfl, rfl⟩, ⟨rfl, rfl⟩, ⟨rfl, rfl⟩, rfl, rfl⟩, ?_, ?_, fun j hj => by simp [newD] at hj, fun j hj => by simp [newD] at hj⟩
  · intro j hj
    have hj8 : j < 8 := by simpa [newD] using hj
    obtain ⟨f, e1, e2⟩ := h.done j hj8
    obtain ⟨a, cap, rfl, e5⟩ := rdI_own' e2
    have e : newD.objs[j]'hj = emptyD 0 := List.getElem_replicate ..
    rw [e]
    exact ⟨go, 0, a, cap, rfl, h6, by rw [Nat.zero_add]; exact e1, e5⟩
  · intro j hj
    have hj8 : j < 8 := by simpa [newD] using hj
    exact ⟨gw, 0, rfl, h7, by rw [Nat.zero_add]; exact (hw j (by simpa using hj8) hj8).1⟩

theorem sNone_calls (w : World) : Calls Try.prog 21 #[] w fun e w' => ∃ a c, e = .returned (.slice a 3 c) ∧ ownI w' w.heap.size (.slice a 3 c) [-1, -1, -1] ∧ Below w.heap.size w w' := by
  have O1 : ownI (w.alloc (.cells #[] 3)) w.heap.size (.slice (some ⟨w.heap.size, 0, none⟩) 0 0) [] := ownI_new _ _ (Nat.le_refl _)
  have B1 : Below w.heap.size w (w.alloc (.cells #[] 3)) := (Below.refl _ _).alloc (Nat.le_refl _) _
  go_enter Try.func21, Try.ntmps21
  go_wp2
  go_loopw [1, 2] (fun v i wr => ∃ (j : Nat), j ≤ 3 ∧ i = .int .i64 j ∧ ownI wr w.heap.size v (List.replicate j (-1)) ∧ Below w.heap.size w wr) (fun _ i _ => 3 - (intOf i).toNat)
  case atStart => exact ⟨0, by omega, rfl, O1, B1⟩
  case round =>
    obtain ⟨j, hj, rfl, hown, hb⟩ := hrel
    by_cases hlt : j < 3
    · go_wp2_with (at_builtin; refine wpList_appendI rfl _ _ rfl w.heap.size _ (List.replicate j (-1)) rfl (ownI_alloc _ hown) ⟨wr.heap.size, 0, none⟩ [-1] 1 1 rfl rfl ?hsrc ?hlen w (hb.alloc hb.size _) (Nat.le_refl _) ?_)
      case hsrc => exact src_int wr (-1)
      case hlen => rw [List.length_singleton, List.length_replicate]; omega
      · intro v4 w4 O4 B4
        have O5 : ownI w4 w.heap.size v4 (List.replicate (j + 1) (-1)) := by rw [List.replicate_succ']; exact O4
        go_wp2
        go_roundw
        case rel => exact ⟨j + 1, by omega, by go_num, O5, B4⟩
        case measure => simp [intOf]; omega
    · obtain rfl : j = 3 := by omega
      obtain ⟨a, c, hv, -⟩ := ownI_read hown
      rw [show (List.replicate 3 (-1 : Int)).length = 3 from rfl] at hv
      subst hv
      go_wp2
      go_ret
      exact ⟨a, c, rfl, hown, hb⟩

/-- Four new blocks. -/
theorem alloc4 (w : World) (x0 x1 x2 x3 : Array Value) (t0 t1 t2 t3 : TypeId) (X : World) (hX : X = ((((w.alloc (.cells x0 t0)).alloc (.cells x1 t1)).alloc (.cells x2 t2)).alloc (.cells x3 t3)).drew) :
    ((∀ k, X.cell? ⟨w.heap.size, k, none⟩ = x0[k]?) ∧ ∀ k, X.frozen? ⟨w.heap.size, k, none⟩ = false) ∧ ((∀ k, X.cell? ⟨w.heap.size + 1, k, none⟩ = x1[k]?) ∧ ∀ k, X.frozen? ⟨w.heap.size + 1, k, none⟩ = false) ∧
    ((∀ k, X.cell? ⟨w.heap.size + 1 + 1, k, none⟩ = x2[k]?) ∧ ∀ k, X.frozen? ⟨w.heap.size + 1 + 1, k, none⟩ = false) ∧ ((∀ k, X.cell? ⟨w.heap.size + 1 + 1 + 1, k, none⟩ = x3[k]?) ∧ ∀ k, X.frozen? ⟨w.heap.size + 1 + 1 + 1, k, none⟩ = false) ∧
    X.heap.size = w.heap.size + 1 + 1 + 1 + 1 ∧ Below w.heap.size w X := by
  obtain ⟨A, hA⟩ : ∃ A, A = w.alloc (.cells x0 t0) := ⟨_, rfl⟩
  obtain ⟨B, hB⟩ : ∃ B, B = A.alloc (.cells x1 t1) := ⟨_, rfl⟩
  obtain ⟨C, hC⟩ : ∃ C, C = B.alloc (.cells x2 t2) := ⟨_, rfl⟩
  have sA : A.heap.size = w.heap.size + 1 := by rw [hA]; simp
  have sB : B.heap.size = w.heap.size + 1 + 1 := by rw [hB]; simp [sA]
  have sC : C.heap.size = w.heap.size + 1 + 1 + 1 := by rw [hC]; simp [sB]
  rw [← hA, ← hB, ← hC] at hX
  have bA : Below A.heap.size A X := by rw [hX, hC, hB]; exact (((Below.refl _ _).alloc (Nat.le_refl _) _).alloc (by simp) _).alloc (by simp; omega) _ |>.drew
  have bB : Below B.heap.size B X := by rw [hX, hC]; exact ((Below.refl _ _).alloc (Nat.le_refl _) _).alloc (by simp) _ |>.drew
  have bC : Below C.heap.size C X := by rw [hX]; exact (Below.refl _ _).alloc (Nat.le_refl _) _ |>.drew
  have bX : Below X.heap.size (C.alloc (.cells x3 t3)) X := by rw [hX]; exact (Below.refl _ _).drew
  have sX : X.heap.size = w.heap.size + 1 + 1 + 1 + 1 := by rw [hX]; simp [sC]
  refine ⟨blk_kept w t0 x0 X (by rw [sA, hA] at bA; exact bA), ?_, ?_, ?_, sX, ?_⟩
  · have h := blk_kept A t1 x1 X (by rw [show A.heap.size + 1 = B.heap.size from by omega, ← hB]; exact bB)
    rw [sA] at h; exact h
  · have h := blk_kept B t2 x2 X (by rw [show B.heap.size + 1 = C.heap.size from by omega, ← hC]; exact bC)
    rw [sB] at h; exact h
  · have h := blk_kept C t3 x3 X (by rw [show C.heap.size + 1 = X.heap.size from by omega]; exact bX)
    rw [sC] at h; exact h
  · have h : Below w.heap.size w A := by rw [hA]; exact (Below.refl _ _).alloc (Nat.le_refl _) _
    exact h.trans (bA.mono (by omega))

/-- What HeapNew begins with: the result's block, a row of objects, one of handles, the variable. -/
structure NewIn (w X : World) (go gw gb : Nat) : Prop where
  r : (∀ k, X.cell? ⟨w.heap.size, k, none⟩ = (#[Value.slice none 0 0, .slice none 0 0, .slice none 0 0, .slice none 0 0] : Array Value)[k]?) ∧ ∀ k, X.frozen? ⟨w.heap.size, k, none⟩ = false
  o : (∀ k, X.cell? ⟨go, k, none⟩ = zeroO[k]?) ∧ ∀ k, X.frozen? ⟨go, k, none⟩ = false
  wk : (∀ k, X.cell? ⟨gw, k, none⟩ = zeroW[k]?) ∧ ∀ k, X.frozen? ⟨gw, k, none⟩ = false
  b : (∀ k, X.cell? ⟨gb, k, none⟩ = (#[Value.slice (some ⟨go, 0, none⟩) 8 8, .slice (some ⟨gw, 0, none⟩) 8 8, .slice none 0 0, .slice none 0 0] : Array Value)[k]?) ∧ ∀ k, X.frozen? ⟨gb, k, none⟩ = false
  sz : w.heap.size < go ∧ w.heap.size < gw ∧ w.heap.size < gb ∧ go ≠ gw ∧ go ≠ gb ∧ gw ≠ gb ∧ go < X.heap.size ∧ gw < X.heap.size ∧ gb < X.heap.size
  bel : Below w.heap.size w X

set_option maxHeartbeats 4000000 in
theorem iHeapNew_calls (w : World) :
    Calls Try.prog 22 #[] w fun e w' => ∃ s : HSh, e = .returned s.v ∧ MemH w' (w.heap.size + 1) s newD ∧ Below w.heap.size w w' := by
  have mo := make_objs8
  have mw := make_weaks8
  go_enter Try.func22, Try.ntmps22
  go_wp2
  go_region
  all_goals clear mo mw
  all_goals
    first
    | (obtain ⟨X, hX⟩ : ∃ X, X = ((((w.alloc (.cells #[.slice none 0 0, .slice none 0 0, .slice none 0 0, .slice none 0 0] 47)).alloc (.cells zeroO 73)).alloc (.cells zeroW 89)).alloc (.cells #[.slice (some ⟨w.heap.size + 1, 0, none⟩) 8 8, .slice (some ⟨w.heap.size + 1 + 1, 0, none⟩) 8 8, .slice none 0 0, .slice none 0 0] 47)).drew := ⟨_, rfl⟩
       rw [← hX]
       obtain ⟨q0, q1, q2, q3, qs, qb⟩ := alloc4 w _ _ _ _ _ _ _ _ X hX
       have hN : NewIn w X (w.heap.size + 1) (w.heap.size + 1 + 1) (w.heap.size + 1 + 1 + 1) := ⟨q0, q1, q2, q3, ⟨by omega, by omega, by omega, by omega, by omega, by omega, by omega, by omega, by omega⟩, qb⟩
       clear q0 q1 q2 q3 qs qb hX
       generalize w.heap.size + 1 + 1 + 1 = gb at hN ⊢
       generalize w.heap.size + 1 + 1 = gw at hN ⊢
       generalize w.heap.size + 1 = go at hN ⊢)
    | (obtain ⟨X, hX⟩ : ∃ X, X = ((((w.alloc (.cells #[.slice none 0 0, .slice none 0 0, .slice none 0 0, .slice none 0 0] 47)).alloc (.cells zeroO 73)).alloc (.cells #[.slice (some ⟨w.heap.size + 1, 0, none⟩) 8 8, .slice (some ⟨w.heap.size + 1 + 1 + 1, 0, none⟩) 8 8, .slice none 0 0, .slice none 0 0] 47)).alloc (.cells zeroW 89)).drew := ⟨_, rfl⟩
       rw [← hX]
       obtain ⟨q0, q1, q2, q3, qs, qb⟩ := alloc4 w _ _ _ _ _ _ _ _ X hX
       have hN : NewIn w X (w.heap.size + 1) (w.heap.size + 1 + 1 + 1) (w.heap.size + 1 + 1) := ⟨q0, q1, q3, q2, ⟨by omega, by omega, by omega, by omega, by omega, by omega, by omega, by omega, by omega⟩, qb⟩
       clear q0 q1 q2 q3 qs qb hX
       generalize w.heap.size + 1 + 1 + 1 = gw at hN ⊢
       generalize w.heap.size + 1 + 1 = gb at hN ⊢
       generalize w.heap.size + 1 = go at hN ⊢)
    | (obtain ⟨X, hX⟩ : ∃ X, X = ((((w.alloc (.cells #[.slice none 0 0, .slice none 0 0, .slice none 0 0, .slice none 0 0] 47)).alloc (.cells zeroW 89)).alloc (.cells zeroO 73)).alloc (.cells #[.slice (some ⟨w.heap.size + 1 + 1, 0, none⟩) 8 8, .slice (some ⟨w.heap.size + 1, 0, none⟩) 8 8, .slice none 0 0, .slice none 0 0] 47)).drew := ⟨_, rfl⟩
       rw [← hX]
       obtain ⟨q0, q1, q2, q3, qs, qb⟩ := alloc4 w _ _ _ _ _ _ _ _ X hX
       have hN : NewIn w X (w.heap.size + 1 + 1) (w.heap.size + 1) (w.heap.size + 1 + 1 + 1) := ⟨q0, q2, q1, q3, ⟨by omega, by omega, by omega, by omega, by omega, by omega, by omega, by omega, by omega⟩, qb⟩
       clear q0 q1 q2 q3 qs qb hX
       generalize w.heap.size + 1 + 1 + 1 = gb at hN ⊢
       generalize w.heap.size + 1 + 1 = go at hN ⊢
       generalize w.heap.size + 1 = gw at hN ⊢)
    | (obtain ⟨X, hX⟩ : ∃ X, X = ((((w.alloc (.cells #[.slice none 0 0, .slice none 0 0, .slice none 0 0, .slice none 0 0] 47)).alloc (.cells #[.slice (some ⟨w.heap.size + 1 + 1, 0, none⟩) 8 8, .slice (some ⟨w.heap.size + 1 + 1 + 1, 0, none⟩) 8 8, .slice none 0 0, .slice none 0 0] 47)).alloc (.cells zeroO 73)).alloc (.cells zeroW 89)).drew := ⟨_, rfl⟩
       rw [← hX]
       obtain ⟨q0, q1, q2, q3, qs, qb⟩ := alloc4 w _ _ _ _ _ _ _ _ X hX
       have hN : NewIn w X (w.heap.size + 1 + 1) (w.heap.size + 1 + 1 + 1) (w.heap.size + 1) := ⟨q0, q2, q3, q1, ⟨by omega, by omega, by omega, by omega, by omega, by omega, by omega, by omega, by omega⟩, qb⟩
       clear q0 q1 q2 q3 qs qb hX
       generalize w.heap.size + 1 + 1 + 1 = gw at hN ⊢
       generalize w.heap.size + 1 + 1 = go at hN ⊢
       generalize w.heap.size + 1 = gb at hN ⊢)
    | (obtain ⟨X, hX⟩ : ∃ X, X = ((((w.alloc (.cells #[.slice none 0 0, .slice none 0 0, .slice none 0 0, .slice none 0 0] 47)).alloc (.cells zeroW 89)).alloc (.cells #[.slice (some ⟨w.heap.size + 1 + 1 + 1, 0, none⟩) 8 8, .slice (some ⟨w.heap.size + 1, 0, none⟩) 8 8, .slice none 0 0, .slice none 0 0] 47)).alloc (.cells zeroO 73)).drew := ⟨_, rfl⟩
       rw [← hX]
       obtain ⟨q0, q1, q2, q3, qs, qb⟩ := alloc4 w _ _ _ _ _ _ _ _ X hX
       have hN : NewIn w X (w.heap.size + 1 + 1 + 1) (w.heap.size + 1) (w.heap.size + 1 + 1) := ⟨q0, q3, q1, q2, ⟨by omega, by omega, by omega, by omega, by omega, by omega, by omega, by omega, by omega⟩, qb⟩
       clear q0 q1 q2 q3 qs qb hX
       generalize w.heap.size + 1 + 1 + 1 = go at hN ⊢
       generalize w.heap.size + 1 + 1 = gb at hN ⊢
       generalize w.heap.size + 1 = gw at hN ⊢)
    | (obtain ⟨X, hX⟩ : ∃ X, X = ((((w.alloc (.cells #[.slice none 0 0, .slice none 0 0, .slice none 0 0, .slice none 0 0] 47)).alloc (.cells #[.slice (some ⟨w.heap.size + 1 + 1 + 1, 0, none⟩) 8 8, .slice (some ⟨w.heap.size + 1 + 1, 0, none⟩) 8 8, .slice none 0 0, .slice none 0 0] 47)).alloc (.cells zeroW 89)).alloc (.cells zeroO 73)).drew := ⟨_, rfl⟩
       rw [← hX]
       obtain ⟨q0, q1, q2, q3, qs, qb⟩ := alloc4 w _ _ _ _ _ _ _ _ X hX
       have hN : NewIn w X (w.heap.size + 1 + 1 + 1) (w.heap.size + 1 + 1) (w.heap.size + 1) := ⟨q0, q3, q2, q1, ⟨by omega, by omega, by omega, by omega, by omega, by omega, by omega, by omega, by omega⟩, qb⟩
       clear q0 q1 q2 q3 qs qb hX
       generalize w.heap.size + 1 + 1 + 1 = go at hN ⊢
       generalize w.heap.size + 1 + 1 = gw at hN ⊢
       generalize w.heap.size + 1 = gb at hN ⊢)
  all_goals
    obtain ⟨x, hx, hxs⟩ := cells_idxs go 0 8
    have HX : Hid (∀ s : Nat, s < 8 → ∀ X : World, (Instr.index 83 (.agg x) (.int .i64 (s : Int))).run Try.prog X = .ok (.pointer (cellA go 0 8 s)) X) := hxs
    have CC : Hid (∀ Y : World, _) := fun Y => cellsOf_calls Y (some ⟨go, 0, none⟩) 8 8 (.slice (some ⟨gw, 0, none⟩) 8 8) (.slice none 0 0) (.slice none 0 0) (by omega) go 0 (fun _ => rfl) ⟨_, _, _, _, _, _, _, _, _, rfl, rfl, rfl⟩
    rw [hx] at CC
    have HN : Hid (NewIn w X go gw gb) := hN
    obtain ⟨z1, z2, z3, z4, z5, z6, z7, z8, z9⟩ := hN.sz
    have b0 := hN.b.1 0
    have b1 := hN.b.1 1
    have b2 := hN.b.1 2
    have b3 := hN.b.1 3
    simp only [List.getElem?_toArray, List.getElem?_cons_zero, List.getElem?_cons_succ] at b0 b1 b2 b3
    clear hN hx hxs
    go_wp2_with fail
    refine (CC.out _).mono ?_
    rintro e w1 ⟨rfl, d1⟩
    have HD : Hid (Below X.heap.size X w1) := d1
    have hs1 := d1.size
    have H0 : Hid (NI w1 go w1.heap.size []) := ⟨fun i hi => by simp at hi, by simp⟩
    have HC0 : Hid (∀ k, k < 64 → (∃ x, w1.cell? ⟨go, k, none⟩ = some x) ∧ w1.frozen? ⟨go, k, none⟩ = false) := fun k hk =>
      ⟨by rw [d1.cell (p := ⟨go, k, none⟩) z7, HN.out.o.1]; exact ⟨_, made_at _ _ _ _ hk rfl⟩, by rw [d1.frozen (p := ⟨go, k, none⟩) z7]; exact HN.out.o.2 k⟩
    have HB : Hid (Below w.heap.size w w1) := HN.out.bel.trans (d1.mono (by have := HN.out.bel.size; omega))
    clear CC d1 b0 b1 b2 b3
    go_wp2
    go_loopw [9] (fun i wr => ∃ (j : Nat) (fs : List OSh), j ≤ 8 ∧ i = .int .i64 j ∧ fs.length = j ∧ Hid (NI wr go w1.heap.size fs) ∧ Hid (∀ k, k < 64 → (∃ x, wr.cell? ⟨go, k, none⟩ = some x) ∧ wr.frozen? ⟨go, k, none⟩ = false) ∧ w1.heap.size ≤ wr.heap.size ∧ Hid (∀ g, g < w1.heap.size → g ≠ go → wr.heap[g]? = w1.heap[g]?) ∧ Hid (Below w.heap.size w wr)) (fun i _ => 8 - (intOf i).toNat)
    case atStart => exact ⟨0, [], by omega, rfl, rfl, H0, HC0, Nat.le_refl _, fun _ _ _ => rfl, HB⟩
    case round =>
      obtain ⟨j, fs, hj, rfl, hfs, HI, HC, hsz, HO, HBl⟩ := hrel
      by_cases hlt : j < 8
      · have hix := HX.out j hlt
        have hA : cellA go 0 8 j = some ⟨go, j * 8, none⟩ := by unfold cellA; rw [if_pos hlt, Nat.zero_add]
        rw [hA] at hix
        clear hA
        go_wp2_with fail
        refine (emptyObj_calls 0 _).mono ?_
        rintro e w2 ⟨f, rfl, O2, b2⟩
        obtain ⟨a, c, rfl, -⟩ := ownI_read O2
        have hs2 := b2.size
        have HI2 : Hid (NI w2 go w1.heap.size fs) := ni_later HI.out b2 (by omega)
        have HX2 : Hid (∀ k, k < 64 → (∃ x, w2.cell? ⟨go, k, none⟩ = some x) ∧ w2.frozen? ⟨go, k, none⟩ = false) := fun k hk => by
          obtain ⟨⟨x, hx⟩, hf⟩ := HC.out k hk
          exact ⟨⟨x, (b2.cell (p := ⟨go, k, none⟩) (by show go < _; omega)).trans hx⟩, (b2.frozen (p := ⟨go, k, none⟩) (by show go < _; omega)).trans hf⟩
        obtain ⟨⟨x0, e0⟩, f0⟩ := HX2.out (j * 8) (by omega)
        obtain ⟨⟨x1, e1⟩, f1⟩ := HX2.out (j * 8 + 1) (by omega)
        obtain ⟨⟨x2, e2⟩, f2⟩ := HX2.out (j * 8 + 2) (by omega)
        obtain ⟨⟨x3, e3⟩, f3⟩ := HX2.out (j * 8 + 3) (by omega)
        obtain ⟨⟨x4, e4⟩, f4⟩ := HX2.out (j * 8 + 4) (by omega)
        obtain ⟨⟨x5, e5⟩, f5⟩ := HX2.out (j * 8 + 5) (by omega)
        obtain ⟨⟨x6, e6⟩, f6⟩ := HX2.out (j * 8 + 6) (by omega)
        obtain ⟨⟨x7, e7⟩, f7⟩ := HX2.out (j * 8 + 7) (by omega)
        have S1 : Hid (NI (setObj w2 go (j * 8) (emptyD 0) (.slice a 3 c)) go w1.heap.size (fs ++ [⟨a, 3, c⟩])) := by
          have h := ni_set HI2.out (by omega) (fun k hk => (HX2.out (fs.length * 8 + k) (by omega)).1) (ownI_mono O2 hsz) (fun t ht x y hx hy e => by
            obtain ⟨i, hi, rfl⟩ := List.mem_iff_getElem.1 ht
            have h1 := (ownI_lt (HI.out.at_ i hi).2.2 x.block (by rw [hx]; rfl)).2
            have h2 := (ownI_lt O2 y.block (by rw [hy]; rfl)).1
            omega)
          rw [hfs] at h
          exact h
        have S2 : Hid (∀ k, k < 64 → (∃ x, (setObj w2 go (j * 8) (emptyD 0) (.slice a 3 c)).cell? ⟨go, k, none⟩ = some x) ∧ (setObj w2 go (j * 8) (emptyD 0) (.slice a 3 c)).frozen? ⟨go, k, none⟩ = false) :=
          fun k hk => ⟨some_setObj _ _ _ _ _ _ (HX2.out k hk).1, by rw [setObj_frozen]; exact (HX2.out k hk).2⟩
        have S3 : Hid (w1.heap.size ≤ (setObj w2 go (j * 8) (emptyD 0) (.slice a 3 c)).heap.size) := by show _ ≤ _; rw [setObj_size]; omega
        have S4 : Hid (∀ g, g < w1.heap.size → g ≠ go → (setObj w2 go (j * 8) (emptyD 0) (.slice a 3 c)).heap[g]? = w1.heap[g]?) := fun g h1 h2 => by
          rw [← HO.out g h1 h2, ← b2.block g (by omega)]
          exact setObj_block _ _ _ _ _ g h2
        have S5 : Hid (Below w.heap.size w (setObj w2 go (j * 8) (emptyD 0) (.slice a 3 c))) := setObj_below _ _ _ _ (HBl.out.trans (b2.mono HBl.out.size)) (by omega)
        clear O2 b2 HI2 HX2 HI HC HO HBl
        unfold objV
        go_wp2
        go_roundw
        case rel => exact ⟨j + 1, fs ++ [OSh.mk a 3 c], by omega, by go_num, by simp [hfs], S1, S2, S3.out, S4, S5⟩
        case measure => simp [intOf]; omega
      · obtain rfl : j = 8 := by omega
        have hK : ∀ g, g < X.heap.size → g ≠ go → ∀ k, wr.cell? ⟨g, k, none⟩ = X.cell? ⟨g, k, none⟩ ∧ wr.frozen? ⟨g, k, none⟩ = X.frozen? ⟨g, k, none⟩ := by
          intro g hg hgo k
          have h := HO.out g (by omega) hgo
          exact ⟨(World.cell?_of_block (a := ⟨g, k, none⟩) h).trans (HD.out.cell (p := ⟨g, k, none⟩) hg), (World.frozen?_of_block (a := ⟨g, k, none⟩) h).trans (HD.out.frozen (p := ⟨g, k, none⟩) hg)⟩
        have b0 := (hK gb z9 (by omega) 0).1.trans (HN.out.b.1 0)
        have b1 := (hK gb z9 (by omega) 1).1.trans (HN.out.b.1 1)
        have b2 := (hK gb z9 (by omega) 2).1.trans (HN.out.b.1 2)
        have b3 := (hK gb z9 (by omega) 3).1.trans (HN.out.b.1 3)
        have r0 := (hK w.heap.size (by omega) (by omega) 0).1.trans (HN.out.r.1 0)
        have r1 := (hK w.heap.size (by omega) (by omega) 1).1.trans (HN.out.r.1 1)
        have r2 := (hK w.heap.size (by omega) (by omega) 2).1.trans (HN.out.r.1 2)
        have r3 := (hK w.heap.size (by omega) (by omega) 3).1.trans (HN.out.r.1 3)
        have g0 := (hK w.heap.size (by omega) (by omega) 0).2.trans (HN.out.r.2 0)
        have g1 := (hK w.heap.size (by omega) (by omega) 1).2.trans (HN.out.r.2 1)
        have g2 := (hK w.heap.size (by omega) (by omega) 2).2.trans (HN.out.r.2 2)
        have g3 := (hK w.heap.size (by omega) (by omega) 3).2.trans (HN.out.r.2 3)
        simp only [List.getElem?_toArray, List.getElem?_cons_zero, List.getElem?_cons_succ] at b0 b1 b2 b3 r0 r1 r2 r3
        have HM : Hid (MemH wr (w.heap.size + 1) ⟨some ⟨go, 0, none⟩, 8, fs, some ⟨gw, 0, none⟩, 8, 8, none, 0, 0, none, 0, 0⟩ newD) :=
          ni_mem HI.out hfs (weaks8_at (fun k => (hK gw z8 (by omega) k).1.trans (HN.out.wk.1 k)) (fun k => (hK gw z8 (by omega) k).2.trans (HN.out.wk.2 k))) (fun k hk => (HC.out k hk).2) (by omega) (by omega) (by omega) (by omega) (by omega) (by omega) (by omega)
        clear hK HI HC HO HN HD
        go_wp2
        refine bodyPost_ret (v := .agg #[.slice (some ⟨go, 0, none⟩) 8 8, .slice (some ⟨gw, 0, none⟩) 8 8, .slice none 0 0, .slice none 0 0]) (by simp [results, Try.results22, go_sem, *]) rfl ⟨⟨some ⟨go, 0, none⟩, 8, fs, some ⟨gw, 0, none⟩, 8, 8, none, 0, 0, none, 0, 0⟩, by rw [HSh.v, hfs], ?_, ?_⟩
        · refine memH_keepB HM.out ?_
          refine (((keepB_set _ _ ⟨w.heap.size, 0, none⟩ _ (by simp only; omega)).trans (keepB_set _ _ ⟨w.heap.size, 1, none⟩ _ (by simp only; omega))).trans (keepB_set _ _ ⟨w.heap.size, 2, none⟩ _ (by simp only; omega))).trans (keepB_set _ _ ⟨w.heap.size, 3, none⟩ _ (by simp only; omega))
        · iterate 4 refine Below.setCell ?_ (by simp only; omega) _
          exact HBl.out

end Go.Proofs.Ytjihbmkhifnblaa
