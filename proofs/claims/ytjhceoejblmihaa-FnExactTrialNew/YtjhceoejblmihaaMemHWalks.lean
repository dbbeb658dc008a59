/- A heap in memory of its own: what it holds, that it may be written, and that no two of its rows lie in one block. -/
import Derived.Test.YtjhceoejblmihaaCanHWalks
namespace Go.Proofs.Ytjhceoejblmihaa
open Go.RowKit
set_option linter.unusedVariables false

/-- Two rows lie in two blocks, unless one is empty. -/
def Ap (a : Option Addr) (n : Nat) (b : Option Addr) (m : Nat) : Prop := 0 < n → 0 < m → ∀ x y, a = some x → b = some y → x.block ≠ y.block
theorem Ap.symm {a b : Option Addr} {n m : Nat} (h : Ap a n b m) : Ap b m a n := fun h1 h2 x y hx hy e => h h2 h1 y x hy hx e.symm
structure SepH (s : HSh) : Prop where
  ow : Ap s.oa s.os.length s.wa s.wn
  ob : Ap s.oa s.os.length s.ba s.bn
  os : Ap s.oa s.os.length s.sa s.sn
  wb : Ap s.wa s.wn s.ba s.bn
  ws : Ap s.wa s.wn s.sa s.sn
  bs : Ap s.ba s.bn s.sa s.sn
  ofl : ∀ t ∈ s.os, Ap s.oa s.os.length t.f t.n
  wf : ∀ t ∈ s.os, Ap s.wa s.wn t.f t.n
  bf : ∀ t ∈ s.os, Ap s.ba s.bn t.f t.n
  sf : ∀ t ∈ s.os, Ap s.sa s.sn t.f t.n
  ff : s.os.Pairwise (fun t u => Ap t.f t.n u.f u.n)

theorem mkO1_nodup (g p : Nat) (s : OSh) (k : Int) (h : 0 < s.n → ∀ x, s.f = some x → x.block ≠ g) : ((mkO1 g p s k).map (·.1)).Nodup := by
  have hI := mkI_nodup s.f (k + 1 + 1 + 1 + 1 + 1 + 1) s.n
  have hb : ∀ a ∈ (mkI s.f (k + 1 + 1 + 1 + 1 + 1 + 1) s.n).map (·.1), a.block ≠ g := by
    intro a ha
    obtain ⟨q, hq, rfl⟩ := List.mem_map.1 ha
    obtain ⟨h1, x, h2, h3⟩ := mkI_block _ _ _ _ hq
    rw [h3]; exact h h1 x h2
  unfold mkO1
  rw [List.map_append, List.map_append]
  generalize (mkI s.f (k + 1 + 1 + 1 + 1 + 1 + 1) s.n).map (·.1) = M at *
  refine List.nodup_append.2 ⟨?_, List.nodup_append.2 ⟨hI, ?_, ?_⟩, ?_⟩
  · simp
  · simp
  · intro a ha b hbm e
    simp only [List.map_cons, List.map_nil, List.mem_singleton] at hbm
    have := hb a ha
    rw [e, hbm] at this
    exact this rfl
  · intro a ha b hbm e
    simp only [List.map_cons, List.map_nil, List.mem_cons, List.not_mem_nil, or_false] at ha
    rcases List.mem_append.1 hbm with hm | hm
    · have := hb b hm
      rw [← e] at this
      rcases ha with rfl | rfl | rfl | rfl | rfl | rfl <;> exact this rfl
    · simp only [List.map_cons, List.map_nil, List.mem_singleton] at hm
      subst hm
      rcases ha with rfl | rfl | rfl | rfl | rfl | rfl <;> simp at e
theorem mkOs_nodup (g : Nat) (ss : List OSh) (h : ∀ t ∈ ss, 0 < t.n → ∀ x, t.f = some x → x.block ≠ g) (hp : ss.Pairwise (fun t u => Ap t.f t.n u.f u.n)) : ∀ p k, ((mkOs g p ss k).map (·.1)).Nodup := by
  induction ss with
  | nil => intro p k; simp [mkOs]
  | cons s r ih =>
    intro p k
    rw [List.pairwise_cons] at hp
    unfold mkOs
    rw [List.map_append]
    refine List.nodup_append.2 ⟨mkO1_nodup g p s k (h s (by simp)), ih (fun t ht => h t (by simp [ht])) hp.2 _ _, ?_⟩
    intro a ha b hb e
    obtain ⟨q, hq, rfl⟩ := List.mem_map.1 ha
    obtain ⟨q2, hq2, rfl⟩ := List.mem_map.1 hb
    rcases mkO1_where g p s k q hq with ⟨i, h1, _, h3⟩ | ⟨h1, x, h2, h3⟩
    · rcases mkOs_where g r _ _ q2 hq2 with ⟨j, i2, _, _, _, h6⟩ | ⟨t, ht, h4, y, h5, h6⟩
      · rw [h3, h6] at e
        simp at e <;> omega
      · have := h t (by simp [ht]) h4 y h5
        rw [← h6, ← e, h3] at this
        exact this rfl
    · rcases mkOs_where g r _ _ q2 hq2 with ⟨j, i2, _, _, _, h6⟩ | ⟨t, ht, h4, y, h5, h6⟩
      · have := h s (by simp) h1 x h2
        rw [← h3, e, h6] at this
        exact this rfl
      · exact hp.1 t ht h1 h4 x y h2 h5 (by rw [← h3, ← h6, e])
/-- Where a store into the objects' row lies. -/
theorem mkO_where (s : HSh) (k : Int) (q : Addr × Value) (h : q ∈ mkO s.oa s.os k) : ∃ x, s.oa = some x ∧ ((∃ j i, j < s.os.length ∧ i < 8 ∧ i ≠ 6 ∧ q.1 = ⟨x.block, x.off + j * 8 + i, none⟩) ∨ ∃ t ∈ s.os, 0 < t.n ∧ ∃ y, t.f = some y ∧ q.1.block = y.block) := by
  unfold mkO at h
  cases ho : s.oa with
  | none => rw [ho] at h; simp at h
  | some x =>
    rw [ho] at h
    exact ⟨x, rfl, mkOs_where _ _ _ _ q h⟩
theorem sep_nodup {s : HSh} (h : SepH s) : ((markL s).map (·.1)).Nodup := by
  unfold markL
  rw [List.map_append, List.map_append, List.map_append]
  have hO : ((mkO s.oa s.os 1).map (·.1)).Nodup := by
    unfold mkO
    cases ho : s.oa with
    | none => simp
    | some x =>
      refine mkOs_nodup _ _ (fun t ht h1 y hy => ?_) h.ff _ _
      have hl : 0 < s.os.length := List.length_pos_of_mem ht
      exact fun e => h.ofl t ht hl h1 x y ho hy e.symm
  have key : ∀ (A M : Sts), (∀ q ∈ A, ∀ q2 ∈ M, q.1 ≠ q2.1) → ∀ a ∈ A.map (·.1), ∀ b ∈ M.map (·.1), a ≠ b := by
    intro A M hh a ha b hb
    obtain ⟨q, hq, rfl⟩ := List.mem_map.1 ha
    obtain ⟨q2, hq2, rfl⟩ := List.mem_map.1 hb
    exact hh q hq q2 hq2
  have kO : ∀ (M : Sts) (m : Option Addr) (n : Nat), (∀ q ∈ M, 0 < n ∧ ∃ x, m = some x ∧ q.1.block = x.block) → Ap s.oa s.os.length m n → (∀ t ∈ s.os, Ap m n t.f t.n) → ∀ q ∈ mkO s.oa s.os 1, ∀ q2 ∈ M, q.1 ≠ q2.1 := by
    intro M m n hM h1 h2 q hq q2 hq2 e
    obtain ⟨hn, z, hz, hzb⟩ := hM q2 hq2
    obtain ⟨x, hx, ⟨j, i, hj, _, _, h3⟩ | ⟨t, ht, h4, y, h5, h6⟩⟩ := mkO_where s 1 q hq
    · refine h1 (by omega) hn x z hx hz ?_
      rw [← hzb, ← e, h3]
    · exact h2 t ht hn h4 z y hz h5 (by rw [← hzb, ← h6, e])
  have kR : ∀ (A M : Sts) (a m : Option Addr) (na nm : Nat), (∀ q ∈ A, 0 < na ∧ ∃ x, a = some x ∧ q.1.block = x.block) → (∀ q ∈ M, 0 < nm ∧ ∃ x, m = some x ∧ q.1.block = x.block) → Ap a na m nm → ∀ q ∈ A, ∀ q2 ∈ M, q.1 ≠ q2.1 := by
    intro A M a m na nm hA hM hap q hq q2 hq2 e
    obtain ⟨h1, x, hx, hxb⟩ := hA q hq
    obtain ⟨h2, y, hy, hyb⟩ := hM q2 hq2
    exact hap h1 h2 x y hx hy (by rw [← hxb, ← hyb, e])
  have bW : ∀ q ∈ mkW s.wa s.k1 s.wn, 0 < s.wn ∧ ∃ x, s.wa = some x ∧ q.1.block = x.block := fun q hq => mkW_block _ _ _ _ hq
  have bI : ∀ q ∈ mkI s.ba s.k2 s.bn, 0 < s.bn ∧ ∃ x, s.ba = some x ∧ q.1.block = x.block := fun q hq => mkI_block _ _ _ _ hq
  have bS : ∀ q ∈ mkS s.sa s.k3 s.sn, 0 < s.sn ∧ ∃ x, s.sa = some x ∧ q.1.block = x.block := fun q hq => mkS_block _ _ _ _ hq
  refine List.nodup_append.2 ⟨hO, List.nodup_append.2 ⟨mkW_nodup _ _ _, List.nodup_append.2 ⟨mkI_nodup _ _ _, mkS_nodup _ _ _, key _ _ (kR _ _ _ _ _ _ bI bS h.bs)⟩, ?_⟩, ?_⟩
  · rw [← List.map_append]
    refine key _ _ (fun q hq q2 hq2 => ?_)
    rcases List.mem_append.1 hq2 with hq2 | hq2
    · exact kR _ _ _ _ _ _ bW bI h.wb q hq q2 hq2
    · exact kR _ _ _ _ _ _ bW bS h.ws q hq q2 hq2
  · rw [← List.map_append, ← List.map_append]
    refine key _ _ (fun q hq q2 hq2 => ?_)
    rcases List.mem_append.1 hq2 with hq2 | hq2
    · exact kO _ _ _ bW h.ow h.wf q hq q2 hq2
    · rcases List.mem_append.1 hq2 with hq2 | hq2
      · exact kO _ _ _ bI h.ob h.bf q hq q2 hq2
      · exact kO _ _ _ bS h.os h.sf q hq q2 hq2
theorem sep_head {s : HSh} (h : SepH s) : ∀ j, j < s.os.length → ∀ g off, s.oa = some ⟨g, off, none⟩ → ∀ q ∈ markL s, q.1 ≠ ⟨g, off + j * 8 + 6, none⟩ := by
  intro j hj g off ho q hq e
  unfold markL at hq
  simp only [List.mem_append] at hq
  rcases hq with hq | hq | hq | hq
  · obtain ⟨x, hx, ⟨j2, i, hj2, h1, h2, h3⟩ | ⟨t, ht, h4, y, h5, h6⟩⟩ := mkO_where s 1 q hq
    · rw [ho] at hx; injection hx with hx; subst hx
      rw [e] at h3
      simp at h3
      omega
    · refine h.ofl t ht (by omega) h4 _ y ho h5 ?_
      rw [← h6, e]
  · obtain ⟨h1, x, h2, h3⟩ := mkW_block _ _ _ _ hq
    exact h.ow (by omega) h1 _ x ho h2 (by rw [← h3, e])
  · obtain ⟨h1, x, h2, h3⟩ := mkI_block _ _ _ _ hq
    exact h.ob (by omega) h1 _ x ho h2 (by rw [← h3, e])
  · obtain ⟨h1, x, h2, h3⟩ := mkS_block _ _ _ _ hq
    exact h.os (by omega) h1 _ x ho h2 (by rw [← h3, e])

/-- Each row that isn't empty lies at or behind block B. -/
structure LoH (B : Nat) (s : HSh) : Prop where
  lo : 0 < s.os.length → ∀ x, s.oa = some x → B ≤ x.block
  lw : 0 < s.wn → ∀ x, s.wa = some x → B ≤ x.block
  lb : 0 < s.bn → ∀ x, s.ba = some x → B ≤ x.block
  ls : 0 < s.sn → ∀ x, s.sa = some x → B ≤ x.block
  lf : ∀ t ∈ s.os, 0 < t.n → ∀ x, t.f = some x → B ≤ x.block
theorem lo_mark {B : Nat} {s : HSh} (h : LoH B s) : ∀ q ∈ markL s, B ≤ q.1.block := by
  intro q hq
  unfold markL at hq
  simp only [List.mem_append] at hq
  rcases hq with hq | hq | hq | hq
  · obtain ⟨x, hx, ⟨j2, i, hj2, h1, h2, h3⟩ | ⟨t, ht, h4, y, h5, h6⟩⟩ := mkO_where s 1 q hq
    · rw [h3]; exact h.lo (by omega) x hx
    · rw [h6]; exact h.lf t ht h4 y h5
  · obtain ⟨h1, x, h2, h3⟩ := mkW_block _ _ _ _ hq
    rw [h3]; exact h.lw h1 x h2
  · obtain ⟨h1, x, h2, h3⟩ := mkI_block _ _ _ _ hq
    rw [h3]; exact h.lb h1 x h2
  · obtain ⟨h1, x, h2, h3⟩ := mkS_block _ _ _ _ hq
    rw [h3]; exact h.ls h1 x h2

/-- A heap in memory of its own, at or behind block B. -/
structure MemH (w : World) (B : Nat) (s : HSh) (H : HeapD) : Prop where
  rd : RdH w s.v H
  can : CanH w s
  sep : SepH s
  lo : LoH B s
theorem memH_later {w w' : World} {B : Nat} {s : HSh} {H : HeapD} (h : MemH w B s H) (hb : Below w.heap.size w w') : MemH w' B s H := ⟨rdH_later h.rd hb, canH_later h.can hb, h.sep, h.lo⟩
theorem loH_mono {B C : Nat} {s : HSh} (h : LoH B s) (hC : C ≤ B) : LoH C s :=
  ⟨fun h1 x hx => Nat.le_trans hC (h.lo h1 x hx), fun h1 x hx => Nat.le_trans hC (h.lw h1 x hx), fun h1 x hx => Nat.le_trans hC (h.lb h1 x hx), fun h1 x hx => Nat.le_trans hC (h.ls h1 x hx), fun t ht h1 x hx => Nat.le_trans hC (h.lf t ht h1 x hx)⟩
theorem memH_mono {w : World} {B C : Nat} {s : HSh} {H : HeapD} (h : MemH w B s H) (hC : C ≤ B) : MemH w C s H := ⟨h.rd, h.can, h.sep, loH_mono h.lo hC⟩
/-- Behind markHeap it holds the marks. -/
theorem memH_held {w w' : World} {B : Nat} {s : HSh} {H : HeapD} (h : MemH w B s H) (hb : Below w.heap.size (stores w (markL s)) w') : HeldH w' s :=
  marked_held h.can (sep_nodup h.sep) hb (sep_head h.sep)

/-- Blocks from B on are as they were. -/
def KeepB (B : Nat) (w w' : World) : Prop := w.heap.size ≤ w'.heap.size ∧ ∀ g, B ≤ g → g < w.heap.size → w'.heap[g]? = w.heap[g]?
theorem keepB_set (B : Nat) (w : World) (p : Addr) (u : Value) (h : p.block < B) : KeepB B w (w.setCell p u) :=
  ⟨by simp [World.setCell], fun g hg _ => heap_setCell_other w p g u (by omega)⟩
theorem KeepB.trans {B : Nat} {a b c : World} (h1 : KeepB B a b) (h2 : KeepB B b c) : KeepB B a c :=
  ⟨Nat.le_trans h1.1 h2.1, fun g hg hl => (h2.2 g hg (Nat.lt_of_lt_of_le hl h1.1)).trans (h1.2 g hg hl)⟩
theorem KeepB.cell {B : Nat} {w w' : World} (h : KeepB B w w') {p : Addr} (hp : B ≤ p.block) (hl : p.block < w.heap.size) : w'.cell? p = w.cell? p := World.cell?_of_block (h.2 _ hp hl)
theorem KeepB.frozen {B : Nat} {w w' : World} (h : KeepB B w w') {p : Addr} (hp : B ≤ p.block) (hl : p.block < w.heap.size) : w'.frozen? p = w.frozen? p := World.frozen?_of_block (h.2 _ hp hl)
theorem canI_keepB {B : Nat} {w w' : World} {a : Option Addr} {n : Nat} (h : CanI w a n) (hb : KeepB B w w') (hlo : 0 < n → ∀ x, a = some x → B ≤ x.block) : CanI w' a n := by
  refine canI_keep h hb.1 (fun x hx hn => hb.2 _ (hlo hn x hx) ?_)
  exact canI_lt h hn x hx
theorem rdI_keepB {B : Nat} {w w' : World} {a : Option Addr} {zs : List Int} (h : RdI w a zs) (hb : KeepB B w w') (hlo : 0 < zs.length → ∀ x, a = some x → B ≤ x.block) : RdI w' a zs := by
  intro j hj
  obtain ⟨g, off, h1, h2, h3⟩ := h j hj
  exact ⟨g, off, h1, Nat.lt_of_lt_of_le h2 hb.1, (hb.cell (p := ⟨g, off + j, none⟩) (hlo (by omega) ⟨g, off, none⟩ h1) h2).trans h3⟩
theorem rdS_keepB {B : Nat} {w w' : World} {a : Option Addr} {zs : List (List UInt8)} (h : RdS w a zs) (hb : KeepB B w w') (hlo : 0 < zs.length → ∀ x, a = some x → B ≤ x.block) : RdS w' a zs := by
  intro j hj
  obtain ⟨g, off, h1, h2, h3⟩ := h j hj
  exact ⟨g, off, h1, Nat.lt_of_lt_of_le h2 hb.1, (hb.cell (p := ⟨g, off + j, none⟩) (hlo (by omega) ⟨g, off, none⟩ h1) h2).trans h3⟩
theorem memH_parts {w : World} {B : Nat} {s : HSh} {H : HeapD} (h : MemH w B s H) : H.objs.length = s.os.length ∧ H.weaks.length = s.wn ∧ H.buffer.length = s.bn ∧ H.sites.length = s.sn ∧ RdO w s.oa H.objs ∧ RdW w s.wa H.weaks ∧ RdI w s.ba H.buffer ∧ RdS w s.sa H.sites := by
  obtain ⟨ao, co, aw, cw, ab, cb, sa, sc, e, h1, h2, h3, h4⟩ := h.rd
  unfold HSh.v at e
  simp only [Value.agg.injEq, Array.mk.injEq, List.cons.injEq, Value.slice.injEq] at e
  obtain ⟨⟨e1, e2, -⟩, ⟨e3, e4, -⟩, ⟨e5, e6, -⟩, ⟨e7, e8, -⟩, -⟩ := e
  rw [e1, e3, e5, e7]
  exact ⟨e2.symm, e4.symm, e6.symm, e8.symm, h1, h2, h3, h4⟩
theorem memH_mk {w : World} {B : Nat} {s : HSh} {H : HeapD} (l1 : H.objs.length = s.os.length) (l2 : H.weaks.length = s.wn) (l3 : H.buffer.length = s.bn) (l4 : H.sites.length = s.sn) (h1 : RdO w s.oa H.objs) (h2 : RdW w s.wa H.weaks) (h3 : RdI w s.ba H.buffer) (h4 : RdS w s.sa H.sites)
    (hc : CanH w s) (hs : SepH s) (hl : LoH B s) : MemH w B s H :=
  ⟨⟨_, _, _, _, _, _, _, _, by rw [l1, l2, l3, l4]; rfl, h1, h2, h3, h4⟩, hc, hs, hl⟩
theorem memH_keepB {B : Nat} {w w' : World} {s : HSh} {H : HeapD} (h : MemH w B s H) (hb : KeepB B w w') : MemH w' B s H := by
  obtain ⟨l1, l2, l3, l4, h1, h2, h3, h4⟩ := memH_parts h
  have hc := h.can
  have hl := h.lo
  refine memH_mk l1 l2 l3 l4 ?_ ?_ (rdI_keepB h3 hb (by rw [l3]; exact hl.lb)) (rdS_keepB h4 hb (by rw [l4]; exact hl.ls)) ⟨?_, hc.ap, ?_, canI_keepB hc.b hb hl.lb, canI_keepB hc.st hb hl.ls, hc.lo, hc.lf, hc.lw, hc.lb, hc.ls⟩ h.sep hl
  · intro j hj
    obtain ⟨g, off, f, fc, e1, e2, e3, e4⟩ := h1 j hj
    have hB : B ≤ g := hl.lo (by omega) _ e1
    refine ⟨g, off, f, fc, e1, Nat.lt_of_lt_of_le e2 hb.1, e3.keep (fun k => hb.cell (p := ⟨g, k, none⟩) hB e2), rdI_keepB e4 hb (fun hn x hx => ?_)⟩
    obtain ⟨g', off', e5, e6⟩ := hc.o j (by omega)
    rw [e1] at e5; injection e5 with e5; injection e5 with e7 e8; subst e7 e8
    have e9 := e6.head.symm.trans e3.c6
    simp only [Option.some.injEq, Value.slice.injEq] at e9
    exact hl.lf _ (List.getElem_mem (by omega : j < s.os.length)) (by rw [e9.2.1]; exact hn) x (by rw [e9.1]; exact hx)
  · intro j hj
    obtain ⟨g, off, e1, e2, e3⟩ := h2 j hj
    have hB : B ≤ g := hl.lw (by omega) _ e1
    exact ⟨g, off, e1, Nat.lt_of_lt_of_le e2 hb.1, e3.keep (fun k => hb.cell (p := ⟨g, k, none⟩) hB e2)⟩
  · intro j hj
    obtain ⟨g, off, e1, e2⟩ := hc.o j hj
    have hB : B ≤ g := hl.lo (by omega) _ e1
    refine ⟨g, off, e1, Nat.lt_of_lt_of_le e2.lt hb.1, fun k hk => ?_, (hb.cell (p := ⟨g, off + j * 8 + 6, none⟩) hB e2.lt).trans e2.head, canI_keepB e2.row hb (hl.lf _ (List.getElem_mem hj)), e2.apart⟩
    obtain ⟨⟨x, hx⟩, hf⟩ := e2.cell k hk
    exact ⟨⟨x, (hb.cell (p := ⟨g, off + j * 8 + k, none⟩) hB e2.lt).trans hx⟩, (hb.frozen (p := ⟨g, off + j * 8 + k, none⟩) hB e2.lt).trans hf⟩
  · intro j hj
    obtain ⟨g, off, e1, e2, ⟨x, e3⟩, e4, ⟨y, e5⟩, e6⟩ := hc.wk j hj
    have hB : B ≤ g := hl.lw (by omega) _ e1
    exact ⟨g, off, e1, Nat.lt_of_lt_of_le e2 hb.1, ⟨x, (hb.cell (p := ⟨g, off + j * 2, none⟩) hB e2).trans e3⟩, (hb.frozen (p := ⟨g, off + j * 2, none⟩) hB e2).trans e4, ⟨y, (hb.cell (p := ⟨g, off + j * 2 + 1, none⟩) hB e2).trans e5⟩, (hb.frozen (p := ⟨g, off + j * 2 + 1, none⟩) hB e2).trans e6⟩

end Go.Proofs.Ytjhceoejblmihaa
