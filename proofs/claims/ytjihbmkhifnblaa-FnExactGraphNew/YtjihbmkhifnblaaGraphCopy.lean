/- A graph that is being made: what holds from round to round; the operations that make it. -/
import Derived.Test.YtjihbmkhifnblaaGraphMark
import Derived.Test.YtjihbmkhifnblaaAnyOps
import Derived.Maps.AppendAt
namespace Go.Proofs.Ytjihbmkhifnblaa
open Go.RowKit
set_option linter.unusedVariables false
set_option maxRecDepth 100000

/-- A graph's box. -/
def Tri (X : World) (g : Nat) (x0 x1 x2 : Value) : Prop := X.heap[g]? = some (.cells #[x0, x1, x2] 26 (0, 0))
theorem Tri.cell {X : World} {g : Nat} {x0 x1 x2 : Value} (h : Tri X g x0 x1 x2) (k : Nat) : X.cell? ⟨g, k, none⟩ = (#[x0, x1, x2] : Array Value)[k]? := by
  rw [World.cell?, show X.heap[g]? = _ from h]; rfl
theorem Tri.frozen {X : World} {g : Nat} {x0 x1 x2 : Value} (h : Tri X g x0 x1 x2) (k : Nat) : X.frozen? ⟨g, k, none⟩ = false := by
  have h' : X.heap[g]? = _ := h
  simp [World.frozen?, h']
theorem Tri.lt {X : World} {g : Nat} {x0 x1 x2 : Value} (h : Tri X g x0 x1 x2) : g < X.heap.size := (Array.getElem?_eq_some_iff.1 h).1
theorem Tri.same {X Y : World} {g : Nat} {x0 x1 x2 : Value} (h : Tri X g x0 x1 x2) (hs : Y.heap[g]? = X.heap[g]?) : Tri Y g x0 x1 x2 := hs.trans h
theorem Tri.later {X Y : World} {g : Nat} {x0 x1 x2 : Value} (h : Tri X g x0 x1 x2) (hb : Below X.heap.size X Y) : Tri Y g x0 x1 x2 := (hb.block g h.lt).trans h
theorem Tri.new (X : World) (x0 x1 x2 : Value) : Tri (X.alloc (.cells #[x0, x1, x2] 26)) X.heap.size x0 x1 x2 := heap_alloc_new X _
theorem Tri.set0 {X : World} {g : Nat} {x0 x1 x2 : Value} (h : Tri X g x0 x1 x2) (u : Value) : Tri (X.setCell ⟨g, 0, none⟩ u) g u x1 x2 := heap_setCell_same X g 0 _ _ u h
def setTri (X : World) (g : Nat) (y0 y1 y2 : Value) : World := ((X.setCell ⟨g, 0, none⟩ y0).setCell ⟨g, 1, none⟩ y1).setCell ⟨g, 2, none⟩ y2
theorem Tri.setAll {X : World} {g : Nat} {x0 x1 x2 : Value} (h : Tri X g x0 x1 x2) (y0 y1 y2 : Value) : Tri (setTri X g y0 y1 y2) g y0 y1 y2 :=
  heap_setCell_same _ g 2 _ _ y2 (heap_setCell_same _ g 1 _ _ y1 (heap_setCell_same X g 0 _ _ y0 h))
theorem setTri_other (X : World) (g : Nat) (y0 y1 y2 : Value) (i : Nat) (hi : i ≠ g) : (setTri X g y0 y1 y2).heap[i]? = X.heap[i]? := by
  unfold setTri
  rw [heap_setCell_other _ _ _ _ (by exact hi), heap_setCell_other _ _ _ _ (by exact hi), heap_setCell_other _ _ _ _ (by exact hi)]
theorem setTri_size (X : World) (g : Nat) (y0 y1 y2 : Value) : (setTri X g y0 y1 y2).heap.size = X.heap.size := by unfold setTri; simp [World.setCell]
/-- A node's box. -/
def NBx (X : World) (b : Nat) (o : NodeD) (f : Value) : Prop := X.heap[b]? = some (.cells #[.bool o.live, .int .i64 o.gen, .int .i64 o.site, .int .i64 o.holds, .int .i64 o.roots, f] 54 (0, 0))
theorem NBx.cell {X : World} {b : Nat} {o : NodeD} {f : Value} (h : NBx X b o f) (j : Nat) : X.cell? ⟨b, j, none⟩ = (#[.bool o.live, .int .i64 o.gen, .int .i64 o.site, .int .i64 o.holds, .int .i64 o.roots, f] : Array Value)[j]? := by rw [World.cell?, show X.heap[b]? = _ from h]; rfl

def cellsN (p : NodeD × OSh) : List Value := [.bool p.1.live, .int .i64 p.1.gen, .int .i64 p.1.site, .int .i64 p.1.holds, .int .i64 p.1.roots, .slice p.2.f p.2.n p.2.c]
theorem row_nodes {w : World} {B : Nat} {a : Option Addr} {c : Nat} {os : List NodeD} {fs : List OSh} (hl : fs.length = os.length) (h : w.ownsRow B 54 6 (.slice a os.length c) os.length ((os.zip fs).flatMap cellsN)) :
    ∀ j (h : j < os.length) (h2 : j < fs.length), ∃ g, a = some ⟨g, 0, none⟩ ∧ NodeAt w g (j * 6) os[j] (.slice fs[j].f fs[j].n fs[j].c) ∧ ∀ k, k < 6 → w.frozen? ⟨g, j * 6 + k, none⟩ = false := by
  intro j hj hj2
  have hz : j < (os.zip fs).length := by simp [hl, hj]
  have hzj : (os.zip fs)[j] = (os[j], fs[j]) := by simp
  have at_ : ∀ k, k < 6 → ∃ g, a = some ⟨g, 0, none⟩ ∧ w.cell? ⟨g, j * 6 + k, none⟩ = (cellsN (os[j], fs[j]))[k]? ∧ w.frozen? ⟨g, j * 6 + k, none⟩ = false := by
    intro k hk
    obtain ⟨g, h1, h2, h3⟩ := row_cells h (j * 6 + k) (by omega)
    exact ⟨g, h1, by rw [h2, flat_at cellsN 6 (fun _ => rfl) _ j k hz hk, hzj], h3⟩
  obtain ⟨g, h1, h2, h3⟩ := at_ 0 (by omega)
  have at2 : ∀ k, k < 6 → w.cell? ⟨g, j * 6 + k, none⟩ = (cellsN (os[j], fs[j]))[k]? ∧ w.frozen? ⟨g, j * 6 + k, none⟩ = false := by
    intro k hk
    obtain ⟨g2, e1, e2, e3⟩ := at_ k hk
    rw [h1] at e1; injection e1 with e1; injection e1 with e1 _ _; subst e1
    exact ⟨e2, e3⟩
  exact ⟨g, h1, ⟨(at2 0 (by omega)).1, (at2 1 (by omega)).1, (at2 2 (by omega)).1, (at2 3 (by omega)).1, (at2 4 (by omega)).1, (at2 5 (by omega)).1⟩, fun k hk => (at2 k hk).2⟩

/-- append of one node onto a row of one's own, at a frame of which only what is read is known. -/
theorem wp_appendN {w : World} {o : Oper} {a : Act} {K : Act → World → Prop} {Q : Exit → Act → World → Prop} (s x : Operand)
    (ho : o.op = .call { callee := .builtin .append, args := #[s, x], argTypes := #[22, 22] }) (B : Nat) (v : Value) (n : Nat) (xs : List Value) (hs : a.eval s = v) (hown : w.ownsRow B 54 6 v n xs)
    (g : Nat) (p : NodeD × OSh) (hx : a.eval x = .slice (some ⟨g, 0, none⟩) 1 1) (hb : NBx w g p.1 (.slice p.2.f p.2.n p.2.c)) (hn : n ≤ 1677721) (hB : B ≤ w.heap.size)
    (h : ∀ v' w', w'.ownsRow B 54 6 v' (n + 1) (xs ++ cellsN p) → w.grownBy w' v.ownBlock → (v'.ownBlock = v.ownBlock ∨ v'.ownBlock = some w.heap.size) → K (a.put o.dst v') w') : o.wp Try.prog a w K Q := by
  obtain ⟨i0, hi, hz0, hz1, hz2⟩ := info_parts infoN
  obtain ⟨v', w', hr, hown', hgrow, _, hat⟩ := run_append_own_at (P := Try.prog) w B 22 o.type 54 i0 _ 6 64 Try.underlying22 hi hz0 hz1 hz2 rfl (by decide) v n xs hown ⟨g, 0, none⟩ 1 1 (cellsN p) rfl
    (fun j u hj => by
      rw [Addr.add_lit, Nat.zero_add, hb.cell j]
      simpa [cellsN] using hj)
    (fun u hu => by
      simp only [cellsN, List.mem_cons, List.not_mem_nil, or_false] at hu
      rcases hu with rfl | rfl | rfl | rfl | rfl | rfl <;> rfl) (by unfold maxLen; omega) (by omega) hB
  unfold Oper.wp execOp
  simp only [ho, resolve, invoke, builtin, Sem.run_bind, Sem.run_pure, Result.andThen_ok, List.map_toArray, List.map_cons, List.map_nil, hs, hx, hr]
  exact h v' w' hown' hgrow hat

/-- The graph of a heap. -/
def ndOf (o : ObjD) : NodeD := ⟨o.live, o.gen, o.site, o.holds, o.roots, o.field⟩
def grOf (H : HeapD) : GrD := ⟨H.objs.map ndOf, H.weaks, H.sites⟩

/-- A block of one of the rows, the nodes' own apart. -/
def RB (wa sa : Option Addr) (fs : List OSh) (b : Nat) : Prop := (∃ x, wa = some x ∧ x.block = b) ∨ (∃ x, sa = some x ∧ x.block = b) ∨ ∃ t ∈ fs, ∃ x, t.f = some x ∧ x.block = b
/-- The rows of a graph that is being made: the first j nodes are appended. -/
structure CG (W wr : World) (B g : Nat) (G : GrD) (vo : Value) (wa : Option Addr) (wc : Nat) (sa : Option Addr) (sc : Nat) (fs : List OSh) (j : Nat) : Prop where
  bel : Below B W wr
  ro : wr.ownsRow B 54 6 vo j (((G.nodes.take j).zip fs).flatMap cellsN)
  wk : ∀ i (h : i < G.weaks.length), ∃ g, wa = some ⟨g, 0, none⟩ ∧ WeakAt wr g (i * 2) G.weaks[i] ∧ ∀ k, k < 2 → wr.frozen? ⟨g, i * 2 + k, none⟩ = false
  rs : ownS wr B (.slice sa G.sites.length sc) G.sites
  jl : j ≤ G.nodes.length
  fl : fs.length = j
  f : ∀ i (h : i < fs.length) (h2 : i < G.nodes.length), fs[i].n = G.nodes[i].field.length ∧ ownI wr B (.slice fs[i].f fs[i].n fs[i].c) G.nodes[i].field
  bl : ∀ b, RB wa sa fs b → B ≤ b ∧ b < wr.heap.size
  nv : ∀ b, RB wa sa fs b → vo.ownBlock ≠ some b
  ng : ¬ RB wa sa fs g
  ngv : vo.ownBlock ≠ some g
  ws : Dif wa sa
  wf : ∀ t ∈ fs, Dif wa t.f
  sf : ∀ t ∈ fs, Dif sa t.f
  ff : fs.Pairwise (fun t u => Dif t.f u.f)

theorem cg_keep {W wr X : World} {B g : Nat} {G : GrD} {vo : Value} {wa : Option Addr} {wc : Nat} {sa : Option Addr} {sc : Nat} {fs : List OSh} {j : Nat} (h : CG W wr B g G vo wa wc sa sc fs j) (hbel : Below B W X) (hsz : wr.heap.size ≤ X.heap.size)
    (hk : ∀ b, RB wa sa fs b → X.heap[b]? = wr.heap[b]?) (hv : ∀ b, vo.ownBlock = some b → X.heap[b]? = wr.heap[b]?) : CG W X B g G vo wa wc sa sc fs j where
  bel := hbel
  ro := row_same h.ro hv
  wk := fun i hi => by
    obtain ⟨q, e1, e2, e3⟩ := h.wk i hi
    have hq := hk q (.inl ⟨_, e1, rfl⟩)
    exact ⟨q, e1, e2.keep (fun k => World.cell?_of_block (a := ⟨q, k, none⟩) hq), fun k hk2 => (World.frozen?_of_block (a := ⟨q, i * 2 + k, none⟩) hq).trans (e3 k hk2)⟩
  rs := ownS_same h.rs (fun b hb => by obtain ⟨x, hx, e⟩ := own_some hb; exact hk b (.inr (.inl ⟨x, hx, e⟩)))
  jl := h.jl
  fl := h.fl
  f := fun i hi hi2 => ⟨(h.f i hi hi2).1, ownI_same (h.f i hi hi2).2 (fun b hb => by obtain ⟨x, hx, e⟩ := own_some hb; exact hk b (.inr (.inr ⟨_, List.getElem_mem hi, x, hx, e⟩)))⟩
  bl := fun b hb => ⟨(h.bl b hb).1, Nat.lt_of_lt_of_le (h.bl b hb).2 hsz⟩
  nv := h.nv
  ng := h.ng
  ngv := h.ngv
  ws := h.ws
  wf := h.wf
  sf := h.sf
  ff := h.ff
theorem cg_later {W wr X : World} {B g : Nat} {G : GrD} {vo : Value} {wa : Option Addr} {wc : Nat} {sa : Option Addr} {sc : Nat} {fs : List OSh} {j : Nat} (h : CG W wr B g G vo wa wc sa sc fs j) (hB : B ≤ wr.heap.size) (hb : Below wr.heap.size wr X) : CG W X B g G vo wa wc sa sc fs j :=
  cg_keep h (h.bel.trans (hb.mono hB)) hb.size (fun b hr => hb.block b (h.bl b hr).2) (fun b hv => hb.block b (World.ownsRow.lt h.ro b hv).2)
/-- The graph's variable is written. -/
theorem cg_set {W wr : World} {B g : Nat} {G : GrD} {vo : Value} {wa : Option Addr} {wc : Nat} {sa : Option Addr} {sc : Nat} {fs : List OSh} {j : Nat} (h : CG W wr B g G vo wa wc sa sc fs j) (hg : B ≤ g) (k : Nat) (u : Value) : CG W (wr.setCell ⟨g, k, none⟩ u) B g G vo wa wc sa sc fs j :=
  cg_keep h (h.bel.setCell hg _) (by simp [World.setCell]) (fun b hr => heap_setCell_other _ _ _ _ (by exact fun e => h.ng ((show b = g from e) ▸ hr))) (fun b hv => heap_setCell_other _ _ _ _ (by exact fun e => h.ngv ((show b = g from e) ▸ hv)))
theorem cg_step {W wr w6 : World} {B g : Nat} {G : GrD} {vo v2 : Value} {wa : Option Addr} {wc : Nat} {sa : Option Addr} {sc : Nat} {fs : List OSh} {j : Nat} (h : CG W wr B g G vo wa wc sa sc fs j) (hB : B ≤ wr.heap.size) (hgl : g < wr.heap.size) (hj : j < G.nodes.length) (t : OSh) (hn : t.n = G.nodes[j].field.length) (ht : ownI wr B (.slice t.f t.n t.c) G.nodes[j].field)
    (hd0 : ∀ x, t.f = some x → vo.ownBlock ≠ some x.block) (hdg : ∀ x, t.f = some x → x.block ≠ g) (hdw : Dif wa t.f) (hds : Dif sa t.f) (hdf : ∀ u ∈ fs, Dif u.f t.f)
    (r6 : w6.ownsRow B 54 6 v2 (j + 1) (((G.nodes.take j).zip fs).flatMap cellsN ++ cellsN (G.nodes[j], t))) (g6 : wr.grownBy w6 vo.ownBlock) (hat : v2.ownBlock = vo.ownBlock ∨ v2.ownBlock = some wr.heap.size) : CG W w6 B g G v2 wa wc sa sc (fs ++ [t]) (j + 1) := by
  have rb : ∀ b, RB wa sa (fs ++ [t]) b → (B ≤ b ∧ b < wr.heap.size) ∧ vo.ownBlock ≠ some b ∧ b ≠ g := by
    rintro b (hb | hb | ⟨u, hu, x, hx, e⟩)
    · exact ⟨h.bl b (.inl hb), h.nv b (.inl hb), fun e => h.ng (e ▸ .inl hb)⟩
    · exact ⟨h.bl b (.inr (.inl hb)), h.nv b (.inr (.inl hb)), fun e => h.ng (e ▸ .inr (.inl hb))⟩
    · rcases List.mem_append.1 hu with hu | hu
      · have hr : RB wa sa fs b := .inr (.inr ⟨u, hu, x, hx, e⟩)
        exact ⟨h.bl b hr, h.nv b hr, fun e => h.ng (e ▸ hr)⟩
      · simp only [List.mem_singleton] at hu
        subst hu
        exact ⟨by rw [← e]; exact ownI_lt ht _ (own_block hx), by rw [← e]; exact hd0 x hx, by rw [← e]; exact hdg x hx⟩
  have kb : ∀ b, RB wa sa (fs ++ [t]) b → w6.heap[b]? = wr.heap[b]? := fun b hb => g6.block b (rb b hb).1.2 (fun e => (rb b hb).2.1 e.symm)
  refine ⟨h.bel.grown g6 hB (fun k hk => (World.ownsRow.lt h.ro k hk).1), ?_, fun i hi => ?_, ?_, hj, by simp [h.fl], fun i hi hi2 => ?_, fun b hb => ⟨(rb b hb).1.1, Nat.lt_of_lt_of_le (rb b hb).1.2 g6.size⟩, fun b hb => ?_, fun hb => (rb g hb).2.2 rfl, ?_, h.ws, fun u hu => ?_, fun u hu => ?_, ?_⟩
  · have e1 : (G.nodes.take (j + 1)).zip (fs ++ [t]) = (G.nodes.take j).zip fs ++ [(G.nodes[j], t)] := by
      rw [List.take_succ_eq_append_getElem hj, List.zip_append (by simp [h.fl]; omega)]
      rfl
    rw [e1, List.flatMap_append, List.flatMap_cons, List.flatMap_nil, List.append_nil]
    exact r6
  · obtain ⟨q, e1, e2, e3⟩ := h.wk i hi
    have hq := kb q (.inl ⟨_, e1, rfl⟩)
    exact ⟨q, e1, e2.keep (fun k => World.cell?_of_block (a := ⟨q, k, none⟩) hq), fun k hk2 => (World.frozen?_of_block (a := ⟨q, i * 2 + k, none⟩) hq).trans (e3 k hk2)⟩
  · exact ownS_same h.rs (fun b hb => by obtain ⟨x, hx, e⟩ := own_some hb; exact kb b (.inr (.inl ⟨x, hx, e⟩)))
  · by_cases e : i < fs.length
    · rw [List.getElem_append_left e]
      obtain ⟨h1, h2⟩ := h.f i e hi2
      exact ⟨h1, ownI_same h2 (fun b hb => by obtain ⟨x, hx, e2⟩ := own_some hb; exact kb b (.inr (.inr ⟨_, List.mem_append_left _ (List.getElem_mem e), x, hx, e2⟩)))⟩
    · obtain rfl : i = fs.length := by simp at hi; omega
      have e2 : (fs ++ [t])[fs.length] = t := by simp
      have e3 : G.nodes[fs.length] = G.nodes[j] := by congr 1; exact h.fl
      rw [e2, e3]
      exact ⟨hn, ownI_same ht (fun b hb => by obtain ⟨x, hx, e2⟩ := own_some hb; exact kb b (.inr (.inr ⟨t, List.mem_append_right _ (by simp), x, hx, e2⟩)))⟩
  · rcases hat with e | e
    · rw [e]; exact (rb b hb).2.1
    · rw [e]; intro e2; injection e2 with e2; have := (rb b hb).1.2; omega
  · rcases hat with e | e
    · rw [e]; exact h.ngv
    · rw [e]; intro e2; injection e2 with e2; omega
  · rcases List.mem_append.1 hu with hu | hu
    · exact h.wf u hu
    · simp only [List.mem_singleton] at hu; subst hu; exact hdw
  · rcases List.mem_append.1 hu with hu | hu
    · exact h.sf u hu
    · simp only [List.mem_singleton] at hu; subst hu; exact hds
  · rw [List.pairwise_append]
    refine ⟨h.ff, by simp, fun a ha b hb => ?_⟩
    simp only [List.mem_singleton] at hb
    subst hb
    exact hdf a ha
/-- All nodes are appended: it is a graph of one's own. -/
theorem cg_end {W wr : World} {B g : Nat} {G : GrD} {oa : Option Addr} {oc : Nat} {wa : Option Addr} {wc : Nat} {sa : Option Addr} {sc : Nat} {fs : List OSh} (h : CG W wr B g G (.slice oa G.nodes.length oc) wa wc sa sc fs G.nodes.length) (s1 : G.nodes.length ≤ 16777216) (s2 : ∀ z ∈ G.nodes, z.field.length ≤ 16777216) (s3 : G.weaks.length ≤ 16777216) (s4 : G.sites.length ≤ 16777216) :
    MemG wr B ⟨oa, oc, fs, wa, G.weaks.length, wc, sa, G.sites.length, sc⟩ G := by
  have hr := h.ro
  rw [List.take_length] at hr
  have hn := row_nodes h.fl hr
  have og := row_block h.ro
  have rl : ∀ {x}, RB wa sa fs x → B ≤ x ∧ x < wr.heap.size := fun hb => h.bl _ hb
  have nvo : ∀ {a : Option Addr}, (∀ x, a = some x → RB wa sa fs x.block) → Dif oa a := fun ha x y hx hy e => h.nv _ (ha y hy) (by rw [← e]; exact own_block hx)
  have rw' : ∀ x, wa = some x → RB wa sa fs x.block := fun x hx => .inl ⟨x, hx, rfl⟩
  have rs' : ∀ x, sa = some x → RB wa sa fs x.block := fun x hx => .inr (.inl ⟨x, hx, rfl⟩)
  have rf' : ∀ t ∈ fs, ∀ x, t.f = some x → RB wa sa fs x.block := fun t ht x hx => .inr (.inr ⟨t, ht, x, hx, rfl⟩)
  refine memG_mk h.fl.symm rfl rfl (fun j hj => ?_) (fun j hj => ?_) ?_ ⟨fun j hj => ?_, fun x t hx ht _ y hy e => ?_, fun j hj => ?_, ?_, by simp only; rw [h.fl]; exact s1, fun t ht => ?_, s3, s4⟩
    ⟨(nvo rw').ap _ _, (nvo rs').ap _ _, h.ws.ap _ _, fun t ht => (nvo (rf' t ht)).ap _ _, fun t ht => (h.wf t ht).ap _ _, fun t ht => (h.sf t ht).ap _ _, h.ff.imp (fun hd => hd.ap _ _)⟩
    ⟨fun _ x hx => (og x hx).1, fun _ x hx => (rl (rw' x hx)).1, fun _ x hx => (rl (rs' x hx)).1, fun t ht _ x hx => (rl (rf' t ht x hx)).1⟩
  · have hj2 : j < fs.length := by rw [h.fl]; exact hj
    obtain ⟨q, e1, e2, _⟩ := hn j hj hj2
    obtain ⟨e3, e4⟩ := h.f j hj2 hj
    obtain ⟨a, c, e6, e7⟩ := rdI_own' e4
    simp only [Value.slice.injEq] at e6
    refine ⟨q, 0, fs[j].f, fs[j].c, e1, (og _ e1).2, ?_, by rw [e6.1]; exact e7⟩
    rw [Nat.zero_add, ← e3]; exact e2
  · obtain ⟨q, e1, e2, _⟩ := h.wk j hj
    exact ⟨q, 0, e1, (rl (rw' _ e1)).2, by rw [Nat.zero_add]; exact e2⟩
  · obtain ⟨a, c, e6, e7⟩ := rdS_own h.rs
    simp only [Value.slice.injEq] at e6
    simp only
    rw [e6.1]; exact e7.out
  · have hj2 : j < G.nodes.length := by simp only at hj; rw [← h.fl]; exact hj
    obtain ⟨q, e1, e2, e3⟩ := hn j hj2 hj
    obtain ⟨e4, e5⟩ := h.f j hj hj2
    obtain ⟨a, c, e6, e7, _⟩ := ownI_can e5
    simp only [Value.slice.injEq] at e6
    refine ⟨q, 0, e1, (og _ e1).2, fun k hk => ?_, ?_, ?_, fun x hx _ e => ?_⟩
    · rw [Nat.zero_add]
      refine ⟨?_, e3 k hk⟩
      match k, hk with
      | 0, _ => exact ⟨_, e2.c0⟩
      | 1, _ => exact ⟨_, e2.c1⟩
      | 2, _ => exact ⟨_, e2.c2⟩
      | 3, _ => exact ⟨_, e2.c3⟩
      | 4, _ => exact ⟨_, e2.c4⟩
      | 5, _ => exact ⟨_, e2.c5⟩
    · rw [Nat.zero_add]; exact e2.c5
    · simp only; rw [e6.1, e6.2.1]; exact e7
    · exact nvo (rf' _ (List.getElem_mem hj)) _ x e1 hx e.symm
  · exact nvo (rf' t ht) x y hx hy e.symm
  · obtain ⟨q, e1, e2, e3⟩ := h.wk j hj
    exact ⟨q, 0, e1, (rl (rw' _ e1)).2, ⟨_, by rw [Nat.zero_add]; exact e2.c0⟩, by rw [Nat.zero_add]; exact e3 0 (by omega), ⟨_, by rw [Nat.zero_add]; exact e2.c1⟩, by rw [Nat.zero_add]; exact e3 1 (by omega)⟩
  · obtain ⟨a, c, e6, e7, _⟩ := ownS_can h.rs
    simp only [Value.slice.injEq] at e6
    simp only
    rw [e6.1]; exact e7
  · obtain ⟨j, hj, rfl⟩ := List.mem_iff_getElem.1 ht
    have hj2 : j < G.nodes.length := by rw [← h.fl]; exact hj
    rw [(h.f j hj hj2).1]
    exact s2 _ (List.getElem_mem hj2)

end Go.Proofs.Ytjihbmkhifnblaa
