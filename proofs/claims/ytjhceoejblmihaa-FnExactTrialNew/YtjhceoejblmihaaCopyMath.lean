/- A heap that is being copied: what holds from round to round. -/
import Derived.Test.YtjhceoejblmihaaFlatWalks
import Derived.Test.YtjhceoejblmihaaOpWalks
namespace Go.Proofs.Ytjhceoejblmihaa
open Go.RowKit
set_option linter.unusedVariables false
set_option maxRecDepth 100000

theorem Four.set0 {X : World} {g : Nat} {x0 x1 x2 x3 : Value} (h : Four X g x0 x1 x2 x3) (u : Value) : Four (X.setCell ⟨g, 0, none⟩ u) g u x1 x2 x3 := heap_setCell_same X g 0 _ _ u h
theorem Four.set2 {X : World} {g : Nat} {x0 x1 x2 x3 : Value} (h : Four X g x0 x1 x2 x3) (u : Value) : Four (X.setCell ⟨g, 2, none⟩ u) g x0 x1 u x3 := heap_setCell_same X g 2 _ _ u h
theorem Four.setAll {X : World} {g : Nat} {x0 x1 x2 x3 : Value} (h : Four X g x0 x1 x2 x3) (y0 y1 y2 y3 : Value) : Four (setFour X g y0 y1 y2 y3) g y0 y1 y2 y3 :=
  heap_setCell_same _ g 3 _ _ y3 (heap_setCell_same _ g 2 _ _ y2 (heap_setCell_same _ g 1 _ _ y1 (heap_setCell_same X g 0 _ _ y0 h)))
theorem Four.later {X Y : World} {g : Nat} {x0 x1 x2 x3 : Value} (h : Four X g x0 x1 x2 x3) (hb : Below X.heap.size X Y) : Four Y g x0 x1 x2 x3 := (hb.block g h.lt).trans h
theorem Four.new (X : World) (x0 x1 x2 x3 : Value) : Four (X.alloc (.cells #[x0, x1, x2, x3] 35)) X.heap.size x0 x1 x2 x3 := heap_alloc_new X _
/-- An object's box. -/
def OBx (X : World) (b : Nat) (o : ObjD) (f : Value) : Prop := X.heap[b]? = some (.cells #[.bool o.live, .int .i64 o.gen, .int .i64 o.site, .int .i64 o.holds, .int .i64 o.roots, .int .i64 o.count, f, .bool o.purple] 61 (0, 0))
theorem OBx.cell {X : World} {b : Nat} {o : ObjD} {f : Value} (h : OBx X b o f) (j : Nat) : X.cell? ⟨b, j, none⟩ = (#[.bool o.live, .int .i64 o.gen, .int .i64 o.site, .int .i64 o.holds, .int .i64 o.roots, .int .i64 o.count, f, .bool o.purple] : Array Value)[j]? := by rw [World.cell?, show X.heap[b]? = _ from h]; rfl
theorem OBx.frozen {X : World} {b : Nat} {o : ObjD} {f : Value} (h : OBx X b o f) (j : Nat) : X.frozen? ⟨b, j, none⟩ = false := by
  have h' : X.heap[b]? = _ := h
  simp [World.frozen?, h']
theorem OBx.lt {X : World} {b : Nat} {o : ObjD} {f : Value} (h : OBx X b o f) : b < X.heap.size := (Array.getElem?_eq_some_iff.1 h).1
theorem OBx.later {X Y : World} {b : Nat} {o : ObjD} {f : Value} (h : OBx X b o f) (hb : Below X.heap.size X Y) : OBx Y b o f := (hb.block b h.lt).trans h
theorem OBx.set6 {X : World} {b : Nat} {o : ObjD} {f : Value} (h : OBx X b o f) (u : Value) : OBx (X.setCell ⟨b, 6, none⟩ u) b o u := heap_setCell_same X b 6 _ _ u h

theorem row_same {w w' : World} {B n size : Nat} {e : TypeId} {v : Value} {xs : List Value} (h : w.ownsRow B e size v n xs) (hs : ∀ g, v.ownBlock = some g → w'.heap[g]? = w.heap[g]?) : w'.ownsRow B e size v n xs := by
  rcases h with ⟨h1, h2 | ⟨g, cap, cur, h2, h3, h4, h5⟩⟩
  · exact ⟨h1, .inl h2⟩
  · exact ⟨h1, .inr ⟨g, cap, cur, h2, h3, by rw [hs g (by rw [h2]; rfl)]; exact h4, h5⟩⟩
theorem row_later {w w' : World} {B n size : Nat} {e : TypeId} {v : Value} {xs : List Value} (h : w.ownsRow B e size v n xs) (hb : Below w.heap.size w w') : w'.ownsRow B e size v n xs := row_same h (fun g hg => hb.block g (World.ownsRow.lt h g hg).2)
theorem row_mono {w : World} {B C n size : Nat} {e : TypeId} {v : Value} {xs : List Value} (h : w.ownsRow B e size v n xs) (hC : C ≤ B) : w.ownsRow C e size v n xs := by
  rcases h with ⟨h1, h2 | ⟨g, cap, cur, h2, h3, h4⟩⟩
  · exact ⟨h1, .inl h2⟩
  · exact ⟨h1, .inr ⟨g, cap, cur, h2, by omega, h4⟩⟩
/-- The block of a row bears its elements' kind. -/
theorem row_kind {w : World} {B n size : Nat} {e : TypeId} {v : Value} {xs : List Value} (h : w.ownsRow B e size v n xs) (g : Nat) (hg : v.ownBlock = some g) : ∃ cur, w.heap[g]? = some (.cells cur e (0, 0)) := by
  rcases h with ⟨h1, ⟨h2, _⟩ | ⟨g2, cap, cur, h2, h3, h4, h5⟩⟩
  · rw [h2] at hg; cases hg
  · rw [h2] at hg
    injection hg with hg
    exact ⟨cur, by rw [← hg]; exact h4⟩
theorem kind_ne {w : World} {g g2 : Nat} {c c2 : Array Value} {e e2 : TypeId} (h : w.heap[g]? = some (.cells c e (0, 0))) (h2 : w.heap[g2]? = some (.cells c2 e2 (0, 0))) (hne : e ≠ e2) : g ≠ g2 := by
  intro he
  subst he
  rw [h] at h2
  injection h2 with h2
  injection h2 with _ h3 _
  exact hne h3

/-- 'append(objs, o)', objs a row of one's own. -/
theorem wpList_appendO {w : World} {ops : Array Oper} {rest : List Oper} {o : Oper} {a : Act} {Q : Exit → Act → World → Prop} (hgd : o.guard = none) (s x : Operand)
    (ho : o.op = .call { callee := .builtin .append, args := #[s, x], argTypes := #[32, 32] }) (B : Nat) (v : Value) (n : Nat) (xs : List Value) (hs : a.eval s = v) (hown : w.ownsRow B 61 8 v n xs)
    (g : Nat) (p : ObjD × OSh) (hx : a.eval x = .slice (some ⟨g, 0, none⟩) 1 1) (hb : OBx w g p.1 (.slice p.2.f p.2.n p.2.c)) (hn : n ≤ 1677721) (hB : B ≤ w.heap.size)
    (h : ∀ v' w', w'.ownsRow B 61 8 v' (n + 1) (xs ++ cellsOb p) → w.grownBy w' v.ownBlock → wpList Try.prog ops Q rest (a.put o.dst v') w') : wpList Try.prog ops Q (o :: rest) a w := by
  obtain ⟨i0, hi, hz0, hz1, hz2⟩ := info_parts infoO
  refine wpList_append_own w hgd s x 32 ho B 61 i0 _ 8 80 Try.underlying32 hi hz0 hz1 hz2 rfl (by decide) v n xs hs hown ⟨g, 0, none⟩ 1 1 (cellsOb p) hx rfl ?_ ?_ ?_ ?_ hB (fun v' w' h1 h2 _ => h v' w' h1 h2)
  · intro j u hj
    rw [Addr.add_lit, Nat.zero_add, hb.cell j]
    simpa [cellsOb] using hj
  · intro u hu
    simp only [cellsOb, List.mem_cons, List.not_mem_nil, or_false] at hu
    rcases hu with rfl | rfl | rfl | rfl | rfl | rfl | rfl | rfl <;> rfl
  · unfold maxLen; omega
  · omega

/-- The rows of a heap that is being copied: the first j objects are appended, each with a field's row of its own. -/
structure CI (W wr : World) (B g : Nat) (H : HeapD) (vo : Value) (wa : Option Addr) (wc : Nat) (ba : Option Addr) (bc : Nat) (sa : Option Addr) (sc : Nat) (fs : List OSh) (j : Nat) : Prop where
  bel : Below B W wr
  x : Four wr g vo (.slice wa H.weaks.length wc) (.slice ba H.buffer.length bc) (.slice sa H.sites.length sc)
  gB : B ≤ g
  ro : wr.ownsRow B 61 8 vo j (((H.objs.take j).zip fs).flatMap cellsOb)
  rw : wr.ownsRow B 98 2 (.slice wa H.weaks.length wc) H.weaks.length (H.weaks.flatMap cellsW)
  rb : ownI wr B (.slice ba H.buffer.length bc) H.buffer
  rs : ownS wr B (.slice sa H.sites.length sc) H.sites
  jl : j ≤ H.objs.length
  fl : fs.length = j
  f : ∀ i (h : i < fs.length) (h2 : i < H.objs.length), fs[i].n = H.objs[i].field.length ∧ ownI wr B (.slice fs[i].f fs[i].n fs[i].c) H.objs[i].field
  ff : fs.Pairwise (fun t u => Dif t.f u.f)
  fb : ∀ t ∈ fs, Dif ba t.f

theorem ci_step {W wr w5 w6 : World} {B g : Nat} {H : HeapD} {vo v2 : Value} {wa : Option Addr} {wc : Nat} {ba : Option Addr} {bc : Nat} {sa : Option Addr} {sc : Nat} {fs : List OSh} {j : Nat} (h : CI W wr B g H vo wa wc ba bc sa sc fs j) (hB : B ≤ wr.heap.size) (hj : j < H.objs.length) (b5 : Below wr.heap.size wr w5) (t : OSh) (hn : t.n = H.objs[j].field.length) (ht : ownI w5 wr.heap.size (.slice t.f t.n t.c) H.objs[j].field)
    (r6 : w6.ownsRow B 61 8 v2 (j + 1) (((H.objs.take j).zip fs).flatMap cellsOb ++ cellsOb (H.objs[j], t))) (g6 : w5.grownBy w6 vo.ownBlock) : CI W (w6.setCell ⟨g, 0, none⟩ v2) B g H v2 wa wc ba bc sa sc (fs ++ [t]) (j + 1) := by
  have hgl := h.x.lt
  have hs5 := b5.size
  -- a block of another kind than objects and heaps is as it was
  have keep : ∀ (i : Nat) (cur : Array Value) (e : TypeId), w5.heap[i]? = some (.cells cur e (0, 0)) → e ≠ 61 → e ≠ 35 → (w6.setCell ⟨g, 0, none⟩ v2).heap[i]? = w5.heap[i]? := by
    intro i cur e hi h1 h2
    have hi5 : i < w5.heap.size := (Array.getElem?_eq_some_iff.1 hi).1
    have hg5 : w5.heap[g]? = _ := (b5.block g hgl).trans h.x
    rw [heap_setCell_other _ _ _ _ (by exact kind_ne hi hg5 h2)]
    refine g6.block i hi5 (fun e2 => ?_)
    obtain ⟨cur2, hc⟩ := row_kind (row_later h.ro b5) i e2.symm
    exact kind_ne hi hc h1 rfl
  have keepR : ∀ {n sz C : Nat} {e : TypeId} {v : Value} {xs : List Value}, w5.ownsRow C e sz v n xs → e ≠ 61 → e ≠ 35 → (w6.setCell ⟨g, 0, none⟩ v2).ownsRow C e sz v n xs := by
    intro n sz C e v xs hr h1 h2
    refine row_same hr (fun i hi => ?_)
    obtain ⟨cur, hc⟩ := row_kind hr i hi
    exact keep i cur e hc h1 h2
  have hx6 : w6.heap[g]? = w5.heap[g]? := g6.block g (by omega) (fun e2 => by
    obtain ⟨cur2, hc⟩ := row_kind (row_later h.ro b5) g e2.symm
    exact kind_ne hc ((b5.block g hgl).trans h.x) (by decide) rfl)
  have hne2 : ∀ i, v2.ownBlock = some i → i ≠ g := fun i hi => by
    obtain ⟨cur2, hc⟩ := row_kind r6 i hi
    exact kind_ne hc (hx6.trans ((b5.block g hgl).trans h.x)) (by decide)
  refine ⟨?_, ?_, h.gB, ?_, keepR (row_later h.rw b5) (by decide) (by decide), keepR (ownI_later h.rb b5) (by decide) (by decide), keepR (ownS_later h.rs b5) (by decide) (by decide), hj, by simp [h.fl], ?_, ?_, ?_⟩
  · refine Below.setCell ?_ h.gB _
    refine ((h.bel.trans (b5.mono hB)).grown g6 (by omega) (fun k hk => ?_))
    exact (World.ownsRow.lt h.ro k hk).1
  · exact Four.set0 ((h.x.later b5).same hx6) v2
  · have e1 : (H.objs.take (j + 1)).zip (fs ++ [t]) = (H.objs.take j).zip fs ++ [(H.objs[j], t)] := by
      rw [List.take_succ_eq_append_getElem hj, List.zip_append (by simp [h.fl]; omega)]
      rfl
    rw [e1, List.flatMap_append, List.flatMap_cons, List.flatMap_nil, List.append_nil]
    exact row_same r6 (fun i hi => heap_setCell_other _ _ _ _ (by exact hne2 i hi))
  · intro i hi hi2
    by_cases e : i < fs.length
    · rw [List.getElem_append_left e]
      obtain ⟨h1, h2⟩ := h.f i e hi2
      exact ⟨h1, keepR (ownI_later h2 b5) (by decide) (by decide)⟩
    · obtain rfl : i = fs.length := by simp at hi; omega
      have e2 : (fs ++ [t])[fs.length] = t := by simp
      have e3 : H.objs[fs.length] = H.objs[j] := by congr 1; exact h.fl
      rw [e2, e3]
      exact ⟨hn, keepR (ownI_mono ht hB) (by decide) (by decide)⟩
  · rw [List.pairwise_append]
    refine ⟨h.ff, by simp, fun a ha b hb => ?_⟩
    simp only [List.mem_singleton] at hb
    subst hb
    obtain ⟨i, hi, rfl⟩ := List.mem_iff_getElem.1 ha
    intro x y hx hy e
    have h1 := (ownI_lt (h.f i hi (by have := h.fl; omega)).2 _ (own_block hx)).2
    have h2 := (ownI_lt ht _ (own_block hy)).1
    omega
  · intro a ha
    rcases List.mem_append.1 ha with ha | ha
    · exact h.fb a ha
    · simp only [List.mem_singleton] at ha
      subst ha
      intro x y hx hy e
      have h1 := (ownI_lt h.rb _ (own_block hx)).2
      have h2 := (ownI_lt ht _ (own_block hy)).1
      omega
/-- All objects are appended: it is a heap of one's own. -/
theorem ci_end {W wr : World} {B g : Nat} {H : HeapD} {oa : Option Addr} {oc : Nat} {wa : Option Addr} {wc : Nat} {ba : Option Addr} {bc : Nat} {sa : Option Addr} {sc : Nat} {fs : List OSh} (h : CI W wr B g H (.slice oa H.objs.length oc) wa wc ba bc sa sc fs H.objs.length) :
    HM wr B ⟨oa, oc, fs, wa, H.weaks.length, wc, ba, H.buffer.length, bc, sa, H.sites.length, sc⟩ H where
  lo := h.fl
  lw := rfl
  lb := rfl
  ls := rfl
  o := by
    have hr := h.ro
    rw [List.take_length] at hr
    exact row_objs h.fl hr
  f := fun j hj hj2 => h.f j hj2 hj
  og := row_block h.ro
  wk := row_weaks h.rw
  wg := row_block h.rw
  b := h.rb
  st := h.rs
  sep := by
    have fk : ∀ t ∈ fs, ∃ zs : List Int, ownI wr B (.slice t.f t.n t.c) zs ∧ t.n = zs.length := by
      intro t ht
      obtain ⟨i, hi, rfl⟩ := List.mem_iff_getElem.1 ht
      have := h.f i hi (by have := h.fl; omega)
      exact ⟨_, this.2, this.1⟩
    have fd : ∀ {n sz : Nat} {e : TypeId} {a : Option Addr} {c : Nat} {xs : List Value}, wr.ownsRow B e sz (.slice a n c) n xs → e ≠ 3 → ∀ t ∈ fs, Dif a t.f := by
      intro n sz e a c xs hr hne t ht
      obtain ⟨zs, hz, hzn⟩ := fk t ht
      unfold ownI at hz
      rw [← hzn] at hz
      exact row_dif hr hz hne
    have hb := h.rb
    have hs := h.rs
    unfold ownI at hb
    unfold ownS at hs
    exact ⟨row_dif h.ro h.rw (by decide), row_dif h.ro hb (by decide), row_dif h.ro hs (by decide), row_dif h.rw hb (by decide), row_dif h.rw hs (by decide), row_dif hb hs (by decide), fd h.ro (by decide), fd h.rw (by decide), h.fb, fd hs (by decide), h.ff⟩

end Go.Proofs.Ytjhceoejblmihaa
