/- What toHeap and eqHeap do. -/
import Derived.Test.YtjhceoejblmihaaHeapWalks
namespace Go.Proofs.Ytjhceoejblmihaa
open Go.RowKit
set_option linter.unusedVariables false

theorem keep_far {w : World} {g : Nat} (p : Addr) (u : Value) (h : p.block ≠ g) (k : Nat) : (w.setCell p u).cell? ⟨g, k, none⟩ = w.cell? ⟨g, k, none⟩ :=
  World.cell?_setCell_other _ _ _ _ (by intro e; exact h (by rw [e]))
theorem laidO_far {w : World} {g j : Nat} {os : List ObjD} (p : Addr) (u : Value) (h : LaidO w g os j) (hp : p.block < g) : LaidO (w.setCell p u) g os j := by
  intro i hi hij
  obtain ⟨f, h1, h2, h3⟩ := h i hi hij
  exact ⟨f, h1.keep (fun k => keep_far p u (by omega) k), ownI_far p u h2 (by omega), fun k hk => by rw [World.frozen?_setCell]; exact h3 k hk⟩
theorem laidW_far {w : World} {g j : Nat} {ds : List WeakD} (p : Addr) (u : Value) (h : LaidW w g ds j) (hp : p.block < g) : LaidW (w.setCell p u) g ds j :=
  fun i hi hij => ⟨(h i hi hij).1.keep (fun k => keep_far p u (by omega) k), fun k hk => by rw [World.frozen?_setCell]; exact (h i hi hij).2 k hk⟩
theorem ownS_far {w : World} {B : Nat} {v : Value} {zs : List (List UInt8)} (p : Addr) (u : Value) (h : ownS w B v zs) (hp : p.block < B) : ownS (w.setCell p u) B v zs := by
  rcases h with ⟨h1, h2 | ⟨g, cap, cur, h2, h3, h4, h5⟩⟩
  · exact ⟨h1, .inl h2⟩
  · refine ⟨h1, .inr ⟨g, cap, cur, h2, h3, ?_, h5⟩⟩
    rw [heap_setCell_other w p g u (by omega)]
    exact h4

/-- A heap whose rows are all new, at or behind block B. -/
def OwnH (w : World) (B : Nat) (v : Value) (H : HeapD) : Prop := ∃ go gw vb vs, v = .agg #[.slice (some ⟨go, 0, none⟩) H.objs.length H.objs.length, .slice (some ⟨gw, 0, none⟩) H.weaks.length H.weaks.length, vb, vs] ∧
  B ≤ go ∧ go < w.heap.size ∧ LaidO w go H.objs H.objs.length ∧ B ≤ gw ∧ gw < w.heap.size ∧ LaidW w gw H.weaks H.weaks.length ∧ ownI w B vb H.buffer ∧ ownS w B vs H.sites
theorem ownH_rd {w : World} {B : Nat} {v : Value} {H : HeapD} (h : OwnH w B v H) : RdH w v H := by
  obtain ⟨go, gw, vb, vs, rfl, -, h1, h2, -, h3, h4, h5, h6⟩ := h
  obtain ⟨ab, cb, rfl, hb⟩ := rdI_own' h5
  obtain ⟨sa, sc, rfl, hs⟩ := rdS_own h6
  exact ⟨_, _, _, _, ab, cb, sa, sc, rfl, laidO_rd h2 h1, laidW_rd h4 h3, hb, hs.out⟩
theorem ownH_later {w w' : World} {B : Nat} {v : Value} {H : HeapD} (h : OwnH w B v H) (hb : Below w.heap.size w w') : OwnH w' B v H := by
  obtain ⟨go, gw, vb, vs, rfl, b1, h1, h2, b2, h3, h4, h5, h6⟩ := h
  exact ⟨go, gw, vb, vs, rfl, b1, Nat.lt_of_lt_of_le h1 hb.size, laidO_later h2 hb h1, b2, Nat.lt_of_lt_of_le h3 hb.size, laidW_later h4 hb h3, ownI_later h5 hb, ownS_later h6 hb⟩

/-- The three blocks that toHeap works with: what came in, the result, and the one that is filled. -/
structure Frm (s : Nat) (X : World) (ps xs : Array Value) : Prop where
  p : ∀ k, X.cell? ⟨s, k, none⟩ = ps[k]?
  r : ∀ k, X.cell? ⟨s + 1, k, none⟩ = (#[Value.slice none 0 0, .slice none 0 0, .slice none 0 0, .slice none 0 0] : Array Value)[k]?
  o : ∀ k, X.cell? ⟨s + 1 + 1, k, none⟩ = xs[k]?
  fr : ∀ k, X.frozen? ⟨s + 1, k, none⟩ = false
  fo : ∀ k, X.frozen? ⟨s + 1 + 1, k, none⟩ = false
  sz : s + 1 + 1 < X.heap.size
theorem Frm.later {s : Nat} {X Y : World} {ps xs : Array Value} (h : Frm s X ps xs) (hb : Below X.heap.size X Y) : Frm s Y ps xs := by
  have hs := h.sz
  refine ⟨fun k => ?_, fun k => ?_, fun k => ?_, fun k => ?_, fun k => ?_, Nat.lt_of_lt_of_le hs hb.size⟩
  · rw [hb.cell (p := ⟨s, k, none⟩) (by show s < _; omega)]; exact h.p k
  · rw [hb.cell (p := ⟨s + 1, k, none⟩) (by show s + 1 < _; omega)]; exact h.r k
  · rw [hb.cell (p := ⟨s + 1 + 1, k, none⟩) hs]; exact h.o k
  · rw [hb.frozen (p := ⟨s + 1, k, none⟩) (by show s + 1 < _; omega)]; exact h.fr k
  · rw [hb.frozen (p := ⟨s + 1 + 1, k, none⟩) hs]; exact h.fo k
theorem Frm.set {s : Nat} {X : World} {ps xs : Array Value} (h : Frm s X ps xs) (i : Nat) (u : Value) (hi : i < xs.size) : Frm s (X.setCell ⟨s + 1 + 1, i, none⟩ u) ps (xs.setIfInBounds i u) := by
  have hs := h.sz
  refine ⟨fun k => ?_, fun k => ?_, fun k => ?_, fun k => ?_, fun k => ?_, by simpa [World.setCell] using hs⟩
  · rw [keep_far _ _ (by show s + 1 + 1 ≠ s; omega)]; exact h.p k
  · rw [keep_far _ _ (by show s + 1 + 1 ≠ s + 1; omega)]; exact h.r k
  · by_cases e : i = k
    · subst e
      rw [World.cell?_setCell_same X _ u ((h.o i).trans (Array.getElem?_eq_getElem hi)), Array.getElem?_setIfInBounds_self_of_lt hi]
    · rw [cell_far _ _ _ _ _ e, h.o k, Array.getElem?_setIfInBounds_ne e]
  · rw [World.frozen?_setCell]; exact h.fr k
  · rw [World.frozen?_setCell]; exact h.fo k

theorem toHeap_calls (w : World) (v : Value) (H : HeapD) (h : RdH w v H) (hs : SmallH H) :
    Calls Try.prog 11 #[v] w fun e w' => ∃ u, e = .returned u ∧ OwnH w' w.heap.size u H ∧ Below w.heap.size w w' := by
  obtain ⟨ao, co, aw, cw, ab, cb, sa, sc, rfl, ro, rwk, ri, rs⟩ := h
  obtain ⟨W, hW⟩ : ∃ W, W = ((w.alloc (.cells #[.slice ao H.objs.length co, .slice aw H.weaks.length cw, .slice ab H.buffer.length cb, .slice sa H.sites.length sc] 27)).alloc (.cells #[.slice none 0 0, .slice none 0 0, .slice none 0 0, .slice none 0 0] 35)).alloc (.cells #[.slice none 0 0, .slice none 0 0, .slice none 0 0, .slice none 0 0] 35) := ⟨_, rfl⟩
  have BW : Below w.heap.size w W := by
    rw [hW]
    exact (((Below.refl _ _).alloc (Nat.le_refl _) _).alloc (by simp) _).alloc (by simp; omega) _
  have hWs : W.heap.size = w.heap.size + 1 + 1 + 1 := by rw [hW]; simp
  have F0 : Frm w.heap.size W #[.slice ao H.objs.length co, .slice aw H.weaks.length cw, .slice ab H.buffer.length cb, .slice sa H.sites.length sc] #[.slice none 0 0, .slice none 0 0, .slice none 0 0, .slice none 0 0] := by
    refine ⟨fun k => ?_, fun k => ?_, fun k => ?_, fun k => ?_, fun k => ?_, by omega⟩
    · rw [hW, World.cell?_alloc_lt _ _ _ (by simp; omega), World.cell?_alloc_lt _ _ _ (by simp), World.cell?_alloc_mark]
    · rw [hW, World.cell?_alloc_lt _ _ _ (by simp), show w.heap.size + 1 = (w.alloc (.cells #[.slice ao H.objs.length co, .slice aw H.weaks.length cw, .slice ab H.buffer.length cb, .slice sa H.sites.length sc] 27)).heap.size from by simp, World.cell?_alloc_mark]
    · rw [hW, show w.heap.size + 1 + 1 = ((w.alloc (.cells #[.slice ao H.objs.length co, .slice aw H.weaks.length cw, .slice ab H.buffer.length cb, .slice sa H.sites.length sc] 27)).alloc (.cells #[.slice none 0 0, .slice none 0 0, .slice none 0 0, .slice none 0 0] 35)).heap.size from by simp, World.cell?_alloc_mark]
    · have e : W.frozen? ⟨w.heap.size + 1, k, none⟩ = ((w.alloc (.cells #[.slice ao H.objs.length co, .slice aw H.weaks.length cw, .slice ab H.buffer.length cb, .slice sa H.sites.length sc] 27)).alloc (.cells #[.slice none 0 0, .slice none 0 0, .slice none 0 0, .slice none 0 0] 35)).frozen? ⟨w.heap.size + 1, k, none⟩ := by
        rw [hW]
        exact ((Below.refl _ _).alloc (Nat.le_refl _) _).frozen (p := ⟨w.heap.size + 1, k, none⟩) (by show w.heap.size + 1 < _; simp)
      rw [e, show w.heap.size + 1 = (w.alloc (.cells #[.slice ao H.objs.length co, .slice aw H.weaks.length cw, .slice ab H.buffer.length cb, .slice sa H.sites.length sc] 27)).heap.size from by simp, World.frozen?_alloc_mark]
      simp
    · rw [hW, show w.heap.size + 1 + 1 = ((w.alloc (.cells #[.slice ao H.objs.length co, .slice aw H.weaks.length cw, .slice ab H.buffer.length cb, .slice sa H.sites.length sc] 27)).alloc (.cells #[.slice none 0 0, .slice none 0 0, .slice none 0 0, .slice none 0 0] 35)).heap.size from by simp, World.frozen?_alloc_mark]
      simp
  have HF0 : Hid (Frm _ _ _ _) := F0
  clear F0
  have RO : Hid (RdO W ao H.objs) := rdO_later ro BW
  have RW : Hid (∀ X, Below w.heap.size w X → RdW X aw H.weaks) := fun X hX => rdW_later rwk hX
  have RI : Hid (∀ X, Below w.heap.size w X → RdI X ab H.buffer) := fun X hX => rdI_later ri hX
  have RS : Hid (∀ X, Below w.heap.size w X → RdS X sa H.sites) := fun X hX => rdS_later rs hX
  clear ro rwk ri rs
  have s1 : H.objs.length ≤ 1677721 := by have := hs.objs; omega
  have s2 : ∀ z ∈ H.objs, z.field.length ≤ 16777216 := fun z hz => by have := hs.fields z hz; omega
  have s3 : H.weaks.length ≤ 1677721 := by have := hs.weaks; omega
  have s4 : H.buffer.length ≤ 16777216 := by have := hs.buffer; omega
  have s5 : H.sites.length ≤ 16777216 := by have := hs.sites; omega
  have S2 : Hid _ := s2
  clear s2
  go_enter Try.func11, Try.ntmps11
  go_wp2_with fail
  rw [← hW]
  refine (toObjS_calls W ao co H.objs RO.out s1 S2.out).mono ?_
  rintro e w1 ⟨rfl, L1, g1, b1⟩
  clear hW
  have B1 := BW.trans (b1.mono (by omega))
  have F1 := HF0.out.later b1
  obtain ⟨go, hgo⟩ : ∃ go, W.heap.size = go := ⟨_, rfl⟩
  have Hgo : Hid (w.heap.size + 1 + 1 + 1 = go) := by show _ = _; omega
  rw [hgo] at L1 g1 ⊢
  clear hgo hWs b1 BW RO HF0
  have c0 := F1.o 0
  have f0 := F1.fo 0
  have p1 := F1.p 1
  have G1 := F1.set 0 (.slice (some ⟨go, 0, none⟩) H.objs.length H.objs.length) (by simp)
  have M1 := laidO_far ⟨w.heap.size + 1 + 1, 0, none⟩ (.slice (some ⟨go, 0, none⟩) H.objs.length H.objs.length) L1 (by show w.heap.size + 1 + 1 < go; have := Hgo.out; omega)
  have D1 := B1.setCell (p := ⟨w.heap.size + 1 + 1, 0, none⟩) (by show w.heap.size ≤ w.heap.size + 1 + 1; omega) (.slice (some ⟨go, 0, none⟩) H.objs.length H.objs.length)
  have q1 : go < (w1.setCell ⟨w.heap.size + 1 + 1, 0, none⟩ (.slice (some ⟨go, 0, none⟩) H.objs.length H.objs.length)).heap.size := by simpa [World.setCell] using g1
  simp at c0 p1
  clear F1 L1 B1 g1
  go_wp2_with fail
  generalize w1.setCell ⟨w.heap.size + 1 + 1, 0, none⟩ (.slice (some ⟨go, 0, none⟩) H.objs.length H.objs.length) = X1 at *
  clear c0 f0 p1
  refine (toWeakS_calls X1 aw cw H.weaks (RW.out X1 D1) s3).mono ?_
  rintro e w2 ⟨rfl, L2, g2, b2⟩
  have B2 := D1.trans (b2.mono D1.size)
  have F2 := G1.later b2
  have M2 := laidO_later M1 b2 q1
  have q2 : go < w2.heap.size := Nat.lt_of_lt_of_le q1 b2.size
  obtain ⟨gw, hgw⟩ : ∃ gw, X1.heap.size = gw := ⟨_, rfl⟩
  have Hgw : Hid (go < gw) := by show _ < _; omega
  rw [hgw] at L2 g2 ⊢
  clear hgw b2 G1 M1 D1 q1
  have c0 := F2.o 1
  have f0 := F2.fo 1
  have p1 := F2.p 2
  have G2 := F2.set 1 (.slice (some ⟨gw, 0, none⟩) H.weaks.length H.weaks.length) (by simp)
  have N2 := laidO_far ⟨w.heap.size + 1 + 1, 1, none⟩ (.slice (some ⟨gw, 0, none⟩) H.weaks.length H.weaks.length) M2 (by show w.heap.size + 1 + 1 < go; have := Hgo.out; omega)
  have K2 := laidW_far ⟨w.heap.size + 1 + 1, 1, none⟩ (.slice (some ⟨gw, 0, none⟩) H.weaks.length H.weaks.length) L2 (by show w.heap.size + 1 + 1 < gw; have := Hgo.out; have := Hgw.out; omega)
  have D2 := B2.setCell (p := ⟨w.heap.size + 1 + 1, 1, none⟩) (by show w.heap.size ≤ w.heap.size + 1 + 1; omega) (.slice (some ⟨gw, 0, none⟩) H.weaks.length H.weaks.length)
  have q3 : go < (w2.setCell ⟨w.heap.size + 1 + 1, 1, none⟩ (.slice (some ⟨gw, 0, none⟩) H.weaks.length H.weaks.length)).heap.size ∧ gw < (w2.setCell ⟨w.heap.size + 1 + 1, 1, none⟩ (.slice (some ⟨gw, 0, none⟩) H.weaks.length H.weaks.length)).heap.size := by simpa [World.setCell] using ⟨q2, g2⟩
  simp at c0 p1
  clear F2 L2 M2 B2 g2 q2
  go_wp2_with fail
  generalize w2.setCell ⟨w.heap.size + 1 + 1, 1, none⟩ (.slice (some ⟨gw, 0, none⟩) H.weaks.length H.weaks.length) = X2 at *
  clear c0 f0 p1
  refine (toIntS_calls X2 ab cb H.buffer (RI.out X2 D2) s4).mono ?_
  rintro e w3 ⟨vb, rfl, O3, b3⟩
  have B3 := D2.trans (b3.mono D2.size)
  have F3 := G2.later b3
  have M3 := laidO_later N2 b3 q3.1
  have K3 := laidW_later K2 b3 q3.2
  have q4 : go < w3.heap.size ∧ gw < w3.heap.size := ⟨Nat.lt_of_lt_of_le q3.1 b3.size, Nat.lt_of_lt_of_le q3.2 b3.size⟩
  have P3 := ownI_mono O3 (Nat.le_of_lt q3.1)
  clear b3 O3 G2 N2 K2 D2 q3
  obtain ⟨ba, bc, rfl, -⟩ := ownI_read P3
  have c0 := F3.o 2
  have f0 := F3.fo 2
  have p1 := F3.p 3
  have G3 := F3.set 2 (.slice ba H.buffer.length bc) (by simp)
  have N3 := laidO_far ⟨w.heap.size + 1 + 1, 2, none⟩ (.slice ba H.buffer.length bc) M3 (by show w.heap.size + 1 + 1 < go; have := Hgo.out; omega)
  have J3 := laidW_far ⟨w.heap.size + 1 + 1, 2, none⟩ (.slice ba H.buffer.length bc) K3 (by show w.heap.size + 1 + 1 < gw; have := Hgo.out; have := Hgw.out; omega)
  have Q3 := ownI_far ⟨w.heap.size + 1 + 1, 2, none⟩ (.slice ba H.buffer.length bc) P3 (by show w.heap.size + 1 + 1 < go; have := Hgo.out; omega)
  have D3 := B3.setCell (p := ⟨w.heap.size + 1 + 1, 2, none⟩) (by show w.heap.size ≤ w.heap.size + 1 + 1; omega) (.slice ba H.buffer.length bc)
  have q5 : go < (w3.setCell ⟨w.heap.size + 1 + 1, 2, none⟩ (.slice ba H.buffer.length bc)).heap.size ∧ gw < (w3.setCell ⟨w.heap.size + 1 + 1, 2, none⟩ (.slice ba H.buffer.length bc)).heap.size := by simpa [World.setCell] using q4
  simp at c0 p1
  clear F3 M3 K3 P3 B3 q4
  go_wp2_with fail
  generalize w3.setCell ⟨w.heap.size + 1 + 1, 2, none⟩ (.slice ba H.buffer.length bc) = X3 at *
  clear c0 f0 p1
  refine (toStringS_calls X3 sa sc H.sites (RS.out X3 D3) s5).mono ?_
  rintro e w4 ⟨vs, rfl, O4, b4⟩
  have B4 := D3.trans (b4.mono D3.size)
  have F4 := G3.later b4
  have M4 := laidO_later N3 b4 q5.1
  have K4 := laidW_later J3 b4 q5.2
  have Q4 := ownI_later Q3 b4
  have q6 : go < w4.heap.size ∧ gw < w4.heap.size := ⟨Nat.lt_of_lt_of_le q5.1 b4.size, Nat.lt_of_lt_of_le q5.2 b4.size⟩
  have P4 := ownS_mono O4 (Nat.le_of_lt q5.1)
  clear b4 O4 G3 N3 J3 Q3 D3 q5 RS RI RW
  obtain ⟨da, dc, rfl, -⟩ := rdS_own P4
  have o0 := F4.o 0
  have o1 := F4.o 1
  have o2 := F4.o 2
  have o3 := F4.o 3
  have f3 := F4.fo 3
  have r0 := F4.r 0
  have r1 := F4.r 1
  have r2 := F4.r 2
  have r3 := F4.r 3
  have e0 := F4.fr 0
  have e1 := F4.fr 1
  have e2 := F4.fr 2
  have e3 := F4.fr 3
  simp at o0 o1 o2 o3 r0 r1 r2 r3
  have HM : Hid _ := M4
  have HK : Hid _ := K4
  have HQ : Hid _ := Q4
  have HP : Hid _ := P4
  have HB : Hid _ := B4
  have Hq : Hid _ := q6
  clear F4 M4 K4 Q4 P4 B4 q6
  go_wp2
  refine bodyPost_ret (v := .agg #[.slice (some ⟨go, 0, none⟩) H.objs.length H.objs.length, .slice (some ⟨gw, 0, none⟩) H.weaks.length H.weaks.length, .slice ba H.buffer.length bc, .slice da H.sites.length dc]) (by simp [results, Try.results11, go_sem, *]) rfl ⟨_, rfl, ⟨go, gw, _, _, rfl, ?_, ?_, ?_, ?_, ?_, ?_, ?_, ?_⟩, ?_⟩
  all_goals have hgo := Hgo.out
  all_goals have hgw := Hgw.out
  · omega
  · simpa [World.setCell] using Hq.out.1
  · iterate 5 refine laidO_far _ _ ?_ (by show _ < go; simp only; omega)
    exact HM.out
  · omega
  · simpa [World.setCell] using Hq.out.2
  · iterate 5 refine laidW_far _ _ ?_ (by show _ < gw; simp only; omega)
    exact HK.out
  · refine ownI_mono (B := go) ?_ (by omega)
    iterate 5 refine ownI_far _ _ ?_ (by show _ < go; simp only; omega)
    exact HQ.out
  · refine ownS_mono (B := go) ?_ (by omega)
    iterate 5 refine ownS_far _ _ ?_ (by show _ < go; simp only; omega)
    exact HP.out
  · iterate 5 refine Below.setCell ?_ (by simp only; omega) _
    exact HB.out

theorem eqHeap_calls (w : World) (v u : Value) (H : HeapD) (h1 : RdH w v H) (h2 : RdH w u H) (hs : SmallH H) :
    Calls Try.prog 14 #[v, u] w fun e w' => e = .returned (.bool true) ∧ Below w.heap.size w w' := by
  obtain ⟨ao, co, aw, cw, ab, cb, sa, sc, rfl, ro, rwk, ri, rs⟩ := h1
  obtain ⟨ao2, co2, aw2, cw2, ab2, cb2, sa2, sc2, rfl, ro2, rwk2, ri2, rs2⟩ := h2
  obtain ⟨W, hW⟩ : ∃ W, W = (w.alloc (.cells #[.slice ao H.objs.length co, .slice aw H.weaks.length cw, .slice ab H.buffer.length cb, .slice sa H.sites.length sc] 35)).alloc (.cells #[.slice ao2 H.objs.length co2, .slice aw2 H.weaks.length cw2, .slice ab2 H.buffer.length cb2, .slice sa2 H.sites.length sc2] 35) := ⟨_, rfl⟩
  have BW : Below w.heap.size w W := by
    rw [hW]
    exact ((Below.refl _ _).alloc (Nat.le_refl _) _).alloc (by simp) _
  have hWs : W.heap.size = w.heap.size + 1 + 1 := by rw [hW]; simp
  have HP : Hid (∀ X, Below W.heap.size W X → ∀ k, X.cell? ⟨w.heap.size, k, none⟩ = (#[Value.slice ao H.objs.length co, .slice aw H.weaks.length cw, .slice ab H.buffer.length cb, .slice sa H.sites.length sc] : Array Value)[k]?) := by
    intro X hX k
    rw [hX.cell (p := ⟨w.heap.size, k, none⟩) (by show w.heap.size < _; omega), hW, World.cell?_alloc_lt _ _ _ (by simp), World.cell?_alloc_mark]
  have HP2 : Hid (∀ X, Below W.heap.size W X → ∀ k, X.cell? ⟨w.heap.size + 1, k, none⟩ = (#[Value.slice ao2 H.objs.length co2, .slice aw2 H.weaks.length cw2, .slice ab2 H.buffer.length cb2, .slice sa2 H.sites.length sc2] : Array Value)[k]?) := by
    intro X hX k
    rw [hX.cell (p := ⟨w.heap.size + 1, k, none⟩) (by show w.heap.size + 1 < _; omega), hW, show w.heap.size + 1 = (w.alloc (.cells #[.slice ao H.objs.length co, .slice aw H.weaks.length cw, .slice ab H.buffer.length cb, .slice sa H.sites.length sc] 35)).heap.size from by simp, World.cell?_alloc_mark]
  have CO : Hid (∀ X, Below w.heap.size w X → _) := fun X hX => eqObjS_calls X ao ao2 co co2 H.objs (rdO_later ro hX) (rdO_later ro2 hX) (by have := hs.objs; omega) (fun z hz => by have := hs.fields z hz; omega)
  have CW : Hid (∀ X, Below w.heap.size w X → _) := fun X hX => eqWeakS_calls X aw aw2 cw cw2 H.weaks (rdW_later rwk hX) (rdW_later rwk2 hX) (by have := hs.weaks; omega)
  have CI : Hid (∀ X, Below w.heap.size w X → _) := fun X hX => eqIntS_rd X ab ab2 cb cb2 H.buffer (rdI_later ri hX) (rdI_later ri2 hX) (by have := hs.buffer; omega)
  have CS : Hid (∀ X, Below w.heap.size w X → _) := fun X hX => eqStringS_rd X sa sa2 sc sc2 H.sites (rdS_later rs hX) (rdS_later rs2 hX) (by have := hs.sites; omega)
  clear ro rwk ri rs ro2 rwk2 ri2 rs2
  go_enter Try.func14, Try.ntmps14
  go_wp2_with fail
  rw [← hW]
  have B0 := BW
  have T0 : Below W.heap.size W W := Below.refl _ _
  refine (CO.out _ B0).mono ?_
  rintro e w1 ⟨rfl, b1⟩
  have B1 := B0.trans (b1.mono B0.size)
  have T1 := T0.trans (b1.mono T0.size)
  have k1 := HP.out _ T1 1
  have l1 := HP2.out _ T1 1
  simp at k1 l1
  clear hW hWs
  go_wp2_with fail
  refine (CW.out _ B1).mono ?_
  rintro e w2 ⟨rfl, b2⟩
  have B2 := B1.trans (b2.mono B1.size)
  have T2 := T1.trans (b2.mono T1.size)
  have k2 := HP.out _ T2 2
  have l2 := HP2.out _ T2 2
  simp at k2 l2
  clear k1 l1
  go_wp2_with fail
  refine (CI.out _ B2).mono ?_
  rintro e w3 ⟨rfl, b3⟩
  have B3 := B2.trans (b3.mono B2.size)
  have T3 := T2.trans (b3.mono T2.size)
  have k3 := HP.out _ T3 3
  have l3 := HP2.out _ T3 3
  simp at k3 l3
  clear k2 l2
  go_wp2_with fail
  refine (CS.out _ B3).mono ?_
  rintro e w4 ⟨rfl, b4⟩
  have B4 := B3.trans (b4.mono B3.size)
  have T4 := T3.trans (b4.mono T3.size)
  clear k3 l3
  go_wp2
  go_ret
  exact ⟨rfl, B4⟩

end Go.Proofs.Ytjhceoejblmihaa
