/- Graphs as the laws have them: what szGraph, toGraph and eqGraph do; an argument that is a graph, opened. -/
import Derived.Test.YtjihbmkhifnblaaNodeBase
namespace Go.Proofs.Ytjihbmkhifnblaa
open Go.RowKit
set_option linter.unusedVariables false

structure GrD where
  nodes : List NodeD
  weaks : List WeakD
  sites : List (List UInt8)
/-- A graph's value, as one who only reads has it. -/
def RdG (w : World) (v : Value) (G : GrD) : Prop := ∃ ao co aw cw sa sc, v = .agg #[.slice ao G.nodes.length co, .slice aw G.weaks.length cw, .slice sa G.sites.length sc] ∧ RdN w ao G.nodes ∧ RdW w aw G.weaks ∧ RdS w sa G.sites
theorem rdG_later {w w' : World} {v : Value} {G : GrD} (h : RdG w v G) (hb : Below w.heap.size w w') : RdG w' v G := by
  obtain ⟨ao, co, aw, cw, sa, sc, h1, h2, h3, h5⟩ := h
  exact ⟨ao, co, aw, cw, sa, sc, h1, rdN_later h2 hb, rdW_later h3 hb, rdS_later h5 hb⟩
theorem rdG_form {w : World} {v : Value} {G : GrD} (r : RdG w v G) : ∃ a0 n0 k0 a1 n1 k1 a2 n2 k2, v = .agg #[.slice a0 n0 k0, .slice a1 n1 k1, .slice a2 n2 k2] := by
  obtain ⟨ao, co, aw, cw, sa, sc, h1, -⟩ := r
  exact ⟨_, _, _, _, _, _, _, _, _, h1⟩
def WfN (o : NodeD) : Prop := in64 o.gen ∧ in64 o.site ∧ in64 o.holds ∧ in64 o.roots ∧ ∀ z ∈ o.field, in64 z
structure WfG (G : GrD) : Prop where
  nodes : ∀ o ∈ G.nodes, WfN o
  weaks : ∀ d ∈ G.weaks, in64 d.target
structure SaneG (G : GrD) : Prop where
  wf : WfG G
  nodes : G.nodes.length ≤ 9223372036854775807
  fields : ∀ z ∈ G.nodes, z.field.length ≤ 9223372036854775807
  weaks : G.weaks.length ≤ 9223372036854775807
  sites : G.sites.length ≤ 9223372036854775807
  names : ∀ z ∈ G.sites, z.length ≤ 9223372036854775807
structure SmallG (G : GrD) : Prop where
  nodes : G.nodes.length ≤ 1048576
  fields : ∀ z ∈ G.nodes, z.field.length ≤ 1048576
  weaks : G.weaks.length ≤ 1048576
  sites : G.sites.length ≤ 1048576
  names : ∀ z ∈ G.sites, z.length ≤ 1048576
/-- What is left of a size behind a graph. -/
def szG (G : GrD) (left : Int) : Int :=
  if szNd G.nodes left < 0 then -1
  else if szN G.weaks.length (szNd G.nodes left) < 0 then -1
  else if szS G.sites (szN G.weaks.length (szNd G.nodes left)) < 0 then -1
  else szS G.sites (szN G.weaks.length (szNd G.nodes left))
theorem szG_le (G : GrD) (left : Int) (h : -1 ≤ left) : szG G left ≤ left ∧ -1 ≤ szG G left := by
  unfold szG
  have hl := szNd_le G.nodes left h
  split
  · omega
  have hl2 := szN_le G.weaks.length (szNd G.nodes left) (by omega)
  split
  · omega
  have hl4 := szS_le G.sites (szN G.weaks.length (szNd G.nodes left)) (by omega)
  split <;> omega
theorem szG_small (G : GrD) (left : Int) (h0 : left ≤ 1048576) (h1 : -1 ≤ left) (h : ¬ szG G left < 0) : SmallG G := by
  unfold szG at h
  have hl := szNd_le G.nodes left h1
  split at h
  · omega
  rename_i h1
  have hl2 := szN_le G.weaks.length (szNd G.nodes left) (by omega)
  split at h
  · omega
  rename_i h2
  split at h
  · omega
  rename_i h4
  obtain ⟨a1, a2⟩ := szNd_facts G.nodes left (by omega)
  obtain ⟨b1, b2⟩ := szS_facts G.sites _ (Int.not_lt.1 h4)
  have c1 : (G.weaks.length : Int) ≤ szNd G.nodes left := by unfold szN at h2; split at h2 <;> omega
  exact ⟨by omega, fun z hz => by have := a2 z hz; omega, by omega, by omega, fun z hz => by have := b2 z hz; omega⟩

/-- A new block of three slices, in every later world. -/
theorem three_kept (w : World) (t : TypeId) (x0 x1 x2 : Value) (X : World) (hb : Below (w.heap.size + 1) (w.alloc (.cells #[x0, x1, x2] t)) X) :
    X.cell? ⟨w.heap.size, 0, none⟩ = some x0 ∧ X.cell? ⟨w.heap.size, 1, none⟩ = some x1 ∧ X.cell? ⟨w.heap.size, 2, none⟩ = some x2 := by
  have h : ∀ k, X.cell? ⟨w.heap.size, k, none⟩ = (#[x0, x1, x2] : Array Value)[k]? := fun k => by
    rw [hb.cell (p := ⟨w.heap.size, k, none⟩) (by show w.heap.size < _; omega), World.cell?_alloc_mark]
  exact ⟨h 0, h 1, h 2⟩

theorem szGraph_calls (w : World) (v : Value) (G : GrD) (left : Int) (h : RdG w v G) (hs : SaneG G) (h0 : 0 ≤ left) (h1 : left ≤ 1048576) :
    Calls Try.prog 11 #[v, .int .i64 left] w fun e w' => e = .returned (.int .i64 (szG G left)) ∧ Below w.heap.size w w' := by
  obtain ⟨ao, co, aw, cw, sa, sc, rfl, ro, rw, rs⟩ := h
  obtain ⟨W, hW⟩ : ∃ W, W = w.alloc (.cells #[.slice ao G.nodes.length co, .slice aw G.weaks.length cw, .slice sa G.sites.length sc] 34) := ⟨_, rfl⟩
  have BW : Below w.heap.size w W := by rw [hW]; exact (Below.refl _ _).alloc (Nat.le_refl _) _
  have hWs : W.heap.size = w.heap.size + 1 := by rw [hW]; simp
  have HK : Hid (∀ X, Below W.heap.size W X → X.cell? ⟨w.heap.size, 0, none⟩ = some (.slice ao G.nodes.length co) ∧ X.cell? ⟨w.heap.size, 1, none⟩ = some (.slice aw G.weaks.length cw) ∧ X.cell? ⟨w.heap.size, 2, none⟩ = some (.slice sa G.sites.length sc)) := by
    intro X hX
    rw [hWs, hW] at hX
    exact three_kept w _ _ _ _ X hX
  have C1 : Hid (∀ X : Unit, _) := fun (_ : Unit) => szNodeS_calls W ao co G.nodes left (rdN_later ro BW) hs.nodes hs.fields h0 h1
  have l1 := szNd_le G.nodes left (by omega)
  have HS : Hid (szG G left = if szNd G.nodes left < 0 then -1 else if szN G.weaks.length (szNd G.nodes left) < 0 then -1 else if szS G.sites (szN G.weaks.length (szNd G.nodes left)) < 0 then -1 else szS G.sites (szN G.weaks.length (szNd G.nodes left))) := rfl
  have C2 : Hid (∀ X (l : Int), 0 ≤ l → l ≤ 1048576 → _) := fun X l hl0 hl1 => szWeakS_calls X aw cw G.weaks.length l hs.weaks hl0 hl1
  have C4 : Hid (∀ X (l : Int), Below W.heap.size W X → 0 ≤ l → l ≤ 1048576 → _) := fun X l hX hl0 hl1 => szStringS_calls X sa sc G.sites l (rdS_later (rdS_later rs BW) hX) hs.sites hs.names hl0 hl1
  generalize szNd G.nodes left = a at *
  by_cases n1 : a < 0
  · rw [if_pos n1] at HS
    go_enter Try.func11, Try.ntmps11
    go_wp2_with fail
    rw [← hW]
    refine (C1.out ()).mono ?_
    rintro e w1 ⟨rfl, b1⟩
    have B1 := BW.trans (b1.mono (by omega))
    clear hW
    go_wp2
    go_ret
    exact ⟨ret_zz HS.out.symm, B1⟩
  · rw [if_neg n1] at HS
    have C2a : Hid (∀ X, _) := fun X => C2.out X a (by omega) (by omega)
    have l2 := szN_le G.weaks.length a (by omega)
    rw [show (if a - (G.weaks.length : Int) < 0 then -1 else a - (G.weaks.length : Int)) = szN G.weaks.length a from rfl] at C2a
    generalize szN G.weaks.length a = b at *
    have m1 : 0 ≤ a := by omega
    by_cases n2 : b < 0
    · rw [if_pos n2] at HS
      go_enter Try.func11, Try.ntmps11
      go_wp2_with fail
      rw [← hW]
      refine (C1.out ()).mono ?_
      rintro e w1 ⟨rfl, b1⟩
      have B1 := BW.trans (b1.mono (by omega))
      obtain ⟨k0, k1, k2⟩ := HK.out _ b1
      clear hW n1
      go_wp2_with fail
      refine (C2a.out _).mono ?_
      rintro e w2 ⟨rfl, rfl⟩
      go_wp2
      go_ret
      exact ⟨ret_zz HS.out.symm, B1⟩
    · rw [if_neg n2] at HS
      have C4a : Hid (∀ X, Below W.heap.size W X → _) := fun X hX => C4.out X b hX (by omega) (by omega)
      have l4 := szS_le G.sites b (by omega)
      generalize szS G.sites b = d at *
      have m3 : 0 ≤ b := by omega
      by_cases n4 : d < 0
      · rw [if_pos n4] at HS
        have m5 : d < 0 := n4
        go_enter Try.func11, Try.ntmps11
        go_wp2_with fail
        rw [← hW]
        refine (C1.out ()).mono ?_
        rintro e w1 ⟨rfl, b1⟩
        have B1 := BW.trans (b1.mono (by omega))
        have C4b := C4a.out _ b1
        have HC4 : Hid _ := C4b
        obtain ⟨k0, k1, k2⟩ := HK.out _ b1
        clear hW n1 n2 n4 C4b
        go_wp2_with fail
        refine (C2a.out _).mono ?_
        rintro e w2 ⟨rfl, rfl⟩
        go_wp2_with fail
        refine (Calls.mono HC4.out ?_)
        rintro e w4 ⟨rfl, rfl⟩
        go_wp2
        go_ret
        exact ⟨ret_zz HS.out.symm, B1⟩
      · rw [if_neg n4] at HS
        have m4 : 0 ≤ d := by omega
        go_enter Try.func11, Try.ntmps11
        go_wp2_with fail
        rw [← hW]
        refine (C1.out ()).mono ?_
        rintro e w1 ⟨rfl, b1⟩
        have B1 := BW.trans (b1.mono (by omega))
        have C4b := C4a.out _ b1
        have HC4 : Hid _ := C4b
        obtain ⟨k0, k1, k2⟩ := HK.out _ b1
        clear hW n1 n2 n4 C4b
        go_wp2_with fail
        refine (C2a.out _).mono ?_
        rintro e w2 ⟨rfl, rfl⟩
        go_wp2_with fail
        refine (Calls.mono HC4.out ?_)
        rintro e w4 ⟨rfl, rfl⟩
        go_wp2
        go_ret
        exact ⟨ret_zz HS.out.symm, B1⟩

/-- A graph whose rows are all new, at or behind block B. -/
def OwnG (w : World) (B : Nat) (v : Value) (G : GrD) : Prop := ∃ go gw vs, v = .agg #[.slice (some ⟨go, 0, none⟩) G.nodes.length G.nodes.length, .slice (some ⟨gw, 0, none⟩) G.weaks.length G.weaks.length, vs] ∧
  B ≤ go ∧ go < w.heap.size ∧ LaidN w go G.nodes G.nodes.length ∧ B ≤ gw ∧ gw < w.heap.size ∧ LaidW w gw G.weaks G.weaks.length ∧ ownS w B vs G.sites
theorem ownG_rd {w : World} {B : Nat} {v : Value} {G : GrD} (h : OwnG w B v G) : RdG w v G := by
  obtain ⟨go, gw, vs, rfl, -, h1, h2, -, h3, h4, h6⟩ := h
  obtain ⟨sa, sc, rfl, hs⟩ := rdS_own h6
  exact ⟨_, _, _, _, sa, sc, rfl, laidN_rd h2 h1, laidW_rd h4 h3, hs.out⟩
theorem ownG_later {w w' : World} {B : Nat} {v : Value} {G : GrD} (h : OwnG w B v G) (hb : Below w.heap.size w w') : OwnG w' B v G := by
  obtain ⟨go, gw, vs, rfl, b1, h1, h2, b2, h3, h4, h6⟩ := h
  exact ⟨go, gw, vs, rfl, b1, Nat.lt_of_lt_of_le h1 hb.size, laidN_later h2 hb h1, b2, Nat.lt_of_lt_of_le h3 hb.size, laidW_later h4 hb h3, ownS_later h6 hb⟩
theorem laidN_far {w : World} {g j : Nat} {os : List NodeD} (p : Addr) (u : Value) (h : LaidN w g os j) (hp : p.block < g) : LaidN (w.setCell p u) g os j := by
  intro i hi hij
  obtain ⟨f, h1, h2, h3⟩ := h i hi hij
  exact ⟨f, h1.keep (fun k => keep_far p u (by omega) k), ownI_far p u h2 (by omega), fun k hk => by rw [World.frozen?_setCell]; exact h3 k hk⟩
/-- The three blocks that toGraph works with: what came in, the result, and the one that is filled. -/
structure Frn (s : Nat) (X : World) (ps xs : Array Value) : Prop where
  p : ∀ k, X.cell? ⟨s, k, none⟩ = ps[k]?
  r : ∀ k, X.cell? ⟨s + 1, k, none⟩ = (#[Value.slice none 0 0, .slice none 0 0, .slice none 0 0] : Array Value)[k]?
  o : ∀ k, X.cell? ⟨s + 1 + 1, k, none⟩ = xs[k]?
  fr : ∀ k, X.frozen? ⟨s + 1, k, none⟩ = false
  fo : ∀ k, X.frozen? ⟨s + 1 + 1, k, none⟩ = false
  sz : s + 1 + 1 < X.heap.size
theorem Frn.later {s : Nat} {X Y : World} {ps xs : Array Value} (h : Frn s X ps xs) (hb : Below X.heap.size X Y) : Frn s Y ps xs := by
  have hs := h.sz
  refine ⟨fun k => ?_, fun k => ?_, fun k => ?_, fun k => ?_, fun k => ?_, Nat.lt_of_lt_of_le hs hb.size⟩
  · rw [hb.cell (p := ⟨s, k, none⟩) (by show s < _; omega)]; exact h.p k
  · rw [hb.cell (p := ⟨s + 1, k, none⟩) (by show s + 1 < _; omega)]; exact h.r k
  · rw [hb.cell (p := ⟨s + 1 + 1, k, none⟩) hs]; exact h.o k
  · rw [hb.frozen (p := ⟨s + 1, k, none⟩) (by show s + 1 < _; omega)]; exact h.fr k
  · rw [hb.frozen (p := ⟨s + 1 + 1, k, none⟩) hs]; exact h.fo k
theorem Frn.set {s : Nat} {X : World} {ps xs : Array Value} (h : Frn s X ps xs) (i : Nat) (u : Value) (hi : i < xs.size) : Frn s (X.setCell ⟨s + 1 + 1, i, none⟩ u) ps (xs.setIfInBounds i u) := by
  have hs := h.sz
  refine ⟨fun k => ?_, fun k => ?_, fun k => ?_, fun k => ?_, fun k => ?_, by simpa [World.setCell] using hs⟩
  · rw [keep_far _ _ (by show s + 1 + 1 ≠ s; omega)]; exact h.p k
  · rw [keep_far _ _ (by show s + 1 + 1 ≠ s + 1; omega)]; exact h.r k
  · by_cases e : i = k
    · subst e
      rw [World.cell?_setCell_same X _ u ((h.o i).trans (Array.getElem?_eq_getElem hi)), Array.getElem?_setIfInBounds_self_of_lt hi]
    · rw [cell_far _ _ _ _ _ e, h.o k, Array.getElem?_setIfInBounds_ne e]
  · rw [World.frozen?_setCell]; exact h.fr k
  · rw [World.frozen?_setCell]; exact h.fo k

theorem toGraph_calls (w : World) (v : Value) (G : GrD) (h : RdG w v G) (hs : SmallG G) :
    Calls Try.prog 13 #[v] w fun e w' => ∃ u, e = .returned u ∧ OwnG w' w.heap.size u G ∧ Below w.heap.size w w' := by
  obtain ⟨ao, co, aw, cw, sa, sc, rfl, ro, rwk, rs⟩ := h
  obtain ⟨W, hW⟩ : ∃ W, W = ((w.alloc (.cells #[.slice ao G.nodes.length co, .slice aw G.weaks.length cw, .slice sa G.sites.length sc] 34)).alloc (.cells #[.slice none 0 0, .slice none 0 0, .slice none 0 0] 26)).alloc (.cells #[.slice none 0 0, .slice none 0 0, .slice none 0 0] 26) := ⟨_, rfl⟩
  have BW : Below w.heap.size w W := by
    rw [hW]
    exact (((Below.refl _ _).alloc (Nat.le_refl _) _).alloc (by simp) _).alloc (by simp; omega) _
  have hWs : W.heap.size = w.heap.size + 1 + 1 + 1 := by rw [hW]; simp
  have F0 : Frn w.heap.size W #[.slice ao G.nodes.length co, .slice aw G.weaks.length cw, .slice sa G.sites.length sc] #[.slice none 0 0, .slice none 0 0, .slice none 0 0] := by
    refine ⟨fun k => ?_, fun k => ?_, fun k => ?_, fun k => ?_, fun k => ?_, by omega⟩
    · rw [hW, World.cell?_alloc_lt _ _ _ (by simp; omega), World.cell?_alloc_lt _ _ _ (by simp), World.cell?_alloc_mark]
    · rw [hW, World.cell?_alloc_lt _ _ _ (by simp), show w.heap.size + 1 = (w.alloc (.cells #[.slice ao G.nodes.length co, .slice aw G.weaks.length cw, .slice sa G.sites.length sc] 34)).heap.size from by simp, World.cell?_alloc_mark]
    · rw [hW, show w.heap.size + 1 + 1 = ((w.alloc (.cells #[.slice ao G.nodes.length co, .slice aw G.weaks.length cw, .slice sa G.sites.length sc] 34)).alloc (.cells #[.slice none 0 0, .slice none 0 0, .slice none 0 0] 26)).heap.size from by simp, World.cell?_alloc_mark]
    · have e : W.frozen? ⟨w.heap.size + 1, k, none⟩ = ((w.alloc (.cells #[.slice ao G.nodes.length co, .slice aw G.weaks.length cw, .slice sa G.sites.length sc] 34)).alloc (.cells #[.slice none 0 0, .slice none 0 0, .slice none 0 0] 26)).frozen? ⟨w.heap.size + 1, k, none⟩ := by
        rw [hW]
        exact ((Below.refl _ _).alloc (Nat.le_refl _) _).frozen (p := ⟨w.heap.size + 1, k, none⟩) (by show w.heap.size + 1 < _; simp)
      rw [e, show w.heap.size + 1 = (w.alloc (.cells #[.slice ao G.nodes.length co, .slice aw G.weaks.length cw, .slice sa G.sites.length sc] 34)).heap.size from by simp, World.frozen?_alloc_mark]
      simp
    · rw [hW, show w.heap.size + 1 + 1 = ((w.alloc (.cells #[.slice ao G.nodes.length co, .slice aw G.weaks.length cw, .slice sa G.sites.length sc] 34)).alloc (.cells #[.slice none 0 0, .slice none 0 0, .slice none 0 0] 26)).heap.size from by simp, World.frozen?_alloc_mark]
      simp
  have HF0 : Hid (Frn _ _ _ _) := F0
  clear F0
  have RO : Hid (RdN W ao G.nodes) := rdN_later ro BW
  have RW : Hid (∀ X, Below w.heap.size w X → RdW X aw G.weaks) := fun X hX => rdW_later rwk hX
  have RS : Hid (∀ X, Below w.heap.size w X → RdS X sa G.sites) := fun X hX => rdS_later rs hX
  clear ro rwk rs
  have s1 : G.nodes.length ≤ 1677721 := by have := hs.nodes; omega
  have s2 : ∀ z ∈ G.nodes, z.field.length ≤ 16777216 := fun z hz => by have := hs.fields z hz; omega
  have s3 : G.weaks.length ≤ 1677721 := by have := hs.weaks; omega
  have s5 : G.sites.length ≤ 16777216 := by have := hs.sites; omega
  have S2 : Hid _ := s2
  clear s2
  go_enter Try.func13, Try.ntmps13
  go_wp2_with fail
  rw [← hW]
  refine (toNodeS_calls W ao co G.nodes RO.out s1 S2.out).mono ?_
  rintro e w1 ⟨rfl, L1, g1, b1⟩
  clear hW
  have B1 := BW.trans (b1.mono (by omega))
  have F1 := HF0.out.later b1
  obtain ⟨go, hgo⟩ : ∃ go, W.heap.size = go := ⟨_, rfl⟩
  have Hgo : Hid (w.heap.size + 1 + 1 + 1 = go) := by show _ = _; omega
  rw [hgo] at L1 g1 ⊢
  clear hgo hWs b1 BW RO HF0
  have c0 := F1.o 0
  have f0 := F1.fo 0
  have p1 := F1.p 1
  have G1 := F1.set 0 (.slice (some ⟨go, 0, none⟩) G.nodes.length G.nodes.length) (by simp)
  have M1 := laidN_far ⟨w.heap.size + 1 + 1, 0, none⟩ (.slice (some ⟨go, 0, none⟩) G.nodes.length G.nodes.length) L1 (by show w.heap.size + 1 + 1 < go; have := Hgo.out; omega)
  have D1 := B1.setCell (p := ⟨w.heap.size + 1 + 1, 0, none⟩) (by show w.heap.size ≤ w.heap.size + 1 + 1; omega) (.slice (some ⟨go, 0, none⟩) G.nodes.length G.nodes.length)
  have q1 : go < (w1.setCell ⟨w.heap.size + 1 + 1, 0, none⟩ (.slice (some ⟨go, 0, none⟩) G.nodes.length G.nodes.length)).heap.size := by simpa [World.setCell] using g1
  simp at c0 p1
  clear F1 L1 B1 g1
  go_wp2_with fail
  generalize w1.setCell ⟨w.heap.size + 1 + 1, 0, none⟩ (.slice (some ⟨go, 0, none⟩) G.nodes.length G.nodes.length) = X1 at *
  clear c0 f0 p1
  refine (toWeakS_calls X1 aw cw G.weaks (RW.out X1 D1) s3).mono ?_
  rintro e w2 ⟨rfl, L2, g2, b2⟩
  have B2 := D1.trans (b2.mono D1.size)
  have F2 := G1.later b2
  have M2 := laidN_later M1 b2 q1
  have q2 : go < w2.heap.size := Nat.lt_of_lt_of_le q1 b2.size
  obtain ⟨gw, hgw⟩ : ∃ gw, X1.heap.size = gw := ⟨_, rfl⟩
  have Hgw : Hid (go < gw) := by show _ < _; omega
  rw [hgw] at L2 g2 ⊢
  clear hgw b2 G1 M1 D1 q1
  have c0 := F2.o 1
  have f0 := F2.fo 1
  have p1 := F2.p 2
  have G2 := F2.set 1 (.slice (some ⟨gw, 0, none⟩) G.weaks.length G.weaks.length) (by simp)
  have N2 := laidN_far ⟨w.heap.size + 1 + 1, 1, none⟩ (.slice (some ⟨gw, 0, none⟩) G.weaks.length G.weaks.length) M2 (by show w.heap.size + 1 + 1 < go; have := Hgo.out; omega)
  have K2 := laidW_far ⟨w.heap.size + 1 + 1, 1, none⟩ (.slice (some ⟨gw, 0, none⟩) G.weaks.length G.weaks.length) L2 (by show w.heap.size + 1 + 1 < gw; have := Hgo.out; have := Hgw.out; omega)
  have D2 := B2.setCell (p := ⟨w.heap.size + 1 + 1, 1, none⟩) (by show w.heap.size ≤ w.heap.size + 1 + 1; omega) (.slice (some ⟨gw, 0, none⟩) G.weaks.length G.weaks.length)
  have q3 : go < (w2.setCell ⟨w.heap.size + 1 + 1, 1, none⟩ (.slice (some ⟨gw, 0, none⟩) G.weaks.length G.weaks.length)).heap.size ∧ gw < (w2.setCell ⟨w.heap.size + 1 + 1, 1, none⟩ (.slice (some ⟨gw, 0, none⟩) G.weaks.length G.weaks.length)).heap.size := by simpa [World.setCell] using ⟨q2, g2⟩
  simp at c0 p1
  clear F2 L2 M2 B2 g2 q2
  go_wp2_with fail
  generalize w2.setCell ⟨w.heap.size + 1 + 1, 1, none⟩ (.slice (some ⟨gw, 0, none⟩) G.weaks.length G.weaks.length) = X3 at *
  clear c0 f0 p1
  refine (toStringS_calls X3 sa sc G.sites (RS.out X3 D2) s5).mono ?_
  rintro e w4 ⟨vs, rfl, O4, b4⟩
  have B4 := D2.trans (b4.mono D2.size)
  have F4 := G2.later b4
  have M4 := laidN_later N2 b4 q3.1
  have K4 := laidW_later K2 b4 q3.2
  have q6 : go < w4.heap.size ∧ gw < w4.heap.size := ⟨Nat.lt_of_lt_of_le q3.1 b4.size, Nat.lt_of_lt_of_le q3.2 b4.size⟩
  have P4 := ownS_mono O4 (Nat.le_of_lt q3.1)
  clear b4 O4 G2 N2 K2 D2 q3 RS RW
  obtain ⟨da, dc, rfl, -⟩ := rdS_own P4
  have o0 := F4.o 0
  have o1 := F4.o 1
  have o2 := F4.o 2
  have f2 := F4.fo 2
  have r0 := F4.r 0
  have r1 := F4.r 1
  have r2 := F4.r 2
  have e0 := F4.fr 0
  have e1 := F4.fr 1
  have e2 := F4.fr 2
  simp at o0 o1 o2 r0 r1 r2
  have HM : Hid _ := M4
  have HK : Hid _ := K4
  have HP : Hid _ := P4
  have HB : Hid _ := B4
  have Hq : Hid _ := q6
  clear F4 M4 K4 P4 B4 q6
  go_wp2
  refine bodyPost_ret (v := .agg #[.slice (some ⟨go, 0, none⟩) G.nodes.length G.nodes.length, .slice (some ⟨gw, 0, none⟩) G.weaks.length G.weaks.length, .slice da G.sites.length dc]) (by simp [results, Try.results13, go_sem, *]) rfl ⟨_, rfl, ⟨go, gw, _, rfl, ?_, ?_, ?_, ?_, ?_, ?_, ?_⟩, ?_⟩
  all_goals have hgo := Hgo.out
  all_goals have hgw := Hgw.out
  · omega
  · simpa [World.setCell] using Hq.out.1
  · iterate 4 refine laidN_far _ _ ?_ (by show _ < go; simp only; omega)
    exact HM.out
  · omega
  · simpa [World.setCell] using Hq.out.2
  · iterate 4 refine laidW_far _ _ ?_ (by show _ < gw; simp only; omega)
    exact HK.out
  · refine ownS_mono (B := go) ?_ (by omega)
    iterate 4 refine ownS_far _ _ ?_ (by show _ < go; simp only; omega)
    exact HP.out
  · iterate 4 refine Below.setCell ?_ (by simp only; omega) _
    exact HB.out

theorem eqGraph_calls (w : World) (v u : Value) (G : GrD) (h1 : RdG w v G) (h2 : RdG w u G) (hs : SmallG G) :
    Calls Try.prog 8 #[v, u] w fun e w' => e = .returned (.bool true) ∧ Below w.heap.size w w' := by
  obtain ⟨ao, co, aw, cw, sa, sc, rfl, ro, rwk, rs⟩ := h1
  obtain ⟨ao2, co2, aw2, cw2, sa2, sc2, rfl, ro2, rwk2, rs2⟩ := h2
  obtain ⟨W, hW⟩ : ∃ W, W = (w.alloc (.cells #[.slice ao G.nodes.length co, .slice aw G.weaks.length cw, .slice sa G.sites.length sc] 26)).alloc (.cells #[.slice ao2 G.nodes.length co2, .slice aw2 G.weaks.length cw2, .slice sa2 G.sites.length sc2] 26) := ⟨_, rfl⟩
  have BW : Below w.heap.size w W := by
    rw [hW]
    exact ((Below.refl _ _).alloc (Nat.le_refl _) _).alloc (by simp) _
  have hWs : W.heap.size = w.heap.size + 1 + 1 := by rw [hW]; simp
  have HP : Hid (∀ X, Below W.heap.size W X → ∀ k, X.cell? ⟨w.heap.size, k, none⟩ = (#[Value.slice ao G.nodes.length co, .slice aw G.weaks.length cw, .slice sa G.sites.length sc] : Array Value)[k]?) := by
    intro X hX k
    rw [hX.cell (p := ⟨w.heap.size, k, none⟩) (by show w.heap.size < _; omega), hW, World.cell?_alloc_lt _ _ _ (by simp), World.cell?_alloc_mark]
  have HP2 : Hid (∀ X, Below W.heap.size W X → ∀ k, X.cell? ⟨w.heap.size + 1, k, none⟩ = (#[Value.slice ao2 G.nodes.length co2, .slice aw2 G.weaks.length cw2, .slice sa2 G.sites.length sc2] : Array Value)[k]?) := by
    intro X hX k
    rw [hX.cell (p := ⟨w.heap.size + 1, k, none⟩) (by show w.heap.size + 1 < _; omega), hW, show w.heap.size + 1 = (w.alloc (.cells #[.slice ao G.nodes.length co, .slice aw G.weaks.length cw, .slice sa G.sites.length sc] 26)).heap.size from by simp, World.cell?_alloc_mark]
  have CO : Hid (∀ X, Below w.heap.size w X → _) := fun X hX => eqNodeS_calls X ao ao2 co co2 G.nodes (rdN_later ro hX) (rdN_later ro2 hX) (by have := hs.nodes; omega) (fun z hz => by have := hs.fields z hz; omega)
  have CW : Hid (∀ X, Below w.heap.size w X → _) := fun X hX => eqWeakS_calls X aw aw2 cw cw2 G.weaks (rdW_later rwk hX) (rdW_later rwk2 hX) (by have := hs.weaks; omega)
  have CS : Hid (∀ X, Below w.heap.size w X → _) := fun X hX => eqStringS_rd X sa sa2 sc sc2 G.sites (rdS_later rs hX) (rdS_later rs2 hX) (by have := hs.sites; omega)
  clear ro rwk rs ro2 rwk2 rs2
  go_enter Try.func8, Try.ntmps8
  go_wp2_with fail
  rw [← hW]
  have B0 := BW
  have T0 : Below W.heap.size W W := Below.refl _ _
  refine (CO.out _ B0).mono ?_
  rintro e w1 ⟨rfl, b1⟩
  have B1 := B0.trans (b1.mono B0.size)
  have T1 := T0.trans (b1.mono T0.size)
  have k1 := HP.out _ T1 1
  have l1 := HP2.out _ T1 1
  simp at k1 l1
  clear hW hWs
  go_wp2_with fail
  refine (CW.out _ B1).mono ?_
  rintro e w2 ⟨rfl, b2⟩
  have B2 := B1.trans (b2.mono B1.size)
  have T2 := T1.trans (b2.mono T1.size)
  have k2 := HP.out _ T2 2
  have l2 := HP2.out _ T2 2
  simp at k2 l2
  clear k1 l1
  go_wp2_with fail
  refine (CS.out _ B2).mono ?_
  rintro e w4 ⟨rfl, b4⟩
  have B4 := B2.trans (b4.mono B2.size)
  clear k2 l2
  go_wp2
  go_ret
  exact ⟨rfl, B4⟩

end Go.Proofs.Ytjihbmkhifnblaa

namespace Go.Proofs.Ytjihbmkhifnblaa
open Go.RowKit Go.ChangeShapes Go.WideShapes Go.ChangeAt Go.Deep
set_option linter.unusedVariables false
set_option maxRecDepth 100000
section
variable {T : Type} {enc : TypeId × Value → T} {w : World} {held : Bool}

theorem opened_node {fuel : Nat} {cs : List Value} {x : DataW T × List MemPlace} (h : DataW.trod enc Try.prog w 0 (fun _ => true) held fuel 92 cs = some x) :
    ∃ (o : NodeD) (f : Option Addr) (cap : Nat), cs = [.bool o.live, .int .i64 o.gen, .int .i64 o.site, .int .i64 o.holds, .int .i64 o.roots, .slice f o.field.length cap] ∧ RdI w f o.field ∧ o.field.length ≤ 9223372036854775807 ∧ WfN o := by
  obtain ⟨xs, n, _, _, hl, hlen, hf⟩ := DataW.trod_struct Try.underlying92 h
  have hl2 : cs.length = 6 := hl.trans (by kernel_rfl)
  match cs, hl2, xs, hlen with
  | [c0, c1, c2, c3, c4, c5], _, [y0, y1, y2, y3, y4, y5], _ =>
    have e4 : Try.prog.cellsOf 4 = 1 := by kernel_rfl
    have e3 : Try.prog.cellsOf 3 = 1 := by kernel_rfl
    have e9 : Try.prog.cellsOf 40 = 1 := by kernel_rfl
    have h0 := hf 0 { name := "Live", type := 4, offset := 0, embedded := false, tag := "", pkgPath := "", byteOffset := 0 } rfl
    have h1 := hf 1 { name := "Gen", type := 3, offset := 1, embedded := false, tag := "", pkgPath := "", byteOffset := 8 } rfl
    have h2 := hf 2 { name := "Site", type := 3, offset := 2, embedded := false, tag := "", pkgPath := "", byteOffset := 16 } rfl
    have h3 := hf 3 { name := "Holds", type := 3, offset := 3, embedded := false, tag := "", pkgPath := "", byteOffset := 24 } rfl
    have h4 := hf 4 { name := "Roots", type := 3, offset := 4, embedded := false, tag := "", pkgPath := "", byteOffset := 32 } rfl
    have h5 := hf 5 { name := "Field", type := 40, offset := 5, embedded := false, tag := "", pkgPath := "", byteOffset := 40 } rfl
    simp only [e4, e3, e9] at h0 h1 h2 h3 h4 h5
    obtain ⟨b0, g0, _⟩ := DataW.trod_bool Try.underlying4 (x := y0) (by simpa using h0)
    obtain ⟨m1, g1, _, v1⟩ := DataW.trod_int Try.underlying3 (x := y1) (by simpa using h1)
    obtain ⟨m2, g2, _, v2⟩ := DataW.trod_int Try.underlying3 (x := y2) (by simpa using h2)
    obtain ⟨m3, g3, _, v3⟩ := DataW.trod_int Try.underlying3 (x := y3) (by simpa using h3)
    obtain ⟨m4, g4, _, v4⟩ := DataW.trod_int Try.underlying3 (x := y4) (by simpa using h4)
    obtain ⟨f, zs, cap, g6, r6, l6, v6⟩ := opened_ints (x := y5) (by simpa using h5)
    exact ⟨⟨b0, m1, m2, m3, m4, zs⟩, f, cap, by simp_all, r6, l6, in64_wf v1, in64_wf v2, in64_wf v3, in64_wf v4, v6⟩

theorem opened_nodes {fuel : Nat} {cs : List Value} {x : DataW T × List MemPlace} (h : DataW.trod enc Try.prog w 0 (fun _ => true) held fuel 31 cs = some x) :
    ∃ a os cap, cs = [.slice a os.length cap] ∧ RdN w a os ∧ os.length ≤ 9223372036854775807 ∧ ∀ z ∈ os, z.field.length ≤ 9223372036854775807 ∧ WfN z := by
  rcases open_slice Try.underlying31 h with ⟨rfl, _⟩ | ⟨a, len, cap, m, n, D, Pl, rfl, _, hl, hm, hmm, _, hx⟩
  · exact ⟨none, [], 0, rfl, fun j hj => by simp at hj, by simp, by simp⟩
  · have hm2 : m = cap := by simpa using hmm
    have e2 : Try.prog.cellsOf 92 = 6 := by kernel_rfl
    rw [e2] at hx
    have hin : Inhabited NodeD := ⟨⟨false, 0, 0, 0, 0, []⟩⟩
    obtain ⟨f, hf⟩ := choose_lt (α := NodeD) (n := len) (p := fun i o => (o.field.length ≤ 9223372036854775807 ∧ WfN o) ∧ ∃ (fa : Option Addr) (fc : Nat), RdI w fa o.field ∧ ∀ k, k < 6 → w.cell? (Addr.add (a.add (i * 6)) k) = ([Value.bool o.live, .int .i64 o.gen, .int .i64 o.site, .int .i64 o.holds, .int .i64 o.roots, .slice fa o.field.length fc] : List Value)[k]?) (fun i hi => by
      obtain ⟨cs', h1, h2⟩ := hx i (by omega)
      obtain ⟨o, fa, fc, rfl, hr, hl, hwf⟩ := opened_node h2
      exact ⟨o, ⟨hl, hwf⟩, fa, fc, hr, (World.cells?_some h1).2.2⟩)
    unfold maxLen at hm
    have ht : ((List.range len).map f).length = len := by simp
    refine ⟨some a, (List.range len).map f, cap, by rw [ht], ?_, by omega, ?_⟩
    · intro j hj
      rw [ht] at hj
      obtain ⟨_, _, _, _, hc0⟩ := hf 0 (by omega)
      have hc0 := hc0 0 (by omega)
      obtain ⟨b, off, rfl⟩ : ∃ b off, a = ⟨b, off, none⟩ := by
        rw [Nat.zero_mul, show Addr.add (Addr.add a 0) 0 = a.add 0 from by rw [add_add]] at hc0
        exact plain_addr (v := .bool (f 0).live) hc0
      obtain ⟨_, fa, fc, hr, q⟩ := hf j hj
      have q0 := q 0 (by omega)
      have q1 := q 1 (by omega)
      have q2 := q 2 (by omega)
      have q3 := q 3 (by omega)
      have q4 := q 4 (by omega)
      have q5 := q 5 (by omega)
      rw [add_plain, add_plain] at q0 q1 q2 q3 q4 q5
      simp at q0 q1 q2 q3 q4 q5
      refine ⟨b, off, fa, fc, rfl, World.block_lt_of_cell? w _ q0, ?_⟩
      rw [List.getElem_map, List.getElem_range]
      exact ⟨⟨q0, q1, q2, q3, q4, q5⟩, hr⟩
    · intro z hz
      obtain ⟨i, hi, rfl⟩ := List.mem_map.1 hz
      exact (hf i (List.mem_range.1 hi)).1

theorem opened_graph {r : Reach} {b0 : Nat} {v : Value} {d : DataW T} {ps : List MemPlace} (hv : Value.okWide Try.prog w r b0 34 v) (h : DataW.Trod enc Try.prog w 0 (fun _ => true) held 34 v d ps) : ∃ H : GrD, RdG w v H ∧ SaneG H := by
  obtain ⟨cs, rfl, hcs⟩ := okWide_struct Try.underlying34 hv
  obtain ⟨fuel, hf0⟩ := h
  have ec : (Value.agg cs).cells.toList = cs.toList := by simp [Value.cells]
  rw [ec] at hf0
  obtain ⟨xs, n, _, _, hl, hlen, hf⟩ := DataW.trod_struct Try.underlying34 hf0
  have hl2 : cs.size = 3 := hcs.trans (by kernel_rfl)
  obtain ⟨l⟩ := cs
  match l, hl2, xs, hlen with
  | [c0, c1, c2], _, [y0, y1, y2], _ =>
    have e0 : Try.prog.cellsOf 31 = 1 := by kernel_rfl
    have e1 : Try.prog.cellsOf 32 = 1 := by kernel_rfl
    have e3 : Try.prog.cellsOf 24 = 1 := by kernel_rfl
    have h0 := hf 0 { name := "Nodes", type := 31, offset := 0, embedded := false, tag := "", pkgPath := "", byteOffset := 0 } rfl
    have h1 := hf 1 { name := "Weaks", type := 32, offset := 1, embedded := false, tag := "", pkgPath := "", byteOffset := 24 } rfl
    have h2 := hf 2 { name := "Sites", type := 24, offset := 2, embedded := false, tag := "", pkgPath := "", byteOffset := 48 } rfl
    simp only [e0, e1, e3] at h0 h1 h2
    obtain ⟨ao, os, co, g0, ro, l0, l0'⟩ := opened_nodes (x := y0) (by simpa using h0)
    obtain ⟨aw, ds, cw, g1, rwk, l1, v1⟩ := opened_weaks (x := y1) (by simpa using h1)
    obtain ⟨sa, ss, sc, g3, rs, l3, l3'⟩ := opened_strs (x := y2) (by simpa using h2)
    refine ⟨⟨os, ds, ss⟩, ⟨ao, co, aw, cw, sa, sc, by simp_all, ro, rwk, rs⟩, ⟨⟨fun o ho => (l0' o ho).2, v1⟩, l0, fun o ho => (l0' o ho).1, l1, l3, l3'⟩⟩

end

end Go.Proofs.Ytjihbmkhifnblaa
