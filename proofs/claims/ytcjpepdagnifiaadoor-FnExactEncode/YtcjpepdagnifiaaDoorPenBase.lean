/- Pens as the laws have them: what szPen, toPen and eqPen do; an argument that is a pen, opened. -/
import Derived.Test.YtcjpepdagnifiaaDoorHeapBase
namespace Go.Proofs.YtcjpepdagnifiaaDoor
open Go.RowKit Go.ChangeShapes Go.WideShapes Go.ChangeAt Go.Deep
set_option linter.unusedVariables false
set_option maxRecDepth 100000

structure PenD where
  last : Int
  sites : List (List UInt8)
/-- A pen's value, as one who only reads has it. -/
def RdP (w : World) (v : Value) (P : PenD) : Prop := ∃ sa sc, v = .agg #[.int .i64 P.last, .slice sa P.sites.length sc] ∧ RdS w sa P.sites
theorem rdP_later {w w' : World} {v : Value} {P : PenD} (h : RdP w v P) (hb : Below w.heap.size w w') : RdP w' v P := by
  obtain ⟨sa, sc, h1, h5⟩ := h
  exact ⟨sa, sc, h1, rdS_later h5 hb⟩
theorem rdP_form {w : World} {v : Value} {P : PenD} (r : RdP w v P) : ∃ a0 a1 n1 k1, v = .agg #[.int .i64 a0, .slice a1 n1 k1] := by
  obtain ⟨sa, sc, h1, -⟩ := r
  exact ⟨_, _, _, _, h1⟩
structure SaneP (P : PenD) : Prop where
  last : in64 P.last
  sites : P.sites.length ≤ 9223372036854775807
  names : ∀ z ∈ P.sites, z.length ≤ 9223372036854775807
structure SmallP (P : PenD) : Prop where
  sites : P.sites.length ≤ 1048576
  names : ∀ z ∈ P.sites, z.length ≤ 1048576
/-- What is left of a size behind a pen. -/
def szP (P : PenD) (left : Int) : Int := szS P.sites left
theorem szP_le (P : PenD) (left : Int) (h : -1 ≤ left) : szP P left ≤ left ∧ -1 ≤ szP P left := szS_le P.sites left h
theorem szP_small (P : PenD) (left : Int) (h0 : left ≤ 1048576) (h1 : -1 ≤ left) (h : ¬ szP P left < 0) : SmallP P := by
  unfold szP at h
  obtain ⟨b1, b2⟩ := szS_facts P.sites _ (Int.not_lt.1 h)
  exact ⟨by omega, fun z hz => by have := b2 z hz; omega⟩

/-- A new block of two, in every later world. -/
theorem two_kept (w : World) (t : TypeId) (x0 x1 : Value) (X : World) (hb : Below (w.heap.size + 1) (w.alloc (.cells #[x0, x1] t)) X) :
    X.cell? ⟨w.heap.size, 0, none⟩ = some x0 ∧ X.cell? ⟨w.heap.size, 1, none⟩ = some x1 := by
  have h : ∀ k, X.cell? ⟨w.heap.size, k, none⟩ = (#[x0, x1] : Array Value)[k]? := fun k => by
    rw [hb.cell (p := ⟨w.heap.size, k, none⟩) (by show w.heap.size < _; omega), World.cell?_alloc_mark]
  exact ⟨h 0, h 1⟩

theorem szPen_calls (w : World) (v : Value) (P : PenD) (left : Int) (h : RdP w v P) (hs : SaneP P) (h0 : 0 ≤ left) (h1 : left ≤ 1048576) :
    Calls Tryd.prog 5 #[v, .int .i64 left] w fun e w' => e = .returned (.int .i64 (szP P left)) ∧ Below w.heap.size w w' := by
  obtain ⟨sa, sc, rfl, rs⟩ := h
  obtain ⟨W, hW⟩ : ∃ W, W = w.alloc (.cells #[.int .i64 P.last, .slice sa P.sites.length sc] 24) := ⟨_, rfl⟩
  have BW : Below w.heap.size w W := by rw [hW]; exact (Below.refl _ _).alloc (Nat.le_refl _) _
  have C1 : Hid (∀ _ : Unit, _) := fun (_ : Unit) => szStringS_calls W sa sc P.sites left (rdS_later rs BW) hs.sites hs.names h0 h1
  have l4 := szS_le P.sites left (by omega)
  have HS : Hid (szP P left = szS P.sites left) := rfl
  generalize szS P.sites left = a at *
  by_cases n1 : a < 0
  · have HE : Hid (szP P left = -1) := by have := HS.out; show _ = _; omega
    go_enter Tryd.func5, Tryd.ntmps5
    go_wp2_with fail
    rw [← hW]
    refine (C1.out ()).mono ?_
    rintro e w1 ⟨rfl, rfl⟩
    clear hW
    go_wp2
    go_ret
    exact ⟨ret_zz HE.out.symm, BW⟩
  · have m4 : 0 ≤ a := by omega
    go_enter Tryd.func5, Tryd.ntmps5
    go_wp2_with fail
    rw [← hW]
    refine (C1.out ()).mono ?_
    rintro e w1 ⟨rfl, rfl⟩
    clear hW
    go_wp2
    go_ret
    exact ⟨ret_zz HS.out.symm, BW⟩

/-- A pen whose row is new, at or behind block B. -/
def OwnP (w : World) (B : Nat) (v : Value) (P : PenD) : Prop := ∃ vs, v = .agg #[.int .i64 P.last, vs] ∧ ownS w B vs P.sites
theorem ownP_rd {w : World} {B : Nat} {v : Value} {P : PenD} (h : OwnP w B v P) : RdP w v P := by
  obtain ⟨vs, rfl, h6⟩ := h
  obtain ⟨sa, sc, rfl, hs⟩ := rdS_own h6
  exact ⟨sa, sc, rfl, hs.out⟩
theorem ownP_later {w w' : World} {B : Nat} {v : Value} {P : PenD} (h : OwnP w B v P) (hb : Below w.heap.size w w') : OwnP w' B v P := by
  obtain ⟨vs, rfl, h6⟩ := h
  exact ⟨vs, rfl, ownS_later h6 hb⟩

/-- Three new blocks, in every later world. -/
theorem three_new (w : World) (c0 c1 c2 : Array Value) (t0 t1 t2 : TypeId) (W : World) (hW : W = ((w.alloc (.cells c0 t0)).alloc (.cells c1 t1)).alloc (.cells c2 t2)) :
    Below w.heap.size w W ∧ W.heap.size = w.heap.size + 1 + 1 + 1 ∧ ∀ X, Below W.heap.size W X → ∀ k, X.cell? ⟨w.heap.size, k, none⟩ = c0[k]? ∧ X.cell? ⟨w.heap.size + 1, k, none⟩ = c1[k]? ∧ X.cell? ⟨w.heap.size + 1 + 1, k, none⟩ = c2[k]? ∧ X.frozen? ⟨w.heap.size + 1, k, none⟩ = false ∧ X.frozen? ⟨w.heap.size + 1 + 1, k, none⟩ = false := by
  obtain ⟨A, hA⟩ : ∃ A, A = w.alloc (.cells c0 t0) := ⟨_, rfl⟩
  obtain ⟨C, hC⟩ : ∃ C, C = A.alloc (.cells c1 t1) := ⟨_, rfl⟩
  rw [← hA, ← hC] at hW
  have sA : A.heap.size = w.heap.size + 1 := by rw [hA]; simp
  have sC : C.heap.size = w.heap.size + 1 + 1 := by rw [hC]; simp [sA]
  have sW : W.heap.size = w.heap.size + 1 + 1 + 1 := by rw [hW]; simp [sC]
  have bA : Below w.heap.size w A := by rw [hA]; exact (Below.refl _ _).alloc (Nat.le_refl _) _
  have bC : Below A.heap.size A C := by rw [hC]; exact (Below.refl _ _).alloc (Nat.le_refl _) _
  have bW : Below C.heap.size C W := by rw [hW]; exact (Below.refl _ _).alloc (Nat.le_refl _) _
  refine ⟨bA.trans ((bC.trans (bW.mono bC.size)).mono bA.size), sW, fun X hX k => ?_⟩
  have b0 : Below A.heap.size A X := bC.trans ((bW.trans (hX.mono bW.size)).mono bC.size)
  have b1 : Below C.heap.size C X := bW.trans (hX.mono bW.size)
  refine ⟨?_, ?_, ?_, ?_, ?_⟩
  · rw [b0.cell (p := ⟨w.heap.size, k, none⟩) (by show w.heap.size < _; omega), hA, World.cell?_alloc_mark]
  · rw [b1.cell (p := ⟨w.heap.size + 1, k, none⟩) (by show w.heap.size + 1 < _; omega), hC, ← sA, World.cell?_alloc_mark]
  · rw [hX.cell (p := ⟨w.heap.size + 1 + 1, k, none⟩) (by show w.heap.size + 1 + 1 < _; omega), hW, ← sC, World.cell?_alloc_mark]
  · rw [b1.frozen (p := ⟨w.heap.size + 1, k, none⟩) (by show w.heap.size + 1 < _; omega), hC, ← sA, World.frozen?_alloc_mark]; simp
  · rw [hX.frozen (p := ⟨w.heap.size + 1 + 1, k, none⟩) (by show w.heap.size + 1 + 1 < _; omega), hW, ← sC, World.frozen?_alloc_mark]; simp

theorem toPen_calls (w : World) (v : Value) (P : PenD) (h : RdP w v P) (hs : SmallP P) :
    Calls Tryd.prog 7 #[v] w fun e w' => ∃ u, e = .returned u ∧ OwnP w' w.heap.size u P ∧ Below w.heap.size w w' := by
  obtain ⟨sa, sc, rfl, rs⟩ := h
  obtain ⟨l, ss⟩ := P
  simp only at *
  have s5 : ss.length ≤ 16777216 := by have := hs.sites; simp only at this; omega
  have HC : Hid (∀ X, Below w.heap.size w X → _) := fun X hX => toStringS_calls X sa sc ss (rdS_later rs hX) s5
  obtain ⟨n, hn⟩ : ∃ n, ss.length = n := ⟨_, rfl⟩
  have Hn : Hid (ss.length = n) := hn
  rw [hn] at HC s5 ⊢
  clear rs hs hn
  obtain ⟨W, hW⟩ : ∃ W, W = ((w.alloc (.cells #[.int .i64 l, .slice sa n sc] 24)).alloc (.cells #[.int .i64 0, .slice none 0 0] 31)).alloc (.cells #[.int .i64 l, .slice none 0 0] 31) := ⟨_, rfl⟩
  obtain ⟨BW, sW, K⟩ := three_new w _ _ _ _ _ _ W hW
  have HK : Hid _ := K
  clear K
  go_enter Tryd.func7, Tryd.ntmps7
  go_wp2_with fail
  rw [← hW]
  clear hW
  refine (HC.out _ BW).mono ?_
  rintro e w1 ⟨vs, rfl, O1, b1⟩
  obtain ⟨da, dc, rfl, -⟩ := rdS_own O1
  have B1 := BW.trans (b1.mono BW.size)
  obtain ⟨-, r0, o0, f0, g0⟩ := HK.out w1 b1 0
  obtain ⟨-, r1, o1, f1, g1⟩ := HK.out w1 b1 1
  have HO : Hid (ownS w1 (w.heap.size + 1 + 1 + 1) (.slice da ss.length dc) ss) := by rw [← sW]; exact O1
  have HB : Hid (Below w.heap.size w w1) := B1
  simp at r0 r1 o0 o1
  clear O1 b1 B1 HK HC BW sW
  rw [Hn.out] at HO ⊢
  go_wp2
  refine bodyPost_ret (v := .agg #[.int .i64 l, .slice da n dc]) (by simp [results, Tryd.results7, go_sem, *]) rfl ⟨_, rfl, ⟨_, rfl, ?_⟩, ?_⟩
  · simp only
    refine ownS_mono (B := w.heap.size + 1 + 1 + 1) ?_ (by omega)
    iterate 3 refine ownS_far _ _ ?_ (by show _ < _; simp only; omega)
    exact HO.out
  · iterate 3 refine Below.setCell ?_ (by simp only; omega) _
    exact HB.out

theorem eqPen_calls (w : World) (v u : Value) (P : PenD) (h1 : RdP w v P) (h2 : RdP w u P) (hs : SmallP P) :
    Calls Tryd.prog 11 #[v, u] w fun e w' => e = .returned (.bool true) ∧ Below w.heap.size w w' := by
  obtain ⟨sa, sc, rfl, rs⟩ := h1
  obtain ⟨sa2, sc2, rfl, rs2⟩ := h2
  have CS : Hid (∀ X, Below w.heap.size w X → _) := fun X hX => eqStringS_rd X sa sa2 sc sc2 P.sites (rdS_later rs hX) (rdS_later rs2 hX) (by have := hs.sites; omega)
  clear rs rs2
  obtain ⟨W, hW⟩ : ∃ W, W = (w.alloc (.cells #[.int .i64 P.last, .slice sa P.sites.length sc] 31)).alloc (.cells #[.int .i64 P.last, .slice sa2 P.sites.length sc2] 31) := ⟨_, rfl⟩
  have BW : Below w.heap.size w W := by
    rw [hW]
    exact ((Below.refl _ _).alloc (Nat.le_refl _) _).alloc (by simp) _
  go_enter Tryd.func11, Tryd.ntmps11
  go_wp2_with fail
  rw [← hW]
  refine (CS.out _ BW).mono ?_
  rintro e w4 ⟨rfl, b4⟩
  have B4 := BW.trans (b4.mono BW.size)
  clear hW
  go_wp2
  go_ret
  exact ⟨rfl, B4⟩

section
variable {T : Type} {enc : TypeId × Value → T} {w : World} {held : Bool}

theorem opened_pen {r : Reach} {b0 : Nat} {v : Value} {d : DataW T} {ps : List MemPlace} (hv : Value.okWide Tryd.prog w r b0 24 v) (h : DataW.Trod enc Tryd.prog w 0 (fun _ => true) held 24 v d ps) : ∃ P : PenD, RdP w v P ∧ SaneP P := by
  obtain ⟨cs, rfl, hcs⟩ := okWide_struct Tryd.underlying24 hv
  obtain ⟨fuel, hf0⟩ := h
  have ec : (Value.agg cs).cells.toList = cs.toList := by simp [Value.cells]
  rw [ec] at hf0
  obtain ⟨xs, n, _, _, hl, hlen, hf⟩ := DataW.trod_struct Tryd.underlying24 hf0
  have hl2 : cs.size = 2 := hcs.trans (by kernel_rfl)
  obtain ⟨l⟩ := cs
  match l, hl2, xs, hlen with
  | [c0, c1], _, [y0, y1], _ =>
    have e0 : Tryd.prog.cellsOf 3 = 1 := by kernel_rfl
    have e3 : Tryd.prog.cellsOf 22 = 1 := by kernel_rfl
    have h0 := hf 0 { name := "Last", type := 3, offset := 0, embedded := false, tag := "", pkgPath := "", byteOffset := 0 } rfl
    have h1 := hf 1 { name := "Sites", type := 22, offset := 1, embedded := false, tag := "", pkgPath := "", byteOffset := 8 } rfl
    simp only [e0, e3] at h0 h1
    obtain ⟨m0, g0, _, v0⟩ := DataW.trod_int Tryd.underlying3 (x := y0) (by simpa using h0)
    obtain ⟨sa, ss, sc, g3, rs, l3, l3'⟩ := opened_strs (x := y1) (by simpa using h1)
    exact ⟨⟨m0, ss⟩, ⟨sa, sc, by simp_all, rs⟩, ⟨in64_wf v0, l3, l3'⟩⟩

end

end Go.Proofs.YtcjpepdagnifiaaDoor
