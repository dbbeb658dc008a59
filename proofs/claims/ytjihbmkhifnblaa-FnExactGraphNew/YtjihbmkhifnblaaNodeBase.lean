/- Nodes as the laws have them: what szNode, toNode, eqNode and their rows do. -/
import Derived.Test.YtjihbmkhifnblaaHeapBase
namespace Go.Proofs.Ytjihbmkhifnblaa
open Go.RowKit
set_option linter.unusedVariables false

/-- An object's data. -/
structure NodeD where
  live : Bool
  gen : Int
  site : Int
  holds : Int
  roots : Int
  field : List Int
/-- Its value, f the slice of its fields. -/
def nodeV (o : NodeD) (f : Value) : Value := .agg #[.bool o.live, .int .i64 o.gen, .int .i64 o.site, .int .i64 o.holds, .int .i64 o.roots, f]

theorem szNode_calls (w : World) (o : NodeD) (a : Option Addr) (n cap : Nat) (left : Int) (hn : n ≤ 9223372036854775807) (h0 : 0 ≤ left) (h1 : left ≤ 1048576) :
    Calls Try.prog 57 #[nodeV o (.slice a n cap), .int .i64 left] w fun e w' => e = .returned (.int .i64 (if left - (n : Int) < 0 then -1 else left - (n : Int))) ∧ Below w.heap.size w w' := by
  have CS : Hid (∀ X, _) := fun X => szIntS_calls X a cap n left hn h0 h1
  unfold nodeV
  by_cases hl : left - (n : Int) < 0
  · rw [if_pos hl] at CS ⊢
    clear hl
    go_enter Try.func57, Try.ntmps57
    go_wp2_with fail
    refine (CS.out _).mono ?_
    rintro e w1 ⟨rfl, hw1⟩
    have B1 : Below w.heap.size w w1 := by rw [hw1]; exact (Below.refl _ _).alloc (Nat.le_refl _) _
    clear hw1
    go_wp2
    go_ret
    exact ⟨rfl, B1⟩
  · rw [if_neg hl] at CS ⊢
    have hl2 : 0 ≤ left - (n : Int) := by omega
    clear hl
    generalize left - (n : Int) = m at *
    go_enter Try.func57, Try.ntmps57
    go_wp2_with fail
    refine (CS.out _).mono ?_
    rintro e w1 ⟨rfl, hw1⟩
    have B1 : Below w.heap.size w w1 := by rw [hw1]; exact (Below.refl _ _).alloc (Nat.le_refl _) _
    clear hw1
    go_wp2
    go_ret
    exact ⟨rfl, B1⟩

theorem toNode_calls (w : World) (o : NodeD) (a : Option Addr) (cap : Nat) (h : RdI w a o.field) (hn : o.field.length ≤ 16777216) :
    Calls Try.prog 58 #[nodeV o (.slice a o.field.length cap)] w fun e w' => ∃ v, e = .returned (nodeV o v) ∧ ownI w' w.heap.size v o.field ∧ Below w.heap.size w w' := by
  obtain ⟨l, g, s, hh, r, fl⟩ := o
  simp only at h hn
  unfold nodeV
  simp only
  obtain ⟨W, hW⟩ : ∃ W, W = ((w.alloc (.cells #[.bool l, .int .i64 g, .int .i64 s, .int .i64 hh, .int .i64 r, .slice a fl.length cap] 92)).alloc (.cells #[.bool false, .int .i64 0, .int .i64 0, .int .i64 0, .int .i64 0, .slice none 0 0] 54)).alloc (.cells #[.bool l, .int .i64 g, .int .i64 s, .int .i64 hh, .int .i64 r, .slice none 0 0] 54) := ⟨_, rfl⟩
  have BW : Below w.heap.size w W := by
    rw [hW]
    exact (((Below.refl _ _).alloc (Nat.le_refl _) _).alloc (by simp) _).alloc (by simp; omega) _
  have hWs : W.heap.size = w.heap.size + 1 + 1 + 1 := by rw [hW]; simp
  have HR : Hid (RdI W a fl) := rdI_later h BW
  have HC : Hid (∀ k, W.cell? ⟨w.heap.size + 1 + 1, k, none⟩ = (#[Value.bool l, .int .i64 g, .int .i64 s, .int .i64 hh, .int .i64 r, .slice none 0 0] : Array Value)[k]?) := by
    intro k
    rw [hW, show w.heap.size + 1 + 1 = ((w.alloc (.cells #[.bool l, .int .i64 g, .int .i64 s, .int .i64 hh, .int .i64 r, .slice a fl.length cap] 92)).alloc (.cells #[.bool false, .int .i64 0, .int .i64 0, .int .i64 0, .int .i64 0, .slice none 0 0] 54)).heap.size from by simp, World.cell?_alloc_mark]
  have HF : Hid (∀ k, W.frozen? ⟨w.heap.size + 1 + 1, k, none⟩ = false) := by
    intro k
    rw [hW, show w.heap.size + 1 + 1 = ((w.alloc (.cells #[.bool l, .int .i64 g, .int .i64 s, .int .i64 hh, .int .i64 r, .slice a fl.length cap] 92)).alloc (.cells #[.bool false, .int .i64 0, .int .i64 0, .int .i64 0, .int .i64 0, .slice none 0 0] 54)).heap.size from by simp, World.frozen?_alloc_mark]
    simp
  have HC1 : Hid (∀ k, W.cell? ⟨w.heap.size + 1, k, none⟩ = (#[Value.bool false, .int .i64 0, .int .i64 0, .int .i64 0, .int .i64 0, .slice none 0 0] : Array Value)[k]?) := by
    intro k
    rw [hW, World.cell?_alloc_lt _ _ _ (by simp), show w.heap.size + 1 = (w.alloc (.cells #[.bool l, .int .i64 g, .int .i64 s, .int .i64 hh, .int .i64 r, .slice a fl.length cap] 92)).heap.size from by simp, World.cell?_alloc_mark]
  have HF1 : Hid (∀ k, W.frozen? ⟨w.heap.size + 1, k, none⟩ = false) := by
    intro k
    have e : W.frozen? ⟨w.heap.size + 1, k, none⟩ = ((w.alloc (.cells #[.bool l, .int .i64 g, .int .i64 s, .int .i64 hh, .int .i64 r, .slice a fl.length cap] 92)).alloc (.cells #[.bool false, .int .i64 0, .int .i64 0, .int .i64 0, .int .i64 0, .slice none 0 0] 54)).frozen? ⟨w.heap.size + 1, k, none⟩ := by
      rw [hW]
      exact ((Below.refl _ _).alloc (Nat.le_refl _) _).frozen (p := ⟨w.heap.size + 1, k, none⟩) (by show w.heap.size + 1 < _; simp)
    rw [e, show w.heap.size + 1 = (w.alloc (.cells #[.bool l, .int .i64 g, .int .i64 s, .int .i64 hh, .int .i64 r, .slice a fl.length cap] 92)).heap.size from by simp, World.frozen?_alloc_mark]
    simp
  go_enter Try.func58, Try.ntmps58
  go_wp2_with fail
  rw [← hW]
  refine (toIntS_calls W a cap fl HR.out hn).mono ?_
  rintro e w1 ⟨v, rfl, O1, b1⟩
  have hc : ∀ k, w1.cell? ⟨w.heap.size + 1 + 1, k, none⟩ = W.cell? ⟨w.heap.size + 1 + 1, k, none⟩ := fun k => b1.cell (p := ⟨w.heap.size + 1 + 1, k, none⟩) (by show w.heap.size + 1 + 1 < _; omega)
  have c0 := (hc 0).trans (HC.out 0)
  have c1 := (hc 1).trans (HC.out 1)
  have c2 := (hc 2).trans (HC.out 2)
  have c3 := (hc 3).trans (HC.out 3)
  have c4 := (hc 4).trans (HC.out 4)
  have c5 := (hc 5).trans (HC.out 5)
  have hf : ∀ k, w1.frozen? ⟨w.heap.size + 1 + 1, k, none⟩ = false := fun k => (b1.frozen (p := ⟨w.heap.size + 1 + 1, k, none⟩) (by show w.heap.size + 1 + 1 < _; omega)).trans (HF.out k)
  have f5 := hf 5
  have hd : ∀ k, w1.cell? ⟨w.heap.size + 1, k, none⟩ = W.cell? ⟨w.heap.size + 1, k, none⟩ := fun k => b1.cell (p := ⟨w.heap.size + 1, k, none⟩) (by show w.heap.size + 1 < _; omega)
  have d0 := (hd 0).trans (HC1.out 0)
  have d1 := (hd 1).trans (HC1.out 1)
  have d2 := (hd 2).trans (HC1.out 2)
  have d3 := (hd 3).trans (HC1.out 3)
  have d4 := (hd 4).trans (HC1.out 4)
  have d5 := (hd 5).trans (HC1.out 5)
  have hg : ∀ k, w1.frozen? ⟨w.heap.size + 1, k, none⟩ = false := fun k => (b1.frozen (p := ⟨w.heap.size + 1, k, none⟩) (by show w.heap.size + 1 < _; omega)).trans (HF1.out k)
  have g0 := hg 0
  have g1 := hg 1
  have g2 := hg 2
  have g3 := hg 3
  have g4 := hg 4
  have g5 := hg 5
  have B1 := BW.trans (b1.mono (by omega))
  simp at c0 c1 c2 c3 c4 c5 d0 d1 d2 d3 d4 d5
  clear hc hf hd hg hW BW
  obtain ⟨va, vc, rfl, -⟩ := ownI_read O1
  have HO : Hid (ownI w1 W.heap.size (.slice va fl.length vc) fl) := O1
  clear O1
  have HB : Hid (Below w.heap.size w w1) := B1
  clear B1
  go_wp2
  refine bodyPost_ret (v := .agg #[.bool l, .int .i64 g, .int .i64 s, .int .i64 hh, .int .i64 r, .slice va fl.length vc]) (by simp [results, Try.results58, go_sem, *]) rfl ⟨_, rfl, ?_, ?_⟩
  · have O : ∀ (p : Addr) (u : Value) (X : World), ownI X W.heap.size (.slice va fl.length vc) fl → p.block < W.heap.size → ownI (X.setCell p u) W.heap.size (.slice va fl.length vc) fl := fun p u X h hp => ownI_far p u h hp
    refine ownI_mono (B := W.heap.size) ?_ (by omega)
    repeat (refine O _ _ _ ?_ (by simp only; omega))
    exact HO.out
  · repeat (refine Below.setCell ?_ (by simp only; omega) _)
    exact HB.out

theorem eqNode_calls (w : World) (o : NodeD) (a b : Option Addr) (cap cap2 : Nat) (h1 : RdI w a o.field) (h2 : RdI w b o.field) (hn : o.field.length ≤ 16777216) :
    Calls Try.prog 53 #[nodeV o (.slice a o.field.length cap), nodeV o (.slice b o.field.length cap2)] w fun e w' => e = .returned (.bool true) ∧ Below w.heap.size w w' := by
  obtain ⟨l, g, s, hh, r, fl⟩ := o
  simp only at h1 h2 hn
  unfold nodeV
  simp only
  obtain ⟨W, hW⟩ : ∃ W, W = (w.alloc (.cells #[.bool l, .int .i64 g, .int .i64 s, .int .i64 hh, .int .i64 r, .slice a fl.length cap] 54)).alloc (.cells #[.bool l, .int .i64 g, .int .i64 s, .int .i64 hh, .int .i64 r, .slice b fl.length cap2] 54) := ⟨_, rfl⟩
  have BW : Below w.heap.size w W := by
    rw [hW]
    exact ((Below.refl _ _).alloc (Nat.le_refl _) _).alloc (by simp) _
  have hWs : W.heap.size = w.heap.size + 1 + 1 := by rw [hW]; simp
  have HR : Hid (RdI W a fl) := rdI_later h1 BW
  have HR2 : Hid (RdI W b fl) := rdI_later h2 BW
  go_enter Try.func53, Try.ntmps53
  go_wp2_with fail
  rw [← hW]
  refine (eqIntS_rd W a b cap cap2 fl HR.out HR2.out hn).mono ?_
  rintro e w1 ⟨rfl, b1⟩
  have B1 := BW.trans (b1.mono (by omega))
  clear hW BW b1
  go_wp2
  go_ret
  exact ⟨rfl, B1⟩


/-- An object lies at place p of block g, f the slice of its fields. -/
structure NodeAt (w : World) (g p : Nat) (o : NodeD) (f : Value) : Prop where
  c0 : w.cell? ⟨g, p, none⟩ = some (.bool o.live)
  c1 : w.cell? ⟨g, p + 1, none⟩ = some (.int .i64 o.gen)
  c2 : w.cell? ⟨g, p + 2, none⟩ = some (.int .i64 o.site)
  c3 : w.cell? ⟨g, p + 3, none⟩ = some (.int .i64 o.holds)
  c4 : w.cell? ⟨g, p + 4, none⟩ = some (.int .i64 o.roots)
  c5 : w.cell? ⟨g, p + 5, none⟩ = some f
theorem NodeAt.keep {w w' : World} {g p : Nat} {o : NodeD} {f : Value} (h : NodeAt w g p o f) (hk : ∀ k, w'.cell? ⟨g, k, none⟩ = w.cell? ⟨g, k, none⟩) : NodeAt w' g p o f :=
  ⟨(hk _).trans h.c0, (hk _).trans h.c1, (hk _).trans h.c2, (hk _).trans h.c3, (hk _).trans h.c4, (hk _).trans h.c5⟩

/-- A row of objects as one who only reads has it. -/
def RdN (w : World) (a : Option Addr) (os : List NodeD) : Prop := ∀ j (h : j < os.length), ∃ g off f cap, a = some ⟨g, off, none⟩ ∧ g < w.heap.size ∧ NodeAt w g (off + j * 6) os[j] (.slice f os[j].field.length cap) ∧ RdI w f os[j].field
theorem rdN_later {w w' : World} {a : Option Addr} {os : List NodeD} (h : RdN w a os) (hb : Below w.heap.size w w') : RdN w' a os := by
  intro j hj
  obtain ⟨g, off, f, cap, ha, hg, hc, hr⟩ := h j hj
  exact ⟨g, off, f, cap, ha, Nat.lt_of_lt_of_le hg hb.size, hc.keep (fun k => hb.cell (p := ⟨g, k, none⟩) hg), rdI_later hr hb⟩

/-- What is left of a size behind objects. -/
def szNdR : List NodeD → Int → Int
  | [], left => left
  | o :: r, left => if left - (o.field.length : Int) < 0 then -1 else szNdR r (left - (o.field.length : Int))
def szNd (os : List NodeD) (left : Int) : Int := if left - (os.length : Int) < 0 then -1 else szNdR os (left - (os.length : Int))
theorem szNdR_le (os : List NodeD) : ∀ left : Int, -1 ≤ left → szNdR os left ≤ left ∧ -1 ≤ szNdR os left := by
  induction os with
  | nil => intro left h; exact ⟨Int.le_refl _, h⟩
  | cons z r ih =>
    intro left h
    simp only [szNdR]
    split
    · omega
    · have := ih (left - (z.field.length : Int)) (by omega); omega
theorem szNd_le (os : List NodeD) (left : Int) (h : -1 ≤ left) : szNd os left ≤ left ∧ -1 ≤ szNd os left := by
  unfold szNd; split
  · omega
  · have := szNdR_le os (left - (os.length : Int)) (by omega); omega
theorem szNdR_each (os : List NodeD) : ∀ left : Int, 0 ≤ szNdR os left → ∀ z ∈ os, (z.field.length : Int) ≤ left := by
  induction os with
  | nil => intro left _ z hz; simp at hz
  | cons y r ih =>
    intro left h z hz
    simp only [szNdR] at h
    split at h
    · omega
    · rcases List.mem_cons.1 hz with rfl | hz
      · omega
      · have := ih _ h z hz; omega
theorem szNd_facts (os : List NodeD) (left : Int) (h : 0 ≤ szNd os left) : (os.length : Int) ≤ left ∧ ∀ z ∈ os, (z.field.length : Int) ≤ left := by
  unfold szNd at h
  split at h
  · omega
  · refine ⟨by omega, fun z hz => ?_⟩
    have := szNdR_each os _ h z hz
    omega
theorem szNdR_drop (os : List NodeD) (left : Int) (j : Nat) (h : j < os.length) : szNdR (os.drop j) left = if left - (os[j].field.length : Int) < 0 then -1 else szNdR (os.drop (j + 1)) (left - (os[j].field.length : Int)) := by
  rw [List.drop_eq_getElem_cons h]; rfl

theorem szNodeS_calls (w : World) (a : Option Addr) (cap : Nat) (os : List NodeD) (left : Int) (h : RdN w a os) (hn : os.length ≤ 9223372036854775807) (hz : ∀ z ∈ os, z.field.length ≤ 9223372036854775807) (h0 : 0 ≤ left) (h1 : left ≤ 1048576) :
    Calls Try.prog 32 #[.slice a os.length cap, .int .i64 left] w fun e w' => e = .returned (.int .i64 (szNd os left)) ∧ Below w.heap.size w w' := by
  have HA : Hid (RdN w a os) := h
  have HZ : Hid (∀ z ∈ os, z.field.length ≤ 9223372036854775807) := hz
  have HD : Hid (∀ (l : Int) (j : Nat) (h : j < os.length), szNdR (os.drop j) l = _) := fun l j h => szNdR_drop os l j h
  obtain ⟨n, hnn⟩ : ∃ n, os.length = n := ⟨_, rfl⟩
  have Hn : Hid (os.length = n) := hnn
  clear h hz
  by_cases hl : left - (n : Int) < 0
  · have HE : Hid (szNd os left = -1) := by show _ = _; unfold szNd; rw [hnn, if_pos hl]
    rw [hnn] at hn ⊢
    clear hnn
    go_enter Try.func32, Try.ntmps32
    go_wp2
    go_ret
    exact ⟨ret_zz HE.out.symm, Below.refl _ _⟩
  · have HE : Hid (szNd os left = szNdR (os.drop 0) (left - (n : Int))) := by show _ = _; unfold szNd; rw [hnn, if_neg hl, List.drop_zero]
    have HF : Hid (∀ l, szNdR (os.drop n) l = l) := by intro l; rw [← hnn, List.drop_length]; rfl
    rw [hnn] at hn ⊢
    have hl2 : (n : Int) ≤ left := by omega
    clear hnn hl
    go_enter Try.func32, Try.ntmps32
    go_wp2
    go_loopw [1, 5] (fun x i wr => ∃ (j : Nat) (l : Int), j ≤ n ∧ 0 ≤ l ∧ l ≤ left ∧ i = .int .i64 j ∧ x = .int .i64 l ∧ Hid (szNd os left = szNdR (os.drop j) l) ∧ Below w.heap.size w wr) (fun _ i _ => n - (intOf i).toNat)
    case atStart => exact ⟨0, left - (n : Int), by omega, by omega, by omega, rfl, rfl, HE, Below.refl _ _⟩
    case round =>
      obtain ⟨j, l, hj, hl0, hl1, rfl, rfl, HJ, hb⟩ := hrel
      by_cases hlt : j < n
      · have hj2 : j < os.length := by have := Hn.out; omega
        obtain ⟨g, off, f, fc, rfl, -, hc, -⟩ := (rdN_later HA.out hb) j hj2
        have hzl := HZ.out os[j] (List.getElem_mem hj2)
        have HD2 : Hid (_ = _) := HD.out l j hj2
        generalize os[j] = o at *
        have HSZ : Hid (∀ X, _) := fun X => szNode_calls X o f o.field.length fc l hzl hl0 (by omega)
        obtain ⟨c0, c1, c2, c3, c4, c5⟩ := hc
        unfold nodeV at HSZ
        obtain ⟨ol, og, os1, oh, orr, ofl⟩ := o
        simp only at *
        by_cases hneg : l - (ofl.length : Int) < 0
        · have HR : Hid (szNd os left = -1) := by show _ = _; rw [HJ.out, HD2.out, if_pos hneg]
          rw [if_pos hneg] at HSZ
          clear hneg
          go_wp2_with fail
          refine (HSZ.out _).mono ?_
          rintro e w1 ⟨rfl, b1⟩
          have B1 := hb.trans (b1.mono hb.size)
          go_wp2
          go_ret
          exact ⟨ret_zz HR.out.symm, B1⟩
        · have HR : Hid (szNd os left = szNdR (os.drop (j + 1)) (l - (ofl.length : Int))) := by show _ = _; rw [HJ.out, HD2.out, if_neg hneg]
          rw [if_neg hneg] at HSZ
          have hneg2 : 0 ≤ l - (ofl.length : Int) := by omega
          have hneg3 : l - (ofl.length : Int) ≤ left := by omega
          clear hneg
          generalize l - (ofl.length : Int) = l2 at *
          go_wp2_with fail
          refine (HSZ.out _).mono ?_
          rintro e w1 ⟨rfl, b1⟩
          have B1 := hb.trans (b1.mono hb.size)
          go_wp2
          go_roundw
          case rel => exact ⟨j + 1, l2, by omega, hneg2, hneg3, by go_num, rfl, HR, B1⟩
          case measure => simp [intOf]; omega
      · obtain rfl : j = n := by omega
        have HR : Hid (szNd os left = l) := by show _ = _; rw [HJ.out, HF.out]
        go_wp2
        go_ret
        exact ⟨ret_zz HR.out.symm, hb⟩

/-- An object written at place p of block g. -/
def setNode (w : World) (g p : Nat) (o : NodeD) (f : Value) : World :=
  (((((w.setCell ⟨g, p, none⟩ (.bool o.live)).setCell ⟨g, p + 1, none⟩ (.int .i64 o.gen)).setCell ⟨g, p + 2, none⟩ (.int .i64 o.site)).setCell ⟨g, p + 3, none⟩ (.int .i64 o.holds)).setCell ⟨g, p + 4, none⟩ (.int .i64 o.roots)).setCell ⟨g, p + 5, none⟩ f

theorem setNode_other (w : World) (g p q : Nat) (o : NodeD) (f : Value) (h : q < p ∨ p + 6 ≤ q) : (setNode w g p o f).cell? ⟨g, q, none⟩ = w.cell? ⟨g, q, none⟩ := by
  unfold setNode
  rw [cell_far _ _ _ _ _ (by omega), cell_far _ _ _ _ _ (by omega), cell_far _ _ _ _ _ (by omega), cell_far _ _ _ _ _ (by omega), cell_far _ _ _ _ _ (by omega), cell_far _ _ _ _ _ (by omega)]
theorem setNode_frozen (w : World) (g p : Nat) (o : NodeD) (f : Value) (a : Addr) : (setNode w g p o f).frozen? a = w.frozen? a := by
  unfold setNode; simp only [World.frozen?_setCell]
theorem setNode_at (w : World) (g p : Nat) (o : NodeD) (f : Value) (h : ∀ k, k < 6 → ∃ u, w.cell? ⟨g, p + k, none⟩ = some u) : NodeAt (setNode w g p o f) g p o f := by
  have same : ∀ (X : World) (q : Nat) (u v : Value), X.cell? ⟨g, q, none⟩ = some v → (X.setCell ⟨g, q, none⟩ u).cell? ⟨g, q, none⟩ = some u := fun X q u v hX => World.cell?_setCell_same X _ u hX
  obtain ⟨u0, h0⟩ := h 0 (by omega)
  obtain ⟨u1, h1⟩ := h 1 (by omega)
  obtain ⟨u2, h2⟩ := h 2 (by omega)
  obtain ⟨u3, h3⟩ := h 3 (by omega)
  obtain ⟨u4, h4⟩ := h 4 (by omega)
  obtain ⟨u5, h5⟩ := h 5 (by omega)
  rw [Nat.add_zero] at h0
  unfold setNode
  constructor
  · iterate 5 rw [cell_far _ _ _ _ _ (by omega)]
    exact same _ _ _ _ h0
  · iterate 4 rw [cell_far _ _ _ _ _ (by omega)]
    exact same _ _ _ _ (by iterate 1 rw [cell_far _ _ _ _ _ (by omega)]
                           exact h1)
  · iterate 3 rw [cell_far _ _ _ _ _ (by omega)]
    exact same _ _ _ _ (by iterate 2 rw [cell_far _ _ _ _ _ (by omega)]
                           exact h2)
  · iterate 2 rw [cell_far _ _ _ _ _ (by omega)]
    exact same _ _ _ _ (by iterate 3 rw [cell_far _ _ _ _ _ (by omega)]
                           exact h3)
  · iterate 1 rw [cell_far _ _ _ _ _ (by omega)]
    exact same _ _ _ _ (by iterate 4 rw [cell_far _ _ _ _ _ (by omega)]
                           exact h4)
  · exact same _ _ _ _ (by iterate 5 rw [cell_far _ _ _ _ _ (by omega)]
                           exact h5)
theorem setNode_own {w : World} {B : Nat} {v : Value} {zs : List Int} (g p : Nat) (o : NodeD) (f : Value) (h : ownI w B v zs) (hg : g < B) : ownI (setNode w g p o f) B v zs := by
  unfold setNode
  iterate 6 refine ownI_far _ _ ?_ hg
  exact h
theorem setNode_below {B : Nat} {a w : World} (g p : Nat) (o : NodeD) (f : Value) (h : Below B a w) (hg : B ≤ g) : Below B a (setNode w g p o f) := by
  unfold setNode
  iterate 6 refine Below.setCell ?_ hg _
  exact h
theorem setNode_size (w : World) (g p : Nat) (o : NodeD) (f : Value) : (setNode w g p o f).heap.size = w.heap.size := by
  unfold setNode; simp [World.setCell]


theorem infoN : (Try.prog.info? 54).map (fun i => (i.zero, i.size, i.bytes)) = some (some (.agg #[.bool false, .int .i64 0, .int .i64 0, .int .i64 0, .int .i64 0, .slice none 0 0]), 6, 64) := by kernel_rfl

theorem make_nodes (n : Nat) (hn : n ≤ 1677721) (u : World) : ∃ u', (Instr.makeSlice 22 (.int .i64 (n : Int)) (.int .i64 (n : Int))).run Try.prog u = .ok (.slice (some ⟨u.heap.size, 0, none⟩) n n) u' ∧
    (∀ k, k < n * 6 → (∃ x, u'.cell? ⟨u.heap.size, k, none⟩ = some x) ∧ u'.frozen? ⟨u.heap.size, k, none⟩ = false) ∧ Below u.heap.size u u' ∧ u.heap.size < u'.heap.size := by
  obtain ⟨i0, hi, hz0, hz1, hz2⟩ := info_parts infoN
  obtain ⟨u', h1, h2, h3⟩ := run_make_full (P := Try.prog) u u.heap.size 22 54 i0 _ 6 Try.underlying22 hi hz0 hz1 .i64 .i64 n (by rw [hz2]; omega) (by unfold maxLen; omega) (Nat.le_refl _)
  refine ⟨u', h1, ?_, (Below.refl _ _).grown h3 (Nat.le_refl _) (fun r hr => by cases hr), ?_⟩
  · intro k hk
    refine ⟨?_, World.ownsRow.frozenAt h2 k⟩
    rw [World.ownsRow.cellAt h2 k hk]
    have hl : k < (madeCells (Value.agg #[.bool false, .int .i64 0, .int .i64 0, .int .i64 0, .int .i64 0, .slice none 0 0]).cells (n * 6)).toList.length := by
      rw [Array.length_toList, size_madeCells]; exact hk
    exact ⟨_, List.getElem?_eq_getElem hl⟩
  · exact (World.ownsRow.lt h2 u.heap.size rfl).2

/-- The first j objects of a row lie in block g, each with a row of its own for its fields behind g. -/
def LaidN (w : World) (g : Nat) (os : List NodeD) (j : Nat) : Prop := ∀ i (h : i < os.length), i < j → ∃ f, NodeAt w g (i * 6) os[i] f ∧ ownI w (g + 1) f os[i].field ∧ ∀ k, k < 6 → w.frozen? ⟨g, i * 6 + k, none⟩ = false
theorem laidN_rd {w : World} {g : Nat} {os : List NodeD} (h : LaidN w g os os.length) (hg : g < w.heap.size) : RdN w (some ⟨g, 0, none⟩) os := by
  intro j hj
  obtain ⟨f, h1, h2, -⟩ := h j hj hj
  obtain ⟨a, cap, rfl, h3⟩ := rdI_own' h2
  exact ⟨g, 0, a, cap, rfl, hg, by rw [Nat.zero_add]; exact h1, h3⟩
theorem laidN_later {w w' : World} {g j : Nat} {os : List NodeD} (h : LaidN w g os j) (hb : Below w.heap.size w w') (hg : g < w.heap.size) : LaidN w' g os j := by
  intro i hi hij
  obtain ⟨f, h1, h2, h3⟩ := h i hi hij
  exact ⟨f, h1.keep (fun k => hb.cell (p := ⟨g, k, none⟩) hg), ownI_later h2 hb, fun k hk => (hb.frozen (p := ⟨g, i * 6 + k, none⟩) hg).trans (h3 k hk)⟩
theorem laidN_set {w : World} {g j : Nat} {os : List NodeD} {f : Value} (h : LaidN w g os j) (hj : j < os.length) (hc : ∀ k, k < 6 → ∃ u, w.cell? ⟨g, j * 6 + k, none⟩ = some u) (ho : ownI w (g + 1) f os[j].field) (hf : ∀ k, k < 6 → w.frozen? ⟨g, j * 6 + k, none⟩ = false) : LaidN (setNode w g (j * 6) os[j] f) g os (j + 1) := by
  intro i hi hij
  by_cases he : i = j
  · subst he
    exact ⟨f, setNode_at w g (i * 6) os[i] f hc, setNode_own g _ _ _ ho (by omega), fun k hk => by rw [setNode_frozen]; exact hf k hk⟩
  · obtain ⟨f2, h1, h2, h3⟩ := h i hi (by omega)
    refine ⟨f2, ⟨?_, ?_, ?_, ?_, ?_, ?_⟩, setNode_own g _ _ _ h2 (by omega), fun k hk => by rw [setNode_frozen]; exact h3 k hk⟩
    all_goals rw [setNode_other _ _ _ _ _ _ (by omega)]
    · exact h1.c0
    · exact h1.c1
    · exact h1.c2
    · exact h1.c3
    · exact h1.c4
    · exact h1.c5

theorem some_setNode (w : World) (g p : Nat) (o : NodeD) (f : Value) (a : Addr) (h : ∃ x, w.cell? a = some x) : ∃ x, (setNode w g p o f).cell? a = some x := by
  unfold setNode
  iterate 6 refine some_set _ _ _ _ ?_
  exact h

theorem toNodeS_calls (w : World) (a : Option Addr) (cap : Nat) (os : List NodeD) (h : RdN w a os) (hn : os.length ≤ 1677721) (hz : ∀ z ∈ os, z.field.length ≤ 16777216) :
    Calls Try.prog 36 #[.slice a os.length cap] w fun e w' => e = .returned (.slice (some ⟨w.heap.size, 0, none⟩) os.length os.length) ∧ LaidN w' w.heap.size os os.length ∧ w.heap.size < w'.heap.size ∧ Below w.heap.size w w' := by
  have HA : Hid (RdN w a os) := h
  have HZ : Hid (∀ z ∈ os, z.field.length ≤ 16777216) := hz
  obtain ⟨u, hmk, hc0, B0, hlt0⟩ := make_nodes os.length hn w
  have HC0 : Hid (∀ k, k < os.length * 6 → (∃ x, u.cell? ⟨w.heap.size, k, none⟩ = some x) ∧ u.frozen? ⟨w.heap.size, k, none⟩ = false) := hc0
  obtain ⟨n, hnn⟩ : ∃ n, os.length = n := ⟨_, rfl⟩
  have Hn : Hid (os.length = n) := hnn
  rw [hnn] at hn hmk HC0 ⊢
  clear h hz hc0 hnn
  go_enter Try.func36, Try.ntmps36
  go_wp2
  go_loopw [4] (fun i wr => ∃ j : Nat, j ≤ n ∧ i = .int .i64 j ∧ Hid (LaidN wr w.heap.size os j) ∧ Hid (∀ k, k < n * 6 → (∃ x, wr.cell? ⟨w.heap.size, k, none⟩ = some x) ∧ wr.frozen? ⟨w.heap.size, k, none⟩ = false) ∧ w.heap.size < wr.heap.size ∧ Below w.heap.size w wr) (fun i _ => n - (intOf i).toNat)
  case atStart => exact ⟨0, by omega, rfl, (fun i hi hij => by omega), HC0, hlt0, B0⟩
  case round =>
    obtain ⟨j, hj, rfl, HL, HC, hgl, hb⟩ := hrel
    by_cases hlt : j < n
    · have hj2 : j < os.length := by have := Hn.out; omega
      obtain ⟨g, off, f, fc, rfl, hg, hc, hr⟩ := (rdN_later HA.out hb) j hj2
      have hzl := HZ.out os[j] (List.getElem_mem hj2)
      obtain ⟨o, ho⟩ : ∃ o, os[j] = o := ⟨_, rfl⟩
      have Ho : Hid (os[j] = o) := ho
      rw [ho] at hc hr hzl
      clear ho
      obtain ⟨c0, c1, c2, c3, c4, c5⟩ := hc
      go_wp2_with fail
      refine (toNode_calls wr o f fc hr hzl).mono ?_
      rintro e w1 ⟨v, rfl, O1, b1⟩
      obtain ⟨va, vc, rfl, -⟩ := ownI_read O1
      have B1 := hb.trans (b1.mono hb.size)
      have HX : Hid (∀ k, k < n * 6 → (∃ x, w1.cell? ⟨w.heap.size, k, none⟩ = some x) ∧ w1.frozen? ⟨w.heap.size, k, none⟩ = false) := by
        intro k hk
        obtain ⟨⟨x, hx⟩, hfz⟩ := HC.out k hk
        exact ⟨⟨x, (b1.cell (p := ⟨w.heap.size, k, none⟩) hgl).trans hx⟩, (b1.frozen (p := ⟨w.heap.size, k, none⟩) hgl).trans hfz⟩
      have HL1 : Hid (LaidN w1 w.heap.size os j) := laidN_later HL.out b1 hgl
      have HO1 : Hid (ownI w1 (w.heap.size + 1) (.slice va o.field.length vc) o.field) := ownI_mono O1 (by omega)
      obtain ⟨⟨x0, e0⟩, f0⟩ := HX.out (j * 6) (by omega)
      obtain ⟨⟨x1, e1⟩, f1⟩ := HX.out (j * 6 + 1) (by omega)
      obtain ⟨⟨x2, e2⟩, f2⟩ := HX.out (j * 6 + 2) (by omega)
      obtain ⟨⟨x3, e3⟩, f3⟩ := HX.out (j * 6 + 3) (by omega)
      obtain ⟨⟨x4, e4⟩, f4⟩ := HX.out (j * 6 + 4) (by omega)
      obtain ⟨⟨x5, e5⟩, f5⟩ := HX.out (j * 6 + 5) (by omega)
      have hgl1 : w.heap.size < w1.heap.size := Nat.lt_of_lt_of_le hgl b1.size
      have HS1 : Hid (LaidN (setNode w1 w.heap.size (j * 6) o (.slice va o.field.length vc)) w.heap.size os (j + 1)) := by
        have h := laidN_set (f := .slice va o.field.length vc) HL1.out hj2 (fun k hk => (HX.out (j * 6 + k) (by omega)).1) (by rw [Ho.out]; exact HO1.out) (fun k hk => (HX.out (j * 6 + k) (by omega)).2)
        rw [Ho.out] at h
        exact h
      have HS2 : Hid (∀ k, k < n * 6 → (∃ x, (setNode w1 w.heap.size (j * 6) o (.slice va o.field.length vc)).cell? ⟨w.heap.size, k, none⟩ = some x) ∧ (setNode w1 w.heap.size (j * 6) o (.slice va o.field.length vc)).frozen? ⟨w.heap.size, k, none⟩ = false) :=
        fun k hk => ⟨some_setNode _ _ _ _ _ _ (HX.out k hk).1, by rw [setNode_frozen]; exact (HX.out k hk).2⟩
      have HS3 : Hid (w.heap.size < (setNode w1 w.heap.size (j * 6) o (.slice va o.field.length vc)).heap.size) := by show _ < _; rw [setNode_size]; exact hgl1
      have HS4 : Hid (Below w.heap.size w (setNode w1 w.heap.size (j * 6) o (.slice va o.field.length vc))) := setNode_below _ _ _ _ B1 (Nat.le_refl _)
      clear O1 c0 c1 c2 c3 c4 c5 hr
      unfold nodeV
      go_wp2
      go_roundw
      case rel => exact ⟨j + 1, by omega, by go_num, HS1, HS2, HS3.out, HS4.out⟩
      case measure => simp [intOf]; omega
    · obtain rfl : j = n := by omega
      go_wp2
      go_ret
      exact ⟨rfl, HL.out, hgl, hb⟩

theorem eqNodeS_calls (w : World) (a b : Option Addr) (cap cap2 : Nat) (os : List NodeD) (h1 : RdN w a os) (h2 : RdN w b os) (hn : os.length ≤ 16777216) (hz : ∀ z ∈ os, z.field.length ≤ 16777216) :
    Calls Try.prog 23 #[.slice a os.length cap, .slice b os.length cap2] w fun e w' => e = .returned (.bool true) ∧ Below w.heap.size w w' := by
  have HA : Hid (RdN w a os) := h1
  have HB : Hid (RdN w b os) := h2
  have HZ : Hid (∀ z ∈ os, z.field.length ≤ 16777216) := hz
  obtain ⟨n, hnn⟩ : ∃ n, os.length = n := ⟨_, rfl⟩
  have Hn : Hid (os.length = n) := hnn
  rw [hnn] at hn ⊢
  clear h1 h2 hz hnn
  go_enter Try.func23, Try.ntmps23
  go_wp2
  go_loopw [5] (fun i wr => ∃ j : Nat, j ≤ n ∧ i = .int .i64 j ∧ Below w.heap.size w wr) (fun i _ => n - (intOf i).toNat)
  case atStart => exact ⟨0, by omega, rfl, Below.refl _ _⟩
  case round =>
    obtain ⟨j, hj, rfl, hb⟩ := hrel
    by_cases hlt : j < n
    · have hj2 : j < os.length := by have := Hn.out; omega
      obtain ⟨g, off, f, fc, rfl, -, hc, hr⟩ := (rdN_later HA.out hb) j hj2
      obtain ⟨g2, off2, f2, fc2, rfl, -, hc2, hr2⟩ := (rdN_later HB.out hb) j hj2
      have hzl := HZ.out os[j] (List.getElem_mem hj2)
      generalize os[j] = o at *
      have HE : Hid (∀ X, Below wr.heap.size wr X → _) := fun X hX => eqNode_calls X o f f2 fc fc2 (rdI_later hr hX) (rdI_later hr2 hX) hzl
      unfold nodeV at HE
      obtain ⟨c0, c1, c2, c3, c4, c5⟩ := hc
      obtain ⟨d0, d1, d2, d3, d4, d5⟩ := hc2
      have HD : Hid (Below wr.heap.size wr wr.drew) := (Below.refl _ _).drew
      go_wp2_with fail
      go_region_with (go_at_call 53; refine (HE.out _ HD.out).mono ?_; rintro e w1 ⟨rfl, b1⟩)
      all_goals
        have B1 : Below w.heap.size w w1 := hb.drew.trans (b1.mono hb.size)
        go_wp2
        go_roundw
        case rel => exact ⟨j + 1, by omega, by go_num, B1⟩
        case measure => simp [intOf]; omega
    · go_wp2
      go_ret
      exact ⟨rfl, hb⟩

end Go.Proofs.Ytjihbmkhifnblaa
