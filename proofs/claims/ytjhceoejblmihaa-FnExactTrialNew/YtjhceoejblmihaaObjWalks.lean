/- Objects as the laws have them: what szObj, toObj and eqObj do. -/
import Derived.Test.YtjhceoejblmihaaIntsWalks
import Derived.Test.YtjhceoejblmihaaInts2Walks
namespace Go.Proofs.Ytjhceoejblmihaa
open Go.RowKit
set_option linter.unusedVariables false

/-- An object's data. -/
structure ObjD where
  live : Bool
  gen : Int
  site : Int
  holds : Int
  roots : Int
  count : Int
  field : List Int
  purple : Bool
/-- Its value, f the slice of its fields. -/
def objV (o : ObjD) (f : Value) : Value := .agg #[.bool o.live, .int .i64 o.gen, .int .i64 o.site, .int .i64 o.holds, .int .i64 o.roots, .int .i64 o.count, f, .bool o.purple]

theorem szObj_calls (w : World) (o : ObjD) (a : Option Addr) (n cap : Nat) (left : Int) (hn : n ≤ 9223372036854775807) (h0 : 0 ≤ left) (h1 : left ≤ 1048576) :
    Calls Try.prog 93 #[objV o (.slice a n cap), .int .i64 left] w fun e w' => e = .returned (.int .i64 (if left - (n : Int) < 0 then -1 else left - (n : Int))) ∧ Below w.heap.size w w' := by
  have CS : Hid (∀ X, _) := fun X => szIntS_calls X a cap n left hn h0 h1
  unfold objV
  by_cases hl : left - (n : Int) < 0
  · rw [if_pos hl] at CS ⊢
    clear hl
    go_enter Try.func93, Try.ntmps93
    go_wp2_with fail
    refine (CS.out _).mono ?_
    rintro e w1 ⟨rfl, hw1⟩
    have B1 : Below w.heap.size w w1 := by rw [hw1]; exact (Below.refl _ _).alloc (Nat.le_refl _) _
    clear hw1
    go_wp2
    go_ret
    exact ⟨rfl, B1⟩
  · rw [if_neg hl] at CS ⊢
    have hl2 : 0 ≤ left - (n : Int) := by omega
    clear hl
    generalize left - (n : Int) = m at *
    go_enter Try.func93, Try.ntmps93
    go_wp2_with fail
    refine (CS.out _).mono ?_
    rintro e w1 ⟨rfl, hw1⟩
    have B1 : Below w.heap.size w w1 := by rw [hw1]; exact (Below.refl _ _).alloc (Nat.le_refl _) _
    clear hw1
    go_wp2
    go_ret
    exact ⟨rfl, B1⟩

/-- A store elsewhere leaves a row of one's own. -/
theorem ownI_far {w : World} {B : Nat} {v : Value} {zs : List Int} (p : Addr) (u : Value) (h : ownI w B v zs) (hp : p.block < B) : ownI (w.setCell p u) B v zs := by
  rcases h with ⟨h1, h2 | ⟨g, cap, cur, h2, h3, h4, h5⟩⟩
  · exact ⟨h1, .inl h2⟩
  · refine ⟨h1, .inr ⟨g, cap, cur, h2, h3, ?_, h5⟩⟩
    rw [heap_setCell_other w p g u (by omega)]
    exact h4

theorem toObj_calls (w : World) (o : ObjD) (a : Option Addr) (cap : Nat) (h : RdI w a o.field) (hn : o.field.length ≤ 16777216) :
    Calls Try.prog 94 #[objV o (.slice a o.field.length cap)] w fun e w' => ∃ v, e = .returned (objV o v) ∧ ownI w' w.heap.size v o.field ∧ Below w.heap.size w w' := by
  obtain ⟨l, g, s, hh, r, c, fl, p⟩ := o
  simp only at h hn
  unfold objV
  simp only
  obtain ⟨W, hW⟩ : ∃ W, W = ((w.alloc (.cells #[.bool l, .int .i64 g, .int .i64 s, .int .i64 hh, .int .i64 r, .int .i64 c, .slice a fl.length cap, .bool p] 106)).alloc (.cells #[.bool false, .int .i64 0, .int .i64 0, .int .i64 0, .int .i64 0, .int .i64 0, .slice none 0 0, .bool false] 61)).alloc (.cells #[.bool l, .int .i64 g, .int .i64 s, .int .i64 hh, .int .i64 r, .int .i64 c, .slice none 0 0, .bool false] 61) := ⟨_, rfl⟩
  have BW : Below w.heap.size w W := by
    rw [hW]
    exact (((Below.refl _ _).alloc (Nat.le_refl _) _).alloc (by simp) _).alloc (by simp; omega) _
  have hWs : W.heap.size = w.heap.size + 1 + 1 + 1 := by rw [hW]; simp
  have HR : Hid (RdI W a fl) := rdI_later h BW
  have HC : Hid (∀ k, W.cell? ⟨w.heap.size + 1 + 1, k, none⟩ = (#[Value.bool l, .int .i64 g, .int .i64 s, .int .i64 hh, .int .i64 r, .int .i64 c, .slice none 0 0, .bool false] : Array Value)[k]?) := by
    intro k
    rw [hW, show w.heap.size + 1 + 1 = ((w.alloc (.cells #[.bool l, .int .i64 g, .int .i64 s, .int .i64 hh, .int .i64 r, .int .i64 c, .slice a fl.length cap, .bool p] 106)).alloc (.cells #[.bool false, .int .i64 0, .int .i64 0, .int .i64 0, .int .i64 0, .int .i64 0, .slice none 0 0, .bool false] 61)).heap.size from by simp, World.cell?_alloc_mark]
  have HF : Hid (∀ k, W.frozen? ⟨w.heap.size + 1 + 1, k, none⟩ = false) := by
    intro k
    rw [hW, show w.heap.size + 1 + 1 = ((w.alloc (.cells #[.bool l, .int .i64 g, .int .i64 s, .int .i64 hh, .int .i64 r, .int .i64 c, .slice a fl.length cap, .bool p] 106)).alloc (.cells #[.bool false, .int .i64 0, .int .i64 0, .int .i64 0, .int .i64 0, .int .i64 0, .slice none 0 0, .bool false] 61)).heap.size from by simp, World.frozen?_alloc_mark]
    simp
  have HC1 : Hid (∀ k, W.cell? ⟨w.heap.size + 1, k, none⟩ = (#[Value.bool false, .int .i64 0, .int .i64 0, .int .i64 0, .int .i64 0, .int .i64 0, .slice none 0 0, .bool false] : Array Value)[k]?) := by
    intro k
    rw [hW, World.cell?_alloc_lt _ _ _ (by simp), show w.heap.size + 1 = (w.alloc (.cells #[.bool l, .int .i64 g, .int .i64 s, .int .i64 hh, .int .i64 r, .int .i64 c, .slice a fl.length cap, .bool p] 106)).heap.size from by simp, World.cell?_alloc_mark]
  have HF1 : Hid (∀ k, W.frozen? ⟨w.heap.size + 1, k, none⟩ = false) := by
    intro k
    have e : W.frozen? ⟨w.heap.size + 1, k, none⟩ = ((w.alloc (.cells #[.bool l, .int .i64 g, .int .i64 s, .int .i64 hh, .int .i64 r, .int .i64 c, .slice a fl.length cap, .bool p] 106)).alloc (.cells #[.bool false, .int .i64 0, .int .i64 0, .int .i64 0, .int .i64 0, .int .i64 0, .slice none 0 0, .bool false] 61)).frozen? ⟨w.heap.size + 1, k, none⟩ := by
      rw [hW]
      exact ((Below.refl _ _).alloc (Nat.le_refl _) _).frozen (p := ⟨w.heap.size + 1, k, none⟩) (by show w.heap.size + 1 < _; simp)
    rw [e, show w.heap.size + 1 = (w.alloc (.cells #[.bool l, .int .i64 g, .int .i64 s, .int .i64 hh, .int .i64 r, .int .i64 c, .slice a fl.length cap, .bool p] 106)).heap.size from by simp, World.frozen?_alloc_mark]
    simp
  have HP : Hid (W.cell? ⟨w.heap.size, 7, none⟩ = some (.bool p)) := by
    show _ = _
    rw [hW, World.cell?_alloc_lt _ _ _ (by simp; omega), World.cell?_alloc_lt _ _ _ (by simp), World.cell?_alloc_mark]
    rfl
  go_enter Try.func94, Try.ntmps94
  go_wp2_with fail
  rw [← hW]
  refine (toIntS_calls W a cap fl HR.out hn).mono ?_
  rintro e w1 ⟨v, rfl, O1, b1⟩
  have hc : ∀ k, w1.cell? ⟨w.heap.size + 1 + 1, k, none⟩ = W.cell? ⟨w.heap.size + 1 + 1, k, none⟩ := fun k => b1.cell (p := ⟨w.heap.size + 1 + 1, k, none⟩) (by show w.heap.size + 1 + 1 < _; omega)
  have c0 := (hc 0).trans (HC.out 0)
  have c1 := (hc 1).trans (HC.out 1)
  have c2 := (hc 2).trans (HC.out 2)
  have c3 := (hc 3).trans (HC.out 3)
  have c4 := (hc 4).trans (HC.out 4)
  have c5 := (hc 5).trans (HC.out 5)
  have c6 := (hc 6).trans (HC.out 6)
  have c7 := (hc 7).trans (HC.out 7)
  have hf : ∀ k, w1.frozen? ⟨w.heap.size + 1 + 1, k, none⟩ = false := fun k => (b1.frozen (p := ⟨w.heap.size + 1 + 1, k, none⟩) (by show w.heap.size + 1 + 1 < _; omega)).trans (HF.out k)
  have f6 := hf 6
  have f7 := hf 7
  have hd : ∀ k, w1.cell? ⟨w.heap.size + 1, k, none⟩ = W.cell? ⟨w.heap.size + 1, k, none⟩ := fun k => b1.cell (p := ⟨w.heap.size + 1, k, none⟩) (by show w.heap.size + 1 < _; omega)
  have d0 := (hd 0).trans (HC1.out 0)
  have d1 := (hd 1).trans (HC1.out 1)
  have d2 := (hd 2).trans (HC1.out 2)
  have d3 := (hd 3).trans (HC1.out 3)
  have d4 := (hd 4).trans (HC1.out 4)
  have d5 := (hd 5).trans (HC1.out 5)
  have d6 := (hd 6).trans (HC1.out 6)
  have d7 := (hd 7).trans (HC1.out 7)
  have hg : ∀ k, w1.frozen? ⟨w.heap.size + 1, k, none⟩ = false := fun k => (b1.frozen (p := ⟨w.heap.size + 1, k, none⟩) (by show w.heap.size + 1 < _; omega)).trans (HF1.out k)
  have g0 := hg 0
  have g1 := hg 1
  have g2 := hg 2
  have g3 := hg 3
  have g4 := hg 4
  have g5 := hg 5
  have g6 := hg 6
  have g7 := hg 7
  have cp : w1.cell? ⟨w.heap.size, 7, none⟩ = some (.bool p) := (b1.cell (p := ⟨w.heap.size, 7, none⟩) (by show w.heap.size < _; omega)).trans HP.out
  have B1 := BW.trans (b1.mono (by omega))
  simp at c0 c1 c2 c3 c4 c5 c6 c7 d0 d1 d2 d3 d4 d5 d6 d7
  clear hc hf hd hg hW BW
  obtain ⟨va, vc, rfl, -⟩ := ownI_read O1
  have HO : Hid (ownI w1 W.heap.size (.slice va fl.length vc) fl) := O1
  clear O1
  have HB : Hid (Below w.heap.size w w1) := B1
  clear B1
  go_wp2
  refine bodyPost_ret (v := .agg #[.bool l, .int .i64 g, .int .i64 s, .int .i64 hh, .int .i64 r, .int .i64 c, .slice va fl.length vc, .bool p]) (by simp [results, Try.results94, go_sem, *]) rfl ⟨_, rfl, ?_, ?_⟩
  · have O : ∀ (p : Addr) (u : Value) (X : World), ownI X W.heap.size (.slice va fl.length vc) fl → p.block < W.heap.size → ownI (X.setCell p u) W.heap.size (.slice va fl.length vc) fl := fun p u X h hp => ownI_far p u h hp
    refine ownI_mono (B := W.heap.size) ?_ (by omega)
    repeat (refine O _ _ _ ?_ (by simp only; omega))
    exact HO.out
  · repeat (refine Below.setCell ?_ (by simp only; omega) _)
    exact HB.out

theorem eqObj_calls (w : World) (o : ObjD) (a b : Option Addr) (cap cap2 : Nat) (h1 : RdI w a o.field) (h2 : RdI w b o.field) (hn : o.field.length ≤ 16777216) :
    Calls Try.prog 96 #[objV o (.slice a o.field.length cap), objV o (.slice b o.field.length cap2)] w fun e w' => e = .returned (.bool true) ∧ Below w.heap.size w w' := by
  obtain ⟨l, g, s, hh, r, c, fl, p⟩ := o
  simp only at h1 h2 hn
  unfold objV
  simp only
  obtain ⟨W, hW⟩ : ∃ W, W = (w.alloc (.cells #[.bool l, .int .i64 g, .int .i64 s, .int .i64 hh, .int .i64 r, .int .i64 c, .slice a fl.length cap, .bool p] 61)).alloc (.cells #[.bool l, .int .i64 g, .int .i64 s, .int .i64 hh, .int .i64 r, .int .i64 c, .slice b fl.length cap2, .bool p] 61) := ⟨_, rfl⟩
  have BW : Below w.heap.size w W := by
    rw [hW]
    exact ((Below.refl _ _).alloc (Nat.le_refl _) _).alloc (by simp) _
  have hWs : W.heap.size = w.heap.size + 1 + 1 := by rw [hW]; simp
  have HR : Hid (RdI W a fl) := rdI_later h1 BW
  have HR2 : Hid (RdI W b fl) := rdI_later h2 BW
  have HP : Hid (W.cell? ⟨w.heap.size, 7, none⟩ = some (.bool p)) := by
    show _ = _
    rw [hW, World.cell?_alloc_lt _ _ _ (by simp), World.cell?_alloc_mark]
    rfl
  have HP2 : Hid (W.cell? ⟨w.heap.size + 1, 7, none⟩ = some (.bool p)) := by
    show _ = _
    rw [hW, show w.heap.size + 1 = (w.alloc (.cells #[.bool l, .int .i64 g, .int .i64 s, .int .i64 hh, .int .i64 r, .int .i64 c, .slice a fl.length cap, .bool p] 61)).heap.size from by simp, World.cell?_alloc_mark]
    rfl
  go_enter Try.func96, Try.ntmps96
  go_wp2_with fail
  rw [← hW]
  refine (eqIntS_rd W a b cap cap2 fl HR.out HR2.out hn).mono ?_
  rintro e w1 ⟨rfl, b1⟩
  have cp : w1.cell? ⟨w.heap.size, 7, none⟩ = some (.bool p) := (b1.cell (p := ⟨w.heap.size, 7, none⟩) (by show w.heap.size < _; omega)).trans HP.out
  have cp2 : w1.cell? ⟨w.heap.size + 1, 7, none⟩ = some (.bool p) := (b1.cell (p := ⟨w.heap.size + 1, 7, none⟩) (by show w.heap.size + 1 < _; omega)).trans HP2.out
  have B1 := BW.trans (b1.mono (by omega))
  clear hW BW b1
  go_wp2
  go_ret
  exact ⟨rfl, B1⟩

end Go.Proofs.Ytjhceoejblmihaa
