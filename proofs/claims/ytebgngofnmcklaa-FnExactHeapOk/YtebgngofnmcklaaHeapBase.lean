/- Joined: ObjWalks, ObjsWalks, Objs2Walks, WeaksWalks, HeapWalks, Heap2Walks, OpenHeap, CapForm. -/
import Derived.Test.YtebgngofnmcklaaIntsWalks
import Derived.Test.YtebgngofnmcklaaInts2Walks
import Derived.Test.YtebgngofnmcklaaStrsWalks
import Derived.Test.YtebgngofnmcklaaOpenStrs
import Derived.Deep.RegionHeld
import Derived.ProofKit
import Derived.OpenShut
import Derived.ChangeSlices
import Derived.Deep.Slices
/- ObjWalks: Objects as the laws have them: what szObj, toObj and eqObj do. -/
namespace Go.Proofs.Ytebgngofnmcklaa
open Go.RowKit
set_option linter.unusedVariables false

/-- An object's data. -/
structure ObjD where
  live : Bool
  gen : Int
  site : Int
  holds : Int
  roots : Int
  count : Int
  field : List Int
  purple : Bool
/-- Its value, f the slice of its fields. -/
def objV (o : ObjD) (f : Value) : Value := .agg #[.bool o.live, .int .i64 o.gen, .int .i64 o.site, .int .i64 o.holds, .int .i64 o.roots, .int .i64 o.count, f, .bool o.purple]

theorem szObj_calls (w : World) (o : ObjD) (a : Option Addr) (n cap : Nat) (left : Int) (hn : n ≤ 9223372036854775807) (h0 : 0 ≤ left) (h1 : left ≤ 1048576) :
    Calls Try.prog 35 #[objV o (.slice a n cap), .int .i64 left] w fun e w' => e = .returned (.int .i64 (if left - (n : Int) < 0 then -1 else left - (n : Int))) ∧ Below w.heap.size w w' := by
  have CS : Hid (∀ X, _) := fun X => szIntS_calls X a cap n left hn h0 h1
  unfold objV
  by_cases hl : left - (n : Int) < 0
  · rw [if_pos hl] at CS ⊢
    clear hl
    go_enter Try.func35, Try.ntmps35
    go_wp2_with fail
    refine (CS.out _).mono ?_
    rintro e w1 ⟨rfl, hw1⟩
    have B1 : Below w.heap.size w w1 := by rw [hw1]; exact (Below.refl _ _).alloc (Nat.le_refl _) _
    clear hw1
    go_wp2
    go_ret
    exact ⟨rfl, B1⟩
  · rw [if_neg hl] at CS ⊢
    have hl2 : 0 ≤ left - (n : Int) := by omega
    clear hl
    generalize left - (n : Int) = m at *
    go_enter Try.func35, Try.ntmps35
    go_wp2_with fail
    refine (CS.out _).mono ?_
    rintro e w1 ⟨rfl, hw1⟩
    have B1 : Below w.heap.size w w1 := by rw [hw1]; exact (Below.refl _ _).alloc (Nat.le_refl _) _
    clear hw1
    go_wp2
    go_ret
    exact ⟨rfl, B1⟩

/-- A store elsewhere leaves a row of one's own. -/
theorem ownI_far {w : World} {B : Nat} {v : Value} {zs : List Int} (p : Addr) (u : Value) (h : ownI w B v zs) (hp : p.block < B) : ownI (w.setCell p u) B v zs := by
  rcases h with ⟨h1, h2 | ⟨g, cap, cur, h2, h3, h4, h5⟩⟩
  · exact ⟨h1, .inl h2⟩
  · refine ⟨h1, .inr ⟨g, cap, cur, h2, h3, ?_, h5⟩⟩
    rw [heap_setCell_other w p g u (by omega)]
    exact h4

theorem toObj_calls (w : World) (o : ObjD) (a : Option Addr) (cap : Nat) (h : RdI w a o.field) (hn : o.field.length ≤ 16777216) :
    Calls Try.prog 36 #[objV o (.slice a o.field.length cap)] w fun e w' => ∃ v, e = .returned (objV o v) ∧ ownI w' w.heap.size v o.field ∧ Below w.heap.size w w' := by
  obtain ⟨l, g, s, hh, r, c, fl, p⟩ := o
  simp only at h hn
  unfold objV
  simp only
  obtain ⟨W, hW⟩ : ∃ W, W = ((w.alloc (.cells #[.bool l, .int .i64 g, .int .i64 s, .int .i64 hh, .int .i64 r, .int .i64 c, .slice a fl.length cap, .bool p] 68)).alloc (.cells #[.bool false, .int .i64 0, .int .i64 0, .int .i64 0, .int .i64 0, .int .i64 0, .slice none 0 0, .bool false] 42)).alloc (.cells #[.bool l, .int .i64 g, .int .i64 s, .int .i64 hh, .int .i64 r, .int .i64 c, .slice none 0 0, .bool false] 42) := ⟨_, rfl⟩
  have BW : Below w.heap.size w W := by
    rw [hW]
    exact (((Below.refl _ _).alloc (Nat.le_refl _) _).alloc (by simp) _).alloc (by simp; omega) _
  have hWs : W.heap.size = w.heap.size + 1 + 1 + 1 := by rw [hW]; simp
  have HR : Hid (RdI W a fl) := rdI_later h BW
  have HC : Hid (∀ k, W.cell? ⟨w.heap.size + 1 + 1, k, none⟩ = (#[Value.bool l, .int .i64 g, .int .i64 s, .int .i64 hh, .int .i64 r, .int .i64 c, .slice none 0 0, .bool false] : Array Value)[k]?) := by
    intro k
    rw [hW, show w.heap.size + 1 + 1 = ((w.alloc (.cells #[.bool l, .int .i64 g, .int .i64 s, .int .i64 hh, .int .i64 r, .int .i64 c, .slice a fl.length cap, .bool p] 68)).alloc (.cells #[.bool false, .int .i64 0, .int .i64 0, .int .i64 0, .int .i64 0, .int .i64 0, .slice none 0 0, .bool false] 42)).heap.size from by simp, World.cell?_alloc_mark]
  have HF : Hid (∀ k, W.frozen? ⟨w.heap.size + 1 + 1, k, none⟩ = false) := by
    intro k
    rw [hW, show w.heap.size + 1 + 1 = ((w.alloc (.cells #[.bool l, .int .i64 g, .int .i64 s, .int .i64 hh, .int .i64 r, .int .i64 c, .slice a fl.length cap, .bool p] 68)).alloc (.cells #[.bool false, .int .i64 0, .int .i64 0, .int .i64 0, .int .i64 0, .int .i64 0, .slice none 0 0, .bool false] 42)).heap.size from by simp, World.frozen?_alloc_mark]
    simp
  have HC1 : Hid (∀ k, W.cell? ⟨w.heap.size + 1, k, none⟩ = (#[Value.bool false, .int .i64 0, .int .i64 0, .int .i64 0, .int .i64 0, .int .i64 0, .slice none 0 0, .bool false] : Array Value)[k]?) := by
    intro k
    rw [hW, World.cell?_alloc_lt _ _ _ (by simp), show w.heap.size + 1 = (w.alloc (.cells #[.bool l, .int .i64 g, .int .i64 s, .int .i64 hh, .int .i64 r, .int .i64 c, .slice a fl.length cap, .bool p] 68)).heap.size from by simp, World.cell?_alloc_mark]
  have HF1 : Hid (∀ k, W.frozen? ⟨w.heap.size + 1, k, none⟩ = false) := by
    intro k
    have e : W.frozen? ⟨w.heap.size + 1, k, none⟩ = ((w.alloc (.cells #[.bool l, .int .i64 g, .int .i64 s, .int .i64 hh, .int .i64 r, .int .i64 c, .slice a fl.length cap, .bool p] 68)).alloc (.cells #[.bool false, .int .i64 0, .int .i64 0, .int .i64 0, .int .i64 0, .int .i64 0, .slice none 0 0, .bool false] 42)).frozen? ⟨w.heap.size + 1, k, none⟩ := by
      rw [hW]
      exact ((Below.refl _ _).alloc (Nat.le_refl _) _).frozen (p := ⟨w.heap.size + 1, k, none⟩) (by show w.heap.size + 1 < _; simp)
    rw [e, show w.heap.size + 1 = (w.alloc (.cells #[.bool l, .int .i64 g, .int .i64 s, .int .i64 hh, .int .i64 r, .int .i64 c, .slice a fl.length cap, .bool p] 68)).heap.size from by simp, World.frozen?_alloc_mark]
    simp
  have HP : Hid (W.cell? ⟨w.heap.size, 7, none⟩ = some (.bool p)) := by
    show _ = _
    rw [hW, World.cell?_alloc_lt _ _ _ (by simp; omega), World.cell?_alloc_lt _ _ _ (by simp), World.cell?_alloc_mark]
    rfl
  go_enter Try.func36, Try.ntmps36
  go_wp2_with fail
  rw [← hW]
  refine (toIntS_calls W a cap fl HR.out hn).mono ?_
  rintro e w1 ⟨v, rfl, O1, b1⟩
  have hc : ∀ k, w1.cell? ⟨w.heap.size + 1 + 1, k, none⟩ = W.cell? ⟨w.heap.size + 1 + 1, k, none⟩ := fun k => b1.cell (p := ⟨w.heap.size + 1 + 1, k, none⟩) (by show w.heap.size + 1 + 1 < _; omega)
  have c0 := (hc 0).trans (HC.out 0)
  have c1 := (hc 1).trans (HC.out 1)
  have c2 := (hc 2).trans (HC.out 2)
  have c3 := (hc 3).trans (HC.out 3)
  have c4 := (hc 4).trans (HC.out 4)
  have c5 := (hc 5).trans (HC.out 5)
  have c6 := (hc 6).trans (HC.out 6)
  have c7 := (hc 7).trans (HC.out 7)
  have hf : ∀ k, w1.frozen? ⟨w.heap.size + 1 + 1, k, none⟩ = false := fun k => (b1.frozen (p := ⟨w.heap.size + 1 + 1, k, none⟩) (by show w.heap.size + 1 + 1 < _; omega)).trans (HF.out k)
  have f6 := hf 6
  have f7 := hf 7
  have hd : ∀ k, w1.cell? ⟨w.heap.size + 1, k, none⟩ = W.cell? ⟨w.heap.size + 1, k, none⟩ := fun k => b1.cell (p := ⟨w.heap.size + 1, k, none⟩) (by show w.heap.size + 1 < _; omega)
  have d0 := (hd 0).trans (HC1.out 0)
  have d1 := (hd 1).trans (HC1.out 1)
  have d2 := (hd 2).trans (HC1.out 2)
  have d3 := (hd 3).trans (HC1.out 3)
  have d4 := (hd 4).trans (HC1.out 4)
  have d5 := (hd 5).trans (HC1.out 5)
  have d6 := (hd 6).trans (HC1.out 6)
  have d7 := (hd 7).trans (HC1.out 7)
  have hg : ∀ k, w1.frozen? ⟨w.heap.size + 1, k, none⟩ = false := fun k => (b1.frozen (p := ⟨w.heap.size + 1, k, none⟩) (by show w.heap.size + 1 < _; omega)).trans (HF1.out k)
  have g0 := hg 0
  have g1 := hg 1
  have g2 := hg 2
  have g3 := hg 3
  have g4 := hg 4
  have g5 := hg 5
  have g6 := hg 6
  have g7 := hg 7
  have cp : w1.cell? ⟨w.heap.size, 7, none⟩ = some (.bool p) := (b1.cell (p := ⟨w.heap.size, 7, none⟩) (by show w.heap.size < _; omega)).trans HP.out
  have B1 := BW.trans (b1.mono (by omega))
  simp at c0 c1 c2 c3 c4 c5 c6 c7 d0 d1 d2 d3 d4 d5 d6 d7
  clear hc hf hd hg hW BW
  obtain ⟨va, vc, rfl, -⟩ := ownI_read O1
  have HO : Hid (ownI w1 W.heap.size (.slice va fl.length vc) fl) := O1
  clear O1
  have HB : Hid (Below w.heap.size w w1) := B1
  clear B1
  go_wp2
  refine bodyPost_ret (v := .agg #[.bool l, .int .i64 g, .int .i64 s, .int .i64 hh, .int .i64 r, .int .i64 c, .slice va fl.length vc, .bool p]) (by simp [results, Try.results36, go_sem, *]) rfl ⟨_, rfl, ?_, ?_⟩
  · have O : ∀ (p : Addr) (u : Value) (X : World), ownI X W.heap.size (.slice va fl.length vc) fl → p.block < W.heap.size → ownI (X.setCell p u) W.heap.size (.slice va fl.length vc) fl := fun p u X h hp => ownI_far p u h hp
    refine ownI_mono (B := W.heap.size) ?_ (by omega)
    repeat (refine O _ _ _ ?_ (by simp only; omega))
    exact HO.out
  · repeat (refine Below.setCell ?_ (by simp only; omega) _)
    exact HB.out

theorem eqObj_calls (w : World) (o : ObjD) (a b : Option Addr) (cap cap2 : Nat) (h1 : RdI w a o.field) (h2 : RdI w b o.field) (hn : o.field.length ≤ 16777216) :
    Calls Try.prog 46 #[objV o (.slice a o.field.length cap), objV o (.slice b o.field.length cap2)] w fun e w' => e = .returned (.bool true) ∧ Below w.heap.size w w' := by
  obtain ⟨l, g, s, hh, r, c, fl, p⟩ := o
  simp only at h1 h2 hn
  unfold objV
  simp only
  obtain ⟨W, hW⟩ : ∃ W, W = (w.alloc (.cells #[.bool l, .int .i64 g, .int .i64 s, .int .i64 hh, .int .i64 r, .int .i64 c, .slice a fl.length cap, .bool p] 42)).alloc (.cells #[.bool l, .int .i64 g, .int .i64 s, .int .i64 hh, .int .i64 r, .int .i64 c, .slice b fl.length cap2, .bool p] 42) := ⟨_, rfl⟩
  have BW : Below w.heap.size w W := by
    rw [hW]
    exact ((Below.refl _ _).alloc (Nat.le_refl _) _).alloc (by simp) _
  have hWs : W.heap.size = w.heap.size + 1 + 1 := by rw [hW]; simp
  have HR : Hid (RdI W a fl) := rdI_later h1 BW
  have HR2 : Hid (RdI W b fl) := rdI_later h2 BW
  have HP : Hid (W.cell? ⟨w.heap.size, 7, none⟩ = some (.bool p)) := by
    show _ = _
    rw [hW, World.cell?_alloc_lt _ _ _ (by simp), World.cell?_alloc_mark]
    rfl
  have HP2 : Hid (W.cell? ⟨w.heap.size + 1, 7, none⟩ = some (.bool p)) := by
    show _ = _
    rw [hW, show w.heap.size + 1 = (w.alloc (.cells #[.bool l, .int .i64 g, .int .i64 s, .int .i64 hh, .int .i64 r, .int .i64 c, .slice a fl.length cap, .bool p] 42)).heap.size from by simp, World.cell?_alloc_mark]
    rfl
  go_enter Try.func46, Try.ntmps46
  go_wp2_with fail
  rw [← hW]
  refine (eqIntS_rd W a b cap cap2 fl HR.out HR2.out hn).mono ?_
  rintro e w1 ⟨rfl, b1⟩
  have cp : w1.cell? ⟨w.heap.size, 7, none⟩ = some (.bool p) := (b1.cell (p := ⟨w.heap.size, 7, none⟩) (by show w.heap.size < _; omega)).trans HP.out
  have cp2 : w1.cell? ⟨w.heap.size + 1, 7, none⟩ = some (.bool p) := (b1.cell (p := ⟨w.heap.size + 1, 7, none⟩) (by show w.heap.size + 1 < _; omega)).trans HP2.out
  have B1 := BW.trans (b1.mono (by omega))
  clear hW BW b1
  go_wp2
  go_ret
  exact ⟨rfl, B1⟩

end Go.Proofs.Ytebgngofnmcklaa

/- ObjsWalks: Rows of objects as the laws have them: what szObjS, toObjS and eqObjS do. -/
namespace Go.Proofs.Ytebgngofnmcklaa
open Go.RowKit
set_option linter.unusedVariables false

theorem ret_zz {k : IntKind} {a b : Int} (h : a = b) : Ending.returned (.int k a) = .returned (.int k b) := by rw [h]

/-- An object lies at place p of block g, f the slice of its fields. -/
structure ObjAt (w : World) (g p : Nat) (o : ObjD) (f : Value) : Prop where
  c0 : w.cell? ⟨g, p, none⟩ = some (.bool o.live)
  c1 : w.cell? ⟨g, p + 1, none⟩ = some (.int .i64 o.gen)
  c2 : w.cell? ⟨g, p + 2, none⟩ = some (.int .i64 o.site)
  c3 : w.cell? ⟨g, p + 3, none⟩ = some (.int .i64 o.holds)
  c4 : w.cell? ⟨g, p + 4, none⟩ = some (.int .i64 o.roots)
  c5 : w.cell? ⟨g, p + 5, none⟩ = some (.int .i64 o.count)
  c6 : w.cell? ⟨g, p + 6, none⟩ = some f
  c7 : w.cell? ⟨g, p + 7, none⟩ = some (.bool o.purple)
theorem ObjAt.keep {w w' : World} {g p : Nat} {o : ObjD} {f : Value} (h : ObjAt w g p o f) (hk : ∀ k, w'.cell? ⟨g, k, none⟩ = w.cell? ⟨g, k, none⟩) : ObjAt w' g p o f :=
  ⟨(hk _).trans h.c0, (hk _).trans h.c1, (hk _).trans h.c2, (hk _).trans h.c3, (hk _).trans h.c4, (hk _).trans h.c5, (hk _).trans h.c6, (hk _).trans h.c7⟩

/-- A row of objects as one who only reads has it. -/
def RdO (w : World) (a : Option Addr) (os : List ObjD) : Prop := ∀ j (h : j < os.length), ∃ g off f cap, a = some ⟨g, off, none⟩ ∧ g < w.heap.size ∧ ObjAt w g (off + j * 8) os[j] (.slice f os[j].field.length cap) ∧ RdI w f os[j].field
theorem rdO_later {w w' : World} {a : Option Addr} {os : List ObjD} (h : RdO w a os) (hb : Below w.heap.size w w') : RdO w' a os := by
  intro j hj
  obtain ⟨g, off, f, cap, ha, hg, hc, hr⟩ := h j hj
  exact ⟨g, off, f, cap, ha, Nat.lt_of_lt_of_le hg hb.size, hc.keep (fun k => hb.cell (p := ⟨g, k, none⟩) hg), rdI_later hr hb⟩

/-- What is left of a size behind objects. -/
def szOR : List ObjD → Int → Int
  | [], left => left
  | o :: r, left => if left - (o.field.length : Int) < 0 then -1 else szOR r (left - (o.field.length : Int))
def szO (os : List ObjD) (left : Int) : Int := if left - (os.length : Int) < 0 then -1 else szOR os (left - (os.length : Int))
theorem szOR_le (os : List ObjD) : ∀ left : Int, -1 ≤ left → szOR os left ≤ left ∧ -1 ≤ szOR os left := by
  induction os with
  | nil => intro left h; exact ⟨Int.le_refl _, h⟩
  | cons z r ih =>
    intro left h
    simp only [szOR]
    split
    · omega
    · have := ih (left - (z.field.length : Int)) (by omega); omega
theorem szO_le (os : List ObjD) (left : Int) (h : -1 ≤ left) : szO os left ≤ left ∧ -1 ≤ szO os left := by
  unfold szO; split
  · omega
  · have := szOR_le os (left - (os.length : Int)) (by omega); omega
theorem szOR_each (os : List ObjD) : ∀ left : Int, 0 ≤ szOR os left → ∀ z ∈ os, (z.field.length : Int) ≤ left := by
  induction os with
  | nil => intro left _ z hz; simp at hz
  | cons y r ih =>
    intro left h z hz
    simp only [szOR] at h
    split at h
    · omega
    · rcases List.mem_cons.1 hz with rfl | hz
      · omega
      · have := ih _ h z hz; omega
theorem szO_facts (os : List ObjD) (left : Int) (h : 0 ≤ szO os left) : (os.length : Int) ≤ left ∧ ∀ z ∈ os, (z.field.length : Int) ≤ left := by
  unfold szO at h
  split at h
  · omega
  · refine ⟨by omega, fun z hz => ?_⟩
    have := szOR_each os _ h z hz
    omega
theorem szOR_drop (os : List ObjD) (left : Int) (j : Nat) (h : j < os.length) : szOR (os.drop j) left = if left - (os[j].field.length : Int) < 0 then -1 else szOR (os.drop (j + 1)) (left - (os[j].field.length : Int)) := by
  rw [List.drop_eq_getElem_cons h]; rfl

theorem szObjS_calls (w : World) (a : Option Addr) (cap : Nat) (os : List ObjD) (left : Int) (h : RdO w a os) (hn : os.length ≤ 9223372036854775807) (hz : ∀ z ∈ os, z.field.length ≤ 9223372036854775807) (h0 : 0 ≤ left) (h1 : left ≤ 1048576) :
    Calls Try.prog 9 #[.slice a os.length cap, .int .i64 left] w fun e w' => e = .returned (.int .i64 (szO os left)) ∧ Below w.heap.size w w' := by
  have HA : Hid (RdO w a os) := h
  have HZ : Hid (∀ z ∈ os, z.field.length ≤ 9223372036854775807) := hz
  have HD : Hid (∀ (l : Int) (j : Nat) (h : j < os.length), szOR (os.drop j) l = _) := fun l j h => szOR_drop os l j h
  obtain ⟨n, hnn⟩ : ∃ n, os.length = n := ⟨_, rfl⟩
  have Hn : Hid (os.length = n) := hnn
  clear h hz
  by_cases hl : left - (n : Int) < 0
  · have HE : Hid (szO os left = -1) := by show _ = _; unfold szO; rw [hnn, if_pos hl]
    rw [hnn] at hn ⊢
    clear hnn
    go_enter Try.func9, Try.ntmps9
    go_wp2
    go_ret
    exact ⟨ret_zz HE.out.symm, Below.refl _ _⟩
  · have HE : Hid (szO os left = szOR (os.drop 0) (left - (n : Int))) := by show _ = _; unfold szO; rw [hnn, if_neg hl, List.drop_zero]
    have HF : Hid (∀ l, szOR (os.drop n) l = l) := by intro l; rw [← hnn, List.drop_length]; rfl
    rw [hnn] at hn ⊢
    have hl2 : (n : Int) ≤ left := by omega
    clear hnn hl
    go_enter Try.func9, Try.ntmps9
    go_wp2
    go_loopw [1, 5] (fun x i wr => ∃ (j : Nat) (l : Int), j ≤ n ∧ 0 ≤ l ∧ l ≤ left ∧ i = .int .i64 j ∧ x = .int .i64 l ∧ Hid (szO os left = szOR (os.drop j) l) ∧ Below w.heap.size w wr) (fun _ i _ => n - (intOf i).toNat)
    case atStart => exact ⟨0, left - (n : Int), by omega, by omega, by omega, rfl, rfl, HE, Below.refl _ _⟩
    case round =>
      obtain ⟨j, l, hj, hl0, hl1, rfl, rfl, HJ, hb⟩ := hrel
      by_cases hlt : j < n
      · have hj2 : j < os.length := by have := Hn.out; omega
        obtain ⟨g, off, f, fc, rfl, -, hc, -⟩ := (rdO_later HA.out hb) j hj2
        have hzl := HZ.out os[j] (List.getElem_mem hj2)
        have HD2 : Hid (_ = _) := HD.out l j hj2
        generalize os[j] = o at *
        have HSZ : Hid (∀ X, _) := fun X => szObj_calls X o f o.field.length fc l hzl hl0 (by omega)
        obtain ⟨c0, c1, c2, c3, c4, c5, c6, c7⟩ := hc
        unfold objV at HSZ
        obtain ⟨ol, og, os1, oh, orr, oc, ofl, op⟩ := o
        simp only at *
        by_cases hneg : l - (ofl.length : Int) < 0
        · have HR : Hid (szO os left = -1) := by show _ = _; rw [HJ.out, HD2.out, if_pos hneg]
          rw [if_pos hneg] at HSZ
          clear hneg
          go_wp2_with fail
          refine (HSZ.out _).mono ?_
          rintro e w1 ⟨rfl, b1⟩
          have B1 := hb.trans (b1.mono hb.size)
          go_wp2
          go_ret
          exact ⟨ret_zz HR.out.symm, B1⟩
        · have HR : Hid (szO os left = szOR (os.drop (j + 1)) (l - (ofl.length : Int))) := by show _ = _; rw [HJ.out, HD2.out, if_neg hneg]
          rw [if_neg hneg] at HSZ
          have hneg2 : 0 ≤ l - (ofl.length : Int) := by omega
          have hneg3 : l - (ofl.length : Int) ≤ left := by omega
          clear hneg
          generalize l - (ofl.length : Int) = l2 at *
          go_wp2_with fail
          refine (HSZ.out _).mono ?_
          rintro e w1 ⟨rfl, b1⟩
          have B1 := hb.trans (b1.mono hb.size)
          go_wp2
          go_roundw
          case rel => exact ⟨j + 1, l2, by omega, hneg2, hneg3, by go_num, rfl, HR, B1⟩
          case measure => simp [intOf]; omega
      · obtain rfl : j = n := by omega
        have HR : Hid (szO os left = l) := by show _ = _; rw [HJ.out, HF.out]
        go_wp2
        go_ret
        exact ⟨ret_zz HR.out.symm, hb⟩

/-- An object written at place p of block g. -/
def setObj (w : World) (g p : Nat) (o : ObjD) (f : Value) : World :=
  (((((((w.setCell ⟨g, p, none⟩ (.bool o.live)).setCell ⟨g, p + 1, none⟩ (.int .i64 o.gen)).setCell ⟨g, p + 2, none⟩ (.int .i64 o.site)).setCell ⟨g, p + 3, none⟩ (.int .i64 o.holds)).setCell ⟨g, p + 4, none⟩ (.int .i64 o.roots)).setCell ⟨g, p + 5, none⟩ (.int .i64 o.count)).setCell ⟨g, p + 6, none⟩ f).setCell ⟨g, p + 7, none⟩ (.bool o.purple)

theorem cell_far (w : World) (g p q : Nat) (u : Value) (h : p ≠ q) : (w.setCell ⟨g, p, none⟩ u).cell? ⟨g, q, none⟩ = w.cell? ⟨g, q, none⟩ := World.cell?_setCell_other _ _ _ _ (by intro e; exact h (by injection e))
theorem setObj_other (w : World) (g p q : Nat) (o : ObjD) (f : Value) (h : q < p ∨ p + 8 ≤ q) : (setObj w g p o f).cell? ⟨g, q, none⟩ = w.cell? ⟨g, q, none⟩ := by
  unfold setObj
  rw [cell_far _ _ _ _ _ (by omega), cell_far _ _ _ _ _ (by omega), cell_far _ _ _ _ _ (by omega), cell_far _ _ _ _ _ (by omega), cell_far _ _ _ _ _ (by omega), cell_far _ _ _ _ _ (by omega), cell_far _ _ _ _ _ (by omega), cell_far _ _ _ _ _ (by omega)]
theorem setObj_frozen (w : World) (g p : Nat) (o : ObjD) (f : Value) (a : Addr) : (setObj w g p o f).frozen? a = w.frozen? a := by
  unfold setObj; simp only [World.frozen?_setCell]
theorem setObj_at (w : World) (g p : Nat) (o : ObjD) (f : Value) (h : ∀ k, k < 8 → ∃ u, w.cell? ⟨g, p + k, none⟩ = some u) : ObjAt (setObj w g p o f) g p o f := by
  have same : ∀ (X : World) (q : Nat) (u v : Value), X.cell? ⟨g, q, none⟩ = some v → (X.setCell ⟨g, q, none⟩ u).cell? ⟨g, q, none⟩ = some u := fun X q u v hX => World.cell?_setCell_same X _ u hX
  obtain ⟨u0, h0⟩ := h 0 (by omega)
  obtain ⟨u1, h1⟩ := h 1 (by omega)
  obtain ⟨u2, h2⟩ := h 2 (by omega)
  obtain ⟨u3, h3⟩ := h 3 (by omega)
  obtain ⟨u4, h4⟩ := h 4 (by omega)
  obtain ⟨u5, h5⟩ := h 5 (by omega)
  obtain ⟨u6, h6⟩ := h 6 (by omega)
  obtain ⟨u7, h7⟩ := h 7 (by omega)
  rw [Nat.add_zero] at h0
  unfold setObj
  constructor
  · iterate 7 rw [cell_far _ _ _ _ _ (by omega)]
    exact same _ _ _ _ h0
  · iterate 6 rw [cell_far _ _ _ _ _ (by omega)]
    exact same _ _ _ _ (by iterate 1 rw [cell_far _ _ _ _ _ (by omega)]
                           exact h1)
  · iterate 5 rw [cell_far _ _ _ _ _ (by omega)]
    exact same _ _ _ _ (by iterate 2 rw [cell_far _ _ _ _ _ (by omega)]
                           exact h2)
  · iterate 4 rw [cell_far _ _ _ _ _ (by omega)]
    exact same _ _ _ _ (by iterate 3 rw [cell_far _ _ _ _ _ (by omega)]
                           exact h3)
  · iterate 3 rw [cell_far _ _ _ _ _ (by omega)]
    exact same _ _ _ _ (by iterate 4 rw [cell_far _ _ _ _ _ (by omega)]
                           exact h4)
  · iterate 2 rw [cell_far _ _ _ _ _ (by omega)]
    exact same _ _ _ _ (by iterate 5 rw [cell_far _ _ _ _ _ (by omega)]
                           exact h5)
  · iterate 1 rw [cell_far _ _ _ _ _ (by omega)]
    exact same _ _ _ _ (by iterate 6 rw [cell_far _ _ _ _ _ (by omega)]
                           exact h6)
  · exact same _ _ _ _ (by iterate 7 rw [cell_far _ _ _ _ _ (by omega)]
                           exact h7)
theorem setObj_own {w : World} {B : Nat} {v : Value} {zs : List Int} (g p : Nat) (o : ObjD) (f : Value) (h : ownI w B v zs) (hg : g < B) : ownI (setObj w g p o f) B v zs := by
  unfold setObj
  iterate 8 refine ownI_far _ _ ?_ hg
  exact h
theorem setObj_below {B : Nat} {a w : World} (g p : Nat) (o : ObjD) (f : Value) (h : Below B a w) (hg : B ≤ g) : Below B a (setObj w g p o f) := by
  unfold setObj
  iterate 8 refine Below.setCell ?_ hg _
  exact h
theorem setObj_size (w : World) (g p : Nat) (o : ObjD) (f : Value) : (setObj w g p o f).heap.size = w.heap.size := by
  unfold setObj; simp [World.setCell]

end Go.Proofs.Ytebgngofnmcklaa

/- Objs2Walks: What toObjS and eqObjS do. -/
namespace Go.Proofs.Ytebgngofnmcklaa
open Go.RowKit
set_option linter.unusedVariables false

theorem rdI_own' {w : World} {B : Nat} {v : Value} {zs : List Int} (h : ownI w B v zs) : ∃ a cap, v = .slice a zs.length cap ∧ RdI w a zs := by
  obtain ⟨a, cap, h1, h2⟩ := rdI_own h
  exact ⟨a, cap, h1, h2.out⟩

theorem infoO : (Try.prog.info? 42).map (fun i => (i.zero, i.size, i.bytes)) = some (some (.agg #[.bool false, .int .i64 0, .int .i64 0, .int .i64 0, .int .i64 0, .int .i64 0, .slice none 0 0, .bool false]), 8, 80) := by kernel_rfl

theorem make_objs (n : Nat) (hn : n ≤ 1677721) (u : World) : ∃ u', (Instr.makeSlice 30 (.int .i64 (n : Int)) (.int .i64 (n : Int))).run Try.prog u = .ok (.slice (some ⟨u.heap.size, 0, none⟩) n n) u' ∧
    (∀ k, k < n * 8 → (∃ x, u'.cell? ⟨u.heap.size, k, none⟩ = some x) ∧ u'.frozen? ⟨u.heap.size, k, none⟩ = false) ∧ Below u.heap.size u u' ∧ u.heap.size < u'.heap.size := by
  obtain ⟨i0, hi, hz0, hz1, hz2⟩ := info_parts infoO
  obtain ⟨u', h1, h2, h3⟩ := run_make_full (P := Try.prog) u u.heap.size 30 42 i0 _ 8 Try.underlying30 hi hz0 hz1 .i64 .i64 n (by rw [hz2]; omega) (by unfold maxLen; omega) (Nat.le_refl _)
  refine ⟨u', h1, ?_, (Below.refl _ _).grown h3 (Nat.le_refl _) (fun r hr => by cases hr), ?_⟩
  · intro k hk
    refine ⟨?_, World.ownsRow.frozenAt h2 k⟩
    rw [World.ownsRow.cellAt h2 k hk]
    have hl : k < (madeCells (Value.agg #[.bool false, .int .i64 0, .int .i64 0, .int .i64 0, .int .i64 0, .int .i64 0, .slice none 0 0, .bool false]).cells (n * 8)).toList.length := by
      rw [Array.length_toList, size_madeCells]; exact hk
    exact ⟨_, List.getElem?_eq_getElem hl⟩
  · exact (World.ownsRow.lt h2 u.heap.size rfl).2

/-- The first j objects of a row lie in block g, each with a row of its own for its fields behind g. -/
def LaidO (w : World) (g : Nat) (os : List ObjD) (j : Nat) : Prop := ∀ i (h : i < os.length), i < j → ∃ f, ObjAt w g (i * 8) os[i] f ∧ ownI w (g + 1) f os[i].field ∧ ∀ k, k < 8 → w.frozen? ⟨g, i * 8 + k, none⟩ = false
theorem laidO_rd {w : World} {g : Nat} {os : List ObjD} (h : LaidO w g os os.length) (hg : g < w.heap.size) : RdO w (some ⟨g, 0, none⟩) os := by
  intro j hj
  obtain ⟨f, h1, h2, -⟩ := h j hj hj
  obtain ⟨a, cap, rfl, h3⟩ := rdI_own' h2
  exact ⟨g, 0, a, cap, rfl, hg, by rw [Nat.zero_add]; exact h1, h3⟩
theorem laidO_later {w w' : World} {g j : Nat} {os : List ObjD} (h : LaidO w g os j) (hb : Below w.heap.size w w') (hg : g < w.heap.size) : LaidO w' g os j := by
  intro i hi hij
  obtain ⟨f, h1, h2, h3⟩ := h i hi hij
  exact ⟨f, h1.keep (fun k => hb.cell (p := ⟨g, k, none⟩) hg), ownI_later h2 hb, fun k hk => (hb.frozen (p := ⟨g, i * 8 + k, none⟩) hg).trans (h3 k hk)⟩
theorem laidO_set {w : World} {g j : Nat} {os : List ObjD} {f : Value} (h : LaidO w g os j) (hj : j < os.length) (hc : ∀ k, k < 8 → ∃ u, w.cell? ⟨g, j * 8 + k, none⟩ = some u) (ho : ownI w (g + 1) f os[j].field) (hf : ∀ k, k < 8 → w.frozen? ⟨g, j * 8 + k, none⟩ = false) : LaidO (setObj w g (j * 8) os[j] f) g os (j + 1) := by
  intro i hi hij
  by_cases he : i = j
  · subst he
    exact ⟨f, setObj_at w g (i * 8) os[i] f hc, setObj_own g _ _ _ ho (by omega), fun k hk => by rw [setObj_frozen]; exact hf k hk⟩
  · obtain ⟨f2, h1, h2, h3⟩ := h i hi (by omega)
    refine ⟨f2, ⟨?_, ?_, ?_, ?_, ?_, ?_, ?_, ?_⟩, setObj_own g _ _ _ h2 (by omega), fun k hk => by rw [setObj_frozen]; exact h3 k hk⟩
    all_goals rw [setObj_other _ _ _ _ _ _ (by omega)]
    · exact h1.c0
    · exact h1.c1
    · exact h1.c2
    · exact h1.c3
    · exact h1.c4
    · exact h1.c5
    · exact h1.c6
    · exact h1.c7

theorem some_set (w : World) (a p : Addr) (u : Value) (h : ∃ x, w.cell? a = some x) : ∃ x, (w.setCell p u).cell? a = some x := by
  obtain ⟨x, hx⟩ := h
  by_cases e : p = a
  · subst e; exact ⟨u, World.cell?_setCell_same w _ u hx⟩
  · exact ⟨x, by rw [World.cell?_setCell_other _ _ _ _ e]; exact hx⟩
theorem some_setObj (w : World) (g p : Nat) (o : ObjD) (f : Value) (a : Addr) (h : ∃ x, w.cell? a = some x) : ∃ x, (setObj w g p o f).cell? a = some x := by
  unfold setObj
  iterate 8 refine some_set _ _ _ _ ?_
  exact h

theorem toObjS_calls (w : World) (a : Option Addr) (cap : Nat) (os : List ObjD) (h : RdO w a os) (hn : os.length ≤ 1677721) (hz : ∀ z ∈ os, z.field.length ≤ 16777216) :
    Calls Try.prog 18 #[.slice a os.length cap] w fun e w' => e = .returned (.slice (some ⟨w.heap.size, 0, none⟩) os.length os.length) ∧ LaidO w' w.heap.size os os.length ∧ w.heap.size < w'.heap.size ∧ Below w.heap.size w w' := by
  have HA : Hid (RdO w a os) := h
  have HZ : Hid (∀ z ∈ os, z.field.length ≤ 16777216) := hz
  obtain ⟨u, hmk, hc0, B0, hlt0⟩ := make_objs os.length hn w
  have HC0 : Hid (∀ k, k < os.length * 8 → (∃ x, u.cell? ⟨w.heap.size, k, none⟩ = some x) ∧ u.frozen? ⟨w.heap.size, k, none⟩ = false) := hc0
  obtain ⟨n, hnn⟩ : ∃ n, os.length = n := ⟨_, rfl⟩
  have Hn : Hid (os.length = n) := hnn
  rw [hnn] at hn hmk HC0 ⊢
  clear h hz hc0 hnn
  go_enter Try.func18, Try.ntmps18
  go_wp2
  go_loopw [4] (fun i wr => ∃ j : Nat, j ≤ n ∧ i = .int .i64 j ∧ Hid (LaidO wr w.heap.size os j) ∧ Hid (∀ k, k < n * 8 → (∃ x, wr.cell? ⟨w.heap.size, k, none⟩ = some x) ∧ wr.frozen? ⟨w.heap.size, k, none⟩ = false) ∧ w.heap.size < wr.heap.size ∧ Below w.heap.size w wr) (fun i _ => n - (intOf i).toNat)
  case atStart => exact ⟨0, by omega, rfl, (fun i hi hij => by omega), HC0, hlt0, B0⟩
  case round =>
    obtain ⟨j, hj, rfl, HL, HC, hgl, hb⟩ := hrel
    by_cases hlt : j < n
    · have hj2 : j < os.length := by have := Hn.out; omega
      obtain ⟨g, off, f, fc, rfl, hg, hc, hr⟩ := (rdO_later HA.out hb) j hj2
      have hzl := HZ.out os[j] (List.getElem_mem hj2)
      obtain ⟨o, ho⟩ : ∃ o, os[j] = o := ⟨_, rfl⟩
      have Ho : Hid (os[j] = o) := ho
      rw [ho] at hc hr hzl
      clear ho
      obtain ⟨c0, c1, c2, c3, c4, c5, c6, c7⟩ := hc
      go_wp2_with fail
      refine (toObj_calls wr o f fc hr hzl).mono ?_
      rintro e w1 ⟨v, rfl, O1, b1⟩
      obtain ⟨va, vc, rfl, -⟩ := ownI_read O1
      have B1 := hb.trans (b1.mono hb.size)
      have HX : Hid (∀ k, k < n * 8 → (∃ x, w1.cell? ⟨w.heap.size, k, none⟩ = some x) ∧ w1.frozen? ⟨w.heap.size, k, none⟩ = false) := by
        intro k hk
        obtain ⟨⟨x, hx⟩, hfz⟩ := HC.out k hk
        exact ⟨⟨x, (b1.cell (p := ⟨w.heap.size, k, none⟩) hgl).trans hx⟩, (b1.frozen (p := ⟨w.heap.size, k, none⟩) hgl).trans hfz⟩
      have HL1 : Hid (LaidO w1 w.heap.size os j) := laidO_later HL.out b1 hgl
      have HO1 : Hid (ownI w1 (w.heap.size + 1) (.slice va o.field.length vc) o.field) := ownI_mono O1 (by omega)
      obtain ⟨⟨x0, e0⟩, f0⟩ := HX.out (j * 8) (by omega)
      obtain ⟨⟨x1, e1⟩, f1⟩ := HX.out (j * 8 + 1) (by omega)
      obtain ⟨⟨x2, e2⟩, f2⟩ := HX.out (j * 8 + 2) (by omega)
      obtain ⟨⟨x3, e3⟩, f3⟩ := HX.out (j * 8 + 3) (by omega)
      obtain ⟨⟨x4, e4⟩, f4⟩ := HX.out (j * 8 + 4) (by omega)
      obtain ⟨⟨x5, e5⟩, f5⟩ := HX.out (j * 8 + 5) (by omega)
      obtain ⟨⟨x6, e6⟩, f6⟩ := HX.out (j * 8 + 6) (by omega)
      obtain ⟨⟨x7, e7⟩, f7⟩ := HX.out (j * 8 + 7) (by omega)
      have hgl1 : w.heap.size < w1.heap.size := Nat.lt_of_lt_of_le hgl b1.size
      have HS1 : Hid (LaidO (setObj w1 w.heap.size (j * 8) o (.slice va o.field.length vc)) w.heap.size os (j + 1)) := by
        have h := laidO_set (f := .slice va o.field.length vc) HL1.out hj2 (fun k hk => (HX.out (j * 8 + k) (by omega)).1) (by rw [Ho.out]; exact HO1.out) (fun k hk => (HX.out (j * 8 + k) (by omega)).2)
        rw [Ho.out] at h
        exact h
      have HS2 : Hid (∀ k, k < n * 8 → (∃ x, (setObj w1 w.heap.size (j * 8) o (.slice va o.field.length vc)).cell? ⟨w.heap.size, k, none⟩ = some x) ∧ (setObj w1 w.heap.size (j * 8) o (.slice va o.field.length vc)).frozen? ⟨w.heap.size, k, none⟩ = false) :=
        fun k hk => ⟨some_setObj _ _ _ _ _ _ (HX.out k hk).1, by rw [setObj_frozen]; exact (HX.out k hk).2⟩
      have HS3 : Hid (w.heap.size < (setObj w1 w.heap.size (j * 8) o (.slice va o.field.length vc)).heap.size) := by show _ < _; rw [setObj_size]; exact hgl1
      have HS4 : Hid (Below w.heap.size w (setObj w1 w.heap.size (j * 8) o (.slice va o.field.length vc))) := setObj_below _ _ _ _ B1 (Nat.le_refl _)
      clear O1 c0 c1 c2 c3 c4 c5 c6 c7 hr
      unfold objV
      go_wp2
      go_roundw
      case rel => exact ⟨j + 1, by omega, by go_num, HS1, HS2, HS3.out, HS4.out⟩
      case measure => simp [intOf]; omega
    · obtain rfl : j = n := by omega
      go_wp2
      go_ret
      exact ⟨rfl, HL.out, hgl, hb⟩

theorem eqObjS_calls (w : World) (a b : Option Addr) (cap cap2 : Nat) (os : List ObjD) (h1 : RdO w a os) (h2 : RdO w b os) (hn : os.length ≤ 16777216) (hz : ∀ z ∈ os, z.field.length ≤ 16777216) :
    Calls Try.prog 31 #[.slice a os.length cap, .slice b os.length cap2] w fun e w' => e = .returned (.bool true) ∧ Below w.heap.size w w' := by
  have HA : Hid (RdO w a os) := h1
  have HB : Hid (RdO w b os) := h2
  have HZ : Hid (∀ z ∈ os, z.field.length ≤ 16777216) := hz
  obtain ⟨n, hnn⟩ : ∃ n, os.length = n := ⟨_, rfl⟩
  have Hn : Hid (os.length = n) := hnn
  rw [hnn] at hn ⊢
  clear h1 h2 hz hnn
  go_enter Try.func31, Try.ntmps31
  go_wp2
  go_loopw [5] (fun i wr => ∃ j : Nat, j ≤ n ∧ i = .int .i64 j ∧ Below w.heap.size w wr) (fun i _ => n - (intOf i).toNat)
  case atStart => exact ⟨0, by omega, rfl, Below.refl _ _⟩
  case round =>
    obtain ⟨j, hj, rfl, hb⟩ := hrel
    by_cases hlt : j < n
    · have hj2 : j < os.length := by have := Hn.out; omega
      obtain ⟨g, off, f, fc, rfl, -, hc, hr⟩ := (rdO_later HA.out hb) j hj2
      obtain ⟨g2, off2, f2, fc2, rfl, -, hc2, hr2⟩ := (rdO_later HB.out hb) j hj2
      have hzl := HZ.out os[j] (List.getElem_mem hj2)
      generalize os[j] = o at *
      have HE : Hid (∀ X, Below wr.heap.size wr X → _) := fun X hX => eqObj_calls X o f f2 fc fc2 (rdI_later hr hX) (rdI_later hr2 hX) hzl
      unfold objV at HE
      obtain ⟨c0, c1, c2, c3, c4, c5, c6, c7⟩ := hc
      obtain ⟨d0, d1, d2, d3, d4, d5, d6, d7⟩ := hc2
      have HD : Hid (Below wr.heap.size wr wr.drew) := (Below.refl _ _).drew
      go_wp2_with fail
      go_region_with (go_at_call 46; refine (HE.out _ HD.out).mono ?_; rintro e w1 ⟨rfl, b1⟩)
      all_goals
        have B1 : Below w.heap.size w w1 := hb.drew.trans (b1.mono hb.size)
        go_wp2
        go_roundw
        case rel => exact ⟨j + 1, by omega, by go_num, B1⟩
        case measure => simp [intOf]; omega
    · go_wp2
      go_ret
      exact ⟨rfl, hb⟩

end Go.Proofs.Ytebgngofnmcklaa

/- WeaksWalks: Weak handles as the laws have them: what szWeakS, toWeak, toWeakS, eqWeak and eqWeakS do. -/
namespace Go.Proofs.Ytebgngofnmcklaa
open Go.RowKit
set_option linter.unusedVariables false

structure WeakD where
  used : Bool
  target : Int
def weakV (d : WeakD) : Value := .agg #[.bool d.used, .int .i64 d.target]

theorem toWeak_calls (w : World) (d : WeakD) :
    Calls Try.prog 37 #[weakV d] w fun e w' => e = .returned (weakV d) ∧ Below w.heap.size w w' := by
  obtain ⟨u, t⟩ := d
  unfold weakV
  simp only
  go_enter Try.func37, Try.ntmps37
  go_wp2
  refine bodyPost_ret (v := .agg #[.bool u, .int .i64 t]) (by simp [results, Try.results37, go_sem, *]) rfl ⟨rfl, ?_⟩
  exact (((Below.refl _ _).alloc (Nat.le_refl _) _).alloc (by simp) _).alloc (by simp; omega) _

theorem eqWeak_calls (w : World) (d : WeakD) :
    Calls Try.prog 47 #[weakV d, weakV d] w fun e w' => e = .returned (.bool true) ∧ Below w.heap.size w w' := by
  obtain ⟨u, t⟩ := d
  unfold weakV
  simp only
  go_enter Try.func47, Try.ntmps47
  go_wp2
  go_ret
  exact ⟨rfl, ((Below.refl _ _).alloc (Nat.le_refl _) _).alloc (by simp) _⟩

theorem szWeakS_calls (w : World) (a : Option Addr) (cap n : Nat) (left : Int) (hn : n ≤ 9223372036854775807) (h0 : 0 ≤ left) (h1 : left ≤ 1048576) :
    Calls Try.prog 10 #[.slice a n cap, .int .i64 left] w fun e w' => e = .returned (.int .i64 (if left - (n : Int) < 0 then -1 else left - (n : Int))) ∧ w' = w := by
  by_cases hl : left - (n : Int) < 0
  · rw [if_pos hl]
    go_enter Try.func10, Try.ntmps10
    go_wp2
    go_ret
    exact ⟨rfl, rfl⟩
  · rw [if_neg hl]
    have hl2 : (n : Int) ≤ left := by omega
    clear hl
    go_enter Try.func10, Try.ntmps10
    go_wp2
    go_ret
    exact ⟨rfl, rfl⟩

/-- A weak handle lies at place p of block g. -/
structure WeakAt (w : World) (g p : Nat) (d : WeakD) : Prop where
  c0 : w.cell? ⟨g, p, none⟩ = some (.bool d.used)
  c1 : w.cell? ⟨g, p + 1, none⟩ = some (.int .i64 d.target)
theorem WeakAt.keep {w w' : World} {g p : Nat} {d : WeakD} (h : WeakAt w g p d) (hk : ∀ k, w'.cell? ⟨g, k, none⟩ = w.cell? ⟨g, k, none⟩) : WeakAt w' g p d :=
  ⟨(hk _).trans h.c0, (hk _).trans h.c1⟩
def RdW (w : World) (a : Option Addr) (ds : List WeakD) : Prop := ∀ j (h : j < ds.length), ∃ g off, a = some ⟨g, off, none⟩ ∧ g < w.heap.size ∧ WeakAt w g (off + j * 2) ds[j]
theorem rdW_later {w w' : World} {a : Option Addr} {ds : List WeakD} (h : RdW w a ds) (hb : Below w.heap.size w w') : RdW w' a ds := by
  intro j hj
  obtain ⟨g, off, ha, hg, hc⟩ := h j hj
  exact ⟨g, off, ha, Nat.lt_of_lt_of_le hg hb.size, hc.keep (fun k => hb.cell (p := ⟨g, k, none⟩) hg)⟩

theorem infoW : (Try.prog.info? 48).map (fun i => (i.zero, i.size, i.bytes)) = some (some (.agg #[.bool false, .int .i64 0]), 2, 16) := by kernel_rfl
theorem make_weaks (n : Nat) (hn : n ≤ 1677721) (u : World) : ∃ u', (Instr.makeSlice 31 (.int .i64 (n : Int)) (.int .i64 (n : Int))).run Try.prog u = .ok (.slice (some ⟨u.heap.size, 0, none⟩) n n) u' ∧
    (∀ k, k < n * 2 → (∃ x, u'.cell? ⟨u.heap.size, k, none⟩ = some x) ∧ u'.frozen? ⟨u.heap.size, k, none⟩ = false) ∧ Below u.heap.size u u' ∧ u.heap.size < u'.heap.size := by
  obtain ⟨i0, hi, hz0, hz1, hz2⟩ := info_parts infoW
  obtain ⟨u', h1, h2, h3⟩ := run_make_full (P := Try.prog) u u.heap.size 31 48 i0 _ 2 Try.underlying31 hi hz0 hz1 .i64 .i64 n (by rw [hz2]; omega) (by unfold maxLen; omega) (Nat.le_refl _)
  refine ⟨u', h1, ?_, (Below.refl _ _).grown h3 (Nat.le_refl _) (fun r hr => by cases hr), ?_⟩
  · intro k hk
    refine ⟨?_, World.ownsRow.frozenAt h2 k⟩
    rw [World.ownsRow.cellAt h2 k hk]
    have hl : k < (madeCells (Value.agg #[.bool false, .int .i64 0]).cells (n * 2)).toList.length := by
      rw [Array.length_toList, size_madeCells]; exact hk
    exact ⟨_, List.getElem?_eq_getElem hl⟩
  · exact (World.ownsRow.lt h2 u.heap.size rfl).2

def setWeak (w : World) (g p : Nat) (d : WeakD) : World := (w.setCell ⟨g, p, none⟩ (.bool d.used)).setCell ⟨g, p + 1, none⟩ (.int .i64 d.target)
theorem setWeak_other (w : World) (g p q : Nat) (d : WeakD) (h : q < p ∨ p + 2 ≤ q) : (setWeak w g p d).cell? ⟨g, q, none⟩ = w.cell? ⟨g, q, none⟩ := by
  unfold setWeak
  rw [cell_far _ _ _ _ _ (by omega), cell_far _ _ _ _ _ (by omega)]
theorem setWeak_at (w : World) (g p : Nat) (d : WeakD) (h : ∀ k, k < 2 → ∃ u, w.cell? ⟨g, p + k, none⟩ = some u) : WeakAt (setWeak w g p d) g p d := by
  have same : ∀ (X : World) (q : Nat) (u v : Value), X.cell? ⟨g, q, none⟩ = some v → (X.setCell ⟨g, q, none⟩ u).cell? ⟨g, q, none⟩ = some u := fun X q u v hX => World.cell?_setCell_same X _ u hX
  obtain ⟨u0, h0⟩ := h 0 (by omega)
  obtain ⟨u1, h1⟩ := h 1 (by omega)
  rw [Nat.add_zero] at h0
  unfold setWeak
  constructor
  · rw [cell_far _ _ _ _ _ (by omega)]
    exact same _ _ _ _ h0
  · exact same _ _ _ _ (by rw [cell_far _ _ _ _ _ (by omega)]; exact h1)

/-- The first j weak handles of a row lie in block g. -/
def LaidW (w : World) (g : Nat) (ds : List WeakD) (j : Nat) : Prop := ∀ i (h : i < ds.length), i < j → WeakAt w g (i * 2) ds[i] ∧ ∀ k, k < 2 → w.frozen? ⟨g, i * 2 + k, none⟩ = false
theorem laidW_rd {w : World} {g : Nat} {ds : List WeakD} (h : LaidW w g ds ds.length) (hg : g < w.heap.size) : RdW w (some ⟨g, 0, none⟩) ds :=
  fun j hj => ⟨g, 0, rfl, hg, by rw [Nat.zero_add]; exact (h j hj hj).1⟩
theorem laidW_later {w w' : World} {g j : Nat} {ds : List WeakD} (h : LaidW w g ds j) (hb : Below w.heap.size w w') (hg : g < w.heap.size) : LaidW w' g ds j :=
  fun i hi hij => ⟨(h i hi hij).1.keep (fun k => hb.cell (p := ⟨g, k, none⟩) hg), fun k hk => (hb.frozen (p := ⟨g, i * 2 + k, none⟩) hg).trans ((h i hi hij).2 k hk)⟩
theorem laidW_set {w : World} {g j : Nat} {ds : List WeakD} (h : LaidW w g ds j) (hj : j < ds.length) (hc : ∀ k, k < 2 → ∃ u, w.cell? ⟨g, j * 2 + k, none⟩ = some u) (hf : ∀ k, k < 2 → w.frozen? ⟨g, j * 2 + k, none⟩ = false) : LaidW (setWeak w g (j * 2) ds[j]) g ds (j + 1) := by
  intro i hi hij
  by_cases he : i = j
  · subst he
    exact ⟨setWeak_at w g (i * 2) ds[i] hc, fun k hk => by unfold setWeak; rw [World.frozen?_setCell, World.frozen?_setCell]; exact hf k hk⟩
  · have h1 := (h i hi (by omega)).1
    exact ⟨⟨by rw [setWeak_other _ _ _ _ _ (by omega)]; exact h1.c0, by rw [setWeak_other _ _ _ _ _ (by omega)]; exact h1.c1⟩, fun k hk => by unfold setWeak; rw [World.frozen?_setCell, World.frozen?_setCell]; exact (h i hi (by omega)).2 k hk⟩

theorem toWeakS_calls (w : World) (a : Option Addr) (cap : Nat) (ds : List WeakD) (h : RdW w a ds) (hn : ds.length ≤ 1677721) :
    Calls Try.prog 19 #[.slice a ds.length cap] w fun e w' => e = .returned (.slice (some ⟨w.heap.size, 0, none⟩) ds.length ds.length) ∧ LaidW w' w.heap.size ds ds.length ∧ w.heap.size < w'.heap.size ∧ Below w.heap.size w w' := by
  have HA : Hid (RdW w a ds) := h
  obtain ⟨u, hmk, hc0, B0, hlt0⟩ := make_weaks ds.length hn w
  have HC0 : Hid (∀ k, k < ds.length * 2 → (∃ x, u.cell? ⟨w.heap.size, k, none⟩ = some x) ∧ u.frozen? ⟨w.heap.size, k, none⟩ = false) := hc0
  obtain ⟨n, hnn⟩ : ∃ n, ds.length = n := ⟨_, rfl⟩
  have Hn : Hid (ds.length = n) := hnn
  rw [hnn] at hn hmk HC0 ⊢
  clear h hc0 hnn
  go_enter Try.func19, Try.ntmps19
  go_wp2
  go_loopw [4] (fun i wr => ∃ j : Nat, j ≤ n ∧ i = .int .i64 j ∧ Hid (LaidW wr w.heap.size ds j) ∧ Hid (∀ k, k < n * 2 → (∃ x, wr.cell? ⟨w.heap.size, k, none⟩ = some x) ∧ wr.frozen? ⟨w.heap.size, k, none⟩ = false) ∧ w.heap.size < wr.heap.size ∧ Below w.heap.size w wr) (fun i _ => n - (intOf i).toNat)
  case atStart => exact ⟨0, by omega, rfl, (fun i hi hij => by omega), HC0, hlt0, B0⟩
  case round =>
    obtain ⟨j, hj, rfl, HL, HC, hgl, hb⟩ := hrel
    by_cases hlt : j < n
    · have hj2 : j < ds.length := by have := Hn.out; omega
      obtain ⟨g, off, rfl, hg, hc⟩ := (rdW_later HA.out hb) j hj2
      obtain ⟨d, hd⟩ : ∃ d, ds[j] = d := ⟨_, rfl⟩
      have Hd : Hid (ds[j] = d) := hd
      rw [hd] at hc
      clear hd
      obtain ⟨c0, c1⟩ := hc
      go_wp2_with fail
      refine (toWeak_calls wr d).mono ?_
      rintro e w1 ⟨rfl, b1⟩
      have B1 := hb.trans (b1.mono hb.size)
      have HX : Hid (∀ k, k < n * 2 → (∃ x, w1.cell? ⟨w.heap.size, k, none⟩ = some x) ∧ w1.frozen? ⟨w.heap.size, k, none⟩ = false) := by
        intro k hk
        obtain ⟨⟨x, hx⟩, hfz⟩ := HC.out k hk
        exact ⟨⟨x, (b1.cell (p := ⟨w.heap.size, k, none⟩) hgl).trans hx⟩, (b1.frozen (p := ⟨w.heap.size, k, none⟩) hgl).trans hfz⟩
      have HL1 : Hid (LaidW w1 w.heap.size ds j) := laidW_later HL.out b1 hgl
      obtain ⟨⟨x0, e0⟩, f0⟩ := HX.out (j * 2) (by omega)
      obtain ⟨⟨x1, e1⟩, f1⟩ := HX.out (j * 2 + 1) (by omega)
      have hgl1 : w.heap.size < w1.heap.size := Nat.lt_of_lt_of_le hgl b1.size
      have HS1 : Hid (LaidW (setWeak w1 w.heap.size (j * 2) d) w.heap.size ds (j + 1)) := by
        have h := laidW_set HL1.out hj2 (fun k hk => (HX.out (j * 2 + k) (by omega)).1) (fun k hk => (HX.out (j * 2 + k) (by omega)).2)
        rw [Hd.out] at h
        exact h
      have HS2 : Hid (∀ k, k < n * 2 → (∃ x, (setWeak w1 w.heap.size (j * 2) d).cell? ⟨w.heap.size, k, none⟩ = some x) ∧ (setWeak w1 w.heap.size (j * 2) d).frozen? ⟨w.heap.size, k, none⟩ = false) :=
        fun k hk => ⟨some_set _ _ _ _ (some_set _ _ _ _ (HX.out k hk).1), by unfold setWeak; rw [World.frozen?_setCell, World.frozen?_setCell]; exact (HX.out k hk).2⟩
      have HS3 : Hid (w.heap.size < (setWeak w1 w.heap.size (j * 2) d).heap.size) := by show _ < _; unfold setWeak; simp [World.setCell]; exact hgl1
      have HS4 : Hid (Below w.heap.size w (setWeak w1 w.heap.size (j * 2) d)) := (B1.setCell (p := ⟨w.heap.size, j * 2, none⟩) (Nat.le_refl _) _).setCell (p := ⟨w.heap.size, j * 2 + 1, none⟩) (Nat.le_refl _) _
      clear c0 c1
      unfold weakV
      go_wp2
      go_roundw
      case rel => exact ⟨j + 1, by omega, by go_num, HS1, HS2, HS3.out, HS4.out⟩
      case measure => simp [intOf]; omega
    · obtain rfl : j = n := by omega
      go_wp2
      go_ret
      exact ⟨rfl, HL.out, hgl, hb⟩

theorem eqWeakS_calls (w : World) (a b : Option Addr) (cap cap2 : Nat) (ds : List WeakD) (h1 : RdW w a ds) (h2 : RdW w b ds) (hn : ds.length ≤ 16777216) :
    Calls Try.prog 32 #[.slice a ds.length cap, .slice b ds.length cap2] w fun e w' => e = .returned (.bool true) ∧ Below w.heap.size w w' := by
  have HA : Hid (RdW w a ds) := h1
  have HB : Hid (RdW w b ds) := h2
  obtain ⟨n, hnn⟩ : ∃ n, ds.length = n := ⟨_, rfl⟩
  have Hn : Hid (ds.length = n) := hnn
  rw [hnn] at hn ⊢
  clear h1 h2 hnn
  go_enter Try.func32, Try.ntmps32
  go_wp2
  go_loopw [5] (fun i wr => ∃ j : Nat, j ≤ n ∧ i = .int .i64 j ∧ Below w.heap.size w wr) (fun i _ => n - (intOf i).toNat)
  case atStart => exact ⟨0, by omega, rfl, Below.refl _ _⟩
  case round =>
    obtain ⟨j, hj, rfl, hb⟩ := hrel
    by_cases hlt : j < n
    · have hj2 : j < ds.length := by have := Hn.out; omega
      obtain ⟨g, off, rfl, -, hc⟩ := (rdW_later HA.out hb) j hj2
      obtain ⟨g2, off2, rfl, -, hc2⟩ := (rdW_later HB.out hb) j hj2
      generalize ds[j] = d at *
      have HE : Hid (∀ X, _) := fun X => eqWeak_calls X d
      unfold weakV at HE
      obtain ⟨c0, c1⟩ := hc
      obtain ⟨d0, d1⟩ := hc2
      go_wp2_with fail
      go_region_with (go_at_call 47; refine (HE.out _).mono ?_; rintro e w1 ⟨rfl, b1⟩)
      all_goals
        have B1 : Below w.heap.size w w1 := hb.drew.trans (b1.mono hb.size)
        go_wp2
        go_roundw
        case rel => exact ⟨j + 1, by omega, by go_num, B1⟩
        case measure => simp [intOf]; omega
    · go_wp2
      go_ret
      exact ⟨rfl, hb⟩

end Go.Proofs.Ytebgngofnmcklaa

/- HeapWalks: Heaps as the laws have them: what szHeap, toHeap and eqHeap do. -/
namespace Go.Proofs.Ytebgngofnmcklaa
open Go.RowKit
set_option linter.unusedVariables false

/-- A heap's data. -/
structure HeapD where
  objs : List ObjD
  weaks : List WeakD
  buffer : List Int
  sites : List (List UInt8)
/-- A heap's value, as one who only reads has it. -/
def RdH (w : World) (v : Value) (H : HeapD) : Prop := ∃ ao co aw cw ab cb sa sc, v = .agg #[.slice ao H.objs.length co, .slice aw H.weaks.length cw, .slice ab H.buffer.length cb, .slice sa H.sites.length sc] ∧ RdO w ao H.objs ∧ RdW w aw H.weaks ∧ RdI w ab H.buffer ∧ RdS w sa H.sites
theorem rdH_later {w w' : World} {v : Value} {H : HeapD} (h : RdH w v H) (hb : Below w.heap.size w w') : RdH w' v H := by
  obtain ⟨ao, co, aw, cw, ab, cb, sa, sc, h1, h2, h3, h4, h5⟩ := h
  exact ⟨ao, co, aw, cw, ab, cb, sa, sc, h1, rdO_later h2 hb, rdW_later h3 hb, rdI_later h4 hb, rdS_later h5 hb⟩

/-- Each number is an int. -/
def in64 (z : Int) : Prop := -9223372036854775808 ≤ z ∧ z ≤ 9223372036854775807
def WfO (o : ObjD) : Prop := in64 o.gen ∧ in64 o.site ∧ in64 o.holds ∧ in64 o.roots ∧ in64 o.count ∧ ∀ z ∈ o.field, in64 z
structure WfH (H : HeapD) : Prop where
  objs : ∀ o ∈ H.objs, WfO o
  weaks : ∀ d ∈ H.weaks, in64 d.target
  buffer : ∀ z ∈ H.buffer, in64 z

/-- No part of it is longer than a slice can be, and each number is an int. -/
structure SaneH (H : HeapD) : Prop where
  wf : WfH H
  objs : H.objs.length ≤ 9223372036854775807
  fields : ∀ z ∈ H.objs, z.field.length ≤ 9223372036854775807
  weaks : H.weaks.length ≤ 9223372036854775807
  buffer : H.buffer.length ≤ 9223372036854775807
  sites : H.sites.length ≤ 9223372036854775807
  names : ∀ z ∈ H.sites, z.length ≤ 9223372036854775807
/-- Each part of it is of at most 2^20. -/
structure SmallH (H : HeapD) : Prop where
  objs : H.objs.length ≤ 1048576
  fields : ∀ z ∈ H.objs, z.field.length ≤ 1048576
  weaks : H.weaks.length ≤ 1048576
  buffer : H.buffer.length ≤ 1048576
  sites : H.sites.length ≤ 1048576
  names : ∀ z ∈ H.sites, z.length ≤ 1048576

def szN (n : Nat) (left : Int) : Int := if left - (n : Int) < 0 then -1 else left - (n : Int)
theorem szN_le (n : Nat) (left : Int) (h : -1 ≤ left) : szN n left ≤ left ∧ -1 ≤ szN n left := by unfold szN; split <;> omega
theorem szS_le (zs : List (List UInt8)) (left : Int) (h : -1 ≤ left) : szS zs left ≤ left ∧ -1 ≤ szS zs left := by
  unfold szS; split
  · omega
  · have := szR_le zs (left - (zs.length : Int)) (by omega); omega
/-- What is left of a size behind a heap. -/
def szH (H : HeapD) (left : Int) : Int :=
  if szO H.objs left < 0 then -1
  else if szN H.weaks.length (szO H.objs left) < 0 then -1
  else if szN H.buffer.length (szN H.weaks.length (szO H.objs left)) < 0 then -1
  else if szS H.sites (szN H.buffer.length (szN H.weaks.length (szO H.objs left))) < 0 then -1
  else szS H.sites (szN H.buffer.length (szN H.weaks.length (szO H.objs left)))
theorem szH_small (H : HeapD) (h : ¬ szH H 1048576 < 0) : SmallH H := by
  unfold szH at h
  have hl := szO_le H.objs 1048576 (by omega)
  split at h
  · omega
  rename_i h1
  have hl2 := szN_le H.weaks.length (szO H.objs 1048576) (by omega)
  split at h
  · omega
  rename_i h2
  have hl3 := szN_le H.buffer.length (szN H.weaks.length (szO H.objs 1048576)) (by omega)
  split at h
  · omega
  rename_i h3
  split at h
  · omega
  rename_i h4
  obtain ⟨a1, a2⟩ := szO_facts H.objs 1048576 (by omega)
  obtain ⟨b1, b2⟩ := szS_facts H.sites _ (Int.not_lt.1 h4)
  have c1 : (H.weaks.length : Int) ≤ szO H.objs 1048576 := by unfold szN at h2; split at h2 <;> omega
  have c2 : (H.buffer.length : Int) ≤ szN H.weaks.length (szO H.objs 1048576) := by unfold szN at h3 ⊢; split at h3 <;> omega
  exact ⟨by omega, fun z hz => by have := a2 z hz; omega, by omega, by omega, by omega, fun z hz => by have := b2 z hz; omega⟩

/-- A new block of four slices, in every later world. -/
theorem four_kept (w : World) (t : TypeId) (x0 x1 x2 x3 : Value) (X : World) (hb : Below (w.heap.size + 1) (w.alloc (.cells #[x0, x1, x2, x3] t)) X) :
    X.cell? ⟨w.heap.size, 0, none⟩ = some x0 ∧ X.cell? ⟨w.heap.size, 1, none⟩ = some x1 ∧ X.cell? ⟨w.heap.size, 2, none⟩ = some x2 ∧ X.cell? ⟨w.heap.size, 3, none⟩ = some x3 := by
  have h : ∀ k, X.cell? ⟨w.heap.size, k, none⟩ = (#[x0, x1, x2, x3] : Array Value)[k]? := fun k => by
    rw [hb.cell (p := ⟨w.heap.size, k, none⟩) (by show w.heap.size < _; omega), World.cell?_alloc_mark]
  exact ⟨h 0, h 1, h 2, h 3⟩

theorem szHeap_calls (w : World) (v : Value) (H : HeapD) (left : Int) (h : RdH w v H) (hs : SaneH H) (h0 : 0 ≤ left) (h1 : left ≤ 1048576) :
    Calls Try.prog 4 #[v, .int .i64 left] w fun e w' => e = .returned (.int .i64 (szH H left)) ∧ Below w.heap.size w w' := by
  obtain ⟨ao, co, aw, cw, ab, cb, sa, sc, rfl, ro, rw, ri, rs⟩ := h
  obtain ⟨W, hW⟩ : ∃ W, W = w.alloc (.cells #[.slice ao H.objs.length co, .slice aw H.weaks.length cw, .slice ab H.buffer.length cb, .slice sa H.sites.length sc] 27) := ⟨_, rfl⟩
  have BW : Below w.heap.size w W := by rw [hW]; exact (Below.refl _ _).alloc (Nat.le_refl _) _
  have hWs : W.heap.size = w.heap.size + 1 := by rw [hW]; simp
  have HK : Hid (∀ X, Below W.heap.size W X → X.cell? ⟨w.heap.size, 0, none⟩ = some (.slice ao H.objs.length co) ∧ X.cell? ⟨w.heap.size, 1, none⟩ = some (.slice aw H.weaks.length cw) ∧ X.cell? ⟨w.heap.size, 2, none⟩ = some (.slice ab H.buffer.length cb) ∧ X.cell? ⟨w.heap.size, 3, none⟩ = some (.slice sa H.sites.length sc)) := by
    intro X hX
    rw [hWs, hW] at hX
    exact four_kept w _ _ _ _ _ X hX
  have C1 : Hid (∀ X : Unit, _) := fun (_ : Unit) => szObjS_calls W ao co H.objs left (rdO_later ro BW) hs.objs hs.fields h0 h1
  have l1 := szO_le H.objs left (by omega)
  have HS : Hid (szH H left = if szO H.objs left < 0 then -1 else if szN H.weaks.length (szO H.objs left) < 0 then -1 else if szN H.buffer.length (szN H.weaks.length (szO H.objs left)) < 0 then -1 else if szS H.sites (szN H.buffer.length (szN H.weaks.length (szO H.objs left))) < 0 then -1 else szS H.sites (szN H.buffer.length (szN H.weaks.length (szO H.objs left)))) := rfl
  have C2 : Hid (∀ X (l : Int), 0 ≤ l → l ≤ 1048576 → _) := fun X l hl0 hl1 => szWeakS_calls X aw cw H.weaks.length l hs.weaks hl0 hl1
  have C3 : Hid (∀ X (l : Int), 0 ≤ l → l ≤ 1048576 → _) := fun X l hl0 hl1 => szIntS_calls X ab cb H.buffer.length l hs.buffer hl0 hl1
  have C4 : Hid (∀ X (l : Int), Below W.heap.size W X → 0 ≤ l → l ≤ 1048576 → _) := fun X l hX hl0 hl1 => szStringS_calls X sa sc H.sites l (rdS_later (rdS_later rs BW) hX) hs.sites hs.names hl0 hl1
  generalize szO H.objs left = a at *
  by_cases n1 : a < 0
  · rw [if_pos n1] at HS
    go_enter Try.func4, Try.ntmps4
    go_wp2_with fail
    rw [← hW]
    refine (C1.out ()).mono ?_
    rintro e w1 ⟨rfl, b1⟩
    have B1 := BW.trans (b1.mono (by omega))
    clear hW
    go_wp2
    go_ret
    exact ⟨ret_zz HS.out.symm, B1⟩
  · rw [if_neg n1] at HS
    have C2a : Hid (∀ X, _) := fun X => C2.out X a (by omega) (by omega)
    have l2 := szN_le H.weaks.length a (by omega)
    rw [show (if a - (H.weaks.length : Int) < 0 then -1 else a - (H.weaks.length : Int)) = szN H.weaks.length a from rfl] at C2a
    generalize szN H.weaks.length a = b at *
    have m1 : 0 ≤ a := by omega
    by_cases n2 : b < 0
    · rw [if_pos n2] at HS
      go_enter Try.func4, Try.ntmps4
      go_wp2_with fail
      rw [← hW]
      refine (C1.out ()).mono ?_
      rintro e w1 ⟨rfl, b1⟩
      have B1 := BW.trans (b1.mono (by omega))
      obtain ⟨k0, k1, k2, k3⟩ := HK.out _ b1
      clear hW n1
      go_wp2_with fail
      refine (C2a.out _).mono ?_
      rintro e w2 ⟨rfl, rfl⟩
      go_wp2
      go_ret
      exact ⟨ret_zz HS.out.symm, B1⟩
    · rw [if_neg n2] at HS
      have C3a : Hid (∀ X, _) := fun X => C3.out X b (by omega) (by omega)
      have l3 := szN_le H.buffer.length b (by omega)
      rw [show (if b - (H.buffer.length : Int) < 0 then -1 else b - (H.buffer.length : Int)) = szN H.buffer.length b from rfl] at C3a
      generalize szN H.buffer.length b = c at *
      have m2 : 0 ≤ b := by omega
      by_cases n3 : c < 0
      · rw [if_pos n3] at HS
        go_enter Try.func4, Try.ntmps4
        go_wp2_with fail
        rw [← hW]
        refine (C1.out ()).mono ?_
        rintro e w1 ⟨rfl, b1⟩
        have B1 := BW.trans (b1.mono (by omega))
        obtain ⟨k0, k1, k2, k3⟩ := HK.out _ b1
        clear hW n1 n2
        go_wp2_with fail
        refine (C2a.out _).mono ?_
        rintro e w2 ⟨rfl, rfl⟩
        go_wp2_with fail
        refine (C3a.out _).mono ?_
        rintro e w3 ⟨rfl, rfl⟩
        go_wp2
        go_ret
        exact ⟨ret_zz HS.out.symm, B1⟩
      · rw [if_neg n3] at HS
        have C4a : Hid (∀ X, Below W.heap.size W X → _) := fun X hX => C4.out X c hX (by omega) (by omega)
        have l4 := szS_le H.sites c (by omega)
        generalize szS H.sites c = d at *
        have m3 : 0 ≤ c := by omega
        by_cases n4 : d < 0
        · rw [if_pos n4] at HS
          go_enter Try.func4, Try.ntmps4
          go_wp2_with fail
          rw [← hW]
          refine (C1.out ()).mono ?_
          rintro e w1 ⟨rfl, b1⟩
          have B1 := BW.trans (b1.mono (by omega))
          have C4b := C4a.out _ b1
          have HC4 : Hid _ := C4b
          obtain ⟨k0, k1, k2, k3⟩ := HK.out _ b1
          clear hW n1 n2 n3 C4b
          go_wp2_with fail
          refine (C2a.out _).mono ?_
          rintro e w2 ⟨rfl, rfl⟩
          go_wp2_with fail
          refine (C3a.out _).mono ?_
          rintro e w3 ⟨rfl, rfl⟩
          go_wp2_with fail
          refine (Calls.mono HC4.out ?_)
          rintro e w4 ⟨rfl, rfl⟩
          go_wp2
          go_ret
          exact ⟨ret_zz HS.out.symm, B1⟩
        · rw [if_neg n4] at HS
          have m4 : 0 ≤ d := by omega
          go_enter Try.func4, Try.ntmps4
          go_wp2_with fail
          rw [← hW]
          refine (C1.out ()).mono ?_
          rintro e w1 ⟨rfl, b1⟩
          have B1 := BW.trans (b1.mono (by omega))
          have C4b := C4a.out _ b1
          have HC4 : Hid _ := C4b
          obtain ⟨k0, k1, k2, k3⟩ := HK.out _ b1
          clear hW n1 n2 n3 n4 C4b
          go_wp2_with fail
          refine (C2a.out _).mono ?_
          rintro e w2 ⟨rfl, rfl⟩
          go_wp2_with fail
          refine (C3a.out _).mono ?_
          rintro e w3 ⟨rfl, rfl⟩
          go_wp2_with fail
          refine (Calls.mono HC4.out ?_)
          rintro e w4 ⟨rfl, rfl⟩
          go_wp2
          go_ret
          exact ⟨ret_zz HS.out.symm, B1⟩

end Go.Proofs.Ytebgngofnmcklaa

/- Heap2Walks: What toHeap and eqHeap do. -/
namespace Go.Proofs.Ytebgngofnmcklaa
open Go.RowKit
set_option linter.unusedVariables false

theorem keep_far {w : World} {g : Nat} (p : Addr) (u : Value) (h : p.block ≠ g) (k : Nat) : (w.setCell p u).cell? ⟨g, k, none⟩ = w.cell? ⟨g, k, none⟩ :=
  World.cell?_setCell_other _ _ _ _ (by intro e; exact h (by rw [e]))
theorem laidO_far {w : World} {g j : Nat} {os : List ObjD} (p : Addr) (u : Value) (h : LaidO w g os j) (hp : p.block < g) : LaidO (w.setCell p u) g os j := by
  intro i hi hij
  obtain ⟨f, h1, h2, h3⟩ := h i hi hij
  exact ⟨f, h1.keep (fun k => keep_far p u (by omega) k), ownI_far p u h2 (by omega), fun k hk => by rw [World.frozen?_setCell]; exact h3 k hk⟩
theorem laidW_far {w : World} {g j : Nat} {ds : List WeakD} (p : Addr) (u : Value) (h : LaidW w g ds j) (hp : p.block < g) : LaidW (w.setCell p u) g ds j :=
  fun i hi hij => ⟨(h i hi hij).1.keep (fun k => keep_far p u (by omega) k), fun k hk => by rw [World.frozen?_setCell]; exact (h i hi hij).2 k hk⟩
theorem ownS_far {w : World} {B : Nat} {v : Value} {zs : List (List UInt8)} (p : Addr) (u : Value) (h : ownS w B v zs) (hp : p.block < B) : ownS (w.setCell p u) B v zs := by
  rcases h with ⟨h1, h2 | ⟨g, cap, cur, h2, h3, h4, h5⟩⟩
  · exact ⟨h1, .inl h2⟩
  · refine ⟨h1, .inr ⟨g, cap, cur, h2, h3, ?_, h5⟩⟩
    rw [heap_setCell_other w p g u (by omega)]
    exact h4

/-- A heap whose rows are all new, at or behind block B. -/
def OwnH (w : World) (B : Nat) (v : Value) (H : HeapD) : Prop := ∃ go gw vb vs, v = .agg #[.slice (some ⟨go, 0, none⟩) H.objs.length H.objs.length, .slice (some ⟨gw, 0, none⟩) H.weaks.length H.weaks.length, vb, vs] ∧
  B ≤ go ∧ go < w.heap.size ∧ LaidO w go H.objs H.objs.length ∧ B ≤ gw ∧ gw < w.heap.size ∧ LaidW w gw H.weaks H.weaks.length ∧ ownI w B vb H.buffer ∧ ownS w B vs H.sites
theorem ownH_rd {w : World} {B : Nat} {v : Value} {H : HeapD} (h : OwnH w B v H) : RdH w v H := by
  obtain ⟨go, gw, vb, vs, rfl, -, h1, h2, -, h3, h4, h5, h6⟩ := h
  obtain ⟨ab, cb, rfl, hb⟩ := rdI_own' h5
  obtain ⟨sa, sc, rfl, hs⟩ := rdS_own h6
  exact ⟨_, _, _, _, ab, cb, sa, sc, rfl, laidO_rd h2 h1, laidW_rd h4 h3, hb, hs.out⟩
theorem ownH_later {w w' : World} {B : Nat} {v : Value} {H : HeapD} (h : OwnH w B v H) (hb : Below w.heap.size w w') : OwnH w' B v H := by
  obtain ⟨go, gw, vb, vs, rfl, b1, h1, h2, b2, h3, h4, h5, h6⟩ := h
  exact ⟨go, gw, vb, vs, rfl, b1, Nat.lt_of_lt_of_le h1 hb.size, laidO_later h2 hb h1, b2, Nat.lt_of_lt_of_le h3 hb.size, laidW_later h4 hb h3, ownI_later h5 hb, ownS_later h6 hb⟩

/-- The three blocks that toHeap works with: what came in, the result, and the one that is filled. -/
structure Frm (s : Nat) (X : World) (ps xs : Array Value) : Prop where
  p : ∀ k, X.cell? ⟨s, k, none⟩ = ps[k]?
  r : ∀ k, X.cell? ⟨s + 1, k, none⟩ = (#[Value.slice none 0 0, .slice none 0 0, .slice none 0 0, .slice none 0 0] : Array Value)[k]?
  o : ∀ k, X.cell? ⟨s + 1 + 1, k, none⟩ = xs[k]?
  fr : ∀ k, X.frozen? ⟨s + 1, k, none⟩ = false
  fo : ∀ k, X.frozen? ⟨s + 1 + 1, k, none⟩ = false
  sz : s + 1 + 1 < X.heap.size
theorem Frm.later {s : Nat} {X Y : World} {ps xs : Array Value} (h : Frm s X ps xs) (hb : Below X.heap.size X Y) : Frm s Y ps xs := by
  have hs := h.sz
  refine ⟨fun k => ?_, fun k => ?_, fun k => ?_, fun k => ?_, fun k => ?_, Nat.lt_of_lt_of_le hs hb.size⟩
  · rw [hb.cell (p := ⟨s, k, none⟩) (by show s < _; omega)]; exact h.p k
  · rw [hb.cell (p := ⟨s + 1, k, none⟩) (by show s + 1 < _; omega)]; exact h.r k
  · rw [hb.cell (p := ⟨s + 1 + 1, k, none⟩) hs]; exact h.o k
  · rw [hb.frozen (p := ⟨s + 1, k, none⟩) (by show s + 1 < _; omega)]; exact h.fr k
  · rw [hb.frozen (p := ⟨s + 1 + 1, k, none⟩) hs]; exact h.fo k
theorem Frm.set {s : Nat} {X : World} {ps xs : Array Value} (h : Frm s X ps xs) (i : Nat) (u : Value) (hi : i < xs.size) : Frm s (X.setCell ⟨s + 1 + 1, i, none⟩ u) ps (xs.setIfInBounds i u) := by
  have hs := h.sz
  refine ⟨fun k => ?_, fun k => ?_, fun k => ?_, fun k => ?_, fun k => ?_, by simpa [World.setCell] using hs⟩
  · rw [keep_far _ _ (by show s + 1 + 1 ≠ s; omega)]; exact h.p k
  · rw [keep_far _ _ (by show s + 1 + 1 ≠ s + 1; omega)]; exact h.r k
  · by_cases e : i = k
    · subst e
      rw [World.cell?_setCell_same X _ u ((h.o i).trans (Array.getElem?_eq_getElem hi)), Array.getElem?_setIfInBounds_self_of_lt hi]
    · rw [cell_far _ _ _ _ _ e, h.o k, Array.getElem?_setIfInBounds_ne e]
  · rw [World.frozen?_setCell]; exact h.fr k
  · rw [World.frozen?_setCell]; exact h.fo k

theorem toHeap_calls (w : World) (v : Value) (H : HeapD) (h : RdH w v H) (hs : SmallH H) :
    Calls Try.prog 6 #[v] w fun e w' => ∃ u, e = .returned u ∧ OwnH w' w.heap.size u H ∧ Below w.heap.size w w' := by
  obtain ⟨ao, co, aw, cw, ab, cb, sa, sc, rfl, ro, rwk, ri, rs⟩ := h
  obtain ⟨W, hW⟩ : ∃ W, W = ((w.alloc (.cells #[.slice ao H.objs.length co, .slice aw H.weaks.length cw, .slice ab H.buffer.length cb, .slice sa H.sites.length sc] 27)).alloc (.cells #[.slice none 0 0, .slice none 0 0, .slice none 0 0, .slice none 0 0] 33)).alloc (.cells #[.slice none 0 0, .slice none 0 0, .slice none 0 0, .slice none 0 0] 33) := ⟨_, rfl⟩
  have BW : Below w.heap.size w W := by
    rw [hW]
    exact (((Below.refl _ _).alloc (Nat.le_refl _) _).alloc (by simp) _).alloc (by simp; omega) _
  have hWs : W.heap.size = w.heap.size + 1 + 1 + 1 := by rw [hW]; simp
  have F0 : Frm w.heap.size W #[.slice ao H.objs.length co, .slice aw H.weaks.length cw, .slice ab H.buffer.length cb, .slice sa H.sites.length sc] #[.slice none 0 0, .slice none 0 0, .slice none 0 0, .slice none 0 0] := by
    refine ⟨fun k => ?_, fun k => ?_, fun k => ?_, fun k => ?_, fun k => ?_, by omega⟩
    · rw [hW, World.cell?_alloc_lt _ _ _ (by simp; omega), World.cell?_alloc_lt _ _ _ (by simp), World.cell?_alloc_mark]
    · rw [hW, World.cell?_alloc_lt _ _ _ (by simp), show w.heap.size + 1 = (w.alloc (.cells #[.slice ao H.objs.length co, .slice aw H.weaks.length cw, .slice ab H.buffer.length cb, .slice sa H.sites.length sc] 27)).heap.size from by simp, World.cell?_alloc_mark]
    · rw [hW, show w.heap.size + 1 + 1 = ((w.alloc (.cells #[.slice ao H.objs.length co, .slice aw H.weaks.length cw, .slice ab H.buffer.length cb, .slice sa H.sites.length sc] 27)).alloc (.cells #[.slice none 0 0, .slice none 0 0, .slice none 0 0, .slice none 0 0] 33)).heap.size from by simp, World.cell?_alloc_mark]
    · have e : W.frozen? ⟨w.heap.size + 1, k, none⟩ = ((w.alloc (.cells #[.slice ao H.objs.length co, .slice aw H.weaks.length cw, .slice ab H.buffer.length cb, .slice sa H.sites.length sc] 27)).alloc (.cells #[.slice none 0 0, .slice none 0 0, .slice none 0 0, .slice none 0 0] 33)).frozen? ⟨w.heap.size + 1, k, none⟩ := by
        rw [hW]
        exact ((Below.refl _ _).alloc (Nat.le_refl _) _).frozen (p := ⟨w.heap.size + 1, k, none⟩) (by show w.heap.size + 1 < _; simp)
      rw [e, show w.heap.size + 1 = (w.alloc (.cells #[.slice ao H.objs.length co, .slice aw H.weaks.length cw, .slice ab H.buffer.length cb, .slice sa H.sites.length sc] 27)).heap.size from by simp, World.frozen?_alloc_mark]
      simp
    · rw [hW, show w.heap.size + 1 + 1 = ((w.alloc (.cells #[.slice ao H.objs.length co, .slice aw H.weaks.length cw, .slice ab H.buffer.length cb, .slice sa H.sites.length sc] 27)).alloc (.cells #[.slice none 0 0, .slice none 0 0, .slice none 0 0, .slice none 0 0] 33)).heap.size from by simp, World.frozen?_alloc_mark]
      simp
  have HF0 : Hid (Frm _ _ _ _) := F0
  clear F0
  have RO : Hid (RdO W ao H.objs) := rdO_later ro BW
  have RW : Hid (∀ X, Below w.heap.size w X → RdW X aw H.weaks) := fun X hX => rdW_later rwk hX
  have RI : Hid (∀ X, Below w.heap.size w X → RdI X ab H.buffer) := fun X hX => rdI_later ri hX
  have RS : Hid (∀ X, Below w.heap.size w X → RdS X sa H.sites) := fun X hX => rdS_later rs hX
  clear ro rwk ri rs
  have s1 : H.objs.length ≤ 1677721 := by have := hs.objs; omega
  have s2 : ∀ z ∈ H.objs, z.field.length ≤ 16777216 := fun z hz => by have := hs.fields z hz; omega
  have s3 : H.weaks.length ≤ 1677721 := by have := hs.weaks; omega
  have s4 : H.buffer.length ≤ 16777216 := by have := hs.buffer; omega
  have s5 : H.sites.length ≤ 16777216 := by have := hs.sites; omega
  have S2 : Hid _ := s2
  clear s2
  go_enter Try.func6, Try.ntmps6
  go_wp2_with fail
  rw [← hW]
  refine (toObjS_calls W ao co H.objs RO.out s1 S2.out).mono ?_
  rintro e w1 ⟨rfl, L1, g1, b1⟩
  clear hW
  have B1 := BW.trans (b1.mono (by omega))
  have F1 := HF0.out.later b1
  obtain ⟨go, hgo⟩ : ∃ go, W.heap.size = go := ⟨_, rfl⟩
  have Hgo : Hid (w.heap.size + 1 + 1 + 1 = go) := by show _ = _; omega
  rw [hgo] at L1 g1 ⊢
  clear hgo hWs b1 BW RO HF0
  have c0 := F1.o 0
  have f0 := F1.fo 0
  have p1 := F1.p 1
  have G1 := F1.set 0 (.slice (some ⟨go, 0, none⟩) H.objs.length H.objs.length) (by simp)
  have M1 := laidO_far ⟨w.heap.size + 1 + 1, 0, none⟩ (.slice (some ⟨go, 0, none⟩) H.objs.length H.objs.length) L1 (by show w.heap.size + 1 + 1 < go; have := Hgo.out; omega)
  have D1 := B1.setCell (p := ⟨w.heap.size + 1 + 1, 0, none⟩) (by show w.heap.size ≤ w.heap.size + 1 + 1; omega) (.slice (some ⟨go, 0, none⟩) H.objs.length H.objs.length)
  have q1 : go < (w1.setCell ⟨w.heap.size + 1 + 1, 0, none⟩ (.slice (some ⟨go, 0, none⟩) H.objs.length H.objs.length)).heap.size := by simpa [World.setCell] using g1
  simp at c0 p1
  clear F1 L1 B1 g1
  go_wp2_with fail
  generalize w1.setCell ⟨w.heap.size + 1 + 1, 0, none⟩ (.slice (some ⟨go, 0, none⟩) H.objs.length H.objs.length) = X1 at *
  clear c0 f0 p1
  refine (toWeakS_calls X1 aw cw H.weaks (RW.out X1 D1) s3).mono ?_
  rintro e w2 ⟨rfl, L2, g2, b2⟩
  have B2 := D1.trans (b2.mono D1.size)
  have F2 := G1.later b2
  have M2 := laidO_later M1 b2 q1
  have q2 : go < w2.heap.size := Nat.lt_of_lt_of_le q1 b2.size
  obtain ⟨gw, hgw⟩ : ∃ gw, X1.heap.size = gw := ⟨_, rfl⟩
  have Hgw : Hid (go < gw) := by show _ < _; omega
  rw [hgw] at L2 g2 ⊢
  clear hgw b2 G1 M1 D1 q1
  have c0 := F2.o 1
  have f0 := F2.fo 1
  have p1 := F2.p 2
  have G2 := F2.set 1 (.slice (some ⟨gw, 0, none⟩) H.weaks.length H.weaks.length) (by simp)
  have N2 := laidO_far ⟨w.heap.size + 1 + 1, 1, none⟩ (.slice (some ⟨gw, 0, none⟩) H.weaks.length H.weaks.length) M2 (by show w.heap.size + 1 + 1 < go; have := Hgo.out; omega)
  have K2 := laidW_far ⟨w.heap.size + 1 + 1, 1, none⟩ (.slice (some ⟨gw, 0, none⟩) H.weaks.length H.weaks.length) L2 (by show w.heap.size + 1 + 1 < gw; have := Hgo.out; have := Hgw.out; omega)
  have D2 := B2.setCell (p := ⟨w.heap.size + 1 + 1, 1, none⟩) (by show w.heap.size ≤ w.heap.size + 1 + 1; omega) (.slice (some ⟨gw, 0, none⟩) H.weaks.length H.weaks.length)
  have q3 : go < (w2.setCell ⟨w.heap.size + 1 + 1, 1, none⟩ (.slice (some ⟨gw, 0, none⟩) H.weaks.length H.weaks.length)).heap.size ∧ gw < (w2.setCell ⟨w.heap.size + 1 + 1, 1, none⟩ (.slice (some ⟨gw, 0, none⟩) H.weaks.length H.weaks.length)).heap.size := by simpa [World.setCell] using ⟨q2, g2⟩
  simp at c0 p1
  clear F2 L2 M2 B2 g2 q2
  go_wp2_with fail
  generalize w2.setCell ⟨w.heap.size + 1 + 1, 1, none⟩ (.slice (some ⟨gw, 0, none⟩) H.weaks.length H.weaks.length) = X2 at *
  clear c0 f0 p1
  refine (toIntS_calls X2 ab cb H.buffer (RI.out X2 D2) s4).mono ?_
  rintro e w3 ⟨vb, rfl, O3, b3⟩
  have B3 := D2.trans (b3.mono D2.size)
  have F3 := G2.later b3
  have M3 := laidO_later N2 b3 q3.1
  have K3 := laidW_later K2 b3 q3.2
  have q4 : go < w3.heap.size ∧ gw < w3.heap.size := ⟨Nat.lt_of_lt_of_le q3.1 b3.size, Nat.lt_of_lt_of_le q3.2 b3.size⟩
  have P3 := ownI_mono O3 (Nat.le_of_lt q3.1)
  clear b3 O3 G2 N2 K2 D2 q3
  obtain ⟨ba, bc, rfl, -⟩ := ownI_read P3
  have c0 := F3.o 2
  have f0 := F3.fo 2
  have p1 := F3.p 3
  have G3 := F3.set 2 (.slice ba H.buffer.length bc) (by simp)
  have N3 := laidO_far ⟨w.heap.size + 1 + 1, 2, none⟩ (.slice ba H.buffer.length bc) M3 (by show w.heap.size + 1 + 1 < go; have := Hgo.out; omega)
  have J3 := laidW_far ⟨w.heap.size + 1 + 1, 2, none⟩ (.slice ba H.buffer.length bc) K3 (by show w.heap.size + 1 + 1 < gw; have := Hgo.out; have := Hgw.out; omega)
  have Q3 := ownI_far ⟨w.heap.size + 1 + 1, 2, none⟩ (.slice ba H.buffer.length bc) P3 (by show w.heap.size + 1 + 1 < go; have := Hgo.out; omega)
  have D3 := B3.setCell (p := ⟨w.heap.size + 1 + 1, 2, none⟩) (by show w.heap.size ≤ w.heap.size + 1 + 1; omega) (.slice ba H.buffer.length bc)
  have q5 : go < (w3.setCell ⟨w.heap.size + 1 + 1, 2, none⟩ (.slice ba H.buffer.length bc)).heap.size ∧ gw < (w3.setCell ⟨w.heap.size + 1 + 1, 2, none⟩ (.slice ba H.buffer.length bc)).heap.size := by simpa [World.setCell] using q4
  simp at c0 p1
  clear F3 M3 K3 P3 B3 q4
  go_wp2_with fail
  generalize w3.setCell ⟨w.heap.size + 1 + 1, 2, none⟩ (.slice ba H.buffer.length bc) = X3 at *
  clear c0 f0 p1
  refine (toStringS_calls X3 sa sc H.sites (RS.out X3 D3) s5).mono ?_
  rintro e w4 ⟨vs, rfl, O4, b4⟩
  have B4 := D3.trans (b4.mono D3.size)
  have F4 := G3.later b4
  have M4 := laidO_later N3 b4 q5.1
  have K4 := laidW_later J3 b4 q5.2
  have Q4 := ownI_later Q3 b4
  have q6 : go < w4.heap.size ∧ gw < w4.heap.size := ⟨Nat.lt_of_lt_of_le q5.1 b4.size, Nat.lt_of_lt_of_le q5.2 b4.size⟩
  have P4 := ownS_mono O4 (Nat.le_of_lt q5.1)
  clear b4 O4 G3 N3 J3 Q3 D3 q5 RS RI RW
  obtain ⟨da, dc, rfl, -⟩ := rdS_own P4
  have o0 := F4.o 0
  have o1 := F4.o 1
  have o2 := F4.o 2
  have o3 := F4.o 3
  have f3 := F4.fo 3
  have r0 := F4.r 0
  have r1 := F4.r 1
  have r2 := F4.r 2
  have r3 := F4.r 3
  have e0 := F4.fr 0
  have e1 := F4.fr 1
  have e2 := F4.fr 2
  have e3 := F4.fr 3
  simp at o0 o1 o2 o3 r0 r1 r2 r3
  have HM : Hid _ := M4
  have HK : Hid _ := K4
  have HQ : Hid _ := Q4
  have HP : Hid _ := P4
  have HB : Hid _ := B4
  have Hq : Hid _ := q6
  clear F4 M4 K4 Q4 P4 B4 q6
  go_wp2
  refine bodyPost_ret (v := .agg #[.slice (some ⟨go, 0, none⟩) H.objs.length H.objs.length, .slice (some ⟨gw, 0, none⟩) H.weaks.length H.weaks.length, .slice ba H.buffer.length bc, .slice da H.sites.length dc]) (by simp [results, Try.results6, go_sem, *]) rfl ⟨_, rfl, ⟨go, gw, _, _, rfl, ?_, ?_, ?_, ?_, ?_, ?_, ?_, ?_⟩, ?_⟩
  all_goals have hgo := Hgo.out
  all_goals have hgw := Hgw.out
  · omega
  · simpa [World.setCell] using Hq.out.1
  · iterate 5 refine laidO_far _ _ ?_ (by show _ < go; simp only; omega)
    exact HM.out
  · omega
  · simpa [World.setCell] using Hq.out.2
  · iterate 5 refine laidW_far _ _ ?_ (by show _ < gw; simp only; omega)
    exact HK.out
  · refine ownI_mono (B := go) ?_ (by omega)
    iterate 5 refine ownI_far _ _ ?_ (by show _ < go; simp only; omega)
    exact HQ.out
  · refine ownS_mono (B := go) ?_ (by omega)
    iterate 5 refine ownS_far _ _ ?_ (by show _ < go; simp only; omega)
    exact HP.out
  · iterate 5 refine Below.setCell ?_ (by simp only; omega) _
    exact HB.out

theorem eqHeap_calls (w : World) (v u : Value) (H : HeapD) (h1 : RdH w v H) (h2 : RdH w u H) (hs : SmallH H) :
    Calls Try.prog 8 #[v, u] w fun e w' => e = .returned (.bool true) ∧ Below w.heap.size w w' := by
  obtain ⟨ao, co, aw, cw, ab, cb, sa, sc, rfl, ro, rwk, ri, rs⟩ := h1
  obtain ⟨ao2, co2, aw2, cw2, ab2, cb2, sa2, sc2, rfl, ro2, rwk2, ri2, rs2⟩ := h2
  obtain ⟨W, hW⟩ : ∃ W, W = (w.alloc (.cells #[.slice ao H.objs.length co, .slice aw H.weaks.length cw, .slice ab H.buffer.length cb, .slice sa H.sites.length sc] 33)).alloc (.cells #[.slice ao2 H.objs.length co2, .slice aw2 H.weaks.length cw2, .slice ab2 H.buffer.length cb2, .slice sa2 H.sites.length sc2] 33) := ⟨_, rfl⟩
  have BW : Below w.heap.size w W := by
    rw [hW]
    exact ((Below.refl _ _).alloc (Nat.le_refl _) _).alloc (by simp) _
  have hWs : W.heap.size = w.heap.size + 1 + 1 := by rw [hW]; simp
  have HP : Hid (∀ X, Below W.heap.size W X → ∀ k, X.cell? ⟨w.heap.size, k, none⟩ = (#[Value.slice ao H.objs.length co, .slice aw H.weaks.length cw, .slice ab H.buffer.length cb, .slice sa H.sites.length sc] : Array Value)[k]?) := by
    intro X hX k
    rw [hX.cell (p := ⟨w.heap.size, k, none⟩) (by show w.heap.size < _; omega), hW, World.cell?_alloc_lt _ _ _ (by simp), World.cell?_alloc_mark]
  have HP2 : Hid (∀ X, Below W.heap.size W X → ∀ k, X.cell? ⟨w.heap.size + 1, k, none⟩ = (#[Value.slice ao2 H.objs.length co2, .slice aw2 H.weaks.length cw2, .slice ab2 H.buffer.length cb2, .slice sa2 H.sites.length sc2] : Array Value)[k]?) := by
    intro X hX k
    rw [hX.cell (p := ⟨w.heap.size + 1, k, none⟩) (by show w.heap.size + 1 < _; omega), hW, show w.heap.size + 1 = (w.alloc (.cells #[.slice ao H.objs.length co, .slice aw H.weaks.length cw, .slice ab H.buffer.length cb, .slice sa H.sites.length sc] 33)).heap.size from by simp, World.cell?_alloc_mark]
  have CO : Hid (∀ X, Below w.heap.size w X → _) := fun X hX => eqObjS_calls X ao ao2 co co2 H.objs (rdO_later ro hX) (rdO_later ro2 hX) (by have := hs.objs; omega) (fun z hz => by have := hs.fields z hz; omega)
  have CW : Hid (∀ X, Below w.heap.size w X → _) := fun X hX => eqWeakS_calls X aw aw2 cw cw2 H.weaks (rdW_later rwk hX) (rdW_later rwk2 hX) (by have := hs.weaks; omega)
  have CI : Hid (∀ X, Below w.heap.size w X → _) := fun X hX => eqIntS_rd X ab ab2 cb cb2 H.buffer (rdI_later ri hX) (rdI_later ri2 hX) (by have := hs.buffer; omega)
  have CS : Hid (∀ X, Below w.heap.size w X → _) := fun X hX => eqStringS_rd X sa sa2 sc sc2 H.sites (rdS_later rs hX) (rdS_later rs2 hX) (by have := hs.sites; omega)
  clear ro rwk ri rs ro2 rwk2 ri2 rs2
  go_enter Try.func8, Try.ntmps8
  go_wp2_with fail
  rw [← hW]
  have B0 := BW
  have T0 : Below W.heap.size W W := Below.refl _ _
  refine (CO.out _ B0).mono ?_
  rintro e w1 ⟨rfl, b1⟩
  have B1 := B0.trans (b1.mono B0.size)
  have T1 := T0.trans (b1.mono T0.size)
  have k1 := HP.out _ T1 1
  have l1 := HP2.out _ T1 1
  simp at k1 l1
  clear hW hWs
  go_wp2_with fail
  refine (CW.out _ B1).mono ?_
  rintro e w2 ⟨rfl, b2⟩
  have B2 := B1.trans (b2.mono B1.size)
  have T2 := T1.trans (b2.mono T1.size)
  have k2 := HP.out _ T2 2
  have l2 := HP2.out _ T2 2
  simp at k2 l2
  clear k1 l1
  go_wp2_with fail
  refine (CI.out _ B2).mono ?_
  rintro e w3 ⟨rfl, b3⟩
  have B3 := B2.trans (b3.mono B2.size)
  have T3 := T2.trans (b3.mono T2.size)
  have k3 := HP.out _ T3 3
  have l3 := HP2.out _ T3 3
  simp at k3 l3
  clear k2 l2
  go_wp2_with fail
  refine (CS.out _ B3).mono ?_
  rintro e w4 ⟨rfl, b4⟩
  have B4 := B3.trans (b4.mono B3.size)
  have T4 := T3.trans (b4.mono T3.size)
  clear k3 l3
  go_wp2
  go_ret
  exact ⟨rfl, B4⟩

end Go.Proofs.Ytebgngofnmcklaa

/- OpenHeap: An argument that is a heap, opened: what one who only reads has of it. -/
namespace Go.Proofs.Ytebgngofnmcklaa
open Go.RowKit Go.ChangeShapes Go.WideShapes Go.ChangeAt Go.Deep
set_option linter.unusedVariables false
set_option maxRecDepth 100000

theorem in64_wf {z : Int} (h : (Lit.int .i64 z).wf = true) : in64 z := by unfold in64; simpa [Lit.wf, IntKind.min, IntKind.max, IntKind.signed, IntKind.bits] using h

section
variable {T : Type} {enc : TypeId × Value → T} {w : World} {held : Bool}

theorem opened_ints {fuel : Nat} {cs : List Value} {x : DataW T × List MemPlace} (h : DataW.trod enc Try.prog w 0 (fun _ => true) held fuel 24 cs = some x) :
    ∃ a zs cap, cs = [.slice a zs.length cap] ∧ RdI w a zs ∧ zs.length ≤ 9223372036854775807 ∧ ∀ z ∈ zs, in64 z := by
  rcases open_ints Try.underlying24 Try.underlying3 (by kernel_rfl) h with ⟨rfl, _⟩ | ⟨x, len, cap, zs, rfl, _, hl, hm, hz, _, hcell, hwf⟩
  · exact ⟨none, [], 0, rfl, fun j hj => by simp at hj, by simp, by simp⟩
  · have hz2 : zs.length = cap := by simpa using hz
    have ht : (zs.take len).length = len := by rw [List.length_take]; omega
    unfold maxLen at hm
    refine ⟨some x, zs.take len, cap, by rw [ht], ?_, by omega, fun z hz => in64_wf (hwf z (List.mem_of_mem_take hz))⟩
    intro j hj
    rw [ht] at hj
    obtain ⟨b, off, rfl⟩ := plain_addr (hcell 0 (by omega))
    have hc := hcell j (by omega)
    rw [add_plain, List.getD_eq_getElem?_getD, List.getElem?_eq_getElem (by omega)] at hc
    refine ⟨b, off, rfl, World.block_lt_of_cell? w _ hc, ?_⟩
    rw [hc, List.getElem_take]
    rfl

theorem opened_weak {fuel : Nat} {cs : List Value} {x : DataW T × List MemPlace} (h : DataW.trod enc Try.prog w 0 (fun _ => true) held fuel 71 cs = some x) : ∃ d : WeakD, cs = [.bool d.used, .int .i64 d.target] ∧ in64 d.target := by
  obtain ⟨xs, n, _, _, hl, hlen, hf⟩ := DataW.trod_struct Try.underlying71 h
  have hl2 : cs.length = 2 := hl.trans (by kernel_rfl)
  match cs, hl2, xs, hlen with
  | [c0, c1], _, [y0, y1], _ =>
    have e4 : Try.prog.cellsOf 4 = 1 := by kernel_rfl
    have e3 : Try.prog.cellsOf 3 = 1 := by kernel_rfl
    have h0 := hf 0 { name := "Used", type := 4, offset := 0, embedded := false, tag := "", pkgPath := "", byteOffset := 0 } rfl
    have h1 := hf 1 { name := "Target", type := 3, offset := 1, embedded := false, tag := "", pkgPath := "", byteOffset := 8 } rfl
    simp only [e4, e3] at h0 h1
    obtain ⟨b, hb, _⟩ := DataW.trod_bool Try.underlying4 (x := y0) (by simpa using h0)
    obtain ⟨m, hm, _, wm⟩ := DataW.trod_int Try.underlying3 (x := y1) (by simpa using h1)
    exact ⟨⟨b, m⟩, by simp_all, in64_wf wm⟩

theorem opened_obj {fuel : Nat} {cs : List Value} {x : DataW T × List MemPlace} (h : DataW.trod enc Try.prog w 0 (fun _ => true) held fuel 68 cs = some x) :
    ∃ (o : ObjD) (f : Option Addr) (cap : Nat), cs = [.bool o.live, .int .i64 o.gen, .int .i64 o.site, .int .i64 o.holds, .int .i64 o.roots, .int .i64 o.count, .slice f o.field.length cap, .bool o.purple] ∧ RdI w f o.field ∧ o.field.length ≤ 9223372036854775807 ∧ WfO o := by
  obtain ⟨xs, n, _, _, hl, hlen, hf⟩ := DataW.trod_struct Try.underlying68 h
  have hl2 : cs.length = 8 := hl.trans (by kernel_rfl)
  match cs, hl2, xs, hlen with
  | [c0, c1, c2, c3, c4, c5, c6, c7], _, [y0, y1, y2, y3, y4, y5, y6, y7], _ =>
    have e4 : Try.prog.cellsOf 4 = 1 := by kernel_rfl
    have e3 : Try.prog.cellsOf 3 = 1 := by kernel_rfl
    have e9 : Try.prog.cellsOf 24 = 1 := by kernel_rfl
    have h0 := hf 0 { name := "Live", type := 4, offset := 0, embedded := false, tag := "", pkgPath := "", byteOffset := 0 } rfl
    have h1 := hf 1 { name := "Gen", type := 3, offset := 1, embedded := false, tag := "", pkgPath := "", byteOffset := 8 } rfl
    have h2 := hf 2 { name := "Site", type := 3, offset := 2, embedded := false, tag := "", pkgPath := "", byteOffset := 16 } rfl
    have h3 := hf 3 { name := "Holds", type := 3, offset := 3, embedded := false, tag := "", pkgPath := "", byteOffset := 24 } rfl
    have h4 := hf 4 { name := "Roots", type := 3, offset := 4, embedded := false, tag := "", pkgPath := "", byteOffset := 32 } rfl
    have h5 := hf 5 { name := "Count", type := 3, offset := 5, embedded := false, tag := "", pkgPath := "", byteOffset := 40 } rfl
    have h6 := hf 6 { name := "Field", type := 24, offset := 6, embedded := false, tag := "", pkgPath := "", byteOffset := 48 } rfl
    have h7 := hf 7 { name := "Purple", type := 4, offset := 7, embedded := false, tag := "", pkgPath := "", byteOffset := 72 } rfl
    simp only [e4, e3, e9] at h0 h1 h2 h3 h4 h5 h6 h7
    obtain ⟨b0, g0, _⟩ := DataW.trod_bool Try.underlying4 (x := y0) (by simpa using h0)
    obtain ⟨m1, g1, _, v1⟩ := DataW.trod_int Try.underlying3 (x := y1) (by simpa using h1)
    obtain ⟨m2, g2, _, v2⟩ := DataW.trod_int Try.underlying3 (x := y2) (by simpa using h2)
    obtain ⟨m3, g3, _, v3⟩ := DataW.trod_int Try.underlying3 (x := y3) (by simpa using h3)
    obtain ⟨m4, g4, _, v4⟩ := DataW.trod_int Try.underlying3 (x := y4) (by simpa using h4)
    obtain ⟨m5, g5, _, v5⟩ := DataW.trod_int Try.underlying3 (x := y5) (by simpa using h5)
    obtain ⟨f, zs, cap, g6, r6, l6, v6⟩ := opened_ints (x := y6) (by simpa using h6)
    obtain ⟨b7, g7, _⟩ := DataW.trod_bool Try.underlying4 (x := y7) (by simpa using h7)
    exact ⟨⟨b0, m1, m2, m3, m4, m5, zs, b7⟩, f, cap, by simp_all, r6, l6, in64_wf v1, in64_wf v2, in64_wf v3, in64_wf v4, in64_wf v5, v6⟩

theorem opened_weaks {fuel : Nat} {cs : List Value} {x : DataW T × List MemPlace} (h : DataW.trod enc Try.prog w 0 (fun _ => true) held fuel 23 cs = some x) :
    ∃ a ds cap, cs = [.slice a ds.length cap] ∧ RdW w a ds ∧ ds.length ≤ 9223372036854775807 ∧ ∀ d ∈ ds, in64 d.target := by
  rcases open_slice Try.underlying23 h with ⟨rfl, _⟩ | ⟨a, len, cap, m, n, D, Pl, rfl, _, hl, hm, hmm, _, hx⟩
  · exact ⟨none, [], 0, rfl, fun j hj => by simp at hj, by simp, by simp⟩
  · have hm2 : m = cap := by simpa using hmm
    have e2 : Try.prog.cellsOf 71 = 2 := by kernel_rfl
    rw [e2] at hx
    have hin : Inhabited WeakD := ⟨⟨false, 0⟩⟩
    obtain ⟨f, hf⟩ := choose_lt (α := WeakD) (n := len) (p := fun i d => in64 d.target ∧ ∀ k, k < 2 → w.cell? (Addr.add (a.add (i * 2)) k) = ([Value.bool d.used, .int .i64 d.target] : List Value)[k]?) (fun i hi => by
      obtain ⟨cs', h1, h2⟩ := hx i (by omega)
      obtain ⟨d, rfl, hd⟩ := opened_weak h2
      exact ⟨d, hd, (World.cells?_some h1).2.2⟩)
    unfold maxLen at hm
    have ht : ((List.range len).map f).length = len := by simp
    refine ⟨some a, (List.range len).map f, cap, by rw [ht], ?_, by omega, fun z hz => by
      obtain ⟨i, hi, rfl⟩ := List.mem_map.1 hz
      exact (hf i (List.mem_range.1 hi)).1⟩
    intro j hj
    rw [ht] at hj
    have hc0 := (hf 0 (by omega)).2 0 (by omega)
    obtain ⟨b, off, rfl⟩ : ∃ b off, a = ⟨b, off, none⟩ := by
      rw [Nat.zero_mul, show Addr.add (Addr.add a 0) 0 = a.add 0 from by rw [add_add]] at hc0
      exact plain_addr (v := .bool (f 0).used) hc0
    have q0 := (hf j hj).2 0 (by omega)
    have q1 := (hf j hj).2 1 (by omega)
    rw [add_plain, add_plain] at q0 q1
    simp at q0 q1
    refine ⟨b, off, rfl, World.block_lt_of_cell? w _ q0, ?_⟩
    rw [List.getElem_map, List.getElem_range]
    exact ⟨q0, q1⟩

theorem opened_objs {fuel : Nat} {cs : List Value} {x : DataW T × List MemPlace} (h : DataW.trod enc Try.prog w 0 (fun _ => true) held fuel 22 cs = some x) :
    ∃ a os cap, cs = [.slice a os.length cap] ∧ RdO w a os ∧ os.length ≤ 9223372036854775807 ∧ ∀ z ∈ os, z.field.length ≤ 9223372036854775807 ∧ WfO z := by
  rcases open_slice Try.underlying22 h with ⟨rfl, _⟩ | ⟨a, len, cap, m, n, D, Pl, rfl, _, hl, hm, hmm, _, hx⟩
  · exact ⟨none, [], 0, rfl, fun j hj => by simp at hj, by simp, by simp⟩
  · have hm2 : m = cap := by simpa using hmm
    have e2 : Try.prog.cellsOf 68 = 8 := by kernel_rfl
    rw [e2] at hx
    have hin : Inhabited ObjD := ⟨⟨false, 0, 0, 0, 0, 0, [], false⟩⟩
    obtain ⟨f, hf⟩ := choose_lt (α := ObjD) (n := len) (p := fun i o => (o.field.length ≤ 9223372036854775807 ∧ WfO o) ∧ ∃ (fa : Option Addr) (fc : Nat), RdI w fa o.field ∧ ∀ k, k < 8 → w.cell? (Addr.add (a.add (i * 8)) k) = ([Value.bool o.live, .int .i64 o.gen, .int .i64 o.site, .int .i64 o.holds, .int .i64 o.roots, .int .i64 o.count, .slice fa o.field.length fc, .bool o.purple] : List Value)[k]?) (fun i hi => by
      obtain ⟨cs', h1, h2⟩ := hx i (by omega)
      obtain ⟨o, fa, fc, rfl, hr, hl, hwf⟩ := opened_obj h2
      exact ⟨o, ⟨hl, hwf⟩, fa, fc, hr, (World.cells?_some h1).2.2⟩)
    unfold maxLen at hm
    have ht : ((List.range len).map f).length = len := by simp
    refine ⟨some a, (List.range len).map f, cap, by rw [ht], ?_, by omega, ?_⟩
    · intro j hj
      rw [ht] at hj
      obtain ⟨_, _, _, _, hc0⟩ := hf 0 (by omega)
      have hc0 := hc0 0 (by omega)
      obtain ⟨b, off, rfl⟩ : ∃ b off, a = ⟨b, off, none⟩ := by
        rw [Nat.zero_mul, show Addr.add (Addr.add a 0) 0 = a.add 0 from by rw [add_add]] at hc0
        exact plain_addr (v := .bool (f 0).live) hc0
      obtain ⟨_, fa, fc, hr, q⟩ := hf j hj
      have q0 := q 0 (by omega)
      have q1 := q 1 (by omega)
      have q2 := q 2 (by omega)
      have q3 := q 3 (by omega)
      have q4 := q 4 (by omega)
      have q5 := q 5 (by omega)
      have q6 := q 6 (by omega)
      have q7 := q 7 (by omega)
      rw [add_plain, add_plain] at q0 q1 q2 q3 q4 q5 q6 q7
      simp at q0 q1 q2 q3 q4 q5 q6 q7
      refine ⟨b, off, fa, fc, rfl, World.block_lt_of_cell? w _ q0, ?_⟩
      rw [List.getElem_map, List.getElem_range]
      exact ⟨⟨q0, q1, q2, q3, q4, q5, q6, q7⟩, hr⟩
    · intro z hz
      obtain ⟨i, hi, rfl⟩ := List.mem_map.1 hz
      exact (hf i (List.mem_range.1 hi)).1

theorem opened_heap {r : Reach} {b0 : Nat} {v : Value} {d : DataW T} {ps : List MemPlace} (hv : Value.okWide Try.prog w r b0 27 v) (h : DataW.Trod enc Try.prog w 0 (fun _ => true) held 27 v d ps) : ∃ H : HeapD, RdH w v H ∧ SaneH H := by
  obtain ⟨cs, rfl, hcs⟩ := okWide_struct Try.underlying27 hv
  obtain ⟨fuel, hf0⟩ := h
  have ec : (Value.agg cs).cells.toList = cs.toList := by simp [Value.cells]
  rw [ec] at hf0
  obtain ⟨xs, n, _, _, hl, hlen, hf⟩ := DataW.trod_struct Try.underlying27 hf0
  have hl2 : cs.size = 4 := hcs.trans (by kernel_rfl)
  obtain ⟨l⟩ := cs
  match l, hl2, xs, hlen with
  | [c0, c1, c2, c3], _, [y0, y1, y2, y3], _ =>
    have e0 : Try.prog.cellsOf 22 = 1 := by kernel_rfl
    have e1 : Try.prog.cellsOf 23 = 1 := by kernel_rfl
    have e2 : Try.prog.cellsOf 24 = 1 := by kernel_rfl
    have e3 : Try.prog.cellsOf 25 = 1 := by kernel_rfl
    have h0 := hf 0 { name := "Objs", type := 22, offset := 0, embedded := false, tag := "", pkgPath := "", byteOffset := 0 } rfl
    have h1 := hf 1 { name := "Weaks", type := 23, offset := 1, embedded := false, tag := "", pkgPath := "", byteOffset := 24 } rfl
    have h2 := hf 2 { name := "Buffer", type := 24, offset := 2, embedded := false, tag := "", pkgPath := "", byteOffset := 48 } rfl
    have h3 := hf 3 { name := "Sites", type := 25, offset := 3, embedded := false, tag := "", pkgPath := "", byteOffset := 72 } rfl
    simp only [e0, e1, e2, e3] at h0 h1 h2 h3
    obtain ⟨ao, os, co, g0, ro, l0, l0'⟩ := opened_objs (x := y0) (by simpa using h0)
    obtain ⟨aw, ds, cw, g1, rwk, l1, v1⟩ := opened_weaks (x := y1) (by simpa using h1)
    obtain ⟨ab, zs, cb, g2, ri, l2, v2⟩ := opened_ints (x := y2) (by simpa using h2)
    obtain ⟨sa, ss, sc, g3, rs, l3, l3'⟩ := opened_strs (x := y3) (by simpa using h3)
    refine ⟨⟨os, ds, zs, ss⟩, ⟨ao, co, aw, cw, ab, cb, sa, sc, by simp_all, ro, rwk, ri, rs⟩, ⟨⟨fun o ho => (l0' o ho).2, v1, v2⟩, l0, fun o ho => (l0' o ho).1, l1, l2, l3, l3'⟩⟩

end

end Go.Proofs.Ytebgngofnmcklaa

/- CapForm: Heaps' values no slice of which is longer than its capacity. -/
namespace Go.Proofs.Ytebgngofnmcklaa
open Go.RowKit
set_option linter.unusedVariables false

/-- No slice of a heap's value is longer than its capacity. -/
def CapH (v : Value) : Prop := ∃ a0 n0 k0 a1 n1 k1 a2 n2 k2 a3 n3 k3, v = .agg #[.slice a0 n0 k0, .slice a1 n1 k1, .slice a2 n2 k2, .slice a3 n3 k3] ∧ n0 ≤ k0 ∧ n1 ≤ k1 ∧ n2 ≤ k2 ∧ n3 ≤ k3
theorem ownH_cap {w : World} {B : Nat} {v : Value} {H : HeapD} (h : OwnH w B v H) : CapH v := by
  obtain ⟨go, gw, vb, vs, rfl, -, -, -, -, -, -, h5, h6⟩ := h
  have hb : ∃ a n k, vb = .slice a n k ∧ n ≤ k := by
    rcases ownI_form h5 with ⟨rfl, -⟩ | ⟨g, cap, rfl, -, -, hc, -, -⟩
    · exact ⟨_, _, _, rfl, Nat.le_refl _⟩
    · exact ⟨_, _, _, rfl, hc⟩
  have hs : ∃ a n k, vs = .slice a n k ∧ n ≤ k := by
    rcases ownS_form h6 with ⟨rfl, -⟩ | ⟨g, cap, rfl, -, -, hc, -, -⟩
    · exact ⟨_, _, _, rfl, Nat.le_refl _⟩
    · exact ⟨_, _, _, rfl, hc⟩
  obtain ⟨a, n, k, rfl, hn⟩ := hb
  obtain ⟨a', n', k', rfl, hn'⟩ := hs
  exact ⟨_, _, _, _, _, _, _, _, _, _, _, _, rfl, Nat.le_refl _, Nat.le_refl _, hn, hn'⟩

end Go.Proofs.Ytebgngofnmcklaa
