/- What the laws' own helpers on trials do: szTrial, toTrial, eqTrial, markTrial, heldTrial; an argument that is a trial, opened. -/
import Derived.Test.YtjhceoejblmihaaTrialWalks
import Derived.Test.YtjhceoejblmihaaHeapMark
import Derived.Test.YtjhceoejblmihaaHeapBase
namespace Go.Proofs.Ytjhceoejblmihaa
open Go.RowKit Go.ChangeShapes Go.WideShapes Go.ChangeAt Go.Deep
set_option linter.unusedVariables false
set_option maxRecDepth 100000

structure SaneT (T : TrialD) : Prop where
  counts : T.counts.length ≤ 9223372036854775807
  colors : T.colors.length ≤ 9223372036854775807
  wcounts : ∀ z ∈ T.counts, in64 z
  wcolors : ∀ z ∈ T.colors, in64 z
def szT (T : TrialD) (l : Int) : Int := if szN T.counts.length l < 0 then -1 else szN T.colors.length (szN T.counts.length l)
theorem szT_small (T : TrialD) {l : Int} (hl : l ≤ 1048576) (h : ¬ szT T l < 0) : SmallT T := by
  unfold szT szN at h
  constructor <;> (split at h <;> (try split at h) <;> (try split at h) <;> omega)
theorem szT_le (T : TrialD) (l : Int) (h : 0 ≤ l) : szT T l ≤ l := by
  unfold szT szN
  split <;> (try split) <;> (try split) <;> omega

theorem szTrial_calls (w : World) (v : Value) (T : TrialD) (left : Int) (h : RdT w v T) (hs : SaneT T) (h0 : 0 ≤ left) (h1 : left ≤ 1048576) :
    Calls Try.prog 18 #[v, .int .i64 left] w fun e w' => e = .returned (.int .i64 (szT T left)) ∧ Below w.heap.size w w' := by
  obtain ⟨a, c, b, d, rfl, -, -⟩ := h
  have C1 : Hid (∀ X, _) := fun X => szIntS_calls X a c T.counts.length left hs.counts h0 h1
  have l1 := szN_le T.counts.length left (by omega)
  have C2 : Hid (∀ X (l : Int), 0 ≤ l → l ≤ 1048576 → _) := fun X l hl0 hl1 => szIntS_calls X b d T.colors.length l hs.colors hl0 hl1
  rw [show (if left - (T.counts.length : Int) < 0 then -1 else left - (T.counts.length : Int)) = szN T.counts.length left from rfl] at C1
  have HS : Hid (szT T left = if szN T.counts.length left < 0 then -1 else szN T.colors.length (szN T.counts.length left)) := rfl
  generalize szT T left = R at *
  generalize szN T.counts.length left = x at *
  generalize T.counts.length = n at *
  by_cases n1 : x < 0
  · rw [if_pos n1] at HS
    go_enter Try.func18, Try.ntmps18
    go_wp2_with fail
    refine (C1.out _).mono ?_
    rintro e w1 ⟨rfl, rfl⟩
    go_wp2
    go_ret
    exact ⟨ret_zz HS.out.symm, (Below.refl _ _).alloc (Nat.le_refl _) _⟩
  · rw [if_neg n1] at HS
    have C3 : Hid (∀ X, _) := fun X => C2.out X x (by omega) (by omega)
    rw [show (if x - (T.colors.length : Int) < 0 then -1 else x - (T.colors.length : Int)) = szN T.colors.length x from rfl] at C3
    have hy : szN T.colors.length x < 0 → szN T.colors.length x = -1 := fun h => by unfold szN at h ⊢; split <;> (try split at h) <;> omega
    generalize szN T.colors.length x = y at *
    generalize T.colors.length = m at *
    by_cases n2 : y < 0
    · obtain rfl := hy n2
      go_enter Try.func18, Try.ntmps18
      go_wp2_with fail
      refine (C1.out _).mono ?_
      rintro e w1 ⟨rfl, rfl⟩
      go_wp2_with fail
      refine (C3.out _).mono ?_
      rintro e w2 ⟨rfl, rfl⟩
      go_wp2
      go_ret
      exact ⟨ret_zz HS.out.symm, (Below.refl _ _).alloc (Nat.le_refl _) _⟩
    · clear hy
      go_enter Try.func18, Try.ntmps18
      go_wp2_with fail
      refine (C1.out _).mono ?_
      rintro e w1 ⟨rfl, rfl⟩
      go_wp2_with fail
      refine (C3.out _).mono ?_
      rintro e w2 ⟨rfl, rfl⟩
      go_wp2
      go_ret
      exact ⟨ret_zz HS.out.symm, (Below.refl _ _).alloc (Nat.le_refl _) _⟩

theorem own_dif {w w1 : World} {B : Nat} {u v : Value} {xs ys : List Int} (h1 : ownI w B u xs) (h2 : ownI w1 w.heap.size v ys) : Dif2 u v := fun g hu hv => by
  have a := (ownI_lt h1 g hu).2
  have b := (ownI_lt h2 g hv).1
  omega

theorem toTrial_calls (w : World) (v : Value) (T : TrialD) (h : RdT w v T) (hs : SmallT T) :
    Calls Try.prog 20 #[v] w fun e w' => ∃ s : TSh, e = .returned s.v ∧ TM w' w.heap.size s T ∧ Below w.heap.size w w' := by
  obtain ⟨a, c, b, d, rfl, r1, r2⟩ := h
  obtain ⟨W, hW⟩ : ∃ W, W = ((w.alloc (.cells #[.slice a T.counts.length c, .slice b T.colors.length d] 42)).alloc (.cells #[.slice none 0 0, .slice none 0 0] 30)).alloc (.cells #[.slice none 0 0, .slice none 0 0] 30) := ⟨_, rfl⟩
  have BW : Below w.heap.size w W := by
    rw [hW]
    exact (((Below.refl _ _).alloc (Nat.le_refl _) _).alloc (by simp) _).alloc (by simp; omega) _
  have hWs : W.heap.size = w.heap.size + 3 := by rw [hW]; simp
  have C1 : Hid (∀ X, Below w.heap.size w X → _) := fun X hX => toIntS_calls X a c T.counts (rdI_later r1 hX) (by have := hs.counts; omega)
  have C2 : Hid (∀ X, Below w.heap.size w X → _) := fun X hX => toIntS_calls X b d T.colors (rdI_later r2 hX) (by have := hs.colors; omega)
  have q0 : W.cell? ⟨w.heap.size, 1, none⟩ = some (.slice b T.colors.length d) := by
    rw [hW, World.cell?_alloc_lt _ _ _ (by simp; omega), World.cell?_alloc_lt _ _ _ (by simp), World.cell?_alloc_mark]; rfl
  have q1 : Two W (w.heap.size + 1) (.slice none 0 0) (.slice none 0 0) := by
    have f := Two.new (w.alloc (.cells #[.slice a T.counts.length c, .slice b T.colors.length d] 42)) (.slice none 0 0) (.slice none 0 0)
    have f2 := f.later ((Below.refl _ _).alloc (Nat.le_refl _) (.cells #[.slice none 0 0, .slice none 0 0] 30)) (by simp)
    rw [← hW] at f2
    simpa using f2
  have q2 : Two W (w.heap.size + 2) (.slice none 0 0) (.slice none 0 0) := by
    have f := Two.new ((w.alloc (.cells #[.slice a T.counts.length c, .slice b T.colors.length d] 42)).alloc (.cells #[.slice none 0 0, .slice none 0 0] 30)) (.slice none 0 0) (.slice none 0 0)
    rw [← hW] at f
    simpa using f
  clear r1 r2
  go_enter Try.func20, Try.ntmps20
  go_wp2_with fail
  rw [← hW]
  refine (C1.out _ BW).mono ?_
  rintro e w1 ⟨u1, rfl, O1, b1⟩
  clear hW
  have hs1 := b1.size
  have B1 := BW.trans (b1.mono BW.size)
  have k0 := (b1.cell (p := ⟨w.heap.size, 1, none⟩) (by show w.heap.size < _; omega)).trans q0
  have k1 := q1.later b1 (by omega)
  have k2 := q2.later b1 (by omega)
  obtain ⟨x1, c1, rfl, -⟩ := rdI_own O1
  have d0 := k2.cell 0
  have d1 := k2.cell 1
  have f0 := k2.frozen 0
  simp only [List.getElem?_toArray, List.getElem?_cons_zero, List.getElem?_cons_succ] at d0 d1
  obtain ⟨V, hV⟩ : ∃ V, V = w1.setCell ⟨w.heap.size + 2, 0, none⟩ (.slice x1 T.counts.length c1) := ⟨_, rfl⟩
  have BV : Below w.heap.size w V := by rw [hV]; exact B1.setCell (p := ⟨w.heap.size + 2, 0, none⟩) (by show w.heap.size ≤ w.heap.size + 2; omega) _
  have sV : V.heap.size = w1.heap.size := by rw [hV]; simp [World.setCell]
  have OV : ownI V W.heap.size (.slice x1 T.counts.length c1) T.counts := ownI_same O1 (fun g hg => by
    have := (ownI_lt O1 g hg).1
    rw [hV]; exact heap_setCell_other _ _ _ _ (by show g ≠ w.heap.size + 2; omega))
  have V0 : V.cell? ⟨w.heap.size, 1, none⟩ = some (.slice b T.colors.length d) := by rw [hV, World.cell?_setCell_other _ _ _ _ (by simp)]; exact k0
  have V1 : Two V (w.heap.size + 1) (.slice none 0 0) (.slice none 0 0) := k1.same (by rw [hV]; exact heap_setCell_other _ _ _ _ (by show w.heap.size + 1 ≠ w.heap.size + 2; omega))
  have V2 : Two V (w.heap.size + 2) (.slice x1 T.counts.length c1) (.slice none 0 0) := by rw [hV]; exact heap_setCell_same w1 _ 0 _ _ _ k2
  clear q0 q1 q2 k1 k2 B1 O1
  go_wp2_with fail
  rw [← hV]
  clear hV k0 d0 d1 f0
  refine (C2.out _ BV).mono ?_
  rintro e w2 ⟨u2, rfl, O2, b2⟩
  have hs2 := b2.size
  have B2 := BV.trans (b2.mono BV.size)
  have Y1 := V1.later b2 (by omega)
  have Y2 := V2.later b2 (by omega)
  have D := own_dif OV O2
  have OW := ownI_later OV b2
  obtain ⟨x2, c2, rfl, -⟩ := rdI_own O2
  have d0 := Y1.cell 0
  have d1 := Y1.cell 1
  have f0 := Y1.frozen 0
  have f1 := Y1.frozen 1
  have g0 := Y2.cell 0
  have g1 := Y2.cell 1
  have h0 := Y2.frozen 1
  simp only [List.getElem?_toArray, List.getElem?_cons_zero, List.getElem?_cons_succ] at d0 d1 g0 g1
  go_wp2
  refine bodyPost_ret (v := .agg #[.slice x1 T.counts.length c1, .slice x2 T.colors.length c2]) (by simp [results, Try.results20, go_sem, *]) rfl ?_
  refine ⟨⟨x1, T.counts.length, c1, x2, T.colors.length, c2⟩, rfl, ?_, ?_⟩
  · refine TM.mono (B := W.heap.size) ⟨ownI_same OW ?_, ownI_same (ownI_mono O2 (by omega)) ?_, D⟩ (by omega)
    · intro g hg
      have hgl := (ownI_lt OW g hg).1
      iterate 3 rw [heap_setCell_other _ _ _ _ (by simp only []; omega)]
    · intro g hg
      have hgl := (ownI_lt O2 g hg).1
      iterate 3 rw [heap_setCell_other _ _ _ _ (by simp only []; omega)]
  · exact ((B2.setCell (by simp only []; omega) _).setCell (by simp only []; omega) _).setCell (by simp only []; omega) _

theorem eqTrial_calls (w : World) (v u : Value) (T : TrialD) (h1 : RdT w v T) (h2 : RdT w u T) (m0 : T.counts.length ≤ 16777216) (m1 : T.colors.length ≤ 16777216) :
    Calls Try.prog 13 #[v, u] w fun e w' => e = .returned (.bool true) ∧ Below w.heap.size w w' := by
  obtain ⟨a, c, b, d, rfl, r1, r2⟩ := h1
  obtain ⟨a2, c2, b2, d2, rfl, s1, s2⟩ := h2
  obtain ⟨W, hW⟩ : ∃ W, W = (w.alloc (.cells #[.slice a T.counts.length c, .slice b T.colors.length d] 30)).alloc (.cells #[.slice a2 T.counts.length c2, .slice b2 T.colors.length d2] 30) := ⟨_, rfl⟩
  have BW : Below w.heap.size w W := by rw [hW]; exact ((Below.refl _ _).alloc (Nat.le_refl _) _).alloc (by simp) _
  have hWs : W.heap.size = w.heap.size + 1 + 1 := by rw [hW]; simp
  have C1 : Hid (∀ X, Below w.heap.size w X → _) := fun X hX => eqIntS_rd X a a2 c c2 T.counts (rdI_later r1 hX) (rdI_later s1 hX) m0
  have C2 : Hid (∀ X, Below w.heap.size w X → _) := fun X hX => eqIntS_rd X b b2 d d2 T.colors (rdI_later r2 hX) (rdI_later s2 hX) m1
  have q1 : W.cell? ⟨w.heap.size, 1, none⟩ = some (.slice b T.colors.length d) := by rw [hW, World.cell?_alloc_lt _ _ _ (by simp), World.cell?_alloc_mark]; rfl
  have q2 : W.cell? ⟨w.heap.size + 1, 1, none⟩ = some (.slice b2 T.colors.length d2) := by
    rw [hW, show w.heap.size + 1 = (w.alloc (.cells #[.slice a T.counts.length c, .slice b T.colors.length d] 30)).heap.size from by simp, World.cell?_alloc_mark]; rfl
  clear r1 r2 s1 s2
  go_enter Try.func13, Try.ntmps13
  go_wp2_with fail
  rw [← hW]
  refine (C1.out _ BW).mono ?_
  rintro e w1 ⟨rfl, b1⟩
  have B1 := BW.trans (b1.mono BW.size)
  have k1 := (b1.cell (p := ⟨w.heap.size, 1, none⟩) (by show w.heap.size < _; omega)).trans q1
  have k2 := (b1.cell (p := ⟨w.heap.size + 1, 1, none⟩) (by show w.heap.size + 1 < _; omega)).trans q2
  clear hW hWs q1 q2
  go_wp2_with fail
  refine (C2.out _ B1).mono ?_
  rintro e w2 ⟨rfl, b2⟩
  have B2 := B1.trans (b2.mono B1.size)
  clear k1 k2
  go_wp2
  go_ret
  exact ⟨rfl, B2⟩

/-- What markTrial stores. -/
def markT (s : TSh) (k : Int) : Sts := mkI s.a k s.n ++ mkI s.b (k + (s.n : Int)) s.m
structure CanT (w : World) (s : TSh) : Prop where
  x : CanI w s.a s.n
  y : CanI w s.b s.m
  ln : s.n ≤ 16777216
  lm : s.m ≤ 16777216
theorem tsh_v (s : TSh) : s.v = .agg #[.slice s.a s.n s.c, .slice s.b s.m s.d] := rfl
theorem TM.can {w : World} {B : Nat} {s : TSh} {T : TrialD} (h : TM w B s T) (h1 : T.counts.length ≤ 16777216) (h2 : T.colors.length ≤ 16777216) : CanT w s := by
  obtain ⟨l1, l2⟩ := h.lens
  have hx : ownI w B (.slice s.a s.n s.c) T.counts := h.x
  have hy : ownI w B (.slice s.b s.m s.d) T.colors := h.y
  obtain ⟨a, c, e, q, -⟩ := ownI_can hx
  obtain ⟨b, d, e2, q2, -⟩ := ownI_can hy
  simp only [Value.slice.injEq] at e e2
  exact ⟨by rw [e.1, l1]; exact q, by rw [e2.1, l2]; exact q2, by omega, by omega⟩
theorem TM.blk {w : World} {B : Nat} {s : TSh} {T : TrialD} (h : TM w B s T) (k : Int) : ∀ q ∈ markT s k, B ≤ q.1.block ∧ q.1.block < w.heap.size := by
  intro q hq
  rcases List.mem_append.1 hq with hq | hq
  · obtain ⟨-, x, hx, e⟩ := mkI_block _ _ _ _ hq
    have := ownI_lt h.x x.block (by show (Value.slice s.a s.n s.c).ownBlock = _; rw [hx]; rfl)
    rw [e]; exact this
  · obtain ⟨-, x, hx, e⟩ := mkI_block _ _ _ _ hq
    have := ownI_lt h.y x.block (by show (Value.slice s.b s.m s.d).ownBlock = _; rw [hx]; rfl)
    rw [e]; exact this
theorem TM.nodup {w : World} {B : Nat} {s : TSh} {T : TrialD} (h : TM w B s T) (k : Int) : ((markT s k).map (·.1)).Nodup := by
  unfold markT
  rw [List.map_append, List.nodup_append]
  refine ⟨mkI_nodup _ _ _, mkI_nodup _ _ _, ?_⟩
  intro x hx y hy e
  obtain ⟨p, hp, rfl⟩ := List.mem_map.1 hx
  obtain ⟨q, hq, rfl⟩ := List.mem_map.1 hy
  obtain ⟨-, x, h1, e1⟩ := mkI_block _ _ _ _ hp
  obtain ⟨-, y, h2, e2⟩ := mkI_block _ _ _ _ hq
  refine h.dif x.block (by show (Value.slice s.a s.n s.c).ownBlock = _; rw [h1]; rfl) ?_
  show (Value.slice s.b s.m s.d).ownBlock = _
  rw [h2, ← e1, e, e2]; rfl
structure HeldT (w : World) (s : TSh) (k : Int) : Prop where
  all : ∀ q ∈ markT s k, w.cell? q.1 = some q.2
  x : 0 < s.n → ∃ g off, s.a = some ⟨g, off, none⟩ ∧ g < w.heap.size
  y : 0 < s.m → ∃ g off, s.b = some ⟨g, off, none⟩ ∧ g < w.heap.size
theorem HeldT.later {w w' : World} {s : TSh} {k : Int} (h : HeldT w s k) (hb : Below w.heap.size w w') : HeldT w' s k := by
  refine ⟨fun q hq => ?_, fun hn => ?_, fun hn => ?_⟩
  · refine (hb.cell ?_).trans (h.all q hq)
    rcases List.mem_append.1 hq with hq | hq
    · obtain ⟨h0, x, hx, e⟩ := mkI_block _ _ _ _ hq
      obtain ⟨g, off, h1, h2⟩ := h.x h0
      rw [hx] at h1; injection h1 with h1; rw [e, h1]; exact h2
    · obtain ⟨h0, x, hx, e⟩ := mkI_block _ _ _ _ hq
      obtain ⟨g, off, h1, h2⟩ := h.y h0
      rw [hx] at h1; injection h1 with h1; rw [e, h1]; exact h2
  · obtain ⟨g, off, h1, h2⟩ := h.x hn; exact ⟨g, off, h1, Nat.lt_of_lt_of_le h2 hb.size⟩
  · obtain ⟨g, off, h1, h2⟩ := h.y hn; exact ⟨g, off, h1, Nat.lt_of_lt_of_le h2 hb.size⟩
theorem TM.held {w w' : World} {B : Nat} {s : TSh} {T : TrialD} {k : Int} (h : TM w B s T) (h1 : T.counts.length ≤ 16777216) (h2 : T.colors.length ≤ 16777216) (hb : Below w.heap.size (stores w (markT s k)) w') : HeldT w' s k := by
  have hc := h.can h1 h2
  have hz : HeldT (stores w (markT s k)) s k := by
    refine ⟨stores_mem _ (h.nodup k) w (fun p hp => ?_), fun hn => ?_, fun hn => ?_⟩
    · rcases List.mem_append.1 hp with hp | hp
      · exact mkI_some hc.x p hp
      · exact mkI_some hc.y p hp
    · obtain ⟨g, off, e, l, -⟩ := hc.x 0 hn; exact ⟨g, off, e, by rw [stores_size]; exact l⟩
    · obtain ⟨g, off, e, l, -⟩ := hc.y 0 hn; exact ⟨g, off, e, by rw [stores_size]; exact l⟩
  refine hz.later ?_
  rw [stores_size]; exact hb

theorem markTrial_st (w : World) (s : TSh) (k : Int) (h : CanT w s) (h0 : 0 ≤ k) (h1 : k ≤ 900000000000000) (hlt : ∀ q ∈ markT s k, q.1.block < w.heap.size) :
    Calls Try.prog 16 #[s.v, .int .i64 k] w fun e w' => e = .returned (.int .i64 (k + (s.n : Int) + (s.m : Int))) ∧ Below w.heap.size (stores w (markT s k)) w' := by
  obtain ⟨W, hW⟩ : ∃ W, W = w.alloc (.cells #[.slice s.a s.n s.c, .slice s.b s.m s.d] 30) := ⟨_, rfl⟩
  have BW : Below w.heap.size w W := by rw [hW]; exact (Below.refl _ _).alloc (Nat.le_refl _) _
  have hn := h.ln
  have C1 : Hid (∀ u : Unit, _) := fun (_ : Unit) => markIntS_st W s.a s.n s.c k (canI_later h.x BW) h.ln h0 (by omega)
  have C2 : Hid (∀ u : Unit, _) := fun (_ : Unit) => markIntS_st (stores W (mkI s.a k s.n)) s.b s.m s.d (k + (s.n : Int)) (canI_stores _ (canI_later h.y BW)) h.lm (by omega) (by omega)
  have F1 : Hid ((stores W (mkI s.a k s.n)).cell? ⟨w.heap.size, 1, none⟩ = some (.slice s.b s.m s.d)) := by
    show _ = _
    rw [stores_other _ _ (fun q hq e => by have := hlt q (List.mem_append_left _ hq); rw [e] at this; exact Nat.lt_irrefl _ this), hW, World.cell?_alloc_mark]; rfl
  have HE : Hid (Below w.heap.size (stores w (markT s k)) (stores (stores W (mkI s.a k s.n)) (mkI s.b (k + (s.n : Int)) s.m))) := by
    have b := stores_both (markT s k) BW
    unfold markT at b ⊢
    rw [stores_append, stores_append] at b
    rw [stores_append]
    exact b
  generalize markT s k = L at *
  generalize mkI s.a k s.n = L1 at *
  generalize mkI s.b (k + (s.n : Int)) s.m = L2 at *
  rw [tsh_v]
  clear h hlt
  go_enter Try.func16, Try.ntmps16
  go_wp2_with fail
  rw [← hW]
  refine (C1.out ()).mono ?_
  rintro e w1 ⟨rfl, hw1⟩
  rw [← hw1] at C2 F1 HE
  have f1 := F1.out
  clear hW hw1 C1 F1
  go_wp2_with fail
  refine (C2.out ()).mono ?_
  rintro e w2 ⟨rfl, hw2⟩
  rw [← hw2] at HE
  clear hw2 C2 f1
  go_wp2
  go_ret
  exact ⟨rfl, HE.out⟩

theorem heldTrial_at (w : World) (s : TSh) (k : Int) (h : HeldT w s k) (ln : s.n ≤ 16777216) (lm : s.m ≤ 16777216) (h0 : 0 ≤ k) (h1 : k ≤ 900000000000000) :
    Calls Try.prog 17 #[s.v, .int .i64 k] w fun e w' => e = .returned (.int .i64 (k + (s.n : Int) + (s.m : Int))) ∧ Below w.heap.size w w' := by
  obtain ⟨W, hW⟩ : ∃ W, W = w.alloc (.cells #[.slice s.a s.n s.c, .slice s.b s.m s.d] 30) := ⟨_, rfl⟩
  have BW : Below w.heap.size w W := by rw [hW]; exact (Below.refl _ _).alloc (Nat.le_refl _) _
  have hW2 := h.later BW
  have C1 : Hid (∀ u : Unit, _) := fun (_ : Unit) => heldIntS_at W s.a s.n s.c k (fun p hp => hW2.all p (List.mem_append_left _ hp)) (fun hn => by obtain ⟨g, off, e, -⟩ := hW2.x hn; exact ⟨g, off, e⟩) ln h0 (by omega)
  have C2 : Hid (∀ u : Unit, _) := fun (_ : Unit) => heldIntS_at W s.b s.m s.d (k + (s.n : Int)) (fun p hp => hW2.all p (List.mem_append_right _ hp)) (fun hn => by obtain ⟨g, off, e, -⟩ := hW2.y hn; exact ⟨g, off, e⟩) lm (by omega) (by omega)
  have c1 : W.cell? ⟨w.heap.size, 1, none⟩ = some (.slice s.b s.m s.d) := by rw [hW, World.cell?_alloc_mark]; rfl
  have n1 : ¬ k + (s.n : Int) < 0 := by omega
  have n2 : ¬ k + (s.n : Int) + (s.m : Int) < 0 := by omega
  rw [tsh_v]
  clear h hW2 ln lm h0 h1
  go_enter Try.func17, Try.ntmps17
  go_wp2_with fail
  rw [← hW]
  refine (C1.out ()).mono ?_
  rintro e w1 ⟨rfl, rfl⟩
  clear hW C1
  go_wp2_with fail
  refine (C2.out ()).mono ?_
  rintro e w2 ⟨rfl, rfl⟩
  clear C2
  go_wp2
  go_ret
  exact ⟨rfl, BW⟩

section
variable {T : Type} {enc : TypeId × Value → T} {w : World} {held : Bool}

theorem opened_trial {r : Reach} {b0 : Nat} {v : Value} {d : DataW T} {ps : List MemPlace} (hv : Value.okWide Try.prog w r b0 42 v) (h : DataW.Trod enc Try.prog w 0 (fun _ => true) held 42 v d ps) : ∃ D : TrialD, RdT w v D ∧ SaneT D := by
  obtain ⟨cs, rfl, hcs⟩ := okWide_struct Try.underlying42 hv
  obtain ⟨fuel, hf0⟩ := h
  have ec : (Value.agg cs).cells.toList = cs.toList := by simp [Value.cells]
  rw [ec] at hf0
  obtain ⟨xs, n, _, _, hl, hlen, hf⟩ := DataW.trod_struct Try.underlying42 hf0
  have hl2 : cs.size = 2 := hcs.trans (by kernel_rfl)
  obtain ⟨l⟩ := cs
  match l, hl2, xs, hlen with
  | [c0, c1], _, [y0, y1], _ =>
    have e2 : Try.prog.cellsOf 24 = 1 := by kernel_rfl
    have h0 := hf 0 { name := "Counts", type := 24, offset := 0, embedded := false, tag := "", pkgPath := "", byteOffset := 0 } rfl
    have h1 := hf 1 { name := "Colors", type := 24, offset := 1, embedded := false, tag := "", pkgPath := "", byteOffset := 24 } rfl
    simp only [e2] at h0 h1
    obtain ⟨ao, os, co, g0, ro, l0, v0⟩ := opened_ints (x := y0) (by simpa using h0)
    obtain ⟨ab, zs, cb, g1, ri, l1, v1⟩ := opened_ints (x := y1) (by simpa using h1)
    exact ⟨⟨os, zs⟩, ⟨ao, co, ab, cb, by simp_all, ro, ri⟩, ⟨l0, l1, v0, v1⟩⟩

end

theorem rdT_form {w : World} {v : Value} {T : TrialD} (r : RdT w v T) : ∃ a0 n0 k0 a1 n1 k1, v = .agg #[.slice a0 n0 k0, .slice a1 n1 k1] := by
  obtain ⟨a, c, b, d, h, -, -⟩ := r
  exact ⟨_, _, _, _, _, _, h⟩
theorem two_kept (w : World) (t : TypeId) (x0 x1 : Value) (X : World) (hX : Below (w.heap.size + 1) (w.alloc (.cells #[x0, x1] t)) X) : X.cell? ⟨w.heap.size, 0, none⟩ = some x0 ∧ X.cell? ⟨w.heap.size, 1, none⟩ = some x1 := by
  have h : ∀ k, X.cell? ⟨w.heap.size, k, none⟩ = (#[x0, x1] : Array Value)[k]? := fun k => by
    rw [hX.cell (p := ⟨w.heap.size, k, none⟩) (Nat.lt_succ_self _), World.cell?_alloc_mark]
  exact ⟨h 0, h 1⟩

end Go.Proofs.Ytjhceoejblmihaa
