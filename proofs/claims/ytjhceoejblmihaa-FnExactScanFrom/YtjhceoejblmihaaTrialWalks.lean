/- Trials in memory of their own; what spec.l7Copy makes. -/
import Derived.Test.YtjhceoejblmihaaRingWalks
import Derived.Test.YtjhceoejblmihaaAnyOps
namespace Go.Proofs.Ytjhceoejblmihaa
open Go.RowKit
set_option linter.unusedVariables false
set_option maxRecDepth 100000

/-- Two rows lie in two blocks. -/
def Dif2 (u v : Value) : Prop := ∀ g, u.ownBlock = some g → v.ownBlock ≠ some g
theorem Dif2.symm {u v : Value} (h : Dif2 u v) : Dif2 v u := fun g h1 h2 => h g h2 h1
/-- A trial's places. -/
structure TSh where
  a : Option Addr
  n : Nat
  c : Nat
  b : Option Addr
  m : Nat
  d : Nat
def TSh.x (s : TSh) : Value := .slice s.a s.n s.c
def TSh.y (s : TSh) : Value := .slice s.b s.m s.d
def TSh.v (s : TSh) : Value := .agg #[.slice s.a s.n s.c, .slice s.b s.m s.d]
/-- A trial in memory of its own, at or behind a size. -/
structure TM (w : World) (B : Nat) (s : TSh) (T : TrialD) : Prop where
  x : ownI w B s.x T.counts
  y : ownI w B s.y T.colors
  dif : Dif2 s.x s.y
theorem TM.later {w w' : World} {B : Nat} {s : TSh} {T : TrialD} (h : TM w B s T) (hb : Below w.heap.size w w') : TM w' B s T := ⟨ownI_later h.x hb, ownI_later h.y hb, h.dif⟩
theorem TM.mono {w : World} {B C : Nat} {s : TSh} {T : TrialD} (h : TM w B s T) (hC : C ≤ B) : TM w C s T := ⟨ownI_mono h.x hC, ownI_mono h.y hC, h.dif⟩
theorem TM.same {w w' : World} {B : Nat} {s : TSh} {T : TrialD} (h : TM w B s T) (hs : ∀ g, B ≤ g → g < w.heap.size → w'.heap[g]? = w.heap[g]?) : TM w' B s T :=
  ⟨ownI_same h.x (fun g hg => hs g (ownI_lt h.x g hg).1 (ownI_lt h.x g hg).2), ownI_same h.y (fun g hg => hs g (ownI_lt h.y g hg).1 (ownI_lt h.y g hg).2), h.dif⟩
theorem own_len {w : World} {B : Nat} {a : Option Addr} {n c : Nat} {zs : List Int} (h : ownI w B (.slice a n c) zs) : n = zs.length := by
  obtain ⟨a2, c2, h1, -⟩ := rdI_own h
  injection h1
theorem TM.lens {w : World} {B : Nat} {s : TSh} {T : TrialD} (h : TM w B s T) : s.n = T.counts.length ∧ s.m = T.colors.length := ⟨own_len h.x, own_len h.y⟩
theorem TM.rd {w : World} {B : Nat} {s : TSh} {T : TrialD} (h : TM w B s T) : RdT w s.v T := by
  obtain ⟨a, c, h1, h2⟩ := rdI_own h.x
  obtain ⟨b, d, h3, h4⟩ := rdI_own h.y
  refine ⟨a, c, b, d, ?_, h2.out, h4.out⟩
  show Value.agg #[s.x, s.y] = _
  rw [h1, h3]

/-- A block of two slices, and a trial's value stored there. -/
def Two (X : World) (g : Nat) (x0 x1 : Value) : Prop := X.heap[g]? = some (.cells #[x0, x1] 30 (0, 0))
theorem Two.cell {X : World} {g : Nat} {x0 x1 : Value} (h : Two X g x0 x1) (k : Nat) : X.cell? ⟨g, k, none⟩ = (#[x0, x1] : Array Value)[k]? := by
  have h' : X.heap[g]? = some (.cells #[x0, x1] 30 (0, 0)) := h
  simp [World.cell?, h']
theorem Two.frozen {X : World} {g : Nat} {x0 x1 : Value} (h : Two X g x0 x1) (k : Nat) : X.frozen? ⟨g, k, none⟩ = false := by
  have h' : X.heap[g]? = some (.cells #[x0, x1] 30 (0, 0)) := h
  simp [World.frozen?, h']
theorem Two.lt {X : World} {g : Nat} {x0 x1 : Value} (h : Two X g x0 x1) : g < X.heap.size := (Array.getElem?_eq_some_iff.1 h).1
theorem Two.same {X Y : World} {g : Nat} {x0 x1 : Value} (h : Two X g x0 x1) (hs : Y.heap[g]? = X.heap[g]?) : Two Y g x0 x1 := hs.trans h
theorem Two.later {X Y : World} {g B : Nat} {x0 x1 : Value} (h : Two X g x0 x1) (hb : Below B X Y) (hg : g < B) : Two Y g x0 x1 := h.same (hb.block g hg)
theorem Two.new (w : World) (x0 x1 : Value) : Two (w.alloc (.cells #[x0, x1] 30)) w.heap.size x0 x1 := heap_alloc_new w _
def setTwo (X : World) (g : Nat) (y0 y1 : Value) : World := (X.setCell ⟨g, 0, none⟩ y0).setCell ⟨g, 1, none⟩ y1
theorem setTwo_size (X : World) (g : Nat) (y0 y1 : Value) : (setTwo X g y0 y1).heap.size = X.heap.size := by unfold setTwo; simp [World.setCell]
theorem setTwo_other (X : World) (g : Nat) (y0 y1 : Value) (i : Nat) (h : i ≠ g) : (setTwo X g y0 y1).heap[i]? = X.heap[i]? := by
  unfold setTwo
  iterate 2 rw [heap_setCell_other _ _ _ _ (by exact h)]
theorem setTwo_cell {X : World} {g : Nat} {u0 u1 : Value} (y0 y1 : Value) (h : Two X g u0 u1) : (setTwo X g y0 y1).cell? ⟨g, 0, none⟩ = some y0 ∧ (setTwo X g y0 y1).cell? ⟨g, 1, none⟩ = some y1 := by
  have same : ∀ (W : World) (q : Nat) (u v : Value), W.cell? ⟨g, q, none⟩ = some v → (W.setCell ⟨g, q, none⟩ u).cell? ⟨g, q, none⟩ = some u := fun W q u v hW => World.cell?_setCell_same W _ u hW
  unfold setTwo
  constructor
  · rw [cell_far _ _ _ _ _ (by omega)]
    exact same _ _ _ _ (h.cell 0)
  · exact same _ _ _ _ (by rw [cell_far _ _ _ _ _ (by omega)]; exact h.cell 1)

theorem opFieldT {t i : Tmp} {ty : TypeId} {pos : String} {af : Array Edge} {a : Act} {X : World} {K : Act → World → Prop} {Q : Exit → Act → World → Prop} {P : Nat} (k : Nat) (hk : k < 2) (h1 : a.eval (.tmp i) = .pointer (some ⟨P, 0, none⟩)) (hK : K (a.put (some t) (.pointer (some ⟨P, k, none⟩))) X) :
    Oper.wp Try.prog ⟨some t, .fieldAddr 30 (.tmp i) k, ty, pos, af, none⟩ a X K Q := by
  have h := ev_tmp h1
  match k, hk with
  | 0, _ => go_simp; exact hK
  | 1, _ => go_simp; exact hK
theorem opBuild2 {t i j : Tmp} {ty : TypeId} {pos : String} {af : Array Edge} {a : Act} {X : World} {K : Act → World → Prop} {Q : Exit → Act → World → Prop} {x y : Option Addr} {n m c d : Nat} (h1 : a.eval (.tmp i) = .slice x n c) (h2 : a.eval (.tmp j) = .slice y m d)
    (hK : K (a.put (some t) (.agg #[.slice x n c, .slice y m d])) X) : Oper.wp Try.prog ⟨some t, .build 30 #[(0, .tmp i), (1, .tmp j)], ty, pos, af, none⟩ a X K Q := by
  have e1 := ev_tmp h1
  have e2 := ev_tmp h2
  go_simp; exact hK
theorem opStoreT {i j : Tmp} {ty : TypeId} {pos : String} {af : Array Edge} {a : Act} {X : World} {K : Act → World → Prop} {Q : Exit → Act → World → Prop} {g : Nat} {u0 u1 : Value} {x y : Option Addr} {n m c d : Nat} (h1 : a.eval (.tmp i) = .pointer (some ⟨g, 0, none⟩)) (h2 : a.eval (.tmp j) = .agg #[.slice x n c, .slice y m d])
    (hf : Two X g u0 u1) (hK : K a (setTwo X g (.slice x n c) (.slice y m d))) : Oper.wp Try.prog ⟨none, .store 30 (.tmp i) (.tmp j), ty, pos, af, none⟩ a X K Q := by
  have e1 := ev_tmp h1
  have e2 := ev_tmp h2
  have k0 : X.cell? ⟨g, 0, none⟩ = some u0 := hf.cell 0
  have k1 : X.cell? ⟨g, 1, none⟩ = some u1 := hf.cell 1
  have f0 := hf.frozen 0
  have f1 := hf.frozen 1
  go_simp; exact hK

/-- What each operation of the copy's literal yields, and to which of the two rows it belongs. -/
def RT (B P : Nat) (aa : Option Addr) (an ac : Nat) (ba : Option Addr) (bn bc : Nat) (NA NB : List Value) : Nat → World → Value → Prop
  | 0, X, v => ∃ g, v = .slice (some ⟨g, 0, none⟩) 0 0 ∧ B ≤ g ∧ X.heap[g]? = some (.cells #[] 3 (0, 0))
  | 1, X, v => v = .pointer (some ⟨P, 0, none⟩)
  | 2, X, v => v = .slice aa an ac
  | 3, X, v => X.ownsRow B 3 1 v an NA
  | 4, X, v => ∃ g, v = .slice (some ⟨g, 0, none⟩) 0 0 ∧ B ≤ g ∧ X.heap[g]? = some (.cells #[] 3 (0, 0))
  | 5, X, v => v = .pointer (some ⟨P, 1, none⟩)
  | 6, X, v => v = .slice ba bn bc
  | 7, X, v => X.ownsRow B 3 1 v bn NB
  | 8, X, v => ∃ x1 c1 x2 c2, v = .agg #[.slice x1 an c1, .slice x2 bn c2] ∧ X.ownsRow B 3 1 (.slice x1 an c1) an NA ∧ X.ownsRow B 3 1 (.slice x2 bn c2) bn NB ∧ Dif2 (.slice x1 an c1) (.slice x2 bn c2)
  | _, _, _ => True
def famT : Nat → Nat
  | 0 => 1
  | 3 => 1
  | 4 => 2
  | 7 => 2
  | _ => 0
def DT (i j : Nat) (u v : Value) : Prop := famT i ≠ 0 → famT j ≠ 0 → famT i ≠ famT j → Dif2 u v
theorem rt_mono {B P : Nat} {aa : Option Addr} {an ac : Nat} {ba : Option Addr} {bn bc : Nat} {NA NB : List Value} (i : Nat) (X Y : World) (v : Value) (h : RT B P aa an ac ba bn bc NA NB i X v) (hb : Below X.heap.size X Y) : RT B P aa an ac ba bn bc NA NB i Y v := by
  have blk : ∀ (g : Nat) (o : Obj), X.heap[g]? = some o → Y.heap[g]? = some o := fun g o hg => (hb.block g (Array.getElem?_eq_some_iff.1 hg).1).trans hg
  match i, h with
  | 0, ⟨g, h1, h2, h3⟩ => exact ⟨g, h1, h2, blk g _ h3⟩
  | 1, h => exact h
  | 2, h => exact h
  | 3, h => exact row_later h hb
  | 4, ⟨g, h1, h2, h3⟩ => exact ⟨g, h1, h2, blk g _ h3⟩
  | 5, h => exact h
  | 6, h => exact h
  | 7, h => exact row_later h hb
  | 8, ⟨x1, c1, x2, c2, h1, h2, h3, h4⟩ => exact ⟨x1, c1, x2, c2, h1, row_later h2 hb, row_later h3 hb, h4⟩
  | n + 9, _ => exact trivial
theorem rt_old {B P : Nat} {aa : Option Addr} {an ac : Nat} {ba : Option Addr} {bn bc : Nat} {NA NB : List Value} (i : Nat) (X : World) (v : Value) (h : RT B P aa an ac ba bn bc NA NB i X v) (hf : famT i ≠ 0) : ∀ g, v.ownBlock = some g → g < X.heap.size := by
  intro g hg
  match i, h, hf with
  | 0, ⟨g2, h1, h2, h3⟩, _ =>
    subst h1
    obtain rfl : g2 = g := by simpa [Value.ownBlock] using hg
    exact (Array.getElem?_eq_some_iff.1 h3).1
  | 3, h, _ => exact (World.ownsRow.lt h g hg).2
  | 4, ⟨g2, h1, h2, h3⟩, _ =>
    subst h1
    obtain rfl : g2 = g := by simpa [Value.ownBlock] using hg
    exact (Array.getElem?_eq_some_iff.1 h3).1
  | 7, h, _ => exact (World.ownsRow.lt h g hg).2
  | 1, _, hf => exact absurd rfl hf
  | 2, _, hf => exact absurd rfl hf
  | 5, _, hf => exact absurd rfl hf
  | 6, _, hf => exact absurd rfl hf
  | 8, _, hf => exact absurd rfl hf
  | n + 9, _, hf => exact absurd rfl hf
/-- What lies in a new block lies in none that was there. -/
theorem dt_new {B P : Nat} {aa : Option Addr} {an ac : Nat} {ba : Option Addr} {bn bc : Nat} {NA NB : List Value} {i j : Nat} {X : World} {u v : Value} (h : RT B P aa an ac ba bn bc NA NB j X v) (hu : u.ownBlock = some X.heap.size) : DT i j u v ∧ DT j i v u :=
  have key : famT j ≠ 0 → Dif2 u v := fun hj g h1 h2 => by
    have h3 := rt_old j X v h hj g h2
    rw [hu] at h1
    injection h1 with h1
    omega
  ⟨fun _ hj _ => key hj, fun hj _ _ => (key hj).symm⟩
/-- What lies where another of its row did, or in a new block. -/
theorem dt_of {B P : Nat} {aa : Option Addr} {an ac : Nat} {ba : Option Addr} {bn bc : Nat} {NA NB : List Value} {i j k g : Nat} {X : World} {u u0 v : Value} (h : RT B P aa an ac ba bn bc NA NB j X v) (hu : ∃ g', u.ownBlock = some g' ∧ (g' = g ∨ g' = X.heap.size)) (h0 : u0.ownBlock = some g) (hf : famT k = famT i) (hk : j ≠ k → DT k j u0 v) : DT i j u v ∧ DT j i v u := by
  obtain ⟨g', h1, rfl | rfl⟩ := hu
  · have key : famT i ≠ 0 → famT j ≠ 0 → famT i ≠ famT j → Dif2 u v := fun hi hj hij q h2 h3 => by
      rw [h1] at h2
      injection h2 with h2
      subst h2
      refine hk ?_ (by rw [hf]; exact hi) hj (by rw [hf]; exact hij) g' h0 h3
      rintro rfl
      exact hij hf.symm
    exact ⟨key, fun hj hi hij => (key hi hj (fun e => hij e.symm)).symm⟩
  · exact dt_new h h1
theorem dt_no {i j : Nat} {u v : Value} (hi : famT i = 0) : DT i j u v ∧ DT j i v u := ⟨fun h => absurd hi h, fun _ h => absurd hi h⟩

set_option maxHeartbeats 4000000 in
theorem sCopyT_calls (v : Value) (T : TrialD) (w : World) (h : RdT w v T) (hs : SmallT T) :
    Calls Try.prog 57 #[v] w fun e w' => ∃ s : TSh, e = .returned s.v ∧ TM w' w.heap.size s T ∧ Below w.heap.size w w' := by
  obtain ⟨aa, ac, ab, ad, rfl, r1, r2⟩ := h
  have l0 := hs.counts
  have l1 := hs.colors
  obtain ⟨W, hW⟩ : ∃ W, W = (w.alloc (.cells #[.slice aa T.counts.length ac, .slice ab T.colors.length ad] 30)).alloc (.cells #[.slice none 0 0, .slice none 0 0] 30) := ⟨_, rfl⟩
  have BW : Below w.heap.size w W := by rw [hW]; exact ((Below.refl _ _).alloc (Nat.le_refl _) _).alloc (by simp) _
  have hWs : W.heap.size = w.heap.size + 2 := by rw [hW]; simp
  have FP : Two W w.heap.size (.slice aa T.counts.length ac) (.slice ab T.colors.length ad) := by
    have f1 := Two.new w (.slice aa T.counts.length ac) (.slice ab T.colors.length ad)
    have hb2 : Below (w.heap.size + 1) (w.alloc (.cells #[.slice aa T.counts.length ac, .slice ab T.colors.length ad] 30)) W := by rw [hW]; exact (Below.refl _ _).alloc (by simp) _
    exact (hb2.block w.heap.size (by omega)).trans f1
  have FR : Two W (w.heap.size + 1) (.slice none 0 0) (.slice none 0 0) := by
    rw [hW]
    have f1 := Two.new (w.alloc (.cells #[.slice aa T.counts.length ac, .slice ab T.colors.length ad] 30)) (.slice none 0 0) (.slice none 0 0)
    simpa using f1
  have HSA : Hid (SrcC W aa T.counts.length 1 (T.counts.map intV)) := (srcI r1).later BW
  have HSB : Hid (SrcC W ab T.colors.length 1 (T.colors.map intV)) := (srcI r2).later BW
  have HFP : Hid (Two W w.heap.size (.slice aa T.counts.length ac) (.slice ab T.colors.length ad)) := FP
  have HFR : Hid (Two W (w.heap.size + 1) (.slice none 0 0) (.slice none 0 0)) := FR
  have HBW : Hid (Below w.heap.size w W) := BW
  have HWs : Hid (W.heap.size = w.heap.size + 2) := hWs
  clear r1 r2 FP FR hs BW
  go_enter Try.func57, Try.ntmps57
  go_wp2
  rw [← hW]
  clear hW
  refine wp_region_pair 9 (by kernel_rfl) (by kernel_rfl) (RT W.heap.size w.heap.size aa T.counts.length ac ab T.colors.length ad (T.counts.map intV) (T.colors.map intV)) DT rt_mono ?_ ?_
  · intro i o hi ho a X hX hA dn hbn hdep
    have FX := HFP.out.later hX (by omega)
    have hXs := hX.size
    match i, hi, ho with
    | 0, _, ho =>
      obtain rfl := Option.some.inj ho
      exact opNewI ⟨_, rfl, (Below.refl _ _).alloc (Nat.le_refl _) _, ⟨X.heap.size, rfl, hXs, fresh_at X _⟩, fun j hj _ t ht => dt_new (hbn.yields j hj t ht) rfl⟩
    | 1, _, ho =>
      obtain rfl := Option.some.inj ho
      exact opFieldT 0 (by omega) (alike_at hA (t := 1) (by kernel_rfl)) ⟨_, rfl, Below.refl _ _, rfl, fun j hj _ t ht => dt_no rfl⟩
    | 2, _, ho =>
      obtain rfl := Option.some.inj ho
      have e1 : a.eval (.tmp 4) = .pointer (some ⟨w.heap.size, 0, none⟩) := hbn.yields 1 (hdep ⟨1, .data⟩ (by simp) rfl) 4 rfl
      exact opLoadI e1 (FX.cell 0) ⟨_, rfl, Below.refl _ _, rfl, fun j hj _ t ht => dt_no rfl⟩
    | 3, _, ho =>
      obtain rfl := Option.some.inj ho
      have d0 := hdep ⟨0, .data⟩ (by simp) rfl
      obtain ⟨g, e1, gB, hg⟩ := hbn.yields 0 d0 3 rfl
      have e2 : a.eval (.tmp 5) = .slice aa T.counts.length ac := hbn.yields 2 (hdep ⟨2, .data⟩ (by simp) rfl) 5 rfl
      exact wp_append_fresh elI _ _ rfl g W.heap.size hg gB aa T.counts.length ac _ e1 e2 (HSA.out.later hX) (by omega) (by omega) (fun v' w' r b ho => ⟨_, rfl, b, r, fun j hj _ t ht => dt_of (k := 0) (g := g) (u0 := a.eval (.tmp 3)) (hbn.yields j hj t ht) ho.out (by rw [e1]; rfl) rfl (fun hne => hbn.pairs 0 j d0 hj (fun e => hne e.symm) 3 t rfl ht)⟩)
    | 4, _, ho =>
      obtain rfl := Option.some.inj ho
      exact opNewI ⟨_, rfl, (Below.refl _ _).alloc (Nat.le_refl _) _, ⟨X.heap.size, rfl, hXs, fresh_at X _⟩, fun j hj _ t ht => dt_new (hbn.yields j hj t ht) rfl⟩
    | 5, _, ho =>
      obtain rfl := Option.some.inj ho
      exact opFieldT 1 (by omega) (alike_at hA (t := 1) (by kernel_rfl)) ⟨_, rfl, Below.refl _ _, rfl, fun j hj _ t ht => dt_no rfl⟩
    | 6, _, ho =>
      obtain rfl := Option.some.inj ho
      have e1 : a.eval (.tmp 8) = .pointer (some ⟨w.heap.size, 1, none⟩) := hbn.yields 5 (hdep ⟨5, .data⟩ (by simp) rfl) 8 rfl
      exact opLoadI e1 (FX.cell 1) ⟨_, rfl, Below.refl _ _, rfl, fun j hj _ t ht => dt_no rfl⟩
    | 7, _, ho =>
      obtain rfl := Option.some.inj ho
      have d0 := hdep ⟨4, .data⟩ (by simp) rfl
      obtain ⟨g, e1, gB, hg⟩ := hbn.yields 4 d0 7 rfl
      have e2 : a.eval (.tmp 9) = .slice ab T.colors.length ad := hbn.yields 6 (hdep ⟨6, .data⟩ (by simp) rfl) 9 rfl
      exact wp_append_fresh elI _ _ rfl g W.heap.size hg gB ab T.colors.length ad _ e1 e2 (HSB.out.later hX) (by omega) (by omega) (fun v' w' r b ho => ⟨_, rfl, b, r, fun j hj _ t ht => dt_of (k := 4) (g := g) (u0 := a.eval (.tmp 7)) (hbn.yields j hj t ht) ho.out (by rw [e1]; rfl) rfl (fun hne => hbn.pairs 4 j d0 hj (fun e => hne e.symm) 7 t rfl ht)⟩)
    | 8, _, ho =>
      obtain rfl := Option.some.inj ho
      have d3 := hdep ⟨3, .data⟩ (by simp) rfl
      have d7 := hdep ⟨7, .data⟩ (by simp) rfl
      have q1 : X.ownsRow W.heap.size 3 1 (a.eval (.tmp 6)) T.counts.length (T.counts.map intV) := hbn.yields 3 d3 6 rfl
      have q2 : X.ownsRow W.heap.size 3 1 (a.eval (.tmp 10)) T.colors.length (T.colors.map intV) := hbn.yields 7 d7 10 rfl
      have q3 : Dif2 (a.eval (.tmp 6)) (a.eval (.tmp 10)) := hbn.pairs 3 7 d3 d7 (by decide) 6 10 rfl rfl (by decide) (by decide) (by decide)
      obtain ⟨x1, c1, e1, _⟩ := row_form q1
      obtain ⟨x2, c2, e2, _⟩ := row_form q2
      rw [e1] at q1 q3
      rw [e2] at q2 q3
      exact opBuild2 e1 e2 ⟨_, rfl, Below.refl _ _, ⟨x1, c1, x2, c2, rfl, q1, q2, q3⟩, fun j hj _ t ht => dt_no rfl⟩
  · intro o ho a X hX hA dn hbn hdn
    obtain rfl := Option.some.inj ho
    obtain ⟨x1, c1, x2, c2, e2, q1, q2, q3⟩ := hbn.yields 8 (hdn 8 (by omega)) 11 rfl
    have e1 : a.eval (.tmp 2) = .pointer (some ⟨w.heap.size + 1, 0, none⟩) := alike_at hA (t := 2) (by kernel_rfl)
    have hf : Two X (w.heap.size + 1) (.slice none 0 0) (.slice none 0 0) := HFR.out.later hX (by omega)
    refine opStoreT e1 e2 hf ?_
    obtain ⟨us, hus, rfl⟩ := alike_tmps hA [3, 4, 5, 6, 7, 8, 9, 10, 11] (by kernel_rfl)
    obtain ⟨k0, k1⟩ := setTwo_cell (.slice x1 T.counts.length c1) (.slice x2 T.colors.length c2) hf
    have HT : Hid (TM (setTwo X (w.heap.size + 1) (.slice x1 T.counts.length c1) (.slice x2 T.colors.length c2)) w.heap.size ⟨x1, T.counts.length, c1, x2, T.colors.length, c2⟩ T) := by
      have ne : ∀ {n : Nat} {v : Value} {xs : List Value}, X.ownsRow W.heap.size 3 1 v n xs → (setTwo X (w.heap.size + 1) (.slice x1 T.counts.length c1) (.slice x2 T.colors.length c2)).ownsRow w.heap.size 3 1 v n xs := fun hr => row_mono (row_same hr (fun i hi => setTwo_other _ _ _ _ i (by have := (World.ownsRow.lt hr i hi).1; omega))) (by omega)
      exact ⟨ne q1, ne q2, q3⟩
    have HB : Hid (Below w.heap.size w (setTwo X (w.heap.size + 1) (.slice x1 T.counts.length c1) (.slice x2 T.colors.length c2))) := by
      unfold setTwo
      exact ((HBW.out.trans (hX.mono HBW.out.size)).setCell (by simp) _).setCell (by simp) _
    clear hbn hdn hA hus e1 e2 hf q1 q2 q3 ho
    generalize setTwo X (w.heap.size + 1) (.slice x1 T.counts.length c1) (.slice x2 T.colors.length c2) = Y at *
    simp only [List.mapIdx_cons, List.mapIdx_nil, Nat.reduceAdd, List.contains_cons, List.contains_nil, Nat.reduceBEq, Bool.or_false, Bool.or_true, if_true, if_false, Bool.false_eq_true]
    go_wp2
    refine bodyPost_ret (v := .agg #[.slice x1 T.counts.length c1, .slice x2 T.colors.length c2]) (by simp [results, Try.results57, go_sem, *]) rfl ⟨⟨x1, T.counts.length, c1, x2, T.colors.length, c2⟩, rfl, HT.out, HB.out⟩

end Go.Proofs.Ytjhceoejblmihaa
