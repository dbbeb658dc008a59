/- What spec.GraphNew and impl.GraphNew make. -/
import Derived.Test.YtjihbmkhifnblaaNewWalks
import Derived.Test.YtjihbmkhifnblaaIGraphOf
namespace Go.Proofs.Ytjihbmkhifnblaa
open Go.RowKit
set_option linter.unusedVariables false
set_option maxRecDepth 100000

def emptyN : NodeD := ⟨false, 0, 0, 0, 0, [-1, -1, -1]⟩
def newG : GrD := ⟨List.replicate 8 emptyN, List.replicate 8 ⟨false, 0⟩, []⟩
theorem gr_new : grOf newD = newG := by simp [grOf, newD, newG, ndOf, emptyD, emptyN]
theorem cells_node0 : (Value.agg #[.bool false, .int .i64 0, .int .i64 0, .int .i64 0, .int .i64 0, .slice none 0 0]).cells = #[.bool false, .int .i64 0, .int .i64 0, .int .i64 0, .int .i64 0, .slice none 0 0] := by simp [Value.cells]
def zeroN : Array Value := madeCells #[.bool false, .int .i64 0, .int .i64 0, .int .i64 0, .int .i64 0, .slice none 0 0] 48
theorem make_nodes8 (u : World) : (Instr.makeSlice 22 (.int .i64 8) (.int .i64 8)).run Try.prog u = .ok (.slice (some ⟨u.heap.size, 0, none⟩) 8 8) (u.alloc (.cells zeroN 54)) := by
  obtain ⟨i0, hi, hz0, hz1, hz2⟩ := info_parts infoN
  have h := run_make (P := Try.prog) u 22 54 i0 _ Try.underlying22 hi hz0 .i64 .i64 8 8 (by omega) (by omega) (by rw [hz2]; omega) (by omega)
  rw [hz1, cells_node0, show (Int.toNat 8) * 6 = 48 from rfl] at h
  exact h
theorem nodes8_at {X : World} {G : Nat} (h : ∀ k, X.cell? ⟨G, k, none⟩ = zeroN[k]?) (j : Nat) (hj : j < 8) : NodeAt X G (j * 6) (emptyN) (.slice none 0 0) := by
  constructor <;> rw [h]
  · exact made_at _ _ _ 0 (by omega) (by show _ % 6 = _; omega)
  · exact made_at _ _ _ 1 (by omega) (by show _ % 6 = _; omega)
  · exact made_at _ _ _ 2 (by omega) (by show _ % 6 = _; omega)
  · exact made_at _ _ _ 3 (by omega) (by show _ % 6 = _; omega)
  · exact made_at _ _ _ 4 (by omega) (by show _ % 6 = _; omega)
  · exact made_at _ _ _ 5 (by omega) (by show _ % 6 = _; omega)

/-- As the specification fills it: the first j objects have their rows of fields. -/
structure SIg (X : World) (go B j : Nat) : Prop where
  done : ∀ i, i < j → ∃ f, NodeAt X go (i * 6) (emptyN) f ∧ ownI X B f [-1, -1, -1]
  rest : ∀ i, j ≤ i → i < 8 → NodeAt X go (i * 6) (emptyN) (.slice none 0 0)
theorem sig_later {X Y : World} {go B j : Nat} (h : SIg X go B j) (hb : Below X.heap.size X Y) (hg : go < X.heap.size) : SIg Y go B j :=
  ⟨fun i hi => by obtain ⟨f, h1, h2⟩ := h.done i hi; exact ⟨f, h1.keep (fun k => hb.cell (p := ⟨go, k, none⟩) hg), ownI_later h2 hb⟩,
   fun i hi h8 => (h.rest i hi h8).keep (fun k => hb.cell (p := ⟨go, k, none⟩) hg)⟩
theorem sig_far {X : World} {go B j : Nat} (p : Addr) (u : Value) (h : SIg X go B j) (hp : p.block < go) (hB : p.block < B) : SIg (X.setCell p u) go B j :=
  ⟨fun i hi => by obtain ⟨f, h1, h2⟩ := h.done i hi; exact ⟨f, h1.keep (fun k => keep_far p u (by omega) k), ownI_far p u h2 hB⟩,
   fun i hi h8 => (h.rest i hi h8).keep (fun k => keep_far p u (by omega) k)⟩
theorem sig_set {X : World} {go B j : Nat} {f : Value} (h : SIg X go B j) (hj : j < 8) (ho : ownI X B f [-1, -1, -1]) (hg : go < B) : SIg (X.setCell ⟨go, j * 6 + 5, none⟩ f) go B (j + 1) := by
  have one : ∀ i u, i ≠ j → NodeAt X go (i * 6) (emptyN) u → NodeAt (X.setCell ⟨go, j * 6 + 5, none⟩ f) go (i * 6) (emptyN) u := by
    intro i u hi h1
    refine ⟨?_, ?_, ?_, ?_, ?_, ?_⟩ <;> rw [cell_far _ _ _ _ _ (by omega)]
    · exact h1.c0
    · exact h1.c1
    · exact h1.c2
    · exact h1.c3
    · exact h1.c4
    · exact h1.c5
  refine ⟨fun i hi => ?_, fun i hi h8 => one i _ (by omega) (h.rest i (by omega) h8)⟩
  by_cases e : i = j
  · subst e
    have h1 := h.rest i (Nat.le_refl _) hj
    refine ⟨f, ⟨?_, ?_, ?_, ?_, ?_, ?_⟩, ownI_far _ _ ho hg⟩
    · rw [cell_far _ _ _ _ _ (by omega)]; exact h1.c0
    · rw [cell_far _ _ _ _ _ (by omega)]; exact h1.c1
    · rw [cell_far _ _ _ _ _ (by omega)]; exact h1.c2
    · rw [cell_far _ _ _ _ _ (by omega)]; exact h1.c3
    · rw [cell_far _ _ _ _ _ (by omega)]; exact h1.c4
    · exact World.cell?_setCell_same X _ _ h1.c5
  · obtain ⟨u, h1, h2⟩ := h.done i (by omega)
    exact ⟨u, one i u e h1, ownI_far _ _ h2 hg⟩
theorem sig_rd {X : World} {go gw B : Nat} (h : SIg X go B 8) (hw : LaidW X gw (List.replicate 8 ⟨false, 0⟩) 8) (h6 : go < X.heap.size) (h7 : gw < X.heap.size) : RdG X (.agg #[.slice (some ⟨go, 0, none⟩) 8 8, .slice (some ⟨gw, 0, none⟩) 8 8, .slice none 0 0]) newG := by
  refine ⟨_, _, _, _, _, _, by simp [newG]; exact ⟨⟨rfl, rfl⟩, ⟨rfl, rfl⟩, rfl, rfl⟩, ?_, ?_, fun j hj => by simp [newG] at hj⟩
  · intro j hj
    have hj8 : j < 8 := by simpa [newG] using hj
    obtain ⟨f, e1, e2⟩ := h.done j hj8
    obtain ⟨a, cap, rfl, e5⟩ := rdI_own' e2
    have e : newG.nodes[j]'hj = emptyN := List.getElem_replicate ..
    rw [e]
    exact ⟨go, 0, a, cap, rfl, h6, by rw [Nat.zero_add]; exact e1, e5⟩
  · intro j hj
    have hj8 : j < 8 := by simpa [newG] using hj
    exact ⟨gw, 0, rfl, h7, by rw [Nat.zero_add]; exact (hw j (by simpa using hj8) hj8).1⟩

structure NewInG (w X : World) (go gw gb : Nat) : Prop where
  r : (∀ k, X.cell? ⟨w.heap.size, k, none⟩ = (#[Value.slice none 0 0, .slice none 0 0, .slice none 0 0] : Array Value)[k]?) ∧ ∀ k, X.frozen? ⟨w.heap.size, k, none⟩ = false
  o : (∀ k, X.cell? ⟨go, k, none⟩ = zeroN[k]?) ∧ ∀ k, X.frozen? ⟨go, k, none⟩ = false
  wk : (∀ k, X.cell? ⟨gw, k, none⟩ = zeroW[k]?) ∧ ∀ k, X.frozen? ⟨gw, k, none⟩ = false
  b : (∀ k, X.cell? ⟨gb, k, none⟩ = (#[Value.slice (some ⟨go, 0, none⟩) 8 8, .slice (some ⟨gw, 0, none⟩) 8 8, .slice none 0 0] : Array Value)[k]?) ∧ ∀ k, X.frozen? ⟨gb, k, none⟩ = false
  sz : w.heap.size < go ∧ w.heap.size < gw ∧ w.heap.size < gb ∧ go ≠ gw ∧ go ≠ gb ∧ gw ≠ gb ∧ go < X.heap.size ∧ gw < X.heap.size ∧ gb < X.heap.size
  bel : Below w.heap.size w X

set_option maxHeartbeats 4000000 in
theorem sGraphNew_calls (w : World) :
    Calls Try.prog 6 #[] w fun e w' => ∃ v, e = .returned v ∧ RdG w' v newG ∧ Below w.heap.size w w' := by
  have mo := make_nodes8
  have mw := make_weaks8
  go_enter Try.func6, Try.ntmps6
  go_wp2
  go_region
  all_goals clear mo mw
  all_goals
    first
    | (obtain ⟨X, hX⟩ : ∃ X, X = ((((w.alloc (.cells #[.slice none 0 0, .slice none 0 0, .slice none 0 0] 26)).alloc (.cells zeroN 54)).alloc (.cells zeroW 89)).alloc (.cells #[.slice (some ⟨w.heap.size + 1, 0, none⟩) 8 8, .slice (some ⟨w.heap.size + 1 + 1, 0, none⟩) 8 8, .slice none 0 0] 26)).drew := ⟨_, rfl⟩
       rw [← hX]
       obtain ⟨q0, q1, q2, q3, qs, qb⟩ := alloc4 w _ _ _ _ _ _ _ _ X hX
       have hN : NewInG w X (w.heap.size + 1) (w.heap.size + 1 + 1) (w.heap.size + 1 + 1 + 1) := ⟨q0, q1, q2, q3, ⟨by omega, by omega, by omega, by omega, by omega, by omega, by omega, by omega, by omega⟩, qb⟩
       clear q0 q1 q2 q3 qs qb hX
       generalize w.heap.size + 1 + 1 + 1 = gb at hN ⊢
       generalize w.heap.size + 1 + 1 = gw at hN ⊢
       generalize w.heap.size + 1 = go at hN ⊢)
    | (obtain ⟨X, hX⟩ : ∃ X, X = ((((w.alloc (.cells #[.slice none 0 0, .slice none 0 0, .slice none 0 0] 26)).alloc (.cells zeroN 54)).alloc (.cells #[.slice (some ⟨w.heap.size + 1, 0, none⟩) 8 8, .slice (some ⟨w.heap.size + 1 + 1 + 1, 0, none⟩) 8 8, .slice none 0 0] 26)).alloc (.cells zeroW 89)).drew := ⟨_, rfl⟩
       rw [← hX]
       obtain ⟨q0, q1, q2, q3, qs, qb⟩ := alloc4 w _ _ _ _ _ _ _ _ X hX
       have hN : NewInG w X (w.heap.size + 1) (w.heap.size + 1 + 1 + 1) (w.heap.size + 1 + 1) := ⟨q0, q1, q3, q2, ⟨by omega, by omega, by omega, by omega, by omega, by omega, by omega, by omega, by omega⟩, qb⟩
       clear q0 q1 q2 q3 qs qb hX
       generalize w.heap.size + 1 + 1 + 1 = gw at hN ⊢
       generalize w.heap.size + 1 + 1 = gb at hN ⊢
       generalize w.heap.size + 1 = go at hN ⊢)
    | (obtain ⟨X, hX⟩ : ∃ X, X = ((((w.alloc (.cells #[.slice none 0 0, .slice none 0 0, .slice none 0 0] 26)).alloc (.cells zeroW 89)).alloc (.cells zeroN 54)).alloc (.cells #[.slice (some ⟨w.heap.size + 1 + 1, 0, none⟩) 8 8, .slice (some ⟨w.heap.size + 1, 0, none⟩) 8 8, .slice none 0 0] 26)).drew := ⟨_, rfl⟩
       rw [← hX]
       obtain ⟨q0, q1, q2, q3, qs, qb⟩ := alloc4 w _ _ _ _ _ _ _ _ X hX
       have hN : NewInG w X (w.heap.size + 1 + 1) (w.heap.size + 1) (w.heap.size + 1 + 1 + 1) := ⟨q0, q2, q1, q3, ⟨by omega, by omega, by omega, by omega, by omega, by omega, by omega, by omega, by omega⟩, qb⟩
       clear q0 q1 q2 q3 qs qb hX
       generalize w.heap.size + 1 + 1 + 1 = gb at hN ⊢
       generalize w.heap.size + 1 + 1 = go at hN ⊢
       generalize w.heap.size + 1 = gw at hN ⊢)
    | (obtain ⟨X, hX⟩ : ∃ X, X = ((((w.alloc (.cells #[.slice none 0 0, .slice none 0 0, .slice none 0 0] 26)).alloc (.cells #[.slice (some ⟨w.heap.size + 1 + 1, 0, none⟩) 8 8, .slice (some ⟨w.heap.size + 1 + 1 + 1, 0, none⟩) 8 8, .slice none 0 0] 26)).alloc (.cells zeroN 54)).alloc (.cells zeroW 89)).drew := ⟨_, rfl⟩
       rw [← hX]
       obtain ⟨q0, q1, q2, q3, qs, qb⟩ := alloc4 w _ _ _ _ _ _ _ _ X hX
       have hN : NewInG w X (w.heap.size + 1 + 1) (w.heap.size + 1 + 1 + 1) (w.heap.size + 1) := ⟨q0, q2, q3, q1, ⟨by omega, by omega, by omega, by omega, by omega, by omega, by omega, by omega, by omega⟩, qb⟩
       clear q0 q1 q2 q3 qs qb hX
       generalize w.heap.size + 1 + 1 + 1 = gw at hN ⊢
       generalize w.heap.size + 1 + 1 = go at hN ⊢
       generalize w.heap.size + 1 = gb at hN ⊢)
    | (obtain ⟨X, hX⟩ : ∃ X, X = ((((w.alloc (.cells #[.slice none 0 0, .slice none 0 0, .slice none 0 0] 26)).alloc (.cells zeroW 89)).alloc (.cells #[.slice (some ⟨w.heap.size + 1 + 1 + 1, 0, none⟩) 8 8, .slice (some ⟨w.heap.size + 1, 0, none⟩) 8 8, .slice none 0 0] 26)).alloc (.cells zeroN 54)).drew := ⟨_, rfl⟩
       rw [← hX]
       obtain ⟨q0, q1, q2, q3, qs, qb⟩ := alloc4 w _ _ _ _ _ _ _ _ X hX
       have hN : NewInG w X (w.heap.size + 1 + 1 + 1) (w.heap.size + 1) (w.heap.size + 1 + 1) := ⟨q0, q3, q1, q2, ⟨by omega, by omega, by omega, by omega, by omega, by omega, by omega, by omega, by omega⟩, qb⟩
       clear q0 q1 q2 q3 qs qb hX
       generalize w.heap.size + 1 + 1 + 1 = go at hN ⊢
       generalize w.heap.size + 1 + 1 = gb at hN ⊢
       generalize w.heap.size + 1 = gw at hN ⊢)
    | (obtain ⟨X, hX⟩ : ∃ X, X = ((((w.alloc (.cells #[.slice none 0 0, .slice none 0 0, .slice none 0 0] 26)).alloc (.cells #[.slice (some ⟨w.heap.size + 1 + 1 + 1, 0, none⟩) 8 8, .slice (some ⟨w.heap.size + 1 + 1, 0, none⟩) 8 8, .slice none 0 0] 26)).alloc (.cells zeroW 89)).alloc (.cells zeroN 54)).drew := ⟨_, rfl⟩
       rw [← hX]
       obtain ⟨q0, q1, q2, q3, qs, qb⟩ := alloc4 w _ _ _ _ _ _ _ _ X hX
       have hN : NewInG w X (w.heap.size + 1 + 1 + 1) (w.heap.size + 1 + 1) (w.heap.size + 1) := ⟨q0, q3, q2, q1, ⟨by omega, by omega, by omega, by omega, by omega, by omega, by omega, by omega, by omega⟩, qb⟩
       clear q0 q1 q2 q3 qs qb hX
       generalize w.heap.size + 1 + 1 + 1 = go at hN ⊢
       generalize w.heap.size + 1 + 1 = gw at hN ⊢
       generalize w.heap.size + 1 = gb at hN ⊢)
  all_goals
    have HN : Hid (NewInG w X go gw gb) := hN
    obtain ⟨z1, z2, z3, z4, z5, z6, z7, z8, z9⟩ := hN.sz
    have H0 : Hid (SIg X go X.heap.size 0) := ⟨fun i hi => by omega, fun i _ hi => nodes8_at HN.out.o.1 i hi⟩
    clear hN
    go_wp2
    go_loopw [2] (fun i wr => ∃ (j : Nat), j ≤ 8 ∧ i = .int .i64 j ∧ Hid (SIg wr go X.heap.size j) ∧ X.heap.size ≤ wr.heap.size ∧ Hid (∀ g, g < X.heap.size → (∀ k, wr.frozen? ⟨g, k, none⟩ = X.frozen? ⟨g, k, none⟩) ∧ (g ≠ go → ∀ k, wr.cell? ⟨g, k, none⟩ = X.cell? ⟨g, k, none⟩)) ∧ Hid (Below w.heap.size w wr)) (fun i _ => 8 - (intOf i).toNat)
    case atStart => exact ⟨0, by omega, rfl, H0, Nat.le_refl _, fun _ _ => ⟨fun _ => rfl, fun _ _ => rfl⟩, HN.out.bel⟩
    case round =>
      obtain ⟨j, hj, rfl, HI, hsz, HO, HBl⟩ := hrel
      have HbX : Hid (∀ Y, Below wr.heap.size wr Y → Y.cell? ⟨gb, 0, none⟩ = some (.slice (some ⟨go, 0, none⟩) 8 8)) := fun Y hY => (hY.cell (p := ⟨gb, 0, none⟩) (by show gb < _; omega)).trans (((HO.out gb z9).2 (fun e => z5 e.symm) 0).trans (HN.out.b.1 0))
      have hb0 := HbX.out _ (Below.refl _ _)
      by_cases hlt : j < 8
      · have D1 : Below wr.heap.size wr wr.drew := (Below.refl _ _).drew
        have HC6 : Hid (∀ Y, Below wr.heap.size wr Y → Y.cell? ⟨go, j * 6 + 5, none⟩ = some (.slice none 0 0) ∧ Y.frozen? ⟨go, j * 6 + 5, none⟩ = false) := fun Y hY =>
          ⟨(hY.cell (p := ⟨go, j * 6 + 5, none⟩) (by show go < _; omega)).trans (HI.out.rest j (Nat.le_refl _) hlt).c5, (hY.frozen (p := ⟨go, j * 6 + 5, none⟩) (by show go < _; omega)).trans (((HO.out go z7).1 _).trans (HN.out.o.2 _))⟩
        obtain ⟨k6, k7⟩ := HC6.out _ (Below.refl _ _)
        go_wp2
        go_region_with (go_at_call 21; refine (sNone_calls _).mono ?_; rintro e w2 ⟨fa, fc, rfl, O2, b2⟩; (have B2 := D1.trans (b2.mono D1.size)); (have hb2 := HbX.out _ B2); (obtain ⟨m6, m7⟩ := HC6.out _ B2))
        all_goals
          have hs2 := B2.size
          have S1 : Hid (SIg (w2.setCell ⟨go, j * 6 + 5, none⟩ (.slice fa 3 fc)) go X.heap.size (j + 1)) := sig_set (sig_later HI.out B2 (by omega)) hlt (ownI_mono O2 hsz) z7
          have S2 : Hid (∀ g, g < X.heap.size → (∀ k, (w2.setCell ⟨go, j * 6 + 5, none⟩ (.slice fa 3 fc)).frozen? ⟨g, k, none⟩ = X.frozen? ⟨g, k, none⟩) ∧ (g ≠ go → ∀ k, (w2.setCell ⟨go, j * 6 + 5, none⟩ (.slice fa 3 fc)).cell? ⟨g, k, none⟩ = X.cell? ⟨g, k, none⟩)) := fun g hg =>
            ⟨fun k => by rw [World.frozen?_setCell, B2.frozen (p := ⟨g, k, none⟩) (by show g < _; omega)]; exact (HO.out g hg).1 k,
             fun hgo k => by rw [keep_far _ _ (by exact fun e => hgo e.symm), B2.cell (p := ⟨g, k, none⟩) (by show g < _; omega)]; exact (HO.out g hg).2 hgo k⟩
          have S3 : Hid (Below w.heap.size w (w2.setCell ⟨go, j * 6 + 5, none⟩ (.slice fa 3 fc))) := (HBl.out.trans (B2.mono HBl.out.size)).setCell (by simp only; omega) _
          go_wp2
          go_roundw
          case rel => exact ⟨j + 1, by omega, by go_num, S1, by simp [World.setCell]; omega, S2, S3⟩
          case measure => simp [intOf]; omega
      · obtain rfl : j = 8 := by omega
        have b1 := ((HO.out gb z9).2 (fun e => z5 e.symm) 1).trans (HN.out.b.1 1)
        have b2 := ((HO.out gb z9).2 (fun e => z5 e.symm) 2).trans (HN.out.b.1 2)
        have r0 := ((HO.out w.heap.size (by omega)).2 (by omega) 0).trans (HN.out.r.1 0)
        have r1 := ((HO.out w.heap.size (by omega)).2 (by omega) 1).trans (HN.out.r.1 1)
        have r2 := ((HO.out w.heap.size (by omega)).2 (by omega) 2).trans (HN.out.r.1 2)
        have g0 := ((HO.out w.heap.size (by omega)).1 0).trans (HN.out.r.2 0)
        have g1 := ((HO.out w.heap.size (by omega)).1 1).trans (HN.out.r.2 1)
        have g2 := ((HO.out w.heap.size (by omega)).1 2).trans (HN.out.r.2 2)
        simp only [List.getElem?_toArray, List.getElem?_cons_zero, List.getElem?_cons_succ] at b1 b2 r0 r1 r2
        have HLW : Hid (LaidW wr gw (List.replicate 8 ⟨false, 0⟩) 8) := weaks8_at (fun k => ((HO.out gw z8).2 (by omega) k).trans (HN.out.wk.1 k)) (fun k => ((HO.out gw z8).1 k).trans (HN.out.wk.2 k))
        clear HO HN
        go_wp2
        refine bodyPost_ret (v := .agg #[.slice (some ⟨go, 0, none⟩) 8 8, .slice (some ⟨gw, 0, none⟩) 8 8, .slice none 0 0]) (by simp [results, Try.results6, go_sem, *]) rfl ⟨_, rfl, ?_, ?_⟩
        · refine sig_rd (gw := gw) (B := X.heap.size) ?_ ?_ (by simp [World.setCell]; omega) (by simp [World.setCell]; omega)
          · iterate 3 refine sig_far _ _ ?_ z1 (by simp only; omega)
            exact HI.out
          · iterate 3 refine laidW_far _ _ ?_ z2
            exact HLW.out
        · iterate 3 refine Below.setCell ?_ (by simp only; omega) _
          exact HBl.out


theorem iGraphNew_calls (w : World) :
    Calls Try.prog 7 #[] w fun e w' => ∃ s : GSh, e = .returned s.v ∧ MemG w' (w.heap.size + 1) s newG ∧ Below w.heap.size w w' := by
  obtain ⟨W, hW⟩ : ∃ W, W = w.alloc (.cells #[.slice none 0 0, .slice none 0 0, .slice none 0 0] 26) := ⟨_, rfl⟩
  have BW : Below w.heap.size w W := by rw [hW]; exact (Below.refl _ _).alloc (Nat.le_refl _) _
  have hWs : W.heap.size = w.heap.size + 1 := by rw [hW]; simp
  have FR : Tri W w.heap.size (.slice none 0 0) (.slice none 0 0) (.slice none 0 0) := by rw [hW]; exact Tri.new _ _ _ _
  have HFR : Hid (Tri W w.heap.size (.slice none 0 0) (.slice none 0 0) (.slice none 0 0)) := FR
  have CH : Hid (∀ _ : Unit, _) := fun (_ : Unit) => iHeapNew_calls W
  have CG : Hid (∀ X u, RdH X u newD → _) := fun X u h => iGraphOf_calls u newD X h ⟨by simp [newD], fun z hz => by simp [newD] at hz; subst hz; simp [emptyD], by simp [newD], by simp [newD], by simp [newD], fun z hz => by simp [newD] at hz⟩
  rw [gr_new] at CG
  generalize newD = D at *
  generalize newG = G at *
  have HBW : Hid (Below w.heap.size w W) := BW
  have HWS : Hid (W.heap.size = w.heap.size + 1) := hWs
  clear FR hWs
  go_enter Try.func7, Try.ntmps7
  go_wp2_with fail
  rw [← hW]
  clear hW
  refine (CH.out ()).mono ?_
  rintro e w1 ⟨s1, rfl, M1, b1⟩
  go_wp2_with fail
  refine (CG.out _ _ M1.rd).mono ?_
  rintro e w2 ⟨s, rfl, M2, b2⟩
  have B2 : Below W.heap.size W w2 := b1.trans (b2.mono b1.size)
  have F2 := HFR.out.later B2
  have r0 := F2.cell 0
  have r1 := F2.cell 1
  have r2 := F2.cell 2
  have z0 := F2.frozen 0
  have z1 := F2.frozen 1
  have z2 := F2.frozen 2
  simp only [List.getElem?_toArray, List.getElem?_cons_zero, List.getElem?_cons_succ] at r0 r1 r2
  have hv : s.v = .agg #[.slice s.oa s.os.length s.oc, .slice s.wa s.wn s.wc, .slice s.sa s.sn s.sc] := rfl
  rw [hv]
  have HM : Hid (MemG w2 w1.heap.size s G) := M2
  have HB : Hid (Below w.heap.size w w2) := HBW.out.trans (B2.mono HBW.out.size)
  have hs1 : Hid (W.heap.size ≤ w1.heap.size) := b1.size
  clear M1 M2 b1 b2 B2 F2 CH CG
  go_wp2
  refine bodyPost_ret (v := .agg #[.slice s.oa s.os.length s.oc, .slice s.wa s.wn s.wc, .slice s.sa s.sn s.sc]) (by simp [results, Try.results7, go_sem, *]) rfl ⟨s, rfl, ?_, ?_⟩
  · have h1 := hs1.out
    have h2 := HWS.out
    refine memG_mono (memG_keepB HM.out ?_) (by omega)
    exact ((keepB_set _ _ ⟨w.heap.size, 0, none⟩ _ (by simp only; omega)).trans (keepB_set _ _ ⟨w.heap.size, 1, none⟩ _ (by simp only; omega))).trans (keepB_set _ _ ⟨w.heap.size, 2, none⟩ _ (by simp only; omega))
  · iterate 3 refine Below.setCell ?_ (by simp only; omega) _
    exact HB.out

end Go.Proofs.Ytjihbmkhifnblaa
