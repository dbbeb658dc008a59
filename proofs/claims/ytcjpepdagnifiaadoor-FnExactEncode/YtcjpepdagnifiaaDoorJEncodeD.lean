/- The program's copyPen: the same pen, in a row of its own. -/
import Derived.Test.YtcjpepdagnifiaaDoorJEncodeC
import Derived.Test.YtcjpepdagnifiaaDoorICopyMath
namespace Go.Proofs.YtcjpepdagnifiaaDoor
open Go.RowKit
set_option linter.unusedVariables false
set_option maxRecDepth 100000

/-- A pen in a block of its own. -/
def Two (X : World) (g : Nat) (x0 x1 : Value) : Prop := X.heap[g]? = some (.cells #[x0, x1] 31 (0, 0))
theorem Two.cells {X : World} {g : Nat} {x0 x1 : Value} (h : Two X g x0 x1) : X.cell? ⟨g, 0, none⟩ = some x0 ∧ X.cell? ⟨g, 1, none⟩ = some x1 :=
  ⟨by rw [Lib.cell_of_heap h]; rfl, by rw [Lib.cell_of_heap h]; rfl⟩
theorem Two.lt {X : World} {g : Nat} {x0 x1 : Value} (h : Two X g x0 x1) : g < X.heap.size := (Array.getElem?_eq_some_iff.1 h).1
theorem Two.later {X Y : World} {g : Nat} {x0 x1 : Value} (h : Two X g x0 x1) (k : Below X.heap.size X Y) : Two Y g x0 x1 := (k.block g h.lt).trans h
theorem Two.new (X : World) (x0 x1 : Value) : Two (X.alloc (.cells #[x0, x1] 31)) X.heap.size x0 x1 := heap_alloc_new X _
theorem Two.set {X : World} {g : Nat} {x0 x1 : Value} (h : Two X g x0 x1) (y0 y1 : Value) : Two ((X.setCell ⟨g, 0, none⟩ y0).setCell ⟨g, 1, none⟩ y1) g y0 y1 := by
  unfold Two at *
  simp [World.setCell, Array.getElem?_modify, h]

theorem own_kept {X Y : World} {B : Nat} {t : TypeId} {v : Value} {n : Nat} {xs : List Value} (h : X.ownsRow B t 1 v n xs) (k : Below X.heap.size X Y) : Y.ownsRow B t 1 v n xs :=
  row_same h (fun g hg => k.block g (h.lt g hg).2)
theorem opCallS1 {t i : Tmp} {ty : TypeId} {pos : String} {af : Array Edge} {ats : Array TypeId} {a : Act} {X : World} {K : Act → World → Prop} {Q : Exit → Act → World → Prop} {v : Value} {post : Ending → World → Prop} (h1 : a.eval (.tmp i) = v) (hC : Calls Tryd.prog 55 #[v] X post) (hK : ∀ e w', post e w' → ∃ x, e = .returned x ∧ K (a.put (some t) x) w') :
    Oper.wp Tryd.prog ⟨some t, .call { callee := .value (.func 55), args := #[.tmp i], argTypes := ats }, ty, pos, af, none⟩ a X K Q := by
  have h := ev_tmp h1
  go_simp
  refine hC.mono (fun e w' hp => ?_)
  obtain ⟨x, rfl, hx⟩ := hK e w' hp
  exact hx
theorem opFieldPen {t i : Tmp} {ty : TypeId} {pos : String} {af : Array Edge} {a : Act} {X : World} {K : Act → World → Prop} {Q : Exit → Act → World → Prop} {g : Nat} (k : Nat) (hk : k < 2) (h1 : a.eval (.tmp i) = .pointer (some ⟨g, 0, none⟩)) (hK : K (a.put (some t) (.pointer (some ⟨g, k, none⟩))) X) :
    Oper.wp Tryd.prog ⟨some t, .fieldAddr 31 (.tmp i) k, ty, pos, af, none⟩ a X K Q := by
  have h := ev_tmp h1
  match k, hk with
  | 0, _ => go_simp; exact hK
  | 1, _ => go_simp; exact hK
theorem opBuildPen {t i j : Tmp} {ty : TypeId} {pos : String} {af : Array Edge} {a : Act} {X : World} {K : Act → World → Prop} {Q : Exit → Act → World → Prop} {z : Int} {x : Option Addr} {n c : Nat} (h1 : a.eval (.tmp i) = .int .i64 z) (h2 : a.eval (.tmp j) = .slice x n c) (hK : K (a.put (some t) (.agg #[.int .i64 z, .slice x n c])) X) :
    Oper.wp Tryd.prog ⟨some t, .build 31 #[(0, .tmp i), (1, .tmp j)], ty, pos, af, none⟩ a X K Q := by
  have e1 := ev_tmp h1
  have e2 := ev_tmp h2
  go_simp; exact hK
theorem opAllocPen {t : Tmp} {ty : TypeId} {pos : String} {af : Array Edge} {a : Act} {X : World} {K : Act → World → Prop} {Q : Exit → Act → World → Prop} (hK : K (a.put (some t) (.pointer (some ⟨X.heap.size, 0, none⟩))) (X.alloc (.cells #[.int .i64 0, .slice none 0 0] 31))) :
    Oper.wp Tryd.prog ⟨some t, .alloc 31, ty, pos, af, none⟩ a X K Q := by
  go_simp; exact hK
theorem opStorePen {i j : Tmp} {ty : TypeId} {pos : String} {af : Array Edge} {a : Act} {X : World} {K : Act → World → Prop} {Q : Exit → Act → World → Prop} {g : Nat} {y0 y1 : Value} {z : Int} {x : Option Addr} {n c : Nat} (h1 : a.eval (.tmp i) = .pointer (some ⟨g, 0, none⟩)) (h2 : a.eval (.tmp j) = .agg #[.int .i64 z, .slice x n c]) (hf : Two X g y0 y1) (hK : K a ((X.setCell ⟨g, 0, none⟩ (.int .i64 z)).setCell ⟨g, 1, none⟩ (.slice x n c))) :
    Oper.wp Tryd.prog ⟨none, .store 31 (.tmp i) (.tmp j), ty, pos, af, none⟩ a X K Q := by
  have e1 := ev_tmp h1
  have e2 := ev_tmp h2
  obtain ⟨c0, c1⟩ := hf.cells
  have f0 : X.frozen? ⟨g, 0, none⟩ = false := Lib.frozen_of_heap hf 0
  have f1 : X.frozen? ⟨g, 1, none⟩ = false := Lib.frozen_of_heap hf 1
  go_simp; exact hK

set_option maxHeartbeats 2000000 in
theorem copyPen_calls (v : Value) (P : PenD) (w : World) (h : RdP w v P) (hs : SmallP P) :
    Calls Tryd.prog 30 #[v] w fun e w' => ∃ x c, e = .returned (.agg #[.int .i64 P.last, .slice x P.sites.length c]) ∧ ownS w' w.heap.size (.slice x P.sites.length c) P.sites ∧ Below w.heap.size w w' := by
  obtain ⟨sa, sc, rfl, rs⟩ := h
  obtain ⟨last, ss⟩ := P
  simp only at rs ⊢
  have hn0 : ss.length ≤ 1048576 := hs.sites
  have HNM : Hid (∀ z ∈ ss, z.length ≤ 1048576) := hs.names
  obtain ⟨n, hn⟩ : ∃ n, ss.length = n := ⟨_, rfl⟩
  have Hn : Hid (ss.length = n) := hn
  rw [hn] at hn0 ⊢
  obtain ⟨W, hW⟩ : ∃ W, W = (w.alloc (.cells #[.int .i64 last, .slice sa n sc] 31)).alloc (.cells #[.int .i64 0, .slice none 0 0] 31) := ⟨_, rfl⟩
  have hWs : W.heap.size = w.heap.size + 2 := by rw [hW]; simp
  have BW : Below w.heap.size w W := by rw [hW]; exact ((Below.refl _ _).alloc (Nat.le_refl _) _).alloc (by simp) _
  have HFP : Hid (Two W w.heap.size (.int .i64 last) (.slice sa n sc)) := by
    rw [hW]
    exact (Two.new w _ _).later ((Below.refl _ _).alloc (Nat.le_refl _) _)
  have HFR : Hid (Two W (w.heap.size + 1) (.int .i64 0) (.slice none 0 0)) := by
    rw [hW]
    have f1 := Two.new (w.alloc (.cells #[.int .i64 last, .slice sa n sc] 31)) (.int .i64 0) (.slice none 0 0)
    have e : (w.alloc (.cells #[.int .i64 last, .slice sa n sc] 31)).heap.size = w.heap.size + 1 := by simp
    rw [e] at f1
    exact f1
  have HSS : Hid (SrcC W sa n 1 (ss.map strV)) := by rw [← hn]; exact (srcS rs).later BW
  have HBW : Hid (Below w.heap.size w W) := BW
  have HWs : Hid (W.heap.size = w.heap.size + 2) := hWs
  clear rs BW hs hn
  go_enter Tryd.func30, Tryd.ntmps30
  go_wp2
  rw [← hW]
  clear hW
  refine wp_region_last 7 (by kernel_rfl) (by kernel_rfl) (fun i X v => match i with
    | 0 => v = .pointer (some ⟨w.heap.size, 0, none⟩)
    | 1 => v = .int .i64 last
    | 2 => v = .pointer (some ⟨w.heap.size, 1, none⟩)
    | 3 => v = .slice sa n sc
    | 4 => X.ownsRow W.heap.size 9 1 v n (ss.map strV)
    | 5 => ∃ x c, v = .agg #[.int .i64 last, .slice x n c] ∧ X.ownsRow W.heap.size 9 1 (.slice x n c) n (ss.map strV)
    | _ => ∃ g, v = .pointer (some ⟨g, 0, none⟩) ∧ W.heap.size ≤ g ∧ Two X g (.int .i64 0) (.slice none 0 0)) (by
      intro i X Y v h hb
      match i with
      | 0 => exact h
      | 1 => exact h
      | 2 => exact h
      | 3 => exact h
      | 4 => exact own_kept h hb
      | 5 => exact h.imp fun x hx => hx.imp fun c hc => ⟨hc.1, own_kept hc.2 hb⟩
      | _ + 6 => exact h.imp fun g hg => ⟨hg.1, hg.2.1, hg.2.2.later hb⟩) ?_ ?_
  · intro i o hi ho a X hX hA hdep
    have FX := (HFP.out.later hX).cells
    have hXs := hX.size
    match i, hi, ho with
    | 0, _, ho =>
      obtain rfl := Option.some.inj ho
      exact opFieldPen 0 (by omega) (alike_at hA (t := 1) (by kernel_rfl)) ⟨_, rfl, Below.refl _ _, rfl⟩
    | 1, _, ho =>
      obtain rfl := Option.some.inj ho
      have e1 : a.eval (.tmp 5) = .pointer (some ⟨w.heap.size, 0, none⟩) := hdep ⟨0, .data⟩ (by simp) rfl 5 rfl
      exact opLoadInt e1 FX.1 ⟨_, rfl, Below.refl _ _, rfl⟩
    | 2, _, ho =>
      obtain rfl := Option.some.inj ho
      exact opFieldPen 1 (by omega) (alike_at hA (t := 1) (by kernel_rfl)) ⟨_, rfl, Below.refl _ _, rfl⟩
    | 3, _, ho =>
      obtain rfl := Option.some.inj ho
      have e1 : a.eval (.tmp 7) = .pointer (some ⟨w.heap.size, 1, none⟩) := hdep ⟨2, .data⟩ (by simp) rfl 7 rfl
      exact opLoadS e1 FX.2 ⟨_, rfl, Below.refl _ _, rfl⟩
    | 4, _, ho =>
      obtain rfl := Option.some.inj ho
      have e1 : a.eval (.tmp 8) = .slice sa n sc := hdep ⟨3, .data⟩ (by simp) rfl 8 rfl
      exact opCallS1 e1 (cloneS_calls X sa n sc _ (HSS.out.later hX) (by omega)) (fun e w' ⟨x, h1, h2, h3⟩ => ⟨x, h1, _, rfl, h3, row_mono h2 hXs⟩)
    | 5, _, ho =>
      obtain rfl := Option.some.inj ho
      have e0 : a.eval (.tmp 6) = .int .i64 last := hdep ⟨1, .data⟩ (by simp) rfl 6 rfl
      have r3 : X.ownsRow W.heap.size 9 1 (a.eval (.tmp 9)) n (ss.map strV) := hdep ⟨4, .data⟩ (by simp) rfl 9 rfl
      obtain ⟨x3, c3, e3, _⟩ := row_form r3
      rw [e3] at r3
      exact opBuildPen e0 e3 ⟨_, rfl, Below.refl _ _, x3, c3, rfl, r3⟩
    | 6, _, ho =>
      obtain rfl := Option.some.inj ho
      exact opAllocPen ⟨_, rfl, (Below.refl _ _).alloc (Nat.le_refl _) _, X.heap.size, rfl, hXs, Two.new X _ _⟩
  · intro o ho a X hX hA hdep
    obtain rfl := Option.some.inj ho
    obtain ⟨g, e1, gB, hf⟩ := hdep ⟨6, .data⟩ (by simp) rfl 3 rfl
    obtain ⟨x3, c3, e2, r3⟩ := hdep ⟨5, .data⟩ (by simp) rfl 10 rfl
    refine opStorePen e1 e2 hf ?_
    obtain ⟨us, hus, rfl⟩ := alike_tmps hA [5, 6, 7, 8, 9, 10, 3] (by kernel_rfl)
    have e3 : us 3 = .pointer (some ⟨g, 0, none⟩) := (hus 3).symm.trans e1
    have hoth : ∀ i, i ≠ g → ((X.setCell ⟨g, 0, none⟩ (.int .i64 last)).setCell ⟨g, 1, none⟩ (.slice x3 n c3)).heap[i]? = X.heap[i]? := fun i hi => by
      rw [Below.heap_setCell _ _ _ _ (by exact hi), Below.heap_setCell _ _ _ _ (by exact hi)]
    have HX : Hid (Two ((X.setCell ⟨g, 0, none⟩ (.int .i64 last)).setCell ⟨g, 1, none⟩ (.slice x3 n c3)) g (.int .i64 last) (.slice x3 n c3)) := hf.set _ _
    have HO : Hid (ownS ((X.setCell ⟨g, 0, none⟩ (.int .i64 last)).setCell ⟨g, 1, none⟩ (.slice x3 n c3)) W.heap.size (.slice x3 n c3) ss) := by
      unfold Hid ownS
      rw [Hn.out]
      exact row_same r3 (fun i hi => by
        obtain ⟨cur, hc⟩ := row_kind r3 i hi
        exact hoth i (kind_ne hc hf (by decide)))
    have HB : Hid (Below W.heap.size W ((X.setCell ⟨g, 0, none⟩ (.int .i64 last)).setCell ⟨g, 1, none⟩ (.slice x3 n c3))) := (hX.setCell gB _).setCell gB _
    clear hdep hA hus e1 e2 hf r3 ho HSS HFP hoth
    generalize (X.setCell ⟨g, 0, none⟩ (.int .i64 last)).setCell ⟨g, 1, none⟩ (.slice x3 n c3) = Y at *
    simp only [List.mapIdx_cons, List.mapIdx_nil, Nat.reduceAdd, List.contains_cons, List.contains_nil, Nat.reduceBEq, Bool.or_false, Bool.or_true, if_true, if_false, Bool.false_eq_true, e3]
    clear e3 hX
    obtain ⟨y0, y1⟩ := HX.out.cells
    go_wp2
    clear y0 y1
    go_loopw [14] (fun i wr => ∃ j : Nat, i = .int .i64 (j : Int) ∧ j ≤ n ∧ Hid (ownS wr W.heap.size (.slice x3 n c3) ss) ∧ Hid (Two wr g (.int .i64 last) (.slice x3 n c3)) ∧ Hid (Below W.heap.size W wr)) (fun i _ => n - (intOf i).toNat)
    case atStart => exact ⟨0, rfl, Nat.zero_le _, HO, HX, HB⟩
    case round =>
      clear HO HX HB
      obtain ⟨j, rfl, hjs, HO, HX, HB⟩ := hrel
      have hbs := HB.out.size
      have hgl := HX.out.lt
      by_cases hlt : j < n
      · have hj2 : j < ss.length := by have := Hn.out; omega
        rcases ownS_form HO.out with ⟨-, e⟩ | ⟨gs, cap, e, -, hgs, -, -, hc⟩
        · have h0 := Hn.out; rw [e] at h0; simp at h0; omega
        simp only [Value.slice.injEq] at e
        obtain ⟨rfl, -, -⟩ := e
        obtain ⟨hcs, hfz⟩ := hc.out j hj2
        have hnm := HNM.out _ (List.getElem_mem hj2)
        have hgg : gs ≠ g := by
          obtain ⟨cur, hk⟩ := row_kind HO.out gs rfl
          exact kind_ne hk HX.out (by decide)
        have HN : Hid (∀ w1, Below wr.heap.size wr w1 → ownS (w1.setCell ⟨gs, j, none⟩ (.string (txt ss[j]))) W.heap.size (.slice (some ⟨gs, 0, none⟩) n c3) ss ∧ Two (w1.setCell ⟨gs, j, none⟩ (.string (txt ss[j]))) g (.int .i64 last) (.slice (some ⟨gs, 0, none⟩) n c3) ∧ Below W.heap.size W (w1.setCell ⟨gs, j, none⟩ (.string (txt ss[j])))) := fun w1 b1 => by
          refine ⟨?_, (Below.heap_setCell w1 ⟨gs, j, none⟩ _ g (fun e => hgg e.symm)).trans (HX.out.later b1), (HB.out.trans (b1.mono hbs)).setCell (by exact (ownS_lt HO.out gs rfl).1) _⟩
          have h2 := ownS_set (ownS_later HO.out b1) Hn.out.symm j ss[j]
          rwa [List.set_getElem_self] at h2
        have HC6 : Hid (∀ X, Below wr.heap.size wr X → X.cell? ⟨g, 1, none⟩ = some (.slice (some ⟨gs, 0, none⟩) n c3) ∧ X.cell? ⟨gs, j, none⟩ = some (.string (txt ss[j])) ∧ X.frozen? ⟨gs, j, none⟩ = false) := fun X hX =>
          ⟨(HX.out.later hX).cells.2, (hX.cell (p := ⟨gs, j, none⟩) hgs).trans hcs, (hX.frozen (p := ⟨gs, j, none⟩) hgs).trans hfz⟩
        have HCL : Hid (∀ X : World, _) := fun X => strClone_calls (txt ss[j]) X (by rw [txt_size]; omega)
        generalize txt ss[j] = tx at HCL HC6 HN
        clear hcs hfz HO HX HB hnm hc
        have D1 : Below wr.heap.size wr wr.drew := (Below.refl _ _).drew
        obtain ⟨k0, k1, k2⟩ := HC6.out _ (Below.refl _ _)
        have hi0 : (0 : Int) ≤ (j : Int) := by omega
        have hi1 : (j : Int) < (n : Int) := by omega
        go_wp2
        go_region_held (fun X => X.cell? ⟨g, 1, none⟩ = some (.slice (some ⟨gs, 0, none⟩) n c3) ∧ X.cell? ⟨gs, j, none⟩ = some (.string tx))
          (first | exact ⟨(HC6.out _ B1).1, (HC6.out _ B1).2.1⟩ | exact ⟨(HC6.out _ D1).1, (HC6.out _ D1).2.1⟩ | exact ⟨(keep_far _ _ (by exact hgg) 1).trans (HC6.out _ B1).1, World.cell?_setCell_same _ _ _ (HC6.out _ B1).2.1⟩)
          (first | (go_at_call 56; refine (HCL.out _).mono ?_; rintro e w1 ⟨rfl, b1⟩; (have B1 := D1.trans (b1.mono D1.size)); (obtain ⟨m0, m1, m2⟩ := HC6.out _ B1)))
        obtain ⟨n1, n2, n3⟩ := HN.out w1 B1
        have HN1 : Hid _ := n1
        have HN2 : Hid _ := n2
        have HN3 : Hid _ := n3
        clear HN HCL HC6 b1 m0 m1 m2 k0 k1 k2 n1 n2 n3
        go_wp2
        go_roundw
        case rel => exact ⟨j + 1, by go_num, by omega, HN1, HN2, HN3⟩
        case measure => simp [intOf]; omega
      · obtain ⟨q0, q1⟩ := HX.out.cells
        have RF2 : Two wr (w.heap.size + 1) (.int .i64 0) (.slice none 0 0) := (HB.out.block (w.heap.size + 1) (by have := HWs.out; omega)).trans HFR.out
        obtain ⟨r0, r1⟩ := RF2.cells
        have z0 : wr.frozen? ⟨w.heap.size + 1, 0, none⟩ = false := Lib.frozen_of_heap RF2 0
        have z1 : wr.frozen? ⟨w.heap.size + 1, 1, none⟩ = false := Lib.frozen_of_heap RF2 1
        have HBl : Hid (Below w.heap.size w wr) := HBW.out.trans (HB.out.mono HBW.out.size)
        have HO2 : Hid (ownS wr W.heap.size (.slice x3 n c3) ss) := HO
        clear HO HX HB RF2
        go_wp2
        refine bodyPost_ret (v := .agg #[.int .i64 last, .slice x3 n c3]) (by simp [results, Tryd.results30, go_sem, *]) rfl ⟨x3, c3, rfl, ?_, ?_⟩
        · refine ownS_mono (B := W.heap.size) ?_ (by have := HWs.out; omega)
          have hws := HWs.out
          refine ownS_far _ _ (ownS_far _ _ HO2.out ?_) ?_
          · simp only; omega
          · simp only; omega
        · iterate 2 refine Below.setCell ?_ (by simp only; omega) _
          exact HBl.out

end Go.Proofs.YtcjpepdagnifiaaDoor

namespace Go.Proofs.YtcjpepdagnifiaaDoor
open Go.RowKit
set_option linter.unusedVariables false
set_option maxRecDepth 100000

theorem opFieldOp {t i : Tmp} {ty : TypeId} {pos : String} {af : Array Edge} {a : Act} {X : World} {K : Act → World → Prop} {Q : Exit → Act → World → Prop} {g : Nat} (k : Nat) (hk : k < 5) (h1 : a.eval (.tmp i) = .pointer (some ⟨g, 0, none⟩)) (hK : K (a.put (some t) (.pointer (some ⟨g, k, none⟩))) X) :
    Oper.wp Tryd.prog ⟨some t, .fieldAddr 27 (.tmp i) k, ty, pos, af, none⟩ a X K Q := by
  have h := ev_tmp h1
  match k, hk with
  | 0, _ => go_simp; exact hK
  | 1, _ => go_simp; exact hK
  | 2, _ => go_simp; exact hK
  | 3, _ => go_simp; exact hK
  | 4, _ => go_simp; exact hK
theorem opLoadTxt {t i : Tmp} {ty : TypeId} {pos : String} {af : Array Edge} {a : Act} {X : World} {K : Act → World → Prop} {Q : Exit → Act → World → Prop} {g p : Nat} {v : Value} (h1 : a.eval (.tmp i) = .pointer (some ⟨g, p, none⟩)) (hc : X.cell? ⟨g, p, none⟩ = some v) (hK : K (a.put (some t) v) X) :
    Oper.wp Tryd.prog ⟨some t, .load 9 (.tmp i), ty, pos, af, none⟩ a X K Q := by
  have h := ev_tmp h1
  go_simp; exact hK
/-- append of one text onto a row of one's own, at a frame of which only what is read is known. -/
theorem wp_appendT {w : World} {o : Oper} {a : Act} {K : Act → World → Prop} {Q : Exit → Act → World → Prop} (s x : Operand)
    (ho : o.op = .call { callee := .builtin .append, args := #[s, x], argTypes := #[22, 22] }) (B : Nat) (v : Value) (P : List (List UInt8)) (hs : a.eval s = v) (hown : ownS w B v P)
    (ad : Addr) (z : List UInt8) (hx : a.eval x = .slice (some ad) 1 1) (hsrc : w.cell? ad = some (.string (txt z))) (hlen : P.length ≤ 1677720) (hB : B ≤ w.heap.size)
    (h : ∀ v' w', ownS w' B v' (P ++ [z]) → w.heap.size ≤ w'.heap.size → (∀ i, i < w.heap.size → v.ownBlock ≠ some i → w'.heap[i]? = w.heap[i]?) → (v'.ownBlock = v.ownBlock ∨ v'.ownBlock = some w.heap.size) → (∀ C w0, Below C w0 w → C ≤ B → Below C w0 w') → K (a.put o.dst v') w') : o.wp Tryd.prog a w K Q := by
  obtain ⟨i0, hi, hz0, hz1, hz2⟩ := info_parts infoS
  have hlt := World.ownsRow.lt hown
  obtain ⟨v', w', hr, hown', hgrow, _, hat⟩ := run_append_own_at (P := Tryd.prog) w B 22 o.type 9 i0 (.string (txt [])) 1 16 Tryd.underlying22 hi hz0 hz1 hz2 rfl (by decide) v P.length (P.map strV) hown ad 1 1 [strV z] rfl
    (fun j u hj => by
      match j, hj with
      | 0, hj =>
        simp at hj
        subst hj
        rw [show ad.add 0 = ad from by cases ad; simp [Addr.add]]
        exact hsrc
      | j + 1, hj => simp at hj)
    (fun u hu => by simp at hu; subst hu; rfl) (by unfold maxLen; omega) (by omega) hB
  unfold Oper.wp execOp
  simp only [ho, resolve, invoke, builtin, Sem.run_bind, Sem.run_pure, Result.andThen_ok, List.map_toArray, List.map_cons, List.map_nil, hs, hx, hr]
  refine h v' w' ?_ hgrow.size (fun i hi hne => hgrow.block i hi (fun e => hne e.symm)) hat (fun C w0 hb hC => ?_)
  · unfold ownS
    rw [List.length_append, List.map_append]
    exact hown'
  · exact ⟨hgrow.os.trans hb.os, hgrow.tape.trans hb.tape, hgrow.output.trans hb.output, Nat.le_trans hb.size hgrow.size, fun k hk => (hgrow.block k (by omega) (fun e => by have := (hlt k e.symm).1; omega)).trans (hb.block k hk)⟩
theorem opNewT {t i : Tmp} {ty : TypeId} {pos : String} {af : Array Edge} {a : Act} {X : World} {K : Act → World → Prop} {Q : Exit → Act → World → Prop} {z : ByteArray} (h1 : a.eval (.tmp i) = .string z) (hK : K (a.put (some t) (.slice (some ⟨X.heap.size, 0, none⟩) 1 1)) (X.alloc (.cells #[.string z] 9))) :
    Oper.wp Tryd.prog ⟨some t, .buildSlice 22 1 #[(0, .tmp i)], ty, pos, af, none⟩ a X K Q := by
  have e1 := ev_tmp h1
  go_simp; exact hK
theorem opStoreTs {i j : Tmp} {ty : TypeId} {pos : String} {af : Array Edge} {a : Act} {X : World} {K : Act → World → Prop} {Q : Exit → Act → World → Prop} {g p n c : Nat} {u : Value} {x : Option Addr} (h1 : a.eval (.tmp i) = .pointer (some ⟨g, p, none⟩)) (h2 : a.eval (.tmp j) = .slice x n c) (hc : X.cell? ⟨g, p, none⟩ = some u) (hf : X.frozen? ⟨g, p, none⟩ = false) (hK : K a (X.setCell ⟨g, p, none⟩ (.slice x n c))) :
    Oper.wp Tryd.prog ⟨none, .store 22 (.tmp i) (.tmp j), ty, pos, af, none⟩ a X K Q := by
  have e1 := ev_tmp h1
  have e2 := ev_tmp h2
  go_simp; exact hK
theorem opCloneT {t i : Tmp} {ty : TypeId} {pos : String} {af : Array Edge} {ats : Array TypeId} {a : Act} {X : World} {K : Act → World → Prop} {Q : Exit → Act → World → Prop} {u : Value} {post : Ending → World → Prop} (h1 : a.eval (.tmp i) = u) (hC : Calls Tryd.prog 56 #[u] X post) (hK : ∀ e w', post e w' → ∃ x, e = .returned x ∧ K (a.put (some t) x) w') :
    Oper.wp Tryd.prog ⟨some t, .call { callee := .value (.func 56), args := #[.tmp i], argTypes := ats }, ty, pos, af, none⟩ a X K Q := by
  have e1 := ev_tmp h1
  go_simp
  refine hC.mono (fun e w' hp => ?_)
  obtain ⟨x, rfl, hx⟩ := hK e w' hp
  exact hx
theorem wpList_appendT {w : World} {ops : Array Oper} {rest : List Oper} {o : Oper} {a : Act} {Q : Exit → Act → World → Prop} (hgd : o.guard = none) (s x : Operand)
    (ho : o.op = .call { callee := .builtin .append, args := #[s, x], argTypes := #[22, 22] }) (B : Nat) (v : Value) (P : List (List UInt8)) (hs : a.eval s = v) (hown : ownS w B v P)
    (ad : Addr) (z : List UInt8) (hx : a.eval x = .slice (some ad) 1 1) (hsrc : w.cell? ad = some (.string (txt z))) (hlen : P.length ≤ 1677720) (hB : B ≤ w.heap.size)
    (h : ∀ v' w', ownS w' B v' (P ++ [z]) → w.heap.size ≤ w'.heap.size → Hid (∀ i, i < w.heap.size → v.ownBlock ≠ some i → w'.heap[i]? = w.heap[i]?) → Hid (v'.ownBlock = v.ownBlock ∨ v'.ownBlock = some w.heap.size) → Hid (∀ C w0, Below C w0 w → C ≤ B → Below C w0 w') → wpList Tryd.prog ops Q rest (a.put o.dst v') w') : wpList Tryd.prog ops Q (o :: rest) a w :=
  wpList_plain hgd fun _ hK => wp_appendT s x ho B v P hs hown ad z hx hsrc hlen hB fun v' w' h1 h2 h3 h4 h5 => hK _ _ (h v' w' h1 h2 h3 h4 h5)

end Go.Proofs.YtcjpepdagnifiaaDoor

namespace Go.Proofs.YtcjpepdagnifiaaDoor
open Go.RowKit
set_option linter.unusedVariables false
set_option maxRecDepth 100000

/-- A box that begins with a pen. -/
def Box (X : World) (b : Nat) (T : TypeId) (a0 a1 : Value) (tl : List Value) : Prop := X.heap[b]? = some (.cells (a0 :: a1 :: tl).toArray T (0, 0))
theorem Box.set0 {X : World} {b : Nat} {T : TypeId} {a0 a1 : Value} {tl : List Value} (h : Box X b T a0 a1 tl) (u : Value) : Box (X.setCell ⟨b, 0, none⟩ u) b T u a1 tl := by
  unfold Box at *
  simp [World.setCell, Array.getElem?_modify, h]
theorem Box.set1 {X : World} {b : Nat} {T : TypeId} {a0 a1 : Value} {tl : List Value} (h : Box X b T a0 a1 tl) (u : Value) : Box (X.setCell ⟨b, 1, none⟩ u) b T a0 u tl := by
  unfold Box at *
  simp [World.setCell, Array.getElem?_modify, h]
theorem Box.cells {X : World} {b : Nat} {T : TypeId} {a0 a1 : Value} {tl : List Value} (h : Box X b T a0 a1 tl) : X.cell? ⟨b, 0, none⟩ = some a0 ∧ X.cell? ⟨b, 1, none⟩ = some a1 ∧ (∀ k, X.frozen? ⟨b, k, none⟩ = false) ∧ b < X.heap.size :=
  ⟨by rw [Lib.cell_of_heap h]; rfl, by rw [Lib.cell_of_heap h]; rfl, fun k => Lib.frozen_of_heap h k, (Array.getElem?_eq_some_iff.1 h).1⟩
theorem Box.same {X Y : World} {b : Nat} {T : TypeId} {a0 a1 : Value} {tl : List Value} (h : Box X b T a0 a1 tl) (e : Y.heap[b]? = X.heap[b]?) : Box Y b T a0 a1 tl := e.trans h
theorem Box.later {X Y : World} {b : Nat} {T : TypeId} {a0 a1 : Value} {tl : List Value} (h : Box X b T a0 a1 tl) (k : Below X.heap.size X Y) : Box Y b T a0 a1 tl := h.same (k.block b h.cells.2.2.2)
/-- All that was there is as it was, but for the box and the names' row. -/
structure Mv (b : Nat) (vo : Option Nat) (X Y : World) : Prop where
  os : Y.os = X.os
  tape : Y.tape = X.tape
  output : Y.output = X.output
  size : X.heap.size ≤ Y.heap.size
  block : ∀ g, g < X.heap.size → g ≠ b → vo ≠ some g → Y.heap[g]? = X.heap[g]?
theorem Mv.of {b : Nat} {vo : Option Nat} {X Y : World} (h : Below X.heap.size X Y) : Mv b vo X Y := ⟨h.os, h.tape, h.output, h.size, fun g hg _ _ => h.block g hg⟩
theorem Mv.set {b : Nat} {vo : Option Nat} {X Y : World} (h : Mv b vo X Y) (k : Nat) (u : Value) : Mv b vo X (Y.setCell ⟨b, k, none⟩ u) :=
  ⟨h.os, h.tape, h.output, by simpa [World.setCell] using h.size, fun g hg hn hv => (Below.heap_setCell _ _ _ _ hn).trans (h.block g hg hn hv)⟩

/-- What holds of the memory while the names grow. -/
structure NP (X0 X : World) (B : Nat) (sv : Value) (ss : List (List UInt8)) (dn : Nat → Prop) (Y : World) : Prop where
  bel : Below B X Y
  ge : X.heap.size ≤ Y.heap.size
  oth : ∀ i, i < X.heap.size → sv.ownBlock ≠ some i → Y.heap[i]? = X.heap[i]?
  own : ¬ dn 9 → ownS Y B sv ss
theorem NP.later {X0 X Y Z : World} {B : Nat} {sv : Value} {ss : List (List UInt8)} {dn : Nat → Prop} {i : Nat} (hB : B ≤ X.heap.size) (h : NP X0 X B sv ss dn Y) (hb : Below Y.heap.size Y Z) : NP X0 X B sv ss (fun j => dn j ∨ j = i) Z :=
  ⟨h.bel.trans (hb.mono (Nat.le_trans hB h.ge)), Nat.le_trans h.ge hb.size, fun j hj hn => (hb.block j (Nat.lt_of_lt_of_le hj h.ge)).trans (h.oth j hj hn), fun hn => ownS_later (h.own (fun h2 => hn (.inl h2))) hb⟩
def RSp (n0 B b g : Nat) (sv : Value) (ss : List (List UInt8)) (x : List UInt8) : Nat → World → Value → Prop
  | 0, _, v => v = .pointer (some ⟨b, 0, none⟩)
  | 1, _, v => v = .pointer (some ⟨b, 0, none⟩)
  | 2, _, v => v = .pointer (some ⟨b, 0, none⟩)
  | 3, _, v => v = .pointer (some ⟨b, 1, none⟩)
  | 4, _, v => v = sv
  | 5, _, v => v = .pointer (some ⟨g, 4, none⟩)
  | 6, _, v => v = .string (txt x)
  | 7, _, v => v = .string (txt x)
  | 8, X, v => ∃ g, v = .slice (some ⟨g, 0, none⟩) 1 1 ∧ n0 ≤ g ∧ X.heap[g]? = some (.cells #[.string (txt x)] 9 (0, 0))
  | 9, X, v => ownS X B v (ss ++ [x])
  | 10, _, v => v = .pointer (some ⟨b, 0, none⟩)
  | 11, _, v => v = .pointer (some ⟨b, 1, none⟩)
  | _, _, _ => True
theorem rsp_mono {n0 B b gg : Nat} {sv : Value} {ss : List (List UInt8)} {x : List UInt8} (i : Nat) (X Y : World) (v : Value) (h : RSp n0 B b gg sv ss x i X v) (hb : Below X.heap.size X Y) : RSp n0 B b gg sv ss x i Y v := by
  match i, h with
  | 0, h => exact h
  | 1, h => exact h
  | 2, h => exact h
  | 3, h => exact h
  | 4, h => exact h
  | 5, h => exact h
  | 6, h => exact h
  | 7, h => exact h
  | 8, ⟨g, h1, h2, h3⟩ => exact ⟨g, h1, h2, (hb.block g (Array.getElem?_eq_some_iff.1 h3).1).trans h3⟩
  | 9, h1 => exact ownS_later h1 hb
  | 10, h => exact h
  | 11, h => exact h
  | n + 12, _ => exact trivial
theorem rsp_app {n0 B b gg : Nat} {sv : Value} {ss : List (List UInt8)} {x : List UInt8} (i : Nat) (X Y : World) (v : Value) (h9 : i ≠ 9) (h : RSp n0 B b gg sv ss x i X v) (hs : ∀ g, g < X.heap.size → n0 ≤ g → Y.heap[g]? = X.heap[g]?) : RSp n0 B b gg sv ss x i Y v := by
  match i, h with
  | 0, h => exact h
  | 1, h => exact h
  | 2, h => exact h
  | 3, h => exact h
  | 4, h => exact h
  | 5, h => exact h
  | 6, h => exact h
  | 7, h => exact h
  | 8, ⟨g, h1, h2, h3⟩ => exact ⟨g, h1, h2, (hs g (Array.getElem?_eq_some_iff.1 h3).1 h2).trans h3⟩
  | 9, _ => exact absurd rfl h9
  | 10, h => exact h
  | 11, h => exact h
  | n + 12, _ => exact trivial

set_option maxHeartbeats 4000000 in
theorem moveOn_calls (b : Nat) (T : TypeId) (hT : T ≠ 9) (tl : List Value) (P : PenD) (sa : Option Addr) (sc : Nat) (o : OpD) (B : Nat) (X : World) (hb : Box X b T (.int .i64 P.last) (.slice sa P.sites.length sc) tl) (hO : ownS X B (.slice sa P.sites.length sc) P.sites) (hs : SmallP P) (hx0 : o.site.length ≤ 1048576) (hBX : B ≤ X.heap.size) (hBb : B ≤ b) :
    Calls Tryd.prog 62 #[.pointer (some ⟨b, 0, none⟩), opV o] X fun e Y => e = .returned (.tuple #[]) ∧ ∃ x c, Box Y b T (.int .i64 o.a) (.slice x (penB P o).sites.length c) tl ∧ ownS Y B (.slice x (penB P o).sites.length c) (penB P o).sites ∧ Mv b (Value.slice sa P.sites.length sc).ownBlock X Y := by
  have hbX := hb.cells.2.2.2
  obtain ⟨X1, hX1⟩ : ∃ X1, X1 = X.alloc (.cells #[.int .i64 o.kind, .int .i64 o.a, .int .i64 o.b, .int .i64 o.c, .string (txt o.site)] 27) := ⟨_, rfl⟩
  have B1 : Below X.heap.size X X1 := by rw [hX1]; exact (Below.refl _ _).alloc (Nat.le_refl _) _
  have s1 : X1.heap.size = X.heap.size + 1 := by rw [hX1]; simp
  have hbox := hb.later B1
  have hown := ownS_later hO B1
  obtain ⟨sa', cap', e', hrd⟩ := rdS_own hown
  simp only [Value.slice.injEq] at e'
  obtain ⟨rfl, -, rfl⟩ := e'
  have hcap : P.sites.length ≤ sc := row_cap hown
  obtain ⟨p0, p1, pf, pl⟩ := hbox.cells
  have hPA : PenAt b P (.slice sa P.sites.length sc) X1 := ⟨sa, sc, rfl, p0, p1, hrd.out, hcap⟩
  have CP : Hid (∀ _ : Unit, _) := fun (_ : Unit) => placeOf_calls b P _ o.site X1 hPA hs
  have hop : OpAt X.heap.size o X1 := by rw [hX1]; exact OpAt.new X o _
  obtain ⟨c0, c1, c2, c3, c4⟩ := hop.cells
  have HB1 : Hid (Below X.heap.size X X1) := B1
  have hsl := hs.sites
  by_cases hz : plZ o.site P.sites = 0
  case neg =>
    have hpb : penB P o = ⟨o.a, P.sites⟩ := by unfold penB; rw [if_neg hz]
    rw [hpb]
    simp only
    have HF : Hid (∃ x c, Box (X1.setCell ⟨b, 0, none⟩ (.int .i64 o.a)) b T (.int .i64 o.a) (.slice x P.sites.length c) tl ∧ ownS (X1.setCell ⟨b, 0, none⟩ (.int .i64 o.a)) B (.slice x P.sites.length c) P.sites ∧ Mv b (Value.slice sa P.sites.length sc).ownBlock X (X1.setCell ⟨b, 0, none⟩ (.int .i64 o.a))) := by
      refine ⟨sa, sc, hbox.set0 _, ?_, (Mv.of HB1.out).set 0 _⟩
      exact row_same hown (fun g hg => Below.heap_setCell _ _ _ _ (fun e => by
        obtain ⟨cur, hk⟩ := row_kind hown g hg
        rw [e] at hk
        unfold Box at hbox
        rw [hbox] at hk
        simp only [Option.some.injEq, Obj.cells.injEq] at hk
        exact hT hk.2.1))
    have hf0 := pf 0
    clear pf hPA hop hown hrd hbox hb hO s1 hs hT HB1 B1
    generalize plZ o.site P.sites = z at *
    unfold opV
    go_enter Tryd.func62, Tryd.ntmps62
    go_wp2_with fail
    rw [← hX1]
    clear hX1
    refine (CP.out ()).mono ?_
    rintro e w1 ⟨rfl, hw⟩
    subst hw
    go_wp2
    go_end0
    exact ⟨rfl, HF.out⟩
  have hpb : penB P o = ⟨o.a, P.sites ++ [o.site]⟩ := by unfold penB; rw [if_pos hz]
  rw [hpb]
  rw [hz] at CP
  simp only
  clear hz
  have HBX : Hid (B ≤ X1.heap.size) := by show _ ≤ _; omega
  have CCL : Hid (∀ Y : World, _) := fun Y => strClone_calls (txt o.site) Y (by rw [txt_size]; omega)
  have hvb : (Value.slice sa P.sites.length sc).ownBlock ≠ some b := fun hg => by
    obtain ⟨cur, hk⟩ := row_kind hown b hg
    unfold Box at hbox
    rw [hbox] at hk
    simp only [Option.some.injEq, Obj.cells.injEq] at hk
    exact hT hk.2.1
  have hvo : (Value.slice sa P.sites.length sc).ownBlock ≠ some X.heap.size := fun hg => by have := (ownS_lt hO _ hg).2; omega
  have HBO : Hid (∀ dn Y, NP X X1 B (.slice sa P.sites.length sc) P.sites dn Y → Box Y b T (.int .i64 P.last) (.slice sa P.sites.length sc) tl) := fun dn Y hJ => hbox.same (hJ.oth b pl hvb)
  have HOP : Hid (∀ dn Y, NP X X1 B (.slice sa P.sites.length sc) P.sites dn Y → OpAt X.heap.size o Y) := fun dn Y hJ k => (World.cell?_of_block (a := ⟨X.heap.size, k, none⟩) (hJ.oth X.heap.size (by omega) hvo)).trans (hop k)
  have hlt9 : ∀ g, (Value.slice sa P.sites.length sc).ownBlock = some g → g < X1.heap.size := fun g hg => (ownS_lt hown g hg).2
  have HMV : Hid (∀ dn Y, NP X X1 B (.slice sa P.sites.length sc) P.sites dn Y → Mv b (Value.slice sa P.sites.length sc).ownBlock X Y) := fun dn Y hJ =>
    ⟨hJ.bel.os.trans HB1.out.os, hJ.bel.tape.trans HB1.out.tape, hJ.bel.output.trans HB1.out.output, by have := hJ.ge; omega, fun g hg _ hv => (hJ.oth g (by omega) hv).trans (HB1.out.block g hg)⟩
  have HOW : Hid (ownS X1 B (.slice sa P.sites.length sc) P.sites) := hown
  clear pf hPA hop hrd hb hO hpb hvb hvo
  unfold opV
  go_enter Tryd.func62, Tryd.ntmps62
  go_wp2_with fail
  rw [← hX1]
  clear hX1
  refine (CP.out ()).mono ?_
  rintro e w1 ⟨rfl, hw⟩
  subst hw
  clear CP c0 c2 c3 p0
  go_wp2
  refine wp_region_step 12 (by kernel_rfl) (by kernel_rfl) (NP X w1 B (.slice sa P.sites.length sc) P.sites) (RSp w1.heap.size B b X.heap.size (.slice sa P.sites.length sc) P.sites o.site) (fun _ _ _ _ => True) ⟨(Below.refl _ _).drew, Nat.le_refl _, fun _ _ _ => rfl, fun _ => HOW.out⟩ ?_ ?_
  · intro i o_ hi ho a Y dn hJ hA hbn hnot hdep
    match i, hi, ho with
    | 0, _, ho =>
      obtain rfl := Option.some.inj ho
      exact opMove (alike_at hA (t := 0) (by kernel_rfl)) ⟨_, rfl, hJ.later HBX.out (Below.refl _ _), rfl, fun q hq _ t ht => ⟨hbn.yields q hq t ht, trivial, trivial⟩⟩
    | 1, _, ho =>
      obtain rfl := Option.some.inj ho
      exact opMove (alike_at hA (t := 0) (by kernel_rfl)) ⟨_, rfl, hJ.later HBX.out (Below.refl _ _), rfl, fun q hq _ t ht => ⟨hbn.yields q hq t ht, trivial, trivial⟩⟩
    | 2, _, ho =>
      obtain rfl := Option.some.inj ho
      have g1_ : a.eval (.tmp 10) = .pointer (some ⟨b, 0, none⟩) := hbn.yields 1 (hdep ⟨1, .data⟩ (by simp) rfl) 10 rfl
      exact opNil g1_ ⟨_, rfl, hJ.later HBX.out (Below.refl _ _), rfl, fun q hq _ t ht => ⟨hbn.yields q hq t ht, trivial, trivial⟩⟩
    | 3, _, ho =>
      obtain rfl := Option.some.inj ho
      have g2_ : a.eval (.tmp 11) = .pointer (some ⟨b, 0, none⟩) := hbn.yields 2 (hdep ⟨2, .data⟩ (by simp) rfl) 11 rfl
      exact opFieldPen 1 (by omega) g2_ ⟨_, rfl, hJ.later HBX.out (Below.refl _ _), rfl, fun q hq _ t ht => ⟨hbn.yields q hq t ht, trivial, trivial⟩⟩
    | 4, _, ho =>
      obtain rfl := Option.some.inj ho
      have g3_ : a.eval (.tmp 12) = .pointer (some ⟨b, 1, none⟩) := hbn.yields 3 (hdep ⟨3, .data⟩ (by simp) rfl) 12 rfl
      exact opLoadS g3_ (HBO.out _ _ hJ).cells.2.1 ⟨_, rfl, hJ.later HBX.out (Below.refl _ _), rfl, fun q hq _ t ht => ⟨hbn.yields q hq t ht, trivial, trivial⟩⟩
    | 5, _, ho =>
      obtain rfl := Option.some.inj ho
      exact opFieldOp 4 (by omega) (alike_at hA (t := 3) (by kernel_rfl)) ⟨_, rfl, hJ.later HBX.out (Below.refl _ _), rfl, fun q hq _ t ht => ⟨hbn.yields q hq t ht, trivial, trivial⟩⟩
    | 6, _, ho =>
      obtain rfl := Option.some.inj ho
      have g5_ : a.eval (.tmp 14) = .pointer (some ⟨X.heap.size, 4, none⟩) := hbn.yields 5 (hdep ⟨5, .data⟩ (by simp) rfl) 14 rfl
      exact opLoadTxt g5_ (HOP.out _ _ hJ 4) ⟨_, rfl, hJ.later HBX.out (Below.refl _ _), rfl, fun q hq _ t ht => ⟨hbn.yields q hq t ht, trivial, trivial⟩⟩
    | 7, _, ho =>
      obtain rfl := Option.some.inj ho
      have g6_ : a.eval (.tmp 15) = .string (txt o.site) := hbn.yields 6 (hdep ⟨6, .data⟩ (by simp) rfl) 15 rfl
      exact opCloneT g6_ (CCL.out Y) (fun e w' ⟨h1, h2⟩ => ⟨_, h1, _, rfl, hJ.later HBX.out h2, rfl, fun q hq _ t ht => ⟨rsp_mono q _ _ _ (hbn.yields q hq t ht) h2, trivial, trivial⟩⟩)
    | 8, _, ho =>
      obtain rfl := Option.some.inj ho
      have g7_ : a.eval (.tmp 16) = .string (txt o.site) := hbn.yields 7 (hdep ⟨7, .data⟩ (by simp) rfl) 16 rfl
      have bX : Below Y.heap.size Y (Y.alloc (.cells #[.string (txt o.site)] 9)) := (Below.refl _ _).alloc (Nat.le_refl _) _
      exact opNewT g7_ ⟨_, rfl, hJ.later HBX.out bX, ⟨Y.heap.size, rfl, hJ.ge, heap_alloc_new Y _⟩, fun q hq _ t ht => ⟨rsp_mono q _ _ _ (hbn.yields q hq t ht) bX, trivial, trivial⟩⟩
    | 9, _, ho =>
      obtain rfl := Option.some.inj ho
      have g4_ : a.eval (.tmp 13) = .slice sa P.sites.length sc := hbn.yields 4 (hdep ⟨4, .data⟩ (by simp) rfl) 13 rfl
      obtain ⟨q8, e2, hq8, hg8⟩ := hbn.yields 8 (hdep ⟨8, .data⟩ (by simp) rfl) 17 rfl
      have hown := hJ.own hnot
      have hge := hJ.ge
      refine wp_appendT _ _ rfl B _ _ g4_ hown ⟨q8, 0, none⟩ o.site e2 (by simp [World.cell?, hg8]) (by omega) (by have := HBX.out; omega) ?_
      intro v' X' hO hsz2 hoth hat hbel
      exact ⟨_, rfl, ⟨hbel B w1 hJ.bel (Nat.le_refl _), Nat.le_trans hge hsz2, fun j hj hn => (hoth j (by omega) hn).trans (hJ.oth j hj hn), fun h => absurd (.inr rfl) h⟩, hO, fun q hq hne t ht => ⟨rsp_app q _ _ _ hne (hbn.yields q hq t ht) (fun g hg1 hg2 => hoth g hg1 (fun e => by have := hlt9 g e; omega)), trivial, trivial⟩⟩
    | 10, _, ho =>
      obtain rfl := Option.some.inj ho
      have g0_ : a.eval (.tmp 9) = .pointer (some ⟨b, 0, none⟩) := hbn.yields 0 (hdep ⟨0, .data⟩ (by simp) rfl) 9 rfl
      exact opNil g0_ ⟨_, rfl, hJ.later HBX.out (Below.refl _ _), rfl, fun q hq _ t ht => ⟨hbn.yields q hq t ht, trivial, trivial⟩⟩
    | 11, _, ho =>
      obtain rfl := Option.some.inj ho
      have g10_ : a.eval (.tmp 19) = .pointer (some ⟨b, 0, none⟩) := hbn.yields 10 (hdep ⟨10, .data⟩ (by simp) rfl) 19 rfl
      exact opFieldPen 1 (by omega) g10_ ⟨_, rfl, hJ.later HBX.out (Below.refl _ _), rfl, fun q hq _ t ht => ⟨hbn.yields q hq t ht, trivial, trivial⟩⟩
  · intro o_ ho a Y dn hJ hA hbn hdn
    obtain rfl := Option.some.inj ho
    have hO : ownS Y B _ _ := hbn.yields 9 (hdn 9 (by omega)) 18 rfl
    have g11_ : a.eval (.tmp 20) = .pointer (some ⟨b, 1, none⟩) := hbn.yields 11 (hdn 11 (by omega)) 20 rfl
    obtain ⟨sa2, sc2, e2, -⟩ := rdS_own hO
    rw [e2] at hO
    have FX := HBO.out _ _ hJ
    refine opStoreTs g11_ e2 FX.cells.2.1 (FX.cells.2.2.1 1) ?_
    have hbox2 := FX.set1 (.slice sa2 (P.sites ++ [o.site]).length sc2)
    obtain ⟨q0, q1, qf, ql⟩ := hbox2.cells
    have hne : X.heap.size ≠ b := by omega
    have q3 : (Y.setCell ⟨b, 1, none⟩ (.slice sa2 (P.sites ++ [o.site]).length sc2)).cell? ⟨X.heap.size, 1, none⟩ = some (.int .i64 o.a) := (keep_far _ _ (by exact fun e => hne e.symm) 1).trans (HOP.out _ _ hJ 1)
    have q4 := qf 0
    have HF : Hid (∃ x c, Box ((Y.setCell ⟨b, 1, none⟩ (.slice sa2 (P.sites ++ [o.site]).length sc2)).setCell ⟨b, 0, none⟩ (.int .i64 o.a)) b T (.int .i64 o.a) (.slice x (P.sites ++ [o.site]).length c) tl ∧ ownS ((Y.setCell ⟨b, 1, none⟩ (.slice sa2 (P.sites ++ [o.site]).length sc2)).setCell ⟨b, 0, none⟩ (.int .i64 o.a)) B (.slice x (P.sites ++ [o.site]).length c) (P.sites ++ [o.site]) ∧ Mv b (Value.slice sa P.sites.length sc).ownBlock X ((Y.setCell ⟨b, 1, none⟩ (.slice sa2 (P.sites ++ [o.site]).length sc2)).setCell ⟨b, 0, none⟩ (.int .i64 o.a))) := by
      refine ⟨sa2, sc2, hbox2.set0 _, ?_, ((HMV.out _ _ hJ).set 1 _).set 0 _⟩
      exact row_same hO (fun g hg => by
        have hgb : g ≠ b := fun e => by
          obtain ⟨cur, hk⟩ := row_kind hO g hg
          rw [e] at hk
          unfold Box at FX
          rw [FX] at hk
          simp only [Option.some.injEq, Obj.cells.injEq] at hk
          exact hT hk.2.1
        rw [Below.heap_setCell _ _ _ _ (by exact hgb), Below.heap_setCell _ _ _ _ (by exact hgb)])
    obtain ⟨us, hus, rfl⟩ := alike_tmps hA [9, 10, 11, 12, 13, 14, 15, 16, 17, 18, 19, 20] (by kernel_rfl)
    clear hbn hdn hA hus g11_ e2 hO hJ ho FX HBO HOP HMV CCL HBX HOW hlt9 hbox hown hbox2 q1 qf ql B1 s1 hT p1 c1 c4 pl
    simp only [List.mapIdx_cons, List.mapIdx_nil, Nat.reduceAdd, List.contains_cons, List.contains_nil, Nat.reduceBEq, Bool.or_false, Bool.or_true, if_true, if_false, Bool.false_eq_true]
    generalize Y.setCell ⟨b, 1, none⟩ (.slice sa2 (P.sites ++ [o.site]).length sc2) = Z at *
    go_wp2
    go_end0
    exact ⟨rfl, HF.out⟩

end Go.Proofs.YtcjpepdagnifiaaDoor

namespace Go.Proofs.YtcjpepdagnifiaaDoor
open Go.RowKit
set_option linter.unusedVariables false
set_option maxRecDepth 100000

/-- The names behind an event. -/
def namesB (ss : List (List UInt8)) (x : List UInt8) : List (List UInt8) := if plZ x ss = 0 then ss ++ [x] else ss
theorem penB_names (P : PenD) (o : OpD) : (penB P o).sites = namesB P.sites o.site := rfl
/-- What the region yields that builds a pen anew. -/
def RNew (B p : Nat) (last : Int) (sa : Option Addr) (m c : Nat) (news : List Value) (K : World → Value → Prop) : Nat → World → Value → Prop
  | 0, _, v => v = .pointer (some ⟨p, 0, none⟩)
  | 1, _, v => v = .int .i64 last
  | 2, X, v => ∃ g, v = .slice (some ⟨g, 0, none⟩) 0 0 ∧ B ≤ g ∧ X.heap[g]? = some (.cells #[] 9 (0, 0))
  | 3, _, v => v = .pointer (some ⟨p, 1, none⟩)
  | 4, _, v => v = .slice sa m c
  | 5, X, v => X.ownsRow B 9 1 v m news
  | 6, X, v => ∃ x d, v = .agg #[.int .i64 last, .slice x m d] ∧ X.ownsRow B 9 1 (.slice x m d) m news
  | _, X, v => K X v
theorem rnew_mono {B p : Nat} {last : Int} {sa : Option Addr} {m c : Nat} {news : List Value} {K : World → Value → Prop} (hK : ∀ X Y v, K X v → Below X.heap.size X Y → K Y v) (i : Nat) (X Y : World) (v : Value) (h : RNew B p last sa m c news K i X v) (hb : Below X.heap.size X Y) : RNew B p last sa m c news K i Y v := by
  match i, h with
  | 0, h => exact h
  | 1, h => exact h
  | 2, ⟨g, h1, h2, h3⟩ => exact ⟨g, h1, h2, (hb.block g (Array.getElem?_eq_some_iff.1 h3).1).trans h3⟩
  | 3, h => exact h
  | 4, h => exact h
  | 5, h => exact own_kept h hb
  | 6, ⟨x, d, h1, h2⟩ => exact ⟨x, d, h1, own_kept h2 hb⟩
  | n + 7, h => exact hK X Y v h hb
def KTwo (B : Nat) (X : World) (v : Value) : Prop := ∃ g, v = .pointer (some ⟨g, 0, none⟩) ∧ B ≤ g ∧ Two X g (.int .i64 0) (.slice none 0 0)
theorem ktwo_mono (B : Nat) (X Y : World) (v : Value) (h : KTwo B X v) (hb : Below X.heap.size X Y) : KTwo B Y v := h.imp fun g hg => ⟨hg.1, hg.2.1, hg.2.2.later hb⟩

set_option maxHeartbeats 4000000 in
theorem sSite_calls (v : Value) (P : PenD) (x : List UInt8) (w : World) (h : RdP w v P) (hs : SmallP P) (hx : x.length ≤ 1048576) :
    Calls Tryd.prog 53 #[v, .string (txt x)] w fun e w' => ∃ y c, e = .returned (.tuple #[.string (txt (siteT P.sites x)), .agg #[.int .i64 P.last, .slice y (namesB P.sites x).length c]]) ∧ ownS w' w.heap.size (.slice y (namesB P.sites x).length c) (namesB P.sites x) ∧ Below w.heap.size w w' := by
  obtain ⟨sa, sc, rfl, rs⟩ := h
  obtain ⟨last, ss⟩ := P
  simp only at rs ⊢
  have hn0 : ss.length ≤ 1048576 := hs.sites
  obtain ⟨n, hn⟩ : ∃ n, ss.length = n := ⟨_, rfl⟩
  have Hn : Hid (ss.length = n) := hn
  obtain ⟨W, hW⟩ : ∃ W, W = (w.alloc (.cells #[.int .i64 last, .slice sa n sc] 31)).alloc (.cells #[.int .i64 0, .slice none 0 0] 31) := ⟨_, rfl⟩
  have hWs : W.heap.size = w.heap.size + 2 := by rw [hW]; simp
  have BW : Below w.heap.size w W := by rw [hW]; exact ((Below.refl _ _).alloc (Nat.le_refl _) _).alloc (by simp) _
  have HFP : Hid (Two W w.heap.size (.int .i64 last) (.slice sa n sc)) := by
    rw [hW]
    exact (Two.new w _ _).later ((Below.refl _ _).alloc (Nat.le_refl _) _)
  have HFR : Hid (Two W (w.heap.size + 1) (.int .i64 0) (.slice none 0 0)) := by
    rw [hW]
    have f1 := Two.new (w.alloc (.cells #[.int .i64 last, .slice sa n sc] 31)) (.int .i64 0) (.slice none 0 0)
    have e : (w.alloc (.cells #[.int .i64 last, .slice sa n sc] 31)).heap.size = w.heap.size + 1 := by simp
    rw [e] at f1
    exact f1
  have HRS : Hid (∀ X, Below W.heap.size W X → RdS X sa ss) := fun X hX => rdS_later (rdS_later rs BW) hX
  have HSS : Hid (SrcC W sa n 1 (ss.map strV)) := by rw [← hn]; exact (srcS rs).later BW
  have HBW : Hid (Below w.heap.size w W) := BW
  have HWs : Hid (W.heap.size = w.heap.size + 2) := hWs
  have HPD : Hid (∀ (j : Nat) (h : j < ss.length), (∀ k (h : k < ss.length), k < j → ss[k] ≠ x) → ss[j] = x → plZ x ss = (j : Int) + 1) := fun j hj hno he => by
    rcases plZ_cases x ss with ⟨-, h0⟩ | ⟨k, hk, h1, h2⟩
    · exact absurd (he ▸ List.getElem_mem hj) h0
    · rcases Nat.lt_trichotomy k j with e | e | e
      · exact absurd h2 (hno k hk e)
      · rw [h1, e]
      · exfalso
        have hh : ∀ (zs : List (List UInt8)) (i : Int) (j k : Nat) (hj : j < zs.length) (hk : k < zs.length), zs[j] = x → j < k → idxL x zs i ≠ i + (k : Int) := by
          intro zs
          induction zs with
          | nil => intro i j k hj; simp at hj
          | cons y r ih =>
            intro i j k hj hk hj2 hjk
            unfold idxL
            by_cases e2 : x = y
            · rw [if_pos e2]; omega
            · rw [if_neg e2]
              cases j with
              | zero => exact absurd hj2.symm e2
              | succ j =>
                cases k with
                | zero => omega
                | succ k =>
                  have := ih (i + 1) j k (by simpa using hj) (by simpa using hk) (by simpa using hj2) (by omega)
                  intro e3
                  exact this (by omega)
        have := hh ss 0 j k hj hk he e
        unfold plZ at h1
        omega
  have HPN : Hid ((∀ k (h : k < ss.length), ss[k] ≠ x) → plZ x ss = 0) := fun hno => by
    rcases plZ_cases x ss with ⟨h0, -⟩ | ⟨k, hk, h1, h2⟩
    · exact h0
    · exact absurd h2 (hno k hk)
  clear rs BW hs hWs
  rw [hn] at hn0 ⊢
  clear hn
  go_enter Tryd.func53, Tryd.ntmps53
  go_wp2
  rw [← hW]
  clear hW
  refine wp_region_last 8 (by kernel_rfl) (by kernel_rfl) (RNew W.heap.size w.heap.size last sa n sc (ss.map strV) (KTwo W.heap.size)) (rnew_mono (ktwo_mono _)) ?_ ?_
  · intro i o hi ho a X hX hA hdep
    have FX := (HFP.out.later hX).cells
    have hXs := hX.size
    match i, hi, ho with
    | 0, _, ho =>
      obtain rfl := Option.some.inj ho
      exact opFieldPen 0 (by omega) (alike_at hA (t := 2) (by kernel_rfl)) ⟨_, rfl, Below.refl _ _, rfl⟩
    | 1, _, ho =>
      obtain rfl := Option.some.inj ho
      have e1 : a.eval (.tmp 8) = .pointer (some ⟨w.heap.size, 0, none⟩) := hdep ⟨0, .data⟩ (by simp) rfl 8 rfl
      exact opLoadInt e1 FX.1 ⟨_, rfl, Below.refl _ _, rfl⟩
    | 2, _, ho =>
      obtain rfl := Option.some.inj ho
      exact opNewS ⟨_, rfl, (Below.refl _ _).alloc (Nat.le_refl _) _, X.heap.size, rfl, hXs, fresh_at X _⟩
    | 3, _, ho =>
      obtain rfl := Option.some.inj ho
      exact opFieldPen 1 (by omega) (alike_at hA (t := 2) (by kernel_rfl)) ⟨_, rfl, Below.refl _ _, rfl⟩
    | 4, _, ho =>
      obtain rfl := Option.some.inj ho
      have e1 : a.eval (.tmp 11) = .pointer (some ⟨w.heap.size, 1, none⟩) := hdep ⟨3, .data⟩ (by simp) rfl 11 rfl
      exact opLoadS e1 FX.2 ⟨_, rfl, Below.refl _ _, rfl⟩
    | 5, _, ho =>
      obtain rfl := Option.some.inj ho
      obtain ⟨g, e1, gB, hg⟩ := hdep ⟨2, .data⟩ (by simp) rfl 10 rfl
      have e2 : a.eval (.tmp 12) = .slice sa n sc := hdep ⟨4, .data⟩ (by simp) rfl 12 rfl
      exact wp_append_fresh elS _ _ rfl g W.heap.size hg gB sa n sc _ e1 e2 (HSS.out.later hX) (by omega) (by omega) (fun v' w' r b _ => ⟨_, rfl, b, r⟩)
    | 6, _, ho =>
      obtain rfl := Option.some.inj ho
      have e0 : a.eval (.tmp 9) = .int .i64 last := hdep ⟨1, .data⟩ (by simp) rfl 9 rfl
      have r3 : X.ownsRow W.heap.size 9 1 (a.eval (.tmp 13)) n (ss.map strV) := hdep ⟨5, .data⟩ (by simp) rfl 13 rfl
      obtain ⟨x3, c3, e3, _⟩ := row_form r3
      rw [e3] at r3
      exact opBuildPen e0 e3 ⟨_, rfl, Below.refl _ _, x3, c3, rfl, r3⟩
    | 7, _, ho =>
      obtain rfl := Option.some.inj ho
      exact opAllocPen ⟨_, rfl, (Below.refl _ _).alloc (Nat.le_refl _) _, X.heap.size, rfl, hXs, Two.new X _ _⟩
  · intro o ho a X hX hA hdep
    obtain rfl := Option.some.inj ho
    obtain ⟨g, e1, gB, hf⟩ := hdep ⟨7, .data⟩ (by simp) rfl 6 rfl
    obtain ⟨x3, c3, e2, r3⟩ := hdep ⟨6, .data⟩ (by simp) rfl 14 rfl
    refine opStorePen e1 e2 hf ?_
    obtain ⟨us, hus, rfl⟩ := alike_tmps hA [8, 9, 10, 11, 12, 13, 14, 6] (by kernel_rfl)
    have e3 : us 6 = .pointer (some ⟨g, 0, none⟩) := (hus 6).symm.trans e1
    have hoth : ∀ i, i ≠ g → ((X.setCell ⟨g, 0, none⟩ (.int .i64 last)).setCell ⟨g, 1, none⟩ (.slice x3 n c3)).heap[i]? = X.heap[i]? := fun i hi => by
      rw [Below.heap_setCell _ _ _ _ (by exact hi), Below.heap_setCell _ _ _ _ (by exact hi)]
    have HX : Hid (Two ((X.setCell ⟨g, 0, none⟩ (.int .i64 last)).setCell ⟨g, 1, none⟩ (.slice x3 n c3)) g (.int .i64 last) (.slice x3 n c3)) := hf.set _ _
    have HO : Hid (ownS ((X.setCell ⟨g, 0, none⟩ (.int .i64 last)).setCell ⟨g, 1, none⟩ (.slice x3 n c3)) W.heap.size (.slice x3 n c3) ss) := by
      unfold Hid ownS
      rw [Hn.out]
      exact row_same r3 (fun i hi => by
        obtain ⟨cur, hc⟩ := row_kind r3 i hi
        exact hoth i (kind_ne hc hf (by decide)))
    have HB : Hid (Below W.heap.size W ((X.setCell ⟨g, 0, none⟩ (.int .i64 last)).setCell ⟨g, 1, none⟩ (.slice x3 n c3))) := (hX.setCell gB _).setCell gB _
    have HGB : Hid (W.heap.size ≤ g) := gB
    clear hdep hA hus e1 e2 hf r3 ho HSS hoth
    generalize (X.setCell ⟨g, 0, none⟩ (.int .i64 last)).setCell ⟨g, 1, none⟩ (.slice x3 n c3) = Y at *
    simp only [List.mapIdx_cons, List.mapIdx_nil, Nat.reduceAdd, List.contains_cons, List.contains_nil, Nat.reduceBEq, Bool.or_false, Bool.or_true, if_true, if_false, Bool.false_eq_true, e3]
    clear e3 hX gB
    go_wp2
    go_loopw [7] (fun i wr => ∃ j : Nat, i = .int .i64 (j : Int) ∧ j ≤ n ∧ wr = Y ∧ Hid (∀ k (h : k < ss.length), k < j → ss[k] ≠ x)) (fun i _ => n - (intOf i).toNat)
    case atStart => exact ⟨0, rfl, Nat.zero_le _, rfl, fun k _ hk => absurd hk (Nat.not_lt_zero _)⟩
    case round =>
      obtain ⟨j, rfl, hjs, rfl, HJ⟩ := hrel
      have hwrs := HB.out.size
      have hfp : Two wr w.heap.size (.int .i64 last) (.slice sa n sc) := (HB.out.block w.heap.size (by have := HWs.out; omega)).trans HFP.out
      have hfr : Two wr (w.heap.size + 1) (.int .i64 0) (.slice none 0 0) := (HB.out.block (w.heap.size + 1) (by have := HWs.out; omega)).trans HFR.out
      obtain ⟨p0, p1⟩ := hfp.cells
      obtain ⟨r0, r1⟩ := hfr.cells
      have z0 : wr.frozen? ⟨w.heap.size + 1, 0, none⟩ = false := Lib.frozen_of_heap hfr 0
      have z1 : wr.frozen? ⟨w.heap.size + 1, 1, none⟩ = false := Lib.frozen_of_heap hfr 1
      obtain ⟨g0, g1⟩ := HX.out.cells
      have gz1 : wr.frozen? ⟨g, 1, none⟩ = false := Lib.frozen_of_heap HX.out 1
      have hng : ¬ g = w.heap.size + 1 := by have := HWs.out; have := HGB.out; omega
      have hng2 : ¬ w.heap.size + 1 = g := fun e => hng e.symm
      have HBE : Hid (∀ Z, Below wr.heap.size wr Z → Z.cell? ⟨g, 0, none⟩ = some (.int .i64 last) ∧ Z.cell? ⟨g, 1, none⟩ = some (.slice x3 n c3)) := fun Z hZ => (HX.out.later hZ).cells
      have HRE : Hid (∀ Z, Below wr.heap.size wr Z → Z.cell? ⟨w.heap.size + 1, 0, none⟩ = some (.int .i64 0) ∧ Z.cell? ⟨w.heap.size + 1, 1, none⟩ = some (.slice none 0 0) ∧ Z.frozen? ⟨w.heap.size + 1, 0, none⟩ = false ∧ Z.frozen? ⟨w.heap.size + 1, 1, none⟩ = false) := fun Z hZ => by
        have h := hfr.later hZ
        exact ⟨h.cells.1, h.cells.2, Lib.frozen_of_heap h 0, Lib.frozen_of_heap h 1⟩
      clear hfp hfr
      by_cases hlt : j < n
      · have hj2 : j < ss.length := by have := Hn.out; omega
        obtain ⟨gs, off, rfl, hgs, hcs⟩ := HRS.out _ HB.out j hj2
        have i1 : (j : Int) < (n : Int) := by omega
        have HP1 : Hid (ss[j] = x → plZ x ss = (j : Int) + 1) := HPD.out j hj2 HJ.out
        have HJ2 : Hid (ss[j] ≠ x → ∀ k (h : k < ss.length), k < j + 1 → ss[k] ≠ x) := fun h k hk hk2 => by
          rcases Nat.lt_or_ge k j with h3 | h3
          · exact HJ.out k hk h3
          · obtain rfl : k = j := by omega
            exact h
        generalize ss[j] = z at *
        by_cases he : z = x
        · subst he
          have hpl := HP1.out rfl
          have HE : Hid (namesB ss z = ss) := if_neg (by omega)
          have HT : Hid (siteT ss z = varZ ((j : Int) + 1)) := by show _ = _; unfold siteT; rw [if_neg (by omega), hpl]
          have hw : IntKind.i64.wrap ((j : Int) + 1) = (j : Int) + 1 := by rw [IntKind.wrap_i64]; omega
          have CV : Hid (∀ X : World, Calls Tryd.prog 49 #[.int .i64 (IntKind.i64.wrap ((j : Int) + 1))] X fun e w' => e = .returned (.string (txt (varZ ((j : Int) + 1)))) ∧ Below X.heap.size X w') := fun X => by rw [hw]; exact sVar_calls ((j : Int) + 1) X
          have HF : Hid (∀ Z, Below wr.heap.size wr Z → ownS ((Z.setCell ⟨w.heap.size + 1, 0, none⟩ (.int .i64 last)).setCell ⟨w.heap.size + 1, 1, none⟩ (.slice x3 n c3)) w.heap.size (.slice x3 n c3) ss ∧ Below w.heap.size w ((Z.setCell ⟨w.heap.size + 1, 0, none⟩ (.int .i64 last)).setCell ⟨w.heap.size + 1, 1, none⟩ (.slice x3 n c3))) := fun Z hZ =>
            ⟨ownS_mono (ownS_far _ _ (ownS_far _ _ (ownS_later HO.out hZ) (by have := HWs.out; simp only; omega)) (by have := HWs.out; simp only; omega)) (by have := HWs.out; omega),
             ((HBW.out.trans ((HB.out.trans (hZ.mono hwrs)).mono HBW.out.size)).setCell (by simp only; omega) _).setCell (by simp only; omega) _⟩
          have D1 : Below wr.heap.size wr wr.drew := (Below.refl _ _).drew
          obtain ⟨tx, htx⟩ : ∃ tx, varZ ((j : Int) + 1) = tx := ⟨_, rfl⟩
          rw [htx] at CV HT
          clear htx hw HP1 HJ2 HJ HO HPD HPN hpl HRS HFP HFR HX HB
          go_wp2_with fail
          go_region_held (fun X => X.cell? ⟨g, 0, none⟩ = some (.int .i64 last) ∧ X.cell? ⟨g, 1, none⟩ = some (.slice x3 n c3))
            (first | exact HBE.out _ B1 | exact HBE.out _ D1 | exact ⟨(keep_far _ _ (by exact hng2) 0).trans ((keep_far _ _ (by exact hng2) 0).trans (HBE.out _ B1).1), (keep_far _ _ (by exact hng2) 1).trans ((keep_far _ _ (by exact hng2) 1).trans (HBE.out _ B1).2)⟩)
            (first | (go_at_call 49; refine (CV.out _).mono ?_; rintro e Z ⟨rfl, b1⟩; (have B1 := D1.trans (b1.mono D1.size)); (obtain ⟨m0, m1, m2, m3⟩ := HRE.out _ B1)))
          all_goals
            have HF2 : Hid _ := HF.out _ B1
            clear HF HBE HRE p0 p1 r0 r1 z0 z1
            go_wp2
            refine bodyPost_ret (v := .tuple #[.string (txt tx), .agg #[.int .i64 last, .slice x3 n c3]]) (by simp [results, Tryd.results53, go_sem, *]) rfl ⟨x3, c3, by rw [HE.out, HT.out, Hn.out], by rw [HE.out, Hn.out]; exact HF2.out.1, HF2.out.2⟩
        · have HJ3 : Hid _ := HJ2.out he
          have hqs : ((txt z).toList == (txt x).toList) = false := txt_beq_ne' he
          clear HBE HRE
          go_wp2
          go_roundw
          case rel => exact ⟨j + 1, by go_num, by omega, trivial, HJ3⟩
          case measure => simp [intOf]; omega
      · have ej : n ≤ j := by omega
        have hpl := HPN.out (fun k hk => HJ.out k hk (by have := Hn.out; omega))
        have HE : Hid (namesB ss x = ss ++ [x]) := if_pos hpl
        have HT : Hid (siteT ss x = varZ 0 ++ showT x) := by show _ = _; unfold siteT; rw [if_pos hpl]
        have HL : Hid ((ss ++ [x]).length = n + 1) := by show _ = _; rw [List.length_append, Hn.out]; rfl
        have CV : Hid (∀ X : World, _) := fun X => sVar_calls 0 X
        have CT : Hid (∀ X : World, _) := fun X => sShowText_calls x X hx
        have HTA : Hid (txt (varZ 0) ++ txt (showT x) = txt (varZ 0 ++ showT x)) := txt_append _ _
        have HWT : Hid (w.heap.size + 1 < W.heap.size ∧ w.heap.size ≤ W.heap.size) := by have := HWs.out; exact ⟨by omega, by omega⟩
        have hBw : W.heap.size ≤ wr.heap.size := hwrs
        have hOb : ∀ i, (Value.slice x3 n c3).ownBlock = some i → i ≠ g ∧ i ≠ w.heap.size + 1 := fun i hi => by
          obtain ⟨cur, hk⟩ := row_kind HO.out i hi
          exact ⟨kind_ne hk HX.out (by decide), by have := (ownS_lt HO.out i hi).1; have := HWs.out; omega⟩
        have HFRR : Hid (Two W (w.heap.size + 1) (.int .i64 0) (.slice none 0 0)) := HFR
        clear HPN HPD HJ hpl HRS HFP HFR
        have HTT : Hid (siteT ss x = varZ 0 ++ showT x) := HT
        obtain ⟨t1, ht1⟩ : ∃ t1, showT x = t1 := ⟨_, rfl⟩
        obtain ⟨t0, ht0⟩ : ∃ t0, varZ 0 = t0 := ⟨_, rfl⟩
        have hl1 : t1.length ≤ 9 := by rw [← ht1]; exact showT_length x
        have hl0 : t0.length ≤ 7 := by rw [← ht0]; exact varZ_length 0
        have hz1 : (txt t1).size ≤ 9 := by rw [txt_size]; exact hl1
        have hz0 : (txt t0).size ≤ 7 := by rw [txt_size]; exact hl0
        have hz2 : (txt t0).size + (txt t1).size ≤ 9223372036854775807 := by omega
        have hz3 : ((txt t0).size : Int) + ((txt t1).size : Int) ≤ 9223372036854775807 := by omega
        have hz4 : t0.length + t1.length ≤ 9223372036854775807 := by omega
        rw [ht1] at CT HTA HTT
        rw [ht0] at CV HTA HTT
        clear ht0 ht1 HT
        have HOb : Hid _ := hOb
        clear hOb
        go_wp2_with (at_builtin; refine wpList_appendT rfl _ _ rfl W.heap.size _ ss rfl (ownS_alloc _ HO.out) ⟨wr.heap.size, 0, none⟩ x rfl ?hsrc ?hlen ?hB ?_)
        case hsrc => rw [World.cell?_alloc_mark]; rfl
        case hlen => have := Hn.out; omega
        case hB => rw [World.size_alloc]; omega
        intro v' w' hO2 hsz2 hoth hat hbel
        obtain ⟨y, c', hv', hrd⟩ := rdS_own hO2
        subst hv'
        obtain ⟨n1, hn1⟩ : ∃ n1, (ss ++ [x]).length = n1 := ⟨_, rfl⟩
        have HL1 : Hid ((ss ++ [x]).length = n1) := hn1
        rw [hn1] at hO2 ⊢
        clear hn1
        have hkeep : ∀ k, k < wr.heap.size → k = g ∨ k = w.heap.size + 1 → w'.heap[k]? = wr.heap[k]? := fun k hk hk2 => by
          rw [hoth.out k (by first | omega | (rw [World.size_alloc]; omega)) (fun e => by have := HOb.out k e; omega)]
          exact Below.heap_alloc wr _ k hk
        have hgl := HX.out.lt
        have X2 : Two w' g (.int .i64 last) (.slice x3 n c3) := (hkeep g hgl (.inl rfl)).trans HX.out
        have hfr2 : Two w' (w.heap.size + 1) (.int .i64 0) (.slice none 0 0) := (hkeep _ (by have := HWT.out.1; omega) (.inr rfl)).trans ((HB.out.block (w.heap.size + 1) HWT.out.1).trans HFRR.out)
        have hwb : Below W.heap.size W w' := hbel.out W.heap.size W (HB.out.alloc hBw _) (Nat.le_refl _)
        obtain ⟨d0, d1⟩ := X2.cells
        have dz : w'.frozen? ⟨g, 1, none⟩ = false := Lib.frozen_of_heap X2 1
        have X3 : Two (w'.setCell ⟨g, 1, none⟩ (.slice y n1 c')) g (.int .i64 last) (.slice y n1 c') := by
          unfold Two at *
          simp [World.setCell, Array.getElem?_modify, X2]
        have O3 : ownS (w'.setCell ⟨g, 1, none⟩ (.slice y n1 c')) W.heap.size (.slice y n1 c') (ss ++ [x]) := row_same hO2 (fun k hk => by
          obtain ⟨cur, hkk⟩ := row_kind hO2 k hk
          exact Below.heap_setCell _ _ _ _ (kind_ne hkk X2 (by decide)))
        have F3 : Two (w'.setCell ⟨g, 1, none⟩ (.slice y n1 c')) (w.heap.size + 1) (.int .i64 0) (.slice none 0 0) := (Below.heap_setCell _ _ _ _ (by exact hng2)).trans hfr2
        have B3 : Below W.heap.size W (w'.setCell ⟨g, 1, none⟩ (.slice y n1 c')) := hwb.setCell (by exact HGB.out) _
        have HX3 : Hid _ := X3
        have HO3 : Hid _ := O3
        have HF3 : Hid _ := F3
        have HB3 : Hid _ := B3
        have HTG : Hid (W.heap.size ≤ g) := HGB
        clear hkeep X2 hfr2 hwb X3 O3 F3 B3 hoth hat hbel hO2 hrd HX HO HB g0 g1 gz1 HBE HRE p0 p1 r0 r1 z0 z1 hsz2
        go_wp2_with fail
        generalize w'.setCell ⟨g, 1, none⟩ (.slice y n1 c') = Z0 at *
        have HBE : Hid (∀ Z, Below Z0.heap.size Z0 Z → Z.cell? ⟨g, 0, none⟩ = some (.int .i64 last) ∧ Z.cell? ⟨g, 1, none⟩ = some (.slice y n1 c')) := fun Z hZ => (Two.later (show Two Z0 g _ _ from HX3.out) hZ).cells
        have HRE : Hid (∀ Z, Below Z0.heap.size Z0 Z → Z.cell? ⟨w.heap.size + 1, 0, none⟩ = some (.int .i64 0) ∧ Z.cell? ⟨w.heap.size + 1, 1, none⟩ = some (.slice none 0 0) ∧ Z.frozen? ⟨w.heap.size + 1, 0, none⟩ = false ∧ Z.frozen? ⟨w.heap.size + 1, 1, none⟩ = false) := fun Z hZ => by
          have h := Two.later (show Two Z0 (w.heap.size + 1) _ _ from HF3.out) hZ
          exact ⟨h.cells.1, h.cells.2, Lib.frozen_of_heap h 0, Lib.frozen_of_heap h 1⟩
        have HF : Hid (∀ Z, Below Z0.heap.size Z0 Z → ownS ((Z.setCell ⟨w.heap.size + 1, 0, none⟩ (.int .i64 last)).setCell ⟨w.heap.size + 1, 1, none⟩ (.slice y n1 c')) w.heap.size (.slice y n1 c') (ss ++ [x]) ∧ Below w.heap.size w ((Z.setCell ⟨w.heap.size + 1, 0, none⟩ (.int .i64 last)).setCell ⟨w.heap.size + 1, 1, none⟩ (.slice y n1 c'))) := fun Z hZ =>
          ⟨ownS_mono (ownS_far _ _ (ownS_far _ _ (ownS_later (show ownS Z0 W.heap.size _ _ from HO3.out) hZ) (by exact HWT.out.1)) (by exact HWT.out.1)) HWT.out.2,
           ((HBW.out.trans ((HB3.out.trans (hZ.mono HB3.out.size)).mono HBW.out.size)).setCell (by simp only; omega) _).setCell (by simp only; omega) _⟩
        have D1 : Below Z0.heap.size Z0 Z0.drew := (Below.refl _ _).drew
        clear HX3 HO3 HF3 HB3 HTG d0 d1 dz HOb
        go_region_held (fun X => X.cell? ⟨g, 0, none⟩ = some (.int .i64 last) ∧ X.cell? ⟨g, 1, none⟩ = some (.slice y n1 c'))
          (first | exact HBE.out _ B2 | exact HBE.out _ B1 | exact HBE.out _ D1 | exact ⟨(keep_far _ _ (by exact hng2) 0).trans ((keep_far _ _ (by exact hng2) 0).trans (HBE.out _ B2).1), (keep_far _ _ (by exact hng2) 1).trans ((keep_far _ _ (by exact hng2) 1).trans (HBE.out _ B2).2)⟩)
          (first
            | (go_at_call 49; refine (CV.out _).mono ?_; rintro e Z1 ⟨rfl, b1⟩; (have B1 := D1.trans (b1.mono D1.size)))
            | (go_at_call 75; refine (CT.out _).mono ?_; rintro e Z ⟨rfl, b2⟩; (have B2 := B1.trans (b2.mono B1.size)); (obtain ⟨m0, m1, m2, m3⟩ := HRE.out _ B2)))
        all_goals
          have HF2 : Hid _ := HF.out _ B2
          clear HF HBE HRE
          go_wp2
          refine bodyPost_ret (v := .tuple #[.string (txt t0 ++ txt t1), .agg #[.int .i64 last, .slice y n1 c']]) (by simp [results, Tryd.results53, go_sem, *]) rfl ⟨y, c', ?_, ?_, HF2.out.2⟩
          · rw [HE.out, HTT.out, HTA.out, HL1.out]
          · rw [HE.out, HL1.out]; exact HF2.out.1

end Go.Proofs.YtcjpepdagnifiaaDoor

namespace Go.Proofs.YtcjpepdagnifiaaDoor
open Go.RowKit
set_option linter.unusedVariables false
set_option maxRecDepth 100000

/-- A row of numbers that no step writes, in every later world. -/
theorem rdI_kb {n b : Nat} {X Y : World} {a : Option Addr} {zs : List Int} (h : RdI X a zs) (hf0 : zs ≠ [] → Far n b X a) (k : Kb n b X Y) : RdI Y a zs := by
  intro j hj
  have hf := hf0 (fun e => by subst e; simp at hj)
  obtain ⟨g, off, rfl, hg, hc⟩ := h j hj
  have hs : Safe n b X g := hf ⟨g, off, none⟩ rfl
  exact ⟨g, off, rfl, Nat.lt_of_lt_of_le hg k.size, (Safe.cell (p := ⟨g, off + j, none⟩) hs k).trans hc⟩
/-- The number ahead of number j. -/
def aheadAt (a : Int) (zs : List Int) (j : Nat) : Int := if j = 0 then a else zs.getD (j - 1) 0

set_option maxHeartbeats 4000000 in
theorem wAns_calls (n b : Nat) (P : PenD) (sv ev : Value) (l : List UInt8) (a : Int) (A : AnsD) (fa : Option Addr) (fc : Nat) (X : World) (h : WS n b P sv ev l X) (hl : l.length ≤ 800000) (ha : okZ a) (hF : RdI X fa A.freed) (hFar : A.freed ≠ [] → Far n b X fa) (hnf : A.freed.length ≤ 1048576) (hz : ∀ z ∈ A.freed, in64 z) (q : Bool) (hq : q = true ↔ SpeakA A) :
    Calls Tryd.prog 87 #[.pointer (some ⟨b, 0, none⟩), .agg #[.int .i64 A.code, .int .i64 A.val, .slice fa A.freed.length fc], .int .i64 a] X fun e X' => PostW n b P sv ev (l ++ ansT a A) q X e X' := by
  obtain ⟨ac, av, zs⟩ := A
  simp only at hF hnf hz hFar ⊢
  have hbX := h.wr.pen.2.2
  obtain ⟨m, hm⟩ : ∃ m, zs.length = m := ⟨_, rfl⟩
  have Hm : Hid (zs.length = m) := hm
  rw [hm] at hnf ⊢
  obtain ⟨X1, hX1⟩ : ∃ X1, X1 = X.alloc (.cells #[.int .i64 ac, .int .i64 av, .slice fa m fc] 30) := ⟨_, rfl⟩
  have B1 : Below X.heap.size X X1 := by rw [hX1]; exact (Below.refl _ _).alloc (Nat.le_refl _) _
  have W0 : WS n b P sv ev l X1 := h.later B1
  have K0 : Kb n b X X1 := Kb.of B1 h.cx.2.2
  have HO : Hid (∀ Y, Kb n b X1 Y → Y.cell? ⟨X.heap.size, 0, none⟩ = some (.int .i64 ac) ∧ Y.cell? ⟨X.heap.size, 1, none⟩ = some (.int .i64 av) ∧ Y.cell? ⟨X.heap.size, 2, none⟩ = some (.slice fa m fc)) := fun Y hY => by
    have hs : Safe n b X1 X.heap.size := by rw [hX1]; exact Safe.new X _ _ (by decide) hbX
    have e : ∀ k, Y.cell? ⟨X.heap.size, k, none⟩ = (#[.int .i64 ac, .int .i64 av, .slice fa m fc] : Array Value)[k]? := fun k => by
      rw [Safe.cell (p := ⟨X.heap.size, k, none⟩) hs hY, hX1, World.cell?_alloc_mark]
    exact ⟨e 0, e 1, e 2⟩
  have HF : Hid (∀ Y, Kb n b X1 Y → RdI Y fa zs) := fun Y hY => rdI_kb hF hFar (K0.trans hY)
  have CN : Hid (∀ (x a : Int) (l2 : List UInt8) (Y : World) (q2 : Bool), WS n b P sv ev l2 Y → l2.length ≤ 1000000 → (in64 a ∧ (okZ x → okZ a)) → (q2 = true ↔ okZ x) → _) := fun x a l2 Y q2 h1 h2 h3 h4 => wNum_calls n b P sv ev l2 x a Y h1 h2 h3 q2 h4
  have CC : Hid (∀ (x m : Int) (l2 : List UInt8) (Y : World) (q2 : Bool), WS n b P sv ev l2 Y → l2.length ≤ 1000000 → (q2 = true ↔ 0 ≤ x ∧ x ≤ m) → _) := fun x m l2 Y q2 h1 h2 h4 => wCnt_calls n b P sv ev l2 x m Y h1 h2 q2 h4
  have HSP : Hid (q = true ↔ SpeakA ⟨ac, av, zs⟩) := hq
  have HT : Hid (ansT a ⟨ac, av, zs⟩ = varZ ac ++ (showZ (av - a) ++ (varZ (m : Int) ++ freedT a zs))) := by show _ = _; unfold ansT; rw [← hm]
  have HA : Hid (okZ a) := ha
  have z1 := varZ_length ac
  have z2 := showZ_length (av - a)
  have z3 := varZ_length (m : Int)
  obtain ⟨c0, c1, c2⟩ := HO.out _ (Kb.refl _ _ _)
  clear h hq B1 hF hFar hm ha
  have C1 := CC.out ac 6 l X1 (decide (0 ≤ ac ∧ ac ≤ 6)) W0 (by omega) decide_eq_true_iff
  have HC1 : Hid _ := C1
  clear C1
  go_enter Tryd.func87, Tryd.ntmps87
  go_wp2_with fail
  rw [← hX1]
  clear hX1
  refine (Calls.mono HC1.out ?_)
  rintro e Y1 ⟨hy, hn, kk⟩
  by_cases k1 : Hid (0 ≤ ac ∧ ac ≤ 6)
  case neg =>
    obtain ⟨rfl, l2, H2⟩ := hn (decide_eq_false (p := 0 ≤ ac ∧ ac ≤ 6) k1)
    have hq0 := q_no HSP.out (fun hh => k1 hh.1)
    subst hq0
    have HF2 : Hid (PostW n b P sv ev (l ++ ansT a ⟨ac, av, zs⟩) false X _ Y1) := postW_no H2 (K0.trans kk)
    clear hn hy H2 c0 c1 c2
    go_wp2
    exact ⟨rfl, HF2.out⟩
  obtain ⟨rfl, W1⟩ := hy (decide_eq_true (p := 0 ≤ ac ∧ ac ≤ 6) k1)
  have K1 := kk
  clear hy hn HC1 c0 c1 c2 W0 kk
  obtain ⟨c0, c1, c2⟩ := HO.out _ K1
  have C2 := CN.out av a _ _ (decide (okZ av)) W1 (by rw [List.length_append]; omega) ⟨⟨by have := HA.out; omega, by have := HA.out; omega⟩, fun _ => HA.out⟩ decide_eq_true_iff
  have HC2 : Hid _ := C2
  clear C2
  go_wp2_with fail
  refine (Calls.mono HC2.out ?_)
  rintro e Y2 ⟨hy, hn, kk⟩
  by_cases k2 : Hid (okZ av)
  case neg =>
    obtain ⟨rfl, l2, H2⟩ := hn (decide_eq_false (p := okZ av) k2)
    have hq0 := q_no HSP.out (fun hh => k2 hh.2.1)
    subst hq0
    have HF2 : Hid (PostW n b P sv ev (l ++ ansT a ⟨ac, av, zs⟩) false X _ Y2) := postW_no H2 (K0.trans (K1.trans kk))
    clear hn hy H2 c0 c1 c2
    go_wp2
    exact ⟨rfl, HF2.out⟩
  obtain ⟨rfl, W2⟩ := hy (decide_eq_true (p := okZ av) k2)
  have K2 := K1.trans kk
  clear hy hn HC2 c0 c1 c2 W1 kk K1
  obtain ⟨c0, c1, c2⟩ := HO.out _ K2
  have C3 := CC.out (m : Int) 8 _ _ (decide (0 ≤ (m : Int) ∧ (m : Int) ≤ 8)) W2 (by simp only [List.length_append]; omega) decide_eq_true_iff
  have HC3 : Hid _ := C3
  clear C3
  go_wp2_with fail
  refine (Calls.mono HC3.out ?_)
  rintro e Y3 ⟨hy, hn, kk⟩
  by_cases k3 : Hid (0 ≤ (m : Int) ∧ (m : Int) ≤ 8)
  case neg =>
    obtain ⟨rfl, l2, H2⟩ := hn (decide_eq_false (p := 0 ≤ (m : Int) ∧ (m : Int) ≤ 8) k3)
    have hq0 := q_no HSP.out (fun hh => k3 ⟨by omega, by have h1 := hh.2.2.1; have h2 := Hm.out; simp only at h1; omega⟩)
    subst hq0
    have HF2 : Hid (PostW n b P sv ev (l ++ ansT a ⟨ac, av, zs⟩) false X _ Y3) := postW_no H2 (K0.trans (K2.trans kk))
    clear hn hy H2 c0 c1 c2
    go_wp2
    exact ⟨rfl, HF2.out⟩
  obtain ⟨rfl, W3⟩ := hy (decide_eq_true (p := 0 ≤ (m : Int) ∧ (m : Int) ≤ 8) k3)
  have hm8 : m ≤ 8 := by have := k3.out; omega
  have K3 := K2.trans kk
  clear hy hn HC3 c0 c1 c2 W2 kk K2
  obtain ⟨c0, c1, c2⟩ := HO.out _ K3
  obtain ⟨L, hL⟩ : ∃ L, l ++ varZ ac ++ showZ (av - a) ++ varZ (m : Int) = L := ⟨_, rfl⟩
  have hLl : L.length ≤ 800021 := by rw [← hL]; simp only [List.length_append]; omega
  have HLT : Hid (l ++ ansT a ⟨ac, av, zs⟩ = L ++ freedT a zs) := by show _ = _; rw [HT.out, ← hL]; simp only [List.append_assoc]
  rw [hL] at W3
  have HW3 : Hid (WS n b P sv ev L Y3) := W3
  have HK3 : Hid (Kb n b X1 Y3) := K3
  clear hL W3 K3 HT z1 z2 z3
  go_wp2
  clear c0 c1 c2
  go_loopw [2, 25] (fun h i wr => ∃ j : Nat, j ≤ m ∧ i = .int .i64 (j : Int) ∧ h = .int .i64 (aheadAt a zs j) ∧ Hid (WS n b P sv ev (L ++ freedT a (zs.take j)) wr) ∧ Hid (Kb n b X1 wr) ∧ Hid (∀ k (h : k < zs.length), k < j → okZ zs[k])) (fun _ i _ => m - (intOf i).toNat)
  case atStart => exact ⟨0, Nat.zero_le _, rfl, rfl, by simp only [List.take_zero, freedT, List.append_nil]; exact HW3, HK3, fun k _ hk => absurd hk (Nat.not_lt_zero _)⟩
  case round =>
    clear HW3 HK3
    obtain ⟨j, hj, rfl, rfl, HW, HK, HZ⟩ := hrel
    by_cases hlt : j < m
    · have hj2 : j < zs.length := by have := Hm.out; omega
      obtain ⟨g, off, rfl, hg, hc⟩ := HF.out _ HK.out j hj2
      have hok : okZ (aheadAt a zs j) := by
        unfold aheadAt
        by_cases h0 : j = 0
        · rw [if_pos h0]; exact HA.out
        · rw [if_neg h0, List.getD_eq_getElem?_getD, List.getElem?_eq_getElem (by omega)]
          exact HZ.out (j - 1) (by omega) (by omega)
      have hft := freedT_take zs a j hj2
      have htl := freedT_length (zs.take j) a
      rw [List.length_take] at htl
      have hzj := hz _ (List.getElem_mem hj2)
      have CJ := CN.out zs[j] (aheadAt a zs j) _ wr (decide (okZ zs[j])) HW.out (by rw [List.length_append]; omega) ⟨⟨by omega, by omega⟩, fun _ => hok⟩ decide_eq_true_iff
      have HNX : Hid (L ++ freedT a (zs.take (j + 1)) = L ++ freedT a (zs.take j) ++ showZ (zs[j] - aheadAt a zs j)) := by show _ = _; rw [hft, List.append_assoc]; rfl
      have HAH : Hid (aheadAt a zs (j + 1) = zs[j]) := by
        show _ = _
        unfold aheadAt
        rw [if_neg (by omega), Nat.add_sub_cancel, List.getD_eq_getElem?_getD, List.getElem?_eq_getElem hj2]; rfl
      rw [← HNX.out] at CJ
      have HCJ : Hid _ := CJ
      have HZJ : Hid (∀ h : okZ zs[j], ∀ k (h : k < zs.length), k < j + 1 → okZ zs[k]) := fun h k hk hk2 => by
        rcases Nat.lt_or_ge k j with h3 | h3
        · exact HZ.out k hk h3
        · obtain rfl : k = j := by omega
          exact h
      have HNO : Hid (¬ okZ zs[j] → q = false) := fun hn => q_no HSP.out (fun hh => hn (hh.2.2.2 _ (List.getElem_mem hj2)))
      have i1 : (j : Int) < (m : Int) := by omega
      have i0 : (0 : Int) ≤ (j : Int) := by omega
      clear hft htl hok CJ HNX hzj HZ
      generalize aheadAt a zs j = h0 at *
      generalize zs[j] = z at *
      go_wp2_with fail
      refine (Calls.mono HCJ.out ?_)
      rintro e Y4 ⟨hy, hn, kk⟩
      by_cases k4 : Hid (okZ z)
      case neg =>
        obtain ⟨rfl, l2, H2⟩ := hn (decide_eq_false (p := okZ z) k4)
        have hq0 := HNO.out k4
        subst hq0
        have HF2 : Hid (PostW n b P sv ev (l ++ ansT a ⟨ac, av, zs⟩) false X _ Y4) := postW_no H2 (K0.trans (HK.out.trans kk))
        clear hn hy H2 hc
        go_wp2
        exact ⟨rfl, HF2.out⟩
      obtain ⟨rfl, W4⟩ := hy (decide_eq_true (p := okZ z) k4)
      have HW4 : Hid _ := W4
      have HK4 : Hid (Kb n b X1 Y4) := HK.out.trans kk
      clear hy hn hc W4 kk HCJ HW HK
      go_wp2
      go_roundw
      case rel => exact ⟨j + 1, by omega, by go_num, by rw [HAH.out], HW4, HK4, HZJ.out k4⟩
      case measure => simp [intOf]; omega
    · obtain rfl : j = m := by omega
      have hq1 : q = true := HSP.out.2 ⟨k1, k2, by have := Hm.out; simp only; omega, fun z hz2 => by
        obtain ⟨k, hk, rfl⟩ := List.mem_iff_getElem.1 hz2
        exact HZ.out k hk (by have := Hm.out; have h2 : k < zs.length := hk; omega)⟩
      subst hq1
      have HF2 : Hid (PostW n b P sv ev (l ++ ansT a ⟨ac, av, zs⟩) true X (.returned (.tuple #[])) wr) := by
        rw [HLT.out]
        refine postW_yes ?_ (K0.trans HK.out)
        have hw := HW.out
        rw [List.take_of_length_le (by have := Hm.out; omega)] at hw
        exact hw
      clear HW HK HZ
      go_wp2
      go_end0
      exact HF2.out

end Go.Proofs.YtcjpepdagnifiaaDoor

namespace Go.Proofs.YtcjpepdagnifiaaDoor
open Go.RowKit
set_option linter.unusedVariables false
set_option maxRecDepth 100000

/-- As Kb, but the names' row (vo) may be another. -/
structure Ke (n b : Nat) (vo : Option Nat) (X Y : World) : Prop where
  os : Y.os = X.os
  tape : Y.tape = X.tape
  output : Y.output = X.output
  size : X.heap.size ≤ Y.heap.size
  block : ∀ g, g ≠ b → vo ≠ some g → (g < n ∨ NotB X g) → Y.heap[g]? = X.heap[g]?
theorem Ke.of {n b : Nat} {vo : Option Nat} {X Y : World} (h : Kb n b X Y) : Ke n b vo X Y := ⟨h.os, h.tape, h.output, h.size, fun g h1 _ h3 => h.block g h1 h3⟩
theorem Ke.move {n b : Nat} {vo : Option Nat} {X Y Z : World} (h : Kb n b X Y) (k : Mv b vo Y Z) (hn : n ≤ X.heap.size) : Ke n b vo X Z := by
  refine ⟨k.os.trans h.os, k.tape.trans h.tape, k.output.trans h.output, Nat.le_trans h.size k.size, fun g h1 h2 h3 => ?_⟩
  have e := h.block g h1 h3
  refine (k.block g ?_ h1 h2).trans e
  have := h.size
  rcases h3 with h3 | h3
  · omega
  · have := h3.lt; omega

theorem opLoadOpv {t i : Tmp} {ty : TypeId} {pos : String} {af : Array Edge} {a : Act} {X : World} {K : Act → World → Prop} {Q : Exit → Act → World → Prop} {g : Nat} {o : OpD} (h1 : a.eval (.tmp i) = .pointer (some ⟨g, 0, none⟩)) (hc : OpAt g o X) (hK : K (a.put (some t) (opV o)) X) :
    Oper.wp Tryd.prog ⟨some t, .load 27 (.tmp i), ty, pos, af, none⟩ a X K Q := by
  have h := ev_tmp h1
  obtain ⟨c0, c1, c2, c3, c4⟩ := hc.cells
  unfold opV at hK
  clear hc
  go_simp; exact hK
theorem opCallMove {t i j : Tmp} {ty : TypeId} {pos : String} {af : Array Edge} {ats : Array TypeId} {a : Act} {X : World} {K : Act → World → Prop} {Q : Exit → Act → World → Prop} {u v : Value} {post : Ending → World → Prop} (h1 : a.eval (.tmp i) = u) (h2 : a.eval (.tmp j) = v) (hC : Calls Tryd.prog 62 #[u, v] X post) (hK : ∀ e w', post e w' → ∃ x, e = .returned x ∧ K (a.put (some t) x) w') :
    Oper.wp Tryd.prog ⟨some t, .call { callee := .value (.func 62), args := #[.tmp i, .tmp j], argTypes := ats }, ty, pos, af, none⟩ a X K Q := by
  have e1 := ev_tmp h1
  have e2 := ev_tmp h2
  go_simp
  refine hC.mono (fun e w' hp => ?_)
  obtain ⟨x, rfl, hx⟩ := hK e w' hp
  exact hx

/-- What the whole event leaves. -/
def PostE (n b B : Nat) (P : PenD) (sv ev : Value) (o : OpD) (A : AnsD) (q : Bool) (X : World) (e : Ending) (Y : World) : Prop :=
  (q = true → e = .returned (.tuple #[]) ∧ ∃ x c, Wr n b o.a (.slice x (penB P o).sites.length c) (evT P o A) Y ∧ ownS Y B (.slice x (penB P o).sites.length c) (penB P o).sites) ∧
  (q = false → e = .panicked (pan ev) ∧ (∃ l2, WS n b P sv ev l2 Y) ∧ ownS Y B sv P.sites) ∧ Ke n b sv.ownBlock X Y

set_option maxHeartbeats 4000000 in
theorem wEvent_calls (n b B : Nat) (P : PenD) (sa : Option Addr) (sc : Nat) (ev : Value) (o : OpD) (A : AnsD) (fa : Option Addr) (fc : Nat) (X : World) (h : WS n b P (.slice sa P.sites.length sc) ev [] X) (hO : ownS X B (.slice sa P.sites.length sc) P.sites) (hBX : B ≤ n) (hBb : B ≤ b) (hs : SmallP P) (hx0 : o.site.length ≤ 1048576) (hso : SaneOp o) (hF : RdI X fa A.freed) (hFar : A.freed ≠ [] → Far n b X fa) (hnf : A.freed.length ≤ 1048576) (hz : ∀ z ∈ A.freed, in64 z) (q : Bool) (hq : q = true ↔ EvR P o A) :
    Calls Tryd.prog 69 #[.pointer (some ⟨b, 0, none⟩), opV o, .agg #[.int .i64 A.code, .int .i64 A.val, .slice fa A.freed.length fc]] X fun e Y => PostE n b B P (.slice sa P.sites.length sc) ev o A q X e Y := by
  have hbX := h.wr.pen.2.2
  obtain ⟨X0, hX0⟩ : ∃ X0, X0 = X.alloc (.cells #[.int .i64 o.kind, .int .i64 o.a, .int .i64 o.b, .int .i64 o.c, .string (txt o.site)] 27) := ⟨_, rfl⟩
  obtain ⟨X1, hX1⟩ : ∃ X1, X1 = X0.alloc (.cells #[.int .i64 A.code, .int .i64 A.val, .slice fa A.freed.length fc] 30) := ⟨_, rfl⟩
  have b0 : Below X.heap.size X X0 := by rw [hX0]; exact (Below.refl _ _).alloc (Nat.le_refl _) _
  have b1 : Below X0.heap.size X0 X1 := by rw [hX1]; exact (Below.refl _ _).alloc (Nat.le_refl _) _
  have s0 : X0.heap.size = X.heap.size + 1 := by rw [hX0]; simp
  have s1 : X1.heap.size = X.heap.size + 1 + 1 := by rw [hX1]; simp [s0]
  have B1 : Below X.heap.size X X1 := b0.trans (b1.mono (by omega))
  have W0 : WS n b P (.slice sa P.sites.length sc) ev [] X1 := h.later B1
  have K0 : Kb n b X X1 := Kb.of B1 h.cx.2.2
  have hnX : n ≤ X.heap.size := h.cx.2.2
  have hop : OpAt X.heap.size o X1 := by
    intro k
    rw [b1.cell (p := ⟨X.heap.size, k, none⟩) (by show X.heap.size < _; omega), hX0, World.cell?_alloc_mark]
  have hsafe : Safe n b X1 X.heap.size := ⟨by omega, .inr ⟨.cells #[.int .i64 o.kind, .int .i64 o.a, .int .i64 o.b, .int .i64 o.c, .string (txt o.site)] 27 (0, 0), by rw [b1.block X.heap.size (by omega), hX0]; exact heap_alloc_new X _, fun c2 fr e => by cases e⟩⟩
  have HO : Hid (∀ Y, Kb n b X1 Y → OpAt X.heap.size o Y) := fun Y hY => hop.kb hsafe hY
  have hasafe : Safe n b X1 (X.heap.size + 1) := by
    have h2 := Safe.new (n := n) (b := b) X0 #[.int .i64 A.code, .int .i64 A.val, .slice fa A.freed.length fc] 30 (by decide) (by omega)
    rw [← hX1, s0] at h2
    exact h2
  have HAN : Hid (∀ Y, Kb n b X1 Y → Y.cell? ⟨X.heap.size + 1, 0, none⟩ = some (.int .i64 A.code) ∧ Y.cell? ⟨X.heap.size + 1, 1, none⟩ = some (.int .i64 A.val) ∧ Y.cell? ⟨X.heap.size + 1, 2, none⟩ = some (.slice fa A.freed.length fc)) := fun Y hY => by
    have e : ∀ k, Y.cell? ⟨X.heap.size + 1, k, none⟩ = (#[.int .i64 A.code, .int .i64 A.val, .slice fa A.freed.length fc] : Array Value)[k]? := fun k => by
      rw [Safe.cell (p := ⟨X.heap.size + 1, k, none⟩) hasafe hY, hX1, ← s0, World.cell?_alloc_mark]
    exact ⟨e 0, e 1, e 2⟩
  have HFI : Hid (∀ Y, Kb n b X1 Y → RdI Y fa A.freed ∧ (A.freed ≠ [] → Far n b Y fa)) := fun Y hY => ⟨rdI_kb hF hFar (K0.trans hY), fun he => (hFar he).kb (K0.trans hY)⟩
  have HOW : Hid (∀ Y, Kb n b X1 Y → ownS Y B (.slice sa P.sites.length sc) P.sites) := fun Y hY => by
    obtain ⟨sa2, sc2, e2, -, -, hfar⟩ := h.names
    simp only [Value.slice.injEq] at e2
    obtain ⟨rfl, -, rfl⟩ := e2
    refine row_same hO (fun g hg => ?_)
    obtain ⟨x, hx, e3⟩ := own_some hg
    have h4 := hfar x hx
    rw [e3] at h4
    exact h4.same (K0.trans hY)
  have HSP : Hid (q = true ↔ EvR P o A) := hq
  obtain ⟨qr, hqr⟩ := bool_of (PenR P)
  obtain ⟨qo, hqo⟩ := bool_of (SpeakO o)
  obtain ⟨qa, hqa⟩ := bool_of (SpeakA A)
  have HQO : Hid (qo = true ↔ SpeakO o) := hqo
  have HQA : Hid (qa = true ↔ SpeakA A) := hqa
  have CR : Hid (∀ _ : Unit, _) := fun (_ : Unit) => right_calls b P _ X1 W0.pen hs qr hqr
  have CMY : Hid (∀ _ : Unit, _) := fun (_ : Unit) => must_yes X1
  have CMN : Hid (∀ _ : Unit, _) := fun (_ : Unit) => must_no X1 ev W0.cx.1
  have HNO : Hid (∀ l2 Y, WS n b P (.slice sa P.sites.length sc) ev l2 Y → Kb n b X1 Y → PostE n b B P (.slice sa P.sites.length sc) ev o A false X (.panicked (pan ev)) Y) := fun l2 Y h1 h2 =>
    ⟨fun h => (nomatch h), fun _ => ⟨rfl, ⟨l2, h1⟩, HOW.out Y h2⟩, Ke.of (K0.trans h2)⟩
  by_cases hpr : Hid (PenR P)
  case neg =>
    have hq0 := q_no HSP.out (fun hh => hpr hh.2.2)
    have hqr0 := q_no hqr hpr
    subst hq0 hqr0
    have HF : Hid (PostE n b B P (.slice sa P.sites.length sc) ev o A false X (.panicked (pan ev)) X1) := HNO.out _ _ W0 (Kb.refl _ _ _)
    clear hop hsafe hasafe h hO hq hqr hqo hqa W0 K0 B1 b0 b1 HO HAN HFI HOW HNO HSP CMY hF hFar hz
    unfold opV
    go_enter Tryd.func69, Tryd.ntmps69
    go_wp2_with fail
    rw [← hX0, ← hX1]
    clear hX0 hX1
    refine (CR.out ()).mono ?_
    rintro e w1 ⟨rfl, hw⟩
    subst hw
    go_wp2_with fail
    refine (CMN.out ()).mono ?_
    rintro e w1 ⟨rfl, hw⟩
    subst hw
    go_wp2
    exact ⟨rfl, HF.out⟩
  have hqr1 : qr = true := hqr.2 hpr
  subst hqr1
  have CO : Hid (∀ _ : Unit, _) := fun (_ : Unit) => wOp_calls n b P _ ev [] o X1 W0 (by simp) hs hpr.out.1 hx0 hso qo hqo
  rw [List.nil_append] at CO
  have CA : Hid (∀ (l2 : List UInt8) (Y : World), WS n b P (.slice sa P.sites.length sc) ev l2 Y → l2.length ≤ 800000 → Kb n b X1 Y → okZ o.a → _) := fun l2 Y h1 h2 h3 h4 => wAns_calls n b P _ ev l2 o.a A fa fc Y h1 h2 h4 (HFI.out Y h3).1 (HFI.out Y h3).2 hnf hz qa hqa
  have CM : Hid (∀ (T : TypeId) (tl : List Value) (Y : World), T ≠ 9 → Box Y b T (.int .i64 P.last) (.slice sa P.sites.length sc) tl → Kb n b X1 Y → _) := fun T tl Y h1 h2 h3 => moveOn_calls b T h1 tl P sa sc o B Y h2 (HOW.out Y h3) hs hx0 (by have := h3.size; omega) hBb
  have HOL := opT_length P.last P.sites o
  have HEV : Hid (evT P o A = opT P.last P.sites o ++ ansT o.a A) := rfl
  have hsz := h.wr.pen.2.2
  have hX1n : n ≤ X1.heap.size := by omega
  obtain ⟨c0, c1, c2, c3, c4⟩ := hop.cells
  obtain ⟨d0, d1, d2⟩ := HAN.out _ (Kb.refl _ _ _)
  have HKE : Hid (∀ Y Z, Kb n b X1 Y → Mv b (Value.slice sa P.sites.length sc).ownBlock Y Z → Ke n b (Value.slice sa P.sites.length sc).ownBlock X Z) := fun Y Z h1 h2 => Ke.move (K0.trans h1) h2 hnX
  clear hop hsafe hasafe h hO hq hqr hqa W0 K0 B1 b0 b1 HFI hF hFar hz CMN
  have HOZ : Hid (∀ Y, Kb n b X1 Y → ownS Y B (.slice sa P.sites.length sc) P.sites) := HOW.out
  clear HOW
  obtain ⟨ok, oa, ob, oc, os⟩ := o
  obtain ⟨ac, av, zs⟩ := A
  simp only at *
  unfold opV at CO CM ⊢
  simp only at CO CM ⊢
  go_enter Tryd.func69, Tryd.ntmps69
  go_wp2_with fail
  rw [← hX0, ← hX1]
  clear hX0 hX1
  refine (CR.out ()).mono ?_
  rintro e w1 ⟨rfl, hw⟩
  subst hw
  go_wp2_with fail
  refine (CMY.out ()).mono ?_
  rintro e w2 ⟨rfl, hw⟩
  subst hw
  go_wp2_with fail
  refine (CO.out ()).mono ?_
  rintro e Y1 ⟨hy, hn, kk⟩
  by_cases k1 : Hid (SpeakO ⟨ok, oa, ob, oc, os⟩)
  case neg =>
    have hqo0 := q_no HQO.out k1
    obtain ⟨rfl, l2, H2⟩ := hn hqo0
    have hq0 := q_no HSP.out (fun hh => k1 hh.1)
    subst hq0
    have HF : Hid (PostE n b B P (.slice sa P.sites.length sc) ev ⟨ok, oa, ob, oc, os⟩ ⟨ac, av, zs⟩ false X (.panicked (pan ev)) Y1) := HNO.out _ _ H2 kk
    clear hn hy H2 c0 c1 c2 c3 c4 d0 d1 d2 HO HAN HNO HSP CO CA CM HKE HEV HQO HQA
    go_wp2
    exact ⟨rfl, HF.out⟩
  obtain ⟨rfl, W1⟩ := hy (HQO.out.2 k1)
  clear hy hn c0 c1 c2 c3 c4 d0 d1 d2 CO CR CMY HQO
  obtain ⟨c0, c1, c2, c3, c4⟩ := (HO.out _ kk).cells
  obtain ⟨d0, d1, d2⟩ := HAN.out _ kk
  simp only at c0 c1 c2 c3 c4
  have C2 := CA.out _ Y1 W1 (by omega) kk k1.out.2.1
  have HC2 : Hid _ := C2
  have K1 := kk
  clear C2 CA W1 kk
  go_wp2_with fail
  refine (Calls.mono HC2.out ?_)
  rintro e Y2 ⟨hy, hn, kk⟩
  by_cases k2 : Hid (SpeakA ⟨ac, av, zs⟩)
  case neg =>
    have hqa0 := q_no HQA.out k2
    obtain ⟨rfl, l2, H2⟩ := hn hqa0
    have hq0 := q_no HSP.out (fun hh => k2 hh.2.1)
    subst hq0
    have HF : Hid (PostE n b B P (.slice sa P.sites.length sc) ev ⟨ok, oa, ob, oc, os⟩ ⟨ac, av, zs⟩ false X (.panicked (pan ev)) Y2) := HNO.out _ _ H2 (K1.trans kk)
    clear hn hy H2 c0 c1 c2 c3 c4 d0 d1 d2 HO HAN HNO HSP CM HKE HEV HQA
    go_wp2
    exact ⟨rfl, HF.out⟩
  obtain ⟨rfl, W2⟩ := hy (HQA.out.2 k2)
  have K2 := K1.trans kk
  have hq1 : q = true := HSP.out.2 ⟨k1.out, k2.out, hpr.out⟩
  clear hy hn c0 c1 c2 c3 c4 d0 d1 d2 HQA HNO HSP HC2 HAN K1 kk
  subst hq1
  rw [← HEV.out] at W2
  have HOY : Hid (∀ Y, Below Y2.heap.size Y2 Y → OpAt X.heap.size ⟨ok, oa, ob, oc, os⟩ Y ∧ WS n b P (.slice sa P.sites.length sc) ev (evT P ⟨ok, oa, ob, oc, os⟩ ⟨ac, av, zs⟩) Y ∧ Kb n b w2 Y) := fun Y hY => by
    have hk := K2.trans (Kb.of hY W2.cx.2.2)
    exact ⟨HO.out Y hk, W2.later hY, hk⟩
  clear HO W2 K2 HEV
  go_wp2
  refine wp_region_last 4 (by kernel_rfl) (by kernel_rfl) (RP 1000 noP [.pointer (some ⟨b, 0, none⟩), .pointer (some ⟨b, 0, none⟩), .pointer (some ⟨b, 0, none⟩), opV ⟨ok, oa, ob, oc, os⟩]) (rp_mono noP_mono) ?_ ?_
  · intro i o hi ho a Y hY hA hdep
    match i, hi, ho with
    | 0, _, ho =>
      obtain rfl := Option.some.inj ho
      exact opMove (alike_at hA (t := 0) (by kernel_rfl)) ⟨_, rfl, Below.refl _ _, rp_put (by decide) rfl⟩
    | 1, _, ho =>
      obtain rfl := Option.some.inj ho
      have g0_ : a.eval (.tmp 19) = .pointer (some ⟨b, 0, none⟩) := rp_at (hdep ⟨0, .data⟩ (by simp) rfl 19 rfl) (by decide) rfl
      exact opNil g0_ ⟨_, rfl, Below.refl _ _, rp_put (by decide) rfl⟩
    | 2, _, ho =>
      obtain rfl := Option.some.inj ho
      have g0_ : a.eval (.tmp 20) = .pointer (some ⟨b, 0, none⟩) := rp_at (hdep ⟨1, .data⟩ (by simp) rfl 20 rfl) (by decide) rfl
      exact opFieldWr0 g0_ ⟨_, rfl, Below.refl _ _, rp_put (by decide) rfl⟩
    | 3, _, ho =>
      obtain rfl := Option.some.inj ho
      exact opLoadOpv (alike_at hA (t := 4) (by kernel_rfl)) (HOY.out Y hY).1 ⟨_, rfl, Below.refl _ _, rp_put (by decide) rfl⟩
  · intro o ho a Y hY hA hdep
    obtain rfl := Option.some.inj ho
    have g0_ : a.eval (.tmp 21) = .pointer (some ⟨b, 0, none⟩) := rp_at (hdep ⟨2, .data⟩ (by simp) rfl 21 rfl) (by decide) rfl
    have g1_ : a.eval (.tmp 22) = opV ⟨ok, oa, ob, oc, os⟩ := rp_at (hdep ⟨3, .data⟩ (by simp) rfl 22 rfl) (by decide) rfl
    obtain ⟨-, y2, y3⟩ := HOY.out Y hY
    obtain ⟨p, v, hbk, hp, hown⟩ := y2.wr
    have hbox : Box Y b 100 (.int .i64 P.last) (.slice sa P.sites.length sc) [p, v] := hbk
    refine opCallMove g0_ g1_ (CM.out 100 [p, v] Y (by decide) hbox y3) ?_
    rintro e Z ⟨rfl, x, c, hbz, hoz, hmv⟩
    refine ⟨_, rfl, ?_⟩
    obtain ⟨us, hus, rfl⟩ := alike_tmps hA [19, 20, 21, 22, 23] (by kernel_rfl)
    have hrow : Z.ownsRow n 5 1 v (evT P ⟨ok, oa, ob, oc, os⟩ ⟨ac, av, zs⟩).length (Lib.byteCells (evT P ⟨ok, oa, ob, oc, os⟩ ⟨ac, av, zs⟩)) := by
      refine row_same hown (fun g hg => ?_)
      obtain ⟨cur, hk⟩ := row_kind hown g hg
      refine hmv.block g (hown.lt g hg).2 (fun e => ?_) (fun e => ?_)
      · rw [e, hbk] at hk
        simp only [Option.some.injEq, Obj.cells.injEq] at hk
        exact absurd hk.2.1 (by decide)
      · obtain ⟨sa2, sc2, e2, -, -, hfar⟩ := y2.names
        simp only [Value.slice.injEq] at e2
        obtain ⟨rfl, -, rfl⟩ := e2
        obtain ⟨x2, hx2, e3⟩ := own_some e
        obtain ⟨cur2, hk2⟩ := row_kind (HOZ.out Y y3) g e
        rw [hk] at hk2
        simp only [Option.some.injEq, Obj.cells.injEq] at hk2
        exact absurd hk2.2.1 (by decide)
    have HF : Hid (PostE n b B P (.slice sa P.sites.length sc) ev ⟨ok, oa, ob, oc, os⟩ ⟨ac, av, zs⟩ true X (.returned (.tuple #[])) Z) :=
      ⟨fun _ => ⟨rfl, x, c, ⟨p, v, hbz, hp, hrow⟩, hoz⟩, fun h => (nomatch h), HKE.out Y Z y3 hmv⟩
    clear hA hus hdep ho g0_ g1_ y2 y3 hbk hp hown hbox hbz hoz hmv hrow HOY HKE CM
    simp only [List.mapIdx_cons, List.mapIdx_nil, Nat.reduceAdd, List.contains_cons, List.contains_nil, Nat.reduceBEq, Bool.or_false, Bool.or_true, if_true, if_false, Bool.false_eq_true]
    go_end0
    exact HF.out

end Go.Proofs.YtcjpepdagnifiaaDoor

namespace Go.Proofs.YtcjpepdagnifiaaDoor
open Go.RowKit
set_option linter.unusedVariables false
set_option maxRecDepth 100000

theorem cellsByte : Tryd.prog.cellsOf 5 = 1 := by kernel_rfl

set_option maxHeartbeats 1000000 in
theorem wstring_calls (n b : Nat) (last : Int) (sv : Value) (l : List UInt8) (w : World) (h : Wr n b last sv l w) (h0 : l ≠ []) :
    Calls Tryd.prog 70 #[.pointer (some ⟨b, 2, none⟩)] w fun e w' => e = .returned (.string (txt l)) ∧ Kb n b w w' ∧ w'.heap[b]? = w.heap[b]? := by
  obtain ⟨p, v, hbk, hp, hown⟩ := h
  have hl0 : l.length ≠ 0 := by simpa using h0
  have hne := Lib.ownBlock_ne hown hbk (by decide)
  obtain ⟨g, cap, cur, rfl, hbg, hg, hnc, hcm, hcs, htake⟩ : ∃ g cap cur, v = .slice (some ⟨g, 0, none⟩) l.length cap ∧ n ≤ g ∧ w.heap[g]? = some (.cells cur 5 (0, 0)) ∧ l.length ≤ cap ∧ cap ≤ maxLen ∧ cur.size = cap * 1 ∧ cur.toList.take (l.length * 1) = Lib.byteCells l := by
    rcases hown.2 with ⟨_, hz⟩ | ⟨g, cap, cur, hv, r⟩
    · exact absurd hz hl0
    · exact ⟨g, cap, cur, hv, r⟩
  have c1 : w.drew.cell? ⟨b, 3, none⟩ = some (.slice (some ⟨g, 0, none⟩) l.length cap) := by
    have : w.drew.heap[b]? = some (.cells #[.int .i64 last, sv, p, .slice (some ⟨g, 0, none⟩) l.length cap] 100 (0, 0)) := hbk
    rw [Lib.cell_of_heap this]; rfl
  have hSD : (Builtin.unsafeSliceData_ #[96] 115 #[.slice (some ⟨g, 0, none⟩) l.length cap]).run Tryd.prog w.drew = .ok (.pointer (some ⟨g, 0, none⟩)) w.drew :=
    Lib.run_unsafeSliceData_row _ _ _ _ _ _ (by omega)
  have hUS : (Builtin.unsafeString_ #[115, 3] 9 #[.pointer (some ⟨g, 0, none⟩), .int .i64 l.length]).run Tryd.prog w.drew = .ok (.string ⟨l.toArray⟩) (w.drew.freeze ⟨g, 0, none⟩ l.length) := by
    refine Lib.run_unsafeString_row w.drew 115 3 9 5 Tryd.underlying115 cellsByte g cur.size (by have hg' : w.drew.heap[g]? = some (.cells cur 5 (0, 0)) := hg; simp [World.shape?, hg']) l h0 (by omega) (by unfold maxLen at hcm; omega) ?_
    intro j x hx
    have := hown.cells (g := g) rfl j (.int .u8 x.toNat) (by simp [Lib.byteCells, hx])
    exact this
  have HK : Hid (Kb n b w (w.drew.freeze ⟨g, 0, none⟩ l.length) ∧ (w.drew.freeze ⟨g, 0, none⟩ l.length).heap[b]? = w.heap[b]?) := by
    have hgb : g ≠ b := fun e => hne (by rw [e]; rfl)
    have e : ∀ k, k ≠ g → (w.drew.freeze ⟨g, 0, none⟩ l.length).heap[k]? = w.heap[k]? := fun k hk => by
      unfold World.freeze
      split
      · rfl
      · simp only [Array.getElem?_modify]
        rw [if_neg (fun e => hk e.symm)]
        rfl
    have hb0 := Lib.below_freeze (B := n) (Below.drew (Below.refl n w)) (p := ⟨g, 0, none⟩) hbg l.length
    refine ⟨⟨hb0.os, hb0.tape, hb0.output, hb0.size, fun k hk1 hk2 => e k (fun ek => ?_)⟩, e b (fun e => hgb e.symm)⟩
    rcases hk2 with hk2 | ⟨o, h1, h2⟩
    · omega
    · rw [ek, hg] at h1
      exact h2 _ _ (Option.some.inj h1).symm
  have c1' : (w.drew.freeze ⟨g, 0, none⟩ l.length).cell? ⟨b, 3, none⟩ = some (.slice (some ⟨g, 0, none⟩) l.length cap) := (World.cell?_of_block (a := ⟨b, 3, none⟩) HK.out.2).trans c1
  have mixed : Tryd.prog.follows .mixedOrders = true := by kernel_rfl
  clear hown hbk htake hcs hg hp hne
  go_enter Tryd.func70, Tryd.ntmps70
  go_wp2
  go_region_held (fun Y => Y.cell? ⟨b, 3, none⟩ = some (.slice (some ⟨g, 0, none⟩) l.length cap)) (first | exact c1 | exact c1') (fail)
  all_goals (go_wp2; go_ret; exact ⟨rfl, HK.out⟩)

end Go.Proofs.YtcjpepdagnifiaaDoor

namespace Go.Proofs.YtcjpepdagnifiaaDoor
open Go.RowKit
set_option linter.unusedVariables false
set_option maxRecDepth 100000

theorem shw1_calls (n b B go ga : Nat) (P : PenD) (sa : Option Addr) (sc : Nat) (ev : Value) (o : OpD) (A : AnsD) (fa : Option Addr) (fc : Nat) (X : World) (h : WS n b P (.slice sa P.sites.length sc) ev [] X) (hO : ownS X B (.slice sa P.sites.length sc) P.sites) (hBX : B ≤ n) (hBb : B ≤ b) (hs : SmallP P) (hx0 : o.site.length ≤ 1048576) (hso : SaneOp o) (hF : RdI X fa A.freed) (hFar : A.freed ≠ [] → Far n b X fa) (hnf : A.freed.length ≤ 1048576) (hz : ∀ z ∈ A.freed, in64 z) (q : Bool) (hq : q = true ↔ EvR P o A)
    (hop : OpAt go o X) (han : X.cell? ⟨ga, 0, none⟩ = some (.int .i64 A.code) ∧ X.cell? ⟨ga, 1, none⟩ = some (.int .i64 A.val) ∧ X.cell? ⟨ga, 2, none⟩ = some (.slice fa A.freed.length fc)) :
    Calls Tryd.prog 68 #[.pointer (some ⟨b, 0, none⟩), .pointer (some ⟨go, 0, none⟩), .pointer (some ⟨ga, 0, none⟩)] X fun e Y => PostE n b B P (.slice sa P.sites.length sc) ev o A q X e Y := by
  have C : Hid (∀ _ : Unit, _) := fun (_ : Unit) => wEvent_calls n b B P sa sc ev o A fa fc X h hO hBX hBb hs hx0 hso hF hFar hnf hz q hq
  obtain ⟨c0, c1, c2, c3, c4⟩ := hop.cells
  obtain ⟨d0, d1, d2⟩ := han
  clear h hO hop hs hso hF hFar hz hq
  obtain ⟨ok, oa, ob, oc, os⟩ := o
  obtain ⟨ac, av, zs⟩ := A
  simp only at *
  unfold opV at C
  simp only at C
  go_enter Tryd.func68, Tryd.ntmps68
  go_wp2_with fail
  refine (C.out ()).mono ?_
  rintro e Y hp
  cases q with
  | true =>
    obtain ⟨rfl, -⟩ := hp.1 rfl
    have HF : Hid (PostE n b B P (.slice sa P.sites.length sc) ev ⟨ok, oa, ob, oc, os⟩ ⟨ac, av, zs⟩ true X (.returned (.tuple #[])) Y) := hp
    clear hp
    go_wp2
    go_end0
    exact HF.out
  | false =>
    obtain ⟨rfl, -⟩ := hp.2.1 rfl
    have HF : Hid (PostE n b B P (.slice sa P.sites.length sc) ev ⟨ok, oa, ob, oc, os⟩ ⟨ac, av, zs⟩ false X (.panicked (pan ev)) Y) := hp
    clear hp
    go_wp2
    exact ⟨rfl, HF.out⟩

/-- What ShowEvent lays ahead of all. -/
theorem show_entry (w : World) (l : Int) (sv : Value) (o : OpD) (c v : Int) (fv : Value) (W : World) (hW : W = (((w.alloc (.cells #[.int .i64 l, sv] 31)).alloc (.cells #[.int .i64 o.kind, .int .i64 o.a, .int .i64 o.b, .int .i64 o.c, .string (txt o.site)] 27)).alloc (.cells #[.int .i64 c, .int .i64 v, fv] 30)).alloc (.cells #[.int .i64 0, .slice none 0 0] 31)) :
    Below w.heap.size w W ∧ W.heap.size = w.heap.size + 1 + 1 + 1 + 1 ∧ OpAt (w.heap.size + 1) o W ∧ (W.cell? ⟨w.heap.size + 1 + 1, 0, none⟩ = some (.int .i64 c) ∧ W.cell? ⟨w.heap.size + 1 + 1, 1, none⟩ = some (.int .i64 v) ∧ W.cell? ⟨w.heap.size + 1 + 1, 2, none⟩ = some fv) ∧ Two W (w.heap.size + 1 + 1 + 1) (.int .i64 0) (.slice none 0 0) := by
  obtain ⟨x1, h1⟩ : ∃ x1, x1 = w.alloc (.cells #[.int .i64 l, sv] 31) := ⟨_, rfl⟩
  obtain ⟨x2, h2⟩ : ∃ x2, x2 = x1.alloc (.cells #[.int .i64 o.kind, .int .i64 o.a, .int .i64 o.b, .int .i64 o.c, .string (txt o.site)] 27) := ⟨_, rfl⟩
  obtain ⟨x3, h3⟩ : ∃ x3, x3 = x2.alloc (.cells #[.int .i64 c, .int .i64 v, fv] 30) := ⟨_, rfl⟩
  rw [← h1, ← h2, ← h3] at hW
  have s1 : x1.heap.size = w.heap.size + 1 := by rw [h1]; simp
  have s2 : x2.heap.size = w.heap.size + 1 + 1 := by rw [h2]; simp [s1]
  have s3 : x3.heap.size = w.heap.size + 1 + 1 + 1 := by rw [h3]; simp [s2]
  have s4 : W.heap.size = w.heap.size + 1 + 1 + 1 + 1 := by rw [hW]; simp [s3]
  have b1 : Below w.heap.size w x1 := by rw [h1]; exact (Below.refl _ _).alloc (Nat.le_refl _) _
  have b2 : Below x1.heap.size x1 x2 := by rw [h2]; exact (Below.refl _ _).alloc (Nat.le_refl _) _
  have b3 : Below x2.heap.size x2 x3 := by rw [h3]; exact (Below.refl _ _).alloc (Nat.le_refl _) _
  have b4 : Below x3.heap.size x3 W := by rw [hW]; exact (Below.refl _ _).alloc (Nat.le_refl _) _
  have b34 : Below x2.heap.size x2 W := b3.trans (b4.mono b3.size)
  refine ⟨b1.trans ((b2.trans (b34.mono b2.size)).mono b1.size), s4, fun k => ?_, ?_, ?_⟩
  · rw [b34.cell (p := ⟨w.heap.size + 1, k, none⟩) (by show w.heap.size + 1 < _; omega), h2, ← s1, World.cell?_alloc_mark]
  · have e : ∀ k, W.cell? ⟨w.heap.size + 1 + 1, k, none⟩ = (#[.int .i64 c, .int .i64 v, fv] : Array Value)[k]? := fun k => by
      rw [b4.cell (p := ⟨w.heap.size + 1 + 1, k, none⟩) (by show w.heap.size + 1 + 1 < _; omega), h3, ← s2, World.cell?_alloc_mark]
    exact ⟨e 0, e 1, e 2⟩
  · rw [hW, ← s3]
    exact Two.new _ _ _

/-- One cell of a block is written: another kind of row stays. -/
theorem row_set {X Y : World} {d n : Nat} {B : Nat} {t T : TypeId} {v : Value} {xs : List Value} {cs : Array Value} (h : X.ownsRow B t 1 v n xs) (hd : X.heap[d]? = some (.cells cs T (0, 0))) (hT : T ≠ t) (hY : ∀ g, g ≠ d → Y.heap[g]? = X.heap[g]?) : Y.ownsRow B t 1 v n xs := by
  refine row_same h (fun g hg => hY g (fun e => ?_))
  obtain ⟨cur, hk⟩ := row_kind h g hg
  rw [e, hd] at hk
  simp only [Option.some.injEq, Obj.cells.injEq] at hk
  exact hT hk.2.1

set_option maxHeartbeats 4000000 in
theorem iShowEvent_calls (v va : Value) (P : PenD) (o : OpD) (A : AnsD) (w : World) (hP : RdP w v P) (hA : RdA w va A) (hs : SmallP P) (hx0 : o.site.length ≤ 1048576) (hso : SaneOp o) (hnf : A.freed.length ≤ 1048576) (hz : ∀ z ∈ A.freed, in64 z) (ev : Value) (E : EvE w ev) (q : Bool) (hq : q = true ↔ EvR P o A) :
    Calls Tryd.prog 45 #[v, opV o, va] w fun e w' => ∃ u, e = .returned (.tuple #[.string (txt (if q then evT P o A else [])), u]) ∧ OwnP w' w.heap.size u (if q then penB P o else P) ∧ Below w.heap.size w w' := by
  obtain ⟨sa, sc, rfl, rs⟩ := hP
  obtain ⟨fa, fc, rfl, rf⟩ := hA
  obtain ⟨W, hW⟩ : ∃ W, W = (((w.alloc (.cells #[.int .i64 P.last, .slice sa P.sites.length sc] 31)).alloc (.cells #[.int .i64 o.kind, .int .i64 o.a, .int .i64 o.b, .int .i64 o.c, .string (txt o.site)] 27)).alloc (.cells #[.int .i64 A.code, .int .i64 A.val, .slice fa A.freed.length fc] 30)).alloc (.cells #[.int .i64 0, .slice none 0 0] 31) := ⟨_, rfl⟩
  obtain ⟨BW, sW, hop, han, hres⟩ := show_entry w P.last _ o A.code A.val _ W hW
  have CP : Hid (∀ Y, Below w.heap.size w Y → _) := fun Y hY => copyPen_calls _ P Y ⟨sa, sc, rfl, rdS_later rs hY⟩ hs
  have hmf : ∀ (fn : Fn) (first cap : Array Value) (w : World), (Instr.makeFunc fn first cap).run Tryd.prog w = .ok (.func fn first cap) w := fun _ _ _ _ => rfl
  have HALL : Hid (∀ (w1 : World) (x : Option Addr) (c : Nat), Below W.heap.size W w1 → ownS w1 W.heap.size (.slice x P.sites.length c) P.sites → ∀ W2, W2 = w1.alloc (.cells #[.int .i64 P.last, .slice x P.sites.length c, .pointer none, .slice none 0 0] 100) →
      Calls Tryd.prog 31 #[.func (.func 68) #[] #[.pointer (some ⟨w1.heap.size, 0, none⟩), .pointer (some ⟨w.heap.size + 1, 0, none⟩), .pointer (some ⟨w.heap.size + 1 + 1, 0, none⟩)]] W2 fun e Y =>
        e = .returned (.bool q) ∧ Below w.heap.size w Y ∧ Two Y (w.heap.size + 1 + 1 + 1) (.int .i64 0) (.slice none 0 0) ∧ w.heap.size + 1 + 1 + 1 < w1.heap.size ∧
          (q = true → ∃ x2 c2, Wr W.heap.size w1.heap.size o.a (.slice x2 (penB P o).sites.length c2) (evT P o A) Y ∧ ownS Y W.heap.size (.slice x2 (penB P o).sites.length c2) (penB P o).sites) ∧
          (q = false → Y.cell? ⟨w1.heap.size, 0, none⟩ = some (.int .i64 P.last) ∧ Y.cell? ⟨w1.heap.size, 1, none⟩ = some (.slice x P.sites.length c) ∧ ownS Y W.heap.size (.slice x P.sites.length c) P.sites)) := by
    intro w1 x c h1 h2 W2 hW2
    obtain ⟨W3, hW3⟩ : ∃ W3, W3 = W2.alloc (.cells #[.bool false] 4) := ⟨_, rfl⟩
    have hs1 := h1.size
    have b2 : Below w1.heap.size w1 W2 := by rw [hW2]; exact (Below.refl _ _).alloc (Nat.le_refl _) _
    have b3 : Below W2.heap.size W2 W3 := by rw [hW3]; exact (Below.refl _ _).alloc (Nat.le_refl _) _
    have s2 : W2.heap.size = w1.heap.size + 1 := by rw [hW2]; simp
    have s3 : W3.heap.size = w1.heap.size + 1 + 1 := by rw [hW3]; simp [s2]
    have b23 : Below w1.heap.size w1 W3 := b2.trans (b3.mono (by omega))
    have bW3 : Below W.heap.size W W3 := h1.trans (b23.mono hs1)
    have bw3 : Below w.heap.size w W3 := BW.trans (bW3.mono BW.size)
    have hg := evE_lt E
    have hb3 : W3.heap[w1.heap.size]? = some (.cells #[.int .i64 P.last, .slice x P.sites.length c, .pointer none, .slice none 0 0] 100 (0, 0)) := by
      rw [b3.block w1.heap.size (by omega), hW2]
      exact heap_alloc_new w1 _
    have hd3 : W3.heap[w1.heap.size + 1]? = some (.cells #[.bool false] 4 (0, 0)) := by
      rw [hW3, ← s2]
      exact heap_alloc_new W2 _
    have hown3 : ownS W3 W.heap.size (.slice x P.sites.length c) P.sites := ownS_later h2 b23
    obtain ⟨x', c', e', hrd⟩ := rdS_own hown3
    simp only [Value.slice.injEq] at e'
    obtain ⟨rfl, -, rfl⟩ := e'
    have hvlt : ∀ g, (Value.slice x P.sites.length c).ownBlock = some g → W.heap.size ≤ g ∧ g < w1.heap.size := fun g hg => ownS_lt h2 g hg
    have hfar : Far W.heap.size w1.heap.size W3 x := fun y hy => by
      have h3 := hvlt y.block (own_block hy)
      obtain ⟨cur, hk⟩ := row_kind hown3 y.block (own_block hy)
      exact ⟨by omega, .inr ⟨_, hk, fun c2 fr e => by cases e⟩⟩
    have hWS : WS W.heap.size w1.heap.size P (.slice x P.sites.length c) ev [] W3 :=
      ⟨⟨evE_later E bw3, ⟨by omega, .inl (by omega)⟩, by omega⟩, ⟨_, .slice none 0 0, hb3, .inl rfl, ⟨rfl, .inl ⟨rfl, rfl⟩⟩⟩, x, c, rfl, hrd.out, row_cap hown3, hfar⟩
    have hop3 : OpAt (w.heap.size + 1) o W3 := fun k => (bW3.cell (p := ⟨w.heap.size + 1, k, none⟩) (by show w.heap.size + 1 < _; omega)).trans (hop k)
    have han3 : W3.cell? ⟨w.heap.size + 1 + 1, 0, none⟩ = some (.int .i64 A.code) ∧ W3.cell? ⟨w.heap.size + 1 + 1, 1, none⟩ = some (.int .i64 A.val) ∧ W3.cell? ⟨w.heap.size + 1 + 1, 2, none⟩ = some (.slice fa A.freed.length fc) :=
      ⟨(bW3.cell (p := ⟨w.heap.size + 1 + 1, 0, none⟩) (by show w.heap.size + 1 + 1 < _; omega)).trans han.1, (bW3.cell (p := ⟨w.heap.size + 1 + 1, 1, none⟩) (by show w.heap.size + 1 + 1 < _; omega)).trans han.2.1, (bW3.cell (p := ⟨w.heap.size + 1 + 1, 2, none⟩) (by show w.heap.size + 1 + 1 < _; omega)).trans han.2.2⟩
    have hfarI : A.freed ≠ [] → Far W.heap.size w1.heap.size W3 fa := fun hne y hy => by
      obtain ⟨g, off, e, hgl, -⟩ := rf 0 (List.length_pos_iff.2 hne)
      rw [hy] at e
      obtain rfl := Option.some.inj e
      exact ⟨by show g ≠ _; omega, .inl (by show g < _; omega)⟩
    have C1 := shw1_calls W.heap.size w1.heap.size W.heap.size (w.heap.size + 1) (w.heap.size + 1 + 1) P x c ev o A fa fc W3 hWS hown3 (Nat.le_refl _) hs1 hs hx0 hso (rdI_later rf bw3) hfarI hnf hz q hq hop3 han3
    have hKd : ∀ Y, Ke W.heap.size w1.heap.size (Value.slice x P.sites.length c).ownBlock W3 Y → Y.heap[w1.heap.size + 1]? = some (.cells #[.bool false] 4 (0, 0)) := fun Y hY =>
      (hY.block (w1.heap.size + 1) (by omega) (fun e => by have := hvlt _ e; omega) (.inr ⟨_, hd3, fun c2 fr e => by cases e⟩)).trans hd3
    have hcf : ∀ X : World, (callFunc 68 #[.pointer (some ⟨w1.heap.size, 0, none⟩), .pointer (some ⟨w.heap.size + 1, 0, none⟩), .pointer (some ⟨w.heap.size + 1 + 1, 0, none⟩)]).run Tryd.prog X = .ok (.enter 68 #[.pointer (some ⟨w1.heap.size, 0, none⟩), .pointer (some ⟨w.heap.size + 1, 0, none⟩), .pointer (some ⟨w.heap.size + 1 + 1, 0, none⟩)]) X := fun X => by simp [go_sem]
    refine (done_calls 68 _ W2 W3 hW3 ev E.2 (fun q2 Y => q2 = q ∧ ∃ e, PostE W.heap.size w1.heap.size W.heap.size P (.slice x P.sites.length c) ev o A q W3 e Y) hcf ?_ ?_).mono ?_
    · rintro q2 Y ⟨-, e, hp⟩
      have hk := hKd Y hp.2.2
      rw [s2]
      exact ⟨⟨.bool false, by rw [Lib.cell_of_heap hk]; rfl⟩, Lib.frozen_of_heap hk 0⟩
    · refine C1.mono (fun e Y hp => ?_)
      cases q with
      | true => exact .inl ⟨(hp.1 rfl).1, rfl, e, hp⟩
      | false => exact .inr ⟨(hp.2.1 rfl).1, rfl, e, hp⟩
    · rintro e Y ⟨q2, Y0, ⟨rfl, e2, hp⟩, rfl, hY⟩
      have hk := hKd Y0 hp.2.2
      have hoth : ∀ g, g ≠ w1.heap.size + 1 → Y.heap[g]? = Y0.heap[g]? := fun g hg => by
        rw [s2] at hY
        rcases hY with rfl | rfl
        · exact Below.heap_setCell _ _ _ _ (by exact hg)
        · rw [Below.heap_setCell _ _ _ _ (by exact hg), Below.heap_setCell _ _ _ _ (by exact hg)]
      have hio : Y.os = Y0.os ∧ Y.tape = Y0.tape ∧ Y.output = Y0.output ∧ Y.heap.size = Y0.heap.size := by
        rcases hY with rfl | rfl
        · exact ⟨rfl, rfl, rfl, by simp [World.setCell]⟩
        · exact ⟨rfl, rfl, rfl, by simp [World.setCell]⟩
      have hKe := hp.2.2
      have hold : ∀ g, g < W.heap.size → Y.heap[g]? = W3.heap[g]? := fun g hg => (hoth g (by omega)).trans (hKe.block g (by omega) (fun e => by have := hvlt _ e; omega) (.inl hg))
      refine ⟨rfl, ⟨hio.1.trans (hKe.os.trans bw3.os), hio.2.1.trans (hKe.tape.trans bw3.tape), hio.2.2.1.trans (hKe.output.trans bw3.output), by have := hKe.size; have := bw3.size; omega, fun g hg => (hold g (by omega)).trans (bw3.block g hg)⟩, ?_, by omega, fun hq1 => ?_, fun hq1 => ?_⟩
      · exact ((hold (w.heap.size + 1 + 1 + 1) (by omega)).trans (bW3.block (w.heap.size + 1 + 1 + 1) (by omega))).trans hres
      · obtain ⟨-, x2, c2, ⟨p, vv, hbk, hpp, hrow⟩, hoo⟩ := hp.1 hq1
        exact ⟨x2, c2, ⟨p, vv, (hoth _ (by omega)).trans hbk, hpp, row_set hrow hk (by decide) hoth⟩, row_set hoo hk (by decide) hoth⟩
      · obtain ⟨-, ⟨l2, hw2⟩, hoo⟩ := hp.2.1 hq1
        have hpn := hw2.wr.pen
        have e0 : ∀ k, Y.cell? ⟨w1.heap.size, k, none⟩ = Y0.cell? ⟨w1.heap.size, k, none⟩ := fun k => World.cell?_of_block (a := ⟨w1.heap.size, k, none⟩) (hoth _ (by show w1.heap.size ≠ _; omega))
        exact ⟨(e0 0).trans hpn.1, (e0 1).trans hpn.2.1, row_set hoo hk (by decide) hoth⟩
  have HSW : Hid (W.heap.size = w.heap.size + 1 + 1 + 1 + 1) := sW
  have HEV : Hid (evT P o A = [] → ¬ EvR P o A) := fun he hr => by
    have h1 := rNum_show0 (n := o.kind) [] hr.1.1
    unfold evT opT at he
    have h2 := (List.append_eq_nil_iff.1 (List.append_eq_nil_iff.1 he).1).1
    rw [h2, List.append_nil] at h1
    have h3 : (rdi ([] : List UInt8)).2 = 0 := by decide
    unfold rNum at h1
    rw [if_pos h3] at h1
    cases h1
  have HQ : Hid (q = true ↔ EvR P o A) := hq
  have HBW : Hid (Below w.heap.size w W) := BW
  clear hop han hres rs rf hs hso hz E hq sW BW
  obtain ⟨ok, oa, ob, oc, os⟩ := o
  obtain ⟨ac, av, zs⟩ := A
  simp only at *
  unfold opV
  simp only
  go_enter Tryd.func45, Tryd.ntmps45
  go_wp2_with fail
  rw [← hW]
  clear hW
  refine (CP.out _ HBW.out).mono ?_
  rintro e w1 ⟨x, c, rfl, h1, h2⟩
  go_wp2_with fail
  refine (HALL.out w1 x c h2 h1 _ rfl).mono ?_
  rintro e Y ⟨rfl, hB, hres, hlt, hy, hn⟩
  obtain ⟨r0, r1⟩ := hres.cells
  have z0 : Y.frozen? ⟨w.heap.size + 1 + 1 + 1, 0, none⟩ = false := Lib.frozen_of_heap hres 0
  have z1 : Y.frozen? ⟨w.heap.size + 1 + 1 + 1, 1, none⟩ = false := Lib.frozen_of_heap hres 1
  have HG : Hid (w.heap.size ≤ w.heap.size + 1 + 1 + 1 ∧ w.heap.size ≤ W.heap.size ∧ w.heap.size + 1 + 1 + 1 < W.heap.size) := ⟨by omega, by have := HSW.out; omega, by have := HSW.out; omega⟩
  have hne : ¬ w1.heap.size = w.heap.size + 1 + 1 + 1 := by omega
  have hne2 : ¬ w.heap.size + 1 + 1 + 1 = w1.heap.size := by omega
  have HB : Hid (Below w.heap.size w Y) := hB
  have HLT : Hid (w.heap.size + 1 + 1 + 1 < w1.heap.size) := hlt
  clear hlt hB h1 h2 CP HALL HBW hmf HSW hx0 hnf
  cases q with
  | false =>
    obtain ⟨k0, k1, ho⟩ := hn rfl
    have HF : Hid (OwnP (((Y.drew).setCell ⟨w.heap.size + 1 + 1 + 1, 0, none⟩ (.int .i64 P.last)).setCell ⟨w.heap.size + 1 + 1 + 1, 1, none⟩ (.slice x P.sites.length c)) w.heap.size (.agg #[.int .i64 P.last, .slice x P.sites.length c]) P ∧ Below w.heap.size w (((Y.drew).setCell ⟨w.heap.size + 1 + 1 + 1, 0, none⟩ (.int .i64 P.last)).setCell ⟨w.heap.size + 1 + 1 + 1, 1, none⟩ (.slice x P.sites.length c))) := by
      have ho2 := ownS_later ho (Below.refl _ Y).drew
      refine ⟨⟨_, rfl, ?_⟩, ((HB.out.drew).setCell (by exact HG.out.1) _).setCell (by exact HG.out.1) _⟩
      exact ownS_mono (ownS_far _ _ (ownS_far _ _ ho2 (by exact HG.out.2.2)) (by exact HG.out.2.2)) HG.out.2.1
    clear hn hy ho HQ HEV hres
    go_wp2_with fail
    go_region_held (fun X => X.cell? ⟨w1.heap.size, 0, none⟩ = some (.int .i64 P.last) ∧ X.cell? ⟨w1.heap.size, 1, none⟩ = some (.slice x P.sites.length c)) (first | exact ⟨k0, k1⟩ | exact ⟨(keep_far _ _ (by exact hne2) 0).trans ((keep_far _ _ (by exact hne2) 0).trans k0), (keep_far _ _ (by exact hne2) 1).trans ((keep_far _ _ (by exact hne2) 1).trans k1)⟩) (fail)
    all_goals
      go_wp2
      refine bodyPost_ret (v := .tuple #[.string (txt []), .agg #[.int .i64 P.last, .slice x P.sites.length c]]) (by simp [results, Tryd.results45, go_sem, *]; rfl) rfl ⟨_, rfl, HF.out.1, HF.out.2⟩
  | true =>
    obtain ⟨x2, c2, hw, ho⟩ := hy rfl
    have hne0 : evT P ⟨ok, oa, ob, oc, os⟩ ⟨ac, av, zs⟩ ≠ [] := fun e => HEV.out e (HQ.out.1 rfl)
    have hbt := hw.pen
    have CS : Hid (∀ X, Below Y.heap.size Y X → _) := fun X hX => wstring_calls W.heap.size w1.heap.size oa _ _ X (hw.later hX) hne0
    have HZ : Hid (∀ Z, Kb W.heap.size w1.heap.size Y.drew Z → Z.heap[w1.heap.size]? = Y.drew.heap[w1.heap.size]? →
        (Z.cell? ⟨w1.heap.size, 0, none⟩ = some (.int .i64 oa) ∧ Z.cell? ⟨w1.heap.size, 1, none⟩ = some (.slice x2 (penB P ⟨ok, oa, ob, oc, os⟩).sites.length c2)) ∧
        (Z.cell? ⟨w.heap.size + 1 + 1 + 1, 0, none⟩ = some (.int .i64 0) ∧ Z.cell? ⟨w.heap.size + 1 + 1 + 1, 1, none⟩ = some (.slice none 0 0) ∧ Z.frozen? ⟨w.heap.size + 1 + 1 + 1, 0, none⟩ = false ∧ Z.frozen? ⟨w.heap.size + 1 + 1 + 1, 1, none⟩ = false) ∧
        OwnP ((Z.setCell ⟨w.heap.size + 1 + 1 + 1, 0, none⟩ (.int .i64 oa)).setCell ⟨w.heap.size + 1 + 1 + 1, 1, none⟩ (.slice x2 (penB P ⟨ok, oa, ob, oc, os⟩).sites.length c2)) w.heap.size (.agg #[.int .i64 oa, .slice x2 (penB P ⟨ok, oa, ob, oc, os⟩).sites.length c2]) (penB P ⟨ok, oa, ob, oc, os⟩) ∧
        Below w.heap.size w ((Z.setCell ⟨w.heap.size + 1 + 1 + 1, 0, none⟩ (.int .i64 oa)).setCell ⟨w.heap.size + 1 + 1 + 1, 1, none⟩ (.slice x2 (penB P ⟨ok, oa, ob, oc, os⟩).sites.length c2))) := by
      intro Z kZ hbZ
      have hsame : Z.heap[w.heap.size + 1 + 1 + 1]? = Y.heap[w.heap.size + 1 + 1 + 1]? := kZ.block _ (by omega) (.inl HG.out.2.2)
      have hres2 : Two Z (w.heap.size + 1 + 1 + 1) (.int .i64 0) (.slice none 0 0) := hsame.trans hres
      have hoZ : ownS Z W.heap.size (.slice x2 (penB P ⟨ok, oa, ob, oc, os⟩).sites.length c2) (penB P ⟨ok, oa, ob, oc, os⟩).sites := by
        have ho2 := ownS_later ho (Below.refl _ Y).drew
        refine row_same ho2 (fun g hg => ?_)
        obtain ⟨cur, hk⟩ := row_kind ho2 g hg
        refine kZ.block g (fun e => ?_) (.inr ⟨_, hk, fun c2 fr e => by cases e⟩)
        obtain ⟨p, vv, hbk, -⟩ := hw
        have hbk2 : Y.drew.heap[w1.heap.size]? = _ := hbk
        rw [e, hbk2] at hk
        cases hk
      refine ⟨⟨(World.cell?_of_block (a := ⟨w1.heap.size, 0, none⟩) hbZ).trans hbt.1, (World.cell?_of_block (a := ⟨w1.heap.size, 1, none⟩) hbZ).trans hbt.2.1⟩, ⟨hres2.cells.1, hres2.cells.2, Lib.frozen_of_heap hres2 0, Lib.frozen_of_heap hres2 1⟩, ⟨_, rfl, ?_⟩, ?_⟩
      · exact ownS_mono (ownS_far _ _ (ownS_far _ _ hoZ (by exact HG.out.2.2)) (by exact HG.out.2.2)) HG.out.2.1
      · have hb1 : Below w.heap.size Y.drew Z := ⟨kZ.os, kZ.tape, kZ.output, kZ.size, fun g hg => kZ.block g (by have := HLT.out; omega) (.inl (by have := HG.out.2.1; omega))⟩
        exact ((HB.out.drew.trans hb1).setCell (by exact HG.out.1) _).setCell (by exact HG.out.1) _
    obtain ⟨p0, p1, -⟩ := hbt
    have D1 : Below Y.heap.size Y Y.drew := (Below.refl _ _).drew
    clear hn hy ho HQ hres hw hne0 HEV
    obtain ⟨tx, htx⟩ : ∃ tx, evT P ⟨ok, oa, ob, oc, os⟩ ⟨ac, av, zs⟩ = tx := ⟨_, rfl⟩
    rw [htx] at CS
    have HTX : Hid (evT P ⟨ok, oa, ob, oc, os⟩ ⟨ac, av, zs⟩ = tx) := htx
    clear htx
    go_wp2_with fail
    go_region_held (fun X => X.cell? ⟨w1.heap.size, 0, none⟩ = some (.int .i64 oa) ∧ X.cell? ⟨w1.heap.size, 1, none⟩ = some (.slice x2 (penB P ⟨ok, oa, ob, oc, os⟩).sites.length c2))
      (first | exact ⟨p0, p1⟩ | exact (HZ.out Z kZ hbZ).1 | exact ⟨(keep_far _ _ (by exact hne2) 0).trans ((keep_far _ _ (by exact hne2) 0).trans (HZ.out Z kZ hbZ).1.1), (keep_far _ _ (by exact hne2) 1).trans ((keep_far _ _ (by exact hne2) 1).trans (HZ.out Z kZ hbZ).1.2)⟩)
      (first | (go_at_call 70; refine (CS.out _ D1).mono ?_; rintro e Z ⟨rfl, kZ, hbZ⟩; (obtain ⟨r0, r1, z0, z1⟩ := (HZ.out Z kZ hbZ).2.1)))
    all_goals
      have HF : Hid _ := (HZ.out Z kZ hbZ).2.2
      go_wp2
      refine bodyPost_ret (v := .tuple #[.string (txt tx), .agg #[.int .i64 oa, .slice x2 (penB P ⟨ok, oa, ob, oc, os⟩).sites.length c2]]) (by simp [results, Tryd.results45, go_sem, *]) rfl ⟨.agg #[.int .i64 oa, .slice x2 (penB P ⟨ok, oa, ob, oc, os⟩).sites.length c2], by rw [← HTX.out], HF.out.1, HF.out.2⟩

end Go.Proofs.YtcjpepdagnifiaaDoor
