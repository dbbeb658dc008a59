/- impl.SameAnswer answers at any two answers as the specification's SameAnswer, and writes nothing that was there. For every two answers that come in; no condition. -/
import Derived.Test.YtnjplfofcjonhabRows
import Derived.Test.YtnjplfofcjonhabAnsWalksB
import Derived.WalkKit
import Derived.ProofKit
import Derived.OpenShut
import Derived.ShutString
import Derived.ChangeOld
import Derived.Below
namespace Go.Proofs.Ytnjplfofcjonhab.fnExactSameAnswer
open Go.ChangeShapes Go.WideShapes Go.ChangeAt Go.RowKit
open Go.ChangeMaps (open_string shut_string)
set_option linter.unusedVariables false

theorem own : ownKnob Try.prog.godebug = none := by kernel_rfl
theorem laidOut : laidOutB Try.prog = true := by kernel_rfl


def RQ (vx va : Value) (D : AnsD) : Nat → World → Value → Prop
  | 0, _, v => v = vx
  | 1, _, v => v = va
  | 2, X, v => RdA X v D
  | 3, _, v => v = .bool true
  | _, _, _ => True
theorem rq_mono {vx va : Value} {D : AnsD} (i : Nat) (X Y : World) (v : Value) (h : RQ vx va D i X v) (hY : Below X.heap.size X Y) : RQ vx va D i Y v := by
  match i, h with
  | 0, h => exact h
  | 1, h => exact h
  | 2, h => exact rdA_later h hY
  | 3, h => exact h
  | n + 4, _ => exact trivial
def RU (va vb : Value) (A B : AnsD) (q : Bool) : Nat → World → Value → Prop
  | 0, _, v => v = va
  | 1, X, v => RdA X v A
  | 2, _, v => v = vb
  | 3, X, v => RdA X v B
  | 4, _, v => v = .bool q
  | _, _, _ => True
theorem ru_mono {va vb : Value} {A B : AnsD} {q : Bool} (i : Nat) (X Y : World) (v : Value) (h : RU va vb A B q i X v) (hY : Below X.heap.size X Y) : RU va vb A B q i Y v := by
  match i, h with
  | 0, h => exact h
  | 1, h => exact rdA_later h hY
  | 2, h => exact h
  | 3, h => exact rdA_later h hY
  | 4, h => exact h
  | n + 5, _ => exact trivial
theorem rdA_own {w : World} {B : Nat} {A : AnsD} {a : Option Addr} {c : Nat} (h : ownI w B (.slice a A.freed.length c) A.freed) : RdA w (.agg #[.int .i64 A.code, .int .i64 A.val, .slice a A.freed.length c]) A := by
  obtain ⟨a2, c2, h1, h2⟩ := rdI_own h
  simp only [Value.slice.injEq] at h1
  exact ⟨a, c, rfl, by rw [h1.1]; exact h2.out⟩
theorem three_kept (w : World) (t : TypeId) (x0 x1 x2 : Value) (X : World) (hX : Below (w.heap.size + 1) (w.alloc (.cells #[x0, x1, x2] t)) X) : X.cell? ⟨w.heap.size, 0, none⟩ = some x0 ∧ X.cell? ⟨w.heap.size, 1, none⟩ = some x1 ∧ X.cell? ⟨w.heap.size, 2, none⟩ = some x2 := by
  have h : ∀ k, X.cell? ⟨w.heap.size, k, none⟩ = (#[x0, x1, x2] : Array Value)[k]? := fun k => by
    rw [hX.cell (p := ⟨w.heap.size, k, none⟩) (Nat.lt_succ_self _), World.cell?_alloc_mark]
  exact ⟨h 0, h 1, h 2⟩

set_option maxRecDepth 100000 in
set_option maxHeartbeats 8000000 in
theorem walk (v0 : Value) (D0 : AnsD) (v1 : Value) (D1 : AnsD) (w : World) (w0 : RdA w v0 D0) (y0 : SaneA D0) (w1 : RdA w v1 D1) (y1 : SaneA D1) :
    Calls Try.prog 3 #[v0, v1] w fun e w' => e = .returned (.bool true) ∧ Below w.heap.size w w' := by
  have HR0 : Hid (∀ X, Below w.heap.size w X → RdA X v0 D0) := fun X hX => rdA_later w0 hX
  have HR1 : Hid (∀ X, Below w.heap.size w X → RdA X v1 D1) := fun X hX => rdA_later w1 hX
  have CZ0 : Hid (∀ X, Below w.heap.size w X → _) := fun X hX => szAnswer_calls X v0 D0 1048576 (HR0.out X hX) y0.len (by omega) (by omega)
  obtain ⟨z0, hz0⟩ : ∃ z, (if (1048576 : Int) - (D0.freed.length : Int) < 0 then -1 else 1048576 - (D0.freed.length : Int)) = z := ⟨_, rfl⟩
  rw [hz0] at CZ0
  have hzb : 0 ≤ z0 → z0 ≤ 1048576 ∧ D0.freed.length ≤ 1048576 := fun hh => by rw [← hz0] at hh ⊢; split at hh <;> simp_all <;> omega
  have CZ1 : Hid (0 ≤ z0 → ∀ X, Below w.heap.size w X → _) := fun hh X hX => szAnswer_calls X v1 D1 z0 (HR1.out X hX) y1.len hh (hzb hh).1
  obtain ⟨z1, hz1⟩ : ∃ z, (if z0 - (D1.freed.length : Int) < 0 then -1 else z0 - (D1.freed.length : Int)) = z := ⟨_, rfl⟩
  rw [hz1] at CZ1
  have hzc : 0 ≤ z0 → 0 ≤ z1 → D1.freed.length ≤ 1048576 := fun h0 hh => by
    have := (hzb h0).1
    rw [← hz1] at hh
    split at hh <;> omega
  obtain ⟨q, hq⟩ := bool_of (D0 = D1)
  have CT0 : Hid (D0.freed.length ≤ 1048576 → ∀ X, Below w.heap.size w X → _) := fun hn X hX => toAnswer_calls X v0 D0 (HR0.out X hX) (by omega)
  have CT1 : Hid (D1.freed.length ≤ 1048576 → ∀ X, Below w.heap.size w X → _) := fun hn X hX => toAnswer_calls X v1 D1 (HR1.out X hX) (by omega)
  have CS : Hid (D0.freed.length ≤ 1048576 → D1.freed.length ≤ 1048576 → ∀ X u0 u1, RdA X u0 D0 → RdA X u1 D1 → _) := fun hn hm X u0 u1 r0 r1 => sSame_calls X u0 u1 D0 D1 q r0 r1 (by omega) (by omega) hq
  have CI : Hid (D0.freed.length ≤ 1048576 → D1.freed.length ≤ 1048576 → ∀ X u0 u1, RdA X u0 D0 → RdA X u1 D1 → _) := fun hn hm X u0 u1 r0 r1 => iSame_calls X u0 u1 D0 D1 q r0 r1 (by omega) (by omega) hq
  have CE0 : Hid (D0.freed.length ≤ 1048576 → ∀ X u0 u1, RdA X u0 D0 → RdA X u1 D0 → _) := fun hn X u0 u1 r0 r1 => eqAnswer_calls X u0 u1 D0 r0 r1 (by omega)
  have CE1 : Hid (D1.freed.length ≤ 1048576 → ∀ X u0 u1, RdA X u0 D1 → RdA X u1 D1 → _) := fun hn X u0 u1 r0 r1 => eqAnswer_calls X u0 u1 D1 r0 r1 (by omega)
  have HO : Hid (∀ (A : AnsD) X B a c, ownI X B (.slice a A.freed.length c) A.freed → RdA X (.agg #[.int .i64 A.code, .int .i64 A.val, .slice a A.freed.length c]) A) := fun A X B a c h => rdA_own h
  obtain ⟨a0, c0, rfl, -⟩ := w0
  obtain ⟨a1, c1, rfl, -⟩ := w1
  have CL0 := D0.code
  clear hq y0 y1 hz0 hz1 CL0
  have HZB : Hid (0 ≤ z0 → z0 ≤ 1048576 ∧ D0.freed.length ≤ 1048576) := hzb
  have HZC : Hid (0 ≤ z0 → 0 ≤ z1 → D1.freed.length ≤ 1048576) := hzc
  clear hzb hzc
  obtain ⟨n0, hn0⟩ : ∃ n, D0.freed.length = n := ⟨_, rfl⟩
  obtain ⟨n1, hn1⟩ : ∃ n, D1.freed.length = n := ⟨_, rfl⟩
  obtain ⟨p0, hp0⟩ : ∃ n, D0.code = n := ⟨_, rfl⟩
  obtain ⟨p1, hp1⟩ : ∃ n, D1.code = n := ⟨_, rfl⟩
  obtain ⟨x0, hx0⟩ : ∃ n, D0.val = n := ⟨_, rfl⟩
  obtain ⟨x1, hx1⟩ : ∃ n, D1.val = n := ⟨_, rfl⟩
  have HO0 : Hid (∀ X B a c, ownI X B (.slice a n0 c) D0.freed → RdA X (.agg #[.int .i64 p0, .int .i64 x0, .slice a n0 c]) D0) := fun X B a c h => by rw [← hn0, ← hp0, ← hx0]; exact rdA_own (by rw [hn0]; exact h)
  have HO1 : Hid (∀ X B a c, ownI X B (.slice a n1 c) D1.freed → RdA X (.agg #[.int .i64 p1, .int .i64 x1, .slice a n1 c]) D1) := fun X B a c h => by rw [← hn1, ← hp1, ← hx1]; exact rdA_own (by rw [hn1]; exact h)
  rw [hn0, hp0, hx0] at HR0 CZ0 CT0
  rw [hn1, hp1, hx1] at HR1 CZ1 CT1
  rw [hn0] at CS CI CE0 HZB
  rw [hn1] at CS CI CE1 HZC
  rw [hn0, hn1, hp0, hp1, hx0, hx1]
  obtain ⟨W, hW⟩ : ∃ W, W = (w.alloc (.cells #[.int .i64 p0, .int .i64 x0, .slice a0 n0 c0] 24)).alloc (.cells #[.int .i64 p1, .int .i64 x1, .slice a1 n1 c1] 24) := ⟨_, rfl⟩
  have BW : Below w.heap.size w W := by rw [hW]; exact ((Below.refl _ _).alloc (Nat.le_refl _) _).alloc (by simp) _
  have sW : W.heap.size = w.heap.size + 2 := by rw [hW]; simp
  have HK0 : Hid (∀ X, Below W.heap.size W X → X.cell? ⟨w.heap.size, 0, none⟩ = some (.int .i64 p0) ∧ X.cell? ⟨w.heap.size, 1, none⟩ = some (.int .i64 x0) ∧ X.cell? ⟨w.heap.size, 2, none⟩ = some (.slice a0 n0 c0)) := fun X hX => by
    refine three_kept w 24 _ _ _ X ?_
    have b : Below (w.heap.size + 1) (w.alloc (.cells #[.int .i64 p0, .int .i64 x0, .slice a0 n0 c0] 24)) W := by rw [hW]; exact (Below.refl _ _).alloc (by simp) _
    exact b.trans (hX.mono (by rw [sW]; omega))
  have HK1 : Hid (∀ X, Below W.heap.size W X → X.cell? ⟨w.heap.size + 1, 0, none⟩ = some (.int .i64 p1) ∧ X.cell? ⟨w.heap.size + 1, 1, none⟩ = some (.int .i64 x1) ∧ X.cell? ⟨w.heap.size + 1, 2, none⟩ = some (.slice a1 n1 c1)) := fun X hX => by
    have h := three_kept (w.alloc (.cells #[.int .i64 p0, .int .i64 x0, .slice a0 n0 c0] 24)) 24 (.int .i64 p1) (.int .i64 x1) (.slice a1 n1 c1) X (by rw [← hW]; refine hX.mono ?_; rw [sW]; simp)
    simpa using h
  have HBW : Hid (∀ X, Below W.heap.size W X → Below w.heap.size w X) := fun X hX => BW.trans (hX.mono BW.size)
  have HsW : Hid (W.heap.size = w.heap.size + 2) := sW
  clear hn0 hn1 hp0 hp1 hx0 hx1 sW HO
  go_enter Try.func3, Try.ntmps3
  go_wp2_with fail
  rw [← hW]
  clear hW
  refine (CZ0.out _ BW).mono ?_
  rintro e w1 ⟨rfl, b1⟩
  obtain ⟨k0, k1, k2⟩ := HK1.out _ b1
  by_cases hz : z0 < 0
  · clear k0 k1 k2
    have B1 := HBW.out _ b1
    go_wp2
    go_ret
    exact ⟨rfl, B1⟩
  have h0 : 0 ≤ z0 := by omega
  go_wp2_with fail
  refine (CZ1.out h0 _ (HBW.out _ b1)).mono ?_
  rintro e w2 ⟨rfl, b2⟩
  have B2 : Below W.heap.size W w2 := b1.trans (b2.mono b1.size)
  clear k0 k1 k2 b1 b2 CZ0 CZ1
  by_cases hy : z1 < 0
  · have B1 := HBW.out _ B2
    go_wp2
    go_ret
    exact ⟨rfl, B1⟩
  have hl0 : n0 ≤ 1048576 := (HZB.out h0).2
  have hl1 : n1 ≤ 1048576 := HZC.out h0 (by omega)
  have HL0 : Hid (n0 ≤ 1048576) := hl0
  have HL1 : Hid (n1 ≤ 1048576) := hl1
  have HB2 : Hid (∀ X, Below w2.heap.size w2 X → Below W.heap.size W X) := fun X hX => B2.trans (hX.mono B2.size)
  have HW2 : Hid (W.heap.size ≤ w2.heap.size) := B2.size
  clear HZB HZC B2 BW
  go_wp2
  refine wp_region_last 5 (by kernel_rfl) (by kernel_rfl) (RU (.agg #[.int .i64 p0, .int .i64 x0, .slice a0 n0 c0]) (.agg #[.int .i64 p1, .int .i64 x1, .slice a1 n1 c1]) D0 D1 q) ru_mono ?_ ?_
  · intro i o hi ho a X hX hA hdep
    have kk := HK0.out X (HB2.out X hX)
    have ll := HK1.out X (HB2.out X hX)
    match i, hi, ho with
    | 0, _, ho =>
      obtain rfl := Option.some.inj ho
      exact opLoadAl (alike_at hA (t := 2) (by kernel_rfl)) kk.1 kk.2.1 kk.2.2 ⟨_, rfl, Below.refl _ _, rfl⟩
    | 1, _, ho =>
      obtain rfl := Option.some.inj ho
      refine opToA (hdep ⟨0, .data⟩ (by simp) rfl 20 rfl) (CT0.out HL0.out X (HBW.out X (HB2.out X hX))) ?_
      rintro e w' ⟨a2, c2, rfl, o2, b2⟩
      exact ⟨_, rfl, _, rfl, b2, HO0.out _ _ _ _ o2⟩
    | 2, _, ho =>
      obtain rfl := Option.some.inj ho
      exact opLoadAl (alike_at hA (t := 3) (by kernel_rfl)) ll.1 ll.2.1 ll.2.2 ⟨_, rfl, Below.refl _ _, rfl⟩
    | 3, _, ho =>
      obtain rfl := Option.some.inj ho
      refine opToA (hdep ⟨2, .data⟩ (by simp) rfl 22 rfl) (CT1.out HL1.out X (HBW.out X (HB2.out X hX))) ?_
      rintro e w' ⟨a2, c2, rfl, o2, b2⟩
      exact ⟨_, rfl, _, rfl, b2, HO1.out _ _ _ _ o2⟩
    | 4, _, ho =>
      obtain rfl := Option.some.inj ho
      have e1 : RdA X (a.eval (.tmp 21)) D0 := hdep ⟨1, .data⟩ (by simp) rfl 21 rfl
      have e2 : RdA X (a.eval (.tmp 23)) D1 := hdep ⟨3, .data⟩ (by simp) rfl 23 rfl
      refine opSameS rfl rfl (CS.out HL0.out HL1.out X _ _ e1 e2) ?_
      rintro e w' ⟨rfl, b2⟩
      exact ⟨_, rfl, _, rfl, b2, rfl⟩
  · intro o ho a X hX hA hdep
    obtain rfl := Option.some.inj ho
    have e1 : a.eval (.tmp 24) = .bool q := hdep ⟨4, .data⟩ (by simp) rfl 24 rfl
    refine opAssign e1 ?_
    obtain ⟨us, hus, rfl⟩ := alike_tmps hA [20, 21, 22, 23, 24, 6] (by kernel_rfl)
    have X3 := HB2.out X hX
    have HX3 : Hid (Below W.heap.size W X) := X3
    obtain ⟨k0, k1, k2⟩ := HK0.out _ X3
    clear hdep hA hus e1 ho X3 hX HB2
    simp only [List.mapIdx_cons, List.mapIdx_nil, Nat.reduceAdd, List.contains_cons, List.contains_nil, Nat.reduceBEq, Bool.or_false, Bool.or_true, if_true, if_false, Bool.false_eq_true]
    go_wp2_with fail
    refine (CT0.out HL0.out _ (HBW.out _ HX3.out)).mono ?_
    rintro e w3 ⟨f3, d3, rfl, o3, b3⟩
    obtain ⟨V3, hV3⟩ : ∃ V, V = w3.alloc (.cells #[.int .i64 p0, .int .i64 x0, .slice f3 n0 d3] 27) := ⟨_, rfl⟩
    have BV3 : Below w3.heap.size w3 V3 := by rw [hV3]; exact (Below.refl _ _).alloc (Nat.le_refl _) _
    have HT3 : Hid (Three V3 w3.heap.size (.int .i64 p0) (.int .i64 x0) (.slice f3 n0 d3)) := by rw [hV3]; exact Three.new w3 _ _ _
    have B3 : Below W.heap.size W V3 := HX3.out.trans ((b3.trans (BV3.mono b3.size)).mono HX3.out.size)
    have HX4 : Hid (Below W.heap.size W V3) := B3
    have HA3 : Hid (RdA V3 (.agg #[.int .i64 p0, .int .i64 x0, .slice f3 n0 d3]) D0) := rdA_later (HO0.out _ _ _ _ o3) BV3
    have kk := HK1.out w3 (HX3.out.trans (b3.mono HX3.out.size))
    obtain ⟨j0, j1, j2⟩ := kk
    have hw3 : w.heap.size + 1 < w3.heap.size := by have h1 := HsW.out; have h2 := HX3.out.size; have h3 := b3.size; omega
    have hw3n : ¬ w.heap.size + 1 = w3.heap.size := by omega
    clear k0 k1 k2 o3 b3 BV3 B3
    go_wp2_with fail
    rw [← hV3]
    clear hV3 j0 j1 j2 hw3 hw3n
    refine (CT1.out HL1.out _ (HBW.out _ HX4.out)).mono ?_
    rintro e w4 ⟨f4, d4, rfl, o4, b4⟩
    obtain ⟨V4, hV4⟩ : ∃ V, V = w4.alloc (.cells #[.int .i64 p1, .int .i64 x1, .slice f4 n1 d4] 27) := ⟨_, rfl⟩
    have BV4 : Below w4.heap.size w4 V4 := by rw [hV4]; exact (Below.refl _ _).alloc (Nat.le_refl _) _
    have b34 : Below V3.heap.size V3 V4 := b4.trans (BV4.mono b4.size)
    have T3 : Three V4 w3.heap.size (.int .i64 p0) (.int .i64 x0) (.slice f3 n0 d3) := HT3.out.later b34
    have T4 : Three V4 w4.heap.size (.int .i64 p1) (.int .i64 x1) (.slice f4 n1 d4) := by rw [hV4]; exact Three.new w4 _ _ _
    have HT3b : Hid (∀ X, Below V4.heap.size V4 X → X.cell? ⟨w3.heap.size, 0, none⟩ = some (.int .i64 p0) ∧ X.cell? ⟨w3.heap.size, 1, none⟩ = some (.int .i64 x0) ∧ X.cell? ⟨w3.heap.size, 2, none⟩ = some (.slice f3 n0 d3)) := fun X hX => ⟨(T3.later hX).cell 0, (T3.later hX).cell 1, (T3.later hX).cell 2⟩
    have HT4b : Hid (∀ X, Below V4.heap.size V4 X → X.cell? ⟨w4.heap.size, 0, none⟩ = some (.int .i64 p1) ∧ X.cell? ⟨w4.heap.size, 1, none⟩ = some (.int .i64 x1) ∧ X.cell? ⟨w4.heap.size, 2, none⟩ = some (.slice f4 n1 d4)) := fun X hX => ⟨(T4.later hX).cell 0, (T4.later hX).cell 1, (T4.later hX).cell 2⟩
    have HX5 : Hid (∀ X, Below V4.heap.size V4 X → Below W.heap.size W X) := fun X hX => HX4.out.trans ((b34.trans (hX.mono b34.size)).mono HX4.out.size)
    have HA3b : Hid (∀ X, Below V4.heap.size V4 X → RdA X (.agg #[.int .i64 p0, .int .i64 x0, .slice f3 n0 d3]) D0) := fun X hX => rdA_later (rdA_later HA3.out b34) hX
    have HA4b : Hid (∀ X, Below V4.heap.size V4 X → RdA X (.agg #[.int .i64 p1, .int .i64 x1, .slice f4 n1 d4]) D1) := fun X hX => rdA_later (rdA_later (HO1.out _ _ _ _ o4) BV4) hX
    obtain ⟨k0, k1, k2⟩ := HT3b.out V4 (Below.refl _ _)
    obtain ⟨j0, j1, j2⟩ := HT4b.out V4 (Below.refl _ _)
    have HV4 : Hid (V4 = w4.alloc (.cells #[.int .i64 p1, .int .i64 x1, .slice f4 n1 d4] 27)) := hV4
    rw [hV4] at k0 k1 k2 j0 j1 j2
    clear o4 b4 BV4 b34 T3 T4 HT3 HX4 HA3 hV4
    go_wp2_with fail
    rw [← HV4.out]
    clear k0 k1 k2 j0 j1 j2 HV4
    refine (CI.out HL0.out HL1.out _ _ _ (HA3b.out _ (Below.refl _ _)) (HA4b.out _ (Below.refl _ _))).mono ?_
    rintro e w5 ⟨rfl, b5⟩
    have hqq : (q != q) = false := by simp
    have HXA : Hid (∀ X, Below w5.heap.size w5 X → X.cell? ⟨w3.heap.size, 0, none⟩ = some (.int .i64 p0) ∧ X.cell? ⟨w3.heap.size, 1, none⟩ = some (.int .i64 x0) ∧ X.cell? ⟨w3.heap.size, 2, none⟩ = some (.slice f3 n0 d3)) := fun X hX => HT3b.out X (b5.trans (hX.mono b5.size))
    have HYA : Hid (∀ X, Below w5.heap.size w5 X → X.cell? ⟨w.heap.size, 0, none⟩ = some (.int .i64 p0) ∧ X.cell? ⟨w.heap.size, 1, none⟩ = some (.int .i64 x0) ∧ X.cell? ⟨w.heap.size, 2, none⟩ = some (.slice a0 n0 c0)) := fun X hX => HK0.out X (HX5.out X (b5.trans (hX.mono b5.size)))
    have CTA : Hid (∀ X, Below w5.heap.size w5 X → Calls Try.prog 6 #[.agg #[.int .i64 p0, .int .i64 x0, .slice a0 n0 c0]] X fun e w' => ∃ a c, e = .returned (.agg #[.int .i64 p0, .int .i64 x0, .slice a n0 c]) ∧ RdA w' (.agg #[.int .i64 p0, .int .i64 x0, .slice a n0 c]) D0 ∧ Below X.heap.size X w') := fun X hX => (CT0.out HL0.out X (HBW.out X (HX5.out X (b5.trans (hX.mono b5.size))))).mono (fun e w' ⟨a, c, h1, h2, h3⟩ => ⟨a, c, h1, HO0.out _ _ _ _ h2, h3⟩)
    have CQA : Hid (∀ X, Below w5.heap.size w5 X → ∀ u, RdA X u D0 → Calls Try.prog 8 #[.agg #[.int .i64 p0, .int .i64 x0, .slice f3 n0 d3], u] X fun e w' => e = .returned (.bool true) ∧ Below X.heap.size X w') := fun X hX u hu => CE0.out HL0.out X _ u (HA3b.out X (b5.trans (hX.mono b5.size))) hu
    have HXBW : Hid (∀ X, Below w5.heap.size w5 X → Below V4.heap.size V4 X) := fun X hX => b5.trans (hX.mono b5.size)
    clear b5 CI
    go_wp2
    refine wp_region_last 4 (by kernel_rfl) (by kernel_rfl) (RQ (.agg #[.int .i64 p0, .int .i64 x0, .slice f3 n0 d3]) (.agg #[.int .i64 p0, .int .i64 x0, .slice a0 n0 c0]) D0) rq_mono ?_ ?_
    · intro i o hi ho a X hX hA hdep
      match i, hi, ho with
      | 0, _, ho =>
        obtain rfl := Option.some.inj ho
        exact opLoadAi (alike_at hA (t := 7) (by kernel_rfl)) (HXA.out X hX).1 (HXA.out X hX).2.1 (HXA.out X hX).2.2 ⟨_, rfl, Below.refl _ _, rfl⟩
      | 1, _, ho =>
        obtain rfl := Option.some.inj ho
        exact opLoadAl (alike_at hA (t := 2) (by kernel_rfl)) (HYA.out X hX).1 (HYA.out X hX).2.1 (HYA.out X hX).2.2 ⟨_, rfl, Below.refl _ _, rfl⟩
      | 2, _, ho =>
        obtain rfl := Option.some.inj ho
        refine opToA (hdep ⟨1, .data⟩ (by simp) rfl 36 rfl) (CTA.out X hX) ?_
        rintro e w' ⟨a2, c2, rfl, o2, b2⟩
        exact ⟨_, rfl, _, rfl, b2, o2⟩
      | 3, _, ho =>
        obtain rfl := Option.some.inj ho
        have e1 := hdep ⟨0, .data⟩ (by simp) rfl 35 rfl
        have e2 : RdA X (a.eval (.tmp 37)) D0 := hdep ⟨2, .data⟩ (by simp) rfl 37 rfl
        refine opEqA e1 rfl (CQA.out X hX _ e2) ?_
        rintro e w' ⟨rfl, b2⟩
        exact ⟨_, rfl, _, rfl, b2, rfl⟩
    · intro o ho a X hX hA hdep
      obtain rfl := Option.some.inj ho
      have e1 : a.eval (.tmp 38) = .bool true := hdep ⟨3, .data⟩ (by simp) rfl 38 rfl
      refine opNot e1 ?_
      obtain ⟨us, hus, rfl⟩ := alike_tmps hA [35, 36, 37, 38, 39] (by kernel_rfl)
      clear hdep hA hus e1 ho
      simp only [List.mapIdx_cons, List.mapIdx_nil, Nat.reduceAdd, List.contains_cons, List.contains_nil, Nat.reduceBEq, Bool.or_false, Bool.or_true, if_true, if_false, Bool.false_eq_true]
      simp only [Act.put, List.setIfInBounds_toArray, List.set_cons_succ, List.set_cons_zero]
      have HX6 : Hid (Below w5.heap.size w5 X) := hX
      clear hX HXA HYA CTA CQA
      go_wp2
      have HXB : Hid (∀ Y, Below X.heap.size X Y → Y.cell? ⟨w4.heap.size, 0, none⟩ = some (.int .i64 p1) ∧ Y.cell? ⟨w4.heap.size, 1, none⟩ = some (.int .i64 x1) ∧ Y.cell? ⟨w4.heap.size, 2, none⟩ = some (.slice f4 n1 d4)) := fun Y hY => HT4b.out Y (HXBW.out Y (HX6.out.trans (hY.mono HX6.out.size)))
      have HYB : Hid (∀ Y, Below X.heap.size X Y → Y.cell? ⟨w.heap.size + 1, 0, none⟩ = some (.int .i64 p1) ∧ Y.cell? ⟨w.heap.size + 1, 1, none⟩ = some (.int .i64 x1) ∧ Y.cell? ⟨w.heap.size + 1, 2, none⟩ = some (.slice a1 n1 c1)) := fun Y hY => HK1.out Y (HX5.out Y (HXBW.out Y (HX6.out.trans (hY.mono HX6.out.size))))
      have CTB : Hid (∀ Y, Below X.heap.size X Y → Calls Try.prog 6 #[.agg #[.int .i64 p1, .int .i64 x1, .slice a1 n1 c1]] Y fun e w' => ∃ a c, e = .returned (.agg #[.int .i64 p1, .int .i64 x1, .slice a n1 c]) ∧ RdA w' (.agg #[.int .i64 p1, .int .i64 x1, .slice a n1 c]) D1 ∧ Below Y.heap.size Y w') := fun Y hY => (CT1.out HL1.out Y (HBW.out Y (HX5.out Y (HXBW.out Y (HX6.out.trans (hY.mono HX6.out.size)))))).mono (fun e w' ⟨a, c, h1, h2, h3⟩ => ⟨a, c, h1, HO1.out _ _ _ _ h2, h3⟩)
      have CQB : Hid (∀ Y, Below X.heap.size X Y → ∀ u, RdA Y u D1 → Calls Try.prog 8 #[.agg #[.int .i64 p1, .int .i64 x1, .slice f4 n1 d4], u] Y fun e w' => e = .returned (.bool true) ∧ Below Y.heap.size Y w') := fun Y hY u hu => CE1.out HL1.out Y _ u (HA4b.out Y (HXBW.out Y (HX6.out.trans (hY.mono HX6.out.size)))) hu
      have HFIN : Hid (∀ Y, Below X.heap.size X Y → Below w.heap.size w Y) := fun Y hY => HBW.out Y (HX5.out Y (HXBW.out Y (HX6.out.trans (hY.mono HX6.out.size))))
      refine wp_region_last 4 (by kernel_rfl) (by kernel_rfl) (RQ (.agg #[.int .i64 p1, .int .i64 x1, .slice f4 n1 d4]) (.agg #[.int .i64 p1, .int .i64 x1, .slice a1 n1 c1]) D1) rq_mono ?_ ?_
      · intro i o hi ho a X hX hA hdep
        match i, hi, ho with
        | 0, _, ho =>
          obtain rfl := Option.some.inj ho
          exact opLoadAi (alike_at hA (t := 8) (by kernel_rfl)) (HXB.out X hX).1 (HXB.out X hX).2.1 (HXB.out X hX).2.2 ⟨_, rfl, Below.refl _ _, rfl⟩
        | 1, _, ho =>
          obtain rfl := Option.some.inj ho
          exact opLoadAl (alike_at hA (t := 3) (by kernel_rfl)) (HYB.out X hX).1 (HYB.out X hX).2.1 (HYB.out X hX).2.2 ⟨_, rfl, Below.refl _ _, rfl⟩
        | 2, _, ho =>
          obtain rfl := Option.some.inj ho
          refine opToA (hdep ⟨1, .data⟩ (by simp) rfl 41 rfl) (CTB.out X hX) ?_
          rintro e w' ⟨a2, c2, rfl, o2, b2⟩
          exact ⟨_, rfl, _, rfl, b2, o2⟩
        | 3, _, ho =>
          obtain rfl := Option.some.inj ho
          have e1 := hdep ⟨0, .data⟩ (by simp) rfl 40 rfl
          have e2 : RdA X (a.eval (.tmp 42)) D1 := hdep ⟨2, .data⟩ (by simp) rfl 42 rfl
          refine opEqA e1 rfl (CQB.out X hX _ e2) ?_
          rintro e w' ⟨rfl, b2⟩
          exact ⟨_, rfl, _, rfl, b2, rfl⟩
      · intro o ho a X hX hA hdep
        obtain rfl := Option.some.inj ho
        have e1 : a.eval (.tmp 43) = .bool true := hdep ⟨3, .data⟩ (by simp) rfl 43 rfl
        refine opNot e1 ?_
        obtain ⟨us, hus, rfl⟩ := alike_tmps hA [40, 41, 42, 43, 44] (by kernel_rfl)
        clear hdep hA hus e1 ho
        simp only [List.mapIdx_cons, List.mapIdx_nil, Nat.reduceAdd, List.contains_cons, List.contains_nil, Nat.reduceBEq, Bool.or_false, Bool.or_true, if_true, if_false, Bool.false_eq_true]
        simp only [Act.put, List.setIfInBounds_toArray, List.set_cons_succ, List.set_cons_zero]
        have BF := HFIN.out _ hX
        go_wp2
        go_ret
        exact ⟨rfl, BF⟩

set_option maxRecDepth 100000 in
theorem lifted (os : Os) (started : os.Started) (H : Type) (enc : TypeId × Value → H) :
    ReturnsInHanded {} Try.checked os 3 .any (Rows.fnExactSameAnswerSpec.pre6 enc Try.prog Try.f3 Rows.fnExactSameAnswerRow.domain false) (Rows.fnExactSameAnswerSpec.post enc Try.prog Try.f3 false true false false) := by
  refine returnsInHanded_of_change (C := Try.checked) own started (by kernel_rfl) Try.func3
    (ChangeSpec.witness6 (enc := enc) (C := Try.checked) false ⟨#[], #[.agg #[.int .i64 0, .int .i64 0, .slice none 0 0], .agg #[.int .i64 0, .int .i64 0, .slice none 0 0]], []⟩ 8 (by kernel_rfl) (by kernel_rfl) (by kernel_rfl) (by kernel_rfl)) ?_
  intro W base args ds gs before hval0 hW hcnd _
  have hval : ∀ (j : Nat) t v, Try.f3.params[j]? = some t → args[j]? = some v → Value.okWide Try.prog W .any base t v := hval0
  have hW' := hW
  obtain ⟨p, q, hA0, hV, rfl, hfz, hnd⟩ := hW
  have hA : DataW.TrodAll enc Try.prog W 0 (fun _ => true) true Try.f3.params.toList args.toList ds p := hA0
  rw [Try.params3] at hA hval
  obtain ⟨v0, vs0, d0, ds0, p0, q0, hargs, rfl, rfl, h0, r0⟩ := trodAll_cons hA
  obtain ⟨v1, vs1, d1, ds1, p1, q1, rfl, rfl, rfl, h1, r1⟩ := trodAll_cons r0
  obtain ⟨rfl, rfl, rfl⟩ := trodAll_nil r1
  obtain rfl : args = #[v0, v1] := by cases args; simp_all
  obtain ⟨rfl, rfl⟩ := trodVars_none hV
  have k0 := h0
  have lt0 : ∀ x ∈ p0, x.block < W.heap.size := by obtain ⟨m, hm⟩ := k0; exact DataW.trod_lt m _ _ _ hm
  obtain ⟨D0, w0, y0⟩ := opened_ans (hval 0 24 v0 rfl rfl) h0
  have k1 := h1
  have lt1 : ∀ x ∈ p1, x.block < W.heap.size := by obtain ⟨m, hm⟩ := k1; exact DataW.trod_lt m _ _ _ hm
  obtain ⟨D1, w1, y1⟩ := opened_ans (hval 1 24 v1 rfl rfl) h1
  clear hA0 hval0
  simp only [List.append_nil] at hW'
  refine (walk v0 D0 v1 D1 W w0 y0 w1 y1).mono fun e W' ⟨he, bel⟩ => ?_
  subst he
  exact ⟨_, rfl, _, _, _, [], _, [], hW', trodAll_mk1 (shut_bool Try.underlying4 _), (trodAll_cons_mk (Below.trod laidOut (by kernel_rfl) (of_decide_eq_true (by kernel_rfl)) k0 bel lt0) (trodAll_cons_mk (Below.trod laidOut (by kernel_rfl) (of_decide_eq_true (by kernel_rfl)) k1 bel lt1) trodAll_mk0)), rfl, bel.frame _, fun h => by cases h⟩

theorem over : Rows.fnExactSameAnswerRow.holds Try.pinned (OpenSpec.ofChange Rows.fnExactSameAnswerSpec) :=
  OpenClaim.holds_of_wide 3 Try.f3 rfl rfl rfl rfl rfl rfl rfl ⟨rfl, rfl, rfl, rfl, rfl⟩ rfl rfl rfl rfl rfl (by kernel_rfl) Try.func3 (by kernel_rfl)
    (of_decide_eq_true (by kernel_rfl)) (by unfold Func.isWrapper; first | (rw [if_pos (by decide +kernel)]; kernel_rfl) | (rw [if_neg (by decide +kernel)]; exact ⟨rfl, rfl⟩))
    (fun os started H enc _ => lifted os started H enc)

end Go.Proofs.Ytnjplfofcjonhab.fnExactSameAnswer
namespace Go.Proofs.Ytnjplfofcjonhab
theorem fnExactSameAnswer_holds : Rows.FnExactSameAnswerSaid := fnExactSameAnswer.over
#print axioms fnExactSameAnswer_holds
end Go.Proofs.Ytnjplfofcjonhab
