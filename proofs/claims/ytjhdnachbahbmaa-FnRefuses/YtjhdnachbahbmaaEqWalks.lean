/- What slices.Equal at numbers, texts and handles, impl.sameObj, and slices.EqualFunc over it answer. -/
import Derived.Test.YtjhdnachbahbmaaSSameWalks
import Derived.Test.YtjhdnachbahbmaaAnyOps
namespace Go.Proofs.Ytjhdnachbahbmaa
open Go.RowKit
set_option linter.unusedVariables false

theorem txt_beq_ne' {y x : List UInt8} (h : y ≠ x) : ((txt y).toList == (txt x).toList) = false := by
  rw [beq_eq_false_iff_ne]
  intro e
  unfold txt at e
  rw [ByteArray.toList_mk, ByteArray.toList_mk] at e
  exact h (by simpa using e)

/-- Two lists are alike from some place on. -/
theorem drop_eq_step {α : Type} (zs ys : List α) (j : Nat) (h1 : j < zs.length) (h2 : j < ys.length) : zs.drop j = ys.drop j ↔ (zs[j] = ys[j] ∧ zs.drop (j + 1) = ys.drop (j + 1)) := by
  rw [List.drop_eq_getElem_cons h1, List.drop_eq_getElem_cons h2, List.cons.injEq]

theorem eqInt_calls (w : World) (a c : Option Addr) (cap cap2 : Nat) (zs ys : List Int) (h1 : RdI w a zs) (h2 : RdI w c ys) (hn : zs.length ≤ 9223372036854775806) (hm : ys.length ≤ 9223372036854775806) :
    Calls Try.prog 54 #[.slice a zs.length cap, .slice c ys.length cap2] w fun e w' => e = .returned (.bool (decide (zs = ys))) ∧ Below w.heap.size w w' := by
  by_cases hl : zs.length = ys.length
  · have HA : Hid (∀ X : LaterW w, RdI X.on a zs) := fun X => rdI_later h1 X.bel
    have HC : Hid (∀ X : LaterW w, RdI X.on c ys) := fun X => rdI_later h2 X.bel
    have H0 : Hid (decide (zs = ys) = decide (zs.drop 0 = ys.drop 0)) := rfl
    have HS : Hid (∀ (j : Nat) (h1 : j < zs.length) (h2 : j < ys.length), (zs.drop j = ys.drop j) ↔ _) := fun j h1 h2 => drop_eq_step zs ys j h1 h2
    have HE : Hid (zs.drop zs.length = ys.drop zs.length) := by show _ = _; rw [List.drop_length, hl, List.drop_length]
    generalize decide (zs = ys) = b at *
    obtain ⟨n, hnn⟩ : ∃ n, zs.length = n := ⟨_, rfl⟩
    have Hn : Hid (zs.length = n) := hnn
    have Hm : Hid (ys.length = n) := by show _ = _; omega
    rw [hnn] at hn HE ⊢
    rw [Hm.out]
    clear h1 h2 hnn hl hm
    go_enter Try.func54, Try.ntmps54
    go_wp2
    go_loopw [13] (fun i wr => ∃ j : Nat, j ≤ n ∧ i = .int .i64 j ∧ Hid (b = decide (zs.drop j = ys.drop j)) ∧ Below w.heap.size w wr) (fun i _ => n - (intOf i).toNat)
    case atStart => exact ⟨0, by omega, rfl, H0, Below.refl _ _⟩
    case round =>
      obtain ⟨j, hj, rfl, HJ, hb⟩ := hrel
      by_cases hlt : j < n
      · have hj2 : j < zs.length := by have := Hn.out; omega
        have hj3 : j < ys.length := by have := Hm.out; omega
        obtain ⟨g, off, rfl, -, -⟩ := HA.out ⟨w, Below.refl _ _⟩ j hj2
        obtain ⟨g2, off2, rfl, -, -⟩ := HC.out ⟨w, Below.refl _ _⟩ j hj3
        have hne := LaterW.some_ wr
        have z1 : ∀ X : LaterW wr, X.on.cell? ⟨g, off + j, none⟩ = some (.int .i64 zs[j]) := fun X => by
          obtain ⟨g', off', e1, -, e2⟩ := HA.out ⟨X.on, hb.trans (X.bel.mono hb.size)⟩ j hj2
          simp only [Option.some.injEq, Addr.mk.injEq, and_true] at e1
          obtain ⟨rfl, rfl⟩ := e1
          exact e2
        have z2 : ∀ X : LaterW wr, X.on.cell? ⟨g2, off2 + j, none⟩ = some (.int .i64 ys[j]) := fun X => by
          obtain ⟨g', off', e1, -, e2⟩ := HC.out ⟨X.on, hb.trans (X.bel.mono hb.size)⟩ j hj3
          simp only [Option.some.injEq, Addr.mk.injEq, and_true] at e1
          obtain ⟨rfl, rfl⟩ := e1
          exact e2
        have HS2 : Hid (_ ↔ _) := HS.out j hj2 hj3
        generalize zs[j] = z at *
        generalize ys[j] = y at *
        by_cases he : z = y
        · have HR : Hid (b = decide (zs.drop (j + 1) = ys.drop (j + 1))) := by show _ = _; rw [HJ.out, decide_eq_decide, HS2.out]; exact ⟨fun h => h.2, fun h => ⟨he, h⟩⟩
          subst he
          go_wp2
          refine wp_region_later wr (Below.refl _ _) (by kernel_rfl) (by kernel_rfl) ?_
          repeat (go_big_quiet_step (fail))
          refine wpQuiet_nil ?_
          rintro _ ⟨⟨X, hX⟩, rfl⟩
          go_wp2
          go_roundw
          case rel => exact ⟨j + 1, by omega, by go_num, HR, hb.trans (hX.mono hb.size)⟩
          case measure => simp [intOf]; omega
        · have HR : Hid (b = false) := by show _ = _; rw [HJ.out, decide_eq_false (fun h => he (HS2.out.1 h).1)]
          have hq : (z != y) = true := by rw [bne_iff_ne]; exact he
          go_wp2
          refine wp_region_later wr (Below.refl _ _) (by kernel_rfl) (by kernel_rfl) ?_
          repeat (go_big_quiet_step (fail))
          refine wpQuiet_nil ?_
          rintro _ ⟨⟨X, hX⟩, rfl⟩
          go_wp2
          go_ret
          exact ⟨ret_q HR.out.symm, hb.trans (hX.mono hb.size)⟩
      · obtain rfl : j = n := by omega
        have HR : Hid (b = true) := by show _ = _; rw [HJ.out]; exact decide_eq_true HE.out
        go_wp2
        go_ret
        exact ⟨ret_q HR.out.symm, hb⟩
  · have hd : decide (zs = ys) = false := decide_eq_false (fun e => hl (by rw [e]))
    rw [hd]
    have hq : ¬ ((zs.length : Int) = (ys.length : Int)) := by omega
    clear h1 h2 hd
    go_enter Try.func54, Try.ntmps54
    go_wp2
    go_ret
    exact ⟨rfl, Below.refl _ _⟩

set_option maxHeartbeats 1000000 in
theorem sameObj_calls (o1 o2 : ObjD) (f1 f2 : Option Addr) (k1 k2 : Nat) (w : World) (h1 : RdI w f1 o1.field) (h2 : RdI w f2 o2.field) (n1 : o1.field.length ≤ 1048576) (n2 : o2.field.length ≤ 1048576) (b : Bool) (hb : b = true ↔ o1 = o2) :
    Calls Try.prog 35 #[objV o1 (.slice f1 o1.field.length k1), objV o2 (.slice f2 o2.field.length k2)] w fun e w' => e = .returned (.bool b) ∧ Below w.heap.size w w' := by
  have HNO : Hid (¬ o1 = o2 → b = false) := fun hn => by cases b with | false => rfl | true => exact absurd (hb.1 rfl) hn
  have HY : Hid (o1 = o2 → b = true) := hb.2
  clear hb
  obtain ⟨l1, g1, s1, t1, r1, c1, fl1, p1⟩ := o1
  obtain ⟨l2, g2, s2, t2, r2, c2, fl2, p2⟩ := o2
  unfold objV
  simp only at h1 h2 n1 n2 ⊢
  have CE : Hid (∀ X, Below w.heap.size w X → _) := fun X hX => eqInt_calls X f1 f2 k1 k2 fl1 fl2 (rdI_later h1 hX) (rdI_later h2 hX) (by omega) (by omega)
  have BB : Hid (Below w.heap.size w ((w.alloc (.cells #[.bool l1, .int .i64 g1, .int .i64 s1, .int .i64 t1, .int .i64 r1, .int .i64 c1, .slice f1 fl1.length k1, .bool p1] 50)).alloc (.cells #[.bool l2, .int .i64 g2, .int .i64 s2, .int .i64 t2, .int .i64 r2, .int .i64 c2, .slice f2 fl2.length k2, .bool p2] 50))) := ((Below.refl _ _).alloc (Nat.le_refl _) _).alloc (by simp) _
  clear h1 h2
  by_cases el : l1 = l2
  rotate_left
  · have hb0 := HNO.out (fun e => el (by injection e))
    subst hb0
    obtain rfl : l1 = !l2 := by cases l1 <;> cases l2 <;> simp_all
    clear el HNO HY CE
    cases l2
    all_goals
      simp only [Bool.not_false, Bool.not_true] at *
      go_enter Try.func35, Try.ntmps35
      go_wp2
      go_ret
      exact ⟨rfl, BB.out⟩
  subst el
  have HNO1 := HNO
  by_cases eg1 : g1 = g2
  rotate_left
  · have hb0 := HNO.out (fun e => eg1 (by injection e))
    subst hb0
    have hq : (g1 == g2) = false := by rw [beq_eq_false_iff_ne]; exact eg1
    clear HNO HY CE HNO1
    cases l1
    all_goals
      go_enter Try.func35, Try.ntmps35
      go_wp2
      go_ret
      exact ⟨rfl, BB.out⟩
  subst eg1
  by_cases es1 : s1 = s2
  rotate_left
  · have hb0 := HNO.out (fun e => es1 (by injection e))
    subst hb0
    have hq : (s1 == s2) = false := by rw [beq_eq_false_iff_ne]; exact es1
    clear HNO HY CE HNO1
    cases l1
    all_goals
      go_enter Try.func35, Try.ntmps35
      go_wp2
      go_ret
      exact ⟨rfl, BB.out⟩
  subst es1
  by_cases et1 : t1 = t2
  rotate_left
  · have hb0 := HNO.out (fun e => et1 (by injection e))
    subst hb0
    have hq : (t1 == t2) = false := by rw [beq_eq_false_iff_ne]; exact et1
    clear HNO HY CE HNO1
    cases l1
    all_goals
      go_enter Try.func35, Try.ntmps35
      go_wp2
      go_ret
      exact ⟨rfl, BB.out⟩
  subst et1
  by_cases er1 : r1 = r2
  rotate_left
  · have hb0 := HNO.out (fun e => er1 (by injection e))
    subst hb0
    have hq : (r1 == r2) = false := by rw [beq_eq_false_iff_ne]; exact er1
    clear HNO HY CE HNO1
    cases l1
    all_goals
      go_enter Try.func35, Try.ntmps35
      go_wp2
      go_ret
      exact ⟨rfl, BB.out⟩
  subst er1
  by_cases ec1 : c1 = c2
  rotate_left
  · have hb0 := HNO.out (fun e => ec1 (by injection e))
    subst hb0
    have hq : (c1 == c2) = false := by rw [beq_eq_false_iff_ne]; exact ec1
    clear HNO HY CE HNO1
    cases l1
    all_goals
      go_enter Try.func35, Try.ntmps35
      go_wp2
      go_ret
      exact ⟨rfl, BB.out⟩
  subst ec1
  by_cases ef : fl1 = fl2
  rotate_left
  · have hb0 := HNO.out (fun e => ef (by injection e))
    subst hb0
    rw [decide_eq_false ef] at CE
    clear HNO HY HNO1
    cases l1
    all_goals
      go_enter Try.func35, Try.ntmps35
      go_wp2_with fail
      refine (CE.out _ BB.out).mono ?_
      rintro e w1 ⟨rfl, b1⟩
      have B1 := BB.out.trans (b1.mono BB.out.size)
      clear b1
      go_wp2
      go_ret
      exact ⟨rfl, B1⟩
  rw [decide_eq_true ef] at CE
  have HNO2 : Hid (p1 ≠ p2 → b = false) := fun hp => HNO.out (fun e => hp (by injection e))
  have HY2 : Hid (p1 = p2 → b = true) := fun hp => HY.out (by rw [ef, hp])
  obtain ⟨V, hV⟩ : ∃ V, V = (w.alloc (.cells #[.bool l1, .int .i64 g1, .int .i64 s1, .int .i64 t1, .int .i64 r1, .int .i64 c1, .slice f1 fl1.length k1, .bool p1] 50)).alloc (.cells #[.bool l1, .int .i64 g1, .int .i64 s1, .int .i64 t1, .int .i64 r1, .int .i64 c1, .slice f2 fl2.length k2, .bool p2] 50) := ⟨_, rfl⟩
  have BV : Below w.heap.size w V := by rw [hV]; exact BB.out
  have HC : Hid (∀ X, Below V.heap.size V X → X.cell? ⟨w.heap.size, 7, none⟩ = some (.bool p1) ∧ X.cell? ⟨w.heap.size + 1, 7, none⟩ = some (.bool p2)) := fun X hX => by
    have hs : V.heap.size = w.heap.size + 1 + 1 := by rw [hV]; simp
    refine ⟨?_, ?_⟩
    · rw [hX.cell (p := ⟨w.heap.size, 7, none⟩) (by show w.heap.size < _; omega), hV, World.cell?_alloc_lt _ _ _ (by simp), World.cell?_alloc_mark]; rfl
    · rw [hX.cell (p := ⟨w.heap.size + 1, 7, none⟩) (by show w.heap.size + 1 < _; omega), hV, show w.heap.size + 1 = (w.alloc (.cells #[.bool l1, .int .i64 g1, .int .i64 s1, .int .i64 t1, .int .i64 r1, .int .i64 c1, .slice f1 fl1.length k1, .bool p1] 50)).heap.size from by simp, World.cell?_alloc_mark]; rfl
  clear HNO HY HNO1 BB ef
  by_cases ep : p1 = p2
  · have hb1 := HY2.out ep
    subst hb1 ep
    clear HNO2 HY2
    cases l1 <;> cases p1
    all_goals
      go_enter Try.func35, Try.ntmps35
      go_wp2_with fail
      rw [← hV]
      refine (CE.out _ BV).mono ?_
      rintro e w1 ⟨rfl, b1⟩
      have B1 := BV.trans (b1.mono BV.size)
      obtain ⟨d1, d2⟩ := HC.out _ b1
      clear b1 hV
      go_wp2
      go_ret
      exact ⟨rfl, B1⟩
  · have hb1 := HNO2.out ep
    subst hb1
    obtain rfl : p1 = !p2 := by cases p1 <;> cases p2 <;> simp_all
    clear HNO2 HY2 ep
    cases l1 <;> cases p2
    all_goals
      simp only [Bool.not_false, Bool.not_true] at *
      go_enter Try.func35, Try.ntmps35
      go_wp2_with fail
      rw [← hV]
      refine (CE.out _ BV).mono ?_
      rintro e w1 ⟨rfl, b1⟩
      have B1 := BV.trans (b1.mono BV.size)
      obtain ⟨d1, d2⟩ := HC.out _ b1
      clear b1 hV
      go_wp2
      go_ret
      exact ⟨rfl, B1⟩

end Go.Proofs.Ytjhdnachbahbmaa
