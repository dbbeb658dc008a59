/- What impl.sameObj, impl.liveOk, slices.ContainsFunc over impl.weakWrong and impl.HeapOk answer. -/
import Derived.Test.YtgggmeceeehdcaaIOkWalks
import Derived.Test.YtgggmeceeehdcaaEmptyWalks
namespace Go.Proofs.Ytgggmeceeehdcaa
open Go.RowKit
set_option linter.unusedVariables false

set_option maxHeartbeats 1000000 in
theorem sameObj_calls (o1 o2 : ObjD) (f1 f2 : Option Addr) (k1 k2 : Nat) (w : World) (h1 : RdI w f1 o1.field) (h2 : RdI w f2 o2.field) (n1 : o1.field.length ≤ 1048576) (n2 : o2.field.length ≤ 1048576) (b : Bool) (hb : b = true ↔ o1 = o2) :
    Calls Try.prog 57 #[objV o1 (.slice f1 o1.field.length k1), objV o2 (.slice f2 o2.field.length k2)] w fun e w' => e = .returned (.bool b) ∧ Below w.heap.size w w' := by
  have HNO : Hid (¬ o1 = o2 → b = false) := fun hn => by cases b with | false => rfl | true => exact absurd (hb.1 rfl) hn
  have HY : Hid (o1 = o2 → b = true) := hb.2
  clear hb
  obtain ⟨l1, g1, s1, t1, r1, c1, fl1, p1⟩ := o1
  obtain ⟨l2, g2, s2, t2, r2, c2, fl2, p2⟩ := o2
  unfold objV
  simp only at h1 h2 n1 n2 ⊢
  have CE : Hid (∀ X, Below w.heap.size w X → _) := fun X hX => eqInt_calls X f1 f2 k1 k2 fl1 fl2 (rdI_later h1 hX) (rdI_later h2 hX) (by omega) (by omega)
  have BB : Hid (Below w.heap.size w ((w.alloc (.cells #[.bool l1, .int .i64 g1, .int .i64 s1, .int .i64 t1, .int .i64 r1, .int .i64 c1, .slice f1 fl1.length k1, .bool p1] 48)).alloc (.cells #[.bool l2, .int .i64 g2, .int .i64 s2, .int .i64 t2, .int .i64 r2, .int .i64 c2, .slice f2 fl2.length k2, .bool p2] 48))) := ((Below.refl _ _).alloc (Nat.le_refl _) _).alloc (by simp) _
  clear h1 h2
  by_cases el : l1 = l2
  rotate_left
  · have hb0 := HNO.out (fun e => el (by injection e))
    subst hb0
    obtain rfl : l1 = !l2 := by cases l1 <;> cases l2 <;> simp_all
    clear el HNO HY CE
    cases l2
    all_goals
      simp only [Bool.not_false, Bool.not_true] at *
      go_enter Try.func57, Try.ntmps57
      go_wp2
      go_ret
      exact ⟨rfl, BB.out⟩
  subst el
  have HNO1 := HNO
  by_cases eg1 : g1 = g2
  rotate_left
  · have hb0 := HNO.out (fun e => eg1 (by injection e))
    subst hb0
    have hq : (g1 == g2) = false := by rw [beq_eq_false_iff_ne]; exact eg1
    clear HNO HY CE HNO1
    cases l1
    all_goals
      go_enter Try.func57, Try.ntmps57
      go_wp2
      go_ret
      exact ⟨rfl, BB.out⟩
  subst eg1
  by_cases es1 : s1 = s2
  rotate_left
  · have hb0 := HNO.out (fun e => es1 (by injection e))
    subst hb0
    have hq : (s1 == s2) = false := by rw [beq_eq_false_iff_ne]; exact es1
    clear HNO HY CE HNO1
    cases l1
    all_goals
      go_enter Try.func57, Try.ntmps57
      go_wp2
      go_ret
      exact ⟨rfl, BB.out⟩
  subst es1
  by_cases et1 : t1 = t2
  rotate_left
  · have hb0 := HNO.out (fun e => et1 (by injection e))
    subst hb0
    have hq : (t1 == t2) = false := by rw [beq_eq_false_iff_ne]; exact et1
    clear HNO HY CE HNO1
    cases l1
    all_goals
      go_enter Try.func57, Try.ntmps57
      go_wp2
      go_ret
      exact ⟨rfl, BB.out⟩
  subst et1
  by_cases er1 : r1 = r2
  rotate_left
  · have hb0 := HNO.out (fun e => er1 (by injection e))
    subst hb0
    have hq : (r1 == r2) = false := by rw [beq_eq_false_iff_ne]; exact er1
    clear HNO HY CE HNO1
    cases l1
    all_goals
      go_enter Try.func57, Try.ntmps57
      go_wp2
      go_ret
      exact ⟨rfl, BB.out⟩
  subst er1
  by_cases ec1 : c1 = c2
  rotate_left
  · have hb0 := HNO.out (fun e => ec1 (by injection e))
    subst hb0
    have hq : (c1 == c2) = false := by rw [beq_eq_false_iff_ne]; exact ec1
    clear HNO HY CE HNO1
    cases l1
    all_goals
      go_enter Try.func57, Try.ntmps57
      go_wp2
      go_ret
      exact ⟨rfl, BB.out⟩
  subst ec1
  by_cases ef : fl1 = fl2
  rotate_left
  · have hb0 := HNO.out (fun e => ef (by injection e))
    subst hb0
    rw [decide_eq_false ef] at CE
    clear HNO HY HNO1
    cases l1
    all_goals
      go_enter Try.func57, Try.ntmps57
      go_wp2_with fail
      refine (CE.out _ BB.out).mono ?_
      rintro e w1 ⟨rfl, b1⟩
      have B1 := BB.out.trans (b1.mono BB.out.size)
      clear b1
      go_wp2
      go_ret
      exact ⟨rfl, B1⟩
  rw [decide_eq_true ef] at CE
  have HNO2 : Hid (p1 ≠ p2 → b = false) := fun hp => HNO.out (fun e => hp (by injection e))
  have HY2 : Hid (p1 = p2 → b = true) := fun hp => HY.out (by rw [ef, hp])
  obtain ⟨V, hV⟩ : ∃ V, V = (w.alloc (.cells #[.bool l1, .int .i64 g1, .int .i64 s1, .int .i64 t1, .int .i64 r1, .int .i64 c1, .slice f1 fl1.length k1, .bool p1] 48)).alloc (.cells #[.bool l1, .int .i64 g1, .int .i64 s1, .int .i64 t1, .int .i64 r1, .int .i64 c1, .slice f2 fl2.length k2, .bool p2] 48) := ⟨_, rfl⟩
  have BV : Below w.heap.size w V := by rw [hV]; exact BB.out
  have HC : Hid (∀ X, Below V.heap.size V X → X.cell? ⟨w.heap.size, 7, none⟩ = some (.bool p1) ∧ X.cell? ⟨w.heap.size + 1, 7, none⟩ = some (.bool p2)) := fun X hX => by
    have hs : V.heap.size = w.heap.size + 1 + 1 := by rw [hV]; simp
    refine ⟨?_, ?_⟩
    · rw [hX.cell (p := ⟨w.heap.size, 7, none⟩) (by show w.heap.size < _; omega), hV, World.cell?_alloc_lt _ _ _ (by simp), World.cell?_alloc_mark]; rfl
    · rw [hX.cell (p := ⟨w.heap.size + 1, 7, none⟩) (by show w.heap.size + 1 < _; omega), hV, show w.heap.size + 1 = (w.alloc (.cells #[.bool l1, .int .i64 g1, .int .i64 s1, .int .i64 t1, .int .i64 r1, .int .i64 c1, .slice f1 fl1.length k1, .bool p1] 48)).heap.size from by simp, World.cell?_alloc_mark]; rfl
  clear HNO HY HNO1 BB ef
  by_cases ep : p1 = p2
  · have hb1 := HY2.out ep
    subst hb1 ep
    clear HNO2 HY2
    cases l1 <;> cases p1
    all_goals
      go_enter Try.func57, Try.ntmps57
      go_wp2_with fail
      rw [← hV]
      refine (CE.out _ BV).mono ?_
      rintro e w1 ⟨rfl, b1⟩
      have B1 := BV.trans (b1.mono BV.size)
      obtain ⟨d1, d2⟩ := HC.out _ b1
      clear b1 hV
      go_wp2
      go_ret
      exact ⟨rfl, B1⟩
  · have hb1 := HNO2.out ep
    subst hb1
    obtain rfl : p1 = !p2 := by cases p1 <;> cases p2 <;> simp_all
    clear HNO2 HY2 ep
    cases l1 <;> cases p2
    all_goals
      simp only [Bool.not_false, Bool.not_true] at *
      go_enter Try.func57, Try.ntmps57
      go_wp2_with fail
      rw [← hV]
      refine (CE.out _ BV).mono ?_
      rintro e w1 ⟨rfl, b1⟩
      have B1 := BV.trans (b1.mono BV.size)
      obtain ⟨d1, d2⟩ := HC.out _ b1
      clear b1 hV
      go_wp2
      go_ret
      exact ⟨rfl, B1⟩

end Go.Proofs.Ytgggmeceeehdcaa
