/- The law on ReadLog, walked over any program's ReadLog that tells the payloads in a row of its own, and the code. -/
import Derived.Test.YthagjamgmlbhkaaDoorSReadLogWalks
import Derived.Test.YthagjamgmlbhkaaDoorMarkWalks
namespace Go.Proofs.YthagjamgmlbhkaaDoor
open Go.RowKit
set_option linter.unusedVariables false

theorem rdG_length : ∀ (f : Nat) (l : List UInt8) (out : List (List UInt8)), (rdG f l out).1.length ≤ out.length + l.length := by
  intro f
  induction f with
  | zero => intro l out; simp [rdG]
  | succ f ih =>
    intro l out
    by_cases hl : l = []
    · subst hl; rw [rdG_nil]; simp
    · cases h : rdF l with
      | none => rw [rdG_none f l out hl h]; simp
      | some x =>
        obtain ⟨q, t, k⟩ := x
        have hk := rdF_pos l q t k h
        have hkl := (rdF_sound l q t k h).2.2.1
        by_cases hq : q = out.length
        · by_cases ht : t = []
          · subst ht
            rw [rdG_last f l out q k hl h hq]
            split
            · simp
            · simp
          · rw [rdG_step f l out q t k hl h hq ht]
            have h2 := ih (l.drop k) (out ++ [t])
            rw [List.length_append, List.length_singleton, List.length_drop] at h2
            omega
        · rw [rdG_seq f l out q t k hl h hq]; simp
theorem rdL_length (l : List UInt8) : (rdL l).1.length ≤ l.length := by
  unfold rdL; split
  · have h := rdG_length l.length (l.drop 5) []
    rw [List.length_drop] at h
    simp at h
    omega
  · simp

set_option maxHeartbeats 1000000 in
theorem log_law (s : ByteArray) (w : World) (w0 : s.size ≤ maxLen)
    (hI : s.size ≤ 1048576 → ∀ X, Below w.heap.size w X → Calls Tryd.prog 12 #[.string s] X fun e w' => ∃ v, e = .returned (.tuple #[v, .int .i64 ((rdL s.data.toList).2 : Int)]) ∧ ownS w' X.heap.size v (rdL s.data.toList).1 ∧ Below X.heap.size X w') :
    Calls Tryd.prog 7 #[.string s] w fun e w' => e = .returned (.bool true) ∧ Below w.heap.size w w' := by
  unfold maxLen at w0
  by_cases hb : 1048576 < s.size
  · clear hI
    go_enter Tryd.func7, Tryd.ntmps7
    go_wp2
    go_ret
    exact ⟨rfl, Below.refl _ _⟩
  · have hs : s.size ≤ 1048576 := by omega
    have CI : Hid (∀ X, _ → _) := hI hs
    have CS : Hid (∀ X, _) := fun X => sReadLog_calls s.data.toList X hs
    have hZ : (rdL s.data.toList).1.length ≤ 16777216 := by
      have h := rdL_length s.data.toList
      have h2 : s.data.toList.length = s.size := rfl
      omega
    clear hI
    generalize (rdL s.data.toList).1 = Z at *
    generalize (rdL s.data.toList).2 = cd at *
    have HZ : Hid (Z.length ≤ 16777216) := hZ
    obtain ⟨n, hn⟩ : ∃ n, Z.length = n := ⟨_, rfl⟩
    rw [hn] at hZ
    have Hn : Hid (Z.length = n) := hn
    have CM : Hid (∀ X B v, ownS X B v Z → B ≤ X.heap.size → _) := fun X B v h hB => markStringS_calls X B v Z 1 h hB HZ.out (by omega) (by omega)
    have CH : Hid (∀ X B v, ownS X B v (mks 1 n) → B ≤ X.heap.size → _) := fun X B v h hB => heldStringS_calls X B v n 1 h hB hZ (by omega) (by omega)
    rw [hn] at CM
    clear hn
    go_enter Tryd.func7, Tryd.ntmps7
    go_wp2_with fail
    refine (CS.out _).mono ?_
    rintro e w1 ⟨v1, rfl, O1, B1⟩
    go_wp2_with fail
    refine (CI.out _ B1).mono ?_
    rintro e w2 ⟨v2, rfl, O2, b2⟩
    have B2 := B1.trans (b2.mono B1.size)
    have P1 := ownS_later O1 b2
    go_wp2_with fail
    refine (eqStringS_calls _ _ _ v2 v1 Z Z O2 P1 HZ.out rfl).mono ?_
    rintro e w3 ⟨rfl, b3⟩
    have B3 := B2.trans (b3.mono B2.size)
    have O3 := ownS_later O2 b3
    have P3 := ownS_later P1 b3
    have hs3 : w1.heap.size ≤ w3.heap.size := Nat.le_trans b2.size b3.size
    clear O2 P1 B2
    go_wp2_with fail
    refine (CM.out _ _ v2 O3 hs3).mono ?_
    rintro e w4 ⟨rfl, O4, b4⟩
    have P4 := ownS_below P3 b4 (fun g hg => (ownS_lt O1 g hg).2)
    have B4 := B3.trans (b4.mono B1.size)
    have hs4 : w1.heap.size ≤ w4.heap.size := Nat.le_trans hs3 b4.size
    clear O3 P3 b3
    go_wp2_with fail
    refine (CH.out _ _ v2 O4 hs4).mono ?_
    rintro e w5 ⟨rfl, b5⟩
    have B5 := B4.trans (b5.mono B4.size)
    have O5 := ownS_later O4 b5
    have P5 := ownS_later P4 b5
    have hs5 : w1.heap.size ≤ w5.heap.size := Nat.le_trans hs4 b5.size
    clear O4 P4 B4
    go_wp2_with fail
    refine (CI.out _ B5).mono ?_
    rintro e w6 ⟨v6, rfl, O6, b6⟩
    have B6 := B5.trans (b6.mono B5.size)
    have P6 := ownS_later P5 b6
    have Q6 := ownS_later O5 b6
    have hs6 : w1.heap.size ≤ w6.heap.size := Nat.le_trans hs5 b6.size
    clear P5 O5 b6
    go_wp2_with fail
    refine (eqStringS_calls _ _ _ v6 v1 Z Z O6 P6 HZ.out rfl).mono ?_
    rintro e w7 ⟨rfl, b7⟩
    have B7 := B6.trans (b7.mono B6.size)
    have Q7 := ownS_later Q6 b7
    have hs7 : w1.heap.size ≤ w7.heap.size := Nat.le_trans hs6 b7.size
    clear O6 P6 Q6 b7
    go_wp2_with fail
    refine (CH.out _ _ v2 Q7 hs7).mono ?_
    rintro e w8 ⟨rfl, b8⟩
    have B8 := B7.trans (b8.mono B7.size)
    go_wp2
    go_ret
    exact ⟨rfl, B8⟩

end Go.Proofs.YthagjamgmlbhkaaDoor
