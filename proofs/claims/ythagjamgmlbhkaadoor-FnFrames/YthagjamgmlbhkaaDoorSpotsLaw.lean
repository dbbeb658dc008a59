/- The law on FrameSpots, walked over any program's FrameSpots that tells the spots in a row of its own. -/
import Derived.Test.YthagjamgmlbhkaaDoorSSpotsWalks
import Derived.Test.YthagjamgmlbhkaaDoorIntsWalks
namespace Go.Proofs.YthagjamgmlbhkaaDoor
open Go.RowKit
set_option linter.unusedVariables false

theorem spG_length : ∀ (f : Nat) (l : List UInt8) (p : Nat), (spG f l p).length ≤ l.length := by
  intro f
  induction f with
  | zero => intro l p; simp [spG]
  | succ f ih =>
    intro l p
    by_cases hl : l = []
    · subst hl; rw [spG_nil]; simp
    · cases h : rdF l with
      | none => rw [spG_none _ l p h]; simp
      | some x =>
        obtain ⟨q, t, k⟩ := x
        have hk := rdF_pos l q t k h
        have hs := rdF_sound l q t k h
        rw [spG_step f l p q t k hl h, List.length_cons]
        have h2 := ih (l.drop k) (p + k)
        rw [List.length_drop] at h2
        omega
theorem spots_length (l : List UInt8) : (spots l).length ≤ l.length + 1 := by
  unfold spots; split
  · rw [List.length_cons]
    have h := spG_length l.length (l.drop 5) 5
    rw [List.length_drop] at h
    omega
  · simp

theorem spots_law (s : ByteArray) (w : World) (w0 : s.size ≤ maxLen)
    (hI : s.size ≤ 1048576 → ∀ X, Below w.heap.size w X → Calls Tryd.prog 14 #[.string s] X fun e w' => ∃ v, e = .returned v ∧ ownI w' X.heap.size v (ints (spots s.data.toList)) ∧ Below X.heap.size X w') :
    Calls Tryd.prog 8 #[.string s] w fun e w' => e = .returned (.bool true) ∧ Below w.heap.size w w' := by
  unfold maxLen at w0
  by_cases hb : 1048576 < s.size
  · clear hI
    go_enter Tryd.func8, Tryd.ntmps8
    go_wp2
    go_ret
    exact ⟨rfl, Below.refl _ _⟩
  · have hs : s.size ≤ 1048576 := by omega
    have CI : Hid (∀ X, _ → _) := hI hs
    have CS : Hid (∀ X, _) := fun X => sFrameSpots_calls s.data.toList X hs
    have hZ : (ints (spots s.data.toList)).length ≤ 16777216 := by
      have h := spots_length s.data.toList
      rw [ints_length]
      have h2 : s.data.toList.length = s.size := rfl
      omega
    clear hI
    generalize ints (spots s.data.toList) = Z at *
    have HZ : Hid (Z.length ≤ 16777216) := hZ
    obtain ⟨n, hn⟩ : ∃ n, Z.length = n := ⟨_, rfl⟩
    rw [hn] at hZ
    have Hn : Hid (Z.length = n) := hn
    clear hn
    go_enter Tryd.func8, Tryd.ntmps8
    go_wp2_with fail
    refine (CS.out _).mono ?_
    rintro e w1 ⟨v1, rfl, O1, B1⟩
    go_wp2_with fail
    refine (CI.out _ B1).mono ?_
    rintro e w2 ⟨v2, rfl, O2, b2⟩
    have B2 := B1.trans (b2.mono B1.size)
    have P1 := ownI_later O1 b2
    go_wp2_with fail
    refine (eqIntS_calls _ _ _ v2 v1 Z Z O2 P1 HZ.out HZ.out rfl).mono ?_
    rintro e w3 ⟨rfl, b3⟩
    have B3 := B2.trans (b3.mono B2.size)
    have O3 := ownI_later O2 b3
    have P3 := ownI_later P1 b3
    clear O2 P1 B2
    go_wp2_with fail
    refine (markIntS_calls _ _ v2 Z 1 O3 HZ.out (by omega) (by omega)).mono ?_
    rintro e w4 ⟨rfl, O4, b4⟩
    have P4 := ownI_below P3 b4 (fun g hg => (ownI_lt O1 g hg).2)
    have B4 := B3.trans (b4.mono B1.size)
    clear O3 P3 b3
    rw [Hn.out] at O4 ⊢
    go_wp2_with fail
    refine (heldIntS_calls _ _ v2 n 1 O4 hZ (by omega) (by omega)).mono ?_
    rintro e w5 ⟨rfl, rfl⟩
    go_wp2_with fail
    refine (CI.out _ B4).mono ?_
    rintro e w6 ⟨v6, rfl, O6, b6⟩
    have B6 := B4.trans (b6.mono B4.size)
    have P6 := ownI_later P4 b6
    have Q6 := ownI_later O4 b6
    clear P4 O4 b6
    go_wp2_with fail
    refine (eqIntS_calls _ _ _ v6 v1 Z Z O6 P6 HZ.out HZ.out rfl).mono ?_
    rintro e w7 ⟨rfl, b7⟩
    have B7 := B6.trans (b7.mono B6.size)
    have Q7 := ownI_later Q6 b7
    clear O6 P6 Q6 b7
    go_wp2_with fail
    refine (heldIntS_calls _ _ v2 n 1 Q7 hZ (by omega) (by omega)).mono ?_
    rintro e w8 ⟨rfl, rfl⟩
    go_wp2
    go_ret
    exact ⟨rfl, B7⟩

end Go.Proofs.YthagjamgmlbhkaaDoor
