/- What spec.FrameSpots answers, at every text of at most 2^20 bytes. -/
import Derived.Test.YthagjamgmlbhkaaDoorFrame2Math
import Derived.Test.YthagjamgmlbhkaaDoorSFrameWalks
import Derived.Test.YthagjamgmlbhkaaDoorOwnI
namespace Go.Proofs.YthagjamgmlbhkaaDoor
open Go.RowKit
set_option linter.unusedVariables false

def ints (l : List Nat) : List Int := l.map Int.ofNat
theorem ints_length (l : List Nat) : (ints l).length = l.length := by simp [ints]
theorem ints_snoc (l : List Nat) (n : Nat) : ints l ++ [(n : Int)] = ints (l ++ [n]) := by simp [ints]

theorem sp_step (l : List UInt8) (p q : Nat) (t : List UInt8) (k : Nat) (hp : p < l.length) (h : rdF (l.drop p) = some (q, t, k)) : spG l.length (l.drop p) p = (p + k) :: spG l.length (l.drop (p + k)) (p + k) := by
  obtain ⟨f, hf⟩ : ∃ f, l.length = f + 1 := ⟨l.length - 1, by omega⟩
  have hk := rdF_pos _ _ _ _ h
  have hne : l.drop p ≠ [] := by
    intro he
    have := congrArg List.length he
    rw [List.length_drop, List.length_nil] at this
    omega
  have e := spG_step f (l.drop p) p q t k hne h
  rw [← hf, List.drop_drop] at e
  rw [e, spG_fuel f l.length _ _ (by rw [List.length_drop]; omega) (by rw [List.length_drop]; omega)]
theorem sp_end (l : List UInt8) (p : Nat) (hp : l.length ≤ p) : spG l.length (l.drop p) p = [] := by rw [List.drop_eq_nil_of_le hp, spG_nil]

theorem magic_test (l : List UInt8) : ((txt (l.take 5)).toList == [72, 76, 79, 71, 1]) = decide (l.take 5 = magic) := by
  unfold txt
  rw [ByteArray.toList_mk]
  by_cases h : l.take 5 = magic
  · rw [h]; rfl
  · rw [decide_eq_false h, beq_eq_false_iff_ne]; exact h

theorem sMagic_calls (w : World) : Calls Tryd.prog 50 #[] w fun e w' => e = .returned (.string { data := #[72, 76, 79, 71, 1] }) ∧ w' = w := by
  go_enter Tryd.func50, Tryd.ntmps50
  go_wp2
  go_ret
  exact ⟨rfl, rfl⟩

theorem sFrameSpots_calls (l : List UInt8) (w : World) (hs : l.length ≤ 1048576) :
    Calls Tryd.prog 26 #[.string (txt l)] w fun e w' => ∃ v, e = .returned v ∧ ownI w' w.heap.size v (ints (spots l)) ∧ Below w.heap.size w w' := by
  have hls : (txt l).size = l.length := rfl
  have hms : ({ data := #[72, 76, 79, 71, 1] } : ByteArray).size = 5 := rfl
  have HX : Hid ((txt l).extract 0 5 = txt (l.take 5)) := extract_to l 5
  have HT : Hid (_ = _) := magic_test l
  by_cases h5 : l.length < 5
  · have HN : Hid (spots l = []) := by
      show _ = _
      unfold spots
      rw [if_neg]
      intro he
      have := congrArg List.length he
      rw [List.length_take] at this
      have e5 : magic.length = 5 := rfl
      omega
    generalize l.length = N at *
    go_enter Tryd.func26, Tryd.ntmps26
    go_wp2_with fail
    refine (sMagic_calls _).mono ?_
    rintro e w1 ⟨rfl, rfl⟩
    go_wp2
    go_ret
    exact ⟨_, rfl, HN.out ▸ ownI_new _ _ (Nat.le_refl _), (Below.refl _ _).alloc (Nat.le_refl _) _⟩
  · have h5a : (5 : Int) ≤ (l.length : Int) := by omega
    have hX := HX.out
    have hT := HT.out
    by_cases hm : l.take 5 = magic
    · have HS : Hid (spots l = [5] ++ spG l.length (l.drop 5) 5) := by show _ = _; unfold spots; rw [if_pos hm]; rfl
      have ST : Hid (∀ p q t k, p < l.length → rdF (l.drop p) = some (q, t, k) → spG l.length (l.drop p) p = (p + k) :: spG l.length (l.drop (p + k)) (p + k)) := fun p q t k => sp_step l p q t k
      have SE : Hid (∀ p, l.length ≤ p → spG l.length (l.drop p) p = []) := sp_end l
      have EX : Hid (∀ p, (txt l).extract p l.length = txt (l.drop p)) := extract_from l
      have CI : Hid (∀ p q t k X, rdF (l.drop p) = some (q, t, k) → _) := fun p q t k X h => sReadFrame_is (l.drop p) X (by rw [List.length_drop]; omega) q t k h
      have CN : Hid (∀ p X, rdF (l.drop p) = none → _) := fun p X h => sReadFrame_isnt (l.drop p) X (by rw [List.length_drop]; omega) h
      have SN : Hid (∀ p, rdF (l.drop p) = none → spG l.length (l.drop p) p = []) := fun p h => spG_none _ _ p h
      have RL : Hid (∀ p q t k, rdF (l.drop p) = some (q, t, k) → 6 ≤ k ∧ k ≤ l.length - p) := fun p q t k h => ⟨rdF_pos _ _ _ _ h, by have h2 := rdF_sound _ _ _ _ h; rw [List.length_drop] at h2; exact h2.2.2.1⟩
      rw [decide_eq_true hm] at hT
      clear hm HX HT
      generalize spots l = SP at *
      obtain ⟨N, hN⟩ : ∃ N, l.length = N := ⟨_, rfl⟩
      rw [hN] at hs hls h5 h5a HS ST SE EX RL SN
      clear hN
      go_enter Tryd.func26, Tryd.ntmps26
      go_wp2_with fail
      refine (sMagic_calls _).mono ?_
      rintro e w1 ⟨rfl, rfl⟩
      have O1 : ownI (w1.alloc (.cells #[] 3)) w1.heap.size (.slice (some ⟨w1.heap.size, 0, none⟩) 0 0) [] := ownI_new _ _ (Nat.le_refl _)
      have B1 : Below w1.heap.size w1 (w1.alloc (.cells #[] 3)) := (Below.refl _ _).alloc (Nat.le_refl _) _
      go_wp2_with (at_builtin; go_loud (refine wpList_appendI rfl _ _ rfl w1.heap.size _ [] rfl (ownI_alloc _ O1) ⟨w1.heap.size + 1, 0, none⟩ [5] 1 1 rfl rfl ?hsrc ?hlen w1 (B1.alloc B1.size _) (Nat.le_refl _) ?_))
      case hsrc =>
        have h := src_int (w1.alloc (.cells #[] 3)) 5
        rw [show (w1.alloc (.cells #[] 3)).heap.size = w1.heap.size + 1 from by simp] at h
        exact h
      case hlen => simp
      · intro v2 w2 O2 B2
        go_wp2
        go_loopw [4, 5] (fun v x wr => ∃ (P : List Nat) (p : Nat), p ≤ N ∧ P.length ≤ p ∧ x = .int .i64 (p : Int) ∧ Hid (SP = P ++ spG N (l.drop p) p) ∧ ownI wr w1.heap.size v (ints P) ∧ Below w1.heap.size w1 wr) (fun _ x _ => N - (intOf x).toNat)
        case atStart => exact ⟨[5], 5, by omega, by simp, rfl, HS, O2, B2⟩
        case round =>
          obtain ⟨P, p, hp, hPl, rfl, HP, hown, hb⟩ := hrel
          by_cases hlt : p < N
          · have hx : (txt l).extract p N = txt (l.drop p) := EX.out p
            cases hr : rdF (l.drop p) with
            | none =>
              have HE : Hid (SP = P) := by show _ = _; rw [HP.out, SN.out p hr, List.append_nil]
              have C := fun X => CN.out p X hr
              have HC : Hid (∀ X, _) := C
              clear C hr
              go_wp2_with fail
              refine (HC.out _).mono ?_
              rintro e w3 ⟨rfl, b3⟩
              have B3 := hb.trans (b3.mono hb.size)
              have O3 := ownI_later hown b3
              go_wp2
              go_ret
              exact ⟨_, rfl, HE.out ▸ O3, B3⟩
            | some x =>
              obtain ⟨q, t, k⟩ := x
              have HE : Hid (SP = (P ++ [p + k]) ++ spG N (l.drop (p + k)) (p + k)) := by show _ = _; rw [HP.out, ST.out p q t k hlt hr]; simp
              obtain ⟨hk6, hkl⟩ := RL.out p q t k hr
              have HC : Hid (∀ X, _) := fun X => CI.out p q t k X hr
              clear hr
              have qk : ((k : Int) == 0) = false := by rw [beq_eq_false_iff_ne]; omega
              go_wp2_with fail
              refine (HC.out _).mono ?_
              rintro e w3 ⟨rfl, b3⟩
              have B3 := hb.trans (b3.mono hb.size)
              have O3 := ownI_later hown b3
              go_wp2_with (at_builtin; refine wpList_appendI rfl _ _ rfl w1.heap.size _ (ints P) rfl (ownI_alloc _ O3) ⟨w3.heap.size, 0, none⟩ [((p + k : Nat) : Int)] 1 1 rfl rfl ?hsrc ?hlen w1 (B3.alloc B3.size _) (Nat.le_refl _) ?_)
              case hsrc =>
                have h := src_int w3 ((p + k : Nat) : Int)
                exact h
              case hlen => rw [ints_length, List.length_singleton]; omega
              · intro v4 w4 O4 B4
                go_wp2
                go_roundw
                case rel => exact ⟨P ++ [p + k], p + k, by omega, by rw [List.length_append, List.length_singleton]; omega, by go_num, HE, ints_snoc P (p + k) ▸ O4, B4⟩
                case measure => simp [intOf]; omega
          · have HE : Hid (SP = P) := by show _ = _; rw [HP.out, SE.out p (by omega), List.append_nil]
            go_wp2
            go_ret
            exact ⟨_, rfl, HE.out ▸ hown, hb⟩
    · have HN : Hid (spots l = []) := by show _ = _; unfold spots; rw [if_neg hm]
      rw [decide_eq_false hm] at hT
      clear hm HX HT
      generalize spots l = SP at *
      generalize l.length = N at *
      go_enter Tryd.func26, Tryd.ntmps26
      go_wp2_with fail
      refine (sMagic_calls _).mono ?_
      rintro e w1 ⟨rfl, rfl⟩
      go_wp2
      go_ret
      exact ⟨_, rfl, HN.out ▸ ownI_new _ _ (Nat.le_refl _), (Below.refl _ _).alloc (Nat.le_refl _) _⟩

end Go.Proofs.YthagjamgmlbhkaaDoor
