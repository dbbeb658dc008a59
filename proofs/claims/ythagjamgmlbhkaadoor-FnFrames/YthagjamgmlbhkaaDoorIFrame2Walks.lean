/- What impl.ReadFrame answers, at every text of at most 2^20 bytes, where the table of sixteen lies as the program's text lays it. -/
import Derived.Test.YthagjamgmlbhkaaDoorIFrameWalks
import Derived.Test.YthagjamgmlbhkaaDoorFrame3Math
import Derived.Test.YthagjamgmlbhkaaDoorShelf
namespace Go.Proofs.YthagjamgmlbhkaaDoor
open Go.RowKit
set_option linter.unusedVariables false

theorem clone_calls (l : List UInt8) (w : World) (hl : l.length ≤ 1048576) :
    Calls Tryd.prog 41 #[.string (txt l)] w fun e w' => e = .returned (.string (txt l)) ∧ Below w.heap.size w w' := by
  have C : Hid (∀ X, _) := fun X => Tryd.stringslite_Clone (txt l) X (by rw [txt_size]; omega)
  go_enter Tryd.func41, Tryd.ntmps41
  go_wp2_with fail
  refine (C.out _).mono ?_
  rintro e w1 ⟨rfl, b1⟩
  go_wp2
  go_ret
  exact ⟨rfl, b1⟩

theorem iReadVar_l (l : List UInt8) (c k : Nat) (w : World) (hs : l.length ≤ 1048576) (hv : rdv l = (c, k)) :
    Calls Tryd.prog 39 #[.string (txt l)] w fun e w' => e = .returned (.tuple #[.int .i64 (c : Int), .int .i64 (k : Int)]) ∧ w' = w := by
  have h := iReadVar_txt l w hs
  rw [hv] at h
  exact h

theorem iReadFrame_short (l : List UInt8) (q a n b : Nat) (w : World) (hs : l.length ≤ 1048576) (hv : rdv l = (q, a)) (hal : a ≤ l.length) (hv2 : rdv (l.drop a) = (n, b)) (hn : n ≤ 562949953421311) (hbl : a + b ≤ l.length) (h : a = 0 ∨ b = 0 ∨ l.length < a + b + n) :
    Calls Tryd.prog 15 #[.string (txt l)] w fun e w' => e = .returned (.tuple (ansF none)) ∧ Below w.heap.size w w' := by
  have hls : (txt l).size = l.length := rfl
  have HX : Hid (∀ X, _) := fun X => iReadVar_l (l.drop a) n b X (by rw [List.length_drop]; omega) hv2
  have hx : (txt l).extract a l.length = txt (l.drop a) := extract_from l a
  have CV : Hid (∀ X, _) := fun X => iReadVar_l l q a X hs hv
  clear hv hv2
  generalize l.length = N at *
  have a1 : (a : Int) ≤ (N : Int) := by omega
  by_cases h0 : a = 0
  · have q0 : ((a : Int) == 0) = true := by rw [h0]; rfl
    clear h0 h
    go_enter Tryd.func15, Tryd.ntmps15
    go_wp2_with fail
    refine (CV.out _).mono ?_
    rintro e w1 ⟨rfl, rfl⟩
    go_wp2_with fail
    refine (HX.out _).mono ?_
    rintro e w2 ⟨rfl, rfl⟩
    go_wp2
    go_ret3
    exact ⟨rfl, Below.refl _ _⟩
  · have q0 : ((a : Int) == 0) = false := by rw [beq_eq_false_iff_ne]; omega
    by_cases h1 : b = 0
    · have q1 : ((b : Int) == 0) = true := by rw [h1]; rfl
      clear h1 h
      go_enter Tryd.func15, Tryd.ntmps15
      go_wp2_with fail
      refine (CV.out _).mono ?_
      rintro e w1 ⟨rfl, rfl⟩
      go_wp2_with fail
      refine (HX.out _).mono ?_
      rintro e w2 ⟨rfl, rfl⟩
      go_wp2
      go_ret3
      exact ⟨rfl, Below.refl _ _⟩
    · have q1 : ((b : Int) == 0) = false := by rw [beq_eq_false_iff_ne]; omega
      have h3 : (N : Int) - ((a : Int) + (b : Int)) < (n : Int) := by omega
      clear h1 h
      go_enter Tryd.func15, Tryd.ntmps15
      go_wp2_with fail
      refine (CV.out _).mono ?_
      rintro e w1 ⟨rfl, rfl⟩
      go_wp2_with fail
      refine (HX.out _).mono ?_
      rintro e w2 ⟨rfl, rfl⟩
      go_wp2
      go_ret3
      exact ⟨rfl, Below.refl _ _⟩

theorem prefix_bool (S l : List UInt8) : Lib.hasPrefix (txt l).data.toList (txt S).data.toList = decide (S <+: l) := by
  show S.isPrefixOf l = _
  rw [Bool.eq_iff_iff, List.isPrefixOf_iff_prefix, decide_eq_true_iff]

theorem prefix_calls (S l : List UInt8) (B : Bool) (hB : decide (S <+: l) = B) (w : World) :
    Calls Tryd.prog 40 #[.string (txt l), .string (txt S)] w fun e w' => e = .returned (.bool B) ∧ w' = w := by
  have h := Tryd.strings_HasPrefix (txt l) (txt S) w
  rw [prefix_bool, hB] at h
  exact h

set_option maxHeartbeats 1000000 in
theorem iReadFrame_long (l T S : List UInt8) (q a n b : Nat) (w : World) (ht : TabAt w) (hs : l.length ≤ 1048576) (hv : rdv l = (q, a)) (ha : 1 ≤ a) (hv2 : rdv (l.drop a) = (n, b)) (hb0 : 1 ≤ b) (hl : a + b + n ≤ l.length) (hT : (l.drop (a + b)).take n = T) (hS : showF (q : Int) T = S) :
    Calls Tryd.prog 15 #[.string (txt l)] w fun e w' => e = .returned (.tuple (ansF (if S = [] ∨ ¬ S <+: l then none else some (q, T, S.length)))) ∧ Below w.heap.size w w' := by
  have HT : Hid (TabAt w) := ht
  clear ht
  have q0 : ((a : Int) == 0) = false := by rw [beq_eq_false_iff_ne]; omega
  have q1 : ((b : Int) == 0) = false := by rw [beq_eq_false_iff_ne]; omega
  have hls : (txt l).size = l.length := rfl
  have HX : Hid (∀ X, _) := fun X => iReadVar_l (l.drop a) n b X (by rw [List.length_drop]; omega) hv2
  have hx : (txt l).extract a l.length = txt (l.drop a) := extract_from l a
  have hx2 : (txt l).extract (a + b) (a + b + n) = txt T := by rw [extract_txt, show a + b + n - (a + b) = n from by omega, hT]
  have CV : Hid (∀ X, _) := fun X => iReadVar_l l q a X hs hv
  have hTl : T.length ≤ 1048576 := by rw [← hT, List.length_take, List.length_drop]; omega
  have CF : Hid (∀ X, TabAt X → _) := fun X hX => iShowFrame_calls (q : Int) T X hTl hX
  rw [hS] at CF
  have hSl := showF_length (q : Int) T
  rw [hS] at hSl
  have zS : (txt S).size = S.length := rfl
  clear hv hv2 hT hS
  have CP : Hid (∀ B, decide (S <+: l) = B → ∀ X, _) := fun B hB X => prefix_calls S l B hB X
  generalize l.length = N at *
  have a1 : (a : Int) ≤ (N : Int) := by omega
  have a2 : (a : Int) + (b : Int) ≤ (a : Int) + (b : Int) + (n : Int) := by omega
  have a3 : (a : Int) + (b : Int) + (n : Int) ≤ (N : Int) := by omega
  have a5 : (n : Int) ≤ (N : Int) - ((a : Int) + (b : Int)) := by omega
  have a7 : (0 : Int) ≤ (a : Int) + (b : Int) := by omega
  have a8 : (0 : Int) ≤ (a : Int) + (b : Int) + (n : Int) := by omega
  by_cases h0 : S = []
  · rw [if_pos (.inl h0)]
    have e0 : txt S = ⟨#[]⟩ := by rw [h0]; rfl
    clear h0
    go_enter Tryd.func15, Tryd.ntmps15
    go_wp2_with fail
    refine (CV.out _).mono ?_
    rintro e w1 ⟨rfl, rfl⟩
    go_wp2_with fail
    refine (HX.out _).mono ?_
    rintro e w2 ⟨rfl, rfl⟩
    go_wp2_with fail
    refine (CF.out _ HT.out).mono ?_
    rintro e w3 ⟨rfl, b3⟩
    go_wp2
    go_ret3
    exact ⟨rfl, b3⟩
  · by_cases hp : S <+: l
    · rw [if_neg (fun h => h.elim h0 (fun h => h hp))]
      have e0 : ((txt S).toList == []) = false := by
        rw [beq_eq_false_iff_ne]; unfold txt; rw [ByteArray.toList_mk]; exact h0
      have CP2 := CP.out true (by simp [hp])
      clear h0 hp CP
      go_enter Tryd.func15, Tryd.ntmps15
      go_wp2_with fail
      refine (CV.out _).mono ?_
      rintro e w1 ⟨rfl, rfl⟩
      go_wp2_with fail
      refine (HX.out _).mono ?_
      rintro e w2 ⟨rfl, rfl⟩
      go_wp2_with fail
      refine (CF.out _ HT.out).mono ?_
      rintro e w3 ⟨rfl, b3⟩
      go_wp2_with fail
      refine (CP2 _).mono ?_
      rintro e w4 ⟨rfl, rfl⟩
      go_wp2_with fail
      refine (clone_calls T _ hTl).mono ?_
      rintro e w5 ⟨rfl, b5⟩
      go_wp2
      go_ret3
      exact ⟨rfl, b3.trans (b5.mono b3.size)⟩
    · rw [if_pos (.inr hp)]
      have e0 : ((txt S).toList == []) = false := by
        rw [beq_eq_false_iff_ne]; unfold txt; rw [ByteArray.toList_mk]; exact h0
      have CP2 := CP.out false (by simp [hp])
      clear h0 hp CP
      go_enter Tryd.func15, Tryd.ntmps15
      go_wp2_with fail
      refine (CV.out _).mono ?_
      rintro e w1 ⟨rfl, rfl⟩
      go_wp2_with fail
      refine (HX.out _).mono ?_
      rintro e w2 ⟨rfl, rfl⟩
      go_wp2_with fail
      refine (CF.out _ HT.out).mono ?_
      rintro e w3 ⟨rfl, b3⟩
      go_wp2_with fail
      refine (CP2 _).mono ?_
      rintro e w4 ⟨rfl, rfl⟩
      go_wp2
      go_ret3
      exact ⟨rfl, b3⟩

theorem iReadFrame_calls (l : List UInt8) (w : World) (ht : TabAt w) (hs : l.length ≤ 1048576) :
    Calls Tryd.prog 15 #[.string (txt l)] w fun e w' => e = .returned (.tuple (ansF (rdF l))) ∧ Below w.heap.size w w' := by
  obtain ⟨q, a, hv⟩ : ∃ q a, rdv l = (q, a) := ⟨_, _, rfl⟩
  obtain ⟨n, b, hv2⟩ : ∃ n b, rdv (l.drop a) = (n, b) := ⟨_, _, rfl⟩
  obtain ⟨hq, hal⟩ := rdv_parts l q a hv
  obtain ⟨hn, hbl⟩ := rdv_parts _ n b hv2
  rw [List.length_drop] at hbl
  by_cases h0 : a = 0 ∨ b = 0 ∨ l.length < a + b + n
  · rw [rdF_short l q a n b hv hv2 h0]
    exact iReadFrame_short l q a n b w hs hv hal hv2 hn (by omega) h0
  · have h := iReadFrame_long l _ _ q a n b w ht hs hv (by omega) hv2 (by omega) (by omega) rfl rfl
    by_cases h1 : showF (q : Int) ((l.drop (a + b)).take n) = [] ∨ ¬ showF (q : Int) ((l.drop (a + b)).take n) <+: l
    · rw [if_pos h1] at h
      rw [rdF_other l q a n b hv hv2 h1]
      exact h
    · rw [if_neg h1] at h
      rw [rdF_same l q a n b (fun e => h1 (.inl e)) (Classical.byContradiction fun e => h1 (.inr e))]
      exact h

end Go.Proofs.YthagjamgmlbhkaaDoor
