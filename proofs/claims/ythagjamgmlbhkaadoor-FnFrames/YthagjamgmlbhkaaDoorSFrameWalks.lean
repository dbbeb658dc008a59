/- What spec.ShowFrame and spec.ReadFrame answer, at every text of at most 2^20 bytes. -/
import Derived.Test.YthagjamgmlbhkaaDoorFrameMath
import Derived.Test.YthagjamgmlbhkaaDoorVzWalks
import Derived.Test.YthagjamgmlbhkaaDoorFixWalks
import Derived.Test.YthagjamgmlbhkaaDoorSCrcWalks
import Derived.Deep.RegionHeld
import Derived.OwnWalk
namespace Go.Proofs.YthagjamgmlbhkaaDoor
open Go.RowKit
set_option linter.unusedVariables false

theorem sFixed4_calls (n : Nat) (w : World) (hn : n < 4294967296) :
    Calls Tryd.prog 44 #[.int .i64 (n : Int), .int .i64 4] w fun e w' => e = .returned (.string (txt (low n 4))) ∧ Below w.heap.size w w' := by
  have h := sFixed_yes n 4 w (by omega) (by omega) (by omega)
  have hz : sh n 4 = 0 := by unfold sh; exact Nat.div_eq_of_lt (by omega)
  rw [if_pos hz] at h
  exact h

theorem sCrcN_calls (l : List UInt8) (w : World) (hs : l.length ≤ 2097152) :
    Calls Tryd.prog 45 #[.string (txt l)] w fun e w' => e = .returned (.int .i64 (crcN l : Int)) ∧ w' = w := by
  have h := sCrc_calls (txt l) w hs
  rw [show (txt l).data.toList = l from rfl] at h
  unfold crcV at h
  rw [crcN_int] at h
  exact h

theorem sShowFrame_calls (q : Int) (p : List UInt8) (w : World) (hp : p.length ≤ 1048576) :
    Calls Tryd.prog 16 #[.int .i64 q, .string (txt p)] w fun e w' => e = .returned (.string (txt (showF q p))) ∧ Below w.heap.size w w' := by
  have hps : (txt p).size = p.length := rfl
  by_cases hq : q < 0 ∨ 400 < q
  · have HE : Hid (showF q p = []) := showF_out q p (by omega)
    have CI : Hid (∀ X, _) := fun X => l1In_no q 0 400 X hq
    clear hq
    go_enter Tryd.func16, Tryd.ntmps16
    go_wp2_with (go_at_call 42; refine (CI.out _).mono ?_; rintro e w' ⟨rfl, rfl⟩)
    go_ret
    exact ⟨ret_str (by rw [HE.out]; rfl), Below.refl _ _⟩
  · have h0 : 0 ≤ q := by omega
    have h4 : q ≤ 400 := by omega
    have CI : Hid (∀ X, _) := fun X => l1In_yes q 0 400 X h0 h4
    by_cases hl : 200 < p.length
    · have HE : Hid (showF q p = []) := showF_out q p (by omega)
      go_enter Tryd.func16, Tryd.ntmps16
      go_wp2_with (go_at_call 42; refine (CI.out _).mono ?_; rintro e w' ⟨rfl, rfl⟩)
      go_ret
      exact ⟨ret_str (by rw [HE.out]; rfl), Below.refl _ _⟩
    · obtain ⟨n, rfl⟩ := Int.eq_ofNat_of_zero_le h0
      have hl2 : p.length ≤ 200 := by omega
      have HE : Hid (showF (n : Int) p = frame n p) := showF_in n p (by omega) hl2
      have HF : Hid (frame n p = fbody n p ++ low (crcN (fbody n p)) 4) := rfl
      have z1 : (txt (varB 6 n)).size ≤ 7 := varB_length 6 n
      have z2 : (txt (varB 6 p.length)).size ≤ 7 := varB_length 6 p.length
      have z3 : (txt (varB 6 n ++ varB 6 p.length)).size ≤ 14 := by rw [txt_size, List.length_append]; rw [txt_size] at z1 z2; omega
      have z4 : (txt (fbody n p)).size ≤ 214 := by rw [txt_size] at *; unfold fbody; rw [List.length_append]; omega
      have z5 : (txt (low (crcN (fbody n p)) 4)).size = 4 := by rw [txt_size, low_length]
      have A1 := txt_append (varB 6 n) (varB 6 p.length)
      have A2 : txt (varB 6 n ++ varB 6 p.length) ++ txt p = txt (fbody n p) := txt_append _ _
      have A3 := txt_append (fbody n p) (low (crcN (fbody n p)) 4)
      have hb := crcN_lt (fbody n p)
      have CC : Hid (∀ X, _) := fun X => sCrcN_calls (fbody n p) X (by rw [txt_size] at z4; omega)
      generalize fbody n p = T at *
      generalize crcN T = c at *
      go_enter Tryd.func16, Tryd.ntmps16
      go_wp2_with fail
      refine (CI.out _).mono ?_
      rintro e w0 ⟨rfl, rfl⟩
      go_wp2_with fail
      refine (sVar_yes n _ (by omega)).mono ?_
      rintro e w1 ⟨rfl, b1⟩
      go_wp2_with fail
      refine (sVar_yes p.length _ (by omega)).mono ?_
      rintro e w2 ⟨rfl, b2⟩
      have B2 := b1.trans (b2.mono b1.size)
      go_wp2_with fail
      refine (CC.out _).mono ?_
      rintro e w3 ⟨rfl, rfl⟩
      go_wp2_with fail
      refine (sFixed4_calls c _ hb).mono ?_
      rintro e w4 ⟨rfl, b4⟩
      have B4 := B2.trans (b4.mono B2.size)
      go_wp2
      go_ret
      exact ⟨ret_str (by rw [HE.out, HF.out]), B4⟩

/-- What ReadFrame answers, of what is told. -/
def ansF : Option (Nat × List UInt8 × Nat) → Array Value
  | none => #[.int .i64 0, .string (txt []), .int .i64 0]
  | some (q, t, k) => #[.int .i64 (q : Int), .string (txt t), .int .i64 (k : Int)]

theorem sReadVar_l (l : List UInt8) (c k : Nat) (w : World) (hs : l.length ≤ 1048576) (hv : rdv l = (c, k)) :
    Calls Tryd.prog 49 #[.string (txt l)] w fun e w' => e = .returned (.tuple #[.int .i64 (c : Int), .int .i64 (k : Int)]) ∧ Below w.heap.size w w' := by
  have h := sReadVar_calls (txt l) w hs
  rw [show (txt l).data.toList = l from rfl, hv] at h
  exact h

theorem extract_txt (l : List UInt8) (x y : Nat) : (txt l).extract x y = txt ((l.drop x).take (y - x)) := ByteArray.extract_mk l x y
theorem extract_from (l : List UInt8) (x : Nat) : (txt l).extract x l.length = txt (l.drop x) := by
  rw [extract_txt, List.take_of_length_le (by rw [List.length_drop]; omega)]
theorem extract_to (l : List UInt8) (y : Nat) : (txt l).extract 0 y = txt (l.take y) := by rw [extract_txt]; simp

theorem sReadFrame_first (l : List UInt8) (q a : Nat) (w : World) (hs : l.length ≤ 1048576) (hv : rdv l = (q, a)) (h0 : a = 0) :
    Calls Tryd.prog 18 #[.string (txt l)] w fun e w' => e = .returned (.tuple (ansF none)) ∧ Below w.heap.size w w' := by
  have q0 : ((a : Int) == 0) = true := by rw [h0]; rfl
  clear h0
  go_enter Tryd.func18, Tryd.ntmps18
  go_wp2_with fail
  refine (sReadVar_l l q a _ hs hv).mono ?_
  rintro e w1 ⟨rfl, hb1⟩
  clear hv
  go_wp2
  go_ret3
  exact ⟨rfl, hb1⟩

theorem sReadFrame_second (l : List UInt8) (q a n b : Nat) (w : World) (hs : l.length ≤ 1048576) (hv : rdv l = (q, a)) (ha : 1 ≤ a) (hal : a ≤ l.length) (hv2 : rdv (l.drop a) = (n, b)) (hn : n ≤ 562949953421311) (hbl : a + b ≤ l.length) (h : b = 0 ∨ 200 < n ∨ l.length < a + b + n + 4) :
    Calls Tryd.prog 18 #[.string (txt l)] w fun e w' => e = .returned (.tuple (ansF none)) ∧ Below w.heap.size w w' := by
  have q0 : ((a : Int) == 0) = false := by rw [beq_eq_false_iff_ne]; omega
  have hls : (txt l).size = l.length := rfl
  have HX : Hid (∀ X, _) := fun X => sReadVar_l (l.drop a) n b X (by rw [List.length_drop]; omega) hv2
  have hx : (txt l).extract a l.length = txt (l.drop a) := extract_from l a
  have CV : Hid (∀ X, _) := fun X => sReadVar_l l q a X hs hv
  clear hv hv2
  generalize l.length = N at *
  have a1 : (a : Int) ≤ (N : Int) := by omega
  by_cases h0 : b = 0
  · have q1 : ((b : Int) == 0) = true := by rw [h0]; rfl
    clear h0 h
    go_enter Tryd.func18, Tryd.ntmps18
    go_wp2_with fail
    refine (CV.out _).mono ?_
    rintro e w1 ⟨rfl, hb1⟩
    go_wp2_with fail
    refine (HX.out _).mono ?_
    rintro e w2 ⟨rfl, hb2⟩
    go_wp2
    go_ret3
    exact ⟨rfl, hb1.trans (hb2.mono hb1.size)⟩
  · have q1 : ((b : Int) == 0) = false := by rw [beq_eq_false_iff_ne]; omega
    by_cases h2 : 200 < n
    · clear h h0
      go_enter Tryd.func18, Tryd.ntmps18
      go_wp2_with fail
      refine (CV.out _).mono ?_
      rintro e w1 ⟨rfl, hb1⟩
      go_wp2_with fail
      refine (HX.out _).mono ?_
      rintro e w2 ⟨rfl, hb2⟩
      go_wp2
      go_ret3
      exact ⟨rfl, hb1.trans (hb2.mono hb1.size)⟩
    · have h3 : (N : Int) - (a : Int) - (b : Int) - 4 < (n : Int) := by omega
      clear h h0
      go_enter Tryd.func18, Tryd.ntmps18
      go_wp2_with fail
      refine (CV.out _).mono ?_
      rintro e w1 ⟨rfl, hb1⟩
      go_wp2_with fail
      refine (HX.out _).mono ?_
      rintro e w2 ⟨rfl, hb2⟩
      go_wp2
      go_ret3
      exact ⟨rfl, hb1.trans (hb2.mono hb1.size)⟩

theorem ret_isi {a b c : Int} {s : ByteArray} (h : b = c) : Ending.returned (.tuple #[.int .i64 a, .string s, .int .i64 b]) = .returned (.tuple #[.int .i64 a, .string s, .int .i64 c]) := by rw [h]

set_option maxHeartbeats 1000000 in
theorem sReadFrame_yes (l T : List UInt8) (q a n b k : Nat) (w : World) (hs : l.length ≤ 1048576) (hv : rdv l = (q, a)) (ha : 1 ≤ a) (hq : q ≤ 562949953421311) (hv2 : rdv (l.drop a) = (n, b)) (hb0 : 1 ≤ b) (hn : n ≤ 200) (hl : a + b + n + 4 ≤ l.length) (hk : k = a + b + n + 4) (hT : (l.drop (a + b)).take n = T)
    (ht : ((txt (showF (q : Int) T)).toList == (txt (l.take k)).toList) = true) :
    Calls Tryd.prog 18 #[.string (txt l)] w fun e w' => e = .returned (.tuple (ansF (some (q, T, k)))) ∧ Below w.heap.size w w' := by
  have q0 : ((a : Int) == 0) = false := by rw [beq_eq_false_iff_ne]; omega
  have q1 : ((b : Int) == 0) = false := by rw [beq_eq_false_iff_ne]; omega
  have hls : (txt l).size = l.length := rfl
  have HX : Hid (∀ X, _) := fun X => sReadVar_l (l.drop a) n b X (by rw [List.length_drop]; omega) hv2
  have hx : (txt l).extract a l.length = txt (l.drop a) := extract_from l a
  have hx2 : (txt l).extract (a + b) (a + b + n) = txt T := by rw [extract_txt, show a + b + n - (a + b) = n from by omega, hT]
  have hx3 : (txt l).extract 0 (a + b + n + 4) = txt (l.take k) := by rw [extract_to, hk]
  have CV : Hid (∀ X, _) := fun X => sReadVar_l l q a X hs hv
  have CF : Hid (∀ X, _) := fun X => sShowFrame_calls (q : Int) T X (by rw [← hT, List.length_take]; omega)
  have HK : Hid ((a : Int) + (b : Int) + (n : Int) + 4 = (k : Int)) := by show _ = _; omega
  clear hv hv2 hT
  generalize l.take k = lk at *
  generalize l.length = N at *
  have a1 : (a : Int) ≤ (N : Int) := by omega
  have a2 : (a : Int) + (b : Int) ≤ (a : Int) + (b : Int) + (n : Int) := by omega
  have a3 : (a : Int) + (b : Int) + (n : Int) ≤ (N : Int) := by omega
  have a4 : (a : Int) + (b : Int) + (n : Int) + 4 ≤ (N : Int) := by omega
  have a5 : (n : Int) ≤ (N : Int) - (a : Int) - (b : Int) - 4 := by omega
  have a6 : (0 : Int) ≤ (a : Int) + (b : Int) + (n : Int) + 4 := by omega
  have a7 : (0 : Int) ≤ (a : Int) + (b : Int) := by omega
  have a8 : (0 : Int) ≤ (a : Int) + (b : Int) + (n : Int) := by omega
  clear hk
  have r1 : IntKind.i64.wrap ((a : Int) + (b : Int)) = (a : Int) + (b : Int) := by rw [IntKind.wrap_i64]; omega
  have r2 : IntKind.i64.wrap ((a : Int) + (b : Int) + (n : Int)) = (a : Int) + (b : Int) + (n : Int) := by rw [IntKind.wrap_i64]; omega
  have r3 : IntKind.i64.wrap ((a : Int) + (b : Int) + (n : Int) + 4) = (a : Int) + (b : Int) + (n : Int) + 4 := by rw [IntKind.wrap_i64]; omega
  have r4 : ((a : Int) + (b : Int) + (n : Int) + 4).toNat = a + b + n + 4 := by omega
  go_enter Tryd.func18, Tryd.ntmps18
  go_wp2_with fail
  refine (CV.out _).mono ?_
  rintro e w1 ⟨rfl, hb1⟩
  go_wp2_with fail
  refine (HX.out _).mono ?_
  rintro e w2 ⟨rfl, hb2⟩
  have B2 := hb1.trans (hb2.mono hb1.size)
  clear hb1 hb2
  go_wp2
  rw [hx2]
  go_region_held (fun _ => True) (trivial) ((go_at_call 16; refine (CF.out _).mono ?_; rintro e w3 ⟨rfl, hb3⟩))
  all_goals
    go_wp2
    go_ret3
    exact ⟨ret_isi HK.out, B2.drew.trans (hb3.mono B2.size)⟩

set_option maxHeartbeats 1000000 in
theorem sReadFrame_no (l T : List UInt8) (q a n b k : Nat) (w : World) (hs : l.length ≤ 1048576) (hv : rdv l = (q, a)) (ha : 1 ≤ a) (hq : q ≤ 562949953421311) (hv2 : rdv (l.drop a) = (n, b)) (hb0 : 1 ≤ b) (hn : n ≤ 200) (hl : a + b + n + 4 ≤ l.length) (hk : k = a + b + n + 4) (hT : (l.drop (a + b)).take n = T)
    (ht : ((txt (showF (q : Int) T)).toList == (txt (l.take k)).toList) = false) :
    Calls Tryd.prog 18 #[.string (txt l)] w fun e w' => e = .returned (.tuple (ansF none)) ∧ Below w.heap.size w w' := by
  have q0 : ((a : Int) == 0) = false := by rw [beq_eq_false_iff_ne]; omega
  have q1 : ((b : Int) == 0) = false := by rw [beq_eq_false_iff_ne]; omega
  have hls : (txt l).size = l.length := rfl
  have HX : Hid (∀ X, _) := fun X => sReadVar_l (l.drop a) n b X (by rw [List.length_drop]; omega) hv2
  have hx : (txt l).extract a l.length = txt (l.drop a) := extract_from l a
  have hx2 : (txt l).extract (a + b) (a + b + n) = txt T := by rw [extract_txt, show a + b + n - (a + b) = n from by omega, hT]
  have hx3 : (txt l).extract 0 (a + b + n + 4) = txt (l.take k) := by rw [extract_to, hk]
  have CV : Hid (∀ X, _) := fun X => sReadVar_l l q a X hs hv
  have CF : Hid (∀ X, _) := fun X => sShowFrame_calls (q : Int) T X (by rw [← hT, List.length_take]; omega)
  have HK : Hid ((a : Int) + (b : Int) + (n : Int) + 4 = (k : Int)) := by show _ = _; omega
  clear hv hv2 hT
  generalize l.take k = lk at *
  generalize l.length = N at *
  have a1 : (a : Int) ≤ (N : Int) := by omega
  have a2 : (a : Int) + (b : Int) ≤ (a : Int) + (b : Int) + (n : Int) := by omega
  have a3 : (a : Int) + (b : Int) + (n : Int) ≤ (N : Int) := by omega
  have a4 : (a : Int) + (b : Int) + (n : Int) + 4 ≤ (N : Int) := by omega
  have a5 : (n : Int) ≤ (N : Int) - (a : Int) - (b : Int) - 4 := by omega
  have a6 : (0 : Int) ≤ (a : Int) + (b : Int) + (n : Int) + 4 := by omega
  have a7 : (0 : Int) ≤ (a : Int) + (b : Int) := by omega
  have a8 : (0 : Int) ≤ (a : Int) + (b : Int) + (n : Int) := by omega
  clear hk
  have r1 : IntKind.i64.wrap ((a : Int) + (b : Int)) = (a : Int) + (b : Int) := by rw [IntKind.wrap_i64]; omega
  have r2 : IntKind.i64.wrap ((a : Int) + (b : Int) + (n : Int)) = (a : Int) + (b : Int) + (n : Int) := by rw [IntKind.wrap_i64]; omega
  have r3 : IntKind.i64.wrap ((a : Int) + (b : Int) + (n : Int) + 4) = (a : Int) + (b : Int) + (n : Int) + 4 := by rw [IntKind.wrap_i64]; omega
  have r4 : ((a : Int) + (b : Int) + (n : Int) + 4).toNat = a + b + n + 4 := by omega
  go_enter Tryd.func18, Tryd.ntmps18
  go_wp2_with fail
  refine (CV.out _).mono ?_
  rintro e w1 ⟨rfl, hb1⟩
  go_wp2_with fail
  refine (HX.out _).mono ?_
  rintro e w2 ⟨rfl, hb2⟩
  have B2 := hb1.trans (hb2.mono hb1.size)
  clear hb1 hb2
  go_wp2
  rw [hx2]
  go_region_held (fun _ => True) (trivial) ((go_at_call 16; refine (CF.out _).mono ?_; rintro e w3 ⟨rfl, hb3⟩))
  all_goals
    go_wp2
    go_ret3
    exact ⟨rfl, B2.drew.trans (hb3.mono B2.size)⟩

theorem rdv_parts (l : List UInt8) (q a : Nat) (h : rdv l = (q, a)) : q ≤ 562949953421311 ∧ a ≤ l.length := by
  rcases rdv_sound l with h1 | h1
  · by_cases hk : ∃ k, 1 ≤ k ∧ k ≤ 7 ∧ k ≤ l.length ∧ tst l k = true
    · obtain ⟨k, k1, k7, kl, kt⟩ := hk
      rw [rdv_hit l k k1 k7 kl kt] at h1
      simp only at h1
      omega
    · have hz := rdv_none l (fun k k1 k7 kl => by
        cases ht : tst l k with
        | false => rfl
        | true => exact absurd ⟨k, k1, k7, kl, ht⟩ hk)
      rw [hz] at h
      simp only [Prod.mk.injEq] at h
      omega
  · rw [h] at h1
    exact ⟨h1.2.2.1, h1.2.1⟩

theorem sReadFrame_calls (l : List UInt8) (w : World) (hs : l.length ≤ 1048576) :
    Calls Tryd.prog 18 #[.string (txt l)] w fun e w' => e = .returned (.tuple (ansF (rdF l))) ∧ Below w.heap.size w w' := by
  obtain ⟨q, a, hv⟩ : ∃ q a, rdv l = (q, a) := ⟨_, _, rfl⟩
  obtain ⟨n, b, hv2⟩ : ∃ n b, rdv (l.drop a) = (n, b) := ⟨_, _, rfl⟩
  obtain ⟨hq, hal⟩ := rdv_parts l q a hv
  obtain ⟨hn, hbl⟩ := rdv_parts _ n b hv2
  rw [List.length_drop] at hbl
  have e : rdF l = if a = 0 ∨ b = 0 ∨ 200 < n ∨ l.length < a + b + n + 4 then none else if showF (q : Int) ((l.drop (a + b)).take n) = l.take (a + b + n + 4) then some (q, (l.drop (a + b)).take n, a + b + n + 4) else none := by
    unfold rdF
    simp only [hv, hv2]
  by_cases h0 : a = 0
  · rw [e, if_pos (.inl h0)]
    exact sReadFrame_first l q a w hs hv h0
  · by_cases h1 : b = 0 ∨ 200 < n ∨ l.length < a + b + n + 4
    · rw [e, if_pos (.inr h1)]
      exact sReadFrame_second l q a n b w hs hv (by omega) hal hv2 hn (by omega) h1
    · rw [e, if_neg (by omega)]
      by_cases h2 : showF (q : Int) ((l.drop (a + b)).take n) = l.take (a + b + n + 4)
      · rw [if_pos h2]
        exact sReadFrame_yes l _ q a n b _ w hs hv (by omega) hq hv2 (by omega) (by omega) (by omega) rfl rfl (by rw [h2]; simp)
      · rw [if_neg h2]
        exact sReadFrame_no l _ q a n b _ w hs hv (by omega) hq hv2 (by omega) (by omega) (by omega) rfl rfl (by
          rw [beq_eq_false_iff_ne]
          unfold txt
          rw [ByteArray.toList_mk, ByteArray.toList_mk]
          exact h2)

theorem sReadFrame_is (l : List UInt8) (w : World) (hs : l.length ≤ 1048576) (q : Nat) (t : List UInt8) (k : Nat) (h : rdF l = some (q, t, k)) :
    Calls Tryd.prog 18 #[.string (txt l)] w fun e w' => e = .returned (.tuple #[.int .i64 (q : Int), .string (txt t), .int .i64 (k : Int)]) ∧ Below w.heap.size w w' := by
  have h2 := sReadFrame_calls l w hs
  rw [h] at h2
  exact h2
theorem sReadFrame_isnt (l : List UInt8) (w : World) (hs : l.length ≤ 1048576) (h : rdF l = none) :
    Calls Tryd.prog 18 #[.string (txt l)] w fun e w' => e = .returned (.tuple #[.int .i64 0, .string (txt []), .int .i64 0]) ∧ Below w.heap.size w w' := by
  have h2 := sReadFrame_calls l w hs
  rw [h] at h2
  exact h2

end Go.Proofs.YthagjamgmlbhkaaDoor
