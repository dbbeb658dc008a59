/- What impl.ShowFrame answers, at every text of at most 2^20 bytes, where the table of sixteen lies as the program's text lays it. -/
import Derived.Test.YthagjamgmlbhkaaDoorSFrameWalks
import Derived.Test.YthagjamgmlbhkaaDoorIFixWalks
import Derived.Test.YthagjamgmlbhkaaDoorICrcWalks
namespace Go.Proofs.YthagjamgmlbhkaaDoor
open Go.RowKit
set_option linter.unusedVariables false

theorem iFixed4_calls (n : Nat) (w : World) (hn : n < 4294967296) :
    Calls Tryd.prog 47 #[.int .i64 (n : Int), .int .i64 4] w fun e w' => e = .returned (.string (txt (low n 4))) ∧ Below w.heap.size w w' := by
  have hz : sh n 4 = 0 := by unfold sh; exact Nat.div_eq_of_lt (by omega)
  exact iFixed_yes n 4 w (by omega) (by omega) (by omega) hz

theorem iCrcN_calls (l : List UInt8) (w : World) (hs : l.length ≤ 2097152) (ht : TabAt w) :
    Calls Tryd.prog 48 #[.string (txt l)] w fun e w' => e = .returned (.int .i64 (crcN l : Int)) ∧ Below w.heap.size w w' := by
  have h := iCrc_calls (txt l) w hs ht
  rw [show (txt l).data.toList = l from rfl] at h
  unfold crcV at h
  rw [crcN_int] at h
  exact h

theorem iShowFrame_calls (q : Int) (p : List UInt8) (w : World) (hp : p.length ≤ 1048576) (ht : TabAt w) :
    Calls Tryd.prog 17 #[.int .i64 q, .string (txt p)] w fun e w' => e = .returned (.string (txt (showF q p))) ∧ Below w.heap.size w w' := by
  have HT : Hid (TabAt w) := ht
  clear ht
  have hps : (txt p).size = p.length := rfl
  by_cases h0 : q < 0
  · have HE : Hid (showF q p = []) := showF_out q p (by omega)
    go_enter Tryd.func17, Tryd.ntmps17
    go_wp2
    go_ret
    exact ⟨ret_str (by rw [HE.out]; rfl), Below.refl _ _⟩
  by_cases h4 : 400 < q
  · have HE : Hid (showF q p = []) := showF_out q p (by omega)
    go_enter Tryd.func17, Tryd.ntmps17
    go_wp2
    go_ret
    exact ⟨ret_str (by rw [HE.out]; rfl), Below.refl _ _⟩
  by_cases hl : 200 < p.length
  · have HE : Hid (showF q p = []) := showF_out q p (by omega)
    go_enter Tryd.func17, Tryd.ntmps17
    go_wp2
    go_ret
    exact ⟨ret_str (by rw [HE.out]; rfl), Below.refl _ _⟩
  · obtain ⟨n, rfl⟩ := Int.eq_ofNat_of_zero_le (show 0 ≤ q by omega)
    have hl2 : p.length ≤ 200 := by omega
    have h40 : (n : Int) ≤ 400 := by omega
    have HE : Hid (showF (n : Int) p = frame n p) := showF_in n p (by omega) hl2
    have HF : Hid (frame n p = fbody n p ++ low (crcN (fbody n p)) 4) := rfl
    have z1 : (txt (varB 6 n)).size ≤ 7 := varB_length 6 n
    have z2 : (txt (varB 6 p.length)).size ≤ 7 := varB_length 6 p.length
    have z3 : (txt (varB 6 n ++ varB 6 p.length)).size ≤ 14 := by rw [txt_size, List.length_append]; rw [txt_size] at z1 z2; omega
    have z4 : (txt (fbody n p)).size ≤ 214 := by rw [txt_size] at *; unfold fbody; rw [List.length_append]; omega
    have z5 : (txt (low (crcN (fbody n p)) 4)).size = 4 := by rw [txt_size, low_length]
    have A1 := txt_append (varB 6 n) (varB 6 p.length)
    have A2 : txt (varB 6 n ++ varB 6 p.length) ++ txt p = txt (fbody n p) := txt_append _ _
    have A3 := txt_append (fbody n p) (low (crcN (fbody n p)) 4)
    have hb := crcN_lt (fbody n p)
    have CC : Hid (∀ X, TabAt X → _) := fun X hX => iCrcN_calls (fbody n p) X (by rw [txt_size] at z4; omega) hX
    generalize fbody n p = T at *
    generalize crcN T = c at *
    go_enter Tryd.func17, Tryd.ntmps17
    go_wp2_with fail
    refine (iVar_yes n _ (by omega)).mono ?_
    rintro e w1 ⟨rfl, b1⟩
    go_wp2_with fail
    refine (iVar_yes p.length _ (by omega)).mono ?_
    rintro e w2 ⟨rfl, b2⟩
    have B2 := b1.trans (b2.mono b1.size)
    have HT2 : Hid (TabAt w2) := tab_below HT.out B2 (tab_pos HT.out)
    go_wp2_with fail
    refine (CC.out _ HT2.out).mono ?_
    rintro e w3 ⟨rfl, b3⟩
    have B3 := B2.trans (b3.mono B2.size)
    go_wp2_with fail
    refine (iFixed4_calls c _ hb).mono ?_
    rintro e w4 ⟨rfl, b4⟩
    have B4 := B3.trans (b4.mono B3.size)
    go_wp2
    go_ret
    exact ⟨ret_str (by rw [HE.out, HF.out]), B4⟩

end Go.Proofs.YthagjamgmlbhkaaDoor
