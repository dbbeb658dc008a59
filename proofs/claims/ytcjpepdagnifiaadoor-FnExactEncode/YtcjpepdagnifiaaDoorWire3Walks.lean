/- What ShowText answers, the specification's and the program's, at every text of at most 2^20 bytes. -/
import Derived.Test.YtcjpepdagnifiaaDoorWireMath
import Derived.Test.YtcjpepdagnifiaaDoorVzWalks
import Derived.Test.YtcjpepdagnifiaaDoorPartWalks
import Derived.Lib.BufferWrite
namespace Go.Proofs.YtcjpepdagnifiaaDoor
open Go.RowKit
set_option linter.unusedVariables false

theorem sShowText_calls (t : List UInt8) (w : World) (ht : t.length ≤ 1048576) :
    Calls Tryd.prog 75 #[.string (txt t)] w fun e w' => e = .returned (.string (txt (showT t))) ∧ Below w.heap.size w w' := by
  have hts : (txt t).size = t.length := rfl
  by_cases h : 8 < t.length
  · rw [showT_out t h]
    go_enter Tryd.func75, Tryd.ntmps75
    go_wp2
    go_ret
    exact ⟨rfl, Below.refl _ _⟩
  · have h8 : t.length ≤ 8 := by omega
    have HS : Hid (showT t = varB 6 t.length ++ t) := showT_in t h8
    have hl := varB_length 6 t.length
    have hls : (txt (varB 6 t.length)).size ≤ 7 := hl
    have HA : Hid (_ = _) := txt_append (varB 6 t.length) t
    go_enter Tryd.func75, Tryd.ntmps75
    go_wp2_with fail
    refine (sVar_yes t.length _ (by omega)).mono ?_
    rintro e w1 ⟨rfl, hb1⟩
    go_wp2
    go_ret
    exact ⟨ret_str (by rw [HS.out, ← HA.out]), hb1⟩

/-- 'copy(.., s)' of a text behind the bytes that a row of the call's own has. -/
theorem copy_str (L g dLen dCap : Nat) (P S : List UInt8) (w : World) (hg : w.heap[g]? = some (.cells (rowB L P).toArray 5 (0, 0))) (hfit : P.length + S.length ≤ L) (hd : S.length ≤ dLen)
    (B : Nat) (w0 : World) (hb : Below B w0 w) (hBg : B ≤ g) :
    ∃ w1, (Builtin.copy_ #[96, 9] 3 #[.slice (some ⟨g, P.length, none⟩) dLen dCap, .string (txt S)]).run Tryd.prog w = .ok (.int .i64 (S.length : Int)) w1 ∧
      Hid (w1.heap[g]? = some (.cells (rowB L (P ++ S)).toArray 5 (0, 0))) ∧ Below B w0 w1 := by
  have hr := Lib.run_copy_row_string (P := Tryd.prog) w 96 9 3 5 g P.length dLen dCap (txt S) (rowB L P).toArray 5 Tryd.underlying96 info_u8 hg hd
    (by rw [List.size_toArray, rowB_length L P (by omega), txt_size]; exact hfit)
  have e := rowB_splice L P S hfit
  have e2 : (List.take P.length (rowB L P).toArray.toList ++ Lib.byteCells (txt S).data.toList ++ List.drop (P.length + (txt S).size) (rowB L P).toArray.toList) = rowB L (P ++ S) := by
    rw [← e, List.append_assoc]
    unfold splice
    rw [List.length_map]
    rfl
  rw [e2] at hr
  exact ⟨_, hr, setRow_heap w g _ _ _ _ hg, below_setRow hb hBg _⟩

theorem iShowText_no (t : List UInt8) (w : World) (ht : t.length ≤ 1048576) (h : 8 < t.length) :
    Calls Tryd.prog 109 #[.string (txt t)] w fun e w' => e = .returned (.string (txt (showT t))) ∧ Below w.heap.size w w' := by
  have hts : (txt t).size = t.length := rfl
  rw [showT_out t h]
  go_enter Tryd.func109, Tryd.ntmps109
  go_wp2
  go_ret
  exact ⟨rfl, Below.refl _ _⟩

theorem iShowText_yes (t : List UInt8) (w : World) (h : t.length ≤ 8) (h1 : 1 ≤ t.length) :
    Calls Tryd.prog 109 #[.string (txt t)] w fun e w' => e = .returned (.string (txt (showT t))) ∧ Below w.heap.size w w' := by
  obtain ⟨n, hn⟩ : ∃ n, t.length = n := ⟨_, rfl⟩
  obtain ⟨b, hbn⟩ : ∃ b, UInt8.ofNat t.length = b := ⟨_, rfl⟩
  have HS : Hid (showT t = [b] ++ t) := by show _ = _; rw [showT_one t h, hbn]; rfl
  have hts : (txt t).size = n := hn
  have hvs : (txt [b]).size = 1 := rfl
  have HV : Hid (varB 6 n = [b]) := by show _ = _; rw [← hn, varB_small 6 t.length (by omega), hbn]
  have h8 : n ≤ 8 := by omega
  have h9 : 1 ≤ n := by omega
  have hmk : ∀ u : World, (Instr.makeSlice 96 (.int .i64 (1 + (n : Int))) (.int .i64 (1 + (n : Int)))).run Tryd.prog u = .ok (.slice (some ⟨u.heap.size, 0, none⟩) (1 + n) (1 + n)) (u.alloc (.cells (rowB (1 + n) []).toArray 5)) := by
    intro u
    have hm := make_row (1 + n) (by omega) u
    rw [show (((1 + n : Nat)) : Int) = 1 + (n : Int) from by omega] at hm
    exact hm
  have CV : Hid (∀ X, _) := fun X => iVar_yes n X (by omega)
  rw [HV.out] at CV
  clear h h1 hbn HV
  have Hn : Hid (t.length = n) := hn
  clear hn
  go_enter Tryd.func109, Tryd.ntmps109
  go_wp2_with fail
  refine (CV.out _).mono ?_
  rintro e w1 ⟨rfl, hb1⟩
  go_wp2_with fail
  refine (parted_in w1.heap.size (1 + n) 1 (1 + n) _ (by omega) (by omega) (by omega) (by omega)).mono ?_
  rintro e w2 ⟨rfl, hw2⟩
  have hb2 : Below w.heap.size w w2 := by rw [hw2]; exact (hb1.alloc hb1.size _).drew
  have hrow : w2.heap[w1.heap.size]? = some (.cells (rowB (1 + n) []).toArray 5 (0, 0)) := by
    rw [hw2]
    show (w1.heap.push _)[w1.heap.size]? = _
    simp
  clear hw2
  obtain ⟨w3, hcp3, hrow3, hb3⟩ := copy_str (1 + n) w1.heap.size 1 1 [] [b] w2 hrow (by simp) (by simp) w.heap.size w hb2 hb1.size
  have hcp3 : (Builtin.copy_ #[96, 9] 3 #[.slice (some ⟨w1.heap.size, 0, none⟩) 1 1, .string (txt [b])]).run Tryd.prog w2 = .ok (.int .i64 1) w3 := hcp3
  clear hrow hb2
  obtain ⟨w4, hcp4, hrow4, hb4⟩ := copy_str (1 + n) w1.heap.size (1 + n - 1) (1 + n - 1) [b] t w3 hrow3.out (by have := Hn.out; simp; omega) (by have := Hn.out; omega) w.heap.size w hb3 hb1.size
  have hcp4 : (Builtin.copy_ #[96, 9] 3 #[.slice (some ⟨w1.heap.size, 1, none⟩) (1 + n - 1) (1 + n - 1), .string (txt t)]).run Tryd.prog w3 = .ok (.int .i64 (t.length : Int)) w4 := hcp4
  have hcv : (convert 96 9 (.slice (some ⟨w1.heap.size, 0, none⟩) (1 + n) (1 + n))).run Tryd.prog w4 = .ok (.string (txt ([b] ++ t))) w4 := by
    have h2 := conv_row (1 + n) w1.heap.size (1 + n) ([b] ++ t) w4 hrow4.out
    rw [List.length_append, List.length_singleton, Hn.out] at h2
    exact h2
  rw [show 1 + n - 1 = n from by omega] at hcp4 ⊢
  go_wp2
  go_ret
  exact ⟨ret_str (by rw [HS.out]; rfl), hb4⟩

theorem iShowText_nought (w : World) :
    Calls Tryd.prog 109 #[.string (txt [])] w fun e w' => e = .returned (.string (txt (showT []))) ∧ Below w.heap.size w w' := by
  have hts : (txt []).size = 0 := rfl
  have hvs : (txt [0]).size = 1 := rfl
  have hmk : ∀ u : World, (Instr.makeSlice 96 (.int .i64 1) (.int .i64 1)).run Tryd.prog u = .ok (.slice (some ⟨u.heap.size, 0, none⟩) 1 1) (u.alloc (.cells (rowB 1 []).toArray 5)) := fun u => make_row 1 (by omega) u
  have CV : Hid (∀ X, _) := fun X => iVar_yes 0 X (by omega)
  have HV : Hid (varB 6 0 = [0]) := rfl
  rw [HV.out] at CV
  clear HV
  go_enter Tryd.func109, Tryd.ntmps109
  go_wp2_with fail
  refine (CV.out _).mono ?_
  rintro e w1 ⟨rfl, hb1⟩
  go_wp2_with fail
  refine (parted_end w1.heap.size 1 _ (by omega)).mono ?_
  rintro e w2 ⟨rfl, hw2⟩
  have hb2 : Below w.heap.size w w2 := by rw [hw2]; exact (hb1.alloc hb1.size _).drew
  have hrow : w2.heap[w1.heap.size]? = some (.cells (rowB (1) []).toArray 5 (0, 0)) := by
    rw [hw2]
    show (w1.heap.push _)[w1.heap.size]? = _
    simp
  clear hw2
  obtain ⟨w3, hcp3, hrow3, hb3⟩ := copy_str (1) w1.heap.size 1 1 [] [0] w2 hrow (by simp) (by simp) w.heap.size w hb2 hb1.size
  have hcp3 : (Builtin.copy_ #[96, 9] 3 #[.slice (some ⟨w1.heap.size, 0, none⟩) 1 1, .string (txt [0])]).run Tryd.prog w2 = .ok (.int .i64 1) w3 := hcp3
  clear hrow hb2
  have hcp4 : (Builtin.copy_ #[96, 9] 3 #[.slice (some ⟨w1.heap.size, 0, none⟩) 0 0, .string (txt [])]).run Tryd.prog w3 = .ok (.int .i64 0) w3 :=
    Lib.run_copy_empty_string (P := Tryd.prog) w3 96 9 3 5 _ 0 0 (txt []) Tryd.underlying96 (by rw [info_u8]; rfl) rfl
  have hcv : (convert 96 9 (.slice (some ⟨w1.heap.size, 0, none⟩) 1 1)).run Tryd.prog w3 = .ok (.string (txt [0])) w3 := conv_row 1 w1.heap.size 1 [0] w3 hrow3.out
  go_wp2
  go_ret
  exact ⟨ret_str rfl, hb3⟩

theorem iShowText_calls (t : List UInt8) (w : World) (ht : t.length ≤ 1048576) :
    Calls Tryd.prog 109 #[.string (txt t)] w fun e w' => e = .returned (.string (txt (showT t))) ∧ Below w.heap.size w w' := by
  by_cases h : 8 < t.length
  · exact iShowText_no t w ht h
  · cases t with
    | nil => exact iShowText_nought w
    | cons b r => exact iShowText_yes (b :: r) w (by omega) (by simp)

end Go.Proofs.YtcjpepdagnifiaaDoor
