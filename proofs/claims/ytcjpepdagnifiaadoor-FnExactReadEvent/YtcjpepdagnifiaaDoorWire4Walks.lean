/- What ReadText answers, the specification's and the program's, at every text of at most 2^20 bytes. -/
import Derived.Test.YtcjpepdagnifiaaDoorWireMath
import Derived.Test.YtcjpepdagnifiaaDoorVzWalks
import Derived.Test.YtcjpepdagnifiaaDoorPartWalks
import Derived.Deep.RegionHeld
namespace Go.Proofs.YtcjpepdagnifiaaDoor
open Go.RowKit
set_option linter.unusedVariables false
set_option maxRecDepth 100000

theorem ret_si {a b : ByteArray} {c d : Int} (h1 : a = b) (h2 : c = d) : Ending.returned (.tuple #[.string a, .int .i64 c]) = .returned (.tuple #[.string b, .int .i64 d]) := by rw [h1, h2]

theorem sReadVar_txt (l : List UInt8) (c k : Nat) (w : World) (hs : l.length ≤ 1048576) (hv : rdv l = (c, k)) :
    Calls Tryd.prog 27 #[.string (txt l)] w fun e w' => e = .returned (.tuple #[.int .i64 (c : Int), .int .i64 (k : Int)]) ∧ Below w.heap.size w w' := by
  have h := sReadVar_calls (txt l) w hs
  rw [show (txt l).data.toList = l from rfl, hv] at h
  exact h

theorem iReadVar_at (l : List UInt8) (c k : Nat) (w : World) (hs : l.length ≤ 1048576) (hv : rdv l = (c, k)) :
    Calls Tryd.prog 97 #[.string (txt l)] w fun e w' => e = .returned (.tuple #[.int .i64 (c : Int), .int .i64 (k : Int)]) ∧ w' = w := by
  have h := iReadVar_calls (txt l) w hs
  rw [show (txt l).data.toList = l from rfl, hv] at h
  exact h

theorem sReadText_no (l : List UInt8) (c k : Nat) (w : World) (hs : l.length ≤ 1048576) (hv : rdv l = (c, k)) (hc : c ≤ 562949953421311) (hk : k ≤ l.length) (h : k = 0 ∨ 8 < c ∨ l.length - k < c) :
    Calls Tryd.prog 48 #[.string (txt l)] w fun e w' => e = .returned (.tuple #[.string (txt []), .int .i64 0]) ∧ Below w.heap.size w w' := by
  obtain ⟨N, hN⟩ : ∃ N, l.length = N := ⟨_, rfl⟩
  have hls : (txt l).size = N := hN
  rw [hN] at hk h hs
  by_cases h0 : k = 0
  · have q0 : ((k : Int) == 0) = true := by rw [h0]; rfl
    go_enter Tryd.func48, Tryd.ntmps48
    go_wp2_with fail
    refine (sReadVar_txt l c k _ (by omega) hv).mono ?_
    rintro e w1 ⟨rfl, hb1⟩
    clear hv
    go_wp2
    go_ret2
    exact ⟨rfl, hb1⟩
  · have q0 : ((k : Int) == 0) = false := by rw [beq_eq_false_iff_ne]; omega
    by_cases h8 : 8 < c
    · go_enter Tryd.func48, Tryd.ntmps48
      go_wp2_with fail
      refine (sReadVar_txt l c k _ (by omega) hv).mono ?_
      rintro e w1 ⟨rfl, hb1⟩
      clear hv
      go_wp2
      go_ret2
      exact ⟨rfl, hb1⟩
    · have h9 : (N : Int) - (k : Int) < (c : Int) := by omega
      go_enter Tryd.func48, Tryd.ntmps48
      go_wp2_with fail
      refine (sReadVar_txt l c k _ (by omega) hv).mono ?_
      rintro e w1 ⟨rfl, hb1⟩
      clear hv
      go_wp2
      go_ret2
      exact ⟨rfl, hb1⟩

theorem sReadText_yes (l : List UInt8) (c k : Nat) (w : World) (hs : l.length ≤ 1048576) (hv : rdv l = (c, k)) (h0 : 1 ≤ k) (h8 : c ≤ 8) (h9 : k + c ≤ l.length) :
    Calls Tryd.prog 48 #[.string (txt l)] w fun e w' => e = .returned (.tuple #[.string (txt ((l.drop k).take c)), .int .i64 ((k + c : Nat) : Int)]) ∧ Below w.heap.size w w' := by
  obtain ⟨N, hN⟩ : ∃ N, l.length = N := ⟨_, rfl⟩
  have hls : (txt l).size = N := hN
  rw [hN] at h9 hs
  have q0 : ((k : Int) == 0) = false := by rw [beq_eq_false_iff_ne]; omega
  have q9 : (c : Int) ≤ (N : Int) - (k : Int) := by omega
  have q1 : (k : Int) ≤ (k : Int) + (c : Int) := by omega
  have q2 : (k : Int) + (c : Int) ≤ (N : Int) := by omega
  have HX : Hid ((txt l).extract k (k + c) = txt ((l.drop k).take c)) := by
    show _ = _
    have h := ByteArray.extract_mk l k (k + c)
    rw [show k + c - k = c from by omega] at h
    exact h
  go_enter Tryd.func48, Tryd.ntmps48
  go_wp2_with fail
  refine (sReadVar_txt l c k _ (by omega) hv).mono ?_
  rintro e w1 ⟨rfl, hb1⟩
  clear hv
  go_wp2
  go_ret2
  exact ⟨ret_si (by rw [HX.out]) (by omega), hb1⟩

theorem iReadText_no (l : List UInt8) (c k : Nat) (w : World) (hs : l.length ≤ 1048576) (hv : rdv l = (c, k)) (hc : c ≤ 562949953421311) (hk : k ≤ l.length) (h : k = 0 ∨ 8 < c ∨ l.length - k < c) :
    Calls Tryd.prog 96 #[.string (txt l)] w fun e w' => e = .returned (.tuple #[.string (txt []), .int .i64 0]) ∧ Below w.heap.size w w' := by
  obtain ⟨N, hN⟩ : ∃ N, l.length = N := ⟨_, rfl⟩
  have hls : (txt l).size = N := hN
  rw [hN] at hk h hs
  by_cases h0 : k = 0
  · have q0 : ((k : Int) == 0) = true := by rw [h0]; rfl
    go_enter Tryd.func96, Tryd.ntmps96
    go_wp2_with fail
    refine (iReadVar_at l c k _ (by omega) hv).mono ?_
    rintro e w1 ⟨rfl, rfl⟩
    clear hv
    go_wp2
    go_ret2
    exact ⟨rfl, Below.refl _ _⟩
  · have q0 : ((k : Int) == 0) = false := by rw [beq_eq_false_iff_ne]; omega
    by_cases h8 : 8 < c
    · go_enter Tryd.func96, Tryd.ntmps96
      go_wp2_with fail
      refine (iReadVar_at l c k _ (by omega) hv).mono ?_
      rintro e w1 ⟨rfl, rfl⟩
      clear hv
      go_wp2
      go_ret2
      exact ⟨rfl, Below.refl _ _⟩
    · have h9 : (N : Int) - (k : Int) < (c : Int) := by omega
      go_enter Tryd.func96, Tryd.ntmps96
      go_wp2_with fail
      refine (iReadVar_at l c k _ (by omega) hv).mono ?_
      rintro e w1 ⟨rfl, rfl⟩
      clear hv
      go_wp2
      go_ret2
      exact ⟨rfl, Below.refl _ _⟩

/-- '[]byte(s)': a new row that holds the text. -/
theorem bytes_new (S : List UInt8) (w : World) (hS : S.length ≤ 1048576) : ∃ w2 cp, (convert 9 96 (.string (txt S))).run Tryd.prog w = .ok (.slice (some ⟨w.heap.size, 0, none⟩) S.length cp) w2 ∧ S.length ≤ cp ∧ cp ≤ 9223372036854775807 ∧
    Hid (∀ j (h : j < S.length), w2.cell? ⟨w.heap.size, j, none⟩ = some (.int .u8 (S[j].toNat : Int))) ∧ Below w.heap.size w w2 := by
  refine ⟨_, _, run_bytes_of_string (P := Tryd.prog) w 9 96 5 (txt S) Tryd.underlying9 Tryd.underlying96 Tryd.underlying5, grownCap_ge w S.length 0 5, ?_, ?_, ?_⟩
  · have h := grownCap_le_maxLen w S.length 0 5 (by unfold maxLen; omega)
    unfold maxLen at h
    show grownCap w S.length 0 5 ≤ _
    omega
  · intro j hj
    have hj2 : j < (txt S).data.size := hj
    rw [show w.heap.size = w.drew.heap.size from rfl, World.cell?_alloc_mark, bytesRow_at _ _ _ hj2]
    rfl
  · exact (Below.refl _ _).drew.alloc (Nat.le_refl _) _

theorem conv_part (S : List UInt8) (g k cp : Nat) (w : World) (h : ∀ j (h : j < S.length), w.cell? ⟨g, j, none⟩ = some (.int .u8 (S[j].toNat : Int))) (hk : k ≤ S.length) :
    (convert 96 9 (.slice (some ⟨g, k, none⟩) (S.length - k) cp)).run Tryd.prog w = .ok (.string (txt (S.drop k))) w := by
  have hr := run_convert_bytes_back (P := Tryd.prog) w 96 9 5 ⟨g, k, none⟩ cp (S.drop k) Tryd.underlying96 Tryd.underlying5 Tryd.underlying9 (by
    intro j hj
    rw [List.length_drop] at hj
    have ea : (Addr.add ⟨g, k, none⟩ j) = ⟨g, k + j, none⟩ := by unfold Addr.add; split <;> simp_all
    rw [ea, h (k + j) (by omega), List.getElem_drop])
  rw [List.length_drop] at hr
  exact hr

theorem iReadText_yes (l : List UInt8) (c k : Nat) (w : World) (hs : l.length ≤ 1048576) (hv : rdv l = (c, k)) (h0 : 1 ≤ k) (h8 : c ≤ 8) (h9 : k + c ≤ l.length) :
    Calls Tryd.prog 96 #[.string (txt l)] w fun e w' => e = .returned (.tuple #[.string (txt ((l.drop k).take c)), .int .i64 ((k + c : Nat) : Int)]) ∧ Below w.heap.size w w' := by
  obtain ⟨N, hN⟩ : ∃ N, l.length = N := ⟨_, rfl⟩
  obtain ⟨S, hS⟩ : ∃ S, l.take (k + c) = S := ⟨_, rfl⟩
  have hSl : S.length = k + c := by rw [← hS, List.length_take]; omega
  have hls : (txt l).size = N := hN
  rw [hN] at h9 hs
  have q0 : ((k : Int) == 0) = false := by rw [beq_eq_false_iff_ne]; omega
  have q9 : (c : Int) ≤ (N : Int) - (k : Int) := by omega
  have q1 : (0 : Int) ≤ (k : Int) + (c : Int) := by omega
  have q2 : (k : Int) + (c : Int) ≤ (N : Int) := by omega
  have HX : Hid ((txt l).extract 0 (k + c) = txt S) := by
    show _ = _
    have h := ByteArray.extract_mk l 0 (k + c)
    rw [List.drop_zero, Nat.sub_zero, hS] at h
    exact h
  have HD : Hid (S.drop k = (l.drop k).take c) := by
    show _ = _
    rw [← hS, List.drop_take, show k + c - k = c from by omega]
  obtain ⟨w2, cp, hcv, hcp1, hcp2, hcell, hb2⟩ := bytes_new S w (by omega)
  rw [hSl] at hcv hcp1
  have hX := HX.out
  go_enter Tryd.func96, Tryd.ntmps96
  go_wp2_with fail
  refine (iReadVar_at l c k _ (by omega) hv).mono ?_
  rintro e w ⟨rfl, rfl⟩
  clear hv hS
  go_wp2_with fail
  by_cases hkc : k < cp
  · have hcv2 : ∀ X, X = w2.drew → ∀ Y, (∀ a, Y.cell? a = X.cell? a) → (convert 96 9 (.slice (some ⟨w.heap.size, k, none⟩) c (cp - k))).run Tryd.prog Y = .ok (.string (txt ((l.drop k).take c))) Y := by
      intro X hX Y hY
      subst hX
      have h := conv_part S w.heap.size k (cp - k) Y (fun j hj => (hY _).trans (hcell.out j hj)) (by omega)
      rw [hSl, HD.out, show k + c - k = c from by omega] at h
      exact h
    refine (parted_in w.heap.size (k + c) k cp w2 (by omega) hcp1 hkc hcp2).mono ?_
    rintro e w3 ⟨rfl, hw3⟩
    rw [show k + c - k = c from by omega]
    have hcv3 := hcv2 w3 hw3 w3 (fun _ => rfl)
    have hb3 : Below w.heap.size w w3 := by rw [hw3]; exact hb2.drew
    clear hw3 hcv2 hcv
    go_wp2
    go_ret2
    exact ⟨ret_si rfl (by omega), hb3⟩
  · have e1 : k + c = k := by omega
    have e2 : cp = k := by omega
    have e3 : c = 0 := by omega
    have hcv2 : ∀ X, (convert 96 9 (.slice (some ⟨w.heap.size, 0, none⟩) 0 0)).run Tryd.prog X = .ok (.string (txt [])) X := fun X =>
      run_convert_bytes_back (P := Tryd.prog) X 96 9 5 ⟨w.heap.size, 0, none⟩ 0 [] Tryd.underlying96 Tryd.underlying5 Tryd.underlying9 (by intro j hj; simp at hj)
    have Q : Hid (txt [] = txt ((l.drop k).take c)) := by show _ = _; rw [e3]; simp
    have Q2 : Hid ((k : Int) = ((k + c : Nat) : Int)) := by show _ = _; omega
    rw [e1, e2]
    have hk9 : k ≤ 9223372036854775807 := by omega
    clear e1 e2 e3 hcv hcp1 hcp2 hkc q1 q2 q9 h9 h8
    refine (parted_end w.heap.size k w2 hk9).mono ?_
    rintro e w3 ⟨rfl, hw3⟩
    have hb3 : Below w.heap.size w w3 := by rw [hw3]; exact hb2.drew
    clear hw3
    go_wp2
    go_ret2
    exact ⟨ret_si Q.out Q2.out, hb3⟩

theorem iReadText_calls (l : List UInt8) (w : World) (hs : l.length ≤ 1048576) :
    Calls Tryd.prog 96 #[.string (txt l)] w fun e w' => e = .returned (.tuple #[.string (txt (rdt l).1), .int .i64 ((rdt l).2 : Int)]) ∧ Below w.heap.size w w' := by
  obtain ⟨hc, hk⟩ := rdv_le l
  by_cases h : (rdv l).2 = 0 ∨ 8 < (rdv l).1 ∨ l.length - (rdv l).2 < (rdv l).1
  · rw [rdt_no l h]
    exact iReadText_no l _ _ w hs rfl hc hk h
  · rw [rdt_yes l h]
    exact iReadText_yes l _ _ w hs rfl (by omega) (by omega) (by omega)

theorem sReadText_calls (l : List UInt8) (w : World) (hs : l.length ≤ 1048576) :
    Calls Tryd.prog 48 #[.string (txt l)] w fun e w' => e = .returned (.tuple #[.string (txt (rdt l).1), .int .i64 ((rdt l).2 : Int)]) ∧ Below w.heap.size w w' := by
  obtain ⟨hc, hk⟩ := rdv_le l
  by_cases h : (rdv l).2 = 0 ∨ 8 < (rdv l).1 ∨ l.length - (rdv l).2 < (rdv l).1
  · rw [rdt_no l h]
    exact sReadText_no l _ _ w hs rfl hc hk h
  · rw [rdt_yes l h]
    exact sReadText_yes l _ _ w hs rfl (by omega) (by omega) (by omega)

end Go.Proofs.YtcjpepdagnifiaaDoor
