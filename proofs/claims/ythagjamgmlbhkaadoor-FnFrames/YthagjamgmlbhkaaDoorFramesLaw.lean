/- FnFrames' walk. -/
import Derived.Test.YthagjamgmlbhkaaDoorLogDraw
import Derived.Test.YthagjamgmlbhkaaDoorILogWalks
import Derived.Test.YthagjamgmlbhkaaDoorIPayWalks
import Derived.Deep.QuietTactic
import Derived.BigQuiet
namespace Go.Proofs.YthagjamgmlbhkaaDoor
open Go.RowKit
set_option linter.unusedVariables false

theorem showL_length (ps : List (List UInt8)) : (showL ps).length ≤ 87423 := by
  by_cases h : okL ps
  · rw [← logTo_all ps h, List.length_append]
    have h1 := logTo_length ps ps.length (Nat.le_refl _) h.1 (fun i hi _ => h.2 _ (List.getElem_mem hi))
    have h2 := frame_le ps.length []
    simp at h2
    omega
  · rw [showL_out ps h]; simp
theorem okTo_iff (ps : List (List UInt8)) (h4 : ps.length ≤ 400) : okTo ps ps.length ↔ okL ps :=
  ⟨okL_all ps h4, fun h i hi _ => h.2 _ (List.getElem_mem hi)⟩
theorem showL_ne (ps : List (List UInt8)) (h : okL ps) : showL ps ≠ [] := by
  rw [showL_in ps h]; unfold magic; simp
theorem rdI_at {w : World} {B : Nat} {v : Value} {l : List Nat} (h : ownI w B v (ints l)) :
    ∃ a cap, v = .slice a l.length cap ∧ ∀ j, j < l.length → ∃ g, a = some ⟨g, 0, none⟩ ∧ g < w.heap.size ∧ w.cell? ⟨g, j, none⟩ = some (.int .i64 ((l.getD j 0 : Nat) : Int)) := by
  rcases ownI_form h with ⟨rfl, he⟩ | ⟨g, cap, rfl, _, hg, _, _, HC⟩
  · have : l.length = 0 := by rw [← ints_length, he]; rfl
    exact ⟨none, 0, by rw [this], fun j hj => by omega⟩
  · refine ⟨_, cap, by rw [ints_length], fun j hj => ⟨g, rfl, hg, ?_⟩⟩
    rw [(HC.out j (by rw [ints_length]; exact hj)).1]
    simp only [ints, List.getElem_map]
    rw [List.getD_eq_getElem?_getD, List.getElem?_eq_getElem hj]
    rfl

theorem below_drewN {n k : Nat} {w w' : World} (h : Below n w w') : Below n w (w'.drewN k) := ⟨h.os, h.tape, h.output, h.size, h.block⟩

set_option maxRecDepth 100000 in
set_option maxHeartbeats 4000000 in
theorem frames_law (a : Option Addr) (cap : Nat) (L : List UInt8) (ad : E5 → Addr) (w : World) (hL : L.length ≤ 1048576) (hc : CodeAt w.heap.size w a L) (E : Env5 w.heap.size w ad) :
    Calls Tryd.prog 3 #[.slice a L.length cap] w fun e w' => e = .returned (.bool true) ∧ Below w.heap.size w w' := by
  have HC : Hid (CodeAt w.heap.size w a L) := hc
  have HE : Hid (Env5 w.heap.size w ad) := E
  clear hc E
  have hbig : decide (1048576 < L.length) = false := by simp; omega
  go_enter Tryd.func3, Tryd.ntmps3
  go_wp2_with fail
  refine (big_calls a L.length cap w (by omega)).mono ?_
  rintro e w ⟨rfl, rfl⟩
  rw [hbig]
  go_wp2_with fail
  refine (drawShowLog_calls (cap := cap) hL HC.out (Nat.le_refl _)).mono ?_
  rintro e w1 ⟨v1, zs, rfl, O1, hz, B1⟩
  obtain ⟨p1, c1, rfl, R1⟩ := rdS_own O1
  have h5 := hz.1
  have HZ : Hid (∀ z ∈ zs, z.length ≤ 7) := hz.2
  have HT1 : Hid (TabAt w1) := tab_below HE.out.tab B1 (tab_pos HE.out.tab)
  clear hz O1
  have CS : Hid (∀ (_ : Unit), _) := fun _ => iShowLog_calls w1 p1 c1 zs HT1.out R1.out (by omega) (fun z h => by have := HZ.out z h; omega)
  have hSl := showL_length zs
  have hSs : (txt (showL zs)).size = (showL zs).length := rfl
  have HOK : Hid (okTo zs zs.length ↔ okL zs) := okTo_iff zs (by omega)
  have HSH : Hid (∀ S, showL zs = S → okL zs → S ≠ [] ∧ rdL S = (zs, 0) ∧ (∀ k, k < S.length → ∃ c, rdL (S.take k) = ([], c) ∧ c ≠ 0) ∧ rdL (S ++ [120]) = ([], 5) ∧ (spots S).length = zs.length + 2 ∧ (spots S).getD (zs.length + 1) 0 = S.length ∧ ∀ j, j ≤ zs.length → (spots S).getD j 0 ≤ (spots S).getD (j + 1) 0 ∧ (spots S).getD (j + 1) 0 ≤ S.length ∧
      rdF (S.drop ((spots S).getD j 0)) = some (j, zs.getD j [], (spots S).getD (j + 1) 0 - (spots S).getD j 0)) := by
    intro S hS hok
    subst hS
    obtain ⟨s1, s2, s3⟩ := spots_read zs hok
    exact ⟨showL_ne zs hok, rdL_show zs hok, fun k hk => rdL_cut zs k hok hk, rdL_more zs [120] (by simp) hok, s1, s2, s3⟩
  have HSN : Hid (∀ S, showL zs = S → ¬ okL zs → S = []) := fun S hS hn => by rw [← hS]; exact showL_out zs hn
  obtain ⟨S, hS⟩ : ∃ S, showL zs = S := ⟨_, rfl⟩
  have HS : Hid (showL zs = S) := hS
  rw [hS] at CS hSl hSs
  have OZ : Hid (okTo zs 0) := okTo_zero zs
  have OS : Hid (∀ (j : Nat) (h : j < zs.length), okTo zs j → zs[j] ≠ [] → zs[j].length ≤ 200 → okTo zs (j + 1)) := okTo_succ zs
  have OD : Hid (∀ (j : Nat), okTo zs (j + 1) → okTo zs j) := fun j h i hi hlt => h i hi (by omega)
  have ON : Hid (∀ (j : Nat) (h : j < zs.length), okTo zs (j + 1) → zs[j] ≠ []) := fun j h ho => (ho j h (by omega)).1
  have HZL : Hid (∀ (j : Nat) (h : j < zs.length), zs[j].length ≤ 7) := fun j h => HZ.out _ (List.getElem_mem h)
  clear hS HZ
  obtain ⟨n, hn⟩ : ∃ n, zs.length = n := ⟨_, rfl⟩
  have Hn : Hid (zs.length = n) := hn
  rw [hn] at h5 CS HOK HSH ⊢
  clear hn
  go_wp2_with fail
  refine (CS.out ()).mono ?_
  rintro e w2 ⟨rfl, b2⟩
  have B2 := B1.trans (b2.mono B1.size)
  have R2 : Hid (RdS w2 p1 zs) := rdS_later R1.out b2
  clear CS R1 b2 HT1
  go_wp2
  go_loop [5, 6] (fun x i => ∃ (j : Nat) (q : Bool), j ≤ n ∧ i = .int .i64 (j : Int) ∧ x = .bool q ∧ Hid (q = true ↔ okTo zs j)) (fun _ i => n - (intOf i).toNat)
  case atStart => exact ⟨0, true, by omega, rfl, by simp; omega, ⟨fun _ => OZ.out, fun _ => rfl⟩⟩
  case round =>
    obtain ⟨j, q, hj, rfl, rfl, HQ⟩ := hrel
    by_cases hlt : j < n
    · have hj2 : j < zs.length := by have := Hn.out; omega
      cases q with
      | false =>
        go_wp2
        go_round
        case rel => exact ⟨j + 1, false, by omega, by go_num, rfl, ⟨fun h => (by cases h), fun h => HQ.out.2 (OD.out j h)⟩⟩
        case measure => simp [intOf]; omega
      | true =>
        obtain ⟨g, off, rfl, hg, hc1⟩ := R2.out j hj2
        by_cases he : zs[j] = []
        · have hc2 : w2.cell? ⟨g, off + j, none⟩ = some (.string ⟨#[]⟩) := by rw [hc1, he]; rfl
          have HF : Hid (¬ okTo zs (j + 1)) := fun h => ON.out j hj2 h he
          clear he hc1
          go_wp2
          go_round
          case rel => exact ⟨j + 1, false, by omega, by go_num, rfl, ⟨fun h => (by cases h), fun h => absurd h HF.out⟩⟩
          case measure => simp [intOf]; omega
        · have hz1 : ((txt zs[j]).toList == []) = false := by
            rw [beq_eq_false_iff_ne]; unfold txt; rw [ByteArray.toList_mk]; exact he
          have hsz : (txt zs[j]).size = zs[j].length := rfl
          have hzl := HZL.out j hj2
          have HF : Hid (okTo zs (j + 1)) := OS.out j hj2 (HQ.out.1 rfl) he (by omega)
          clear he
          generalize zs[j] = z at *
          go_wp2
          go_round
          case rel => exact ⟨j + 1, true, by omega, by go_num, by simp; omega, ⟨fun _ => HF.out, fun _ => rfl⟩⟩
          case measure => simp [intOf]; omega
    · obtain rfl : j = n := by omega
      have HE2 : Hid (Env5 w2.heap.size w2 ad) := env5_later HE.out B2
      by_cases hok : okL zs
      · obtain rfl : q = true := HQ.out.2 (HOK.out.2 hok)
        obtain ⟨s1, s2, s3, s4, s5, s6, s7⟩ := HSH.out S HS.out hok
        have CR : Hid (∀ X, Env5 X.heap.size X ad → _) := fun X hX => iReadLog_calls S ad X (by omega) hX
        rw [s2] at CR
        have HCUT : Hid (∀ k, k < S.length → ∃ c, rdL (S.take k) = ([], c) ∧ c ≠ 0) := s3
        have CX : Hid (∀ X, Env5 X.heap.size X ad → _) := fun X hX => iReadLog_calls (S ++ [120]) ad X (by rw [List.length_append, List.length_singleton]; omega) hX
        rw [s4] at CX
        have CK : Hid (∀ k X, Env5 X.heap.size X ad → _) := fun k X hX => iReadLog_calls (S.take k) ad X (by rw [List.length_take]; omega) hX
        have CP : Hid (∀ X, Env5 X.heap.size X ad → _) := fun X hX => iFrameSpots_calls S (ad .head) (ad .frame) (ad .fin) X (by omega) hX.three
        have CF : Hid (∀ p X, Env5 X.heap.size X ad → _) := fun p X hX => iReadFrame_calls (S.drop p) X hX.tab (by rw [List.length_drop]; omega)
        have hne : ((txt S).toList == []) = false := by
          rw [beq_eq_false_iff_ne]; unfold txt; rw [ByteArray.toList_mk]; exact s1
        have hpos : 1 ≤ S.length := by
          cases S with
          | nil => exact absurd rfl s1
          | cons _ _ => simp
        have AX : txt S ++ (⟨#[120]⟩ : ByteArray) = txt (S ++ [120]) := txt_append S [120]
        have XT : Hid (∀ k, (txt S).extract 0 k = txt (S.take k)) := extract_to S
        have XD : Hid (∀ k, (txt S).extract k S.length = txt (S.drop k)) := extract_from S
        have H5 : Hid ((spots S).length = j + 2) := s5
        have H6 : Hid ((spots S).getD (j + 1) 0 = S.length) := s6
        have H7 : Hid (∀ i, i ≤ j → _) := s7
        clear s1 s2 s3 s4 s5 s6 s7 hok HSH HSN HQ HOK
        go_wp2_with fail
        refine (CR.out _ HE2.out).mono ?_
        rintro e w3 ⟨v3, rfl, O3, b3⟩
        have B3 := B2.trans (b3.mono B2.size)
        have R3 : Hid (RdS w3 p1 zs) := rdS_later R2.out b3
        obtain ⟨p3, c3, hv3, Q3⟩ := rdS_own O3
        rw [Hn.out] at hv3
        subst hv3
        clear O3 b3 R2 HE2
        go_wp2
        go_loopw [9] (fun i wr => ∃ k : Nat, k ≤ j ∧ i = .int .i64 (k : Int) ∧ Below w3.heap.size w3 wr ∧ Hid (∀ p, wr.cell? p = w3.cell? p)) (fun i _ => j - (intOf i).toNat)
        case atStart => exact ⟨0, by omega, rfl, Below.refl _ _, fun _ => rfl⟩
        case round =>
          obtain ⟨k, hk, rfl, hb, HW⟩ := hrel
          by_cases hlt2 : k < j
          · have hj2 : k < zs.length := by have := Hn.out; omega
            obtain ⟨g, off, rfl, -, hc1⟩ := Q3.out k hj2
            obtain ⟨g2, off2, rfl, -, hc2⟩ := R3.out k hj2
            rw [← HW.out] at hc1 hc2
            generalize zs[k] = z at hc1 hc2
            go_wp2
            go_region
            all_goals
              go_wp2
              go_roundw
              case rel => exact ⟨k + 1, by omega, by go_num, hb.drew, fun p => HW.out p⟩
              case measure => simp [intOf]; omega
          · obtain rfl : k = j := by omega
            have B4 := B3.trans (hb.mono B3.size)
            have R4 : Hid (RdS wr p1 zs) := rdS_later R3.out hb
            have HC4 : Hid (CodeAt w.heap.size wr a L) := code_below HC.out B4
            have HE4 : Hid (Env5 wr.heap.size wr ad) := env5_later HE.out B4
            clear hb HW hlt2 R3 Q3 B3
            have a0 := atZ_bd L 0
            have a1 := atZ_bd L 1
            have CA : Hid (∀ i, i ≤ 1048576 → _) := fun i hi => at_calls w.heap.size a cap L i wr hL hi HC4.out
            go_wp2_with fail
            refine (CA.out 0 (by omega)).mono ?_
            rintro e wr ⟨rfl, rfl⟩
            go_wp2_with fail
            refine (CA.out 1 (by omega)).mono ?_
            rintro e wr ⟨rfl, rfl⟩
            generalize atZ L 0 = x0 at *
            generalize atZ L 1 = x1 at *
            clear CA
            obtain ⟨kk, hkk, hkl⟩ : ∃ kk : Nat, (x0 * 256 + x1) % (S.length : Int) = (kk : Int) ∧ kk < S.length := by
              refine ⟨((x0 * 256 + x1) % (S.length : Int)).toNat, ?_, ?_⟩
              · have := Int.emod_nonneg (x0 * 256 + x1) (show (S.length : Int) ≠ 0 by omega); omega
              · have h1 := Int.emod_nonneg (x0 * 256 + x1) (show (S.length : Int) ≠ 0 by omega)
                have h2 := Int.emod_lt_of_pos (x0 * 256 + x1) (show (0 : Int) < (S.length : Int) by omega)
                omega
            obtain ⟨cc, hcc, hcn⟩ := HCUT.out kk hkl
            have CK2 := CK.out kk
            rw [hcc] at CK2
            have HCK : Hid (∀ X, Env5 X.heap.size X ad → _) := CK2
            have hcz : ((cc : Int) == 0) = false := by rw [beq_eq_false_iff_ne]; omega
            have hx := XT.out kk
            have hk1 : (kk : Int) ≤ (S.length : Int) := by omega
            clear hcc hcn CK2 CK HCUT
            go_wp2_with fail
            refine (HCK.out _ HE4.out).mono ?_
            rintro e w5 ⟨v5, rfl, O5, b5⟩
            have B5 := B4.trans (b5.mono B4.size)
            obtain ⟨p5, c5, hv5, -⟩ := rdS_own O5
            rw [List.length_nil] at hv5
            subst hv5
            have HE5 : Hid (Env5 w5.heap.size w5 ad) := env5_later HE4.out b5
            have R5 : Hid (RdS w5 p1 zs) := rdS_later R4.out b5
            clear O5 b5 R4 HE4 HCK hkk hx hk1 hkl B4 HC4
            have h120 : (⟨#[120]⟩ : ByteArray).size = 1 := rfl
            go_wp2_with fail
            refine (CX.out _ HE5.out).mono ?_
            rintro e w6 ⟨v6, rfl, O6, b6⟩
            have B6 := B5.trans (b6.mono B5.size)
            have HE6 : Hid (Env5 w6.heap.size w6 ad) := env5_later HE5.out b6
            have R6 : Hid (RdS w6 p1 zs) := rdS_later R5.out b6
            clear O6 b6 R5 HE5 CX B5
            go_wp2_with fail
            refine (CP.out _ HE6.out).mono ?_
            rintro e w7 ⟨v7, rfl, O7, b7⟩
            have B7 := B6.trans (b7.mono B6.size)
            have HE7 : Hid (Env5 w7.heap.size w7 ad) := env5_later HE6.out b7
            have R7 : Hid (RdS w7 p1 zs) := rdS_later R6.out b7
            obtain ⟨p7, c7, hv7, hI7⟩ := rdI_at O7
            rw [H5.out] at hv7 hI7
            subst hv7
            have HI7 : Hid (∀ i, i < k + 2 → _) := hI7
            clear O7 b7 R6 HE6 CP B6 hI7
            obtain ⟨g7, rfl, hg7, hl7⟩ := HI7.out (k + 1) (by omega)
            rw [H6.out] at hl7
            have HG : Hid (∀ i, i < k + 2 → w7.cell? ⟨g7, i, none⟩ = some (.int .i64 (((spots S).getD i 0 : Nat) : Int))) := fun i hi => by
              obtain ⟨g, hge, _, hcl⟩ := HI7.out i hi
              simp only [Option.some.injEq, Addr.mk.injEq, and_true] at hge
              rw [hge]; exact hcl
            clear HI7
            go_wp2
            go_loopw [16] (fun i wr => ∃ m : Nat, m ≤ k + 1 ∧ i = .int .i64 (m : Int) ∧ Below w7.heap.size w7 wr) (fun i _ => k + 2 - (intOf i).toNat)
            case atStart => exact ⟨0, by omega, rfl, Below.refl _ _⟩
            case round =>
              obtain ⟨m, hm, rfl, hb⟩ := hrel
              by_cases hmk : m ≤ k
              · obtain ⟨i1, i2, i3⟩ := H7.out m hmk
                have HCX : Hid (∀ X, Below w7.heap.size w7 X → X.cell? ⟨g7, m, none⟩ = some (.int .i64 (((spots S).getD m 0 : Nat) : Int))) := fun X hX => (hX.cell (p := ⟨g7, m, none⟩) hg7).trans (HG.out m (by omega))
                have HCY : Hid (∀ X, Below w7.heap.size w7 X → X.cell? ⟨g7, m + 1, none⟩ = some (.int .i64 (((spots S).getD (m + 1) 0 : Nat) : Int))) := fun X hX => (hX.cell (p := ⟨g7, m + 1, none⟩) hg7).trans (HG.out (m + 1) (by omega))
                have CF2 := CF.out ((spots S).getD m 0)
                rw [i3] at CF2
                have HXD := XD.out ((spots S).getD m 0)
                generalize (spots S).getD m 0 = x at *
                generalize (spots S).getD (m + 1) 0 = y at *
                obtain ⟨d, rfl⟩ : ∃ d, y = x + d := ⟨y - x, by omega⟩
                rw [show x + d - x = d by omega] at CF2
                clear i3
                have cx := HCX.out wr hb
                have cy := HCY.out wr hb
                have f1 : decide ((x : Int) < 0) = false := by simp
                have f2 : decide ((x : Int) + (d : Int) < (x : Int)) = false := by simp; omega
                have f3 : decide ((S.length : Int) < (x : Int) + (d : Int)) = false := by simp; omega
                have hi1 : (m : Int) < (k : Int) + 2 := by omega
                have hi2 : (m : Int) + 1 < (k : Int) + 2 := by omega
                have hi3 : (0 : Int) ≤ (m : Int) + 1 := by omega
                have hi4 : ((m : Int) + 1).toNat = m + 1 := by omega
                have hi5 : (m : Int) < (((k + 2 : Nat)) : Int) := by omega
                have hi6 : (m : Int) + 1 < (((k + 2 : Nat)) : Int) := by omega
                have hi7 : IntKind.i64.wrap ((m : Int) + 1) = (m : Int) + 1 := by rw [IntKind.wrap_i64]; omega
                go_wp2
                have HCF : Hid (∀ X, Env5 X.heap.size X ad → _) := CF2
                clear CF2
                go_quiet (fail)
                have hb8 : Below w7.heap.size w7 (wr.drewN nq) := below_drewN hb
                have HE8 : Hid (Env5 (wr.drewN nq).heap.size (wr.drewN nq) ad) := env5_later HE7.out hb8
                have hd1 : (x : Int) ≤ (S.length : Int) := by omega
                go_wp2_with fail
                refine (HCF.out _ HE8.out).mono ?_
                rintro e w8 ⟨rfl, b8⟩
                simp only [ansF]
                have B8 := hb8.trans (b8.mono hb8.size)
                have R8 : Hid (RdS w8 p1 zs) := rdS_later R7.out B8
                have dx := HCX.out w8 B8
                have dy := HCY.out w8 B8
                have g1 : ((d : Int) == (x : Int) + (d : Int) - (x : Int)) = true := by simp; omega
                have g2 : ((d : Int) != (x : Int) + (d : Int) - (x : Int)) = false := by simp; omega
                clear cx cy hb b8 hb8 HE8 HCF HXD
                by_cases hmk2 : m < k
                · have hj2 : m < zs.length := by have := Hn.out; omega
                  have ht : zs.getD m [] = zs[m] := by rw [List.getD_eq_getElem?_getD, List.getElem?_eq_getElem hj2]; rfl
                  obtain ⟨g, off, rfl, -, hc1⟩ := R8.out m hj2
                  rw [ht]
                  generalize zs[m] = z at *
                  have g3 : decide ((m : Int) < (k : Int)) = true := by simp; omega
                  have hi8 : (m : Int) < (k : Int) := by omega
                  clear ht
                  go_wp2
                  go_quiet (fail)
                  go_wp2
                  go_roundw
                  case rel => exact ⟨m + 1, by omega, by go_num, below_drewN B8⟩
                  case measure => simp [intOf]; omega
                · have g3 : decide ((m : Int) < (k : Int)) = false := by simp; omega
                  generalize zs.getD m [] = z at *
                  go_wp2
                  go_quiet (fail)
                  go_wp2
                  go_roundw
                  case rel => exact ⟨m + 1, by omega, by go_num, below_drewN B8⟩
                  case measure => simp [intOf]; omega
              · obtain rfl : m = k + 1 := by omega
                go_wp2
                go_ret
                exact ⟨rfl, B7.trans (hb.mono B7.size)⟩
      · have hq : q = false := by
          cases q with
          | false => rfl
          | true => exact absurd (HOK.out.1 (HQ.out.1 rfl)) hok
        subst hq
        have hS0 := HSN.out S HS.out hok
        have CR : Hid (∀ (_ : Unit), _) := fun _ => iReadLog_calls S ad w2 (by omega) HE2.out
        have e0 : txt S = ⟨#[]⟩ := by rw [hS0]; rfl
        have er : rdL S = ([], 1) := by rw [hS0]; rfl
        rw [er, e0] at CR
        rw [e0]
        clear hS0 er e0 hok HSH HSN
        go_wp2_with fail
        refine (CR.out ()).mono ?_
        rintro e w3 ⟨v3, rfl, O3, b3⟩
        go_wp2
        go_ret
        exact ⟨rfl, B2.trans (b3.mono B2.size)⟩

end Go.Proofs.YthagjamgmlbhkaaDoor
