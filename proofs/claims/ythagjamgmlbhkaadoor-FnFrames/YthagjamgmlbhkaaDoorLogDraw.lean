/- The specification's draws of a list of payloads: of whatever code, a new row of at most five texts of at most seven bytes. -/
import Derived.Test.YthagjamgmlbhkaaDoorLaw2Walks
import Derived.Test.YthagjamgmlbhkaaDoorOwnS
namespace Go.Proofs.YthagjamgmlbhkaaDoor
open Go.RowKit
set_option linter.unusedVariables false

variable {B : Nat} {a : Option Addr} {cap : Nat} {L : List UInt8} {g : Nat} {s : Nat × Int} {w : World}

theorem ownS_grown {X : Nat} {w1 w2 : World} {v : Value} {P : List (List UInt8)} (h : ownS w1 X v P) (hg : w1.grownBy w2 (some g)) (hX : g < X) : ownS w2 X v P := by
  refine World.ownsRow.kept h hg ?_
  cases hv : v.ownBlock with
  | none => exact .inl rfl
  | some k =>
    have := (World.ownsRow.lt h k hv).1
    exact .inr (by intro e; have : k = g := by simpa using e
                   omega)

set_option maxRecDepth 100000 in
set_option maxHeartbeats 400000 in
theorem list_calls (d : Dr B a cap L g s w) :
    Calls Tryd.prog 31 #[.pointer (some ⟨g, 0, none⟩)] w fun e w' => ∃ v zs s', e = .returned v ∧ ownS w' w.heap.size v zs ∧ (zs.length ≤ 4 ∧ ∀ z ∈ zs, z.length ≤ 7) ∧ Dr B a cap L g s' w' ∧ w.grownBy w' (some g) := by
  have D : Hid (Dr B a cap L g s w) := d
  have hgw : g < w.heap.size := dr_lt d
  clear d
  have b1 := bl_bd L s 5 (by omega)
  go_enter Tryd.func31, Tryd.ntmps31
  go_wp2_with fail
  refine (below_calls 5 (by omega) (by omega) (dr_alloc _ D.out)).mono ?_
  rintro e w2 ⟨rfl, D2, G2⟩
  obtain ⟨n, hn⟩ := Int.eq_ofNat_of_zero_le b1.1
  rw [hn]
  have hn4 : n ≤ 4 := by omega
  have hO : ownS w2 w.heap.size (.slice (some ⟨w.heap.size, 0, none⟩) 0 0) [] := ownS_grown (ownS_new w _ (Nat.le_refl _)) G2 hgw
  have GG : w.grownBy w2 (some g) := grown_trans (grown_alloc _ (World.grownBy.refl _ _)) G2
  clear G2 hn b1
  go_wp2
  go_loopw [3, 4] (fun v x wr => ∃ (m : Nat) (P : List (List UInt8)) (sx : Nat × Int), Hid (P.length + m = n) ∧ Hid (∀ z ∈ P, z.length ≤ 7) ∧ x = .int .i64 (m : Int) ∧ ownS wr w.heap.size v P ∧ Dr B a cap L g sx wr ∧ w.grownBy wr (some g)) (fun _ x _ => (intOf x).toNat)
  case atStart => exact ⟨n, [], _, (by show 0 + n = n; omega), (by show ∀ z ∈ [], _; simp), rfl, hO, D2, GG⟩
  case round =>
    obtain ⟨m, P, sx, H1, H2, rfl, hown, dx, gx⟩ := hrel
    by_cases hp : 0 < m
    · obtain ⟨m, rfl⟩ : ∃ m', m = m' + 1 := ⟨m - 1, by omega⟩
      have hm9 : m ≤ 4 := by have := H1.out; omega
      have hT := text_length L sx 6
      have h112 : (⟨#[112]⟩ : ByteArray).size = 1 := rfl
      go_wp2_with fail
      refine (text_calls 6 (by omega) dx).mono ?_
      rintro e w3 ⟨rfl, D3, G3⟩
      have hown3 := ownS_grown hown G3 hgw
      generalize text L sx 6 = T at *
      have hTs : (txt T).size ≤ 6 := hT
      have A1 : (⟨#[112]⟩ : ByteArray) ++ txt T = txt ([112] ++ T) := txt_append [112] T
      have hTl : ([112] ++ T).length ≤ 7 := by rw [List.length_append, List.length_singleton]; omega
      generalize [112] ++ T = T2 at *
      go_wp2_with (at_builtin; refine wpList_appendS rfl _ _ rfl w.heap.size _ P rfl (ownS_alloc _ hown3) ⟨w3.heap.size, 0, none⟩ [T2] 1 1 rfl rfl ?hsrc ?hlen w3 ((Below.refl _ _).alloc (Nat.le_trans gx.size G3.size) _) (Nat.le_trans gx.size G3.size) ?_)
      case hsrc => exact src_str w3 T2
      case hlen => have := H1.out; simp only [List.length_singleton]; omega
      · intro v1 w4 hown4 hb4
        have D4 := dr_below D3 hgw hb4
        have g4 := grown_below (grown_trans gx G3) hb4
        go_wp2
        go_roundw
        case rel =>
          refine ⟨m, P ++ [T2], _, ?_, ?_, by go_num, hown4, D4, g4⟩
          · show _ = _
            have := H1.out; simp only [List.length_append, List.length_singleton]; omega
          · intro z hz
            rcases List.mem_append.1 hz with hz | hz
            · exact H2.out z hz
            · simp at hz; subst hz; exact hTl
        case measure => simp [intOf]
    · obtain rfl : m = 0 := by omega
      go_wp2
      go_ret
      exact ⟨_, P, sx, rfl, hown, ⟨by have := H1.out; omega, H2.out⟩, dx, gx⟩

set_option maxHeartbeats 400000 in
theorem drawShowLog_calls (hL : L.length ≤ 1048576) (hc : CodeAt B w a L) (hB : B ≤ w.heap.size) :
    Calls Tryd.prog 10 #[.slice a L.length cap] w fun e w' => ∃ v zs, e = .returned v ∧ ownS w' w.heap.size v zs ∧ (zs.length ≤ 5 ∧ ∀ z ∈ zs, z.length ≤ 7) ∧ Below w.heap.size w w' := by
  have HC : Hid (CodeAt B w a L) := hc
  clear hc
  go_enter Tryd.func10, Tryd.ntmps10
  go_wp2_with fail
  refine (l1New_calls B a cap L w hL HC.out).mono ?_
  rintro e w1 ⟨rfl, hw1⟩
  have D1 : Dr B a cap L w.heap.size (s0 L) w1 := by rw [hw1]; exact dr_new hL HC.out hB
  have hs1 : w.heap.size + 1 = w1.heap.size := by rw [hw1]; simp
  have HW : Hid (w1 = _) := hw1
  clear hw1
  go_wp2_with fail
  refine (list_calls D1).mono ?_
  rintro e w2 ⟨v, zs, s', rfl, O2, hz, D2, G2⟩
  have Hz : Hid (zs.length ≤ 4 ∧ ∀ z ∈ zs, z.length ≤ 7) := hz
  have hz4 := hz.1
  clear hz
  have b1 := bl_bd L s' 10 (by omega)
  go_wp2_with fail
  refine (once_calls 10 (by omega) (by omega) D2).mono ?_
  rintro e w3 ⟨rfl, D3, G3⟩
  have O3 := ownS_grown O2 G3 (by omega)
  have GG : Hid (w1.grownBy w3 (some w.heap.size)) := grown_trans G2 G3
  have hs3 : w1.heap.size ≤ w3.heap.size := GG.out.size
  have BB : Hid (Below w.heap.size w w3) := below_new _ (HW.out ▸ GG.out)
  clear G2 G3
  by_cases h0 : bl L s' 10 = 0
  · have q1 : (bl L s' 10 == 0) = true := by rw [h0]; rfl
    clear h0
    generalize bl L s' 10 = bb at *
    go_wp2_with (at_builtin; refine wpList_appendS rfl _ _ rfl w1.heap.size _ zs rfl (ownS_alloc _ O3) ⟨w3.heap.size, 0, none⟩ [[]] 1 1 rfl rfl ?hsrc ?hlen w3 ((Below.refl _ _).alloc hs3 _) hs3 ?_)
    case hsrc => exact src_str w3 []
    case hlen => simp only [List.length_singleton]; omega
    · intro v4 w4 O4 B4
      go_wp2
      go_ret
      refine ⟨_, zs ++ [[]], rfl, ownS_mono O4 (by omega), ⟨by rw [List.length_append, List.length_singleton]; omega, fun z hm => ?_⟩, BB.out.trans (B4.mono (by omega))⟩
      rcases List.mem_append.1 hm with hm | hm
      · exact Hz.out.2 z hm
      · simp at hm; subst hm; simp
  · have q1 : (bl L s' 10 == 0) = false := by rw [beq_eq_false_iff_ne]; exact h0
    clear h0
    generalize bl L s' 10 = bb at *
    go_wp2
    go_ret
    exact ⟨_, zs, rfl, ownS_mono O3 (by omega), ⟨by omega, Hz.out.2⟩, BB.out⟩

end Go.Proofs.YthagjamgmlbhkaaDoor
