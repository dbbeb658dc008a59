/- What the specification's draws do: l1New and l1Byte. The code is a slice of bytes that came in, of at most 2^20. -/
import Derived.Test.YthagjamgmlbhkaaDoorRows
import Derived.Test.YthagjamgmlbhkaaDoorDrawMath
import Derived.WalkKit
import Derived.ProofKit
import Derived.Deep.QuietTactic
import Derived.BigQuiet
namespace Go.Proofs.YthagjamgmlbhkaaDoor
open Go.RowKit
set_option linter.unusedVariables false

/-- The bytes L lie at a, in a block below B. -/
def CodeAt (B : Nat) (w : World) (a : Option Addr) (L : List UInt8) : Prop :=
  ∀ i, i < L.length → ∃ b off, a = some ⟨b, off, none⟩ ∧ b < B ∧ w.cell? ⟨b, off + i, none⟩ = some (.int .u8 (cb L i))

/-- Block g is a cursor over that code. -/
def CurAt (w : World) (g : Nat) (a : Option Addr) (len cap : Nat) (i : Nat) (h : Int) : Prop :=
  w.heap[g]? = some (.cells #[.slice a len cap, .int .i64 (i : Int), .int .i64 h] 73 (0, 0))

set_option maxRecDepth 100000 in
theorem l1New_calls (B : Nat) (a : Option Addr) (cap : Nat) (L : List UInt8) (w : World) (hL : L.length ≤ 1048576) (hc : CodeAt B w a L) :
    Calls Tryd.prog 30 #[.slice a L.length cap] w fun e w' => e = .returned (.pointer (some ⟨w.heap.size, 0, none⟩)) ∧ w' = w.alloc (.cells #[.slice a L.length cap, .int .i64 0, .int .i64 (hF L (min L.length 4000))] 73) := by
  have HC : Hid (CodeAt B w a L) := hc
  clear hc
  go_enter Tryd.func30, Tryd.ntmps30
  go_wp2
  go_loop [3, 4] (fun h i => ∃ j : Nat, j ≤ L.length ∧ j ≤ 4000 ∧ i = .int .i64 j ∧ h = .int .i64 (hF L j)) (fun _ i => 4000 - (intOf i).toNat)
  case atStart => exact ⟨0, by omega, by omega, rfl, rfl⟩
  case round =>
    obtain ⟨j, hj, hj4, rfl, rfl⟩ := hrel
    have hbd := hF_bd L hL j
    by_cases hlt : j < L.length ∧ j < 4000
    · obtain ⟨hlt1, hlt2⟩ := hlt
      obtain ⟨b, off, rfl, hb, hcell⟩ := HC.out j hlt1
      have hq := cb_bd L j
      go_wp2
      go_round
      case rel => exact ⟨j + 1, by omega, by omega, by go_num, rfl⟩
      case measure => simp [intOf]; omega
    · have HM : Hid (min L.length 4000 = j) := by show _ = _; omega
      by_cases hl1 : j < L.length
      all_goals
        go_wp2
        go_ret
        exact ⟨rfl, by rw [HM.out]⟩

theorem cur_facts {w : World} {g : Nat} {a : Option Addr} {len cap i : Nat} {h : Int} (hc : CurAt w g a len cap i h) :
    w.cell? ⟨g, 0, none⟩ = some (.slice a len cap) ∧ w.cell? ⟨g, 1, none⟩ = some (.int .i64 (i : Int)) ∧ w.cell? ⟨g, 2, none⟩ = some (.int .i64 h) ∧ w.frozen? ⟨g, 1, none⟩ = false ∧ w.frozen? ⟨g, 2, none⟩ = false := by
  unfold CurAt at hc
  simp [World.cell?, World.frozen?, hc]

theorem cur_set2 {w : World} {g : Nat} {a : Option Addr} {len cap i : Nat} {h : Int} (h' : Int) (hc : CurAt w g a len cap i h) : CurAt (w.setCell ⟨g, 2, none⟩ (.int .i64 h')) g a len cap i h' := by
  unfold CurAt at *
  have hlt : g < w.heap.size := (Array.getElem?_eq_some_iff.1 hc).1
  have hv : w.heap[g] = _ := (Array.getElem?_eq_some_iff.1 hc).2
  simp [World.setCell, Array.getElem?_modify, hc]
theorem cur_set1 {w : World} {g : Nat} {a : Option Addr} {len cap i : Nat} {h : Int} (i' : Nat) (hc : CurAt w g a len cap i h) : CurAt (w.setCell ⟨g, 1, none⟩ (.int .i64 (i' : Int))) g a len cap i' h := by
  unfold CurAt at *
  simp [World.setCell, Array.getElem?_modify, hc]
theorem cur_set1' {w : World} {g : Nat} {a : Option Addr} {len cap i : Nat} {h : Int} (hc : CurAt w g a len cap i h) : CurAt (w.setCell ⟨g, 1, none⟩ (.int .i64 ((i : Int) + 1))) g a len cap (i + 1) h :=
  cur_set1 (i + 1) hc
theorem cur_drewN {w : World} {g : Nat} {a : Option Addr} {len cap i : Nat} {h : Int} (n : Nat) (hc : CurAt w g a len cap i h) : CurAt (w.drewN n) g a len cap i h := hc
theorem ret_int1 {k : IntKind} {a b : Int} (h : a = b) : Ending.returned (.int k a) = .returned (.int k b) := by rw [h]
theorem grown_set (w : World) (g o : Nat) (v : Value) : w.grownBy (w.setCell ⟨g, o, none⟩ v) (some g) :=
  ⟨rfl, rfl, rfl, by simp [World.setCell], fun k hk hne => by
    simp only [World.setCell, Array.getElem?_modify]
    rw [if_neg (by intro e; exact hne (by rw [e]))]⟩
theorem grown_trans {w w1 w2 : World} {g : Nat} (h1 : w.grownBy w1 (some g)) (h2 : w1.grownBy w2 (some g)) : w.grownBy w2 (some g) :=
  ⟨h2.os.trans h1.os, h2.tape.trans h1.tape, h2.output.trans h1.output, Nat.le_trans h1.size h2.size, fun k hk hne => (h2.block k (Nat.lt_of_lt_of_le hk h1.size) hne).trans (h1.block k hk hne)⟩
theorem grown_drewN {w w1 : World} {g : Nat} (n : Nat) (h1 : w.grownBy w1 (some g)) : w.grownBy (w1.drewN n) (some g) :=
  ⟨h1.os, h1.tape, h1.output, h1.size, h1.block⟩

theorem code_grown {B : Nat} {w w' : World} {a : Option Addr} {L : List UInt8} {g : Nat} (h : CodeAt B w a L) (hg : w.grownBy w' (some g)) (hB : B ≤ g) : CodeAt B w' a L := by
  intro i hi
  obtain ⟨b, off, ha, hb, hc⟩ := h i hi
  exact ⟨b, off, ha, hb, hg.cell hc (by intro e; have : b = g := by simpa using e
                                        omega)⟩

set_option maxRecDepth 100000 in
theorem l1Byte_calls (B : Nat) (a : Option Addr) (cap : Nat) (L : List UInt8) (i g : Nat) (h : Int) (w : World) (hL : L.length ≤ 1048576) (hi : i ≤ L.length) (hc : CodeAt B w a L) (hcur : CurAt w g a L.length cap i h) (hg : B ≤ g) :
    Calls Tryd.prog 62 #[.pointer (some ⟨g, 0, none⟩)] w fun e w' => e = .returned (.int .i64 (nbV L i h)) ∧ CurAt w' g a L.length cap (nbI L i) (hN h) ∧ w.grownBy w' (some g) := by
  have HC : Hid (CodeAt B w a L) := hc
  have HU : Hid (CurAt w g a L.length cap i h) := hcur
  obtain ⟨c0, c1, c2, f1, f2⟩ := cur_facts hcur
  clear hc hcur
  by_cases hlt : i < L.length
  · obtain ⟨b, off, rfl, hb, hcell⟩ := HC.out i hlt
    have hne : b ≠ g := by omega
    have hq := cb_bd L i
    go_enter Tryd.func62, Tryd.ntmps62
    go_wp2
    obtain ⟨W1, hW1⟩ : ∃ W1, w.setCell ⟨g, 2, none⟩ (.int .i64 (wrap64 (wrap64 (h * 6364136223846793005) + 1442695040888963407))) = W1 := ⟨_, rfl⟩
    have HU1 : Hid (CurAt W1 g (some ⟨b, off, none⟩) L.length cap i (hN h)) := by rw [← hW1]; exact cur_set2 (hN h) HU.out
    have HG1 : Hid (w.grownBy W1 (some g)) := by rw [← hW1]; exact grown_set _ _ _ _
    rw [hW1]
    clear hW1 c0 c1 c2 f1 f2
    obtain ⟨c0, c1, c2, f1, f2⟩ := cur_facts HU1.out
    have hcell1 := HG1.out.cell hcell (by simpa using hne)
    clear hcell
    have HX : Hid (bits .and .i64 (bits .xor .i64 (hN h / 8589934592) (hN h / 35184372088832)) 255 = xH (hN h)) := rfl
    have hxb := xH_bd (hN h)
    go_quiet (fail)
    rw [HX.out]
    go_wp2
    go_quiet (fail)
    go_wp2
    go_quiet (fail)
    go_wp2
    go_ret
    refine ⟨ret_int1 ?_, ?_, ?_⟩
    · unfold nbV; rw [if_pos hlt]
    · have e : nbI L i = i + 1 := by unfold nbI; rw [if_pos hlt]
      rw [e]
      exact cur_set1' (cur_drewN _ HU1.out)
    · exact grown_trans (grown_drewN _ HG1.out) (grown_set _ _ _ _)
  · go_enter Tryd.func62, Tryd.ntmps62
    go_wp2
    obtain ⟨W1, hW1⟩ : ∃ W1, w.setCell ⟨g, 2, none⟩ (.int .i64 (wrap64 (wrap64 (h * 6364136223846793005) + 1442695040888963407))) = W1 := ⟨_, rfl⟩
    have HU1 : Hid (CurAt W1 g a L.length cap i (hN h)) := by rw [← hW1]; exact cur_set2 (hN h) HU.out
    have HG1 : Hid (w.grownBy W1 (some g)) := by rw [← hW1]; exact grown_set _ _ _ _
    rw [hW1]
    clear hW1 c0 c1 c2 f1 f2
    obtain ⟨c0, c1, c2, f1, f2⟩ := cur_facts HU1.out
    have HX : Hid (bits .and .i64 (bits .xor .i64 (hN h / 8589934592) (hN h / 35184372088832)) 255 = xH (hN h)) := rfl
    have hge : L.length ≤ i := by omega
    go_quiet (fail)
    rw [HX.out]
    go_wp2
    go_quiet (fail)
    go_wp2
    go_ret
    refine ⟨ret_int1 ?_, ?_, ?_⟩
    · unfold nbV; rw [if_neg hlt]
    · have e : nbI L i = i := by unfold nbI; rw [if_neg hlt]
      rw [e]
      exact HU1.out
    · exact grown_drewN _ (grown_drewN _ HG1.out)

end Go.Proofs.YthagjamgmlbhkaaDoor
