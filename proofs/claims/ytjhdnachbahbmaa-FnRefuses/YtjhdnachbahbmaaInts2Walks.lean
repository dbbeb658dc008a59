/- What the laws' own helpers on rows of numbers do: szIntS, toIntS. -/
import Derived.Test.YtjhdnachbahbmaaOwnI
namespace Go.Proofs.Ytjhdnachbahbmaa
open Go.RowKit
set_option linter.unusedVariables false

/-- A row of numbers as one who only reads has it. -/
def RdI (w : World) (a : Option Addr) (zs : List Int) : Prop := ∀ j (h : j < zs.length), ∃ g off, a = some ⟨g, off, none⟩ ∧ g < w.heap.size ∧ w.cell? ⟨g, off + j, none⟩ = some (.int .i64 zs[j])
theorem rdI_own {w : World} {B : Nat} {v : Value} {zs : List Int} (h : ownI w B v zs) : ∃ a cap, v = .slice a zs.length cap ∧ Hid (RdI w a zs) := by
  rcases ownI_form h with ⟨rfl, rfl⟩ | ⟨g, cap, rfl, _, hg, _, _, HC⟩
  · exact ⟨none, 0, rfl, fun j hj => by simp at hj⟩
  · exact ⟨_, cap, rfl, fun j hj => ⟨g, 0, rfl, hg, by rw [Nat.zero_add]; exact (HC.out j hj).1⟩⟩
theorem rdI_later {w w' : World} {a : Option Addr} {zs : List Int} (h : RdI w a zs) (hb : Below w.heap.size w w') : RdI w' a zs := by
  intro j hj
  obtain ⟨g, off, ha, hg, hc⟩ := h j hj
  exact ⟨g, off, ha, Nat.lt_of_lt_of_le hg hb.size, (hb.cell (p := ⟨g, off + j, none⟩) hg).trans hc⟩

/-- The first j numbers of a row laid over a new one. -/
def laidI (zs : List Int) (j : Nat) : List Int := zs.take j ++ List.replicate (zs.length - j) 0
theorem laidI_length (zs : List Int) (j : Nat) (h : j ≤ zs.length) : (laidI zs j).length = zs.length := by
  unfold laidI; rw [List.length_append, List.length_take, List.length_replicate]; omega
theorem laidI_zero (zs : List Int) : laidI zs 0 = List.replicate zs.length 0 := by unfold laidI; simp
theorem laidI_all (zs : List Int) : laidI zs zs.length = zs := by unfold laidI; simp
theorem laidI_succ (zs : List Int) (j : Nat) (h : j < zs.length) : (laidI zs j).set j zs[j] = laidI zs (j + 1) := by
  unfold laidI
  have hl : (zs.take j).length = j := by rw [List.length_take]; omega
  rw [List.set_append_right _ _ (by omega), hl, Nat.sub_self]
  obtain ⟨m, hm⟩ : ∃ m, zs.length - j = m + 1 := ⟨zs.length - j - 1, by omega⟩
  rw [hm, List.replicate_succ, List.set_cons_zero, show zs.length - (j + 1) = m from by omega, List.take_succ_eq_append_getElem h, List.append_assoc]
  rfl

theorem make_ints (n : Nat) (hn : n ≤ 16777216) (u : World) : ∃ u', (Instr.makeSlice 28 (.int .i64 (n : Int)) (.int .i64 (n : Int))).run Try.prog u = .ok (.slice (some ⟨u.heap.size, 0, none⟩) n n) u' ∧
    ownI u' u.heap.size (.slice (some ⟨u.heap.size, 0, none⟩) n n) (List.replicate n 0) ∧ Below u.heap.size u u' := by
  obtain ⟨i0, hi, hz0, hz1, hz2⟩ := info_parts infoI
  obtain ⟨u', h1, h2, h3⟩ := run_make_full (P := Try.prog) u u.heap.size 28 3 i0 (.int .i64 0) 1 Try.underlying28 hi hz0 hz1 .i64 .i64 n (by rw [hz2]; omega) (by unfold maxLen; omega) (Nat.le_refl _)
  refine ⟨u', h1, ?_, (Below.refl _ _).grown h3 (Nat.le_refl _) (fun r hr => by cases hr)⟩
  unfold ownI
  have e : (madeCells (Value.int .i64 0).cells (n * 1)).toList = (List.replicate n 0).map intV := by
    have h3 : (Value.int .i64 0).cells = #[Value.int .i64 0] := by simp [Value.cells]
    rw [h3, toList_madeCells_one, Nat.mul_one]
    simp [intV]
  rw [e] at h2
  rw [List.length_replicate]
  exact h2

end Go.Proofs.Ytjhdnachbahbmaa
