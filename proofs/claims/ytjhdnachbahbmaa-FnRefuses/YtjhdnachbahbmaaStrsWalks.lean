/- What the laws' own helpers on rows of texts do: szStringS, toStringS, eqStringS. -/
import Derived.Test.YtjhdnachbahbmaaOwnS
import Derived.Deep.RegionHeld
namespace Go.Proofs.Ytjhdnachbahbmaa
open Go.RowKit
set_option linter.unusedVariables false

theorem ret_z {k : IntKind} {a b : Int} (h : a = b) : Ending.returned (.int k a) = .returned (.int k b) := by rw [h]

/-- A row of texts as one who only reads has it. -/
def RdS (w : World) (a : Option Addr) (zs : List (List UInt8)) : Prop := ∀ j (h : j < zs.length), ∃ g off, a = some ⟨g, off, none⟩ ∧ g < w.heap.size ∧ w.cell? ⟨g, off + j, none⟩ = some (.string (txt zs[j]))
theorem rdS_own {w : World} {B : Nat} {v : Value} {zs : List (List UInt8)} (h : ownS w B v zs) : ∃ a cap, v = .slice a zs.length cap ∧ Hid (RdS w a zs) := by
  rcases ownS_form h with ⟨rfl, rfl⟩ | ⟨g, cap, rfl, _, hg, _, _, HC⟩
  · exact ⟨none, 0, rfl, fun j hj => by simp at hj⟩
  · exact ⟨_, cap, rfl, fun j hj => ⟨g, 0, rfl, hg, by rw [Nat.zero_add]; exact (HC.out j hj).1⟩⟩
theorem rdS_later {w w' : World} {a : Option Addr} {zs : List (List UInt8)} (h : RdS w a zs) (hb : Below w.heap.size w w') : RdS w' a zs := by
  intro j hj
  obtain ⟨g, off, ha, hg, hc⟩ := h j hj
  exact ⟨g, off, ha, Nat.lt_of_lt_of_le hg hb.size, (hb.cell (p := ⟨g, off + j, none⟩) hg).trans hc⟩

/-- What is left of a size behind texts; -1 where it doesn't do. -/
def szR : List (List UInt8) → Int → Int
  | [], left => left
  | z :: r, left => if left - (z.length : Int) < 0 then -1 else szR r (left - (z.length : Int))
def szS (zs : List (List UInt8)) (left : Int) : Int := if left - (zs.length : Int) < 0 then -1 else szR zs (left - (zs.length : Int))
theorem szR_le (zs : List (List UInt8)) : ∀ left : Int, -1 ≤ left → szR zs left ≤ left ∧ -1 ≤ szR zs left := by
  induction zs with
  | nil => intro left h; exact ⟨Int.le_refl _, h⟩
  | cons z r ih =>
    intro left h
    simp only [szR]
    split
    · omega
    · have := ih (left - (z.length : Int)) (by omega); omega
theorem szR_each (zs : List (List UInt8)) : ∀ left : Int, 0 ≤ szR zs left → ∀ z ∈ zs, (z.length : Int) ≤ left := by
  induction zs with
  | nil => intro left _ z hz; simp at hz
  | cons y r ih =>
    intro left h z hz
    simp only [szR] at h
    split at h
    · omega
    · rcases List.mem_cons.1 hz with rfl | hz
      · omega
      · have := ih _ h z hz; omega
theorem szS_facts (zs : List (List UInt8)) (left : Int) (h : 0 ≤ szS zs left) : (zs.length : Int) ≤ left ∧ ∀ z ∈ zs, (z.length : Int) ≤ left := by
  unfold szS at h
  split at h
  · omega
  · refine ⟨by omega, fun z hz => ?_⟩
    have := szR_each zs _ h z hz
    omega
theorem szR_drop (zs : List (List UInt8)) (left : Int) (j : Nat) (h : j < zs.length) : szR (zs.drop j) left = if left - (zs[j].length : Int) < 0 then -1 else szR (zs.drop (j + 1)) (left - (zs[j].length : Int)) := by
  rw [List.drop_eq_getElem_cons h]; rfl

/-- The first j texts of a row laid over a new one. -/
def laidS (zs : List (List UInt8)) (j : Nat) : List (List UInt8) := zs.take j ++ List.replicate (zs.length - j) []
theorem laidS_length (zs : List (List UInt8)) (j : Nat) (h : j ≤ zs.length) : (laidS zs j).length = zs.length := by
  unfold laidS; rw [List.length_append, List.length_take, List.length_replicate]; omega
theorem laidS_zero (zs : List (List UInt8)) : laidS zs 0 = List.replicate zs.length [] := by unfold laidS; simp
theorem laidS_all (zs : List (List UInt8)) : laidS zs zs.length = zs := by unfold laidS; simp
theorem laidS_succ (zs : List (List UInt8)) (j : Nat) (h : j < zs.length) : (laidS zs j).set j zs[j] = laidS zs (j + 1) := by
  unfold laidS
  have hl : (zs.take j).length = j := by rw [List.length_take]; omega
  rw [List.set_append_right _ _ (by omega), hl, Nat.sub_self]
  obtain ⟨m, hm⟩ : ∃ m, zs.length - j = m + 1 := ⟨zs.length - j - 1, by omega⟩
  rw [hm, List.replicate_succ, List.set_cons_zero, show zs.length - (j + 1) = m from by omega, List.take_succ_eq_append_getElem h, List.append_assoc]
  rfl

theorem make_strs (n : Nat) (hn : n ≤ 16777216) (u : World) : ∃ u', (Instr.makeSlice 31 (.int .i64 (n : Int)) (.int .i64 (n : Int))).run Try.prog u = .ok (.slice (some ⟨u.heap.size, 0, none⟩) n n) u' ∧
    ownS u' u.heap.size (.slice (some ⟨u.heap.size, 0, none⟩) n n) (List.replicate n []) ∧ Below u.heap.size u u' := by
  obtain ⟨i0, hi, hz0, hz1, hz2⟩ := info_parts infoS
  obtain ⟨u', h1, h2, h3⟩ := run_make_full (P := Try.prog) u u.heap.size 31 9 i0 (.string (txt [])) 1 Try.underlying31 hi hz0 hz1 .i64 .i64 n (by rw [hz2]; omega) (by unfold maxLen; omega) (Nat.le_refl _)
  refine ⟨u', h1, ?_, (Below.refl _ _).grown h3 (Nat.le_refl _) (fun r hr => by cases hr)⟩
  unfold ownS
  have e : (madeCells (Value.string (txt [])).cells (n * 1)).toList = (List.replicate n []).map strV := by
    have h3 : (Value.string (txt [])).cells = #[Value.string (txt [])] := by simp [Value.cells]
    rw [h3, toList_madeCells_one, Nat.mul_one]
    simp [strV]
  rw [e] at h2
  rw [List.length_replicate]
  exact h2

end Go.Proofs.Ytjhdnachbahbmaa
