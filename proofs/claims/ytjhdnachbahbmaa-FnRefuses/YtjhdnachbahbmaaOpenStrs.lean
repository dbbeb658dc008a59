/- An argument that is a row of texts, opened: what one who only reads has of it. -/
import Derived.Test.YtjhdnachbahbmaaStrsWalks
import Derived.ProofKit
import Derived.OpenShut
import Derived.SliceStrings
namespace Go.Proofs.Ytjhdnachbahbmaa
open Go.RowKit Go.ChangeShapes Go.WideShapes Go.ChangeAt
set_option linter.unusedVariables false

theorem plain_addr {w : World} {x : Addr} {v : Value} (h : w.cell? (x.add 0) = some v) : ∃ b off, x = ⟨b, off, none⟩ := by
  obtain ⟨b, off, spot⟩ := x
  cases spot with
  | none => exact ⟨b, off, rfl⟩
  | some q =>
    exfalso
    simp [Addr.add, World.cell?] at h
    split at h <;> simp at h
theorem add_plain (b off i : Nat) : Addr.add ⟨b, off, none⟩ i = ⟨b, off + i, none⟩ := by unfold Addr.add; split <;> simp_all

section
variable {T : Type} {enc : TypeId × Value → T} {w : World} {held : Bool}

theorem opened_strs {fuel : Nat} {cs : List Value} {x : DataW T × List MemPlace} (h : DataW.trod enc Try.prog w 0 (fun _ => true) held fuel 31 cs = some x) :
    ∃ a zs cap, cs = [.slice a zs.length cap] ∧ RdS w a zs ∧ zs.length ≤ 9223372036854775807 ∧ ∀ z ∈ zs, z.length ≤ 9223372036854775807 := by
  rcases open_strings Try.underlying31 Try.underlying9 (by kernel_rfl) h with ⟨rfl, _⟩ | ⟨x, len, cap, ss, rfl, _, hl, hm, hz, _, hcell, hsz⟩
  · exact ⟨none, [], 0, rfl, fun j hj => by simp at hj, by simp, by simp⟩
  · have hz2 : ss.length = cap := by simpa using hz
    have ht : ((ss.take len).map fun s => s.data.toList).length = len := by rw [List.length_map, List.length_take]; omega
    unfold maxLen at hm
    refine ⟨some x, (ss.take len).map fun s => s.data.toList, cap, by rw [ht], ?_, by omega, ?_⟩
    · intro j hj
      rw [ht] at hj
      obtain ⟨b, off, rfl⟩ := plain_addr (hcell 0 (by omega))
      have hc := hcell j (by omega)
      rw [add_plain, List.getD_eq_getElem?_getD, List.getElem?_eq_getElem (by omega)] at hc
      refine ⟨b, off, rfl, World.block_lt_of_cell? w _ hc, ?_⟩
      rw [hc, List.getElem_map, List.getElem_take]
      rfl
    · intro z hz
      obtain ⟨s, hs, rfl⟩ := List.mem_map.1 hz
      have h1 := hsz s (List.mem_of_mem_take hs)
      unfold maxLen at h1
      exact h1

end

end Go.Proofs.Ytjhdnachbahbmaa
