/- What impl.wordAt, and CodeWord and OpWord of both sides answer. -/
import Derived.Test.YtjhdnachbahbmaaRfWalks
namespace Go.Proofs.Ytjhdnachbahbmaa
open Go.RowKit
set_option linter.unusedVariables false
set_option maxRecDepth 100000

/-- The word of a number; none where there is no such number. -/
def wordZ (l : List (List UInt8)) (z : Int) : ByteArray := if 0 ≤ z then ⟨(l.getD z.toNat []).toArray⟩ else ⟨#[]⟩
theorem wordZ_no (l : List (List UInt8)) (z : Int) (h : z < 0 ∨ (l.length : Int) ≤ z) : wordZ l z = ⟨#[]⟩ := by
  unfold wordZ
  split
  · have e : l.getD z.toNat [] = [] := by rw [List.getD_eq_getElem?_getD, List.getElem?_eq_none (by omega)]; rfl
    rw [e]
  · rfl
def codeL : List (List UInt8) := [[111, 107], [100, 101, 97, 100], [114, 97, 110, 103, 101], [102, 117, 108, 108], [99, 111, 117, 110, 116], [110, 111, 110, 101], [115, 105, 116, 101]]
def opL : List (List UInt8) := [[], [97, 108, 108, 111, 99], [114, 101, 116, 97, 105, 110], [114, 101, 108, 101, 97, 115, 101], [115, 116, 111, 114, 101], [114, 111, 111, 116], [117, 110, 114, 111, 111, 116], [119, 101, 97, 107], [108, 111, 97, 100], [100, 114, 111, 112], [99, 111, 108, 108, 101, 99, 116]]

theorem wordAt_yes (z : Int) (k n : Nat) (g : Nat) (s : ByteArray) (w : World) (hz : z = (k : Int)) (hk : k < n) (hc : w.cell? ⟨g, k, none⟩ = some (.string s)) :
    Calls Try.prog 11 #[.int .i64 z, .slice (some ⟨g, 0, none⟩) n n] w fun e w' => e = .returned (.string s) ∧ w' = w := by
  subst hz
  have h1 : ¬ (k : Int) < 0 := by omega
  have h2 : ¬ (n : Int) ≤ (k : Int) := by omega
  have h3 : decide ((n : Int) ≤ (k : Int)) = false := by simp; omega
  go_enter Try.func11, Try.ntmps11
  go_wp2
  go_ret
  exact ⟨rfl, rfl⟩
theorem wordAt_no (z : Int) (n : Nat) (v : Option Addr) (w : World) (h : z < 0 ∨ (n : Int) ≤ z) :
    Calls Try.prog 11 #[.int .i64 z, .slice v n n] w fun e w' => e = .returned (.string ⟨#[]⟩) ∧ w' = w := by
  by_cases h1 : z < 0
  · go_enter Try.func11, Try.ntmps11
    go_wp2
    go_ret
    exact ⟨rfl, rfl⟩
  · have h3 : decide ((n : Int) ≤ z) = true := by simp; omega
    go_enter Try.func11, Try.ntmps11
    go_wp2
    go_ret
    exact ⟨rfl, rfl⟩

set_option maxHeartbeats 4000000 in
theorem iCodeWord_calls (z : Int) (w : World) : Calls Try.prog 7 #[.int .i64 z] w fun e w' => e = .returned (.string (wordZ codeL z)) ∧ Below w.heap.size w w' := by
  have hd : z = 0 ∨ z = 1 ∨ z = 2 ∨ z = 3 ∨ z = 4 ∨ z = 5 ∨ z = 6 ∨ z < 0 ∨ 7 ≤ z := by omega
  rcases hd with h | h | h | h | h | h | h | h
  · subst h
    have hc : (w.alloc (.cells #[.string ⟨#[111, 107]⟩, .string ⟨#[100, 101, 97, 100]⟩, .string ⟨#[114, 97, 110, 103, 101]⟩, .string ⟨#[102, 117, 108, 108]⟩, .string ⟨#[99, 111, 117, 110, 116]⟩, .string ⟨#[110, 111, 110, 101]⟩, .string ⟨#[115, 105, 116, 101]⟩] 9)).cell? ⟨w.heap.size, 0, none⟩ = some (.string ⟨#[111, 107]⟩) := by rw [World.cell?_alloc_mark]; rfl
    have CW : Hid (∀ _ : Unit, _) := fun (_ : Unit) => wordAt_yes 0 0 7 w.heap.size _ _ rfl (by omega) hc
    clear hc
    go_enter Try.func7, Try.ntmps7
    go_wp2_with fail
    refine (CW.out ()).mono ?_
    rintro e w' ⟨rfl, rfl⟩
    go_wp2
    go_ret
    exact ⟨rfl, (Below.refl _ _).alloc (Nat.le_refl _) _⟩
  · subst h
    have hc : (w.alloc (.cells #[.string ⟨#[111, 107]⟩, .string ⟨#[100, 101, 97, 100]⟩, .string ⟨#[114, 97, 110, 103, 101]⟩, .string ⟨#[102, 117, 108, 108]⟩, .string ⟨#[99, 111, 117, 110, 116]⟩, .string ⟨#[110, 111, 110, 101]⟩, .string ⟨#[115, 105, 116, 101]⟩] 9)).cell? ⟨w.heap.size, 1, none⟩ = some (.string ⟨#[100, 101, 97, 100]⟩) := by rw [World.cell?_alloc_mark]; rfl
    have CW : Hid (∀ _ : Unit, _) := fun (_ : Unit) => wordAt_yes 1 1 7 w.heap.size _ _ rfl (by omega) hc
    clear hc
    go_enter Try.func7, Try.ntmps7
    go_wp2_with fail
    refine (CW.out ()).mono ?_
    rintro e w' ⟨rfl, rfl⟩
    go_wp2
    go_ret
    exact ⟨rfl, (Below.refl _ _).alloc (Nat.le_refl _) _⟩
  · subst h
    have hc : (w.alloc (.cells #[.string ⟨#[111, 107]⟩, .string ⟨#[100, 101, 97, 100]⟩, .string ⟨#[114, 97, 110, 103, 101]⟩, .string ⟨#[102, 117, 108, 108]⟩, .string ⟨#[99, 111, 117, 110, 116]⟩, .string ⟨#[110, 111, 110, 101]⟩, .string ⟨#[115, 105, 116, 101]⟩] 9)).cell? ⟨w.heap.size, 2, none⟩ = some (.string ⟨#[114, 97, 110, 103, 101]⟩) := by rw [World.cell?_alloc_mark]; rfl
    have CW : Hid (∀ _ : Unit, _) := fun (_ : Unit) => wordAt_yes 2 2 7 w.heap.size _ _ rfl (by omega) hc
    clear hc
    go_enter Try.func7, Try.ntmps7
    go_wp2_with fail
    refine (CW.out ()).mono ?_
    rintro e w' ⟨rfl, rfl⟩
    go_wp2
    go_ret
    exact ⟨rfl, (Below.refl _ _).alloc (Nat.le_refl _) _⟩
  · subst h
    have hc : (w.alloc (.cells #[.string ⟨#[111, 107]⟩, .string ⟨#[100, 101, 97, 100]⟩, .string ⟨#[114, 97, 110, 103, 101]⟩, .string ⟨#[102, 117, 108, 108]⟩, .string ⟨#[99, 111, 117, 110, 116]⟩, .string ⟨#[110, 111, 110, 101]⟩, .string ⟨#[115, 105, 116, 101]⟩] 9)).cell? ⟨w.heap.size, 3, none⟩ = some (.string ⟨#[102, 117, 108, 108]⟩) := by rw [World.cell?_alloc_mark]; rfl
    have CW : Hid (∀ _ : Unit, _) := fun (_ : Unit) => wordAt_yes 3 3 7 w.heap.size _ _ rfl (by omega) hc
    clear hc
    go_enter Try.func7, Try.ntmps7
    go_wp2_with fail
    refine (CW.out ()).mono ?_
    rintro e w' ⟨rfl, rfl⟩
    go_wp2
    go_ret
    exact ⟨rfl, (Below.refl _ _).alloc (Nat.le_refl _) _⟩
  · subst h
    have hc : (w.alloc (.cells #[.string ⟨#[111, 107]⟩, .string ⟨#[100, 101, 97, 100]⟩, .string ⟨#[114, 97, 110, 103, 101]⟩, .string ⟨#[102, 117, 108, 108]⟩, .string ⟨#[99, 111, 117, 110, 116]⟩, .string ⟨#[110, 111, 110, 101]⟩, .string ⟨#[115, 105, 116, 101]⟩] 9)).cell? ⟨w.heap.size, 4, none⟩ = some (.string ⟨#[99, 111, 117, 110, 116]⟩) := by rw [World.cell?_alloc_mark]; rfl
    have CW : Hid (∀ _ : Unit, _) := fun (_ : Unit) => wordAt_yes 4 4 7 w.heap.size _ _ rfl (by omega) hc
    clear hc
    go_enter Try.func7, Try.ntmps7
    go_wp2_with fail
    refine (CW.out ()).mono ?_
    rintro e w' ⟨rfl, rfl⟩
    go_wp2
    go_ret
    exact ⟨rfl, (Below.refl _ _).alloc (Nat.le_refl _) _⟩
  · subst h
    have hc : (w.alloc (.cells #[.string ⟨#[111, 107]⟩, .string ⟨#[100, 101, 97, 100]⟩, .string ⟨#[114, 97, 110, 103, 101]⟩, .string ⟨#[102, 117, 108, 108]⟩, .string ⟨#[99, 111, 117, 110, 116]⟩, .string ⟨#[110, 111, 110, 101]⟩, .string ⟨#[115, 105, 116, 101]⟩] 9)).cell? ⟨w.heap.size, 5, none⟩ = some (.string ⟨#[110, 111, 110, 101]⟩) := by rw [World.cell?_alloc_mark]; rfl
    have CW : Hid (∀ _ : Unit, _) := fun (_ : Unit) => wordAt_yes 5 5 7 w.heap.size _ _ rfl (by omega) hc
    clear hc
    go_enter Try.func7, Try.ntmps7
    go_wp2_with fail
    refine (CW.out ()).mono ?_
    rintro e w' ⟨rfl, rfl⟩
    go_wp2
    go_ret
    exact ⟨rfl, (Below.refl _ _).alloc (Nat.le_refl _) _⟩
  · subst h
    have hc : (w.alloc (.cells #[.string ⟨#[111, 107]⟩, .string ⟨#[100, 101, 97, 100]⟩, .string ⟨#[114, 97, 110, 103, 101]⟩, .string ⟨#[102, 117, 108, 108]⟩, .string ⟨#[99, 111, 117, 110, 116]⟩, .string ⟨#[110, 111, 110, 101]⟩, .string ⟨#[115, 105, 116, 101]⟩] 9)).cell? ⟨w.heap.size, 6, none⟩ = some (.string ⟨#[115, 105, 116, 101]⟩) := by rw [World.cell?_alloc_mark]; rfl
    have CW : Hid (∀ _ : Unit, _) := fun (_ : Unit) => wordAt_yes 6 6 7 w.heap.size _ _ rfl (by omega) hc
    clear hc
    go_enter Try.func7, Try.ntmps7
    go_wp2_with fail
    refine (CW.out ()).mono ?_
    rintro e w' ⟨rfl, rfl⟩
    go_wp2
    go_ret
    exact ⟨rfl, (Below.refl _ _).alloc (Nat.le_refl _) _⟩
  · have CW : Hid (∀ _ : Unit, _) := fun (_ : Unit) => wordAt_no z 7 (some ⟨w.heap.size, 0, none⟩) (w.alloc (.cells #[.string ⟨#[111, 107]⟩, .string ⟨#[100, 101, 97, 100]⟩, .string ⟨#[114, 97, 110, 103, 101]⟩, .string ⟨#[102, 117, 108, 108]⟩, .string ⟨#[99, 111, 117, 110, 116]⟩, .string ⟨#[110, 111, 110, 101]⟩, .string ⟨#[115, 105, 116, 101]⟩] 9)) h
    go_enter Try.func7, Try.ntmps7
    go_wp2_with fail
    refine (CW.out ()).mono ?_
    rintro e w' ⟨rfl, rfl⟩
    go_wp2
    go_ret
    exact ⟨by rw [wordZ_no codeL z (by simp only [codeL, List.length_cons, List.length_nil]; omega)]; rfl, (Below.refl _ _).alloc (Nat.le_refl _) _⟩

end Go.Proofs.Ytjhdnachbahbmaa
