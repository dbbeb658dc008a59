/- What slices.Equal at numbers, texts and handles, impl.sameObj, and slices.EqualFunc over it answer. -/
import Derived.Test.YtebgngofnmcklabSSameWalks
import Derived.Test.YtebgngofnmcklabAnyOps
namespace Go.Proofs.Ytebgngofnmcklab
open Go.RowKit
set_option linter.unusedVariables false

theorem txt_beq_ne' {y x : List UInt8} (h : y ≠ x) : ((txt y).toList == (txt x).toList) = false := by
  rw [beq_eq_false_iff_ne]
  intro e
  unfold txt at e
  rw [ByteArray.toList_mk, ByteArray.toList_mk] at e
  exact h (by simpa using e)

/-- Two lists are alike from some place on. -/
theorem drop_eq_step {α : Type} (zs ys : List α) (j : Nat) (h1 : j < zs.length) (h2 : j < ys.length) : zs.drop j = ys.drop j ↔ (zs[j] = ys[j] ∧ zs.drop (j + 1) = ys.drop (j + 1)) := by
  rw [List.drop_eq_getElem_cons h1, List.drop_eq_getElem_cons h2, List.cons.injEq]

theorem eqStr_calls (w : World) (a c : Option Addr) (cap cap2 : Nat) (zs ys : List (List UInt8)) (h1 : RdS w a zs) (h2 : RdS w c ys) (hn : zs.length ≤ 9223372036854775806) (hm : ys.length ≤ 9223372036854775806) :
    Calls Try.prog 11 #[.slice a zs.length cap, .slice c ys.length cap2] w fun e w' => e = .returned (.bool (decide (zs = ys))) ∧ Below w.heap.size w w' := by
  by_cases hl : zs.length = ys.length
  · have HA : Hid (∀ X : LaterW w, RdS X.on a zs) := fun X => rdS_later h1 X.bel
    have HC : Hid (∀ X : LaterW w, RdS X.on c ys) := fun X => rdS_later h2 X.bel
    have H0 : Hid (decide (zs = ys) = decide (zs.drop 0 = ys.drop 0)) := rfl
    have HS : Hid (∀ (j : Nat) (h1 : j < zs.length) (h2 : j < ys.length), (zs.drop j = ys.drop j) ↔ _) := fun j h1 h2 => drop_eq_step zs ys j h1 h2
    have HE : Hid (zs.drop zs.length = ys.drop zs.length) := by show _ = _; rw [List.drop_length, hl, List.drop_length]
    generalize decide (zs = ys) = b at *
    obtain ⟨n, hnn⟩ : ∃ n, zs.length = n := ⟨_, rfl⟩
    have Hn : Hid (zs.length = n) := hnn
    have Hm : Hid (ys.length = n) := by show _ = _; omega
    rw [hnn] at hn HE ⊢
    rw [Hm.out]
    clear h1 h2 hnn hl hm
    go_enter Try.func11, Try.ntmps11
    go_wp2
    go_loopw [13] (fun i wr => ∃ j : Nat, j ≤ n ∧ i = .int .i64 j ∧ Hid (b = decide (zs.drop j = ys.drop j)) ∧ Below w.heap.size w wr) (fun i _ => n - (intOf i).toNat)
    case atStart => exact ⟨0, by omega, rfl, H0, Below.refl _ _⟩
    case round =>
      obtain ⟨j, hj, rfl, HJ, hb⟩ := hrel
      by_cases hlt : j < n
      · have hj2 : j < zs.length := by have := Hn.out; omega
        have hj3 : j < ys.length := by have := Hm.out; omega
        obtain ⟨g, off, rfl, -, -⟩ := HA.out ⟨w, Below.refl _ _⟩ j hj2
        obtain ⟨g2, off2, rfl, -, -⟩ := HC.out ⟨w, Below.refl _ _⟩ j hj3
        have hne := LaterW.some_ wr
        have z1 : ∀ X : LaterW wr, X.on.cell? ⟨g, off + j, none⟩ = some (.string (txt zs[j])) := fun X => by
          obtain ⟨g', off', e1, -, e2⟩ := HA.out ⟨X.on, hb.trans (X.bel.mono hb.size)⟩ j hj2
          simp only [Option.some.injEq, Addr.mk.injEq, and_true] at e1
          obtain ⟨rfl, rfl⟩ := e1
          exact e2
        have z2 : ∀ X : LaterW wr, X.on.cell? ⟨g2, off2 + j, none⟩ = some (.string (txt ys[j])) := fun X => by
          obtain ⟨g', off', e1, -, e2⟩ := HC.out ⟨X.on, hb.trans (X.bel.mono hb.size)⟩ j hj3
          simp only [Option.some.injEq, Addr.mk.injEq, and_true] at e1
          obtain ⟨rfl, rfl⟩ := e1
          exact e2
        have HS2 : Hid (_ ↔ _) := HS.out j hj2 hj3
        generalize zs[j] = z at *
        generalize ys[j] = y at *
        by_cases he : z = y
        · have HR : Hid (b = decide (zs.drop (j + 1) = ys.drop (j + 1))) := by show _ = _; rw [HJ.out, decide_eq_decide, HS2.out]; exact ⟨fun h => h.2, fun h => ⟨he, h⟩⟩
          subst he
          go_wp2
          refine wp_region_later wr (Below.refl _ _) (by kernel_rfl) (by kernel_rfl) ?_
          repeat (go_big_quiet_step (fail))
          refine wpQuiet_nil ?_
          rintro _ ⟨⟨X, hX⟩, rfl⟩
          go_wp2
          go_roundw
          case rel => exact ⟨j + 1, by omega, by go_num, HR, hb.trans (hX.mono hb.size)⟩
          case measure => simp [intOf]; omega
        · have HR : Hid (b = false) := by show _ = _; rw [HJ.out, decide_eq_false (fun h => he (HS2.out.1 h).1)]
          have hq : ((txt z).toList == (txt y).toList) = false := txt_beq_ne' he
          go_wp2
          refine wp_region_later wr (Below.refl _ _) (by kernel_rfl) (by kernel_rfl) ?_
          repeat (go_big_quiet_step (fail))
          refine wpQuiet_nil ?_
          rintro _ ⟨⟨X, hX⟩, rfl⟩
          go_wp2
          go_ret
          exact ⟨ret_q HR.out.symm, hb.trans (hX.mono hb.size)⟩
      · obtain rfl : j = n := by omega
        have HR : Hid (b = true) := by show _ = _; rw [HJ.out]; exact decide_eq_true HE.out
        go_wp2
        go_ret
        exact ⟨ret_q HR.out.symm, hb⟩
  · have hd : decide (zs = ys) = false := decide_eq_false (fun e => hl (by rw [e]))
    rw [hd]
    have hq : ¬ ((zs.length : Int) = (ys.length : Int)) := by omega
    clear h1 h2 hd
    go_enter Try.func11, Try.ntmps11
    go_wp2
    go_ret
    exact ⟨rfl, Below.refl _ _⟩

end Go.Proofs.Ytebgngofnmcklab
