/- What slices.Equal at handles, slices.EqualFunc over impl.sameObj, and impl.SameHeap answer. -/
import Derived.Test.YtjihbmkhifnblabEqWalks
import Derived.Test.YtjihbmkhifnblabWeakEq
namespace Go.Proofs.Ytjihbmkhifnblab
open Go.RowKit
set_option linter.unusedVariables false

theorem eqWk_calls (w : World) (a c : Option Addr) (cap cap2 : Nat) (zs ys : List WeakD) (q : Bool) (h1 : RdW w a zs) (h2 : RdW w c ys) (hz : zs.length ≤ 1048576) (hy : ys.length ≤ 1048576) (hq : q = true ↔ zs = ys) :
    Calls Try.prog 18 #[.slice a zs.length cap, .slice c ys.length cap2] w fun e w' => e = .returned (.bool q) ∧ Below w.heap.size w w' := by
  have HQN : Hid (zs ≠ ys → q = false) := fun hn => by cases q with | false => rfl | true => exact absurd (hq.1 rfl) hn
  have HQ : Hid (zs = ys → q = true) := hq.2
  clear hq
  by_cases hl : zs.length = ys.length
  · have HA : Hid (∀ X : LaterW w, RdW X.on a zs) := fun X => rdW_later h1 X.bel
    have HC : Hid (∀ X : LaterW w, RdW X.on c ys) := fun X => rdW_later h2 X.bel
    have HN : Hid (∀ (j : Nat) (h1 : j < zs.length) (h2 : j < ys.length), zs.take j = ys.take j → _) := fun j h1 h2 h => take_next zs ys j h1 h2 h
    have HT : Hid (zs = ys → ∀ j, zs.take j = ys.take j) := fun h j => take_of_eq h j
    have HF : Hid (zs.take zs.length = ys.take zs.length → zs = ys) := eq_of_takes hl
    obtain ⟨n, hnn⟩ : ∃ n, zs.length = n := ⟨_, rfl⟩
    have Hn : Hid (zs.length = n) := hnn
    have Hm : Hid (ys.length = n) := by show _ = _; omega
    rw [hnn] at hz HF ⊢
    rw [Hm.out]
    clear h1 h2 hnn hl hy
    go_enter Try.func18, Try.ntmps18
    go_wp2
    go_loopw [13] (fun i wr => ∃ j : Nat, j ≤ n ∧ i = .int .i64 j ∧ Hid (zs.take j = ys.take j) ∧ Below w.heap.size w wr) (fun i _ => n - (intOf i).toNat)
    case atStart => exact ⟨0, by omega, rfl, rfl, Below.refl _ _⟩
    case round =>
      obtain ⟨j, hj, rfl, HE, hb⟩ := hrel
      by_cases hlt : j < n
      · have hj2 : j < zs.length := by have := Hn.out; omega
        have hj3 : j < ys.length := by have := Hm.out; omega
        obtain ⟨g, off, rfl, -, -⟩ := HA.out ⟨w, Below.refl _ _⟩ j hj2
        obtain ⟨g2, off2, rfl, -, -⟩ := HC.out ⟨w, Below.refl _ _⟩ j hj3
        have hne := LaterW.some_ wr
        have HZ1 : Hid (∀ X : LaterW wr, WeakAt X.on g (off + j * 2) zs[j]) := fun X => by
          obtain ⟨g', off', e1, -, e2⟩ := HA.out ⟨X.on, hb.trans (X.bel.mono hb.size)⟩ j hj2
          simp only [Option.some.injEq, Addr.mk.injEq, and_true] at e1
          obtain ⟨rfl, rfl⟩ := e1
          exact e2
        have HZ2 : Hid (∀ X : LaterW wr, WeakAt X.on g2 (off2 + j * 2) ys[j]) := fun X => by
          obtain ⟨g', off', e1, -, e2⟩ := HC.out ⟨X.on, hb.trans (X.bel.mono hb.size)⟩ j hj3
          simp only [Option.some.injEq, Addr.mk.injEq, and_true] at e1
          obtain ⟨rfl, rfl⟩ := e1
          exact e2
        have z1 : ∀ X : LaterW wr, X.on.cell? ⟨g, off + j * 2, none⟩ = some (.bool zs[j].used) := fun X => (HZ1.out X).c0
        have z2 : ∀ X : LaterW wr, X.on.cell? ⟨g, off + j * 2 + 1, none⟩ = some (.int .i64 zs[j].target) := fun X => (HZ1.out X).c1
        have y1 : ∀ X : LaterW wr, X.on.cell? ⟨g2, off2 + j * 2, none⟩ = some (.bool ys[j].used) := fun X => (HZ2.out X).c0
        have y2 : ∀ X : LaterW wr, X.on.cell? ⟨g2, off2 + j * 2 + 1, none⟩ = some (.int .i64 ys[j].target) := fun X => (HZ2.out X).c1
        have HN2 : Hid (_ ↔ _) := HN.out j hj2 hj3 HE.out
        clear HZ1 HZ2
        generalize zs[j] = z at *
        generalize ys[j] = y at *
        have hG : ∀ op a b (X : World), (eqGuard op 43 a b (.agg #[.bool z.used, .int .i64 z.target]) (.agg #[.bool y.used, .int .i64 y.target])).run Try.prog X = .ok () X := fun op a b X => guardWeak op a b z y X
        by_cases he : z = y
        · have HE2 : Hid (zs.take (j + 1) = ys.take (j + 1)) := HN2.out.2 he
          subst he
          have hX : ∀ X : World, (binOp .neq 43 (.agg #[.bool z.used, .int .i64 z.target]) (.agg #[.bool z.used, .int .i64 z.target])).run Try.prog X = .ok (.bool false) X := fun X => neqWeak_no z X
          go_wp2
          refine wp_region_later wr (Below.refl _ _) (by kernel_rfl) (by kernel_rfl) ?_
          repeat (go_big_quiet_step (fail))
          refine wpQuiet_nil ?_
          rintro _ ⟨⟨X, hX⟩, rfl⟩
          go_wp2
          go_roundw
          case rel => exact ⟨j + 1, by omega, by go_num, HE2, hb.trans (hX.mono hb.size)⟩
          case measure => simp [intOf]; omega
        · have HR : Hid (q = false) := HQN.out (fun e => he (HN2.out.1 (HT.out e (j + 1))))
          have hX : ∀ X : World, (binOp .neq 43 (.agg #[.bool z.used, .int .i64 z.target]) (.agg #[.bool y.used, .int .i64 y.target])).run Try.prog X = .ok (.bool true) X := fun X => neqWeak_yes z y he X
          go_wp2
          refine wp_region_later wr (Below.refl _ _) (by kernel_rfl) (by kernel_rfl) ?_
          repeat (go_big_quiet_step (fail))
          refine wpQuiet_nil ?_
          rintro _ ⟨⟨X, hX⟩, rfl⟩
          go_wp2
          go_ret
          exact ⟨ret_q HR.out.symm, hb.trans (hX.mono hb.size)⟩
      · obtain rfl : j = n := by omega
        have HR : Hid (q = true) := HQ.out (HF.out HE.out)
        go_wp2
        go_ret
        exact ⟨ret_q HR.out.symm, hb⟩
  · have hd := HQN.out (fun e => hl (by rw [e]))
    subst hd
    have hq : ¬ ((zs.length : Int) = (ys.length : Int)) := by omega
    clear h1 h2
    go_enter Try.func18, Try.ntmps18
    go_wp2
    go_ret
    exact ⟨rfl, Below.refl _ _⟩

end Go.Proofs.Ytjihbmkhifnblab
