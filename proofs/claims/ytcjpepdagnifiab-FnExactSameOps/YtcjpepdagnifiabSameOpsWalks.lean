/- What slices.Equal at operations, impl.SameOps and the specification's SameOps answer. -/
import Derived.Test.YtcjpepdagnifiabOpsWalks
import Derived.Test.YtcjpepdagnifiabEqWalks
import Derived.Laws.StructEq
namespace Go.Proofs.Ytcjpepdagnifiab
open Go.RowKit
set_option linter.unusedVariables false
set_option maxRecDepth 100000

/-- An operation's value, its text as bytes. -/
def opB (k a b c : Int) (t : ByteArray) : Value := .agg #[.int .i64 k, .int .i64 a, .int .i64 b, .int .i64 c, .string t]
theorem neqOpB (k a b c : Int) (t : ByteArray) (k' a' b' c' : Int) (t' : ByteArray) (w : World) : (binOp .neq 31 (opB k a b c t) (opB k' a' b' c' t')).run Try.prog w = .ok (.bool (!(k == k' && (a == a' && (b == b' && (c == c' && t.toList == t'.toList)))))) w := by
  have u3 := Try.underlying3
  have a3 := Try.isAgg3
  have z3 := Try.sizeOf3
  have u2 := Try.underlying9
  have a2 := Try.isAgg9
  have z2 := Try.sizeOf9
  have hS : Try.prog.underlying 31 = some (.struct (Try.prog.fieldsOf 31)) := by kernel_rfl
  have hp : Try.prog.stoodInHeld 31 = false := by kernel_rfl
  unfold opB
  rw [run_neq_struct, show (10000 : Nat) = 9999 + 1 from rfl, run_equalIn_agg w 9999 31 _ _ hS hp]
  simp only [Program.fieldsOf, Try.underlying31]
  go_simp
  by_cases h1 : k = k' <;> by_cases h2 : a = a' <;> by_cases h3 : b = b' <;> by_cases h4 : c = c' <;> by_cases h5 : t.toList = t'.toList <;> simp [h1, h2, h3, h4, h5]
theorem neqOp_no (d : OpD) (w : World) : (binOp .neq 31 (.agg #[.int .i64 d.kind, .int .i64 d.a, .int .i64 d.b, .int .i64 d.c, .string (txt d.site)]) (.agg #[.int .i64 d.kind, .int .i64 d.a, .int .i64 d.b, .int .i64 d.c, .string (txt d.site)])).run Try.prog w = .ok (.bool false) w := by
  have h := neqOpB d.kind d.a d.b d.c (txt d.site) d.kind d.a d.b d.c (txt d.site) w
  unfold opB at h
  rw [h]; simp
theorem neqOp_yes (d e : OpD) (h : d ≠ e) (w : World) : (binOp .neq 31 (.agg #[.int .i64 d.kind, .int .i64 d.a, .int .i64 d.b, .int .i64 d.c, .string (txt d.site)]) (.agg #[.int .i64 e.kind, .int .i64 e.a, .int .i64 e.b, .int .i64 e.c, .string (txt e.site)])).run Try.prog w = .ok (.bool true) w := by
  have hh := neqOpB d.kind d.a d.b d.c (txt d.site) e.kind e.a e.b e.c (txt e.site) w
  unfold opB at hh
  rw [hh]
  have e1 : (d.kind == e.kind && (d.a == e.a && (d.b == e.b && (d.c == e.c && (txt d.site).toList == (txt e.site).toList)))) = false := by
    obtain ⟨k, a, b, c, t⟩ := d
    obtain ⟨k', a', b', c', t'⟩ := e
    simp only
    by_cases h5 : t = t'
    · subst h5
      rw [← Bool.not_eq_true]
      intro hb
      simp only [Bool.and_eq_true, beq_iff_eq] at hb
      obtain ⟨rfl, rfl, rfl, rfl, -⟩ := hb
      exact h rfl
    · rw [txt_beq_ne' h5]; simp
  rw [e1]; rfl
theorem guardOp (op : BinOp) (a b : Operand) (d e : OpD) (w : World) : (eqGuard op 31 a b (.agg #[.int .i64 d.kind, .int .i64 d.a, .int .i64 d.b, .int .i64 d.c, .string (txt d.site)]) (.agg #[.int .i64 e.kind, .int .i64 e.a, .int .i64 e.b, .int .i64 e.c, .string (txt e.site)])).run Try.prog w = .ok () w :=
  run_eqGuard_agg w op 31 a b _ _ (by kernel_rfl)

theorem eqOps_calls (w : World) (a c : Option Addr) (cap cap2 : Nat) (zs ys : List OpD) (q : Bool) (h1 : RdQ w a zs) (h2 : RdQ w c ys) (hz : zs.length ≤ 1048576) (hy : ys.length ≤ 1048576) (hq : q = true ↔ zs = ys) :
    Calls Try.prog 11 #[.slice a zs.length cap, .slice c ys.length cap2] w fun e w' => e = .returned (.bool q) ∧ Below w.heap.size w w' := by
  have HQN : Hid (zs ≠ ys → q = false) := fun hn => by cases q with | false => rfl | true => exact absurd (hq.1 rfl) hn
  have HQ : Hid (zs = ys → q = true) := hq.2
  clear hq
  by_cases hl : zs.length = ys.length
  · have HA : Hid (∀ X : LaterW w, RdQ X.on a zs) := fun X => rdQ_later h1 X.bel
    have HC : Hid (∀ X : LaterW w, RdQ X.on c ys) := fun X => rdQ_later h2 X.bel
    have HN : Hid (∀ (j : Nat) (h1 : j < zs.length) (h2 : j < ys.length), zs.take j = ys.take j → _) := fun j h1 h2 h => take_next zs ys j h1 h2 h
    have HT : Hid (zs = ys → ∀ j, zs.take j = ys.take j) := fun h j => take_of_eq h j
    have HF : Hid (zs.take zs.length = ys.take zs.length → zs = ys) := eq_of_takes hl
    obtain ⟨n, hnn⟩ : ∃ n, zs.length = n := ⟨_, rfl⟩
    have Hn : Hid (zs.length = n) := hnn
    have Hm : Hid (ys.length = n) := by show _ = _; omega
    rw [hnn] at hz HF ⊢
    rw [Hm.out]
    clear h1 h2 hnn hl hy
    go_enter Try.func11, Try.ntmps11
    go_wp2
    go_loopw [13] (fun i wr => ∃ j : Nat, j ≤ n ∧ i = .int .i64 j ∧ Hid (zs.take j = ys.take j) ∧ Below w.heap.size w wr) (fun i _ => n - (intOf i).toNat)
    case atStart => exact ⟨0, by omega, rfl, rfl, Below.refl _ _⟩
    case round =>
      obtain ⟨j, hj, rfl, HE, hb⟩ := hrel
      by_cases hlt : j < n
      · have hj2 : j < zs.length := by have := Hn.out; omega
        have hj3 : j < ys.length := by have := Hm.out; omega
        obtain ⟨g, off, rfl, -, -⟩ := HA.out ⟨w, Below.refl _ _⟩ j hj2
        obtain ⟨g2, off2, rfl, -, -⟩ := HC.out ⟨w, Below.refl _ _⟩ j hj3
        have hne := LaterW.some_ wr
        have HZ1 : Hid (∀ X : LaterW wr, OpLie X.on g (off + j * 5) zs[j]) := fun X => by
          obtain ⟨g', off', e1, -, e2⟩ := HA.out ⟨X.on, hb.trans (X.bel.mono hb.size)⟩ j hj2
          simp only [Option.some.injEq, Addr.mk.injEq, and_true] at e1
          obtain ⟨rfl, rfl⟩ := e1
          exact e2
        have HZ2 : Hid (∀ X : LaterW wr, OpLie X.on g2 (off2 + j * 5) ys[j]) := fun X => by
          obtain ⟨g', off', e1, -, e2⟩ := HC.out ⟨X.on, hb.trans (X.bel.mono hb.size)⟩ j hj3
          simp only [Option.some.injEq, Addr.mk.injEq, and_true] at e1
          obtain ⟨rfl, rfl⟩ := e1
          exact e2
        have z1 : ∀ X : LaterW wr, X.on.cell? ⟨g, off + j * 5, none⟩ = some (.int .i64 zs[j].kind) := fun X => (HZ1.out X).c0
        have z2 : ∀ X : LaterW wr, X.on.cell? ⟨g, off + j * 5 + 1, none⟩ = some (.int .i64 zs[j].a) := fun X => (HZ1.out X).c1
        have z3 : ∀ X : LaterW wr, X.on.cell? ⟨g, off + j * 5 + 2, none⟩ = some (.int .i64 zs[j].b) := fun X => (HZ1.out X).c2
        have z4 : ∀ X : LaterW wr, X.on.cell? ⟨g, off + j * 5 + 3, none⟩ = some (.int .i64 zs[j].c) := fun X => (HZ1.out X).c3
        have z5 : ∀ X : LaterW wr, X.on.cell? ⟨g, off + j * 5 + 4, none⟩ = some (.string (txt zs[j].site)) := fun X => (HZ1.out X).c4
        have y1 : ∀ X : LaterW wr, X.on.cell? ⟨g2, off2 + j * 5, none⟩ = some (.int .i64 ys[j].kind) := fun X => (HZ2.out X).c0
        have y2 : ∀ X : LaterW wr, X.on.cell? ⟨g2, off2 + j * 5 + 1, none⟩ = some (.int .i64 ys[j].a) := fun X => (HZ2.out X).c1
        have y3 : ∀ X : LaterW wr, X.on.cell? ⟨g2, off2 + j * 5 + 2, none⟩ = some (.int .i64 ys[j].b) := fun X => (HZ2.out X).c2
        have y4 : ∀ X : LaterW wr, X.on.cell? ⟨g2, off2 + j * 5 + 3, none⟩ = some (.int .i64 ys[j].c) := fun X => (HZ2.out X).c3
        have y5 : ∀ X : LaterW wr, X.on.cell? ⟨g2, off2 + j * 5 + 4, none⟩ = some (.string (txt ys[j].site)) := fun X => (HZ2.out X).c4
        have HN2 : Hid (_ ↔ _) := HN.out j hj2 hj3 HE.out
        clear HZ1 HZ2
        generalize zs[j] = z at *
        generalize ys[j] = y at *
        have hG : ∀ op a b (X : World), (eqGuard op 31 a b (.agg #[.int .i64 z.kind, .int .i64 z.a, .int .i64 z.b, .int .i64 z.c, .string (txt z.site)]) (.agg #[.int .i64 y.kind, .int .i64 y.a, .int .i64 y.b, .int .i64 y.c, .string (txt y.site)])).run Try.prog X = .ok () X := fun op a b X => guardOp op a b z y X
        by_cases he : z = y
        · have HE2 : Hid (zs.take (j + 1) = ys.take (j + 1)) := HN2.out.2 he
          subst he
          have hX : ∀ X : World, (binOp .neq 31 (.agg #[.int .i64 z.kind, .int .i64 z.a, .int .i64 z.b, .int .i64 z.c, .string (txt z.site)]) (.agg #[.int .i64 z.kind, .int .i64 z.a, .int .i64 z.b, .int .i64 z.c, .string (txt z.site)])).run Try.prog X = .ok (.bool false) X := fun X => neqOp_no z X
          go_wp2
          refine wp_region_later wr (Below.refl _ _) (by kernel_rfl) (by kernel_rfl) ?_
          repeat (go_big_quiet_step (fail))
          refine wpQuiet_nil ?_
          rintro _ ⟨⟨X, hX⟩, rfl⟩
          go_wp2
          go_roundw
          case rel => exact ⟨j + 1, by omega, by go_num, HE2, hb.trans (hX.mono hb.size)⟩
          case measure => simp [intOf]; omega
        · have HR : Hid (q = false) := HQN.out (fun e => he (HN2.out.1 (HT.out e (j + 1))))
          have hX : ∀ X : World, (binOp .neq 31 (.agg #[.int .i64 z.kind, .int .i64 z.a, .int .i64 z.b, .int .i64 z.c, .string (txt z.site)]) (.agg #[.int .i64 y.kind, .int .i64 y.a, .int .i64 y.b, .int .i64 y.c, .string (txt y.site)])).run Try.prog X = .ok (.bool true) X := fun X => neqOp_yes z y he X
          go_wp2
          refine wp_region_later wr (Below.refl _ _) (by kernel_rfl) (by kernel_rfl) ?_
          repeat (go_big_quiet_step (fail))
          refine wpQuiet_nil ?_
          rintro _ ⟨⟨X, hX⟩, rfl⟩
          go_wp2
          go_ret
          exact ⟨ret_q HR.out.symm, hb.trans (hX.mono hb.size)⟩
      · obtain rfl : j = n := by omega
        have HR : Hid (q = true) := HQ.out (HF.out HE.out)
        go_wp2
        go_ret
        exact ⟨ret_q HR.out.symm, hb⟩
  · have hd := HQN.out (fun e => hl (by rw [e]))
    subst hd
    have hq : ¬ ((zs.length : Int) = (ys.length : Int)) := by omega
    clear h1 h2
    go_enter Try.func11, Try.ntmps11
    go_wp2
    go_ret
    exact ⟨rfl, Below.refl _ _⟩

theorem iSameOps_calls (w : World) (a c : Option Addr) (cap cap2 : Nat) (zs ys : List OpD) (q : Bool) (h1 : RdQ w a zs) (h2 : RdQ w c ys) (hz : zs.length ≤ 1048576) (hy : ys.length ≤ 1048576) (hq : q = true ↔ zs = ys) :
    Calls Try.prog 7 #[.slice a zs.length cap, .slice c ys.length cap2] w fun e w' => e = .returned (.bool q) ∧ Below w.heap.size w w' := by
  have HC : Hid (∀ _ : Unit, _) := fun (_ : Unit) => eqOps_calls w a c cap cap2 zs ys q h1 h2 hz hy hq
  clear h1 h2 hz hy hq
  go_enter Try.func7, Try.ntmps7
  go_wp2_with fail
  refine (HC.out ()).mono ?_
  rintro e w1 ⟨rfl, b1⟩
  go_wp2
  go_ret
  exact ⟨rfl, b1⟩

theorem sSameOps_calls (w : World) (a c : Option Addr) (cap cap2 : Nat) (zs ys : List OpD) (q : Bool) (h1 : RdQ w a zs) (h2 : RdQ w c ys) (hz : zs.length ≤ 1048576) (hy : ys.length ≤ 1048576) (hq : q = true ↔ zs = ys) :
    Calls Try.prog 5 #[.slice a zs.length cap, .slice c ys.length cap2] w fun e w' => e = .returned (.bool q) ∧ Below w.heap.size w w' := by
  have HQN : Hid (zs ≠ ys → q = false) := fun hn => by cases q with | false => rfl | true => exact absurd (hq.1 rfl) hn
  have HQ : Hid (zs = ys → q = true) := hq.2
  clear hq
  by_cases hl : zs.length = ys.length
  · have HA : Hid (∀ X : LaterW w, RdQ X.on a zs) := fun X => rdQ_later h1 X.bel
    have HC : Hid (∀ X : LaterW w, RdQ X.on c ys) := fun X => rdQ_later h2 X.bel
    have HN : Hid (∀ (j : Nat) (h1 : j < zs.length) (h2 : j < ys.length), zs.take j = ys.take j → _) := fun j h1 h2 h => take_next zs ys j h1 h2 h
    have HT : Hid (zs = ys → ∀ j, zs.take j = ys.take j) := fun h j => take_of_eq h j
    have HF : Hid (zs.take zs.length = ys.take zs.length → zs = ys) := eq_of_takes hl
    obtain ⟨n, hnn⟩ : ∃ n, zs.length = n := ⟨_, rfl⟩
    have Hn : Hid (zs.length = n) := hnn
    have Hm : Hid (ys.length = n) := by show _ = _; omega
    rw [hnn] at hz HF ⊢
    rw [Hm.out]
    clear h1 h2 hnn hl hy
    go_enter Try.func5, Try.ntmps5
    go_wp2
    go_loopw [5] (fun i wr => ∃ j : Nat, j ≤ n ∧ i = .int .i64 j ∧ Hid (zs.take j = ys.take j) ∧ Below w.heap.size w wr) (fun i _ => n - (intOf i).toNat)
    case atStart => exact ⟨0, by omega, rfl, rfl, Below.refl _ _⟩
    case round =>
      obtain ⟨j, hj, rfl, HE, hb⟩ := hrel
      by_cases hlt : j < n
      · have hj2 : j < zs.length := by have := Hn.out; omega
        have hj3 : j < ys.length := by have := Hm.out; omega
        obtain ⟨g, off, rfl, -, -⟩ := HA.out ⟨w, Below.refl _ _⟩ j hj2
        obtain ⟨g2, off2, rfl, -, -⟩ := HC.out ⟨w, Below.refl _ _⟩ j hj3
        have hne := LaterW.some_ wr
        have HZ1 : Hid (∀ X : LaterW wr, OpLie X.on g (off + j * 5) zs[j]) := fun X => by
          obtain ⟨g', off', e1, -, e2⟩ := HA.out ⟨X.on, hb.trans (X.bel.mono hb.size)⟩ j hj2
          simp only [Option.some.injEq, Addr.mk.injEq, and_true] at e1
          obtain ⟨rfl, rfl⟩ := e1
          exact e2
        have HZ2 : Hid (∀ X : LaterW wr, OpLie X.on g2 (off2 + j * 5) ys[j]) := fun X => by
          obtain ⟨g', off', e1, -, e2⟩ := HC.out ⟨X.on, hb.trans (X.bel.mono hb.size)⟩ j hj3
          simp only [Option.some.injEq, Addr.mk.injEq, and_true] at e1
          obtain ⟨rfl, rfl⟩ := e1
          exact e2
        have z1 : ∀ X : LaterW wr, X.on.cell? ⟨g, off + j * 5, none⟩ = some (.int .i64 zs[j].kind) := fun X => (HZ1.out X).c0
        have z2 : ∀ X : LaterW wr, X.on.cell? ⟨g, off + j * 5 + 1, none⟩ = some (.int .i64 zs[j].a) := fun X => (HZ1.out X).c1
        have z3 : ∀ X : LaterW wr, X.on.cell? ⟨g, off + j * 5 + 2, none⟩ = some (.int .i64 zs[j].b) := fun X => (HZ1.out X).c2
        have z4 : ∀ X : LaterW wr, X.on.cell? ⟨g, off + j * 5 + 3, none⟩ = some (.int .i64 zs[j].c) := fun X => (HZ1.out X).c3
        have z5 : ∀ X : LaterW wr, X.on.cell? ⟨g, off + j * 5 + 4, none⟩ = some (.string (txt zs[j].site)) := fun X => (HZ1.out X).c4
        have y1 : ∀ X : LaterW wr, X.on.cell? ⟨g2, off2 + j * 5, none⟩ = some (.int .i64 ys[j].kind) := fun X => (HZ2.out X).c0
        have y2 : ∀ X : LaterW wr, X.on.cell? ⟨g2, off2 + j * 5 + 1, none⟩ = some (.int .i64 ys[j].a) := fun X => (HZ2.out X).c1
        have y3 : ∀ X : LaterW wr, X.on.cell? ⟨g2, off2 + j * 5 + 2, none⟩ = some (.int .i64 ys[j].b) := fun X => (HZ2.out X).c2
        have y4 : ∀ X : LaterW wr, X.on.cell? ⟨g2, off2 + j * 5 + 3, none⟩ = some (.int .i64 ys[j].c) := fun X => (HZ2.out X).c3
        have y5 : ∀ X : LaterW wr, X.on.cell? ⟨g2, off2 + j * 5 + 4, none⟩ = some (.string (txt ys[j].site)) := fun X => (HZ2.out X).c4
        have HN2 : Hid (_ ↔ _) := HN.out j hj2 hj3 HE.out
        clear HZ1 HZ2
        generalize zs[j] = z at *
        generalize ys[j] = y at *
        have hG : ∀ op a b (X : World), (eqGuard op 31 a b (.agg #[.int .i64 z.kind, .int .i64 z.a, .int .i64 z.b, .int .i64 z.c, .string (txt z.site)]) (.agg #[.int .i64 y.kind, .int .i64 y.a, .int .i64 y.b, .int .i64 y.c, .string (txt y.site)])).run Try.prog X = .ok () X := fun op a b X => guardOp op a b z y X
        by_cases he : z = y
        · have HE2 : Hid (zs.take (j + 1) = ys.take (j + 1)) := HN2.out.2 he
          subst he
          have hX : ∀ X : World, (binOp .neq 31 (.agg #[.int .i64 z.kind, .int .i64 z.a, .int .i64 z.b, .int .i64 z.c, .string (txt z.site)]) (.agg #[.int .i64 z.kind, .int .i64 z.a, .int .i64 z.b, .int .i64 z.c, .string (txt z.site)])).run Try.prog X = .ok (.bool false) X := fun X => neqOp_no z X
          go_wp2
          refine wp_region_later wr (Below.refl _ _) (by kernel_rfl) (by kernel_rfl) ?_
          repeat (go_big_quiet_step (fail))
          refine wpQuiet_nil ?_
          rintro _ ⟨⟨X, hX⟩, rfl⟩
          go_wp2
          go_roundw
          case rel => exact ⟨j + 1, by omega, by go_num, HE2, hb.trans (hX.mono hb.size)⟩
          case measure => simp [intOf]; omega
        · have HR : Hid (q = false) := HQN.out (fun e => he (HN2.out.1 (HT.out e (j + 1))))
          have hX : ∀ X : World, (binOp .neq 31 (.agg #[.int .i64 z.kind, .int .i64 z.a, .int .i64 z.b, .int .i64 z.c, .string (txt z.site)]) (.agg #[.int .i64 y.kind, .int .i64 y.a, .int .i64 y.b, .int .i64 y.c, .string (txt y.site)])).run Try.prog X = .ok (.bool true) X := fun X => neqOp_yes z y he X
          go_wp2
          refine wp_region_later wr (Below.refl _ _) (by kernel_rfl) (by kernel_rfl) ?_
          repeat (go_big_quiet_step (fail))
          refine wpQuiet_nil ?_
          rintro _ ⟨⟨X, hX⟩, rfl⟩
          go_wp2
          go_ret
          exact ⟨ret_q HR.out.symm, hb.trans (hX.mono hb.size)⟩
      · obtain rfl : j = n := by omega
        have HR : Hid (q = true) := HQ.out (HF.out HE.out)
        go_wp2
        go_ret
        exact ⟨ret_q HR.out.symm, hb⟩
  · have hd := HQN.out (fun e => hl (by rw [e]))
    subst hd
    have hq : ¬ ((zs.length : Int) = (ys.length : Int)) := by omega
    clear h1 h2
    go_enter Try.func5, Try.ntmps5
    go_wp2
    go_ret
    exact ⟨rfl, Below.refl _ _⟩

end Go.Proofs.Ytcjpepdagnifiab
