/- What impl.emptyObj makes: slices.Repeat at one -1, three times. -/
import Derived.Test.YtjhdnachbahbmaaHeapBase
import Derived.Laws.CopyOwn
namespace Go.Proofs.Ytjhdnachbahbmaa
open Go.RowKit
set_option linter.unusedVariables false

set_option maxRecDepth 100000 in
theorem mul64_13 (w : World) : Calls Try.prog 56 #[.int .u64 1, .int .u64 3] w fun e w' => e = .returned (.tuple #[.int .u64 0, .int .u64 3]) ∧ w' = w := by
  have h1 : bits BinOp.and IntKind.u64 1 4294967295 = 1 := by kernel_rfl
  have h2 : bits BinOp.and IntKind.u64 3 4294967295 = 3 := by kernel_rfl
  have h3 : bits BinOp.and IntKind.u64 0 4294967295 = 0 := by kernel_rfl
  have h4 : IntKind.u64.wrap 3 = 3 := by kernel_rfl
  have h5 : IntKind.u64.wrap 0 = 0 := by kernel_rfl
  go_enter Try.func56, Try.ntmps56
  go_wp2
  go_ret2
  exact ⟨rfl, rfl⟩

set_option maxRecDepth 100000 in
theorem mul_13 (w : World) : Calls Try.prog 38 #[.int .u64 1, .int .u64 3] w fun e w' => e = .returned (.tuple #[.int .u64 0, .int .u64 3]) ∧ w' = w := by
  go_enter Try.func38, Try.ntmps38
  go_wp2_with fail
  refine (mul64_13 _).mono ?_
  rintro e w1 ⟨rfl, hw1⟩
  subst hw1
  go_wp2
  go_ret2
  exact ⟨rfl, rfl⟩

/-- A block that holds just these numbers. -/
def RowI (w : World) (G : Nat) (zs : List Int) : Prop := w.heap[G]? = some (.cells (zs.map intV).toArray 3 (0, 0))
theorem rowI_of {w : World} {B G n : Nat} {zs : List Int} (h : ownI w B (.slice (some ⟨G, 0, none⟩) n n) zs) (hn : n = zs.length) : RowI w G zs := by
  subst hn
  rcases h with ⟨h1, ⟨h2, _⟩ | ⟨g, cap, cur, h2, h3, h4, h5, h6, h7, h8⟩⟩
  · cases h2
  · injection h2 with e1 e2 e3
    injection e1 with e1
    injection e1 with e1 _ _
    subst e1 e3
    unfold RowI
    rw [h4, ← h8, List.take_of_length_le (by rw [Array.length_toList, h7]; omega)]
theorem rowI_own {w : World} {B G n : Nat} {zs : List Int} (h : RowI w G zs) (hB : B ≤ G) (hl : zs.length ≤ maxLen) (hn : n = zs.length) : ownI w B (.slice (some ⟨G, 0, none⟩) n n) zs := by
  subst hn
  refine ⟨by simp, .inr ⟨G, zs.length, _, rfl, hB, h, Nat.le_refl _, hl, by simp, by rw [Nat.mul_one]; exact List.take_of_length_le (by simp)⟩⟩
theorem info_int1 : (Try.prog.info? 3).map (·.size) = some 1 := by kernel_rfl
theorem copyI_run {w : World} {G : Nat} {zs : List Int} (h : RowI w G zs) (off dLen dCap : Nat) (ad : Addr) (sLen sCap : Nat) (Y : List Int) (hY : Y.length = Nat.min sLen dLen) (hsrc : ∀ j u, (Y.map intV)[j]? = some u → w.cell? (ad.add j) = some u) (hfit : off + Y.length ≤ zs.length) :
    ∃ w1, (Builtin.copy_ #[28, 28] 3 #[.slice (some ⟨G, off, none⟩) dLen dCap, .slice (some ad) sLen sCap]).run Try.prog w = .ok (.int .i64 (Y.length : Int)) w1 ∧ RowI w1 G (zs.take off ++ Y ++ zs.drop (off + Y.length)) ∧ w1.heap.size = w.heap.size ∧ ∀ C w0, Below C w0 w → C ≤ G → Below C w0 w1 := by
  have hr := run_copy_row (P := Try.prog) w 28 28 3 3 G off dLen dCap ad sLen sCap _ 3 (Y.map intV) Try.underlying28 info_int1 h (by rw [List.length_map]; exact hY) hsrc (by simp; omega) (by intro v hv; obtain ⟨b, _, rfl⟩ := List.mem_map.1 hv; rfl)
  rw [List.length_map] at hr
  refine ⟨_, hr, ?_, by simp [World.setRow], fun C w0 hb hC => below_setRow hb hC _⟩
  unfold RowI
  rw [setRow_heap w G _ _ _ _ h]
  simp
theorem rowI_cell {w : World} {G : Nat} {zs : List Int} (h : RowI w G zs) (j : Nat) (u : Value) (hj : (zs.map intV)[j]? = some u) : w.cell? (Addr.add ⟨G, 0, none⟩ j) = some u := by
  have ea : (Addr.add ⟨G, 0, none⟩ j) = ⟨G, j, none⟩ := by unfold Addr.add; split <;> simp_all
  rw [ea]
  simp only [World.cell?, show w.heap[G]? = _ from h, List.getElem?_toArray]
  exact hj

set_option maxRecDepth 100000 in
theorem repeat3_calls (w : World) (g : Nat) (hg : w.cell? ⟨g, 0, none⟩ = some (.int .i64 (-1))) (hl : g < w.heap.size) :
    Calls Try.prog 18 #[.slice (some ⟨g, 0, none⟩) 1 1, .int .i64 3] w fun e w' => ∃ f, e = .returned f ∧ ownI w' w.heap.size f [-1, -1, -1] ∧ Below w.heap.size w w' := by
  obtain ⟨u, hmk, O1, B1⟩ := make_ints 3 (by omega) w
  have hmk : (Instr.makeSlice 28 (.int .i64 3) (.int .i64 3)).run Try.prog w = .ok (.slice (some ⟨w.heap.size, 0, none⟩) 3 3) u := hmk
  have R1 := rowI_of O1 rfl
  obtain ⟨u2, hcp, R2, s2, b2⟩ := copyI_run R1 0 3 3 ⟨g, 0, none⟩ 1 1 [-1] rfl (by
    intro j x hj
    match j, hj with
    | 0, hj =>
      have e : some (intV (-1)) = some x := hj
      rw [← e, show (Addr.add ⟨g, 0, none⟩ 0) = ⟨g, 0, none⟩ from rfl, B1.cell (p := ⟨g, 0, none⟩) hl]; exact hg
    | j + 1, hj => simp at hj) (by decide)
  have hcp : (Builtin.copy_ #[28, 28] 3 #[.slice (some ⟨w.heap.size, 0, none⟩) 3 3, .slice (some ⟨g, 0, none⟩) 1 1]).run Try.prog u = .ok (.int .i64 1) u2 := hcp
  have H2 : Hid (RowI u2 w.heap.size [-1, 0, 0]) := R2
  have B2 := b2 _ _ B1 (Nat.le_refl _)
  have S1 : Hid (∀ X, RowI X w.heap.size [-1, 0, 0] → _) := fun X hX => copyI_run hX 1 2 2 ⟨w.heap.size, 0, none⟩ 1 3 [-1] rfl (fun j x hj => rowI_cell hX j x (by match j, hj with | 0, hj => exact hj | j + 1, hj => simp at hj)) (by decide)
  have S2 : Hid (∀ X, RowI X w.heap.size [-1, -1, 0] → _) := fun X hX => copyI_run hX 2 1 1 ⟨w.heap.size, 0, none⟩ 2 3 [-1] rfl (fun j x hj => rowI_cell hX j x (by match j, hj with | 0, hj => exact hj | j + 1, hj => simp at hj)) (by decide)
  clear R1 R2 O1 b2 s2 hl hg
  go_enter Try.func18, Try.ntmps18
  go_wp2_with fail
  refine (mul_13 _).mono ?_
  rintro e w1 ⟨rfl, hw1⟩
  subst hw1
  go_wp2
  go_loopw [8] (fun n wr => ∃ k : Nat, n = .int .i64 (k : Int) ∧ ((k = 1 ∧ Hid (RowI wr w1.heap.size [-1, 0, 0])) ∨ (k = 2 ∧ Hid (RowI wr w1.heap.size [-1, -1, 0])) ∨ (k = 3 ∧ Hid (RowI wr w1.heap.size [-1, -1, -1]))) ∧ Below w1.heap.size w1 wr) (fun n _ => 3 - (intOf n).toNat)
  case atStart => exact ⟨1, rfl, .inl ⟨rfl, H2⟩, B2⟩
  case round =>
    obtain ⟨k, rfl, hk | hk | hk, hb⟩ := hrel
    · obtain ⟨rfl, HR⟩ := hk
      obtain ⟨u3, hcp3, R3, s3, b3⟩ := S1.out wr.drew HR.out
      have hcp3 : (Builtin.copy_ #[28, 28] 3 #[.slice (some ⟨w1.heap.size, 1, none⟩) 2 2, .slice (some ⟨w1.heap.size, 0, none⟩) 1 3]).run Try.prog wr.drew = .ok (.int .i64 1) u3 := hcp3
      have H3 : Hid (RowI u3 w1.heap.size [-1, -1, 0]) := R3
      have B3 := b3 _ _ hb.drew (Nat.le_refl _)
      clear R3 b3 s3
      go_wp2
      go_region
      all_goals
        go_wp2
        go_roundw
        case rel => exact ⟨2, by go_num, .inr (.inl ⟨rfl, H3⟩), B3⟩
        case measure => simp [intOf]
    · obtain ⟨rfl, HR⟩ := hk
      obtain ⟨u3, hcp3, R3, s3, b3⟩ := S2.out wr.drew HR.out
      have hcp3 : (Builtin.copy_ #[28, 28] 3 #[.slice (some ⟨w1.heap.size, 2, none⟩) 1 1, .slice (some ⟨w1.heap.size, 0, none⟩) 2 3]).run Try.prog wr.drew = .ok (.int .i64 1) u3 := hcp3
      have H3 : Hid (RowI u3 w1.heap.size [-1, -1, -1]) := R3
      have B3 := b3 _ _ hb.drew (Nat.le_refl _)
      clear R3 b3 s3
      go_wp2
      go_region
      all_goals
        go_wp2
        go_roundw
        case rel => exact ⟨3, by go_num, .inr (.inr ⟨rfl, H3⟩), B3⟩
        case measure => simp [intOf]
    · obtain ⟨rfl, HR⟩ := hk
      go_wp2
      go_ret
      exact ⟨_, rfl, rowI_own HR.out (Nat.le_refl _) (by decide) rfl, hb⟩

/-- A new block, in every later world. -/
theorem blk_kept (w : World) (t : TypeId) (x : Array Value) (X : World) (hb : Below (w.heap.size + 1) (w.alloc (.cells x t)) X) :
    (∀ k, X.cell? ⟨w.heap.size, k, none⟩ = x[k]?) ∧ ∀ k, X.frozen? ⟨w.heap.size, k, none⟩ = false := by
  refine ⟨fun k => ?_, fun k => ?_⟩
  · rw [hb.cell (p := ⟨w.heap.size, k, none⟩) (by show w.heap.size < _; omega), World.cell?_alloc_mark]
  · rw [hb.frozen (p := ⟨w.heap.size, k, none⟩) (by show w.heap.size < _; omega), World.frozen?_alloc_mark]; simp

/-- What a slot has when nothing is in it. -/
def emptyD (gen : Int) : ObjD := ⟨false, gen, 0, 0, 0, 0, [-1, -1, -1], false⟩

set_option maxRecDepth 100000 in
theorem emptyObj_calls (gen : Int) (w : World) :
    Calls Try.prog 13 #[.int .i64 gen] w fun e w' => ∃ f, e = .returned (objV (emptyD gen) f) ∧ ownI w' w.heap.size f [-1, -1, -1] ∧ Below w.heap.size w w' := by
  obtain ⟨A, hA⟩ : ∃ A, A = w.alloc (.cells #[.bool false, .int .i64 0, .int .i64 0, .int .i64 0, .int .i64 0, .int .i64 0, .slice none 0 0, .bool false] 50) := ⟨_, rfl⟩
  have BA : Below w.heap.size w A := by rw [hA]; exact (Below.refl _ _).alloc (Nat.le_refl _) _
  have hAs : A.heap.size = w.heap.size + 1 := by rw [hA]; simp
  obtain ⟨C, hC⟩ : ∃ C, C = A.alloc (.cells #[.int .i64 (-1)] 3) := ⟨_, rfl⟩
  have BC : Below A.heap.size A C := by rw [hC]; exact (Below.refl _ _).alloc (Nat.le_refl _) _
  have hCs : C.heap.size = A.heap.size + 1 := by rw [hC]; simp
  have HK : Hid (∀ X, Below C.heap.size C X → _) := fun X hX => blk_kept w 50 #[.bool false, .int .i64 0, .int .i64 0, .int .i64 0, .int .i64 0, .int .i64 0, .slice none 0 0, .bool false] X (by have h := BC.trans (hX.mono (by omega)); rw [hAs, hA] at h; exact h)
  have CR : Hid (∀ u : Unit, _) := fun (_ : Unit) => repeat3_calls C A.heap.size (by rw [hC, World.cell?_alloc_mark]; rfl) (by omega)
  have BB := BA.trans (BC.mono (by omega))
  rw [hAs] at CR
  go_enter Try.func13, Try.ntmps13
  go_wp2_with fail
  rw [← hA, ← hC]
  refine (CR.out ()).mono ?_
  rintro e w1 ⟨f, rfl, O1, b1⟩
  obtain ⟨a, c, rfl, -⟩ := ownI_read O1
  obtain ⟨hc, hf⟩ := HK.out _ b1
  have c0 := hc 0
  have c1 := hc 1
  have c2 := hc 2
  have c3 := hc 3
  have c4 := hc 4
  have c5 := hc 5
  have c6 := hc 6
  have c7 := hc 7
  simp only [List.getElem?_toArray, List.getElem?_cons_zero, List.getElem?_cons_succ] at c0 c1 c2 c3 c4 c5 c6 c7
  have f0 := hf 0
  have f1 := hf 1
  have f2 := hf 2
  have f3 := hf 3
  have f4 := hf 4
  have f5 := hf 5
  have f6 := hf 6
  have f7 := hf 7
  have B1 := BB.trans (b1.mono BB.size)
  have HO : Hid (ownI w1 C.heap.size _ _) := O1
  have HS : Hid (w.heap.size < C.heap.size) := by show _ < _; omega
  clear hc hf CR HK b1 O1 hA hC hAs hCs BA BC BB
  go_wp2
  refine bodyPost_ret (v := .agg #[.bool false, .int .i64 gen, .int .i64 0, .int .i64 0, .int .i64 0, .int .i64 0, .slice a 3 c, .bool false]) (by simp [results, Try.results13, go_sem, *]) rfl ⟨_, rfl, ?_, ?_⟩
  · refine ownI_mono (B := C.heap.size) ?_ (Nat.le_of_lt HS.out)
    iterate 8 refine ownI_far _ _ ?_ HS.out
    exact HO.out
  · iterate 8 refine Below.setCell ?_ (by simp only; omega) _
    exact B1

end Go.Proofs.Ytjhdnachbahbmaa
