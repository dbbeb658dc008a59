/- What ends an event, and the pen's box that is written: all blocks but that one, below a bound, are as they were. -/
import Derived.Test.YtebgngofnmcklaaDoorEventMath
import Derived.Test.YtebgngofnmcklaaDoorRfWalks
import Derived.Lib.Strings
import Derived.Lib.Slices
import Derived.Lib.Walk
import Derived.Lib.Builder
import Derived.Lib.AppendStr
import Derived.Lib.UnsafeStr
import Derived.WalkKit
import Derived.WalkLawsBesides
import Derived.Laws.Externs
namespace Go.Proofs.YtebgngofnmcklaaDoor
open Go.RowKit
set_option linter.unusedVariables false
set_option maxRecDepth 100000

/-- The error that ends an event lies where it is laid. -/
def EvE (w : World) (ev : Value) : Prop := w.cell? ⟨0, 0, none⟩ = some ev ∧ ∃ u pv, ev = .iface u pv
abbrev pan (ev : Value) : List PanicEntry := [{ v := ev, recovered := false }]
theorem evE_lt {w : World} {ev : Value} (h : EvE w ev) : 0 < w.heap.size := World.block_lt_of_cell? w _ h.1
theorem evE_later {w w' : World} {ev : Value} (h : EvE w ev) (hb : Below w.heap.size w w') : EvE w' ev := ⟨(hb.cell (evE_lt h)).trans h.1, h.2⟩

theorem must_yes (w : World) : Calls Tryd.prog 60 #[.bool true] w fun e w' => e = .returned (.tuple #[]) ∧ w' = w := by
  go_enter Tryd.func60, Tryd.ntmps60
  go_wp2
  go_end0
  exact ⟨rfl, rfl⟩
theorem must_no (w : World) (ev : Value) (h : EvE w ev) : Calls Tryd.prog 60 #[.bool false] w fun e w' => e = .panicked (pan ev) ∧ w' = w := by
  obtain ⟨hc, u, pv, rfl⟩ := h
  go_enter Tryd.func60, Tryd.ntmps60
  go_wp2
  exact ⟨rfl, rfl, rfl⟩
theorem bounded_yes (n : Int) (w : World) (h : okZ n) : Calls Tryd.prog 69 #[.int .i64 n] w fun e w' => e = .returned (.bool true) ∧ w' = w := by
  have C : Hid (∀ _ : Unit, _) := fun (_ : Unit) => within_yes n (-1000000000) 1000000000 w h.1 h.2
  go_enter Tryd.func69, Tryd.ntmps69
  go_wp2_with fail
  refine (C.out ()).mono ?_
  rintro e w1 ⟨rfl, hw⟩
  subst hw
  go_wp2
  go_ret
  exact ⟨rfl, rfl⟩
theorem bounded_no (n : Int) (w : World) (h : ¬ okZ n) : Calls Tryd.prog 69 #[.int .i64 n] w fun e w' => e = .returned (.bool false) ∧ w' = w := by
  have C : Hid (∀ _ : Unit, _) := fun (_ : Unit) => within_no n (-1000000000) 1000000000 w (by omega)
  clear h
  go_enter Tryd.func69, Tryd.ntmps69
  go_wp2_with fail
  refine (C.out ()).mono ?_
  rintro e w1 ⟨rfl, hw⟩
  subst hw
  go_wp2
  go_ret
  exact ⟨rfl, rfl⟩

/-- A block that is no row of bytes. -/
def NotB (X : World) (g : Nat) : Prop := ∃ o, X.heap[g]? = some o ∧ ∀ cs fr, o ≠ .cells cs 5 fr
/-- Below block n all but block b is as it was; and so is, above it too, what is no row of bytes. -/
structure Kb (n b : Nat) (X Y : World) : Prop where
  os : Y.os = X.os
  tape : Y.tape = X.tape
  output : Y.output = X.output
  size : X.heap.size ≤ Y.heap.size
  block : ∀ g, g ≠ b → (g < n ∨ NotB X g) → Y.heap[g]? = X.heap[g]?
theorem Kb.refl (n b : Nat) (X : World) : Kb n b X X := ⟨rfl, rfl, rfl, Nat.le_refl _, fun _ _ _ => rfl⟩
theorem Kb.trans {n b : Nat} {X Y Z : World} (h : Kb n b X Y) (k : Kb n b Y Z) : Kb n b X Z := by
  refine ⟨k.os.trans h.os, k.tape.trans h.tape, k.output.trans h.output, Nat.le_trans h.size k.size, fun g hg hn => ?_⟩
  have e := h.block g hg hn
  refine (k.block g hg ?_).trans e
  rcases hn with h1 | ⟨o, h1, h2⟩
  · exact .inl h1
  · exact .inr ⟨o, e.trans h1, h2⟩
theorem NotB.lt {X : World} {g : Nat} (h : NotB X g) : g < X.heap.size := by
  obtain ⟨o, h1, -⟩ := h
  exact (Array.getElem?_eq_some_iff.1 h1).1
theorem Kb.of {n b : Nat} {X Y : World} (h : Below X.heap.size X Y) (hn : n ≤ X.heap.size) : Kb n b X Y := ⟨h.os, h.tape, h.output, h.size, fun g _ hg => h.block g (by rcases hg with h1 | h1; omega; exact h1.lt)⟩
theorem Kb.set {n b : Nat} {X Y : World} (h : Kb n b X Y) (k : Nat) (u : Value) : Kb n b X (Y.setCell ⟨b, k, none⟩ u) :=
  h.trans ⟨rfl, rfl, rfl, by simp [World.setCell], fun g hn _ => Below.heap_setCell _ _ _ _ hn⟩
theorem Kb.below {n b B : Nat} {X Y : World} (h : Kb n b X Y) (hB : B ≤ n) (hb : B ≤ b) : Below B X Y := ⟨h.os, h.tape, h.output, h.size, fun g hg => h.block g (by omega) (.inl (by omega))⟩
/-- A block that no step writes. -/
def Safe (n b : Nat) (X : World) (g : Nat) : Prop := g ≠ b ∧ (g < n ∨ NotB X g)
theorem Safe.same {n b g : Nat} {X Y : World} (h : Safe n b X g) (k : Kb n b X Y) : Y.heap[g]? = X.heap[g]? := k.block g h.1 h.2
theorem Safe.kb {n b g : Nat} {X Y : World} (h : Safe n b X g) (k : Kb n b X Y) : Safe n b Y g := by
  refine ⟨h.1, ?_⟩
  have e := h.same k
  rcases h.2 with h1 | ⟨o, h1, h2⟩
  · exact .inl h1
  · exact .inr ⟨o, e.trans h1, h2⟩
theorem Safe.cell {n b : Nat} {X Y : World} {p : Addr} (h : Safe n b X p.block) (k : Kb n b X Y) : Y.cell? p = X.cell? p := World.cell?_of_block (h.same k)
theorem Safe.frozen {n b : Nat} {X Y : World} {p : Addr} (h : Safe n b X p.block) (k : Kb n b X Y) : Y.frozen? p = X.frozen? p := World.frozen?_of_block (h.same k)
theorem Safe.new {n b : Nat} (X : World) (cs : Array Value) (T : TypeId) (hT : T ≠ 5) (hb : b < X.heap.size) : Safe n b (X.alloc (.cells cs T)) X.heap.size :=
  ⟨by omega, .inr ⟨_, heap_alloc_new X _, fun c2 fr e => hT (by cases e; rfl)⟩⟩
/-- The error lies safe. -/
def Cx (n b : Nat) (ev : Value) (X : World) : Prop := EvE X ev ∧ Safe n b X 0 ∧ n ≤ X.heap.size
theorem Cx.kb {n b : Nat} {ev : Value} {X Y : World} (h : Cx n b ev X) (k : Kb n b X Y) : Cx n b ev Y :=
  ⟨⟨(Safe.cell (p := ⟨0, 0, none⟩) h.2.1 k).trans h.1.1, h.1.2⟩, h.2.1.kb k, Nat.le_trans h.2.2 k.size⟩
/-- A row of names that no step writes. -/
def Far (n b : Nat) (X : World) (a : Option Addr) : Prop := ∀ x, a = some x → Safe n b X x.block
theorem Far.kb {n b : Nat} {X Y : World} {a : Option Addr} (h : Far n b X a) (k : Kb n b X Y) : Far n b Y a := fun x hx => (h x hx).kb k
theorem rdS_kb {n b : Nat} {X Y : World} {a : Option Addr} {zs : List (List UInt8)} (h : RdS X a zs) (hf : Far n b X a) (k : Kb n b X Y) : RdS Y a zs := by
  intro j hj
  obtain ⟨g, off, rfl, hg, hc⟩ := h j hj
  have hs : Safe n b X g := hf ⟨g, off, none⟩ rfl
  exact ⟨g, off, rfl, Nat.lt_of_lt_of_le hg k.size, (Safe.cell (p := ⟨g, off + j, none⟩) hs k).trans hc⟩

theorem infoByte : (Tryd.prog.info? 5).map (fun i => (i.zero, i.size, i.bytes)) = some (some (.int .u8 0), 1, 1) := by kernel_rfl
theorem sizeBuilder : (Tryd.prog.info? 56).map (·.size) = some 2 := by kernel_rfl
theorem liesWriter : liesAt Tryd.prog Tryd.prog.depth 58 (4 / Tryd.prog.cellsOf 58) 2 56 1 = true := by kernel_rfl

/-- The writer's box at block b: the pen, and a builder that holds these bytes in a row of its own from block n on. -/
def Wr (n b : Nat) (last : Int) (sv : Value) (l : List UInt8) (X : World) : Prop :=
  ∃ p v, X.heap[b]? = some (.cells #[.int .i64 last, sv, p, v] 58 (0, 0)) ∧ (p = .pointer none ∨ p = .pointer (some ⟨b, 2, none⟩)) ∧ X.ownsRow n 5 1 v l.length (Lib.byteCells l)
theorem Wr.pen {n b : Nat} {last : Int} {sv : Value} {l : List UInt8} {X : World} (h : Wr n b last sv l X) : X.cell? ⟨b, 0, none⟩ = some (.int .i64 last) ∧ X.cell? ⟨b, 1, none⟩ = some sv ∧ b < X.heap.size := by
  obtain ⟨p, v, hb, -⟩ := h
  exact ⟨by rw [Lib.cell_of_heap hb]; rfl, by rw [Lib.cell_of_heap hb]; rfl, (Array.getElem?_eq_some_iff.1 hb).1⟩
theorem Wr.later {n b : Nat} {last : Int} {sv : Value} {l : List UInt8} {X Y : World} (h : Wr n b last sv l X) (k : Below X.heap.size X Y) : Wr n b last sv l Y := by
  obtain ⟨p, v, hb, hp, ho⟩ := h
  have hlt := (Array.getElem?_eq_some_iff.1 hb).1
  refine ⟨p, v, (k.block b hlt).trans hb, hp, ho.kept (row := none) ⟨k.os, k.tape, k.output, k.size, fun g hg _ => k.block g hg⟩ (by cases v.ownBlock with | none => exact Or.inl rfl | some x => exact Or.inr (by simp))⟩

theorem wcheck_calls (n b : Nat) (last : Int) (sv : Value) (l : List UInt8) (w : World) (h : Wr n b last sv l w) :
    Calls Tryd.prog 82 #[.pointer (some ⟨b, 2, none⟩)] w fun e w' => e = .returned (.tuple #[]) ∧ (∃ v, w'.heap[b]? = some (.cells #[.int .i64 last, sv, .pointer (some ⟨b, 2, none⟩), v] 58 (0, 0)) ∧ w'.ownsRow n 5 1 v l.length (Lib.byteCells l)) ∧ Kb n b w w' := by
  obtain ⟨j, hj, hjs⟩ := Option.map_eq_some_iff.1 sizeBuilder
  obtain ⟨p, v, hb, hp, ho⟩ := h
  have c2 : w.cell? ⟨b, 2, none⟩ = some p := by rw [Lib.cell_of_heap hb]; rfl
  rcases hp with rfl | rfl
  · have hsh : w.shape? b = some (58, 4) := by simp [World.shape?, hb]
    have hfz : w.frozen? ⟨b, 2, none⟩ = false := Lib.frozen_of_heap hb 2
    have HB : Hid (w.heap[b]? = _) := hb
    have HO : Hid (w.ownsRow _ _ _ _ _ _) := ho
    clear hb ho
    go_enter Tryd.func82, Tryd.ntmps82
    go_wp2
    rw [Lib.run_to_unsafe w ⟨b, 2, none⟩ Tryd.underlying53 Tryd.underlying110 hj (by rw [hjs]; decide) hsh (by show 2 < 4; decide)]
    simp only [Result.andThen]
    rw [Oper.upon_value]
    go_wp2
    rw [run_callFunc_extern Tryd.func92 (by kernel_rfl) (by kernel_rfl) (by kernel_rfl) (e := Extern.AbiNoEscape.same) (by kernel_rfl)]
    rw [Lib.run_noEscape]
    simp only [Result.andThen]
    rw [Oper.upon_value]
    go_wp2
    rw [Lib.run_from_unsafe w ⟨b, 2, none⟩ Tryd.underlying110 Tryd.underlying53 hj hsh liesWriter]
    simp only [Result.andThen]
    rw [Oper.upon_value]
    go_wp2
    go_end0
    refine ⟨rfl, ⟨v, by simp [World.setCell, Array.getElem?_modify, HB.out], ?_⟩, (Kb.refl _ _ _).set 2 _⟩
    refine HO.out.kept (row := some b) ⟨rfl, rfl, rfl, by simp [World.setCell], fun k _ hk => Below.heap_setCell _ _ _ _ (fun e => hk (by simp [e]))⟩ (Or.inr ?_)
    exact Lib.ownBlock_ne HO.out HB.out (by decide)
  · have HB : Hid (w.heap[b]? = _) := hb
    have HO : Hid (w.ownsRow _ _ _ _ _ _) := ho
    clear hb ho
    go_enter Tryd.func82, Tryd.ntmps82
    go_wp2
    rw [Lib.run_neq_ptr_same w _ Tryd.underlying53 hj]
    go_wp2
    go_end0
    exact ⟨rfl, ⟨v, HB.out, HO.out⟩, Kb.refl _ _ _⟩

set_option maxHeartbeats 2000000 in
theorem wwrite_calls (n b : Nat) (last : Int) (sv : Value) (l t : List UInt8) (w : World) (hnw : n ≤ w.heap.size) (h : Wr n b last sv l w) (hlen : l.length + t.length ≤ 1073741824) :
    Calls Tryd.prog 70 #[.pointer (some ⟨b, 2, none⟩), .string (txt t)] w fun e w' => e = .returned (.tuple #[.int .i64 t.length, .nilIface]) ∧ Wr n b last sv (l ++ t) w' ∧ Kb n b w w' := by
  obtain ⟨i0, hi, hz0, hz1, hz2⟩ := info_parts infoByte
  have HH : Hid (Wr n b last sv l w) := h
  have htl : (txt t).size = t.length := txt_size _
  have HT : Hid (Lib.byteCells (l ++ t) = Lib.byteCells l ++ Lib.strCells (txt t)) := by show _ = _; simp [Lib.byteCells, Lib.strCells, txt]
  obtain ⟨s, hs⟩ : ∃ s, txt t = s := ⟨_, rfl⟩
  rw [hs] at HT htl ⊢
  clear h hs
  go_enter Tryd.func70, Tryd.ntmps70
  go_wp2_with fail
  refine (wcheck_calls n b last sv l _ HH.out).mono ?_
  rintro e w1 ⟨rfl, ⟨v, hbk, hown⟩, hb1⟩
  have c0 : w1.cell? ⟨b, 2, none⟩ = some (.pointer (some ⟨b, 2, none⟩)) := by rw [Lib.cell_of_heap hbk]; rfl
  have c1 : w1.cell? ⟨b, 3, none⟩ = some v := by rw [Lib.cell_of_heap hbk]; rfl
  have hne := Lib.ownBlock_ne hown hbk (by decide)
  go_wp2_with (at_builtin; refine Lib.wpList_append_own_string _ rfl _ _ 54 9 rfl n 5 i0 Tryd.underlying54 Tryd.underlying9 hi hz0 hz1 hz2 _ _ _ rfl hown s rfl ?c3 ?c4 ?c5 ?_)
  case c3 => unfold maxLen; omega
  case c4 => omega
  case c5 => have := hb1.size; omega
  intro v' w2 hown' hgrow _
  have hlt : b < w1.heap.size := (Array.getElem?_eq_some_iff.1 hbk).1
  have hb2 : w2.heap[b]? = some (.cells #[.int .i64 last, sv, .pointer (some ⟨b, 2, none⟩), v] 58 (0, 0)) := by
    rw [hgrow.block b hlt (fun e => hne e.symm)]
    exact hbk
  have d1 : w2.cell? ⟨b, 3, none⟩ = some v := by rw [Lib.cell_of_heap hb2]; rfl
  have f1 : w2.frozen? ⟨b, 3, none⟩ = false := Lib.frozen_of_heap hb2 3
  have k2 : Kb n b w1 w2 := ⟨hgrow.os, hgrow.tape, hgrow.output, hgrow.size, fun g hgb hg => by
    rcases hg with hg | ⟨o, h1, h2⟩
    · exact hgrow.block g (by have := hb1.size; omega) (fun e => by have := (hown.lt g e.symm).1; omega)
    · refine hgrow.block g (Array.getElem?_eq_some_iff.1 h1).1 (fun e => ?_)
      rcases hown.2 with ⟨hv, _⟩ | ⟨g', cap, cur, hv, _, hg', _⟩
      · rw [hv] at e; cases e
      · rw [hv] at e
        have e' := Option.some.inj e
        simp only at e'
        subst e'
        rw [hg'] at h1
        exact h2 _ _ (Option.some.inj h1).symm⟩
  have HB2 : Hid (w2.heap[b]? = _) := hb2
  have HO2 : Hid (w2.ownsRow n 5 1 v' _ _) := hown'
  have HK : Hid (Kb n b w w2) := hb1.trans k2
  obtain ⟨ao, n', cap, hv'⟩ : ∃ ao n' cap, v' = .slice ao n' cap := by
    rcases hown'.2 with ⟨hv, _⟩ | ⟨g, cap, cur, hv, _⟩
    · exact ⟨_, _, _, hv⟩
    · exact ⟨_, _, _, hv⟩
  subst hv'
  clear hb2 hown' hgrow k2 hb1 hown hbk c0 c1
  go_wp2
  go_ret2
  refine ⟨rfl, ?_, HK.out.set 3 _⟩
  refine ⟨_, .slice ao n' cap, by simp [World.setCell, Array.getElem?_modify, HB2.out], .inr rfl, ?_⟩
  have e1 := HT.out
  have h2 := HO2.out
  rw [← e1] at h2
  rw [List.length_append]
  exact h2.kept (row := some b) ⟨rfl, rfl, rfl, by simp [World.setCell], fun k _ hk => Below.heap_setCell _ _ _ _ (fun e => hk (by simp [e]))⟩ (Or.inr (Lib.ownBlock_ne h2 HB2.out (by decide)))

end Go.Proofs.YtebgngofnmcklaaDoor
