/- The law on what is refused, walked over a Play that answers as R says. -/
import Derived.Test.YtjhdnachbahbmaaRefBase
import Derived.Test.YtjhdnachbahbmaaCodeRow
import Derived.Test.YtjhdnachbahbmaaWordWalks
import Derived.Deep.Cut
namespace Go.Proofs.Ytjhdnachbahbmaa
open Go.RowKit
set_option linter.unusedVariables false
set_option maxRecDepth 100000

def aO : OpD := ⟨1, 0, 0, 0, [97]⟩
def bO : OpD := ⟨1, 0, 0, 0, [98]⟩
def rO : OpD := ⟨5, 8, 0, 0, []⟩
def midO (p0 p1 p2 p3 : Int) : List OpD := [rO, ⟨4, 8, 3, -1, []⟩, ⟨4, 8, p0, 9 + p1, []⟩, ⟨3, 8, 0, 0, []⟩, ⟨3, 8, 0, 0, []⟩, ⟨8, p2, 0, 0, []⟩, ⟨11 + p3, 0, 0, 0, []⟩, ⟨1, 0, 0, 0, []⟩]
def headL (j : Nat) : List OpD := aO :: List.replicate j rO
def refL (p0 p1 p2 p3 : Int) (j : Nat) : List OpD := headL 20 ++ midO p0 p1 p2 p3 ++ List.replicate j bO
def codesR (j : Nat) : List Int := [4, 2, 1, 0, 5, 2, 2, 2] ++ List.replicate j 0
theorem headL_len (j : Nat) : (headL j).length = j + 1 := by simp [headL]
theorem headL_snoc (j : Nat) : headL (j + 1) = headL j ++ [rO] := by unfold headL; rw [List.replicate_succ']; rfl
theorem refL_len (p0 p1 p2 p3 : Int) (j : Nat) : (refL p0 p1 p2 p3 j).length = 29 + j := by simp [refL, headL, midO]; omega
theorem refL_snoc (p0 p1 p2 p3 : Int) (j : Nat) : refL p0 p1 p2 p3 (j + 1) = refL p0 p1 p2 p3 j ++ [bO] := by unfold refL; rw [List.replicate_succ', List.append_assoc, List.append_assoc, List.append_assoc]
theorem codesR_len (j : Nat) : (codesR j).length = 8 + j := by simp [codesR]; omega
theorem codesR_snoc (j : Nat) : codesR (j + 1) = codesR j ++ [0] := by unfold codesR; rw [List.replicate_succ', List.append_assoc]
/-- What a Play answers, its answers told by R. -/
def PlayAt (R : List OpD → List AnsD → Prop) (w : World) : Prop := ∀ (X : World) (a : Option Addr) (c : Nat) (qs : List OpD) (n : Nat), Below w.heap.size w X → RdQ X a qs → qs.length = n → n ≤ 1000 → n ≤ c → (∀ o ∈ qs, SaneOp o ∧ o.site.length ≤ 1048576) → Calls Try.prog 6 #[.slice a n c] X fun e w' => ∃ (s : HSh) (v : Value) (ps : List (AnsD × Option Addr × Nat)), e = .returned (.tuple #[.agg #[.slice s.oa s.os.length s.oc, .slice s.wa s.wn s.wc, .slice s.ba s.bn s.bc, .slice s.sa s.sn s.sc], v]) ∧ AR w' X.heap.size v ps ∧ R qs (ps.map (·.1)) ∧ Below X.heap.size X w'

set_option maxHeartbeats 2000000 in
theorem refuses_law (a : Option Addr) (cap : Nat) (L : List UInt8) (w : World) (hL : L.length ≤ 1048576) (hc : CodeAt w.heap.size w a L) (R : List OpD → List AnsD → Prop) (hP : PlayAt R w)
    (hS : ∀ p0 p1 p2 p3, 0 ≤ p0 → p0 ≤ 2 → 0 ≤ p1 → p1 ≤ 255 → 0 ≤ p2 → p2 ≤ 7 → 0 ≤ p3 → p3 ≤ 255 → ∀ o ∈ refL p0 p1 p2 p3 8, SaneOp o ∧ o.site.length ≤ 1048576)
    (hR : ∀ p0 p1 p2 p3 av, 0 ≤ p0 → p0 ≤ 2 → 0 ≤ p1 → p1 ≤ 255 → 0 ≤ p2 → p2 ≤ 7 → 0 ≤ p3 → p3 ≤ 255 → R (refL p0 p1 p2 p3 8) av → av.length = 37 ∧ ∀ (i : Nat) (h1 : 21 + i < av.length) (h2 : i < (codesR 7 ++ [3]).length), av[21 + i].code = (codesR 7 ++ [3])[i]) :
    Calls Try.prog 3 #[.slice a L.length cap] w fun e w' => e = .returned (.bool true) ∧ Below w.heap.size w w' := by
  have HC : Hid (∀ X, Below w.heap.size w X → CodeAt w.heap.size X a L) := fun X hX => code_below hc hX
  have HP : Hid (PlayAt R w) := hP
  have HS : Hid (∀ p0 p1 p2 p3, 0 ≤ p0 → p0 ≤ 2 → 0 ≤ p1 → p1 ≤ 255 → 0 ≤ p2 → p2 ≤ 7 → 0 ≤ p3 → p3 ≤ 255 → ∀ o ∈ refL p0 p1 p2 p3 8, SaneOp o ∧ o.site.length ≤ 1048576) := hS
  have HR : Hid (∀ p0 p1 p2 p3 av, 0 ≤ p0 → p0 ≤ 2 → 0 ≤ p1 → p1 ≤ 255 → 0 ≤ p2 → p2 ≤ 7 → 0 ≤ p3 → p3 ≤ 255 → R (refL p0 p1 p2 p3 8) av → av.length = 37 ∧ ∀ (i : Nat) (h1 : 21 + i < av.length) (h2 : i < (codesR 7 ++ [3]).length), av[21 + i].code = (codesR 7 ++ [3])[i]) := hR
  have CB : Hid (∀ X : World, _) := fun X => big_calls a L.length cap X (by omega)
  have hd : decide (1048576 < L.length) = false := decide_eq_false (by omega)
  rw [hd] at CB
  have CAt : Hid (∀ (X : World) (j : Nat), j ≤ 3 → Below w.heap.size w X → _) := fun X j hj hX => at_calls w.heap.size a cap L j X hL (by omega) (HC.out X hX)
  have hl1 : (L.length : Int) ≤ 1048576 := by omega
  clear hc hP hR hS hd
  generalize L.length = n at *
  go_enter Try.func3, Try.ntmps3
  go_wp2_with fail
  refine (CB.out _).mono ?_
  rintro e w1 ⟨rfl, rfl⟩
  obtain ⟨V, hV⟩ : ∃ V, V = w1.alloc (.cells #[.int .i64 1, .int .i64 0, .int .i64 0, .int .i64 0, .string ⟨#[97]⟩] 25) := ⟨_, rfl⟩
  have HV : Hid (OQ V w1.heap.size (.slice (some ⟨w1.heap.size, 0, none⟩) 1 1) 1 (headL 0) ∧ Below w1.heap.size w1 V) := by
    rw [hV]
    exact ⟨OQ.new (Nat.le_refl _) (headL 0) (by decide), (Below.refl _ _).alloc (Nat.le_refl _) _⟩
  clear CB
  go_wp2
  rw [← hV]
  clear hV
  go_loopw [3, 4] (fun l i wr => ∃ (j : Nat), i = .int .i64 (j : Int) ∧ j ≤ 20 ∧ Hid (OQ wr w1.heap.size l (j + 1) (headL j)) ∧ Hid (Below w1.heap.size w1 wr)) (fun _ i _ => 20 - (intOf i).toNat)
  case atStart => exact ⟨0, rfl, by omega, HV.out.1, HV.out.2⟩
  case round =>
    obtain ⟨j, rfl, hj, HQ, HB⟩ := hrel
    clear HV
    by_cases hlt : j < 20
    · have hi1 : (j : Int) < 20 := by omega
      obtain ⟨U, hU⟩ : ∃ U, U = wr.alloc (.cells #[.int .i64 5, .int .i64 8, .int .i64 0, .int .i64 0, .string ⟨#[]⟩] 25) := ⟨_, rfl⟩
      have BU : Below wr.heap.size wr U := by rw [hU]; exact (Below.refl _ _).alloc (Nat.le_refl _) _
      have HUc : Hid (∀ k, U.cell? ⟨wr.heap.size, k, none⟩ = ([rO].flatMap cellsQ)[k]?) := fun k => by rw [hU, World.cell?_alloc_mark]; exact (List.getElem?_toArray ..)
      have HUO : Hid (OQ U w1.heap.size _ (j + 1) (headL j)) := HQ.out.later BU
      have HUB : Hid (Below w1.heap.size w1 U) := HB.out.trans (BU.mono HB.out.size)
      clear BU HQ HB
      go_wp2_with (at_builtin; rw [← hU]; clear hU; refine wpList_appendOps rfl _ _ rfl w1.heap.size _ (j + 1) (headL j) rfl HUO.out wr.heap.size 1 [rO] rfl rfl HUc.out (by omega) (by omega) w1 HUB.out (Nat.le_refl _) ?_)
      intro v9 w9 h1 h2 _ _
      have HQ9 : Hid (OQ w9 w1.heap.size v9 (j + 1 + 1) (headL (j + 1))) := by show OQ _ _ _ _ _; rw [headL_snoc]; exact h1
      have HB9 : Hid (Below w1.heap.size w1 w9) := h2
      clear h1 h2 HUO HUB HUc
      go_wp2
      go_roundw
      case rel => exact ⟨j + 1, by go_num, by omega, HQ9, HB9⟩
      case measure => simp [intOf]; omega
    · obtain rfl : j = 20 := by omega
      obtain ⟨a1, c1, rfl, -, -⟩ := HQ.out.rd
      obtain ⟨p0, hp0⟩ : ∃ p, atZ L 0 = p := ⟨_, rfl⟩
      obtain ⟨p1, hp1⟩ : ∃ p, atZ L 1 = p := ⟨_, rfl⟩
      obtain ⟨p2, hp2⟩ : ∃ p, atZ L 2 = p := ⟨_, rfl⟩
      obtain ⟨p3, hp3⟩ : ∃ p, atZ L 3 = p := ⟨_, rfl⟩
      have b0 := atZ_bd L 0
      have b1 := atZ_bd L 1
      have b2 := atZ_bd L 2
      have b3 := atZ_bd L 3
      have C0 : Hid (∀ _ : Unit, _) := fun (_ : Unit) => CAt.out wr 0 (by omega) HB.out
      have C1 : Hid (∀ _ : Unit, _) := fun (_ : Unit) => CAt.out wr 1 (by omega) HB.out
      have C2 : Hid (∀ _ : Unit, _) := fun (_ : Unit) => CAt.out wr 2 (by omega) HB.out
      have C3 : Hid (∀ _ : Unit, _) := fun (_ : Unit) => CAt.out wr 3 (by omega) HB.out
      rw [hp0] at C0 b0
      rw [hp1] at C1 b1
      rw [hp2] at C2 b2
      rw [hp3] at C3 b3
      clear CAt HC hp0 hp1 hp2 hp3 hl1
      go_wp2_with fail
      refine (C0.out ()).mono ?_
      rintro e w2 ⟨rfl, rfl⟩
      go_wp2_with fail
      refine (C1.out ()).mono ?_
      rintro e w2 ⟨rfl, rfl⟩
      go_wp2_with fail
      refine (C2.out ()).mono ?_
      rintro e w2 ⟨rfl, rfl⟩
      go_wp2_with fail
      refine (C3.out ()).mono ?_
      rintro e w2 ⟨rfl, rfl⟩
      clear C0 C1 C2 C3
      obtain ⟨U, hU⟩ : ∃ U, U = w2.alloc (.cells #[.int .i64 5, .int .i64 8, .int .i64 0, .int .i64 0, .string ⟨#[]⟩, .int .i64 4, .int .i64 8, .int .i64 3, .int .i64 (-1), .string ⟨#[]⟩, .int .i64 4, .int .i64 8, .int .i64 (p0 % 3), .int .i64 (9 + p1), .string ⟨#[]⟩, .int .i64 3, .int .i64 8, .int .i64 0, .int .i64 0, .string ⟨#[]⟩, .int .i64 3, .int .i64 8, .int .i64 0, .int .i64 0, .string ⟨#[]⟩, .int .i64 8, .int .i64 (p2 % 8), .int .i64 0, .int .i64 0, .string ⟨#[]⟩, .int .i64 (11 + p3), .int .i64 0, .int .i64 0, .int .i64 0, .string ⟨#[]⟩, .int .i64 1, .int .i64 0, .int .i64 0, .int .i64 0, .string ⟨#[]⟩] 25) := ⟨_, rfl⟩
      have BU : Below w2.heap.size w2 U := by rw [hU]; exact (Below.refl _ _).alloc (Nat.le_refl _) _
      have HUc : Hid (∀ k, U.cell? ⟨w2.heap.size, k, none⟩ = ((midO (p0 % 3) p1 (p2 % 8) p3).flatMap cellsQ)[k]?) := fun k => by rw [hU, World.cell?_alloc_mark]; exact (List.getElem?_toArray ..)
      have HUO : Hid (OQ U w1.heap.size _ (20 + 1) (headL 20)) := HQ.out.later BU
      have HUB : Hid (Below w1.heap.size w1 U) := HB.out.trans (BU.mono HB.out.size)
      clear BU HQ HB
      go_wp2_with (at_builtin; rw [← hU]; clear hU; refine wpList_appendOps rfl _ _ rfl w1.heap.size _ (20 + 1) (headL 20) rfl HUO.out w2.heap.size 8 (midO (p0 % 3) p1 (p2 % 8) p3) rfl rfl HUc.out (by omega) (by omega) w1 HUB.out (Nat.le_refl _) ?_)
      intro v9 w9 h1 h2 _ _
      have hq0 : 0 ≤ p0 % 3 ∧ p0 % 3 ≤ 2 := by omega
      have hq2 : 0 ≤ p2 % 8 ∧ p2 % 8 ≤ 7 := by omega
      have HQ9 : Hid (OQ w9 w1.heap.size v9 29 (refL (p0 % 3) p1 (p2 % 8) p3 0)) := by
        have e : refL (p0 % 3) p1 (p2 % 8) p3 0 = headL 20 ++ midO (p0 % 3) p1 (p2 % 8) p3 := by unfold refL; rw [List.replicate_zero, List.append_nil]
        show OQ _ _ _ _ _
        rw [e]; exact h1
      have HB9 : Hid (Below w1.heap.size w1 w9) := h2
      have HSS : Hid (∀ o ∈ refL (p0 % 3) p1 (p2 % 8) p3 8, SaneOp o ∧ o.site.length ≤ 1048576) := HS.out _ _ _ _ hq0.1 hq0.2 b1.1 b1.2 hq2.1 hq2.2 b3.1 b3.2
      have HRR : Hid (∀ av, R (refL (p0 % 3) p1 (p2 % 8) p3 8) av → av.length = 37 ∧ ∀ (i : Nat) (h1 : 21 + i < av.length) (h2 : i < (codesR 7 ++ [3]).length), av[21 + i].code = (codesR 7 ++ [3])[i]) := fun av h => HR.out _ _ _ _ av hq0.1 hq0.2 b1.1 b1.2 hq2.1 hq2.2 b3.1 b3.2 h
      clear h1 h2 HUO HUB HUc HR HS b0 b1 b2 b3 hq0 hq2
      generalize p0 % 3 = q0 at *
      generalize p2 % 8 = q2 at *
      obtain ⟨V2, hV2⟩ : ∃ V2, V2 = w9.alloc (.cells #[.int .i64 4, .int .i64 2, .int .i64 1, .int .i64 0, .int .i64 5, .int .i64 2, .int .i64 2, .int .i64 2] 3) := ⟨_, rfl⟩
      have BV2 : Below w9.heap.size w9 V2 := by rw [hV2]; exact (Below.refl _ _).alloc (Nat.le_refl _) _
      have HC2 : Hid (ownI V2 w1.heap.size (.slice (some ⟨w9.heap.size, 0, none⟩) 8 8) (codesR 0)) := by rw [hV2]; exact ownI_eight HB9.out.size (codesR 0) (by decide)
      have HQ2 : Hid (OQ V2 w1.heap.size v9 (29 + 0) (refL q0 p1 q2 p3 0)) := HQ9.out.later BV2
      have HB2 : Hid (Below w1.heap.size w1 V2) := HB9.out.trans (BV2.mono HB9.out.size)
      clear BV2 HQ9 HB9
      go_wp2
      rw [← hV2]
      clear hV2
      go_loopw [3, 6, 7] (fun l c i wr => ∃ (k : Nat), i = .int .i64 ((k + 1 : Nat) : Int) ∧ k ≤ 7 ∧ Hid (OQ wr w1.heap.size l (29 + k) (refL q0 p1 q2 p3 k)) ∧ Hid (ownI wr w1.heap.size c (codesR k)) ∧ Hid (Below w1.heap.size w1 wr)) (fun _ _ i _ => 8 - (intOf i).toNat)
      case atStart => exact ⟨0, rfl, by omega, HQ2.out, HC2.out, HB2.out⟩
      case round =>
        obtain ⟨k, rfl, hk, HQ, HI, HB⟩ := hrel
        clear HQ2 HC2 HB2
        by_cases hlt : k < 7
        · have hi1 : ((k + 1 : Nat) : Int) < 8 := by omega
          obtain ⟨U, hU⟩ : ∃ U, U = wr.alloc (.cells #[.int .i64 1, .int .i64 0, .int .i64 0, .int .i64 0, .string ⟨#[98]⟩] 25) := ⟨_, rfl⟩
          have BU : Below wr.heap.size wr U := by rw [hU]; exact (Below.refl _ _).alloc (Nat.le_refl _) _
          have HUc : Hid (∀ k, U.cell? ⟨wr.heap.size, k, none⟩ = (([bO]).flatMap cellsQ)[k]?) := fun k => by rw [hU, World.cell?_alloc_mark]; exact (List.getElem?_toArray ..)
          have HUO : Hid (OQ U w1.heap.size _ (29 + k) (refL q0 p1 q2 p3 k)) := HQ.out.later BU
          have HUB : Hid (Below w1.heap.size w1 U) := HB.out.trans (BU.mono HB.out.size)
          have HI1 : Hid (ownI U w1.heap.size _ (codesR k)) := ownI_later HI.out BU
          clear BU HQ HB HI
          go_wp2_with (at_builtin; rw [← hU]; clear hU; refine wpList_appendOps rfl _ _ rfl w1.heap.size _ (29 + k) (refL q0 p1 q2 p3 k) rfl HUO.out wr.heap.size 1 [bO] rfl rfl HUc.out (by omega) (by omega) w1 HUB.out (Nat.le_refl _) ?_)
          intro v8 w8 h1 h2 _ h4
          have HQ8 : Hid (OQ w8 w1.heap.size v8 (29 + (k + 1)) (refL q0 p1 q2 p3 (k + 1))) := by show OQ _ _ _ _ _; rw [refL_snoc]; exact h1
          have HB8 : Hid (Below w1.heap.size w1 w8) := h2
          have HI8 : Hid (ownI w8 w1.heap.size _ (codesR k)) := HUO.out.ints HI1.out h4.out
          clear h1 h2 h4 HUO HUB HUc HI1
          obtain ⟨U2, hU2⟩ : ∃ U, U = w8.alloc (.cells #[.int .i64 0] 3) := ⟨_, rfl⟩
          have BU2 : Below w8.heap.size w8 U2 := by rw [hU2]; exact (Below.refl _ _).alloc (Nat.le_refl _) _
          have HUc2 : Hid (U2.cell? ⟨w8.heap.size, 0, none⟩ = some (.int .i64 0)) := by show _ = _; rw [hU2, World.cell?_alloc_mark]; rfl
          have HQu : Hid (OQ U2 w1.heap.size v8 (29 + (k + 1)) (refL q0 p1 q2 p3 (k + 1))) := HQ8.out.later BU2
          have HIu : Hid (ownI U2 w1.heap.size _ (codesR k)) := ownI_later HI8.out BU2
          have HBu : Hid (Below w1.heap.size w1 U2) := HB8.out.trans (BU2.mono HB8.out.size)
          have hln : (codesR k).length ≤ 16777215 := by rw [codesR_len]; omega
          clear BU2 HQ8 HI8 HB8
          go_wp2_with (at_builtin; rw [← hU2]; clear hU2; refine wpList_appendL rfl _ _ rfl w1.heap.size _ (codesR k) rfl HIu.out ⟨w8.heap.size, 0, none⟩ 0 rfl HUc2.out hln HBu.out.size ?_)
          intro v7 w7 h1 h2 h3 h4 h5
          have HI7 : Hid (ownI w7 w1.heap.size v7 (codesR (k + 1))) := by show ownI _ _ _ _; rw [codesR_snoc]; exact h1
          have HQ7 : Hid (OQ w7 w1.heap.size v8 (29 + (k + 1)) (refL q0 p1 q2 p3 (k + 1))) := HQu.out.keep HIu.out h3.out
          have HB7 : Hid (Below w1.heap.size w1 w7) := h5.out _ _ HBu.out (Nat.le_refl _)
          clear h1 h2 h3 h4 h5 HQu HIu HBu HUc2 hln
          go_wp2
          go_roundw
          case rel => exact ⟨k + 1, by go_num, by omega, HQ7, HI7, HB7⟩
          case measure => simp [intOf]; omega
        · obtain rfl : k = 7 := by omega
          obtain ⟨U, hU⟩ : ∃ U, U = wr.alloc (.cells #[.int .i64 1, .int .i64 0, .int .i64 0, .int .i64 0, .string ⟨#[98]⟩] 25) := ⟨_, rfl⟩
          have BU : Below wr.heap.size wr U := by rw [hU]; exact (Below.refl _ _).alloc (Nat.le_refl _) _
          have HUc : Hid (∀ k, U.cell? ⟨wr.heap.size, k, none⟩ = (([bO]).flatMap cellsQ)[k]?) := fun k => by rw [hU, World.cell?_alloc_mark]; exact (List.getElem?_toArray ..)
          have HUO : Hid (OQ U w1.heap.size _ (29 + 7) (refL q0 p1 q2 p3 7)) := HQ.out.later BU
          have HUB : Hid (Below w1.heap.size w1 U) := HB.out.trans (BU.mono HB.out.size)
          have HI1 : Hid (ownI U w1.heap.size _ (codesR 7)) := ownI_later HI.out BU
          clear BU HQ HB HI
          go_wp2_with (at_builtin; rw [← hU]; clear hU; refine wpList_appendOps rfl _ _ rfl w1.heap.size _ (29 + 7) (refL q0 p1 q2 p3 7) rfl HUO.out wr.heap.size 1 [bO] rfl rfl HUc.out (by omega) (by omega) w1 HUB.out (Nat.le_refl _) ?_)
          intro v8 w8 h1 h2 _ h4
          have HQ8 : Hid (OQ w8 w1.heap.size v8 37 (refL q0 p1 q2 p3 8)) := by show OQ _ _ _ _ _; rw [refL_snoc]; exact h1
          have HB8 : Hid (Below w1.heap.size w1 w8) := h2
          have HI8 : Hid (ownI w8 w1.heap.size _ (codesR 7)) := HUO.out.ints HI1.out h4.out
          clear h1 h2 h4 HUO HUB HUc HI1
          obtain ⟨U2, hU2⟩ : ∃ U, U = w8.alloc (.cells #[.int .i64 3] 3) := ⟨_, rfl⟩
          have BU2 : Below w8.heap.size w8 U2 := by rw [hU2]; exact (Below.refl _ _).alloc (Nat.le_refl _) _
          have HUc2 : Hid (U2.cell? ⟨w8.heap.size, 0, none⟩ = some (.int .i64 3)) := by show _ = _; rw [hU2, World.cell?_alloc_mark]; rfl
          have HQu : Hid (OQ U2 w1.heap.size v8 37 (refL q0 p1 q2 p3 8)) := HQ8.out.later BU2
          have HIu : Hid (ownI U2 w1.heap.size _ (codesR 7)) := ownI_later HI8.out BU2
          have HBu : Hid (Below w1.heap.size w1 U2) := HB8.out.trans (BU2.mono HB8.out.size)
          have hln : (codesR 7).length ≤ 16777215 := by rw [codesR_len]; omega
          clear BU2 HQ8 HI8 HB8
          go_wp2_with (at_builtin; rw [← hU2]; clear hU2; refine wpList_appendL rfl _ _ rfl w1.heap.size _ (codesR 7) rfl HIu.out ⟨w8.heap.size, 0, none⟩ 3 rfl HUc2.out hln HBu.out.size ?_)
          intro v7 w7 h1 h2 h3 h4 h5
          have HI7 : Hid (ownI w7 w1.heap.size v7 (codesR 7 ++ [3])) := h1
          have HQ7 : Hid (OQ w7 w1.heap.size v8 37 (refL q0 p1 q2 p3 8)) := HQu.out.keep HIu.out h3.out
          have HB7 : Hid (Below w1.heap.size w1 w7) := h5.out _ _ HBu.out (Nat.le_refl _)
          clear h1 h2 h3 h4 h5 HQu HIu HBu HUc2 hln
          obtain ⟨a2, c2, rfl, hcap, hrd⟩ := HQ7.out.rd
          obtain ⟨a3, c3, rfl, hri⟩ := rdI_own' HI7.out
          have hl16 : (codesR 7 ++ [3]).length = 16 := rfl
          rw [hl16]
          have CP : Hid (∀ _ : Unit, _) := fun (_ : Unit) => HP.out w7 a2 c2 (refL q0 p1 q2 p3 8) 37 HB7.out hrd (by rw [refL_len]) (by omega) hcap HSS.out
          have HRI : Hid (RdI w7 a3 (codesR 7 ++ [3])) := hri
          clear hcap hrd hri HP HQ7 HI7 hl16
          go_wp2_with fail
          refine (CP.out ()).mono ?_
          rintro e Y ⟨s, v, ps, rfl, hAR, hRR, bY⟩
          obtain ⟨hlen, hcode⟩ := HRR.out _ hRR
          obtain ⟨a4, c4, rfl, hcells⟩ := hAR.cells
          have hpl : ps.length = 37 := by rw [← hlen, List.length_map]
          rw [hpl]
          obtain ⟨V3, hV3⟩ : ∃ V3, V3 = Y.alloc (.cells #[.slice s.oa s.os.length s.oc, .slice s.wa s.wn s.wc, .slice s.ba s.bn s.bc, .slice s.sa s.sn s.sc] 33) := ⟨_, rfl⟩
          have BV3 : Below Y.heap.size Y V3 := by rw [hV3]; exact (Below.refl _ _).alloc (Nat.le_refl _) _
          have HB3 : Hid (Below w1.heap.size w1 V3) := HB7.out.trans ((bY.trans (BV3.mono bY.size)).mono HB7.out.size)
          have HCELL : Hid (∀ (j : Nat), j < 16 → ∀ X, Below V3.heap.size V3 X → ∃ ga gc oc z, a4 = some ⟨ga, 0, none⟩ ∧ a3 = some ⟨gc, oc, none⟩ ∧ X.cell? ⟨ga, (21 + j) * 3, none⟩ = some (.int .i64 z) ∧ X.cell? ⟨gc, oc + j, none⟩ = some (.int .i64 z) ∧ 0 ≤ z ∧ z ≤ 6) := fun j hj X hX => by
            obtain ⟨ga, e1, k1, k2⟩ := hcells (21 + j) (by omega)
            obtain ⟨gc, oc, e2, k3, k4⟩ := HRI.out j (by show j < 16; exact hj)
            have hc := hcode j (by rw [hlen]; omega) (by show j < 16; exact hj)
            rw [List.getElem_map] at hc
            have hz : ∀ z ∈ codesR 7 ++ [3], 0 ≤ z ∧ z ≤ 6 := by decide
            have hzz := hz _ (List.getElem_mem (show j < (codesR 7 ++ [3]).length from hj))
            refine ⟨ga, gc, oc, (codesR 7 ++ [3])[j]'hj, e1, e2, ?_, ?_, hzz.1, hzz.2⟩
            · rw [hX.cell (p := ⟨ga, (21 + j) * 3, none⟩) (Nat.lt_of_lt_of_le k1 BV3.size), BV3.cell (p := ⟨ga, (21 + j) * 3, none⟩) k1, k2, hc]
              rfl
            · rw [hX.cell (p := ⟨gc, oc + j, none⟩) (Nat.lt_of_lt_of_le k3 (Nat.le_trans bY.size BV3.size)), BV3.cell (p := ⟨gc, oc + j, none⟩) (Nat.lt_of_lt_of_le k3 bY.size), bY.cell (p := ⟨gc, oc + j, none⟩) k3]
              exact k4
          clear hcells hlen hcode hAR hRR bY BV3 hpl HRR HRI HB7 CP
          go_wp2
          rw [← hV3]
          clear hV3
          go_loopw [10] (fun i X => ∃ (j : Nat), i = .int .i64 (j : Int) ∧ j ≤ 16 ∧ Hid (Below V3.heap.size V3 X)) (fun i _ => 16 - (intOf i).toNat)
          case atStart => exact ⟨0, rfl, by omega, Below.refl _ _⟩
          case round =>
            obtain ⟨j, rfl, hj, HX⟩ := hrel
            by_cases hlt2 : j < 16
            · obtain ⟨ga, gc, oc, z, rfl, rfl, k1, k2, hz0, hz6⟩ := HCELL.out j hlt2 wr HX.out
              have HK : Hid (∀ Z, Below wr.heap.size wr Z → Z.cell? ⟨ga, (21 + j) * 3, none⟩ = some (.int .i64 z) ∧ Z.cell? ⟨gc, oc + j, none⟩ = some (.int .i64 z)) := fun Z hZ => ⟨(hZ.cell (p := ⟨ga, (21 + j) * 3, none⟩) (World.block_lt_of_cell? wr _ k1)).trans k1, (hZ.cell (p := ⟨gc, oc + j, none⟩) (World.block_lt_of_cell? wr _ k2)).trans k2⟩
              have CW : Hid (∀ Z : World, _) := fun Z => iCodeWord_calls z Z
              have hzz : (z != z) = false := by simp
              have hwd : (wordZ codeL z).toList.isEmpty = false := by
                have hd : z = 0 ∨ z = 1 ∨ z = 2 ∨ z = 3 ∨ z = 4 ∨ z = 5 ∨ z = 6 := by omega
                rcases hd with rfl | rfl | rfl | rfl | rfl | rfl | rfl <;> (unfold wordZ; rw [if_pos (by decide), ByteArray.toList_mk]; rfl)
              generalize wordZ codeL z = wd at *
              have hi1 : (j : Int) < 16 := by omega
              have hi2 : (21 : Int) + (j : Int) < 37 := by omega
              have hi3 : (0 : Int) ≤ 21 + (j : Int) := by omega
              have hi4 : ((21 : Int) + (j : Int)).toNat = 21 + j := by omega
              have hi5 : IntKind.i64.wrap (21 + (j : Int)) = 21 + (j : Int) := by rw [IntKind.wrap_i64]; omega
              have D1 : Below wr.heap.size wr wr.drew := (Below.refl _ _).drew
              clear HCELL hz0 hz6
              go_wp2_with fail
              go_region_held (fun Z => Z.cell? ⟨ga, (21 + j) * 3, none⟩ = some (.int .i64 z) ∧ Z.cell? ⟨gc, oc + j, none⟩ = some (.int .i64 z)) (first | with_reducible exact HK.out _ D1 | with_reducible exact HK.out _ B9) (first | (go_at_call 7; refine (CW.out _).mono ?_; rintro e Z ⟨rfl, b9⟩; (have B9 := D1.trans (b9.mono D1.size))))
              all_goals
                have HB9 : Hid (Below V3.heap.size V3 _) := HX.out.trans (B9.mono HX.out.size)
                clear HK CW HX
                go_wp2
                go_roundw
                case rel => exact ⟨j + 1, by go_num, by omega, HB9⟩
                case measure => simp [intOf]; omega
            · have ej : ¬ ((j : Int) < 16) := by omega
              have HEND := HB3.out.trans (HX.out.mono HB3.out.size)
              go_wp2
              go_ret
              exact ⟨rfl, HEND⟩

end Go.Proofs.Ytjhdnachbahbmaa
