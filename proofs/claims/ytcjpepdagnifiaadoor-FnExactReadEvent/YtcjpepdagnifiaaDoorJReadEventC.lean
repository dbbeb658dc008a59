/- A reader at work: its steps take what is read from what is left, or end in the error. -/
import Derived.Test.YtcjpepdagnifiaaDoorJReadEventB
import Derived.Test.YtcjpepdagnifiaaDoorVzWalks
import Derived.Test.YtcjpepdagnifiaaDoorWire4Walks
import Derived.Test.YtcjpepdagnifiaaDoorWire2Walks
import Derived.Test.YtcjpepdagnifiaaDoorInts2Walks
import Derived.Test.YtcjpepdagnifiaaDoorOwnI
import Derived.Test.YtcjpepdagnifiaaDoorICopyMath
namespace Go.Proofs.YtcjpepdagnifiaaDoor
open Go.RowKit
set_option linter.unusedVariables false
set_option maxRecDepth 100000

theorem Box.set2 {X : World} {b : Nat} {T : TypeId} {a0 a1 a2 : Value} (h : Box X b T a0 a1 [a2]) (u : Value) : Box (X.setCell ⟨b, 2, none⟩ u) b T a0 a1 [u] := by
  unfold Box at *
  simp [World.setCell, Array.getElem?_modify, h]
theorem Box.cell2 {X : World} {b : Nat} {T : TypeId} {a0 a1 a2 : Value} (h : Box X b T a0 a1 [a2]) : X.cell? ⟨b, 2, none⟩ = some a2 := by
  unfold Box at h
  rw [Lib.cell_of_heap h]
  rfl
theorem txt_from (l : List UInt8) (x : Nat) : (txt l).extract x l.length = txt (l.drop x) := by
  have h : (txt l).extract x l.length = txt ((l.drop x).take (l.length - x)) := ByteArray.extract_mk l x l.length
  rw [h, List.take_of_length_le (by rw [List.length_drop]; omega)]
theorem rdi_le (l : List UInt8) : (rdi l).2 ≤ l.length := by
  rcases rdi_sound l with h | h <;> omega

/-- A reader in a box: a pen whose names are its own, and what is left. -/
structure RD (B b : Nat) (P : PenD) (sv : Value) (ev : Value) (l : List UInt8) (X : World) : Prop where
  er : EvE X ev
  ne : 0 ≠ b
  box : Box X b 65 (.int .i64 P.last) sv [.string (txt l)]
  own : ownS X B sv P.sites
theorem RD.later {B b : Nat} {P : PenD} {sv ev : Value} {l : List UInt8} {X Y : World} (h : RD B b P sv ev l X) (k : Below X.heap.size X Y) : RD B b P sv ev l Y :=
  ⟨evE_later h.er k, h.ne, h.box.later k, row_later h.own k⟩
theorem RD.set {B b : Nat} {P : PenD} {sv ev : Value} {l : List UInt8} {X : World} (h : RD B b P sv ev l X) (l' : List UInt8) : RD B b P sv ev l' (X.setCell ⟨b, 2, none⟩ (.string (txt l'))) := by
  refine ⟨⟨?_, h.er.2⟩, h.ne, h.box.set2 _, row_same h.own (fun g hg => ?_)⟩
  · rw [World.cell?_of_block (w := X) (Below.heap_setCell _ _ _ _ h.ne)]
    exact h.er.1
  · obtain ⟨cur, hk⟩ := row_kind h.own g hg
    exact Below.heap_setCell _ _ _ _ (kind_ne hk h.box (by decide))
theorem RD.pen {B b : Nat} {P : PenD} {sv ev : Value} {l : List UInt8} {X : World} (h : RD B b P sv ev l X) : PenAt b P sv X := by
  obtain ⟨sa, sc, rfl, hr⟩ := rdS_own h.own
  obtain ⟨c0, c1, -, -⟩ := h.box.cells
  refine ⟨sa, sc, rfl, c0, c1, hr.out, ?_⟩
  rcases ownS_form h.own with ⟨e, e2⟩ | ⟨g, cap, e, -, -, hn, -, -⟩
  · simp only [Value.slice.injEq] at e
    rw [e2]
    exact Nat.zero_le _
  · simp only [Value.slice.injEq] at e
    rw [e.2.2]
    exact hn
theorem Mv.refl (b : Nat) (X : World) : Mv b none X X := Mv.of (Below.refl _ _)
theorem Mv.trans {b : Nat} {X Y Z : World} (h : Mv b none X Y) (k : Mv b none Y Z) : Mv b none X Z :=
  ⟨k.os.trans h.os, k.tape.trans h.tape, k.output.trans h.output, Nat.le_trans h.size k.size, fun g hg hn _ => (k.block g (Nat.lt_of_lt_of_le hg h.size) hn (by simp)).trans (h.block g hg hn (by simp))⟩
/-- What a step of a reader leaves. -/
def PostR (B b : Nat) (P : PenD) (sv ev : Value) (r : Option (Value × List UInt8)) (X : World) (e : Ending) (Y : World) : Prop :=
  (∀ x l', r = some (x, l') → e = .returned x ∧ RD B b P sv ev l' Y) ∧ (r = none → e = .panicked (pan ev) ∧ ∃ l2, RD B b P sv ev l2 Y) ∧ Mv b none X Y
theorem postR_no {B b : Nat} {P : PenD} {sv ev : Value} {l2 : List UInt8} {X Y : World} (h : RD B b P sv ev l2 Y) (k : Mv b none X Y) : PostR B b P sv ev none X (.panicked (pan ev)) Y :=
  ⟨fun _ _ h => (nomatch h), fun _ => ⟨rfl, _, h⟩, k⟩
theorem postR_yes {B b : Nat} {P : PenD} {sv ev x : Value} {l' : List UInt8} {X Y : World} (h : RD B b P sv ev l' Y) (k : Mv b none X Y) : PostR B b P sv ev (some (x, l')) X (.returned x) Y :=
  ⟨fun x2 l2 e => by obtain ⟨rfl, rfl⟩ := Prod.mk.injEq _ _ _ _ ▸ Option.some.inj e; exact ⟨rfl, h⟩, fun h => (nomatch h), k⟩

theorem skip_calls (B b : Nat) (P : PenD) (sv ev : Value) (l : List UInt8) (k : Nat) (X : World) (h : RD B b P sv ev l X) (hk : k ≤ l.length) (hl : l.length ≤ 1048576) :
    Calls Tryd.prog 95 #[.pointer (some ⟨b, 0, none⟩), .int .i64 (k : Int)] X fun e Y => PostR B b P sv ev (if k = 0 then none else some (.tuple #[], l.drop k)) X e Y := by
  have HR : Hid (RD B b P sv ev l X) := h
  by_cases h0 : k = 0
  · rw [if_pos h0]
    have CM : Hid (∀ _ : Unit, _) := fun (_ : Unit) => must_no X ev h.er
    subst h0
    clear h hk hl
    go_enter Tryd.func95, Tryd.ntmps95
    go_wp2_with fail
    refine (CM.out ()).mono ?_
    rintro e w1 ⟨rfl, hw1⟩
    subst hw1
    go_wp2
    exact ⟨rfl, postR_no HR.out (Mv.refl _ _)⟩
  · rw [if_neg h0]
    have CM : Hid (∀ _ : Unit, _) := fun (_ : Unit) => must_yes X
    have c2 := h.box.cell2
    have f2 := h.box.cells.2.2.1 2
    have hx : (txt l).extract k l.length = txt (l.drop k) := txt_from l k
    have hls : (txt l).size = l.length := rfl
    have HF : Hid (PostR B b P sv ev (some (.tuple #[], l.drop k)) X (.returned (.tuple #[])) (X.setCell ⟨b, 2, none⟩ (.string (txt (l.drop k))))) :=
      postR_yes (h.set _) ((Mv.refl b X).set 2 _)
    clear h HR
    generalize txt (l.drop k) = t at *
    have hk0 : 0 < k := by omega
    have hd : decide (0 < k) = true := decide_eq_true hk0
    have hk1 : (k : Int) ≤ (l.length : Int) := by omega
    clear h0 hk
    generalize l.length = m at *
    go_enter Tryd.func95, Tryd.ntmps95
    go_wp2_with fail
    refine (CM.out ()).mono ?_
    rintro e w1 ⟨rfl, hw1⟩
    subst hw1
    go_wp2
    go_end0
    exact HF.out

theorem iReadInt_l (l : List UInt8) (x : Int) (k : Nat) (w : World) (hs : l.length ≤ 1048576) (hv : rdi l = (x, k)) :
    Calls Tryd.prog 94 #[.string (txt l)] w fun e w' => e = .returned (.tuple #[.int .i64 x, .int .i64 (k : Int)]) ∧ w' = w := by
  have h := iReadInt_calls (txt l) w hs
  have e : (txt l).data.toList = l := rfl
  rw [e, hv] at h
  exact h
theorem iReadVar_r (l : List UInt8) (c k : Nat) (w : World) (hs : l.length ≤ 1048576) (hv : rdv l = (c, k)) :
    Calls Tryd.prog 97 #[.string (txt l)] w fun e w' => e = .returned (.tuple #[.int .i64 (c : Int), .int .i64 (k : Int)]) ∧ w' = w := by
  have h := iReadVar_txt l w hs
  rw [hv] at h
  exact h

/-- A number. -/
def numR (a : Int) (l : List UInt8) : Option (Value × List UInt8) := (rNum a l).map fun p => (.int .i64 p.1, p.2)
set_option maxHeartbeats 1000000 in
theorem rNum_calls (B b : Nat) (P : PenD) (sv ev : Value) (l : List UInt8) (a : Int) (X : World) (h : RD B b P sv ev l X) (hl : l.length ≤ 1048576) (ha : okZ a) :
    Calls Tryd.prog 80 #[.pointer (some ⟨b, 0, none⟩), .int .i64 a] X fun e Y => PostR B b P sv ev (numR a l) X e Y := by
  obtain ⟨x, k, hr⟩ : ∃ x k, rdi l = (x, k) := ⟨_, _, rfl⟩
  have hxb := rdi_bd l
  have hkl := rdi_le l
  rw [hr] at hxb hkl
  have CI : Hid (∀ _ : Unit, _) := fun (_ : Unit) => iReadInt_l l x k X hl hr
  have CK : Hid (∀ _ : Unit, _) := fun (_ : Unit) => skip_calls B b P sv ev l k X h hkl hl
  have c2 := h.box.cell2
  by_cases h0 : k = 0
  · have e : numR a l = none := by unfold numR rNum; rw [hr, if_pos h0]; rfl
    rw [if_pos h0] at CK
    rw [e]
    clear h hr e h0 hl ha hxb hkl
    go_enter Tryd.func80, Tryd.ntmps80
    go_wp2_with fail
    refine (CI.out ()).mono ?_
    rintro e w1 ⟨rfl, hw1⟩
    subst hw1
    go_wp2_with fail
    refine (CK.out ()).mono ?_
    rintro e w2 ⟨-, hn, mv⟩
    obtain ⟨rfl, l2, h2⟩ := hn rfl
    go_wp2
    exact ⟨rfl, postR_no h2 mv⟩
  · rw [if_neg h0] at CK
    have hw : wrap64 (a + x) = a + x := wrap64_in (by simp only at hxb; omega) (by simp only at hxb; omega)
    by_cases hz : okZ (a + x)
    · have e : numR a l = some (.int .i64 (a + x), l.drop k) := by unfold numR rNum; rw [hr, if_neg h0, if_pos hz]; rfl
      rw [e]
      have CB : Hid (∀ Y : World, _) := fun Y => bounded_yes (a + x) Y hz
      have CM : Hid (∀ Y : World, _) := fun Y => must_yes Y
      clear h hr e h0 hl ha hxb hkl hz
      go_enter Tryd.func80, Tryd.ntmps80
      go_wp2_with fail
      refine (CI.out ()).mono ?_
      rintro e w1 ⟨rfl, hw1⟩
      subst hw1
      go_wp2_with fail
      refine (CK.out ()).mono ?_
      rintro e w2 ⟨hy, -, mv⟩
      obtain ⟨rfl, h2⟩ := hy _ _ rfl
      have HF : Hid (PostR B b P sv ev (some (.int .i64 (a + x), l.drop k)) w1 (.returned (.int .i64 (wrap64 (a + x)))) w2) := by rw [hw]; exact postR_yes h2 mv
      clear hy h2 mv c2
      go_wp2_with fail
      refine (CB.out _).mono ?_
      rintro e w3 ⟨rfl, hw3⟩
      subst hw3
      go_wp2_with fail
      refine (CM.out _).mono ?_
      rintro e w3 ⟨rfl, hw3⟩
      subst hw3
      go_wp2
      go_ret
      exact HF.out
    · have e : numR a l = none := by unfold numR rNum; rw [hr, if_neg h0, if_neg hz]; rfl
      rw [e]
      have CB : Hid (∀ Y : World, _) := fun Y => bounded_no (a + x) Y hz
      have CM : Hid (∀ Y : World, EvE Y ev → _) := fun Y hY => must_no Y ev hY
      clear h hr e h0 hl ha hxb hkl hz
      go_enter Tryd.func80, Tryd.ntmps80
      go_wp2_with fail
      refine (CI.out ()).mono ?_
      rintro e w1 ⟨rfl, hw1⟩
      subst hw1
      go_wp2_with fail
      refine (CK.out ()).mono ?_
      rintro e w2 ⟨hy, -, mv⟩
      obtain ⟨rfl, h2⟩ := hy _ _ rfl
      have HF : Hid (PostR B b P sv ev none w1 (.panicked (pan ev)) w2) := postR_no h2 mv
      have HE : Hid (EvE w2 ev) := h2.er
      clear hy h2 mv c2
      go_wp2_with fail
      refine (CB.out _).mono ?_
      rintro e w3 ⟨rfl, hw3⟩
      subst hw3
      go_wp2_with fail
      refine (CM.out _ HE.out).mono ?_
      rintro e w3 ⟨rfl, hw3⟩
      subst hw3
      go_wp2
      exact ⟨rfl, HF.out⟩

/-- A count. -/
def cntR (m : Nat) (l : List UInt8) : Option (Value × List UInt8) := (rCnt m l).map fun p => (.int .i64 (p.1 : Int), p.2)
set_option maxHeartbeats 1000000 in
theorem rCnt_calls (B b : Nat) (P : PenD) (sv ev : Value) (l : List UInt8) (m : Nat) (X : World) (h : RD B b P sv ev l X) (hl : l.length ≤ 1048576) :
    Calls Tryd.prog 82 #[.pointer (some ⟨b, 0, none⟩), .int .i64 (m : Int)] X fun e Y => PostR B b P sv ev (cntR m l) X e Y := by
  obtain ⟨x, k, hr⟩ : ∃ x k, rdv l = (x, k) := ⟨_, _, rfl⟩
  obtain ⟨hxb, hkl⟩ := rdv_le l
  rw [hr] at hxb hkl
  have CI : Hid (∀ _ : Unit, _) := fun (_ : Unit) => iReadVar_r l x k X hl hr
  have CK : Hid (∀ _ : Unit, _) := fun (_ : Unit) => skip_calls B b P sv ev l k X h hkl hl
  have c2 := h.box.cell2
  by_cases h0 : k = 0
  · have e : cntR m l = none := by unfold cntR rCnt; rw [hr, if_pos h0]; rfl
    rw [if_pos h0] at CK
    rw [e]
    clear h hr e h0 hl hxb hkl
    go_enter Tryd.func82, Tryd.ntmps82
    go_wp2_with fail
    refine (CI.out ()).mono ?_
    rintro e w1 ⟨rfl, hw1⟩
    subst hw1
    go_wp2_with fail
    refine (CK.out ()).mono ?_
    rintro e w2 ⟨-, hn, mv⟩
    obtain ⟨rfl, l2, h2⟩ := hn rfl
    go_wp2
    exact ⟨rfl, postR_no h2 mv⟩
  · rw [if_neg h0] at CK
    by_cases hz : x ≤ m
    · have e : cntR m l = some (.int .i64 (x : Int), l.drop k) := by unfold cntR rCnt; rw [hr, if_neg h0, if_pos hz]; rfl
      rw [e]
      have CM : Hid (∀ Y : World, _) := fun Y => must_yes Y
      have hd : decide (x ≤ m) = true := decide_eq_true hz
      clear h hr e h0 hl hxb hkl
      go_enter Tryd.func82, Tryd.ntmps82
      go_wp2_with fail
      refine (CI.out ()).mono ?_
      rintro e w1 ⟨rfl, hw1⟩
      subst hw1
      go_wp2_with fail
      refine (CK.out ()).mono ?_
      rintro e w2 ⟨hy, -, mv⟩
      obtain ⟨rfl, h2⟩ := hy _ _ rfl
      have HF : Hid (PostR B b P sv ev (some (.int .i64 (x : Int), l.drop k)) w1 (.returned (.int .i64 (x : Int))) w2) := postR_yes h2 mv
      clear hy h2 mv c2
      go_wp2_with fail
      refine (CM.out _).mono ?_
      rintro e w3 ⟨rfl, hw3⟩
      subst hw3
      go_wp2
      go_ret
      exact HF.out
    · have e : cntR m l = none := by unfold cntR rCnt; rw [hr, if_neg h0, if_neg hz]; rfl
      rw [e]
      have CM : Hid (∀ Y : World, EvE Y ev → _) := fun Y hY => must_no Y ev hY
      have hd : decide (x ≤ m) = false := decide_eq_false hz
      clear h hr e h0 hl hxb hkl
      go_enter Tryd.func82, Tryd.ntmps82
      go_wp2_with fail
      refine (CI.out ()).mono ?_
      rintro e w1 ⟨rfl, hw1⟩
      subst hw1
      go_wp2_with fail
      refine (CK.out ()).mono ?_
      rintro e w2 ⟨hy, -, mv⟩
      obtain ⟨rfl, h2⟩ := hy _ _ rfl
      have HF : Hid (PostR B b P sv ev none w1 (.panicked (pan ev)) w2) := postR_no h2 mv
      have HE : Hid (EvE w2 ev) := h2.er
      clear hy h2 mv c2
      go_wp2_with fail
      refine (CM.out _ HE.out).mono ?_
      rintro e w3 ⟨rfl, hw3⟩
      subst hw3
      go_wp2
      exact ⟨rfl, HF.out⟩

end Go.Proofs.YtcjpepdagnifiaaDoor

namespace Go.Proofs.YtcjpepdagnifiaaDoor
open Go.RowKit
set_option linter.unusedVariables false
set_option maxRecDepth 100000

/-- What is read of a name at a place, and the place behind; -1 where there is none. -/
def nmS (ss : List (List UInt8)) (l : List UInt8) (at' : Nat) : List UInt8 × Int :=
  if (rdv (l.drop at')).2 = 0 ∨ ss.length < (rdv (l.drop at')).1 then ([], -1)
  else if 0 < (rdv (l.drop at')).1 then (ss.getD ((rdv (l.drop at')).1 - 1) [], ((at' + (rdv (l.drop at')).2 : Nat) : Int))
  else if (rdt (l.drop (at' + (rdv (l.drop at')).2))).2 = 0 then ([], -1)
  else ((rdt (l.drop (at' + (rdv (l.drop at')).2))).1, ((at' + (rdv (l.drop at')).2 + (rdt (l.drop (at' + (rdv (l.drop at')).2))).2 : Nat) : Int))

set_option maxHeartbeats 1000000 in
theorem sName_calls (v : Value) (P : PenD) (l : List UInt8) (at' : Nat) (w : World) (h : RdP w v P) (hs : SmallP P) (hl : l.length ≤ 1048576) (hat : at' ≤ l.length) :
    Calls Tryd.prog 26 #[v, .string (txt l), .int .i64 (at' : Int)] w fun e w' => e = .returned (.tuple #[.string (txt (nmS P.sites l at').1), .int .i64 (nmS P.sites l at').2]) ∧ Below w.heap.size w w' := by
  obtain ⟨sa, sc, rfl, rs⟩ := h
  have hx : (txt l).extract at' l.length = txt (l.drop at') := txt_from l at'
  have hls : (txt l).size = l.length := rfl
  have ha1 : (at' : Int) ≤ (l.length : Int) := by omega
  obtain ⟨n, k, hv⟩ : ∃ n k, rdv (l.drop at') = (n, k) := ⟨_, _, rfl⟩
  have hle := rdv_le (l.drop at')
  rw [hv, List.length_drop] at hle
  obtain ⟨hn49, hkl⟩ := hle
  simp only at hn49 hkl
  have hn0 := hs.sites
  have CV : Hid (∀ X : World, _) := fun X => sReadVar_txt (l.drop at') n k X (by rw [List.length_drop]; omega) hv
  obtain ⟨W, hW⟩ : ∃ W, W = w.alloc (.cells #[.int .i64 P.last, .slice sa P.sites.length sc] 31) := ⟨_, rfl⟩
  have BW : Below w.heap.size w W := by rw [hW]; exact (Below.refl _ _).alloc (Nat.le_refl _) _
  have HK : Hid (∀ X, Below W.heap.size W X → X.cell? ⟨w.heap.size, 0, none⟩ = some (.int .i64 P.last) ∧ X.cell? ⟨w.heap.size, 1, none⟩ = some (.slice sa P.sites.length sc)) := fun X hX => by
    have hz : W.heap.size = w.heap.size + 1 := by rw [hW]; simp
    exact two_kept w 31 (.int .i64 P.last) (.slice sa P.sites.length sc) X (by rw [hz, hW] at hX; exact hX)
  have HB : Hid (∀ X, Below W.heap.size W X → Below w.heap.size w X) := fun X hX => BW.trans (hX.mono BW.size)
  have HRS : Hid (∀ X, Below W.heap.size W X → RdS X sa P.sites) := fun X hX => rdS_later rs (HB.out X hX)
  have hb0 : Below W.heap.size W W := Below.refl _ _
  clear rs BW
  by_cases h0 : k = 0
  · have e : nmS P.sites l at' = ([], -1) := by unfold nmS; rw [hv, if_pos (.inl h0)]
    rw [e]
    have hd : ((k : Int) == 0) = true := by rw [h0]; rfl
    clear e hv h0 hn49 hkl hn0 hs hl HRS
    generalize P.sites.length = N at *
    generalize l.length = M at *
    go_enter Tryd.func26, Tryd.ntmps26
    go_wp2_with fail
    rw [← hW]
    clear hW
    refine (CV.out _).mono ?_
    rintro e w1 ⟨rfl, b1⟩
    obtain ⟨c0, c1⟩ := HK.out _ b1
    have HF := HB.out _ b1
    go_wp2
    go_ret2
    exact ⟨rfl, HF⟩
  have hd : ((k : Int) == 0) = false := by rw [beq_eq_false_iff_ne]; omega
  by_cases h1 : P.sites.length < n
  · have e : nmS P.sites l at' = ([], -1) := by unfold nmS; rw [hv, if_pos (.inr h1)]
    rw [e]
    have hlt : (P.sites.length : Int) < (n : Int) := by omega
    have hd2 : decide (P.sites.length < n) = true := decide_eq_true h1
    clear e hv h0 hn49 hkl hn0 hs hl HRS
    generalize P.sites.length = N at *
    generalize l.length = M at *
    go_enter Tryd.func26, Tryd.ntmps26
    go_wp2_with fail
    rw [← hW]
    clear hW
    refine (CV.out _).mono ?_
    rintro e w1 ⟨rfl, b1⟩
    obtain ⟨c0, c1⟩ := HK.out _ b1
    have HF := HB.out _ b1
    go_wp2
    go_ret2
    exact ⟨rfl, HF⟩
  have hd2 : decide (P.sites.length < n) = false := decide_eq_false h1
  have hw1 : wrap64 ((at' : Int) + (k : Int)) = ((at' + k : Nat) : Int) := by rw [wrap64_in (by omega) (by omega)]; omega
  have hgt : ¬ ((P.sites.length : Int) < (n : Int)) := by omega
  by_cases h2 : 0 < n
  · obtain ⟨j, hj⟩ : ∃ j, n = j + 1 := ⟨n - 1, by omega⟩
    have hjl : j < P.sites.length := by omega
    have e : nmS P.sites l at' = (P.sites[j], ((at' + k : Nat) : Int)) := by
      unfold nmS
      rw [hv, if_neg (by simp only; omega)]
      simp only
      rw [if_pos h2, hj, Nat.add_sub_cancel, List.getD_eq_getElem?_getD, List.getElem?_eq_getElem hjl]
      rfl
    rw [e]
    simp only
    have hd3 : decide (0 < n) = true := decide_eq_true h2
    have hw2 : wrap64 ((n : Int) - 1) = (j : Int) := by rw [wrap64_in (by omega) (by omega)]; omega
    have hj0 : (0 : Int) ≤ (j : Int) := by omega
    have hj1 : (j : Int) < (P.sites.length : Int) := by omega
    have HROW : Hid (∀ X, Below W.heap.size W X → ∃ g off, sa = some ⟨g, off, none⟩ ∧ X.cell? ⟨g, off + j, none⟩ = some (.string (txt P.sites[j]))) := fun X hX => by
      obtain ⟨g, off, e1, -, e2⟩ := HRS.out X hX j hjl
      exact ⟨g, off, e1, e2⟩
    clear e hv h0 h1 hn49 hkl hs hl HRS hn0 hj
    generalize txt P.sites[j] = t at *
    generalize P.sites.length = N at *
    generalize l.length = M at *
    generalize ((at' + k : Nat) : Int) = pz at *
    have HEQ : Hid (Ending.returned (.tuple #[.string t, .int .i64 (wrap64 ((at' : Int) + (k : Int)))]) = .returned (.tuple #[.string t, .int .i64 pz])) := by rw [hw1]; exact rfl
    go_enter Tryd.func26, Tryd.ntmps26
    go_wp2_with fail
    rw [← hW]
    clear hW
    refine (CV.out _).mono ?_
    rintro e w1 ⟨rfl, b1⟩
    obtain ⟨c0, c1⟩ := HK.out _ b1
    obtain ⟨g, off, rfl, cg⟩ := HROW.out _ b1
    have HF := HB.out _ b1
    go_wp2
    go_ret2
    exact ⟨HEQ.out, HF⟩
  obtain rfl : n = 0 := by omega
  have hx2 : (txt l).extract (at' + k) l.length = txt (l.drop (at' + k)) := txt_from l (at' + k)
  have ha2 : ((at' + k : Nat) : Int) ≤ (l.length : Int) := by omega
  obtain ⟨t, m, hr⟩ : ∃ t m, rdt (l.drop (at' + k)) = (t, m) := ⟨_, _, rfl⟩
  have CT : Hid (∀ X : World, Calls Tryd.prog 48 #[.string (txt (l.drop (at' + k)))] X fun e w' => e = .returned (.tuple #[.string (txt t), .int .i64 (m : Int)]) ∧ Below X.heap.size X w') := fun X => by
    have hh := sReadText_calls (l.drop (at' + k)) X (by rw [List.length_drop]; omega)
    rw [hr] at hh
    exact hh
  have hml : m ≤ l.length := by
    rcases rdt_sound (l.drop (at' + k)) with h | ⟨-, h, -⟩
    · rw [hr] at h; simp only at h; omega
    · rw [hr, List.length_drop] at h; simp only at h; omega
  by_cases hm : m = 0
  · have e : nmS P.sites l at' = ([], -1) := by
      unfold nmS
      rw [hv, if_neg (by simp only; omega)]
      simp only
      rw [if_neg (by omega), hr, if_pos hm]
    rw [e]
    have hd4 : ((m : Int) == 0) = true := by rw [hm]; rfl
    clear e hv h0 h1 hn49 hs HRS hr hm
    generalize P.sites.length = N at *
    go_enter Tryd.func26, Tryd.ntmps26
    go_wp2_with fail
    rw [← hW]
    clear hW
    refine (CV.out _).mono ?_
    rintro e w1 ⟨rfl, b1⟩
    obtain ⟨c0, c1⟩ := HK.out _ b1
    go_wp2_with fail
    refine (CT.out _).mono ?_
    rintro e w2 ⟨rfl, b2⟩
    have HF := HB.out _ (b1.trans (b2.mono b1.size))
    clear c0 c1
    go_wp2
    go_ret2
    exact ⟨rfl, HF⟩
  · have hw3 : wrap64 (((at' + k : Nat) : Int) + (m : Int)) = ((at' + k + m : Nat) : Int) := by rw [wrap64_in (by omega) (by omega)]; omega
    have hw4 : wrap64 ((at' : Int) + (k : Int) + (m : Int)) = ((at' + k + m : Nat) : Int) := by rw [wrap64_in (by omega) (by omega)]; omega
    have e : nmS P.sites l at' = (t, ((at' + k + m : Nat) : Int)) := by
      unfold nmS
      rw [hv, if_neg (by simp only; omega)]
      simp only
      rw [if_neg (by omega), hr, if_neg hm]
    rw [e]
    simp only
    have hd4 : ((m : Int) == 0) = false := by rw [beq_eq_false_iff_ne]; omega
    have HEQ : Hid (Ending.returned (.tuple #[.string (txt t), .int .i64 ((at' : Int) + (k : Int) + (m : Int))]) = .returned (.tuple #[.string (txt t), .int .i64 ((at' + k + m : Nat) : Int)])) := by
      rw [show (at' : Int) + (k : Int) + (m : Int) = ((at' + k + m : Nat) : Int) by omega]
      exact rfl
    clear e hv h0 h1 hn49 hs HRS hr hm
    generalize P.sites.length = N at *
    go_enter Tryd.func26, Tryd.ntmps26
    go_wp2_with fail
    rw [← hW]
    clear hW
    refine (CV.out _).mono ?_
    rintro e w1 ⟨rfl, b1⟩
    obtain ⟨c0, c1⟩ := HK.out _ b1
    go_wp2_with fail
    refine (CT.out _).mono ?_
    rintro e w2 ⟨rfl, b2⟩
    have HF := HB.out _ (b1.trans (b2.mono b1.size))
    clear c0 c1
    go_wp2
    go_ret2
    refine ⟨?_, HF⟩
    first | exact HEQ.out | rfl

end Go.Proofs.YtcjpepdagnifiaaDoor

namespace Go.Proofs.YtcjpepdagnifiaaDoor
open Go.RowKit
set_option linter.unusedVariables false
set_option maxRecDepth 100000

/-- So many numbers, from a place on. -/
def intsS (l : List UInt8) : Nat → Nat → Option (List Int × Nat)
  | 0, p => some ([], p)
  | n + 1, p => if (rdi (l.drop p)).2 = 0 then none else (intsS l n (p + (rdi (l.drop p)).2)).map fun z => ((rdi (l.drop p)).1 :: z.1, z.2)

def preI (xs : List Int) (r : Option (List Int × Nat)) : Option (List Int × Nat) := r.map fun z => (xs ++ z.1, z.2)
theorem preI_nil (r : Option (List Int × Nat)) : preI [] r = r := by cases r <;> rfl
theorem preI_snoc (xs : List Int) (x : Int) (r : Option (List Int × Nat)) : preI xs (r.map fun z => (x :: z.1, z.2)) = preI (xs ++ [x]) r := by
  cases r with
  | none => rfl
  | some z => simp [preI]
set_option maxHeartbeats 1000000 in
theorem sInts_calls (l : List UInt8) (p n : Nat) (w : World) (hl : l.length ≤ 1048576) (hp : p ≤ l.length) (hn : n ≤ 8) :
    Calls Tryd.prog 25 #[.string (txt l), .int .i64 (p : Int), .int .i64 (n : Int)] w fun e w' => (∃ y k, e = .returned (.tuple #[.slice y ((intsS l n p).map (·.1) |>.getD (List.replicate n 0)).length k, .int .i64 ((intsS l n p).map (fun z => ((z.2 : Nat) : Int)) |>.getD (-1))]) ∧ ownI w' w.heap.size (.slice y ((intsS l n p).map (·.1) |>.getD (List.replicate n 0)).length k) ((intsS l n p).map (·.1) |>.getD (List.replicate n 0))) ∧ Below w.heap.size w w' := by
  have CI : Hid (∀ (X : World) (q : Nat), q ≤ l.length → Calls Tryd.prog 47 #[.string (txt (l.drop q))] X fun e w' => e = .returned (.tuple #[.int .i64 (rdi (l.drop q)).1, .int .i64 ((rdi (l.drop q)).2 : Int)]) ∧ Below X.heap.size X w') := fun X q hq =>
    sReadInt_calls (txt (l.drop q)) X (by rw [txt_size, List.length_drop]; omega)
  have HX : Hid (∀ q, (txt l).extract q l.length = txt (l.drop q)) := fun q => txt_from l q
  have hls : (txt l).size = l.length := rfl
  go_enter Tryd.func25, Tryd.ntmps25
  go_wp2
  go_loopw [1, 8, 9] (fun a o i wr => ∃ (j : Nat) (xs : List Int) (q : Nat) (y : Option Addr) (k : Nat), i = .int .i64 (j : Int) ∧ j ≤ n ∧ a = .int .i64 (q : Int) ∧ o = .slice y xs.length k ∧ Hid (xs.length = j) ∧ Hid (q ≤ l.length) ∧ Hid (intsS l n p = preI xs (intsS l (n - j) q)) ∧ Hid (ownI wr w.heap.size (.slice y xs.length k) xs) ∧ Hid (Below w.heap.size w wr)) (fun _ _ i _ => n - (intOf i).toNat)
  case atStart => exact ⟨0, [], p, some ⟨w.heap.size, 0, none⟩, 0, rfl, Nat.zero_le _, rfl, rfl, rfl, hp, (preI_nil _).symm, ownI_new w _ (Nat.le_refl _), (Below.refl _ _).alloc (Nat.le_refl _) _⟩
  case round =>
    obtain ⟨j, xs, q, y, k, rfl, hj, rfl, rfl, HXL, HQ, HE, HO, HB⟩ := hrel
    by_cases hlt : j < n
    · have i1 : (j : Int) < (n : Int) := by omega
      have hmj : n - j = (n - (j + 1)) + 1 := by omega
      have hx := HX.out q
      have hq1 : (q : Int) ≤ (l.length : Int) := by have := HQ.out; omega
      have CJ := CI.out
      obtain ⟨x, m, hr⟩ : ∃ x m, rdi (l.drop q) = (x, m) := ⟨_, _, rfl⟩
      have CQ : Hid (∀ X : World, _) := fun X => CI.out X q HQ.out
      rw [hr] at CQ
      clear CJ
      by_cases hm : m = 0
      · have e : intsS l n p = none := by
          rw [HE.out, hmj]
          unfold intsS
          rw [hr, if_pos hm]
          rfl
        have hd : ((m : Int) == 0) = true := by rw [hm]; rfl
        have HN : Hid (intsS l n p = none) := e
        clear e hm hr HE HXL CI HX
        go_wp2_with fail
        refine (CQ.out _).mono ?_
        rintro e w1 ⟨rfl, b1⟩
        have B1 : Below w.heap.size w w1 := HB.out.trans (b1.mono HB.out.size)
        have hsz := B1.size
        obtain ⟨u, hmk, O1, B2⟩ := make_ints n (by omega) w1
        have HO1 : Hid (ownI u w.heap.size (.slice (some ⟨w1.heap.size, 0, none⟩) (List.replicate n (0 : Int)).length n) (List.replicate n 0)) := by rw [List.length_replicate]; exact ownI_mono O1 hsz
        have HB1 : Hid (Below w.heap.size w u) := B1.trans (B2.mono hsz)
        clear HO HB b1 O1 B2 B1
        go_wp2
        go_ret2
        refine ⟨⟨some ⟨w1.heap.size, 0, none⟩, n, ?_, ?_⟩, HB1.out⟩
        · rw [HN.out]
          simp
        · rw [HN.out]
          have h9 := HO1.out
          rw [List.length_replicate] at h9
          show ownI u w.heap.size (.slice (some ⟨w1.heap.size, 0, none⟩) (List.replicate n (0 : Int)).length n) (List.replicate n 0)
          rw [List.length_replicate]
          exact h9
      · have hs2 : m ≤ (l.drop q).length := by have := rdi_le (l.drop q); rw [hr] at this; exact this
        rw [List.length_drop] at hs2
        have HQ2 : Hid (q + m ≤ l.length) := by have := HQ.out; show _ ≤ _; omega
        have HE2 : Hid (intsS l n p = preI (xs ++ [x]) (intsS l (n - (j + 1)) (q + m))) := by
          unfold Hid
          rw [HE.out, hmj, ← preI_snoc]
          congr 1
          show (if (rdi (l.drop q)).2 = 0 then none else (intsS l (n - (j + 1)) (q + (rdi (l.drop q)).2)).map fun z => ((rdi (l.drop q)).1 :: z.1, z.2)) = _
          rw [hr, if_neg hm]
        have hd : ((m : Int) == 0) = false := by rw [beq_eq_false_iff_ne]; omega
        have hw : wrap64 ((q : Int) + (m : Int)) = ((q + m : Nat) : Int) := by have := HQ2.out; rw [wrap64_in (by omega) (by omega)]; omega
        have HW2 : Hid (Value.int .i64 (wrap64 ((q : Int) + (m : Int))) = .int .i64 ((q + m : Nat) : Int)) := by rw [hw]; exact rfl
        clear hm hr HE CI HX hs2 hw
        go_wp2_with fail
        refine (CQ.out _).mono ?_
        rintro e w1 ⟨rfl, b1⟩
        have B1 : Below w.heap.size w w1 := HB.out.trans (b1.mono HB.out.size)
        have hsz := B1.size
        have hown : ownI w1 w.heap.size (.slice y xs.length k) xs := ownI_later HO.out b1
        have hln : xs.length ≤ 8 := by have := HXL.out; omega
        clear HO HB b1
        go_wp2_with (at_builtin; go_loud (refine wpList_appendI rfl _ _ rfl w.heap.size _ xs rfl (ownI_alloc _ hown) ⟨w1.heap.size, 0, none⟩ [x] 1 1 rfl rfl ?hsrc ?hlen w (B1.alloc hsz _) (Nat.le_refl _) ?_))
        case hsrc => exact src_int _ _
        case hlen => simp; omega
        intro v6 w6 o6 b6
        obtain ⟨y6, k6, rfl, -⟩ := rdI_own o6
        have HO6 : Hid (ownI w6 w.heap.size (.slice y6 (xs ++ [x]).length k6) (xs ++ [x])) := o6
        have HB6 : Hid (Below w.heap.size w w6) := b6
        have HL6 : Hid ((xs ++ [x]).length = j + 1) := by show _ = _; rw [List.length_append, HXL.out]; rfl
        obtain ⟨N, hN⟩ : ∃ N, (xs ++ [x]).length = N := ⟨_, rfl⟩
        rw [hN] at HO6 ⊢
        have HNN : Hid ((xs ++ [x]).length = N) := hN
        clear hN o6 b6 hown B1 hsz
        go_wp2
        go_roundw
        case rel => exact ⟨j + 1, xs ++ [x], q + m, y6, k6, by go_num, by omega, by first | exact HW2.out | rfl | simp, by rw [HNN.out], HL6, HQ2, HE2, by rw [HNN.out]; exact HO6, HB6⟩
        case measure => simp [intOf]; omega
    · have e : intsS l n p = some (xs, q) := by
        rw [HE.out, show n - j = 0 by omega]
        simp [intsS, preI]
      have HN : Hid (intsS l n p = some (xs, q)) := e
      have HB2 := HB.out
      have HO2 : Hid _ := HO.out
      clear e HE HXL CI HX HO HB
      go_wp2
      go_ret2
      refine ⟨⟨y, k, ?_, ?_⟩, HB2⟩
      · rw [HN.out]
        rfl
      · rw [HN.out]
        exact HO2.out

end Go.Proofs.YtcjpepdagnifiaaDoor

namespace Go.Proofs.YtcjpepdagnifiaaDoor
open Go.RowKit
set_option linter.unusedVariables false
set_option maxRecDepth 100000

theorem intsS_facts (l : List UInt8) : ∀ (n p : Nat) (zs : List Int) (q : Nat), p ≤ l.length → intsS l n p = some (zs, q) → zs.length = n ∧ q ≤ l.length ∧ ∀ z ∈ zs, -9000000000000000 ≤ z ∧ z ≤ 9000000000000000
  | 0, p, zs, q, hp, h => by
    obtain ⟨rfl, rfl⟩ := Prod.mk.injEq _ _ _ _ ▸ Option.some.inj h
    exact ⟨rfl, hp, fun z hz => (nomatch hz)⟩
  | n + 1, p, zs, q, hp, h => by
    unfold intsS at h
    split at h
    · cases h
    · rename_i h0
      have hle := rdi_le (l.drop p)
      rw [List.length_drop] at hle
      cases hr : intsS l n (p + (rdi (l.drop p)).2) with
      | none => rw [hr] at h; cases h
      | some y =>
        obtain ⟨ys, q2⟩ := y
        rw [hr] at h
        obtain ⟨rfl, rfl⟩ := Prod.mk.injEq _ _ _ _ ▸ Option.some.inj h
        obtain ⟨h1, h2, h3⟩ := intsS_facts l n _ ys q2 (by omega) hr
        refine ⟨by simp [h1], h2, fun z hz => ?_⟩
        rcases List.mem_cons.1 hz with rfl | hz
        · have := rdi_bd (l.drop p); omega
        · exact h3 z hz

theorem rNum_at {a n : Int} {l r : List UInt8} {p : Nat} (h : rNum a (l.drop p) = some (n, r)) : ∃ x m, rdi (l.drop p) = (x, m) ∧ m ≠ 0 ∧ n = a + x ∧ okZ n ∧ r = l.drop (p + m) := by
  unfold rNum at h
  split at h
  · cases h
  · split at h
    · rename_i h1 h2
      obtain ⟨rfl, rfl⟩ := Prod.mk.injEq _ _ _ _ ▸ Option.some.inj h
      exact ⟨(rdi (l.drop p)).1, (rdi (l.drop p)).2, rfl, h1, rfl, h2, by rw [List.drop_drop]⟩
    · cases h
theorem rCnt_at {m c : Nat} {l r : List UInt8} {p : Nat} (h : rCnt m (l.drop p) = some (c, r)) : ∃ k, rdv (l.drop p) = (c, k) ∧ k ≠ 0 ∧ c ≤ m ∧ r = l.drop (p + k) := by
  unfold rCnt at h
  split at h
  · cases h
  · split at h
    · rename_i h1 h2
      obtain ⟨rfl, rfl⟩ := Prod.mk.injEq _ _ _ _ ▸ Option.some.inj h
      exact ⟨(rdv (l.drop p)).2, rfl, h1, h2, by rw [List.drop_drop]⟩
    · cases h
theorem intsS_cons {l : List UInt8} {n p m : Nat} {x : Int} (h : rdi (l.drop p) = (x, m)) (hm : m ≠ 0) : intsS l (n + 1) p = (intsS l n (p + m)).map fun z => (x :: z.1, z.2) := by
  show (if (rdi (l.drop p)).2 = 0 then none else (intsS l n (p + (rdi (l.drop p)).2)).map fun z => ((rdi (l.drop p)).1 :: z.1, z.2)) = _
  rw [h, if_neg hm]
theorem rName_at {ss : List (List UInt8)} {l x r : List UInt8} {p : Nat} (h : rName ss (l.drop p) = some (x, r)) : ∃ p2 : Nat, nmS ss l p = (x, (p2 : Int)) ∧ r = l.drop p2 := by
  unfold rName at h
  split at h
  · cases h
  · rename_i c r1 hc
    obtain ⟨k, hk, hk0, hcm, rfl⟩ := rCnt_at hc
    split at h
    · rename_i h0
      obtain ⟨rfl, rfl⟩ := Prod.mk.injEq _ _ _ _ ▸ Option.some.inj h
      refine ⟨p + k, ?_, rfl⟩
      unfold nmS
      rw [hk, if_neg (by simp only; omega)]
      simp only
      rw [if_pos h0]
    · rename_i h0
      obtain rfl : c = 0 := by omega
      split at h
      · cases h
      · split at h
        · rename_i h1 h2
          obtain ⟨rfl, rfl⟩ := Prod.mk.injEq _ _ _ _ ▸ Option.some.inj h
          refine ⟨p + k + (rdt (l.drop (p + k))).2, ?_, by rw [List.drop_drop]⟩
          unfold nmS
          rw [hk, if_neg (by simp only; omega)]
          simp only
          rw [if_neg (by omega), if_neg h1]
        · cases h
theorem nmS_facts (ss : List (List UInt8)) (l : List UInt8) (p : Nat) (hp : p ≤ l.length) : (nmS ss l p).2 < 0 ∨ ∃ p2 : Nat, (nmS ss l p).2 = (p2 : Int) ∧ p2 ≤ l.length ∧ ((nmS ss l p).1 ∈ ss ∨ (nmS ss l p).1.length ≤ 8) := by
  have hle := (rdv_le (l.drop p)).2
  rw [List.length_drop] at hle
  unfold nmS
  split
  · exact .inl (by decide)
  · rename_i h0
    split
    · rename_i h1
      refine .inr ⟨p + (rdv (l.drop p)).2, rfl, by omega, .inl ?_⟩
      have hlt : (rdv (l.drop p)).1 - 1 < ss.length := by omega
      simp only
      rw [List.getD_eq_getElem?_getD, List.getElem?_eq_getElem hlt]
      exact List.getElem_mem hlt
    · split
      · exact .inl (by decide)
      · rename_i h2
        rcases rdt_sound (l.drop (p + (rdv (l.drop p)).2)) with h | ⟨h3, h4, -⟩
        · exact absurd h h2
        · rw [List.length_drop] at h4
          exact .inr ⟨_, rfl, by omega, .inr h3⟩

/-- What was freed, told by how much more each is than the one ahead. -/
def accF : Int → List Int → List Int
  | _, [] => []
  | a, x :: r => wrap64 (a + x) :: accF (wrap64 (a + x)) r
theorem accF_length : ∀ (fs : List Int) (a : Int), (accF a fs).length = fs.length
  | [], _ => rfl
  | _ :: r, a => by simp [accF, accF_length r]
theorem wrap64_range (x : Int) : in64 (wrap64 x) := by unfold wrap64 in64; omega
theorem accF_in : ∀ (fs : List Int) (a : Int), ∀ z ∈ accF a fs, in64 z
  | [], _, z, hz => (nomatch hz)
  | x :: r, a, z, hz => by
    rcases List.mem_cons.1 hz with rfl | hz
    · exact wrap64_range _
    · exact accF_in r _ z hz
/-- The last of them; the number itself where there is none. -/
def lastF : Int → List Int → Int
  | a, [] => a
  | a, x :: r => lastF (wrap64 (a + x)) r
theorem accF_snoc : ∀ (fs : List Int) (a x : Int), accF a (fs ++ [x]) = accF a fs ++ [wrap64 (lastF a fs + x)]
  | [], a, x => rfl
  | y :: r, a, x => by simp [accF, lastF, accF_snoc r]
theorem lastF_snoc : ∀ (fs : List Int) (a x : Int), lastF a (fs ++ [x]) = wrap64 (lastF a fs + x)
  | [], a, x => rfl
  | y :: r, a, x => by simp [lastF, lastF_snoc r]

theorem okZ_wrap {z : Int} (h : okZ z) : wrap64 z = z := wrap64_in (by omega) (by omega)
theorem rInts_at : ∀ {n : Nat} {a : Int} {l r : List UInt8} {p : Nat} {zs : List Int}, rInts n a (l.drop p) = some (zs, r) → ∃ fs p2, intsS l n p = some (fs, p2) ∧ accF a fs = zs ∧ r = l.drop p2
  | 0, a, l, r, p, zs, h => by
    obtain ⟨rfl, rfl⟩ := Prod.mk.injEq _ _ _ _ ▸ Option.some.inj h
    exact ⟨[], p, rfl, rfl, rfl⟩
  | n + 1, a, l, r, p, zs, h => by
    unfold rInts at h
    split at h
    · cases h
    rename_i z s1 h1
    split at h
    · cases h
    rename_i zs2 s2 h2
    obtain ⟨rfl, rfl⟩ := Prod.mk.injEq _ _ _ _ ▸ Option.some.inj h
    obtain ⟨x, m, hr, hm, rfl, hok, rfl⟩ := rNum_at h1
    obtain ⟨fs, p2, e1, e2, e3⟩ := rInts_at h2
    refine ⟨x :: fs, p2, ?_, ?_, e3⟩
    · rw [intsS_cons hr hm, e1]; rfl
    · simp only [accF]
      rw [okZ_wrap hok, e2]

/-- Each part, at its place. -/
def RawE (P : PenD) (l : List UInt8) (o : OpD) (A : AnsD) : Prop := ∃ (da dc dv : Int) (p1 p2 k1 p3 e p4 : Nat) (fs : List Int), intsS l 4 0 = some ([o.kind, da, o.b, dc], p1) ∧ o.a = wrap64 (da + P.last) ∧ o.c = wrap64 (dc + o.a) ∧ nmS P.sites l p1 = (o.site, (p2 : Int)) ∧
  rdv (l.drop p2) = (A.code.toNat, k1) ∧ A.code = (A.code.toNat : Int) ∧ k1 ≠ 0 ∧ intsS l 1 (p2 + k1) = some ([dv], p3) ∧ A.val = wrap64 (dv + o.a) ∧ rdv (l.drop p3) = (A.freed.length, e) ∧ e ≠ 0 ∧ A.freed.length ≤ 8 ∧ intsS l A.freed.length (p3 + e) = some (fs, p4) ∧ accF o.a fs = A.freed
theorem rEv_raw {P : PenD} {l : List UInt8} {o : OpD} {A : AnsD} (h : rEv P l = some (o, A)) : RawE P l o A := by
  unfold rEv at h
  split at h
  · cases h
  rename_i o' s1 ho
  split at h
  case h_2 => cases h
  rename_i A' hA
  obtain ⟨rfl, rfl⟩ := Prod.mk.injEq _ _ _ _ ▸ Option.some.inj h
  have e0 : l = l.drop 0 := rfl
  unfold rOp at ho
  split at ho
  · cases ho
  rename_i k t1 h1
  rw [e0] at h1
  obtain ⟨x1, m1, r1, n1, rfl, -, rfl⟩ := rNum_at h1
  split at ho
  · cases ho
  rename_i a t2 h2
  obtain ⟨x2, m2, r2, n2, rfl, k2, rfl⟩ := rNum_at h2
  split at ho
  · cases ho
  rename_i b t3 h3
  obtain ⟨x3, m3, r3, n3, rfl, -, rfl⟩ := rNum_at h3
  split at ho
  · cases ho
  rename_i c t4 h4
  obtain ⟨x4, m4, r4, n4, rfl, k4, rfl⟩ := rNum_at h4
  split at ho
  · cases ho
  rename_i x t5 h5
  obtain ⟨p2, h6, rfl⟩ := rName_at h5
  obtain ⟨rfl, rfl⟩ := Prod.mk.injEq _ _ _ _ ▸ Option.some.inj ho
  unfold rAns at hA
  split at hA
  · cases hA
  rename_i cd u1 g1
  obtain ⟨k1, g2, g3, g4, rfl⟩ := rCnt_at g1
  split at hA
  · cases hA
  rename_i v u2 g5
  obtain ⟨x5, m5, r5, n5, rfl, k5, rfl⟩ := rNum_at g5
  split at hA
  · cases hA
  rename_i n u3 g6
  obtain ⟨e, g7, g8, g9, rfl⟩ := rCnt_at g6
  split at hA
  · cases hA
  rename_i zs u4 g10
  have hln := (rInts_sound g10).1
  obtain ⟨fs, p4, g11, g12, -⟩ := rInts_at g10
  obtain ⟨rfl, -⟩ := Prod.mk.injEq _ _ _ _ ▸ Option.some.inj hA
  have e1 : P.last + x2 = x2 + P.last := by omega
  have e2 : P.last + x2 + x4 = x4 + (P.last + x2) := by omega
  have e3 : P.last + x2 + x5 = x5 + (P.last + x2) := by omega
  refine ⟨x2, x4, x5, 0 + m1 + m2 + m3 + m4, p2, k1, p2 + k1 + m5, e, p4, fs, ?_, ?_, ?_, h6, ?_, ?_, g3, ?_, ?_, ?_, g8, ?_, ?_, g12⟩
  · rw [intsS_cons r1 n1, intsS_cons r2 n2, intsS_cons r3 n3, intsS_cons r4 n4]
    simp [intsS]
  · simp only
    rw [← e1, okZ_wrap k2]
  · simp only
    rw [← e2, okZ_wrap k4]
  · simpa using g2
  · simp
  · rw [intsS_cons r5 n5]
    simp [intsS]
  · simp only
    rw [← e3, okZ_wrap k5]
  · simp only
    rw [hln]; exact g7
  · simp only
    omega
  · simp only
    rw [hln]; exact g11

end Go.Proofs.YtcjpepdagnifiaaDoor

namespace Go.Proofs.YtcjpepdagnifiaaDoor
open Go.RowKit
set_option linter.unusedVariables false
set_option maxRecDepth 100000

/-- A name. -/
def nameR (ss : List (List UInt8)) (l : List UInt8) : Option (Value × List UInt8) := (rName ss l).map fun p => (.string (txt p.1), p.2)
theorem rCnt_len {m p : Nat} {l r : List UInt8} (h : rCnt m l = some (p, r)) : r.length ≤ l.length := by
  obtain ⟨-, rfl⟩ := rCnt_sound h
  rw [List.length_append]
  omega
set_option maxHeartbeats 1000000 in
theorem rName_calls (B b : Nat) (P : PenD) (sv ev : Value) (l : List UInt8) (X : World) (h : RD B b P sv ev l X) (hl : l.length ≤ 1048576) (hs : SmallP P) :
    Calls Tryd.prog 81 #[.pointer (some ⟨b, 0, none⟩)] X fun e Y => PostR B b P sv ev (nameR P.sites l) X e Y := by
  obtain ⟨sa, sc, rfl, c0, c1, -, -⟩ := h.pen
  have CC : Hid (∀ _ : Unit, _) := fun (_ : Unit) => rCnt_calls B b P _ ev l P.sites.length X h hl
  clear c0 h
  cases hc : rCnt P.sites.length l with
  | none =>
    have e : nameR P.sites l = none := by unfold nameR rName; rw [hc]; rfl
    have e2 : cntR P.sites.length l = none := by unfold cntR; rw [hc]; rfl
    rw [e2] at CC
    rw [e]
    clear e e2 hc hs hl
    go_enter Tryd.func81, Tryd.ntmps81
    go_wp2_with fail
    refine (CC.out ()).mono ?_
    rintro e w1 ⟨-, hn, mv⟩
    obtain ⟨rfl, l2, h2⟩ := hn rfl
    go_wp2
    exact ⟨rfl, postR_no h2 mv⟩
  | some q =>
    obtain ⟨p, r⟩ := q
    obtain ⟨hp, -⟩ := rCnt_sound hc
    have hrl := rCnt_len hc
    have e2 : cntR P.sites.length l = some (.int .i64 (p : Int), r) := by unfold cntR; rw [hc]; rfl
    rw [e2] at CC
    have hn0 := hs.sites
    by_cases h0 : 0 < p
    · obtain ⟨j, hj⟩ : ∃ j, p = j + 1 := ⟨p - 1, by omega⟩
      have hjl : j < P.sites.length := by omega
      have e : nameR P.sites l = some (.string (txt P.sites[j]), r) := by
        unfold nameR rName
        rw [hc]
        simp only [h0, if_true, Option.map_some]
        rw [hj, Nat.add_sub_cancel, List.getD_eq_getElem?_getD, List.getElem?_eq_getElem hjl]
        rfl
      rw [e]
      have HNM := hs.names _ (List.getElem_mem hjl)
      have HCL : Hid (∀ X : World, _) := fun X => strClone_calls (txt P.sites[j]) X (by rw [txt_size]; omega)
      have HROW : Hid (∀ Y, RD B b P (.slice sa P.sites.length sc) ev r Y → ∃ g, sa = some ⟨g, 0, none⟩ ∧ Y.cell? ⟨g, j, none⟩ = some (.string (txt P.sites[j]))) := fun Y hY => by
        rcases ownS_form hY.own with ⟨-, e⟩ | ⟨g, cap, e, -, hg, -, -, hcc⟩
        · rw [e] at hjl; simp at hjl
        · simp only [Value.slice.injEq] at e
          exact ⟨g, e.1, (hcc.out j hjl).1⟩
      clear e e2 hc hs HNM
      generalize txt P.sites[j] = t at *
      generalize P.sites.length = n at *
      have hd : decide (0 < p) = true := decide_eq_true h0
      have hw : wrap64 ((p : Int) - 1) = (j : Int) := by rw [wrap64_in (by omega) (by omega)]; omega
      have hj0 : (0 : Int) ≤ (j : Int) := by omega
      have hj1 : (j : Int) < (n : Int) := by omega
      clear hj h0 hp hn0
      go_enter Tryd.func81, Tryd.ntmps81
      go_wp2_with fail
      refine (CC.out ()).mono ?_
      rintro e w1 ⟨hy, -, mv⟩
      obtain ⟨rfl, h2⟩ := hy _ _ rfl
      have HR : Hid (RD B b P (.slice sa n sc) ev r w1) := h2
      have HM : Hid (Mv b none X w1) := mv
      obtain ⟨g, rfl, cg⟩ := HROW.out w1 h2
      obtain ⟨-, c1', -, -⟩ := h2.box.cells
      clear hy h2 mv c1 CC HROW
      go_wp2_with fail
      refine (HCL.out _).mono ?_
      rintro e w2 ⟨rfl, b2⟩
      have HF : Hid (PostR B b P (.slice (some ⟨g, 0, none⟩) n sc) ev (some (.string t, r)) X (.returned (.string t)) w2) := postR_yes (HR.out.later b2) (HM.out.trans (Mv.of b2))
      clear cg c1' b2
      go_wp2
      go_ret
      exact HF.out
    · obtain rfl : p = 0 := by omega
      obtain ⟨t, k, hr⟩ : ∃ t k, rdt r = (t, k) := ⟨_, _, rfl⟩
      have hkl : k ≤ r.length := by
        rcases rdt_sound r with h | ⟨-, h, -⟩ <;> rw [hr] at h <;> simp only at h <;> omega
      have CT : Hid (∀ Y : World, Calls Tryd.prog 96 #[.string (txt r)] Y fun e w' => e = .returned (.tuple #[.string (txt t), .int .i64 (k : Int)]) ∧ Below Y.heap.size Y w') := fun Y => by
        have hh := iReadText_calls r Y (by omega)
        rw [hr] at hh
        exact hh
      have CK : Hid (∀ Y, RD B b P (.slice sa P.sites.length sc) ev r Y → _) := fun Y hY => skip_calls B b P _ ev r k Y hY hkl (by omega)
      by_cases hk0 : k = 0
      · have e : nameR P.sites l = none := by unfold nameR rName; rw [hc]; simp only [Nat.lt_irrefl, if_false]; rw [hr, if_pos hk0]; rfl
        rw [e]
        rw [if_pos hk0] at CK
        clear e e2 hc hs hr hkl hn0 hrl hp h0 hk0
        generalize P.sites.length = n at *
        go_enter Tryd.func81, Tryd.ntmps81
        go_wp2_with fail
        refine (CC.out ()).mono ?_
        rintro e w1 ⟨hy, -, mv⟩
        obtain ⟨rfl, h2⟩ := hy _ _ rfl
        have HR : Hid (RD B b P (.slice sa n sc) ev r w1) := h2
        have HM : Hid (Mv b none X w1) := mv
        have c2 := h2.box.cell2
        clear hy h2 mv c1 CC
        go_wp2_with fail
        refine (CT.out _).mono ?_
        rintro e w2 ⟨rfl, b2⟩
        clear c2
        have HR2 : Hid (RD B b P (.slice sa n sc) ev r w2) := HR.out.later b2
        have HM2 : Hid (Mv b none X w2) := HM.out.trans (Mv.of b2)
        clear b2 HR HM
        go_wp2_with fail
        refine (CK.out _ HR2.out).mono ?_
        rintro e w3 ⟨-, hn, mv⟩
        obtain ⟨rfl, l2, h2⟩ := hn rfl
        go_wp2
        exact ⟨rfl, postR_no h2 (HM2.out.trans mv)⟩
      · rw [if_neg hk0] at CK
        have CP : Hid (∀ Y, RD B b P (.slice sa P.sites.length sc) ev (r.drop k) Y → _) := fun Y hY => placeOf_calls b P _ t Y hY.pen hs
        by_cases hz : plZ t P.sites = 0
        · have e : nameR P.sites l = some (.string (txt t), r.drop k) := by unfold nameR rName; rw [hc]; simp only [Nat.lt_irrefl, if_false]; rw [hr]; simp only [hk0, if_false, hz, if_true, Option.map_some]
          rw [e]
          rw [hz] at CP
          have CM : Hid (∀ Y : World, _) := fun Y => must_yes Y
          clear e e2 hc hs hr hkl hn0 hrl hp h0 hk0 hz
          generalize P.sites.length = n at *
          go_enter Tryd.func81, Tryd.ntmps81
          go_wp2_with fail
          refine (CC.out ()).mono ?_
          rintro e w1 ⟨hy, -, mv⟩
          obtain ⟨rfl, h2⟩ := hy _ _ rfl
          have HR : Hid (RD B b P (.slice sa n sc) ev r w1) := h2
          have HM : Hid (Mv b none X w1) := mv
          have c2 := h2.box.cell2
          clear hy h2 mv c1 CC
          go_wp2_with fail
          refine (CT.out _).mono ?_
          rintro e w2 ⟨rfl, b2⟩
          clear c2
          have HR2 : Hid (RD B b P (.slice sa n sc) ev r w2) := HR.out.later b2
          have HM2 : Hid (Mv b none X w2) := HM.out.trans (Mv.of b2)
          clear b2 HR HM
          go_wp2_with fail
          refine (CK.out _ HR2.out).mono ?_
          rintro e w3 ⟨hy, -, mv⟩
          obtain ⟨rfl, h2⟩ := hy _ _ rfl
          have HR3 : Hid (RD B b P (.slice sa n sc) ev (r.drop k) w3) := h2
          have HF : Hid (PostR B b P (.slice sa n sc) ev (some (.string (txt t), r.drop k)) X (.returned (.string (txt t))) w3) := postR_yes h2 (HM2.out.trans mv)
          clear hy h2 mv HR2 HM2
          go_wp2_with fail
          refine (CP.out _ HR3.out).mono ?_
          rintro e w4 ⟨rfl, hw4⟩
          subst hw4
          go_wp2_with fail
          refine (CM.out _).mono ?_
          rintro e w4 ⟨rfl, hw4⟩
          subst hw4
          go_wp2
          go_ret
          exact HF.out
        · have e : nameR P.sites l = none := by unfold nameR rName; rw [hc]; simp only [Nat.lt_irrefl, if_false]; rw [hr]; simp only [hk0, if_false, hz, Option.map_none]
          rw [e]
          have CM : Hid (∀ Y : World, EvE Y ev → _) := fun Y hY => must_no Y ev hY
          have hd : ((plZ t P.sites : Int) == 0) = false := by rw [beq_eq_false_iff_ne]; exact hz
          clear e e2 hc hs hr hkl hn0 hrl hp h0 hk0
          generalize plZ t P.sites = pz at *
          generalize P.sites.length = n at *
          go_enter Tryd.func81, Tryd.ntmps81
          go_wp2_with fail
          refine (CC.out ()).mono ?_
          rintro e w1 ⟨hy, -, mv⟩
          obtain ⟨rfl, h2⟩ := hy _ _ rfl
          have HR : Hid (RD B b P (.slice sa n sc) ev r w1) := h2
          have HM : Hid (Mv b none X w1) := mv
          have c2 := h2.box.cell2
          clear hy h2 mv c1 CC
          go_wp2_with fail
          refine (CT.out _).mono ?_
          rintro e w2 ⟨rfl, b2⟩
          clear c2
          have HR2 : Hid (RD B b P (.slice sa n sc) ev r w2) := HR.out.later b2
          have HM2 : Hid (Mv b none X w2) := HM.out.trans (Mv.of b2)
          clear b2 HR HM
          go_wp2_with fail
          refine (CK.out _ HR2.out).mono ?_
          rintro e w3 ⟨hy, -, mv⟩
          obtain ⟨rfl, h2⟩ := hy _ _ rfl
          have HR3 : Hid (RD B b P (.slice sa n sc) ev (r.drop k) w3) := h2
          have HE : Hid (EvE w3 ev) := h2.er
          have HF : Hid (PostR B b P (.slice sa n sc) ev none X (.panicked (pan ev)) w3) := postR_no h2 (HM2.out.trans mv)
          clear hy h2 mv HR2 HM2
          go_wp2_with fail
          refine (CP.out _ HR3.out).mono ?_
          rintro e w4 ⟨rfl, hw4⟩
          subst hw4
          go_wp2_with fail
          refine (CM.out _ HE.out).mono ?_
          rintro e w4 ⟨rfl, hw4⟩
          subst hw4
          go_wp2
          exact ⟨rfl, HF.out⟩

end Go.Proofs.YtcjpepdagnifiaaDoor

namespace Go.Proofs.YtcjpepdagnifiaaDoor
open Go.RowKit
set_option linter.unusedVariables false
set_option maxRecDepth 100000

/-- An operation. -/
def opR (P : PenD) (l : List UInt8) : Option (Value × List UInt8) := (rOp P.last P.sites l).map fun p => (opV p.1, p.2)
theorem rNum_len {a n : Int} {l r : List UInt8} (h : rNum a l = some (n, r)) : r.length ≤ l.length := by
  obtain ⟨-, rfl⟩ := rNum_sound h
  rw [List.length_append]
  omega
/-- An operation in a block of its own. -/
def OB (X : World) (g : Nat) (k a b c : Int) (t : ByteArray) : Prop := X.heap[g]? = some (.cells #[.int .i64 k, .int .i64 a, .int .i64 b, .int .i64 c, .string t] 27 (0, 0))
theorem OB.cells {X : World} {g : Nat} {k a b c : Int} {t : ByteArray} (h : OB X g k a b c t) : X.cell? ⟨g, 0, none⟩ = some (.int .i64 k) ∧ X.cell? ⟨g, 1, none⟩ = some (.int .i64 a) ∧ X.cell? ⟨g, 2, none⟩ = some (.int .i64 b) ∧ X.cell? ⟨g, 3, none⟩ = some (.int .i64 c) ∧ X.cell? ⟨g, 4, none⟩ = some (.string t) := by
  unfold OB at h
  refine ⟨?_, ?_, ?_, ?_, ?_⟩ <;> (rw [Lib.cell_of_heap h]; rfl)
theorem OB.fr {X : World} {g : Nat} {k a b c : Int} {t : ByteArray} (h : OB X g k a b c t) (i : Nat) : X.frozen? ⟨g, i, none⟩ = false := by
  unfold OB at h
  exact Lib.frozen_of_heap h i
theorem OB.lt {X : World} {g : Nat} {k a b c : Int} {t : ByteArray} (h : OB X g k a b c t) : g < X.heap.size := by
  unfold OB at h
  exact (Array.getElem?_eq_some_iff.1 h).1
theorem OB.set0 {X : World} {g : Nat} {k a b c : Int} {t : ByteArray} (h : OB X g k a b c t) (z : Int) : OB (X.setCell ⟨g, 0, none⟩ (.int .i64 z)) g z a b c t := by
  unfold OB at *
  simp [World.setCell, Array.getElem?_modify, h]
theorem OB.set1 {X : World} {g : Nat} {k a b c : Int} {t : ByteArray} (h : OB X g k a b c t) (z : Int) : OB (X.setCell ⟨g, 1, none⟩ (.int .i64 z)) g k z b c t := by
  unfold OB at *
  simp [World.setCell, Array.getElem?_modify, h]
theorem OB.set2 {X : World} {g : Nat} {k a b c : Int} {t : ByteArray} (h : OB X g k a b c t) (z : Int) : OB (X.setCell ⟨g, 2, none⟩ (.int .i64 z)) g k a z c t := by
  unfold OB at *
  simp [World.setCell, Array.getElem?_modify, h]
theorem OB.set3 {X : World} {g : Nat} {k a b c : Int} {t : ByteArray} (h : OB X g k a b c t) (z : Int) : OB (X.setCell ⟨g, 3, none⟩ (.int .i64 z)) g k a b z t := by
  unfold OB at *
  simp [World.setCell, Array.getElem?_modify, h]
theorem OB.set4 {X : World} {g : Nat} {k a b c : Int} {t : ByteArray} (h : OB X g k a b c t) (z : ByteArray) : OB (X.setCell ⟨g, 4, none⟩ (.string z)) g k a b c z := by
  unfold OB at *
  simp [World.setCell, Array.getElem?_modify, h]
/-- What stands while an operation is read: the reader, the place of the answer, the operation so far. -/
structure ROp (B b : Nat) (P : PenD) (sv ev : Value) (l : List UInt8) (X : World) (k a b' c : Int) (t : ByteArray) (V : World) : Prop where
  rd : RD B b P sv ev l V
  out : OB V X.heap.size 0 0 0 0 ⟨#[]⟩
  op : OB V (X.heap.size + 1) k a b' c t
  mv : Mv b none X V
  lt : b < X.heap.size
theorem ROp.step {B b : Nat} {P : PenD} {sv ev : Value} {l l' : List UInt8} {X V Y : World} {k a b' c : Int} {t : ByteArray} (h : ROp B b P sv ev l X k a b' c t V) (r : RD B b P sv ev l' Y) (m : Mv b none V Y) : ROp B b P sv ev l' X k a b' c t Y := by
  have hlt := h.lt
  exact ⟨r, (m.block _ h.out.lt (by omega) (by simp)).trans h.out, (m.block _ h.op.lt (by omega) (by simp)).trans h.op, h.mv.trans m, h.lt⟩
theorem RD.other {B b g : Nat} {P : PenD} {sv ev : Value} {l : List UInt8} {X : World} {cs : Array Value} {T : TypeId} (h : RD B b P sv ev l X) (hg : X.heap[g]? = some (.cells cs T (0, 0))) (hT : T ≠ 9) (hb : g ≠ b) (he : 0 ≠ g) (i : Nat) (u : Value) : RD B b P sv ev l (X.setCell ⟨g, i, none⟩ u) := by
  refine ⟨⟨?_, h.er.2⟩, h.ne, ?_, row_same h.own (fun k hk => ?_)⟩
  · rw [World.cell?_of_block (w := X) (Below.heap_setCell _ _ _ _ he)]
    exact h.er.1
  · exact (Below.heap_setCell _ _ _ _ (fun e => hb e.symm)).trans h.box
  · obtain ⟨cur, hc⟩ := row_kind h.own k hk
    exact Below.heap_setCell _ _ _ _ (kind_ne hc hg (fun e => hT e.symm))
theorem ROp.set {B b : Nat} {P : PenD} {sv ev : Value} {l : List UInt8} {X V : World} {k a b' c k2 a2 b2 c2 : Int} {t t2 : ByteArray} (h : ROp B b P sv ev l X k a b' c t V) (hE : 0 < X.heap.size) (i : Nat) (u : Value) (hu : OB (V.setCell ⟨X.heap.size + 1, i, none⟩ u) (X.heap.size + 1) k2 a2 b2 c2 t2) : ROp B b P sv ev l X k2 a2 b2 c2 t2 (V.setCell ⟨X.heap.size + 1, i, none⟩ u) := by
  have hlt := h.lt
  refine ⟨h.rd.other h.op (by decide) (by omega) (by omega) i u, (Below.heap_setCell _ _ _ _ (by show X.heap.size ≠ X.heap.size + 1; omega)).trans h.out, hu, ?_, h.lt⟩
  exact ⟨h.mv.os, h.mv.tape, h.mv.output, by simpa [World.setCell] using h.mv.size, fun g hg hn hv => (Below.heap_setCell _ _ _ _ (by show g ≠ X.heap.size + 1; omega)).trans (h.mv.block g hg hn hv)⟩
theorem ROp.fin {B b : Nat} {P : PenD} {sv ev : Value} {l : List UInt8} {X V : World} {k a b' c : Int} {t : ByteArray} (h : ROp B b P sv ev l X k a b' c t V) (hE : 0 < X.heap.size) :
    RD B b P sv ev l (((((V.setCell ⟨X.heap.size, 0, none⟩ (.int .i64 k)).setCell ⟨X.heap.size, 1, none⟩ (.int .i64 a)).setCell ⟨X.heap.size, 2, none⟩ (.int .i64 b')).setCell ⟨X.heap.size, 3, none⟩ (.int .i64 c)).setCell ⟨X.heap.size, 4, none⟩ (.string t)) ∧
      Mv b none X (((((V.setCell ⟨X.heap.size, 0, none⟩ (.int .i64 k)).setCell ⟨X.heap.size, 1, none⟩ (.int .i64 a)).setCell ⟨X.heap.size, 2, none⟩ (.int .i64 b')).setCell ⟨X.heap.size, 3, none⟩ (.int .i64 c)).setCell ⟨X.heap.size, 4, none⟩ (.string t)) := by
  have hlt := h.lt
  have o0 := h.out
  have o1 := o0.set0 k
  have o2 := o1.set1 a
  have o3 := o2.set2 b'
  have o4 := o3.set3 c
  have hb : X.heap.size ≠ b := by omega
  have he : 0 ≠ X.heap.size := by omega
  refine ⟨((((h.rd.other o0 (by decide) hb he 0 _).other o1 (by decide) hb he 1 _).other o2 (by decide) hb he 2 _).other o3 (by decide) hb he 3 _).other o4 (by decide) hb he 4 _, ?_⟩
  have step : ∀ (Y : World) (i : Nat) (u : Value), Mv b none X Y → Mv b none X (Y.setCell ⟨X.heap.size, i, none⟩ u) := fun Y i u m =>
    ⟨m.os, m.tape, m.output, by simpa [World.setCell] using m.size, fun g hg hn hv => (Below.heap_setCell _ _ _ _ (by show g ≠ X.heap.size; omega)).trans (m.block g hg hn hv)⟩
  exact step _ 4 _ (step _ 3 _ (step _ 2 _ (step _ 1 _ (step _ 0 _ h.mv))))

set_option maxHeartbeats 4000000 in
theorem rOp_calls (B b : Nat) (P : PenD) (sv ev : Value) (l : List UInt8) (X : World) (h : RD B b P sv ev l X) (hl : l.length ≤ 1048576) (hs : SmallP P) (hP : okZ P.last) :
    Calls Tryd.prog 60 #[.pointer (some ⟨b, 0, none⟩)] X fun e Y => PostR B b P sv ev (opR P l) X e Y := by
  have CN : Hid (∀ (Y : World) (s : List UInt8) (a : Int), RD B b P sv ev s Y → s.length ≤ 1048576 → okZ a → _) := fun Y s a hY h1 h2 => rNum_calls B b P sv ev s a Y hY h1 h2
  have CNm : Hid (∀ (Y : World) (s : List UInt8), RD B b P sv ev s Y → s.length ≤ 1048576 → _) := fun Y s hY h1 => rName_calls B b P sv ev s Y hY h1 hs
  have HE : Hid (0 < X.heap.size) := evE_lt h.er
  obtain ⟨V0, hV0⟩ : ∃ V0, V0 = (X.alloc (.cells #[.int .i64 0, .int .i64 0, .int .i64 0, .int .i64 0, .string ⟨#[]⟩] 27)).alloc (.cells #[.int .i64 0, .int .i64 0, .int .i64 0, .int .i64 0, .string ⟨#[]⟩] 27) := ⟨_, rfl⟩
  have HS : Hid (ROp B b P sv ev l X 0 0 0 0 ⟨#[]⟩ V0) := by
    have b1 : Below X.heap.size X (X.alloc (.cells #[.int .i64 0, .int .i64 0, .int .i64 0, .int .i64 0, .string ⟨#[]⟩] 27)) := (Below.refl _ _).alloc (Nat.le_refl _) _
    obtain ⟨X1, hX1⟩ : ∃ X1, X1 = X.alloc (.cells #[.int .i64 0, .int .i64 0, .int .i64 0, .int .i64 0, .string ⟨#[]⟩] 27) := ⟨_, rfl⟩
    have s1 : X1.heap.size = X.heap.size + 1 := by rw [hX1]; simp
    have o1 : OB X1 X.heap.size 0 0 0 0 ⟨#[]⟩ := by rw [hX1]; exact heap_alloc_new X _
    rw [← hX1] at hV0 b1
    have b2 : Below X1.heap.size X1 V0 := by rw [hV0]; exact (Below.refl _ _).alloc (Nat.le_refl _) _
    have o2 : OB V0 (X.heap.size + 1) 0 0 0 0 ⟨#[]⟩ := by rw [hV0, ← s1]; exact heap_alloc_new X1 _
    have b3 := b1.trans (b2.mono b1.size)
    exact ⟨h.later b3, (b2.block _ o1.lt).trans o1, o2, Mv.of b3, h.box.cells.2.2.2⟩
  have HL : Hid (l.length ≤ 1048576) := hl
  have HP : Hid (okZ P.last) := hP
  clear h hs hl hP
  go_enter Tryd.func60, Tryd.ntmps60
  go_wp2_with fail
  rw [← hV0]
  clear hV0
  cases hn : rNum (0) l with
  | none =>
    have en : numR (0) l = none := by unfold numR; rw [hn]; rfl
    have eo : opR P l = none := by unfold opR rOp; rw [hn]; rfl
    clear hn
    refine (CN.out _ l (0) HS.out.rd HL.out ⟨by omega, by omega⟩).mono ?_
    rintro e w1 hp
    rw [en] at hp
    obtain ⟨-, hq, mv⟩ := hp
    obtain ⟨rfl, l2, h2⟩ := hq rfl
    go_wp2
    exact ⟨rfl, by rw [eo]; exact postR_no h2 (HS.out.mv.trans mv)⟩
  | some q =>
    obtain ⟨z0, s1⟩ := q
    have en : numR (0) l = some (.int .i64 z0, s1) := by unfold numR; rw [hn]; rfl
    have N1 : Hid (rNum (0) l = some (z0, s1)) := hn
    have HL1 : Hid (s1.length ≤ 1048576) := Nat.le_trans (rNum_len hn) HL.out
    clear hn
    refine (CN.out _ l (0) HS.out.rd HL.out ⟨by omega, by omega⟩).mono ?_
    rintro e w1 hp
    rw [en] at hp
    obtain ⟨hy, -, mv⟩ := hp
    obtain ⟨rfl, h2⟩ := hy _ _ rfl
    have HT : Hid (ROp B b P sv ev s1 X 0 0 0 0 ⟨#[]⟩ w1) := HS.out.step h2 mv
    clear hy h2 mv en HS
    have q0 := HT.out.op.cells
    have q1 := HT.out.op.fr 0
    have HS1 : Hid (ROp B b P sv ev s1 X z0 0 0 0 ⟨#[]⟩ (w1.setCell ⟨X.heap.size + 1, 0, none⟩ (.int .i64 z0))) := HT.out.set HE.out 0 _ (HT.out.op.set0 _)
    obtain ⟨q0, q2, q3, q4, q5⟩ := q0
    clear HT
    obtain ⟨V1, hV⟩ : ∃ V, V = w1.setCell ⟨X.heap.size + 1, 0, none⟩ (.int .i64 z0) := ⟨_, rfl⟩
    rw [← hV] at HS1
    have p0 := HS1.out.rd.box.cells.1
    rw [hV] at p0
    go_wp2_with fail
    rw [← hV]
    clear hV q0 q1 q2 q3 q4 q5 p0
    cases hn : rNum (P.last) s1 with
    | none =>
      have en : numR (P.last) s1 = none := by unfold numR; rw [hn]; rfl
      have eo : opR P l = none := by unfold opR rOp; rw [N1.out]; simp only; rw [hn]; rfl
      clear hn
      refine (CN.out _ s1 (P.last) HS1.out.rd HL1.out HP.out).mono ?_
      rintro e w1 hp
      rw [en] at hp
      obtain ⟨-, hq, mv⟩ := hp
      obtain ⟨rfl, l2, h2⟩ := hq rfl
      go_wp2
      exact ⟨rfl, by rw [eo]; exact postR_no h2 (HS1.out.mv.trans mv)⟩
    | some q =>
      obtain ⟨z1, s2⟩ := q
      have en : numR (P.last) s1 = some (.int .i64 z1, s2) := by unfold numR; rw [hn]; rfl
      have N2 : Hid (rNum (P.last) s1 = some (z1, s2)) := hn
      have HL2 : Hid (s2.length ≤ 1048576) := Nat.le_trans (rNum_len hn) HL1.out
      clear hn
      refine (CN.out _ s1 (P.last) HS1.out.rd HL1.out HP.out).mono ?_
      rintro e w2 hp
      rw [en] at hp
      obtain ⟨hy, -, mv⟩ := hp
      obtain ⟨rfl, h2⟩ := hy _ _ rfl
      have HT : Hid (ROp B b P sv ev s2 X z0 0 0 0 ⟨#[]⟩ w2) := HS1.out.step h2 mv
      clear hy h2 mv en HS1
      have q0 := HT.out.op.cells
      have q1 := HT.out.op.fr 1
      have HS2 : Hid (ROp B b P sv ev s2 X z0 z1 0 0 ⟨#[]⟩ (w2.setCell ⟨X.heap.size + 1, 1, none⟩ (.int .i64 z1))) := HT.out.set HE.out 1 _ (HT.out.op.set1 _)
      obtain ⟨q0, q2, q3, q4, q5⟩ := q0
      clear HT
      obtain ⟨V2, hV⟩ : ∃ V, V = w2.setCell ⟨X.heap.size + 1, 1, none⟩ (.int .i64 z1) := ⟨_, rfl⟩
      rw [← hV] at HS2
      go_wp2_with fail
      rw [← hV]
      clear hV q0 q1 q2 q3 q4 q5
      cases hn : rNum (0) s2 with
      | none =>
        have en : numR (0) s2 = none := by unfold numR; rw [hn]; rfl
        have eo : opR P l = none := by unfold opR rOp; rw [N1.out]; simp only; rw [N2.out]; simp only; rw [hn]; rfl
        clear hn
        refine (CN.out _ s2 (0) HS2.out.rd HL2.out ⟨by omega, by omega⟩).mono ?_
        rintro e w1 hp
        rw [en] at hp
        obtain ⟨-, hq, mv⟩ := hp
        obtain ⟨rfl, l2, h2⟩ := hq rfl
        go_wp2
        exact ⟨rfl, by rw [eo]; exact postR_no h2 (HS2.out.mv.trans mv)⟩
      | some q =>
        obtain ⟨z2, s3⟩ := q
        have en : numR (0) s2 = some (.int .i64 z2, s3) := by unfold numR; rw [hn]; rfl
        have N3 : Hid (rNum (0) s2 = some (z2, s3)) := hn
        have HL3 : Hid (s3.length ≤ 1048576) := Nat.le_trans (rNum_len hn) HL2.out
        clear hn
        refine (CN.out _ s2 (0) HS2.out.rd HL2.out ⟨by omega, by omega⟩).mono ?_
        rintro e w3 hp
        rw [en] at hp
        obtain ⟨hy, -, mv⟩ := hp
        obtain ⟨rfl, h2⟩ := hy _ _ rfl
        have HT : Hid (ROp B b P sv ev s3 X z0 z1 0 0 ⟨#[]⟩ w3) := HS2.out.step h2 mv
        clear hy h2 mv en HS2
        have q0 := HT.out.op.cells
        have q1 := HT.out.op.fr 2
        have HS3 : Hid (ROp B b P sv ev s3 X z0 z1 z2 0 ⟨#[]⟩ (w3.setCell ⟨X.heap.size + 1, 2, none⟩ (.int .i64 z2))) := HT.out.set HE.out 2 _ (HT.out.op.set2 _)
        obtain ⟨q0, q2, q3, q4, q5⟩ := q0
        clear HT
        obtain ⟨V3, hV⟩ : ∃ V, V = w3.setCell ⟨X.heap.size + 1, 2, none⟩ (.int .i64 z2) := ⟨_, rfl⟩
        rw [← hV] at HS3
        have p0 := HS3.out.op.cells.2.1
        rw [hV] at p0
        go_wp2_with fail
        rw [← hV]
        clear hV q0 q1 q2 q3 q4 q5 p0
        cases hn : rNum (z1) s3 with
        | none =>
          have en : numR (z1) s3 = none := by unfold numR; rw [hn]; rfl
          have eo : opR P l = none := by unfold opR rOp; rw [N1.out]; simp only; rw [N2.out]; simp only; rw [N3.out]; simp only; rw [hn]; rfl
          clear hn
          refine (CN.out _ s3 (z1) HS3.out.rd HL3.out (rNum_sound N2.out).1).mono ?_
          rintro e w1 hp
          rw [en] at hp
          obtain ⟨-, hq, mv⟩ := hp
          obtain ⟨rfl, l2, h2⟩ := hq rfl
          go_wp2
          exact ⟨rfl, by rw [eo]; exact postR_no h2 (HS3.out.mv.trans mv)⟩
        | some q =>
          obtain ⟨z3, s4⟩ := q
          have en : numR (z1) s3 = some (.int .i64 z3, s4) := by unfold numR; rw [hn]; rfl
          have N4 : Hid (rNum (z1) s3 = some (z3, s4)) := hn
          have HL4 : Hid (s4.length ≤ 1048576) := Nat.le_trans (rNum_len hn) HL3.out
          clear hn
          refine (CN.out _ s3 (z1) HS3.out.rd HL3.out (rNum_sound N2.out).1).mono ?_
          rintro e w4 hp
          rw [en] at hp
          obtain ⟨hy, -, mv⟩ := hp
          obtain ⟨rfl, h2⟩ := hy _ _ rfl
          have HT : Hid (ROp B b P sv ev s4 X z0 z1 z2 0 ⟨#[]⟩ w4) := HS3.out.step h2 mv
          clear hy h2 mv en HS3
          have q0 := HT.out.op.cells
          have q1 := HT.out.op.fr 3
          have HS4 : Hid (ROp B b P sv ev s4 X z0 z1 z2 z3 ⟨#[]⟩ (w4.setCell ⟨X.heap.size + 1, 3, none⟩ (.int .i64 z3))) := HT.out.set HE.out 3 _ (HT.out.op.set3 _)
          obtain ⟨q0, q2, q3, q4, q5⟩ := q0
          clear HT
          obtain ⟨V4, hV⟩ : ∃ V, V = w4.setCell ⟨X.heap.size + 1, 3, none⟩ (.int .i64 z3) := ⟨_, rfl⟩
          rw [← hV] at HS4
          go_wp2_with fail
          rw [← hV]
          clear hV q0 q1 q2 q3 q4 q5
          cases hn : rName P.sites s4 with
          | none =>
            have en : nameR P.sites s4 = none := by unfold nameR; rw [hn]; rfl
            have eo : opR P l = none := by unfold opR rOp; rw [N1.out]; simp only; rw [N2.out]; simp only; rw [N3.out]; simp only; rw [N4.out]; simp only; rw [hn]; rfl
            clear hn
            refine (CNm.out _ s4 HS4.out.rd HL4.out).mono ?_
            rintro e w1 hp
            rw [en] at hp
            obtain ⟨-, hq, mv⟩ := hp
            obtain ⟨rfl, l2, h2⟩ := hq rfl
            go_wp2
            exact ⟨rfl, by rw [eo]; exact postR_no h2 (HS4.out.mv.trans mv)⟩
          | some q =>
            obtain ⟨t, s5⟩ := q
            have en : nameR P.sites s4 = some (.string (txt t), s5) := by unfold nameR; rw [hn]; rfl
            have eo : opR P l = some (.agg #[.int .i64 z0, .int .i64 z1, .int .i64 z2, .int .i64 z3, .string (txt t)], s5) := by unfold opR rOp; rw [N1.out]; simp only; rw [N2.out]; simp only; rw [N3.out]; simp only; rw [N4.out]; simp only; rw [hn]; rfl
            clear hn
            refine (CNm.out _ s4 HS4.out.rd HL4.out).mono ?_
            rintro e w5 hp
            rw [en] at hp
            obtain ⟨hy, -, mv⟩ := hp
            obtain ⟨rfl, h2⟩ := hy _ _ rfl
            have HT : Hid (ROp B b P sv ev s5 X z0 z1 z2 z3 ⟨#[]⟩ w5) := HS4.out.step h2 mv
            clear hy h2 mv en HS4 CN CNm
            have q1 := HT.out.op.fr 4
            have q5 := HT.out.op.cells.2.2.2.2
            have HS5 : Hid (ROp B b P sv ev s5 X z0 z1 z2 z3 (txt t) (w5.setCell ⟨X.heap.size + 1, 4, none⟩ (.string (txt t)))) := HT.out.set HE.out 4 _ (HT.out.op.set4 _)
            clear HT
            obtain ⟨V5, hV⟩ : ∃ V, V = w5.setCell ⟨X.heap.size + 1, 4, none⟩ (.string (txt t)) := ⟨_, rfl⟩
            rw [← hV] at HS5
            obtain ⟨p0, p1, p2, p3, p4⟩ := HS5.out.op.cells
            obtain ⟨r0, r1, r2, r3, r4⟩ := HS5.out.out.cells
            obtain ⟨f0, f1, f2, f3, f4⟩ : _ ∧ _ ∧ _ ∧ _ ∧ _ := ⟨HS5.out.out.fr 0, HS5.out.out.fr 1, HS5.out.out.fr 2, HS5.out.out.fr 3, HS5.out.out.fr 4⟩
            have HF := HS5.out.fin HE.out
            obtain ⟨U, hU⟩ : ∃ U, U = ((((V5.setCell ⟨X.heap.size, 0, none⟩ (.int .i64 z0)).setCell ⟨X.heap.size, 1, none⟩ (.int .i64 z1)).setCell ⟨X.heap.size, 2, none⟩ (.int .i64 z2)).setCell ⟨X.heap.size, 3, none⟩ (.int .i64 z3)).setCell ⟨X.heap.size, 4, none⟩ (.string (txt t)) := ⟨_, rfl⟩
            rw [← hU] at HF
            have HF2 : Hid (PostR B b P sv ev (opR P l) X (.returned (.agg #[.int .i64 z0, .int .i64 z1, .int .i64 z2, .int .i64 z3, .string (txt t)])) U) := by rw [eo]; exact postR_yes HF.1 HF.2
            rw [hU] at HF2
            clear HF eo HS5 hU
            rw [hV] at p0 p1 p2 p3 p4 r0 r1 r2 r3 r4 f0 f1 f2 f3 f4 HF2
            clear hV
            go_wp2
            exact bodyPost_ret (v := .agg #[.int .i64 z0, .int .i64 z1, .int .i64 z2, .int .i64 z3, .string (txt t)]) (by simp [results, Tryd.results60, go_sem, *]) rfl HF2.out

end Go.Proofs.YtcjpepdagnifiaaDoor
