/- The pen's methods, and what a writer puts behind its text. -/
import Derived.Test.YtcjpepdagnifiaaDoorJReadEventA
import Derived.Test.YtcjpepdagnifiaaDoorWire2Walks
import Derived.Test.YtcjpepdagnifiaaDoorWire3Walks
import Derived.Test.YtcjpepdagnifiaaDoorAnyOps
import Derived.Test.YtcjpepdagnifiaaDoorICopyMath
namespace Go.Proofs.YtcjpepdagnifiaaDoor
open Go.RowKit
set_option linter.unusedVariables false
set_option maxRecDepth 100000

/-- A pen in a box, as one who only reads has it. -/
def PenAt (b : Nat) (P : PenD) (sv : Value) (X : World) : Prop := ∃ sa sc, sv = .slice sa P.sites.length sc ∧ X.cell? ⟨b, 0, none⟩ = some (.int .i64 P.last) ∧ X.cell? ⟨b, 1, none⟩ = some sv ∧ RdS X sa P.sites ∧ P.sites.length ≤ sc

theorem placeOf_calls (b : Nat) (P : PenD) (sv : Value) (x : List UInt8) (X : World) (h : PenAt b P sv X) (hs : SmallP P) :
    Calls Tryd.prog 83 #[.pointer (some ⟨b, 0, none⟩), .string (txt x)] X fun e X' => e = .returned (.int .i64 (plZ x P.sites)) ∧ X' = X := by
  obtain ⟨sa, sc, rfl, c0, c1, hr, hc⟩ := h
  have C : Hid (∀ _ : Unit, _) := fun (_ : Unit) => idxStr_calls X sa sc P.sites x hr (by have := hs.sites; omega)
  have HP : Hid (idxL x P.sites 0 + 1 = plZ x P.sites) := rfl
  have hb := plZ_bd x P.sites
  have hl := hs.sites
  generalize plZ x P.sites = z at *
  have hz : idxL x P.sites 0 = z - 1 := by have := HP.out; omega
  rw [hz] at C
  clear hz hr hs HP
  have hw : wrap64 (z - 1 + 1) = z := by rw [wrap64_in (by omega) (by omega)]; omega
  generalize txt x = t at *
  go_enter Tryd.func83, Tryd.ntmps83
  go_wp2_with fail
  refine (C.out ()).mono ?_
  rintro e w1 ⟨rfl, hw1⟩
  subst hw1
  go_wp2
  go_ret
  exact ⟨rfl, rfl⟩

theorem right_calls (b : Nat) (P : PenD) (sv : Value) (X : World) (h : PenAt b P sv X) (hs : SmallP P) (q : Bool) (hq : q = true ↔ PenR P) :
    Calls Tryd.prog 59 #[.pointer (some ⟨b, 0, none⟩)] X fun e X' => e = .returned (.bool q) ∧ X' = X := by
  obtain ⟨sa, sc, rfl, c0, c1, hr, hc⟩ := h
  by_cases hl : okZ P.last
  · have hq2 : q = true ↔ NamesIn 400 0 P.sites := hq.trans ⟨fun h => h.2, fun h => ⟨hl, h⟩⟩
    have C : Hid (∀ _ : Unit, _) := fun (_ : Unit) => namesOk_calls 400 0 (by omega) (by omega) X sa sc P.sites hr hc hs.sites hs.names q hq2
    have CB : Hid (∀ _ : Unit, _) := fun (_ : Unit) => bounded_yes P.last X hl
    clear hq hq2 hr hs hl
    go_enter Tryd.func59, Tryd.ntmps59
    go_wp2_with fail
    refine (CB.out ()).mono ?_
    rintro e w1 ⟨rfl, hw1⟩
    subst hw1
    go_wp2_with fail
    refine (C.out ()).mono ?_
    rintro e w1 ⟨rfl, hw1⟩
    subst hw1
    go_wp2
    go_ret
    exact ⟨rfl, rfl⟩
  · have hq2 : q = false := by cases q with | false => rfl | true => exact absurd (hq.1 rfl).1 hl
    subst hq2
    have CB : Hid (∀ _ : Unit, _) := fun (_ : Unit) => bounded_no P.last X hl
    clear hq hr hs hl
    go_enter Tryd.func59, Tryd.ntmps59
    go_wp2_with fail
    refine (CB.out ()).mono ?_
    rintro e w1 ⟨rfl, hw1⟩
    subst hw1
    go_wp2
    go_ret
    exact ⟨rfl, rfl⟩

/-- A writer at work. -/
structure WS (n b : Nat) (P : PenD) (sv : Value) (ev : Value) (l : List UInt8) (X : World) : Prop where
  cx : Cx n b ev X
  wr : Wr n b P.last sv l X
  names : ∃ sa sc, sv = .slice sa P.sites.length sc ∧ RdS X sa P.sites ∧ P.sites.length ≤ sc ∧ Far n b X sa
theorem WS.pen {n b : Nat} {P : PenD} {sv ev : Value} {l : List UInt8} {X : World} (h : WS n b P sv ev l X) : PenAt b P sv X := by
  obtain ⟨sa, sc, h1, h2, h3, -⟩ := h.names
  exact ⟨sa, sc, h1, h.wr.pen.1, h.wr.pen.2.1, h2, h3⟩
theorem WS.later {n b : Nat} {P : PenD} {sv ev : Value} {l : List UInt8} {X Y : World} (h : WS n b P sv ev l X) (k : Below X.heap.size X Y) : WS n b P sv ev l Y := by
  obtain ⟨sa, sc, h1, h2, h3, h4⟩ := h.names
  have kk : Kb n b X Y := Kb.of k h.cx.2.2
  exact ⟨h.cx.kb kk, h.wr.later k, sa, sc, h1, rdS_later h2 k, h3, h4.kb kk⟩
theorem WS.put {n b : Nat} {P : PenD} {sv ev : Value} {l l' : List UInt8} {X Y : World} (h : WS n b P sv ev l X) (k : Kb n b X Y) (w : Wr n b P.last sv l' Y) : WS n b P sv ev l' Y := by
  obtain ⟨sa, sc, h1, h2, h3, h4⟩ := h.names
  exact ⟨h.cx.kb k, w, sa, sc, h1, rdS_kb h2 h4 k, h3, h4.kb k⟩
/-- What a step of a writer leaves: behind its text what the step puts there, where it may be written down; else it ends in the error. -/
def PostW (n b : Nat) (P : PenD) (sv ev : Value) (l' : List UInt8) (q : Bool) (X : World) (e : Ending) (X' : World) : Prop :=
  (q = true → e = .returned (.tuple #[]) ∧ WS n b P sv ev l' X') ∧ (q = false → e = .panicked (pan ev) ∧ ∃ l2, WS n b P sv ev l2 X') ∧ Kb n b X X'

theorem postW_no {n b : Nat} {P : PenD} {sv ev : Value} {l' l2 : List UInt8} {X X' : World} (h : WS n b P sv ev l2 X') (k : Kb n b X X') : PostW n b P sv ev l' false X (.panicked (pan ev)) X' :=
  ⟨fun h => (nomatch h), fun _ => ⟨rfl, _, h⟩, k⟩
theorem postW_yes {n b : Nat} {P : PenD} {sv ev : Value} {l' : List UInt8} {X X' : World} (h : WS n b P sv ev l' X') (k : Kb n b X X') : PostW n b P sv ev l' true X (.returned (.tuple #[])) X' :=
  ⟨fun _ => ⟨rfl, h⟩, fun h => (nomatch h), k⟩

theorem WS.write {n b : Nat} {P : PenD} {sv ev : Value} {l : List UInt8} {X : World} (h : WS n b P sv ev l X) (t : List UInt8) (hlen : l.length + t.length ≤ 1073741824) :
    Calls Tryd.prog 71 #[.pointer (some ⟨b, 2, none⟩), .string (txt t)] X fun e w' => e = .returned (.tuple #[.int .i64 t.length, .nilIface]) ∧ WS n b P sv ev (l ++ t) w' ∧ Kb n b X w' :=
  (wwrite_calls n b P.last sv l t X h.cx.2.2 h.wr hlen).mono (fun e w' ⟨h1, h2, h3⟩ => ⟨h1, h.put h3 h2, h3⟩)

set_option maxHeartbeats 1000000 in
theorem wNum_calls (n b : Nat) (P : PenD) (sv ev : Value) (l : List UInt8) (x a : Int) (X : World) (h : WS n b P sv ev l X) (hl : l.length ≤ 1000000) (ha : in64 a ∧ (okZ x → okZ a)) (q : Bool) (hq : q = true ↔ okZ x) :
    Calls Tryd.prog 99 #[.pointer (some ⟨b, 0, none⟩), .int .i64 x, .int .i64 a] X fun e X' => PostW n b P sv ev (l ++ showZ (x - a)) q X e X' := by
  have HS : Hid (WS n b P sv ev l X) := h
  cases q with
  | false =>
    have CB : Hid (∀ _ : Unit, _) := fun (_ : Unit) => bounded_no x X (fun hh => by have := hq.2 hh; cases this)
    have CM : Hid (∀ _ : Unit, _) := fun (_ : Unit) => must_no X ev h.cx.1
    clear h hq
    go_enter Tryd.func99, Tryd.ntmps99
    go_wp2_with fail
    refine (CB.out ()).mono ?_
    rintro e w1 ⟨rfl, hw1⟩
    subst hw1
    go_wp2_with fail
    refine (CM.out ()).mono ?_
    rintro e w1 ⟨rfl, hw1⟩
    subst hw1
    go_wp2
    exact ⟨rfl, postW_no HS.out (Kb.refl _ _ _)⟩
  | true =>
    have hx := hq.1 rfl
    have hab := ha.2 hx
    have CB : Hid (∀ _ : Unit, _) := fun (_ : Unit) => bounded_yes x X hx
    have CM : Hid (∀ _ : Unit, _) := fun (_ : Unit) => must_yes X
    have hw : wrap64 (x - a) = x - a := wrap64_in (by omega) (by omega)
    have hxa : IntKind.i64.wrap (x - a) = x - a := by rw [IntKind.wrap_i64]; unfold wrap64 at hw; exact hw
    have CI : Hid (∀ Y : World, Calls Tryd.prog 108 #[.int .i64 (IntKind.i64.wrap (x - a))] Y fun e w' => e = .returned (.string (txt (showZ (x - a)))) ∧ Below Y.heap.size Y w') := fun Y => by rw [hxa]; exact iShowInt_calls (x - a) Y
    have hsl := showZ_length (x - a)
    have CW : Hid (∀ Y : World, WS n b P sv ev l Y → _) := fun Y hY => hY.write (showZ (x - a)) (by omega)
    have H0 : WS n b P sv ev l X.drew := h.later (Below.refl _ _).drew
    have HK : Hid (∀ Y Z, Below X.drew.heap.size X.drew Y → Kb n b Y Z → Kb n b X Z) := fun Y Z h1 h2 => (Kb.of ((Below.refl _ _).drew.trans h1) h.cx.2.2).trans h2
    generalize showZ (x - a) = t at *
    clear h hq hx hab ha hw hxa
    go_enter Tryd.func99, Tryd.ntmps99
    go_wp2_with fail
    refine (CB.out ()).mono ?_
    rintro e w1 ⟨rfl, hw1⟩
    subst hw1
    go_wp2_with fail
    refine (CM.out ()).mono ?_
    rintro e w1 ⟨rfl, hw1⟩
    subst hw1
    go_wp2_with fail
    go_region_held (fun Y => ∃ l2, WS n b P sv ev l2 Y) (first | exact ⟨_, h2⟩ | exact ⟨_, H1⟩ | exact ⟨_, H0⟩)
      (first
        | (go_at_call 108; refine (CI.out _).mono ?_; rintro e w1 ⟨rfl, b1⟩; have H1 := H0.later b1)
        | (go_at_call 71; refine (CW.out _ H1).mono ?_; rintro e w2 ⟨rfl, h2, k2⟩))
    all_goals
      go_end0
      exact postW_yes h2 (HK.out _ _ b1 k2)

set_option maxHeartbeats 1000000 in
theorem wCnt_calls (n b : Nat) (P : PenD) (sv ev : Value) (l : List UInt8) (x m : Int) (X : World) (h : WS n b P sv ev l X) (hl : l.length ≤ 1000000) (q : Bool) (hq : q = true ↔ 0 ≤ x ∧ x ≤ m) :
    Calls Tryd.prog 101 #[.pointer (some ⟨b, 0, none⟩), .int .i64 x, .int .i64 m] X fun e X' => PostW n b P sv ev (l ++ varZ x) q X e X' := by
  have HS : Hid (WS n b P sv ev l X) := h
  cases q with
  | false =>
    have CB : Hid (∀ _ : Unit, _) := fun (_ : Unit) => within_no x 0 m X (by
      rcases Int.lt_or_le x 0 with h0 | h0
      · exact .inl h0
      · exact .inr (by
          rcases Int.lt_or_le m x with h1 | h1
          · exact h1
          · have := hq.2 ⟨h0, h1⟩; cases this))
    have CM : Hid (∀ _ : Unit, _) := fun (_ : Unit) => must_no X ev h.cx.1
    clear h hq
    go_enter Tryd.func101, Tryd.ntmps101
    go_wp2_with fail
    refine (CB.out ()).mono ?_
    rintro e w1 ⟨rfl, hw1⟩
    subst hw1
    go_wp2_with fail
    refine (CM.out ()).mono ?_
    rintro e w1 ⟨rfl, hw1⟩
    subst hw1
    go_wp2
    exact ⟨rfl, postW_no HS.out (Kb.refl _ _ _)⟩
  | true =>
    have hx := hq.1 rfl
    have CB : Hid (∀ _ : Unit, _) := fun (_ : Unit) => within_yes x 0 m X hx.1 hx.2
    have CM : Hid (∀ _ : Unit, _) := fun (_ : Unit) => must_yes X
    have CI : Hid (∀ Y : World, _) := fun Y => iVar_calls x Y
    have hsl := varZ_length x
    have CW : Hid (∀ Y : World, WS n b P sv ev l Y → _) := fun Y hY => hY.write (varZ x) (by omega)
    have H0 : WS n b P sv ev l X.drew := h.later (Below.refl _ _).drew
    have HK : Hid (∀ Y Z, Below X.drew.heap.size X.drew Y → Kb n b Y Z → Kb n b X Z) := fun Y Z h1 h2 => (Kb.of ((Below.refl _ _).drew.trans h1) h.cx.2.2).trans h2
    generalize varZ x = t at *
    clear h hq hx
    go_enter Tryd.func101, Tryd.ntmps101
    go_wp2_with fail
    refine (CB.out ()).mono ?_
    rintro e w1 ⟨rfl, hw1⟩
    subst hw1
    go_wp2_with fail
    refine (CM.out ()).mono ?_
    rintro e w1 ⟨rfl, hw1⟩
    subst hw1
    go_wp2_with fail
    go_region_held (fun Y => ∃ l2, WS n b P sv ev l2 Y) (first | exact ⟨_, h2⟩ | exact ⟨_, H1⟩ | exact ⟨_, H0⟩)
      (first
        | (go_at_call 89; refine (CI.out _).mono ?_; rintro e w1 ⟨rfl, b1⟩; have H1 := H0.later b1)
        | (go_at_call 71; refine (CW.out _ H1).mono ?_; rintro e w2 ⟨rfl, h2, k2⟩))
    all_goals
      go_end0
      exact postW_yes h2 (HK.out _ _ b1 k2)

set_option maxHeartbeats 2000000 in
theorem wName_calls (n b : Nat) (P : PenD) (sv ev : Value) (l x : List UInt8) (X : World) (h : WS n b P sv ev l X) (hl : l.length ≤ 900000) (hs : SmallP P) (hx0 : x.length ≤ 1048576) (q : Bool) (hq : q = true ↔ x.length ≤ 8) :
    Calls Tryd.prog 100 #[.pointer (some ⟨b, 0, none⟩), .string (txt x)] X fun e X' => PostW n b P sv ev (l ++ siteT P.sites x) q X e X' := by
  have HS : Hid (WS n b P sv ev l X) := h
  have hsz : (txt x).size = x.length := txt_size _
  cases q with
  | false =>
    have hx : ¬ x.length ≤ 8 := fun hh => by have := hq.2 hh; cases this
    have hx' : ¬ ((x.length : Nat) : Int) ≤ 8 := by omega
    have CM : Hid (∀ _ : Unit, _) := fun (_ : Unit) => must_no X ev h.cx.1
    clear h hq hs
    go_enter Tryd.func100, Tryd.ntmps100
    go_wp2_with fail
    refine (CM.out ()).mono ?_
    rintro e w1 ⟨rfl, hw1⟩
    subst hw1
    go_wp2
    exact ⟨rfl, postW_no HS.out (Kb.refl _ _ _)⟩
  | true =>
    have hx := hq.1 rfl
    have hx' : ((x.length : Nat) : Int) ≤ 8 := by omega
    have CM : Hid (∀ _ : Unit, _) := fun (_ : Unit) => must_yes X
    have CP : Hid (∀ _ : Unit, _) := fun (_ : Unit) => placeOf_calls b P sv x X h.pen hs
    have hpb := plZ_bd x P.sites
    have CC : Hid (∀ _ : Unit, _) := fun (_ : Unit) => wCnt_calls n b P sv ev l (plZ x P.sites) (P.sites.length : Int) X h (by omega) true ⟨fun _ => hpb, fun _ => rfl⟩
    have HST : Hid (siteT P.sites x = if plZ x P.sites = 0 then varZ 0 ++ showT x else varZ (plZ x P.sites)) := rfl
    obtain ⟨sa, sc, rfl, c0, c1, -⟩ := h.pen
    have CI : Hid (∀ Y : World, _) := fun Y => iShowText_calls x Y hx0
    have hsl := showT_length x
    have hvl := varZ_length 0
    have CW : Hid (∀ Y : World, WS n b P (.slice sa P.sites.length sc) ev (l ++ varZ 0) Y → _) := fun Y hY => hY.write (showT x) (by rw [List.length_append]; omega)
    clear h hq hs hx
    generalize plZ x P.sites = z at *
    by_cases hz : z = 0
    · subst hz
      have HT : Hid (siteT P.sites x = varZ 0 ++ showT x) := by have := HST.out; rw [if_pos rfl] at this; exact this
      clear HST
      generalize showT x = t at *
      generalize siteT P.sites x = u at *
      go_enter Tryd.func100, Tryd.ntmps100
      go_wp2_with fail
      refine (CM.out ()).mono ?_
      rintro e w1 ⟨rfl, hw1⟩
      subst hw1
      go_wp2_with fail
      refine (CP.out ()).mono ?_
      rintro e w1 ⟨rfl, hw1⟩
      subst hw1
      go_wp2_with fail
      refine (CC.out ()).mono ?_
      rintro e w1 ⟨hy, -, k1⟩
      obtain ⟨rfl, h1⟩ := hy rfl
      have H0 : WS n b P (.slice sa P.sites.length sc) ev (l ++ varZ 0) w1.drew := h1.later (Below.refl _ _).drew
      have HKn : Hid (n ≤ w1.heap.size) := h1.cx.2.2
      clear CC c0 c1 h1
      go_wp2_with fail
      go_region_held (fun Y => ∃ l2, WS n b P (.slice sa P.sites.length sc) ev l2 Y) (first | exact ⟨_, h2⟩ | exact ⟨_, H1⟩ | exact ⟨_, H0⟩)
        (first
          | (go_at_call 109; refine (CI.out _).mono ?_; rintro e w3 ⟨rfl, b1⟩; have H1 := H0.later b1)
          | (go_at_call 71; refine (CW.out _ H1).mono ?_; rintro e w2 ⟨rfl, h2, k2⟩))
      all_goals
        go_wp2
        go_end0
        refine postW_yes ?_ (k1.trans ((Kb.of ((Below.refl _ _).drew.trans b1) HKn.out).trans k2))
        rw [HT.out, ← List.append_assoc]
        exact h2
    · have HT : Hid (siteT P.sites x = varZ z) := by have := HST.out; rw [if_neg hz] at this; exact this
      clear HST CI CW
      generalize siteT P.sites x = u at *
      go_enter Tryd.func100, Tryd.ntmps100
      go_wp2_with fail
      refine (CM.out ()).mono ?_
      rintro e w1 ⟨rfl, hw1⟩
      subst hw1
      go_wp2_with fail
      refine (CP.out ()).mono ?_
      rintro e w1 ⟨rfl, hw1⟩
      subst hw1
      go_wp2_with fail
      refine (CC.out ()).mono ?_
      rintro e w1 ⟨hy, -, k1⟩
      obtain ⟨rfl, h1⟩ := hy rfl
      have HF : Hid (PostW _ _ _ _ _ _ _ _ _ _) := postW_yes h1 k1
      clear CC c0 c1 h1 k1
      go_wp2
      go_end0
      rw [HT.out]
      exact HF.out

end Go.Proofs.YtcjpepdagnifiaaDoor

namespace Go.Proofs.YtcjpepdagnifiaaDoor
open Go.RowKit
set_option linter.unusedVariables false
set_option maxRecDepth 100000

/-- What a region's operations yield: operation m what P says, the others what stands in the list. -/
def RP (m : Nat) (P : World → Value → Prop) (L : List Value) (i : Nat) (X : World) (v : Value) : Prop := (i = m → P X v) ∧ (i ≠ m → v = L.getD i undef)
theorem rp_mono {m : Nat} {P : World → Value → Prop} {L : List Value} (hP : ∀ X Y v, P X v → Below X.heap.size X Y → P Y v) (i : Nat) (X Y : World) (v : Value) (h : RP m P L i X v) (hb : Below X.heap.size X Y) : RP m P L i Y v :=
  ⟨fun e => hP X Y v (h.1 e) hb, h.2⟩
theorem rp_at {m : Nat} {P : World → Value → Prop} {L : List Value} {i : Nat} {X : World} {v u : Value} (h : RP m P L i X v) (hi : i ≠ m) (hu : L.getD i undef = u) : v = u := (h.2 hi).trans hu
theorem rp_p {m : Nat} {P : World → Value → Prop} {L : List Value} {X : World} {v : Value} (h : RP m P L m X v) : P X v := h.1 rfl
theorem rp_put {m : Nat} {P : World → Value → Prop} {L : List Value} {i : Nat} {X : World} {v : Value} (hi : i ≠ m) (hv : L.getD i undef = v) : RP m P L i X v := ⟨fun e => absurd e hi, fun _ => hv.symm⟩
theorem rp_call {m : Nat} {P : World → Value → Prop} {L : List Value} {X : World} {v : Value} (h : P X v) : RP m P L m X v := ⟨fun _ => h, fun e => absurd rfl e⟩
def noP : World → Value → Prop := fun _ _ => True
theorem noP_mono (X Y : World) (v : Value) (h : noP X v) (hb : Below X.heap.size X Y) : noP Y v := h

theorem opNil {t i : Tmp} {ty : TypeId} {pos : String} {af : Array Edge} {a : Act} {X : World} {K : Act → World → Prop} {Q : Exit → Act → World → Prop} {x : Addr} (h1 : a.eval (.tmp i) = .pointer (some x)) (hK : K (a.put (some t) (.pointer (some x))) X) :
    Oper.wp Tryd.prog ⟨some t, .nilCheck (.tmp i), ty, pos, af, none⟩ a X K Q := by
  have h := ev_tmp h1
  go_simp; exact hK

end Go.Proofs.YtcjpepdagnifiaaDoor

namespace Go.Proofs.YtcjpepdagnifiaaDoor
open Go.RowKit
set_option linter.unusedVariables false
set_option maxRecDepth 100000

/-- A pen in a block of its own. -/
def Two (X : World) (g : Nat) (x0 x1 : Value) : Prop := X.heap[g]? = some (.cells #[x0, x1] 31 (0, 0))
theorem Two.cells {X : World} {g : Nat} {x0 x1 : Value} (h : Two X g x0 x1) : X.cell? ⟨g, 0, none⟩ = some x0 ∧ X.cell? ⟨g, 1, none⟩ = some x1 :=
  ⟨by rw [Lib.cell_of_heap h]; rfl, by rw [Lib.cell_of_heap h]; rfl⟩
theorem Two.lt {X : World} {g : Nat} {x0 x1 : Value} (h : Two X g x0 x1) : g < X.heap.size := (Array.getElem?_eq_some_iff.1 h).1
theorem Two.later {X Y : World} {g : Nat} {x0 x1 : Value} (h : Two X g x0 x1) (k : Below X.heap.size X Y) : Two Y g x0 x1 := (k.block g h.lt).trans h
theorem Two.new (X : World) (x0 x1 : Value) : Two (X.alloc (.cells #[x0, x1] 31)) X.heap.size x0 x1 := heap_alloc_new X _
theorem Two.set {X : World} {g : Nat} {x0 x1 : Value} (h : Two X g x0 x1) (y0 y1 : Value) : Two ((X.setCell ⟨g, 0, none⟩ y0).setCell ⟨g, 1, none⟩ y1) g y0 y1 := by
  unfold Two at *
  simp [World.setCell, Array.getElem?_modify, h]

theorem own_kept {X Y : World} {B : Nat} {t : TypeId} {v : Value} {n : Nat} {xs : List Value} (h : X.ownsRow B t 1 v n xs) (k : Below X.heap.size X Y) : Y.ownsRow B t 1 v n xs :=
  row_same h (fun g hg => k.block g (h.lt g hg).2)
theorem opCallS1 {t i : Tmp} {ty : TypeId} {pos : String} {af : Array Edge} {ats : Array TypeId} {a : Act} {X : World} {K : Act → World → Prop} {Q : Exit → Act → World → Prop} {v : Value} {post : Ending → World → Prop} (h1 : a.eval (.tmp i) = v) (hC : Calls Tryd.prog 55 #[v] X post) (hK : ∀ e w', post e w' → ∃ x, e = .returned x ∧ K (a.put (some t) x) w') :
    Oper.wp Tryd.prog ⟨some t, .call { callee := .value (.func 55), args := #[.tmp i], argTypes := ats }, ty, pos, af, none⟩ a X K Q := by
  have h := ev_tmp h1
  go_simp
  refine hC.mono (fun e w' hp => ?_)
  obtain ⟨x, rfl, hx⟩ := hK e w' hp
  exact hx
theorem opFieldPen {t i : Tmp} {ty : TypeId} {pos : String} {af : Array Edge} {a : Act} {X : World} {K : Act → World → Prop} {Q : Exit → Act → World → Prop} {g : Nat} (k : Nat) (hk : k < 2) (h1 : a.eval (.tmp i) = .pointer (some ⟨g, 0, none⟩)) (hK : K (a.put (some t) (.pointer (some ⟨g, k, none⟩))) X) :
    Oper.wp Tryd.prog ⟨some t, .fieldAddr 31 (.tmp i) k, ty, pos, af, none⟩ a X K Q := by
  have h := ev_tmp h1
  match k, hk with
  | 0, _ => go_simp; exact hK
  | 1, _ => go_simp; exact hK
theorem opBuildPen {t i j : Tmp} {ty : TypeId} {pos : String} {af : Array Edge} {a : Act} {X : World} {K : Act → World → Prop} {Q : Exit → Act → World → Prop} {z : Int} {x : Option Addr} {n c : Nat} (h1 : a.eval (.tmp i) = .int .i64 z) (h2 : a.eval (.tmp j) = .slice x n c) (hK : K (a.put (some t) (.agg #[.int .i64 z, .slice x n c])) X) :
    Oper.wp Tryd.prog ⟨some t, .build 31 #[(0, .tmp i), (1, .tmp j)], ty, pos, af, none⟩ a X K Q := by
  have e1 := ev_tmp h1
  have e2 := ev_tmp h2
  go_simp; exact hK
theorem opAllocPen {t : Tmp} {ty : TypeId} {pos : String} {af : Array Edge} {a : Act} {X : World} {K : Act → World → Prop} {Q : Exit → Act → World → Prop} (hK : K (a.put (some t) (.pointer (some ⟨X.heap.size, 0, none⟩))) (X.alloc (.cells #[.int .i64 0, .slice none 0 0] 31))) :
    Oper.wp Tryd.prog ⟨some t, .alloc 31, ty, pos, af, none⟩ a X K Q := by
  go_simp; exact hK
theorem opStorePen {i j : Tmp} {ty : TypeId} {pos : String} {af : Array Edge} {a : Act} {X : World} {K : Act → World → Prop} {Q : Exit → Act → World → Prop} {g : Nat} {y0 y1 : Value} {z : Int} {x : Option Addr} {n c : Nat} (h1 : a.eval (.tmp i) = .pointer (some ⟨g, 0, none⟩)) (h2 : a.eval (.tmp j) = .agg #[.int .i64 z, .slice x n c]) (hf : Two X g y0 y1) (hK : K a ((X.setCell ⟨g, 0, none⟩ (.int .i64 z)).setCell ⟨g, 1, none⟩ (.slice x n c))) :
    Oper.wp Tryd.prog ⟨none, .store 31 (.tmp i) (.tmp j), ty, pos, af, none⟩ a X K Q := by
  have e1 := ev_tmp h1
  have e2 := ev_tmp h2
  obtain ⟨c0, c1⟩ := hf.cells
  have f0 : X.frozen? ⟨g, 0, none⟩ = false := Lib.frozen_of_heap hf 0
  have f1 : X.frozen? ⟨g, 1, none⟩ = false := Lib.frozen_of_heap hf 1
  go_simp; exact hK

set_option maxHeartbeats 2000000 in
theorem copyPen_calls (v : Value) (P : PenD) (w : World) (h : RdP w v P) (hs : SmallP P) :
    Calls Tryd.prog 30 #[v] w fun e w' => ∃ x c, e = .returned (.agg #[.int .i64 P.last, .slice x P.sites.length c]) ∧ ownS w' w.heap.size (.slice x P.sites.length c) P.sites ∧ Below w.heap.size w w' := by
  obtain ⟨sa, sc, rfl, rs⟩ := h
  obtain ⟨last, ss⟩ := P
  simp only at rs ⊢
  have hn0 : ss.length ≤ 1048576 := hs.sites
  have HNM : Hid (∀ z ∈ ss, z.length ≤ 1048576) := hs.names
  obtain ⟨n, hn⟩ : ∃ n, ss.length = n := ⟨_, rfl⟩
  have Hn : Hid (ss.length = n) := hn
  rw [hn] at hn0 ⊢
  obtain ⟨W, hW⟩ : ∃ W, W = (w.alloc (.cells #[.int .i64 last, .slice sa n sc] 31)).alloc (.cells #[.int .i64 0, .slice none 0 0] 31) := ⟨_, rfl⟩
  have hWs : W.heap.size = w.heap.size + 2 := by rw [hW]; simp
  have BW : Below w.heap.size w W := by rw [hW]; exact ((Below.refl _ _).alloc (Nat.le_refl _) _).alloc (by simp) _
  have HFP : Hid (Two W w.heap.size (.int .i64 last) (.slice sa n sc)) := by
    rw [hW]
    exact (Two.new w _ _).later ((Below.refl _ _).alloc (Nat.le_refl _) _)
  have HFR : Hid (Two W (w.heap.size + 1) (.int .i64 0) (.slice none 0 0)) := by
    rw [hW]
    have f1 := Two.new (w.alloc (.cells #[.int .i64 last, .slice sa n sc] 31)) (.int .i64 0) (.slice none 0 0)
    have e : (w.alloc (.cells #[.int .i64 last, .slice sa n sc] 31)).heap.size = w.heap.size + 1 := by simp
    rw [e] at f1
    exact f1
  have HSS : Hid (SrcC W sa n 1 (ss.map strV)) := by rw [← hn]; exact (srcS rs).later BW
  have HBW : Hid (Below w.heap.size w W) := BW
  have HWs : Hid (W.heap.size = w.heap.size + 2) := hWs
  clear rs BW hs hn
  go_enter Tryd.func30, Tryd.ntmps30
  go_wp2
  rw [← hW]
  clear hW
  refine wp_region_last 7 (by kernel_rfl) (by kernel_rfl) (fun i X v => match i with
    | 0 => v = .pointer (some ⟨w.heap.size, 0, none⟩)
    | 1 => v = .int .i64 last
    | 2 => v = .pointer (some ⟨w.heap.size, 1, none⟩)
    | 3 => v = .slice sa n sc
    | 4 => X.ownsRow W.heap.size 9 1 v n (ss.map strV)
    | 5 => ∃ x c, v = .agg #[.int .i64 last, .slice x n c] ∧ X.ownsRow W.heap.size 9 1 (.slice x n c) n (ss.map strV)
    | _ => ∃ g, v = .pointer (some ⟨g, 0, none⟩) ∧ W.heap.size ≤ g ∧ Two X g (.int .i64 0) (.slice none 0 0)) (by
      intro i X Y v h hb
      match i with
      | 0 => exact h
      | 1 => exact h
      | 2 => exact h
      | 3 => exact h
      | 4 => exact own_kept h hb
      | 5 => exact h.imp fun x hx => hx.imp fun c hc => ⟨hc.1, own_kept hc.2 hb⟩
      | _ + 6 => exact h.imp fun g hg => ⟨hg.1, hg.2.1, hg.2.2.later hb⟩) ?_ ?_
  · intro i o hi ho a X hX hA hdep
    have FX := (HFP.out.later hX).cells
    have hXs := hX.size
    match i, hi, ho with
    | 0, _, ho =>
      obtain rfl := Option.some.inj ho
      exact opFieldPen 0 (by omega) (alike_at hA (t := 1) (by kernel_rfl)) ⟨_, rfl, Below.refl _ _, rfl⟩
    | 1, _, ho =>
      obtain rfl := Option.some.inj ho
      have e1 : a.eval (.tmp 5) = .pointer (some ⟨w.heap.size, 0, none⟩) := hdep ⟨0, .data⟩ (by simp) rfl 5 rfl
      exact opLoadInt e1 FX.1 ⟨_, rfl, Below.refl _ _, rfl⟩
    | 2, _, ho =>
      obtain rfl := Option.some.inj ho
      exact opFieldPen 1 (by omega) (alike_at hA (t := 1) (by kernel_rfl)) ⟨_, rfl, Below.refl _ _, rfl⟩
    | 3, _, ho =>
      obtain rfl := Option.some.inj ho
      have e1 : a.eval (.tmp 7) = .pointer (some ⟨w.heap.size, 1, none⟩) := hdep ⟨2, .data⟩ (by simp) rfl 7 rfl
      exact opLoadS e1 FX.2 ⟨_, rfl, Below.refl _ _, rfl⟩
    | 4, _, ho =>
      obtain rfl := Option.some.inj ho
      have e1 : a.eval (.tmp 8) = .slice sa n sc := hdep ⟨3, .data⟩ (by simp) rfl 8 rfl
      exact opCallS1 e1 (cloneS_calls X sa n sc _ (HSS.out.later hX) (by omega)) (fun e w' ⟨x, h1, h2, h3⟩ => ⟨x, h1, _, rfl, h3, row_mono h2 hXs⟩)
    | 5, _, ho =>
      obtain rfl := Option.some.inj ho
      have e0 : a.eval (.tmp 6) = .int .i64 last := hdep ⟨1, .data⟩ (by simp) rfl 6 rfl
      have r3 : X.ownsRow W.heap.size 9 1 (a.eval (.tmp 9)) n (ss.map strV) := hdep ⟨4, .data⟩ (by simp) rfl 9 rfl
      obtain ⟨x3, c3, e3, _⟩ := row_form r3
      rw [e3] at r3
      exact opBuildPen e0 e3 ⟨_, rfl, Below.refl _ _, x3, c3, rfl, r3⟩
    | 6, _, ho =>
      obtain rfl := Option.some.inj ho
      exact opAllocPen ⟨_, rfl, (Below.refl _ _).alloc (Nat.le_refl _) _, X.heap.size, rfl, hXs, Two.new X _ _⟩
  · intro o ho a X hX hA hdep
    obtain rfl := Option.some.inj ho
    obtain ⟨g, e1, gB, hf⟩ := hdep ⟨6, .data⟩ (by simp) rfl 3 rfl
    obtain ⟨x3, c3, e2, r3⟩ := hdep ⟨5, .data⟩ (by simp) rfl 10 rfl
    refine opStorePen e1 e2 hf ?_
    obtain ⟨us, hus, rfl⟩ := alike_tmps hA [5, 6, 7, 8, 9, 10, 3] (by kernel_rfl)
    have e3 : us 3 = .pointer (some ⟨g, 0, none⟩) := (hus 3).symm.trans e1
    have hoth : ∀ i, i ≠ g → ((X.setCell ⟨g, 0, none⟩ (.int .i64 last)).setCell ⟨g, 1, none⟩ (.slice x3 n c3)).heap[i]? = X.heap[i]? := fun i hi => by
      rw [Below.heap_setCell _ _ _ _ (by exact hi), Below.heap_setCell _ _ _ _ (by exact hi)]
    have HX : Hid (Two ((X.setCell ⟨g, 0, none⟩ (.int .i64 last)).setCell ⟨g, 1, none⟩ (.slice x3 n c3)) g (.int .i64 last) (.slice x3 n c3)) := hf.set _ _
    have HO : Hid (ownS ((X.setCell ⟨g, 0, none⟩ (.int .i64 last)).setCell ⟨g, 1, none⟩ (.slice x3 n c3)) W.heap.size (.slice x3 n c3) ss) := by
      unfold Hid ownS
      rw [Hn.out]
      exact row_same r3 (fun i hi => by
        obtain ⟨cur, hc⟩ := row_kind r3 i hi
        exact hoth i (kind_ne hc hf (by decide)))
    have HB : Hid (Below W.heap.size W ((X.setCell ⟨g, 0, none⟩ (.int .i64 last)).setCell ⟨g, 1, none⟩ (.slice x3 n c3))) := (hX.setCell gB _).setCell gB _
    clear hdep hA hus e1 e2 hf r3 ho HSS HFP hoth
    generalize (X.setCell ⟨g, 0, none⟩ (.int .i64 last)).setCell ⟨g, 1, none⟩ (.slice x3 n c3) = Y at *
    simp only [List.mapIdx_cons, List.mapIdx_nil, Nat.reduceAdd, List.contains_cons, List.contains_nil, Nat.reduceBEq, Bool.or_false, Bool.or_true, if_true, if_false, Bool.false_eq_true, e3]
    clear e3 hX
    obtain ⟨y0, y1⟩ := HX.out.cells
    go_wp2
    clear y0 y1
    go_loopw [14] (fun i wr => ∃ j : Nat, i = .int .i64 (j : Int) ∧ j ≤ n ∧ Hid (ownS wr W.heap.size (.slice x3 n c3) ss) ∧ Hid (Two wr g (.int .i64 last) (.slice x3 n c3)) ∧ Hid (Below W.heap.size W wr)) (fun i _ => n - (intOf i).toNat)
    case atStart => exact ⟨0, rfl, Nat.zero_le _, HO, HX, HB⟩
    case round =>
      clear HO HX HB
      obtain ⟨j, rfl, hjs, HO, HX, HB⟩ := hrel
      have hbs := HB.out.size
      have hgl := HX.out.lt
      by_cases hlt : j < n
      · have hj2 : j < ss.length := by have := Hn.out; omega
        rcases ownS_form HO.out with ⟨-, e⟩ | ⟨gs, cap, e, -, hgs, -, -, hc⟩
        · have h0 := Hn.out; rw [e] at h0; simp at h0; omega
        simp only [Value.slice.injEq] at e
        obtain ⟨rfl, -, -⟩ := e
        obtain ⟨hcs, hfz⟩ := hc.out j hj2
        have hnm := HNM.out _ (List.getElem_mem hj2)
        have hgg : gs ≠ g := by
          obtain ⟨cur, hk⟩ := row_kind HO.out gs rfl
          exact kind_ne hk HX.out (by decide)
        have HN : Hid (∀ w1, Below wr.heap.size wr w1 → ownS (w1.setCell ⟨gs, j, none⟩ (.string (txt ss[j]))) W.heap.size (.slice (some ⟨gs, 0, none⟩) n c3) ss ∧ Two (w1.setCell ⟨gs, j, none⟩ (.string (txt ss[j]))) g (.int .i64 last) (.slice (some ⟨gs, 0, none⟩) n c3) ∧ Below W.heap.size W (w1.setCell ⟨gs, j, none⟩ (.string (txt ss[j])))) := fun w1 b1 => by
          refine ⟨?_, (Below.heap_setCell w1 ⟨gs, j, none⟩ _ g (fun e => hgg e.symm)).trans (HX.out.later b1), (HB.out.trans (b1.mono hbs)).setCell (by exact (ownS_lt HO.out gs rfl).1) _⟩
          have h2 := ownS_set (ownS_later HO.out b1) Hn.out.symm j ss[j]
          rwa [List.set_getElem_self] at h2
        have HC6 : Hid (∀ X, Below wr.heap.size wr X → X.cell? ⟨g, 1, none⟩ = some (.slice (some ⟨gs, 0, none⟩) n c3) ∧ X.cell? ⟨gs, j, none⟩ = some (.string (txt ss[j])) ∧ X.frozen? ⟨gs, j, none⟩ = false) := fun X hX =>
          ⟨(HX.out.later hX).cells.2, (hX.cell (p := ⟨gs, j, none⟩) hgs).trans hcs, (hX.frozen (p := ⟨gs, j, none⟩) hgs).trans hfz⟩
        have HCL : Hid (∀ X : World, _) := fun X => strClone_calls (txt ss[j]) X (by rw [txt_size]; omega)
        generalize txt ss[j] = tx at HCL HC6 HN
        clear hcs hfz HO HX HB hnm hc
        have D1 : Below wr.heap.size wr wr.drew := (Below.refl _ _).drew
        obtain ⟨k0, k1, k2⟩ := HC6.out _ (Below.refl _ _)
        have hi0 : (0 : Int) ≤ (j : Int) := by omega
        have hi1 : (j : Int) < (n : Int) := by omega
        go_wp2
        go_region_held (fun X => X.cell? ⟨g, 1, none⟩ = some (.slice (some ⟨gs, 0, none⟩) n c3) ∧ X.cell? ⟨gs, j, none⟩ = some (.string tx))
          (first | exact ⟨(HC6.out _ B1).1, (HC6.out _ B1).2.1⟩ | exact ⟨(HC6.out _ D1).1, (HC6.out _ D1).2.1⟩ | exact ⟨(keep_far _ _ (by exact hgg) 1).trans (HC6.out _ B1).1, World.cell?_setCell_same _ _ _ (HC6.out _ B1).2.1⟩)
          (first | (go_at_call 56; refine (HCL.out _).mono ?_; rintro e w1 ⟨rfl, b1⟩; (have B1 := D1.trans (b1.mono D1.size)); (obtain ⟨m0, m1, m2⟩ := HC6.out _ B1)))
        obtain ⟨n1, n2, n3⟩ := HN.out w1 B1
        have HN1 : Hid _ := n1
        have HN2 : Hid _ := n2
        have HN3 : Hid _ := n3
        clear HN HCL HC6 b1 m0 m1 m2 k0 k1 k2 n1 n2 n3
        go_wp2
        go_roundw
        case rel => exact ⟨j + 1, by go_num, by omega, HN1, HN2, HN3⟩
        case measure => simp [intOf]; omega
      · obtain ⟨q0, q1⟩ := HX.out.cells
        have RF2 : Two wr (w.heap.size + 1) (.int .i64 0) (.slice none 0 0) := (HB.out.block (w.heap.size + 1) (by have := HWs.out; omega)).trans HFR.out
        obtain ⟨r0, r1⟩ := RF2.cells
        have z0 : wr.frozen? ⟨w.heap.size + 1, 0, none⟩ = false := Lib.frozen_of_heap RF2 0
        have z1 : wr.frozen? ⟨w.heap.size + 1, 1, none⟩ = false := Lib.frozen_of_heap RF2 1
        have HBl : Hid (Below w.heap.size w wr) := HBW.out.trans (HB.out.mono HBW.out.size)
        have HO2 : Hid (ownS wr W.heap.size (.slice x3 n c3) ss) := HO
        clear HO HX HB RF2
        go_wp2
        refine bodyPost_ret (v := .agg #[.int .i64 last, .slice x3 n c3]) (by simp [results, Tryd.results30, go_sem, *]) rfl ⟨x3, c3, rfl, ?_, ?_⟩
        · refine ownS_mono (B := W.heap.size) ?_ (by have := HWs.out; omega)
          have hws := HWs.out
          refine ownS_far _ _ (ownS_far _ _ HO2.out ?_) ?_
          · simp only; omega
          · simp only; omega
        · iterate 2 refine Below.setCell ?_ (by simp only; omega) _
          exact HBl.out

end Go.Proofs.YtcjpepdagnifiaaDoor

namespace Go.Proofs.YtcjpepdagnifiaaDoor
open Go.RowKit
set_option linter.unusedVariables false
set_option maxRecDepth 100000

/-- An operation in a box of its own. -/
def OpAt (g : Nat) (o : OpD) (Y : World) : Prop := ∀ k, Y.cell? ⟨g, k, none⟩ = (#[.int .i64 o.kind, .int .i64 o.a, .int .i64 o.b, .int .i64 o.c, .string (txt o.site)] : Array Value)[k]?
theorem OpAt.cells {g : Nat} {o : OpD} {Y : World} (h : OpAt g o Y) : Y.cell? ⟨g, 0, none⟩ = some (.int .i64 o.kind) ∧ Y.cell? ⟨g, 1, none⟩ = some (.int .i64 o.a) ∧ Y.cell? ⟨g, 2, none⟩ = some (.int .i64 o.b) ∧ Y.cell? ⟨g, 3, none⟩ = some (.int .i64 o.c) ∧ Y.cell? ⟨g, 4, none⟩ = some (.string (txt o.site)) :=
  ⟨h 0, h 1, h 2, h 3, h 4⟩
theorem OpAt.kb {n b g : Nat} {o : OpD} {X Y : World} (h : OpAt g o X) (hs : Safe n b X g) (k : Kb n b X Y) : OpAt g o Y := fun i => (Safe.cell (p := ⟨g, i, none⟩) hs k).trans (h i)
theorem OpAt.new (X : World) (o : OpD) (t : TypeId) : OpAt X.heap.size o (X.alloc (.cells #[.int .i64 o.kind, .int .i64 o.a, .int .i64 o.b, .int .i64 o.c, .string (txt o.site)] t)) := fun k => by rw [World.cell?_alloc_mark]

theorem q_no {q : Bool} {p : Prop} (h : q = true ↔ p) (hn : ¬ p) : q = false := by cases q with | false => rfl | true => exact absurd (h.1 rfl) hn

theorem opFieldWr0 {t i : Tmp} {ty : TypeId} {pos : String} {af : Array Edge} {a : Act} {X : World} {K : Act → World → Prop} {Q : Exit → Act → World → Prop} {g : Nat} (h1 : a.eval (.tmp i) = .pointer (some ⟨g, 0, none⟩)) (hK : K (a.put (some t) (.pointer (some ⟨g, 0, none⟩))) X) :
    Oper.wp Tryd.prog ⟨some t, .fieldAddr 100 (.tmp i) 0, ty, pos, af, none⟩ a X K Q := by
  have h := ev_tmp h1
  go_simp; exact hK
theorem opFieldPen0 {t i : Tmp} {ty : TypeId} {pos : String} {af : Array Edge} {a : Act} {X : World} {K : Act → World → Prop} {Q : Exit → Act → World → Prop} {g : Nat} (h1 : a.eval (.tmp i) = .pointer (some ⟨g, 0, none⟩)) (hK : K (a.put (some t) (.pointer (some ⟨g, 0, none⟩))) X) :
    Oper.wp Tryd.prog ⟨some t, .fieldAddr 31 (.tmp i) 0, ty, pos, af, none⟩ a X K Q := by
  have h := ev_tmp h1
  go_simp; exact hK
theorem opFieldOp1 {t i : Tmp} {ty : TypeId} {pos : String} {af : Array Edge} {a : Act} {X : World} {K : Act → World → Prop} {Q : Exit → Act → World → Prop} {g : Nat} (h1 : a.eval (.tmp i) = .pointer (some ⟨g, 0, none⟩)) (hK : K (a.put (some t) (.pointer (some ⟨g, 1, none⟩))) X) :
    Oper.wp Tryd.prog ⟨some t, .fieldAddr 27 (.tmp i) 1, ty, pos, af, none⟩ a X K Q := by
  have h := ev_tmp h1
  go_simp; exact hK
theorem opCallNum {t i j k : Tmp} {ty : TypeId} {pos : String} {af : Array Edge} {ats : Array TypeId} {a : Act} {X : World} {K : Act → World → Prop} {Q : Exit → Act → World → Prop} {u v x : Value} {post : Ending → World → Prop} (h1 : a.eval (.tmp i) = u) (h2 : a.eval (.tmp j) = v) (h3 : a.eval (.tmp k) = x) (hC : Calls Tryd.prog 99 #[u, v, x] X post) (hK : ∀ e w', post e w' → ∃ ch, e = .panicked ch ∧ Q (.panic ch) a w') :
    Oper.wp Tryd.prog ⟨some t, .call { callee := .value (.func 99), args := #[.tmp i, .tmp j, .tmp k], argTypes := ats }, ty, pos, af, none⟩ a X K Q := by
  have e1 := ev_tmp h1
  have e2 := ev_tmp h2
  have e3 := ev_tmp h3
  go_simp
  refine hC.mono (fun e w' hp => ?_)
  obtain ⟨ch, rfl, hx⟩ := hK e w' hp
  exact hx

set_option maxHeartbeats 4000000 in
theorem wOp_calls (n b : Nat) (P : PenD) (sv ev : Value) (l : List UInt8) (o : OpD) (X : World) (h : WS n b P sv ev l X) (hl : l.length ≤ 800000) (hs : SmallP P) (hpl : okZ P.last) (hx0 : o.site.length ≤ 1048576) (hso : SaneOp o) (q : Bool) (hq : q = true ↔ SpeakO o) :
    Calls Tryd.prog 86 #[.pointer (some ⟨b, 0, none⟩), opV o] X fun e X' => PostW n b P sv ev (l ++ opT P.last P.sites o) q X e X' := by
  have hbX := h.wr.pen.2.2
  obtain ⟨X1, hX1⟩ : ∃ X1, X1 = X.alloc (.cells #[.int .i64 o.kind, .int .i64 o.a, .int .i64 o.b, .int .i64 o.c, .string (txt o.site)] 27) := ⟨_, rfl⟩
  have B1 : Below X.heap.size X X1 := by rw [hX1]; exact (Below.refl _ _).alloc (Nat.le_refl _) _
  have W0 : WS n b P sv ev l X1 := h.later B1
  have K0 : Kb n b X X1 := Kb.of B1 h.cx.2.2
  have HO : Hid (∀ Y, Kb n b X1 Y → OpAt X.heap.size o Y) := fun Y hY => (show OpAt X.heap.size o X1 by rw [hX1]; exact OpAt.new X o _).kb (by rw [hX1]; exact Safe.new X _ _ (by decide) hbX) hY
  have HPC : Hid (∀ l2 Y, WS n b P sv ev l2 Y → Y.cell? ⟨b, 0, none⟩ = some (.int .i64 P.last)) := fun l2 Y hY => hY.wr.pen.1
  have CN : Hid (∀ (x a : Int) (l2 : List UInt8) (Y : World) (q2 : Bool), WS n b P sv ev l2 Y → l2.length ≤ 1000000 → (in64 a ∧ (okZ x → okZ a)) → (q2 = true ↔ okZ x) → _) := fun x a l2 Y q2 h1 h2 h3 h4 => wNum_calls n b P sv ev l2 x a Y h1 h2 h3 q2 h4
  have CS : Hid (∀ (l2 : List UInt8) (Y : World) (q2 : Bool), WS n b P sv ev l2 Y → l2.length ≤ 900000 → (q2 = true ↔ o.site.length ≤ 8) → _) := fun l2 Y q2 h1 h2 h4 => wName_calls n b P sv ev l2 o.site Y h1 h2 hs hx0 q2 h4
  have HSP : Hid (q = true ↔ SpeakO o) := hq
  have HT : Hid (opT P.last P.sites o = showZ o.kind ++ (showZ (o.a - P.last) ++ (showZ o.b ++ (showZ (o.c - o.a) ++ siteT P.sites o.site)))) := rfl
  have z1 := showZ_length o.kind
  have z2 := showZ_length (o.a - P.last)
  have z3 := showZ_length o.b
  have z4 := showZ_length (o.c - o.a)
  have iA := hso.a
  have i0 : in64 0 := ⟨by omega, by omega⟩
  have iP : in64 P.last := ⟨by omega, by omega⟩
  obtain ⟨ok, oa, ob, oc, os⟩ := o
  simp only at *
  obtain ⟨c0, c1, c2, c3, c4⟩ := (HO.out _ (Kb.refl _ _ _)).cells
  simp only at c0 c1 c2 c3 c4
  have HSS : Hid (∀ l2 Y, WS n b P sv ev l2 Y → Kb n b X1 Y → ((∃ l2, WS n b P sv ev l2 Y) ∧ Y.cell? ⟨b, 0, none⟩ = some (.int .i64 P.last) ∧ Y.cell? ⟨X.heap.size, 1, none⟩ = some (.int .i64 oa))) := fun l2 Y h1 h2 => ⟨⟨l2, h1⟩, HPC.out _ _ h1, (HO.out _ h2).cells.2.1⟩
  clear h hq hs hso B1
  unfold opV
  simp only
  have C1 := CN.out ok 0 l X1 (decide (okZ ok)) W0 (by omega) ⟨i0, fun _ => ⟨by omega, by omega⟩⟩ decide_eq_true_iff
  rw [Int.sub_zero] at C1
  have HC1 : Hid _ := C1
  clear C1
  go_enter Tryd.func86, Tryd.ntmps86
  go_wp2_with fail
  rw [← hX1]
  clear hX1
  refine (Calls.mono HC1.out ?_)
  rintro e Y1 ⟨hy, hn, kk⟩
  by_cases k1 : Hid (okZ ok)
  case neg =>
    obtain ⟨rfl, l2, H2⟩ := hn (decide_eq_false (p := okZ ok) k1)
    have hq0 := q_no HSP.out (fun hh => k1 hh.1)
    subst hq0
    have HF : Hid (PostW n b P sv ev (l ++ opT P.last P.sites ⟨ok, oa, ob, oc, os⟩) false X _ Y1) := postW_no H2 (K0.trans kk)
    clear hn hy H2 c0 c1 c2 c3 c4 HC1 k1 HO HPC CN CS HSP HT
    go_wp2
    exact ⟨rfl, HF.out⟩
  obtain ⟨rfl, W1⟩ := hy (decide_eq_true (p := okZ ok) k1)
  have K1 := kk
  clear hy hn HC1 c0 c1 c2 c3 c4 W0 kk
  obtain ⟨c0, c1, c2, c3, c4⟩ := (HO.out _ K1).cells
  simp only at c0 c1 c2 c3 c4
  have p0 := HPC.out _ _ W1
  have D1 : WS n b P sv ev (l ++ showZ ok) Y1.drew := W1.later (Below.refl _ _).drew
  have KD : Kb n b X1 Y1.drew := K1.trans (Kb.of (Below.refl _ _).drew W1.cx.2.2)
  have C2 := CN.out oa P.last _ _ (decide (okZ oa)) D1 (by rw [List.length_append]; omega) ⟨iP, fun _ => hpl⟩ decide_eq_true_iff
  have HC2 : Hid _ := C2
  clear C2
  by_cases k2 : Hid (okZ oa)
  case neg =>
    have hq0 := q_no HSP.out (fun hh => k2 hh.2.1)
    subst hq0
    have HY : Hid (∀ Y, Below Y1.heap.size Y1 Y → WS n b P sv ev (l ++ showZ ok) Y ∧ Kb n b X Y ∧ Y.cell? ⟨b, 0, none⟩ = some (.int .i64 P.last) ∧ Y.cell? ⟨X.heap.size, 1, none⟩ = some (.int .i64 oa)) := fun Y hY => by
      have hw := W1.later hY
      have hk := K1.trans (Kb.of hY W1.cx.2.2)
      exact ⟨hw, K0.trans hk, HPC.out _ _ hw, (HO.out _ hk).cells.2.1⟩
    have CN2 : Hid (∀ (Y : World), WS n b P sv ev (l ++ showZ ok) Y → _) := fun Y hY => CN.out oa P.last _ Y (decide (okZ oa)) hY (by rw [List.length_append]; omega) ⟨iP, fun _ => hpl⟩ decide_eq_true_iff
    clear HC2 D1 KD c0 c1 c2 c3 c4 p0 K1 W1
    go_wp2_with fail
    refine wp_region_last 8 (by kernel_rfl) (by kernel_rfl) (RP 1000 noP [.pointer (some ⟨b, 0, none⟩), .pointer (some ⟨X.heap.size, 1, none⟩), .int .i64 oa, .pointer (some ⟨b, 0, none⟩), .pointer (some ⟨b, 0, none⟩), .pointer (some ⟨b, 0, none⟩), .pointer (some ⟨b, 0, none⟩), .int .i64 P.last]) (rp_mono noP_mono) ?_ ?_
    · intro i o hi ho a Y hY hA hdep
      match i, hi, ho with
      | 0, _, ho =>
        obtain rfl := Option.some.inj ho
        exact opMove (alike_at hA (t := 0) (by kernel_rfl)) ⟨_, rfl, Below.refl _ _, rp_put (by decide) rfl⟩
      | 1, _, ho =>
        obtain rfl := Option.some.inj ho
        exact opFieldOp1 (alike_at hA (t := 3) (by kernel_rfl)) ⟨_, rfl, Below.refl _ _, rp_put (by decide) rfl⟩
      | 2, _, ho =>
        obtain rfl := Option.some.inj ho
        have g0_ : a.eval (.tmp 9) = .pointer (some ⟨X.heap.size, 1, none⟩) := rp_at (hdep ⟨1, .data⟩ (by simp) rfl 9 rfl) (by decide) rfl
        exact opLoadInt g0_ (HY.out Y hY).2.2.2 ⟨_, rfl, Below.refl _ _, rp_put (by decide) rfl⟩
      | 3, _, ho =>
        obtain rfl := Option.some.inj ho
        exact opMove (alike_at hA (t := 0) (by kernel_rfl)) ⟨_, rfl, Below.refl _ _, rp_put (by decide) rfl⟩
      | 4, _, ho =>
        obtain rfl := Option.some.inj ho
        have g0_ : a.eval (.tmp 11) = .pointer (some ⟨b, 0, none⟩) := rp_at (hdep ⟨3, .data⟩ (by simp) rfl 11 rfl) (by decide) rfl
        exact opNil g0_ ⟨_, rfl, Below.refl _ _, rp_put (by decide) rfl⟩
      | 5, _, ho =>
        obtain rfl := Option.some.inj ho
        have g0_ : a.eval (.tmp 12) = .pointer (some ⟨b, 0, none⟩) := rp_at (hdep ⟨4, .data⟩ (by simp) rfl 12 rfl) (by decide) rfl
        exact opFieldWr0 g0_ ⟨_, rfl, Below.refl _ _, rp_put (by decide) rfl⟩
      | 6, _, ho =>
        obtain rfl := Option.some.inj ho
        have g0_ : a.eval (.tmp 13) = .pointer (some ⟨b, 0, none⟩) := rp_at (hdep ⟨5, .data⟩ (by simp) rfl 13 rfl) (by decide) rfl
        exact opFieldPen0 g0_ ⟨_, rfl, Below.refl _ _, rp_put (by decide) rfl⟩
      | 7, _, ho =>
        obtain rfl := Option.some.inj ho
        have g0_ : a.eval (.tmp 14) = .pointer (some ⟨b, 0, none⟩) := rp_at (hdep ⟨6, .data⟩ (by simp) rfl 14 rfl) (by decide) rfl
        exact opLoadInt g0_ (HY.out Y hY).2.2.1 ⟨_, rfl, Below.refl _ _, rp_put (by decide) rfl⟩
    · intro o ho a Y hY hA hdep
      obtain rfl := Option.some.inj ho
      have g0_ : a.eval (.tmp 8) = .pointer (some ⟨b, 0, none⟩) := rp_at (hdep ⟨0, .data⟩ (by simp) rfl 8 rfl) (by decide) rfl
      have g1_ : a.eval (.tmp 10) = .int .i64 oa := rp_at (hdep ⟨2, .data⟩ (by simp) rfl 10 rfl) (by decide) rfl
      have g2_ : a.eval (.tmp 15) = .int .i64 P.last := rp_at (hdep ⟨7, .data⟩ (by simp) rfl 15 rfl) (by decide) rfl
      obtain ⟨y1, y2, -, -⟩ := HY.out Y hY
      refine opCallNum g0_ g1_ g2_ (CN2.out Y y1) ?_
      rintro e Y2 ⟨-, hn, kk2⟩
      obtain ⟨rfl, l2, H2⟩ := hn (decide_eq_false (p := okZ oa) k2)
      refine ⟨_, rfl, ?_⟩
      obtain ⟨us, hus, rfl⟩ := alike_tmps hA [8, 9, 10, 11, 12, 13, 14, 15, 16] (by kernel_rfl)
      exact ⟨rfl, postW_no H2 (y2.trans kk2)⟩
  go_wp2_with fail
  go_region_held (fun Y => (∃ l2, WS n b P sv ev l2 Y) ∧ Y.cell? ⟨b, 0, none⟩ = some (.int .i64 P.last) ∧ Y.cell? ⟨X.heap.size, 1, none⟩ = some (.int .i64 oa)) (first | exact HSS.out _ _ W2 (KD.trans kk2) | exact HSS.out _ _ D1 KD)
    ((go_at_call 99; refine (Calls.mono HC2.out ?_); rintro e Y2 ⟨hy, -, kk2⟩; (obtain ⟨rfl, W2⟩ := hy (decide_eq_true (p := okZ oa) k2))))
  have K2 := KD.trans kk2
  clear hy K1 KD kk2 D1 HC2 W1 c0 c1 c2 c3 c4 p0
  obtain ⟨c0, c1, c2, c3, c4⟩ := (HO.out _ K2).cells
  simp only at c0 c1 c2 c3 c4
  have C3 := CN.out ob 0 _ _ (decide (okZ ob)) W2 (by simp only [List.length_append]; omega) ⟨i0, fun _ => ⟨by omega, by omega⟩⟩ decide_eq_true_iff
  rw [Int.sub_zero] at C3
  have HC3 : Hid _ := C3
  clear C3
  go_wp2_with fail
  refine (Calls.mono HC3.out ?_)
  rintro e Y3 ⟨hy, hn, kk⟩
  by_cases k3 : Hid (okZ ob)
  case neg =>
    obtain ⟨rfl, l2, H2⟩ := hn (decide_eq_false (p := okZ ob) k3)
    have hq0 := q_no HSP.out (fun hh => k3 hh.2.2.1)
    subst hq0
    have HF : Hid (PostW n b P sv ev (l ++ opT P.last P.sites ⟨ok, oa, ob, oc, os⟩) false X _ Y3) := postW_no H2 (K0.trans (K2.trans kk))
    clear hn hy H2 c0 c1 c2 c3 c4
    go_wp2
    exact ⟨rfl, HF.out⟩
  obtain ⟨rfl, W3⟩ := hy (decide_eq_true (p := okZ ob) k3)
  have K3 := K2.trans kk
  clear hy hn HC3 c0 c1 c2 c3 c4 W2 kk K2
  obtain ⟨c0, c1, c2, c3, c4⟩ := (HO.out _ K3).cells
  simp only at c0 c1 c2 c3 c4
  have C4 := CN.out oc oa _ _ (decide (okZ oc)) W3 (by simp only [List.length_append]; omega) ⟨iA, fun _ => k2⟩ decide_eq_true_iff
  have HC4 : Hid _ := C4
  clear C4
  go_wp2_with fail
  refine (Calls.mono HC4.out ?_)
  rintro e Y4 ⟨hy, hn, kk⟩
  by_cases k4 : Hid (okZ oc)
  case neg =>
    obtain ⟨rfl, l2, H2⟩ := hn (decide_eq_false (p := okZ oc) k4)
    have hq0 := q_no HSP.out (fun hh => k4 hh.2.2.2.1)
    subst hq0
    have HF : Hid (PostW n b P sv ev (l ++ opT P.last P.sites ⟨ok, oa, ob, oc, os⟩) false X _ Y4) := postW_no H2 (K0.trans (K3.trans kk))
    clear hn hy H2 c0 c1 c2 c3 c4
    go_wp2
    exact ⟨rfl, HF.out⟩
  obtain ⟨rfl, W4⟩ := hy (decide_eq_true (p := okZ oc) k4)
  have K4 := K3.trans kk
  clear hy hn HC4 c0 c1 c2 c3 c4 W3 kk K3
  obtain ⟨c0, c1, c2, c3, c4⟩ := (HO.out _ K4).cells
  simp only at c0 c1 c2 c3 c4
  have C5 := CS.out _ _ (decide (os.length ≤ 8)) W4 (by simp only [List.length_append]; omega) decide_eq_true_iff
  have HC5 : Hid _ := C5
  clear C5
  go_wp2_with fail
  refine (Calls.mono HC5.out ?_)
  rintro e Y5 ⟨hy, hn, kk⟩
  by_cases k5 : Hid (os.length ≤ 8)
  case neg =>
    obtain ⟨rfl, l2, H2⟩ := hn (decide_eq_false (p := os.length ≤ 8) k5)
    have hq0 := q_no HSP.out (fun hh => k5 hh.2.2.2.2)
    subst hq0
    have HF : Hid (PostW n b P sv ev (l ++ opT P.last P.sites ⟨ok, oa, ob, oc, os⟩) false X _ Y5) := postW_no H2 (K0.trans (K4.trans kk))
    clear hn hy H2 c0 c1 c2 c3 c4
    go_wp2
    exact ⟨rfl, HF.out⟩
  obtain ⟨rfl, W5⟩ := hy (decide_eq_true (p := os.length ≤ 8) k5)
  have hq1 : q = true := HSP.out.2 ⟨k1, k2, k3, k4, k5⟩
  subst hq1
  have HF : Hid (PostW n b P sv ev (l ++ opT P.last P.sites ⟨ok, oa, ob, oc, os⟩) true X (.returned (.tuple #[])) Y5) := by
    refine postW_yes ?_ (K0.trans (K4.trans kk))
    rw [HT.out]
    simp only [List.append_assoc] at W5
    exact W5
  clear hn hy c0 c1 c2 c3 c4 W5
  go_wp2
  go_end0
  exact HF.out

end Go.Proofs.YtcjpepdagnifiaaDoor

namespace Go.Proofs.YtcjpepdagnifiaaDoor
open Go.RowKit
set_option linter.unusedVariables false
set_option maxRecDepth 100000

theorem opFieldOp {t i : Tmp} {ty : TypeId} {pos : String} {af : Array Edge} {a : Act} {X : World} {K : Act → World → Prop} {Q : Exit → Act → World → Prop} {g : Nat} (k : Nat) (hk : k < 5) (h1 : a.eval (.tmp i) = .pointer (some ⟨g, 0, none⟩)) (hK : K (a.put (some t) (.pointer (some ⟨g, k, none⟩))) X) :
    Oper.wp Tryd.prog ⟨some t, .fieldAddr 27 (.tmp i) k, ty, pos, af, none⟩ a X K Q := by
  have h := ev_tmp h1
  match k, hk with
  | 0, _ => go_simp; exact hK
  | 1, _ => go_simp; exact hK
  | 2, _ => go_simp; exact hK
  | 3, _ => go_simp; exact hK
  | 4, _ => go_simp; exact hK
theorem opLoadTxt {t i : Tmp} {ty : TypeId} {pos : String} {af : Array Edge} {a : Act} {X : World} {K : Act → World → Prop} {Q : Exit → Act → World → Prop} {g p : Nat} {v : Value} (h1 : a.eval (.tmp i) = .pointer (some ⟨g, p, none⟩)) (hc : X.cell? ⟨g, p, none⟩ = some v) (hK : K (a.put (some t) v) X) :
    Oper.wp Tryd.prog ⟨some t, .load 9 (.tmp i), ty, pos, af, none⟩ a X K Q := by
  have h := ev_tmp h1
  go_simp; exact hK
/-- append of one text onto a row of one's own, at a frame of which only what is read is known. -/
theorem wp_appendT {w : World} {o : Oper} {a : Act} {K : Act → World → Prop} {Q : Exit → Act → World → Prop} (s x : Operand)
    (ho : o.op = .call { callee := .builtin .append, args := #[s, x], argTypes := #[22, 22] }) (B : Nat) (v : Value) (P : List (List UInt8)) (hs : a.eval s = v) (hown : ownS w B v P)
    (ad : Addr) (z : List UInt8) (hx : a.eval x = .slice (some ad) 1 1) (hsrc : w.cell? ad = some (.string (txt z))) (hlen : P.length ≤ 1677720) (hB : B ≤ w.heap.size)
    (h : ∀ v' w', ownS w' B v' (P ++ [z]) → w.heap.size ≤ w'.heap.size → (∀ i, i < w.heap.size → v.ownBlock ≠ some i → w'.heap[i]? = w.heap[i]?) → (v'.ownBlock = v.ownBlock ∨ v'.ownBlock = some w.heap.size) → (∀ C w0, Below C w0 w → C ≤ B → Below C w0 w') → K (a.put o.dst v') w') : o.wp Tryd.prog a w K Q := by
  obtain ⟨i0, hi, hz0, hz1, hz2⟩ := info_parts infoS
  have hlt := World.ownsRow.lt hown
  obtain ⟨v', w', hr, hown', hgrow, _, hat⟩ := run_append_own_at (P := Tryd.prog) w B 22 o.type 9 i0 (.string (txt [])) 1 16 Tryd.underlying22 hi hz0 hz1 hz2 rfl (by decide) v P.length (P.map strV) hown ad 1 1 [strV z] rfl
    (fun j u hj => by
      match j, hj with
      | 0, hj =>
        simp at hj
        subst hj
        rw [show ad.add 0 = ad from by cases ad; simp [Addr.add]]
        exact hsrc
      | j + 1, hj => simp at hj)
    (fun u hu => by simp at hu; subst hu; rfl) (by unfold maxLen; omega) (by omega) hB
  unfold Oper.wp execOp
  simp only [ho, resolve, invoke, builtin, Sem.run_bind, Sem.run_pure, Result.andThen_ok, List.map_toArray, List.map_cons, List.map_nil, hs, hx, hr]
  refine h v' w' ?_ hgrow.size (fun i hi hne => hgrow.block i hi (fun e => hne e.symm)) hat (fun C w0 hb hC => ?_)
  · unfold ownS
    rw [List.length_append, List.map_append]
    exact hown'
  · exact ⟨hgrow.os.trans hb.os, hgrow.tape.trans hb.tape, hgrow.output.trans hb.output, Nat.le_trans hb.size hgrow.size, fun k hk => (hgrow.block k (by omega) (fun e => by have := (hlt k e.symm).1; omega)).trans (hb.block k hk)⟩
theorem opNewT {t i : Tmp} {ty : TypeId} {pos : String} {af : Array Edge} {a : Act} {X : World} {K : Act → World → Prop} {Q : Exit → Act → World → Prop} {z : ByteArray} (h1 : a.eval (.tmp i) = .string z) (hK : K (a.put (some t) (.slice (some ⟨X.heap.size, 0, none⟩) 1 1)) (X.alloc (.cells #[.string z] 9))) :
    Oper.wp Tryd.prog ⟨some t, .buildSlice 22 1 #[(0, .tmp i)], ty, pos, af, none⟩ a X K Q := by
  have e1 := ev_tmp h1
  go_simp; exact hK
theorem opStoreTs {i j : Tmp} {ty : TypeId} {pos : String} {af : Array Edge} {a : Act} {X : World} {K : Act → World → Prop} {Q : Exit → Act → World → Prop} {g p n c : Nat} {u : Value} {x : Option Addr} (h1 : a.eval (.tmp i) = .pointer (some ⟨g, p, none⟩)) (h2 : a.eval (.tmp j) = .slice x n c) (hc : X.cell? ⟨g, p, none⟩ = some u) (hf : X.frozen? ⟨g, p, none⟩ = false) (hK : K a (X.setCell ⟨g, p, none⟩ (.slice x n c))) :
    Oper.wp Tryd.prog ⟨none, .store 22 (.tmp i) (.tmp j), ty, pos, af, none⟩ a X K Q := by
  have e1 := ev_tmp h1
  have e2 := ev_tmp h2
  go_simp; exact hK
theorem opCloneT {t i : Tmp} {ty : TypeId} {pos : String} {af : Array Edge} {ats : Array TypeId} {a : Act} {X : World} {K : Act → World → Prop} {Q : Exit → Act → World → Prop} {u : Value} {post : Ending → World → Prop} (h1 : a.eval (.tmp i) = u) (hC : Calls Tryd.prog 56 #[u] X post) (hK : ∀ e w', post e w' → ∃ x, e = .returned x ∧ K (a.put (some t) x) w') :
    Oper.wp Tryd.prog ⟨some t, .call { callee := .value (.func 56), args := #[.tmp i], argTypes := ats }, ty, pos, af, none⟩ a X K Q := by
  have e1 := ev_tmp h1
  go_simp
  refine hC.mono (fun e w' hp => ?_)
  obtain ⟨x, rfl, hx⟩ := hK e w' hp
  exact hx
theorem wpList_appendT {w : World} {ops : Array Oper} {rest : List Oper} {o : Oper} {a : Act} {Q : Exit → Act → World → Prop} (hgd : o.guard = none) (s x : Operand)
    (ho : o.op = .call { callee := .builtin .append, args := #[s, x], argTypes := #[22, 22] }) (B : Nat) (v : Value) (P : List (List UInt8)) (hs : a.eval s = v) (hown : ownS w B v P)
    (ad : Addr) (z : List UInt8) (hx : a.eval x = .slice (some ad) 1 1) (hsrc : w.cell? ad = some (.string (txt z))) (hlen : P.length ≤ 1677720) (hB : B ≤ w.heap.size)
    (h : ∀ v' w', ownS w' B v' (P ++ [z]) → w.heap.size ≤ w'.heap.size → Hid (∀ i, i < w.heap.size → v.ownBlock ≠ some i → w'.heap[i]? = w.heap[i]?) → Hid (v'.ownBlock = v.ownBlock ∨ v'.ownBlock = some w.heap.size) → Hid (∀ C w0, Below C w0 w → C ≤ B → Below C w0 w') → wpList Tryd.prog ops Q rest (a.put o.dst v') w') : wpList Tryd.prog ops Q (o :: rest) a w :=
  wpList_plain hgd fun _ hK => wp_appendT s x ho B v P hs hown ad z hx hsrc hlen hB fun v' w' h1 h2 h3 h4 h5 => hK _ _ (h v' w' h1 h2 h3 h4 h5)

end Go.Proofs.YtcjpepdagnifiaaDoor

namespace Go.Proofs.YtcjpepdagnifiaaDoor
open Go.RowKit
set_option linter.unusedVariables false
set_option maxRecDepth 100000

/-- A box that begins with a pen. -/
def Box (X : World) (b : Nat) (T : TypeId) (a0 a1 : Value) (tl : List Value) : Prop := X.heap[b]? = some (.cells (a0 :: a1 :: tl).toArray T (0, 0))
theorem Box.set0 {X : World} {b : Nat} {T : TypeId} {a0 a1 : Value} {tl : List Value} (h : Box X b T a0 a1 tl) (u : Value) : Box (X.setCell ⟨b, 0, none⟩ u) b T u a1 tl := by
  unfold Box at *
  simp [World.setCell, Array.getElem?_modify, h]
theorem Box.set1 {X : World} {b : Nat} {T : TypeId} {a0 a1 : Value} {tl : List Value} (h : Box X b T a0 a1 tl) (u : Value) : Box (X.setCell ⟨b, 1, none⟩ u) b T a0 u tl := by
  unfold Box at *
  simp [World.setCell, Array.getElem?_modify, h]
theorem Box.cells {X : World} {b : Nat} {T : TypeId} {a0 a1 : Value} {tl : List Value} (h : Box X b T a0 a1 tl) : X.cell? ⟨b, 0, none⟩ = some a0 ∧ X.cell? ⟨b, 1, none⟩ = some a1 ∧ (∀ k, X.frozen? ⟨b, k, none⟩ = false) ∧ b < X.heap.size :=
  ⟨by rw [Lib.cell_of_heap h]; rfl, by rw [Lib.cell_of_heap h]; rfl, fun k => Lib.frozen_of_heap h k, (Array.getElem?_eq_some_iff.1 h).1⟩
theorem Box.same {X Y : World} {b : Nat} {T : TypeId} {a0 a1 : Value} {tl : List Value} (h : Box X b T a0 a1 tl) (e : Y.heap[b]? = X.heap[b]?) : Box Y b T a0 a1 tl := e.trans h
theorem Box.later {X Y : World} {b : Nat} {T : TypeId} {a0 a1 : Value} {tl : List Value} (h : Box X b T a0 a1 tl) (k : Below X.heap.size X Y) : Box Y b T a0 a1 tl := h.same (k.block b h.cells.2.2.2)
/-- All that was there is as it was, but for the box and the names' row. -/
structure Mv (b : Nat) (vo : Option Nat) (X Y : World) : Prop where
  os : Y.os = X.os
  tape : Y.tape = X.tape
  output : Y.output = X.output
  size : X.heap.size ≤ Y.heap.size
  block : ∀ g, g < X.heap.size → g ≠ b → vo ≠ some g → Y.heap[g]? = X.heap[g]?
theorem Mv.of {b : Nat} {vo : Option Nat} {X Y : World} (h : Below X.heap.size X Y) : Mv b vo X Y := ⟨h.os, h.tape, h.output, h.size, fun g hg _ _ => h.block g hg⟩
theorem Mv.set {b : Nat} {vo : Option Nat} {X Y : World} (h : Mv b vo X Y) (k : Nat) (u : Value) : Mv b vo X (Y.setCell ⟨b, k, none⟩ u) :=
  ⟨h.os, h.tape, h.output, by simpa [World.setCell] using h.size, fun g hg hn hv => (Below.heap_setCell _ _ _ _ hn).trans (h.block g hg hn hv)⟩

/-- What holds of the memory while the names grow. -/
structure NP (X0 X : World) (B : Nat) (sv : Value) (ss : List (List UInt8)) (dn : Nat → Prop) (Y : World) : Prop where
  bel : Below B X Y
  ge : X.heap.size ≤ Y.heap.size
  oth : ∀ i, i < X.heap.size → sv.ownBlock ≠ some i → Y.heap[i]? = X.heap[i]?
  own : ¬ dn 9 → ownS Y B sv ss
theorem NP.later {X0 X Y Z : World} {B : Nat} {sv : Value} {ss : List (List UInt8)} {dn : Nat → Prop} {i : Nat} (hB : B ≤ X.heap.size) (h : NP X0 X B sv ss dn Y) (hb : Below Y.heap.size Y Z) : NP X0 X B sv ss (fun j => dn j ∨ j = i) Z :=
  ⟨h.bel.trans (hb.mono (Nat.le_trans hB h.ge)), Nat.le_trans h.ge hb.size, fun j hj hn => (hb.block j (Nat.lt_of_lt_of_le hj h.ge)).trans (h.oth j hj hn), fun hn => ownS_later (h.own (fun h2 => hn (.inl h2))) hb⟩
def RSp (n0 B b g : Nat) (sv : Value) (ss : List (List UInt8)) (x : List UInt8) : Nat → World → Value → Prop
  | 0, _, v => v = .pointer (some ⟨b, 0, none⟩)
  | 1, _, v => v = .pointer (some ⟨b, 0, none⟩)
  | 2, _, v => v = .pointer (some ⟨b, 0, none⟩)
  | 3, _, v => v = .pointer (some ⟨b, 1, none⟩)
  | 4, _, v => v = sv
  | 5, _, v => v = .pointer (some ⟨g, 4, none⟩)
  | 6, _, v => v = .string (txt x)
  | 7, _, v => v = .string (txt x)
  | 8, X, v => ∃ g, v = .slice (some ⟨g, 0, none⟩) 1 1 ∧ n0 ≤ g ∧ X.heap[g]? = some (.cells #[.string (txt x)] 9 (0, 0))
  | 9, X, v => ownS X B v (ss ++ [x])
  | 10, _, v => v = .pointer (some ⟨b, 0, none⟩)
  | 11, _, v => v = .pointer (some ⟨b, 1, none⟩)
  | _, _, _ => True
theorem rsp_mono {n0 B b gg : Nat} {sv : Value} {ss : List (List UInt8)} {x : List UInt8} (i : Nat) (X Y : World) (v : Value) (h : RSp n0 B b gg sv ss x i X v) (hb : Below X.heap.size X Y) : RSp n0 B b gg sv ss x i Y v := by
  match i, h with
  | 0, h => exact h
  | 1, h => exact h
  | 2, h => exact h
  | 3, h => exact h
  | 4, h => exact h
  | 5, h => exact h
  | 6, h => exact h
  | 7, h => exact h
  | 8, ⟨g, h1, h2, h3⟩ => exact ⟨g, h1, h2, (hb.block g (Array.getElem?_eq_some_iff.1 h3).1).trans h3⟩
  | 9, h1 => exact ownS_later h1 hb
  | 10, h => exact h
  | 11, h => exact h
  | n + 12, _ => exact trivial
theorem rsp_app {n0 B b gg : Nat} {sv : Value} {ss : List (List UInt8)} {x : List UInt8} (i : Nat) (X Y : World) (v : Value) (h9 : i ≠ 9) (h : RSp n0 B b gg sv ss x i X v) (hs : ∀ g, g < X.heap.size → n0 ≤ g → Y.heap[g]? = X.heap[g]?) : RSp n0 B b gg sv ss x i Y v := by
  match i, h with
  | 0, h => exact h
  | 1, h => exact h
  | 2, h => exact h
  | 3, h => exact h
  | 4, h => exact h
  | 5, h => exact h
  | 6, h => exact h
  | 7, h => exact h
  | 8, ⟨g, h1, h2, h3⟩ => exact ⟨g, h1, h2, (hs g (Array.getElem?_eq_some_iff.1 h3).1 h2).trans h3⟩
  | 9, _ => exact absurd rfl h9
  | 10, h => exact h
  | 11, h => exact h
  | n + 12, _ => exact trivial

set_option maxHeartbeats 4000000 in
theorem moveOn_calls (b : Nat) (T : TypeId) (hT : T ≠ 9) (tl : List Value) (P : PenD) (sa : Option Addr) (sc : Nat) (o : OpD) (B : Nat) (X : World) (hb : Box X b T (.int .i64 P.last) (.slice sa P.sites.length sc) tl) (hO : ownS X B (.slice sa P.sites.length sc) P.sites) (hs : SmallP P) (hx0 : o.site.length ≤ 1048576) (hBX : B ≤ X.heap.size) (hBb : B ≤ b) :
    Calls Tryd.prog 62 #[.pointer (some ⟨b, 0, none⟩), opV o] X fun e Y => e = .returned (.tuple #[]) ∧ ∃ x c, Box Y b T (.int .i64 o.a) (.slice x (penB P o).sites.length c) tl ∧ ownS Y B (.slice x (penB P o).sites.length c) (penB P o).sites ∧ Mv b (Value.slice sa P.sites.length sc).ownBlock X Y := by
  have hbX := hb.cells.2.2.2
  obtain ⟨X1, hX1⟩ : ∃ X1, X1 = X.alloc (.cells #[.int .i64 o.kind, .int .i64 o.a, .int .i64 o.b, .int .i64 o.c, .string (txt o.site)] 27) := ⟨_, rfl⟩
  have B1 : Below X.heap.size X X1 := by rw [hX1]; exact (Below.refl _ _).alloc (Nat.le_refl _) _
  have s1 : X1.heap.size = X.heap.size + 1 := by rw [hX1]; simp
  have hbox := hb.later B1
  have hown := ownS_later hO B1
  obtain ⟨sa', cap', e', hrd⟩ := rdS_own hown
  simp only [Value.slice.injEq] at e'
  obtain ⟨rfl, -, rfl⟩ := e'
  have hcap : P.sites.length ≤ sc := row_cap hown
  obtain ⟨p0, p1, pf, pl⟩ := hbox.cells
  have hPA : PenAt b P (.slice sa P.sites.length sc) X1 := ⟨sa, sc, rfl, p0, p1, hrd.out, hcap⟩
  have CP : Hid (∀ _ : Unit, _) := fun (_ : Unit) => placeOf_calls b P _ o.site X1 hPA hs
  have hop : OpAt X.heap.size o X1 := by rw [hX1]; exact OpAt.new X o _
  obtain ⟨c0, c1, c2, c3, c4⟩ := hop.cells
  have HB1 : Hid (Below X.heap.size X X1) := B1
  have hsl := hs.sites
  by_cases hz : plZ o.site P.sites = 0
  case neg =>
    have hpb : penB P o = ⟨o.a, P.sites⟩ := by unfold penB; rw [if_neg hz]
    rw [hpb]
    simp only
    have HF : Hid (∃ x c, Box (X1.setCell ⟨b, 0, none⟩ (.int .i64 o.a)) b T (.int .i64 o.a) (.slice x P.sites.length c) tl ∧ ownS (X1.setCell ⟨b, 0, none⟩ (.int .i64 o.a)) B (.slice x P.sites.length c) P.sites ∧ Mv b (Value.slice sa P.sites.length sc).ownBlock X (X1.setCell ⟨b, 0, none⟩ (.int .i64 o.a))) := by
      refine ⟨sa, sc, hbox.set0 _, ?_, (Mv.of HB1.out).set 0 _⟩
      exact row_same hown (fun g hg => Below.heap_setCell _ _ _ _ (fun e => by
        obtain ⟨cur, hk⟩ := row_kind hown g hg
        rw [e] at hk
        unfold Box at hbox
        rw [hbox] at hk
        simp only [Option.some.injEq, Obj.cells.injEq] at hk
        exact hT hk.2.1))
    have hf0 := pf 0
    clear pf hPA hop hown hrd hbox hb hO s1 hs hT HB1 B1
    generalize plZ o.site P.sites = z at *
    unfold opV
    go_enter Tryd.func62, Tryd.ntmps62
    go_wp2_with fail
    rw [← hX1]
    clear hX1
    refine (CP.out ()).mono ?_
    rintro e w1 ⟨rfl, hw⟩
    subst hw
    go_wp2
    go_end0
    exact ⟨rfl, HF.out⟩
  have hpb : penB P o = ⟨o.a, P.sites ++ [o.site]⟩ := by unfold penB; rw [if_pos hz]
  rw [hpb]
  rw [hz] at CP
  simp only
  clear hz
  have HBX : Hid (B ≤ X1.heap.size) := by show _ ≤ _; omega
  have CCL : Hid (∀ Y : World, _) := fun Y => strClone_calls (txt o.site) Y (by rw [txt_size]; omega)
  have hvb : (Value.slice sa P.sites.length sc).ownBlock ≠ some b := fun hg => by
    obtain ⟨cur, hk⟩ := row_kind hown b hg
    unfold Box at hbox
    rw [hbox] at hk
    simp only [Option.some.injEq, Obj.cells.injEq] at hk
    exact hT hk.2.1
  have hvo : (Value.slice sa P.sites.length sc).ownBlock ≠ some X.heap.size := fun hg => by have := (ownS_lt hO _ hg).2; omega
  have HBO : Hid (∀ dn Y, NP X X1 B (.slice sa P.sites.length sc) P.sites dn Y → Box Y b T (.int .i64 P.last) (.slice sa P.sites.length sc) tl) := fun dn Y hJ => hbox.same (hJ.oth b pl hvb)
  have HOP : Hid (∀ dn Y, NP X X1 B (.slice sa P.sites.length sc) P.sites dn Y → OpAt X.heap.size o Y) := fun dn Y hJ k => (World.cell?_of_block (a := ⟨X.heap.size, k, none⟩) (hJ.oth X.heap.size (by omega) hvo)).trans (hop k)
  have hlt9 : ∀ g, (Value.slice sa P.sites.length sc).ownBlock = some g → g < X1.heap.size := fun g hg => (ownS_lt hown g hg).2
  have HMV : Hid (∀ dn Y, NP X X1 B (.slice sa P.sites.length sc) P.sites dn Y → Mv b (Value.slice sa P.sites.length sc).ownBlock X Y) := fun dn Y hJ =>
    ⟨hJ.bel.os.trans HB1.out.os, hJ.bel.tape.trans HB1.out.tape, hJ.bel.output.trans HB1.out.output, by have := hJ.ge; omega, fun g hg _ hv => (hJ.oth g (by omega) hv).trans (HB1.out.block g hg)⟩
  have HOW : Hid (ownS X1 B (.slice sa P.sites.length sc) P.sites) := hown
  clear pf hPA hop hrd hb hO hpb hvb hvo
  unfold opV
  go_enter Tryd.func62, Tryd.ntmps62
  go_wp2_with fail
  rw [← hX1]
  clear hX1
  refine (CP.out ()).mono ?_
  rintro e w1 ⟨rfl, hw⟩
  subst hw
  clear CP c0 c2 c3 p0
  go_wp2
  refine wp_region_step 12 (by kernel_rfl) (by kernel_rfl) (NP X w1 B (.slice sa P.sites.length sc) P.sites) (RSp w1.heap.size B b X.heap.size (.slice sa P.sites.length sc) P.sites o.site) (fun _ _ _ _ => True) ⟨(Below.refl _ _).drew, Nat.le_refl _, fun _ _ _ => rfl, fun _ => HOW.out⟩ ?_ ?_
  · intro i o_ hi ho a Y dn hJ hA hbn hnot hdep
    match i, hi, ho with
    | 0, _, ho =>
      obtain rfl := Option.some.inj ho
      exact opMove (alike_at hA (t := 0) (by kernel_rfl)) ⟨_, rfl, hJ.later HBX.out (Below.refl _ _), rfl, fun q hq _ t ht => ⟨hbn.yields q hq t ht, trivial, trivial⟩⟩
    | 1, _, ho =>
      obtain rfl := Option.some.inj ho
      exact opMove (alike_at hA (t := 0) (by kernel_rfl)) ⟨_, rfl, hJ.later HBX.out (Below.refl _ _), rfl, fun q hq _ t ht => ⟨hbn.yields q hq t ht, trivial, trivial⟩⟩
    | 2, _, ho =>
      obtain rfl := Option.some.inj ho
      have g1_ : a.eval (.tmp 10) = .pointer (some ⟨b, 0, none⟩) := hbn.yields 1 (hdep ⟨1, .data⟩ (by simp) rfl) 10 rfl
      exact opNil g1_ ⟨_, rfl, hJ.later HBX.out (Below.refl _ _), rfl, fun q hq _ t ht => ⟨hbn.yields q hq t ht, trivial, trivial⟩⟩
    | 3, _, ho =>
      obtain rfl := Option.some.inj ho
      have g2_ : a.eval (.tmp 11) = .pointer (some ⟨b, 0, none⟩) := hbn.yields 2 (hdep ⟨2, .data⟩ (by simp) rfl) 11 rfl
      exact opFieldPen 1 (by omega) g2_ ⟨_, rfl, hJ.later HBX.out (Below.refl _ _), rfl, fun q hq _ t ht => ⟨hbn.yields q hq t ht, trivial, trivial⟩⟩
    | 4, _, ho =>
      obtain rfl := Option.some.inj ho
      have g3_ : a.eval (.tmp 12) = .pointer (some ⟨b, 1, none⟩) := hbn.yields 3 (hdep ⟨3, .data⟩ (by simp) rfl) 12 rfl
      exact opLoadS g3_ (HBO.out _ _ hJ).cells.2.1 ⟨_, rfl, hJ.later HBX.out (Below.refl _ _), rfl, fun q hq _ t ht => ⟨hbn.yields q hq t ht, trivial, trivial⟩⟩
    | 5, _, ho =>
      obtain rfl := Option.some.inj ho
      exact opFieldOp 4 (by omega) (alike_at hA (t := 3) (by kernel_rfl)) ⟨_, rfl, hJ.later HBX.out (Below.refl _ _), rfl, fun q hq _ t ht => ⟨hbn.yields q hq t ht, trivial, trivial⟩⟩
    | 6, _, ho =>
      obtain rfl := Option.some.inj ho
      have g5_ : a.eval (.tmp 14) = .pointer (some ⟨X.heap.size, 4, none⟩) := hbn.yields 5 (hdep ⟨5, .data⟩ (by simp) rfl) 14 rfl
      exact opLoadTxt g5_ (HOP.out _ _ hJ 4) ⟨_, rfl, hJ.later HBX.out (Below.refl _ _), rfl, fun q hq _ t ht => ⟨hbn.yields q hq t ht, trivial, trivial⟩⟩
    | 7, _, ho =>
      obtain rfl := Option.some.inj ho
      have g6_ : a.eval (.tmp 15) = .string (txt o.site) := hbn.yields 6 (hdep ⟨6, .data⟩ (by simp) rfl) 15 rfl
      exact opCloneT g6_ (CCL.out Y) (fun e w' ⟨h1, h2⟩ => ⟨_, h1, _, rfl, hJ.later HBX.out h2, rfl, fun q hq _ t ht => ⟨rsp_mono q _ _ _ (hbn.yields q hq t ht) h2, trivial, trivial⟩⟩)
    | 8, _, ho =>
      obtain rfl := Option.some.inj ho
      have g7_ : a.eval (.tmp 16) = .string (txt o.site) := hbn.yields 7 (hdep ⟨7, .data⟩ (by simp) rfl) 16 rfl
      have bX : Below Y.heap.size Y (Y.alloc (.cells #[.string (txt o.site)] 9)) := (Below.refl _ _).alloc (Nat.le_refl _) _
      exact opNewT g7_ ⟨_, rfl, hJ.later HBX.out bX, ⟨Y.heap.size, rfl, hJ.ge, heap_alloc_new Y _⟩, fun q hq _ t ht => ⟨rsp_mono q _ _ _ (hbn.yields q hq t ht) bX, trivial, trivial⟩⟩
    | 9, _, ho =>
      obtain rfl := Option.some.inj ho
      have g4_ : a.eval (.tmp 13) = .slice sa P.sites.length sc := hbn.yields 4 (hdep ⟨4, .data⟩ (by simp) rfl) 13 rfl
      obtain ⟨q8, e2, hq8, hg8⟩ := hbn.yields 8 (hdep ⟨8, .data⟩ (by simp) rfl) 17 rfl
      have hown := hJ.own hnot
      have hge := hJ.ge
      refine wp_appendT _ _ rfl B _ _ g4_ hown ⟨q8, 0, none⟩ o.site e2 (by simp [World.cell?, hg8]) (by omega) (by have := HBX.out; omega) ?_
      intro v' X' hO hsz2 hoth hat hbel
      exact ⟨_, rfl, ⟨hbel B w1 hJ.bel (Nat.le_refl _), Nat.le_trans hge hsz2, fun j hj hn => (hoth j (by omega) hn).trans (hJ.oth j hj hn), fun h => absurd (.inr rfl) h⟩, hO, fun q hq hne t ht => ⟨rsp_app q _ _ _ hne (hbn.yields q hq t ht) (fun g hg1 hg2 => hoth g hg1 (fun e => by have := hlt9 g e; omega)), trivial, trivial⟩⟩
    | 10, _, ho =>
      obtain rfl := Option.some.inj ho
      have g0_ : a.eval (.tmp 9) = .pointer (some ⟨b, 0, none⟩) := hbn.yields 0 (hdep ⟨0, .data⟩ (by simp) rfl) 9 rfl
      exact opNil g0_ ⟨_, rfl, hJ.later HBX.out (Below.refl _ _), rfl, fun q hq _ t ht => ⟨hbn.yields q hq t ht, trivial, trivial⟩⟩
    | 11, _, ho =>
      obtain rfl := Option.some.inj ho
      have g10_ : a.eval (.tmp 19) = .pointer (some ⟨b, 0, none⟩) := hbn.yields 10 (hdep ⟨10, .data⟩ (by simp) rfl) 19 rfl
      exact opFieldPen 1 (by omega) g10_ ⟨_, rfl, hJ.later HBX.out (Below.refl _ _), rfl, fun q hq _ t ht => ⟨hbn.yields q hq t ht, trivial, trivial⟩⟩
  · intro o_ ho a Y dn hJ hA hbn hdn
    obtain rfl := Option.some.inj ho
    have hO : ownS Y B _ _ := hbn.yields 9 (hdn 9 (by omega)) 18 rfl
    have g11_ : a.eval (.tmp 20) = .pointer (some ⟨b, 1, none⟩) := hbn.yields 11 (hdn 11 (by omega)) 20 rfl
    obtain ⟨sa2, sc2, e2, -⟩ := rdS_own hO
    rw [e2] at hO
    have FX := HBO.out _ _ hJ
    refine opStoreTs g11_ e2 FX.cells.2.1 (FX.cells.2.2.1 1) ?_
    have hbox2 := FX.set1 (.slice sa2 (P.sites ++ [o.site]).length sc2)
    obtain ⟨q0, q1, qf, ql⟩ := hbox2.cells
    have hne : X.heap.size ≠ b := by omega
    have q3 : (Y.setCell ⟨b, 1, none⟩ (.slice sa2 (P.sites ++ [o.site]).length sc2)).cell? ⟨X.heap.size, 1, none⟩ = some (.int .i64 o.a) := (keep_far _ _ (by exact fun e => hne e.symm) 1).trans (HOP.out _ _ hJ 1)
    have q4 := qf 0
    have HF : Hid (∃ x c, Box ((Y.setCell ⟨b, 1, none⟩ (.slice sa2 (P.sites ++ [o.site]).length sc2)).setCell ⟨b, 0, none⟩ (.int .i64 o.a)) b T (.int .i64 o.a) (.slice x (P.sites ++ [o.site]).length c) tl ∧ ownS ((Y.setCell ⟨b, 1, none⟩ (.slice sa2 (P.sites ++ [o.site]).length sc2)).setCell ⟨b, 0, none⟩ (.int .i64 o.a)) B (.slice x (P.sites ++ [o.site]).length c) (P.sites ++ [o.site]) ∧ Mv b (Value.slice sa P.sites.length sc).ownBlock X ((Y.setCell ⟨b, 1, none⟩ (.slice sa2 (P.sites ++ [o.site]).length sc2)).setCell ⟨b, 0, none⟩ (.int .i64 o.a))) := by
      refine ⟨sa2, sc2, hbox2.set0 _, ?_, ((HMV.out _ _ hJ).set 1 _).set 0 _⟩
      exact row_same hO (fun g hg => by
        have hgb : g ≠ b := fun e => by
          obtain ⟨cur, hk⟩ := row_kind hO g hg
          rw [e] at hk
          unfold Box at FX
          rw [FX] at hk
          simp only [Option.some.injEq, Obj.cells.injEq] at hk
          exact hT hk.2.1
        rw [Below.heap_setCell _ _ _ _ (by exact hgb), Below.heap_setCell _ _ _ _ (by exact hgb)])
    obtain ⟨us, hus, rfl⟩ := alike_tmps hA [9, 10, 11, 12, 13, 14, 15, 16, 17, 18, 19, 20] (by kernel_rfl)
    clear hbn hdn hA hus g11_ e2 hO hJ ho FX HBO HOP HMV CCL HBX HOW hlt9 hbox hown hbox2 q1 qf ql B1 s1 hT p1 c1 c4 pl
    simp only [List.mapIdx_cons, List.mapIdx_nil, Nat.reduceAdd, List.contains_cons, List.contains_nil, Nat.reduceBEq, Bool.or_false, Bool.or_true, if_true, if_false, Bool.false_eq_true]
    generalize Y.setCell ⟨b, 1, none⟩ (.slice sa2 (P.sites ++ [o.site]).length sc2) = Z at *
    go_wp2
    go_end0
    exact ⟨rfl, HF.out⟩

end Go.Proofs.YtcjpepdagnifiaaDoor
