/- The pen's methods, and what a writer puts behind its text. -/
import Derived.Test.YtcjpepdagnifiaaDoorJEncodeB
import Derived.Test.YtcjpepdagnifiaaDoorWire2Walks
import Derived.Test.YtcjpepdagnifiaaDoorWire3Walks
import Derived.Test.YtcjpepdagnifiaaDoorAnyOps
import Derived.Tactics
import Derived.Tactics2
import Derived.Defers
import Derived.Recover
import Derived.Laws.Pointers
import Derived.Test.YtcjpepdagnifiaaDoorFixWalks
namespace Go.Proofs.YtcjpepdagnifiaaDoor
open Go.RowKit
set_option linter.unusedVariables false
set_option maxRecDepth 100000

/-- A pen in a box, as one who only reads has it. -/
def PenAt (b : Nat) (P : PenD) (sv : Value) (X : World) : Prop := ∃ sa sc, sv = .slice sa P.sites.length sc ∧ X.cell? ⟨b, 0, none⟩ = some (.int .i64 P.last) ∧ X.cell? ⟨b, 1, none⟩ = some sv ∧ RdS X sa P.sites ∧ P.sites.length ≤ sc

theorem placeOf_calls (b : Nat) (P : PenD) (sv : Value) (x : List UInt8) (X : World) (h : PenAt b P sv X) (hs : SmallP P) :
    Calls Tryd.prog 83 #[.pointer (some ⟨b, 0, none⟩), .string (txt x)] X fun e X' => e = .returned (.int .i64 (plZ x P.sites)) ∧ X' = X := by
  obtain ⟨sa, sc, rfl, c0, c1, hr, hc⟩ := h
  have C : Hid (∀ _ : Unit, _) := fun (_ : Unit) => idxStr_calls X sa sc P.sites x hr (by have := hs.sites; omega)
  have HP : Hid (idxL x P.sites 0 + 1 = plZ x P.sites) := rfl
  have hb := plZ_bd x P.sites
  have hl := hs.sites
  generalize plZ x P.sites = z at *
  have hz : idxL x P.sites 0 = z - 1 := by have := HP.out; omega
  rw [hz] at C
  clear hz hr hs HP
  have hw : wrap64 (z - 1 + 1) = z := by rw [wrap64_in (by omega) (by omega)]; omega
  generalize txt x = t at *
  go_enter Tryd.func83, Tryd.ntmps83
  go_wp2_with fail
  refine (C.out ()).mono ?_
  rintro e w1 ⟨rfl, hw1⟩
  subst hw1
  go_wp2
  go_ret
  exact ⟨rfl, rfl⟩

theorem right_calls (b : Nat) (P : PenD) (sv : Value) (X : World) (h : PenAt b P sv X) (hs : SmallP P) (q : Bool) (hq : q = true ↔ PenR P) :
    Calls Tryd.prog 59 #[.pointer (some ⟨b, 0, none⟩)] X fun e X' => e = .returned (.bool q) ∧ X' = X := by
  obtain ⟨sa, sc, rfl, c0, c1, hr, hc⟩ := h
  by_cases hl : okZ P.last
  · have hq2 : q = true ↔ NamesIn 400 0 P.sites := hq.trans ⟨fun h => h.2, fun h => ⟨hl, h⟩⟩
    have C : Hid (∀ _ : Unit, _) := fun (_ : Unit) => namesOk_calls 400 0 (by omega) (by omega) X sa sc P.sites hr hc hs.sites hs.names q hq2
    have CB : Hid (∀ _ : Unit, _) := fun (_ : Unit) => bounded_yes P.last X hl
    clear hq hq2 hr hs hl
    go_enter Tryd.func59, Tryd.ntmps59
    go_wp2_with fail
    refine (CB.out ()).mono ?_
    rintro e w1 ⟨rfl, hw1⟩
    subst hw1
    go_wp2_with fail
    refine (C.out ()).mono ?_
    rintro e w1 ⟨rfl, hw1⟩
    subst hw1
    go_wp2
    go_ret
    exact ⟨rfl, rfl⟩
  · have hq2 : q = false := by cases q with | false => rfl | true => exact absurd (hq.1 rfl).1 hl
    subst hq2
    have CB : Hid (∀ _ : Unit, _) := fun (_ : Unit) => bounded_no P.last X hl
    clear hq hr hs hl
    go_enter Tryd.func59, Tryd.ntmps59
    go_wp2_with fail
    refine (CB.out ()).mono ?_
    rintro e w1 ⟨rfl, hw1⟩
    subst hw1
    go_wp2
    go_ret
    exact ⟨rfl, rfl⟩

/-- A writer at work. -/
structure WS (n b : Nat) (P : PenD) (sv : Value) (ev : Value) (l : List UInt8) (X : World) : Prop where
  cx : Cx n b ev X
  wr : Wr n b P.last sv l X
  names : ∃ sa sc, sv = .slice sa P.sites.length sc ∧ RdS X sa P.sites ∧ P.sites.length ≤ sc ∧ Far n b X sa
theorem WS.pen {n b : Nat} {P : PenD} {sv ev : Value} {l : List UInt8} {X : World} (h : WS n b P sv ev l X) : PenAt b P sv X := by
  obtain ⟨sa, sc, h1, h2, h3, -⟩ := h.names
  exact ⟨sa, sc, h1, h.wr.pen.1, h.wr.pen.2.1, h2, h3⟩
theorem WS.later {n b : Nat} {P : PenD} {sv ev : Value} {l : List UInt8} {X Y : World} (h : WS n b P sv ev l X) (k : Below X.heap.size X Y) : WS n b P sv ev l Y := by
  obtain ⟨sa, sc, h1, h2, h3, h4⟩ := h.names
  have kk : Kb n b X Y := Kb.of k h.cx.2.2
  exact ⟨h.cx.kb kk, h.wr.later k, sa, sc, h1, rdS_later h2 k, h3, h4.kb kk⟩
theorem WS.put {n b : Nat} {P : PenD} {sv ev : Value} {l l' : List UInt8} {X Y : World} (h : WS n b P sv ev l X) (k : Kb n b X Y) (w : Wr n b P.last sv l' Y) : WS n b P sv ev l' Y := by
  obtain ⟨sa, sc, h1, h2, h3, h4⟩ := h.names
  exact ⟨h.cx.kb k, w, sa, sc, h1, rdS_kb h2 h4 k, h3, h4.kb k⟩
/-- What a step of a writer leaves: behind its text what the step puts there, where it may be written down; else it ends in the error. -/
def PostW (n b : Nat) (P : PenD) (sv ev : Value) (l' : List UInt8) (q : Bool) (X : World) (e : Ending) (X' : World) : Prop :=
  (q = true → e = .returned (.tuple #[]) ∧ WS n b P sv ev l' X') ∧ (q = false → e = .panicked (pan ev) ∧ ∃ l2, WS n b P sv ev l2 X') ∧ Kb n b X X'

theorem postW_no {n b : Nat} {P : PenD} {sv ev : Value} {l' l2 : List UInt8} {X X' : World} (h : WS n b P sv ev l2 X') (k : Kb n b X X') : PostW n b P sv ev l' false X (.panicked (pan ev)) X' :=
  ⟨fun h => (nomatch h), fun _ => ⟨rfl, _, h⟩, k⟩
theorem postW_yes {n b : Nat} {P : PenD} {sv ev : Value} {l' : List UInt8} {X X' : World} (h : WS n b P sv ev l' X') (k : Kb n b X X') : PostW n b P sv ev l' true X (.returned (.tuple #[])) X' :=
  ⟨fun _ => ⟨rfl, h⟩, fun h => (nomatch h), k⟩

theorem WS.write {n b : Nat} {P : PenD} {sv ev : Value} {l : List UInt8} {X : World} (h : WS n b P sv ev l X) (t : List UInt8) (hlen : l.length + t.length ≤ 1073741824) :
    Calls Tryd.prog 71 #[.pointer (some ⟨b, 2, none⟩), .string (txt t)] X fun e w' => e = .returned (.tuple #[.int .i64 t.length, .nilIface]) ∧ WS n b P sv ev (l ++ t) w' ∧ Kb n b X w' :=
  (wwrite_calls n b P.last sv l t X h.cx.2.2 h.wr hlen).mono (fun e w' ⟨h1, h2, h3⟩ => ⟨h1, h.put h3 h2, h3⟩)

set_option maxHeartbeats 1000000 in
theorem wNum_calls (n b : Nat) (P : PenD) (sv ev : Value) (l : List UInt8) (x a : Int) (X : World) (h : WS n b P sv ev l X) (hl : l.length ≤ 1000000) (ha : in64 a ∧ (okZ x → okZ a)) (q : Bool) (hq : q = true ↔ okZ x) :
    Calls Tryd.prog 99 #[.pointer (some ⟨b, 0, none⟩), .int .i64 x, .int .i64 a] X fun e X' => PostW n b P sv ev (l ++ showZ (x - a)) q X e X' := by
  have HS : Hid (WS n b P sv ev l X) := h
  cases q with
  | false =>
    have CB : Hid (∀ _ : Unit, _) := fun (_ : Unit) => bounded_no x X (fun hh => by have := hq.2 hh; cases this)
    have CM : Hid (∀ _ : Unit, _) := fun (_ : Unit) => must_no X ev h.cx.1
    clear h hq
    go_enter Tryd.func99, Tryd.ntmps99
    go_wp2_with fail
    refine (CB.out ()).mono ?_
    rintro e w1 ⟨rfl, hw1⟩
    subst hw1
    go_wp2_with fail
    refine (CM.out ()).mono ?_
    rintro e w1 ⟨rfl, hw1⟩
    subst hw1
    go_wp2
    exact ⟨rfl, postW_no HS.out (Kb.refl _ _ _)⟩
  | true =>
    have hx := hq.1 rfl
    have hab := ha.2 hx
    have CB : Hid (∀ _ : Unit, _) := fun (_ : Unit) => bounded_yes x X hx
    have CM : Hid (∀ _ : Unit, _) := fun (_ : Unit) => must_yes X
    have hw : wrap64 (x - a) = x - a := wrap64_in (by omega) (by omega)
    have hxa : IntKind.i64.wrap (x - a) = x - a := by rw [IntKind.wrap_i64]; unfold wrap64 at hw; exact hw
    have CI : Hid (∀ Y : World, Calls Tryd.prog 108 #[.int .i64 (IntKind.i64.wrap (x - a))] Y fun e w' => e = .returned (.string (txt (showZ (x - a)))) ∧ Below Y.heap.size Y w') := fun Y => by rw [hxa]; exact iShowInt_calls (x - a) Y
    have hsl := showZ_length (x - a)
    have CW : Hid (∀ Y : World, WS n b P sv ev l Y → _) := fun Y hY => hY.write (showZ (x - a)) (by omega)
    have H0 : WS n b P sv ev l X.drew := h.later (Below.refl _ _).drew
    have HK : Hid (∀ Y Z, Below X.drew.heap.size X.drew Y → Kb n b Y Z → Kb n b X Z) := fun Y Z h1 h2 => (Kb.of ((Below.refl _ _).drew.trans h1) h.cx.2.2).trans h2
    generalize showZ (x - a) = t at *
    clear h hq hx hab ha hw hxa
    go_enter Tryd.func99, Tryd.ntmps99
    go_wp2_with fail
    refine (CB.out ()).mono ?_
    rintro e w1 ⟨rfl, hw1⟩
    subst hw1
    go_wp2_with fail
    refine (CM.out ()).mono ?_
    rintro e w1 ⟨rfl, hw1⟩
    subst hw1
    go_wp2_with fail
    go_region_held (fun Y => ∃ l2, WS n b P sv ev l2 Y) (first | exact ⟨_, h2⟩ | exact ⟨_, H1⟩ | exact ⟨_, H0⟩)
      (first
        | (go_at_call 108; refine (CI.out _).mono ?_; rintro e w1 ⟨rfl, b1⟩; have H1 := H0.later b1)
        | (go_at_call 71; refine (CW.out _ H1).mono ?_; rintro e w2 ⟨rfl, h2, k2⟩))
    all_goals
      go_end0
      exact postW_yes h2 (HK.out _ _ b1 k2)

set_option maxHeartbeats 1000000 in
theorem wCnt_calls (n b : Nat) (P : PenD) (sv ev : Value) (l : List UInt8) (x m : Int) (X : World) (h : WS n b P sv ev l X) (hl : l.length ≤ 1000000) (q : Bool) (hq : q = true ↔ 0 ≤ x ∧ x ≤ m) :
    Calls Tryd.prog 101 #[.pointer (some ⟨b, 0, none⟩), .int .i64 x, .int .i64 m] X fun e X' => PostW n b P sv ev (l ++ varZ x) q X e X' := by
  have HS : Hid (WS n b P sv ev l X) := h
  cases q with
  | false =>
    have CB : Hid (∀ _ : Unit, _) := fun (_ : Unit) => within_no x 0 m X (by
      rcases Int.lt_or_le x 0 with h0 | h0
      · exact .inl h0
      · exact .inr (by
          rcases Int.lt_or_le m x with h1 | h1
          · exact h1
          · have := hq.2 ⟨h0, h1⟩; cases this))
    have CM : Hid (∀ _ : Unit, _) := fun (_ : Unit) => must_no X ev h.cx.1
    clear h hq
    go_enter Tryd.func101, Tryd.ntmps101
    go_wp2_with fail
    refine (CB.out ()).mono ?_
    rintro e w1 ⟨rfl, hw1⟩
    subst hw1
    go_wp2_with fail
    refine (CM.out ()).mono ?_
    rintro e w1 ⟨rfl, hw1⟩
    subst hw1
    go_wp2
    exact ⟨rfl, postW_no HS.out (Kb.refl _ _ _)⟩
  | true =>
    have hx := hq.1 rfl
    have CB : Hid (∀ _ : Unit, _) := fun (_ : Unit) => within_yes x 0 m X hx.1 hx.2
    have CM : Hid (∀ _ : Unit, _) := fun (_ : Unit) => must_yes X
    have CI : Hid (∀ Y : World, _) := fun Y => iVar_calls x Y
    have hsl := varZ_length x
    have CW : Hid (∀ Y : World, WS n b P sv ev l Y → _) := fun Y hY => hY.write (varZ x) (by omega)
    have H0 : WS n b P sv ev l X.drew := h.later (Below.refl _ _).drew
    have HK : Hid (∀ Y Z, Below X.drew.heap.size X.drew Y → Kb n b Y Z → Kb n b X Z) := fun Y Z h1 h2 => (Kb.of ((Below.refl _ _).drew.trans h1) h.cx.2.2).trans h2
    generalize varZ x = t at *
    clear h hq hx
    go_enter Tryd.func101, Tryd.ntmps101
    go_wp2_with fail
    refine (CB.out ()).mono ?_
    rintro e w1 ⟨rfl, hw1⟩
    subst hw1
    go_wp2_with fail
    refine (CM.out ()).mono ?_
    rintro e w1 ⟨rfl, hw1⟩
    subst hw1
    go_wp2_with fail
    go_region_held (fun Y => ∃ l2, WS n b P sv ev l2 Y) (first | exact ⟨_, h2⟩ | exact ⟨_, H1⟩ | exact ⟨_, H0⟩)
      (first
        | (go_at_call 89; refine (CI.out _).mono ?_; rintro e w1 ⟨rfl, b1⟩; have H1 := H0.later b1)
        | (go_at_call 71; refine (CW.out _ H1).mono ?_; rintro e w2 ⟨rfl, h2, k2⟩))
    all_goals
      go_end0
      exact postW_yes h2 (HK.out _ _ b1 k2)

set_option maxHeartbeats 2000000 in
theorem wName_calls (n b : Nat) (P : PenD) (sv ev : Value) (l x : List UInt8) (X : World) (h : WS n b P sv ev l X) (hl : l.length ≤ 900000) (hs : SmallP P) (hx0 : x.length ≤ 1048576) (q : Bool) (hq : q = true ↔ x.length ≤ 8) :
    Calls Tryd.prog 100 #[.pointer (some ⟨b, 0, none⟩), .string (txt x)] X fun e X' => PostW n b P sv ev (l ++ siteT P.sites x) q X e X' := by
  have HS : Hid (WS n b P sv ev l X) := h
  have hsz : (txt x).size = x.length := txt_size _
  cases q with
  | false =>
    have hx : ¬ x.length ≤ 8 := fun hh => by have := hq.2 hh; cases this
    have hx' : ¬ ((x.length : Nat) : Int) ≤ 8 := by omega
    have CM : Hid (∀ _ : Unit, _) := fun (_ : Unit) => must_no X ev h.cx.1
    clear h hq hs
    go_enter Tryd.func100, Tryd.ntmps100
    go_wp2_with fail
    refine (CM.out ()).mono ?_
    rintro e w1 ⟨rfl, hw1⟩
    subst hw1
    go_wp2
    exact ⟨rfl, postW_no HS.out (Kb.refl _ _ _)⟩
  | true =>
    have hx := hq.1 rfl
    have hx' : ((x.length : Nat) : Int) ≤ 8 := by omega
    have CM : Hid (∀ _ : Unit, _) := fun (_ : Unit) => must_yes X
    have CP : Hid (∀ _ : Unit, _) := fun (_ : Unit) => placeOf_calls b P sv x X h.pen hs
    have hpb := plZ_bd x P.sites
    have CC : Hid (∀ _ : Unit, _) := fun (_ : Unit) => wCnt_calls n b P sv ev l (plZ x P.sites) (P.sites.length : Int) X h (by omega) true ⟨fun _ => hpb, fun _ => rfl⟩
    have HST : Hid (siteT P.sites x = if plZ x P.sites = 0 then varZ 0 ++ showT x else varZ (plZ x P.sites)) := rfl
    obtain ⟨sa, sc, rfl, c0, c1, -⟩ := h.pen
    have CI : Hid (∀ Y : World, _) := fun Y => iShowText_calls x Y hx0
    have hsl := showT_length x
    have hvl := varZ_length 0
    have CW : Hid (∀ Y : World, WS n b P (.slice sa P.sites.length sc) ev (l ++ varZ 0) Y → _) := fun Y hY => hY.write (showT x) (by rw [List.length_append]; omega)
    clear h hq hs hx
    generalize plZ x P.sites = z at *
    by_cases hz : z = 0
    · subst hz
      have HT : Hid (siteT P.sites x = varZ 0 ++ showT x) := by have := HST.out; rw [if_pos rfl] at this; exact this
      clear HST
      generalize showT x = t at *
      generalize siteT P.sites x = u at *
      go_enter Tryd.func100, Tryd.ntmps100
      go_wp2_with fail
      refine (CM.out ()).mono ?_
      rintro e w1 ⟨rfl, hw1⟩
      subst hw1
      go_wp2_with fail
      refine (CP.out ()).mono ?_
      rintro e w1 ⟨rfl, hw1⟩
      subst hw1
      go_wp2_with fail
      refine (CC.out ()).mono ?_
      rintro e w1 ⟨hy, -, k1⟩
      obtain ⟨rfl, h1⟩ := hy rfl
      have H0 : WS n b P (.slice sa P.sites.length sc) ev (l ++ varZ 0) w1.drew := h1.later (Below.refl _ _).drew
      have HKn : Hid (n ≤ w1.heap.size) := h1.cx.2.2
      clear CC c0 c1 h1
      go_wp2_with fail
      go_region_held (fun Y => ∃ l2, WS n b P (.slice sa P.sites.length sc) ev l2 Y) (first | exact ⟨_, h2⟩ | exact ⟨_, H1⟩ | exact ⟨_, H0⟩)
        (first
          | (go_at_call 109; refine (CI.out _).mono ?_; rintro e w3 ⟨rfl, b1⟩; have H1 := H0.later b1)
          | (go_at_call 71; refine (CW.out _ H1).mono ?_; rintro e w2 ⟨rfl, h2, k2⟩))
      all_goals
        go_wp2
        go_end0
        refine postW_yes ?_ (k1.trans ((Kb.of ((Below.refl _ _).drew.trans b1) HKn.out).trans k2))
        rw [HT.out, ← List.append_assoc]
        exact h2
    · have HT : Hid (siteT P.sites x = varZ z) := by have := HST.out; rw [if_neg hz] at this; exact this
      clear HST CI CW
      generalize siteT P.sites x = u at *
      go_enter Tryd.func100, Tryd.ntmps100
      go_wp2_with fail
      refine (CM.out ()).mono ?_
      rintro e w1 ⟨rfl, hw1⟩
      subst hw1
      go_wp2_with fail
      refine (CP.out ()).mono ?_
      rintro e w1 ⟨rfl, hw1⟩
      subst hw1
      go_wp2_with fail
      refine (CC.out ()).mono ?_
      rintro e w1 ⟨hy, -, k1⟩
      obtain ⟨rfl, h1⟩ := hy rfl
      have HF : Hid (PostW _ _ _ _ _ _ _ _ _ _) := postW_yes h1 k1
      clear CC c0 c1 h1 k1
      go_wp2
      go_end0
      rw [HT.out]
      exact HF.out

end Go.Proofs.YtcjpepdagnifiaaDoor

namespace Go.Proofs.YtcjpepdagnifiaaDoor
open Go.RowKit
set_option linter.unusedVariables false
set_option maxRecDepth 100000

/-- What a region's operations yield: operation m what P says, the others what stands in the list. -/
def RP (m : Nat) (P : World → Value → Prop) (L : List Value) (i : Nat) (X : World) (v : Value) : Prop := (i = m → P X v) ∧ (i ≠ m → v = L.getD i undef)
theorem rp_mono {m : Nat} {P : World → Value → Prop} {L : List Value} (hP : ∀ X Y v, P X v → Below X.heap.size X Y → P Y v) (i : Nat) (X Y : World) (v : Value) (h : RP m P L i X v) (hb : Below X.heap.size X Y) : RP m P L i Y v :=
  ⟨fun e => hP X Y v (h.1 e) hb, h.2⟩
theorem rp_at {m : Nat} {P : World → Value → Prop} {L : List Value} {i : Nat} {X : World} {v u : Value} (h : RP m P L i X v) (hi : i ≠ m) (hu : L.getD i undef = u) : v = u := (h.2 hi).trans hu
theorem rp_p {m : Nat} {P : World → Value → Prop} {L : List Value} {X : World} {v : Value} (h : RP m P L m X v) : P X v := h.1 rfl
theorem rp_put {m : Nat} {P : World → Value → Prop} {L : List Value} {i : Nat} {X : World} {v : Value} (hi : i ≠ m) (hv : L.getD i undef = v) : RP m P L i X v := ⟨fun e => absurd e hi, fun _ => hv.symm⟩
theorem rp_call {m : Nat} {P : World → Value → Prop} {L : List Value} {X : World} {v : Value} (h : P X v) : RP m P L m X v := ⟨fun _ => h, fun e => absurd rfl e⟩
def noP : World → Value → Prop := fun _ _ => True
theorem noP_mono (X Y : World) (v : Value) (h : noP X v) (hb : Below X.heap.size X Y) : noP Y v := h

theorem opNil {t i : Tmp} {ty : TypeId} {pos : String} {af : Array Edge} {a : Act} {X : World} {K : Act → World → Prop} {Q : Exit → Act → World → Prop} {x : Addr} (h1 : a.eval (.tmp i) = .pointer (some x)) (hK : K (a.put (some t) (.pointer (some x))) X) :
    Oper.wp Tryd.prog ⟨some t, .nilCheck (.tmp i), ty, pos, af, none⟩ a X K Q := by
  have h := ev_tmp h1
  go_simp; exact hK

end Go.Proofs.YtcjpepdagnifiaaDoor

namespace Go.Proofs.YtcjpepdagnifiaaDoor
open Go.RowKit
set_option linter.unusedVariables false
set_option maxRecDepth 100000

/-- An operation in a box of its own. -/
def OpAt (g : Nat) (o : OpD) (Y : World) : Prop := ∀ k, Y.cell? ⟨g, k, none⟩ = (#[.int .i64 o.kind, .int .i64 o.a, .int .i64 o.b, .int .i64 o.c, .string (txt o.site)] : Array Value)[k]?
theorem OpAt.cells {g : Nat} {o : OpD} {Y : World} (h : OpAt g o Y) : Y.cell? ⟨g, 0, none⟩ = some (.int .i64 o.kind) ∧ Y.cell? ⟨g, 1, none⟩ = some (.int .i64 o.a) ∧ Y.cell? ⟨g, 2, none⟩ = some (.int .i64 o.b) ∧ Y.cell? ⟨g, 3, none⟩ = some (.int .i64 o.c) ∧ Y.cell? ⟨g, 4, none⟩ = some (.string (txt o.site)) :=
  ⟨h 0, h 1, h 2, h 3, h 4⟩
theorem OpAt.kb {n b g : Nat} {o : OpD} {X Y : World} (h : OpAt g o X) (hs : Safe n b X g) (k : Kb n b X Y) : OpAt g o Y := fun i => (Safe.cell (p := ⟨g, i, none⟩) hs k).trans (h i)
theorem OpAt.new (X : World) (o : OpD) (t : TypeId) : OpAt X.heap.size o (X.alloc (.cells #[.int .i64 o.kind, .int .i64 o.a, .int .i64 o.b, .int .i64 o.c, .string (txt o.site)] t)) := fun k => by rw [World.cell?_alloc_mark]

theorem q_no {q : Bool} {p : Prop} (h : q = true ↔ p) (hn : ¬ p) : q = false := by cases q with | false => rfl | true => exact absurd (h.1 rfl) hn

theorem opFieldWr0 {t i : Tmp} {ty : TypeId} {pos : String} {af : Array Edge} {a : Act} {X : World} {K : Act → World → Prop} {Q : Exit → Act → World → Prop} {g : Nat} (h1 : a.eval (.tmp i) = .pointer (some ⟨g, 0, none⟩)) (hK : K (a.put (some t) (.pointer (some ⟨g, 0, none⟩))) X) :
    Oper.wp Tryd.prog ⟨some t, .fieldAddr 100 (.tmp i) 0, ty, pos, af, none⟩ a X K Q := by
  have h := ev_tmp h1
  go_simp; exact hK
theorem opFieldPen0 {t i : Tmp} {ty : TypeId} {pos : String} {af : Array Edge} {a : Act} {X : World} {K : Act → World → Prop} {Q : Exit → Act → World → Prop} {g : Nat} (h1 : a.eval (.tmp i) = .pointer (some ⟨g, 0, none⟩)) (hK : K (a.put (some t) (.pointer (some ⟨g, 0, none⟩))) X) :
    Oper.wp Tryd.prog ⟨some t, .fieldAddr 31 (.tmp i) 0, ty, pos, af, none⟩ a X K Q := by
  have h := ev_tmp h1
  go_simp; exact hK
theorem opFieldOp1 {t i : Tmp} {ty : TypeId} {pos : String} {af : Array Edge} {a : Act} {X : World} {K : Act → World → Prop} {Q : Exit → Act → World → Prop} {g : Nat} (h1 : a.eval (.tmp i) = .pointer (some ⟨g, 0, none⟩)) (hK : K (a.put (some t) (.pointer (some ⟨g, 1, none⟩))) X) :
    Oper.wp Tryd.prog ⟨some t, .fieldAddr 27 (.tmp i) 1, ty, pos, af, none⟩ a X K Q := by
  have h := ev_tmp h1
  go_simp; exact hK
theorem opCallNum {t i j k : Tmp} {ty : TypeId} {pos : String} {af : Array Edge} {ats : Array TypeId} {a : Act} {X : World} {K : Act → World → Prop} {Q : Exit → Act → World → Prop} {u v x : Value} {post : Ending → World → Prop} (h1 : a.eval (.tmp i) = u) (h2 : a.eval (.tmp j) = v) (h3 : a.eval (.tmp k) = x) (hC : Calls Tryd.prog 99 #[u, v, x] X post) (hK : ∀ e w', post e w' → ∃ ch, e = .panicked ch ∧ Q (.panic ch) a w') :
    Oper.wp Tryd.prog ⟨some t, .call { callee := .value (.func 99), args := #[.tmp i, .tmp j, .tmp k], argTypes := ats }, ty, pos, af, none⟩ a X K Q := by
  have e1 := ev_tmp h1
  have e2 := ev_tmp h2
  have e3 := ev_tmp h3
  go_simp
  refine hC.mono (fun e w' hp => ?_)
  obtain ⟨ch, rfl, hx⟩ := hK e w' hp
  exact hx

set_option maxHeartbeats 4000000 in
theorem wOp_calls (n b : Nat) (P : PenD) (sv ev : Value) (l : List UInt8) (o : OpD) (X : World) (h : WS n b P sv ev l X) (hl : l.length ≤ 800000) (hs : SmallP P) (hpl : okZ P.last) (hx0 : o.site.length ≤ 1048576) (hso : SaneOp o) (q : Bool) (hq : q = true ↔ SpeakO o) :
    Calls Tryd.prog 86 #[.pointer (some ⟨b, 0, none⟩), opV o] X fun e X' => PostW n b P sv ev (l ++ opT P.last P.sites o) q X e X' := by
  have hbX := h.wr.pen.2.2
  obtain ⟨X1, hX1⟩ : ∃ X1, X1 = X.alloc (.cells #[.int .i64 o.kind, .int .i64 o.a, .int .i64 o.b, .int .i64 o.c, .string (txt o.site)] 27) := ⟨_, rfl⟩
  have B1 : Below X.heap.size X X1 := by rw [hX1]; exact (Below.refl _ _).alloc (Nat.le_refl _) _
  have W0 : WS n b P sv ev l X1 := h.later B1
  have K0 : Kb n b X X1 := Kb.of B1 h.cx.2.2
  have HO : Hid (∀ Y, Kb n b X1 Y → OpAt X.heap.size o Y) := fun Y hY => (show OpAt X.heap.size o X1 by rw [hX1]; exact OpAt.new X o _).kb (by rw [hX1]; exact Safe.new X _ _ (by decide) hbX) hY
  have HPC : Hid (∀ l2 Y, WS n b P sv ev l2 Y → Y.cell? ⟨b, 0, none⟩ = some (.int .i64 P.last)) := fun l2 Y hY => hY.wr.pen.1
  have CN : Hid (∀ (x a : Int) (l2 : List UInt8) (Y : World) (q2 : Bool), WS n b P sv ev l2 Y → l2.length ≤ 1000000 → (in64 a ∧ (okZ x → okZ a)) → (q2 = true ↔ okZ x) → _) := fun x a l2 Y q2 h1 h2 h3 h4 => wNum_calls n b P sv ev l2 x a Y h1 h2 h3 q2 h4
  have CS : Hid (∀ (l2 : List UInt8) (Y : World) (q2 : Bool), WS n b P sv ev l2 Y → l2.length ≤ 900000 → (q2 = true ↔ o.site.length ≤ 8) → _) := fun l2 Y q2 h1 h2 h4 => wName_calls n b P sv ev l2 o.site Y h1 h2 hs hx0 q2 h4
  have HSP : Hid (q = true ↔ SpeakO o) := hq
  have HT : Hid (opT P.last P.sites o = showZ o.kind ++ (showZ (o.a - P.last) ++ (showZ o.b ++ (showZ (o.c - o.a) ++ siteT P.sites o.site)))) := rfl
  have z1 := showZ_length o.kind
  have z2 := showZ_length (o.a - P.last)
  have z3 := showZ_length o.b
  have z4 := showZ_length (o.c - o.a)
  have iA := hso.a
  have i0 : in64 0 := ⟨by omega, by omega⟩
  have iP : in64 P.last := ⟨by omega, by omega⟩
  obtain ⟨ok, oa, ob, oc, os⟩ := o
  simp only at *
  obtain ⟨c0, c1, c2, c3, c4⟩ := (HO.out _ (Kb.refl _ _ _)).cells
  simp only at c0 c1 c2 c3 c4
  have HSS : Hid (∀ l2 Y, WS n b P sv ev l2 Y → Kb n b X1 Y → ((∃ l2, WS n b P sv ev l2 Y) ∧ Y.cell? ⟨b, 0, none⟩ = some (.int .i64 P.last) ∧ Y.cell? ⟨X.heap.size, 1, none⟩ = some (.int .i64 oa))) := fun l2 Y h1 h2 => ⟨⟨l2, h1⟩, HPC.out _ _ h1, (HO.out _ h2).cells.2.1⟩
  clear h hq hs hso B1
  unfold opV
  simp only
  have C1 := CN.out ok 0 l X1 (decide (okZ ok)) W0 (by omega) ⟨i0, fun _ => ⟨by omega, by omega⟩⟩ decide_eq_true_iff
  rw [Int.sub_zero] at C1
  have HC1 : Hid _ := C1
  clear C1
  go_enter Tryd.func86, Tryd.ntmps86
  go_wp2_with fail
  rw [← hX1]
  clear hX1
  refine (Calls.mono HC1.out ?_)
  rintro e Y1 ⟨hy, hn, kk⟩
  by_cases k1 : Hid (okZ ok)
  case neg =>
    obtain ⟨rfl, l2, H2⟩ := hn (decide_eq_false (p := okZ ok) k1)
    have hq0 := q_no HSP.out (fun hh => k1 hh.1)
    subst hq0
    have HF : Hid (PostW n b P sv ev (l ++ opT P.last P.sites ⟨ok, oa, ob, oc, os⟩) false X _ Y1) := postW_no H2 (K0.trans kk)
    clear hn hy H2 c0 c1 c2 c3 c4 HC1 k1 HO HPC CN CS HSP HT
    go_wp2
    exact ⟨rfl, HF.out⟩
  obtain ⟨rfl, W1⟩ := hy (decide_eq_true (p := okZ ok) k1)
  have K1 := kk
  clear hy hn HC1 c0 c1 c2 c3 c4 W0 kk
  obtain ⟨c0, c1, c2, c3, c4⟩ := (HO.out _ K1).cells
  simp only at c0 c1 c2 c3 c4
  have p0 := HPC.out _ _ W1
  have D1 : WS n b P sv ev (l ++ showZ ok) Y1.drew := W1.later (Below.refl _ _).drew
  have KD : Kb n b X1 Y1.drew := K1.trans (Kb.of (Below.refl _ _).drew W1.cx.2.2)
  have C2 := CN.out oa P.last _ _ (decide (okZ oa)) D1 (by rw [List.length_append]; omega) ⟨iP, fun _ => hpl⟩ decide_eq_true_iff
  have HC2 : Hid _ := C2
  clear C2
  by_cases k2 : Hid (okZ oa)
  case neg =>
    have hq0 := q_no HSP.out (fun hh => k2 hh.2.1)
    subst hq0
    have HY : Hid (∀ Y, Below Y1.heap.size Y1 Y → WS n b P sv ev (l ++ showZ ok) Y ∧ Kb n b X Y ∧ Y.cell? ⟨b, 0, none⟩ = some (.int .i64 P.last) ∧ Y.cell? ⟨X.heap.size, 1, none⟩ = some (.int .i64 oa)) := fun Y hY => by
      have hw := W1.later hY
      have hk := K1.trans (Kb.of hY W1.cx.2.2)
      exact ⟨hw, K0.trans hk, HPC.out _ _ hw, (HO.out _ hk).cells.2.1⟩
    have CN2 : Hid (∀ (Y : World), WS n b P sv ev (l ++ showZ ok) Y → _) := fun Y hY => CN.out oa P.last _ Y (decide (okZ oa)) hY (by rw [List.length_append]; omega) ⟨iP, fun _ => hpl⟩ decide_eq_true_iff
    clear HC2 D1 KD c0 c1 c2 c3 c4 p0 K1 W1
    go_wp2_with fail
    refine wp_region_last 8 (by kernel_rfl) (by kernel_rfl) (RP 1000 noP [.pointer (some ⟨b, 0, none⟩), .pointer (some ⟨X.heap.size, 1, none⟩), .int .i64 oa, .pointer (some ⟨b, 0, none⟩), .pointer (some ⟨b, 0, none⟩), .pointer (some ⟨b, 0, none⟩), .pointer (some ⟨b, 0, none⟩), .int .i64 P.last]) (rp_mono noP_mono) ?_ ?_
    · intro i o hi ho a Y hY hA hdep
      match i, hi, ho with
      | 0, _, ho =>
        obtain rfl := Option.some.inj ho
        exact opMove (alike_at hA (t := 0) (by kernel_rfl)) ⟨_, rfl, Below.refl _ _, rp_put (by decide) rfl⟩
      | 1, _, ho =>
        obtain rfl := Option.some.inj ho
        exact opFieldOp1 (alike_at hA (t := 3) (by kernel_rfl)) ⟨_, rfl, Below.refl _ _, rp_put (by decide) rfl⟩
      | 2, _, ho =>
        obtain rfl := Option.some.inj ho
        have g0_ : a.eval (.tmp 9) = .pointer (some ⟨X.heap.size, 1, none⟩) := rp_at (hdep ⟨1, .data⟩ (by simp) rfl 9 rfl) (by decide) rfl
        exact opLoadInt g0_ (HY.out Y hY).2.2.2 ⟨_, rfl, Below.refl _ _, rp_put (by decide) rfl⟩
      | 3, _, ho =>
        obtain rfl := Option.some.inj ho
        exact opMove (alike_at hA (t := 0) (by kernel_rfl)) ⟨_, rfl, Below.refl _ _, rp_put (by decide) rfl⟩
      | 4, _, ho =>
        obtain rfl := Option.some.inj ho
        have g0_ : a.eval (.tmp 11) = .pointer (some ⟨b, 0, none⟩) := rp_at (hdep ⟨3, .data⟩ (by simp) rfl 11 rfl) (by decide) rfl
        exact opNil g0_ ⟨_, rfl, Below.refl _ _, rp_put (by decide) rfl⟩
      | 5, _, ho =>
        obtain rfl := Option.some.inj ho
        have g0_ : a.eval (.tmp 12) = .pointer (some ⟨b, 0, none⟩) := rp_at (hdep ⟨4, .data⟩ (by simp) rfl 12 rfl) (by decide) rfl
        exact opFieldWr0 g0_ ⟨_, rfl, Below.refl _ _, rp_put (by decide) rfl⟩
      | 6, _, ho =>
        obtain rfl := Option.some.inj ho
        have g0_ : a.eval (.tmp 13) = .pointer (some ⟨b, 0, none⟩) := rp_at (hdep ⟨5, .data⟩ (by simp) rfl 13 rfl) (by decide) rfl
        exact opFieldPen0 g0_ ⟨_, rfl, Below.refl _ _, rp_put (by decide) rfl⟩
      | 7, _, ho =>
        obtain rfl := Option.some.inj ho
        have g0_ : a.eval (.tmp 14) = .pointer (some ⟨b, 0, none⟩) := rp_at (hdep ⟨6, .data⟩ (by simp) rfl 14 rfl) (by decide) rfl
        exact opLoadInt g0_ (HY.out Y hY).2.2.1 ⟨_, rfl, Below.refl _ _, rp_put (by decide) rfl⟩
    · intro o ho a Y hY hA hdep
      obtain rfl := Option.some.inj ho
      have g0_ : a.eval (.tmp 8) = .pointer (some ⟨b, 0, none⟩) := rp_at (hdep ⟨0, .data⟩ (by simp) rfl 8 rfl) (by decide) rfl
      have g1_ : a.eval (.tmp 10) = .int .i64 oa := rp_at (hdep ⟨2, .data⟩ (by simp) rfl 10 rfl) (by decide) rfl
      have g2_ : a.eval (.tmp 15) = .int .i64 P.last := rp_at (hdep ⟨7, .data⟩ (by simp) rfl 15 rfl) (by decide) rfl
      obtain ⟨y1, y2, -, -⟩ := HY.out Y hY
      refine opCallNum g0_ g1_ g2_ (CN2.out Y y1) ?_
      rintro e Y2 ⟨-, hn, kk2⟩
      obtain ⟨rfl, l2, H2⟩ := hn (decide_eq_false (p := okZ oa) k2)
      refine ⟨_, rfl, ?_⟩
      obtain ⟨us, hus, rfl⟩ := alike_tmps hA [8, 9, 10, 11, 12, 13, 14, 15, 16] (by kernel_rfl)
      exact ⟨rfl, postW_no H2 (y2.trans kk2)⟩
  go_wp2_with fail
  go_region_held (fun Y => (∃ l2, WS n b P sv ev l2 Y) ∧ Y.cell? ⟨b, 0, none⟩ = some (.int .i64 P.last) ∧ Y.cell? ⟨X.heap.size, 1, none⟩ = some (.int .i64 oa)) (first | exact HSS.out _ _ W2 (KD.trans kk2) | exact HSS.out _ _ D1 KD)
    ((go_at_call 99; refine (Calls.mono HC2.out ?_); rintro e Y2 ⟨hy, -, kk2⟩; (obtain ⟨rfl, W2⟩ := hy (decide_eq_true (p := okZ oa) k2))))
  have K2 := KD.trans kk2
  clear hy K1 KD kk2 D1 HC2 W1 c0 c1 c2 c3 c4 p0
  obtain ⟨c0, c1, c2, c3, c4⟩ := (HO.out _ K2).cells
  simp only at c0 c1 c2 c3 c4
  have C3 := CN.out ob 0 _ _ (decide (okZ ob)) W2 (by simp only [List.length_append]; omega) ⟨i0, fun _ => ⟨by omega, by omega⟩⟩ decide_eq_true_iff
  rw [Int.sub_zero] at C3
  have HC3 : Hid _ := C3
  clear C3
  go_wp2_with fail
  refine (Calls.mono HC3.out ?_)
  rintro e Y3 ⟨hy, hn, kk⟩
  by_cases k3 : Hid (okZ ob)
  case neg =>
    obtain ⟨rfl, l2, H2⟩ := hn (decide_eq_false (p := okZ ob) k3)
    have hq0 := q_no HSP.out (fun hh => k3 hh.2.2.1)
    subst hq0
    have HF : Hid (PostW n b P sv ev (l ++ opT P.last P.sites ⟨ok, oa, ob, oc, os⟩) false X _ Y3) := postW_no H2 (K0.trans (K2.trans kk))
    clear hn hy H2 c0 c1 c2 c3 c4
    go_wp2
    exact ⟨rfl, HF.out⟩
  obtain ⟨rfl, W3⟩ := hy (decide_eq_true (p := okZ ob) k3)
  have K3 := K2.trans kk
  clear hy hn HC3 c0 c1 c2 c3 c4 W2 kk K2
  obtain ⟨c0, c1, c2, c3, c4⟩ := (HO.out _ K3).cells
  simp only at c0 c1 c2 c3 c4
  have C4 := CN.out oc oa _ _ (decide (okZ oc)) W3 (by simp only [List.length_append]; omega) ⟨iA, fun _ => k2⟩ decide_eq_true_iff
  have HC4 : Hid _ := C4
  clear C4
  go_wp2_with fail
  refine (Calls.mono HC4.out ?_)
  rintro e Y4 ⟨hy, hn, kk⟩
  by_cases k4 : Hid (okZ oc)
  case neg =>
    obtain ⟨rfl, l2, H2⟩ := hn (decide_eq_false (p := okZ oc) k4)
    have hq0 := q_no HSP.out (fun hh => k4 hh.2.2.2.1)
    subst hq0
    have HF : Hid (PostW n b P sv ev (l ++ opT P.last P.sites ⟨ok, oa, ob, oc, os⟩) false X _ Y4) := postW_no H2 (K0.trans (K3.trans kk))
    clear hn hy H2 c0 c1 c2 c3 c4
    go_wp2
    exact ⟨rfl, HF.out⟩
  obtain ⟨rfl, W4⟩ := hy (decide_eq_true (p := okZ oc) k4)
  have K4 := K3.trans kk
  clear hy hn HC4 c0 c1 c2 c3 c4 W3 kk K3
  obtain ⟨c0, c1, c2, c3, c4⟩ := (HO.out _ K4).cells
  simp only at c0 c1 c2 c3 c4
  have C5 := CS.out _ _ (decide (os.length ≤ 8)) W4 (by simp only [List.length_append]; omega) decide_eq_true_iff
  have HC5 : Hid _ := C5
  clear C5
  go_wp2_with fail
  refine (Calls.mono HC5.out ?_)
  rintro e Y5 ⟨hy, hn, kk⟩
  by_cases k5 : Hid (os.length ≤ 8)
  case neg =>
    obtain ⟨rfl, l2, H2⟩ := hn (decide_eq_false (p := os.length ≤ 8) k5)
    have hq0 := q_no HSP.out (fun hh => k5 hh.2.2.2.2)
    subst hq0
    have HF : Hid (PostW n b P sv ev (l ++ opT P.last P.sites ⟨ok, oa, ob, oc, os⟩) false X _ Y5) := postW_no H2 (K0.trans (K4.trans kk))
    clear hn hy H2 c0 c1 c2 c3 c4
    go_wp2
    exact ⟨rfl, HF.out⟩
  obtain ⟨rfl, W5⟩ := hy (decide_eq_true (p := os.length ≤ 8) k5)
  have hq1 : q = true := HSP.out.2 ⟨k1, k2, k3, k4, k5⟩
  subst hq1
  have HF : Hid (PostW n b P sv ev (l ++ opT P.last P.sites ⟨ok, oa, ob, oc, os⟩) true X (.returned (.tuple #[])) Y5) := by
    refine postW_yes ?_ (K0.trans (K4.trans kk))
    rw [HT.out]
    simp only [List.append_assoc] at W5
    exact W5
  clear hn hy c0 c1 c2 c3 c4 W5
  go_wp2
  go_end0
  exact HF.out

end Go.Proofs.YtcjpepdagnifiaaDoor

namespace Go.Proofs.YtcjpepdagnifiaaDoor
open Go.RowKit
set_option linter.unusedVariables false
set_option maxRecDepth 100000

theorem catch_pan (p : Addr) (ev : Value) (he : ∃ u pv, ev = .iface u pv) (w : World) (c : Value) (hc : w.cell? p = some c) (hz : w.frozen? p = false) :
    CallsD Tryd.prog 57 #[.pointer (some p)] (.panicking (pan ev)) w fun e u' w' =>
      e = .returned (.tuple #[]) ∧ u' = .panicking [{ v := ev, recovered := true }] ∧ w' = w.setCell p (.bool false) := by
  obtain ⟨u, pv, rfl⟩ := he
  refine callsD_of_wpS Tryd.func57 rfl fun c₀ cs hu => ?_
  apply wpS_region
  simp [wpOpsS, go_sem, recoverD, hu, Tryd.ntmps57, hc, hz, bodyPostS, results, Tryd.results57]

theorem catch_idle (p : Addr) (w : World) (c : Value) (hc : w.cell? p = some c) (hz : w.frozen? p = false) :
    CallsD Tryd.prog 57 #[.pointer (some p)] .returning w fun e u' w' => e = .returned (.tuple #[]) ∧ u' = .returning ∧ w' = w.setCell p (.bool true) := by
  refine callsD_of_wpS Tryd.func57 rfl fun c₀ cs hu => ?_
  apply wpS_region
  cases c₀
  simp_all [wpOpsS, go_sem, recoverD, Tryd.ntmps57, bodyPostS, results, Tryd.results57]

theorem done_calls (f : FuncId) (caps : Array Value) (w W : World) (hW : W = w.alloc (.cells #[.bool false] 4)) (ev : Value) (he : ∃ u pv, ev = .iface u pv) (R : Bool → World → Prop) (hcf : ∀ X : World, (callFunc f caps).run Tryd.prog X = .ok (.enter f caps) X)
    (hR : ∀ q X, R q X → (∃ c, X.cell? ⟨w.heap.size, 0, none⟩ = some c) ∧ X.frozen? ⟨w.heap.size, 0, none⟩ = false)
    (hc : Calls Tryd.prog f caps W (fun e X => (e = .returned (.tuple #[]) ∧ R true X) ∨ (e = .panicked (pan ev) ∧ R false X))) :
    Calls Tryd.prog 31 #[.func (.func f) #[] caps] w fun e w' => ∃ q X, R q X ∧ e = .returned (.bool q) ∧ (w' = X.setCell ⟨w.heap.size, 0, none⟩ (.bool q) ∨ w' = (X.setCell ⟨w.heap.size, 0, none⟩ (.bool true)).setCell ⟨w.heap.size, 0, none⟩ (.bool q)) := by
  have hmf : ∀ (fn : Fn) (first cap : Array Value) (w : World), (Instr.makeFunc fn first cap).run Tryd.prog w = .ok (.func fn first cap) w := fun _ _ _ _ => rfl
  have HC : Hid (Calls _ _ _ _ _) := hc
  have HR : Hid (∀ q X, R q X → _) := hR
  clear hc hR
  go_enter_defers Tryd.func31, Tryd.ntmps31
  have HW : Hid (w.alloc (.cells #[.bool false] 4) = W) := hW.symm
  clear hW
  have HE : Hid (∃ u pv, ev = .iface u pv) := he
  clear he
  go_wp2_with fail
  rw [HW.out]
  refine (Calls.mono HC.out ?_)
  rintro e X hx
  rcases hx with ⟨rfl, hr⟩ | ⟨rfl, hr⟩
  · obtain ⟨⟨c, hc⟩, hz⟩ := HR.out _ _ hr
    have HX : Hid (R true X) := hr
    clear hr
    go_wp2
    refine leaves_cons (f := 57) (args := #[.pointer (some ⟨w.heap.size, 0, none⟩)]) (by simp) (by simp [go_sem]) ?_
    refine (catch_idle ⟨w.heap.size, 0, none⟩ _ (.bool true) ?_ ?_).mono ?_
    · exact World.cell?_setCell_same X _ _ hc
    · rw [World.frozen?_setCell]; exact hz
    rintro e u' w'' ⟨rfl, rfl, rfl⟩
    have hcc : ((X.setCell ⟨w.heap.size, 0, none⟩ (.bool true)).setCell ⟨w.heap.size, 0, none⟩ (.bool true)).cell? ⟨w.heap.size, 0, none⟩ = some (.bool true) := World.cell?_setCell_same _ _ _ (World.cell?_setCell_same X _ _ hc)
    simp [Leaves, settle, results, Tryd.results31, go_sem, hcc]
    exact ⟨X, HX.out, .inr rfl⟩
  · obtain ⟨⟨c, hc⟩, hz⟩ := HR.out _ _ hr
    have HX : Hid (R false X) := hr
    clear hr
    go_wp2
    refine leaves_cons (f := 57) (args := #[.pointer (some ⟨w.heap.size, 0, none⟩)]) (by simp) (by simp [go_sem]) ?_
    refine (catch_pan ⟨w.heap.size, 0, none⟩ ev HE.out _ c hc hz).mono ?_
    rintro e u' w'' ⟨rfl, rfl, rfl⟩
    have hcc : (X.setCell ⟨w.heap.size, 0, none⟩ (.bool false)).cell? ⟨w.heap.size, 0, none⟩ = some (.bool false) := World.cell?_setCell_same X _ _ hc
    simp [Leaves, settle, results, Tryd.results31, go_sem, hcc]
    exact ⟨X, HX.out, .inl rfl⟩

end Go.Proofs.YtcjpepdagnifiaaDoor

namespace Go.Proofs.YtcjpepdagnifiaaDoor
open Go.RowKit
set_option linter.unusedVariables false
set_option maxRecDepth 100000

theorem l1In_is (n lo hi : Int) (w : World) : Calls Tryd.prog 74 #[.int .i64 n, .int .i64 lo, .int .i64 hi] w fun e w' => e = .returned (.bool (decide (lo ≤ n ∧ n ≤ hi))) ∧ w' = w := by
  by_cases h : lo ≤ n ∧ n ≤ hi
  · rw [decide_eq_true h]; exact l1In_yes n lo hi w h.1 h.2
  · rw [decide_eq_false h]; exact l1In_no n lo hi w (by omega)

theorem sSpeakable_calls (o : OpD) (w : World) (hs : o.site.length ≤ 9223372036854775807) (q : Bool) (hq : q = true ↔ SpeakO o) :
    Calls Tryd.prog 50 #[opV o] w fun e w' => e = .returned (.bool q) ∧ Below w.heap.size w w' := by
  obtain ⟨ok, oa, ob, oc, os⟩ := o
  have HQ : Hid (q = true ↔ SpeakO ⟨ok, oa, ob, oc, os⟩) := hq
  have hsz : (txt os).size = os.length := txt_size _
  obtain ⟨W, hW⟩ : ∃ W, W = w.alloc (.cells #[.int .i64 ok, .int .i64 oa, .int .i64 ob, .int .i64 oc, .string (txt os)] 27) := ⟨_, rfl⟩
  have BW : Below w.heap.size w W := by rw [hW]; exact (Below.refl _ _).alloc (Nat.le_refl _) _
  obtain ⟨c0, c1, c2, c3, c4⟩ := (show OpAt w.heap.size ⟨ok, oa, ob, oc, os⟩ W by rw [hW]; exact OpAt.new w _ _).cells
  simp only at c0 c1 c2 c3 c4 hs
  have C : Hid (∀ n : Int, _) := fun n => l1In_is n (-1000000000) 1000000000 W
  clear hq
  unfold opV
  simp only
  by_cases k1 : Hid (okZ ok)
  case neg =>
    have hq0 := q_no HQ.out (fun hh => k1 hh.1)
    subst hq0
    have C1 : Hid _ := C.out ok
    rw [decide_eq_false (p := okZ ok) k1] at C1
    go_enter Tryd.func50, Tryd.ntmps50
    go_wp2_with fail
    rw [← hW]
    clear hW
    refine (Calls.mono C1.out ?_)
    rintro e w1 ⟨rfl, hw⟩
    subst hw
    go_wp2
    go_ret
    exact ⟨rfl, BW⟩
  have C1 : Hid _ := C.out ok
  rw [decide_eq_true (p := okZ ok) k1] at C1
  by_cases k2 : Hid (okZ oa)
  case neg =>
    have hq0 := q_no HQ.out (fun hh => k2 hh.2.1)
    subst hq0
    have C2 : Hid _ := C.out oa
    rw [decide_eq_false (p := okZ oa) k2] at C2
    go_enter Tryd.func50, Tryd.ntmps50
    go_wp2_with fail
    rw [← hW]
    clear hW
    refine (Calls.mono C1.out ?_)
    rintro e w1 ⟨rfl, hw⟩
    subst hw
    go_wp2_with fail
    refine (Calls.mono C2.out ?_)
    rintro e w1 ⟨rfl, hw⟩
    subst hw
    go_wp2
    go_ret
    exact ⟨rfl, BW⟩
  have C2 : Hid _ := C.out oa
  rw [decide_eq_true (p := okZ oa) k2] at C2
  by_cases k3 : Hid (okZ ob)
  case neg =>
    have hq0 := q_no HQ.out (fun hh => k3 hh.2.2.1)
    subst hq0
    have C3 : Hid _ := C.out ob
    rw [decide_eq_false (p := okZ ob) k3] at C3
    go_enter Tryd.func50, Tryd.ntmps50
    go_wp2_with fail
    rw [← hW]
    clear hW
    refine (Calls.mono C1.out ?_)
    rintro e w1 ⟨rfl, hw⟩
    subst hw
    go_wp2_with fail
    refine (Calls.mono C2.out ?_)
    rintro e w1 ⟨rfl, hw⟩
    subst hw
    go_wp2_with fail
    refine (Calls.mono C3.out ?_)
    rintro e w1 ⟨rfl, hw⟩
    subst hw
    go_wp2
    go_ret
    exact ⟨rfl, BW⟩
  have C3 : Hid _ := C.out ob
  rw [decide_eq_true (p := okZ ob) k3] at C3
  have C4 : Hid _ := C.out oc
  have h8 : q = (decide (okZ oc) && decide ((os.length : Int) ≤ 8)) := by
    by_cases k4 : okZ oc
    · by_cases k5 : os.length ≤ 8
      · rw [decide_eq_true k4, decide_eq_true (by omega)]
        exact HQ.out.2 ⟨k1, k2, k3, k4, k5⟩
      · rw [decide_eq_false (p := (os.length : Int) ≤ 8) (by omega), Bool.and_false]
        exact q_no HQ.out (fun hh => k5 hh.2.2.2.2)
    · rw [decide_eq_false k4, Bool.false_and]
      exact q_no HQ.out (fun hh => k4 hh.2.2.2.1)
  have H8 : Hid _ := h8
  clear h8 HQ C
  by_cases k4 : Hid (okZ oc)
  case neg =>
    rw [decide_eq_false (p := okZ oc) k4] at C4 H8
    go_enter Tryd.func50, Tryd.ntmps50
    go_wp2_with fail
    rw [← hW]
    clear hW
    refine (Calls.mono C1.out ?_)
    rintro e w1 ⟨rfl, hw⟩
    subst hw
    go_wp2_with fail
    refine (Calls.mono C2.out ?_)
    rintro e w1 ⟨rfl, hw⟩
    subst hw
    go_wp2_with fail
    refine (Calls.mono C3.out ?_)
    rintro e w1 ⟨rfl, hw⟩
    subst hw
    go_wp2_with fail
    refine (Calls.mono C4.out ?_)
    rintro e w1 ⟨rfl, hw⟩
    subst hw
    go_wp2
    go_ret
    exact ⟨by rw [H8.out, Bool.false_and]; rfl, BW⟩
  rw [decide_eq_true (p := okZ oc) k4] at C4 H8
  go_enter Tryd.func50, Tryd.ntmps50
  go_wp2_with fail
  rw [← hW]
  clear hW
  refine (Calls.mono C1.out ?_)
  rintro e w1 ⟨rfl, hw⟩
  subst hw
  go_wp2_with fail
  refine (Calls.mono C2.out ?_)
  rintro e w1 ⟨rfl, hw⟩
  subst hw
  go_wp2_with fail
  refine (Calls.mono C3.out ?_)
  rintro e w1 ⟨rfl, hw⟩
  subst hw
  go_wp2_with fail
  refine (Calls.mono C4.out ?_)
  rintro e w1 ⟨rfl, hw⟩
  subst hw
  go_wp2
  go_ret
  exact ⟨by rw [H8.out, Bool.true_and]; rfl, BW⟩

theorem rdS_nil (X : World) (a : Option Addr) : RdS X a [] := fun j hj => by simp at hj

end Go.Proofs.YtcjpepdagnifiaaDoor

namespace Go.Proofs.YtcjpepdagnifiaaDoor
open Go.RowKit
set_option linter.unusedVariables false
set_option maxRecDepth 100000

set_option maxHeartbeats 2000000 in
theorem sAnsOk_calls (A : AnsD) (fa : Option Addr) (fc : Nat) (w : World) (hF : RdI w fa A.freed) (hn : A.freed.length ≤ 1048576) (q : Bool) (hq : q = true ↔ SpeakA A) :
    Calls Tryd.prog 51 #[.agg #[.int .i64 A.code, .int .i64 A.val, .slice fa A.freed.length fc]] w fun e w' => e = .returned (.bool q) ∧ Below w.heap.size w w' := by
  obtain ⟨ac, av, zs⟩ := A
  simp only at hF hn ⊢
  obtain ⟨W, hW⟩ : ∃ W, W = w.alloc (.cells #[.int .i64 ac, .int .i64 av, .slice fa zs.length fc] 30) := ⟨_, rfl⟩
  have BW : Below w.heap.size w W := by rw [hW]; exact (Below.refl _ _).alloc (Nat.le_refl _) _
  have c0 : W.cell? ⟨w.heap.size, 0, none⟩ = some (.int .i64 ac) := by rw [hW, World.cell?_alloc_mark]; rfl
  have c1 : W.cell? ⟨w.heap.size, 1, none⟩ = some (.int .i64 av) := by rw [hW, World.cell?_alloc_mark]; rfl
  have c2 : W.cell? ⟨w.heap.size, 2, none⟩ = some (.slice fa zs.length fc) := by rw [hW, World.cell?_alloc_mark]; rfl
  have HF : Hid (RdI W fa zs) := rdI_later hF BW
  have HQ : Hid (q = true ↔ SpeakA ⟨ac, av, zs⟩) := hq
  have C1 : Hid (∀ _ : Unit, _) := fun (_ : Unit) => l1In_is ac 0 6 W
  have C2 : Hid (∀ _ : Unit, _) := fun (_ : Unit) => l1In_is av (-1000000000) 1000000000 W
  clear hF hq
  by_cases k1 : Hid (0 ≤ ac ∧ ac ≤ 6)
  case neg =>
    have hq0 := q_no HQ.out (fun hh => k1 hh.1)
    subst hq0
    rw [decide_eq_false (p := 0 ≤ ac ∧ ac ≤ 6) k1] at C1
    go_enter Tryd.func51, Tryd.ntmps51
    go_wp2_with fail
    rw [← hW]
    clear hW
    refine (C1.out ()).mono ?_
    rintro e w1 ⟨rfl, hw⟩
    subst hw
    go_wp2
    go_ret
    exact ⟨rfl, BW⟩
  rw [decide_eq_true (p := 0 ≤ ac ∧ ac ≤ 6) k1] at C1
  by_cases k2 : Hid (okZ av)
  case neg =>
    have hq0 := q_no HQ.out (fun hh => k2 hh.2.1)
    subst hq0
    rw [decide_eq_false (p := okZ av) k2] at C2
    go_enter Tryd.func51, Tryd.ntmps51
    go_wp2_with fail
    rw [← hW]
    clear hW
    refine (C1.out ()).mono ?_
    rintro e w1 ⟨rfl, hw⟩
    subst hw
    go_wp2_with fail
    refine (C2.out ()).mono ?_
    rintro e w1 ⟨rfl, hw⟩
    subst hw
    go_wp2
    go_ret
    exact ⟨rfl, BW⟩
  rw [decide_eq_true (p := okZ av) k2] at C2
  obtain ⟨m, hm⟩ : ∃ m, zs.length = m := ⟨_, rfl⟩
  have Hm : Hid (zs.length = m) := hm
  rw [hm] at hn c2 hW ⊢
  clear hm
  by_cases k3 : m ≤ 8
  case neg =>
    have hq0 := q_no HQ.out (fun hh => k3 (by have := hh.2.2.1; have := Hm.out; simp only at *; omega))
    subst hq0
    have k3' : ¬ (m : Int) ≤ 8 := by omega
    go_enter Tryd.func51, Tryd.ntmps51
    go_wp2_with fail
    rw [← hW]
    clear hW
    refine (C1.out ()).mono ?_
    rintro e w1 ⟨rfl, hw⟩
    subst hw
    go_wp2_with fail
    refine (C2.out ()).mono ?_
    rintro e w1 ⟨rfl, hw⟩
    subst hw
    go_wp2
    go_ret
    exact ⟨rfl, BW⟩
  have CZ : Hid (∀ z : Int, _) := fun z => l1In_is z (-1000000000) 1000000000 W
  have HNX : Hid (∀ z ∈ zs, ¬ okZ z → q = false) := fun z hz hn => q_no HQ.out (fun hh => hn (hh.2.2.2 z hz))
  have HYS : Hid ((∀ z ∈ zs, okZ z) → q = true) := fun hh => HQ.out.2 ⟨k1, k2, by have := Hm.out; simp only; omega, hh⟩
  have k3' : (m : Int) ≤ 8 := by omega
  clear HQ k1 k2
  go_enter Tryd.func51, Tryd.ntmps51
  go_wp2_with fail
  rw [← hW]
  clear hW
  refine (C1.out ()).mono ?_
  rintro e w1 ⟨rfl, hw⟩
  subst hw
  go_wp2_with fail
  refine (C2.out ()).mono ?_
  rintro e w1 ⟨rfl, hw⟩
  subst hw
  clear C1 C2
  go_wp2
  go_loop [3] (fun i => ∃ j : Nat, j ≤ m ∧ i = .int .i64 (j : Int) ∧ Hid (∀ k (h : k < zs.length), k < j → okZ zs[k])) (fun i => m - (intOf i).toNat)
  case atStart => exact ⟨0, Nat.zero_le _, rfl, fun k _ hk => absurd hk (Nat.not_lt_zero _)⟩
  case round =>
    obtain ⟨j, hj, rfl, HJ⟩ := hrel
    by_cases hlt : j < m
    · have hj2 : j < zs.length := by have := Hm.out; omega
      obtain ⟨g, off, rfl, hg, hc⟩ := HF.out j hj2
      have HN1 : Hid (¬ okZ zs[j] → q = false) := HNX.out _ (List.getElem_mem hj2)
      have CJ : Hid _ := CZ.out zs[j]
      have HZJ : Hid (okZ zs[j] → ∀ k (h : k < zs.length), k < j + 1 → okZ zs[k]) := fun h k hk hk2 => by
        rcases Nat.lt_or_ge k j with h3 | h3
        · exact HJ.out k hk h3
        · obtain rfl : k = j := by omega
          exact h
      have i1 : (j : Int) < (m : Int) := by omega
      generalize zs[j] = z at *
      by_cases k4 : Hid (okZ z)
      case neg =>
        have hq0 := HN1.out k4
        subst hq0
        rw [decide_eq_false (p := okZ z) k4] at CJ
        go_wp2_with fail
        refine (Calls.mono CJ.out ?_)
        rintro e w2 ⟨rfl, hw⟩
        subst hw
        go_wp2
        go_ret
        exact ⟨rfl, BW⟩
      have HJ1 : Hid _ := HZJ.out k4
      rw [decide_eq_true (p := okZ z) k4] at CJ
      go_wp2_with fail
      refine (Calls.mono CJ.out ?_)
      rintro e w2 ⟨rfl, hw⟩
      subst hw
      go_wp2
      go_round
      case rel => exact ⟨j + 1, by omega, by go_num, HJ1⟩
      case measure => simp [intOf]; omega
    · have hq1 := HYS.out (fun z hz => by
        obtain ⟨k, hk, rfl⟩ := List.mem_iff_getElem.1 hz
        exact HJ.out k hk (by have := Hm.out; omega))
      subst hq1
      go_wp2
      go_ret
      exact ⟨rfl, BW⟩

set_option maxHeartbeats 2000000 in
theorem sPenOk_calls (v : Value) (P : PenD) (w : World) (h : RdP w v P) (hs : SmallP P) (q : Bool) (hq : q = true ↔ PenR P) :
    Calls Tryd.prog 52 #[v] w fun e w' => e = .returned (.bool q) ∧ Below w.heap.size w w' := by
  obtain ⟨sa, sc, rfl, rs⟩ := h
  obtain ⟨last, ss⟩ := P
  simp only at rs ⊢
  have hn0 : ss.length ≤ 1048576 := hs.sites
  have HNM : Hid (∀ z ∈ ss, z.length ≤ 1048576) := hs.names
  obtain ⟨W, hW⟩ : ∃ W, W = w.alloc (.cells #[.int .i64 last, .slice sa ss.length sc] 31) := ⟨_, rfl⟩
  have BW : Below w.heap.size w W := by rw [hW]; exact (Below.refl _ _).alloc (Nat.le_refl _) _
  have hsz : W.heap.size = w.heap.size + 1 := by rw [hW]; simp
  have HK : Hid (∀ X, Below W.heap.size W X → X.cell? ⟨w.heap.size, 0, none⟩ = some (.int .i64 last) ∧ X.cell? ⟨w.heap.size, 1, none⟩ = some (.slice sa ss.length sc)) := fun X hX => by
    have e : ∀ k, X.cell? ⟨w.heap.size, k, none⟩ = (#[.int .i64 last, .slice sa ss.length sc] : Array Value)[k]? := fun k => by
      rw [hX.cell (p := ⟨w.heap.size, k, none⟩) (by show w.heap.size < _; omega), hW, World.cell?_alloc_mark]
    exact ⟨e 0, e 1⟩
  have HRS : Hid (∀ X, Below W.heap.size W X → RdS X sa ss) := fun X hX => rdS_later (rdS_later rs BW) hX
  have HV0 : Hid (∀ X, Below W.heap.size W X → Below w.heap.size w X) := fun X hX => BW.trans (hX.mono BW.size)
  have HNX : Hid (∀ i (h : i < ss.length), ¬ (ss[i].length ≤ 8 ∧ ss[i] ∉ ss.take i) → q = false) := fun i hi hn => q_no hq (fun hh => hn ⟨(hh.2.2 i hi).1.2, (hh.2.2 i hi).2⟩)
  obtain ⟨m, hm⟩ : ∃ m, ss.length = m := ⟨_, rfl⟩
  have HQ : Hid ((∀ i (h : i < ss.length), ss[i].length ≤ 8 ∧ ss[i] ∉ ss.take i) → q = (decide (okZ last) && decide ((m : Int) ≤ 400))) := fun hh => by
    rw [← hm]
    by_cases h1 : okZ last
    · by_cases h2 : (ss.length : Int) ≤ 400
      · rw [decide_eq_true h1, decide_eq_true h2]
        exact hq.2 ⟨h1, by show ss.length ≤ 400; omega, fun i hi => ⟨⟨Nat.zero_le _, (hh i hi).1⟩, (hh i hi).2⟩⟩
      · rw [decide_eq_false h2, Bool.and_false]
        exact q_no hq (fun hp => h2 (by have h4 : ss.length ≤ 400 := hp.2.1; omega))
    · rw [decide_eq_false h1, Bool.false_and]
      exact q_no hq (fun hp => h1 hp.1)
  have CL : Hid (∀ X : World, _) := fun X => l1In_is last (-1000000000) 1000000000 X
  have Hm : Hid (ss.length = m) := hm
  rw [hm] at hn0 HK hW ⊢
  have B0 : Below W.heap.size W W := Below.refl _ _
  clear rs hs hq hm hsz
  go_enter Tryd.func52, Tryd.ntmps52
  go_wp2
  rw [← hW]
  clear hW BW
  go_loopw [3, 4] (fun i k X => ∃ j : Nat, j ≤ m ∧ i = .int .i64 (j : Int) ∧ Below W.heap.size W X ∧ Hid (∀ k (h : k < ss.length), k < j → ss[k].length ≤ 8 ∧ ss[k] ∉ ss.take k)) (fun i _ _ => m - (intOf i).toNat)
  case atStart => exact ⟨0, Nat.zero_le _, rfl, B0, fun k _ hk => absurd hk (Nat.not_lt_zero _)⟩
  case round =>
    clear B0
    obtain ⟨j, hj, rfl, hb, HJ⟩ := hrel
    obtain ⟨p0, p1⟩ := HK.out _ hb
    by_cases hlt : j < m
    · have hj2 : j < ss.length := by have := Hm.out; omega
      obtain ⟨g, off, rfl, hg, hc⟩ := HRS.out _ hb j hj2
      have hsl := HNM.out _ (List.getElem_mem hj2)
      have i1 : (j : Int) < (m : Int) := by omega
      have hts : (txt ss[j]).size = ss[j].length := txt_size _
      have HN1 : Hid (¬ (ss[j].length ≤ 8 ∧ ss[j] ∉ ss.take j) → q = false) := HNX.out j hj2
      by_cases k1 : ss[j].length ≤ 8
      case neg =>
        have hq0 := HN1.out (fun hh => k1 hh.1)
        subst hq0
        have k1' : ¬ ((ss[j].length : Nat) : Int) ≤ 8 := by omega
        generalize ss[j] = z at *
        go_wp2
        go_ret
        exact ⟨rfl, HV0.out _ hb⟩
      have k1' : ((ss[j].length : Nat) : Int) ≤ 8 := by omega
      have HZJ : Hid (ss[j] ∉ ss.take j → ∀ k (h : k < ss.length), k < j + 1 → ss[k].length ≤ 8 ∧ ss[k] ∉ ss.take k) := fun h k hk hk2 => by
        rcases Nat.lt_or_ge k j with h3 | h3
        · exact HJ.out k hk h3
        · obtain rfl : k = j := by omega
          exact ⟨k1, h⟩
      have HC : Hid (∀ X, Below W.heap.size W X → X.cell? ⟨g, off + j, none⟩ = some (.string (txt ss[j]))) := fun X hX => by
        obtain ⟨g2, off2, e, -, hc2⟩ := HRS.out _ hX j hj2
        simp only [Option.some.injEq, Addr.mk.injEq] at e
        obtain ⟨rfl, rfl, -⟩ := e
        exact hc2
      have HMT : Hid (∀ k, k < j → ∀ h : k < ss.length, ss[k] = ss[j] → ss[j] ∈ ss.take j) := fun k hk h e => (mem_take ss j ss[j]).2 ⟨k, h, hk, e⟩
      have HNT : Hid ((∀ k (h : k < ss.length), k < j → ss[k] ≠ ss[j]) → ss[j] ∉ ss.take j) := fun hh hm => by
        obtain ⟨k, h1, h2, h3⟩ := (mem_take ss j ss[j]).1 hm
        exact hh k h1 h2 h3
      clear HJ
      generalize ss[j] = z at *
      go_wp2
      clear p0 p1
      go_loopw [4] (fun i X => ∃ k : Nat, k ≤ j ∧ i = .int .i64 (k : Int) ∧ Below W.heap.size W X ∧ Hid (∀ l (h : l < ss.length), l < k → ss[l] ≠ z)) (fun i _ => j - (intOf i).toNat)
      case atStart => exact ⟨0, Nat.zero_le _, rfl, hb, fun k _ hk => absurd hk (Nat.not_lt_zero _)⟩
      case round =>
        clear hb hc
        obtain ⟨k, hk, rfl, hb, HJK⟩ := hrel
        obtain ⟨p0, p1⟩ := HK.out _ hb
        by_cases hlk : k < j
        · have hk2 : k < ss.length := by have := Hm.out; omega
          obtain ⟨g2, off2, e, hg2, hc2⟩ := HRS.out _ hb k hk2
          simp only [Option.some.injEq, Addr.mk.injEq] at e
          obtain ⟨rfl, rfl, -⟩ := e
          have hne := LaterW.some_ wr
          have z0 : ∀ X : LaterW wr, X.on.cell? ⟨g, off + k, none⟩ = some (.string (txt ss[k])) := fun X => (X.bel.cell (p := ⟨g, off + k, none⟩) hg2).trans hc2
          have y0 : ∀ X : LaterW wr, X.on.cell? ⟨g, off + j, none⟩ = some (.string (txt z)) := fun X => HC.out _ (hb.trans (X.bel.mono hb.size))
          have x1 : ∀ X : LaterW wr, X.on.cell? ⟨w.heap.size, 1, none⟩ = some (.slice (some ⟨g, off, none⟩) m sc) := fun X => (HK.out _ (hb.trans (X.bel.mono hb.size))).2
          have HM2 : Hid (ss[k] = z → z ∈ ss.take j) := HMT.out k hlk hk2
          have HJ2 : Hid (ss[k] ≠ z → ∀ l (h : l < ss.length), l < k + 1 → ss[l] ≠ z) := fun h l hl hl2 => by
            rcases Nat.lt_or_ge l k with h3 | h3
            · exact HJK.out l hl h3
            · obtain rfl : l = k := by omega
              exact h
          have i2 : (k : Int) < (m : Int) := by omega
          have i3 : (k : Int) < (j : Int) := by omega
          clear hc2 HJK
          generalize ss[k] = y at *
          by_cases he : y = z
          · have hq0 := HN1.out (fun hh => hh.2 (HM2.out he))
            subst hq0 he
            go_wp2
            refine wp_region_later wr (Below.refl _ _) (by kernel_rfl) (by kernel_rfl) ?_
            repeat (go_big_quiet_step (fail))
            refine wpQuiet_nil ?_
            rintro _ ⟨⟨X, hX⟩, rfl⟩
            go_wp2
            go_ret
            exact ⟨rfl, HV0.out _ (hb.trans (hX.mono hb.size))⟩
          · have HJ3 : Hid _ := HJ2.out he
            have hqs : ((txt y).toList == (txt z).toList) = false := txt_beq_ne' he
            go_wp2
            refine wp_region_later wr (Below.refl _ _) (by kernel_rfl) (by kernel_rfl) ?_
            repeat (go_big_quiet_step (fail))
            refine wpQuiet_nil ?_
            rintro _ ⟨⟨X, hX⟩, rfl⟩
            go_wp2
            go_roundw
            case rel => exact ⟨k + 1, by omega, by go_num, hb.trans (hX.mono hb.size), HJ3⟩
            case measure => simp [intOf]; omega
        · have HJ1 : Hid _ := HZJ.out (HNT.out (fun l hl hl2 => HJK.out l hl (by omega)))
          have i3 : ¬ (k : Int) < (j : Int) := by omega
          go_wp2
          go_roundw
          case rel => exact ⟨j + 1, by omega, by go_num, hb, HJ1⟩
          case measure => simp [intOf]; omega
    · have hq1 := HQ.out (fun k hk => by
        obtain ⟨h1, h2⟩ := HJ.out k hk (by have := Hm.out; omega)
        exact ⟨h1, h2⟩)
      have HQ1 : Hid _ := hq1
      have CLX : Hid _ := CL.out wr
      clear hq1 HJ
      by_cases k5 : Hid (okZ last)
      case neg =>
        rw [decide_eq_false (p := okZ last) k5] at CLX HQ1
        go_wp2_with fail
        refine (Calls.mono CLX.out ?_)
        rintro e w2 ⟨rfl, hw⟩
        subst hw
        go_wp2
        go_ret
        exact ⟨by rw [HQ1.out, Bool.false_and]; rfl, HV0.out _ hb⟩
      rw [decide_eq_true (p := okZ last) k5] at CLX HQ1
      go_wp2_with fail
      refine (Calls.mono CLX.out ?_)
      rintro e w2 ⟨rfl, hw⟩
      subst hw
      go_wp2
      go_ret
      exact ⟨by rw [HQ1.out, Bool.true_and]; rfl, HV0.out _ hb⟩

end Go.Proofs.YtcjpepdagnifiaaDoor
