/- The pen's methods, and what a writer puts behind its text. -/
import Derived.Test.YtebgngofnmcklaaDoorEvBase
import Derived.Test.YtebgngofnmcklaaDoorWire2Walks
import Derived.Test.YtebgngofnmcklaaDoorWire3Walks
namespace Go.Proofs.YtebgngofnmcklaaDoor
open Go.RowKit
set_option linter.unusedVariables false
set_option maxRecDepth 100000

/-- A pen in a box, as one who only reads has it. -/
def PenAt (b : Nat) (P : PenD) (sv : Value) (X : World) : Prop := ∃ sa sc, sv = .slice sa P.sites.length sc ∧ X.cell? ⟨b, 0, none⟩ = some (.int .i64 P.last) ∧ X.cell? ⟨b, 1, none⟩ = some sv ∧ RdS X sa P.sites ∧ P.sites.length ≤ sc

theorem placeOf_calls (b : Nat) (P : PenD) (sv : Value) (x : List UInt8) (X : World) (h : PenAt b P sv X) (hs : SmallP P) :
    Calls Tryd.prog 72 #[.pointer (some ⟨b, 0, none⟩), .string (txt x)] X fun e X' => e = .returned (.int .i64 (plZ x P.sites)) ∧ X' = X := by
  obtain ⟨sa, sc, rfl, c0, c1, hr, hc⟩ := h
  have C : Hid (∀ _ : Unit, _) := fun (_ : Unit) => idxStr_calls X sa sc P.sites x hr (by have := hs.sites; omega)
  have HP : Hid (idxL x P.sites 0 + 1 = plZ x P.sites) := rfl
  have hb := plZ_bd x P.sites
  have hl := hs.sites
  generalize plZ x P.sites = z at *
  have hz : idxL x P.sites 0 = z - 1 := by have := HP.out; omega
  rw [hz] at C
  clear hz hr hs HP
  have hw : wrap64 (z - 1 + 1) = z := by rw [wrap64_in (by omega) (by omega)]; omega
  generalize txt x = t at *
  go_enter Tryd.func72, Tryd.ntmps72
  go_wp2_with fail
  refine (C.out ()).mono ?_
  rintro e w1 ⟨rfl, hw1⟩
  subst hw1
  go_wp2
  go_ret
  exact ⟨rfl, rfl⟩

theorem right_calls (b : Nat) (P : PenD) (sv : Value) (X : World) (h : PenAt b P sv X) (hs : SmallP P) (q : Bool) (hq : q = true ↔ PenR P) :
    Calls Tryd.prog 61 #[.pointer (some ⟨b, 0, none⟩)] X fun e X' => e = .returned (.bool q) ∧ X' = X := by
  obtain ⟨sa, sc, rfl, c0, c1, hr, hc⟩ := h
  by_cases hl : okZ P.last
  · have hq2 : q = true ↔ NamesIn 400 0 P.sites := hq.trans ⟨fun h => h.2, fun h => ⟨hl, h⟩⟩
    have C : Hid (∀ _ : Unit, _) := fun (_ : Unit) => namesOk_calls 400 0 (by omega) (by omega) X sa sc P.sites hr hc hs.sites hs.names q hq2
    have CB : Hid (∀ _ : Unit, _) := fun (_ : Unit) => bounded_yes P.last X hl
    clear hq hq2 hr hs hl
    go_enter Tryd.func61, Tryd.ntmps61
    go_wp2_with fail
    refine (CB.out ()).mono ?_
    rintro e w1 ⟨rfl, hw1⟩
    subst hw1
    go_wp2_with fail
    refine (C.out ()).mono ?_
    rintro e w1 ⟨rfl, hw1⟩
    subst hw1
    go_wp2
    go_ret
    exact ⟨rfl, rfl⟩
  · have hq2 : q = false := by cases q with | false => rfl | true => exact absurd (hq.1 rfl).1 hl
    subst hq2
    have CB : Hid (∀ _ : Unit, _) := fun (_ : Unit) => bounded_no P.last X hl
    clear hq hr hs hl
    go_enter Tryd.func61, Tryd.ntmps61
    go_wp2_with fail
    refine (CB.out ()).mono ?_
    rintro e w1 ⟨rfl, hw1⟩
    subst hw1
    go_wp2
    go_ret
    exact ⟨rfl, rfl⟩

/-- A writer at work. -/
structure WS (n b : Nat) (P : PenD) (sv : Value) (ev : Value) (l : List UInt8) (X : World) : Prop where
  cx : Cx n b ev X
  wr : Wr n b P.last sv l X
  names : ∃ sa sc, sv = .slice sa P.sites.length sc ∧ RdS X sa P.sites ∧ P.sites.length ≤ sc ∧ Far n b X sa
theorem WS.pen {n b : Nat} {P : PenD} {sv ev : Value} {l : List UInt8} {X : World} (h : WS n b P sv ev l X) : PenAt b P sv X := by
  obtain ⟨sa, sc, h1, h2, h3, -⟩ := h.names
  exact ⟨sa, sc, h1, h.wr.pen.1, h.wr.pen.2.1, h2, h3⟩
theorem WS.later {n b : Nat} {P : PenD} {sv ev : Value} {l : List UInt8} {X Y : World} (h : WS n b P sv ev l X) (k : Below X.heap.size X Y) : WS n b P sv ev l Y := by
  obtain ⟨sa, sc, h1, h2, h3, h4⟩ := h.names
  have kk : Kb n b X Y := Kb.of k h.cx.2.2
  exact ⟨h.cx.kb kk, h.wr.later k, sa, sc, h1, rdS_later h2 k, h3, h4.kb kk⟩
theorem WS.put {n b : Nat} {P : PenD} {sv ev : Value} {l l' : List UInt8} {X Y : World} (h : WS n b P sv ev l X) (k : Kb n b X Y) (w : Wr n b P.last sv l' Y) : WS n b P sv ev l' Y := by
  obtain ⟨sa, sc, h1, h2, h3, h4⟩ := h.names
  exact ⟨h.cx.kb k, w, sa, sc, h1, rdS_kb h2 h4 k, h3, h4.kb k⟩
/-- What a step of a writer leaves: behind its text what the step puts there, where it may be written down; else it ends in the error. -/
def PostW (n b : Nat) (P : PenD) (sv ev : Value) (l' : List UInt8) (q : Bool) (X : World) (e : Ending) (X' : World) : Prop :=
  (q = true → e = .returned (.tuple #[]) ∧ WS n b P sv ev l' X') ∧ (q = false → e = .panicked (pan ev) ∧ ∃ l2, WS n b P sv ev l2 X') ∧ Kb n b X X'

theorem postW_no {n b : Nat} {P : PenD} {sv ev : Value} {l' l2 : List UInt8} {X X' : World} (h : WS n b P sv ev l2 X') (k : Kb n b X X') : PostW n b P sv ev l' false X (.panicked (pan ev)) X' :=
  ⟨fun h => (nomatch h), fun _ => ⟨rfl, _, h⟩, k⟩
theorem postW_yes {n b : Nat} {P : PenD} {sv ev : Value} {l' : List UInt8} {X X' : World} (h : WS n b P sv ev l' X') (k : Kb n b X X') : PostW n b P sv ev l' true X (.returned (.tuple #[])) X' :=
  ⟨fun _ => ⟨rfl, h⟩, fun h => (nomatch h), k⟩

theorem WS.write {n b : Nat} {P : PenD} {sv ev : Value} {l : List UInt8} {X : World} (h : WS n b P sv ev l X) (t : List UInt8) (hlen : l.length + t.length ≤ 1073741824) :
    Calls Tryd.prog 70 #[.pointer (some ⟨b, 2, none⟩), .string (txt t)] X fun e w' => e = .returned (.tuple #[.int .i64 t.length, .nilIface]) ∧ WS n b P sv ev (l ++ t) w' ∧ Kb n b X w' :=
  (wwrite_calls n b P.last sv l t X h.cx.2.2 h.wr hlen).mono (fun e w' ⟨h1, h2, h3⟩ => ⟨h1, h.put h3 h2, h3⟩)

set_option maxHeartbeats 1000000 in
theorem wNum_calls (n b : Nat) (P : PenD) (sv ev : Value) (l : List UInt8) (x a : Int) (X : World) (h : WS n b P sv ev l X) (hl : l.length ≤ 1000000) (ha : in64 a ∧ (okZ x → okZ a)) (q : Bool) (hq : q = true ↔ okZ x) :
    Calls Tryd.prog 54 #[.pointer (some ⟨b, 0, none⟩), .int .i64 x, .int .i64 a] X fun e X' => PostW n b P sv ev (l ++ showZ (x - a)) q X e X' := by
  have HS : Hid (WS n b P sv ev l X) := h
  cases q with
  | false =>
    have CB : Hid (∀ _ : Unit, _) := fun (_ : Unit) => bounded_no x X (fun hh => by have := hq.2 hh; cases this)
    have CM : Hid (∀ _ : Unit, _) := fun (_ : Unit) => must_no X ev h.cx.1
    clear h hq
    go_enter Tryd.func54, Tryd.ntmps54
    go_wp2_with fail
    refine (CB.out ()).mono ?_
    rintro e w1 ⟨rfl, hw1⟩
    subst hw1
    go_wp2_with fail
    refine (CM.out ()).mono ?_
    rintro e w1 ⟨rfl, hw1⟩
    subst hw1
    go_wp2
    exact ⟨rfl, postW_no HS.out (Kb.refl _ _ _)⟩
  | true =>
    have hx := hq.1 rfl
    have hab := ha.2 hx
    have CB : Hid (∀ _ : Unit, _) := fun (_ : Unit) => bounded_yes x X hx
    have CM : Hid (∀ _ : Unit, _) := fun (_ : Unit) => must_yes X
    have hw : wrap64 (x - a) = x - a := wrap64_in (by omega) (by omega)
    have hxa : IntKind.i64.wrap (x - a) = x - a := by rw [IntKind.wrap_i64]; unfold wrap64 at hw; exact hw
    have CI : Hid (∀ Y : World, Calls Tryd.prog 71 #[.int .i64 (IntKind.i64.wrap (x - a))] Y fun e w' => e = .returned (.string (txt (showZ (x - a)))) ∧ Below Y.heap.size Y w') := fun Y => by rw [hxa]; exact iShowInt_calls (x - a) Y
    have hsl := showZ_length (x - a)
    have CW : Hid (∀ Y : World, WS n b P sv ev l Y → _) := fun Y hY => hY.write (showZ (x - a)) (by omega)
    have H0 : WS n b P sv ev l X.drew := h.later (Below.refl _ _).drew
    have HK : Hid (∀ Y Z, Below X.drew.heap.size X.drew Y → Kb n b Y Z → Kb n b X Z) := fun Y Z h1 h2 => (Kb.of ((Below.refl _ _).drew.trans h1) h.cx.2.2).trans h2
    generalize showZ (x - a) = t at *
    clear h hq hx hab ha hw hxa
    go_enter Tryd.func54, Tryd.ntmps54
    go_wp2_with fail
    refine (CB.out ()).mono ?_
    rintro e w1 ⟨rfl, hw1⟩
    subst hw1
    go_wp2_with fail
    refine (CM.out ()).mono ?_
    rintro e w1 ⟨rfl, hw1⟩
    subst hw1
    go_wp2_with fail
    go_region_held (fun Y => ∃ l2, WS n b P sv ev l2 Y) (first | exact ⟨_, h2⟩ | exact ⟨_, H1⟩ | exact ⟨_, H0⟩)
      (first
        | (go_at_call 71; refine (CI.out _).mono ?_; rintro e w1 ⟨rfl, b1⟩; have H1 := H0.later b1)
        | (go_at_call 70; refine (CW.out _ H1).mono ?_; rintro e w2 ⟨rfl, h2, k2⟩))
    all_goals
      go_end0
      exact postW_yes h2 (HK.out _ _ b1 k2)

set_option maxHeartbeats 1000000 in
theorem wCnt_calls (n b : Nat) (P : PenD) (sv ev : Value) (l : List UInt8) (x m : Int) (X : World) (h : WS n b P sv ev l X) (hl : l.length ≤ 1000000) (q : Bool) (hq : q = true ↔ 0 ≤ x ∧ x ≤ m) :
    Calls Tryd.prog 73 #[.pointer (some ⟨b, 0, none⟩), .int .i64 x, .int .i64 m] X fun e X' => PostW n b P sv ev (l ++ varZ x) q X e X' := by
  have HS : Hid (WS n b P sv ev l X) := h
  cases q with
  | false =>
    have CB : Hid (∀ _ : Unit, _) := fun (_ : Unit) => within_no x 0 m X (by
      rcases Int.lt_or_le x 0 with h0 | h0
      · exact .inl h0
      · exact .inr (by
          rcases Int.lt_or_le m x with h1 | h1
          · exact h1
          · have := hq.2 ⟨h0, h1⟩; cases this))
    have CM : Hid (∀ _ : Unit, _) := fun (_ : Unit) => must_no X ev h.cx.1
    clear h hq
    go_enter Tryd.func73, Tryd.ntmps73
    go_wp2_with fail
    refine (CB.out ()).mono ?_
    rintro e w1 ⟨rfl, hw1⟩
    subst hw1
    go_wp2_with fail
    refine (CM.out ()).mono ?_
    rintro e w1 ⟨rfl, hw1⟩
    subst hw1
    go_wp2
    exact ⟨rfl, postW_no HS.out (Kb.refl _ _ _)⟩
  | true =>
    have hx := hq.1 rfl
    have CB : Hid (∀ _ : Unit, _) := fun (_ : Unit) => within_yes x 0 m X hx.1 hx.2
    have CM : Hid (∀ _ : Unit, _) := fun (_ : Unit) => must_yes X
    have CI : Hid (∀ Y : World, _) := fun Y => iVar_calls x Y
    have hsl := varZ_length x
    have CW : Hid (∀ Y : World, WS n b P sv ev l Y → _) := fun Y hY => hY.write (varZ x) (by omega)
    have H0 : WS n b P sv ev l X.drew := h.later (Below.refl _ _).drew
    have HK : Hid (∀ Y Z, Below X.drew.heap.size X.drew Y → Kb n b Y Z → Kb n b X Z) := fun Y Z h1 h2 => (Kb.of ((Below.refl _ _).drew.trans h1) h.cx.2.2).trans h2
    generalize varZ x = t at *
    clear h hq hx
    go_enter Tryd.func73, Tryd.ntmps73
    go_wp2_with fail
    refine (CB.out ()).mono ?_
    rintro e w1 ⟨rfl, hw1⟩
    subst hw1
    go_wp2_with fail
    refine (CM.out ()).mono ?_
    rintro e w1 ⟨rfl, hw1⟩
    subst hw1
    go_wp2_with fail
    go_region_held (fun Y => ∃ l2, WS n b P sv ev l2 Y) (first | exact ⟨_, h2⟩ | exact ⟨_, H1⟩ | exact ⟨_, H0⟩)
      (first
        | (go_at_call 83; refine (CI.out _).mono ?_; rintro e w1 ⟨rfl, b1⟩; have H1 := H0.later b1)
        | (go_at_call 70; refine (CW.out _ H1).mono ?_; rintro e w2 ⟨rfl, h2, k2⟩))
    all_goals
      go_end0
      exact postW_yes h2 (HK.out _ _ b1 k2)

set_option maxHeartbeats 2000000 in
theorem wName_calls (n b : Nat) (P : PenD) (sv ev : Value) (l x : List UInt8) (X : World) (h : WS n b P sv ev l X) (hl : l.length ≤ 900000) (hs : SmallP P) (hx0 : x.length ≤ 1048576) (q : Bool) (hq : q = true ↔ x.length ≤ 8) :
    Calls Tryd.prog 55 #[.pointer (some ⟨b, 0, none⟩), .string (txt x)] X fun e X' => PostW n b P sv ev (l ++ siteT P.sites x) q X e X' := by
  have HS : Hid (WS n b P sv ev l X) := h
  have hsz : (txt x).size = x.length := txt_size _
  cases q with
  | false =>
    have hx : ¬ x.length ≤ 8 := fun hh => by have := hq.2 hh; cases this
    have hx' : ¬ ((x.length : Nat) : Int) ≤ 8 := by omega
    have CM : Hid (∀ _ : Unit, _) := fun (_ : Unit) => must_no X ev h.cx.1
    clear h hq hs
    go_enter Tryd.func55, Tryd.ntmps55
    go_wp2_with fail
    refine (CM.out ()).mono ?_
    rintro e w1 ⟨rfl, hw1⟩
    subst hw1
    go_wp2
    exact ⟨rfl, postW_no HS.out (Kb.refl _ _ _)⟩
  | true =>
    have hx := hq.1 rfl
    have hx' : ((x.length : Nat) : Int) ≤ 8 := by omega
    have CM : Hid (∀ _ : Unit, _) := fun (_ : Unit) => must_yes X
    have CP : Hid (∀ _ : Unit, _) := fun (_ : Unit) => placeOf_calls b P sv x X h.pen hs
    have hpb := plZ_bd x P.sites
    have CC : Hid (∀ _ : Unit, _) := fun (_ : Unit) => wCnt_calls n b P sv ev l (plZ x P.sites) (P.sites.length : Int) X h (by omega) true ⟨fun _ => hpb, fun _ => rfl⟩
    have HST : Hid (siteT P.sites x = if plZ x P.sites = 0 then varZ 0 ++ showT x else varZ (plZ x P.sites)) := rfl
    obtain ⟨sa, sc, rfl, c0, c1, -⟩ := h.pen
    have CI : Hid (∀ Y : World, _) := fun Y => iShowText_calls x Y hx0
    have hsl := showT_length x
    have hvl := varZ_length 0
    have CW : Hid (∀ Y : World, WS n b P (.slice sa P.sites.length sc) ev (l ++ varZ 0) Y → _) := fun Y hY => hY.write (showT x) (by rw [List.length_append]; omega)
    clear h hq hs hx
    generalize plZ x P.sites = z at *
    by_cases hz : z = 0
    · subst hz
      have HT : Hid (siteT P.sites x = varZ 0 ++ showT x) := by have := HST.out; rw [if_pos rfl] at this; exact this
      clear HST
      generalize showT x = t at *
      generalize siteT P.sites x = u at *
      go_enter Tryd.func55, Tryd.ntmps55
      go_wp2_with fail
      refine (CM.out ()).mono ?_
      rintro e w1 ⟨rfl, hw1⟩
      subst hw1
      go_wp2_with fail
      refine (CP.out ()).mono ?_
      rintro e w1 ⟨rfl, hw1⟩
      subst hw1
      go_wp2_with fail
      refine (CC.out ()).mono ?_
      rintro e w1 ⟨hy, -, k1⟩
      obtain ⟨rfl, h1⟩ := hy rfl
      have H0 : WS n b P (.slice sa P.sites.length sc) ev (l ++ varZ 0) w1.drew := h1.later (Below.refl _ _).drew
      have HKn : Hid (n ≤ w1.heap.size) := h1.cx.2.2
      clear CC c0 c1 h1
      go_wp2_with fail
      go_region_held (fun Y => ∃ l2, WS n b P (.slice sa P.sites.length sc) ev l2 Y) (first | exact ⟨_, h2⟩ | exact ⟨_, H1⟩ | exact ⟨_, H0⟩)
        (first
          | (go_at_call 74; refine (CI.out _).mono ?_; rintro e w3 ⟨rfl, b1⟩; have H1 := H0.later b1)
          | (go_at_call 70; refine (CW.out _ H1).mono ?_; rintro e w2 ⟨rfl, h2, k2⟩))
      all_goals
        go_wp2
        go_end0
        refine postW_yes ?_ (k1.trans ((Kb.of ((Below.refl _ _).drew.trans b1) HKn.out).trans k2))
        rw [HT.out, ← List.append_assoc]
        exact h2
    · have HT : Hid (siteT P.sites x = varZ z) := by have := HST.out; rw [if_neg hz] at this; exact this
      clear HST CI CW
      generalize siteT P.sites x = u at *
      go_enter Tryd.func55, Tryd.ntmps55
      go_wp2_with fail
      refine (CM.out ()).mono ?_
      rintro e w1 ⟨rfl, hw1⟩
      subst hw1
      go_wp2_with fail
      refine (CP.out ()).mono ?_
      rintro e w1 ⟨rfl, hw1⟩
      subst hw1
      go_wp2_with fail
      refine (CC.out ()).mono ?_
      rintro e w1 ⟨hy, -, k1⟩
      obtain ⟨rfl, h1⟩ := hy rfl
      have HF : Hid (PostW _ _ _ _ _ _ _ _ _ _) := postW_yes h1 k1
      clear CC c0 c1 h1 k1
      go_wp2
      go_end0
      rw [HT.out]
      exact HF.out

end Go.Proofs.YtebgngofnmcklaaDoor
