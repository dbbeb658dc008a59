/- What a writer puts behind its text for an operation. -/
import Derived.Test.YtebgngofnmcklaaDoorEvPen
import Derived.Test.YtebgngofnmcklaaDoorRpOps
namespace Go.Proofs.YtebgngofnmcklaaDoor
open Go.RowKit
set_option linter.unusedVariables false
set_option maxRecDepth 100000

/-- An operation in a box of its own. -/
def OpAt (g : Nat) (o : OpD) (Y : World) : Prop := ∀ k, Y.cell? ⟨g, k, none⟩ = (#[.int .i64 o.kind, .int .i64 o.a, .int .i64 o.b, .int .i64 o.c, .string (txt o.site)] : Array Value)[k]?
theorem OpAt.cells {g : Nat} {o : OpD} {Y : World} (h : OpAt g o Y) : Y.cell? ⟨g, 0, none⟩ = some (.int .i64 o.kind) ∧ Y.cell? ⟨g, 1, none⟩ = some (.int .i64 o.a) ∧ Y.cell? ⟨g, 2, none⟩ = some (.int .i64 o.b) ∧ Y.cell? ⟨g, 3, none⟩ = some (.int .i64 o.c) ∧ Y.cell? ⟨g, 4, none⟩ = some (.string (txt o.site)) :=
  ⟨h 0, h 1, h 2, h 3, h 4⟩
theorem OpAt.kb {n b g : Nat} {o : OpD} {X Y : World} (h : OpAt g o X) (hs : Safe n b X g) (k : Kb n b X Y) : OpAt g o Y := fun i => (Safe.cell (p := ⟨g, i, none⟩) hs k).trans (h i)
theorem OpAt.new (X : World) (o : OpD) (t : TypeId) : OpAt X.heap.size o (X.alloc (.cells #[.int .i64 o.kind, .int .i64 o.a, .int .i64 o.b, .int .i64 o.c, .string (txt o.site)] t)) := fun k => by rw [World.cell?_alloc_mark]

theorem q_no {q : Bool} {p : Prop} (h : q = true ↔ p) (hn : ¬ p) : q = false := by cases q with | false => rfl | true => exact absurd (h.1 rfl) hn

theorem opFieldWr0 {t i : Tmp} {ty : TypeId} {pos : String} {af : Array Edge} {a : Act} {X : World} {K : Act → World → Prop} {Q : Exit → Act → World → Prop} {g : Nat} (h1 : a.eval (.tmp i) = .pointer (some ⟨g, 0, none⟩)) (hK : K (a.put (some t) (.pointer (some ⟨g, 0, none⟩))) X) :
    Oper.wp Tryd.prog ⟨some t, .fieldAddr 58 (.tmp i) 0, ty, pos, af, none⟩ a X K Q := by
  have h := ev_tmp h1
  go_simp; exact hK
theorem opFieldPen0 {t i : Tmp} {ty : TypeId} {pos : String} {af : Array Edge} {a : Act} {X : World} {K : Act → World → Prop} {Q : Exit → Act → World → Prop} {g : Nat} (h1 : a.eval (.tmp i) = .pointer (some ⟨g, 0, none⟩)) (hK : K (a.put (some t) (.pointer (some ⟨g, 0, none⟩))) X) :
    Oper.wp Tryd.prog ⟨some t, .fieldAddr 37 (.tmp i) 0, ty, pos, af, none⟩ a X K Q := by
  have h := ev_tmp h1
  go_simp; exact hK
theorem opFieldOp1 {t i : Tmp} {ty : TypeId} {pos : String} {af : Array Edge} {a : Act} {X : World} {K : Act → World → Prop} {Q : Exit → Act → World → Prop} {g : Nat} (h1 : a.eval (.tmp i) = .pointer (some ⟨g, 0, none⟩)) (hK : K (a.put (some t) (.pointer (some ⟨g, 1, none⟩))) X) :
    Oper.wp Tryd.prog ⟨some t, .fieldAddr 26 (.tmp i) 1, ty, pos, af, none⟩ a X K Q := by
  have h := ev_tmp h1
  go_simp; exact hK
theorem opCallNum {t i j k : Tmp} {ty : TypeId} {pos : String} {af : Array Edge} {ats : Array TypeId} {a : Act} {X : World} {K : Act → World → Prop} {Q : Exit → Act → World → Prop} {u v x : Value} {post : Ending → World → Prop} (h1 : a.eval (.tmp i) = u) (h2 : a.eval (.tmp j) = v) (h3 : a.eval (.tmp k) = x) (hC : Calls Tryd.prog 54 #[u, v, x] X post) (hK : ∀ e w', post e w' → ∃ ch, e = .panicked ch ∧ Q (.panic ch) a w') :
    Oper.wp Tryd.prog ⟨some t, .call { callee := .value (.func 54), args := #[.tmp i, .tmp j, .tmp k], argTypes := ats }, ty, pos, af, none⟩ a X K Q := by
  have e1 := ev_tmp h1
  have e2 := ev_tmp h2
  have e3 := ev_tmp h3
  go_simp
  refine hC.mono (fun e w' hp => ?_)
  obtain ⟨ch, rfl, hx⟩ := hK e w' hp
  exact hx

set_option maxHeartbeats 4000000 in
theorem wOp_calls (n b : Nat) (P : PenD) (sv ev : Value) (l : List UInt8) (o : OpD) (X : World) (h : WS n b P sv ev l X) (hl : l.length ≤ 800000) (hs : SmallP P) (hpl : okZ P.last) (hx0 : o.site.length ≤ 1048576) (hso : SaneOp o) (q : Bool) (hq : q = true ↔ SpeakO o) :
    Calls Tryd.prog 28 #[.pointer (some ⟨b, 0, none⟩), opV o] X fun e X' => PostW n b P sv ev (l ++ opT P.last P.sites o) q X e X' := by
  have hbX := h.wr.pen.2.2
  obtain ⟨X1, hX1⟩ : ∃ X1, X1 = X.alloc (.cells #[.int .i64 o.kind, .int .i64 o.a, .int .i64 o.b, .int .i64 o.c, .string (txt o.site)] 26) := ⟨_, rfl⟩
  have B1 : Below X.heap.size X X1 := by rw [hX1]; exact (Below.refl _ _).alloc (Nat.le_refl _) _
  have W0 : WS n b P sv ev l X1 := h.later B1
  have K0 : Kb n b X X1 := Kb.of B1 h.cx.2.2
  have HO : Hid (∀ Y, Kb n b X1 Y → OpAt X.heap.size o Y) := fun Y hY => (show OpAt X.heap.size o X1 by rw [hX1]; exact OpAt.new X o _).kb (by rw [hX1]; exact Safe.new X _ _ (by decide) hbX) hY
  have HPC : Hid (∀ l2 Y, WS n b P sv ev l2 Y → Y.cell? ⟨b, 0, none⟩ = some (.int .i64 P.last)) := fun l2 Y hY => hY.wr.pen.1
  have CN : Hid (∀ (x a : Int) (l2 : List UInt8) (Y : World) (q2 : Bool), WS n b P sv ev l2 Y → l2.length ≤ 1000000 → (in64 a ∧ (okZ x → okZ a)) → (q2 = true ↔ okZ x) → _) := fun x a l2 Y q2 h1 h2 h3 h4 => wNum_calls n b P sv ev l2 x a Y h1 h2 h3 q2 h4
  have CS : Hid (∀ (l2 : List UInt8) (Y : World) (q2 : Bool), WS n b P sv ev l2 Y → l2.length ≤ 900000 → (q2 = true ↔ o.site.length ≤ 8) → _) := fun l2 Y q2 h1 h2 h4 => wName_calls n b P sv ev l2 o.site Y h1 h2 hs hx0 q2 h4
  have HSP : Hid (q = true ↔ SpeakO o) := hq
  have HT : Hid (opT P.last P.sites o = showZ o.kind ++ (showZ (o.a - P.last) ++ (showZ o.b ++ (showZ (o.c - o.a) ++ siteT P.sites o.site)))) := rfl
  have z1 := showZ_length o.kind
  have z2 := showZ_length (o.a - P.last)
  have z3 := showZ_length o.b
  have z4 := showZ_length (o.c - o.a)
  have iA := hso.a
  have i0 : in64 0 := ⟨by omega, by omega⟩
  have iP : in64 P.last := ⟨by omega, by omega⟩
  obtain ⟨ok, oa, ob, oc, os⟩ := o
  simp only at *
  obtain ⟨c0, c1, c2, c3, c4⟩ := (HO.out _ (Kb.refl _ _ _)).cells
  simp only at c0 c1 c2 c3 c4
  have HSS : Hid (∀ l2 Y, WS n b P sv ev l2 Y → Kb n b X1 Y → ((∃ l2, WS n b P sv ev l2 Y) ∧ Y.cell? ⟨b, 0, none⟩ = some (.int .i64 P.last) ∧ Y.cell? ⟨X.heap.size, 1, none⟩ = some (.int .i64 oa))) := fun l2 Y h1 h2 => ⟨⟨l2, h1⟩, HPC.out _ _ h1, (HO.out _ h2).cells.2.1⟩
  clear h hq hs hso B1
  unfold opV
  simp only
  have C1 := CN.out ok 0 l X1 (decide (okZ ok)) W0 (by omega) ⟨i0, fun _ => ⟨by omega, by omega⟩⟩ decide_eq_true_iff
  rw [Int.sub_zero] at C1
  have HC1 : Hid _ := C1
  clear C1
  go_enter Tryd.func28, Tryd.ntmps28
  go_wp2_with fail
  rw [← hX1]
  clear hX1
  refine (Calls.mono HC1.out ?_)
  rintro e Y1 ⟨hy, hn, kk⟩
  by_cases k1 : Hid (okZ ok)
  case neg =>
    obtain ⟨rfl, l2, H2⟩ := hn (decide_eq_false (p := okZ ok) k1)
    have hq0 := q_no HSP.out (fun hh => k1 hh.1)
    subst hq0
    have HF : Hid (PostW n b P sv ev (l ++ opT P.last P.sites ⟨ok, oa, ob, oc, os⟩) false X _ Y1) := postW_no H2 (K0.trans kk)
    clear hn hy H2 c0 c1 c2 c3 c4 HC1 k1 HO HPC CN CS HSP HT
    go_wp2
    exact ⟨rfl, HF.out⟩
  obtain ⟨rfl, W1⟩ := hy (decide_eq_true (p := okZ ok) k1)
  have K1 := kk
  clear hy hn HC1 c0 c1 c2 c3 c4 W0 kk
  obtain ⟨c0, c1, c2, c3, c4⟩ := (HO.out _ K1).cells
  simp only at c0 c1 c2 c3 c4
  have p0 := HPC.out _ _ W1
  have D1 : WS n b P sv ev (l ++ showZ ok) Y1.drew := W1.later (Below.refl _ _).drew
  have KD : Kb n b X1 Y1.drew := K1.trans (Kb.of (Below.refl _ _).drew W1.cx.2.2)
  have C2 := CN.out oa P.last _ _ (decide (okZ oa)) D1 (by rw [List.length_append]; omega) ⟨iP, fun _ => hpl⟩ decide_eq_true_iff
  have HC2 : Hid _ := C2
  clear C2
  by_cases k2 : Hid (okZ oa)
  case neg =>
    have hq0 := q_no HSP.out (fun hh => k2 hh.2.1)
    subst hq0
    have HY : Hid (∀ Y, Below Y1.heap.size Y1 Y → WS n b P sv ev (l ++ showZ ok) Y ∧ Kb n b X Y ∧ Y.cell? ⟨b, 0, none⟩ = some (.int .i64 P.last) ∧ Y.cell? ⟨X.heap.size, 1, none⟩ = some (.int .i64 oa)) := fun Y hY => by
      have hw := W1.later hY
      have hk := K1.trans (Kb.of hY W1.cx.2.2)
      exact ⟨hw, K0.trans hk, HPC.out _ _ hw, (HO.out _ hk).cells.2.1⟩
    have CN2 : Hid (∀ (Y : World), WS n b P sv ev (l ++ showZ ok) Y → _) := fun Y hY => CN.out oa P.last _ Y (decide (okZ oa)) hY (by rw [List.length_append]; omega) ⟨iP, fun _ => hpl⟩ decide_eq_true_iff
    clear HC2 D1 KD c0 c1 c2 c3 c4 p0 K1 W1
    go_wp2_with fail
    refine wp_region_last 8 (by kernel_rfl) (by kernel_rfl) (RP 1000 noP [.pointer (some ⟨b, 0, none⟩), .pointer (some ⟨X.heap.size, 1, none⟩), .int .i64 oa, .pointer (some ⟨b, 0, none⟩), .pointer (some ⟨b, 0, none⟩), .pointer (some ⟨b, 0, none⟩), .pointer (some ⟨b, 0, none⟩), .int .i64 P.last]) (rp_mono noP_mono) ?_ ?_
    · intro i o hi ho a Y hY hA hdep
      match i, hi, ho with
      | 0, _, ho =>
        obtain rfl := Option.some.inj ho
        exact opMove (alike_at hA (t := 0) (by kernel_rfl)) ⟨_, rfl, Below.refl _ _, rp_put (by decide) rfl⟩
      | 1, _, ho =>
        obtain rfl := Option.some.inj ho
        exact opFieldOp1 (alike_at hA (t := 3) (by kernel_rfl)) ⟨_, rfl, Below.refl _ _, rp_put (by decide) rfl⟩
      | 2, _, ho =>
        obtain rfl := Option.some.inj ho
        have g0_ : a.eval (.tmp 9) = .pointer (some ⟨X.heap.size, 1, none⟩) := rp_at (hdep ⟨1, .data⟩ (by simp) rfl 9 rfl) (by decide) rfl
        exact opLoadInt g0_ (HY.out Y hY).2.2.2 ⟨_, rfl, Below.refl _ _, rp_put (by decide) rfl⟩
      | 3, _, ho =>
        obtain rfl := Option.some.inj ho
        exact opMove (alike_at hA (t := 0) (by kernel_rfl)) ⟨_, rfl, Below.refl _ _, rp_put (by decide) rfl⟩
      | 4, _, ho =>
        obtain rfl := Option.some.inj ho
        have g0_ : a.eval (.tmp 11) = .pointer (some ⟨b, 0, none⟩) := rp_at (hdep ⟨3, .data⟩ (by simp) rfl 11 rfl) (by decide) rfl
        exact opNil g0_ ⟨_, rfl, Below.refl _ _, rp_put (by decide) rfl⟩
      | 5, _, ho =>
        obtain rfl := Option.some.inj ho
        have g0_ : a.eval (.tmp 12) = .pointer (some ⟨b, 0, none⟩) := rp_at (hdep ⟨4, .data⟩ (by simp) rfl 12 rfl) (by decide) rfl
        exact opFieldWr0 g0_ ⟨_, rfl, Below.refl _ _, rp_put (by decide) rfl⟩
      | 6, _, ho =>
        obtain rfl := Option.some.inj ho
        have g0_ : a.eval (.tmp 13) = .pointer (some ⟨b, 0, none⟩) := rp_at (hdep ⟨5, .data⟩ (by simp) rfl 13 rfl) (by decide) rfl
        exact opFieldPen0 g0_ ⟨_, rfl, Below.refl _ _, rp_put (by decide) rfl⟩
      | 7, _, ho =>
        obtain rfl := Option.some.inj ho
        have g0_ : a.eval (.tmp 14) = .pointer (some ⟨b, 0, none⟩) := rp_at (hdep ⟨6, .data⟩ (by simp) rfl 14 rfl) (by decide) rfl
        exact opLoadInt g0_ (HY.out Y hY).2.2.1 ⟨_, rfl, Below.refl _ _, rp_put (by decide) rfl⟩
    · intro o ho a Y hY hA hdep
      obtain rfl := Option.some.inj ho
      have g0_ : a.eval (.tmp 8) = .pointer (some ⟨b, 0, none⟩) := rp_at (hdep ⟨0, .data⟩ (by simp) rfl 8 rfl) (by decide) rfl
      have g1_ : a.eval (.tmp 10) = .int .i64 oa := rp_at (hdep ⟨2, .data⟩ (by simp) rfl 10 rfl) (by decide) rfl
      have g2_ : a.eval (.tmp 15) = .int .i64 P.last := rp_at (hdep ⟨7, .data⟩ (by simp) rfl 15 rfl) (by decide) rfl
      obtain ⟨y1, y2, -, -⟩ := HY.out Y hY
      refine opCallNum g0_ g1_ g2_ (CN2.out Y y1) ?_
      rintro e Y2 ⟨-, hn, kk2⟩
      obtain ⟨rfl, l2, H2⟩ := hn (decide_eq_false (p := okZ oa) k2)
      refine ⟨_, rfl, ?_⟩
      obtain ⟨us, hus, rfl⟩ := alike_tmps hA [8, 9, 10, 11, 12, 13, 14, 15, 16] (by kernel_rfl)
      exact ⟨rfl, postW_no H2 (y2.trans kk2)⟩
  go_wp2_with fail
  go_region_held (fun Y => (∃ l2, WS n b P sv ev l2 Y) ∧ Y.cell? ⟨b, 0, none⟩ = some (.int .i64 P.last) ∧ Y.cell? ⟨X.heap.size, 1, none⟩ = some (.int .i64 oa)) (first | exact HSS.out _ _ W2 (KD.trans kk2) | exact HSS.out _ _ D1 KD)
    ((go_at_call 54; refine (Calls.mono HC2.out ?_); rintro e Y2 ⟨hy, -, kk2⟩; (obtain ⟨rfl, W2⟩ := hy (decide_eq_true (p := okZ oa) k2))))
  have K2 := KD.trans kk2
  clear hy K1 KD kk2 D1 HC2 W1 c0 c1 c2 c3 c4 p0
  obtain ⟨c0, c1, c2, c3, c4⟩ := (HO.out _ K2).cells
  simp only at c0 c1 c2 c3 c4
  have C3 := CN.out ob 0 _ _ (decide (okZ ob)) W2 (by simp only [List.length_append]; omega) ⟨i0, fun _ => ⟨by omega, by omega⟩⟩ decide_eq_true_iff
  rw [Int.sub_zero] at C3
  have HC3 : Hid _ := C3
  clear C3
  go_wp2_with fail
  refine (Calls.mono HC3.out ?_)
  rintro e Y3 ⟨hy, hn, kk⟩
  by_cases k3 : Hid (okZ ob)
  case neg =>
    obtain ⟨rfl, l2, H2⟩ := hn (decide_eq_false (p := okZ ob) k3)
    have hq0 := q_no HSP.out (fun hh => k3 hh.2.2.1)
    subst hq0
    have HF : Hid (PostW n b P sv ev (l ++ opT P.last P.sites ⟨ok, oa, ob, oc, os⟩) false X _ Y3) := postW_no H2 (K0.trans (K2.trans kk))
    clear hn hy H2 c0 c1 c2 c3 c4
    go_wp2
    exact ⟨rfl, HF.out⟩
  obtain ⟨rfl, W3⟩ := hy (decide_eq_true (p := okZ ob) k3)
  have K3 := K2.trans kk
  clear hy hn HC3 c0 c1 c2 c3 c4 W2 kk K2
  obtain ⟨c0, c1, c2, c3, c4⟩ := (HO.out _ K3).cells
  simp only at c0 c1 c2 c3 c4
  have C4 := CN.out oc oa _ _ (decide (okZ oc)) W3 (by simp only [List.length_append]; omega) ⟨iA, fun _ => k2⟩ decide_eq_true_iff
  have HC4 : Hid _ := C4
  clear C4
  go_wp2_with fail
  refine (Calls.mono HC4.out ?_)
  rintro e Y4 ⟨hy, hn, kk⟩
  by_cases k4 : Hid (okZ oc)
  case neg =>
    obtain ⟨rfl, l2, H2⟩ := hn (decide_eq_false (p := okZ oc) k4)
    have hq0 := q_no HSP.out (fun hh => k4 hh.2.2.2.1)
    subst hq0
    have HF : Hid (PostW n b P sv ev (l ++ opT P.last P.sites ⟨ok, oa, ob, oc, os⟩) false X _ Y4) := postW_no H2 (K0.trans (K3.trans kk))
    clear hn hy H2 c0 c1 c2 c3 c4
    go_wp2
    exact ⟨rfl, HF.out⟩
  obtain ⟨rfl, W4⟩ := hy (decide_eq_true (p := okZ oc) k4)
  have K4 := K3.trans kk
  clear hy hn HC4 c0 c1 c2 c3 c4 W3 kk K3
  obtain ⟨c0, c1, c2, c3, c4⟩ := (HO.out _ K4).cells
  simp only at c0 c1 c2 c3 c4
  have C5 := CS.out _ _ (decide (os.length ≤ 8)) W4 (by simp only [List.length_append]; omega) decide_eq_true_iff
  have HC5 : Hid _ := C5
  clear C5
  go_wp2_with fail
  refine (Calls.mono HC5.out ?_)
  rintro e Y5 ⟨hy, hn, kk⟩
  by_cases k5 : Hid (os.length ≤ 8)
  case neg =>
    obtain ⟨rfl, l2, H2⟩ := hn (decide_eq_false (p := os.length ≤ 8) k5)
    have hq0 := q_no HSP.out (fun hh => k5 hh.2.2.2.2)
    subst hq0
    have HF : Hid (PostW n b P sv ev (l ++ opT P.last P.sites ⟨ok, oa, ob, oc, os⟩) false X _ Y5) := postW_no H2 (K0.trans (K4.trans kk))
    clear hn hy H2 c0 c1 c2 c3 c4
    go_wp2
    exact ⟨rfl, HF.out⟩
  obtain ⟨rfl, W5⟩ := hy (decide_eq_true (p := os.length ≤ 8) k5)
  have hq1 : q = true := HSP.out.2 ⟨k1, k2, k3, k4, k5⟩
  subst hq1
  have HF : Hid (PostW n b P sv ev (l ++ opT P.last P.sites ⟨ok, oa, ob, oc, os⟩) true X (.returned (.tuple #[])) Y5) := by
    refine postW_yes ?_ (K0.trans (K4.trans kk))
    rw [HT.out]
    simp only [List.append_assoc] at W5
    exact W5
  clear hn hy c0 c1 c2 c3 c4 W5
  go_wp2
  go_end0
  exact HF.out

end Go.Proofs.YtebgngofnmcklaaDoor
