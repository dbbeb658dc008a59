/- What Speakable answers, the specification's and the program's. -/
import Derived.Test.YtebgngofnmcklaaDoorEvDone
import Derived.Test.YtebgngofnmcklaaDoorFixWalks
namespace Go.Proofs.YtebgngofnmcklaaDoor
open Go.RowKit
set_option linter.unusedVariables false
set_option maxRecDepth 100000

theorem l1In_is (n lo hi : Int) (w : World) : Calls Tryd.prog 25 #[.int .i64 n, .int .i64 lo, .int .i64 hi] w fun e w' => e = .returned (.bool (decide (lo ≤ n ∧ n ≤ hi))) ∧ w' = w := by
  by_cases h : lo ≤ n ∧ n ≤ hi
  · rw [decide_eq_true h]; exact l1In_yes n lo hi w h.1 h.2
  · rw [decide_eq_false h]; exact l1In_no n lo hi w (by omega)

theorem sSpeakable_calls (o : OpD) (w : World) (hs : o.site.length ≤ 9223372036854775807) (q : Bool) (hq : q = true ↔ SpeakO o) :
    Calls Tryd.prog 7 #[opV o] w fun e w' => e = .returned (.bool q) ∧ Below w.heap.size w w' := by
  obtain ⟨ok, oa, ob, oc, os⟩ := o
  have HQ : Hid (q = true ↔ SpeakO ⟨ok, oa, ob, oc, os⟩) := hq
  have hsz : (txt os).size = os.length := txt_size _
  obtain ⟨W, hW⟩ : ∃ W, W = w.alloc (.cells #[.int .i64 ok, .int .i64 oa, .int .i64 ob, .int .i64 oc, .string (txt os)] 26) := ⟨_, rfl⟩
  have BW : Below w.heap.size w W := by rw [hW]; exact (Below.refl _ _).alloc (Nat.le_refl _) _
  obtain ⟨c0, c1, c2, c3, c4⟩ := (show OpAt w.heap.size ⟨ok, oa, ob, oc, os⟩ W by rw [hW]; exact OpAt.new w _ _).cells
  simp only at c0 c1 c2 c3 c4 hs
  have C : Hid (∀ n : Int, _) := fun n => l1In_is n (-1000000000) 1000000000 W
  clear hq
  unfold opV
  simp only
  by_cases k1 : Hid (okZ ok)
  case neg =>
    have hq0 := q_no HQ.out (fun hh => k1 hh.1)
    subst hq0
    have C1 : Hid _ := C.out ok
    rw [decide_eq_false (p := okZ ok) k1] at C1
    go_enter Tryd.func7, Tryd.ntmps7
    go_wp2_with fail
    rw [← hW]
    clear hW
    refine (Calls.mono C1.out ?_)
    rintro e w1 ⟨rfl, hw⟩
    subst hw
    go_wp2
    go_ret
    exact ⟨rfl, BW⟩
  have C1 : Hid _ := C.out ok
  rw [decide_eq_true (p := okZ ok) k1] at C1
  by_cases k2 : Hid (okZ oa)
  case neg =>
    have hq0 := q_no HQ.out (fun hh => k2 hh.2.1)
    subst hq0
    have C2 : Hid _ := C.out oa
    rw [decide_eq_false (p := okZ oa) k2] at C2
    go_enter Tryd.func7, Tryd.ntmps7
    go_wp2_with fail
    rw [← hW]
    clear hW
    refine (Calls.mono C1.out ?_)
    rintro e w1 ⟨rfl, hw⟩
    subst hw
    go_wp2_with fail
    refine (Calls.mono C2.out ?_)
    rintro e w1 ⟨rfl, hw⟩
    subst hw
    go_wp2
    go_ret
    exact ⟨rfl, BW⟩
  have C2 : Hid _ := C.out oa
  rw [decide_eq_true (p := okZ oa) k2] at C2
  by_cases k3 : Hid (okZ ob)
  case neg =>
    have hq0 := q_no HQ.out (fun hh => k3 hh.2.2.1)
    subst hq0
    have C3 : Hid _ := C.out ob
    rw [decide_eq_false (p := okZ ob) k3] at C3
    go_enter Tryd.func7, Tryd.ntmps7
    go_wp2_with fail
    rw [← hW]
    clear hW
    refine (Calls.mono C1.out ?_)
    rintro e w1 ⟨rfl, hw⟩
    subst hw
    go_wp2_with fail
    refine (Calls.mono C2.out ?_)
    rintro e w1 ⟨rfl, hw⟩
    subst hw
    go_wp2_with fail
    refine (Calls.mono C3.out ?_)
    rintro e w1 ⟨rfl, hw⟩
    subst hw
    go_wp2
    go_ret
    exact ⟨rfl, BW⟩
  have C3 : Hid _ := C.out ob
  rw [decide_eq_true (p := okZ ob) k3] at C3
  have C4 : Hid _ := C.out oc
  have h8 : q = (decide (okZ oc) && decide ((os.length : Int) ≤ 8)) := by
    by_cases k4 : okZ oc
    · by_cases k5 : os.length ≤ 8
      · rw [decide_eq_true k4, decide_eq_true (by omega)]
        exact HQ.out.2 ⟨k1, k2, k3, k4, k5⟩
      · rw [decide_eq_false (p := (os.length : Int) ≤ 8) (by omega), Bool.and_false]
        exact q_no HQ.out (fun hh => k5 hh.2.2.2.2)
    · rw [decide_eq_false k4, Bool.false_and]
      exact q_no HQ.out (fun hh => k4 hh.2.2.2.1)
  have H8 : Hid _ := h8
  clear h8 HQ C
  by_cases k4 : Hid (okZ oc)
  case neg =>
    rw [decide_eq_false (p := okZ oc) k4] at C4 H8
    go_enter Tryd.func7, Tryd.ntmps7
    go_wp2_with fail
    rw [← hW]
    clear hW
    refine (Calls.mono C1.out ?_)
    rintro e w1 ⟨rfl, hw⟩
    subst hw
    go_wp2_with fail
    refine (Calls.mono C2.out ?_)
    rintro e w1 ⟨rfl, hw⟩
    subst hw
    go_wp2_with fail
    refine (Calls.mono C3.out ?_)
    rintro e w1 ⟨rfl, hw⟩
    subst hw
    go_wp2_with fail
    refine (Calls.mono C4.out ?_)
    rintro e w1 ⟨rfl, hw⟩
    subst hw
    go_wp2
    go_ret
    exact ⟨by rw [H8.out, Bool.false_and]; rfl, BW⟩
  rw [decide_eq_true (p := okZ oc) k4] at C4 H8
  go_enter Tryd.func7, Tryd.ntmps7
  go_wp2_with fail
  rw [← hW]
  clear hW
  refine (Calls.mono C1.out ?_)
  rintro e w1 ⟨rfl, hw⟩
  subst hw
  go_wp2_with fail
  refine (Calls.mono C2.out ?_)
  rintro e w1 ⟨rfl, hw⟩
  subst hw
  go_wp2_with fail
  refine (Calls.mono C3.out ?_)
  rintro e w1 ⟨rfl, hw⟩
  subst hw
  go_wp2_with fail
  refine (Calls.mono C4.out ?_)
  rintro e w1 ⟨rfl, hw⟩
  subst hw
  go_wp2
  go_ret
  exact ⟨by rw [H8.out, Bool.true_and]; rfl, BW⟩

/-- The closure of Speakable: the operation's steps. -/
theorem spk1_calls (n b g : Nat) (P : PenD) (sv ev : Value) (o : OpD) (X : World) (h : WS n b P sv ev [] X) (hO : OpAt g o X) (hs : SmallP P) (hpl : okZ P.last) (hx0 : o.site.length ≤ 1048576) (hso : SaneOp o) (q : Bool) (hq : q = true ↔ SpeakO o) :
    Calls Tryd.prog 27 #[.pointer (some ⟨b, 0, none⟩), .pointer (some ⟨g, 0, none⟩)] X fun e X' => PostW n b P sv ev (opT P.last P.sites o) q X e X' := by
  have C : Hid (∀ _ : Unit, _) := fun (_ : Unit) => wOp_calls n b P sv ev [] o X h (by simp) hs hpl hx0 hso q hq
  obtain ⟨c0, c1, c2, c3, c4⟩ := hO.cells
  rw [List.nil_append] at C
  clear h hO hso hq
  unfold opV at C
  generalize opT P.last P.sites o = l at *
  go_enter Tryd.func27, Tryd.ntmps27
  go_wp2_with fail
  refine (C.out ()).mono ?_
  rintro e Y hp
  cases q with
  | true =>
    obtain ⟨rfl, h2⟩ := hp.1 rfl
    have HF : Hid (PostW n b P sv ev l true X _ Y) := hp
    clear hp h2
    go_wp2
    go_end0
    exact HF.out
  | false =>
    obtain ⟨rfl, h2⟩ := hp.2.1 rfl
    have HF : Hid (PostW n b P sv ev l false X _ Y) := hp
    clear hp h2
    go_wp2
    exact ⟨rfl, HF.out⟩

theorem rdS_nil (X : World) (a : Option Addr) : RdS X a [] := fun j hj => by simp at hj

theorem iSpeakable_calls (o : OpD) (w : World) (hx0 : o.site.length ≤ 1048576) (hso : SaneOp o) (ev : Value) (E : EvE w ev) (q : Bool) (hq : q = true ↔ SpeakO o) :
    Calls Tryd.prog 9 #[opV o] w fun e w' => e = .returned (.bool q) ∧ Below w.heap.size w w' := by
  obtain ⟨X1, hX1⟩ : ∃ X1, X1 = w.alloc (.cells #[.int .i64 o.kind, .int .i64 o.a, .int .i64 o.b, .int .i64 o.c, .string (txt o.site)] 26) := ⟨_, rfl⟩
  obtain ⟨X2, hX2⟩ : ∃ X2, X2 = X1.alloc (.cells #[.int .i64 0, .slice none 0 0, .pointer none, .slice none 0 0] 58) := ⟨_, rfl⟩
  obtain ⟨X3, hX3⟩ : ∃ X3, X3 = X2.alloc (.cells #[.bool false] 4) := ⟨_, rfl⟩
  have B1 : Below w.heap.size w X1 := by rw [hX1]; exact (Below.refl _ _).alloc (Nat.le_refl _) _
  have B2 : Below X1.heap.size X1 X2 := by rw [hX2]; exact (Below.refl _ _).alloc (Nat.le_refl _) _
  have B3 : Below X2.heap.size X2 X3 := by rw [hX3]; exact (Below.refl _ _).alloc (Nat.le_refl _) _
  have s1 : X1.heap.size = w.heap.size + 1 := by rw [hX1]; simp
  have s2 : X2.heap.size = w.heap.size + 1 + 1 := by rw [hX2]; simp [s1]
  have s3 : X3.heap.size = w.heap.size + 1 + 1 + 1 := by rw [hX3]; simp [s2]
  have BX : Below w.heap.size w X3 := B1.trans ((B2.trans (B3.mono (by omega))).mono (by omega))
  have hg := evE_lt E
  have E3 : EvE X3 ev := evE_later E BX
  have hO : OpAt w.heap.size o X3 := by
    intro k
    rw [(B2.trans (B3.mono (by omega))).cell (p := ⟨w.heap.size, k, none⟩) (by show w.heap.size < _; omega), hX1, World.cell?_alloc_mark]
  have hWr : Wr w.heap.size (w.heap.size + 1) 0 (.slice none 0 0) [] X3 := by
    refine ⟨_, .slice none 0 0, ?_, .inl rfl, ⟨rfl, .inl ⟨rfl, rfl⟩⟩⟩
    rw [B3.block (w.heap.size + 1) (by omega), ← s1, hX2]
    exact heap_alloc_new X1 _
  have hcx : Cx w.heap.size (w.heap.size + 1) ev X3 := ⟨E3, ⟨by omega, .inl hg⟩, by omega⟩
  have hWS : WS w.heap.size (w.heap.size + 1) ⟨0, []⟩ (.slice none 0 0) ev [] X3 := ⟨hcx, hWr, none, 0, rfl, rdS_nil _ _, Nat.le_refl _, fun x hx => by cases hx⟩
  have hSafe : Safe w.heap.size (w.heap.size + 1) X3 (w.heap.size + 1 + 1) := by
    have h := Safe.new (n := w.heap.size) (b := w.heap.size + 1) X2 #[.bool false] 4 (by decide) (by omega)
    rw [← hX3, s2] at h
    exact h
  have c3 : X3.cell? ⟨w.heap.size + 1 + 1, 0, none⟩ = some (.bool false) := by rw [hX3, ← s2, World.cell?_alloc_mark]; rfl
  have f3 : X3.frozen? ⟨w.heap.size + 1 + 1, 0, none⟩ = false := by rw [hX3, ← s2, World.frozen?_alloc_mark]; simp
  have C1 := spk1_calls w.heap.size (w.heap.size + 1) w.heap.size ⟨0, []⟩ _ ev o X3 hWS hO ⟨by simp, fun z hz => by simp at hz⟩ ⟨by simp only; omega, by simp only; omega⟩ hx0 hso q hq
  have hcf : ∀ X : World, (callFunc 27 #[.pointer (some ⟨w.heap.size + 1, 0, none⟩), .pointer (some ⟨w.heap.size, 0, none⟩)]).run Tryd.prog X = .ok (.enter 27 #[.pointer (some ⟨w.heap.size + 1, 0, none⟩), .pointer (some ⟨w.heap.size, 0, none⟩)]) X := fun X => by simp [go_sem]
  have CD := done_calls 27 #[.pointer (some ⟨w.heap.size + 1, 0, none⟩), .pointer (some ⟨w.heap.size, 0, none⟩)] X2 X3 hX3 ev E.2 (fun q2 X => q2 = q ∧ Kb w.heap.size (w.heap.size + 1) X3 X) hcf (by
      rintro q2 X ⟨-, hk⟩
      rw [s2]
      exact ⟨⟨_, (Safe.cell (p := ⟨w.heap.size + 1 + 1, 0, none⟩) hSafe hk).trans c3⟩, (Safe.frozen (p := ⟨w.heap.size + 1 + 1, 0, none⟩) hSafe hk).trans f3⟩)
    (C1.mono (fun e X hp => by
      cases q with
      | true => exact .inl ⟨(hp.1 rfl).1, rfl, hp.2.2⟩
      | false => exact .inr ⟨(hp.2.1 rfl).1, rfl, hp.2.2⟩))
  have HCD : Hid _ := CD
  have HBX : Hid (Below w.heap.size w X3) := BX
  have HS2 : Hid (X2.heap.size = w.heap.size + 1 + 1) := s2
  have hmf : ∀ (fn : Fn) (first cap : Array Value) (w : World), (Instr.makeFunc fn first cap).run Tryd.prog w = .ok (.func fn first cap) w := fun _ _ _ _ => rfl
  clear CD C1 hWS hcx hWr hO hSafe c3 f3 E3 B1 B2 B3 BX s1 s2 s3 E hg hX3 hq hso hcf
  unfold opV
  go_enter Tryd.func9, Tryd.ntmps9
  go_wp2_with fail
  rw [← hX1, ← hX2]
  clear hX1 hX2
  refine (Calls.mono HCD.out ?_)
  rintro e Y ⟨q2, X, ⟨rfl, hk⟩, rfl, hY⟩
  have HB : Hid (Below w.heap.size w Y) := by
    have hb := HBX.out.trans (hk.below (Nat.le_refl _) (by omega))
    rw [HS2.out] at hY
    rcases hY with rfl | rfl
    · exact hb.setCell (by simp only; omega) _
    · exact (hb.setCell (by simp only; omega) _).setCell (by simp only; omega) _
  clear hY hk
  go_wp2
  go_ret
  exact ⟨rfl, HB.out⟩

end Go.Proofs.YtebgngofnmcklaaDoor
