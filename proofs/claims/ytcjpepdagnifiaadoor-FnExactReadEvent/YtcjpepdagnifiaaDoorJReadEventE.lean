/- What Speakable answers, the specification's and the program's. -/
import Derived.Test.YtcjpepdagnifiaaDoorJReadEventD
import Derived.Test.YtcjpepdagnifiaaDoorFixWalks
import Derived.Test.YtcjpepdagnifiaaDoorWire2Walks
namespace Go.Proofs.YtcjpepdagnifiaaDoor
open Go.RowKit
set_option linter.unusedVariables false
set_option maxRecDepth 100000

theorem l1In_is (n lo hi : Int) (w : World) : Calls Tryd.prog 74 #[.int .i64 n, .int .i64 lo, .int .i64 hi] w fun e w' => e = .returned (.bool (decide (lo ≤ n ∧ n ≤ hi))) ∧ w' = w := by
  by_cases h : lo ≤ n ∧ n ≤ hi
  · rw [decide_eq_true h]; exact l1In_yes n lo hi w h.1 h.2
  · rw [decide_eq_false h]; exact l1In_no n lo hi w (by omega)

theorem sSpeakable_calls (o : OpD) (w : World) (hs : o.site.length ≤ 9223372036854775807) (q : Bool) (hq : q = true ↔ SpeakO o) :
    Calls Tryd.prog 50 #[opV o] w fun e w' => e = .returned (.bool q) ∧ Below w.heap.size w w' := by
  obtain ⟨ok, oa, ob, oc, os⟩ := o
  have HQ : Hid (q = true ↔ SpeakO ⟨ok, oa, ob, oc, os⟩) := hq
  have hsz : (txt os).size = os.length := txt_size _
  obtain ⟨W, hW⟩ : ∃ W, W = w.alloc (.cells #[.int .i64 ok, .int .i64 oa, .int .i64 ob, .int .i64 oc, .string (txt os)] 27) := ⟨_, rfl⟩
  have BW : Below w.heap.size w W := by rw [hW]; exact (Below.refl _ _).alloc (Nat.le_refl _) _
  obtain ⟨c0, c1, c2, c3, c4⟩ := (show OpAt w.heap.size ⟨ok, oa, ob, oc, os⟩ W by rw [hW]; exact OpAt.new w _ _).cells
  simp only at c0 c1 c2 c3 c4 hs
  have C : Hid (∀ n : Int, _) := fun n => l1In_is n (-1000000000) 1000000000 W
  clear hq
  unfold opV
  simp only
  by_cases k1 : Hid (okZ ok)
  case neg =>
    have hq0 := q_no HQ.out (fun hh => k1 hh.1)
    subst hq0
    have C1 : Hid _ := C.out ok
    rw [decide_eq_false (p := okZ ok) k1] at C1
    go_enter Tryd.func50, Tryd.ntmps50
    go_wp2_with fail
    rw [← hW]
    clear hW
    refine (Calls.mono C1.out ?_)
    rintro e w1 ⟨rfl, hw⟩
    subst hw
    go_wp2
    go_ret
    exact ⟨rfl, BW⟩
  have C1 : Hid _ := C.out ok
  rw [decide_eq_true (p := okZ ok) k1] at C1
  by_cases k2 : Hid (okZ oa)
  case neg =>
    have hq0 := q_no HQ.out (fun hh => k2 hh.2.1)
    subst hq0
    have C2 : Hid _ := C.out oa
    rw [decide_eq_false (p := okZ oa) k2] at C2
    go_enter Tryd.func50, Tryd.ntmps50
    go_wp2_with fail
    rw [← hW]
    clear hW
    refine (Calls.mono C1.out ?_)
    rintro e w1 ⟨rfl, hw⟩
    subst hw
    go_wp2_with fail
    refine (Calls.mono C2.out ?_)
    rintro e w1 ⟨rfl, hw⟩
    subst hw
    go_wp2
    go_ret
    exact ⟨rfl, BW⟩
  have C2 : Hid _ := C.out oa
  rw [decide_eq_true (p := okZ oa) k2] at C2
  by_cases k3 : Hid (okZ ob)
  case neg =>
    have hq0 := q_no HQ.out (fun hh => k3 hh.2.2.1)
    subst hq0
    have C3 : Hid _ := C.out ob
    rw [decide_eq_false (p := okZ ob) k3] at C3
    go_enter Tryd.func50, Tryd.ntmps50
    go_wp2_with fail
    rw [← hW]
    clear hW
    refine (Calls.mono C1.out ?_)
    rintro e w1 ⟨rfl, hw⟩
    subst hw
    go_wp2_with fail
    refine (Calls.mono C2.out ?_)
    rintro e w1 ⟨rfl, hw⟩
    subst hw
    go_wp2_with fail
    refine (Calls.mono C3.out ?_)
    rintro e w1 ⟨rfl, hw⟩
    subst hw
    go_wp2
    go_ret
    exact ⟨rfl, BW⟩
  have C3 : Hid _ := C.out ob
  rw [decide_eq_true (p := okZ ob) k3] at C3
  have C4 : Hid _ := C.out oc
  have h8 : q = (decide (okZ oc) && decide ((os.length : Int) ≤ 8)) := by
    by_cases k4 : okZ oc
    · by_cases k5 : os.length ≤ 8
      · rw [decide_eq_true k4, decide_eq_true (by omega)]
        exact HQ.out.2 ⟨k1, k2, k3, k4, k5⟩
      · rw [decide_eq_false (p := (os.length : Int) ≤ 8) (by omega), Bool.and_false]
        exact q_no HQ.out (fun hh => k5 hh.2.2.2.2)
    · rw [decide_eq_false k4, Bool.false_and]
      exact q_no HQ.out (fun hh => k4 hh.2.2.2.1)
  have H8 : Hid _ := h8
  clear h8 HQ C
  by_cases k4 : Hid (okZ oc)
  case neg =>
    rw [decide_eq_false (p := okZ oc) k4] at C4 H8
    go_enter Tryd.func50, Tryd.ntmps50
    go_wp2_with fail
    rw [← hW]
    clear hW
    refine (Calls.mono C1.out ?_)
    rintro e w1 ⟨rfl, hw⟩
    subst hw
    go_wp2_with fail
    refine (Calls.mono C2.out ?_)
    rintro e w1 ⟨rfl, hw⟩
    subst hw
    go_wp2_with fail
    refine (Calls.mono C3.out ?_)
    rintro e w1 ⟨rfl, hw⟩
    subst hw
    go_wp2_with fail
    refine (Calls.mono C4.out ?_)
    rintro e w1 ⟨rfl, hw⟩
    subst hw
    go_wp2
    go_ret
    exact ⟨by rw [H8.out, Bool.false_and]; rfl, BW⟩
  rw [decide_eq_true (p := okZ oc) k4] at C4 H8
  go_enter Tryd.func50, Tryd.ntmps50
  go_wp2_with fail
  rw [← hW]
  clear hW
  refine (Calls.mono C1.out ?_)
  rintro e w1 ⟨rfl, hw⟩
  subst hw
  go_wp2_with fail
  refine (Calls.mono C2.out ?_)
  rintro e w1 ⟨rfl, hw⟩
  subst hw
  go_wp2_with fail
  refine (Calls.mono C3.out ?_)
  rintro e w1 ⟨rfl, hw⟩
  subst hw
  go_wp2_with fail
  refine (Calls.mono C4.out ?_)
  rintro e w1 ⟨rfl, hw⟩
  subst hw
  go_wp2
  go_ret
  exact ⟨by rw [H8.out, Bool.true_and]; rfl, BW⟩

theorem rdS_nil (X : World) (a : Option Addr) : RdS X a [] := fun j hj => by simp at hj

end Go.Proofs.YtcjpepdagnifiaaDoor

namespace Go.Proofs.YtcjpepdagnifiaaDoor
open Go.RowKit
set_option linter.unusedVariables false
set_option maxRecDepth 100000

set_option maxHeartbeats 2000000 in
theorem sAnsOk_calls (A : AnsD) (fa : Option Addr) (fc : Nat) (w : World) (hF : RdI w fa A.freed) (hn : A.freed.length ≤ 1048576) (q : Bool) (hq : q = true ↔ SpeakA A) :
    Calls Tryd.prog 51 #[.agg #[.int .i64 A.code, .int .i64 A.val, .slice fa A.freed.length fc]] w fun e w' => e = .returned (.bool q) ∧ Below w.heap.size w w' := by
  obtain ⟨ac, av, zs⟩ := A
  simp only at hF hn ⊢
  obtain ⟨W, hW⟩ : ∃ W, W = w.alloc (.cells #[.int .i64 ac, .int .i64 av, .slice fa zs.length fc] 30) := ⟨_, rfl⟩
  have BW : Below w.heap.size w W := by rw [hW]; exact (Below.refl _ _).alloc (Nat.le_refl _) _
  have c0 : W.cell? ⟨w.heap.size, 0, none⟩ = some (.int .i64 ac) := by rw [hW, World.cell?_alloc_mark]; rfl
  have c1 : W.cell? ⟨w.heap.size, 1, none⟩ = some (.int .i64 av) := by rw [hW, World.cell?_alloc_mark]; rfl
  have c2 : W.cell? ⟨w.heap.size, 2, none⟩ = some (.slice fa zs.length fc) := by rw [hW, World.cell?_alloc_mark]; rfl
  have HF : Hid (RdI W fa zs) := rdI_later hF BW
  have HQ : Hid (q = true ↔ SpeakA ⟨ac, av, zs⟩) := hq
  have C1 : Hid (∀ _ : Unit, _) := fun (_ : Unit) => l1In_is ac 0 6 W
  have C2 : Hid (∀ _ : Unit, _) := fun (_ : Unit) => l1In_is av (-1000000000) 1000000000 W
  clear hF hq
  by_cases k1 : Hid (0 ≤ ac ∧ ac ≤ 6)
  case neg =>
    have hq0 := q_no HQ.out (fun hh => k1 hh.1)
    subst hq0
    rw [decide_eq_false (p := 0 ≤ ac ∧ ac ≤ 6) k1] at C1
    go_enter Tryd.func51, Tryd.ntmps51
    go_wp2_with fail
    rw [← hW]
    clear hW
    refine (C1.out ()).mono ?_
    rintro e w1 ⟨rfl, hw⟩
    subst hw
    go_wp2
    go_ret
    exact ⟨rfl, BW⟩
  rw [decide_eq_true (p := 0 ≤ ac ∧ ac ≤ 6) k1] at C1
  by_cases k2 : Hid (okZ av)
  case neg =>
    have hq0 := q_no HQ.out (fun hh => k2 hh.2.1)
    subst hq0
    rw [decide_eq_false (p := okZ av) k2] at C2
    go_enter Tryd.func51, Tryd.ntmps51
    go_wp2_with fail
    rw [← hW]
    clear hW
    refine (C1.out ()).mono ?_
    rintro e w1 ⟨rfl, hw⟩
    subst hw
    go_wp2_with fail
    refine (C2.out ()).mono ?_
    rintro e w1 ⟨rfl, hw⟩
    subst hw
    go_wp2
    go_ret
    exact ⟨rfl, BW⟩
  rw [decide_eq_true (p := okZ av) k2] at C2
  obtain ⟨m, hm⟩ : ∃ m, zs.length = m := ⟨_, rfl⟩
  have Hm : Hid (zs.length = m) := hm
  rw [hm] at hn c2 hW ⊢
  clear hm
  by_cases k3 : m ≤ 8
  case neg =>
    have hq0 := q_no HQ.out (fun hh => k3 (by have := hh.2.2.1; have := Hm.out; simp only at *; omega))
    subst hq0
    have k3' : ¬ (m : Int) ≤ 8 := by omega
    go_enter Tryd.func51, Tryd.ntmps51
    go_wp2_with fail
    rw [← hW]
    clear hW
    refine (C1.out ()).mono ?_
    rintro e w1 ⟨rfl, hw⟩
    subst hw
    go_wp2_with fail
    refine (C2.out ()).mono ?_
    rintro e w1 ⟨rfl, hw⟩
    subst hw
    go_wp2
    go_ret
    exact ⟨rfl, BW⟩
  have CZ : Hid (∀ z : Int, _) := fun z => l1In_is z (-1000000000) 1000000000 W
  have HNX : Hid (∀ z ∈ zs, ¬ okZ z → q = false) := fun z hz hn => q_no HQ.out (fun hh => hn (hh.2.2.2 z hz))
  have HYS : Hid ((∀ z ∈ zs, okZ z) → q = true) := fun hh => HQ.out.2 ⟨k1, k2, by have := Hm.out; simp only; omega, hh⟩
  have k3' : (m : Int) ≤ 8 := by omega
  clear HQ k1 k2
  go_enter Tryd.func51, Tryd.ntmps51
  go_wp2_with fail
  rw [← hW]
  clear hW
  refine (C1.out ()).mono ?_
  rintro e w1 ⟨rfl, hw⟩
  subst hw
  go_wp2_with fail
  refine (C2.out ()).mono ?_
  rintro e w1 ⟨rfl, hw⟩
  subst hw
  clear C1 C2
  go_wp2
  go_loop [3] (fun i => ∃ j : Nat, j ≤ m ∧ i = .int .i64 (j : Int) ∧ Hid (∀ k (h : k < zs.length), k < j → okZ zs[k])) (fun i => m - (intOf i).toNat)
  case atStart => exact ⟨0, Nat.zero_le _, rfl, fun k _ hk => absurd hk (Nat.not_lt_zero _)⟩
  case round =>
    obtain ⟨j, hj, rfl, HJ⟩ := hrel
    by_cases hlt : j < m
    · have hj2 : j < zs.length := by have := Hm.out; omega
      obtain ⟨g, off, rfl, hg, hc⟩ := HF.out j hj2
      have HN1 : Hid (¬ okZ zs[j] → q = false) := HNX.out _ (List.getElem_mem hj2)
      have CJ : Hid _ := CZ.out zs[j]
      have HZJ : Hid (okZ zs[j] → ∀ k (h : k < zs.length), k < j + 1 → okZ zs[k]) := fun h k hk hk2 => by
        rcases Nat.lt_or_ge k j with h3 | h3
        · exact HJ.out k hk h3
        · obtain rfl : k = j := by omega
          exact h
      have i1 : (j : Int) < (m : Int) := by omega
      generalize zs[j] = z at *
      by_cases k4 : Hid (okZ z)
      case neg =>
        have hq0 := HN1.out k4
        subst hq0
        rw [decide_eq_false (p := okZ z) k4] at CJ
        go_wp2_with fail
        refine (Calls.mono CJ.out ?_)
        rintro e w2 ⟨rfl, hw⟩
        subst hw
        go_wp2
        go_ret
        exact ⟨rfl, BW⟩
      have HJ1 : Hid _ := HZJ.out k4
      rw [decide_eq_true (p := okZ z) k4] at CJ
      go_wp2_with fail
      refine (Calls.mono CJ.out ?_)
      rintro e w2 ⟨rfl, hw⟩
      subst hw
      go_wp2
      go_round
      case rel => exact ⟨j + 1, by omega, by go_num, HJ1⟩
      case measure => simp [intOf]; omega
    · have hq1 := HYS.out (fun z hz => by
        obtain ⟨k, hk, rfl⟩ := List.mem_iff_getElem.1 hz
        exact HJ.out k hk (by have := Hm.out; omega))
      subst hq1
      go_wp2
      go_ret
      exact ⟨rfl, BW⟩

set_option maxHeartbeats 2000000 in
theorem sPenOk_calls (v : Value) (P : PenD) (w : World) (h : RdP w v P) (hs : SmallP P) (q : Bool) (hq : q = true ↔ PenR P) :
    Calls Tryd.prog 52 #[v] w fun e w' => e = .returned (.bool q) ∧ Below w.heap.size w w' := by
  obtain ⟨sa, sc, rfl, rs⟩ := h
  obtain ⟨last, ss⟩ := P
  simp only at rs ⊢
  have hn0 : ss.length ≤ 1048576 := hs.sites
  have HNM : Hid (∀ z ∈ ss, z.length ≤ 1048576) := hs.names
  obtain ⟨W, hW⟩ : ∃ W, W = w.alloc (.cells #[.int .i64 last, .slice sa ss.length sc] 31) := ⟨_, rfl⟩
  have BW : Below w.heap.size w W := by rw [hW]; exact (Below.refl _ _).alloc (Nat.le_refl _) _
  have hsz : W.heap.size = w.heap.size + 1 := by rw [hW]; simp
  have HK : Hid (∀ X, Below W.heap.size W X → X.cell? ⟨w.heap.size, 0, none⟩ = some (.int .i64 last) ∧ X.cell? ⟨w.heap.size, 1, none⟩ = some (.slice sa ss.length sc)) := fun X hX => by
    have e : ∀ k, X.cell? ⟨w.heap.size, k, none⟩ = (#[.int .i64 last, .slice sa ss.length sc] : Array Value)[k]? := fun k => by
      rw [hX.cell (p := ⟨w.heap.size, k, none⟩) (by show w.heap.size < _; omega), hW, World.cell?_alloc_mark]
    exact ⟨e 0, e 1⟩
  have HRS : Hid (∀ X, Below W.heap.size W X → RdS X sa ss) := fun X hX => rdS_later (rdS_later rs BW) hX
  have HV0 : Hid (∀ X, Below W.heap.size W X → Below w.heap.size w X) := fun X hX => BW.trans (hX.mono BW.size)
  have HNX : Hid (∀ i (h : i < ss.length), ¬ (ss[i].length ≤ 8 ∧ ss[i] ∉ ss.take i) → q = false) := fun i hi hn => q_no hq (fun hh => hn ⟨(hh.2.2 i hi).1.2, (hh.2.2 i hi).2⟩)
  obtain ⟨m, hm⟩ : ∃ m, ss.length = m := ⟨_, rfl⟩
  have HQ : Hid ((∀ i (h : i < ss.length), ss[i].length ≤ 8 ∧ ss[i] ∉ ss.take i) → q = (decide (okZ last) && decide ((m : Int) ≤ 400))) := fun hh => by
    rw [← hm]
    by_cases h1 : okZ last
    · by_cases h2 : (ss.length : Int) ≤ 400
      · rw [decide_eq_true h1, decide_eq_true h2]
        exact hq.2 ⟨h1, by show ss.length ≤ 400; omega, fun i hi => ⟨⟨Nat.zero_le _, (hh i hi).1⟩, (hh i hi).2⟩⟩
      · rw [decide_eq_false h2, Bool.and_false]
        exact q_no hq (fun hp => h2 (by have h4 : ss.length ≤ 400 := hp.2.1; omega))
    · rw [decide_eq_false h1, Bool.false_and]
      exact q_no hq (fun hp => h1 hp.1)
  have CL : Hid (∀ X : World, _) := fun X => l1In_is last (-1000000000) 1000000000 X
  have Hm : Hid (ss.length = m) := hm
  rw [hm] at hn0 HK hW ⊢
  have B0 : Below W.heap.size W W := Below.refl _ _
  clear rs hs hq hm hsz
  go_enter Tryd.func52, Tryd.ntmps52
  go_wp2
  rw [← hW]
  clear hW BW
  go_loopw [3, 4] (fun i k X => ∃ j : Nat, j ≤ m ∧ i = .int .i64 (j : Int) ∧ Below W.heap.size W X ∧ Hid (∀ k (h : k < ss.length), k < j → ss[k].length ≤ 8 ∧ ss[k] ∉ ss.take k)) (fun i _ _ => m - (intOf i).toNat)
  case atStart => exact ⟨0, Nat.zero_le _, rfl, B0, fun k _ hk => absurd hk (Nat.not_lt_zero _)⟩
  case round =>
    clear B0
    obtain ⟨j, hj, rfl, hb, HJ⟩ := hrel
    obtain ⟨p0, p1⟩ := HK.out _ hb
    by_cases hlt : j < m
    · have hj2 : j < ss.length := by have := Hm.out; omega
      obtain ⟨g, off, rfl, hg, hc⟩ := HRS.out _ hb j hj2
      have hsl := HNM.out _ (List.getElem_mem hj2)
      have i1 : (j : Int) < (m : Int) := by omega
      have hts : (txt ss[j]).size = ss[j].length := txt_size _
      have HN1 : Hid (¬ (ss[j].length ≤ 8 ∧ ss[j] ∉ ss.take j) → q = false) := HNX.out j hj2
      by_cases k1 : ss[j].length ≤ 8
      case neg =>
        have hq0 := HN1.out (fun hh => k1 hh.1)
        subst hq0
        have k1' : ¬ ((ss[j].length : Nat) : Int) ≤ 8 := by omega
        generalize ss[j] = z at *
        go_wp2
        go_ret
        exact ⟨rfl, HV0.out _ hb⟩
      have k1' : ((ss[j].length : Nat) : Int) ≤ 8 := by omega
      have HZJ : Hid (ss[j] ∉ ss.take j → ∀ k (h : k < ss.length), k < j + 1 → ss[k].length ≤ 8 ∧ ss[k] ∉ ss.take k) := fun h k hk hk2 => by
        rcases Nat.lt_or_ge k j with h3 | h3
        · exact HJ.out k hk h3
        · obtain rfl : k = j := by omega
          exact ⟨k1, h⟩
      have HC : Hid (∀ X, Below W.heap.size W X → X.cell? ⟨g, off + j, none⟩ = some (.string (txt ss[j]))) := fun X hX => by
        obtain ⟨g2, off2, e, -, hc2⟩ := HRS.out _ hX j hj2
        simp only [Option.some.injEq, Addr.mk.injEq] at e
        obtain ⟨rfl, rfl, -⟩ := e
        exact hc2
      have HMT : Hid (∀ k, k < j → ∀ h : k < ss.length, ss[k] = ss[j] → ss[j] ∈ ss.take j) := fun k hk h e => (mem_take ss j ss[j]).2 ⟨k, h, hk, e⟩
      have HNT : Hid ((∀ k (h : k < ss.length), k < j → ss[k] ≠ ss[j]) → ss[j] ∉ ss.take j) := fun hh hm => by
        obtain ⟨k, h1, h2, h3⟩ := (mem_take ss j ss[j]).1 hm
        exact hh k h1 h2 h3
      clear HJ
      generalize ss[j] = z at *
      go_wp2
      clear p0 p1
      go_loopw [4] (fun i X => ∃ k : Nat, k ≤ j ∧ i = .int .i64 (k : Int) ∧ Below W.heap.size W X ∧ Hid (∀ l (h : l < ss.length), l < k → ss[l] ≠ z)) (fun i _ => j - (intOf i).toNat)
      case atStart => exact ⟨0, Nat.zero_le _, rfl, hb, fun k _ hk => absurd hk (Nat.not_lt_zero _)⟩
      case round =>
        clear hb hc
        obtain ⟨k, hk, rfl, hb, HJK⟩ := hrel
        obtain ⟨p0, p1⟩ := HK.out _ hb
        by_cases hlk : k < j
        · have hk2 : k < ss.length := by have := Hm.out; omega
          obtain ⟨g2, off2, e, hg2, hc2⟩ := HRS.out _ hb k hk2
          simp only [Option.some.injEq, Addr.mk.injEq] at e
          obtain ⟨rfl, rfl, -⟩ := e
          have hne := LaterW.some_ wr
          have z0 : ∀ X : LaterW wr, X.on.cell? ⟨g, off + k, none⟩ = some (.string (txt ss[k])) := fun X => (X.bel.cell (p := ⟨g, off + k, none⟩) hg2).trans hc2
          have y0 : ∀ X : LaterW wr, X.on.cell? ⟨g, off + j, none⟩ = some (.string (txt z)) := fun X => HC.out _ (hb.trans (X.bel.mono hb.size))
          have x1 : ∀ X : LaterW wr, X.on.cell? ⟨w.heap.size, 1, none⟩ = some (.slice (some ⟨g, off, none⟩) m sc) := fun X => (HK.out _ (hb.trans (X.bel.mono hb.size))).2
          have HM2 : Hid (ss[k] = z → z ∈ ss.take j) := HMT.out k hlk hk2
          have HJ2 : Hid (ss[k] ≠ z → ∀ l (h : l < ss.length), l < k + 1 → ss[l] ≠ z) := fun h l hl hl2 => by
            rcases Nat.lt_or_ge l k with h3 | h3
            · exact HJK.out l hl h3
            · obtain rfl : l = k := by omega
              exact h
          have i2 : (k : Int) < (m : Int) := by omega
          have i3 : (k : Int) < (j : Int) := by omega
          clear hc2 HJK
          generalize ss[k] = y at *
          by_cases he : y = z
          · have hq0 := HN1.out (fun hh => hh.2 (HM2.out he))
            subst hq0 he
            go_wp2
            refine wp_region_later wr (Below.refl _ _) (by kernel_rfl) (by kernel_rfl) ?_
            repeat (go_big_quiet_step (fail))
            refine wpQuiet_nil ?_
            rintro _ ⟨⟨X, hX⟩, rfl⟩
            go_wp2
            go_ret
            exact ⟨rfl, HV0.out _ (hb.trans (hX.mono hb.size))⟩
          · have HJ3 : Hid _ := HJ2.out he
            have hqs : ((txt y).toList == (txt z).toList) = false := txt_beq_ne' he
            go_wp2
            refine wp_region_later wr (Below.refl _ _) (by kernel_rfl) (by kernel_rfl) ?_
            repeat (go_big_quiet_step (fail))
            refine wpQuiet_nil ?_
            rintro _ ⟨⟨X, hX⟩, rfl⟩
            go_wp2
            go_roundw
            case rel => exact ⟨k + 1, by omega, by go_num, hb.trans (hX.mono hb.size), HJ3⟩
            case measure => simp [intOf]; omega
        · have HJ1 : Hid _ := HZJ.out (HNT.out (fun l hl hl2 => HJK.out l hl (by omega)))
          have i3 : ¬ (k : Int) < (j : Int) := by omega
          go_wp2
          go_roundw
          case rel => exact ⟨j + 1, by omega, by go_num, hb, HJ1⟩
          case measure => simp [intOf]; omega
    · have hq1 := HQ.out (fun k hk => by
        obtain ⟨h1, h2⟩ := HJ.out k hk (by have := Hm.out; omega)
        exact ⟨h1, h2⟩)
      have HQ1 : Hid _ := hq1
      have CLX : Hid _ := CL.out wr
      clear hq1 HJ
      by_cases k5 : Hid (okZ last)
      case neg =>
        rw [decide_eq_false (p := okZ last) k5] at CLX HQ1
        go_wp2_with fail
        refine (Calls.mono CLX.out ?_)
        rintro e w2 ⟨rfl, hw⟩
        subst hw
        go_wp2
        go_ret
        exact ⟨by rw [HQ1.out, Bool.false_and]; rfl, HV0.out _ hb⟩
      rw [decide_eq_true (p := okZ last) k5] at CLX HQ1
      go_wp2_with fail
      refine (Calls.mono CLX.out ?_)
      rintro e w2 ⟨rfl, hw⟩
      subst hw
      go_wp2
      go_ret
      exact ⟨by rw [HQ1.out, Bool.true_and]; rfl, HV0.out _ hb⟩

end Go.Proofs.YtcjpepdagnifiaaDoor

namespace Go.Proofs.YtcjpepdagnifiaaDoor
open Go.RowKit
set_option linter.unusedVariables false
set_option maxRecDepth 100000

/-- The names behind an event. -/
def namesB (ss : List (List UInt8)) (x : List UInt8) : List (List UInt8) := if plZ x ss = 0 then ss ++ [x] else ss
theorem penB_names (P : PenD) (o : OpD) : (penB P o).sites = namesB P.sites o.site := rfl
/-- What the region yields that builds a pen anew. -/
def RNew (B p : Nat) (last : Int) (sa : Option Addr) (m c : Nat) (news : List Value) (K : World → Value → Prop) : Nat → World → Value → Prop
  | 0, _, v => v = .pointer (some ⟨p, 0, none⟩)
  | 1, _, v => v = .int .i64 last
  | 2, X, v => ∃ g, v = .slice (some ⟨g, 0, none⟩) 0 0 ∧ B ≤ g ∧ X.heap[g]? = some (.cells #[] 9 (0, 0))
  | 3, _, v => v = .pointer (some ⟨p, 1, none⟩)
  | 4, _, v => v = .slice sa m c
  | 5, X, v => X.ownsRow B 9 1 v m news
  | 6, X, v => ∃ x d, v = .agg #[.int .i64 last, .slice x m d] ∧ X.ownsRow B 9 1 (.slice x m d) m news
  | _, X, v => K X v
theorem rnew_mono {B p : Nat} {last : Int} {sa : Option Addr} {m c : Nat} {news : List Value} {K : World → Value → Prop} (hK : ∀ X Y v, K X v → Below X.heap.size X Y → K Y v) (i : Nat) (X Y : World) (v : Value) (h : RNew B p last sa m c news K i X v) (hb : Below X.heap.size X Y) : RNew B p last sa m c news K i Y v := by
  match i, h with
  | 0, h => exact h
  | 1, h => exact h
  | 2, ⟨g, h1, h2, h3⟩ => exact ⟨g, h1, h2, (hb.block g (Array.getElem?_eq_some_iff.1 h3).1).trans h3⟩
  | 3, h => exact h
  | 4, h => exact h
  | 5, h => exact own_kept h hb
  | 6, ⟨x, d, h1, h2⟩ => exact ⟨x, d, h1, own_kept h2 hb⟩
  | n + 7, h => exact hK X Y v h hb
def KTwo (B : Nat) (X : World) (v : Value) : Prop := ∃ g, v = .pointer (some ⟨g, 0, none⟩) ∧ B ≤ g ∧ Two X g (.int .i64 0) (.slice none 0 0)
theorem ktwo_mono (B : Nat) (X Y : World) (v : Value) (h : KTwo B X v) (hb : Below X.heap.size X Y) : KTwo B Y v := h.imp fun g hg => ⟨hg.1, hg.2.1, hg.2.2.later hb⟩

set_option maxHeartbeats 4000000 in
theorem sSite_calls (v : Value) (P : PenD) (x : List UInt8) (w : World) (h : RdP w v P) (hs : SmallP P) (hx : x.length ≤ 1048576) :
    Calls Tryd.prog 53 #[v, .string (txt x)] w fun e w' => ∃ y c, e = .returned (.tuple #[.string (txt (siteT P.sites x)), .agg #[.int .i64 P.last, .slice y (namesB P.sites x).length c]]) ∧ ownS w' w.heap.size (.slice y (namesB P.sites x).length c) (namesB P.sites x) ∧ Below w.heap.size w w' := by
  obtain ⟨sa, sc, rfl, rs⟩ := h
  obtain ⟨last, ss⟩ := P
  simp only at rs ⊢
  have hn0 : ss.length ≤ 1048576 := hs.sites
  obtain ⟨n, hn⟩ : ∃ n, ss.length = n := ⟨_, rfl⟩
  have Hn : Hid (ss.length = n) := hn
  obtain ⟨W, hW⟩ : ∃ W, W = (w.alloc (.cells #[.int .i64 last, .slice sa n sc] 31)).alloc (.cells #[.int .i64 0, .slice none 0 0] 31) := ⟨_, rfl⟩
  have hWs : W.heap.size = w.heap.size + 2 := by rw [hW]; simp
  have BW : Below w.heap.size w W := by rw [hW]; exact ((Below.refl _ _).alloc (Nat.le_refl _) _).alloc (by simp) _
  have HFP : Hid (Two W w.heap.size (.int .i64 last) (.slice sa n sc)) := by
    rw [hW]
    exact (Two.new w _ _).later ((Below.refl _ _).alloc (Nat.le_refl _) _)
  have HFR : Hid (Two W (w.heap.size + 1) (.int .i64 0) (.slice none 0 0)) := by
    rw [hW]
    have f1 := Two.new (w.alloc (.cells #[.int .i64 last, .slice sa n sc] 31)) (.int .i64 0) (.slice none 0 0)
    have e : (w.alloc (.cells #[.int .i64 last, .slice sa n sc] 31)).heap.size = w.heap.size + 1 := by simp
    rw [e] at f1
    exact f1
  have HRS : Hid (∀ X, Below W.heap.size W X → RdS X sa ss) := fun X hX => rdS_later (rdS_later rs BW) hX
  have HSS : Hid (SrcC W sa n 1 (ss.map strV)) := by rw [← hn]; exact (srcS rs).later BW
  have HBW : Hid (Below w.heap.size w W) := BW
  have HWs : Hid (W.heap.size = w.heap.size + 2) := hWs
  have HPD : Hid (∀ (j : Nat) (h : j < ss.length), (∀ k (h : k < ss.length), k < j → ss[k] ≠ x) → ss[j] = x → plZ x ss = (j : Int) + 1) := fun j hj hno he => by
    rcases plZ_cases x ss with ⟨-, h0⟩ | ⟨k, hk, h1, h2⟩
    · exact absurd (he ▸ List.getElem_mem hj) h0
    · rcases Nat.lt_trichotomy k j with e | e | e
      · exact absurd h2 (hno k hk e)
      · rw [h1, e]
      · exfalso
        have hh : ∀ (zs : List (List UInt8)) (i : Int) (j k : Nat) (hj : j < zs.length) (hk : k < zs.length), zs[j] = x → j < k → idxL x zs i ≠ i + (k : Int) := by
          intro zs
          induction zs with
          | nil => intro i j k hj; simp at hj
          | cons y r ih =>
            intro i j k hj hk hj2 hjk
            unfold idxL
            by_cases e2 : x = y
            · rw [if_pos e2]; omega
            · rw [if_neg e2]
              cases j with
              | zero => exact absurd hj2.symm e2
              | succ j =>
                cases k with
                | zero => omega
                | succ k =>
                  have := ih (i + 1) j k (by simpa using hj) (by simpa using hk) (by simpa using hj2) (by omega)
                  intro e3
                  exact this (by omega)
        have := hh ss 0 j k hj hk he e
        unfold plZ at h1
        omega
  have HPN : Hid ((∀ k (h : k < ss.length), ss[k] ≠ x) → plZ x ss = 0) := fun hno => by
    rcases plZ_cases x ss with ⟨h0, -⟩ | ⟨k, hk, h1, h2⟩
    · exact h0
    · exact absurd h2 (hno k hk)
  clear rs BW hs hWs
  rw [hn] at hn0 ⊢
  clear hn
  go_enter Tryd.func53, Tryd.ntmps53
  go_wp2
  rw [← hW]
  clear hW
  refine wp_region_last 8 (by kernel_rfl) (by kernel_rfl) (RNew W.heap.size w.heap.size last sa n sc (ss.map strV) (KTwo W.heap.size)) (rnew_mono (ktwo_mono _)) ?_ ?_
  · intro i o hi ho a X hX hA hdep
    have FX := (HFP.out.later hX).cells
    have hXs := hX.size
    match i, hi, ho with
    | 0, _, ho =>
      obtain rfl := Option.some.inj ho
      exact opFieldPen 0 (by omega) (alike_at hA (t := 2) (by kernel_rfl)) ⟨_, rfl, Below.refl _ _, rfl⟩
    | 1, _, ho =>
      obtain rfl := Option.some.inj ho
      have e1 : a.eval (.tmp 8) = .pointer (some ⟨w.heap.size, 0, none⟩) := hdep ⟨0, .data⟩ (by simp) rfl 8 rfl
      exact opLoadInt e1 FX.1 ⟨_, rfl, Below.refl _ _, rfl⟩
    | 2, _, ho =>
      obtain rfl := Option.some.inj ho
      exact opNewS ⟨_, rfl, (Below.refl _ _).alloc (Nat.le_refl _) _, X.heap.size, rfl, hXs, fresh_at X _⟩
    | 3, _, ho =>
      obtain rfl := Option.some.inj ho
      exact opFieldPen 1 (by omega) (alike_at hA (t := 2) (by kernel_rfl)) ⟨_, rfl, Below.refl _ _, rfl⟩
    | 4, _, ho =>
      obtain rfl := Option.some.inj ho
      have e1 : a.eval (.tmp 11) = .pointer (some ⟨w.heap.size, 1, none⟩) := hdep ⟨3, .data⟩ (by simp) rfl 11 rfl
      exact opLoadS e1 FX.2 ⟨_, rfl, Below.refl _ _, rfl⟩
    | 5, _, ho =>
      obtain rfl := Option.some.inj ho
      obtain ⟨g, e1, gB, hg⟩ := hdep ⟨2, .data⟩ (by simp) rfl 10 rfl
      have e2 : a.eval (.tmp 12) = .slice sa n sc := hdep ⟨4, .data⟩ (by simp) rfl 12 rfl
      exact wp_append_fresh elS _ _ rfl g W.heap.size hg gB sa n sc _ e1 e2 (HSS.out.later hX) (by omega) (by omega) (fun v' w' r b _ => ⟨_, rfl, b, r⟩)
    | 6, _, ho =>
      obtain rfl := Option.some.inj ho
      have e0 : a.eval (.tmp 9) = .int .i64 last := hdep ⟨1, .data⟩ (by simp) rfl 9 rfl
      have r3 : X.ownsRow W.heap.size 9 1 (a.eval (.tmp 13)) n (ss.map strV) := hdep ⟨5, .data⟩ (by simp) rfl 13 rfl
      obtain ⟨x3, c3, e3, _⟩ := row_form r3
      rw [e3] at r3
      exact opBuildPen e0 e3 ⟨_, rfl, Below.refl _ _, x3, c3, rfl, r3⟩
    | 7, _, ho =>
      obtain rfl := Option.some.inj ho
      exact opAllocPen ⟨_, rfl, (Below.refl _ _).alloc (Nat.le_refl _) _, X.heap.size, rfl, hXs, Two.new X _ _⟩
  · intro o ho a X hX hA hdep
    obtain rfl := Option.some.inj ho
    obtain ⟨g, e1, gB, hf⟩ := hdep ⟨7, .data⟩ (by simp) rfl 6 rfl
    obtain ⟨x3, c3, e2, r3⟩ := hdep ⟨6, .data⟩ (by simp) rfl 14 rfl
    refine opStorePen e1 e2 hf ?_
    obtain ⟨us, hus, rfl⟩ := alike_tmps hA [8, 9, 10, 11, 12, 13, 14, 6] (by kernel_rfl)
    have e3 : us 6 = .pointer (some ⟨g, 0, none⟩) := (hus 6).symm.trans e1
    have hoth : ∀ i, i ≠ g → ((X.setCell ⟨g, 0, none⟩ (.int .i64 last)).setCell ⟨g, 1, none⟩ (.slice x3 n c3)).heap[i]? = X.heap[i]? := fun i hi => by
      rw [Below.heap_setCell _ _ _ _ (by exact hi), Below.heap_setCell _ _ _ _ (by exact hi)]
    have HX : Hid (Two ((X.setCell ⟨g, 0, none⟩ (.int .i64 last)).setCell ⟨g, 1, none⟩ (.slice x3 n c3)) g (.int .i64 last) (.slice x3 n c3)) := hf.set _ _
    have HO : Hid (ownS ((X.setCell ⟨g, 0, none⟩ (.int .i64 last)).setCell ⟨g, 1, none⟩ (.slice x3 n c3)) W.heap.size (.slice x3 n c3) ss) := by
      unfold Hid ownS
      rw [Hn.out]
      exact row_same r3 (fun i hi => by
        obtain ⟨cur, hc⟩ := row_kind r3 i hi
        exact hoth i (kind_ne hc hf (by decide)))
    have HB : Hid (Below W.heap.size W ((X.setCell ⟨g, 0, none⟩ (.int .i64 last)).setCell ⟨g, 1, none⟩ (.slice x3 n c3))) := (hX.setCell gB _).setCell gB _
    have HGB : Hid (W.heap.size ≤ g) := gB
    clear hdep hA hus e1 e2 hf r3 ho HSS hoth
    generalize (X.setCell ⟨g, 0, none⟩ (.int .i64 last)).setCell ⟨g, 1, none⟩ (.slice x3 n c3) = Y at *
    simp only [List.mapIdx_cons, List.mapIdx_nil, Nat.reduceAdd, List.contains_cons, List.contains_nil, Nat.reduceBEq, Bool.or_false, Bool.or_true, if_true, if_false, Bool.false_eq_true, e3]
    clear e3 hX gB
    go_wp2
    go_loopw [7] (fun i wr => ∃ j : Nat, i = .int .i64 (j : Int) ∧ j ≤ n ∧ wr = Y ∧ Hid (∀ k (h : k < ss.length), k < j → ss[k] ≠ x)) (fun i _ => n - (intOf i).toNat)
    case atStart => exact ⟨0, rfl, Nat.zero_le _, rfl, fun k _ hk => absurd hk (Nat.not_lt_zero _)⟩
    case round =>
      obtain ⟨j, rfl, hjs, rfl, HJ⟩ := hrel
      have hwrs := HB.out.size
      have hfp : Two wr w.heap.size (.int .i64 last) (.slice sa n sc) := (HB.out.block w.heap.size (by have := HWs.out; omega)).trans HFP.out
      have hfr : Two wr (w.heap.size + 1) (.int .i64 0) (.slice none 0 0) := (HB.out.block (w.heap.size + 1) (by have := HWs.out; omega)).trans HFR.out
      obtain ⟨p0, p1⟩ := hfp.cells
      obtain ⟨r0, r1⟩ := hfr.cells
      have z0 : wr.frozen? ⟨w.heap.size + 1, 0, none⟩ = false := Lib.frozen_of_heap hfr 0
      have z1 : wr.frozen? ⟨w.heap.size + 1, 1, none⟩ = false := Lib.frozen_of_heap hfr 1
      obtain ⟨g0, g1⟩ := HX.out.cells
      have gz1 : wr.frozen? ⟨g, 1, none⟩ = false := Lib.frozen_of_heap HX.out 1
      have hng : ¬ g = w.heap.size + 1 := by have := HWs.out; have := HGB.out; omega
      have hng2 : ¬ w.heap.size + 1 = g := fun e => hng e.symm
      have HBE : Hid (∀ Z, Below wr.heap.size wr Z → Z.cell? ⟨g, 0, none⟩ = some (.int .i64 last) ∧ Z.cell? ⟨g, 1, none⟩ = some (.slice x3 n c3)) := fun Z hZ => (HX.out.later hZ).cells
      have HRE : Hid (∀ Z, Below wr.heap.size wr Z → Z.cell? ⟨w.heap.size + 1, 0, none⟩ = some (.int .i64 0) ∧ Z.cell? ⟨w.heap.size + 1, 1, none⟩ = some (.slice none 0 0) ∧ Z.frozen? ⟨w.heap.size + 1, 0, none⟩ = false ∧ Z.frozen? ⟨w.heap.size + 1, 1, none⟩ = false) := fun Z hZ => by
        have h := hfr.later hZ
        exact ⟨h.cells.1, h.cells.2, Lib.frozen_of_heap h 0, Lib.frozen_of_heap h 1⟩
      clear hfp hfr
      by_cases hlt : j < n
      · have hj2 : j < ss.length := by have := Hn.out; omega
        obtain ⟨gs, off, rfl, hgs, hcs⟩ := HRS.out _ HB.out j hj2
        have i1 : (j : Int) < (n : Int) := by omega
        have HP1 : Hid (ss[j] = x → plZ x ss = (j : Int) + 1) := HPD.out j hj2 HJ.out
        have HJ2 : Hid (ss[j] ≠ x → ∀ k (h : k < ss.length), k < j + 1 → ss[k] ≠ x) := fun h k hk hk2 => by
          rcases Nat.lt_or_ge k j with h3 | h3
          · exact HJ.out k hk h3
          · obtain rfl : k = j := by omega
            exact h
        generalize ss[j] = z at *
        by_cases he : z = x
        · subst he
          have hpl := HP1.out rfl
          have HE : Hid (namesB ss z = ss) := if_neg (by omega)
          have HT : Hid (siteT ss z = varZ ((j : Int) + 1)) := by show _ = _; unfold siteT; rw [if_neg (by omega), hpl]
          have hw : IntKind.i64.wrap ((j : Int) + 1) = (j : Int) + 1 := by rw [IntKind.wrap_i64]; omega
          have CV : Hid (∀ X : World, Calls Tryd.prog 49 #[.int .i64 (IntKind.i64.wrap ((j : Int) + 1))] X fun e w' => e = .returned (.string (txt (varZ ((j : Int) + 1)))) ∧ Below X.heap.size X w') := fun X => by rw [hw]; exact sVar_calls ((j : Int) + 1) X
          have HF : Hid (∀ Z, Below wr.heap.size wr Z → ownS ((Z.setCell ⟨w.heap.size + 1, 0, none⟩ (.int .i64 last)).setCell ⟨w.heap.size + 1, 1, none⟩ (.slice x3 n c3)) w.heap.size (.slice x3 n c3) ss ∧ Below w.heap.size w ((Z.setCell ⟨w.heap.size + 1, 0, none⟩ (.int .i64 last)).setCell ⟨w.heap.size + 1, 1, none⟩ (.slice x3 n c3))) := fun Z hZ =>
            ⟨ownS_mono (ownS_far _ _ (ownS_far _ _ (ownS_later HO.out hZ) (by have := HWs.out; simp only; omega)) (by have := HWs.out; simp only; omega)) (by have := HWs.out; omega),
             ((HBW.out.trans ((HB.out.trans (hZ.mono hwrs)).mono HBW.out.size)).setCell (by simp only; omega) _).setCell (by simp only; omega) _⟩
          have D1 : Below wr.heap.size wr wr.drew := (Below.refl _ _).drew
          obtain ⟨tx, htx⟩ : ∃ tx, varZ ((j : Int) + 1) = tx := ⟨_, rfl⟩
          rw [htx] at CV HT
          clear htx hw HP1 HJ2 HJ HO HPD HPN hpl HRS HFP HFR HX HB
          go_wp2_with fail
          go_region_held (fun X => X.cell? ⟨g, 0, none⟩ = some (.int .i64 last) ∧ X.cell? ⟨g, 1, none⟩ = some (.slice x3 n c3))
            (first | exact HBE.out _ B1 | exact HBE.out _ D1 | exact ⟨(keep_far _ _ (by exact hng2) 0).trans ((keep_far _ _ (by exact hng2) 0).trans (HBE.out _ B1).1), (keep_far _ _ (by exact hng2) 1).trans ((keep_far _ _ (by exact hng2) 1).trans (HBE.out _ B1).2)⟩)
            (first | (go_at_call 49; refine (CV.out _).mono ?_; rintro e Z ⟨rfl, b1⟩; (have B1 := D1.trans (b1.mono D1.size)); (obtain ⟨m0, m1, m2, m3⟩ := HRE.out _ B1)))
          all_goals
            have HF2 : Hid _ := HF.out _ B1
            clear HF HBE HRE p0 p1 r0 r1 z0 z1
            go_wp2
            refine bodyPost_ret (v := .tuple #[.string (txt tx), .agg #[.int .i64 last, .slice x3 n c3]]) (by simp [results, Tryd.results53, go_sem, *]) rfl ⟨x3, c3, by rw [HE.out, HT.out, Hn.out], by rw [HE.out, Hn.out]; exact HF2.out.1, HF2.out.2⟩
        · have HJ3 : Hid _ := HJ2.out he
          have hqs : ((txt z).toList == (txt x).toList) = false := txt_beq_ne' he
          clear HBE HRE
          go_wp2
          go_roundw
          case rel => exact ⟨j + 1, by go_num, by omega, trivial, HJ3⟩
          case measure => simp [intOf]; omega
      · have ej : n ≤ j := by omega
        have hpl := HPN.out (fun k hk => HJ.out k hk (by have := Hn.out; omega))
        have HE : Hid (namesB ss x = ss ++ [x]) := if_pos hpl
        have HT : Hid (siteT ss x = varZ 0 ++ showT x) := by show _ = _; unfold siteT; rw [if_pos hpl]
        have HL : Hid ((ss ++ [x]).length = n + 1) := by show _ = _; rw [List.length_append, Hn.out]; rfl
        have CV : Hid (∀ X : World, _) := fun X => sVar_calls 0 X
        have CT : Hid (∀ X : World, _) := fun X => sShowText_calls x X hx
        have HTA : Hid (txt (varZ 0) ++ txt (showT x) = txt (varZ 0 ++ showT x)) := txt_append _ _
        have HWT : Hid (w.heap.size + 1 < W.heap.size ∧ w.heap.size ≤ W.heap.size) := by have := HWs.out; exact ⟨by omega, by omega⟩
        have hBw : W.heap.size ≤ wr.heap.size := hwrs
        have hOb : ∀ i, (Value.slice x3 n c3).ownBlock = some i → i ≠ g ∧ i ≠ w.heap.size + 1 := fun i hi => by
          obtain ⟨cur, hk⟩ := row_kind HO.out i hi
          exact ⟨kind_ne hk HX.out (by decide), by have := (ownS_lt HO.out i hi).1; have := HWs.out; omega⟩
        have HFRR : Hid (Two W (w.heap.size + 1) (.int .i64 0) (.slice none 0 0)) := HFR
        clear HPN HPD HJ hpl HRS HFP HFR
        have HTT : Hid (siteT ss x = varZ 0 ++ showT x) := HT
        obtain ⟨t1, ht1⟩ : ∃ t1, showT x = t1 := ⟨_, rfl⟩
        obtain ⟨t0, ht0⟩ : ∃ t0, varZ 0 = t0 := ⟨_, rfl⟩
        have hl1 : t1.length ≤ 9 := by rw [← ht1]; exact showT_length x
        have hl0 : t0.length ≤ 7 := by rw [← ht0]; exact varZ_length 0
        have hz1 : (txt t1).size ≤ 9 := by rw [txt_size]; exact hl1
        have hz0 : (txt t0).size ≤ 7 := by rw [txt_size]; exact hl0
        have hz2 : (txt t0).size + (txt t1).size ≤ 9223372036854775807 := by omega
        have hz3 : ((txt t0).size : Int) + ((txt t1).size : Int) ≤ 9223372036854775807 := by omega
        have hz4 : t0.length + t1.length ≤ 9223372036854775807 := by omega
        rw [ht1] at CT HTA HTT
        rw [ht0] at CV HTA HTT
        clear ht0 ht1 HT
        have HOb : Hid _ := hOb
        clear hOb
        go_wp2_with (at_builtin; refine wpList_appendT rfl _ _ rfl W.heap.size _ ss rfl (ownS_alloc _ HO.out) ⟨wr.heap.size, 0, none⟩ x rfl ?hsrc ?hlen ?hB ?_)
        case hsrc => rw [World.cell?_alloc_mark]; rfl
        case hlen => have := Hn.out; omega
        case hB => rw [World.size_alloc]; omega
        intro v' w' hO2 hsz2 hoth hat hbel
        obtain ⟨y, c', hv', hrd⟩ := rdS_own hO2
        subst hv'
        obtain ⟨n1, hn1⟩ : ∃ n1, (ss ++ [x]).length = n1 := ⟨_, rfl⟩
        have HL1 : Hid ((ss ++ [x]).length = n1) := hn1
        rw [hn1] at hO2 ⊢
        clear hn1
        have hkeep : ∀ k, k < wr.heap.size → k = g ∨ k = w.heap.size + 1 → w'.heap[k]? = wr.heap[k]? := fun k hk hk2 => by
          rw [hoth.out k (by first | omega | (rw [World.size_alloc]; omega)) (fun e => by have := HOb.out k e; omega)]
          exact Below.heap_alloc wr _ k hk
        have hgl := HX.out.lt
        have X2 : Two w' g (.int .i64 last) (.slice x3 n c3) := (hkeep g hgl (.inl rfl)).trans HX.out
        have hfr2 : Two w' (w.heap.size + 1) (.int .i64 0) (.slice none 0 0) := (hkeep _ (by have := HWT.out.1; omega) (.inr rfl)).trans ((HB.out.block (w.heap.size + 1) HWT.out.1).trans HFRR.out)
        have hwb : Below W.heap.size W w' := hbel.out W.heap.size W (HB.out.alloc hBw _) (Nat.le_refl _)
        obtain ⟨d0, d1⟩ := X2.cells
        have dz : w'.frozen? ⟨g, 1, none⟩ = false := Lib.frozen_of_heap X2 1
        have X3 : Two (w'.setCell ⟨g, 1, none⟩ (.slice y n1 c')) g (.int .i64 last) (.slice y n1 c') := by
          unfold Two at *
          simp [World.setCell, Array.getElem?_modify, X2]
        have O3 : ownS (w'.setCell ⟨g, 1, none⟩ (.slice y n1 c')) W.heap.size (.slice y n1 c') (ss ++ [x]) := row_same hO2 (fun k hk => by
          obtain ⟨cur, hkk⟩ := row_kind hO2 k hk
          exact Below.heap_setCell _ _ _ _ (kind_ne hkk X2 (by decide)))
        have F3 : Two (w'.setCell ⟨g, 1, none⟩ (.slice y n1 c')) (w.heap.size + 1) (.int .i64 0) (.slice none 0 0) := (Below.heap_setCell _ _ _ _ (by exact hng2)).trans hfr2
        have B3 : Below W.heap.size W (w'.setCell ⟨g, 1, none⟩ (.slice y n1 c')) := hwb.setCell (by exact HGB.out) _
        have HX3 : Hid _ := X3
        have HO3 : Hid _ := O3
        have HF3 : Hid _ := F3
        have HB3 : Hid _ := B3
        have HTG : Hid (W.heap.size ≤ g) := HGB
        clear hkeep X2 hfr2 hwb X3 O3 F3 B3 hoth hat hbel hO2 hrd HX HO HB g0 g1 gz1 HBE HRE p0 p1 r0 r1 z0 z1 hsz2
        go_wp2_with fail
        generalize w'.setCell ⟨g, 1, none⟩ (.slice y n1 c') = Z0 at *
        have HBE : Hid (∀ Z, Below Z0.heap.size Z0 Z → Z.cell? ⟨g, 0, none⟩ = some (.int .i64 last) ∧ Z.cell? ⟨g, 1, none⟩ = some (.slice y n1 c')) := fun Z hZ => (Two.later (show Two Z0 g _ _ from HX3.out) hZ).cells
        have HRE : Hid (∀ Z, Below Z0.heap.size Z0 Z → Z.cell? ⟨w.heap.size + 1, 0, none⟩ = some (.int .i64 0) ∧ Z.cell? ⟨w.heap.size + 1, 1, none⟩ = some (.slice none 0 0) ∧ Z.frozen? ⟨w.heap.size + 1, 0, none⟩ = false ∧ Z.frozen? ⟨w.heap.size + 1, 1, none⟩ = false) := fun Z hZ => by
          have h := Two.later (show Two Z0 (w.heap.size + 1) _ _ from HF3.out) hZ
          exact ⟨h.cells.1, h.cells.2, Lib.frozen_of_heap h 0, Lib.frozen_of_heap h 1⟩
        have HF : Hid (∀ Z, Below Z0.heap.size Z0 Z → ownS ((Z.setCell ⟨w.heap.size + 1, 0, none⟩ (.int .i64 last)).setCell ⟨w.heap.size + 1, 1, none⟩ (.slice y n1 c')) w.heap.size (.slice y n1 c') (ss ++ [x]) ∧ Below w.heap.size w ((Z.setCell ⟨w.heap.size + 1, 0, none⟩ (.int .i64 last)).setCell ⟨w.heap.size + 1, 1, none⟩ (.slice y n1 c'))) := fun Z hZ =>
          ⟨ownS_mono (ownS_far _ _ (ownS_far _ _ (ownS_later (show ownS Z0 W.heap.size _ _ from HO3.out) hZ) (by exact HWT.out.1)) (by exact HWT.out.1)) HWT.out.2,
           ((HBW.out.trans ((HB3.out.trans (hZ.mono HB3.out.size)).mono HBW.out.size)).setCell (by simp only; omega) _).setCell (by simp only; omega) _⟩
        have D1 : Below Z0.heap.size Z0 Z0.drew := (Below.refl _ _).drew
        clear HX3 HO3 HF3 HB3 HTG d0 d1 dz HOb
        go_region_held (fun X => X.cell? ⟨g, 0, none⟩ = some (.int .i64 last) ∧ X.cell? ⟨g, 1, none⟩ = some (.slice y n1 c'))
          (first | exact HBE.out _ B2 | exact HBE.out _ B1 | exact HBE.out _ D1 | exact ⟨(keep_far _ _ (by exact hng2) 0).trans ((keep_far _ _ (by exact hng2) 0).trans (HBE.out _ B2).1), (keep_far _ _ (by exact hng2) 1).trans ((keep_far _ _ (by exact hng2) 1).trans (HBE.out _ B2).2)⟩)
          (first
            | (go_at_call 49; refine (CV.out _).mono ?_; rintro e Z1 ⟨rfl, b1⟩; (have B1 := D1.trans (b1.mono D1.size)))
            | (go_at_call 75; refine (CT.out _).mono ?_; rintro e Z ⟨rfl, b2⟩; (have B2 := B1.trans (b2.mono B1.size)); (obtain ⟨m0, m1, m2, m3⟩ := HRE.out _ B2)))
        all_goals
          have HF2 : Hid _ := HF.out _ B2
          clear HF HBE HRE
          go_wp2
          refine bodyPost_ret (v := .tuple #[.string (txt t0 ++ txt t1), .agg #[.int .i64 last, .slice y n1 c']]) (by simp [results, Tryd.results53, go_sem, *]) rfl ⟨y, c', ?_, ?_, HF2.out.2⟩
          · rw [HE.out, HTT.out, HTA.out, HL1.out]
          · rw [HE.out, HL1.out]; exact HF2.out.1

end Go.Proofs.YtcjpepdagnifiaaDoor

namespace Go.Proofs.YtcjpepdagnifiaaDoor
open Go.RowKit
set_option linter.unusedVariables false
set_option maxRecDepth 100000

/-- A row of numbers that no step writes, in every later world. -/
theorem rdI_kb {n b : Nat} {X Y : World} {a : Option Addr} {zs : List Int} (h : RdI X a zs) (hf0 : zs ≠ [] → Far n b X a) (k : Kb n b X Y) : RdI Y a zs := by
  intro j hj
  have hf := hf0 (fun e => by subst e; simp at hj)
  obtain ⟨g, off, rfl, hg, hc⟩ := h j hj
  have hs : Safe n b X g := hf ⟨g, off, none⟩ rfl
  exact ⟨g, off, rfl, Nat.lt_of_lt_of_le hg k.size, (Safe.cell (p := ⟨g, off + j, none⟩) hs k).trans hc⟩
/-- The number ahead of number j. -/
def aheadAt (a : Int) (zs : List Int) (j : Nat) : Int := if j = 0 then a else zs.getD (j - 1) 0

set_option maxHeartbeats 4000000 in
theorem wAns_calls (n b : Nat) (P : PenD) (sv ev : Value) (l : List UInt8) (a : Int) (A : AnsD) (fa : Option Addr) (fc : Nat) (X : World) (h : WS n b P sv ev l X) (hl : l.length ≤ 800000) (ha : okZ a) (hF : RdI X fa A.freed) (hFar : A.freed ≠ [] → Far n b X fa) (hnf : A.freed.length ≤ 1048576) (hz : ∀ z ∈ A.freed, in64 z) (q : Bool) (hq : q = true ↔ SpeakA A) :
    Calls Tryd.prog 87 #[.pointer (some ⟨b, 0, none⟩), .agg #[.int .i64 A.code, .int .i64 A.val, .slice fa A.freed.length fc], .int .i64 a] X fun e X' => PostW n b P sv ev (l ++ ansT a A) q X e X' := by
  obtain ⟨ac, av, zs⟩ := A
  simp only at hF hnf hz hFar ⊢
  have hbX := h.wr.pen.2.2
  obtain ⟨m, hm⟩ : ∃ m, zs.length = m := ⟨_, rfl⟩
  have Hm : Hid (zs.length = m) := hm
  rw [hm] at hnf ⊢
  obtain ⟨X1, hX1⟩ : ∃ X1, X1 = X.alloc (.cells #[.int .i64 ac, .int .i64 av, .slice fa m fc] 30) := ⟨_, rfl⟩
  have B1 : Below X.heap.size X X1 := by rw [hX1]; exact (Below.refl _ _).alloc (Nat.le_refl _) _
  have W0 : WS n b P sv ev l X1 := h.later B1
  have K0 : Kb n b X X1 := Kb.of B1 h.cx.2.2
  have HO : Hid (∀ Y, Kb n b X1 Y → Y.cell? ⟨X.heap.size, 0, none⟩ = some (.int .i64 ac) ∧ Y.cell? ⟨X.heap.size, 1, none⟩ = some (.int .i64 av) ∧ Y.cell? ⟨X.heap.size, 2, none⟩ = some (.slice fa m fc)) := fun Y hY => by
    have hs : Safe n b X1 X.heap.size := by rw [hX1]; exact Safe.new X _ _ (by decide) hbX
    have e : ∀ k, Y.cell? ⟨X.heap.size, k, none⟩ = (#[.int .i64 ac, .int .i64 av, .slice fa m fc] : Array Value)[k]? := fun k => by
      rw [Safe.cell (p := ⟨X.heap.size, k, none⟩) hs hY, hX1, World.cell?_alloc_mark]
    exact ⟨e 0, e 1, e 2⟩
  have HF : Hid (∀ Y, Kb n b X1 Y → RdI Y fa zs) := fun Y hY => rdI_kb hF hFar (K0.trans hY)
  have CN : Hid (∀ (x a : Int) (l2 : List UInt8) (Y : World) (q2 : Bool), WS n b P sv ev l2 Y → l2.length ≤ 1000000 → (in64 a ∧ (okZ x → okZ a)) → (q2 = true ↔ okZ x) → _) := fun x a l2 Y q2 h1 h2 h3 h4 => wNum_calls n b P sv ev l2 x a Y h1 h2 h3 q2 h4
  have CC : Hid (∀ (x m : Int) (l2 : List UInt8) (Y : World) (q2 : Bool), WS n b P sv ev l2 Y → l2.length ≤ 1000000 → (q2 = true ↔ 0 ≤ x ∧ x ≤ m) → _) := fun x m l2 Y q2 h1 h2 h4 => wCnt_calls n b P sv ev l2 x m Y h1 h2 q2 h4
  have HSP : Hid (q = true ↔ SpeakA ⟨ac, av, zs⟩) := hq
  have HT : Hid (ansT a ⟨ac, av, zs⟩ = varZ ac ++ (showZ (av - a) ++ (varZ (m : Int) ++ freedT a zs))) := by show _ = _; unfold ansT; rw [← hm]
  have HA : Hid (okZ a) := ha
  have z1 := varZ_length ac
  have z2 := showZ_length (av - a)
  have z3 := varZ_length (m : Int)
  obtain ⟨c0, c1, c2⟩ := HO.out _ (Kb.refl _ _ _)
  clear h hq B1 hF hFar hm ha
  have C1 := CC.out ac 6 l X1 (decide (0 ≤ ac ∧ ac ≤ 6)) W0 (by omega) decide_eq_true_iff
  have HC1 : Hid _ := C1
  clear C1
  go_enter Tryd.func87, Tryd.ntmps87
  go_wp2_with fail
  rw [← hX1]
  clear hX1
  refine (Calls.mono HC1.out ?_)
  rintro e Y1 ⟨hy, hn, kk⟩
  by_cases k1 : Hid (0 ≤ ac ∧ ac ≤ 6)
  case neg =>
    obtain ⟨rfl, l2, H2⟩ := hn (decide_eq_false (p := 0 ≤ ac ∧ ac ≤ 6) k1)
    have hq0 := q_no HSP.out (fun hh => k1 hh.1)
    subst hq0
    have HF2 : Hid (PostW n b P sv ev (l ++ ansT a ⟨ac, av, zs⟩) false X _ Y1) := postW_no H2 (K0.trans kk)
    clear hn hy H2 c0 c1 c2
    go_wp2
    exact ⟨rfl, HF2.out⟩
  obtain ⟨rfl, W1⟩ := hy (decide_eq_true (p := 0 ≤ ac ∧ ac ≤ 6) k1)
  have K1 := kk
  clear hy hn HC1 c0 c1 c2 W0 kk
  obtain ⟨c0, c1, c2⟩ := HO.out _ K1
  have C2 := CN.out av a _ _ (decide (okZ av)) W1 (by rw [List.length_append]; omega) ⟨⟨by have := HA.out; omega, by have := HA.out; omega⟩, fun _ => HA.out⟩ decide_eq_true_iff
  have HC2 : Hid _ := C2
  clear C2
  go_wp2_with fail
  refine (Calls.mono HC2.out ?_)
  rintro e Y2 ⟨hy, hn, kk⟩
  by_cases k2 : Hid (okZ av)
  case neg =>
    obtain ⟨rfl, l2, H2⟩ := hn (decide_eq_false (p := okZ av) k2)
    have hq0 := q_no HSP.out (fun hh => k2 hh.2.1)
    subst hq0
    have HF2 : Hid (PostW n b P sv ev (l ++ ansT a ⟨ac, av, zs⟩) false X _ Y2) := postW_no H2 (K0.trans (K1.trans kk))
    clear hn hy H2 c0 c1 c2
    go_wp2
    exact ⟨rfl, HF2.out⟩
  obtain ⟨rfl, W2⟩ := hy (decide_eq_true (p := okZ av) k2)
  have K2 := K1.trans kk
  clear hy hn HC2 c0 c1 c2 W1 kk K1
  obtain ⟨c0, c1, c2⟩ := HO.out _ K2
  have C3 := CC.out (m : Int) 8 _ _ (decide (0 ≤ (m : Int) ∧ (m : Int) ≤ 8)) W2 (by simp only [List.length_append]; omega) decide_eq_true_iff
  have HC3 : Hid _ := C3
  clear C3
  go_wp2_with fail
  refine (Calls.mono HC3.out ?_)
  rintro e Y3 ⟨hy, hn, kk⟩
  by_cases k3 : Hid (0 ≤ (m : Int) ∧ (m : Int) ≤ 8)
  case neg =>
    obtain ⟨rfl, l2, H2⟩ := hn (decide_eq_false (p := 0 ≤ (m : Int) ∧ (m : Int) ≤ 8) k3)
    have hq0 := q_no HSP.out (fun hh => k3 ⟨by omega, by have h1 := hh.2.2.1; have h2 := Hm.out; simp only at h1; omega⟩)
    subst hq0
    have HF2 : Hid (PostW n b P sv ev (l ++ ansT a ⟨ac, av, zs⟩) false X _ Y3) := postW_no H2 (K0.trans (K2.trans kk))
    clear hn hy H2 c0 c1 c2
    go_wp2
    exact ⟨rfl, HF2.out⟩
  obtain ⟨rfl, W3⟩ := hy (decide_eq_true (p := 0 ≤ (m : Int) ∧ (m : Int) ≤ 8) k3)
  have hm8 : m ≤ 8 := by have := k3.out; omega
  have K3 := K2.trans kk
  clear hy hn HC3 c0 c1 c2 W2 kk K2
  obtain ⟨c0, c1, c2⟩ := HO.out _ K3
  obtain ⟨L, hL⟩ : ∃ L, l ++ varZ ac ++ showZ (av - a) ++ varZ (m : Int) = L := ⟨_, rfl⟩
  have hLl : L.length ≤ 800021 := by rw [← hL]; simp only [List.length_append]; omega
  have HLT : Hid (l ++ ansT a ⟨ac, av, zs⟩ = L ++ freedT a zs) := by show _ = _; rw [HT.out, ← hL]; simp only [List.append_assoc]
  rw [hL] at W3
  have HW3 : Hid (WS n b P sv ev L Y3) := W3
  have HK3 : Hid (Kb n b X1 Y3) := K3
  clear hL W3 K3 HT z1 z2 z3
  go_wp2
  clear c0 c1 c2
  go_loopw [2, 25] (fun h i wr => ∃ j : Nat, j ≤ m ∧ i = .int .i64 (j : Int) ∧ h = .int .i64 (aheadAt a zs j) ∧ Hid (WS n b P sv ev (L ++ freedT a (zs.take j)) wr) ∧ Hid (Kb n b X1 wr) ∧ Hid (∀ k (h : k < zs.length), k < j → okZ zs[k])) (fun _ i _ => m - (intOf i).toNat)
  case atStart => exact ⟨0, Nat.zero_le _, rfl, rfl, by simp only [List.take_zero, freedT, List.append_nil]; exact HW3, HK3, fun k _ hk => absurd hk (Nat.not_lt_zero _)⟩
  case round =>
    clear HW3 HK3
    obtain ⟨j, hj, rfl, rfl, HW, HK, HZ⟩ := hrel
    by_cases hlt : j < m
    · have hj2 : j < zs.length := by have := Hm.out; omega
      obtain ⟨g, off, rfl, hg, hc⟩ := HF.out _ HK.out j hj2
      have hok : okZ (aheadAt a zs j) := by
        unfold aheadAt
        by_cases h0 : j = 0
        · rw [if_pos h0]; exact HA.out
        · rw [if_neg h0, List.getD_eq_getElem?_getD, List.getElem?_eq_getElem (by omega)]
          exact HZ.out (j - 1) (by omega) (by omega)
      have hft := freedT_take zs a j hj2
      have htl := freedT_length (zs.take j) a
      rw [List.length_take] at htl
      have hzj := hz _ (List.getElem_mem hj2)
      have CJ := CN.out zs[j] (aheadAt a zs j) _ wr (decide (okZ zs[j])) HW.out (by rw [List.length_append]; omega) ⟨⟨by omega, by omega⟩, fun _ => hok⟩ decide_eq_true_iff
      have HNX : Hid (L ++ freedT a (zs.take (j + 1)) = L ++ freedT a (zs.take j) ++ showZ (zs[j] - aheadAt a zs j)) := by show _ = _; rw [hft, List.append_assoc]; rfl
      have HAH : Hid (aheadAt a zs (j + 1) = zs[j]) := by
        show _ = _
        unfold aheadAt
        rw [if_neg (by omega), Nat.add_sub_cancel, List.getD_eq_getElem?_getD, List.getElem?_eq_getElem hj2]; rfl
      rw [← HNX.out] at CJ
      have HCJ : Hid _ := CJ
      have HZJ : Hid (∀ h : okZ zs[j], ∀ k (h : k < zs.length), k < j + 1 → okZ zs[k]) := fun h k hk hk2 => by
        rcases Nat.lt_or_ge k j with h3 | h3
        · exact HZ.out k hk h3
        · obtain rfl : k = j := by omega
          exact h
      have HNO : Hid (¬ okZ zs[j] → q = false) := fun hn => q_no HSP.out (fun hh => hn (hh.2.2.2 _ (List.getElem_mem hj2)))
      have i1 : (j : Int) < (m : Int) := by omega
      have i0 : (0 : Int) ≤ (j : Int) := by omega
      clear hft htl hok CJ HNX hzj HZ
      generalize aheadAt a zs j = h0 at *
      generalize zs[j] = z at *
      go_wp2_with fail
      refine (Calls.mono HCJ.out ?_)
      rintro e Y4 ⟨hy, hn, kk⟩
      by_cases k4 : Hid (okZ z)
      case neg =>
        obtain ⟨rfl, l2, H2⟩ := hn (decide_eq_false (p := okZ z) k4)
        have hq0 := HNO.out k4
        subst hq0
        have HF2 : Hid (PostW n b P sv ev (l ++ ansT a ⟨ac, av, zs⟩) false X _ Y4) := postW_no H2 (K0.trans (HK.out.trans kk))
        clear hn hy H2 hc
        go_wp2
        exact ⟨rfl, HF2.out⟩
      obtain ⟨rfl, W4⟩ := hy (decide_eq_true (p := okZ z) k4)
      have HW4 : Hid _ := W4
      have HK4 : Hid (Kb n b X1 Y4) := HK.out.trans kk
      clear hy hn hc W4 kk HCJ HW HK
      go_wp2
      go_roundw
      case rel => exact ⟨j + 1, by omega, by go_num, by rw [HAH.out], HW4, HK4, HZJ.out k4⟩
      case measure => simp [intOf]; omega
    · obtain rfl : j = m := by omega
      have hq1 : q = true := HSP.out.2 ⟨k1, k2, by have := Hm.out; simp only; omega, fun z hz2 => by
        obtain ⟨k, hk, rfl⟩ := List.mem_iff_getElem.1 hz2
        exact HZ.out k hk (by have := Hm.out; have h2 : k < zs.length := hk; omega)⟩
      subst hq1
      have HF2 : Hid (PostW n b P sv ev (l ++ ansT a ⟨ac, av, zs⟩) true X (.returned (.tuple #[])) wr) := by
        rw [HLT.out]
        refine postW_yes ?_ (K0.trans HK.out)
        have hw := HW.out
        rw [List.take_of_length_le (by have := Hm.out; omega)] at hw
        exact hw
      clear HW HK HZ
      go_wp2
      go_end0
      exact HF2.out

end Go.Proofs.YtcjpepdagnifiaaDoor

namespace Go.Proofs.YtcjpepdagnifiaaDoor
open Go.RowKit
set_option linter.unusedVariables false
set_option maxRecDepth 100000

/-- As Kb, but the names' row (vo) may be another. -/
structure Ke (n b : Nat) (vo : Option Nat) (X Y : World) : Prop where
  os : Y.os = X.os
  tape : Y.tape = X.tape
  output : Y.output = X.output
  size : X.heap.size ≤ Y.heap.size
  block : ∀ g, g ≠ b → vo ≠ some g → (g < n ∨ NotB X g) → Y.heap[g]? = X.heap[g]?
theorem Ke.of {n b : Nat} {vo : Option Nat} {X Y : World} (h : Kb n b X Y) : Ke n b vo X Y := ⟨h.os, h.tape, h.output, h.size, fun g h1 _ h3 => h.block g h1 h3⟩
theorem Ke.move {n b : Nat} {vo : Option Nat} {X Y Z : World} (h : Kb n b X Y) (k : Mv b vo Y Z) (hn : n ≤ X.heap.size) : Ke n b vo X Z := by
  refine ⟨k.os.trans h.os, k.tape.trans h.tape, k.output.trans h.output, Nat.le_trans h.size k.size, fun g h1 h2 h3 => ?_⟩
  have e := h.block g h1 h3
  refine (k.block g ?_ h1 h2).trans e
  have := h.size
  rcases h3 with h3 | h3
  · omega
  · have := h3.lt; omega

theorem opLoadOpv {t i : Tmp} {ty : TypeId} {pos : String} {af : Array Edge} {a : Act} {X : World} {K : Act → World → Prop} {Q : Exit → Act → World → Prop} {g : Nat} {o : OpD} (h1 : a.eval (.tmp i) = .pointer (some ⟨g, 0, none⟩)) (hc : OpAt g o X) (hK : K (a.put (some t) (opV o)) X) :
    Oper.wp Tryd.prog ⟨some t, .load 27 (.tmp i), ty, pos, af, none⟩ a X K Q := by
  have h := ev_tmp h1
  obtain ⟨c0, c1, c2, c3, c4⟩ := hc.cells
  unfold opV at hK
  clear hc
  go_simp; exact hK
theorem opCallMove {t i j : Tmp} {ty : TypeId} {pos : String} {af : Array Edge} {ats : Array TypeId} {a : Act} {X : World} {K : Act → World → Prop} {Q : Exit → Act → World → Prop} {u v : Value} {post : Ending → World → Prop} (h1 : a.eval (.tmp i) = u) (h2 : a.eval (.tmp j) = v) (hC : Calls Tryd.prog 62 #[u, v] X post) (hK : ∀ e w', post e w' → ∃ x, e = .returned x ∧ K (a.put (some t) x) w') :
    Oper.wp Tryd.prog ⟨some t, .call { callee := .value (.func 62), args := #[.tmp i, .tmp j], argTypes := ats }, ty, pos, af, none⟩ a X K Q := by
  have e1 := ev_tmp h1
  have e2 := ev_tmp h2
  go_simp
  refine hC.mono (fun e w' hp => ?_)
  obtain ⟨x, rfl, hx⟩ := hK e w' hp
  exact hx

/-- What the whole event leaves. -/
def PostE (n b B : Nat) (P : PenD) (sv ev : Value) (o : OpD) (A : AnsD) (q : Bool) (X : World) (e : Ending) (Y : World) : Prop :=
  (q = true → e = .returned (.tuple #[]) ∧ ∃ x c, Wr n b o.a (.slice x (penB P o).sites.length c) (evT P o A) Y ∧ ownS Y B (.slice x (penB P o).sites.length c) (penB P o).sites) ∧
  (q = false → e = .panicked (pan ev) ∧ (∃ l2, WS n b P sv ev l2 Y) ∧ ownS Y B sv P.sites) ∧ Ke n b sv.ownBlock X Y

set_option maxHeartbeats 4000000 in
theorem wEvent_calls (n b B : Nat) (P : PenD) (sa : Option Addr) (sc : Nat) (ev : Value) (o : OpD) (A : AnsD) (fa : Option Addr) (fc : Nat) (X : World) (h : WS n b P (.slice sa P.sites.length sc) ev [] X) (hO : ownS X B (.slice sa P.sites.length sc) P.sites) (hBX : B ≤ n) (hBb : B ≤ b) (hs : SmallP P) (hx0 : o.site.length ≤ 1048576) (hso : SaneOp o) (hF : RdI X fa A.freed) (hFar : A.freed ≠ [] → Far n b X fa) (hnf : A.freed.length ≤ 1048576) (hz : ∀ z ∈ A.freed, in64 z) (q : Bool) (hq : q = true ↔ EvR P o A) :
    Calls Tryd.prog 69 #[.pointer (some ⟨b, 0, none⟩), opV o, .agg #[.int .i64 A.code, .int .i64 A.val, .slice fa A.freed.length fc]] X fun e Y => PostE n b B P (.slice sa P.sites.length sc) ev o A q X e Y := by
  have hbX := h.wr.pen.2.2
  obtain ⟨X0, hX0⟩ : ∃ X0, X0 = X.alloc (.cells #[.int .i64 o.kind, .int .i64 o.a, .int .i64 o.b, .int .i64 o.c, .string (txt o.site)] 27) := ⟨_, rfl⟩
  obtain ⟨X1, hX1⟩ : ∃ X1, X1 = X0.alloc (.cells #[.int .i64 A.code, .int .i64 A.val, .slice fa A.freed.length fc] 30) := ⟨_, rfl⟩
  have b0 : Below X.heap.size X X0 := by rw [hX0]; exact (Below.refl _ _).alloc (Nat.le_refl _) _
  have b1 : Below X0.heap.size X0 X1 := by rw [hX1]; exact (Below.refl _ _).alloc (Nat.le_refl _) _
  have s0 : X0.heap.size = X.heap.size + 1 := by rw [hX0]; simp
  have s1 : X1.heap.size = X.heap.size + 1 + 1 := by rw [hX1]; simp [s0]
  have B1 : Below X.heap.size X X1 := b0.trans (b1.mono (by omega))
  have W0 : WS n b P (.slice sa P.sites.length sc) ev [] X1 := h.later B1
  have K0 : Kb n b X X1 := Kb.of B1 h.cx.2.2
  have hnX : n ≤ X.heap.size := h.cx.2.2
  have hop : OpAt X.heap.size o X1 := by
    intro k
    rw [b1.cell (p := ⟨X.heap.size, k, none⟩) (by show X.heap.size < _; omega), hX0, World.cell?_alloc_mark]
  have hsafe : Safe n b X1 X.heap.size := ⟨by omega, .inr ⟨.cells #[.int .i64 o.kind, .int .i64 o.a, .int .i64 o.b, .int .i64 o.c, .string (txt o.site)] 27 (0, 0), by rw [b1.block X.heap.size (by omega), hX0]; exact heap_alloc_new X _, fun c2 fr e => by cases e⟩⟩
  have HO : Hid (∀ Y, Kb n b X1 Y → OpAt X.heap.size o Y) := fun Y hY => hop.kb hsafe hY
  have hasafe : Safe n b X1 (X.heap.size + 1) := by
    have h2 := Safe.new (n := n) (b := b) X0 #[.int .i64 A.code, .int .i64 A.val, .slice fa A.freed.length fc] 30 (by decide) (by omega)
    rw [← hX1, s0] at h2
    exact h2
  have HAN : Hid (∀ Y, Kb n b X1 Y → Y.cell? ⟨X.heap.size + 1, 0, none⟩ = some (.int .i64 A.code) ∧ Y.cell? ⟨X.heap.size + 1, 1, none⟩ = some (.int .i64 A.val) ∧ Y.cell? ⟨X.heap.size + 1, 2, none⟩ = some (.slice fa A.freed.length fc)) := fun Y hY => by
    have e : ∀ k, Y.cell? ⟨X.heap.size + 1, k, none⟩ = (#[.int .i64 A.code, .int .i64 A.val, .slice fa A.freed.length fc] : Array Value)[k]? := fun k => by
      rw [Safe.cell (p := ⟨X.heap.size + 1, k, none⟩) hasafe hY, hX1, ← s0, World.cell?_alloc_mark]
    exact ⟨e 0, e 1, e 2⟩
  have HFI : Hid (∀ Y, Kb n b X1 Y → RdI Y fa A.freed ∧ (A.freed ≠ [] → Far n b Y fa)) := fun Y hY => ⟨rdI_kb hF hFar (K0.trans hY), fun he => (hFar he).kb (K0.trans hY)⟩
  have HOW : Hid (∀ Y, Kb n b X1 Y → ownS Y B (.slice sa P.sites.length sc) P.sites) := fun Y hY => by
    obtain ⟨sa2, sc2, e2, -, -, hfar⟩ := h.names
    simp only [Value.slice.injEq] at e2
    obtain ⟨rfl, -, rfl⟩ := e2
    refine row_same hO (fun g hg => ?_)
    obtain ⟨x, hx, e3⟩ := own_some hg
    have h4 := hfar x hx
    rw [e3] at h4
    exact h4.same (K0.trans hY)
  have HSP : Hid (q = true ↔ EvR P o A) := hq
  obtain ⟨qr, hqr⟩ := bool_of (PenR P)
  obtain ⟨qo, hqo⟩ := bool_of (SpeakO o)
  obtain ⟨qa, hqa⟩ := bool_of (SpeakA A)
  have HQO : Hid (qo = true ↔ SpeakO o) := hqo
  have HQA : Hid (qa = true ↔ SpeakA A) := hqa
  have CR : Hid (∀ _ : Unit, _) := fun (_ : Unit) => right_calls b P _ X1 W0.pen hs qr hqr
  have CMY : Hid (∀ _ : Unit, _) := fun (_ : Unit) => must_yes X1
  have CMN : Hid (∀ _ : Unit, _) := fun (_ : Unit) => must_no X1 ev W0.cx.1
  have HNO : Hid (∀ l2 Y, WS n b P (.slice sa P.sites.length sc) ev l2 Y → Kb n b X1 Y → PostE n b B P (.slice sa P.sites.length sc) ev o A false X (.panicked (pan ev)) Y) := fun l2 Y h1 h2 =>
    ⟨fun h => (nomatch h), fun _ => ⟨rfl, ⟨l2, h1⟩, HOW.out Y h2⟩, Ke.of (K0.trans h2)⟩
  by_cases hpr : Hid (PenR P)
  case neg =>
    have hq0 := q_no HSP.out (fun hh => hpr hh.2.2)
    have hqr0 := q_no hqr hpr
    subst hq0 hqr0
    have HF : Hid (PostE n b B P (.slice sa P.sites.length sc) ev o A false X (.panicked (pan ev)) X1) := HNO.out _ _ W0 (Kb.refl _ _ _)
    clear hop hsafe hasafe h hO hq hqr hqo hqa W0 K0 B1 b0 b1 HO HAN HFI HOW HNO HSP CMY hF hFar hz
    unfold opV
    go_enter Tryd.func69, Tryd.ntmps69
    go_wp2_with fail
    rw [← hX0, ← hX1]
    clear hX0 hX1
    refine (CR.out ()).mono ?_
    rintro e w1 ⟨rfl, hw⟩
    subst hw
    go_wp2_with fail
    refine (CMN.out ()).mono ?_
    rintro e w1 ⟨rfl, hw⟩
    subst hw
    go_wp2
    exact ⟨rfl, HF.out⟩
  have hqr1 : qr = true := hqr.2 hpr
  subst hqr1
  have CO : Hid (∀ _ : Unit, _) := fun (_ : Unit) => wOp_calls n b P _ ev [] o X1 W0 (by simp) hs hpr.out.1 hx0 hso qo hqo
  rw [List.nil_append] at CO
  have CA : Hid (∀ (l2 : List UInt8) (Y : World), WS n b P (.slice sa P.sites.length sc) ev l2 Y → l2.length ≤ 800000 → Kb n b X1 Y → okZ o.a → _) := fun l2 Y h1 h2 h3 h4 => wAns_calls n b P _ ev l2 o.a A fa fc Y h1 h2 h4 (HFI.out Y h3).1 (HFI.out Y h3).2 hnf hz qa hqa
  have CM : Hid (∀ (T : TypeId) (tl : List Value) (Y : World), T ≠ 9 → Box Y b T (.int .i64 P.last) (.slice sa P.sites.length sc) tl → Kb n b X1 Y → _) := fun T tl Y h1 h2 h3 => moveOn_calls b T h1 tl P sa sc o B Y h2 (HOW.out Y h3) hs hx0 (by have := h3.size; omega) hBb
  have HOL := opT_length P.last P.sites o
  have HEV : Hid (evT P o A = opT P.last P.sites o ++ ansT o.a A) := rfl
  have hsz := h.wr.pen.2.2
  have hX1n : n ≤ X1.heap.size := by omega
  obtain ⟨c0, c1, c2, c3, c4⟩ := hop.cells
  obtain ⟨d0, d1, d2⟩ := HAN.out _ (Kb.refl _ _ _)
  have HKE : Hid (∀ Y Z, Kb n b X1 Y → Mv b (Value.slice sa P.sites.length sc).ownBlock Y Z → Ke n b (Value.slice sa P.sites.length sc).ownBlock X Z) := fun Y Z h1 h2 => Ke.move (K0.trans h1) h2 hnX
  clear hop hsafe hasafe h hO hq hqr hqa W0 K0 B1 b0 b1 HFI hF hFar hz CMN
  have HOZ : Hid (∀ Y, Kb n b X1 Y → ownS Y B (.slice sa P.sites.length sc) P.sites) := HOW.out
  clear HOW
  obtain ⟨ok, oa, ob, oc, os⟩ := o
  obtain ⟨ac, av, zs⟩ := A
  simp only at *
  unfold opV at CO CM ⊢
  simp only at CO CM ⊢
  go_enter Tryd.func69, Tryd.ntmps69
  go_wp2_with fail
  rw [← hX0, ← hX1]
  clear hX0 hX1
  refine (CR.out ()).mono ?_
  rintro e w1 ⟨rfl, hw⟩
  subst hw
  go_wp2_with fail
  refine (CMY.out ()).mono ?_
  rintro e w2 ⟨rfl, hw⟩
  subst hw
  go_wp2_with fail
  refine (CO.out ()).mono ?_
  rintro e Y1 ⟨hy, hn, kk⟩
  by_cases k1 : Hid (SpeakO ⟨ok, oa, ob, oc, os⟩)
  case neg =>
    have hqo0 := q_no HQO.out k1
    obtain ⟨rfl, l2, H2⟩ := hn hqo0
    have hq0 := q_no HSP.out (fun hh => k1 hh.1)
    subst hq0
    have HF : Hid (PostE n b B P (.slice sa P.sites.length sc) ev ⟨ok, oa, ob, oc, os⟩ ⟨ac, av, zs⟩ false X (.panicked (pan ev)) Y1) := HNO.out _ _ H2 kk
    clear hn hy H2 c0 c1 c2 c3 c4 d0 d1 d2 HO HAN HNO HSP CO CA CM HKE HEV HQO HQA
    go_wp2
    exact ⟨rfl, HF.out⟩
  obtain ⟨rfl, W1⟩ := hy (HQO.out.2 k1)
  clear hy hn c0 c1 c2 c3 c4 d0 d1 d2 CO CR CMY HQO
  obtain ⟨c0, c1, c2, c3, c4⟩ := (HO.out _ kk).cells
  obtain ⟨d0, d1, d2⟩ := HAN.out _ kk
  simp only at c0 c1 c2 c3 c4
  have C2 := CA.out _ Y1 W1 (by omega) kk k1.out.2.1
  have HC2 : Hid _ := C2
  have K1 := kk
  clear C2 CA W1 kk
  go_wp2_with fail
  refine (Calls.mono HC2.out ?_)
  rintro e Y2 ⟨hy, hn, kk⟩
  by_cases k2 : Hid (SpeakA ⟨ac, av, zs⟩)
  case neg =>
    have hqa0 := q_no HQA.out k2
    obtain ⟨rfl, l2, H2⟩ := hn hqa0
    have hq0 := q_no HSP.out (fun hh => k2 hh.2.1)
    subst hq0
    have HF : Hid (PostE n b B P (.slice sa P.sites.length sc) ev ⟨ok, oa, ob, oc, os⟩ ⟨ac, av, zs⟩ false X (.panicked (pan ev)) Y2) := HNO.out _ _ H2 (K1.trans kk)
    clear hn hy H2 c0 c1 c2 c3 c4 d0 d1 d2 HO HAN HNO HSP CM HKE HEV HQA
    go_wp2
    exact ⟨rfl, HF.out⟩
  obtain ⟨rfl, W2⟩ := hy (HQA.out.2 k2)
  have K2 := K1.trans kk
  have hq1 : q = true := HSP.out.2 ⟨k1.out, k2.out, hpr.out⟩
  clear hy hn c0 c1 c2 c3 c4 d0 d1 d2 HQA HNO HSP HC2 HAN K1 kk
  subst hq1
  rw [← HEV.out] at W2
  have HOY : Hid (∀ Y, Below Y2.heap.size Y2 Y → OpAt X.heap.size ⟨ok, oa, ob, oc, os⟩ Y ∧ WS n b P (.slice sa P.sites.length sc) ev (evT P ⟨ok, oa, ob, oc, os⟩ ⟨ac, av, zs⟩) Y ∧ Kb n b w2 Y) := fun Y hY => by
    have hk := K2.trans (Kb.of hY W2.cx.2.2)
    exact ⟨HO.out Y hk, W2.later hY, hk⟩
  clear HO W2 K2 HEV
  go_wp2
  refine wp_region_last 4 (by kernel_rfl) (by kernel_rfl) (RP 1000 noP [.pointer (some ⟨b, 0, none⟩), .pointer (some ⟨b, 0, none⟩), .pointer (some ⟨b, 0, none⟩), opV ⟨ok, oa, ob, oc, os⟩]) (rp_mono noP_mono) ?_ ?_
  · intro i o hi ho a Y hY hA hdep
    match i, hi, ho with
    | 0, _, ho =>
      obtain rfl := Option.some.inj ho
      exact opMove (alike_at hA (t := 0) (by kernel_rfl)) ⟨_, rfl, Below.refl _ _, rp_put (by decide) rfl⟩
    | 1, _, ho =>
      obtain rfl := Option.some.inj ho
      have g0_ : a.eval (.tmp 19) = .pointer (some ⟨b, 0, none⟩) := rp_at (hdep ⟨0, .data⟩ (by simp) rfl 19 rfl) (by decide) rfl
      exact opNil g0_ ⟨_, rfl, Below.refl _ _, rp_put (by decide) rfl⟩
    | 2, _, ho =>
      obtain rfl := Option.some.inj ho
      have g0_ : a.eval (.tmp 20) = .pointer (some ⟨b, 0, none⟩) := rp_at (hdep ⟨1, .data⟩ (by simp) rfl 20 rfl) (by decide) rfl
      exact opFieldWr0 g0_ ⟨_, rfl, Below.refl _ _, rp_put (by decide) rfl⟩
    | 3, _, ho =>
      obtain rfl := Option.some.inj ho
      exact opLoadOpv (alike_at hA (t := 4) (by kernel_rfl)) (HOY.out Y hY).1 ⟨_, rfl, Below.refl _ _, rp_put (by decide) rfl⟩
  · intro o ho a Y hY hA hdep
    obtain rfl := Option.some.inj ho
    have g0_ : a.eval (.tmp 21) = .pointer (some ⟨b, 0, none⟩) := rp_at (hdep ⟨2, .data⟩ (by simp) rfl 21 rfl) (by decide) rfl
    have g1_ : a.eval (.tmp 22) = opV ⟨ok, oa, ob, oc, os⟩ := rp_at (hdep ⟨3, .data⟩ (by simp) rfl 22 rfl) (by decide) rfl
    obtain ⟨-, y2, y3⟩ := HOY.out Y hY
    obtain ⟨p, v, hbk, hp, hown⟩ := y2.wr
    have hbox : Box Y b 100 (.int .i64 P.last) (.slice sa P.sites.length sc) [p, v] := hbk
    refine opCallMove g0_ g1_ (CM.out 100 [p, v] Y (by decide) hbox y3) ?_
    rintro e Z ⟨rfl, x, c, hbz, hoz, hmv⟩
    refine ⟨_, rfl, ?_⟩
    obtain ⟨us, hus, rfl⟩ := alike_tmps hA [19, 20, 21, 22, 23] (by kernel_rfl)
    have hrow : Z.ownsRow n 5 1 v (evT P ⟨ok, oa, ob, oc, os⟩ ⟨ac, av, zs⟩).length (Lib.byteCells (evT P ⟨ok, oa, ob, oc, os⟩ ⟨ac, av, zs⟩)) := by
      refine row_same hown (fun g hg => ?_)
      obtain ⟨cur, hk⟩ := row_kind hown g hg
      refine hmv.block g (hown.lt g hg).2 (fun e => ?_) (fun e => ?_)
      · rw [e, hbk] at hk
        simp only [Option.some.injEq, Obj.cells.injEq] at hk
        exact absurd hk.2.1 (by decide)
      · obtain ⟨sa2, sc2, e2, -, -, hfar⟩ := y2.names
        simp only [Value.slice.injEq] at e2
        obtain ⟨rfl, -, rfl⟩ := e2
        obtain ⟨x2, hx2, e3⟩ := own_some e
        obtain ⟨cur2, hk2⟩ := row_kind (HOZ.out Y y3) g e
        rw [hk] at hk2
        simp only [Option.some.injEq, Obj.cells.injEq] at hk2
        exact absurd hk2.2.1 (by decide)
    have HF : Hid (PostE n b B P (.slice sa P.sites.length sc) ev ⟨ok, oa, ob, oc, os⟩ ⟨ac, av, zs⟩ true X (.returned (.tuple #[])) Z) :=
      ⟨fun _ => ⟨rfl, x, c, ⟨p, v, hbz, hp, hrow⟩, hoz⟩, fun h => (nomatch h), HKE.out Y Z y3 hmv⟩
    clear hA hus hdep ho g0_ g1_ y2 y3 hbk hp hown hbox hbz hoz hmv hrow HOY HKE CM
    simp only [List.mapIdx_cons, List.mapIdx_nil, Nat.reduceAdd, List.contains_cons, List.contains_nil, Nat.reduceBEq, Bool.or_false, Bool.or_true, if_true, if_false, Bool.false_eq_true]
    go_end0
    exact HF.out

end Go.Proofs.YtcjpepdagnifiaaDoor

namespace Go.Proofs.YtcjpepdagnifiaaDoor
open Go.RowKit
set_option linter.unusedVariables false
set_option maxRecDepth 100000

theorem cellsByte : Tryd.prog.cellsOf 5 = 1 := by kernel_rfl

set_option maxHeartbeats 1000000 in
theorem wstring_calls (n b : Nat) (last : Int) (sv : Value) (l : List UInt8) (w : World) (h : Wr n b last sv l w) (h0 : l ≠ []) :
    Calls Tryd.prog 70 #[.pointer (some ⟨b, 2, none⟩)] w fun e w' => e = .returned (.string (txt l)) ∧ Kb n b w w' ∧ w'.heap[b]? = w.heap[b]? := by
  obtain ⟨p, v, hbk, hp, hown⟩ := h
  have hl0 : l.length ≠ 0 := by simpa using h0
  have hne := Lib.ownBlock_ne hown hbk (by decide)
  obtain ⟨g, cap, cur, rfl, hbg, hg, hnc, hcm, hcs, htake⟩ : ∃ g cap cur, v = .slice (some ⟨g, 0, none⟩) l.length cap ∧ n ≤ g ∧ w.heap[g]? = some (.cells cur 5 (0, 0)) ∧ l.length ≤ cap ∧ cap ≤ maxLen ∧ cur.size = cap * 1 ∧ cur.toList.take (l.length * 1) = Lib.byteCells l := by
    rcases hown.2 with ⟨_, hz⟩ | ⟨g, cap, cur, hv, r⟩
    · exact absurd hz hl0
    · exact ⟨g, cap, cur, hv, r⟩
  have c1 : w.drew.cell? ⟨b, 3, none⟩ = some (.slice (some ⟨g, 0, none⟩) l.length cap) := by
    have : w.drew.heap[b]? = some (.cells #[.int .i64 last, sv, p, .slice (some ⟨g, 0, none⟩) l.length cap] 100 (0, 0)) := hbk
    rw [Lib.cell_of_heap this]; rfl
  have hSD : (Builtin.unsafeSliceData_ #[96] 115 #[.slice (some ⟨g, 0, none⟩) l.length cap]).run Tryd.prog w.drew = .ok (.pointer (some ⟨g, 0, none⟩)) w.drew :=
    Lib.run_unsafeSliceData_row _ _ _ _ _ _ (by omega)
  have hUS : (Builtin.unsafeString_ #[115, 3] 9 #[.pointer (some ⟨g, 0, none⟩), .int .i64 l.length]).run Tryd.prog w.drew = .ok (.string ⟨l.toArray⟩) (w.drew.freeze ⟨g, 0, none⟩ l.length) := by
    refine Lib.run_unsafeString_row w.drew 115 3 9 5 Tryd.underlying115 cellsByte g cur.size (by have hg' : w.drew.heap[g]? = some (.cells cur 5 (0, 0)) := hg; simp [World.shape?, hg']) l h0 (by omega) (by unfold maxLen at hcm; omega) ?_
    intro j x hx
    have := hown.cells (g := g) rfl j (.int .u8 x.toNat) (by simp [Lib.byteCells, hx])
    exact this
  have HK : Hid (Kb n b w (w.drew.freeze ⟨g, 0, none⟩ l.length) ∧ (w.drew.freeze ⟨g, 0, none⟩ l.length).heap[b]? = w.heap[b]?) := by
    have hgb : g ≠ b := fun e => hne (by rw [e]; rfl)
    have e : ∀ k, k ≠ g → (w.drew.freeze ⟨g, 0, none⟩ l.length).heap[k]? = w.heap[k]? := fun k hk => by
      unfold World.freeze
      split
      · rfl
      · simp only [Array.getElem?_modify]
        rw [if_neg (fun e => hk e.symm)]
        rfl
    have hb0 := Lib.below_freeze (B := n) (Below.drew (Below.refl n w)) (p := ⟨g, 0, none⟩) hbg l.length
    refine ⟨⟨hb0.os, hb0.tape, hb0.output, hb0.size, fun k hk1 hk2 => e k (fun ek => ?_)⟩, e b (fun e => hgb e.symm)⟩
    rcases hk2 with hk2 | ⟨o, h1, h2⟩
    · omega
    · rw [ek, hg] at h1
      exact h2 _ _ (Option.some.inj h1).symm
  have c1' : (w.drew.freeze ⟨g, 0, none⟩ l.length).cell? ⟨b, 3, none⟩ = some (.slice (some ⟨g, 0, none⟩) l.length cap) := (World.cell?_of_block (a := ⟨b, 3, none⟩) HK.out.2).trans c1
  have mixed : Tryd.prog.follows .mixedOrders = true := by kernel_rfl
  clear hown hbk htake hcs hg hp hne
  go_enter Tryd.func70, Tryd.ntmps70
  go_wp2
  go_region_held (fun Y => Y.cell? ⟨b, 3, none⟩ = some (.slice (some ⟨g, 0, none⟩) l.length cap)) (first | exact c1 | exact c1') (fail)
  all_goals (go_wp2; go_ret; exact ⟨rfl, HK.out⟩)

end Go.Proofs.YtcjpepdagnifiaaDoor

namespace Go.Proofs.YtcjpepdagnifiaaDoor
open Go.RowKit
set_option linter.unusedVariables false
set_option maxRecDepth 100000

theorem shw1_calls (n b B go ga : Nat) (P : PenD) (sa : Option Addr) (sc : Nat) (ev : Value) (o : OpD) (A : AnsD) (fa : Option Addr) (fc : Nat) (X : World) (h : WS n b P (.slice sa P.sites.length sc) ev [] X) (hO : ownS X B (.slice sa P.sites.length sc) P.sites) (hBX : B ≤ n) (hBb : B ≤ b) (hs : SmallP P) (hx0 : o.site.length ≤ 1048576) (hso : SaneOp o) (hF : RdI X fa A.freed) (hFar : A.freed ≠ [] → Far n b X fa) (hnf : A.freed.length ≤ 1048576) (hz : ∀ z ∈ A.freed, in64 z) (q : Bool) (hq : q = true ↔ EvR P o A)
    (hop : OpAt go o X) (han : X.cell? ⟨ga, 0, none⟩ = some (.int .i64 A.code) ∧ X.cell? ⟨ga, 1, none⟩ = some (.int .i64 A.val) ∧ X.cell? ⟨ga, 2, none⟩ = some (.slice fa A.freed.length fc)) :
    Calls Tryd.prog 68 #[.pointer (some ⟨b, 0, none⟩), .pointer (some ⟨go, 0, none⟩), .pointer (some ⟨ga, 0, none⟩)] X fun e Y => PostE n b B P (.slice sa P.sites.length sc) ev o A q X e Y := by
  have C : Hid (∀ _ : Unit, _) := fun (_ : Unit) => wEvent_calls n b B P sa sc ev o A fa fc X h hO hBX hBb hs hx0 hso hF hFar hnf hz q hq
  obtain ⟨c0, c1, c2, c3, c4⟩ := hop.cells
  obtain ⟨d0, d1, d2⟩ := han
  clear h hO hop hs hso hF hFar hz hq
  obtain ⟨ok, oa, ob, oc, os⟩ := o
  obtain ⟨ac, av, zs⟩ := A
  simp only at *
  unfold opV at C
  simp only at C
  go_enter Tryd.func68, Tryd.ntmps68
  go_wp2_with fail
  refine (C.out ()).mono ?_
  rintro e Y hp
  cases q with
  | true =>
    obtain ⟨rfl, -⟩ := hp.1 rfl
    have HF : Hid (PostE n b B P (.slice sa P.sites.length sc) ev ⟨ok, oa, ob, oc, os⟩ ⟨ac, av, zs⟩ true X (.returned (.tuple #[])) Y) := hp
    clear hp
    go_wp2
    go_end0
    exact HF.out
  | false =>
    obtain ⟨rfl, -⟩ := hp.2.1 rfl
    have HF : Hid (PostE n b B P (.slice sa P.sites.length sc) ev ⟨ok, oa, ob, oc, os⟩ ⟨ac, av, zs⟩ false X (.panicked (pan ev)) Y) := hp
    clear hp
    go_wp2
    exact ⟨rfl, HF.out⟩

/-- What ShowEvent lays ahead of all. -/
theorem show_entry (w : World) (l : Int) (sv : Value) (o : OpD) (c v : Int) (fv : Value) (W : World) (hW : W = (((w.alloc (.cells #[.int .i64 l, sv] 31)).alloc (.cells #[.int .i64 o.kind, .int .i64 o.a, .int .i64 o.b, .int .i64 o.c, .string (txt o.site)] 27)).alloc (.cells #[.int .i64 c, .int .i64 v, fv] 30)).alloc (.cells #[.int .i64 0, .slice none 0 0] 31)) :
    Below w.heap.size w W ∧ W.heap.size = w.heap.size + 1 + 1 + 1 + 1 ∧ OpAt (w.heap.size + 1) o W ∧ (W.cell? ⟨w.heap.size + 1 + 1, 0, none⟩ = some (.int .i64 c) ∧ W.cell? ⟨w.heap.size + 1 + 1, 1, none⟩ = some (.int .i64 v) ∧ W.cell? ⟨w.heap.size + 1 + 1, 2, none⟩ = some fv) ∧ Two W (w.heap.size + 1 + 1 + 1) (.int .i64 0) (.slice none 0 0) := by
  obtain ⟨x1, h1⟩ : ∃ x1, x1 = w.alloc (.cells #[.int .i64 l, sv] 31) := ⟨_, rfl⟩
  obtain ⟨x2, h2⟩ : ∃ x2, x2 = x1.alloc (.cells #[.int .i64 o.kind, .int .i64 o.a, .int .i64 o.b, .int .i64 o.c, .string (txt o.site)] 27) := ⟨_, rfl⟩
  obtain ⟨x3, h3⟩ : ∃ x3, x3 = x2.alloc (.cells #[.int .i64 c, .int .i64 v, fv] 30) := ⟨_, rfl⟩
  rw [← h1, ← h2, ← h3] at hW
  have s1 : x1.heap.size = w.heap.size + 1 := by rw [h1]; simp
  have s2 : x2.heap.size = w.heap.size + 1 + 1 := by rw [h2]; simp [s1]
  have s3 : x3.heap.size = w.heap.size + 1 + 1 + 1 := by rw [h3]; simp [s2]
  have s4 : W.heap.size = w.heap.size + 1 + 1 + 1 + 1 := by rw [hW]; simp [s3]
  have b1 : Below w.heap.size w x1 := by rw [h1]; exact (Below.refl _ _).alloc (Nat.le_refl _) _
  have b2 : Below x1.heap.size x1 x2 := by rw [h2]; exact (Below.refl _ _).alloc (Nat.le_refl _) _
  have b3 : Below x2.heap.size x2 x3 := by rw [h3]; exact (Below.refl _ _).alloc (Nat.le_refl _) _
  have b4 : Below x3.heap.size x3 W := by rw [hW]; exact (Below.refl _ _).alloc (Nat.le_refl _) _
  have b34 : Below x2.heap.size x2 W := b3.trans (b4.mono b3.size)
  refine ⟨b1.trans ((b2.trans (b34.mono b2.size)).mono b1.size), s4, fun k => ?_, ?_, ?_⟩
  · rw [b34.cell (p := ⟨w.heap.size + 1, k, none⟩) (by show w.heap.size + 1 < _; omega), h2, ← s1, World.cell?_alloc_mark]
  · have e : ∀ k, W.cell? ⟨w.heap.size + 1 + 1, k, none⟩ = (#[.int .i64 c, .int .i64 v, fv] : Array Value)[k]? := fun k => by
      rw [b4.cell (p := ⟨w.heap.size + 1 + 1, k, none⟩) (by show w.heap.size + 1 + 1 < _; omega), h3, ← s2, World.cell?_alloc_mark]
    exact ⟨e 0, e 1, e 2⟩
  · rw [hW, ← s3]
    exact Two.new _ _ _

/-- One cell of a block is written: another kind of row stays. -/
theorem row_set {X Y : World} {d n : Nat} {B : Nat} {t T : TypeId} {v : Value} {xs : List Value} {cs : Array Value} (h : X.ownsRow B t 1 v n xs) (hd : X.heap[d]? = some (.cells cs T (0, 0))) (hT : T ≠ t) (hY : ∀ g, g ≠ d → Y.heap[g]? = X.heap[g]?) : Y.ownsRow B t 1 v n xs := by
  refine row_same h (fun g hg => hY g (fun e => ?_))
  obtain ⟨cur, hk⟩ := row_kind h g hg
  rw [e, hd] at hk
  simp only [Option.some.injEq, Obj.cells.injEq] at hk
  exact hT hk.2.1

set_option maxHeartbeats 4000000 in
theorem iShowEvent_calls (v va : Value) (P : PenD) (o : OpD) (A : AnsD) (w : World) (hP : RdP w v P) (hA : RdA w va A) (hs : SmallP P) (hx0 : o.site.length ≤ 1048576) (hso : SaneOp o) (hnf : A.freed.length ≤ 1048576) (hz : ∀ z ∈ A.freed, in64 z) (ev : Value) (E : EvE w ev) (q : Bool) (hq : q = true ↔ EvR P o A) :
    Calls Tryd.prog 45 #[v, opV o, va] w fun e w' => ∃ u, e = .returned (.tuple #[.string (txt (if q then evT P o A else [])), u]) ∧ OwnP w' w.heap.size u (if q then penB P o else P) ∧ Below w.heap.size w w' := by
  obtain ⟨sa, sc, rfl, rs⟩ := hP
  obtain ⟨fa, fc, rfl, rf⟩ := hA
  obtain ⟨W, hW⟩ : ∃ W, W = (((w.alloc (.cells #[.int .i64 P.last, .slice sa P.sites.length sc] 31)).alloc (.cells #[.int .i64 o.kind, .int .i64 o.a, .int .i64 o.b, .int .i64 o.c, .string (txt o.site)] 27)).alloc (.cells #[.int .i64 A.code, .int .i64 A.val, .slice fa A.freed.length fc] 30)).alloc (.cells #[.int .i64 0, .slice none 0 0] 31) := ⟨_, rfl⟩
  obtain ⟨BW, sW, hop, han, hres⟩ := show_entry w P.last _ o A.code A.val _ W hW
  have CP : Hid (∀ Y, Below w.heap.size w Y → _) := fun Y hY => copyPen_calls _ P Y ⟨sa, sc, rfl, rdS_later rs hY⟩ hs
  have hmf : ∀ (fn : Fn) (first cap : Array Value) (w : World), (Instr.makeFunc fn first cap).run Tryd.prog w = .ok (.func fn first cap) w := fun _ _ _ _ => rfl
  have HALL : Hid (∀ (w1 : World) (x : Option Addr) (c : Nat), Below W.heap.size W w1 → ownS w1 W.heap.size (.slice x P.sites.length c) P.sites → ∀ W2, W2 = w1.alloc (.cells #[.int .i64 P.last, .slice x P.sites.length c, .pointer none, .slice none 0 0] 100) →
      Calls Tryd.prog 31 #[.func (.func 68) #[] #[.pointer (some ⟨w1.heap.size, 0, none⟩), .pointer (some ⟨w.heap.size + 1, 0, none⟩), .pointer (some ⟨w.heap.size + 1 + 1, 0, none⟩)]] W2 fun e Y =>
        e = .returned (.bool q) ∧ Below w.heap.size w Y ∧ Two Y (w.heap.size + 1 + 1 + 1) (.int .i64 0) (.slice none 0 0) ∧ w.heap.size + 1 + 1 + 1 < w1.heap.size ∧
          (q = true → ∃ x2 c2, Wr W.heap.size w1.heap.size o.a (.slice x2 (penB P o).sites.length c2) (evT P o A) Y ∧ ownS Y W.heap.size (.slice x2 (penB P o).sites.length c2) (penB P o).sites) ∧
          (q = false → Y.cell? ⟨w1.heap.size, 0, none⟩ = some (.int .i64 P.last) ∧ Y.cell? ⟨w1.heap.size, 1, none⟩ = some (.slice x P.sites.length c) ∧ ownS Y W.heap.size (.slice x P.sites.length c) P.sites)) := by
    intro w1 x c h1 h2 W2 hW2
    obtain ⟨W3, hW3⟩ : ∃ W3, W3 = W2.alloc (.cells #[.bool false] 4) := ⟨_, rfl⟩
    have hs1 := h1.size
    have b2 : Below w1.heap.size w1 W2 := by rw [hW2]; exact (Below.refl _ _).alloc (Nat.le_refl _) _
    have b3 : Below W2.heap.size W2 W3 := by rw [hW3]; exact (Below.refl _ _).alloc (Nat.le_refl _) _
    have s2 : W2.heap.size = w1.heap.size + 1 := by rw [hW2]; simp
    have s3 : W3.heap.size = w1.heap.size + 1 + 1 := by rw [hW3]; simp [s2]
    have b23 : Below w1.heap.size w1 W3 := b2.trans (b3.mono (by omega))
    have bW3 : Below W.heap.size W W3 := h1.trans (b23.mono hs1)
    have bw3 : Below w.heap.size w W3 := BW.trans (bW3.mono BW.size)
    have hg := evE_lt E
    have hb3 : W3.heap[w1.heap.size]? = some (.cells #[.int .i64 P.last, .slice x P.sites.length c, .pointer none, .slice none 0 0] 100 (0, 0)) := by
      rw [b3.block w1.heap.size (by omega), hW2]
      exact heap_alloc_new w1 _
    have hd3 : W3.heap[w1.heap.size + 1]? = some (.cells #[.bool false] 4 (0, 0)) := by
      rw [hW3, ← s2]
      exact heap_alloc_new W2 _
    have hown3 : ownS W3 W.heap.size (.slice x P.sites.length c) P.sites := ownS_later h2 b23
    obtain ⟨x', c', e', hrd⟩ := rdS_own hown3
    simp only [Value.slice.injEq] at e'
    obtain ⟨rfl, -, rfl⟩ := e'
    have hvlt : ∀ g, (Value.slice x P.sites.length c).ownBlock = some g → W.heap.size ≤ g ∧ g < w1.heap.size := fun g hg => ownS_lt h2 g hg
    have hfar : Far W.heap.size w1.heap.size W3 x := fun y hy => by
      have h3 := hvlt y.block (own_block hy)
      obtain ⟨cur, hk⟩ := row_kind hown3 y.block (own_block hy)
      exact ⟨by omega, .inr ⟨_, hk, fun c2 fr e => by cases e⟩⟩
    have hWS : WS W.heap.size w1.heap.size P (.slice x P.sites.length c) ev [] W3 :=
      ⟨⟨evE_later E bw3, ⟨by omega, .inl (by omega)⟩, by omega⟩, ⟨_, .slice none 0 0, hb3, .inl rfl, ⟨rfl, .inl ⟨rfl, rfl⟩⟩⟩, x, c, rfl, hrd.out, row_cap hown3, hfar⟩
    have hop3 : OpAt (w.heap.size + 1) o W3 := fun k => (bW3.cell (p := ⟨w.heap.size + 1, k, none⟩) (by show w.heap.size + 1 < _; omega)).trans (hop k)
    have han3 : W3.cell? ⟨w.heap.size + 1 + 1, 0, none⟩ = some (.int .i64 A.code) ∧ W3.cell? ⟨w.heap.size + 1 + 1, 1, none⟩ = some (.int .i64 A.val) ∧ W3.cell? ⟨w.heap.size + 1 + 1, 2, none⟩ = some (.slice fa A.freed.length fc) :=
      ⟨(bW3.cell (p := ⟨w.heap.size + 1 + 1, 0, none⟩) (by show w.heap.size + 1 + 1 < _; omega)).trans han.1, (bW3.cell (p := ⟨w.heap.size + 1 + 1, 1, none⟩) (by show w.heap.size + 1 + 1 < _; omega)).trans han.2.1, (bW3.cell (p := ⟨w.heap.size + 1 + 1, 2, none⟩) (by show w.heap.size + 1 + 1 < _; omega)).trans han.2.2⟩
    have hfarI : A.freed ≠ [] → Far W.heap.size w1.heap.size W3 fa := fun hne y hy => by
      obtain ⟨g, off, e, hgl, -⟩ := rf 0 (List.length_pos_iff.2 hne)
      rw [hy] at e
      obtain rfl := Option.some.inj e
      exact ⟨by show g ≠ _; omega, .inl (by show g < _; omega)⟩
    have C1 := shw1_calls W.heap.size w1.heap.size W.heap.size (w.heap.size + 1) (w.heap.size + 1 + 1) P x c ev o A fa fc W3 hWS hown3 (Nat.le_refl _) hs1 hs hx0 hso (rdI_later rf bw3) hfarI hnf hz q hq hop3 han3
    have hKd : ∀ Y, Ke W.heap.size w1.heap.size (Value.slice x P.sites.length c).ownBlock W3 Y → Y.heap[w1.heap.size + 1]? = some (.cells #[.bool false] 4 (0, 0)) := fun Y hY =>
      (hY.block (w1.heap.size + 1) (by omega) (fun e => by have := hvlt _ e; omega) (.inr ⟨_, hd3, fun c2 fr e => by cases e⟩)).trans hd3
    have hcf : ∀ X : World, (callFunc 68 #[.pointer (some ⟨w1.heap.size, 0, none⟩), .pointer (some ⟨w.heap.size + 1, 0, none⟩), .pointer (some ⟨w.heap.size + 1 + 1, 0, none⟩)]).run Tryd.prog X = .ok (.enter 68 #[.pointer (some ⟨w1.heap.size, 0, none⟩), .pointer (some ⟨w.heap.size + 1, 0, none⟩), .pointer (some ⟨w.heap.size + 1 + 1, 0, none⟩)]) X := fun X => by simp [go_sem]
    refine (done_calls 68 _ W2 W3 hW3 ev E.2 (fun q2 Y => q2 = q ∧ ∃ e, PostE W.heap.size w1.heap.size W.heap.size P (.slice x P.sites.length c) ev o A q W3 e Y) hcf ?_ ?_).mono ?_
    · rintro q2 Y ⟨-, e, hp⟩
      have hk := hKd Y hp.2.2
      rw [s2]
      exact ⟨⟨.bool false, by rw [Lib.cell_of_heap hk]; rfl⟩, Lib.frozen_of_heap hk 0⟩
    · refine C1.mono (fun e Y hp => ?_)
      cases q with
      | true => exact .inl ⟨(hp.1 rfl).1, rfl, e, hp⟩
      | false => exact .inr ⟨(hp.2.1 rfl).1, rfl, e, hp⟩
    · rintro e Y ⟨q2, Y0, ⟨rfl, e2, hp⟩, rfl, hY⟩
      have hk := hKd Y0 hp.2.2
      have hoth : ∀ g, g ≠ w1.heap.size + 1 → Y.heap[g]? = Y0.heap[g]? := fun g hg => by
        rw [s2] at hY
        rcases hY with rfl | rfl
        · exact Below.heap_setCell _ _ _ _ (by exact hg)
        · rw [Below.heap_setCell _ _ _ _ (by exact hg), Below.heap_setCell _ _ _ _ (by exact hg)]
      have hio : Y.os = Y0.os ∧ Y.tape = Y0.tape ∧ Y.output = Y0.output ∧ Y.heap.size = Y0.heap.size := by
        rcases hY with rfl | rfl
        · exact ⟨rfl, rfl, rfl, by simp [World.setCell]⟩
        · exact ⟨rfl, rfl, rfl, by simp [World.setCell]⟩
      have hKe := hp.2.2
      have hold : ∀ g, g < W.heap.size → Y.heap[g]? = W3.heap[g]? := fun g hg => (hoth g (by omega)).trans (hKe.block g (by omega) (fun e => by have := hvlt _ e; omega) (.inl hg))
      refine ⟨rfl, ⟨hio.1.trans (hKe.os.trans bw3.os), hio.2.1.trans (hKe.tape.trans bw3.tape), hio.2.2.1.trans (hKe.output.trans bw3.output), by have := hKe.size; have := bw3.size; omega, fun g hg => (hold g (by omega)).trans (bw3.block g hg)⟩, ?_, by omega, fun hq1 => ?_, fun hq1 => ?_⟩
      · exact ((hold (w.heap.size + 1 + 1 + 1) (by omega)).trans (bW3.block (w.heap.size + 1 + 1 + 1) (by omega))).trans hres
      · obtain ⟨-, x2, c2, ⟨p, vv, hbk, hpp, hrow⟩, hoo⟩ := hp.1 hq1
        exact ⟨x2, c2, ⟨p, vv, (hoth _ (by omega)).trans hbk, hpp, row_set hrow hk (by decide) hoth⟩, row_set hoo hk (by decide) hoth⟩
      · obtain ⟨-, ⟨l2, hw2⟩, hoo⟩ := hp.2.1 hq1
        have hpn := hw2.wr.pen
        have e0 : ∀ k, Y.cell? ⟨w1.heap.size, k, none⟩ = Y0.cell? ⟨w1.heap.size, k, none⟩ := fun k => World.cell?_of_block (a := ⟨w1.heap.size, k, none⟩) (hoth _ (by show w1.heap.size ≠ _; omega))
        exact ⟨(e0 0).trans hpn.1, (e0 1).trans hpn.2.1, row_set hoo hk (by decide) hoth⟩
  have HSW : Hid (W.heap.size = w.heap.size + 1 + 1 + 1 + 1) := sW
  have HEV : Hid (evT P o A = [] → ¬ EvR P o A) := fun he hr => by
    have h1 := rNum_show0 (n := o.kind) [] hr.1.1
    unfold evT opT at he
    have h2 := (List.append_eq_nil_iff.1 (List.append_eq_nil_iff.1 he).1).1
    rw [h2, List.append_nil] at h1
    have h3 : (rdi ([] : List UInt8)).2 = 0 := by decide
    unfold rNum at h1
    rw [if_pos h3] at h1
    cases h1
  have HQ : Hid (q = true ↔ EvR P o A) := hq
  have HBW : Hid (Below w.heap.size w W) := BW
  clear hop han hres rs rf hs hso hz E hq sW BW
  obtain ⟨ok, oa, ob, oc, os⟩ := o
  obtain ⟨ac, av, zs⟩ := A
  simp only at *
  unfold opV
  simp only
  go_enter Tryd.func45, Tryd.ntmps45
  go_wp2_with fail
  rw [← hW]
  clear hW
  refine (CP.out _ HBW.out).mono ?_
  rintro e w1 ⟨x, c, rfl, h1, h2⟩
  go_wp2_with fail
  refine (HALL.out w1 x c h2 h1 _ rfl).mono ?_
  rintro e Y ⟨rfl, hB, hres, hlt, hy, hn⟩
  obtain ⟨r0, r1⟩ := hres.cells
  have z0 : Y.frozen? ⟨w.heap.size + 1 + 1 + 1, 0, none⟩ = false := Lib.frozen_of_heap hres 0
  have z1 : Y.frozen? ⟨w.heap.size + 1 + 1 + 1, 1, none⟩ = false := Lib.frozen_of_heap hres 1
  have HG : Hid (w.heap.size ≤ w.heap.size + 1 + 1 + 1 ∧ w.heap.size ≤ W.heap.size ∧ w.heap.size + 1 + 1 + 1 < W.heap.size) := ⟨by omega, by have := HSW.out; omega, by have := HSW.out; omega⟩
  have hne : ¬ w1.heap.size = w.heap.size + 1 + 1 + 1 := by omega
  have hne2 : ¬ w.heap.size + 1 + 1 + 1 = w1.heap.size := by omega
  have HB : Hid (Below w.heap.size w Y) := hB
  have HLT : Hid (w.heap.size + 1 + 1 + 1 < w1.heap.size) := hlt
  clear hlt hB h1 h2 CP HALL HBW hmf HSW hx0 hnf
  cases q with
  | false =>
    obtain ⟨k0, k1, ho⟩ := hn rfl
    have HF : Hid (OwnP (((Y.drew).setCell ⟨w.heap.size + 1 + 1 + 1, 0, none⟩ (.int .i64 P.last)).setCell ⟨w.heap.size + 1 + 1 + 1, 1, none⟩ (.slice x P.sites.length c)) w.heap.size (.agg #[.int .i64 P.last, .slice x P.sites.length c]) P ∧ Below w.heap.size w (((Y.drew).setCell ⟨w.heap.size + 1 + 1 + 1, 0, none⟩ (.int .i64 P.last)).setCell ⟨w.heap.size + 1 + 1 + 1, 1, none⟩ (.slice x P.sites.length c))) := by
      have ho2 := ownS_later ho (Below.refl _ Y).drew
      refine ⟨⟨_, rfl, ?_⟩, ((HB.out.drew).setCell (by exact HG.out.1) _).setCell (by exact HG.out.1) _⟩
      exact ownS_mono (ownS_far _ _ (ownS_far _ _ ho2 (by exact HG.out.2.2)) (by exact HG.out.2.2)) HG.out.2.1
    clear hn hy ho HQ HEV hres
    go_wp2_with fail
    go_region_held (fun X => X.cell? ⟨w1.heap.size, 0, none⟩ = some (.int .i64 P.last) ∧ X.cell? ⟨w1.heap.size, 1, none⟩ = some (.slice x P.sites.length c)) (first | exact ⟨k0, k1⟩ | exact ⟨(keep_far _ _ (by exact hne2) 0).trans ((keep_far _ _ (by exact hne2) 0).trans k0), (keep_far _ _ (by exact hne2) 1).trans ((keep_far _ _ (by exact hne2) 1).trans k1)⟩) (fail)
    all_goals
      go_wp2
      refine bodyPost_ret (v := .tuple #[.string (txt []), .agg #[.int .i64 P.last, .slice x P.sites.length c]]) (by simp [results, Tryd.results45, go_sem, *]; rfl) rfl ⟨_, rfl, HF.out.1, HF.out.2⟩
  | true =>
    obtain ⟨x2, c2, hw, ho⟩ := hy rfl
    have hne0 : evT P ⟨ok, oa, ob, oc, os⟩ ⟨ac, av, zs⟩ ≠ [] := fun e => HEV.out e (HQ.out.1 rfl)
    have hbt := hw.pen
    have CS : Hid (∀ X, Below Y.heap.size Y X → _) := fun X hX => wstring_calls W.heap.size w1.heap.size oa _ _ X (hw.later hX) hne0
    have HZ : Hid (∀ Z, Kb W.heap.size w1.heap.size Y.drew Z → Z.heap[w1.heap.size]? = Y.drew.heap[w1.heap.size]? →
        (Z.cell? ⟨w1.heap.size, 0, none⟩ = some (.int .i64 oa) ∧ Z.cell? ⟨w1.heap.size, 1, none⟩ = some (.slice x2 (penB P ⟨ok, oa, ob, oc, os⟩).sites.length c2)) ∧
        (Z.cell? ⟨w.heap.size + 1 + 1 + 1, 0, none⟩ = some (.int .i64 0) ∧ Z.cell? ⟨w.heap.size + 1 + 1 + 1, 1, none⟩ = some (.slice none 0 0) ∧ Z.frozen? ⟨w.heap.size + 1 + 1 + 1, 0, none⟩ = false ∧ Z.frozen? ⟨w.heap.size + 1 + 1 + 1, 1, none⟩ = false) ∧
        OwnP ((Z.setCell ⟨w.heap.size + 1 + 1 + 1, 0, none⟩ (.int .i64 oa)).setCell ⟨w.heap.size + 1 + 1 + 1, 1, none⟩ (.slice x2 (penB P ⟨ok, oa, ob, oc, os⟩).sites.length c2)) w.heap.size (.agg #[.int .i64 oa, .slice x2 (penB P ⟨ok, oa, ob, oc, os⟩).sites.length c2]) (penB P ⟨ok, oa, ob, oc, os⟩) ∧
        Below w.heap.size w ((Z.setCell ⟨w.heap.size + 1 + 1 + 1, 0, none⟩ (.int .i64 oa)).setCell ⟨w.heap.size + 1 + 1 + 1, 1, none⟩ (.slice x2 (penB P ⟨ok, oa, ob, oc, os⟩).sites.length c2))) := by
      intro Z kZ hbZ
      have hsame : Z.heap[w.heap.size + 1 + 1 + 1]? = Y.heap[w.heap.size + 1 + 1 + 1]? := kZ.block _ (by omega) (.inl HG.out.2.2)
      have hres2 : Two Z (w.heap.size + 1 + 1 + 1) (.int .i64 0) (.slice none 0 0) := hsame.trans hres
      have hoZ : ownS Z W.heap.size (.slice x2 (penB P ⟨ok, oa, ob, oc, os⟩).sites.length c2) (penB P ⟨ok, oa, ob, oc, os⟩).sites := by
        have ho2 := ownS_later ho (Below.refl _ Y).drew
        refine row_same ho2 (fun g hg => ?_)
        obtain ⟨cur, hk⟩ := row_kind ho2 g hg
        refine kZ.block g (fun e => ?_) (.inr ⟨_, hk, fun c2 fr e => by cases e⟩)
        obtain ⟨p, vv, hbk, -⟩ := hw
        have hbk2 : Y.drew.heap[w1.heap.size]? = _ := hbk
        rw [e, hbk2] at hk
        cases hk
      refine ⟨⟨(World.cell?_of_block (a := ⟨w1.heap.size, 0, none⟩) hbZ).trans hbt.1, (World.cell?_of_block (a := ⟨w1.heap.size, 1, none⟩) hbZ).trans hbt.2.1⟩, ⟨hres2.cells.1, hres2.cells.2, Lib.frozen_of_heap hres2 0, Lib.frozen_of_heap hres2 1⟩, ⟨_, rfl, ?_⟩, ?_⟩
      · exact ownS_mono (ownS_far _ _ (ownS_far _ _ hoZ (by exact HG.out.2.2)) (by exact HG.out.2.2)) HG.out.2.1
      · have hb1 : Below w.heap.size Y.drew Z := ⟨kZ.os, kZ.tape, kZ.output, kZ.size, fun g hg => kZ.block g (by have := HLT.out; omega) (.inl (by have := HG.out.2.1; omega))⟩
        exact ((HB.out.drew.trans hb1).setCell (by exact HG.out.1) _).setCell (by exact HG.out.1) _
    obtain ⟨p0, p1, -⟩ := hbt
    have D1 : Below Y.heap.size Y Y.drew := (Below.refl _ _).drew
    clear hn hy ho HQ hres hw hne0 HEV
    obtain ⟨tx, htx⟩ : ∃ tx, evT P ⟨ok, oa, ob, oc, os⟩ ⟨ac, av, zs⟩ = tx := ⟨_, rfl⟩
    rw [htx] at CS
    have HTX : Hid (evT P ⟨ok, oa, ob, oc, os⟩ ⟨ac, av, zs⟩ = tx) := htx
    clear htx
    go_wp2_with fail
    go_region_held (fun X => X.cell? ⟨w1.heap.size, 0, none⟩ = some (.int .i64 oa) ∧ X.cell? ⟨w1.heap.size, 1, none⟩ = some (.slice x2 (penB P ⟨ok, oa, ob, oc, os⟩).sites.length c2))
      (first | exact ⟨p0, p1⟩ | exact (HZ.out Z kZ hbZ).1 | exact ⟨(keep_far _ _ (by exact hne2) 0).trans ((keep_far _ _ (by exact hne2) 0).trans (HZ.out Z kZ hbZ).1.1), (keep_far _ _ (by exact hne2) 1).trans ((keep_far _ _ (by exact hne2) 1).trans (HZ.out Z kZ hbZ).1.2)⟩)
      (first | (go_at_call 70; refine (CS.out _ D1).mono ?_; rintro e Z ⟨rfl, kZ, hbZ⟩; (obtain ⟨r0, r1, z0, z1⟩ := (HZ.out Z kZ hbZ).2.1)))
    all_goals
      have HF : Hid _ := (HZ.out Z kZ hbZ).2.2
      go_wp2
      refine bodyPost_ret (v := .tuple #[.string (txt tx), .agg #[.int .i64 oa, .slice x2 (penB P ⟨ok, oa, ob, oc, os⟩).sites.length c2]]) (by simp [results, Tryd.results45, go_sem, *]) rfl ⟨.agg #[.int .i64 oa, .slice x2 (penB P ⟨ok, oa, ob, oc, os⟩).sites.length c2], by rw [← HTX.out], HF.out.1, HF.out.2⟩

end Go.Proofs.YtcjpepdagnifiaaDoor

namespace Go.Proofs.YtcjpepdagnifiaaDoor
open Go.RowKit
set_option linter.unusedVariables false
set_option maxRecDepth 100000

def KStr (X : World) (v : Value) : Prop := v = .string (txt [])
theorem kstr_mono (X Y : World) (v : Value) (h : KStr X v) (hb : Below X.heap.size X Y) : KStr Y v := h
theorem opConst {t : Tmp} {ty : TypeId} {pos : String} {af : Array Edge} {a : Act} {X : World} {K : Act → World → Prop} {Q : Exit → Act → World → Prop} {v : Value} (hK : K (a.put (some t) v) X) :
    Oper.wp Tryd.prog ⟨some t, .assign (.const v), ty, pos, af, none⟩ a X K Q := by
  go_simp; exact hK

theorem opFieldAns {t i : Tmp} {ty : TypeId} {pos : String} {af : Array Edge} {a : Act} {X : World} {K : Act → World → Prop} {Q : Exit → Act → World → Prop} {g : Nat} (k : Nat) (hk : k < 3) (h1 : a.eval (.tmp i) = .pointer (some ⟨g, 0, none⟩)) (hK : K (a.put (some t) (.pointer (some ⟨g, k, none⟩))) X) :
    Oper.wp Tryd.prog ⟨some t, .fieldAddr 30 (.tmp i) k, ty, pos, af, none⟩ a X K Q := by
  have h := ev_tmp h1
  match k, hk with
  | 0, _ => go_simp; exact hK
  | 1, _ => go_simp; exact hK
  | 2, _ => go_simp; exact hK
theorem opSubV {t i j : Tmp} {ty : TypeId} {pos : String} {af : Array Edge} {a : Act} {X : World} {K : Act → World → Prop} {Q : Exit → Act → World → Prop} {x y z : Int} (hz : wrap64 (x - y) = z) (h1 : a.eval (.tmp i) = .int .i64 x) (h2 : a.eval (.tmp j) = .int .i64 y) (hK : K (a.put (some t) (.int .i64 z)) X) :
    Oper.wp Tryd.prog ⟨some t, .binOp .sub 3 (.tmp i) (.tmp j) 3, ty, pos, af, none⟩ a X K Q := by
  have e1 := ev_tmp h1
  have e2 := ev_tmp h2
  have e : IntKind.i64.wrap (x - y) = z := by rw [← hz, IntKind.wrap_i64]; simp only [wrap64]
  go_simp; exact hK
theorem opAddStr {t i j : Tmp} {ty : TypeId} {pos : String} {af : Array Edge} {a : Act} {X : World} {K : Act → World → Prop} {Q : Exit → Act → World → Prop} {x y : ByteArray} (hs : x.size + y.size ≤ 9223372036854775807) (h1 : a.eval (.tmp i) = .string x) (h2 : a.eval (.tmp j) = .string y) (hK : K (a.put (some t) (.string (x ++ y))) X) :
    Oper.wp Tryd.prog ⟨some t, .binOp .add 9 (.tmp i) (.tmp j) 9, ty, pos, af, none⟩ a X K Q := by
  have e1 := ev_tmp h1
  have e2 := ev_tmp h2
  have hs' : ¬ 9223372036854775807 < x.size + y.size := Nat.not_lt.2 hs
  go_simp; exact hK
theorem opLenI {t i : Tmp} {ty : TypeId} {pos : String} {af : Array Edge} {a : Act} {X : World} {K : Act → World → Prop} {Q : Exit → Act → World → Prop} {x : Option Addr} {n c : Nat} (h1 : a.eval (.tmp i) = .slice x n c) (hK : K (a.put (some t) (.int .i64 (n : Int))) X) :
    Oper.wp Tryd.prog ⟨some t, .call { callee := .builtin .len, args := #[.tmp i], argTypes := #[28] }, ty, pos, af, none⟩ a X K Q := by
  have h := ev_tmp h1
  go_simp; exact hK
theorem opAssignT {t i : Tmp} {ty : TypeId} {pos : String} {af : Array Edge} {a : Act} {X : World} {K : Act → World → Prop} {Q : Exit → Act → World → Prop} {v : Value} (h1 : a.eval (.tmp i) = v) (hK : K (a.put (some t) v) X) :
    Oper.wp Tryd.prog ⟨some t, .assign (.tmp i), ty, pos, af, none⟩ a X K Q := by
  have h := ev_tmp h1
  go_simp; exact hK
theorem opShowInt {t i : Tmp} {ty : TypeId} {pos : String} {af : Array Edge} {ats : Array TypeId} {a : Act} {X : World} {K : Act → World → Prop} {Q : Exit → Act → World → Prop} {u : Value} {post : Ending → World → Prop} (h1 : a.eval (.tmp i) = u) (hC : Calls Tryd.prog 54 #[u] X post) (hK : ∀ e w', post e w' → ∃ x, e = .returned x ∧ K (a.put (some t) x) w') :
    Oper.wp Tryd.prog ⟨some t, .call { callee := .value (.func 54), args := #[.tmp i], argTypes := ats }, ty, pos, af, none⟩ a X K Q := by
  have e1 := ev_tmp h1
  go_simp
  refine hC.mono (fun e w' hp => ?_)
  obtain ⟨x, rfl, hx⟩ := hK e w' hp
  exact hx
theorem opVar {t i : Tmp} {ty : TypeId} {pos : String} {af : Array Edge} {ats : Array TypeId} {a : Act} {X : World} {K : Act → World → Prop} {Q : Exit → Act → World → Prop} {u : Value} {post : Ending → World → Prop} (h1 : a.eval (.tmp i) = u) (hC : Calls Tryd.prog 49 #[u] X post) (hK : ∀ e w', post e w' → ∃ x, e = .returned x ∧ K (a.put (some t) x) w') :
    Oper.wp Tryd.prog ⟨some t, .call { callee := .value (.func 49), args := #[.tmp i], argTypes := ats }, ty, pos, af, none⟩ a X K Q := by
  have e1 := ev_tmp h1
  go_simp
  refine hC.mono (fun e w' hp => ?_)
  obtain ⟨x, rfl, hx⟩ := hK e w' hp
  exact hx

set_option maxHeartbeats 4000000 in
theorem sShowEvent_calls (v va : Value) (P : PenD) (o : OpD) (A : AnsD) (w : World) (hP : RdP w v P) (hA : RdA w va A) (hs : SmallP P) (hx0 : o.site.length ≤ 1048576) (hso : SaneOp o) (hnf : A.freed.length ≤ 1048576) (q : Bool) (hq : q = true ↔ EvR P o A) :
    Calls Tryd.prog 28 #[v, opV o, va] w fun e w' => ∃ u, e = .returned (.tuple #[.string (txt (if q then evT P o A else [])), u]) ∧ OwnP w' w.heap.size u (if q then penB P o else P) ∧ Below w.heap.size w w' := by
  obtain ⟨sa, sc, rfl, rs⟩ := hP
  obtain ⟨fa, fc, rfl, rf⟩ := hA
  obtain ⟨W, hW⟩ : ∃ W, W = (((w.alloc (.cells #[.int .i64 P.last, .slice sa P.sites.length sc] 31)).alloc (.cells #[.int .i64 o.kind, .int .i64 o.a, .int .i64 o.b, .int .i64 o.c, .string (txt o.site)] 27)).alloc (.cells #[.int .i64 A.code, .int .i64 A.val, .slice fa A.freed.length fc] 30)).alloc (.cells #[.int .i64 0, .slice none 0 0] 31) := ⟨_, rfl⟩
  obtain ⟨BW, sW, hop, han, hres⟩ := show_entry w P.last _ o A.code A.val _ W hW
  have hpen : W.cell? ⟨w.heap.size, 0, none⟩ = some (.int .i64 P.last) ∧ W.cell? ⟨w.heap.size, 1, none⟩ = some (.slice sa P.sites.length sc) := by
    obtain ⟨x1, h1⟩ : ∃ x1, x1 = w.alloc (.cells #[.int .i64 P.last, .slice sa P.sites.length sc] 31) := ⟨_, rfl⟩
    rw [← h1] at hW
    have s1 : x1.heap.size = w.heap.size + 1 := by rw [h1]; simp
    have b1 : Below x1.heap.size x1 W := by
      rw [hW]
      exact (((Below.refl _ _).alloc (Nat.le_refl _) _).alloc (by simp) _).alloc (by simp; omega) _
    have e : ∀ k, W.cell? ⟨w.heap.size, k, none⟩ = (#[.int .i64 P.last, .slice sa P.sites.length sc] : Array Value)[k]? := fun k => by
      rw [b1.cell (p := ⟨w.heap.size, k, none⟩) (by show w.heap.size < _; omega), h1, World.cell?_alloc_mark]
    exact ⟨e 0, e 1⟩
  obtain ⟨qo, hqo⟩ := bool_of (SpeakO o)
  obtain ⟨qa, hqa⟩ := bool_of (SpeakA A)
  obtain ⟨qp, hqp⟩ := bool_of (PenR P)
  have CS : Hid (∀ X : World, _) := fun X => sSpeakable_calls o X hso.site qo hqo
  have CA : Hid (∀ X, Below w.heap.size w X → _) := fun X hX => sAnsOk_calls A fa fc X (rdI_later rf hX) hnf qa hqa
  have CPn : Hid (∀ X, Below w.heap.size w X → _) := fun X hX => sPenOk_calls _ P X ⟨sa, sc, rfl, rdS_later rs hX⟩ hs qp hqp
  have CSi : Hid (∀ X, Below w.heap.size w X → _) := fun X hX => sSite_calls _ P o.site X ⟨sa, sc, rfl, rdS_later rs hX⟩ hs hx0
  have HQ : Hid (q = true ↔ EvR P o A) := hq
  have HQO : Hid (qo = true ↔ SpeakO o) := hqo
  have HQA : Hid (qa = true ↔ SpeakA A) := hqa
  have HQP : Hid (qp = true ↔ PenR P) := hqp
  have HK : Hid (∀ X, Below W.heap.size W X → (X.cell? ⟨w.heap.size, 0, none⟩ = some (.int .i64 P.last) ∧ X.cell? ⟨w.heap.size, 1, none⟩ = some (.slice sa P.sites.length sc)) ∧ OpAt (w.heap.size + 1) o X ∧
      (X.cell? ⟨w.heap.size + 1 + 1, 0, none⟩ = some (.int .i64 A.code) ∧ X.cell? ⟨w.heap.size + 1 + 1, 1, none⟩ = some (.int .i64 A.val) ∧ X.cell? ⟨w.heap.size + 1 + 1, 2, none⟩ = some (.slice fa A.freed.length fc)) ∧ Two X (w.heap.size + 1 + 1 + 1) (.int .i64 0) (.slice none 0 0)) := fun X hX => by
    refine ⟨⟨?_, ?_⟩, fun k => ?_, ⟨?_, ?_, ?_⟩, ?_⟩
    · exact (hX.cell (p := ⟨w.heap.size, 0, none⟩) (by show w.heap.size < _; omega)).trans hpen.1
    · exact (hX.cell (p := ⟨w.heap.size, 1, none⟩) (by show w.heap.size < _; omega)).trans hpen.2
    · exact (hX.cell (p := ⟨w.heap.size + 1, k, none⟩) (by show w.heap.size + 1 < _; omega)).trans (hop k)
    · exact (hX.cell (p := ⟨w.heap.size + 1 + 1, 0, none⟩) (by show w.heap.size + 1 + 1 < _; omega)).trans han.1
    · exact (hX.cell (p := ⟨w.heap.size + 1 + 1, 1, none⟩) (by show w.heap.size + 1 + 1 < _; omega)).trans han.2.1
    · exact (hX.cell (p := ⟨w.heap.size + 1 + 1, 2, none⟩) (by show w.heap.size + 1 + 1 < _; omega)).trans han.2.2
    · exact hres.later hX
  have HFI : Hid (∀ X, Below W.heap.size W X → RdI X fa A.freed) := fun X hX => rdI_later rf (BW.trans (hX.mono BW.size))
  have HSS : Hid (SrcC W sa P.sites.length 1 (P.sites.map strV)) := (srcS rs).later BW
  have HSW : Hid (W.heap.size = w.heap.size + 1 + 1 + 1 + 1) := sW
  have HBW : Hid (Below w.heap.size w W) := BW
  have HWX : Hid (∀ X, Below W.heap.size W X → Below w.heap.size w X) := fun X hX => BW.trans (hX.mono BW.size)
  have hn0 : P.sites.length ≤ 1048576 := hs.sites
  clear hop han hres hpen rs rf hq hqo hqa hqp sW hs BW hso
  by_cases hall : Hid (qo = true ∧ qa = true ∧ qp = true)
  case neg =>
    have hq0 : q = false := by
      refine q_no HQ.out (fun hh => hall ⟨HQO.out.2 hh.1, HQA.out.2 hh.2.1, HQP.out.2 hh.2.2⟩)
    subst hq0
    have HNA : Hid (¬ (qo = true ∧ qa = true ∧ qp = true)) := hall
    clear hall HQ HQO HQA HQP CSi HFI
    obtain ⟨ok, oa, ob, oc, os⟩ := o
    obtain ⟨ac, av, zs⟩ := A
    simp only at *
    unfold opV at CS ⊢
    simp only at CS ⊢
    have T0 : Below W.heap.size W W := Below.refl _ _
    obtain ⟨⟨p0, p1⟩, hop, ⟨a0, a1, a2⟩, -⟩ := HK.out _ T0
    obtain ⟨c0, c1, c2, c3, c4⟩ := hop.cells
    simp only at c0 c1 c2 c3 c4
    clear hop
    go_enter Tryd.func28, Tryd.ntmps28
    go_wp2_with fail
    rw [← hW]
    clear hW
    refine (CS.out _).mono ?_
    rintro e V ⟨rfl, bV⟩
    clear p0 p1 a0 a1 a2 c0 c1 c2 c3 c4
    cases qo
    case' false =>
      clear HNA
      go_wp2_with fail
    case' true =>
      obtain ⟨-, -, ⟨a0, a1, a2⟩, -⟩ := HK.out _ bV
      have T1 : Below W.heap.size W V := bV
      clear bV
      go_wp2_with fail
      refine (CA.out _ (HWX.out _ T1)).mono ?_
      rintro e V2 ⟨rfl, b2⟩
      have bV := T1.trans (b2.mono T1.size)
      clear a0 a1 a2 b2
      cases qa
      case' false =>
        clear HNA
        go_wp2_with fail
      case' true =>
        obtain ⟨⟨p0, p1⟩, -, -, -⟩ := HK.out _ bV
        have T2 : Below W.heap.size W V2 := bV
        clear bV
        go_wp2_with fail
        refine (CPn.out _ (HWX.out _ T2)).mono ?_
        rintro e V3 ⟨rfl, b3⟩
        have bV := T2.trans (b3.mono T2.size)
        clear p0 p1 b3
        cases qp
        case true => exact absurd HNA.out (by show ¬ ¬ _; simp)
        clear HNA
        go_wp2_with fail
    all_goals
      clear CS CA CPn
      have hbs := bV.size
      refine wp_region_last 8 (by kernel_rfl) (by kernel_rfl) (RNew W.heap.size w.heap.size P.last sa P.sites.length sc (P.sites.map strV) KStr) (rnew_mono kstr_mono) ?_ ?_
      · intro i o hi ho a X hX hA hdep
        have hWX := bV.trans (hX.mono hbs)
        have hXs := hWX.size
        obtain ⟨⟨p0, p1⟩, -⟩ := HK.out _ hWX
        match i, hi, ho with
        | 0, _, ho =>
          obtain rfl := Option.some.inj ho
          exact opFieldPen 0 (by omega) (alike_at hA (t := 3) (by kernel_rfl)) ⟨_, rfl, Below.refl _ _, rfl⟩
        | 1, _, ho =>
          obtain rfl := Option.some.inj ho
          have e1 : a.eval (.tmp 26) = .pointer (some ⟨w.heap.size, 0, none⟩) := hdep ⟨0, .data⟩ (by simp) rfl 26 rfl
          exact opLoadInt e1 p0 ⟨_, rfl, Below.refl _ _, rfl⟩
        | 2, _, ho =>
          obtain rfl := Option.some.inj ho
          exact opNewS ⟨_, rfl, (Below.refl _ _).alloc (Nat.le_refl _) _, X.heap.size, rfl, hXs, fresh_at X _⟩
        | 3, _, ho =>
          obtain rfl := Option.some.inj ho
          exact opFieldPen 1 (by omega) (alike_at hA (t := 3) (by kernel_rfl)) ⟨_, rfl, Below.refl _ _, rfl⟩
        | 4, _, ho =>
          obtain rfl := Option.some.inj ho
          have e1 : a.eval (.tmp 29) = .pointer (some ⟨w.heap.size, 1, none⟩) := hdep ⟨3, .data⟩ (by simp) rfl 29 rfl
          exact opLoadS e1 p1 ⟨_, rfl, Below.refl _ _, rfl⟩
        | 5, _, ho =>
          obtain rfl := Option.some.inj ho
          obtain ⟨g, e1, gB, hg⟩ := hdep ⟨2, .data⟩ (by simp) rfl 28 rfl
          have e2 : a.eval (.tmp 30) = .slice sa P.sites.length sc := hdep ⟨4, .data⟩ (by simp) rfl 30 rfl
          exact wp_append_fresh elS _ _ rfl g W.heap.size hg gB sa P.sites.length sc _ e1 e2 (HSS.out.later hWX) (by omega) (by omega) (fun v' w' r b _ => ⟨_, rfl, b, r⟩)
        | 6, _, ho =>
          obtain rfl := Option.some.inj ho
          have e0 : a.eval (.tmp 27) = .int .i64 P.last := hdep ⟨1, .data⟩ (by simp) rfl 27 rfl
          have r3 : X.ownsRow W.heap.size 9 1 (a.eval (.tmp 31)) P.sites.length (P.sites.map strV) := hdep ⟨5, .data⟩ (by simp) rfl 31 rfl
          obtain ⟨x3, c3, e3, _⟩ := row_form r3
          rw [e3] at r3
          exact opBuildPen e0 e3 ⟨_, rfl, Below.refl _ _, x3, c3, rfl, r3⟩
        | 7, _, ho =>
          obtain rfl := Option.some.inj ho
          exact opConst ⟨_, rfl, Below.refl _ _, rfl⟩
      · intro o ho a X hX hA hdep
        obtain rfl := Option.some.inj ho
        have hWX := bV.trans (hX.mono hbs)
        obtain ⟨-, -, -, hf⟩ := HK.out _ hWX
        obtain ⟨x3, c3, e2, r3⟩ := hdep ⟨6, .data⟩ (by simp) rfl 32 rfl
        have e6 : a.eval (.tmp 6) = .string (txt []) := hdep ⟨7, .chain⟩ (by simp) rfl 6 rfl
        refine opStorePen (alike_at hA (t := 7) (by kernel_rfl)) e2 hf ?_
        obtain ⟨us, hus, rfl⟩ := alike_tmps hA [26, 27, 28, 29, 30, 31, 32, 6] (by kernel_rfl)
        have e3 : us 6 = .string (txt []) := (hus 6).symm.trans e6
        have HF : Hid (Two ((X.setCell ⟨w.heap.size + 1 + 1 + 1, 0, none⟩ (.int .i64 P.last)).setCell ⟨w.heap.size + 1 + 1 + 1, 1, none⟩ (.slice x3 P.sites.length c3)) (w.heap.size + 1 + 1 + 1) (.int .i64 P.last) (.slice x3 P.sites.length c3) ∧ OwnP ((X.setCell ⟨w.heap.size + 1 + 1 + 1, 0, none⟩ (.int .i64 P.last)).setCell ⟨w.heap.size + 1 + 1 + 1, 1, none⟩ (.slice x3 P.sites.length c3)) w.heap.size (.agg #[.int .i64 P.last, .slice x3 P.sites.length c3]) P ∧ Below w.heap.size w ((X.setCell ⟨w.heap.size + 1 + 1 + 1, 0, none⟩ (.int .i64 P.last)).setCell ⟨w.heap.size + 1 + 1 + 1, 1, none⟩ (.slice x3 P.sites.length c3))) := by
          have hsw := HSW.out
          refine ⟨hf.set _ _, ⟨_, rfl, ?_⟩, ((HWX.out _ hWX).setCell (by simp only; omega) _).setCell (by simp only; omega) _⟩
          exact ownS_mono (ownS_far _ _ (ownS_far _ _ r3 (by simp only; omega)) (by simp only; omega)) (by omega)
        clear hdep hA hus e2 e6 hf r3 ho HSS HK HWX hX hWX bV hbs
        generalize (X.setCell ⟨w.heap.size + 1 + 1 + 1, 0, none⟩ (.int .i64 P.last)).setCell ⟨w.heap.size + 1 + 1 + 1, 1, none⟩ (.slice x3 P.sites.length c3) = Y at *
        simp only [List.mapIdx_cons, List.mapIdx_nil, Nat.reduceAdd, List.contains_cons, List.contains_nil, Nat.reduceBEq, Bool.or_false, Bool.or_true, if_true, if_false, Bool.false_eq_true, e3]
        obtain ⟨y0, y1⟩ := HF.out.1.cells
        go_wp2
        refine bodyPost_ret (v := .tuple #[.string (txt []), .agg #[.int .i64 P.last, .slice x3 P.sites.length c3]]) (by simp [results, Tryd.results28, go_sem, *]) rfl ⟨_, rfl, HF.out.2.1, HF.out.2.2⟩
  obtain ⟨rfl, rfl, rfl⟩ := hall.out
  have hso := HQO.out.1 rfl
  have hsa := HQA.out.1 rfl
  have hsp := HQP.out.1 rfl
  have hq1 : q = true := HQ.out.2 ⟨hso, hsa, hsp⟩
  subst hq1
  have HSO : Hid (SpeakO o) := hso
  have HSA : Hid (SpeakA A) := hsa
  have HSP : Hid (PenR P) := hsp
  have HPB : Hid ((penB P o).sites = namesB P.sites o.site) := rfl
  have HPL : Hid ((penB P o).last = o.a) := rfl
  have HEV : Hid (evT P o A = opT P.last P.sites o ++ ansT o.a A) := rfl
  clear hall HQ HQO HQA HQP hso hsa hsp
  obtain ⟨ok, oa, ob, oc, os⟩ := o
  obtain ⟨ac, av, zs⟩ := A
  simp only at *
  unfold opV at CS ⊢
  simp only at CS ⊢
  have T0 : Below W.heap.size W W := Below.refl _ _
  obtain ⟨⟨p0, p1⟩, hop, ⟨a0, a1, a2⟩, -⟩ := HK.out _ T0
  obtain ⟨c0, c1, c2, c3, c4⟩ := hop.cells
  simp only at c0 c1 c2 c3 c4
  clear hop
  go_enter Tryd.func28, Tryd.ntmps28
  go_wp2_with fail
  rw [← hW]
  clear hW
  refine (CS.out _).mono ?_
  rintro e V1 ⟨rfl, T1⟩
  clear p0 p1 a0 a1 a2 c0 c1 c2 c3 c4
  obtain ⟨-, -, ⟨a0, a1, a2⟩, -⟩ := HK.out _ T1
  go_wp2_with fail
  refine (CA.out _ (HWX.out _ T1)).mono ?_
  rintro e V2 ⟨rfl, b2⟩
  have T2 := T1.trans (b2.mono T1.size)
  clear a0 a1 a2 b2
  obtain ⟨⟨p0, p1⟩, -, -, -⟩ := HK.out _ T2
  go_wp2_with fail
  refine (CPn.out _ (HWX.out _ T2)).mono ?_
  rintro e V3 ⟨rfl, b3⟩
  have T3 := T2.trans (b3.mono T2.size)
  clear p0 p1 b3 T1 T2 CS CA CPn
  obtain ⟨⟨p0, p1⟩, hop, -, -⟩ := HK.out _ T3
  obtain ⟨c0, c1, c2, c3, c4⟩ := hop.cells
  simp only at c0 c1 c2 c3 c4
  clear hop
  go_wp2_with fail
  refine (CSi.out _ (HWX.out _ T3)).mono ?_
  rintro e V4 ⟨y, cy, rfl, hoy, b4⟩
  have T4 := T3.trans (b4.mono T3.size)
  have HOY0 : Hid (ownS V4 W.heap.size (.slice y (namesB P.sites os).length cy) (namesB P.sites os)) := ownS_mono hoy T3.size
  obtain ⟨n1, hn1⟩ : ∃ n1, (namesB P.sites os).length = n1 := ⟨_, rfl⟩
  have HN1 : Hid ((namesB P.sites os).length = n1) := hn1
  rw [hn1] at HOY0 ⊢
  obtain ⟨t5, ht5⟩ : ∃ t5, siteT P.sites os = t5 := ⟨_, rfl⟩
  have l5 : t5.length ≤ 16 := by rw [← ht5]; exact siteT_length _ _
  have HT5 : Hid (siteT P.sites os = t5) := ht5
  rw [ht5]
  clear p0 p1 c0 c1 c2 c3 c4 hoy b4 hn1 ht5 T3 CSi
  obtain ⟨V5, hV5⟩ : ∃ V5, V5 = V4.alloc (.cells #[.int .i64 P.last, .slice y n1 cy] 31) := ⟨_, rfl⟩
  have b5 : Below V4.heap.size V4 V5 := by rw [hV5]; exact (Below.refl _ _).alloc (Nat.le_refl _) _
  have T5 := T4.trans (b5.mono T4.size)
  have hx5 : Two V5 V4.heap.size (.int .i64 P.last) (.slice y n1 cy) := by rw [hV5]; exact Two.new V4 _ _
  have HX : Hid (∀ X, Below V5.heap.size V5 X → Two X V4.heap.size (.int .i64 P.last) (.slice y n1 cy) ∧ ownS X W.heap.size (.slice y n1 cy) (namesB P.sites os)) := fun X hX => ⟨hx5.later hX, ownS_later (ownS_later HOY0.out b5) hX⟩
  have HT5b : Hid (Below W.heap.size W V5) := T5
  have hgx : W.heap.size ≤ V4.heap.size := T4.size
  obtain ⟨gx, hgxe⟩ : ∃ gx, V4.heap.size = gx := ⟨_, rfl⟩
  go_wp2_with fail
  rw [← hV5]
  clear hV5 hx5 b5 T4 HOY0
  obtain ⟨m, hm⟩ : ∃ m, zs.length = m := ⟨_, rfl⟩
  have Hm : Hid (zs.length = m) := hm
  rw [hm] at hnf HK ⊢
  clear hm
  have hko := HSO.out
  have hka := HSA.out
  have hkp := HSP.out.1
  obtain ⟨o1, o2, o3, o4, o5⟩ := hko
  obtain ⟨⟨a1, a2⟩, a3, a4, a5⟩ := hka
  simp only at o1 o2 o3 o4 o5 a1 a2 a3 a4 a5
  have hm8 : m ≤ 8 := by have := Hm.out; omega
  have hw2 : IntKind.i64.wrap (oa - P.last) = oa - P.last := by rw [IntKind.wrap_i64]; omega
  have hw4 : IntKind.i64.wrap (oc - oa) = oc - oa := by rw [IntKind.wrap_i64]; omega
  have hw7 : IntKind.i64.wrap (av - oa) = av - oa := by rw [IntKind.wrap_i64]; omega
  have HZK : Hid (∀ z ∈ zs, okZ z) := a5
  have HOA : Hid (okZ oa) := o2
  clear o1 o2 o3 o4 o5 a1 a2 a3 a4 a5 hkp
  have h2 : wrap64 (oa - P.last) = oa - P.last := by rw [← hw2, IntKind.wrap_i64]; unfold wrap64; omega
  have h4 : wrap64 (oc - oa) = oc - oa := by rw [← hw4, IntKind.wrap_i64]; unfold wrap64; omega
  have h7 : wrap64 (av - oa) = av - oa := by rw [← hw7, IntKind.wrap_i64]; unfold wrap64; omega
  have y1 : (txt (showZ ok)).size ≤ 7 := by rw [txt_size]; exact showZ_length _
  have y2 : (txt (showZ (oa - P.last))).size ≤ 7 := by rw [txt_size]; exact showZ_length _
  have y3 : (txt (showZ ob)).size ≤ 7 := by rw [txt_size]; exact showZ_length _
  have y4 : (txt (showZ (oc - oa))).size ≤ 7 := by rw [txt_size]; exact showZ_length _
  have y5 : (txt (t5)).size ≤ 16 := by rw [txt_size]; exact l5
  have y6 : (txt (varZ ac)).size ≤ 7 := by rw [txt_size]; exact varZ_length _
  have y7 : (txt (showZ (av - oa))).size ≤ 7 := by rw [txt_size]; exact showZ_length _
  have y8 : (txt (varZ (m : Int))).size ≤ 7 := by rw [txt_size]; exact varZ_length _
  have s2 : (txt (showZ ok)).size + (txt (showZ (oa - P.last))).size ≤ 9223372036854775807 := by first | omega | (simp only [ByteArray.size_append]; omega)
  have s3 : (txt (showZ ok) ++ txt (showZ (oa - P.last))).size + (txt (showZ ob)).size ≤ 9223372036854775807 := by first | omega | (simp only [ByteArray.size_append]; omega)
  have s4 : ((txt (showZ ok) ++ txt (showZ (oa - P.last))) ++ txt (showZ ob)).size + (txt (showZ (oc - oa))).size ≤ 9223372036854775807 := by first | omega | (simp only [ByteArray.size_append]; omega)
  have s5 : (((txt (showZ ok) ++ txt (showZ (oa - P.last))) ++ txt (showZ ob)) ++ txt (showZ (oc - oa))).size + (txt (t5)).size ≤ 9223372036854775807 := by first | omega | (simp only [ByteArray.size_append]; omega)
  have s6 : ((((txt (showZ ok) ++ txt (showZ (oa - P.last))) ++ txt (showZ ob)) ++ txt (showZ (oc - oa))) ++ txt (t5)).size + (txt (varZ ac)).size ≤ 9223372036854775807 := by first | omega | (simp only [ByteArray.size_append]; omega)
  have s7 : (((((txt (showZ ok) ++ txt (showZ (oa - P.last))) ++ txt (showZ ob)) ++ txt (showZ (oc - oa))) ++ txt (t5)) ++ txt (varZ ac)).size + (txt (showZ (av - oa))).size ≤ 9223372036854775807 := by first | omega | (simp only [ByteArray.size_append]; omega)
  have s8 : ((((((txt (showZ ok) ++ txt (showZ (oa - P.last))) ++ txt (showZ ob)) ++ txt (showZ (oc - oa))) ++ txt (t5)) ++ txt (varZ ac)) ++ txt (showZ (av - oa))).size + (txt (varZ (m : Int))).size ≤ 9223372036854775807 := by first | omega | (simp only [ByteArray.size_append]; omega)
  have HC : Hid (∀ X, Below V5.heap.size V5 X → X.cell? ⟨w.heap.size, 0, none⟩ = some (.int .i64 P.last) ∧ (X.cell? ⟨w.heap.size + 1, 0, none⟩ = some (.int .i64 ok) ∧ X.cell? ⟨w.heap.size + 1, 1, none⟩ = some (.int .i64 oa) ∧ X.cell? ⟨w.heap.size + 1, 2, none⟩ = some (.int .i64 ob) ∧ X.cell? ⟨w.heap.size + 1, 3, none⟩ = some (.int .i64 oc)) ∧ (X.cell? ⟨w.heap.size + 1 + 1, 0, none⟩ = some (.int .i64 ac) ∧ X.cell? ⟨w.heap.size + 1 + 1, 1, none⟩ = some (.int .i64 av) ∧ X.cell? ⟨w.heap.size + 1 + 1, 2, none⟩ = some (.slice fa m fc))) := fun X hX => by
    obtain ⟨h1, h2, h3, -⟩ := HK.out X (HT5b.out.trans (hX.mono HT5b.out.size))
    exact ⟨h1.1, ⟨h2.cells.1, h2.cells.2.1, h2.cells.2.2.1, h2.cells.2.2.2.1⟩, h3⟩
  refine wp_region_last 39 (by kernel_rfl) (by kernel_rfl) (RP 1000 noP [.pointer (some ⟨w.heap.size + 1, 0, none⟩), .int .i64 ok, .string (txt (showZ ok)), .pointer (some ⟨w.heap.size + 1, 1, none⟩), .int .i64 oa, .pointer (some ⟨w.heap.size, 0, none⟩), .int .i64 P.last, .int .i64 (oa - P.last), .string (txt (showZ (oa - P.last))), .string (txt (showZ ok) ++ txt (showZ (oa - P.last))), .pointer (some ⟨w.heap.size + 1, 2, none⟩), .int .i64 ob, .string (txt (showZ ob)), .string ((txt (showZ ok) ++ txt (showZ (oa - P.last))) ++ txt (showZ ob)), .pointer (some ⟨w.heap.size + 1, 3, none⟩), .int .i64 oc, .pointer (some ⟨w.heap.size + 1, 1, none⟩), .int .i64 oa, .int .i64 (oc - oa), .string (txt (showZ (oc - oa))), .string (((txt (showZ ok) ++ txt (showZ (oa - P.last))) ++ txt (showZ ob)) ++ txt (showZ (oc - oa))), .string (txt t5), .string ((((txt (showZ ok) ++ txt (showZ (oa - P.last))) ++ txt (showZ ob)) ++ txt (showZ (oc - oa))) ++ txt t5), .pointer (some ⟨w.heap.size + 1 + 1, 0, none⟩), .int .i64 ac, .string (txt (varZ ac)), .string (((((txt (showZ ok) ++ txt (showZ (oa - P.last))) ++ txt (showZ ob)) ++ txt (showZ (oc - oa))) ++ txt t5) ++ txt (varZ ac)), .pointer (some ⟨w.heap.size + 1 + 1, 1, none⟩), .int .i64 av, .pointer (some ⟨w.heap.size + 1, 1, none⟩), .int .i64 oa, .int .i64 (av - oa), .string (txt (showZ (av - oa))), .string ((((((txt (showZ ok) ++ txt (showZ (oa - P.last))) ++ txt (showZ ob)) ++ txt (showZ (oc - oa))) ++ txt t5) ++ txt (varZ ac)) ++ txt (showZ (av - oa))), .pointer (some ⟨w.heap.size + 1 + 1, 2, none⟩), .slice fa m fc, .int .i64 (m : Int), .string (txt (varZ (m : Int))), .string (((((((txt (showZ ok) ++ txt (showZ (oa - P.last))) ++ txt (showZ ob)) ++ txt (showZ (oc - oa))) ++ txt t5) ++ txt (varZ ac)) ++ txt (showZ (av - oa))) ++ txt (varZ (m : Int)))]) (rp_mono noP_mono) ?_ ?_
  · intro i o hi ho a X hX hA hdep
    match i, hi, ho with
    | 0, _, ho =>
      obtain rfl := Option.some.inj ho
      exact opFieldOp 0 (by omega) (alike_at hA (t := 4) (by kernel_rfl))  ⟨_, rfl, Below.refl _ _, rp_put (by decide) rfl⟩
    | 1, _, ho =>
      obtain rfl := Option.some.inj ho
      have g0_ : a.eval (.tmp 40) = .pointer (some ⟨w.heap.size + 1, 0, none⟩) := rp_at (hdep ⟨0, .data⟩ (by simp) rfl 40 rfl) (by decide) rfl
      exact opLoadInt g0_ (HC.out X hX).2.1.1 ⟨_, rfl, Below.refl _ _, rp_put (by decide) rfl⟩
    | 2, _, ho =>
      obtain rfl := Option.some.inj ho
      have g0_ : a.eval (.tmp 41) = .int .i64 ok := rp_at (hdep ⟨1, .data⟩ (by simp) rfl 41 rfl) (by decide) rfl
      exact opShowInt g0_ (sShowInt_calls ok X) (fun e w' ⟨h1, h2⟩ => ⟨_, h1, _, rfl, h2, rp_put (by decide) rfl⟩)
    | 3, _, ho =>
      obtain rfl := Option.some.inj ho
      exact opFieldOp 1 (by omega) (alike_at hA (t := 4) (by kernel_rfl))  ⟨_, rfl, Below.refl _ _, rp_put (by decide) rfl⟩
    | 4, _, ho =>
      obtain rfl := Option.some.inj ho
      have g0_ : a.eval (.tmp 43) = .pointer (some ⟨w.heap.size + 1, 1, none⟩) := rp_at (hdep ⟨3, .data⟩ (by simp) rfl 43 rfl) (by decide) rfl
      exact opLoadInt g0_ (HC.out X hX).2.1.2.1 ⟨_, rfl, Below.refl _ _, rp_put (by decide) rfl⟩
    | 5, _, ho =>
      obtain rfl := Option.some.inj ho
      exact opFieldPen 0 (by omega) (alike_at hA (t := 3) (by kernel_rfl))  ⟨_, rfl, Below.refl _ _, rp_put (by decide) rfl⟩
    | 6, _, ho =>
      obtain rfl := Option.some.inj ho
      have g0_ : a.eval (.tmp 45) = .pointer (some ⟨w.heap.size, 0, none⟩) := rp_at (hdep ⟨5, .data⟩ (by simp) rfl 45 rfl) (by decide) rfl
      exact opLoadInt g0_ (HC.out X hX).1 ⟨_, rfl, Below.refl _ _, rp_put (by decide) rfl⟩
    | 7, _, ho =>
      obtain rfl := Option.some.inj ho
      have g0_ : a.eval (.tmp 44) = .int .i64 oa := rp_at (hdep ⟨4, .data⟩ (by simp) rfl 44 rfl) (by decide) rfl
      have g1_ : a.eval (.tmp 46) = .int .i64 P.last := rp_at (hdep ⟨6, .data⟩ (by simp) rfl 46 rfl) (by decide) rfl
      exact opSubV h2 g0_ g1_  ⟨_, rfl, Below.refl _ _, rp_put (by decide) rfl⟩
    | 8, _, ho =>
      obtain rfl := Option.some.inj ho
      have g0_ : a.eval (.tmp 47) = .int .i64 (oa - P.last) := rp_at (hdep ⟨7, .data⟩ (by simp) rfl 47 rfl) (by decide) rfl
      exact opShowInt g0_ (sShowInt_calls (oa - P.last) X) (fun e w' ⟨h1, h2⟩ => ⟨_, h1, _, rfl, h2, rp_put (by decide) rfl⟩)
    | 9, _, ho =>
      obtain rfl := Option.some.inj ho
      have g0_ : a.eval (.tmp 42) = .string (txt (showZ ok)) := rp_at (hdep ⟨2, .data⟩ (by simp) rfl 42 rfl) (by decide) rfl
      have g1_ : a.eval (.tmp 48) = .string (txt (showZ (oa - P.last))) := rp_at (hdep ⟨8, .data⟩ (by simp) rfl 48 rfl) (by decide) rfl
      exact opAddStr s2 g0_ g1_  ⟨_, rfl, Below.refl _ _, rp_put (by decide) rfl⟩
    | 10, _, ho =>
      obtain rfl := Option.some.inj ho
      exact opFieldOp 2 (by omega) (alike_at hA (t := 4) (by kernel_rfl))  ⟨_, rfl, Below.refl _ _, rp_put (by decide) rfl⟩
    | 11, _, ho =>
      obtain rfl := Option.some.inj ho
      have g0_ : a.eval (.tmp 50) = .pointer (some ⟨w.heap.size + 1, 2, none⟩) := rp_at (hdep ⟨10, .data⟩ (by simp) rfl 50 rfl) (by decide) rfl
      exact opLoadInt g0_ (HC.out X hX).2.1.2.2.1 ⟨_, rfl, Below.refl _ _, rp_put (by decide) rfl⟩
    | 12, _, ho =>
      obtain rfl := Option.some.inj ho
      have g0_ : a.eval (.tmp 51) = .int .i64 ob := rp_at (hdep ⟨11, .data⟩ (by simp) rfl 51 rfl) (by decide) rfl
      exact opShowInt g0_ (sShowInt_calls ob X) (fun e w' ⟨h1, h2⟩ => ⟨_, h1, _, rfl, h2, rp_put (by decide) rfl⟩)
    | 13, _, ho =>
      obtain rfl := Option.some.inj ho
      have g0_ : a.eval (.tmp 49) = .string (txt (showZ ok) ++ txt (showZ (oa - P.last))) := rp_at (hdep ⟨9, .data⟩ (by simp) rfl 49 rfl) (by decide) rfl
      have g1_ : a.eval (.tmp 52) = .string (txt (showZ ob)) := rp_at (hdep ⟨12, .data⟩ (by simp) rfl 52 rfl) (by decide) rfl
      exact opAddStr s3 g0_ g1_  ⟨_, rfl, Below.refl _ _, rp_put (by decide) rfl⟩
    | 14, _, ho =>
      obtain rfl := Option.some.inj ho
      exact opFieldOp 3 (by omega) (alike_at hA (t := 4) (by kernel_rfl))  ⟨_, rfl, Below.refl _ _, rp_put (by decide) rfl⟩
    | 15, _, ho =>
      obtain rfl := Option.some.inj ho
      have g0_ : a.eval (.tmp 54) = .pointer (some ⟨w.heap.size + 1, 3, none⟩) := rp_at (hdep ⟨14, .data⟩ (by simp) rfl 54 rfl) (by decide) rfl
      exact opLoadInt g0_ (HC.out X hX).2.1.2.2.2 ⟨_, rfl, Below.refl _ _, rp_put (by decide) rfl⟩
    | 16, _, ho =>
      obtain rfl := Option.some.inj ho
      exact opFieldOp 1 (by omega) (alike_at hA (t := 4) (by kernel_rfl))  ⟨_, rfl, Below.refl _ _, rp_put (by decide) rfl⟩
    | 17, _, ho =>
      obtain rfl := Option.some.inj ho
      have g0_ : a.eval (.tmp 56) = .pointer (some ⟨w.heap.size + 1, 1, none⟩) := rp_at (hdep ⟨16, .data⟩ (by simp) rfl 56 rfl) (by decide) rfl
      exact opLoadInt g0_ (HC.out X hX).2.1.2.1 ⟨_, rfl, Below.refl _ _, rp_put (by decide) rfl⟩
    | 18, _, ho =>
      obtain rfl := Option.some.inj ho
      have g0_ : a.eval (.tmp 55) = .int .i64 oc := rp_at (hdep ⟨15, .data⟩ (by simp) rfl 55 rfl) (by decide) rfl
      have g1_ : a.eval (.tmp 57) = .int .i64 oa := rp_at (hdep ⟨17, .data⟩ (by simp) rfl 57 rfl) (by decide) rfl
      exact opSubV h4 g0_ g1_  ⟨_, rfl, Below.refl _ _, rp_put (by decide) rfl⟩
    | 19, _, ho =>
      obtain rfl := Option.some.inj ho
      have g0_ : a.eval (.tmp 58) = .int .i64 (oc - oa) := rp_at (hdep ⟨18, .data⟩ (by simp) rfl 58 rfl) (by decide) rfl
      exact opShowInt g0_ (sShowInt_calls (oc - oa) X) (fun e w' ⟨h1, h2⟩ => ⟨_, h1, _, rfl, h2, rp_put (by decide) rfl⟩)
    | 20, _, ho =>
      obtain rfl := Option.some.inj ho
      have g0_ : a.eval (.tmp 53) = .string ((txt (showZ ok) ++ txt (showZ (oa - P.last))) ++ txt (showZ ob)) := rp_at (hdep ⟨13, .data⟩ (by simp) rfl 53 rfl) (by decide) rfl
      have g1_ : a.eval (.tmp 59) = .string (txt (showZ (oc - oa))) := rp_at (hdep ⟨19, .data⟩ (by simp) rfl 59 rfl) (by decide) rfl
      exact opAddStr s4 g0_ g1_  ⟨_, rfl, Below.refl _ _, rp_put (by decide) rfl⟩
    | 21, _, ho =>
      obtain rfl := Option.some.inj ho
      exact opMove (alike_at hA (t := 8) (by kernel_rfl))  ⟨_, rfl, Below.refl _ _, rp_put (by decide) rfl⟩
    | 22, _, ho =>
      obtain rfl := Option.some.inj ho
      have g0_ : a.eval (.tmp 60) = .string (((txt (showZ ok) ++ txt (showZ (oa - P.last))) ++ txt (showZ ob)) ++ txt (showZ (oc - oa))) := rp_at (hdep ⟨20, .data⟩ (by simp) rfl 60 rfl) (by decide) rfl
      have g1_ : a.eval (.tmp 61) = .string (txt t5) := rp_at (hdep ⟨21, .data⟩ (by simp) rfl 61 rfl) (by decide) rfl
      exact opAddStr s5 g0_ g1_  ⟨_, rfl, Below.refl _ _, rp_put (by decide) rfl⟩
    | 23, _, ho =>
      obtain rfl := Option.some.inj ho
      exact opFieldAns 0 (by omega) (alike_at hA (t := 5) (by kernel_rfl))  ⟨_, rfl, Below.refl _ _, rp_put (by decide) rfl⟩
    | 24, _, ho =>
      obtain rfl := Option.some.inj ho
      have g0_ : a.eval (.tmp 63) = .pointer (some ⟨w.heap.size + 1 + 1, 0, none⟩) := rp_at (hdep ⟨23, .data⟩ (by simp) rfl 63 rfl) (by decide) rfl
      exact opLoadInt g0_ (HC.out X hX).2.2.1 ⟨_, rfl, Below.refl _ _, rp_put (by decide) rfl⟩
    | 25, _, ho =>
      obtain rfl := Option.some.inj ho
      have g0_ : a.eval (.tmp 64) = .int .i64 ac := rp_at (hdep ⟨24, .data⟩ (by simp) rfl 64 rfl) (by decide) rfl
      exact opVar g0_ (sVar_calls ac X) (fun e w' ⟨h1, h2⟩ => ⟨_, h1, _, rfl, h2, rp_put (by decide) rfl⟩)
    | 26, _, ho =>
      obtain rfl := Option.some.inj ho
      have g0_ : a.eval (.tmp 62) = .string ((((txt (showZ ok) ++ txt (showZ (oa - P.last))) ++ txt (showZ ob)) ++ txt (showZ (oc - oa))) ++ txt t5) := rp_at (hdep ⟨22, .data⟩ (by simp) rfl 62 rfl) (by decide) rfl
      have g1_ : a.eval (.tmp 65) = .string (txt (varZ ac)) := rp_at (hdep ⟨25, .data⟩ (by simp) rfl 65 rfl) (by decide) rfl
      exact opAddStr s6 g0_ g1_  ⟨_, rfl, Below.refl _ _, rp_put (by decide) rfl⟩
    | 27, _, ho =>
      obtain rfl := Option.some.inj ho
      exact opFieldAns 1 (by omega) (alike_at hA (t := 5) (by kernel_rfl))  ⟨_, rfl, Below.refl _ _, rp_put (by decide) rfl⟩
    | 28, _, ho =>
      obtain rfl := Option.some.inj ho
      have g0_ : a.eval (.tmp 67) = .pointer (some ⟨w.heap.size + 1 + 1, 1, none⟩) := rp_at (hdep ⟨27, .data⟩ (by simp) rfl 67 rfl) (by decide) rfl
      exact opLoadInt g0_ (HC.out X hX).2.2.2.1 ⟨_, rfl, Below.refl _ _, rp_put (by decide) rfl⟩
    | 29, _, ho =>
      obtain rfl := Option.some.inj ho
      exact opFieldOp 1 (by omega) (alike_at hA (t := 4) (by kernel_rfl))  ⟨_, rfl, Below.refl _ _, rp_put (by decide) rfl⟩
    | 30, _, ho =>
      obtain rfl := Option.some.inj ho
      have g0_ : a.eval (.tmp 69) = .pointer (some ⟨w.heap.size + 1, 1, none⟩) := rp_at (hdep ⟨29, .data⟩ (by simp) rfl 69 rfl) (by decide) rfl
      exact opLoadInt g0_ (HC.out X hX).2.1.2.1 ⟨_, rfl, Below.refl _ _, rp_put (by decide) rfl⟩
    | 31, _, ho =>
      obtain rfl := Option.some.inj ho
      have g0_ : a.eval (.tmp 68) = .int .i64 av := rp_at (hdep ⟨28, .data⟩ (by simp) rfl 68 rfl) (by decide) rfl
      have g1_ : a.eval (.tmp 70) = .int .i64 oa := rp_at (hdep ⟨30, .data⟩ (by simp) rfl 70 rfl) (by decide) rfl
      exact opSubV h7 g0_ g1_  ⟨_, rfl, Below.refl _ _, rp_put (by decide) rfl⟩
    | 32, _, ho =>
      obtain rfl := Option.some.inj ho
      have g0_ : a.eval (.tmp 71) = .int .i64 (av - oa) := rp_at (hdep ⟨31, .data⟩ (by simp) rfl 71 rfl) (by decide) rfl
      exact opShowInt g0_ (sShowInt_calls (av - oa) X) (fun e w' ⟨h1, h2⟩ => ⟨_, h1, _, rfl, h2, rp_put (by decide) rfl⟩)
    | 33, _, ho =>
      obtain rfl := Option.some.inj ho
      have g0_ : a.eval (.tmp 66) = .string (((((txt (showZ ok) ++ txt (showZ (oa - P.last))) ++ txt (showZ ob)) ++ txt (showZ (oc - oa))) ++ txt t5) ++ txt (varZ ac)) := rp_at (hdep ⟨26, .data⟩ (by simp) rfl 66 rfl) (by decide) rfl
      have g1_ : a.eval (.tmp 72) = .string (txt (showZ (av - oa))) := rp_at (hdep ⟨32, .data⟩ (by simp) rfl 72 rfl) (by decide) rfl
      exact opAddStr s7 g0_ g1_  ⟨_, rfl, Below.refl _ _, rp_put (by decide) rfl⟩
    | 34, _, ho =>
      obtain rfl := Option.some.inj ho
      exact opFieldAns 2 (by omega) (alike_at hA (t := 5) (by kernel_rfl))  ⟨_, rfl, Below.refl _ _, rp_put (by decide) rfl⟩
    | 35, _, ho =>
      obtain rfl := Option.some.inj ho
      have g0_ : a.eval (.tmp 74) = .pointer (some ⟨w.heap.size + 1 + 1, 2, none⟩) := rp_at (hdep ⟨34, .data⟩ (by simp) rfl 74 rfl) (by decide) rfl
      exact opLoadI g0_ (HC.out X hX).2.2.2.2 ⟨_, rfl, Below.refl _ _, rp_put (by decide) rfl⟩
    | 36, _, ho =>
      obtain rfl := Option.some.inj ho
      have g0_ : a.eval (.tmp 75) = .slice fa m fc := rp_at (hdep ⟨35, .data⟩ (by simp) rfl 75 rfl) (by decide) rfl
      exact opLenI g0_  ⟨_, rfl, Below.refl _ _, rp_put (by decide) rfl⟩
    | 37, _, ho =>
      obtain rfl := Option.some.inj ho
      have g0_ : a.eval (.tmp 76) = .int .i64 (m : Int) := rp_at (hdep ⟨36, .data⟩ (by simp) rfl 76 rfl) (by decide) rfl
      exact opVar g0_ (sVar_calls (m : Int) X) (fun e w' ⟨h1, h2⟩ => ⟨_, h1, _, rfl, h2, rp_put (by decide) rfl⟩)
    | 38, _, ho =>
      obtain rfl := Option.some.inj ho
      have g0_ : a.eval (.tmp 73) = .string ((((((txt (showZ ok) ++ txt (showZ (oa - P.last))) ++ txt (showZ ob)) ++ txt (showZ (oc - oa))) ++ txt t5) ++ txt (varZ ac)) ++ txt (showZ (av - oa))) := rp_at (hdep ⟨33, .data⟩ (by simp) rfl 73 rfl) (by decide) rfl
      have g1_ : a.eval (.tmp 77) = .string (txt (varZ (m : Int))) := rp_at (hdep ⟨37, .data⟩ (by simp) rfl 77 rfl) (by decide) rfl
      exact opAddStr s8 g0_ g1_  ⟨_, rfl, Below.refl _ _, rp_put (by decide) rfl⟩
    | i + 39, hi, _ => omega
  · intro o ho a X hX hA hdep
    obtain rfl := Option.some.inj ho
    have g0_ : a.eval (.tmp 78) = .string (((((((txt (showZ ok) ++ txt (showZ (oa - P.last))) ++ txt (showZ ob)) ++ txt (showZ (oc - oa))) ++ txt t5) ++ txt (varZ ac)) ++ txt (showZ (av - oa))) ++ txt (varZ (m : Int))) := rp_at (hdep ⟨38, .data⟩ (by simp) rfl 78 rfl) (by decide) rfl
    refine opAssignT g0_ ?_
    obtain ⟨us, hus, rfl⟩ := alike_tmps hA [40, 41, 42, 43, 44, 45, 46, 47, 48, 49, 50, 51, 52, 53, 54, 55, 56, 57, 58, 59, 60, 61, 62, 63, 64, 65, 66, 67, 68, 69, 70, 71, 72, 73, 74, 75, 76, 77, 78, 10] (by kernel_rfl)
    obtain ⟨L, hL⟩ : ∃ L, ((((((showZ ok ++ showZ (oa - P.last)) ++ showZ ob) ++ showZ (oc - oa)) ++ t5) ++ varZ ac) ++ showZ (av - oa)) ++ varZ (m : Int) = L := ⟨_, rfl⟩
    have hTL : ((((((txt (showZ ok) ++ txt (showZ (oa - P.last))) ++ txt (showZ ob)) ++ txt (showZ (oc - oa))) ++ txt t5) ++ txt (varZ ac)) ++ txt (showZ (av - oa))) ++ txt (varZ (m : Int)) = txt L := by rw [← hL]; simp only [txt_append]
    have HLE : Hid (evT P ⟨ok, oa, ob, oc, os⟩ ⟨ac, av, zs⟩ = L ++ freedT oa zs) := by
      show _ = _
      rw [HEV.out, ← hL]
      unfold opT ansT
      simp only [HT5.out, Hm.out, List.append_assoc]
    have hLl : L.length ≤ 65 := by
      rw [← hL]
      simp only [List.length_append]
      have := showZ_length ok
      have := showZ_length (oa - P.last)
      have := showZ_length ob
      have := showZ_length (oc - oa)
      have := varZ_length ac
      have := showZ_length (av - oa)
      have := varZ_length (m : Int)
      omega
    rw [hTL]
    have HB0 : Hid (Below V5.heap.size V5 X) := hX
    obtain ⟨-, ⟨-, u1, -⟩, -⟩ := HC.out X hX
    clear hdep hA hus ho hL hTL g0_ y1 y2 y3 y4 y5 y6 y7 y8 s2 s3 s4 s5 s6 s7 s8 h2 h4 h7 hw2 hw4 hw7 l5 HT5 HEV HC hX
    simp only [List.mapIdx_cons, List.mapIdx_nil, Nat.reduceAdd, List.contains_cons, List.contains_nil, Nat.reduceBEq, Bool.or_false, Bool.or_true, if_true, if_false, Bool.false_eq_true]
    have CI : Hid (∀ (n : Int) (X : World), _) := fun n X => sShowInt_calls n X
    have HK5 : Hid (∀ X, Below V5.heap.size V5 X → Below W.heap.size W X) := fun X hX => HT5b.out.trans (hX.mono HT5b.out.size)
    go_wp2
    clear u1
    go_loopw [10, 11, 12] (fun s l i wr => ∃ j : Nat, j ≤ m ∧ i = .int .i64 (j : Int) ∧ l = .int .i64 (aheadAt oa zs j) ∧ s = .string (txt (L ++ freedT oa (zs.take j))) ∧ Hid (Below V5.heap.size V5 wr)) (fun _ _ i _ => m - (intOf i).toNat)
    case atStart => exact ⟨0, Nat.zero_le _, rfl, rfl, by simp only [List.take_zero, freedT, List.append_nil], HB0⟩
    case round =>
      clear HB0
      obtain ⟨j, hj, rfl, rfl, rfl, HB⟩ := hrel
      obtain ⟨-, hop, ⟨-, -, v2⟩, hres⟩ := HK.out _ (HK5.out _ HB.out)
      by_cases hlt : j < m
      · clear hop hres
        have hj2 : j < zs.length := by have := Hm.out; omega
        obtain ⟨g, off, rfl, hg, hc⟩ := HFI.out _ (HK5.out _ HB.out) j hj2
        have hzj := HZK.out _ (List.getElem_mem hj2)
        have hok : okZ (aheadAt oa zs j) := by
          unfold aheadAt
          by_cases h0 : j = 0
          · rw [if_pos h0]; exact HOA.out
          · rw [if_neg h0, List.getD_eq_getElem?_getD, List.getElem?_eq_getElem (by omega)]
            exact HZK.out _ (List.getElem_mem (by omega))
        have hft := freedT_take zs oa j hj2
        have htl := freedT_length (zs.take j) oa
        rw [List.length_take] at htl
        have HNX : Hid (txt (L ++ freedT oa (zs.take j)) ++ txt (showZ (zs[j] - aheadAt oa zs j)) = txt (L ++ freedT oa (zs.take (j + 1)))) := by
          show _ = _
          rw [txt_append, hft, List.append_assoc]; rfl
        have HAH : Hid (aheadAt oa zs (j + 1) = zs[j]) := by
          show _ = _
          unfold aheadAt
          rw [if_neg (by omega), Nat.add_sub_cancel, List.getD_eq_getElem?_getD, List.getElem?_eq_getElem hj2]; rfl
        have hw : wrap64 (zs[j] - aheadAt oa zs j) = zs[j] - aheadAt oa zs j := wrap64_in (by omega) (by omega)
        have CJ : Hid _ := CI.out (zs[j] - aheadAt oa zs j)
        have hsz : (txt (L ++ freedT oa (zs.take j))).size + (txt (showZ (zs[j] - aheadAt oa zs j))).size ≤ 9223372036854775807 := by
          rw [txt_size, txt_size, List.length_append]
          have := showZ_length (zs[j] - aheadAt oa zs j)
          omega
        have hsz2 : ¬ 9223372036854775807 < (txt (L ++ freedT oa (zs.take j))).size + (txt (showZ (zs[j] - aheadAt oa zs j))).size := Nat.not_lt.2 hsz
        have i1 : (j : Int) < (m : Int) := by omega
        have i0 : (0 : Int) ≤ (j : Int) := by omega
        clear hft htl hok hzj
        generalize txt (L ++ freedT oa (zs.take j)) = ta at *
        generalize txt (showZ (zs[j] - aheadAt oa zs j)) = tb at *
        generalize aheadAt oa zs j = h0 at *
        generalize zs[j] = z at *
        go_wp2_with fail
        refine (Calls.mono (CJ.out _) ?_)
        rintro e w7 ⟨rfl, b7⟩
        have HB7 : Hid (Below V5.heap.size V5 w7) := HB.out.trans (b7.mono HB.out.size)
        obtain ⟨-, -, ⟨-, -, v2⟩, -⟩ := HK.out _ (HK5.out _ HB7.out)
        have hc7 : w7.cell? ⟨g, off + j, none⟩ = some (.int .i64 z) := (b7.cell (p := ⟨g, off + j, none⟩) hg).trans hc
        clear hc b7 HB
        go_wp2
        go_roundw
        case rel => exact ⟨j + 1, by omega, by go_num, by rw [HAH.out], by rw [← HNX.out], HB7⟩
        case measure => simp [intOf]; omega
      · have ej : m ≤ j := by omega
        have HLF : Hid (L ++ freedT oa (zs.take j) = evT P ⟨ok, oa, ob, oc, os⟩ ⟨ac, av, zs⟩) := by
          show _ = _
          rw [HLE.out, List.take_of_length_le (by have := Hm.out; omega)]
        obtain ⟨-, u1, -⟩ := hop.cells
        simp only at u1
        obtain ⟨hx, ho⟩ := HX.out _ HB.out
        rw [hgxe] at hx hgx
        obtain ⟨x0, x1⟩ := hx.cells
        have xz : wr.frozen? ⟨gx, 0, none⟩ = false := Lib.frozen_of_heap hx 0
        have hX2 := hx.set (.int .i64 oa) (.slice y n1 cy)
        have hsw := HSW.out
        have hng : ¬ gx = w.heap.size + 1 + 1 + 1 := by omega
        have hng2 : ¬ w.heap.size + 1 + 1 + 1 = gx := by omega
        have hXa : Two (wr.setCell ⟨gx, 0, none⟩ (.int .i64 oa)) gx (.int .i64 oa) (.slice y n1 cy) := by
          unfold Two at *
          simp [World.setCell, Array.getElem?_modify, hx]
        have hRa : Two (wr.setCell ⟨gx, 0, none⟩ (.int .i64 oa)) (w.heap.size + 1 + 1 + 1) (.int .i64 0) (.slice none 0 0) := (Below.heap_setCell _ _ _ _ (by exact hng2)).trans hres
        have hOa : ownS (wr.setCell ⟨gx, 0, none⟩ (.int .i64 oa)) W.heap.size (.slice y n1 cy) (namesB P.sites os) := row_same ho (fun k hk => by
          obtain ⟨cur, hkk⟩ := row_kind ho k hk
          exact Below.heap_setCell _ _ _ _ (kind_ne hkk hx (by decide)))
        have hBa : Below w.heap.size w (wr.setCell ⟨gx, 0, none⟩ (.int .i64 oa)) := (HWX.out _ (HK5.out _ HB.out)).setCell (by simp only; omega) _
        have HF : Hid (ownS (((wr.setCell ⟨gx, 0, none⟩ (.int .i64 oa)).setCell ⟨w.heap.size + 1 + 1 + 1, 0, none⟩ (.int .i64 oa)).setCell ⟨w.heap.size + 1 + 1 + 1, 1, none⟩ (.slice y n1 cy)) w.heap.size (.slice y n1 cy) (namesB P.sites os) ∧ Below w.heap.size w (((wr.setCell ⟨gx, 0, none⟩ (.int .i64 oa)).setCell ⟨w.heap.size + 1 + 1 + 1, 0, none⟩ (.int .i64 oa)).setCell ⟨w.heap.size + 1 + 1 + 1, 1, none⟩ (.slice y n1 cy))) :=
          ⟨ownS_mono (ownS_far _ _ (ownS_far _ _ hOa (by simp only; omega)) (by simp only; omega)) (by omega), (hBa.setCell (by simp only; omega) _).setCell (by simp only; omega) _⟩
        obtain ⟨d0, d1⟩ := hXa.cells
        obtain ⟨r0, r1⟩ := hRa.cells
        have z0 : (wr.setCell ⟨gx, 0, none⟩ (.int .i64 oa)).frozen? ⟨w.heap.size + 1 + 1 + 1, 0, none⟩ = false := Lib.frozen_of_heap hRa 0
        have z1 : (wr.setCell ⟨gx, 0, none⟩ (.int .i64 oa)).frozen? ⟨w.heap.size + 1 + 1 + 1, 1, none⟩ = false := Lib.frozen_of_heap hRa 1
        clear hop hres hx ho hX2 hXa hRa hOa hBa HX HK HFI HB HK5 HT5b CI HLE hsw hgx HSW
        generalize freedT oa (zs.take j) = ft at *
        go_wp2_with fail
        generalize wr.setCell ⟨gx, 0, none⟩ (.int .i64 oa) = Z0 at *
        go_region_held (fun X => X.cell? ⟨gx, 0, none⟩ = some (.int .i64 oa) ∧ X.cell? ⟨gx, 1, none⟩ = some (.slice y n1 cy)) (first | exact ⟨d0, d1⟩ | exact ⟨(keep_far _ _ (by exact hng2) 0).trans ((keep_far _ _ (by exact hng2) 0).trans d0), (keep_far _ _ (by exact hng2) 1).trans ((keep_far _ _ (by exact hng2) 1).trans d1)⟩) (fail)
        all_goals
          go_wp2
          refine bodyPost_ret (v := .tuple #[.string (txt (L ++ ft)), .agg #[.int .i64 oa, .slice y n1 cy]]) (by simp [results, Tryd.results28, go_sem, *]) rfl ⟨.agg #[.int .i64 oa, .slice y n1 cy], by rw [HLF.out], ⟨.slice y n1 cy, rfl, HF.out.1⟩, HF.out.2.drew⟩

end Go.Proofs.YtcjpepdagnifiaaDoor
