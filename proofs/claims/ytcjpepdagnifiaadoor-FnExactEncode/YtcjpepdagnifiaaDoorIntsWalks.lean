/- What the laws' own helpers on rows of numbers do: eqIntS, markIntS, heldIntS. -/
import Derived.Test.YtcjpepdagnifiaaDoorOwnI
import Derived.Deep.RegionHeld
namespace Go.Proofs.YtcjpepdagnifiaaDoor
open Go.RowKit
set_option linter.unusedVariables false

/-- The numbers k, k + 1, ..: what a row is marked with. -/
def marks (k : Int) : Nat → List Int
  | 0 => []
  | n + 1 => k :: marks (k + 1) n
theorem marks_length : ∀ (n : Nat) (k : Int), (marks k n).length = n := by
  intro n
  induction n with
  | zero => intro k; rfl
  | succ n ih => intro k; simp [marks, ih]
theorem marks_at : ∀ (n : Nat) (k : Int) (j : Nat) (h : j < (marks k n).length), (marks k n)[j] = k + (j : Int) := by
  intro n
  induction n with
  | zero => intro k j h; simp [marks] at h
  | succ n ih =>
    intro k j h
    cases j with
    | zero => simp [marks]
    | succ j =>
      simp only [marks, List.getElem_cons_succ]
      rw [ih]
      omega
/-- The first j numbers of a row marked. -/
def marked (k : Int) (zs : List Int) (j : Nat) : List Int := marks k j ++ zs.drop j
theorem marked_length (k : Int) (zs : List Int) (j : Nat) (h : j ≤ zs.length) : (marked k zs j).length = zs.length := by
  unfold marked; rw [List.length_append, marks_length, List.length_drop]; omega
theorem marks_succ : ∀ (n : Nat) (k : Int), marks k (n + 1) = marks k n ++ [k + (n : Int)] := by
  intro n
  induction n with
  | zero => intro k; simp [marks]
  | succ n ih =>
    intro k
    have h := ih (k + 1)
    have e : marks k (n + 1 + 1) = k :: marks (k + 1) (n + 1) := rfl
    rw [e, h]
    have e2 : k + 1 + (n : Int) = k + ((n + 1 : Nat) : Int) := by omega
    rw [e2]
    rfl
theorem marked_succ (k : Int) (zs : List Int) (j : Nat) (h : j < zs.length) : (marked k zs j).set j (k + (j : Int)) = marked k zs (j + 1) := by
  unfold marked
  rw [marks_succ, List.drop_eq_getElem_cons h, List.set_append_right _ _ (by rw [marks_length]; omega), marks_length, Nat.sub_self, List.set_cons_zero, List.append_assoc]
  rfl
theorem marked_all (k : Int) (zs : List Int) : marked k zs zs.length = marks k zs.length := by
  unfold marked; rw [List.drop_length, List.append_nil]

theorem eqIntS_calls (w : World) (B C : Nat) (v u : Value) (zs ys : List Int) (h1 : ownI w B v zs) (h2 : ownI w C u ys) (hz : zs.length ≤ 16777216) (hy : ys.length ≤ 16777216) (he : zs = ys) :
    Calls Tryd.prog 34 #[v, u] w fun e w' => e = .returned (.bool true) ∧ Below w.heap.size w w' := by
  subst he
  obtain ⟨a, cap, rfl, HA⟩ := ownI_read h1
  obtain ⟨b, cap2, rfl, HB⟩ := ownI_read h2
  clear h1 h2
  have HL : Hid (zs.length ≤ 16777216) := hz
  obtain ⟨n, hn⟩ : ∃ n, zs.length = n := ⟨_, rfl⟩
  have Hn : Hid (zs.length = n) := hn
  rw [hn] at hz ⊢
  clear hn hy HL
  go_enter Tryd.func34, Tryd.ntmps34
  go_wp2
  go_loopw [5] (fun i wr => ∃ j : Nat, j ≤ n ∧ i = .int .i64 j ∧ Below w.heap.size w wr ∧ Hid (∀ p, wr.cell? p = w.cell? p)) (fun i _ => n - (intOf i).toNat)
  case atStart => exact ⟨0, by omega, rfl, Below.refl _ _, fun _ => rfl⟩
  case round =>
    obtain ⟨j, hj, rfl, hb, HW⟩ := hrel
    by_cases hlt : j < n
    · have hj2 : j < zs.length := by have := Hn.out; omega
      obtain ⟨g, rfl, hc1⟩ := HA.out j hj2
      obtain ⟨g2, rfl, hc2⟩ := HB.out j hj2
      rw [← HW.out] at hc1 hc2
      generalize zs[j] = z at hc1 hc2
      go_wp2
      go_region
      all_goals
        go_wp2
        go_roundw
        case rel => exact ⟨j + 1, by omega, by go_num, hb.drew, fun p => HW.out p⟩
        case measure => simp [intOf]; omega
    · go_wp2
      go_ret
      exact ⟨rfl, hb⟩

theorem markIntS_calls (w : World) (B : Nat) (v : Value) (zs : List Int) (k : Int) (h : ownI w B v zs) (hz : zs.length ≤ 16777216) (h0 : 0 ≤ k) (h1 : k ≤ 1000000000000) :
    Calls Tryd.prog 37 #[v, .int .i64 k] w fun e w' => e = .returned (.int .i64 (k + (zs.length : Int))) ∧ ownI w' B v (marks k zs.length) ∧ Below B w w' := by
  obtain ⟨n, hn⟩ : ∃ n, zs.length = n := ⟨_, rfl⟩
  have Hn : Hid (zs.length = n) := hn
  rw [hn] at hz ⊢
  obtain ⟨a, cap, hv, -⟩ := ownI_read h
  have HO : Hid (ownI w B v zs) := h
  have HM : Hid (marked k zs n = marks k n) := by show _ = _; have := marked_all k zs; rw [hn] at this; exact this
  rw [hn] at hv
  subst hv
  clear hn h
  go_enter Tryd.func37, Tryd.ntmps37
  go_wp2
  go_loopw [1, 5] (fun x i wr => ∃ j : Nat, j ≤ n ∧ i = .int .i64 j ∧ x = .int .i64 (k + (j : Int)) ∧ Hid (ownI wr B (.slice a n cap) (marked k zs j)) ∧ Below B w wr) (fun _ i _ => n - (intOf i).toNat)
  case atStart => exact ⟨0, by omega, rfl, by simp, HO.out, Below.refl _ _⟩
  case round =>
    obtain ⟨j, hj, rfl, rfl, HW, hb⟩ := hrel
    have hml : (marked k zs j).length = n := by rw [marked_length k zs j (by have := Hn.out; omega), Hn.out]
    by_cases hlt : j < n
    · rcases ownI_form HW.out with ⟨he, -⟩ | ⟨g, cap', he, hBg, -, -, -, HC⟩
      · simp only [Value.slice.injEq] at he
        omega
      · simp only [Value.slice.injEq] at he
        obtain ⟨rfl, -, rfl⟩ := he
        obtain ⟨hcell, hfr⟩ := HC.out j (by rw [hml]; exact hlt)
        have HS := ownI_set HW.out hml.symm j (k + (j : Int))
        rw [marked_succ k zs j (by have := Hn.out; omega)] at HS
        have HS2 : Hid (ownI _ B _ _) := HS
        generalize (marked k zs j)[j] = z at hcell
        clear HS HC hml
        go_wp2
        go_roundw
        case rel => exact ⟨j + 1, by omega, by go_num, by go_num, HS2, hb.setCell (p := ⟨g, j, none⟩) hBg _⟩
        case measure => simp [intOf]; omega
    · obtain rfl : j = n := by omega
      clear hml
      go_wp2
      go_ret
      exact ⟨rfl, HM.out ▸ HW.out, hb⟩

theorem heldIntS_calls (w : World) (B : Nat) (v : Value) (n : Nat) (k : Int) (h : ownI w B v (marks k n)) (hz : n ≤ 16777216) (h0 : 0 ≤ k) (h1 : k ≤ 1000000000000) :
    Calls Tryd.prog 38 #[v, .int .i64 k] w fun e w' => e = .returned (.int .i64 (k + (n : Int))) ∧ w' = w := by
  obtain ⟨a, cap, rfl, HA⟩ := ownI_read h
  have Hn : Hid ((marks k n).length = n) := marks_length n k
  have HK : Hid (∀ (j : Nat) (h : j < (marks k n).length), (marks k n)[j] = k + (j : Int)) := marks_at n k
  clear h
  rw [Hn.out]
  go_enter Tryd.func38, Tryd.ntmps38
  go_wp2
  go_loop [1, 5] (fun x i => ∃ j : Nat, j ≤ n ∧ i = .int .i64 j ∧ x = .int .i64 (k + (j : Int))) (fun _ i => n - (intOf i).toNat)
  case atStart => exact ⟨0, by omega, rfl, by simp⟩
  case round =>
    obtain ⟨j, hj, rfl, rfl⟩ := hrel
    by_cases hlt : j < n
    · have hj2 : j < (marks k n).length := by have := Hn.out; omega
      obtain ⟨g, rfl, hc1⟩ := HA.out j hj2
      rw [HK.out j hj2] at hc1
      go_wp2
      go_round
      case rel => exact ⟨j + 1, by omega, by go_num, by go_num⟩
      case measure => simp [intOf]; omega
    · obtain rfl : j = n := by omega
      go_wp2
      go_ret
      exact ⟨rfl, rfl⟩

end Go.Proofs.YtcjpepdagnifiaaDoor
