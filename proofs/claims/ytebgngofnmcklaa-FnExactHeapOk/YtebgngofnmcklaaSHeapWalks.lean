/- What spec.IdOf, spec.SlotOf and spec.l5Has answer. -/
import Derived.Test.YtebgngofnmcklaaHeapBase
import Derived.Test.YtebgngofnmcklaaRfWalks
namespace Go.Proofs.Ytebgngofnmcklaa
open Go.RowKit
set_option linter.unusedVariables false

def idZ (slot gen : Int) : Int := if 0 ≤ slot ∧ slot ≤ 7 ∧ 1 ≤ gen ∧ gen ≤ 999 then slot + 8 * gen else -1

theorem sIdOf_calls (slot gen : Int) (w : World) :
    Calls Try.prog 17 #[.int .i64 slot, .int .i64 gen] w fun e w' => e = .returned (.int .i64 (idZ slot gen)) ∧ w' = w := by
  by_cases h1 : slot < 0 ∨ 7 < slot
  · have HE : Hid (idZ slot gen = -1) := by show _ = _; unfold idZ; rw [if_neg (by omega)]
    have C1 : Hid (∀ X, _) := fun X => l1In_no slot 0 7 X h1
    clear h1
    go_enter Try.func17, Try.ntmps17
    go_wp2_with (go_at_call 13; refine (C1.out _).mono ?_; rintro e w' ⟨rfl, rfl⟩)
    go_ret
    exact ⟨ret_zz HE.out.symm, rfl⟩
  · have C1 : Hid (∀ X, _) := fun X => l1In_yes slot 0 7 X (by omega) (by omega)
    by_cases h2 : gen < 1 ∨ 999 < gen
    · have HE : Hid (idZ slot gen = -1) := by show _ = _; unfold idZ; rw [if_neg (by omega)]
      have C2 : Hid (∀ X, _) := fun X => l1In_no gen 1 999 X h2
      clear h1 h2
      go_enter Try.func17, Try.ntmps17
      go_wp2_with fail
      refine (C1.out _).mono ?_
      rintro e w1 ⟨rfl, rfl⟩
      go_wp2_with fail
      refine (C2.out _).mono ?_
      rintro e w2 ⟨rfl, rfl⟩
      go_wp2
      go_ret
      exact ⟨ret_zz HE.out.symm, rfl⟩
    · have HE : Hid (idZ slot gen = slot + 8 * gen) := by show _ = _; unfold idZ; rw [if_pos (by omega)]
      have C2 : Hid (∀ X, _) := fun X => l1In_yes gen 1 999 X (by omega) (by omega)
      have g1 : 0 ≤ slot := by omega
      have g2 : slot ≤ 7 := by omega
      have g3 : 1 ≤ gen := by omega
      have g4 : gen ≤ 999 := by omega
      clear h1 h2
      go_enter Try.func17, Try.ntmps17
      go_wp2_with fail
      refine (C1.out _).mono ?_
      rintro e w1 ⟨rfl, rfl⟩
      go_wp2_with fail
      refine (C2.out _).mono ?_
      rintro e w2 ⟨rfl, rfl⟩
      go_wp2
      go_ret
      exact ⟨ret_zz HE.out.symm, rfl⟩

/-- Where a live object of an id stands. -/
def slotZ (H : HeapD) (id : Int) : Int :=
  if id < 8 ∨ H.objs.length ≠ 8 then -1
  else match H.objs[(id % 8).toNat]? with
    | none => -1
    | some o => if o.live = true ∧ o.gen = id / 8 then id % 8 else -1

theorem sSlotOf_calls (v : Value) (H : HeapD) (id : Int) (w : World) (h : RdH w v H) (hn : H.objs.length ≤ 9223372036854775807) (h0 : -9223372036854775808 ≤ id) (h9 : id ≤ 9223372036854775807) :
    Calls Try.prog 14 #[v, .int .i64 id] w fun e w' => e = .returned (.int .i64 (slotZ H id)) ∧ Below w.heap.size w w' := by
  obtain ⟨ao, co, aw, cw, ab, cb, sa, sc, rfl, ro, -, -, -⟩ := h
  by_cases h1 : id < 8
  · have HE : Hid (slotZ H id = -1) := by show _ = _; unfold slotZ; rw [if_pos (.inl h1)]
    clear ro
    go_enter Try.func14, Try.ntmps14
    go_wp2
    go_ret
    exact ⟨ret_zz HE.out.symm, (Below.refl _ _).alloc (Nat.le_refl _) _⟩
  · by_cases h2 : H.objs.length = 8
    · have RO := rdO_later ro ((Below.refl w.heap.size w).alloc (Nat.le_refl _) (.cells #[.slice ao H.objs.length co, .slice aw H.weaks.length cw, .slice ab H.buffer.length cb, .slice sa H.sites.length sc] 33))
      obtain ⟨k, hk⟩ : ∃ k : Nat, id % 8 = (k : Int) := ⟨(id % 8).toNat, by omega⟩
      have hk8 : k < 8 := by omega
      obtain ⟨g, off, f, fc, rfl, hg, hc, -⟩ := RO k (by omega)
      obtain ⟨o, ho⟩ : ∃ o, H.objs[k] = o := ⟨_, rfl⟩
      rw [ho] at hc
      have HE : Hid (slotZ H id = if o.live = true ∧ o.gen = id / 8 then (k : Int) else -1) := by
        show _ = _
        unfold slotZ
        rw [if_neg (by omega), hk, show ((k : Int)).toNat = k from by omega, List.getElem?_eq_getElem (by omega), ho]
      obtain ⟨c0, c1, -⟩ := hc
      have hm : id.tmod 8 = (k : Int) := by rw [Int.tmod_eq_emod_of_nonneg (by omega), hk]
      have hd : id.tdiv 8 = id / 8 := Int.tdiv_eq_ediv_of_nonneg (by omega)
      clear ro RO ho hk
      rw [h2] at c0 c1 ⊢
      obtain ⟨q, hq⟩ : ∃ q, id / 8 = q := ⟨_, rfl⟩
      rw [hq] at hd HE
      have h8 : 8 ≤ id := by omega
      have hq0 : 0 ≤ q ∧ q ≤ 9223372036854775807 := by omega
      obtain ⟨ol, og, os1, oh, orr, oc, ofl, op⟩ := o
      simp only at c0 c1 HE
      clear h1 hq
      cases ol with
      | false =>
        have HR : Hid (slotZ H id = -1) := by show _ = _; rw [HE.out, if_neg (by simp)]
        go_enter Try.func14, Try.ntmps14
        go_wp2
        go_ret
        exact ⟨ret_zz HR.out.symm, (Below.refl _ _).alloc (Nat.le_refl _) _⟩
      | true =>
        by_cases hgq : og = q
        · have HR : Hid (slotZ H id = (k : Int)) := by show _ = _; rw [HE.out, if_pos ⟨rfl, hgq⟩]
          subst hgq
          go_enter Try.func14, Try.ntmps14
          go_wp2
          go_ret
          exact ⟨ret_zz HR.out.symm, (Below.refl _ _).alloc (Nat.le_refl _) _⟩
        · have HR : Hid (slotZ H id = -1) := by show _ = _; rw [HE.out, if_neg (by simp [hgq])]
          have hgn : (og != q) = true := by rw [bne_iff_ne]; exact hgq
          go_enter Try.func14, Try.ntmps14
          go_wp2
          go_ret
          exact ⟨ret_zz HR.out.symm, (Below.refl _ _).alloc (Nat.le_refl _) _⟩
    · have HE : Hid (slotZ H id = -1) := by show _ = _; unfold slotZ; rw [if_pos (.inr h2)]
      have h3 : ¬ ((H.objs.length : Int) = 8) := by omega
      clear ro
      go_enter Try.func14, Try.ntmps14
      go_wp2
      go_ret
      exact ⟨ret_zz HE.out.symm, (Below.refl _ _).alloc (Nat.le_refl _) _⟩

theorem ret_bb {a b : Bool} (h : a = b) : Ending.returned (.bool a) = .returned (.bool b) := by rw [h]

theorem sHas_calls (w : World) (a : Option Addr) (cap : Nat) (zs : List Int) (x : Int) (h : RdI w a zs) (hn : zs.length ≤ 9223372036854775806) :
    Calls Try.prog 16 #[.slice a zs.length cap, .int .i64 x] w fun e w' => e = .returned (.bool (decide (x ∈ zs))) ∧ w' = w := by
  have HA : Hid (RdI w a zs) := h
  obtain ⟨n, hnn⟩ : ∃ n, zs.length = n := ⟨_, rfl⟩
  have Hn : Hid (zs.length = n) := hnn
  have HD : Hid (∀ (j : Nat) (h : j < zs.length), (x ∈ zs.drop j) ↔ (x = zs[j] ∨ x ∈ zs.drop (j + 1))) := by
    intro j hj
    rw [List.drop_eq_getElem_cons hj, List.mem_cons]
  have H0 : Hid (decide (x ∈ zs) = decide (x ∈ zs.drop 0)) := by show _ = _; rw [List.drop_zero]
  have HF : Hid (¬ x ∈ zs.drop n) := by show ¬ _; rw [← hnn, List.drop_length]; simp
  rw [hnn] at hn ⊢
  generalize decide (x ∈ zs) = b at *
  clear h hnn
  go_enter Try.func16, Try.ntmps16
  go_wp2
  go_loop [5] (fun i => ∃ j : Nat, j ≤ n ∧ i = .int .i64 j ∧ Hid (b = decide (x ∈ zs.drop j))) (fun i => n - (intOf i).toNat)
  case atStart => exact ⟨0, by omega, rfl, H0⟩
  case round =>
    obtain ⟨j, hj, rfl, HJ⟩ := hrel
    by_cases hlt : j < n
    · have hj2 : j < zs.length := by have := Hn.out; omega
      obtain ⟨g, off, rfl, -, hc⟩ := HA.out j hj2
      have HD2 : Hid (_ ↔ _) := HD.out j hj2
      generalize zs[j] = z at *
      by_cases he : z = x
      · have HR : Hid (b = true) := by show _ = _; rw [HJ.out]; exact decide_eq_true (HD2.out.2 (.inl he.symm))
        subst he
        go_wp2
        go_ret
        exact ⟨ret_bb HR.out.symm, rfl⟩
      · have HR : Hid (b = decide (x ∈ zs.drop (j + 1))) := by
          show _ = _
          rw [HJ.out, decide_eq_decide, HD2.out]
          exact ⟨fun h => h.resolve_left (fun e => he e.symm), .inr⟩
        have hq : (z == x) = false := by rw [beq_eq_false_iff_ne]; exact he
        go_wp2
        go_round
        case rel => exact ⟨j + 1, by omega, by go_num, HR⟩
        case measure => simp [intOf]; omega
    · obtain rfl : j = n := by omega
      have HR : Hid (b = false) := by show _ = _; rw [HJ.out]; exact decide_eq_false HF.out
      go_wp2
      go_ret
      exact ⟨ret_bb HR.out.symm, rfl⟩

end Go.Proofs.Ytebgngofnmcklaa
