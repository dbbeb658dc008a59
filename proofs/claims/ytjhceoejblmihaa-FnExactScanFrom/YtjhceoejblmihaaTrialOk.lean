/- What spec.l7Ok answers. -/
import Derived.Test.YtjhceoejblmihaaTrialWalks
namespace Go.Proofs.Ytjhceoejblmihaa
open Go.RowKit
set_option linter.unusedVariables false
set_option maxRecDepth 100000

/-- Eight of each, and something live in the slot. -/
structure OkT (H : HeapD) (T : TrialD) (slot : Int) : Prop where
  objs : H.objs.length = 8
  counts : T.counts.length = 8
  colors : T.colors.length = 8
  lo : 0 ≤ slot
  hi : slot ≤ 7
  live : ∃ o, H.objs[slot.toNat]? = some o ∧ o.live = true

theorem sOkT_calls (v u : Value) (H : HeapD) (T : TrialD) (slot : Int) (w : World) (h : RdH w v H) (ht : RdT w u T) (hs : SmallH H) (hst : SmallT T) (b : Bool) (hb : b = true ↔ OkT H T slot) :
    Calls Try.prog 58 #[v, u, .int .i64 slot] w fun e w' => e = .returned (.bool b) ∧ Below w.heap.size w w' := by
  obtain ⟨ao, co, aw, cw, ab, cb, sa, sc, rfl, ro, -, -, -⟩ := h
  obtain ⟨xa, xc, ya, yc, rfl, -, -⟩ := ht
  have l0 := hs.objs
  have l1 := hst.counts
  have l2 := hst.colors
  obtain ⟨W, hW⟩ : ∃ W, W = (w.alloc (.cells #[.slice ao H.objs.length co, .slice aw H.weaks.length cw, .slice ab H.buffer.length cb, .slice sa H.sites.length sc] 35)).alloc (.cells #[.slice xa T.counts.length xc, .slice ya T.colors.length yc] 30) := ⟨_, rfl⟩
  have BW : Below w.heap.size w W := by rw [hW]; exact ((Below.refl _ _).alloc (Nat.le_refl _) _).alloc (by simp) _
  have HB : Hid (b = true ↔ OkT H T slot) := hb
  clear hs hst hb
  obtain ⟨n, hn⟩ : ∃ n, H.objs.length = n := ⟨_, rfl⟩
  obtain ⟨m, hm⟩ : ∃ m, T.counts.length = m := ⟨_, rfl⟩
  obtain ⟨k, hk⟩ : ∃ k, T.colors.length = k := ⟨_, rfl⟩
  have Hn : Hid (H.objs.length = n) := hn
  have Hm : Hid (T.counts.length = m) := hm
  have Hk : Hid (T.colors.length = k) := hk
  rw [hn] at l0 hW ⊢
  rw [hm] at l1 hW ⊢
  rw [hk] at l2 hW ⊢
  have HR : Hid (RdO W ao H.objs) := rdO_later ro BW
  have no : ¬ OkT H T slot → b = false := fun hno => by
    cases b with
    | false => rfl
    | true => exact absurd (HB.out.1 rfl) hno
  clear hn hm hk ro
  by_cases g1 : n = 8
  · have c1 : ((n : Int) == 8) = true := by simp [g1]
    by_cases g2 : m = 8
    · have c2 : ((m : Int) == 8) = true := by simp [g2]
      by_cases g3 : k = 8
      · have c3 : ((k : Int) == 8) = true := by simp [g3]
        by_cases g4 : slot < 0 ∨ 7 < slot
        · have C1 : Hid (∀ X, _) := fun X => l1In_no slot 0 7 X g4
          obtain rfl := no (fun h => by have := h.lo; have := h.hi; omega)
          subst g1 g2 g3
          clear g4 no HB HR
          go_enter Try.func58, Try.ntmps58
          go_wp2_with fail
          rw [← hW]
          clear hW
          refine (C1.out _).mono ?_
          rintro e W1 ⟨rfl, hw1⟩
          subst hw1
          go_wp2
          go_ret
          exact ⟨rfl, BW⟩
        · have C1 : Hid (∀ X, _) := fun X => l1In_yes slot 0 7 X (by omega) (by omega)
          obtain ⟨s, rfl⟩ : ∃ s : Nat, slot = (s : Int) := ⟨slot.toNat, by omega⟩
          have hs8 : s < 8 := by omega
          have hsl : s < H.objs.length := by have := Hn.out; omega
          obtain ⟨g, off, f, fc, rfl, -, hc, -⟩ := HR.out s hsl
          obtain ⟨o, ho⟩ : ∃ o, H.objs[s] = o := ⟨_, rfl⟩
          rw [ho] at hc
          have c0 := hc.c0
          have HV : Hid (b = o.live) := by
            show b = o.live
            have hg : H.objs[((s : Nat) : Int).toNat]? = some o := by rw [show ((s : Nat) : Int).toNat = s from by omega, List.getElem?_eq_getElem hsl, ho]
            cases hl : o.live with
            | true => exact HB.out.2 ⟨by have := Hn.out; omega, by have := Hm.out; omega, by have := Hk.out; omega, by omega, by omega, o, hg, hl⟩
            | false => exact no (fun h => by
                obtain ⟨o2, h1, h2⟩ := h.live
                rw [hg] at h1
                injection h1 with h1
                subst h1
                rw [hl] at h2
                cases h2)
          subst g1 g2 g3
          clear no HB HR hc ho hsl
          generalize o.live = lv at *
          have p0 : W.cell? ⟨w.heap.size, 0, none⟩ = some (.slice (some ⟨g, off, none⟩) 8 co) := by
            rw [hW]
            rw [((Below.refl _ _).alloc (Nat.le_refl _) _ : Below _ (w.alloc (.cells #[.slice (some ⟨g, off, none⟩) 8 co, .slice aw H.weaks.length cw, .slice ab H.buffer.length cb, .slice sa H.sites.length sc] 35)) _).cell (p := ⟨w.heap.size, 0, none⟩) (by simp), World.cell?_alloc_mark]
            rfl
          go_enter Try.func58, Try.ntmps58
          go_wp2_with fail
          rw [← hW]
          clear hW
          refine (C1.out _).mono ?_
          rintro e W1 ⟨rfl, hw1⟩
          subst hw1
          go_wp2
          go_ret
          exact ⟨by rw [HV.out]; rfl, BW⟩
      · obtain rfl := no (fun h => g3 (by have := h.colors; have := Hk.out; omega))
        have c3 : ((k : Int) == 8) = false := by simp; omega
        subst g1 g2
        clear no HB HR
        go_enter Try.func58, Try.ntmps58
        go_wp2
        rw [← hW]
        go_ret
        exact ⟨rfl, BW⟩
    · obtain rfl := no (fun h => g2 (by have := h.counts; have := Hm.out; omega))
      have c2 : ((m : Int) == 8) = false := by simp; omega
      subst g1
      clear no HB HR
      go_enter Try.func58, Try.ntmps58
      go_wp2
      rw [← hW]
      go_ret
      exact ⟨rfl, BW⟩
  · obtain rfl := no (fun h => g1 (by have := h.objs; have := Hn.out; omega))
    have c1 : ((n : Int) == 8) = false := by simp; omega
    clear no HB HR
    go_enter Try.func58, Try.ntmps58
    go_wp2
    rw [← hW]
    go_ret
    exact ⟨rfl, BW⟩

end Go.Proofs.Ytjhceoejblmihaa
