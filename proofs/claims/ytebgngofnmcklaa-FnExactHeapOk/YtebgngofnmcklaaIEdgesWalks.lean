/- What impl.InEdges answers of a slot from 0 to 7. -/
import Derived.Test.YtebgngofnmcklaaISlicesWalks
namespace Go.Proofs.Ytebgngofnmcklaa
open Go.RowKit
set_option linter.unusedVariables false

theorem iInEdges_calls (v : Value) (H : HeapD) (s : Nat) (w : World) (h : RdH w v H) (hs : SmallH H) (h8 : s < 8) :
    Calls Try.prog 51 #[v, .int .i64 (s : Int)] w fun e w' => e = .returned (.int .i64 (inEdges H (s : Int))) ∧ Below w.heap.size w w' := by
  have HR0 : Hid (∀ X, Below w.heap.size w X → RdH X v H) := fun X hX => rdH_later h hX
  obtain ⟨ao, co, aw, cw, ab, cb, sa, sc, hv, ro, -, -, -⟩ := h
  have hn := hs.objs
  obtain ⟨W, hW⟩ : ∃ W, W = w.alloc (.cells #[.slice ao H.objs.length co, .slice aw H.weaks.length cw, .slice ab H.buffer.length cb, .slice sa H.sites.length sc] 33) := ⟨_, rfl⟩
  have BW : Below w.heap.size w W := by rw [hW]; exact (Below.refl _ _).alloc (Nat.le_refl _) _
  have hWs : W.heap.size = w.heap.size + 1 := by rw [hW]; simp
  by_cases hl : NoLive H (s : Int)
  · have HE : Hid (inEdges H (s : Int) = 0) := by
      show _ = _
      unfold inEdges
      rw [if_pos (by omega)]
      rcases hl with h1 | h1 | h1
      · omega
      · omega
      · cases ho : H.objs[((s : Int)).toNat]? with
        | none => rfl
        | some o => simp only; rw [if_neg (by rw [h1 o ho]; simp)]
    have CL : Hid (∀ X, Below w.heap.size w X → _) := fun X hX => liveIn_no v H (s : Int) X (HR0.out X hX) hn hl
    subst hv
    clear ro hl HR0
    go_enter Try.func51, Try.ntmps51
    go_wp2_with fail
    rw [← hW]
    clear hW hWs
    refine (CL.out _ BW).mono ?_
    rintro e w1 ⟨rfl, b1⟩
    have B1 := BW.trans (b1.mono BW.size)
    go_wp2
    go_ret
    exact ⟨ret_zz HE.out.symm, B1⟩
  · have hlen : s < H.objs.length := by
      apply Classical.byContradiction
      intro hc
      exact hl (.inr (.inr (fun o ho => by rw [List.getElem?_eq_none (by omega)] at ho; cases ho)))
    have hlive : H.objs[s].live = true := by
      apply Classical.byContradiction
      intro hc
      refine hl (.inr (.inr (fun o ho => ?_)))
      rw [show ((s : Int)).toNat = s from by omega, List.getElem?_eq_getElem hlen] at ho
      injection ho with ho
      rw [← ho]
      simpa using hc
    obtain ⟨g, off, f, fc, hg, hc, -, CL⟩ := liveIn_yes v H s W (HR0.out W BW) hn h8 hlen hlive
    have HE : Hid (inEdges H (s : Int) = (inE (idZ (s : Int) H.objs[s].gen) H.objs : Int)) := by
      show _ = _
      unfold inEdges
      rw [if_pos (by omega), show ((s : Int)).toNat = s from by omega, List.getElem?_eq_getElem hlen]
      simp only
      rw [if_pos hlive]
    have HC1 : Hid (∀ X, Below W.heap.size W X → X.cell? ⟨g, off + s * 8 + 1, none⟩ = some (.int .i64 H.objs[s].gen)) := fun X hX => (hX.cell (p := ⟨g, off + s * 8 + 1, none⟩) hg).trans hc.c1
    have CID : Hid (∀ X, _) := fun X => iIdOf_calls (s : Int) H.objs[s].gen X
    clear hc hlive
    generalize H.objs[s].gen = og at *
    rw [HE.out]
    generalize idZ (s : Int) og = id at *
    have HS : Hid (∀ (j : Nat) (h : j < H.objs.length), inE id (H.objs.take (j + 1)) = inE id (H.objs.take j) + inO id H.objs[j]) := fun j h => inE_succ id H.objs j h
    have HL : Hid (∀ j, inE id (H.objs.take j) ≤ 1048576 * 1048576) := by
      intro j
      have h1 := inE_le id (H.objs.take j) 1048576 (fun z hz => hs.fields z (List.mem_of_mem_take hz))
      have h2 : (H.objs.take j).length ≤ 1048576 := by rw [List.length_take]; have := hs.objs; omega
      exact Nat.le_trans h1 (Nat.mul_le_mul_right _ h2)
    have HF : Hid (∀ z ∈ H.objs, z.field.length ≤ 1048576) := hs.fields
    have HW : Hid (inE id (H.objs.take H.objs.length) = inE id H.objs) := by show _ = _; rw [List.take_length]
    have HRO : Hid (∀ X, Below W.heap.size W X → RdO X ao H.objs) := fun X hX => rdO_later (rdO_later ro BW) hX
    have HP0 : Hid (∀ X, Below W.heap.size W X → X.cell? ⟨w.heap.size, 0, none⟩ = some (.slice ao H.objs.length co)) := fun X hX => by
      obtain ⟨k0, -⟩ := four_kept w 33 (.slice ao H.objs.length co) (.slice aw H.weaks.length cw) (.slice ab H.buffer.length cb) (.slice sa H.sites.length sc) X (by rw [hWs, hW] at hX; exact hX)
      exact k0
    obtain ⟨n, hnn⟩ : ∃ n, H.objs.length = n := ⟨_, rfl⟩
    have Hn : Hid (H.objs.length = n) := hnn
    have HB : Hid (Below w.heap.size w W) := BW
    rw [hnn] at hn HP0 HW hW hv
    subst hv
    clear ro hl hs hnn hWs BW HR0 HE
    go_enter Try.func51, Try.ntmps51
    go_wp2_with fail
    rw [← hW]
    clear hW
    refine (CL.out _ (Below.refl _ _)).mono ?_
    rintro e w1 ⟨rfl, b1⟩
    have c1 := HC1.out _ b1
    have hp := HP0.out _ b1
    go_wp2_with fail
    refine (CID.out _).mono ?_
    rintro e w2 ⟨rfl, hw2⟩
    subst hw2
    go_wp2
    clear c1 hp
    go_loopw [7, 24] (fun x i wr => ∃ j : Nat, j ≤ n ∧ i = .int .i64 j ∧ x = .int .i64 (inE id (H.objs.take j) : Int) ∧ Below W.heap.size W wr) (fun _ i _ => n - (intOf i).toNat)
    case atStart => exact ⟨0, by omega, rfl, by simp [inE], b1⟩
    case round =>
      obtain ⟨j, hj, rfl, rfl, hb⟩ := hrel
      by_cases hlt : j < n
      · have hj2 : j < H.objs.length := by have := Hn.out; omega
        obtain ⟨gj, offj, fj, fcj, rfl, hgj, hcj, hrj⟩ := HRO.out _ hb j hj2
        obtain ⟨o, ho⟩ : ∃ o, H.objs[j] = o := ⟨_, rfl⟩
        have HS2 : Hid (_ = _) := HS.out j hj2
        have hfl := HF.out _ (List.getElem_mem hj2)
        have hbd := HL.out j
        rw [ho] at hcj hrj HS2 hfl
        clear ho
        obtain ⟨ol, og2, os1, oh, orr, oc, ofl, op⟩ := o
        obtain ⟨c0, c1, c2, c3, c4, c5, c6, c7⟩ := hcj
        simp only at c0 c1 c2 c3 c4 c5 c6 c7 HS2 hfl hrj
        have bV : Below wr.heap.size wr (wr.alloc (.cells #[.bool ol, .int .i64 og2, .int .i64 os1, .int .i64 oh, .int .i64 orr, .int .i64 oc, .slice fj ofl.length fcj, .bool op] 42)) := (Below.refl _ _).alloc (Nat.le_refl _) _
        have HBV : Hid (Below W.heap.size W (wr.alloc (.cells #[.bool ol, .int .i64 og2, .int .i64 os1, .int .i64 oh, .int .i64 orr, .int .i64 oc, .slice fj ofl.length fcj, .bool op] 42))) := hb.trans (bV.mono hb.size)
        generalize inE id (H.objs.take j) = N at *
        cases ol with
        | false =>
          have HT : Hid (inE id (H.objs.take (j + 1)) = N) := by show _ = _; rw [HS2.out]; simp [inO]
          clear hrj bV
          go_wp2
          go_roundw
          case rel => exact ⟨j + 1, by omega, by go_num, by rw [HT.out], HBV.out⟩
          case measure => simp [intOf]; omega
        | true =>
          have HT : Hid (inE id (H.objs.take (j + 1)) = N + ofl.count id) := by show _ = _; rw [HS2.out]; simp [inO]
          have CT : Hid (∀ u : Unit, _) := fun (_ : Unit) => timesIn_calls _ fj fcj ofl id (rdI_later hrj bV) hfl
          have hcl : ofl.count id ≤ 1048576 := Nat.le_trans List.count_le_length hfl
          clear hrj bV
          generalize ofl.count id = M at *
          go_wp2_with fail
          refine (CT.out ()).mono ?_
          rintro e w3 ⟨rfl, hw3⟩
          have B3 : Below W.heap.size W w3 := by rw [hw3]; exact HBV.out
          clear hw3
          go_wp2
          go_roundw
          case rel => exact ⟨j + 1, by omega, by go_num, by rw [HT.out]; go_num, B3⟩
          case measure => simp [intOf]; omega
      · obtain rfl : j = n := by omega
        go_wp2
        go_ret
        exact ⟨ret_zz (by rw [HW.out]), HB.out.trans (hb.mono HB.out.size)⟩

end Go.Proofs.Ytebgngofnmcklaa
