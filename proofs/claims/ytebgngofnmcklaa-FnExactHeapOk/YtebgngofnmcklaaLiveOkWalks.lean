/- What impl.liveOk answers. -/
import Derived.Test.YtebgngofnmcklaaCountMade
namespace Go.Proofs.Ytebgngofnmcklaa
open Go.RowKit
set_option linter.unusedVariables false

set_option maxRecDepth 100000 in
set_option maxHeartbeats 4000000 in
theorem liveOk_calls (v : Value) (H : HeapD) (s : Nat) (o : ObjD) (w : World) (h : RdH w v H) (hs : SmallH H) (hf : WfH H) (h8 : s < 8) (g p : Nat) (f : Option Addr) (fc : Nat) (hg : g < w.heap.size) (hc : ObjAt w g p o (.slice f o.field.length fc)) (hr : RdI w f o.field) (hfl : o.field.length ≤ 1048576) (hwo : WfO o) (b : Bool) (hb : b = true ↔ liveO H s o) :
    Calls Try.prog 26 #[v, .int .i64 (s : Int), .pointer (some ⟨g, p, none⟩)] w fun e w' => e = .returned (.bool b) ∧ Below w.heap.size w w' := by
  have HR0 : Hid (∀ X, Below w.heap.size w X → RdH X v H) := fun X hX => rdH_later h hX
  obtain ⟨ao, co, aw, cw, ab, cb, sa, sc, rfl, ro, rwk, ri, rs⟩ := h
  have HNO : Hid (¬ liveO H s o → b = false) := fun hn => by cases b with | false => rfl | true => exact absurd (hb.1 rfl) hn
  have HY : Hid (liveO H s o → b = true) := hb.2
  have l0 := hs.objs
  have l2 := hs.buffer
  have l3 := hs.sites
  obtain ⟨W, hW⟩ : ∃ W, W = w.alloc (.cells #[.slice ao H.objs.length co, .slice aw H.weaks.length cw, .slice ab H.buffer.length cb, .slice sa H.sites.length sc] 33) := ⟨_, rfl⟩
  have BW : Below w.heap.size w W := by rw [hW]; exact (Below.refl _ _).alloc (Nat.le_refl _) _
  have hWs : W.heap.size = w.heap.size + 1 := by rw [hW]; simp
  have HK : Hid (∀ X, Below W.heap.size W X → _) := fun X (hX : Below W.heap.size W X) => four_kept w 33 (.slice ao H.objs.length co) (.slice aw H.weaks.length cw) (.slice ab H.buffer.length cb) (.slice sa H.sites.length sc) X (by rw [hWs, hW] at hX; exact hX)
  have HOB : Hid (∀ X, Below W.heap.size W X → ObjAt X g p o (.slice f o.field.length fc)) := fun X hX => (hc.keep (fun k => BW.cell (p := ⟨g, k, none⟩) hg)).keep (fun k => hX.cell (p := ⟨g, k, none⟩) (Nat.lt_of_lt_of_le hg BW.size))
  have HRF : Hid (∀ X, Below W.heap.size W X → RdI X f o.field) := fun X hX => rdI_later (rdI_later hr BW) hX
  have HRI : Hid (∀ X, Below W.heap.size W X → RdI X ab H.buffer) := fun X hX => rdI_later (rdI_later ri BW) hX
  have HRD : Hid (∀ X, Below W.heap.size W X → RdH X _ H) := fun X hX => HR0.out X (BW.trans (hX.mono BW.size))
  have HB : Hid (∀ X, Below W.heap.size W X → Below w.heap.size w X) := fun X hX => BW.trans (hX.mono BW.size)
  have CS : Hid (∀ X (z : Int), Below W.heap.size W X → in64 z → _) := fun X z hX hz => iSlotOf_calls _ H z X (HRD.out X hX) hs.objs hz.1 hz.2
  have CE : Hid (∀ X, Below W.heap.size W X → _) := fun X hX => countMade_calls _ H s o X (HRD.out X hX) hs h8 g p f fc (Nat.lt_of_lt_of_le (Nat.lt_of_lt_of_le hg BW.size) hX.size) (HOB.out X hX)
  have CI : Hid (∀ X, _) := fun X => iIdOf_calls (s : Int) o.gen X
  have CH : Hid (∀ X, Below W.heap.size W X → _) := fun X hX => hasInt_calls X ab cb H.buffer (idZ (s : Int) o.gen) (HRI.out X hX) (by omega)
  have hebd := inEdges_bd H hs (s : Int)
  have HMZ : Hid (madeZ H (s : Int) o = IntKind.i64.wrap (IntKind.i64.wrap (o.holds + o.roots) + inEdges H (s : Int))) := rfl
  generalize madeZ H (s : Int) o = MZ at *
  obtain ⟨w1, w2, w3, w4, w5, w6⟩ := hwo
  have HW6 : Hid (∀ z ∈ o.field, in64 z) := w6
  obtain ⟨ol, og, ost, oh, orr, oc, ofl, op⟩ := o
  simp only at *
  unfold liveO ledO at HNO HY
  simp only at HNO HY
  unfold in64 at w1 w2 w3 w4 w5
  have HNR : Hid (¬ (1 ≤ og ∧ (0 ≤ ost ∧ ost ≤ (H.sites.length : Int) - 1) ∧ (0 ≤ oh ∧ oh ≤ 20) ∧ (0 ≤ orr ∧ orr ≤ 20)) → b = false) := fun hn => HNO.out (fun ok => hn ok.1)
  have HNF : Hid (∀ k (h : k < ofl.length), ¬ (ofl[k] = -1 ∨ 0 ≤ slotZ H ofl[k]) → b = false) := fun k hk hn => HNO.out (fun ok => hn (ok.2.1 k hk))
  have HNC : Hid (¬ (oc = oh + orr + inEdges H (s : Int) ∧ 1 ≤ oc) → b = false) := fun hn => HNO.out (fun ok => hn ⟨ok.2.2.1, ok.2.2.2.1⟩)
  have HNP : Hid (∀ q, (1 ≤ og ∧ (0 ≤ ost ∧ ost ≤ (H.sites.length : Int) - 1) ∧ (0 ≤ oh ∧ oh ≤ 20) ∧ (0 ≤ orr ∧ orr ≤ 20)) → (∀ k (h : k < ofl.length), ofl[k] = -1 ∨ 0 ≤ slotZ H ofl[k]) → (oc = oh + orr + inEdges H (s : Int) ∧ 1 ≤ oc) → decide (idZ (s : Int) og ∈ H.buffer) = q → b = (op == q)) := fun q a1 a2 a3 a4 => by
    by_cases e : op = q
    · rw [HY.out ⟨a1, a2, a3.1, a3.2, by rw [a4]; exact e⟩, e]; simp
    · rw [HNO.out (fun ok => e (by rw [ok.2.2.2.2, a4]))]; simp [e]
  generalize inEdges H (s : Int) = E at *
  generalize idZ (s : Int) og = id at *
  generalize hmem : decide (id ∈ H.buffer) = mem at *
  have HNP2 : Hid ((1 ≤ og ∧ (0 ≤ ost ∧ ost ≤ (H.sites.length : Int) - 1) ∧ (0 ≤ oh ∧ oh ≤ 20) ∧ (0 ≤ orr ∧ orr ≤ 20)) → (∀ k (h : k < ofl.length), ofl[k] = -1 ∨ 0 ≤ slotZ H ofl[k]) → (oc = oh + orr + E ∧ 1 ≤ oc) → b = (op == mem)) := fun a1 a2 a3 => HNP.out mem a1 a2 a3 rfl
  have hne := LaterW.some_ W
  have z1 : ∀ X : LaterW W, X.on.cell? ⟨g, p + 1, none⟩ = some (.int .i64 og) := fun X => (HOB.out _ X.bel).c1
  have z2 : ∀ X : LaterW W, X.on.cell? ⟨g, p + 2, none⟩ = some (.int .i64 ost) := fun X => (HOB.out _ X.bel).c2
  have z3 : ∀ X : LaterW W, X.on.cell? ⟨g, p + 3, none⟩ = some (.int .i64 oh) := fun X => (HOB.out _ X.bel).c3
  have z4 : ∀ X : LaterW W, X.on.cell? ⟨g, p + 4, none⟩ = some (.int .i64 orr) := fun X => (HOB.out _ X.bel).c4
  have y3 : ∀ X : LaterW W, X.on.cell? ⟨w.heap.size, 3, none⟩ = some (.slice sa H.sites.length sc) := fun X => (HK.out _ X.bel).2.2.2
  have r0 : IntKind.i64.wrap ((H.sites.length : Int) - 1) = (H.sites.length : Int) - 1 := by rw [IntKind.wrap_i64]; omega
  clear hb ro rwk ri rs hs hf HR0 HNO HY HNP hc hr w6 hmem hWs
  by_cases e1 : og < 1
  · have hb0 := HNR.out (fun h => by omega)
    subst hb0
    have hq1 : decide (og < 1) = true := decide_eq_true e1
    go_enter Try.func26, Try.ntmps26
    go_wp2
    rw [← hW]
    clear hW
    refine wp_region_later W (Below.refl _ _) (by kernel_rfl) (by kernel_rfl) ?_
    repeat (go_big_quiet_step (fail))
    refine wpQuiet_nil ?_
    rintro _ ⟨⟨X, hX⟩, rfl⟩
    go_wp2
    go_ret
    exact ⟨rfl, HB.out _ hX⟩
  have hq1 : decide (og < 1) = false := decide_eq_false e1
  by_cases e2 : 0 ≤ ost ∧ ost ≤ (H.sites.length : Int) - 1
  rotate_left
  · have hb0 := HNR.out (fun h => e2 h.2.1)
    subst hb0
    go_enter Try.func26, Try.ntmps26
    go_wp2
    rw [← hW]
    clear hW
    refine wp_region_later W (Below.refl _ _) (by kernel_rfl) (by kernel_rfl) ?_
    repeat (go_big_quiet_step (first
      | (go_at_call_of 25 (Value.int IntKind.i64 ost); refine (within_no ost 0 ((H.sites.length : Int) - 1) _ (by omega)).mono ?_; rintro e w1 ⟨rfl, hw1⟩; exact ⟨rfl, _, hw1⟩)))
    refine wpQuiet_nil ?_
    rintro _ ⟨⟨X, hX⟩, rfl⟩
    go_wp2
    go_ret
    exact ⟨rfl, HB.out _ hX⟩
  by_cases e3 : 0 ≤ oh ∧ oh ≤ 20
  rotate_left
  · have hb0 := HNR.out (fun h => e3 h.2.2.1)
    subst hb0
    go_enter Try.func26, Try.ntmps26
    go_wp2
    rw [← hW]
    clear hW
    refine wp_region_later W (Below.refl _ _) (by kernel_rfl) (by kernel_rfl) ?_
    repeat (go_big_quiet_step (first
      | (go_at_call_of 25 (Value.int IntKind.i64 ost); refine (within_yes ost 0 ((H.sites.length : Int) - 1) _ e2.1 e2.2).mono ?_; rintro e w1 ⟨rfl, hw1⟩; exact ⟨rfl, _, hw1⟩)
      | (go_at_call_of 25 (Value.int IntKind.i64 oh); refine (within_no oh 0 20 _ (by omega)).mono ?_; rintro e w1 ⟨rfl, hw1⟩; exact ⟨rfl, _, hw1⟩)
      | (go_at_call_of 25 (Value.int IntKind.i64 orr); refine (within_no orr 0 20 _ (by omega)).mono ?_; rintro e w1 ⟨rfl, hw1⟩; exact ⟨rfl, _, hw1⟩)))
    refine wpQuiet_nil ?_
    rintro _ ⟨⟨X, hX⟩, rfl⟩
    go_wp2
    go_ret
    exact ⟨rfl, HB.out _ hX⟩
  by_cases e4 : 0 ≤ orr ∧ orr ≤ 20
  rotate_left
  · have hb0 := HNR.out (fun h => e4 h.2.2.2)
    subst hb0
    go_enter Try.func26, Try.ntmps26
    go_wp2
    rw [← hW]
    clear hW
    refine wp_region_later W (Below.refl _ _) (by kernel_rfl) (by kernel_rfl) ?_
    repeat (go_big_quiet_step (first
      | (go_at_call_of 25 (Value.int IntKind.i64 ost); refine (within_yes ost 0 ((H.sites.length : Int) - 1) _ e2.1 e2.2).mono ?_; rintro e w1 ⟨rfl, hw1⟩; exact ⟨rfl, _, hw1⟩)
      | (go_at_call_of 25 (Value.int IntKind.i64 oh); refine (within_yes oh 0 20 _ e3.1 e3.2).mono ?_; rintro e w1 ⟨rfl, hw1⟩; exact ⟨rfl, _, hw1⟩)
      | (go_at_call_of 25 (Value.int IntKind.i64 orr); refine (within_no orr 0 20 _ (by omega)).mono ?_; rintro e w1 ⟨rfl, hw1⟩; exact ⟨rfl, _, hw1⟩)))
    refine wpQuiet_nil ?_
    rintro _ ⟨⟨X, hX⟩, rfl⟩
    go_wp2
    go_ret
    exact ⟨rfl, HB.out _ hX⟩
  have HR1 : Hid (1 ≤ og ∧ (0 ≤ ost ∧ ost ≤ (H.sites.length : Int) - 1) ∧ (0 ≤ oh ∧ oh ≤ 20) ∧ (0 ≤ orr ∧ orr ≤ 20)) := ⟨by omega, e2, e3, e4⟩
  have z6 : ∀ X : LaterW W, X.on.cell? ⟨g, p + 6, none⟩ = some (.slice f ofl.length fc) := fun X => (HOB.out _ X.bel).c6
  have HC6 : Hid (∀ X, Below W.heap.size W X → X.cell? ⟨g, p + 6, none⟩ = some (.slice f ofl.length fc)) := fun X hX => (HOB.out _ hX).c6
  go_enter Try.func26, Try.ntmps26
  go_wp2
  rw [← hW]
  clear hW
  refine wp_region_later W (Below.refl _ _) (by kernel_rfl) (by kernel_rfl) ?_
  repeat (go_big_quiet_step (first
    | (go_at_call_of 25 (Value.int IntKind.i64 ost); refine (within_yes ost 0 ((H.sites.length : Int) - 1) _ e2.1 e2.2).mono ?_; rintro e w1 ⟨rfl, hw1⟩; exact ⟨rfl, _, hw1⟩)
    | (go_at_call_of 25 (Value.int IntKind.i64 oh); refine (within_yes oh 0 20 _ e3.1 e3.2).mono ?_; rintro e w1 ⟨rfl, hw1⟩; exact ⟨rfl, _, hw1⟩)
    | (go_at_call_of 25 (Value.int IntKind.i64 orr); refine (within_yes orr 0 20 _ e4.1 e4.2).mono ?_; rintro e w1 ⟨rfl, hw1⟩; exact ⟨rfl, _, hw1⟩)))
  refine wpQuiet_nil ?_
  rintro _ ⟨⟨X, hX⟩, rfl⟩
  have c6 := HC6.out _ hX
  clear z1 z2 z3 z4 z6 y3 hne
  go_wp2
  clear c6
  go_loopw [47] (fun i X => ∃ k : Nat, k ≤ ofl.length ∧ i = .int .i64 (k : Int) ∧ Below W.heap.size W X ∧ Hid (∀ i (h : i < ofl.length), i < k → (ofl[i] = -1 ∨ 0 ≤ slotZ H ofl[i]))) (fun i _ => ofl.length - (intOf i).toNat)
  case atStart => exact ⟨0, by omega, rfl, hX, fun i _ h => absurd h (by omega)⟩
  case round =>
    clear hX
    obtain ⟨k, hk, rfl, hX, HKK⟩ := hrel
    by_cases hlt : k < ofl.length
    · obtain ⟨gf, of2, rfl, -, hcf⟩ := HRF.out _ hX k hlt
      have HZN : Hid (¬ (ofl[k] = -1 ∨ 0 ≤ slotZ H ofl[k]) → b = false) := HNF.out k hlt
      have HZ : Hid ((ofl[k] = -1 ∨ 0 ≤ slotZ H ofl[k]) → ∀ i (h : i < ofl.length), i < k + 1 → (ofl[i] = -1 ∨ 0 ≤ slotZ H ofl[i])) := fun hz i hi hl => by
        rcases Nat.lt_or_ge i k with h3 | h3
        · exact HKK.out i hi h3
        · obtain rfl : i = k := by omega
          exact hz
      have CS2 : Hid (∀ u : Unit, _) := fun (_ : Unit) => CS.out wr ofl[k] hX (HW6.out _ (List.getElem_mem hlt))
      generalize ofl[k] = z at *
      obtain ⟨k0, k1, k2, k3⟩ := HK.out _ hX
      by_cases hz : z = -1
      · have HFIN : Hid _ := HZ.out (.inl hz)
        subst hz
        go_wp2
        go_roundw
        case rel => exact ⟨k + 1, by omega, by go_num, hX, HFIN⟩
        case measure => simp [intOf]; omega
      · have hq : (z != -1) = true := by rw [bne_iff_ne]; exact hz
        by_cases hsl : slotZ H z < 0
        · have hb0 := HZN.out (fun h => by rcases h with h | h; exact hz h; omega)
          subst hb0
          clear HZ HZN
          generalize slotZ H z = sl at *
          go_wp2_with fail
          refine (CS2.out ()).mono ?_
          rintro e w1 ⟨rfl, b1⟩
          have B1 := hX.trans (b1.mono hX.size)
          go_wp2
          go_ret
          exact ⟨rfl, HB.out _ B1⟩
        · have HFIN : Hid _ := HZ.out (.inr (by omega))
          have hsl2 : 0 ≤ slotZ H z := by omega
          clear HZ HZN
          generalize slotZ H z = sl at *
          go_wp2_with fail
          refine (CS2.out ()).mono ?_
          rintro e w1 ⟨rfl, b1⟩
          have B1 := hX.trans (b1.mono hX.size)
          go_wp2
          go_roundw
          case rel => exact ⟨k + 1, by omega, by go_num, B1, HFIN⟩
          case measure => simp [intOf]; omega
    · have ek : ofl.length ≤ k := by omega
      have HLED : Hid (∀ k (h : k < ofl.length), ofl[k] = -1 ∨ 0 ≤ slotZ H ofl[k]) := fun i hi => HKK.out i hi (by omega)
      have HOB2 : Hid (∀ X : LaterW wr, ObjAt X.on g p _ _) := fun X => HOB.out X.on (hX.trans (X.bel.mono hX.size))
      have HK2 : Hid (∀ X : LaterW wr, _) := fun X => HK.out X.on (hX.trans (X.bel.mono hX.size))
      have hne := LaterW.some_ wr
      have z1 : ∀ X : LaterW wr, X.on.cell? ⟨g, p + 1, none⟩ = some (.int .i64 og) := fun X => (HOB2.out X).c1
      have z3 : ∀ X : LaterW wr, X.on.cell? ⟨g, p + 3, none⟩ = some (.int .i64 oh) := fun X => (HOB2.out X).c3
      have z4 : ∀ X : LaterW wr, X.on.cell? ⟨g, p + 4, none⟩ = some (.int .i64 orr) := fun X => (HOB2.out X).c4
      have z5 : ∀ X : LaterW wr, X.on.cell? ⟨g, p + 5, none⟩ = some (.int .i64 oc) := fun X => (HOB2.out X).c5
      have z7 : ∀ X : LaterW wr, X.on.cell? ⟨g, p + 7, none⟩ = some (.bool op) := fun X => (HOB2.out X).c7
      have y0 : ∀ X : LaterW wr, X.on.cell? ⟨w.heap.size, 0, none⟩ = some (.slice ao H.objs.length co) := fun X => (HK2.out X).1
      have y1 : ∀ X : LaterW wr, X.on.cell? ⟨w.heap.size, 1, none⟩ = some (.slice aw H.weaks.length cw) := fun X => (HK2.out X).2.1
      have y2 : ∀ X : LaterW wr, X.on.cell? ⟨w.heap.size, 2, none⟩ = some (.slice ab H.buffer.length cb) := fun X => (HK2.out X).2.2.1
      have y3 : ∀ X : LaterW wr, X.on.cell? ⟨w.heap.size, 3, none⟩ = some (.slice sa H.sites.length sc) := fun X => (HK2.out X).2.2.2
      have CE2 : Hid (∀ X : LaterW wr, _) := fun X => CE.out X.on (hX.trans (X.bel.mono hX.size))
      have r1 : IntKind.i64.wrap (oh + orr) = oh + orr := by rw [IntKind.wrap_i64]; omega
      have r2 : IntKind.i64.wrap (oh + orr + E) = oh + orr + E := by rw [IntKind.wrap_i64]; omega
      have hmz := HMZ.out
      rw [r1, r2] at hmz
      subst hmz
      clear r1 r2
      by_cases g2 : oc < 1
      · have hb0 := HNC.out (fun h => by omega)
        subst hb0
        have hq2 : decide (oc < 1) = true := decide_eq_true g2
        go_wp2
        refine wp_region_later wr (Below.refl _ _) (by kernel_rfl) (by kernel_rfl) ?_
        repeat (go_big_quiet_step (fail))
        refine wpQuiet_nil ?_
        rintro _ ⟨⟨X, hY⟩, rfl⟩
        go_wp2
        go_ret
        exact ⟨rfl, HB.out _ (hX.trans (hY.mono hX.size))⟩
      have hq2 : decide (oc < 1) = false := decide_eq_false g2
      by_cases g1 : oc = oh + orr + E
      rotate_left
      · have hb0 := HNC.out (fun h => g1 h.1)
        subst hb0
        have hq : (oc != oh + orr + E) = true := by rw [bne_iff_ne]; exact g1
        go_wp2
        refine wp_region_later wr (Below.refl _ _) (by kernel_rfl) (by kernel_rfl) ?_
        repeat (go_big_quiet_step (first
          | (go_at_call 41; refine (CE2.out _).mono ?_; rintro e w1 ⟨rfl, b1⟩; exact ⟨rfl, LaterW.step _ b1⟩)))
        refine wpQuiet_nil ?_
        rintro _ ⟨⟨X, hY⟩, rfl⟩
        go_wp2
        go_ret
        exact ⟨rfl, HB.out _ (hX.trans (hY.mono hX.size))⟩
      have hq : (oc != oh + orr + E) = false := by rw [bne_eq_false_iff_eq]; exact g1
      have hbp := HNP2.out HR1.out HLED.out ⟨g1, by omega⟩
      clear HNR HNF HNC HNP2 HLED HKK g1 g2
      go_wp2
      refine wp_region_later wr (Below.refl _ _) (by kernel_rfl) (by kernel_rfl) ?_
      repeat (go_big_quiet_step (first
        | (go_at_call 41; refine (CE2.out _).mono ?_; rintro e w1 ⟨rfl, b1⟩; exact ⟨rfl, LaterW.step _ b1⟩)))
      refine wpQuiet_nil ?_
      intro X hXe
      have hY : Below wr.heap.size wr X := by obtain ⟨n, hn⟩ := hXe; rw [hn]; exact n.bel
      clear hXe
      have B2 := hX.trans (hY.mono hX.size)
      have hne2 := LaterW.some_ X
      have CH2 : Hid (∀ Y : LaterW X, _) := fun Y => CH.out Y.on (B2.trans (Y.bel.mono B2.size))
      have x1 : ∀ Y : LaterW X, Y.on.cell? ⟨g, p + 1, none⟩ = some (.int .i64 og) := fun Y => (HOB.out Y.on (B2.trans (Y.bel.mono B2.size))).c1
      have x7 : ∀ Y : LaterW X, Y.on.cell? ⟨g, p + 7, none⟩ = some (.bool op) := fun Y => (HOB.out Y.on (B2.trans (Y.bel.mono B2.size))).c7
      have x2 : ∀ Y : LaterW X, Y.on.cell? ⟨w.heap.size, 2, none⟩ = some (.slice ab H.buffer.length cb) := fun Y => (HK.out Y.on (B2.trans (Y.bel.mono B2.size))).2.2.1
      clear z1 z3 z4 z5 z7 y0 y1 y2 y3 hne hq hq2
      subst hbp
      go_wp2
      refine wp_region_later X (Below.refl _ _) (by kernel_rfl) (by kernel_rfl) ?_
      repeat (go_big_quiet_step (first
        | (go_at_call 42; refine (CI.out _).mono ?_; rintro e w1 ⟨rfl, hw1⟩; exact ⟨rfl, _, hw1⟩)
        | (go_at_call 40; refine (CH2.out _).mono ?_; rintro e w1 ⟨rfl, hw1⟩; exact ⟨rfl, _, hw1⟩)))
      refine wpQuiet_nil ?_
      rintro _ ⟨⟨Y, hZ⟩, rfl⟩
      go_wp2
      go_ret
      exact ⟨rfl, HB.out _ (B2.trans (hZ.mono B2.size))⟩

end Go.Proofs.Ytebgngofnmcklaa
