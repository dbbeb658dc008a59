/- What impl.namesOk, bufferOk, weakWrong and sameObj answer. -/
import Derived.Test.YtebgngofnmcklaaIEdgesWalks
import Derived.Test.YtebgngofnmcklaaHeapMath
namespace Go.Proofs.Ytebgngofnmcklaa
open Go.RowKit
set_option linter.unusedVariables false

theorem mem_take {α : Type} (zs : List α) (i : Nat) (x : α) : x ∈ zs.take i ↔ ∃ k, ∃ (h : k < zs.length), k < i ∧ zs[k] = x := by
  constructor
  · intro h
    obtain ⟨k, hk, e⟩ := List.mem_iff_getElem.1 h
    rw [List.length_take] at hk
    exact ⟨k, by omega, by omega, by rw [List.getElem_take] at e; exact e⟩
  · rintro ⟨k, h1, h2, e⟩
    exact List.mem_iff_getElem.2 ⟨k, by rw [List.length_take]; omega, by rw [List.getElem_take]; exact e⟩

/-- Names as they are wanted: at most m of them, none shorter than l, no two alike. -/
def NamesIn (m l : Nat) (zs : List (List UInt8)) : Prop := zs.length ≤ m ∧ ∀ i (h : i < zs.length), (l ≤ zs[i].length ∧ zs[i].length ≤ 8) ∧ zs[i] ∉ zs.take i
/-- A heap's names as they are wanted, those behind the sixth too. -/
def NamesOk (zs : List (List UInt8)) : Prop := zs.length ≤ 6 ∧ ∀ i (h : i < zs.length), (1 ≤ zs[i].length ∧ zs[i].length ≤ 8) ∧ zs[i] ∉ zs.take i

theorem namesOk_calls (m l : Nat) (hm0 : m ≤ 400) (hl0 : l ≤ 8) (w : World) (a : Option Addr) (cap : Nat) (zs : List (List UInt8)) (h : RdS w a zs) (hcap : zs.length ≤ cap) (hn : zs.length ≤ 1048576) (hnm : ∀ z ∈ zs, z.length ≤ 1048576) (b : Bool) (hb : b = true ↔ NamesIn m l zs) :
    Calls Try.prog 22 #[.slice a zs.length cap, .int .i64 (m : Int), .int .i64 (l : Int)] w fun e w' => e = .returned (.bool b) ∧ w' = w := by
  have HNO : Hid (¬ NamesIn m l zs → b = false) := fun hn => by cases b with | false => rfl | true => exact absurd (hb.1 rfl) hn
  have HY : Hid (NamesIn m l zs → b = true) := hb.2
  clear hb
  by_cases h6 : m < zs.length
  · have hb0 := HNO.out (fun ok => by have := ok.1; omega)
    subst hb0
    clear h hnm
    go_enter Try.func22, Try.ntmps22
    go_wp2
    go_ret
    exact ⟨rfl, rfl⟩
  · have HA : Hid (RdS w a zs) := h
    have HM : Hid (∀ z ∈ zs, z.length ≤ 1048576) := hnm
    have h7 : zs.length ≤ m := by omega
    have HNX : Hid (∀ i (h : i < zs.length), ¬ ((l ≤ zs[i].length ∧ zs[i].length ≤ 8) ∧ zs[i] ∉ zs.take i) → b = false) := fun i hi hn => HNO.out (fun ok => hn (ok.2 i hi))
    have HY2 : Hid ((∀ i (h : i < zs.length), (l ≤ zs[i].length ∧ zs[i].length ≤ 8) ∧ zs[i] ∉ zs.take i) → b = true) := fun hh => HY.out ⟨h7, hh⟩
    have HTK : Hid (∀ j, j ≤ zs.length → (zs.take j).length = j) := fun j hj => by rw [List.length_take]; omega
    have HRT : Hid (∀ j, RdS w a (zs.take j)) := fun j i hi => by
      have hi2 : i < zs.length := by rw [List.length_take] at hi; omega
      obtain ⟨g', off', e1, e2, e3⟩ := HA.out i hi2
      exact ⟨g', off', e1, e2, by rw [List.getElem_take]; exact e3⟩
    obtain ⟨n, hnn⟩ : ∃ n, zs.length = n := ⟨_, rfl⟩
    have Hn : Hid (zs.length = n) := hnn
    rw [hnn] at hn hcap h7 h6 ⊢
    clear h hnm HNO HY hnn
    go_enter Try.func22, Try.ntmps22
    go_wp2
    go_loop [15] (fun i => ∃ j : Nat, j ≤ n ∧ i = .int .i64 j ∧ Hid (∀ i (h : i < zs.length), i < j → (l ≤ zs[i].length ∧ zs[i].length ≤ 8) ∧ zs[i] ∉ zs.take i)) (fun i => n - (intOf i).toNat)
    case atStart => exact ⟨0, by omega, rfl, fun i _ h => absurd h (by omega)⟩
    case round =>
      obtain ⟨j, hj, rfl, HJ⟩ := hrel
      by_cases hlt : j < n
      · have hj2 : j < zs.length := by have := Hn.out; omega
        obtain ⟨g, off, rfl, -, hc⟩ := HA.out j hj2
        have HX : Hid (¬ ((l ≤ zs[j].length ∧ zs[j].length ≤ 8) ∧ zs[j] ∉ zs.take j) → b = false) := HNX.out j hj2
        have HZ : Hid (((l ≤ zs[j].length ∧ zs[j].length ≤ 8) ∧ zs[j] ∉ zs.take j) → ∀ i (h : i < zs.length), i < j + 1 → (l ≤ zs[i].length ∧ zs[i].length ≤ 8) ∧ zs[i] ∉ zs.take i) := fun ho i hi hl => by
          rcases Nat.lt_or_ge i j with h3 | h3
          · exact HJ.out i hi h3
          · obtain rfl : i = j := by omega
            exact ho
        have hxl := HM.out _ (List.getElem_mem hj2)
        have htk := HTK.out j (by have := Hn.out; omega)
        have CH : Hid (∀ c, _) := fun c => hasStr_calls w (some ⟨g, off, none⟩) c (zs.take j) zs[j] (HRT.out j) (by rw [htk]; omega)
        rw [htk] at CH
        obtain ⟨x, hx⟩ : ∃ x, zs[j] = x := ⟨_, rfl⟩
        rw [hx] at hc HX HZ hxl CH
        clear hx htk
        have hsz : (txt x).size = x.length := rfl
        have i2 : (j : Int) ≤ (cap : Int) := by omega
        generalize hL : x.length = L at *
        by_cases hl8 : l ≤ L ∧ L ≤ 8
        · by_cases hm : x ∈ zs.take j
          · have hb0 := HX.out (fun hh => hh.2 hm)
            subst hb0
            rw [decide_eq_true hm] at CH
            go_wp2_with fail
            refine (within_yes (L : Int) (l : Int) 8 _ (by omega) (by omega)).mono ?_
            rintro e V ⟨rfl, hV⟩
            subst hV
            go_wp2_with fail
            refine (CH.out _).mono ?_
            rintro e V2 ⟨rfl, hV2⟩
            subst hV2
            go_wp2
            go_ret
            exact ⟨rfl, rfl⟩
          · have HFIN : Hid _ := HZ.out ⟨hl8, hm⟩
            rw [decide_eq_false hm] at CH
            go_wp2_with fail
            refine (within_yes (L : Int) (l : Int) 8 _ (by omega) (by omega)).mono ?_
            rintro e V ⟨rfl, hV⟩
            subst hV
            go_wp2_with fail
            refine (CH.out _).mono ?_
            rintro e V2 ⟨rfl, hV2⟩
            subst hV2
            go_wp2
            go_round
            case rel => exact ⟨j + 1, by omega, by go_num, HFIN⟩
            case measure => simp [intOf]; omega
        · have hb0 := HX.out (fun hh => hl8 hh.1)
          subst hb0
          go_wp2_with fail
          refine (within_no (L : Int) (l : Int) 8 _ (by omega)).mono ?_
          rintro e V ⟨rfl, hV⟩
          subst hV
          go_wp2
          go_ret
          exact ⟨rfl, rfl⟩
      · have ej : n ≤ j := by omega
        have hb1 := HY2.out (fun i hi => HJ.out i hi (by have := Hn.out; omega))
        subst hb1
        go_wp2
        go_ret
        exact ⟨rfl, rfl⟩

theorem sitesOk_calls (w : World) (a : Option Addr) (cap : Nat) (zs : List (List UInt8)) (h : RdS w a zs) (hcap : zs.length ≤ cap) (hn : zs.length ≤ 1048576) (hnm : ∀ z ∈ zs, z.length ≤ 1048576) (b : Bool) (hb : b = true ↔ NamesOk zs) :
    Calls Try.prog 22 #[.slice a zs.length cap, .int .i64 6, .int .i64 1] w fun e w' => e = .returned (.bool b) ∧ w' = w :=
  namesOk_calls 6 1 (by omega) (by omega) w a cap zs h hcap hn hnm b hb

/-- The ids kept aside, as they are wanted. -/
def BufOk (H : HeapD) : Prop := H.buffer.length ≤ 8 ∧ ∀ i (h : i < H.buffer.length), okB H i H.buffer[i]

theorem bufferOk_calls (v : Value) (H : HeapD) (w : World) (h : RdH w v H) (hcap : CapH v) (hs : SmallH H) (hf : WfH H) (b : Bool) (hb : b = true ↔ BufOk H) :
    Calls Try.prog 23 #[v] w fun e w' => e = .returned (.bool b) ∧ Below w.heap.size w w' := by
  have HR0 : Hid (∀ X, Below w.heap.size w X → RdH X v H) := fun X hX => rdH_later h hX
  obtain ⟨ao, co, aw, cw, ab, cb, sa, sc, rfl, ro, rwk, ri, rs⟩ := h
  have hcb : H.buffer.length ≤ cb := by
    obtain ⟨a0, n0, k0, a1, n1, k1, a2, n2, k2, a3, n3, k3, e, h0, h1, h2, h3⟩ := hcap
    simp only [Value.agg.injEq, Array.mk.injEq, List.cons.injEq, Value.slice.injEq] at e
    obtain ⟨-, -, ⟨-, e1, e2⟩, -⟩ := e
    omega
  have HNO : Hid (¬ BufOk H → b = false) := fun hn => by cases b with | false => rfl | true => exact absurd (hb.1 rfl) hn
  have HY : Hid (BufOk H → b = true) := hb.2
  have l0 := hs.objs
  have l2 := hs.buffer
  obtain ⟨W, hW⟩ : ∃ W, W = w.alloc (.cells #[.slice ao H.objs.length co, .slice aw H.weaks.length cw, .slice ab H.buffer.length cb, .slice sa H.sites.length sc] 33) := ⟨_, rfl⟩
  have BW : Below w.heap.size w W := by rw [hW]; exact (Below.refl _ _).alloc (Nat.le_refl _) _
  have hWs : W.heap.size = w.heap.size + 1 := by rw [hW]; simp
  have HK : Hid (∀ X, Below W.heap.size W X → _) := fun X (hX : Below W.heap.size W X) => four_kept w 33 (.slice ao H.objs.length co) (.slice aw H.weaks.length cw) (.slice ab H.buffer.length cb) (.slice sa H.sites.length sc) X (by rw [hWs, hW] at hX; exact hX)
  have HRI : Hid (∀ X, Below W.heap.size W X → RdI X ab H.buffer) := fun X hX => rdI_later (rdI_later ri BW) hX
  clear hb ro rwk ri rs hcap
  by_cases h8 : 8 < H.buffer.length
  · have hb0 := HNO.out (fun ok => by have := ok.1; omega)
    subst hb0
    go_enter Try.func23, Try.ntmps23
    go_wp2
    go_ret
    exact ⟨rfl, (Below.refl _ _).alloc (Nat.le_refl _) _⟩
  · have h9 : H.buffer.length ≤ 8 := by omega
    have HNX : Hid (∀ i (h : i < H.buffer.length), ¬ okB H i H.buffer[i] → b = false) := fun i hi hn => HNO.out (fun ok => hn (ok.2 i hi))
    have HY2 : Hid ((∀ i (h : i < H.buffer.length), okB H i H.buffer[i]) → b = true) := fun hh => HY.out ⟨h9, hh⟩
    have CS : Hid (∀ X (z : Int), Below W.heap.size W X → in64 z → _) := fun X z hX hz => iSlotOf_calls (.agg #[.slice ao H.objs.length co, .slice aw H.weaks.length cw, .slice ab H.buffer.length cb, .slice sa H.sites.length sc]) H z X (HR0.out X (BW.trans (hX.mono BW.size))) hs.objs hz.1 hz.2
    have HF : Hid (∀ z ∈ H.buffer, in64 z) := hf.buffer
    have HB : Hid (Below w.heap.size w W) := BW
    obtain ⟨n, hnn⟩ : ∃ n, H.buffer.length = n := ⟨_, rfl⟩
    have Hn : Hid (H.buffer.length = n) := hnn
    obtain ⟨k0, k1, k2, k3⟩ := HK.out _ (Below.refl _ _)
    rw [hnn] at hcb h8 h9 l2 hW HK CS k2 ⊢
    clear hs hf HNO HY HR0 hnn BW hWs
    go_enter Try.func23, Try.ntmps23
    go_wp2
    rw [← hW]
    clear hW k0 k1 k2 k3
    go_loopw [12] (fun i X => ∃ j : Nat, j ≤ n ∧ i = .int .i64 j ∧ Below W.heap.size W X ∧ Hid (∀ i (h : i < H.buffer.length), i < j → okB H i H.buffer[i])) (fun i _ => n - (intOf i).toNat)
    case atStart => exact ⟨0, by omega, rfl, Below.refl _ _, fun i _ h => absurd h (by omega)⟩
    case round =>
      obtain ⟨j, hj, rfl, hb, HJ⟩ := hrel
      by_cases hlt : j < n
      · have hj2 : j < H.buffer.length := by have := Hn.out; omega
        obtain ⟨g, off, rfl, -, hc⟩ := HRI.out _ hb j hj2
        have HX : Hid (¬ okB H j H.buffer[j] → b = false) := HNX.out j hj2
        have HZ : Hid (okB H j H.buffer[j] → ∀ i (h : i < H.buffer.length), i < j + 1 → okB H i H.buffer[i]) := fun ho i hi hl => by
          rcases Nat.lt_or_ge i j with h3 | h3
          · exact HJ.out i hi h3
          · obtain rfl : i = j := by omega
            exact ho
        have htk : (H.buffer.take j).length = j := by rw [List.length_take]; omega
        have HRT : Hid (∀ X, Below W.heap.size W X → RdI X (some ⟨g, off, none⟩) (H.buffer.take j)) := fun X hX i hi => by
          have hi2 : i < H.buffer.length := by rw [htk] at hi; omega
          obtain ⟨g', off', e1, e2, e3⟩ := HRI.out X hX i hi2
          exact ⟨g', off', e1, e2, by rw [List.getElem_take]; exact e3⟩
        have CH : Hid (∀ X c, Below W.heap.size W X → _) := fun X c hX => hasInt_calls X (some ⟨g, off, none⟩) c (H.buffer.take j) H.buffer[j] (HRT.out X hX) (by rw [htk]; omega)
        have CS2 : Hid (∀ u : Unit, _) := fun (_ : Unit) => CS.out wr H.buffer[j] hb (HF.out _ (List.getElem_mem hj2))
        rw [htk] at CH
        obtain ⟨x, hx⟩ : ∃ x, H.buffer[j] = x := ⟨_, rfl⟩
        rw [hx] at hc HX HZ CH CS2
        clear hx htk
        have i2 : (j : Int) ≤ (cb : Int) := by omega
        obtain ⟨k0, k1, k2, k3⟩ := HK.out _ hb
        by_cases hsl : slotZ H x < 0
        · have hb0 := HX.out (fun hh => by have := hh.1; omega)
          subst hb0
          clear HX HZ
          generalize slotZ H x = sl at *
          go_wp2_with fail
          refine (CS2.out ()).mono ?_
          rintro e w1 ⟨rfl, b1⟩
          have B1 := hb.trans (b1.mono hb.size)
          go_wp2
          go_ret
          exact ⟨rfl, HB.out.trans (B1.mono HB.out.size)⟩
        · have hsl2 : 0 ≤ slotZ H x := by omega
          by_cases hm : x ∈ H.buffer.take j
          · have hb0 := HX.out (fun hh => hh.2 hm)
            subst hb0
            rw [decide_eq_true hm] at CH
            clear HX HZ
            generalize slotZ H x = sl at *
            go_wp2_with fail
            refine (CS2.out ()).mono ?_
            rintro e w1 ⟨rfl, b1⟩
            have B1 := hb.trans (b1.mono hb.size)
            clear k0 k1 k2 k3
            obtain ⟨k0, k1, k2, k3⟩ := HK.out _ B1
            go_wp2_with fail
            refine (CH.out _ _ B1).mono ?_
            rintro e w2 ⟨rfl, hw2⟩
            subst hw2
            go_wp2
            go_ret
            exact ⟨rfl, HB.out.trans (B1.mono HB.out.size)⟩
          · have HFIN : Hid _ := HZ.out ⟨hsl2, hm⟩
            rw [decide_eq_false hm] at CH
            clear HX HZ
            generalize slotZ H x = sl at *
            go_wp2_with fail
            refine (CS2.out ()).mono ?_
            rintro e w1 ⟨rfl, b1⟩
            have B1 := hb.trans (b1.mono hb.size)
            clear k0 k1 k2 k3
            obtain ⟨k0, k1, k2, k3⟩ := HK.out _ B1
            go_wp2_with fail
            refine (CH.out _ _ B1).mono ?_
            rintro e w2 ⟨rfl, hw2⟩
            subst hw2
            go_wp2
            go_roundw
            case rel => exact ⟨j + 1, by omega, by go_num, B1, HFIN⟩
            case measure => simp [intOf]; omega
      · have ej : n ≤ j := by omega
        have hb1 := HY2.out (fun i hi => HJ.out i hi (by have := Hn.out; omega))
        subst hb1
        go_wp2
        go_ret
        exact ⟨rfl, HB.out.trans (hb.mono HB.out.size)⟩

theorem weakWrong_calls (d : WeakD) (w : World) (b : Bool) (hb : b = true ↔ okW d) :
    Calls Try.prog 30 #[.agg #[.bool d.used, .int .i64 d.target]] w fun e w' => e = .returned (.bool (!b)) ∧ Below w.heap.size w w' := by
  obtain ⟨du, dt⟩ := d
  simp only
  have hbn : ¬ okW ⟨du, dt⟩ → b = false := fun hn => by cases b with | false => rfl | true => exact absurd (hb.1 rfl) hn
  cases du with
  | false =>
    by_cases hz : dt = 0
    · have e : b = true := hb.2 ⟨fun _ => hz, fun h => by cases h⟩
      subst e hz
      clear hb hbn
      go_enter Try.func30, Try.ntmps30
      go_wp2
      go_ret
      exact ⟨rfl, (Below.refl _ _).alloc (Nat.le_refl _) _⟩
    · have e := hbn (fun h => hz (h.1 rfl))
      subst e
      have hq : (dt != 0) = true := by rw [bne_iff_ne]; exact hz
      clear hb hbn
      go_enter Try.func30, Try.ntmps30
      go_wp2
      go_ret
      exact ⟨ret_bb (by first | rfl | (rw [hq]; rfl)), (Below.refl _ _).alloc (Nat.le_refl _) _⟩
  | true =>
    by_cases hz : 8 ≤ dt ∧ dt ≤ 7999
    · have e : b = true := hb.2 ⟨fun h => (by cases h), fun _ => hz⟩
      subst e
      clear hb hbn
      go_enter Try.func30, Try.ntmps30
      go_wp2_with fail
      refine (within_yes dt 8 7999 _ hz.1 hz.2).mono ?_
      rintro e V ⟨rfl, hV⟩
      have BV : Below w.heap.size w V := by rw [hV]; exact (Below.refl _ _).alloc (Nat.le_refl _) _
      clear hV
      go_wp2
      go_ret
      exact ⟨rfl, BV⟩
    · have e := hbn (fun h => hz (h.2 rfl))
      subst e
      clear hb hbn
      go_enter Try.func30, Try.ntmps30
      go_wp2_with fail
      refine (within_no dt 8 7999 _ (by omega)).mono ?_
      rintro e V ⟨rfl, hV⟩
      have BV : Below w.heap.size w V := by rw [hV]; exact (Below.refl _ _).alloc (Nat.le_refl _) _
      clear hV
      go_wp2
      go_ret
      exact ⟨rfl, BV⟩

end Go.Proofs.Ytebgngofnmcklaa
