/- What slices.ContainsFunc over impl.weakWrong and impl.HeapOk answer. -/
import Derived.Test.YtebgngofnmcklaaLiveOkWalks
import Derived.Test.YtebgngofnmcklaaFreeWalks
import Derived.Deep.RegionHeld
namespace Go.Proofs.Ytebgngofnmcklaa
open Go.RowKit
set_option linter.unusedVariables false

/-- Every handle is right. -/
def AllW (ds : List WeakD) : Prop := ∀ i (h : i < ds.length), okW ds[i]

theorem idxWeak_calls (w : World) (a : Option Addr) (cap : Nat) (ds : List WeakD) (h : RdW w a ds) (hn : ds.length ≤ 1048576) :
    Calls Try.prog 45 #[.slice a ds.length cap, .func (.func 30) #[] #[]] w fun e w' => ∃ z : Int, e = .returned (.int .i64 z) ∧ (0 ≤ z ↔ ¬ AllW ds) ∧ Below w.heap.size w w' := by
  have HA : Hid (∀ X, Below w.heap.size w X → RdW X a ds) := fun X hX => rdW_later h hX
  obtain ⟨n, hnn⟩ : ∃ n, ds.length = n := ⟨_, rfl⟩
  have Hn : Hid (ds.length = n) := hnn
  rw [hnn] at hn
  rw [hnn]
  clear h hnn
  go_enter Try.func45, Try.ntmps45
  go_wp2
  go_loopw [8] (fun i X => ∃ j : Nat, j ≤ n ∧ i = .int .i64 j ∧ Below w.heap.size w X ∧ Hid (∀ i (h : i < ds.length), i < j → okW ds[i])) (fun i _ => n - (intOf i).toNat)
  case atStart => exact ⟨0, by omega, rfl, Below.refl _ _, fun i _ h => absurd h (by omega)⟩
  case round =>
    obtain ⟨j, hj, rfl, hb, HJ⟩ := hrel
    by_cases hlt : j < n
    · have hj2 : j < ds.length := by have := Hn.out; omega
      obtain ⟨g, off, rfl, hg, hc⟩ := HA.out _ hb j hj2
      obtain ⟨c0, c1⟩ := hc
      obtain ⟨q, hq⟩ := bool_of (okW ds[j])
      have CW : Hid (∀ X, _) := fun X => weakWrong_calls ds[j] X q hq
      have HW : Hid (q = true → ∀ i (h : i < ds.length), i < j + 1 → okW ds[i]) := fun ho i hi hl => by
        rcases Nat.lt_or_ge i j with h3 | h3
        · exact HJ.out i hi h3
        · obtain rfl : i = j := by omega
          exact hq.1 ho
      have HWN : Hid (q = false → ¬ AllW ds) := fun ho hall => by rw [hq.2 (hall j hj2)] at ho; cases ho
      clear hq
      generalize ds[j].used = du at *
      generalize ds[j].target = dt at *
      cases q with
      | true =>
        have HFIN : Hid _ := HW.out rfl
        go_wp2_with fail
        refine (CW.out _).mono ?_
        rintro e w1 ⟨rfl, b1⟩
        have B1 := hb.trans (b1.mono hb.size)
        go_wp2
        go_roundw
        case rel => exact ⟨j + 1, by omega, by go_num, B1, HFIN⟩
        case measure => simp [intOf]; omega
      | false =>
        have HFIN : Hid _ := HWN.out rfl
        go_wp2_with fail
        refine (CW.out _).mono ?_
        rintro e w1 ⟨rfl, b1⟩
        have B1 := hb.trans (b1.mono hb.size)
        go_wp2
        go_ret
        exact ⟨(j : Int), rfl, ⟨fun _ => HFIN.out, fun _ => by omega⟩, B1⟩
    · have ej : n ≤ j := by omega
      go_wp2
      go_ret
      exact ⟨-1, rfl, ⟨fun h => by omega, fun h => absurd (fun i hi => HJ.out i hi (by have := Hn.out; omega)) h⟩, hb⟩

theorem hasWeak_calls (w : World) (a : Option Addr) (cap : Nat) (ds : List WeakD) (h : RdW w a ds) (hn : ds.length ≤ 1048576) (b : Bool) (hb : b = true ↔ AllW ds) :
    Calls Try.prog 29 #[.slice a ds.length cap, .func (.func 30) #[] #[]] w fun e w' => e = .returned (.bool (!b)) ∧ Below w.heap.size w w' := by
  have C : Hid (∀ u : Unit, _) := fun (_ : Unit) => idxWeak_calls w a cap ds h hn
  rw [← hb] at C
  clear h hb
  go_enter Try.func29, Try.ntmps29
  go_wp2_with fail
  refine (C.out ()).mono ?_
  rintro e w1 ⟨z, rfl, hz, b1⟩
  have HZ : Hid (decide (0 ≤ z) = !b) := by show _ = _; cases b <;> simp_all
  clear hz
  go_wp2
  go_ret
  exact ⟨ret_bb HZ.out, b1⟩

/-- A list of numbers from 0 to n - 1, no two alike, has at most n. -/
theorem few {n : Nat} : ∀ {l : List Nat}, l.Nodup → (∀ x ∈ l, x < n) → l.length ≤ n := by
  induction n with
  | zero => intro l _ h; cases l with | nil => simp | cons x r => exact absurd (h x (by simp)) (by omega)
  | succ n ih =>
    intro l hn h
    by_cases hm : n ∈ l
    · have h1 := ih (l := l.erase n) (hn.erase n) (fun x hx => by
        have h2 := h x (List.mem_of_mem_erase hx)
        have h3 : x ≠ n := fun e => by subst e; exact (hn.mem_erase_iff.1 hx).1 rfl
        omega)
      rw [List.length_erase_of_mem hm] at h1
      omega
    · have h1 := ih (l := l) hn (fun x hx => by
        have h2 := h x hx
        have h3 : x ≠ n := fun e => by subst e; exact hm hx
        omega)
      omega
theorem slotZ_back (H : HeapD) (x : Int) (h : 0 ≤ slotZ H x) : ∃ k, ∃ (hk : k < H.objs.length), slotZ H x = (k : Int) ∧ k < 8 ∧ x = (k : Int) + 8 * H.objs[k].gen := by
  unfold slotZ at h ⊢
  by_cases h1 : x < 8 ∨ H.objs.length ≠ 8
  · rw [if_pos h1] at h; omega
  · rw [if_neg h1] at h ⊢
    have h8 : H.objs.length = 8 := by omega
    have hk : (x % 8).toNat < H.objs.length := by omega
    rw [List.getElem?_eq_getElem hk] at h ⊢
    simp only at h ⊢
    by_cases h2 : H.objs[(x % 8).toNat].live = true ∧ H.objs[(x % 8).toNat].gen = x / 8
    · rw [if_pos h2] at h ⊢
      refine ⟨(x % 8).toNat, hk, by omega, by omega, ?_⟩
      rw [h2.2]; omega
    · rw [if_neg h2] at h; omega
theorem bufOk_iff (H : HeapD) : BufOk H ↔ ∀ i (h : i < H.buffer.length), okB H i H.buffer[i] := by
  refine ⟨fun h => h.2, fun h => ⟨?_, h⟩⟩
  have hnd : (H.buffer.map (fun x => (slotZ H x).toNat)).Nodup := by
    unfold List.Nodup
    rw [List.pairwise_iff_getElem]
    intro i j hi hj hij e
    rw [List.length_map] at hi hj
    rw [List.getElem_map, List.getElem_map] at e
    obtain ⟨k, hk, e1, -, e2⟩ := slotZ_back H _ (h i hi).1
    obtain ⟨k', hk', e3, -, e4⟩ := slotZ_back H _ (h j hj).1
    rw [e1, e3] at e
    obtain rfl : k = k' := by omega
    refine (h j hj).2 ((mem_take _ _ _).2 ⟨i, hi, hij, ?_⟩)
    rw [e2, e4]
  have h1 := few hnd (n := 8) (fun y hy => by
    obtain ⟨x, hx, rfl⟩ := List.mem_map.1 hy
    obtain ⟨i, hi, rfl⟩ := List.mem_iff_getElem.1 hx
    obtain ⟨k, hk, e1, e2, -⟩ := slotZ_back H _ (h i hi).1
    rw [e1]; omega)
  rw [List.length_map] at h1
  exact h1
theorem namesOk_iff (H : HeapD) : NamesOk H.sites ↔ H.sites.length ≤ 6 ∧ ∀ i (h : i < H.sites.length), okN H i H.sites[i] := by
  unfold NamesOk okN
  constructor
  · rintro ⟨h1, h2⟩
    exact ⟨h1, fun i hi => ⟨(h2 i hi).1, fun k hk hki e => (h2 i hi).2 ((mem_take _ _ _).2 ⟨k, hk, hki, e⟩)⟩⟩
  · rintro ⟨h1, h2⟩
    exact ⟨h1, fun i hi => ⟨(h2 i hi).1, fun hm => by obtain ⟨k, hk, hki, e⟩ := (mem_take _ _ _).1 hm; exact (h2 i hi).2 k hk hki e⟩⟩
theorem dead_iff (o : ObjD) (hl : o.live = false) (h3 : o.field.length = 3) : o = emptyD o.gen ↔ deadO o := by
  obtain ⟨ol, og, ost, oh, orr, oc, ofl, op⟩ := o
  simp only at hl h3
  subst hl
  unfold emptyD deadO
  simp only [ObjD.mk.injEq, true_and]
  constructor
  · rintro ⟨rfl, rfl, rfl, rfl, rfl, rfl⟩
    refine ⟨rfl, rfl, rfl, rfl, rfl, fun k hk => ?_⟩
    match k, hk with
    | 0, _ | 1, _ | 2, _ => rfl
  · rintro ⟨rfl, rfl, rfl, rfl, rfl, hk⟩
    refine ⟨rfl, rfl, rfl, rfl, ?_, rfl⟩
    match ofl, h3, hk with
    | [a, b, c], _, hk =>
      have h0 := hk 0 (by simp)
      have h1 := hk 1 (by simp)
      have h2 := hk 2 (by simp)
      simp at h0 h1 h2
      rw [h0, h1, h2]
set_option maxRecDepth 100000 in
set_option maxHeartbeats 4000000 in
theorem iHeapOk_calls (v : Value) (H : HeapD) (w : World) (h : RdH w v H) (hs : SmallH H) (hf : WfH H) (hcap : CapH v) (b : Bool) (hbb : b = true ↔ OkH H) :
    Calls Try.prog 7 #[v] w fun e w' => e = .returned (.bool b) ∧ Below w.heap.size w w' := by
  have HR0 : Hid (∀ X, Below w.heap.size w X → RdH X v H) := fun X hX => rdH_later h hX
  have HCP : Hid (CapH v) := hcap
  obtain ⟨ao, co, aw, cw, ab, cb, sa, sc, rfl, ro, rwk, ri, rs⟩ := h
  have hcs : H.sites.length ≤ sc := by
    obtain ⟨a0, n0, k0, a1, n1, k1, a2, n2, k2, a3, n3, k3, e, h0, h1, h2, h3⟩ := hcap
    simp only [Value.agg.injEq, Array.mk.injEq, List.cons.injEq, Value.slice.injEq] at e
    obtain ⟨-, -, -, ⟨-, e1, e2⟩, -⟩ := e
    omega
  have HNO : Hid (¬ OkH H → b = false) := bool_no hbb
  have HYES : Hid (OkH H → b = true) := hbb.2
  clear hbb
  obtain ⟨bN, hbN⟩ := bool_of (NamesOk H.sites)
  obtain ⟨bB, hbB⟩ := bool_of (BufOk H)
  obtain ⟨bW, hbW⟩ := bool_of (AllW H.weaks)
  have l0 := hs.objs
  have l1 := hs.weaks
  have l2 := hs.buffer
  have l3 := hs.sites
  obtain ⟨W, hW⟩ : ∃ W, W = w.alloc (.cells #[.slice ao H.objs.length co, .slice aw H.weaks.length cw, .slice ab H.buffer.length cb, .slice sa H.sites.length sc] 33) := ⟨_, rfl⟩
  have BW : Below w.heap.size w W := by rw [hW]; exact (Below.refl _ _).alloc (Nat.le_refl _) _
  have hWs : W.heap.size = w.heap.size + 1 := by rw [hW]; simp
  have HK : Hid (∀ X, Below W.heap.size W X → _) := fun X (hX : Below W.heap.size W X) => four_kept w 33 (.slice ao H.objs.length co) (.slice aw H.weaks.length cw) (.slice ab H.buffer.length cb) (.slice sa H.sites.length sc) X (by rw [hWs, hW] at hX; exact hX)
  have HRS : Hid (∀ X, Below W.heap.size W X → RdS X sa H.sites) := fun X hX => rdS_later (rdS_later rs BW) hX
  have HRO : Hid (∀ X, Below W.heap.size W X → RdO X ao H.objs) := fun X hX => rdO_later (rdO_later ro BW) hX
  have HRW : Hid (∀ X, Below W.heap.size W X → RdW X aw H.weaks) := fun X hX => rdW_later (rdW_later rwk BW) hX
  have HRD : Hid (∀ X, Below W.heap.size W X → RdH X _ H) := fun X hX => HR0.out X (BW.trans (hX.mono BW.size))
  have HB : Hid (∀ X, Below W.heap.size W X → Below w.heap.size w X) := fun X hX => BW.trans (hX.mono BW.size)
  have CSI : Hid (∀ X, Below W.heap.size W X → _) := fun X hX => sitesOk_calls X sa sc H.sites (HRS.out X hX) hcs l3 hs.names bN hbN
  have CBU : Hid (∀ X, Below W.heap.size W X → _) := fun X hX => bufferOk_calls _ H X (HRD.out X hX) HCP.out hs hf bB hbB
  have CWK : Hid (∀ X, Below W.heap.size W X → _) := fun X hX => hasWeak_calls X aw cw H.weaks (HRW.out X hX) l1 bW hbW
  have HS : Hid (SmallH H) := hs
  have HF : Hid (WfH H) := hf
  clear ro rwk ri rs hs hf hcap HR0 hWs
  by_cases h0 : H.objs.length = 8
  rotate_left
  · have hb := HNO.out (fun ok => h0 ok.size.1)
    subst hb
    have q0 : ¬ ((H.objs.length : Int) = 8) := by omega
    clear hW
    go_enter Try.func7, Try.ntmps7
    go_wp2
    go_ret
    exact ⟨rfl, (Below.refl _ _).alloc (Nat.le_refl _) _⟩
  by_cases h1 : H.weaks.length = 8
  rotate_left
  · have hb := HNO.out (fun ok => h1 ok.size.2.1)
    subst hb
    have q1 : ¬ ((H.weaks.length : Int) = 8) := by omega
    rw [h0]
    clear hW
    go_enter Try.func7, Try.ntmps7
    go_wp2
    go_ret
    exact ⟨rfl, (Below.refl _ _).alloc (Nat.le_refl _) _⟩
  have H0 : Hid (H.objs.length = 8) := h0
  have H1 : Hid (H.weaks.length = 8) := h1
  obtain ⟨k0, k1, k2, k3⟩ := HK.out _ (Below.refl _ _)
  rw [h0, h1] at hW HK CBU
  rw [h0] at k0 ⊢
  rw [h1] at k1 CWK ⊢
  clear h0 h1
  by_cases hN : NamesOk H.sites
  rotate_left
  · have hb := HNO.out (fun ok => hN ((namesOk_iff H).2 ⟨ok.size.2.2, ok.sites⟩))
    subst hb
    rw [bool_no hbN hN] at CSI
    go_enter Try.func7, Try.ntmps7
    go_wp2_with fail
    rw [← hW]
    clear hW
    refine (CSI.out _ (Below.refl _ _)).mono ?_
    rintro e W1 ⟨rfl, hw1⟩
    subst hw1
    go_wp2
    go_ret
    exact ⟨rfl, BW⟩
  rw [hbN.2 hN] at CSI
  by_cases hB : BufOk H
  rotate_left
  · have hb := HNO.out (fun ok => hB ((bufOk_iff H).2 ok.buffer))
    subst hb
    rw [bool_no hbB hB] at CBU
    go_enter Try.func7, Try.ntmps7
    go_wp2_with fail
    rw [← hW]
    clear hW
    refine (CSI.out _ (Below.refl _ _)).mono ?_
    rintro e W1 ⟨rfl, hw1⟩
    subst hw1
    go_wp2_with fail
    refine (CBU.out _ (Below.refl _ _)).mono ?_
    rintro e w2 ⟨rfl, b2⟩
    go_wp2
    go_ret
    exact ⟨rfl, HB.out _ b2⟩
  rw [hbB.2 hB] at CBU
  have HNX : Hid (∀ i (h : i < H.objs.length), ¬ okO H i H.objs[i] → b = false) := fun i hi hn => HNO.out (fun ok => hn (ok.objs i hi))
  have HNW : Hid (¬ AllW H.weaks → b = false) := fun hn => HNO.out (fun ok => hn ok.weaks)
  have HAY : Hid ((∀ i (h : i < H.objs.length), okO H i H.objs[i]) → AllW H.weaks → b = true) := fun a1 a2 => HYES.out ⟨⟨H0.out, H1.out, ((namesOk_iff H).1 hN).1⟩, a1, a2, (bufOk_iff H).1 hB, ((namesOk_iff H).1 hN).2⟩
  have hex : ∃ g off, ao = some ⟨g, off, none⟩ := by
    obtain ⟨g, off, f, fc, ha, -⟩ := HRO.out _ (Below.refl _ _) 0 (by have := H0.out; omega)
    exact ⟨g, off, ha⟩
  obtain ⟨g, off, rfl⟩ := hex
  have CC : Hid (∀ X : World, _) := fun X => cellsOf_calls X (some ⟨g, off, none⟩) 8 co (.slice aw 8 cw) (.slice ab H.buffer.length cb) (.slice sa H.sites.length sc) (by omega) g off (fun _ => rfl) ⟨_, _, _, _, _, _, _, _, _, rfl, rfl, rfl⟩
  obtain ⟨x, hx, hxs⟩ := cells_idxs g off 8
  have HX : Hid (∀ s : Nat, s < 8 → ∀ X : World, (Instr.index 56 (.agg x) (.int .i64 (s : Int))).run Try.prog X = .ok (.pointer (cellA g off 8 s)) X) := hxs
  rw [hx] at CC
  have HOB : Hid (∀ X, Below W.heap.size W X → ∀ j (h : j < H.objs.length), ∃ f cap, g < X.heap.size ∧ ObjAt X g (off + j * 8) H.objs[j] (.slice f H.objs[j].field.length cap) ∧ RdI X f H.objs[j].field) := fun X hX j hj => by
    obtain ⟨g', off', f, cap, e1, e2, e3, e4⟩ := HRO.out X hX j hj
    simp only [Option.some.injEq, Addr.mk.injEq, and_true] at e1
    obtain ⟨rfl, rfl⟩ := e1
    exact ⟨f, cap, e2, e3, e4⟩
  have HBW : Hid (bW = true ↔ AllW H.weaks) := hbW
  clear HNO HYES hx hxs hN hB hbN hbB hbW
  go_enter Try.func7, Try.ntmps7
  go_wp2_with fail
  rw [← hW]
  clear hW
  refine (CSI.out _ (Below.refl _ _)).mono ?_
  rintro e W1 ⟨rfl, hw1⟩
  subst hw1
  go_wp2_with fail
  refine (CBU.out _ (Below.refl _ _)).mono ?_
  rintro e w2 ⟨rfl, b2⟩
  clear k0 k1 k2 k3
  obtain ⟨k0, k1, k2, k3⟩ := HK.out _ b2
  go_wp2_with fail
  refine (CC.out _).mono ?_
  rintro e w3 ⟨rfl, b3⟩
  have B3 := b2.trans (b3.mono b2.size)
  clear k0 k1 k2 k3 CSI CBU CC
  go_wp2
  go_loopw [28] (fun i X => ∃ j : Nat, j ≤ 8 ∧ i = .int .i64 j ∧ Below W1.heap.size W1 X ∧ Hid (∀ i (h : i < H.objs.length), i < j → okO H i H.objs[i])) (fun i _ => 8 - (intOf i).toNat)
  case atStart => exact ⟨0, by omega, rfl, B3, fun i _ h => absurd h (by omega)⟩
  case round =>
    obtain ⟨j, hj, rfl, hb, HJ⟩ := hrel
    by_cases hlt : j < 8
    · have hj2 : j < H.objs.length := by have := H0.out; omega
      have hix := HX.out j hlt
      have hA : cellA g off 8 j = some ⟨g, off + j * 8, none⟩ := by unfold cellA; rw [if_pos hlt]
      rw [hA] at hix
      clear hA
      obtain ⟨f, fc, hg, hc, hr⟩ := HOB.out _ hb j hj2
      have HNJ : Hid (¬ okO H j H.objs[j] → b = false) := HNX.out j hj2
      have HOX : Hid (okO H j H.objs[j] → ∀ i (h : i < H.objs.length), i < j + 1 → okO H i H.objs[i]) := fun ho i hi hl => by
        rcases Nat.lt_or_ge i j with h3 | h3
        · exact HJ.out i hi h3
        · obtain rfl : i = j := by omega
          exact ho
      have hfl := HS.out.fields _ (List.getElem_mem hj2)
      have HWF : Hid (WfO H.objs[j]) := HF.out.objs _ (List.getElem_mem hj2)
      obtain ⟨o, ho⟩ : ∃ o, H.objs[j] = o := ⟨_, rfl⟩
      rw [ho] at hc hr HNJ HOX hfl HWF
      obtain ⟨ql, hql⟩ := bool_of (liveO H j o)
      have HQL : Hid (ql = true ↔ liveO H j o) := hql
      clear hql
      have CL : Hid (∀ X : LaterW wr, _) := fun X => liveOk_calls _ H j o X.on (HRD.out _ (hb.trans (X.bel.mono hb.size))) HS.out HF.out hlt g (off + j * 8) f fc (Nat.lt_of_lt_of_le hg X.bel.size) (hc.keep (fun k => X.bel.cell (p := ⟨g, k, none⟩) hg)) (rdI_later hr X.bel) hfl HWF.out ql HQL.out
      rw [H0.out, H1.out] at CL
      have HRF : Hid (∀ X, Below wr.heap.size wr X → RdI X f o.field) := fun X hX => rdI_later hr hX
      have HCE : Hid (∀ X, Below wr.heap.size wr X → ObjAt X g (off + j * 8) o (.slice f o.field.length fc)) := fun X hX => hc.keep (fun k => hX.cell (p := ⟨g, k, none⟩) hg)
      have HK2 : Hid (∀ X : LaterW wr, _) := fun X => HK.out X.on (hb.trans (X.bel.mono hb.size))
      clear ho hr HJ
      obtain ⟨c0, c1, c2, c3, c4, c5, c6, c7⟩ := hc
      by_cases hgen : 0 ≤ o.gen ∧ o.gen ≤ 999
      rotate_left
      · have hb0 := HNJ.out (fun ok => hgen ok.1.1)
        subst hb0
        go_wp2_with fail
        refine (within_no o.gen 0 999 _ (by omega)).mono ?_
        rintro e V ⟨rfl, hV⟩
        subst hV
        go_wp2
        go_ret
        exact ⟨rfl, HB.out _ hb⟩
      by_cases hf3 : o.field.length = 3
      rotate_left
      · have hb0 := HNJ.out (fun ok => hf3 ok.1.2)
        subst hb0
        have q3 : ¬ ((o.field.length : Int) = 3) := by omega
        go_wp2_with fail
        refine (within_yes o.gen 0 999 _ hgen.1 hgen.2).mono ?_
        rintro e V ⟨rfl, hV⟩
        subst hV
        go_wp2
        go_ret
        exact ⟨rfl, HB.out _ hb⟩
      have H3 : Hid (o.field.length = 3) := hf3
      rw [hf3] at c6
      cases hlive : o.live with
      | true =>
        have HL : Hid (ql = false → b = false) := fun hn => HNJ.out (fun ok => by have := HQL.out.2 (ok.2.2 hlive); rw [hn] at this; cases this)
        have HFN : Hid (ql = true → ∀ i (h : i < H.objs.length), i < j + 1 → okO H i H.objs[i]) := fun hd => HOX.out ⟨⟨hgen, H3.out⟩, fun h => (by rw [hlive] at h; cases h), fun _ => HQL.out.1 hd⟩
        have z0 : ∀ X : LaterW wr, X.on.cell? ⟨g, off + j * 8, none⟩ = some (.bool true) := fun X => by rw [← hlive]; exact (HCE.out _ X.bel).c0
        have hne := LaterW.some_ wr
        have y0 : ∀ X : LaterW wr, X.on.cell? ⟨w.heap.size, 0, none⟩ = some (.slice (some ⟨g, off, none⟩) 8 co) := fun X => (HK2.out X).1
        have y1 : ∀ X : LaterW wr, X.on.cell? ⟨w.heap.size, 1, none⟩ = some (.slice aw 8 cw) := fun X => (HK2.out X).2.1
        have y2 : ∀ X : LaterW wr, X.on.cell? ⟨w.heap.size, 2, none⟩ = some (.slice ab H.buffer.length cb) := fun X => (HK2.out X).2.2.1
        have y3 : ∀ X : LaterW wr, X.on.cell? ⟨w.heap.size, 3, none⟩ = some (.slice sa H.sites.length sc) := fun X => (HK2.out X).2.2.2
        clear HQL
        rw [hlive] at c0
        clear hlive hf3
        cases ql with
        | true =>
          have HFIN : Hid _ := HFN.out rfl
          go_wp2_with fail
          refine (within_yes o.gen 0 999 _ hgen.1 hgen.2).mono ?_
          rintro e V ⟨rfl, hV⟩
          subst hV
          go_wp2
          refine wp_region_later V (Below.refl _ _) (by kernel_rfl) (by kernel_rfl) ?_
          repeat (go_big_quiet_step (first
            | (go_at_call 26; refine (CL.out _).mono ?_; rintro e w1 ⟨rfl, b1⟩; exact ⟨rfl, LaterW.step _ b1⟩)))
          refine wpQuiet_nil ?_
          rintro _ ⟨⟨X, hX⟩, rfl⟩
          go_wp2
          go_roundw
          case rel => exact ⟨j + 1, by omega, by go_num, hb.trans (hX.mono hb.size), HFIN⟩
          case measure => simp [intOf]; omega
        | false =>
          have hb0 := HL.out rfl
          subst hb0
          go_wp2_with fail
          refine (within_yes o.gen 0 999 _ hgen.1 hgen.2).mono ?_
          rintro e V ⟨rfl, hV⟩
          subst hV
          go_wp2
          refine wp_region_later V (Below.refl _ _) (by kernel_rfl) (by kernel_rfl) ?_
          repeat (go_big_quiet_step (first
            | (go_at_call 26; refine (CL.out _).mono ?_; rintro e w1 ⟨rfl, b1⟩; exact ⟨rfl, LaterW.step _ b1⟩)))
          refine wpQuiet_nil ?_
          rintro _ ⟨⟨X, hX⟩, rfl⟩
          go_wp2
          go_ret
          exact ⟨rfl, HB.out _ (hb.trans (hX.mono hb.size))⟩
      | false =>
        obtain ⟨q, hq⟩ := bool_of (o = emptyD o.gen)
        have HQE : Hid (q = true ↔ o = emptyD o.gen) := hq
        clear hq
        have HL : Hid (q = false → b = false) := fun hn => HNJ.out (fun ok => by have := HQE.out.2 ((dead_iff o hlive H3.out).2 (ok.2.1 hlive)); rw [hn] at this; cases this)
        have HFN : Hid (q = true → ∀ i (h : i < H.objs.length), i < j + 1 → okO H i H.objs[i]) := fun hd => HOX.out ⟨⟨hgen, H3.out⟩, fun _ => (dead_iff o hlive H3.out).1 (HQE.out.1 hd), fun h => (by rw [hlive] at h; cases h)⟩
        have SO : Hid (∀ X fa fk, Below wr.heap.size wr X → RdI X fa [-1, -1, -1] → _) := fun X fa fk hX hfa => sameObj_calls o (emptyD o.gen) f fa fc fk X (HRF.out X hX) hfa (by omega) (by simp [emptyD]) q HQE.out
        have EO : Hid (∀ X : World, _) := fun X => emptyObj_calls o.gen X
        have D1 : Below wr.heap.size wr wr.drew := (Below.refl _ _).drew
        clear HQE
        rw [hf3] at SO HCE
        rw [hlive] at c0
        have hcell := HCE
        obtain ⟨ol, og, ost, oh, orr, oc, ofl, op⟩ := o
        simp only at *
        subst hlive
        unfold objV at SO EO
        simp only at SO EO
        clear HNJ HOX HRF HWF CL HK2
        have HSX : Hid (∀ X, Below wr.heap.size wr X → (fun X => X.cell? ⟨g, off + j * 8, none⟩ = some (.bool false) ∧ X.cell? ⟨g, off + j * 8 + 1, none⟩ = some (.int .i64 og) ∧ X.cell? ⟨g, off + j * 8 + 2, none⟩ = some (.int .i64 ost) ∧ X.cell? ⟨g, off + j * 8 + 3, none⟩ = some (.int .i64 oh) ∧ X.cell? ⟨g, off + j * 8 + 4, none⟩ = some (.int .i64 orr) ∧ X.cell? ⟨g, off + j * 8 + 5, none⟩ = some (.int .i64 oc) ∧ X.cell? ⟨g, off + j * 8 + 6, none⟩ = some (.slice f 3 fc) ∧ X.cell? ⟨g, off + j * 8 + 7, none⟩ = some (.bool op)) X) := fun X hX => ⟨(HCE.out X hX).c0, (HCE.out X hX).c1, (HCE.out X hX).c2, (HCE.out X hX).c3, (HCE.out X hX).c4, (HCE.out X hX).c5, (HCE.out X hX).c6, (HCE.out X hX).c7⟩
        clear hcell
        go_wp2_with fail
        refine (within_yes og 0 999 _ hgen.1 hgen.2).mono ?_
        rintro e V ⟨rfl, hV⟩
        subst hV
        go_wp2
        clear c0 c1 c2 c3 c4 c5 c6 c7
        refine wp_region_held_drew (S := (fun X => X.cell? ⟨g, off + j * 8, none⟩ = some (.bool false) ∧ X.cell? ⟨g, off + j * 8 + 1, none⟩ = some (.int .i64 og) ∧ X.cell? ⟨g, off + j * 8 + 2, none⟩ = some (.int .i64 ost) ∧ X.cell? ⟨g, off + j * 8 + 3, none⟩ = some (.int .i64 oh) ∧ X.cell? ⟨g, off + j * 8 + 4, none⟩ = some (.int .i64 orr) ∧ X.cell? ⟨g, off + j * 8 + 5, none⟩ = some (.int .i64 oc) ∧ X.cell? ⟨g, off + j * 8 + 6, none⟩ = some (.slice f 3 fc) ∧ X.cell? ⟨g, off + j * 8 + 7, none⟩ = some (.bool op))) (by kernel_rfl) (HSX.out _ D1) (fun hHeld => ?_)
        refine wpAnyH_take (i := 0) (v := ?_) rfl (by kernel_rfl) (by kernel_rfl) (by kernel_rfl) (fun _ _ _ h => h) (Or.inl ⟨by rfl, ?_⟩) (by assumption) ?_
        rotate_left 1
        · intro wX hSw
          (try dsimp only at hSw)
          go_simp
          all_goals (try with_reducible rfl)
        (try simp only [Act.put, List.setIfInBounds_toArray])
        refine wpAnyH_take (i := 1) (v := ?_) rfl (by kernel_rfl) (by kernel_rfl) (by kernel_rfl) (fun _ _ _ h => h) (Or.inl ⟨by rfl, ?_⟩) (by assumption) ?_
        rotate_left 1
        · intro wX hSw
          (try dsimp only at hSw)
          go_simp
          all_goals (try with_reducible rfl)
        (try simp only [Act.put])
        refine wpAnyH_take (i := 2) (v := ?_) rfl (by kernel_rfl) (by kernel_rfl) (by kernel_rfl) (fun _ _ _ h => h) (Or.inl ⟨by rfl, ?_⟩) (by assumption) ?_
        rotate_left 1
        · intro wX hSw
          (try dsimp only at hSw)
          go_simp
          all_goals (try with_reducible rfl)
        (try simp only [Act.put])
        refine wpAnyH_take (i := 3) (v := ?_) rfl (by kernel_rfl) (by kernel_rfl) (by kernel_rfl) (fun _ _ _ h => h) (Or.inl ⟨by rfl, ?_⟩) (by assumption) ?_
        rotate_left 1
        · intro wX hSw
          (try dsimp only at hSw)
          go_simp
          all_goals (try with_reducible rfl)
        (try simp only [Act.put])
        refine wpAnyH_take (i := 4) (v := ?_) rfl (by kernel_rfl) (by kernel_rfl) (by kernel_rfl) (fun _ _ _ h => h) (Or.inl ⟨by rfl, ?_⟩) (by assumption) ?_
        rotate_left 1
        · intro wX hSw
          (try dsimp only at hSw)
          go_simp
          all_goals (try with_reducible rfl)
        (try simp only [Act.put])
        refine wpAnyH_take (i := 5) (v := undef) rfl (by kernel_rfl) (by kernel_rfl) (by kernel_rfl) (fun _ _ _ h => h) (Or.inr ⟨by simp [Region.wanted, yielded], rfl⟩) (by assumption) ?_
        (try simp only [Act.put])
        refine wpAnyH_take (i := 6) (v := undef) rfl (by kernel_rfl) (by kernel_rfl) (by kernel_rfl) (fun _ _ _ h => h) (Or.inr ⟨by simp [Region.wanted, yielded], rfl⟩) (by assumption) ?_
        (try simp only [Act.put])
        refine wpAnyH_take (i := 7) (v := undef) rfl (by kernel_rfl) (by kernel_rfl) (by kernel_rfl) (fun _ _ _ h => h) (Or.inr ⟨by simp [Region.wanted, yielded], rfl⟩) (by assumption) ?_
        (try simp only [Act.put])
        refine wpAnyH_take (i := 8) (v := undef) rfl (by kernel_rfl) (by kernel_rfl) (by kernel_rfl) (fun _ _ _ h => h) (Or.inr ⟨by simp [Region.wanted, yielded], rfl⟩) (by assumption) ?_
        (try simp only [Act.put])
        refine wpAnyH_take (i := 9) (v := undef) rfl (by kernel_rfl) (by kernel_rfl) (by kernel_rfl) (fun _ _ _ h => h) (Or.inr ⟨by simp [Region.wanted, yielded], rfl⟩) (by assumption) ?_
        (try simp only [Act.put])
        refine wpAnyH_take (i := 10) (v := ?_) rfl (by kernel_rfl) (by kernel_rfl) (by kernel_rfl) (fun _ _ _ h => h) (Or.inl ⟨by rfl, ?_⟩) (by assumption) ?_
        rotate_left 1
        · intro wX hSw
          (try dsimp only at hSw)
          go_simp
          all_goals (try with_reducible rfl)
        (try simp only [Act.put])
        refine wpAnyH_take (i := 11) (v := ?_) rfl (by kernel_rfl) (by kernel_rfl) (by kernel_rfl) (fun _ _ _ h => h) (Or.inl ⟨by rfl, ?_⟩) (by assumption) ?_
        rotate_left 1
        · intro wX hSw
          (try dsimp only at hSw)
          go_simp
          all_goals (try with_reducible rfl)
        (try simp only [Act.put])
        refine wpAnyH_take (i := 12) (v := ?_) rfl (by kernel_rfl) (by kernel_rfl) (by kernel_rfl) (fun _ _ _ h => h) (Or.inl ⟨by simp [Region.wanted, yielded], ?_⟩) (by assumption) ?_
        rotate_left 1
        · intro wX hSw
          (try dsimp only at hSw)
          go_simp
          all_goals (try with_reducible rfl)
        (try simp only [Act.put])
        refine wpAnyH_take (i := 13) (v := ?_) rfl (by kernel_rfl) (by kernel_rfl) (by kernel_rfl) (fun _ _ _ h => h) (Or.inl ⟨by simp [Region.wanted, yielded], ?_⟩) (by assumption) ?_
        rotate_left 1
        · intro wX hSw
          (try dsimp only at hSw)
          go_simp
          all_goals (try with_reducible rfl)
        (try simp only [Act.put])
        refine wpAnyH_take (i := 14) (v := ?_) rfl (by kernel_rfl) (by kernel_rfl) (by kernel_rfl) (fun _ _ _ h => h) (Or.inl ⟨by simp [Region.wanted, yielded], ?_⟩) (by assumption) ?_
        rotate_left 1
        · intro wX hSw
          (try dsimp only at hSw)
          go_simp
          all_goals (try with_reducible rfl)
        (try simp only [Act.put])
        refine wpAnyH_take (i := 15) (v := ?_) rfl (by kernel_rfl) (by kernel_rfl) (by kernel_rfl) (fun _ _ _ h => h) (Or.inl ⟨by simp [Region.wanted, yielded], ?_⟩) (by assumption) ?_
        rotate_left 1
        · intro wX hSw
          (try dsimp only at hSw)
          go_simp
          all_goals (try with_reducible rfl)
        (try simp only [Act.put])
        refine wpAnyH_take (i := 16) (v := ?_) rfl (by kernel_rfl) (by kernel_rfl) (by kernel_rfl) (fun _ _ _ h => h) (Or.inl ⟨by simp [Region.wanted, yielded], ?_⟩) (by assumption) ?_
        rotate_left 1
        · intro wX hSw
          (try dsimp only at hSw)
          go_simp
          all_goals (try with_reducible rfl)
        (try simp only [Act.put])
        refine wpAnyH_take (i := 17) (v := ?_) rfl (by kernel_rfl) (by kernel_rfl) (by kernel_rfl) (fun _ _ _ h => h) (Or.inl ⟨by simp [Region.wanted, yielded], ?_⟩) (by assumption) ?_
        rotate_left 1
        · intro wX hSw
          (try dsimp only at hSw)
          go_simp
          all_goals (try with_reducible rfl)
        (try simp only [Act.put])
        refine wpAnyH_take (i := 18) (v := ?_) rfl (by kernel_rfl) (by kernel_rfl) (by kernel_rfl) (fun _ _ _ h => h) (Or.inl ⟨by simp [Region.wanted, yielded], ?_⟩) (by assumption) ?_
        rotate_left 1
        · intro wX hSw
          (try dsimp only at hSw)
          go_simp
          all_goals (try with_reducible rfl)
        (try simp only [Act.put])
        refine wpAnyH_take (i := 19) (v := ?_) rfl (by kernel_rfl) (by kernel_rfl) (by kernel_rfl) (fun _ _ _ h => h) (Or.inl ⟨by simp [Region.wanted, yielded], ?_⟩) (by assumption) ?_
        rotate_left 1
        · intro wX hSw
          (try dsimp only at hSw)
          go_simp
          all_goals (try with_reducible rfl)
        (try simp only [Act.put])
        refine wpAnyH_take (i := 20) (v := ?_) rfl (by kernel_rfl) (by kernel_rfl) (by kernel_rfl) (fun _ _ _ h => h) (Or.inl ⟨by simp [Region.wanted, yielded], ?_⟩) (by assumption) ?_
        rotate_left 1
        · intro wX hSw
          (try dsimp only at hSw)
          go_simp
          all_goals (try with_reducible rfl)
        (try simp only [Act.put])
        refine wpAnyH_take (i := 21) (v := ?_) rfl (by kernel_rfl) (by kernel_rfl) (by kernel_rfl) (fun _ _ _ h => h) (Or.inl ⟨by simp [Region.wanted, yielded], ?_⟩) (by assumption) ?_
        rotate_left 1
        · intro wX hSw
          (try dsimp only at hSw)
          go_simp
          all_goals (try with_reducible rfl)
        (try simp only [Act.put])
        refine wpAnyH_take (i := 22) (v := ?_) rfl (by kernel_rfl) (by kernel_rfl) (by kernel_rfl) (fun _ _ _ h => h) (Or.inl ⟨by simp [Region.wanted, yielded], ?_⟩) (by assumption) ?_
        rotate_left 1
        · intro wX hSw
          (try dsimp only at hSw)
          go_simp
          all_goals (try with_reducible rfl)
        (try simp only [Act.put])
        refine wpAnyH_take (i := 23) (v := ?_) rfl (by kernel_rfl) (by kernel_rfl) (by kernel_rfl) (fun _ _ _ h => h) (Or.inl ⟨by simp [Region.wanted, yielded], ?_⟩) (by assumption) ?_
        rotate_left 1
        · intro wX hSw
          (try dsimp only at hSw)
          go_simp
          all_goals (try with_reducible rfl)
        (try simp only [Act.put])
        refine wpAnyH_take (i := 24) (v := ?_) rfl (by kernel_rfl) (by kernel_rfl) (by kernel_rfl) (fun _ _ _ h => h) (Or.inl ⟨by simp [Region.wanted, yielded], ?_⟩) (by assumption) ?_
        rotate_left 1
        · intro wX hSw
          (try dsimp only at hSw)
          go_simp
          all_goals (try with_reducible rfl)
        (try simp only [Act.put])
        refine wpAnyH_ready (rs := [25]) (by kernel_rfl) (by simp) ?_
        refine AllReadyH.cons rfl (fun K hK => ?_) AllReadyH.nil
        go_simp
        refine (EO.out _).mono ?_
        rintro e w1 ⟨fv, rfl, O1, b1⟩
        obtain ⟨fa, fk, hfv, hr1⟩ := rdI_own' O1
        subst hfv
        have B1 := D1.trans (b1.mono D1.size)
        refine hK.out _ _ (HSX.out _ B1) (fun hHeld2 => ?_)
        clear hK K hHeld
        (try simp only [Act.put, List.setIfInBounds_toArray, List.set_cons_zero, List.set_cons_succ])
        refine wpAnyH_ready (rs := [26]) (by kernel_rfl) (by simp) ?_
        refine AllReadyH.cons rfl (fun K hK => ?_) AllReadyH.nil
        go_simp
        refine (SO.out _ _ _ B1 hr1).mono ?_
        rintro e w2 ⟨rfl, b2⟩
        have B2 := B1.trans (b2.mono B1.size)
        refine hK.out _ _ (HSX.out _ B2) (fun hHeld3 => ?_)
        clear hK K hHeld2
        (try simp only [Act.put, List.setIfInBounds_toArray, List.set_cons_zero, List.set_cons_succ])
        cases q with
        | true =>
          have HFIN : Hid _ := HFN.out rfl
          clear HL HFN
          refine wpAnyH_take (i := 27) (v := .bool false) rfl (by kernel_rfl) (by kernel_rfl) (by kernel_rfl) (fun _ _ _ h => h) (Or.inl ⟨by simp [Region.wanted, yielded], ?_⟩) (by assumption) ?_
          · intro wX hSw
            (try dsimp only at hSw)
            go_simp
            all_goals (try with_reducible rfl)
          (try simp only [Act.put, List.setIfInBounds_toArray])
          refine wpAnyH_take (i := 28) (v := .bool false) rfl (by kernel_rfl) (by kernel_rfl) (by kernel_rfl) (fun _ _ _ h => h) (Or.inl ⟨by simp [Region.wanted, yielded], ?_⟩) (by assumption) ?_
          · intro wX hSw
            (try dsimp only at hSw)
            go_simp
            all_goals (try with_reducible rfl)
          (try simp only [Act.put])
          refine wpAnyH_take (i := 29) (v := .bool false) rfl (by kernel_rfl) (by kernel_rfl) (by kernel_rfl) (fun _ _ _ h => h) (Or.inl ⟨by rfl, ?_⟩) (by assumption) ?_
          · intro wX hSw
            (try dsimp only at hSw)
            go_simp
            all_goals (try with_reducible rfl)
          (try simp only [Act.put])
          refine wpAnyH_done (by kernel_rfl) ?_ _
          go_wp2
          go_roundw
          case rel => exact ⟨j + 1, by omega, by go_num, hb.trans (B2.mono hb.size), HFIN⟩
          case measure => simp [intOf]; omega
        | false =>
          have hb0 := HL.out rfl
          subst hb0
          clear HL HFN
          refine wpAnyH_take (i := 27) (v := .bool true) rfl (by kernel_rfl) (by kernel_rfl) (by kernel_rfl) (fun _ _ _ h => h) (Or.inl ⟨by simp [Region.wanted, yielded], ?_⟩) (by assumption) ?_
          · intro wX hSw
            (try dsimp only at hSw)
            go_simp
            all_goals (try with_reducible rfl)
          (try simp only [Act.put, List.setIfInBounds_toArray])
          refine wpAnyH_take (i := 28) (v := .bool true) rfl (by kernel_rfl) (by kernel_rfl) (by kernel_rfl) (fun _ _ _ h => h) (Or.inl ⟨by simp [Region.wanted, yielded], ?_⟩) (by assumption) ?_
          · intro wX hSw
            (try dsimp only at hSw)
            go_simp
            all_goals (try with_reducible rfl)
          (try simp only [Act.put])
          refine wpAnyH_take (i := 29) (v := .bool true) rfl (by kernel_rfl) (by kernel_rfl) (by kernel_rfl) (fun _ _ _ h => h) (Or.inl ⟨by rfl, ?_⟩) (by assumption) ?_
          · intro wX hSw
            (try dsimp only at hSw)
            go_simp
            all_goals (try with_reducible rfl)
          (try simp only [Act.put])
          refine wpAnyH_done (by kernel_rfl) ?_ _
          go_wp2
          go_ret
          exact ⟨rfl, HB.out _ (hb.trans (B2.mono hb.size))⟩
    · have ej : 8 ≤ j := by omega
      obtain ⟨k0, k1, k2, k3⟩ := HK.out _ hb
      by_cases hw : AllW H.weaks
      · have hb1 := HAY.out (fun i hi => HJ.out i hi (by have := H0.out; omega)) hw
        subst hb1
        rw [HBW.out.2 hw] at CWK
        go_wp2_with fail
        refine (CWK.out _ hb).mono ?_
        rintro e w4 ⟨rfl, b4⟩
        go_wp2
        go_ret
        exact ⟨rfl, HB.out _ (hb.trans (b4.mono hb.size))⟩
      · have hb1 := HNW.out hw
        subst hb1
        rw [bool_no HBW.out hw] at CWK
        go_wp2_with fail
        refine (CWK.out _ hb).mono ?_
        rintro e w4 ⟨rfl, b4⟩
        go_wp2
        go_ret
        exact ⟨rfl, HB.out _ (hb.trans (b4.mono hb.size))⟩

end Go.Proofs.Ytebgngofnmcklaa
