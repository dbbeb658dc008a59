/- What impl.liveIn and impl.SlotOf answer. -/
import Derived.Test.YtjhdnachbahbmaaIIdWalks
namespace Go.Proofs.Ytjhdnachbahbmaa
open Go.RowKit
set_option linter.unusedVariables false

theorem index8_0 (p0 p1 p2 p3 p4 p5 p6 p7 : Option Addr) (w : World) : (Instr.index 47 (.agg #[.pointer p0, .pointer p1, .pointer p2, .pointer p3, .pointer p4, .pointer p5, .pointer p6, .pointer p7]) (.int .i64 0)).run Try.prog w = .ok (.pointer p0) w := by kernel_rfl
theorem index8_1 (p0 p1 p2 p3 p4 p5 p6 p7 : Option Addr) (w : World) : (Instr.index 47 (.agg #[.pointer p0, .pointer p1, .pointer p2, .pointer p3, .pointer p4, .pointer p5, .pointer p6, .pointer p7]) (.int .i64 1)).run Try.prog w = .ok (.pointer p1) w := by kernel_rfl
theorem index8_2 (p0 p1 p2 p3 p4 p5 p6 p7 : Option Addr) (w : World) : (Instr.index 47 (.agg #[.pointer p0, .pointer p1, .pointer p2, .pointer p3, .pointer p4, .pointer p5, .pointer p6, .pointer p7]) (.int .i64 2)).run Try.prog w = .ok (.pointer p2) w := by kernel_rfl
theorem index8_3 (p0 p1 p2 p3 p4 p5 p6 p7 : Option Addr) (w : World) : (Instr.index 47 (.agg #[.pointer p0, .pointer p1, .pointer p2, .pointer p3, .pointer p4, .pointer p5, .pointer p6, .pointer p7]) (.int .i64 3)).run Try.prog w = .ok (.pointer p3) w := by kernel_rfl
theorem index8_4 (p0 p1 p2 p3 p4 p5 p6 p7 : Option Addr) (w : World) : (Instr.index 47 (.agg #[.pointer p0, .pointer p1, .pointer p2, .pointer p3, .pointer p4, .pointer p5, .pointer p6, .pointer p7]) (.int .i64 4)).run Try.prog w = .ok (.pointer p4) w := by kernel_rfl
theorem index8_5 (p0 p1 p2 p3 p4 p5 p6 p7 : Option Addr) (w : World) : (Instr.index 47 (.agg #[.pointer p0, .pointer p1, .pointer p2, .pointer p3, .pointer p4, .pointer p5, .pointer p6, .pointer p7]) (.int .i64 5)).run Try.prog w = .ok (.pointer p5) w := by kernel_rfl
theorem index8_6 (p0 p1 p2 p3 p4 p5 p6 p7 : Option Addr) (w : World) : (Instr.index 47 (.agg #[.pointer p0, .pointer p1, .pointer p2, .pointer p3, .pointer p4, .pointer p5, .pointer p6, .pointer p7]) (.int .i64 6)).run Try.prog w = .ok (.pointer p6) w := by kernel_rfl
theorem index8_7 (p0 p1 p2 p3 p4 p5 p6 p7 : Option Addr) (w : World) : (Instr.index 47 (.agg #[.pointer p0, .pointer p1, .pointer p2, .pointer p3, .pointer p4, .pointer p5, .pointer p6, .pointer p7]) (.int .i64 7)).run Try.prog w = .ok (.pointer p7) w := by kernel_rfl
theorem cells_idx (g off n s : Nat) (hs : s < 8) : ∃ x, cellsV g off n = .agg x ∧ ∀ X : World, (Instr.index 47 (.agg x) (.int .i64 (s : Int))).run Try.prog X = .ok (.pointer (cellA g off n s)) X := by
  refine ⟨_, rfl, fun X => ?_⟩
  match s, hs with
  | 0, _ => exact index8_0 _ _ _ _ _ _ _ _ X
  | 1, _ => exact index8_1 _ _ _ _ _ _ _ _ X
  | 2, _ => exact index8_2 _ _ _ _ _ _ _ _ X
  | 3, _ => exact index8_3 _ _ _ _ _ _ _ _ X
  | 4, _ => exact index8_4 _ _ _ _ _ _ _ _ X
  | 5, _ => exact index8_5 _ _ _ _ _ _ _ _ X
  | 6, _ => exact index8_6 _ _ _ _ _ _ _ _ X
  | 7, _ => exact index8_7 _ _ _ _ _ _ _ _ X

/-- Nothing live is in the slot, or there is none. -/
def NoLive (H : HeapD) (slot : Int) : Prop := slot < 0 ∨ 8 ≤ slot ∨ ∀ o, H.objs[slot.toNat]? = some o → o.live = false

set_option maxRecDepth 100000 in
theorem liveIn_no (v : Value) (H : HeapD) (slot : Int) (w : World) (h : RdH w v H) (hn : H.objs.length ≤ 1048576) (hl : NoLive H slot) :
    Calls Try.prog 43 #[v, .int .i64 slot] w fun e w' => e = .returned (.pointer none) ∧ Below w.heap.size w w' := by
  obtain ⟨ao, co, aw, cw, ab, cb, sa, sc, rfl, ro, -, -, -⟩ := h
  by_cases h1 : slot < 0
  · clear hl ro
    go_enter Try.func43, Try.ntmps43
    go_wp2
    go_ret
    exact ⟨rfl, (Below.refl _ _).alloc (Nat.le_refl _) _⟩
  by_cases h2 : 8 ≤ slot
  · clear hl ro
    go_enter Try.func43, Try.ntmps43
    go_wp2
    go_ret
    exact ⟨rfl, (Below.refl _ _).alloc (Nat.le_refl _) _⟩
  obtain ⟨s, rfl⟩ : ∃ s : Nat, slot = (s : Int) := ⟨slot.toNat, by omega⟩
  have hs : s < 8 := by omega
  have hl2 : ∀ (h : s < H.objs.length), H.objs[s].live = false := by
    intro hx
    rcases hl with h | h | h
    · omega
    · omega
    · exact h _ (by rw [show ((s : Int)).toNat = s from by omega, List.getElem?_eq_getElem hx])
  clear hl h1 h2
  have hex : ∃ g off, 0 < H.objs.length → ao = some ⟨g, off, none⟩ := by
    by_cases h0 : 0 < H.objs.length
    · obtain ⟨g, off, f, fc, ha, -⟩ := ro 0 h0
      exact ⟨g, off, fun _ => ha⟩
    · exact ⟨0, 0, fun h => absurd h h0⟩
  obtain ⟨g, off, ha⟩ := hex
  have CC : Hid (∀ X : World, _) := fun X => cellsOf_calls X ao H.objs.length co (.slice aw H.weaks.length cw) (.slice ab H.buffer.length cb) (.slice sa H.sites.length sc) hn g off ha ⟨_, _, _, _, _, _, _, _, _, rfl, rfl, rfl⟩
  obtain ⟨W, hW⟩ : ∃ W, W = w.alloc (.cells #[.slice ao H.objs.length co, .slice aw H.weaks.length cw, .slice ab H.buffer.length cb, .slice sa H.sites.length sc] 33) := ⟨_, rfl⟩
  have BW : Below w.heap.size w W := by rw [hW]; exact (Below.refl _ _).alloc (Nat.le_refl _) _
  obtain ⟨x, hx, hxs⟩ := cells_idx g off H.objs.length s hs
  rw [hx] at CC
  by_cases hlen : s < H.objs.length
  · have hA : cellA g off H.objs.length s = some ⟨g, off + s * 8, none⟩ := by unfold cellA; rw [if_pos hlen]
    rw [hA] at hxs
    obtain ⟨g', off', f, fc, ha', -, hc, -⟩ := rdO_later ro BW s hlen
    rw [ha (by omega)] at ha'
    obtain ⟨rfl, rfl⟩ : g = g' ∧ off = off' := by simpa using ha'
    have hlv := hl2 hlen
    have HC : Hid (∀ X, Below W.heap.size W X → X.cell? ⟨g, off + s * 8, none⟩ = some (.bool false)) := by
      obtain ⟨_, _, _, _, ha2, hg2, _⟩ := ro s hlen
      rw [ha (by omega)] at ha2
      obtain ⟨rfl, rfl⟩ : g = _ ∧ off = _ := by simpa using ha2
      intro X hX
      rw [hX.cell (p := ⟨g, off + s * 8, none⟩) (Nat.lt_of_lt_of_le hg2 BW.size), hc.c0, hlv]
    clear hl2 hc ha' ha ro hlv hx
    go_enter Try.func43, Try.ntmps43
    go_wp2_with fail
    rw [← hW]
    clear hW
    refine (CC.out _).mono ?_
    rintro e w1 ⟨rfl, b1⟩
    have c0 := HC.out _ b1
    have B1 := BW.trans (b1.mono BW.size)
    clear b1 HC CC
    have hi : (s : Int) < 8 := by omega
    go_wp2
    go_ret
    exact ⟨rfl, B1⟩
  · have hA : cellA g off H.objs.length s = none := by unfold cellA; rw [if_neg hlen]
    rw [hA] at hxs
    clear hl2 ha ro hx
    go_enter Try.func43, Try.ntmps43
    go_wp2_with fail
    rw [← hW]
    clear hW
    refine (CC.out _).mono ?_
    rintro e w1 ⟨rfl, b1⟩
    have B1 := BW.trans (b1.mono BW.size)
    clear b1 CC
    have hi : (s : Int) < 8 := by omega
    go_wp2
    go_ret
    exact ⟨rfl, B1⟩

/-- A live object is in the slot: where it lies. -/
theorem liveIn_yes (v : Value) (H : HeapD) (s : Nat) (w : World) (h : RdH w v H) (hn : H.objs.length ≤ 1048576) (hs : s < 8) (hlen : s < H.objs.length) (hl : H.objs[s].live = true) :
    ∃ g off f cap, g < w.heap.size ∧ ObjAt w g (off + s * 8) H.objs[s] (.slice f H.objs[s].field.length cap) ∧ RdI w f H.objs[s].field ∧
    Hid (∀ X, Below w.heap.size w X → Calls Try.prog 43 #[v, .int .i64 (s : Int)] X fun e w' => e = .returned (.pointer (some ⟨g, off + s * 8, none⟩)) ∧ Below X.heap.size X w') := by
  obtain ⟨ao, co, aw, cw, ab, cb, sa, sc, rfl, ro, -, -, -⟩ := h
  obtain ⟨g, off, f, fc, rfl, hg, hc, hr⟩ := ro s hlen
  refine ⟨g, off, f, fc, hg, hc, hr, ?_⟩
  intro Y hY
  have hgY : g < Y.heap.size := Nat.lt_of_lt_of_le hg hY.size
  have hcY : Y.cell? ⟨g, off + s * 8, none⟩ = some (.bool true) := by rw [hY.cell (p := ⟨g, off + s * 8, none⟩) hg, hc.c0, hl]
  clear hc hr ro hl hY hg
  have CC : Hid (∀ X : World, _) := fun X => cellsOf_calls X (some ⟨g, off, none⟩) H.objs.length co (.slice aw H.weaks.length cw) (.slice ab H.buffer.length cb) (.slice sa H.sites.length sc) hn g off (fun _ => rfl) ⟨_, _, _, _, _, _, _, _, _, rfl, rfl, rfl⟩
  obtain ⟨W, hW⟩ : ∃ W, W = Y.alloc (.cells #[.slice (some ⟨g, off, none⟩) H.objs.length co, .slice aw H.weaks.length cw, .slice ab H.buffer.length cb, .slice sa H.sites.length sc] 33) := ⟨_, rfl⟩
  have BW : Below Y.heap.size Y W := by rw [hW]; exact (Below.refl _ _).alloc (Nat.le_refl _) _
  have HC : Hid (∀ X, Below W.heap.size W X → X.cell? ⟨g, off + s * 8, none⟩ = some (.bool true)) := by
    intro X hX
    rw [hX.cell (p := ⟨g, off + s * 8, none⟩) (Nat.lt_of_lt_of_le hgY BW.size), BW.cell (p := ⟨g, off + s * 8, none⟩) hgY, hcY]
  obtain ⟨x, hx, hxs⟩ := cells_idx g off H.objs.length s hs
  rw [hx] at CC
  have hA : cellA g off H.objs.length s = some ⟨g, off + s * 8, none⟩ := by unfold cellA; rw [if_pos hlen]
  rw [hA] at hxs
  clear hx hcY hgY
  have hi : (s : Int) < 8 := by omega
  go_enter Try.func43, Try.ntmps43
  go_wp2_with fail
  rw [← hW]
  clear hW
  refine (CC.out _).mono ?_
  rintro e w1 ⟨rfl, b1⟩
  have c0 := HC.out _ b1
  have B1 := BW.trans (b1.mono BW.size)
  clear b1 HC CC
  go_wp2
  go_ret
  exact ⟨rfl, B1⟩

theorem iSlotOf_calls (v : Value) (H : HeapD) (id : Int) (w : World) (h : RdH w v H) (hn : H.objs.length ≤ 1048576) (h0 : -9223372036854775808 ≤ id) (h9 : id ≤ 9223372036854775807) :
    Calls Try.prog 44 #[v, .int .i64 id] w fun e w' => e = .returned (.int .i64 (slotZ H id)) ∧ Below w.heap.size w w' := by
  have HR : Hid (RdH w v H) := h
  obtain ⟨ao, co, aw, cw, ab, cb, sa, sc, rfl, ro, -, -, -⟩ := h
  by_cases h1 : id < 8
  · have HE : Hid (slotZ H id = -1) := by show _ = _; unfold slotZ; rw [if_pos (.inl h1)]
    clear ro
    go_enter Try.func44, Try.ntmps44
    go_wp2
    go_ret
    exact ⟨ret_zz HE.out.symm, (Below.refl _ _).alloc (Nat.le_refl _) _⟩
  by_cases h2 : H.objs.length = 8
  rotate_left
  · have HE : Hid (slotZ H id = -1) := by show _ = _; unfold slotZ; rw [if_pos (.inr h2)]
    have h3 : ¬ ((H.objs.length : Int) = 8) := by omega
    clear ro
    go_enter Try.func44, Try.ntmps44
    go_wp2
    go_ret
    exact ⟨ret_zz HE.out.symm, (Below.refl _ _).alloc (Nat.le_refl _) _⟩
  obtain ⟨k, hk⟩ : ∃ k : Nat, id % 8 = (k : Int) := ⟨(id % 8).toNat, by omega⟩
  have hk8 : k < 8 := by omega
  have hkl : k < H.objs.length := by omega
  obtain ⟨o, ho⟩ : ∃ o, H.objs[k] = o := ⟨_, rfl⟩
  have HE : Hid (slotZ H id = if o.live = true ∧ o.gen = id / 8 then (k : Int) else -1) := by
    show _ = _
    unfold slotZ
    rw [if_neg (by omega), hk, show ((k : Int)).toNat = k from by omega, List.getElem?_eq_getElem (by omega), ho]
  have hm : id.tmod 8 = (k : Int) := by rw [Int.tmod_eq_emod_of_nonneg (by omega), hk]
  have hd : id.tdiv 8 = id / 8 := Int.tdiv_eq_ediv_of_nonneg (by omega)
  obtain ⟨q, hq⟩ : ∃ q, id / 8 = q := ⟨_, rfl⟩
  rw [hq] at hd HE
  have h8 : 8 ≤ id := by omega
  have hq0 : 0 ≤ q ∧ q ≤ 9223372036854775807 := by omega
  clear ro h1 hq
  obtain ⟨W, hW⟩ : ∃ W, W = w.alloc (.cells #[.slice ao H.objs.length co, .slice aw H.weaks.length cw, .slice ab H.buffer.length cb, .slice sa H.sites.length sc] 33) := ⟨_, rfl⟩
  have BW : Below w.heap.size w W := by rw [hW]; exact (Below.refl _ _).alloc (Nat.le_refl _) _
  have HRW : Hid (RdH W _ H) := rdH_later HR.out BW
  cases hlv : o.live with
  | false =>
    have HV : Hid (slotZ H id = -1) := by show _ = _; rw [HE.out, if_neg (by simp [hlv])]
    have CL : Hid (∀ u : Unit, _) := fun (_ : Unit) => liveIn_no _ H (k : Int) W HRW.out hn (.inr (.inr (by
      intro o' ho'
      rw [show ((k : Int)).toNat = k from by omega, List.getElem?_eq_getElem hkl, ho] at ho'
      injection ho' with ho'
      rw [← ho']; exact hlv)))
    rw [h2] at CL hW ⊢
    clear hk ho HE HR HRW hlv
    go_enter Try.func44, Try.ntmps44
    go_wp2_with fail
    rw [← hW]
    clear hW
    refine (CL.out ()).mono ?_
    rintro e w1 ⟨rfl, b1⟩
    have B1 := BW.trans (b1.mono BW.size)
    go_wp2
    go_ret
    exact ⟨ret_zz HV.out.symm, B1⟩
  | true =>
    obtain ⟨g, off, f, fc, hg, hc, -, CL0⟩ := liveIn_yes _ H k W HRW.out hn hk8 hkl (by rw [ho]; exact hlv)
    have CL : Hid (∀ u : Unit, _) := fun (_ : Unit) => CL0.out W (Below.refl _ _)
    rw [ho] at hc
    have HC : Hid (∀ X, Below W.heap.size W X → X.cell? ⟨g, off + k * 8 + 1, none⟩ = some (.int .i64 o.gen)) := fun X hX => (hX.cell (p := ⟨g, off + k * 8 + 1, none⟩) hg).trans hc.c1
    rw [hlv] at HE
    generalize o.gen = og at *
    rw [h2] at CL hW ⊢
    clear hk ho HR HRW hlv hc CL0
    by_cases hgq : og = q
    · have HV : Hid (slotZ H id = (k : Int)) := by show _ = _; rw [HE.out, if_pos ⟨rfl, hgq⟩]
      subst hgq
      go_enter Try.func44, Try.ntmps44
      go_wp2_with fail
      rw [← hW]
      clear hW
      refine (CL.out ()).mono ?_
      rintro e w1 ⟨rfl, b1⟩
      have c1 := HC.out _ b1
      have B1 := BW.trans (b1.mono BW.size)
      clear b1 HC
      go_wp2
      go_ret
      exact ⟨ret_zz HV.out.symm, B1⟩
    · have HV : Hid (slotZ H id = -1) := by show _ = _; rw [HE.out, if_neg (by simp [hgq])]
      have hgn : (og != q) = true := by rw [bne_iff_ne]; exact hgq
      go_enter Try.func44, Try.ntmps44
      go_wp2_with fail
      rw [← hW]
      clear hW
      refine (CL.out ()).mono ?_
      rintro e w1 ⟨rfl, b1⟩
      have c1 := HC.out _ b1
      have B1 := BW.trans (b1.mono BW.size)
      clear b1 HC
      go_wp2
      go_ret
      exact ⟨ret_zz HV.out.symm, B1⟩

end Go.Proofs.Ytjhdnachbahbmaa
