/- Heaps as the laws have them: what szHeap, toHeap and eqHeap do. -/
import Derived.Test.YtjhceoejblmihaaWeaksWalks
import Derived.Test.YtjhceoejblmihaaStrsWalks
namespace Go.Proofs.Ytjhceoejblmihaa
open Go.RowKit
set_option linter.unusedVariables false

/-- A heap's data. -/
structure HeapD where
  objs : List ObjD
  weaks : List WeakD
  buffer : List Int
  sites : List (List UInt8)
/-- A heap's value, as one who only reads has it. -/
def RdH (w : World) (v : Value) (H : HeapD) : Prop := ∃ ao co aw cw ab cb sa sc, v = .agg #[.slice ao H.objs.length co, .slice aw H.weaks.length cw, .slice ab H.buffer.length cb, .slice sa H.sites.length sc] ∧ RdO w ao H.objs ∧ RdW w aw H.weaks ∧ RdI w ab H.buffer ∧ RdS w sa H.sites
theorem rdH_later {w w' : World} {v : Value} {H : HeapD} (h : RdH w v H) (hb : Below w.heap.size w w') : RdH w' v H := by
  obtain ⟨ao, co, aw, cw, ab, cb, sa, sc, h1, h2, h3, h4, h5⟩ := h
  exact ⟨ao, co, aw, cw, ab, cb, sa, sc, h1, rdO_later h2 hb, rdW_later h3 hb, rdI_later h4 hb, rdS_later h5 hb⟩

/-- Each number is an int. -/
def in64 (z : Int) : Prop := -9223372036854775808 ≤ z ∧ z ≤ 9223372036854775807
def WfO (o : ObjD) : Prop := in64 o.gen ∧ in64 o.site ∧ in64 o.holds ∧ in64 o.roots ∧ in64 o.count ∧ ∀ z ∈ o.field, in64 z
structure WfH (H : HeapD) : Prop where
  objs : ∀ o ∈ H.objs, WfO o
  weaks : ∀ d ∈ H.weaks, in64 d.target
  buffer : ∀ z ∈ H.buffer, in64 z

/-- No part of it is longer than a slice can be, and each number is an int. -/
structure SaneH (H : HeapD) : Prop where
  wf : WfH H
  objs : H.objs.length ≤ 9223372036854775807
  fields : ∀ z ∈ H.objs, z.field.length ≤ 9223372036854775807
  weaks : H.weaks.length ≤ 9223372036854775807
  buffer : H.buffer.length ≤ 9223372036854775807
  sites : H.sites.length ≤ 9223372036854775807
  names : ∀ z ∈ H.sites, z.length ≤ 9223372036854775807
/-- Each part of it is of at most 2^20. -/
structure SmallH (H : HeapD) : Prop where
  objs : H.objs.length ≤ 1048576
  fields : ∀ z ∈ H.objs, z.field.length ≤ 1048576
  weaks : H.weaks.length ≤ 1048576
  buffer : H.buffer.length ≤ 1048576
  sites : H.sites.length ≤ 1048576
  names : ∀ z ∈ H.sites, z.length ≤ 1048576

def szN (n : Nat) (left : Int) : Int := if left - (n : Int) < 0 then -1 else left - (n : Int)
theorem szN_le (n : Nat) (left : Int) (h : -1 ≤ left) : szN n left ≤ left ∧ -1 ≤ szN n left := by unfold szN; split <;> omega
theorem szS_le (zs : List (List UInt8)) (left : Int) (h : -1 ≤ left) : szS zs left ≤ left ∧ -1 ≤ szS zs left := by
  unfold szS; split
  · omega
  · have := szR_le zs (left - (zs.length : Int)) (by omega); omega
/-- What is left of a size behind a heap. -/
def szH (H : HeapD) (left : Int) : Int :=
  if szO H.objs left < 0 then -1
  else if szN H.weaks.length (szO H.objs left) < 0 then -1
  else if szN H.buffer.length (szN H.weaks.length (szO H.objs left)) < 0 then -1
  else if szS H.sites (szN H.buffer.length (szN H.weaks.length (szO H.objs left))) < 0 then -1
  else szS H.sites (szN H.buffer.length (szN H.weaks.length (szO H.objs left)))
theorem szH_small (H : HeapD) (h : ¬ szH H 1048576 < 0) : SmallH H := by
  unfold szH at h
  have hl := szO_le H.objs 1048576 (by omega)
  split at h
  · omega
  rename_i h1
  have hl2 := szN_le H.weaks.length (szO H.objs 1048576) (by omega)
  split at h
  · omega
  rename_i h2
  have hl3 := szN_le H.buffer.length (szN H.weaks.length (szO H.objs 1048576)) (by omega)
  split at h
  · omega
  rename_i h3
  split at h
  · omega
  rename_i h4
  obtain ⟨a1, a2⟩ := szO_facts H.objs 1048576 (by omega)
  obtain ⟨b1, b2⟩ := szS_facts H.sites _ (Int.not_lt.1 h4)
  have c1 : (H.weaks.length : Int) ≤ szO H.objs 1048576 := by unfold szN at h2; split at h2 <;> omega
  have c2 : (H.buffer.length : Int) ≤ szN H.weaks.length (szO H.objs 1048576) := by unfold szN at h3 ⊢; split at h3 <;> omega
  exact ⟨by omega, fun z hz => by have := a2 z hz; omega, by omega, by omega, by omega, fun z hz => by have := b2 z hz; omega⟩

/-- A new block of four slices, in every later world. -/
theorem four_kept (w : World) (t : TypeId) (x0 x1 x2 x3 : Value) (X : World) (hb : Below (w.heap.size + 1) (w.alloc (.cells #[x0, x1, x2, x3] t)) X) :
    X.cell? ⟨w.heap.size, 0, none⟩ = some x0 ∧ X.cell? ⟨w.heap.size, 1, none⟩ = some x1 ∧ X.cell? ⟨w.heap.size, 2, none⟩ = some x2 ∧ X.cell? ⟨w.heap.size, 3, none⟩ = some x3 := by
  have h : ∀ k, X.cell? ⟨w.heap.size, k, none⟩ = (#[x0, x1, x2, x3] : Array Value)[k]? := fun k => by
    rw [hb.cell (p := ⟨w.heap.size, k, none⟩) (by show w.heap.size < _; omega), World.cell?_alloc_mark]
  exact ⟨h 0, h 1, h 2, h 3⟩

theorem szHeap_calls (w : World) (v : Value) (H : HeapD) (left : Int) (h : RdH w v H) (hs : SaneH H) (h0 : 0 ≤ left) (h1 : left ≤ 1048576) :
    Calls Try.prog 9 #[v, .int .i64 left] w fun e w' => e = .returned (.int .i64 (szH H left)) ∧ Below w.heap.size w w' := by
  obtain ⟨ao, co, aw, cw, ab, cb, sa, sc, rfl, ro, rw, ri, rs⟩ := h
  obtain ⟨W, hW⟩ : ∃ W, W = w.alloc (.cells #[.slice ao H.objs.length co, .slice aw H.weaks.length cw, .slice ab H.buffer.length cb, .slice sa H.sites.length sc] 27) := ⟨_, rfl⟩
  have BW : Below w.heap.size w W := by rw [hW]; exact (Below.refl _ _).alloc (Nat.le_refl _) _
  have hWs : W.heap.size = w.heap.size + 1 := by rw [hW]; simp
  have HK : Hid (∀ X, Below W.heap.size W X → X.cell? ⟨w.heap.size, 0, none⟩ = some (.slice ao H.objs.length co) ∧ X.cell? ⟨w.heap.size, 1, none⟩ = some (.slice aw H.weaks.length cw) ∧ X.cell? ⟨w.heap.size, 2, none⟩ = some (.slice ab H.buffer.length cb) ∧ X.cell? ⟨w.heap.size, 3, none⟩ = some (.slice sa H.sites.length sc)) := by
    intro X hX
    rw [hWs, hW] at hX
    exact four_kept w _ _ _ _ _ X hX
  have C1 : Hid (∀ X : Unit, _) := fun (_ : Unit) => szObjS_calls W ao co H.objs left (rdO_later ro BW) hs.objs hs.fields h0 h1
  have l1 := szO_le H.objs left (by omega)
  have HS : Hid (szH H left = if szO H.objs left < 0 then -1 else if szN H.weaks.length (szO H.objs left) < 0 then -1 else if szN H.buffer.length (szN H.weaks.length (szO H.objs left)) < 0 then -1 else if szS H.sites (szN H.buffer.length (szN H.weaks.length (szO H.objs left))) < 0 then -1 else szS H.sites (szN H.buffer.length (szN H.weaks.length (szO H.objs left)))) := rfl
  have C2 : Hid (∀ X (l : Int), 0 ≤ l → l ≤ 1048576 → _) := fun X l hl0 hl1 => szWeakS_calls X aw cw H.weaks.length l hs.weaks hl0 hl1
  have C3 : Hid (∀ X (l : Int), 0 ≤ l → l ≤ 1048576 → _) := fun X l hl0 hl1 => szIntS_calls X ab cb H.buffer.length l hs.buffer hl0 hl1
  have C4 : Hid (∀ X (l : Int), Below W.heap.size W X → 0 ≤ l → l ≤ 1048576 → _) := fun X l hX hl0 hl1 => szStringS_calls X sa sc H.sites l (rdS_later (rdS_later rs BW) hX) hs.sites hs.names hl0 hl1
  generalize szO H.objs left = a at *
  by_cases n1 : a < 0
  · rw [if_pos n1] at HS
    go_enter Try.func9, Try.ntmps9
    go_wp2_with fail
    rw [← hW]
    refine (C1.out ()).mono ?_
    rintro e w1 ⟨rfl, b1⟩
    have B1 := BW.trans (b1.mono (by omega))
    clear hW
    go_wp2
    go_ret
    exact ⟨ret_zz HS.out.symm, B1⟩
  · rw [if_neg n1] at HS
    have C2a : Hid (∀ X, _) := fun X => C2.out X a (by omega) (by omega)
    have l2 := szN_le H.weaks.length a (by omega)
    rw [show (if a - (H.weaks.length : Int) < 0 then -1 else a - (H.weaks.length : Int)) = szN H.weaks.length a from rfl] at C2a
    generalize szN H.weaks.length a = b at *
    have m1 : 0 ≤ a := by omega
    by_cases n2 : b < 0
    · rw [if_pos n2] at HS
      go_enter Try.func9, Try.ntmps9
      go_wp2_with fail
      rw [← hW]
      refine (C1.out ()).mono ?_
      rintro e w1 ⟨rfl, b1⟩
      have B1 := BW.trans (b1.mono (by omega))
      obtain ⟨k0, k1, k2, k3⟩ := HK.out _ b1
      clear hW n1
      go_wp2_with fail
      refine (C2a.out _).mono ?_
      rintro e w2 ⟨rfl, rfl⟩
      go_wp2
      go_ret
      exact ⟨ret_zz HS.out.symm, B1⟩
    · rw [if_neg n2] at HS
      have C3a : Hid (∀ X, _) := fun X => C3.out X b (by omega) (by omega)
      have l3 := szN_le H.buffer.length b (by omega)
      rw [show (if b - (H.buffer.length : Int) < 0 then -1 else b - (H.buffer.length : Int)) = szN H.buffer.length b from rfl] at C3a
      generalize szN H.buffer.length b = c at *
      have m2 : 0 ≤ b := by omega
      by_cases n3 : c < 0
      · rw [if_pos n3] at HS
        go_enter Try.func9, Try.ntmps9
        go_wp2_with fail
        rw [← hW]
        refine (C1.out ()).mono ?_
        rintro e w1 ⟨rfl, b1⟩
        have B1 := BW.trans (b1.mono (by omega))
        obtain ⟨k0, k1, k2, k3⟩ := HK.out _ b1
        clear hW n1 n2
        go_wp2_with fail
        refine (C2a.out _).mono ?_
        rintro e w2 ⟨rfl, rfl⟩
        go_wp2_with fail
        refine (C3a.out _).mono ?_
        rintro e w3 ⟨rfl, rfl⟩
        go_wp2
        go_ret
        exact ⟨ret_zz HS.out.symm, B1⟩
      · rw [if_neg n3] at HS
        have C4a : Hid (∀ X, Below W.heap.size W X → _) := fun X hX => C4.out X c hX (by omega) (by omega)
        have l4 := szS_le H.sites c (by omega)
        generalize szS H.sites c = d at *
        have m3 : 0 ≤ c := by omega
        by_cases n4 : d < 0
        · rw [if_pos n4] at HS
          go_enter Try.func9, Try.ntmps9
          go_wp2_with fail
          rw [← hW]
          refine (C1.out ()).mono ?_
          rintro e w1 ⟨rfl, b1⟩
          have B1 := BW.trans (b1.mono (by omega))
          have C4b := C4a.out _ b1
          have HC4 : Hid _ := C4b
          obtain ⟨k0, k1, k2, k3⟩ := HK.out _ b1
          clear hW n1 n2 n3 C4b
          go_wp2_with fail
          refine (C2a.out _).mono ?_
          rintro e w2 ⟨rfl, rfl⟩
          go_wp2_with fail
          refine (C3a.out _).mono ?_
          rintro e w3 ⟨rfl, rfl⟩
          go_wp2_with fail
          refine (Calls.mono HC4.out ?_)
          rintro e w4 ⟨rfl, rfl⟩
          go_wp2
          go_ret
          exact ⟨ret_zz HS.out.symm, B1⟩
        · rw [if_neg n4] at HS
          have m4 : 0 ≤ d := by omega
          go_enter Try.func9, Try.ntmps9
          go_wp2_with fail
          rw [← hW]
          refine (C1.out ()).mono ?_
          rintro e w1 ⟨rfl, b1⟩
          have B1 := BW.trans (b1.mono (by omega))
          have C4b := C4a.out _ b1
          have HC4 : Hid _ := C4b
          obtain ⟨k0, k1, k2, k3⟩ := HK.out _ b1
          clear hW n1 n2 n3 n4 C4b
          go_wp2_with fail
          refine (C2a.out _).mono ?_
          rintro e w2 ⟨rfl, rfl⟩
          go_wp2_with fail
          refine (C3a.out _).mono ?_
          rintro e w3 ⟨rfl, rfl⟩
          go_wp2_with fail
          refine (Calls.mono HC4.out ?_)
          rintro e w4 ⟨rfl, rfl⟩
          go_wp2
          go_ret
          exact ⟨ret_zz HS.out.symm, B1⟩

end Go.Proofs.Ytjhceoejblmihaa
