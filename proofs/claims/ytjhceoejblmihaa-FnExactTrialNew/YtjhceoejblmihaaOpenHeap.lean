/- An argument that is a heap, opened: what one who only reads has of it. -/
import Derived.Test.YtjhceoejblmihaaHeap2Walks
import Derived.Test.YtjhceoejblmihaaOpenStrs
import Derived.ProofKit
import Derived.OpenShut
import Derived.ChangeSlices
import Derived.Deep.Slices
namespace Go.Proofs.Ytjhceoejblmihaa
open Go.RowKit Go.ChangeShapes Go.WideShapes Go.ChangeAt Go.Deep
set_option linter.unusedVariables false
set_option maxRecDepth 100000

theorem in64_wf {z : Int} (h : (Lit.int .i64 z).wf = true) : in64 z := by unfold in64; simpa [Lit.wf, IntKind.min, IntKind.max, IntKind.signed, IntKind.bits] using h

section
variable {T : Type} {enc : TypeId × Value → T} {w : World} {held : Bool}

theorem opened_ints {fuel : Nat} {cs : List Value} {x : DataW T × List MemPlace} (h : DataW.trod enc Try.prog w 0 (fun _ => true) held fuel 24 cs = some x) :
    ∃ a zs cap, cs = [.slice a zs.length cap] ∧ RdI w a zs ∧ zs.length ≤ 9223372036854775807 ∧ ∀ z ∈ zs, in64 z := by
  rcases open_ints Try.underlying24 Try.underlying3 (by kernel_rfl) h with ⟨rfl, _⟩ | ⟨x, len, cap, zs, rfl, _, hl, hm, hz, _, hcell, hwf⟩
  · exact ⟨none, [], 0, rfl, fun j hj => by simp at hj, by simp, by simp⟩
  · have hz2 : zs.length = cap := by simpa using hz
    have ht : (zs.take len).length = len := by rw [List.length_take]; omega
    unfold maxLen at hm
    refine ⟨some x, zs.take len, cap, by rw [ht], ?_, by omega, fun z hz => in64_wf (hwf z (List.mem_of_mem_take hz))⟩
    intro j hj
    rw [ht] at hj
    obtain ⟨b, off, rfl⟩ := plain_addr (hcell 0 (by omega))
    have hc := hcell j (by omega)
    rw [add_plain, List.getD_eq_getElem?_getD, List.getElem?_eq_getElem (by omega)] at hc
    refine ⟨b, off, rfl, World.block_lt_of_cell? w _ hc, ?_⟩
    rw [hc, List.getElem_take]
    rfl

theorem opened_weak {fuel : Nat} {cs : List Value} {x : DataW T × List MemPlace} (h : DataW.trod enc Try.prog w 0 (fun _ => true) held fuel 109 cs = some x) : ∃ d : WeakD, cs = [.bool d.used, .int .i64 d.target] ∧ in64 d.target := by
  obtain ⟨xs, n, _, _, hl, hlen, hf⟩ := DataW.trod_struct Try.underlying109 h
  have hl2 : cs.length = 2 := hl.trans (by kernel_rfl)
  match cs, hl2, xs, hlen with
  | [c0, c1], _, [y0, y1], _ =>
    have e4 : Try.prog.cellsOf 4 = 1 := by kernel_rfl
    have e3 : Try.prog.cellsOf 3 = 1 := by kernel_rfl
    have h0 := hf 0 { name := "Used", type := 4, offset := 0, embedded := false, tag := "", pkgPath := "", byteOffset := 0 } rfl
    have h1 := hf 1 { name := "Target", type := 3, offset := 1, embedded := false, tag := "", pkgPath := "", byteOffset := 8 } rfl
    simp only [e4, e3] at h0 h1
    obtain ⟨b, hb, _⟩ := DataW.trod_bool Try.underlying4 (x := y0) (by simpa using h0)
    obtain ⟨m, hm, _, wm⟩ := DataW.trod_int Try.underlying3 (x := y1) (by simpa using h1)
    exact ⟨⟨b, m⟩, by simp_all, in64_wf wm⟩

theorem opened_obj {fuel : Nat} {cs : List Value} {x : DataW T × List MemPlace} (h : DataW.trod enc Try.prog w 0 (fun _ => true) held fuel 106 cs = some x) :
    ∃ (o : ObjD) (f : Option Addr) (cap : Nat), cs = [.bool o.live, .int .i64 o.gen, .int .i64 o.site, .int .i64 o.holds, .int .i64 o.roots, .int .i64 o.count, .slice f o.field.length cap, .bool o.purple] ∧ RdI w f o.field ∧ o.field.length ≤ 9223372036854775807 ∧ WfO o := by
  obtain ⟨xs, n, _, _, hl, hlen, hf⟩ := DataW.trod_struct Try.underlying106 h
  have hl2 : cs.length = 8 := hl.trans (by kernel_rfl)
  match cs, hl2, xs, hlen with
  | [c0, c1, c2, c3, c4, c5, c6, c7], _, [y0, y1, y2, y3, y4, y5, y6, y7], _ =>
    have e4 : Try.prog.cellsOf 4 = 1 := by kernel_rfl
    have e3 : Try.prog.cellsOf 3 = 1 := by kernel_rfl
    have e9 : Try.prog.cellsOf 24 = 1 := by kernel_rfl
    have h0 := hf 0 { name := "Live", type := 4, offset := 0, embedded := false, tag := "", pkgPath := "", byteOffset := 0 } rfl
    have h1 := hf 1 { name := "Gen", type := 3, offset := 1, embedded := false, tag := "", pkgPath := "", byteOffset := 8 } rfl
    have h2 := hf 2 { name := "Site", type := 3, offset := 2, embedded := false, tag := "", pkgPath := "", byteOffset := 16 } rfl
    have h3 := hf 3 { name := "Holds", type := 3, offset := 3, embedded := false, tag := "", pkgPath := "", byteOffset := 24 } rfl
    have h4 := hf 4 { name := "Roots", type := 3, offset := 4, embedded := false, tag := "", pkgPath := "", byteOffset := 32 } rfl
    have h5 := hf 5 { name := "Count", type := 3, offset := 5, embedded := false, tag := "", pkgPath := "", byteOffset := 40 } rfl
    have h6 := hf 6 { name := "Field", type := 24, offset := 6, embedded := false, tag := "", pkgPath := "", byteOffset := 48 } rfl
    have h7 := hf 7 { name := "Purple", type := 4, offset := 7, embedded := false, tag := "", pkgPath := "", byteOffset := 72 } rfl
    simp only [e4, e3, e9] at h0 h1 h2 h3 h4 h5 h6 h7
    obtain ⟨b0, g0, _⟩ := DataW.trod_bool Try.underlying4 (x := y0) (by simpa using h0)
    obtain ⟨m1, g1, _, v1⟩ := DataW.trod_int Try.underlying3 (x := y1) (by simpa using h1)
    obtain ⟨m2, g2, _, v2⟩ := DataW.trod_int Try.underlying3 (x := y2) (by simpa using h2)
    obtain ⟨m3, g3, _, v3⟩ := DataW.trod_int Try.underlying3 (x := y3) (by simpa using h3)
    obtain ⟨m4, g4, _, v4⟩ := DataW.trod_int Try.underlying3 (x := y4) (by simpa using h4)
    obtain ⟨m5, g5, _, v5⟩ := DataW.trod_int Try.underlying3 (x := y5) (by simpa using h5)
    obtain ⟨f, zs, cap, g6, r6, l6, v6⟩ := opened_ints (x := y6) (by simpa using h6)
    obtain ⟨b7, g7, _⟩ := DataW.trod_bool Try.underlying4 (x := y7) (by simpa using h7)
    exact ⟨⟨b0, m1, m2, m3, m4, m5, zs, b7⟩, f, cap, by simp_all, r6, l6, in64_wf v1, in64_wf v2, in64_wf v3, in64_wf v4, in64_wf v5, v6⟩

theorem opened_weaks {fuel : Nat} {cs : List Value} {x : DataW T × List MemPlace} (h : DataW.trod enc Try.prog w 0 (fun _ => true) held fuel 23 cs = some x) :
    ∃ a ds cap, cs = [.slice a ds.length cap] ∧ RdW w a ds ∧ ds.length ≤ 9223372036854775807 ∧ ∀ d ∈ ds, in64 d.target := by
  rcases open_slice Try.underlying23 h with ⟨rfl, _⟩ | ⟨a, len, cap, m, n, D, Pl, rfl, _, hl, hm, hmm, _, hx⟩
  · exact ⟨none, [], 0, rfl, fun j hj => by simp at hj, by simp, by simp⟩
  · have hm2 : m = cap := by simpa using hmm
    have e2 : Try.prog.cellsOf 109 = 2 := by kernel_rfl
    rw [e2] at hx
    have hin : Inhabited WeakD := ⟨⟨false, 0⟩⟩
    obtain ⟨f, hf⟩ := choose_lt (α := WeakD) (n := len) (p := fun i d => in64 d.target ∧ ∀ k, k < 2 → w.cell? (Addr.add (a.add (i * 2)) k) = ([Value.bool d.used, .int .i64 d.target] : List Value)[k]?) (fun i hi => by
      obtain ⟨cs', h1, h2⟩ := hx i (by omega)
      obtain ⟨d, rfl, hd⟩ := opened_weak h2
      exact ⟨d, hd, (World.cells?_some h1).2.2⟩)
    unfold maxLen at hm
    have ht : ((List.range len).map f).length = len := by simp
    refine ⟨some a, (List.range len).map f, cap, by rw [ht], ?_, by omega, fun z hz => by
      obtain ⟨i, hi, rfl⟩ := List.mem_map.1 hz
      exact (hf i (List.mem_range.1 hi)).1⟩
    intro j hj
    rw [ht] at hj
    have hc0 := (hf 0 (by omega)).2 0 (by omega)
    obtain ⟨b, off, rfl⟩ : ∃ b off, a = ⟨b, off, none⟩ := by
      rw [Nat.zero_mul, show Addr.add (Addr.add a 0) 0 = a.add 0 from by rw [add_add]] at hc0
      exact plain_addr (v := .bool (f 0).used) hc0
    have q0 := (hf j hj).2 0 (by omega)
    have q1 := (hf j hj).2 1 (by omega)
    rw [add_plain, add_plain] at q0 q1
    simp at q0 q1
    refine ⟨b, off, rfl, World.block_lt_of_cell? w _ q0, ?_⟩
    rw [List.getElem_map, List.getElem_range]
    exact ⟨q0, q1⟩

theorem opened_objs {fuel : Nat} {cs : List Value} {x : DataW T × List MemPlace} (h : DataW.trod enc Try.prog w 0 (fun _ => true) held fuel 22 cs = some x) :
    ∃ a os cap, cs = [.slice a os.length cap] ∧ RdO w a os ∧ os.length ≤ 9223372036854775807 ∧ ∀ z ∈ os, z.field.length ≤ 9223372036854775807 ∧ WfO z := by
  rcases open_slice Try.underlying22 h with ⟨rfl, _⟩ | ⟨a, len, cap, m, n, D, Pl, rfl, _, hl, hm, hmm, _, hx⟩
  · exact ⟨none, [], 0, rfl, fun j hj => by simp at hj, by simp, by simp⟩
  · have hm2 : m = cap := by simpa using hmm
    have e2 : Try.prog.cellsOf 106 = 8 := by kernel_rfl
    rw [e2] at hx
    have hin : Inhabited ObjD := ⟨⟨false, 0, 0, 0, 0, 0, [], false⟩⟩
    obtain ⟨f, hf⟩ := choose_lt (α := ObjD) (n := len) (p := fun i o => (o.field.length ≤ 9223372036854775807 ∧ WfO o) ∧ ∃ (fa : Option Addr) (fc : Nat), RdI w fa o.field ∧ ∀ k, k < 8 → w.cell? (Addr.add (a.add (i * 8)) k) = ([Value.bool o.live, .int .i64 o.gen, .int .i64 o.site, .int .i64 o.holds, .int .i64 o.roots, .int .i64 o.count, .slice fa o.field.length fc, .bool o.purple] : List Value)[k]?) (fun i hi => by
      obtain ⟨cs', h1, h2⟩ := hx i (by omega)
      obtain ⟨o, fa, fc, rfl, hr, hl, hwf⟩ := opened_obj h2
      exact ⟨o, ⟨hl, hwf⟩, fa, fc, hr, (World.cells?_some h1).2.2⟩)
    unfold maxLen at hm
    have ht : ((List.range len).map f).length = len := by simp
    refine ⟨some a, (List.range len).map f, cap, by rw [ht], ?_, by omega, ?_⟩
    · intro j hj
      rw [ht] at hj
      obtain ⟨_, _, _, _, hc0⟩ := hf 0 (by omega)
      have hc0 := hc0 0 (by omega)
      obtain ⟨b, off, rfl⟩ : ∃ b off, a = ⟨b, off, none⟩ := by
        rw [Nat.zero_mul, show Addr.add (Addr.add a 0) 0 = a.add 0 from by rw [add_add]] at hc0
        exact plain_addr (v := .bool (f 0).live) hc0
      obtain ⟨_, fa, fc, hr, q⟩ := hf j hj
      have q0 := q 0 (by omega)
      have q1 := q 1 (by omega)
      have q2 := q 2 (by omega)
      have q3 := q 3 (by omega)
      have q4 := q 4 (by omega)
      have q5 := q 5 (by omega)
      have q6 := q 6 (by omega)
      have q7 := q 7 (by omega)
      rw [add_plain, add_plain] at q0 q1 q2 q3 q4 q5 q6 q7
      simp at q0 q1 q2 q3 q4 q5 q6 q7
      refine ⟨b, off, fa, fc, rfl, World.block_lt_of_cell? w _ q0, ?_⟩
      rw [List.getElem_map, List.getElem_range]
      exact ⟨⟨q0, q1, q2, q3, q4, q5, q6, q7⟩, hr⟩
    · intro z hz
      obtain ⟨i, hi, rfl⟩ := List.mem_map.1 hz
      exact (hf i (List.mem_range.1 hi)).1

theorem opened_heap {r : Reach} {b0 : Nat} {v : Value} {d : DataW T} {ps : List MemPlace} (hv : Value.okWide Try.prog w r b0 27 v) (h : DataW.Trod enc Try.prog w 0 (fun _ => true) held 27 v d ps) : ∃ H : HeapD, RdH w v H ∧ SaneH H := by
  obtain ⟨cs, rfl, hcs⟩ := okWide_struct Try.underlying27 hv
  obtain ⟨fuel, hf0⟩ := h
  have ec : (Value.agg cs).cells.toList = cs.toList := by simp [Value.cells]
  rw [ec] at hf0
  obtain ⟨xs, n, _, _, hl, hlen, hf⟩ := DataW.trod_struct Try.underlying27 hf0
  have hl2 : cs.size = 4 := hcs.trans (by kernel_rfl)
  obtain ⟨l⟩ := cs
  match l, hl2, xs, hlen with
  | [c0, c1, c2, c3], _, [y0, y1, y2, y3], _ =>
    have e0 : Try.prog.cellsOf 22 = 1 := by kernel_rfl
    have e1 : Try.prog.cellsOf 23 = 1 := by kernel_rfl
    have e2 : Try.prog.cellsOf 24 = 1 := by kernel_rfl
    have e3 : Try.prog.cellsOf 25 = 1 := by kernel_rfl
    have h0 := hf 0 { name := "Objs", type := 22, offset := 0, embedded := false, tag := "", pkgPath := "", byteOffset := 0 } rfl
    have h1 := hf 1 { name := "Weaks", type := 23, offset := 1, embedded := false, tag := "", pkgPath := "", byteOffset := 24 } rfl
    have h2 := hf 2 { name := "Buffer", type := 24, offset := 2, embedded := false, tag := "", pkgPath := "", byteOffset := 48 } rfl
    have h3 := hf 3 { name := "Sites", type := 25, offset := 3, embedded := false, tag := "", pkgPath := "", byteOffset := 72 } rfl
    simp only [e0, e1, e2, e3] at h0 h1 h2 h3
    obtain ⟨ao, os, co, g0, ro, l0, l0'⟩ := opened_objs (x := y0) (by simpa using h0)
    obtain ⟨aw, ds, cw, g1, rwk, l1, v1⟩ := opened_weaks (x := y1) (by simpa using h1)
    obtain ⟨ab, zs, cb, g2, ri, l2, v2⟩ := opened_ints (x := y2) (by simpa using h2)
    obtain ⟨sa, ss, sc, g3, rs, l3, l3'⟩ := opened_strs (x := y3) (by simpa using h3)
    refine ⟨⟨os, ds, zs, ss⟩, ⟨ao, co, aw, cw, ab, cb, sa, sc, by simp_all, ro, rwk, ri, rs⟩, ⟨⟨fun o ho => (l0' o ho).2, v1, v2⟩, l0, fun o ho => (l0' o ho).1, l1, l2, l3, l3'⟩⟩

end

end Go.Proofs.Ytjhceoejblmihaa
