/- What impl.countMade answers. -/
import Derived.Test.YtebgngofnmcklaaSameObjWalks
namespace Go.Proofs.Ytebgngofnmcklaa
open Go.RowKit
set_option linter.unusedVariables false

/-- What Count is in a right heap, in ints that wrap. -/
def madeZ (H : HeapD) (s : Int) (o : ObjD) : Int := IntKind.i64.wrap (IntKind.i64.wrap (o.holds + o.roots) + inEdges H s)

set_option maxRecDepth 100000 in
set_option maxHeartbeats 4000000 in
theorem countMade_calls (v : Value) (H : HeapD) (s : Nat) (o : ObjD) (w : World) (h : RdH w v H) (hs : SmallH H) (h8 : s < 8) (g p : Nat) (f : Option Addr) (fc : Nat) (hg : g < w.heap.size) (hc : ObjAt w g p o (.slice f o.field.length fc)) :
    Calls Try.prog 41 #[v, .int .i64 (s : Int), .pointer (some ⟨g, p, none⟩)] w fun e w' => e = .returned (.int .i64 (madeZ H (s : Int) o)) ∧ Below w.heap.size w w' := by
  have HR0 : Hid (∀ X, Below w.heap.size w X → RdH X v H) := fun X hX => rdH_later h hX
  obtain ⟨ao, co, aw, cw, ab, cb, sa, sc, rfl, ro, rwk, ri, rs⟩ := h
  obtain ⟨W, hW⟩ : ∃ W, W = w.alloc (.cells #[.slice ao H.objs.length co, .slice aw H.weaks.length cw, .slice ab H.buffer.length cb, .slice sa H.sites.length sc] 33) := ⟨_, rfl⟩
  have BW : Below w.heap.size w W := by rw [hW]; exact (Below.refl _ _).alloc (Nat.le_refl _) _
  have hWs : W.heap.size = w.heap.size + 1 := by rw [hW]; simp
  have HK : Hid (∀ X, Below W.heap.size W X → _) := fun X (hX : Below W.heap.size W X) => four_kept w 33 (.slice ao H.objs.length co) (.slice aw H.weaks.length cw) (.slice ab H.buffer.length cb) (.slice sa H.sites.length sc) X (by rw [hWs, hW] at hX; exact hX)
  have HOB : Hid (∀ X, Below W.heap.size W X → ObjAt X g p o (.slice f o.field.length fc)) := fun X hX => (hc.keep (fun k => BW.cell (p := ⟨g, k, none⟩) hg)).keep (fun k => hX.cell (p := ⟨g, k, none⟩) (Nat.lt_of_lt_of_le hg BW.size))
  have HB : Hid (∀ X, Below W.heap.size W X → Below w.heap.size w X) := fun X hX => BW.trans (hX.mono BW.size)
  have CE2 : Hid (∀ X : LaterW W, _) := fun X => iInEdges_calls _ H s X.on (HR0.out X.on (BW.trans (X.bel.mono BW.size))) hs h8
  have HM : Hid (madeZ H (s : Int) o = IntKind.i64.wrap (IntKind.i64.wrap (o.holds + o.roots) + inEdges H (s : Int))) := rfl
  generalize madeZ H (s : Int) o = M at *
  generalize inEdges H (s : Int) = E at *
  obtain ⟨ol, og, ost, oh, orr, oc, ofl, op⟩ := o
  simp only at *
  have hne := LaterW.some_ W
  have z3 : ∀ X : LaterW W, X.on.cell? ⟨g, p + 3, none⟩ = some (.int .i64 oh) := fun X => (HOB.out _ X.bel).c3
  have z4 : ∀ X : LaterW W, X.on.cell? ⟨g, p + 4, none⟩ = some (.int .i64 orr) := fun X => (HOB.out _ X.bel).c4
  have y0 : ∀ X : LaterW W, X.on.cell? ⟨w.heap.size, 0, none⟩ = some (.slice ao H.objs.length co) := fun X => (HK.out _ X.bel).1
  have y1 : ∀ X : LaterW W, X.on.cell? ⟨w.heap.size, 1, none⟩ = some (.slice aw H.weaks.length cw) := fun X => (HK.out _ X.bel).2.1
  have y2 : ∀ X : LaterW W, X.on.cell? ⟨w.heap.size, 2, none⟩ = some (.slice ab H.buffer.length cb) := fun X => (HK.out _ X.bel).2.2.1
  have y3 : ∀ X : LaterW W, X.on.cell? ⟨w.heap.size, 3, none⟩ = some (.slice sa H.sites.length sc) := fun X => (HK.out _ X.bel).2.2.2
  obtain ⟨S, hS⟩ : ∃ S, IntKind.i64.wrap (oh + orr) = S := ⟨_, rfl⟩
  rw [hS] at HM
  have hM : IntKind.i64.wrap (S + E) = M := HM.out.symm
  clear ro rwk ri rs hs HR0 hc hWs HM
  go_enter Try.func41, Try.ntmps41
  go_wp2
  rw [← hW]
  clear hW
  refine wp_region_later W (Below.refl _ _) (by kernel_rfl) (by kernel_rfl) ?_
  repeat (go_big_quiet_step (first
    | (go_at_call 51; refine (CE2.out _).mono ?_; rintro e w1 ⟨rfl, b1⟩; exact ⟨rfl, LaterW.step _ b1⟩)))
  refine wpQuiet_nil ?_
  rintro _ ⟨⟨X, hX⟩, rfl⟩
  go_wp2
  go_ret
  exact ⟨rfl, HB.out _ hX⟩

end Go.Proofs.Ytebgngofnmcklaa
