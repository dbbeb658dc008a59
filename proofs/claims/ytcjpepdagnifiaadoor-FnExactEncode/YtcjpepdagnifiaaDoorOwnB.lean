/- Rows of bytes that the call itself made and that grow by append. -/
import Derived.Test.YtcjpepdagnifiaaDoorPutWalks
namespace Go.Proofs.YtcjpepdagnifiaaDoor
open Go.RowKit
set_option linter.unusedVariables false

/-- The slice v owns a row of the call's own whose elements are the bytes P. -/
def ownB (w : World) (B : Nat) (v : Value) (P : List UInt8) : Prop := w.ownsRow B 5 1 v P.length (P.map byteV)

theorem ownB_new (w : World) (B : Nat) (h : B ≤ w.heap.size) : ownB (w.alloc (.cells #[] 5)) B (.slice (some ⟨w.heap.size, 0, none⟩) 0 0) [] :=
  World.ownsRow_made w #[] 0 h (by decide) rfl

theorem conv_own (w : World) (B : Nat) (v : Value) (P : List UInt8) (h : ownB w B v P) : (convert 96 9 v).run Tryd.prog w = .ok (.string (txt P)) w := by
  have hc := fun g hg => World.ownsRow.cells h (g := g) hg
  rcases h.2 with ⟨rfl, hn⟩ | ⟨g, cap, cur, rfl, _⟩
  · obtain rfl : P = [] := List.eq_nil_of_length_eq_zero hn
    exact run_convert_bytes_nil (P := Tryd.prog) (w := w) 96 5 Tryd.underlying96 Tryd.underlying5 0 0 9 Tryd.underlying9
  · refine run_convert_bytes_back (P := Tryd.prog) w 96 9 5 ⟨g, 0, none⟩ cap P Tryd.underlying96 Tryd.underlying5 Tryd.underlying9 ?_
    intro j hj
    refine hc g rfl j _ ?_
    rw [List.getElem?_map, List.getElem?_eq_getElem hj]
    rfl

theorem ownB_alloc (w : World) (B : Nat) (v : Value) (P : List UInt8) (o : Obj) (h : ownB w B v P) : ownB (w.alloc o) B v P := World.ownsRow.alloc h o

/-- 'append(out, ..)' of bytes, out the call's own. -/
theorem wpList_appendB {w : World} {ops : Array Oper} {rest : List Oper} {o : Oper} {a : Act} {Q : Exit → Act → World → Prop} (hgd : o.guard = none) (s x : Operand)
    (ho : o.op = .call { callee := .builtin .append, args := #[s, x], argTypes := #[96, 96] }) (B : Nat) (v : Value) (P : List UInt8) (hs : a.eval s = v) (hown : ownB w B v P)
    (ad : Addr) (Y : List UInt8) (m c : Nat) (hx : a.eval x = .slice (some ad) m c) (hm : m = Y.length) (hsrc : ∀ j u, (Y.map byteV)[j]? = some u → w.cell? (ad.add j) = some u)
    (hlen : P.length + Y.length ≤ 16777216) (w0 : World) (hb : Below B w0 w) (hB : B ≤ w0.heap.size)
    (h : ∀ v' w', ownB w' B v' (P ++ Y) → Below B w0 w' → wpList Tryd.prog ops Q rest (a.put o.dst v') w') : wpList Tryd.prog ops Q (o :: rest) a w := by
  subst hm
  obtain ⟨i0, hi, hz0, hz1, hz2⟩ := info_parts info5
  have hsz := hb.size
  have hlt := World.ownsRow.lt hown
  refine wpList_append_own w hgd s x 96 ho B 5 i0 (.int .u8 0) 1 1 Tryd.underlying96 hi hz0 hz1 hz2 rfl (by decide) v P.length (P.map byteV) hs hown ad Y.length c (Y.map byteV) hx (by simp) hsrc ?_ ?_ ?_ ?_ ?_
  · intro u hu; obtain ⟨b, _, rfl⟩ := List.mem_map.1 hu; rfl
  · unfold maxLen; omega
  · omega
  · omega
  · intro v' w' hown' hgrow _
    refine h v' w' ?_ ?_
    · unfold ownB
      rw [List.length_append, List.map_append]
      exact hown'
    · refine hb.grown hgrow ?_ ?_
      · omega
      · intro r hr; exact (hlt r hr).1

/-- The same as one step of a statement whose order is open. -/
theorem step_appendB {w : World} {ops : Array Oper} {o : Oper} {a : Act} {K : Act → World → Prop} {Q : Exit → Act → World → Prop} {E : Prop} (hgd : o.guard = none) (s x : Operand)
    (ho : o.op = .call { callee := .builtin .append, args := #[s, x], argTypes := #[96, 96] }) (B : Nat) (v : Value) (P : List UInt8) (hs : a.eval s = v) (hown : ownB w B v P)
    (ad : Addr) (Y : List UInt8) (m c : Nat) (hx : a.eval x = .slice (some ad) m c) (hm : m = Y.length) (hsrc : ∀ j u, (Y.map byteV)[j]? = some u → w.cell? (ad.add j) = some u)
    (hlen : P.length + Y.length ≤ 16777216) (w0 : World) (hb : Below B w0 w) (hB : B ≤ w0.heap.size)
    (h : ∀ v' w', ownB w' B v' (P ++ Y) → Below B w0 w' → K (a.put o.dst v') w') : if Region.wanted o (yielded ops a.tmps) = true then Oper.wp Tryd.prog o a w K Q else E := by
  subst hm
  have hw : Region.wanted o (yielded ops a.tmps) = true := by simp [Region.wanted, hgd]
  rw [if_pos hw]
  obtain ⟨i0, hi, hz0, hz1, hz2⟩ := info_parts info5
  have hsz := hb.size
  have hlt := World.ownsRow.lt hown
  obtain ⟨v', w', hrun, r1, r2, _⟩ := run_append_own (P := Tryd.prog) w B 96 o.type 5 i0 (.int .u8 0) 1 1 Tryd.underlying96 hi hz0 hz1 hz2 rfl (by decide) v P.length (P.map byteV) hown ad Y.length c (Y.map byteV) (by simp) hsrc
    (by intro u hu; obtain ⟨b, _, rfl⟩ := List.mem_map.1 hu; rfl) (by unfold maxLen; omega) (by omega) (by omega)
  unfold Oper.wp
  simp [execOp, ho, resolve, invoke, builtin, hs, hx, hrun, Result.andThen]
  refine h v' w' ?_ ?_
  · unfold ownB
    rw [List.length_append, List.map_append]
    exact r1
  · refine hb.grown r2 ?_ ?_
    · omega
    · intro r hr; exact (hlt r hr).1

theorem src_two (w : World) (b c : UInt8) : ∀ j v, ([b, c].map byteV)[j]? = some v → (w.alloc (.cells #[.int .u8 (b.toNat : Int), .int .u8 (c.toNat : Int)] 5)).cell? (Addr.add ⟨w.heap.size, 0, none⟩ j) = some v := by
  intro j v hj
  match j, hj with
  | 0, hj =>
    rw [show (Addr.add ⟨w.heap.size, 0, none⟩ 0) = ⟨w.heap.size, 0, none⟩ from rfl, World.cell?_alloc_mark]
    simpa [byteV] using hj
  | 1, hj =>
    rw [show (Addr.add ⟨w.heap.size, 0, none⟩ 1) = ⟨w.heap.size, 1, none⟩ from rfl, World.cell?_alloc_mark]
    simpa [byteV] using hj
  | j + 2, hj => simp at hj

theorem src_two_of (w : World) (x y : Int) (b c : UInt8) (hx : x = (b.toNat : Int)) (hy : y = (c.toNat : Int)) :
    ∀ j v, ([b, c].map byteV)[j]? = some v → (w.alloc (.cells #[.int .u8 x, .int .u8 y] 5)).drew.cell? (Addr.add ⟨w.heap.size, 0, none⟩ j) = some v := by
  subst hx hy
  exact src_two w b c

theorem src_one_drew (w : World) (x : Int) (b : UInt8) (h : x = (b.toNat : Int)) : ∀ j v, ([b].map byteV)[j]? = some v → (w.alloc (.cells #[.int .u8 x] 5)).drew.cell? (Addr.add ⟨w.heap.size, 0, none⟩ j) = some v :=
  src_one w x b h

theorem ownB_drew (w : World) (B : Nat) (v : Value) (P : List UInt8) (h : ownB w B v P) : ownB w.drew B v P := h

end Go.Proofs.YtcjpepdagnifiaaDoor
