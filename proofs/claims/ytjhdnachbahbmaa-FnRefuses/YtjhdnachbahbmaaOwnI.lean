/- Rows of numbers that a call itself made: what they hold, how they grow and are written. -/
import Derived.Test.YtjhdnachbahbmaaRows
import Derived.WalkKit
import Derived.ProofKit
import Derived.OwnWalk
import Derived.Laws.OwnMore
namespace Go.Proofs.Ytjhdnachbahbmaa
open Go.RowKit
set_option linter.unusedVariables false

def intV (z : Int) : Value := .int .i64 z
/-- The slice v owns a row, at or behind block B, whose elements are the numbers zs. -/
def ownI (w : World) (B : Nat) (v : Value) (zs : List Int) : Prop := w.ownsRow B 3 1 v zs.length (zs.map intV)

theorem infoI : (Try.prog.info? 3).map (fun i => (i.zero, i.size, i.bytes)) = some (some (.int .i64 0), 1, 8) := by kernel_rfl

theorem ownI_new (w : World) (B : Nat) (h : B ≤ w.heap.size) : ownI (w.alloc (.cells #[] 3)) B (.slice (some ⟨w.heap.size, 0, none⟩) 0 0) [] :=
  World.ownsRow_made w #[] 0 h (by decide) rfl
theorem ownI_nil (w : World) (B : Nat) : ownI w B (.slice none 0 0) [] := World.ownsRow_nil w B 3 1
theorem ownI_alloc {w : World} {B : Nat} {v : Value} {zs : List Int} (o : Obj) (h : ownI w B v zs) : ownI (w.alloc o) B v zs := World.ownsRow.alloc h o
theorem ownI_mono {w : World} {B C : Nat} {v : Value} {zs : List Int} (h : ownI w B v zs) (hC : C ≤ B) : ownI w C v zs := by
  rcases h with ⟨h1, h2 | ⟨g, cap, cur, h2, h3, h4⟩⟩
  · exact ⟨h1, .inl h2⟩
  · exact ⟨h1, .inr ⟨g, cap, cur, h2, by omega, h4⟩⟩
/-- What is written elsewhere leaves it. -/
theorem ownI_below {w w' : World} {B X : Nat} {v : Value} {zs : List Int} (h : ownI w B v zs) (hb : Below X w w') (hX : ∀ g, v.ownBlock = some g → g < X) : ownI w' B v zs := by
  rcases h with ⟨h1, h2 | ⟨g, cap, cur, h2, h3, h4, h5⟩⟩
  · exact ⟨h1, .inl h2⟩
  · refine ⟨h1, .inr ⟨g, cap, cur, h2, h3, ?_, h5⟩⟩
    rw [hb.block g (hX g (by rw [h2]; rfl))]
    exact h4
theorem ownI_lt {w : World} {B : Nat} {v : Value} {zs : List Int} (h : ownI w B v zs) : ∀ g, v.ownBlock = some g → B ≤ g ∧ g < w.heap.size := World.ownsRow.lt h
theorem ownI_later {w w' : World} {B : Nat} {v : Value} {zs : List Int} (h : ownI w B v zs) (hb : Below w.heap.size w w') : ownI w' B v zs :=
  ownI_below h hb (fun g hg => (ownI_lt h g hg).2)

/-- It laid open: no row at all, or one. -/
theorem ownI_form {w : World} {B : Nat} {v : Value} {zs : List Int} (h : ownI w B v zs) :
    (v = .slice none 0 0 ∧ zs = []) ∨ ∃ g cap, v = .slice (some ⟨g, 0, none⟩) zs.length cap ∧ B ≤ g ∧ g < w.heap.size ∧ zs.length ≤ cap ∧ cap ≤ maxLen ∧
      Hid (∀ j (h : j < zs.length), w.cell? ⟨g, j, none⟩ = some (.int .i64 zs[j]) ∧ w.frozen? ⟨g, j, none⟩ = false) := by
  have hh := h
  rcases h with ⟨h1, ⟨h2, h3⟩ | ⟨g, cap, cur, h2, h3, h4, h5, h6, h7⟩⟩
  · exact .inl ⟨h2, List.eq_nil_of_length_eq_zero h3⟩
  · refine .inr ⟨g, cap, h2, h3, (Array.getElem?_eq_some_iff.1 h4).1, h5, h6, ?_⟩
    subst h2
    intro j hj
    refine ⟨?_, World.ownsRow.frozenAt hh j⟩
    rw [World.ownsRow.cellAt hh j (by omega), List.getElem?_map, List.getElem?_eq_getElem hj]
    rfl

/-- It as one who only reads has it. -/
theorem ownI_read {w : World} {B : Nat} {v : Value} {zs : List Int} (h : ownI w B v zs) :
    ∃ a cap, v = .slice a zs.length cap ∧ Hid (∀ j (h : j < zs.length), ∃ g, a = some ⟨g, 0, none⟩ ∧ w.cell? ⟨g, j, none⟩ = some (.int .i64 zs[j])) := by
  rcases ownI_form h with ⟨rfl, rfl⟩ | ⟨g, cap, rfl, _, _, _, _, HC⟩
  · exact ⟨none, 0, rfl, fun j hj => by simp at hj⟩
  · exact ⟨_, cap, rfl, fun j hj => ⟨g, rfl, (HC.out j hj).1⟩⟩

theorem ownI_set {w : World} {B g n cap : Nat} {zs : List Int} (h : ownI w B (.slice (some ⟨g, 0, none⟩) n cap) zs) (hn : n = zs.length) (j : Nat) (x : Int) : ownI (w.setCell ⟨g, j, none⟩ (.int .i64 x)) B (.slice (some ⟨g, 0, none⟩) n cap) (zs.set j x) := by
  subst hn
  have h2 := World.ownsRow.stored h j (.int .i64 x)
  unfold ownI
  rw [List.length_set, List.map_set]
  exact h2.1

/-- 'append(out, x)', out the call's own. -/
theorem wpList_appendI {w : World} {ops : Array Oper} {rest : List Oper} {o : Oper} {a : Act} {Q : Exit → Act → World → Prop} (hgd : o.guard = none) (s x : Operand)
    (ho : o.op = .call { callee := .builtin .append, args := #[s, x], argTypes := #[28, 28] }) (B : Nat) (v : Value) (P : List Int) (hs : a.eval s = v) (hown : ownI w B v P)
    (ad : Addr) (Y : List Int) (m c : Nat) (hx : a.eval x = .slice (some ad) m c) (hm : m = Y.length) (hsrc : ∀ j u, (Y.map intV)[j]? = some u → w.cell? (ad.add j) = some u)
    (hlen : P.length + Y.length ≤ 16777216) (w0 : World) (hb : Below B w0 w) (hB : B ≤ w0.heap.size)
    (h : ∀ v' w', ownI w' B v' (P ++ Y) → Below B w0 w' → wpList Try.prog ops Q rest (a.put o.dst v') w') : wpList Try.prog ops Q (o :: rest) a w := by
  subst hm
  obtain ⟨i0, hi, hz0, hz1, hz2⟩ := info_parts infoI
  have hsz := hb.size
  have hlt := World.ownsRow.lt hown
  refine wpList_append_own w hgd s x 28 ho B 3 i0 (.int .i64 0) 1 8 Try.underlying28 hi hz0 hz1 hz2 rfl (by decide) v P.length (P.map intV) hs hown ad Y.length c (Y.map intV) hx (by simp) hsrc ?_ ?_ ?_ ?_ ?_
  · intro u hu; obtain ⟨b, _, rfl⟩ := List.mem_map.1 hu; rfl
  · unfold maxLen; omega
  · omega
  · omega
  · intro v' w' hown' hgrow _
    refine h v' w' ?_ ?_
    · unfold ownI
      rw [List.length_append, List.map_append]
      exact hown'
    · refine hb.grown hgrow ?_ ?_
      · omega
      · intro r hr; exact (hlt r hr).1

theorem src_int (w : World) (x : Int) : ∀ j v, ([x].map intV)[j]? = some v → (w.alloc (.cells #[.int .i64 x] 3)).cell? (Addr.add ⟨w.heap.size, 0, none⟩ j) = some v := by
  intro j v hj
  match j, hj with
  | 0, hj =>
    rw [show (Addr.add ⟨w.heap.size, 0, none⟩ 0) = ⟨w.heap.size, 0, none⟩ from rfl, World.cell?_alloc_mark]
    simpa [intV] using hj
  | j + 1, hj => simp at hj

end Go.Proofs.Ytjhdnachbahbmaa
