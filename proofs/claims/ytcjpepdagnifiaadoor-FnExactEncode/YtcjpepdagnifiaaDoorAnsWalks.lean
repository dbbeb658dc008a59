/- Answers: what the laws' helpers on them and both SameAnswer do. -/
import Derived.Test.YtcjpepdagnifiaaDoorHeapMath
import Derived.Test.YtcjpepdagnifiaaDoorHeapMark
import Derived.Test.YtcjpepdagnifiaaDoorEqWalks
namespace Go.Proofs.YtcjpepdagnifiaaDoor
open Go.RowKit
set_option linter.unusedVariables false
set_option maxRecDepth 100000

/-- An answer's data. -/
structure AnsD where
  code : Int
  val : Int
  freed : List Int

/-- An answer's value, as one who only reads has it. -/
def RdA (w : World) (v : Value) (A : AnsD) : Prop := ∃ a c, v = .agg #[.int .i64 A.code, .int .i64 A.val, .slice a A.freed.length c] ∧ RdI w a A.freed
theorem rdA_later {w w' : World} {v : Value} {A : AnsD} (h : RdA w v A) (hb : Below w.heap.size w w') : RdA w' v A := by
  obtain ⟨a, c, h1, h2⟩ := h
  exact ⟨a, c, h1, rdI_later h2 hb⟩
/-- No longer than a slice can be, and each number is an int. -/
structure SaneA (A : AnsD) : Prop where
  code : in64 A.code
  val : in64 A.val
  len : A.freed.length ≤ 9223372036854775807
  freed : ∀ z ∈ A.freed, in64 z

theorem szAnswer_calls (w : World) (v : Value) (A : AnsD) (left : Int) (h : RdA w v A) (hs : A.freed.length ≤ 9223372036854775807) (h0 : 0 ≤ left) (h1 : left ≤ 1048576) :
    Calls Tryd.prog 41 #[v, .int .i64 left] w fun e w' => e = .returned (.int .i64 (if left - (A.freed.length : Int) < 0 then -1 else left - (A.freed.length : Int))) ∧ Below w.heap.size w w' := by
  obtain ⟨a, c, rfl, -⟩ := h
  have C1 : Hid (∀ X, _) := fun X => szIntS_calls X a c A.freed.length left hs h0 h1
  obtain ⟨z, hz⟩ : ∃ z, (if left - (A.freed.length : Int) < 0 then -1 else left - (A.freed.length : Int)) = z := ⟨_, rfl⟩
  have hm : z < 0 → z = -1 := fun hh => by rw [← hz] at hh ⊢; split <;> simp_all <;> omega
  rw [hz] at C1 ⊢
  generalize A.freed.length = n at *
  clear hz hs
  by_cases hn : z < 0
  · have := hm hn
    subst this
    go_enter Tryd.func41, Tryd.ntmps41
    go_wp2_with fail
    refine (C1.out _).mono ?_
    rintro e w1 ⟨rfl, rfl⟩
    go_wp2
    go_ret
    exact ⟨rfl, (Below.refl _ _).alloc (Nat.le_refl _) _⟩
  · clear hm
    go_enter Tryd.func41, Tryd.ntmps41
    go_wp2_with fail
    refine (C1.out _).mono ?_
    rintro e w1 ⟨rfl, rfl⟩
    go_wp2
    go_ret
    exact ⟨rfl, (Below.refl _ _).alloc (Nat.le_refl _) _⟩

/-- Three cells of an answer in a block of their own. -/
def Three (X : World) (g : Nat) (x0 x1 x2 : Value) : Prop := X.heap[g]? = some (.cells #[x0, x1, x2] 30 (0, 0))
theorem Three.cell {X : World} {g : Nat} {x0 x1 x2 : Value} (h : Three X g x0 x1 x2) (k : Nat) : X.cell? ⟨g, k, none⟩ = (#[x0, x1, x2] : Array Value)[k]? := by
  have h' : X.heap[g]? = some (.cells #[x0, x1, x2] 30 (0, 0)) := h
  simp [World.cell?, h']
theorem Three.frozen {X : World} {g : Nat} {x0 x1 x2 : Value} (h : Three X g x0 x1 x2) (k : Nat) : X.frozen? ⟨g, k, none⟩ = false := by
  have h' : X.heap[g]? = some (.cells #[x0, x1, x2] 30 (0, 0)) := h
  simp [World.frozen?, h']
theorem Three.lt {X : World} {g : Nat} {x0 x1 x2 : Value} (h : Three X g x0 x1 x2) : g < X.heap.size := (Array.getElem?_eq_some_iff.1 h).1
theorem Three.later {X Y : World} {g : Nat} {x0 x1 x2 : Value} (h : Three X g x0 x1 x2) (hb : Below X.heap.size X Y) : Three Y g x0 x1 x2 := (hb.block g h.lt).trans h
theorem Three.new (w : World) (x0 x1 x2 : Value) : Three (w.alloc (.cells #[x0, x1, x2] 30)) w.heap.size x0 x1 x2 := heap_alloc_new w _

theorem eqAnswer_calls (w : World) (v u : Value) (A : AnsD) (h1 : RdA w v A) (h2 : RdA w u A) (m : A.freed.length ≤ 16777216) :
    Calls Tryd.prog 10 #[v, u] w fun e w' => e = .returned (.bool true) ∧ Below w.heap.size w w' := by
  obtain ⟨a, c, rfl, ra⟩ := h1
  obtain ⟨b, d, rfl, rb⟩ := h2
  obtain ⟨W, hW⟩ : ∃ W, W = (w.alloc (.cells #[.int .i64 A.code, .int .i64 A.val, .slice a A.freed.length c] 30)).alloc (.cells #[.int .i64 A.code, .int .i64 A.val, .slice b A.freed.length d] 30) := ⟨_, rfl⟩
  have BW : Below w.heap.size w W := by rw [hW]; exact ((Below.refl _ _).alloc (Nat.le_refl _) _).alloc (by simp) _
  have C1 : Hid (∀ _ : Unit, _) := fun (_ : Unit) => eqIntS_rd W a b c d A.freed (rdI_later ra BW) (rdI_later rb BW) m
  generalize A.freed.length = n at *
  generalize A.code = co at *
  generalize A.val = va at *
  clear ra rb
  go_enter Tryd.func10, Tryd.ntmps10
  go_wp2_with fail
  rw [← hW]
  clear hW
  refine (C1.out ()).mono ?_
  rintro e w1 ⟨rfl, b1⟩
  have B1 := BW.trans (b1.mono BW.size)
  go_wp2
  go_ret
  exact ⟨rfl, B1⟩

set_option maxHeartbeats 4000000 in
theorem toAnswer_calls (w : World) (v : Value) (A : AnsD) (h : RdA w v A) (hs : A.freed.length ≤ 16777216) :
    Calls Tryd.prog 44 #[v] w fun e w' => ∃ a c, e = .returned (.agg #[.int .i64 A.code, .int .i64 A.val, .slice a A.freed.length c]) ∧ ownI w' w.heap.size (.slice a A.freed.length c) A.freed ∧ Below w.heap.size w w' := by
  obtain ⟨a, c, rfl, ra⟩ := h
  have C1 : Hid (∀ X, Below w.heap.size w X → _) := fun X hX => toIntS_calls X a c A.freed (rdI_later ra hX) hs
  obtain ⟨n, hn⟩ : ∃ n, A.freed.length = n := ⟨_, rfl⟩
  have HN : Hid (A.freed.length = n) := hn
  rw [hn] at C1 ⊢
  generalize A.code = co at *
  generalize A.val = va at *
  clear ra hn
  obtain ⟨W0, hW0⟩ : ∃ W, W = ((w.alloc (.cells #[.int .i64 co, .int .i64 va, .slice a n c] 75)).alloc (.cells #[.int .i64 0, .int .i64 0, .slice none 0 0] 30)).alloc (.cells #[.int .i64 co, .int .i64 va, .slice none 0 0] 30) := ⟨_, rfl⟩
  have BW : Below w.heap.size w W0 := by
    rw [hW0]
    exact (((Below.refl _ _).alloc (Nat.le_refl _) _).alloc (by simp) _).alloc (by simp; omega) _
  have sW : W0.heap.size = w.heap.size + 3 := by rw [hW0]; simp
  have q1 : Three W0 (w.heap.size + 1) (.int .i64 0) (.int .i64 0) (.slice none 0 0) := by
    have f := (Three.new (w.alloc (.cells #[.int .i64 co, .int .i64 va, .slice a n c] 75)) (.int .i64 0) (.int .i64 0) (.slice none 0 0)).later ((Below.refl _ _).alloc (Nat.le_refl _) (.cells #[.int .i64 co, .int .i64 va, .slice none 0 0] 30))
    rw [← hW0] at f
    simpa using f
  have q2 : Three W0 (w.heap.size + 2) (.int .i64 co) (.int .i64 va) (.slice none 0 0) := by
    have f := Three.new ((w.alloc (.cells #[.int .i64 co, .int .i64 va, .slice a n c] 75)).alloc (.cells #[.int .i64 0, .int .i64 0, .slice none 0 0] 30)) (.int .i64 co) (.int .i64 va) (.slice none 0 0)
    rw [← hW0] at f
    simpa using f
  go_enter Tryd.func44, Tryd.ntmps44
  go_wp2_with fail
  rw [← hW0]
  clear hW0
  refine (C1.out _ BW).mono ?_
  rintro e w1 ⟨u1, rfl, O1, b1⟩
  obtain ⟨x1, c1, hu, -⟩ := rdI_own O1
  rw [HN.out] at hu
  subst hu
  have k1 := q1.later b1
  have k2 := q2.later b1
  have d0 : w1.cell? ⟨w.heap.size + 2, 0, none⟩ = some (.int .i64 co) := k2.cell 0
  have d1 : w1.cell? ⟨w.heap.size + 2, 1, none⟩ = some (.int .i64 va) := k2.cell 1
  have d2 : w1.cell? ⟨w.heap.size + 2, 2, none⟩ = some (.slice none 0 0) := k2.cell 2
  have f2 := k2.frozen 2
  have e0 : w1.cell? ⟨w.heap.size + 1, 0, none⟩ = some (.int .i64 0) := k1.cell 0
  have e1 : w1.cell? ⟨w.heap.size + 1, 1, none⟩ = some (.int .i64 0) := k1.cell 1
  have e2 : w1.cell? ⟨w.heap.size + 1, 2, none⟩ = some (.slice none 0 0) := k1.cell 2
  have z0 := k1.frozen 0
  have z1 := k1.frozen 1
  have z2 := k1.frozen 2
  have HO : Hid (ownI w1 W0.heap.size (.slice x1 n c1) A.freed) := O1
  have HB : Hid (Below w.heap.size w w1) := BW.trans (b1.mono BW.size)
  have HS : Hid (W0.heap.size = w.heap.size + 3) := sW
  clear C1 O1 b1 k1 k2 q1 q2 BW sW
  go_wp2
  refine bodyPost_ret (v := .agg #[.int .i64 co, .int .i64 va, .slice x1 n c1]) (by simp [results, Tryd.results44, go_sem, *]) rfl ⟨x1, c1, rfl, ?_, ?_⟩
  · have h3 := HS.out
    refine ownI_mono (B := W0.heap.size) ?_ (by omega)
    refine ownI_same HO.out (fun g hg => ?_)
    have := (ownI_lt HO.out g hg).1
    iterate 4 rw [heap_setCell_other _ _ _ _ (by simp only; omega)]
  · iterate 4 refine Below.setCell ?_ (by simp only; omega) _
    exact HB.out

end Go.Proofs.YtcjpepdagnifiaaDoor

namespace Go.Proofs.YtcjpepdagnifiaaDoor
open Go.RowKit Go.ChangeShapes Go.WideShapes Go.ChangeAt Go.Deep
set_option linter.unusedVariables false
set_option maxRecDepth 100000

section
variable {T : Type} {enc : TypeId × Value → T} {w : World} {held : Bool}

theorem opened_ans {r : Reach} {b0 : Nat} {v : Value} {d : DataW T} {ps : List MemPlace} (hv : Value.okWide Tryd.prog w r b0 75 v) (h : DataW.Trod enc Tryd.prog w 0 (fun _ => true) held 75 v d ps) : ∃ D : AnsD, RdA w v D ∧ SaneA D := by
  obtain ⟨cs, rfl, hcs⟩ := okWide_struct Tryd.underlying75 hv
  obtain ⟨fuel, hf0⟩ := h
  have ec : (Value.agg cs).cells.toList = cs.toList := by simp [Value.cells]
  rw [ec] at hf0
  obtain ⟨xs, n, _, _, hl, hlen, hf⟩ := DataW.trod_struct Tryd.underlying75 hf0
  have hl2 : cs.size = 3 := hcs.trans (by kernel_rfl)
  obtain ⟨l⟩ := cs
  match l, hl2, xs, hlen with
  | [c0, c1, c2], _, [y0, y1, y2], _ =>
    have e3 : Tryd.prog.cellsOf 3 = 1 := by kernel_rfl
    have e2 : Tryd.prog.cellsOf 28 = 1 := by kernel_rfl
    have h0 := hf 0 { name := "Code", type := 3, offset := 0, embedded := false, tag := "", pkgPath := "", byteOffset := 0 } rfl
    have h1 := hf 1 { name := "Val", type := 3, offset := 1, embedded := false, tag := "", pkgPath := "", byteOffset := 8 } rfl
    have h2 := hf 2 { name := "Freed", type := 28, offset := 2, embedded := false, tag := "", pkgPath := "", byteOffset := 16 } rfl
    simp only [e2, e3] at h0 h1 h2
    obtain ⟨m0, g0, _, v0⟩ := DataW.trod_int Tryd.underlying3 (x := y0) (by simpa using h0)
    obtain ⟨m1, g1, _, v1⟩ := DataW.trod_int Tryd.underlying3 (x := y1) (by simpa using h1)
    obtain ⟨ab, zs, cb, g2, ri, l1, v2⟩ := opened_ints (x := y2) (by simpa using h2)
    exact ⟨⟨m0, m1, zs⟩, ⟨ab, cb, by simp_all, ri⟩, ⟨in64_wf v0, in64_wf v1, l1, v2⟩⟩

end

theorem opToA {t i : Tmp} {ty : TypeId} {pos : String} {af : Array Edge} {ats : Array TypeId} {a : Act} {X : World} {K : Act → World → Prop} {Q : Exit → Act → World → Prop} {u : Value} {post : Ending → World → Prop} (h1 : a.eval (.tmp i) = u) (hC : Calls Tryd.prog 44 #[u] X post) (hK : ∀ e w', post e w' → ∃ x, e = .returned x ∧ K (a.put (some t) x) w') :
    Oper.wp Tryd.prog ⟨some t, .call { callee := .value (.func 44), args := #[.tmp i], argTypes := ats }, ty, pos, af, none⟩ a X K Q := by
  have e1 := ev_tmp h1
  go_simp
  refine hC.mono (fun e w' hp => ?_)
  obtain ⟨x, rfl, hx⟩ := hK e w' hp
  exact hx

theorem opEqA {t i j : Tmp} {ty : TypeId} {pos : String} {af : Array Edge} {ats : Array TypeId} {a : Act} {X : World} {K : Act → World → Prop} {Q : Exit → Act → World → Prop} {u v : Value} {post : Ending → World → Prop} (h1 : a.eval (.tmp i) = u) (h2 : a.eval (.tmp j) = v) (hC : Calls Tryd.prog 10 #[u, v] X post) (hK : ∀ e w', post e w' → ∃ x, e = .returned x ∧ K (a.put (some t) x) w') :
    Oper.wp Tryd.prog ⟨some t, .call { callee := .value (.func 10), args := #[.tmp i, .tmp j], argTypes := ats }, ty, pos, af, none⟩ a X K Q := by
  have e1 := ev_tmp h1
  have e2 := ev_tmp h2
  go_simp
  refine hC.mono (fun e w' hp => ?_)
  obtain ⟨x, rfl, hx⟩ := hK e w' hp
  exact hx

theorem opLoadAl {t i : Tmp} {ty : TypeId} {pos : String} {af : Array Edge} {a : Act} {X : World} {K : Act → World → Prop} {Q : Exit → Act → World → Prop} {g : Nat} {x0 x1 : Int} {x2 : Option Addr} {n c : Nat} (h1 : a.eval (.tmp i) = .pointer (some ⟨g, 0, none⟩)) (q0 : X.cell? ⟨g, 0, none⟩ = some (.int .i64 x0)) (q1 : X.cell? ⟨g, 1, none⟩ = some (.int .i64 x1)) (q2 : X.cell? ⟨g, 2, none⟩ = some (.slice x2 n c)) (hK : K (a.put (some t) (.agg #[.int .i64 x0, .int .i64 x1, .slice x2 n c])) X) :
    Oper.wp Tryd.prog ⟨some t, .load 75 (.tmp i), ty, pos, af, none⟩ a X K Q := by
  have h := ev_tmp h1
  go_simp; exact hK

theorem opLoadAi {t i : Tmp} {ty : TypeId} {pos : String} {af : Array Edge} {a : Act} {X : World} {K : Act → World → Prop} {Q : Exit → Act → World → Prop} {g : Nat} {x0 x1 : Int} {x2 : Option Addr} {n c : Nat} (h1 : a.eval (.tmp i) = .pointer (some ⟨g, 0, none⟩)) (q0 : X.cell? ⟨g, 0, none⟩ = some (.int .i64 x0)) (q1 : X.cell? ⟨g, 1, none⟩ = some (.int .i64 x1)) (q2 : X.cell? ⟨g, 2, none⟩ = some (.slice x2 n c)) (hK : K (a.put (some t) (.agg #[.int .i64 x0, .int .i64 x1, .slice x2 n c])) X) :
    Oper.wp Tryd.prog ⟨some t, .load 30 (.tmp i), ty, pos, af, none⟩ a X K Q := by
  have h := ev_tmp h1
  go_simp; exact hK

theorem opNot {t i : Tmp} {ty : TypeId} {pos : String} {af : Array Edge} {a : Act} {X : World} {K : Act → World → Prop} {Q : Exit → Act → World → Prop} (h1 : a.eval (.tmp i) = .bool true) (hK : K (a.put (some t) (.bool false)) X) :
    Oper.wp Tryd.prog ⟨some t, .unOp .not 4 (.tmp i), ty, pos, af, none⟩ a X K Q := by
  have h := ev_tmp h1
  go_simp; exact hK

theorem opAssign {t i : Tmp} {ty : TypeId} {pos : String} {af : Array Edge} {a : Act} {X : World} {K : Act → World → Prop} {Q : Exit → Act → World → Prop} {v : Value} (h1 : a.eval (.tmp i) = v) (hK : K (a.put (some t) v) X) :
    Oper.wp Tryd.prog ⟨some t, .assign (.tmp i), ty, pos, af, none⟩ a X K Q := by
  have h := ev_tmp h1
  go_simp; exact hK

end Go.Proofs.YtcjpepdagnifiaaDoor
