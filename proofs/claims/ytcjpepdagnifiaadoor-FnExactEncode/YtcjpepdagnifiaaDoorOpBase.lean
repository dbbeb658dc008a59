/- Operations and answers as the laws have them: what their helpers do; an argument that is an operation, opened. -/
import Derived.Test.YtcjpepdagnifiaaDoorAnsWalks
namespace Go.Proofs.YtcjpepdagnifiaaDoor
open Go.ChangeShapes Go.WideShapes Go.ChangeAt Go.RowKit
open Go.ChangeMaps (open_string shut_string)
set_option linter.unusedVariables false
set_option maxRecDepth 100000

/-- An operation's data. -/
structure OpD where
  kind : Int
  a : Int
  b : Int
  c : Int
  site : List UInt8
def opV (o : OpD) : Value := .agg #[.int .i64 o.kind, .int .i64 o.a, .int .i64 o.b, .int .i64 o.c, .string (txt o.site)]
/-- Each number is an int, the text no longer than a string can be. -/
structure SaneOp (o : OpD) : Prop where
  kind : in64 o.kind
  a : in64 o.a
  b : in64 o.b
  c : in64 o.c
  site : o.site.length ≤ 9223372036854775807

def ansV (c v : Int) (vf : Value) : Value := .agg #[.int .i64 c, .int .i64 v, vf]

theorem wrap64_in {x : Int} (h0 : -9223372036854775808 ≤ x) (h1 : x ≤ 9223372036854775807) : wrap64 x = x := by
  unfold wrap64; omega

theorem szOp_calls (w : World) (o : OpD) (left : Int) (hs : o.site.length ≤ 9223372036854775807) (h0 : 0 ≤ left) (h1 : left ≤ 1048576) :
    Calls Tryd.prog 40 #[opV o, .int .i64 left] w fun e w' => e = .returned (.int .i64 (if left - (o.site.length : Int) < 0 then -1 else left - (o.site.length : Int))) ∧ Below w.heap.size w w' := by
  have hsz : (txt o.site).size = o.site.length := txt_size _
  have hin : IntKind.i64.wrap (left - ((txt o.site).size : Int)) = left - (o.site.length : Int) := by
    rw [hsz]; have hh : wrap64 (left - (o.site.length : Int)) = left - (o.site.length : Int) := wrap64_in (by omega) (by omega)
    have e : IntKind.i64.wrap (left - (o.site.length : Int)) = wrap64 (left - (o.site.length : Int)) := by rw [IntKind.wrap_i64]; simp only [wrap64]
    rw [e]; exact hh
  unfold opV
  obtain ⟨b, hb⟩ : ∃ b, txt o.site = b := ⟨_, rfl⟩
  rw [hb] at hin hsz ⊢
  generalize o.site.length = n at *
  clear hb
  by_cases hn : left - (n : Int) < 0
  · rw [if_pos hn]
    go_enter Tryd.func40, Tryd.ntmps40
    go_wp2
    go_ret
    exact ⟨rfl, (Below.refl _ _).alloc (Nat.le_refl _) _⟩
  · rw [if_neg hn]
    go_enter Tryd.func40, Tryd.ntmps40
    go_wp2
    go_ret
    exact ⟨rfl, (Below.refl _ _).alloc (Nat.le_refl _) _⟩

theorem toOp_calls (w : World) (o : OpD) :
    Calls Tryd.prog 43 #[opV o] w fun e w' => e = .returned (opV o) ∧ Below w.heap.size w w' := by
  obtain ⟨k, a, b, c, s⟩ := o
  unfold opV
  simp only
  generalize txt s = t
  go_enter Tryd.func43, Tryd.ntmps43
  go_wp2
  refine bodyPost_ret (v := .agg #[.int .i64 k, .int .i64 a, .int .i64 b, .int .i64 c, .string t]) (by simp [results, Tryd.results43, go_sem, *]) rfl ⟨rfl, ?_⟩
  exact (((Below.refl _ _).alloc (Nat.le_refl _) _).alloc (by simp) _).alloc (by simp; omega) _

theorem markAnswer_st (w : World) (c v : Int) (a : Option Addr) (n cap : Nat) (k : Int) (h : CanI w a n) (hz : n ≤ 16777216) (h0 : 0 ≤ k) (h1 : k ≤ 1000000000000000) :
    Calls Tryd.prog 13 #[ansV c v (.slice a n cap), .int .i64 k] w fun e w' => e = .returned (.int .i64 (k + (n : Int))) ∧ ∃ w1, w' = stores w1 (mkI a k n) ∧ Below w.heap.size w w1 := by
  unfold ansV
  obtain ⟨W, hW⟩ : ∃ W, W = w.alloc (.cells #[.int .i64 c, .int .i64 v, .slice a n cap] 30) := ⟨_, rfl⟩
  have BW : Below w.heap.size w W := by rw [hW]; exact (Below.refl _ _).alloc (Nat.le_refl _) _
  have CM : Hid (∀ _ : Unit, _) := fun (_ : Unit) => markIntS_st W a n cap k (canI_later h BW) hz h0 h1
  go_enter Tryd.func13, Tryd.ntmps13
  go_wp2_with fail
  rw [← hW]
  clear hW
  refine (CM.out ()).mono ?_
  rintro e w1 ⟨rfl, hw1⟩
  have HX : Hid (∃ w2, w1 = stores w2 (mkI a k n) ∧ Below w.heap.size w w2) := ⟨W, hw1, BW⟩
  clear hw1 BW CM h
  go_wp2
  go_ret
  exact ⟨rfl, HX.out⟩

theorem heldAnswer_at (w : World) (c v : Int) (a : Option Addr) (n cap : Nat) (k : Int) (h : ∀ p ∈ mkI a k n, w.cell? p.1 = some p.2) (ha : 0 < n → ∃ g off, a = some ⟨g, off, none⟩) (hz : n ≤ 16777216) (h0 : 0 ≤ k) (h1 : k ≤ 1000000000000000) :
    Calls Tryd.prog 14 #[ansV c v (.slice a n cap), .int .i64 k] w fun e w' => e = .returned (.int .i64 (k + (n : Int))) ∧ Below w.heap.size w w' := by
  unfold ansV
  obtain ⟨W, hW⟩ : ∃ W, W = w.alloc (.cells #[.int .i64 c, .int .i64 v, .slice a n cap] 30) := ⟨_, rfl⟩
  have BW : Below w.heap.size w W := by rw [hW]; exact (Below.refl _ _).alloc (Nat.le_refl _) _
  have CM : Hid (∀ _ : Unit, _) := fun (_ : Unit) => heldIntS_at W a n cap k (fun p hp => (BW.cell (World.block_lt_of_cell? w _ (h p hp))).trans (h p hp)) ha hz h0 h1
  have hk : ¬ k + (n : Int) < 0 := by omega
  go_enter Tryd.func14, Tryd.ntmps14
  go_wp2_with fail
  rw [← hW]
  clear hW
  refine (CM.out ()).mono ?_
  rintro e w1 ⟨rfl, hw1⟩
  subst hw1
  have HX : Hid (Below w.heap.size w w1) := BW
  clear BW CM h ha
  go_wp2
  go_ret
  exact ⟨rfl, HX.out⟩

section
variable {T : Type} {enc : TypeId × Value → T} {w : World} {held : Bool}

theorem opened_op {r : Reach} {b0 : Nat} {v : Value} {d : DataW T} {ps : List MemPlace} (hv : Value.okWide Tryd.prog w r b0 73 v) (h : DataW.Trod enc Tryd.prog w 0 (fun _ => true) held 73 v d ps) : ∃ D : OpD, v = opV D ∧ SaneOp D := by
  obtain ⟨cs, rfl, hcs⟩ := okWide_struct Tryd.underlying73 hv
  obtain ⟨fuel, hf0⟩ := h
  have ec : (Value.agg cs).cells.toList = cs.toList := by simp [Value.cells]
  rw [ec] at hf0
  obtain ⟨xs, n, _, _, hl, hlen, hf⟩ := DataW.trod_struct Tryd.underlying73 hf0
  have hl2 : cs.size = 5 := hcs.trans (by kernel_rfl)
  obtain ⟨l⟩ := cs
  match l, hl2, xs, hlen with
  | [c0, c1, c2, c3, c4], _, [y0, y1, y2, y3, y4], _ =>
    have e3 : Tryd.prog.cellsOf 3 = 1 := by kernel_rfl
    have e2 : Tryd.prog.cellsOf 9 = 1 := by kernel_rfl
    have h0 := hf 0 { name := "Kind", type := 3, offset := 0, embedded := false, tag := "", pkgPath := "", byteOffset := 0 } rfl
    have h1 := hf 1 { name := "A", type := 3, offset := 1, embedded := false, tag := "", pkgPath := "", byteOffset := 8 } rfl
    have h2 := hf 2 { name := "B", type := 3, offset := 2, embedded := false, tag := "", pkgPath := "", byteOffset := 16 } rfl
    have h3 := hf 3 { name := "C", type := 3, offset := 3, embedded := false, tag := "", pkgPath := "", byteOffset := 24 } rfl
    have h4 := hf 4 { name := "Site", type := 9, offset := 4, embedded := false, tag := "", pkgPath := "", byteOffset := 32 } rfl
    simp only [e2, e3] at h0 h1 h2 h3 h4
    obtain ⟨m0, g0, _, v0⟩ := DataW.trod_int Tryd.underlying3 (x := y0) (by simpa using h0)
    obtain ⟨m1, g1, _, v1⟩ := DataW.trod_int Tryd.underlying3 (x := y1) (by simpa using h1)
    obtain ⟨m2, g2, _, v2⟩ := DataW.trod_int Tryd.underlying3 (x := y2) (by simpa using h2)
    obtain ⟨m3, g3, _, v3⟩ := DataW.trod_int Tryd.underlying3 (x := y3) (by simpa using h3)
    obtain ⟨m4, g4, _, v4⟩ := DataW.trod_string Tryd.underlying9 (x := y4) (by simpa using h4)
    exact ⟨⟨m0, m1, m2, m3, m4.data.toList⟩, by unfold opV; simp_all [txt], ⟨in64_wf v0, in64_wf v1, in64_wf v2, in64_wf v3, by unfold maxLen at v4; exact v4⟩⟩

end

end Go.Proofs.YtcjpepdagnifiaaDoor
