/- What a row's list of the table and of the errors gives: the table lies as it is written, and so do the errors, no two of them at one place. -/
import Derived.Test.YthagjamgmlbhkaaDoorCodeWalks
import Derived.Stop.LaidErr
import Derived.Stop.LaidTwo
import Derived.Lib.LaidTab
import Derived.OpenVars
namespace Go.Proofs.YthagjamgmlbhkaaDoor
open Go.RowKit
set_option linter.unusedVariables false

theorem gTab : Tryd.prog.globalNamed "loop.example/g01412/impl.sumTable" = some 5 := by kernel_rfl
theorem gTabType : (Tryd.prog.globals[5]?).map (·.type) = some 101 := by kernel_rfl
theorem cellsTab : Tryd.prog.cellsOf 101 = 16 := by kernel_rfl
theorem cells32 : Tryd.prog.cellsOf 85 = 1 := by kernel_rfl
theorem tabEq : (Rows.laid_loop_example_g01412_impl_sumTable : DataW Unit) = Lib.tabData .u32 tabZ := by kernel_rfl
theorem tab_laid {W : World} {r : List (String × DataW Unit)} (h : laidMet Tryd.prog (("loop.example/g01412/impl.sumTable", Rows.laid_loop_example_g01412_impl_sumTable) :: r) W) : TabAt W := by
  rw [tabEq] at h
  exact tab_of (Lib.tabIs_of_head gTab gTabType Tryd.underlying101 Tryd.underlying85 cells32 cellsTab h)

def nm : E5 → String
  | none => "loop.example/g01412/impl.errHead"
  | some none => "loop.example/g01412/impl.errFrame"
  | some (some .lt) => "loop.example/g01412/impl.errSeq"
  | some (some .eq) => "loop.example/g01412/impl.errEnd"
  | some (some .gt) => "loop.example/g01412/impl.errMore"
theorem gName (k : E5) : Tryd.prog.globalNamed (nm k) = some (gv k) := by rcases k with _ | (_ | (_ | _ | _)) <;> kernel_rfl
theorem gType (k : E5) : (Tryd.prog.globals[gv k]?).map (·.type) = some 51 := by rcases k with _ | (_ | (_ | _ | _)) <;> kernel_rfl
theorem cellsE : Tryd.prog.cellsOf 125 = 1 := by kernel_rfl
theorem cellsT : Tryd.prog.cellsOf 9 = 1 := by kernel_rfl
theorem star : "*" ++ "errors.errorString" = "*errors.errorString" := by decide
theorem rowErr (u : TypeId) (h : Tryd.prog.typeName? 3 u = some "*errors.errorString") : u = 102 :=
  typeName_ptr_named (nm := "errors.errorString") (by rw [star]; kernel_rfl) (by kernel_rfl) (by decide) u (by rw [star]; exact h)

theorem laid_skip {P : Program} {x y : String × DataW Unit} {r : List (String × DataW Unit)} {w : World} (h : laidMet P (x :: y :: r) w) : laidMet P (x :: r) w := by
  obtain ⟨ps, hv, hnd, hrows⟩ := h
  obtain ⟨n, d⟩ := x
  obtain ⟨m, e⟩ := y
  obtain ⟨g, t, cs, fuel, p, q, h1, h2, h3, h4, ⟨g2, t2, cs2, fuel2, p2, q2, _, _, _, _, hq2, e2⟩, e1⟩ := hv
  subst e2
  subst e1
  refine ⟨_, ⟨g, t, cs, fuel, p, q2, h1, h2, h3, h4, hq2, rfl⟩, ?_, fun b off hm => hrows b off ?_⟩
  · refine List.Nodup.sublist ?_ hnd
    exact List.Sublist.append (List.Sublist.refl _) (List.sublist_append_right _ _)
  · rcases List.mem_append.1 hm with hm | hm
    · exact List.mem_append_left _ hm
    · exact List.mem_append_right _ (List.mem_append_right _ hm)

theorem sn_of_var {W : World} (k : E5) (a : Addr) (c : Array Value) (t : TypeId) (hv : W.var? Tryd.prog (nm k) = some #[errAt a]) (hb : W.heap[a.block]? = some (.cells c t (0, 0))) : Sn W.heap.size W (gv k) a := by
  have hc : W.cell? ⟨gv k, 0, none⟩ = some (errAt a) := by simpa using World.var?_cell (gName k) hv 0
  exact ⟨World.block_lt_of_cell? W _ hc, (Array.getElem?_eq_some_iff.1 hb).1, hc, c, t, hb⟩
theorem sn_unique {n : Nat} {W : World} {g : Nat} {a b : Addr} (h : Sn n W g a) (k : Sn n W g b) : a = b := by
  have := h.2.2.1.symm.trans k.2.2.1
  simpa using this
theorem laid_pair (k l : E5) {t0 t1 : List UInt8} {r : List (String × DataW Unit)} {W : World}
    (h : laidMet Tryd.prog ((nm k, .iface "*errors.errorString" (.ptr (.agg [.lit (.string t0)]))) :: (nm l, .iface "*errors.errorString" (.ptr (.agg [.lit (.string t1)]))) :: r) W) :
    ∃ a b, Sn W.heap.size W (gv k) a ∧ Sn W.heap.size W (gv l) b ∧ a ≠ b := by
  obtain ⟨a0, a1, s0, s1, c0, c1, u0, u1, hv0, hv1, _, _, _, _, _, _, hne, hb0, hb1⟩ := laid_sentinels2 h (gName k) (gType k) (gName l) (gType l) Tryd.underlying51 rowErr Tryd.underlying102 Tryd.underlying125 rfl rfl Tryd.underlying9 cellsE cellsT
  exact ⟨a0, a1, sn_of_var k a0 c0 u0 hv0 hb0, sn_of_var l a1 c1 u1 hv1 hb1, hne⟩

theorem env3_of {W : World} (h : laidMet Tryd.prog [("loop.example/g01412/impl.sumTable", Rows.laid_loop_example_g01412_impl_sumTable), ("loop.example/g01412/impl.errHead", Rows.laid_loop_example_g01412_impl_errHead), ("loop.example/g01412/impl.errFrame", Rows.laid_loop_example_g01412_impl_errFrame), ("loop.example/g01412/impl.errEnd", Rows.laid_loop_example_g01412_impl_errEnd)] W) :
    ∃ a f e, Env3 W.heap.size W a f e := by
  have ht := tab_laid h
  have h1 := h.tail
  obtain ⟨a, f, s1, s2, n1⟩ := laid_pair .head .frame h1
  obtain ⟨a', e, s3, s4, n2⟩ := laid_pair .head .fin (laid_skip h1)
  obtain ⟨f', e', s5, s6, n3⟩ := laid_pair .frame .fin h1.tail
  obtain rfl := sn_unique s1 s3
  obtain rfl := sn_unique s2 s5
  obtain rfl := sn_unique s4 s6
  exact ⟨a, f, e, ht, tab_pos ht, s1, s2, s4, n1, n2, n3⟩

theorem env5_of {W : World} (h : laidMet Tryd.prog [("loop.example/g01412/impl.sumTable", Rows.laid_loop_example_g01412_impl_sumTable), ("loop.example/g01412/impl.errHead", Rows.laid_loop_example_g01412_impl_errHead), ("loop.example/g01412/impl.errFrame", Rows.laid_loop_example_g01412_impl_errFrame), ("loop.example/g01412/impl.errSeq", Rows.laid_loop_example_g01412_impl_errSeq), ("loop.example/g01412/impl.errEnd", Rows.laid_loop_example_g01412_impl_errEnd), ("loop.example/g01412/impl.errMore", Rows.laid_loop_example_g01412_impl_errMore)] W) :
    ∃ ad, Env5 W.heap.size W ad := by
  have ht := tab_laid h
  have h1 := h.tail
  obtain ⟨a, f, s1, s2, n1⟩ := laid_pair .head .frame h1
  obtain ⟨x, s, u1, s3, n2⟩ := laid_pair .head .seq (laid_skip h1)
  obtain rfl := sn_unique s1 u1
  obtain ⟨x, e, u1, s4, n3⟩ := laid_pair .head .fin (laid_skip (laid_skip h1))
  obtain rfl := sn_unique s1 u1
  obtain ⟨x, m, u1, s5, n4⟩ := laid_pair .head .more (laid_skip (laid_skip (laid_skip h1)))
  obtain rfl := sn_unique s1 u1
  have h2 := h1.tail
  obtain ⟨x, y, u1, u2, n5⟩ := laid_pair .frame .seq h2
  obtain rfl := sn_unique s2 u1
  obtain rfl := sn_unique s3 u2
  obtain ⟨x, y, u1, u2, n6⟩ := laid_pair .frame .fin (laid_skip h2)
  obtain rfl := sn_unique s2 u1
  obtain rfl := sn_unique s4 u2
  obtain ⟨x, y, u1, u2, n7⟩ := laid_pair .frame .more (laid_skip (laid_skip h2))
  obtain rfl := sn_unique s2 u1
  obtain rfl := sn_unique s5 u2
  have h3 := h2.tail
  obtain ⟨x, y, u1, u2, n8⟩ := laid_pair .seq .fin h3
  obtain rfl := sn_unique s3 u1
  obtain rfl := sn_unique s4 u2
  obtain ⟨x, y, u1, u2, n9⟩ := laid_pair .seq .more (laid_skip h3)
  obtain rfl := sn_unique s3 u1
  obtain rfl := sn_unique s5 u2
  obtain ⟨x, y, u1, u2, n10⟩ := laid_pair .fin .more h3.tail
  obtain rfl := sn_unique s4 u1
  obtain rfl := sn_unique s5 u2
  refine ⟨fun | none => a | some none => f | some (some .lt) => s | some (some .eq) => e | some (some .gt) => m, ht, tab_pos ht, fun k => ?_, fun k l hkl => ?_⟩
  · rcases k with _ | (_ | (_ | _ | _))
    · exact s1
    · exact s2
    · exact s3
    · exact s4
    · exact s5
  · rcases k with _ | (_ | (_ | _ | _)) <;> rcases l with _ | (_ | (_ | _ | _)) <;> first | exact absurd rfl hkl | assumption | (refine Ne.symm ?_; assumption)

/-- As many readings as names. -/
theorem trodVars_length {H : Type} {enc : TypeId × Value → H} {P : Program} {W : World} {sp : Nat → Bool} : ∀ {ns : List String} {gs : List (DataW H)} {ps : List MemPlace}, DataW.TrodVars enc P W sp ns gs ps → gs.length = ns.length
  | [], [], _, _ => rfl
  | [], _ :: _, _, h => h.elim
  | _ :: _, [], _, h => h.elim
  | _ :: ns, _ :: ds, _, ⟨_, _, _, _, _, _, _, _, _, _, h, _⟩ => by rw [List.length_cons, List.length_cons, trodVars_length h]

end Go.Proofs.YthagjamgmlbhkaaDoor
