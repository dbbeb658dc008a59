/- What a row's list of the one error gives: it lies as it is written. -/
import Derived.Test.YtebgngofnmcklaaDoorEvBase
import Derived.Stop.LaidErr
import Derived.Lib.LaidTab
import Derived.OpenVars
namespace Go.Proofs.YtebgngofnmcklaaDoor
open Go.RowKit
set_option linter.unusedVariables false

theorem cellsE : Tryd.prog.cellsOf 131 = 1 := by kernel_rfl
theorem cellsT : Tryd.prog.cellsOf 9 = 1 := by kernel_rfl
theorem star : "*" ++ "errors.errorString" = "*errors.errorString" := by decide
theorem rowErr (u : TypeId) (h : Tryd.prog.typeName? 3 u = some "*errors.errorString") : u = 114 :=
  typeName_ptr_named (nm := "errors.errorString") (by rw [star]; kernel_rfl) (by kernel_rfl) (by decide) u (by rw [star]; exact h)
theorem gEv : Tryd.prog.globalNamed "loop.example/g01412/impl.errEvent" = some 0 := by kernel_rfl
theorem gEvType : (Tryd.prog.globals[0]?).map (·.type) = some 99 := by kernel_rfl

/-- As many readings as names. -/
theorem trodVars_length {H : Type} {enc : TypeId × Value → H} {P : Program} {W : World} {sp : Nat → Bool} : ∀ {ns : List String} {gs : List (DataW H)} {ps : List MemPlace}, DataW.TrodVars enc P W sp ns gs ps → gs.length = ns.length
  | [], [], _, _ => rfl
  | [], _ :: _, _, h => h.elim
  | _ :: _, [], _, h => h.elim
  | _ :: ns, _ :: ds, _, ⟨_, _, _, _, _, _, _, _, _, _, h, _⟩ => by rw [List.length_cons, List.length_cons, trodVars_length h]

theorem ev_of {W : World} (h : laidMet Tryd.prog [("loop.example/g01412/impl.errEvent", Rows.laid_loop_example_g01412_impl_errEvent)] W) : ∃ ev, EvE W ev := by
  obtain ⟨x, s, hv, -⟩ := laid_sentinel h gEv gEvType Tryd.underlying99 rowErr Tryd.underlying114 Tryd.underlying131 rfl rfl Tryd.underlying9 cellsE cellsT
  exact ⟨_, by simpa using World.var?_cell gEv hv 0, _, _, rfl⟩

end Go.Proofs.YtebgngofnmcklaaDoor
