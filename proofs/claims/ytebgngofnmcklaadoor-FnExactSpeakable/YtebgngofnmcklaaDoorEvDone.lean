/- done: the steps are gone through; whether they came to their end or in the error, is answered. -/
import Derived.Test.YtebgngofnmcklaaDoorEvOp
import Derived.Tactics
import Derived.Tactics2
import Derived.Defers
import Derived.Recover
import Derived.Laws.Pointers
namespace Go.Proofs.YtebgngofnmcklaaDoor
open Go.RowKit
set_option linter.unusedVariables false
set_option maxRecDepth 100000

theorem catch_pan (p : Addr) (ev : Value) (he : ∃ u pv, ev = .iface u pv) (w : World) (c : Value) (hc : w.cell? p = some c) (hz : w.frozen? p = false) :
    CallsD Tryd.prog 53 #[.pointer (some p)] (.panicking (pan ev)) w fun e u' w' =>
      e = .returned (.tuple #[]) ∧ u' = .panicking [{ v := ev, recovered := true }] ∧ w' = w.setCell p (.bool false) := by
  obtain ⟨u, pv, rfl⟩ := he
  refine callsD_of_wpS Tryd.func53 rfl fun c₀ cs hu => ?_
  apply wpS_region
  simp [wpOpsS, go_sem, recoverD, hu, Tryd.ntmps53, hc, hz, bodyPostS, results, Tryd.results53]

theorem catch_idle (p : Addr) (w : World) (c : Value) (hc : w.cell? p = some c) (hz : w.frozen? p = false) :
    CallsD Tryd.prog 53 #[.pointer (some p)] .returning w fun e u' w' => e = .returned (.tuple #[]) ∧ u' = .returning ∧ w' = w.setCell p (.bool true) := by
  refine callsD_of_wpS Tryd.func53 rfl fun c₀ cs hu => ?_
  apply wpS_region
  cases c₀
  simp_all [wpOpsS, go_sem, recoverD, Tryd.ntmps53, bodyPostS, results, Tryd.results53]

theorem done_calls (f : FuncId) (caps : Array Value) (w W : World) (hW : W = w.alloc (.cells #[.bool false] 4)) (ev : Value) (he : ∃ u pv, ev = .iface u pv) (R : Bool → World → Prop) (hcf : ∀ X : World, (callFunc f caps).run Tryd.prog X = .ok (.enter f caps) X)
    (hR : ∀ q X, R q X → (∃ c, X.cell? ⟨w.heap.size, 0, none⟩ = some c) ∧ X.frozen? ⟨w.heap.size, 0, none⟩ = false)
    (hc : Calls Tryd.prog f caps W (fun e X => (e = .returned (.tuple #[]) ∧ R true X) ∨ (e = .panicked (pan ev) ∧ R false X))) :
    Calls Tryd.prog 26 #[.func (.func f) #[] caps] w fun e w' => ∃ q X, R q X ∧ e = .returned (.bool q) ∧ (w' = X.setCell ⟨w.heap.size, 0, none⟩ (.bool q) ∨ w' = (X.setCell ⟨w.heap.size, 0, none⟩ (.bool true)).setCell ⟨w.heap.size, 0, none⟩ (.bool q)) := by
  have hmf : ∀ (fn : Fn) (first cap : Array Value) (w : World), (Instr.makeFunc fn first cap).run Tryd.prog w = .ok (.func fn first cap) w := fun _ _ _ _ => rfl
  have HC : Hid (Calls _ _ _ _ _) := hc
  have HR : Hid (∀ q X, R q X → _) := hR
  clear hc hR
  go_enter_defers Tryd.func26, Tryd.ntmps26
  have HW : Hid (w.alloc (.cells #[.bool false] 4) = W) := hW.symm
  clear hW
  have HE : Hid (∃ u pv, ev = .iface u pv) := he
  clear he
  go_wp2_with fail
  rw [HW.out]
  refine (Calls.mono HC.out ?_)
  rintro e X hx
  rcases hx with ⟨rfl, hr⟩ | ⟨rfl, hr⟩
  · obtain ⟨⟨c, hc⟩, hz⟩ := HR.out _ _ hr
    have HX : Hid (R true X) := hr
    clear hr
    go_wp2
    refine leaves_cons (f := 53) (args := #[.pointer (some ⟨w.heap.size, 0, none⟩)]) (by simp) (by simp [go_sem]) ?_
    refine (catch_idle ⟨w.heap.size, 0, none⟩ _ (.bool true) ?_ ?_).mono ?_
    · exact World.cell?_setCell_same X _ _ hc
    · rw [World.frozen?_setCell]; exact hz
    rintro e u' w'' ⟨rfl, rfl, rfl⟩
    have hcc : ((X.setCell ⟨w.heap.size, 0, none⟩ (.bool true)).setCell ⟨w.heap.size, 0, none⟩ (.bool true)).cell? ⟨w.heap.size, 0, none⟩ = some (.bool true) := World.cell?_setCell_same _ _ _ (World.cell?_setCell_same X _ _ hc)
    simp [Leaves, settle, results, Tryd.results26, go_sem, hcc]
    exact ⟨X, HX.out, .inr rfl⟩
  · obtain ⟨⟨c, hc⟩, hz⟩ := HR.out _ _ hr
    have HX : Hid (R false X) := hr
    clear hr
    go_wp2
    refine leaves_cons (f := 53) (args := #[.pointer (some ⟨w.heap.size, 0, none⟩)]) (by simp) (by simp [go_sem]) ?_
    refine (catch_pan ⟨w.heap.size, 0, none⟩ ev HE.out _ c hc hz).mono ?_
    rintro e u' w'' ⟨rfl, rfl, rfl⟩
    have hcc : (X.setCell ⟨w.heap.size, 0, none⟩ (.bool false)).cell? ⟨w.heap.size, 0, none⟩ = some (.bool false) := World.cell?_setCell_same X _ _ hc
    simp [Leaves, settle, results, Tryd.results26, go_sem, hcc]
    exact ⟨X, HX.out, .inl rfl⟩

end Go.Proofs.YtebgngofnmcklaaDoor
