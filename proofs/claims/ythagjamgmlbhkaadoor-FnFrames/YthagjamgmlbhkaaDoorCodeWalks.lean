/- The five errors of a log; what impl.logCode answers of each of them. -/
import Derived.Test.YthagjamgmlbhkaaDoorPayMath
import Derived.Test.YthagjamgmlbhkaaDoorIterWalks
namespace Go.Proofs.YthagjamgmlbhkaaDoor
open Go.RowKit
set_option linter.unusedVariables false

/-- The variable of each error. -/
def gv : E5 → Nat
  | none => 0
  | some none => 4
  | some (some .lt) => 1
  | some (some .eq) => 3
  | some (some .gt) => 2
structure Env5 (n : Nat) (w : World) (ad : E5 → Addr) : Prop where
  tab : TabAt w
  low : 5 < n
  err : ∀ k, Sn n w (gv k) (ad k)
  inj : ∀ k l, k ≠ l → ad k ≠ ad l
theorem env5_below {n : Nat} {w w' : World} {ad : E5 → Addr} (E : Env5 n w ad) (hb : Below n w w') : Env5 n w' ad :=
  ⟨tab_below E.tab hb E.low, E.low, fun k => sn_below (E.err k) hb, E.inj⟩
theorem Env5.three {n : Nat} {w : World} {ad : E5 → Addr} (E : Env5 n w ad) : Env3 n w (ad .head) (ad .frame) (ad .fin) :=
  ⟨E.tab, E.low, E.err .head, E.err .frame, E.err .fin, E.inj _ _ (by decide), E.inj _ _ (by decide), E.inj _ _ (by decide)⟩
theorem sn_later {n : Nat} {w w' : World} {g : Nat} {a : Addr} (h : Sn n w g a) (hb : Below w.heap.size w w') : Sn w'.heap.size w' g a := by
  obtain ⟨h1, h2, h3, c, t, h4⟩ := h
  have hg := World.block_lt_of_cell? w _ h3
  have ha := (Array.getElem?_eq_some_iff.1 h4).1
  have hs := hb.size
  exact ⟨Nat.lt_of_lt_of_le hg hs, Nat.lt_of_lt_of_le ha hs, (hb.cell (p := ⟨g, 0, none⟩) hg).trans h3, c, t, (hb.block _ ha).trans h4⟩
theorem env3_later {n : Nat} {w w' : World} {h f e : Addr} (E : Env3 n w h f e) (hb : Below w.heap.size w w') : Env3 w'.heap.size w' h f e :=
  ⟨tab_below E.tab hb (tab_pos E.tab), Nat.lt_of_lt_of_le (tab_pos E.tab) hb.size, sn_later E.head hb, sn_later E.frame hb, sn_later E.fin hb, E.hf, E.he, E.fe⟩
theorem env5_later {n : Nat} {w w' : World} {ad : E5 → Addr} (E : Env5 n w ad) (hb : Below w.heap.size w w') : Env5 w'.heap.size w' ad :=
  ⟨tab_below E.tab hb (tab_pos E.tab), Nat.lt_of_lt_of_le (tab_pos E.tab) hb.size, fun k => sn_later (E.err k) hb, E.inj⟩

/-- An error as a value. -/
def errW (ad : E5 → Addr) : Option E5 → Value
  | none => .nilIface
  | some k => errAt (ad k)
theorem errV_why (ad : E5 → Addr) (k : E4) : errV (ad .head) (ad .frame) (ad .fin) k = errW ad k.why := by rcases k with _ | (_ | _ | _) <;> rfl

theorem is_yes (n : Nat) (W : World) (ad : E5 → Addr) (E : Env5 n W ad) (t : E5) : Calls Tryd.prog 38 #[errW ad (some t), errAt (ad t)] W fun r w' => r = .returned (.bool true) ∧ w' = W := is_same _ W
theorem is_not (n : Nat) (W : World) (ad : E5 → Addr) (E : Env5 n W ad) (k : Option E5) (t : E5) (hk : k ≠ some t) : Calls Tryd.prog 38 #[errW ad k, errAt (ad t)] W fun r w' => r = .returned (.bool false) ∧ w' = W := by
  obtain ⟨_, _, _, c, t2, hh⟩ := E.err t
  cases k with
  | none => exact is_nil _ W
  | some k =>
    obtain ⟨_, _, _, c2, t3, hf⟩ := E.err k
    exact is_other _ _ c2 c t3 t2 W (E.inj _ _ (fun he => hk (by rw [he]))) hf hh

theorem logCode_calls (n : Nat) (W : World) (ad : E5 → Addr) (E : Env5 n W ad) (k : Option E5) :
    Calls Tryd.prog 36 #[errW ad k] W fun r w' => r = .returned (.int .i64 (code k : Int)) ∧ w' = W := by
  have c0 : W.cell? ⟨0, 0, none⟩ = some (errAt (ad .head)) := (E.err .head).2.2.1
  have c1 : W.cell? ⟨4, 0, none⟩ = some (errAt (ad .frame)) := (E.err .frame).2.2.1
  have c2 : W.cell? ⟨1, 0, none⟩ = some (errAt (ad .seq)) := (E.err .seq).2.2.1
  have c3 : W.cell? ⟨3, 0, none⟩ = some (errAt (ad .fin)) := (E.err .fin).2.2.1
  have c4 : W.cell? ⟨2, 0, none⟩ = some (errAt (ad .more)) := (E.err .more).2.2.1
  have HN : Hid (∀ t, k ≠ some t → _) := fun t ht => is_not n W ad E k t ht
  have HY : Hid (∀ t, _) := fun t => is_yes n W ad E t
  have nx : ∀ t : E5, ∀ k' : Option E5, k = k' → k' ≠ some t → Hid (Calls Tryd.prog 38 #[errW ad k', errAt (ad t)] W fun r w' => r = .returned (.bool false) ∧ w' = W) := fun t k' hk ht => by subst hk; exact HN.out t ht
  clear HN E
  rcases k with _ | k
  · have H1 := nx .head none rfl (by decide)
    have H2 := nx .frame none rfl (by decide)
    have H3 := nx .seq none rfl (by decide)
    have H4 := nx .fin none rfl (by decide)
    have H5 := nx .more none rfl (by decide)
    clear nx HY
    have HC : Hid (code none = 0) := rfl
    generalize errW ad none = ev at *
    go_enter Tryd.func36, Tryd.ntmps36
    go_wp2_with fail
    refine Calls.mono H1.out ?_
    rintro r w1 ⟨rfl, rfl⟩
    go_wp2_with fail
    refine Calls.mono H2.out ?_
    rintro r w1 ⟨rfl, rfl⟩
    go_wp2_with fail
    refine Calls.mono H3.out ?_
    rintro r w1 ⟨rfl, rfl⟩
    go_wp2_with fail
    refine Calls.mono H4.out ?_
    rintro r w1 ⟨rfl, rfl⟩
    go_wp2_with fail
    refine Calls.mono H5.out ?_
    rintro r w1 ⟨rfl, rfl⟩
    go_wp2
    go_ret
    exact ⟨rfl, rfl⟩
  · rcases k with _ | (_ | (_ | _ | _))
    ·
      have H1 : Hid (∀ (_ : Unit), _) := fun _ => HY.out .head
      clear nx HY
      generalize errW ad (some .head) = ev at *
      go_enter Tryd.func36, Tryd.ntmps36
      go_wp2_with fail
      refine (H1.out ()).mono ?_
      rintro r w1 ⟨rfl, rfl⟩
      go_wp2
      go_ret
      exact ⟨rfl, rfl⟩
    ·
      have H1 := nx .head _ rfl (by decide)
      have H2 : Hid (∀ (_ : Unit), _) := fun _ => HY.out .frame
      clear nx HY
      generalize errW ad (some .frame) = ev at *
      go_enter Tryd.func36, Tryd.ntmps36
      go_wp2_with fail
      refine Calls.mono H1.out ?_
      rintro r w1 ⟨rfl, rfl⟩
      go_wp2_with fail
      refine (H2.out ()).mono ?_
      rintro r w1 ⟨rfl, rfl⟩
      go_wp2
      go_ret
      exact ⟨rfl, rfl⟩
    ·
      have H1 := nx .head _ rfl (by decide)
      have H2 := nx .frame _ rfl (by decide)
      have H3 : Hid (∀ (_ : Unit), _) := fun _ => HY.out .seq
      clear nx HY
      generalize errW ad (some .seq) = ev at *
      go_enter Tryd.func36, Tryd.ntmps36
      go_wp2_with fail
      refine Calls.mono H1.out ?_
      rintro r w1 ⟨rfl, rfl⟩
      go_wp2_with fail
      refine Calls.mono H2.out ?_
      rintro r w1 ⟨rfl, rfl⟩
      go_wp2_with fail
      refine (H3.out ()).mono ?_
      rintro r w1 ⟨rfl, rfl⟩
      go_wp2
      go_ret
      exact ⟨rfl, rfl⟩
    ·
      have H1 := nx .head _ rfl (by decide)
      have H2 := nx .frame _ rfl (by decide)
      have H3 := nx .seq _ rfl (by decide)
      have H4 : Hid (∀ (_ : Unit), _) := fun _ => HY.out .fin
      clear nx HY
      generalize errW ad (some .fin) = ev at *
      go_enter Tryd.func36, Tryd.ntmps36
      go_wp2_with fail
      refine Calls.mono H1.out ?_
      rintro r w1 ⟨rfl, rfl⟩
      go_wp2_with fail
      refine Calls.mono H2.out ?_
      rintro r w1 ⟨rfl, rfl⟩
      go_wp2_with fail
      refine Calls.mono H3.out ?_
      rintro r w1 ⟨rfl, rfl⟩
      go_wp2_with fail
      refine (H4.out ()).mono ?_
      rintro r w1 ⟨rfl, rfl⟩
      go_wp2
      go_ret
      exact ⟨rfl, rfl⟩
    ·
      have H1 := nx .head _ rfl (by decide)
      have H2 := nx .frame _ rfl (by decide)
      have H3 := nx .seq _ rfl (by decide)
      have H4 := nx .fin _ rfl (by decide)
      have H5 : Hid (∀ (_ : Unit), _) := fun _ => HY.out .more
      clear nx HY
      generalize errW ad (some .more) = ev at *
      go_enter Tryd.func36, Tryd.ntmps36
      go_wp2_with fail
      refine Calls.mono H1.out ?_
      rintro r w1 ⟨rfl, rfl⟩
      go_wp2_with fail
      refine Calls.mono H2.out ?_
      rintro r w1 ⟨rfl, rfl⟩
      go_wp2_with fail
      refine Calls.mono H3.out ?_
      rintro r w1 ⟨rfl, rfl⟩
      go_wp2_with fail
      refine Calls.mono H4.out ?_
      rintro r w1 ⟨rfl, rfl⟩
      go_wp2_with fail
      refine (H5.out ()).mono ?_
      rintro r w1 ⟨rfl, rfl⟩
      go_wp2
      go_ret
      exact ⟨rfl, rfl⟩

end Go.Proofs.YthagjamgmlbhkaaDoor
