/- What impl.FrameSpots answers, at every text of at most 2^20 bytes, where the table and the errors lie as the program's text lays them. -/
import Derived.Test.YthagjamgmlbhkaaDoorIterWalks
import Derived.Test.YthagjamgmlbhkaaDoorSpotsLaw
import Derived.Maps.AppendAt
namespace Go.Proofs.YthagjamgmlbhkaaDoor
open Go.RowKit Go.Shelf
set_option linter.unusedVariables false
attribute [local go_sem] Oper.semAt_some

/-- An item's box: the four fields of a frame. -/
def ItBox (W : World) (B : Nat) (x : It) : Prop := W.heap[B]? = some (.cells #[.int .i64 (x.q : Int), .string (txt x.t), .int .i64 (x.a : Int), .int .i64 (x.b : Int)] 62 (0, 0))
theorem itBox_own (B : Nat) (x : It) : Own (fun (_ : Unit) W => ItBox W B x) := by
  intro s X Y row h hg hr
  refine (hg.block B (Array.getElem?_eq_some_iff.1 h).1 (fun e => ?_)).trans h
  obtain ⟨o, ho, hc⟩ := hr B e.symm
  rw [show X.heap[B]? = _ from h] at ho; cases ho; cases hc

theorem is_head (n : Nat) (W : World) (h f e : Addr) (E : Env3 n W h f e) : Calls Tryd.prog 38 #[errV h f e .head, errAt h] W fun r w' => r = .returned (.bool true) ∧ w' = W := is_same h W
theorem is_nohead (n : Nat) (W : World) (h f e : Addr) (k : E4) (hk : k ≠ .head) (E : Env3 n W h f e) : Calls Tryd.prog 38 #[errV h f e k, errAt h] W fun r w' => r = .returned (.bool false) ∧ w' = W := by
  obtain ⟨_, _, _, c, t, hh⟩ := E.head
  rcases k with _ | (_ | _ | _)
  · exact is_nil h W
  · exact absurd rfl hk
  · obtain ⟨_, _, _, c2, t2, hf⟩ := E.frame; exact is_other f h c2 c t2 t W E.hf.symm hf hh
  · obtain ⟨_, _, _, c2, t2, hf⟩ := E.fin; exact is_other e h c2 c t2 t W E.he.symm hf hh

def frs (pre : List It) : List Int := ints (pre.map (·.a))
theorem frs_snoc (pre : List It) (x : It) : frs (pre ++ [x]) = frs pre ++ [(x.a : Int)] := by simp [frs, ints]
theorem frs_length (pre : List It) : (frs pre).length = pre.length := by simp [frs, ints]

set_option maxRecDepth 100000 in
set_option maxHeartbeats 4000000 in
theorem iFrameSpots_calls (L : List UInt8) (h f e : Addr) (w : World) (hs : L.length ≤ 1048576) (E : Env3 w.heap.size w h f e) :
    Calls Tryd.prog 14 #[.string (txt L)] w fun e W' => ∃ v, e = .returned v ∧ ownI W' w.heap.size v (ints (spots L)) ∧ Below w.heap.size w W' := by
  obtain ⟨i0, hi, hz0, hz1, hz2⟩ := info_parts infoI
  have hIL := items_length L
  refine (callsIn_wide (n := 5)).1 ?_
  refine callsIn_of_wp_marks Tryd.func14 rfl trivial ?_ rfl
  simp only [Tryd.ntmps14, List.size_toArray, List.length_cons, List.length_nil, Nat.reduceAdd, Nat.reduceSub, Array.replicate_succ, Array.replicate_zero, List.push_toArray, List.append_toArray, List.nil_append, List.cons_append]
  gi_wp2_with fail
  refine ⟨trivial, (framesOf_calls _ _ _).mono ?_⟩
  rintro e1 w1 ⟨rfl, rfl⟩
  gi_wp2
  have bR := ((Boxed.new w 30 (.slice none 0 0)).alloc (.cells #[.slice none 0 0] 30)).alloc (.cells #[.string (txt L)] 9)
  have bS := (Boxed.new (w.alloc (.cells #[.slice none 0 0] 30)) 30 (.slice none 0 0)).alloc (.cells #[.string (txt L)] 9)
  have bN := Boxed.new ((w.alloc (.cells #[.slice none 0 0] 30)).alloc (.cells #[.slice none 0 0] 30)) 9 (.string (txt L))
  have hB0 : Below w.heap.size w (((w.alloc (.cells #[.slice none 0 0] 30)).alloc (.cells #[.slice none 0 0] 30)).alloc (.cells #[.string (txt L)] 9)) := (((Below.refl _ w).alloc (Nat.le_refl _) _).alloc (by simp) _).alloc (by simp; omega) _
  have hsz : (((w.alloc (.cells #[.slice none 0 0] 30)).alloc (.cells #[.slice none 0 0] 30)).alloc (.cells #[.string (txt L)] 9)).heap.size = w.heap.size + 3 := by simp
  simp only [World.size_alloc] at bS bN ⊢
  obtain ⟨W0, hW0⟩ : ∃ W0, ((w.alloc (.cells #[.slice none 0 0] 30)).alloc (.cells #[.slice none 0 0] 30)).alloc (.cells #[.string (txt L)] 9) = W0 := ⟨_, rfl⟩
  rw [hW0] at bR bS bN hB0 hsz ⊢
  clear hW0
  have hE0 := env3_below E hB0
  refine wpIn_rangeFunc_ownH rfl (by omega) (gf := 55) (lb := #[.pointer (some ⟨w.heap.size + 1 + 1, 0, none⟩)]) rfl trivial (enters_of Tryd.func55 (by kernel_rfl) rfl)
    (frames_stops _ (w.heap.size + 1 + 1) w.heap.size h f e L hs (by omega) W0 bN.cell (by omega) hE0) kpB_t (kpB_b (by omega) (by omega)) (Below.refl _ _) (fun _ => rfl)
    (fun pre W => (∃ v, Boxed W (w.heap.size + 1) 30 v ∧ W.ownsRow w.heap.size 3 1 v (frs pre).length ((frs pre).map intV) ∧ True) ∧ (Boxed W w.heap.size 30 (.slice none 0 0) ∧ Boxed W (w.heap.size + 1 + 1) 9 (.string (txt L))) ∧ (∀ x ∈ pre, x.e ≠ .head) ∧ Below w.heap.size w W)
    (fun c pre W => (c = .ret ∧ ∃ x ∈ pre, x.e = .head) ∧ Boxed W w.heap.size 30 (.slice none 0 0) ∧ Below w.heap.size w W)
    (OwnFrom.and (Own.from (holdsRow_own w.heap.size (w.heap.size + 1) 30 3 1 (fun pre => (frs pre).length) (fun pre => (frs pre).map intV) (fun _ _ => True)) _) (OwnFrom.and (OwnFrom.and (Own.from (boxed_own _ _ _) _) (Own.from (boxed_own _ _ _) _)) (OwnFrom.and (ownFrom_pure _ (fun pre : List It => ∀ x ∈ pre, x.e ≠ .head)) (ownFrom_below (Nat.le_refl _) (by omega)))))
    (fun c => OwnFrom.and (ownFrom_pure _ (fun pre : List It => c = .ret ∧ ∃ x ∈ pre, x.e = .head)) (OwnFrom.and (Own.from (boxed_own _ _ _) _) (ownFrom_below (Nat.le_refl _) (by omega))))
    ⟨⟨_, bS, World.ownsRow_nil _ _ _ _, trivial⟩, ⟨bR, bN⟩, by simp, hB0⟩
    (fun x a' W => ∃ Bx, w.heap.size + 1 + 1 < Bx ∧ ItBox W Bx x ∧ a' = { tmps := #[.string (txt L), undef, .pointer (some ⟨w.heap.size, 0, none⟩), .pointer (some ⟨w.heap.size + 1, 0, none⟩), .pointer (some ⟨Bx, 0, none⟩), errV h f e x.e, .string (txt L), .func (.func 55) #[] #[.pointer (some ⟨w.heap.size + 1 + 1, 0, none⟩)], .agg #[.int .i64 (x.q : Int), .string (txt x.t), .int .i64 (x.a : Int), .int .i64 (x.b : Int)], errV h f e x.e, undef, undef, undef, undef, undef, undef, undef, undef, undef], defers := [] })
    (fun x a' _ X Y row hs hg hr => by obtain ⟨Bx, h1, h2, h3⟩ := hs; exact ⟨Bx, h1, itBox_own Bx x () X Y row h2 hg (fun r e => (hr r e).2), h3⟩)
    ?assign ?body ?done ?stop
  case assign =>
    rintro l pre x W K ⟨⟨v, hv, hrow, -⟩, ⟨bR1, bN1⟩, hp, hB1⟩ hK
    unfold encI
    generalize errV h f e x.e = ev at *
    gi_wp2
    exact hK _ _ ((KeepsOthers.alloc _ _).from _) ⟨(Below.refl _ W).alloc hB1.size _, Below.heap_alloc W _ _ bN1.lt⟩ ⟨⟨v, hv.alloc _, hrow.alloc _, trivial⟩, ⟨bR1.alloc _, bN1.alloc _⟩, hp, hB1.alloc hB1.size _⟩ ⟨W.heap.size, bN1.lt, World.alloc_heap_new W _, rfl⟩
  case body =>
    rintro l pre x a' W hl ⟨r, hr⟩ ⟨⟨v, hv, hrow, -⟩, ⟨bR1, bN1⟩, hp, hB1⟩ ⟨Bx, hBx, bX, rfl⟩ hlt
    have hE := env3_below E hB1
    have cH : W.cell? ⟨0, 0, none⟩ = some (errAt h) := hE.head.2.2.1
    have HB1 : Hid (Below w.heap.size w W) := hB1
    have hsW := hB1.size
    by_cases hx : x.e = .head
    · have C : Hid (∀ (_ : Unit), _) := fun _ => is_head _ W h f e hE
      have Hx : Hid (x.e = .head) := hx
      rw [hx]
      clear hx hE hB1
      generalize errV h f e .head = ev at *
      have cR := bR1.cell
      have fR := bR1.frozen
      gi_wp2_with fail
      refine ⟨trivial, (CallsIn.inRound l (callsIn_wide.2 (C.out ()))).mono ?_⟩
      rintro e2 w2 ⟨rfl, rfl⟩
      gi_wp2
      exact ⟨(KeepsOthers.setCell _ _ _).from _, ⟨rfl, x, by simp, Hx.out⟩, bR1.set _, HB1.out.setCell (p := ⟨w.heap.size, 0, none⟩) (Nat.le_refl _) _⟩
    · have C : Hid (∀ (_ : Unit), _) := fun _ => is_nohead _ W h f e x.e hx hE
      have Hp : Hid (∀ y ∈ pre ++ [x], y.e ≠ .head) := fun y hy => (List.mem_append.1 hy).elim (hp y) (fun hy => by simp at hy; subst hy; exact hx)
      have cX : W.cell? ⟨Bx, 2, none⟩ = some (.int .i64 (x.a : Int)) := by rw [World.cell?, show W.heap[Bx]? = _ from bX]; rfl
      have hl2 : (frs pre).length + 1 ≤ 1048578 := by have := frs_length pre; omega
      have HS : Hid (_ = _) := frs_snoc pre x
      clear hx hE hB1 hp
      generalize errV h f e x.e = ev at *
      have hc := hv.cell
      gi_wp2_with fail
      refine ⟨trivial, (CallsIn.inRound l (callsIn_wide.2 (C.out ()))).mono ?_⟩
      rintro e2 w2 ⟨rfl, rfl⟩
      gi_wp2_with (gi_at_builtin; refine wpListIn_append_own _ rfl _ _ 30 rfl w.heap.size 3 i0 (.int .i64 0) 1 8 Tryd.underlying30 hi hz0 hz1 hz2 rfl (by decide) _ _ _ rfl (hrow.alloc _) ⟨w2.heap.size, 0, none⟩ 1 1 [.int .i64 (x.a : Int)] rfl rfl (cell_one_new _ _ _) (by simp [Value.oneCell']) (by unfold maxLen; omega) (by omega) (by simp; omega) ?_; intro v' w3 hown' hgrow _; obtain ⟨g', cap', rfl⟩ := ownsRow_succ hown'; obtain ⟨hv1, hv2, hr2, hk2, hb2⟩ := hv.appended (by decide) hrow hsW (by omega) hown' hgrow; have hc1 := hv1.cell; have hf1 := hv1.frozen)
      have bR2 := ((bR1.alloc _).kept hgrow (bR1.not_row (by decide) hrow)).other (B' := w.heap.size + 1) (by omega) (.slice (some ⟨g', 0, none⟩) ((frs pre).length + 1) cap')
      have bN2 := ((bN1.alloc _).kept hgrow (bN1.not_row (by decide) hrow)).other (B' := w.heap.size + 1) (by omega) (.slice (some ⟨g', 0, none⟩) ((frs pre).length + 1) cap')
      exact ⟨hk2.from _, ⟨hb2, bN2.trans bN1.symm⟩, ⟨_, hv2, by rw [HS.out]; simpa [intV] using hr2, trivial⟩, ⟨bR2, bN2⟩, Hp.out, HB1.out.trans hb2⟩
  case done =>
    rintro D ys W hD rfl ⟨⟨v, hv, hrow, -⟩, ⟨bR1, bN1⟩, hp, hB1⟩ hK
    have HSP : Hid (frs (items L) = ints (spots L)) := by
      show _ = _
      by_cases hm : L.take 5 = magic
      · unfold frs; rw [(items_yes L hm).1]
      · exfalso
        have h1 := (items_no L hm).1
        exact hp ⟨0, [], 0, 0, .head⟩ (by rw [h1]; simp) rfl
    obtain ⟨ao, nn, cap, rfl⟩ : ∃ ao nn cap, v = .slice ao nn cap := by
      rcases hrow.2 with ⟨hv, _⟩ | ⟨g, cap, cur, hv, _⟩
      · exact ⟨_, _, _, hv⟩
      · exact ⟨_, _, _, hv⟩
    have hc := hv.cell
    have cR := bR1.cell
    have fR := bR1.frozen
    gi_wp2
    have hK' := (KeepsOthers.setCell W ⟨w.heap.size, 0, none⟩ (.slice ao nn cap)).same D _ hK rfl
    refine ⟨by simp, .inl ⟨_, _, rfl, run_takeDeferred hK', ?_⟩⟩
    have hc5 := cell_kept (World.cell?_setCell_same' W ⟨w.heap.size, 0, none⟩ (.slice ao nn cap) (by rw [cR]; rfl)) (grownBy_putObj' _ D (.deferred none)) (fun r e => by cases e; exact ⟨_, hK', rfl⟩)
    have hrow2 := ownsRow_putObj (hrow.kept (grownBy_setCell' W w.heap.size (.slice ao nn cap)) (.inr (bR1.not_row (by decide) hrow).symm)) (.deferred none) hK' rfl
    refine ⟨.slice ao nn cap, ?_, _, rfl, ?_, (hB1.setCell (p := ⟨w.heap.size, 0, none⟩) (Nat.le_refl _) _).trans (belowK_b (w := w) (Nat.le_refl _) _ D _ _ (by omega) hK' rfl rfl)⟩
    · simp [results, Tryd.f14, go_sem, hc5]
    · rw [← HSP.out]; exact hrow2
  case stop =>
    rintro D c pre W hD hpre ⟨⟨rfl, x, hxm, hxe⟩, bR1, hB1⟩ hK
    have HSP : Hid (spots L = []) := by
      show _ = _
      by_cases hm : L.take 5 = magic
      · exact absurd hxe ((items_yes L hm).2 x (hpre.subset hxm))
      · exact (items_no L hm).2
    have cR := bR1.cell
    gi_wp2
    refine ⟨by simp, .inl ⟨_, _, rfl, run_takeDeferred hK, ?_⟩⟩
    have hc5 := cell_kept cR (grownBy_putObj' _ D (.deferred none)) (fun r e => by cases e; exact ⟨_, hK, rfl⟩)
    refine ⟨.slice none 0 0, ?_, _, rfl, ?_, hB1.trans (belowK_b (w := w) (Nat.le_refl _) W D _ _ (by omega) hK rfl rfl)⟩
    · simp [results, Tryd.f14, go_sem, hc5]
    · rw [HSP.out]; exact ownI_nil _ _

end Go.Proofs.YthagjamgmlbhkaaDoor
