/- What impl.payloadsOf and impl.ReadLog answer, at every text of at most 2^20 bytes, where the table and the errors lie as the program's text lays them. -/
import Derived.Test.YthagjamgmlbhkaaDoorCodeWalks
import Derived.Test.YthagjamgmlbhkaaDoorISpotsWalks
import Derived.Test.YthagjamgmlbhkaaDoorOwnS
namespace Go.Proofs.YthagjamgmlbhkaaDoor
open Go.RowKit Go.Shelf
set_option linter.unusedVariables false
attribute [local go_sem] Oper.semAt_some

/-- What is answered behind the items that have come: the payloads, and why there are none. -/
def psO (N : Nat) (pre : List It) : List (List UInt8) := ((res [] pre N).getD ([], none)).1
def kO (N : Nat) (pre : List It) : Option E5 := ((res [] pre N).getD ([], none)).2
def tsI (pre : List It) : List (List UInt8) := pre.map (·.t)
theorem tsI_snoc (pre : List It) (x : It) : tsI (pre ++ [x]) = tsI pre ++ [x.t] := by simp [tsI]
theorem tsI_length (pre : List It) : (tsI pre).length = pre.length := by simp [tsI]
theorem psO_some {N : Nat} {pre : List It} {ps : List (List UInt8)} {k : Option E5} (h : res [] pre N = some (ps, k)) : psO N pre = ps ∧ kO N pre = k ∧ (res [] pre N).isSome = true := by
  unfold psO kO; rw [h]; exact ⟨rfl, rfl, rfl⟩
theorem res_next {N : Nat} {pre : List It} (x : It) (h : res [] pre N = none) : res [] (pre ++ [x]) N = stpI (tsI pre) x N := by
  have := res_snoc N x pre [] h
  simpa [tsI] using this
theorem ownsRow_set {W : World} {base b : Nat} {e t : TypeId} {size : Nat} {v u u' : Value} {k : Nat} {xs : List Value} (h : W.ownsRow base e size v k xs) (hb : Boxed W b t u) (hte : t ≠ e) : (W.setCell ⟨b, 0, none⟩ u').ownsRow base e size v k xs :=
  h.kept (grownBy_setCell' W b u') (.inr (hb.not_row hte h).symm)

/-- Between two rounds: the payloads so far lie in the list's box; nothing is answered yet. -/
def InvP (w : World) (L : List UInt8) (pre : List It) (W : World) : Prop := (∃ v, Boxed W (w.heap.size + 1 + 1 + 1) 24 v ∧ W.ownsRow (w.heap.size + 5) 9 1 v (tsI pre).length ((tsI pre).map strV) ∧ True) ∧ ((Boxed W (w.heap.size + 1) 24 (.slice none 0 0) ∧ Boxed W (w.heap.size + 1 + 1) 51 .nilIface) ∧ (Boxed W w.heap.size 9 (.string (txt L)) ∧ Boxed W (w.heap.size + 1 + 1 + 1 + 1) 9 (.string (txt L)))) ∧ res [] pre L.length = none ∧ Below w.heap.size w W
/-- A round has answered. -/
def OutP (w : World) (L : List UInt8) (ad : E5 → Addr) (c : Code) (pre : List It) (W : World) : Prop := (c = .ret ∧ (res [] pre L.length).isSome = true) ∧ (∃ v, Boxed W (w.heap.size + 1) 24 v ∧ W.ownsRow w.heap.size 9 1 v (psO L.length pre).length ((psO L.length pre).map strV) ∧ True) ∧ Boxed W (w.heap.size + 1 + 1) 51 (errW ad (kO L.length pre)) ∧ Below w.heap.size w W
theorem invP_own (w : World) (L : List UInt8) (B : Nat) (hB : w.heap.size ≤ B) : OwnFrom B (InvP w L) :=
  OwnFrom.and (Own.from (holdsRow_own (w.heap.size + 5) (w.heap.size + 1 + 1 + 1) 24 9 1 (fun pre => (tsI pre).length) (fun pre => (tsI pre).map strV) (fun _ _ => True)) _) (OwnFrom.and (OwnFrom.and (OwnFrom.and (Own.from (boxed_own _ _ _) _) (Own.from (boxed_own _ _ _) _)) (OwnFrom.and (Own.from (boxed_own _ _ _) _) (Own.from (boxed_own _ _ _) _))) (OwnFrom.and (ownFrom_pure _ (fun pre : List It => res [] pre L.length = none)) (ownFrom_below (Nat.le_refl _) hB)))
theorem outP_own (w : World) (L : List UInt8) (ad : E5 → Addr) (c : Code) (B : Nat) (hB : w.heap.size ≤ B) : OwnFrom B (OutP w L ad c) :=
  OwnFrom.and (ownFrom_pure _ (fun pre : List It => c = .ret ∧ (res [] pre L.length).isSome = true)) (OwnFrom.and (Own.from (holdsRow_own w.heap.size (w.heap.size + 1) 24 9 1 (fun pre => (psO L.length pre).length) (fun pre => (psO L.length pre).map strV) (fun _ _ => True)) _) (OwnFrom.and (Own.from (boxed_own _ _ (fun pre => errW ad (kO L.length pre))) _) (ownFrom_below (Nat.le_refl _) hB)))
theorem outP_mk {w : World} {L : List UInt8} {ad : E5 → Addr} {pre : List It} {W : World} {v : Value} {ps : List (List UInt8)} {k : Option E5} (h : res [] pre L.length = some (ps, k)) (h1 : Boxed W (w.heap.size + 1) 24 v) (h2 : W.ownsRow w.heap.size 9 1 v ps.length (ps.map strV)) (h3 : Boxed W (w.heap.size + 1 + 1) 51 (errW ad k)) (h4 : Below w.heap.size w W) : OutP w L ad .ret pre W := by
  obtain ⟨e1, e2, e3⟩ := psO_some h
  refine ⟨⟨rfl, e3⟩, ⟨v, h1, ?_, trivial⟩, ?_, h4⟩
  · rw [e1]; exact h2
  · rw [e2]; exact h3
theorem ownsRow_mono {W : World} {B C : Nat} {e : TypeId} {size : Nat} {v : Value} {k : Nat} {xs : List Value} (h : W.ownsRow B e size v k xs) (hC : C ≤ B) : W.ownsRow C e size v k xs := by
  rcases h with ⟨h1, h2 | ⟨g, cap, cur, h2, h3, h4⟩⟩
  · exact ⟨h1, .inl h2⟩
  · exact ⟨h1, .inr ⟨g, cap, cur, h2, by omega, h4⟩⟩
theorem not_row_low {W : World} {B b : Nat} {e : TypeId} {size : Nat} {v : Value} {k : Nat} {xs : List Value} (h : W.ownsRow B e size v k xs) (hb : b < B) : some b ≠ v.ownBlock := by
  intro he
  have := (h.lt b he.symm).1
  omega
/-- Two stores into the boxes of the answer. -/
theorem below_two {n b c : Nat} {w W : World} (h : Below n w W) (hb : n ≤ b) (hc : n ≤ c) (u v : Value) : Below n w ((W.setCell ⟨b, 0, none⟩ u).setCell ⟨c, 0, none⟩ v) :=
  (h.setCell (p := ⟨b, 0, none⟩) hb u).setCell (p := ⟨c, 0, none⟩) hc v
theorem keeps_two (W : World) (b c : Addr) (u v : Value) : KeepsOthers W ((W.setCell b u).setCell c v) := (KeepsOthers.setCell _ _ _).trans (KeepsOthers.setCell _ _ _)

set_option maxRecDepth 100000 in
set_option maxHeartbeats 4000000 in
theorem payloadsOf_calls (L : List UInt8) (ad : E5 → Addr) (w : World) (hs : L.length ≤ 1048576) (E : Env5 w.heap.size w ad) :
    Calls Tryd.prog 35 #[.string (txt L)] w fun r W' => ∃ v k, r = .returned (.tuple #[v, errW ad k]) ∧ ownS W' w.heap.size v (rdL L).1 ∧ (rdL L).2 = code k ∧ Below w.heap.size w W' := by
  obtain ⟨i0, hi, hz0, hz1, hz2⟩ := info_parts infoS
  have hIL := items_length L
  have hls : (txt L).size = L.length := rfl
  refine (callsIn_wide (n := 5)).1 ?_
  refine callsIn_of_wp_marks Tryd.func35 rfl trivial ?_ rfl
  simp only [Tryd.ntmps35, List.size_toArray, List.length_cons, List.length_nil, Nat.reduceAdd, Nat.reduceSub, Array.replicate_succ, Array.replicate_zero, List.push_toArray, List.append_toArray, List.nil_append, List.cons_append]
  gi_wp2_with fail
  refine ⟨trivial, (framesOf_calls _ _ _).mono ?_⟩
  rintro e1 w1 ⟨rfl, rfl⟩
  gi_wp2
  obtain ⟨W0, hW0⟩ : ∃ W0, ((((w.alloc (.cells #[.string (txt L)] 9)).alloc (.cells #[.slice none 0 0] 24)).alloc (.cells #[.nilIface] 51)).alloc (.cells #[.slice none 0 0] 24)).alloc (.cells #[.string (txt L)] 9) = W0 := ⟨_, rfl⟩
  have bL : Boxed W0 w.heap.size 9 (.string (txt L)) := by rw [← hW0]; exact ((((Boxed.new w _ _).alloc _).alloc _).alloc _).alloc _
  have bR : Boxed W0 (w.heap.size + 1) 24 (.slice none 0 0) := by
    rw [← hW0]; have h := (((Boxed.new (w.alloc (.cells #[.string (txt L)] 9)) 24 (.slice none 0 0)).alloc (.cells #[.nilIface] 51)).alloc (.cells #[.slice none 0 0] 24)).alloc (.cells #[.string (txt L)] 9)
    simpa only [World.size_alloc] using h
  have bX : Boxed W0 (w.heap.size + 1 + 1) 51 .nilIface := by
    rw [← hW0]; have h := ((Boxed.new ((w.alloc (.cells #[.string (txt L)] 9)).alloc (.cells #[.slice none 0 0] 24)) 51 .nilIface).alloc (.cells #[.slice none 0 0] 24)).alloc (.cells #[.string (txt L)] 9)
    simpa only [World.size_alloc] using h
  have bS : Boxed W0 (w.heap.size + 1 + 1 + 1) 24 (.slice none 0 0) := by
    rw [← hW0]; have h := (Boxed.new (((w.alloc (.cells #[.string (txt L)] 9)).alloc (.cells #[.slice none 0 0] 24)).alloc (.cells #[.nilIface] 51)) 24 (.slice none 0 0)).alloc (.cells #[.string (txt L)] 9)
    simpa only [World.size_alloc] using h
  have bN : Boxed W0 (w.heap.size + 1 + 1 + 1 + 1) 9 (.string (txt L)) := by
    rw [← hW0]; have h := Boxed.new ((((w.alloc (.cells #[.string (txt L)] 9)).alloc (.cells #[.slice none 0 0] 24)).alloc (.cells #[.nilIface] 51)).alloc (.cells #[.slice none 0 0] 24)) 9 (.string (txt L))
    simpa only [World.size_alloc] using h
  have hB0 : Below w.heap.size w W0 := by
    rw [← hW0]; exact (((((Below.refl _ w).alloc (Nat.le_refl _) _).alloc (by simp) _).alloc (by simp; omega) _).alloc (by simp; omega) _).alloc (by simp; omega) _
  have hsz : W0.heap.size = w.heap.size + 5 := by rw [← hW0]; simp
  rw [hW0]
  clear hW0
  have hE0 := (env5_below E hB0).three
  have N : Hid (L.length = L.length) := rfl
  refine wpIn_rangeFunc_ownH rfl (by omega) (gf := 55) (lb := #[.pointer (some ⟨w.heap.size + 1 + 1 + 1 + 1, 0, none⟩)]) rfl trivial (enters_of Tryd.func55 (by kernel_rfl) rfl)
    (frames_stops _ (w.heap.size + 1 + 1 + 1 + 1) w.heap.size (ad .head) (ad .frame) (ad .fin) L hs (by omega) W0 bN.cell (by omega) hE0) kpB_t (kpB_b (by omega) (by omega)) (Below.refl _ _) (fun _ => rfl)
    (InvP w L)
    (OutP w L ad)
    (invP_own w L _ (by omega))
    (fun c => outP_own w L ad c _ (by omega))
    ⟨⟨_, bS, World.ownsRow_nil _ _ _ _, trivial⟩, ⟨⟨bR, bX⟩, bL, bN⟩, rfl, hB0⟩
    (fun x a' W => ∃ Bx, w.heap.size + 1 + 1 + 1 + 1 < Bx ∧ ItBox W Bx x ∧ a' = { tmps := #[.string (txt L), .pointer (some ⟨w.heap.size, 0, none⟩), .pointer (some ⟨w.heap.size + 1, 0, none⟩), .pointer (some ⟨w.heap.size + 1 + 1, 0, none⟩), .pointer (some ⟨w.heap.size + 1 + 1 + 1, 0, none⟩), .pointer (some ⟨Bx, 0, none⟩), errV (ad .head) (ad .frame) (ad .fin) x.e, .string (txt L), .func (.func 55) #[] #[.pointer (some ⟨w.heap.size + 1 + 1 + 1 + 1, 0, none⟩)], .agg #[.int .i64 (x.q : Int), .string (txt x.t), .int .i64 (x.a : Int), .int .i64 (x.b : Int)], errV (ad .head) (ad .frame) (ad .fin) x.e, undef, undef, undef, undef, undef, undef, undef, undef, undef, undef, undef, undef, undef, undef, undef, undef, undef, undef, undef, undef, undef, undef, undef, undef, undef, undef, undef, undef, undef], defers := [] })
    (fun x a' _ X Y row hs hg hr => by obtain ⟨Bx, h1, h2, h3⟩ := hs; exact ⟨Bx, h1, itBox_own Bx x () X Y row h2 hg (fun r e => (hr r e).2), h3⟩)
    ?assign ?body ?done ?stop
  case assign =>
    rintro l pre x W K ⟨⟨v, hv, hrow, -⟩, ⟨⟨bR1, bX1⟩, bL1, bN1⟩, hp, hB1⟩ hK
    unfold encI
    generalize errV (ad .head) (ad .frame) (ad .fin) x.e = ev at *
    gi_wp2
    exact hK _ _ ((KeepsOthers.alloc _ _).from _) ⟨(Below.refl _ W).alloc hB1.size _, Below.heap_alloc W _ _ bN1.lt⟩ ⟨⟨v, hv.alloc _, hrow.alloc _, trivial⟩, ⟨⟨bR1.alloc _, bX1.alloc _⟩, bL1.alloc _, bN1.alloc _⟩, hp, hB1.alloc hB1.size _⟩ ⟨W.heap.size, bN1.lt, World.alloc_heap_new W _, rfl⟩
  case body =>
    rintro l pre ⟨q, t, a, b, ek⟩ a' W hl ⟨r, hr⟩ ⟨⟨v, hv, hrow, -⟩, ⟨⟨bR1, bX1⟩, bL1, bN1⟩, hp, hB1⟩ ⟨Bx, hBx, bI, rfl⟩ hlt
    have HB1 : Hid (Below w.heap.size w W) := hB1
    have HE : Hid (Env5 w.heap.size W ad) := env5_below E hB1
    have hsW := hB1.size
    have hsW5 : w.heap.size + 5 ≤ W.heap.size := by have := bN1.lt; omega
    have HN : Hid (∀ x : It, res [] (pre ++ [x]) L.length = stpI (tsI pre) x L.length) := fun x => res_next x hp
    have cR := bR1.cell
    have fR := bR1.frozen
    have cX := bX1.cell
    have fX := bX1.frozen
    clear hp hB1
    rw [errV_why]
    cases hw : ek.why with
    | some r5 =>
      have HS : Hid (_ = _) := (HN.out ⟨q, t, a, b, ek⟩).trans (stpI_why (tsI pre) _ _ r5 hw)
      clear hw
      rw [show errW ad (some r5) = errAt (ad r5) from rfl]
      gi_wp2
      exact ⟨(keeps_two _ _ _ _ _).from _, outP_mk HS.out ((bR1.set _).other (by omega) _) (World.ownsRow_nil _ _ _ _) ((bX1.other (by omega) _).set _) (below_two HB1.out (by omega) (by omega) _ _)⟩
    | none =>
      rw [show errW ad none = .nilIface from rfl]
      obtain ⟨ao, cap, rfl⟩ : ∃ ao cap, v = .slice ao (tsI pre).length cap := by
        rcases hrow.2 with ⟨hv, h0⟩ | ⟨g, cap, cur, hv, _⟩
        · exact ⟨none, 0, by rw [hv, h0]⟩
        · exact ⟨_, _, hv⟩
      have hc := hv.cell
      have cI : ∀ j, W.cell? ⟨Bx, j, none⟩ = (#[.int .i64 (q : Int), .string (txt t), .int .i64 (a : Int), .int .i64 (b : Int)] : Array Value)[j]? := fun j => by rw [World.cell?, show W.heap[Bx]? = _ from bI]; rfl
      have cq : W.cell? ⟨Bx, 0, none⟩ = some (.int .i64 (q : Int)) := cI 0
      have ct : W.cell? ⟨Bx, 1, none⟩ = some (.string (txt t)) := cI 1
      have cb : W.cell? ⟨Bx, 3, none⟩ = some (.int .i64 (b : Int)) := cI 3
      have cL := bL1.cell
      have HTL := tsI_length pre
      by_cases hq : q = (tsI pre).length
      · have hmx : Tryd.prog.follows .mixedOrders = true := by kernel_rfl
        have HQ : Hid (q = (tsI pre).length) := hq
        have HTL2 : Hid (_ = _) := HTL
        have hn : (tsI pre).length + 1 ≤ 1048578 := by omega
        clear HTL
        by_cases ht : t = []
        · have ct2 : W.cell? ⟨Bx, 1, none⟩ = some (.string ⟨#[]⟩) := by rw [ct, ht]; rfl
          by_cases hb : b < L.length
          · have HS : Hid (_ = _) := (HN.out ⟨q, t, a, b, ek⟩).trans (stpI_more (tsI pre) ⟨q, t, a, b, ek⟩ L.length hw hq ht hb)
            have cE : W.cell? ⟨2, 0, none⟩ = some (errAt (ad .more)) := (HE.out.err .more).2.2.1
            have hg : gv .more < w.heap.size := (HE.out.err .more).1
            simp only [gv] at hg
            clear hw cI ht ct
            rw [hq] at cq
            clear hq
            generalize (tsI pre).length = n at *
            gi_wp2
            generalize hR1 : w.heap.size + 1 = R1 at *
            have hne : ¬ (2 = R1) := by omega
            gi_region_with_o (fail)
            all_goals
              clear hne
              subst hR1
              gi_wp2
              exact ⟨((KeepsOthers.drew _).trans (keeps_two _ _ _ _ _)).from _, outP_mk HS.out (((show Boxed W.drew _ _ _ from bR1).set _).other (by omega) _) (World.ownsRow_nil _ _ _ _) (((show Boxed W.drew _ _ _ from bX1).other (by omega) _).set _) (below_two HB1.out.drew (by omega) (by omega) _ _)⟩
          · have HS : Hid (_ = _) := (HN.out ⟨q, t, a, b, ek⟩).trans (stpI_last (tsI pre) ⟨q, t, a, b, ek⟩ L.length hw hq ht hb)
            clear hw cI ht ct
            rw [hq] at cq
            clear hq
            have HR : Hid (W.ownsRow w.heap.size 9 1 (.slice ao (tsI pre).length cap) (tsI pre).length ((tsI pre).map strV)) := ownsRow_mono hrow (by omega)
            clear hrow
            obtain ⟨n, hnn⟩ : ∃ n, (tsI pre).length = n := ⟨_, rfl⟩
            have Hnn : Hid ((tsI pre).length = n) := hnn
            rw [hnn] at cq hc hv hn
            clear hnn
            gi_wp2
            have HR2 := HR.out
            have bR2 : Boxed (W.setCell ⟨w.heap.size + 1, 0, none⟩ (.slice ao n cap)) (w.heap.size + 1) 24 (.slice ao n cap) := bR1.set _
            have bX2 : Boxed (W.setCell ⟨w.heap.size + 1, 0, none⟩ (.slice ao n cap)) (w.heap.size + 1 + 1) 51 .nilIface := bX1.other (by omega) _
            refine ⟨(keeps_two _ _ _ _ _).from _, outP_mk (v := .slice ao n cap) HS.out (bR2.other (by omega) _) ?_ (bX2.set _) (below_two HB1.out (by omega) (by omega) _ _)⟩
            rw [← Hnn.out] at bR2 bX2 ⊢
            exact ownsRow_set (ownsRow_set HR2 bR1 (by decide)) bX2 (by decide)
        · have HS : Hid (_ = _) := (HN.out ⟨q, t, a, b, ek⟩).trans (stpI_on (tsI pre) ⟨q, t, a, b, ek⟩ L.length hw hq ht)
          have HT : Hid (_ = _) := tsI_snoc pre ⟨q, t, a, b, ek⟩
          have ht2 : ((txt t).toList == []) = false := by
            rw [beq_eq_false_iff_ne]; unfold txt; rw [ByteArray.toList_mk]; exact ht
          clear hw cI ht
          rw [hq] at cq
          clear hq
          gi_wp2_with (gi_at_builtin; refine wpListIn_append_own _ rfl _ _ 24 rfl (w.heap.size + 5) 9 i0 (.string (txt [])) 1 16 Tryd.underlying24 hi hz0 hz1 hz2 rfl (by decide) _ _ _ rfl (hrow.alloc _) ⟨W.heap.size, 0, none⟩ 1 1 [.string (txt t)] rfl rfl (cell_one_new _ _ _) (by simp [Value.oneCell']) (by unfold maxLen; omega) (by omega) (by simp; omega) ?_; intro v' w3 hown' hgrow _; obtain ⟨g', cap', rfl⟩ := ownsRow_succ hown'; obtain ⟨hv1, hv2, hr2, hk2, hb2⟩ := hv.appended (n₀ := w.heap.size) (by decide) (ownsRow_mono hrow (by omega)) (by omega) (by omega) (ownsRow_mono hown' (by omega)) hgrow; have hc1 := hv1.cell; have hf1 := hv1.frozen)
          have kp : ∀ {b : Nat} {t : TypeId} {u : Value}, Boxed W b t u → b < w.heap.size + 5 → b ≠ w.heap.size + 1 + 1 + 1 → Boxed (w3.setCell ⟨w.heap.size + 1 + 1 + 1, 0, none⟩ (.slice (some ⟨g', 0, none⟩) ((tsI pre).length + 1) cap')) b t u := fun hb hlt hne => ((hb.alloc _).kept hgrow (not_row_low hrow hlt)).other hne _
          have hr3 : (w3.setCell ⟨w.heap.size + 1 + 1 + 1, 0, none⟩ (.slice (some ⟨g', 0, none⟩) ((tsI pre).length + 1) cap')).ownsRow (w.heap.size + 5) 9 1 (.slice (some ⟨g', 0, none⟩) ((tsI pre).length + 1) cap') ((tsI pre).length + 1) ((tsI pre).map strV ++ [.string (txt t)]) := ownsRow_set hown' hv1 (by decide)
          have hN2 := kp bN1 (by omega) (by omega)
          refine ⟨hk2.from _, ⟨hb2, hN2.trans bN1.symm⟩, ⟨_, hv2, ?_, trivial⟩, ⟨⟨kp bR1 (by omega) (by omega), kp bX1 (by omega) (by omega)⟩, kp bL1 (by omega) (by omega), hN2⟩, HS.out, HB1.out.trans hb2⟩
          rw [HT.out]
          simpa [strV] using hr3
      · have HS : Hid (_ = _) := (HN.out ⟨q, t, a, b, ek⟩).trans (stpI_seq (tsI pre) ⟨q, t, a, b, ek⟩ L.length hw hq)
        have hq2 : ((q : Int) == ((tsI pre).length : Int)) = false := by rw [beq_eq_false_iff_ne]; omega
        have cE : W.cell? ⟨1, 0, none⟩ = some (errAt (ad .seq)) := (HE.out.err .seq).2.2.1
        have HTL2 : Hid (_ = _) := HTL
        clear hw HTL hq cI
        generalize (tsI pre).length = n at *
        have hmx : Tryd.prog.follows .mixedOrders = true := by kernel_rfl
        have hg : gv .seq < w.heap.size := (HE.out.err .seq).1
        simp only [gv] at hg
        gi_wp2
        generalize hR1 : w.heap.size + 1 = R1 at *
        have hne : ¬ (1 = R1) := by omega
        gi_region_with_o (fail)
        all_goals
          clear hne
          subst hR1
          gi_wp2
          exact ⟨((KeepsOthers.drew _).trans (keeps_two _ _ _ _ _)).from _, outP_mk HS.out (((show Boxed W.drew _ _ _ from bR1).set _).other (by omega) _) (World.ownsRow_nil _ _ _ _) (((show Boxed W.drew _ _ _ from bX1).other (by omega) _).set _) (below_two HB1.out.drew (by omega) (by omega) _ _)⟩
  case done =>
    rintro D ys W hD rfl ⟨_, _, hp, _⟩ hK
    obtain ⟨k, hk, _⟩ := res_items L
    rw [hk] at hp
    cases hp
  case stop =>
    rintro D c pre W hD hpre ⟨⟨rfl, hsome⟩, ⟨v, bR1, hrow, -⟩, bX1, hB1⟩ hK
    obtain ⟨k, hk, hcode⟩ := res_items L
    obtain ⟨⟨ps, k2⟩, hr⟩ := Option.isSome_iff_exists.1 hsome
    obtain ⟨ys, hys⟩ := hpre
    have h3 := res_prefix L.length ys _ pre [] hr
    rw [hys, hk] at h3
    simp only [Option.some.injEq, Prod.mk.injEq] at h3
    obtain ⟨e1, e2, _⟩ := psO_some hr
    rw [e1, ← h3.1] at hrow
    rw [e2, ← h3.2] at bX1
    have HCD : Hid (_ = _) := hcode
    clear h3 e1 e2 hcode hk hr hys hsome
    obtain ⟨ao, nn, cap, rfl⟩ : ∃ ao nn cap, v = .slice ao nn cap := by
      rcases hrow.2 with ⟨hv, _⟩ | ⟨g, cap, cur, hv, _⟩
      · exact ⟨_, _, _, hv⟩
      · exact ⟨_, _, _, hv⟩
    have cR := bR1.cell
    have cX := bX1.cell
    gi_wp2
    refine ⟨by simp, .inl ⟨_, _, rfl, run_takeDeferred hK, ?_⟩⟩
    have hc5 := cell_kept cR (grownBy_putObj' _ D (.deferred none)) (fun r e => by cases e; exact ⟨_, hK, rfl⟩)
    have hc6 := cell_kept cX (grownBy_putObj' _ D (.deferred none)) (fun r e => by cases e; exact ⟨_, hK, rfl⟩)
    refine ⟨.tuple #[.slice ao nn cap, errW ad k], ?_, _, _, rfl, ownsRow_putObj hrow (.deferred none) hK rfl, HCD.out, hB1.trans (belowK_b (w := w) (Nat.le_refl _) W D _ _ (by omega) hK rfl rfl)⟩
    simp [results, Tryd.f35, go_sem, hc5, hc6]

theorem iReadLog_calls (L : List UInt8) (ad : E5 → Addr) (w : World) (hs : L.length ≤ 1048576) (E : Env5 w.heap.size w ad) :
    Calls Tryd.prog 12 #[.string (txt L)] w fun r W' => ∃ v, r = .returned (.tuple #[v, .int .i64 ((rdL L).2 : Int)]) ∧ ownS W' w.heap.size v (rdL L).1 ∧ Below w.heap.size w W' := by
  have CP : Hid (∀ (_ : Unit), _) := fun _ => payloadsOf_calls L ad w hs E
  have HE : Hid (Env5 w.heap.size w ad) := E
  clear E
  generalize rdL L = R at *
  go_enter Tryd.func12, Tryd.ntmps12
  go_wp2_with fail
  refine (CP.out ()).mono ?_
  rintro r w1 ⟨v, k, rfl, hown, hcode, hb⟩
  have HO : Hid (ownS w1 w.heap.size v R.1) := hown
  have HC : Hid (R.2 = code k) := hcode
  have CC : Hid (∀ (_ : Unit), _) := fun _ => logCode_calls _ w1 ad (env5_below HE.out hb) k
  clear hown hcode
  generalize errW ad k = ev at *
  go_wp2_with fail
  refine (CC.out ()).mono ?_
  rintro r w2 ⟨rfl, rfl⟩
  go_wp2
  go_ret2
  exact ⟨v, by rw [HC.out]; rfl, HO.out, hb⟩

end Go.Proofs.YthagjamgmlbhkaaDoor
