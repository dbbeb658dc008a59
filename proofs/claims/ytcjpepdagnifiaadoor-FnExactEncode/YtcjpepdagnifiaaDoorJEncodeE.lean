/- What the specification's ShowEvent answers. -/
import Derived.Test.YtcjpepdagnifiaaDoorJEncodeD
import Derived.Test.YtcjpepdagnifiaaDoorWire2Walks
import Derived.Test.YtcjpepdagnifiaaDoorPenBase
import Derived.Test.YtcjpepdagnifiaaDoorOpBase
import Derived.Test.YtcjpepdagnifiaaDoorAnyOps
namespace Go.Proofs.YtcjpepdagnifiaaDoor
open Go.RowKit
set_option linter.unusedVariables false
set_option maxRecDepth 100000

def KStr (X : World) (v : Value) : Prop := v = .string (txt [])
theorem kstr_mono (X Y : World) (v : Value) (h : KStr X v) (hb : Below X.heap.size X Y) : KStr Y v := h
theorem opConst {t : Tmp} {ty : TypeId} {pos : String} {af : Array Edge} {a : Act} {X : World} {K : Act → World → Prop} {Q : Exit → Act → World → Prop} {v : Value} (hK : K (a.put (some t) v) X) :
    Oper.wp Tryd.prog ⟨some t, .assign (.const v), ty, pos, af, none⟩ a X K Q := by
  go_simp; exact hK

theorem opFieldAns {t i : Tmp} {ty : TypeId} {pos : String} {af : Array Edge} {a : Act} {X : World} {K : Act → World → Prop} {Q : Exit → Act → World → Prop} {g : Nat} (k : Nat) (hk : k < 3) (h1 : a.eval (.tmp i) = .pointer (some ⟨g, 0, none⟩)) (hK : K (a.put (some t) (.pointer (some ⟨g, k, none⟩))) X) :
    Oper.wp Tryd.prog ⟨some t, .fieldAddr 30 (.tmp i) k, ty, pos, af, none⟩ a X K Q := by
  have h := ev_tmp h1
  match k, hk with
  | 0, _ => go_simp; exact hK
  | 1, _ => go_simp; exact hK
  | 2, _ => go_simp; exact hK
theorem opSubV {t i j : Tmp} {ty : TypeId} {pos : String} {af : Array Edge} {a : Act} {X : World} {K : Act → World → Prop} {Q : Exit → Act → World → Prop} {x y z : Int} (hz : wrap64 (x - y) = z) (h1 : a.eval (.tmp i) = .int .i64 x) (h2 : a.eval (.tmp j) = .int .i64 y) (hK : K (a.put (some t) (.int .i64 z)) X) :
    Oper.wp Tryd.prog ⟨some t, .binOp .sub 3 (.tmp i) (.tmp j) 3, ty, pos, af, none⟩ a X K Q := by
  have e1 := ev_tmp h1
  have e2 := ev_tmp h2
  have e : IntKind.i64.wrap (x - y) = z := by rw [← hz, IntKind.wrap_i64]; simp only [wrap64]
  go_simp; exact hK
theorem opAddStr {t i j : Tmp} {ty : TypeId} {pos : String} {af : Array Edge} {a : Act} {X : World} {K : Act → World → Prop} {Q : Exit → Act → World → Prop} {x y : ByteArray} (hs : x.size + y.size ≤ 9223372036854775807) (h1 : a.eval (.tmp i) = .string x) (h2 : a.eval (.tmp j) = .string y) (hK : K (a.put (some t) (.string (x ++ y))) X) :
    Oper.wp Tryd.prog ⟨some t, .binOp .add 9 (.tmp i) (.tmp j) 9, ty, pos, af, none⟩ a X K Q := by
  have e1 := ev_tmp h1
  have e2 := ev_tmp h2
  have hs' : ¬ 9223372036854775807 < x.size + y.size := Nat.not_lt.2 hs
  go_simp; exact hK
theorem opLenI {t i : Tmp} {ty : TypeId} {pos : String} {af : Array Edge} {a : Act} {X : World} {K : Act → World → Prop} {Q : Exit → Act → World → Prop} {x : Option Addr} {n c : Nat} (h1 : a.eval (.tmp i) = .slice x n c) (hK : K (a.put (some t) (.int .i64 (n : Int))) X) :
    Oper.wp Tryd.prog ⟨some t, .call { callee := .builtin .len, args := #[.tmp i], argTypes := #[28] }, ty, pos, af, none⟩ a X K Q := by
  have h := ev_tmp h1
  go_simp; exact hK
theorem opAssignT {t i : Tmp} {ty : TypeId} {pos : String} {af : Array Edge} {a : Act} {X : World} {K : Act → World → Prop} {Q : Exit → Act → World → Prop} {v : Value} (h1 : a.eval (.tmp i) = v) (hK : K (a.put (some t) v) X) :
    Oper.wp Tryd.prog ⟨some t, .assign (.tmp i), ty, pos, af, none⟩ a X K Q := by
  have h := ev_tmp h1
  go_simp; exact hK
theorem opShowInt {t i : Tmp} {ty : TypeId} {pos : String} {af : Array Edge} {ats : Array TypeId} {a : Act} {X : World} {K : Act → World → Prop} {Q : Exit → Act → World → Prop} {u : Value} {post : Ending → World → Prop} (h1 : a.eval (.tmp i) = u) (hC : Calls Tryd.prog 54 #[u] X post) (hK : ∀ e w', post e w' → ∃ x, e = .returned x ∧ K (a.put (some t) x) w') :
    Oper.wp Tryd.prog ⟨some t, .call { callee := .value (.func 54), args := #[.tmp i], argTypes := ats }, ty, pos, af, none⟩ a X K Q := by
  have e1 := ev_tmp h1
  go_simp
  refine hC.mono (fun e w' hp => ?_)
  obtain ⟨x, rfl, hx⟩ := hK e w' hp
  exact hx
theorem opVar {t i : Tmp} {ty : TypeId} {pos : String} {af : Array Edge} {ats : Array TypeId} {a : Act} {X : World} {K : Act → World → Prop} {Q : Exit → Act → World → Prop} {u : Value} {post : Ending → World → Prop} (h1 : a.eval (.tmp i) = u) (hC : Calls Tryd.prog 49 #[u] X post) (hK : ∀ e w', post e w' → ∃ x, e = .returned x ∧ K (a.put (some t) x) w') :
    Oper.wp Tryd.prog ⟨some t, .call { callee := .value (.func 49), args := #[.tmp i], argTypes := ats }, ty, pos, af, none⟩ a X K Q := by
  have e1 := ev_tmp h1
  go_simp
  refine hC.mono (fun e w' hp => ?_)
  obtain ⟨x, rfl, hx⟩ := hK e w' hp
  exact hx

set_option maxHeartbeats 4000000 in
theorem sShowEvent_calls (v va : Value) (P : PenD) (o : OpD) (A : AnsD) (w : World) (hP : RdP w v P) (hA : RdA w va A) (hs : SmallP P) (hx0 : o.site.length ≤ 1048576) (hso : SaneOp o) (hnf : A.freed.length ≤ 1048576) (q : Bool) (hq : q = true ↔ EvR P o A) :
    Calls Tryd.prog 28 #[v, opV o, va] w fun e w' => ∃ u, e = .returned (.tuple #[.string (txt (if q then evT P o A else [])), u]) ∧ OwnP w' w.heap.size u (if q then penB P o else P) ∧ Below w.heap.size w w' := by
  obtain ⟨sa, sc, rfl, rs⟩ := hP
  obtain ⟨fa, fc, rfl, rf⟩ := hA
  obtain ⟨W, hW⟩ : ∃ W, W = (((w.alloc (.cells #[.int .i64 P.last, .slice sa P.sites.length sc] 31)).alloc (.cells #[.int .i64 o.kind, .int .i64 o.a, .int .i64 o.b, .int .i64 o.c, .string (txt o.site)] 27)).alloc (.cells #[.int .i64 A.code, .int .i64 A.val, .slice fa A.freed.length fc] 30)).alloc (.cells #[.int .i64 0, .slice none 0 0] 31) := ⟨_, rfl⟩
  obtain ⟨BW, sW, hop, han, hres⟩ := show_entry w P.last _ o A.code A.val _ W hW
  have hpen : W.cell? ⟨w.heap.size, 0, none⟩ = some (.int .i64 P.last) ∧ W.cell? ⟨w.heap.size, 1, none⟩ = some (.slice sa P.sites.length sc) := by
    obtain ⟨x1, h1⟩ : ∃ x1, x1 = w.alloc (.cells #[.int .i64 P.last, .slice sa P.sites.length sc] 31) := ⟨_, rfl⟩
    rw [← h1] at hW
    have s1 : x1.heap.size = w.heap.size + 1 := by rw [h1]; simp
    have b1 : Below x1.heap.size x1 W := by
      rw [hW]
      exact (((Below.refl _ _).alloc (Nat.le_refl _) _).alloc (by simp) _).alloc (by simp; omega) _
    have e : ∀ k, W.cell? ⟨w.heap.size, k, none⟩ = (#[.int .i64 P.last, .slice sa P.sites.length sc] : Array Value)[k]? := fun k => by
      rw [b1.cell (p := ⟨w.heap.size, k, none⟩) (by show w.heap.size < _; omega), h1, World.cell?_alloc_mark]
    exact ⟨e 0, e 1⟩
  obtain ⟨qo, hqo⟩ := bool_of (SpeakO o)
  obtain ⟨qa, hqa⟩ := bool_of (SpeakA A)
  obtain ⟨qp, hqp⟩ := bool_of (PenR P)
  have CS : Hid (∀ X : World, _) := fun X => sSpeakable_calls o X hso.site qo hqo
  have CA : Hid (∀ X, Below w.heap.size w X → _) := fun X hX => sAnsOk_calls A fa fc X (rdI_later rf hX) hnf qa hqa
  have CPn : Hid (∀ X, Below w.heap.size w X → _) := fun X hX => sPenOk_calls _ P X ⟨sa, sc, rfl, rdS_later rs hX⟩ hs qp hqp
  have CSi : Hid (∀ X, Below w.heap.size w X → _) := fun X hX => sSite_calls _ P o.site X ⟨sa, sc, rfl, rdS_later rs hX⟩ hs hx0
  have HQ : Hid (q = true ↔ EvR P o A) := hq
  have HQO : Hid (qo = true ↔ SpeakO o) := hqo
  have HQA : Hid (qa = true ↔ SpeakA A) := hqa
  have HQP : Hid (qp = true ↔ PenR P) := hqp
  have HK : Hid (∀ X, Below W.heap.size W X → (X.cell? ⟨w.heap.size, 0, none⟩ = some (.int .i64 P.last) ∧ X.cell? ⟨w.heap.size, 1, none⟩ = some (.slice sa P.sites.length sc)) ∧ OpAt (w.heap.size + 1) o X ∧
      (X.cell? ⟨w.heap.size + 1 + 1, 0, none⟩ = some (.int .i64 A.code) ∧ X.cell? ⟨w.heap.size + 1 + 1, 1, none⟩ = some (.int .i64 A.val) ∧ X.cell? ⟨w.heap.size + 1 + 1, 2, none⟩ = some (.slice fa A.freed.length fc)) ∧ Two X (w.heap.size + 1 + 1 + 1) (.int .i64 0) (.slice none 0 0)) := fun X hX => by
    refine ⟨⟨?_, ?_⟩, fun k => ?_, ⟨?_, ?_, ?_⟩, ?_⟩
    · exact (hX.cell (p := ⟨w.heap.size, 0, none⟩) (by show w.heap.size < _; omega)).trans hpen.1
    · exact (hX.cell (p := ⟨w.heap.size, 1, none⟩) (by show w.heap.size < _; omega)).trans hpen.2
    · exact (hX.cell (p := ⟨w.heap.size + 1, k, none⟩) (by show w.heap.size + 1 < _; omega)).trans (hop k)
    · exact (hX.cell (p := ⟨w.heap.size + 1 + 1, 0, none⟩) (by show w.heap.size + 1 + 1 < _; omega)).trans han.1
    · exact (hX.cell (p := ⟨w.heap.size + 1 + 1, 1, none⟩) (by show w.heap.size + 1 + 1 < _; omega)).trans han.2.1
    · exact (hX.cell (p := ⟨w.heap.size + 1 + 1, 2, none⟩) (by show w.heap.size + 1 + 1 < _; omega)).trans han.2.2
    · exact hres.later hX
  have HFI : Hid (∀ X, Below W.heap.size W X → RdI X fa A.freed) := fun X hX => rdI_later rf (BW.trans (hX.mono BW.size))
  have HSS : Hid (SrcC W sa P.sites.length 1 (P.sites.map strV)) := (srcS rs).later BW
  have HSW : Hid (W.heap.size = w.heap.size + 1 + 1 + 1 + 1) := sW
  have HBW : Hid (Below w.heap.size w W) := BW
  have HWX : Hid (∀ X, Below W.heap.size W X → Below w.heap.size w X) := fun X hX => BW.trans (hX.mono BW.size)
  have hn0 : P.sites.length ≤ 1048576 := hs.sites
  clear hop han hres hpen rs rf hq hqo hqa hqp sW hs BW hso
  by_cases hall : Hid (qo = true ∧ qa = true ∧ qp = true)
  case neg =>
    have hq0 : q = false := by
      refine q_no HQ.out (fun hh => hall ⟨HQO.out.2 hh.1, HQA.out.2 hh.2.1, HQP.out.2 hh.2.2⟩)
    subst hq0
    have HNA : Hid (¬ (qo = true ∧ qa = true ∧ qp = true)) := hall
    clear hall HQ HQO HQA HQP CSi HFI
    obtain ⟨ok, oa, ob, oc, os⟩ := o
    obtain ⟨ac, av, zs⟩ := A
    simp only at *
    unfold opV at CS ⊢
    simp only at CS ⊢
    have T0 : Below W.heap.size W W := Below.refl _ _
    obtain ⟨⟨p0, p1⟩, hop, ⟨a0, a1, a2⟩, -⟩ := HK.out _ T0
    obtain ⟨c0, c1, c2, c3, c4⟩ := hop.cells
    simp only at c0 c1 c2 c3 c4
    clear hop
    go_enter Tryd.func28, Tryd.ntmps28
    go_wp2_with fail
    rw [← hW]
    clear hW
    refine (CS.out _).mono ?_
    rintro e V ⟨rfl, bV⟩
    clear p0 p1 a0 a1 a2 c0 c1 c2 c3 c4
    cases qo
    case' false =>
      clear HNA
      go_wp2_with fail
    case' true =>
      obtain ⟨-, -, ⟨a0, a1, a2⟩, -⟩ := HK.out _ bV
      have T1 : Below W.heap.size W V := bV
      clear bV
      go_wp2_with fail
      refine (CA.out _ (HWX.out _ T1)).mono ?_
      rintro e V2 ⟨rfl, b2⟩
      have bV := T1.trans (b2.mono T1.size)
      clear a0 a1 a2 b2
      cases qa
      case' false =>
        clear HNA
        go_wp2_with fail
      case' true =>
        obtain ⟨⟨p0, p1⟩, -, -, -⟩ := HK.out _ bV
        have T2 : Below W.heap.size W V2 := bV
        clear bV
        go_wp2_with fail
        refine (CPn.out _ (HWX.out _ T2)).mono ?_
        rintro e V3 ⟨rfl, b3⟩
        have bV := T2.trans (b3.mono T2.size)
        clear p0 p1 b3
        cases qp
        case true => exact absurd HNA.out (by show ¬ ¬ _; simp)
        clear HNA
        go_wp2_with fail
    all_goals
      clear CS CA CPn
      have hbs := bV.size
      refine wp_region_last 8 (by kernel_rfl) (by kernel_rfl) (RNew W.heap.size w.heap.size P.last sa P.sites.length sc (P.sites.map strV) KStr) (rnew_mono kstr_mono) ?_ ?_
      · intro i o hi ho a X hX hA hdep
        have hWX := bV.trans (hX.mono hbs)
        have hXs := hWX.size
        obtain ⟨⟨p0, p1⟩, -⟩ := HK.out _ hWX
        match i, hi, ho with
        | 0, _, ho =>
          obtain rfl := Option.some.inj ho
          exact opFieldPen 0 (by omega) (alike_at hA (t := 3) (by kernel_rfl)) ⟨_, rfl, Below.refl _ _, rfl⟩
        | 1, _, ho =>
          obtain rfl := Option.some.inj ho
          have e1 : a.eval (.tmp 26) = .pointer (some ⟨w.heap.size, 0, none⟩) := hdep ⟨0, .data⟩ (by simp) rfl 26 rfl
          exact opLoadInt e1 p0 ⟨_, rfl, Below.refl _ _, rfl⟩
        | 2, _, ho =>
          obtain rfl := Option.some.inj ho
          exact opNewS ⟨_, rfl, (Below.refl _ _).alloc (Nat.le_refl _) _, X.heap.size, rfl, hXs, fresh_at X _⟩
        | 3, _, ho =>
          obtain rfl := Option.some.inj ho
          exact opFieldPen 1 (by omega) (alike_at hA (t := 3) (by kernel_rfl)) ⟨_, rfl, Below.refl _ _, rfl⟩
        | 4, _, ho =>
          obtain rfl := Option.some.inj ho
          have e1 : a.eval (.tmp 29) = .pointer (some ⟨w.heap.size, 1, none⟩) := hdep ⟨3, .data⟩ (by simp) rfl 29 rfl
          exact opLoadS e1 p1 ⟨_, rfl, Below.refl _ _, rfl⟩
        | 5, _, ho =>
          obtain rfl := Option.some.inj ho
          obtain ⟨g, e1, gB, hg⟩ := hdep ⟨2, .data⟩ (by simp) rfl 28 rfl
          have e2 : a.eval (.tmp 30) = .slice sa P.sites.length sc := hdep ⟨4, .data⟩ (by simp) rfl 30 rfl
          exact wp_append_fresh elS _ _ rfl g W.heap.size hg gB sa P.sites.length sc _ e1 e2 (HSS.out.later hWX) (by omega) (by omega) (fun v' w' r b _ => ⟨_, rfl, b, r⟩)
        | 6, _, ho =>
          obtain rfl := Option.some.inj ho
          have e0 : a.eval (.tmp 27) = .int .i64 P.last := hdep ⟨1, .data⟩ (by simp) rfl 27 rfl
          have r3 : X.ownsRow W.heap.size 9 1 (a.eval (.tmp 31)) P.sites.length (P.sites.map strV) := hdep ⟨5, .data⟩ (by simp) rfl 31 rfl
          obtain ⟨x3, c3, e3, _⟩ := row_form r3
          rw [e3] at r3
          exact opBuildPen e0 e3 ⟨_, rfl, Below.refl _ _, x3, c3, rfl, r3⟩
        | 7, _, ho =>
          obtain rfl := Option.some.inj ho
          exact opConst ⟨_, rfl, Below.refl _ _, rfl⟩
      · intro o ho a X hX hA hdep
        obtain rfl := Option.some.inj ho
        have hWX := bV.trans (hX.mono hbs)
        obtain ⟨-, -, -, hf⟩ := HK.out _ hWX
        obtain ⟨x3, c3, e2, r3⟩ := hdep ⟨6, .data⟩ (by simp) rfl 32 rfl
        have e6 : a.eval (.tmp 6) = .string (txt []) := hdep ⟨7, .chain⟩ (by simp) rfl 6 rfl
        refine opStorePen (alike_at hA (t := 7) (by kernel_rfl)) e2 hf ?_
        obtain ⟨us, hus, rfl⟩ := alike_tmps hA [26, 27, 28, 29, 30, 31, 32, 6] (by kernel_rfl)
        have e3 : us 6 = .string (txt []) := (hus 6).symm.trans e6
        have HF : Hid (Two ((X.setCell ⟨w.heap.size + 1 + 1 + 1, 0, none⟩ (.int .i64 P.last)).setCell ⟨w.heap.size + 1 + 1 + 1, 1, none⟩ (.slice x3 P.sites.length c3)) (w.heap.size + 1 + 1 + 1) (.int .i64 P.last) (.slice x3 P.sites.length c3) ∧ OwnP ((X.setCell ⟨w.heap.size + 1 + 1 + 1, 0, none⟩ (.int .i64 P.last)).setCell ⟨w.heap.size + 1 + 1 + 1, 1, none⟩ (.slice x3 P.sites.length c3)) w.heap.size (.agg #[.int .i64 P.last, .slice x3 P.sites.length c3]) P ∧ Below w.heap.size w ((X.setCell ⟨w.heap.size + 1 + 1 + 1, 0, none⟩ (.int .i64 P.last)).setCell ⟨w.heap.size + 1 + 1 + 1, 1, none⟩ (.slice x3 P.sites.length c3))) := by
          have hsw := HSW.out
          refine ⟨hf.set _ _, ⟨_, rfl, ?_⟩, ((HWX.out _ hWX).setCell (by simp only; omega) _).setCell (by simp only; omega) _⟩
          exact ownS_mono (ownS_far _ _ (ownS_far _ _ r3 (by simp only; omega)) (by simp only; omega)) (by omega)
        clear hdep hA hus e2 e6 hf r3 ho HSS HK HWX hX hWX bV hbs
        generalize (X.setCell ⟨w.heap.size + 1 + 1 + 1, 0, none⟩ (.int .i64 P.last)).setCell ⟨w.heap.size + 1 + 1 + 1, 1, none⟩ (.slice x3 P.sites.length c3) = Y at *
        simp only [List.mapIdx_cons, List.mapIdx_nil, Nat.reduceAdd, List.contains_cons, List.contains_nil, Nat.reduceBEq, Bool.or_false, Bool.or_true, if_true, if_false, Bool.false_eq_true, e3]
        obtain ⟨y0, y1⟩ := HF.out.1.cells
        go_wp2
        refine bodyPost_ret (v := .tuple #[.string (txt []), .agg #[.int .i64 P.last, .slice x3 P.sites.length c3]]) (by simp [results, Tryd.results28, go_sem, *]) rfl ⟨_, rfl, HF.out.2.1, HF.out.2.2⟩
  obtain ⟨rfl, rfl, rfl⟩ := hall.out
  have hso := HQO.out.1 rfl
  have hsa := HQA.out.1 rfl
  have hsp := HQP.out.1 rfl
  have hq1 : q = true := HQ.out.2 ⟨hso, hsa, hsp⟩
  subst hq1
  have HSO : Hid (SpeakO o) := hso
  have HSA : Hid (SpeakA A) := hsa
  have HSP : Hid (PenR P) := hsp
  have HPB : Hid ((penB P o).sites = namesB P.sites o.site) := rfl
  have HPL : Hid ((penB P o).last = o.a) := rfl
  have HEV : Hid (evT P o A = opT P.last P.sites o ++ ansT o.a A) := rfl
  clear hall HQ HQO HQA HQP hso hsa hsp
  obtain ⟨ok, oa, ob, oc, os⟩ := o
  obtain ⟨ac, av, zs⟩ := A
  simp only at *
  unfold opV at CS ⊢
  simp only at CS ⊢
  have T0 : Below W.heap.size W W := Below.refl _ _
  obtain ⟨⟨p0, p1⟩, hop, ⟨a0, a1, a2⟩, -⟩ := HK.out _ T0
  obtain ⟨c0, c1, c2, c3, c4⟩ := hop.cells
  simp only at c0 c1 c2 c3 c4
  clear hop
  go_enter Tryd.func28, Tryd.ntmps28
  go_wp2_with fail
  rw [← hW]
  clear hW
  refine (CS.out _).mono ?_
  rintro e V1 ⟨rfl, T1⟩
  clear p0 p1 a0 a1 a2 c0 c1 c2 c3 c4
  obtain ⟨-, -, ⟨a0, a1, a2⟩, -⟩ := HK.out _ T1
  go_wp2_with fail
  refine (CA.out _ (HWX.out _ T1)).mono ?_
  rintro e V2 ⟨rfl, b2⟩
  have T2 := T1.trans (b2.mono T1.size)
  clear a0 a1 a2 b2
  obtain ⟨⟨p0, p1⟩, -, -, -⟩ := HK.out _ T2
  go_wp2_with fail
  refine (CPn.out _ (HWX.out _ T2)).mono ?_
  rintro e V3 ⟨rfl, b3⟩
  have T3 := T2.trans (b3.mono T2.size)
  clear p0 p1 b3 T1 T2 CS CA CPn
  obtain ⟨⟨p0, p1⟩, hop, -, -⟩ := HK.out _ T3
  obtain ⟨c0, c1, c2, c3, c4⟩ := hop.cells
  simp only at c0 c1 c2 c3 c4
  clear hop
  go_wp2_with fail
  refine (CSi.out _ (HWX.out _ T3)).mono ?_
  rintro e V4 ⟨y, cy, rfl, hoy, b4⟩
  have T4 := T3.trans (b4.mono T3.size)
  have HOY0 : Hid (ownS V4 W.heap.size (.slice y (namesB P.sites os).length cy) (namesB P.sites os)) := ownS_mono hoy T3.size
  obtain ⟨n1, hn1⟩ : ∃ n1, (namesB P.sites os).length = n1 := ⟨_, rfl⟩
  have HN1 : Hid ((namesB P.sites os).length = n1) := hn1
  rw [hn1] at HOY0 ⊢
  obtain ⟨t5, ht5⟩ : ∃ t5, siteT P.sites os = t5 := ⟨_, rfl⟩
  have l5 : t5.length ≤ 16 := by rw [← ht5]; exact siteT_length _ _
  have HT5 : Hid (siteT P.sites os = t5) := ht5
  rw [ht5]
  clear p0 p1 c0 c1 c2 c3 c4 hoy b4 hn1 ht5 T3 CSi
  obtain ⟨V5, hV5⟩ : ∃ V5, V5 = V4.alloc (.cells #[.int .i64 P.last, .slice y n1 cy] 31) := ⟨_, rfl⟩
  have b5 : Below V4.heap.size V4 V5 := by rw [hV5]; exact (Below.refl _ _).alloc (Nat.le_refl _) _
  have T5 := T4.trans (b5.mono T4.size)
  have hx5 : Two V5 V4.heap.size (.int .i64 P.last) (.slice y n1 cy) := by rw [hV5]; exact Two.new V4 _ _
  have HX : Hid (∀ X, Below V5.heap.size V5 X → Two X V4.heap.size (.int .i64 P.last) (.slice y n1 cy) ∧ ownS X W.heap.size (.slice y n1 cy) (namesB P.sites os)) := fun X hX => ⟨hx5.later hX, ownS_later (ownS_later HOY0.out b5) hX⟩
  have HT5b : Hid (Below W.heap.size W V5) := T5
  have hgx : W.heap.size ≤ V4.heap.size := T4.size
  obtain ⟨gx, hgxe⟩ : ∃ gx, V4.heap.size = gx := ⟨_, rfl⟩
  go_wp2_with fail
  rw [← hV5]
  clear hV5 hx5 b5 T4 HOY0
  obtain ⟨m, hm⟩ : ∃ m, zs.length = m := ⟨_, rfl⟩
  have Hm : Hid (zs.length = m) := hm
  rw [hm] at hnf HK ⊢
  clear hm
  have hko := HSO.out
  have hka := HSA.out
  have hkp := HSP.out.1
  obtain ⟨o1, o2, o3, o4, o5⟩ := hko
  obtain ⟨⟨a1, a2⟩, a3, a4, a5⟩ := hka
  simp only at o1 o2 o3 o4 o5 a1 a2 a3 a4 a5
  have hm8 : m ≤ 8 := by have := Hm.out; omega
  have hw2 : IntKind.i64.wrap (oa - P.last) = oa - P.last := by rw [IntKind.wrap_i64]; omega
  have hw4 : IntKind.i64.wrap (oc - oa) = oc - oa := by rw [IntKind.wrap_i64]; omega
  have hw7 : IntKind.i64.wrap (av - oa) = av - oa := by rw [IntKind.wrap_i64]; omega
  have HZK : Hid (∀ z ∈ zs, okZ z) := a5
  have HOA : Hid (okZ oa) := o2
  clear o1 o2 o3 o4 o5 a1 a2 a3 a4 a5 hkp
  have h2 : wrap64 (oa - P.last) = oa - P.last := by rw [← hw2, IntKind.wrap_i64]; unfold wrap64; omega
  have h4 : wrap64 (oc - oa) = oc - oa := by rw [← hw4, IntKind.wrap_i64]; unfold wrap64; omega
  have h7 : wrap64 (av - oa) = av - oa := by rw [← hw7, IntKind.wrap_i64]; unfold wrap64; omega
  have y1 : (txt (showZ ok)).size ≤ 7 := by rw [txt_size]; exact showZ_length _
  have y2 : (txt (showZ (oa - P.last))).size ≤ 7 := by rw [txt_size]; exact showZ_length _
  have y3 : (txt (showZ ob)).size ≤ 7 := by rw [txt_size]; exact showZ_length _
  have y4 : (txt (showZ (oc - oa))).size ≤ 7 := by rw [txt_size]; exact showZ_length _
  have y5 : (txt (t5)).size ≤ 16 := by rw [txt_size]; exact l5
  have y6 : (txt (varZ ac)).size ≤ 7 := by rw [txt_size]; exact varZ_length _
  have y7 : (txt (showZ (av - oa))).size ≤ 7 := by rw [txt_size]; exact showZ_length _
  have y8 : (txt (varZ (m : Int))).size ≤ 7 := by rw [txt_size]; exact varZ_length _
  have s2 : (txt (showZ ok)).size + (txt (showZ (oa - P.last))).size ≤ 9223372036854775807 := by first | omega | (simp only [ByteArray.size_append]; omega)
  have s3 : (txt (showZ ok) ++ txt (showZ (oa - P.last))).size + (txt (showZ ob)).size ≤ 9223372036854775807 := by first | omega | (simp only [ByteArray.size_append]; omega)
  have s4 : ((txt (showZ ok) ++ txt (showZ (oa - P.last))) ++ txt (showZ ob)).size + (txt (showZ (oc - oa))).size ≤ 9223372036854775807 := by first | omega | (simp only [ByteArray.size_append]; omega)
  have s5 : (((txt (showZ ok) ++ txt (showZ (oa - P.last))) ++ txt (showZ ob)) ++ txt (showZ (oc - oa))).size + (txt (t5)).size ≤ 9223372036854775807 := by first | omega | (simp only [ByteArray.size_append]; omega)
  have s6 : ((((txt (showZ ok) ++ txt (showZ (oa - P.last))) ++ txt (showZ ob)) ++ txt (showZ (oc - oa))) ++ txt (t5)).size + (txt (varZ ac)).size ≤ 9223372036854775807 := by first | omega | (simp only [ByteArray.size_append]; omega)
  have s7 : (((((txt (showZ ok) ++ txt (showZ (oa - P.last))) ++ txt (showZ ob)) ++ txt (showZ (oc - oa))) ++ txt (t5)) ++ txt (varZ ac)).size + (txt (showZ (av - oa))).size ≤ 9223372036854775807 := by first | omega | (simp only [ByteArray.size_append]; omega)
  have s8 : ((((((txt (showZ ok) ++ txt (showZ (oa - P.last))) ++ txt (showZ ob)) ++ txt (showZ (oc - oa))) ++ txt (t5)) ++ txt (varZ ac)) ++ txt (showZ (av - oa))).size + (txt (varZ (m : Int))).size ≤ 9223372036854775807 := by first | omega | (simp only [ByteArray.size_append]; omega)
  have HC : Hid (∀ X, Below V5.heap.size V5 X → X.cell? ⟨w.heap.size, 0, none⟩ = some (.int .i64 P.last) ∧ (X.cell? ⟨w.heap.size + 1, 0, none⟩ = some (.int .i64 ok) ∧ X.cell? ⟨w.heap.size + 1, 1, none⟩ = some (.int .i64 oa) ∧ X.cell? ⟨w.heap.size + 1, 2, none⟩ = some (.int .i64 ob) ∧ X.cell? ⟨w.heap.size + 1, 3, none⟩ = some (.int .i64 oc)) ∧ (X.cell? ⟨w.heap.size + 1 + 1, 0, none⟩ = some (.int .i64 ac) ∧ X.cell? ⟨w.heap.size + 1 + 1, 1, none⟩ = some (.int .i64 av) ∧ X.cell? ⟨w.heap.size + 1 + 1, 2, none⟩ = some (.slice fa m fc))) := fun X hX => by
    obtain ⟨h1, h2, h3, -⟩ := HK.out X (HT5b.out.trans (hX.mono HT5b.out.size))
    exact ⟨h1.1, ⟨h2.cells.1, h2.cells.2.1, h2.cells.2.2.1, h2.cells.2.2.2.1⟩, h3⟩
  refine wp_region_last 39 (by kernel_rfl) (by kernel_rfl) (RP 1000 noP [.pointer (some ⟨w.heap.size + 1, 0, none⟩), .int .i64 ok, .string (txt (showZ ok)), .pointer (some ⟨w.heap.size + 1, 1, none⟩), .int .i64 oa, .pointer (some ⟨w.heap.size, 0, none⟩), .int .i64 P.last, .int .i64 (oa - P.last), .string (txt (showZ (oa - P.last))), .string (txt (showZ ok) ++ txt (showZ (oa - P.last))), .pointer (some ⟨w.heap.size + 1, 2, none⟩), .int .i64 ob, .string (txt (showZ ob)), .string ((txt (showZ ok) ++ txt (showZ (oa - P.last))) ++ txt (showZ ob)), .pointer (some ⟨w.heap.size + 1, 3, none⟩), .int .i64 oc, .pointer (some ⟨w.heap.size + 1, 1, none⟩), .int .i64 oa, .int .i64 (oc - oa), .string (txt (showZ (oc - oa))), .string (((txt (showZ ok) ++ txt (showZ (oa - P.last))) ++ txt (showZ ob)) ++ txt (showZ (oc - oa))), .string (txt t5), .string ((((txt (showZ ok) ++ txt (showZ (oa - P.last))) ++ txt (showZ ob)) ++ txt (showZ (oc - oa))) ++ txt t5), .pointer (some ⟨w.heap.size + 1 + 1, 0, none⟩), .int .i64 ac, .string (txt (varZ ac)), .string (((((txt (showZ ok) ++ txt (showZ (oa - P.last))) ++ txt (showZ ob)) ++ txt (showZ (oc - oa))) ++ txt t5) ++ txt (varZ ac)), .pointer (some ⟨w.heap.size + 1 + 1, 1, none⟩), .int .i64 av, .pointer (some ⟨w.heap.size + 1, 1, none⟩), .int .i64 oa, .int .i64 (av - oa), .string (txt (showZ (av - oa))), .string ((((((txt (showZ ok) ++ txt (showZ (oa - P.last))) ++ txt (showZ ob)) ++ txt (showZ (oc - oa))) ++ txt t5) ++ txt (varZ ac)) ++ txt (showZ (av - oa))), .pointer (some ⟨w.heap.size + 1 + 1, 2, none⟩), .slice fa m fc, .int .i64 (m : Int), .string (txt (varZ (m : Int))), .string (((((((txt (showZ ok) ++ txt (showZ (oa - P.last))) ++ txt (showZ ob)) ++ txt (showZ (oc - oa))) ++ txt t5) ++ txt (varZ ac)) ++ txt (showZ (av - oa))) ++ txt (varZ (m : Int)))]) (rp_mono noP_mono) ?_ ?_
  · intro i o hi ho a X hX hA hdep
    match i, hi, ho with
    | 0, _, ho =>
      obtain rfl := Option.some.inj ho
      exact opFieldOp 0 (by omega) (alike_at hA (t := 4) (by kernel_rfl))  ⟨_, rfl, Below.refl _ _, rp_put (by decide) rfl⟩
    | 1, _, ho =>
      obtain rfl := Option.some.inj ho
      have g0_ : a.eval (.tmp 40) = .pointer (some ⟨w.heap.size + 1, 0, none⟩) := rp_at (hdep ⟨0, .data⟩ (by simp) rfl 40 rfl) (by decide) rfl
      exact opLoadInt g0_ (HC.out X hX).2.1.1 ⟨_, rfl, Below.refl _ _, rp_put (by decide) rfl⟩
    | 2, _, ho =>
      obtain rfl := Option.some.inj ho
      have g0_ : a.eval (.tmp 41) = .int .i64 ok := rp_at (hdep ⟨1, .data⟩ (by simp) rfl 41 rfl) (by decide) rfl
      exact opShowInt g0_ (sShowInt_calls ok X) (fun e w' ⟨h1, h2⟩ => ⟨_, h1, _, rfl, h2, rp_put (by decide) rfl⟩)
    | 3, _, ho =>
      obtain rfl := Option.some.inj ho
      exact opFieldOp 1 (by omega) (alike_at hA (t := 4) (by kernel_rfl))  ⟨_, rfl, Below.refl _ _, rp_put (by decide) rfl⟩
    | 4, _, ho =>
      obtain rfl := Option.some.inj ho
      have g0_ : a.eval (.tmp 43) = .pointer (some ⟨w.heap.size + 1, 1, none⟩) := rp_at (hdep ⟨3, .data⟩ (by simp) rfl 43 rfl) (by decide) rfl
      exact opLoadInt g0_ (HC.out X hX).2.1.2.1 ⟨_, rfl, Below.refl _ _, rp_put (by decide) rfl⟩
    | 5, _, ho =>
      obtain rfl := Option.some.inj ho
      exact opFieldPen 0 (by omega) (alike_at hA (t := 3) (by kernel_rfl))  ⟨_, rfl, Below.refl _ _, rp_put (by decide) rfl⟩
    | 6, _, ho =>
      obtain rfl := Option.some.inj ho
      have g0_ : a.eval (.tmp 45) = .pointer (some ⟨w.heap.size, 0, none⟩) := rp_at (hdep ⟨5, .data⟩ (by simp) rfl 45 rfl) (by decide) rfl
      exact opLoadInt g0_ (HC.out X hX).1 ⟨_, rfl, Below.refl _ _, rp_put (by decide) rfl⟩
    | 7, _, ho =>
      obtain rfl := Option.some.inj ho
      have g0_ : a.eval (.tmp 44) = .int .i64 oa := rp_at (hdep ⟨4, .data⟩ (by simp) rfl 44 rfl) (by decide) rfl
      have g1_ : a.eval (.tmp 46) = .int .i64 P.last := rp_at (hdep ⟨6, .data⟩ (by simp) rfl 46 rfl) (by decide) rfl
      exact opSubV h2 g0_ g1_  ⟨_, rfl, Below.refl _ _, rp_put (by decide) rfl⟩
    | 8, _, ho =>
      obtain rfl := Option.some.inj ho
      have g0_ : a.eval (.tmp 47) = .int .i64 (oa - P.last) := rp_at (hdep ⟨7, .data⟩ (by simp) rfl 47 rfl) (by decide) rfl
      exact opShowInt g0_ (sShowInt_calls (oa - P.last) X) (fun e w' ⟨h1, h2⟩ => ⟨_, h1, _, rfl, h2, rp_put (by decide) rfl⟩)
    | 9, _, ho =>
      obtain rfl := Option.some.inj ho
      have g0_ : a.eval (.tmp 42) = .string (txt (showZ ok)) := rp_at (hdep ⟨2, .data⟩ (by simp) rfl 42 rfl) (by decide) rfl
      have g1_ : a.eval (.tmp 48) = .string (txt (showZ (oa - P.last))) := rp_at (hdep ⟨8, .data⟩ (by simp) rfl 48 rfl) (by decide) rfl
      exact opAddStr s2 g0_ g1_  ⟨_, rfl, Below.refl _ _, rp_put (by decide) rfl⟩
    | 10, _, ho =>
      obtain rfl := Option.some.inj ho
      exact opFieldOp 2 (by omega) (alike_at hA (t := 4) (by kernel_rfl))  ⟨_, rfl, Below.refl _ _, rp_put (by decide) rfl⟩
    | 11, _, ho =>
      obtain rfl := Option.some.inj ho
      have g0_ : a.eval (.tmp 50) = .pointer (some ⟨w.heap.size + 1, 2, none⟩) := rp_at (hdep ⟨10, .data⟩ (by simp) rfl 50 rfl) (by decide) rfl
      exact opLoadInt g0_ (HC.out X hX).2.1.2.2.1 ⟨_, rfl, Below.refl _ _, rp_put (by decide) rfl⟩
    | 12, _, ho =>
      obtain rfl := Option.some.inj ho
      have g0_ : a.eval (.tmp 51) = .int .i64 ob := rp_at (hdep ⟨11, .data⟩ (by simp) rfl 51 rfl) (by decide) rfl
      exact opShowInt g0_ (sShowInt_calls ob X) (fun e w' ⟨h1, h2⟩ => ⟨_, h1, _, rfl, h2, rp_put (by decide) rfl⟩)
    | 13, _, ho =>
      obtain rfl := Option.some.inj ho
      have g0_ : a.eval (.tmp 49) = .string (txt (showZ ok) ++ txt (showZ (oa - P.last))) := rp_at (hdep ⟨9, .data⟩ (by simp) rfl 49 rfl) (by decide) rfl
      have g1_ : a.eval (.tmp 52) = .string (txt (showZ ob)) := rp_at (hdep ⟨12, .data⟩ (by simp) rfl 52 rfl) (by decide) rfl
      exact opAddStr s3 g0_ g1_  ⟨_, rfl, Below.refl _ _, rp_put (by decide) rfl⟩
    | 14, _, ho =>
      obtain rfl := Option.some.inj ho
      exact opFieldOp 3 (by omega) (alike_at hA (t := 4) (by kernel_rfl))  ⟨_, rfl, Below.refl _ _, rp_put (by decide) rfl⟩
    | 15, _, ho =>
      obtain rfl := Option.some.inj ho
      have g0_ : a.eval (.tmp 54) = .pointer (some ⟨w.heap.size + 1, 3, none⟩) := rp_at (hdep ⟨14, .data⟩ (by simp) rfl 54 rfl) (by decide) rfl
      exact opLoadInt g0_ (HC.out X hX).2.1.2.2.2 ⟨_, rfl, Below.refl _ _, rp_put (by decide) rfl⟩
    | 16, _, ho =>
      obtain rfl := Option.some.inj ho
      exact opFieldOp 1 (by omega) (alike_at hA (t := 4) (by kernel_rfl))  ⟨_, rfl, Below.refl _ _, rp_put (by decide) rfl⟩
    | 17, _, ho =>
      obtain rfl := Option.some.inj ho
      have g0_ : a.eval (.tmp 56) = .pointer (some ⟨w.heap.size + 1, 1, none⟩) := rp_at (hdep ⟨16, .data⟩ (by simp) rfl 56 rfl) (by decide) rfl
      exact opLoadInt g0_ (HC.out X hX).2.1.2.1 ⟨_, rfl, Below.refl _ _, rp_put (by decide) rfl⟩
    | 18, _, ho =>
      obtain rfl := Option.some.inj ho
      have g0_ : a.eval (.tmp 55) = .int .i64 oc := rp_at (hdep ⟨15, .data⟩ (by simp) rfl 55 rfl) (by decide) rfl
      have g1_ : a.eval (.tmp 57) = .int .i64 oa := rp_at (hdep ⟨17, .data⟩ (by simp) rfl 57 rfl) (by decide) rfl
      exact opSubV h4 g0_ g1_  ⟨_, rfl, Below.refl _ _, rp_put (by decide) rfl⟩
    | 19, _, ho =>
      obtain rfl := Option.some.inj ho
      have g0_ : a.eval (.tmp 58) = .int .i64 (oc - oa) := rp_at (hdep ⟨18, .data⟩ (by simp) rfl 58 rfl) (by decide) rfl
      exact opShowInt g0_ (sShowInt_calls (oc - oa) X) (fun e w' ⟨h1, h2⟩ => ⟨_, h1, _, rfl, h2, rp_put (by decide) rfl⟩)
    | 20, _, ho =>
      obtain rfl := Option.some.inj ho
      have g0_ : a.eval (.tmp 53) = .string ((txt (showZ ok) ++ txt (showZ (oa - P.last))) ++ txt (showZ ob)) := rp_at (hdep ⟨13, .data⟩ (by simp) rfl 53 rfl) (by decide) rfl
      have g1_ : a.eval (.tmp 59) = .string (txt (showZ (oc - oa))) := rp_at (hdep ⟨19, .data⟩ (by simp) rfl 59 rfl) (by decide) rfl
      exact opAddStr s4 g0_ g1_  ⟨_, rfl, Below.refl _ _, rp_put (by decide) rfl⟩
    | 21, _, ho =>
      obtain rfl := Option.some.inj ho
      exact opMove (alike_at hA (t := 8) (by kernel_rfl))  ⟨_, rfl, Below.refl _ _, rp_put (by decide) rfl⟩
    | 22, _, ho =>
      obtain rfl := Option.some.inj ho
      have g0_ : a.eval (.tmp 60) = .string (((txt (showZ ok) ++ txt (showZ (oa - P.last))) ++ txt (showZ ob)) ++ txt (showZ (oc - oa))) := rp_at (hdep ⟨20, .data⟩ (by simp) rfl 60 rfl) (by decide) rfl
      have g1_ : a.eval (.tmp 61) = .string (txt t5) := rp_at (hdep ⟨21, .data⟩ (by simp) rfl 61 rfl) (by decide) rfl
      exact opAddStr s5 g0_ g1_  ⟨_, rfl, Below.refl _ _, rp_put (by decide) rfl⟩
    | 23, _, ho =>
      obtain rfl := Option.some.inj ho
      exact opFieldAns 0 (by omega) (alike_at hA (t := 5) (by kernel_rfl))  ⟨_, rfl, Below.refl _ _, rp_put (by decide) rfl⟩
    | 24, _, ho =>
      obtain rfl := Option.some.inj ho
      have g0_ : a.eval (.tmp 63) = .pointer (some ⟨w.heap.size + 1 + 1, 0, none⟩) := rp_at (hdep ⟨23, .data⟩ (by simp) rfl 63 rfl) (by decide) rfl
      exact opLoadInt g0_ (HC.out X hX).2.2.1 ⟨_, rfl, Below.refl _ _, rp_put (by decide) rfl⟩
    | 25, _, ho =>
      obtain rfl := Option.some.inj ho
      have g0_ : a.eval (.tmp 64) = .int .i64 ac := rp_at (hdep ⟨24, .data⟩ (by simp) rfl 64 rfl) (by decide) rfl
      exact opVar g0_ (sVar_calls ac X) (fun e w' ⟨h1, h2⟩ => ⟨_, h1, _, rfl, h2, rp_put (by decide) rfl⟩)
    | 26, _, ho =>
      obtain rfl := Option.some.inj ho
      have g0_ : a.eval (.tmp 62) = .string ((((txt (showZ ok) ++ txt (showZ (oa - P.last))) ++ txt (showZ ob)) ++ txt (showZ (oc - oa))) ++ txt t5) := rp_at (hdep ⟨22, .data⟩ (by simp) rfl 62 rfl) (by decide) rfl
      have g1_ : a.eval (.tmp 65) = .string (txt (varZ ac)) := rp_at (hdep ⟨25, .data⟩ (by simp) rfl 65 rfl) (by decide) rfl
      exact opAddStr s6 g0_ g1_  ⟨_, rfl, Below.refl _ _, rp_put (by decide) rfl⟩
    | 27, _, ho =>
      obtain rfl := Option.some.inj ho
      exact opFieldAns 1 (by omega) (alike_at hA (t := 5) (by kernel_rfl))  ⟨_, rfl, Below.refl _ _, rp_put (by decide) rfl⟩
    | 28, _, ho =>
      obtain rfl := Option.some.inj ho
      have g0_ : a.eval (.tmp 67) = .pointer (some ⟨w.heap.size + 1 + 1, 1, none⟩) := rp_at (hdep ⟨27, .data⟩ (by simp) rfl 67 rfl) (by decide) rfl
      exact opLoadInt g0_ (HC.out X hX).2.2.2.1 ⟨_, rfl, Below.refl _ _, rp_put (by decide) rfl⟩
    | 29, _, ho =>
      obtain rfl := Option.some.inj ho
      exact opFieldOp 1 (by omega) (alike_at hA (t := 4) (by kernel_rfl))  ⟨_, rfl, Below.refl _ _, rp_put (by decide) rfl⟩
    | 30, _, ho =>
      obtain rfl := Option.some.inj ho
      have g0_ : a.eval (.tmp 69) = .pointer (some ⟨w.heap.size + 1, 1, none⟩) := rp_at (hdep ⟨29, .data⟩ (by simp) rfl 69 rfl) (by decide) rfl
      exact opLoadInt g0_ (HC.out X hX).2.1.2.1 ⟨_, rfl, Below.refl _ _, rp_put (by decide) rfl⟩
    | 31, _, ho =>
      obtain rfl := Option.some.inj ho
      have g0_ : a.eval (.tmp 68) = .int .i64 av := rp_at (hdep ⟨28, .data⟩ (by simp) rfl 68 rfl) (by decide) rfl
      have g1_ : a.eval (.tmp 70) = .int .i64 oa := rp_at (hdep ⟨30, .data⟩ (by simp) rfl 70 rfl) (by decide) rfl
      exact opSubV h7 g0_ g1_  ⟨_, rfl, Below.refl _ _, rp_put (by decide) rfl⟩
    | 32, _, ho =>
      obtain rfl := Option.some.inj ho
      have g0_ : a.eval (.tmp 71) = .int .i64 (av - oa) := rp_at (hdep ⟨31, .data⟩ (by simp) rfl 71 rfl) (by decide) rfl
      exact opShowInt g0_ (sShowInt_calls (av - oa) X) (fun e w' ⟨h1, h2⟩ => ⟨_, h1, _, rfl, h2, rp_put (by decide) rfl⟩)
    | 33, _, ho =>
      obtain rfl := Option.some.inj ho
      have g0_ : a.eval (.tmp 66) = .string (((((txt (showZ ok) ++ txt (showZ (oa - P.last))) ++ txt (showZ ob)) ++ txt (showZ (oc - oa))) ++ txt t5) ++ txt (varZ ac)) := rp_at (hdep ⟨26, .data⟩ (by simp) rfl 66 rfl) (by decide) rfl
      have g1_ : a.eval (.tmp 72) = .string (txt (showZ (av - oa))) := rp_at (hdep ⟨32, .data⟩ (by simp) rfl 72 rfl) (by decide) rfl
      exact opAddStr s7 g0_ g1_  ⟨_, rfl, Below.refl _ _, rp_put (by decide) rfl⟩
    | 34, _, ho =>
      obtain rfl := Option.some.inj ho
      exact opFieldAns 2 (by omega) (alike_at hA (t := 5) (by kernel_rfl))  ⟨_, rfl, Below.refl _ _, rp_put (by decide) rfl⟩
    | 35, _, ho =>
      obtain rfl := Option.some.inj ho
      have g0_ : a.eval (.tmp 74) = .pointer (some ⟨w.heap.size + 1 + 1, 2, none⟩) := rp_at (hdep ⟨34, .data⟩ (by simp) rfl 74 rfl) (by decide) rfl
      exact opLoadI g0_ (HC.out X hX).2.2.2.2 ⟨_, rfl, Below.refl _ _, rp_put (by decide) rfl⟩
    | 36, _, ho =>
      obtain rfl := Option.some.inj ho
      have g0_ : a.eval (.tmp 75) = .slice fa m fc := rp_at (hdep ⟨35, .data⟩ (by simp) rfl 75 rfl) (by decide) rfl
      exact opLenI g0_  ⟨_, rfl, Below.refl _ _, rp_put (by decide) rfl⟩
    | 37, _, ho =>
      obtain rfl := Option.some.inj ho
      have g0_ : a.eval (.tmp 76) = .int .i64 (m : Int) := rp_at (hdep ⟨36, .data⟩ (by simp) rfl 76 rfl) (by decide) rfl
      exact opVar g0_ (sVar_calls (m : Int) X) (fun e w' ⟨h1, h2⟩ => ⟨_, h1, _, rfl, h2, rp_put (by decide) rfl⟩)
    | 38, _, ho =>
      obtain rfl := Option.some.inj ho
      have g0_ : a.eval (.tmp 73) = .string ((((((txt (showZ ok) ++ txt (showZ (oa - P.last))) ++ txt (showZ ob)) ++ txt (showZ (oc - oa))) ++ txt t5) ++ txt (varZ ac)) ++ txt (showZ (av - oa))) := rp_at (hdep ⟨33, .data⟩ (by simp) rfl 73 rfl) (by decide) rfl
      have g1_ : a.eval (.tmp 77) = .string (txt (varZ (m : Int))) := rp_at (hdep ⟨37, .data⟩ (by simp) rfl 77 rfl) (by decide) rfl
      exact opAddStr s8 g0_ g1_  ⟨_, rfl, Below.refl _ _, rp_put (by decide) rfl⟩
    | i + 39, hi, _ => omega
  · intro o ho a X hX hA hdep
    obtain rfl := Option.some.inj ho
    have g0_ : a.eval (.tmp 78) = .string (((((((txt (showZ ok) ++ txt (showZ (oa - P.last))) ++ txt (showZ ob)) ++ txt (showZ (oc - oa))) ++ txt t5) ++ txt (varZ ac)) ++ txt (showZ (av - oa))) ++ txt (varZ (m : Int))) := rp_at (hdep ⟨38, .data⟩ (by simp) rfl 78 rfl) (by decide) rfl
    refine opAssignT g0_ ?_
    obtain ⟨us, hus, rfl⟩ := alike_tmps hA [40, 41, 42, 43, 44, 45, 46, 47, 48, 49, 50, 51, 52, 53, 54, 55, 56, 57, 58, 59, 60, 61, 62, 63, 64, 65, 66, 67, 68, 69, 70, 71, 72, 73, 74, 75, 76, 77, 78, 10] (by kernel_rfl)
    obtain ⟨L, hL⟩ : ∃ L, ((((((showZ ok ++ showZ (oa - P.last)) ++ showZ ob) ++ showZ (oc - oa)) ++ t5) ++ varZ ac) ++ showZ (av - oa)) ++ varZ (m : Int) = L := ⟨_, rfl⟩
    have hTL : ((((((txt (showZ ok) ++ txt (showZ (oa - P.last))) ++ txt (showZ ob)) ++ txt (showZ (oc - oa))) ++ txt t5) ++ txt (varZ ac)) ++ txt (showZ (av - oa))) ++ txt (varZ (m : Int)) = txt L := by rw [← hL]; simp only [txt_append]
    have HLE : Hid (evT P ⟨ok, oa, ob, oc, os⟩ ⟨ac, av, zs⟩ = L ++ freedT oa zs) := by
      show _ = _
      rw [HEV.out, ← hL]
      unfold opT ansT
      simp only [HT5.out, Hm.out, List.append_assoc]
    have hLl : L.length ≤ 65 := by
      rw [← hL]
      simp only [List.length_append]
      have := showZ_length ok
      have := showZ_length (oa - P.last)
      have := showZ_length ob
      have := showZ_length (oc - oa)
      have := varZ_length ac
      have := showZ_length (av - oa)
      have := varZ_length (m : Int)
      omega
    rw [hTL]
    have HB0 : Hid (Below V5.heap.size V5 X) := hX
    obtain ⟨-, ⟨-, u1, -⟩, -⟩ := HC.out X hX
    clear hdep hA hus ho hL hTL g0_ y1 y2 y3 y4 y5 y6 y7 y8 s2 s3 s4 s5 s6 s7 s8 h2 h4 h7 hw2 hw4 hw7 l5 HT5 HEV HC hX
    simp only [List.mapIdx_cons, List.mapIdx_nil, Nat.reduceAdd, List.contains_cons, List.contains_nil, Nat.reduceBEq, Bool.or_false, Bool.or_true, if_true, if_false, Bool.false_eq_true]
    have CI : Hid (∀ (n : Int) (X : World), _) := fun n X => sShowInt_calls n X
    have HK5 : Hid (∀ X, Below V5.heap.size V5 X → Below W.heap.size W X) := fun X hX => HT5b.out.trans (hX.mono HT5b.out.size)
    go_wp2
    clear u1
    go_loopw [10, 11, 12] (fun s l i wr => ∃ j : Nat, j ≤ m ∧ i = .int .i64 (j : Int) ∧ l = .int .i64 (aheadAt oa zs j) ∧ s = .string (txt (L ++ freedT oa (zs.take j))) ∧ Hid (Below V5.heap.size V5 wr)) (fun _ _ i _ => m - (intOf i).toNat)
    case atStart => exact ⟨0, Nat.zero_le _, rfl, rfl, by simp only [List.take_zero, freedT, List.append_nil], HB0⟩
    case round =>
      clear HB0
      obtain ⟨j, hj, rfl, rfl, rfl, HB⟩ := hrel
      obtain ⟨-, hop, ⟨-, -, v2⟩, hres⟩ := HK.out _ (HK5.out _ HB.out)
      by_cases hlt : j < m
      · clear hop hres
        have hj2 : j < zs.length := by have := Hm.out; omega
        obtain ⟨g, off, rfl, hg, hc⟩ := HFI.out _ (HK5.out _ HB.out) j hj2
        have hzj := HZK.out _ (List.getElem_mem hj2)
        have hok : okZ (aheadAt oa zs j) := by
          unfold aheadAt
          by_cases h0 : j = 0
          · rw [if_pos h0]; exact HOA.out
          · rw [if_neg h0, List.getD_eq_getElem?_getD, List.getElem?_eq_getElem (by omega)]
            exact HZK.out _ (List.getElem_mem (by omega))
        have hft := freedT_take zs oa j hj2
        have htl := freedT_length (zs.take j) oa
        rw [List.length_take] at htl
        have HNX : Hid (txt (L ++ freedT oa (zs.take j)) ++ txt (showZ (zs[j] - aheadAt oa zs j)) = txt (L ++ freedT oa (zs.take (j + 1)))) := by
          show _ = _
          rw [txt_append, hft, List.append_assoc]; rfl
        have HAH : Hid (aheadAt oa zs (j + 1) = zs[j]) := by
          show _ = _
          unfold aheadAt
          rw [if_neg (by omega), Nat.add_sub_cancel, List.getD_eq_getElem?_getD, List.getElem?_eq_getElem hj2]; rfl
        have hw : wrap64 (zs[j] - aheadAt oa zs j) = zs[j] - aheadAt oa zs j := wrap64_in (by omega) (by omega)
        have CJ : Hid _ := CI.out (zs[j] - aheadAt oa zs j)
        have hsz : (txt (L ++ freedT oa (zs.take j))).size + (txt (showZ (zs[j] - aheadAt oa zs j))).size ≤ 9223372036854775807 := by
          rw [txt_size, txt_size, List.length_append]
          have := showZ_length (zs[j] - aheadAt oa zs j)
          omega
        have hsz2 : ¬ 9223372036854775807 < (txt (L ++ freedT oa (zs.take j))).size + (txt (showZ (zs[j] - aheadAt oa zs j))).size := Nat.not_lt.2 hsz
        have i1 : (j : Int) < (m : Int) := by omega
        have i0 : (0 : Int) ≤ (j : Int) := by omega
        clear hft htl hok hzj
        generalize txt (L ++ freedT oa (zs.take j)) = ta at *
        generalize txt (showZ (zs[j] - aheadAt oa zs j)) = tb at *
        generalize aheadAt oa zs j = h0 at *
        generalize zs[j] = z at *
        go_wp2_with fail
        refine (Calls.mono (CJ.out _) ?_)
        rintro e w7 ⟨rfl, b7⟩
        have HB7 : Hid (Below V5.heap.size V5 w7) := HB.out.trans (b7.mono HB.out.size)
        obtain ⟨-, -, ⟨-, -, v2⟩, -⟩ := HK.out _ (HK5.out _ HB7.out)
        have hc7 : w7.cell? ⟨g, off + j, none⟩ = some (.int .i64 z) := (b7.cell (p := ⟨g, off + j, none⟩) hg).trans hc
        clear hc b7 HB
        go_wp2
        go_roundw
        case rel => exact ⟨j + 1, by omega, by go_num, by rw [HAH.out], by rw [← HNX.out], HB7⟩
        case measure => simp [intOf]; omega
      · have ej : m ≤ j := by omega
        have HLF : Hid (L ++ freedT oa (zs.take j) = evT P ⟨ok, oa, ob, oc, os⟩ ⟨ac, av, zs⟩) := by
          show _ = _
          rw [HLE.out, List.take_of_length_le (by have := Hm.out; omega)]
        obtain ⟨-, u1, -⟩ := hop.cells
        simp only at u1
        obtain ⟨hx, ho⟩ := HX.out _ HB.out
        rw [hgxe] at hx hgx
        obtain ⟨x0, x1⟩ := hx.cells
        have xz : wr.frozen? ⟨gx, 0, none⟩ = false := Lib.frozen_of_heap hx 0
        have hX2 := hx.set (.int .i64 oa) (.slice y n1 cy)
        have hsw := HSW.out
        have hng : ¬ gx = w.heap.size + 1 + 1 + 1 := by omega
        have hng2 : ¬ w.heap.size + 1 + 1 + 1 = gx := by omega
        have hXa : Two (wr.setCell ⟨gx, 0, none⟩ (.int .i64 oa)) gx (.int .i64 oa) (.slice y n1 cy) := by
          unfold Two at *
          simp [World.setCell, Array.getElem?_modify, hx]
        have hRa : Two (wr.setCell ⟨gx, 0, none⟩ (.int .i64 oa)) (w.heap.size + 1 + 1 + 1) (.int .i64 0) (.slice none 0 0) := (Below.heap_setCell _ _ _ _ (by exact hng2)).trans hres
        have hOa : ownS (wr.setCell ⟨gx, 0, none⟩ (.int .i64 oa)) W.heap.size (.slice y n1 cy) (namesB P.sites os) := row_same ho (fun k hk => by
          obtain ⟨cur, hkk⟩ := row_kind ho k hk
          exact Below.heap_setCell _ _ _ _ (kind_ne hkk hx (by decide)))
        have hBa : Below w.heap.size w (wr.setCell ⟨gx, 0, none⟩ (.int .i64 oa)) := (HWX.out _ (HK5.out _ HB.out)).setCell (by simp only; omega) _
        have HF : Hid (ownS (((wr.setCell ⟨gx, 0, none⟩ (.int .i64 oa)).setCell ⟨w.heap.size + 1 + 1 + 1, 0, none⟩ (.int .i64 oa)).setCell ⟨w.heap.size + 1 + 1 + 1, 1, none⟩ (.slice y n1 cy)) w.heap.size (.slice y n1 cy) (namesB P.sites os) ∧ Below w.heap.size w (((wr.setCell ⟨gx, 0, none⟩ (.int .i64 oa)).setCell ⟨w.heap.size + 1 + 1 + 1, 0, none⟩ (.int .i64 oa)).setCell ⟨w.heap.size + 1 + 1 + 1, 1, none⟩ (.slice y n1 cy))) :=
          ⟨ownS_mono (ownS_far _ _ (ownS_far _ _ hOa (by simp only; omega)) (by simp only; omega)) (by omega), (hBa.setCell (by simp only; omega) _).setCell (by simp only; omega) _⟩
        obtain ⟨d0, d1⟩ := hXa.cells
        obtain ⟨r0, r1⟩ := hRa.cells
        have z0 : (wr.setCell ⟨gx, 0, none⟩ (.int .i64 oa)).frozen? ⟨w.heap.size + 1 + 1 + 1, 0, none⟩ = false := Lib.frozen_of_heap hRa 0
        have z1 : (wr.setCell ⟨gx, 0, none⟩ (.int .i64 oa)).frozen? ⟨w.heap.size + 1 + 1 + 1, 1, none⟩ = false := Lib.frozen_of_heap hRa 1
        clear hop hres hx ho hX2 hXa hRa hOa hBa HX HK HFI HB HK5 HT5b CI HLE hsw hgx HSW
        generalize freedT oa (zs.take j) = ft at *
        go_wp2_with fail
        generalize wr.setCell ⟨gx, 0, none⟩ (.int .i64 oa) = Z0 at *
        go_region_held (fun X => X.cell? ⟨gx, 0, none⟩ = some (.int .i64 oa) ∧ X.cell? ⟨gx, 1, none⟩ = some (.slice y n1 cy)) (first | exact ⟨d0, d1⟩ | exact ⟨(keep_far _ _ (by exact hng2) 0).trans ((keep_far _ _ (by exact hng2) 0).trans d0), (keep_far _ _ (by exact hng2) 1).trans ((keep_far _ _ (by exact hng2) 1).trans d1)⟩) (fail)
        all_goals
          go_wp2
          refine bodyPost_ret (v := .tuple #[.string (txt (L ++ ft)), .agg #[.int .i64 oa, .slice y n1 cy]]) (by simp [results, Tryd.results28, go_sem, *]) rfl ⟨.agg #[.int .i64 oa, .slice y n1 cy], by rw [HLF.out], ⟨.slice y n1 cy, rfl, HF.out.1⟩, HF.out.2.drew⟩

end Go.Proofs.YtcjpepdagnifiaaDoor

namespace Go.Proofs.YtcjpepdagnifiaaDoor
open Go.RowKit
set_option linter.unusedVariables false
set_option maxRecDepth 100000

/-- All that was there but one row is as it was. -/
structure Mk (a : Option Addr) (n : Nat) (X Y : World) : Prop where
  os : Y.os = X.os
  tape : Y.tape = X.tape
  output : Y.output = X.output
  size : X.heap.size ≤ Y.heap.size
  block : ∀ g, g < X.heap.size → (0 < n → ∀ x, a = some x → x.block ≠ g) → Y.heap[g]? = X.heap[g]?
theorem mk_io {L : Sts} : ∀ (w : World), (stores w L).os = w.os ∧ (stores w L).tape = w.tape ∧ (stores w L).output = w.output := by
  induction L with
  | nil => intro w; exact ⟨rfl, rfl, rfl⟩
  | cons p r ih => intro w; exact ih _
theorem mk_of {a : Option Addr} {n : Nat} {X Y Z : World} {L : Sts} (hb : Below X.heap.size X Y) (hk : Below Y.heap.size (stores Y L) Z) (hL : ∀ p ∈ L, 0 < n ∧ ∃ x, a = some x ∧ p.1.block = x.block) : Mk a n X Z := by
  have io := mk_io (L := L) Y
  have hs := hk.size
  rw [stores_size] at hs
  refine ⟨hk.os.trans (io.1.trans hb.os), hk.tape.trans (io.2.1.trans hb.tape), hk.output.trans (io.2.2.trans hb.output), Nat.le_trans hb.size hs, fun g hg hn => ?_⟩
  have hgY : g < Y.heap.size := Nat.lt_of_lt_of_le hg hb.size
  rw [hk.block g hgY, stores_block L g (fun p hp e => ?_) Y, hb.block g hg]
  obtain ⟨h0, x, hx, e2⟩ := hL p hp
  exact hn h0 x hx (e2.symm.trans e)
theorem canS_own {w : World} {B : Nat} {a : Option Addr} {c : Nat} {zs : List (List UInt8)} (h : ownS w B (.slice a zs.length c) zs) : CanI w a zs.length := by
  rcases ownS_form h with ⟨e, e2⟩ | ⟨g, cap, e, -, hg, -, -, hc⟩
  · intro j hj
    rw [e2] at hj
    simp at hj
  · simp only [Value.slice.injEq] at e
    obtain ⟨rfl, -, -⟩ := e
    intro j hj
    obtain ⟨h1, h2⟩ := hc.out j hj
    exact ⟨g, 0, rfl, hg, ⟨_, by rw [Nat.zero_add]; exact h1⟩, by rw [Nat.zero_add]; exact h2⟩
theorem canI_own2 {w : World} {B : Nat} {a : Option Addr} {c : Nat} {zs : List Int} (h : ownI w B (.slice a zs.length c) zs) : CanI w a zs.length := by
  rcases h with ⟨h1, ⟨h2, h3⟩ | ⟨g, cap, cur, h2, h3, h4, h5, h6, h7⟩⟩
  · intro j hj; omega
  · simp only [Value.slice.injEq] at h2
    obtain ⟨rfl, -, rfl⟩ := h2
    intro j hj
    exact ⟨g, 0, rfl, (Array.getElem?_eq_some_iff.1 h4).1, ⟨cur[j]'(by omega), by simp [World.cell?, h4]⟩, by simp [World.frozen?, h4]⟩

theorem markPen_m (w : World) (l : Int) (a : Option Addr) (n cap k : Nat) (h : CanI w a n) (hz : n ≤ 16777216) (h0 : 0 < k) (h1 : k ≤ 1000000000000) :
    Calls Tryd.prog 12 #[.agg #[.int .i64 l, .slice a n cap], .int .i64 (k : Int)] w fun e w' => e = .returned (.int .i64 ((k : Int) + (n : Int))) ∧ Mk a n w w' ∧ ∀ p ∈ mkS a k n, w'.cell? p.1 = some p.2 := by
  obtain ⟨W, hW⟩ : ∃ W, W = w.alloc (.cells #[.int .i64 l, .slice a n cap] 31) := ⟨_, rfl⟩
  have BW : Below w.heap.size w W := by rw [hW]; exact (Below.refl _ _).alloc (Nat.le_refl _) _
  have hcW : CanI W a n := canI_later h BW
  have CM : Hid (∀ _ : Unit, _) := fun (_ : Unit) => markStringS_st W a n cap k hcW hz h0 (by omega)
  have HBW : Hid (Below w.heap.size w W) := BW
  have HC : Hid (CanI W a n) := hcW
  clear hcW h BW
  go_enter Tryd.func12, Tryd.ntmps12
  go_wp2_with fail
  rw [← hW]
  clear hW
  refine (CM.out ()).mono ?_
  rintro e w1 ⟨rfl, b1⟩
  have HB1 : Hid (Below W.heap.size (stores W (mkS a k n)) w1) := b1
  clear b1 CM
  go_wp2
  go_ret
  refine ⟨rfl, mk_of HBW.out HB1.out (fun p hp => mkS_block a k n p hp), fun p hp => ?_⟩
  have hlt : p.1.block < W.heap.size := by
    obtain ⟨h2, x, hx, e⟩ := mkS_block a k n p hp
    obtain ⟨g, off, e3, hg, -, -⟩ := HC.out 0 h2
    rw [hx] at e3
    rw [e, Option.some.inj e3]
    exact hg
  rw [HB1.out.cell hlt]
  refine stores_mem _ (mkS_nodup a k n) W (fun q hq => ?_) p hp
  obtain ⟨h2, x, hx, e⟩ := mkS_block a k n q hq
  have hq2 := hq
  rw [hx] at hq2
  unfold mkS at hq2
  obtain ⟨j, hj, rfl⟩ := List.mem_map.1 hq2
  obtain ⟨g', off', e', -, hx', -⟩ := HC.out j (List.mem_range.1 hj)
  rw [hx] at e'
  obtain rfl := Option.some.inj e'
  exact hx'

theorem heldPen_m (w : World) (l : Int) (a : Option Addr) (n cap k : Nat) (h : ∀ p ∈ mkS a k n, w.cell? p.1 = some p.2) (ha : 0 < n → ∃ g off, a = some ⟨g, off, none⟩) (hz : n ≤ 16777216) (h0 : 0 < k) (h1 : k ≤ 1000000000000) :
    Calls Tryd.prog 15 #[.agg #[.int .i64 l, .slice a n cap], .int .i64 (k : Int)] w fun e w' => e = .returned (.int .i64 ((k : Int) + (n : Int))) ∧ Below w.heap.size w w' := by
  obtain ⟨W, hW⟩ : ∃ W, W = w.alloc (.cells #[.int .i64 l, .slice a n cap] 31) := ⟨_, rfl⟩
  have BW : Below w.heap.size w W := by rw [hW]; exact (Below.refl _ _).alloc (Nat.le_refl _) _
  have CM : Hid (∀ _ : Unit, _) := fun (_ : Unit) => heldStringS_at W a n cap k (fun p hp => (BW.cell (World.block_lt_of_cell? w _ (h p hp))).trans (h p hp)) ha hz h0 (by omega)
  have hk : ¬ (k : Int) + (n : Int) < 0 := by omega
  clear h ha
  go_enter Tryd.func15, Tryd.ntmps15
  go_wp2_with fail
  rw [← hW]
  clear hW
  refine (CM.out ()).mono ?_
  rintro e w1 ⟨rfl, b1⟩
  have HX : Hid (Below w.heap.size w w1) := BW.trans (b1.mono BW.size)
  clear b1 CM BW
  go_wp2
  go_ret
  exact ⟨rfl, HX.out⟩

theorem markAns_m (w : World) (c v : Int) (a : Option Addr) (n cap : Nat) (k : Int) (h : CanI w a n) (hz : n ≤ 16777216) (h0 : 0 ≤ k) (h1 : k ≤ 1000000000000) :
    Calls Tryd.prog 13 #[.agg #[.int .i64 c, .int .i64 v, .slice a n cap], .int .i64 k] w fun e w' => e = .returned (.int .i64 (k + (n : Int))) ∧ Mk a n w w' := by
  refine (markAnswer_st w c v a n cap k h hz h0 (by omega)).mono ?_
  rintro e w' ⟨rfl, w1, rfl, b1⟩
  exact ⟨rfl, mk_of b1 (Below.refl _ _) (fun p hp => mkI_block a k n p hp)⟩

theorem eqPen_big (w : World) (v u : Value) (P : PenD) (h1 : RdP w v P) (h2 : RdP w u P) (hs : P.sites.length ≤ 16777216) :
    Calls Tryd.prog 11 #[v, u] w fun e w' => e = .returned (.bool true) ∧ Below w.heap.size w w' := by
  obtain ⟨sa, sc, rfl, rs⟩ := h1
  obtain ⟨sa2, sc2, rfl, rs2⟩ := h2
  have CS : Hid (∀ X, Below w.heap.size w X → _) := fun X hX => eqStringS_rd X sa sa2 sc sc2 P.sites (rdS_later rs hX) (rdS_later rs2 hX) hs
  clear rs rs2
  obtain ⟨W, hW⟩ : ∃ W, W = (w.alloc (.cells #[.int .i64 P.last, .slice sa P.sites.length sc] 31)).alloc (.cells #[.int .i64 P.last, .slice sa2 P.sites.length sc2] 31) := ⟨_, rfl⟩
  have BW : Below w.heap.size w W := by
    rw [hW]
    exact ((Below.refl _ _).alloc (Nat.le_refl _) _).alloc (by simp) _
  go_enter Tryd.func11, Tryd.ntmps11
  go_wp2_with fail
  rw [← hW]
  refine (CS.out _ BW).mono ?_
  rintro e w4 ⟨rfl, b4⟩
  have B4 := BW.trans (b4.mono BW.size)
  clear hW
  go_wp2
  go_ret
  exact ⟨rfl, B4⟩

theorem row_blk {w : World} {B n m c : Nat} {t : TypeId} {a : Option Addr} {xs : List Value} (h : w.ownsRow B t 1 (.slice a n c) m xs) (x : Addr) (hx : a = some x) : B ≤ x.block ∧ x.block < w.heap.size ∧ ∃ cur, w.heap[x.block]? = some (.cells cur t (0, 0)) := by
  rcases h with ⟨h1, ⟨h2, _⟩ | ⟨g, cap, cur, h2, h3, h4, h5⟩⟩
  · simp only [Value.slice.injEq] at h2
    rw [h2.1] at hx
    cases hx
  · simp only [Value.slice.injEq] at h2
    rw [h2.1] at hx
    obtain rfl := Option.some.inj hx
    exact ⟨h3, (Array.getElem?_eq_some_iff.1 h4).1, cur, h4⟩
theorem mk_below {B n : Nat} {a : Option Addr} {X Y : World} (m : Mk a n X Y) (hb : B ≤ X.heap.size) (ha : ∀ x, a = some x → B ≤ x.block) : Below B X Y :=
  ⟨m.os, m.tape, m.output, m.size, fun g hg => m.block g (Nat.lt_of_lt_of_le hg hb) (fun _ x hx e => by have := ha x hx; omega)⟩
/-- A row of another kind is as it was. -/
theorem mk_kind {B n k c : Nat} {a : Option Addr} {X Y : World} {t t2 : TypeId} {xs : List Value} {cs : Array Value} {g : Nat} (m : Mk a n X Y) (h : X.ownsRow B t 1 (.slice a n c) k xs) (h2 : X.heap[g]? = some (.cells cs t2 (0, 0))) (hne : t ≠ t2) : Y.heap[g]? = X.heap[g]? :=
  m.block g (Array.getElem?_eq_some_iff.1 h2).1 (fun _ x hx => by
    obtain ⟨-, -, cur, h3⟩ := row_blk h x hx
    exact kind_ne h3 h2 hne)
theorem mk_two {B n k c : Nat} {a : Option Addr} {X Y : World} {xs : List Value} {g : Nat} {x0 x1 : Value} {t : TypeId} (m : Mk a n X Y) (h : X.ownsRow B t 1 (.slice a n c) k xs) (h2 : X.heap[g]? = some (.cells #[x0, x1] 31 (0, 0))) (hne : t ≠ 31) : Y.heap[g]? = some (.cells #[x0, x1] 31 (0, 0)) := (mk_kind m h h2 hne).trans h2
theorem mk_own_kind {B B2 n k c k2 : Nat} {a : Option Addr} {X Y : World} {t t2 : TypeId} {xs xs2 : List Value} {v : Value} (m : Mk a n X Y) (h : X.ownsRow B t 1 (.slice a n c) k xs) (h2 : X.ownsRow B2 t2 1 v k2 xs2) (hne : t ≠ t2) : Y.ownsRow B2 t2 1 v k2 xs2 :=
  row_same h2 (fun g hg => by
    obtain ⟨cur, hk⟩ := row_kind h2 g hg
    exact mk_kind m h hk hne)
theorem mk_own_lt {B2 n k2 : Nat} {a : Option Addr} {X Y : World} {t2 : TypeId} {xs2 : List Value} {v : Value} (m : Mk a n X Y) (h : ∀ x, a = some x → x.block < B2) (h2 : X.ownsRow B2 t2 1 v k2 xs2) : Y.ownsRow B2 t2 1 v k2 xs2 :=
  row_same h2 (fun g hg => m.block g (World.ownsRow.lt h2 g hg).2 (fun _ x hx e => by
    have l1 := h x hx
    have l2 := (World.ownsRow.lt h2 g hg).1
    omega))
theorem markPen_1 (w : World) (l : Int) (a : Option Addr) (n cap : Nat) (h : CanI w a n) (hz : n ≤ 16777216) :
    Calls Tryd.prog 12 #[.agg #[.int .i64 l, .slice a n cap], .int .i64 1] w fun e w' => e = .returned (.int .i64 (1 + (n : Int))) ∧ Mk a n w w' ∧ ∀ p ∈ mkS a 1 n, w'.cell? p.1 = some p.2 :=
  markPen_m w l a n cap 1 h hz (by decide) (by decide)
theorem heldPen_1 (w : World) (l : Int) (a : Option Addr) (n cap : Nat) (h : ∀ p ∈ mkS a 1 n, w.cell? p.1 = some p.2) (ha : 0 < n → ∃ g off, a = some ⟨g, off, none⟩) (hz : n ≤ 16777216) :
    Calls Tryd.prog 15 #[.agg #[.int .i64 l, .slice a n cap], .int .i64 1] w fun e w' => e = .returned (.int .i64 (1 + (n : Int))) ∧ Below w.heap.size w w' :=
  heldPen_m w l a n cap 1 h ha hz (by decide) (by decide)
theorem canI_at {w : World} {a : Option Addr} {n : Nat} (h : CanI w a n) (h0 : 0 < n) : ∃ g off, a = some ⟨g, off, none⟩ := by
  obtain ⟨g, off, e, -⟩ := h 0 h0
  exact ⟨g, off, e⟩

end Go.Proofs.YtcjpepdagnifiaaDoor

namespace Go.Proofs.YtcjpepdagnifiaaDoor
open Go.RowKit
set_option linter.unusedVariables false
set_option maxRecDepth 100000

theorem opLoadLPn {t i : Tmp} {ty : TypeId} {pos : String} {af : Array Edge} {a : Act} {X : World} {K : Act → World → Prop} {Q : Exit → Act → World → Prop} {g : Nat} {x0 x1 : Value} (h1 : a.eval (.tmp i) = .pointer (some ⟨g, 0, none⟩)) (hc : X.cell? ⟨g, 0, none⟩ = some x0 ∧ X.cell? ⟨g, 1, none⟩ = some x1) (hK : K (a.put (some t) (.agg #[x0, x1])) X) :
    Oper.wp Tryd.prog ⟨some t, .load 24 (.tmp i), ty, pos, af, none⟩ a X K Q := by
  have h := ev_tmp h1
  obtain ⟨c0, c1⟩ := hc
  go_simp; exact hK
theorem opLoadLAn {t i : Tmp} {ty : TypeId} {pos : String} {af : Array Edge} {a : Act} {X : World} {K : Act → World → Prop} {Q : Exit → Act → World → Prop} {g : Nat} {x0 x1 x2 : Value} (h1 : a.eval (.tmp i) = .pointer (some ⟨g, 0, none⟩)) (hc : X.cell? ⟨g, 0, none⟩ = some x0 ∧ X.cell? ⟨g, 1, none⟩ = some x1 ∧ X.cell? ⟨g, 2, none⟩ = some x2) (hK : K (a.put (some t) (.agg #[x0, x1, x2])) X) :
    Oper.wp Tryd.prog ⟨some t, .load 75 (.tmp i), ty, pos, af, none⟩ a X K Q := by
  have h := ev_tmp h1
  obtain ⟨c0, c1, c2⟩ := hc
  go_simp; exact hK
theorem opLoadPn {t i : Tmp} {ty : TypeId} {pos : String} {af : Array Edge} {a : Act} {X : World} {K : Act → World → Prop} {Q : Exit → Act → World → Prop} {g : Nat} {x0 x1 : Value} (h1 : a.eval (.tmp i) = .pointer (some ⟨g, 0, none⟩)) (hc : X.cell? ⟨g, 0, none⟩ = some x0 ∧ X.cell? ⟨g, 1, none⟩ = some x1) (hK : K (a.put (some t) (.agg #[x0, x1])) X) :
    Oper.wp Tryd.prog ⟨some t, .load 31 (.tmp i), ty, pos, af, none⟩ a X K Q := by
  have h := ev_tmp h1
  obtain ⟨c0, c1⟩ := hc
  go_simp; exact hK
theorem opLoadAns {t i : Tmp} {ty : TypeId} {pos : String} {af : Array Edge} {a : Act} {X : World} {K : Act → World → Prop} {Q : Exit → Act → World → Prop} {g : Nat} {x0 x1 x2 : Value} (h1 : a.eval (.tmp i) = .pointer (some ⟨g, 0, none⟩)) (hc : X.cell? ⟨g, 0, none⟩ = some x0 ∧ X.cell? ⟨g, 1, none⟩ = some x1 ∧ X.cell? ⟨g, 2, none⟩ = some x2) (hK : K (a.put (some t) (.agg #[x0, x1, x2])) X) :
    Oper.wp Tryd.prog ⟨some t, .load 30 (.tmp i), ty, pos, af, none⟩ a X K Q := by
  have h := ev_tmp h1
  obtain ⟨c0, c1, c2⟩ := hc
  go_simp; exact hK
theorem opLoadLOp {t i : Tmp} {ty : TypeId} {pos : String} {af : Array Edge} {a : Act} {X : World} {K : Act → World → Prop} {Q : Exit → Act → World → Prop} {g : Nat} {o : OpD} (h1 : a.eval (.tmp i) = .pointer (some ⟨g, 0, none⟩)) (hc : OpAt g o X) (hK : K (a.put (some t) (opV o)) X) :
    Oper.wp Tryd.prog ⟨some t, .load 73 (.tmp i), ty, pos, af, none⟩ a X K Q := by
  have h := ev_tmp h1
  obtain ⟨c0, c1, c2, c3, c4⟩ := hc.cells
  unfold opV at hK
  clear hc
  go_simp; exact hK
theorem opEx0 {t i : Tmp} {ty : TypeId} {pos : String} {af : Array Edge} {a : Act} {X : World} {K : Act → World → Prop} {Q : Exit → Act → World → Prop} {x y : Value} (h1 : a.eval (.tmp i) = .tuple #[x, y]) (hK : K (a.put (some t) x) X) :
    Oper.wp Tryd.prog ⟨some t, .extract (.tmp i) 0, ty, pos, af, none⟩ a X K Q := by
  have h := ev_tmp h1
  go_simp; exact hK
theorem opEx1 {t i : Tmp} {ty : TypeId} {pos : String} {af : Array Edge} {a : Act} {X : World} {K : Act → World → Prop} {Q : Exit → Act → World → Prop} {x y : Value} (h1 : a.eval (.tmp i) = .tuple #[x, y]) (hK : K (a.put (some t) y) X) :
    Oper.wp Tryd.prog ⟨some t, .extract (.tmp i) 1, ty, pos, af, none⟩ a X K Q := by
  have h := ev_tmp h1
  go_simp; exact hK
theorem opToPen {t i : Tmp} {ty : TypeId} {pos : String} {af : Array Edge} {ats : Array TypeId} {a : Act} {X : World} {K : Act → World → Prop} {Q : Exit → Act → World → Prop} {u : Value} {post : Ending → World → Prop} (h1 : a.eval (.tmp i) = u) (hC : Calls Tryd.prog 7 #[u] X post) (hK : ∀ e w', post e w' → ∃ x, e = .returned x ∧ K (a.put (some t) x) w') :
    Oper.wp Tryd.prog ⟨some t, .call { callee := .value (.func 7), args := #[.tmp i], argTypes := ats }, ty, pos, af, none⟩ a X K Q := by
  have e1 := ev_tmp h1
  go_simp
  refine hC.mono (fun e w' hp => ?_)
  obtain ⟨x, rfl, hx⟩ := hK e w' hp
  exact hx
theorem opToOpl {t i : Tmp} {ty : TypeId} {pos : String} {af : Array Edge} {ats : Array TypeId} {a : Act} {X : World} {K : Act → World → Prop} {Q : Exit → Act → World → Prop} {u : Value} {post : Ending → World → Prop} (h1 : a.eval (.tmp i) = u) (hC : Calls Tryd.prog 43 #[u] X post) (hK : ∀ e w', post e w' → ∃ x, e = .returned x ∧ K (a.put (some t) x) w') :
    Oper.wp Tryd.prog ⟨some t, .call { callee := .value (.func 43), args := #[.tmp i], argTypes := ats }, ty, pos, af, none⟩ a X K Q := by
  have e1 := ev_tmp h1
  go_simp
  refine hC.mono (fun e w' hp => ?_)
  obtain ⟨x, rfl, hx⟩ := hK e w' hp
  exact hx
theorem opToAns {t i : Tmp} {ty : TypeId} {pos : String} {af : Array Edge} {ats : Array TypeId} {a : Act} {X : World} {K : Act → World → Prop} {Q : Exit → Act → World → Prop} {u : Value} {post : Ending → World → Prop} (h1 : a.eval (.tmp i) = u) (hC : Calls Tryd.prog 44 #[u] X post) (hK : ∀ e w', post e w' → ∃ x, e = .returned x ∧ K (a.put (some t) x) w') :
    Oper.wp Tryd.prog ⟨some t, .call { callee := .value (.func 44), args := #[.tmp i], argTypes := ats }, ty, pos, af, none⟩ a X K Q := by
  have e1 := ev_tmp h1
  go_simp
  refine hC.mono (fun e w' hp => ?_)
  obtain ⟨x, rfl, hx⟩ := hK e w' hp
  exact hx
theorem opEqPn {t i j : Tmp} {ty : TypeId} {pos : String} {af : Array Edge} {ats : Array TypeId} {a : Act} {X : World} {K : Act → World → Prop} {Q : Exit → Act → World → Prop} {u v : Value} {post : Ending → World → Prop} (h1 : a.eval (.tmp i) = u) (h2 : a.eval (.tmp j) = v) (hC : Calls Tryd.prog 11 #[u, v] X post) (hK : ∀ e w', post e w' → ∃ x, e = .returned x ∧ K (a.put (some t) x) w') :
    Oper.wp Tryd.prog ⟨some t, .call { callee := .value (.func 11), args := #[.tmp i, .tmp j], argTypes := ats }, ty, pos, af, none⟩ a X K Q := by
  have e1 := ev_tmp h1
  have e2 := ev_tmp h2
  go_simp
  refine hC.mono (fun e w' hp => ?_)
  obtain ⟨x, rfl, hx⟩ := hK e w' hp
  exact hx
theorem opEqAn {t i j : Tmp} {ty : TypeId} {pos : String} {af : Array Edge} {ats : Array TypeId} {a : Act} {X : World} {K : Act → World → Prop} {Q : Exit → Act → World → Prop} {u v : Value} {post : Ending → World → Prop} (h1 : a.eval (.tmp i) = u) (h2 : a.eval (.tmp j) = v) (hC : Calls Tryd.prog 10 #[u, v] X post) (hK : ∀ e w', post e w' → ∃ x, e = .returned x ∧ K (a.put (some t) x) w') :
    Oper.wp Tryd.prog ⟨some t, .call { callee := .value (.func 10), args := #[.tmp i, .tmp j], argTypes := ats }, ty, pos, af, none⟩ a X K Q := by
  have e1 := ev_tmp h1
  have e2 := ev_tmp h2
  go_simp
  refine hC.mono (fun e w' hp => ?_)
  obtain ⟨x, rfl, hx⟩ := hK e w' hp
  exact hx
theorem opShS {t i j k : Tmp} {ty : TypeId} {pos : String} {af : Array Edge} {ats : Array TypeId} {a : Act} {X : World} {K : Act → World → Prop} {Q : Exit → Act → World → Prop} {u v x : Value} {post : Ending → World → Prop} (h1 : a.eval (.tmp i) = u) (h2 : a.eval (.tmp j) = v) (h3 : a.eval (.tmp k) = x) (hC : Calls Tryd.prog 28 #[u, v, x] X post) (hK : ∀ e w', post e w' → ∃ x, e = .returned x ∧ K (a.put (some t) x) w') :
    Oper.wp Tryd.prog ⟨some t, .call { callee := .value (.func 28), args := #[.tmp i, .tmp j, .tmp k], argTypes := ats }, ty, pos, af, none⟩ a X K Q := by
  have e1 := ev_tmp h1
  have e2 := ev_tmp h2
  have e3 := ev_tmp h3
  go_simp
  refine hC.mono (fun e w' hp => ?_)
  obtain ⟨x, rfl, hx⟩ := hK e w' hp
  exact hx
theorem opShI {t i j k : Tmp} {ty : TypeId} {pos : String} {af : Array Edge} {ats : Array TypeId} {a : Act} {X : World} {K : Act → World → Prop} {Q : Exit → Act → World → Prop} {u v x : Value} {post : Ending → World → Prop} (h1 : a.eval (.tmp i) = u) (h2 : a.eval (.tmp j) = v) (h3 : a.eval (.tmp k) = x) (hC : Calls Tryd.prog 45 #[u, v, x] X post) (hK : ∀ e w', post e w' → ∃ x, e = .returned x ∧ K (a.put (some t) x) w') :
    Oper.wp Tryd.prog ⟨some t, .call { callee := .value (.func 45), args := #[.tmp i, .tmp j, .tmp k], argTypes := ats }, ty, pos, af, none⟩ a X K Q := by
  have e1 := ev_tmp h1
  have e2 := ev_tmp h2
  have e3 := ev_tmp h3
  go_simp
  refine hC.mono (fun e w' hp => ?_)
  obtain ⟨x, rfl, hx⟩ := hK e w' hp
  exact hx
theorem opNotT {t i : Tmp} {ty : TypeId} {pos : String} {af : Array Edge} {a : Act} {X : World} {K : Act → World → Prop} {Q : Exit → Act → World → Prop} (h1 : a.eval (.tmp i) = .bool true) (hK : K (a.put (some t) (.bool false)) X) :
    Oper.wp Tryd.prog ⟨some t, .unOp .not 4 (.tmp i), ty, pos, af, none⟩ a X K Q := by
  have h := ev_tmp h1
  go_simp; exact hK
def RQp (vu vp : Value) (P : PenD) : Nat → World → Value → Prop
  | 0, _, v => v = vu
  | 1, _, v => v = vp
  | 2, X, v => RdP X v P
  | 3, _, v => v = .bool true
  | _, _, _ => True
theorem rqp_mono {vu vp : Value} {P : PenD} (i : Nat) (X Y : World) (v : Value) (h : RQp vu vp P i X v) (hb : Below X.heap.size X Y) : RQp vu vp P i Y v := by
  match i, h with
  | 0, h => exact h
  | 1, h => exact h
  | 2, h => exact rdP_later h hb
  | 3, h => exact h
  | n + 4, _ => exact trivial
def RQa (vu vp : Value) (A : AnsD) : Nat → World → Value → Prop
  | 0, _, v => v = vu
  | 1, _, v => v = vp
  | 2, X, v => RdA X v A
  | 3, _, v => v = .bool true
  | _, _, _ => True
theorem rqa_mono {vu vp : Value} {A : AnsD} (i : Nat) (X Y : World) (v : Value) (h : RQa vu vp A i X v) (hb : Below X.heap.size X Y) : RQa vu vp A i Y v := by
  match i, h with
  | 0, h => exact h
  | 1, h => exact h
  | 2, h => exact rdA_later h hb
  | 3, h => exact h
  | n + 4, _ => exact trivial

def KPn (B : Nat) (Q : PenD) (X : World) (v : Value) : Prop := ∃ y c, v = .agg #[.int .i64 Q.last, .slice y Q.sites.length c] ∧ ownS X B (.slice y Q.sites.length c) Q.sites
def KRes (B : Nat) (T : ByteArray) (Q : PenD) (X : World) (v : Value) : Prop := ∃ u, v = .tuple #[.string T, u] ∧ KPn B Q X u
theorem kpn_mono {B : Nat} {Q : PenD} {X Y : World} {v : Value} (h : KPn B Q X v) (hb : Below X.heap.size X Y) : KPn B Q Y v := h.imp fun y h => h.imp fun c h => ⟨h.1, ownS_later h.2 hb⟩
theorem kres_mono {B : Nat} {T : ByteArray} {Q : PenD} {X Y : World} {v : Value} (h : KRes B T Q X v) (hb : Below X.heap.size X Y) : KRes B T Q Y v := h.imp fun u h => ⟨h.1, kpn_mono h.2 hb⟩
/-- What the region yields that asks with three arguments. -/
def RSh (B : Nat) (vp vo va : Value) (P : PenD) (A : AnsD) (T : ByteArray) (Q : PenD) : Nat → World → Value → Prop
  | 0, _, v => v = vp
  | 1, X, v => RdP X v P
  | 2, _, v => v = vo
  | 3, _, v => v = vo
  | 4, _, v => v = va
  | 5, X, v => RdA X v A
  | 6, X, v => KRes B T Q X v
  | 7, X, v => KRes B T Q X v
  | 8, _, v => v = .string T
  | 9, X, v => KPn B Q X v
  | 10, X, v => KTwo B X v
  | 11, _, v => v = .string T
  | _, _, _ => True
theorem rsh_mono {B : Nat} {vp vo va : Value} {P : PenD} {A : AnsD} {T : ByteArray} {Q : PenD} (i : Nat) (X Y : World) (v : Value) (h : RSh B vp vo va P A T Q i X v) (hb : Below X.heap.size X Y) : RSh B vp vo va P A T Q i Y v := by
  match i, h with
  | 0, h => exact h
  | 1, h => exact rdP_later h hb
  | 2, h => exact h
  | 3, h => exact h
  | 4, h => exact h
  | 5, h => exact rdA_later h hb
  | 6, h => exact kres_mono h hb
  | 7, h => exact kres_mono h hb
  | 8, h => exact h
  | 9, h => exact kpn_mono h hb
  | 10, h => exact ktwo_mono B X Y v h hb
  | 11, h => exact h
  | n + 12, _ => exact trivial
/-- What the region yields that asks with what lies in boxes. -/
def RSx (B : Nat) (vp vo va : Value) (T : ByteArray) (Q : PenD) : Nat → World → Value → Prop
  | 0, _, v => v = vp
  | 1, _, v => v = vo
  | 2, _, v => v = vo
  | 3, _, v => v = va
  | 4, X, v => KRes B T Q X v
  | 5, X, v => KRes B T Q X v
  | 6, _, v => v = .string T
  | 7, X, v => KPn B Q X v
  | 8, X, v => KTwo B X v
  | 9, _, v => v = .string T
  | _, _, _ => True
theorem rsx_mono {B : Nat} {vp vo va : Value} {T : ByteArray} {Q : PenD} (i : Nat) (X Y : World) (v : Value) (h : RSx B vp vo va T Q i X v) (hb : Below X.heap.size X Y) : RSx B vp vo va T Q i Y v := by
  match i, h with
  | 0, h => exact h
  | 1, h => exact h
  | 2, h => exact h
  | 3, h => exact h
  | 4, h => exact kres_mono h hb
  | 5, h => exact kres_mono h hb
  | 6, h => exact h
  | 7, h => exact kpn_mono h hb
  | 8, h => exact ktwo_mono B X Y v h hb
  | 9, h => exact h
  | n + 10, _ => exact trivial
/-- What a ShowEvent answers. -/
def ShowAt (f : Nat) (P : PenD) (o : OpD) (A : AnsD) (T : List UInt8) (Q : PenD) (E : World → Prop) : Prop := ∀ X u ua, E X → RdP X u P → RdA X ua A → Calls Tryd.prog f #[u, opV o, ua] X fun e w' => ∃ x, e = .returned (.tuple #[.string (txt T), x]) ∧ OwnP w' X.heap.size x Q ∧ Below X.heap.size X w'
theorem rdA_ownI {X : World} {B : Nat} {A : AnsD} {a : Option Addr} {c : Nat} (h : ownI X B (.slice a A.freed.length c) A.freed) : RdA X (.agg #[.int .i64 A.code, .int .i64 A.val, .slice a A.freed.length c]) A := by
  obtain ⟨a', c', e', hr'⟩ := rdI_own' h
  simp only [Value.slice.injEq] at e'
  obtain ⟨rfl, -, rfl⟩ := e'
  exact ⟨a, c, rfl, hr'⟩
theorem ownP_kpn {X : World} {B C : Nat} {v : Value} {Q : PenD} (h : OwnP X B v Q) (hC : C ≤ B) : KPn C Q X v := by
  obtain ⟨vs, rfl, hs⟩ := h
  obtain ⟨y, c, rfl, -⟩ := rdS_own hs
  exact ⟨y, c, rfl, ownS_mono hs hC⟩
theorem kpn_rd {X : World} {B : Nat} {v : Value} {Q : PenD} (h : KPn B Q X v) : RdP X v Q := by
  obtain ⟨y, c, rfl, hs⟩ := h
  obtain ⟨y', c', e, hr⟩ := rdS_own hs
  simp only [Value.slice.injEq] at e
  obtain ⟨rfl, -, rfl⟩ := e
  exact ⟨y, c, rfl, hr.out⟩

end Go.Proofs.YtcjpepdagnifiaaDoor

namespace Go.Proofs.YtcjpepdagnifiaaDoor
open Go.RowKit
set_option linter.unusedVariables false
set_option maxRecDepth 100000

/-- The pen in its box, the list so far; their rows lie apart. -/
structure ES (V : World) (gp : Nat) (P : PenD) (ts : List (List UInt8)) (x : Option Addr) (c : Nat) (y : Option Addr) (j k : Nat) (X : World) : Prop where
  pen : Two X gp (.int .i64 P.last) (.slice x P.sites.length c)
  nm : ownS X V.heap.size (.slice x P.sites.length c) P.sites
  out : ownS X V.heap.size (.slice y j k) ts
  ap : ∀ g, (Value.slice y j k).ownBlock = some g → (Value.slice x P.sites.length c).ownBlock ≠ some g
  bel : Below V.heap.size V X
  gp : V.heap.size ≤ gp
theorem ES.later {V : World} {gp : Nat} {P : PenD} {ts : List (List UInt8)} {x : Option Addr} {c : Nat} {y : Option Addr} {j k : Nat} {X Y : World} (h : ES V gp P ts x c y j k X) (b : Below X.heap.size X Y) : ES V gp P ts x c y j k Y :=
  ⟨h.pen.later b, row_later h.nm b, row_later h.out b, h.ap, h.bel.trans (b.mono h.bel.size), h.gp⟩
/-- A new pen is laid into the box. -/
theorem ES.put {V : World} {gp : Nat} {P Q : PenD} {ts : List (List UInt8)} {x x' : Option Addr} {c c' : Nat} {y : Option Addr} {j k : Nat} {Z : World} (h : ES V gp P ts x c y j k Z) (hn : ownS Z V.heap.size (.slice x' Q.sites.length c') Q.sites) (hap : ∀ g, (Value.slice y j k).ownBlock = some g → (Value.slice x' Q.sites.length c').ownBlock ≠ some g) :
    ES V gp Q ts x' c' y j k ((Z.setCell ⟨gp, 0, none⟩ (.int .i64 Q.last)).setCell ⟨gp, 1, none⟩ (.slice x' Q.sites.length c')) := by
  have far : ∀ g, g ≠ gp → ((Z.setCell ⟨gp, 0, none⟩ (.int .i64 Q.last)).setCell ⟨gp, 1, none⟩ (.slice x' Q.sites.length c')).heap[g]? = Z.heap[g]? := fun g hg => by
    rw [Below.heap_setCell _ _ _ _ (by exact hg), Below.heap_setCell _ _ _ _ (by exact hg)]
  refine ⟨h.pen.set _ _, row_same hn (fun g hg => ?_), row_same h.out (fun g hg => ?_), hap, (h.bel.setCell h.gp _).setCell h.gp _, h.gp⟩
  · obtain ⟨cur, hc⟩ := row_kind hn g hg
    exact far g (kind_ne hc h.pen (by decide))
  · obtain ⟨cur, hc⟩ := row_kind h.out g hg
    exact far g (kind_ne hc h.pen (by decide))
/-- A text is put behind the list. -/
theorem ES.app {V : World} {gp : Nat} {P : PenD} {ts : List (List UInt8)} {t : List UInt8} {x : Option Addr} {c : Nat} {y y' : Option Addr} {j k k' : Nat} {X U w' : World} (h : ES V gp P ts x c y j k X) (hb : Below X.heap.size X U) (h1 : ownS w' V.heap.size (.slice y' (j + 1) k') (ts ++ [t])) (h2 : U.heap.size ≤ w'.heap.size) (h3 : ∀ i, i < U.heap.size → (Value.slice y j k).ownBlock ≠ some i → w'.heap[i]? = U.heap[i]?)
    (h4 : (Value.slice y' (j + 1) k').ownBlock = (Value.slice y j k).ownBlock ∨ (Value.slice y' (j + 1) k').ownBlock = some U.heap.size) (h5 : Below V.heap.size U w') : ES V gp P (ts ++ [t]) x c y' (j + 1) k' w' := by
  have keep : ∀ i, i < X.heap.size → (Value.slice y j k).ownBlock ≠ some i → w'.heap[i]? = X.heap[i]? := fun i hi hn => (h3 i (Nat.lt_of_lt_of_le hi hb.size) hn).trans (hb.block i hi)
  refine ⟨(keep gp h.pen.lt (fun e => ?_)).trans h.pen, row_same h.nm (fun g hg => keep g (World.ownsRow.lt h.nm g hg).2 (fun e => h.ap g e hg)), h1, fun g hg hx => ?_, (h.bel.trans (hb.mono h.bel.size)).trans h5, h.gp⟩
  · obtain ⟨cur, hc⟩ := row_kind h.out gp e
    exact kind_ne hc h.pen (by decide) rfl
  · rcases h4 with e | e
    · rw [e] at hg
      exact h.ap g hg hx
    · rw [e] at hg
      obtain rfl := Option.some.inj hg
      have := (World.ownsRow.lt h.nm _ hx).2
      have := hb.size
      omega
theorem opIdxQ {t i j : Tmp} {ty : TypeId} {pos : String} {af : Array Edge} {a : Act} {X : World} {K : Act → World → Prop} {Q : Exit → Act → World → Prop} {g off n c k : Nat} (h1 : a.eval (.tmp i) = .slice (some ⟨g, off, none⟩) n c) (h2 : a.eval (.tmp j) = .int .i64 (k : Int)) (hk : k < n) (hK : K (a.put (some t) (.pointer (some ⟨g, off + k * 5, none⟩))) X) :
    Oper.wp Tryd.prog ⟨some t, .indexAddr 46 (.tmp i) (.tmp j), ty, pos, af, none⟩ a X K Q := by
  have e1 := ev_tmp h1
  have e2 := ev_tmp h2
  have k1 : (0 : Int) ≤ (k : Int) := by omega
  have k2 : (k : Int) < (n : Int) := by omega
  go_simp; exact hK
theorem opIdxY {t i j : Tmp} {ty : TypeId} {pos : String} {af : Array Edge} {a : Act} {X : World} {K : Act → World → Prop} {Q : Exit → Act → World → Prop} {g off n c k : Nat} (h1 : a.eval (.tmp i) = .slice (some ⟨g, off, none⟩) n c) (h2 : a.eval (.tmp j) = .int .i64 (k : Int)) (hk : k < n) (hK : K (a.put (some t) (.pointer (some ⟨g, off + k * 3, none⟩))) X) :
    Oper.wp Tryd.prog ⟨some t, .indexAddr 48 (.tmp i) (.tmp j), ty, pos, af, none⟩ a X K Q := by
  have e1 := ev_tmp h1
  have e2 := ev_tmp h2
  have k1 : (0 : Int) ≤ (k : Int) := by omega
  have k2 : (k : Int) < (n : Int) := by omega
  go_simp; exact hK
theorem opLoadOpAt {t i : Tmp} {ty : TypeId} {pos : String} {af : Array Edge} {a : Act} {X : World} {K : Act → World → Prop} {Q : Exit → Act → World → Prop} {g p : Nat} {o : OpD} (h1 : a.eval (.tmp i) = .pointer (some ⟨g, p, none⟩)) (hc : OpLie X g p o) (hK : K (a.put (some t) (.agg #[.int .i64 o.kind, .int .i64 o.a, .int .i64 o.b, .int .i64 o.c, .string (txt o.site)])) X) :
    Oper.wp Tryd.prog ⟨some t, .load 27 (.tmp i), ty, pos, af, none⟩ a X K Q := by
  have h := ev_tmp h1
  obtain ⟨c0, c1, c2, c3, c4⟩ := hc
  go_simp; exact hK
theorem opLoadAnAt {t i : Tmp} {ty : TypeId} {pos : String} {af : Array Edge} {a : Act} {X : World} {K : Act → World → Prop} {Q : Exit → Act → World → Prop} {g p : Nat} {A : AnsD} {f : Value} (h1 : a.eval (.tmp i) = .pointer (some ⟨g, p, none⟩)) (hc : AnLie X g p A f) (hK : K (a.put (some t) (.agg #[.int .i64 A.code, .int .i64 A.val, f])) X) :
    Oper.wp Tryd.prog ⟨some t, .load 30 (.tmp i), ty, pos, af, none⟩ a X K Q := by
  have h := ev_tmp h1
  obtain ⟨c0, c1, c2⟩ := hc
  go_simp; exact hK
/-- What a region yields that writes an event: known values first, then the event, the pen behind it, a box for it. -/
def RE (l : List Value) (B : Nat) (T : ByteArray) (Q : PenD) (i : Nat) (X : World) (v : Value) : Prop :=
  match l[i]? with
  | some u => v = u
  | none => match i - l.length with
    | 0 => KRes B T Q X v
    | 1 => KRes B T Q X v
    | 2 => v = .string T
    | 3 => KPn B Q X v
    | 4 => KTwo B X v
    | 5 => v = .string T
    | _ => True
theorem re_mono {l : List Value} {B : Nat} {T : ByteArray} {Q : PenD} (i : Nat) (X Y : World) (v : Value) (h : RE l B T Q i X v) (hb : Below X.heap.size X Y) : RE l B T Q i Y v := by
  revert h
  unfold RE
  cases l[i]? with
  | some u => exact fun h => h
  | none =>
    simp only
    generalize i - l.length = m
    intro h
    match m, h with
    | 0, h => exact kres_mono h hb
    | 1, h => exact kres_mono h hb
    | 2, h => exact h
    | 3, h => exact kpn_mono h hb
    | 4, h => exact ktwo_mono B X Y v h hb
    | 5, h => exact h
    | n + 6, _ => exact trivial
theorem some_block {y : Option Addr} {n c g : Nat} (h : (Value.slice y n c).ownBlock = some g) : ∃ z, y = some z ∧ z.block = g := by
  cases y with
  | none => simp [Value.ownBlock] at h
  | some z => exact ⟨z, rfl, by simpa [Value.ownBlock] using h⟩
theorem txt_isEmpty {T : List UInt8} (h : T ≠ []) : (txt T).toList.isEmpty = false := by
  cases T with
  | nil => exact absurd rfl h
  | cons a b => unfold txt; rw [ByteArray.toList_mk]; rfl
theorem txt_none : (txt []).toList.isEmpty = true := by
  unfold txt
  rw [ByteArray.toList_mk]
  rfl
theorem small_names {os : List OpD} {zs : List AnsD} {j : Nat} {P : PenD} {ts : List (List UInt8)} (h : EncR os zs j P ts) (hj : j ≤ 400) : SmallP P := by
  obtain ⟨h1, -, h2, -⟩ := encR_names h
  exact ⟨by omega, fun z hz => by have := h2 z hz; omega⟩

end Go.Proofs.YtcjpepdagnifiaaDoor
