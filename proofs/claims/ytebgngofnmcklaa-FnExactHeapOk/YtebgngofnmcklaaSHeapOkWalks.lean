/- What spec.HeapOk answers, at every heap of parts of at most 2^20. -/
import Derived.Test.YtebgngofnmcklaaHeapMath
import Derived.Test.YtebgngofnmcklaaAnyOps
import Derived.Deep.QuietTactic
import Derived.BigQuiet
import Derived.Deep.RegionWith
import Derived.Deep.RegionHeld
namespace Go.Proofs.Ytebgngofnmcklaa
open Go.RowKit
set_option linter.unusedVariables false

/-- What a walk that has boxed a heap and an object of it reads, in a world. -/
structure RV (X : World) (v : Value) (H : HeapD) (s : Nat) (ao : Option Addr) (co : Nat) (aw : Option Addr) (cw : Nat) (ab : Option Addr) (cb : Nat) (sa : Option Addr) (sc : Nat) : Prop where
  p0 : X.cell? ⟨s, 0, none⟩ = some (.slice ao H.objs.length co)
  p1 : X.cell? ⟨s, 1, none⟩ = some (.slice aw H.weaks.length cw)
  p2 : X.cell? ⟨s, 2, none⟩ = some (.slice ab H.buffer.length cb)
  p3 : X.cell? ⟨s, 3, none⟩ = some (.slice sa H.sites.length sc)
  ro : RdO X ao H.objs
  rw : RdW X aw H.weaks
  ri : RdI X ab H.buffer
  rs : RdS X sa H.sites
  lt : s < X.heap.size
theorem RV.later {X Y : World} {v : Value} {H : HeapD} {s : Nat} {ao : Option Addr} {co : Nat} {aw : Option Addr} {cw : Nat} {ab : Option Addr} {cb : Nat} {sa : Option Addr} {sc : Nat} (h : RV X v H s ao co aw cw ab cb sa sc) (hb : Below X.heap.size X Y) : RV Y v H s ao co aw cw ab cb sa sc :=
  ⟨(hb.cell (p := ⟨s, 0, none⟩) h.lt).trans h.p0, (hb.cell (p := ⟨s, 1, none⟩) h.lt).trans h.p1, (hb.cell (p := ⟨s, 2, none⟩) h.lt).trans h.p2, (hb.cell (p := ⟨s, 3, none⟩) h.lt).trans h.p3, rdO_later h.ro hb, rdW_later h.rw hb, rdI_later h.ri hb, rdS_later h.rs hb, Nat.lt_of_lt_of_le h.lt hb.size⟩
theorem RV.rd {X : World} {v : Value} {H : HeapD} {s : Nat} {ao : Option Addr} {co : Nat} {aw : Option Addr} {cw : Nat} {ab : Option Addr} {cb : Nat} {sa : Option Addr} {sc : Nat} (h : RV X v H s ao co aw cw ab cb sa sc) : RdH X (.agg #[.slice ao H.objs.length co, .slice aw H.weaks.length cw, .slice ab H.buffer.length cb, .slice sa H.sites.length sc]) H :=
  ⟨ao, co, aw, cw, ab, cb, sa, sc, rfl, h.ro, h.rw, h.ri, h.rs⟩

/-- An object's box. -/
def ObBox (X : World) (b : Nat) (o : ObjD) (f : Value) : Prop := X.heap[b]? = some (.cells #[.bool o.live, .int .i64 o.gen, .int .i64 o.site, .int .i64 o.holds, .int .i64 o.roots, .int .i64 o.count, f, .bool o.purple] 42 (0, 0))
theorem ObBox.cell {X : World} {b : Nat} {o : ObjD} {f : Value} (h : ObBox X b o f) (j : Nat) : X.cell? ⟨b, j, none⟩ = (#[.bool o.live, .int .i64 o.gen, .int .i64 o.site, .int .i64 o.holds, .int .i64 o.roots, .int .i64 o.count, f, .bool o.purple] : Array Value)[j]? := by rw [World.cell?, show X.heap[b]? = _ from h]; rfl
theorem ObBox.later {X Y : World} {b : Nat} {o : ObjD} {f : Value} (h : ObBox X b o f) (hb : Below X.heap.size X Y) : ObBox Y b o f := (hb.block b (Array.getElem?_eq_some_iff.1 h).1).trans h

theorem txt_beq_ne {y x : List UInt8} (h : y ≠ x) : ((txt y).toList == (txt x).toList) = false := by
  rw [beq_eq_false_iff_ne]
  intro e
  unfold txt at e
  rw [ByteArray.toList_mk, ByteArray.toList_mk] at e
  exact h (by simpa using e)
theorem l1In_calls (x lo hi : Int) (w : World) :
    Calls Try.prog 13 #[.int .i64 x, .int .i64 lo, .int .i64 hi] w fun e w' => e = .returned (.bool (decide (lo ≤ x ∧ x ≤ hi))) ∧ w' = w := by
  by_cases h : lo ≤ x ∧ x ≤ hi
  · rw [decide_eq_true h]; exact l1In_yes x lo hi w h.1 h.2
  · rw [decide_eq_false h]; exact l1In_no x lo hi w (by omega)

set_option maxRecDepth 100000 in
set_option maxHeartbeats 4000000 in
theorem sHeapOk_calls (v : Value) (H : HeapD) (w : World) (h : RdH w v H) (hs : SmallH H) (hf : WfH H) (hcap : CapH v) (b : Bool) (hbb : b = true ↔ OkH H) :
    Calls Try.prog 5 #[v] w fun e w' => e = .returned (.bool b) ∧ Below w.heap.size w w' := by
  obtain ⟨ao, co, aw, cw, ab, cb, sa, sc, rfl, ro, rwk, ri, rs⟩ := h
  have hcb : H.buffer.length ≤ cb := by
    obtain ⟨a0, n0, k0, a1, n1, k1, a2, n2, k2, a3, n3, k3, e, h0, h1, h2, h3⟩ := hcap
    simp only [Value.agg.injEq, Array.mk.injEq, List.cons.injEq, Value.slice.injEq] at e
    obtain ⟨-, -, ⟨-, e1, e2⟩, -⟩ := e
    omega
  clear hcap
  have HNO : Hid (¬ OkH H → b = false) := bool_no hbb
  have HYES : Hid (OkH H → b = true) := hbb.2
  clear hbb
  have l0 := hs.objs
  have l1 := hs.weaks
  have l2 := hs.buffer
  have l3 := hs.sites
  by_cases h0 : H.objs.length = 8
  rotate_left
  · have hb := HNO.out (fun ok => h0 ok.size.1)
    subst hb
    have q0 : ¬ ((H.objs.length : Int) = 8) := by omega
    clear ro rwk ri rs hs hf HNO HYES h0
    go_enter Try.func5, Try.ntmps5
    go_wp2
    go_ret
    exact ⟨rfl, (Below.refl _ _).alloc (Nat.le_refl _) _⟩
  by_cases h1 : H.weaks.length = 8
  rotate_left
  · have hb := HNO.out (fun ok => h1 ok.size.2.1)
    subst hb
    have q1 : ¬ ((H.weaks.length : Int) = 8) := by omega
    rw [h0]
    clear ro rwk ri rs hs hf HNO HYES h0 h1
    go_enter Try.func5, Try.ntmps5
    go_wp2
    go_ret
    exact ⟨rfl, (Below.refl _ _).alloc (Nat.le_refl _) _⟩
  by_cases h2 : 6 < H.sites.length
  · have hb := HNO.out (fun ok => by have := ok.size.2.2; omega)
    subst hb
    have q2 : (6 : Int) < (H.sites.length : Int) := by omega
    rw [h0, h1]
    clear ro rwk ri rs hs hf HNO HYES h0 h1
    go_enter Try.func5, Try.ntmps5
    go_wp2
    go_ret
    exact ⟨rfl, (Below.refl _ _).alloc (Nat.le_refl _) _⟩
  have hn6 : H.sites.length ≤ 6 := by omega
  obtain ⟨W, hW⟩ : ∃ W, W = w.alloc (.cells #[.slice ao H.objs.length co, .slice aw H.weaks.length cw, .slice ab H.buffer.length cb, .slice sa H.sites.length sc] 33) := ⟨_, rfl⟩
  have BW : Below w.heap.size w W := by rw [hW]; exact (Below.refl _ _).alloc (Nat.le_refl _) _
  have RW : Hid (RV W (.agg #[.slice ao H.objs.length co, .slice aw H.weaks.length cw, .slice ab H.buffer.length cb, .slice sa H.sites.length sc]) H w.heap.size ao co aw cw ab cb sa sc) := by
    obtain ⟨k0, k1, k2, k3⟩ := four_kept w 33 (.slice ao H.objs.length co) (.slice aw H.weaks.length cw) (.slice ab H.buffer.length cb) (.slice sa H.sites.length sc) W (by rw [hW]; exact Below.refl _ _)
    exact ⟨k0, k1, k2, k3, rdO_later ro BW, rdW_later rwk BW, rdI_later ri BW, rdS_later rs BW, by rw [hW]; simp⟩
  have HS : Hid (SmallH H) := hs
  have HF : Hid (WfH H) := hf
  have H0 : Hid (H.objs.length = 8) := h0
  have H1 : Hid (H.weaks.length = 8) := h1
  rw [h0, h1] at hW
  rw [h0, h1]
  clear ro rwk ri rs hs hf h0 h1
  go_enter Try.func5, Try.ntmps5
  go_wp2
  rw [← hW]
  clear hW
  go_loopw [3] (fun i wr => ∃ j : Nat, j ≤ 8 ∧ i = .int .i64 (j : Int) ∧ Below W.heap.size W wr ∧ Hid (∀ i (h : i < H.objs.length), i < j → okO H i H.objs[i])) (fun i _ => 8 - (intOf i).toNat)
  case atStart => exact ⟨0, by omega, rfl, Below.refl _ _, fun i _ h => absurd h (by omega)⟩
  case round =>
    obtain ⟨j, hj, rfl, hb, HO⟩ := hrel
    have R1 := RW.out.later hb
    have p0 := R1.p0
    rw [H0.out] at p0
    by_cases hlt : j < 8
    · have hj2 : j < H.objs.length := by have := H0.out; omega
      obtain ⟨g, off, f, fc, rfl, hg, hc, hrf⟩ := R1.ro j hj2
      have HNX : Hid (¬ okO H j H.objs[j] → b = false) := fun hn => HNO.out (fun ok => hn (ok.objs j hj2))
      have HOX : Hid (okO H j H.objs[j] → ∀ i (h : i < H.objs.length), i < j + 1 → okO H i H.objs[i]) := fun ho i hi hl => by
        rcases Nat.lt_or_ge i j with h3 | h3
        · exact HO.out i hi h3
        · obtain rfl : i = j := by omega
          exact ho
      have hfl := HS.out.fields _ (List.getElem_mem hj2)
      have HWF : Hid (WfO H.objs[j]) := HF.out.objs _ (List.getElem_mem hj2)
      obtain ⟨o, ho⟩ : ∃ o, H.objs[j] = o := ⟨_, rfl⟩
      rw [ho] at hc hrf HNX HOX hfl HWF
      clear ho
      obtain ⟨c0, c1, c2, c3, c4, c5, c6, c7⟩ := hc
      have HRF : Hid (RdI wr f o.field) := hrf
      clear hrf
      have bO : ObBox (wr.alloc (.cells #[.bool o.live, .int .i64 o.gen, .int .i64 o.site, .int .i64 o.holds, .int .i64 o.roots, .int .i64 o.count, .slice f o.field.length fc, .bool o.purple] 42)) wr.heap.size o (.slice f o.field.length fc) := by show (wr.heap.push _)[wr.heap.size]? = _; simp
      have bV : Below wr.heap.size wr (wr.alloc (.cells #[.bool o.live, .int .i64 o.gen, .int .i64 o.site, .int .i64 o.holds, .int .i64 o.roots, .int .i64 o.count, .slice f o.field.length fc, .bool o.purple] 42)) := (Below.refl _ _).alloc (Nat.le_refl _) _
      have hsW := hb.size
      have HBV := fun X (hX : Below (wr.heap.size + 1) (wr.alloc (.cells #[.bool o.live, .int .i64 o.gen, .int .i64 o.site, .int .i64 o.holds, .int .i64 o.roots, .int .i64 o.count, .slice f o.field.length fc, .bool o.purple] 42)) X) => hb.trans ((bV.trans (hX.mono (by omega))).mono hsW)
      have R2 := R1.later bV
      have HF2 : Hid (RdI _ f o.field) := rdI_later HRF.out bV
      obtain ⟨V, hV⟩ : ∃ V, V = wr.alloc (.cells #[.bool o.live, .int .i64 o.gen, .int .i64 o.site, .int .i64 o.holds, .int .i64 o.roots, .int .i64 o.count, .slice f o.field.length fc, .bool o.purple] 42) := ⟨_, rfl⟩
      have hVs : V.heap.size = wr.heap.size + 1 := by rw [hV]; simp
      rw [← hV] at bO bV R2 HBV HF2
      rw [← hVs] at HBV
      have HB2 : Hid (∀ X, Below V.heap.size V X → Below W.heap.size W X) := HBV
      have HR2 : Hid (RV V _ H w.heap.size _ co aw cw ab cb sa sc) := R2
      have HOB : Hid (ObBox V wr.heap.size o (.slice f o.field.length fc)) := bO
      have HCE : Hid (∀ X, Below V.heap.size V X → X.cell? ⟨wr.heap.size, 0, none⟩ = some (.bool o.live) ∧ X.cell? ⟨wr.heap.size, 1, none⟩ = some (.int .i64 o.gen) ∧ X.cell? ⟨wr.heap.size, 2, none⟩ = some (.int .i64 o.site) ∧ X.cell? ⟨wr.heap.size, 3, none⟩ = some (.int .i64 o.holds) ∧ X.cell? ⟨wr.heap.size, 4, none⟩ = some (.int .i64 o.roots) ∧ X.cell? ⟨wr.heap.size, 5, none⟩ = some (.int .i64 o.count) ∧ X.cell? ⟨wr.heap.size, 6, none⟩ = some (.slice f o.field.length fc) ∧ X.cell? ⟨wr.heap.size, 7, none⟩ = some (.bool o.purple)) := fun X hX => by
        have hbx := HOB.out.later hX
        exact ⟨hbx.cell 0, hbx.cell 1, hbx.cell 2, hbx.cell 3, hbx.cell 4, hbx.cell 5, hbx.cell 6, hbx.cell 7⟩
      clear R2 bO HBV
      by_cases hgen : 0 ≤ o.gen ∧ o.gen ≤ 999
      rotate_left
      · have hb0 := HNX.out (fun ok => hgen ok.1.1)
        subst hb0
        go_wp2_with fail
        rw [← hV]
        refine (l1In_no o.gen 0 999 _ (by omega)).mono ?_
        rintro e V ⟨rfl, rfl⟩
        clear hV
        obtain ⟨c0, c1, c2, c3, c4, c5, c6, c7⟩ := HCE.out V (Below.refl _ _)
        go_wp2
        go_ret
        exact ⟨rfl, BW.trans ((HB2.out _ (Below.refl _ _)).mono BW.size)⟩
      · go_wp2_with fail
        rw [← hV]
        refine (l1In_yes o.gen 0 999 _ hgen.1 hgen.2).mono ?_
        rintro e V ⟨rfl, rfl⟩
        clear hV c0 c1 c2 c3 c4 c5 c6 c7 R1 p0
        obtain ⟨c0, c1, c2, c3, c4, c5, c6, c7⟩ := HCE.out V (Below.refl _ _)
        by_cases hf3 : o.field.length = 3
        rotate_left
        · have hb0 := HNX.out (fun ok => hf3 ok.1.2)
          subst hb0
          have q3 : ¬ ((o.field.length : Int) = 3) := by omega
          go_wp2
          go_ret
          exact ⟨rfl, BW.trans ((HB2.out _ (Below.refl _ _)).mono BW.size)⟩
        · have H3 : Hid (o.field.length = 3) := hf3
          rw [hf3] at c6 HCE
          clear hf3
          cases hlive : o.live with
          | false =>
            have HD : Hid (¬ deadO o → b = false) := fun hn => HNX.out (fun ok => hn (ok.2.1 hlive))
            have HK : Hid (deadO o → okO H j o) := fun hd => ⟨⟨hgen, H3.out⟩, fun _ => hd, fun h => (by rw [hlive] at h; cases h)⟩
            rw [hlive] at c0
            clear hlive
            go_wp2
            all_goals (try (go_ret; exact ⟨ret_bb (HD.out (fun hd => by obtain ⟨d1, d2, d3, d4, d5, _⟩ := hd; first | omega | simp_all)).symm, BW.trans ((HB2.out _ (Below.refl _ _)).mono BW.size)⟩))
            have hd1 : o.site = 0 := by omega
            have hd2 : o.holds = 0 := by omega
            have hd3 : o.roots = 0 := by omega
            have hd4 : o.count = 0 := by omega
            have hd5 : o.purple = false := by first | assumption | simp_all
            have HDD : Hid ((∀ k (h : k < o.field.length), o.field[k] = -1) → deadO o) := fun hh => ⟨hd1, hd2, hd3, hd4, hd5, hh⟩
            clear hd1 hd2 hd3 hd4 hd5
            go_loop [5] (fun x => ∃ k : Nat, k ≤ 3 ∧ x = .int .i64 (k : Int) ∧ Hid (∀ i (h : i < o.field.length), i < k → o.field[i] = -1)) (fun x => 3 - (intOf x).toNat)
            case atStart => exact ⟨0, by omega, rfl, fun i _ h => absurd h (by omega)⟩
            case round =>
              obtain ⟨k, hk, rfl, HKK⟩ := hrel
              by_cases hk3 : k < 3
              · have hk2 : k < o.field.length := by have := H3.out; omega
                obtain ⟨gf, of2, rfl, -, hcf⟩ := HF2.out k hk2
                have HZ : Hid (o.field[k] = -1 → ∀ i (h : i < o.field.length), i < k + 1 → o.field[i] = -1) := fun hz i hi hl => by
                  rcases Nat.lt_or_ge i k with h3 | h3
                  · exact HKK.out i hi h3
                  · obtain rfl : i = k := by omega
                    exact hz
                have HZN : Hid (o.field[k] ≠ -1 → b = false) := fun hz => HD.out (fun hd => hz (hd.2.2.2.2.2 k hk2))
                generalize o.field[k] = z at *
                by_cases hz : z = -1
                · have HZ2 := HZ.out hz
                  have HZ3 : Hid _ := HZ2
                  clear HZ2
                  subst hz
                  go_wp2
                  go_round
                  case rel => exact ⟨k + 1, by omega, by go_num, HZ3⟩
                  case measure => simp [intOf]; omega
                · have hb0 := HZN.out hz
                  subst hb0
                  have hq : (z != -1) = true := by rw [bne_iff_ne]; exact hz
                  go_wp2
                  go_ret
                  exact ⟨rfl, BW.trans ((HB2.out _ (Below.refl _ _)).mono BW.size)⟩
              · obtain rfl : k = 3 := by omega
                have HFIN : Hid (∀ i (h : i < H.objs.length), i < j + 1 → okO H i H.objs[i]) := HOX.out (HK.out (HDD.out (fun i hi => HKK.out i hi (by have := H3.out; omega))))
                go_wp2
                go_roundw
                case rel => exact ⟨j + 1, by omega, by go_num, HB2.out _ (Below.refl _ _), HFIN⟩
                case measure => simp [intOf]; omega
          | true =>
            have HL : Hid (¬ liveO H j o → b = false) := fun hn => HNX.out (fun ok => hn (ok.2.2 hlive))
            have HK : Hid (liveO H j o → okO H j o) := fun hd => ⟨⟨hgen, H3.out⟩, fun h => (by rw [hlive] at h; cases h), fun _ => hd⟩
            rw [hlive] at c0
            clear hlive
            have p3 := HR2.out.p3
            by_cases e1 : 1 ≤ o.gen
            rotate_left
            · have hb0 := HL.out (fun hd => e1 hd.1.1)
              subst hb0
              go_wp2
              go_ret
              exact ⟨rfl, BW.trans ((HB2.out _ (Below.refl _ _)).mono BW.size)⟩
            by_cases e2 : 0 ≤ o.site ∧ o.site ≤ (H.sites.length : Int) - 1
            rotate_left
            · have hb0 := HL.out (fun hd => e2 hd.1.2.1)
              subst hb0
              go_wp2_with fail
              refine (l1In_no o.site 0 ((H.sites.length : Int) - 1) _ (by omega)).mono ?_
              rintro e V ⟨rfl, rfl⟩
              go_wp2
              go_ret
              exact ⟨rfl, BW.trans ((HB2.out _ (Below.refl _ _)).mono BW.size)⟩
            by_cases e3 : 0 ≤ o.holds ∧ o.holds ≤ 20
            rotate_left
            · have hb0 := HL.out (fun hd => e3 hd.1.2.2.1)
              subst hb0
              go_wp2_with fail
              refine (l1In_yes o.site 0 ((H.sites.length : Int) - 1) _ e2.1 e2.2).mono ?_
              rintro e V ⟨rfl, rfl⟩
              go_wp2_with fail
              refine (l1In_no o.holds 0 20 _ (by omega)).mono ?_
              rintro e V ⟨rfl, rfl⟩
              go_wp2
              go_ret
              exact ⟨rfl, BW.trans ((HB2.out _ (Below.refl _ _)).mono BW.size)⟩
            by_cases e4 : 0 ≤ o.roots ∧ o.roots ≤ 20
            rotate_left
            · have hb0 := HL.out (fun hd => e4 hd.1.2.2.2)
              subst hb0
              go_wp2_with fail
              refine (l1In_yes o.site 0 ((H.sites.length : Int) - 1) _ e2.1 e2.2).mono ?_
              rintro e V ⟨rfl, rfl⟩
              go_wp2_with fail
              refine (l1In_yes o.holds 0 20 _ e3.1 e3.2).mono ?_
              rintro e V ⟨rfl, rfl⟩
              go_wp2_with fail
              refine (l1In_no o.roots 0 20 _ (by omega)).mono ?_
              rintro e V ⟨rfl, rfl⟩
              go_wp2
              go_ret
              exact ⟨rfl, BW.trans ((HB2.out _ (Below.refl _ _)).mono BW.size)⟩
            have HL1 : Hid (1 ≤ o.gen ∧ (0 ≤ o.site ∧ o.site ≤ (H.sites.length : Int) - 1) ∧ (0 ≤ o.holds ∧ o.holds ≤ 20) ∧ (0 ≤ o.roots ∧ o.roots ≤ 20)) := ⟨e1, e2, e3, e4⟩
            go_wp2_with fail
            refine (l1In_yes o.site 0 ((H.sites.length : Int) - 1) _ e2.1 e2.2).mono ?_
            rintro e V ⟨rfl, rfl⟩
            go_wp2_with fail
            refine (l1In_yes o.holds 0 20 _ e3.1 e3.2).mono ?_
            rintro e V ⟨rfl, rfl⟩
            go_wp2_with fail
            refine (l1In_yes o.roots 0 20 _ e4.1 e4.2).mono ?_
            rintro e V ⟨rfl, rfl⟩
            go_wp2
            clear c0 c1 c2 c3 c4 c5 c6 c7 p3 bV hVs HOB HRF hb hsW e1 e2 e3 e4 hgen
            generalize wr.heap.size = bo at *
            go_loopw [6] (fun x X => ∃ k : Nat, k ≤ 3 ∧ x = .int .i64 (k : Int) ∧ Below V.heap.size V X ∧ Hid (∀ i (h : i < o.field.length), i < k → (o.field[i] = -1 ∨ 0 ≤ slotZ H o.field[i]))) (fun x _ => 3 - (intOf x).toNat)
            case atStart => exact ⟨0, by omega, rfl, Below.refl _ _, fun i _ h => absurd h (by omega)⟩
            case round =>
              obtain ⟨k, hk, rfl, hbx, HKK⟩ := hrel
              obtain ⟨c0, c1, c2, c3, c4, c5, c6, c7⟩ := HCE.out wr hbx
              have R3 := HR2.out.later hbx
              have p0 := R3.p0
              have p1 := R3.p1
              have p2 := R3.p2
              have p3 := R3.p3
              rw [H0.out] at p0
              rw [H1.out] at p1
              have HR3 : Hid (RV wr _ H w.heap.size _ co aw cw ab cb sa sc) := R3
              clear R3
              by_cases hk3 : k < 3
              · have hk2 : k < o.field.length := by have := H3.out; omega
                obtain ⟨gf, of2, rfl, -, hcf⟩ := rdI_later HF2.out hbx k hk2
                have hz64 := HWF.out.2.2.2.2.2 _ (List.getElem_mem hk2)
                have HZ : Hid ((o.field[k] = -1 ∨ 0 ≤ slotZ H o.field[k]) → ∀ i (h : i < o.field.length), i < k + 1 → (o.field[i] = -1 ∨ 0 ≤ slotZ H o.field[i])) := fun hz i hi hl => by
                  rcases Nat.lt_or_ge i k with h3 | h3
                  · exact HKK.out i hi h3
                  · obtain rfl : i = k := by omega
                    exact hz
                have HZN : Hid (¬ (o.field[k] = -1 ∨ 0 ≤ slotZ H o.field[k]) → b = false) := fun hz => HL.out (fun hd => hz (hd.2.1 k hk2))
                generalize o.field[k] = z at *
                have hi1 : (k : Int) < 3 := by omega
                by_cases hz : z = -1
                · have HZ3 : Hid _ := HZ.out (.inl hz)
                  subst hz
                  clear HZ HZN
                  go_wp2
                  go_quiet (fail)
                  go_wp2
                  go_roundw
                  case rel => exact ⟨k + 1, by omega, by go_num, ⟨hbx.os, hbx.tape, hbx.output, hbx.size, hbx.block⟩, HZ3⟩
                  case measure => simp [intOf]; omega
                · have hq : (z != -1) = true := by rw [bne_iff_ne]; exact hz
                  have CS : Hid (∀ X, RdH X _ H → _) := fun X hX => sSlotOf_calls (.agg #[.slice (some ⟨g, off, none⟩) H.objs.length co, .slice aw H.weaks.length cw, .slice ab H.buffer.length cb, .slice sa H.sites.length sc]) H z X hX (by omega) hz64.1 hz64.2
                  have HRD : Hid (RdH wr.drew (.agg #[.slice (some ⟨g, off, none⟩) H.objs.length co, .slice aw H.weaks.length cw, .slice ab H.buffer.length cb, .slice sa H.sites.length sc]) H) := rdH_later HR3.out.rd ((Below.refl _ wr).drew)
                  rw [H0.out, H1.out] at CS HRD
                  by_cases hsl : slotZ H z < 0
                  · have hb0 := HZN.out (fun h => by omega)
                    subst hb0
                    clear HZ HZN
                    generalize slotZ H z = sl at *
                    go_wp2
                    go_region_with (go_at_call 14; refine (CS.out _ HRD.out).mono ?_; rintro e w1 ⟨rfl, b1⟩)
                    all_goals
                      go_wp2
                      go_ret
                      exact ⟨rfl, BW.trans ((HB2.out _ (hbx.trans (Below.mono ⟨b1.os, b1.tape, b1.output, b1.size, b1.block⟩ hbx.size))).mono BW.size)⟩
                  · have HZ3 : Hid _ := HZ.out (.inr (by omega))
                    clear HZ HZN
                    generalize slotZ H z = sl at *
                    go_wp2
                    go_region_with (go_at_call 14; refine (CS.out _ HRD.out).mono ?_; rintro e w1 ⟨rfl, b1⟩)
                    all_goals
                      go_wp2
                      go_roundw
                      case rel => exact ⟨k + 1, by omega, by go_num, hbx.trans (Below.mono ⟨b1.os, b1.tape, b1.output, b1.size, b1.block⟩ hbx.size), HZ3⟩
                      case measure => simp [intOf]; omega
              · obtain rfl : k = 3 := by omega
                have HLED : Hid (ledO H o) := fun i hi => HKK.out i hi (by have := H3.out; omega)
                have CE : Hid (∀ X, RdH X _ H → _) := fun X hX => sInEdges_calls (.agg #[.slice (some ⟨g, off, none⟩) H.objs.length co, .slice aw H.weaks.length cw, .slice ab H.buffer.length cb, .slice sa H.sites.length sc]) H (j : Int) X hX HS.out (by omega) (by omega)
                have HRD : Hid (RdH wr.drew (.agg #[.slice (some ⟨g, off, none⟩) H.objs.length co, .slice aw H.weaks.length cw, .slice ab H.buffer.length cb, .slice sa H.sites.length sc]) H) := rdH_later HR3.out.rd ((Below.refl _ wr).drew)
                rw [H0.out, H1.out] at CE HRD
                have hebd := inEdges_bd H HS.out (j : Int)
                have CI : Hid (∀ X, _) := fun X => sIdOf_calls (j : Int) o.gen X
                have CH : Hid (∀ X, RdI X ab H.buffer → _) := fun X hX => sHas_calls X ab cb H.buffer (idZ (j : Int) o.gen) hX (by omega)
                have HLV : Hid (o.count = o.holds + o.roots + inEdges H (j : Int) ∧ 1 ≤ o.count ∧ o.purple = decide (idZ (j : Int) o.gen ∈ H.buffer) → ∀ i (h : i < H.objs.length), i < j + 1 → okO H i H.objs[i]) := fun hh => HOX.out (HK.out ⟨HL1.out, HLED.out, hh⟩)
                have HLN : Hid (¬ (o.count = o.holds + o.roots + inEdges H (j : Int) ∧ 1 ≤ o.count ∧ o.purple = decide (idZ (j : Int) o.gen ∈ H.buffer)) → b = false) := fun hh => HL.out (fun hd => hh hd.2.2)
                have hl3 := HL1.out.2.2.1
                have hl4 := HL1.out.2.2.2
                have h64 := HWF.out.2.2.2.2.1
                have HSX : Hid (∀ X, Below V.heap.size V X → ((X.cell? ⟨bo, 1, none⟩ = some (.int .i64 o.gen) ∧ X.cell? ⟨bo, 3, none⟩ = some (.int .i64 o.holds) ∧ X.cell? ⟨bo, 4, none⟩ = some (.int .i64 o.roots) ∧ X.cell? ⟨bo, 5, none⟩ = some (.int .i64 o.count) ∧ X.cell? ⟨bo, 7, none⟩ = some (.bool o.purple)) ∧ (X.cell? ⟨w.heap.size, 0, none⟩ = some (.slice (some ⟨g, off, none⟩) 8 co) ∧ X.cell? ⟨w.heap.size, 1, none⟩ = some (.slice aw 8 cw) ∧ X.cell? ⟨w.heap.size, 2, none⟩ = some (.slice ab H.buffer.length cb) ∧ X.cell? ⟨w.heap.size, 3, none⟩ = some (.slice sa H.sites.length sc)))) := fun X hX => by
                  obtain ⟨d0, d1, d2, d3, d4, d5, d6, d7⟩ := HCE.out X hX
                  have r := HR2.out.later hX
                  have q0 := r.p0
                  have q1 := r.p1
                  rw [H0.out] at q0
                  rw [H1.out] at q1
                  exact ⟨⟨d1, d3, d4, d5, d7⟩, q0, q1, r.p2, r.p3⟩
                have HRI : Hid (∀ X, Below V.heap.size V X → RdI X ab H.buffer) := fun X hX => (HR2.out.later hX).ri
                have hb0 : Below V.heap.size V wr.drew := hbx.drew
                have HEND : Hid (∀ X, Below wr.heap.size wr.drew X → Below V.heap.size V X) := fun X hX => hbx.trans (Below.mono ⟨hX.os, hX.tape, hX.output, hX.size, hX.block⟩ hbx.size)
                generalize inEdges H (j : Int) = E at *
                generalize idZ (j : Int) o.gen = id at *
                generalize hmem : decide (id ∈ H.buffer) = mem at *
                unfold in64 at h64
                clear HKK hmem
                have r1 : IntKind.i64.wrap (o.holds + o.roots) = o.holds + o.roots := by rw [IntKind.wrap_i64]; omega
                have r2 : IntKind.i64.wrap (o.holds + o.roots + E) = o.holds + o.roots + E := by rw [IntKind.wrap_i64]; omega
                have HCW : Hid (∀ X : LaterW wr, _) := fun X => HSX.out X.on (hbx.trans (X.bel.mono hbx.size))
                have hne := LaterW.some_ wr
                have z1 : ∀ X : LaterW wr, X.on.cell? ⟨bo, 1, none⟩ = some (.int .i64 o.gen) := fun X => (HCW.out X).1.1
                have z3 : ∀ X : LaterW wr, X.on.cell? ⟨bo, 3, none⟩ = some (.int .i64 o.holds) := fun X => (HCW.out X).1.2.1
                have z4 : ∀ X : LaterW wr, X.on.cell? ⟨bo, 4, none⟩ = some (.int .i64 o.roots) := fun X => (HCW.out X).1.2.2.1
                have z5 : ∀ X : LaterW wr, X.on.cell? ⟨bo, 5, none⟩ = some (.int .i64 o.count) := fun X => (HCW.out X).1.2.2.2.1
                have z7 : ∀ X : LaterW wr, X.on.cell? ⟨bo, 7, none⟩ = some (.bool o.purple) := fun X => (HCW.out X).1.2.2.2.2
                have y0 : ∀ X : LaterW wr, X.on.cell? ⟨w.heap.size, 0, none⟩ = some (.slice (some ⟨g, off, none⟩) 8 co) := fun X => (HCW.out X).2.1
                have y1 : ∀ X : LaterW wr, X.on.cell? ⟨w.heap.size, 1, none⟩ = some (.slice aw 8 cw) := fun X => (HCW.out X).2.2.1
                have y2 : ∀ X : LaterW wr, X.on.cell? ⟨w.heap.size, 2, none⟩ = some (.slice ab H.buffer.length cb) := fun X => (HCW.out X).2.2.2.1
                have y3 : ∀ X : LaterW wr, X.on.cell? ⟨w.heap.size, 3, none⟩ = some (.slice sa H.sites.length sc) := fun X => (HCW.out X).2.2.2.2
                have CEL : Hid (∀ X : LaterW wr, RdH X.on _ H) := fun X => rdH_later HR3.out.rd X.bel
                have CIL : Hid (∀ X : LaterW wr, RdI X.on ab H.buffer) := fun X => HRI.out X.on (hbx.trans (X.bel.mono hbx.size))
                rw [H0.out, H1.out] at CEL
                clear c0 c1 c2 c3 c4 c5 c6 c7 p0 p1 p2 p3 HRD hb0
                by_cases g1 : o.count = o.holds + o.roots + E
                · have hq : (o.count != o.holds + o.roots + E) = false := by rw [bne_eq_false_iff_eq]; exact g1
                  by_cases g2 : o.count < 1
                  · have hb0 := HLN.out (fun h => by omega)
                    subst hb0
                    have hq2 : decide (o.count < 1) = true := decide_eq_true g2
                    clear HLN HLV g1
                    go_wp2
                    refine wp_region_later wr (Below.refl _ _) (by kernel_rfl) (by kernel_rfl) ?_
                    repeat (go_big_quiet_step (first
                      | (go_at_call 15; refine (CE.out _ (CEL.out _)).mono ?_; rintro e w1 ⟨rfl, b1⟩; exact ⟨rfl, LaterW.step _ b1⟩)
                      | (go_at_call 17; refine (CI.out _).mono ?_; rintro e w1 ⟨rfl, hw1⟩; exact ⟨rfl, _, hw1⟩)
                      | (go_at_call 16; refine (CH.out _ (CIL.out _)).mono ?_; rintro e w1 ⟨rfl, hw1⟩; exact ⟨rfl, _, hw1⟩)))
                    refine wpQuiet_nil ?_
                    rintro _ ⟨⟨X, hX⟩, rfl⟩
                    go_wp2
                    go_ret
                    exact ⟨rfl, BW.trans ((HB2.out _ (hbx.trans (hX.mono hbx.size))).mono BW.size)⟩
                  · have hq2 : decide (o.count < 1) = false := decide_eq_false g2
                    generalize o.purple = pu at *
                    by_cases g3 : pu = mem
                    · have HFIN : Hid (∀ i (h : i < H.objs.length), i < j + 1 → okO H i H.objs[i]) := HLV.out ⟨g1, by omega, g3⟩
                      subst g3
                      clear HLN HLV g1 g2
                      cases pu
                      all_goals
                        go_wp2
                        refine wp_region_later wr (Below.refl _ _) (by kernel_rfl) (by kernel_rfl) ?_
                        repeat (go_big_quiet_step (first
                          | (go_at_call 15; refine (CE.out _ (CEL.out _)).mono ?_; rintro e w1 ⟨rfl, b1⟩; exact ⟨rfl, LaterW.step _ b1⟩)
                          | (go_at_call 17; refine (CI.out _).mono ?_; rintro e w1 ⟨rfl, hw1⟩; exact ⟨rfl, _, hw1⟩)
                          | (go_at_call 16; refine (CH.out _ (CIL.out _)).mono ?_; rintro e w1 ⟨rfl, hw1⟩; exact ⟨rfl, _, hw1⟩)))
                        refine wpQuiet_nil ?_
                        rintro _ ⟨⟨X, hX⟩, rfl⟩
                        go_wp2
                        go_roundw
                        case rel => exact ⟨j + 1, by omega, by go_num, HB2.out _ (hbx.trans (hX.mono hbx.size)), HFIN⟩
                        case measure => simp [intOf]; omega
                    · have hb0 := HLN.out (fun h => g3 h.2.2)
                      subst hb0
                      obtain rfl : pu = !mem := by cases pu <;> cases mem <;> simp_all
                      clear HLN HLV g1 g2 g3
                      cases mem
                      all_goals
                        simp only [Bool.not_false, Bool.not_true] at *
                        go_wp2
                        refine wp_region_later wr (Below.refl _ _) (by kernel_rfl) (by kernel_rfl) ?_
                        repeat (go_big_quiet_step (first
                          | (go_at_call 15; refine (CE.out _ (CEL.out _)).mono ?_; rintro e w1 ⟨rfl, b1⟩; exact ⟨rfl, LaterW.step _ b1⟩)
                          | (go_at_call 17; refine (CI.out _).mono ?_; rintro e w1 ⟨rfl, hw1⟩; exact ⟨rfl, _, hw1⟩)
                          | (go_at_call 16; refine (CH.out _ (CIL.out _)).mono ?_; rintro e w1 ⟨rfl, hw1⟩; exact ⟨rfl, _, hw1⟩)))
                        refine wpQuiet_nil ?_
                        rintro _ ⟨⟨X, hX⟩, rfl⟩
                        go_wp2
                        go_ret
                        exact ⟨rfl, BW.trans ((HB2.out _ (hbx.trans (hX.mono hbx.size))).mono BW.size)⟩
                · have hb0 := HLN.out (fun h => g1 h.1)
                  subst hb0
                  have hq : (o.count != o.holds + o.roots + E) = true := by rw [bne_iff_ne]; exact g1
                  clear HLN HLV
                  go_wp2
                  refine wp_region_later wr (Below.refl _ _) (by kernel_rfl) (by kernel_rfl) ?_
                  repeat (go_big_quiet_step (first
                    | (go_at_call 15; refine (CE.out _ (CEL.out _)).mono ?_; rintro e w1 ⟨rfl, b1⟩; exact ⟨rfl, LaterW.step _ b1⟩)))
                  refine wpQuiet_nil ?_
                  rintro _ ⟨⟨X, hX⟩, rfl⟩
                  go_wp2
                  go_ret
                  exact ⟨rfl, BW.trans ((HB2.out _ (hbx.trans (hX.mono hbx.size))).mono BW.size)⟩
    · have e8 : 8 ≤ j := by omega
      have HOA : Hid (∀ i (h : i < H.objs.length), okO H i H.objs[i]) := fun i hi => HO.out i hi (by have := H0.out; omega)
      have HNW : Hid (∀ i (h : i < H.weaks.length), ¬ okW H.weaks[i] → b = false) := fun i hi hn => HNO.out (fun ok => hn (ok.weaks i hi))
      have HNB : Hid (∀ i (h : i < H.buffer.length), ¬ okB H i H.buffer[i] → b = false) := fun i hi hn => HNO.out (fun ok => hn (ok.buffer i hi))
      have HNS : Hid (∀ i (h : i < H.sites.length), ¬ okN H i H.sites[i] → b = false) := fun i hi hn => HNO.out (fun ok => hn (ok.sites i hi))
      have HAY : Hid ((∀ i (h : i < H.weaks.length), okW H.weaks[i]) → (∀ i (h : i < H.buffer.length), okB H i H.buffer[i]) → (∀ i (h : i < H.sites.length), okN H i H.sites[i]) → b = true) := fun a1 a2 a3 => HYES.out ⟨⟨H0.out, H1.out, hn6⟩, HOA.out, a1, a2, a3⟩
      clear HO HOA HNO HYES R1
      go_wp2
      clear p0
      go_loopw [7] (fun i X => ∃ k : Nat, k ≤ 8 ∧ i = .int .i64 (k : Int) ∧ Below W.heap.size W X ∧ Hid (∀ i (h : i < H.weaks.length), i < k → okW H.weaks[i])) (fun i _ => 8 - (intOf i).toNat)
      case atStart => exact ⟨0, by omega, rfl, hb, fun i _ h => absurd h (by omega)⟩
      case round =>
        clear hb
        obtain ⟨k, hk, rfl, hb, HO⟩ := hrel
        have R1 := RW.out.later hb
        have p1 := R1.p1
        rw [H1.out] at p1
        by_cases hlt : k < 8
        · have hk2 : k < H.weaks.length := by have := H1.out; omega
          obtain ⟨g, off, rfl, hg, hc⟩ := R1.rw k hk2
          have HNX : Hid (¬ okW H.weaks[k] → b = false) := fun hn => HNW.out k hk2 hn
          have HOX : Hid (okW H.weaks[k] → ∀ i (h : i < H.weaks.length), i < k + 1 → okW H.weaks[i]) := fun ho i hi hl => by
            rcases Nat.lt_or_ge i k with h3 | h3
            · exact HO.out i hi h3
            · obtain rfl : i = k := by omega
              exact ho
          obtain ⟨d, hd⟩ : ∃ d, H.weaks[k] = d := ⟨_, rfl⟩
          rw [hd] at hc HNX HOX
          obtain ⟨du, dt⟩ := d
          obtain ⟨c0, c1⟩ := hc
          simp only at c0 c1
          have HBN : Hid (Below W.heap.size W (wr.alloc (.cells #[.bool du, .int .i64 dt] 48))) := hb.alloc hb.size _
          clear hd HO R1
          cases du with
          | false =>
            by_cases hz : dt = 0
            · have HFIN : Hid _ := HOX.out ⟨fun _ => hz, fun h => by cases h⟩
              subst hz
              go_wp2
              go_roundw
              case rel => exact ⟨k + 1, by omega, by go_num, HBN.out, HFIN⟩
              case measure => simp [intOf]; omega
            · have hb0 := HNX.out (fun h => hz (h.1 rfl))
              subst hb0
              have hq : (dt != 0) = true := by rw [bne_iff_ne]; exact hz
              go_wp2
              go_ret
              exact ⟨rfl, BW.trans (HBN.out.mono BW.size)⟩
          | true =>
            by_cases hz : 8 ≤ dt ∧ dt ≤ 7999
            · have HFIN : Hid _ := HOX.out ⟨fun h => (by cases h), fun _ => hz⟩
              go_wp2_with fail
              refine (l1In_yes dt 8 7999 _ hz.1 hz.2).mono ?_
              rintro e V ⟨rfl, hV⟩
              subst hV
              go_wp2
              go_roundw
              case rel => exact ⟨k + 1, by omega, by go_num, HBN.out, HFIN⟩
              case measure => simp [intOf]; omega
            · have hb0 := HNX.out (fun h => hz (h.2 rfl))
              subst hb0
              go_wp2_with fail
              refine (l1In_no dt 8 7999 _ (by omega)).mono ?_
              rintro e V ⟨rfl, hV⟩
              subst hV
              go_wp2
              go_ret
              exact ⟨rfl, BW.trans (HBN.out.mono BW.size)⟩
        · have ek8 : 8 ≤ k := by omega
          have HWA : Hid (∀ i (h : i < H.weaks.length), okW H.weaks[i]) := fun i hi => HO.out i hi (by have := H1.out; omega)
          clear HO HNW R1
          go_wp2
          clear p1
          go_loopw [9] (fun i X => ∃ k : Nat, k ≤ H.buffer.length ∧ i = .int .i64 (k : Int) ∧ Below W.heap.size W X ∧ Hid (∀ i (h : i < H.buffer.length), i < k → okB H i H.buffer[i])) (fun i _ => H.buffer.length - (intOf i).toNat)
          case atStart => exact ⟨0, by omega, rfl, hb, fun i _ h => absurd h (by omega)⟩
          case round =>
            clear hb
            obtain ⟨l, hl, rfl, hb, HO⟩ := hrel
            have R1 := RW.out.later hb
            have p2 := R1.p2
            by_cases hlt : l < H.buffer.length
            · have HCW : Hid (∀ X : LaterW wr, RV X.on _ H w.heap.size ao co aw cw ab cb sa sc) := fun X => R1.later X.bel
              obtain ⟨g, off, rfl, hg, hc⟩ := R1.ri l hlt
              have HNX : Hid (¬ okB H l H.buffer[l] → b = false) := fun hn => HNB.out l hlt hn
              have HOX : Hid (okB H l H.buffer[l] → ∀ i (h : i < H.buffer.length), i < l + 1 → okB H i H.buffer[i]) := fun ho i hi hl => by
                rcases Nat.lt_or_ge i l with h3 | h3
                · exact HO.out i hi h3
                · obtain rfl : i = l := by omega
                  exact ho
              have hx64 := HF.out.buffer _ (List.getElem_mem hlt)
              have htk : (H.buffer.take l).length = l := by rw [List.length_take]; omega
              have HRT : Hid (∀ X : LaterW wr, RdI X.on (some ⟨g, off, none⟩) (H.buffer.take l)) := fun X i hi => by
                have hi2 : i < H.buffer.length := by rw [htk] at hi; omega
                obtain ⟨g', off', e1, e2, e3⟩ := (HCW.out X).ri i hi2
                exact ⟨g', off', e1, e2, by rw [List.getElem_take]; exact e3⟩
              have CH : Hid (∀ X c, RdI X (some ⟨g, off, none⟩) (H.buffer.take l) → _) := fun X c hX => sHas_calls X (some ⟨g, off, none⟩) c (H.buffer.take l) H.buffer[l] hX (by rw [htk]; omega)
              rw [htk] at CH
              generalize H.buffer[l] = x at *
              have CS : Hid (∀ X, RdH X _ H → _) := fun X hX => sSlotOf_calls (.agg #[.slice ao H.objs.length co, .slice aw H.weaks.length cw, .slice (some ⟨g, off, none⟩) H.buffer.length cb, .slice sa H.sites.length sc]) H x X hX (by omega) hx64.1 hx64.2
              have CEL : Hid (∀ X : LaterW wr, RdH X.on _ H) := fun X => (HCW.out X).rd
              rw [H0.out, H1.out] at CEL CS
              have hne := LaterW.some_ wr
              have zx : ∀ X : LaterW wr, X.on.cell? ⟨g, off + l, none⟩ = some (.int .i64 x) := fun X => (X.bel.cell (p := ⟨g, off + l, none⟩) hg).trans hc
              have y0 : ∀ X : LaterW wr, X.on.cell? ⟨w.heap.size, 0, none⟩ = some (.slice ao 8 co) := fun X => by have h := (HCW.out X).p0; rw [H0.out] at h; exact h
              have y1 : ∀ X : LaterW wr, X.on.cell? ⟨w.heap.size, 1, none⟩ = some (.slice aw 8 cw) := fun X => by have h := (HCW.out X).p1; rw [H1.out] at h; exact h
              have y2 : ∀ X : LaterW wr, X.on.cell? ⟨w.heap.size, 2, none⟩ = some (.slice (some ⟨g, off, none⟩) H.buffer.length cb) := fun X => (HCW.out X).p2
              have y3 : ∀ X : LaterW wr, X.on.cell? ⟨w.heap.size, 3, none⟩ = some (.slice sa H.sites.length sc) := fun X => (HCW.out X).p3
              have i1 : (l : Int) < (H.buffer.length : Int) := by omega
              have i2 : (l : Int) ≤ (cb : Int) := by omega
              clear hc R1 HO
              by_cases hsl : slotZ H x < 0
              · have hb0 := HNX.out (fun h => by have := h.1; omega)
                subst hb0
                have hq : decide (slotZ H x < 0) = true := decide_eq_true hsl
                clear HNX HOX hsl
                generalize slotZ H x = sl at *
                go_wp2
                refine wp_region_later wr (Below.refl _ _) (by kernel_rfl) (by kernel_rfl) ?_
                repeat (go_big_quiet_step (first
                  | (go_at_call 14; refine (CS.out _ (CEL.out _)).mono ?_; rintro e w1 ⟨rfl, b1⟩; exact ⟨rfl, LaterW.step _ b1⟩)
                  | (go_at_call 16; refine (CH.out _ _ (HRT.out _)).mono ?_; rintro e w1 ⟨rfl, hw1⟩; exact ⟨rfl, _, hw1⟩)))
                refine wpQuiet_nil ?_
                rintro _ ⟨⟨X, hX⟩, rfl⟩
                go_wp2
                go_ret
                exact ⟨rfl, BW.trans ((hb.trans (hX.mono hb.size)).mono BW.size)⟩
              · have hq : decide (slotZ H x < 0) = false := decide_eq_false hsl
                by_cases hm : x ∈ H.buffer.take l
                · have hb0 := HNX.out (fun h => h.2 hm)
                  subst hb0
                  rw [decide_eq_true hm] at CH
                  clear HNX HOX hsl hm
                  generalize slotZ H x = sl at *
                  go_wp2
                  refine wp_region_later wr (Below.refl _ _) (by kernel_rfl) (by kernel_rfl) ?_
                  repeat (go_big_quiet_step (first
                    | (go_at_call 14; refine (CS.out _ (CEL.out _)).mono ?_; rintro e w1 ⟨rfl, b1⟩; exact ⟨rfl, LaterW.step _ b1⟩)
                    | (go_at_call 16; refine (CH.out _ _ (HRT.out _)).mono ?_; rintro e w1 ⟨rfl, hw1⟩; exact ⟨rfl, _, hw1⟩)))
                  refine wpQuiet_nil ?_
                  rintro _ ⟨⟨X, hX⟩, rfl⟩
                  go_wp2
                  go_ret
                  exact ⟨rfl, BW.trans ((hb.trans (hX.mono hb.size)).mono BW.size)⟩
                · have HFIN : Hid _ := HOX.out ⟨by omega, hm⟩
                  rw [decide_eq_false hm] at CH
                  clear HNX HOX hsl hm
                  generalize slotZ H x = sl at *
                  go_wp2
                  refine wp_region_later wr (Below.refl _ _) (by kernel_rfl) (by kernel_rfl) ?_
                  repeat (go_big_quiet_step (first
                    | (go_at_call 14; refine (CS.out _ (CEL.out _)).mono ?_; rintro e w1 ⟨rfl, b1⟩; exact ⟨rfl, LaterW.step _ b1⟩)
                    | (go_at_call 16; refine (CH.out _ _ (HRT.out _)).mono ?_; rintro e w1 ⟨rfl, hw1⟩; exact ⟨rfl, _, hw1⟩)))
                  refine wpQuiet_nil ?_
                  rintro _ ⟨⟨X, hX⟩, rfl⟩
                  go_wp2
                  go_roundw
                  case rel => exact ⟨l + 1, by omega, by go_num, hb.trans (hX.mono hb.size), HFIN⟩
                  case measure => simp [intOf]; omega
            · have el : H.buffer.length ≤ l := by omega
              have HBA : Hid (∀ i (h : i < H.buffer.length), okB H i H.buffer[i]) := fun i hi => HO.out i hi (by omega)
              clear HO HNB R1
              go_wp2
              clear p2
              go_loopw [10] (fun i X => ∃ m : Nat, m ≤ H.sites.length ∧ i = .int .i64 (m : Int) ∧ Below W.heap.size W X ∧ Hid (∀ i (h : i < H.sites.length), i < m → okN H i H.sites[i])) (fun i _ => H.sites.length - (intOf i).toNat)
              case atStart => exact ⟨0, by omega, rfl, hb, fun i _ h => absurd h (by omega)⟩
              case round =>
                clear hb
                obtain ⟨m, hm, rfl, hb, HO⟩ := hrel
                have R1 := RW.out.later hb
                have p3 := R1.p3
                by_cases hlt : m < H.sites.length
                · have HRV : Hid (∀ X, Below wr.heap.size wr X → RV X _ H w.heap.size ao co aw cw ab cb sa sc) := fun X hX => R1.later hX
                  obtain ⟨g, off, rfl, hg, hc⟩ := R1.rs m hlt
                  have HNX : Hid (¬ okN H m H.sites[m] → b = false) := fun hn => HNS.out m hlt hn
                  have HOX : Hid (okN H m H.sites[m] → ∀ i (h : i < H.sites.length), i < m + 1 → okN H i H.sites[i]) := fun ho i hi hl => by
                    rcases Nat.lt_or_ge i m with h3 | h3
                    · exact HO.out i hi h3
                    · obtain rfl : i = m := by omega
                      exact ho
                  have HNM : Hid (H.sites[m].length ≤ 1048576) := HS.out.names _ (List.getElem_mem hlt)
                  have HEQ : Hid (∀ k (h : k < H.sites.length), k < m → H.sites[k] = H.sites[m] → b = false) := fun k hk hkm e => HNX.out (fun ok => ok.2 k hk hkm e)
                  have HLEN : Hid (¬ (1 ≤ H.sites[m].length ∧ H.sites[m].length ≤ 8) → b = false) := fun hn => HNX.out (fun ok => hn ok.1)
                  have HOK : Hid ((1 ≤ H.sites[m].length ∧ H.sites[m].length ≤ 8) → (∀ k (h : k < H.sites.length), k < m → H.sites[k] ≠ H.sites[m]) → ∀ i (h : i < H.sites.length), i < m + 1 → okN H i H.sites[i]) := fun h1 h2 => HOX.out ⟨h1, h2⟩
                  clear HNX HOX HO
                  obtain ⟨x, hx⟩ : ∃ x, H.sites[m] = x := ⟨_, rfl⟩
                  rw [hx] at hc HNM HEQ HLEN HOK
                  clear hx
                  have hsz : (txt x).size = x.length := rfl
                  have hnm := HNM.out
                  generalize hL : x.length = L at *
                  by_cases hl8 : 1 ≤ L ∧ L ≤ 8
                  rotate_left
                  · have hb0 := HLEN.out hl8
                    subst hb0
                    go_wp2_with fail
                    refine (l1In_no (L : Int) 1 8 _ (by omega)).mono ?_
                    rintro e V ⟨rfl, hV⟩
                    subst hV
                    go_wp2
                    go_ret
                    exact ⟨rfl, BW.trans (hb.mono BW.size)⟩
                  · go_wp2_with fail
                    refine (l1In_yes (L : Int) 1 8 _ (by omega) (by omega)).mono ?_
                    rintro e V ⟨rfl, hV⟩
                    subst hV
                    go_wp2
                    have HLT : Hid (∀ X, Below V.heap.size V X → ∀ q (h : q < H.sites.length), X.cell? ⟨g, off + q, none⟩ = some (.string (txt H.sites[q]))) := fun X hX q hq => by
                      obtain ⟨g', off', e1, e2, e3⟩ := (HRV.out X hX).rs q hq
                      simp only [Option.some.injEq, Addr.mk.injEq, and_true] at e1
                      obtain ⟨rfl, rfl⟩ := e1
                      exact e3
                    have HXM : Hid (∀ X, Below V.heap.size V X → X.cell? ⟨g, off + m, none⟩ = some (.string (txt x))) := fun X hX => (hX.cell (p := ⟨g, off + m, none⟩) hg).trans hc
                    have HBW : Hid (∀ X, Below V.heap.size V X → Below W.heap.size W X) := fun X hX => hb.trans (hX.mono hb.size)
                    have HP3 : Hid (∀ X, Below V.heap.size V X → X.cell? ⟨w.heap.size, 3, none⟩ = some (.slice (some ⟨g, off, none⟩) H.sites.length sc)) := fun X hX => (HRV.out X hX).p3
                    clear hc p3 R1 hb HNM HLEN hsz hnm
                    go_loopw [11] (fun i X => ∃ q : Nat, q ≤ m ∧ i = .int .i64 (q : Int) ∧ Below V.heap.size V X ∧ Hid (∀ k (h : k < H.sites.length), k < q → H.sites[k] ≠ x)) (fun i _ => m - (intOf i).toNat)
                    case atStart => exact ⟨0, by omega, rfl, Below.refl _ _, fun i _ h => absurd h (by omega)⟩
                    case round =>
                      obtain ⟨q, hq, rfl, hbq, HQ⟩ := hrel
                      by_cases hql : q < m
                      · have hq2 : q < H.sites.length := by omega
                        have hne := LaterW.some_ wr
                        have zx : ∀ X : LaterW wr, X.on.cell? ⟨g, off + m, none⟩ = some (.string (txt x)) := fun X => HXM.out _ (hbq.trans (X.bel.mono hbq.size))
                        have zq : ∀ X : LaterW wr, X.on.cell? ⟨g, off + q, none⟩ = some (.string (txt H.sites[q])) := fun X => HLT.out _ (hbq.trans (X.bel.mono hbq.size)) q hq2
                        have y3 : ∀ X : LaterW wr, X.on.cell? ⟨w.heap.size, 3, none⟩ = some (.slice (some ⟨g, off, none⟩) H.sites.length sc) := fun X => HP3.out _ (hbq.trans (X.bel.mono hbq.size))
                        have i1 : (q : Int) < (H.sites.length : Int) := by omega
                        have i2 : (m : Int) < (H.sites.length : Int) := by omega
                        have HE : Hid (H.sites[q] = x → b = false) := HEQ.out q hq2 hql
                        have HN : Hid (H.sites[q] ≠ x → ∀ k (h : k < H.sites.length), k < q + 1 → H.sites[k] ≠ x) := fun hn k hk hl => by
                          rcases Nat.lt_or_ge k q with h3 | h3
                          · exact HQ.out k hk h3
                          · obtain rfl : k = q := by omega
                            exact hn
                        generalize H.sites[q] = y at *
                        by_cases he : y = x
                        · have hb0 := HE.out he
                          subst hb0
                          subst he
                          go_wp2
                          refine wp_region_later wr (Below.refl _ _) (by kernel_rfl) (by kernel_rfl) ?_
                          repeat (go_big_quiet_step (fail))
                          refine wpQuiet_nil ?_
                          rintro _ ⟨⟨X, hX⟩, rfl⟩
                          go_wp2
                          go_ret
                          exact ⟨rfl, BW.trans ((HBW.out _ (hbq.trans (hX.mono hbq.size))).mono BW.size)⟩
                        · have HFIN : Hid _ := HN.out he
                          have hqs : ((txt y).toList == (txt x).toList) = false := txt_beq_ne he
                          go_wp2
                          refine wp_region_later wr (Below.refl _ _) (by kernel_rfl) (by kernel_rfl) ?_
                          repeat (go_big_quiet_step (fail))
                          refine wpQuiet_nil ?_
                          rintro _ ⟨⟨X, hX⟩, rfl⟩
                          go_wp2
                          go_roundw
                          case rel => exact ⟨q + 1, by omega, by go_num, hbq.trans (hX.mono hbq.size), HFIN⟩
                          case measure => simp [intOf]; omega
                      · have eq : m ≤ q := by omega
                        have HFIN : Hid _ := HOK.out hl8 (fun k hk hkm => HQ.out k hk (by omega))
                        go_wp2
                        go_roundw
                        case rel => exact ⟨m + 1, by omega, by go_num, HBW.out _ hbq, HFIN⟩
                        case measure => simp [intOf]; omega
                · have em : H.sites.length ≤ m := by omega
                  have hb1 := HAY.out HWA.out HBA.out (fun i hi => HO.out i hi (by omega))
                  subst hb1
                  go_wp2
                  go_ret
                  exact ⟨rfl, BW.trans (hb.mono BW.size)⟩

end Go.Proofs.Ytebgngofnmcklaa
