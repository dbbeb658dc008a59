/- What spec.TrialNew makes. -/
import Derived.Test.YtjhceoejblmihaaTrialWalks
import Derived.Test.YtjhceoejblmihaaAnyOps
namespace Go.Proofs.Ytjhceoejblmihaa
open Go.RowKit
set_option linter.unusedVariables false
set_option maxRecDepth 100000

theorem opIndexAt {t i j : Tmp} {ty : TypeId} {pos : String} {af : Array Edge} {a : Act} {X : World} {K : Act → World → Prop} {Q : Exit → Act → World → Prop} {g off n c k : Nat} (h1 : a.eval (.tmp i) = .slice (some ⟨g, off, none⟩) n c) (h2 : a.eval (.tmp j) = .int .i64 (k : Int)) (hk : k < n) (hK : K (a.put (some t) (.pointer (some ⟨g, off + k * 8, none⟩))) X) :
    Oper.wp Try.prog ⟨some t, .indexAddr 32 (.tmp i) (.tmp j), ty, pos, af, none⟩ a X K Q := by
  have e1 := ev_tmp h1
  have e2 := ev_tmp h2
  go_simp; exact hK
theorem opNew1 {t i : Tmp} {ty : TypeId} {pos : String} {af : Array Edge} {a : Act} {X : World} {K : Act → World → Prop} {Q : Exit → Act → World → Prop} {z : Int} (h1 : a.eval (.tmp i) = .int .i64 z) (hK : K (a.put (some t) (.slice (some ⟨X.heap.size, 0, none⟩) 1 1)) (X.alloc (.cells #[.int .i64 z] 3))) :
    Oper.wp Try.prog ⟨some t, .buildSlice 24 1 #[(0, .tmp i)], ty, pos, af, none⟩ a X K Q := by
  have e1 := ev_tmp h1
  go_simp; exact hK
theorem opStoreRow {i j : Tmp} {ty : TypeId} {pos : String} {af : Array Edge} {a : Act} {X : World} {K : Act → World → Prop} {Q : Exit → Act → World → Prop} {g p n c : Nat} {u : Value} {x : Option Addr} (h1 : a.eval (.tmp i) = .pointer (some ⟨g, p, none⟩)) (h2 : a.eval (.tmp j) = .slice x n c) (hc : X.cell? ⟨g, p, none⟩ = some u) (hf : X.frozen? ⟨g, p, none⟩ = false) (hK : K a (X.setCell ⟨g, p, none⟩ (.slice x n c))) :
    Oper.wp Try.prog ⟨none, .store 24 (.tmp i) (.tmp j), ty, pos, af, none⟩ a X K Q := by
  have e1 := ev_tmp h1
  have e2 := ev_tmp h2
  go_simp; exact hK
/-- append of one number onto a row of one's own, at a frame of which only what is read is known. -/
theorem wp_appendL {w : World} {o : Oper} {a : Act} {K : Act → World → Prop} {Q : Exit → Act → World → Prop} (s x : Operand)
    (ho : o.op = .call { callee := .builtin .append, args := #[s, x], argTypes := #[24, 24] }) (B : Nat) (v : Value) (P : List Int) (hs : a.eval s = v) (hown : ownI w B v P)
    (ad : Addr) (z : Int) (hx : a.eval x = .slice (some ad) 1 1) (hsrc : w.cell? ad = some (.int .i64 z)) (hlen : P.length ≤ 16777215) (hB : B ≤ w.heap.size)
    (h : ∀ v' w', ownI w' B v' (P ++ [z]) → w.heap.size ≤ w'.heap.size → (∀ i, i < w.heap.size → v.ownBlock ≠ some i → w'.heap[i]? = w.heap[i]?) → (v'.ownBlock = v.ownBlock ∨ v'.ownBlock = some w.heap.size) → (∀ C w0, Below C w0 w → C ≤ B → Below C w0 w') → K (a.put o.dst v') w') : o.wp Try.prog a w K Q := by
  obtain ⟨i0, hi, hz0, hz1, hz2⟩ := info_parts infoI
  have hlt := World.ownsRow.lt hown
  obtain ⟨v', w', hr, hown', hgrow, _, hat⟩ := run_append_own_at (P := Try.prog) w B 24 o.type 3 i0 (.int .i64 0) 1 8 Try.underlying24 hi hz0 hz1 hz2 rfl (by decide) v P.length (P.map intV) hown ad 1 1 [intV z] rfl
    (fun j u hj => by
      match j, hj with
      | 0, hj =>
        simp at hj
        subst hj
        rw [show ad.add 0 = ad from by cases ad; simp [Addr.add]]
        exact hsrc
      | j + 1, hj => simp at hj)
    (fun u hu => by simp at hu; subst hu; rfl) (by unfold maxLen; omega) (by omega) hB
  unfold Oper.wp execOp
  simp only [ho, resolve, invoke, builtin, Sem.run_bind, Sem.run_pure, Result.andThen_ok, List.map_toArray, List.map_cons, List.map_nil, hs, hx, hr]
  refine h v' w' ?_ hgrow.size (fun i hi hne => hgrow.block i hi (fun e => hne e.symm)) hat (fun C w0 hb hC => ?_)
  · unfold ownI
    rw [List.length_append, List.map_append]
    exact hown'
  · exact ⟨hgrow.os.trans hb.os, hgrow.tape.trans hb.tape, hgrow.output.trans hb.output, Nat.le_trans hb.size hgrow.size, fun k hk => (hgrow.block k (by omega) (fun e => by have := (hlt k e.symm).1; omega)).trans (hb.block k hk)⟩

/-- A trial's variable and its two rows, at and behind the variable's block. -/
structure TI (W wr : World) (gt : Nat) (vx vy : Value) (xs ys : List Int) : Prop where
  bel : Below gt W wr
  x : ownI wr (gt + 1) vx xs
  y : ownI wr (gt + 1) vy ys
  dif : Dif2 vx vy
  t : Two wr gt vx vy
/-- Another row of counts is laid into the variable. -/
theorem ti_x {W wr X : World} {gt : Nat} {vx vy vx' : Value} {xs ys xs' : List Int} (h : TI W wr gt vx vy xs ys) (hb : Below gt W X) (ht : Two X gt vx vy) (hy : ownI X (gt + 1) vy ys) (hx : ownI X (gt + 1) vx' xs') (hat : vx'.ownBlock = vx.ownBlock ∨ ∃ q, vx'.ownBlock = some q ∧ wr.heap.size ≤ q) : TI W (X.setCell ⟨gt, 0, none⟩ vx') gt vx' vy xs' ys := by
  have oth : ∀ g, g ≠ gt → (X.setCell ⟨gt, 0, none⟩ vx').heap[g]? = X.heap[g]? := fun g hg => heap_setCell_other _ _ _ _ (by exact hg)
  refine ⟨hb.setCell (Nat.le_refl _) _, ownI_same hx (fun g hg => oth g (by have := (ownI_lt hx g hg).1; omega)), ownI_same hy (fun g hg => oth g (by have := (ownI_lt hy g hg).1; omega)), fun g h1 h2 => ?_, ?_⟩
  · rcases hat with e | ⟨q, e, hq⟩
    · exact h.dif g (by rw [← e]; exact h1) h2
    · rw [e] at h1
      injection h1 with h1
      have := (ownI_lt h.y g h2).2
      omega
  · have ht' : X.heap[gt]? = some (.cells #[vx, vy] 30 (0, 0)) := ht
    show (X.setCell ⟨gt, 0, none⟩ vx').heap[gt]? = _
    simp [World.setCell, ht', Array.getElem?_modify]
theorem ti_y {W wr X : World} {gt : Nat} {vx vy vy' : Value} {xs ys ys' : List Int} (h : TI W wr gt vx vy xs ys) (hb : Below gt W X) (ht : Two X gt vx vy) (hx : ownI X (gt + 1) vx xs) (hy : ownI X (gt + 1) vy' ys') (hat : vy'.ownBlock = vy.ownBlock ∨ ∃ q, vy'.ownBlock = some q ∧ wr.heap.size ≤ q) : TI W (X.setCell ⟨gt, 1, none⟩ vy') gt vx vy' xs ys' := by
  have oth : ∀ g, g ≠ gt → (X.setCell ⟨gt, 1, none⟩ vy').heap[g]? = X.heap[g]? := fun g hg => heap_setCell_other _ _ _ _ (by exact hg)
  refine ⟨hb.setCell (Nat.le_refl _) _, ownI_same hx (fun g hg => oth g (by have := (ownI_lt hx g hg).1; omega)), ownI_same hy (fun g hg => oth g (by have := (ownI_lt hy g hg).1; omega)), fun g h1 h2 => ?_, ?_⟩
  · rcases hat with e | ⟨q, e, hq⟩
    · exact h.dif g h1 (by rw [← e]; exact h2)
    · rw [e] at h2
      injection h2 with h2
      have := (ownI_lt h.x g h1).2
      omega
  · have ht' : X.heap[gt]? = some (.cells #[vx, vy] 30 (0, 0)) := ht
    show (X.setCell ⟨gt, 1, none⟩ vy').heap[gt]? = _
    simp [World.setCell, ht', Array.getElem?_modify]

/-- What holds amid the counts' append. -/
structure TJ (W wr : World) (gt : Nat) (vx vy : Value) (xs ys : List Int) (dn : Nat → Prop) (X : World) : Prop where
  bel : Below gt W X
  t : Two X gt vx vy
  y : ownI X (gt + 1) vy ys
  ge : wr.heap.size ≤ X.heap.size
  x : ¬ dn 9 → ownI X (gt + 1) vx xs
theorem TJ.later {W wr X Y : World} {gt : Nat} {vx vy : Value} {xs ys : List Int} {dn : Nat → Prop} {i : Nat} (h : TJ W wr gt vx vy xs ys dn X) (hb : Below X.heap.size X Y) : TJ W wr gt vx vy xs ys (fun j => dn j ∨ j = i) Y :=
  ⟨h.bel.trans (hb.mono (Nat.le_of_lt h.t.lt)), h.t.same (hb.block gt h.t.lt), ownI_later h.y hb, Nat.le_trans h.ge hb.size, fun hn => ownI_later (h.x (fun h => hn (.inl h))) hb⟩
def RN (wr : World) (gt gh : Nat) (vx : Value) (xs : List Int) (g off n co k : Nat) (z : Int) : Nat → World → Value → Prop
  | 0, X, v => v = .pointer (some ⟨gt, 0, none⟩)
  | 1, X, v => v = vx
  | 2, X, v => v = .pointer (some ⟨gh, 0, none⟩)
  | 3, X, v => v = .slice (some ⟨g, off, none⟩) n co
  | 4, X, v => v = .int .i64 (k : Int)
  | 5, X, v => v = .pointer (some ⟨g, off + k * 8, none⟩)
  | 6, X, v => v = .pointer (some ⟨g, off + k * 8 + 5, none⟩)
  | 7, X, v => v = .int .i64 z
  | 8, X, v => ∃ q, v = .slice (some ⟨q, 0, none⟩) 1 1 ∧ wr.heap.size ≤ q ∧ X.heap[q]? = some (.cells #[.int .i64 z] 3 (0, 0))
  | 9, X, v => ownI X (gt + 1) v (xs ++ [z]) ∧ (v.ownBlock = vx.ownBlock ∨ ∃ q, v.ownBlock = some q ∧ wr.heap.size ≤ q)
  | 10, X, v => v = .pointer (some ⟨gt, 0, none⟩)
  | _, _, _ => True
theorem rn_mono {wr : World} {gt gh : Nat} {vx : Value} {xs : List Int} {g off n co k : Nat} {z : Int} (i : Nat) (X Y : World) (v : Value) (h : RN wr gt gh vx xs g off n co k z i X v) (hb : Below X.heap.size X Y) : RN wr gt gh vx xs g off n co k z i Y v := by
  match i, h with
  | 0, h => exact h
  | 1, h => exact h
  | 2, h => exact h
  | 3, h => exact h
  | 4, h => exact h
  | 5, h => exact h
  | 6, h => exact h
  | 7, h => exact h
  | 8, ⟨q, h1, h2, h3⟩ => exact ⟨q, h1, h2, (hb.block q (Array.getElem?_eq_some_iff.1 h3).1).trans h3⟩
  | 9, ⟨h1, h2⟩ => exact ⟨ownI_later h1 hb, h2⟩
  | 10, h => exact h
  | m + 11, _ => exact trivial
/-- The append leaves what the others yielded. -/
theorem rn_app {wr : World} {gt gh : Nat} {vx : Value} {xs : List Int} {g off n co k : Nat} {z : Int} (i : Nat) (hi : i ≠ 9) (X Y : World) (v : Value) (h : RN wr gt gh vx xs g off n co k z i X v) (hv : ∀ q, vx.ownBlock = some q → q < wr.heap.size) (oth : ∀ i, i < X.heap.size → vx.ownBlock ≠ some i → Y.heap[i]? = X.heap[i]?) : RN wr gt gh vx xs g off n co k z i Y v := by
  match i, h with
  | 0, h => exact h
  | 1, h => exact h
  | 2, h => exact h
  | 3, h => exact h
  | 4, h => exact h
  | 5, h => exact h
  | 6, h => exact h
  | 7, h => exact h
  | 8, ⟨q, h1, h2, h3⟩ => exact ⟨q, h1, h2, (oth q (Array.getElem?_eq_some_iff.1 h3).1 (fun e => by have := hv q e; omega)).trans h3⟩
  | 9, _ => exact absurd rfl hi
  | 10, h => exact h
  | m + 11, _ => exact trivial

/-- A new trial. -/
def trialNew (H : HeapD) : TrialD := ⟨(H.objs.take 8).map (·.count), (H.objs.take 8).map (fun _ => 0)⟩

theorem ti_start (W : World) : TI W (W.alloc (.cells #[.slice none 0 0, .slice none 0 0] 30)) W.heap.size (.slice none 0 0) (.slice none 0 0) [] [] :=
  ⟨(Below.refl _ _).alloc (Nat.le_refl _) _, ownI_nil _ _, ownI_nil _ _, fun g h => (by simp [Value.ownBlock] at h), heap_alloc_new W _⟩
theorem cnt_step (H : HeapD) (j : Nat) (h : j < H.objs.length) : (H.objs.take (j + 1)).map (·.count) = (H.objs.take j).map (·.count) ++ [H.objs[j].count] := by
  rw [List.take_succ_eq_append_getElem h, List.map_append]; rfl
theorem zer_step (H : HeapD) (j : Nat) (h : j < H.objs.length) : (H.objs.take (j + 1)).map (fun _ => (0 : Int)) = (H.objs.take j).map (fun _ => (0 : Int)) ++ [0] := by
  rw [List.take_succ_eq_append_getElem h, List.map_append]; rfl

set_option maxHeartbeats 4000000 in
theorem sTrialNew_calls (v : Value) (H : HeapD) (w : World) (h : RdH w v H) (hs : SmallH H) :
    Calls Try.prog 10 #[v] w fun e w' => ∃ s : TSh, e = .returned s.v ∧ TM w' w.heap.size s (trialNew H) ∧ Below w.heap.size w w' := by
  obtain ⟨ao, co, aw, cw, ab, cb, sa, sc, rfl, ro, -, -, -⟩ := h
  have hn := hs.objs
  clear hs
  obtain ⟨W, hW⟩ : ∃ W, W = (w.alloc (.cells #[.slice ao H.objs.length co, .slice aw H.weaks.length cw, .slice ab H.buffer.length cb, .slice sa H.sites.length sc] 35)).alloc (.cells #[.slice none 0 0, .slice none 0 0] 30) := ⟨_, rfl⟩
  have BW : Below w.heap.size w W := by rw [hW]; exact ((Below.refl _ _).alloc (Nat.le_refl _) _).alloc (by simp) _
  have hWs : W.heap.size = w.heap.size + 2 := by rw [hW]; simp
  have p0 : W.cell? ⟨w.heap.size, 0, none⟩ = some (.slice ao H.objs.length co) := by
    have f1 := Four.new w (.slice ao H.objs.length co) (.slice aw H.weaks.length cw) (.slice ab H.buffer.length cb) (.slice sa H.sites.length sc)
    have hb2 : Below (w.heap.size + 1) (w.alloc (.cells #[.slice ao H.objs.length co, .slice aw H.weaks.length cw, .slice ab H.buffer.length cb, .slice sa H.sites.length sc] 35)) W := by rw [hW]; exact (Below.refl _ _).alloc (by simp) _
    exact (hb2.cell (p := ⟨w.heap.size, 0, none⟩) (by simp)).trans (f1.cell 0)
  have FR : Two W (w.heap.size + 1) (.slice none 0 0) (.slice none 0 0) := by
    rw [hW]
    have f1 := Two.new (w.alloc (.cells #[.slice ao H.objs.length co, .slice aw H.weaks.length cw, .slice ab H.buffer.length cb, .slice sa H.sites.length sc] 35)) (.slice none 0 0) (.slice none 0 0)
    simpa using f1
  have HP : Hid (∀ X, Below W.heap.size W X → X.cell? ⟨w.heap.size, 0, none⟩ = some (.slice ao H.objs.length co)) := fun X hX => (hX.cell (p := ⟨w.heap.size, 0, none⟩) (by show w.heap.size < _; omega)).trans p0
  have HR : Hid (∀ X, Below W.heap.size W X → RdO X ao H.objs) := fun X hX => rdO_later (rdO_later ro BW) hX
  have HFR : Hid (∀ X, Below W.heap.size W X → Two X (w.heap.size + 1) (.slice none 0 0) (.slice none 0 0)) := fun X hX => FR.later hX (by omega)
  have HWs : Hid (W.heap.size = w.heap.size + 2) := hWs
  have HBW : Hid (Below w.heap.size w W) := BW
  have HT0 : Hid _ := ti_start W
  have HCS : Hid (∀ (j : Nat) (h : j < H.objs.length), (H.objs.take (j + 1)).map (·.count) = (H.objs.take j).map (·.count) ++ [H.objs[j].count]) := fun j h => cnt_step H j h
  have HZS : Hid (∀ (j : Nat) (h : j < H.objs.length), (H.objs.take (j + 1)).map (fun _ => (0 : Int)) = (H.objs.take j).map (fun _ => (0 : Int)) ++ [0]) := fun j h => zer_step H j h
  have HE : Hid (∀ j : Nat, j ≤ 8 → j ≤ H.objs.length → (j = 8 ∨ j = H.objs.length) → trialNew H = ⟨(H.objs.take j).map (·.count), (H.objs.take j).map (fun _ => 0)⟩) := by
    intro j h8 hl hj
    unfold trialNew
    rcases hj with rfl | rfl
    · rfl
    · rw [List.take_of_length_le h8, List.take_of_length_le (Nat.le_refl _)]
  obtain ⟨n, hnn⟩ : ∃ n, H.objs.length = n := ⟨_, rfl⟩
  have Hn : Hid (H.objs.length = n) := hnn
  rw [hnn] at hn hW HP HE ⊢
  obtain ⟨gt, hgt⟩ : ∃ gt, W.heap.size = gt := ⟨_, rfl⟩
  have Hgt : Hid (W.heap.size = gt) := hgt
  rw [hgt] at HP HR HFR HT0
  clear ro p0 FR BW hnn
  go_enter Try.func10, Try.ntmps10
  go_wp2
  rw [← hW, ← hWs, hgt]
  clear hW hWs hgt
  go_loopw [4] (fun i wr => ∃ (j : Nat) (xa : Option Addr) (xc : Nat) (ya : Option Addr) (yc : Nat), i = .int .i64 (j : Int) ∧ j ≤ 8 ∧ j ≤ n ∧ Hid (TI W wr gt (.slice xa j xc) (.slice ya j yc) ((H.objs.take j).map (·.count)) ((H.objs.take j).map (fun _ => 0)))) (fun i _ => n - (intOf i).toNat)
  case atStart => exact ⟨0, none, 0, none, 0, rfl, by omega, by omega, HT0⟩
  case round =>
    obtain ⟨j, xa, xc, ya, yc, rfl, hj8, hjn, HI⟩ := hrel
    have p0 := HP.out _ HI.out.bel
    by_cases hlt : j < n
    · by_cases hlt8 : j < 8
      · have hj2 : j < H.objs.length := by have := Hn.out; omega
        obtain ⟨g, off, f, fc, rfl, hg, hc, -⟩ := HR.out W (Below.refl _ _) j hj2
        have HXS : Hid (_ = _) := HCS.out j hj2
        have HYS : Hid (_ = _) := HZS.out j hj2
        obtain ⟨z, hz⟩ : ∃ z, H.objs[j].count = z := ⟨_, rfl⟩
        have hc5 := hc.c5
        rw [hz] at hc5 HXS
        have HC : Hid (∀ X, Below gt W X → X.cell? ⟨g, off + j * 8 + 5, none⟩ = some (.int .i64 z)) := fun X hX => (hX.cell (p := ⟨g, off + j * 8 + 5, none⟩) (by show g < gt; have := Hgt.out; omega)).trans hc5
        have hll : ((H.objs.take j).map (fun o : ObjD => o.count)).length = j := by rw [List.length_map, List.length_take]; omega
        have hly0 : ((H.objs.take j).map (fun _ : ObjD => (0 : Int))).length = j := by rw [List.length_map, List.length_take]; omega
        obtain ⟨XS, hXS⟩ : ∃ XS, (H.objs.take j).map (fun o : ObjD => o.count) = XS := ⟨_, rfl⟩
        obtain ⟨YS, hYS⟩ : ∃ YS, (H.objs.take j).map (fun _ : ObjD => (0 : Int)) = YS := ⟨_, rfl⟩
        rw [hXS] at HI HXS hll
        rw [hYS] at HI HYS hly0
        have HLX : Hid (XS.length = j) := hll
        have HLY : Hid (YS.length = j) := hly0
        clear hc hc5 hz hXS hYS hll hly0
        go_wp2
        refine wp_region_step 11 (by kernel_rfl) (by kernel_rfl) (TJ W wr gt (.slice xa j xc) (.slice ya j yc) XS YS) (RN wr gt w.heap.size (.slice xa j xc) XS g off n co j z) (fun _ _ _ _ => True) ⟨HI.out.bel.drew, HI.out.t, HI.out.y, Nat.le_refl _, fun _ => HI.out.x⟩ ?_ ?_
        · intro i o hi ho a X dn hJ hA hbn hnot hdep
          match i, hi, ho with
          | 0, _, ho =>
            obtain rfl := Option.some.inj ho
            exact opFieldT 0 (by omega) (alike_at hA (t := 3) (by kernel_rfl)) ⟨_, rfl, hJ.later (Below.refl _ _), rfl, fun q hq _ t ht => ⟨hbn.yields q hq t ht, trivial, trivial⟩⟩
          | 1, _, ho =>
            obtain rfl := Option.some.inj ho
            have e1 : a.eval (.tmp 17) = .pointer (some ⟨gt, 0, none⟩) := hbn.yields 0 (hdep ⟨0, .data⟩ (by simp) rfl) 17 rfl
            exact opLoadI e1 (hJ.t.cell 0) ⟨_, rfl, hJ.later (Below.refl _ _), rfl, fun q hq _ t ht => ⟨hbn.yields q hq t ht, trivial, trivial⟩⟩
          | 2, _, ho =>
            obtain rfl := Option.some.inj ho
            exact opField 0 (by omega) (alike_at hA (t := 1) (by kernel_rfl)) ⟨_, rfl, hJ.later (Below.refl _ _), rfl, fun q hq _ t ht => ⟨hbn.yields q hq t ht, trivial, trivial⟩⟩
          | 3, _, ho =>
            obtain rfl := Option.some.inj ho
            have e1 : a.eval (.tmp 19) = .pointer (some ⟨w.heap.size, 0, none⟩) := hbn.yields 2 (hdep ⟨2, .data⟩ (by simp) rfl) 19 rfl
            exact opLoadO e1 (HP.out X hJ.bel) ⟨_, rfl, hJ.later (Below.refl _ _), rfl, fun q hq _ t ht => ⟨hbn.yields q hq t ht, trivial, trivial⟩⟩
          | 4, _, ho =>
            obtain rfl := Option.some.inj ho
            exact opMove (alike_at hA (t := 4) (by kernel_rfl)) ⟨_, rfl, hJ.later (Below.refl _ _), rfl, fun q hq _ t ht => ⟨hbn.yields q hq t ht, trivial, trivial⟩⟩
          | 5, _, ho =>
            obtain rfl := Option.some.inj ho
            have e1 : a.eval (.tmp 20) = .slice (some ⟨g, off, none⟩) n co := hbn.yields 3 (hdep ⟨3, .data⟩ (by simp) rfl) 20 rfl
            have e2 : a.eval (.tmp 21) = .int .i64 (j : Int) := hbn.yields 4 (hdep ⟨4, .data⟩ (by simp) rfl) 21 rfl
            exact opIndexAt e1 e2 hlt ⟨_, rfl, hJ.later (Below.refl _ _), rfl, fun q hq _ t ht => ⟨hbn.yields q hq t ht, trivial, trivial⟩⟩
          | 6, _, ho =>
            obtain rfl := Option.some.inj ho
            have e1 : a.eval (.tmp 22) = .pointer (some ⟨g, off + j * 8, none⟩) := hbn.yields 5 (hdep ⟨5, .data⟩ (by simp) rfl) 22 rfl
            exact opFieldO5 e1 ⟨_, rfl, hJ.later (Below.refl _ _), rfl, fun q hq _ t ht => ⟨hbn.yields q hq t ht, trivial, trivial⟩⟩
          | 7, _, ho =>
            obtain rfl := Option.some.inj ho
            have e1 : a.eval (.tmp 23) = .pointer (some ⟨g, off + j * 8 + 5, none⟩) := hbn.yields 6 (hdep ⟨6, .data⟩ (by simp) rfl) 23 rfl
            exact opLoadInt e1 (HC.out X hJ.bel) ⟨_, rfl, hJ.later (Below.refl _ _), rfl, fun q hq _ t ht => ⟨hbn.yields q hq t ht, trivial, trivial⟩⟩
          | 8, _, ho =>
            obtain rfl := Option.some.inj ho
            have e1 : a.eval (.tmp 24) = .int .i64 z := hbn.yields 7 (hdep ⟨7, .data⟩ (by simp) rfl) 24 rfl
            have bX : Below X.heap.size X (X.alloc (.cells #[.int .i64 z] 3)) := (Below.refl _ _).alloc (Nat.le_refl _) _
            exact opNew1 e1 ⟨_, rfl, hJ.later bX, ⟨X.heap.size, rfl, hJ.ge, heap_alloc_new X _⟩, fun q hq _ t ht => ⟨rn_mono q _ _ _ (hbn.yields q hq t ht) bX, trivial, trivial⟩⟩
          | 9, _, ho =>
            obtain rfl := Option.some.inj ho
            have e1 : a.eval (.tmp 18) = .slice xa j xc := hbn.yields 1 (hdep ⟨1, .data⟩ (by simp) rfl) 18 rfl
            obtain ⟨q8, e2, hq8, hg8⟩ := hbn.yields 8 (hdep ⟨8, .data⟩ (by simp) rfl) 25 rfl
            have hown := hJ.x hnot
            refine wp_appendL _ _ rfl (gt + 1) _ _ e1 hown ⟨q8, 0, none⟩ z e2 (by simp [World.cell?, hg8]) (by rw [HLX.out]; omega) (by have := hJ.t.lt; omega) ?_
            intro v' X' hO hsz hoth hat hbel
            have hge := hJ.ge
            refine ⟨_, rfl, ⟨hbel gt W hJ.bel (by omega), hJ.t.same (hoth gt hJ.t.lt (fun e => by have := (ownI_lt hown gt e).1; omega)), ownI_same hJ.y (fun q hq => hoth q (ownI_lt hJ.y q hq).2 (fun e => HI.out.dif q e hq)), Nat.le_trans hge hsz, fun h => absurd (.inr rfl) h⟩, ⟨hO, ?_⟩, fun q hq hne t ht => ⟨rn_app q hne _ _ _ (hbn.yields q hq t ht) (fun q hq => (ownI_lt HI.out.x q hq).2) hoth, trivial, trivial⟩⟩
            rcases hat with e | e
            · exact .inl e
            · exact .inr ⟨_, e, hge⟩
          | 10, _, ho =>
            obtain rfl := Option.some.inj ho
            exact opFieldT 0 (by omega) (alike_at hA (t := 3) (by kernel_rfl)) ⟨_, rfl, hJ.later (Below.refl _ _), rfl, fun q hq _ t ht => ⟨hbn.yields q hq t ht, trivial, trivial⟩⟩
        · intro o ho a X dn hJ hA hbn hdn
          obtain rfl := Option.some.inj ho
          obtain ⟨hO, hat⟩ := hbn.yields 9 (hdn 9 (by omega)) 26 rfl
          have e1 : a.eval (.tmp 27) = .pointer (some ⟨gt, 0, none⟩) := hbn.yields 10 (hdn 10 (by omega)) 27 rfl
          obtain ⟨xa2, xc2, e2, -⟩ := rdI_own hO
          rw [e2] at hO hat
          refine opStoreRow e1 e2 (hJ.t.cell 0) (hJ.t.frozen 0) ?_
          have hlx : (XS ++ [z]).length = j + 1 := by rw [List.length_append, HLX.out]; rfl
          rw [hlx] at hO hat ⊢
          have HI2 : Hid _ := ti_x HI.out hJ.bel hJ.t hJ.y hO hat
          have hge : wr.heap.size ≤ (X.setCell ⟨gt, 0, none⟩ (.slice xa2 (j + 1) xc2)).heap.size := by simp [World.setCell]; exact hJ.ge
          obtain ⟨us, hus, rfl⟩ := alike_tmps hA [17, 18, 19, 20, 21, 22, 23, 24, 25, 26, 27] (by kernel_rfl)
          clear hbn hdn hA hus e1 e2 hO hat hJ ho
          generalize X.setCell ⟨gt, 0, none⟩ (.slice xa2 (j + 1) xc2) = Y at *
          simp only [List.mapIdx_cons, List.mapIdx_nil, Nat.reduceAdd, List.contains_cons, List.contains_nil, Nat.reduceBEq, Bool.or_false, Bool.or_true, if_true, if_false, Bool.false_eq_true]
          have y1 : Y.cell? ⟨gt, 1, none⟩ = some (.slice ya j yc) := HI2.out.t.cell 1
          have hgY := HI2.out.t.lt
          have hgn : ¬ gt = Y.heap.size := by omega
          have HY : Hid (∀ X, Below Y.heap.size Y X → TI W X gt (.slice xa2 (j + 1) xc2) (.slice ya j yc) (XS ++ [z]) YS) := fun X hX => ⟨HI2.out.bel.trans (hX.mono (by omega)), ownI_later HI2.out.x hX, ownI_later HI2.out.y hX, HI2.out.dif, HI2.out.t.same (hX.block gt hgY)⟩
          obtain ⟨V, hV⟩ : ∃ V, V = Y.alloc (.cells #[.int .i64 0] 3) := ⟨_, rfl⟩
          have HIV : Hid _ := HY.out V (by rw [hV]; exact (Below.refl _ _).alloc (Nat.le_refl _) _)
          have hVc : V.cell? ⟨Y.heap.size, 0, none⟩ = some (.int .i64 0) := by rw [hV, World.cell?_alloc_mark]; rfl
          have HVs : Hid (gt + 1 ≤ V.heap.size) := by have := HIV.out.t.lt; exact this
          go_wp2_with (at_builtin; rw [← hV]; clear hV; refine wpList_appendL rfl _ _ rfl (gt + 1) _ _ rfl HIV.out.y ⟨Y.heap.size, 0, none⟩ 0 rfl hVc ?hlen HVs.out ?_)
          case hlen => rw [HLY.out]; omega
          intro v4 X4 O4 s4 H4 A4 B4
          obtain ⟨ya4, yc4, rfl, -⟩ := rdI_own O4
          have hly : (YS ++ [0]).length = j + 1 := by rw [List.length_append, HLY.out]; rfl
          rw [hly] at O4 A4 ⊢
          have T4 : Two X4 gt (.slice xa2 (j + 1) xc2) (.slice ya j yc) := HIV.out.t.same (H4.out gt HIV.out.t.lt (fun e => by have := (ownI_lt HIV.out.y gt e).1; omega))
          have x4 : ownI X4 (gt + 1) (.slice xa2 (j + 1) xc2) _ := ownI_same HIV.out.x (fun q hq => H4.out q (ownI_lt HIV.out.x q hq).2 (fun e => HIV.out.dif q hq e))
          have HF : Hid _ := ti_y HIV.out (B4.out gt W HIV.out.bel (by omega)) T4 x4 O4 (by
            rcases A4.out with e | e
            · exact .inl e
            · exact .inr ⟨_, e, Nat.le_refl _⟩)
          have c4 : X4.cell? ⟨gt, 1, none⟩ = some (.slice ya j yc) := T4.cell 1
          have f4 := T4.frozen 1
          rw [← HXS.out, ← HYS.out] at HF
          clear T4 x4 O4 H4 A4 B4
          go_wp2
          go_roundw
          case rel => exact ⟨j + 1, xa2, xc2, ya4, yc4, by go_num, by omega, by omega, HF⟩
          case measure => simp [intOf]; omega
      · have e8 : 8 ≤ j := by omega
        have HEE : Hid (_ = _) := HE.out j hj8 hjn (.inl (by omega))
        have TW := HI.out.t
        have RW := HFR.out _ HI.out.bel
        have x0 : wr.cell? ⟨gt, 0, none⟩ = some (.slice xa j xc) := TW.cell 0
        have x1 : wr.cell? ⟨gt, 1, none⟩ = some (.slice ya j yc) := TW.cell 1
        have r0 : wr.cell? ⟨w.heap.size + 1, 0, none⟩ = some (.slice none 0 0) := RW.cell 0
        have r1 : wr.cell? ⟨w.heap.size + 1, 1, none⟩ = some (.slice none 0 0) := RW.cell 1
        have z0 := RW.frozen 0
        have z1 := RW.frozen 1
        have HTM : Hid (TM (setTwo wr (w.heap.size + 1) (.slice xa j xc) (.slice ya j yc)) w.heap.size ⟨xa, j, xc, ya, j, yc⟩ (trialNew H)) := by
          have oth : ∀ q, gt + 1 ≤ q → (setTwo wr (w.heap.size + 1) (.slice xa j xc) (.slice ya j yc)).heap[q]? = wr.heap[q]? := fun q hq => setTwo_other _ _ _ _ q (by have := HWs.out; have := Hgt.out; omega)
          rw [HEE.out]
          have hle : w.heap.size ≤ gt + 1 := by have := HWs.out; have := Hgt.out; omega
          exact ⟨ownI_mono (ownI_same HI.out.x (fun q hq => oth q (ownI_lt HI.out.x q hq).1)) hle, ownI_mono (ownI_same HI.out.y (fun q hq => oth q (ownI_lt HI.out.y q hq).1)) hle, HI.out.dif⟩
        have HBL : Hid (Below w.heap.size w (setTwo wr (w.heap.size + 1) (.slice xa j xc) (.slice ya j yc))) := by
          unfold setTwo
          exact ((HBW.out.trans (HI.out.bel.mono (by have := HWs.out; have := Hgt.out; omega))).setCell (by simp) _).setCell (by simp) _
        clear TW RW HI HEE
        go_wp2
        exact bodyPost_ret (v := .agg #[.slice xa j xc, .slice ya j yc]) (by simp [results, Try.results10, go_sem, *]) rfl ⟨⟨xa, j, xc, ya, j, yc⟩, rfl, HTM.out, HBL.out⟩
    · have e8 : n ≤ j := by omega
      have HEE : Hid (_ = _) := HE.out j hj8 hjn (.inr (by omega))
      have TW := HI.out.t
      have RW := HFR.out _ HI.out.bel
      have x0 : wr.cell? ⟨gt, 0, none⟩ = some (.slice xa j xc) := TW.cell 0
      have x1 : wr.cell? ⟨gt, 1, none⟩ = some (.slice ya j yc) := TW.cell 1
      have r0 : wr.cell? ⟨w.heap.size + 1, 0, none⟩ = some (.slice none 0 0) := RW.cell 0
      have r1 : wr.cell? ⟨w.heap.size + 1, 1, none⟩ = some (.slice none 0 0) := RW.cell 1
      have z0 := RW.frozen 0
      have z1 := RW.frozen 1
      have HTM : Hid (TM (setTwo wr (w.heap.size + 1) (.slice xa j xc) (.slice ya j yc)) w.heap.size ⟨xa, j, xc, ya, j, yc⟩ (trialNew H)) := by
        have oth : ∀ q, gt + 1 ≤ q → (setTwo wr (w.heap.size + 1) (.slice xa j xc) (.slice ya j yc)).heap[q]? = wr.heap[q]? := fun q hq => setTwo_other _ _ _ _ q (by have := HWs.out; have := Hgt.out; omega)
        rw [HEE.out]
        have hle : w.heap.size ≤ gt + 1 := by have := HWs.out; have := Hgt.out; omega
        exact ⟨ownI_mono (ownI_same HI.out.x (fun q hq => oth q (ownI_lt HI.out.x q hq).1)) hle, ownI_mono (ownI_same HI.out.y (fun q hq => oth q (ownI_lt HI.out.y q hq).1)) hle, HI.out.dif⟩
      have HBL : Hid (Below w.heap.size w (setTwo wr (w.heap.size + 1) (.slice xa j xc) (.slice ya j yc))) := by
        unfold setTwo
        exact ((HBW.out.trans (HI.out.bel.mono (by have := HWs.out; have := Hgt.out; omega))).setCell (by simp) _).setCell (by simp) _
      clear TW RW HI HEE
      go_wp2
      exact bodyPost_ret (v := .agg #[.slice xa j xc, .slice ya j yc]) (by simp [results, Try.results10, go_sem, *]) rfl ⟨⟨xa, j, xc, ya, j, yc⟩, rfl, HTM.out, HBL.out⟩

end Go.Proofs.Ytjhceoejblmihaa
