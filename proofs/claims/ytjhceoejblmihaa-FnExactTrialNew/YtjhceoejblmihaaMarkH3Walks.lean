/- What markHeap and heldHeap do. -/
import Derived.Test.YtjhceoejblmihaaMarkH2Walks
import Derived.Test.YtjhceoejblmihaaHeapForm
namespace Go.Proofs.Ytjhceoejblmihaa
open Go.RowKit
set_option linter.unusedVariables false

theorem cntO_bd (ss : List OSh) (h1 : ss.length ≤ 16777216) (h2 : ∀ t ∈ ss, t.n ≤ 16777216) : cntO ss ≤ 16777216 * (7 + 16777216) :=
  Nat.le_trans (cntO_le ss 16777216 h2) (Nat.mul_le_mul_right _ h1)

/-- A new block of four slices is as it was behind stores into what was there before. -/
theorem four_stored (w : World) (t : TypeId) (x0 x1 x2 x3 : Value) (L : Sts) (hL : ∀ q ∈ L, q.1.block < w.heap.size) (X : World) (hX : X = stores (w.alloc (.cells #[x0, x1, x2, x3] t)) L) :
    X.cell? ⟨w.heap.size, 0, none⟩ = some x0 ∧ X.cell? ⟨w.heap.size, 1, none⟩ = some x1 ∧ X.cell? ⟨w.heap.size, 2, none⟩ = some x2 ∧ X.cell? ⟨w.heap.size, 3, none⟩ = some x3 := by
  have h : ∀ k, X.cell? ⟨w.heap.size, k, none⟩ = (#[x0, x1, x2, x3] : Array Value)[k]? := fun k => by
    rw [hX, stores_other _ _ (fun q hq e => by have := hL q hq; rw [e] at this; exact Nat.lt_irrefl _ this), World.cell?_alloc_mark]
  exact ⟨h 0, h 1, h 2, h 3⟩

theorem markHeap_st (w : World) (s : HSh) (h : CanH w s) :
    Calls Try.prog 15 #[s.v, .int .i64 1] w fun e w' => e = .returned (.int .i64 ((s.k3 : Int) + (s.sn : Int))) ∧ Below w.heap.size (stores w (markL s)) w' := by
  have hcn := cntO_bd s.os h.lo h.lf
  have hlw := h.lw
  have hlb := h.lb
  have HLT : Hid (∀ q ∈ markL s, q.1.block < w.heap.size) := fun q hq => (markL_lt h q hq).1
  obtain ⟨W, hW⟩ : ∃ W, W = w.alloc (.cells #[.slice s.oa s.os.length s.oc, .slice s.wa s.wn s.wc, .slice s.ba s.bn s.bc, .slice s.sa s.sn s.sc] 35) := ⟨_, rfl⟩
  have BW : Below w.heap.size w W := by rw [hW]; exact (Below.refl _ _).alloc (Nat.le_refl _) _
  have h' := canH_later h BW
  have C1 : Hid (∀ u : Unit, _) := fun (_ : Unit) => markObjS_st W s.oa s.oc s.os 1 h'.o h.lo h.lf (by omega) (by omega) h.ap
  have C2 : Hid (∀ u : Unit, _) := fun (_ : Unit) => markWeakS_st (stores W (mkO s.oa s.os 1)) s.wa s.wn s.wc s.k1 (canW_stores _ h'.wk) h.lw (by unfold HSh.k1; omega) (by unfold HSh.k1; omega)
  have C3 : Hid (∀ u : Unit, _) := fun (_ : Unit) => markIntS_st (stores (stores W (mkO s.oa s.os 1)) (mkW s.wa s.k1 s.wn)) s.ba s.bn s.bc s.k2 (canI_stores _ (canI_stores _ h'.b)) h.lb (by unfold HSh.k2 HSh.k1; omega) (by unfold HSh.k2 HSh.k1; omega)
  have C4 : Hid (∀ u : Unit, _) := fun (_ : Unit) => markStringS_st (stores (stores (stores W (mkO s.oa s.os 1)) (mkW s.wa s.k1 s.wn)) (mkI s.ba s.k2 s.bn)) s.sa s.sn s.sc s.k3 (canI_stores _ (canI_stores _ (canI_stores _ h'.st))) h.ls (by unfold HSh.k3; omega) (by unfold HSh.k3; omega)
  have e1 : (1 : Int) + (cntO s.os : Int) = s.k1 := rfl
  have e2 : s.k1 + 2 * (s.wn : Int) = s.k2 := rfl
  have e3 : s.k2 + (s.bn : Int) = (s.k3 : Int) := by unfold HSh.k2 HSh.k1 HSh.k3; omega
  rw [e1] at C1
  rw [e2] at C2
  rw [e3] at C3
  have F1 : Hid (∀ X, X = stores W (mkO s.oa s.os 1) → _) := fun X hX => four_stored w 35 (.slice s.oa s.os.length s.oc) (.slice s.wa s.wn s.wc) (.slice s.ba s.bn s.bc) (.slice s.sa s.sn s.sc) (mkO s.oa s.os 1) (fun q hq => HLT.out q (List.mem_append_left _ hq)) X (by rw [hX, hW])
  have F2 : Hid (∀ X, X = stores (stores W (mkO s.oa s.os 1)) (mkW s.wa s.k1 s.wn) → _) := fun X hX => four_stored w 35 (.slice s.oa s.os.length s.oc) (.slice s.wa s.wn s.wc) (.slice s.ba s.bn s.bc) (.slice s.sa s.sn s.sc) (mkO s.oa s.os 1 ++ mkW s.wa s.k1 s.wn)
    (fun q hq => HLT.out q (by rcases List.mem_append.1 hq with hq | hq; exact List.mem_append_left _ hq; exact List.mem_append_right _ (List.mem_append_left _ hq))) X (by rw [hX, stores_append, hW])
  have F3 : Hid (∀ X, X = stores (stores (stores W (mkO s.oa s.os 1)) (mkW s.wa s.k1 s.wn)) (mkI s.ba s.k2 s.bn) → _) := fun X hX => four_stored w 35 (.slice s.oa s.os.length s.oc) (.slice s.wa s.wn s.wc) (.slice s.ba s.bn s.bc) (.slice s.sa s.sn s.sc) (mkO s.oa s.os 1 ++ (mkW s.wa s.k1 s.wn ++ mkI s.ba s.k2 s.bn))
    (fun q hq => HLT.out q (by
      rcases List.mem_append.1 hq with hq | hq
      · exact List.mem_append_left _ hq
      · rcases List.mem_append.1 hq with hq | hq
        · exact List.mem_append_right _ (List.mem_append_left _ hq)
        · exact List.mem_append_right _ (List.mem_append_right _ (List.mem_append_left _ hq)))) X (by rw [hX, stores_append, stores_append, hW])
  have HE : Hid (∀ X, Below W.heap.size (stores (stores (stores (stores W (mkO s.oa s.os 1)) (mkW s.wa s.k1 s.wn)) (mkI s.ba s.k2 s.bn)) (mkS s.sa s.k3 s.sn)) X → Below w.heap.size (stores w (markL s)) X) := by
    intro X hX
    have b := stores_both (markL s) BW
    have e : stores W (markL s) = stores (stores (stores (stores W (mkO s.oa s.os 1)) (mkW s.wa s.k1 s.wn)) (mkI s.ba s.k2 s.bn)) (mkS s.sa s.k3 s.sn) := by
      unfold markL; rw [stores_append, stores_append, stores_append]
    rw [e] at b
    exact b.trans (hX.mono BW.size)
  have hS : ∀ (A : World) (L1 L2 L3 : Sts), (stores (stores (stores A L1) L2) L3).heap.size = A.heap.size := fun A L1 L2 L3 => by rw [stores_size, stores_size, stores_size]
  have HS : Hid ((stores (stores (stores W (mkO s.oa s.os 1)) (mkW s.wa s.k1 s.wn)) (mkI s.ba s.k2 s.bn)).heap.size = W.heap.size) := hS _ _ _ _
  rw [HS.out] at C4
  generalize s.k1 = q1 at *
  generalize s.k2 = q2 at *
  generalize s.k3 = q3 at *
  generalize mkO s.oa s.os 1 = L1 at *
  generalize mkW s.wa q1 s.wn = L2 at *
  generalize mkI s.ba q2 s.bn = L3 at *
  generalize mkS s.sa q3 s.sn = L4 at *
  unfold HSh.v
  clear h h' e1 e2 e3 hS HLT
  go_enter Try.func15, Try.ntmps15
  go_wp2_with fail
  rw [← hW]
  refine (C1.out ()).mono ?_
  rintro e w1 ⟨rfl, hw1⟩
  obtain ⟨c0, c1, c2, c3⟩ := F1.out _ hw1
  rw [← hw1] at C2 C3 C4 F2 F3 HE
  clear hW hw1 C1 F1 hcn
  go_wp2_with fail
  refine (C2.out ()).mono ?_
  rintro e w2 ⟨rfl, hw2⟩
  obtain ⟨d0, d1, d2, d3⟩ := F2.out _ hw2
  rw [← hw2] at C3 C4 F3 HE
  clear hw2 C2 F2 c0 c1 c2 c3
  go_wp2_with fail
  refine (C3.out ()).mono ?_
  rintro e w3 ⟨rfl, hw3⟩
  obtain ⟨c0, c1, c2, c3⟩ := F3.out _ hw3
  rw [← hw3] at C4 HE
  clear hw3 C3 F3 d0 d1 d2 d3
  go_wp2_with fail
  refine (C4.out ()).mono ?_
  rintro e w4 ⟨rfl, b4⟩
  go_wp2
  go_ret
  exact ⟨rfl, HE.out _ b4⟩

/-- What heldHeap asks of a world. -/
structure HeldH (w : World) (s : HSh) : Prop where
  all : ∀ q ∈ markL s, w.cell? q.1 = some q.2
  head : ∀ j (h : j < s.os.length), ∃ g off, s.oa = some ⟨g, off, none⟩ ∧ g < w.heap.size ∧ w.cell? ⟨g, off + j * 8 + 6, none⟩ = some (.slice s.os[j].f s.os[j].n s.os[j].c) ∧ (0 < s.os[j].n → ∃ g' off', s.os[j].f = some ⟨g', off', none⟩)
  wk : 0 < s.wn → ∃ g off, s.wa = some ⟨g, off, none⟩
  b : 0 < s.bn → ∃ g off, s.ba = some ⟨g, off, none⟩
  st : 0 < s.sn → ∃ g off, s.sa = some ⟨g, off, none⟩
theorem heldH_later {w w' : World} {s : HSh} (h : HeldH w s) (hb : Below w.heap.size w w') : HeldH w' s := by
  refine ⟨fun q hq => ?_, fun j hj => ?_, h.wk, h.b, h.st⟩
  · rw [hb.cell (World.block_lt_of_cell? w _ (h.all q hq))]; exact h.all q hq
  · obtain ⟨g, off, h1, h2, h3, h4⟩ := h.head j hj
    exact ⟨g, off, h1, Nat.lt_of_lt_of_le h2 hb.size, (hb.cell (p := ⟨g, off + j * 8 + 6, none⟩) h2).trans h3, h4⟩

theorem heldHeap_at (w : World) (s : HSh) (h : HeldH w s) (hl : s.os.length ≤ 16777216 ∧ (∀ t ∈ s.os, t.n ≤ 16777216) ∧ s.wn ≤ 16777216 ∧ s.bn ≤ 16777216 ∧ s.sn ≤ 16777216) :
    Calls Try.prog 31 #[s.v, .int .i64 1] w fun e w' => e = .returned (.int .i64 ((s.k3 : Int) + (s.sn : Int))) ∧ Below w.heap.size w w' := by
  obtain ⟨lo, lf, lw, lb, ls⟩ := hl
  have hcn := cntO_bd s.os lo lf
  obtain ⟨W, hW⟩ : ∃ W, W = w.alloc (.cells #[.slice s.oa s.os.length s.oc, .slice s.wa s.wn s.wc, .slice s.ba s.bn s.bc, .slice s.sa s.sn s.sc] 35) := ⟨_, rfl⟩
  have BW : Below w.heap.size w W := by rw [hW]; exact (Below.refl _ _).alloc (Nat.le_refl _) _
  have hWs : W.heap.size = w.heap.size + 1 := by rw [hW]; simp
  have HK : Hid (∀ X, Below W.heap.size W X → _) := fun X (hX : Below W.heap.size W X) => four_kept w 35 (.slice s.oa s.os.length s.oc) (.slice s.wa s.wn s.wc) (.slice s.ba s.bn s.bc) (.slice s.sa s.sn s.sc) X (by rw [hWs, hW] at hX; exact hX)
  have H : Hid (∀ X, Below w.heap.size w X → HeldH X s) := fun X hX => heldH_later h hX
  have C1 : Hid (∀ X, Below w.heap.size w X → _) := fun X hX => heldObjS_at X s.oa s.oc s.os 1 (fun q hq => (H.out X hX).all q (List.mem_append_left _ hq)) lo lf (by omega) (by omega) (fun j hj => by
    obtain ⟨g, off, h1, h2, h3, h4⟩ := (H.out X hX).head j hj
    exact ⟨g, off, h1, h3, h4⟩)
  have C2 : Hid (∀ X, Below w.heap.size w X → _) := fun X hX => heldWeakS_at X s.wa s.wn s.wc s.k1 (fun q hq => (H.out X hX).all q (List.mem_append_right _ (List.mem_append_left _ hq))) h.wk lw (by unfold HSh.k1; omega) (by unfold HSh.k1; omega)
  have C3 : Hid (∀ X, Below w.heap.size w X → _) := fun X hX => heldIntS_at X s.ba s.bn s.bc s.k2 (fun q hq => (H.out X hX).all q (List.mem_append_right _ (List.mem_append_right _ (List.mem_append_left _ hq)))) h.b lb (by unfold HSh.k2 HSh.k1; omega) (by unfold HSh.k2 HSh.k1; omega)
  have C4 : Hid (∀ X, Below w.heap.size w X → _) := fun X hX => heldStringS_at X s.sa s.sn s.sc s.k3 (fun q hq => (H.out X hX).all q (List.mem_append_right _ (List.mem_append_right _ (List.mem_append_right _ hq)))) h.st ls (by unfold HSh.k3; omega) (by unfold HSh.k3; omega)
  have e1 : (1 : Int) + (cntO s.os : Int) = s.k1 := rfl
  have e2 : s.k1 + 2 * (s.wn : Int) = s.k2 := rfl
  have e3 : s.k2 + (s.bn : Int) = (s.k3 : Int) := by unfold HSh.k2 HSh.k1 HSh.k3; omega
  have p1 : 0 ≤ s.k1 := by unfold HSh.k1; omega
  have p2 : 0 ≤ s.k2 := by unfold HSh.k2 HSh.k1; omega
  rw [e1] at C1
  rw [e2] at C2
  rw [e3] at C3
  generalize s.k1 = q1 at *
  generalize s.k2 = q2 at *
  generalize s.k3 = q3 at *
  unfold HSh.v
  clear h H e1 e2 e3 hcn
  go_enter Try.func31, Try.ntmps31
  go_wp2_with fail
  rw [← hW]
  refine (C1.out _ BW).mono ?_
  rintro e W1 ⟨rfl, hw1⟩
  subst hw1
  obtain ⟨c0, c1, c2, c3⟩ := HK.out _ (Below.refl _ _)
  clear hW C1
  go_wp2_with fail
  refine (C2.out _ BW).mono ?_
  rintro e w2 ⟨rfl, b2⟩
  have B2 := BW.trans (b2.mono BW.size)
  obtain ⟨d0, d1, d2, d3⟩ := HK.out _ b2
  clear C2 c0 c1 c2 c3
  go_wp2_with fail
  refine (C3.out _ B2).mono ?_
  rintro e W3 ⟨rfl, hw3⟩
  subst hw3
  clear C3
  go_wp2_with fail
  refine (C4.out _ B2).mono ?_
  rintro e w4 ⟨rfl, b4⟩
  have B4 := B2.trans (b4.mono B2.size)
  go_wp2
  go_ret
  exact ⟨rfl, B4⟩

/-- Behind markHeap all that it stored is there, if no place was stored to twice. -/
theorem marked_held {w w' : World} {s : HSh} (h : CanH w s) (hn : ((markL s).map (·.1)).Nodup) (hb : Below w.heap.size (stores w (markL s)) w') (hd : ∀ j (hj : j < s.os.length), ∀ g off, s.oa = some ⟨g, off, none⟩ → ∀ q ∈ markL s, q.1 ≠ ⟨g, off + j * 8 + 6, none⟩) : HeldH w' s := by
  refine ⟨fun q hq => ?_, fun j hj => ?_, fun hp => ?_, fun hp => ?_, fun hp => ?_⟩
  · rw [hb.cell (markL_lt h q hq).1]
    exact stores_mem _ hn w (fun p hp => (markL_lt h p hp).2) q hq
  · obtain ⟨g, off, h1, h2⟩ := h.o j hj
    refine ⟨g, off, h1, ?_, ?_, fun hp => ?_⟩
    · have := hb.size; rw [stores_size] at this; exact Nat.lt_of_lt_of_le h2.lt this
    · rw [hb.cell (p := ⟨g, off + j * 8 + 6, none⟩) h2.lt, stores_other _ _ (hd j hj g off h1)]
      exact h2.head
    · obtain ⟨g', off', e, _⟩ := h2.row 0 hp
      exact ⟨g', off', e⟩
  · obtain ⟨g, off, e, _⟩ := h.wk 0 hp; exact ⟨g, off, e⟩
  · obtain ⟨g, off, e, _⟩ := h.b 0 hp; exact ⟨g, off, e⟩
  · obtain ⟨g, off, e, _⟩ := h.st 0 hp; exact ⟨g, off, e⟩

end Go.Proofs.Ytjhceoejblmihaa
