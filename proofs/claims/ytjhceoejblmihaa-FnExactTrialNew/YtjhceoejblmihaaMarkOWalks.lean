/- The laws' marks on rows of objects: markObjS, heldObjS. -/
import Derived.Test.YtjhceoejblmihaaMarkIWalks
namespace Go.Proofs.Ytjhceoejblmihaa
open Go.RowKit
set_option linter.unusedVariables false

set_option maxHeartbeats 400000 in
theorem markObjS_st (w : World) (a : Option Addr) (cap : Nat) (ss : List OSh) (k : Int) (h : CanO w a ss) (hz : ss.length ≤ 16777216) (hm : ∀ s ∈ ss, s.n ≤ 16777216) (h0 : 0 ≤ k) (h1 : k ≤ 1000000000000) (hap : ∀ x s, a = some x → s ∈ ss → 0 < s.n → ∀ y, s.f = some y → y.block ≠ x.block) :
    Calls Try.prog 54 #[.slice a ss.length cap, .int .i64 k] w fun e w' => e = .returned (.int .i64 (k + (cntO ss : Int))) ∧ w' = stores w (mkO a ss k) := by
  have HC : Hid (CanO w a ss) := h
  have HM : Hid (∀ s ∈ ss, s.n ≤ 16777216) := hm
  have HA : Hid (∀ x s, a = some x → s ∈ ss → 0 < s.n → ∀ y, s.f = some y → y.block ≠ x.block) := hap
  have HB : Hid (∀ j, cntO (ss.take j) ≤ 16777216 * (7 + 16777216)) := by
    intro j
    refine Nat.le_trans (cntO_le (ss.take j) 16777216 (fun s hs => hm s (List.mem_of_mem_take hs))) (Nat.mul_le_mul_right _ ?_)
    rw [List.length_take]; omega
  obtain ⟨L, hL⟩ : ∃ L : Nat → Sts, L = fun j => mkO a (ss.take j) k := ⟨_, rfl⟩
  have H0 : Hid (w = stores w (L 0)) := by show _ = _; rw [hL]; unfold mkO; cases a <;> rfl
  have HE : Hid (stores w (L ss.length) = stores w (mkO a ss k)) := by show _ = _; rw [hL]; simp only [List.take_length]
  have HEC : Hid (cntO (ss.take ss.length) = cntO ss) := by show _ = _; rw [List.take_length]
  have HS : Hid (∀ g off j (h : j < ss.length), a = some ⟨g, off, none⟩ → L (j + 1) = L j ++ mkO1 g (off + j * 8) ss[j] (k + (cntO (ss.take j) : Int))) := by
    intro g off j h e
    rw [hL, e]
    exact mkOs_succ g off ss k j h
  have HW0 : Hid (∀ g off j (h : j < ss.length), a = some ⟨g, off, none⟩ → ∀ q ∈ L j, q.1 ≠ ⟨g, off + j * 8 + 6, none⟩) := by
    intro g off j h e q hq
    rw [hL, e] at hq
    rcases mkOs_where g (ss.take j) off k q hq with ⟨j', i, h1, h2, h3, h4⟩ | ⟨s, h1, h2, x, h3, h4⟩
    · rw [h4]
      intro e2
      have e3 : off + j' * 8 + i = off + j * 8 + 6 := by injection e2
      omega
    · intro e2
      exact HA.out _ s e (List.mem_of_mem_take h1) h2 x h3 (by rw [← h4, e2])
  have HCS : Hid (∀ j (h : j < ss.length), cntO (ss.take (j + 1)) = cntO (ss.take j) + (7 + ss[j].n)) := fun j h => cntO_succ ss j h
  obtain ⟨N, hN⟩ : ∃ N, ss.length = N := ⟨_, rfl⟩
  have HNn : Hid (ss.length = N) := hN
  rw [hN] at hz HE HEC ⊢
  clear h hm hap hL hN
  go_enter Try.func54, Try.ntmps54
  go_wp2
  go_loopw [1, 5] (fun x i wr => ∃ j : Nat, j ≤ N ∧ i = .int .i64 j ∧ x = .int .i64 (k + (cntO (ss.take j) : Int)) ∧ Hid (wr = stores w (L j))) (fun _ i _ => N - (intOf i).toNat)
  case atStart => exact ⟨0, by omega, rfl, by simp [cntO], H0⟩
  case round =>
    obtain ⟨j, hj, rfl, rfl, HW⟩ := hrel
    by_cases hlt : j < N
    · have hj2 : j < ss.length := by have := HNn.out; omega
      obtain ⟨g, off, ha, hc0⟩ := HC.out j hj2
      have hc := hc0.keep (L j) (HW0.out g off j hj2 ha)
      rw [← HW.out] at hc
      have hmn := HM.out _ (List.getElem_mem hj2)
      have hbd := HB.out j
      have HN1 : Hid (∀ X, X = wr → stores X (mkO1 g (off + j * 8) ss[j] (k + (cntO (ss.take j) : Int))) = stores w (L (j + 1))) := by
        intro X hX
        rw [hX, HS.out g off j hj2 ha, stores_append, ← HW.out]
      have HK : Hid (k + (cntO (ss.take (j + 1)) : Int) = k + (cntO (ss.take j) : Int) + 7 + (ss[j].n : Int)) := by show _ = _; rw [HCS.out j hj2]; omega
      generalize ss[j] = s at *
      obtain ⟨sf, sn, sc⟩ := s
      obtain ⟨c, hcc⟩ : ∃ c : Int, c = k + (cntO (ss.take j) : Int) := ⟨_, rfl⟩
      rw [← hcc] at HK HN1 ⊢
      have hc0' : 0 ≤ c := by omega
      have hc1' : c ≤ 1000000000000000 - 10 := by omega
      clear hcc hbd hc0
      obtain ⟨hlt8, hcell, hhead, hrow, hapart⟩ := hc
      simp only at hhead hrow hmn HK
      obtain ⟨⟨x0, d0⟩, f0⟩ := hcell 0 (by omega)
      obtain ⟨⟨x1, d1⟩, f1⟩ := hcell 1 (by omega)
      obtain ⟨⟨x2, d2⟩, f2⟩ := hcell 2 (by omega)
      obtain ⟨⟨x3, d3⟩, f3⟩ := hcell 3 (by omega)
      obtain ⟨⟨x4, d4⟩, f4⟩ := hcell 4 (by omega)
      obtain ⟨⟨x5, d5⟩, f5⟩ := hcell 5 (by omega)
      have h7 := hcell 7 (by omega)
      have H7 : Hid _ := h7
      have HR : Hid (CanI wr sf sn) := hrow
      rw [Nat.add_zero] at d0 f0
      subst ha
      clear hcell h7 hrow hapart
      go_wp2_with fail
      refine (markIntS_st _ sf sn sc (c + 1 + 1 + 1 + 1 + 1 + 1) (canI_set6 _ _ _ _ _ _ _ _ _ _ _ _ HR.out) hmn (by omega) (by omega)).mono ?_
      rintro e w1 ⟨rfl, hw1⟩
      obtain ⟨x7, d7⟩ : ∃ x, w1.cell? ⟨g, off + j * 8 + 7, none⟩ = some x := by
        rw [hw1]
        refine stores_some _ _ _ ?_
        iterate 6 refine some_set _ _ _ _ ?_
        exact H7.out.1
      have f7 : w1.frozen? ⟨g, off + j * 8 + 7, none⟩ = false := by
        rw [hw1, stores_frozen]
        simp only [World.frozen?_setCell]
        exact H7.out.2
      have HF : Hid (w1.setCell ⟨g, off + j * 8 + 7, none⟩ (.bool (b3 (c + 1 + 1 + 1 + 1 + 1 + 1 + (sn : Int)))) = stores w (L (j + 1))) := by
        have e := HN1.out wr rfl
        unfold mkO1 at e
        rw [stores_append, stores_append] at e
        show _ = _
        rw [← e, hw1]
        rfl
      clear hw1 d0 d1 d2 d3 d4 d5 f0 f1 f2 f3 f4 f5 hhead H7 HR HN1
      go_wp2
      go_roundw
      case rel => exact ⟨j + 1, by omega, by go_num, by rw [HK.out]; go_num, HF⟩
      case measure => simp [intOf]; omega
    · obtain rfl : j = N := by omega
      go_wp2
      go_ret
      exact ⟨ret_zz (by rw [HEC.out]), by rw [HW.out, HE.out]⟩

theorem mkO_mem (g off : Nat) (ss : List OSh) (k : Int) (j : Nat) (h : j < ss.length) (q : Addr × Value) (hq : q ∈ mkO1 g (off + j * 8) ss[j] (k + (cntO (ss.take j) : Int))) : q ∈ mkO (some ⟨g, off, none⟩) ss k := by
  have e : ss = ss.take (j + 1) ++ ss.drop (j + 1) := (List.take_append_drop _ _).symm
  show q ∈ mkOs g off ss k
  rw [e, mkOs_append, mkOs_succ g off ss k j h]
  exact List.mem_append_left _ (List.mem_append_right _ hq)

set_option maxHeartbeats 1000000 in
set_option maxRecDepth 100000 in
theorem heldObjS_at (w : World) (a : Option Addr) (cap : Nat) (ss : List OSh) (k : Int) (h : ∀ q ∈ mkO a ss k, w.cell? q.1 = some q.2) (hz : ss.length ≤ 16777216) (hm : ∀ s ∈ ss, s.n ≤ 16777216) (h0 : 0 ≤ k) (h1 : k ≤ 1000000000000)
    (hh : ∀ j (h : j < ss.length), ∃ g off, a = some ⟨g, off, none⟩ ∧ w.cell? ⟨g, off + j * 8 + 6, none⟩ = some (.slice ss[j].f ss[j].n ss[j].c) ∧ (0 < ss[j].n → ∃ g' off', ss[j].f = some ⟨g', off', none⟩)) :
    Calls Try.prog 74 #[.slice a ss.length cap, .int .i64 k] w fun e w' => e = .returned (.int .i64 (k + (cntO ss : Int))) ∧ w' = w := by
  have HC : Hid (∀ j (h : j < ss.length), ∃ g off, a = some ⟨g, off, none⟩ ∧ w.cell? ⟨g, off + j * 8 + 6, none⟩ = some (.slice ss[j].f ss[j].n ss[j].c) ∧ (0 < ss[j].n → ∃ g' off', ss[j].f = some ⟨g', off', none⟩) ∧ ∀ q ∈ mkO1 g (off + j * 8) ss[j] (k + (cntO (ss.take j) : Int)), w.cell? q.1 = some q.2) := by
    intro j hj
    obtain ⟨g, off, e, h2, h3⟩ := hh j hj
    exact ⟨g, off, e, h2, h3, fun q hq => h q (by rw [e]; exact mkO_mem g off ss k j hj q hq)⟩
  have HM : Hid (∀ s ∈ ss, s.n ≤ 16777216) := hm
  have HB : Hid (∀ j, cntO (ss.take j) ≤ 16777216 * (7 + 16777216)) := by
    intro j
    refine Nat.le_trans (cntO_le (ss.take j) 16777216 (fun s hs => hm s (List.mem_of_mem_take hs))) (Nat.mul_le_mul_right _ ?_)
    rw [List.length_take]; omega
  have HEC : Hid (cntO (ss.take ss.length) = cntO ss) := by show _ = _; rw [List.take_length]
  have HCS : Hid (∀ j (h : j < ss.length), cntO (ss.take (j + 1)) = cntO (ss.take j) + (7 + ss[j].n)) := fun j h => cntO_succ ss j h
  obtain ⟨N, hN⟩ : ∃ N, ss.length = N := ⟨_, rfl⟩
  have HNn : Hid (ss.length = N) := hN
  rw [hN] at hz HEC ⊢
  clear h hm hh hN
  go_enter Try.func74, Try.ntmps74
  go_wp2
  go_loop [1, 5] (fun x i => ∃ j : Nat, j ≤ N ∧ i = .int .i64 j ∧ x = .int .i64 (k + (cntO (ss.take j) : Int))) (fun _ i => N - (intOf i).toNat)
  case atStart => exact ⟨0, by omega, rfl, by simp [cntO]⟩
  case round =>
    obtain ⟨j, hj, rfl, rfl⟩ := hrel
    by_cases hlt : j < N
    · have hj2 : j < ss.length := by have := HNn.out; omega
      obtain ⟨g, off, rfl, hhead, hrow, hall⟩ := HC.out j hj2
      have hmn := HM.out _ (List.getElem_mem hj2)
      have hbd := HB.out j
      have HK : Hid (k + (cntO (ss.take (j + 1)) : Int) = k + (cntO (ss.take j) : Int) + 7 + (ss[j].n : Int)) := by show _ = _; rw [HCS.out j hj2]; omega
      generalize ss[j] = s at *
      obtain ⟨sf, sn, sc⟩ := s
      obtain ⟨c, hcc⟩ : ∃ c : Int, c = k + (cntO (ss.take j) : Int) := ⟨_, rfl⟩
      rw [← hcc] at HK hall ⊢
      have hc0' : 0 ≤ c := by omega
      have hc1' : c ≤ 1000000000000000 - 10 := by omega
      clear hcc hbd
      simp only at hhead hrow hmn HK
      unfold mkO1 at hall
      have d0 := hall (⟨g, off + j * 8, none⟩, .bool (b3 c)) (by simp)
      have d1 := hall (⟨g, off + j * 8 + 1, none⟩, .int .i64 (c + 1)) (by simp)
      have d2 := hall (⟨g, off + j * 8 + 2, none⟩, .int .i64 (c + 1 + 1)) (by simp)
      have d3 := hall (⟨g, off + j * 8 + 3, none⟩, .int .i64 (c + 1 + 1 + 1)) (by simp)
      have d4 := hall (⟨g, off + j * 8 + 4, none⟩, .int .i64 (c + 1 + 1 + 1 + 1)) (by simp)
      have d5 := hall (⟨g, off + j * 8 + 5, none⟩, .int .i64 (c + 1 + 1 + 1 + 1 + 1)) (by simp)
      have d7 := hall (⟨g, off + j * 8 + 7, none⟩, .bool (b3 (c + 1 + 1 + 1 + 1 + 1 + 1 + (sn : Int)))) (by simp)
      have C : Hid (∀ u : Unit, _) := fun (_ : Unit) => heldIntS_at w sf sn sc (c + 1 + 1 + 1 + 1 + 1 + 1) (fun q hq => hall q (List.mem_append_right _ (List.mem_append_left _ hq))) hrow hmn (by omega) (by omega)
      simp only at d0 d1 d2 d3 d4 d5 d7
      clear hall hrow
      go_wp2_with fail
      refine (C.out ()).mono ?_
      rintro e w1 ⟨rfl, rfl⟩
      go_wp2
      go_round
      case rel => exact ⟨j + 1, by omega, by go_num, by rw [HK.out]; go_num⟩
      case measure => simp [intOf]; omega
    · obtain rfl : j = N := by omega
      go_wp2
      go_ret
      exact ⟨ret_zz (by rw [HEC.out]), rfl⟩

end Go.Proofs.Ytjhceoejblmihaa
