/- The laws' marks on graphs, by the list of what they store; graphs in memory of their own. -/
import Derived.Test.YtjihbmkhifnblaaHeapMark
import Derived.Test.YtjihbmkhifnblaaGraphBase
namespace Go.Proofs.Ytjihbmkhifnblaa
open Go.RowKit
set_option linter.unusedVariables false
set_option maxRecDepth 100000

/-- A row of objects that may be written: where the fields' slices stand, and their rows. -/
structure CanN1 (w : World) (g p : Nat) (s : OSh) : Prop where
  lt : g < w.heap.size
  cell : ∀ k, k < 6 → (∃ x, w.cell? ⟨g, p + k, none⟩ = some x) ∧ w.frozen? ⟨g, p + k, none⟩ = false
  head : w.cell? ⟨g, p + 5, none⟩ = some (.slice s.f s.n s.c)
  row : CanI w s.f s.n
  apart : ∀ x, s.f = some x → 0 < s.n → x.block ≠ g
def CanN (w : World) (a : Option Addr) (ss : List OSh) : Prop := ∀ j (h : j < ss.length), ∃ g off, a = some ⟨g, off, none⟩ ∧ CanN1 w g (off + j * 6) ss[j]
/-- What markNodeS stores into one object, into all. -/
def mkN1 (g p : Nat) (s : OSh) (k : Int) : Sts :=
  [(⟨g, p, none⟩, .bool (b3 k)), (⟨g, p + 1, none⟩, .int .i64 (k + 1)), (⟨g, p + 2, none⟩, .int .i64 (k + 1 + 1)), (⟨g, p + 3, none⟩, .int .i64 (k + 1 + 1 + 1)), (⟨g, p + 4, none⟩, .int .i64 (k + 1 + 1 + 1 + 1))] ++
  mkI s.f (k + 1 + 1 + 1 + 1 + 1) s.n
def cntN (ss : List OSh) : Nat := (ss.map (fun s => 5 + s.n)).sum
def mkNs (g : Nat) : Nat → List OSh → Int → Sts
  | _, [], _ => []
  | p, s :: r, k => mkN1 g p s k ++ mkNs g (p + 6) r (k + ((5 + s.n : Nat) : Int))
def mkN (a : Option Addr) (ss : List OSh) (k : Int) : Sts := match a with
  | none => []
  | some x => mkNs x.block x.off ss k
theorem mkNs_append (g : Nat) (A B : List OSh) : ∀ p k, mkNs g p (A ++ B) k = mkNs g p A k ++ mkNs g (p + A.length * 6) B (k + (cntN A : Int)) := by
  induction A with
  | nil => intro p k; simp [mkNs, cntN]
  | cons s r ih =>
    intro p k
    simp only [List.cons_append, mkNs, List.append_assoc]
    rw [ih]
    have e1 : p + 6 + r.length * 6 = p + (s :: r).length * 6 := by simp; omega
    have e2 : k + ((5 + s.n : Nat) : Int) + (cntN r : Int) = k + (cntN (s :: r) : Int) := by simp [cntN]; omega
    rw [e1, e2]
theorem cntN_succ (ss : List OSh) (j : Nat) (h : j < ss.length) : cntN (ss.take (j + 1)) = cntN (ss.take j) + (5 + ss[j].n) := by
  unfold cntN
  rw [List.take_succ_eq_append_getElem h, List.map_append, List.sum_append]
  simp
theorem mkNs_succ (g p : Nat) (ss : List OSh) (k : Int) (j : Nat) (h : j < ss.length) : mkNs g p (ss.take (j + 1)) k = mkNs g p (ss.take j) k ++ mkN1 g (p + j * 6) ss[j] (k + (cntN (ss.take j) : Int)) := by
  rw [List.take_succ_eq_append_getElem h, mkNs_append, List.length_take, Nat.min_eq_left (by omega)]
  simp [mkNs]
theorem cntN_le (ss : List OSh) (m : Nat) (h : ∀ s ∈ ss, s.n ≤ m) : cntN ss ≤ ss.length * (5 + m) := by
  unfold cntN
  induction ss with
  | nil => simp
  | cons o r ih =>
    have h1 := h o (by simp)
    have h2 := ih (fun z hz => h z (by simp [hz]))
    simp only [List.map_cons, List.sum_cons, List.length_cons, Nat.add_mul, Nat.one_mul] at *
    omega
/-- Where marks on objects are stored: in the objects' block, not where the slices stand, or in a row of fields. -/
theorem mkN1_where (g p : Nat) (s : OSh) (k : Int) (q : Addr × Value) (h : q ∈ mkN1 g p s k) : (∃ i, i < 6 ∧ i ≠ 5 ∧ q.1 = ⟨g, p + i, none⟩) ∨ (0 < s.n ∧ ∃ x, s.f = some x ∧ q.1.block = x.block) := by
  unfold mkN1 at h
  rcases List.mem_append.1 h with h | h
  · simp only [List.mem_cons, List.not_mem_nil, or_false] at h
    rcases h with rfl | rfl | rfl | rfl | rfl
    · exact .inl ⟨0, by omega, by omega, rfl⟩
    · exact .inl ⟨1, by omega, by omega, rfl⟩
    · exact .inl ⟨2, by omega, by omega, rfl⟩
    · exact .inl ⟨3, by omega, by omega, rfl⟩
    · exact .inl ⟨4, by omega, by omega, rfl⟩
  · exact .inr (mkI_block _ _ _ _ h)
theorem mkNs_where (g : Nat) (ss : List OSh) : ∀ p k (q : Addr × Value), q ∈ mkNs g p ss k → (∃ j i, j < ss.length ∧ i < 6 ∧ i ≠ 5 ∧ q.1 = ⟨g, p + j * 6 + i, none⟩) ∨ (∃ s ∈ ss, 0 < s.n ∧ ∃ x, s.f = some x ∧ q.1.block = x.block) := by
  induction ss with
  | nil => intro p k q h; simp [mkNs] at h
  | cons s r ih =>
    intro p k q h
    rcases List.mem_append.1 h with h | h
    · rcases mkN1_where g p s k q h with ⟨i, h1, h2, h3⟩ | h
      · exact .inl ⟨0, i, by simp, h1, h2, by rw [h3]; simp⟩
      · exact .inr ⟨s, by simp, h⟩
    · rcases ih _ _ q h with ⟨j, i, h0, h1, h2, h3⟩ | ⟨s', h0, h1⟩
      · exact .inl ⟨j + 1, i, by simp; omega, h1, h2, by rw [h3]; congr 1; omega⟩
      · exact .inr ⟨s', by simp [h0], h1⟩
theorem CanN1.keep {w : World} {g p : Nat} {s : OSh} (L : Sts) (h : CanN1 w g p s) (hL : ∀ q ∈ L, q.1 ≠ ⟨g, p + 5, none⟩) : CanN1 (stores w L) g p s :=
  ⟨by rw [stores_size]; exact h.lt, fun k hk => ⟨stores_some _ _ _ (h.cell k hk).1, by rw [stores_frozen]; exact (h.cell k hk).2⟩, by rw [stores_other _ _ hL]; exact h.head, canI_stores _ h.row, h.apart⟩

set_option maxHeartbeats 400000 in
theorem markNodeS_st (w : World) (a : Option Addr) (cap : Nat) (ss : List OSh) (k : Int) (h : CanN w a ss) (hz : ss.length ≤ 16777216) (hm : ∀ s ∈ ss, s.n ≤ 16777216) (h0 : 0 ≤ k) (h1 : k ≤ 1000000000000) (hap : ∀ x s, a = some x → s ∈ ss → 0 < s.n → ∀ y, s.f = some y → y.block ≠ x.block) :
    Calls Try.prog 26 #[.slice a ss.length cap, .int .i64 k] w fun e w' => e = .returned (.int .i64 (k + (cntN ss : Int))) ∧ w' = stores w (mkN a ss k) := by
  have HC : Hid (CanN w a ss) := h
  have HM : Hid (∀ s ∈ ss, s.n ≤ 16777216) := hm
  have HA : Hid (∀ x s, a = some x → s ∈ ss → 0 < s.n → ∀ y, s.f = some y → y.block ≠ x.block) := hap
  have HB : Hid (∀ j, cntN (ss.take j) ≤ 16777216 * (5 + 16777216)) := by
    intro j
    refine Nat.le_trans (cntN_le (ss.take j) 16777216 (fun s hs => hm s (List.mem_of_mem_take hs))) (Nat.mul_le_mul_right _ ?_)
    rw [List.length_take]; omega
  obtain ⟨L, hL⟩ : ∃ L : Nat → Sts, L = fun j => mkN a (ss.take j) k := ⟨_, rfl⟩
  have H0 : Hid (w = stores w (L 0)) := by show _ = _; rw [hL]; unfold mkN; cases a <;> rfl
  have HE : Hid (stores w (L ss.length) = stores w (mkN a ss k)) := by show _ = _; rw [hL]; simp only [List.take_length]
  have HEC : Hid (cntN (ss.take ss.length) = cntN ss) := by show _ = _; rw [List.take_length]
  have HS : Hid (∀ g off j (h : j < ss.length), a = some ⟨g, off, none⟩ → L (j + 1) = L j ++ mkN1 g (off + j * 6) ss[j] (k + (cntN (ss.take j) : Int))) := by
    intro g off j h e
    rw [hL, e]
    exact mkNs_succ g off ss k j h
  have HW0 : Hid (∀ g off j (h : j < ss.length), a = some ⟨g, off, none⟩ → ∀ q ∈ L j, q.1 ≠ ⟨g, off + j * 6 + 5, none⟩) := by
    intro g off j h e q hq
    rw [hL, e] at hq
    rcases mkNs_where g (ss.take j) off k q hq with ⟨j', i, h1, h2, h3, h4⟩ | ⟨s, h1, h2, x, h3, h4⟩
    · rw [h4]
      intro e2
      have e3 : off + j' * 6 + i = off + j * 6 + 5 := by injection e2
      omega
    · intro e2
      exact HA.out _ s e (List.mem_of_mem_take h1) h2 x h3 (by rw [← h4, e2])
  have HCS : Hid (∀ j (h : j < ss.length), cntN (ss.take (j + 1)) = cntN (ss.take j) + (5 + ss[j].n)) := fun j h => cntN_succ ss j h
  obtain ⟨N, hN⟩ : ∃ N, ss.length = N := ⟨_, rfl⟩
  have HNn : Hid (ss.length = N) := hN
  rw [hN] at hz HE HEC ⊢
  clear h hm hap hL hN
  go_enter Try.func26, Try.ntmps26
  go_wp2
  go_loopw [1, 5] (fun x i wr => ∃ j : Nat, j ≤ N ∧ i = .int .i64 j ∧ x = .int .i64 (k + (cntN (ss.take j) : Int)) ∧ Hid (wr = stores w (L j))) (fun _ i _ => N - (intOf i).toNat)
  case atStart => exact ⟨0, by omega, rfl, by simp [cntN], H0⟩
  case round =>
    obtain ⟨j, hj, rfl, rfl, HW⟩ := hrel
    by_cases hlt : j < N
    · have hj2 : j < ss.length := by have := HNn.out; omega
      obtain ⟨g, off, ha, hc0⟩ := HC.out j hj2
      have hc := hc0.keep (L j) (HW0.out g off j hj2 ha)
      rw [← HW.out] at hc
      have hmn := HM.out _ (List.getElem_mem hj2)
      have hbd := HB.out j
      have HN1 : Hid (∀ X, X = wr → stores X (mkN1 g (off + j * 6) ss[j] (k + (cntN (ss.take j) : Int))) = stores w (L (j + 1))) := by
        intro X hX
        rw [hX, HS.out g off j hj2 ha, stores_append, ← HW.out]
      have HK : Hid (k + (cntN (ss.take (j + 1)) : Int) = k + (cntN (ss.take j) : Int) + 5 + (ss[j].n : Int)) := by show _ = _; rw [HCS.out j hj2]; omega
      generalize ss[j] = s at *
      obtain ⟨sf, sn, sc⟩ := s
      obtain ⟨c, hcc⟩ : ∃ c : Int, c = k + (cntN (ss.take j) : Int) := ⟨_, rfl⟩
      rw [← hcc] at HK HN1 ⊢
      have hc0' : 0 ≤ c := by omega
      have hc1' : c ≤ 1000000000000000 - 10 := by omega
      clear hcc hbd hc0
      obtain ⟨hlt8, hcell, hhead, hrow, hapart⟩ := hc
      simp only at hhead hrow hmn HK
      obtain ⟨⟨x0, d0⟩, f0⟩ := hcell 0 (by omega)
      obtain ⟨⟨x1, d1⟩, f1⟩ := hcell 1 (by omega)
      obtain ⟨⟨x2, d2⟩, f2⟩ := hcell 2 (by omega)
      obtain ⟨⟨x3, d3⟩, f3⟩ := hcell 3 (by omega)
      obtain ⟨⟨x4, d4⟩, f4⟩ := hcell 4 (by omega)
      have HR : Hid (CanI wr sf sn) := hrow
      rw [Nat.add_zero] at d0 f0
      subst ha
      clear hcell hrow hapart
      go_wp2_with fail
      refine (markIntS_st _ sf sn sc (c + 1 + 1 + 1 + 1 + 1) (canI_set _ _ (canI_set _ _ (canI_set _ _ (canI_set _ _ (canI_set _ _ HR.out))))) hmn (by omega) (by omega)).mono ?_
      rintro e w1 ⟨rfl, hw1⟩
      have HF : Hid (w1 = stores w (L (j + 1))) := by
        have e := HN1.out wr rfl
        unfold mkN1 at e
        rw [stores_append] at e
        show _ = _
        rw [← e, hw1]
        rfl
      clear hw1 d0 d1 d2 d3 d4 f0 f1 f2 f3 f4 hhead HR HN1
      go_wp2
      go_roundw
      case rel => exact ⟨j + 1, by omega, by go_num, by rw [HK.out]; go_num, HF⟩
      case measure => simp [intOf]; omega
    · obtain rfl : j = N := by omega
      go_wp2
      go_ret
      exact ⟨ret_zz (by rw [HEC.out]), by rw [HW.out, HE.out]⟩

theorem mkN_mem (g off : Nat) (ss : List OSh) (k : Int) (j : Nat) (h : j < ss.length) (q : Addr × Value) (hq : q ∈ mkN1 g (off + j * 6) ss[j] (k + (cntN (ss.take j) : Int))) : q ∈ mkN (some ⟨g, off, none⟩) ss k := by
  have e : ss = ss.take (j + 1) ++ ss.drop (j + 1) := (List.take_append_drop _ _).symm
  show q ∈ mkNs g off ss k
  rw [e, mkNs_append, mkNs_succ g off ss k j h]
  exact List.mem_append_left _ (List.mem_append_right _ hq)

set_option maxHeartbeats 1000000 in
set_option maxRecDepth 100000 in
theorem heldNodeS_at (w : World) (a : Option Addr) (cap : Nat) (ss : List OSh) (k : Int) (h : ∀ q ∈ mkN a ss k, w.cell? q.1 = some q.2) (hz : ss.length ≤ 16777216) (hm : ∀ s ∈ ss, s.n ≤ 16777216) (h0 : 0 ≤ k) (h1 : k ≤ 1000000000000)
    (hh : ∀ j (h : j < ss.length), ∃ g off, a = some ⟨g, off, none⟩ ∧ w.cell? ⟨g, off + j * 6 + 5, none⟩ = some (.slice ss[j].f ss[j].n ss[j].c) ∧ (0 < ss[j].n → ∃ g' off', ss[j].f = some ⟨g', off', none⟩)) :
    Calls Try.prog 29 #[.slice a ss.length cap, .int .i64 k] w fun e w' => e = .returned (.int .i64 (k + (cntN ss : Int))) ∧ w' = w := by
  have HC : Hid (∀ j (h : j < ss.length), ∃ g off, a = some ⟨g, off, none⟩ ∧ w.cell? ⟨g, off + j * 6 + 5, none⟩ = some (.slice ss[j].f ss[j].n ss[j].c) ∧ (0 < ss[j].n → ∃ g' off', ss[j].f = some ⟨g', off', none⟩) ∧ ∀ q ∈ mkN1 g (off + j * 6) ss[j] (k + (cntN (ss.take j) : Int)), w.cell? q.1 = some q.2) := by
    intro j hj
    obtain ⟨g, off, e, h2, h3⟩ := hh j hj
    exact ⟨g, off, e, h2, h3, fun q hq => h q (by rw [e]; exact mkN_mem g off ss k j hj q hq)⟩
  have HM : Hid (∀ s ∈ ss, s.n ≤ 16777216) := hm
  have HB : Hid (∀ j, cntN (ss.take j) ≤ 16777216 * (5 + 16777216)) := by
    intro j
    refine Nat.le_trans (cntN_le (ss.take j) 16777216 (fun s hs => hm s (List.mem_of_mem_take hs))) (Nat.mul_le_mul_right _ ?_)
    rw [List.length_take]; omega
  have HEC : Hid (cntN (ss.take ss.length) = cntN ss) := by show _ = _; rw [List.take_length]
  have HCS : Hid (∀ j (h : j < ss.length), cntN (ss.take (j + 1)) = cntN (ss.take j) + (5 + ss[j].n)) := fun j h => cntN_succ ss j h
  obtain ⟨N, hN⟩ : ∃ N, ss.length = N := ⟨_, rfl⟩
  have HNn : Hid (ss.length = N) := hN
  rw [hN] at hz HEC ⊢
  clear h hm hh hN
  go_enter Try.func29, Try.ntmps29
  go_wp2
  go_loop [1, 5] (fun x i => ∃ j : Nat, j ≤ N ∧ i = .int .i64 j ∧ x = .int .i64 (k + (cntN (ss.take j) : Int))) (fun _ i => N - (intOf i).toNat)
  case atStart => exact ⟨0, by omega, rfl, by simp [cntN]⟩
  case round =>
    obtain ⟨j, hj, rfl, rfl⟩ := hrel
    by_cases hlt : j < N
    · have hj2 : j < ss.length := by have := HNn.out; omega
      obtain ⟨g, off, rfl, hhead, hrow, hall⟩ := HC.out j hj2
      have hmn := HM.out _ (List.getElem_mem hj2)
      have hbd := HB.out j
      have HK : Hid (k + (cntN (ss.take (j + 1)) : Int) = k + (cntN (ss.take j) : Int) + 5 + (ss[j].n : Int)) := by show _ = _; rw [HCS.out j hj2]; omega
      generalize ss[j] = s at *
      obtain ⟨sf, sn, sc⟩ := s
      obtain ⟨c, hcc⟩ : ∃ c : Int, c = k + (cntN (ss.take j) : Int) := ⟨_, rfl⟩
      rw [← hcc] at HK hall ⊢
      have hc0' : 0 ≤ c := by omega
      have hc1' : c ≤ 1000000000000000 - 10 := by omega
      clear hcc hbd
      simp only at hhead hrow hmn HK
      unfold mkN1 at hall
      have d0 := hall (⟨g, off + j * 6, none⟩, .bool (b3 c)) (by simp)
      have d1 := hall (⟨g, off + j * 6 + 1, none⟩, .int .i64 (c + 1)) (by simp)
      have d2 := hall (⟨g, off + j * 6 + 2, none⟩, .int .i64 (c + 1 + 1)) (by simp)
      have d3 := hall (⟨g, off + j * 6 + 3, none⟩, .int .i64 (c + 1 + 1 + 1)) (by simp)
      have d4 := hall (⟨g, off + j * 6 + 4, none⟩, .int .i64 (c + 1 + 1 + 1 + 1)) (by simp)
      have C : Hid (∀ u : Unit, _) := fun (_ : Unit) => heldIntS_at w sf sn sc (c + 1 + 1 + 1 + 1 + 1) (fun q hq => hall q (List.mem_append_right _ hq)) hrow hmn (by omega) (by omega)
      simp only at d0 d1 d2 d3 d4
      clear hall hrow
      go_wp2_with fail
      refine (C.out ()).mono ?_
      rintro e w1 ⟨rfl, rfl⟩
      go_wp2
      go_round
      case rel => exact ⟨j + 1, by omega, by go_num, by rw [HK.out]; go_num⟩
      case measure => simp [intOf]; omega
    · obtain rfl : j = N := by omega
      go_wp2
      go_ret
      exact ⟨ret_zz (by rw [HEC.out]), rfl⟩

/-- Where a heap's rows lie. -/
structure GSh where
  oa : Option Addr
  oc : Nat
  os : List OSh
  wa : Option Addr
  wn : Nat
  wc : Nat
  sa : Option Addr
  sn : Nat
  sc : Nat
def GSh.v (s : GSh) : Value := .agg #[.slice s.oa s.os.length s.oc, .slice s.wa s.wn s.wc, .slice s.sa s.sn s.sc]
/-- All of it may be written. -/
structure CanG (w : World) (s : GSh) : Prop where
  o : CanN w s.oa s.os
  ap : ∀ x t, s.oa = some x → t ∈ s.os → 0 < t.n → ∀ y, t.f = some y → y.block ≠ x.block
  wk : CanW w s.wa s.wn
  st : CanI w s.sa s.sn
  lo : s.os.length ≤ 16777216
  lf : ∀ t ∈ s.os, t.n ≤ 16777216
  lw : s.wn ≤ 16777216
  ls : s.sn ≤ 16777216
def GSh.k1 (s : GSh) : Int := 1 + (cntN s.os : Int)
def GSh.k3 (s : GSh) : Nat := 1 + cntN s.os + 2 * s.wn
def markG (s : GSh) : Sts := mkN s.oa s.os 1 ++ (mkW s.wa s.k1 s.wn ++ mkS s.sa s.k3 s.sn)

theorem canN_later {w w' : World} {a : Option Addr} {ss : List OSh} (h : CanN w a ss) (hb : Below w.heap.size w w') : CanN w' a ss := by
  intro j hj
  obtain ⟨g, off, h1, h2⟩ := h j hj
  refine ⟨g, off, h1, Nat.lt_of_lt_of_le h2.lt hb.size, fun k hk => ?_, (hb.cell (p := ⟨g, off + j * 6 + 5, none⟩) h2.lt).trans h2.head, canI_later h2.row hb, h2.apart⟩
  obtain ⟨⟨x, hx⟩, hf⟩ := h2.cell k hk
  exact ⟨⟨x, (hb.cell (p := ⟨g, off + j * 6 + k, none⟩) h2.lt).trans hx⟩, (hb.frozen (p := ⟨g, off + j * 6 + k, none⟩) h2.lt).trans hf⟩
theorem canG_later {w w' : World} {s : GSh} (h : CanG w s) (hb : Below w.heap.size w w') : CanG w' s :=
  ⟨canN_later h.o hb, h.ap, canW_later h.wk hb, canI_later h.st hb, h.lo, h.lf, h.lw, h.ls⟩

theorem mkNs_mem (g : Nat) (ss : List OSh) : ∀ p k (q : Addr × Value), q ∈ mkNs g p ss k → ∃ j, ∃ (h : j < ss.length), ∃ k', q ∈ mkN1 g (p + j * 6) ss[j] k' := by
  induction ss with
  | nil => intro p k q h; simp [mkNs] at h
  | cons s r ih =>
    intro p k q h
    rcases List.mem_append.1 h with h | h
    · exact ⟨0, by simp, k, by simpa using h⟩
    · obtain ⟨j, hj, k', hq⟩ := ih _ _ q h
      refine ⟨j + 1, by simp; omega, k', ?_⟩
      rw [show p + (j + 1) * 6 = p + 6 + j * 6 from by omega]
      simpa using hq
theorem mkNs_some {w : World} {g off : Nat} {sp : Option Nat} {ss : List OSh} {k : Int} (h : CanN w (some ⟨g, off, sp⟩) ss) (q : Addr × Value) (hq : q ∈ mkNs g off ss k) : ∃ x, w.cell? q.1 = some x := by
  obtain ⟨j, hj, k', hq⟩ := mkNs_mem g ss off k q hq
  obtain ⟨g', off', e, hc⟩ := h j hj
  injection e with e; injection e with e1 e2 e3; subst e1 e2
  unfold mkN1 at hq
  rcases List.mem_append.1 hq with hq | hq
  · simp only [List.mem_cons, List.not_mem_nil, or_false] at hq
    rcases hq with rfl | rfl | rfl | rfl | rfl
    · exact (hc.cell 0 (by omega)).1
    · exact (hc.cell 1 (by omega)).1
    · exact (hc.cell 2 (by omega)).1
    · exact (hc.cell 3 (by omega)).1
    · exact (hc.cell 4 (by omega)).1
  · exact mkI_some hc.row q hq

theorem markG_lt {w : World} {s : GSh} (h : CanG w s) : ∀ q ∈ markG s, q.1.block < w.heap.size ∧ ∃ x, w.cell? q.1 = some x := by
  intro q hq
  unfold markG at hq
  rcases List.mem_append.1 hq with hq | hq
  · cases ho : s.oa with
    | none => rw [ho] at hq; simp [mkN] at hq
    | some x =>
      obtain ⟨xg, xo, xs⟩ := x
      rw [ho] at hq
      unfold mkN at hq
      simp only at hq
      have HO := h.o
      rw [ho] at HO
      rcases mkNs_where xg s.os xo 1 q hq with ⟨j, i, h1, h2, h3, h4⟩ | ⟨t, h1, h2, y, h3, h4⟩
      · obtain ⟨g, off, e, hc⟩ := HO j h1
        injection e with e
        injection e with e1 e2 e3
        subst e1 e2
        rw [h4]
        exact ⟨hc.lt, (hc.cell i h2).1⟩
      · obtain ⟨j, hj, rfl⟩ := List.mem_iff_getElem.1 h1
        obtain ⟨g, off, e, hc⟩ := HO j hj
        refine ⟨by rw [h4]; exact canI_lt hc.row h2 y h3, ?_⟩
        -- an entry of a row of fields
        exact mkNs_some HO q hq
  · rcases List.mem_append.1 hq with hq | hq
    · obtain ⟨h1, x, h2, h3⟩ := mkW_block _ _ _ _ hq
      obtain ⟨g, off, e, hg, _⟩ := h.wk 0 h1
      rw [h2] at e; injection e with e
      refine ⟨by rw [h3, e]; exact hg, ?_⟩
      rw [h2, e] at hq
      unfold mkW at hq
      obtain ⟨j, hj, hq⟩ := List.mem_flatMap.1 hq
      obtain ⟨g', off', e', _, hx, _, hy, _⟩ := h.wk j (List.mem_range.1 hj)
      rw [h2, e] at e'; injection e' with e'; injection e' with e1 e2; subst e1 e2
      simp only [List.mem_cons, List.not_mem_nil, or_false] at hq
      rcases hq with rfl | rfl
      · exact hx
      · exact hy
    · obtain ⟨h1, x, h2, h3⟩ := mkS_block _ _ _ _ hq
      refine ⟨by rw [h3]; exact canI_lt h.st h1 x h2, ?_⟩
      rw [h2] at hq
      unfold mkS at hq
      obtain ⟨j, hj, rfl⟩ := List.mem_map.1 hq
      obtain ⟨g', off', e', _, hx, _⟩ := h.st j (List.mem_range.1 hj)
      rw [h2] at e'; injection e' with e'; subst e'
      exact hx

theorem cntN_bd (ss : List OSh) (h1 : ss.length ≤ 16777216) (h2 : ∀ t ∈ ss, t.n ≤ 16777216) : cntN ss ≤ 16777216 * (5 + 16777216) :=
  Nat.le_trans (cntN_le ss 16777216 h2) (Nat.mul_le_mul_right _ h1)

/-- A new block of four slices is as it was behind stores into what was there before. -/
theorem three_stored (w : World) (t : TypeId) (x0 x1 x2 : Value) (L : Sts) (hL : ∀ q ∈ L, q.1.block < w.heap.size) (X : World) (hX : X = stores (w.alloc (.cells #[x0, x1, x2] t)) L) :
    X.cell? ⟨w.heap.size, 0, none⟩ = some x0 ∧ X.cell? ⟨w.heap.size, 1, none⟩ = some x1 ∧ X.cell? ⟨w.heap.size, 2, none⟩ = some x2 := by
  have h : ∀ k, X.cell? ⟨w.heap.size, k, none⟩ = (#[x0, x1, x2] : Array Value)[k]? := fun k => by
    rw [hX, stores_other _ _ (fun q hq e => by have := hL q hq; rw [e] at this; exact Nat.lt_irrefl _ this), World.cell?_alloc_mark]
  exact ⟨h 0, h 1, h 2⟩

theorem markGraph_st (w : World) (s : GSh) (h : CanG w s) :
    Calls Try.prog 9 #[s.v, .int .i64 1] w fun e w' => e = .returned (.int .i64 ((s.k3 : Int) + (s.sn : Int))) ∧ Below w.heap.size (stores w (markG s)) w' := by
  have hcn := cntN_bd s.os h.lo h.lf
  have hlw := h.lw
  have HLT : Hid (∀ q ∈ markG s, q.1.block < w.heap.size) := fun q hq => (markG_lt h q hq).1
  obtain ⟨W, hW⟩ : ∃ W, W = w.alloc (.cells #[.slice s.oa s.os.length s.oc, .slice s.wa s.wn s.wc, .slice s.sa s.sn s.sc] 26) := ⟨_, rfl⟩
  have BW : Below w.heap.size w W := by rw [hW]; exact (Below.refl _ _).alloc (Nat.le_refl _) _
  have h' := canG_later h BW
  have C1 : Hid (∀ u : Unit, _) := fun (_ : Unit) => markNodeS_st W s.oa s.oc s.os 1 h'.o h.lo h.lf (by omega) (by omega) h.ap
  have C2 : Hid (∀ u : Unit, _) := fun (_ : Unit) => markWeakS_st (stores W (mkN s.oa s.os 1)) s.wa s.wn s.wc s.k1 (canW_stores _ h'.wk) h.lw (by unfold GSh.k1; omega) (by unfold GSh.k1; omega)
  have C4 : Hid (∀ u : Unit, _) := fun (_ : Unit) => markStringS_st (stores (stores W (mkN s.oa s.os 1)) (mkW s.wa s.k1 s.wn)) s.sa s.sn s.sc s.k3 (canI_stores _ (canI_stores _ h'.st)) h.ls (by unfold GSh.k3; omega) (by unfold GSh.k3; omega)
  have e1 : (1 : Int) + (cntN s.os : Int) = s.k1 := rfl
  have e2 : s.k1 + 2 * (s.wn : Int) = (s.k3 : Int) := by unfold GSh.k1 GSh.k3; omega
  rw [e1] at C1
  rw [e2] at C2
  have F1 : Hid (∀ X, X = stores W (mkN s.oa s.os 1) → _) := fun X hX => three_stored w 26 (.slice s.oa s.os.length s.oc) (.slice s.wa s.wn s.wc) (.slice s.sa s.sn s.sc) (mkN s.oa s.os 1) (fun q hq => HLT.out q (List.mem_append_left _ hq)) X (by rw [hX, hW])
  have F2 : Hid (∀ X, X = stores (stores W (mkN s.oa s.os 1)) (mkW s.wa s.k1 s.wn) → _) := fun X hX => three_stored w 26 (.slice s.oa s.os.length s.oc) (.slice s.wa s.wn s.wc) (.slice s.sa s.sn s.sc) (mkN s.oa s.os 1 ++ mkW s.wa s.k1 s.wn)
    (fun q hq => HLT.out q (by rcases List.mem_append.1 hq with hq | hq; exact List.mem_append_left _ hq; exact List.mem_append_right _ (List.mem_append_left _ hq))) X (by rw [hX, stores_append, hW])
  have HE : Hid (∀ X, Below W.heap.size (stores (stores (stores W (mkN s.oa s.os 1)) (mkW s.wa s.k1 s.wn)) (mkS s.sa s.k3 s.sn)) X → Below w.heap.size (stores w (markG s)) X) := by
    intro X hX
    have b := stores_both (markG s) BW
    have e : stores W (markG s) = stores (stores (stores W (mkN s.oa s.os 1)) (mkW s.wa s.k1 s.wn)) (mkS s.sa s.k3 s.sn) := by
      unfold markG; rw [stores_append, stores_append]
    rw [e] at b
    exact b.trans (hX.mono BW.size)
  have hS : ∀ (A : World) (L1 L2 : Sts), (stores (stores A L1) L2).heap.size = A.heap.size := fun A L1 L2 => by rw [stores_size, stores_size]
  have HS : Hid ((stores (stores W (mkN s.oa s.os 1)) (mkW s.wa s.k1 s.wn)).heap.size = W.heap.size) := hS _ _ _
  rw [HS.out] at C4
  generalize s.k1 = q1 at *
  generalize s.k3 = q3 at *
  generalize mkN s.oa s.os 1 = L1 at *
  generalize mkW s.wa q1 s.wn = L2 at *
  generalize mkS s.sa q3 s.sn = L4 at *
  unfold GSh.v
  clear h h' e1 e2 hS HLT
  go_enter Try.func9, Try.ntmps9
  go_wp2_with fail
  rw [← hW]
  refine (C1.out ()).mono ?_
  rintro e w1 ⟨rfl, hw1⟩
  obtain ⟨c0, c1, c2⟩ := F1.out _ hw1
  rw [← hw1] at C2 C4 F2 HE
  clear hW hw1 C1 F1 hcn
  go_wp2_with fail
  refine (C2.out ()).mono ?_
  rintro e w2 ⟨rfl, hw2⟩
  obtain ⟨d0, d1, d2⟩ := F2.out _ hw2
  rw [← hw2] at C4 HE
  clear hw2 C2 F2 c0 c1 c2
  go_wp2_with fail
  refine (C4.out ()).mono ?_
  rintro e w4 ⟨rfl, b4⟩
  go_wp2
  go_ret
  exact ⟨rfl, HE.out _ b4⟩

/-- What heldGraph asks of a world. -/
structure HeldG (w : World) (s : GSh) : Prop where
  all : ∀ q ∈ markG s, w.cell? q.1 = some q.2
  head : ∀ j (h : j < s.os.length), ∃ g off, s.oa = some ⟨g, off, none⟩ ∧ g < w.heap.size ∧ w.cell? ⟨g, off + j * 6 + 5, none⟩ = some (.slice s.os[j].f s.os[j].n s.os[j].c) ∧ (0 < s.os[j].n → ∃ g' off', s.os[j].f = some ⟨g', off', none⟩)
  wk : 0 < s.wn → ∃ g off, s.wa = some ⟨g, off, none⟩
  st : 0 < s.sn → ∃ g off, s.sa = some ⟨g, off, none⟩
theorem heldG_later {w w' : World} {s : GSh} (h : HeldG w s) (hb : Below w.heap.size w w') : HeldG w' s := by
  refine ⟨fun q hq => ?_, fun j hj => ?_, h.wk, h.st⟩
  · rw [hb.cell (World.block_lt_of_cell? w _ (h.all q hq))]; exact h.all q hq
  · obtain ⟨g, off, h1, h2, h3, h4⟩ := h.head j hj
    exact ⟨g, off, h1, Nat.lt_of_lt_of_le h2 hb.size, (hb.cell (p := ⟨g, off + j * 6 + 5, none⟩) h2).trans h3, h4⟩

theorem heldGraph_at (w : World) (s : GSh) (h : HeldG w s) (hl : s.os.length ≤ 16777216 ∧ (∀ t ∈ s.os, t.n ≤ 16777216) ∧ s.wn ≤ 16777216 ∧ s.sn ≤ 16777216) :
    Calls Try.prog 10 #[s.v, .int .i64 1] w fun e w' => e = .returned (.int .i64 ((s.k3 : Int) + (s.sn : Int))) ∧ Below w.heap.size w w' := by
  obtain ⟨lo, lf, lw, ls⟩ := hl
  have hcn := cntN_bd s.os lo lf
  obtain ⟨W, hW⟩ : ∃ W, W = w.alloc (.cells #[.slice s.oa s.os.length s.oc, .slice s.wa s.wn s.wc, .slice s.sa s.sn s.sc] 26) := ⟨_, rfl⟩
  have BW : Below w.heap.size w W := by rw [hW]; exact (Below.refl _ _).alloc (Nat.le_refl _) _
  have hWs : W.heap.size = w.heap.size + 1 := by rw [hW]; simp
  have HK : Hid (∀ X, Below W.heap.size W X → _) := fun X (hX : Below W.heap.size W X) => three_kept w 26 (.slice s.oa s.os.length s.oc) (.slice s.wa s.wn s.wc) (.slice s.sa s.sn s.sc) X (by rw [hWs, hW] at hX; exact hX)
  have H : Hid (∀ X, Below w.heap.size w X → HeldG X s) := fun X hX => heldG_later h hX
  have C1 : Hid (∀ X, Below w.heap.size w X → _) := fun X hX => heldNodeS_at X s.oa s.oc s.os 1 (fun q hq => (H.out X hX).all q (List.mem_append_left _ hq)) lo lf (by omega) (by omega) (fun j hj => by
    obtain ⟨g, off, h1, h2, h3, h4⟩ := (H.out X hX).head j hj
    exact ⟨g, off, h1, h3, h4⟩)
  have C2 : Hid (∀ X, Below w.heap.size w X → _) := fun X hX => heldWeakS_at X s.wa s.wn s.wc s.k1 (fun q hq => (H.out X hX).all q (List.mem_append_right _ (List.mem_append_left _ hq))) h.wk lw (by unfold GSh.k1; omega) (by unfold GSh.k1; omega)
  have C4 : Hid (∀ X, Below w.heap.size w X → _) := fun X hX => heldStringS_at X s.sa s.sn s.sc s.k3 (fun q hq => (H.out X hX).all q (List.mem_append_right _ (List.mem_append_right _ hq))) h.st ls (by unfold GSh.k3; omega) (by unfold GSh.k3; omega)
  have e1 : (1 : Int) + (cntN s.os : Int) = s.k1 := rfl
  have e2 : s.k1 + 2 * (s.wn : Int) = (s.k3 : Int) := by unfold GSh.k1 GSh.k3; omega
  have p1 : 0 ≤ s.k1 := by unfold GSh.k1; omega
  rw [e1] at C1
  rw [e2] at C2
  generalize s.k1 = q1 at *
  generalize s.k3 = q3 at *
  unfold GSh.v
  clear h H e1 e2 hcn
  go_enter Try.func10, Try.ntmps10
  go_wp2_with fail
  rw [← hW]
  refine (C1.out _ BW).mono ?_
  rintro e W1 ⟨rfl, hw1⟩
  subst hw1
  obtain ⟨c0, c1, c2⟩ := HK.out _ (Below.refl _ _)
  clear hW C1
  go_wp2_with fail
  refine (C2.out _ BW).mono ?_
  rintro e w2 ⟨rfl, b2⟩
  have B2 := BW.trans (b2.mono BW.size)
  obtain ⟨d0, d1, d2⟩ := HK.out _ b2
  clear C2 c0 c1 c2
  go_wp2_with fail
  refine (C4.out _ B2).mono ?_
  rintro e w4 ⟨rfl, b4⟩
  have B4 := B2.trans (b4.mono B2.size)
  go_wp2
  go_ret
  exact ⟨rfl, B4⟩

/-- Behind markGraph all that it stored is there, if no place was stored to twice. -/
theorem markedG_held {w w' : World} {s : GSh} (h : CanG w s) (hn : ((markG s).map (·.1)).Nodup) (hb : Below w.heap.size (stores w (markG s)) w') (hd : ∀ j (hj : j < s.os.length), ∀ g off, s.oa = some ⟨g, off, none⟩ → ∀ q ∈ markG s, q.1 ≠ ⟨g, off + j * 6 + 5, none⟩) : HeldG w' s := by
  refine ⟨fun q hq => ?_, fun j hj => ?_, fun hp => ?_, fun hp => ?_⟩
  · rw [hb.cell (markG_lt h q hq).1]
    exact stores_mem _ hn w (fun p hp => (markG_lt h p hp).2) q hq
  · obtain ⟨g, off, h1, h2⟩ := h.o j hj
    refine ⟨g, off, h1, ?_, ?_, fun hp => ?_⟩
    · have := hb.size; rw [stores_size] at this; exact Nat.lt_of_lt_of_le h2.lt this
    · rw [hb.cell (p := ⟨g, off + j * 6 + 5, none⟩) h2.lt, stores_other _ _ (hd j hj g off h1)]
      exact h2.head
    · obtain ⟨g', off', e, _⟩ := h2.row 0 hp
      exact ⟨g', off', e⟩
  · obtain ⟨g, off, e, _⟩ := h.wk 0 hp; exact ⟨g, off, e⟩
  · obtain ⟨g, off, e, _⟩ := h.st 0 hp; exact ⟨g, off, e⟩

structure SepG (s : GSh) : Prop where
  ow : Ap s.oa s.os.length s.wa s.wn
  os : Ap s.oa s.os.length s.sa s.sn
  ws : Ap s.wa s.wn s.sa s.sn
  ofl : ∀ t ∈ s.os, Ap s.oa s.os.length t.f t.n
  wf : ∀ t ∈ s.os, Ap s.wa s.wn t.f t.n
  sf : ∀ t ∈ s.os, Ap s.sa s.sn t.f t.n
  ff : s.os.Pairwise (fun t u => Ap t.f t.n u.f u.n)

theorem mkN1_nodup (g p : Nat) (s : OSh) (k : Int) (h : 0 < s.n → ∀ x, s.f = some x → x.block ≠ g) : ((mkN1 g p s k).map (·.1)).Nodup := by
  have hI := mkI_nodup s.f (k + 1 + 1 + 1 + 1 + 1) s.n
  have hb : ∀ a ∈ (mkI s.f (k + 1 + 1 + 1 + 1 + 1) s.n).map (·.1), a.block ≠ g := by
    intro a ha
    obtain ⟨q, hq, rfl⟩ := List.mem_map.1 ha
    obtain ⟨h1, x, h2, h3⟩ := mkI_block _ _ _ _ hq
    rw [h3]; exact h h1 x h2
  unfold mkN1
  rw [List.map_append]
  generalize (mkI s.f (k + 1 + 1 + 1 + 1 + 1) s.n).map (·.1) = M at *
  refine List.nodup_append.2 ⟨by simp, hI, ?_⟩
  intro a ha b hbm e
  simp only [List.map_cons, List.map_nil, List.mem_cons, List.not_mem_nil, or_false] at ha
  have := hb b hbm
  rw [← e] at this
  rcases ha with rfl | rfl | rfl | rfl | rfl <;> exact this rfl
theorem mkNs_nodup (g : Nat) (ss : List OSh) (h : ∀ t ∈ ss, 0 < t.n → ∀ x, t.f = some x → x.block ≠ g) (hp : ss.Pairwise (fun t u => Ap t.f t.n u.f u.n)) : ∀ p k, ((mkNs g p ss k).map (·.1)).Nodup := by
  induction ss with
  | nil => intro p k; simp [mkNs]
  | cons s r ih =>
    intro p k
    rw [List.pairwise_cons] at hp
    unfold mkNs
    rw [List.map_append]
    refine List.nodup_append.2 ⟨mkN1_nodup g p s k (h s (by simp)), ih (fun t ht => h t (by simp [ht])) hp.2 _ _, ?_⟩
    intro a ha b hb e
    obtain ⟨q, hq, rfl⟩ := List.mem_map.1 ha
    obtain ⟨q2, hq2, rfl⟩ := List.mem_map.1 hb
    rcases mkN1_where g p s k q hq with ⟨i, h1, _, h3⟩ | ⟨h1, x, h2, h3⟩
    · rcases mkNs_where g r _ _ q2 hq2 with ⟨j, i2, _, _, _, h6⟩ | ⟨t, ht, h4, y, h5, h6⟩
      · rw [h3, h6] at e
        simp at e <;> omega
      · have := h t (by simp [ht]) h4 y h5
        rw [← h6, ← e, h3] at this
        exact this rfl
    · rcases mkNs_where g r _ _ q2 hq2 with ⟨j, i2, _, _, _, h6⟩ | ⟨t, ht, h4, y, h5, h6⟩
      · have := h s (by simp) h1 x h2
        rw [← h3, e, h6] at this
        exact this rfl
      · exact hp.1 t ht h1 h4 x y h2 h5 (by rw [← h3, ← h6, e])
/-- Where a store into the objects' row lies. -/
theorem mkN_where (s : GSh) (k : Int) (q : Addr × Value) (h : q ∈ mkN s.oa s.os k) : ∃ x, s.oa = some x ∧ ((∃ j i, j < s.os.length ∧ i < 6 ∧ i ≠ 5 ∧ q.1 = ⟨x.block, x.off + j * 6 + i, none⟩) ∨ ∃ t ∈ s.os, 0 < t.n ∧ ∃ y, t.f = some y ∧ q.1.block = y.block) := by
  unfold mkN at h
  cases ho : s.oa with
  | none => rw [ho] at h; simp at h
  | some x =>
    rw [ho] at h
    exact ⟨x, rfl, mkNs_where _ _ _ _ q h⟩
theorem sepG_nodup {s : GSh} (h : SepG s) : ((markG s).map (·.1)).Nodup := by
  unfold markG
  rw [List.map_append, List.map_append]
  have hO : ((mkN s.oa s.os 1).map (·.1)).Nodup := by
    unfold mkN
    cases ho : s.oa with
    | none => simp
    | some x =>
      refine mkNs_nodup _ _ (fun t ht h1 y hy => ?_) h.ff _ _
      have hl : 0 < s.os.length := List.length_pos_of_mem ht
      exact fun e => h.ofl t ht hl h1 x y ho hy e.symm
  have key : ∀ (A M : Sts), (∀ q ∈ A, ∀ q2 ∈ M, q.1 ≠ q2.1) → ∀ a ∈ A.map (·.1), ∀ b ∈ M.map (·.1), a ≠ b := by
    intro A M hh a ha b hb
    obtain ⟨q, hq, rfl⟩ := List.mem_map.1 ha
    obtain ⟨q2, hq2, rfl⟩ := List.mem_map.1 hb
    exact hh q hq q2 hq2
  have kO : ∀ (M : Sts) (m : Option Addr) (n : Nat), (∀ q ∈ M, 0 < n ∧ ∃ x, m = some x ∧ q.1.block = x.block) → Ap s.oa s.os.length m n → (∀ t ∈ s.os, Ap m n t.f t.n) → ∀ q ∈ mkN s.oa s.os 1, ∀ q2 ∈ M, q.1 ≠ q2.1 := by
    intro M m n hM h1 h2 q hq q2 hq2 e
    obtain ⟨hn, z, hz, hzb⟩ := hM q2 hq2
    obtain ⟨x, hx, ⟨j, i, hj, _, _, h3⟩ | ⟨t, ht, h4, y, h5, h6⟩⟩ := mkN_where s 1 q hq
    · refine h1 (by omega) hn x z hx hz ?_
      rw [← hzb, ← e, h3]
    · exact h2 t ht hn h4 z y hz h5 (by rw [← hzb, ← h6, e])
  have kR : ∀ (A M : Sts) (a m : Option Addr) (na nm : Nat), (∀ q ∈ A, 0 < na ∧ ∃ x, a = some x ∧ q.1.block = x.block) → (∀ q ∈ M, 0 < nm ∧ ∃ x, m = some x ∧ q.1.block = x.block) → Ap a na m nm → ∀ q ∈ A, ∀ q2 ∈ M, q.1 ≠ q2.1 := by
    intro A M a m na nm hA hM hap q hq q2 hq2 e
    obtain ⟨h1, x, hx, hxb⟩ := hA q hq
    obtain ⟨h2, y, hy, hyb⟩ := hM q2 hq2
    exact hap h1 h2 x y hx hy (by rw [← hxb, ← hyb, e])
  have bW : ∀ q ∈ mkW s.wa s.k1 s.wn, 0 < s.wn ∧ ∃ x, s.wa = some x ∧ q.1.block = x.block := fun q hq => mkW_block _ _ _ _ hq
  have bS : ∀ q ∈ mkS s.sa s.k3 s.sn, 0 < s.sn ∧ ∃ x, s.sa = some x ∧ q.1.block = x.block := fun q hq => mkS_block _ _ _ _ hq
  refine List.nodup_append.2 ⟨hO, List.nodup_append.2 ⟨mkW_nodup _ _ _, mkS_nodup _ _ _, key _ _ (kR _ _ _ _ _ _ bW bS h.ws)⟩, ?_⟩
  rw [← List.map_append]
  refine key _ _ (fun q hq q2 hq2 => ?_)
  rcases List.mem_append.1 hq2 with hq2 | hq2
  · exact kO _ _ _ bW h.ow h.wf q hq q2 hq2
  · exact kO _ _ _ bS h.os h.sf q hq q2 hq2
theorem sepG_head {s : GSh} (h : SepG s) : ∀ j, j < s.os.length → ∀ g off, s.oa = some ⟨g, off, none⟩ → ∀ q ∈ markG s, q.1 ≠ ⟨g, off + j * 6 + 5, none⟩ := by
  intro j hj g off ho q hq e
  unfold markG at hq
  simp only [List.mem_append] at hq
  rcases hq with hq | hq | hq
  · obtain ⟨x, hx, ⟨j2, i, hj2, h1, h2, h3⟩ | ⟨t, ht, h4, y, h5, h6⟩⟩ := mkN_where s 1 q hq
    · rw [ho] at hx; injection hx with hx; subst hx
      rw [e] at h3
      simp at h3
      omega
    · refine h.ofl t ht (by omega) h4 _ y ho h5 ?_
      rw [← h6, e]
  · obtain ⟨h1, x, h2, h3⟩ := mkW_block _ _ _ _ hq
    exact h.ow (by omega) h1 _ x ho h2 (by rw [← h3, e])
  · obtain ⟨h1, x, h2, h3⟩ := mkS_block _ _ _ _ hq
    exact h.os (by omega) h1 _ x ho h2 (by rw [← h3, e])

/-- Each row that isn't empty lies at or behind block B. -/
structure LoG (B : Nat) (s : GSh) : Prop where
  lo : 0 < s.os.length → ∀ x, s.oa = some x → B ≤ x.block
  lw : 0 < s.wn → ∀ x, s.wa = some x → B ≤ x.block
  ls : 0 < s.sn → ∀ x, s.sa = some x → B ≤ x.block
  lf : ∀ t ∈ s.os, 0 < t.n → ∀ x, t.f = some x → B ≤ x.block
theorem loG_mark {B : Nat} {s : GSh} (h : LoG B s) : ∀ q ∈ markG s, B ≤ q.1.block := by
  intro q hq
  unfold markG at hq
  simp only [List.mem_append] at hq
  rcases hq with hq | hq | hq
  · obtain ⟨x, hx, ⟨j2, i, hj2, h1, h2, h3⟩ | ⟨t, ht, h4, y, h5, h6⟩⟩ := mkN_where s 1 q hq
    · rw [h3]; exact h.lo (by omega) x hx
    · rw [h6]; exact h.lf t ht h4 y h5
  · obtain ⟨h1, x, h2, h3⟩ := mkW_block _ _ _ _ hq
    rw [h3]; exact h.lw h1 x h2
  · obtain ⟨h1, x, h2, h3⟩ := mkS_block _ _ _ _ hq
    rw [h3]; exact h.ls h1 x h2

/-- A heap in memory of its own, at or behind block B. -/
structure MemG (w : World) (B : Nat) (s : GSh) (H : GrD) : Prop where
  rd : RdG w s.v H
  can : CanG w s
  sep : SepG s
  lo : LoG B s
theorem memG_later {w w' : World} {B : Nat} {s : GSh} {H : GrD} (h : MemG w B s H) (hb : Below w.heap.size w w') : MemG w' B s H := ⟨rdG_later h.rd hb, canG_later h.can hb, h.sep, h.lo⟩
theorem loG_mono {B C : Nat} {s : GSh} (h : LoG B s) (hC : C ≤ B) : LoG C s :=
  ⟨fun h1 x hx => Nat.le_trans hC (h.lo h1 x hx), fun h1 x hx => Nat.le_trans hC (h.lw h1 x hx), fun h1 x hx => Nat.le_trans hC (h.ls h1 x hx), fun t ht h1 x hx => Nat.le_trans hC (h.lf t ht h1 x hx)⟩
theorem memG_mono {w : World} {B C : Nat} {s : GSh} {H : GrD} (h : MemG w B s H) (hC : C ≤ B) : MemG w C s H := ⟨h.rd, h.can, h.sep, loG_mono h.lo hC⟩
/-- Behind markGraph it holds the marks. -/
theorem memG_held {w w' : World} {B : Nat} {s : GSh} {H : GrD} (h : MemG w B s H) (hb : Below w.heap.size (stores w (markG s)) w') : HeldG w' s :=
  markedG_held h.can (sepG_nodup h.sep) hb (sepG_head h.sep)

theorem memG_parts {w : World} {B : Nat} {s : GSh} {H : GrD} (h : MemG w B s H) : H.nodes.length = s.os.length ∧ H.weaks.length = s.wn ∧ H.sites.length = s.sn ∧ RdN w s.oa H.nodes ∧ RdW w s.wa H.weaks ∧ RdS w s.sa H.sites := by
  obtain ⟨ao, co, aw, cw, sa, sc, e, h1, h2, h4⟩ := h.rd
  unfold GSh.v at e
  simp only [Value.agg.injEq, Array.mk.injEq, List.cons.injEq, Value.slice.injEq] at e
  obtain ⟨⟨e1, e2, -⟩, ⟨e3, e4, -⟩, ⟨e7, e8, -⟩, -⟩ := e
  rw [e1, e3, e7]
  exact ⟨e2.symm, e4.symm, e8.symm, h1, h2, h4⟩
theorem memG_mk {w : World} {B : Nat} {s : GSh} {H : GrD} (l1 : H.nodes.length = s.os.length) (l2 : H.weaks.length = s.wn) (l4 : H.sites.length = s.sn) (h1 : RdN w s.oa H.nodes) (h2 : RdW w s.wa H.weaks) (h4 : RdS w s.sa H.sites)
    (hc : CanG w s) (hs : SepG s) (hl : LoG B s) : MemG w B s H :=
  ⟨⟨_, _, _, _, _, _, by rw [l1, l2, l4]; rfl, h1, h2, h4⟩, hc, hs, hl⟩
theorem memG_keepB {B : Nat} {w w' : World} {s : GSh} {H : GrD} (h : MemG w B s H) (hb : KeepB B w w') : MemG w' B s H := by
  obtain ⟨l1, l2, l4, h1, h2, h4⟩ := memG_parts h
  have hc := h.can
  have hl := h.lo
  refine memG_mk l1 l2 l4 ?_ ?_ (rdS_keepB h4 hb (by rw [l4]; exact hl.ls)) ⟨?_, hc.ap, ?_, canI_keepB hc.st hb hl.ls, hc.lo, hc.lf, hc.lw, hc.ls⟩ h.sep hl
  · intro j hj
    obtain ⟨g, off, f, fc, e1, e2, e3, e4⟩ := h1 j hj
    have hB : B ≤ g := hl.lo (by omega) _ e1
    refine ⟨g, off, f, fc, e1, Nat.lt_of_lt_of_le e2 hb.1, e3.keep (fun k => hb.cell (p := ⟨g, k, none⟩) hB e2), rdI_keepB e4 hb (fun hn x hx => ?_)⟩
    obtain ⟨g', off', e5, e6⟩ := hc.o j (by omega)
    rw [e1] at e5; injection e5 with e5; injection e5 with e7 e8; subst e7 e8
    have e9 := e6.head.symm.trans e3.c5
    simp only [Option.some.injEq, Value.slice.injEq] at e9
    exact hl.lf _ (List.getElem_mem (by omega : j < s.os.length)) (by rw [e9.2.1]; exact hn) x (by rw [e9.1]; exact hx)
  · intro j hj
    obtain ⟨g, off, e1, e2, e3⟩ := h2 j hj
    have hB : B ≤ g := hl.lw (by omega) _ e1
    exact ⟨g, off, e1, Nat.lt_of_lt_of_le e2 hb.1, e3.keep (fun k => hb.cell (p := ⟨g, k, none⟩) hB e2)⟩
  · intro j hj
    obtain ⟨g, off, e1, e2⟩ := hc.o j hj
    have hB : B ≤ g := hl.lo (by omega) _ e1
    refine ⟨g, off, e1, Nat.lt_of_lt_of_le e2.lt hb.1, fun k hk => ?_, (hb.cell (p := ⟨g, off + j * 6 + 5, none⟩) hB e2.lt).trans e2.head, canI_keepB e2.row hb (hl.lf _ (List.getElem_mem hj)), e2.apart⟩
    obtain ⟨⟨x, hx⟩, hf⟩ := e2.cell k hk
    exact ⟨⟨x, (hb.cell (p := ⟨g, off + j * 6 + k, none⟩) hB e2.lt).trans hx⟩, (hb.frozen (p := ⟨g, off + j * 6 + k, none⟩) hB e2.lt).trans hf⟩
  · intro j hj
    obtain ⟨g, off, e1, e2, ⟨x, e3⟩, e4, ⟨y, e5⟩, e6⟩ := hc.wk j hj
    have hB : B ≤ g := hl.lw (by omega) _ e1
    exact ⟨g, off, e1, Nat.lt_of_lt_of_le e2 hb.1, ⟨x, (hb.cell (p := ⟨g, off + j * 2, none⟩) hB e2).trans e3⟩, (hb.frozen (p := ⟨g, off + j * 2, none⟩) hB e2).trans e4, ⟨y, (hb.cell (p := ⟨g, off + j * 2 + 1, none⟩) hB e2).trans e5⟩, (hb.frozen (p := ⟨g, off + j * 2 + 1, none⟩) hB e2).trans e6⟩

end Go.Proofs.Ytjihbmkhifnblaa
