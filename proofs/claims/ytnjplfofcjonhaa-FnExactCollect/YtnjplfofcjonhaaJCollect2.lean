/- Texts of this claim, joined: part 2 of 6. -/
import Derived.Test.YtnjplfofcjonhaaJCollect1
import Derived.Deep.RegionHeld
import Derived.Test.YtnjplfofcjonhaaRows
import Derived.WalkKit
import Derived.ProofKit
import Derived.Below
import Derived.BigQuiet
import Derived.Orders
import Derived.Deep.AppendSrc
import Derived.Lib.SliceRun
import Derived.Maps.AppendAt
namespace Go.Proofs.Ytnjplfofcjonhaa
open Go.RowKit
set_option linter.unusedVariables false
abbrev Sts := List (Addr × Value)
def stores (w : World) : Sts → World
  | [] => w
  | p :: r => stores (w.setCell p.1 p.2) r
theorem stores_append (L M : Sts) : ∀ w, stores w (L ++ M) = stores (stores w L) M := by
  induction L with
  | nil => intro w; rfl
  | cons p r ih => intro w; exact ih _
theorem stores_frozen (L : Sts) (a : Addr) : ∀ w, (stores w L).frozen? a = w.frozen? a := by
  induction L with
  | nil => intro w; rfl
  | cons p r ih => intro w; rw [stores, ih, World.frozen?_setCell]
theorem stores_size (L : Sts) : ∀ w, (stores w L).heap.size = w.heap.size := by
  induction L with
  | nil => intro w; rfl
  | cons p r ih => intro w; rw [stores, ih]; simp [World.setCell]
theorem stores_some (L : Sts) (a : Addr) : ∀ w, (∃ x, w.cell? a = some x) → ∃ x, (stores w L).cell? a = some x := by
  induction L with
  | nil => intro w h; exact h
  | cons p r ih => intro w h; exact ih _ (some_set _ _ _ _ h)
theorem stores_other (L : Sts) (a : Addr) (h : ∀ p ∈ L, p.1 ≠ a) : ∀ w, (stores w L).cell? a = w.cell? a := by
  induction L with
  | nil => intro w; rfl
  | cons p r ih =>
    intro w
    rw [stores, ih (fun q hq => h q (List.mem_cons_of_mem _ hq)), World.cell?_setCell_other _ _ _ _ (h p (List.mem_cons_self ..))]
theorem stores_mem (L : Sts) (hn : (L.map (·.1)).Nodup) : ∀ w, (∀ p ∈ L, ∃ x, w.cell? p.1 = some x) → ∀ p ∈ L, (stores w L).cell? p.1 = some p.2 := by
  induction L with
  | nil => intro w _ p hp; simp at hp
  | cons q r ih =>
    intro w hs p hp
    rw [List.map_cons, List.nodup_cons] at hn
    rcases List.mem_cons.1 hp with rfl | hp
    · obtain ⟨x, hx⟩ := hs p (List.mem_cons_self ..)
      rw [stores, stores_other _ _ (fun z hz e => hn.1 (by rw [← e]; exact List.mem_map_of_mem hz)), World.cell?_setCell_same w _ _ hx]
    · exact ih hn.2 _ (fun z hz => some_set _ _ _ _ (hs z (List.mem_cons_of_mem _ hz))) p hp
theorem stores_block (L : Sts) (i : Nat) (h : ∀ p ∈ L, p.1.block ≠ i) : ∀ w, (stores w L).heap[i]? = w.heap[i]? := by
  induction L with
  | nil => intro w; rfl
  | cons p r ih =>
    intro w
    rw [stores, ih (fun q hq => h q (List.mem_cons_of_mem _ hq)), heap_setCell_other w p.1 i p.2 (fun e => h p (List.mem_cons_self ..) e.symm)]
theorem stores_below {B : Nat} {a : World} (L : Sts) (hL : ∀ p ∈ L, B ≤ p.1.block) : ∀ w, Below B a w → Below B a (stores w L) := by
  induction L with
  | nil => intro w h; exact h
  | cons p r ih => intro w h; exact ih (fun q hq => hL q (List.mem_cons_of_mem _ hq)) _ (h.setCell (hL p (List.mem_cons_self ..)) _)
def mkI (a : Option Addr) (k : Int) (n : Nat) : Sts := match a with
  | none => []
  | some x => (List.range n).map fun j => (⟨x.block, x.off + j, none⟩, .int .i64 (k + (j : Int)))
theorem mkI_zero (a : Option Addr) (k : Int) : mkI a k 0 = [] := by unfold mkI; cases a <;> rfl
theorem mkI_succ (g off : Nat) (k : Int) (j : Nat) : mkI (some ⟨g, off, none⟩) k (j + 1) = mkI (some ⟨g, off, none⟩) k j ++ [(⟨g, off + j, none⟩, .int .i64 (k + (j : Int)))] := by
  simp [mkI, List.range_succ]
theorem mkI_at (g off : Nat) (k : Int) (n j : Nat) (h : j < n) : ((⟨g, off + j, none⟩, .int .i64 (k + (j : Int))) : Addr × Value) ∈ mkI (some ⟨g, off, none⟩) k n := by
  unfold mkI; exact List.mem_map.2 ⟨j, List.mem_range.2 h, rfl⟩
theorem mkI_block (a : Option Addr) (k : Int) (n : Nat) (p : Addr × Value) (h : p ∈ mkI a k n) : 0 < n ∧ ∃ x, a = some x ∧ p.1.block = x.block := by
  unfold mkI at h
  cases a with
  | none => simp at h
  | some x =>
    obtain ⟨j, hj, rfl⟩ := List.mem_map.1 h
    have := List.mem_range.1 hj
    exact ⟨by omega, x, rfl, rfl⟩
theorem mkI_nodup (a : Option Addr) (k : Int) (n : Nat) : ((mkI a k n).map (·.1)).Nodup := by
  unfold mkI
  cases a with
  | none => simp
  | some x =>
    rw [List.map_map]
    refine List.pairwise_map.2 (List.pairwise_lt_range.imp ?_)
    intro i j hij e
    simp at e
    omega
def CanI (w : World) (a : Option Addr) (n : Nat) : Prop := ∀ j, j < n → ∃ g off, a = some ⟨g, off, none⟩ ∧ g < w.heap.size ∧ (∃ x, w.cell? ⟨g, off + j, none⟩ = some x) ∧ w.frozen? ⟨g, off + j, none⟩ = false
theorem canI_set {w : World} {a : Option Addr} {n : Nat} (p : Addr) (u : Value) (h : CanI w a n) : CanI (w.setCell p u) a n := by
  intro j hj
  obtain ⟨g, off, h1, h2, h3, h4⟩ := h j hj
  exact ⟨g, off, h1, by simpa [World.setCell] using h2, some_set _ _ _ _ h3, by rw [World.frozen?_setCell]; exact h4⟩
theorem canI_set6 {w : World} {a : Option Addr} {n : Nat} (p0 p1 p2 p3 p4 p5 : Addr) (u0 u1 u2 u3 u4 u5 : Value) (h : CanI w a n) : CanI ((((((w.setCell p0 u0).setCell p1 u1).setCell p2 u2).setCell p3 u3).setCell p4 u4).setCell p5 u5) a n := canI_set _ _ (canI_set _ _ (canI_set _ _ (canI_set _ _ (canI_set _ _ (canI_set _ _ h)))))
theorem canI_stores {w : World} {a : Option Addr} {n : Nat} (L : Sts) (h : CanI w a n) : CanI (stores w L) a n := by
  intro j hj
  obtain ⟨g, off, h1, h2, h3, h4⟩ := h j hj
  exact ⟨g, off, h1, by rw [stores_size]; exact h2, stores_some _ _ _ h3, by rw [stores_frozen]; exact h4⟩
structure OSh where
  f : Option Addr
  n : Nat
  c : Nat
structure CanO1 (w : World) (g p : Nat) (s : OSh) : Prop where
  lt : g < w.heap.size
  cell : ∀ k, k < 8 → (∃ x, w.cell? ⟨g, p + k, none⟩ = some x) ∧ w.frozen? ⟨g, p + k, none⟩ = false
  head : w.cell? ⟨g, p + 6, none⟩ = some (.slice s.f s.n s.c)
  row : CanI w s.f s.n
  apart : ∀ x, s.f = some x → 0 < s.n → x.block ≠ g
def CanO (w : World) (a : Option Addr) (ss : List OSh) : Prop := ∀ j (h : j < ss.length), ∃ g off, a = some ⟨g, off, none⟩ ∧ CanO1 w g (off + j * 8) ss[j]
abbrev b3 (k : Int) : Bool := k % 3 == 0
def mkO1 (g p : Nat) (s : OSh) (k : Int) : Sts :=
  [(⟨g, p, none⟩, .bool (b3 k)), (⟨g, p + 1, none⟩, .int .i64 (k + 1)), (⟨g, p + 2, none⟩, .int .i64 (k + 1 + 1)), (⟨g, p + 3, none⟩, .int .i64 (k + 1 + 1 + 1)), (⟨g, p + 4, none⟩, .int .i64 (k + 1 + 1 + 1 + 1)), (⟨g, p + 5, none⟩, .int .i64 (k + 1 + 1 + 1 + 1 + 1))] ++
  (mkI s.f (k + 1 + 1 + 1 + 1 + 1 + 1) s.n ++ [(⟨g, p + 7, none⟩, .bool (b3 (k + 1 + 1 + 1 + 1 + 1 + 1 + (s.n : Int))))])
def cntO (ss : List OSh) : Nat := (ss.map (fun s => 7 + s.n)).sum
def mkOs (g : Nat) : Nat → List OSh → Int → Sts
  | _, [], _ => []
  | p, s :: r, k => mkO1 g p s k ++ mkOs g (p + 8) r (k + ((7 + s.n : Nat) : Int))
def mkO (a : Option Addr) (ss : List OSh) (k : Int) : Sts := match a with
  | none => []
  | some x => mkOs x.block x.off ss k
theorem mkOs_append (g : Nat) (A B : List OSh) : ∀ p k, mkOs g p (A ++ B) k = mkOs g p A k ++ mkOs g (p + A.length * 8) B (k + (cntO A : Int)) := by
  induction A with
  | nil => intro p k; simp [mkOs, cntO]
  | cons s r ih =>
    intro p k
    simp only [List.cons_append, mkOs, List.append_assoc]
    rw [ih]
    have e1 : p + 8 + r.length * 8 = p + (s :: r).length * 8 := by simp; omega
    have e2 : k + ((7 + s.n : Nat) : Int) + (cntO r : Int) = k + (cntO (s :: r) : Int) := by simp [cntO]; omega
    rw [e1, e2]
theorem cntO_succ (ss : List OSh) (j : Nat) (h : j < ss.length) : cntO (ss.take (j + 1)) = cntO (ss.take j) + (7 + ss[j].n) := by
  unfold cntO
  rw [List.take_succ_eq_append_getElem h, List.map_append, List.sum_append]
  simp
theorem mkOs_succ (g p : Nat) (ss : List OSh) (k : Int) (j : Nat) (h : j < ss.length) : mkOs g p (ss.take (j + 1)) k = mkOs g p (ss.take j) k ++ mkO1 g (p + j * 8) ss[j] (k + (cntO (ss.take j) : Int)) := by
  rw [List.take_succ_eq_append_getElem h, mkOs_append, List.length_take, Nat.min_eq_left (by omega)]
  simp [mkOs]
theorem cntO_le (ss : List OSh) (m : Nat) (h : ∀ s ∈ ss, s.n ≤ m) : cntO ss ≤ ss.length * (7 + m) := by
  unfold cntO
  induction ss with
  | nil => simp
  | cons o r ih =>
    have h1 := h o (by simp)
    have h2 := ih (fun z hz => h z (by simp [hz]))
    simp only [List.map_cons, List.sum_cons, List.length_cons, Nat.add_mul, Nat.one_mul] at *
    omega
theorem mkO1_where (g p : Nat) (s : OSh) (k : Int) (q : Addr × Value) (h : q ∈ mkO1 g p s k) : (∃ i, i < 8 ∧ i ≠ 6 ∧ q.1 = ⟨g, p + i, none⟩) ∨ (0 < s.n ∧ ∃ x, s.f = some x ∧ q.1.block = x.block) := by
  unfold mkO1 at h
  rcases List.mem_append.1 h with h | h
  · simp only [List.mem_cons, List.not_mem_nil, or_false] at h
    rcases h with rfl | rfl | rfl | rfl | rfl | rfl
    · exact .inl ⟨0, by omega, by omega, rfl⟩
    · exact .inl ⟨1, by omega, by omega, rfl⟩
    · exact .inl ⟨2, by omega, by omega, rfl⟩
    · exact .inl ⟨3, by omega, by omega, rfl⟩
    · exact .inl ⟨4, by omega, by omega, rfl⟩
    · exact .inl ⟨5, by omega, by omega, rfl⟩
  · rcases List.mem_append.1 h with h | h
    · exact .inr (mkI_block _ _ _ _ h)
    · simp only [List.mem_singleton] at h
      subst h
      exact .inl ⟨7, by omega, by omega, rfl⟩
theorem mkOs_where (g : Nat) (ss : List OSh) : ∀ p k (q : Addr × Value), q ∈ mkOs g p ss k → (∃ j i, j < ss.length ∧ i < 8 ∧ i ≠ 6 ∧ q.1 = ⟨g, p + j * 8 + i, none⟩) ∨ (∃ s ∈ ss, 0 < s.n ∧ ∃ x, s.f = some x ∧ q.1.block = x.block) := by
  induction ss with
  | nil => intro p k q h; simp [mkOs] at h
  | cons s r ih =>
    intro p k q h
    rcases List.mem_append.1 h with h | h
    · rcases mkO1_where g p s k q h with ⟨i, h1, h2, h3⟩ | h
      · exact .inl ⟨0, i, by simp, h1, h2, by rw [h3]; simp⟩
      · exact .inr ⟨s, by simp, h⟩
    · rcases ih _ _ q h with ⟨j, i, h0, h1, h2, h3⟩ | ⟨s', h0, h1⟩
      · exact .inl ⟨j + 1, i, by simp; omega, h1, h2, by rw [h3]; congr 1; omega⟩
      · exact .inr ⟨s', by simp [h0], h1⟩
theorem CanO1.keep {w : World} {g p : Nat} {s : OSh} (L : Sts) (h : CanO1 w g p s) (hL : ∀ q ∈ L, q.1 ≠ ⟨g, p + 6, none⟩) : CanO1 (stores w L) g p s :=
  ⟨by rw [stores_size]; exact h.lt, fun k hk => ⟨stores_some _ _ _ (h.cell k hk).1, by rw [stores_frozen]; exact (h.cell k hk).2⟩, by rw [stores_other _ _ hL]; exact h.head, canI_stores _ h.row, h.apart⟩
def mkW (a : Option Addr) (k : Int) (n : Nat) : Sts := match a with
  | none => []
  | some x => (List.range n).flatMap fun j => [(⟨x.block, x.off + j * 2, none⟩, .bool (b3 (k + 2 * (j : Int)))), (⟨x.block, x.off + j * 2 + 1, none⟩, .int .i64 (k + 2 * (j : Int) + 1))]
theorem mkW_zero (a : Option Addr) (k : Int) : mkW a k 0 = [] := by unfold mkW; cases a <;> rfl
theorem mkW_succ (g off : Nat) (k : Int) (j : Nat) : mkW (some ⟨g, off, none⟩) k (j + 1) = mkW (some ⟨g, off, none⟩) k j ++ [(⟨g, off + j * 2, none⟩, .bool (b3 (k + 2 * (j : Int)))), (⟨g, off + j * 2 + 1, none⟩, .int .i64 (k + 2 * (j : Int) + 1))] := by
  simp [mkW, List.range_succ]
theorem mkW_at (g off : Nat) (k : Int) (n j : Nat) (h : j < n) : ((⟨g, off + j * 2, none⟩, .bool (b3 (k + 2 * (j : Int)))) : Addr × Value) ∈ mkW (some ⟨g, off, none⟩) k n ∧ ((⟨g, off + j * 2 + 1, none⟩, .int .i64 (k + 2 * (j : Int) + 1)) : Addr × Value) ∈ mkW (some ⟨g, off, none⟩) k n := by
  unfold mkW
  exact ⟨List.mem_flatMap.2 ⟨j, List.mem_range.2 h, by simp⟩, List.mem_flatMap.2 ⟨j, List.mem_range.2 h, by simp⟩⟩
theorem mkW_block (a : Option Addr) (k : Int) (n : Nat) (p : Addr × Value) (h : p ∈ mkW a k n) : 0 < n ∧ ∃ x, a = some x ∧ p.1.block = x.block := by
  unfold mkW at h
  cases a with
  | none => simp at h
  | some x =>
    obtain ⟨j, hj, h2⟩ := List.mem_flatMap.1 h
    have := List.mem_range.1 hj
    refine ⟨by omega, x, rfl, ?_⟩
    simp only [List.mem_cons, List.not_mem_nil, or_false] at h2
    rcases h2 with rfl | rfl <;> rfl
theorem mkW_where (g off : Nat) (k : Int) (n : Nat) (p : Addr × Value) (h : p ∈ mkW (some ⟨g, off, none⟩) k n) : ∃ i, i < n * 2 ∧ p.1 = ⟨g, off + i, none⟩ := by
  unfold mkW at h
  obtain ⟨j, hj, h2⟩ := List.mem_flatMap.1 h
  have := List.mem_range.1 hj
  simp only [List.mem_cons, List.not_mem_nil, or_false] at h2
  rcases h2 with rfl | rfl
  · exact ⟨j * 2, by omega, rfl⟩
  · exact ⟨j * 2 + 1, by omega, rfl⟩
theorem mkW_nodup (a : Option Addr) (k : Int) : ∀ n, ((mkW a k n).map (·.1)).Nodup := by
  cases a with
  | none => intro n; simp [mkW]
  | some x =>
    obtain ⟨g, off, sp⟩ := x
    intro n
    induction n with
    | zero => simp [mkW]
    | succ n ih =>
      have e : mkW (some ⟨g, off, sp⟩) k (n + 1) = mkW (some ⟨g, off, none⟩) k (n + 1) := rfl
      have e' : mkW (some ⟨g, off, sp⟩) k n = mkW (some ⟨g, off, none⟩) k n := rfl
      rw [e, mkW_succ, List.map_append, List.nodup_append]
      rw [e'] at ih
      refine ⟨ih, by simp, ?_⟩
      intro a ha b hb
      obtain ⟨q, hq, rfl⟩ := List.mem_map.1 ha
      obtain ⟨i, hi, hqe⟩ := mkW_where g off k n q hq
      rw [hqe]
      simp only [List.map_cons, List.map_nil, List.mem_cons, List.not_mem_nil, or_false] at hb
      rcases hb with rfl | rfl
      · intro h
        have h2 : off + i = off + n * 2 := by injection h
        omega
      · intro h
        have h2 : off + i = off + n * 2 + 1 := by injection h
        omega
def CanW (w : World) (a : Option Addr) (n : Nat) : Prop := ∀ j, j < n → ∃ g off, a = some ⟨g, off, none⟩ ∧ g < w.heap.size ∧ (∃ x, w.cell? ⟨g, off + j * 2, none⟩ = some x) ∧ w.frozen? ⟨g, off + j * 2, none⟩ = false ∧ (∃ x, w.cell? ⟨g, off + j * 2 + 1, none⟩ = some x) ∧ w.frozen? ⟨g, off + j * 2 + 1, none⟩ = false
theorem canW_stores {w : World} {a : Option Addr} {n : Nat} (L : Sts) (h : CanW w a n) : CanW (stores w L) a n := by
  intro j hj
  obtain ⟨g, off, h1, h2, h3, h4, h5, h6⟩ := h j hj
  exact ⟨g, off, h1, by rw [stores_size]; exact h2, stores_some _ _ _ h3, by rw [stores_frozen]; exact h4, stores_some _ _ _ h5, by rw [stores_frozen]; exact h6⟩
end Go.Proofs.Ytnjplfofcjonhaa
namespace Go.Proofs.Ytnjplfofcjonhaa
open Go.RowKit
set_option linter.unusedVariables false
theorem markIntS_st (w : World) (a : Option Addr) (n cap : Nat) (k : Int) (h : CanI w a n) (hz : n ≤ 16777216) (h0 : 0 ≤ k) (h1 : k ≤ 1000000000000000) :
    Calls Try.prog 25 #[.slice a n cap, .int .i64 k] w fun e w' => e = .returned (.int .i64 (k + (n : Int))) ∧ w' = stores w (mkI a k n) := by
  have HC : Hid (CanI w a n) := h
  have HS : Hid (∀ g off j, a = some ⟨g, off, none⟩ → mkI a k (j + 1) = mkI a k j ++ [(⟨g, off + j, none⟩, .int .i64 (k + (j : Int)))]) := fun g off j e => by rw [e]; exact mkI_succ g off k j
  have H0 : Hid (w = stores w (mkI a k 0)) := by show _ = _; rw [mkI_zero]; rfl
  clear h
  go_enter Try.func25, Try.ntmps25
  go_wp2
  go_loopw [1, 5] (fun x i wr => ∃ j : Nat, j ≤ n ∧ i = .int .i64 j ∧ x = .int .i64 (k + (j : Int)) ∧ Hid (wr = stores w (mkI a k j))) (fun _ i _ => n - (intOf i).toNat)
  case atStart => exact ⟨0, by omega, rfl, by simp, H0⟩
  case round =>
    obtain ⟨j, hj, rfl, rfl, HW⟩ := hrel
    by_cases hlt : j < n
    · have hc := canI_stores (mkI a k j) HC.out
      rw [← HW.out] at hc
      obtain ⟨g, off, ha, -, ⟨x, hx⟩, hf⟩ := hc j hlt
      have HN : Hid (wr.setCell ⟨g, off + j, none⟩ (.int .i64 (k + (j : Int))) = stores w (mkI a k (j + 1))) := by
        show _ = _
        rw [HS.out g off j ha, stores_append, ← HW.out]; rfl
      subst ha
      clear hc
      go_wp2
      go_roundw
      case rel => exact ⟨j + 1, by omega, by go_num, by go_num, HN⟩
      case measure => simp [intOf]; omega
    · obtain rfl : j = n := by omega
      go_wp2
      go_ret
      exact ⟨rfl, HW.out⟩
theorem heldIntS_at (w : World) (a : Option Addr) (n cap : Nat) (k : Int) (h : ∀ p ∈ mkI a k n, w.cell? p.1 = some p.2) (ha : 0 < n → ∃ g off, a = some ⟨g, off, none⟩) (hz : n ≤ 16777216) (h0 : 0 ≤ k) (h1 : k ≤ 1000000000000000) :
    Calls Try.prog 27 #[.slice a n cap, .int .i64 k] w fun e w' => e = .returned (.int .i64 (k + (n : Int))) ∧ w' = w := by
  have HC : Hid (∀ j, j < n → ∃ g off, a = some ⟨g, off, none⟩ ∧ w.cell? ⟨g, off + j, none⟩ = some (.int .i64 (k + (j : Int)))) := by
    intro j hj
    obtain ⟨g, off, e⟩ := ha (by omega)
    exact ⟨g, off, e, h _ (by rw [e]; exact mkI_at g off k n j hj)⟩
  clear h ha
  go_enter Try.func27, Try.ntmps27
  go_wp2
  go_loop [1, 5] (fun x i => ∃ j : Nat, j ≤ n ∧ i = .int .i64 j ∧ x = .int .i64 (k + (j : Int))) (fun _ i => n - (intOf i).toNat)
  case atStart => exact ⟨0, by omega, rfl, by simp⟩
  case round =>
    obtain ⟨j, hj, rfl, rfl⟩ := hrel
    by_cases hlt : j < n
    · obtain ⟨g, off, rfl, hc1⟩ := HC.out j hlt
      go_wp2
      go_round
      case rel => exact ⟨j + 1, by omega, by go_num, by go_num⟩
      case measure => simp [intOf]; omega
    · obtain rfl : j = n := by omega
      go_wp2
      go_ret
      exact ⟨rfl, rfl⟩
theorem markWeakS_st (w : World) (a : Option Addr) (n cap : Nat) (k : Int) (h : CanW w a n) (hz : n ≤ 16777216) (h0 : 0 ≤ k) (h1 : k ≤ 1000000000000000) :
    Calls Try.prog 75 #[.slice a n cap, .int .i64 k] w fun e w' => e = .returned (.int .i64 (k + 2 * (n : Int))) ∧ w' = stores w (mkW a k n) := by
  have HC : Hid (CanW w a n) := h
  have HS : Hid (∀ g off j, a = some ⟨g, off, none⟩ → mkW a k (j + 1) = mkW a k j ++ [(⟨g, off + j * 2, none⟩, .bool (b3 (k + 2 * (j : Int)))), (⟨g, off + j * 2 + 1, none⟩, .int .i64 (k + 2 * (j : Int) + 1))]) := fun g off j e => by rw [e]; exact mkW_succ g off k j
  have H0 : Hid (w = stores w (mkW a k 0)) := by show _ = _; rw [mkW_zero]; rfl
  clear h
  go_enter Try.func75, Try.ntmps75
  go_wp2
  go_loopw [1, 5] (fun x i wr => ∃ j : Nat, j ≤ n ∧ i = .int .i64 j ∧ x = .int .i64 (k + 2 * (j : Int)) ∧ Hid (wr = stores w (mkW a k j))) (fun _ i _ => n - (intOf i).toNat)
  case atStart => exact ⟨0, by omega, rfl, by simp, H0⟩
  case round =>
    obtain ⟨j, hj, rfl, rfl, HW⟩ := hrel
    by_cases hlt : j < n
    · have hc := canW_stores (mkW a k j) HC.out
      rw [← HW.out] at hc
      obtain ⟨g, off, ha, -, ⟨x, hx⟩, hf, ⟨y, hy⟩, hf2⟩ := hc j hlt
      have HN : Hid ((wr.setCell ⟨g, off + j * 2, none⟩ (.bool (b3 (k + 2 * (j : Int))))).setCell ⟨g, off + j * 2 + 1, none⟩ (.int .i64 (k + 2 * (j : Int) + 1)) = stores w (mkW a k (j + 1))) := by
        show _ = _
        rw [HS.out g off j ha, stores_append, ← HW.out]; rfl
      subst ha
      clear hc
      go_wp2
      go_roundw
      case rel => exact ⟨j + 1, by omega, by go_num, by go_num, HN⟩
      case measure => simp [intOf]; omega
    · obtain rfl : j = n := by omega
      go_wp2
      go_ret
      exact ⟨rfl, HW.out⟩
theorem heldWeakS_at (w : World) (a : Option Addr) (n cap : Nat) (k : Int) (h : ∀ p ∈ mkW a k n, w.cell? p.1 = some p.2) (ha : 0 < n → ∃ g off, a = some ⟨g, off, none⟩) (hz : n ≤ 16777216) (h0 : 0 ≤ k) (h1 : k ≤ 1000000000000000) :
    Calls Try.prog 78 #[.slice a n cap, .int .i64 k] w fun e w' => e = .returned (.int .i64 (k + 2 * (n : Int))) ∧ Below w.heap.size w w' := by
  have HC : Hid (∀ j, j < n → ∃ g off, a = some ⟨g, off, none⟩ ∧ g < w.heap.size ∧ w.cell? ⟨g, off + j * 2, none⟩ = some (.bool (b3 (k + 2 * (j : Int)))) ∧ w.cell? ⟨g, off + j * 2 + 1, none⟩ = some (.int .i64 (k + 2 * (j : Int) + 1))) := by
    intro j hj
    obtain ⟨g, off, e⟩ := ha (by omega)
    have h2 := h _ (by rw [e]; exact (mkW_at g off k n j hj).1)
    exact ⟨g, off, e, World.block_lt_of_cell? w _ h2, h2, h _ (by rw [e]; exact (mkW_at g off k n j hj).2)⟩
  clear h ha
  go_enter Try.func78, Try.ntmps78
  go_wp2
  go_loopw [1, 5] (fun x i wr => ∃ j : Nat, j ≤ n ∧ i = .int .i64 j ∧ x = .int .i64 (k + 2 * (j : Int)) ∧ Below w.heap.size w wr) (fun _ i _ => n - (intOf i).toNat)
  case atStart => exact ⟨0, by omega, rfl, by simp, Below.refl _ _⟩
  case round =>
    obtain ⟨j, hj, rfl, rfl, hb⟩ := hrel
    by_cases hlt : j < n
    · obtain ⟨g, off, rfl, hg, hc1, hc2⟩ := HC.out j hlt
      rw [← hb.cell (p := ⟨g, off + j * 2, none⟩) hg] at hc1
      rw [← hb.cell (p := ⟨g, off + j * 2 + 1, none⟩) hg] at hc2
      go_wp2
      go_roundw
      case rel => exact ⟨j + 1, by omega, by go_num, by go_num, hb⟩
      case measure => simp [intOf]; omega
    · obtain rfl : j = n := by omega
      go_wp2
      go_ret
      exact ⟨rfl, hb⟩
end Go.Proofs.Ytnjplfofcjonhaa
namespace Go.Proofs.Ytnjplfofcjonhaa
open Go.RowKit
set_option linter.unusedVariables false
set_option maxHeartbeats 400000 in
theorem markObjS_st (w : World) (a : Option Addr) (cap : Nat) (ss : List OSh) (k : Int) (h : CanO w a ss) (hz : ss.length ≤ 16777216) (hm : ∀ s ∈ ss, s.n ≤ 16777216) (h0 : 0 ≤ k) (h1 : k ≤ 1000000000000) (hap : ∀ x s, a = some x → s ∈ ss → 0 < s.n → ∀ y, s.f = some y → y.block ≠ x.block) :
    Calls Try.prog 74 #[.slice a ss.length cap, .int .i64 k] w fun e w' => e = .returned (.int .i64 (k + (cntO ss : Int))) ∧ w' = stores w (mkO a ss k) := by
  have HC : Hid (CanO w a ss) := h
  have HM : Hid (∀ s ∈ ss, s.n ≤ 16777216) := hm
  have HA : Hid (∀ x s, a = some x → s ∈ ss → 0 < s.n → ∀ y, s.f = some y → y.block ≠ x.block) := hap
  have HB : Hid (∀ j, cntO (ss.take j) ≤ 16777216 * (7 + 16777216)) := by
    intro j
    refine Nat.le_trans (cntO_le (ss.take j) 16777216 (fun s hs => hm s (List.mem_of_mem_take hs))) (Nat.mul_le_mul_right _ ?_)
    rw [List.length_take]; omega
  obtain ⟨L, hL⟩ : ∃ L : Nat → Sts, L = fun j => mkO a (ss.take j) k := ⟨_, rfl⟩
  have H0 : Hid (w = stores w (L 0)) := by show _ = _; rw [hL]; unfold mkO; cases a <;> rfl
  have HE : Hid (stores w (L ss.length) = stores w (mkO a ss k)) := by show _ = _; rw [hL]; simp only [List.take_length]
  have HEC : Hid (cntO (ss.take ss.length) = cntO ss) := by show _ = _; rw [List.take_length]
  have HS : Hid (∀ g off j (h : j < ss.length), a = some ⟨g, off, none⟩ → L (j + 1) = L j ++ mkO1 g (off + j * 8) ss[j] (k + (cntO (ss.take j) : Int))) := by
    intro g off j h e
    rw [hL, e]
    exact mkOs_succ g off ss k j h
  have HW0 : Hid (∀ g off j (h : j < ss.length), a = some ⟨g, off, none⟩ → ∀ q ∈ L j, q.1 ≠ ⟨g, off + j * 8 + 6, none⟩) := by
    intro g off j h e q hq
    rw [hL, e] at hq
    rcases mkOs_where g (ss.take j) off k q hq with ⟨j', i, h1, h2, h3, h4⟩ | ⟨s, h1, h2, x, h3, h4⟩
    · rw [h4]
      intro e2
      have e3 : off + j' * 8 + i = off + j * 8 + 6 := by injection e2
      omega
    · intro e2
      exact HA.out _ s e (List.mem_of_mem_take h1) h2 x h3 (by rw [← h4, e2])
  have HCS : Hid (∀ j (h : j < ss.length), cntO (ss.take (j + 1)) = cntO (ss.take j) + (7 + ss[j].n)) := fun j h => cntO_succ ss j h
  obtain ⟨N, hN⟩ : ∃ N, ss.length = N := ⟨_, rfl⟩
  have HNn : Hid (ss.length = N) := hN
  rw [hN] at hz HE HEC ⊢
  clear h hm hap hL hN
  go_enter Try.func74, Try.ntmps74
  go_wp2
  go_loopw [1, 5] (fun x i wr => ∃ j : Nat, j ≤ N ∧ i = .int .i64 j ∧ x = .int .i64 (k + (cntO (ss.take j) : Int)) ∧ Hid (wr = stores w (L j))) (fun _ i _ => N - (intOf i).toNat)
  case atStart => exact ⟨0, by omega, rfl, by simp [cntO], H0⟩
  case round =>
    obtain ⟨j, hj, rfl, rfl, HW⟩ := hrel
    by_cases hlt : j < N
    · have hj2 : j < ss.length := by have := HNn.out; omega
      obtain ⟨g, off, ha, hc0⟩ := HC.out j hj2
      have hc := hc0.keep (L j) (HW0.out g off j hj2 ha)
      rw [← HW.out] at hc
      have hmn := HM.out _ (List.getElem_mem hj2)
      have hbd := HB.out j
      have HN1 : Hid (∀ X, X = wr → stores X (mkO1 g (off + j * 8) ss[j] (k + (cntO (ss.take j) : Int))) = stores w (L (j + 1))) := by
        intro X hX
        rw [hX, HS.out g off j hj2 ha, stores_append, ← HW.out]
      have HK : Hid (k + (cntO (ss.take (j + 1)) : Int) = k + (cntO (ss.take j) : Int) + 7 + (ss[j].n : Int)) := by show _ = _; rw [HCS.out j hj2]; omega
      generalize ss[j] = s at *
      obtain ⟨sf, sn, sc⟩ := s
      obtain ⟨c, hcc⟩ : ∃ c : Int, c = k + (cntO (ss.take j) : Int) := ⟨_, rfl⟩
      rw [← hcc] at HK HN1 ⊢
      have hc0' : 0 ≤ c := by omega
      have hc1' : c ≤ 1000000000000000 - 10 := by omega
      clear hcc hbd hc0
      obtain ⟨hlt8, hcell, hhead, hrow, hapart⟩ := hc
      simp only at hhead hrow hmn HK
      obtain ⟨⟨x0, d0⟩, f0⟩ := hcell 0 (by omega)
      obtain ⟨⟨x1, d1⟩, f1⟩ := hcell 1 (by omega)
      obtain ⟨⟨x2, d2⟩, f2⟩ := hcell 2 (by omega)
      obtain ⟨⟨x3, d3⟩, f3⟩ := hcell 3 (by omega)
      obtain ⟨⟨x4, d4⟩, f4⟩ := hcell 4 (by omega)
      obtain ⟨⟨x5, d5⟩, f5⟩ := hcell 5 (by omega)
      have h7 := hcell 7 (by omega)
      have H7 : Hid _ := h7
      have HR : Hid (CanI wr sf sn) := hrow
      rw [Nat.add_zero] at d0 f0
      subst ha
      clear hcell h7 hrow hapart
      go_wp2_with fail
      refine (markIntS_st _ sf sn sc (c + 1 + 1 + 1 + 1 + 1 + 1) (canI_set6 _ _ _ _ _ _ _ _ _ _ _ _ HR.out) hmn (by omega) (by omega)).mono ?_
      rintro e w1 ⟨rfl, hw1⟩
      obtain ⟨x7, d7⟩ : ∃ x, w1.cell? ⟨g, off + j * 8 + 7, none⟩ = some x := by
        rw [hw1]
        refine stores_some _ _ _ ?_
        iterate 6 refine some_set _ _ _ _ ?_
        exact H7.out.1
      have f7 : w1.frozen? ⟨g, off + j * 8 + 7, none⟩ = false := by
        rw [hw1, stores_frozen]
        simp only [World.frozen?_setCell]
        exact H7.out.2
      have HF : Hid (w1.setCell ⟨g, off + j * 8 + 7, none⟩ (.bool (b3 (c + 1 + 1 + 1 + 1 + 1 + 1 + (sn : Int)))) = stores w (L (j + 1))) := by
        have e := HN1.out wr rfl
        unfold mkO1 at e
        rw [stores_append, stores_append] at e
        show _ = _
        rw [← e, hw1]
        rfl
      clear hw1 d0 d1 d2 d3 d4 d5 f0 f1 f2 f3 f4 f5 hhead H7 HR HN1
      go_wp2
      go_roundw
      case rel => exact ⟨j + 1, by omega, by go_num, by rw [HK.out]; go_num, HF⟩
      case measure => simp [intOf]; omega
    · obtain rfl : j = N := by omega
      go_wp2
      go_ret
      exact ⟨ret_zz (by rw [HEC.out]), by rw [HW.out, HE.out]⟩
theorem mkO_mem (g off : Nat) (ss : List OSh) (k : Int) (j : Nat) (h : j < ss.length) (q : Addr × Value) (hq : q ∈ mkO1 g (off + j * 8) ss[j] (k + (cntO (ss.take j) : Int))) : q ∈ mkO (some ⟨g, off, none⟩) ss k := by
  have e : ss = ss.take (j + 1) ++ ss.drop (j + 1) := (List.take_append_drop _ _).symm
  show q ∈ mkOs g off ss k
  rw [e, mkOs_append, mkOs_succ g off ss k j h]
  exact List.mem_append_left _ (List.mem_append_right _ hq)
set_option maxHeartbeats 1000000 in
set_option maxRecDepth 100000 in
theorem heldObjS_at (w : World) (a : Option Addr) (cap : Nat) (ss : List OSh) (k : Int) (h : ∀ q ∈ mkO a ss k, w.cell? q.1 = some q.2) (hz : ss.length ≤ 16777216) (hm : ∀ s ∈ ss, s.n ≤ 16777216) (h0 : 0 ≤ k) (h1 : k ≤ 1000000000000)
    (hh : ∀ j (h : j < ss.length), ∃ g off, a = some ⟨g, off, none⟩ ∧ w.cell? ⟨g, off + j * 8 + 6, none⟩ = some (.slice ss[j].f ss[j].n ss[j].c) ∧ (0 < ss[j].n → ∃ g' off', ss[j].f = some ⟨g', off', none⟩)) :
    Calls Try.prog 77 #[.slice a ss.length cap, .int .i64 k] w fun e w' => e = .returned (.int .i64 (k + (cntO ss : Int))) ∧ w' = w := by
  have HC : Hid (∀ j (h : j < ss.length), ∃ g off, a = some ⟨g, off, none⟩ ∧ w.cell? ⟨g, off + j * 8 + 6, none⟩ = some (.slice ss[j].f ss[j].n ss[j].c) ∧ (0 < ss[j].n → ∃ g' off', ss[j].f = some ⟨g', off', none⟩) ∧ ∀ q ∈ mkO1 g (off + j * 8) ss[j] (k + (cntO (ss.take j) : Int)), w.cell? q.1 = some q.2) := by
    intro j hj
    obtain ⟨g, off, e, h2, h3⟩ := hh j hj
    exact ⟨g, off, e, h2, h3, fun q hq => h q (by rw [e]; exact mkO_mem g off ss k j hj q hq)⟩
  have HM : Hid (∀ s ∈ ss, s.n ≤ 16777216) := hm
  have HB : Hid (∀ j, cntO (ss.take j) ≤ 16777216 * (7 + 16777216)) := by
    intro j
    refine Nat.le_trans (cntO_le (ss.take j) 16777216 (fun s hs => hm s (List.mem_of_mem_take hs))) (Nat.mul_le_mul_right _ ?_)
    rw [List.length_take]; omega
  have HEC : Hid (cntO (ss.take ss.length) = cntO ss) := by show _ = _; rw [List.take_length]
  have HCS : Hid (∀ j (h : j < ss.length), cntO (ss.take (j + 1)) = cntO (ss.take j) + (7 + ss[j].n)) := fun j h => cntO_succ ss j h
  obtain ⟨N, hN⟩ : ∃ N, ss.length = N := ⟨_, rfl⟩
  have HNn : Hid (ss.length = N) := hN
  rw [hN] at hz HEC ⊢
  clear h hm hh hN
  go_enter Try.func77, Try.ntmps77
  go_wp2
  go_loop [1, 5] (fun x i => ∃ j : Nat, j ≤ N ∧ i = .int .i64 j ∧ x = .int .i64 (k + (cntO (ss.take j) : Int))) (fun _ i => N - (intOf i).toNat)
  case atStart => exact ⟨0, by omega, rfl, by simp [cntO]⟩
  case round =>
    obtain ⟨j, hj, rfl, rfl⟩ := hrel
    by_cases hlt : j < N
    · have hj2 : j < ss.length := by have := HNn.out; omega
      obtain ⟨g, off, rfl, hhead, hrow, hall⟩ := HC.out j hj2
      have hmn := HM.out _ (List.getElem_mem hj2)
      have hbd := HB.out j
      have HK : Hid (k + (cntO (ss.take (j + 1)) : Int) = k + (cntO (ss.take j) : Int) + 7 + (ss[j].n : Int)) := by show _ = _; rw [HCS.out j hj2]; omega
      generalize ss[j] = s at *
      obtain ⟨sf, sn, sc⟩ := s
      obtain ⟨c, hcc⟩ : ∃ c : Int, c = k + (cntO (ss.take j) : Int) := ⟨_, rfl⟩
      rw [← hcc] at HK hall ⊢
      have hc0' : 0 ≤ c := by omega
      have hc1' : c ≤ 1000000000000000 - 10 := by omega
      clear hcc hbd
      simp only at hhead hrow hmn HK
      unfold mkO1 at hall
      have d0 := hall (⟨g, off + j * 8, none⟩, .bool (b3 c)) (by simp)
      have d1 := hall (⟨g, off + j * 8 + 1, none⟩, .int .i64 (c + 1)) (by simp)
      have d2 := hall (⟨g, off + j * 8 + 2, none⟩, .int .i64 (c + 1 + 1)) (by simp)
      have d3 := hall (⟨g, off + j * 8 + 3, none⟩, .int .i64 (c + 1 + 1 + 1)) (by simp)
      have d4 := hall (⟨g, off + j * 8 + 4, none⟩, .int .i64 (c + 1 + 1 + 1 + 1)) (by simp)
      have d5 := hall (⟨g, off + j * 8 + 5, none⟩, .int .i64 (c + 1 + 1 + 1 + 1 + 1)) (by simp)
      have d7 := hall (⟨g, off + j * 8 + 7, none⟩, .bool (b3 (c + 1 + 1 + 1 + 1 + 1 + 1 + (sn : Int)))) (by simp)
      have C : Hid (∀ u : Unit, _) := fun (_ : Unit) => heldIntS_at w sf sn sc (c + 1 + 1 + 1 + 1 + 1 + 1) (fun q hq => hall q (List.mem_append_right _ (List.mem_append_left _ hq))) hrow hmn (by omega) (by omega)
      simp only at d0 d1 d2 d3 d4 d5 d7
      clear hall hrow
      go_wp2_with fail
      refine (C.out ()).mono ?_
      rintro e w1 ⟨rfl, rfl⟩
      go_wp2
      go_round
      case rel => exact ⟨j + 1, by omega, by go_num, by rw [HK.out]; go_num⟩
      case measure => simp [intOf]; omega
    · obtain rfl : j = N := by omega
      go_wp2
      go_ret
      exact ⟨ret_zz (by rw [HEC.out]), rfl⟩
end Go.Proofs.Ytnjplfofcjonhaa
namespace Go.Proofs.Ytnjplfofcjonhaa
open Go.RowKit
set_option linter.unusedVariables false
theorem below_both {n : Nat} {A B : World} (h : Below n A B) (p : Addr) (v : Value) : Below n (A.setCell p v) (B.setCell p v) := by
  refine ⟨h.os, h.tape, h.output, by simpa [World.setCell] using h.size, fun k hk => ?_⟩
  by_cases e : k = p.block
  · subst e
    have hb := h.block p.block hk
    simp only [World.setCell]
    rw [Array.getElem?_modify, Array.getElem?_modify, if_pos rfl, if_pos rfl, hb]
  · rw [heap_setCell_other _ _ _ _ e, heap_setCell_other _ _ _ _ e, h.block k hk]
theorem stores_both {n : Nat} (L : Sts) : ∀ {A B : World}, Below n A B → Below n (stores A L) (stores B L) := by
  induction L with
  | nil => intro A B h; exact h
  | cons p r ih => intro A B h; exact ih (below_both h _ _)
def mkS (a : Option Addr) (k n : Nat) : Sts := match a with
  | none => []
  | some x => (List.range n).map fun j => (⟨x.block, x.off + j, none⟩, .string (txt (mtxt (k + j))))
theorem mkS_zero (a : Option Addr) (k : Nat) : mkS a k 0 = [] := by unfold mkS; cases a <;> rfl
theorem mkS_succ (g off k j : Nat) : mkS (some ⟨g, off, none⟩) k (j + 1) = mkS (some ⟨g, off, none⟩) k j ++ [(⟨g, off + j, none⟩, .string (txt (mtxt (k + j))))] := by
  simp [mkS, List.range_succ]
theorem mkS_at (g off k n j : Nat) (h : j < n) : ((⟨g, off + j, none⟩, .string (txt (mtxt (k + j)))) : Addr × Value) ∈ mkS (some ⟨g, off, none⟩) k n := by
  unfold mkS; exact List.mem_map.2 ⟨j, List.mem_range.2 h, rfl⟩
theorem mkS_block (a : Option Addr) (k n : Nat) (p : Addr × Value) (h : p ∈ mkS a k n) : 0 < n ∧ ∃ x, a = some x ∧ p.1.block = x.block := by
  unfold mkS at h
  cases a with
  | none => simp at h
  | some x =>
    obtain ⟨j, hj, rfl⟩ := List.mem_map.1 h
    have := List.mem_range.1 hj
    exact ⟨by omega, x, rfl, rfl⟩
theorem mkS_nodup (a : Option Addr) (k n : Nat) : ((mkS a k n).map (·.1)).Nodup := by
  unfold mkS
  cases a with
  | none => simp
  | some x =>
    rw [List.map_map]
    refine List.pairwise_map.2 (List.pairwise_lt_range.imp ?_)
    intro i j hij e
    simp at e
    omega
set_option maxHeartbeats 1000000 in
theorem markStringS_st (w : World) (a : Option Addr) (n cap k : Nat) (h : CanI w a n) (hz : n ≤ 16777216) (h0 : 0 < k) (h1 : k ≤ 1000000000000000) :
    Calls Try.prog 76 #[.slice a n cap, .int .i64 (k : Int)] w fun e w' => e = .returned (.int .i64 ((k : Int) + (n : Int))) ∧ Below w.heap.size (stores w (mkS a k n)) w' := by
  have HC : Hid (CanI w a n) := h
  have HS : Hid (∀ g off j, a = some ⟨g, off, none⟩ → mkS a k (j + 1) = mkS a k j ++ [(⟨g, off + j, none⟩, .string (txt (mtxt (k + j))))]) := fun g off j e => by rw [e]; exact mkS_succ g off k j
  have H0 : Hid (Below w.heap.size (stores w (mkS a k 0)) w) := by rw [mkS_zero]; exact Below.refl _ _
  clear h
  go_enter Try.func76, Try.ntmps76
  go_wp2
  go_loopw [1, 5] (fun x i wr => ∃ j : Nat, j ≤ n ∧ i = .int .i64 j ∧ x = .int .i64 ((k : Int) + (j : Int)) ∧ Hid (Below w.heap.size (stores w (mkS a k j)) wr)) (fun _ i _ => n - (intOf i).toNat)
  case atStart => exact ⟨0, by omega, rfl, by simp, H0⟩
  case round =>
    obtain ⟨j, hj, rfl, rfl, HW⟩ := hrel
    by_cases hlt : j < n
    · have C : Hid (∀ X, _) := fun X => markText_calls (k + j) X (by omega) (by omega)
      have e1 : ((k + j : Nat) : Int) = (k : Int) + (j : Int) := by omega
      rw [e1] at C
      clear e1
      go_wp2_with fail
      refine (C.out _).mono ?_
      rintro e w1 ⟨rfl, b1⟩
      have hsz : w.heap.size ≤ wr.heap.size := by have := HW.out.size; rw [stores_size] at this; exact this
      have HW1 : Hid (Below w.heap.size (stores w (mkS a k j)) w1) := HW.out.trans (b1.mono hsz)
      have hc := canI_stores (mkS a k j) HC.out
      obtain ⟨g, off, ha, hg, ⟨x, hx⟩, hf⟩ := hc j hlt
      rw [stores_size] at hg
      rw [← HW1.out.cell (p := ⟨g, off + j, none⟩) hg] at hx
      rw [← HW1.out.frozen (p := ⟨g, off + j, none⟩) hg] at hf
      have HN : Hid (Below w.heap.size (stores w (mkS a k (j + 1))) (w1.setCell ⟨g, off + j, none⟩ (.string (txt (mtxt (k + j)))))) := by
        rw [HS.out g off j ha, stores_append]
        exact below_both HW1.out _ _
      subst ha
      generalize mtxt (k + j) = T at *
      clear hc b1
      go_wp2
      go_roundw
      case rel => exact ⟨j + 1, by omega, by go_num, by go_num, HN⟩
      case measure => simp [intOf]; omega
    · obtain rfl : j = n := by omega
      go_wp2
      go_ret
      exact ⟨rfl, HW.out⟩
set_option maxHeartbeats 1000000 in
theorem heldStringS_at (w : World) (a : Option Addr) (n cap k : Nat) (h : ∀ p ∈ mkS a k n, w.cell? p.1 = some p.2) (ha : 0 < n → ∃ g off, a = some ⟨g, off, none⟩) (hz : n ≤ 16777216) (h0 : 0 < k) (h1 : k ≤ 1000000000000000) :
    Calls Try.prog 79 #[.slice a n cap, .int .i64 (k : Int)] w fun e w' => e = .returned (.int .i64 ((k : Int) + (n : Int))) ∧ Below w.heap.size w w' := by
  have HA : Hid (∀ j, j < n → ∃ g off, a = some ⟨g, off, none⟩ ∧ g < w.heap.size ∧ w.cell? ⟨g, off + j, none⟩ = some (.string (txt (mtxt (k + j))))) := by
    intro j hj
    obtain ⟨g, off, e⟩ := ha (by omega)
    have h2 := h _ (by rw [e]; exact mkS_at g off k n j hj)
    exact ⟨g, off, e, World.block_lt_of_cell? w _ h2, h2⟩
  clear h ha
  go_enter Try.func79, Try.ntmps79
  go_wp2
  go_loopw [1, 5] (fun x i wr => ∃ j : Nat, j ≤ n ∧ i = .int .i64 j ∧ x = .int .i64 ((k : Int) + (j : Int)) ∧ Below w.heap.size w wr) (fun _ i _ => n - (intOf i).toNat)
  case atStart => exact ⟨0, by omega, rfl, by simp, Below.refl _ _⟩
  case round =>
    obtain ⟨j, hj, rfl, rfl, hb⟩ := hrel
    by_cases hlt : j < n
    · obtain ⟨g, off, rfl, hg0, hc0⟩ := HA.out j hlt
      have hg : g < wr.heap.size := Nat.lt_of_lt_of_le hg0 hb.size
      have hc1 := (hb.cell (p := ⟨g, off + j, none⟩) hg0).trans hc0
      have C : Hid (∀ X, _) := fun X => markText_calls (k + j) X (by omega) (by omega)
      have e1 : ((k + j : Nat) : Int) = (k : Int) + (j : Int) := by omega
      rw [e1] at C
      clear e1 hc0
      have hbs := hb.size
      have HCL : Hid (∀ X, Below wr.heap.size wr X → X.cell? ⟨g, off + j, none⟩ = some (.string (txt (mtxt (k + j))))) := fun X hX => (hX.cell (p := ⟨g, off + j, none⟩) hg).trans hc1
      generalize mtxt (k + j) = T at *
      go_wp2
      go_region_with (go_at_call 104; refine (C.out _).mono ?_; rintro e w1 ⟨rfl, b1⟩; have hc2 := HCL.out w1 (undrew b1))
      all_goals
        go_wp2
        go_roundw
        case rel => exact ⟨j + 1, by omega, by go_num, by go_num, hb.trans ((undrew b1).mono hbs)⟩
        case measure => simp [intOf]; omega
    · obtain rfl : j = n := by omega
      go_wp2
      go_ret
      exact ⟨rfl, hb⟩
end Go.Proofs.Ytnjplfofcjonhaa
namespace Go.Proofs.Ytnjplfofcjonhaa
open Go.RowKit
set_option linter.unusedVariables false
structure HSh where
  oa : Option Addr
  oc : Nat
  os : List OSh
  wa : Option Addr
  wn : Nat
  wc : Nat
  ba : Option Addr
  bn : Nat
  bc : Nat
  sa : Option Addr
  sn : Nat
  sc : Nat
def HSh.v (s : HSh) : Value := .agg #[.slice s.oa s.os.length s.oc, .slice s.wa s.wn s.wc, .slice s.ba s.bn s.bc, .slice s.sa s.sn s.sc]
structure CanH (w : World) (s : HSh) : Prop where
  o : CanO w s.oa s.os
  ap : ∀ x t, s.oa = some x → t ∈ s.os → 0 < t.n → ∀ y, t.f = some y → y.block ≠ x.block
  wk : CanW w s.wa s.wn
  b : CanI w s.ba s.bn
  st : CanI w s.sa s.sn
  lo : s.os.length ≤ 16777216
  lf : ∀ t ∈ s.os, t.n ≤ 16777216
  lw : s.wn ≤ 16777216
  lb : s.bn ≤ 16777216
  ls : s.sn ≤ 16777216
def HSh.k1 (s : HSh) : Int := 1 + (cntO s.os : Int)
def HSh.k2 (s : HSh) : Int := s.k1 + 2 * (s.wn : Int)
def HSh.k3 (s : HSh) : Nat := 1 + cntO s.os + 2 * s.wn + s.bn
def markL (s : HSh) : Sts := mkO s.oa s.os 1 ++ (mkW s.wa s.k1 s.wn ++ (mkI s.ba s.k2 s.bn ++ mkS s.sa s.k3 s.sn))
theorem canI_later {w w' : World} {a : Option Addr} {n : Nat} (h : CanI w a n) (hb : Below w.heap.size w w') : CanI w' a n := by
  intro j hj
  obtain ⟨g, off, h1, h2, ⟨x, h3⟩, h4⟩ := h j hj
  exact ⟨g, off, h1, Nat.lt_of_lt_of_le h2 hb.size, ⟨x, (hb.cell (p := ⟨g, off + j, none⟩) h2).trans h3⟩, (hb.frozen (p := ⟨g, off + j, none⟩) h2).trans h4⟩
theorem canW_later {w w' : World} {a : Option Addr} {n : Nat} (h : CanW w a n) (hb : Below w.heap.size w w') : CanW w' a n := by
  intro j hj
  obtain ⟨g, off, h1, h2, ⟨x, h3⟩, h4, ⟨y, h5⟩, h6⟩ := h j hj
  exact ⟨g, off, h1, Nat.lt_of_lt_of_le h2 hb.size, ⟨x, (hb.cell (p := ⟨g, off + j * 2, none⟩) h2).trans h3⟩, (hb.frozen (p := ⟨g, off + j * 2, none⟩) h2).trans h4, ⟨y, (hb.cell (p := ⟨g, off + j * 2 + 1, none⟩) h2).trans h5⟩, (hb.frozen (p := ⟨g, off + j * 2 + 1, none⟩) h2).trans h6⟩
theorem canO_later {w w' : World} {a : Option Addr} {ss : List OSh} (h : CanO w a ss) (hb : Below w.heap.size w w') : CanO w' a ss := by
  intro j hj
  obtain ⟨g, off, h1, h2⟩ := h j hj
  refine ⟨g, off, h1, Nat.lt_of_lt_of_le h2.lt hb.size, fun k hk => ?_, (hb.cell (p := ⟨g, off + j * 8 + 6, none⟩) h2.lt).trans h2.head, canI_later h2.row hb, h2.apart⟩
  obtain ⟨⟨x, hx⟩, hf⟩ := h2.cell k hk
  exact ⟨⟨x, (hb.cell (p := ⟨g, off + j * 8 + k, none⟩) h2.lt).trans hx⟩, (hb.frozen (p := ⟨g, off + j * 8 + k, none⟩) h2.lt).trans hf⟩
theorem canH_later {w w' : World} {s : HSh} (h : CanH w s) (hb : Below w.heap.size w w') : CanH w' s :=
  ⟨canO_later h.o hb, h.ap, canW_later h.wk hb, canI_later h.b hb, canI_later h.st hb, h.lo, h.lf, h.lw, h.lb, h.ls⟩
theorem mkOs_mem (g : Nat) (ss : List OSh) : ∀ p k (q : Addr × Value), q ∈ mkOs g p ss k → ∃ j, ∃ (h : j < ss.length), ∃ k', q ∈ mkO1 g (p + j * 8) ss[j] k' := by
  induction ss with
  | nil => intro p k q h; simp [mkOs] at h
  | cons s r ih =>
    intro p k q h
    rcases List.mem_append.1 h with h | h
    · exact ⟨0, by simp, k, by simpa using h⟩
    · obtain ⟨j, hj, k', hq⟩ := ih _ _ q h
      refine ⟨j + 1, by simp; omega, k', ?_⟩
      rw [show p + (j + 1) * 8 = p + 8 + j * 8 from by omega]
      simpa using hq
theorem mkI_some {w : World} {a : Option Addr} {n : Nat} {k : Int} (h : CanI w a n) (q : Addr × Value) (hq : q ∈ mkI a k n) : ∃ x, w.cell? q.1 = some x := by
  obtain ⟨h1, x, h2, h3⟩ := mkI_block _ _ _ _ hq
  rw [h2] at hq
  unfold mkI at hq
  obtain ⟨j, hj, rfl⟩ := List.mem_map.1 hq
  obtain ⟨g', off', e', _, hx, _⟩ := h j (List.mem_range.1 hj)
  rw [h2] at e'; injection e' with e'; subst e'
  exact hx
theorem mkOs_some {w : World} {g off : Nat} {sp : Option Nat} {ss : List OSh} {k : Int} (h : CanO w (some ⟨g, off, sp⟩) ss) (q : Addr × Value) (hq : q ∈ mkOs g off ss k) : ∃ x, w.cell? q.1 = some x := by
  obtain ⟨j, hj, k', hq⟩ := mkOs_mem g ss off k q hq
  obtain ⟨g', off', e, hc⟩ := h j hj
  injection e with e; injection e with e1 e2 e3; subst e1 e2
  unfold mkO1 at hq
  rcases List.mem_append.1 hq with hq | hq
  · simp only [List.mem_cons, List.not_mem_nil, or_false] at hq
    rcases hq with rfl | rfl | rfl | rfl | rfl | rfl
    · exact (hc.cell 0 (by omega)).1
    · exact (hc.cell 1 (by omega)).1
    · exact (hc.cell 2 (by omega)).1
    · exact (hc.cell 3 (by omega)).1
    · exact (hc.cell 4 (by omega)).1
    · exact (hc.cell 5 (by omega)).1
  · rcases List.mem_append.1 hq with hq | hq
    · exact mkI_some hc.row q hq
    · simp only [List.mem_singleton] at hq
      subst hq
      exact (hc.cell 7 (by omega)).1
theorem canI_lt {w : World} {a : Option Addr} {n : Nat} (h : CanI w a n) (hn : 0 < n) (x : Addr) (hx : a = some x) : x.block < w.heap.size := by
  obtain ⟨g, off, h1, h2, _⟩ := h 0 hn
  rw [hx] at h1; injection h1 with h1; rw [h1]; exact h2
theorem markL_lt {w : World} {s : HSh} (h : CanH w s) : ∀ q ∈ markL s, q.1.block < w.heap.size ∧ ∃ x, w.cell? q.1 = some x := by
  intro q hq
  unfold markL at hq
  rcases List.mem_append.1 hq with hq | hq
  · cases ho : s.oa with
    | none => rw [ho] at hq; simp [mkO] at hq
    | some x =>
      obtain ⟨xg, xo, xs⟩ := x
      rw [ho] at hq
      unfold mkO at hq
      simp only at hq
      have HO := h.o
      rw [ho] at HO
      rcases mkOs_where xg s.os xo 1 q hq with ⟨j, i, h1, h2, h3, h4⟩ | ⟨t, h1, h2, y, h3, h4⟩
      · obtain ⟨g, off, e, hc⟩ := HO j h1
        injection e with e
        injection e with e1 e2 e3
        subst e1 e2
        rw [h4]
        exact ⟨hc.lt, (hc.cell i h2).1⟩
      · obtain ⟨j, hj, rfl⟩ := List.mem_iff_getElem.1 h1
        obtain ⟨g, off, e, hc⟩ := HO j hj
        refine ⟨by rw [h4]; exact canI_lt hc.row h2 y h3, ?_⟩
        -- an entry of a row of fields
        exact mkOs_some HO q hq
  · rcases List.mem_append.1 hq with hq | hq
    · obtain ⟨h1, x, h2, h3⟩ := mkW_block _ _ _ _ hq
      obtain ⟨g, off, e, hg, _⟩ := h.wk 0 h1
      rw [h2] at e; injection e with e
      refine ⟨by rw [h3, e]; exact hg, ?_⟩
      rw [h2, e] at hq
      unfold mkW at hq
      obtain ⟨j, hj, hq⟩ := List.mem_flatMap.1 hq
      obtain ⟨g', off', e', _, hx, _, hy, _⟩ := h.wk j (List.mem_range.1 hj)
      rw [h2, e] at e'; injection e' with e'; injection e' with e1 e2; subst e1 e2
      simp only [List.mem_cons, List.not_mem_nil, or_false] at hq
      rcases hq with rfl | rfl
      · exact hx
      · exact hy
    · rcases List.mem_append.1 hq with hq | hq
      · obtain ⟨h1, x, h2, h3⟩ := mkI_block _ _ _ _ hq
        refine ⟨by rw [h3]; exact canI_lt h.b h1 x h2, ?_⟩
        rw [h2] at hq
        unfold mkI at hq
        obtain ⟨j, hj, rfl⟩ := List.mem_map.1 hq
        obtain ⟨g', off', e', _, hx, _⟩ := h.b j (List.mem_range.1 hj)
        rw [h2] at e'; injection e' with e'; subst e'
        exact hx
      · obtain ⟨h1, x, h2, h3⟩ := mkS_block _ _ _ _ hq
        refine ⟨by rw [h3]; exact canI_lt h.st h1 x h2, ?_⟩
        rw [h2] at hq
        unfold mkS at hq
        obtain ⟨j, hj, rfl⟩ := List.mem_map.1 hq
        obtain ⟨g', off', e', _, hx, _⟩ := h.st j (List.mem_range.1 hj)
        rw [h2] at e'; injection e' with e'; subst e'
        exact hx
end Go.Proofs.Ytnjplfofcjonhaa
namespace Go.Proofs.Ytnjplfofcjonhaa
open Go.RowKit
theorem rdH_form {w : World} {v : Value} {H : HeapD} (r : RdH w v H) : ∃ a0 n0 k0 a1 n1 k1 a2 n2 k2 a3 n3 k3, v = .agg #[.slice a0 n0 k0, .slice a1 n1 k1, .slice a2 n2 k2, .slice a3 n3 k3] := by
  obtain ⟨ao, co, aw, cw, ab, cb, sa, sc, h, _⟩ := r
  exact ⟨_, _, _, _, _, _, _, _, _, _, _, _, h⟩
end Go.Proofs.Ytnjplfofcjonhaa
namespace Go.Proofs.Ytnjplfofcjonhaa
open Go.RowKit
set_option linter.unusedVariables false
theorem cntO_bd (ss : List OSh) (h1 : ss.length ≤ 16777216) (h2 : ∀ t ∈ ss, t.n ≤ 16777216) : cntO ss ≤ 16777216 * (7 + 16777216) :=
  Nat.le_trans (cntO_le ss 16777216 h2) (Nat.mul_le_mul_right _ h1)
theorem four_stored (w : World) (t : TypeId) (x0 x1 x2 x3 : Value) (L : Sts) (hL : ∀ q ∈ L, q.1.block < w.heap.size) (X : World) (hX : X = stores (w.alloc (.cells #[x0, x1, x2, x3] t)) L) :
    X.cell? ⟨w.heap.size, 0, none⟩ = some x0 ∧ X.cell? ⟨w.heap.size, 1, none⟩ = some x1 ∧ X.cell? ⟨w.heap.size, 2, none⟩ = some x2 ∧ X.cell? ⟨w.heap.size, 3, none⟩ = some x3 := by
  have h : ∀ k, X.cell? ⟨w.heap.size, k, none⟩ = (#[x0, x1, x2, x3] : Array Value)[k]? := fun k => by
    rw [hX, stores_other _ _ (fun q hq e => by have := hL q hq; rw [e] at this; exact Nat.lt_irrefl _ this), World.cell?_alloc_mark]
  exact ⟨h 0, h 1, h 2, h 3⟩
theorem markHeap_st (w : World) (s : HSh) (h : CanH w s) :
    Calls Try.prog 24 #[s.v, .int .i64 1] w fun e w' => e = .returned (.int .i64 ((s.k3 : Int) + (s.sn : Int))) ∧ Below w.heap.size (stores w (markL s)) w' := by
  have hcn := cntO_bd s.os h.lo h.lf
  have hlw := h.lw
  have hlb := h.lb
  have HLT : Hid (∀ q ∈ markL s, q.1.block < w.heap.size) := fun q hq => (markL_lt h q hq).1
  obtain ⟨W, hW⟩ : ∃ W, W = w.alloc (.cells #[.slice s.oa s.os.length s.oc, .slice s.wa s.wn s.wc, .slice s.ba s.bn s.bc, .slice s.sa s.sn s.sc] 29) := ⟨_, rfl⟩
  have BW : Below w.heap.size w W := by rw [hW]; exact (Below.refl _ _).alloc (Nat.le_refl _) _
  have h' := canH_later h BW
  have C1 : Hid (∀ u : Unit, _) := fun (_ : Unit) => markObjS_st W s.oa s.oc s.os 1 h'.o h.lo h.lf (by omega) (by omega) h.ap
  have C2 : Hid (∀ u : Unit, _) := fun (_ : Unit) => markWeakS_st (stores W (mkO s.oa s.os 1)) s.wa s.wn s.wc s.k1 (canW_stores _ h'.wk) h.lw (by unfold HSh.k1; omega) (by unfold HSh.k1; omega)
  have C3 : Hid (∀ u : Unit, _) := fun (_ : Unit) => markIntS_st (stores (stores W (mkO s.oa s.os 1)) (mkW s.wa s.k1 s.wn)) s.ba s.bn s.bc s.k2 (canI_stores _ (canI_stores _ h'.b)) h.lb (by unfold HSh.k2 HSh.k1; omega) (by unfold HSh.k2 HSh.k1; omega)
  have C4 : Hid (∀ u : Unit, _) := fun (_ : Unit) => markStringS_st (stores (stores (stores W (mkO s.oa s.os 1)) (mkW s.wa s.k1 s.wn)) (mkI s.ba s.k2 s.bn)) s.sa s.sn s.sc s.k3 (canI_stores _ (canI_stores _ (canI_stores _ h'.st))) h.ls (by unfold HSh.k3; omega) (by unfold HSh.k3; omega)
  have e1 : (1 : Int) + (cntO s.os : Int) = s.k1 := rfl
  have e2 : s.k1 + 2 * (s.wn : Int) = s.k2 := rfl
  have e3 : s.k2 + (s.bn : Int) = (s.k3 : Int) := by unfold HSh.k2 HSh.k1 HSh.k3; omega
  rw [e1] at C1
  rw [e2] at C2
  rw [e3] at C3
  have F1 : Hid (∀ X, X = stores W (mkO s.oa s.os 1) → _) := fun X hX => four_stored w 29 (.slice s.oa s.os.length s.oc) (.slice s.wa s.wn s.wc) (.slice s.ba s.bn s.bc) (.slice s.sa s.sn s.sc) (mkO s.oa s.os 1) (fun q hq => HLT.out q (List.mem_append_left _ hq)) X (by rw [hX, hW])
  have F2 : Hid (∀ X, X = stores (stores W (mkO s.oa s.os 1)) (mkW s.wa s.k1 s.wn) → _) := fun X hX => four_stored w 29 (.slice s.oa s.os.length s.oc) (.slice s.wa s.wn s.wc) (.slice s.ba s.bn s.bc) (.slice s.sa s.sn s.sc) (mkO s.oa s.os 1 ++ mkW s.wa s.k1 s.wn)
    (fun q hq => HLT.out q (by rcases List.mem_append.1 hq with hq | hq; exact List.mem_append_left _ hq; exact List.mem_append_right _ (List.mem_append_left _ hq))) X (by rw [hX, stores_append, hW])
  have F3 : Hid (∀ X, X = stores (stores (stores W (mkO s.oa s.os 1)) (mkW s.wa s.k1 s.wn)) (mkI s.ba s.k2 s.bn) → _) := fun X hX => four_stored w 29 (.slice s.oa s.os.length s.oc) (.slice s.wa s.wn s.wc) (.slice s.ba s.bn s.bc) (.slice s.sa s.sn s.sc) (mkO s.oa s.os 1 ++ (mkW s.wa s.k1 s.wn ++ mkI s.ba s.k2 s.bn))
    (fun q hq => HLT.out q (by
      rcases List.mem_append.1 hq with hq | hq
      · exact List.mem_append_left _ hq
      · rcases List.mem_append.1 hq with hq | hq
        · exact List.mem_append_right _ (List.mem_append_left _ hq)
        · exact List.mem_append_right _ (List.mem_append_right _ (List.mem_append_left _ hq)))) X (by rw [hX, stores_append, stores_append, hW])
  have HE : Hid (∀ X, Below W.heap.size (stores (stores (stores (stores W (mkO s.oa s.os 1)) (mkW s.wa s.k1 s.wn)) (mkI s.ba s.k2 s.bn)) (mkS s.sa s.k3 s.sn)) X → Below w.heap.size (stores w (markL s)) X) := by
    intro X hX
    have b := stores_both (markL s) BW
    have e : stores W (markL s) = stores (stores (stores (stores W (mkO s.oa s.os 1)) (mkW s.wa s.k1 s.wn)) (mkI s.ba s.k2 s.bn)) (mkS s.sa s.k3 s.sn) := by
      unfold markL; rw [stores_append, stores_append, stores_append]
    rw [e] at b
    exact b.trans (hX.mono BW.size)
  have hS : ∀ (A : World) (L1 L2 L3 : Sts), (stores (stores (stores A L1) L2) L3).heap.size = A.heap.size := fun A L1 L2 L3 => by rw [stores_size, stores_size, stores_size]
  have HS : Hid ((stores (stores (stores W (mkO s.oa s.os 1)) (mkW s.wa s.k1 s.wn)) (mkI s.ba s.k2 s.bn)).heap.size = W.heap.size) := hS _ _ _ _
  rw [HS.out] at C4
  generalize s.k1 = q1 at *
  generalize s.k2 = q2 at *
  generalize s.k3 = q3 at *
  generalize mkO s.oa s.os 1 = L1 at *
  generalize mkW s.wa q1 s.wn = L2 at *
  generalize mkI s.ba q2 s.bn = L3 at *
  generalize mkS s.sa q3 s.sn = L4 at *
  unfold HSh.v
  clear h h' e1 e2 e3 hS HLT
  go_enter Try.func24, Try.ntmps24
  go_wp2_with fail
  rw [← hW]
  refine (C1.out ()).mono ?_
  rintro e w1 ⟨rfl, hw1⟩
  obtain ⟨c0, c1, c2, c3⟩ := F1.out _ hw1
  rw [← hw1] at C2 C3 C4 F2 F3 HE
  clear hW hw1 C1 F1 hcn
  go_wp2_with fail
  refine (C2.out ()).mono ?_
  rintro e w2 ⟨rfl, hw2⟩
  obtain ⟨d0, d1, d2, d3⟩ := F2.out _ hw2
  rw [← hw2] at C3 C4 F3 HE
  clear hw2 C2 F2 c0 c1 c2 c3
  go_wp2_with fail
  refine (C3.out ()).mono ?_
  rintro e w3 ⟨rfl, hw3⟩
  obtain ⟨c0, c1, c2, c3⟩ := F3.out _ hw3
  rw [← hw3] at C4 HE
  clear hw3 C3 F3 d0 d1 d2 d3
  go_wp2_with fail
  refine (C4.out ()).mono ?_
  rintro e w4 ⟨rfl, b4⟩
  go_wp2
  go_ret
  exact ⟨rfl, HE.out _ b4⟩
structure HeldH (w : World) (s : HSh) : Prop where
  all : ∀ q ∈ markL s, w.cell? q.1 = some q.2
  head : ∀ j (h : j < s.os.length), ∃ g off, s.oa = some ⟨g, off, none⟩ ∧ g < w.heap.size ∧ w.cell? ⟨g, off + j * 8 + 6, none⟩ = some (.slice s.os[j].f s.os[j].n s.os[j].c) ∧ (0 < s.os[j].n → ∃ g' off', s.os[j].f = some ⟨g', off', none⟩)
  wk : 0 < s.wn → ∃ g off, s.wa = some ⟨g, off, none⟩
  b : 0 < s.bn → ∃ g off, s.ba = some ⟨g, off, none⟩
  st : 0 < s.sn → ∃ g off, s.sa = some ⟨g, off, none⟩
theorem heldH_later {w w' : World} {s : HSh} (h : HeldH w s) (hb : Below w.heap.size w w') : HeldH w' s := by
  refine ⟨fun q hq => ?_, fun j hj => ?_, h.wk, h.b, h.st⟩
  · rw [hb.cell (World.block_lt_of_cell? w _ (h.all q hq))]; exact h.all q hq
  · obtain ⟨g, off, h1, h2, h3, h4⟩ := h.head j hj
    exact ⟨g, off, h1, Nat.lt_of_lt_of_le h2 hb.size, (hb.cell (p := ⟨g, off + j * 8 + 6, none⟩) h2).trans h3, h4⟩
theorem heldHeap_at (w : World) (s : HSh) (h : HeldH w s) (hl : s.os.length ≤ 16777216 ∧ (∀ t ∈ s.os, t.n ≤ 16777216) ∧ s.wn ≤ 16777216 ∧ s.bn ≤ 16777216 ∧ s.sn ≤ 16777216) :
    Calls Try.prog 26 #[s.v, .int .i64 1] w fun e w' => e = .returned (.int .i64 ((s.k3 : Int) + (s.sn : Int))) ∧ Below w.heap.size w w' := by
  obtain ⟨lo, lf, lw, lb, ls⟩ := hl
  have hcn := cntO_bd s.os lo lf
  obtain ⟨W, hW⟩ : ∃ W, W = w.alloc (.cells #[.slice s.oa s.os.length s.oc, .slice s.wa s.wn s.wc, .slice s.ba s.bn s.bc, .slice s.sa s.sn s.sc] 29) := ⟨_, rfl⟩
  have BW : Below w.heap.size w W := by rw [hW]; exact (Below.refl _ _).alloc (Nat.le_refl _) _
  have hWs : W.heap.size = w.heap.size + 1 := by rw [hW]; simp
  have HK : Hid (∀ X, Below W.heap.size W X → _) := fun X (hX : Below W.heap.size W X) => four_kept w 29 (.slice s.oa s.os.length s.oc) (.slice s.wa s.wn s.wc) (.slice s.ba s.bn s.bc) (.slice s.sa s.sn s.sc) X (by rw [hWs, hW] at hX; exact hX)
  have H : Hid (∀ X, Below w.heap.size w X → HeldH X s) := fun X hX => heldH_later h hX
  have C1 : Hid (∀ X, Below w.heap.size w X → _) := fun X hX => heldObjS_at X s.oa s.oc s.os 1 (fun q hq => (H.out X hX).all q (List.mem_append_left _ hq)) lo lf (by omega) (by omega) (fun j hj => by
    obtain ⟨g, off, h1, h2, h3, h4⟩ := (H.out X hX).head j hj
    exact ⟨g, off, h1, h3, h4⟩)
  have C2 : Hid (∀ X, Below w.heap.size w X → _) := fun X hX => heldWeakS_at X s.wa s.wn s.wc s.k1 (fun q hq => (H.out X hX).all q (List.mem_append_right _ (List.mem_append_left _ hq))) h.wk lw (by unfold HSh.k1; omega) (by unfold HSh.k1; omega)
  have C3 : Hid (∀ X, Below w.heap.size w X → _) := fun X hX => heldIntS_at X s.ba s.bn s.bc s.k2 (fun q hq => (H.out X hX).all q (List.mem_append_right _ (List.mem_append_right _ (List.mem_append_left _ hq)))) h.b lb (by unfold HSh.k2 HSh.k1; omega) (by unfold HSh.k2 HSh.k1; omega)
  have C4 : Hid (∀ X, Below w.heap.size w X → _) := fun X hX => heldStringS_at X s.sa s.sn s.sc s.k3 (fun q hq => (H.out X hX).all q (List.mem_append_right _ (List.mem_append_right _ (List.mem_append_right _ hq)))) h.st ls (by unfold HSh.k3; omega) (by unfold HSh.k3; omega)
  have e1 : (1 : Int) + (cntO s.os : Int) = s.k1 := rfl
  have e2 : s.k1 + 2 * (s.wn : Int) = s.k2 := rfl
  have e3 : s.k2 + (s.bn : Int) = (s.k3 : Int) := by unfold HSh.k2 HSh.k1 HSh.k3; omega
  have p1 : 0 ≤ s.k1 := by unfold HSh.k1; omega
  have p2 : 0 ≤ s.k2 := by unfold HSh.k2 HSh.k1; omega
  rw [e1] at C1
  rw [e2] at C2
  rw [e3] at C3
  generalize s.k1 = q1 at *
  generalize s.k2 = q2 at *
  generalize s.k3 = q3 at *
  unfold HSh.v
  clear h H e1 e2 e3 hcn
  go_enter Try.func26, Try.ntmps26
  go_wp2_with fail
  rw [← hW]
  refine (C1.out _ BW).mono ?_
  rintro e W1 ⟨rfl, hw1⟩
  subst hw1
  obtain ⟨c0, c1, c2, c3⟩ := HK.out _ (Below.refl _ _)
  clear hW C1
  go_wp2_with fail
  refine (C2.out _ BW).mono ?_
  rintro e w2 ⟨rfl, b2⟩
  have B2 := BW.trans (b2.mono BW.size)
  obtain ⟨d0, d1, d2, d3⟩ := HK.out _ b2
  clear C2 c0 c1 c2 c3
  go_wp2_with fail
  refine (C3.out _ B2).mono ?_
  rintro e W3 ⟨rfl, hw3⟩
  subst hw3
  clear C3
  go_wp2_with fail
  refine (C4.out _ B2).mono ?_
  rintro e w4 ⟨rfl, b4⟩
  have B4 := B2.trans (b4.mono B2.size)
  go_wp2
  go_ret
  exact ⟨rfl, B4⟩
theorem marked_held {w w' : World} {s : HSh} (h : CanH w s) (hn : ((markL s).map (·.1)).Nodup) (hb : Below w.heap.size (stores w (markL s)) w') (hd : ∀ j (hj : j < s.os.length), ∀ g off, s.oa = some ⟨g, off, none⟩ → ∀ q ∈ markL s, q.1 ≠ ⟨g, off + j * 8 + 6, none⟩) : HeldH w' s := by
  refine ⟨fun q hq => ?_, fun j hj => ?_, fun hp => ?_, fun hp => ?_, fun hp => ?_⟩
  · rw [hb.cell (markL_lt h q hq).1]
    exact stores_mem _ hn w (fun p hp => (markL_lt h p hp).2) q hq
  · obtain ⟨g, off, h1, h2⟩ := h.o j hj
    refine ⟨g, off, h1, ?_, ?_, fun hp => ?_⟩
    · have := hb.size; rw [stores_size] at this; exact Nat.lt_of_lt_of_le h2.lt this
    · rw [hb.cell (p := ⟨g, off + j * 8 + 6, none⟩) h2.lt, stores_other _ _ (hd j hj g off h1)]
      exact h2.head
    · obtain ⟨g', off', e, _⟩ := h2.row 0 hp
      exact ⟨g', off', e⟩
  · obtain ⟨g, off, e, _⟩ := h.wk 0 hp; exact ⟨g, off, e⟩
  · obtain ⟨g, off, e, _⟩ := h.b 0 hp; exact ⟨g, off, e⟩
  · obtain ⟨g, off, e, _⟩ := h.st 0 hp; exact ⟨g, off, e⟩
end Go.Proofs.Ytnjplfofcjonhaa
namespace Go.Proofs.Ytnjplfofcjonhaa
open Go.RowKit
set_option linter.unusedVariables false
theorem ownI_can {w : World} {B : Nat} {v : Value} {zs : List Int} (h : ownI w B v zs) : ∃ a c, v = .slice a zs.length c ∧ CanI w a zs.length ∧ ∀ x, a = some x → B ≤ x.block := by
  rcases ownI_form h with ⟨rfl, rfl⟩ | ⟨g, cap, rfl, hB, hg, _, _, HC⟩
  · exact ⟨none, 0, rfl, fun j hj => by simp at hj, fun x hx => by cases hx⟩
  · exact ⟨_, cap, rfl, fun j hj => ⟨g, 0, rfl, hg, ⟨_, by rw [Nat.zero_add]; exact (HC.out j hj).1⟩, by rw [Nat.zero_add]; exact (HC.out j hj).2⟩, fun x hx => by injection hx with hx; subst hx; exact hB⟩
theorem ownS_can {w : World} {B : Nat} {v : Value} {zs : List (List UInt8)} (h : ownS w B v zs) : ∃ a c, v = .slice a zs.length c ∧ CanI w a zs.length ∧ ∀ x, a = some x → B ≤ x.block := by
  rcases ownS_form h with ⟨rfl, rfl⟩ | ⟨g, cap, rfl, hB, hg, _, _, HC⟩
  · exact ⟨none, 0, rfl, fun j hj => by simp at hj, fun x hx => by cases hx⟩
  · exact ⟨_, cap, rfl, fun j hj => ⟨g, 0, rfl, hg, ⟨_, by rw [Nat.zero_add]; exact (HC.out j hj).1⟩, by rw [Nat.zero_add]; exact (HC.out j hj).2⟩, fun x hx => by injection hx with hx; subst hx; exact hB⟩
theorem objAt_some {w : World} {g p : Nat} {o : ObjD} {f : Value} (h : ObjAt w g p o f) : ∀ k, k < 8 → ∃ x, w.cell? ⟨g, p + k, none⟩ = some x := by
  intro k hk
  match k, hk with
  | 0, _ => exact ⟨_, h.c0⟩
  | 1, _ => exact ⟨_, h.c1⟩
  | 2, _ => exact ⟨_, h.c2⟩
  | 3, _ => exact ⟨_, h.c3⟩
  | 4, _ => exact ⟨_, h.c4⟩
  | 5, _ => exact ⟨_, h.c5⟩
  | 6, _ => exact ⟨_, h.c6⟩
  | 7, _ => exact ⟨_, h.c7⟩
theorem laidO_can {w : World} {g : Nat} {os : List ObjD} (h : LaidO w g os os.length) (hg : g < w.heap.size) :
    ∃ ss : List OSh, ss.length = os.length ∧ CanO w (some ⟨g, 0, none⟩) ss ∧ (∀ t ∈ ss, ∀ y, t.f = some y → g + 1 ≤ y.block) ∧ ∀ i (h1 : i < ss.length) (h2 : i < os.length), ss[i].n = os[i].field.length := by
  have key : ∀ i : Fin os.length, ∃ s : OSh, s.n = os[i].field.length ∧ CanO1 w g (0 + i.1 * 8) s ∧ ∀ y, s.f = some y → g + 1 ≤ y.block := by
    intro i
    obtain ⟨f, h1, h2, h3⟩ := h i.1 i.2 i.2
    obtain ⟨a, c, rfl, h4, h5⟩ := ownI_can h2
    refine ⟨⟨a, _, c⟩, rfl, ⟨hg, fun k hk => ⟨?_, ?_⟩, ?_, h4, fun x hx _ => by have := h5 x hx; omega⟩, h5⟩
    · rw [Nat.zero_add]; exact objAt_some h1 k hk
    · rw [Nat.zero_add]; exact h3 k hk
    · rw [Nat.zero_add]; exact h1.c6
  refine ⟨List.ofFn (fun i => Classical.choose (key i)), by simp, ?_, ?_, ?_⟩
  · intro j hj
    refine ⟨g, 0, rfl, ?_⟩
    rw [List.getElem_ofFn]
    exact (Classical.choose_spec (key ⟨j, by simpa using hj⟩)).2.1
  · intro t ht
    obtain ⟨j, hj, rfl⟩ := List.mem_iff_getElem.1 ht
    rw [List.getElem_ofFn]
    exact (Classical.choose_spec (key ⟨j, by simpa using hj⟩)).2.2
  · intro i h1 h2
    rw [List.getElem_ofFn]
    exact (Classical.choose_spec (key ⟨i, h2⟩)).1
theorem ownH_can {w : World} {B : Nat} {v : Value} {H : HeapD} (h : OwnH w B v H) (hs : SmallH H) : ∃ s : HSh, v = s.v ∧ CanH w s ∧ ∀ q ∈ markL s, B ≤ q.1.block := by
  obtain ⟨go, gw, vb, vs, rfl, b1, h1, h2, b2, h3, h4, h5, h6⟩ := h
  obtain ⟨ss, e1, e2, e3, e4⟩ := laidO_can h2 h1
  obtain ⟨ba, bc, rfl, e5, e6⟩ := ownI_can h5
  obtain ⟨sa, sc, rfl, e7, e8⟩ := ownS_can h6
  have hso := hs.objs
  have hsw := hs.weaks
  have hsb := hs.buffer
  have hss := hs.sites
  refine ⟨⟨some ⟨go, 0, none⟩, H.objs.length, ss, some ⟨gw, 0, none⟩, H.weaks.length, H.weaks.length, ba, H.buffer.length, bc, sa, H.sites.length, sc⟩, by rw [HSh.v, e1], ⟨e2, ?_, ?_, e5, e7, by simp only [e1]; omega, ?_, by simp only; omega, by simp only; omega, by simp only; omega⟩, ?_⟩
  · intro x t hx ht _ y hy
    have := e3 t ht y hy
    injection hx with hx
    subst hx
    simp only; omega
  · intro j hj
    obtain ⟨h7, h8⟩ := h4 j hj hj
    exact ⟨gw, 0, rfl, h3, ⟨_, by rw [Nat.zero_add]; exact h7.c0⟩, by rw [Nat.zero_add]; exact h8 0 (by omega), ⟨_, by rw [Nat.zero_add]; exact h7.c1⟩, by rw [Nat.zero_add]; exact h8 1 (by omega)⟩
  · intro t ht
    obtain ⟨j, hj, rfl⟩ := List.mem_iff_getElem.1 ht
    simp only at hj ⊢
    rw [e4 j hj (by omega)]
    have := hs.fields _ (List.getElem_mem (l := H.objs) (n := j) (by omega))
    omega
  · intro q hq
    unfold markL at hq
    simp only [List.mem_append] at hq
    rcases hq with hq | hq | hq | hq
    · rcases mkOs_where go ss 0 1 q hq with ⟨j, i, _, _, _, e⟩ | ⟨t, ht, _, y, hy, e⟩
      · rw [e]; exact b1
      · have := e3 t ht y hy; rw [e]; omega
    · obtain ⟨_, x, hx, e⟩ := mkW_block _ _ _ _ hq
      injection hx with hx; subst hx; rw [e]; exact b2
    · obtain ⟨_, x, hx, e⟩ := mkI_block _ _ _ _ hq
      rw [e]; exact e6 x hx
    · obtain ⟨_, x, hx, e⟩ := mkS_block _ _ _ _ hq
      rw [e]; exact e8 x hx
end Go.Proofs.Ytnjplfofcjonhaa
namespace Go.Proofs.Ytnjplfofcjonhaa
open Go.RowKit
set_option linter.unusedVariables false
def Ap (a : Option Addr) (n : Nat) (b : Option Addr) (m : Nat) : Prop := 0 < n → 0 < m → ∀ x y, a = some x → b = some y → x.block ≠ y.block
theorem Ap.symm {a b : Option Addr} {n m : Nat} (h : Ap a n b m) : Ap b m a n := fun h1 h2 x y hx hy e => h h2 h1 y x hy hx e.symm
structure SepH (s : HSh) : Prop where
  ow : Ap s.oa s.os.length s.wa s.wn
  ob : Ap s.oa s.os.length s.ba s.bn
  os : Ap s.oa s.os.length s.sa s.sn
  wb : Ap s.wa s.wn s.ba s.bn
  ws : Ap s.wa s.wn s.sa s.sn
  bs : Ap s.ba s.bn s.sa s.sn
  ofl : ∀ t ∈ s.os, Ap s.oa s.os.length t.f t.n
  wf : ∀ t ∈ s.os, Ap s.wa s.wn t.f t.n
  bf : ∀ t ∈ s.os, Ap s.ba s.bn t.f t.n
  sf : ∀ t ∈ s.os, Ap s.sa s.sn t.f t.n
  ff : s.os.Pairwise (fun t u => Ap t.f t.n u.f u.n)
theorem mkO1_nodup (g p : Nat) (s : OSh) (k : Int) (h : 0 < s.n → ∀ x, s.f = some x → x.block ≠ g) : ((mkO1 g p s k).map (·.1)).Nodup := by
  have hI := mkI_nodup s.f (k + 1 + 1 + 1 + 1 + 1 + 1) s.n
  have hb : ∀ a ∈ (mkI s.f (k + 1 + 1 + 1 + 1 + 1 + 1) s.n).map (·.1), a.block ≠ g := by
    intro a ha
    obtain ⟨q, hq, rfl⟩ := List.mem_map.1 ha
    obtain ⟨h1, x, h2, h3⟩ := mkI_block _ _ _ _ hq
    rw [h3]; exact h h1 x h2
  unfold mkO1
  rw [List.map_append, List.map_append]
  generalize (mkI s.f (k + 1 + 1 + 1 + 1 + 1 + 1) s.n).map (·.1) = M at *
  refine List.nodup_append.2 ⟨?_, List.nodup_append.2 ⟨hI, ?_, ?_⟩, ?_⟩
  · simp
  · simp
  · intro a ha b hbm e
    simp only [List.map_cons, List.map_nil, List.mem_singleton] at hbm
    have := hb a ha
    rw [e, hbm] at this
    exact this rfl
  · intro a ha b hbm e
    simp only [List.map_cons, List.map_nil, List.mem_cons, List.not_mem_nil, or_false] at ha
    rcases List.mem_append.1 hbm with hm | hm
    · have := hb b hm
      rw [← e] at this
      rcases ha with rfl | rfl | rfl | rfl | rfl | rfl <;> exact this rfl
    · simp only [List.map_cons, List.map_nil, List.mem_singleton] at hm
      subst hm
      rcases ha with rfl | rfl | rfl | rfl | rfl | rfl <;> simp at e
theorem mkOs_nodup (g : Nat) (ss : List OSh) (h : ∀ t ∈ ss, 0 < t.n → ∀ x, t.f = some x → x.block ≠ g) (hp : ss.Pairwise (fun t u => Ap t.f t.n u.f u.n)) : ∀ p k, ((mkOs g p ss k).map (·.1)).Nodup := by
  induction ss with
  | nil => intro p k; simp [mkOs]
  | cons s r ih =>
    intro p k
    rw [List.pairwise_cons] at hp
    unfold mkOs
    rw [List.map_append]
    refine List.nodup_append.2 ⟨mkO1_nodup g p s k (h s (by simp)), ih (fun t ht => h t (by simp [ht])) hp.2 _ _, ?_⟩
    intro a ha b hb e
    obtain ⟨q, hq, rfl⟩ := List.mem_map.1 ha
    obtain ⟨q2, hq2, rfl⟩ := List.mem_map.1 hb
    rcases mkO1_where g p s k q hq with ⟨i, h1, _, h3⟩ | ⟨h1, x, h2, h3⟩
    · rcases mkOs_where g r _ _ q2 hq2 with ⟨j, i2, _, _, _, h6⟩ | ⟨t, ht, h4, y, h5, h6⟩
      · rw [h3, h6] at e
        simp at e <;> omega
      · have := h t (by simp [ht]) h4 y h5
        rw [← h6, ← e, h3] at this
        exact this rfl
    · rcases mkOs_where g r _ _ q2 hq2 with ⟨j, i2, _, _, _, h6⟩ | ⟨t, ht, h4, y, h5, h6⟩
      · have := h s (by simp) h1 x h2
        rw [← h3, e, h6] at this
        exact this rfl
      · exact hp.1 t ht h1 h4 x y h2 h5 (by rw [← h3, ← h6, e])
theorem mkO_where (s : HSh) (k : Int) (q : Addr × Value) (h : q ∈ mkO s.oa s.os k) : ∃ x, s.oa = some x ∧ ((∃ j i, j < s.os.length ∧ i < 8 ∧ i ≠ 6 ∧ q.1 = ⟨x.block, x.off + j * 8 + i, none⟩) ∨ ∃ t ∈ s.os, 0 < t.n ∧ ∃ y, t.f = some y ∧ q.1.block = y.block) := by
  unfold mkO at h
  cases ho : s.oa with
  | none => rw [ho] at h; simp at h
  | some x =>
    rw [ho] at h
    exact ⟨x, rfl, mkOs_where _ _ _ _ q h⟩
theorem sep_nodup {s : HSh} (h : SepH s) : ((markL s).map (·.1)).Nodup := by
  unfold markL
  rw [List.map_append, List.map_append, List.map_append]
  have hO : ((mkO s.oa s.os 1).map (·.1)).Nodup := by
    unfold mkO
    cases ho : s.oa with
    | none => simp
    | some x =>
      refine mkOs_nodup _ _ (fun t ht h1 y hy => ?_) h.ff _ _
      have hl : 0 < s.os.length := List.length_pos_of_mem ht
      exact fun e => h.ofl t ht hl h1 x y ho hy e.symm
  have key : ∀ (A M : Sts), (∀ q ∈ A, ∀ q2 ∈ M, q.1 ≠ q2.1) → ∀ a ∈ A.map (·.1), ∀ b ∈ M.map (·.1), a ≠ b := by
    intro A M hh a ha b hb
    obtain ⟨q, hq, rfl⟩ := List.mem_map.1 ha
    obtain ⟨q2, hq2, rfl⟩ := List.mem_map.1 hb
    exact hh q hq q2 hq2
  have kO : ∀ (M : Sts) (m : Option Addr) (n : Nat), (∀ q ∈ M, 0 < n ∧ ∃ x, m = some x ∧ q.1.block = x.block) → Ap s.oa s.os.length m n → (∀ t ∈ s.os, Ap m n t.f t.n) → ∀ q ∈ mkO s.oa s.os 1, ∀ q2 ∈ M, q.1 ≠ q2.1 := by
    intro M m n hM h1 h2 q hq q2 hq2 e
    obtain ⟨hn, z, hz, hzb⟩ := hM q2 hq2
    obtain ⟨x, hx, ⟨j, i, hj, _, _, h3⟩ | ⟨t, ht, h4, y, h5, h6⟩⟩ := mkO_where s 1 q hq
    · refine h1 (by omega) hn x z hx hz ?_
      rw [← hzb, ← e, h3]
    · exact h2 t ht hn h4 z y hz h5 (by rw [← hzb, ← h6, e])
  have kR : ∀ (A M : Sts) (a m : Option Addr) (na nm : Nat), (∀ q ∈ A, 0 < na ∧ ∃ x, a = some x ∧ q.1.block = x.block) → (∀ q ∈ M, 0 < nm ∧ ∃ x, m = some x ∧ q.1.block = x.block) → Ap a na m nm → ∀ q ∈ A, ∀ q2 ∈ M, q.1 ≠ q2.1 := by
    intro A M a m na nm hA hM hap q hq q2 hq2 e
    obtain ⟨h1, x, hx, hxb⟩ := hA q hq
    obtain ⟨h2, y, hy, hyb⟩ := hM q2 hq2
    exact hap h1 h2 x y hx hy (by rw [← hxb, ← hyb, e])
  have bW : ∀ q ∈ mkW s.wa s.k1 s.wn, 0 < s.wn ∧ ∃ x, s.wa = some x ∧ q.1.block = x.block := fun q hq => mkW_block _ _ _ _ hq
  have bI : ∀ q ∈ mkI s.ba s.k2 s.bn, 0 < s.bn ∧ ∃ x, s.ba = some x ∧ q.1.block = x.block := fun q hq => mkI_block _ _ _ _ hq
  have bS : ∀ q ∈ mkS s.sa s.k3 s.sn, 0 < s.sn ∧ ∃ x, s.sa = some x ∧ q.1.block = x.block := fun q hq => mkS_block _ _ _ _ hq
  refine List.nodup_append.2 ⟨hO, List.nodup_append.2 ⟨mkW_nodup _ _ _, List.nodup_append.2 ⟨mkI_nodup _ _ _, mkS_nodup _ _ _, key _ _ (kR _ _ _ _ _ _ bI bS h.bs)⟩, ?_⟩, ?_⟩
  · rw [← List.map_append]
    refine key _ _ (fun q hq q2 hq2 => ?_)
    rcases List.mem_append.1 hq2 with hq2 | hq2
    · exact kR _ _ _ _ _ _ bW bI h.wb q hq q2 hq2
    · exact kR _ _ _ _ _ _ bW bS h.ws q hq q2 hq2
  · rw [← List.map_append, ← List.map_append]
    refine key _ _ (fun q hq q2 hq2 => ?_)
    rcases List.mem_append.1 hq2 with hq2 | hq2
    · exact kO _ _ _ bW h.ow h.wf q hq q2 hq2
    · rcases List.mem_append.1 hq2 with hq2 | hq2
      · exact kO _ _ _ bI h.ob h.bf q hq q2 hq2
      · exact kO _ _ _ bS h.os h.sf q hq q2 hq2
theorem sep_head {s : HSh} (h : SepH s) : ∀ j, j < s.os.length → ∀ g off, s.oa = some ⟨g, off, none⟩ → ∀ q ∈ markL s, q.1 ≠ ⟨g, off + j * 8 + 6, none⟩ := by
  intro j hj g off ho q hq e
  unfold markL at hq
  simp only [List.mem_append] at hq
  rcases hq with hq | hq | hq | hq
  · obtain ⟨x, hx, ⟨j2, i, hj2, h1, h2, h3⟩ | ⟨t, ht, h4, y, h5, h6⟩⟩ := mkO_where s 1 q hq
    · rw [ho] at hx; injection hx with hx; subst hx
      rw [e] at h3
      simp at h3
      omega
    · refine h.ofl t ht (by omega) h4 _ y ho h5 ?_
      rw [← h6, e]
  · obtain ⟨h1, x, h2, h3⟩ := mkW_block _ _ _ _ hq
    exact h.ow (by omega) h1 _ x ho h2 (by rw [← h3, e])
  · obtain ⟨h1, x, h2, h3⟩ := mkI_block _ _ _ _ hq
    exact h.ob (by omega) h1 _ x ho h2 (by rw [← h3, e])
  · obtain ⟨h1, x, h2, h3⟩ := mkS_block _ _ _ _ hq
    exact h.os (by omega) h1 _ x ho h2 (by rw [← h3, e])
structure LoH (B : Nat) (s : HSh) : Prop where
  lo : 0 < s.os.length → ∀ x, s.oa = some x → B ≤ x.block
  lw : 0 < s.wn → ∀ x, s.wa = some x → B ≤ x.block
  lb : 0 < s.bn → ∀ x, s.ba = some x → B ≤ x.block
  ls : 0 < s.sn → ∀ x, s.sa = some x → B ≤ x.block
  lf : ∀ t ∈ s.os, 0 < t.n → ∀ x, t.f = some x → B ≤ x.block
theorem lo_mark {B : Nat} {s : HSh} (h : LoH B s) : ∀ q ∈ markL s, B ≤ q.1.block := by
  intro q hq
  unfold markL at hq
  simp only [List.mem_append] at hq
  rcases hq with hq | hq | hq | hq
  · obtain ⟨x, hx, ⟨j2, i, hj2, h1, h2, h3⟩ | ⟨t, ht, h4, y, h5, h6⟩⟩ := mkO_where s 1 q hq
    · rw [h3]; exact h.lo (by omega) x hx
    · rw [h6]; exact h.lf t ht h4 y h5
  · obtain ⟨h1, x, h2, h3⟩ := mkW_block _ _ _ _ hq
    rw [h3]; exact h.lw h1 x h2
  · obtain ⟨h1, x, h2, h3⟩ := mkI_block _ _ _ _ hq
    rw [h3]; exact h.lb h1 x h2
  · obtain ⟨h1, x, h2, h3⟩ := mkS_block _ _ _ _ hq
    rw [h3]; exact h.ls h1 x h2
structure MemH (w : World) (B : Nat) (s : HSh) (H : HeapD) : Prop where
  rd : RdH w s.v H
  can : CanH w s
  sep : SepH s
  lo : LoH B s
theorem memH_held {w w' : World} {B : Nat} {s : HSh} {H : HeapD} (h : MemH w B s H) (hb : Below w.heap.size (stores w (markL s)) w') : HeldH w' s :=
  marked_held h.can (sep_nodup h.sep) hb (sep_head h.sep)
def KeepB (B : Nat) (w w' : World) : Prop := w.heap.size ≤ w'.heap.size ∧ ∀ g, B ≤ g → g < w.heap.size → w'.heap[g]? = w.heap[g]?
theorem keepB_set (B : Nat) (w : World) (p : Addr) (u : Value) (h : p.block < B) : KeepB B w (w.setCell p u) :=
  ⟨by simp [World.setCell], fun g hg _ => heap_setCell_other w p g u (by omega)⟩
theorem KeepB.trans {B : Nat} {a b c : World} (h1 : KeepB B a b) (h2 : KeepB B b c) : KeepB B a c :=
  ⟨Nat.le_trans h1.1 h2.1, fun g hg hl => (h2.2 g hg (Nat.lt_of_lt_of_le hl h1.1)).trans (h1.2 g hg hl)⟩
theorem KeepB.cell {B : Nat} {w w' : World} (h : KeepB B w w') {p : Addr} (hp : B ≤ p.block) (hl : p.block < w.heap.size) : w'.cell? p = w.cell? p := World.cell?_of_block (h.2 _ hp hl)
theorem KeepB.frozen {B : Nat} {w w' : World} (h : KeepB B w w') {p : Addr} (hp : B ≤ p.block) (hl : p.block < w.heap.size) : w'.frozen? p = w.frozen? p := World.frozen?_of_block (h.2 _ hp hl)
theorem memH_mk {w : World} {B : Nat} {s : HSh} {H : HeapD} (l1 : H.objs.length = s.os.length) (l2 : H.weaks.length = s.wn) (l3 : H.buffer.length = s.bn) (l4 : H.sites.length = s.sn) (h1 : RdO w s.oa H.objs) (h2 : RdW w s.wa H.weaks) (h3 : RdI w s.ba H.buffer) (h4 : RdS w s.sa H.sites)
    (hc : CanH w s) (hs : SepH s) (hl : LoH B s) : MemH w B s H :=
  ⟨⟨_, _, _, _, _, _, _, _, by rw [l1, l2, l3, l4]; rfl, h1, h2, h3, h4⟩, hc, hs, hl⟩
end Go.Proofs.Ytnjplfofcjonhaa
namespace Go.Proofs.Ytnjplfofcjonhaa
open Go.RowKit
set_option linter.unusedVariables false
set_option maxRecDepth 100000
def Dif (a b : Option Addr) : Prop := ∀ x y, a = some x → b = some y → x.block ≠ y.block
theorem Dif.symm {a b : Option Addr} (h : Dif a b) : Dif b a := fun x y hx hy e => h y x hy hx e.symm
theorem Dif.ap {a b : Option Addr} (h : Dif a b) (n m : Nat) : Ap a n b m := fun _ _ x y hx hy => h x y hx hy
structure SepX (s : HSh) : Prop where
  ow : Dif s.oa s.wa
  ob : Dif s.oa s.ba
  os : Dif s.oa s.sa
  wb : Dif s.wa s.ba
  ws : Dif s.wa s.sa
  bs : Dif s.ba s.sa
  fo : ∀ t ∈ s.os, Dif s.oa t.f
  fw : ∀ t ∈ s.os, Dif s.wa t.f
  fb : ∀ t ∈ s.os, Dif s.ba t.f
  fs : ∀ t ∈ s.os, Dif s.sa t.f
  ff : s.os.Pairwise (fun t u => Dif t.f u.f)
structure HM (w : World) (B : Nat) (s : HSh) (H : HeapD) : Prop where
  lo : s.os.length = H.objs.length
  lw : s.wn = H.weaks.length
  lb : s.bn = H.buffer.length
  ls : s.sn = H.sites.length
  o : ∀ j (h : j < H.objs.length) (h2 : j < s.os.length), ∃ g, s.oa = some ⟨g, 0, none⟩ ∧ ObjAt w g (j * 8) H.objs[j] (.slice s.os[j].f s.os[j].n s.os[j].c) ∧ ∀ k, k < 8 → w.frozen? ⟨g, j * 8 + k, none⟩ = false
  f : ∀ j (h : j < H.objs.length) (h2 : j < s.os.length), s.os[j].n = H.objs[j].field.length ∧ ownI w B (.slice s.os[j].f s.os[j].n s.os[j].c) H.objs[j].field
  og : ∀ x, s.oa = some x → B ≤ x.block ∧ x.block < w.heap.size
  wk : ∀ j (h : j < H.weaks.length), ∃ g, s.wa = some ⟨g, 0, none⟩ ∧ WeakAt w g (j * 2) H.weaks[j] ∧ ∀ k, k < 2 → w.frozen? ⟨g, j * 2 + k, none⟩ = false
  wg : ∀ x, s.wa = some x → B ≤ x.block ∧ x.block < w.heap.size
  b : ownI w B (.slice s.ba s.bn s.bc) H.buffer
  st : ownS w B (.slice s.sa s.sn s.sc) H.sites
  sep : SepX s
def HasB (s : HSh) (g : Nat) : Prop := (∃ x, s.oa = some x ∧ x.block = g) ∨ (∃ x, s.wa = some x ∧ x.block = g) ∨ (∃ x, s.ba = some x ∧ x.block = g) ∨ (∃ x, s.sa = some x ∧ x.block = g) ∨ ∃ t ∈ s.os, ∃ x, t.f = some x ∧ x.block = g
theorem own_block {a : Option Addr} {n c : Nat} {x : Addr} (h : a = some x) : (Value.slice a n c).ownBlock = some x.block := by rw [h]; rfl
theorem own_some {a : Option Addr} {n c g : Nat} (h : (Value.slice a n c).ownBlock = some g) : ∃ x, a = some x ∧ x.block = g := by
  cases a with
  | none => simp [Value.ownBlock] at h
  | some x => exact ⟨x, rfl, by simpa [Value.ownBlock] using h⟩
theorem hm_bl {w : World} {B : Nat} {s : HSh} {H : HeapD} (h : HM w B s H) {g : Nat} (hg : HasB s g) : B ≤ g ∧ g < w.heap.size := by
  rcases hg with ⟨x, hx, rfl⟩ | ⟨x, hx, rfl⟩ | ⟨x, hx, rfl⟩ | ⟨x, hx, rfl⟩ | ⟨t, ht, x, hx, rfl⟩
  · exact h.og x hx
  · exact h.wg x hx
  · exact ownI_lt h.b _ (own_block hx)
  · exact ownS_lt h.st _ (own_block hx)
  · obtain ⟨j, hj, rfl⟩ := List.mem_iff_getElem.1 ht
    exact ownI_lt (h.f j (by rw [← h.lo]; exact hj) hj).2 _ (own_block hx)
theorem ownI_same {w w' : World} {B : Nat} {v : Value} {zs : List Int} (h : ownI w B v zs) (hs : ∀ g, v.ownBlock = some g → w'.heap[g]? = w.heap[g]?) : ownI w' B v zs := by
  rcases h with ⟨h1, h2 | ⟨g, cap, cur, h2, h3, h4, h5⟩⟩
  · exact ⟨h1, .inl h2⟩
  · exact ⟨h1, .inr ⟨g, cap, cur, h2, h3, by rw [hs g (by rw [h2]; rfl)]; exact h4, h5⟩⟩
theorem ownS_same {w w' : World} {B : Nat} {v : Value} {zs : List (List UInt8)} (h : ownS w B v zs) (hs : ∀ g, v.ownBlock = some g → w'.heap[g]? = w.heap[g]?) : ownS w' B v zs := by
  rcases h with ⟨h1, h2 | ⟨g, cap, cur, h2, h3, h4, h5⟩⟩
  · exact ⟨h1, .inl h2⟩
  · exact ⟨h1, .inr ⟨g, cap, cur, h2, h3, by rw [hs g (by rw [h2]; rfl)]; exact h4, h5⟩⟩
theorem objAt_same {w w' : World} {g p : Nat} {o : ObjD} {f : Value} (h : ObjAt w g p o f) (hs : w'.heap[g]? = w.heap[g]?) : ObjAt w' g p o f := h.keep (fun k => World.cell?_of_block (a := ⟨g, k, none⟩) hs)
theorem hm_same {w w' : World} {B : Nat} {s : HSh} {H : HeapD} (h : HM w B s H) (hsz : w.heap.size ≤ w'.heap.size) (hs : ∀ g, HasB s g → w'.heap[g]? = w.heap[g]?) : HM w' B s H where
  lo := h.lo
  lw := h.lw
  lb := h.lb
  ls := h.ls
  o := fun j hj hj2 => by
    obtain ⟨g, h1, h2, h3⟩ := h.o j hj hj2
    have hg := hs g (.inl ⟨_, h1, rfl⟩)
    exact ⟨g, h1, objAt_same h2 hg, fun k hk => (World.frozen?_of_block (a := ⟨g, j * 8 + k, none⟩) hg).trans (h3 k hk)⟩
  f := fun j hj hj2 => ⟨(h.f j hj hj2).1, ownI_same (h.f j hj hj2).2 (fun g hg => by obtain ⟨x, hx, e⟩ := own_some hg; exact hs g (.inr (.inr (.inr (.inr ⟨_, List.getElem_mem hj2, x, hx, e⟩)))))⟩
  og := fun x hx => ⟨(h.og x hx).1, Nat.lt_of_lt_of_le (h.og x hx).2 hsz⟩
  wk := fun j hj => by
    obtain ⟨g, h1, h2, h3⟩ := h.wk j hj
    have hg := hs g (.inr (.inl ⟨_, h1, rfl⟩))
    exact ⟨g, h1, h2.keep (fun k => World.cell?_of_block (a := ⟨g, k, none⟩) hg), fun k hk => (World.frozen?_of_block (a := ⟨g, j * 2 + k, none⟩) hg).trans (h3 k hk)⟩
  wg := fun x hx => ⟨(h.wg x hx).1, Nat.lt_of_lt_of_le (h.wg x hx).2 hsz⟩
  b := ownI_same h.b (fun g hg => by obtain ⟨x, hx, e⟩ := own_some hg; exact hs g (.inr (.inr (.inl ⟨x, hx, e⟩))))
  st := ownS_same h.st (fun g hg => by obtain ⟨x, hx, e⟩ := own_some hg; exact hs g (.inr (.inr (.inr (.inl ⟨x, hx, e⟩)))))
  sep := h.sep
theorem hm_later {w w' : World} {B : Nat} {s : HSh} {H : HeapD} (h : HM w B s H) (hb : Below w.heap.size w w') : HM w' B s H := hm_same h hb.size (fun g hg => hb.block g (hm_bl h hg).2)
theorem hm_keepB {w w' : World} {B : Nat} {s : HSh} {H : HeapD} (h : HM w B s H) (hb : KeepB B w w') : HM w' B s H := hm_same h hb.1 (fun g hg => hb.2 g (hm_bl h hg).1 (hm_bl h hg).2)
theorem hm_mono {w : World} {B C : Nat} {s : HSh} {H : HeapD} (h : HM w B s H) (hC : C ≤ B) : HM w C s H where
  lo := h.lo
  lw := h.lw
  lb := h.lb
  ls := h.ls
  o := h.o
  f := fun j hj hj2 => ⟨(h.f j hj hj2).1, ownI_mono (h.f j hj hj2).2 hC⟩
  og := fun x hx => ⟨Nat.le_trans hC (h.og x hx).1, (h.og x hx).2⟩
  wk := h.wk
  wg := fun x hx => ⟨Nat.le_trans hC (h.wg x hx).1, (h.wg x hx).2⟩
  b := ownI_mono h.b hC
  st := ownS_mono h.st hC
  sep := h.sep
theorem hm_parts {w : World} {B : Nat} {s : HSh} {H : HeapD} (h : HM w B s H) : RdO w s.oa H.objs ∧ RdW w s.wa H.weaks ∧ RdI w s.ba H.buffer ∧ RdS w s.sa H.sites := by
  refine ⟨fun j hj => ?_, fun j hj => ?_, ?_, ?_⟩
  · have hj2 : j < s.os.length := by rw [h.lo]; exact hj
    obtain ⟨g, h1, h2, _⟩ := h.o j hj hj2
    obtain ⟨h4, h5⟩ := h.f j hj hj2
    obtain ⟨a, c, h6, h7⟩ := rdI_own' h5
    simp only [Value.slice.injEq] at h6
    refine ⟨g, 0, s.os[j].f, s.os[j].c, h1, (h.og _ h1).2, ?_, ?_⟩
    · rw [Nat.zero_add, ← h4]; exact h2
    · rw [h6.1]; exact h7
  · obtain ⟨g, h1, h2, _⟩ := h.wk j hj
    exact ⟨g, 0, h1, (h.wg _ h1).2, by rw [Nat.zero_add]; exact h2⟩
  · obtain ⟨a, c, h6, h7⟩ := rdI_own' h.b
    simp only [Value.slice.injEq] at h6
    rw [h6.1]; exact h7
  · obtain ⟨a, c, h6, h7⟩ := rdS_own h.st
    simp only [Value.slice.injEq] at h6
    rw [h6.1]; exact h7.out
theorem hm_rd {w : World} {B : Nat} {s : HSh} {H : HeapD} (h : HM w B s H) : RdH w s.v H := by
  obtain ⟨h1, h2, h3, h4⟩ := hm_parts h
  exact ⟨_, _, _, _, _, _, _, _, by rw [HSh.v, h.lo, h.lw, h.lb, h.ls], h1, h2, h3, h4⟩
theorem hm_mem {w : World} {B : Nat} {s : HSh} {H : HeapD} (h : HM w B s H) (l0 : H.objs.length ≤ 16777216) (l1 : ∀ z ∈ H.objs, z.field.length ≤ 16777216) (l2 : H.weaks.length ≤ 16777216) (l3 : H.buffer.length ≤ 16777216) (l4 : H.sites.length ≤ 16777216) : MemH w B s H := by
  obtain ⟨h1, h2, h3, h4⟩ := hm_parts h
  have hp := h.sep
  refine memH_mk h.lo.symm h.lw.symm h.lb.symm h.ls.symm h1 h2 h3 h4 ⟨?_, ?_, ?_, ?_, ?_, by rw [h.lo]; exact l0, ?_, by rw [h.lw]; exact l2, by rw [h.lb]; exact l3, by rw [h.ls]; exact l4⟩
    ⟨hp.ow.ap _ _, hp.ob.ap _ _, hp.os.ap _ _, hp.wb.ap _ _, hp.ws.ap _ _, hp.bs.ap _ _, fun t ht => (hp.fo t ht).ap _ _, fun t ht => (hp.fw t ht).ap _ _, fun t ht => (hp.fb t ht).ap _ _, fun t ht => (hp.fs t ht).ap _ _, hp.ff.imp (fun hd => hd.ap _ _)⟩
    ⟨fun _ x hx => (h.og x hx).1, fun _ x hx => (h.wg x hx).1, fun _ x hx => (ownI_lt h.b _ (own_block hx)).1, fun _ x hx => (ownS_lt h.st _ (own_block hx)).1, fun t ht _ x hx => (hm_bl h (.inr (.inr (.inr (.inr ⟨t, ht, x, hx, rfl⟩))))).1⟩
  · intro j hj
    have hj2 : j < H.objs.length := by rw [← h.lo]; exact hj
    obtain ⟨g, e1, e2, e3⟩ := h.o j hj2 hj
    obtain ⟨e4, e5⟩ := h.f j hj2 hj
    obtain ⟨a, c, e6, e7, _⟩ := ownI_can e5
    simp only [Value.slice.injEq] at e6
    refine ⟨g, 0, e1, (h.og _ e1).2, fun k hk => ?_, ?_, ?_, fun x hx _ e => ?_⟩
    · rw [Nat.zero_add]; exact ⟨objAt_some e2 k hk, e3 k hk⟩
    · rw [Nat.zero_add]; exact e2.c6
    · rw [e6.1, e6.2.1]; exact e7
    · exact hp.fo _ (List.getElem_mem hj) _ x e1 hx e.symm
  · intro x t hx ht _ y hy e
    exact hp.fo t ht x y hx hy e.symm
  · intro j hj
    obtain ⟨g, e1, e2, e3⟩ := h.wk j (by rw [← h.lw]; exact hj)
    exact ⟨g, 0, e1, (h.wg _ e1).2, ⟨_, by rw [Nat.zero_add]; exact e2.c0⟩, by rw [Nat.zero_add]; exact e3 0 (by omega), ⟨_, by rw [Nat.zero_add]; exact e2.c1⟩, by rw [Nat.zero_add]; exact e3 1 (by omega)⟩
  · obtain ⟨a, c, e6, e7, _⟩ := ownI_can h.b
    simp only [Value.slice.injEq] at e6
    rw [e6.1, e6.2.1]; exact e7
  · obtain ⟨a, c, e6, e7, _⟩ := ownS_can h.st
    simp only [Value.slice.injEq] at e6
    rw [e6.1, e6.2.1]; exact e7
  · intro t ht
    obtain ⟨j, hj, rfl⟩ := List.mem_iff_getElem.1 ht
    have hj2 : j < H.objs.length := by rw [← h.lo]; exact hj
    rw [(h.f j hj2 hj).1]
    exact l1 _ (List.getElem_mem hj2)
theorem hm_setO {w w' : World} {B : Nat} {s : HSh} {H : HeapD} (h : HM w B s H) (k : Nat) (hk : k < H.objs.length) (g : Nat) (hg : s.oa = some ⟨g, 0, none⟩) (o' : ObjD) (t' : OSh) (hsz : w.heap.size ≤ w'.heap.size) (hblk : ∀ i, i ≠ g → i < w.heap.size → w'.heap[i]? = w.heap[i]?)
    (hobj : ObjAt w' g (k * 8) o' (.slice t'.f t'.n t'.c)) (hoth : ∀ q, q < k * 8 ∨ k * 8 + 8 ≤ q → w'.cell? ⟨g, q, none⟩ = w.cell? ⟨g, q, none⟩) (hfr : ∀ q, w'.frozen? ⟨g, q, none⟩ = w.frozen? ⟨g, q, none⟩)
    (hn : t'.n = o'.field.length) (hown : ownI w' B (.slice t'.f t'.n t'.c) o'.field) (d0 : Dif s.oa t'.f) (d1 : Dif s.wa t'.f) (d2 : Dif s.ba t'.f) (d3 : Dif s.sa t'.f) (d4 : ∀ j (h : j < s.os.length), j ≠ k → Dif s.os[j].f t'.f) :
    HM w' B { s with os := s.os.set k t' } { H with objs := H.objs.set k o' } := by
  have hp := h.sep
  have hmem : ∀ t ∈ s.os.set k t', t = t' ∨ ∃ j, ∃ hj : j < s.os.length, j ≠ k ∧ t = s.os[j] := by
    intro t ht
    obtain ⟨j, hj, rfl⟩ := List.mem_iff_getElem.1 ht
    rw [List.getElem_set]
    split
    · exact .inl rfl
    · rename_i e; exact .inr ⟨j, by simpa using hj, fun e2 => e e2.symm, rfl⟩
  have hin : ∀ {P : OSh → Prop}, (∀ t ∈ s.os, P t) → P t' → ∀ t ∈ s.os.set k t', P t := by
    intro P h1 h2 t ht
    rcases hmem t ht with rfl | ⟨j, hj, _, rfl⟩
    · exact h2
    · exact h1 _ (List.getElem_mem hj)
  have hne : ∀ x, HasB s x → (x ≠ g) → w'.heap[x]? = w.heap[x]? := fun x hx hxg => hblk x hxg (hm_bl h hx).2
  exact {
    lo := by simp [h.lo]
    lw := h.lw
    lb := h.lb
    ls := h.ls
    o := fun j hj hj2 => by
      simp only [List.length_set] at hj hj2
      refine ⟨g, hg, ?_, ?_⟩
      · by_cases e : k = j
        · subst e; simp only [List.getElem_set_self]; exact hobj
        · simp only [List.getElem_set_ne e]
          obtain ⟨g2, h1, h2, _⟩ := h.o j hj hj2
          rw [hg] at h1
          injection h1 with h1; injection h1 with h1 _ _; subst h1
          refine ⟨?_, ?_, ?_, ?_, ?_, ?_, ?_, ?_⟩
          · rw [hoth _ (by omega)]; exact h2.c0
          · rw [hoth _ (by omega)]; exact h2.c1
          · rw [hoth _ (by omega)]; exact h2.c2
          · rw [hoth _ (by omega)]; exact h2.c3
          · rw [hoth _ (by omega)]; exact h2.c4
          · rw [hoth _ (by omega)]; exact h2.c5
          · rw [hoth _ (by omega)]; exact h2.c6
          · rw [hoth _ (by omega)]; exact h2.c7
      · intro q hq
        obtain ⟨g2, h1, _, h3⟩ := h.o j hj hj2
        rw [hg] at h1
        injection h1 with h1; injection h1 with h1 _ _; subst h1
        rw [hfr]; exact h3 q hq
    f := fun j hj hj2 => by
      simp only [List.length_set] at hj hj2
      by_cases e : k = j
      · subst e; simp only [List.getElem_set_self]; exact ⟨hn, hown⟩
      · simp only [List.getElem_set_ne e]
        refine ⟨(h.f j hj hj2).1, ownI_same (h.f j hj hj2).2 (fun x hx => ?_)⟩
        obtain ⟨y, hy, e2⟩ := own_some hx
        refine hne x (.inr (.inr (.inr (.inr ⟨_, List.getElem_mem hj2, y, hy, e2⟩)))) (fun e3 => ?_)
        exact hp.fo _ (List.getElem_mem hj2) _ y hg hy (by simp only; rw [e2, e3])
    og := fun x hx => ⟨(h.og x hx).1, Nat.lt_of_lt_of_le (h.og x hx).2 hsz⟩
    wk := fun j hj => by
      obtain ⟨g2, h1, h2, h3⟩ := h.wk j hj
      have hb := hne g2 (.inr (.inl ⟨_, h1, rfl⟩)) (fun e => hp.ow _ _ hg h1 e.symm)
      exact ⟨g2, h1, h2.keep (fun q => World.cell?_of_block (a := ⟨g2, q, none⟩) hb), fun q hq => (World.frozen?_of_block (a := ⟨g2, j * 2 + q, none⟩) hb).trans (h3 q hq)⟩
    wg := fun x hx => ⟨(h.wg x hx).1, Nat.lt_of_lt_of_le (h.wg x hx).2 hsz⟩
    b := ownI_same h.b (fun x hx => by obtain ⟨y, hy, e2⟩ := own_some hx; exact hne x (.inr (.inr (.inl ⟨y, hy, e2⟩))) (fun e3 => hp.ob _ y hg hy (by simp only; rw [e2, e3])))
    st := ownS_same h.st (fun x hx => by obtain ⟨y, hy, e2⟩ := own_some hx; exact hne x (.inr (.inr (.inr (.inl ⟨y, hy, e2⟩)))) (fun e3 => hp.os _ y hg hy (by simp only; rw [e2, e3])))
    sep := ⟨hp.ow, hp.ob, hp.os, hp.wb, hp.ws, hp.bs, hin hp.fo d0, hin hp.fw d1, hin hp.fb d2, hin hp.fs d3, by
      rw [List.pairwise_iff_getElem]
      intro i j hi hj hij
      simp only [List.length_set] at hi hj
      rw [List.getElem_set, List.getElem_set]
      split
      · rename_i e; subst e
        rw [if_neg (by omega)]
        exact (d4 j hj (by omega)).symm
      · rename_i e
        split
        · exact d4 i hi (fun e2 => e e2.symm)
        · exact (List.pairwise_iff_getElem.1 hp.ff) i j hi hj hij⟩ }
theorem hm_obj {w : World} {B : Nat} {s : HSh} {H : HeapD} (h : HM w B s H) (k : Nat) (hk : k < H.objs.length) (g : Nat) (hg : s.oa = some ⟨g, 0, none⟩) : ∃ hk2 : k < s.os.length, ObjAt w g (k * 8) H.objs[k] (.slice s.os[k].f s.os[k].n s.os[k].c) ∧ ∀ q, q < 8 → w.frozen? ⟨g, k * 8 + q, none⟩ = false := by
  have hk2 : k < s.os.length := by rw [h.lo]; exact hk
  obtain ⟨g2, h1, h2, h3⟩ := h.o k hk hk2
  rw [hg] at h1
  injection h1 with h1; injection h1 with h1 _ _; subst h1
  exact ⟨hk2, h2, h3⟩
theorem hm_own {w : World} {B : Nat} {s : HSh} {H : HeapD} (h : HM w B s H) (k : Nat) (hk : k < H.objs.length) : ∃ g, s.oa = some ⟨g, 0, none⟩ ∧ B ≤ g ∧ g < w.heap.size := by
  obtain ⟨g, h1, _⟩ := h.o k hk (by rw [h.lo]; exact hk)
  exact ⟨g, h1, h.og _ h1⟩
theorem hm_cell {w : World} {B : Nat} {s : HSh} {H : HeapD} (h : HM w B s H) (k : Nat) (hk : k < H.objs.length) (g : Nat) (hg : s.oa = some ⟨g, 0, none⟩) (i : Nat) (u : Value) (hi : i < 8) (o' : ObjD) (hf : o'.field = H.objs[k].field)
    (ho : ∀ f, ObjAt w g (k * 8) H.objs[k] f → ObjAt (w.setCell ⟨g, k * 8 + i, none⟩ u) g (k * 8) o' f) : HM (w.setCell ⟨g, k * 8 + i, none⟩ u) B s { H with objs := H.objs.set k o' } := by
  obtain ⟨hk2, h1, h2⟩ := hm_obj h k hk g hg
  have hp := h.sep
  have hm := List.getElem_mem hk2
  have hfk := h.f k hk hk2
  have key := hm_setO (w' := w.setCell ⟨g, k * 8 + i, none⟩ u) h k hk g hg o' s.os[k] (by simp [World.setCell]) (fun j hj _ => heap_setCell_other w _ j u (by simpa using hj)) (ho _ h1)
    (fun q hq => cell_far w g _ _ u (by omega)) (fun q => World.frozen?_setCell _ _ _ _) (by rw [hf]; exact hfk.1)
    (by rw [hf]; exact ownI_same hfk.2 (fun x hx => heap_setCell_other w _ x u (by obtain ⟨y, hy, e⟩ := own_some hx; simp only; intro e2; exact hp.fo _ hm _ y hg hy (by simp only; rw [e, e2]))))
    (hp.fo _ hm) (hp.fw _ hm) (hp.fb _ hm) (hp.fs _ hm)
    (fun j hj hne => by
      rcases Nat.lt_or_gt_of_ne hne with hl | hl
      · exact (List.pairwise_iff_getElem.1 hp.ff) j k hj hk2 hl
      · exact ((List.pairwise_iff_getElem.1 hp.ff) k j hk2 hj hl).symm)
  rw [List.set_getElem_self] at key
  exact key
theorem hm_count {w : World} {B : Nat} {s : HSh} {H : HeapD} (h : HM w B s H) (k : Nat) (hk : k < H.objs.length) (g : Nat) (hg : s.oa = some ⟨g, 0, none⟩) (z : Int) : HM (w.setCell ⟨g, k * 8 + 5, none⟩ (.int .i64 z)) B s { H with objs := H.objs.set k { H.objs[k] with count := z } } :=
  hm_cell h k hk g hg 5 (.int .i64 z) (by omega) _ rfl (fun f ho =>
    ⟨by rw [cell_far _ _ _ _ _ (by omega)]; exact ho.c0, by rw [cell_far _ _ _ _ _ (by omega)]; exact ho.c1, by rw [cell_far _ _ _ _ _ (by omega)]; exact ho.c2, by rw [cell_far _ _ _ _ _ (by omega)]; exact ho.c3, by rw [cell_far _ _ _ _ _ (by omega)]; exact ho.c4,
     World.cell?_setCell_same w _ _ ho.c5, by rw [cell_far _ _ _ _ _ (by omega)]; exact ho.c6, by rw [cell_far _ _ _ _ _ (by omega)]; exact ho.c7⟩)
theorem hm_purple {w : World} {B : Nat} {s : HSh} {H : HeapD} (h : HM w B s H) (k : Nat) (hk : k < H.objs.length) (g : Nat) (hg : s.oa = some ⟨g, 0, none⟩) (b : Bool) : HM (w.setCell ⟨g, k * 8 + 7, none⟩ (.bool b)) B s { H with objs := H.objs.set k { H.objs[k] with purple := b } } :=
  hm_cell h k hk g hg 7 (.bool b) (by omega) _ rfl (fun f ho =>
    ⟨by rw [cell_far _ _ _ _ _ (by omega)]; exact ho.c0, by rw [cell_far _ _ _ _ _ (by omega)]; exact ho.c1, by rw [cell_far _ _ _ _ _ (by omega)]; exact ho.c2, by rw [cell_far _ _ _ _ _ (by omega)]; exact ho.c3, by rw [cell_far _ _ _ _ _ (by omega)]; exact ho.c4,
     by rw [cell_far _ _ _ _ _ (by omega)]; exact ho.c5, by rw [cell_far _ _ _ _ _ (by omega)]; exact ho.c6, World.cell?_setCell_same w _ _ ho.c7⟩)
def HasB' (s : HSh) (g : Nat) : Prop := (∃ x, s.oa = some x ∧ x.block = g) ∨ (∃ x, s.wa = some x ∧ x.block = g) ∨ (∃ x, s.sa = some x ∧ x.block = g) ∨ ∃ t ∈ s.os, ∃ x, t.f = some x ∧ x.block = g
theorem HasB'.has {s : HSh} {g : Nat} (h : HasB' s g) : HasB s g := by
  rcases h with h | h | h | h
  · exact .inl h
  · exact .inr (.inl h)
  · exact .inr (.inr (.inr (.inl h)))
  · exact .inr (.inr (.inr (.inr h)))
theorem hm_bdif {w : World} {B : Nat} {s : HSh} {H : HeapD} (h : HM w B s H) {g : Nat} (hg : HasB' s g) (x : Addr) (hx : s.ba = some x) : x.block ≠ g := by
  have hp := h.sep
  rcases hg with ⟨y, hy, rfl⟩ | ⟨y, hy, rfl⟩ | ⟨y, hy, rfl⟩ | ⟨t, ht, y, hy, rfl⟩
  · exact hp.ob.symm x y hx hy
  · exact hp.wb.symm x y hx hy
  · exact hp.bs x y hx hy
  · exact hp.fb t ht x y hx hy
theorem hm_buf {w w' : World} {B : Nat} {s : HSh} {H : HeapD} (h : HM w B s H) (hsz : w.heap.size ≤ w'.heap.size) (hs : ∀ g, HasB' s g → w'.heap[g]? = w.heap[g]?) (ba : Option Addr) (bn bc : Nat) (Z : List Int) (hn : bn = Z.length) (hb : ownI w' B (.slice ba bn bc) Z) (hd : ∀ x, ba = some x → ¬ HasB' s x.block) :
    HM w' B { s with ba := ba, bn := bn, bc := bc } { H with buffer := Z } where
  lo := h.lo
  lw := h.lw
  lb := hn
  ls := h.ls
  o := fun j hj hj2 => by
    obtain ⟨g, h1, h2, h3⟩ := h.o j hj hj2
    have hg := hs g (.inl ⟨_, h1, rfl⟩)
    exact ⟨g, h1, objAt_same h2 hg, fun k hk => (World.frozen?_of_block (a := ⟨g, j * 8 + k, none⟩) hg).trans (h3 k hk)⟩
  f := fun j hj hj2 => ⟨(h.f j hj hj2).1, ownI_same (h.f j hj hj2).2 (fun g hg => by obtain ⟨x, hx, e⟩ := own_some hg; exact hs g (.inr (.inr (.inr ⟨_, List.getElem_mem hj2, x, hx, e⟩))))⟩
  og := fun x hx => ⟨(h.og x hx).1, Nat.lt_of_lt_of_le (h.og x hx).2 hsz⟩
  wk := fun j hj => by
    obtain ⟨g, h1, h2, h3⟩ := h.wk j hj
    have hg := hs g (.inr (.inl ⟨_, h1, rfl⟩))
    exact ⟨g, h1, h2.keep (fun k => World.cell?_of_block (a := ⟨g, k, none⟩) hg), fun k hk => (World.frozen?_of_block (a := ⟨g, j * 2 + k, none⟩) hg).trans (h3 k hk)⟩
  wg := fun x hx => ⟨(h.wg x hx).1, Nat.lt_of_lt_of_le (h.wg x hx).2 hsz⟩
  b := hb
  st := ownS_same h.st (fun g hg => by obtain ⟨x, hx, e⟩ := own_some hg; exact hs g (.inr (.inr (.inl ⟨x, hx, e⟩))))
  sep := ⟨h.sep.ow, fun x y hx hy e => hd y hy (.inl ⟨x, hx, e⟩), h.sep.os, fun x y hx hy e => hd y hy (.inr (.inl ⟨x, hx, e⟩)), h.sep.ws, fun x y hx hy e => hd x hx (.inr (.inr (.inl ⟨y, hy, e.symm⟩))), h.sep.fo, h.sep.fw, fun t ht x y hx hy e => hd x hx (.inr (.inr (.inr ⟨t, ht, y, hy, e.symm⟩))), h.sep.fs, h.sep.ff⟩
end Go.Proofs.Ytnjplfofcjonhaa
namespace Go.Proofs.Ytnjplfofcjonhaa
open Go.RowKit
set_option linter.unusedVariables false
set_option maxRecDepth 100000
theorem eqHeap_big (w : World) (v u : Value) (H : HeapD) (h1 : RdH w v H) (h2 : RdH w u H) (m0 : H.objs.length ≤ 16777216) (m1 : ∀ z ∈ H.objs, z.field.length ≤ 16777216) (m2 : H.weaks.length ≤ 16777216) (m3 : H.buffer.length ≤ 16777216) (m4 : H.sites.length ≤ 16777216) :
    Calls Try.prog 22 #[v, u] w fun e w' => e = .returned (.bool true) ∧ Below w.heap.size w w' := by
  obtain ⟨ao, co, aw, cw, ab, cb, sa, sc, rfl, ro, rwk, ri, rs⟩ := h1
  obtain ⟨ao2, co2, aw2, cw2, ab2, cb2, sa2, sc2, rfl, ro2, rwk2, ri2, rs2⟩ := h2
  obtain ⟨W, hW⟩ : ∃ W, W = (w.alloc (.cells #[.slice ao H.objs.length co, .slice aw H.weaks.length cw, .slice ab H.buffer.length cb, .slice sa H.sites.length sc] 29)).alloc (.cells #[.slice ao2 H.objs.length co2, .slice aw2 H.weaks.length cw2, .slice ab2 H.buffer.length cb2, .slice sa2 H.sites.length sc2] 29) := ⟨_, rfl⟩
  have BW : Below w.heap.size w W := by
    rw [hW]
    exact ((Below.refl _ _).alloc (Nat.le_refl _) _).alloc (by simp) _
  have hWs : W.heap.size = w.heap.size + 1 + 1 := by rw [hW]; simp
  have HP : Hid (∀ X, Below W.heap.size W X → ∀ k, X.cell? ⟨w.heap.size, k, none⟩ = (#[Value.slice ao H.objs.length co, .slice aw H.weaks.length cw, .slice ab H.buffer.length cb, .slice sa H.sites.length sc] : Array Value)[k]?) := by
    intro X hX k
    rw [hX.cell (p := ⟨w.heap.size, k, none⟩) (by show w.heap.size < _; omega), hW, World.cell?_alloc_lt _ _ _ (by simp), World.cell?_alloc_mark]
  have HP2 : Hid (∀ X, Below W.heap.size W X → ∀ k, X.cell? ⟨w.heap.size + 1, k, none⟩ = (#[Value.slice ao2 H.objs.length co2, .slice aw2 H.weaks.length cw2, .slice ab2 H.buffer.length cb2, .slice sa2 H.sites.length sc2] : Array Value)[k]?) := by
    intro X hX k
    rw [hX.cell (p := ⟨w.heap.size + 1, k, none⟩) (by show w.heap.size + 1 < _; omega), hW, show w.heap.size + 1 = (w.alloc (.cells #[.slice ao H.objs.length co, .slice aw H.weaks.length cw, .slice ab H.buffer.length cb, .slice sa H.sites.length sc] 29)).heap.size from by simp, World.cell?_alloc_mark]
  have CO : Hid (∀ X, Below w.heap.size w X → _) := fun X hX => eqObjS_calls X ao ao2 co co2 H.objs (rdO_later ro hX) (rdO_later ro2 hX) m0 m1
  have CW : Hid (∀ X, Below w.heap.size w X → _) := fun X hX => eqWeakS_calls X aw aw2 cw cw2 H.weaks (rdW_later rwk hX) (rdW_later rwk2 hX) m2
  have CI : Hid (∀ X, Below w.heap.size w X → _) := fun X hX => eqIntS_rd X ab ab2 cb cb2 H.buffer (rdI_later ri hX) (rdI_later ri2 hX) m3
  have CS : Hid (∀ X, Below w.heap.size w X → _) := fun X hX => eqStringS_rd X sa sa2 sc sc2 H.sites (rdS_later rs hX) (rdS_later rs2 hX) m4
  clear ro rwk ri rs ro2 rwk2 ri2 rs2
  go_enter Try.func22, Try.ntmps22
  go_wp2_with fail
  rw [← hW]
  have B0 := BW
  have T0 : Below W.heap.size W W := Below.refl _ _
  refine (CO.out _ B0).mono ?_
  rintro e w1 ⟨rfl, b1⟩
  have B1 := B0.trans (b1.mono B0.size)
  have T1 := T0.trans (b1.mono T0.size)
  have k1 := HP.out _ T1 1
  have l1 := HP2.out _ T1 1
  simp at k1 l1
  clear hW hWs
  go_wp2_with fail
  refine (CW.out _ B1).mono ?_
  rintro e w2 ⟨rfl, b2⟩
  have B2 := B1.trans (b2.mono B1.size)
  have T2 := T1.trans (b2.mono T1.size)
  have k2 := HP.out _ T2 2
  have l2 := HP2.out _ T2 2
  simp at k2 l2
  clear k1 l1
  go_wp2_with fail
  refine (CI.out _ B2).mono ?_
  rintro e w3 ⟨rfl, b3⟩
  have B3 := B2.trans (b3.mono B2.size)
  have T3 := T2.trans (b3.mono T2.size)
  have k3 := HP.out _ T3 3
  have l3 := HP2.out _ T3 3
  simp at k3 l3
  clear k2 l2
  go_wp2_with fail
  refine (CS.out _ B3).mono ?_
  rintro e w4 ⟨rfl, b4⟩
  have B4 := B3.trans (b4.mono B3.size)
  have T4 := T3.trans (b4.mono T3.size)
  clear k3 l3
  go_wp2
  go_ret
  exact ⟨rfl, B4⟩
end Go.Proofs.Ytnjplfofcjonhaa

namespace Go.Proofs.Ytnjplfofcjonhaa
open Go.RowKit
set_option linter.unusedVariables false
structure LaterW (w : World) where
  on : World
  bel : Below w.heap.size w on
theorem LaterW.some_ (w : World) : Nonempty (LaterW w) := ⟨⟨w, Below.refl _ _⟩⟩
theorem LaterW.step {w : World} (n : LaterW w) {X : World} (h : Below n.on.heap.size n.on X) : ∃ m : LaterW w, X = m.on := ⟨⟨X, n.bel.trans (h.mono n.bel.size)⟩, rfl⟩
theorem wp_region_later {P : Program} {id : Nat} {Q : Exit → Act → World → Prop} {a : Act} {w : World} {l : List Oper} (w0 : World) (hw : Below w0.heap.size w0 w) (hm : P.follows .mixedOrders = true) (hB : Region.lexB .any l.toArray = true)
    (h : wpQuiet P l.toArray (fun X => ∃ n : LaterW w0, X = n.on) (fun a' => ∀ w', (∃ n : LaterW w0, w' = n.on) → Q .normal a' w') l a) : (Code.region id l.toArray true).wp P Q a w :=
  wp_region_quiet (C := fun X => ∃ n : LaterW w0, X = n.on) hm hB ⟨⟨_, hw.drew⟩, rfl⟩ (by simpa using h)
end Go.Proofs.Ytnjplfofcjonhaa
namespace Go.Proofs.Ytnjplfofcjonhaa
open Go.RowKit
set_option linter.unusedVariables false
theorem ready_none {md : Region.Mode} {ops : Array Oper} {l : Array Bool} (h : l.toList.countP (fun b => !b) = 0) : Region.ready md ops l = [] := by
  unfold Region.ready
  rw [List.filter_eq_nil_iff]
  intro i _ hc
  simp only [Bool.and_eq_true, Bool.not_eq_true'] at hc
  have hi : i < l.size := by
    rcases Nat.lt_or_ge i l.size with h1 | h1
    · exact h1
    · simp [h1] at hc
  have h1 : l[i] = false := by have := hc.1; simpa [hi] using this
  have := (List.countP_eq_zero.1 h) (l[i]) (by simp)
  rw [h1] at this
  simp at this
theorem wpAny_inv {P : Program} {ops : Array Oper} {Q : Exit → Act → World → Prop} {md : Region.Mode} (I : Array Bool → Act → World → Prop)
    (hd : ∀ l a w, I l a w → Region.ready md ops l = [] → Q .normal a w)
    (hs : ∀ l a w i, I l a w → i ∈ Region.ready md ops l → wpOp P ops Q i (fun a' w' => I (l.setIfInBounds i true) a' w') a w) :
    ∀ (fuel : Nat) (l : Array Bool) (a : Act) (w : World), l.toList.countP (fun b => !b) ≤ fuel → I l a w → wpAny P md ops Q fuel l a w := by
  intro fuel
  induction fuel with
  | zero =>
    intro l a w hl hI
    have hr := ready_none (md := md) (ops := ops) (l := l) (by omega)
    exact ⟨hr, hd l a w hI hr⟩
  | succ fuel ih =>
    intro l a w hl hI
    refine ⟨hd l a w hI, fun i hi => wpOp_mono (fun a' w' h => ih _ a' w' ?_ h) (hs l a w i hI hi)⟩
    have h0 := (mem_ready.1 hi).1
    have hi2 : i < l.size := by
      rcases Nat.lt_or_ge i l.size with h1 | h1
      · exact h1
      · simp [h1] at h0
    have h1 : l.toList[i]'(by simpa using hi2) = false := by simpa [hi2] using h0
    have h2 : (l.setIfInBounds i true).toList = l.toList.set i true := by simp
    rw [h2]
    have h3 := List.countP_set (p := fun b => !b) (l := l.toList) (i := i) (a := true) (by simpa using hi2)
    have h4 : 0 < l.toList.countP (fun b => !b) := List.countP_pos_iff.2 ⟨false, by rw [← h1]; exact List.getElem_mem _, rfl⟩
    rw [h3, h1]
    simp only [Bool.not_false, Bool.not_true, if_true, Bool.false_eq_true, if_false]
    omega
def dstOf (ops : Array Oper) (i : Nat) : Option Tmp := (ops[i]?).bind (·.dst)
structure Alike (ops : Array Oper) (a0 a : Act) : Prop where
  defers : a.defers = a0.defers
  size : a.tmps.size = a0.tmps.size
  same : ∀ t, (∀ i, dstOf ops i ≠ some t) → a.eval (.tmp t) = a0.eval (.tmp t)
theorem Alike.refl (ops : Array Oper) (a : Act) : Alike ops a a := ⟨rfl, rfl, fun _ _ => rfl⟩
theorem Alike.put {ops : Array Oper} {a0 a : Act} (h : Alike ops a0 a) (i : Nat) (v : Value) : Alike ops a0 (a.put (dstOf ops i) v) := by
  cases hd : dstOf ops i with
  | none => exact h
  | some d =>
    refine ⟨h.defers, by simp [Act.put, h.size], fun t ht => ?_⟩
    rw [← h.same t ht]
    have hne : d ≠ t := fun e => ht i (by rw [hd, e])
    simp [Act.put, Act.eval, Array.getD_eq_getD_getElem?, Array.getElem?_setIfInBounds_ne hne]
theorem eval_put {a : Act} {d t : Tmp} {v : Value} : (a.put (some d) v).eval (.tmp t) = if d = t ∧ d < a.tmps.size then v else a.eval (.tmp t) := by
  by_cases e : d = t
  · subst e
    by_cases hl : d < a.tmps.size
    · simp [Act.put, Act.eval, Array.getD_eq_getD_getElem?, hl]
    · simp [Act.put, Act.eval, Array.getD_eq_getD_getElem?, hl]
  · simp [Act.put, Act.eval, Array.getD_eq_getD_getElem?, Array.getElem?_setIfInBounds_ne e, e]
def goodR (ops : Array Oper) (n sz : Nat) : Bool :=
  ops.size == n + 1 && ((List.range (n + 1)).all fun i => ((ops[i]?).map fun o => o.guard.isNone && o.after.all fun e => !Region.binds .any e || decide (e.on < i)).getD false) &&
  ((List.range n).all fun j => (List.range (n + 1)).any fun i => decide (j < i) && ((ops[i]?).map fun o => o.after.any fun e => Region.binds .any e && e.on == j).getD false) &&
  ((List.range (n + 1)).all fun i => (List.range (n + 1)).all fun j => i == j || (match dstOf ops i, dstOf ops j with | some d, some e => d != e | _, _ => true)) &&
  ((List.range (n + 1)).all fun i => match dstOf ops i with | some d => decide (d < sz) | none => true)
theorem listed_of {ops : Array Oper} {l : Array Bool} {n : Nat} (hord : ∀ i o, ops[i]? = some o → ∀ e ∈ o.after, Region.binds .any e = true → e.on < i) (hl : l.size = n) (hn : ops.size = n) (hr : Region.ready .any ops l = []) : ∀ i, i < n → l.getD i false = true := by
  intro i
  induction i using Nat.strongRecOn with
  | _ i ih =>
    intro hi
    rcases hb : l.getD i false with _ | _
    · exfalso
      obtain ⟨o, ho⟩ : ∃ o, ops[i]? = some o := ⟨ops[i]'(by omega), Array.getElem?_eq_getElem (by omega)⟩
      have hm : i ∈ Region.ready .any ops l := by
        refine mem_ready.2 ⟨?_, o, ho, fun e he hbn => ?_⟩
        · have h1 : i < l.size := by omega
          simp only [Array.getD_eq_getD_getElem?, Array.getElem?_eq_getElem h1, Option.getD_some] at hb ⊢
          exact hb
        · have := hord i o ho e he hbn
          exact ih e.on this (by omega)
      rw [hr] at hm
      cases hm
    · rfl
theorem wp_region_last {P : Program} {id : Nat} {Q : Exit → Act → World → Prop} {a0 : Act} {w0 : World} {ops : Array Oper} (n : Nat) (hm : P.follows .mixedOrders = true) (hg : goodR ops n a0.tmps.size = true)
    (R : Nat → World → Value → Prop) (hmono : ∀ i X Y v, R i X v → Below X.heap.size X Y → R i Y v)
    (hstep : ∀ i o, i < n → ops[i]? = some o → ∀ (a : Act) (X : World), Below w0.heap.size w0 X → Alike ops a0 a → (∀ e ∈ o.after, Region.binds .any e = true → ∀ t, dstOf ops e.on = some t → R e.on X (a.eval (.tmp t))) →
      o.wp P a X (fun a' X' => ∃ v, a' = a.put o.dst v ∧ Below X.heap.size X X' ∧ R i X' v) Q)
    (hlast : ∀ o, ops[n]? = some o → ∀ (a : Act) (X : World), Below w0.heap.size w0 X → Alike ops a0 a → (∀ e ∈ o.after, Region.binds .any e = true → ∀ t, dstOf ops e.on = some t → R e.on X (a.eval (.tmp t))) →
      o.wp P a X (fun a' X' => Q .normal a' X') Q) : (Code.region id ops true).wp P Q a0 w0 := by
  unfold goodR at hg
  simp only [Bool.and_eq_true, beq_iff_eq, List.all_eq_true, List.any_eq_true, List.mem_range, decide_eq_true_eq] at hg
  obtain ⟨⟨⟨⟨hsz, hord⟩, huse⟩, hdis⟩, hin⟩ := hg
  have hord2 : ∀ i o, ops[i]? = some o → o.guard = none ∧ ∀ e ∈ o.after, Region.binds .any e = true → e.on < i := by
    intro i o ho
    have hi : i < n + 1 := by have := (Array.getElem?_eq_some_iff.1 ho).1; omega
    have h := hord i hi
    rw [ho] at h
    simp only [Option.map_some, Option.getD_some, Bool.and_eq_true, Option.isNone_iff_eq_none, Array.all_eq_true'] at h
    refine ⟨h.1, fun e he hb => ?_⟩
    have := h.2 e he
    rw [hb] at this
    simpa using this
  have huse2 : ∀ j, j < n → ∃ i o e, j < i ∧ ops[i]? = some o ∧ e ∈ o.after ∧ Region.binds .any e = true ∧ e.on = j := by
    intro j hj
    obtain ⟨i, hi, hji, h⟩ := huse j hj
    cases ho : ops[i]? with
    | none => rw [ho] at h; simp at h
    | some o =>
      rw [ho] at h
      simp only [Option.map_some, Option.getD_some, Array.any_eq_true'] at h
      obtain ⟨e, he, hb⟩ := h
      simp only [Bool.and_eq_true, beq_iff_eq] at hb
      exact ⟨i, o, e, hji, ho, he, hb.1, hb.2⟩
  have hdis2 : ∀ i j d, i < n + 1 → j < n + 1 → dstOf ops i = some d → dstOf ops j = some d → i = j := by
    intro i j d hi hj h1 h2
    have h := hdis i hi j hj
    rw [h1, h2] at h
    simpa using h
  have hin2 : ∀ i d, i < n + 1 → dstOf ops i = some d → d < a0.tmps.size := by
    intro i d hi h1
    have h := hin i hi
    rw [h1] at h
    simpa using h
  have inR : ∀ {l : Array Bool} {i : Nat}, i ∈ Region.ready .any ops l → l.getD i true = false ∧ ∃ o, ops[i]? = some o ∧ ∀ e ∈ o.after, Region.binds .any e = true → l.getD e.on false = true := fun h => mem_ready.1 h
  refine wp_region_any hm ?_
  refine wpAny_inv (fun l a w => l.size = n + 1 ∧ (∀ i o, ops[i]? = some o → l.getD i false = true → ∀ e ∈ o.after, Region.binds .any e = true → l.getD e.on false = true) ∧
    ((l.getD n false = false ∧ Alike ops a0 a ∧ Below w0.heap.size w0 w ∧ ∀ i, i < n → l.getD i false = true → ∀ t, dstOf ops i = some t → R i w (a.eval (.tmp t))) ∨ ((∀ i, i < n + 1 → l.getD i false = true) ∧ Q .normal a w))) ?_ ?_ _ _ _ _ ?_ ?_
  · rintro l a w ⟨h1, h2, h3⟩ hr
    have hall := listed_of (fun i o ho => (hord2 i o ho).2) h1 hsz hr
    rcases h3 with ⟨h3, _⟩ | ⟨_, h3⟩
    · rw [hall n (by omega)] at h3; cases h3
    · exact h3
  · rintro l a w i ⟨h1, h2, h3⟩ hi
    obtain ⟨hu, o, ho, hdep⟩ := inR hi
    have hil : i < n + 1 := by have := (Array.getElem?_eq_some_iff.1 ho).1; omega
    have hil2 : i < l.size := by omega
    have hset : ∀ j, (l.setIfInBounds i true).getD j false = if i = j then true else l.getD j false := by
      intro j
      by_cases e : i = j
      · subst e; simp [Array.getD_eq_getD_getElem?, hil2]
      · simp [Array.getD_eq_getD_getElem?, Array.getElem?_setIfInBounds_ne e, e]
    have hcl : ∀ k o, ops[k]? = some o → (l.setIfInBounds i true).getD k false = true → ∀ e ∈ o.after, Region.binds .any e = true → (l.setIfInBounds i true).getD e.on false = true := by
      intro k o2 hk hkl e he hb
      rw [hset]
      split
      · rfl
      · rw [hset] at hkl
        split at hkl
        · rename_i hik
          subst hik
          rw [ho] at hk
          injection hk with hk
          subst hk
          exact hdep e he hb
        · exact h2 k o2 hk hkl e he hb
    have hui : l.getD i false = false := by
      simp only [Array.getD_eq_getD_getElem?, Array.getElem?_eq_getElem hil2, Option.getD_some] at hu ⊢
      exact hu
    rcases h3 with ⟨h3, h4, h5, h6⟩ | ⟨h3, _⟩
    rotate_left
    · rw [h3 i hil] at hui; cases hui
    have hdst : dstOf ops i = o.dst := by unfold dstOf; rw [ho]; rfl
    have hdeps : ∀ e ∈ o.after, Region.binds .any e = true → ∀ t, dstOf ops e.on = some t → R e.on w (a.eval (.tmp t)) := by
      intro e he hb t ht
      have h7 := (hord2 i o ho).2 e he hb
      exact h6 e.on (by omega) (hdep e he hb) t ht
    unfold wpOp
    rw [ho]
    simp only [Region.wanted, (hord2 i o ho).1, if_true]
    by_cases hin3 : i < n
    · refine .inl (Oper.wp_mono (fun a' w' h => ?_) (hstep i o hin3 ho a w h5 h4 hdeps))
      obtain ⟨v, rfl, hb, hR⟩ := h
      refine ⟨by simpa using h1, hcl, .inl ⟨?_, by rw [← hdst]; exact h4.put i v, h5.trans (hb.mono h5.size), ?_⟩⟩
      · rw [hset, if_neg (by omega)]; exact h3
      · intro j hj hjl t ht
        rw [← hdst]
        by_cases e : i = j
        · subst e
          rw [ht, eval_put, if_pos ⟨rfl, by rw [h4.size]; exact hin2 i t (by omega) ht⟩]
          exact hR
        · rw [hset, if_neg e] at hjl
          have hne : ∀ d, dstOf ops i = some d → d ≠ t := fun d hd e2 => e (hdis2 i j d (by omega) (by omega) hd (by rw [e2]; exact ht))
          have hev : (a.put (dstOf ops i) v).eval (.tmp t) = a.eval (.tmp t) := by
            cases hd : dstOf ops i with
            | none => rfl
            | some d => rw [eval_put, if_neg (fun h => hne d hd h.1)]
          rw [hev]
          exact hmono j w w' _ (h6 j hj hjl t ht) hb
    · obtain rfl : i = n := by omega
      refine .inl (Oper.wp_mono (fun a' w' h => ?_) (hlast o ho a w h5 h4 hdeps))
      refine ⟨by simpa using h1, hcl, .inr ⟨?_, h⟩⟩
      have key : ∀ m j, j + m = i → (l.setIfInBounds i true).getD j false = true := by
        intro m
        induction m using Nat.strongRecOn with
        | _ m ih =>
          intro j hj
          by_cases e : m = 0
          · rw [hset, if_pos (by omega)]
          · obtain ⟨k, o2, e2, hjk, hk, he2, hb2, hon⟩ := huse2 j (by omega)
            have hk2 : k < i + 1 := by have := (Array.getElem?_eq_some_iff.1 hk).1; omega
            have := hcl k o2 hk (ih (i - k) (by omega) k (by omega)) e2 he2 hb2
            rw [hon] at this
            exact this
      intro j hj
      exact key (i - j) j (by omega)
  · simp [hsz, List.countP_replicate]
  · refine ⟨by simp [hsz], fun i o _ hl => ?_, .inl ⟨?_, Alike.refl _ _, (Below.refl _ _).drew, fun i _ hl => ?_⟩⟩
    · simp only [Array.getD_eq_getD_getElem?, Array.getElem?_replicate] at hl
      split at hl <;> simp at hl
    · simp only [Array.getD_eq_getD_getElem?, Array.getElem?_replicate]
      split <;> rfl
    · simp only [Array.getD_eq_getD_getElem?, Array.getElem?_replicate] at hl
      split at hl <;> simp at hl
def dsIn (ops : Array Oper) (ds : List Nat) : Bool := ops.toList.all fun o => match o.dst with | some d => ds.contains d | none => true
theorem alike_tmps {ops : Array Oper} {a0 a : Act} (h : Alike ops a0 a) (ds : List Nat) (hds : dsIn ops ds = true) :
    ∃ us : Nat → Value, (∀ t, a.eval (.tmp t) = us t) ∧ a = ⟨(a0.tmps.toList.mapIdx fun t v => if ds.contains t then us t else v).toArray, a0.defers⟩ := by
  refine ⟨fun t => a.eval (.tmp t), fun _ => rfl, ?_⟩
  have hds2 : ∀ i d, dstOf ops i = some d → ds.contains d = true := by
    intro i d hd
    unfold dstOf at hd
    cases ho : ops[i]? with
    | none => rw [ho] at hd; simp at hd
    | some o =>
      rw [ho] at hd
      have h1 : o ∈ ops.toList := by simpa using Array.mem_of_getElem? ho
      have h2 := (List.all_eq_true.1 hds) o h1
      simp only [Option.bind_some] at hd
      rw [hd] at h2
      exact h2
  obtain ⟨ts, df⟩ := a
  have h1 := h.defers
  have h2 := h.size
  simp only at h1 h2
  rw [h1]
  congr 1
  apply Array.ext
  · simp [h2]
  · intro i hi1 hi2
    simp only [List.getElem_toArray, List.getElem_mapIdx]
    split
    · simp [Act.eval, Array.getD_eq_getD_getElem?, hi1]
    · rename_i hn
      have := h.same i (fun k hk => hn (hds2 k i hk))
      have h3 : i < a0.tmps.size := by omega
      simp only [Act.eval, Array.getD_eq_getD_getElem?, Array.getElem?_eq_getElem hi1, Array.getElem?_eq_getElem h3, Option.getD_some] at this
      rw [this]
      simp
def notIn (ops : Array Oper) (t : Tmp) : Bool := ops.toList.all fun o => match o.dst with | some d => d != t | none => true
theorem alike_at {ops : Array Oper} {a0 a : Act} (h : Alike ops a0 a) {t : Tmp} (hn : notIn ops t = true) : a.eval (.tmp t) = a0.eval (.tmp t) := by
  refine h.same t (fun i hd => ?_)
  unfold dstOf at hd
  cases ho : ops[i]? with
  | none => rw [ho] at hd; simp at hd
  | some o =>
    rw [ho] at hd
    have h1 : o ∈ ops.toList := by simpa using Array.mem_of_getElem? ho
    have h2 := (List.all_eq_true.1 hn) o h1
    simp only [Option.bind_some] at hd
    rw [hd] at h2
    simp at h2
end Go.Proofs.Ytnjplfofcjonhaa
namespace Go.Proofs.Ytnjplfofcjonhaa
open Go.RowKit
set_option linter.unusedVariables false
structure Been (ops : Array Oper) (n : Nat) (R : Nat → World → Value → Prop) (D : Nat → Nat → Value → Value → Prop) (a : Act) (X : World) (dn : Nat → Prop) : Prop where
  lt : ∀ j, dn j → j < n
  yields : ∀ j, dn j → ∀ t, dstOf ops j = some t → R j X (a.eval (.tmp t))
  pairs : ∀ j k, dn j → dn k → j ≠ k → ∀ t s, dstOf ops j = some t → dstOf ops k = some s → D j k (a.eval (.tmp t)) (a.eval (.tmp s))
theorem wp_region_pair {P : Program} {id : Nat} {Q : Exit → Act → World → Prop} {a0 : Act} {w0 : World} {ops : Array Oper} (n : Nat) (hm : P.follows .mixedOrders = true) (hg : goodR ops n a0.tmps.size = true)
    (R : Nat → World → Value → Prop) (D : Nat → Nat → Value → Value → Prop) (hmono : ∀ i X Y v, R i X v → Below X.heap.size X Y → R i Y v)
    (hstep : ∀ i o, i < n → ops[i]? = some o → ∀ (a : Act) (X : World), Below w0.heap.size w0 X → Alike ops a0 a → ∀ dn : Nat → Prop, Been ops n R D a X dn → (∀ e ∈ o.after, Region.binds .any e = true → dn e.on) →
      o.wp P a X (fun a' X' => ∃ v, a' = a.put o.dst v ∧ Below X.heap.size X X' ∧ R i X' v ∧ ∀ j, dn j → j ≠ i → ∀ t, dstOf ops j = some t → D i j v (a.eval (.tmp t)) ∧ D j i (a.eval (.tmp t)) v) Q)
    (hlast : ∀ o, ops[n]? = some o → ∀ (a : Act) (X : World), Below w0.heap.size w0 X → Alike ops a0 a → ∀ dn : Nat → Prop, Been ops n R D a X dn → (∀ j, j < n → dn j) →
      o.wp P a X (fun a' X' => Q .normal a' X') Q) : (Code.region id ops true).wp P Q a0 w0 := by
  unfold goodR at hg
  simp only [Bool.and_eq_true, beq_iff_eq, List.all_eq_true, List.any_eq_true, List.mem_range, decide_eq_true_eq] at hg
  obtain ⟨⟨⟨⟨hsz, hord⟩, huse⟩, hdis⟩, hin⟩ := hg
  have hord2 : ∀ i o, ops[i]? = some o → o.guard = none ∧ ∀ e ∈ o.after, Region.binds .any e = true → e.on < i := by
    intro i o ho
    have hi : i < n + 1 := by have := (Array.getElem?_eq_some_iff.1 ho).1; omega
    have h := hord i hi
    rw [ho] at h
    simp only [Option.map_some, Option.getD_some, Bool.and_eq_true, Option.isNone_iff_eq_none, Array.all_eq_true'] at h
    refine ⟨h.1, fun e he hb => ?_⟩
    have := h.2 e he
    rw [hb] at this
    simpa using this
  have huse2 : ∀ j, j < n → ∃ i o e, j < i ∧ ops[i]? = some o ∧ e ∈ o.after ∧ Region.binds .any e = true ∧ e.on = j := by
    intro j hj
    obtain ⟨i, hi, hji, h⟩ := huse j hj
    cases ho : ops[i]? with
    | none => rw [ho] at h; simp at h
    | some o =>
      rw [ho] at h
      simp only [Option.map_some, Option.getD_some, Array.any_eq_true'] at h
      obtain ⟨e, he, hb⟩ := h
      simp only [Bool.and_eq_true, beq_iff_eq] at hb
      exact ⟨i, o, e, hji, ho, he, hb.1, hb.2⟩
  have hdis2 : ∀ i j d, i < n + 1 → j < n + 1 → dstOf ops i = some d → dstOf ops j = some d → i = j := by
    intro i j d hi hj h1 h2
    have h := hdis i hi j hj
    rw [h1, h2] at h
    simpa using h
  have hin2 : ∀ i d, i < n + 1 → dstOf ops i = some d → d < a0.tmps.size := by
    intro i d hi h1
    have h := hin i hi
    rw [h1] at h
    simpa using h
  have inR : ∀ {l : Array Bool} {i : Nat}, i ∈ Region.ready .any ops l → l.getD i true = false ∧ ∃ o, ops[i]? = some o ∧ ∀ e ∈ o.after, Region.binds .any e = true → l.getD e.on false = true := fun h => mem_ready.1 h
  refine wp_region_any hm ?_
  refine wpAny_inv (fun l a w => l.size = n + 1 ∧ (∀ i o, ops[i]? = some o → l.getD i false = true → ∀ e ∈ o.after, Region.binds .any e = true → l.getD e.on false = true) ∧
    ((l.getD n false = false ∧ Alike ops a0 a ∧ Below w0.heap.size w0 w ∧ Been ops n R D a w (fun i => i < n ∧ l.getD i false = true)) ∨ ((∀ i, i < n + 1 → l.getD i false = true) ∧ Q .normal a w))) ?_ ?_ _ _ _ _ ?_ ?_
  · rintro l a w ⟨h1, h2, h3⟩ hr
    have hall := listed_of (fun i o ho => (hord2 i o ho).2) h1 hsz hr
    rcases h3 with ⟨h3, _⟩ | ⟨_, h3⟩
    · rw [hall n (by omega)] at h3; cases h3
    · exact h3
  · rintro l a w i ⟨h1, h2, h3⟩ hi
    obtain ⟨hu, o, ho, hdep⟩ := inR hi
    have hil : i < n + 1 := by have := (Array.getElem?_eq_some_iff.1 ho).1; omega
    have hil2 : i < l.size := by omega
    have hset : ∀ j, (l.setIfInBounds i true).getD j false = if i = j then true else l.getD j false := by
      intro j
      by_cases e : i = j
      · subst e; simp [Array.getD_eq_getD_getElem?, hil2]
      · simp [Array.getD_eq_getD_getElem?, Array.getElem?_setIfInBounds_ne e, e]
    have hcl : ∀ k o, ops[k]? = some o → (l.setIfInBounds i true).getD k false = true → ∀ e ∈ o.after, Region.binds .any e = true → (l.setIfInBounds i true).getD e.on false = true := by
      intro k o2 hk hkl e he hb
      rw [hset]
      split
      · rfl
      · rw [hset] at hkl
        split at hkl
        · rename_i hik
          subst hik
          rw [ho] at hk
          injection hk with hk
          subst hk
          exact hdep e he hb
        · exact h2 k o2 hk hkl e he hb
    have hui : l.getD i false = false := by
      simp only [Array.getD_eq_getD_getElem?, Array.getElem?_eq_getElem hil2, Option.getD_some] at hu ⊢
      exact hu
    rcases h3 with ⟨h3, h4, h5, h6⟩ | ⟨h3, _⟩
    rotate_left
    · rw [h3 i hil] at hui; cases hui
    have hdst : dstOf ops i = o.dst := by unfold dstOf; rw [ho]; rfl
    have hdeps : ∀ e ∈ o.after, Region.binds .any e = true → e.on < n ∧ l.getD e.on false = true := by
      intro e he hb
      have h7 := (hord2 i o ho).2 e he hb
      exact ⟨by omega, hdep e he hb⟩
    unfold wpOp
    rw [ho]
    simp only [Region.wanted, (hord2 i o ho).1, if_true]
    by_cases hin3 : i < n
    · refine .inl (Oper.wp_mono (fun a' w' h => ?_) (hstep i o hin3 ho a w h5 h4 _ h6 hdeps))
      obtain ⟨v, rfl, hb, hR, hD⟩ := h
      refine ⟨by simpa using h1, hcl, .inl ⟨?_, by rw [← hdst]; exact h4.put i v, h5.trans (hb.mono h5.size), ?_⟩⟩
      · rw [hset, if_neg (by omega)]; exact h3
      · have hself : ∀ t, dstOf ops i = some t → (a.put (dstOf ops i) v).eval (.tmp t) = v := by
          intro t ht
          rw [ht, eval_put, if_pos ⟨rfl, by rw [h4.size]; exact hin2 i t (by omega) ht⟩]
        have hoth : ∀ j, i ≠ j → j < n → ∀ t, dstOf ops j = some t → (a.put (dstOf ops i) v).eval (.tmp t) = a.eval (.tmp t) := by
          intro j e hj t ht
          have hne : ∀ d, dstOf ops i = some d → d ≠ t := fun d hd e2 => e (hdis2 i j d (by omega) (by omega) hd (by rw [e2]; exact ht))
          cases hd : dstOf ops i with
          | none => rfl
          | some d => rw [eval_put, if_neg (fun h => hne d hd h.1)]
        have hwas : ∀ j, i ≠ j → (l.setIfInBounds i true).getD j false = true → l.getD j false = true := fun j e h => by rw [hset, if_neg e] at h; exact h
        rw [← hdst]
        refine ⟨fun j hj => hj.1, fun j hj t ht => ?_, fun j k hj hk hjk t s ht hs => ?_⟩
        · by_cases e : i = j
          · subst e
            rw [hself t ht]
            exact hR
          · rw [hoth j e hj.1 t ht]
            exact hmono j w w' _ (h6.yields j ⟨hj.1, hwas j e hj.2⟩ t ht) hb
        · by_cases e : i = j
          · subst e
            rw [hself t ht, hoth k hjk hk.1 s hs]
            exact (hD k ⟨hk.1, hwas k hjk hk.2⟩ (fun h => hjk h.symm) s hs).1
          · by_cases e2 : i = k
            · subst e2
              rw [hself s hs, hoth j e hj.1 t ht]
              exact (hD j ⟨hj.1, hwas j e hj.2⟩ hjk t ht).2
            · rw [hoth j e hj.1 t ht, hoth k e2 hk.1 s hs]
              exact h6.pairs j k ⟨hj.1, hwas j e hj.2⟩ ⟨hk.1, hwas k e2 hk.2⟩ hjk t s ht hs
    · obtain rfl : i = n := by omega
      have key : ∀ m j, j + m = i → (l.setIfInBounds i true).getD j false = true := by
        intro m
        induction m using Nat.strongRecOn with
        | _ m ih =>
          intro j hj
          by_cases e : m = 0
          · rw [hset, if_pos (by omega)]
          · obtain ⟨k, o2, e2, hjk, hk, he2, hb2, hon⟩ := huse2 j (by omega)
            have hk2 : k < i + 1 := by have := (Array.getElem?_eq_some_iff.1 hk).1; omega
            have := hcl k o2 hk (ih (i - k) (by omega) k (by omega)) e2 he2 hb2
            rw [hon] at this
            exact this
      have hall : ∀ j, j < i → j < i ∧ l.getD j false = true := fun j hj => ⟨hj, by
        have := key (i - j) j (by omega)
        rw [hset, if_neg (by omega)] at this
        exact this⟩
      refine .inl (Oper.wp_mono (fun a' w' h => ?_) (hlast o ho a w h5 h4 _ h6 hall))
      refine ⟨by simpa using h1, hcl, .inr ⟨?_, h⟩⟩
      intro j hj
      exact key (i - j) j (by omega)
  · simp [hsz, List.countP_replicate]
  · refine ⟨by simp [hsz], fun i o _ hl => ?_, .inl ⟨?_, Alike.refl _ _, (Below.refl _ _).drew, ?_⟩⟩
    · simp only [Array.getD_eq_getD_getElem?, Array.getElem?_replicate] at hl
      split at hl <;> simp at hl
    · simp only [Array.getD_eq_getD_getElem?, Array.getElem?_replicate]
      split <;> rfl
    · have hno : ∀ i, ¬ (i < n ∧ (Array.replicate ops.size false).getD i false = true) := by
        rintro i ⟨_, hl⟩
        simp only [Array.getD_eq_getD_getElem?, Array.getElem?_replicate] at hl
        split at hl <;> simp at hl
      exact ⟨fun i h => h.1, fun i h => absurd h (hno i), fun i j h => absurd h (hno i)⟩
end Go.Proofs.Ytnjplfofcjonhaa
namespace Go.Proofs.Ytnjplfofcjonhaa
open Go.RowKit
set_option linter.unusedVariables false
theorem wp_region_step {P : Program} {id : Nat} {Q : Exit → Act → World → Prop} {a0 : Act} {w0 : World} {ops : Array Oper} (n : Nat) (hm : P.follows .mixedOrders = true) (hg : goodR ops n a0.tmps.size = true)
    (J : (Nat → Prop) → World → Prop) (R : Nat → World → Value → Prop) (D : Nat → Nat → Value → Value → Prop) (hJ : J (fun _ => False) w0.drew)
    (hstep : ∀ i o, i < n → ops[i]? = some o → ∀ (a : Act) (X : World) (dn : Nat → Prop), J dn X → Alike ops a0 a → Been ops n R D a X dn → ¬ dn i → (∀ e ∈ o.after, Region.binds .any e = true → dn e.on) →
      o.wp P a X (fun a' X' => ∃ v, a' = a.put o.dst v ∧ J (fun j => dn j ∨ j = i) X' ∧ R i X' v ∧ ∀ j, dn j → j ≠ i → ∀ t, dstOf ops j = some t → R j X' (a.eval (.tmp t)) ∧ D i j v (a.eval (.tmp t)) ∧ D j i (a.eval (.tmp t)) v) Q)
    (hlast : ∀ o, ops[n]? = some o → ∀ (a : Act) (X : World) (dn : Nat → Prop), J dn X → Alike ops a0 a → Been ops n R D a X dn → (∀ j, j < n → dn j) →
      o.wp P a X (fun a' X' => Q .normal a' X') Q) : (Code.region id ops true).wp P Q a0 w0 := by
  unfold goodR at hg
  simp only [Bool.and_eq_true, beq_iff_eq, List.all_eq_true, List.any_eq_true, List.mem_range, decide_eq_true_eq] at hg
  obtain ⟨⟨⟨⟨hsz, hord⟩, huse⟩, hdis⟩, hin⟩ := hg
  have hord2 : ∀ i o, ops[i]? = some o → o.guard = none ∧ ∀ e ∈ o.after, Region.binds .any e = true → e.on < i := by
    intro i o ho
    have hi : i < n + 1 := by have := (Array.getElem?_eq_some_iff.1 ho).1; omega
    have h := hord i hi
    rw [ho] at h
    simp only [Option.map_some, Option.getD_some, Bool.and_eq_true, Option.isNone_iff_eq_none, Array.all_eq_true'] at h
    refine ⟨h.1, fun e he hb => ?_⟩
    have := h.2 e he
    rw [hb] at this
    simpa using this
  have huse2 : ∀ j, j < n → ∃ i o e, j < i ∧ ops[i]? = some o ∧ e ∈ o.after ∧ Region.binds .any e = true ∧ e.on = j := by
    intro j hj
    obtain ⟨i, hi, hji, h⟩ := huse j hj
    cases ho : ops[i]? with
    | none => rw [ho] at h; simp at h
    | some o =>
      rw [ho] at h
      simp only [Option.map_some, Option.getD_some, Array.any_eq_true'] at h
      obtain ⟨e, he, hb⟩ := h
      simp only [Bool.and_eq_true, beq_iff_eq] at hb
      exact ⟨i, o, e, hji, ho, he, hb.1, hb.2⟩
  have hdis2 : ∀ i j d, i < n + 1 → j < n + 1 → dstOf ops i = some d → dstOf ops j = some d → i = j := by
    intro i j d hi hj h1 h2
    have h := hdis i hi j hj
    rw [h1, h2] at h
    simpa using h
  have hin2 : ∀ i d, i < n + 1 → dstOf ops i = some d → d < a0.tmps.size := by
    intro i d hi h1
    have h := hin i hi
    rw [h1] at h
    simpa using h
  have inR : ∀ {l : Array Bool} {i : Nat}, i ∈ Region.ready .any ops l → l.getD i true = false ∧ ∃ o, ops[i]? = some o ∧ ∀ e ∈ o.after, Region.binds .any e = true → l.getD e.on false = true := fun h => mem_ready.1 h
  refine wp_region_any hm ?_
  refine wpAny_inv (fun l a w => l.size = n + 1 ∧ (∀ i o, ops[i]? = some o → l.getD i false = true → ∀ e ∈ o.after, Region.binds .any e = true → l.getD e.on false = true) ∧
    ((l.getD n false = false ∧ Alike ops a0 a ∧ J (fun i => i < n ∧ l.getD i false = true) w ∧ Been ops n R D a w (fun i => i < n ∧ l.getD i false = true)) ∨ ((∀ i, i < n + 1 → l.getD i false = true) ∧ Q .normal a w))) ?_ ?_ _ _ _ _ ?_ ?_
  · rintro l a w ⟨h1, h2, h3⟩ hr
    have hall := listed_of (fun i o ho => (hord2 i o ho).2) h1 hsz hr
    rcases h3 with ⟨h3, _⟩ | ⟨_, h3⟩
    · rw [hall n (by omega)] at h3; cases h3
    · exact h3
  · rintro l a w i ⟨h1, h2, h3⟩ hi
    obtain ⟨hu, o, ho, hdep⟩ := inR hi
    have hil : i < n + 1 := by have := (Array.getElem?_eq_some_iff.1 ho).1; omega
    have hil2 : i < l.size := by omega
    have hset : ∀ j, (l.setIfInBounds i true).getD j false = if i = j then true else l.getD j false := by
      intro j
      by_cases e : i = j
      · subst e; simp [Array.getD_eq_getD_getElem?, hil2]
      · simp [Array.getD_eq_getD_getElem?, Array.getElem?_setIfInBounds_ne e, e]
    have hcl : ∀ k o, ops[k]? = some o → (l.setIfInBounds i true).getD k false = true → ∀ e ∈ o.after, Region.binds .any e = true → (l.setIfInBounds i true).getD e.on false = true := by
      intro k o2 hk hkl e he hb
      rw [hset]
      split
      · rfl
      · rw [hset] at hkl
        split at hkl
        · rename_i hik
          subst hik
          rw [ho] at hk
          injection hk with hk
          subst hk
          exact hdep e he hb
        · exact h2 k o2 hk hkl e he hb
    have hui : l.getD i false = false := by
      simp only [Array.getD_eq_getD_getElem?, Array.getElem?_eq_getElem hil2, Option.getD_some] at hu ⊢
      exact hu
    rcases h3 with ⟨h3, h4, h5, h6⟩ | ⟨h3, _⟩
    rotate_left
    · rw [h3 i hil] at hui; cases hui
    have hdst : dstOf ops i = o.dst := by unfold dstOf; rw [ho]; rfl
    have hdeps : ∀ e ∈ o.after, Region.binds .any e = true → e.on < n ∧ l.getD e.on false = true := by
      intro e he hb
      have h7 := (hord2 i o ho).2 e he hb
      exact ⟨by omega, hdep e he hb⟩
    unfold wpOp
    rw [ho]
    simp only [Region.wanted, (hord2 i o ho).1, if_true]
    by_cases hin3 : i < n
    · refine .inl (Oper.wp_mono (fun a' w' h => ?_) (hstep i o hin3 ho a w _ h5 h4 h6 (fun h => by rw [h.2] at hui; cases hui) hdeps))
      obtain ⟨v, rfl, hb, hR, hD⟩ := h
      refine ⟨by simpa using h1, hcl, .inl ⟨?_, by rw [← hdst]; exact h4.put i v, ?_, ?_⟩⟩
      · rw [hset, if_neg (by omega)]; exact h3
      · have hdn : (fun j => j < n ∧ (l.setIfInBounds i true).getD j false = true) = (fun j => (j < n ∧ l.getD j false = true) ∨ j = i) := funext fun j => propext (by
          rw [hset]
          by_cases e : i = j
          · subst e; simp [hin3]
          · rw [if_neg e]
            constructor
            · exact fun h => .inl h
            · rintro (h | h)
              · exact h
              · exact absurd h.symm e)
        rw [hdn]
        exact hb
      · have hself : ∀ t, dstOf ops i = some t → (a.put (dstOf ops i) v).eval (.tmp t) = v := by
          intro t ht
          rw [ht, eval_put, if_pos ⟨rfl, by rw [h4.size]; exact hin2 i t (by omega) ht⟩]
        have hoth : ∀ j, i ≠ j → j < n → ∀ t, dstOf ops j = some t → (a.put (dstOf ops i) v).eval (.tmp t) = a.eval (.tmp t) := by
          intro j e hj t ht
          have hne : ∀ d, dstOf ops i = some d → d ≠ t := fun d hd e2 => e (hdis2 i j d (by omega) (by omega) hd (by rw [e2]; exact ht))
          cases hd : dstOf ops i with
          | none => rfl
          | some d => rw [eval_put, if_neg (fun h => hne d hd h.1)]
        have hwas : ∀ j, i ≠ j → (l.setIfInBounds i true).getD j false = true → l.getD j false = true := fun j e h => by rw [hset, if_neg e] at h; exact h
        rw [← hdst]
        refine ⟨fun j hj => hj.1, fun j hj t ht => ?_, fun j k hj hk hjk t s ht hs => ?_⟩
        · by_cases e : i = j
          · subst e
            rw [hself t ht]
            exact hR
          · rw [hoth j e hj.1 t ht]
            exact (hD j ⟨hj.1, hwas j e hj.2⟩ (fun h => e h.symm) t ht).1
        · by_cases e : i = j
          · subst e
            rw [hself t ht, hoth k hjk hk.1 s hs]
            exact (hD k ⟨hk.1, hwas k hjk hk.2⟩ (fun h => hjk h.symm) s hs).2.1
          · by_cases e2 : i = k
            · subst e2
              rw [hself s hs, hoth j e hj.1 t ht]
              exact (hD j ⟨hj.1, hwas j e hj.2⟩ hjk t ht).2.2
            · rw [hoth j e hj.1 t ht, hoth k e2 hk.1 s hs]
              exact h6.pairs j k ⟨hj.1, hwas j e hj.2⟩ ⟨hk.1, hwas k e2 hk.2⟩ hjk t s ht hs
    · obtain rfl : i = n := by omega
      have key : ∀ m j, j + m = i → (l.setIfInBounds i true).getD j false = true := by
        intro m
        induction m using Nat.strongRecOn with
        | _ m ih =>
          intro j hj
          by_cases e : m = 0
          · rw [hset, if_pos (by omega)]
          · obtain ⟨k, o2, e2, hjk, hk, he2, hb2, hon⟩ := huse2 j (by omega)
            have hk2 : k < i + 1 := by have := (Array.getElem?_eq_some_iff.1 hk).1; omega
            have := hcl k o2 hk (ih (i - k) (by omega) k (by omega)) e2 he2 hb2
            rw [hon] at this
            exact this
      have hall : ∀ j, j < i → j < i ∧ l.getD j false = true := fun j hj => ⟨hj, by
        have := key (i - j) j (by omega)
        rw [hset, if_neg (by omega)] at this
        exact this⟩
      refine .inl (Oper.wp_mono (fun a' w' h => ?_) (hlast o ho a w _ h5 h4 h6 hall))
      refine ⟨by simpa using h1, hcl, .inr ⟨?_, h⟩⟩
      intro j hj
      exact key (i - j) j (by omega)
  · simp [hsz, List.countP_replicate]
  · refine ⟨by simp [hsz], fun i o _ hl => ?_, .inl ⟨?_, Alike.refl _ _, ?_, ?_⟩⟩
    · simp only [Array.getD_eq_getD_getElem?, Array.getElem?_replicate] at hl
      split at hl <;> simp at hl
    · simp only [Array.getD_eq_getD_getElem?, Array.getElem?_replicate]
      split <;> rfl
    · have hdn : (fun i => i < n ∧ (Array.replicate ops.size false).getD i false = true) = (fun _ => False) := funext fun i => propext ⟨fun h => by
          have hl := h.2
          simp only [Array.getD_eq_getD_getElem?, Array.getElem?_replicate] at hl
          split at hl <;> simp at hl, fun h => h.elim⟩
      rw [hdn]
      exact hJ
    · have hno : ∀ i, ¬ (i < n ∧ (Array.replicate ops.size false).getD i false = true) := by
        rintro i ⟨_, hl⟩
        simp only [Array.getD_eq_getD_getElem?, Array.getElem?_replicate] at hl
        split at hl <;> simp at hl
      exact ⟨fun i h => h.1, fun i h => absurd h (hno i), fun i j h => absurd h (hno i)⟩
end Go.Proofs.Ytnjplfofcjonhaa
namespace Go.Proofs.Ytnjplfofcjonhaa
open Go.RowKit
set_option linter.unusedVariables false
set_option maxRecDepth 100000
structure El (t e : TypeId) (size bytes : Nat) : Prop where
  ht : Try.prog.underlying t = some (.slice e)
  hi : ∃ i z, Try.prog.info? e = some i ∧ i.zero = some z ∧ i.size = size ∧ i.bytes = bytes ∧ z.cells.size = size
  pos : 0 < size
theorem elI : El 26 3 1 8 := ⟨Try.underlying26, by obtain ⟨i, h1, h2, h3, h4⟩ := info_parts infoI; exact ⟨i, _, h1, h2, h3, h4, rfl⟩, by decide⟩
theorem elS : El 27 9 1 16 := ⟨Try.underlying27, by obtain ⟨i, h1, h2, h3, h4⟩ := info_parts infoS; exact ⟨i, _, h1, h2, h3, h4, rfl⟩, by decide⟩
theorem elW : El 25 65 2 16 := ⟨Try.underlying25, by obtain ⟨i, h1, h2, h3, h4⟩ := info_parts infoW; exact ⟨i, _, h1, h2, h3, h4, rfl⟩, by decide⟩
theorem elO : El 24 39 8 80 := ⟨Try.underlying24, by obtain ⟨i, h1, h2, h3, h4⟩ := info_parts infoO; exact ⟨i, _, h1, h2, h3, h4, rfl⟩, by decide⟩
structure SrcC (w : World) (x : Option Addr) (m size : Nat) (news : List Value) : Prop where
  len : news.length = m * size
  at_ : ∀ j u, news[j]? = some u → ∃ ad, x = some ad ∧ w.cell? (ad.add j) = some u
  one : ∀ u ∈ news, u.oneCell' = true
theorem SrcC.none_ {w : World} {m size : Nat} {news : List Value} (h : SrcC w none m size news) (hs : 0 < size) : m = 0 ∧ news = [] := by
  have hn : news = [] := by
    cases news with
    | nil => rfl
    | cons u r => obtain ⟨ad, h1, _⟩ := h.at_ 0 u rfl; cases h1
  subst hn
  have := h.len
  simp only [List.length_nil] at this
  rcases Nat.mul_eq_zero.1 this.symm with h1 | h1
  · exact ⟨h1, rfl⟩
  · omega
theorem SrcC.src {w : World} {x : Option Addr} {m size c : Nat} {news : List Value} {t e : TypeId} {bytes : Nat} (h : SrcC w x m size news) (el : El t e size bytes) : Src Try.prog size t (.slice x m c) m news w := by
  cases x with
  | none => obtain ⟨rfl, rfl⟩ := h.none_ el.pos; exact Src.ofNil w el.ht c
  | some ad => exact Src.ofSlice w el.ht ad m c news h.len (fun j u hj => by obtain ⟨ad2, h1, h2⟩ := h.at_ j u hj; injection h1 with h1; rw [h1]; exact h2) h.one
theorem SrcC.later {w w' : World} {x : Option Addr} {m size : Nat} {news : List Value} (h : SrcC w x m size news) (hb : Below w.heap.size w w') : SrcC w' x m size news :=
  ⟨h.len, fun j u hj => by
    obtain ⟨ad, h1, h2⟩ := h.at_ j u hj
    exact ⟨ad, h1, (hb.cell (p := ad.add j) (World.block_lt_of_cell? w _ h2)).trans h2⟩, h.one⟩
theorem run_append_fresh {t e : TypeId} {size bytes : Nat} (el : El t e size bytes) (ty : TypeId) (w : World) (g B : Nat) (hg : w.heap[g]? = some (.cells #[] e (0, 0))) (hB : B ≤ g) (x : Option Addr) (m c : Nat) (news : List Value)
    (hs : SrcC w x m size news) (hm : m ≤ 16777216) (hby : m * bytes ≤ 140737488355328) :
    ∃ v' w', (Builtin.append_ #[t, t] ty #[.slice (some ⟨g, 0, none⟩) 0 0, .slice x m c]).run Try.prog w = .ok v' w' ∧ w'.ownsRow B e size v' m news ∧ Below w.heap.size w w' ∧ ∃ g', v'.ownBlock = some g' ∧ (g' = g ∨ g' = w.heap.size) := by
  obtain ⟨i, z, hi, hz, h1, h2, h3⟩ := el.hi
  have hgl : g < w.heap.size := (Array.getElem?_eq_some_iff.1 hg).1
  have hsrc := hs.src (c := c) el
  by_cases h0 : m = 0
  · subst h0
    have hn : news = [] := List.eq_nil_of_length_eq_zero (by have := hs.len; omega)
    subst hn
    subst h1
    have hr := run_append_room_src (P := Try.prog) w t t ty e i el.ht hi g 0 0 0 (.slice x 0 c) 0 [] hsrc (by omega) (fun j hj => by simp at hj) (fun j hj => by simp at hj)
    exact ⟨_, _, hr, ⟨by simp, .inr ⟨g, 0, #[], rfl, hB, hg, Nat.le_refl _, by unfold maxLen; omega, by simp, by simp⟩⟩, Below.refl _ _, g, rfl, .inl rfl⟩
  · subst h1
    subst h2
    have hold : (Builtin.firstCells i.size 0 (.slice (some ⟨g, 0, none⟩) 0 0)).run Try.prog w.drew = .ok ([] : List Value).toArray w.drew := by
      simp [Builtin.firstCells, loadCells, loadCellsFrom]
    have hnc : Builtin.nextslicecap (0 + m) 0 = m := by unfold Builtin.nextslicecap; rw [if_pos (by omega)]; omega
    have hr := run_append_grow_src (P := Try.prog) w t t ty e i z el.ht hi hz (some ⟨g, 0, none⟩) 0 0 [] hold (.slice x m c) m news hsrc (by omega) (by omega) (by rw [hnc]; omega)
    simp only [Nat.zero_add, List.nil_append] at hr
    have hge := grownCap_ge w m 0 e
    have hcm : grownCap w m 0 e ≤ maxLen := grownCap_le_maxLen w m 0 e (by unfold maxLen; omega)
    refine ⟨_, _, hr, ⟨hs.len, .inr ⟨w.heap.size, _, _, rfl, by omega, heap_alloc_new w.drew _, hge, hcm, ?_, ?_⟩⟩, (Below.refl _ _).drew.alloc (Nat.le_refl _) _, _, rfl, .inr rfl⟩
    · simp only [Array.size_append, List.size_toArray, size_zeroCells, h3, hs.len, ← Nat.add_mul]
      congr 1
      omega
    · rw [Array.toList_append, ← hs.len]
      exact List.take_left
theorem wp_append_fresh {t e : TypeId} {size bytes : Nat} (el : El t e size bytes) {w : World} {o : Oper} {a : Act} {K : Act → World → Prop} {Q : Exit → Act → World → Prop} (s x : Operand)
    (ho : o.op = .call { callee := .builtin .append, args := #[s, x], argTypes := #[t, t] }) (g B : Nat) (hg : w.heap[g]? = some (.cells #[] e (0, 0))) (hB : B ≤ g) (xa : Option Addr) (m c : Nat) (news : List Value)
    (hsv : a.eval s = .slice (some ⟨g, 0, none⟩) 0 0) (hxv : a.eval x = .slice xa m c) (hs : SrcC w xa m size news) (hm : m ≤ 16777216) (hby : m * bytes ≤ 140737488355328)
    (h : ∀ v' w', w'.ownsRow B e size v' m news → Below w.heap.size w w' → Hid (∃ g', v'.ownBlock = some g' ∧ (g' = g ∨ g' = w.heap.size)) → K (a.put o.dst v') w') : o.wp Try.prog a w K Q := by
  obtain ⟨v', w', hr, h2, h3, h4⟩ := run_append_fresh el o.type w g B hg hB xa m c news hs hm hby
  unfold Oper.wp execOp
  simp only [ho, resolve, invoke, builtin, Sem.run_bind, Sem.run_pure, Result.andThen_ok, List.map_toArray, List.map_cons, List.map_nil, hsv, hxv, hr]
  exact h v' w' h2 h3 h4
theorem wpList_append_fresh {t e : TypeId} {size bytes : Nat} (el : El t e size bytes) {w : World} {ops : Array Oper} {rest : List Oper} {o : Oper} {a : Act} {Q : Exit → Act → World → Prop} (hgd : o.guard = none) (s x : Operand)
    (ho : o.op = .call { callee := .builtin .append, args := #[s, x], argTypes := #[t, t] }) (g B : Nat) (hg : w.heap[g]? = some (.cells #[] e (0, 0))) (hB : B ≤ g) (xa : Option Addr) (m c : Nat) (news : List Value)
    (hsv : a.eval s = .slice (some ⟨g, 0, none⟩) 0 0) (hxv : a.eval x = .slice xa m c) (hs : SrcC w xa m size news) (hm : m ≤ 16777216) (hby : m * bytes ≤ 140737488355328)
    (h : ∀ v' w', w'.ownsRow B e size v' m news → Below w.heap.size w w' → Hid (∃ g', v'.ownBlock = some g' ∧ (g' = g ∨ g' = w.heap.size)) → wpList Try.prog ops Q rest (a.put o.dst v') w') : wpList Try.prog ops Q (o :: rest) a w :=
  wpList_plain hgd fun _ hK => wp_append_fresh el s x ho g B hg hB xa m c news hsv hxv hs hm hby fun v' w' h2 h3 h4 => hK _ _ (h v' w' h2 h3 h4)
theorem fresh_at (w : World) (e : TypeId) : (w.alloc (.cells #[] e)).heap[w.heap.size]? = some (.cells #[] e (0, 0)) := heap_alloc_new w _
theorem cloneI_calls (w : World) (a : Option Addr) (m c : Nat) (news : List Value) (hs : SrcC w a m 1 news) (hm : m ≤ 16777216) :
    Calls Try.prog 36 #[.slice a m c] w fun e w' => ∃ x, e = .returned x ∧ w'.ownsRow w.heap.size 3 1 x m news ∧ Below w.heap.size w w' := by
  cases a with
  | none =>
    obtain ⟨rfl, rfl⟩ := hs.none_ (by omega)
    have hq : ∀ X : World, (binOp .eql 26 (.slice none 0 c) (.slice none 0 0)).run Try.prog X = .ok (.bool true) X := fun X => Lib.run_eql_slice_nil X _ _ none 0 c 0 0 elI.ht
    go_enter Try.func36, Try.ntmps36
    go_wp2
    go_ret
    exact ⟨_, rfl, World.ownsRow_nil _ _ _ _, Below.refl _ _⟩
  | some ad =>
    have HS : Hid (SrcC w (some ad) m 1 news) := hs
    clear hs
    have hq : ∀ X : World, (binOp .eql 26 (.slice (some ad) m c) (.slice none 0 0)).run Try.prog X = .ok (.bool false) X := fun X => Lib.run_eql_slice_nil X _ _ (some ad) m c 0 0 elI.ht
    go_enter Try.func36, Try.ntmps36
    go_wp2_with (at_builtin; refine wpList_append_fresh elI rfl _ _ rfl w.heap.size w.heap.size (fresh_at w _) (Nat.le_refl _) (some ad) m c news rfl rfl ?hs hm (by omega) ?_)
    case hs => exact HS.out.later ((Below.refl _ _).alloc (Nat.le_refl _) _)
    intro v' w' h1 h2 _
    have B2 : Below w.heap.size w w' := ((Below.refl _ _).alloc (Nat.le_refl _) _).trans (h2.mono (by simp))
    go_wp2
    go_ret
    exact ⟨_, rfl, h1, B2⟩
theorem cloneS_calls (w : World) (a : Option Addr) (m c : Nat) (news : List Value) (hs : SrcC w a m 1 news) (hm : m ≤ 16777216) :
    Calls Try.prog 83 #[.slice a m c] w fun e w' => ∃ x, e = .returned x ∧ w'.ownsRow w.heap.size 9 1 x m news ∧ Below w.heap.size w w' := by
  cases a with
  | none =>
    obtain ⟨rfl, rfl⟩ := hs.none_ (by omega)
    have hq : ∀ X : World, (binOp .eql 27 (.slice none 0 c) (.slice none 0 0)).run Try.prog X = .ok (.bool true) X := fun X => Lib.run_eql_slice_nil X _ _ none 0 c 0 0 elS.ht
    go_enter Try.func83, Try.ntmps83
    go_wp2
    go_ret
    exact ⟨_, rfl, World.ownsRow_nil _ _ _ _, Below.refl _ _⟩
  | some ad =>
    have HS : Hid (SrcC w (some ad) m 1 news) := hs
    clear hs
    have hq : ∀ X : World, (binOp .eql 27 (.slice (some ad) m c) (.slice none 0 0)).run Try.prog X = .ok (.bool false) X := fun X => Lib.run_eql_slice_nil X _ _ (some ad) m c 0 0 elS.ht
    go_enter Try.func83, Try.ntmps83
    go_wp2_with (at_builtin; refine wpList_append_fresh elS rfl _ _ rfl w.heap.size w.heap.size (fresh_at w _) (Nat.le_refl _) (some ad) m c news rfl rfl ?hs hm (by omega) ?_)
    case hs => exact HS.out.later ((Below.refl _ _).alloc (Nat.le_refl _) _)
    intro v' w' h1 h2 _
    have B2 : Below w.heap.size w w' := ((Below.refl _ _).alloc (Nat.le_refl _) _).trans (h2.mono (by simp))
    go_wp2
    go_ret
    exact ⟨_, rfl, h1, B2⟩
theorem cloneW_calls (w : World) (a : Option Addr) (m c : Nat) (news : List Value) (hs : SrcC w a m 2 news) (hm : m ≤ 16777216) :
    Calls Try.prog 82 #[.slice a m c] w fun e w' => ∃ x, e = .returned x ∧ w'.ownsRow w.heap.size 65 2 x m news ∧ Below w.heap.size w w' := by
  cases a with
  | none =>
    obtain ⟨rfl, rfl⟩ := hs.none_ (by omega)
    have hq : ∀ X : World, (binOp .eql 25 (.slice none 0 c) (.slice none 0 0)).run Try.prog X = .ok (.bool true) X := fun X => Lib.run_eql_slice_nil X _ _ none 0 c 0 0 elW.ht
    go_enter Try.func82, Try.ntmps82
    go_wp2
    go_ret
    exact ⟨_, rfl, World.ownsRow_nil _ _ _ _, Below.refl _ _⟩
  | some ad =>
    have HS : Hid (SrcC w (some ad) m 2 news) := hs
    clear hs
    have hq : ∀ X : World, (binOp .eql 25 (.slice (some ad) m c) (.slice none 0 0)).run Try.prog X = .ok (.bool false) X := fun X => Lib.run_eql_slice_nil X _ _ (some ad) m c 0 0 elW.ht
    go_enter Try.func82, Try.ntmps82
    go_wp2_with (at_builtin; refine wpList_append_fresh elW rfl _ _ rfl w.heap.size w.heap.size (fresh_at w _) (Nat.le_refl _) (some ad) m c news rfl rfl ?hs hm (by omega) ?_)
    case hs => exact HS.out.later ((Below.refl _ _).alloc (Nat.le_refl _) _)
    intro v' w' h1 h2 _
    have B2 : Below w.heap.size w w' := ((Below.refl _ _).alloc (Nat.le_refl _) _).trans (h2.mono (by simp))
    go_wp2
    go_ret
    exact ⟨_, rfl, h1, B2⟩
theorem cloneO_calls (w : World) (a : Option Addr) (m c : Nat) (news : List Value) (hs : SrcC w a m 8 news) (hm : m ≤ 16777216) :
    Calls Try.prog 81 #[.slice a m c] w fun e w' => ∃ x, e = .returned x ∧ w'.ownsRow w.heap.size 39 8 x m news ∧ Below w.heap.size w w' := by
  cases a with
  | none =>
    obtain ⟨rfl, rfl⟩ := hs.none_ (by omega)
    have hq : ∀ X : World, (binOp .eql 24 (.slice none 0 c) (.slice none 0 0)).run Try.prog X = .ok (.bool true) X := fun X => Lib.run_eql_slice_nil X _ _ none 0 c 0 0 elO.ht
    go_enter Try.func81, Try.ntmps81
    go_wp2
    go_ret
    exact ⟨_, rfl, World.ownsRow_nil _ _ _ _, Below.refl _ _⟩
  | some ad =>
    have HS : Hid (SrcC w (some ad) m 8 news) := hs
    clear hs
    have hq : ∀ X : World, (binOp .eql 24 (.slice (some ad) m c) (.slice none 0 0)).run Try.prog X = .ok (.bool false) X := fun X => Lib.run_eql_slice_nil X _ _ (some ad) m c 0 0 elO.ht
    go_enter Try.func81, Try.ntmps81
    go_wp2_with (at_builtin; refine wpList_append_fresh elO rfl _ _ rfl w.heap.size w.heap.size (fresh_at w _) (Nat.le_refl _) (some ad) m c news rfl rfl ?hs hm (by omega) ?_)
    case hs => exact HS.out.later ((Below.refl _ _).alloc (Nat.le_refl _) _)
    intro v' w' h1 h2 _
    have B2 : Below w.heap.size w w' := ((Below.refl _ _).alloc (Nat.le_refl _) _).trans (h2.mono (by simp))
    go_wp2
    go_ret
    exact ⟨_, rfl, h1, B2⟩
end Go.Proofs.Ytnjplfofcjonhaa
namespace Go.Proofs.Ytnjplfofcjonhaa
open Go.RowKit
set_option linter.unusedVariables false
set_option maxRecDepth 100000
theorem ev_tmp {a : Act} {t : Tmp} {v : Value} (h : a.eval (.tmp t) = v) : a.tmps[t]?.getD undef = v := by
  rw [← h]; simp [Act.eval, Array.getD_eq_getD_getElem?]
theorem opField {t i : Tmp} {ty : TypeId} {pos : String} {af : Array Edge} {a : Act} {X : World} {K : Act → World → Prop} {Q : Exit → Act → World → Prop} {P : Nat} (k : Nat) (hk : k < 4) (h1 : a.eval (.tmp i) = .pointer (some ⟨P, 0, none⟩)) (hK : K (a.put (some t) (.pointer (some ⟨P, k, none⟩))) X) :
    Oper.wp Try.prog ⟨some t, .fieldAddr 29 (.tmp i) k, ty, pos, af, none⟩ a X K Q := by
  have h := ev_tmp h1
  match k, hk with
  | 0, _ => go_simp; exact hK
  | 1, _ => go_simp; exact hK
  | 2, _ => go_simp; exact hK
  | 3, _ => go_simp; exact hK
theorem opLoadO {t i : Tmp} {ty : TypeId} {pos : String} {af : Array Edge} {a : Act} {X : World} {K : Act → World → Prop} {Q : Exit → Act → World → Prop} {P k : Nat} {v : Value} (h1 : a.eval (.tmp i) = .pointer (some ⟨P, k, none⟩)) (hc : X.cell? ⟨P, k, none⟩ = some v) (hK : K (a.put (some t) v) X) :
    Oper.wp Try.prog ⟨some t, .load 24 (.tmp i), ty, pos, af, none⟩ a X K Q := by
  have h := ev_tmp h1
  go_simp; exact hK
theorem opLoadW {t i : Tmp} {ty : TypeId} {pos : String} {af : Array Edge} {a : Act} {X : World} {K : Act → World → Prop} {Q : Exit → Act → World → Prop} {P k : Nat} {v : Value} (h1 : a.eval (.tmp i) = .pointer (some ⟨P, k, none⟩)) (hc : X.cell? ⟨P, k, none⟩ = some v) (hK : K (a.put (some t) v) X) :
    Oper.wp Try.prog ⟨some t, .load 25 (.tmp i), ty, pos, af, none⟩ a X K Q := by
  have h := ev_tmp h1
  go_simp; exact hK
theorem opLoadI {t i : Tmp} {ty : TypeId} {pos : String} {af : Array Edge} {a : Act} {X : World} {K : Act → World → Prop} {Q : Exit → Act → World → Prop} {P k : Nat} {v : Value} (h1 : a.eval (.tmp i) = .pointer (some ⟨P, k, none⟩)) (hc : X.cell? ⟨P, k, none⟩ = some v) (hK : K (a.put (some t) v) X) :
    Oper.wp Try.prog ⟨some t, .load 26 (.tmp i), ty, pos, af, none⟩ a X K Q := by
  have h := ev_tmp h1
  go_simp; exact hK
theorem opLoadS {t i : Tmp} {ty : TypeId} {pos : String} {af : Array Edge} {a : Act} {X : World} {K : Act → World → Prop} {Q : Exit → Act → World → Prop} {P k : Nat} {v : Value} (h1 : a.eval (.tmp i) = .pointer (some ⟨P, k, none⟩)) (hc : X.cell? ⟨P, k, none⟩ = some v) (hK : K (a.put (some t) v) X) :
    Oper.wp Try.prog ⟨some t, .load 27 (.tmp i), ty, pos, af, none⟩ a X K Q := by
  have h := ev_tmp h1
  go_simp; exact hK
theorem opNewW {t : Tmp} {ty : TypeId} {pos : String} {af : Array Edge} {a : Act} {X : World} {K : Act → World → Prop} {Q : Exit → Act → World → Prop} (hK : K (a.put (some t) (.slice (some ⟨X.heap.size, 0, none⟩) 0 0)) (X.alloc (.cells #[] 65))) :
    Oper.wp Try.prog ⟨some t, .buildSlice 25 0 #[], ty, pos, af, none⟩ a X K Q := by go_simp; exact hK
theorem opNewI {t : Tmp} {ty : TypeId} {pos : String} {af : Array Edge} {a : Act} {X : World} {K : Act → World → Prop} {Q : Exit → Act → World → Prop} (hK : K (a.put (some t) (.slice (some ⟨X.heap.size, 0, none⟩) 0 0)) (X.alloc (.cells #[] 3))) :
    Oper.wp Try.prog ⟨some t, .buildSlice 26 0 #[], ty, pos, af, none⟩ a X K Q := by go_simp; exact hK
theorem opNewS {t : Tmp} {ty : TypeId} {pos : String} {af : Array Edge} {a : Act} {X : World} {K : Act → World → Prop} {Q : Exit → Act → World → Prop} (hK : K (a.put (some t) (.slice (some ⟨X.heap.size, 0, none⟩) 0 0)) (X.alloc (.cells #[] 9))) :
    Oper.wp Try.prog ⟨some t, .buildSlice 27 0 #[], ty, pos, af, none⟩ a X K Q := by go_simp; exact hK
theorem opAlloc {t : Tmp} {ty : TypeId} {pos : String} {af : Array Edge} {a : Act} {X : World} {K : Act → World → Prop} {Q : Exit → Act → World → Prop} (hK : K (a.put (some t) (.pointer (some ⟨X.heap.size, 0, none⟩))) (X.alloc (.cells #[.slice none 0 0, .slice none 0 0, .slice none 0 0, .slice none 0 0] 29))) :
    Oper.wp Try.prog ⟨some t, .alloc 29, ty, pos, af, none⟩ a X K Q := by go_simp; exact hK
theorem opBuild3 {t i j k : Tmp} {ty : TypeId} {pos : String} {af : Array Edge} {a : Act} {X : World} {K : Act → World → Prop} {Q : Exit → Act → World → Prop} {x y z : Option Addr} {n m l c d e : Nat} (h1 : a.eval (.tmp i) = .slice x n c) (h2 : a.eval (.tmp j) = .slice y m d) (h3 : a.eval (.tmp k) = .slice z l e)
    (hK : K (a.put (some t) (.agg #[.slice none 0 0, .slice x n c, .slice y m d, .slice z l e])) X) : Oper.wp Try.prog ⟨some t, .build 29 #[(1, .tmp i), (2, .tmp j), (3, .tmp k)], ty, pos, af, none⟩ a X K Q := by
  have e1 := ev_tmp h1
  have e2 := ev_tmp h2
  have e3 := ev_tmp h3
  go_simp; exact hK
theorem opBuild4 {t h i j k : Tmp} {ty : TypeId} {pos : String} {af : Array Edge} {a : Act} {X : World} {K : Act → World → Prop} {Q : Exit → Act → World → Prop} {x0 x y z : Option Addr} {n0 n m l c0 c d e : Nat} (h0 : a.eval (.tmp h) = .slice x0 n0 c0) (h1 : a.eval (.tmp i) = .slice x n c) (h2 : a.eval (.tmp j) = .slice y m d) (h3 : a.eval (.tmp k) = .slice z l e)
    (hK : K (a.put (some t) (.agg #[.slice x0 n0 c0, .slice x n c, .slice y m d, .slice z l e])) X) : Oper.wp Try.prog ⟨some t, .build 29 #[(0, .tmp h), (1, .tmp i), (2, .tmp j), (3, .tmp k)], ty, pos, af, none⟩ a X K Q := by
  have e0 := ev_tmp h0
  have e1 := ev_tmp h1
  have e2 := ev_tmp h2
  have e3 := ev_tmp h3
  go_simp; exact hK
def Four (X : World) (g : Nat) (x0 x1 x2 x3 : Value) : Prop := X.heap[g]? = some (.cells #[x0, x1, x2, x3] 29 (0, 0))
theorem Four.cell {X : World} {g : Nat} {x0 x1 x2 x3 : Value} (h : Four X g x0 x1 x2 x3) (k : Nat) : X.cell? ⟨g, k, none⟩ = (#[x0, x1, x2, x3] : Array Value)[k]? := by
  have h' : X.heap[g]? = some (.cells #[x0, x1, x2, x3] 29 (0, 0)) := h
  simp [World.cell?, h']
theorem Four.frozen {X : World} {g : Nat} {x0 x1 x2 x3 : Value} (h : Four X g x0 x1 x2 x3) (k : Nat) : X.frozen? ⟨g, k, none⟩ = false := by
  have h' : X.heap[g]? = some (.cells #[x0, x1, x2, x3] 29 (0, 0)) := h
  simp [World.frozen?, h']
theorem Four.lt {X : World} {g : Nat} {x0 x1 x2 x3 : Value} (h : Four X g x0 x1 x2 x3) : g < X.heap.size := (Array.getElem?_eq_some_iff.1 h).1
theorem Four.same {X Y : World} {g : Nat} {x0 x1 x2 x3 : Value} (h : Four X g x0 x1 x2 x3) (hs : Y.heap[g]? = X.heap[g]?) : Four Y g x0 x1 x2 x3 := hs.trans h
def setFour (X : World) (g : Nat) (y0 y1 y2 y3 : Value) : World := (((X.setCell ⟨g, 0, none⟩ y0).setCell ⟨g, 1, none⟩ y1).setCell ⟨g, 2, none⟩ y2).setCell ⟨g, 3, none⟩ y3
theorem opStoreH {i j : Tmp} {ty : TypeId} {pos : String} {af : Array Edge} {a : Act} {X : World} {K : Act → World → Prop} {Q : Exit → Act → World → Prop} {g : Nat} {u0 u1 u2 u3 : Value} {x0 x y z : Option Addr} {n0 n m l c0 c d e : Nat} (h1 : a.eval (.tmp i) = .pointer (some ⟨g, 0, none⟩)) (h2 : a.eval (.tmp j) = .agg #[.slice x0 n0 c0, .slice x n c, .slice y m d, .slice z l e])
    (hf : Four X g u0 u1 u2 u3) (hK : K a (setFour X g (.slice x0 n0 c0) (.slice x n c) (.slice y m d) (.slice z l e))) : Oper.wp Try.prog ⟨none, .store 29 (.tmp i) (.tmp j), ty, pos, af, none⟩ a X K Q := by
  have e1 := ev_tmp h1
  have e2 := ev_tmp h2
  have k0 : X.cell? ⟨g, 0, none⟩ = some u0 := hf.cell 0
  have k1 : X.cell? ⟨g, 1, none⟩ = some u1 := hf.cell 1
  have k2 : X.cell? ⟨g, 2, none⟩ = some u2 := hf.cell 2
  have k3 : X.cell? ⟨g, 3, none⟩ = some u3 := hf.cell 3
  have f0 := hf.frozen 0
  have f1 := hf.frozen 1
  have f2 := hf.frozen 2
  have f3 := hf.frozen 3
  go_simp; exact hK
theorem setFour_other (X : World) (g : Nat) (y0 y1 y2 y3 : Value) (i : Nat) (h : i ≠ g) : (setFour X g y0 y1 y2 y3).heap[i]? = X.heap[i]? := by
  unfold setFour
  iterate 4 rw [heap_setCell_other _ _ _ _ (by exact h)]
end Go.Proofs.Ytnjplfofcjonhaa
namespace Go.Proofs.Ytnjplfofcjonhaa
open Go.RowKit
set_option linter.unusedVariables false
set_option maxRecDepth 100000
theorem opMove {t i : Tmp} {ty : TypeId} {pos : String} {af : Array Edge} {a : Act} {X : World} {K : Act → World → Prop} {Q : Exit → Act → World → Prop} {v : Value} (h1 : a.eval (.tmp i) = v) (hK : K (a.put (some t) v) X) :
    Oper.wp Try.prog ⟨some t, .move (.tmp i), ty, pos, af, none⟩ a X K Q := by
  have h := ev_tmp h1
  go_simp; exact hK
theorem opIndexO {t i j : Tmp} {ty : TypeId} {pos : String} {af : Array Edge} {a : Act} {X : World} {K : Act → World → Prop} {Q : Exit → Act → World → Prop} {g n c k : Nat} (h1 : a.eval (.tmp i) = .slice (some ⟨g, 0, none⟩) n c) (h2 : a.eval (.tmp j) = .int .i64 (k : Int)) (hk : k < n) (hK : K (a.put (some t) (.pointer (some ⟨g, k * 8, none⟩))) X) :
    Oper.wp Try.prog ⟨some t, .indexAddr 24 (.tmp i) (.tmp j), ty, pos, af, none⟩ a X K Q := by
  have e1 := ev_tmp h1
  have e2 := ev_tmp h2
  have k1 : (0 : Int) ≤ (k : Int) := by omega
  have k2 : (k : Int) < (n : Int) := by omega
  go_simp; exact hK
theorem opFieldO5 {t i : Tmp} {ty : TypeId} {pos : String} {af : Array Edge} {a : Act} {X : World} {K : Act → World → Prop} {Q : Exit → Act → World → Prop} {g p : Nat} (h1 : a.eval (.tmp i) = .pointer (some ⟨g, p, none⟩)) (hK : K (a.put (some t) (.pointer (some ⟨g, p + 5, none⟩))) X) :
    Oper.wp Try.prog ⟨some t, .fieldAddr 39 (.tmp i) 5, ty, pos, af, none⟩ a X K Q := by
  have h := ev_tmp h1
  go_simp; exact hK
theorem opLoadInt {t i : Tmp} {ty : TypeId} {pos : String} {af : Array Edge} {a : Act} {X : World} {K : Act → World → Prop} {Q : Exit → Act → World → Prop} {g p : Nat} {v : Value} (h1 : a.eval (.tmp i) = .pointer (some ⟨g, p, none⟩)) (hc : X.cell? ⟨g, p, none⟩ = some v) (hK : K (a.put (some t) v) X) :
    Oper.wp Try.prog ⟨some t, .load 3 (.tmp i), ty, pos, af, none⟩ a X K Q := by
  have h := ev_tmp h1
  go_simp; exact hK
theorem opSub1 {t i : Tmp} {ty : TypeId} {pos : String} {af : Array Edge} {a : Act} {X : World} {K : Act → World → Prop} {Q : Exit → Act → World → Prop} {z : Int} (h1 : a.eval (.tmp i) = .int .i64 z) (hK : K (a.put (some t) (.int .i64 (wrap64 (z - 1)))) X) :
    Oper.wp Try.prog ⟨some t, .binOp .sub 3 (.tmp i) (.const (.int .i64 1)) 3, ty, pos, af, none⟩ a X K Q := by
  have h := ev_tmp h1
  have e : IntKind.i64.wrap (z - 1) = wrap64 (z - 1) := by rw [IntKind.wrap_i64]; simp only [wrap64]
  go_simp; exact hK
theorem opStoreInt {i j : Tmp} {ty : TypeId} {pos : String} {af : Array Edge} {a : Act} {X : World} {K : Act → World → Prop} {Q : Exit → Act → World → Prop} {g p : Nat} {u : Value} {z : Int} (h1 : a.eval (.tmp i) = .pointer (some ⟨g, p, none⟩)) (h2 : a.eval (.tmp j) = .int .i64 z) (hc : X.cell? ⟨g, p, none⟩ = some u) (hf : X.frozen? ⟨g, p, none⟩ = false) (hK : K a (X.setCell ⟨g, p, none⟩ (.int .i64 z))) :
    Oper.wp Try.prog ⟨none, .store 3 (.tmp i) (.tmp j), ty, pos, af, none⟩ a X K Q := by
  have e1 := ev_tmp h1
  have e2 := ev_tmp h2
  go_simp; exact hK
theorem wpList_appendL {w : World} {ops : Array Oper} {rest : List Oper} {o : Oper} {a : Act} {Q : Exit → Act → World → Prop} (hgd : o.guard = none) (s x : Operand)
    (ho : o.op = .call { callee := .builtin .append, args := #[s, x], argTypes := #[26, 26] }) (B : Nat) (v : Value) (P : List Int) (hs : a.eval s = v) (hown : ownI w B v P)
    (ad : Addr) (z : Int) (hx : a.eval x = .slice (some ad) 1 1) (hsrc : w.cell? ad = some (.int .i64 z)) (hlen : P.length ≤ 16777215) (hB : B ≤ w.heap.size)
    (h : ∀ v' w', ownI w' B v' (P ++ [z]) → w.heap.size ≤ w'.heap.size → Hid (∀ i, i < w.heap.size → v.ownBlock ≠ some i → w'.heap[i]? = w.heap[i]?) → Hid (v'.ownBlock = v.ownBlock ∨ v'.ownBlock = some w.heap.size) → Hid (∀ C w0, Below C w0 w → C ≤ B → Below C w0 w') → wpList Try.prog ops Q rest (a.put o.dst v') w') : wpList Try.prog ops Q (o :: rest) a w := by
  obtain ⟨i0, hi, hz0, hz1, hz2⟩ := info_parts infoI
  have hlt := World.ownsRow.lt hown
  refine wpList_append_own_at w hgd s x 26 ho B 3 i0 (.int .i64 0) 1 8 Try.underlying26 hi hz0 hz1 hz2 rfl (by decide) v P.length (P.map intV) hs hown ad 1 1 [intV z] hx rfl ?_ ?_ ?_ ?_ hB ?_
  · intro j u hj
    match j, hj with
    | 0, hj =>
      simp at hj
      subst hj
      rw [show ad.add 0 = ad from by cases ad; simp [Addr.add]]
      exact hsrc
    | j + 1, hj => simp at hj
  · intro u hu; simp at hu; subst hu; rfl
  · unfold maxLen; omega
  · omega
  · intro v' w' hown' hgrow _ hat
    refine h v' w' ?_ hgrow.size (fun i hi hne => hgrow.block i hi (fun e => hne e.symm)) hat (fun C w0 hb hC => ?_)
    · unfold ownI
      rw [List.length_append, List.map_append]
      exact hown'
    · exact ⟨hgrow.os.trans hb.os, hgrow.tape.trans hb.tape, hgrow.output.trans hb.output, Nat.le_trans hb.size hgrow.size, fun k hk => (hgrow.block k (by omega) (fun e => by have := (hlt k e.symm).1; omega)).trans (hb.block k hk)⟩
end Go.Proofs.Ytnjplfofcjonhaa
namespace Go.Proofs.Ytnjplfofcjonhaa
open Go.RowKit
set_option linter.unusedVariables false
set_option maxRecDepth 100000
theorem flat_len {α : Type} (f : α → List Value) (sz : Nat) (hf : ∀ x, (f x).length = sz) : ∀ l : List α, (l.flatMap f).length = l.length * sz := by
  intro l
  induction l with
  | nil => simp
  | cons x r ih => rw [List.flatMap_cons, List.length_append, ih, hf, List.length_cons, Nat.add_mul]; omega
theorem flat_at {α : Type} (f : α → List Value) (sz : Nat) (hf : ∀ x, (f x).length = sz) : ∀ (l : List α) (j k : Nat) (hj : j < l.length) (hk : k < sz), (l.flatMap f)[j * sz + k]? = (f l[j])[k]? := by
  intro l
  induction l with
  | nil => intro j k hj; simp at hj
  | cons x r ih =>
    intro j k hj hk
    rw [List.flatMap_cons]
    cases j with
    | zero => rw [List.getElem?_append_left (by rw [hf]; omega)]; simp
    | succ j =>
      rw [List.getElem?_append_right (by rw [hf, Nat.add_mul]; omega), hf, show (j + 1) * sz + k - sz = j * sz + k from by rw [Nat.add_mul]; omega, ih j k (by simpa using hj) hk]
      simp
theorem flat_of {α : Type} (f : α → List Value) (sz : Nat) (hs : 0 < sz) (hf : ∀ x, (f x).length = sz) (l : List α) (i : Nat) (u : Value) (h : (l.flatMap f)[i]? = some u) : ∃ j k, ∃ hj : j < l.length, k < sz ∧ i = j * sz + k ∧ (f l[j])[k]? = some u := by
  have hi : i < l.length * sz := by rw [← flat_len f sz hf]; exact (List.getElem?_eq_some_iff.1 h).1
  have hj : i / sz < l.length := (Nat.div_lt_iff_lt_mul hs).2 hi
  have hk : i % sz < sz := Nat.mod_lt _ hs
  have e : i = i / sz * sz + i % sz := by rw [Nat.mul_comm]; exact (Nat.div_add_mod i sz).symm
  refine ⟨i / sz, i % sz, hj, hk, e, ?_⟩
  rw [← flat_at f sz hf l _ _ hj hk, ← e]; exact h
def cellsW (d : WeakD) : List Value := [.bool d.used, .int .i64 d.target]
def cellsOb (p : ObjD × OSh) : List Value := [.bool p.1.live, .int .i64 p.1.gen, .int .i64 p.1.site, .int .i64 p.1.holds, .int .i64 p.1.roots, .int .i64 p.1.count, .slice p.2.f p.2.n p.2.c, .bool p.1.purple]
theorem srcI {w : World} {a : Option Addr} {zs : List Int} (h : RdI w a zs) : SrcC w a zs.length 1 (zs.map intV) := by
  refine ⟨by simp, fun j u hj => ?_, fun u hu => by obtain ⟨z, _, rfl⟩ := List.mem_map.1 hu; rfl⟩
  rw [List.getElem?_map] at hj
  obtain ⟨z, hz, rfl⟩ := Option.map_eq_some_iff.1 hj
  obtain ⟨hl, rfl⟩ := List.getElem?_eq_some_iff.1 hz
  obtain ⟨g, off, rfl, _, h2⟩ := h j hl
  exact ⟨_, rfl, by rw [Addr.add_lit]; exact h2⟩
theorem srcS {w : World} {a : Option Addr} {zs : List (List UInt8)} (h : RdS w a zs) : SrcC w a zs.length 1 (zs.map strV) := by
  refine ⟨by simp, fun j u hj => ?_, fun u hu => by obtain ⟨z, _, rfl⟩ := List.mem_map.1 hu; rfl⟩
  rw [List.getElem?_map] at hj
  obtain ⟨z, hz, rfl⟩ := Option.map_eq_some_iff.1 hj
  obtain ⟨hl, rfl⟩ := List.getElem?_eq_some_iff.1 hz
  obtain ⟨g, off, rfl, _, h2⟩ := h j hl
  exact ⟨_, rfl, by rw [Addr.add_lit]; exact h2⟩
theorem srcW {w : World} {a : Option Addr} {ds : List WeakD} (h : RdW w a ds) : SrcC w a ds.length 2 (ds.flatMap cellsW) := by
  refine ⟨flat_len _ 2 (fun _ => rfl) ds, fun i u hi => ?_, fun u hu => ?_⟩
  · obtain ⟨j, k, hj, hk, rfl, hu⟩ := flat_of cellsW 2 (by omega) (fun _ => rfl) ds i u hi
    obtain ⟨g, off, rfl, _, h2⟩ := h j hj
    refine ⟨_, rfl, ?_⟩
    rw [Addr.add_lit, ← Nat.add_assoc]
    match k, hk with
    | 0, _ => rw [← hu]; exact h2.c0
    | 1, _ => rw [← hu]; exact h2.c1
  · obtain ⟨d, _, hu⟩ := List.mem_flatMap.1 hu
    simp only [cellsW, List.mem_cons, List.not_mem_nil, or_false] at hu
    rcases hu with rfl | rfl <;> rfl
theorem srcO {w : World} {a : Option Addr} {os : List ObjD} (h : RdO w a os) :
    ∃ fs : List OSh, fs.length = os.length ∧ (∀ j (h1 : j < os.length) (h2 : j < fs.length), fs[j].n = os[j].field.length ∧ RdI w fs[j].f os[j].field) ∧ SrcC w a os.length 8 ((os.zip fs).flatMap cellsOb) := by
  have key : ∀ i : Fin os.length, ∃ s : OSh, s.n = os[i].field.length ∧ RdI w s.f os[i].field ∧ ∃ g off, a = some ⟨g, off, none⟩ ∧ ObjAt w g (off + i.1 * 8) os[i] (.slice s.f s.n s.c) := by
    intro i
    obtain ⟨g, off, f, fc, h1, _, h3, h4⟩ := h i.1 i.2
    exact ⟨⟨f, _, fc⟩, rfl, h4, g, off, h1, h3⟩
  refine ⟨List.ofFn (fun i => Classical.choose (key i)), by simp, ?_, ?_⟩
  · intro j h1 h2
    rw [List.getElem_ofFn]
    have := Classical.choose_spec (key ⟨j, h1⟩)
    exact ⟨this.1, this.2.1⟩
  · have hl : (os.zip (List.ofFn (fun i => Classical.choose (key i)))).length = os.length := by simp
    refine ⟨by rw [flat_len cellsOb 8 (fun _ => rfl), hl], fun i u hi => ?_, fun u hu => ?_⟩
    · obtain ⟨j, k, hj, hk, rfl, hu⟩ := flat_of cellsOb 8 (by omega) (fun _ => rfl) _ i u hi
      have hj2 : j < os.length := by rw [hl] at hj; exact hj
      rw [List.getElem_zip, List.getElem_ofFn] at hu
      obtain ⟨g, off, h1, h2⟩ := (Classical.choose_spec (key ⟨j, hj2⟩)).2.2
      refine ⟨_, h1, ?_⟩
      rw [Addr.add_lit, ← Nat.add_assoc]
      match k, hk with
      | 0, _ => rw [← hu]; exact h2.c0
      | 1, _ => rw [← hu]; exact h2.c1
      | 2, _ => rw [← hu]; exact h2.c2
      | 3, _ => rw [← hu]; exact h2.c3
      | 4, _ => rw [← hu]; exact h2.c4
      | 5, _ => rw [← hu]; exact h2.c5
      | 6, _ => rw [← hu]; exact h2.c6
      | 7, _ => rw [← hu]; exact h2.c7
    · obtain ⟨p, _, hu⟩ := List.mem_flatMap.1 hu
      simp only [cellsOb, List.mem_cons, List.not_mem_nil, or_false] at hu
      rcases hu with rfl | rfl | rfl | rfl | rfl | rfl | rfl | rfl <;> rfl
theorem row_form {w : World} {B n size : Nat} {e : TypeId} {v : Value} {xs : List Value} (h : w.ownsRow B e size v n xs) : ∃ a c, v = .slice a n c ∧ (∀ x, a = some x → ∃ g, x = ⟨g, 0, none⟩ ∧ B ≤ g ∧ g < w.heap.size ∧ ∃ cur, w.heap[g]? = some (.cells cur e (0, 0))) ∧ (0 < n → ∃ g, a = some ⟨g, 0, none⟩) := by
  rcases h with ⟨h1, ⟨h2, h3⟩ | ⟨g, cap, cur, h2, h3, h4, h5, h6, h7⟩⟩
  · exact ⟨none, 0, by rw [h2, h3], (fun x hx => by cases hx), fun h => by omega⟩
  · exact ⟨_, cap, h2, (fun x hx => by injection hx with hx; exact ⟨g, hx.symm, h3, (Array.getElem?_eq_some_iff.1 h4).1, cur, h4⟩), fun _ => ⟨g, rfl⟩⟩
theorem row_dif {w : World} {B C n m sz sz2 : Nat} {e e2 : TypeId} {a b : Option Addr} {c d : Nat} {xs ys : List Value} (h1 : w.ownsRow B e sz (.slice a n c) n xs) (h2 : w.ownsRow C e2 sz2 (.slice b m d) m ys) (hne : e ≠ e2) : Dif a b := by
  intro x y hx hy he
  obtain ⟨a1, c1, e1, f1, _⟩ := row_form h1
  obtain ⟨a2, c2, e3, f2, _⟩ := row_form h2
  simp only [Value.slice.injEq] at e1 e3
  obtain ⟨g, rfl, _, _, cur, h3⟩ := f1 x (by rw [← e1.1]; exact hx)
  obtain ⟨g2, rfl, _, _, cur2, h4⟩ := f2 y (by rw [← e3.1]; exact hy)
  simp only at he
  subst he
  rw [h3] at h4
  injection h4 with h4
  injection h4 with _ h5 _
  exact hne h5
theorem row_block {w : World} {B n size : Nat} {e : TypeId} {a : Option Addr} {c : Nat} {xs : List Value} (h : w.ownsRow B e size (.slice a n c) n xs) : ∀ x, a = some x → B ≤ x.block ∧ x.block < w.heap.size := fun x hx => World.ownsRow.lt h _ (own_block hx)
theorem row_cells {w : World} {B n size : Nat} {e : TypeId} {a : Option Addr} {c : Nat} {xs : List Value} (h : w.ownsRow B e size (.slice a n c) n xs) (i : Nat) (hi : i < n * size) : ∃ g, a = some ⟨g, 0, none⟩ ∧ w.cell? ⟨g, i, none⟩ = xs[i]? ∧ w.frozen? ⟨g, i, none⟩ = false := by
  have hn : 0 < n := by rcases Nat.eq_zero_or_pos n with e | e; · rw [e] at hi; simp at hi
                        · exact e
  obtain ⟨a1, c1, e1, _, f1⟩ := row_form h
  simp only [Value.slice.injEq] at e1
  obtain ⟨g, hg⟩ := f1 hn
  have ha : a = some ⟨g, 0, none⟩ := by rw [e1.1]; exact hg
  rw [ha] at h
  exact ⟨g, ha, World.ownsRow.cellAt h i hi, World.ownsRow.frozenAt h i⟩
theorem row_weaks {w : World} {B : Nat} {a : Option Addr} {c : Nat} {ds : List WeakD} (h : w.ownsRow B 65 2 (.slice a ds.length c) ds.length (ds.flatMap cellsW)) : ∀ j (h : j < ds.length), ∃ g, a = some ⟨g, 0, none⟩ ∧ WeakAt w g (j * 2) ds[j] ∧ ∀ k, k < 2 → w.frozen? ⟨g, j * 2 + k, none⟩ = false := by
  intro j hj
  have at_ : ∀ k, k < 2 → ∃ g, a = some ⟨g, 0, none⟩ ∧ w.cell? ⟨g, j * 2 + k, none⟩ = (cellsW ds[j])[k]? ∧ w.frozen? ⟨g, j * 2 + k, none⟩ = false := by
    intro k hk
    obtain ⟨g, h1, h2, h3⟩ := row_cells h (j * 2 + k) (by omega)
    exact ⟨g, h1, by rw [h2]; exact flat_at cellsW 2 (fun _ => rfl) ds j k hj hk, h3⟩
  obtain ⟨g, h1, h2, h3⟩ := at_ 0 (by omega)
  have at2 : ∀ k, k < 2 → w.cell? ⟨g, j * 2 + k, none⟩ = (cellsW ds[j])[k]? ∧ w.frozen? ⟨g, j * 2 + k, none⟩ = false := by
    intro k hk
    obtain ⟨g2, e1, e2, e3⟩ := at_ k hk
    rw [h1] at e1; injection e1 with e1; injection e1 with e1 _ _; subst e1
    exact ⟨e2, e3⟩
  exact ⟨g, h1, ⟨(at2 0 (by omega)).1, (at2 1 (by omega)).1⟩, fun k hk => (at2 k hk).2⟩
theorem row_objs {w : World} {B : Nat} {a : Option Addr} {c : Nat} {os : List ObjD} {fs : List OSh} (hl : fs.length = os.length) (h : w.ownsRow B 39 8 (.slice a os.length c) os.length ((os.zip fs).flatMap cellsOb)) :
    ∀ j (h : j < os.length) (h2 : j < fs.length), ∃ g, a = some ⟨g, 0, none⟩ ∧ ObjAt w g (j * 8) os[j] (.slice fs[j].f fs[j].n fs[j].c) ∧ ∀ k, k < 8 → w.frozen? ⟨g, j * 8 + k, none⟩ = false := by
  intro j hj hj2
  have hz : j < (os.zip fs).length := by simp [hl, hj]
  have hzj : (os.zip fs)[j] = (os[j], fs[j]) := by simp
  have at_ : ∀ k, k < 8 → ∃ g, a = some ⟨g, 0, none⟩ ∧ w.cell? ⟨g, j * 8 + k, none⟩ = (cellsOb (os[j], fs[j]))[k]? ∧ w.frozen? ⟨g, j * 8 + k, none⟩ = false := by
    intro k hk
    obtain ⟨g, h1, h2, h3⟩ := row_cells h (j * 8 + k) (by omega)
    exact ⟨g, h1, by rw [h2, flat_at cellsOb 8 (fun _ => rfl) _ j k hz hk, hzj], h3⟩
  obtain ⟨g, h1, h2, h3⟩ := at_ 0 (by omega)
  have at2 : ∀ k, k < 8 → w.cell? ⟨g, j * 8 + k, none⟩ = (cellsOb (os[j], fs[j]))[k]? ∧ w.frozen? ⟨g, j * 8 + k, none⟩ = false := by
    intro k hk
    obtain ⟨g2, e1, e2, e3⟩ := at_ k hk
    rw [h1] at e1; injection e1 with e1; injection e1 with e1 _ _; subst e1
    exact ⟨e2, e3⟩
  exact ⟨g, h1, ⟨(at2 0 (by omega)).1, (at2 1 (by omega)).1, (at2 2 (by omega)).1, (at2 3 (by omega)).1, (at2 4 (by omega)).1, (at2 5 (by omega)).1, (at2 6 (by omega)).1, (at2 7 (by omega)).1⟩, fun k hk => (at2 k hk).2⟩
end Go.Proofs.Ytnjplfofcjonhaa
namespace Go.Proofs.Ytnjplfofcjonhaa
open Go.RowKit
set_option linter.unusedVariables false
set_option maxRecDepth 100000
theorem Four.set0 {X : World} {g : Nat} {x0 x1 x2 x3 : Value} (h : Four X g x0 x1 x2 x3) (u : Value) : Four (X.setCell ⟨g, 0, none⟩ u) g u x1 x2 x3 := heap_setCell_same X g 0 _ _ u h
theorem Four.set2 {X : World} {g : Nat} {x0 x1 x2 x3 : Value} (h : Four X g x0 x1 x2 x3) (u : Value) : Four (X.setCell ⟨g, 2, none⟩ u) g x0 x1 u x3 := heap_setCell_same X g 2 _ _ u h
theorem Four.setAll {X : World} {g : Nat} {x0 x1 x2 x3 : Value} (h : Four X g x0 x1 x2 x3) (y0 y1 y2 y3 : Value) : Four (setFour X g y0 y1 y2 y3) g y0 y1 y2 y3 :=
  heap_setCell_same _ g 3 _ _ y3 (heap_setCell_same _ g 2 _ _ y2 (heap_setCell_same _ g 1 _ _ y1 (heap_setCell_same X g 0 _ _ y0 h)))
theorem Four.later {X Y : World} {g : Nat} {x0 x1 x2 x3 : Value} (h : Four X g x0 x1 x2 x3) (hb : Below X.heap.size X Y) : Four Y g x0 x1 x2 x3 := (hb.block g h.lt).trans h
theorem Four.new (X : World) (x0 x1 x2 x3 : Value) : Four (X.alloc (.cells #[x0, x1, x2, x3] 29)) X.heap.size x0 x1 x2 x3 := heap_alloc_new X _
def OBx (X : World) (b : Nat) (o : ObjD) (f : Value) : Prop := X.heap[b]? = some (.cells #[.bool o.live, .int .i64 o.gen, .int .i64 o.site, .int .i64 o.holds, .int .i64 o.roots, .int .i64 o.count, f, .bool o.purple] 39 (0, 0))
theorem OBx.cell {X : World} {b : Nat} {o : ObjD} {f : Value} (h : OBx X b o f) (j : Nat) : X.cell? ⟨b, j, none⟩ = (#[.bool o.live, .int .i64 o.gen, .int .i64 o.site, .int .i64 o.holds, .int .i64 o.roots, .int .i64 o.count, f, .bool o.purple] : Array Value)[j]? := by rw [World.cell?, show X.heap[b]? = _ from h]; rfl
theorem OBx.frozen {X : World} {b : Nat} {o : ObjD} {f : Value} (h : OBx X b o f) (j : Nat) : X.frozen? ⟨b, j, none⟩ = false := by
  have h' : X.heap[b]? = _ := h
  simp [World.frozen?, h']
theorem OBx.lt {X : World} {b : Nat} {o : ObjD} {f : Value} (h : OBx X b o f) : b < X.heap.size := (Array.getElem?_eq_some_iff.1 h).1
theorem OBx.later {X Y : World} {b : Nat} {o : ObjD} {f : Value} (h : OBx X b o f) (hb : Below X.heap.size X Y) : OBx Y b o f := (hb.block b h.lt).trans h
theorem row_same {w w' : World} {B n size : Nat} {e : TypeId} {v : Value} {xs : List Value} (h : w.ownsRow B e size v n xs) (hs : ∀ g, v.ownBlock = some g → w'.heap[g]? = w.heap[g]?) : w'.ownsRow B e size v n xs := by
  rcases h with ⟨h1, h2 | ⟨g, cap, cur, h2, h3, h4, h5⟩⟩
  · exact ⟨h1, .inl h2⟩
  · exact ⟨h1, .inr ⟨g, cap, cur, h2, h3, by rw [hs g (by rw [h2]; rfl)]; exact h4, h5⟩⟩
theorem row_later {w w' : World} {B n size : Nat} {e : TypeId} {v : Value} {xs : List Value} (h : w.ownsRow B e size v n xs) (hb : Below w.heap.size w w') : w'.ownsRow B e size v n xs := row_same h (fun g hg => hb.block g (World.ownsRow.lt h g hg).2)
theorem row_mono {w : World} {B C n size : Nat} {e : TypeId} {v : Value} {xs : List Value} (h : w.ownsRow B e size v n xs) (hC : C ≤ B) : w.ownsRow C e size v n xs := by
  rcases h with ⟨h1, h2 | ⟨g, cap, cur, h2, h3, h4⟩⟩
  · exact ⟨h1, .inl h2⟩
  · exact ⟨h1, .inr ⟨g, cap, cur, h2, by omega, h4⟩⟩
theorem row_kind {w : World} {B n size : Nat} {e : TypeId} {v : Value} {xs : List Value} (h : w.ownsRow B e size v n xs) (g : Nat) (hg : v.ownBlock = some g) : ∃ cur, w.heap[g]? = some (.cells cur e (0, 0)) := by
  rcases h with ⟨h1, ⟨h2, _⟩ | ⟨g2, cap, cur, h2, h3, h4, h5⟩⟩
  · rw [h2] at hg; cases hg
  · rw [h2] at hg
    injection hg with hg
    exact ⟨cur, by rw [← hg]; exact h4⟩
theorem kind_ne {w : World} {g g2 : Nat} {c c2 : Array Value} {e e2 : TypeId} (h : w.heap[g]? = some (.cells c e (0, 0))) (h2 : w.heap[g2]? = some (.cells c2 e2 (0, 0))) (hne : e ≠ e2) : g ≠ g2 := by
  intro he
  subst he
  rw [h] at h2
  injection h2 with h2
  injection h2 with _ h3 _
  exact hne h3
theorem wpList_appendO {w : World} {ops : Array Oper} {rest : List Oper} {o : Oper} {a : Act} {Q : Exit → Act → World → Prop} (hgd : o.guard = none) (s x : Operand)
    (ho : o.op = .call { callee := .builtin .append, args := #[s, x], argTypes := #[24, 24] }) (B : Nat) (v : Value) (n : Nat) (xs : List Value) (hs : a.eval s = v) (hown : w.ownsRow B 39 8 v n xs)
    (g : Nat) (p : ObjD × OSh) (hx : a.eval x = .slice (some ⟨g, 0, none⟩) 1 1) (hb : OBx w g p.1 (.slice p.2.f p.2.n p.2.c)) (hn : n ≤ 1677721) (hB : B ≤ w.heap.size)
    (h : ∀ v' w', w'.ownsRow B 39 8 v' (n + 1) (xs ++ cellsOb p) → w.grownBy w' v.ownBlock → wpList Try.prog ops Q rest (a.put o.dst v') w') : wpList Try.prog ops Q (o :: rest) a w := by
  obtain ⟨i0, hi, hz0, hz1, hz2⟩ := info_parts infoO
  refine wpList_append_own w hgd s x 24 ho B 39 i0 _ 8 80 Try.underlying24 hi hz0 hz1 hz2 rfl (by decide) v n xs hs hown ⟨g, 0, none⟩ 1 1 (cellsOb p) hx rfl ?_ ?_ ?_ ?_ hB (fun v' w' h1 h2 _ => h v' w' h1 h2)
  · intro j u hj
    rw [Addr.add_lit, Nat.zero_add, hb.cell j]
    simpa [cellsOb] using hj
  · intro u hu
    simp only [cellsOb, List.mem_cons, List.not_mem_nil, or_false] at hu
    rcases hu with rfl | rfl | rfl | rfl | rfl | rfl | rfl | rfl <;> rfl
  · unfold maxLen; omega
  · omega
structure CI (W wr : World) (B g : Nat) (H : HeapD) (vo : Value) (wa : Option Addr) (wc : Nat) (ba : Option Addr) (bc : Nat) (sa : Option Addr) (sc : Nat) (fs : List OSh) (j : Nat) : Prop where
  bel : Below B W wr
  x : Four wr g vo (.slice wa H.weaks.length wc) (.slice ba H.buffer.length bc) (.slice sa H.sites.length sc)
  gB : B ≤ g
  ro : wr.ownsRow B 39 8 vo j (((H.objs.take j).zip fs).flatMap cellsOb)
  rw : wr.ownsRow B 65 2 (.slice wa H.weaks.length wc) H.weaks.length (H.weaks.flatMap cellsW)
  rb : ownI wr B (.slice ba H.buffer.length bc) H.buffer
  rs : ownS wr B (.slice sa H.sites.length sc) H.sites
  jl : j ≤ H.objs.length
  fl : fs.length = j
  f : ∀ i (h : i < fs.length) (h2 : i < H.objs.length), fs[i].n = H.objs[i].field.length ∧ ownI wr B (.slice fs[i].f fs[i].n fs[i].c) H.objs[i].field
  ff : fs.Pairwise (fun t u => Dif t.f u.f)
  fb : ∀ t ∈ fs, Dif ba t.f
theorem ci_step {W wr w5 w6 : World} {B g : Nat} {H : HeapD} {vo v2 : Value} {wa : Option Addr} {wc : Nat} {ba : Option Addr} {bc : Nat} {sa : Option Addr} {sc : Nat} {fs : List OSh} {j : Nat} (h : CI W wr B g H vo wa wc ba bc sa sc fs j) (hB : B ≤ wr.heap.size) (hj : j < H.objs.length) (b5 : Below wr.heap.size wr w5) (t : OSh) (hn : t.n = H.objs[j].field.length) (ht : ownI w5 wr.heap.size (.slice t.f t.n t.c) H.objs[j].field)
    (r6 : w6.ownsRow B 39 8 v2 (j + 1) (((H.objs.take j).zip fs).flatMap cellsOb ++ cellsOb (H.objs[j], t))) (g6 : w5.grownBy w6 vo.ownBlock) : CI W (w6.setCell ⟨g, 0, none⟩ v2) B g H v2 wa wc ba bc sa sc (fs ++ [t]) (j + 1) := by
  have hgl := h.x.lt
  have hs5 := b5.size
  -- a block of another kind than objects and heaps is as it was
  have keep : ∀ (i : Nat) (cur : Array Value) (e : TypeId), w5.heap[i]? = some (.cells cur e (0, 0)) → e ≠ 39 → e ≠ 29 → (w6.setCell ⟨g, 0, none⟩ v2).heap[i]? = w5.heap[i]? := by
    intro i cur e hi h1 h2
    have hi5 : i < w5.heap.size := (Array.getElem?_eq_some_iff.1 hi).1
    have hg5 : w5.heap[g]? = _ := (b5.block g hgl).trans h.x
    rw [heap_setCell_other _ _ _ _ (by exact kind_ne hi hg5 h2)]
    refine g6.block i hi5 (fun e2 => ?_)
    obtain ⟨cur2, hc⟩ := row_kind (row_later h.ro b5) i e2.symm
    exact kind_ne hi hc h1 rfl
  have keepR : ∀ {n sz C : Nat} {e : TypeId} {v : Value} {xs : List Value}, w5.ownsRow C e sz v n xs → e ≠ 39 → e ≠ 29 → (w6.setCell ⟨g, 0, none⟩ v2).ownsRow C e sz v n xs := by
    intro n sz C e v xs hr h1 h2
    refine row_same hr (fun i hi => ?_)
    obtain ⟨cur, hc⟩ := row_kind hr i hi
    exact keep i cur e hc h1 h2
  have hx6 : w6.heap[g]? = w5.heap[g]? := g6.block g (by omega) (fun e2 => by
    obtain ⟨cur2, hc⟩ := row_kind (row_later h.ro b5) g e2.symm
    exact kind_ne hc ((b5.block g hgl).trans h.x) (by decide) rfl)
  have hne2 : ∀ i, v2.ownBlock = some i → i ≠ g := fun i hi => by
    obtain ⟨cur2, hc⟩ := row_kind r6 i hi
    exact kind_ne hc (hx6.trans ((b5.block g hgl).trans h.x)) (by decide)
  refine ⟨?_, ?_, h.gB, ?_, keepR (row_later h.rw b5) (by decide) (by decide), keepR (ownI_later h.rb b5) (by decide) (by decide), keepR (ownS_later h.rs b5) (by decide) (by decide), hj, by simp [h.fl], ?_, ?_, ?_⟩
  · refine Below.setCell ?_ h.gB _
    refine ((h.bel.trans (b5.mono hB)).grown g6 (by omega) (fun k hk => ?_))
    exact (World.ownsRow.lt h.ro k hk).1
  · exact Four.set0 ((h.x.later b5).same hx6) v2
  · have e1 : (H.objs.take (j + 1)).zip (fs ++ [t]) = (H.objs.take j).zip fs ++ [(H.objs[j], t)] := by
      rw [List.take_succ_eq_append_getElem hj, List.zip_append (by simp [h.fl]; omega)]
      rfl
    rw [e1, List.flatMap_append, List.flatMap_cons, List.flatMap_nil, List.append_nil]
    exact row_same r6 (fun i hi => heap_setCell_other _ _ _ _ (by exact hne2 i hi))
  · intro i hi hi2
    by_cases e : i < fs.length
    · rw [List.getElem_append_left e]
      obtain ⟨h1, h2⟩ := h.f i e hi2
      exact ⟨h1, keepR (ownI_later h2 b5) (by decide) (by decide)⟩
    · obtain rfl : i = fs.length := by simp at hi; omega
      have e2 : (fs ++ [t])[fs.length] = t := by simp
      have e3 : H.objs[fs.length] = H.objs[j] := by congr 1; exact h.fl
      rw [e2, e3]
      exact ⟨hn, keepR (ownI_mono ht hB) (by decide) (by decide)⟩
  · rw [List.pairwise_append]
    refine ⟨h.ff, by simp, fun a ha b hb => ?_⟩
    simp only [List.mem_singleton] at hb
    subst hb
    obtain ⟨i, hi, rfl⟩ := List.mem_iff_getElem.1 ha
    intro x y hx hy e
    have h1 := (ownI_lt (h.f i hi (by have := h.fl; omega)).2 _ (own_block hx)).2
    have h2 := (ownI_lt ht _ (own_block hy)).1
    omega
  · intro a ha
    rcases List.mem_append.1 ha with ha | ha
    · exact h.fb a ha
    · simp only [List.mem_singleton] at ha
      subst ha
      intro x y hx hy e
      have h1 := (ownI_lt h.rb _ (own_block hx)).2
      have h2 := (ownI_lt ht _ (own_block hy)).1
      omega
theorem ci_end {W wr : World} {B g : Nat} {H : HeapD} {oa : Option Addr} {oc : Nat} {wa : Option Addr} {wc : Nat} {ba : Option Addr} {bc : Nat} {sa : Option Addr} {sc : Nat} {fs : List OSh} (h : CI W wr B g H (.slice oa H.objs.length oc) wa wc ba bc sa sc fs H.objs.length) :
    HM wr B ⟨oa, oc, fs, wa, H.weaks.length, wc, ba, H.buffer.length, bc, sa, H.sites.length, sc⟩ H where
  lo := h.fl
  lw := rfl
  lb := rfl
  ls := rfl
  o := by
    have hr := h.ro
    rw [List.take_length] at hr
    exact row_objs h.fl hr
  f := fun j hj hj2 => h.f j hj2 hj
  og := row_block h.ro
  wk := row_weaks h.rw
  wg := row_block h.rw
  b := h.rb
  st := h.rs
  sep := by
    have fk : ∀ t ∈ fs, ∃ zs : List Int, ownI wr B (.slice t.f t.n t.c) zs ∧ t.n = zs.length := by
      intro t ht
      obtain ⟨i, hi, rfl⟩ := List.mem_iff_getElem.1 ht
      have := h.f i hi (by have := h.fl; omega)
      exact ⟨_, this.2, this.1⟩
    have fd : ∀ {n sz : Nat} {e : TypeId} {a : Option Addr} {c : Nat} {xs : List Value}, wr.ownsRow B e sz (.slice a n c) n xs → e ≠ 3 → ∀ t ∈ fs, Dif a t.f := by
      intro n sz e a c xs hr hne t ht
      obtain ⟨zs, hz, hzn⟩ := fk t ht
      unfold ownI at hz
      rw [← hzn] at hz
      exact row_dif hr hz hne
    have hb := h.rb
    have hs := h.rs
    unfold ownI at hb
    unfold ownS at hs
    exact ⟨row_dif h.ro h.rw (by decide), row_dif h.ro hb (by decide), row_dif h.ro hs (by decide), row_dif h.rw hb (by decide), row_dif h.rw hs (by decide), row_dif hb hs (by decide), fd h.ro (by decide), fd h.rw (by decide), h.fb, fd hs (by decide), h.ff⟩
end Go.Proofs.Ytnjplfofcjonhaa

namespace Go.Proofs.Ytnjplfofcjonhaa
open Go.RowKit
set_option linter.unusedVariables false
set_option maxRecDepth 100000
structure TrialD where
  counts : List Int
  colors : List Int
def RdT (w : World) (v : Value) (T : TrialD) : Prop := ∃ a c b d, v = .agg #[.slice a T.counts.length c, .slice b T.colors.length d] ∧ RdI w a T.counts ∧ RdI w b T.colors
theorem rdT_later {w w' : World} {v : Value} {T : TrialD} (h : RdT w v T) (hb : Below w.heap.size w w') : RdT w' v T := by
  obtain ⟨a, c, b, d, h1, h2, h3⟩ := h
  exact ⟨a, c, b, d, h1, rdI_later h2 hb, rdI_later h3 hb⟩
structure SmallT (T : TrialD) : Prop where
  counts : T.counts.length ≤ 1048576
  colors : T.colors.length ≤ 1048576
def whiteL : List Int → Int → List Int
  | [], _ => []
  | z :: r, i => if z = 2 then i :: whiteL r (i + 1) else whiteL r (i + 1)
def whites (T : TrialD) : List Int := whiteL T.colors 0
theorem white_step (zs : List Int) (j : Nat) (h : j < zs.length) : whiteL (zs.drop j) (j : Int) = if zs[j] = 2 then (j : Int) :: whiteL (zs.drop (j + 1)) ((j + 1 : Nat) : Int) else whiteL (zs.drop (j + 1)) ((j + 1 : Nat) : Int) := by
  rw [List.drop_eq_getElem_cons h]; simp [whiteL]
theorem white_end (zs : List Int) (j : Nat) (h : zs.length ≤ j) (i : Int) : whiteL (zs.drop j) i = [] := by
  rw [List.drop_eq_nil_of_le h]; rfl
theorem sWhites_calls (v : Value) (T : TrialD) (w : World) (h : RdT w v T) (hs : SmallT T) :
    Calls Try.prog 63 #[v] w fun e w' => ∃ u, e = .returned u ∧ ownI w' w.heap.size u (whites T) ∧ Below w.heap.size w w' := by
  obtain ⟨aa, ac, ab, ad, rfl, -, ri⟩ := h
  have hn := hs.colors
  clear hs
  obtain ⟨W, hW⟩ : ∃ W, W = w.alloc (.cells #[.slice aa T.counts.length ac, .slice ab T.colors.length ad] 77) := ⟨_, rfl⟩
  have BW : Below w.heap.size w W := by rw [hW]; exact (Below.refl _ _).alloc (Nat.le_refl _) _
  have hsW : W.heap.size = w.heap.size + 1 := by rw [hW]; simp
  have hp : W.cell? ⟨w.heap.size, 1, none⟩ = some (.slice ab T.colors.length ad) := by rw [hW, World.cell?_alloc_mark]; rfl
  have H0 : Hid (whites T = [] ++ whiteL (T.colors.drop 0) ((0 : Nat) : Int)) := by show _ = _; unfold whites; rw [List.drop_zero]; rfl
  have HS : Hid (∀ (j : Nat) (h : j < T.colors.length), _) := fun j h => white_step T.colors j h
  have HN : Hid (∀ (j : Nat), T.colors.length ≤ j → whiteL (T.colors.drop j) (j : Int) = []) := fun j h => white_end T.colors j h _
  have HR2 : Hid (∀ X, Below W.heap.size W X → RdI X ab T.colors) := fun X hX => rdI_later (rdI_later ri BW) hX
  generalize whites T = Z at *
  generalize T.counts.length = nc at *
  generalize T.colors = zs at *
  obtain ⟨n, hnn⟩ : ∃ n, zs.length = n := ⟨_, rfl⟩
  have Hn : Hid (zs.length = n) := hnn
  rw [hnn] at hn hp hW ⊢
  clear ri hnn
  have O1 : ownI (W.alloc (.cells #[] 3)) W.heap.size (.slice (some ⟨W.heap.size, 0, none⟩) 0 0) [] := ownI_new _ _ (Nat.le_refl _)
  have B1 : Below W.heap.size W (W.alloc (.cells #[] 3)) := (Below.refl _ _).alloc (Nat.le_refl _) _
  have HP : Hid (∀ X, Below W.heap.size W X → X.cell? ⟨w.heap.size, 1, none⟩ = some (.slice ab n ad)) := fun X hX => (hX.cell (p := ⟨w.heap.size, 1, none⟩) (by show w.heap.size < _; omega)).trans hp
  have HsW : Hid (W.heap.size = w.heap.size + 1) := hsW
  clear hp hsW
  go_enter Try.func63, Try.ntmps63
  go_wp2
  rw [← hW]
  clear hW
  go_loopw [3, 4] (fun v i wr => ∃ (j : Nat) (P : List Int), j ≤ n ∧ i = .int .i64 j ∧ P.length ≤ j ∧ Hid (Z = P ++ whiteL (zs.drop j) (j : Int)) ∧ ownI wr W.heap.size v P ∧ Below W.heap.size W wr) (fun _ i _ => n - (intOf i).toNat)
  case atStart => exact ⟨0, [], by omega, rfl, by simp, H0, HsW.out ▸ O1, B1⟩
  case round =>
    obtain ⟨j, P, hj, rfl, hPl, HJ, hown, hb⟩ := hrel
    have hp := HP.out _ hb
    by_cases hlt : j < n
    · have hj2 : j < zs.length := by have := Hn.out; omega
      obtain ⟨g, off, rfl, -, hc⟩ := HR2.out _ hb j hj2
      have HD : Hid (_ = _) := HS.out j hj2
      generalize zs[j] = z at *
      by_cases hz : z = 2
      · subst hz
        have HZ : Hid (Z = (P ++ [(j : Int)]) ++ whiteL (zs.drop (j + 1)) ((j + 1 : Nat) : Int)) := by show _ = _; rw [HJ.out, HD.out, if_pos rfl]; simp
        clear HD
        go_wp2_with (at_builtin; refine wpList_appendI rfl _ _ rfl W.heap.size _ P rfl (ownI_alloc _ hown) ⟨wr.heap.size, 0, none⟩ [(j : Int)] 1 1 rfl rfl ?hsrc ?hlen W (hb.alloc hb.size _) (Nat.le_refl _) ?_)
        case hsrc => exact src_int wr (j : Int)
        case hlen => rw [List.length_singleton]; omega
        · intro v4 w4 O4 B4
          go_wp2
          go_roundw
          case rel => exact ⟨j + 1, P ++ [(j : Int)], by omega, by go_num, by rw [List.length_append, List.length_singleton]; omega, HZ, O4, B4⟩
          case measure => simp [intOf]; omega
      · have HZ : Hid (Z = P ++ whiteL (zs.drop (j + 1)) ((j + 1 : Nat) : Int)) := by show _ = _; rw [HJ.out, HD.out, if_neg hz]
        clear HD
        go_wp2
        go_roundw
        case rel => exact ⟨j + 1, P, by omega, by go_num, by omega, HZ, hown, hb⟩
        case measure => simp [intOf]; omega
    · obtain rfl : j = n := by omega
      have HZ : Hid (Z = P) := by show _ = _; rw [HJ.out, HN.out j (by have := Hn.out; omega), List.append_nil]
      go_wp2
      go_ret
      exact ⟨_, rfl, HZ.out ▸ ownI_mono hown BW.size, BW.trans (hb.mono BW.size)⟩
def kidL (H : HeapD) : List Int → List Int
  | [] => []
  | z :: r => if 0 ≤ slotZ H z then slotZ H z :: kidL H r else kidL H r
theorem kid_step (H : HeapD) (zs : List Int) (j : Nat) (h : j < zs.length) : kidL H (zs.drop j) = if 0 ≤ slotZ H zs[j] then slotZ H zs[j] :: kidL H (zs.drop (j + 1)) else kidL H (zs.drop (j + 1)) := by
  rw [List.drop_eq_getElem_cons h]; simp [kidL]
theorem kid_end (H : HeapD) (zs : List Int) (j : Nat) (h : zs.length ≤ j) : kidL H (zs.drop j) = [] := by
  rw [List.drop_eq_nil_of_le h]; rfl
theorem kidL_le (H : HeapD) (zs : List Int) : (kidL H zs).length ≤ zs.length := by
  induction zs with
  | nil => simp [kidL]
  | cons z r ih => unfold kidL; split <;> simp <;> omega
theorem sKids_calls (v : Value) (H : HeapD) (s : Nat) (w : World) (h : RdH w v H) (hs : SmallH H) (hl : s < H.objs.length) (hf : ∀ z ∈ H.objs[s].field, in64 z) :
    Calls Try.prog 94 #[v, .int .i64 (s : Int)] w fun e w' => ∃ u, e = .returned u ∧ ownI w' w.heap.size u (kidL H H.objs[s].field) ∧ Below w.heap.size w w' := by
  have HRH : Hid (RdH w v H) := h
  obtain ⟨ao, co, aw, cw, ab, cb, sa, sc, rfl, ro, -, -, -⟩ := h
  have hn := hs.objs
  have hfl := hs.fields _ (List.getElem_mem hl)
  clear hs
  obtain ⟨W, hW⟩ : ∃ W, W = w.alloc (.cells #[.slice ao H.objs.length co, .slice aw H.weaks.length cw, .slice ab H.buffer.length cb, .slice sa H.sites.length sc] 29) := ⟨_, rfl⟩
  have BW : Below w.heap.size w W := by rw [hW]; exact (Below.refl _ _).alloc (Nat.le_refl _) _
  have hsW : W.heap.size = w.heap.size + 1 := by rw [hW]; simp
  have hp0 : W.cell? ⟨w.heap.size, 0, none⟩ = some (.slice ao H.objs.length co) := by rw [hW, World.cell?_alloc_mark]; rfl
  have hp1 : W.cell? ⟨w.heap.size, 1, none⟩ = some (.slice aw H.weaks.length cw) := by rw [hW, World.cell?_alloc_mark]; rfl
  have hp2 : W.cell? ⟨w.heap.size, 2, none⟩ = some (.slice ab H.buffer.length cb) := by rw [hW, World.cell?_alloc_mark]; rfl
  have hp3 : W.cell? ⟨w.heap.size, 3, none⟩ = some (.slice sa H.sites.length sc) := by rw [hW, World.cell?_alloc_mark]; rfl
  obtain ⟨g, off, f, fc, rfl, hg, hc, hr⟩ := ro s hl
  have hc6 := hc.c6
  have hcW : W.cell? ⟨g, off + s * 8 + 6, none⟩ = some (.slice f H.objs[s].field.length fc) := (BW.cell (p := ⟨g, off + s * 8 + 6, none⟩) hg).trans hc6
  have hrW : RdI W f H.objs[s].field := rdI_later hr BW
  have HRW : Hid (RdH W _ H) := rdH_later HRH.out BW
  have hgW : g < W.heap.size := by omega
  have HFC : Hid (∀ X, Below W.heap.size W X → X.cell? ⟨g, off + s * 8 + 6, none⟩ = some (.slice f H.objs[s].field.length fc)) := fun X hX => (hX.cell (p := ⟨g, off + s * 8 + 6, none⟩) hgW).trans hcW
  have HRI : Hid (∀ X, Below W.heap.size W X → RdI X f H.objs[s].field) := fun X hX => rdI_later hrW hX
  have HRX : Hid (∀ X, Below W.heap.size W X → RdH X _ H) := fun X hX => rdH_later HRW.out hX
  have HF : Hid (∀ z ∈ H.objs[s].field, in64 z) := hf
  clear hc hc6 hcW hr hrW HRW HRH ro hf hg
  generalize H.objs[s].field = zs at *
  have H0 : Hid (kidL H zs = [] ++ kidL H (zs.drop 0)) := by show _ = _; rw [List.drop_zero]; rfl
  have HS : Hid (∀ (j : Nat) (h : j < zs.length), _) := fun j h => kid_step H zs j h
  have HN : Hid (∀ (j : Nat), zs.length ≤ j → kidL H (zs.drop j) = []) := fun j h => kid_end H zs j h
  generalize hZ : kidL H zs = Z at *
  clear hZ
  obtain ⟨n, hnn⟩ : ∃ n, H.objs.length = n := ⟨_, rfl⟩
  have Hn : Hid (H.objs.length = n) := hnn
  have CS : Hid (∀ (z : Int) X, in64 z → RdH X _ H → _) := fun z X hz hX => sSlotOf_calls (.agg #[.slice (some ⟨g, off, none⟩) H.objs.length co, .slice aw H.weaks.length cw, .slice ab H.buffer.length cb, .slice sa H.sites.length sc]) H z X hX (by omega) hz.1 hz.2
  rw [hnn] at hn hp0 hW hl CS HRX ⊢
  clear hnn
  have O1 : ownI (W.alloc (.cells #[] 3)) W.heap.size (.slice (some ⟨W.heap.size, 0, none⟩) 0 0) [] := ownI_new _ _ (Nat.le_refl _)
  have B1 : Below W.heap.size W (W.alloc (.cells #[] 3)) := (Below.refl _ _).alloc (Nat.le_refl _) _
  have hlt0 : w.heap.size < W.heap.size := by omega
  have HP : Hid (∀ X, Below W.heap.size W X → X.cell? ⟨w.heap.size, 0, none⟩ = some (.slice (some ⟨g, off, none⟩) n co) ∧ X.cell? ⟨w.heap.size, 1, none⟩ = some (.slice aw H.weaks.length cw) ∧ X.cell? ⟨w.heap.size, 2, none⟩ = some (.slice ab H.buffer.length cb) ∧ X.cell? ⟨w.heap.size, 3, none⟩ = some (.slice sa H.sites.length sc)) := fun X hX => ⟨(hX.cell (p := ⟨w.heap.size, 0, none⟩) hlt0).trans hp0, (hX.cell (p := ⟨w.heap.size, 1, none⟩) hlt0).trans hp1, (hX.cell (p := ⟨w.heap.size, 2, none⟩) hlt0).trans hp2, (hX.cell (p := ⟨w.heap.size, 3, none⟩) hlt0).trans hp3⟩
  have HsW : Hid (W.heap.size = w.heap.size + 1) := hsW
  clear hp0 hp1 hp2 hp3 hsW hlt0 hgW
  go_enter Try.func94, Try.ntmps94
  go_wp2
  rw [← hW]
  clear hW
  go_loopw [5, 6] (fun v i wr => ∃ (j : Nat) (P : List Int), j ≤ zs.length ∧ i = .int .i64 j ∧ P.length ≤ j ∧ Hid (Z = P ++ kidL H (zs.drop j)) ∧ ownI wr W.heap.size v P ∧ Below W.heap.size W wr) (fun _ i _ => zs.length - (intOf i).toNat)
  case atStart => exact ⟨0, [], by omega, rfl, by simp, H0, HsW.out ▸ O1, B1⟩
  case round =>
    obtain ⟨j, P, hj, rfl, hPl, HJ, hown, hb⟩ := hrel
    obtain ⟨p0, p1, p2, p3⟩ := HP.out _ hb
    have hfc := HFC.out _ hb
    by_cases hlt : j < zs.length
    · obtain ⟨fg, fo, rfl, hfg, hcz⟩ := HRI.out _ hb j hlt
      have HD : Hid (_ = _) := HS.out j hlt
      have hz64 := HF.out _ (List.getElem_mem hlt)
      generalize zs[j] = z at *
      have hne := LaterW.some_ wr
      have HPX : Hid (∀ X : LaterW wr, _) := fun X => HP.out X.on (hb.trans (X.bel.mono hb.size))
      have y0 : ∀ X : LaterW wr, X.on.cell? ⟨w.heap.size, 0, none⟩ = some (.slice (some ⟨g, off, none⟩) n co) := fun X => (HPX.out X).1
      have y1 : ∀ X : LaterW wr, X.on.cell? ⟨w.heap.size, 1, none⟩ = some (.slice aw H.weaks.length cw) := fun X => (HPX.out X).2.1
      have y2 : ∀ X : LaterW wr, X.on.cell? ⟨w.heap.size, 2, none⟩ = some (.slice ab H.buffer.length cb) := fun X => (HPX.out X).2.2.1
      have y3 : ∀ X : LaterW wr, X.on.cell? ⟨w.heap.size, 3, none⟩ = some (.slice sa H.sites.length sc) := fun X => (HPX.out X).2.2.2
      have y6 : ∀ X : LaterW wr, X.on.cell? ⟨g, off + s * 8 + 6, none⟩ = some (.slice (some ⟨fg, fo, none⟩) zs.length fc) := fun X => HFC.out X.on (hb.trans (X.bel.mono hb.size))
      have yz : ∀ X : LaterW wr, X.on.cell? ⟨fg, fo + j, none⟩ = some (.int .i64 z) := fun X => (X.bel.cell (p := ⟨fg, fo + j, none⟩) hfg).trans hcz
      have CSX : Hid (∀ X : LaterW wr, _) := fun X => CS.out z X.on hz64 (HRX.out X.on (hb.trans (X.bel.mono hb.size)))
      have i1 : (s : Int) < (n : Int) := by omega
      have i2 : (j : Int) < (zs.length : Int) := by omega
      clear hcz
      obtain ⟨sl, hsl⟩ : ∃ sl, slotZ H z = sl := ⟨_, rfl⟩
      have hsl7 : -1 ≤ sl ∧ sl ≤ 7 := by
        rw [← hsl]
        unfold slotZ
        split
        · omega
        · split
          · omega
          · split <;> omega
      rw [hsl] at HD CSX
      clear hsl
      go_wp2
      refine wp_region_later wr (Below.refl _ _) (by kernel_rfl) (by kernel_rfl) ?_
      repeat (go_big_quiet_step (first
        | (go_at_call 11; refine (CSX.out _).mono ?_; rintro e w1 ⟨rfl, b1⟩; exact ⟨rfl, LaterW.step _ b1⟩)))
      refine wpQuiet_nil ?_
      intro X hXe
      have hX : Below wr.heap.size wr X := by obtain ⟨q, hq⟩ := hXe; rw [hq]; exact q.bel
      clear hXe
      have hown2 := ownI_later hown hX
      have hb2 := hb.trans (hX.mono hb.size)
      clear y0 y1 y2 y3 y6 yz hne HPX CSX hown hb p0 p1 p2 p3 hfc
      by_cases hz : 0 ≤ sl
      · have HZ : Hid (Z = (P ++ [sl]) ++ kidL H (zs.drop (j + 1))) := by show _ = _; rw [HJ.out, HD.out, if_pos hz]; simp
        clear HD
        go_wp2_with (at_builtin; refine wpList_appendI rfl _ _ rfl W.heap.size _ P rfl (ownI_alloc _ hown2) ⟨X.heap.size, 0, none⟩ [sl] 1 1 rfl rfl ?hsrc ?hlen W (hb2.alloc hb2.size _) (Nat.le_refl _) ?_)
        case hsrc => exact src_int X sl
        case hlen => rw [List.length_singleton]; omega
        · intro v4 w4 O4 B4
          go_wp2
          go_roundw
          case rel => exact ⟨j + 1, P ++ [sl], by omega, by go_num, by rw [List.length_append, List.length_singleton]; omega, HZ, O4, B4⟩
          case measure => simp [intOf]; omega
      · have HZ : Hid (Z = P ++ kidL H (zs.drop (j + 1))) := by show _ = _; rw [HJ.out, HD.out, if_neg hz]
        clear HD
        go_wp2
        go_roundw
        case rel => exact ⟨j + 1, P, by omega, by go_num, by omega, HZ, hown2, hb2⟩
        case measure => simp [intOf]; omega
    · have e : zs.length ≤ j := by omega
      have HZ : Hid (Z = P) := by show _ = _; rw [HJ.out, HN.out j e, List.append_nil]
      go_wp2
      go_ret
      exact ⟨_, rfl, HZ.out ▸ ownI_mono hown BW.size, BW.trans (hb.mono BW.size)⟩
end Go.Proofs.Ytnjplfofcjonhaa
