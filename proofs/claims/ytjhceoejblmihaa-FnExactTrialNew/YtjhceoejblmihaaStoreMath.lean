/- Worlds behind a list of stores; what the laws' marks on numbers, objects and handles store. -/
import Derived.Test.YtjhceoejblmihaaHeap2Walks
namespace Go.Proofs.Ytjhceoejblmihaa
open Go.RowKit
set_option linter.unusedVariables false

abbrev Sts := List (Addr × Value)
def stores (w : World) : Sts → World
  | [] => w
  | p :: r => stores (w.setCell p.1 p.2) r
theorem stores_append (L M : Sts) : ∀ w, stores w (L ++ M) = stores (stores w L) M := by
  induction L with
  | nil => intro w; rfl
  | cons p r ih => intro w; exact ih _
theorem stores_frozen (L : Sts) (a : Addr) : ∀ w, (stores w L).frozen? a = w.frozen? a := by
  induction L with
  | nil => intro w; rfl
  | cons p r ih => intro w; rw [stores, ih, World.frozen?_setCell]
theorem stores_size (L : Sts) : ∀ w, (stores w L).heap.size = w.heap.size := by
  induction L with
  | nil => intro w; rfl
  | cons p r ih => intro w; rw [stores, ih]; simp [World.setCell]
theorem stores_some (L : Sts) (a : Addr) : ∀ w, (∃ x, w.cell? a = some x) → ∃ x, (stores w L).cell? a = some x := by
  induction L with
  | nil => intro w h; exact h
  | cons p r ih => intro w h; exact ih _ (some_set _ _ _ _ h)
theorem stores_other (L : Sts) (a : Addr) (h : ∀ p ∈ L, p.1 ≠ a) : ∀ w, (stores w L).cell? a = w.cell? a := by
  induction L with
  | nil => intro w; rfl
  | cons p r ih =>
    intro w
    rw [stores, ih (fun q hq => h q (List.mem_cons_of_mem _ hq)), World.cell?_setCell_other _ _ _ _ (h p (List.mem_cons_self ..))]
theorem stores_mem (L : Sts) (hn : (L.map (·.1)).Nodup) : ∀ w, (∀ p ∈ L, ∃ x, w.cell? p.1 = some x) → ∀ p ∈ L, (stores w L).cell? p.1 = some p.2 := by
  induction L with
  | nil => intro w _ p hp; simp at hp
  | cons q r ih =>
    intro w hs p hp
    rw [List.map_cons, List.nodup_cons] at hn
    rcases List.mem_cons.1 hp with rfl | hp
    · obtain ⟨x, hx⟩ := hs p (List.mem_cons_self ..)
      rw [stores, stores_other _ _ (fun z hz e => hn.1 (by rw [← e]; exact List.mem_map_of_mem hz)), World.cell?_setCell_same w _ _ hx]
    · exact ih hn.2 _ (fun z hz => some_set _ _ _ _ (hs z (List.mem_cons_of_mem _ hz))) p hp
theorem stores_block (L : Sts) (i : Nat) (h : ∀ p ∈ L, p.1.block ≠ i) : ∀ w, (stores w L).heap[i]? = w.heap[i]? := by
  induction L with
  | nil => intro w; rfl
  | cons p r ih =>
    intro w
    rw [stores, ih (fun q hq => h q (List.mem_cons_of_mem _ hq)), heap_setCell_other w p.1 i p.2 (fun e => h p (List.mem_cons_self ..) e.symm)]
theorem stores_below {B : Nat} {a : World} (L : Sts) (hL : ∀ p ∈ L, B ≤ p.1.block) : ∀ w, Below B a w → Below B a (stores w L) := by
  induction L with
  | nil => intro w h; exact h
  | cons p r ih => intro w h; exact ih (fun q hq => hL q (List.mem_cons_of_mem _ hq)) _ (h.setCell (hL p (List.mem_cons_self ..)) _)

/-- What markIntS stores. -/
def mkI (a : Option Addr) (k : Int) (n : Nat) : Sts := match a with
  | none => []
  | some x => (List.range n).map fun j => (⟨x.block, x.off + j, none⟩, .int .i64 (k + (j : Int)))
theorem mkI_zero (a : Option Addr) (k : Int) : mkI a k 0 = [] := by unfold mkI; cases a <;> rfl
theorem mkI_succ (g off : Nat) (k : Int) (j : Nat) : mkI (some ⟨g, off, none⟩) k (j + 1) = mkI (some ⟨g, off, none⟩) k j ++ [(⟨g, off + j, none⟩, .int .i64 (k + (j : Int)))] := by
  simp [mkI, List.range_succ]
theorem mkI_at (g off : Nat) (k : Int) (n j : Nat) (h : j < n) : ((⟨g, off + j, none⟩, .int .i64 (k + (j : Int))) : Addr × Value) ∈ mkI (some ⟨g, off, none⟩) k n := by
  unfold mkI; exact List.mem_map.2 ⟨j, List.mem_range.2 h, rfl⟩
theorem mkI_block (a : Option Addr) (k : Int) (n : Nat) (p : Addr × Value) (h : p ∈ mkI a k n) : 0 < n ∧ ∃ x, a = some x ∧ p.1.block = x.block := by
  unfold mkI at h
  cases a with
  | none => simp at h
  | some x =>
    obtain ⟨j, hj, rfl⟩ := List.mem_map.1 h
    have := List.mem_range.1 hj
    exact ⟨by omega, x, rfl, rfl⟩
theorem mkI_nodup (a : Option Addr) (k : Int) (n : Nat) : ((mkI a k n).map (·.1)).Nodup := by
  unfold mkI
  cases a with
  | none => simp
  | some x =>
    rw [List.map_map]
    refine List.pairwise_map.2 (List.pairwise_lt_range.imp ?_)
    intro i j hij e
    simp at e
    omega

/-- A row of n cells that may be written. -/
def CanI (w : World) (a : Option Addr) (n : Nat) : Prop := ∀ j, j < n → ∃ g off, a = some ⟨g, off, none⟩ ∧ g < w.heap.size ∧ (∃ x, w.cell? ⟨g, off + j, none⟩ = some x) ∧ w.frozen? ⟨g, off + j, none⟩ = false
theorem canI_set {w : World} {a : Option Addr} {n : Nat} (p : Addr) (u : Value) (h : CanI w a n) : CanI (w.setCell p u) a n := by
  intro j hj
  obtain ⟨g, off, h1, h2, h3, h4⟩ := h j hj
  exact ⟨g, off, h1, by simpa [World.setCell] using h2, some_set _ _ _ _ h3, by rw [World.frozen?_setCell]; exact h4⟩
theorem canI_set6 {w : World} {a : Option Addr} {n : Nat} (p0 p1 p2 p3 p4 p5 : Addr) (u0 u1 u2 u3 u4 u5 : Value) (h : CanI w a n) : CanI ((((((w.setCell p0 u0).setCell p1 u1).setCell p2 u2).setCell p3 u3).setCell p4 u4).setCell p5 u5) a n := canI_set _ _ (canI_set _ _ (canI_set _ _ (canI_set _ _ (canI_set _ _ (canI_set _ _ h)))))
theorem canI_stores {w : World} {a : Option Addr} {n : Nat} (L : Sts) (h : CanI w a n) : CanI (stores w L) a n := by
  intro j hj
  obtain ⟨g, off, h1, h2, h3, h4⟩ := h j hj
  exact ⟨g, off, h1, by rw [stores_size]; exact h2, stores_some _ _ _ h3, by rw [stores_frozen]; exact h4⟩
theorem canI_keep {w w' : World} {a : Option Addr} {n : Nat} (h : CanI w a n) (hs : w.heap.size ≤ w'.heap.size) (hb : ∀ x, a = some x → 0 < n → w'.heap[x.block]? = w.heap[x.block]?) : CanI w' a n := by
  intro j hj
  obtain ⟨g, off, h1, h2, h3, h4⟩ := h j hj
  have e := hb _ h1 (by omega)
  refine ⟨g, off, h1, by omega, ?_, ?_⟩
  · obtain ⟨x, hx⟩ := h3
    exact ⟨x, by exact (World.cell?_of_block (w := w) (a := ⟨g, off + j, none⟩) e).trans hx⟩
  · exact (World.frozen?_of_block (w := w) (a := ⟨g, off + j, none⟩) e).trans h4

/-- The slice of an object's fields. -/
structure OSh where
  f : Option Addr
  n : Nat
  c : Nat
/-- A row of objects that may be written: where the fields' slices stand, and their rows. -/
structure CanO1 (w : World) (g p : Nat) (s : OSh) : Prop where
  lt : g < w.heap.size
  cell : ∀ k, k < 8 → (∃ x, w.cell? ⟨g, p + k, none⟩ = some x) ∧ w.frozen? ⟨g, p + k, none⟩ = false
  head : w.cell? ⟨g, p + 6, none⟩ = some (.slice s.f s.n s.c)
  row : CanI w s.f s.n
  apart : ∀ x, s.f = some x → 0 < s.n → x.block ≠ g
def CanO (w : World) (a : Option Addr) (ss : List OSh) : Prop := ∀ j (h : j < ss.length), ∃ g off, a = some ⟨g, off, none⟩ ∧ CanO1 w g (off + j * 8) ss[j]
abbrev b3 (k : Int) : Bool := k % 3 == 0
/-- What markObjS stores into one object, into all. -/
def mkO1 (g p : Nat) (s : OSh) (k : Int) : Sts :=
  [(⟨g, p, none⟩, .bool (b3 k)), (⟨g, p + 1, none⟩, .int .i64 (k + 1)), (⟨g, p + 2, none⟩, .int .i64 (k + 1 + 1)), (⟨g, p + 3, none⟩, .int .i64 (k + 1 + 1 + 1)), (⟨g, p + 4, none⟩, .int .i64 (k + 1 + 1 + 1 + 1)), (⟨g, p + 5, none⟩, .int .i64 (k + 1 + 1 + 1 + 1 + 1))] ++
  (mkI s.f (k + 1 + 1 + 1 + 1 + 1 + 1) s.n ++ [(⟨g, p + 7, none⟩, .bool (b3 (k + 1 + 1 + 1 + 1 + 1 + 1 + (s.n : Int))))])
def cntO (ss : List OSh) : Nat := (ss.map (fun s => 7 + s.n)).sum
def mkOs (g : Nat) : Nat → List OSh → Int → Sts
  | _, [], _ => []
  | p, s :: r, k => mkO1 g p s k ++ mkOs g (p + 8) r (k + ((7 + s.n : Nat) : Int))
def mkO (a : Option Addr) (ss : List OSh) (k : Int) : Sts := match a with
  | none => []
  | some x => mkOs x.block x.off ss k
theorem mkOs_append (g : Nat) (A B : List OSh) : ∀ p k, mkOs g p (A ++ B) k = mkOs g p A k ++ mkOs g (p + A.length * 8) B (k + (cntO A : Int)) := by
  induction A with
  | nil => intro p k; simp [mkOs, cntO]
  | cons s r ih =>
    intro p k
    simp only [List.cons_append, mkOs, List.append_assoc]
    rw [ih]
    have e1 : p + 8 + r.length * 8 = p + (s :: r).length * 8 := by simp; omega
    have e2 : k + ((7 + s.n : Nat) : Int) + (cntO r : Int) = k + (cntO (s :: r) : Int) := by simp [cntO]; omega
    rw [e1, e2]
theorem cntO_succ (ss : List OSh) (j : Nat) (h : j < ss.length) : cntO (ss.take (j + 1)) = cntO (ss.take j) + (7 + ss[j].n) := by
  unfold cntO
  rw [List.take_succ_eq_append_getElem h, List.map_append, List.sum_append]
  simp
theorem mkOs_succ (g p : Nat) (ss : List OSh) (k : Int) (j : Nat) (h : j < ss.length) : mkOs g p (ss.take (j + 1)) k = mkOs g p (ss.take j) k ++ mkO1 g (p + j * 8) ss[j] (k + (cntO (ss.take j) : Int)) := by
  rw [List.take_succ_eq_append_getElem h, mkOs_append, List.length_take, Nat.min_eq_left (by omega)]
  simp [mkOs]
theorem cntO_le (ss : List OSh) (m : Nat) (h : ∀ s ∈ ss, s.n ≤ m) : cntO ss ≤ ss.length * (7 + m) := by
  unfold cntO
  induction ss with
  | nil => simp
  | cons o r ih =>
    have h1 := h o (by simp)
    have h2 := ih (fun z hz => h z (by simp [hz]))
    simp only [List.map_cons, List.sum_cons, List.length_cons, Nat.add_mul, Nat.one_mul] at *
    omega
/-- Where marks on objects are stored: in the objects' block, not where the slices stand, or in a row of fields. -/
theorem mkO1_where (g p : Nat) (s : OSh) (k : Int) (q : Addr × Value) (h : q ∈ mkO1 g p s k) : (∃ i, i < 8 ∧ i ≠ 6 ∧ q.1 = ⟨g, p + i, none⟩) ∨ (0 < s.n ∧ ∃ x, s.f = some x ∧ q.1.block = x.block) := by
  unfold mkO1 at h
  rcases List.mem_append.1 h with h | h
  · simp only [List.mem_cons, List.not_mem_nil, or_false] at h
    rcases h with rfl | rfl | rfl | rfl | rfl | rfl
    · exact .inl ⟨0, by omega, by omega, rfl⟩
    · exact .inl ⟨1, by omega, by omega, rfl⟩
    · exact .inl ⟨2, by omega, by omega, rfl⟩
    · exact .inl ⟨3, by omega, by omega, rfl⟩
    · exact .inl ⟨4, by omega, by omega, rfl⟩
    · exact .inl ⟨5, by omega, by omega, rfl⟩
  · rcases List.mem_append.1 h with h | h
    · exact .inr (mkI_block _ _ _ _ h)
    · simp only [List.mem_singleton] at h
      subst h
      exact .inl ⟨7, by omega, by omega, rfl⟩
theorem mkOs_where (g : Nat) (ss : List OSh) : ∀ p k (q : Addr × Value), q ∈ mkOs g p ss k → (∃ j i, j < ss.length ∧ i < 8 ∧ i ≠ 6 ∧ q.1 = ⟨g, p + j * 8 + i, none⟩) ∨ (∃ s ∈ ss, 0 < s.n ∧ ∃ x, s.f = some x ∧ q.1.block = x.block) := by
  induction ss with
  | nil => intro p k q h; simp [mkOs] at h
  | cons s r ih =>
    intro p k q h
    rcases List.mem_append.1 h with h | h
    · rcases mkO1_where g p s k q h with ⟨i, h1, h2, h3⟩ | h
      · exact .inl ⟨0, i, by simp, h1, h2, by rw [h3]; simp⟩
      · exact .inr ⟨s, by simp, h⟩
    · rcases ih _ _ q h with ⟨j, i, h0, h1, h2, h3⟩ | ⟨s', h0, h1⟩
      · exact .inl ⟨j + 1, i, by simp; omega, h1, h2, by rw [h3]; congr 1; omega⟩
      · exact .inr ⟨s', by simp [h0], h1⟩
theorem CanO1.keep {w : World} {g p : Nat} {s : OSh} (L : Sts) (h : CanO1 w g p s) (hL : ∀ q ∈ L, q.1 ≠ ⟨g, p + 6, none⟩) : CanO1 (stores w L) g p s :=
  ⟨by rw [stores_size]; exact h.lt, fun k hk => ⟨stores_some _ _ _ (h.cell k hk).1, by rw [stores_frozen]; exact (h.cell k hk).2⟩, by rw [stores_other _ _ hL]; exact h.head, canI_stores _ h.row, h.apart⟩

/-- What markWeakS stores. -/
def mkW (a : Option Addr) (k : Int) (n : Nat) : Sts := match a with
  | none => []
  | some x => (List.range n).flatMap fun j => [(⟨x.block, x.off + j * 2, none⟩, .bool (b3 (k + 2 * (j : Int)))), (⟨x.block, x.off + j * 2 + 1, none⟩, .int .i64 (k + 2 * (j : Int) + 1))]
theorem mkW_zero (a : Option Addr) (k : Int) : mkW a k 0 = [] := by unfold mkW; cases a <;> rfl
theorem mkW_succ (g off : Nat) (k : Int) (j : Nat) : mkW (some ⟨g, off, none⟩) k (j + 1) = mkW (some ⟨g, off, none⟩) k j ++ [(⟨g, off + j * 2, none⟩, .bool (b3 (k + 2 * (j : Int)))), (⟨g, off + j * 2 + 1, none⟩, .int .i64 (k + 2 * (j : Int) + 1))] := by
  simp [mkW, List.range_succ]
theorem mkW_at (g off : Nat) (k : Int) (n j : Nat) (h : j < n) : ((⟨g, off + j * 2, none⟩, .bool (b3 (k + 2 * (j : Int)))) : Addr × Value) ∈ mkW (some ⟨g, off, none⟩) k n ∧ ((⟨g, off + j * 2 + 1, none⟩, .int .i64 (k + 2 * (j : Int) + 1)) : Addr × Value) ∈ mkW (some ⟨g, off, none⟩) k n := by
  unfold mkW
  exact ⟨List.mem_flatMap.2 ⟨j, List.mem_range.2 h, by simp⟩, List.mem_flatMap.2 ⟨j, List.mem_range.2 h, by simp⟩⟩
theorem mkW_block (a : Option Addr) (k : Int) (n : Nat) (p : Addr × Value) (h : p ∈ mkW a k n) : 0 < n ∧ ∃ x, a = some x ∧ p.1.block = x.block := by
  unfold mkW at h
  cases a with
  | none => simp at h
  | some x =>
    obtain ⟨j, hj, h2⟩ := List.mem_flatMap.1 h
    have := List.mem_range.1 hj
    refine ⟨by omega, x, rfl, ?_⟩
    simp only [List.mem_cons, List.not_mem_nil, or_false] at h2
    rcases h2 with rfl | rfl <;> rfl
theorem mkW_where (g off : Nat) (k : Int) (n : Nat) (p : Addr × Value) (h : p ∈ mkW (some ⟨g, off, none⟩) k n) : ∃ i, i < n * 2 ∧ p.1 = ⟨g, off + i, none⟩ := by
  unfold mkW at h
  obtain ⟨j, hj, h2⟩ := List.mem_flatMap.1 h
  have := List.mem_range.1 hj
  simp only [List.mem_cons, List.not_mem_nil, or_false] at h2
  rcases h2 with rfl | rfl
  · exact ⟨j * 2, by omega, rfl⟩
  · exact ⟨j * 2 + 1, by omega, rfl⟩
theorem mkW_nodup (a : Option Addr) (k : Int) : ∀ n, ((mkW a k n).map (·.1)).Nodup := by
  cases a with
  | none => intro n; simp [mkW]
  | some x =>
    obtain ⟨g, off, sp⟩ := x
    intro n
    induction n with
    | zero => simp [mkW]
    | succ n ih =>
      have e : mkW (some ⟨g, off, sp⟩) k (n + 1) = mkW (some ⟨g, off, none⟩) k (n + 1) := rfl
      have e' : mkW (some ⟨g, off, sp⟩) k n = mkW (some ⟨g, off, none⟩) k n := rfl
      rw [e, mkW_succ, List.map_append, List.nodup_append]
      rw [e'] at ih
      refine ⟨ih, by simp, ?_⟩
      intro a ha b hb
      obtain ⟨q, hq, rfl⟩ := List.mem_map.1 ha
      obtain ⟨i, hi, hqe⟩ := mkW_where g off k n q hq
      rw [hqe]
      simp only [List.map_cons, List.map_nil, List.mem_cons, List.not_mem_nil, or_false] at hb
      rcases hb with rfl | rfl
      · intro h
        have h2 : off + i = off + n * 2 := by injection h
        omega
      · intro h
        have h2 : off + i = off + n * 2 + 1 := by injection h
        omega
/-- A row of n handles that may be written. -/
def CanW (w : World) (a : Option Addr) (n : Nat) : Prop := ∀ j, j < n → ∃ g off, a = some ⟨g, off, none⟩ ∧ g < w.heap.size ∧ (∃ x, w.cell? ⟨g, off + j * 2, none⟩ = some x) ∧ w.frozen? ⟨g, off + j * 2, none⟩ = false ∧ (∃ x, w.cell? ⟨g, off + j * 2 + 1, none⟩ = some x) ∧ w.frozen? ⟨g, off + j * 2 + 1, none⟩ = false
theorem canW_stores {w : World} {a : Option Addr} {n : Nat} (L : Sts) (h : CanW w a n) : CanW (stores w L) a n := by
  intro j hj
  obtain ⟨g, off, h1, h2, h3, h4, h5, h6⟩ := h j hj
  exact ⟨g, off, h1, by rw [stores_size]; exact h2, stores_some _ _ _ h3, by rw [stores_frozen]; exact h4, stores_some _ _ _ h5, by rw [stores_frozen]; exact h6⟩

end Go.Proofs.Ytjhceoejblmihaa
