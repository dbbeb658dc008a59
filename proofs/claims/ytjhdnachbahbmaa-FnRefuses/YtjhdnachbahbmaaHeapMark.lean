/- Joined: StoreMath, MarkIWalks, MarkOWalks, MarkHWalks, MarkH2Walks, HeapForm, MarkH3Walks, CanHWalks, MemHWalks, HMWalks, EqBig. -/
import Derived.Test.YtjhdnachbahbmaaHeapBase
import Derived.Test.YtjhdnachbahbmaaMarkWalks
import Derived.Deep.RegionHeld
/- StoreMath: Worlds behind a list of stores; what the laws' marks on numbers, objects and handles store. -/
namespace Go.Proofs.Ytjhdnachbahbmaa
open Go.RowKit
set_option linter.unusedVariables false

abbrev Sts := List (Addr × Value)
def stores (w : World) : Sts → World
  | [] => w
  | p :: r => stores (w.setCell p.1 p.2) r
theorem stores_append (L M : Sts) : ∀ w, stores w (L ++ M) = stores (stores w L) M := by
  induction L with
  | nil => intro w; rfl
  | cons p r ih => intro w; exact ih _
theorem stores_frozen (L : Sts) (a : Addr) : ∀ w, (stores w L).frozen? a = w.frozen? a := by
  induction L with
  | nil => intro w; rfl
  | cons p r ih => intro w; rw [stores, ih, World.frozen?_setCell]
theorem stores_size (L : Sts) : ∀ w, (stores w L).heap.size = w.heap.size := by
  induction L with
  | nil => intro w; rfl
  | cons p r ih => intro w; rw [stores, ih]; simp [World.setCell]
theorem stores_some (L : Sts) (a : Addr) : ∀ w, (∃ x, w.cell? a = some x) → ∃ x, (stores w L).cell? a = some x := by
  induction L with
  | nil => intro w h; exact h
  | cons p r ih => intro w h; exact ih _ (some_set _ _ _ _ h)
theorem stores_other (L : Sts) (a : Addr) (h : ∀ p ∈ L, p.1 ≠ a) : ∀ w, (stores w L).cell? a = w.cell? a := by
  induction L with
  | nil => intro w; rfl
  | cons p r ih =>
    intro w
    rw [stores, ih (fun q hq => h q (List.mem_cons_of_mem _ hq)), World.cell?_setCell_other _ _ _ _ (h p (List.mem_cons_self ..))]
theorem stores_mem (L : Sts) (hn : (L.map (·.1)).Nodup) : ∀ w, (∀ p ∈ L, ∃ x, w.cell? p.1 = some x) → ∀ p ∈ L, (stores w L).cell? p.1 = some p.2 := by
  induction L with
  | nil => intro w _ p hp; simp at hp
  | cons q r ih =>
    intro w hs p hp
    rw [List.map_cons, List.nodup_cons] at hn
    rcases List.mem_cons.1 hp with rfl | hp
    · obtain ⟨x, hx⟩ := hs p (List.mem_cons_self ..)
      rw [stores, stores_other _ _ (fun z hz e => hn.1 (by rw [← e]; exact List.mem_map_of_mem hz)), World.cell?_setCell_same w _ _ hx]
    · exact ih hn.2 _ (fun z hz => some_set _ _ _ _ (hs z (List.mem_cons_of_mem _ hz))) p hp
theorem stores_block (L : Sts) (i : Nat) (h : ∀ p ∈ L, p.1.block ≠ i) : ∀ w, (stores w L).heap[i]? = w.heap[i]? := by
  induction L with
  | nil => intro w; rfl
  | cons p r ih =>
    intro w
    rw [stores, ih (fun q hq => h q (List.mem_cons_of_mem _ hq)), heap_setCell_other w p.1 i p.2 (fun e => h p (List.mem_cons_self ..) e.symm)]
theorem stores_below {B : Nat} {a : World} (L : Sts) (hL : ∀ p ∈ L, B ≤ p.1.block) : ∀ w, Below B a w → Below B a (stores w L) := by
  induction L with
  | nil => intro w h; exact h
  | cons p r ih => intro w h; exact ih (fun q hq => hL q (List.mem_cons_of_mem _ hq)) _ (h.setCell (hL p (List.mem_cons_self ..)) _)

/-- What markIntS stores. -/
def mkI (a : Option Addr) (k : Int) (n : Nat) : Sts := match a with
  | none => []
  | some x => (List.range n).map fun j => (⟨x.block, x.off + j, none⟩, .int .i64 (k + (j : Int)))
theorem mkI_zero (a : Option Addr) (k : Int) : mkI a k 0 = [] := by unfold mkI; cases a <;> rfl
theorem mkI_succ (g off : Nat) (k : Int) (j : Nat) : mkI (some ⟨g, off, none⟩) k (j + 1) = mkI (some ⟨g, off, none⟩) k j ++ [(⟨g, off + j, none⟩, .int .i64 (k + (j : Int)))] := by
  simp [mkI, List.range_succ]
theorem mkI_at (g off : Nat) (k : Int) (n j : Nat) (h : j < n) : ((⟨g, off + j, none⟩, .int .i64 (k + (j : Int))) : Addr × Value) ∈ mkI (some ⟨g, off, none⟩) k n := by
  unfold mkI; exact List.mem_map.2 ⟨j, List.mem_range.2 h, rfl⟩
theorem mkI_block (a : Option Addr) (k : Int) (n : Nat) (p : Addr × Value) (h : p ∈ mkI a k n) : 0 < n ∧ ∃ x, a = some x ∧ p.1.block = x.block := by
  unfold mkI at h
  cases a with
  | none => simp at h
  | some x =>
    obtain ⟨j, hj, rfl⟩ := List.mem_map.1 h
    have := List.mem_range.1 hj
    exact ⟨by omega, x, rfl, rfl⟩
theorem mkI_nodup (a : Option Addr) (k : Int) (n : Nat) : ((mkI a k n).map (·.1)).Nodup := by
  unfold mkI
  cases a with
  | none => simp
  | some x =>
    rw [List.map_map]
    refine List.pairwise_map.2 (List.pairwise_lt_range.imp ?_)
    intro i j hij e
    simp at e
    omega

/-- A row of n cells that may be written. -/
def CanI (w : World) (a : Option Addr) (n : Nat) : Prop := ∀ j, j < n → ∃ g off, a = some ⟨g, off, none⟩ ∧ g < w.heap.size ∧ (∃ x, w.cell? ⟨g, off + j, none⟩ = some x) ∧ w.frozen? ⟨g, off + j, none⟩ = false
theorem canI_set {w : World} {a : Option Addr} {n : Nat} (p : Addr) (u : Value) (h : CanI w a n) : CanI (w.setCell p u) a n := by
  intro j hj
  obtain ⟨g, off, h1, h2, h3, h4⟩ := h j hj
  exact ⟨g, off, h1, by simpa [World.setCell] using h2, some_set _ _ _ _ h3, by rw [World.frozen?_setCell]; exact h4⟩
theorem canI_set6 {w : World} {a : Option Addr} {n : Nat} (p0 p1 p2 p3 p4 p5 : Addr) (u0 u1 u2 u3 u4 u5 : Value) (h : CanI w a n) : CanI ((((((w.setCell p0 u0).setCell p1 u1).setCell p2 u2).setCell p3 u3).setCell p4 u4).setCell p5 u5) a n := canI_set _ _ (canI_set _ _ (canI_set _ _ (canI_set _ _ (canI_set _ _ (canI_set _ _ h)))))
theorem canI_stores {w : World} {a : Option Addr} {n : Nat} (L : Sts) (h : CanI w a n) : CanI (stores w L) a n := by
  intro j hj
  obtain ⟨g, off, h1, h2, h3, h4⟩ := h j hj
  exact ⟨g, off, h1, by rw [stores_size]; exact h2, stores_some _ _ _ h3, by rw [stores_frozen]; exact h4⟩
theorem canI_keep {w w' : World} {a : Option Addr} {n : Nat} (h : CanI w a n) (hs : w.heap.size ≤ w'.heap.size) (hb : ∀ x, a = some x → 0 < n → w'.heap[x.block]? = w.heap[x.block]?) : CanI w' a n := by
  intro j hj
  obtain ⟨g, off, h1, h2, h3, h4⟩ := h j hj
  have e := hb _ h1 (by omega)
  refine ⟨g, off, h1, by omega, ?_, ?_⟩
  · obtain ⟨x, hx⟩ := h3
    exact ⟨x, by exact (World.cell?_of_block (w := w) (a := ⟨g, off + j, none⟩) e).trans hx⟩
  · exact (World.frozen?_of_block (w := w) (a := ⟨g, off + j, none⟩) e).trans h4

/-- The slice of an object's fields. -/
structure OSh where
  f : Option Addr
  n : Nat
  c : Nat
/-- A row of objects that may be written: where the fields' slices stand, and their rows. -/
structure CanO1 (w : World) (g p : Nat) (s : OSh) : Prop where
  lt : g < w.heap.size
  cell : ∀ k, k < 8 → (∃ x, w.cell? ⟨g, p + k, none⟩ = some x) ∧ w.frozen? ⟨g, p + k, none⟩ = false
  head : w.cell? ⟨g, p + 6, none⟩ = some (.slice s.f s.n s.c)
  row : CanI w s.f s.n
  apart : ∀ x, s.f = some x → 0 < s.n → x.block ≠ g
def CanO (w : World) (a : Option Addr) (ss : List OSh) : Prop := ∀ j (h : j < ss.length), ∃ g off, a = some ⟨g, off, none⟩ ∧ CanO1 w g (off + j * 8) ss[j]
abbrev b3 (k : Int) : Bool := k % 3 == 0
/-- What markObjS stores into one object, into all. -/
def mkO1 (g p : Nat) (s : OSh) (k : Int) : Sts :=
  [(⟨g, p, none⟩, .bool (b3 k)), (⟨g, p + 1, none⟩, .int .i64 (k + 1)), (⟨g, p + 2, none⟩, .int .i64 (k + 1 + 1)), (⟨g, p + 3, none⟩, .int .i64 (k + 1 + 1 + 1)), (⟨g, p + 4, none⟩, .int .i64 (k + 1 + 1 + 1 + 1)), (⟨g, p + 5, none⟩, .int .i64 (k + 1 + 1 + 1 + 1 + 1))] ++
  (mkI s.f (k + 1 + 1 + 1 + 1 + 1 + 1) s.n ++ [(⟨g, p + 7, none⟩, .bool (b3 (k + 1 + 1 + 1 + 1 + 1 + 1 + (s.n : Int))))])
def cntO (ss : List OSh) : Nat := (ss.map (fun s => 7 + s.n)).sum
def mkOs (g : Nat) : Nat → List OSh → Int → Sts
  | _, [], _ => []
  | p, s :: r, k => mkO1 g p s k ++ mkOs g (p + 8) r (k + ((7 + s.n : Nat) : Int))
def mkO (a : Option Addr) (ss : List OSh) (k : Int) : Sts := match a with
  | none => []
  | some x => mkOs x.block x.off ss k
theorem mkOs_append (g : Nat) (A B : List OSh) : ∀ p k, mkOs g p (A ++ B) k = mkOs g p A k ++ mkOs g (p + A.length * 8) B (k + (cntO A : Int)) := by
  induction A with
  | nil => intro p k; simp [mkOs, cntO]
  | cons s r ih =>
    intro p k
    simp only [List.cons_append, mkOs, List.append_assoc]
    rw [ih]
    have e1 : p + 8 + r.length * 8 = p + (s :: r).length * 8 := by simp; omega
    have e2 : k + ((7 + s.n : Nat) : Int) + (cntO r : Int) = k + (cntO (s :: r) : Int) := by simp [cntO]; omega
    rw [e1, e2]
theorem cntO_succ (ss : List OSh) (j : Nat) (h : j < ss.length) : cntO (ss.take (j + 1)) = cntO (ss.take j) + (7 + ss[j].n) := by
  unfold cntO
  rw [List.take_succ_eq_append_getElem h, List.map_append, List.sum_append]
  simp
theorem mkOs_succ (g p : Nat) (ss : List OSh) (k : Int) (j : Nat) (h : j < ss.length) : mkOs g p (ss.take (j + 1)) k = mkOs g p (ss.take j) k ++ mkO1 g (p + j * 8) ss[j] (k + (cntO (ss.take j) : Int)) := by
  rw [List.take_succ_eq_append_getElem h, mkOs_append, List.length_take, Nat.min_eq_left (by omega)]
  simp [mkOs]
theorem cntO_le (ss : List OSh) (m : Nat) (h : ∀ s ∈ ss, s.n ≤ m) : cntO ss ≤ ss.length * (7 + m) := by
  unfold cntO
  induction ss with
  | nil => simp
  | cons o r ih =>
    have h1 := h o (by simp)
    have h2 := ih (fun z hz => h z (by simp [hz]))
    simp only [List.map_cons, List.sum_cons, List.length_cons, Nat.add_mul, Nat.one_mul] at *
    omega
/-- Where marks on objects are stored: in the objects' block, not where the slices stand, or in a row of fields. -/
theorem mkO1_where (g p : Nat) (s : OSh) (k : Int) (q : Addr × Value) (h : q ∈ mkO1 g p s k) : (∃ i, i < 8 ∧ i ≠ 6 ∧ q.1 = ⟨g, p + i, none⟩) ∨ (0 < s.n ∧ ∃ x, s.f = some x ∧ q.1.block = x.block) := by
  unfold mkO1 at h
  rcases List.mem_append.1 h with h | h
  · simp only [List.mem_cons, List.not_mem_nil, or_false] at h
    rcases h with rfl | rfl | rfl | rfl | rfl | rfl
    · exact .inl ⟨0, by omega, by omega, rfl⟩
    · exact .inl ⟨1, by omega, by omega, rfl⟩
    · exact .inl ⟨2, by omega, by omega, rfl⟩
    · exact .inl ⟨3, by omega, by omega, rfl⟩
    · exact .inl ⟨4, by omega, by omega, rfl⟩
    · exact .inl ⟨5, by omega, by omega, rfl⟩
  · rcases List.mem_append.1 h with h | h
    · exact .inr (mkI_block _ _ _ _ h)
    · simp only [List.mem_singleton] at h
      subst h
      exact .inl ⟨7, by omega, by omega, rfl⟩
theorem mkOs_where (g : Nat) (ss : List OSh) : ∀ p k (q : Addr × Value), q ∈ mkOs g p ss k → (∃ j i, j < ss.length ∧ i < 8 ∧ i ≠ 6 ∧ q.1 = ⟨g, p + j * 8 + i, none⟩) ∨ (∃ s ∈ ss, 0 < s.n ∧ ∃ x, s.f = some x ∧ q.1.block = x.block) := by
  induction ss with
  | nil => intro p k q h; simp [mkOs] at h
  | cons s r ih =>
    intro p k q h
    rcases List.mem_append.1 h with h | h
    · rcases mkO1_where g p s k q h with ⟨i, h1, h2, h3⟩ | h
      · exact .inl ⟨0, i, by simp, h1, h2, by rw [h3]; simp⟩
      · exact .inr ⟨s, by simp, h⟩
    · rcases ih _ _ q h with ⟨j, i, h0, h1, h2, h3⟩ | ⟨s', h0, h1⟩
      · exact .inl ⟨j + 1, i, by simp; omega, h1, h2, by rw [h3]; congr 1; omega⟩
      · exact .inr ⟨s', by simp [h0], h1⟩
theorem CanO1.keep {w : World} {g p : Nat} {s : OSh} (L : Sts) (h : CanO1 w g p s) (hL : ∀ q ∈ L, q.1 ≠ ⟨g, p + 6, none⟩) : CanO1 (stores w L) g p s :=
  ⟨by rw [stores_size]; exact h.lt, fun k hk => ⟨stores_some _ _ _ (h.cell k hk).1, by rw [stores_frozen]; exact (h.cell k hk).2⟩, by rw [stores_other _ _ hL]; exact h.head, canI_stores _ h.row, h.apart⟩

/-- What markWeakS stores. -/
def mkW (a : Option Addr) (k : Int) (n : Nat) : Sts := match a with
  | none => []
  | some x => (List.range n).flatMap fun j => [(⟨x.block, x.off + j * 2, none⟩, .bool (b3 (k + 2 * (j : Int)))), (⟨x.block, x.off + j * 2 + 1, none⟩, .int .i64 (k + 2 * (j : Int) + 1))]
theorem mkW_zero (a : Option Addr) (k : Int) : mkW a k 0 = [] := by unfold mkW; cases a <;> rfl
theorem mkW_succ (g off : Nat) (k : Int) (j : Nat) : mkW (some ⟨g, off, none⟩) k (j + 1) = mkW (some ⟨g, off, none⟩) k j ++ [(⟨g, off + j * 2, none⟩, .bool (b3 (k + 2 * (j : Int)))), (⟨g, off + j * 2 + 1, none⟩, .int .i64 (k + 2 * (j : Int) + 1))] := by
  simp [mkW, List.range_succ]
theorem mkW_at (g off : Nat) (k : Int) (n j : Nat) (h : j < n) : ((⟨g, off + j * 2, none⟩, .bool (b3 (k + 2 * (j : Int)))) : Addr × Value) ∈ mkW (some ⟨g, off, none⟩) k n ∧ ((⟨g, off + j * 2 + 1, none⟩, .int .i64 (k + 2 * (j : Int) + 1)) : Addr × Value) ∈ mkW (some ⟨g, off, none⟩) k n := by
  unfold mkW
  exact ⟨List.mem_flatMap.2 ⟨j, List.mem_range.2 h, by simp⟩, List.mem_flatMap.2 ⟨j, List.mem_range.2 h, by simp⟩⟩
theorem mkW_block (a : Option Addr) (k : Int) (n : Nat) (p : Addr × Value) (h : p ∈ mkW a k n) : 0 < n ∧ ∃ x, a = some x ∧ p.1.block = x.block := by
  unfold mkW at h
  cases a with
  | none => simp at h
  | some x =>
    obtain ⟨j, hj, h2⟩ := List.mem_flatMap.1 h
    have := List.mem_range.1 hj
    refine ⟨by omega, x, rfl, ?_⟩
    simp only [List.mem_cons, List.not_mem_nil, or_false] at h2
    rcases h2 with rfl | rfl <;> rfl
theorem mkW_where (g off : Nat) (k : Int) (n : Nat) (p : Addr × Value) (h : p ∈ mkW (some ⟨g, off, none⟩) k n) : ∃ i, i < n * 2 ∧ p.1 = ⟨g, off + i, none⟩ := by
  unfold mkW at h
  obtain ⟨j, hj, h2⟩ := List.mem_flatMap.1 h
  have := List.mem_range.1 hj
  simp only [List.mem_cons, List.not_mem_nil, or_false] at h2
  rcases h2 with rfl | rfl
  · exact ⟨j * 2, by omega, rfl⟩
  · exact ⟨j * 2 + 1, by omega, rfl⟩
theorem mkW_nodup (a : Option Addr) (k : Int) : ∀ n, ((mkW a k n).map (·.1)).Nodup := by
  cases a with
  | none => intro n; simp [mkW]
  | some x =>
    obtain ⟨g, off, sp⟩ := x
    intro n
    induction n with
    | zero => simp [mkW]
    | succ n ih =>
      have e : mkW (some ⟨g, off, sp⟩) k (n + 1) = mkW (some ⟨g, off, none⟩) k (n + 1) := rfl
      have e' : mkW (some ⟨g, off, sp⟩) k n = mkW (some ⟨g, off, none⟩) k n := rfl
      rw [e, mkW_succ, List.map_append, List.nodup_append]
      rw [e'] at ih
      refine ⟨ih, by simp, ?_⟩
      intro a ha b hb
      obtain ⟨q, hq, rfl⟩ := List.mem_map.1 ha
      obtain ⟨i, hi, hqe⟩ := mkW_where g off k n q hq
      rw [hqe]
      simp only [List.map_cons, List.map_nil, List.mem_cons, List.not_mem_nil, or_false] at hb
      rcases hb with rfl | rfl
      · intro h
        have h2 : off + i = off + n * 2 := by injection h
        omega
      · intro h
        have h2 : off + i = off + n * 2 + 1 := by injection h
        omega
/-- A row of n handles that may be written. -/
def CanW (w : World) (a : Option Addr) (n : Nat) : Prop := ∀ j, j < n → ∃ g off, a = some ⟨g, off, none⟩ ∧ g < w.heap.size ∧ (∃ x, w.cell? ⟨g, off + j * 2, none⟩ = some x) ∧ w.frozen? ⟨g, off + j * 2, none⟩ = false ∧ (∃ x, w.cell? ⟨g, off + j * 2 + 1, none⟩ = some x) ∧ w.frozen? ⟨g, off + j * 2 + 1, none⟩ = false
theorem canW_stores {w : World} {a : Option Addr} {n : Nat} (L : Sts) (h : CanW w a n) : CanW (stores w L) a n := by
  intro j hj
  obtain ⟨g, off, h1, h2, h3, h4, h5, h6⟩ := h j hj
  exact ⟨g, off, h1, by rw [stores_size]; exact h2, stores_some _ _ _ h3, by rw [stores_frozen]; exact h4, stores_some _ _ _ h5, by rw [stores_frozen]; exact h6⟩

end Go.Proofs.Ytjhdnachbahbmaa

/- MarkIWalks: The laws' marks on rows that may be written: markIntS, heldIntS, markWeakS, heldWeakS, by the list of what they store. -/
namespace Go.Proofs.Ytjhdnachbahbmaa
open Go.RowKit
set_option linter.unusedVariables false

end Go.Proofs.Ytjhdnachbahbmaa

/- MarkOWalks: The laws' marks on rows of objects: markObjS, heldObjS. -/
namespace Go.Proofs.Ytjhdnachbahbmaa
open Go.RowKit
set_option linter.unusedVariables false

theorem mkO_mem (g off : Nat) (ss : List OSh) (k : Int) (j : Nat) (h : j < ss.length) (q : Addr × Value) (hq : q ∈ mkO1 g (off + j * 8) ss[j] (k + (cntO (ss.take j) : Int))) : q ∈ mkO (some ⟨g, off, none⟩) ss k := by
  have e : ss = ss.take (j + 1) ++ ss.drop (j + 1) := (List.take_append_drop _ _).symm
  show q ∈ mkOs g off ss k
  rw [e, mkOs_append, mkOs_succ g off ss k j h]
  exact List.mem_append_left _ (List.mem_append_right _ hq)

end Go.Proofs.Ytjhdnachbahbmaa

/- MarkHWalks: The laws' marks on texts and on heaps: markStringS, heldStringS, markHeap, heldHeap, by the list of what they store. -/
namespace Go.Proofs.Ytjhdnachbahbmaa
open Go.RowKit
set_option linter.unusedVariables false

/-- A store on both sides. -/
theorem below_both {n : Nat} {A B : World} (h : Below n A B) (p : Addr) (v : Value) : Below n (A.setCell p v) (B.setCell p v) := by
  refine ⟨h.os, h.tape, h.output, by simpa [World.setCell] using h.size, fun k hk => ?_⟩
  by_cases e : k = p.block
  · subst e
    have hb := h.block p.block hk
    simp only [World.setCell]
    rw [Array.getElem?_modify, Array.getElem?_modify, if_pos rfl, if_pos rfl, hb]
  · rw [heap_setCell_other _ _ _ _ e, heap_setCell_other _ _ _ _ e, h.block k hk]
theorem stores_both {n : Nat} (L : Sts) : ∀ {A B : World}, Below n A B → Below n (stores A L) (stores B L) := by
  induction L with
  | nil => intro A B h; exact h
  | cons p r ih => intro A B h; exact ih (below_both h _ _)

/-- What markStringS stores. -/
def mkS (a : Option Addr) (k n : Nat) : Sts := match a with
  | none => []
  | some x => (List.range n).map fun j => (⟨x.block, x.off + j, none⟩, .string (txt (mtxt (k + j))))
theorem mkS_zero (a : Option Addr) (k : Nat) : mkS a k 0 = [] := by unfold mkS; cases a <;> rfl
theorem mkS_succ (g off k j : Nat) : mkS (some ⟨g, off, none⟩) k (j + 1) = mkS (some ⟨g, off, none⟩) k j ++ [(⟨g, off + j, none⟩, .string (txt (mtxt (k + j))))] := by
  simp [mkS, List.range_succ]
theorem mkS_at (g off k n j : Nat) (h : j < n) : ((⟨g, off + j, none⟩, .string (txt (mtxt (k + j)))) : Addr × Value) ∈ mkS (some ⟨g, off, none⟩) k n := by
  unfold mkS; exact List.mem_map.2 ⟨j, List.mem_range.2 h, rfl⟩
theorem mkS_block (a : Option Addr) (k n : Nat) (p : Addr × Value) (h : p ∈ mkS a k n) : 0 < n ∧ ∃ x, a = some x ∧ p.1.block = x.block := by
  unfold mkS at h
  cases a with
  | none => simp at h
  | some x =>
    obtain ⟨j, hj, rfl⟩ := List.mem_map.1 h
    have := List.mem_range.1 hj
    exact ⟨by omega, x, rfl, rfl⟩
theorem mkS_nodup (a : Option Addr) (k n : Nat) : ((mkS a k n).map (·.1)).Nodup := by
  unfold mkS
  cases a with
  | none => simp
  | some x =>
    rw [List.map_map]
    refine List.pairwise_map.2 (List.pairwise_lt_range.imp ?_)
    intro i j hij e
    simp at e
    omega

end Go.Proofs.Ytjhdnachbahbmaa

/- MarkH2Walks: The laws' marks on heaps: markHeap, heldHeap. -/
namespace Go.Proofs.Ytjhdnachbahbmaa
open Go.RowKit
set_option linter.unusedVariables false

/-- Where a heap's rows lie. -/
structure HSh where
  oa : Option Addr
  oc : Nat
  os : List OSh
  wa : Option Addr
  wn : Nat
  wc : Nat
  ba : Option Addr
  bn : Nat
  bc : Nat
  sa : Option Addr
  sn : Nat
  sc : Nat
def HSh.v (s : HSh) : Value := .agg #[.slice s.oa s.os.length s.oc, .slice s.wa s.wn s.wc, .slice s.ba s.bn s.bc, .slice s.sa s.sn s.sc]
/-- All of it may be written. -/
structure CanH (w : World) (s : HSh) : Prop where
  o : CanO w s.oa s.os
  ap : ∀ x t, s.oa = some x → t ∈ s.os → 0 < t.n → ∀ y, t.f = some y → y.block ≠ x.block
  wk : CanW w s.wa s.wn
  b : CanI w s.ba s.bn
  st : CanI w s.sa s.sn
  lo : s.os.length ≤ 16777216
  lf : ∀ t ∈ s.os, t.n ≤ 16777216
  lw : s.wn ≤ 16777216
  lb : s.bn ≤ 16777216
  ls : s.sn ≤ 16777216
def HSh.k1 (s : HSh) : Int := 1 + (cntO s.os : Int)
def HSh.k2 (s : HSh) : Int := s.k1 + 2 * (s.wn : Int)
def HSh.k3 (s : HSh) : Nat := 1 + cntO s.os + 2 * s.wn + s.bn
def markL (s : HSh) : Sts := mkO s.oa s.os 1 ++ (mkW s.wa s.k1 s.wn ++ (mkI s.ba s.k2 s.bn ++ mkS s.sa s.k3 s.sn))

theorem canI_later {w w' : World} {a : Option Addr} {n : Nat} (h : CanI w a n) (hb : Below w.heap.size w w') : CanI w' a n := by
  intro j hj
  obtain ⟨g, off, h1, h2, ⟨x, h3⟩, h4⟩ := h j hj
  exact ⟨g, off, h1, Nat.lt_of_lt_of_le h2 hb.size, ⟨x, (hb.cell (p := ⟨g, off + j, none⟩) h2).trans h3⟩, (hb.frozen (p := ⟨g, off + j, none⟩) h2).trans h4⟩
theorem canW_later {w w' : World} {a : Option Addr} {n : Nat} (h : CanW w a n) (hb : Below w.heap.size w w') : CanW w' a n := by
  intro j hj
  obtain ⟨g, off, h1, h2, ⟨x, h3⟩, h4, ⟨y, h5⟩, h6⟩ := h j hj
  exact ⟨g, off, h1, Nat.lt_of_lt_of_le h2 hb.size, ⟨x, (hb.cell (p := ⟨g, off + j * 2, none⟩) h2).trans h3⟩, (hb.frozen (p := ⟨g, off + j * 2, none⟩) h2).trans h4, ⟨y, (hb.cell (p := ⟨g, off + j * 2 + 1, none⟩) h2).trans h5⟩, (hb.frozen (p := ⟨g, off + j * 2 + 1, none⟩) h2).trans h6⟩
theorem canO_later {w w' : World} {a : Option Addr} {ss : List OSh} (h : CanO w a ss) (hb : Below w.heap.size w w') : CanO w' a ss := by
  intro j hj
  obtain ⟨g, off, h1, h2⟩ := h j hj
  refine ⟨g, off, h1, Nat.lt_of_lt_of_le h2.lt hb.size, fun k hk => ?_, (hb.cell (p := ⟨g, off + j * 8 + 6, none⟩) h2.lt).trans h2.head, canI_later h2.row hb, h2.apart⟩
  obtain ⟨⟨x, hx⟩, hf⟩ := h2.cell k hk
  exact ⟨⟨x, (hb.cell (p := ⟨g, off + j * 8 + k, none⟩) h2.lt).trans hx⟩, (hb.frozen (p := ⟨g, off + j * 8 + k, none⟩) h2.lt).trans hf⟩
theorem canH_later {w w' : World} {s : HSh} (h : CanH w s) (hb : Below w.heap.size w w') : CanH w' s :=
  ⟨canO_later h.o hb, h.ap, canW_later h.wk hb, canI_later h.b hb, canI_later h.st hb, h.lo, h.lf, h.lw, h.lb, h.ls⟩

theorem mkOs_mem (g : Nat) (ss : List OSh) : ∀ p k (q : Addr × Value), q ∈ mkOs g p ss k → ∃ j, ∃ (h : j < ss.length), ∃ k', q ∈ mkO1 g (p + j * 8) ss[j] k' := by
  induction ss with
  | nil => intro p k q h; simp [mkOs] at h
  | cons s r ih =>
    intro p k q h
    rcases List.mem_append.1 h with h | h
    · exact ⟨0, by simp, k, by simpa using h⟩
    · obtain ⟨j, hj, k', hq⟩ := ih _ _ q h
      refine ⟨j + 1, by simp; omega, k', ?_⟩
      rw [show p + (j + 1) * 8 = p + 8 + j * 8 from by omega]
      simpa using hq
theorem mkI_some {w : World} {a : Option Addr} {n : Nat} {k : Int} (h : CanI w a n) (q : Addr × Value) (hq : q ∈ mkI a k n) : ∃ x, w.cell? q.1 = some x := by
  obtain ⟨h1, x, h2, h3⟩ := mkI_block _ _ _ _ hq
  rw [h2] at hq
  unfold mkI at hq
  obtain ⟨j, hj, rfl⟩ := List.mem_map.1 hq
  obtain ⟨g', off', e', _, hx, _⟩ := h j (List.mem_range.1 hj)
  rw [h2] at e'; injection e' with e'; subst e'
  exact hx
theorem mkOs_some {w : World} {g off : Nat} {sp : Option Nat} {ss : List OSh} {k : Int} (h : CanO w (some ⟨g, off, sp⟩) ss) (q : Addr × Value) (hq : q ∈ mkOs g off ss k) : ∃ x, w.cell? q.1 = some x := by
  obtain ⟨j, hj, k', hq⟩ := mkOs_mem g ss off k q hq
  obtain ⟨g', off', e, hc⟩ := h j hj
  injection e with e; injection e with e1 e2 e3; subst e1 e2
  unfold mkO1 at hq
  rcases List.mem_append.1 hq with hq | hq
  · simp only [List.mem_cons, List.not_mem_nil, or_false] at hq
    rcases hq with rfl | rfl | rfl | rfl | rfl | rfl
    · exact (hc.cell 0 (by omega)).1
    · exact (hc.cell 1 (by omega)).1
    · exact (hc.cell 2 (by omega)).1
    · exact (hc.cell 3 (by omega)).1
    · exact (hc.cell 4 (by omega)).1
    · exact (hc.cell 5 (by omega)).1
  · rcases List.mem_append.1 hq with hq | hq
    · exact mkI_some hc.row q hq
    · simp only [List.mem_singleton] at hq
      subst hq
      exact (hc.cell 7 (by omega)).1

/-- What is stored lies in rows that were there. -/
theorem canI_lt {w : World} {a : Option Addr} {n : Nat} (h : CanI w a n) (hn : 0 < n) (x : Addr) (hx : a = some x) : x.block < w.heap.size := by
  obtain ⟨g, off, h1, h2, _⟩ := h 0 hn
  rw [hx] at h1; injection h1 with h1; rw [h1]; exact h2
theorem markL_lt {w : World} {s : HSh} (h : CanH w s) : ∀ q ∈ markL s, q.1.block < w.heap.size ∧ ∃ x, w.cell? q.1 = some x := by
  intro q hq
  unfold markL at hq
  rcases List.mem_append.1 hq with hq | hq
  · cases ho : s.oa with
    | none => rw [ho] at hq; simp [mkO] at hq
    | some x =>
      obtain ⟨xg, xo, xs⟩ := x
      rw [ho] at hq
      unfold mkO at hq
      simp only at hq
      have HO := h.o
      rw [ho] at HO
      rcases mkOs_where xg s.os xo 1 q hq with ⟨j, i, h1, h2, h3, h4⟩ | ⟨t, h1, h2, y, h3, h4⟩
      · obtain ⟨g, off, e, hc⟩ := HO j h1
        injection e with e
        injection e with e1 e2 e3
        subst e1 e2
        rw [h4]
        exact ⟨hc.lt, (hc.cell i h2).1⟩
      · obtain ⟨j, hj, rfl⟩ := List.mem_iff_getElem.1 h1
        obtain ⟨g, off, e, hc⟩ := HO j hj
        refine ⟨by rw [h4]; exact canI_lt hc.row h2 y h3, ?_⟩
        -- an entry of a row of fields
        exact mkOs_some HO q hq
  · rcases List.mem_append.1 hq with hq | hq
    · obtain ⟨h1, x, h2, h3⟩ := mkW_block _ _ _ _ hq
      obtain ⟨g, off, e, hg, _⟩ := h.wk 0 h1
      rw [h2] at e; injection e with e
      refine ⟨by rw [h3, e]; exact hg, ?_⟩
      rw [h2, e] at hq
      unfold mkW at hq
      obtain ⟨j, hj, hq⟩ := List.mem_flatMap.1 hq
      obtain ⟨g', off', e', _, hx, _, hy, _⟩ := h.wk j (List.mem_range.1 hj)
      rw [h2, e] at e'; injection e' with e'; injection e' with e1 e2; subst e1 e2
      simp only [List.mem_cons, List.not_mem_nil, or_false] at hq
      rcases hq with rfl | rfl
      · exact hx
      · exact hy
    · rcases List.mem_append.1 hq with hq | hq
      · obtain ⟨h1, x, h2, h3⟩ := mkI_block _ _ _ _ hq
        refine ⟨by rw [h3]; exact canI_lt h.b h1 x h2, ?_⟩
        rw [h2] at hq
        unfold mkI at hq
        obtain ⟨j, hj, rfl⟩ := List.mem_map.1 hq
        obtain ⟨g', off', e', _, hx, _⟩ := h.b j (List.mem_range.1 hj)
        rw [h2] at e'; injection e' with e'; subst e'
        exact hx
      · obtain ⟨h1, x, h2, h3⟩ := mkS_block _ _ _ _ hq
        refine ⟨by rw [h3]; exact canI_lt h.st h1 x h2, ?_⟩
        rw [h2] at hq
        unfold mkS at hq
        obtain ⟨j, hj, rfl⟩ := List.mem_map.1 hq
        obtain ⟨g', off', e', _, hx, _⟩ := h.st j (List.mem_range.1 hj)
        rw [h2] at e'; injection e' with e'; subst e'
        exact hx

end Go.Proofs.Ytjhdnachbahbmaa

/- HeapForm: The form of a heap's value. -/
namespace Go.Proofs.Ytjhdnachbahbmaa
open Go.RowKit

theorem rdH_form {w : World} {v : Value} {H : HeapD} (r : RdH w v H) : ∃ a0 n0 k0 a1 n1 k1 a2 n2 k2 a3 n3 k3, v = .agg #[.slice a0 n0 k0, .slice a1 n1 k1, .slice a2 n2 k2, .slice a3 n3 k3] := by
  obtain ⟨ao, co, aw, cw, ab, cb, sa, sc, h, _⟩ := r
  exact ⟨_, _, _, _, _, _, _, _, _, _, _, _, h⟩

end Go.Proofs.Ytjhdnachbahbmaa

/- MarkH3Walks: What markHeap and heldHeap do. -/
namespace Go.Proofs.Ytjhdnachbahbmaa
open Go.RowKit
set_option linter.unusedVariables false

theorem cntO_bd (ss : List OSh) (h1 : ss.length ≤ 16777216) (h2 : ∀ t ∈ ss, t.n ≤ 16777216) : cntO ss ≤ 16777216 * (7 + 16777216) :=
  Nat.le_trans (cntO_le ss 16777216 h2) (Nat.mul_le_mul_right _ h1)

/-- A new block of four slices is as it was behind stores into what was there before. -/
theorem four_stored (w : World) (t : TypeId) (x0 x1 x2 x3 : Value) (L : Sts) (hL : ∀ q ∈ L, q.1.block < w.heap.size) (X : World) (hX : X = stores (w.alloc (.cells #[x0, x1, x2, x3] t)) L) :
    X.cell? ⟨w.heap.size, 0, none⟩ = some x0 ∧ X.cell? ⟨w.heap.size, 1, none⟩ = some x1 ∧ X.cell? ⟨w.heap.size, 2, none⟩ = some x2 ∧ X.cell? ⟨w.heap.size, 3, none⟩ = some x3 := by
  have h : ∀ k, X.cell? ⟨w.heap.size, k, none⟩ = (#[x0, x1, x2, x3] : Array Value)[k]? := fun k => by
    rw [hX, stores_other _ _ (fun q hq e => by have := hL q hq; rw [e] at this; exact Nat.lt_irrefl _ this), World.cell?_alloc_mark]
  exact ⟨h 0, h 1, h 2, h 3⟩

/-- What heldHeap asks of a world. -/
structure HeldH (w : World) (s : HSh) : Prop where
  all : ∀ q ∈ markL s, w.cell? q.1 = some q.2
  head : ∀ j (h : j < s.os.length), ∃ g off, s.oa = some ⟨g, off, none⟩ ∧ g < w.heap.size ∧ w.cell? ⟨g, off + j * 8 + 6, none⟩ = some (.slice s.os[j].f s.os[j].n s.os[j].c) ∧ (0 < s.os[j].n → ∃ g' off', s.os[j].f = some ⟨g', off', none⟩)
  wk : 0 < s.wn → ∃ g off, s.wa = some ⟨g, off, none⟩
  b : 0 < s.bn → ∃ g off, s.ba = some ⟨g, off, none⟩
  st : 0 < s.sn → ∃ g off, s.sa = some ⟨g, off, none⟩
theorem heldH_later {w w' : World} {s : HSh} (h : HeldH w s) (hb : Below w.heap.size w w') : HeldH w' s := by
  refine ⟨fun q hq => ?_, fun j hj => ?_, h.wk, h.b, h.st⟩
  · rw [hb.cell (World.block_lt_of_cell? w _ (h.all q hq))]; exact h.all q hq
  · obtain ⟨g, off, h1, h2, h3, h4⟩ := h.head j hj
    exact ⟨g, off, h1, Nat.lt_of_lt_of_le h2 hb.size, (hb.cell (p := ⟨g, off + j * 8 + 6, none⟩) h2).trans h3, h4⟩

/-- Behind markHeap all that it stored is there, if no place was stored to twice. -/
theorem marked_held {w w' : World} {s : HSh} (h : CanH w s) (hn : ((markL s).map (·.1)).Nodup) (hb : Below w.heap.size (stores w (markL s)) w') (hd : ∀ j (hj : j < s.os.length), ∀ g off, s.oa = some ⟨g, off, none⟩ → ∀ q ∈ markL s, q.1 ≠ ⟨g, off + j * 8 + 6, none⟩) : HeldH w' s := by
  refine ⟨fun q hq => ?_, fun j hj => ?_, fun hp => ?_, fun hp => ?_, fun hp => ?_⟩
  · rw [hb.cell (markL_lt h q hq).1]
    exact stores_mem _ hn w (fun p hp => (markL_lt h p hp).2) q hq
  · obtain ⟨g, off, h1, h2⟩ := h.o j hj
    refine ⟨g, off, h1, ?_, ?_, fun hp => ?_⟩
    · have := hb.size; rw [stores_size] at this; exact Nat.lt_of_lt_of_le h2.lt this
    · rw [hb.cell (p := ⟨g, off + j * 8 + 6, none⟩) h2.lt, stores_other _ _ (hd j hj g off h1)]
      exact h2.head
    · obtain ⟨g', off', e, _⟩ := h2.row 0 hp
      exact ⟨g', off', e⟩
  · obtain ⟨g, off, e, _⟩ := h.wk 0 hp; exact ⟨g, off, e⟩
  · obtain ⟨g, off, e, _⟩ := h.b 0 hp; exact ⟨g, off, e⟩
  · obtain ⟨g, off, e, _⟩ := h.st 0 hp; exact ⟨g, off, e⟩

end Go.Proofs.Ytjhdnachbahbmaa

/- CanHWalks: A heap that toHeap made may be written. -/
namespace Go.Proofs.Ytjhdnachbahbmaa
open Go.RowKit
set_option linter.unusedVariables false

theorem ownI_can {w : World} {B : Nat} {v : Value} {zs : List Int} (h : ownI w B v zs) : ∃ a c, v = .slice a zs.length c ∧ CanI w a zs.length ∧ ∀ x, a = some x → B ≤ x.block := by
  rcases ownI_form h with ⟨rfl, rfl⟩ | ⟨g, cap, rfl, hB, hg, _, _, HC⟩
  · exact ⟨none, 0, rfl, fun j hj => by simp at hj, fun x hx => by cases hx⟩
  · exact ⟨_, cap, rfl, fun j hj => ⟨g, 0, rfl, hg, ⟨_, by rw [Nat.zero_add]; exact (HC.out j hj).1⟩, by rw [Nat.zero_add]; exact (HC.out j hj).2⟩, fun x hx => by injection hx with hx; subst hx; exact hB⟩
theorem ownS_can {w : World} {B : Nat} {v : Value} {zs : List (List UInt8)} (h : ownS w B v zs) : ∃ a c, v = .slice a zs.length c ∧ CanI w a zs.length ∧ ∀ x, a = some x → B ≤ x.block := by
  rcases ownS_form h with ⟨rfl, rfl⟩ | ⟨g, cap, rfl, hB, hg, _, _, HC⟩
  · exact ⟨none, 0, rfl, fun j hj => by simp at hj, fun x hx => by cases hx⟩
  · exact ⟨_, cap, rfl, fun j hj => ⟨g, 0, rfl, hg, ⟨_, by rw [Nat.zero_add]; exact (HC.out j hj).1⟩, by rw [Nat.zero_add]; exact (HC.out j hj).2⟩, fun x hx => by injection hx with hx; subst hx; exact hB⟩
theorem objAt_some {w : World} {g p : Nat} {o : ObjD} {f : Value} (h : ObjAt w g p o f) : ∀ k, k < 8 → ∃ x, w.cell? ⟨g, p + k, none⟩ = some x := by
  intro k hk
  match k, hk with
  | 0, _ => exact ⟨_, h.c0⟩
  | 1, _ => exact ⟨_, h.c1⟩
  | 2, _ => exact ⟨_, h.c2⟩
  | 3, _ => exact ⟨_, h.c3⟩
  | 4, _ => exact ⟨_, h.c4⟩
  | 5, _ => exact ⟨_, h.c5⟩
  | 6, _ => exact ⟨_, h.c6⟩
  | 7, _ => exact ⟨_, h.c7⟩
theorem laidO_can {w : World} {g : Nat} {os : List ObjD} (h : LaidO w g os os.length) (hg : g < w.heap.size) :
    ∃ ss : List OSh, ss.length = os.length ∧ CanO w (some ⟨g, 0, none⟩) ss ∧ (∀ t ∈ ss, ∀ y, t.f = some y → g + 1 ≤ y.block) ∧ ∀ i (h1 : i < ss.length) (h2 : i < os.length), ss[i].n = os[i].field.length := by
  have key : ∀ i : Fin os.length, ∃ s : OSh, s.n = os[i].field.length ∧ CanO1 w g (0 + i.1 * 8) s ∧ ∀ y, s.f = some y → g + 1 ≤ y.block := by
    intro i
    obtain ⟨f, h1, h2, h3⟩ := h i.1 i.2 i.2
    obtain ⟨a, c, rfl, h4, h5⟩ := ownI_can h2
    refine ⟨⟨a, _, c⟩, rfl, ⟨hg, fun k hk => ⟨?_, ?_⟩, ?_, h4, fun x hx _ => by have := h5 x hx; omega⟩, h5⟩
    · rw [Nat.zero_add]; exact objAt_some h1 k hk
    · rw [Nat.zero_add]; exact h3 k hk
    · rw [Nat.zero_add]; exact h1.c6
  refine ⟨List.ofFn (fun i => Classical.choose (key i)), by simp, ?_, ?_, ?_⟩
  · intro j hj
    refine ⟨g, 0, rfl, ?_⟩
    rw [List.getElem_ofFn]
    exact (Classical.choose_spec (key ⟨j, by simpa using hj⟩)).2.1
  · intro t ht
    obtain ⟨j, hj, rfl⟩ := List.mem_iff_getElem.1 ht
    rw [List.getElem_ofFn]
    exact (Classical.choose_spec (key ⟨j, by simpa using hj⟩)).2.2
  · intro i h1 h2
    rw [List.getElem_ofFn]
    exact (Classical.choose_spec (key ⟨i, h2⟩)).1
theorem ownH_can {w : World} {B : Nat} {v : Value} {H : HeapD} (h : OwnH w B v H) (hs : SmallH H) : ∃ s : HSh, v = s.v ∧ CanH w s ∧ ∀ q ∈ markL s, B ≤ q.1.block := by
  obtain ⟨go, gw, vb, vs, rfl, b1, h1, h2, b2, h3, h4, h5, h6⟩ := h
  obtain ⟨ss, e1, e2, e3, e4⟩ := laidO_can h2 h1
  obtain ⟨ba, bc, rfl, e5, e6⟩ := ownI_can h5
  obtain ⟨sa, sc, rfl, e7, e8⟩ := ownS_can h6
  have hso := hs.objs
  have hsw := hs.weaks
  have hsb := hs.buffer
  have hss := hs.sites
  refine ⟨⟨some ⟨go, 0, none⟩, H.objs.length, ss, some ⟨gw, 0, none⟩, H.weaks.length, H.weaks.length, ba, H.buffer.length, bc, sa, H.sites.length, sc⟩, by rw [HSh.v, e1], ⟨e2, ?_, ?_, e5, e7, by simp only [e1]; omega, ?_, by simp only; omega, by simp only; omega, by simp only; omega⟩, ?_⟩
  · intro x t hx ht _ y hy
    have := e3 t ht y hy
    injection hx with hx
    subst hx
    simp only; omega
  · intro j hj
    obtain ⟨h7, h8⟩ := h4 j hj hj
    exact ⟨gw, 0, rfl, h3, ⟨_, by rw [Nat.zero_add]; exact h7.c0⟩, by rw [Nat.zero_add]; exact h8 0 (by omega), ⟨_, by rw [Nat.zero_add]; exact h7.c1⟩, by rw [Nat.zero_add]; exact h8 1 (by omega)⟩
  · intro t ht
    obtain ⟨j, hj, rfl⟩ := List.mem_iff_getElem.1 ht
    simp only at hj ⊢
    rw [e4 j hj (by omega)]
    have := hs.fields _ (List.getElem_mem (l := H.objs) (n := j) (by omega))
    omega
  · intro q hq
    unfold markL at hq
    simp only [List.mem_append] at hq
    rcases hq with hq | hq | hq | hq
    · rcases mkOs_where go ss 0 1 q hq with ⟨j, i, _, _, _, e⟩ | ⟨t, ht, _, y, hy, e⟩
      · rw [e]; exact b1
      · have := e3 t ht y hy; rw [e]; omega
    · obtain ⟨_, x, hx, e⟩ := mkW_block _ _ _ _ hq
      injection hx with hx; subst hx; rw [e]; exact b2
    · obtain ⟨_, x, hx, e⟩ := mkI_block _ _ _ _ hq
      rw [e]; exact e6 x hx
    · obtain ⟨_, x, hx, e⟩ := mkS_block _ _ _ _ hq
      rw [e]; exact e8 x hx

/-- Stores into other blocks leave a row of one's own. -/
theorem ownI_stores {w : World} {B : Nat} {v : Value} {zs : List Int} (L : Sts) (h : ownI w B v zs) (hL : ∀ q ∈ L, ∀ g, v.ownBlock = some g → q.1.block ≠ g) : ownI (stores w L) B v zs := by
  rcases h with ⟨h1, h2 | ⟨g, cap, cur, h2, h3, h4, h5⟩⟩
  · exact ⟨h1, .inl h2⟩
  · refine ⟨h1, .inr ⟨g, cap, cur, h2, h3, ?_, h5⟩⟩
    rw [stores_block L g (fun q hq => hL q hq g (by rw [h2]; rfl))]
    exact h4

end Go.Proofs.Ytjhdnachbahbmaa

/- MemHWalks: A heap in memory of its own: what it holds, that it may be written, and that no two of its rows lie in one block. -/
namespace Go.Proofs.Ytjhdnachbahbmaa
open Go.RowKit
set_option linter.unusedVariables false

/-- Two rows lie in two blocks, unless one is empty. -/
def Ap (a : Option Addr) (n : Nat) (b : Option Addr) (m : Nat) : Prop := 0 < n → 0 < m → ∀ x y, a = some x → b = some y → x.block ≠ y.block
theorem Ap.symm {a b : Option Addr} {n m : Nat} (h : Ap a n b m) : Ap b m a n := fun h1 h2 x y hx hy e => h h2 h1 y x hy hx e.symm
structure SepH (s : HSh) : Prop where
  ow : Ap s.oa s.os.length s.wa s.wn
  ob : Ap s.oa s.os.length s.ba s.bn
  os : Ap s.oa s.os.length s.sa s.sn
  wb : Ap s.wa s.wn s.ba s.bn
  ws : Ap s.wa s.wn s.sa s.sn
  bs : Ap s.ba s.bn s.sa s.sn
  ofl : ∀ t ∈ s.os, Ap s.oa s.os.length t.f t.n
  wf : ∀ t ∈ s.os, Ap s.wa s.wn t.f t.n
  bf : ∀ t ∈ s.os, Ap s.ba s.bn t.f t.n
  sf : ∀ t ∈ s.os, Ap s.sa s.sn t.f t.n
  ff : s.os.Pairwise (fun t u => Ap t.f t.n u.f u.n)

theorem mkO1_nodup (g p : Nat) (s : OSh) (k : Int) (h : 0 < s.n → ∀ x, s.f = some x → x.block ≠ g) : ((mkO1 g p s k).map (·.1)).Nodup := by
  have hI := mkI_nodup s.f (k + 1 + 1 + 1 + 1 + 1 + 1) s.n
  have hb : ∀ a ∈ (mkI s.f (k + 1 + 1 + 1 + 1 + 1 + 1) s.n).map (·.1), a.block ≠ g := by
    intro a ha
    obtain ⟨q, hq, rfl⟩ := List.mem_map.1 ha
    obtain ⟨h1, x, h2, h3⟩ := mkI_block _ _ _ _ hq
    rw [h3]; exact h h1 x h2
  unfold mkO1
  rw [List.map_append, List.map_append]
  generalize (mkI s.f (k + 1 + 1 + 1 + 1 + 1 + 1) s.n).map (·.1) = M at *
  refine List.nodup_append.2 ⟨?_, List.nodup_append.2 ⟨hI, ?_, ?_⟩, ?_⟩
  · simp
  · simp
  · intro a ha b hbm e
    simp only [List.map_cons, List.map_nil, List.mem_singleton] at hbm
    have := hb a ha
    rw [e, hbm] at this
    exact this rfl
  · intro a ha b hbm e
    simp only [List.map_cons, List.map_nil, List.mem_cons, List.not_mem_nil, or_false] at ha
    rcases List.mem_append.1 hbm with hm | hm
    · have := hb b hm
      rw [← e] at this
      rcases ha with rfl | rfl | rfl | rfl | rfl | rfl <;> exact this rfl
    · simp only [List.map_cons, List.map_nil, List.mem_singleton] at hm
      subst hm
      rcases ha with rfl | rfl | rfl | rfl | rfl | rfl <;> simp at e
theorem mkOs_nodup (g : Nat) (ss : List OSh) (h : ∀ t ∈ ss, 0 < t.n → ∀ x, t.f = some x → x.block ≠ g) (hp : ss.Pairwise (fun t u => Ap t.f t.n u.f u.n)) : ∀ p k, ((mkOs g p ss k).map (·.1)).Nodup := by
  induction ss with
  | nil => intro p k; simp [mkOs]
  | cons s r ih =>
    intro p k
    rw [List.pairwise_cons] at hp
    unfold mkOs
    rw [List.map_append]
    refine List.nodup_append.2 ⟨mkO1_nodup g p s k (h s (by simp)), ih (fun t ht => h t (by simp [ht])) hp.2 _ _, ?_⟩
    intro a ha b hb e
    obtain ⟨q, hq, rfl⟩ := List.mem_map.1 ha
    obtain ⟨q2, hq2, rfl⟩ := List.mem_map.1 hb
    rcases mkO1_where g p s k q hq with ⟨i, h1, _, h3⟩ | ⟨h1, x, h2, h3⟩
    · rcases mkOs_where g r _ _ q2 hq2 with ⟨j, i2, _, _, _, h6⟩ | ⟨t, ht, h4, y, h5, h6⟩
      · rw [h3, h6] at e
        simp at e <;> omega
      · have := h t (by simp [ht]) h4 y h5
        rw [← h6, ← e, h3] at this
        exact this rfl
    · rcases mkOs_where g r _ _ q2 hq2 with ⟨j, i2, _, _, _, h6⟩ | ⟨t, ht, h4, y, h5, h6⟩
      · have := h s (by simp) h1 x h2
        rw [← h3, e, h6] at this
        exact this rfl
      · exact hp.1 t ht h1 h4 x y h2 h5 (by rw [← h3, ← h6, e])
/-- Where a store into the objects' row lies. -/
theorem mkO_where (s : HSh) (k : Int) (q : Addr × Value) (h : q ∈ mkO s.oa s.os k) : ∃ x, s.oa = some x ∧ ((∃ j i, j < s.os.length ∧ i < 8 ∧ i ≠ 6 ∧ q.1 = ⟨x.block, x.off + j * 8 + i, none⟩) ∨ ∃ t ∈ s.os, 0 < t.n ∧ ∃ y, t.f = some y ∧ q.1.block = y.block) := by
  unfold mkO at h
  cases ho : s.oa with
  | none => rw [ho] at h; simp at h
  | some x =>
    rw [ho] at h
    exact ⟨x, rfl, mkOs_where _ _ _ _ q h⟩
theorem sep_nodup {s : HSh} (h : SepH s) : ((markL s).map (·.1)).Nodup := by
  unfold markL
  rw [List.map_append, List.map_append, List.map_append]
  have hO : ((mkO s.oa s.os 1).map (·.1)).Nodup := by
    unfold mkO
    cases ho : s.oa with
    | none => simp
    | some x =>
      refine mkOs_nodup _ _ (fun t ht h1 y hy => ?_) h.ff _ _
      have hl : 0 < s.os.length := List.length_pos_of_mem ht
      exact fun e => h.ofl t ht hl h1 x y ho hy e.symm
  have key : ∀ (A M : Sts), (∀ q ∈ A, ∀ q2 ∈ M, q.1 ≠ q2.1) → ∀ a ∈ A.map (·.1), ∀ b ∈ M.map (·.1), a ≠ b := by
    intro A M hh a ha b hb
    obtain ⟨q, hq, rfl⟩ := List.mem_map.1 ha
    obtain ⟨q2, hq2, rfl⟩ := List.mem_map.1 hb
    exact hh q hq q2 hq2
  have kO : ∀ (M : Sts) (m : Option Addr) (n : Nat), (∀ q ∈ M, 0 < n ∧ ∃ x, m = some x ∧ q.1.block = x.block) → Ap s.oa s.os.length m n → (∀ t ∈ s.os, Ap m n t.f t.n) → ∀ q ∈ mkO s.oa s.os 1, ∀ q2 ∈ M, q.1 ≠ q2.1 := by
    intro M m n hM h1 h2 q hq q2 hq2 e
    obtain ⟨hn, z, hz, hzb⟩ := hM q2 hq2
    obtain ⟨x, hx, ⟨j, i, hj, _, _, h3⟩ | ⟨t, ht, h4, y, h5, h6⟩⟩ := mkO_where s 1 q hq
    · refine h1 (by omega) hn x z hx hz ?_
      rw [← hzb, ← e, h3]
    · exact h2 t ht hn h4 z y hz h5 (by rw [← hzb, ← h6, e])
  have kR : ∀ (A M : Sts) (a m : Option Addr) (na nm : Nat), (∀ q ∈ A, 0 < na ∧ ∃ x, a = some x ∧ q.1.block = x.block) → (∀ q ∈ M, 0 < nm ∧ ∃ x, m = some x ∧ q.1.block = x.block) → Ap a na m nm → ∀ q ∈ A, ∀ q2 ∈ M, q.1 ≠ q2.1 := by
    intro A M a m na nm hA hM hap q hq q2 hq2 e
    obtain ⟨h1, x, hx, hxb⟩ := hA q hq
    obtain ⟨h2, y, hy, hyb⟩ := hM q2 hq2
    exact hap h1 h2 x y hx hy (by rw [← hxb, ← hyb, e])
  have bW : ∀ q ∈ mkW s.wa s.k1 s.wn, 0 < s.wn ∧ ∃ x, s.wa = some x ∧ q.1.block = x.block := fun q hq => mkW_block _ _ _ _ hq
  have bI : ∀ q ∈ mkI s.ba s.k2 s.bn, 0 < s.bn ∧ ∃ x, s.ba = some x ∧ q.1.block = x.block := fun q hq => mkI_block _ _ _ _ hq
  have bS : ∀ q ∈ mkS s.sa s.k3 s.sn, 0 < s.sn ∧ ∃ x, s.sa = some x ∧ q.1.block = x.block := fun q hq => mkS_block _ _ _ _ hq
  refine List.nodup_append.2 ⟨hO, List.nodup_append.2 ⟨mkW_nodup _ _ _, List.nodup_append.2 ⟨mkI_nodup _ _ _, mkS_nodup _ _ _, key _ _ (kR _ _ _ _ _ _ bI bS h.bs)⟩, ?_⟩, ?_⟩
  · rw [← List.map_append]
    refine key _ _ (fun q hq q2 hq2 => ?_)
    rcases List.mem_append.1 hq2 with hq2 | hq2
    · exact kR _ _ _ _ _ _ bW bI h.wb q hq q2 hq2
    · exact kR _ _ _ _ _ _ bW bS h.ws q hq q2 hq2
  · rw [← List.map_append, ← List.map_append]
    refine key _ _ (fun q hq q2 hq2 => ?_)
    rcases List.mem_append.1 hq2 with hq2 | hq2
    · exact kO _ _ _ bW h.ow h.wf q hq q2 hq2
    · rcases List.mem_append.1 hq2 with hq2 | hq2
      · exact kO _ _ _ bI h.ob h.bf q hq q2 hq2
      · exact kO _ _ _ bS h.os h.sf q hq q2 hq2
theorem sep_head {s : HSh} (h : SepH s) : ∀ j, j < s.os.length → ∀ g off, s.oa = some ⟨g, off, none⟩ → ∀ q ∈ markL s, q.1 ≠ ⟨g, off + j * 8 + 6, none⟩ := by
  intro j hj g off ho q hq e
  unfold markL at hq
  simp only [List.mem_append] at hq
  rcases hq with hq | hq | hq | hq
  · obtain ⟨x, hx, ⟨j2, i, hj2, h1, h2, h3⟩ | ⟨t, ht, h4, y, h5, h6⟩⟩ := mkO_where s 1 q hq
    · rw [ho] at hx; injection hx with hx; subst hx
      rw [e] at h3
      simp at h3
      omega
    · refine h.ofl t ht (by omega) h4 _ y ho h5 ?_
      rw [← h6, e]
  · obtain ⟨h1, x, h2, h3⟩ := mkW_block _ _ _ _ hq
    exact h.ow (by omega) h1 _ x ho h2 (by rw [← h3, e])
  · obtain ⟨h1, x, h2, h3⟩ := mkI_block _ _ _ _ hq
    exact h.ob (by omega) h1 _ x ho h2 (by rw [← h3, e])
  · obtain ⟨h1, x, h2, h3⟩ := mkS_block _ _ _ _ hq
    exact h.os (by omega) h1 _ x ho h2 (by rw [← h3, e])

/-- Each row that isn't empty lies at or behind block B. -/
structure LoH (B : Nat) (s : HSh) : Prop where
  lo : 0 < s.os.length → ∀ x, s.oa = some x → B ≤ x.block
  lw : 0 < s.wn → ∀ x, s.wa = some x → B ≤ x.block
  lb : 0 < s.bn → ∀ x, s.ba = some x → B ≤ x.block
  ls : 0 < s.sn → ∀ x, s.sa = some x → B ≤ x.block
  lf : ∀ t ∈ s.os, 0 < t.n → ∀ x, t.f = some x → B ≤ x.block
theorem lo_mark {B : Nat} {s : HSh} (h : LoH B s) : ∀ q ∈ markL s, B ≤ q.1.block := by
  intro q hq
  unfold markL at hq
  simp only [List.mem_append] at hq
  rcases hq with hq | hq | hq | hq
  · obtain ⟨x, hx, ⟨j2, i, hj2, h1, h2, h3⟩ | ⟨t, ht, h4, y, h5, h6⟩⟩ := mkO_where s 1 q hq
    · rw [h3]; exact h.lo (by omega) x hx
    · rw [h6]; exact h.lf t ht h4 y h5
  · obtain ⟨h1, x, h2, h3⟩ := mkW_block _ _ _ _ hq
    rw [h3]; exact h.lw h1 x h2
  · obtain ⟨h1, x, h2, h3⟩ := mkI_block _ _ _ _ hq
    rw [h3]; exact h.lb h1 x h2
  · obtain ⟨h1, x, h2, h3⟩ := mkS_block _ _ _ _ hq
    rw [h3]; exact h.ls h1 x h2

/-- A heap in memory of its own, at or behind block B. -/
structure MemH (w : World) (B : Nat) (s : HSh) (H : HeapD) : Prop where
  rd : RdH w s.v H
  can : CanH w s
  sep : SepH s
  lo : LoH B s
theorem memH_later {w w' : World} {B : Nat} {s : HSh} {H : HeapD} (h : MemH w B s H) (hb : Below w.heap.size w w') : MemH w' B s H := ⟨rdH_later h.rd hb, canH_later h.can hb, h.sep, h.lo⟩
theorem loH_mono {B C : Nat} {s : HSh} (h : LoH B s) (hC : C ≤ B) : LoH C s :=
  ⟨fun h1 x hx => Nat.le_trans hC (h.lo h1 x hx), fun h1 x hx => Nat.le_trans hC (h.lw h1 x hx), fun h1 x hx => Nat.le_trans hC (h.lb h1 x hx), fun h1 x hx => Nat.le_trans hC (h.ls h1 x hx), fun t ht h1 x hx => Nat.le_trans hC (h.lf t ht h1 x hx)⟩
theorem memH_mono {w : World} {B C : Nat} {s : HSh} {H : HeapD} (h : MemH w B s H) (hC : C ≤ B) : MemH w C s H := ⟨h.rd, h.can, h.sep, loH_mono h.lo hC⟩
/-- Behind markHeap it holds the marks. -/
theorem memH_held {w w' : World} {B : Nat} {s : HSh} {H : HeapD} (h : MemH w B s H) (hb : Below w.heap.size (stores w (markL s)) w') : HeldH w' s :=
  marked_held h.can (sep_nodup h.sep) hb (sep_head h.sep)

/-- Blocks from B on are as they were. -/
def KeepB (B : Nat) (w w' : World) : Prop := w.heap.size ≤ w'.heap.size ∧ ∀ g, B ≤ g → g < w.heap.size → w'.heap[g]? = w.heap[g]?
theorem keepB_set (B : Nat) (w : World) (p : Addr) (u : Value) (h : p.block < B) : KeepB B w (w.setCell p u) :=
  ⟨by simp [World.setCell], fun g hg _ => heap_setCell_other w p g u (by omega)⟩
theorem KeepB.trans {B : Nat} {a b c : World} (h1 : KeepB B a b) (h2 : KeepB B b c) : KeepB B a c :=
  ⟨Nat.le_trans h1.1 h2.1, fun g hg hl => (h2.2 g hg (Nat.lt_of_lt_of_le hl h1.1)).trans (h1.2 g hg hl)⟩
theorem KeepB.cell {B : Nat} {w w' : World} (h : KeepB B w w') {p : Addr} (hp : B ≤ p.block) (hl : p.block < w.heap.size) : w'.cell? p = w.cell? p := World.cell?_of_block (h.2 _ hp hl)
theorem KeepB.frozen {B : Nat} {w w' : World} (h : KeepB B w w') {p : Addr} (hp : B ≤ p.block) (hl : p.block < w.heap.size) : w'.frozen? p = w.frozen? p := World.frozen?_of_block (h.2 _ hp hl)
theorem canI_keepB {B : Nat} {w w' : World} {a : Option Addr} {n : Nat} (h : CanI w a n) (hb : KeepB B w w') (hlo : 0 < n → ∀ x, a = some x → B ≤ x.block) : CanI w' a n := by
  refine canI_keep h hb.1 (fun x hx hn => hb.2 _ (hlo hn x hx) ?_)
  exact canI_lt h hn x hx
theorem rdI_keepB {B : Nat} {w w' : World} {a : Option Addr} {zs : List Int} (h : RdI w a zs) (hb : KeepB B w w') (hlo : 0 < zs.length → ∀ x, a = some x → B ≤ x.block) : RdI w' a zs := by
  intro j hj
  obtain ⟨g, off, h1, h2, h3⟩ := h j hj
  exact ⟨g, off, h1, Nat.lt_of_lt_of_le h2 hb.1, (hb.cell (p := ⟨g, off + j, none⟩) (hlo (by omega) ⟨g, off, none⟩ h1) h2).trans h3⟩
theorem rdS_keepB {B : Nat} {w w' : World} {a : Option Addr} {zs : List (List UInt8)} (h : RdS w a zs) (hb : KeepB B w w') (hlo : 0 < zs.length → ∀ x, a = some x → B ≤ x.block) : RdS w' a zs := by
  intro j hj
  obtain ⟨g, off, h1, h2, h3⟩ := h j hj
  exact ⟨g, off, h1, Nat.lt_of_lt_of_le h2 hb.1, (hb.cell (p := ⟨g, off + j, none⟩) (hlo (by omega) ⟨g, off, none⟩ h1) h2).trans h3⟩
theorem memH_parts {w : World} {B : Nat} {s : HSh} {H : HeapD} (h : MemH w B s H) : H.objs.length = s.os.length ∧ H.weaks.length = s.wn ∧ H.buffer.length = s.bn ∧ H.sites.length = s.sn ∧ RdO w s.oa H.objs ∧ RdW w s.wa H.weaks ∧ RdI w s.ba H.buffer ∧ RdS w s.sa H.sites := by
  obtain ⟨ao, co, aw, cw, ab, cb, sa, sc, e, h1, h2, h3, h4⟩ := h.rd
  unfold HSh.v at e
  simp only [Value.agg.injEq, Array.mk.injEq, List.cons.injEq, Value.slice.injEq] at e
  obtain ⟨⟨e1, e2, -⟩, ⟨e3, e4, -⟩, ⟨e5, e6, -⟩, ⟨e7, e8, -⟩, -⟩ := e
  rw [e1, e3, e5, e7]
  exact ⟨e2.symm, e4.symm, e6.symm, e8.symm, h1, h2, h3, h4⟩
theorem memH_mk {w : World} {B : Nat} {s : HSh} {H : HeapD} (l1 : H.objs.length = s.os.length) (l2 : H.weaks.length = s.wn) (l3 : H.buffer.length = s.bn) (l4 : H.sites.length = s.sn) (h1 : RdO w s.oa H.objs) (h2 : RdW w s.wa H.weaks) (h3 : RdI w s.ba H.buffer) (h4 : RdS w s.sa H.sites)
    (hc : CanH w s) (hs : SepH s) (hl : LoH B s) : MemH w B s H :=
  ⟨⟨_, _, _, _, _, _, _, _, by rw [l1, l2, l3, l4]; rfl, h1, h2, h3, h4⟩, hc, hs, hl⟩
theorem memH_keepB {B : Nat} {w w' : World} {s : HSh} {H : HeapD} (h : MemH w B s H) (hb : KeepB B w w') : MemH w' B s H := by
  obtain ⟨l1, l2, l3, l4, h1, h2, h3, h4⟩ := memH_parts h
  have hc := h.can
  have hl := h.lo
  refine memH_mk l1 l2 l3 l4 ?_ ?_ (rdI_keepB h3 hb (by rw [l3]; exact hl.lb)) (rdS_keepB h4 hb (by rw [l4]; exact hl.ls)) ⟨?_, hc.ap, ?_, canI_keepB hc.b hb hl.lb, canI_keepB hc.st hb hl.ls, hc.lo, hc.lf, hc.lw, hc.lb, hc.ls⟩ h.sep hl
  · intro j hj
    obtain ⟨g, off, f, fc, e1, e2, e3, e4⟩ := h1 j hj
    have hB : B ≤ g := hl.lo (by omega) _ e1
    refine ⟨g, off, f, fc, e1, Nat.lt_of_lt_of_le e2 hb.1, e3.keep (fun k => hb.cell (p := ⟨g, k, none⟩) hB e2), rdI_keepB e4 hb (fun hn x hx => ?_)⟩
    obtain ⟨g', off', e5, e6⟩ := hc.o j (by omega)
    rw [e1] at e5; injection e5 with e5; injection e5 with e7 e8; subst e7 e8
    have e9 := e6.head.symm.trans e3.c6
    simp only [Option.some.injEq, Value.slice.injEq] at e9
    exact hl.lf _ (List.getElem_mem (by omega : j < s.os.length)) (by rw [e9.2.1]; exact hn) x (by rw [e9.1]; exact hx)
  · intro j hj
    obtain ⟨g, off, e1, e2, e3⟩ := h2 j hj
    have hB : B ≤ g := hl.lw (by omega) _ e1
    exact ⟨g, off, e1, Nat.lt_of_lt_of_le e2 hb.1, e3.keep (fun k => hb.cell (p := ⟨g, k, none⟩) hB e2)⟩
  · intro j hj
    obtain ⟨g, off, e1, e2⟩ := hc.o j hj
    have hB : B ≤ g := hl.lo (by omega) _ e1
    refine ⟨g, off, e1, Nat.lt_of_lt_of_le e2.lt hb.1, fun k hk => ?_, (hb.cell (p := ⟨g, off + j * 8 + 6, none⟩) hB e2.lt).trans e2.head, canI_keepB e2.row hb (hl.lf _ (List.getElem_mem hj)), e2.apart⟩
    obtain ⟨⟨x, hx⟩, hf⟩ := e2.cell k hk
    exact ⟨⟨x, (hb.cell (p := ⟨g, off + j * 8 + k, none⟩) hB e2.lt).trans hx⟩, (hb.frozen (p := ⟨g, off + j * 8 + k, none⟩) hB e2.lt).trans hf⟩
  · intro j hj
    obtain ⟨g, off, e1, e2, ⟨x, e3⟩, e4, ⟨y, e5⟩, e6⟩ := hc.wk j hj
    have hB : B ≤ g := hl.lw (by omega) _ e1
    exact ⟨g, off, e1, Nat.lt_of_lt_of_le e2 hb.1, ⟨x, (hb.cell (p := ⟨g, off + j * 2, none⟩) hB e2).trans e3⟩, (hb.frozen (p := ⟨g, off + j * 2, none⟩) hB e2).trans e4, ⟨y, (hb.cell (p := ⟨g, off + j * 2 + 1, none⟩) hB e2).trans e5⟩, (hb.frozen (p := ⟨g, off + j * 2 + 1, none⟩) hB e2).trans e6⟩

end Go.Proofs.Ytjhdnachbahbmaa

/- HMWalks: A heap whose rows are all its own: it is read, marked, and turned part by part. -/
namespace Go.Proofs.Ytjhdnachbahbmaa
open Go.RowKit
set_option linter.unusedVariables false
set_option maxRecDepth 100000

/-- Two rows lie in two blocks. -/
def Dif (a b : Option Addr) : Prop := ∀ x y, a = some x → b = some y → x.block ≠ y.block
theorem Dif.symm {a b : Option Addr} (h : Dif a b) : Dif b a := fun x y hx hy e => h y x hy hx e.symm
theorem Dif.ap {a b : Option Addr} (h : Dif a b) (n m : Nat) : Ap a n b m := fun _ _ x y hx hy => h x y hx hy
structure SepX (s : HSh) : Prop where
  ow : Dif s.oa s.wa
  ob : Dif s.oa s.ba
  os : Dif s.oa s.sa
  wb : Dif s.wa s.ba
  ws : Dif s.wa s.sa
  bs : Dif s.ba s.sa
  fo : ∀ t ∈ s.os, Dif s.oa t.f
  fw : ∀ t ∈ s.os, Dif s.wa t.f
  fb : ∀ t ∈ s.os, Dif s.ba t.f
  fs : ∀ t ∈ s.os, Dif s.sa t.f
  ff : s.os.Pairwise (fun t u => Dif t.f u.f)
structure HM (w : World) (B : Nat) (s : HSh) (H : HeapD) : Prop where
  lo : s.os.length = H.objs.length
  lw : s.wn = H.weaks.length
  lb : s.bn = H.buffer.length
  ls : s.sn = H.sites.length
  o : ∀ j (h : j < H.objs.length) (h2 : j < s.os.length), ∃ g, s.oa = some ⟨g, 0, none⟩ ∧ ObjAt w g (j * 8) H.objs[j] (.slice s.os[j].f s.os[j].n s.os[j].c) ∧ ∀ k, k < 8 → w.frozen? ⟨g, j * 8 + k, none⟩ = false
  f : ∀ j (h : j < H.objs.length) (h2 : j < s.os.length), s.os[j].n = H.objs[j].field.length ∧ ownI w B (.slice s.os[j].f s.os[j].n s.os[j].c) H.objs[j].field
  og : ∀ x, s.oa = some x → B ≤ x.block ∧ x.block < w.heap.size
  wk : ∀ j (h : j < H.weaks.length), ∃ g, s.wa = some ⟨g, 0, none⟩ ∧ WeakAt w g (j * 2) H.weaks[j] ∧ ∀ k, k < 2 → w.frozen? ⟨g, j * 2 + k, none⟩ = false
  wg : ∀ x, s.wa = some x → B ≤ x.block ∧ x.block < w.heap.size
  b : ownI w B (.slice s.ba s.bn s.bc) H.buffer
  st : ownS w B (.slice s.sa s.sn s.sc) H.sites
  sep : SepX s
  co : s.os.length ≤ s.oc
  cw : s.wn ≤ s.wc

/-- The heap has a row in the block. -/
def HasB (s : HSh) (g : Nat) : Prop := (∃ x, s.oa = some x ∧ x.block = g) ∨ (∃ x, s.wa = some x ∧ x.block = g) ∨ (∃ x, s.ba = some x ∧ x.block = g) ∨ (∃ x, s.sa = some x ∧ x.block = g) ∨ ∃ t ∈ s.os, ∃ x, t.f = some x ∧ x.block = g
theorem own_block {a : Option Addr} {n c : Nat} {x : Addr} (h : a = some x) : (Value.slice a n c).ownBlock = some x.block := by rw [h]; rfl
theorem own_some {a : Option Addr} {n c g : Nat} (h : (Value.slice a n c).ownBlock = some g) : ∃ x, a = some x ∧ x.block = g := by
  cases a with
  | none => simp [Value.ownBlock] at h
  | some x => exact ⟨x, rfl, by simpa [Value.ownBlock] using h⟩
theorem hm_bl {w : World} {B : Nat} {s : HSh} {H : HeapD} (h : HM w B s H) {g : Nat} (hg : HasB s g) : B ≤ g ∧ g < w.heap.size := by
  rcases hg with ⟨x, hx, rfl⟩ | ⟨x, hx, rfl⟩ | ⟨x, hx, rfl⟩ | ⟨x, hx, rfl⟩ | ⟨t, ht, x, hx, rfl⟩
  · exact h.og x hx
  · exact h.wg x hx
  · exact ownI_lt h.b _ (own_block hx)
  · exact ownS_lt h.st _ (own_block hx)
  · obtain ⟨j, hj, rfl⟩ := List.mem_iff_getElem.1 ht
    exact ownI_lt (h.f j (by rw [← h.lo]; exact hj) hj).2 _ (own_block hx)

theorem ownI_same {w w' : World} {B : Nat} {v : Value} {zs : List Int} (h : ownI w B v zs) (hs : ∀ g, v.ownBlock = some g → w'.heap[g]? = w.heap[g]?) : ownI w' B v zs := by
  rcases h with ⟨h1, h2 | ⟨g, cap, cur, h2, h3, h4, h5⟩⟩
  · exact ⟨h1, .inl h2⟩
  · exact ⟨h1, .inr ⟨g, cap, cur, h2, h3, by rw [hs g (by rw [h2]; rfl)]; exact h4, h5⟩⟩
theorem ownS_same {w w' : World} {B : Nat} {v : Value} {zs : List (List UInt8)} (h : ownS w B v zs) (hs : ∀ g, v.ownBlock = some g → w'.heap[g]? = w.heap[g]?) : ownS w' B v zs := by
  rcases h with ⟨h1, h2 | ⟨g, cap, cur, h2, h3, h4, h5⟩⟩
  · exact ⟨h1, .inl h2⟩
  · exact ⟨h1, .inr ⟨g, cap, cur, h2, h3, by rw [hs g (by rw [h2]; rfl)]; exact h4, h5⟩⟩
theorem objAt_same {w w' : World} {g p : Nat} {o : ObjD} {f : Value} (h : ObjAt w g p o f) (hs : w'.heap[g]? = w.heap[g]?) : ObjAt w' g p o f := h.keep (fun k => World.cell?_of_block (a := ⟨g, k, none⟩) hs)

theorem hm_same {w w' : World} {B : Nat} {s : HSh} {H : HeapD} (h : HM w B s H) (hsz : w.heap.size ≤ w'.heap.size) (hs : ∀ g, HasB s g → w'.heap[g]? = w.heap[g]?) : HM w' B s H where
  lo := h.lo
  lw := h.lw
  lb := h.lb
  ls := h.ls
  o := fun j hj hj2 => by
    obtain ⟨g, h1, h2, h3⟩ := h.o j hj hj2
    have hg := hs g (.inl ⟨_, h1, rfl⟩)
    exact ⟨g, h1, objAt_same h2 hg, fun k hk => (World.frozen?_of_block (a := ⟨g, j * 8 + k, none⟩) hg).trans (h3 k hk)⟩
  f := fun j hj hj2 => ⟨(h.f j hj hj2).1, ownI_same (h.f j hj hj2).2 (fun g hg => by obtain ⟨x, hx, e⟩ := own_some hg; exact hs g (.inr (.inr (.inr (.inr ⟨_, List.getElem_mem hj2, x, hx, e⟩)))))⟩
  og := fun x hx => ⟨(h.og x hx).1, Nat.lt_of_lt_of_le (h.og x hx).2 hsz⟩
  wk := fun j hj => by
    obtain ⟨g, h1, h2, h3⟩ := h.wk j hj
    have hg := hs g (.inr (.inl ⟨_, h1, rfl⟩))
    exact ⟨g, h1, h2.keep (fun k => World.cell?_of_block (a := ⟨g, k, none⟩) hg), fun k hk => (World.frozen?_of_block (a := ⟨g, j * 2 + k, none⟩) hg).trans (h3 k hk)⟩
  wg := fun x hx => ⟨(h.wg x hx).1, Nat.lt_of_lt_of_le (h.wg x hx).2 hsz⟩
  b := ownI_same h.b (fun g hg => by obtain ⟨x, hx, e⟩ := own_some hg; exact hs g (.inr (.inr (.inl ⟨x, hx, e⟩))))
  st := ownS_same h.st (fun g hg => by obtain ⟨x, hx, e⟩ := own_some hg; exact hs g (.inr (.inr (.inr (.inl ⟨x, hx, e⟩)))))
  sep := h.sep
  co := h.co
  cw := h.cw
theorem hm_later {w w' : World} {B : Nat} {s : HSh} {H : HeapD} (h : HM w B s H) (hb : Below w.heap.size w w') : HM w' B s H := hm_same h hb.size (fun g hg => hb.block g (hm_bl h hg).2)
theorem hm_keepB {w w' : World} {B : Nat} {s : HSh} {H : HeapD} (h : HM w B s H) (hb : KeepB B w w') : HM w' B s H := hm_same h hb.1 (fun g hg => hb.2 g (hm_bl h hg).1 (hm_bl h hg).2)
theorem hm_mono {w : World} {B C : Nat} {s : HSh} {H : HeapD} (h : HM w B s H) (hC : C ≤ B) : HM w C s H where
  lo := h.lo
  lw := h.lw
  lb := h.lb
  ls := h.ls
  o := h.o
  f := fun j hj hj2 => ⟨(h.f j hj hj2).1, ownI_mono (h.f j hj hj2).2 hC⟩
  og := fun x hx => ⟨Nat.le_trans hC (h.og x hx).1, (h.og x hx).2⟩
  wk := h.wk
  wg := fun x hx => ⟨Nat.le_trans hC (h.wg x hx).1, (h.wg x hx).2⟩
  b := ownI_mono h.b hC
  st := ownS_mono h.st hC
  sep := h.sep
  co := h.co
  cw := h.cw

theorem hm_parts {w : World} {B : Nat} {s : HSh} {H : HeapD} (h : HM w B s H) : RdO w s.oa H.objs ∧ RdW w s.wa H.weaks ∧ RdI w s.ba H.buffer ∧ RdS w s.sa H.sites := by
  refine ⟨fun j hj => ?_, fun j hj => ?_, ?_, ?_⟩
  · have hj2 : j < s.os.length := by rw [h.lo]; exact hj
    obtain ⟨g, h1, h2, _⟩ := h.o j hj hj2
    obtain ⟨h4, h5⟩ := h.f j hj hj2
    obtain ⟨a, c, h6, h7⟩ := rdI_own' h5
    simp only [Value.slice.injEq] at h6
    refine ⟨g, 0, s.os[j].f, s.os[j].c, h1, (h.og _ h1).2, ?_, ?_⟩
    · rw [Nat.zero_add, ← h4]; exact h2
    · rw [h6.1]; exact h7
  · obtain ⟨g, h1, h2, _⟩ := h.wk j hj
    exact ⟨g, 0, h1, (h.wg _ h1).2, by rw [Nat.zero_add]; exact h2⟩
  · obtain ⟨a, c, h6, h7⟩ := rdI_own' h.b
    simp only [Value.slice.injEq] at h6
    rw [h6.1]; exact h7
  · obtain ⟨a, c, h6, h7⟩ := rdS_own h.st
    simp only [Value.slice.injEq] at h6
    rw [h6.1]; exact h7.out
theorem hm_rd {w : World} {B : Nat} {s : HSh} {H : HeapD} (h : HM w B s H) : RdH w s.v H := by
  obtain ⟨h1, h2, h3, h4⟩ := hm_parts h
  exact ⟨_, _, _, _, _, _, _, _, by rw [HSh.v, h.lo, h.lw, h.lb, h.ls], h1, h2, h3, h4⟩
theorem hm_mem {w : World} {B : Nat} {s : HSh} {H : HeapD} (h : HM w B s H) (l0 : H.objs.length ≤ 16777216) (l1 : ∀ z ∈ H.objs, z.field.length ≤ 16777216) (l2 : H.weaks.length ≤ 16777216) (l3 : H.buffer.length ≤ 16777216) (l4 : H.sites.length ≤ 16777216) : MemH w B s H := by
  obtain ⟨h1, h2, h3, h4⟩ := hm_parts h
  have hp := h.sep
  refine memH_mk h.lo.symm h.lw.symm h.lb.symm h.ls.symm h1 h2 h3 h4 ⟨?_, ?_, ?_, ?_, ?_, by rw [h.lo]; exact l0, ?_, by rw [h.lw]; exact l2, by rw [h.lb]; exact l3, by rw [h.ls]; exact l4⟩
    ⟨hp.ow.ap _ _, hp.ob.ap _ _, hp.os.ap _ _, hp.wb.ap _ _, hp.ws.ap _ _, hp.bs.ap _ _, fun t ht => (hp.fo t ht).ap _ _, fun t ht => (hp.fw t ht).ap _ _, fun t ht => (hp.fb t ht).ap _ _, fun t ht => (hp.fs t ht).ap _ _, hp.ff.imp (fun hd => hd.ap _ _)⟩
    ⟨fun _ x hx => (h.og x hx).1, fun _ x hx => (h.wg x hx).1, fun _ x hx => (ownI_lt h.b _ (own_block hx)).1, fun _ x hx => (ownS_lt h.st _ (own_block hx)).1, fun t ht _ x hx => (hm_bl h (.inr (.inr (.inr (.inr ⟨t, ht, x, hx, rfl⟩))))).1⟩
  · intro j hj
    have hj2 : j < H.objs.length := by rw [← h.lo]; exact hj
    obtain ⟨g, e1, e2, e3⟩ := h.o j hj2 hj
    obtain ⟨e4, e5⟩ := h.f j hj2 hj
    obtain ⟨a, c, e6, e7, _⟩ := ownI_can e5
    simp only [Value.slice.injEq] at e6
    refine ⟨g, 0, e1, (h.og _ e1).2, fun k hk => ?_, ?_, ?_, fun x hx _ e => ?_⟩
    · rw [Nat.zero_add]; exact ⟨objAt_some e2 k hk, e3 k hk⟩
    · rw [Nat.zero_add]; exact e2.c6
    · rw [e6.1, e6.2.1]; exact e7
    · exact hp.fo _ (List.getElem_mem hj) _ x e1 hx e.symm
  · intro x t hx ht _ y hy e
    exact hp.fo t ht x y hx hy e.symm
  · intro j hj
    obtain ⟨g, e1, e2, e3⟩ := h.wk j (by rw [← h.lw]; exact hj)
    exact ⟨g, 0, e1, (h.wg _ e1).2, ⟨_, by rw [Nat.zero_add]; exact e2.c0⟩, by rw [Nat.zero_add]; exact e3 0 (by omega), ⟨_, by rw [Nat.zero_add]; exact e2.c1⟩, by rw [Nat.zero_add]; exact e3 1 (by omega)⟩
  · obtain ⟨a, c, e6, e7, _⟩ := ownI_can h.b
    simp only [Value.slice.injEq] at e6
    rw [e6.1, e6.2.1]; exact e7
  · obtain ⟨a, c, e6, e7, _⟩ := ownS_can h.st
    simp only [Value.slice.injEq] at e6
    rw [e6.1, e6.2.1]; exact e7
  · intro t ht
    obtain ⟨j, hj, rfl⟩ := List.mem_iff_getElem.1 ht
    have hj2 : j < H.objs.length := by rw [← h.lo]; exact hj
    rw [(h.f j hj2 hj).1]
    exact l1 _ (List.getElem_mem hj2)

/-- One object is turned. -/
theorem hm_setO {w w' : World} {B : Nat} {s : HSh} {H : HeapD} (h : HM w B s H) (k : Nat) (hk : k < H.objs.length) (g : Nat) (hg : s.oa = some ⟨g, 0, none⟩) (o' : ObjD) (t' : OSh) (hsz : w.heap.size ≤ w'.heap.size) (hblk : ∀ i, i ≠ g → i < w.heap.size → w'.heap[i]? = w.heap[i]?)
    (hobj : ObjAt w' g (k * 8) o' (.slice t'.f t'.n t'.c)) (hoth : ∀ q, q < k * 8 ∨ k * 8 + 8 ≤ q → w'.cell? ⟨g, q, none⟩ = w.cell? ⟨g, q, none⟩) (hfr : ∀ q, w'.frozen? ⟨g, q, none⟩ = w.frozen? ⟨g, q, none⟩)
    (hn : t'.n = o'.field.length) (hown : ownI w' B (.slice t'.f t'.n t'.c) o'.field) (d0 : Dif s.oa t'.f) (d1 : Dif s.wa t'.f) (d2 : Dif s.ba t'.f) (d3 : Dif s.sa t'.f) (d4 : ∀ j (h : j < s.os.length), j ≠ k → Dif s.os[j].f t'.f) :
    HM w' B { s with os := s.os.set k t' } { H with objs := H.objs.set k o' } := by
  have hp := h.sep
  have hmem : ∀ t ∈ s.os.set k t', t = t' ∨ ∃ j, ∃ hj : j < s.os.length, j ≠ k ∧ t = s.os[j] := by
    intro t ht
    obtain ⟨j, hj, rfl⟩ := List.mem_iff_getElem.1 ht
    rw [List.getElem_set]
    split
    · exact .inl rfl
    · rename_i e; exact .inr ⟨j, by simpa using hj, fun e2 => e e2.symm, rfl⟩
  have hin : ∀ {P : OSh → Prop}, (∀ t ∈ s.os, P t) → P t' → ∀ t ∈ s.os.set k t', P t := by
    intro P h1 h2 t ht
    rcases hmem t ht with rfl | ⟨j, hj, _, rfl⟩
    · exact h2
    · exact h1 _ (List.getElem_mem hj)
  have hne : ∀ x, HasB s x → (x ≠ g) → w'.heap[x]? = w.heap[x]? := fun x hx hxg => hblk x hxg (hm_bl h hx).2
  exact {
    lo := by simp [h.lo]
    lw := h.lw
    lb := h.lb
    ls := h.ls
    o := fun j hj hj2 => by
      simp only [List.length_set] at hj hj2
      refine ⟨g, hg, ?_, ?_⟩
      · by_cases e : k = j
        · subst e; simp only [List.getElem_set_self]; exact hobj
        · simp only [List.getElem_set_ne e]
          obtain ⟨g2, h1, h2, _⟩ := h.o j hj hj2
          rw [hg] at h1
          injection h1 with h1; injection h1 with h1 _ _; subst h1
          refine ⟨?_, ?_, ?_, ?_, ?_, ?_, ?_, ?_⟩
          · rw [hoth _ (by omega)]; exact h2.c0
          · rw [hoth _ (by omega)]; exact h2.c1
          · rw [hoth _ (by omega)]; exact h2.c2
          · rw [hoth _ (by omega)]; exact h2.c3
          · rw [hoth _ (by omega)]; exact h2.c4
          · rw [hoth _ (by omega)]; exact h2.c5
          · rw [hoth _ (by omega)]; exact h2.c6
          · rw [hoth _ (by omega)]; exact h2.c7
      · intro q hq
        obtain ⟨g2, h1, _, h3⟩ := h.o j hj hj2
        rw [hg] at h1
        injection h1 with h1; injection h1 with h1 _ _; subst h1
        rw [hfr]; exact h3 q hq
    f := fun j hj hj2 => by
      simp only [List.length_set] at hj hj2
      by_cases e : k = j
      · subst e; simp only [List.getElem_set_self]; exact ⟨hn, hown⟩
      · simp only [List.getElem_set_ne e]
        refine ⟨(h.f j hj hj2).1, ownI_same (h.f j hj hj2).2 (fun x hx => ?_)⟩
        obtain ⟨y, hy, e2⟩ := own_some hx
        refine hne x (.inr (.inr (.inr (.inr ⟨_, List.getElem_mem hj2, y, hy, e2⟩)))) (fun e3 => ?_)
        exact hp.fo _ (List.getElem_mem hj2) _ y hg hy (by simp only; rw [e2, e3])
    og := fun x hx => ⟨(h.og x hx).1, Nat.lt_of_lt_of_le (h.og x hx).2 hsz⟩
    wk := fun j hj => by
      obtain ⟨g2, h1, h2, h3⟩ := h.wk j hj
      have hb := hne g2 (.inr (.inl ⟨_, h1, rfl⟩)) (fun e => hp.ow _ _ hg h1 e.symm)
      exact ⟨g2, h1, h2.keep (fun q => World.cell?_of_block (a := ⟨g2, q, none⟩) hb), fun q hq => (World.frozen?_of_block (a := ⟨g2, j * 2 + q, none⟩) hb).trans (h3 q hq)⟩
    wg := fun x hx => ⟨(h.wg x hx).1, Nat.lt_of_lt_of_le (h.wg x hx).2 hsz⟩
    b := ownI_same h.b (fun x hx => by obtain ⟨y, hy, e2⟩ := own_some hx; exact hne x (.inr (.inr (.inl ⟨y, hy, e2⟩))) (fun e3 => hp.ob _ y hg hy (by simp only; rw [e2, e3])))
    st := ownS_same h.st (fun x hx => by obtain ⟨y, hy, e2⟩ := own_some hx; exact hne x (.inr (.inr (.inr (.inl ⟨y, hy, e2⟩)))) (fun e3 => hp.os _ y hg hy (by simp only; rw [e2, e3])))
    sep := ⟨hp.ow, hp.ob, hp.os, hp.wb, hp.ws, hp.bs, hin hp.fo d0, hin hp.fw d1, hin hp.fb d2, hin hp.fs d3, by
      rw [List.pairwise_iff_getElem]
      intro i j hi hj hij
      simp only [List.length_set] at hi hj
      rw [List.getElem_set, List.getElem_set]
      split
      · rename_i e; subst e
        rw [if_neg (by omega)]
        exact (d4 j hj (by omega)).symm
      · rename_i e
        split
        · exact d4 i hi (fun e2 => e e2.symm)
        · exact (List.pairwise_iff_getElem.1 hp.ff) i j hi hj hij⟩
    co := by simp only [List.length_set]; exact h.co
    cw := h.cw }

theorem hm_obj {w : World} {B : Nat} {s : HSh} {H : HeapD} (h : HM w B s H) (k : Nat) (hk : k < H.objs.length) (g : Nat) (hg : s.oa = some ⟨g, 0, none⟩) : ∃ hk2 : k < s.os.length, ObjAt w g (k * 8) H.objs[k] (.slice s.os[k].f s.os[k].n s.os[k].c) ∧ ∀ q, q < 8 → w.frozen? ⟨g, k * 8 + q, none⟩ = false := by
  have hk2 : k < s.os.length := by rw [h.lo]; exact hk
  obtain ⟨g2, h1, h2, h3⟩ := h.o k hk hk2
  rw [hg] at h1
  injection h1 with h1; injection h1 with h1 _ _; subst h1
  exact ⟨hk2, h2, h3⟩
theorem hm_own {w : World} {B : Nat} {s : HSh} {H : HeapD} (h : HM w B s H) (k : Nat) (hk : k < H.objs.length) : ∃ g, s.oa = some ⟨g, 0, none⟩ ∧ B ≤ g ∧ g < w.heap.size := by
  obtain ⟨g, h1, _⟩ := h.o k hk (by rw [h.lo]; exact hk)
  exact ⟨g, h1, h.og _ h1⟩

/-- One cell of one object is turned, not its field's. -/
theorem hm_cell {w : World} {B : Nat} {s : HSh} {H : HeapD} (h : HM w B s H) (k : Nat) (hk : k < H.objs.length) (g : Nat) (hg : s.oa = some ⟨g, 0, none⟩) (i : Nat) (u : Value) (hi : i < 8) (o' : ObjD) (hf : o'.field = H.objs[k].field)
    (ho : ∀ f, ObjAt w g (k * 8) H.objs[k] f → ObjAt (w.setCell ⟨g, k * 8 + i, none⟩ u) g (k * 8) o' f) : HM (w.setCell ⟨g, k * 8 + i, none⟩ u) B s { H with objs := H.objs.set k o' } := by
  obtain ⟨hk2, h1, h2⟩ := hm_obj h k hk g hg
  have hp := h.sep
  have hm := List.getElem_mem hk2
  have hfk := h.f k hk hk2
  have key := hm_setO (w' := w.setCell ⟨g, k * 8 + i, none⟩ u) h k hk g hg o' s.os[k] (by simp [World.setCell]) (fun j hj _ => heap_setCell_other w _ j u (by simpa using hj)) (ho _ h1)
    (fun q hq => cell_far w g _ _ u (by omega)) (fun q => World.frozen?_setCell _ _ _ _) (by rw [hf]; exact hfk.1)
    (by rw [hf]; exact ownI_same hfk.2 (fun x hx => heap_setCell_other w _ x u (by obtain ⟨y, hy, e⟩ := own_some hx; simp only; intro e2; exact hp.fo _ hm _ y hg hy (by simp only; rw [e, e2]))))
    (hp.fo _ hm) (hp.fw _ hm) (hp.fb _ hm) (hp.fs _ hm)
    (fun j hj hne => by
      rcases Nat.lt_or_gt_of_ne hne with hl | hl
      · exact (List.pairwise_iff_getElem.1 hp.ff) j k hj hk2 hl
      · exact ((List.pairwise_iff_getElem.1 hp.ff) k j hk2 hj hl).symm)
  rw [List.set_getElem_self] at key
  exact key
theorem hm_count {w : World} {B : Nat} {s : HSh} {H : HeapD} (h : HM w B s H) (k : Nat) (hk : k < H.objs.length) (g : Nat) (hg : s.oa = some ⟨g, 0, none⟩) (z : Int) : HM (w.setCell ⟨g, k * 8 + 5, none⟩ (.int .i64 z)) B s { H with objs := H.objs.set k { H.objs[k] with count := z } } :=
  hm_cell h k hk g hg 5 (.int .i64 z) (by omega) _ rfl (fun f ho =>
    ⟨by rw [cell_far _ _ _ _ _ (by omega)]; exact ho.c0, by rw [cell_far _ _ _ _ _ (by omega)]; exact ho.c1, by rw [cell_far _ _ _ _ _ (by omega)]; exact ho.c2, by rw [cell_far _ _ _ _ _ (by omega)]; exact ho.c3, by rw [cell_far _ _ _ _ _ (by omega)]; exact ho.c4,
     World.cell?_setCell_same w _ _ ho.c5, by rw [cell_far _ _ _ _ _ (by omega)]; exact ho.c6, by rw [cell_far _ _ _ _ _ (by omega)]; exact ho.c7⟩)
theorem hm_purple {w : World} {B : Nat} {s : HSh} {H : HeapD} (h : HM w B s H) (k : Nat) (hk : k < H.objs.length) (g : Nat) (hg : s.oa = some ⟨g, 0, none⟩) (b : Bool) : HM (w.setCell ⟨g, k * 8 + 7, none⟩ (.bool b)) B s { H with objs := H.objs.set k { H.objs[k] with purple := b } } :=
  hm_cell h k hk g hg 7 (.bool b) (by omega) _ rfl (fun f ho =>
    ⟨by rw [cell_far _ _ _ _ _ (by omega)]; exact ho.c0, by rw [cell_far _ _ _ _ _ (by omega)]; exact ho.c1, by rw [cell_far _ _ _ _ _ (by omega)]; exact ho.c2, by rw [cell_far _ _ _ _ _ (by omega)]; exact ho.c3, by rw [cell_far _ _ _ _ _ (by omega)]; exact ho.c4,
     by rw [cell_far _ _ _ _ _ (by omega)]; exact ho.c5, by rw [cell_far _ _ _ _ _ (by omega)]; exact ho.c6, World.cell?_setCell_same w _ _ ho.c7⟩)

/-- The heap has a row in the block, other than the buffer. -/
def HasB' (s : HSh) (g : Nat) : Prop := (∃ x, s.oa = some x ∧ x.block = g) ∨ (∃ x, s.wa = some x ∧ x.block = g) ∨ (∃ x, s.sa = some x ∧ x.block = g) ∨ ∃ t ∈ s.os, ∃ x, t.f = some x ∧ x.block = g
theorem HasB'.has {s : HSh} {g : Nat} (h : HasB' s g) : HasB s g := by
  rcases h with h | h | h | h
  · exact .inl h
  · exact .inr (.inl h)
  · exact .inr (.inr (.inr (.inl h)))
  · exact .inr (.inr (.inr (.inr h)))
/-- The buffer's row lies in no other's block. -/
theorem hm_bdif {w : World} {B : Nat} {s : HSh} {H : HeapD} (h : HM w B s H) {g : Nat} (hg : HasB' s g) (x : Addr) (hx : s.ba = some x) : x.block ≠ g := by
  have hp := h.sep
  rcases hg with ⟨y, hy, rfl⟩ | ⟨y, hy, rfl⟩ | ⟨y, hy, rfl⟩ | ⟨t, ht, y, hy, rfl⟩
  · exact hp.ob.symm x y hx hy
  · exact hp.wb.symm x y hx hy
  · exact hp.bs x y hx hy
  · exact hp.fb t ht x y hx hy
/-- The buffer is another. -/
theorem hm_buf {w w' : World} {B : Nat} {s : HSh} {H : HeapD} (h : HM w B s H) (hsz : w.heap.size ≤ w'.heap.size) (hs : ∀ g, HasB' s g → w'.heap[g]? = w.heap[g]?) (ba : Option Addr) (bn bc : Nat) (Z : List Int) (hn : bn = Z.length) (hb : ownI w' B (.slice ba bn bc) Z) (hd : ∀ x, ba = some x → ¬ HasB' s x.block) :
    HM w' B { s with ba := ba, bn := bn, bc := bc } { H with buffer := Z } where
  lo := h.lo
  lw := h.lw
  lb := hn
  ls := h.ls
  o := fun j hj hj2 => by
    obtain ⟨g, h1, h2, h3⟩ := h.o j hj hj2
    have hg := hs g (.inl ⟨_, h1, rfl⟩)
    exact ⟨g, h1, objAt_same h2 hg, fun k hk => (World.frozen?_of_block (a := ⟨g, j * 8 + k, none⟩) hg).trans (h3 k hk)⟩
  f := fun j hj hj2 => ⟨(h.f j hj hj2).1, ownI_same (h.f j hj hj2).2 (fun g hg => by obtain ⟨x, hx, e⟩ := own_some hg; exact hs g (.inr (.inr (.inr ⟨_, List.getElem_mem hj2, x, hx, e⟩))))⟩
  og := fun x hx => ⟨(h.og x hx).1, Nat.lt_of_lt_of_le (h.og x hx).2 hsz⟩
  wk := fun j hj => by
    obtain ⟨g, h1, h2, h3⟩ := h.wk j hj
    have hg := hs g (.inr (.inl ⟨_, h1, rfl⟩))
    exact ⟨g, h1, h2.keep (fun k => World.cell?_of_block (a := ⟨g, k, none⟩) hg), fun k hk => (World.frozen?_of_block (a := ⟨g, j * 2 + k, none⟩) hg).trans (h3 k hk)⟩
  wg := fun x hx => ⟨(h.wg x hx).1, Nat.lt_of_lt_of_le (h.wg x hx).2 hsz⟩
  b := hb
  st := ownS_same h.st (fun g hg => by obtain ⟨x, hx, e⟩ := own_some hg; exact hs g (.inr (.inr (.inl ⟨x, hx, e⟩))))
  sep := ⟨h.sep.ow, fun x y hx hy e => hd y hy (.inl ⟨x, hx, e⟩), h.sep.os, fun x y hx hy e => hd y hy (.inr (.inl ⟨x, hx, e⟩)), h.sep.ws, fun x y hx hy e => hd x hx (.inr (.inr (.inl ⟨y, hy, e.symm⟩))), h.sep.fo, h.sep.fw, fun t ht x y hx hy e => hd x hx (.inr (.inr (.inr ⟨t, ht, y, hy, e.symm⟩))), h.sep.fs, h.sep.ff⟩
  co := h.co
  cw := h.cw

end Go.Proofs.Ytjhdnachbahbmaa

/- EqBig: eqHeap at greater heaps. -/
namespace Go.Proofs.Ytjhdnachbahbmaa
open Go.RowKit
set_option linter.unusedVariables false
set_option maxRecDepth 100000

end Go.Proofs.Ytjhdnachbahbmaa
