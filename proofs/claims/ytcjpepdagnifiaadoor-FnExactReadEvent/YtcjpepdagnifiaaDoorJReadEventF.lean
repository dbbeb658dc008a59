/- What markPen writes and what heldPen finds; equal pens of greater size. -/
import Derived.Test.YtcjpepdagnifiaaDoorJReadEventE
import Derived.Test.YtcjpepdagnifiaaDoorPenBase
import Derived.Test.YtcjpepdagnifiaaDoorOpBase
import Derived.Test.YtcjpepdagnifiaaDoorAnyOps
namespace Go.Proofs.YtcjpepdagnifiaaDoor
open Go.RowKit
set_option linter.unusedVariables false
set_option maxRecDepth 100000

/-- All that was there but one row is as it was. -/
structure Mk (a : Option Addr) (n : Nat) (X Y : World) : Prop where
  os : Y.os = X.os
  tape : Y.tape = X.tape
  output : Y.output = X.output
  size : X.heap.size ≤ Y.heap.size
  block : ∀ g, g < X.heap.size → (0 < n → ∀ x, a = some x → x.block ≠ g) → Y.heap[g]? = X.heap[g]?
theorem mk_io {L : Sts} : ∀ (w : World), (stores w L).os = w.os ∧ (stores w L).tape = w.tape ∧ (stores w L).output = w.output := by
  induction L with
  | nil => intro w; exact ⟨rfl, rfl, rfl⟩
  | cons p r ih => intro w; exact ih _
theorem mk_of {a : Option Addr} {n : Nat} {X Y Z : World} {L : Sts} (hb : Below X.heap.size X Y) (hk : Below Y.heap.size (stores Y L) Z) (hL : ∀ p ∈ L, 0 < n ∧ ∃ x, a = some x ∧ p.1.block = x.block) : Mk a n X Z := by
  have io := mk_io (L := L) Y
  have hs := hk.size
  rw [stores_size] at hs
  refine ⟨hk.os.trans (io.1.trans hb.os), hk.tape.trans (io.2.1.trans hb.tape), hk.output.trans (io.2.2.trans hb.output), Nat.le_trans hb.size hs, fun g hg hn => ?_⟩
  have hgY : g < Y.heap.size := Nat.lt_of_lt_of_le hg hb.size
  rw [hk.block g hgY, stores_block L g (fun p hp e => ?_) Y, hb.block g hg]
  obtain ⟨h0, x, hx, e2⟩ := hL p hp
  exact hn h0 x hx (e2.symm.trans e)
theorem canS_own {w : World} {B : Nat} {a : Option Addr} {c : Nat} {zs : List (List UInt8)} (h : ownS w B (.slice a zs.length c) zs) : CanI w a zs.length := by
  rcases ownS_form h with ⟨e, e2⟩ | ⟨g, cap, e, -, hg, -, -, hc⟩
  · intro j hj
    rw [e2] at hj
    simp at hj
  · simp only [Value.slice.injEq] at e
    obtain ⟨rfl, -, -⟩ := e
    intro j hj
    obtain ⟨h1, h2⟩ := hc.out j hj
    exact ⟨g, 0, rfl, hg, ⟨_, by rw [Nat.zero_add]; exact h1⟩, by rw [Nat.zero_add]; exact h2⟩
theorem canI_own2 {w : World} {B : Nat} {a : Option Addr} {c : Nat} {zs : List Int} (h : ownI w B (.slice a zs.length c) zs) : CanI w a zs.length := by
  rcases h with ⟨h1, ⟨h2, h3⟩ | ⟨g, cap, cur, h2, h3, h4, h5, h6, h7⟩⟩
  · intro j hj; omega
  · simp only [Value.slice.injEq] at h2
    obtain ⟨rfl, -, rfl⟩ := h2
    intro j hj
    exact ⟨g, 0, rfl, (Array.getElem?_eq_some_iff.1 h4).1, ⟨cur[j]'(by omega), by simp [World.cell?, h4]⟩, by simp [World.frozen?, h4]⟩

theorem markPen_m (w : World) (l : Int) (a : Option Addr) (n cap k : Nat) (h : CanI w a n) (hz : n ≤ 16777216) (h0 : 0 < k) (h1 : k ≤ 1000000000000) :
    Calls Tryd.prog 12 #[.agg #[.int .i64 l, .slice a n cap], .int .i64 (k : Int)] w fun e w' => e = .returned (.int .i64 ((k : Int) + (n : Int))) ∧ Mk a n w w' ∧ ∀ p ∈ mkS a k n, w'.cell? p.1 = some p.2 := by
  obtain ⟨W, hW⟩ : ∃ W, W = w.alloc (.cells #[.int .i64 l, .slice a n cap] 31) := ⟨_, rfl⟩
  have BW : Below w.heap.size w W := by rw [hW]; exact (Below.refl _ _).alloc (Nat.le_refl _) _
  have hcW : CanI W a n := canI_later h BW
  have CM : Hid (∀ _ : Unit, _) := fun (_ : Unit) => markStringS_st W a n cap k hcW hz h0 (by omega)
  have HBW : Hid (Below w.heap.size w W) := BW
  have HC : Hid (CanI W a n) := hcW
  clear hcW h BW
  go_enter Tryd.func12, Tryd.ntmps12
  go_wp2_with fail
  rw [← hW]
  clear hW
  refine (CM.out ()).mono ?_
  rintro e w1 ⟨rfl, b1⟩
  have HB1 : Hid (Below W.heap.size (stores W (mkS a k n)) w1) := b1
  clear b1 CM
  go_wp2
  go_ret
  refine ⟨rfl, mk_of HBW.out HB1.out (fun p hp => mkS_block a k n p hp), fun p hp => ?_⟩
  have hlt : p.1.block < W.heap.size := by
    obtain ⟨h2, x, hx, e⟩ := mkS_block a k n p hp
    obtain ⟨g, off, e3, hg, -, -⟩ := HC.out 0 h2
    rw [hx] at e3
    rw [e, Option.some.inj e3]
    exact hg
  rw [HB1.out.cell hlt]
  refine stores_mem _ (mkS_nodup a k n) W (fun q hq => ?_) p hp
  obtain ⟨h2, x, hx, e⟩ := mkS_block a k n q hq
  have hq2 := hq
  rw [hx] at hq2
  unfold mkS at hq2
  obtain ⟨j, hj, rfl⟩ := List.mem_map.1 hq2
  obtain ⟨g', off', e', -, hx', -⟩ := HC.out j (List.mem_range.1 hj)
  rw [hx] at e'
  obtain rfl := Option.some.inj e'
  exact hx'

theorem heldPen_m (w : World) (l : Int) (a : Option Addr) (n cap k : Nat) (h : ∀ p ∈ mkS a k n, w.cell? p.1 = some p.2) (ha : 0 < n → ∃ g off, a = some ⟨g, off, none⟩) (hz : n ≤ 16777216) (h0 : 0 < k) (h1 : k ≤ 1000000000000) :
    Calls Tryd.prog 15 #[.agg #[.int .i64 l, .slice a n cap], .int .i64 (k : Int)] w fun e w' => e = .returned (.int .i64 ((k : Int) + (n : Int))) ∧ Below w.heap.size w w' := by
  obtain ⟨W, hW⟩ : ∃ W, W = w.alloc (.cells #[.int .i64 l, .slice a n cap] 31) := ⟨_, rfl⟩
  have BW : Below w.heap.size w W := by rw [hW]; exact (Below.refl _ _).alloc (Nat.le_refl _) _
  have CM : Hid (∀ _ : Unit, _) := fun (_ : Unit) => heldStringS_at W a n cap k (fun p hp => (BW.cell (World.block_lt_of_cell? w _ (h p hp))).trans (h p hp)) ha hz h0 (by omega)
  have hk : ¬ (k : Int) + (n : Int) < 0 := by omega
  clear h ha
  go_enter Tryd.func15, Tryd.ntmps15
  go_wp2_with fail
  rw [← hW]
  clear hW
  refine (CM.out ()).mono ?_
  rintro e w1 ⟨rfl, b1⟩
  have HX : Hid (Below w.heap.size w w1) := BW.trans (b1.mono BW.size)
  clear b1 CM BW
  go_wp2
  go_ret
  exact ⟨rfl, HX.out⟩

theorem markAns_m (w : World) (c v : Int) (a : Option Addr) (n cap : Nat) (k : Int) (h : CanI w a n) (hz : n ≤ 16777216) (h0 : 0 ≤ k) (h1 : k ≤ 1000000000000) :
    Calls Tryd.prog 13 #[.agg #[.int .i64 c, .int .i64 v, .slice a n cap], .int .i64 k] w fun e w' => e = .returned (.int .i64 (k + (n : Int))) ∧ Mk a n w w' := by
  refine (markAnswer_st w c v a n cap k h hz h0 (by omega)).mono ?_
  rintro e w' ⟨rfl, w1, rfl, b1⟩
  exact ⟨rfl, mk_of b1 (Below.refl _ _) (fun p hp => mkI_block a k n p hp)⟩

theorem eqPen_big (w : World) (v u : Value) (P : PenD) (h1 : RdP w v P) (h2 : RdP w u P) (hs : P.sites.length ≤ 16777216) :
    Calls Tryd.prog 11 #[v, u] w fun e w' => e = .returned (.bool true) ∧ Below w.heap.size w w' := by
  obtain ⟨sa, sc, rfl, rs⟩ := h1
  obtain ⟨sa2, sc2, rfl, rs2⟩ := h2
  have CS : Hid (∀ X, Below w.heap.size w X → _) := fun X hX => eqStringS_rd X sa sa2 sc sc2 P.sites (rdS_later rs hX) (rdS_later rs2 hX) hs
  clear rs rs2
  obtain ⟨W, hW⟩ : ∃ W, W = (w.alloc (.cells #[.int .i64 P.last, .slice sa P.sites.length sc] 31)).alloc (.cells #[.int .i64 P.last, .slice sa2 P.sites.length sc2] 31) := ⟨_, rfl⟩
  have BW : Below w.heap.size w W := by
    rw [hW]
    exact ((Below.refl _ _).alloc (Nat.le_refl _) _).alloc (by simp) _
  go_enter Tryd.func11, Tryd.ntmps11
  go_wp2_with fail
  rw [← hW]
  refine (CS.out _ BW).mono ?_
  rintro e w4 ⟨rfl, b4⟩
  have B4 := BW.trans (b4.mono BW.size)
  clear hW
  go_wp2
  go_ret
  exact ⟨rfl, B4⟩

theorem row_blk {w : World} {B n m c : Nat} {t : TypeId} {a : Option Addr} {xs : List Value} (h : w.ownsRow B t 1 (.slice a n c) m xs) (x : Addr) (hx : a = some x) : B ≤ x.block ∧ x.block < w.heap.size ∧ ∃ cur, w.heap[x.block]? = some (.cells cur t (0, 0)) := by
  rcases h with ⟨h1, ⟨h2, _⟩ | ⟨g, cap, cur, h2, h3, h4, h5⟩⟩
  · simp only [Value.slice.injEq] at h2
    rw [h2.1] at hx
    cases hx
  · simp only [Value.slice.injEq] at h2
    rw [h2.1] at hx
    obtain rfl := Option.some.inj hx
    exact ⟨h3, (Array.getElem?_eq_some_iff.1 h4).1, cur, h4⟩
theorem mk_below {B n : Nat} {a : Option Addr} {X Y : World} (m : Mk a n X Y) (hb : B ≤ X.heap.size) (ha : ∀ x, a = some x → B ≤ x.block) : Below B X Y :=
  ⟨m.os, m.tape, m.output, m.size, fun g hg => m.block g (Nat.lt_of_lt_of_le hg hb) (fun _ x hx e => by have := ha x hx; omega)⟩
/-- A row of another kind is as it was. -/
theorem mk_kind {B n k c : Nat} {a : Option Addr} {X Y : World} {t t2 : TypeId} {xs : List Value} {cs : Array Value} {g : Nat} (m : Mk a n X Y) (h : X.ownsRow B t 1 (.slice a n c) k xs) (h2 : X.heap[g]? = some (.cells cs t2 (0, 0))) (hne : t ≠ t2) : Y.heap[g]? = X.heap[g]? :=
  m.block g (Array.getElem?_eq_some_iff.1 h2).1 (fun _ x hx => by
    obtain ⟨-, -, cur, h3⟩ := row_blk h x hx
    exact kind_ne h3 h2 hne)
theorem mk_two {B n k c : Nat} {a : Option Addr} {X Y : World} {xs : List Value} {g : Nat} {x0 x1 : Value} {t : TypeId} (m : Mk a n X Y) (h : X.ownsRow B t 1 (.slice a n c) k xs) (h2 : X.heap[g]? = some (.cells #[x0, x1] 31 (0, 0))) (hne : t ≠ 31) : Y.heap[g]? = some (.cells #[x0, x1] 31 (0, 0)) := (mk_kind m h h2 hne).trans h2
theorem mk_own_kind {B B2 n k c k2 : Nat} {a : Option Addr} {X Y : World} {t t2 : TypeId} {xs xs2 : List Value} {v : Value} (m : Mk a n X Y) (h : X.ownsRow B t 1 (.slice a n c) k xs) (h2 : X.ownsRow B2 t2 1 v k2 xs2) (hne : t ≠ t2) : Y.ownsRow B2 t2 1 v k2 xs2 :=
  row_same h2 (fun g hg => by
    obtain ⟨cur, hk⟩ := row_kind h2 g hg
    exact mk_kind m h hk hne)
theorem mk_own_lt {B2 n k2 : Nat} {a : Option Addr} {X Y : World} {t2 : TypeId} {xs2 : List Value} {v : Value} (m : Mk a n X Y) (h : ∀ x, a = some x → x.block < B2) (h2 : X.ownsRow B2 t2 1 v k2 xs2) : Y.ownsRow B2 t2 1 v k2 xs2 :=
  row_same h2 (fun g hg => m.block g (World.ownsRow.lt h2 g hg).2 (fun _ x hx e => by
    have l1 := h x hx
    have l2 := (World.ownsRow.lt h2 g hg).1
    omega))
theorem markPen_1 (w : World) (l : Int) (a : Option Addr) (n cap : Nat) (h : CanI w a n) (hz : n ≤ 16777216) :
    Calls Tryd.prog 12 #[.agg #[.int .i64 l, .slice a n cap], .int .i64 1] w fun e w' => e = .returned (.int .i64 (1 + (n : Int))) ∧ Mk a n w w' ∧ ∀ p ∈ mkS a 1 n, w'.cell? p.1 = some p.2 :=
  markPen_m w l a n cap 1 h hz (by decide) (by decide)
theorem heldPen_1 (w : World) (l : Int) (a : Option Addr) (n cap : Nat) (h : ∀ p ∈ mkS a 1 n, w.cell? p.1 = some p.2) (ha : 0 < n → ∃ g off, a = some ⟨g, off, none⟩) (hz : n ≤ 16777216) :
    Calls Tryd.prog 15 #[.agg #[.int .i64 l, .slice a n cap], .int .i64 1] w fun e w' => e = .returned (.int .i64 (1 + (n : Int))) ∧ Below w.heap.size w w' :=
  heldPen_m w l a n cap 1 h ha hz (by decide) (by decide)
theorem canI_at {w : World} {a : Option Addr} {n : Nat} (h : CanI w a n) (h0 : 0 < n) : ∃ g off, a = some ⟨g, off, none⟩ := by
  obtain ⟨g, off, e, -⟩ := h 0 h0
  exact ⟨g, off, e⟩

end Go.Proofs.YtcjpepdagnifiaaDoor

namespace Go.Proofs.YtcjpepdagnifiaaDoor
open Go.RowKit
set_option linter.unusedVariables false
set_option maxRecDepth 100000

/-- The first j events are ts, and P is the pen behind them. -/
def EncR (os : List OpD) (zs : List AnsD) : Nat → PenD → List (List UInt8) → Prop
  | 0, P, ts => P = ⟨0, []⟩ ∧ ts = []
  | j + 1, P, ts => ∃ (Q : PenD) (us : List (List UInt8)) (h1 : j < os.length) (h2 : j < zs.length), EncR os zs j Q us ∧ EvR Q os[j] zs[j] ∧ P = penB Q os[j] ∧ ts = us ++ [evT Q os[j] zs[j]]
theorem encR_uniq {os : List OpD} {zs : List AnsD} : ∀ {j : Nat} {P Q : PenD} {ts us : List (List UInt8)}, EncR os zs j P ts → EncR os zs j Q us → P = Q ∧ ts = us
  | 0, P, Q, ts, us, h, g => by
    obtain ⟨rfl, rfl⟩ := h
    obtain ⟨rfl, rfl⟩ := g
    exact ⟨rfl, rfl⟩
  | j + 1, P, Q, ts, us, h, g => by
    obtain ⟨P1, ts1, h1, h2, h3, -, rfl, rfl⟩ := h
    obtain ⟨Q1, us1, g1, g2, g3, -, rfl, rfl⟩ := g
    obtain ⟨rfl, rfl⟩ := encR_uniq h3 g3
    exact ⟨rfl, rfl⟩
theorem encR_down {os : List OpD} {zs : List AnsD} : ∀ {n j : Nat} {P : PenD} {ts : List (List UInt8)}, EncR os zs n P ts → j < n → ∃ (Q : PenD) (us : List (List UInt8)) (h1 : j < os.length) (h2 : j < zs.length), EncR os zs j Q us ∧ EvR Q os[j] zs[j]
  | n + 1, j, P, ts, h, hj => by
    obtain ⟨Q, us, h1, h2, h3, h4, -, -⟩ := h
    by_cases e : j = n
    · subst e; exact ⟨Q, us, h1, h2, h3, h4⟩
    · exact encR_down h3 (by omega)
/-- The text of all events: T, where each is written; else nothing. -/
structure EncT (os : List OpD) (zs : List AnsD) (T : List UInt8) (show' : List (List UInt8) → List UInt8) : Prop where
  len : os.length ≠ zs.length → T = []
  many : 400 ≤ os.length → T = []
  no : os.length = zs.length → ∀ (j : Nat) (h1 : j < os.length) (h2 : j < zs.length) (Q : PenD) (us : List (List UInt8)), EncR os zs j Q us → ¬ EvR Q os[j] zs[j] → T = []
  yes : os.length = zs.length → os.length < 400 → ∀ (Q : PenD) (us : List (List UInt8)), EncR os zs os.length Q us → T = show' us
theorem encT_is (os : List OpD) (zs : List AnsD) (show' : List (List UInt8) → List UInt8) : ∃ T, EncT os zs T show' := by
  by_cases h : os.length = zs.length ∧ os.length < 400 ∧ ∃ Q us, EncR os zs os.length Q us
  · obtain ⟨h1, h2, Q, us, h3⟩ := h
    refine ⟨show' us, fun g => absurd h1 g, fun g => by omega, fun _ j g1 g2 R vs g3 g4 => ?_, fun _ _ R vs g => ?_⟩
    · obtain ⟨R2, vs2, k1, k2, k3, k4⟩ := encR_down h3 g1
      obtain ⟨rfl, -⟩ := encR_uniq g3 k3
      exact absurd k4 g4
    · obtain ⟨-, rfl⟩ := encR_uniq h3 g
      rfl
  · exact ⟨[], fun _ => rfl, fun _ => rfl, fun _ _ _ _ _ _ _ _ => rfl, fun g1 g2 Q us g3 => absurd ⟨g1, g2, Q, us, g3⟩ h⟩
theorem encR_names {os : List OpD} {zs : List AnsD} : ∀ {j : Nat} {P : PenD} {ts : List (List UInt8)}, EncR os zs j P ts → P.sites.length ≤ j ∧ ts.length = j ∧ (∀ s ∈ P.sites, s.length ≤ 8) ∧ (∀ t ∈ ts, t.length ≤ 200)
  | 0, P, ts, h => by
    obtain ⟨rfl, rfl⟩ := h
    exact ⟨Nat.le_refl _, rfl, fun s hs => (nomatch hs), fun s hs => (nomatch hs)⟩
  | j + 1, P, ts, h => by
    obtain ⟨Q, us, h1, h2, h3, h4, rfl, rfl⟩ := h
    obtain ⟨k1, k2, k3, k4⟩ := encR_names h3
    refine ⟨?_, by simp [k2], fun s hs => ?_, fun t ht => ?_⟩
    · unfold penB
      simp only
      split
      · simp only [List.length_append, List.length_cons, List.length_nil]; omega
      · omega
    · unfold penB at hs
      simp only at hs
      split at hs
      · rcases List.mem_append.1 hs with hs | hs
        · exact k3 s hs
        · obtain rfl := List.mem_singleton.1 hs
          exact h4.1.2.2.2.2
      · exact k3 s hs
    · rcases List.mem_append.1 ht with ht | ht
      · exact k4 t ht
      · obtain rfl := List.mem_singleton.1 ht
        unfold evT ansT
        have := opT_length Q.last Q.sites os[j]
        have := varZ_length zs[j].code
        have := showZ_length (zs[j].val - os[j].a)
        have := varZ_length (zs[j].freed.length : Int)
        have := freedT_length zs[j].freed os[j].a
        have := h4.2.1.2.2.1
        simp only [List.length_append]
        omega
theorem evT_some {P : PenD} {o : OpD} {A : AnsD} (h : EvR P o A) : evT P o A ≠ [] := by
  have hk := h.1.1
  unfold evT opT
  intro e
  have e2 : showZ o.kind = [] := by
    have := List.append_eq_nil_iff.1 e
    exact (List.append_eq_nil_iff.1 this.1).1
  rw [showZ_in _ (by omega)] at e2
  exact varB_ne 6 _ e2

end Go.Proofs.YtcjpepdagnifiaaDoor

namespace Go.Proofs.YtcjpepdagnifiaaDoor
open Go.RowKit
set_option linter.unusedVariables false
set_option maxRecDepth 100000

/-- What ReadEvent answers, whatever came of it. -/
def EvPost (w : World) (o : OpD) (A : AnsD) (Q : PenD) (qb : Bool) (e : Ending) (w' : World) : Prop := ∃ y k x c, e = .returned (.tuple #[opV o, .agg #[.int .i64 A.code, .int .i64 A.val, .slice y A.freed.length k], .agg #[.int .i64 Q.last, .slice x Q.sites.length c], .bool qb]) ∧ ownI w' w.heap.size (.slice y A.freed.length k) A.freed ∧ ownS w' w.heap.size (.slice x Q.sites.length c) Q.sites ∧ Below w.heap.size w w'
/-- The boxes of parameter and answers, and the pen that is answered where nothing is read. -/
structure SR (w : World) (P : PenD) (sa : Option Addr) (sc gn : Nat) (x3 : Option Addr) (c3 : Nat) (X : World) : Prop where
  pen : Two X w.heap.size (.int .i64 P.last) (.slice sa P.sites.length sc)
  ro : OB X (w.heap.size + 1) 0 0 0 0 ⟨#[]⟩
  ra : Three X (w.heap.size + 1 + 1) (.int .i64 0) (.int .i64 0) (.slice none 0 0)
  rp : Two X (w.heap.size + 1 + 1 + 1) (.int .i64 0) (.slice none 0 0)
  no : Two X gn (.int .i64 P.last) (.slice x3 P.sites.length c3)
  gn : w.heap.size + 1 + 1 + 1 + 1 ≤ gn
  own : ownS X (w.heap.size + 1 + 1 + 1 + 1) (.slice x3 P.sites.length c3) P.sites
  bel : Below w.heap.size w X
theorem SR.later {w : World} {P : PenD} {sa : Option Addr} {sc gn : Nat} {x3 : Option Addr} {c3 : Nat} {X Y : World} (h : SR w P sa sc gn x3 c3 X) (b : Below X.heap.size X Y) : SR w P sa sc gn x3 c3 Y :=
  ⟨h.pen.later b, (b.block _ h.ro.lt).trans h.ro, h.ra.later b, h.rp.later b, h.no.later b, h.gn, row_later h.own b, h.bel.trans (b.mono h.bel.size)⟩
theorem SR.move {w : World} {P : PenD} {sa : Option Addr} {sc gn : Nat} {x3 : Option Addr} {c3 : Nat} {X Y : World} {g : Nat} (h : SR w P sa sc gn x3 c3 X) (m : Mv g none X Y) (hg : gn < g) (hk : ∀ k, (Value.slice x3 P.sites.length c3).ownBlock = some k → k ≠ g) : SR w P sa sc gn x3 c3 Y := by
  have h1 := h.gn
  have far : ∀ k, k < X.heap.size → k ≠ g → Y.heap[k]? = X.heap[k]? := fun k hk2 hn => m.block k hk2 hn (by simp)
  refine ⟨(far _ h.pen.lt (by omega)).trans h.pen, (far _ h.ro.lt (by omega)).trans h.ro, (far _ h.ra.lt (by omega)).trans h.ra, (far _ h.rp.lt (by omega)).trans h.rp, (far _ h.no.lt (by omega)).trans h.no, h.gn, row_same h.own (fun k hk2 => far k (World.ownsRow.lt h.own k hk2).2 (hk k hk2)), ?_⟩
  exact ⟨m.os.trans h.bel.os, m.tape.trans h.bel.tape, m.output.trans h.bel.output, Nat.le_trans h.bel.size m.size, fun k hk2 => (far k (Nat.lt_of_lt_of_le hk2 h.bel.size) (by omega)).trans (h.bel.block k hk2)⟩
/-- The world behind the three stores of an answer. -/
def putA (Y : World) (n : Nat) (o : OpD) (A : AnsD) (Q : PenD) (y : Option Addr) (k : Nat) (x : Option Addr) (c : Nat) : World := put2 (put3 (put5 Y (n + 1) o.kind o.a o.b o.c (txt o.site)) (n + 1 + 1) A.code A.val (.slice y A.freed.length k)) (n + 1 + 1 + 1) Q.last (.slice x Q.sites.length c)
theorem putA_far (Y : World) (n : Nat) (o : OpD) (A : AnsD) (Q : PenD) (y : Option Addr) (k : Nat) (x : Option Addr) (c : Nat) (g : Nat) (h1 : g ≠ n + 1) (h2 : g ≠ n + 1 + 1) (h3 : g ≠ n + 1 + 1 + 1) : (putA Y n o A Q y k x c).heap[g]? = Y.heap[g]? :=
  (put2_far _ _ _ h3).trans ((put3_far _ _ _ _ h2).trans (put5_far _ _ _ _ _ _ h1))
theorem putA_end {w Y : World} {o : OpD} {A : AnsD} {Q : PenD} {y : Option Addr} {k : Nat} {x : Option Addr} {c : Nat} (hb : Below w.heap.size w Y) (h1 : ownI Y (w.heap.size + 1 + 1 + 1 + 1) (.slice y A.freed.length k) A.freed) (h2 : ownS Y (w.heap.size + 1 + 1 + 1 + 1) (.slice x Q.sites.length c) Q.sites) :
    ownI (putA Y w.heap.size o A Q y k x c).drew w.heap.size (.slice y A.freed.length k) A.freed ∧ ownS (putA Y w.heap.size o A Q y k x c).drew w.heap.size (.slice x Q.sites.length c) Q.sites ∧ Below w.heap.size w (putA Y w.heap.size o A Q y k x c).drew := by
  have far := putA_far Y w.heap.size o A Q y k x c
  have i5 := put5_io Y (w.heap.size + 1) o.kind o.a o.b o.c (txt o.site)
  have i3 := put3_io (put5 Y (w.heap.size + 1) o.kind o.a o.b o.c (txt o.site)) (w.heap.size + 1 + 1) A.code A.val (.slice y A.freed.length k)
  have i2 := put2_io (put3 (put5 Y (w.heap.size + 1) o.kind o.a o.b o.c (txt o.site)) (w.heap.size + 1 + 1) A.code A.val (.slice y A.freed.length k)) (w.heap.size + 1 + 1 + 1) Q.last (.slice x Q.sites.length c)
  have hb2 : Below w.heap.size w (putA Y w.heap.size o A Q y k x c) :=
    ⟨i2.1.trans (i3.1.trans (i5.1.trans hb.os)), i2.2.1.trans (i3.2.1.trans (i5.2.1.trans hb.tape)), i2.2.2.1.trans (i3.2.2.1.trans (i5.2.2.1.trans hb.output)), by
      show _ ≤ (putA Y w.heap.size o A Q y k x c).heap.size
      unfold putA
      rw [i2.2.2.2, i3.2.2.2, i5.2.2.2]; exact hb.size, fun g hg => (far g (by omega) (by omega) (by omega)).trans (hb.block g hg)⟩
  refine ⟨row_later (row_same (ownI_mono h1 (by omega)) (fun g hg => ?_)) (Below.refl _ _).drew, row_later (row_same (ownS_mono h2 (by omega)) (fun g hg => ?_)) (Below.refl _ _).drew, hb2.drew⟩
  · have := (World.ownsRow.lt h1 g hg).1
    exact far g (by omega) (by omega) (by omega)
  · have := (World.ownsRow.lt h2 g hg).1
    exact far g (by omega) (by omega) (by omega)
/-- A pen's cells at the four worlds of an answer's stores. -/
def N2 (g : Nat) (a : Value) (b : Value) (Z : World) : Prop := Z.cell? ⟨g, 0, none⟩ = some a ∧ Z.cell? ⟨g, 1, none⟩ = some b
theorem n2_of {g : Nat} {a b : Value} {Z : World} (h : Two Z g a b) : N2 g a b Z := h.cells
theorem N2.drew {g : Nat} {a b : Value} {Z : World} (h : N2 g a b Z) : N2 g a b Z.drew := h
theorem SR.four {w : World} {P : PenD} {sa : Option Addr} {sc gn : Nat} {x3 : Option Addr} {c3 : Nat} {Y : World} (h : SR w P sa sc gn x3 c3 Y) (o : OpD) (A : AnsD) (Q : PenD) (y : Option Addr) (k : Nat) (x : Option Addr) (c : Nat) :
    N2 gn (.int .i64 P.last) (.slice x3 P.sites.length c3) Y ∧ N2 gn (.int .i64 P.last) (.slice x3 P.sites.length c3) (put5 Y (w.heap.size + 1) o.kind o.a o.b o.c (txt o.site)).drew ∧
      N2 gn (.int .i64 P.last) (.slice x3 P.sites.length c3) (put3 (put5 Y (w.heap.size + 1) o.kind o.a o.b o.c (txt o.site)) (w.heap.size + 1 + 1) A.code A.val (.slice y A.freed.length k)).drew ∧
      N2 gn (.int .i64 P.last) (.slice x3 P.sites.length c3) (putA Y w.heap.size o A Q y k x c).drew := by
  have hg := h.gn
  refine ⟨n2_of h.no, N2.drew (n2_of ((put5_far _ _ _ _ _ _ (by omega)).trans h.no)), N2.drew (n2_of ((put3_far _ _ _ _ (by omega)).trans ((put5_far _ _ _ _ _ _ (by omega)).trans h.no))), N2.drew (n2_of ((putA_far _ _ _ _ _ _ _ _ _ _ (by omega) (by omega) (by omega)).trans h.no))⟩

theorem SR.bad {w : World} {P : PenD} {sa : Option Addr} {sc gn : Nat} {x3 : Option Addr} {c3 : Nat} {Y : World} (h : SR w P sa sc gn x3 c3 Y) :
    (N2 gn (.int .i64 P.last) (.slice x3 P.sites.length c3) Y ∧ N2 gn (.int .i64 P.last) (.slice x3 P.sites.length c3) (put5 Y (w.heap.size + 1) 0 0 0 0 ⟨#[]⟩).drew ∧
      N2 gn (.int .i64 P.last) (.slice x3 P.sites.length c3) (put3 (put5 Y (w.heap.size + 1) 0 0 0 0 ⟨#[]⟩) (w.heap.size + 1 + 1) 0 0 (.slice none 0 0)).drew ∧
      N2 gn (.int .i64 P.last) (.slice x3 P.sites.length c3) (put2 (put3 (put5 Y (w.heap.size + 1) 0 0 0 0 ⟨#[]⟩) (w.heap.size + 1 + 1) 0 0 (.slice none 0 0)) (w.heap.size + 1 + 1 + 1) P.last (.slice x3 P.sites.length c3)).drew) ∧
    (ownI (put2 (put3 (put5 Y (w.heap.size + 1) 0 0 0 0 ⟨#[]⟩) (w.heap.size + 1 + 1) 0 0 (.slice none 0 0)) (w.heap.size + 1 + 1 + 1) P.last (.slice x3 P.sites.length c3)).drew w.heap.size (.slice none 0 0) [] ∧
      ownS (put2 (put3 (put5 Y (w.heap.size + 1) 0 0 0 0 ⟨#[]⟩) (w.heap.size + 1 + 1) 0 0 (.slice none 0 0)) (w.heap.size + 1 + 1 + 1) P.last (.slice x3 P.sites.length c3)).drew w.heap.size (.slice x3 P.sites.length c3) P.sites ∧
      Below w.heap.size w (put2 (put3 (put5 Y (w.heap.size + 1) 0 0 0 0 ⟨#[]⟩) (w.heap.size + 1 + 1) 0 0 (.slice none 0 0)) (w.heap.size + 1 + 1 + 1) P.last (.slice x3 P.sites.length c3)).drew) :=
  ⟨h.four ⟨0, 0, 0, 0, []⟩ ⟨0, 0, []⟩ P none 0 x3 c3, putA_end (o := ⟨0, 0, 0, 0, []⟩) (A := ⟨0, 0, []⟩) (Q := P) (y := none) (k := 0) (x := x3) (c := c3) h.bel (ownI_nil _ _) h.own⟩

/-- Both ways of saying what is read. -/
theorem r_cases {P : PenD} {l : List UInt8} {r : Option (OpD × AnsD)} (hr1 : PenR P → r = rEv P l) (hr2 : ¬ PenR P → r = none) : r = none ∨ ∃ o A, r = some (o, A) ∧ RawE P l o A ∧ EvR P o A ∧ l = evT P o A := by
  cases r with
  | none => exact .inl rfl
  | some p =>
    obtain ⟨o, A⟩ := p
    by_cases hP : PenR P
    · have h := (hr1 hP).symm
      obtain ⟨h1, h2, h3⟩ := (rEv_iff hP l o A).1 h
      exact .inr ⟨o, A, rfl, rEv_raw h, ⟨h1, h2, hP⟩, h3⟩
    · cases hr2 hP
theorem rawE_det {P : PenD} {l : List UInt8} {o : OpD} {A : AnsD} (h : RawE P l o A) {v0 v1 v2 v3 w0 : Int} {p1 p2 k1 p3 e code n : Nat} {x : List UInt8} (h1 : intsS l 4 0 = some ([v0, v1, v2, v3], p1)) (h2 : nmS P.sites l p1 = (x, (p2 : Int))) (h3 : rdv (l.drop p2) = (code, k1)) (h4 : intsS l 1 (p2 + k1) = some ([w0], p3)) (h5 : rdv (l.drop p3) = (n, e)) :
    o = ⟨v0, wrap64 (v1 + P.last), v2, wrap64 (v3 + wrap64 (v1 + P.last)), x⟩ ∧ ∃ fs p4, intsS l n (p3 + e) = some (fs, p4) ∧ A = ⟨(code : Int), wrap64 (w0 + wrap64 (v1 + P.last)), accF (wrap64 (v1 + P.last)) fs⟩ := by
  obtain ⟨ok, oa, ob, oc, os⟩ := o
  obtain ⟨ac, av, af⟩ := A
  obtain ⟨da, dc, dv, q1, q2, j1, q3, e', q4, fs, g1, g2, g3, g4, g5, g6, g7, g8, g9, g10, g11, g12, g13, g14⟩ := h
  simp only at *
  rw [h1] at g1
  simp only [Option.some.injEq, Prod.mk.injEq, List.cons.injEq, and_true] at g1
  obtain ⟨⟨rfl, rfl, rfl, rfl⟩, rfl⟩ := g1
  rw [h2] at g4
  simp only [Prod.mk.injEq] at g4
  obtain ⟨rfl, g4⟩ := g4
  obtain rfl : p2 = q2 := by omega
  rw [h3] at g5
  simp only [Prod.mk.injEq] at g5
  obtain ⟨g5, rfl⟩ := g5
  rw [h4] at g8
  simp only [Option.some.injEq, Prod.mk.injEq, List.cons.injEq, and_true] at g8
  obtain ⟨rfl, rfl⟩ := g8
  rw [h5] at g10
  simp only [Prod.mk.injEq] at g10
  obtain ⟨rfl, rfl⟩ := g10
  subst g2 g3
  refine ⟨rfl, fs, q4, g13, ?_⟩
  rw [g14, ← g9, g6, ← g5]
/-- A row's numbers, in every later world. -/
theorem rowCells {X : World} {B : Nat} {y : Option Addr} {k n : Nat} {zs : List Int} (h : ownI X B (.slice y n k) zs) (hn : zs.length = n) (h0 : 0 < n) : ∃ g off, y = some ⟨g, off, none⟩ ∧ g < X.heap.size ∧ B ≤ g ∧ ∀ (j : Nat) (hj : j < zs.length) (Y : World), Below X.heap.size X Y → Y.cell? ⟨g, off + j, none⟩ = some (.int .i64 zs[j]) := by
  obtain ⟨a, c, e, hr⟩ := rdI_own' h
  simp only [Value.slice.injEq] at e
  obtain ⟨rfl, -, -⟩ := e
  obtain ⟨g, off, e2, hg, -⟩ := hr 0 (by omega)
  refine ⟨g, off, e2, hg, (row_blk h _ e2).1, fun j hj Y hY => ?_⟩
  obtain ⟨g', off', e3, -, hc⟩ := hr j hj
  rw [e2] at e3
  simp only [Option.some.injEq, Addr.mk.injEq, and_true] at e3
  obtain ⟨rfl, rfl⟩ := e3
  rw [hY.cell (p := ⟨g, off + j, none⟩) hg]
  exact hc
/-- Up to the name's end each part is there, where the event can be read. -/
theorem rawE_next {P : PenD} {l : List UInt8} {o : OpD} {A : AnsD} (h : RawE P l o A) {zs : List Int} {p1 p2 k1 code : Nat} {x : List UInt8} (h1 : intsS l 4 0 = some (zs, p1)) (h2 : nmS P.sites l p1 = (x, (p2 : Int))) (h3 : rdv (l.drop p2) = (code, k1)) :
    k1 ≠ 0 ∧ ∃ ws p3, intsS l 1 (p2 + k1) = some (ws, p3) ∧ (rdv (l.drop p3)).2 ≠ 0 ∧ (rdv (l.drop p3)).1 ≤ 8 := by
  obtain ⟨da, dc, dv, q1, q2, j1, q3, e', q4, fs, g1, g2, g3, g4, g5, g6, g7, g8, g9, g10, g11, g12, g13, g14⟩ := h
  rw [h1] at g1
  simp only [Option.some.injEq, Prod.mk.injEq] at g1
  obtain ⟨-, rfl⟩ := g1
  rw [h2] at g4
  simp only [Prod.mk.injEq] at g4
  obtain ⟨-, g4⟩ := g4
  obtain rfl : p2 = q2 := by omega
  rw [h3] at g5
  simp only [Prod.mk.injEq] at g5
  obtain ⟨-, rfl⟩ := g5
  exact ⟨g7, _, _, g8, by rw [g10]; exact g11, by rw [g10]; exact g12⟩
theorem c10_two {g1 g2 g3 : Nat} {o : OpD} {A : AnsD} {Q : PenD} {y : Option Addr} {k : Nat} {x : Option Addr} {c : Nat} {Z : World} (h1 : OB Z g1 o.kind o.a o.b o.c (txt o.site)) (h2 : Three Z g2 (.int .i64 A.code) (.int .i64 A.val) (.slice y A.freed.length k)) (h3 : Two Z g3 (.int .i64 Q.last) (.slice x Q.sites.length c)) : C10 g1 g2 g3 o A Q y k x c Z :=
  ⟨h1.cells, ⟨h2.cell 0, h2.cell 1, h2.cell 2⟩, h3.cells.1, h3.cells.2⟩
theorem c10_four {Y : World} {n g1 g2 g3 : Nat} {o : OpD} {A : AnsD} {Q : PenD} {y : Option Addr} {k : Nat} {x : Option Addr} {c : Nat} (h1 : OB Y g1 o.kind o.a o.b o.c (txt o.site)) (h2 : Three Y g2 (.int .i64 A.code) (.int .i64 A.val) (.slice y A.freed.length k)) (h3 : Two Y g3 (.int .i64 Q.last) (.slice x Q.sites.length c)) (l1 : n + 1 + 1 + 1 < g1) (l2 : n + 1 + 1 + 1 < g2) (l3 : n + 1 + 1 + 1 < g3) :
    C10 g1 g2 g3 o A Q y k x c Y.drew ∧ C10 g1 g2 g3 o A Q y k x c (put5 Y (n + 1) o.kind o.a o.b o.c (txt o.site)).drew ∧ C10 g1 g2 g3 o A Q y k x c (put3 (put5 Y (n + 1) o.kind o.a o.b o.c (txt o.site)) (n + 1 + 1) A.code A.val (.slice y A.freed.length k)).drew ∧
      C10 g1 g2 g3 o A Q y k x c (put2 (put3 (put5 Y (n + 1) o.kind o.a o.b o.c (txt o.site)) (n + 1 + 1) A.code A.val (.slice y A.freed.length k)) (n + 1 + 1 + 1) Q.last (.slice x Q.sites.length c)).drew := by
  refine ⟨C10.drew (c10_two h1 h2 h3), C10.drew (c10_two ((put5_far _ _ _ _ _ _ (by omega)).trans h1) ((put5_far _ _ _ _ _ _ (by omega)).trans h2) ((put5_far _ _ _ _ _ _ (by omega)).trans h3)),
    C10.drew (c10_two ((put3_far _ _ _ _ (by omega)).trans ((put5_far _ _ _ _ _ _ (by omega)).trans h1)) ((put3_far _ _ _ _ (by omega)).trans ((put5_far _ _ _ _ _ _ (by omega)).trans h2)) ((put3_far _ _ _ _ (by omega)).trans ((put5_far _ _ _ _ _ _ (by omega)).trans h3))), C10.drew (c10_two ?_ ?_ ?_)⟩
  · exact (put2_far _ _ _ (by omega)).trans ((put3_far _ _ _ _ (by omega)).trans ((put5_far _ _ _ _ _ _ (by omega)).trans h1))
  · exact (put2_far _ _ _ (by omega)).trans ((put3_far _ _ _ _ (by omega)).trans ((put5_far _ _ _ _ _ _ (by omega)).trans h2))
  · exact (put2_far _ _ _ (by omega)).trans ((put3_far _ _ _ _ (by omega)).trans ((put5_far _ _ _ _ _ _ (by omega)).trans h3))
theorem rev_yes {P : PenD} {l : List UInt8} {r : Option (OpD × AnsD)} {o : OpD} {A : AnsD} {q : Bool} (hr : PenR P → r = rEv P l) (hq : q = true ↔ EvR P o A) (hT : (if q then evT P o A else []) = l) (hl : l ≠ []) : r = some (o, A) ∧ q = true := by
  cases q with
  | false => exact absurd hT.symm hl
  | true =>
    have he := hq.1 rfl
    exact ⟨(hr he.2.2).trans ((rEv_iff he.2.2 l o A).2 ⟨he.1, he.2.1, hT.symm⟩), rfl⟩
theorem rev_no {P : PenD} {l : List UInt8} {r : Option (OpD × AnsD)} {o : OpD} {A : AnsD} {q : Bool} (h : r = none ∨ ∃ o A, r = some (o, A) ∧ RawE P l o A ∧ EvR P o A ∧ l = evT P o A) (hd : ∀ o' A', RawE P l o' A' → o' = o ∧ A' = A) (hq : q = true ↔ EvR P o A) (hT : (if q then evT P o A else []) ≠ l) : r = none := by
  rcases h with h | ⟨o', A', -, h1, h2, h3⟩
  · exact h
  · obtain ⟨rfl, rfl⟩ := hd o' A' h1
    rw [hq.2 h2] at hT
    exact absurd h3.symm hT
theorem rev_empty {P : PenD} {l : List UInt8} {r : Option (OpD × AnsD)} (h : r = none ∨ ∃ o A, r = some (o, A) ∧ RawE P l o A ∧ EvR P o A ∧ l = evT P o A) (hl : l = []) : r = none := by
  rcases h with h | ⟨o', A', -, -, h2, h3⟩
  · exact h
  · exact absurd (h3.symm.trans hl) (evT_some h2)
/-- While what was freed is put together. -/
structure LF (V : World) (ga : Nat) (code va : Int) (fs : List Int) (y : Option Addr) (j k : Nat) (X : World) : Prop where
  mv : Mv ga none V X
  an : Three X ga (.int .i64 code) (.int .i64 va) (.slice y j k)
  own : ownI X V.heap.size (.slice y j k) fs
theorem three_set2 {X : World} {g : Nat} {x0 x1 x2 : Value} (h : Three X g x0 x1 x2) (y : Value) : Three (X.setCell ⟨g, 2, none⟩ y) g x0 x1 y := by
  unfold Three at *
  simp [World.setCell, Array.getElem?_modify, h]
theorem lf_step {V X X2 w' : World} {ga : Nat} {code va z : Int} {fs : List Int} {y y' : Option Addr} {j k k' : Nat} (h : LF V ga code va fs y j k X) (hg : ga < V.heap.size) (hb : Below X.heap.size X X2) (o2 : ownI w' V.heap.size (.slice y' (j + 1) k') (fs ++ [z])) (s2 : X2.heap.size ≤ w'.heap.size) (a2 : ∀ i, i < X2.heap.size → (Value.slice y j k).ownBlock ≠ some i → w'.heap[i]? = X2.heap[i]?) (c2 : Below V.heap.size X2 w') :
    LF V ga code va (fs ++ [z]) y' (j + 1) k' (w'.setCell ⟨ga, 2, none⟩ (.slice y' (j + 1) k')) := by
  have hs1 := h.mv.size
  have hs2 := hb.size
  have keep : ∀ i, i < V.heap.size → w'.heap[i]? = X.heap[i]? := fun i hi => (a2 i (by omega) (fun e => by have := (World.ownsRow.lt h.own i e).1; omega)).trans (hb.block i (by omega))
  have hT : Three w' ga (.int .i64 code) (.int .i64 va) (.slice y j k) := (keep ga hg).trans h.an
  refine ⟨⟨?_, ?_, ?_, ?_, fun g h1 h2 h3 => ?_⟩, three_set2 hT _, row_same o2 (fun g h1 => ?_)⟩
  · exact (c2.os.trans hb.os).trans h.mv.os
  · exact (c2.tape.trans hb.tape).trans h.mv.tape
  · exact (c2.output.trans hb.output).trans h.mv.output
  · simp [World.setCell]; omega
  · rw [Below.heap_setCell _ _ _ _ (by exact h2), keep g h1]
    exact h.mv.block g h1 h2 h3
  · obtain ⟨cur, hc⟩ := row_kind o2 g h1
    exact Below.heap_setCell _ _ _ _ (kind_ne hc hT (by decide))

theorem rev_entry (w : World) (P : PenD) (sa : Option Addr) (sc : Nat) (W : World) (hW : W = (((w.alloc (.cells #[.int .i64 P.last, .slice sa P.sites.length sc] 31)).alloc (.cells #[.int .i64 0, .int .i64 0, .int .i64 0, .int .i64 0, .string ⟨#[]⟩] 27)).alloc (.cells #[.int .i64 0, .int .i64 0, .slice none 0 0] 30)).alloc (.cells #[.int .i64 0, .slice none 0 0] 31)) :
    W.heap.size = w.heap.size + 1 + 1 + 1 + 1 ∧ Below w.heap.size w W ∧ Two W w.heap.size (.int .i64 P.last) (.slice sa P.sites.length sc) ∧ OB W (w.heap.size + 1) 0 0 0 0 ⟨#[]⟩ ∧ Three W (w.heap.size + 1 + 1) (.int .i64 0) (.int .i64 0) (.slice none 0 0) ∧ Two W (w.heap.size + 1 + 1 + 1) (.int .i64 0) (.slice none 0 0) := by
  obtain ⟨X1, hX1⟩ : ∃ X1, X1 = w.alloc (.cells #[.int .i64 P.last, .slice sa P.sites.length sc] 31) := ⟨_, rfl⟩
  obtain ⟨X2, hX2⟩ : ∃ X2, X2 = X1.alloc (.cells #[.int .i64 0, .int .i64 0, .int .i64 0, .int .i64 0, .string ⟨#[]⟩] 27) := ⟨_, rfl⟩
  obtain ⟨X3, hX3⟩ : ∃ X3, X3 = X2.alloc (.cells #[.int .i64 0, .int .i64 0, .slice none 0 0] 30) := ⟨_, rfl⟩
  rw [← hX1, ← hX2, ← hX3] at hW
  have s1 : X1.heap.size = w.heap.size + 1 := by rw [hX1]; simp
  have s2 : X2.heap.size = w.heap.size + 1 + 1 := by rw [hX2]; simp [s1]
  have s3 : X3.heap.size = w.heap.size + 1 + 1 + 1 := by rw [hX3]; simp [s2]
  have s4 : W.heap.size = w.heap.size + 1 + 1 + 1 + 1 := by rw [hW]; simp [s3]
  have b1 : Below w.heap.size w X1 := by rw [hX1]; exact (Below.refl _ _).alloc (Nat.le_refl _) _
  have b2 : Below X1.heap.size X1 X2 := by rw [hX2]; exact (Below.refl _ _).alloc (Nat.le_refl _) _
  have b3 : Below X2.heap.size X2 X3 := by rw [hX3]; exact (Below.refl _ _).alloc (Nat.le_refl _) _
  have b4 : Below X3.heap.size X3 W := by rw [hW]; exact (Below.refl _ _).alloc (Nat.le_refl _) _
  have o1 : Two X1 w.heap.size (.int .i64 P.last) (.slice sa P.sites.length sc) := by rw [hX1]; exact Two.new w _ _
  have o2 : OB X2 (w.heap.size + 1) 0 0 0 0 ⟨#[]⟩ := by rw [hX2, ← s1]; exact heap_alloc_new X1 _
  have o3 : Three X3 (w.heap.size + 1 + 1) (.int .i64 0) (.int .i64 0) (.slice none 0 0) := by rw [hX3, ← s2]; exact heap_alloc_new X2 _
  have o4 : Two W (w.heap.size + 1 + 1 + 1) (.int .i64 0) (.slice none 0 0) := by rw [hW, ← s3]; exact Two.new X3 _ _
  have b34 := b3.trans (b4.mono b3.size)
  have b24 := b2.trans (b34.mono b2.size)
  exact ⟨s4, b1.trans (b24.mono b1.size), o1.later b24, (b34.block _ o2.lt).trans o2, o3.later b4, o4⟩

end Go.Proofs.YtcjpepdagnifiaaDoor
