/- The program's iterator over a log's frames: it hands out the items, in their order, for every loop body that keeps what it reads. -/
import Derived.Test.YthagjamgmlbhkaaDoorItemMath
import Derived.Test.YthagjamgmlbhkaaDoorIFrame2Walks
import Derived.Test.YthagjamgmlbhkaaDoorIsWalks
import Derived.RangeFuncNested
import Derived.RangeFuncBound
import Derived.RangeFuncCalls
import Derived.RangeFuncLeaves
import Derived.RangeFuncBox
import Derived.Shelf.Abstract
import Derived.Shelf.RegionOpen
import Derived.OwnWalkIn
import Derived.TacticsInMore
import Derived.LoopNIn
import Derived.LoopIn
namespace Go.Proofs.YthagjamgmlbhkaaDoor
open Go.RowKit Go.Shelf
set_option linter.unusedVariables false
attribute [local go_sem] Oper.semAt_some

/-- The variable g holds the error at a, which lies below n as the model has errors. -/
def Sn (n : Nat) (w : World) (g : Nat) (a : Addr) : Prop := g < n ∧ a.block < n ∧ w.cell? ⟨g, 0, none⟩ = some (errAt a) ∧ ∃ c t, w.heap[a.block]? = some (.cells c t (0, 0))
theorem sn_below {n : Nat} {w w' : World} {g : Nat} {a : Addr} (h : Sn n w g a) (hb : Below n w w') : Sn n w' g a := by
  obtain ⟨h1, h2, h3, c, t, h4⟩ := h
  exact ⟨h1, h2, (hb.cell (p := ⟨g, 0, none⟩) h1).trans h3, c, t, (hb.block _ h2).trans h4⟩

/-- What the iterator reads below n: the table of sixteen, and three errors, no two of them alike. -/
structure Env3 (n : Nat) (w : World) (h f e : Addr) : Prop where
  tab : TabAt w
  low : 5 < n
  head : Sn n w 0 h
  frame : Sn n w 4 f
  fin : Sn n w 3 e
  hf : h ≠ f
  he : h ≠ e
  fe : f ≠ e
theorem env3_below {n : Nat} {w w' : World} {h f e : Addr} (E : Env3 n w h f e) (hb : Below n w w') : Env3 n w' h f e :=
  ⟨tab_below E.tab hb E.low, E.low, sn_below E.head hb, sn_below E.frame hb, sn_below E.fin hb, E.hf, E.he, E.fe⟩

/-- An item's error, and an item as the loop's two variables have it. -/
def errV (h f e : Addr) : E4 → Value
  | none => .nilIface
  | some .lt => errAt h
  | some .eq => errAt f
  | some .gt => errAt e
def encI (h f e : Addr) (x : It) : Array Value := #[.agg #[.int .i64 (x.q : Int), .string (txt x.t), .int .i64 (x.a : Int), .int .i64 (x.b : Int)], errV h f e x.e]

/-- What a round keeps: what lay below n, and the iterator's box. -/
def KpB (n Bn : Nat) (W W' : World) : Prop := Below n W W' ∧ W'.heap[Bn]? = W.heap[Bn]?
theorem kpB_t {n Bn : Nat} {A B C : World} (h : KpB n Bn A B) (k : KpB n Bn B C) : KpB n Bn A C := ⟨h.1.trans k.1, k.2.trans h.2⟩
theorem kpB_refl (n Bn : Nat) (W : World) : KpB n Bn W W := ⟨Below.refl _ _, rfl⟩
theorem kpB_b {n Bn : Nat} {w : World} (hn : n ≤ w.heap.size) (hB : Bn < w.heap.size) (W : World) (l : Nat) (o o' : Obj) (hl : w.heap.size ≤ l) (h : W.heap[l]? = some o) (h1 : o.isCells = false) (h2 : o.isWalk = false) : KpB n Bn W (W.putObj l o') :=
  ⟨belowK_b hn W l o o' hl h h1 h2, World.putObj_heap_other (by omega)⟩

theorem head_calls (l : List UInt8) (B : Bool) (hB : decide (magic <+: l) = B) (w : World) :
    Calls Tryd.prog 40 #[.string (txt l), .string ⟨#[72, 76, 79, 71, 1]⟩] w fun e w' => e = .returned (.bool B) ∧ w' = w := prefix_calls magic l B hB w

theorem grown_of {w w' : World} (h : Below w.heap.size w w') : w.grownBy w' none := ⟨h.os, h.tape, h.output, h.size, fun k hk _ => h.block k hk⟩

set_option maxRecDepth 100000 in
set_option maxHeartbeats 1000000 in
theorem frames1_no (n l0 Bn n₀ : Nat) (h f e : Addr) (L : List UInt8) (hn : 1 ≤ n) (hm : ¬ L.take 5 = magic) (J Jx : List It → World → Prop)
    (hY : ∀ pre x W, J pre W → pre.length < (items L).length → YieldAt Fence.wide (n - 1) Tryd.prog l0 (encI h f e x) W fun e W' =>
      (e = .returned (.bool true) ∧ J (pre ++ [x]) W' ∧ KpB n₀ Bn W W') ∨ (e = .returned (.bool false) ∧ Jx (pre ++ [x]) W'))
    (W : World) (hBn : W.cell? ⟨Bn, 0, none⟩ = some (.string (txt L))) (E : Env3 n₀ W h f e) (h0 : J [] W) :
    CallsIn Fence.wide n Tryd.prog 55 #[.func (.yield l0) #[] #[], .pointer (some ⟨Bn, 0, none⟩)] W fun e W' => (∃ v, e = .returned v) ∧
      ((∃ ys, ys = items L ∧ J ys W') ∨ (∃ pre, pre <+: items L ∧ Jx pre W')) := by
  have CP : Hid (∀ X, _) := fun X => head_calls L false (by rw [decide_eq_false_iff_not, magic_prefix]; exact hm) X
  have HI : Hid (items L = [⟨0, [], 0, 0, .head⟩]) := (items_no L hm).1
  have hH : W.cell? ⟨0, 0, none⟩ = some (errAt h) := E.head.2.2.1
  obtain ⟨fn, tmps, assign, body, hy0, hR⟩ := hY [] ⟨0, [], 0, 0, .head⟩ W h0 (by rw [HI.out]; simp)
  have hy : (Instr.yield l0 #[.agg #[.int .i64 0, .string ⟨#[]⟩, .int .i64 0, .int .i64 0], errAt h]).run Tryd.prog W = .ok (.round l0 fn tmps assign body) W := hy0
  have HR : Hid (RoundIn _ _ _ _ _ _ _ _ _ _) := hR
  clear hY hy0 hR hm E
  refine callsIn_of_wp Tryd.func55 rfl trivial ?_ rfl
  simp only [Tryd.ntmps55, List.size_toArray, List.length_cons, List.length_nil, Nat.reduceAdd, Nat.reduceSub, Array.replicate_succ, Array.replicate_zero, List.push_toArray, List.append_toArray, List.nil_append, List.cons_append]
  gi_wp2_with fail
  refine ⟨trivial, (callsIn_wide.2 (CP.out _)).mono ?_⟩
  rintro e1 w1 ⟨rfl, rfl⟩
  gi_wp2
  refine HR.out.mono ?_
  rintro e2 w2 (⟨rfl, hJ2, hk2⟩ | ⟨rfl, hJ2⟩)
  · gi_wp2
    refine bodyPost_ret (results_none rfl _ _ _) rfl ?_
    exact ⟨⟨_, rfl⟩, .inl ⟨_, HI.out.symm, hJ2⟩⟩
  · gi_wp2
    refine bodyPost_ret (results_none rfl _ _ _) rfl ?_
    exact ⟨⟨_, rfl⟩, .inr ⟨_, by rw [HI.out]; exact List.prefix_refl _, hJ2⟩⟩

theorem iReadFrame_is (l : List UInt8) (w : World) (ht : TabAt w) (hs : l.length ≤ 1048576) (q : Nat) (t : List UInt8) (k : Nat) (h : rdF l = some (q, t, k)) :
    Calls Tryd.prog 15 #[.string (txt l)] w fun e w' => e = .returned (.tuple #[.int .i64 (q : Int), .string (txt t), .int .i64 (k : Int)]) ∧ Below w.heap.size w w' := by
  have h2 := iReadFrame_calls l w ht hs
  rw [h] at h2
  exact h2
theorem iReadFrame_isnt (l : List UInt8) (w : World) (ht : TabAt w) (hs : l.length ≤ 1048576) (h : rdF l = none) :
    Calls Tryd.prog 15 #[.string (txt l)] w fun e w' => e = .returned (.tuple #[.int .i64 0, .string (txt []), .int .i64 0]) ∧ Below w.heap.size w w' := by
  have h2 := iReadFrame_calls l w ht hs
  rw [h] at h2
  exact h2

theorem kpB_cell {n Bn : Nat} {W W' : World} (h : KpB n Bn W W') (o : Nat) : W'.cell? ⟨Bn, o, none⟩ = W.cell? ⟨Bn, o, none⟩ := by
  simp only [World.cell?, h.2]

set_option maxRecDepth 100000 in
set_option maxHeartbeats 4000000 in
theorem frames1_yes (n l0 Bn n₀ : Nat) (h f e : Addr) (L : List UInt8) (hs : L.length ≤ 1048576) (hn : 1 ≤ n) (hm : L.take 5 = magic) (J Jx : List It → World → Prop)
    (hY : ∀ pre x W, J pre W → pre.length < (items L).length → YieldAt Fence.wide (n - 1) Tryd.prog l0 (encI h f e x) W fun e W' =>
      (e = .returned (.bool true) ∧ J (pre ++ [x]) W' ∧ KpB n₀ Bn W W') ∨ (e = .returned (.bool false) ∧ Jx (pre ++ [x]) W'))
    (W : World) (hBn : W.cell? ⟨Bn, 0, none⟩ = some (.string (txt L))) (hBl : n₀ ≤ W.heap.size) (E : Env3 n₀ W h f e) (hJ : AbidesFrom W.heap.size J) (h0 : J [] W) :
    CallsIn Fence.wide n Tryd.prog 55 #[.func (.yield l0) #[] #[], .pointer (some ⟨Bn, 0, none⟩)] W fun e W' => (∃ v, e = .returned v) ∧
      ((∃ ys, ys = items L ∧ J ys W') ∨ (∃ pre, pre <+: items L ∧ Jx pre W')) := by
  have hls : (txt L).size = L.length := rfl
  have CP : Hid (∀ X, _) := fun X => head_calls L true (by rw [decide_eq_true_iff, magic_prefix]; exact hm) X
  have h5 : 5 ≤ L.length := by
    have := congrArg List.length hm
    rw [List.length_take] at this
    have e5 : magic.length = 5 := rfl
    omega
  have HI : Hid (items L = [] ++ itG L.length (L.drop 5) 5) := by show _ = _; unfold items; rw [if_pos hm]; rfl
  have ST : Hid (∀ p q t k, p < L.length → rdF (L.drop p) = some (q, t, k) → itG L.length (L.drop p) p = ⟨q, t, p, p + k, .ok⟩ :: itG L.length (L.drop (p + k)) (p + k)) := fun p q t k => it_step L p q t k
  have SN : Hid (∀ p, p < L.length → rdF (L.drop p) = none → itG L.length (L.drop p) p = [⟨0, [], p, p, .frame⟩]) := fun p => it_none L p
  have SE : Hid (∀ p, L.length ≤ p → itG L.length (L.drop p) p = [⟨0, [], p, p, .fin⟩]) := it_end L
  have EX : Hid (∀ p, (txt L).extract p L.length = txt (L.drop p)) := extract_from L
  have CI : Hid (∀ p q t k X, TabAt X → rdF (L.drop p) = some (q, t, k) → _) := fun p q t k X hX hr => iReadFrame_is (L.drop p) X hX (by rw [List.length_drop]; omega) q t k hr
  have CN : Hid (∀ p X, TabAt X → rdF (L.drop p) = none → _) := fun p X hX hr => iReadFrame_isnt (L.drop p) X hX (by rw [List.length_drop]; omega) hr
  have RL : Hid (∀ p q t k, rdF (L.drop p) = some (q, t, k) → 6 ≤ k ∧ k ≤ L.length - p) := fun p q t k hr => ⟨rdF_pos _ _ _ _ hr, by have h2 := rdF_sound _ _ _ _ hr; rw [List.length_drop] at h2; exact h2.2.2.1⟩
  have HE : Hid (Env3 n₀ W h f e) := E
  have HJ : Hid (AbidesFrom W.heap.size J) := hJ
  have HY : Hid (∀ pre x W, J pre W → pre.length < (items L).length → YieldAt Fence.wide (n - 1) Tryd.prog l0 (encI h f e x) W fun e W' =>
      (e = .returned (.bool true) ∧ J (pre ++ [x]) W' ∧ KpB n₀ Bn W W') ∨ (e = .returned (.bool false) ∧ Jx (pre ++ [x]) W')) := hY
  have H0 : Hid (J [] W) := h0
  clear hm E hJ hY h0
  generalize items L = IT at *
  obtain ⟨N, hN⟩ : ∃ N, L.length = N := ⟨_, rfl⟩
  rw [hN] at hs hls h5 HI ST SN SE EX RL
  clear hN
  refine callsIn_of_wp Tryd.func55 rfl trivial ?_ rfl
  simp only [Tryd.ntmps55, List.size_toArray, List.length_cons, List.length_nil, Nat.reduceAdd, Nat.reduceSub, Array.replicate_succ, Array.replicate_zero, List.push_toArray, List.append_toArray, List.nil_append, List.cons_append]
  gi_wp2_with fail
  refine ⟨trivial, (callsIn_wide.2 (CP.out _)).mono ?_⟩
  rintro e1 w1 ⟨rfl, rfl⟩
  gi_wp2
  gi_loopw [3] (fun x wr => ∃ (pre : List It) (p : Nat), p ≤ N ∧ x = .int .i64 (p : Int) ∧ Hid (IT = pre ++ itG N (L.drop p) p) ∧ Hid (J pre wr) ∧ Hid (Env3 n₀ wr h f e) ∧ n₀ ≤ wr.heap.size ∧ wr.cell? ⟨Bn, 0, none⟩ = some (.string (txt L)) ∧ w1.heap.size ≤ wr.heap.size) (fun x _ => N - (intOf x).toNat)
  case atStart => exact ⟨[], 5, h5, rfl, HI, H0, HE, hBl, hBn, Nat.le_refl _⟩
  case round =>
    obtain ⟨pre, p, hp, rfl, HP, HJ1, HE1, hl1, hB1, hs1⟩ := hrel
    by_cases hlt : p < N
    · have hx : (txt L).extract p N = txt (L.drop p) := EX.out p
      have HBlt : Hid (Bn < wr.heap.size) := World.block_lt_of_cell? wr _ hB1
      cases hr : rdF (L.drop p) with
      | none =>
        have HQ : Hid (IT = pre ++ [⟨0, [], p, p, .frame⟩]) := by show _ = _; rw [HP.out, SN.out p hlt hr]
        have HC : Hid (∀ X, TabAt X → _) := fun X hX => CN.out p X hX hr
        clear hr
        gi_wp2_with fail
        refine ⟨trivial, (callsIn_wide.2 (HC.out _ HE1.out.tab)).mono ?_⟩
        rintro e3 w3 ⟨rfl, b3⟩
        have HE3 : Hid (Env3 n₀ w3 h f e) := env3_below HE1.out (b3.mono hl1)
        have HJ3 : Hid (J pre w3) := HJ.out _ _ _ none HJ1.out (grown_of b3) (fun r er => by cases er)
        have hF : w3.cell? ⟨4, 0, none⟩ = some (errAt f) := HE3.out.frame.2.2.1
        have hB3 : w3.cell? ⟨Bn, 0, none⟩ = some (.string (txt L)) := (b3.cell (p := ⟨Bn, 0, none⟩) HBlt.out).trans hB1
        obtain ⟨fn, tmps, assign, body, hy0, hR⟩ := HY.out pre ⟨0, [], p, p, .frame⟩ w3 HJ3.out (by rw [HQ.out]; simp)
        have hy : (Instr.yield l0 #[.agg #[.int .i64 0, .string ⟨#[]⟩, .int .i64 (p : Int), .int .i64 (p : Int)], errAt f]).run Tryd.prog w3 = .ok (.round l0 fn tmps assign body) w3 := hy0
        have HR : Hid (RoundIn _ _ _ _ _ _ _ _ _ _) := hR
        clear hy0 hR
        gi_wp2
        refine HR.out.mono ?_
        rintro e2 w2 (⟨rfl, hJ2, hk2⟩ | ⟨rfl, hJ2⟩)
        · gi_wp2
          refine bodyPost_ret (results_none rfl _ _ _) rfl ?_
          exact ⟨⟨_, rfl⟩, .inl ⟨_, HQ.out.symm, hJ2⟩⟩
        · gi_wp2
          refine bodyPost_ret (results_none rfl _ _ _) rfl ?_
          exact ⟨⟨_, rfl⟩, .inr ⟨_, by rw [HQ.out]; exact List.prefix_refl _, hJ2⟩⟩
      | some y =>
        obtain ⟨q, t, k⟩ := y
        have HQ : Hid (IT = (pre ++ [⟨q, t, p, p + k, .ok⟩]) ++ itG N (L.drop (p + k)) (p + k)) := by show _ = _; rw [HP.out, ST.out p q t k hlt hr]; simp
        obtain ⟨hk6, hkl⟩ := RL.out p q t k hr
        have HC : Hid (∀ X, TabAt X → _) := fun X hX => CI.out p q t k X hX hr
        clear hr
        have qk : ((k : Int) == 0) = false := by rw [beq_eq_false_iff_ne]; omega
        gi_wp2_with fail
        refine ⟨trivial, (callsIn_wide.2 (HC.out _ HE1.out.tab)).mono ?_⟩
        rintro e3 w3 ⟨rfl, b3⟩
        have HE3 : Hid (Env3 n₀ w3 h f e) := env3_below HE1.out (b3.mono hl1)
        have HJ3 : Hid (J pre w3) := HJ.out _ _ _ none HJ1.out (grown_of b3) (fun r er => by cases er)
        have hB3 : w3.cell? ⟨Bn, 0, none⟩ = some (.string (txt L)) := (b3.cell (p := ⟨Bn, 0, none⟩) HBlt.out).trans hB1
        have hs3 := b3.size
        obtain ⟨fn, tmps, assign, body, hy0, hR⟩ := HY.out pre ⟨q, t, p, p + k, .ok⟩ w3 HJ3.out (by rw [HQ.out]; simp)
        have hy : (Instr.yield l0 #[.agg #[.int .i64 (q : Int), .string (txt t), .int .i64 (p : Int), .int .i64 ((p : Int) + (k : Int))], .nilIface]).run Tryd.prog w3 = .ok (.round l0 fn tmps assign body) w3 := hy0
        have HR : Hid (RoundIn _ _ _ _ _ _ _ _ _ _) := hR
        clear hy0 hR
        gi_wp2
        refine HR.out.mono ?_
        rintro e2 w2 (⟨rfl, hJ2, hk2⟩ | ⟨rfl, hJ2⟩)
        · have hB2 : w2.cell? ⟨Bn, 0, none⟩ = some (.string (txt L)) := (kpB_cell hk2 0).trans hB3
          have HE2 : Hid (Env3 n₀ w2 h f e) := env3_below HE3.out hk2.1
          have HJ2 : Hid (J (pre ++ [⟨q, t, p, p + k, .ok⟩]) w2) := hJ2
          have hs2 := hk2.1.size
          clear hk2 hJ2
          gi_wp2
          go_roundw
          case rel => exact ⟨_, p + k, by omega, by go_num, HQ, HJ2, HE2, by omega, hB2, by omega⟩
          case measure => simp [intOf]; omega
        · gi_wp2
          refine bodyPost_ret (results_none rfl _ _ _) rfl ?_
          exact ⟨⟨_, rfl⟩, .inr ⟨_, by rw [HQ.out]; exact List.prefix_append _ _, hJ2⟩⟩
    · have HQ : Hid (IT = pre ++ [⟨0, [], p, p, .fin⟩]) := by show _ = _; rw [HP.out, SE.out p (by omega)]
      have hF : wr.cell? ⟨3, 0, none⟩ = some (errAt e) := HE1.out.fin.2.2.1
      obtain ⟨fn, tmps, assign, body, hy0, hR⟩ := HY.out pre ⟨0, [], p, p, .fin⟩ wr HJ1.out (by rw [HQ.out]; simp)
      have hy : (Instr.yield l0 #[.agg #[.int .i64 0, .string ⟨#[]⟩, .int .i64 (p : Int), .int .i64 (p : Int)], errAt e]).run Tryd.prog wr = .ok (.round l0 fn tmps assign body) wr := hy0
      have HR : Hid (RoundIn _ _ _ _ _ _ _ _ _ _) := hR
      clear hy0 hR
      gi_wp2
      refine HR.out.mono ?_
      rintro e2 w2 (⟨rfl, hJ2, hk2⟩ | ⟨rfl, hJ2⟩)
      · gi_wp2
        go_end0
        exact ⟨⟨_, rfl⟩, .inl ⟨_, HQ.out.symm, hJ2⟩⟩
      · gi_wp2
        go_end0
        exact ⟨⟨_, rfl⟩, .inr ⟨_, by rw [HQ.out]; exact List.prefix_refl _, hJ2⟩⟩

/-- The iterator hands out the items, or a beginning of them where a round has said that it wants no more. -/
theorem frames_stops (n Bn n₀ : Nat) (h f e : Addr) (L : List UInt8) (hs : L.length ≤ 1048576) (hn : 1 ≤ n) (w : World) (hBn : w.cell? ⟨Bn, 0, none⟩ = some (.string (txt L))) (hBl : n₀ ≤ w.heap.size) (E : Env3 n₀ w h f e) :
    SeqStopsK Fence.wide n Tryd.prog 55 #[.pointer (some ⟨Bn, 0, none⟩)] (encI h f e) (KpB n₀ Bn) (fun ys => ys = items L) (fun pre => pre <+: items L) (items L).length w := by
  intro l J Jx W hW hJ hJx hY h0
  have hB := World.block_lt_of_cell? w _ hBn
  have hBW : W.cell? ⟨Bn, 0, none⟩ = some (.string (txt L)) := (hW.cell (p := ⟨Bn, 0, none⟩) hB).trans hBn
  have hE := env3_below E (hW.mono hBl)
  by_cases hm : L.take 5 = magic
  · exact frames1_yes n l Bn n₀ h f e L hs hn hm J Jx hY W hBW (Nat.le_trans hBl hW.size) hE hJ h0
  · exact frames1_no n l Bn n₀ h f e L hn hm J Jx hY W hBW hE h0

set_option maxHeartbeats 1000000 in
theorem framesOf_calls (s : ByteArray) (w : World) (n : Nat) :
    CallsIn Fence.wide n Tryd.prog 37 #[.string s] w fun e w' => e = .returned (.func (.func 55) #[] #[.pointer (some ⟨w.heap.size, 0, none⟩)]) ∧ w' = w.alloc (.cells #[.string s] 9) := by
  refine callsIn_of_wp Tryd.func37 rfl trivial ?_ rfl
  simp only [Tryd.ntmps37, List.size_toArray, List.length_cons, List.length_nil, Nat.reduceAdd, Nat.reduceSub, Array.replicate_succ, Array.replicate_zero, List.push_toArray, List.append_toArray, List.nil_append, List.cons_append]
  gi_wp2
  go_ret
  exact ⟨rfl, rfl⟩

end Go.Proofs.YthagjamgmlbhkaaDoor
