/- A reader's answer. -/
import Derived.Test.YtcjpepdagnifiaaDoorJReadEventC
import Derived.Test.YtcjpepdagnifiaaDoorOwnI
import Derived.Tactics
import Derived.Tactics2
import Derived.Defers
import Derived.Recover
import Derived.Laws.Pointers
namespace Go.Proofs.YtcjpepdagnifiaaDoor
open Go.RowKit
set_option linter.unusedVariables false
set_option maxRecDepth 100000

def contI (zs : List Int) (r : Option (List Int × List UInt8)) : Option (List Int × List UInt8) := r.map fun p => (zs ++ p.1, p.2)
theorem contI_nil (r : Option (List Int × List UInt8)) : contI [] r = r := by cases r <;> rfl
theorem contI_snoc (zs : List Int) (z : Int) (r : Option (List Int × List UInt8)) : contI zs (contI [z] r) = contI (zs ++ [z]) r := by
  cases r with
  | none => rfl
  | some p => simp [contI]
theorem rInts_yes {k : Nat} {a z : Int} {s s' : List UInt8} (h : rNum a s = some (z, s')) : rInts (k + 1) a s = contI [z] (rInts k z s') := by
  show (match rNum a s with
    | none => none
    | some (z, s1) => match rInts k z s1 with
      | none => none
      | some (zs, s2) => some (z :: zs, s2)) = _
  rw [h]
  simp only
  cases rInts k z s' <;> rfl
theorem rInts_no {k : Nat} {a : Int} {s : List UInt8} (h : rNum a s = none) : rInts (k + 1) a s = none := by
  unfold rInts
  rw [h]
/-- What stands while an answer is read. -/
structure RAn (B b : Nat) (P : PenD) (sv ev : Value) (l : List UInt8) (X : World) (c v : Int) (y : Value) (V : World) : Prop where
  rd : RD B b P sv ev l V
  out : Three V X.heap.size (.int .i64 0) (.int .i64 0) (.slice none 0 0)
  op : Three V (X.heap.size + 1) (.int .i64 c) (.int .i64 v) y
  mv : Mv b none X V
  lt : b < X.heap.size
  nm : ∀ g, sv.ownBlock = some g → g < X.heap.size
  er : 0 < X.heap.size
theorem RAn.step {B b : Nat} {P : PenD} {sv ev : Value} {l l' : List UInt8} {X V Y : World} {c v : Int} {y : Value} (h : RAn B b P sv ev l X c v y V) (r : RD B b P sv ev l' Y) (m : Mv b none V Y) : RAn B b P sv ev l' X c v y Y := by
  have hlt := h.lt
  exact ⟨r, (m.block _ h.out.lt (by omega) (by simp)).trans h.out, (m.block _ h.op.lt (by omega) (by simp)).trans h.op, h.mv.trans m, h.lt, h.nm, h.er⟩
theorem ownI_mv {B b C : Nat} {P : PenD} {sv ev y : Value} {l : List UInt8} {V Y : World} {zs : List Int} (o : ownI V C y zs) (h : RD B b P sv ev l V) (m : Mv b none V Y) : ownI Y C y zs :=
  row_same o (fun g hg => by
    obtain ⟨cur, hk⟩ := row_kind o g hg
    exact m.block g (World.ownsRow.lt o g hg).2 (kind_ne hk h.box (by decide)) (by simp))
theorem ownI_box {C g i : Nat} {cs : Array Value} {T : TypeId} {y u : Value} {V : World} {zs : List Int} (o : ownI V C y zs) (h : V.heap[g]? = some (.cells cs T (0, 0))) (hT : 3 ≠ T) : ownI (V.setCell ⟨g, i, none⟩ u) C y zs :=
  row_same o (fun k hk => by
    obtain ⟨cur, hc⟩ := row_kind o k hk
    exact Below.heap_setCell _ _ _ _ (kind_ne hc h hT))
theorem RAn.set {B b : Nat} {P : PenD} {sv ev : Value} {l : List UInt8} {X V : World} {c v c2 v2 : Int} {y y2 : Value} (h : RAn B b P sv ev l X c v y V) (i : Nat) (u : Value) (hu : Three (V.setCell ⟨X.heap.size + 1, i, none⟩ u) (X.heap.size + 1) (.int .i64 c2) (.int .i64 v2) y2) : RAn B b P sv ev l X c2 v2 y2 (V.setCell ⟨X.heap.size + 1, i, none⟩ u) := by
  have hlt := h.lt
  have he := h.er
  refine ⟨h.rd.other h.op (by decide) (by omega) (by omega) i u, (Below.heap_setCell _ _ _ _ (by show X.heap.size ≠ X.heap.size + 1; omega)).trans h.out, hu, ?_, h.lt, h.nm, h.er⟩
  exact ⟨h.mv.os, h.mv.tape, h.mv.output, by simpa [World.setCell] using h.mv.size, fun g hg hn hv => (Below.heap_setCell _ _ _ _ (by show g ≠ X.heap.size + 1; omega)).trans (h.mv.block g hg hn hv)⟩
theorem RAn.app {B b : Nat} {P : PenD} {sv ev : Value} {l : List UInt8} {X V Y : World} {c v : Int} {y : Value} (h : RAn B b P sv ev l X c v y V) (k : Below (X.heap.size + 2) V Y) : RAn B b P sv ev l X c v y Y := by
  have hlt := h.lt
  have he := h.er
  refine ⟨⟨⟨?_, h.rd.er.2⟩, h.rd.ne, (k.block b (by omega)).trans h.rd.box, row_same h.rd.own (fun g hg => k.block g (by have := h.nm g hg; omega))⟩, (k.block _ (by omega)).trans h.out, (k.block _ (by omega)).trans h.op, ?_, h.lt, h.nm, h.er⟩
  · rw [World.cell?_of_block (w := V) (k.block _ (by show 0 < _; omega))]
    exact h.rd.er.1
  · exact ⟨k.os.trans h.mv.os, k.tape.trans h.mv.tape, k.output.trans h.mv.output, Nat.le_trans h.mv.size k.size, fun g hg hn hv => (k.block g (by omega)).trans (h.mv.block g hg hn hv)⟩
theorem Three.put0 {X : World} {g : Nat} {x0 x1 x2 : Value} (h : Three X g x0 x1 x2) (z : Int) : Three (X.setCell ⟨g, 0, none⟩ (.int .i64 z)) g (.int .i64 z) x1 x2 := by
  unfold Three at *
  simp [World.setCell, Array.getElem?_modify, h]
theorem Three.put1 {X : World} {g : Nat} {x0 x1 x2 : Value} (h : Three X g x0 x1 x2) (z : Int) : Three (X.setCell ⟨g, 1, none⟩ (.int .i64 z)) g x0 (.int .i64 z) x2 := by
  unfold Three at *
  simp [World.setCell, Array.getElem?_modify, h]
theorem Three.put2 {X : World} {g : Nat} {x0 x1 x2 : Value} (h : Three X g x0 x1 x2) (z : Value) : Three (X.setCell ⟨g, 2, none⟩ z) g x0 x1 z := by
  unfold Three at *
  simp [World.setCell, Array.getElem?_modify, h]
theorem RAn.fin {B b : Nat} {P : PenD} {sv ev : Value} {l : List UInt8} {X V : World} {c v : Int} {y : Value} {zs : List Int} (h : RAn B b P sv ev l X c v y V) (o : ownI V (X.heap.size + 2) y zs) :
    RD B b P sv ev l (((V.setCell ⟨X.heap.size, 0, none⟩ (.int .i64 c)).setCell ⟨X.heap.size, 1, none⟩ (.int .i64 v)).setCell ⟨X.heap.size, 2, none⟩ y) ∧
      Mv b none X (((V.setCell ⟨X.heap.size, 0, none⟩ (.int .i64 c)).setCell ⟨X.heap.size, 1, none⟩ (.int .i64 v)).setCell ⟨X.heap.size, 2, none⟩ y) ∧
      ownI (((V.setCell ⟨X.heap.size, 0, none⟩ (.int .i64 c)).setCell ⟨X.heap.size, 1, none⟩ (.int .i64 v)).setCell ⟨X.heap.size, 2, none⟩ y) (X.heap.size + 2) y zs := by
  have hlt := h.lt
  have her := h.er
  have o0 := h.out
  have o1 := o0.put0 c
  have o2 := o1.put1 v
  have hb : X.heap.size ≠ b := by omega
  have he : 0 ≠ X.heap.size := by omega
  refine ⟨((h.rd.other o0 (by decide) hb he 0 _).other o1 (by decide) hb he 1 _).other o2 (by decide) hb he 2 _, ?_, ownI_box (ownI_box (ownI_box o o0 (by decide)) o1 (by decide)) o2 (by decide)⟩
  have step : ∀ (Y : World) (i : Nat) (u : Value), Mv b none X Y → Mv b none X (Y.setCell ⟨X.heap.size, i, none⟩ u) := fun Y i u m =>
    ⟨m.os, m.tape, m.output, by simpa [World.setCell] using m.size, fun g hg hn hv => (Below.heap_setCell _ _ _ _ (by show g ≠ X.heap.size; omega)).trans (m.block g hg hn hv)⟩
  exact step _ 2 _ (step _ 1 _ (step _ 0 _ h.mv))
/-- What reading an answer leaves. -/
def PostA (B b : Nat) (P : PenD) (sv ev : Value) (r : Option (AnsD × List UInt8)) (X : World) (e : Ending) (Y : World) : Prop :=
  (∀ A l', r = some (A, l') → ∃ y k, e = .returned (.agg #[.int .i64 A.code, .int .i64 A.val, .slice y A.freed.length k]) ∧ ownI Y (X.heap.size + 2) (.slice y A.freed.length k) A.freed ∧ RD B b P sv ev l' Y) ∧ (r = none → e = .panicked (pan ev) ∧ ∃ l2, RD B b P sv ev l2 Y) ∧ Mv b none X Y
theorem postA_no {B b : Nat} {P : PenD} {sv ev : Value} {l2 : List UInt8} {X Y : World} (h : RD B b P sv ev l2 Y) (k : Mv b none X Y) : PostA B b P sv ev none X (.panicked (pan ev)) Y :=
  ⟨fun _ _ h => (nomatch h), fun _ => ⟨rfl, _, h⟩, k⟩
theorem postA_yes {B b : Nat} {P : PenD} {sv ev : Value} {l' : List UInt8} {X Y : World} (c v : Int) (zs : List Int) (y : Option Addr) (k : Nat) (h : RD B b P sv ev l' Y) (o : ownI Y (X.heap.size + 2) (.slice y zs.length k) zs) (m : Mv b none X Y) : PostA B b P sv ev (some (⟨c, v, zs⟩, l')) X (.returned (.agg #[.int .i64 c, .int .i64 v, .slice y zs.length k])) Y :=
  ⟨fun A l2 e => by obtain ⟨rfl, rfl⟩ := Prod.mk.injEq _ _ _ _ ▸ Option.some.inj e; exact ⟨y, k, rfl, o, h⟩, fun h => (nomatch h), m⟩

set_option maxHeartbeats 4000000 in
theorem rAns_calls (B b : Nat) (P : PenD) (sv ev : Value) (l : List UInt8) (a : Int) (X : World) (h : RD B b P sv ev l X) (hl : l.length ≤ 1048576) (ha : okZ a) :
    Calls Tryd.prog 61 #[.pointer (some ⟨b, 0, none⟩), .int .i64 a] X fun e Y => PostA B b P sv ev (rAns a l) X e Y := by
  have CC : Hid (∀ (Y : World) (s : List UInt8) (m : Nat), RD B b P sv ev s Y → s.length ≤ 1048576 → _) := fun Y s m hY h1 => rCnt_calls B b P sv ev s m Y hY h1
  have CN : Hid (∀ (Y : World) (s : List UInt8) (a : Int), RD B b P sv ev s Y → s.length ≤ 1048576 → okZ a → _) := fun Y s a hY h1 h2 => rNum_calls B b P sv ev s a Y hY h1 h2
  obtain ⟨V0, hV0⟩ : ∃ V0, V0 = (X.alloc (.cells #[.int .i64 0, .int .i64 0, .slice none 0 0] 30)).alloc (.cells #[.int .i64 0, .int .i64 0, .slice none 0 0] 30) := ⟨_, rfl⟩
  have HS : Hid (RAn B b P sv ev l X 0 0 (.slice none 0 0) V0) := by
    have b1 : Below X.heap.size X (X.alloc (.cells #[.int .i64 0, .int .i64 0, .slice none 0 0] 30)) := (Below.refl _ _).alloc (Nat.le_refl _) _
    obtain ⟨X1, hX1⟩ : ∃ X1, X1 = X.alloc (.cells #[.int .i64 0, .int .i64 0, .slice none 0 0] 30) := ⟨_, rfl⟩
    have s1 : X1.heap.size = X.heap.size + 1 := by rw [hX1]; simp
    have o1 : Three X1 X.heap.size (.int .i64 0) (.int .i64 0) (.slice none 0 0) := by rw [hX1]; exact heap_alloc_new X _
    rw [← hX1] at hV0 b1
    have b2 : Below X1.heap.size X1 V0 := by rw [hV0]; exact (Below.refl _ _).alloc (Nat.le_refl _) _
    have o2 : Three V0 (X.heap.size + 1) (.int .i64 0) (.int .i64 0) (.slice none 0 0) := by rw [hV0, ← s1]; exact heap_alloc_new X1 _
    have b3 := b1.trans (b2.mono b1.size)
    exact ⟨h.later b3, (b2.block _ o1.lt).trans o1, o2, Mv.of b3, h.box.cells.2.2.2, fun g hg => (World.ownsRow.lt h.own g hg).2, evE_lt h.er⟩
  have HL : Hid (l.length ≤ 1048576) := hl
  have HA : Hid (okZ a) := ha
  clear h hl ha
  go_enter Tryd.func61, Tryd.ntmps61
  go_wp2_with fail
  rw [← hV0]
  clear hV0
  cases hn : rCnt 6 l with
  | none =>
    have en : cntR 6 l = none := by unfold cntR; rw [hn]; rfl
    have eo : rAns a l = none := by unfold rAns; rw [hn]
    refine (CC.out _ l 6 HS.out.rd HL.out).mono ?_
    rintro e w1 hp
    rw [en] at hp
    obtain ⟨-, hq, mv⟩ := hp
    obtain ⟨rfl, l2, h2⟩ := hq rfl
    clear hn
    go_wp2
    exact ⟨rfl, by rw [eo]; exact postA_no h2 (HS.out.mv.trans mv)⟩
  | some q =>
  obtain ⟨c, s1⟩ := q
  have en : cntR 6 l = some (.int .i64 (c : Int), s1) := by unfold cntR; rw [hn]; rfl
  have N1 : Hid (rCnt 6 l = some (c, s1)) := hn
  have HL1 : Hid (s1.length ≤ 1048576) := Nat.le_trans (rCnt_len hn) HL.out
  clear hn
  refine (CC.out _ l 6 HS.out.rd HL.out).mono ?_
  rintro e w1 hp
  rw [en] at hp
  obtain ⟨hy, -, mv⟩ := hp
  obtain ⟨rfl, h2⟩ := hy _ _ rfl
  have HT : Hid (RAn B b P sv ev s1 X 0 0 (.slice none 0 0) w1) := HS.out.step h2 mv
  clear hy h2 mv en HS
  have q0 : w1.cell? ⟨X.heap.size + 1, 0, none⟩ = some (.int .i64 0) := HT.out.op.cell 0
  have q1 := HT.out.op.frozen 0
  have HS1 : Hid (RAn B b P sv ev s1 X (c : Int) 0 (.slice none 0 0) (w1.setCell ⟨X.heap.size + 1, 0, none⟩ (.int .i64 (c : Int)))) := HT.out.set 0 _ (HT.out.op.put0 _)
  clear HT
  obtain ⟨V1, hV⟩ : ∃ V, V = w1.setCell ⟨X.heap.size + 1, 0, none⟩ (.int .i64 (c : Int)) := ⟨_, rfl⟩
  rw [← hV] at HS1
  go_wp2_with fail
  rw [← hV]
  clear hV q0 q1
  cases hn : rNum a s1 with
  | none =>
    have en : numR a s1 = none := by unfold numR; rw [hn]; rfl
    have eo : rAns a l = none := by unfold rAns; rw [N1.out]; simp only; rw [hn]
    clear hn
    refine (CN.out _ s1 a HS1.out.rd HL1.out HA.out).mono ?_
    rintro e w2 hp
    rw [en] at hp
    obtain ⟨-, hq, mv⟩ := hp
    obtain ⟨rfl, l2, h2⟩ := hq rfl
    go_wp2
    exact ⟨rfl, by rw [eo]; exact postA_no h2 (HS1.out.mv.trans mv)⟩
  | some q =>
  obtain ⟨v, s2⟩ := q
  have en : numR a s1 = some (.int .i64 v, s2) := by unfold numR; rw [hn]; rfl
  have N2 : Hid (rNum a s1 = some (v, s2)) := hn
  have HL2 : Hid (s2.length ≤ 1048576) := Nat.le_trans (rNum_len hn) HL1.out
  clear hn
  refine (CN.out _ s1 a HS1.out.rd HL1.out HA.out).mono ?_
  rintro e w2 hp
  rw [en] at hp
  obtain ⟨hy, -, mv⟩ := hp
  obtain ⟨rfl, h2⟩ := hy _ _ rfl
  have HT : Hid (RAn B b P sv ev s2 X (c : Int) 0 (.slice none 0 0) w2) := HS1.out.step h2 mv
  clear hy h2 mv en HS1
  have q0 : w2.cell? ⟨X.heap.size + 1, 1, none⟩ = some (.int .i64 0) := HT.out.op.cell 1
  have q1 := HT.out.op.frozen 1
  have HS2 : Hid (RAn B b P sv ev s2 X (c : Int) v (.slice none 0 0) (w2.setCell ⟨X.heap.size + 1, 1, none⟩ (.int .i64 v))) := HT.out.set 1 _ (HT.out.op.put1 _)
  clear HT
  obtain ⟨V2, hV⟩ : ∃ V, V = w2.setCell ⟨X.heap.size + 1, 1, none⟩ (.int .i64 v) := ⟨_, rfl⟩
  rw [← hV] at HS2
  go_wp2_with fail
  rw [← hV]
  clear hV q0 q1
  cases hn : rCnt 8 s2 with
  | none =>
    have en : cntR 8 s2 = none := by unfold cntR; rw [hn]; rfl
    have eo : rAns a l = none := by unfold rAns; rw [N1.out]; simp only; rw [N2.out]; simp only; rw [hn]
    clear hn
    refine (CC.out _ s2 8 HS2.out.rd HL2.out).mono ?_
    rintro e w3 hp
    rw [en] at hp
    obtain ⟨-, hq, mv⟩ := hp
    obtain ⟨rfl, l2, h2⟩ := hq rfl
    go_wp2
    exact ⟨rfl, by rw [eo]; exact postA_no h2 (HS2.out.mv.trans mv)⟩
  | some q =>
  obtain ⟨m, s3⟩ := q
  have en : cntR 8 s2 = some (.int .i64 (m : Int), s3) := by unfold cntR; rw [hn]; rfl
  have N3 : Hid (rCnt 8 s2 = some (m, s3)) := hn
  have HL3 : Hid (s3.length ≤ 1048576) := Nat.le_trans (rCnt_len hn) HL2.out
  have hm8 : m ≤ 8 := (rCnt_sound hn).1
  clear hn
  refine (CC.out _ s2 8 HS2.out.rd HL2.out).mono ?_
  rintro e w3 hp
  rw [en] at hp
  obtain ⟨hy, -, mv⟩ := hp
  obtain ⟨rfl, h2⟩ := hy _ _ rfl
  have HS3 : Hid (RAn B b P sv ev s3 X (c : Int) v (.slice none 0 0) w3) := HS2.out.step h2 mv
  clear hy h2 mv en HS2
  have HEQ : Hid (rAns a l = (rInts m a s3).map fun p => (⟨(c : Int), v, p.1⟩, p.2)) := by
    unfold Hid rAns
    rw [N1.out]; simp only; rw [N2.out]; simp only; rw [N3.out]; simp only
    cases rInts m a s3 <;> rfl
  clear N1 N2 N3 HL HL1 HL2
  go_wp2
  go_loopw [1, 15] (fun h i wr => ∃ (j : Nat) (z : Int) (zs : List Int) (s : List UInt8) (y : Option Addr) (k : Nat), j ≤ m ∧ i = .int .i64 (j : Int) ∧ h = .int .i64 z ∧ Hid (zs.length = j) ∧ Hid (okZ z) ∧ Hid (s.length ≤ 1048576) ∧ Hid (rInts m a s3 = contI zs (rInts (m - j) z s)) ∧ Hid (RAn B b P sv ev s X (c : Int) v (.slice y zs.length k) wr) ∧ Hid (ownI wr (X.heap.size + 2) (.slice y zs.length k) zs)) (fun _ i _ => m - (intOf i).toNat)
  case atStart => exact ⟨0, a, [], s3, none, 0, Nat.zero_le _, rfl, rfl, rfl, HA, HL3, (contI_nil _).symm, HS3, ownI_nil _ _⟩
  case round =>
    clear HS3
    obtain ⟨j, z, zs, s, y, k, hj, rfl, rfl, HZL, HZ, HSL, HR, HN, HO⟩ := hrel
    by_cases hlt : j < m
    · have i1 : (j : Int) < (m : Int) := by omega
      have i0 : (0 : Int) ≤ (j : Int) := by omega
      have hmj : m - j = (m - (j + 1)) + 1 := by omega
      go_wp2_with fail
      cases hn : rNum z s with
      | none =>
        have en : numR z s = none := by unfold numR; rw [hn]; rfl
        have eo : rAns a l = none := by rw [HEQ.out, HR.out, hmj, rInts_no hn]; rfl
        clear hn
        refine (CN.out _ s z HN.out.rd HSL.out HZ.out).mono ?_
        rintro e w4 hp
        rw [en] at hp
        obtain ⟨-, hq, mv⟩ := hp
        obtain ⟨rfl, l2, h2⟩ := hq rfl
        go_wp2
        exact ⟨rfl, by rw [eo]; exact postA_no h2 (HN.out.mv.trans mv)⟩
      | some q =>
      obtain ⟨z2, s4⟩ := q
      have en : numR z s = some (.int .i64 z2, s4) := by unfold numR; rw [hn]; rfl
      have HSL4 : Hid (s4.length ≤ 1048576) := Nat.le_trans (rNum_len hn) HSL.out
      have HZ4 : Hid (okZ z2) := (rNum_sound hn).1
      have HR4 : Hid (rInts m a s3 = contI (zs ++ [z2]) (rInts (m - (j + 1)) z2 s4)) := by
        unfold Hid
        rw [HR.out, hmj, rInts_yes hn, contI_snoc]
      clear hn
      refine (CN.out _ s z HN.out.rd HSL.out HZ.out).mono ?_
      rintro e w4 hp
      rw [en] at hp
      obtain ⟨hy, -, mv⟩ := hp
      obtain ⟨rfl, h2⟩ := hy _ _ rfl
      have HN4 : Hid (RAn B b P sv ev s4 X (c : Int) v (.slice y zs.length k) w4) := HN.out.step h2 mv
      have hown : ownI w4 (X.heap.size + 2) (.slice y zs.length k) zs := ownI_mv HO.out HN.out.rd mv
      clear hy h2 mv en HN HO HR
      have c2 : w4.cell? ⟨X.heap.size + 1, 2, none⟩ = some (.slice y zs.length k) := HN4.out.op.cell 2
      have hszw : X.heap.size + 2 ≤ w4.heap.size := HN4.out.op.lt
      have hln : zs.length ≤ 8 := by have := HZL.out; omega
      go_wp2_with (at_builtin; go_loud (refine wpList_appendI rfl _ _ rfl (X.heap.size + 2) _ zs rfl (ownI_alloc _ hown) ⟨w4.heap.size, 0, none⟩ [z2] 1 1 rfl rfl ?hsrc ?hlen w4 ((Below.refl _ w4).alloc hszw _) hszw ?_))
      case hsrc => exact src_int _ _
      case hlen => simp; omega
      intro v6 w6 o6 b6
      obtain ⟨y6, k6, rfl, -⟩ := rdI_own o6
      have HN6 : Hid (RAn B b P sv ev s4 X (c : Int) v (.slice y zs.length k) w6) := HN4.out.app b6
      have HO6 : Hid (ownI w6 (X.heap.size + 2) (.slice y6 (zs ++ [z2]).length k6) (zs ++ [z2])) := o6
      have HZL7 : Hid ((zs ++ [z2]).length = j + 1) := by show _ = _; rw [List.length_append, HZL.out]; rfl
      clear c2 o6 b6 HN4 hown
      obtain ⟨N, hN⟩ : ∃ N, (zs ++ [z2]).length = N := ⟨_, rfl⟩
      rw [hN] at HO6 ⊢
      have HNN : Hid ((zs ++ [z2]).length = N) := hN
      clear hN
      have c2 : w6.cell? ⟨X.heap.size + 1, 2, none⟩ = some (.slice y zs.length k) := HN6.out.op.cell 2
      have f2 := HN6.out.op.frozen 2
      have HN7 : Hid (RAn B b P sv ev s4 X (c : Int) v (.slice y6 N k6) (w6.setCell ⟨X.heap.size + 1, 2, none⟩ (.slice y6 N k6))) := HN6.out.set 2 _ (HN6.out.op.put2 _)
      have HO7 : Hid (ownI (w6.setCell ⟨X.heap.size + 1, 2, none⟩ (.slice y6 N k6)) (X.heap.size + 2) (.slice y6 N k6) (zs ++ [z2])) := ownI_box HO6.out HN6.out.op (by decide)
      clear HN6 HO6
      go_wp2
      go_roundw
      case rel => exact ⟨j + 1, z2, zs ++ [z2], s4, y6, k6, by omega, by go_num, rfl, HZL7, HZ4, HSL4, HR4, by rw [HNN.out]; exact HN7, by rw [HNN.out]; exact HO7⟩
      case measure => simp [intOf]; omega
    · obtain rfl : j = m := by omega
      have eo : rAns a l = some (⟨(c : Int), v, zs⟩, s) := by
        rw [HEQ.out, HR.out, Nat.sub_self]
        simp [rInts, contI]
      have HF := HN.out.fin HO.out
      obtain ⟨U, hU⟩ : ∃ U, U = ((wr.setCell ⟨X.heap.size, 0, none⟩ (.int .i64 (c : Int))).setCell ⟨X.heap.size, 1, none⟩ (.int .i64 v)).setCell ⟨X.heap.size, 2, none⟩ (.slice y zs.length k) := ⟨_, rfl⟩
      rw [← hU] at HF
      have HF2 : Hid (PostA B b P sv ev (rAns a l) X (.returned (.agg #[.int .i64 (c : Int), .int .i64 v, .slice y zs.length k])) U) := by rw [eo]; exact postA_yes _ _ _ _ _ HF.1 HF.2.2 HF.2.1
      rw [hU] at HF2
      obtain ⟨p0, p1, p2⟩ : wr.cell? ⟨X.heap.size + 1, 0, none⟩ = some (.int .i64 (c : Int)) ∧ wr.cell? ⟨X.heap.size + 1, 1, none⟩ = some (.int .i64 v) ∧ wr.cell? ⟨X.heap.size + 1, 2, none⟩ = some (.slice y zs.length k) := ⟨HN.out.op.cell 0, HN.out.op.cell 1, HN.out.op.cell 2⟩
      obtain ⟨r0, r1, r2⟩ : wr.cell? ⟨X.heap.size, 0, none⟩ = some (.int .i64 0) ∧ wr.cell? ⟨X.heap.size, 1, none⟩ = some (.int .i64 0) ∧ wr.cell? ⟨X.heap.size, 2, none⟩ = some (.slice none 0 0) := ⟨HN.out.out.cell 0, HN.out.out.cell 1, HN.out.out.cell 2⟩
      have f0 := HN.out.out.frozen 0
      have f1 := HN.out.out.frozen 1
      have f2 := HN.out.out.frozen 2
      clear HF eo hU HN HO HZ HSL HEQ HR CC CN
      generalize zs.length = N at *
      go_wp2
      exact bodyPost_ret (v := .agg #[.int .i64 (c : Int), .int .i64 v, .slice y N k]) (by simp [results, Tryd.results61, go_sem, *]) rfl HF2.out

end Go.Proofs.YtcjpepdagnifiaaDoor

namespace Go.Proofs.YtcjpepdagnifiaaDoor
open Go.RowKit
set_option linter.unusedVariables false
set_option maxRecDepth 100000

theorem Mv.wide {b : Nat} {vo : Option Nat} {X Y : World} (h : Mv b none X Y) : Mv b vo X Y := ⟨h.os, h.tape, h.output, h.size, fun g hg hn _ => h.block g hg hn (by simp)⟩
theorem Mv.join {b : Nat} {vo : Option Nat} {X Y Z : World} (h : Mv b none X Y) (k : Mv b vo Y Z) : Mv b vo X Z :=
  ⟨k.os.trans h.os, k.tape.trans h.tape, k.output.trans h.output, Nat.le_trans h.size k.size, fun g hg hn hv => (k.block g (Nat.lt_of_lt_of_le hg h.size) hn hv).trans (h.block g hg hn (by simp))⟩
theorem txt_full (x : UInt8) (l : List UInt8) : (txt (x :: l)).toList.isEmpty = false := by
  unfold txt
  rw [ByteArray.toList_mk]
  rfl
theorem txt_empty : (txt []).toList.isEmpty = true := by
  unfold txt
  rw [ByteArray.toList_mk]
  rfl
theorem mv_kind {b : Nat} {vo : Option Nat} {X Y : World} {B n : Nat} {sv : Value} {xs : List Value} {c2 : Array Value} {g : Nat} {T : TypeId} (m : Mv b vo X Y) (o : X.ownsRow B 9 1 sv n xs) (hv : vo = sv.ownBlock) (h : X.heap[g]? = some (.cells c2 T (0, 0))) (hT : 9 ≠ T) (hb : g ≠ b) : Y.heap[g]? = X.heap[g]? :=
  m.block g (Array.getElem?_eq_some_iff.1 h).1 hb (fun e => by
    obtain ⟨cur, hk⟩ := row_kind o g (hv.symm.trans e)
    exact kind_ne hk h hT rfl)
/-- What reading an event leaves. -/
def PostV (B b : Nat) (P : PenD) (sv ev : Value) (r : Option (OpD × AnsD)) (X : World) (e : Ending) (Y : World) : Prop :=
  (∀ o A, r = some (o, A) → ∃ y k x c, e = .returned (.tuple #[opV o, .agg #[.int .i64 A.code, .int .i64 A.val, .slice y A.freed.length k]]) ∧ ownI Y X.heap.size (.slice y A.freed.length k) A.freed ∧ Box Y b 65 (.int .i64 o.a) (.slice x (penB P o).sites.length c) [.string (txt [])] ∧ ownS Y B (.slice x (penB P o).sites.length c) (penB P o).sites) ∧
  (r = none → e = .panicked (pan ev) ∧ ∃ l2, RD B b P sv ev l2 Y) ∧ Mv b sv.ownBlock X Y
theorem postV_no {B b : Nat} {P : PenD} {sv ev : Value} {l2 : List UInt8} {X Y : World} (h : RD B b P sv ev l2 Y) (k : Mv b none X Y) : PostV B b P sv ev none X (.panicked (pan ev)) Y :=
  ⟨fun _ _ h => (nomatch h), fun _ => ⟨rfl, _, h⟩, k.wide⟩

/-- What stands while an event is read. -/
structure REv (B b : Nat) (P : PenD) (sv ev : Value) (l : List UInt8) (X V : World) : Prop where
  rd : RD B b P sv ev l V
  oo : OB V X.heap.size 0 0 0 0 ⟨#[]⟩
  oa : Three V (X.heap.size + 1) (.int .i64 0) (.int .i64 0) (.slice none 0 0)
  mv : Mv b none X V
  lt : b < X.heap.size
theorem REv.step {B b : Nat} {P : PenD} {sv ev : Value} {l l' : List UInt8} {X V Y : World} (h : REv B b P sv ev l X V) (r : RD B b P sv ev l' Y) (m : Mv b none V Y) : REv B b P sv ev l' X Y := by
  have hlt := h.lt
  exact ⟨r, (m.block _ h.oo.lt (by omega) (by simp)).trans h.oo, (m.block _ h.oa.lt (by omega) (by simp)).trans h.oa, h.mv.trans m, h.lt⟩
theorem REv.start {B b : Nat} {P : PenD} {sv ev : Value} {l : List UInt8} {X V0 : World} (h : RD B b P sv ev l X) (hV0 : V0 = (X.alloc (.cells #[.int .i64 0, .int .i64 0, .int .i64 0, .int .i64 0, .string ⟨#[]⟩] 27)).alloc (.cells #[.int .i64 0, .int .i64 0, .slice none 0 0] 30)) : REv B b P sv ev l X V0 := by
  have b1 : Below X.heap.size X (X.alloc (.cells #[.int .i64 0, .int .i64 0, .int .i64 0, .int .i64 0, .string ⟨#[]⟩] 27)) := (Below.refl _ _).alloc (Nat.le_refl _) _
  obtain ⟨X1, hX1⟩ : ∃ X1, X1 = X.alloc (.cells #[.int .i64 0, .int .i64 0, .int .i64 0, .int .i64 0, .string ⟨#[]⟩] 27) := ⟨_, rfl⟩
  have s1 : X1.heap.size = X.heap.size + 1 := by rw [hX1]; simp
  have o1 : OB X1 X.heap.size 0 0 0 0 ⟨#[]⟩ := by rw [hX1]; exact heap_alloc_new X _
  rw [← hX1] at hV0 b1
  have b2 : Below X1.heap.size X1 V0 := by rw [hV0]; exact (Below.refl _ _).alloc (Nat.le_refl _) _
  have o2 : Three V0 (X.heap.size + 1) (.int .i64 0) (.int .i64 0) (.slice none 0 0) := by rw [hV0, ← s1]; exact heap_alloc_new X1 _
  have b3 := b1.trans (b2.mono b1.size)
  exact ⟨h.later b3, (b2.block _ o1.lt).trans o1, o2, Mv.of b3, h.box.cells.2.2.2⟩

/-- What stands when the reader has moved on. -/
structure RFin (B b : Nat) (P : PenD) (sv : Value) (X : World) (g1 g2 : Nat) (o : OpD) (A : AnsD) (ya : Option Addr) (ka : Nat) (Y : World) : Prop where
  op : OB Y g1 o.kind o.a o.b o.c (txt o.site)
  an : Three Y g2 (.int .i64 A.code) (.int .i64 A.val) (.slice ya A.freed.length ka)
  oo : OB Y X.heap.size 0 0 0 0 ⟨#[]⟩
  oa : Three Y (X.heap.size + 1) (.int .i64 0) (.int .i64 0) (.slice none 0 0)
  fr : ownI Y X.heap.size (.slice ya A.freed.length ka) A.freed
  pen : ∃ x c, Box Y b 65 (.int .i64 o.a) (.slice x (penB P o).sites.length c) [.string (txt [])] ∧ ownS Y B (.slice x (penB P o).sites.length c) (penB P o).sites
  mv : Mv b sv.ownBlock X Y
theorem RFin.later {B b : Nat} {P : PenD} {sv : Value} {X : World} {g1 g2 : Nat} {o : OpD} {A : AnsD} {ya : Option Addr} {ka : Nat} {Y Z : World} (h : RFin B b P sv X g1 g2 o A ya ka Y) (k : Below Y.heap.size Y Z) : RFin B b P sv X g1 g2 o A ya ka Z := by
  obtain ⟨x, c, h1, h2⟩ := h.pen
  exact ⟨(k.block _ h.op.lt).trans h.op, h.an.later k, (k.block _ h.oo.lt).trans h.oo, h.oa.later k, row_later h.fr k, ⟨x, c, h1.later k, row_later h2 k⟩, ⟨k.os.trans h.mv.os, k.tape.trans h.mv.tape, k.output.trans h.mv.output, Nat.le_trans h.mv.size k.size, fun g hg hn hv => (k.block g (Nat.lt_of_lt_of_le hg h.mv.size)).trans (h.mv.block g hg hn hv)⟩⟩
theorem PostV.drew {B b : Nat} {P : PenD} {sv ev : Value} {r : Option (OpD × AnsD)} {X Y : World} {e : Ending} (h : PostV B b P sv ev r X e Y) : PostV B b P sv ev r X e Y.drew := by
  have k : Below Y.heap.size Y Y.drew := (Below.refl _ _).drew
  refine ⟨fun o A e => ?_, fun e => ?_, ?_⟩
  · obtain ⟨y, k2, x, c, h1, h2, h3, h4⟩ := h.1 o A e
    exact ⟨y, k2, x, c, h1, row_later h2 k, h3.later k, row_later h4 k⟩
  · obtain ⟨h1, l2, h2⟩ := h.2.1 e
    exact ⟨h1, l2, h2.later k⟩
  · exact ⟨k.os.trans h.2.2.os, k.tape.trans h.2.2.tape, k.output.trans h.2.2.output, Nat.le_trans h.2.2.size k.size, fun g hg hn hv => (k.block g (Nat.lt_of_lt_of_le hg h.2.2.size)).trans (h.2.2.block g hg hn hv)⟩
def put5 (Y : World) (g : Nat) (k a b c : Int) (t : ByteArray) : World := ((((Y.setCell ⟨g, 0, none⟩ (.int .i64 k)).setCell ⟨g, 1, none⟩ (.int .i64 a)).setCell ⟨g, 2, none⟩ (.int .i64 b)).setCell ⟨g, 3, none⟩ (.int .i64 c)).setCell ⟨g, 4, none⟩ (.string t)
def put3 (Y : World) (g : Nat) (c v : Int) (y : Value) : World := ((Y.setCell ⟨g, 0, none⟩ (.int .i64 c)).setCell ⟨g, 1, none⟩ (.int .i64 v)).setCell ⟨g, 2, none⟩ y
theorem put5_far (Y : World) {g h : Nat} (k a b c : Int) (t : ByteArray) (hne : h ≠ g) : (put5 Y g k a b c t).heap[h]? = Y.heap[h]? := by
  unfold put5
  rw [Below.heap_setCell _ _ _ _ (by exact hne), Below.heap_setCell _ _ _ _ (by exact hne), Below.heap_setCell _ _ _ _ (by exact hne), Below.heap_setCell _ _ _ _ (by exact hne), Below.heap_setCell _ _ _ _ (by exact hne)]
theorem put3_far (Y : World) {g h : Nat} (c v : Int) (y : Value) (hne : h ≠ g) : (put3 Y g c v y).heap[h]? = Y.heap[h]? := by
  unfold put3
  rw [Below.heap_setCell _ _ _ _ (by exact hne), Below.heap_setCell _ _ _ _ (by exact hne), Below.heap_setCell _ _ _ _ (by exact hne)]
theorem put5_io (Y : World) (g : Nat) (k a b c : Int) (t : ByteArray) : (put5 Y g k a b c t).os = Y.os ∧ (put5 Y g k a b c t).tape = Y.tape ∧ (put5 Y g k a b c t).output = Y.output ∧ (put5 Y g k a b c t).heap.size = Y.heap.size := by
  unfold put5
  refine ⟨?_, ?_, ?_, ?_⟩ <;> simp [World.setCell]
theorem put3_io (Y : World) (g : Nat) (c v : Int) (y : Value) : (put3 Y g c v y).os = Y.os ∧ (put3 Y g c v y).tape = Y.tape ∧ (put3 Y g c v y).output = Y.output ∧ (put3 Y g c v y).heap.size = Y.heap.size := by
  unfold put3
  refine ⟨?_, ?_, ?_, ?_⟩ <;> simp [World.setCell]
/-- What the two boxes hold. -/
def C8 (g1 g2 : Nat) (k a b c : Int) (t : ByteArray) (ac av : Int) (y : Value) (Z : World) : Prop :=
  (Z.cell? ⟨g1, 0, none⟩ = some (.int .i64 k) ∧ Z.cell? ⟨g1, 1, none⟩ = some (.int .i64 a) ∧ Z.cell? ⟨g1, 2, none⟩ = some (.int .i64 b) ∧ Z.cell? ⟨g1, 3, none⟩ = some (.int .i64 c) ∧ Z.cell? ⟨g1, 4, none⟩ = some (.string t)) ∧
  Z.cell? ⟨g2, 0, none⟩ = some (.int .i64 ac) ∧ Z.cell? ⟨g2, 1, none⟩ = some (.int .i64 av) ∧ Z.cell? ⟨g2, 2, none⟩ = some y
theorem C8.drew {g1 g2 : Nat} {k a b c : Int} {t : ByteArray} {ac av : Int} {y : Value} {Z : World} (h : C8 g1 g2 k a b c t ac av y Z) : C8 g1 g2 k a b c t ac av y Z.drew := h
theorem c8_of {g1 g2 : Nat} {k a b c : Int} {t : ByteArray} {ac av : Int} {y : Value} {Z : World} (h1 : OB Z g1 k a b c t) (h2 : Three Z g2 (.int .i64 ac) (.int .i64 av) y) : C8 g1 g2 k a b c t ac av y Z := ⟨h1.cells, h2.cell 0, h2.cell 1, h2.cell 2⟩
theorem RFin.cells8 {B b : Nat} {P : PenD} {sv : Value} {X : World} {g1 g2 : Nat} {o : OpD} {A : AnsD} {ya : Option Addr} {ka : Nat} {Y : World} (h : RFin B b P sv X g1 g2 o A ya ka Y) : C8 g1 g2 o.kind o.a o.b o.c (txt o.site) A.code A.val (.slice ya A.freed.length ka) Y := c8_of h.op h.an
theorem RFin.cells8_put5 {B b : Nat} {P : PenD} {sv : Value} {X : World} {g1 g2 : Nat} {o : OpD} {A : AnsD} {ya : Option Addr} {ka : Nat} {Y : World} (h : RFin B b P sv X g1 g2 o A ya ka Y) (h1 : g1 ≠ X.heap.size) (h3 : g2 ≠ X.heap.size) : C8 g1 g2 o.kind o.a o.b o.c (txt o.site) A.code A.val (.slice ya A.freed.length ka) (put5 Y X.heap.size o.kind o.a o.b o.c (txt o.site)) :=
  c8_of ((put5_far _ _ _ _ _ _ h1).trans h.op) ((put5_far _ _ _ _ _ _ h3).trans h.an)
theorem RFin.cells8_put3 {B b : Nat} {P : PenD} {sv : Value} {X : World} {g1 g2 : Nat} {o : OpD} {A : AnsD} {ya : Option Addr} {ka : Nat} {Y : World} (h : RFin B b P sv X g1 g2 o A ya ka Y) (h1 : g1 ≠ X.heap.size) (h2 : g1 ≠ X.heap.size + 1) (h3 : g2 ≠ X.heap.size) (h4 : g2 ≠ X.heap.size + 1) : C8 g1 g2 o.kind o.a o.b o.c (txt o.site) A.code A.val (.slice ya A.freed.length ka) (put3 (put5 Y X.heap.size o.kind o.a o.b o.c (txt o.site)) (X.heap.size + 1) A.code A.val (.slice ya A.freed.length ka)) :=
  c8_of ((put3_far _ _ _ _ h2).trans ((put5_far _ _ _ _ _ _ h1).trans h.op)) ((put3_far _ _ _ _ h4).trans ((put5_far _ _ _ _ _ _ h3).trans h.an))
theorem RFin.fin {B b : Nat} {P : PenD} {sv ev : Value} {X : World} {g1 g2 : Nat} {o : OpD} {A : AnsD} {ya : Option Addr} {ka : Nat} {Y : World} (h : RFin B b P sv X g1 g2 o A ya ka Y) (hb : b < X.heap.size) :
    PostV B b P sv ev (some (o, A)) X (.returned (.tuple #[opV o, .agg #[.int .i64 A.code, .int .i64 A.val, .slice ya A.freed.length ka]])) (put3 (put5 Y X.heap.size o.kind o.a o.b o.c (txt o.site)) (X.heap.size + 1) A.code A.val (.slice ya A.freed.length ka)) := by
  have far : ∀ g, g ≠ X.heap.size → g ≠ X.heap.size + 1 → (put3 (put5 Y X.heap.size o.kind o.a o.b o.c (txt o.site)) (X.heap.size + 1) A.code A.val (.slice ya A.freed.length ka)).heap[g]? = Y.heap[g]? := fun g h1 h2 => (put3_far _ _ _ _ h2).trans (put5_far _ _ _ _ _ _ h1)
  obtain ⟨x, c, h1, h2⟩ := h.pen
  refine ⟨fun o2 A2 e => ?_, fun e => (nomatch e), ?_⟩
  · obtain ⟨rfl, rfl⟩ := Prod.mk.injEq _ _ _ _ ▸ Option.some.inj e
    refine ⟨ya, ka, x, c, rfl, row_same h.fr (fun g hg => ?_), (far b (by omega) (by omega)).trans h1, row_same h2 (fun g hg => ?_)⟩
    · obtain ⟨cur, hk⟩ := row_kind h.fr g hg
      exact far g (kind_ne hk h.oo (by decide)) (kind_ne hk h.oa (by decide))
    · obtain ⟨cur, hk⟩ := row_kind h2 g hg
      exact far g (kind_ne hk h.oo (by decide)) (kind_ne hk h.oa (by decide))
  · have i5 := put5_io Y X.heap.size o.kind o.a o.b o.c (txt o.site)
    have i3 := put3_io (put5 Y X.heap.size o.kind o.a o.b o.c (txt o.site)) (X.heap.size + 1) A.code A.val (.slice ya A.freed.length ka)
    exact ⟨i3.1.trans (i5.1.trans h.mv.os), i3.2.1.trans (i5.2.1.trans h.mv.tape), i3.2.2.1.trans (i5.2.2.1.trans h.mv.output), by rw [i3.2.2.2, i5.2.2.2]; exact h.mv.size, fun g hg hn hv => (far g (by omega) (by omega)).trans (h.mv.block g hg hn hv)⟩

set_option maxHeartbeats 1200000 in
theorem rEv_calls (B b : Nat) (P : PenD) (sv ev : Value) (l : List UInt8) (X : World) (h : RD B b P sv ev l X) (hl : l.length ≤ 1048576) (hs : SmallP P) (hB : B ≤ b) (r : Option (OpD × AnsD)) (hr1 : PenR P → r = rEv P l) (hr2 : ¬ PenR P → r = none) :
    Calls Tryd.prog 33 #[.pointer (some ⟨b, 0, none⟩)] X fun e Y => PostV B b P sv ev r X e Y := by
  obtain ⟨V0, hV0⟩ : ∃ V0, V0 = (X.alloc (.cells #[.int .i64 0, .int .i64 0, .int .i64 0, .int .i64 0, .string ⟨#[]⟩] 27)).alloc (.cells #[.int .i64 0, .int .i64 0, .slice none 0 0] 30) := ⟨_, rfl⟩
  have HS : Hid (REv B b P sv ev l X V0) := REv.start h hV0
  by_cases hP : PenR P
  · have hr := hr1 hP
    have CR : Hid (∀ _ : Unit, _) := fun (_ : Unit) => right_calls b P sv V0 HS.out.rd.pen hs true (by simp [hP])
    have CM : Hid (∀ Y : World, _) := fun Y => must_yes Y
    have CMn : Hid (∀ Y : World, EvE Y ev → _) := fun Y hY => must_no Y ev hY
    have CO : Hid (∀ _ : Unit, _) := fun (_ : Unit) => rOp_calls B b P sv ev l V0 HS.out.rd hl hs hP.1
    have CA : Hid (∀ (Y : World) (s : List UInt8) (a : Int), RD B b P sv ev s Y → s.length ≤ 1048576 → okZ a → _) := fun Y s a hY h1 h2 => rAns_calls B b P sv ev s a Y hY h1 h2
    have HPR : Hid (PenR P) := hP
    have HR : Hid (r = rEv P l) := hr
    have HL : Hid (l.length ≤ 1048576) := hl
    have HSM : Hid (SmallP P) := hs
    clear h hr1 hr2 hP hr hl hs
    go_enter Tryd.func33, Tryd.ntmps33
    go_wp2_with fail
    rw [← hV0]
    clear hV0
    refine (CR.out ()).mono ?_
    rintro e w1 ⟨rfl, hw⟩
    subst hw
    go_wp2_with fail
    refine (CM.out _).mono ?_
    rintro e w1 ⟨rfl, hw⟩
    subst hw
    go_wp2_with fail
    cases hn : rOp P.last P.sites l with
    | none =>
      have en : opR P l = none := by unfold opR; rw [hn]; rfl
      have eo : r = none := by rw [HR.out]; unfold rEv; rw [hn]
      clear hn
      refine (CO.out ()).mono ?_
      rintro e w2 hp
      rw [en] at hp
      obtain ⟨-, hq, mv⟩ := hp
      obtain ⟨rfl, l2, h2⟩ := hq rfl
      have HF : Hid (PostV B b P sv ev r X (.panicked (pan ev)) w2) := by rw [eo]; exact postV_no h2 (HS.out.mv.trans mv)
      clear h2 mv hq
      go_wp2
      exact ⟨rfl, HF.out⟩
    | some q =>
    obtain ⟨o, s1⟩ := q
    have en : opR P l = some (opV o, s1) := by unfold opR; rw [hn]; rfl
    have N1 : Hid (rOp P.last P.sites l = some (o, s1)) := hn
    obtain ⟨hso, hsl⟩ := rOp_sound HPR.out.2 hn
    have HSO : Hid (SpeakO o) := hso
    have HL1 : Hid (s1.length ≤ 1048576) := by
      have h1 := HL.out
      rw [hsl, List.length_append] at h1
      exact Nat.le_trans (Nat.le_add_left _ _) h1
    clear hn hso hsl
    refine (CO.out ()).mono ?_
    rintro e w2 hp
    rw [en] at hp
    obtain ⟨hy, -, mv⟩ := hp
    obtain ⟨rfl, h2⟩ := hy _ _ rfl
    have HS2 : Hid (REv B b P sv ev s1 X w2) := HS.out.step h2 mv
    clear hy h2 mv en HS CO CR
    obtain ⟨ok, oa, ob, oc, os⟩ := o
    have hopv : opV ⟨ok, oa, ob, oc, os⟩ = .agg #[.int .i64 ok, .int .i64 oa, .int .i64 ob, .int .i64 oc, .string (txt os)] := rfl
    rw [hopv]
    obtain ⟨V2, hV2⟩ : ∃ V2, V2 = w2.alloc (.cells #[.int .i64 ok, .int .i64 oa, .int .i64 ob, .int .i64 oc, .string (txt os)] 27) := ⟨_, rfl⟩
    have bV2 : Below w2.heap.size w2 V2 := by rw [hV2]; exact (Below.refl _ _).alloc (Nat.le_refl _) _
    have HB2 : Hid (OB V2 w2.heap.size ok oa ob oc (txt os)) := by rw [hV2]; exact heap_alloc_new w2 _
    have HS2' : Hid (REv B b P sv ev s1 X V2) := HS2.out.step (HS2.out.rd.later bV2) (Mv.of bV2)
    have hw2X : X.heap.size + 1 < w2.heap.size := HS2.out.oa.lt
    clear bV2 HS2
    have HS2 := HS2'
    clear HS2'
    go_wp2_with fail
    rw [← hV2]
    clear hV2
    cases hn : rAns oa s1 with
    | none =>
      have eo : r = none := by rw [HR.out]; unfold rEv; rw [N1.out]; simp only; rw [hn]
      refine (CA.out _ s1 oa HS2.out.rd HL1.out HSO.out.2.1).mono ?_
      rintro e w3 hp
      rw [hn] at hp
      obtain ⟨-, hq, mv⟩ := hp
      obtain ⟨rfl, l2, h2⟩ := hq rfl
      have HF : Hid (PostV B b P sv ev r X (.panicked (pan ev)) w3) := by rw [eo]; exact postV_no h2 (HS2.out.mv.trans mv)
      clear h2 mv hq hn
      go_wp2
      exact ⟨rfl, HF.out⟩
    | some q =>
    obtain ⟨A, s2⟩ := q
    refine (CA.out _ s1 oa HS2.out.rd HL1.out HSO.out.2.1).mono ?_
    rintro e w3 hp
    rw [hn] at hp
    obtain ⟨hy, -, mv⟩ := hp
    obtain ⟨ya, ka, rfl, hO, h2⟩ := hy _ _ rfl
    have HS3 : Hid (REv B b P sv ev s2 X w3) := HS2.out.step h2 mv
    have hb2 : w2.heap.size ≠ b := by have := HS2.out.lt; omega
    have HB3 : Hid (OB w3 w2.heap.size ok oa ob oc (txt os)) := (mv.block _ HB2.out.lt hb2 (by simp)).trans HB2.out
    have HO3 : Hid (ownI w3 X.heap.size (.slice ya A.freed.length ka) A.freed) := ownI_mono hO (by have := HS2.out.mv.size; omega)
    clear HB2 hb2
    have N2 : Hid (rAns oa s1 = some (A, s2)) := hn
    clear hy h2 mv hn hO HS2 CA
    obtain ⟨V3, hV3⟩ : ∃ V3, V3 = w3.alloc (.cells #[.int .i64 A.code, .int .i64 A.val, .slice ya A.freed.length ka] 30) := ⟨_, rfl⟩
    have bV3 : Below w3.heap.size w3 V3 := by rw [hV3]; exact (Below.refl _ _).alloc (Nat.le_refl _) _
    have HA4 : Hid (Three V3 w3.heap.size (.int .i64 A.code) (.int .i64 A.val) (.slice ya A.freed.length ka)) := by rw [hV3]; exact heap_alloc_new w3 _
    have HB4 : Hid (OB V3 w2.heap.size ok oa ob oc (txt os)) := (bV3.block _ HB3.out.lt).trans HB3.out
    have HO4 : Hid (ownI V3 X.heap.size (.slice ya A.freed.length ka) A.freed) := row_later HO3.out bV3
    have HS4 : Hid (REv B b P sv ev s2 X V3) := HS3.out.step (HS3.out.rd.later bV3) (Mv.of bV3)
    have hw3 : w2.heap.size < w3.heap.size := HB3.out.lt
    have c2 : V3.cell? ⟨b, 2, none⟩ = some (.string (txt s2)) := HS4.out.rd.box.cell2
    rw [hV3] at c2
    clear bV3 HB3 HO3 HS3
    cases s2 with
    | cons x s3 =>
      have eo : r = none := by rw [HR.out]; unfold rEv; rw [N1.out]; simp only; rw [N2.out]
      have HF : Hid (PostV B b P sv ev r X (.panicked (pan ev)) V3) := by rw [eo]; exact postV_no HS4.out.rd HS4.out.mv
      have HE : Hid (EvE V3 ev) := HS4.out.rd.er
      have hne : (txt (x :: s3)).toList.isEmpty = false := txt_full x s3
      clear HS4 HO4 HB4 HA4 N1 N2 HR
      generalize txt (x :: s3) = tt at *
      go_wp2_with fail
      rw [← hV3]
      clear hV3 c2
      refine (CMn.out _ HE.out).mono ?_
      rintro e w5 ⟨rfl, hw⟩
      subst hw
      go_wp2
      exact ⟨rfl, HF.out⟩
    | nil =>
      have hem : (txt []).toList.isEmpty = true := txt_empty
      go_wp2_with fail
      rw [← hV3]
      clear hV3 c2
      refine (CM.out _).mono ?_
      rintro e w5 ⟨rfl, hw⟩
      subst hw
      have eo : r = some (⟨ok, oa, ob, oc, os⟩, A) := by rw [HR.out]; unfold rEv; rw [N1.out]; simp only; rw [N2.out]
      have bD : Below w5.heap.size w5 w5.drew := (Below.refl _ _).drew
      have HS5 : Hid (REv B b P sv ev [] X w5.drew) := HS4.out.step (HS4.out.rd.later bD) (Mv.of bD)
      have HB5 : Hid (OB w5.drew w2.heap.size ok oa ob oc (txt os)) := (bD.block _ HB4.out.lt).trans HB4.out
      have HA5 : Hid (Three w5.drew w3.heap.size (.int .i64 A.code) (.int .i64 A.val) (.slice ya A.freed.length ka)) := HA4.out.later bD
      have HO5 : Hid (ownI w5.drew X.heap.size (.slice ya A.freed.length ka) A.freed) := row_later HO4.out bD
      obtain ⟨sa, sc, hsv, -⟩ := rdS_own HS5.out.rd.own
      have CV : Hid (∀ _ : Unit, _) := fun (_ : Unit) => moveOn_calls b 65 (by decide) [.string (txt [])] P sa sc ⟨ok, oa, ob, oc, os⟩ B w5.drew (hsv ▸ HS5.out.rd.box) (hsv ▸ HS5.out.rd.own) HSM.out (by have := HSO.out.2.2.2.2; simp only at this ⊢; omega) (by have := HS5.out.rd.box.cells.2.2.2; omega) hB
      have hlt5 := HS5.out.lt
      have hsz5 := HS5.out.mv.size
      have CV2 : Hid (∀ _ : Unit, Calls Tryd.prog 62 #[.pointer (some ⟨b, 0, none⟩), .agg #[.int .i64 ok, .int .i64 oa, .int .i64 ob, .int .i64 oc, .string (txt os)]] w5.drew fun e Y => e = .returned (.tuple #[]) ∧ RFin B b P sv X w2.heap.size w3.heap.size ⟨ok, oa, ob, oc, os⟩ A ya ka Y) := fun _ => by
        rw [← hopv]
        refine (CV.out ()).mono ?_
        rintro e Y ⟨rfl, xa, xc, hbx, hox, hmv⟩
        have hvo : (Value.slice sa P.sites.length sc).ownBlock = sv.ownBlock := by rw [hsv]
        have hown := HS5.out.rd.own
        refine ⟨rfl, (mv_kind hmv hown hvo HB5.out (by decide) (by omega)).trans HB5.out, (mv_kind hmv hown hvo HA5.out (by decide) (by omega)).trans HA5.out, (mv_kind hmv hown hvo HS5.out.oo (by decide) (by omega)).trans HS5.out.oo, (mv_kind hmv hown hvo HS5.out.oa (by decide) (by omega)).trans HS5.out.oa, ?_, ⟨xa, xc, hbx, hox⟩, ?_⟩
        · exact row_same HO5.out (fun g hg => by
            obtain ⟨cur, hk⟩ := row_kind HO5.out g hg
            exact mv_kind hmv hown hvo hk (by decide) (kind_ne hk HS5.out.rd.box (by decide)))
        · rw [← hvo]
          exact HS5.out.mv.join hmv
      have HEO : Hid (r = some (⟨ok, oa, ob, oc, os⟩, A)) := eo
      clear hem HS4 HB4 HA4 HO4 bD N1 N2 HR hsv eo CM CMn CV HS5 HA5 HO5
      obtain ⟨p0, p1, p2, p3, p4⟩ := HB5.out.cells
      go_wp2_with fail
      go_region_held (fun Z => Z.cell? ⟨w2.heap.size, 0, none⟩ = some (.int .i64 ok) ∧ Z.cell? ⟨w2.heap.size, 1, none⟩ = some (.int .i64 oa) ∧ Z.cell? ⟨w2.heap.size, 2, none⟩ = some (.int .i64 ob) ∧ Z.cell? ⟨w2.heap.size, 3, none⟩ = some (.int .i64 oc) ∧ Z.cell? ⟨w2.heap.size, 4, none⟩ = some (.string (txt os))) (first | exact hF.op.cells | exact HB5.out.cells)
        (first | (go_at_call 62; refine (CV2.out ()).mono ?_; rintro e Y ⟨rfl, hF⟩))
      all_goals
        have HF : Hid (RFin B b P sv X w2.heap.size w3.heap.size ⟨ok, oa, ob, oc, os⟩ A ya ka Y.drew) := hF.later (Below.refl _ _).drew
        have HFIN : Hid (PostV B b P sv ev r X (.returned (.tuple #[.agg #[.int .i64 ok, .int .i64 oa, .int .i64 ob, .int .i64 oc, .string (txt os)], .agg #[.int .i64 A.code, .int .i64 A.val, .slice ya A.freed.length ka]])) (put3 (put5 Y X.heap.size ok oa ob oc (txt os)) (X.heap.size + 1) A.code A.val (.slice ya A.freed.length ka)).drew) := by rw [HEO.out]; exact (hF.fin (by omega)).drew
        have hg1 : w2.heap.size ≠ X.heap.size := by have := HF.out.op.lt; omega
        have hg2 : w2.heap.size ≠ X.heap.size + 1 := by omega
        have hg3 : w3.heap.size ≠ X.heap.size := by omega
        have hg4 : w3.heap.size ≠ X.heap.size + 1 := by omega
        have HC : Hid _ := hF.cells8
        have HCD : Hid _ := HF.out.cells8
        have HC5 : Hid _ := (hF.cells8_put5 hg1 hg3).drew
        have HC3 : Hid _ := (hF.cells8_put3 hg1 hg2 hg3 hg4).drew
        unfold put3 put5 at HFIN
        unfold C8 put5 at HC5
        unfold C8 put3 put5 at HC3
        unfold C8 at HC HCD
        simp only at HC HCD HC5 HC3
        have HF0 : Hid (RFin B b P sv X w2.heap.size w3.heap.size ⟨ok, oa, ob, oc, os⟩ A ya ka Y) := hF
        clear hF p0 p1 p2 p3 p4 HB5 CV2
        obtain ⟨⟨p0, p1, p2, p3, p4⟩, a0, a1, a2⟩ := HCD.out
        obtain ⟨r0, r1, r2, r3, r4⟩ := HF.out.oo.cells
        obtain ⟨t0, t1, t2⟩ : Y.drew.cell? ⟨X.heap.size + 1, 0, none⟩ = some (.int .i64 0) ∧ Y.drew.cell? ⟨X.heap.size + 1, 1, none⟩ = some (.int .i64 0) ∧ Y.drew.cell? ⟨X.heap.size + 1, 2, none⟩ = some (.slice none 0 0) := ⟨HF.out.oa.cell 0, HF.out.oa.cell 1, HF.out.oa.cell 2⟩
        have f0 := HF.out.oo.fr 0
        have f1 := HF.out.oo.fr 1
        have f2 := HF.out.oo.fr 2
        have f3 := HF.out.oo.fr 3
        have f4 := HF.out.oo.fr 4
        have u0 := HF.out.oa.frozen 0
        have u1 := HF.out.oa.frozen 1
        have u2 := HF.out.oa.frozen 2
        obtain ⟨r0', r1', r2', r3', r4'⟩ := HF0.out.oo.cells
        obtain ⟨t0', t1', t2'⟩ : Y.cell? ⟨X.heap.size + 1, 0, none⟩ = some (.int .i64 0) ∧ Y.cell? ⟨X.heap.size + 1, 1, none⟩ = some (.int .i64 0) ∧ Y.cell? ⟨X.heap.size + 1, 2, none⟩ = some (.slice none 0 0) := ⟨HF0.out.oa.cell 0, HF0.out.oa.cell 1, HF0.out.oa.cell 2⟩
        have f0' := HF0.out.oo.fr 0
        have f1' := HF0.out.oo.fr 1
        have f2' := HF0.out.oo.fr 2
        have f3' := HF0.out.oo.fr 3
        have f4' := HF0.out.oo.fr 4
        have u0' := HF0.out.oa.frozen 0
        have u1' := HF0.out.oa.frozen 1
        have u2' := HF0.out.oa.frozen 2
        go_wp2_with fail
        go_region_held (fun Z => (Z.cell? ⟨w2.heap.size, 0, none⟩ = some (.int .i64 ok) ∧ Z.cell? ⟨w2.heap.size, 1, none⟩ = some (.int .i64 oa) ∧ Z.cell? ⟨w2.heap.size, 2, none⟩ = some (.int .i64 ob) ∧ Z.cell? ⟨w2.heap.size, 3, none⟩ = some (.int .i64 oc) ∧ Z.cell? ⟨w2.heap.size, 4, none⟩ = some (.string (txt os))) ∧ Z.cell? ⟨w3.heap.size, 0, none⟩ = some (.int .i64 A.code) ∧ Z.cell? ⟨w3.heap.size, 1, none⟩ = some (.int .i64 A.val) ∧ Z.cell? ⟨w3.heap.size, 2, none⟩ = some (.slice ya A.freed.length ka)) (first | with_reducible exact HCD.out | with_reducible exact HC5.out | with_reducible exact HC3.out | with_reducible exact HC.out) (fail)
      all_goals
        clear HC HCD HC5 HC3 HF0 HF HEO HSO HSM HPR HL HL1 p0 p1 p2 p3 p4 a0 a1 a2 r0 r1 r2 r3 r4 t0 t1 t2 f0 f1 f2 f3 f4 u0 u1 u2
        generalize txt os = tt at *
        go_wp2
        exact bodyPost_ret (v := .tuple #[.agg #[.int .i64 ok, .int .i64 oa, .int .i64 ob, .int .i64 oc, .string tt], .agg #[.int .i64 A.code, .int .i64 A.val, .slice ya A.freed.length ka]]) (by simp [results, Tryd.results33, go_sem, *]) rfl HFIN.out
  · have hr := hr2 hP
    have CR : Hid (∀ _ : Unit, _) := fun (_ : Unit) => right_calls b P sv V0 HS.out.rd.pen hs false (by simp [hP])
    have CM : Hid (∀ _ : Unit, _) := fun (_ : Unit) => must_no V0 ev HS.out.rd.er
    have HF : Hid (PostV B b P sv ev r X (.panicked (pan ev)) V0) := by rw [hr]; exact postV_no HS.out.rd HS.out.mv
    clear h hr hr1 hr2 hs hP HS
    go_enter Tryd.func33, Tryd.ntmps33
    go_wp2_with fail
    rw [← hV0]
    clear hV0
    refine (CR.out ()).mono ?_
    rintro e w1 ⟨rfl, hw⟩
    subst hw
    go_wp2_with fail
    refine (CM.out ()).mono ?_
    rintro e w1 ⟨rfl, hw⟩
    subst hw
    go_wp2
    exact ⟨rfl, HF.out⟩

end Go.Proofs.YtcjpepdagnifiaaDoor

namespace Go.Proofs.YtcjpepdagnifiaaDoor
open Go.RowKit
set_option linter.unusedVariables false
set_option maxRecDepth 100000

/-- What it leaves. -/
def PostC (B b go ga : Nat) (P : PenD) (sv ev : Value) (r : Option (OpD × AnsD)) (X : World) (e : Ending) (Y : World) : Prop :=
  (∀ o A, r = some (o, A) → e = .returned (.tuple #[]) ∧ ∃ y k x c, OB Y go o.kind o.a o.b o.c (txt o.site) ∧ Three Y ga (.int .i64 A.code) (.int .i64 A.val) (.slice y A.freed.length k) ∧ ownI Y X.heap.size (.slice y A.freed.length k) A.freed ∧ Box Y b 65 (.int .i64 o.a) (.slice x (penB P o).sites.length c) [.string (txt [])] ∧ ownS Y B (.slice x (penB P o).sites.length c) (penB P o).sites) ∧
  (r = none → e = .panicked (pan ev) ∧ OB Y go 0 0 0 0 ⟨#[]⟩ ∧ Three Y ga (.int .i64 0) (.int .i64 0) (.slice none 0 0) ∧ ∃ l2, RD B b P sv ev l2 Y) ∧
  (Y.os = X.os ∧ Y.tape = X.tape ∧ Y.output = X.output ∧ X.heap.size ≤ Y.heap.size ∧ ∀ g, g < X.heap.size → g ≠ b → g ≠ go → g ≠ ga → sv.ownBlock ≠ some g → Y.heap[g]? = X.heap[g]?)

set_option maxHeartbeats 2000000 in
theorem rCl_calls (B b go ga : Nat) (P : PenD) (sv ev : Value) (l : List UInt8) (X : World) (h : RD B b P sv ev l X) (hl : l.length ≤ 1048576) (hs : SmallP P) (hB : B ≤ b) (r : Option (OpD × AnsD)) (hr1 : PenR P → r = rEv P l) (hr2 : ¬ PenR P → r = none)
    (ho : OB X go 0 0 0 0 ⟨#[]⟩) (ha : Three X ga (.int .i64 0) (.int .i64 0) (.slice none 0 0)) (hob : go ≠ b) (hab : ga ≠ b) :
    Calls Tryd.prog 32 #[.pointer (some ⟨b, 0, none⟩), .pointer (some ⟨go, 0, none⟩), .pointer (some ⟨ga, 0, none⟩)] X fun e Y => PostC B b go ga P sv ev r X e Y := by
  have HO : Hid (∀ Y, Mv b sv.ownBlock X Y → OB Y go 0 0 0 0 ⟨#[]⟩ ∧ Three Y ga (.int .i64 0) (.int .i64 0) (.slice none 0 0)) := fun Y m => ⟨(mv_kind m h.own rfl ho (by decide) hob).trans ho, (mv_kind m h.own rfl ha (by decide) hab).trans ha⟩
  have CE : Hid (∀ _ : Unit, _) := fun (_ : Unit) => rEv_calls B b P sv ev l X h hl hs hB r hr1 hr2
  clear h hl hs hr1 hr2 ho ha
  cases r with
  | none =>
    go_enter Tryd.func32, Tryd.ntmps32
    go_wp2_with fail
    refine (CE.out ()).mono ?_
    rintro e Y ⟨-, hn, mv⟩
    obtain ⟨rfl, l2, h2⟩ := hn rfl
    obtain ⟨k1, k2⟩ := HO.out _ mv
    have HF : Hid (PostC B b go ga P sv ev none X (.panicked (pan ev)) Y) := ⟨fun _ _ e => (nomatch e), fun _ => ⟨rfl, k1, k2, l2, h2⟩, mv.os, mv.tape, mv.output, mv.size, fun g h1 h2 _ _ h3 => mv.block g h1 h2 h3⟩
    clear hn h2 mv k1 k2
    go_wp2
    exact ⟨rfl, HF.out⟩
  | some q =>
    obtain ⟨o, A⟩ := q
    go_enter Tryd.func32, Tryd.ntmps32
    go_wp2_with fail
    refine (CE.out ()).mono ?_
    rintro e Y ⟨hy, -, mv⟩
    obtain ⟨y, k, x, c, rfl, h1, h2, h3⟩ := hy _ _ rfl
    obtain ⟨k1, k2⟩ := HO.out _ mv
    have hga : go ≠ ga := kind_ne k1 k2 (by decide)
    have far : ∀ g, g ≠ go → g ≠ ga → (put3 (put5 Y go o.kind o.a o.b o.c (txt o.site)) ga A.code A.val (.slice y A.freed.length k)).heap[g]? = Y.heap[g]? := fun g h1 h2 => (put3_far _ _ _ _ h2).trans (put5_far _ _ _ _ _ _ h1)
    have i5 := put5_io Y go o.kind o.a o.b o.c (txt o.site)
    have i3 := put3_io (put5 Y go o.kind o.a o.b o.c (txt o.site)) ga A.code A.val (.slice y A.freed.length k)
    have HF : Hid (PostC B b go ga P sv ev (some (o, A)) X (.returned (.tuple #[])) (put3 (put5 Y go o.kind o.a o.b o.c (txt o.site)) ga A.code A.val (.slice y A.freed.length k))) := by
      refine ⟨fun o2 A2 e => ?_, fun e => (nomatch e), i3.1.trans (i5.1.trans mv.os), i3.2.1.trans (i5.2.1.trans mv.tape), i3.2.2.1.trans (i5.2.2.1.trans mv.output), by rw [i3.2.2.2, i5.2.2.2]; exact mv.size, fun g g1 g2 g3 g4 g5 => (far g g3 g4).trans (mv.block g g1 g2 g5)⟩
      obtain ⟨rfl, rfl⟩ := Prod.mk.injEq _ _ _ _ ▸ Option.some.inj e
      refine ⟨rfl, y, k, x, c, ?_, ?_, row_same h1 (fun g hg => ?_), (far b (fun e => hob e.symm) (fun e => hab e.symm)).trans h2, row_same h3 (fun g hg => ?_)⟩
      · exact (put3_far _ _ _ _ hga).trans (((((k1.set0 _).set1 _).set2 _).set3 _).set4 _)
      · have t0 : Three (put5 Y go o.kind o.a o.b o.c (txt o.site)) ga (.int .i64 0) (.int .i64 0) (.slice none 0 0) := (put5_far _ _ _ _ _ _ (fun e => hga e.symm)).trans k2
        exact ((t0.put0 _).put1 _).put2 _
      · obtain ⟨cur, hk⟩ := row_kind h1 g hg
        exact far g (kind_ne hk k1 (by decide)) (kind_ne hk k2 (by decide))
      · obtain ⟨cur, hk⟩ := row_kind h3 g hg
        exact far g (kind_ne hk k1 (by decide)) (kind_ne hk k2 (by decide))
    unfold put3 put5 at HF
    obtain ⟨r0, r1, r2, r3, r4⟩ := k1.cells
    obtain ⟨t0, t1, t2⟩ : Y.cell? ⟨ga, 0, none⟩ = some (.int .i64 0) ∧ Y.cell? ⟨ga, 1, none⟩ = some (.int .i64 0) ∧ Y.cell? ⟨ga, 2, none⟩ = some (.slice none 0 0) := ⟨k2.cell 0, k2.cell 1, k2.cell 2⟩
    obtain ⟨f0, f1, f2, f3, f4⟩ : _ ∧ _ ∧ _ ∧ _ ∧ _ := ⟨k1.fr 0, k1.fr 1, k1.fr 2, k1.fr 3, k1.fr 4⟩
    obtain ⟨u0, u1, u2⟩ : _ ∧ _ ∧ _ := ⟨k2.frozen 0, k2.frozen 1, k2.frozen 2⟩
    have hga2 : ga ≠ go := fun e => hga e.symm
    clear h1 h2 h3 k1 k2 mv hy far i5 i3 HO CE
    unfold opV
    obtain ⟨ok, oa, ob, oc, os⟩ := o
    obtain ⟨ac, av, zs⟩ := A
    simp only at HF ⊢
    go_wp2
    go_end0
    exact HF.out

end Go.Proofs.YtcjpepdagnifiaaDoor

namespace Go.Proofs.YtcjpepdagnifiaaDoor
open Go.RowKit
set_option linter.unusedVariables false
set_option maxRecDepth 100000

theorem catch_pan (p : Addr) (ev : Value) (he : ∃ u pv, ev = .iface u pv) (w : World) (c : Value) (hc : w.cell? p = some c) (hz : w.frozen? p = false) :
    CallsD Tryd.prog 57 #[.pointer (some p)] (.panicking (pan ev)) w fun e u' w' =>
      e = .returned (.tuple #[]) ∧ u' = .panicking [{ v := ev, recovered := true }] ∧ w' = w.setCell p (.bool false) := by
  obtain ⟨u, pv, rfl⟩ := he
  refine callsD_of_wpS Tryd.func57 rfl fun c₀ cs hu => ?_
  apply wpS_region
  simp [wpOpsS, go_sem, recoverD, hu, Tryd.ntmps57, hc, hz, bodyPostS, results, Tryd.results57]

theorem catch_idle (p : Addr) (w : World) (c : Value) (hc : w.cell? p = some c) (hz : w.frozen? p = false) :
    CallsD Tryd.prog 57 #[.pointer (some p)] .returning w fun e u' w' => e = .returned (.tuple #[]) ∧ u' = .returning ∧ w' = w.setCell p (.bool true) := by
  refine callsD_of_wpS Tryd.func57 rfl fun c₀ cs hu => ?_
  apply wpS_region
  cases c₀
  simp_all [wpOpsS, go_sem, recoverD, Tryd.ntmps57, bodyPostS, results, Tryd.results57]

theorem done_calls (f : FuncId) (caps : Array Value) (w W : World) (hW : W = w.alloc (.cells #[.bool false] 4)) (ev : Value) (he : ∃ u pv, ev = .iface u pv) (R : Bool → World → Prop) (hcf : ∀ X : World, (callFunc f caps).run Tryd.prog X = .ok (.enter f caps) X)
    (hR : ∀ q X, R q X → (∃ c, X.cell? ⟨w.heap.size, 0, none⟩ = some c) ∧ X.frozen? ⟨w.heap.size, 0, none⟩ = false)
    (hc : Calls Tryd.prog f caps W (fun e X => (e = .returned (.tuple #[]) ∧ R true X) ∨ (e = .panicked (pan ev) ∧ R false X))) :
    Calls Tryd.prog 31 #[.func (.func f) #[] caps] w fun e w' => ∃ q X, R q X ∧ e = .returned (.bool q) ∧ (w' = X.setCell ⟨w.heap.size, 0, none⟩ (.bool q) ∨ w' = (X.setCell ⟨w.heap.size, 0, none⟩ (.bool true)).setCell ⟨w.heap.size, 0, none⟩ (.bool q)) := by
  have hmf : ∀ (fn : Fn) (first cap : Array Value) (w : World), (Instr.makeFunc fn first cap).run Tryd.prog w = .ok (.func fn first cap) w := fun _ _ _ _ => rfl
  have HC : Hid (Calls _ _ _ _ _) := hc
  have HR : Hid (∀ q X, R q X → _) := hR
  clear hc hR
  go_enter_defers Tryd.func31, Tryd.ntmps31
  have HW : Hid (w.alloc (.cells #[.bool false] 4) = W) := hW.symm
  clear hW
  have HE : Hid (∃ u pv, ev = .iface u pv) := he
  clear he
  go_wp2_with fail
  rw [HW.out]
  refine (Calls.mono HC.out ?_)
  rintro e X hx
  rcases hx with ⟨rfl, hr⟩ | ⟨rfl, hr⟩
  · obtain ⟨⟨c, hc⟩, hz⟩ := HR.out _ _ hr
    have HX : Hid (R true X) := hr
    clear hr
    go_wp2
    refine leaves_cons (f := 57) (args := #[.pointer (some ⟨w.heap.size, 0, none⟩)]) (by simp) (by simp [go_sem]) ?_
    refine (catch_idle ⟨w.heap.size, 0, none⟩ _ (.bool true) ?_ ?_).mono ?_
    · exact World.cell?_setCell_same X _ _ hc
    · rw [World.frozen?_setCell]; exact hz
    rintro e u' w'' ⟨rfl, rfl, rfl⟩
    have hcc : ((X.setCell ⟨w.heap.size, 0, none⟩ (.bool true)).setCell ⟨w.heap.size, 0, none⟩ (.bool true)).cell? ⟨w.heap.size, 0, none⟩ = some (.bool true) := World.cell?_setCell_same _ _ _ (World.cell?_setCell_same X _ _ hc)
    simp [Leaves, settle, results, Tryd.results31, go_sem, hcc]
    exact ⟨X, HX.out, .inr rfl⟩
  · obtain ⟨⟨c, hc⟩, hz⟩ := HR.out _ _ hr
    have HX : Hid (R false X) := hr
    clear hr
    go_wp2
    refine leaves_cons (f := 57) (args := #[.pointer (some ⟨w.heap.size, 0, none⟩)]) (by simp) (by simp [go_sem]) ?_
    refine (catch_pan ⟨w.heap.size, 0, none⟩ ev HE.out _ c hc hz).mono ?_
    rintro e u' w'' ⟨rfl, rfl, rfl⟩
    have hcc : (X.setCell ⟨w.heap.size, 0, none⟩ (.bool false)).cell? ⟨w.heap.size, 0, none⟩ = some (.bool false) := World.cell?_setCell_same X _ _ hc
    simp [Leaves, settle, results, Tryd.results31, go_sem, hcc]
    exact ⟨X, HX.out, .inl rfl⟩

end Go.Proofs.YtcjpepdagnifiaaDoor

namespace Go.Proofs.YtcjpepdagnifiaaDoor
open Go.RowKit
set_option linter.unusedVariables false
set_option maxRecDepth 100000

theorem row_setR {X Y : World} {d n : Nat} {B : Nat} {t T : TypeId} {v : Value} {xs : List Value} {cs : Array Value} (h : X.ownsRow B t 1 v n xs) (hd : X.heap[d]? = some (.cells cs T (0, 0))) (hT : t ≠ T) (hY : ∀ g, g ≠ d → Y.heap[g]? = X.heap[g]?) : Y.ownsRow B t 1 v n xs :=
  row_same h (fun g hg => by
    obtain ⟨cur, hk⟩ := row_kind h g hg
    exact hY g (kind_ne hk hd hT))
/-- What stands behind it: g is the reader's box, the operation's and the answer's stand behind. -/
structure RDn (B : Nat) (P : PenD) (sv : Value) (r : Option (OpD × AnsD)) (X : World) (q : Bool) (Y : World) : Prop where
  yes : q = true → ∃ o A y k x c, r = some (o, A) ∧ OB Y (X.heap.size + 1) o.kind o.a o.b o.c (txt o.site) ∧ Three Y (X.heap.size + 1 + 1) (.int .i64 A.code) (.int .i64 A.val) (.slice y A.freed.length k) ∧ ownI Y X.heap.size (.slice y A.freed.length k) A.freed ∧ Box Y X.heap.size 65 (.int .i64 o.a) (.slice x (penB P o).sites.length c) [.string (txt [])] ∧ ownS Y B (.slice x (penB P o).sites.length c) (penB P o).sites
  no : q = false → r = none ∧ OB Y (X.heap.size + 1) 0 0 0 0 ⟨#[]⟩ ∧ Three Y (X.heap.size + 1 + 1) (.int .i64 0) (.int .i64 0) (.slice none 0 0) ∧ ∃ l2, Box Y X.heap.size 65 (.int .i64 P.last) sv [.string (txt l2)] ∧ ownS Y B sv P.sites
  mv : Y.os = X.os ∧ Y.tape = X.tape ∧ Y.output = X.output ∧ X.heap.size ≤ Y.heap.size ∧ ∀ g, g < X.heap.size → sv.ownBlock ≠ some g → Y.heap[g]? = X.heap[g]?

set_option maxHeartbeats 2000000 in
theorem rDone_calls (B : Nat) (P : PenD) (sv ev : Value) (l : List UInt8) (X W : World) (E : EvE X ev) (hown : ownS X B sv P.sites) (hBX : B ≤ X.heap.size) (hl : l.length ≤ 1048576) (hs : SmallP P) (r : Option (OpD × AnsD)) (hr1 : PenR P → r = rEv P l) (hr2 : ¬ PenR P → r = none)
    (hW : W = ((X.alloc (.cells #[.int .i64 P.last, sv, .string (txt l)] 65)).alloc (.cells #[.int .i64 0, .int .i64 0, .int .i64 0, .int .i64 0, .string ⟨#[]⟩] 27)).alloc (.cells #[.int .i64 0, .int .i64 0, .slice none 0 0] 30)) :
    Calls Tryd.prog 31 #[.func (.func 32) #[] #[.pointer (some ⟨X.heap.size, 0, none⟩), .pointer (some ⟨X.heap.size + 1, 0, none⟩), .pointer (some ⟨X.heap.size + 1 + 1, 0, none⟩)]] W fun e Y => ∃ q, e = .returned (.bool q) ∧ RDn B P sv r X q Y := by
  obtain ⟨X1, hX1⟩ : ∃ X1, X1 = X.alloc (.cells #[.int .i64 P.last, sv, .string (txt l)] 65) := ⟨_, rfl⟩
  obtain ⟨X2, hX2⟩ : ∃ X2, X2 = X1.alloc (.cells #[.int .i64 0, .int .i64 0, .int .i64 0, .int .i64 0, .string ⟨#[]⟩] 27) := ⟨_, rfl⟩
  rw [← hX1, ← hX2] at hW
  have s1 : X1.heap.size = X.heap.size + 1 := by rw [hX1]; simp
  have s2 : X2.heap.size = X.heap.size + 1 + 1 := by rw [hX2]; simp [s1]
  have s3 : W.heap.size = X.heap.size + 1 + 1 + 1 := by rw [hW]; simp [s2]
  have b1 : Below X.heap.size X X1 := by rw [hX1]; exact (Below.refl _ _).alloc (Nat.le_refl _) _
  have b2 : Below X1.heap.size X1 X2 := by rw [hX2]; exact (Below.refl _ _).alloc (Nat.le_refl _) _
  have b3 : Below X2.heap.size X2 W := by rw [hW]; exact (Below.refl _ _).alloc (Nat.le_refl _) _
  have o1 : Box X1 X.heap.size 65 (.int .i64 P.last) sv [.string (txt l)] := by rw [hX1]; exact heap_alloc_new X _
  have o2 : OB X2 (X.heap.size + 1) 0 0 0 0 ⟨#[]⟩ := by rw [hX2, ← s1]; exact heap_alloc_new X1 _
  have o3 : Three W (X.heap.size + 1 + 1) (.int .i64 0) (.int .i64 0) (.slice none 0 0) := by rw [hW, ← s2]; exact heap_alloc_new X2 _
  have b23 := b2.trans (b3.mono b2.size)
  have bW := b1.trans (b23.mono b1.size)
  obtain ⟨V, hV⟩ : ∃ V, V = W.alloc (.cells #[.bool false] 4) := ⟨_, rfl⟩
  have bV : Below W.heap.size W V := by rw [hV]; exact (Below.refl _ _).alloc (Nat.le_refl _) _
  have oV : V.heap[W.heap.size]? = some (.cells #[.bool false] 4 (0, 0)) := by rw [hV]; exact heap_alloc_new W _
  have bXV := bW.trans (bV.mono bW.size)
  have hge := evE_lt E
  have p1 : Box V X.heap.size 65 (.int .i64 P.last) sv [.string (txt l)] := (o1.later b23).later bV
  have p2 : OB V (X.heap.size + 1) 0 0 0 0 ⟨#[]⟩ := (bV.block _ (by omega)).trans ((b3.block _ o2.lt).trans o2)
  have p3 : Three V (X.heap.size + 1 + 1) (.int .i64 0) (.int .i64 0) (.slice none 0 0) := o3.later bV
  have RV : RD B X.heap.size P sv ev l V := ⟨evE_later E bXV, by omega, p1, row_later hown bXV⟩
  have C1 := rCl_calls B X.heap.size (X.heap.size + 1) (X.heap.size + 1 + 1) P sv ev l V RV hl hs hBX r hr1 hr2 p2 p3 (by omega) (by omega)
  have hvn : ∀ g, sv.ownBlock = some g → g < X.heap.size := fun g hg => (World.ownsRow.lt hown g hg).2
  have hkb : ∀ e Y, PostC B X.heap.size (X.heap.size + 1) (X.heap.size + 1 + 1) P sv ev r V e Y → Y.heap[W.heap.size]? = some (.cells #[.bool false] 4 (0, 0)) := fun e Y hp =>
    (hp.2.2.2.2.2.2 W.heap.size (Array.getElem?_eq_some_iff.1 oV).1 (by omega) (by omega) (by omega) (fun e => by have := hvn _ e; omega)).trans oV
  have hcf : ∀ Y : World, (callFunc 32 #[.pointer (some ⟨X.heap.size, 0, none⟩), .pointer (some ⟨X.heap.size + 1, 0, none⟩), .pointer (some ⟨X.heap.size + 1 + 1, 0, none⟩)]).run Tryd.prog Y = .ok (.enter 32 #[.pointer (some ⟨X.heap.size, 0, none⟩), .pointer (some ⟨X.heap.size + 1, 0, none⟩), .pointer (some ⟨X.heap.size + 1 + 1, 0, none⟩)]) Y := fun Y => by simp [go_sem]
  refine (done_calls 32 _ W V hV ev E.2 (fun q Y => q = r.isSome ∧ ∃ e, PostC B X.heap.size (X.heap.size + 1) (X.heap.size + 1 + 1) P sv ev r V e Y) hcf ?_ ?_).mono ?_
  · rintro q Y ⟨-, e, hp⟩
    have hk := hkb e Y hp
    exact ⟨⟨.bool false, by rw [Lib.cell_of_heap hk]; rfl⟩, Lib.frozen_of_heap hk 0⟩
  · refine C1.mono (fun e Y hp => ?_)
    cases hr : r with
    | none => exact .inr ⟨(hp.2.1 hr).1, rfl, e, hr ▸ hp⟩
    | some z =>
      obtain ⟨o, A⟩ := z
      exact .inl ⟨(hp.1 o A hr).1, rfl, e, hr ▸ hp⟩
  · rintro e Y ⟨q, Y0, ⟨rfl, e2, hp⟩, rfl, hY⟩
    have hk := hkb e2 Y0 hp
    have hoth : ∀ g, g ≠ W.heap.size → Y.heap[g]? = Y0.heap[g]? := fun g hg => by
      rcases hY with rfl | rfl
      · exact Below.heap_setCell _ _ _ _ (by exact hg)
      · rw [Below.heap_setCell _ _ _ _ (by exact hg), Below.heap_setCell _ _ _ _ (by exact hg)]
    have hio : Y.os = Y0.os ∧ Y.tape = Y0.tape ∧ Y.output = Y0.output ∧ Y.heap.size = Y0.heap.size := by
      rcases hY with rfl | rfl
      · exact ⟨rfl, rfl, rfl, by simp [World.setCell]⟩
      · exact ⟨rfl, rfl, rfl, by simp [World.setCell]⟩
    obtain ⟨h1, h2, m1, m2, m3, m4, m5⟩ := hp
    have hsV : V.heap.size = X.heap.size + 1 + 1 + 1 + 1 := by rw [hV]; simp [s3]
    refine ⟨_, rfl, fun hq => ?_, fun hq => ?_, hio.1.trans (m1.trans bXV.os), hio.2.1.trans (m2.trans bXV.tape), hio.2.2.1.trans (m3.trans bXV.output), by have := bXV.size; omega, fun g hg hv => (hoth g (by omega)).trans ((m5 g (by omega) (by omega) (by omega) (by omega) hv).trans (bXV.block g hg))⟩
    · obtain ⟨z, hz⟩ := Option.isSome_iff_exists.1 hq
      obtain ⟨o, A⟩ := z
      obtain ⟨-, y, k, x, c, q1, q2, q3, q4, q5⟩ := h1 o A hz
      exact ⟨o, A, y, k, x, c, hz, (hoth _ (by omega)).trans q1, (hoth _ (by omega)).trans q2, row_setR (ownI_mono q3 (by omega)) hk (by decide) hoth, (hoth _ (by omega)).trans q4, row_setR q5 hk (by decide) hoth⟩
    · have hz : r = none := by cases r with | none => rfl | some z => cases hq
      obtain ⟨-, q1, q2, l2, q3⟩ := h2 hz
      exact ⟨hz, (hoth _ (by omega)).trans q1, (hoth _ (by omega)).trans q2, l2, (hoth _ (by omega)).trans q3.box, row_setR q3.own hk (by decide) hoth⟩

end Go.Proofs.YtcjpepdagnifiaaDoor

namespace Go.Proofs.YtcjpepdagnifiaaDoor
open Go.RowKit
set_option linter.unusedVariables false
set_option maxRecDepth 100000

def ansO (r : Option (OpD × AnsD)) : OpD := (r.map (·.1)).getD ⟨0, 0, 0, 0, []⟩
def ansA (r : Option (OpD × AnsD)) : AnsD := (r.map (·.2)).getD ⟨0, 0, []⟩
def ansP (P : PenD) (r : Option (OpD × AnsD)) : PenD := match r with
  | some (o, _) => penB P o
  | none => P
/-- What stands when the reader is done, whatever came of it. -/
def RU (n B : Nat) (o : OpD) (A : AnsD) (Q : PenD) (y : Option Addr) (k : Nat) (x : Option Addr) (c : Nat) (Y : World) : Prop :=
  OB Y (n + 1) o.kind o.a o.b o.c (txt o.site) ∧ Three Y (n + 1 + 1) (.int .i64 A.code) (.int .i64 A.val) (.slice y A.freed.length k) ∧ ownI Y n (.slice y A.freed.length k) A.freed ∧
    (∃ l2, Box Y n 65 (.int .i64 Q.last) (.slice x Q.sites.length c) [.string (txt l2)]) ∧ ownS Y B (.slice x Q.sites.length c) Q.sites
theorem RDn.uni {B : Nat} {P : PenD} {sv : Value} {r : Option (OpD × AnsD)} {X Y : World} {q : Bool} (h : RDn B P sv r X q Y) : q = r.isSome ∧ ∃ y k x c, RU X.heap.size B (ansO r) (ansA r) (ansP P r) y k x c Y := by
  cases q with
  | true =>
    obtain ⟨o, A, y, k, x, c, rfl, h1, h2, h3, h4, h5⟩ := h.yes rfl
    exact ⟨rfl, y, k, x, c, h1, h2, h3, ⟨[], h4⟩, h5⟩
  | false =>
    obtain ⟨rfl, h1, h2, l2, h4, h5⟩ := h.no rfl
    obtain ⟨x, c, rfl, -⟩ := rdS_own h5
    exact ⟨rfl, none, 0, x, c, h1, h2, ownI_nil _ _, ⟨l2, h4⟩, h5⟩
theorem ru_later {n B : Nat} {o : OpD} {A : AnsD} {Q : PenD} {y : Option Addr} {k : Nat} {x : Option Addr} {c : Nat} {Y Z : World} (h : RU n B o A Q y k x c Y) (b : Below Y.heap.size Y Z) : RU n B o A Q y k x c Z := by
  obtain ⟨h1, h2, h3, ⟨l2, h4⟩, h5⟩ := h
  exact ⟨(b.block _ h1.lt).trans h1, h2.later b, row_later h3 b, ⟨l2, h4.later b⟩, row_later h5 b⟩

def put2 (Y : World) (g : Nat) (k : Int) (y : Value) : World := (Y.setCell ⟨g, 0, none⟩ (.int .i64 k)).setCell ⟨g, 1, none⟩ y
theorem put2_far (Y : World) {g h : Nat} (k : Int) (y : Value) (hne : h ≠ g) : (put2 Y g k y).heap[h]? = Y.heap[h]? := by
  unfold put2
  rw [Below.heap_setCell _ _ _ _ (by exact hne), Below.heap_setCell _ _ _ _ (by exact hne)]
theorem put2_io (Y : World) (g : Nat) (k : Int) (y : Value) : (put2 Y g k y).os = Y.os ∧ (put2 Y g k y).tape = Y.tape ∧ (put2 Y g k y).output = Y.output ∧ (put2 Y g k y).heap.size = Y.heap.size := by
  unfold put2
  refine ⟨?_, ?_, ?_, ?_⟩ <;> simp [World.setCell]
/-- What the three boxes hold. -/
def C10 (g1 g2 g3 : Nat) (o : OpD) (A : AnsD) (Q : PenD) (y : Option Addr) (k : Nat) (x : Option Addr) (c : Nat) (Z : World) : Prop :=
  (Z.cell? ⟨g1, 0, none⟩ = some (.int .i64 o.kind) ∧ Z.cell? ⟨g1, 1, none⟩ = some (.int .i64 o.a) ∧ Z.cell? ⟨g1, 2, none⟩ = some (.int .i64 o.b) ∧ Z.cell? ⟨g1, 3, none⟩ = some (.int .i64 o.c) ∧ Z.cell? ⟨g1, 4, none⟩ = some (.string (txt o.site))) ∧
  (Z.cell? ⟨g2, 0, none⟩ = some (.int .i64 A.code) ∧ Z.cell? ⟨g2, 1, none⟩ = some (.int .i64 A.val) ∧ Z.cell? ⟨g2, 2, none⟩ = some (.slice y A.freed.length k)) ∧
  Z.cell? ⟨g3, 0, none⟩ = some (.int .i64 Q.last) ∧ Z.cell? ⟨g3, 1, none⟩ = some (.slice x Q.sites.length c)
theorem c10_of {g1 g2 g3 : Nat} {o : OpD} {A : AnsD} {Q : PenD} {y : Option Addr} {k : Nat} {x : Option Addr} {c : Nat} {Z : World} {tl : List Value} (h1 : OB Z g1 o.kind o.a o.b o.c (txt o.site)) (h2 : Three Z g2 (.int .i64 A.code) (.int .i64 A.val) (.slice y A.freed.length k)) (h3 : Box Z g3 65 (.int .i64 Q.last) (.slice x Q.sites.length c) tl) : C10 g1 g2 g3 o A Q y k x c Z :=
  ⟨h1.cells, ⟨h2.cell 0, h2.cell 1, h2.cell 2⟩, h3.cells.1, h3.cells.2.1⟩
theorem C10.drew {g1 g2 g3 : Nat} {o : OpD} {A : AnsD} {Q : PenD} {y : Option Addr} {k : Nat} {x : Option Addr} {c : Nat} {Z : World} (h : C10 g1 g2 g3 o A Q y k x c Z) : C10 g1 g2 g3 o A Q y k x c Z.drew := h

set_option maxHeartbeats 2000000 in
theorem iReadEvent_calls (v : Value) (P : PenD) (l : List UInt8) (w : World) (hP : RdP w v P) (hs : SmallP P) (hl : l.length ≤ 1048576) (ev : Value) (E : EvE w ev) (r : Option (OpD × AnsD)) (hr1 : PenR P → r = rEv P l) (hr2 : ¬ PenR P → r = none) :
    Calls Tryd.prog 8 #[v, .string (txt l)] w fun e w' => ∃ y k x c, e = .returned (.tuple #[opV (ansO r), .agg #[.int .i64 (ansA r).code, .int .i64 (ansA r).val, .slice y (ansA r).freed.length k], .agg #[.int .i64 (ansP P r).last, .slice x (ansP P r).sites.length c], .bool r.isSome]) ∧ ownI w' w.heap.size (.slice y (ansA r).freed.length k) (ansA r).freed ∧ ownS w' w.heap.size (.slice x (ansP P r).sites.length c) (ansP P r).sites ∧ Below w.heap.size w w' := by
  obtain ⟨sa, sc, rfl, rs⟩ := hP
  have CP : Hid (∀ Y, Below w.heap.size w Y → _) := fun Y hY => copyPen_calls _ P Y ⟨sa, sc, rfl, rdS_later rs hY⟩ hs
  obtain ⟨W, hW⟩ : ∃ W, W = (((w.alloc (.cells #[.int .i64 P.last, .slice sa P.sites.length sc] 31)).alloc (.cells #[.int .i64 0, .int .i64 0, .int .i64 0, .int .i64 0, .string ⟨#[]⟩] 27)).alloc (.cells #[.int .i64 0, .int .i64 0, .slice none 0 0] 30)).alloc (.cells #[.int .i64 0, .slice none 0 0] 31) := ⟨_, rfl⟩
  have HW : Hid (W.heap.size = w.heap.size + 1 + 1 + 1 + 1 ∧ Below w.heap.size w W ∧ OB W (w.heap.size + 1) 0 0 0 0 ⟨#[]⟩ ∧ Three W (w.heap.size + 1 + 1) (.int .i64 0) (.int .i64 0) (.slice none 0 0) ∧ Two W (w.heap.size + 1 + 1 + 1) (.int .i64 0) (.slice none 0 0)) := by
    obtain ⟨X1, hX1⟩ : ∃ X1, X1 = w.alloc (.cells #[.int .i64 P.last, .slice sa P.sites.length sc] 31) := ⟨_, rfl⟩
    obtain ⟨X2, hX2⟩ : ∃ X2, X2 = X1.alloc (.cells #[.int .i64 0, .int .i64 0, .int .i64 0, .int .i64 0, .string ⟨#[]⟩] 27) := ⟨_, rfl⟩
    obtain ⟨X3, hX3⟩ : ∃ X3, X3 = X2.alloc (.cells #[.int .i64 0, .int .i64 0, .slice none 0 0] 30) := ⟨_, rfl⟩
    rw [← hX1, ← hX2, ← hX3] at hW
    have s1 : X1.heap.size = w.heap.size + 1 := by rw [hX1]; simp
    have s2 : X2.heap.size = w.heap.size + 1 + 1 := by rw [hX2]; simp [s1]
    have s3 : X3.heap.size = w.heap.size + 1 + 1 + 1 := by rw [hX3]; simp [s2]
    have s4 : W.heap.size = w.heap.size + 1 + 1 + 1 + 1 := by rw [hW]; simp [s3]
    have b1 : Below w.heap.size w X1 := by rw [hX1]; exact (Below.refl _ _).alloc (Nat.le_refl _) _
    have b2 : Below X1.heap.size X1 X2 := by rw [hX2]; exact (Below.refl _ _).alloc (Nat.le_refl _) _
    have b3 : Below X2.heap.size X2 X3 := by rw [hX3]; exact (Below.refl _ _).alloc (Nat.le_refl _) _
    have b4 : Below X3.heap.size X3 W := by rw [hW]; exact (Below.refl _ _).alloc (Nat.le_refl _) _
    have o2 : OB X2 (w.heap.size + 1) 0 0 0 0 ⟨#[]⟩ := by rw [hX2, ← s1]; exact heap_alloc_new X1 _
    have o3 : Three X3 (w.heap.size + 1 + 1) (.int .i64 0) (.int .i64 0) (.slice none 0 0) := by rw [hX3, ← s2]; exact heap_alloc_new X2 _
    have o4 : Two W (w.heap.size + 1 + 1 + 1) (.int .i64 0) (.slice none 0 0) := by rw [hW, ← s3]; exact Two.new X3 _ _
    have b34 := b3.trans (b4.mono b3.size)
    have b24 := b2.trans (b34.mono b2.size)
    exact ⟨s4, b1.trans (b24.mono b1.size), (b34.block _ o2.lt).trans o2, o3.later b4, o4⟩
  have HALL : Hid (∀ (w1 : World) (x : Option Addr) (c : Nat), Below W.heap.size W w1 → ownS w1 W.heap.size (.slice x P.sites.length c) P.sites → ∀ W2, W2 = ((w1.alloc (.cells #[.int .i64 P.last, .slice x P.sites.length c, .string (txt l)] 65)).alloc (.cells #[.int .i64 0, .int .i64 0, .int .i64 0, .int .i64 0, .string ⟨#[]⟩] 27)).alloc (.cells #[.int .i64 0, .int .i64 0, .slice none 0 0] 30) →
      Calls Tryd.prog 31 #[.func (.func 32) #[] #[.pointer (some ⟨w1.heap.size, 0, none⟩), .pointer (some ⟨w1.heap.size + 1, 0, none⟩), .pointer (some ⟨w1.heap.size + 1 + 1, 0, none⟩)]] W2 fun e Y => e = .returned (.bool r.isSome) ∧ w.heap.size + 1 + 1 + 1 < w1.heap.size ∧ Hid (Below W.heap.size W Y) ∧ ∃ y k x c, Hid (RU w1.heap.size W.heap.size (ansO r) (ansA r) (ansP P r) y k x c Y)) := by
    intro w1 x c h1 h2 W2 hW2
    have hsz := h1.size
    have hWs := HW.out.1
    refine (rDone_calls W.heap.size P (.slice x P.sites.length c) ev l w1 W2 (evE_later E (HW.out.2.1.trans (h1.mono HW.out.2.1.size))) h2 hsz hl hs r hr1 hr2 hW2).mono ?_
    rintro e Y ⟨q, rfl, hd⟩
    obtain ⟨rfl, hu⟩ := hd.uni
    obtain ⟨m1, m2, m3, m4, m5⟩ := hd.mv
    refine ⟨rfl, by omega, ⟨m1.trans h1.os, m2.trans h1.tape, m3.trans h1.output, Nat.le_trans hsz m4, fun g hg => (m5 g (by omega) (fun e => by have := (World.ownsRow.lt h2 g e).1; omega)).trans (h1.block g hg)⟩, hu⟩
  have hmf : ∀ (fn : Fn) (first cap : Array Value) (w : World), (Instr.makeFunc fn first cap).run Tryd.prog w = .ok (.func fn first cap) w := fun _ _ _ _ => rfl
  have HBW : Hid (Below w.heap.size w W) := HW.out.2.1
  clear rs hs E hr1 hr2
  generalize r.isSome = qb at *
  generalize ansO r = o at *
  generalize ansA r = A at *
  generalize ansP P r = Q at *
  go_enter Tryd.func8, Tryd.ntmps8
  go_wp2_with fail
  rw [← hW]
  clear hW
  refine (CP.out _ HBW.out).mono ?_
  rintro e w1 ⟨x, c, rfl, h1, h2⟩
  go_wp2_with fail
  refine (HALL.out w1 x c h2 h1 _ rfl).mono ?_
  rintro e Y ⟨rfl, hlt, HBY, y2, k2, x2, c2, HU⟩
  obtain ⟨hs4, -, z1, z2, z3⟩ := HW.out
  have hWY := HBY.out
  have zo : OB Y (w.heap.size + 1) 0 0 0 0 ⟨#[]⟩ := (hWY.block _ (by omega)).trans z1
  have za : Three Y (w.heap.size + 1 + 1) (.int .i64 0) (.int .i64 0) (.slice none 0 0) := (hWY.block _ (by omega)).trans z2
  have zp : Two Y (w.heap.size + 1 + 1 + 1) (.int .i64 0) (.slice none 0 0) := (hWY.block _ (by omega)).trans z3
  obtain ⟨u1, u2, u3, ⟨l2, u4⟩, u5⟩ := HU.out
  have HC0 : Hid (C10 (w1.heap.size + 1) (w1.heap.size + 1 + 1) w1.heap.size o A Q y2 k2 x2 c2 Y) := c10_of u1 u2 u4
  have HC5 : Hid (C10 (w1.heap.size + 1) (w1.heap.size + 1 + 1) w1.heap.size o A Q y2 k2 x2 c2 (put5 Y (w.heap.size + 1) o.kind o.a o.b o.c (txt o.site)).drew) :=
    C10.drew (c10_of ((put5_far _ _ _ _ _ _ (by omega)).trans u1) ((put5_far _ _ _ _ _ _ (by omega)).trans u2) ((put5_far _ _ _ _ _ _ (by omega)).trans u4))
  have HC3 : Hid (C10 (w1.heap.size + 1) (w1.heap.size + 1 + 1) w1.heap.size o A Q y2 k2 x2 c2 (put3 (put5 Y (w.heap.size + 1) o.kind o.a o.b o.c (txt o.site)) (w.heap.size + 1 + 1) A.code A.val (.slice y2 A.freed.length k2)).drew) :=
    C10.drew (c10_of ((put3_far _ _ _ _ (by omega)).trans ((put5_far _ _ _ _ _ _ (by omega)).trans u1)) ((put3_far _ _ _ _ (by omega)).trans ((put5_far _ _ _ _ _ _ (by omega)).trans u2)) ((put3_far _ _ _ _ (by omega)).trans ((put5_far _ _ _ _ _ _ (by omega)).trans u4)))
  have HC2 : Hid (C10 (w1.heap.size + 1) (w1.heap.size + 1 + 1) w1.heap.size o A Q y2 k2 x2 c2 (put2 (put3 (put5 Y (w.heap.size + 1) o.kind o.a o.b o.c (txt o.site)) (w.heap.size + 1 + 1) A.code A.val (.slice y2 A.freed.length k2)) (w.heap.size + 1 + 1 + 1) Q.last (.slice x2 Q.sites.length c2)).drew) :=
    C10.drew (c10_of ((put2_far _ _ _ (by omega)).trans ((put3_far _ _ _ _ (by omega)).trans ((put5_far _ _ _ _ _ _ (by omega)).trans u1))) ((put2_far _ _ _ (by omega)).trans ((put3_far _ _ _ _ (by omega)).trans ((put5_far _ _ _ _ _ _ (by omega)).trans u2))) ((put2_far _ _ _ (by omega)).trans ((put3_far _ _ _ _ (by omega)).trans ((put5_far _ _ _ _ _ _ (by omega)).trans u4))))
  have HF : Hid (ownI (put2 (put3 (put5 Y (w.heap.size + 1) o.kind o.a o.b o.c (txt o.site)) (w.heap.size + 1 + 1) A.code A.val (.slice y2 A.freed.length k2)) (w.heap.size + 1 + 1 + 1) Q.last (.slice x2 Q.sites.length c2)).drew w.heap.size (.slice y2 A.freed.length k2) A.freed ∧ ownS (put2 (put3 (put5 Y (w.heap.size + 1) o.kind o.a o.b o.c (txt o.site)) (w.heap.size + 1 + 1) A.code A.val (.slice y2 A.freed.length k2)) (w.heap.size + 1 + 1 + 1) Q.last (.slice x2 Q.sites.length c2)).drew w.heap.size (.slice x2 Q.sites.length c2) Q.sites ∧ Below w.heap.size w (put2 (put3 (put5 Y (w.heap.size + 1) o.kind o.a o.b o.c (txt o.site)) (w.heap.size + 1 + 1) A.code A.val (.slice y2 A.freed.length k2)) (w.heap.size + 1 + 1 + 1) Q.last (.slice x2 Q.sites.length c2)).drew) := by
    have far : ∀ g, g ≠ w.heap.size + 1 → g ≠ w.heap.size + 1 + 1 → g ≠ w.heap.size + 1 + 1 + 1 → (put2 (put3 (put5 Y (w.heap.size + 1) o.kind o.a o.b o.c (txt o.site)) (w.heap.size + 1 + 1) A.code A.val (.slice y2 A.freed.length k2)) (w.heap.size + 1 + 1 + 1) Q.last (.slice x2 Q.sites.length c2)).heap[g]? = Y.heap[g]? := fun g h1 h2 h3 => (put2_far _ _ _ h3).trans ((put3_far _ _ _ _ h2).trans (put5_far _ _ _ _ _ _ h1))
    have i5 := put5_io Y (w.heap.size + 1) o.kind o.a o.b o.c (txt o.site)
    have i3 := put3_io (put5 Y (w.heap.size + 1) o.kind o.a o.b o.c (txt o.site)) (w.heap.size + 1 + 1) A.code A.val (.slice y2 A.freed.length k2)
    have i2 := put2_io (put3 (put5 Y (w.heap.size + 1) o.kind o.a o.b o.c (txt o.site)) (w.heap.size + 1 + 1) A.code A.val (.slice y2 A.freed.length k2)) (w.heap.size + 1 + 1 + 1) Q.last (.slice x2 Q.sites.length c2)
    have hb : Below w.heap.size w Y := HBW.out.trans (hWY.mono HBW.out.size)
    have hb2 : Below w.heap.size w (put2 (put3 (put5 Y (w.heap.size + 1) o.kind o.a o.b o.c (txt o.site)) (w.heap.size + 1 + 1) A.code A.val (.slice y2 A.freed.length k2)) (w.heap.size + 1 + 1 + 1) Q.last (.slice x2 Q.sites.length c2)) :=
      ⟨i2.1.trans (i3.1.trans (i5.1.trans hb.os)), i2.2.1.trans (i3.2.1.trans (i5.2.1.trans hb.tape)), i2.2.2.1.trans (i3.2.2.1.trans (i5.2.2.1.trans hb.output)), by rw [i2.2.2.2, i3.2.2.2, i5.2.2.2]; exact hb.size, fun g hg => (far g (by omega) (by omega) (by omega)).trans (hb.block g hg)⟩
    refine ⟨row_later (row_same (ownI_mono u3 (by omega)) (fun g hg => ?_)) (Below.refl _ _).drew, row_later (row_same (ownS_mono u5 (by omega)) (fun g hg => ?_)) (Below.refl _ _).drew, hb2.drew⟩
    · have := (World.ownsRow.lt u3 g hg).1
      exact far g (by omega) (by omega) (by omega)
    · have := (World.ownsRow.lt u5 g hg).1
      exact far g (by omega) (by omega) (by omega)
  unfold C10 at HC0
  unfold C10 put5 at HC5
  unfold C10 put3 put5 at HC3
  unfold C10 put2 put3 put5 at HC2
  unfold put2 put3 put5 at HF
  obtain ⟨⟨p0, p1, p2, p3, p4⟩, ⟨a0, a1, a2⟩, n0, n1⟩ := HC0.out
  obtain ⟨r0, r1, r2, r3, r4⟩ := zo.cells
  obtain ⟨t0, t1, t2⟩ : Y.cell? ⟨w.heap.size + 1 + 1, 0, none⟩ = some (.int .i64 0) ∧ Y.cell? ⟨w.heap.size + 1 + 1, 1, none⟩ = some (.int .i64 0) ∧ Y.cell? ⟨w.heap.size + 1 + 1, 2, none⟩ = some (.slice none 0 0) := ⟨za.cell 0, za.cell 1, za.cell 2⟩
  obtain ⟨s0, s1⟩ := zp.cells
  obtain ⟨f0, f1, f2, f3, f4⟩ : _ ∧ _ ∧ _ ∧ _ ∧ _ := ⟨zo.fr 0, zo.fr 1, zo.fr 2, zo.fr 3, zo.fr 4⟩
  obtain ⟨v0, v1, v2⟩ : _ ∧ _ ∧ _ := ⟨za.frozen 0, za.frozen 1, za.frozen 2⟩
  have e0 : Y.frozen? ⟨w.heap.size + 1 + 1 + 1, 0, none⟩ = false := Lib.frozen_of_heap zp 0
  have e1 : Y.frozen? ⟨w.heap.size + 1 + 1 + 1, 1, none⟩ = false := Lib.frozen_of_heap zp 1
  have HEND : Hid (opV o = .agg #[.int .i64 o.kind, .int .i64 o.a, .int .i64 o.b, .int .i64 o.c, .string (txt o.site)]) := rfl
  clear zo za zp u1 u2 u3 u4 u5 z1 z2 z3 hWY HU HBY HALL CP HBW h1 h2 hmf hs4 HW hlt
  go_wp2_with fail
  go_region_held (fun Z => (Z.cell? ⟨w1.heap.size + 1, 0, none⟩ = some (.int .i64 o.kind) ∧ Z.cell? ⟨w1.heap.size + 1, 1, none⟩ = some (.int .i64 o.a) ∧ Z.cell? ⟨w1.heap.size + 1, 2, none⟩ = some (.int .i64 o.b) ∧ Z.cell? ⟨w1.heap.size + 1, 3, none⟩ = some (.int .i64 o.c) ∧ Z.cell? ⟨w1.heap.size + 1, 4, none⟩ = some (.string (txt o.site))) ∧ (Z.cell? ⟨w1.heap.size + 1 + 1, 0, none⟩ = some (.int .i64 A.code) ∧ Z.cell? ⟨w1.heap.size + 1 + 1, 1, none⟩ = some (.int .i64 A.val) ∧ Z.cell? ⟨w1.heap.size + 1 + 1, 2, none⟩ = some (.slice y2 A.freed.length k2)) ∧ Z.cell? ⟨w1.heap.size, 0, none⟩ = some (.int .i64 Q.last) ∧ Z.cell? ⟨w1.heap.size, 1, none⟩ = some (.slice x2 Q.sites.length c2)) (first | with_reducible exact HC0.out | with_reducible exact HC5.out | with_reducible exact HC3.out | with_reducible exact HC2.out | exact HC0.out) (fail)
  all_goals
    clear HC0 HC5 HC3 HC2 HEND p0 p1 p2 p3 p4 a0 a1 a2 n0 n1
    go_wp2
    exact bodyPost_ret (v := .tuple #[.agg #[.int .i64 o.kind, .int .i64 o.a, .int .i64 o.b, .int .i64 o.c, .string (txt o.site)], .agg #[.int .i64 A.code, .int .i64 A.val, .slice y2 A.freed.length k2], .agg #[.int .i64 Q.last, .slice x2 Q.sites.length c2], .bool qb]) (by simp [results, Tryd.results8, go_sem, *]) rfl ⟨y2, k2, x2, c2, rfl, HF.out.1, HF.out.2.1, HF.out.2.2⟩

end Go.Proofs.YtcjpepdagnifiaaDoor
