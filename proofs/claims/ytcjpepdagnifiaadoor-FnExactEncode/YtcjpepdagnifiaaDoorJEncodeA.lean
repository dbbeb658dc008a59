/- An event in bytes, and how it is read: it is read as it was written, and nothing else is read. No program. -/
import Derived.Test.YtcjpepdagnifiaaDoorWireMath
import Derived.Test.YtcjpepdagnifiaaDoorIOkWalks
import Derived.Test.YtcjpepdagnifiaaDoorOpBase
import Derived.Test.YtcjpepdagnifiaaDoorPenBase
import Derived.Test.YtcjpepdagnifiaaDoorRfWalks
import Derived.Lib.Strings
import Derived.Lib.Slices
import Derived.Lib.Walk
import Derived.Lib.Builder
import Derived.Lib.AppendStr
import Derived.Lib.UnsafeStr
import Derived.WalkKit
import Derived.WalkLawsBesides
import Derived.Laws.Externs
import Derived.Stop.LaidErr
import Derived.Lib.LaidTab
import Derived.OpenVars
namespace Go.Proofs.YtcjpepdagnifiaaDoor
open Go.RowKit
set_option linter.unusedVariables false
set_option maxRecDepth 100000

/-- A number that can be written down. -/
abbrev okZ (n : Int) : Prop := -1000000000 ≤ n ∧ n ≤ 1000000000
/-- Where a name stands, from 1 on; 0 where it doesn't. -/
def plZ (x : List UInt8) (ss : List (List UInt8)) : Int := idxL x ss 0 + 1
def siteT (ss : List (List UInt8)) (x : List UInt8) : List UInt8 := if plZ x ss = 0 then varZ 0 ++ showT x else varZ (plZ x ss)
def freedT : Int → List Int → List UInt8
  | _, [] => []
  | a, z :: r => showZ (z - a) ++ freedT z r
def opT (last : Int) (ss : List (List UInt8)) (o : OpD) : List UInt8 := showZ o.kind ++ (showZ (o.a - last) ++ (showZ o.b ++ (showZ (o.c - o.a) ++ siteT ss o.site)))
def ansT (a : Int) (A : AnsD) : List UInt8 := varZ A.code ++ (showZ (A.val - a) ++ (varZ (A.freed.length : Int) ++ freedT a A.freed))
def SpeakO (o : OpD) : Prop := okZ o.kind ∧ okZ o.a ∧ okZ o.b ∧ okZ o.c ∧ o.site.length ≤ 8
def SpeakA (A : AnsD) : Prop := (0 ≤ A.code ∧ A.code ≤ 6) ∧ okZ A.val ∧ A.freed.length ≤ 8 ∧ ∀ z ∈ A.freed, okZ z
def PenR (P : PenD) : Prop := okZ P.last ∧ NamesIn 400 0 P.sites
def EvR (P : PenD) (o : OpD) (A : AnsD) : Prop := SpeakO o ∧ SpeakA A ∧ PenR P
def evT (P : PenD) (o : OpD) (A : AnsD) : List UInt8 := opT P.last P.sites o ++ ansT o.a A
/-- The pen behind an event. -/
def penB (P : PenD) (o : OpD) : PenD := ⟨o.a, if plZ o.site P.sites = 0 then P.sites ++ [o.site] else P.sites⟩

theorem idxL_up {α : Type} [DecidableEq α] (x : α) : ∀ (zs : List α) (i : Int), idxL x zs i = -1 ∨ ∃ (j : Nat) (h : j < zs.length), idxL x zs i = i + (j : Int) ∧ zs[j] = x
  | [], i => .inl rfl
  | y :: r, i => by
    unfold idxL
    by_cases e : x = y
    · rw [if_pos e]; exact .inr ⟨0, by simp, by omega, e.symm⟩
    · rw [if_neg e]
      rcases idxL_up x r (i + 1) with h | ⟨j, hj, h1, h2⟩
      · exact .inl h
      · exact .inr ⟨j + 1, by simpa using hj, by rw [h1]; omega, by simpa using h2⟩
theorem plZ_cases (x : List UInt8) (ss : List (List UInt8)) : (plZ x ss = 0 ∧ x ∉ ss) ∨ ∃ (j : Nat) (h : j < ss.length), plZ x ss = (j : Int) + 1 ∧ ss[j] = x := by
  have hm := idxL_mem x ss 0 (Int.le_refl _)
  unfold plZ
  rcases idxL_up x ss 0 with h | ⟨j, hj, h1, h2⟩
  · exact .inl ⟨by omega, fun hx => by have := hm.2 hx; omega⟩
  · exact .inr ⟨j, hj, by omega, h2⟩
theorem plZ_bd (x : List UInt8) (ss : List (List UInt8)) : 0 ≤ plZ x ss ∧ plZ x ss ≤ (ss.length : Int) := by
  rcases plZ_cases x ss with h | ⟨j, hj, h, -⟩ <;> omega
/-- No two alike: each name stands at its own place. -/
theorem plZ_at {m l : Nat} {ss : List (List UInt8)} (hn : NamesIn m l ss) (j : Nat) (h : j < ss.length) : plZ ss[j] ss = (j : Int) + 1 := by
  rcases plZ_cases ss[j] ss with ⟨-, h0⟩ | ⟨k, hk, h1, h2⟩
  · exact absurd (List.getElem_mem h) h0
  · rcases Nat.lt_trichotomy k j with e | e | e
    · exact absurd ((mem_take ss j ss[j]).2 ⟨k, hk, e, h2⟩) (hn.2 j h).2
    · rw [h1, e]
    · exact absurd ((mem_take ss k ss[k]).2 ⟨j, h, e, h2.symm⟩) (hn.2 k hk).2

theorem rdt_sound (l : List UInt8) : (rdt l).2 = 0 ∨ ((rdt l).1.length ≤ 8 ∧ (rdt l).2 ≤ l.length ∧ showT (rdt l).1 = l.take (rdt l).2) := by
  by_cases h : (rdv l).2 = 0 ∨ 8 < (rdv l).1 ∨ l.length - (rdv l).2 < (rdv l).1
  · rw [rdt_no l h]; exact .inl rfl
  · rw [rdt_yes l h]
    rcases rdv_sound l with h0 | ⟨h1, h2, h3, h4⟩
    · exact absurd (.inl h0) h
    · have hl : ((l.drop (rdv l).2).take (rdv l).1).length = (rdv l).1 := by rw [List.length_take, List.length_drop]; omega
      refine .inr ⟨by simp only; omega, by simp only; omega, ?_⟩
      simp only
      rw [showT_in _ (by omega), hl, List.take_add]
      rw [varZ_in _ ⟨by omega, by omega⟩] at h4
      rw [← h4]
      rfl

/-- A number is read that is told by how much more it is than the one ahead. -/
def rNum (a : Int) (s : List UInt8) : Option (Int × List UInt8) := if (rdi s).2 = 0 then none else if okZ (a + (rdi s).1) then some (a + (rdi s).1, s.drop (rdi s).2) else none
def rCnt (m : Nat) (s : List UInt8) : Option (Nat × List UInt8) := if (rdv s).2 = 0 then none else if (rdv s).1 ≤ m then some ((rdv s).1, s.drop (rdv s).2) else none
def rName (ss : List (List UInt8)) (s : List UInt8) : Option (List UInt8 × List UInt8) := match rCnt ss.length s with
  | none => none
  | some (p, r) => if 0 < p then some (ss.getD (p - 1) [], r)
    else if (rdt r).2 = 0 then none
    else if plZ (rdt r).1 ss = 0 then some ((rdt r).1, r.drop (rdt r).2) else none
def rOp (last : Int) (ss : List (List UInt8)) (s : List UInt8) : Option (OpD × List UInt8) := match rNum 0 s with
  | none => none
  | some (k, s1) => match rNum last s1 with
    | none => none
    | some (a, s2) => match rNum 0 s2 with
      | none => none
      | some (b, s3) => match rNum a s3 with
        | none => none
        | some (c, s4) => match rName ss s4 with
          | none => none
          | some (x, s5) => some (⟨k, a, b, c, x⟩, s5)
def rInts : Nat → Int → List UInt8 → Option (List Int × List UInt8)
  | 0, _, s => some ([], s)
  | n + 1, a, s => match rNum a s with
    | none => none
    | some (z, s1) => match rInts n z s1 with
      | none => none
      | some (zs, s2) => some (z :: zs, s2)
def rAns (a : Int) (s : List UInt8) : Option (AnsD × List UInt8) := match rCnt 6 s with
  | none => none
  | some (c, s1) => match rNum a s1 with
    | none => none
    | some (v, s2) => match rCnt 8 s2 with
      | none => none
      | some (n, s3) => match rInts n a s3 with
        | none => none
        | some (zs, s4) => some (⟨c, v, zs⟩, s4)
/-- What is read with a right pen. -/
def rEv (P : PenD) (s : List UInt8) : Option (OpD × AnsD) := match rOp P.last P.sites s with
  | none => none
  | some (o, s1) => match rAns o.a s1 with
    | some (A, []) => some (o, A)
    | _ => none

theorem rNum_sound {a n : Int} {s r : List UInt8} (h : rNum a s = some (n, r)) : okZ n ∧ s = showZ (n - a) ++ r := by
  unfold rNum at h
  split at h
  · cases h
  · split at h
    · rename_i h1 h2
      obtain ⟨rfl, rfl⟩ := Prod.mk.injEq _ _ _ _ ▸ Option.some.inj h
      rcases rdi_sound s with h3 | ⟨-, -, h3⟩
      · exact absurd h3 h1
      · refine ⟨h2, ?_⟩
        rw [show a + (rdi s).1 - a = (rdi s).1 by omega, h3, List.take_append_drop]
    · cases h
theorem rNum_show {a n : Int} (r : List UInt8) (ha : okZ a) (hn : okZ n) : rNum a (showZ (n - a) ++ r) = some (n, r) := by
  have e := rdi_show (n - a) r (by omega)
  have hl : ¬ (showZ (n - a)).length = 0 := by
    rw [showZ_in _ (by omega)]
    have := varB_ne 6 (zigZ (n - a)).toNat
    cases hh : varB 6 (zigZ (n - a)).toNat with
    | nil => exact absurd hh this
    | cons => simp
  unfold rNum
  rw [e]
  simp only
  rw [if_neg hl, show a + (n - a) = n by omega, if_pos hn, List.drop_left]
theorem rNum_show0 {n : Int} (r : List UInt8) (hn : okZ n) : rNum 0 (showZ n ++ r) = some (n, r) := by
  have h := rNum_show (a := 0) r ⟨by omega, by omega⟩ hn
  rw [show n - 0 = n by omega] at h
  exact h
theorem rCnt_sound {m p : Nat} {s r : List UInt8} (h : rCnt m s = some (p, r)) : p ≤ m ∧ s = varZ (p : Int) ++ r := by
  unfold rCnt at h
  split at h
  · cases h
  · split at h
    · rename_i h1 h2
      obtain ⟨rfl, rfl⟩ := Prod.mk.injEq _ _ _ _ ▸ Option.some.inj h
      rcases rdv_sound s with h3 | ⟨-, -, -, h3⟩
      · exact absurd h3 h1
      · exact ⟨h2, by rw [h3, List.take_append_drop]⟩
    · cases h
theorem rCnt_show {m p : Nat} (r : List UInt8) (hm : m ≤ 1000000) (hp : p ≤ m) : rCnt m (varZ (p : Int) ++ r) = some (p, r) := by
  have e := rdv_var p r (by omega)
  have ev : varZ (p : Int) = varB 6 p := by rw [varZ_in _ ⟨by omega, by omega⟩]; rfl
  have hl : ¬ (varB 6 p).length = 0 := by
    have := varB_ne 6 p
    cases hh : varB 6 p with
    | nil => exact absurd hh this
    | cons => simp
  unfold rCnt
  rw [ev, e]
  simp only
  rw [if_neg hl, if_pos hp, List.drop_left]
theorem rName_sound {ss : List (List UInt8)} {s x r : List UInt8} (hn : NamesIn 400 0 ss) (h : rName ss s = some (x, r)) : x.length ≤ 8 ∧ s = siteT ss x ++ r := by
  unfold rName at h
  split at h
  · cases h
  · rename_i p r1 hc
    obtain ⟨hp, rfl⟩ := rCnt_sound hc
    split at h
    · rename_i h0
      obtain ⟨rfl, rfl⟩ := Prod.mk.injEq _ _ _ _ ▸ Option.some.inj h
      have hlt : p - 1 < ss.length := by omega
      have e : ss.getD (p - 1) [] = ss[p - 1] := by rw [List.getD_eq_getElem?_getD, List.getElem?_eq_getElem hlt]; rfl
      have hpl := plZ_at hn (p - 1) hlt
      refine ⟨by rw [e]; exact (hn.2 _ hlt).1.2, ?_⟩
      unfold siteT
      rw [e, hpl, if_neg (by omega), show ((p - 1 : Nat) : Int) + 1 = (p : Int) by omega]
    · rename_i h0
      obtain rfl : p = 0 := by omega
      split at h
      · cases h
      · split at h
        · rename_i h1 h2
          obtain ⟨rfl, rfl⟩ := Prod.mk.injEq _ _ _ _ ▸ Option.some.inj h
          rcases rdt_sound r1 with h3 | ⟨h3, -, h4⟩
          · exact absurd h3 h1
          · refine ⟨h3, ?_⟩
            unfold siteT
            rw [if_pos h2, h4, List.append_assoc, List.take_append_drop]
            rfl
        · cases h
theorem rName_show {ss : List (List UInt8)} {x : List UInt8} (r : List UInt8) (hn : NamesIn 400 0 ss) (hx : x.length ≤ 8) : rName ss (siteT ss x ++ r) = some (x, r) := by
  have hm : ss.length ≤ 1000000 := by have := hn.1; omega
  unfold siteT rName
  rcases plZ_cases x ss with ⟨h0, -⟩ | ⟨j, hj, h1, h2⟩
  · have hc := rCnt_show (m := ss.length) (p := 0) (showT x ++ r) hm (by omega)
    rw [if_pos h0, List.append_assoc, show varZ 0 = varZ ((0 : Nat) : Int) from rfl, hc]
    simp only
    have e := rdt_show x r hx
    have hl : ¬ (showT x).length = 0 := by rw [showT_one x hx]; simp
    rw [if_neg (by omega), e]
    simp only
    rw [if_neg hl, if_pos h0, List.drop_left]
  · have hc := rCnt_show (m := ss.length) (p := j + 1) r hm (by omega)
    rw [if_neg (by omega), h1, show ((j : Int) + 1) = ((j + 1 : Nat) : Int) by omega, hc]
    simp only
    rw [if_pos (by omega), Nat.add_sub_cancel, List.getD_eq_getElem?_getD, List.getElem?_eq_getElem hj, h2]
    rfl
theorem rOp_sound {last : Int} {ss : List (List UInt8)} {s r : List UInt8} {o : OpD} (hn : NamesIn 400 0 ss) (h : rOp last ss s = some (o, r)) : SpeakO o ∧ s = opT last ss o ++ r := by
  unfold rOp at h
  split at h
  · cases h
  rename_i k s1 h1
  split at h
  · cases h
  rename_i a s2 h2
  split at h
  · cases h
  rename_i b s3 h3
  split at h
  · cases h
  rename_i c s4 h4
  split at h
  · cases h
  rename_i x s5 h5
  obtain ⟨rfl, rfl⟩ := Prod.mk.injEq _ _ _ _ ▸ Option.some.inj h
  obtain ⟨k1, rfl⟩ := rNum_sound h1
  obtain ⟨k2, rfl⟩ := rNum_sound h2
  obtain ⟨k3, rfl⟩ := rNum_sound h3
  obtain ⟨k4, rfl⟩ := rNum_sound h4
  obtain ⟨k5, rfl⟩ := rName_sound hn h5
  refine ⟨⟨k1, k2, k3, k4, k5⟩, ?_⟩
  unfold opT
  simp only [List.append_assoc, Int.sub_zero]
theorem rOp_show {last : Int} {ss : List (List UInt8)} {o : OpD} (r : List UInt8) (hl : okZ last) (hn : NamesIn 400 0 ss) (ho : SpeakO o) : rOp last ss (opT last ss o ++ r) = some (o, r) := by
  obtain ⟨k1, k2, k3, k4, k5⟩ := ho
  unfold opT rOp
  simp only [List.append_assoc]
  rw [rNum_show0 _ k1]
  simp only
  rw [rNum_show _ hl k2]
  simp only
  rw [rNum_show0 _ k3]
  simp only
  rw [rNum_show _ k2 k4]
  simp only
  rw [rName_show _ hn k5]
theorem rInts_sound : ∀ {n : Nat} {a : Int} {s r : List UInt8} {zs : List Int}, rInts n a s = some (zs, r) → zs.length = n ∧ (∀ z ∈ zs, okZ z) ∧ s = freedT a zs ++ r
  | 0, a, s, r, zs, h => by
    obtain ⟨rfl, rfl⟩ := Prod.mk.injEq _ _ _ _ ▸ Option.some.inj h
    exact ⟨rfl, fun z hz => (nomatch hz), rfl⟩
  | n + 1, a, s, r, zs, h => by
    unfold rInts at h
    split at h
    · cases h
    rename_i z s1 h1
    split at h
    · cases h
    rename_i zs2 s2 h2
    obtain ⟨rfl, rfl⟩ := Prod.mk.injEq _ _ _ _ ▸ Option.some.inj h
    obtain ⟨k1, rfl⟩ := rNum_sound h1
    obtain ⟨l1, k2, rfl⟩ := rInts_sound h2
    refine ⟨by simp [l1], fun y hy => ?_, ?_⟩
    · rcases List.mem_cons.1 hy with rfl | hy
      · exact k1
      · exact k2 y hy
    · simp only [freedT, List.append_assoc]
theorem rInts_show : ∀ {zs : List Int} {a : Int} (r : List UInt8), okZ a → (∀ z ∈ zs, okZ z) → rInts zs.length a (freedT a zs ++ r) = some (zs, r)
  | [], a, r, _, _ => rfl
  | z :: zs, a, r, ha, hz => by
    have hz1 := hz z (List.mem_cons_self ..)
    simp only [List.length_cons, rInts, freedT, List.append_assoc]
    rw [rNum_show _ ha hz1]
    simp only
    rw [rInts_show r hz1 (fun y hy => hz y (List.mem_cons_of_mem _ hy))]
theorem rAns_sound {a : Int} {s r : List UInt8} {A : AnsD} (h : rAns a s = some (A, r)) : SpeakA A ∧ s = ansT a A ++ r := by
  unfold rAns at h
  split at h
  · cases h
  rename_i c s1 h1
  split at h
  · cases h
  rename_i v s2 h2
  split at h
  · cases h
  rename_i n s3 h3
  split at h
  · cases h
  rename_i zs s4 h4
  obtain ⟨rfl, rfl⟩ := Prod.mk.injEq _ _ _ _ ▸ Option.some.inj h
  obtain ⟨k1, rfl⟩ := rCnt_sound h1
  obtain ⟨k2, rfl⟩ := rNum_sound h2
  obtain ⟨k3, rfl⟩ := rCnt_sound h3
  obtain ⟨rfl, k4, rfl⟩ := rInts_sound h4
  refine ⟨⟨by simp only; omega, k2, k3, k4⟩, ?_⟩
  unfold ansT
  simp only [List.append_assoc]
theorem rAns_show {a : Int} {A : AnsD} (r : List UInt8) (ha : okZ a) (hA : SpeakA A) : rAns a (ansT a A ++ r) = some (A, r) := by
  obtain ⟨c, v, zs⟩ := A
  obtain ⟨k1, k2, k3, k4⟩ := hA
  simp only at k1 k2 k3 k4
  unfold ansT rAns
  simp only [List.append_assoc]
  obtain ⟨p, rfl⟩ : ∃ p : Nat, c = (p : Int) := ⟨c.toNat, by omega⟩
  rw [rCnt_show _ (by omega) (by omega)]
  simp only
  rw [rNum_show _ ha k2]
  simp only
  rw [rCnt_show _ (by omega) k3]
  simp only
  rw [rInts_show r ha k4]
/-- What is read is what was written, and nothing else. -/
theorem rEv_iff {P : PenD} (hP : PenR P) (s : List UInt8) (o : OpD) (A : AnsD) : rEv P s = some (o, A) ↔ SpeakO o ∧ SpeakA A ∧ s = evT P o A := by
  constructor
  · intro h
    unfold rEv at h
    split at h
    · cases h
    rename_i o' s1 h1
    split at h
    · rename_i A' h2
      obtain ⟨rfl, rfl⟩ := Prod.mk.injEq _ _ _ _ ▸ Option.some.inj h
      obtain ⟨k1, rfl⟩ := rOp_sound hP.2 h1
      obtain ⟨k2, rfl⟩ := rAns_sound h2
      exact ⟨k1, k2, by unfold evT; rw [List.append_nil]⟩
    · cases h
  · rintro ⟨ho, hA, rfl⟩
    have h := rAns_show (a := o.a) [] ho.2.1 hA
    rw [List.append_nil] at h
    unfold rEv evT
    rw [rOp_show _ hP.1 hP.2 ho]
    simp only
    rw [h]

theorem siteT_length (ss : List (List UInt8)) (x : List UInt8) : (siteT ss x).length ≤ 16 := by
  unfold siteT
  split
  · rw [List.length_append]; have := varZ_length 0; have := showT_length x; omega
  · have := varZ_length (plZ x ss); omega
theorem freedT_length : ∀ (zs : List Int) (a : Int), (freedT a zs).length ≤ 7 * zs.length
  | [], _ => by simp [freedT]
  | z :: zs, a => by
    have := freedT_length zs z
    have := showZ_length (z - a)
    simp only [freedT, List.length_append, List.length_cons]
    omega
theorem opT_length (last : Int) (ss : List (List UInt8)) (o : OpD) : (opT last ss o).length ≤ 44 := by
  unfold opT
  simp only [List.length_append]
  have := showZ_length o.kind
  have := showZ_length (o.a - last)
  have := showZ_length o.b
  have := showZ_length (o.c - o.a)
  have := siteT_length ss o.site
  omega
theorem freedT_take (zs : List Int) (a : Int) (j : Nat) (h : j < zs.length) : freedT a (zs.take (j + 1)) = freedT a (zs.take j) ++ showZ (zs[j] - (if j = 0 then a else zs.getD (j - 1) 0)) := by
  induction zs generalizing a j with
  | nil => simp at h
  | cons z r ih =>
    cases j with
    | zero => simp [freedT]
    | succ j =>
      have hj : j < r.length := by simpa using h
      have e := ih z j hj
      simp only [List.take_succ_cons, freedT, e, List.append_assoc, List.getElem_cons_succ]
      cases j with
      | zero => simp
      | succ k => simp

end Go.Proofs.YtcjpepdagnifiaaDoor

namespace Go.Proofs.YtcjpepdagnifiaaDoor
open Go.RowKit
set_option linter.unusedVariables false
set_option maxRecDepth 100000

/-- The error that ends an event lies where it is laid. -/
def EvE (w : World) (ev : Value) : Prop := w.cell? ⟨0, 0, none⟩ = some ev ∧ ∃ u pv, ev = .iface u pv
abbrev pan (ev : Value) : List PanicEntry := [{ v := ev, recovered := false }]
theorem evE_lt {w : World} {ev : Value} (h : EvE w ev) : 0 < w.heap.size := World.block_lt_of_cell? w _ h.1
theorem evE_later {w w' : World} {ev : Value} (h : EvE w ev) (hb : Below w.heap.size w w') : EvE w' ev := ⟨(hb.cell (evE_lt h)).trans h.1, h.2⟩

theorem must_yes (w : World) : Calls Tryd.prog 58 #[.bool true] w fun e w' => e = .returned (.tuple #[]) ∧ w' = w := by
  go_enter Tryd.func58, Tryd.ntmps58
  go_wp2
  go_end0
  exact ⟨rfl, rfl⟩
theorem must_no (w : World) (ev : Value) (h : EvE w ev) : Calls Tryd.prog 58 #[.bool false] w fun e w' => e = .panicked (pan ev) ∧ w' = w := by
  obtain ⟨hc, u, pv, rfl⟩ := h
  go_enter Tryd.func58, Tryd.ntmps58
  go_wp2
  exact ⟨rfl, rfl, rfl⟩
theorem bounded_yes (n : Int) (w : World) (h : okZ n) : Calls Tryd.prog 78 #[.int .i64 n] w fun e w' => e = .returned (.bool true) ∧ w' = w := by
  have C : Hid (∀ _ : Unit, _) := fun (_ : Unit) => within_yes n (-1000000000) 1000000000 w h.1 h.2
  go_enter Tryd.func78, Tryd.ntmps78
  go_wp2_with fail
  refine (C.out ()).mono ?_
  rintro e w1 ⟨rfl, hw⟩
  subst hw
  go_wp2
  go_ret
  exact ⟨rfl, rfl⟩
theorem bounded_no (n : Int) (w : World) (h : ¬ okZ n) : Calls Tryd.prog 78 #[.int .i64 n] w fun e w' => e = .returned (.bool false) ∧ w' = w := by
  have C : Hid (∀ _ : Unit, _) := fun (_ : Unit) => within_no n (-1000000000) 1000000000 w (by omega)
  clear h
  go_enter Tryd.func78, Tryd.ntmps78
  go_wp2_with fail
  refine (C.out ()).mono ?_
  rintro e w1 ⟨rfl, hw⟩
  subst hw
  go_wp2
  go_ret
  exact ⟨rfl, rfl⟩

/-- A block that is no row of bytes. -/
def NotB (X : World) (g : Nat) : Prop := ∃ o, X.heap[g]? = some o ∧ ∀ cs fr, o ≠ .cells cs 5 fr
/-- Below block n all but block b is as it was; and so is, above it too, what is no row of bytes. -/
structure Kb (n b : Nat) (X Y : World) : Prop where
  os : Y.os = X.os
  tape : Y.tape = X.tape
  output : Y.output = X.output
  size : X.heap.size ≤ Y.heap.size
  block : ∀ g, g ≠ b → (g < n ∨ NotB X g) → Y.heap[g]? = X.heap[g]?
theorem Kb.refl (n b : Nat) (X : World) : Kb n b X X := ⟨rfl, rfl, rfl, Nat.le_refl _, fun _ _ _ => rfl⟩
theorem Kb.trans {n b : Nat} {X Y Z : World} (h : Kb n b X Y) (k : Kb n b Y Z) : Kb n b X Z := by
  refine ⟨k.os.trans h.os, k.tape.trans h.tape, k.output.trans h.output, Nat.le_trans h.size k.size, fun g hg hn => ?_⟩
  have e := h.block g hg hn
  refine (k.block g hg ?_).trans e
  rcases hn with h1 | ⟨o, h1, h2⟩
  · exact .inl h1
  · exact .inr ⟨o, e.trans h1, h2⟩
theorem NotB.lt {X : World} {g : Nat} (h : NotB X g) : g < X.heap.size := by
  obtain ⟨o, h1, -⟩ := h
  exact (Array.getElem?_eq_some_iff.1 h1).1
theorem Kb.of {n b : Nat} {X Y : World} (h : Below X.heap.size X Y) (hn : n ≤ X.heap.size) : Kb n b X Y := ⟨h.os, h.tape, h.output, h.size, fun g _ hg => h.block g (by rcases hg with h1 | h1; omega; exact h1.lt)⟩
theorem Kb.set {n b : Nat} {X Y : World} (h : Kb n b X Y) (k : Nat) (u : Value) : Kb n b X (Y.setCell ⟨b, k, none⟩ u) :=
  h.trans ⟨rfl, rfl, rfl, by simp [World.setCell], fun g hn _ => Below.heap_setCell _ _ _ _ hn⟩
theorem Kb.below {n b B : Nat} {X Y : World} (h : Kb n b X Y) (hB : B ≤ n) (hb : B ≤ b) : Below B X Y := ⟨h.os, h.tape, h.output, h.size, fun g hg => h.block g (by omega) (.inl (by omega))⟩
/-- A block that no step writes. -/
def Safe (n b : Nat) (X : World) (g : Nat) : Prop := g ≠ b ∧ (g < n ∨ NotB X g)
theorem Safe.same {n b g : Nat} {X Y : World} (h : Safe n b X g) (k : Kb n b X Y) : Y.heap[g]? = X.heap[g]? := k.block g h.1 h.2
theorem Safe.kb {n b g : Nat} {X Y : World} (h : Safe n b X g) (k : Kb n b X Y) : Safe n b Y g := by
  refine ⟨h.1, ?_⟩
  have e := h.same k
  rcases h.2 with h1 | ⟨o, h1, h2⟩
  · exact .inl h1
  · exact .inr ⟨o, e.trans h1, h2⟩
theorem Safe.cell {n b : Nat} {X Y : World} {p : Addr} (h : Safe n b X p.block) (k : Kb n b X Y) : Y.cell? p = X.cell? p := World.cell?_of_block (h.same k)
theorem Safe.frozen {n b : Nat} {X Y : World} {p : Addr} (h : Safe n b X p.block) (k : Kb n b X Y) : Y.frozen? p = X.frozen? p := World.frozen?_of_block (h.same k)
theorem Safe.new {n b : Nat} (X : World) (cs : Array Value) (T : TypeId) (hT : T ≠ 5) (hb : b < X.heap.size) : Safe n b (X.alloc (.cells cs T)) X.heap.size :=
  ⟨by omega, .inr ⟨_, heap_alloc_new X _, fun c2 fr e => hT (by cases e; rfl)⟩⟩
/-- The error lies safe. -/
def Cx (n b : Nat) (ev : Value) (X : World) : Prop := EvE X ev ∧ Safe n b X 0 ∧ n ≤ X.heap.size
theorem Cx.kb {n b : Nat} {ev : Value} {X Y : World} (h : Cx n b ev X) (k : Kb n b X Y) : Cx n b ev Y :=
  ⟨⟨(Safe.cell (p := ⟨0, 0, none⟩) h.2.1 k).trans h.1.1, h.1.2⟩, h.2.1.kb k, Nat.le_trans h.2.2 k.size⟩
/-- A row of names that no step writes. -/
def Far (n b : Nat) (X : World) (a : Option Addr) : Prop := ∀ x, a = some x → Safe n b X x.block
theorem Far.kb {n b : Nat} {X Y : World} {a : Option Addr} (h : Far n b X a) (k : Kb n b X Y) : Far n b Y a := fun x hx => (h x hx).kb k
theorem rdS_kb {n b : Nat} {X Y : World} {a : Option Addr} {zs : List (List UInt8)} (h : RdS X a zs) (hf : Far n b X a) (k : Kb n b X Y) : RdS Y a zs := by
  intro j hj
  obtain ⟨g, off, rfl, hg, hc⟩ := h j hj
  have hs : Safe n b X g := hf ⟨g, off, none⟩ rfl
  exact ⟨g, off, rfl, Nat.lt_of_lt_of_le hg k.size, (Safe.cell (p := ⟨g, off + j, none⟩) hs k).trans hc⟩

theorem infoByte : (Tryd.prog.info? 5).map (fun i => (i.zero, i.size, i.bytes)) = some (some (.int .u8 0), 1, 1) := by kernel_rfl
theorem sizeBuilder : (Tryd.prog.info? 98).map (·.size) = some 2 := by kernel_rfl
theorem liesWriter : liesAt Tryd.prog Tryd.prog.depth 100 (4 / Tryd.prog.cellsOf 100) 2 98 1 = true := by kernel_rfl

/-- The writer's box at block b: the pen, and a builder that holds these bytes in a row of its own from block n on. -/
def Wr (n b : Nat) (last : Int) (sv : Value) (l : List UInt8) (X : World) : Prop :=
  ∃ p v, X.heap[b]? = some (.cells #[.int .i64 last, sv, p, v] 100 (0, 0)) ∧ (p = .pointer none ∨ p = .pointer (some ⟨b, 2, none⟩)) ∧ X.ownsRow n 5 1 v l.length (Lib.byteCells l)
theorem Wr.pen {n b : Nat} {last : Int} {sv : Value} {l : List UInt8} {X : World} (h : Wr n b last sv l X) : X.cell? ⟨b, 0, none⟩ = some (.int .i64 last) ∧ X.cell? ⟨b, 1, none⟩ = some sv ∧ b < X.heap.size := by
  obtain ⟨p, v, hb, -⟩ := h
  exact ⟨by rw [Lib.cell_of_heap hb]; rfl, by rw [Lib.cell_of_heap hb]; rfl, (Array.getElem?_eq_some_iff.1 hb).1⟩
theorem Wr.later {n b : Nat} {last : Int} {sv : Value} {l : List UInt8} {X Y : World} (h : Wr n b last sv l X) (k : Below X.heap.size X Y) : Wr n b last sv l Y := by
  obtain ⟨p, v, hb, hp, ho⟩ := h
  have hlt := (Array.getElem?_eq_some_iff.1 hb).1
  refine ⟨p, v, (k.block b hlt).trans hb, hp, ho.kept (row := none) ⟨k.os, k.tape, k.output, k.size, fun g hg _ => k.block g hg⟩ (by cases v.ownBlock with | none => exact Or.inl rfl | some x => exact Or.inr (by simp))⟩

theorem wcheck_calls (n b : Nat) (last : Int) (sv : Value) (l : List UInt8) (w : World) (h : Wr n b last sv l w) :
    Calls Tryd.prog 88 #[.pointer (some ⟨b, 2, none⟩)] w fun e w' => e = .returned (.tuple #[]) ∧ (∃ v, w'.heap[b]? = some (.cells #[.int .i64 last, sv, .pointer (some ⟨b, 2, none⟩), v] 100 (0, 0)) ∧ w'.ownsRow n 5 1 v l.length (Lib.byteCells l)) ∧ Kb n b w w' := by
  obtain ⟨j, hj, hjs⟩ := Option.map_eq_some_iff.1 sizeBuilder
  obtain ⟨p, v, hb, hp, ho⟩ := h
  have c2 : w.cell? ⟨b, 2, none⟩ = some p := by rw [Lib.cell_of_heap hb]; rfl
  rcases hp with rfl | rfl
  · have hsh : w.shape? b = some (100, 4) := by simp [World.shape?, hb]
    have hfz : w.frozen? ⟨b, 2, none⟩ = false := Lib.frozen_of_heap hb 2
    have HB : Hid (w.heap[b]? = _) := hb
    have HO : Hid (w.ownsRow _ _ _ _ _ _) := ho
    clear hb ho
    go_enter Tryd.func88, Tryd.ntmps88
    go_wp2
    rw [Lib.run_to_unsafe w ⟨b, 2, none⟩ Tryd.underlying95 Tryd.underlying121 hj (by rw [hjs]; decide) hsh (by show 2 < 4; decide)]
    simp only [Result.andThen]
    rw [Oper.upon_value]
    go_wp2
    rw [run_callFunc_extern Tryd.func102 (by kernel_rfl) (by kernel_rfl) (by kernel_rfl) (e := Extern.AbiNoEscape.same) (by kernel_rfl)]
    rw [Lib.run_noEscape]
    simp only [Result.andThen]
    rw [Oper.upon_value]
    go_wp2
    rw [Lib.run_from_unsafe w ⟨b, 2, none⟩ Tryd.underlying121 Tryd.underlying95 hj hsh liesWriter]
    simp only [Result.andThen]
    rw [Oper.upon_value]
    go_wp2
    go_end0
    refine ⟨rfl, ⟨v, by simp [World.setCell, Array.getElem?_modify, HB.out], ?_⟩, (Kb.refl _ _ _).set 2 _⟩
    refine HO.out.kept (row := some b) ⟨rfl, rfl, rfl, by simp [World.setCell], fun k _ hk => Below.heap_setCell _ _ _ _ (fun e => hk (by simp [e]))⟩ (Or.inr ?_)
    exact Lib.ownBlock_ne HO.out HB.out (by decide)
  · have HB : Hid (w.heap[b]? = _) := hb
    have HO : Hid (w.ownsRow _ _ _ _ _ _) := ho
    clear hb ho
    go_enter Tryd.func88, Tryd.ntmps88
    go_wp2
    rw [Lib.run_neq_ptr_same w _ Tryd.underlying95 hj]
    go_wp2
    go_end0
    exact ⟨rfl, ⟨v, HB.out, HO.out⟩, Kb.refl _ _ _⟩

set_option maxHeartbeats 2000000 in
theorem wwrite_calls (n b : Nat) (last : Int) (sv : Value) (l t : List UInt8) (w : World) (hnw : n ≤ w.heap.size) (h : Wr n b last sv l w) (hlen : l.length + t.length ≤ 1073741824) :
    Calls Tryd.prog 71 #[.pointer (some ⟨b, 2, none⟩), .string (txt t)] w fun e w' => e = .returned (.tuple #[.int .i64 t.length, .nilIface]) ∧ Wr n b last sv (l ++ t) w' ∧ Kb n b w w' := by
  obtain ⟨i0, hi, hz0, hz1, hz2⟩ := info_parts infoByte
  have HH : Hid (Wr n b last sv l w) := h
  have htl : (txt t).size = t.length := txt_size _
  have HT : Hid (Lib.byteCells (l ++ t) = Lib.byteCells l ++ Lib.strCells (txt t)) := by show _ = _; simp [Lib.byteCells, Lib.strCells, txt]
  obtain ⟨s, hs⟩ : ∃ s, txt t = s := ⟨_, rfl⟩
  rw [hs] at HT htl ⊢
  clear h hs
  go_enter Tryd.func71, Tryd.ntmps71
  go_wp2_with fail
  refine (wcheck_calls n b last sv l _ HH.out).mono ?_
  rintro e w1 ⟨rfl, ⟨v, hbk, hown⟩, hb1⟩
  have c0 : w1.cell? ⟨b, 2, none⟩ = some (.pointer (some ⟨b, 2, none⟩)) := by rw [Lib.cell_of_heap hbk]; rfl
  have c1 : w1.cell? ⟨b, 3, none⟩ = some v := by rw [Lib.cell_of_heap hbk]; rfl
  have hne := Lib.ownBlock_ne hown hbk (by decide)
  go_wp2_with (at_builtin; refine Lib.wpList_append_own_string _ rfl _ _ 96 9 rfl n 5 i0 Tryd.underlying96 Tryd.underlying9 hi hz0 hz1 hz2 _ _ _ rfl hown s rfl ?c3 ?c4 ?c5 ?_)
  case c3 => unfold maxLen; omega
  case c4 => omega
  case c5 => have := hb1.size; omega
  intro v' w2 hown' hgrow _
  have hlt : b < w1.heap.size := (Array.getElem?_eq_some_iff.1 hbk).1
  have hb2 : w2.heap[b]? = some (.cells #[.int .i64 last, sv, .pointer (some ⟨b, 2, none⟩), v] 100 (0, 0)) := by
    rw [hgrow.block b hlt (fun e => hne e.symm)]
    exact hbk
  have d1 : w2.cell? ⟨b, 3, none⟩ = some v := by rw [Lib.cell_of_heap hb2]; rfl
  have f1 : w2.frozen? ⟨b, 3, none⟩ = false := Lib.frozen_of_heap hb2 3
  have k2 : Kb n b w1 w2 := ⟨hgrow.os, hgrow.tape, hgrow.output, hgrow.size, fun g hgb hg => by
    rcases hg with hg | ⟨o, h1, h2⟩
    · exact hgrow.block g (by have := hb1.size; omega) (fun e => by have := (hown.lt g e.symm).1; omega)
    · refine hgrow.block g (Array.getElem?_eq_some_iff.1 h1).1 (fun e => ?_)
      rcases hown.2 with ⟨hv, _⟩ | ⟨g', cap, cur, hv, _, hg', _⟩
      · rw [hv] at e; cases e
      · rw [hv] at e
        have e' := Option.some.inj e
        simp only at e'
        subst e'
        rw [hg'] at h1
        exact h2 _ _ (Option.some.inj h1).symm⟩
  have HB2 : Hid (w2.heap[b]? = _) := hb2
  have HO2 : Hid (w2.ownsRow n 5 1 v' _ _) := hown'
  have HK : Hid (Kb n b w w2) := hb1.trans k2
  obtain ⟨ao, n', cap, hv'⟩ : ∃ ao n' cap, v' = .slice ao n' cap := by
    rcases hown'.2 with ⟨hv, _⟩ | ⟨g, cap, cur, hv, _⟩
    · exact ⟨_, _, _, hv⟩
    · exact ⟨_, _, _, hv⟩
  subst hv'
  clear hb2 hown' hgrow k2 hb1 hown hbk c0 c1
  go_wp2
  go_ret2
  refine ⟨rfl, ?_, HK.out.set 3 _⟩
  refine ⟨_, .slice ao n' cap, by simp [World.setCell, Array.getElem?_modify, HB2.out], .inr rfl, ?_⟩
  have e1 := HT.out
  have h2 := HO2.out
  rw [← e1] at h2
  rw [List.length_append]
  exact h2.kept (row := some b) ⟨rfl, rfl, rfl, by simp [World.setCell], fun k _ hk => Below.heap_setCell _ _ _ _ (fun e => hk (by simp [e]))⟩ (Or.inr (Lib.ownBlock_ne h2 HB2.out (by decide)))

end Go.Proofs.YtcjpepdagnifiaaDoor

namespace Go.Proofs.YtcjpepdagnifiaaDoor
open Go.RowKit
set_option linter.unusedVariables false

theorem cellsE : Tryd.prog.cellsOf 146 = 1 := by kernel_rfl
theorem cellsT : Tryd.prog.cellsOf 9 = 1 := by kernel_rfl
theorem star : "*" ++ "errors.errorString" = "*errors.errorString" := by decide
theorem rowErr (u : TypeId) (h : Tryd.prog.typeName? 3 u = some "*errors.errorString") : u = 130 :=
  typeName_ptr_named (nm := "errors.errorString") (by rw [star]; kernel_rfl) (by kernel_rfl) (by decide) u (by rw [star]; exact h)
theorem gEv : Tryd.prog.globalNamed "loop.example/g01412/impl.errEvent" = some 0 := by kernel_rfl
theorem gEvType : (Tryd.prog.globals[0]?).map (·.type) = some 103 := by kernel_rfl

/-- As many readings as names. -/
theorem trodVars_length {H : Type} {enc : TypeId × Value → H} {P : Program} {W : World} {sp : Nat → Bool} : ∀ {ns : List String} {gs : List (DataW H)} {ps : List MemPlace}, DataW.TrodVars enc P W sp ns gs ps → gs.length = ns.length
  | [], [], _, _ => rfl
  | [], _ :: _, _, h => h.elim
  | _ :: _, [], _, h => h.elim
  | _ :: ns, _ :: ds, _, ⟨_, _, _, _, _, _, _, _, _, _, h, _⟩ => by rw [List.length_cons, List.length_cons, trodVars_length h]

theorem ev_of {W : World} (h : laidMet Tryd.prog [("loop.example/g01412/impl.errEvent", Rows.laid_loop_example_g01412_impl_errEvent)] W) : ∃ ev, EvE W ev := by
  obtain ⟨x, s, hv, -⟩ := laid_sentinel h gEv gEvType Tryd.underlying103 rowErr Tryd.underlying130 Tryd.underlying146 rfl rfl Tryd.underlying9 cellsE cellsT
  exact ⟨_, by simpa using World.var?_cell gEv hv 0, _, _, rfl⟩

end Go.Proofs.YtcjpepdagnifiaaDoor
