/- Plain facts on reading decimal digits. No condition. -/
import Derived.Test.YtdkdjelbgegmeabDoorDecMath
import Derived.Lib.Strings
namespace Go.Proofs.YtdkdjelbgegmeabDoor

def isDg (b : UInt8) : Bool := decide (48 ≤ b.toNat) && decide (b.toNat ≤ 57)
/-- The number that the digits of a text make, whatever stands between. -/
def svFrom (n : Nat) (l : List UInt8) : Nat := l.foldl (fun n b => if isDg b = true then n * 10 + (b.toNat - 48) else n) n
def sv (l : List UInt8) : Nat := svFrom 0 l
/-- How many digits it has. -/
def sk (l : List UInt8) : Nat := (l.filter isDg).length
/-- It without a minus at its head. -/
def dTrim (l : List UInt8) : List UInt8 := if l.head? = some 45 then l.tail else l
def nval (l : List UInt8) : Int := if l.head? = some 45 then -(sv l : Int) else (sv l : Int)
def okD (l : List UInt8) : Bool := decide ((dTrim l).length ≤ 9) && ((dTrim l).all isDg && (Lib.itoa (nval l) == l))
def ansN (l : List UInt8) : Int := if okD l = true then nval l else 0

theorem sv_snoc (l : List UInt8) (b : UInt8) : sv (l ++ [b]) = if isDg b = true then sv l * 10 + (b.toNat - 48) else sv l := by
  unfold sv svFrom; rw [List.foldl_append]; rfl
theorem sk_snoc (l : List UInt8) (b : UInt8) : sk (l ++ [b]) = if isDg b = true then sk l + 1 else sk l := by
  unfold sk; rw [List.filter_append, List.length_append]
  by_cases h : isDg b = true <;> simp [h]

theorem sk_le (l : List UInt8) : sk l ≤ l.length := List.length_filter_le _ _

theorem sv_lt_nat : ∀ (n : Nat) (l : List UInt8), l.length = n → sv l < 10 ^ n := by
  intro n
  induction n with
  | zero => intro l h; obtain rfl := List.eq_nil_of_length_eq_zero h; simp [sv, svFrom]
  | succ n ih =>
    intro l h
    have hne : l ≠ [] := by intro h0; simp [h0] at h
    have hl := List.dropLast_concat_getLast hne
    have h1 := ih l.dropLast (by rw [List.length_dropLast]; omega)
    rw [← hl, sv_snoc, Nat.pow_succ]
    have hb := UInt8.toNat_lt (l.getLast hne)
    split
    · rename_i hd
      simp only [isDg, Bool.and_eq_true, decide_eq_true_eq] at hd
      omega
    · omega
theorem sv_lt (l : List UInt8) (h : l.length ≤ 11) : sv l < 100000000000 := by
  have h1 := sv_lt_nat l.length l rfl
  have h2 : (10 ^ l.length : Nat) ≤ 10 ^ 11 := Nat.pow_le_pow_right (by omega) h
  have h3 : (10 ^ 11 : Nat) = 100000000000 := by decide
  omega

theorem dg_isDg (u j : Nat) : isDg (Lib.dg u j) = true := by
  unfold isDg Lib.dg
  rw [UInt8.toNat_ofNat']
  simp only [Bool.and_eq_true, decide_eq_true_eq]
  omega
theorem decDigits_all (u : Nat) : (Lib.decDigits u).all isDg = true := by
  rw [Lib.decDigits_eq, List.all_eq_true]
  intro b hb
  obtain ⟨t, _, rfl⟩ := List.mem_map.1 hb
  exact dg_isDg _ _

theorem head_digit (l : List UInt8) (h : l.all isDg = true) : l.head? ≠ some 45 := by
  cases l with
  | nil => simp
  | cons b r =>
    simp only [List.all_cons, Bool.and_eq_true] at h
    simp only [List.head?_cons, ne_eq, Option.some.injEq]
    rintro rfl
    exact absurd h.1 (by decide)

theorem itoa_trim (n : Int) : (dTrim (Lib.itoa n)).all isDg = true := by
  unfold Lib.itoa
  split
  · exact decDigits_all _
  · unfold dTrim
    rw [if_neg (head_digit _ (decDigits_all _))]
    exact decDigits_all _

theorem filter_all (l : List UInt8) (h : l.all isDg = true) : sk l = l.length := by
  unfold sk
  rw [List.filter_eq_self.2]
  intro a ha
  exact List.all_eq_true.1 h a ha

theorem sk_trim (l : List UInt8) : sk (dTrim l) = sk l := by
  unfold dTrim
  split
  · rename_i h
    cases l with
    | nil => simp at h
    | cons b r =>
      have hb : b = 45 := by simpa using h
      subst hb
      have e : isDg 45 = false := by decide
      simp [sk, e]
  · rfl
theorem sv_trim (l : List UInt8) : sv (dTrim l) = sv l := by
  unfold dTrim
  split
  · rename_i h
    cases l with
    | nil => simp at h
    | cons b r =>
      have hb : b = 45 := by simpa using h
      subst hb
      have e : ¬ isDg 45 = true := by decide
      simp only [sv, svFrom, List.tail_cons, List.foldl_cons, if_neg e]
  · rfl
theorem length_trim (l : List UInt8) : l.length ≤ (dTrim l).length + 1 := by
  unfold dTrim
  split
  · rw [List.length_tail]; omega
  · omega

/-- The two ways of asking come to one. -/
theorem okD_eq (l : List UInt8) : okD l = (decide (sk l ≤ 9) && (decide (l.length ≤ 10) && (Lib.itoa (nval l) == l))) := by
  by_cases h : Lib.itoa (nval l) = l
  · have hd : (dTrim l).all isDg = true := by rw [← h]; exact itoa_trim _
    have h1 := filter_all _ hd
    rw [sk_trim] at h1
    have h2 := length_trim l
    unfold okD
    rw [hd, h, ← h1]
    have hb : (l == l) = true := by simp
    rw [hb]
    by_cases h9 : sk l ≤ 9
    · have h10 : l.length ≤ 10 := by omega
      simp [h9, h10]
    · simp [h9]
  · have hb : (Lib.itoa (nval l) == l) = false := by simp [h]
    unfold okD
    rw [hb]
    simp

theorem okD_long (l : List UInt8) (h : 9 < (dTrim l).length) : okD l = false := by
  have : decide ((dTrim l).length ≤ 9) = false := by simp; omega
  unfold okD; rw [this]; rfl
theorem okD_bad (l : List UInt8) (h : (dTrim l).all isDg = false) : okD l = false := by
  unfold okD; rw [h]; simp
theorem okD_good (l : List UInt8) (h : (dTrim l).length ≤ 9) (ha : (dTrim l).all isDg = true) : okD l = (Lib.itoa (nval l) == l) := by
  have : decide ((dTrim l).length ≤ 9) = true := by simpa using h
  unfold okD; rw [this, ha]; rfl

theorem trim_eq (l : List UInt8) : Lib.trimPrefix l [45] = dTrim l := by
  unfold Lib.trimPrefix Lib.hasPrefix dTrim
  cases l with
  | nil => simp
  | cons b r =>
    by_cases h : b = 45
    · subst h; simp
    · have h' : ¬ 45 = b := fun e => h e.symm
      simp [h, h']

end Go.Proofs.YtdkdjelbgegmeabDoor
