/- Plain facts on the sum of chapter 2, as a function of the bytes: it is linear by xor; a table of sixteen does four of its steps; at most four bytes in a row that are turned are told. No condition. -/
import Derived.WalkKit
import Derived.Laws.BitsLemmas
namespace Go.Proofs.YtcjpepdagnifiaaDoor

/-- One step: halved, and where it was odd xored. -/
def stp (c : Nat) : Nat := if c % 2 = 1 then (c / 2) ^^^ 2197175160 else c / 2
def stpN : Nat → Nat → Nat
  | 0, c => c
  | n + 1, c => stpN n (stp c)
def crcB (b : UInt8) (c : Nat) : Nat := stpN 8 (c ^^^ b.toNat)
/-- What the bytes make of c. -/
def crcL : List UInt8 → Nat → Nat
  | [], c => c
  | b :: r, c => crcL r (crcB b c)

theorem stp_xor (a b : Nat) : stp (a ^^^ b) = stp a ^^^ stp b := by
  have h2 : (a ^^^ b) % 2 = (a % 2 + b % 2) % 2 := by
    have h := Nat.xor_mod_two_pow (a := a) (b := b) (n := 1)
    rw [show (2 : Nat) ^ 1 = 2 from rfl] at h
    rw [h]
    rcases Nat.mod_two_eq_zero_or_one a with ha | ha <;> rcases Nat.mod_two_eq_zero_or_one b with hb | hb <;> rw [ha, hb] <;> rfl
  have hd : (a ^^^ b) / 2 = a / 2 ^^^ b / 2 := Nat.xor_div_two
  unfold stp
  rw [h2, hd]
  rcases Nat.mod_two_eq_zero_or_one a with ha | ha <;> rcases Nat.mod_two_eq_zero_or_one b with hb | hb <;> simp only [ha, hb]
  · rfl
  · show _ = _
    rw [if_pos (by decide), if_neg (by decide), if_pos (by decide)]
    ac_rfl
  · rw [if_pos (by decide), if_pos (by decide), if_neg (by decide)]
    ac_rfl
  · rw [if_neg (by decide), if_pos (by decide), if_pos (by decide)]
    have e : ∀ x y p : Nat, (x ^^^ p) ^^^ (y ^^^ p) = x ^^^ y := by
      intro x y p
      have : (x ^^^ p) ^^^ (y ^^^ p) = (x ^^^ y) ^^^ (p ^^^ p) := by ac_rfl
      rw [this, Nat.xor_self, Nat.xor_zero]
    rw [e]

theorem xor_zero_eq {a b : Nat} (h : a ^^^ b = 0) : a = b := by
  have e : (a ^^^ b) ^^^ b = a := by rw [Nat.xor_assoc, Nat.xor_self, Nat.xor_zero]
  rw [h, Nat.zero_xor] at e
  exact e.symm

theorem stp_lt (c : Nat) (h : c < 2 ^ 32) : stp c < 2 ^ 32 := by
  unfold stp
  split
  · exact Nat.xor_lt_two_pow (by omega) (by decide)
  · omega

theorem stp_zero (c : Nat) (h : c < 2 ^ 32) (h0 : stp c = 0) : c = 0 := by
  unfold stp at h0
  split at h0
  · have e : c / 2 = 2197175160 := xor_zero_eq h0
    omega
  · omega

theorem stp_two (x : Nat) : stp (2 * x) = x := by unfold stp; rw [if_neg (by omega)]; omega

theorem stpN_add : ∀ a b c : Nat, stpN (a + b) c = stpN b (stpN a c) := by
  intro a
  induction a with
  | zero => intro b c; rw [Nat.zero_add]; rfl
  | succ a ih => intro b c; rw [show a + 1 + b = (a + b) + 1 from by omega]; exact ih b (stp c)
theorem stpN_succ (a c : Nat) : stpN (a + 1) c = stp (stpN a c) := stpN_add a 1 c

theorem stpN_xor : ∀ n a b : Nat, stpN n (a ^^^ b) = stpN n a ^^^ stpN n b := by
  intro n
  induction n with
  | zero => intro a b; rfl
  | succ n ih => intro a b; show stpN n (stp (a ^^^ b)) = _; rw [stp_xor, ih]; rfl
theorem stpN_lt : ∀ n c : Nat, c < 2 ^ 32 → stpN n c < 2 ^ 32 := by
  intro n
  induction n with
  | zero => intro c h; exact h
  | succ n ih => intro c h; exact ih _ (stp_lt c h)
theorem stpN_zero : ∀ n c : Nat, c < 2 ^ 32 → stpN n c = 0 → c = 0 := by
  intro n
  induction n with
  | zero => intro c _ h; exact h
  | succ n ih => intro c h h0; exact stp_zero c h (ih _ (stp_lt c h) h0)
theorem stpN_at0 : ∀ n : Nat, stpN n 0 = 0 := by
  intro n
  induction n with
  | zero => rfl
  | succ n ih => exact ih
theorem stpN_two : ∀ n x : Nat, stpN n (2 ^ n * x) = x := by
  intro n
  induction n with
  | zero => intro x; show 1 * x = x; omega
  | succ n ih =>
    intro x
    show stpN n (stp (2 ^ (n + 1) * x)) = x
    rw [show 2 ^ (n + 1) * x = 2 * (2 ^ n * x) from by rw [Nat.pow_succ, Nat.mul_comm (2 ^ n) 2, Nat.mul_assoc], stp_two, ih]

theorem xor_split (i a b : Nat) (h : b < 2 ^ i) : 2 ^ i * a + b = 2 ^ i * a ^^^ b := by
  apply Nat.eq_of_testBit_eq
  intro j
  rw [Nat.testBit_two_pow_mul_add _ h, Nat.testBit_xor, Nat.testBit_two_pow_mul]
  by_cases hj : j < i
  · rw [if_pos hj, decide_eq_false (by omega)]; simp
  · have hb : b.testBit j = false := Nat.testBit_lt_two_pow (Nat.lt_of_lt_of_le h (Nat.pow_le_pow_right (by omega) (by omega)))
    rw [if_neg hj, decide_eq_true (by omega), hb]; simp

/-- The table of sixteen. -/
def tabN : List Nat := [0, 274646895, 549293790, 820201905, 1098587580, 1361435347, 1640403810, 1905808397, 2197175160, 2460548119, 2722870694, 2987750089, 3280807620, 3553878443, 3811616794, 4084100981]
def tabv (r : Nat) : Nat := tabN.getD r 0
theorem tab_small : ∀ r, r < 16 → stpN 4 r = tabv r := by decide
theorem tab_lt : ∀ r, r < 16 → tabv r < 2 ^ 32 := by decide
/-- Four steps are one look into the table. -/
theorem tab_step (c : Nat) : stpN 4 c = (c / 16) ^^^ tabv (c % 16) := by
  have e : c = 2 ^ 4 * (c / 16) ^^^ (c % 16) := by rw [← xor_split 4 _ _ (by omega)]; omega
  have h : stpN 4 c = stpN 4 (2 ^ 4 * (c / 16) ^^^ (c % 16)) := congrArg _ e
  rw [h, stpN_xor, stpN_two, tab_small _ (by omega)]
theorem crcB_two (c : Nat) (b : UInt8) : crcB b c = stpN 4 (stpN 4 (c ^^^ b.toNat)) := by
  unfold crcB
  rw [← stpN_add]

theorem byte_lt (b : UInt8) : b.toNat < 2 ^ 32 := Nat.lt_trans (UInt8.toNat_lt b) (by decide)
theorem crcB_lt (b : UInt8) (c : Nat) (h : c < 2 ^ 32) : crcB b c < 2 ^ 32 := stpN_lt _ _ (Nat.xor_lt_two_pow h (byte_lt b))
theorem crcL_lt : ∀ (l : List UInt8) (c : Nat), c < 2 ^ 32 → crcL l c < 2 ^ 32 := by
  intro l
  induction l with
  | nil => intro c h; exact h
  | cons b r ih => intro c h; exact ih _ (crcB_lt b c h)
theorem crcL_append : ∀ (l r : List UInt8) (c : Nat), crcL (l ++ r) c = crcL r (crcL l c) := by
  intro l
  induction l with
  | nil => intro r c; rfl
  | cons b l ih => intro r c; exact ih r _
theorem crcL_snoc (l : List UInt8) (b : UInt8) (c : Nat) : crcL (l ++ [b]) c = crcB b (crcL l c) := crcL_append l [b] c

theorem crcB_xor (a m : UInt8) (c d : Nat) : crcB (a ^^^ m) (c ^^^ d) = crcB a c ^^^ crcB m d := by
  unfold crcB
  rw [← stpN_xor, UInt8.toNat_xor]
  congr 1
  ac_rfl
theorem crcL_xor : ∀ (l m : List UInt8) (c d : Nat), l.length = m.length → crcL (List.zipWith (· ^^^ ·) l m) (c ^^^ d) = crcL l c ^^^ crcL m d := by
  intro l
  induction l with
  | nil => intro m c d h; cases m with
    | nil => rfl
    | cons _ _ => simp at h
  | cons a l ih => intro m c d h; cases m with
    | nil => simp at h
    | cons b m =>
      show crcL (List.zipWith (· ^^^ ·) l m) (crcB (a ^^^ b) (c ^^^ d)) = _
      rw [crcB_xor, ih m _ _ (by simpa using h)]
      rfl

theorem crcL_noughts : ∀ n d : Nat, crcL (List.replicate n 0) d = stpN (8 * n) d := by
  intro n
  induction n with
  | zero => intro d; rfl
  | succ n ih =>
    intro d
    rw [List.replicate_succ]
    show crcL (List.replicate n 0) (crcB 0 d) = _
    rw [ih, show 8 * (n + 1) = 8 + 8 * n from by omega, stpN_add]
    show stpN (8 * n) (stpN 8 (d ^^^ 0)) = _
    rw [Nat.xor_zero]

/-- The number of which these bytes are, the lowest first. -/
def lowV : List UInt8 → Nat
  | [] => 0
  | b :: r => 2 ^ 8 * lowV r + b.toNat
theorem lowV_lt : ∀ l : List UInt8, lowV l < 256 ^ l.length := by
  intro l
  induction l with
  | nil => decide
  | cons b r ih =>
    show 2 ^ 8 * lowV r + b.toNat < 256 ^ (r.length + 1)
    have hb := UInt8.toNat_lt b
    rw [Nat.pow_succ]
    omega
theorem lowV_zero : ∀ l : List UInt8, lowV l = 0 ↔ ∀ m ∈ l, m = 0 := by
  intro l
  induction l with
  | nil => simp [lowV]
  | cons b r ih =>
    show 2 ^ 8 * lowV r + b.toNat = 0 ↔ _
    rw [List.forall_mem_cons, ← ih]
    constructor
    · intro h; exact ⟨UInt8.toNat_inj.1 (by show b.toNat = 0; omega), by omega⟩
    · rintro ⟨rfl, h⟩; rw [h]; rfl
theorem crcL_low : ∀ (l : List UInt8) (d : Nat), crcL l d = stpN (8 * l.length) (d ^^^ lowV l) := by
  intro l
  induction l with
  | nil => intro d; exact (Nat.xor_zero d).symm
  | cons b r ih =>
    intro d
    show crcL r (crcB b d) = _
    rw [ih, List.length_cons, show 8 * (r.length + 1) = 8 + 8 * r.length from by omega, stpN_add]
    congr 1
    unfold crcB
    have e : lowV r = stpN 8 (2 ^ 8 * lowV r) := (stpN_two 8 _).symm
    rw [show stpN 8 (d ^^^ b.toNat) ^^^ lowV r = stpN 8 (d ^^^ b.toNat) ^^^ stpN 8 (2 ^ 8 * lowV r) from by rw [← e], ← stpN_xor]
    congr 1
    show _ = d ^^^ (2 ^ 8 * lowV r + b.toNat)
    rw [xor_split 8 _ _ (UInt8.toNat_lt b)]
    ac_rfl

/-- At most four bytes in a row, of which one is turned, are told; of which none is are not. -/
theorem crc_told (L ms : List UInt8) (k r c : Nat) (hl : L.length = k + ms.length + r) (h4 : ms.length ≤ 4) :
    crcL (List.zipWith (· ^^^ ·) L (List.replicate k 0 ++ ms ++ List.replicate r 0)) c = crcL L c ↔ ∀ m ∈ ms, m = 0 := by
  have e := crcL_xor L (List.replicate k 0 ++ ms ++ List.replicate r 0) c 0 (by simp; omega)
  rw [Nat.xor_zero] at e
  rw [e, crcL_append, crcL_append, crcL_noughts k, stpN_at0, crcL_noughts r, crcL_low ms, Nat.zero_xor]
  have hb : lowV ms < 2 ^ 32 := by
    refine Nat.lt_of_lt_of_le (lowV_lt ms) ?_
    exact Nat.le_trans (Nat.pow_le_pow_right (by omega) h4) (by decide)
  rw [← lowV_zero]
  constructor
  · intro h
    have h0 : stpN (8 * r) (stpN (8 * ms.length) (lowV ms)) = 0 := by
      have := congrArg (crcL L c ^^^ ·) h
      simp only [← Nat.xor_assoc, Nat.xor_self, Nat.zero_xor] at this
      exact this
    exact stpN_zero _ _ hb (stpN_zero _ _ (stpN_lt _ _ hb) h0)
  · intro h
    rw [h, stpN_at0, stpN_at0, Nat.xor_zero]

/-- xor of two numbers from 0 on, in a kind that they fit. -/
theorem bits_xor_nat (k : IntKind) (j : Nat) (hj : j ≤ k.bits) (hk : ∀ n : Int, 0 ≤ n → n < 2 ^ j → k.wrap n = n) (a b : Nat) (ha : a < 2 ^ j) (hb : b < 2 ^ j) :
    bits .xor k a b = ((a ^^^ b : Nat) : Int) := by
  have hp : 2 ^ j ≤ 2 ^ k.bits := Nat.pow_le_pow_right (by decide) hj
  have ha' : a % 2 ^ k.bits = a := Nat.mod_eq_of_lt (Nat.lt_of_lt_of_le ha hp)
  have hb' : b % 2 ^ k.bits = b := Nat.mod_eq_of_lt (Nat.lt_of_lt_of_le hb hp)
  simp only [bits, BitVec.ofInt_natCast, BitVec.toNat_xor, BitVec.toNat_ofNat, ha', hb']
  exact hk _ (Int.natCast_nonneg _) (by exact_mod_cast Nat.xor_lt_two_pow ha hb)
theorem xor_i64 (a b : Nat) (ha : a < 2 ^ 32) (hb : b < 2 ^ 32) : bits .xor .i64 a b = ((a ^^^ b : Nat) : Int) :=
  bits_xor_nat .i64 32 (by decide) (fun n h0 h1 => by rw [IntKind.wrap_i64]; omega) a b ha hb
theorem xor_u32 (a b : Nat) (ha : a < 2 ^ 32) (hb : b < 2 ^ 32) : bits .xor .u32 a b = ((a ^^^ b : Nat) : Int) :=
  bits_xor_nat .u32 32 (by decide) (fun n h0 h1 => by rw [IntKind.wrap_u32]; omega) a b ha hb
theorem xor_u8 (a b : UInt8) : bits .xor .u8 (a.toNat : Int) (b.toNat : Int) = ((a ^^^ b).toNat : Int) := by
  rw [bits_xor_nat .u8 8 (by decide) (fun n h0 h1 => by rw [IntKind.wrap_u8]; omega) _ _ (UInt8.toNat_lt a) (UInt8.toNat_lt b), UInt8.toNat_xor]
theorem look_u32 (D : Nat) (hD : D < 2 ^ 32) : bits .xor .u32 ((D : Int) / 16) ((tabv (D % 16) : Nat) : Int) = ((stpN 4 D : Nat) : Int) := by
  rw [tab_step D, ← xor_u32 (D / 16) _ (by omega) (tab_lt _ (by omega))]
  rfl
theorem half_i64 (v : Nat) (hv : v < 2 ^ 32) (ho : v % 2 = 1) : bits .xor .i64 ((v : Int) / 2) 2197175160 = ((stp v : Nat) : Int) := by
  have h := xor_i64 (v / 2) 2197175160 (by omega) (by decide)
  unfold stp
  rw [if_pos ho, ← h]
  rfl
theorem half_even (v : Nat) (ho : ¬ v % 2 = 1) : (v : Int) / 2 = ((stp v : Nat) : Int) := by
  unfold stp
  rw [if_neg ho]
  rfl
theorem and15_u32 (a : Nat) (ha : a < 2 ^ 32) : bits .and .u32 (a : Int) 15 = ((a % 16 : Nat) : Int) := by
  have h := bits_mask .u32 32 (by decide) (fun n h0 h1 => by rw [IntKind.wrap_u32]; omega) 4 (by decide) (a : Int) (by omega) (by omega)
  have e : ((2 : Int) ^ 4 - 1) = 15 := by decide
  rw [e] at h
  rw [h]
  rfl

end Go.Proofs.YtcjpepdagnifiaaDoor
