import Derived.Laws.Entries
import Derived.Laws.Bits64
namespace Go.Proofs.Ytjbkpibkpiljoaa

/-! ### Plain mathematics: the check, bit by bit and byte by byte -/

def stepN (c : Nat) : Nat := if c % 2 = 1 then (c / 2) ^^^ 2197175160 else c / 2
def stepK : Nat → Nat → Nat
  | 0, c => c
  | k + 1, c => stepN (stepK k c)
def byteS (c : Nat) (b : UInt8) : Nat := stepK 8 (c ^^^ b.toNat)
def crcF (c : Nat) (l : List UInt8) : Nat := l.foldl byteS c
def crc (l : List UInt8) : Nat := 4294967295 - crcF 4294967295 l

theorem xor_lt32 {a b : Nat} (ha : a < 4294967296) (hb : b < 4294967296) : a ^^^ b < 4294967296 := by
  have := Nat.xor_lt_two_pow (x := a) (y := b) (n := 32) (by omega) (by omega)
  omega
theorem stepN_lt {c : Nat} (h : c < 4294967296) : stepN c < 4294967296 := by
  unfold stepN
  split
  · exact xor_lt32 (by omega) (by omega)
  · omega
theorem stepK_lt {c : Nat} (k : Nat) (h : c < 4294967296) : stepK k c < 4294967296 := by
  induction k with
  | zero => exact h
  | succ k ih => exact stepN_lt ih
theorem byteS_lt {c : Nat} (b : UInt8) (h : c < 4294967296) : byteS c b < 4294967296 :=
  stepK_lt 8 (xor_lt32 h (by have := b.toNat_lt; omega))
theorem crcF_lt (l : List UInt8) : ∀ {c : Nat}, c < 4294967296 → crcF c l < 4294967296 := by
  induction l with
  | nil => intro c h; exact h
  | cons b l ih => intro c h; exact ih (byteS_lt b h)
theorem crcF_snoc (c : Nat) (l : List UInt8) (b : UInt8) : crcF c (l ++ [b]) = byteS (crcF c l) b := by
  simp [crcF, List.foldl_append]
theorem crc_lt (l : List UInt8) : crc l < 4294967296 := by unfold crc; omega

/-- one step is linear -/
theorem xor_swap (a b c d : Nat) : (a ^^^ b) ^^^ (c ^^^ d) = (a ^^^ c) ^^^ (b ^^^ d) := by
  rw [Nat.xor_assoc, ← Nat.xor_assoc b c d, Nat.xor_comm b c, Nat.xor_assoc c b d, ← Nat.xor_assoc]
def low (c : Nat) : Nat := if c % 2 = 1 then 2197175160 else 0
theorem stepN_eq (c : Nat) : stepN c = (c / 2) ^^^ low c := by
  unfold stepN low; split <;> simp
theorem low_xor (a b : Nat) : low (a ^^^ b) = low a ^^^ low b := by
  have h := Nat.xor_mod_two_eq_one (a := a) (b := b)
  unfold low
  by_cases ha : a % 2 = 1 <;> by_cases hb : b % 2 = 1 <;> simp [h, ha, hb]
theorem half_xor (a b : Nat) : (a ^^^ b) / 2 = (a / 2) ^^^ (b / 2) := by
  apply Nat.eq_of_testBit_eq
  intro i
  simp [Nat.testBit_xor, Nat.testBit_div_two]
theorem stepN_xor (a b : Nat) : stepN (a ^^^ b) = stepN a ^^^ stepN b := by
  rw [stepN_eq, stepN_eq, stepN_eq, low_xor, half_xor, xor_swap]
theorem stepK_xor (k a b : Nat) : stepK k (a ^^^ b) = stepK k a ^^^ stepK k b := by
  induction k with
  | zero => rfl
  | succ k ih => simp only [stepK, ih, stepN_xor]
theorem stepN_even (m : Nat) : stepN (2 * m) = m := by
  unfold stepN
  rw [if_neg (by omega)]; omega
theorem stepK_succ' (k c : Nat) : stepK (k + 1) c = stepK k (stepN c) := by
  induction k with
  | zero => rfl
  | succ k ih => rw [stepK, ih]; rfl
theorem stepK_shift (k m : Nat) : stepK k (2 ^ k * m) = m := by
  induction k with
  | zero => simp [stepK]
  | succ k ih => rw [stepK_succ', Nat.pow_succ, Nat.mul_comm (2 ^ k) 2, Nat.mul_assoc, stepN_even, ih]
theorem split_xor (c : Nat) : c = (256 * (c / 256)) ^^^ (c % 256) := by
  have h := Nat.two_pow_add_eq_or_of_lt (i := 8) (b := c % 256) (by omega) (c / 256)
  have h2 : (256 * (c / 256)) ^^^ (c % 256) = (256 * (c / 256)) ||| (c % 256) := by
    apply Nat.eq_of_testBit_eq
    intro i
    rw [Nat.testBit_xor, Nat.testBit_or]
    have e : (256 : Nat) = 2 ^ 8 := rfl
    rw [e, Nat.testBit_two_pow_mul, Nat.testBit_mod_two_pow]
    by_cases hi : i < 8
    · have h8 : ¬ 8 ≤ i := by omega
      simp [h8]
    · simp [hi]
  rw [h2]
  have e : (256 : Nat) = 2 ^ 8 := rfl
  rw [e, ← h]
  omega
/-- a byte's eight steps, by the low byte alone -/
theorem byteS_eq (c : Nat) (b : UInt8) : byteS c b = (c / 256) ^^^ stepK 8 ((c % 256) ^^^ b.toNat) := by
  unfold byteS
  conv => lhs; rw [split_xor c]
  rw [Nat.xor_assoc, stepK_xor]
  congr 1
  exact stepK_shift 8 (c / 256)

/-! ### The model's bits of 32-bit numbers -/
theorem ofInt32 (a : Nat) (ha : a < 4294967296) : (BitVec.ofInt 32 (a : Int)).toNat = a := by
  rw [BitVec.ofInt_natCast, BitVec.toNat_ofNat]; exact Nat.mod_eq_of_lt (by omega)
theorem wrap_u32_nat (a : Nat) (ha : a < 4294967296) : IntKind.u32.wrap (a : Int) = (a : Int) := by
  simp [IntKind.wrap, IntKind.bits, IntKind.signed]; omega
theorem bits_xor_u32_nat (a b : Nat) (ha : a < 4294967296) (hb : b < 4294967296) :
    bits .xor .u32 (a : Int) (b : Int) = ((a ^^^ b : Nat) : Int) := by
  show IntKind.u32.wrap ((BitVec.ofInt 32 (a : Int) ^^^ BitVec.ofInt 32 (b : Int)).toNat : Int) = _
  rw [BitVec.toNat_xor, ofInt32 a ha, ofInt32 b hb, wrap_u32_nat _ (xor_lt32 ha hb)]
theorem bits_and1_u32_nat (a : Nat) (ha : a < 4294967296) : bits .and .u32 (a : Int) 1 = ((a % 2 : Nat) : Int) := by
  show IntKind.u32.wrap ((BitVec.ofInt 32 (a : Int) &&& BitVec.ofInt 32 ((1 : Nat) : Int)).toNat : Int) = _
  rw [BitVec.toNat_and, ofInt32 a ha, ofInt32 1 (by omega), Nat.and_one_is_mod, wrap_u32_nat _ (by omega)]
theorem bits_or_u32_nat (a b : Nat) (ha : a < 4294967296) (hb : b < 4294967296) :
    bits .or .u32 (a : Int) (b : Int) = ((a ||| b : Nat) : Int) := by
  have hx : a ||| b < 2 ^ 32 := Nat.or_lt_two_pow (by omega) (by omega)
  show IntKind.u32.wrap ((BitVec.ofInt 32 (a : Int) ||| BitVec.ofInt 32 (b : Int)).toNat : Int) = _
  rw [BitVec.toNat_or, ofInt32 a ha, ofInt32 b hb, wrap_u32_nat _ (by omega)]
theorem bits_not_u32_nat (c : Nat) (hc : c < 4294967296) : bits .xor .u32 IntKind.u32.max (c : Int) = ((4294967295 - c : Nat) : Int) := by
  have e : BitVec.ofInt 32 IntKind.u32.max = BitVec.allOnes 32 := by decide
  show IntKind.u32.wrap ((BitVec.ofInt 32 IntKind.u32.max ^^^ BitVec.ofInt 32 (c : Int)).toNat : Int) = _
  rw [e, BitVec.allOnes_xor, BitVec.toNat_not, ofInt32 c hc]
  exact wrap_u32_nat _ (by omega)

/-! ### Numbers as bytes, the high one first -/
def wideL (v : Nat) : Nat → List UInt8
  | 0 => []
  | n + 1 => wideL (v / 256) n ++ [UInt8.ofNat (v % 256)]
theorem wideL_length (n : Nat) : ∀ v, (wideL v n).length = n := by
  induction n with
  | zero => intro v; rfl
  | succ n ih => intro v; simp [wideL, ih]
def fromL (l : List UInt8) : Nat := l.foldl (fun n b => n * 256 + b.toNat) 0
theorem fromL_snoc (l : List UInt8) (b : UInt8) : fromL (l ++ [b]) = fromL l * 256 + b.toNat := by
  simp [fromL, List.foldl_append]
theorem snoc_cases (l : List UInt8) (n : Nat) (h : l.length = n + 1) : ∃ (r : List UInt8) (b : UInt8), l = r ++ [b] ∧ r.length = n := by
  refine ⟨l.dropLast, l.getLast (by intro e; simp [e] at h), (List.dropLast_concat_getLast _).symm, by simp [h]⟩
theorem fromL_lt' (n : Nat) : ∀ l : List UInt8, l.length = n → fromL l < 256 ^ n := by
  induction n with
  | zero => intro l h; simp [List.eq_nil_of_length_eq_zero h, fromL]
  | succ n ih =>
    intro l h
    obtain ⟨r, b, rfl, hr⟩ := snoc_cases l n h
    have hb := b.toNat_lt
    have := ih r hr
    rw [fromL_snoc, Nat.pow_succ]
    omega
theorem fromL_lt (l : List UInt8) : fromL l < 256 ^ l.length := fromL_lt' _ l rfl
theorem wide_from (n : Nat) : ∀ l : List UInt8, l.length = n → wideL (fromL l) n = l := by
  induction n with
  | zero => intro l h; simp [wideL, List.eq_nil_of_length_eq_zero h]
  | succ n ih =>
    intro l h
    obtain ⟨r, b, rfl, hr⟩ := snoc_cases l n h
    have hb := b.toNat_lt
    rw [fromL_snoc, wideL, show (fromL r * 256 + b.toNat) / 256 = fromL r by omega, show (fromL r * 256 + b.toNat) % 256 = b.toNat by omega, ih r hr]
    simp
theorem from_wide (n : Nat) : ∀ v, v < 256 ^ n → fromL (wideL v n) = v := by
  induction n with
  | zero => intro v h; simp [wideL, fromL] at *; omega
  | succ n ih =>
    intro v h
    rw [wideL, fromL_snoc, ih (v / 256) (by rw [Nat.pow_succ] at h; omega)]
    simp
    omega
/-- a number is what four bytes tell just where the four bytes are the number's -/
theorem from_eq_iff (v : Nat) (hv : v < 4294967296) (l : List UInt8) (h : l.length = 4) : v = fromL l ↔ l = wideL v 4 := by
  constructor
  · intro e; rw [e, wide_from 4 l h]
  · intro e; rw [e, from_wide 4 v (by omega)]
theorem or_add (c b : Nat) (hb : b < 256) : c * 256 ||| b = c * 256 + b := by
  have h := Nat.two_pow_add_eq_or_of_lt (i := 8) (b := b) (by omega) c
  have e : (2 : Nat) ^ 8 * c = c * 256 := by omega
  rw [e] at h
  exact h.symm
def highB (v n i : Nat) : UInt8 := UInt8.ofNat (v / 2 ^ (8 * (n - 1 - i)) % 256)
def highL (v n : Nat) : List UInt8 := (List.range n).map (highB v n)
theorem highL_2 (v : Nat) : highL v 2 = wideL v 2 := by
  simp [highL, highB, wideL, List.range_succ]
theorem highL_4 (v : Nat) : highL v 4 = wideL v 4 := by
  simp [highL, highB, wideL, List.range_succ, Nat.div_div_eq_div_mul]

end Go.Proofs.Ytjbkpibkpiljoaa
