/-
  SETS AS NUMBERS: what Go's bit operations give on numbers below 256, and the contracts of the small functions on sets.
-/
import Derived.Test.YtjijkgmeddeihaaDoorBase
namespace Go.Proofs.YtjijkgmeddeihaaDoor
set_option linter.unusedVariables false
set_option linter.unusedSimpArgs false
open Go.RowKit

theorem pow8_le {v : Nat} (hv : v < 9) : 2 ^ v ≤ 256 := by
  have : 2 ^ v ≤ 2 ^ 8 := Nat.pow_le_pow_right (by decide) (by omega)
  simpa using this

theorem wraps_i64 (n : Int) (h₀ : 0 ≤ n) (h₁ : n < 2 ^ 62) : IntKind.i64.wrap n = n := by rw [IntKind.wrap_i64]; omega

theorem and64 (a b : Nat) (ha : a < 4611686018427387904) (hb : b < 4611686018427387904) : bits .and .i64 (a : Int) (b : Int) = ((a &&& b : Nat) : Int) :=
  (bits_nat .i64 62 (by decide) wraps_i64 a b (by simpa using ha) (by simpa using hb)).1
theorem or64 (a b : Nat) (ha : a < 4611686018427387904) (hb : b < 4611686018427387904) : bits .or .i64 (a : Int) (b : Int) = ((a ||| b : Nat) : Int) :=
  (bits_nat .i64 62 (by decide) wraps_i64 a b (by simpa using ha) (by simpa using hb)).2

theorem and_low (a x : Nat) (ha : a < 256) : a &&& x = a &&& (x % 256) := by
  have h1 : (a &&& x) % 2 ^ 8 = a % 2 ^ 8 &&& x % 2 ^ 8 := Nat.and_mod_two_pow
  have h2 : a &&& x ≤ a := Nat.and_le_left
  have h3 : a % 2 ^ 8 = a := Nat.mod_eq_of_lt (by simpa using ha)
  have h4 : (a &&& x) % 2 ^ 8 = a &&& x := Nat.mod_eq_of_lt (by omega)
  rw [h3, h4] at h1
  simpa using h1

theorem andNot64 (a b : Nat) (ha : a < 256) (hb : b < 256) : bits .andNot .i64 (a : Int) (b : Int) = ((a &&& (255 - b) : Nat) : Int) := by
  show IntKind.i64.wrap ((BitVec.ofInt 64 (a : Int) &&& ~~~BitVec.ofInt 64 (b : Int)).toNat : Int) = _
  rw [BitVec.toNat_and, BitVec.toNat_not, BitVec.ofInt_natCast, BitVec.ofInt_natCast, BitVec.toNat_ofNat, BitVec.toNat_ofNat]
  have h1 : a % 2 ^ 64 = a := Nat.mod_eq_of_lt (by omega)
  have h2 : b % 2 ^ 64 = b := Nat.mod_eq_of_lt (by omega)
  rw [h1, h2, and_low a _ ha]
  have e : (2 ^ 64 - 1 - b) % 256 = 255 - b := by omega
  rw [e]
  have hx : a &&& (255 - b) ≤ a := Nat.and_le_left
  exact wraps_i64 _ (by omega) (by omega)

theorem pow_wrap {v : Nat} (hv : v < 9) : wrap64 (2 ^ v) = ((2 ^ v : Nat) : Int) := by
  have h := pow8_le hv
  have e : (2 ^ v : Int) = ((2 ^ v : Nat) : Int) := by simp
  rw [e]
  generalize 2 ^ v = m at h
  unfold wrap64
  omega

theorem low_wrap {v : Nat} (hv : v < 9) : wrap64 (wrap64 (2 ^ v) - 1) = ((2 ^ v - 1 : Nat) : Int) := by
  rw [pow_wrap hv]
  have h := pow8_le hv
  have h1 : 0 < 2 ^ v := Nat.two_pow_pos v
  generalize 2 ^ v = m at h h1
  unfold wrap64
  omega

theorem wrap_eq (n : Int) : IntKind.i64.wrap n = wrap64 n := by unfold wrap64; exact IntKind.wrap_i64 n

theorem or_pow {s v : Nat} (hs : s < 256) (hv : v < 9) : bits .or .i64 (s : Int) (wrap64 (2 ^ v)) = ((s ||| 2 ^ v : Nat) : Int) := by
  have h := pow8_le hv
  rw [pow_wrap hv, or64 s _ (by omega) (by omega)]

theorem or_one {s : Nat} (hs : s < 256) : bits .or .i64 (s : Int) 1 = ((s ||| 1 : Nat) : Int) := by
  have := or64 s 1 (by omega) (by omega)
  simpa using this

theorem has_bit (s v : Nat) (hs : s < 256) (hv : v < 8) : (bits .and .i64 (s : Int) (wrap64 (2 ^ v)) != 0) = s.testBit v := by
  have h := pow8_le (v := v) (by omega)
  rw [pow_wrap (by omega), and64 s _ (by omega) (by omega), nat_bit, Nat.testBit_eq_decide_div_mod_eq]
  have h1 : 0 < 2 ^ v := Nat.two_pow_pos v
  by_cases hb : s / 2 ^ v % 2 = 1
  · rw [hb]
    generalize 2 ^ v = m at h1
    have : ((1 * m : Nat) : Int) ≠ 0 := by omega
    rw [bne_iff_ne.2 this]; simp
  · have : s / 2 ^ v % 2 = 0 := by omega
    rw [this]; simp

theorem shr_bit (s v : Nat) (hs : s < 256) : (bits .and .i64 ((s : Int) / 2 ^ v) 1 == 1) = s.testBit v := by
  have e : (s : Int) / 2 ^ v = ((s / 2 ^ v : Nat) : Int) := by simp
  have hd : s / 2 ^ v ≤ s := Nat.div_le_self _ _
  rw [e]
  have := and64 (s / 2 ^ v) 1 (by omega) (by omega)
  simp only [Int.cast_ofNat_Int] at this
  rw [this, nat_mask1, Nat.testBit_eq_decide_div_mod_eq]
  by_cases hb : s / 2 ^ v % 2 = 1
  · rw [hb]; simp
  · have : s / 2 ^ v % 2 = 0 := by omega
    rw [this]; simp

theorem pow7_lt {k : Nat} (hk : k < 8) : 2 ^ k < 256 := by
  have : 2 ^ k ≤ 2 ^ 7 := Nat.pow_le_pow_right (by decide) (by omega)
  omega

/-- All nodes but one. -/
theorem full_val (n k : Nat) (hn : n < 9) (hk : k < 8) : bits .andNot .i64 (IntKind.i64.wrap (IntKind.i64.wrap (2 ^ n) - 1)) (IntKind.i64.wrap (2 ^ k)) = (((2 ^ n - 1) &&& (255 - 2 ^ k) : Nat) : Int) := by
  have h := pow8_le hn
  have h1 : 0 < 2 ^ n := Nat.two_pow_pos n
  rw [wrap_eq, wrap_eq, wrap_eq, low_wrap hn, pow_wrap (by omega)]
  exact andNot64 _ _ (by omega) (pow7_lt hk)

/-- A number of an int64 without bits from n on is one from 0 to 2^n - 1. -/
theorem outside_zero (x : Int) (n : Nat) (hn : n < 9) (h1 : -9223372036854775808 ≤ x) (h2 : x ≤ 9223372036854775807) :
    (bits .andNot .i64 x ((2 ^ n - 1 : Nat) : Int) != 0) = !decide (0 ≤ x ∧ x < ((2 ^ n : Nat) : Int)) := by
  have hp := pow8_le hn
  have hp0 : 0 < 2 ^ n := Nat.two_pow_pos n
  have e : bits .andNot .i64 x ((2 ^ n - 1 : Nat) : Int) = IntKind.i64.wrap (((x % 18446744073709551616).toNat &&& (2 ^ 64 - 1 - (2 ^ n - 1)) : Nat) : Int) := by
    show IntKind.i64.wrap ((BitVec.ofInt 64 x &&& ~~~BitVec.ofInt 64 ((2 ^ n - 1 : Nat) : Int)).toNat : Int) = _
    rw [BitVec.toNat_and, BitVec.toNat_not, BitVec.ofInt_natCast, BitVec.toNat_ofNat, BitVec.toNat_ofInt, Nat.mod_eq_of_lt (by omega : 2 ^ n - 1 < 2 ^ 64)]
    rfl
  rw [e]
  generalize hX : (x % 18446744073709551616).toNat = X
  have hXlt : X < 18446744073709551616 := by omega
  have hand : X &&& (2 ^ 64 - 1 - (2 ^ n - 1)) = 0 ↔ X < 2 ^ n := by
    have hm : 2 ^ 64 - 1 - (2 ^ n - 1) = 2 ^ n * (2 ^ (64 - n) - 1) := by
      rw [Nat.mul_sub, ← Nat.pow_add, show n + (64 - n) = 64 by omega]; omega
    rw [hm]
    constructor
    · intro h
      rcases Nat.lt_or_ge X (2 ^ n) with h' | h'
      · exact h'
      · exfalso
        obtain ⟨i, hi, hb⟩ := Nat.exists_ge_and_testBit_of_ge_two_pow h'
        have hi64 : i < 64 := by
          rcases Nat.lt_or_ge i 64 with h'' | h''
          · exact h''
          · have : X.testBit i = false := Nat.testBit_lt_two_pow (Nat.lt_of_lt_of_le hXlt (by
              have : 2 ^ 64 ≤ 2 ^ i := Nat.pow_le_pow_right (by decide) h''
              simpa using this))
            rw [this] at hb; cases hb
        have hz : (X &&& 2 ^ n * (2 ^ (64 - n) - 1)).testBit i = true := by
          rw [Nat.testBit_and, hb, Nat.testBit_two_pow_mul, Nat.testBit_two_pow_sub_one]
          simp; omega
        rw [h] at hz; simp at hz
    · intro h
      apply Nat.eq_of_testBit_eq
      intro i
      rw [Nat.testBit_and, Nat.testBit_two_pow_mul]
      rcases Nat.lt_or_ge i n with h' | h'
      · simp; omega
      · have : X.testBit i = false := Nat.testBit_lt_two_pow (Nat.lt_of_lt_of_le h (Nat.pow_le_pow_right (by decide) h'))
        simp [this]
  have hb : X &&& (2 ^ 64 - 1 - (2 ^ n - 1)) < 18446744073709551616 := by
    have : X &&& (2 ^ 64 - 1 - (2 ^ n - 1)) ≤ X := Nat.and_le_left
    omega
  generalize X &&& (2 ^ 64 - 1 - (2 ^ n - 1)) = Y at *
  have hw : IntKind.i64.wrap (Y : Int) = 0 ↔ Y = 0 := by rw [IntKind.wrap_i64]; omega
  by_cases hy : Y = 0
  · have := hand.1 hy
    have hx : 0 ≤ x ∧ x < ((2 ^ n : Nat) : Int) := by omega
    rw [hw.2 hy, decide_eq_true hx]; rfl
  · have h3 : ¬ X < 2 ^ n := fun h => hy (hand.2 h)
    have hx : ¬ (0 ≤ x ∧ x < ((2 ^ n : Nat) : Int)) := by omega
    rw [decide_eq_false hx]
    have : ¬ IntKind.i64.wrap (Y : Int) = 0 := fun h => hy (hw.1 h)
    simp [this]

end Go.Proofs.YtjijkgmeddeihaaDoor
