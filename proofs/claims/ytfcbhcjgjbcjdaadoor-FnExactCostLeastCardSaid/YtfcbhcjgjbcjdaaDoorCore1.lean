/-
  Core1: Base Bits Sets Tz Elems.
-/
import Derived.Test.YtfcbhcjgjbcjdaaDoorProg
import Derived.WalkKit
import Derived.WalkSpells
import Derived.WalkLawsBesides
import Derived.RangeFuncBox
import Derived.Deep.OwnRows
import Derived.Lib.Hide
/-
  WHAT EVERY TEXT OF THIS SEAT LEANS ON: a slice of integers that can be read (Ints), and small facts on memory.
-/
namespace Go.Proofs.YtfcbhcjgjbcjdaaDoor
set_option linter.unusedVariables false
set_option linter.unusedSimpArgs false
open Go.RowKit

/-- A slice value whose cells hold these integers. -/
def Ints (w : World) (v : Value) (xs : List Int) : Prop :=
  ∃ A cap, v = .slice A xs.length cap ∧ xs.length ≤ maxLen ∧
    ∀ (i : Nat) (_ : i < xs.length), ∃ b off, A = some ⟨b, off, none⟩ ∧ w.cell? ⟨b, off + i, none⟩ = some (.int .i64 xs[i])

abbrev vals (xs : List Int) : List Value := xs.map (Value.int .i64)

/-- A slice of one-cell elements that the call owns. -/
abbrev Owns (w : World) (base : Nat) (v : Value) (xs : List Int) : Prop :=
  w.ownsRow base 3 1 v xs.length (vals xs)

theorem grown_of_below {w w' : World} (h : Below w.heap.size w w') : w.grownBy w' none :=
  ⟨h.os, h.tape, h.output, h.size, fun k hk _ => h.block k hk⟩

theorem Ints.below {w w' : World} {v : Value} {xs : List Int} (h : Ints w v xs) (hb : Below w.heap.size w w') : Ints w' v xs := by
  obtain ⟨A, cap, hv, hm, hc⟩ := h
  refine ⟨A, cap, hv, hm, fun i hi => ?_⟩
  obtain ⟨b, off, hA, hcell⟩ := hc i hi
  exact ⟨b, off, hA, (hb.cell (p := ⟨b, off + i, none⟩) (World.block_lt_of_cell? w _ hcell)).trans hcell⟩

theorem Ints.drewN {w : World} {v : Value} {xs : List Int} (h : Ints w v xs) (n : Nat) : Ints (w.drewN n) v xs := h

theorem owns_below {w w' : World} {base n : Nat} {e : TypeId} {v : Value} {xs : List Value} (h : w.ownsRow base e 1 v n xs) (hb : Below w.heap.size w w') : w'.ownsRow base e 1 v n xs :=
  h.kept (grown_of_below hb) (by cases v.ownBlock <;> simp)

theorem ints_of_owns {w : World} {base : Nat} {e : TypeId} {v : Value} {xs : List Int} (h : w.ownsRow base e 1 v xs.length (vals xs)) : Ints w v xs := by
  have hl := h.1
  rcases h.2 with ⟨rfl, hn⟩ | ⟨g, cap, cur, rfl, hb, hg, hnc, hm, hcs, htake⟩
  · have : xs = [] := by simpa using hn
    subst this
    exact ⟨none, 0, rfl, by simp [maxLen], fun i hi => by simp at hi⟩
  · refine ⟨some ⟨g, 0, none⟩, cap, rfl, by omega, fun i hi => ⟨g, 0, rfl, ?_⟩⟩
    have hc := h.cells (g := g) rfl i (.int .i64 xs[i]) (by simp [hi])
    have hadd : (⟨g, 0, none⟩ : Addr).add i = ⟨g, 0 + i, none⟩ := by unfold Addr.add; split <;> simp_all
    rw [hadd] at hc
    exact hc

theorem grown_trans {w w1 w2 : World} {row : Option Nat} (h : w.grownBy w1 row) (h2 : w1.grownBy w2 row) : w.grownBy w2 row :=
  ⟨h2.os.trans h.os, h2.tape.trans h.tape, h2.output.trans h.output, Nat.le_trans h.size h2.size,
    fun k hk hr => (h2.block k (Nat.lt_of_lt_of_le hk h.size) hr).trans (h.block k hk hr)⟩

theorem drews {w : World} {n m : Nat} : ∃ k, (w.drewN n).drewN m = w.drewN k := ⟨n + m, by simp⟩

theorem drews_of {w wr : World} {n m : Nat} (h : wr = w.drewN n) : ∃ k, wr.drewN m = w.drewN k := ⟨n + m, by rw [h]; simp⟩

theorem ret_bool {a b : Bool} (h : a = b) : Ending.returned (.bool a) = .returned (.bool b) := by rw [h]
theorem ret_int {k : IntKind} {a b : Int} (h : a = b) : Ending.returned (.int k a) = .returned (.int k b) := by rw [h]

theorem step_below {w w1 w2 : World} (h : Below w.heap.size w w1) (h2 : Below w1.heap.size w1 w2) : Below w.heap.size w w2 := h.trans (h2.mono h.size)

theorem owns_mono {w : World} {B B' n : Nat} {e : TypeId} {v : Value} {xs : List Value} (h : w.ownsRow B e 1 v n xs) (hB : B' ≤ B) : w.ownsRow B' e 1 v n xs := by
  refine ⟨h.1, ?_⟩
  rcases h.2 with hn | ⟨g, cap, cur, hv, hg, rest⟩
  · exact .inl hn
  · exact .inr ⟨g, cap, cur, hv, Nat.le_trans hB hg, rest⟩

/-- Rows that were made one after the other lie in blocks of their own. -/
theorem apart {w1 w2 : World} {B B' n m : Nat} {e e' : TypeId} {v u : Value} {xs ys : List Value} (h1 : w1.ownsRow B e 1 v n xs) (h2 : w2.ownsRow B' e' 1 u m ys) (hB : w1.heap.size ≤ B') :
    v.ownBlock = none ∨ v.ownBlock ≠ u.ownBlock := by
  cases hv : v.ownBlock with
  | none => exact .inl rfl
  | some k =>
    right
    intro hu
    have a := (h1.lt k hv).2
    have b := (h2.lt k hu.symm).1
    omega

/-- .. told the other way round. -/
theorem apart_back {w1 w2 : World} {B B' n m : Nat} {e e' : TypeId} {v u : Value} {xs ys : List Value} (h1 : w1.ownsRow B e 1 v n xs) (h2 : w2.ownsRow B' e' 1 u m ys) (hB : w1.heap.size ≤ B') :
    u.ownBlock = none ∨ u.ownBlock ≠ v.ownBlock := by
  cases hu : u.ownBlock with
  | none => exact .inl rfl
  | some k =>
    right
    intro hv
    have a := (h1.lt k hv.symm).2
    have b := (h2.lt k hu).1
    omega

/-- A function has handed back a new list of integers and whether it succeeded. -/
def GivesInts (w : World) (ok : Bool) (xs : List Int) (e : Ending) (w' : World) : Prop :=
  ∃ v, e = .returned (.tuple #[v, .bool ok]) ∧ Below w.heap.size w w' ∧ Owns w' w.heap.size v xs

theorem owns_empty (w : World) (B : Nat) (hB : B ≤ w.heap.size) : Owns (w.alloc (.cells #[] 3)) B (.slice (some ⟨w.heap.size, 0, none⟩) 0 0) [] :=
  World.ownsRow_lit w #[] 0 hB (by simp [maxLen]) rfl

theorem infoInt : (Tryd.prog.info? 3).map (fun i => (i.zero, i.size, i.bytes)) = some (some (.int .i64 0), 1, 8) := by kernel_rfl

end Go.Proofs.YtfcbhcjgjbcjdaaDoor

/-
  SETS AS NUMBERS: what Go's bit operations give on numbers below 256, and the contracts of the small functions on sets.
-/
namespace Go.Proofs.YtfcbhcjgjbcjdaaDoor
set_option linter.unusedVariables false
set_option linter.unusedSimpArgs false
open Go.RowKit

theorem pow8_le {v : Nat} (hv : v < 9) : 2 ^ v ≤ 256 := by
  have : 2 ^ v ≤ 2 ^ 8 := Nat.pow_le_pow_right (by decide) (by omega)
  simpa using this

theorem wraps_i64 (n : Int) (h₀ : 0 ≤ n) (h₁ : n < 2 ^ 62) : IntKind.i64.wrap n = n := by rw [IntKind.wrap_i64]; omega

theorem and64 (a b : Nat) (ha : a < 4611686018427387904) (hb : b < 4611686018427387904) : bits .and .i64 (a : Int) (b : Int) = ((a &&& b : Nat) : Int) :=
  (bits_nat .i64 62 (by decide) wraps_i64 a b (by simpa using ha) (by simpa using hb)).1
theorem or64 (a b : Nat) (ha : a < 4611686018427387904) (hb : b < 4611686018427387904) : bits .or .i64 (a : Int) (b : Int) = ((a ||| b : Nat) : Int) :=
  (bits_nat .i64 62 (by decide) wraps_i64 a b (by simpa using ha) (by simpa using hb)).2

theorem and_low (a x : Nat) (ha : a < 256) : a &&& x = a &&& (x % 256) := by
  have h1 : (a &&& x) % 2 ^ 8 = a % 2 ^ 8 &&& x % 2 ^ 8 := Nat.and_mod_two_pow
  have h2 : a &&& x ≤ a := Nat.and_le_left
  have h3 : a % 2 ^ 8 = a := Nat.mod_eq_of_lt (by simpa using ha)
  have h4 : (a &&& x) % 2 ^ 8 = a &&& x := Nat.mod_eq_of_lt (by omega)
  rw [h3, h4] at h1
  simpa using h1

theorem andNot64 (a b : Nat) (ha : a < 256) (hb : b < 256) : bits .andNot .i64 (a : Int) (b : Int) = ((a &&& (255 - b) : Nat) : Int) := by
  show IntKind.i64.wrap ((BitVec.ofInt 64 (a : Int) &&& ~~~BitVec.ofInt 64 (b : Int)).toNat : Int) = _
  rw [BitVec.toNat_and, BitVec.toNat_not, BitVec.ofInt_natCast, BitVec.ofInt_natCast, BitVec.toNat_ofNat, BitVec.toNat_ofNat]
  have h1 : a % 2 ^ 64 = a := Nat.mod_eq_of_lt (by omega)
  have h2 : b % 2 ^ 64 = b := Nat.mod_eq_of_lt (by omega)
  rw [h1, h2, and_low a _ ha]
  have e : (2 ^ 64 - 1 - b) % 256 = 255 - b := by omega
  rw [e]
  have hx : a &&& (255 - b) ≤ a := Nat.and_le_left
  exact wraps_i64 _ (by omega) (by omega)

theorem pow_wrap {v : Nat} (hv : v < 9) : wrap64 (2 ^ v) = ((2 ^ v : Nat) : Int) := by
  have h := pow8_le hv
  have e : (2 ^ v : Int) = ((2 ^ v : Nat) : Int) := by simp
  rw [e]
  generalize 2 ^ v = m at h
  unfold wrap64
  omega

theorem low_wrap {v : Nat} (hv : v < 9) : wrap64 (wrap64 (2 ^ v) - 1) = ((2 ^ v - 1 : Nat) : Int) := by
  rw [pow_wrap hv]
  have h := pow8_le hv
  have h1 : 0 < 2 ^ v := Nat.two_pow_pos v
  generalize 2 ^ v = m at h h1
  unfold wrap64
  omega

theorem wrap_eq (n : Int) : IntKind.i64.wrap n = wrap64 n := by unfold wrap64; exact IntKind.wrap_i64 n

theorem or_pow {s v : Nat} (hs : s < 256) (hv : v < 9) : bits .or .i64 (s : Int) (wrap64 (2 ^ v)) = ((s ||| 2 ^ v : Nat) : Int) := by
  have h := pow8_le hv
  rw [pow_wrap hv, or64 s _ (by omega) (by omega)]

theorem or_one {s : Nat} (hs : s < 256) : bits .or .i64 (s : Int) 1 = ((s ||| 1 : Nat) : Int) := by
  have := or64 s 1 (by omega) (by omega)
  simpa using this

theorem has_bit (s v : Nat) (hs : s < 256) (hv : v < 8) : (bits .and .i64 (s : Int) (wrap64 (2 ^ v)) != 0) = s.testBit v := by
  have h := pow8_le (v := v) (by omega)
  rw [pow_wrap (by omega), and64 s _ (by omega) (by omega), nat_bit, Nat.testBit_eq_decide_div_mod_eq]
  have h1 : 0 < 2 ^ v := Nat.two_pow_pos v
  by_cases hb : s / 2 ^ v % 2 = 1
  · rw [hb]
    generalize 2 ^ v = m at h1
    have : ((1 * m : Nat) : Int) ≠ 0 := by omega
    rw [bne_iff_ne.2 this]; simp
  · have : s / 2 ^ v % 2 = 0 := by omega
    rw [this]; simp

theorem shr_bit (s v : Nat) (hs : s < 256) : (bits .and .i64 ((s : Int) / 2 ^ v) 1 == 1) = s.testBit v := by
  have e : (s : Int) / 2 ^ v = ((s / 2 ^ v : Nat) : Int) := by simp
  have hd : s / 2 ^ v ≤ s := Nat.div_le_self _ _
  rw [e]
  have := and64 (s / 2 ^ v) 1 (by omega) (by omega)
  simp only [Int.cast_ofNat_Int] at this
  rw [this, nat_mask1, Nat.testBit_eq_decide_div_mod_eq]
  by_cases hb : s / 2 ^ v % 2 = 1
  · rw [hb]; simp
  · have : s / 2 ^ v % 2 = 0 := by omega
    rw [this]; simp

theorem pow7_lt {k : Nat} (hk : k < 8) : 2 ^ k < 256 := by
  have : 2 ^ k ≤ 2 ^ 7 := Nat.pow_le_pow_right (by decide) (by omega)
  omega

/-- All nodes but one. -/
theorem full_val (n k : Nat) (hn : n < 9) (hk : k < 8) : bits .andNot .i64 (IntKind.i64.wrap (IntKind.i64.wrap (2 ^ n) - 1)) (IntKind.i64.wrap (2 ^ k)) = (((2 ^ n - 1) &&& (255 - 2 ^ k) : Nat) : Int) := by
  have h := pow8_le hn
  have h1 : 0 < 2 ^ n := Nat.two_pow_pos n
  rw [wrap_eq, wrap_eq, wrap_eq, low_wrap hn, pow_wrap (by omega)]
  exact andNot64 _ _ (by omega) (pow7_lt hk)

/-- A number of an int64 without bits from n on is one from 0 to 2^n - 1. -/
theorem outside_zero (x : Int) (n : Nat) (hn : n < 9) (h1 : -9223372036854775808 ≤ x) (h2 : x ≤ 9223372036854775807) :
    (bits .andNot .i64 x ((2 ^ n - 1 : Nat) : Int) != 0) = !decide (0 ≤ x ∧ x < ((2 ^ n : Nat) : Int)) := by
  have hp := pow8_le hn
  have hp0 : 0 < 2 ^ n := Nat.two_pow_pos n
  have e : bits .andNot .i64 x ((2 ^ n - 1 : Nat) : Int) = IntKind.i64.wrap (((x % 18446744073709551616).toNat &&& (2 ^ 64 - 1 - (2 ^ n - 1)) : Nat) : Int) := by
    show IntKind.i64.wrap ((BitVec.ofInt 64 x &&& ~~~BitVec.ofInt 64 ((2 ^ n - 1 : Nat) : Int)).toNat : Int) = _
    rw [BitVec.toNat_and, BitVec.toNat_not, BitVec.ofInt_natCast, BitVec.toNat_ofNat, BitVec.toNat_ofInt, Nat.mod_eq_of_lt (by omega : 2 ^ n - 1 < 2 ^ 64)]
    rfl
  rw [e]
  generalize hX : (x % 18446744073709551616).toNat = X
  have hXlt : X < 18446744073709551616 := by omega
  have hand : X &&& (2 ^ 64 - 1 - (2 ^ n - 1)) = 0 ↔ X < 2 ^ n := by
    have hm : 2 ^ 64 - 1 - (2 ^ n - 1) = 2 ^ n * (2 ^ (64 - n) - 1) := by
      rw [Nat.mul_sub, ← Nat.pow_add, show n + (64 - n) = 64 by omega]; omega
    rw [hm]
    constructor
    · intro h
      rcases Nat.lt_or_ge X (2 ^ n) with h' | h'
      · exact h'
      · exfalso
        obtain ⟨i, hi, hb⟩ := Nat.exists_ge_and_testBit_of_ge_two_pow h'
        have hi64 : i < 64 := by
          rcases Nat.lt_or_ge i 64 with h'' | h''
          · exact h''
          · have : X.testBit i = false := Nat.testBit_lt_two_pow (Nat.lt_of_lt_of_le hXlt (by
              have : 2 ^ 64 ≤ 2 ^ i := Nat.pow_le_pow_right (by decide) h''
              simpa using this))
            rw [this] at hb; cases hb
        have hz : (X &&& 2 ^ n * (2 ^ (64 - n) - 1)).testBit i = true := by
          rw [Nat.testBit_and, hb, Nat.testBit_two_pow_mul, Nat.testBit_two_pow_sub_one]
          simp; omega
        rw [h] at hz; simp at hz
    · intro h
      apply Nat.eq_of_testBit_eq
      intro i
      rw [Nat.testBit_and, Nat.testBit_two_pow_mul]
      rcases Nat.lt_or_ge i n with h' | h'
      · simp; omega
      · have : X.testBit i = false := Nat.testBit_lt_two_pow (Nat.lt_of_lt_of_le h (Nat.pow_le_pow_right (by decide) h'))
        simp [this]
  have hb : X &&& (2 ^ 64 - 1 - (2 ^ n - 1)) < 18446744073709551616 := by
    have : X &&& (2 ^ 64 - 1 - (2 ^ n - 1)) ≤ X := Nat.and_le_left
    omega
  generalize X &&& (2 ^ 64 - 1 - (2 ^ n - 1)) = Y at *
  have hw : IntKind.i64.wrap (Y : Int) = 0 ↔ Y = 0 := by rw [IntKind.wrap_i64]; omega
  by_cases hy : Y = 0
  · have := hand.1 hy
    have hx : 0 ≤ x ∧ x < ((2 ^ n : Nat) : Int) := by omega
    rw [hw.2 hy, decide_eq_true hx]; rfl
  · have h3 : ¬ X < 2 ^ n := fun h => hy (hand.2 h)
    have hx : ¬ (0 ≤ x ∧ x < ((2 ^ n : Nat) : Int)) := by omega
    rw [decide_eq_false hx]
    have : ¬ IntKind.i64.wrap (Y : Int) = 0 := fun h => hy (hw.1 h)
    simp [this]

end Go.Proofs.YtfcbhcjgjbcjdaaDoor

/-
  THE SMALL FUNCTIONS ON SETS: their contracts, for sets below 256 and nodes below 8.
-/
namespace Go.Proofs.YtfcbhcjgjbcjdaaDoor
set_option linter.unusedVariables false
set_option linter.unusedSimpArgs false
open Go.RowKit

theorem ret_sets {a b : Nat} (h : a = b) : Ending.returned (.int .i64 (a : Int)) = .returned (.int .i64 (b : Int)) := by rw [h]

set_option maxHeartbeats 400000 in
theorem nodesBelow_any (n : Nat) (hn : n < 9) (w : World) :
    Calls Tryd.prog 103 #[.int .i64 (n : Int)] w fun e w' => e = .returned (.int .i64 ((2 ^ n - 1 : Nat) : Int)) ∧ w = w' := by
  have e := low_wrap hn
  have H := Lib.hid e
  clear e
  go_enter Tryd.func103, Tryd.ntmps103
  go_wp2
  go_ret
  exact ⟨by rw [← H.out]; rfl, rfl⟩

set_option maxHeartbeats 400000 in
theorem has_any (s v : Nat) (hs : s < 256) (hv : v < 8) (w : World) :
    Calls Tryd.prog 115 #[.int .i64 (s : Int), .int .i64 (v : Int)] w fun e w' => e = .returned (.bool (s.testBit v)) ∧ w = w' := by
  have H := Lib.hid (has_bit s v hs hv)
  go_enter Tryd.func115, Tryd.ntmps115
  go_wp2
  go_ret
  exact ⟨ret_bool H.out, rfl⟩

set_option maxHeartbeats 400000 in
theorem with_any (s v : Nat) (hs : s < 256) (hv : v < 8) (w : World) :
    Calls Tryd.prog 131 #[.int .i64 (s : Int), .int .i64 (v : Int)] w fun e w' => e = .returned (.int .i64 ((s ||| 2 ^ v : Nat) : Int)) ∧ w = w' := by
  have h := pow8_le (v := v) (by omega)
  have H : Hid (bits .or .i64 (s : Int) (wrap64 (2 ^ v)) = ((s ||| 2 ^ v : Nat) : Int)) := by
    show bits .or .i64 (s : Int) (wrap64 (2 ^ v)) = _
    rw [pow_wrap (by omega), or64 s _ (by omega) (by omega)]
  clear h
  go_enter Tryd.func131, Tryd.ntmps131
  go_wp2
  go_ret
  exact ⟨ret_int H.out, rfl⟩

set_option maxHeartbeats 400000 in
theorem without_any (s v : Nat) (hs : s < 256) (hv : v < 8) (w : World) :
    Calls Tryd.prog 110 #[.int .i64 (s : Int), .int .i64 (v : Int)] w fun e w' => e = .returned (.int .i64 ((s &&& (255 - 2 ^ v) : Nat) : Int)) ∧ w = w' := by
  have h := pow8_le (v := v) (by omega)
  have H : Hid (bits .andNot .i64 (s : Int) (wrap64 (2 ^ v)) = ((s &&& (255 - 2 ^ v) : Nat) : Int)) := by
    show bits .andNot .i64 (s : Int) (wrap64 (2 ^ v)) = _
    have h2 : 2 ^ v < 256 := by
      have : 2 ^ v ≤ 2 ^ 7 := Nat.pow_le_pow_right (by decide) (by omega)
      omega
    rw [pow_wrap (by omega), andNot64 s _ hs h2]
  clear h
  go_enter Tryd.func110, Tryd.ntmps110
  go_wp2
  go_ret
  exact ⟨ret_int H.out, rfl⟩

set_option maxHeartbeats 400000 in
theorem l6In_any (n low high : Int) (w : World) :
    Calls Tryd.prog 79 #[.int .i64 n, .int .i64 low, .int .i64 high] w fun e w' => e = .returned (.bool (decide (low ≤ n ∧ n ≤ high))) ∧ w = w' := by
  by_cases h1 : low ≤ n
  · go_enter Tryd.func79, Tryd.ntmps79
    go_wp2
    go_ret
    exact ⟨ret_bool (by first | (simp [h1]; done) | (simp; omega)), rfl⟩
  · go_enter Tryd.func79, Tryd.ntmps79
    go_wp2
    go_ret
    exact ⟨ret_bool (by first | (simp [h1]; done) | (simp; omega)), rfl⟩

theorem l6In_yes (n low high : Int) (h1 : low ≤ n) (h2 : n ≤ high) (w : World) :
    Calls Tryd.prog 79 #[.int .i64 n, .int .i64 low, .int .i64 high] w fun e w' => e = .returned (.bool true) ∧ w = w' :=
  (l6In_any n low high w).mono fun e w' ⟨he, hw⟩ => ⟨by rw [he]; exact ret_bool (by simp [h1, h2]), hw⟩
theorem l6In_no (n low high : Int) (h : n < low ∨ high < n) (w : World) :
    Calls Tryd.prog 79 #[.int .i64 n, .int .i64 low, .int .i64 high] w fun e w' => e = .returned (.bool false) ∧ w = w' :=
  (l6In_any n low high w).mono fun e w' ⟨he, hw⟩ => ⟨by rw [he]; exact ret_bool (decide_eq_false (by omega)), hw⟩
theorem l6In_q (n low high : Int) (r : Bool) (h : decide (low ≤ n ∧ n ≤ high) = r) (w : World) :
    Calls Tryd.prog 79 #[.int .i64 n, .int .i64 low, .int .i64 high] w fun e w' => e = .returned (.bool r) ∧ w' = w :=
  (l6In_any n low high w).mono fun e w' h' => ⟨by rw [← h]; exact h'.1, h'.2.symm⟩

set_option maxHeartbeats 400000 in
theorem l1Has_any (w : World) (v : Value) (xs : List Int) (a b m : Nat) (h : Ints w v xs) (ha : a < xs.length) (hx : xs[a] = (m : Int)) (hm : m < 256) (hb : b < 8) :
    Calls Tryd.prog 113 #[v, .int .i64 (a : Int), .int .i64 (b : Int)] w fun e w' => e = .returned (.bool (m.testBit b)) ∧ w = w' := by
  obtain ⟨A, cap, rfl, hmax, hc⟩ := h
  obtain ⟨bb, off, rfl, hcell⟩ := hc a ha
  rw [hx] at hcell
  have H := Lib.hid (shr_bit m b hm)
  clear hc hx
  unfold maxLen at hmax
  go_enter Tryd.func113, Tryd.ntmps113
  go_wp2
  go_ret
  exact ⟨ret_bool H.out, rfl⟩
theorem l1Has_q (w : World) (v : Value) (xs : List Int) (a b m : Nat) (h : Ints w v xs) (ha : a < xs.length) (hx : xs[a] = (m : Int)) (hm : m < 256) (hb : b < 8) (r : Bool) (hr : m.testBit b = r) :
    Calls Tryd.prog 113 #[v, .int .i64 (a : Int), .int .i64 (b : Int)] w fun e w' => e = .returned (.bool r) ∧ w' = w :=
  (l1Has_any w v xs a b m h ha hx hm hb).mono fun e w' h => ⟨by rw [← hr]; exact h.1, h.2.symm⟩

end Go.Proofs.YtfcbhcjgjbcjdaaDoor

/-
  THE NODES OF A SET IN ORDER, and math/bits' search for the lowest one, for sets below 256; the library's table is in its variable.
-/
namespace Go.Proofs.YtfcbhcjgjbcjdaaDoor
set_option linter.unusedVariables false
set_option linter.unusedSimpArgs false
open Go.RowKit

/-- The nodes of a set, ascending. -/
def bitsOf (m : Nat) : List (Fin 8) := (List.finRange 8).filter fun j => m.testBit j.val
def low (m : Nat) : Fin 8 := (bitsOf m).headD 0
def deB64 : List Nat := [0, 1, 56, 2, 57, 49, 28, 3, 61, 58, 42, 50, 38, 29, 17, 4, 62, 47, 59, 36, 45, 43, 51, 22, 53, 39, 33, 30, 24, 18, 12, 5, 63, 55, 48, 27, 60, 41, 37, 16, 46, 35, 44, 21, 52, 32, 23, 11, 54, 26, 40, 15, 34, 20, 31, 10, 25, 14, 19, 9, 13, 8, 7, 6]
/-- Where the library's table has what it says of the lowest node. -/
def tzPlace (m : Nat) : Nat := (m &&& (18446744073709551616 - m)) * 285870213051353865 % 18446744073709551616 / 288230376151711744

theorem bits_facts : ∀ m : Fin 256, m.val ≠ 0 → bitsOf m.val = low m.val :: bitsOf (m.val &&& (m.val - 1)) ∧ tzPlace m.val < 64 ∧ deB64[tzPlace m.val]? = some (low m.val).val := by decide +kernel
theorem bitsOf_zero : bitsOf 0 = [] := by decide

theorem bitsOf_cons {m : Nat} (h : m < 256) (h0 : m ≠ 0) : bitsOf m = low m :: bitsOf (m &&& (m - 1)) := (bits_facts ⟨m, h⟩ h0).1
theorem next_lt {m : Nat} (h : m < 256) : m &&& (m - 1) < 256 := Nat.lt_of_le_of_lt Nat.and_le_left h
theorem mem_bitsOf {m : Nat} {x : Fin 8} : x ∈ bitsOf m ↔ m.testBit x.val = true := by simp [bitsOf]
theorem bitsOf_nodup (m : Nat) : (bitsOf m).Nodup := (List.nodup_finRange 8).filter _

/-- The library's table in its variable. -/
def Tab (W : World) : Prop := ∀ (i x : Nat), deB64[i]? = some x → W.cell? ⟨1, i, none⟩ = some (.int .u8 (x : Int))
theorem Tab.below {n : Nat} {W W' : World} (h : Tab W) (hb : Below n W W') (hn : 1 < n) : Tab W' :=
  fun i x hx => (hb.cell (p := ⟨1, i, none⟩) hn).trans (h i x hx)
theorem Tab.lt {W : World} (h : Tab W) : 1 < W.heap.size := World.block_lt_of_cell? W _ (h 0 0 rfl)
theorem Tab.later {W W' : World} (h : Tab W) (hb : Below W.heap.size W W') : Tab W' := h.below hb h.lt

theorem tz_key (m : Nat) (hm : m < 256) (h0 : m ≠ 0) :
    IntKind.u64.wrap (bits BinOp.and IntKind.u64 (m : Int) (IntKind.u64.wrap (-(m : Int))) * 285870213051353865) / 288230376151711744 = ((tzPlace m : Nat) : Int) := by
  have e1 : IntKind.u64.wrap (-(m : Int)) = ((18446744073709551616 - m : Nat) : Int) := by rw [IntKind.wrap_u64]; omega
  rw [e1, bits_and_u64_nat m _ (by omega) (by omega), IntKind.wrap_u64]
  unfold tzPlace
  omega

set_option maxHeartbeats 400000 in
theorem tz64_core (m k idx : Nat) (w : World) (hx0 : ((m : Int) == 0) = false)
    (key : IntKind.u64.wrap (bits BinOp.and IntKind.u64 (m : Int) (IntKind.u64.wrap (-(m : Int))) * 285870213051353865) / 288230376151711744 = (idx : Int))
    (hi : idx < 64) (hk : k < 64) (hcell : w.cell? ⟨1, idx, none⟩ = some (.int .u8 k)) :
    Calls Tryd.prog 162 #[.int .u64 (m : Int)] w fun e w' => e = .returned (.int .i64 k) ∧ w = w' := by
  go_enter Tryd.func162, Tryd.ntmps162
  go_wp2_with (simp only [key])
  go_ret
  exact ⟨rfl, rfl⟩

theorem tz64_any (m : Nat) (hm : m < 256) (h0 : m ≠ 0) (w : World) (hT : Tab w) :
    Calls Tryd.prog 162 #[.int .u64 (m : Int)] w fun e w' => e = .returned (.int .i64 (((low m).val : Nat) : Int)) ∧ w = w' := by
  obtain ⟨_, h1, h2⟩ := bits_facts ⟨m, hm⟩ h0
  exact tz64_core m _ (tzPlace m) w (by simp; exact h0) (tz_key m hm h0) h1 (by have := (low m).isLt; omega) (hT _ _ h2)

set_option maxHeartbeats 400000 in
theorem tz_any (m : Nat) (hm : m < 256) (h0 : m ≠ 0) (w : World) (hT : Tab w) :
    Calls Tryd.prog 148 #[.int .u64 (m : Int)] w fun e w' => e = .returned (.int .i64 (((low m).val : Nat) : Int)) ∧ w = w' := by
  have H := Lib.hid (tz64_any m hm h0 w hT)
  clear hT
  go_enter Tryd.func148, Tryd.ntmps148
  go_wp2_with (go_at_call 162; refine H.out.mono ?_; rintro e w' ⟨rfl, rfl⟩)
  go_ret
  exact ⟨rfl, rfl⟩

end Go.Proofs.YtfcbhcjgjbcjdaaDoor

/-
  The members of a set, in order.
-/
namespace Go.Proofs.YtfcbhcjgjbcjdaaDoor
set_option linter.unusedVariables false
set_option linter.unusedSimpArgs false
open Go.RowKit

/-- A set without one of its nodes. -/
def wo8 (m v : Nat) : Nat := m &&& (255 - 2 ^ v)
def elems (m : Nat) : List Nat := (bitsOf m).map Fin.val
theorem elems_len (m : Nat) : (elems m).length = (bitsOf m).length := by simp [elems]
theorem mem_elems {m v : Nat} : v ∈ elems m ↔ v < 8 ∧ m.testBit v = true := by
  unfold elems
  rw [List.mem_map]
  constructor
  · rintro ⟨x, hx, rfl⟩
    exact ⟨x.isLt, mem_bitsOf.1 hx⟩
  · rintro ⟨h8, hb⟩
    exact ⟨⟨v, h8⟩, mem_bitsOf.2 hb, rfl⟩
theorem wo8_facts : ∀ (v : Fin 8) (m : Fin 256), m.val.testBit v.val = true → (bitsOf (m.val &&& (255 - 2 ^ v.val))).length + 1 = (bitsOf m.val).length := by decide +kernel
theorem wo8_lt {m v : Nat} (hm : m < 256) : wo8 m v < 256 := Nat.lt_of_le_of_lt Nat.and_le_left hm
theorem wo8_len {m v : Nat} (hm : m < 256) (hv : v < 8) (hb : m.testBit v = true) : (bitsOf (wo8 m v)).length + 1 = (bitsOf m).length := wo8_facts ⟨v, hv⟩ ⟨m, hm⟩ hb
theorem zero_len : ∀ m : Fin 256, (bitsOf m.val).length = 0 → m.val = 0 := by decide +kernel
theorem len_zero {m : Nat} (hm : m < 256) (h : (bitsOf m).length = 0) : m = 0 := zero_len ⟨m, hm⟩ h
/-- Of the members below c. -/
def below8 (m c : Nat) : List Nat := (elems m).filter fun v => decide (v < c)
theorem below8_step : ∀ (c : Fin 8) (m : Fin 256), below8 m.val (c.val + 1) = (if m.val.testBit c.val = true then below8 m.val c.val ++ [c.val] else below8 m.val c.val) := by decide +kernel
theorem below8_zero (m : Nat) : below8 m 0 = [] := by simp [below8]
theorem below8_all {m n : Nat} (h : ∀ v ∈ elems m, v < n) : below8 m n = elems m := by
  unfold below8
  exact List.filter_eq_self.2 fun v hv => decide_eq_true (h v hv)

end Go.Proofs.YtfcbhcjgjbcjdaaDoor

