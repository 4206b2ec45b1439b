/-
  Core1: Base Bits Sets Tz Span Gives RowsPush Once KeptObj Num Elems Same SameRows.
-/
import Derived.Test.YtellghhilcjbnaaDoorProg
import Derived.WalkKit
import Derived.WalkSpells
import Derived.WalkLawsBesides
import Derived.RangeFuncBox
import Derived.Deep.OwnRows
import Derived.Lib.Hide
import Derived.Deep.QuietTactic
import Derived.BigQuiet
import Derived.Deep.RegionLaw
import Derived.Outline
/-
  WHAT EVERY TEXT OF THIS SEAT LEANS ON: a slice of integers that can be read (Ints), and small facts on memory.
-/
namespace Go.Proofs.YtellghhilcjbnaaDoor
set_option linter.unusedVariables false
set_option linter.unusedSimpArgs false
open Go.RowKit

/-- A slice value whose cells hold these integers. -/
def Ints (w : World) (v : Value) (xs : List Int) : Prop :=
  ∃ A cap, v = .slice A xs.length cap ∧ xs.length ≤ maxLen ∧
    ∀ (i : Nat) (_ : i < xs.length), ∃ b off, A = some ⟨b, off, none⟩ ∧ w.cell? ⟨b, off + i, none⟩ = some (.int .i64 xs[i])

abbrev vals (xs : List Int) : List Value := xs.map (Value.int .i64)

/-- A slice of one-cell elements that the call owns. -/
abbrev Owns (w : World) (base : Nat) (v : Value) (xs : List Int) : Prop :=
  w.ownsRow base 3 1 v xs.length (vals xs)

theorem grown_of_below {w w' : World} (h : Below w.heap.size w w') : w.grownBy w' none :=
  ⟨h.os, h.tape, h.output, h.size, fun k hk _ => h.block k hk⟩

theorem Ints.below {w w' : World} {v : Value} {xs : List Int} (h : Ints w v xs) (hb : Below w.heap.size w w') : Ints w' v xs := by
  obtain ⟨A, cap, hv, hm, hc⟩ := h
  refine ⟨A, cap, hv, hm, fun i hi => ?_⟩
  obtain ⟨b, off, hA, hcell⟩ := hc i hi
  exact ⟨b, off, hA, (hb.cell (p := ⟨b, off + i, none⟩) (World.block_lt_of_cell? w _ hcell)).trans hcell⟩

theorem Ints.drewN {w : World} {v : Value} {xs : List Int} (h : Ints w v xs) (n : Nat) : Ints (w.drewN n) v xs := h

theorem owns_below {w w' : World} {base n : Nat} {e : TypeId} {v : Value} {xs : List Value} (h : w.ownsRow base e 1 v n xs) (hb : Below w.heap.size w w') : w'.ownsRow base e 1 v n xs :=
  h.kept (grown_of_below hb) (by cases v.ownBlock <;> simp)

theorem ints_of_owns {w : World} {base : Nat} {e : TypeId} {v : Value} {xs : List Int} (h : w.ownsRow base e 1 v xs.length (vals xs)) : Ints w v xs := by
  have hl := h.1
  rcases h.2 with ⟨rfl, hn⟩ | ⟨g, cap, cur, rfl, hb, hg, hnc, hm, hcs, htake⟩
  · have : xs = [] := by simpa using hn
    subst this
    exact ⟨none, 0, rfl, by simp [maxLen], fun i hi => by simp at hi⟩
  · refine ⟨some ⟨g, 0, none⟩, cap, rfl, by omega, fun i hi => ⟨g, 0, rfl, ?_⟩⟩
    have hc := h.cells (g := g) rfl i (.int .i64 xs[i]) (by simp [hi])
    have hadd : (⟨g, 0, none⟩ : Addr).add i = ⟨g, 0 + i, none⟩ := by unfold Addr.add; split <;> simp_all
    rw [hadd] at hc
    exact hc

theorem grown_trans {w w1 w2 : World} {row : Option Nat} (h : w.grownBy w1 row) (h2 : w1.grownBy w2 row) : w.grownBy w2 row :=
  ⟨h2.os.trans h.os, h2.tape.trans h.tape, h2.output.trans h.output, Nat.le_trans h.size h2.size,
    fun k hk hr => (h2.block k (Nat.lt_of_lt_of_le hk h.size) hr).trans (h.block k hk hr)⟩

theorem drews {w : World} {n m : Nat} : ∃ k, (w.drewN n).drewN m = w.drewN k := ⟨n + m, by simp⟩

theorem drews_of {w wr : World} {n m : Nat} (h : wr = w.drewN n) : ∃ k, wr.drewN m = w.drewN k := ⟨n + m, by rw [h]; simp⟩

theorem ret_bool {a b : Bool} (h : a = b) : Ending.returned (.bool a) = .returned (.bool b) := by rw [h]
theorem ret_int {k : IntKind} {a b : Int} (h : a = b) : Ending.returned (.int k a) = .returned (.int k b) := by rw [h]

theorem step_below {w w1 w2 : World} (h : Below w.heap.size w w1) (h2 : Below w1.heap.size w1 w2) : Below w.heap.size w w2 := h.trans (h2.mono h.size)

theorem owns_mono {w : World} {B B' n : Nat} {e : TypeId} {v : Value} {xs : List Value} (h : w.ownsRow B e 1 v n xs) (hB : B' ≤ B) : w.ownsRow B' e 1 v n xs := by
  refine ⟨h.1, ?_⟩
  rcases h.2 with hn | ⟨g, cap, cur, hv, hg, rest⟩
  · exact .inl hn
  · exact .inr ⟨g, cap, cur, hv, Nat.le_trans hB hg, rest⟩

/-- Rows that were made one after the other lie in blocks of their own. -/
theorem apart {w1 w2 : World} {B B' n m : Nat} {e e' : TypeId} {v u : Value} {xs ys : List Value} (h1 : w1.ownsRow B e 1 v n xs) (h2 : w2.ownsRow B' e' 1 u m ys) (hB : w1.heap.size ≤ B') :
    v.ownBlock = none ∨ v.ownBlock ≠ u.ownBlock := by
  cases hv : v.ownBlock with
  | none => exact .inl rfl
  | some k =>
    right
    intro hu
    have a := (h1.lt k hv).2
    have b := (h2.lt k hu.symm).1
    omega

/-- .. told the other way round. -/
theorem apart_back {w1 w2 : World} {B B' n m : Nat} {e e' : TypeId} {v u : Value} {xs ys : List Value} (h1 : w1.ownsRow B e 1 v n xs) (h2 : w2.ownsRow B' e' 1 u m ys) (hB : w1.heap.size ≤ B') :
    u.ownBlock = none ∨ u.ownBlock ≠ v.ownBlock := by
  cases hu : u.ownBlock with
  | none => exact .inl rfl
  | some k =>
    right
    intro hv
    have a := (h1.lt k hv.symm).2
    have b := (h2.lt k hu).1
    omega

/-- A function has handed back a new list of integers and whether it succeeded. -/
def GivesInts (w : World) (ok : Bool) (xs : List Int) (e : Ending) (w' : World) : Prop :=
  ∃ v, e = .returned (.tuple #[v, .bool ok]) ∧ Below w.heap.size w w' ∧ Owns w' w.heap.size v xs

theorem owns_empty (w : World) (B : Nat) (hB : B ≤ w.heap.size) : Owns (w.alloc (.cells #[] 3)) B (.slice (some ⟨w.heap.size, 0, none⟩) 0 0) [] :=
  World.ownsRow_lit w #[] 0 hB (by simp [maxLen]) rfl

theorem infoInt : (Tryd.prog.info? 3).map (fun i => (i.zero, i.size, i.bytes)) = some (some (.int .i64 0), 1, 8) := by kernel_rfl

end Go.Proofs.YtellghhilcjbnaaDoor

/-
  SETS AS NUMBERS: what Go's bit operations give on numbers below 256, and the contracts of the small functions on sets.
-/
namespace Go.Proofs.YtellghhilcjbnaaDoor
set_option linter.unusedVariables false
set_option linter.unusedSimpArgs false
open Go.RowKit

theorem pow8_le {v : Nat} (hv : v < 9) : 2 ^ v ≤ 256 := by
  have : 2 ^ v ≤ 2 ^ 8 := Nat.pow_le_pow_right (by decide) (by omega)
  simpa using this

theorem wraps_i64 (n : Int) (h₀ : 0 ≤ n) (h₁ : n < 2 ^ 62) : IntKind.i64.wrap n = n := by rw [IntKind.wrap_i64]; omega

theorem and64 (a b : Nat) (ha : a < 4611686018427387904) (hb : b < 4611686018427387904) : bits .and .i64 (a : Int) (b : Int) = ((a &&& b : Nat) : Int) :=
  (bits_nat .i64 62 (by decide) wraps_i64 a b (by simpa using ha) (by simpa using hb)).1
theorem or64 (a b : Nat) (ha : a < 4611686018427387904) (hb : b < 4611686018427387904) : bits .or .i64 (a : Int) (b : Int) = ((a ||| b : Nat) : Int) :=
  (bits_nat .i64 62 (by decide) wraps_i64 a b (by simpa using ha) (by simpa using hb)).2

theorem and_low (a x : Nat) (ha : a < 256) : a &&& x = a &&& (x % 256) := by
  have h1 : (a &&& x) % 2 ^ 8 = a % 2 ^ 8 &&& x % 2 ^ 8 := Nat.and_mod_two_pow
  have h2 : a &&& x ≤ a := Nat.and_le_left
  have h3 : a % 2 ^ 8 = a := Nat.mod_eq_of_lt (by simpa using ha)
  have h4 : (a &&& x) % 2 ^ 8 = a &&& x := Nat.mod_eq_of_lt (by omega)
  rw [h3, h4] at h1
  simpa using h1

theorem andNot64 (a b : Nat) (ha : a < 256) (hb : b < 256) : bits .andNot .i64 (a : Int) (b : Int) = ((a &&& (255 - b) : Nat) : Int) := by
  show IntKind.i64.wrap ((BitVec.ofInt 64 (a : Int) &&& ~~~BitVec.ofInt 64 (b : Int)).toNat : Int) = _
  rw [BitVec.toNat_and, BitVec.toNat_not, BitVec.ofInt_natCast, BitVec.ofInt_natCast, BitVec.toNat_ofNat, BitVec.toNat_ofNat]
  have h1 : a % 2 ^ 64 = a := Nat.mod_eq_of_lt (by omega)
  have h2 : b % 2 ^ 64 = b := Nat.mod_eq_of_lt (by omega)
  rw [h1, h2, and_low a _ ha]
  have e : (2 ^ 64 - 1 - b) % 256 = 255 - b := by omega
  rw [e]
  have hx : a &&& (255 - b) ≤ a := Nat.and_le_left
  exact wraps_i64 _ (by omega) (by omega)

theorem pow_wrap {v : Nat} (hv : v < 9) : wrap64 (2 ^ v) = ((2 ^ v : Nat) : Int) := by
  have h := pow8_le hv
  have e : (2 ^ v : Int) = ((2 ^ v : Nat) : Int) := by simp
  rw [e]
  generalize 2 ^ v = m at h
  unfold wrap64
  omega

theorem low_wrap {v : Nat} (hv : v < 9) : wrap64 (wrap64 (2 ^ v) - 1) = ((2 ^ v - 1 : Nat) : Int) := by
  rw [pow_wrap hv]
  have h := pow8_le hv
  have h1 : 0 < 2 ^ v := Nat.two_pow_pos v
  generalize 2 ^ v = m at h h1
  unfold wrap64
  omega

theorem wrap_eq (n : Int) : IntKind.i64.wrap n = wrap64 n := by unfold wrap64; exact IntKind.wrap_i64 n

theorem or_pow {s v : Nat} (hs : s < 256) (hv : v < 9) : bits .or .i64 (s : Int) (wrap64 (2 ^ v)) = ((s ||| 2 ^ v : Nat) : Int) := by
  have h := pow8_le hv
  rw [pow_wrap hv, or64 s _ (by omega) (by omega)]

theorem or_one {s : Nat} (hs : s < 256) : bits .or .i64 (s : Int) 1 = ((s ||| 1 : Nat) : Int) := by
  have := or64 s 1 (by omega) (by omega)
  simpa using this

theorem has_bit (s v : Nat) (hs : s < 256) (hv : v < 8) : (bits .and .i64 (s : Int) (wrap64 (2 ^ v)) != 0) = s.testBit v := by
  have h := pow8_le (v := v) (by omega)
  rw [pow_wrap (by omega), and64 s _ (by omega) (by omega), nat_bit, Nat.testBit_eq_decide_div_mod_eq]
  have h1 : 0 < 2 ^ v := Nat.two_pow_pos v
  by_cases hb : s / 2 ^ v % 2 = 1
  · rw [hb]
    generalize 2 ^ v = m at h1
    have : ((1 * m : Nat) : Int) ≠ 0 := by omega
    rw [bne_iff_ne.2 this]; simp
  · have : s / 2 ^ v % 2 = 0 := by omega
    rw [this]; simp

theorem shr_bit (s v : Nat) (hs : s < 256) : (bits .and .i64 ((s : Int) / 2 ^ v) 1 == 1) = s.testBit v := by
  have e : (s : Int) / 2 ^ v = ((s / 2 ^ v : Nat) : Int) := by simp
  have hd : s / 2 ^ v ≤ s := Nat.div_le_self _ _
  rw [e]
  have := and64 (s / 2 ^ v) 1 (by omega) (by omega)
  simp only [Int.cast_ofNat_Int] at this
  rw [this, nat_mask1, Nat.testBit_eq_decide_div_mod_eq]
  by_cases hb : s / 2 ^ v % 2 = 1
  · rw [hb]; simp
  · have : s / 2 ^ v % 2 = 0 := by omega
    rw [this]; simp

theorem pow7_lt {k : Nat} (hk : k < 8) : 2 ^ k < 256 := by
  have : 2 ^ k ≤ 2 ^ 7 := Nat.pow_le_pow_right (by decide) (by omega)
  omega

/-- All nodes but one. -/
theorem full_val (n k : Nat) (hn : n < 9) (hk : k < 8) : bits .andNot .i64 (IntKind.i64.wrap (IntKind.i64.wrap (2 ^ n) - 1)) (IntKind.i64.wrap (2 ^ k)) = (((2 ^ n - 1) &&& (255 - 2 ^ k) : Nat) : Int) := by
  have h := pow8_le hn
  have h1 : 0 < 2 ^ n := Nat.two_pow_pos n
  rw [wrap_eq, wrap_eq, wrap_eq, low_wrap hn, pow_wrap (by omega)]
  exact andNot64 _ _ (by omega) (pow7_lt hk)

/-- A number of an int64 without bits from n on is one from 0 to 2^n - 1. -/
theorem outside_zero (x : Int) (n : Nat) (hn : n < 9) (h1 : -9223372036854775808 ≤ x) (h2 : x ≤ 9223372036854775807) :
    (bits .andNot .i64 x ((2 ^ n - 1 : Nat) : Int) != 0) = !decide (0 ≤ x ∧ x < ((2 ^ n : Nat) : Int)) := by
  have hp := pow8_le hn
  have hp0 : 0 < 2 ^ n := Nat.two_pow_pos n
  have e : bits .andNot .i64 x ((2 ^ n - 1 : Nat) : Int) = IntKind.i64.wrap (((x % 18446744073709551616).toNat &&& (2 ^ 64 - 1 - (2 ^ n - 1)) : Nat) : Int) := by
    show IntKind.i64.wrap ((BitVec.ofInt 64 x &&& ~~~BitVec.ofInt 64 ((2 ^ n - 1 : Nat) : Int)).toNat : Int) = _
    rw [BitVec.toNat_and, BitVec.toNat_not, BitVec.ofInt_natCast, BitVec.toNat_ofNat, BitVec.toNat_ofInt, Nat.mod_eq_of_lt (by omega : 2 ^ n - 1 < 2 ^ 64)]
    rfl
  rw [e]
  generalize hX : (x % 18446744073709551616).toNat = X
  have hXlt : X < 18446744073709551616 := by omega
  have hand : X &&& (2 ^ 64 - 1 - (2 ^ n - 1)) = 0 ↔ X < 2 ^ n := by
    have hm : 2 ^ 64 - 1 - (2 ^ n - 1) = 2 ^ n * (2 ^ (64 - n) - 1) := by
      rw [Nat.mul_sub, ← Nat.pow_add, show n + (64 - n) = 64 by omega]; omega
    rw [hm]
    constructor
    · intro h
      rcases Nat.lt_or_ge X (2 ^ n) with h' | h'
      · exact h'
      · exfalso
        obtain ⟨i, hi, hb⟩ := Nat.exists_ge_and_testBit_of_ge_two_pow h'
        have hi64 : i < 64 := by
          rcases Nat.lt_or_ge i 64 with h'' | h''
          · exact h''
          · have : X.testBit i = false := Nat.testBit_lt_two_pow (Nat.lt_of_lt_of_le hXlt (by
              have : 2 ^ 64 ≤ 2 ^ i := Nat.pow_le_pow_right (by decide) h''
              simpa using this))
            rw [this] at hb; cases hb
        have hz : (X &&& 2 ^ n * (2 ^ (64 - n) - 1)).testBit i = true := by
          rw [Nat.testBit_and, hb, Nat.testBit_two_pow_mul, Nat.testBit_two_pow_sub_one]
          simp; omega
        rw [h] at hz; simp at hz
    · intro h
      apply Nat.eq_of_testBit_eq
      intro i
      rw [Nat.testBit_and, Nat.testBit_two_pow_mul]
      rcases Nat.lt_or_ge i n with h' | h'
      · simp; omega
      · have : X.testBit i = false := Nat.testBit_lt_two_pow (Nat.lt_of_lt_of_le h (Nat.pow_le_pow_right (by decide) h'))
        simp [this]
  have hb : X &&& (2 ^ 64 - 1 - (2 ^ n - 1)) < 18446744073709551616 := by
    have : X &&& (2 ^ 64 - 1 - (2 ^ n - 1)) ≤ X := Nat.and_le_left
    omega
  generalize X &&& (2 ^ 64 - 1 - (2 ^ n - 1)) = Y at *
  have hw : IntKind.i64.wrap (Y : Int) = 0 ↔ Y = 0 := by rw [IntKind.wrap_i64]; omega
  by_cases hy : Y = 0
  · have := hand.1 hy
    have hx : 0 ≤ x ∧ x < ((2 ^ n : Nat) : Int) := by omega
    rw [hw.2 hy, decide_eq_true hx]; rfl
  · have h3 : ¬ X < 2 ^ n := fun h => hy (hand.2 h)
    have hx : ¬ (0 ≤ x ∧ x < ((2 ^ n : Nat) : Int)) := by omega
    rw [decide_eq_false hx]
    have : ¬ IntKind.i64.wrap (Y : Int) = 0 := fun h => hy (hw.1 h)
    simp [this]

end Go.Proofs.YtellghhilcjbnaaDoor

/-
  THE SMALL FUNCTIONS ON SETS: their contracts, for sets below 256 and nodes below 8.
-/
namespace Go.Proofs.YtellghhilcjbnaaDoor
set_option linter.unusedVariables false
set_option linter.unusedSimpArgs false
open Go.RowKit

theorem ret_sets {a b : Nat} (h : a = b) : Ending.returned (.int .i64 (a : Int)) = .returned (.int .i64 (b : Int)) := by rw [h]

set_option maxHeartbeats 400000 in
theorem nodesBelow_any (n : Nat) (hn : n < 9) (w : World) :
    Calls Tryd.prog 46 #[.int .i64 (n : Int)] w fun e w' => e = .returned (.int .i64 ((2 ^ n - 1 : Nat) : Int)) ∧ w = w' := by
  have e := low_wrap hn
  have H := Lib.hid e
  clear e
  go_enter Tryd.func46, Tryd.ntmps46
  go_wp2
  go_ret
  exact ⟨by rw [← H.out]; rfl, rfl⟩

set_option maxHeartbeats 400000 in
theorem has_any (s v : Nat) (hs : s < 256) (hv : v < 8) (w : World) :
    Calls Tryd.prog 56 #[.int .i64 (s : Int), .int .i64 (v : Int)] w fun e w' => e = .returned (.bool (s.testBit v)) ∧ w = w' := by
  have H := Lib.hid (has_bit s v hs hv)
  go_enter Tryd.func56, Tryd.ntmps56
  go_wp2
  go_ret
  exact ⟨ret_bool H.out, rfl⟩


set_option maxHeartbeats 400000 in
theorem without_any (s v : Nat) (hs : s < 256) (hv : v < 8) (w : World) :
    Calls Tryd.prog 49 #[.int .i64 (s : Int), .int .i64 (v : Int)] w fun e w' => e = .returned (.int .i64 ((s &&& (255 - 2 ^ v) : Nat) : Int)) ∧ w = w' := by
  have h := pow8_le (v := v) (by omega)
  have H : Hid (bits .andNot .i64 (s : Int) (wrap64 (2 ^ v)) = ((s &&& (255 - 2 ^ v) : Nat) : Int)) := by
    show bits .andNot .i64 (s : Int) (wrap64 (2 ^ v)) = _
    have h2 : 2 ^ v < 256 := by
      have : 2 ^ v ≤ 2 ^ 7 := Nat.pow_le_pow_right (by decide) (by omega)
      omega
    rw [pow_wrap (by omega), andNot64 s _ hs h2]
  clear h
  go_enter Tryd.func49, Tryd.ntmps49
  go_wp2
  go_ret
  exact ⟨ret_int H.out, rfl⟩

set_option maxHeartbeats 400000 in
theorem l6In_any (n low high : Int) (w : World) :
    Calls Tryd.prog 43 #[.int .i64 n, .int .i64 low, .int .i64 high] w fun e w' => e = .returned (.bool (decide (low ≤ n ∧ n ≤ high))) ∧ w = w' := by
  by_cases h1 : low ≤ n
  · go_enter Tryd.func43, Tryd.ntmps43
    go_wp2
    go_ret
    exact ⟨ret_bool (by first | (simp [h1]; done) | (simp; omega)), rfl⟩
  · go_enter Tryd.func43, Tryd.ntmps43
    go_wp2
    go_ret
    exact ⟨ret_bool (by first | (simp [h1]; done) | (simp; omega)), rfl⟩

theorem l6In_yes (n low high : Int) (h1 : low ≤ n) (h2 : n ≤ high) (w : World) :
    Calls Tryd.prog 43 #[.int .i64 n, .int .i64 low, .int .i64 high] w fun e w' => e = .returned (.bool true) ∧ w = w' :=
  (l6In_any n low high w).mono fun e w' ⟨he, hw⟩ => ⟨by rw [he]; exact ret_bool (by simp [h1, h2]), hw⟩
theorem l6In_no (n low high : Int) (h : n < low ∨ high < n) (w : World) :
    Calls Tryd.prog 43 #[.int .i64 n, .int .i64 low, .int .i64 high] w fun e w' => e = .returned (.bool false) ∧ w = w' :=
  (l6In_any n low high w).mono fun e w' ⟨he, hw⟩ => ⟨by rw [he]; exact ret_bool (decide_eq_false (by omega)), hw⟩
theorem l6In_q (n low high : Int) (r : Bool) (h : decide (low ≤ n ∧ n ≤ high) = r) (w : World) :
    Calls Tryd.prog 43 #[.int .i64 n, .int .i64 low, .int .i64 high] w fun e w' => e = .returned (.bool r) ∧ w' = w :=
  (l6In_any n low high w).mono fun e w' h' => ⟨by rw [← h]; exact h'.1, h'.2.symm⟩

set_option maxHeartbeats 400000 in
theorem l1Has_any (w : World) (v : Value) (xs : List Int) (a b m : Nat) (h : Ints w v xs) (ha : a < xs.length) (hx : xs[a] = (m : Int)) (hm : m < 256) (hb : b < 8) :
    Calls Tryd.prog 54 #[v, .int .i64 (a : Int), .int .i64 (b : Int)] w fun e w' => e = .returned (.bool (m.testBit b)) ∧ w = w' := by
  obtain ⟨A, cap, rfl, hmax, hc⟩ := h
  obtain ⟨bb, off, rfl, hcell⟩ := hc a ha
  rw [hx] at hcell
  have H := Lib.hid (shr_bit m b hm)
  clear hc hx
  unfold maxLen at hmax
  go_enter Tryd.func54, Tryd.ntmps54
  go_wp2
  go_ret
  exact ⟨ret_bool H.out, rfl⟩
theorem l1Has_q (w : World) (v : Value) (xs : List Int) (a b m : Nat) (h : Ints w v xs) (ha : a < xs.length) (hx : xs[a] = (m : Int)) (hm : m < 256) (hb : b < 8) (r : Bool) (hr : m.testBit b = r) :
    Calls Tryd.prog 54 #[v, .int .i64 (a : Int), .int .i64 (b : Int)] w fun e w' => e = .returned (.bool r) ∧ w' = w :=
  (l1Has_any w v xs a b m h ha hx hm hb).mono fun e w' h => ⟨by rw [← hr]; exact h.1, h.2.symm⟩

end Go.Proofs.YtellghhilcjbnaaDoor

/-
  THE NODES OF A SET IN ORDER, and math/bits' search for the lowest one, for sets below 256; the library's table is in its variable.
-/
namespace Go.Proofs.YtellghhilcjbnaaDoor
set_option linter.unusedVariables false
set_option linter.unusedSimpArgs false
open Go.RowKit

/-- The nodes of a set, ascending. -/
def bitsOf (m : Nat) : List (Fin 8) := (List.finRange 8).filter fun j => m.testBit j.val
def low (m : Nat) : Fin 8 := (bitsOf m).headD 0
def deB64 : List Nat := [0, 1, 56, 2, 57, 49, 28, 3, 61, 58, 42, 50, 38, 29, 17, 4, 62, 47, 59, 36, 45, 43, 51, 22, 53, 39, 33, 30, 24, 18, 12, 5, 63, 55, 48, 27, 60, 41, 37, 16, 46, 35, 44, 21, 52, 32, 23, 11, 54, 26, 40, 15, 34, 20, 31, 10, 25, 14, 19, 9, 13, 8, 7, 6]
/-- Where the library's table has what it says of the lowest node. -/
def tzPlace (m : Nat) : Nat := (m &&& (18446744073709551616 - m)) * 285870213051353865 % 18446744073709551616 / 288230376151711744

theorem bits_facts : ∀ m : Fin 256, m.val ≠ 0 → bitsOf m.val = low m.val :: bitsOf (m.val &&& (m.val - 1)) ∧ tzPlace m.val < 64 ∧ deB64[tzPlace m.val]? = some (low m.val).val := by decide +kernel
theorem bitsOf_zero : bitsOf 0 = [] := by decide

theorem bitsOf_cons {m : Nat} (h : m < 256) (h0 : m ≠ 0) : bitsOf m = low m :: bitsOf (m &&& (m - 1)) := (bits_facts ⟨m, h⟩ h0).1
theorem next_lt {m : Nat} (h : m < 256) : m &&& (m - 1) < 256 := Nat.lt_of_le_of_lt Nat.and_le_left h
theorem mem_bitsOf {m : Nat} {x : Fin 8} : x ∈ bitsOf m ↔ m.testBit x.val = true := by simp [bitsOf]
theorem bitsOf_nodup (m : Nat) : (bitsOf m).Nodup := (List.nodup_finRange 8).filter _

/-- The library's table in its variable. -/
def Tab (W : World) : Prop := ∀ (i x : Nat), deB64[i]? = some x → W.cell? ⟨1, i, none⟩ = some (.int .u8 (x : Int))
theorem Tab.below {n : Nat} {W W' : World} (h : Tab W) (hb : Below n W W') (hn : 1 < n) : Tab W' :=
  fun i x hx => (hb.cell (p := ⟨1, i, none⟩) hn).trans (h i x hx)
theorem Tab.lt {W : World} (h : Tab W) : 1 < W.heap.size := World.block_lt_of_cell? W _ (h 0 0 rfl)
theorem Tab.later {W W' : World} (h : Tab W) (hb : Below W.heap.size W W') : Tab W' := h.below hb h.lt

theorem tz_key (m : Nat) (hm : m < 256) (h0 : m ≠ 0) :
    IntKind.u64.wrap (bits BinOp.and IntKind.u64 (m : Int) (IntKind.u64.wrap (-(m : Int))) * 285870213051353865) / 288230376151711744 = ((tzPlace m : Nat) : Int) := by
  have e1 : IntKind.u64.wrap (-(m : Int)) = ((18446744073709551616 - m : Nat) : Int) := by rw [IntKind.wrap_u64]; omega
  rw [e1, bits_and_u64_nat m _ (by omega) (by omega), IntKind.wrap_u64]
  unfold tzPlace
  omega

set_option maxHeartbeats 400000 in
theorem tz64_core (m k idx : Nat) (w : World) (hx0 : ((m : Int) == 0) = false)
    (key : IntKind.u64.wrap (bits BinOp.and IntKind.u64 (m : Int) (IntKind.u64.wrap (-(m : Int))) * 285870213051353865) / 288230376151711744 = (idx : Int))
    (hi : idx < 64) (hk : k < 64) (hcell : w.cell? ⟨1, idx, none⟩ = some (.int .u8 k)) :
    Calls Tryd.prog 73 #[.int .u64 (m : Int)] w fun e w' => e = .returned (.int .i64 k) ∧ w = w' := by
  go_enter Tryd.func73, Tryd.ntmps73
  go_wp2_with (simp only [key])
  go_ret
  exact ⟨rfl, rfl⟩

theorem tz64_any (m : Nat) (hm : m < 256) (h0 : m ≠ 0) (w : World) (hT : Tab w) :
    Calls Tryd.prog 73 #[.int .u64 (m : Int)] w fun e w' => e = .returned (.int .i64 (((low m).val : Nat) : Int)) ∧ w = w' := by
  obtain ⟨_, h1, h2⟩ := bits_facts ⟨m, hm⟩ h0
  exact tz64_core m _ (tzPlace m) w (by simp; exact h0) (tz_key m hm h0) h1 (by have := (low m).isLt; omega) (hT _ _ h2)

set_option maxHeartbeats 400000 in
theorem tz_any (m : Nat) (hm : m < 256) (h0 : m ≠ 0) (w : World) (hT : Tab w) :
    Calls Tryd.prog 67 #[.int .u64 (m : Int)] w fun e w' => e = .returned (.int .i64 (((low m).val : Nat) : Int)) ∧ w = w' := by
  have H := Lib.hid (tz64_any m hm h0 w hT)
  clear hT
  go_enter Tryd.func67, Tryd.ntmps67
  go_wp2_with (go_at_call 73; refine H.out.mono ?_; rintro e w' ⟨rfl, rfl⟩)
  go_ret
  exact ⟨rfl, rfl⟩

end Go.Proofs.YtellghhilcjbnaaDoor

/-
  WHERE WHAT THE CALL MADE LIES: rows between two heap sizes; what a write to some of them leaves alone; lists of lists.
-/
namespace Go.Proofs.YtellghhilcjbnaaDoor
set_option linter.unusedVariables false
set_option linter.unusedSimpArgs false
open Go.RowKit

theorem addr_add (g j : Nat) : (⟨g, 0, none⟩ : Addr).add j = ⟨g, 0 + j, none⟩ := by unfold Addr.add; split <;> simp_all

/-- Of what there was, nothing has turned but what lies from lo on, below hi. -/
structure Within (lo hi : Nat) (w w' : World) : Prop where
  os : w'.os = w.os
  tape : w'.tape = w.tape
  output : w'.output = w.output
  size : w.heap.size ≤ w'.heap.size
  block : ∀ k, k < w.heap.size → k < lo ∨ hi ≤ k → w'.heap[k]? = w.heap[k]?

theorem Within.refl (lo hi : Nat) (w : World) : Within lo hi w w := ⟨rfl, rfl, rfl, Nat.le_refl _, fun _ _ _ => rfl⟩
theorem Within.trans {lo hi : Nat} {w w1 w2 : World} (h : Within lo hi w w1) (h2 : Within lo hi w1 w2) : Within lo hi w w2 :=
  ⟨h2.os.trans h.os, h2.tape.trans h.tape, h2.output.trans h.output, Nat.le_trans h.size h2.size, fun k hk hr => (h2.block k (Nat.lt_of_lt_of_le hk h.size) hr).trans (h.block k hk hr)⟩
theorem Within.of_grown {w w' : World} {row : Option Nat} {lo hi : Nat} (h : w.grownBy w' row) (hr : ∀ k, row = some k → lo ≤ k ∧ k < hi) : Within lo hi w w' :=
  ⟨h.os, h.tape, h.output, h.size, fun k hk ho => h.block k hk (fun e => by have := hr k e.symm; omega)⟩
theorem Within.drewN {lo hi : Nat} {w w' : World} (h : Within lo hi w w') (n : Nat) : Within lo hi w (w'.drewN n) := by
  exact ⟨h.os, h.tape, h.output, h.size, h.block⟩
theorem Below.within {w0 w w' : World} {lo hi : Nat} (h : Below w0.heap.size w0 w) (hw : Within lo hi w w') (hlo : w0.heap.size ≤ lo) : Below w0.heap.size w0 w' :=
  ⟨hw.os.trans h.os, hw.tape.trans h.tape, hw.output.trans h.output, Nat.le_trans h.size hw.size,
    fun k hk => (hw.block k (Nat.lt_of_lt_of_le hk h.size) (.inl (Nat.lt_of_lt_of_le hk hlo))).trans (h.block k hk)⟩
theorem within_of_below {w w' : World} (h : Below w.heap.size w w') (lo : Nat) : Within lo lo w w' := ⟨h.os, h.tape, h.output, h.size, fun k hk _ => h.block k hk⟩

/-- A slice of one-cell elements that the call owns, its row from lo on, below hi. -/
def OwnsAt (w : World) (lo hi : Nat) (e : TypeId) (v : Value) (n : Nat) (cs : List Value) : Prop :=
  w.ownsRow lo e 1 v n cs ∧ ∀ k, v.ownBlock = some k → k < hi
theorem OwnsAt.of {w : World} {lo : Nat} {e : TypeId} {v : Value} {n : Nat} {cs : List Value} (h : w.ownsRow lo e 1 v n cs) : OwnsAt w lo w.heap.size e v n cs := ⟨h, fun k hk => (h.lt k hk).2⟩
theorem OwnsAt.kept {w w' : World} {lo hi a b : Nat} {e : TypeId} {v : Value} {n : Nat} {cs : List Value} (h : OwnsAt w lo hi e v n cs) (hw : Within a b w w') (hd : hi ≤ a ∨ b ≤ lo) : OwnsAt w' lo hi e v n cs := by
  refine ⟨⟨h.1.1, ?_⟩, h.2⟩
  rcases h.1.2 with hn | ⟨g, cap, cur, rfl, hb, hgg, rest⟩
  · exact .inl hn
  · refine .inr ⟨g, cap, cur, rfl, hb, ?_, rest⟩
    have := h.2 g rfl
    rw [hw.block g (Array.getElem?_eq_some_iff.1 hgg).1 (by omega)]
    exact hgg
theorem OwnsAt.below {w w' : World} {lo hi : Nat} {e : TypeId} {v : Value} {n : Nat} {cs : List Value} (h : OwnsAt w lo hi e v n cs) (hb : Below w.heap.size w w') : OwnsAt w' lo hi e v n cs :=
  ⟨h.1.kept (grown_of_below hb) (by cases v.ownBlock <;> simp), h.2⟩
theorem OwnsAt.drewN {w : World} {lo hi : Nat} {e : TypeId} {v : Value} {n : Nat} {cs : List Value} (h : OwnsAt w lo hi e v n cs) (q : Nat) : OwnsAt (w.drewN q) lo hi e v n cs := h
theorem OwnsAt.wide {w : World} {lo lo' hi hi' : Nat} {e : TypeId} {v : Value} {n : Nat} {cs : List Value} (h : OwnsAt w lo hi e v n cs) (hl : lo' ≤ lo) (hh : hi ≤ hi') : OwnsAt w lo' hi' e v n cs :=
  ⟨owns_mono h.1 hl, fun k hk => Nat.lt_of_lt_of_le (h.2 k hk) hh⟩

abbrev OwnsInts (w : World) (lo hi : Nat) (v : Value) (xs : List Int) : Prop := OwnsAt w lo hi 3 v xs.length (vals xs)

/-- A list of lists that the call owns: the outer row holds the slices us, each of them owns its list, no two share a row. -/
structure OwnsRows (w : World) (lo hi : Nat) (v : Value) (us : List Value) (xss : List (List Int)) : Prop where
  len : us.length = xss.length
  outer : OwnsAt w lo hi 24 v xss.length us
  inner : ∀ (i : Nat) (h : i < us.length), OwnsInts w lo hi us[i] (xss[i]'(len ▸ h))
  apart : ∀ (i j : Nat) (hij : i < j) (hj : j < us.length), (us[i]'(Nat.lt_trans hij hj)).ownBlock = none ∨ (us[i]'(Nat.lt_trans hij hj)).ownBlock ≠ us[j].ownBlock

theorem OwnsRows.kept {w w' : World} {lo hi a b : Nat} {v : Value} {us : List Value} {xss : List (List Int)} (h : OwnsRows w lo hi v us xss) (hw : Within a b w w') (hd : hi ≤ a ∨ b ≤ lo) : OwnsRows w' lo hi v us xss :=
  ⟨h.len, h.outer.kept hw hd, fun i hi' => (h.inner i hi').kept hw hd, h.apart⟩
theorem OwnsRows.below {w w' : World} {lo hi : Nat} {v : Value} {us : List Value} {xss : List (List Int)} (h : OwnsRows w lo hi v us xss) (hb : Below w.heap.size w w') : OwnsRows w' lo hi v us xss :=
  ⟨h.len, h.outer.below hb, fun i hi' => (h.inner i hi').below hb, h.apart⟩
theorem OwnsRows.drewN {w : World} {lo hi : Nat} {v : Value} {us : List Value} {xss : List (List Int)} (h : OwnsRows w lo hi v us xss) (q : Nat) : OwnsRows (w.drewN q) lo hi v us xss :=
  ⟨h.len, h.outer.drewN q, fun i hi' => (h.inner i hi').drewN q, h.apart⟩
theorem OwnsRows.wide {w : World} {lo lo' hi hi' : Nat} {v : Value} {us : List Value} {xss : List (List Int)} (h : OwnsRows w lo hi v us xss) (hl : lo' ≤ lo) (hh : hi ≤ hi') : OwnsRows w lo' hi' v us xss :=
  ⟨h.len, h.outer.wide hl hh, fun i hi' => (h.inner i hi').wide hl hh, h.apart⟩

/-- A list of lists that can be read. -/
def IntRows (w : World) (v : Value) (xss : List (List Int)) : Prop :=
  ∃ (A : Option Addr) (cap : Nat) (us : List Value), v = .slice A xss.length cap ∧ xss.length ≤ maxLen ∧ us.length = xss.length ∧
    ∀ (i : Nat) (h : i < xss.length) (u : Value), us[i]? = some u → (∃ b off, A = some ⟨b, off, none⟩ ∧ w.cell? ⟨b, off + i, none⟩ = some u) ∧ Ints w u xss[i]

theorem IntRows.at {w : World} {v : Value} {xss : List (List Int)} (h : IntRows w v xss) : ∃ A cap, v = .slice A xss.length cap ∧ xss.length ≤ maxLen ∧
    ∀ (i : Nat) (h : i < xss.length), ∃ b off u, A = some ⟨b, off, none⟩ ∧ w.cell? ⟨b, off + i, none⟩ = some u ∧ Ints w u xss[i] := by
  obtain ⟨A, cap, us, hv, hm, hl, hc⟩ := h
  refine ⟨A, cap, hv, hm, fun i hi => ?_⟩
  obtain ⟨⟨b, off, hA, hcell⟩, hx⟩ := hc i hi us[i] (List.getElem?_eq_getElem (by omega))
  exact ⟨b, off, us[i], hA, hcell, hx⟩

theorem IntRows.below {w w' : World} {v : Value} {xss : List (List Int)} (h : IntRows w v xss) (hb : Below w.heap.size w w') : IntRows w' v xss := by
  obtain ⟨A, cap, us, hv, hm, hl, hc⟩ := h
  refine ⟨A, cap, us, hv, hm, hl, fun i hi u hu => ?_⟩
  obtain ⟨⟨b, off, hA, hcell⟩, hx⟩ := hc i hi u hu
  exact ⟨⟨b, off, hA, (hb.cell (p := ⟨b, off + i, none⟩) (World.block_lt_of_cell? w _ hcell)).trans hcell⟩, hx.below hb⟩
theorem IntRows.drewN {w : World} {v : Value} {xss : List (List Int)} (h : IntRows w v xss) (n : Nat) : IntRows (w.drewN n) v xss := h

theorem ints_at_owns {w : World} {lo hi : Nat} {v : Value} {xs : List Int} (h : OwnsInts w lo hi v xs) : Ints w v xs := ints_of_owns h.1

theorem rows_of_owns {w : World} {lo hi : Nat} {v : Value} {us : List Value} {xss : List (List Int)} (h : OwnsRows w lo hi v us xss) : IntRows w v xss := by
  have hl := h.len
  rcases h.outer.1.2 with ⟨rfl, hn⟩ | ⟨g, cap, cur, rfl, hb, hg, hnc, hm, hcs, htake⟩
  · have : xss = [] := by simpa using hn
    subst this
    exact ⟨none, 0, us, rfl, by simp [maxLen], hl, fun i hi => by simp at hi⟩
  · refine ⟨some ⟨g, 0, none⟩, cap, us, rfl, by omega, hl, fun i hi u hu => ?_⟩
    have hi' : i < us.length := by omega
    have hui : us[i] = u := by rw [List.getElem?_eq_getElem hi'] at hu; simpa using hu
    refine ⟨⟨g, 0, rfl, ?_⟩, ?_⟩
    · have hc := h.outer.1.cells (g := g) rfl i u hu
      have hadd : (⟨g, 0, none⟩ : Addr).add i = ⟨g, 0 + i, none⟩ := by unfold Addr.add; split <;> simp_all
      rw [hadd] at hc
      exact hc
    · rw [← hui]; exact ints_at_owns (h.inner i hi')

/-- How many numbers there are in all. -/
def total (xss : List (List Int)) : Nat := (xss.map List.length).sum
theorem total_take_succ (xss : List (List Int)) (k : Nat) (h : k < xss.length) : total (xss.take (k + 1)) = total (xss.take k) + xss[k].length := by
  unfold total
  rw [List.take_succ_eq_append_getElem h, List.map_append, List.sum_append]
  simp only [List.map_cons, List.map_nil, List.sum_cons, List.sum_nil, Nat.add_zero]
theorem total_take_le (xss : List (List Int)) (k : Nat) : total (xss.take k) ≤ total xss := by
  unfold total
  conv => rhs; rw [← List.take_append_drop k xss]
  rw [List.map_append, List.sum_append]
  omega
theorem row_le_total {xss : List (List Int)} {k : Nat} (h : k < xss.length) : xss[k].length ≤ total xss := by
  have := total_take_le xss (k + 1)
  rw [total_take_succ xss k h] at this
  omega

theorem grown_setCell (W : World) (b k : Nat) (v : Value) : W.grownBy (W.setCell ⟨b, k, none⟩ v) (some b) :=
  ⟨rfl, rfl, rfl, by simp [World.setCell], fun j _ hj => Below.heap_setCell _ _ _ j (fun e => hj (by rw [e]))⟩

/-- A list of lists under way: the first rows stand. -/
structure RowsTo (w : World) (lo B n : Nat) (us : List Value) (xss : List (List Int)) : Prop where
  len : us.length ≤ xss.length
  outer : w.ownsRow lo 24 1 (.slice (some ⟨B, 0, none⟩) n n) n (us ++ List.replicate (n - us.length) (.slice none 0 0))
  inner : ∀ (i : Nat) (h : i < us.length), OwnsInts w (B + 1) w.heap.size us[i] (xss[i]'(Nat.lt_of_lt_of_le h len))
  apart : ∀ (i j : Nat) (hij : i < j) (hj : j < us.length), (us[i]'(Nat.lt_trans hij hj)).ownBlock = none ∨ (us[i]'(Nat.lt_trans hij hj)).ownBlock ≠ us[j].ownBlock

theorem set_push {us : List Value} {n : Nat} (h : us.length < n) (z u : Value) : (us ++ List.replicate (n - us.length) z).set us.length u = (us ++ [u]) ++ List.replicate (n - (us ++ [u]).length) z := by
  obtain ⟨m, hm⟩ : ∃ m, n - us.length = m + 1 := ⟨n - us.length - 1, by omega⟩
  have e : n - (us ++ [u]).length = m := by simp; omega
  rw [hm, e, List.replicate_succ, List.set_append_right _ _ (Nat.le_refl _), Nat.sub_self, List.set_cons_zero]
  simp

theorem RowsTo.push {wr w2 : World} {lo B n : Nat} {us : List Value} {xss : List (List Int)} (h : RowsTo wr lo B n us xss) (hn : us.length < xss.length) (hne : n = xss.length) (hb : Below wr.heap.size wr w2) (hB : B < wr.heap.size)
    {u : Value} (hu : Owns w2 wr.heap.size u (xss[us.length]'hn)) : RowsTo (w2.setCell ⟨B, us.length, none⟩ u) lo B n (us ++ [u]) xss := by
  have hsz : (w2.setCell ⟨B, us.length, none⟩ u).heap.size = w2.heap.size := by simp [World.setCell]
  have hwi : Within B (B + 1) w2 (w2.setCell ⟨B, us.length, none⟩ u) := Within.of_grown (grown_setCell w2 B us.length u) (fun k hk => by cases hk; omega)
  have hs := hb.size
  have hold : ∀ (i : Nat) (hi : i < us.length), OwnsInts (w2.setCell ⟨B, us.length, none⟩ u) (B + 1) (w2.setCell ⟨B, us.length, none⟩ u).heap.size us[i] (xss[i]'(Nat.lt_of_lt_of_le hi h.len)) := fun i hi =>
    (((h.inner i hi).below hb).kept hwi (.inr (Nat.le_refl _))).wide (Nat.le_refl _) (by rw [hsz]; exact hs)
  have hnew : OwnsInts (w2.setCell ⟨B, us.length, none⟩ u) (B + 1) (w2.setCell ⟨B, us.length, none⟩ u).heap.size u (xss[us.length]'hn) :=
    ((OwnsAt.of hu).kept hwi (.inr (by omega))).wide (by omega) (by rw [hsz]; exact Nat.le_refl _)
  refine ⟨by simp; omega, ?_, fun i hi => ?_, fun i j hij hj => ?_⟩
  · have := ((owns_below h.outer hb).stored us.length u).1
    rw [set_push (by omega)] at this
    exact this
  · by_cases hi2 : i < us.length
    · have := hold i hi2
      simpa [List.getElem_append_left hi2] using this
    · have hi3 : i = us.length := by simp at hi; omega
      subst hi3
      simpa using hnew
  · have hi2 : i < us.length := by simp at hj; omega
    by_cases hj2 : j < us.length
    · have := h.apart i j hij hj2
      simpa [List.getElem_append_left hi2, List.getElem_append_left hj2] using this
    · have hj3 : j = us.length := by simp at hj; omega
      subst hj3
      simp only [List.getElem_append_left hi2]
      have hx : (us ++ [u])[us.length]'hj = u := by simp
      rw [hx]
      cases hv : us[i].ownBlock with
      | none => exact .inl rfl
      | some b =>
        right
        intro he
        have h1 := (h.inner i hi2).2 b hv
        have h2 := (hu.lt b he.symm).1
        omega

theorem RowsTo.done {w : World} {lo B n : Nat} {us : List Value} {xss : List (List Int)} (h : RowsTo w lo B n us xss) (hn : n = xss.length) (hl : us.length = xss.length) (hlo : lo ≤ B) : OwnsRows w lo w.heap.size (.slice (some ⟨B, 0, none⟩) n n) us xss := by
  refine ⟨hl, ?_, fun i hi => (h.inner i hi).wide (by omega) (Nat.le_refl _), h.apart⟩
  have := h.outer
  rw [hl, ← hn, Nat.sub_self, List.replicate_zero, List.append_nil] at this
  rw [← hn]
  exact OwnsAt.of this

/-- One of the rows has turned, in its own block. -/
theorem OwnsRows.turn {w w' : World} {lo hi : Nat} {v : Value} {us : List Value} {zs : List (List Int)} (h : OwnsRows w lo hi v us zs) (j : Nat) (hj : j < us.length) (hg : w.grownBy w' us[j].ownBlock) (ys : List Int)
    (hnew : Owns w' lo us[j] ys) : OwnsRows w' lo hi v us (zs.set j ys) := by
  refine ⟨by rw [List.length_set]; exact h.len, ⟨?_, h.outer.2⟩, fun i hi' => ?_, h.apart⟩
  · rw [List.length_set]
    refine h.outer.1.kept hg ?_
    cases hv : v.ownBlock with
    | none => exact .inl rfl
    | some b =>
      right
      intro he
      rcases h.outer.1.2 with ⟨rfl, _⟩ | ⟨g, cap, cur, rfl, _, hgb, _⟩
      · simp [Value.ownBlock] at hv
      · obtain rfl : g = b := by simpa [Value.ownBlock] using hv
        rcases (h.inner j hj).1.2 with ⟨hz, _⟩ | ⟨g2, cap2, cur2, hz, _, hgb2, _⟩
        · rw [hz] at he; simp [Value.ownBlock] at he
        · rw [hz] at he
          obtain rfl : g = g2 := by simpa [Value.ownBlock] using he
          rw [hgb] at hgb2
          simp at hgb2
  · by_cases e : i = j
    · subst e
      simp only [List.getElem_set_self]
      exact ⟨hnew, (h.inner i hi').2⟩
    · have hi2 : i < zs.length := h.len ▸ hi'
      rw [List.getElem_set_ne (fun he => e he.symm)]
      refine ⟨(h.inner i hi').1.kept hg ?_, (h.inner i hi').2⟩
      rcases Nat.lt_or_gt_of_ne e with hlt | hgt
      · exact h.apart i j hlt hj
      · rcases h.apart j i hgt hi' with hn | hn
        · rw [hn]
          cases us[i].ownBlock <;> simp
        · exact .inr (Ne.symm hn)

/-- The marks of a list of lists, from a number on. -/
def markRows (k : Int) : List (List Int) → List (List Int)
  | [] => []
  | xs :: xss => (List.range xs.length).map (fun (i : Nat) => k + i) :: markRows (k + xs.length) xss
theorem markRows_len : ∀ (k : Int) (xss : List (List Int)), (markRows k xss).length = xss.length
  | _, [] => rfl
  | k, xs :: xss => by simp [markRows, markRows_len (k + xs.length) xss]
theorem markRows_snoc : ∀ (k : Int) (xss : List (List Int)) (xs : List Int), markRows k (xss ++ [xs]) = markRows k xss ++ [(List.range xs.length).map (fun (i : Nat) => k + total xss + i)]
  | k, [], xs => by simp [markRows, total]
  | k, ys :: xss, xs => by
    rw [List.cons_append, markRows, markRows_snoc (k + ys.length) xss xs, markRows]
    simp only [List.cons_append, List.cons.injEq, true_and]
    have e : (total (ys :: xss) : Int) = ys.length + total xss := by simp [total]
    rw [e]
    congr 2
    apply List.map_congr_left
    intro i _
    omega
/-- So many rows are marked. -/
def markTo (k : Int) (xss : List (List Int)) (j : Nat) : List (List Int) := markRows k (xss.take j) ++ xss.drop j
theorem markTo_len (k : Int) (xss : List (List Int)) (j : Nat) : (markTo k xss j).length = xss.length := by
  unfold markTo; rw [List.length_append, markRows_len, ← List.length_append, List.take_append_drop]
theorem markTo_at (k : Int) (xss : List (List Int)) (j : Nat) (h : j < xss.length) : (markTo k xss j)[j]? = some xss[j] := by
  unfold markTo
  have e : (markRows k (xss.take j)).length = j := by rw [markRows_len, List.length_take]; omega
  rw [List.getElem?_append_right (by omega), e, Nat.sub_self, List.getElem?_drop, Nat.add_zero, List.getElem?_eq_getElem h]
theorem markTo_step (k : Int) (xss : List (List Int)) (j : Nat) (h : j < xss.length) : (markTo k xss j).set j ((List.range xss[j].length).map (fun (i : Nat) => k + total (xss.take j) + i)) = markTo k xss (j + 1) := by
  unfold markTo
  have e : (markRows k (xss.take j)).length = j := by rw [markRows_len, List.length_take]; omega
  rw [List.set_append_right _ _ (by omega), e, Nat.sub_self, List.take_succ_eq_append_getElem h, markRows_snoc, List.drop_eq_getElem_cons h, List.set_cons_zero]
  simp
theorem markTo_zero (k : Int) (xss : List (List Int)) : markTo k xss 0 = xss := by simp [markTo, markRows]
theorem markTo_all (k : Int) (xss : List (List Int)) : markTo k xss xss.length = markRows k xss := by simp [markTo]

end Go.Proofs.YtellghhilcjbnaaDoor

/-
  WHAT A FUNCTION HAS HANDED BACK: lists of lists, numbers, whether.
-/
namespace Go.Proofs.YtellghhilcjbnaaDoor
set_option linter.unusedVariables false
set_option linter.unusedSimpArgs false
open Go.RowKit

def GivesRows (w : World) (ok : Bool) (xss : List (List Int)) (e : Ending) (w' : World) : Prop :=
  ∃ v us, e = .returned (.tuple #[v, .bool ok]) ∧ Below w.heap.size w w' ∧ OwnsRows w' w.heap.size w'.heap.size v us xss
def GivesBool (w : World) (r : Bool) (e : Ending) (w' : World) : Prop := e = .returned (.bool r) ∧ Below w.heap.size w w'
def GivesNum2 (w : World) (ok : Bool) (r1 r2 : Int) (e : Ending) (w' : World) : Prop := e = .returned (.tuple #[.int .i64 r1, .int .i64 r2, .bool ok]) ∧ Below w.heap.size w w'

end Go.Proofs.YtellghhilcjbnaaDoor

/-
  A LIST OF LISTS THAT GROWS.
-/
namespace Go.Proofs.YtellghhilcjbnaaDoor
set_option linter.unusedVariables false
set_option linter.unusedSimpArgs false
open Go.RowKit

theorem infoRow : (Tryd.prog.info? 24).map (fun i => (i.zero, i.size, i.bytes)) = some (some (.slice none 0 0), 1, 24) := by kernel_rfl

theorem row_cells {W : World} {base : Nat} {e : TypeId} {v : Value} {n : Nat} {xs : List Value} {b : Nat} (h : W.ownsRow base e 1 v n xs) (hb : v.ownBlock = some b) : ∃ c fr, W.heap[b]? = some (.cells c e fr) := by
  rcases h.2 with ⟨rfl, _⟩ | ⟨g, cap, cur, rfl, _, hgb, _⟩
  · simp [Value.ownBlock] at hb
  · obtain rfl : g = b := by simpa [Value.ownBlock] using hb
    exact ⟨_, _, hgb⟩
theorem rows_apart {W : World} {b1 b2 : Nat} {e1 e2 : TypeId} {v1 v2 : Value} {n1 n2 : Nat} {xs1 xs2 : List Value} (h1 : W.ownsRow b1 e1 1 v1 n1 xs1) (h2 : W.ownsRow b2 e2 1 v2 n2 xs2) (he : e1 ≠ e2) : v1.ownBlock = none ∨ v1.ownBlock ≠ v2.ownBlock := by
  cases hv : v1.ownBlock with
  | none => exact .inl rfl
  | some b =>
    right
    intro he2
    obtain ⟨c1, f1, hc1⟩ := row_cells h1 hv
    obtain ⟨c2, f2, hc2⟩ := row_cells h2 he2.symm
    rw [hc1] at hc2
    simp at hc2
    exact he hc2.2.1
theorem row_still {W W' : World} {row : Option Nat} {base : Nat} {e : TypeId} {v : Value} {n : Nat} {xs : List Value} (h : W.ownsRow base e 1 v n xs) (hg : W.grownBy W' row) (hr : ∀ r, row = some r → ∃ o : Obj, W.heap[r]? = some o ∧ o.isCells = false) : W'.ownsRow base e 1 v n xs := by
  refine h.kept hg ?_
  cases hv : v.ownBlock with
  | none => exact .inl rfl
  | some b =>
    right
    intro he
    obtain ⟨c1, f1, hc1⟩ := row_cells h hv
    obtain ⟨o, ho, hc⟩ := hr b he.symm
    rw [hc1] at ho
    cases ho
    cases hc

/-- A list of lists stands still where no cells turn. -/
theorem OwnsRows.still {W W' : World} {lo hi : Nat} {v : Value} {us : List Value} {xss : List (List Int)} {row : Option Nat} (h : OwnsRows W lo hi v us xss) (hg : W.grownBy W' row) (hr : ∀ r, row = some r → ∃ o : Obj, W.heap[r]? = some o ∧ o.isCells = false) : OwnsRows W' lo hi v us xss :=
  ⟨h.len, ⟨row_still h.outer.1 hg hr, h.outer.2⟩, fun i hi' => ⟨row_still (h.inner i hi').1 hg hr, (h.inner i hi').2⟩, h.apart⟩

/-- A list of lists stands still where a cell of another type turns. -/
theorem OwnsRows.other {W W' : World} {lo hi : Nat} {v : Value} {us : List Value} {xss : List (List Int)} {b : Nat} {c : Array Value} {t : TypeId} {fr : Nat × Nat} (h : OwnsRows W lo hi v us xss) (hg : W.grownBy W' (some b)) (hb : W.heap[b]? = some (.cells c t fr)) (ht : t ≠ 24) (ht2 : t ≠ 3) : OwnsRows W' lo hi v us xss := by
  have far : ∀ {base : Nat} {e : TypeId} {v : Value} {n : Nat} {ys : List Value}, W.ownsRow base e 1 v n ys → t ≠ e → W'.ownsRow base e 1 v n ys := fun {base e v n ys} hr he => by
    refine hr.kept hg ?_
    cases hv : v.ownBlock with
    | none => exact .inl rfl
    | some k =>
      right
      intro e2
      obtain ⟨c1, f1, hc1⟩ := row_cells hr hv
      cases e2
      rw [hb] at hc1
      simp at hc1
      exact he hc1.2.1
  exact ⟨h.len, ⟨far h.outer.1 ht, h.outer.2⟩, fun i hi' => ⟨far (h.inner i hi').1 ht2, (h.inner i hi').2⟩, h.apart⟩

theorem owns_rows_nil (W : World) (lo : Nat) (v : Value) (h : W.ownsRow lo 24 1 v 0 []) : OwnsRows W lo W.heap.size v [] [] :=
  ⟨rfl, OwnsAt.of h, fun i hi => by simp at hi, fun i j _ hj => by simp at hj⟩

/-- One list more. -/
theorem OwnsRows.push {w w2 w3 : World} {lo : Nat} {v : Value} {us : List Value} {xss : List (List Int)} (h : OwnsRows w lo w.heap.size v us xss) (hlo : lo ≤ w.heap.size) (hb : Below w.heap.size w w2) {u : Value} {xs : List Int} (hu : Owns w2 w.heap.size u xs)
    {v' : Value} (hown : w3.ownsRow lo 24 1 v' (us.length + 1) (us ++ [u])) (hg : w2.grownBy w3 v.ownBlock) : OwnsRows w3 lo w3.heap.size v' (us ++ [u]) (xss ++ [xs]) := by
  have hs := hb.size
  have hs3 := hg.size
  have hvb : ∀ b, v.ownBlock = some b → b < w.heap.size := fun b hb => h.outer.2 b hb
  have hout2 := owns_below h.outer.1 hb
  have hold : ∀ (i : Nat) (hi : i < us.length), OwnsInts w3 lo w3.heap.size us[i] (xss[i]'(h.len ▸ hi)) := fun i hi => by
    have h1 := h.inner i hi
    have h2 := owns_below h1.1 hb
    exact ⟨h2.kept hg (rows_apart h2 hout2 (by decide)), fun k hk => Nat.lt_of_lt_of_le (h1.2 k hk) (by omega)⟩
  have hnew : OwnsInts w3 lo w3.heap.size u xs := by
    refine ⟨owns_mono (hu.kept hg (rows_apart hu hout2 (by decide))) hlo, fun k hk => ?_⟩
    have := (hu.lt k hk).2
    omega
  refine ⟨by simp [h.len], ?_, fun i hi => ?_, fun i j hij hj => ?_⟩
  · have e : (xss ++ [xs]).length = us.length + 1 := by simp [h.len]
    rw [e]
    exact OwnsAt.of hown
  · by_cases hi2 : i < us.length
    · have := hold i hi2
      have hx : i < xss.length := h.len ▸ hi2
      simpa [List.getElem_append_left hi2, List.getElem_append_left hx] using this
    · have hi3 : i = us.length := by simp at hi; omega
      subst hi3
      have e1 : (us ++ [u])[us.length]'hi = u := by simp
      have e2 : (xss ++ [xs])[us.length]'(by simp [h.len]) = xs := by simp [h.len]
      rw [e1, e2]
      exact hnew
  · have hi2 : i < us.length := by simp at hj; omega
    by_cases hj2 : j < us.length
    · have := h.apart i j hij hj2
      simpa [List.getElem_append_left hi2, List.getElem_append_left hj2] using this
    · have hj3 : j = us.length := by simp at hj; omega
      subst hj3
      simp only [List.getElem_append_left hi2]
      have hx : (us ++ [u])[us.length]'hj = u := by simp
      rw [hx]
      cases hv : us[i].ownBlock with
      | none => exact .inl rfl
      | some b =>
        right
        intro he
        have h1 := (h.inner i hi2).2 b hv
        have h2 := (hu.lt b he.symm).1
        omega

end Go.Proofs.YtellghhilcjbnaaDoor

/-
  A REGION PROVED ONCE, ITS REST WALKED ONCE.
-/
namespace Go.Proofs.YtellghhilcjbnaaDoor
set_option linter.unusedVariables false
set_option linter.unusedSimpArgs false
open Go.RowKit

theorem once_any {P : Program} {c : Code} {Q : Exit → Act → World → Prop} {a : Act} {w : World} {α : Type} (R : α → World → Prop) {F : α → Act}
    (h1 : c.wp P (Exit.then (fun a' w' => ∃ x, R x w' ∧ a' = F x) (fun _ _ _ => False)) a w) (h2 : ∀ x w', R x w' → Q .normal (F x) w') : c.wp P Q a w :=
  Code.wp_mono (fun e _ _ h => by
    cases e <;> first | exact h.elim | skip
    obtain ⟨x, hr, ha⟩ := h
    subst ha
    exact h2 x _ hr) h1

/-- The same where the frame at the end names three numbers. -/
theorem once_three {P : Program} {c : Code} {Q : Exit → Act → World → Prop} {a : Act} {w : World} (R : Nat → Nat → Nat → World → Prop) {F : Nat → Nat → Nat → Act}
    (h1 : c.wp P (Exit.then (fun a' w' => ∃ x y z, R x y z w' ∧ a' = F x y z) (fun _ _ _ => False)) a w) (h2 : ∀ x y z w', R x y z w' → Q .normal (F x y z) w') : c.wp P Q a w :=
  Code.wp_mono (fun e _ _ h => by
    cases e <;> first | exact h.elim | skip
    obtain ⟨x, y, z, hr, ha⟩ := h
    subst ha
    exact h2 x y z _ hr) h1

/-- The same where the frame at the end names a slice. -/
theorem once_slice {P : Program} {c : Code} {Q : Exit → Act → World → Prop} {a : Act} {w : World} (R : Value → World → Prop) {F : Option Addr → Nat → Nat → Act}
    (h1 : c.wp P (Exit.then (fun a' w' => ∃ x y z, R (.slice x y z) w' ∧ a' = F x y z) (fun _ _ _ => False)) a w) (h2 : ∀ x y z w', R (.slice x y z) w' → Q .normal (F x y z) w') : c.wp P Q a w :=
  Code.wp_mono (fun e _ _ h => by
    cases e <;> first | exact h.elim | skip
    obtain ⟨x, y, z, hr, ha⟩ := h
    subst ha
    exact h2 x y z _ hr) h1

/-- A region proved once, where the frame at the end is one. -/
theorem once_zero {P : Program} {c : Code} {Q : Exit → Act → World → Prop} {a : Act} {w : World} (R : World → Prop) {F : Act}
    (h1 : c.wp P (Exit.then (fun a' w' => R w' ∧ a' = F) (fun _ _ _ => False)) a w) (h2 : ∀ w', R w' → Q .normal F w') : c.wp P Q a w :=
  Code.wp_mono (fun e _ _ h => by
    cases e <;> first | exact h.elim | skip
    obtain ⟨hr, ha⟩ := h
    subst ha
    exact h2 _ hr) h1

end Go.Proofs.YtellghhilcjbnaaDoor

/-
  What stands in a block stays there.
-/
namespace Go.Proofs.YtellghhilcjbnaaDoor
set_option linter.unusedVariables false
set_option linter.unusedSimpArgs false
open Go.RowKit

theorem kept_obj {W W' : World} {g : Nat} {o : Obj} (hb : Below W.heap.size W W') (h : W.heap[g]? = some o) : W'.heap[g]? = some o :=
  (hb.block _ (Array.getElem?_eq_some_iff.1 h).1).trans h
theorem below_undrew {W W' : World} (h : Below W.drew.heap.size W.drew W') : Below W.heap.size W W' := ⟨h.os, h.tape, h.output, h.size, h.block⟩

end Go.Proofs.YtellghhilcjbnaaDoor

/-
  A FUNCTION HAS HANDED BACK A NUMBER AND WHETHER IT SUCCEEDED.
-/
namespace Go.Proofs.YtellghhilcjbnaaDoor
set_option linter.unusedVariables false
set_option linter.unusedSimpArgs false
open Go.RowKit

def GivesNum (w : World) (ok : Bool) (r : Int) (e : Ending) (w' : World) : Prop :=
  e = .returned (.tuple #[.int .i64 r, .bool ok]) ∧ Below w.heap.size w w'

end Go.Proofs.YtellghhilcjbnaaDoor

/-
  The members of a set, in order.
-/
namespace Go.Proofs.YtellghhilcjbnaaDoor
set_option linter.unusedVariables false
set_option linter.unusedSimpArgs false
open Go.RowKit

/-- A set without one of its nodes. -/
def wo8 (m v : Nat) : Nat := m &&& (255 - 2 ^ v)
def elems (m : Nat) : List Nat := (bitsOf m).map Fin.val
theorem elems_len (m : Nat) : (elems m).length = (bitsOf m).length := by simp [elems]
theorem mem_elems {m v : Nat} : v ∈ elems m ↔ v < 8 ∧ m.testBit v = true := by
  unfold elems
  rw [List.mem_map]
  constructor
  · rintro ⟨x, hx, rfl⟩
    exact ⟨x.isLt, mem_bitsOf.1 hx⟩
  · rintro ⟨h8, hb⟩
    exact ⟨⟨v, h8⟩, mem_bitsOf.2 hb, rfl⟩
theorem wo8_facts : ∀ (v : Fin 8) (m : Fin 256), m.val.testBit v.val = true → (bitsOf (m.val &&& (255 - 2 ^ v.val))).length + 1 = (bitsOf m.val).length := by decide +kernel
theorem wo8_lt {m v : Nat} (hm : m < 256) : wo8 m v < 256 := Nat.lt_of_le_of_lt Nat.and_le_left hm
theorem wo8_len {m v : Nat} (hm : m < 256) (hv : v < 8) (hb : m.testBit v = true) : (bitsOf (wo8 m v)).length + 1 = (bitsOf m).length := wo8_facts ⟨v, hv⟩ ⟨m, hm⟩ hb
theorem zero_len : ∀ m : Fin 256, (bitsOf m.val).length = 0 → m.val = 0 := by decide +kernel
theorem len_zero {m : Nat} (hm : m < 256) (h : (bitsOf m).length = 0) : m = 0 := zero_len ⟨m, hm⟩ h
/-- Of the members below c. -/
def below8 (m c : Nat) : List Nat := (elems m).filter fun v => decide (v < c)
theorem below8_step : ∀ (c : Fin 8) (m : Fin 256), below8 m.val (c.val + 1) = (if m.val.testBit c.val = true then below8 m.val c.val ++ [c.val] else below8 m.val c.val) := by decide +kernel
theorem below8_zero (m : Nat) : below8 m 0 = [] := by simp [below8]
theorem below8_all {m n : Nat} (h : ∀ v ∈ elems m, v < n) : below8 m n = elems m := by
  unfold below8
  exact List.filter_eq_self.2 fun v hv => decide_eq_true (h v hv)

end Go.Proofs.YtellghhilcjbnaaDoor

/-
  laws.sameInts tells whether two slices hold the same integers; it only reads.
-/
namespace Go.Proofs.YtellghhilcjbnaaDoor
set_option linter.unusedVariables false
set_option linter.unusedSimpArgs false
open Go.RowKit

theorem take_succ_same {xs ys : List Int} {k : Nat} (h : xs.take k = ys.take k) (hx : k < xs.length) (hy : k < ys.length) (he : xs[k] = ys[k]) : xs.take (k + 1) = ys.take (k + 1) := by
  rw [List.take_succ_eq_append_getElem hx, List.take_succ_eq_append_getElem hy, h, he]

set_option maxHeartbeats 400000 in
theorem sameInts_any (w : World) (v u : Value) (xs ys : List Int) (hv : Ints w v xs) (hu : Ints w u ys) :
    Calls Tryd.prog 17 #[v, u] w fun e w' => e = .returned (.bool (decide (xs = ys))) ∧ ∃ n, w' = w.drewN n := by
  obtain ⟨A, cap, rfl, hm, hc⟩ := hv
  obtain ⟨B, cap2, rfl, hm2, hd⟩ := hu
  have HC := Lib.hid hc
  have HD := Lib.hid hd
  clear hc hd
  unfold maxLen at hm hm2
  by_cases hl : xs.length = ys.length
  · have hl1 : ((xs.length : Int) != (ys.length : Int)) = false := by simp [hl]
    have hl2 : ys.length ≤ xs.length := by omega
    have HL := Lib.hid hl
    clear hl
    go_enter Tryd.func17, Tryd.ntmps17
    go_wp2
    go_loopw [5] (fun i wr => ∃ k : Nat, k ≤ xs.length ∧ i = .int .i64 k ∧ xs.take k = ys.take k ∧ ∃ n, wr = w.drewN n)
      (fun i _ => xs.length - (intOf i).toNat)
    case atStart => exact ⟨0, Nat.zero_le _, rfl, rfl, 0, rfl⟩
    case round =>
      obtain ⟨k, hk, rfl, ht, n, rfl⟩ := hrel
      by_cases hlt : k < xs.length
      · have hlt2 : k < ys.length := by have := HL.out; omega
        obtain ⟨b, off, rfl, hcell⟩ := HC.out k hlt
        obtain ⟨b2, off2, rfl, hcell2⟩ := HD.out k hlt2
        have HT := Lib.hid ht
        clear ht
        by_cases he : xs[k] = ys[k]
        · have hne : (xs[k] != ys[k]) = false := by simp [he]
          have HE := Lib.hid he
          clear he
          go_wp2
          go_quiet (fail)
          go_wp2
          go_roundw
          case rel => exact ⟨k + 1, by omega, by go_num, take_succ_same HT.out hlt hlt2 HE.out, _, rfl⟩
          case measure => simp [intOf]; omega
        · have hne : (xs[k] != ys[k]) = true := by simp [he]
          have HF : (decide (xs = ys)) = false := by
            simp only [decide_eq_false_iff_not]; rintro rfl; exact he rfl
          have HF2 := Lib.hid HF
          clear HF he
          go_wp2
          go_quiet (fail)
          go_wp2
          go_ret
          exact ⟨ret_bool HF2.out.symm, drews⟩
      · obtain rfl : k = xs.length := by omega
        have hxy : xs = ys := by
          rw [List.take_of_length_le (Nat.le_refl _), List.take_of_length_le (by omega)] at ht; exact ht
        have HF : decide (xs = ys) = true := by simp [hxy]
        have HF2 := Lib.hid HF
        clear HF hxy ht
        go_wp2
        go_ret
        exact ⟨ret_bool HF2.out.symm, _, rfl⟩
  · have hl1 : ((xs.length : Int) != (ys.length : Int)) = true := by simp; omega
    have HF : decide (xs = ys) = false := by simp only [decide_eq_false_iff_not]; rintro rfl; exact hl rfl
    have HF2 := Lib.hid HF
    clear HF
    go_enter Tryd.func17, Tryd.ntmps17
    go_wp2
    go_ret
    exact ⟨ret_bool HF2.out.symm, 0, rfl⟩

theorem sameInts_same (w : World) (v u : Value) (xs : List Int) (hv : Ints w v xs) (hu : Ints w u xs) :
    Calls Tryd.prog 17 #[v, u] w fun e w' => e = .returned (.bool true) ∧ ∃ n, w' = w.drewN n :=
  (sameInts_any w v u xs xs hv hu).mono fun e w' ⟨he, hw⟩ => ⟨by rw [he]; exact ret_bool (by simp), hw⟩

end Go.Proofs.YtellghhilcjbnaaDoor

/-
  laws.sameRows on lists of lists that hold the same.
-/
namespace Go.Proofs.YtellghhilcjbnaaDoor
set_option linter.unusedVariables false
set_option linter.unusedSimpArgs false
open Go.RowKit


end Go.Proofs.YtellghhilcjbnaaDoor

