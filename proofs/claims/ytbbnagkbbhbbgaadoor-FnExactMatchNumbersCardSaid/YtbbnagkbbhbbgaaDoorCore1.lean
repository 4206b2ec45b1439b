/-
  Core1: Base Bits Sets Tz Links Graphs Span.
-/
import Derived.Test.YtbbnagkbbhbbgaaDoorProg
import Derived.WalkKit
import Derived.WalkSpells
import Derived.WalkLawsBesides
import Derived.RangeFuncBox
import Derived.Deep.OwnRows
import Derived.Lib.Hide
import Derived.Deep.WholeRow
/-
  WHAT EVERY TEXT OF THIS SEAT LEANS ON: a slice of integers that can be read (Ints), and small facts on memory.
-/
namespace Go.Proofs.YtbbnagkbbhbbgaaDoor
set_option linter.unusedVariables false
set_option linter.unusedSimpArgs false
open Go.RowKit

/-- A slice value whose cells hold these integers. -/
def Ints (w : World) (v : Value) (xs : List Int) : Prop :=
  ∃ A cap, v = .slice A xs.length cap ∧ xs.length ≤ maxLen ∧
    ∀ (i : Nat) (_ : i < xs.length), ∃ b off, A = some ⟨b, off, none⟩ ∧ w.cell? ⟨b, off + i, none⟩ = some (.int .i64 xs[i])

abbrev vals (xs : List Int) : List Value := xs.map (Value.int .i64)

/-- A slice of one-cell elements that the call owns. -/
abbrev Owns (w : World) (base : Nat) (v : Value) (xs : List Int) : Prop :=
  w.ownsRow base 3 1 v xs.length (vals xs)

theorem grown_of_below {w w' : World} (h : Below w.heap.size w w') : w.grownBy w' none :=
  ⟨h.os, h.tape, h.output, h.size, fun k hk _ => h.block k hk⟩

theorem Ints.below {w w' : World} {v : Value} {xs : List Int} (h : Ints w v xs) (hb : Below w.heap.size w w') : Ints w' v xs := by
  obtain ⟨A, cap, hv, hm, hc⟩ := h
  refine ⟨A, cap, hv, hm, fun i hi => ?_⟩
  obtain ⟨b, off, hA, hcell⟩ := hc i hi
  exact ⟨b, off, hA, (hb.cell (p := ⟨b, off + i, none⟩) (World.block_lt_of_cell? w _ hcell)).trans hcell⟩

theorem Ints.drewN {w : World} {v : Value} {xs : List Int} (h : Ints w v xs) (n : Nat) : Ints (w.drewN n) v xs := h

theorem owns_below {w w' : World} {base n : Nat} {e : TypeId} {v : Value} {xs : List Value} (h : w.ownsRow base e 1 v n xs) (hb : Below w.heap.size w w') : w'.ownsRow base e 1 v n xs :=
  h.kept (grown_of_below hb) (by cases v.ownBlock <;> simp)

theorem ints_of_owns {w : World} {base : Nat} {e : TypeId} {v : Value} {xs : List Int} (h : w.ownsRow base e 1 v xs.length (vals xs)) : Ints w v xs := by
  have hl := h.1
  rcases h.2 with ⟨rfl, hn⟩ | ⟨g, cap, cur, rfl, hb, hg, hnc, hm, hcs, htake⟩
  · have : xs = [] := by simpa using hn
    subst this
    exact ⟨none, 0, rfl, by simp [maxLen], fun i hi => by simp at hi⟩
  · refine ⟨some ⟨g, 0, none⟩, cap, rfl, by omega, fun i hi => ⟨g, 0, rfl, ?_⟩⟩
    have hc := h.cells (g := g) rfl i (.int .i64 xs[i]) (by simp [hi])
    have hadd : (⟨g, 0, none⟩ : Addr).add i = ⟨g, 0 + i, none⟩ := by unfold Addr.add; split <;> simp_all
    rw [hadd] at hc
    exact hc

theorem grown_trans {w w1 w2 : World} {row : Option Nat} (h : w.grownBy w1 row) (h2 : w1.grownBy w2 row) : w.grownBy w2 row :=
  ⟨h2.os.trans h.os, h2.tape.trans h.tape, h2.output.trans h.output, Nat.le_trans h.size h2.size,
    fun k hk hr => (h2.block k (Nat.lt_of_lt_of_le hk h.size) hr).trans (h.block k hk hr)⟩

theorem drews {w : World} {n m : Nat} : ∃ k, (w.drewN n).drewN m = w.drewN k := ⟨n + m, by simp⟩

theorem drews_of {w wr : World} {n m : Nat} (h : wr = w.drewN n) : ∃ k, wr.drewN m = w.drewN k := ⟨n + m, by rw [h]; simp⟩

theorem ret_bool {a b : Bool} (h : a = b) : Ending.returned (.bool a) = .returned (.bool b) := by rw [h]
theorem ret_int {k : IntKind} {a b : Int} (h : a = b) : Ending.returned (.int k a) = .returned (.int k b) := by rw [h]

theorem step_below {w w1 w2 : World} (h : Below w.heap.size w w1) (h2 : Below w1.heap.size w1 w2) : Below w.heap.size w w2 := h.trans (h2.mono h.size)

theorem owns_mono {w : World} {B B' n : Nat} {e : TypeId} {v : Value} {xs : List Value} (h : w.ownsRow B e 1 v n xs) (hB : B' ≤ B) : w.ownsRow B' e 1 v n xs := by
  refine ⟨h.1, ?_⟩
  rcases h.2 with hn | ⟨g, cap, cur, hv, hg, rest⟩
  · exact .inl hn
  · exact .inr ⟨g, cap, cur, hv, Nat.le_trans hB hg, rest⟩

/-- Rows that were made one after the other lie in blocks of their own. -/
theorem apart {w1 w2 : World} {B B' n m : Nat} {e e' : TypeId} {v u : Value} {xs ys : List Value} (h1 : w1.ownsRow B e 1 v n xs) (h2 : w2.ownsRow B' e' 1 u m ys) (hB : w1.heap.size ≤ B') :
    v.ownBlock = none ∨ v.ownBlock ≠ u.ownBlock := by
  cases hv : v.ownBlock with
  | none => exact .inl rfl
  | some k =>
    right
    intro hu
    have a := (h1.lt k hv).2
    have b := (h2.lt k hu.symm).1
    omega

/-- .. told the other way round. -/
theorem apart_back {w1 w2 : World} {B B' n m : Nat} {e e' : TypeId} {v u : Value} {xs ys : List Value} (h1 : w1.ownsRow B e 1 v n xs) (h2 : w2.ownsRow B' e' 1 u m ys) (hB : w1.heap.size ≤ B') :
    u.ownBlock = none ∨ u.ownBlock ≠ v.ownBlock := by
  cases hu : u.ownBlock with
  | none => exact .inl rfl
  | some k =>
    right
    intro hv
    have a := (h1.lt k hv.symm).2
    have b := (h2.lt k hu).1
    omega

/-- A function has handed back a new list of integers and whether it succeeded. -/
def GivesInts (w : World) (ok : Bool) (xs : List Int) (e : Ending) (w' : World) : Prop :=
  ∃ v, e = .returned (.tuple #[v, .bool ok]) ∧ Below w.heap.size w w' ∧ Owns w' w.heap.size v xs

theorem owns_empty (w : World) (B : Nat) (hB : B ≤ w.heap.size) : Owns (w.alloc (.cells #[] 3)) B (.slice (some ⟨w.heap.size, 0, none⟩) 0 0) [] :=
  World.ownsRow_lit w #[] 0 hB (by simp [maxLen]) rfl

theorem infoInt : (Tryd.prog.info? 3).map (fun i => (i.zero, i.size, i.bytes)) = some (some (.int .i64 0), 1, 8) := by kernel_rfl

end Go.Proofs.YtbbnagkbbhbbgaaDoor

/-
  SETS AS NUMBERS: what Go's bit operations give on numbers below 256, and the contracts of the small functions on sets.
-/
namespace Go.Proofs.YtbbnagkbbhbbgaaDoor
set_option linter.unusedVariables false
set_option linter.unusedSimpArgs false
open Go.RowKit

theorem pow8_le {v : Nat} (hv : v < 9) : 2 ^ v ≤ 256 := by
  have : 2 ^ v ≤ 2 ^ 8 := Nat.pow_le_pow_right (by decide) (by omega)
  simpa using this

theorem wraps_i64 (n : Int) (h₀ : 0 ≤ n) (h₁ : n < 2 ^ 62) : IntKind.i64.wrap n = n := by rw [IntKind.wrap_i64]; omega

theorem and64 (a b : Nat) (ha : a < 4611686018427387904) (hb : b < 4611686018427387904) : bits .and .i64 (a : Int) (b : Int) = ((a &&& b : Nat) : Int) :=
  (bits_nat .i64 62 (by decide) wraps_i64 a b (by simpa using ha) (by simpa using hb)).1
theorem or64 (a b : Nat) (ha : a < 4611686018427387904) (hb : b < 4611686018427387904) : bits .or .i64 (a : Int) (b : Int) = ((a ||| b : Nat) : Int) :=
  (bits_nat .i64 62 (by decide) wraps_i64 a b (by simpa using ha) (by simpa using hb)).2

theorem and_low (a x : Nat) (ha : a < 256) : a &&& x = a &&& (x % 256) := by
  have h1 : (a &&& x) % 2 ^ 8 = a % 2 ^ 8 &&& x % 2 ^ 8 := Nat.and_mod_two_pow
  have h2 : a &&& x ≤ a := Nat.and_le_left
  have h3 : a % 2 ^ 8 = a := Nat.mod_eq_of_lt (by simpa using ha)
  have h4 : (a &&& x) % 2 ^ 8 = a &&& x := Nat.mod_eq_of_lt (by omega)
  rw [h3, h4] at h1
  simpa using h1

theorem andNot64 (a b : Nat) (ha : a < 256) (hb : b < 256) : bits .andNot .i64 (a : Int) (b : Int) = ((a &&& (255 - b) : Nat) : Int) := by
  show IntKind.i64.wrap ((BitVec.ofInt 64 (a : Int) &&& ~~~BitVec.ofInt 64 (b : Int)).toNat : Int) = _
  rw [BitVec.toNat_and, BitVec.toNat_not, BitVec.ofInt_natCast, BitVec.ofInt_natCast, BitVec.toNat_ofNat, BitVec.toNat_ofNat]
  have h1 : a % 2 ^ 64 = a := Nat.mod_eq_of_lt (by omega)
  have h2 : b % 2 ^ 64 = b := Nat.mod_eq_of_lt (by omega)
  rw [h1, h2, and_low a _ ha]
  have e : (2 ^ 64 - 1 - b) % 256 = 255 - b := by omega
  rw [e]
  have hx : a &&& (255 - b) ≤ a := Nat.and_le_left
  exact wraps_i64 _ (by omega) (by omega)

theorem pow_wrap {v : Nat} (hv : v < 9) : wrap64 (2 ^ v) = ((2 ^ v : Nat) : Int) := by
  have h := pow8_le hv
  have e : (2 ^ v : Int) = ((2 ^ v : Nat) : Int) := by simp
  rw [e]
  generalize 2 ^ v = m at h
  unfold wrap64
  omega

theorem low_wrap {v : Nat} (hv : v < 9) : wrap64 (wrap64 (2 ^ v) - 1) = ((2 ^ v - 1 : Nat) : Int) := by
  rw [pow_wrap hv]
  have h := pow8_le hv
  have h1 : 0 < 2 ^ v := Nat.two_pow_pos v
  generalize 2 ^ v = m at h h1
  unfold wrap64
  omega

theorem wrap_eq (n : Int) : IntKind.i64.wrap n = wrap64 n := by unfold wrap64; exact IntKind.wrap_i64 n

theorem or_pow {s v : Nat} (hs : s < 256) (hv : v < 9) : bits .or .i64 (s : Int) (wrap64 (2 ^ v)) = ((s ||| 2 ^ v : Nat) : Int) := by
  have h := pow8_le hv
  rw [pow_wrap hv, or64 s _ (by omega) (by omega)]

theorem or_one {s : Nat} (hs : s < 256) : bits .or .i64 (s : Int) 1 = ((s ||| 1 : Nat) : Int) := by
  have := or64 s 1 (by omega) (by omega)
  simpa using this

theorem has_bit (s v : Nat) (hs : s < 256) (hv : v < 8) : (bits .and .i64 (s : Int) (wrap64 (2 ^ v)) != 0) = s.testBit v := by
  have h := pow8_le (v := v) (by omega)
  rw [pow_wrap (by omega), and64 s _ (by omega) (by omega), nat_bit, Nat.testBit_eq_decide_div_mod_eq]
  have h1 : 0 < 2 ^ v := Nat.two_pow_pos v
  by_cases hb : s / 2 ^ v % 2 = 1
  · rw [hb]
    generalize 2 ^ v = m at h1
    have : ((1 * m : Nat) : Int) ≠ 0 := by omega
    rw [bne_iff_ne.2 this]; simp
  · have : s / 2 ^ v % 2 = 0 := by omega
    rw [this]; simp

theorem shr_bit (s v : Nat) (hs : s < 256) : (bits .and .i64 ((s : Int) / 2 ^ v) 1 == 1) = s.testBit v := by
  have e : (s : Int) / 2 ^ v = ((s / 2 ^ v : Nat) : Int) := by simp
  have hd : s / 2 ^ v ≤ s := Nat.div_le_self _ _
  rw [e]
  have := and64 (s / 2 ^ v) 1 (by omega) (by omega)
  simp only [Int.cast_ofNat_Int] at this
  rw [this, nat_mask1, Nat.testBit_eq_decide_div_mod_eq]
  by_cases hb : s / 2 ^ v % 2 = 1
  · rw [hb]; simp
  · have : s / 2 ^ v % 2 = 0 := by omega
    rw [this]; simp

theorem pow7_lt {k : Nat} (hk : k < 8) : 2 ^ k < 256 := by
  have : 2 ^ k ≤ 2 ^ 7 := Nat.pow_le_pow_right (by decide) (by omega)
  omega

/-- All nodes but one. -/
theorem full_val (n k : Nat) (hn : n < 9) (hk : k < 8) : bits .andNot .i64 (IntKind.i64.wrap (IntKind.i64.wrap (2 ^ n) - 1)) (IntKind.i64.wrap (2 ^ k)) = (((2 ^ n - 1) &&& (255 - 2 ^ k) : Nat) : Int) := by
  have h := pow8_le hn
  have h1 : 0 < 2 ^ n := Nat.two_pow_pos n
  rw [wrap_eq, wrap_eq, wrap_eq, low_wrap hn, pow_wrap (by omega)]
  exact andNot64 _ _ (by omega) (pow7_lt hk)

/-- A number of an int64 without bits from n on is one from 0 to 2^n - 1. -/
theorem outside_zero (x : Int) (n : Nat) (hn : n < 9) (h1 : -9223372036854775808 ≤ x) (h2 : x ≤ 9223372036854775807) :
    (bits .andNot .i64 x ((2 ^ n - 1 : Nat) : Int) != 0) = !decide (0 ≤ x ∧ x < ((2 ^ n : Nat) : Int)) := by
  have hp := pow8_le hn
  have hp0 : 0 < 2 ^ n := Nat.two_pow_pos n
  have e : bits .andNot .i64 x ((2 ^ n - 1 : Nat) : Int) = IntKind.i64.wrap (((x % 18446744073709551616).toNat &&& (2 ^ 64 - 1 - (2 ^ n - 1)) : Nat) : Int) := by
    show IntKind.i64.wrap ((BitVec.ofInt 64 x &&& ~~~BitVec.ofInt 64 ((2 ^ n - 1 : Nat) : Int)).toNat : Int) = _
    rw [BitVec.toNat_and, BitVec.toNat_not, BitVec.ofInt_natCast, BitVec.toNat_ofNat, BitVec.toNat_ofInt, Nat.mod_eq_of_lt (by omega : 2 ^ n - 1 < 2 ^ 64)]
    rfl
  rw [e]
  generalize hX : (x % 18446744073709551616).toNat = X
  have hXlt : X < 18446744073709551616 := by omega
  have hand : X &&& (2 ^ 64 - 1 - (2 ^ n - 1)) = 0 ↔ X < 2 ^ n := by
    have hm : 2 ^ 64 - 1 - (2 ^ n - 1) = 2 ^ n * (2 ^ (64 - n) - 1) := by
      rw [Nat.mul_sub, ← Nat.pow_add, show n + (64 - n) = 64 by omega]; omega
    rw [hm]
    constructor
    · intro h
      rcases Nat.lt_or_ge X (2 ^ n) with h' | h'
      · exact h'
      · exfalso
        obtain ⟨i, hi, hb⟩ := Nat.exists_ge_and_testBit_of_ge_two_pow h'
        have hi64 : i < 64 := by
          rcases Nat.lt_or_ge i 64 with h'' | h''
          · exact h''
          · have : X.testBit i = false := Nat.testBit_lt_two_pow (Nat.lt_of_lt_of_le hXlt (by
              have : 2 ^ 64 ≤ 2 ^ i := Nat.pow_le_pow_right (by decide) h''
              simpa using this))
            rw [this] at hb; cases hb
        have hz : (X &&& 2 ^ n * (2 ^ (64 - n) - 1)).testBit i = true := by
          rw [Nat.testBit_and, hb, Nat.testBit_two_pow_mul, Nat.testBit_two_pow_sub_one]
          simp; omega
        rw [h] at hz; simp at hz
    · intro h
      apply Nat.eq_of_testBit_eq
      intro i
      rw [Nat.testBit_and, Nat.testBit_two_pow_mul]
      rcases Nat.lt_or_ge i n with h' | h'
      · simp; omega
      · have : X.testBit i = false := Nat.testBit_lt_two_pow (Nat.lt_of_lt_of_le h (Nat.pow_le_pow_right (by decide) h'))
        simp [this]
  have hb : X &&& (2 ^ 64 - 1 - (2 ^ n - 1)) < 18446744073709551616 := by
    have : X &&& (2 ^ 64 - 1 - (2 ^ n - 1)) ≤ X := Nat.and_le_left
    omega
  generalize X &&& (2 ^ 64 - 1 - (2 ^ n - 1)) = Y at *
  have hw : IntKind.i64.wrap (Y : Int) = 0 ↔ Y = 0 := by rw [IntKind.wrap_i64]; omega
  by_cases hy : Y = 0
  · have := hand.1 hy
    have hx : 0 ≤ x ∧ x < ((2 ^ n : Nat) : Int) := by omega
    rw [hw.2 hy, decide_eq_true hx]; rfl
  · have h3 : ¬ X < 2 ^ n := fun h => hy (hand.2 h)
    have hx : ¬ (0 ≤ x ∧ x < ((2 ^ n : Nat) : Int)) := by omega
    rw [decide_eq_false hx]
    have : ¬ IntKind.i64.wrap (Y : Int) = 0 := fun h => hy (hw.1 h)
    simp [this]

end Go.Proofs.YtbbnagkbbhbbgaaDoor

/-
  THE SMALL FUNCTIONS ON SETS: their contracts, for sets below 256 and nodes below 8.
-/
namespace Go.Proofs.YtbbnagkbbhbbgaaDoor
set_option linter.unusedVariables false
set_option linter.unusedSimpArgs false
open Go.RowKit

theorem ret_sets {a b : Nat} (h : a = b) : Ending.returned (.int .i64 (a : Int)) = .returned (.int .i64 (b : Int)) := by rw [h]

set_option maxHeartbeats 400000 in
theorem nodesBelow_any (n : Nat) (hn : n < 9) (w : World) :
    Calls Tryd.prog 29 #[.int .i64 (n : Int)] w fun e w' => e = .returned (.int .i64 ((2 ^ n - 1 : Nat) : Int)) ∧ w = w' := by
  have e := low_wrap hn
  have H := Lib.hid e
  clear e
  go_enter Tryd.func29, Tryd.ntmps29
  go_wp2
  go_ret
  exact ⟨by rw [← H.out]; rfl, rfl⟩

set_option maxHeartbeats 400000 in
theorem has_any (s v : Nat) (hs : s < 256) (hv : v < 8) (w : World) :
    Calls Tryd.prog 24 #[.int .i64 (s : Int), .int .i64 (v : Int)] w fun e w' => e = .returned (.bool (s.testBit v)) ∧ w = w' := by
  have H := Lib.hid (has_bit s v hs hv)
  go_enter Tryd.func24, Tryd.ntmps24
  go_wp2
  go_ret
  exact ⟨ret_bool H.out, rfl⟩


set_option maxHeartbeats 400000 in
theorem without_any (s v : Nat) (hs : s < 256) (hv : v < 8) (w : World) :
    Calls Tryd.prog 27 #[.int .i64 (s : Int), .int .i64 (v : Int)] w fun e w' => e = .returned (.int .i64 ((s &&& (255 - 2 ^ v) : Nat) : Int)) ∧ w = w' := by
  have h := pow8_le (v := v) (by omega)
  have H : Hid (bits .andNot .i64 (s : Int) (wrap64 (2 ^ v)) = ((s &&& (255 - 2 ^ v) : Nat) : Int)) := by
    show bits .andNot .i64 (s : Int) (wrap64 (2 ^ v)) = _
    have h2 : 2 ^ v < 256 := by
      have : 2 ^ v ≤ 2 ^ 7 := Nat.pow_le_pow_right (by decide) (by omega)
      omega
    rw [pow_wrap (by omega), andNot64 s _ hs h2]
  clear h
  go_enter Tryd.func27, Tryd.ntmps27
  go_wp2
  go_ret
  exact ⟨ret_int H.out, rfl⟩

set_option maxHeartbeats 400000 in
theorem l6In_any (n low high : Int) (w : World) :
    Calls Tryd.prog 16 #[.int .i64 n, .int .i64 low, .int .i64 high] w fun e w' => e = .returned (.bool (decide (low ≤ n ∧ n ≤ high))) ∧ w = w' := by
  by_cases h1 : low ≤ n
  · go_enter Tryd.func16, Tryd.ntmps16
    go_wp2
    go_ret
    exact ⟨ret_bool (by first | (simp [h1]; done) | (simp; omega)), rfl⟩
  · go_enter Tryd.func16, Tryd.ntmps16
    go_wp2
    go_ret
    exact ⟨ret_bool (by first | (simp [h1]; done) | (simp; omega)), rfl⟩

theorem l6In_yes (n low high : Int) (h1 : low ≤ n) (h2 : n ≤ high) (w : World) :
    Calls Tryd.prog 16 #[.int .i64 n, .int .i64 low, .int .i64 high] w fun e w' => e = .returned (.bool true) ∧ w = w' :=
  (l6In_any n low high w).mono fun e w' ⟨he, hw⟩ => ⟨by rw [he]; exact ret_bool (by simp [h1, h2]), hw⟩
theorem l6In_no (n low high : Int) (h : n < low ∨ high < n) (w : World) :
    Calls Tryd.prog 16 #[.int .i64 n, .int .i64 low, .int .i64 high] w fun e w' => e = .returned (.bool false) ∧ w = w' :=
  (l6In_any n low high w).mono fun e w' ⟨he, hw⟩ => ⟨by rw [he]; exact ret_bool (decide_eq_false (by omega)), hw⟩
theorem l6In_q (n low high : Int) (r : Bool) (h : decide (low ≤ n ∧ n ≤ high) = r) (w : World) :
    Calls Tryd.prog 16 #[.int .i64 n, .int .i64 low, .int .i64 high] w fun e w' => e = .returned (.bool r) ∧ w' = w :=
  (l6In_any n low high w).mono fun e w' h' => ⟨by rw [← h]; exact h'.1, h'.2.symm⟩

set_option maxHeartbeats 400000 in
theorem l1Has_any (w : World) (v : Value) (xs : List Int) (a b m : Nat) (h : Ints w v xs) (ha : a < xs.length) (hx : xs[a] = (m : Int)) (hm : m < 256) (hb : b < 8) :
    Calls Tryd.prog 17 #[v, .int .i64 (a : Int), .int .i64 (b : Int)] w fun e w' => e = .returned (.bool (m.testBit b)) ∧ w = w' := by
  obtain ⟨A, cap, rfl, hmax, hc⟩ := h
  obtain ⟨bb, off, rfl, hcell⟩ := hc a ha
  rw [hx] at hcell
  have H := Lib.hid (shr_bit m b hm)
  clear hc hx
  unfold maxLen at hmax
  go_enter Tryd.func17, Tryd.ntmps17
  go_wp2
  go_ret
  exact ⟨ret_bool H.out, rfl⟩
theorem l1Has_q (w : World) (v : Value) (xs : List Int) (a b m : Nat) (h : Ints w v xs) (ha : a < xs.length) (hx : xs[a] = (m : Int)) (hm : m < 256) (hb : b < 8) (r : Bool) (hr : m.testBit b = r) :
    Calls Tryd.prog 17 #[v, .int .i64 (a : Int), .int .i64 (b : Int)] w fun e w' => e = .returned (.bool r) ∧ w' = w :=
  (l1Has_any w v xs a b m h ha hx hm hb).mono fun e w' h => ⟨by rw [← hr]; exact h.1, h.2.symm⟩

end Go.Proofs.YtbbnagkbbhbbgaaDoor

/-
  THE NODES OF A SET IN ORDER, and math/bits' search for the lowest one, for sets below 256; the library's table is in its variable.
-/
namespace Go.Proofs.YtbbnagkbbhbbgaaDoor
set_option linter.unusedVariables false
set_option linter.unusedSimpArgs false
open Go.RowKit

/-- The nodes of a set, ascending. -/
def bitsOf (m : Nat) : List (Fin 8) := (List.finRange 8).filter fun j => m.testBit j.val
def low (m : Nat) : Fin 8 := (bitsOf m).headD 0
def deB64 : List Nat := [0, 1, 56, 2, 57, 49, 28, 3, 61, 58, 42, 50, 38, 29, 17, 4, 62, 47, 59, 36, 45, 43, 51, 22, 53, 39, 33, 30, 24, 18, 12, 5, 63, 55, 48, 27, 60, 41, 37, 16, 46, 35, 44, 21, 52, 32, 23, 11, 54, 26, 40, 15, 34, 20, 31, 10, 25, 14, 19, 9, 13, 8, 7, 6]
/-- Where the library's table has what it says of the lowest node. -/
def place (m : Nat) : Nat := (m &&& (18446744073709551616 - m)) * 285870213051353865 % 18446744073709551616 / 288230376151711744

theorem bits_facts : ∀ m : Fin 256, m.val ≠ 0 → bitsOf m.val = low m.val :: bitsOf (m.val &&& (m.val - 1)) ∧ place m.val < 64 ∧ deB64[place m.val]? = some (low m.val).val := by decide +kernel
theorem bitsOf_zero : bitsOf 0 = [] := by decide

theorem bitsOf_cons {m : Nat} (h : m < 256) (h0 : m ≠ 0) : bitsOf m = low m :: bitsOf (m &&& (m - 1)) := (bits_facts ⟨m, h⟩ h0).1
theorem next_lt {m : Nat} (h : m < 256) : m &&& (m - 1) < 256 := Nat.lt_of_le_of_lt Nat.and_le_left h
theorem mem_bitsOf {m : Nat} {x : Fin 8} : x ∈ bitsOf m ↔ m.testBit x.val = true := by simp [bitsOf]
theorem bitsOf_nodup (m : Nat) : (bitsOf m).Nodup := (List.nodup_finRange 8).filter _

/-- The library's table in its variable. -/
def Tab (W : World) : Prop := ∀ (i x : Nat), deB64[i]? = some x → W.cell? ⟨1, i, none⟩ = some (.int .u8 (x : Int))
theorem Tab.below {n : Nat} {W W' : World} (h : Tab W) (hb : Below n W W') (hn : 1 < n) : Tab W' :=
  fun i x hx => (hb.cell (p := ⟨1, i, none⟩) hn).trans (h i x hx)
theorem Tab.lt {W : World} (h : Tab W) : 1 < W.heap.size := World.block_lt_of_cell? W _ (h 0 0 rfl)
theorem Tab.later {W W' : World} (h : Tab W) (hb : Below W.heap.size W W') : Tab W' := h.below hb h.lt

theorem tz_key (m : Nat) (hm : m < 256) (h0 : m ≠ 0) :
    IntKind.u64.wrap (bits BinOp.and IntKind.u64 (m : Int) (IntKind.u64.wrap (-(m : Int))) * 285870213051353865) / 288230376151711744 = ((place m : Nat) : Int) := by
  have e1 : IntKind.u64.wrap (-(m : Int)) = ((18446744073709551616 - m : Nat) : Int) := by rw [IntKind.wrap_u64]; omega
  rw [e1, bits_and_u64_nat m _ (by omega) (by omega), IntKind.wrap_u64]
  unfold place
  omega

set_option maxHeartbeats 400000 in
theorem tz64_core (m k idx : Nat) (w : World) (hx0 : ((m : Int) == 0) = false)
    (key : IntKind.u64.wrap (bits BinOp.and IntKind.u64 (m : Int) (IntKind.u64.wrap (-(m : Int))) * 285870213051353865) / 288230376151711744 = (idx : Int))
    (hi : idx < 64) (hk : k < 64) (hcell : w.cell? ⟨1, idx, none⟩ = some (.int .u8 k)) :
    Calls Tryd.prog 34 #[.int .u64 (m : Int)] w fun e w' => e = .returned (.int .i64 k) ∧ w = w' := by
  go_enter Tryd.func34, Tryd.ntmps34
  go_wp2_with (simp only [key])
  go_ret
  exact ⟨rfl, rfl⟩

theorem tz64_any (m : Nat) (hm : m < 256) (h0 : m ≠ 0) (w : World) (hT : Tab w) :
    Calls Tryd.prog 34 #[.int .u64 (m : Int)] w fun e w' => e = .returned (.int .i64 (((low m).val : Nat) : Int)) ∧ w = w' := by
  obtain ⟨_, h1, h2⟩ := bits_facts ⟨m, hm⟩ h0
  exact tz64_core m _ (place m) w (by simp; exact h0) (tz_key m hm h0) h1 (by have := (low m).isLt; omega) (hT _ _ h2)

set_option maxHeartbeats 400000 in
theorem tz_any (m : Nat) (hm : m < 256) (h0 : m ≠ 0) (w : World) (hT : Tab w) :
    Calls Tryd.prog 31 #[.int .u64 (m : Int)] w fun e w' => e = .returned (.int .i64 (((low m).val : Nat) : Int)) ∧ w = w' := by
  have H := Lib.hid (tz64_any m hm h0 w hT)
  clear hT
  go_enter Tryd.func31, Tryd.ntmps31
  go_wp2_with (go_at_call 34; refine H.out.mono ?_; rintro e w' ⟨rfl, rfl⟩)
  go_ret
  exact ⟨rfl, rfl⟩

end Go.Proofs.YtbbnagkbbhbbgaaDoor

/-
  GRAPHS AS LISTS, and links in them: plain functions, no program.
-/
namespace Go.Proofs.YtbbnagkbbhbbgaaDoor
set_option linter.unusedVariables false
set_option linter.unusedSimpArgs false
open Go.RowKit

/-- One set of a graph turned. -/
def upd (f : Nat → Nat) (i x : Nat) : Nat → Nat := fun j => if j = i then x else f j
theorem upd_same (f : Nat → Nat) (i x : Nat) : upd f i x i = x := by simp [upd]
theorem upd_other (f : Nat → Nat) {i j : Nat} (x : Nat) (h : j ≠ i) : upd f i x j = f j := by simp [upd, h]
theorem upd_step {f g : Nat → Nat} {k x : Nat} (h1 : g k = x) (h2 : ∀ i, i ≠ k → g i = f i) : upd f k x = g := by
  funext i; unfold upd; split
  · rename_i e; rw [e, h1]
  · rename_i e; exact (h2 i e).symm
theorem upd_lt {f : Nat → Nat} {i x : Nat} (hf : ∀ i, f i < 256) (hx : x < 256) : ∀ j, upd f i x j < 256 := by
  intro j; unfold upd; split
  · exact hx
  · exact hf j

/-- What 'with' does to a set keeps it below 256. -/
theorem with_lt {s v : Nat} (hs : s < 256) (hv : v < 8) : s ||| 2 ^ v < 256 := by
  have h : 2 ^ v < 2 ^ 8 := Nat.pow_lt_pow_right (by decide) hv
  exact Nat.or_lt_two_pow (n := 8) hs h

/-- The two nodes linked. -/
def lnk (f : Nat → Nat) (a b : Nat) : Nat → Nat := upd (upd f a (f a ||| 2 ^ b)) b (upd f a (f a ||| 2 ^ b) b ||| 2 ^ a)
theorem lnk_lt {f : Nat → Nat} {a b : Nat} (ha : a < 8) (hb : b < 8) (hf : ∀ i, f i < 256) : ∀ i, lnk f a b i < 256 :=
  upd_lt (upd_lt hf (with_lt (hf _) hb)) (with_lt (upd_lt hf (with_lt (hf _) hb) _) ha)

theorem lnk_ne (f : Nat → Nat) {a b : Nat} (h : a ≠ b) : lnk f a b = upd (upd f a (f a ||| 2 ^ b)) b (f b ||| 2 ^ a) := by
  unfold lnk; rw [upd_other f _ (Ne.symm h)]

/-- The way, so many links of it. -/
def wayTo : Nat → Nat → Nat
  | 0 => fun _ => 0
  | k + 1 => lnk (wayTo k) k (k + 1)
theorem wayTo_lt : ∀ (k : Nat), k < 8 → ∀ i, wayTo k i < 256
  | 0, _ => fun _ => by simp [wayTo]
  | k + 1, h => lnk_lt (by omega) (by omega) (wayTo_lt k (by omega))

/-- The graph as a list of numbers. -/
def glist (n : Nat) (f : Nat → Nat) : List Int := (List.range n).map fun (i : Nat) => (f i : Int)
theorem glist_len (n : Nat) (f : Nat → Nat) : (glist n f).length = n := by simp [glist]
theorem glist_at (n : Nat) (f : Nat → Nat) (i : Nat) (h : i < (glist n f).length) : (glist n f)[i] = (f i : Int) := by simp [glist]
theorem glist_zero (n : Nat) : vals (glist n (wayTo 0)) = List.replicate n (Value.int .i64 0) := by
  apply List.ext_getElem
  · simp [glist]
  · intro i h1 h2; simp [glist, wayTo]
theorem glist_cell (n : Nat) (f : Nat → Nat) (i : Nat) (h : i < n) : (vals (glist n f))[i]? = some (.int .i64 (f i : Int)) := by simp [glist, h]
theorem glist_set (n : Nat) (f : Nat → Nat) (i x : Nat) : (vals (glist n f)).set i (.int .i64 (x : Int)) = vals (glist n (upd f i x)) := by
  apply List.ext_getElem?
  intro j
  rw [List.getElem?_set]
  simp only [vals, glist, List.length_map, List.length_range, List.getElem?_map]
  by_cases e : i = j
  · subst e
    by_cases hi : i < n
    · simp [hi, upd]
    · simp [hi]
  · have : j ≠ i := fun h => e h.symm
    by_cases hj : j < n
    · simp [hj, upd, e, this]
    · simp [hj, e]
theorem glist_succ (k : Nat) (f : Nat → Nat) : vals (glist (k + 1) f) = vals (glist k f) ++ [Value.int .i64 (f k : Int)] := by simp [glist, List.range_succ]
theorem glist_congr {n : Nat} {f g : Nat → Nat} (h : ∀ i, i < n → f i = g i) : glist n f = glist n g := by
  apply List.ext_getElem
  · simp [glist]
  · intro i h1 h2
    simp [glist] at h1 ⊢
    rw [h i h1]

end Go.Proofs.YtbbnagkbbhbbgaaDoor

/-
  GRAPHS AS VALUES: nine cells: the number of nodes and eight sets. The cells are kept behind a name (gcells), so that a walk carries them whole.
-/
namespace Go.Proofs.YtbbnagkbbhbbgaaDoor
set_option linter.unusedVariables false
set_option linter.unusedSimpArgs false
open Go.RowKit

def gcells (n : Nat) (f : Nat → Nat) : Array Value :=
  #[.int .i64 (n : Int), .int .i64 (f 0 : Nat), .int .i64 (f 1 : Nat), .int .i64 (f 2 : Nat), .int .i64 (f 3 : Nat), .int .i64 (f 4 : Nat), .int .i64 (f 5 : Nat), .int .i64 (f 6 : Nat), .int .i64 (f 7 : Nat)]

theorem gcells_size (n : Nat) (f : Nat → Nat) : (gcells n f).size = 9 := rfl
theorem gcells_zero (n : Nat) (f : Nat → Nat) : (gcells n f)[0]? = some (.int .i64 (n : Int)) := rfl
theorem gcells_at (n : Nat) (f : Nat → Nat) (i : Nat) (h : i < 8) : (gcells n f)[1 + i]? = some (.int .i64 (f i : Nat)) := by
  match i, h with
  | 0, _ => rfl
  | 1, _ => rfl
  | 2, _ => rfl
  | 3, _ => rfl
  | 4, _ => rfl
  | 5, _ => rfl
  | 6, _ => rfl
  | 7, _ => rfl
theorem gcells_one (n : Nat) (f : Nat → Nat) : (gcells n f).all (·.oneCell') = true := by simp [gcells, Value.oneCell']

theorem gcells_set (n : Nat) (f : Nat → Nat) (i x : Nat) (h : i < 8) : (gcells n f).setIfInBounds (1 + i) (.int .i64 (x : Int)) = gcells n (upd f i x) := by
  match i, h with
  | 0, _ => rfl
  | 1, _ => rfl
  | 2, _ => rfl
  | 3, _ => rfl
  | 4, _ => rfl
  | 5, _ => rfl
  | 6, _ => rfl
  | 7, _ => rfl
theorem gcells_zeros : (#[.int .i64 0, .int .i64 0, .int .i64 0, .int .i64 0, .int .i64 0, .int .i64 0, .int .i64 0, .int .i64 0, .int .i64 0] : Array Value) = gcells 0 (fun _ => 0) := rfl
theorem gcells_new (n : Nat) : (#[.int .i64 (n : Int), .int .i64 0, .int .i64 0, .int .i64 0, .int .i64 0, .int .i64 0, .int .i64 0, .int .i64 0, .int .i64 0] : Array Value) = gcells n (fun _ => 0) := rfl
theorem gcells_congr {n : Nat} {f g : Nat → Nat} (h : ∀ i, i < 8 → f i = g i) : gcells n f = gcells n g := by
  unfold gcells
  rw [h 0 (by decide), h 1 (by decide), h 2 (by decide), h 3 (by decide), h 4 (by decide), h 5 (by decide), h 6 (by decide), h 7 (by decide)]

theorem sizeG : (Tryd.prog.info? 33).map (·.size) = some 9 := by kernel_rfl
theorem size_gcells (n : Nat) (f : Nat → Nat) : (Tryd.prog.info? 33).map (·.size) = some (gcells n f).size := by rw [gcells_size]; exact sizeG

/-- The nine cells of a graph that lies in a block. -/
theorem graph_cells {w : World} {g n : Nat} {f : Nat → Nat} (hg : w.heap[g]? = some (.cells (gcells n f) 33 (0, 0))) :
    w.cell? ⟨g, 0, none⟩ = some (.int .i64 (n : Int)) ∧ (∀ i, i < 8 → w.cell? ⟨g, 1 + i, none⟩ = some (.int .i64 (f i : Nat))) ∧ (∀ i, w.frozen? ⟨g, i, none⟩ = false) ∧ g < w.heap.size :=
  ⟨by rw [cell_of_row _ _ _ _ _ _ hg]; rfl, fun i hi => by rw [cell_of_row _ _ _ _ _ _ hg]; exact gcells_at n f i hi, fun i => frozen_of_row w g i _ _ hg, (Array.getElem?_eq_some_iff.1 hg).1⟩

/-- One set of a graph that lies in a block is stored. -/
theorem graph_stored {w : World} {g n : Nat} {f : Nat → Nat} (i x : Nat) (hi : i < 8) (hg : w.heap[g]? = some (.cells (gcells n f) 33 (0, 0))) :
    (w.setCell ⟨g, 1 + i, none⟩ (.int .i64 (x : Int))).heap[g]? = some (.cells (gcells n (upd f i x)) 33 (0, 0)) := by
  rw [heap_setCell_same w g (1 + i) _ _ _ hg, gcells_set n f i x hi]

/-- The whole graph out of its block. -/
theorem load_graph {ops : Array Oper} {rest : List Oper} {o : Oper} {a : Act} {w : World} {Q : Exit → Act → World → Prop} (hgd : o.guard = none) (x : Operand) (ho : o.op = .load 33 x)
    (g : Nat) (n : Nat) (f : Nat → Nat) (hx : a.eval x = .pointer (some ⟨g, 0, none⟩)) (hg : w.heap[g]? = some (.cells (gcells n f) 33 (0, 0)))
    (h : wpList Tryd.prog ops Q rest (a.put o.dst (.agg (gcells n f))) w) : wpList Tryd.prog ops Q (o :: rest) a w :=
  wpList_load_row hgd 33 x ho g hx 33 (gcells n f) (0, 0) _ hg Tryd.underlying33 rfl (size_gcells n f) h

/-- A whole graph into a block that held one. -/
theorem store_graph {ops : Array Oper} {rest : List Oper} {o : Oper} {a : Act} {w : World} {Q : Exit → Act → World → Prop} (hgd : o.guard = none) (x y : Operand) (ho : o.op = .store 33 x y)
    (g : Nat) (n : Nat) (f : Nat → Nat) (hx : a.eval x = .pointer (some ⟨g, 0, none⟩)) (hy : a.eval y = .agg (gcells n f)) (n0 : Nat) (f0 : Nat → Nat)
    (hg : w.heap[g]? = some (.cells (gcells n0 f0) 33 (0, 0)))
    (h : wpList Tryd.prog ops Q rest (a.put o.dst undef) (w.setRow g (gcells n f))) : wpList Tryd.prog ops Q (o :: rest) a w :=
  wpList_store_row hgd 33 x y ho g (gcells n f) hx hy 33 (gcells n0 f0) hg (size_gcells n f) rfl (gcells_one n f) h

theorem heap_setRow_same {w : World} {g : Nat} {cs c' : Array Value} {t : TypeId} {fr : Nat × Nat} (h : w.heap[g]? = some (.cells cs t fr)) : (w.setRow g c').heap[g]? = some (.cells c' t fr) := by
  have hlt := (Array.getElem?_eq_some_iff.1 h).1
  have h' : w.heap[g] = .cells cs t fr := by simpa [Array.getElem?_eq_getElem hlt] using h
  show (w.heap.modify g _)[g]? = _
  rw [Array.getElem?_eq_getElem (by simpa using hlt), Array.getElem_modify_self, h']
theorem heap_setRow_other (w : World) (g k : Nat) (c' : Array Value) (h : k ≠ g) : (w.setRow g c').heap[k]? = w.heap[k]? := by
  show (w.heap.modify g _)[k]? = _
  rw [Array.getElem?_modify, if_neg (by omega)]
theorem below_setRow {B : Nat} {a w : World} (h : Below B a w) {g : Nat} (hg : B ≤ g) (c : Array Value) : Below B a (w.setRow g c) :=
  h.trans ⟨rfl, rfl, rfl, by simp [World.setRow], fun k hk => heap_setRow_other w g k c (by omega)⟩

/-- A whole graph into a block that was made last, with zeros. -/
theorem store_graph_new {ops : Array Oper} {rest : List Oper} {o : Oper} {a : Act} {w : World} {Q : Exit → Act → World → Prop} (hgd : o.guard = none) (x y : Operand) (ho : o.op = .store 33 x y)
    (n : Nat) (f : Nat → Nat) (hx : a.eval x = .pointer (some ⟨w.heap.size, 0, none⟩)) (hy : a.eval y = .agg (gcells n f))
    (h : wpList Tryd.prog ops Q rest (a.put o.dst undef) (w.alloc (.cells (gcells n f) 33))) :
    wpList Tryd.prog ops Q (o :: rest) a (w.alloc (.cells #[.int .i64 0, .int .i64 0, .int .i64 0, .int .i64 0, .int .i64 0, .int .i64 0, .int .i64 0, .int .i64 0, .int .i64 0] 33)) := by
  rw [gcells_zeros]
  refine store_graph hgd x y ho w.heap.size n f hx hy 0 (fun _ => 0) (World.alloc_heap_new w _) ?_
  rw [World.setRow_alloc_new]
  exact h

/-- What two results of a function give where the first is a graph that lies in its cell. -/
theorem ret_graph {fn : Func} {p : Tmp} (h : fn.results = #[.cell p 33]) (tmps : Array Value) (w : World) (g n : Nat) (f : Nat → Nat)
    (hp : tmps.getD p undef = .pointer (some ⟨g, 0, none⟩)) (hg : w.heap[g]? = some (.cells (gcells n f) 33 (0, 0))) :
    (results fn tmps).run Tryd.prog w = .ok (.agg (gcells n f)) w :=
  results_cell_row h tmps w g 33 (gcells n f) (0, 0) _ hp hg Tryd.underlying33 rfl (size_gcells n f)

theorem ret_graph2 {fn : Func} {p u : Tmp} (h : fn.results = #[.cell p 33, .tmp u]) (tmps : Array Value) (w : World) (g n : Nat) (f : Nat → Nat) (v : Value)
    (hp : tmps.getD p undef = .pointer (some ⟨g, 0, none⟩)) (hv : tmps.getD u undef = v) (hg : w.heap[g]? = some (.cells (gcells n f) 33 (0, 0))) :
    (results fn tmps).run Tryd.prog w = .ok (.tuple #[.agg (gcells n f), v]) w := by
  subst hv
  rw [results_cell_tmp h tmps Tryd.prog w, hp]
  simp only [asAddr, Sem.run_pure, Result.andThen]
  rw [run_loadVar_row w g 33 33 (gcells n f) (0, 0) _ hg Tryd.underlying33 rfl (size_gcells n f)]

theorem below_new {w w1 : World} {o : Obj} (hb : Below (w.alloc o).heap.size (w.alloc o) w1) : Below w.heap.size w w1 ∧ w1.heap[w.heap.size]? = some o ∧ w.heap.size < w1.heap.size := by
  refine ⟨((Below.refl _ _).alloc (Nat.le_refl _) _).trans (hb.mono (by simp)), ?_, ?_⟩
  · rw [hb.block _ (by simp)]; exact World.alloc_heap_new w o
  · have := hb.size; simp at this; omega


end Go.Proofs.YtbbnagkbbhbbgaaDoor

/-
  WHERE WHAT THE CALL MADE LIES: rows between two heap sizes; what a write to some of them leaves alone; lists of lists.
-/
namespace Go.Proofs.YtbbnagkbbhbbgaaDoor
set_option linter.unusedVariables false
set_option linter.unusedSimpArgs false
open Go.RowKit

theorem addr_add (g j : Nat) : (⟨g, 0, none⟩ : Addr).add j = ⟨g, 0 + j, none⟩ := by unfold Addr.add; split <;> simp_all

/-- Of what there was, nothing has turned but what lies from lo on, below hi. -/
structure Within (lo hi : Nat) (w w' : World) : Prop where
  os : w'.os = w.os
  tape : w'.tape = w.tape
  output : w'.output = w.output
  size : w.heap.size ≤ w'.heap.size
  block : ∀ k, k < w.heap.size → k < lo ∨ hi ≤ k → w'.heap[k]? = w.heap[k]?

theorem Within.refl (lo hi : Nat) (w : World) : Within lo hi w w := ⟨rfl, rfl, rfl, Nat.le_refl _, fun _ _ _ => rfl⟩
theorem Within.trans {lo hi : Nat} {w w1 w2 : World} (h : Within lo hi w w1) (h2 : Within lo hi w1 w2) : Within lo hi w w2 :=
  ⟨h2.os.trans h.os, h2.tape.trans h.tape, h2.output.trans h.output, Nat.le_trans h.size h2.size, fun k hk hr => (h2.block k (Nat.lt_of_lt_of_le hk h.size) hr).trans (h.block k hk hr)⟩
theorem Within.of_grown {w w' : World} {row : Option Nat} {lo hi : Nat} (h : w.grownBy w' row) (hr : ∀ k, row = some k → lo ≤ k ∧ k < hi) : Within lo hi w w' :=
  ⟨h.os, h.tape, h.output, h.size, fun k hk ho => h.block k hk (fun e => by have := hr k e.symm; omega)⟩
theorem Within.drewN {lo hi : Nat} {w w' : World} (h : Within lo hi w w') (n : Nat) : Within lo hi w (w'.drewN n) := by
  exact ⟨h.os, h.tape, h.output, h.size, h.block⟩
theorem Below.within {w0 w w' : World} {lo hi : Nat} (h : Below w0.heap.size w0 w) (hw : Within lo hi w w') (hlo : w0.heap.size ≤ lo) : Below w0.heap.size w0 w' :=
  ⟨hw.os.trans h.os, hw.tape.trans h.tape, hw.output.trans h.output, Nat.le_trans h.size hw.size,
    fun k hk => (hw.block k (Nat.lt_of_lt_of_le hk h.size) (.inl (Nat.lt_of_lt_of_le hk hlo))).trans (h.block k hk)⟩
theorem within_of_below {w w' : World} (h : Below w.heap.size w w') (lo : Nat) : Within lo lo w w' := ⟨h.os, h.tape, h.output, h.size, fun k hk _ => h.block k hk⟩

/-- A slice of one-cell elements that the call owns, its row from lo on, below hi. -/
def OwnsAt (w : World) (lo hi : Nat) (e : TypeId) (v : Value) (n : Nat) (cs : List Value) : Prop :=
  w.ownsRow lo e 1 v n cs ∧ ∀ k, v.ownBlock = some k → k < hi
theorem OwnsAt.of {w : World} {lo : Nat} {e : TypeId} {v : Value} {n : Nat} {cs : List Value} (h : w.ownsRow lo e 1 v n cs) : OwnsAt w lo w.heap.size e v n cs := ⟨h, fun k hk => (h.lt k hk).2⟩
theorem OwnsAt.kept {w w' : World} {lo hi a b : Nat} {e : TypeId} {v : Value} {n : Nat} {cs : List Value} (h : OwnsAt w lo hi e v n cs) (hw : Within a b w w') (hd : hi ≤ a ∨ b ≤ lo) : OwnsAt w' lo hi e v n cs := by
  refine ⟨⟨h.1.1, ?_⟩, h.2⟩
  rcases h.1.2 with hn | ⟨g, cap, cur, rfl, hb, hgg, rest⟩
  · exact .inl hn
  · refine .inr ⟨g, cap, cur, rfl, hb, ?_, rest⟩
    have := h.2 g rfl
    rw [hw.block g (Array.getElem?_eq_some_iff.1 hgg).1 (by omega)]
    exact hgg
theorem OwnsAt.below {w w' : World} {lo hi : Nat} {e : TypeId} {v : Value} {n : Nat} {cs : List Value} (h : OwnsAt w lo hi e v n cs) (hb : Below w.heap.size w w') : OwnsAt w' lo hi e v n cs :=
  ⟨h.1.kept (grown_of_below hb) (by cases v.ownBlock <;> simp), h.2⟩
theorem OwnsAt.drewN {w : World} {lo hi : Nat} {e : TypeId} {v : Value} {n : Nat} {cs : List Value} (h : OwnsAt w lo hi e v n cs) (q : Nat) : OwnsAt (w.drewN q) lo hi e v n cs := h
theorem OwnsAt.wide {w : World} {lo lo' hi hi' : Nat} {e : TypeId} {v : Value} {n : Nat} {cs : List Value} (h : OwnsAt w lo hi e v n cs) (hl : lo' ≤ lo) (hh : hi ≤ hi') : OwnsAt w lo' hi' e v n cs :=
  ⟨owns_mono h.1 hl, fun k hk => Nat.lt_of_lt_of_le (h.2 k hk) hh⟩

abbrev OwnsInts (w : World) (lo hi : Nat) (v : Value) (xs : List Int) : Prop := OwnsAt w lo hi 3 v xs.length (vals xs)

/-- A list of lists that the call owns: the outer row holds the slices us, each of them owns its list, no two share a row. -/
structure OwnsRows (w : World) (lo hi : Nat) (v : Value) (us : List Value) (xss : List (List Int)) : Prop where
  len : us.length = xss.length
  outer : OwnsAt w lo hi 22 v xss.length us
  inner : ∀ (i : Nat) (h : i < us.length), OwnsInts w lo hi us[i] (xss[i]'(len ▸ h))
  apart : ∀ (i j : Nat) (hij : i < j) (hj : j < us.length), (us[i]'(Nat.lt_trans hij hj)).ownBlock = none ∨ (us[i]'(Nat.lt_trans hij hj)).ownBlock ≠ us[j].ownBlock

theorem OwnsRows.kept {w w' : World} {lo hi a b : Nat} {v : Value} {us : List Value} {xss : List (List Int)} (h : OwnsRows w lo hi v us xss) (hw : Within a b w w') (hd : hi ≤ a ∨ b ≤ lo) : OwnsRows w' lo hi v us xss :=
  ⟨h.len, h.outer.kept hw hd, fun i hi' => (h.inner i hi').kept hw hd, h.apart⟩
theorem OwnsRows.below {w w' : World} {lo hi : Nat} {v : Value} {us : List Value} {xss : List (List Int)} (h : OwnsRows w lo hi v us xss) (hb : Below w.heap.size w w') : OwnsRows w' lo hi v us xss :=
  ⟨h.len, h.outer.below hb, fun i hi' => (h.inner i hi').below hb, h.apart⟩
theorem OwnsRows.drewN {w : World} {lo hi : Nat} {v : Value} {us : List Value} {xss : List (List Int)} (h : OwnsRows w lo hi v us xss) (q : Nat) : OwnsRows (w.drewN q) lo hi v us xss :=
  ⟨h.len, h.outer.drewN q, fun i hi' => (h.inner i hi').drewN q, h.apart⟩
theorem OwnsRows.wide {w : World} {lo lo' hi hi' : Nat} {v : Value} {us : List Value} {xss : List (List Int)} (h : OwnsRows w lo hi v us xss) (hl : lo' ≤ lo) (hh : hi ≤ hi') : OwnsRows w lo' hi' v us xss :=
  ⟨h.len, h.outer.wide hl hh, fun i hi' => (h.inner i hi').wide hl hh, h.apart⟩

/-- A list of lists that can be read. -/
def IntRows (w : World) (v : Value) (xss : List (List Int)) : Prop :=
  ∃ (A : Option Addr) (cap : Nat) (us : List Value), v = .slice A xss.length cap ∧ xss.length ≤ maxLen ∧ us.length = xss.length ∧
    ∀ (i : Nat) (h : i < xss.length) (u : Value), us[i]? = some u → (∃ b off, A = some ⟨b, off, none⟩ ∧ w.cell? ⟨b, off + i, none⟩ = some u) ∧ Ints w u xss[i]

theorem IntRows.at {w : World} {v : Value} {xss : List (List Int)} (h : IntRows w v xss) : ∃ A cap, v = .slice A xss.length cap ∧ xss.length ≤ maxLen ∧
    ∀ (i : Nat) (h : i < xss.length), ∃ b off u, A = some ⟨b, off, none⟩ ∧ w.cell? ⟨b, off + i, none⟩ = some u ∧ Ints w u xss[i] := by
  obtain ⟨A, cap, us, hv, hm, hl, hc⟩ := h
  refine ⟨A, cap, hv, hm, fun i hi => ?_⟩
  obtain ⟨⟨b, off, hA, hcell⟩, hx⟩ := hc i hi us[i] (List.getElem?_eq_getElem (by omega))
  exact ⟨b, off, us[i], hA, hcell, hx⟩

theorem IntRows.below {w w' : World} {v : Value} {xss : List (List Int)} (h : IntRows w v xss) (hb : Below w.heap.size w w') : IntRows w' v xss := by
  obtain ⟨A, cap, us, hv, hm, hl, hc⟩ := h
  refine ⟨A, cap, us, hv, hm, hl, fun i hi u hu => ?_⟩
  obtain ⟨⟨b, off, hA, hcell⟩, hx⟩ := hc i hi u hu
  exact ⟨⟨b, off, hA, (hb.cell (p := ⟨b, off + i, none⟩) (World.block_lt_of_cell? w _ hcell)).trans hcell⟩, hx.below hb⟩
theorem IntRows.drewN {w : World} {v : Value} {xss : List (List Int)} (h : IntRows w v xss) (n : Nat) : IntRows (w.drewN n) v xss := h

theorem ints_at_owns {w : World} {lo hi : Nat} {v : Value} {xs : List Int} (h : OwnsInts w lo hi v xs) : Ints w v xs := ints_of_owns h.1

theorem rows_of_owns {w : World} {lo hi : Nat} {v : Value} {us : List Value} {xss : List (List Int)} (h : OwnsRows w lo hi v us xss) : IntRows w v xss := by
  have hl := h.len
  rcases h.outer.1.2 with ⟨rfl, hn⟩ | ⟨g, cap, cur, rfl, hb, hg, hnc, hm, hcs, htake⟩
  · have : xss = [] := by simpa using hn
    subst this
    exact ⟨none, 0, us, rfl, by simp [maxLen], hl, fun i hi => by simp at hi⟩
  · refine ⟨some ⟨g, 0, none⟩, cap, us, rfl, by omega, hl, fun i hi u hu => ?_⟩
    have hi' : i < us.length := by omega
    have hui : us[i] = u := by rw [List.getElem?_eq_getElem hi'] at hu; simpa using hu
    refine ⟨⟨g, 0, rfl, ?_⟩, ?_⟩
    · have hc := h.outer.1.cells (g := g) rfl i u hu
      have hadd : (⟨g, 0, none⟩ : Addr).add i = ⟨g, 0 + i, none⟩ := by unfold Addr.add; split <;> simp_all
      rw [hadd] at hc
      exact hc
    · rw [← hui]; exact ints_at_owns (h.inner i hi')

/-- How many numbers there are in all. -/
def total (xss : List (List Int)) : Nat := (xss.map List.length).sum
theorem total_take_succ (xss : List (List Int)) (k : Nat) (h : k < xss.length) : total (xss.take (k + 1)) = total (xss.take k) + xss[k].length := by
  unfold total
  rw [List.take_succ_eq_append_getElem h, List.map_append, List.sum_append]
  simp only [List.map_cons, List.map_nil, List.sum_cons, List.sum_nil, Nat.add_zero]
theorem total_take_le (xss : List (List Int)) (k : Nat) : total (xss.take k) ≤ total xss := by
  unfold total
  conv => rhs; rw [← List.take_append_drop k xss]
  rw [List.map_append, List.sum_append]
  omega
theorem row_le_total {xss : List (List Int)} {k : Nat} (h : k < xss.length) : xss[k].length ≤ total xss := by
  have := total_take_le xss (k + 1)
  rw [total_take_succ xss k h] at this
  omega

theorem grown_setCell (W : World) (b k : Nat) (v : Value) : W.grownBy (W.setCell ⟨b, k, none⟩ v) (some b) :=
  ⟨rfl, rfl, rfl, by simp [World.setCell], fun j _ hj => Below.heap_setCell _ _ _ j (fun e => hj (by rw [e]))⟩

/-- A list of lists under way: the first rows stand. -/
structure RowsTo (w : World) (lo B n : Nat) (us : List Value) (xss : List (List Int)) : Prop where
  len : us.length ≤ xss.length
  outer : w.ownsRow lo 22 1 (.slice (some ⟨B, 0, none⟩) n n) n (us ++ List.replicate (n - us.length) (.slice none 0 0))
  inner : ∀ (i : Nat) (h : i < us.length), OwnsInts w (B + 1) w.heap.size us[i] (xss[i]'(Nat.lt_of_lt_of_le h len))
  apart : ∀ (i j : Nat) (hij : i < j) (hj : j < us.length), (us[i]'(Nat.lt_trans hij hj)).ownBlock = none ∨ (us[i]'(Nat.lt_trans hij hj)).ownBlock ≠ us[j].ownBlock

theorem set_push {us : List Value} {n : Nat} (h : us.length < n) (z u : Value) : (us ++ List.replicate (n - us.length) z).set us.length u = (us ++ [u]) ++ List.replicate (n - (us ++ [u]).length) z := by
  obtain ⟨m, hm⟩ : ∃ m, n - us.length = m + 1 := ⟨n - us.length - 1, by omega⟩
  have e : n - (us ++ [u]).length = m := by simp; omega
  rw [hm, e, List.replicate_succ, List.set_append_right _ _ (Nat.le_refl _), Nat.sub_self, List.set_cons_zero]
  simp

theorem RowsTo.push {wr w2 : World} {lo B n : Nat} {us : List Value} {xss : List (List Int)} (h : RowsTo wr lo B n us xss) (hn : us.length < xss.length) (hne : n = xss.length) (hb : Below wr.heap.size wr w2) (hB : B < wr.heap.size)
    {u : Value} (hu : Owns w2 wr.heap.size u (xss[us.length]'hn)) : RowsTo (w2.setCell ⟨B, us.length, none⟩ u) lo B n (us ++ [u]) xss := by
  have hsz : (w2.setCell ⟨B, us.length, none⟩ u).heap.size = w2.heap.size := by simp [World.setCell]
  have hwi : Within B (B + 1) w2 (w2.setCell ⟨B, us.length, none⟩ u) := Within.of_grown (grown_setCell w2 B us.length u) (fun k hk => by cases hk; omega)
  have hs := hb.size
  have hold : ∀ (i : Nat) (hi : i < us.length), OwnsInts (w2.setCell ⟨B, us.length, none⟩ u) (B + 1) (w2.setCell ⟨B, us.length, none⟩ u).heap.size us[i] (xss[i]'(Nat.lt_of_lt_of_le hi h.len)) := fun i hi =>
    (((h.inner i hi).below hb).kept hwi (.inr (Nat.le_refl _))).wide (Nat.le_refl _) (by rw [hsz]; exact hs)
  have hnew : OwnsInts (w2.setCell ⟨B, us.length, none⟩ u) (B + 1) (w2.setCell ⟨B, us.length, none⟩ u).heap.size u (xss[us.length]'hn) :=
    ((OwnsAt.of hu).kept hwi (.inr (by omega))).wide (by omega) (by rw [hsz]; exact Nat.le_refl _)
  refine ⟨by simp; omega, ?_, fun i hi => ?_, fun i j hij hj => ?_⟩
  · have := ((owns_below h.outer hb).stored us.length u).1
    rw [set_push (by omega)] at this
    exact this
  · by_cases hi2 : i < us.length
    · have := hold i hi2
      simpa [List.getElem_append_left hi2] using this
    · have hi3 : i = us.length := by simp at hi; omega
      subst hi3
      simpa using hnew
  · have hi2 : i < us.length := by simp at hj; omega
    by_cases hj2 : j < us.length
    · have := h.apart i j hij hj2
      simpa [List.getElem_append_left hi2, List.getElem_append_left hj2] using this
    · have hj3 : j = us.length := by simp at hj; omega
      subst hj3
      simp only [List.getElem_append_left hi2]
      have hx : (us ++ [u])[us.length]'hj = u := by simp
      rw [hx]
      cases hv : us[i].ownBlock with
      | none => exact .inl rfl
      | some b =>
        right
        intro he
        have h1 := (h.inner i hi2).2 b hv
        have h2 := (hu.lt b he.symm).1
        omega

theorem RowsTo.done {w : World} {lo B n : Nat} {us : List Value} {xss : List (List Int)} (h : RowsTo w lo B n us xss) (hn : n = xss.length) (hl : us.length = xss.length) (hlo : lo ≤ B) : OwnsRows w lo w.heap.size (.slice (some ⟨B, 0, none⟩) n n) us xss := by
  refine ⟨hl, ?_, fun i hi => (h.inner i hi).wide (by omega) (Nat.le_refl _), h.apart⟩
  have := h.outer
  rw [hl, ← hn, Nat.sub_self, List.replicate_zero, List.append_nil] at this
  rw [← hn]
  exact OwnsAt.of this

/-- One of the rows has turned, in its own block. -/
theorem OwnsRows.turn {w w' : World} {lo hi : Nat} {v : Value} {us : List Value} {zs : List (List Int)} (h : OwnsRows w lo hi v us zs) (j : Nat) (hj : j < us.length) (hg : w.grownBy w' us[j].ownBlock) (ys : List Int)
    (hnew : Owns w' lo us[j] ys) : OwnsRows w' lo hi v us (zs.set j ys) := by
  refine ⟨by rw [List.length_set]; exact h.len, ⟨?_, h.outer.2⟩, fun i hi' => ?_, h.apart⟩
  · rw [List.length_set]
    refine h.outer.1.kept hg ?_
    cases hv : v.ownBlock with
    | none => exact .inl rfl
    | some b =>
      right
      intro he
      rcases h.outer.1.2 with ⟨rfl, _⟩ | ⟨g, cap, cur, rfl, _, hgb, _⟩
      · simp [Value.ownBlock] at hv
      · obtain rfl : g = b := by simpa [Value.ownBlock] using hv
        rcases (h.inner j hj).1.2 with ⟨hz, _⟩ | ⟨g2, cap2, cur2, hz, _, hgb2, _⟩
        · rw [hz] at he; simp [Value.ownBlock] at he
        · rw [hz] at he
          obtain rfl : g = g2 := by simpa [Value.ownBlock] using he
          rw [hgb] at hgb2
          simp at hgb2
  · by_cases e : i = j
    · subst e
      simp only [List.getElem_set_self]
      exact ⟨hnew, (h.inner i hi').2⟩
    · have hi2 : i < zs.length := h.len ▸ hi'
      rw [List.getElem_set_ne (fun he => e he.symm)]
      refine ⟨(h.inner i hi').1.kept hg ?_, (h.inner i hi').2⟩
      rcases Nat.lt_or_gt_of_ne e with hlt | hgt
      · exact h.apart i j hlt hj
      · rcases h.apart j i hgt hi' with hn | hn
        · rw [hn]
          cases us[i].ownBlock <;> simp
        · exact .inr (Ne.symm hn)

/-- The marks of a list of lists, from a number on. -/
def markRows (k : Int) : List (List Int) → List (List Int)
  | [] => []
  | xs :: xss => (List.range xs.length).map (fun (i : Nat) => k + i) :: markRows (k + xs.length) xss
theorem markRows_len : ∀ (k : Int) (xss : List (List Int)), (markRows k xss).length = xss.length
  | _, [] => rfl
  | k, xs :: xss => by simp [markRows, markRows_len (k + xs.length) xss]
theorem markRows_snoc : ∀ (k : Int) (xss : List (List Int)) (xs : List Int), markRows k (xss ++ [xs]) = markRows k xss ++ [(List.range xs.length).map (fun (i : Nat) => k + total xss + i)]
  | k, [], xs => by simp [markRows, total]
  | k, ys :: xss, xs => by
    rw [List.cons_append, markRows, markRows_snoc (k + ys.length) xss xs, markRows]
    simp only [List.cons_append, List.cons.injEq, true_and]
    have e : (total (ys :: xss) : Int) = ys.length + total xss := by simp [total]
    rw [e]
    congr 2
    apply List.map_congr_left
    intro i _
    omega
/-- So many rows are marked. -/
def markTo (k : Int) (xss : List (List Int)) (j : Nat) : List (List Int) := markRows k (xss.take j) ++ xss.drop j
theorem markTo_len (k : Int) (xss : List (List Int)) (j : Nat) : (markTo k xss j).length = xss.length := by
  unfold markTo; rw [List.length_append, markRows_len, ← List.length_append, List.take_append_drop]
theorem markTo_at (k : Int) (xss : List (List Int)) (j : Nat) (h : j < xss.length) : (markTo k xss j)[j]? = some xss[j] := by
  unfold markTo
  have e : (markRows k (xss.take j)).length = j := by rw [markRows_len, List.length_take]; omega
  rw [List.getElem?_append_right (by omega), e, Nat.sub_self, List.getElem?_drop, Nat.add_zero, List.getElem?_eq_getElem h]
theorem markTo_step (k : Int) (xss : List (List Int)) (j : Nat) (h : j < xss.length) : (markTo k xss j).set j ((List.range xss[j].length).map (fun (i : Nat) => k + total (xss.take j) + i)) = markTo k xss (j + 1) := by
  unfold markTo
  have e : (markRows k (xss.take j)).length = j := by rw [markRows_len, List.length_take]; omega
  rw [List.set_append_right _ _ (by omega), e, Nat.sub_self, List.take_succ_eq_append_getElem h, markRows_snoc, List.drop_eq_getElem_cons h, List.set_cons_zero]
  simp
theorem markTo_zero (k : Int) (xss : List (List Int)) : markTo k xss 0 = xss := by simp [markTo, markRows]
theorem markTo_all (k : Int) (xss : List (List Int)) : markTo k xss xss.length = markRows k xss := by simp [markTo]

end Go.Proofs.YtbbnagkbbhbbgaaDoor

