/-
  SUMS OVER ALL WAYS TO PAIR THE ROWS: on numbers and sets; bounds.
-/
import Derived.Test.YtfcbhcjgjbcjdacDoorExpand
namespace Go.Proofs.YtfcbhcjgjbcjdacDoor
set_option linter.unusedVariables false
set_option linter.unusedSimpArgs false
open Go.RowKit

def lowN (m : Nat) : Nat := (low m).val
/-- The sum over all pairings of a set of d rows. -/
def mates (F : Nat → Int) (sg : Int) : Nat → Nat → Int
  | 0, _ => 1
  | 1, _ => 0
  | d + 2, left => (sumS sg (fun v => F (6 * lowN left + v) * mates F sg d (wo8 (wo8 left (lowN left)) v)) (elems (wo8 left (lowN left)))).1
/-- How great it can be. -/
def mateB : Nat → Int
  | 0 => 1
  | 1 => 0
  | d + 2 => 30 * mateB d * (d + 1)
theorem lowN_lt (m : Nat) : lowN m < 8 := (low m).isLt
theorem lowN_bit_all : ∀ m : Fin 256, m.val ≠ 0 → m.val.testBit (low m.val).val = true := by decide +kernel
theorem lowN_bit {m : Nat} (hm : m < 256) (h0 : m ≠ 0) : m.testBit (lowN m) = true := lowN_bit_all ⟨m, hm⟩ h0
theorem lowN_least_all : ∀ (s : Fin 256) (j : Fin 8), j.val < (low s.val).val → s.val.testBit j.val = false := by decide +kernel
theorem lowN_least {m j : Nat} (hm : m < 256) (hj : j < lowN m) : m.testBit j = false := lowN_least_all ⟨m, hm⟩ ⟨j, by have := lowN_lt m; omega⟩ hj
theorem mateB_pos : ∀ d, 0 ≤ mateB d
  | 0 => by decide
  | 1 => by decide
  | d + 2 => by
    have := mateB_pos d
    show 0 ≤ 30 * mateB d * ((d : Int) + 1)
    exact Int.mul_nonneg (by omega) (by omega)
theorem ne_of_len {m d : Nat} (h : (bitsOf m).length = d + 1) : m ≠ 0 := by
  intro h0
  subst h0
  rw [bitsOf_zero] at h
  simp at h
theorem rest_len {m d : Nat} (hm : m < 256) (h : (bitsOf m).length = d + 1) : (bitsOf (wo8 m (lowN m))).length = d := by
  have := wo8_len hm (lowN_lt m) (lowN_bit hm (ne_of_len h))
  omega
theorem mates_bound {F : Nat → Int} {sg : Int} (hF : ∀ i, -30 ≤ F i ∧ F i ≤ 30) (hsg : sg = 1 ∨ sg = -1) : ∀ (d left : Nat), left < 256 → (bitsOf left).length = d → -(mateB d) ≤ mates F sg d left ∧ mates F sg d left ≤ mateB d
  | 0, _, _, _ => by show -(1 : Int) ≤ 1 ∧ (1 : Int) ≤ 1; omega
  | 1, _, _, _ => by show -(0 : Int) ≤ 0 ∧ (0 : Int) ≤ 0; omega
  | d + 2, left, hm, hl => by
    have hr := rest_len hm hl
    have hterm : ∀ v ∈ elems (wo8 left (lowN left)), -(30 * mateB d) ≤ F (6 * lowN left + v) * mates F sg d (wo8 (wo8 left (lowN left)) v) ∧ F (6 * lowN left + v) * mates F sg d (wo8 (wo8 left (lowN left)) v) ≤ 30 * mateB d := fun v hv => by
      obtain ⟨h8, hb⟩ := mem_elems.1 hv
      exact mul_bound (by omega) (mateB_pos d) (hF _) (mates_bound hF hsg d _ (wo8_lt (wo8_lt hm)) (by have := wo8_len (wo8_lt hm) h8 hb; omega))
    have := sumS_bound hsg (elems (wo8 left (lowN left))) hterm
    rw [elems_len, hr] at this
    exact this
theorem mateB_le : ∀ d : Fin 7, mateB d.val ≤ 600000000000 := by decide
/-- The number that is summed. -/
def mateT (F : Nat → Int) (sg : Int) (d left : Nat) (v : Nat) : Int := F (6 * lowN left + v) * mates F sg (d - 1) (wo8 (wo8 left (lowN left)) v)
theorem mates_succ (F : Nat → Int) (sg : Int) {d left : Nat} (hm : left < 256) (hl : (bitsOf left).length = d + 1) : mates F sg (d + 1) left = (sumS sg (mateT F sg d left) (elems (wo8 left (lowN left)))).1 := by
  cases d with
  | zero =>
    have : elems (wo8 left (lowN left)) = [] := List.eq_nil_of_length_eq_zero (by rw [elems_len]; exact rest_len hm hl)
    rw [this]; rfl
  | succ d => rfl
theorem mateT_bound {F : Nat → Int} {sg : Int} (hF : ∀ i, -30 ≤ F i ∧ F i ≤ 30) (hsg : sg = 1 ∨ sg = -1) {d left v : Nat} (hm : left < 256) (hd : d ≤ 5) (hl : (bitsOf left).length = d + 1) (h8 : v < 8) (hb : (wo8 left (lowN left)).testBit v = true) :
    -(18000000000000 : Int) ≤ mateT F sg d left v ∧ mateT F sg d left v ≤ 18000000000000 := by
  have hr := rest_len hm hl
  have hw := wo8_len (wo8_lt hm) h8 hb
  have he := mates_bound hF hsg (d - 1) (wo8 (wo8 left (lowN left)) v) (wo8_lt (wo8_lt hm)) (by omega)
  have hB := mateB_le ⟨d - 1, by omega⟩
  simp only at hB
  have h2 : -(600000000000 : Int) ≤ mates F sg (d - 1) (wo8 (wo8 left (lowN left)) v) ∧ mates F sg (d - 1) (wo8 (wo8 left (lowN left)) v) ≤ 600000000000 := by omega
  have := mul_bound (B := 30) (C := 600000000000) (by omega) (by omega) (hF (6 * lowN left + v)) h2
  unfold mateT
  exact ⟨by omega, by omega⟩
theorem rest_bit_all : ∀ (m : Fin 256) (j : Fin 8), j.val ≤ (low m.val).val → (m.val &&& (255 - 2 ^ (low m.val).val)).testBit j.val = false := by decide +kernel
theorem rest_bit {m j : Nat} (hm : m < 256) (hj : j ≤ lowN m) : (wo8 m (lowN m)).testBit j = false := rest_bit_all ⟨m, hm⟩ ⟨j, by have := lowN_lt m; omega⟩ hj
theorem below8_rest {m : Nat} (hm : m < 256) : below8 (wo8 m (lowN m)) (lowN m + 1) = [] := by
  unfold below8
  rw [List.filter_eq_nil_iff]
  intro v hv
  obtain ⟨h8, hb⟩ := mem_elems.1 hv
  by_cases h : v < lowN m + 1
  · rw [rest_bit hm (by omega)] at hb
    cases hb
  · simpa using h
/-- Of an odd number of rows there is no pairing. -/
theorem sumS_zero (sg : Int) {term : Nat → Int} (l : List Nat) (h : ∀ v ∈ l, term v = 0) : (sumS sg term l).1 = 0 := by
  unfold sumS
  have key : ∀ (l : List Nat) (s : Int × Int), (∀ v ∈ l, term v = 0) → (l.foldl (sumStep sg term) s).1 = s.1 := by
    intro l
    induction l with
    | nil => exact fun s _ => rfl
    | cons v t ih =>
      intro s hl
      rw [List.foldl_cons, ih _ (fun u hu => hl u (by simp [hu]))]
      show s.1 + s.2 * term v = s.1
      rw [hl v (by simp), Int.mul_zero, Int.add_zero]
  rw [key l _ h]
theorem mates_odd (F : Nat → Int) (sg : Int) : ∀ (d left : Nat), d % 2 = 1 → mates F sg d left = 0
  | 0, _, h => by omega
  | 1, _, _ => rfl
  | d + 2, left, h => by
    show (sumS sg (fun v => F (6 * lowN left + v) * mates F sg d (wo8 (wo8 left (lowN left)) v)) (elems (wo8 left (lowN left)))).1 = 0
    exact sumS_zero sg _ fun v _ => by
      show F (6 * lowN left + v) * mates F sg d (wo8 (wo8 left (lowN left)) v) = 0
      rw [mates_odd F sg d _ (by omega), Int.mul_zero]

end Go.Proofs.YtfcbhcjgjbcjdacDoor
