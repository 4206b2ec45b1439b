/-
  HOW MANY EDGES A GRAPH HAS, told by its degrees: sums over nodes; plain functions, no walk.
-/
import Derived.Test.YtnmemefkeehjjabDoorPairs
import Derived.Test.YtnmemefkeehjjabDoorOtherMath
import Derived.Test.YtnmemefkeehjjabDoorRelabel
namespace Go.Proofs.YtnmemefkeehjjabDoor
set_option linter.unusedVariables false
set_option linter.unusedSimpArgs false
open Go.RowKit
set_option maxRecDepth 100000

def sumN (h : Nat → Nat) : Nat → Nat
  | 0 => 0
  | k + 1 => sumN h k + h k
theorem sumN_succ (h : Nat → Nat) (k : Nat) : sumN h (k + 1) = sumN h k + h k := rfl
theorem sumN_congr {h g : Nat → Nat} : ∀ n, (∀ i, i < n → h i = g i) → sumN h n = sumN g n
  | 0, _ => rfl
  | n + 1, e => by rw [sumN_succ, sumN_succ, sumN_congr n (fun i hi => e i (by omega)), e n (by omega)]
theorem sumN_add (h g : Nat → Nat) : ∀ n, sumN (fun i => h i + g i) n = sumN h n + sumN g n
  | 0 => rfl
  | n + 1 => by simp only [sumN_succ, sumN_add h g n]; omega
theorem sumN_zero : ∀ n, sumN (fun _ => 0) n = 0
  | 0 => rfl
  | n + 1 => by rw [sumN_succ, sumN_zero n]
theorem sumN_le {h : Nat → Nat} {c : Nat} : ∀ n, (∀ i, i < n → h i ≤ c) → sumN h n ≤ c * n
  | 0, _ => by simp [sumN]
  | n + 1, e => by have := sumN_le (c := c) n (fun i hi => e i (by omega)); have := e n (by omega); rw [sumN_succ, Nat.mul_succ]; omega
/-- One of them told apart. -/
theorem sumN_skip (h : Nat → Nat) {v : Nat} : ∀ m, v ≤ m → sumN (fun i => h (upN v i)) m + h v = sumN h (m + 1)
  | 0, hv => by obtain rfl : v = 0 := by omega
                rfl
  | m + 1, hv => by
    by_cases e : v = m + 1
    · subst e
      rw [sumN_congr (h := fun i => h (upN (m + 1) i)) (g := h) (m + 1) (fun i hi => by show h (upN (m + 1) i) = h i; unfold upN; rw [if_pos hi])]
      rfl
    · have ih := sumN_skip h (v := v) m (by omega)
      rw [sumN_succ (fun i => h (upN v i)) m, sumN_succ h (m + 1), ← ih]
      have : upN v m = m + 1 := by unfold upN; rw [if_neg (by omega)]
      rw [this]; omega

/-- Over all pairs, and over those with the lower node first. -/
def overAll (B : Nat → Nat → Nat) (n : Nat) : Nat := sumN (fun i => sumN (B i) n) n
def overUp (B : Nat → Nat → Nat) (n : Nat) : Nat := sumN (fun i => sumN (fun j => if i < j then B i j else 0) n) n
theorem overUp_succ (B : Nat → Nat → Nat) (n : Nat) : overUp B (n + 1) = overUp B n + sumN (fun i => B i n) n := by
  unfold overUp
  rw [sumN_succ]
  have e1 : sumN (fun j => if n < j then B n j else 0) (n + 1) = 0 := by
    rw [sumN_congr (g := fun _ => 0) (n + 1) (fun j hj => if_neg (by omega)), sumN_zero]
  have e2 : sumN (fun i => sumN (fun j => if i < j then B i j else 0) (n + 1)) n = sumN (fun i => sumN (fun j => if i < j then B i j else 0) n + B i n) n :=
    sumN_congr n (fun i hi => by rw [sumN_succ, if_pos hi])
  rw [e1, e2, sumN_add]
  omega
theorem overAll_up {B : Nat → Nat → Nat} (hs : ∀ i j, B i j = B j i) (hz : ∀ i, B i i = 0) : ∀ n, overAll B n = 2 * overUp B n
  | 0 => rfl
  | n + 1 => by
    have ih := overAll_up hs hz n
    rw [overUp_succ]
    unfold overAll at ih ⊢
    rw [sumN_succ]
    have e1 : sumN (fun i => sumN (B i) (n + 1)) n = sumN (fun i => sumN (B i) n + B i n) n := sumN_congr n (fun i _ => sumN_succ _ _)
    have e2 : sumN (B n) n = sumN (fun i => B i n) n := sumN_congr n (fun i _ => hs n i)
    rw [e1, sumN_add, ih, sumN_succ, hz n, e2]
    omega
theorem overUp_congr {B C : Nat → Nat → Nat} (n : Nat) (h : ∀ i j, i < j → j < n → B i j = C i j) : overUp B n = overUp C n :=
  sumN_congr n fun i _ => sumN_congr n fun j hj => by
    show (if i < j then B i j else 0) = if i < j then C i j else 0
    by_cases e : i < j
    · rw [if_pos e, if_pos e, h i j e hj]
    · rw [if_neg e, if_neg e]
theorem overUp_add (B C : Nat → Nat → Nat) (n : Nat) : overUp (fun i j => B i j + C i j) n = overUp B n + overUp C n := by
  unfold overUp
  rw [← sumN_add]
  refine sumN_congr n fun i _ => ?_
  rw [← sumN_add]
  refine sumN_congr n fun j _ => ?_
  by_cases e : i < j
  · rw [if_pos e, if_pos e, if_pos e]
  · rw [if_neg e, if_neg e, if_neg e]
/-- A node left out. -/
theorem overAll_skip {B : Nat → Nat → Nat} (hs : ∀ i j, B i j = B j i) (hz : ∀ i, B i i = 0) {m v : Nat} (hv : v ≤ m) :
    overAll (fun i j => B (upN v i) (upN v j)) m + 2 * sumN (B v) (m + 1) = overAll B (m + 1) := by
  have h1 := sumN_skip (fun i => sumN (B i) (m + 1)) m hv
  have h2 := sumN_skip (fun i => B i v) m hv
  show sumN (fun i => sumN (fun j => B (upN v i) (upN v j)) m) m + 2 * sumN (B v) (m + 1) = sumN (fun i => sumN (B i) (m + 1)) (m + 1)
  rw [← h1]
  have e1 : sumN (fun i => sumN (B (upN v i)) (m + 1)) m = sumN (fun i => sumN (fun j => B (upN v i) (upN v j)) m + B (upN v i) v) m :=
    sumN_congr m fun i _ => (sumN_skip (B (upN v i)) m hv).symm
  have e2 : sumN (fun i => B i v) (m + 1) = sumN (B v) (m + 1) := sumN_congr _ fun i _ => hs i v
  show sumN (fun i => sumN (fun j => B (upN v i) (upN v j)) m) m + 2 * sumN (B v) (m + 1) = sumN (fun i => sumN (B (upN v i)) (m + 1)) m + sumN (B v) (m + 1)
  rw [e1, sumN_add]
  rw [hz v, e2] at h2
  have h2' : sumN (fun i => B (upN v i) v) m = sumN (B v) (m + 1) := h2
  rw [h2']
  omega

/-- Whether two nodes are neighbours, as a number. -/
def eb (f : Nat → Nat) (i j : Nat) : Nat := if (f i).testBit j = true then 1 else 0
theorem bits_sum : ∀ (n : Fin 9) (m : Fin 256), m.val < 2 ^ n.val → (bitsOf m.val).length = sumN (fun j => if m.val.testBit j = true then 1 else 0) n.val := by decide +kernel
theorem upTo_sum : ∀ (n : Fin 9) (a : Fin 8) (m : Fin 256), (upTo m.val a.val n.val).length = sumN (fun j => if a.val < j then (if m.val.testBit j = true then 1 else 0) else 0) n.val := by decide +kernel
theorem degs_sum {f : Nat → Nat} {n i : Nat} (h8 : n ≤ 8) (hp : f i < 2 ^ n) : (bitsOf (f i)).length = sumN (eb f i) n :=
  bits_sum ⟨n, by omega⟩ ⟨f i, Nat.lt_of_lt_of_le hp (pow_le_256 h8)⟩ hp
theorem pairs_sum {f : Nat → Nat} {n : Nat} (hf : ∀ i, f i < 256) (h8 : n ≤ 8) : ∀ k, k ≤ 8 → (pairsTo f n k).length = sumN (fun i => sumN (fun j => if i < j then eb f i j else 0) n) k
  | 0, _ => rfl
  | k + 1, hk => by
    rw [pairsTo_succ (by omega), List.length_append, List.length_map, sumN_succ, pairs_sum hf h8 k (by omega)]
    have := upTo_sum ⟨n, by omega⟩ ⟨k, by omega⟩ ⟨f k, hf k⟩
    simp only at this
    rw [this]
    rfl
theorem pairs_up {f : Nat → Nat} {n : Nat} (hf : ∀ i, f i < 256) (h8 : n ≤ 8) : (pairsTo f n n).length = overUp (eb f) n := pairs_sum hf h8 n h8

theorem eb_sym {xs : List Int} (hg : gIn xs = true) (i j : Nat) : eb (gfun xs) i j = eb (gfun xs) j i := by
  unfold eb
  have : (gfun xs i).testBit j = (gfun xs j).testBit i := by
    rw [Bool.eq_iff_iff]; exact ⟨gIn_both hg, gIn_both hg⟩
  rw [this]
theorem eb_irr {xs : List Int} (hg : gIn xs = true) (i : Nat) : eb (gfun xs) i i = 0 := by
  obtain ⟨h1, h8, hok⟩ := gIn_parts hg
  unfold eb
  rw [if_neg]
  intro h
  by_cases hi : i < 8
  · rw [gIn_irr hg ⟨i, hi⟩] at h; cases h
  · rw [gfun_far (by omega)] at h; simp at h

/-- The degrees are twice the edges. -/
theorem degs_two {xs : List Int} (hg : gIn xs = true) : sumN (fun i => (bitsOf (gfun xs i)).length) xs.length = 2 * (pairsTo (gfun xs) xs.length xs.length).length := by
  obtain ⟨h1, h8, hok⟩ := gIn_parts hg
  have hpw := gfun_pow hok
  rw [pairs_up (gfun_lt h8 hok) h8, ← overAll_up (eb_sym hg) (eb_irr hg)]
  exact sumN_congr _ fun i _ => degs_sum h8 (hpw i)

theorem ones_up : ∀ n : Fin 9, overUp (fun _ _ => 1) n.val = n.val * (n.val - 1) / 2 := by decide +kernel
/-- The edges and those of the others are all pairs. -/
theorem edges_other {xs : List Int} (hg : gIn xs = true) : (pairsTo (gfun (otherOf xs)) xs.length xs.length).length + (pairsTo (gfun xs) xs.length xs.length).length = xs.length * (xs.length - 1) / 2 := by
  obtain ⟨h1, h8, hok⟩ := gIn_parts hg
  obtain ⟨hg2, hl2, hI2, _, hat⟩ := other_facts hg
  obtain ⟨_, h82, hok2⟩ := gIn_parts hg2
  rw [pairs_up (gfun_lt h82 hok2) h8, pairs_up (gfun_lt h8 hok) h8, ← overUp_add]
  have e := ones_up ⟨xs.length, by omega⟩
  simp only at e
  rw [← e]
  refine overUp_congr _ fun i j hij hj => ?_
  unfold eb
  rw [hat i (by omega), oth_bit h8 (gfun_lt h8 hok i) (by omega)]
  cases (gfun xs i).testBit j <;> simp [hj, show j ≠ i by omega]

/-- A node less is its edges less. -/
theorem edges_without {xs : List Int} {v : Nat} (hg : gIn xs = true) (h2 : 2 ≤ xs.length) (hv : v < xs.length) :
    (pairsTo (gfun (outOf xs (v : Int))) (xs.length - 1) (xs.length - 1)).length + (bitsOf (gfun xs v)).length = (pairsTo (gfun xs) xs.length xs.length).length := by
  obtain ⟨h1, h8, hok⟩ := gIn_parts hg
  have hlt := gfun_lt h8 hok
  obtain ⟨hO, hl2, hg2, _, _⟩ := out_facts hg h2 hv
  obtain ⟨_, h82, hok2⟩ := gIn_parts hg2
  obtain ⟨m, hm⟩ : ∃ m, xs.length = m + 1 := ⟨xs.length - 1, by omega⟩
  have hL : outOf xs (v : Int) = glist m (shutOf (gfun xs) v) := by
    unfold outOf; rw [if_pos hO, hm]; rfl
  have k1 := overAll_up (eb_sym hg2) (eb_irr hg2) m
  have k2 := overAll_up (eb_sym hg) (eb_irr hg) (m + 1)
  have k3 := overAll_skip (eb_sym hg) (eb_irr hg) (show v ≤ m by omega)
  have k4 : overAll (eb (gfun (outOf xs (v : Int)))) m = overAll (fun i j => eb (gfun xs) (upN v i) (upN v j)) m := by
    refine sumN_congr m fun i hi => sumN_congr m fun j hj => ?_
    show eb _ i j = eb _ (upN v i) (upN v j)
    unfold eb
    have hb := drp_bit ⟨v, by omega⟩ ⟨gfun xs (upN v i), hlt _⟩ ⟨j, by omega⟩
    simp only at hb
    rw [hL, gfun_glist _ hi, shut_is, hb]
  rw [show xs.length - 1 = m by omega, pairs_up (gfun_lt h82 hok2) (by omega), pairs_up hlt h8, degs_sum h8 (gfun_pow hok v), hm]
  omega

end Go.Proofs.YtnmemefkeehjjabDoor
