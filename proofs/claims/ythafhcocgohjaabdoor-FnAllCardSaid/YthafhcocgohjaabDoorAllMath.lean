/-
  ALL MATCHINGS: without the first node, and with each of its neighbours; plain functions, no walk.
-/
import Derived.Test.YthafhcocgohjaabDoorEdgeMath
import Derived.Test.YthafhcocgohjaabDoorImplAll
import Derived.Test.YthafhcocgohjaabDoorCritB
namespace Go.Proofs.YthafhcocgohjaabDoor
set_option linter.unusedVariables false
set_option linter.unusedSimpArgs false
open Go.RowKit
set_option maxRecDepth 100000

def tot (f : Nat → Nat) (s : Nat) : Nat := sum5 (nums f s) 5
theorem tot_le (f : Nat → Nat) {s : Nat} (hs : s < 256) : tot f s ≤ 215233605 := by
  have := sum5_le (g := nums f s) (fun k => nums_small hs k) 5
  unfold tot; omega
theorem sum5_congr {g h : Nat → Nat} : ∀ k, (∀ i, g i = h i) → sum5 g k = sum5 h k
  | 0, _ => rfl
  | k + 1, e => by simp only [sum5]; rw [sum5_congr k e, e k]
theorem sum5_add (g h : Nat → Nat) : ∀ k, sum5 (fun i => g i + h i) k = sum5 g k + sum5 h k
  | 0 => rfl
  | k + 1 => by simp only [sum5]; rw [sum5_add g h k]; omega
theorem tot_zero (f : Nat → Nat) : tot f 0 = 1 := by
  unfold tot
  rw [sum5_congr 5 (fun i => nums_zero f i)]
  rfl
/-- One more edge at each of some nodes. -/
theorem tied_tot {f : Nat → Nat} {s : Nat} (hs : s < 256) (h0 : s ≠ 0) : ∀ l : List (Fin 8), (∀ x ∈ l, (rst s).testBit x.val = true) → sum5 (tied f s l) 5 = (l.map fun w => tot f (wo (rst s) w.val)).sum
  | [], _ => by
    rw [sum5_congr 5 (fun i => tied_nil f s i)]; rfl
  | x :: l, h => by
    have ih := tied_tot (f := f) hs h0 l (fun y hy => h y (List.mem_cons_of_mem _ hy))
    have hx := h x (List.mem_cons_self)
    have hr := rst_lt hs h0
    have e : ∀ k, tied f s (x :: l) k = tied f s l k + if k = 0 then 0 else nums f (wo (rst s) x.val) (k - 1) := fun k => by
      unfold tied
      split
      · simp
      · simp [Nat.add_comm]
    rw [sum5_congr 5 e, sum5_add, ih, List.map_cons, List.sum_cons]
    have hsz := size_wo (s := rst s) (by omega) x.isLt hx
    have hr8 := size_rst hs h0
    have hb := bitsOf_len s
    have hle := wo_le (rst s) x.val
    have hfar : nums f (wo (rst s) x.val) 4 = 0 := nums_far f _ _ (by omega) rfl 4 (by omega)
    have : sum5 (fun k => if k = 0 then 0 else nums f (wo (rst s) x.val) (k - 1)) 5 = tot f (wo (rst s) x.val) := by
      unfold tot
      simp only [sum5]
      rw [hfar]
      simp
    rw [this]; omega
theorem tot_step {f : Nat → Nat} {s : Nat} (hs : s < 256) (h0 : s ≠ 0) : tot f s = tot f (rst s) + ((bitsOf (tieOf f s)).map fun w => tot f (wo (rst s) w.val)).sum := by
  unfold tot
  rw [sum5_congr 5 (fun k => nums_step hs h0 k), sum5_add, tied_tot hs h0 _ (fun x hx => by
    have := mem_bitsOf.1 hx
    unfold tieOf at this
    rw [Nat.testBit_and, Bool.and_eq_true] at this
    exact this.2)]
  rfl
theorem sum_filter {α : Type} (p : α → Bool) (g : α → Nat) : ∀ l : List α, ((l.filter p).map g).sum = (l.map fun x => if p x = true then g x else 0).sum
  | [] => rfl
  | x :: l => by
    rw [List.filter_cons, List.map_cons, List.sum_cons, ← sum_filter p g l]
    split
    · rw [List.map_cons, List.sum_cons]
    · rw [Nat.zero_add]
theorem fin_sum (h : Nat → Nat) : ((List.finRange 8).map fun x => h x.val).sum = sumN h 8 := by
  have e : (List.finRange 8) = [0, 1, 2, 3, 4, 5, 6, 7] := by decide
  rw [e]
  show h 0 + (h 1 + (h 2 + (h 3 + (h 4 + (h 5 + (h 6 + (h 7 + 0))))))) = 0 + h 0 + h 1 + h 2 + h 3 + h 4 + h 5 + h 6 + h 7
  omega
theorem bits_to (m : Nat) (g : Nat → Nat) : ((bitsOf m).map fun w => g w.val).sum = sumN (fun w => if m.testBit w = true then g w else 0) 8 := by
  unfold bitsOf
  rw [sum_filter]
  exact fin_sum fun w => if m.testBit w = true then g w else 0
theorem sumN_stop {h : Nat → Nat} {n : Nat} : ∀ m, n ≤ m → (∀ i, n ≤ i → i < m → h i = 0) → sumN h m = sumN h n
  | 0, hm, _ => by obtain rfl : n = 0 := by omega
                   rfl
  | m + 1, hm, hz => by
    by_cases e : n = m + 1
    · rw [e]
    · rw [sumN_succ, sumN_stop m (by omega) (fun i h1 h2 => hz i h1 (by omega)), hz m (by omega) (by omega)]; rfl
theorem low_all : ∀ n : Fin 9, 1 ≤ n.val → (low (2 ^ n.val - 1)).val = 0 := by decide +kernel

/-- What a node of the first one's neighbours adds. -/
def addAt (f : Nat → Nat) (n w : Nat) : Nat := if (f 0).testBit w = true then tot f (wo (wo (2 ^ n - 1) 0) w) else 0
theorem all_rec {xs : List Int} (hg : gIn xs = true) : tot (gfun xs) (2 ^ xs.length - 1) = tot (gfun xs) (wo (2 ^ xs.length - 1) 0) + sumN (addAt (gfun xs) xs.length) xs.length := by
  obtain ⟨h1, h8, hok⟩ := gIn_parts hg
  have hs := all256 h8
  have h0 : 2 ^ xs.length - 1 ≠ 0 := by
    have : 2 ^ 1 ≤ 2 ^ xs.length := Nat.pow_le_pow_right (by decide) h1
    omega
  have hlow := low_all ⟨xs.length, by omega⟩ h1
  simp only at hlow
  have hr : rst (2 ^ xs.length - 1) = wo (2 ^ xs.length - 1) 0 := by unfold rst; rw [hlow]
  have ht : tieOf (gfun xs) (2 ^ xs.length - 1) = gfun xs 0 := by
    unfold tieOf
    rw [hlow, hr]
    apply Nat.eq_of_testBit_eq
    intro j
    rw [Nat.testBit_and]
    cases hb : (gfun xs 0).testBit j with
    | false => rfl
    | true =>
      have hj : j < xs.length := by
        rcases Nat.lt_or_ge j xs.length with h | h
        · exact h
        · rw [Nat.testBit_lt_two_pow (Nat.lt_of_lt_of_le (gfun_pow hok 0) (Nat.pow_le_pow_right (by decide) h))] at hb; cases hb
      have hj0 : j ≠ 0 := fun e => by subst e; rw [gIn_irr hg ⟨0, by decide⟩] at hb; cases hb
      have := all_bit h8 hj
      have hw := wo_bit (2 ^ xs.length - 1) ⟨0, by decide⟩ ⟨j, by omega⟩
      simp only at hw
      rw [hw, this]
      simp [hj0]
  rw [tot_step hs h0, ht, hr]
  congr 1
  rw [bits_to (gfun xs 0) (fun w => tot (gfun xs) (wo (wo (2 ^ xs.length - 1) 0) w))]
  refine sumN_stop 8 h8 (fun i h1 h2 => if_neg ?_)
  intro hb
  rw [Nat.testBit_lt_two_pow (Nat.lt_of_lt_of_le (gfun_pow hok 0) (Nat.pow_le_pow_right (by decide) h1))] at hb; cases hb

/-- The matchings of some nodes where one is left out. -/
theorem out_nums {xs : List Int} {v : Nat} (hg : gIn xs = true) (h2 : 2 ≤ xs.length) (hv : v < xs.length) {s : Nat} (hs : s < 2 ^ (xs.length - 1)) (k : Nat) : nums (gfun (outOf xs (v : Int))) s k = nums (gfun xs) (lift v s) k := by
  obtain ⟨h1, h8, hok⟩ := gIn_parts hg
  have hlt := gfun_lt h8 hok
  obtain ⟨hO, _⟩ := out_facts hg h2 hv
  have hL : outOf xs (v : Int) = glist (xs.length - 1) (shutOf (gfun xs) v) := by
    unfold outOf; rw [if_pos hO]; rfl
  have h128 : 2 ^ (xs.length - 1) ≤ 2 ^ 7 := Nat.pow_le_pow_right (by decide) (by omega)
  have e1 := nums_same (F := gfun (glist (xs.length - 1) (shutOf (gfun xs) v))) (G := shutOf (gfun xs) v) s (by omega) (fun i hi => by
    have hin : i.val < xs.length - 1 := by
      rcases Nat.lt_or_ge i.val (xs.length - 1) with h | h
      · exact h
      · rw [Nat.testBit_lt_two_pow (Nat.lt_of_lt_of_le hs (Nat.pow_le_pow_right (by decide) h))] at hi; cases hi
    exact gfun_glist _ hin) k
  rw [hL, e1]
  exact (nums_lift hlt ⟨v, by omega⟩ s (by omega) k).symm
theorem lift_wo : ∀ (n : Fin 9) (v : Fin 8), 2 ≤ n.val → 1 ≤ v.val → v.val < n.val → lift 0 (wo (2 ^ (n.val - 1) - 1) (v.val - 1)) = wo (wo (2 ^ n.val - 1) 0) v.val := by decide +kernel
theorem tot_of_nums {f g : Nat → Nat} {s t : Nat} (h : ∀ k, nums f s k = nums g t k) : tot f s = tot g t := sum5_congr 5 h
/-- The graph without its first node and one more. -/
theorem tot_two {xs : List Int} {v : Nat} (hg : gIn xs = true) (h3 : 3 ≤ xs.length) (hv1 : 1 ≤ v) (hv : v < xs.length) :
    gIn (outOf (outOf xs ((0 : Nat) : Int)) ((v - 1 : Nat) : Int)) = true ∧ outOk (outOf xs ((0 : Nat) : Int)) ((v - 1 : Nat) : Int) = true ∧ (∀ x ∈ outOf (outOf xs ((0 : Nat) : Int)) ((v - 1 : Nat) : Int), I64 x) ∧
    sumOf (outOf (outOf xs ((0 : Nat) : Int)) ((v - 1 : Nat) : Int)) = (tot (gfun xs) (wo (wo (2 ^ xs.length - 1) 0) v) : Nat) := by
  obtain ⟨h1, h8, hok⟩ := gIn_parts hg
  obtain ⟨hO, hl, hg2, _, _⟩ := out_facts (v := 0) hg (by omega) (by omega)
  obtain ⟨ys, hy⟩ : ∃ ys, outOf xs ((0 : Nat) : Int) = ys := ⟨_, rfl⟩
  have hn := fun {s : Nat} (hs : s < 2 ^ (xs.length - 1)) (k : Nat) => out_nums (v := 0) hg (by omega) (by omega) hs k
  rw [hy] at hl hg2 ⊢
  simp only [hy] at hn
  obtain ⟨hO3, hl3, hg3, hI3, hn3⟩ := out_facts (xs := ys) (v := v - 1) hg2 (by omega) (by omega)
  refine ⟨hg3, hO3, hI3, ?_⟩
  rw [sumOf_yes hg3, hl3]
  congr 1
  show tot _ _ = _
  refine tot_of_nums fun k => ?_
  rw [hn3, hl]
  have hp := Nat.two_pow_pos (xs.length - 1)
  rw [hn (s := wo (2 ^ (xs.length - 1) - 1) (v - 1)) (Nat.lt_of_le_of_lt (wo_le _ _) (by omega)) k]
  have := lift_wo ⟨xs.length, by omega⟩ ⟨v, by omega⟩ (by show 2 ≤ xs.length; omega) hv1 hv
  simp only at this
  rw [this]
theorem tot_one {xs : List Int} (hg : gIn xs = true) (h2 : 2 ≤ xs.length) : sumOf (outOf xs ((0 : Nat) : Int)) = (tot (gfun xs) (wo (2 ^ xs.length - 1) 0) : Nat) := by
  obtain ⟨hO, hl, hg2, hI, hn⟩ := out_facts (v := 0) hg h2 (by omega)
  rw [sumOf_yes hg2, hl]
  congr 1
  exact tot_of_nums hn

end Go.Proofs.YthafhcocgohjaabDoor
