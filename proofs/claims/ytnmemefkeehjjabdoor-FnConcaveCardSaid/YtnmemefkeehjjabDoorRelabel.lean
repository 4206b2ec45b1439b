/-
  A GRAPH WITHOUT A NODE HAS THE MATCHINGS OF THE OTHERS: plain functions, no walk.
-/
import Derived.Test.YtnmemefkeehjjabDoorWithoutAny
import Derived.Test.YtnmemefkeehjjabDoorNum1
import Derived.Test.YtnmemefkeehjjabDoorMade
namespace Go.Proofs.YtnmemefkeehjjabDoor
set_option linter.unusedVariables false
set_option linter.unusedSimpArgs false
open Go.RowKit
set_option maxRecDepth 100000

/-- Graphs that are the same at a set's nodes have the same matchings of it. -/
theorem nums_same {F G : Nat → Nat} : ∀ s, s < 256 → (∀ i : Fin 8, s.testBit i.val = true → F i.val = G i.val) → ∀ k, nums F s k = nums G s k := by
  intro s
  induction s using Nat.strongRecOn with
  | _ s ih =>
    intro hs h k
    by_cases h0 : s = 0
    · subst h0; rw [nums_zero, nums_zero]
    · have hr := rst_lt hs h0
      have hsub : ∀ i : Fin 8, (rst s).testBit i.val = true → s.testBit i.val = true := fun i hi => sub8_wo s (low s) i hi
      have ht : tieOf F s = tieOf G s := by unfold tieOf; rw [h (low s) (low_bit hs h0)]
      rw [nums_step hs h0, nums_step hs h0, ih (rst s) hr (by omega) (fun i hi => h i (hsub i hi)), ht]
      congr 1
      unfold tied
      split
      · rfl
      · congr 1
        apply List.map_congr_left
        intro w _
        have hle := wo_le (rst s) w.val
        exact ih _ (by omega) (by omega) (fun i hi => h i (hsub i (sub8_wo (rst s) w i hi))) _
theorem gr_same {F G : Nat → Nat} {s : Nat} (hs : s < 256) (h : ∀ i : Fin 8, s.testBit i.val = true → F i.val = G i.val) : gr F s = gr G s := by
  unfold gr numL
  rw [tab_congr (g := fun k => ((nums G s k : Nat) : Int)) (fun k _ => by rw [nums_same s hs h])]

/-- The node that is called i where v is left out. -/
def upN (v i : Nat) : Nat := if i < v then i else i + 1
/-- A set, its nodes called as they were where v was there. -/
def lift (v s : Nat) : Nat := (s &&& (2 ^ v - 1)) ||| (s / 2 ^ v * 2 ^ (v + 1))
theorem lift_lt : ∀ (v : Fin 8) (s : Fin 128), lift v.val s.val < 256 := by decide +kernel
theorem lift_zero : ∀ (v : Fin 8) (s : Fin 128), lift v.val s.val = 0 ↔ s.val = 0 := by decide +kernel
theorem low_lift : ∀ (v : Fin 8) (s : Fin 128), s.val ≠ 0 → (low (lift v.val s.val)).val = upN v.val (low s.val).val ∧ (low s.val).val < 7 := by decide +kernel
theorem bits_lift : ∀ (v : Fin 8) (s : Fin 128), (bitsOf (lift v.val s.val)).map (·.val) = (bitsOf s.val).map (fun x => upN v.val x.val) := by decide +kernel
theorem wo_lift : ∀ (v : Fin 8) (s : Fin 128) (x : Fin 7), wo (lift v.val s.val) (upN v.val x.val) = lift v.val (wo s.val x.val) := by decide +kernel
theorem lift_bit : ∀ (v : Fin 8) (s : Fin 128) (j : Fin 8), (lift v.val s.val).testBit j.val = (if j.val < v.val then s.val.testBit j.val else if j.val = v.val then false else s.val.testBit (j.val - 1)) := by decide +kernel
theorem drp_bit : ∀ (v : Fin 8) (m : Fin 256) (i : Fin 7), (drp m.val v.val).testBit i.val = m.val.testBit (upN v.val i.val) := by decide +kernel
theorem drp_small : ∀ (n : Fin 9) (v : Fin 8) (m : Fin 256), v.val < n.val → m.val < 2 ^ n.val → drp m.val v.val < 2 ^ (n.val - 1) := by decide +kernel
theorem lift_all : ∀ (n : Fin 9) (v : Fin 8), v.val < n.val → lift v.val (2 ^ (n.val - 1) - 1) = wo (2 ^ n.val - 1) v.val := by decide +kernel

theorem bit8 {s j : Nat} (hs : s < 256) (hj : 8 ≤ j) : s.testBit j = false := Nat.testBit_lt_two_pow (Nat.lt_of_lt_of_le hs (Nat.pow_le_pow_right (n := 2) (by decide) hj))
theorem tie_lift (v : Fin 8) {m s : Nat} (hm : m < 256) (hs : s < 128) : m &&& lift v.val s = lift v.val (drp m v.val &&& s) := by
  have hs2 : drp m v.val &&& s < 128 := Nat.lt_of_le_of_lt Nat.and_le_right hs
  apply Nat.eq_of_testBit_eq
  intro j
  rw [Nat.testBit_and]
  by_cases hj : j < 8
  · have h1 := lift_bit v ⟨s, hs⟩ ⟨j, hj⟩
    have h2 := lift_bit v ⟨drp m v.val &&& s, hs2⟩ ⟨j, hj⟩
    simp only at h1 h2
    rw [h1, h2]
    by_cases c1 : j < v.val
    · have h3 := drp_bit v ⟨m, hm⟩ ⟨j, by omega⟩
      simp only [upN, if_pos c1] at h3
      rw [if_pos c1, if_pos c1, Nat.testBit_and, h3]
    · rw [if_neg c1, if_neg c1]
      by_cases c2 : j = v.val
      · rw [if_pos c2, if_pos c2, Bool.and_false]
      · rw [if_neg c2, if_neg c2]
        have h3 := drp_bit v ⟨m, hm⟩ ⟨j - 1, by omega⟩
        have c3 : ¬ j - 1 < v.val := by omega
        simp only [upN, if_neg c3] at h3
        rw [Nat.testBit_and, h3, show j - 1 + 1 = j by omega]
  · have h1 := lift_lt v ⟨drp m v.val &&& s, hs2⟩
    rw [bit8 hm (by omega), Bool.false_and, bit8 h1 (by omega)]

theorem shut_is (f : Nat → Nat) (v i : Nat) : shutOf f v i = drp (f (upN v i)) v := rfl
theorem nums_lift {f : Nat → Nat} (hf : ∀ i, f i < 256) (v : Fin 8) : ∀ s, s < 128 → ∀ k, nums f (lift v.val s) k = nums (shutOf f v.val) s k := by
  intro s
  induction s using Nat.strongRecOn with
  | _ s ih =>
    intro hs k
    by_cases h0 : s = 0
    · subst h0
      have : lift v.val 0 = 0 := (lift_zero v ⟨0, by decide⟩).2 rfl
      rw [this, nums_zero, nums_zero]
    · have hl := lift_lt v ⟨s, hs⟩
      have hl0 : lift v.val s ≠ 0 := fun e => h0 ((lift_zero v ⟨s, hs⟩).1 e)
      obtain ⟨hlow, hlow7⟩ := low_lift v ⟨s, hs⟩ h0
      simp only at hl hlow hlow7
      have hr := rst_lt (s := s) (by omega) h0
      have hrst : rst (lift v.val s) = lift v.val (rst s) := by
        unfold rst
        rw [hlow]
        exact wo_lift v ⟨s, hs⟩ ⟨(low s).val, hlow7⟩
      have htie : tieOf f (lift v.val s) = lift v.val (tieOf (shutOf f v.val) s) := by
        unfold tieOf
        rw [hlow, hrst, tie_lift v (hf _) (by omega), shut_is]
      have ht : tieOf (shutOf f v.val) s ≤ rst s := Nat.and_le_right
      rw [nums_step hl hl0, nums_step (s := s) (by omega) h0, hrst, ih (rst s) hr (by omega), htie]
      congr 1
      unfold tied
      split
      · rfl
      · congr 1
        rw [hrst]
        have e1 : (bitsOf (lift v.val (tieOf (shutOf f v.val) s))).map (fun w => nums f (wo (lift v.val (rst s)) w.val) (k - 1)) = ((bitsOf (lift v.val (tieOf (shutOf f v.val) s))).map (·.val)).map (fun w => nums f (wo (lift v.val (rst s)) w) (k - 1)) := by rw [List.map_map]; rfl
        rw [e1, bits_lift v ⟨tieOf (shutOf f v.val) s, by omega⟩, List.map_map]
        apply List.map_congr_left
        intro x hx
        have hx2 := mem_bitsOf.1 hx
        have hx7 : x.val < 7 := by
          rcases Nat.lt_or_ge x.val 7 with h | h
          · exact h
          · rw [Nat.testBit_lt_two_pow (Nat.lt_of_lt_of_le (show tieOf (shutOf f v.val) s < 2 ^ 7 by omega) (Nat.pow_le_pow_right (n := 2) (by decide) h))] at hx2; cases hx2
        have hle := wo_le (rst s) x.val
        have e2 := wo_lift v ⟨rst s, by omega⟩ ⟨x.val, hx7⟩
        simp only at e2
        show nums f (wo (lift v.val (rst s)) (upN v.val x.val)) (k - 1) = _
        rw [e2]
        exact ih _ (by omega) (by omega) _

/-- What is known of a graph without a node. -/
theorem out_facts {xs : List Int} {v : Nat} (hg : gIn xs = true) (h2 : 2 ≤ xs.length) (hv : v < xs.length) :
    outOk xs (v : Int) = true ∧ (outOf xs (v : Int)).length = xs.length - 1 ∧ gIn (outOf xs (v : Int)) = true ∧ (∀ x ∈ outOf xs (v : Int), I64 x) ∧
    ∀ k, nums (gfun (outOf xs (v : Int))) (2 ^ (xs.length - 1) - 1) k = nums (gfun xs) (wo (2 ^ xs.length - 1) v) k := by
  obtain ⟨h1, h8, hok⟩ := gIn_parts hg
  have hpw := gfun_pow hok
  have hlt := gfun_lt h8 hok
  have hO : outOk xs (v : Int) = true := by
    unfold outOk
    rw [hg, Bool.true_and, decide_eq_true_eq]
    omega
  have hL : outOf xs (v : Int) = glist (xs.length - 1) (shutOf (gfun xs) v) := by
    unfold outOf; rw [if_pos hO]; rfl
  have hv8 : v < 8 := by omega
  have hsm : ∀ i, shutOf (gfun xs) v i < 2 ^ (xs.length - 1) := fun i => by
    rw [shut_is]
    exact drp_small ⟨xs.length, by omega⟩ ⟨v, hv8⟩ ⟨gfun xs (upN v i), hlt _⟩ hv (hpw _)
  have hbit : ∀ i j, j < 7 → (shutOf (gfun xs) v i).testBit j = (gfun xs (upN v i)).testBit (upN v j) := fun i j hj => by
    rw [shut_is]
    exact drp_bit ⟨v, hv8⟩ ⟨gfun xs (upN v i), hlt _⟩ ⟨j, hj⟩
  have h128 : 2 ^ (xs.length - 1) ≤ 2 ^ 7 := Nat.pow_le_pow_right (by decide) (by omega)
  refine ⟨hO, by rw [hL, glist_len], ?_, ?_, fun k => ?_⟩
  · rw [hL]
    refine gIn_glist (by omega) (by omega) (fun i _ => hsm i) (fun i hi => ?_) (fun i j hi hj hij => ?_)
    · rw [hbit i i (by omega)]
      have hu : upN v i < 8 := by unfold upN; split <;> omega
      exact gIn_irr hg ⟨_, hu⟩
    · rw [hbit j i (by omega)]
      rw [hbit i j (by omega)] at hij
      exact gIn_both hg hij
  · rw [hL]
    exact i64_glist fun i _ => by have := hsm i; omega
  · rw [hL]
    have e1 := nums_same (F := gfun (glist (xs.length - 1) (shutOf (gfun xs) v))) (G := shutOf (gfun xs) v) (2 ^ (xs.length - 1) - 1) (by omega) (fun i hi => by
      have hin : i.val < xs.length - 1 := by
        rcases Nat.lt_or_ge i.val (xs.length - 1) with h | h
        · exact h
        · have hp := Nat.two_pow_pos (xs.length - 1)
          rw [Nat.testBit_lt_two_pow (Nat.lt_of_lt_of_le (show 2 ^ (xs.length - 1) - 1 < 2 ^ (xs.length - 1) by omega) (Nat.pow_le_pow_right (by decide) h))] at hi; cases hi
      exact gfun_glist _ hin) k
    rw [e1]
    have hp := Nat.two_pow_pos (xs.length - 1)
    have e2 := nums_lift hlt ⟨v, hv8⟩ (2 ^ (xs.length - 1) - 1) (by omega) k
    simp only at e2
    rw [← e2]
    have e3 := lift_all ⟨xs.length, by omega⟩ ⟨v, hv8⟩ hv
    simp only at e3
    rw [e3]

theorem gr_of_nums {f g : Nat → Nat} {s t : Nat} (h : ∀ k, nums f s k = nums g t k) : gr f s = gr g t := by
  unfold gr numL
  rw [tab_congr (g := fun k => ((nums g t k : Nat) : Int)) (fun k _ => by rw [h])]

end Go.Proofs.YtnmemefkeehjjabDoor
