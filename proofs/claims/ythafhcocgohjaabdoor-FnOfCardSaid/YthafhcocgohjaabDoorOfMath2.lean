/-
  WHAT IS MADE OF EDGES IS A GRAPH, with at most as many edges: plain functions, no walk.
-/
import Derived.Test.YthafhcocgohjaabDoorOfMath
import Derived.Test.YthafhcocgohjaabDoorEdgeMath
namespace Go.Proofs.YthafhcocgohjaabDoor
set_option linter.unusedVariables false
set_option linter.unusedSimpArgs false
open Go.RowKit
set_option maxRecDepth 100000

theorem sumN_mono {h g : Nat → Nat} : ∀ n, (∀ i, i < n → h i ≤ g i) → sumN h n ≤ sumN g n
  | 0, _ => Nat.le_refl _
  | n + 1, e => by rw [sumN_succ, sumN_succ]; exact Nat.add_le_add (sumN_mono n fun i hi => e i (by omega)) (e n (by omega))
/-- One place at most. -/
theorem sumN_one {h : Nat → Nat} {a : Nat} (h1 : ∀ i, h i ≤ 1) (h0 : ∀ i, i ≠ a → h i = 0) : ∀ n, sumN h n ≤ if a < n then 1 else 0
  | 0 => by simp [sumN]
  | n + 1 => by
    have ih := sumN_one h1 h0 n
    rw [sumN_succ]
    by_cases e : n = a
    · subst e
      rw [if_neg (by omega)] at ih
      rw [if_pos (by omega)]
      have := h1 n
      omega
    · rw [h0 n e]
      by_cases c : a < n
      · rw [if_pos c] at ih; rw [if_pos (by omega)]; omega
      · rw [if_neg c] at ih; rw [if_neg (by omega)]; omega
theorem overUp_one (n a b : Nat) : overUp (fun i j => if i = a ∧ j = b then 1 else 0) n ≤ 1 := by
  show sumN (fun i => sumN (fun j => if i < j then (if i = a ∧ j = b then 1 else 0) else 0) n) n ≤ 1
  have hin : ∀ i, sumN (fun j => if i < j then (if i = a ∧ j = b then 1 else 0) else 0) n ≤ 1 := fun i => by
    have := sumN_one (h := fun j => if i < j then (if i = a ∧ j = b then 1 else 0) else 0) (a := b) (fun j => by show (if i < j then (if i = a ∧ j = b then 1 else 0) else 0) ≤ 1; split <;> (try split) <;> omega) (fun j hj => by show (if i < j then (if i = a ∧ j = b then 1 else 0) else 0) = 0; split <;> (try split) <;> first | rfl | omega) n
    split at this <;> omega
  have := sumN_one (h := fun i => sumN (fun j => if i < j then (if i = a ∧ j = b then 1 else 0) else 0) n) (a := a) hin (fun i hi => by
    show sumN (fun j => if i < j then (if i = a ∧ j = b then 1 else 0) else 0) n = 0
    rw [sumN_congr (g := fun _ => 0) n (fun j _ => by split <;> (try split) <;> first | rfl | omega), sumN_zero]) n
  split at this <;> omega

/-- What is known of what the first edges link. -/
theorem link_facts {n : Nat} (h8 : n ≤ 8) {xss : List (List Int)} : ∀ k, k ≤ xss.length → goodTo n xss k = true →
    (∀ i, linkTo xss k i < 2 ^ n) ∧ (∀ i j, (linkTo xss k i).testBit j = (linkTo xss k j).testBit i) ∧ (∀ i, (linkTo xss k i).testBit i = false) ∧ overUp (eb (linkTo xss k)) n ≤ k
  | 0, _, _ => by
    refine ⟨fun i => Nat.two_pow_pos n, fun i j => by simp [linkTo], fun i => by simp [linkTo], ?_⟩
    have : overUp (eb (linkTo xss 0)) n = overUp (fun _ _ => 0) n := overUp_congr n fun i j _ _ => by unfold eb linkTo; simp
    rw [this]
    have hz : overUp (fun _ _ => 0) n = 0 := by
      unfold overUp
      rw [sumN_congr (g := fun _ => 0) n (fun i _ => by rw [sumN_congr (g := fun _ => 0) n (fun j _ => by split <;> rfl), sumN_zero]), sumN_zero]
    rw [hz]; exact Nat.le_refl _
  | k + 1, hk, hg => by
    rw [goodTo_succ (by omega), Bool.and_eq_true] at hg
    obtain ⟨i1, i2, i3, i4⟩ := link_facts h8 k (by omega) hg.1
    have hge := hg.2
    unfold goodE at hge
    rw [decide_eq_true_eq] at hge
    obtain ⟨_, ⟨ha0, han⟩, ⟨hb0, hbn⟩, hne⟩ := hge
    obtain ⟨a, ha⟩ : ∃ a : Nat, xss[k].getD 0 0 = (a : Int) := ⟨(xss[k].getD 0 0).toNat, by omega⟩
    obtain ⟨b, hb⟩ : ∃ b : Nat, xss[k].getD 1 0 = (b : Int) := ⟨(xss[k].getD 1 0).toNat, by omega⟩
    have hab : a ≠ b := by omega
    have ha' : a < n := by omega
    have hb' : b < n := by omega
    rw [linkTo_succ (by omega) ha hb]
    obtain ⟨f, hf⟩ : ∃ f, linkTo xss k = f := ⟨_, rfl⟩
    rw [hf] at i1 i2 i3 i4 ⊢
    have hbit := fun i j => lnk_bit (f := f) (i := i) (j := j) hab
    refine ⟨fun i => ?_, fun i j => ?_, fun i => ?_, ?_⟩
    · rw [lnk_ne f hab]
      unfold upd
      split
      · exact Nat.or_lt_two_pow (i1 _) (Nat.pow_lt_pow_right (by decide) ha')
      · split
        · exact Nat.or_lt_two_pow (i1 _) (Nat.pow_lt_pow_right (by decide) hb')
        · exact i1 _
    · rw [hbit, hbit, i2 i j, Bool.or_assoc, Bool.or_assoc]
      congr 1
      rw [Bool.or_comm]
      congr 1 <;> simp [and_comm]
    · rw [hbit, i3]
      simp
      omega
    · have hle : overUp (eb (lnk f a b)) n ≤ overUp (eb f) n + overUp (fun i j => if i = min a b ∧ j = max a b then 1 else 0) n := by
        rw [← overUp_add]
        refine sumN_mono n fun i _ => sumN_mono n fun j _ => ?_
        by_cases hij : i < j
        · rw [if_pos hij, if_pos hij]
          show eb (lnk f a b) i j ≤ eb f i j + (if i = min a b ∧ j = max a b then 1 else 0)
          unfold eb
          rw [hbit]
          by_cases c1 : (f i).testBit j = true
          · rw [c1]; simp only [Bool.true_or, if_true]; exact Nat.le_add_right _ _
          · have c1' : (f i).testBit j = false := by cases h : (f i).testBit j with
              | true => exact absurd h c1
              | false => rfl
            rw [c1']
            by_cases c2 : i = min a b ∧ j = max a b
            · rw [if_pos c2]; split <;> simp
            · rw [if_neg c2]
              have d1 : ¬ (i = a ∧ j = b) := fun h => c2 (by omega)
              have d2 : ¬ (i = b ∧ j = a) := fun h => c2 (by omega)
              simp [d1, d2]
        · rw [if_neg hij, if_neg hij]; exact Nat.le_refl _
      have h1 := overUp_one n (min a b) (max a b)
      omega
theorem out_of {n : Nat} {xss : List (List Int)} (h : ofOk (n : Int) xss = true) : gIn (ofOf (n : Int) xss) = true ∧ (∀ x ∈ ofOf (n : Int) xss, I64 x) ∧ (edgesL (ofOf (n : Int) xss)).length ≤ xss.length := by
  have hok := h
  unfold ofOk at hok
  rw [Bool.and_eq_true, decide_eq_true_eq, Int.toNat_natCast] at hok
  obtain ⟨⟨h1, h8⟩, hg⟩ := hok
  have h1' : 1 ≤ n := by omega
  have h8' : n ≤ 8 := by omega
  obtain ⟨i1, i2, i3, i4⟩ := link_facts h8' xss.length (Nat.le_refl _) hg
  have hL : ofOf (n : Int) xss = glist n (linkTo xss xss.length) := by unfold ofOf; rw [if_pos h, Int.toNat_natCast]
  have h256 : ∀ i, linkTo xss xss.length i < 256 := fun i => Nat.lt_of_lt_of_le (i1 i) (pow_le_256 h8')
  have hgi : gIn (glist n (linkTo xss xss.length)) = true := gIn_glist h1' h8' (fun i _ => i1 i) (fun i _ => i3 i) (fun i j _ _ hij => by rw [← i2 i j]; exact hij)
  rw [hL]
  refine ⟨hgi, i64_glist fun i _ => h256 i, ?_⟩
  obtain ⟨_, h82, hok2⟩ := gIn_parts hgi
  unfold edgesL
  rw [if_pos hgi]
  unfold pairsOf
  rw [List.length_map, glist_len, pairs_up (gfun_lt h82 hok2) h8']
  refine Nat.le_trans (Nat.le_of_eq (overUp_congr n fun i j hij hj => ?_)) i4
  unfold eb
  rw [gfun_glist _ (by omega)]

end Go.Proofs.YthafhcocgohjaabDoor
