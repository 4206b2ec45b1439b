/-
  The choices that are listed are the rankings; the least one.
-/
import Derived.Test.YtellghhilcjbnaaDoorBestI
import Derived.Test.YtellghhilcjbnaaDoorRnk
namespace Go.Proofs.YtellghhilcjbnaaDoor
set_option linter.unusedVariables false
set_option linter.unusedSimpArgs false
open Go.RowKit

theorem chs_scan : ∀ (d left : Nat) (p : List Nat), left < 256 → p ∈ chs d left → scanB left (p.map Int.ofNat) = true
  | 0, left, p, _, hp => by have : p = [] := by simpa [chs] using hp
                            subst this; rfl
  | d + 1, left, p, hm, hp => by
    unfold chs at hp
    rw [List.mem_flatMap] at hp
    obtain ⟨v, hv, hp⟩ := hp
    obtain ⟨q, hq, rfl⟩ := List.mem_map.1 hp
    obtain ⟨h8, hb⟩ := mem_elems.1 hv
    have ih := chs_scan d (wo8 left v) q (wo8_lt hm) hq
    show (decide ((0 : Int) ≤ Int.ofNat v) && (left.testBit (Int.ofNat v).toNat && scanB (left &&& (255 - 2 ^ (Int.ofNat v).toNat)) (q.map Int.ofNat))) = true
    have e : (Int.ofNat v).toNat = v := rfl
    rw [e, hb, show left &&& (255 - 2 ^ v) = wo8 left v from rfl, ih]
    simp
theorem scan_chs : ∀ (d left : Nat) (xs : List Int), left < 256 → xs.length = d → scanB left xs = true → ∃ p ∈ chs d left, xs = p.map Int.ofNat
  | 0, left, xs, _, hl, _ => ⟨[], by simp [chs], by simpa using hl⟩
  | d + 1, left, xs, hm, hl, hs => by
    match xs, hl, hs with
    | x :: t, hl, hs =>
      have hs' : (decide (0 ≤ x) && (left.testBit x.toNat && scanB (left &&& (255 - 2 ^ x.toNat)) t)) = true := hs
      rw [Bool.and_eq_true, Bool.and_eq_true, decide_eq_true_iff] at hs'
      obtain ⟨h0, hb, ht⟩ := hs'
      have h8 : x.toNat < 8 := by
        by_cases h : x.toNat < 8
        · exact h
        · exfalso
          have hf : left.testBit x.toNat = false := Nat.testBit_lt_two_pow (Nat.lt_of_lt_of_le hm (by
            have : 2 ^ 8 ≤ 2 ^ x.toNat := Nat.pow_le_pow_right (by decide) (by omega)
            simpa using this))
          rw [hf] at hb; cases hb
      obtain ⟨q, hq, he⟩ := scan_chs d (wo8 left x.toNat) t (wo8_lt hm) (by simpa using hl) ht
      refine ⟨x.toNat :: q, ?_, ?_⟩
      · unfold chs
        rw [List.mem_flatMap]
        exact ⟨x.toNat, mem_elems.2 ⟨h8, hb⟩, List.mem_map.2 ⟨q, hq, rfl⟩⟩
      · rw [List.map_cons, ← he]
        congr 1
        show x = (x.toNat : Int)
        omega
theorem two_pow_256 {n : Nat} (h : n ≤ 8) : 2 ^ n - 1 < 256 := by
  have : 2 ^ n ≤ 2 ^ 8 := Nat.pow_le_pow_right (by decide) h
  omega
/-- The choices that are listed are the rankings. -/
theorem mem_chI {n : Nat} (h1 : 1 ≤ n) (h6 : n ≤ 6) {xs : List Int} : xs ∈ chI n n [] ↔ rankB n xs = true := by
  rw [chI_full (by omega), List.mem_map, rank_scan6 h1 h6, Bool.and_eq_true, decide_eq_true_iff]
  constructor
  · rintro ⟨p, hp, rfl⟩
    exact ⟨by rw [List.length_map]; exact chs_len _ _ _ hp, chs_scan _ _ _ (two_pow_256 (by omega)) hp⟩
  · rintro ⟨hl, hs⟩
    obtain ⟨p, hp, he⟩ := scan_chs n _ xs (two_pow_256 (by omega)) hl hs
    exact ⟨p, hp, he.symm⟩
theorem bestI_mem (M : List Int → Int) : ∀ (l : List (List Int)) (b : List Int), bestI M b l ∈ b :: l
  | [], b => by simp [bestI]
  | p :: l, b => by
    have ih := bestI_mem M l (if M p < M b then p else b)
    unfold bestI at ih ⊢
    rw [List.foldl_cons]
    rcases List.mem_cons.1 ih with h | h
    · rw [h]
      by_cases hc : M p < M b
      · rw [if_pos hc]; simp
      · rw [if_neg hc]; simp
    · exact List.mem_cons_of_mem _ (List.mem_cons_of_mem _ h)
theorem bestI_le (M : List Int → Int) : ∀ (l : List (List Int)) (b : List Int), ∀ p ∈ b :: l, M (bestI M b l) ≤ M p
  | [], b, p, hp => by
    rw [List.mem_singleton.1 hp]; exact Int.le_refl _
  | q :: l, b, p, hp => by
    have ih := bestI_le M l (if M q < M b then q else b)
    unfold bestI at ih ⊢
    rw [List.foldl_cons]
    have h0 := ih _ (List.mem_cons_self ..)
    rcases List.mem_cons.1 hp with rfl | hp
    · refine Int.le_trans h0 ?_
      split <;> omega
    · rcases List.mem_cons.1 hp with rfl | hp
      · refine Int.le_trans h0 ?_
        split <;> omega
      · exact ih p (List.mem_cons_of_mem _ hp)
/-- The least choice. -/
def leastI (M : List Int → Int) (n : Nat) : List Int := match chI n n [] with
  | [] => []
  | b :: l => bestI M b l
theorem chI_cons {n : Nat} (h1 : 1 ≤ n) (h6 : n ≤ 6) : ∃ b l, chI n n [] = b :: l := by
  have : (List.range n).map Int.ofNat ∈ chI n n [] := by
    rw [mem_chI h1 h6]
    have hn : n = 1 ∨ n = 2 ∨ n = 3 ∨ n = 4 ∨ n = 5 ∨ n = 6 := by omega
    rcases hn with rfl | rfl | rfl | rfl | rfl | rfl <;> decide
  cases h : chI n n [] with
  | nil => rw [h] at this; simp at this
  | cons b l => exact ⟨b, l, rfl⟩
theorem leastI_eq {M : List Int → Int} {n : Nat} {b : List Int} {l : List (List Int)} (h : chI n n [] = b :: l) : leastI M n = bestI M b l := by unfold leastI; rw [h]
theorem leastI_rank (M : List Int → Int) {n : Nat} (h1 : 1 ≤ n) (h6 : n ≤ 6) : rankB n (leastI M n) = true := by
  obtain ⟨b, l, h⟩ := chI_cons h1 h6
  rw [leastI_eq h, ← mem_chI h1 h6, h]
  exact bestI_mem M l b
theorem leastI_le (M : List Int → Int) {n : Nat} (h1 : 1 ≤ n) (h6 : n ≤ 6) {xs : List Int} (hx : rankB n xs = true) : M (leastI M n) ≤ M xs := by
  obtain ⟨b, l, h⟩ := chI_cons h1 h6
  rw [leastI_eq h]
  rw [← mem_chI h1 h6, h] at hx
  exact bestI_le M l b xs hx
/-- More of each is more of the least one, and no other choice. -/
theorem bestI_shift {M M' : List Int → Int} {c : Int} : ∀ (l : List (List Int)) (b : List Int), (∀ p ∈ b :: l, M' p = M p + c) → bestI M' b l = bestI M b l
  | [], _, _ => rfl
  | p :: l, b, h => by
    unfold bestI
    rw [List.foldl_cons, List.foldl_cons]
    have e : (if M' p < M' b then p else b) = (if M p < M b then p else b) := by
      rw [h p (by simp), h b (by simp)]
      by_cases hc : M p < M b
      · rw [if_pos hc, if_pos (by omega)]
      · rw [if_neg hc, if_neg (by omega)]
    rw [e]
    refine bestI_shift (c := c) l _ fun q hq => ?_
    rcases List.mem_cons.1 hq with hq | hq
    · rw [hq]
      split
      · exact h p (by simp)
      · exact h b (by simp)
    · exact h q (by simp [hq])
theorem leastI_shift {M M' : List Int → Int} {c : Int} {n : Nat} (h1 : 1 ≤ n) (h6 : n ≤ 6) (h : ∀ p, rankB n p = true → M' p = M p + c) : leastI M' n = leastI M n := by
  obtain ⟨b, l, hc⟩ := chI_cons h1 h6
  rw [leastI_eq hc, leastI_eq hc]
  exact bestI_shift l b fun p hp => h p (by rw [← mem_chI h1 h6, hc]; exact hp)

end Go.Proofs.YtellghhilcjbnaaDoor
