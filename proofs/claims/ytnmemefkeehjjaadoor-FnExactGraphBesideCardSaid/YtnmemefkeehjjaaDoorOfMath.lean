/-
  THE GRAPH OF A GRAPH's EDGES IS IT: plain functions, no walk.
-/
import Derived.Test.YtnmemefkeehjjaaDoorOtherMath
import Derived.Test.YtnmemefkeehjjaaDoorImplEdges
import Derived.Test.YtnmemefkeehjjaaDoorOf
namespace Go.Proofs.YtnmemefkeehjjaaDoor
set_option linter.unusedVariables false
set_option linter.unusedSimpArgs false
open Go.RowKit
set_option maxRecDepth 100000

theorem lnk_bit {f : Nat → Nat} {a b i j : Nat} (h : a ≠ b) : (lnk f a b i).testBit j = ((f i).testBit j || decide (i = a ∧ j = b) || decide (i = b ∧ j = a)) := by
  rw [lnk_ne f h]
  unfold upd
  by_cases h1 : i = b
  · subst h1
    have : ¬ i = a := fun e => h e.symm
    rw [if_pos rfl, Nat.testBit_or, Nat.testBit_two_pow]
    by_cases h2 : a = j
    · subst h2; simp
    · have : ¬ j = a := fun e => h2 e.symm
      simp [h2, *]
  · rw [if_neg h1]
    by_cases h2 : i = a
    · subst h2
      rw [if_pos rfl, Nat.testBit_or, Nat.testBit_two_pow]
      by_cases h3 : b = j
      · subst h3; simp
      · have : ¬ j = b := fun e => h3 e.symm
        simp [h3, *]
    · rw [if_neg h2]; simp [h1, h2]

theorem getD_pair (l : List (Fin 8 × Fin 8)) (k : Nat) (h : k < l.length) : (l.map pairL).getD k [] = pairL l[k] := by
  simp [List.getD, List.getElem?_eq_getElem h]
theorem link_bit {l : List (Fin 8 × Fin 8)} (hne : ∀ e ∈ l, e.1.val ≠ e.2.val) (i j : Nat) : ∀ k, k ≤ l.length →
    ((linkTo (l.map pairL) k i).testBit j = true ↔ ∃ e ∈ l.take k, (e.1.val = i ∧ e.2.val = j) ∨ (e.2.val = i ∧ e.1.val = j))
  | 0, _ => by simp [linkTo]
  | k + 1, hk => by
    have ih := link_bit hne i j k (by omega)
    have hlk : linkTo (l.map pairL) (k + 1) = lnk (linkTo (l.map pairL) k) l[k].1.val l[k].2.val := by
      show lnk _ _ _ = _
      rw [getD_pair l k (by omega)]
      rfl
    rw [hlk, lnk_bit (hne _ (List.getElem_mem _)), Bool.or_eq_true, Bool.or_eq_true, ih, List.take_succ_eq_append_getElem (by omega)]
    simp only [decide_eq_true_eq]
    constructor
    · rintro ((⟨e, he, h⟩ | ⟨h1, h2⟩) | ⟨h1, h2⟩)
      · exact ⟨e, List.mem_append.2 (.inl he), h⟩
      · exact ⟨l[k], List.mem_append.2 (.inr (List.mem_singleton.2 rfl)), .inl ⟨h1.symm, h2.symm⟩⟩
      · exact ⟨l[k], List.mem_append.2 (.inr (List.mem_singleton.2 rfl)), .inr ⟨h1.symm, h2.symm⟩⟩
    · rintro ⟨e, he, h⟩
      rcases List.mem_append.1 he with he | he
      · exact .inl (.inl ⟨e, he, h⟩)
      · rw [List.mem_singleton.1 he] at h
        rcases h with ⟨h1, h2⟩ | ⟨h1, h2⟩
        · exact .inl (.inr ⟨h1.symm, h2.symm⟩)
        · exact .inr ⟨h1.symm, h2.symm⟩

/-- All that are neighbours are told. -/
theorem pairs_hold {f : Nat → Nat} {n : Nat} {a b : Fin 8} (hab : a.val < b.val) (hb : b.val < n) (hbit : (f a.val).testBit b.val = true) : ∀ {k}, a.val < k → (a, b) ∈ pairsTo f n k
  | 0, h => by omega
  | k + 1, h => by
    by_cases hk : k < 8
    · rw [pairsTo_succ hk, List.mem_append]
      by_cases e : a.val = k
      · refine .inr (List.mem_map.2 ⟨b, ?_, ?_⟩)
        · unfold upTo
          rw [List.mem_filter, Bool.and_eq_true, decide_eq_true_eq, decide_eq_true_eq, mem_bitsOf, ← e]
          exact ⟨hbit, hab, hb⟩
        · exact Prod.ext (Fin.ext e.symm) rfl
      · exact .inl (pairs_hold hab hb hbit (by omega))
    · rw [pairsTo.eq_2, dif_neg hk]
      exact pairs_hold hab hb hbit (by have := a.isLt; omega)

theorem of_edges {xs : List Int} (hg : gIn xs = true) : ofOk (xs.length : Int) (edgesL xs) = true ∧ ofOf (xs.length : Int) (edgesL xs) = xs := by
  obtain ⟨h1, h8, hok⟩ := gIn_parts hg
  have hlt := gfun_lt h8 hok
  have hpw := gfun_pow hok
  have hE : edgesL xs = (pairsTo (gfun xs) xs.length xs.length).map pairL := by unfold edgesL; rw [if_pos hg]; rfl
  have hne : ∀ e ∈ pairsTo (gfun xs) xs.length xs.length, e.1.val ≠ e.2.val := fun e he => by have := (pairsTo_mem he).2.1; omega
  have hOk : ofOk (xs.length : Int) (edgesL xs) = true := by
    unfold ofOk goodTo
    rw [Bool.and_eq_true, decide_eq_true_eq, List.take_length, List.all_eq_true]
    refine ⟨by omega, fun e he => ?_⟩
    rw [hE] at he
    obtain ⟨p, hp, rfl⟩ := List.mem_map.1 he
    have := pairsTo_mem hp
    unfold goodE pairL
    rw [decide_eq_true_eq]
    simp
    omega
  refine ⟨hOk, ?_⟩
  unfold ofOf
  rw [if_pos hOk, hE, Int.toNat_natCast, List.length_map]
  apply List.ext_getElem
  · rw [glist_len]
  · intro i hi hi2
    rw [glist_at, (row_value h8 hok hi2).1]
    congr 1
    apply Nat.eq_of_testBit_eq
    intro j
    rw [Bool.eq_iff_iff, link_bit hne i j _ (Nat.le_refl _), List.take_length]
    constructor
    · rintro ⟨e, he, ⟨rfl, rfl⟩ | ⟨rfl, rfl⟩⟩
      · exact (pairsTo_mem he).2.2.2
      · exact gIn_both hg (pairsTo_mem he).2.2.2
    · intro hb
      have hj : j < xs.length := by
        rcases Nat.lt_or_ge j xs.length with h | h
        · exact h
        · rw [Nat.testBit_lt_two_pow (Nat.lt_of_lt_of_le (hpw i) (Nat.pow_le_pow_right (by decide) h))] at hb; cases hb
      rcases Nat.lt_trichotomy i j with h | h | h
      · exact ⟨(⟨i, by omega⟩, ⟨j, by omega⟩), pairs_hold h hj hb hi2, .inl ⟨rfl, rfl⟩⟩
      · subst h
        rw [gIn_irr hg ⟨i, by omega⟩] at hb; cases hb
      · exact ⟨(⟨j, by omega⟩, ⟨i, by omega⟩), pairs_hold h hi2 (gIn_both hg hb) hj, .inr ⟨rfl, rfl⟩⟩

end Go.Proofs.YtnmemefkeehjjaaDoor
