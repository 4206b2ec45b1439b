/-
  TWO GRAPHS BESIDE EACH OTHER: plain functions, no walk.
-/
import Derived.Test.YtbjpokjllkblaaaDoorLnkBit
import Derived.Test.YtbjpokjllkblaaaDoorMade
import Derived.Test.YtbjpokjllkblaaaDoorNum1
import Derived.Test.YtbjpokjllkblaaaDoorBitSum
namespace Go.Proofs.YtbjpokjllkblaaaDoor
set_option linter.unusedVariables false
set_option linter.unusedSimpArgs false
open Go.RowKit
set_option maxRecDepth 100000

/-- Edges linked one after another. -/
def lnkP (F : Nat → Nat) (l : List (Nat × Nat)) : Nat → Nat := l.foldl (fun h p => lnk h p.1 p.2) F
theorem lnkP_nil (F : Nat → Nat) : lnkP F [] = F := rfl
theorem lnkP_snoc (F : Nat → Nat) (l : List (Nat × Nat)) (p : Nat × Nat) : lnkP F (l ++ [p]) = lnk (lnkP F l) p.1 p.2 := by unfold lnkP; rw [List.foldl_append]; rfl
theorem lnkP_bit (i j : Nat) : ∀ (l : List (Nat × Nat)) (F : Nat → Nat), (∀ p ∈ l, p.1 ≠ p.2) → (lnkP F l i).testBit j = ((F i).testBit j || l.any (fun p => decide (i = p.1 ∧ j = p.2) || decide (i = p.2 ∧ j = p.1)))
  | [], F, _ => by simp [lnkP]
  | p :: l, F, h => by
    have e : lnkP F (p :: l) = lnkP (lnk F p.1 p.2) l := rfl
    rw [e, lnkP_bit i j l _ (fun q hq => h q (List.mem_cons_of_mem _ hq)), lnk_bit (h p List.mem_cons_self), List.any_cons]
    simp [Bool.or_assoc]
theorem lnkP_lt {F : Nat → Nat} (hF : ∀ i, F i < 256) : ∀ (l : List (Nat × Nat)), (∀ p ∈ l, p.1 < 8 ∧ p.2 < 8) → ∀ i, lnkP F l i < 256 := by
  intro l
  induction l generalizing F with
  | nil => intro _; exact hF
  | cons p l ih =>
    intro h
    have hp := h p List.mem_cons_self
    exact ih (F := lnk F p.1 p.2) (lnk_lt hp.1 hp.2 hF) (fun q hq => h q (List.mem_cons_of_mem _ hq))

/-- The edges as numbers, some nodes further. -/
def shP (m : Nat) (l : List (Fin 8 × Fin 8)) : List (Nat × Nat) := l.map fun e => (m + e.1.val, m + e.2.val)
theorem shP_snoc (m : Nat) (l : List (Fin 8 × Fin 8)) (x : Fin 8 × Fin 8) : shP m (l ++ [x]) = shP m l ++ [(m + x.1.val, m + x.2.val)] := by simp [shP]
/-- Both graphs. -/
def besF (m : Nat) (f g : Nat → Nat) : Nat → Nat := fun i => if i < m then f i else g (i - m) * 2 ^ m
def besG (m n : Nat) (f g : Nat → Nat) : Nat → Nat := lnkP (lnkP (fun _ => 0) (shP 0 (pairsTo f m m))) (shP m (pairsTo g n n))

theorem any_sh {f : Nat → Nat} {n : Nat} (h8 : n ≤ 8) (hp : ∀ i, f i < 2 ^ n) (hs : ∀ i j, i < n → j < n → (f i).testBit j = true → (f j).testBit i = true) (hi0 : ∀ i, i < n → (f i).testBit i = false) (m i j : Nat) :
    (shP m (pairsTo f n n)).any (fun p => decide (i = p.1 ∧ j = p.2) || decide (i = p.2 ∧ j = p.1)) = (decide (m ≤ i) && decide (i < m + n) && decide (m ≤ j) && (f (i - m)).testBit (j - m)) := by
  rw [Bool.eq_iff_iff, List.any_eq_true]
  simp only [Bool.or_eq_true, decide_eq_true_eq, Bool.and_eq_true]
  constructor
  · rintro ⟨p, hp1, hp2⟩
    unfold shP at hp1
    rw [List.mem_map] at hp1
    obtain ⟨e, he, rfl⟩ := hp1
    obtain ⟨q1, q2, q3, q4⟩ := pairsTo_mem he
    rcases hp2 with ⟨rfl, rfl⟩ | ⟨rfl, rfl⟩
    · refine ⟨⟨⟨by simp, by simp; omega⟩, by simp⟩, ?_⟩
      simpa using q4
    · refine ⟨⟨⟨by simp, by simp; omega⟩, by simp⟩, ?_⟩
      simpa using hs _ _ (by omega) q3 q4
  · rintro ⟨⟨⟨h1, h2⟩, h3⟩, h4⟩
    obtain ⟨a, rfl⟩ : ∃ a, i = m + a := ⟨i - m, by omega⟩
    obtain ⟨b, rfl⟩ : ∃ b, j = m + b := ⟨j - m, by omega⟩
    rw [Nat.add_sub_cancel_left, Nat.add_sub_cancel_left] at h4
    have ha : a < n := by omega
    have hb : b < n := by
      rcases Nat.lt_or_ge b n with h | h
      · exact h
      · rw [Nat.testBit_lt_two_pow (Nat.lt_of_lt_of_le (hp a) (Nat.pow_le_pow_right (by decide) h))] at h4; cases h4
    have hab : a ≠ b := fun e => by subst e; rw [hi0 a ha] at h4; cases h4
    rcases Nat.lt_or_gt_of_ne hab with c | c
    · refine ⟨(m + a, m + b), ?_, .inl ⟨rfl, rfl⟩⟩
      unfold shP
      rw [List.mem_map]
      exact ⟨(⟨a, by omega⟩, ⟨b, by omega⟩), pairs_hold (a := ⟨a, by omega⟩) (b := ⟨b, by omega⟩) c hb h4 ha, rfl⟩
    · refine ⟨(m + b, m + a), ?_, .inr ⟨rfl, rfl⟩⟩
      unfold shP
      rw [List.mem_map]
      exact ⟨(⟨b, by omega⟩, ⟨a, by omega⟩), pairs_hold (a := ⟨b, by omega⟩) (b := ⟨a, by omega⟩) c ha (hs a b ha hb h4) hb, rfl⟩

theorem shP_ne {f : Nat → Nat} {n m : Nat} : ∀ p ∈ shP m (pairsTo f n n), p.1 ≠ p.2 := by
  intro p hp
  unfold shP at hp
  rw [List.mem_map] at hp
  obtain ⟨e, he, rfl⟩ := hp
  obtain ⟨_, q2, _, _⟩ := pairsTo_mem he
  simp
  omega
theorem bes_same {xs ys : List Int} (hg : gIn xs = true) (hh : gIn ys = true) (h8 : xs.length + ys.length ≤ 8) {i : Nat} (hi : i < xs.length + ys.length) :
    besG xs.length ys.length (gfun xs) (gfun ys) i = besF xs.length (gfun xs) (gfun ys) i := by
  obtain ⟨_, x8, xok⟩ := gIn_parts hg
  obtain ⟨_, y8, yok⟩ := gIn_parts hh
  apply Nat.eq_of_testBit_eq
  intro j
  unfold besG
  rw [lnkP_bit i j _ _ shP_ne, lnkP_bit i j _ _ shP_ne, any_sh x8 (gfun_pow xok) (fun a b _ _ h => gIn_both hg h) (fun a ha => gIn_irr hg ⟨a, by omega⟩), any_sh y8 (gfun_pow yok) (fun a b _ _ h => gIn_both hh h) (fun a ha => gIn_irr hh ⟨a, by omega⟩)]
  unfold besF
  by_cases c : i < xs.length
  · have c2 : ¬ xs.length ≤ i := by omega
    simp [c, c2]
  · have c2 : xs.length ≤ i := by omega
    rw [if_neg c]
    have e : gfun ys (i - xs.length) * 2 ^ xs.length = gfun ys (i - xs.length) <<< xs.length := (Nat.shiftLeft_eq _ _).symm
    rw [e, Nat.testBit_shiftLeft]
    simp [c, c2, hi]

/-- Whether two lists are graphs that fit beside each other, and the list of both. -/
def besOk (xs ys : List Int) : Bool := gIn xs && gIn ys && decide (xs.length + ys.length ≤ 8)
def besOf (xs ys : List Int) : List Int := if besOk xs ys = true then glist (xs.length + ys.length) (besF xs.length (gfun xs) (gfun ys)) else []
theorem besOf_len (xs ys : List Int) : (besOf xs ys).length ≤ 1048576 := by
  unfold besOf
  split
  · rename_i h
    unfold besOk at h
    simp only [Bool.and_eq_true, decide_eq_true_eq] at h
    rw [glist_len]; omega
  · simp
theorem bes_list {xs ys : List Int} (h : besOk xs ys = true) : besOf xs ys = glist (xs.length + ys.length) (besG xs.length ys.length (gfun xs) (gfun ys)) := by
  unfold besOf
  rw [if_pos h]
  unfold besOk at h
  simp only [Bool.and_eq_true, decide_eq_true_eq] at h
  exact glist_congr fun i hi => (bes_same h.1.1 h.1.2 h.2 hi).symm
theorem bes_start {xs : List Int} (hg : gIn xs = true) (g : Nat → Nat) : vals (glist xs.length (besF xs.length (gfun xs) g)) = vals xs := by
  obtain ⟨_, x8, xok⟩ := gIn_parts hg
  have e : glist xs.length (besF xs.length (gfun xs) g) = xs := by
    apply List.ext_getElem
    · rw [glist_len]
    · intro i h1 h2
      rw [glist_at, (row_value x8 xok h2).1]
      unfold besF
      rw [if_pos h2]
  rw [e]

end Go.Proofs.YtbjpokjllkblaaaDoor
