/-
  PARTS OF TWO GRAPHS BESIDE EACH OTHER; plain functions, no walk.
-/
import Derived.Test.YtbjpokjllkblaaaDoorBesGfun
import Derived.Test.YtbjpokjllkblaaaDoorGraphParts
import Derived.Test.YtbjpokjllkblaaaDoorNumEdges
namespace Go.Proofs.YtbjpokjllkblaaaDoor
set_option linter.unusedVariables false
set_option linter.unusedSimpArgs false
open Go.RowKit
set_option maxRecDepth 100000

/-- A graph that is two ones beside each other. -/
structure Two (m n : Nat) (f g F : Nat → Nat) : Prop where
  fl : ∀ i, f i < 2 ^ m
  gl : ∀ i, g i < 2 ^ n
  Fl : ∀ i, F i < 2 ^ (m + n)
  low : ∀ i, i < m → F i = f i
  up : ∀ i j, i < n → (F (m + i)).testBit j = (decide (m ≤ j) && (g i).testBit (j - m))
  sym : SymF g
  m8 : m + n ≤ 8

theorem two_low {m n : Nat} {f g F : Nat → Nat} (h : Two m n f g F) {v : Nat} (hv : v < m) : reach F (m + n) v = reach f m v := by
  have h8 := h.m8
  have hR := reach_is h.fl (show m ≤ 8 by omega) hv
  have hlt := reach_lt h.fl (show m ≤ 8 by omega) hv
  refine IsReach.unique (f := F) (v := v) (reach_is h.Fl h8 (by omega)) ⟨hR.1, hR.2.1, closed_of fun i hi j hj => ?_, fun t ht htv htc => ?_⟩
  · have him := bit_lt_of_lt_pow hlt hi
    rw [h.low i him] at hj
    exact closed_at hR.2.2.1 hR.1 hi j hj
  · have h1 := hR.2.2.2 (t &&& (2 ^ m - 1)) (Nat.lt_of_le_of_lt Nat.and_le_left ht) (by rw [Nat.testBit_and, htv, ones_bit]; simpa using hv) (closed_of fun i hi j hj => by
      rw [Nat.testBit_and, Bool.and_eq_true, ones_bit, decide_eq_true_eq] at hi
      rw [Nat.testBit_and, ones_bit]
      have hjm := bit_lt_of_lt_pow (h.fl i) hj
      rw [closed_at htc ht hi.1 j (by rw [h.low i hi.2]; exact hj)]
      simpa using hjm)
    exact fun i hi => by
      have := h1 i hi
      rw [Nat.testBit_and, Bool.and_eq_true] at this
      exact this.1
theorem two_up {m n : Nat} {f g F : Nat → Nat} (h : Two m n f g F) {v : Nat} (hv : v < n) : reach F (m + n) (m + v) = 2 ^ m * reach g n v := by
  have h8 := h.m8
  have hR := reach_is h.gl (show n ≤ 8 by omega) hv
  have hlt := reach_lt h.gl (show n ≤ 8 by omega) hv
  have hs : 2 ^ m * reach g n v < 2 ^ (m + n) := by rw [Nat.pow_add]; exact Nat.mul_lt_mul_of_pos_left hlt (Nat.two_pow_pos m)
  refine IsReach.unique (f := F) (v := m + v) (reach_is h.Fl h8 (by omega)) ⟨Nat.lt_of_lt_of_le hs (pow_le_256 h8), by rw [bit_sh, Nat.add_sub_cancel_left, hR.2.1]; simp, closed_of fun i hi j hj => ?_, fun t ht htv htc => ?_⟩
  · rw [bit_sh, Bool.and_eq_true, decide_eq_true_eq] at hi
    obtain ⟨a, rfl⟩ : ∃ a, i = m + a := ⟨i - m, by omega⟩
    rw [Nat.add_sub_cancel_left] at hi
    rw [h.up a j (bit_lt_of_lt_pow hlt hi.2), Bool.and_eq_true] at hj
    rw [bit_sh, hj.1, closed_at hR.2.2.1 hR.1 hi.2 _ hj.2]; rfl
  · have h1 := hR.2.2.2 (t / 2 ^ m) (Nat.lt_of_le_of_lt (Nat.div_le_self _ _) ht) (by rw [Nat.testBit_div_two_pow, Nat.add_comm]; exact htv) (closed_of fun i hi j hj => by
      rw [Nat.testBit_div_two_pow] at hi ⊢
      have hin := bit_lt_of_lt_pow (h.gl j) (h.sym i j hj)
      refine closed_at htc ht hi (j + m) ?_
      rw [Nat.add_comm i m, h.up i (j + m) hin, Nat.add_sub_cancel, hj]; simp)
    exact fun i hi => by
      rw [bit_sh, Bool.and_eq_true, decide_eq_true_eq] at hi
      have := h1 _ hi.2
      rw [Nat.testBit_div_two_pow, Nat.sub_add_cancel hi.1] at this
      exact this

theorem two_parts_low {m n : Nat} {f g F : Nat → Nat} (h : Two m n f g F) : ∀ k, k ≤ m → partsTo F (m + n) k = partsTo f m k
  | 0, _ => rfl
  | k + 1, hk => by
    have ih := two_parts_low h k (by omega)
    cases hb : (partsTo f m k).2.testBit k with
    | true => rw [partsTo_old hb, partsTo_old (by rw [ih]; exact hb), ih]
    | false => rw [partsTo_new hb, partsTo_new (by rw [ih]; exact hb), ih, two_low h (by omega)]
theorem sh_or (m a b : Nat) : 2 ^ m * (a ||| b) = 2 ^ m * a ||| 2 ^ m * b := by
  apply Nat.eq_of_testBit_eq
  intro j
  rw [Nat.testBit_or, bit_sh, bit_sh, bit_sh, Nat.testBit_or]
  cases decide (m ≤ j) <;> simp
theorem two_parts_up {m n : Nat} {f g F : Nat → Nat} (h : Two m n f g F) : ∀ k, k ≤ n → partsTo F (m + n) (m + k) = ((partsTo f m m).1 ++ (partsTo g n k).1.map (2 ^ m * ·), (partsTo f m m).2 ||| 2 ^ m * (partsTo g n k).2)
  | 0, _ => by rw [Nat.add_zero, two_parts_low h m (Nat.le_refl _)]; simp [partsTo]
  | k + 1, hk => by
    have ih := two_parts_up h k (by omega)
    have h8 := h.m8
    have hlt := (parts_facts h.fl (show m ≤ 8 by omega) m (Nat.le_refl _)).1
    have hbit : (partsTo F (m + n) (m + k)).2.testBit (m + k) = (partsTo g n k).2.testBit k := by
      rw [ih]
      show ((partsTo f m m).2 ||| 2 ^ m * (partsTo g n k).2).testBit (m + k) = _
      rw [Nat.testBit_or, bit_sh, Nat.add_sub_cancel_left, Nat.testBit_lt_two_pow (Nat.lt_of_lt_of_le hlt (Nat.pow_le_pow_right (by decide) (show m ≤ m + k by omega)))]
      simp
    cases hb : (partsTo g n k).2.testBit k with
    | true => rw [partsTo_old hb, ← Nat.add_assoc, partsTo_old (by rw [hbit]; exact hb), ih]
    | false =>
      rw [partsTo_new hb, ← Nat.add_assoc, partsTo_new (by rw [hbit]; exact hb), ih, two_up h (by omega)]
      simp only [List.map_append, List.map_cons, List.map_nil, List.append_assoc, sh_or, Nat.or_assoc]

theorem bes_two {xs ys : List Int} (hok : besOk xs ys = true) : Two xs.length ys.length (gfun xs) (gfun ys) (gfun (besOf xs ys)) := by
  have hok2 := hok
  unfold besOk at hok2
  simp only [Bool.and_eq_true, decide_eq_true_eq] at hok2
  obtain ⟨⟨hg, hh⟩, h8⟩ := hok2
  obtain ⟨hgz, _, hzl⟩ := bes_in hok
  obtain ⟨_, x8, xok⟩ := gIn_parts hg
  obtain ⟨_, y8, yok⟩ := gIn_parts hh
  obtain ⟨_, z8, zok⟩ := gIn_parts hgz
  have hL : besOf xs ys = glist (xs.length + ys.length) (besF xs.length (gfun xs) (gfun ys)) := by unfold besOf; rw [if_pos hok]
  refine ⟨gfun_pow xok, gfun_pow yok, by have := gfun_pow zok; rwa [hzl] at this, fun i hi => ?_, fun i j hi => ?_, fun i j hij => gIn_both hh hij, h8⟩
  · rw [hL, gfun_glist _ (by omega)]
    unfold besF
    rw [if_pos hi]
  · rw [hL, gfun_glist _ (by omega)]
    unfold besF
    rw [if_neg (by omega), Nat.add_sub_cancel_left, Nat.mul_comm, bit_sh]
theorem bes_parts {xs ys : List Int} (hok : besOk xs ys = true) : (partsOf (besOf xs ys)).length = (partsOf xs).length + (partsOf ys).length := by
  have hok2 := hok
  unfold besOk at hok2
  simp only [Bool.and_eq_true, decide_eq_true_eq] at hok2
  obtain ⟨⟨hg, hh⟩, h8⟩ := hok2
  obtain ⟨hgz, _, hzl⟩ := bes_in hok
  unfold partsOf
  rw [if_pos hg, if_pos hh, if_pos hgz, hzl, two_parts_up (bes_two hok) ys.length (Nat.le_refl _)]
  simp
theorem bes_edges {xs ys : List Int} (hok : besOk xs ys = true) : (edgesL (besOf xs ys)).length = (edgesL xs).length + (edgesL ys).length := by
  have hok2 := hok
  unfold besOk at hok2
  simp only [Bool.and_eq_true, decide_eq_true_eq] at hok2
  obtain ⟨⟨hg, hh⟩, h8⟩ := hok2
  obtain ⟨hgz, _, hzl⟩ := bes_in hok
  have e := nums_edges hgz
  rw [hzl, bes_gfun hok] at e
  rw [← e, ← nums_edges hg, ← nums_edges hh]
  have sx : 2 ^ xs.length - 1 < 256 := all256 (by omega)
  have sy : 2 ^ ys.length - 1 < 256 := all256 (by omega)
  show 0 + nums (gfun xs) _ 0 * nums (gfun ys) _ (1 - 0) + nums (gfun xs) _ 1 * nums (gfun ys) _ (1 - 1) = _
  rw [nums_none' sx, Nat.sub_self, nums_none' sy, Nat.sub_zero]
  omega

end Go.Proofs.YtbjpokjllkblaaaDoor
