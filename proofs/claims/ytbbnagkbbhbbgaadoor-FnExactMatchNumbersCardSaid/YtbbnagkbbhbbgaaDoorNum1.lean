/-
  Num1: Poly Nums Ties Match Sym.
-/
import Derived.Test.YtbbnagkbbhbbgaaDoorCore1
import Derived.Test.YtbbnagkbbhbbgaaDoorPow
/-
  POLYNOMIALS AS LISTS: what is trimmed, added, multiplied, derived; plain functions, no walk.
-/
namespace Go.Proofs.YtbbnagkbbhbbgaaDoor
set_option linter.unusedVariables false
set_option linter.unusedSimpArgs false
open Go.RowKit

/-- The number for a power. -/
def co (p : List Int) (i : Nat) : Int := p.getD i 0
theorem co_at {p : List Int} {i : Nat} (h : i < p.length) : co p i = p[i] := by simp [co, h]
theorem co_out {p : List Int} {i : Nat} (h : p.length ≤ i) : co p i = 0 := by simp [co, h]

/-- Numbers from 0 on. -/
def tab (n : Nat) (f : Nat → Int) : List Int := (List.range n).map f
theorem tab_len (n : Nat) (f : Nat → Int) : (tab n f).length = n := by simp [tab]
theorem tab_at (n : Nat) (f : Nat → Int) (i : Nat) (h : i < (tab n f).length) : (tab n f)[i] = f i := by simp [tab]
theorem tab_zero (f : Nat → Int) : tab 0 f = [] := rfl
theorem tab_succ (n : Nat) (f : Nat → Int) : tab (n + 1) f = tab n f ++ [f n] := by simp [tab, List.range_succ]
theorem tab_congr {n : Nat} {f g : Nat → Int} (h : ∀ i, i < n → f i = g i) : tab n f = tab n g := by
  unfold tab; apply List.map_congr_left; intro i hi; exact h i (List.mem_range.1 hi)
theorem co_tab (n : Nat) (f : Nat → Int) (i : Nat) : co (tab n f) i = if i < n then f i else 0 := by
  by_cases h : i < n
  · rw [if_pos h, co_at (by rw [tab_len]; exact h), tab_at]
  · rw [if_neg h, co_out (by rw [tab_len]; omega)]
theorem tab_co (p : List Int) : tab p.length (co p) = p := by
  apply List.ext_getElem
  · rw [tab_len]
  · intro i h1 h2
    rw [tab_at, co_at h2]
theorem tab_set (n : Nat) (f : Nat → Int) (k : Nat) (x : Int) : (vals (tab n f)).set k (Value.int .i64 x) = vals (tab n (fun i => if i = k then x else f i)) := by
  apply List.ext_getElem?
  intro i
  rw [List.getElem?_set]
  simp only [vals, List.length_map, tab_len, List.getElem?_map]
  by_cases e : k = i
  · subst e
    by_cases h : k < n
    · rw [if_pos rfl, if_pos h, List.getElem?_eq_getElem (by rw [tab_len]; exact h), tab_at]; simp
    · rw [if_pos rfl, if_neg h, List.getElem?_eq_none (by rw [tab_len]; omega)]; rfl
  · rw [if_neg e]
    by_cases h : i < n
    · rw [List.getElem?_eq_getElem (by rw [tab_len]; exact h), List.getElem?_eq_getElem (by rw [tab_len]; exact h), tab_at, tab_at, if_neg (fun q => e q.symm)]
    · rw [List.getElem?_eq_none (by rw [tab_len]; omega), List.getElem?_eq_none (by rw [tab_len]; omega)]
theorem tab_const (n : Nat) : vals (tab n (fun _ => 0)) = List.replicate n (Value.int .i64 0) := by
  unfold vals tab
  rw [List.map_map]
  apply List.ext_getElem
  · simp
  · intro i h1 h2; simp
theorem tab_cell (n : Nat) (f : Nat → Int) (k : Nat) (h : k < n) : (vals (tab n f))[k]? = some (.int .i64 (f k)) := by
  rw [List.getElem?_eq_getElem (by simp [tab_len]; exact h)]
  simp [vals, tab_at]

/-- Without the zeros at the end. -/
def trim : List Int → List Int
  | [] => []
  | x :: p => if trim p = [] ∧ x = 0 then [] else x :: trim p

theorem trim_len (p : List Int) : (trim p).length ≤ p.length := by
  induction p with
  | nil => simp [trim]
  | cons x p ih => unfold trim; split <;> simp <;> omega
theorem trim_snoc0 (p : List Int) : trim (p ++ [0]) = trim p := by
  induction p with
  | nil => simp [trim]
  | cons x p ih => simp [trim, ih]
theorem trim_snoc (p : List Int) (x : Int) (h : x ≠ 0) : trim (p ++ [x]) = p ++ [x] := by
  induction p with
  | nil => simp [trim, h]
  | cons y p ih => rw [List.cons_append, trim, ih]; simp
theorem trim_take0 {p : List Int} {k : Nat} (hk : k < p.length) (h : p[k] = 0) : trim (p.take (k + 1)) = trim (p.take k) := by
  rw [List.take_succ_eq_append_getElem hk, h, trim_snoc0]
theorem trim_take {p : List Int} {k : Nat} (hk : k < p.length) (h : p[k] ≠ 0) : trim (p.take (k + 1)) = p.take (k + 1) := by
  rw [List.take_succ_eq_append_getElem hk, trim_snoc _ _ h]
/-- The list without its zeros at the end is its beginning. -/
theorem trim_prefix (p : List Int) : trim p = p.take (trim p).length := by
  induction p with
  | nil => simp [trim]
  | cons x p ih =>
    by_cases h : trim p = [] ∧ x = 0
    · have e : trim (x :: p) = [] := by rw [trim, if_pos h]
      rw [e]; simp
    · have e : trim (x :: p) = x :: trim p := by rw [trim, if_neg h]
      rw [e, List.length_cons, List.take_succ_cons, ← ih]
theorem co_trim (p : List Int) (i : Nat) : co (trim p) i = co p i := by
  induction p generalizing i with
  | nil => simp [trim]
  | cons x p ih =>
    by_cases h : trim p = [] ∧ x = 0
    · have e : trim (x :: p) = [] := by rw [trim, if_pos h]
      rw [e]
      cases i with
      | zero => simp [co, h.2]
      | succ i =>
        have := ih i
        rw [h.1] at this
        simpa [co] using this
    · have e : trim (x :: p) = x :: trim p := by rw [trim, if_neg h]
      rw [e]
      cases i with
      | zero => simp [co]
      | succ i => have := ih i; simpa [co] using this
theorem trim_last (p : List Int) : (trim p).getLast? ≠ some 0 := by
  induction p with
  | nil => simp [trim]
  | cons x p ih =>
    by_cases h : trim p = [] ∧ x = 0
    · have e : trim (x :: p) = [] := by rw [trim, if_pos h]
      rw [e]; simp
    · have e : trim (x :: p) = x :: trim p := by rw [trim, if_neg h]
      rw [e]
      cases hq : trim p with
      | nil => 
        have : x ≠ 0 := fun hx => h ⟨hq, hx⟩
        simpa using this
      | cons y q =>
        rw [hq] at ih
        rw [List.getLast?_cons_cons]; exact ih
theorem trim_of_last {p : List Int} (h : p.getLast? ≠ some 0) : trim p = p := by
  rcases List.eq_nil_or_concat p with rfl | ⟨q, x, rfl⟩
  · rfl
  · rw [List.concat_eq_append] at h ⊢
    rw [List.getLast?_append] at h
    exact trim_snoc q x (by simpa using h)
/-- Two lists with the same numbers are the same without the zeros. -/
theorem trim_ext {p q : List Int} (h : ∀ i, co p i = co q i) : trim p = trim q := by
  induction p generalizing q with
  | nil =>
    induction q with
    | nil => rfl
    | cons y q ih =>
      have hy : y = 0 := by have := h 0; simpa [co] using this.symm
      have := ih (fun i => by have := h (i + 1); simpa [co] using this)
      rw [trim, trim, if_pos ⟨this.symm, hy⟩]
  | cons x p ih =>
    cases q with
    | nil =>
      have hx : x = 0 := by have := h 0; simpa [co] using this
      have := ih (q := []) (fun i => by have := h (i + 1); simpa [co] using this)
      rw [trim, trim, if_pos ⟨this, hx⟩]
    | cons y q =>
      have hxy : x = y := by have := h 0; simpa [co] using this
      have := ih (q := q) (fun i => by have := h (i + 1); simpa [co] using this)
      rw [trim, trim, this, hxy]
theorem trim_trim (p : List Int) : trim (trim p) = trim p := trim_of_last (trim_last p)

/-- All numbers are at most so great. -/
def within (lim : Int) (p : List Int) : Bool := p.all fun x => decide (-lim ≤ x ∧ x ≤ lim)
theorem within_at {lim : Int} {p : List Int} (h : within lim p = true) {i : Nat} (hi : i < p.length) : -lim ≤ p[i] ∧ p[i] ≤ lim := by
  have := List.all_eq_true.1 h p[i] (List.getElem_mem hi)
  simpa using this
theorem within_co {lim : Int} {p : List Int} (h : within lim p = true) (h0 : 0 ≤ lim) (i : Nat) : -lim ≤ co p i ∧ co p i ≤ lim := by
  by_cases hi : i < p.length
  · rw [co_at hi]; exact within_at h hi
  · rw [co_out (by omega)]; omega
theorem within_of {lim : Int} {p : List Int} (h : ∀ (i : Nat) (hi : i < p.length), -lim ≤ p[i] ∧ p[i] ≤ lim) : within lim p = true := by
  refine List.all_eq_true.2 fun x hx => ?_
  obtain ⟨i, hi, rfl⟩ := List.mem_iff_getElem.1 hx
  simpa using h i hi
theorem within_take_succ {lim : Int} {p : List Int} {k : Nat} (hk : k < p.length) : within lim (p.take (k + 1)) = (within lim (p.take k) && decide (-lim ≤ p[k] ∧ p[k] ≤ lim)) := by
  unfold within
  rw [List.take_succ_eq_append_getElem hk, List.all_append, List.all_cons, List.all_nil, Bool.and_true]
theorem within_no {lim : Int} {p : List Int} {k : Nat} (hk : k < p.length) (h : ¬ (-lim ≤ p[k] ∧ p[k] ≤ lim)) : within lim p = false := by
  cases hw : within lim p with
  | false => rfl
  | true => exact absurd (within_at hw hk) h
theorem within_mono {a b : Int} {p : List Int} (h : within a p = true) (hab : a ≤ b) : within b p = true := by
  refine within_of fun i hi => ?_
  have := within_at h hi
  omega

/-- The last number is not 0. -/
def ends (p : List Int) : Bool := decide (p = [] ∨ p.getD (p.length - 1) 0 ≠ 0)
theorem ends_iff {p : List Int} : ends p = true ↔ p.getLast? ≠ some 0 := by
  unfold ends
  rcases List.eq_nil_or_concat p with rfl | ⟨q, x, rfl⟩
  · simp
  · rw [List.concat_eq_append]
    simp [List.getD]
theorem ends_trim (p : List Int) : ends (trim p) = true := ends_iff.2 (trim_last p)

/-- The list is a polynomial. -/
def okPoly (p : List Int) : Bool := decide (p.length ≤ 21) && within 1000000000 p && ends p
theorem okPoly_iff {p : List Int} : okPoly p = true ↔ p.length ≤ 21 ∧ within 1000000000 p = true ∧ p.getLast? ≠ some 0 := by
  unfold okPoly
  rw [Bool.and_eq_true, Bool.and_eq_true, ends_iff]
  simp [and_assoc]
theorem okPoly_trim {p : List Int} (h : okPoly p = true) : trim p = p := trim_of_last (okPoly_iff.1 h).2.2

/-- What is told of a list. -/
def toldList (p : List Int) : List Int := if okPoly p = true then p else []

/-- The sum of two lists, as long as the longer one. -/
def addL (p q : List Int) : List Int := tab (max p.length q.length) (fun k => co p k + co q k)
theorem addL_len (p q : List Int) : (addL p q).length = max p.length q.length := tab_len _ _
theorem co_addL (p q : List Int) (i : Nat) : co (addL p q) i = co p i + co q i := by
  unfold addL
  rw [co_tab]
  split
  · rfl
  · rename_i h; rw [co_out (by omega), co_out (by omega)]; rfl

/-- A sum of numbers told by their index. -/
def sumTo (n : Nat) (f : Nat → Int) : Int := ((List.range n).map f).sum
theorem sumTo_zero (f : Nat → Int) : sumTo 0 f = 0 := rfl
theorem sumTo_succ (n : Nat) (f : Nat → Int) : sumTo (n + 1) f = sumTo n f + f n := by
  simp [sumTo, List.range_succ, List.sum_append]
theorem sumTo_congr {n : Nat} {f g : Nat → Int} (h : ∀ i, i < n → f i = g i) : sumTo n f = sumTo n g := by
  induction n with
  | zero => rfl
  | succ n ih => rw [sumTo_succ, sumTo_succ, ih (fun i hi => h i (by omega)), h n (by omega)]
theorem sumTo_bound {n : Nat} {f : Nat → Int} {b : Int} (h : ∀ i, i < n → -b ≤ f i ∧ f i ≤ b) : -(n * b) ≤ sumTo n f ∧ sumTo n f ≤ n * b := by
  induction n with
  | zero => simp [sumTo_zero]
  | succ n ih =>
    have := ih (fun i hi => h i (by omega))
    have := h n (by omega)
    rw [sumTo_succ]
    have e : ((n + 1 : Nat) : Int) * b = n * b + b := by rw [Int.natCast_add, Int.add_mul]; simp
    omega
theorem sumTo_zeros {n : Nat} {f : Nat → Int} (h : ∀ i, i < n → f i = 0) : sumTo n f = 0 := by
  induction n with
  | zero => rfl
  | succ n ih => rw [sumTo_succ, ih (fun i hi => h i (by omega)), h n (by omega)]; rfl

/-- A number of the product, of the first a numbers of the first list. -/
def convTo (p q : List Int) (a m : Nat) : Int := sumTo a (fun i => co p i * if i ≤ m then co q (m - i) else 0)
/-- .. and of the first k numbers of the second one for the number a of the first one. -/
def convAt (p q : List Int) (a k m : Nat) : Int := convTo p q a m + if a ≤ m ∧ m - a < k then co p a * co q (m - a) else 0
theorem convTo_zero (p q : List Int) (m : Nat) : convTo p q 0 m = 0 := rfl
theorem convTo_succ (p q : List Int) (a m : Nat) : convTo p q (a + 1) m = convTo p q a m + co p a * if a ≤ m then co q (m - a) else 0 := sumTo_succ _ _
theorem convAt_zero (p q : List Int) (a m : Nat) : convAt p q a 0 m = convTo p q a m := by simp [convAt]
theorem convAt_end (p q : List Int) (a m : Nat) : convAt p q a q.length m = convTo p q (a + 1) m := by
  rw [convTo_succ]
  unfold convAt
  by_cases h : a ≤ m
  · by_cases h2 : m - a < q.length
    · rw [if_pos ⟨h, h2⟩, if_pos h]
    · rw [if_neg (by omega), if_pos h, co_out (p := q) (by omega)]; simp
  · rw [if_neg (by omega), if_neg h]; simp
theorem convAt_succ (p q : List Int) (a k m : Nat) : convAt p q a (k + 1) m = if m = a + k then convAt p q a k m + co p a * co q k else convAt p q a k m := by
  unfold convAt
  by_cases h : m = a + k
  · subst h
    have e : a + k - a = k := by omega
    rw [e]; simp
  · rw [if_neg h]
    by_cases h2 : a ≤ m ∧ m - a < k
    · rw [if_pos h2, if_pos (by omega)]
    · rw [if_neg h2, if_neg (by omega)]
/-- The product of two lists. -/
def mulL (p q : List Int) : List Int := if p = [] ∨ q = [] then [] else tab (p.length + q.length - 1) (convTo p q p.length)
theorem co_mulL (p q : List Int) (m : Nat) : co (mulL p q) m = convTo p q p.length m := by
  unfold mulL
  split
  · rename_i h
    rw [co_out (by simp)]
    rcases h with rfl | rfl
    · rfl
    · exact (sumTo_zeros fun i _ => by split <;> simp [co]).symm
  · rename_i h
    rw [co_tab]
    split
    · rfl
    · rename_i h2
      refine (sumTo_zeros fun i hi => ?_).symm
      split
      · rw [co_out (p := q) (by omega)]; simp
      · simp
theorem mulL_len (p q : List Int) : (mulL p q).length ≤ p.length + q.length := by
  unfold mulL
  split
  · simp
  · rw [tab_len]; omega

theorem mul_bound {a b x y : Int} (ha : -x ≤ a ∧ a ≤ x) (hb : -y ≤ b ∧ b ≤ y) : -(x * y) ≤ a * b ∧ a * b ≤ x * y := by
  have hx : a.natAbs ≤ x.natAbs := by omega
  have hy : b.natAbs ≤ y.natAbs := by omega
  have h := Nat.mul_le_mul hx hy
  have e1 : (a * b).natAbs = a.natAbs * b.natAbs := Int.natAbs_mul a b
  have e2 : (x * y).natAbs = x.natAbs * y.natAbs := Int.natAbs_mul x y
  have hx0 : 0 ≤ x := by omega
  have hy0 : 0 ≤ y := by omega
  have h0 : 0 ≤ x * y := Int.mul_nonneg hx0 hy0
  omega
theorem convTo_bound {p q : List Int} {x y : Int} (hx : 0 ≤ x) (hy : 0 ≤ y) (hp : within x p = true) (hq : within y q = true) (a m : Nat) : -(a * (x * y)) ≤ convTo p q a m ∧ convTo p q a m ≤ a * (x * y) := by
  refine sumTo_bound fun i _ => ?_
  refine mul_bound (within_co hp hx i) ?_
  split
  · exact within_co hq hy _
  · omega

/-- The derivative, number by number. -/
def derL (p : List Int) : List Int := tab (p.length - 1) (fun k => ((k + 1 : Nat) : Int) * co p (k + 1))

/-- The value of the numbers from an index on. -/
def horner (x : Int) : List Int → Int
  | [] => 0
  | c :: p => horner x p * x + c
theorem horner_bound {x : Int} (hx : -20 ≤ x ∧ x ≤ 20) : ∀ {p : List Int}, within 100000 p = true → -(100000 * (21 : Int) ^ p.length) ≤ horner x p ∧ horner x p ≤ 100000 * (21 : Int) ^ p.length
  | [], _ => by simp [horner]
  | c :: p, h => by
    have hw : within 100000 p = true := within_of fun i hi => by have := within_at h (i := i + 1) (by simp; omega); simpa using this
    have hc := within_at h (i := 0) (by simp)
    have ih := horner_bound hx hw
    have hm := mul_bound ih (y := 20) hx
    simp only [List.getElem_cons_zero] at hc
    have hpos : 1 ≤ (21 : Int) ^ p.length := Int.pow_pos (by decide)
    simp only [horner, List.length_cons, Int.pow_succ]
    generalize (21 : Int) ^ p.length = z at *
    omega
theorem horner_drop (x : Int) (p : List Int) (k : Nat) (h : k < p.length) : horner x (p.drop k) = horner x (p.drop (k + 1)) * x + p[k] := by
  rw [List.drop_eq_getElem_cons h, horner]

theorem vals_snoc (xs : List Int) (x : Int) : vals (xs ++ [x]) = vals xs ++ [Value.int .i64 x] := by simp [vals]

end Go.Proofs.YtbbnagkbbhbbgaaDoor

/-
  MATCHING NUMBERS OF A SET OF NODES: plain functions, no walk.
-/
namespace Go.Proofs.YtbbnagkbbhbbgaaDoor
set_option linter.unusedVariables false
set_option linter.unusedSimpArgs false
open Go.RowKit

/-- A set without a node. -/
def wo (s v : Nat) : Nat := s &&& (255 - 2 ^ v)
theorem wo_le (s v : Nat) : wo s v ≤ s := Nat.and_le_left
theorem wo_lt_all : ∀ (s : Fin 256) (v : Fin 8), s.val.testBit v.val = true → wo s.val v.val < s.val := by decide +kernel
theorem wo_lt {s v : Nat} (hs : s < 256) (hv : v < 8) (h : s.testBit v = true) : wo s v < s := wo_lt_all ⟨s, hs⟩ ⟨v, hv⟩ h
theorem size_wo_all : ∀ (s : Fin 256) (v : Fin 8), s.val.testBit v.val = true → (bitsOf (wo s.val v.val)).length + 1 = (bitsOf s.val).length := by decide +kernel
theorem size_wo {s v : Nat} (hs : s < 256) (hv : v < 8) (h : s.testBit v = true) : (bitsOf (wo s v)).length + 1 = (bitsOf s).length := size_wo_all ⟨s, hs⟩ ⟨v, hv⟩ h
theorem low_bit_all : ∀ m : Fin 256, m.val ≠ 0 → m.val.testBit (low m.val).val = true := by decide +kernel
theorem low_bit {m : Nat} (hm : m < 256) (h0 : m ≠ 0) : m.testBit (low m).val = true := low_bit_all ⟨m, hm⟩ h0
theorem bitsOf_len (m : Nat) : (bitsOf m).length ≤ 8 := by
  have := List.length_filter_le (fun j : Fin 8 => m.testBit j.val) (List.finRange 8)
  simpa [bitsOf] using this
theorem and_bit {a b : Nat} {x : Fin 8} (h : x ∈ bitsOf (a &&& b)) : a.testBit x.val = true ∧ b.testBit x.val = true := by
  have := mem_bitsOf.1 h
  rw [Nat.testBit_and, Bool.and_eq_true] at this
  exact this

/-- What is left behind the lowest node. -/
def rst (s : Nat) : Nat := wo s (low s).val
/-- The nodes to which the lowest one may be linked. -/
def tieOf (f : Nat → Nat) (s : Nat) : Nat := f (low s).val &&& rst s
theorem rst_lt {s : Nat} (hs : s < 256) (h0 : s ≠ 0) : rst s < s := wo_lt hs (low s).isLt (low_bit hs h0)
theorem size_rst {s : Nat} (hs : s < 256) (h0 : s ≠ 0) : (bitsOf (rst s)).length + 1 = (bitsOf s).length := size_wo hs (low s).isLt (low_bit hs h0)

/-- Matching numbers, with fuel. -/
def nmF (f : Nat → Nat) : Nat → Nat → Nat → Nat
  | 0, _, k => if k = 0 then 1 else 0
  | d + 1, s, k => if s = 0 then (if k = 0 then 1 else 0) else nmF f d (rst s) k + if k = 0 then 0 else ((bitsOf (tieOf f s)).map fun w => nmF f d (wo (rst s) w.val) (k - 1)).sum

theorem nmF_stable (f : Nat → Nat) : ∀ (d s : Nat), s < 256 → s ≤ d → ∀ e, s ≤ e → ∀ k, nmF f d s k = nmF f e s k
  | 0, s, _, hd, e, _, k => by
    have : s = 0 := by omega
    subst this
    cases e <;> simp [nmF]
  | d + 1, s, hs, hd, e, he, k => by
    by_cases h0 : s = 0
    · subst h0
      cases e <;> simp [nmF]
    · cases e with
      | zero => omega
      | succ e =>
        have hr := rst_lt hs h0
        simp only [nmF, if_neg h0]
        rw [nmF_stable f d (rst s) (by omega) (by omega) e (by omega) k]
        congr 1
        split
        · rfl
        · congr 1
          apply List.map_congr_left
          intro w _
          have := wo_le (rst s) w.val
          exact nmF_stable f d _ (by omega) (by omega) e (by omega) _

/-- The matching numbers of the nodes of a set. -/
def nums (f : Nat → Nat) (s k : Nat) : Nat := nmF f s s k
theorem nums_zero (f : Nat → Nat) (k : Nat) : nums f 0 k = if k = 0 then 1 else 0 := rfl
/-- What the first few links give. -/
def tied (f : Nat → Nat) (s : Nat) (l : List (Fin 8)) (k : Nat) : Nat := if k = 0 then 0 else (l.map fun w => nums f (wo (rst s) w.val) (k - 1)).sum
theorem nums_step {f : Nat → Nat} {s : Nat} (hs : s < 256) (h0 : s ≠ 0) (k : Nat) : nums f s k = nums f (rst s) k + tied f s (bitsOf (tieOf f s)) k := by
  obtain ⟨d, rfl⟩ : ∃ d, s = d + 1 := ⟨s - 1, by omega⟩
  have hr := rst_lt hs h0
  unfold nums tied
  simp only [nmF, if_neg h0]
  rw [nmF_stable f d (rst (d + 1)) (by omega) (by omega) (rst (d + 1)) (Nat.le_refl _) k]
  congr 1
  split
  · rfl
  · congr 1
    apply List.map_congr_left
    intro w _
    have := wo_le (rst (d + 1)) w.val
    exact nmF_stable f d _ (by omega) (by omega) _ (Nat.le_refl _) _
theorem tied_nil (f : Nat → Nat) (s k : Nat) : tied f s [] k = 0 := by unfold tied; split <;> simp
theorem tied_snoc (f : Nat → Nat) (s : Nat) (l : List (Fin 8)) (x : Fin 8) (k : Nat) : tied f s (l ++ [x]) k = tied f s l k + if k = 0 then 0 else nums f (wo (rst s) x.val) (k - 1) := by
  unfold tied
  split
  · simp
  · simp [List.sum_append]

theorem sum_zeros {α : Type} (l : List α) : (l.map fun _ => (0 : Nat)).sum = 0 := by
  induction l with
  | nil => rfl
  | cons x l ih => simp [ih]
/-- There are no matchings with more edges than fit. -/
theorem nums_far (f : Nat → Nat) : ∀ (n s : Nat), s < 256 → (bitsOf s).length = n → ∀ k, n < 2 * k → nums f s k = 0 := by
  intro n
  induction n using Nat.strongRecOn with
  | _ n ih =>
    intro s hs hn k hk
    by_cases h0 : s = 0
    · subst h0; rw [nums_zero, if_neg (by omega)]
    · have hr := rst_lt hs h0
      have hsz := size_rst hs h0
      rw [nums_step hs h0, ih _ (by omega) (rst s) (by omega) rfl k (by omega)]
      unfold tied
      rw [if_neg (by omega)]
      have : ∀ w ∈ bitsOf (tieOf f s), nums f (wo (rst s) w.val) (k - 1) = 0 := by
        intro w hw
        have hb := (and_bit hw).2
        have h1 := size_wo (s := rst s) (by omega) w.isLt hb
        have h2 := wo_le (rst s) w.val
        exact ih _ (by omega) _ (by omega) rfl (k - 1) (by omega)
      rw [List.map_congr_left this]
      rw [Nat.zero_add]; exact sum_zeros _
theorem nums_far' {f : Nat → Nat} {s k : Nat} (hs : s < 256) (hk : 5 ≤ k) : nums f s k = 0 := nums_far f _ s hs rfl k (by have := bitsOf_len s; omega)
/-- There is one with no edges. -/
theorem nums_none {f : Nat → Nat} : ∀ (n s : Nat), s ≤ n → s < 256 → nums f s 0 = 1 := by
  intro n
  induction n with
  | zero => intro s h _; have : s = 0 := by omega
            subst this; rfl
  | succ n ih =>
    intro s h hs
    by_cases h0 : s = 0
    · subst h0; rfl
    · have hr := rst_lt hs h0
      rw [nums_step hs h0, ih (rst s) (by omega) (by omega)]
      simp [tied]
theorem nums_none' {f : Nat → Nat} {s : Nat} (hs : s < 256) : nums f s 0 = 1 := nums_none s s (Nat.le_refl _) hs

theorem sum_map_le {α : Type} {l : List α} {g : α → Nat} {b : Nat} (h : ∀ x ∈ l, g x ≤ b) : (l.map g).sum ≤ l.length * b := by
  induction l with
  | nil => simp
  | cons x l ih =>
    have h1 := h x (by simp)
    have h2 := ih (fun y hy => h y (by simp [hy]))
    rw [List.map_cons, List.sum_cons, List.length_cons, Nat.add_mul]
    omega
/-- They are not great. -/
theorem nums_bound (f : Nat → Nat) : ∀ (n s : Nat), s < 256 → (bitsOf s).length ≤ n → ∀ k, nums f s k ≤ 9 ^ n := by
  intro n
  induction n with
  | zero =>
    intro s hs hn k
    by_cases h0 : s = 0
    · subst h0; rw [nums_zero]; split <;> simp
    · have := size_rst hs h0; omega
  | succ n ih =>
    intro s hs hn k
    by_cases h0 : s = 0
    · subst h0; rw [nums_zero]; split
      · exact Nat.one_le_pow _ _ (by decide)
      · simp
    · have hr := rst_lt hs h0
      have hsz := size_rst hs h0
      have h1 := ih (rst s) (by omega) (by omega) k
      rw [nums_step hs h0]
      have h2 : tied f s (bitsOf (tieOf f s)) k ≤ 8 * 9 ^ n := by
        unfold tied
        split
        · simp
        · refine Nat.le_trans (sum_map_le (b := 9 ^ n) ?_) (Nat.mul_le_mul_right _ (bitsOf_len _))
          intro w hw
          have hb := (and_bit hw).2
          have h3 := size_wo (s := rst s) (by omega) w.isLt hb
          have h4 := wo_le (rst s) w.val
          exact ih _ (by omega) (by omega) _
      rw [Nat.pow_succ]
      omega
theorem nums_small {f : Nat → Nat} {s : Nat} (hs : s < 256) (k : Nat) : nums f s k ≤ 43046721 := nums_bound f 8 s hs (bitsOf_len s) k
theorem tied_le (f : Nat → Nat) (s : Nat) (pre suf : List (Fin 8)) (k : Nat) : tied f s pre k ≤ tied f s (pre ++ suf) k := by
  unfold tied
  split
  · exact Nat.le_refl _
  · rw [List.map_append, List.sum_append]; omega

/-- A list whose numbers are not negative, and the last one greater. -/
def Pos (p : List Int) : Prop := 1 ≤ p.length ∧ (∀ i, 0 ≤ co p i) ∧ 0 < co p (p.length - 1)
theorem Pos.one : Pos [1] := ⟨by simp, fun i => by cases i <;> simp [co], by simp [co]⟩
theorem Pos.add {p q : List Int} (hp : Pos p) (hq : Pos q) : Pos (addL p q) := by
  obtain ⟨p1, p2, p3⟩ := hp
  obtain ⟨q1, q2, q3⟩ := hq
  refine ⟨by rw [addL_len]; omega, fun i => by rw [co_addL]; have := p2 i; have := q2 i; omega, ?_⟩
  rw [co_addL, addL_len]
  by_cases h : p.length ≤ q.length
  · have e : max p.length q.length = q.length := by omega
    rw [e]
    have := p2 (q.length - 1)
    omega
  · have e : max p.length q.length = p.length := by omega
    rw [e]
    have := q2 (p.length - 1)
    omega
theorem Pos.cons {p : List Int} (hp : Pos p) : Pos (0 :: p) := by
  obtain ⟨p1, p2, p3⟩ := hp
  refine ⟨by simp, fun i => ?_, ?_⟩
  · cases i with
    | zero => simp [co]
    | succ i => have := p2 i; simpa [co] using this
  · have e : (0 :: p).length - 1 = (p.length - 1) + 1 := by simp; omega
    rw [e]
    simpa [co] using p3
theorem Pos.trim {p : List Int} (hp : Pos p) : trim p = p := by
  refine trim_of_last (ends_iff.1 ?_)
  unfold ends
  have h := hp.2.2
  unfold co at h
  simp only [decide_eq_true_eq]
  exact .inr (by omega)
/-- The matching numbers as a list. -/
def numL (f : Nat → Nat) (s : Nat) : List Int := Go.Proofs.YtbbnagkbbhbbgaaDoor.trim (tab 5 fun k => (nums f s k : Int))
theorem co_numL {f : Nat → Nat} {s : Nat} (hs : s < 256) (k : Nat) : co (numL f s) k = (nums f s k : Int) := by
  unfold numL
  rw [co_trim, co_tab]
  split
  · rfl
  · rw [nums_far' hs (by omega)]; rfl
theorem Pos.numL {p : List Int} {f : Nat → Nat} {s : Nat} (hp : Pos p) (hs : s < 256) (h : ∀ k, co p k = (nums f s k : Int)) : p = numL f s := by
  rw [← hp.trim]
  exact trim_ext fun i => by rw [h, co_tab]; split; rfl; rw [nums_far' hs (by omega)]; rfl
theorem numL_len (f : Nat → Nat) (s : Nat) : (numL f s).length ≤ 5 := by
  have := trim_len (tab 5 fun k => (nums f s k : Int))
  rw [tab_len] at this
  exact this
theorem within_of_co {lim : Int} {p : List Int} (h : ∀ i, -lim ≤ co p i ∧ co p i ≤ lim) : within lim p = true := within_of fun i hi => by have := h i; rwa [co_at hi] at this

theorem all256 {n : Nat} (h8 : n ≤ 8) : 2 ^ n - 1 < 256 := by have := Nat.pow_le_pow_right (n := 2) (by decide) h8; omega

end Go.Proofs.YtbbnagkbbhbbgaaDoor

/-
  LINKS TAKEN ONE BY ONE, and lists of numbers made by them: plain functions, no walk.
-/
namespace Go.Proofs.YtbbnagkbbhbbgaaDoor
set_option linter.unusedVariables false
set_option linter.unusedSimpArgs false
open Go.RowKit

/-- The nodes of a set below a number. -/
def upto (m b : Nat) : List (Fin 8) := (bitsOf m).filter fun j => decide (j.val < b)
theorem upto_step_all : ∀ (m : Fin 256) (b : Fin 8), upto m.val (b.val + 1) = if m.val.testBit b.val = true then upto m.val b.val ++ [b] else upto m.val b.val := by decide +kernel
theorem upto_yes {m b : Nat} (hm : m < 256) (hb : b < 8) (h : m.testBit b = true) : upto m (b + 1) = upto m b ++ [⟨b, hb⟩] := by
  have := upto_step_all ⟨m, hm⟩ ⟨b, hb⟩
  simpa [h] using this
theorem upto_no {m b : Nat} (hm : m < 256) (hb : b < 8) (h : m.testBit b = false) : upto m (b + 1) = upto m b := by
  have := upto_step_all ⟨m, hm⟩ ⟨b, hb⟩
  simpa [h] using this
theorem upto_all_all : ∀ (m : Fin 256) (b : Fin 9), m.val < 2 ^ b.val → upto m.val b.val = bitsOf m.val := by decide +kernel
theorem upto_all {m b : Nat} (hm : m < 256) (hb : b ≤ 8) (h : m < 2 ^ b) : upto m b = bitsOf m := upto_all_all ⟨m, hm⟩ ⟨b, by omega⟩ h
/-- Nothing that is left lies below the lowest node, or is it. -/
theorem rst_upto_all : ∀ s : Fin 256, s.val ≠ 0 → ∀ j : Fin 8, j.val ≤ (low s.val).val → (rst s.val).testBit j.val = false := by decide +kernel
theorem tie_upto {f : Nat → Nat} {s : Nat} (hs : s < 256) (h0 : s ≠ 0) : upto (tieOf f s) ((low s).val + 1) = [] := by
  unfold upto
  rw [List.filter_eq_nil_iff]
  intro j hj
  have hb := (and_bit hj).2
  have := rst_upto_all ⟨s, hs⟩ h0 j
  simp only [decide_eq_true_eq]
  intro hlt
  rw [this (by simp only; omega)] at hb
  cases hb
theorem tie_bit {f : Nat → Nat} {s b : Nat} : (tieOf f s).testBit b = ((f (low s).val).testBit b && (rst s).testBit b) := Nat.testBit_and _ _ _
theorem tie_lt {f : Nat → Nat} {s : Nat} (hs : s < 256) : tieOf f s < 256 := Nat.lt_of_le_of_lt Nat.and_le_right (Nat.lt_of_le_of_lt (wo_le _ _) hs)
theorem tie_pow {f : Nat → Nat} {s n : Nat} (hs : s < 2 ^ n) : tieOf f s < 2 ^ n := Nat.lt_of_le_of_lt Nat.and_le_right (Nat.lt_of_le_of_lt (wo_le _ _) hs)
theorem low_least_all : ∀ (s : Fin 256) (j : Fin 8), j.val < (low s.val).val → s.val.testBit j.val = false := by decide +kernel

/-- A list of numbers on the way: behind the first few links. -/
def OnWay (f : Nat → Nat) (s : Nat) (l : List (Fin 8)) (p : List Int) : Prop := Pos p ∧ p.length ≤ 5 ∧ ∀ k, co p k = ((nums f (rst s) k + tied f s l k : Nat) : Int)

theorem numL_pos_aux {p : List Int} (h1 : 1 ≤ p.length) (h0 : ∀ i, 0 ≤ co p i) (he : ends p = true) : Pos p := by
  refine ⟨h1, h0, ?_⟩
  unfold ends at he
  simp only [decide_eq_true_eq] at he
  have := h0 (p.length - 1)
  unfold co at this ⊢
  rcases he with rfl | he
  · simp at h1
  · omega
theorem numL_pos {f : Nat → Nat} {s : Nat} (hs : s < 256) : Pos (numL f s) := by
  have h0 : ∀ i, 0 ≤ co (numL f s) i := fun i => by rw [co_numL hs]; omega
  refine numL_pos_aux ?_ h0 (ends_trim _)
  by_cases h : (numL f s).length = 0
  · have hc := co_numL (f := f) hs 0
    rw [co_out (by omega), nums_none' hs] at hc
    cases hc
  · omega

theorem onway_start {f : Nat → Nat} {s : Nat} (hs : s < 256) : OnWay f s [] (numL f (rst s)) := by
  have hr : rst s < 256 := Nat.lt_of_le_of_lt (wo_le _ _) hs
  exact ⟨numL_pos hr, numL_len _ _, fun k => by rw [co_numL hr, tied_nil, Nat.add_zero]⟩
theorem co_cons (p : List Int) (k : Nat) : co (0 :: p) k = if k = 0 then 0 else co p (k - 1) := by
  cases k with
  | zero => simp [co]
  | succ k => simp [co]
theorem onway_step {f : Nat → Nat} {s : Nat} (hs : s < 256) (h0 : s ≠ 0) {l : List (Fin 8)} {p : List Int} (h : OnWay f s l p) (x : Fin 8) (suf : List (Fin 8)) (hx : l ++ x :: suf = bitsOf (tieOf f s)) :
    OnWay f s (l ++ [x]) (addL p (0 :: numL f (wo (rst s) x.val))) := by
  obtain ⟨hp, hl, hc⟩ := h
  have hr : rst s < 256 := Nat.lt_of_le_of_lt (wo_le _ _) hs
  have hw : wo (rst s) x.val < 256 := Nat.lt_of_le_of_lt (wo_le _ _) hr
  have hco : ∀ k, co (addL p (0 :: numL f (wo (rst s) x.val))) k = ((nums f (rst s) k + tied f s (l ++ [x]) k : Nat) : Int) := by
    intro k
    rw [co_addL, hc, co_cons, tied_snoc]
    split
    · simp
    · rw [co_numL hw]; push_cast; omega
  have hpos := hp.add (numL_pos (f := f) hw).cons
  refine ⟨hpos, ?_, hco⟩
  by_cases hle : (addL p (0 :: numL f (wo (rst s) x.val))).length ≤ 5
  · exact hle
  · exfalso
    have h1 := hpos.2.2
    rw [hco] at h1
    have h2 : nums f s ((addL p (0 :: numL f (wo (rst s) x.val))).length - 1) = 0 := nums_far' hs (by omega)
    rw [nums_step hs h0, ← hx] at h2
    have h3 := tied_le f s (l ++ [x]) suf ((addL p (0 :: numL f (wo (rst s) x.val))).length - 1)
    rw [List.append_assoc, List.singleton_append] at h3
    omega
theorem onway_end {f : Nat → Nat} {s : Nat} (hs : s < 256) (h0 : s ≠ 0) {p : List Int} (h : OnWay f s (bitsOf (tieOf f s)) p) : p = numL f s :=
  h.1.numL hs fun k => by rw [h.2.2, nums_step hs h0]
theorem onway_within {f : Nat → Nat} {s : Nat} (hs : s < 256) (h0 : s ≠ 0) {l suf : List (Fin 8)} {p : List Int} (h : OnWay f s l p) (hx : l ++ suf = bitsOf (tieOf f s)) : within 1000000000000 p = true := by
  refine within_of_co fun k => ?_
  rw [h.2.2]
  have h1 := nums_small (f := f) hs k
  rw [nums_step hs h0, ← hx] at h1
  have h2 := tied_le f s l suf k
  omega
theorem numL_within {f : Nat → Nat} {s : Nat} (hs : s < 256) : within 1000000000000 (0 :: numL f s) = true := by
  refine within_of_co fun k => ?_
  rw [co_cons]
  split
  · omega
  · rw [co_numL hs]
    have := nums_small (f := f) hs (k - 1)
    omega
theorem upto_split {m b : Nat} (hm : m < 256) (hb : b ≤ 8) : ∃ suf, upto m b ++ suf = bitsOf m := by
  have h : ∀ (m : Fin 256) (b : Fin 9), upto m.val b.val ++ (bitsOf m.val).filter (fun j => decide (¬ j.val < b.val)) = bitsOf m.val := by decide +kernel
  exact ⟨_, h ⟨m, hm⟩ ⟨b, by omega⟩⟩

end Go.Proofs.YtbbnagkbbhbbgaaDoor

/-
  MATCHINGS AS EDGES WITHOUT A COMMON NODE: what the matching numbers count; plain mathematics, no walk.
-/
namespace Go.Proofs.YtbbnagkbbhbbgaaDoor
set_option linter.unusedVariables false
set_option linter.unusedSimpArgs false
open Go.RowKit

def SymB (f : Nat → Nat) : Prop := ∀ a b : Fin 8, (f a.val).testBit b.val = (f b.val).testBit a.val

theorem mask_bit : ∀ (v i : Fin 8), (255 - 2 ^ v.val).testBit i.val = decide (i ≠ v) := by decide +kernel
theorem wo_bit (s : Nat) (v i : Fin 8) : (wo s v.val).testBit i.val = (s.testBit i.val && decide (i ≠ v)) := by
  unfold wo; rw [Nat.testBit_and, mask_bit]
theorem wo_comm (s a b : Nat) : wo (wo s a) b = wo (wo s b) a := by
  unfold wo; rw [Nat.and_assoc, Nat.and_assoc, Nat.and_comm (255 - 2 ^ a)]
theorem wo_256 {s v : Nat} (hs : s < 256) : wo s v < 256 := Nat.lt_of_le_of_lt (wo_le s v) hs

/-- A set of nodes has k edges without a common node. -/
inductive HasM (f : Nat → Nat) : Nat → Nat → Prop
  | none (s : Nat) : HasM f s 0
  | edge {s k : Nat} (a b : Fin 8) (ha : s.testBit a.val = true) (hb : (wo s a.val).testBit b.val = true) (hab : (f a.val).testBit b.val = true) (h : HasM f (wo (wo s a.val) b.val) k) : HasM f s (k + 1)

/-- A set within another one. -/
def Sub8 (t s : Nat) : Prop := ∀ i : Fin 8, t.testBit i.val = true → s.testBit i.val = true
theorem Sub8.wo {t s : Nat} (h : Sub8 t s) (v : Fin 8) : Sub8 (wo t v.val) (wo s v.val) := fun i hi => by
  rw [wo_bit, Bool.and_eq_true] at hi ⊢; exact ⟨h i hi.1, hi.2⟩
theorem sub8_wo (s : Nat) (v : Fin 8) : Sub8 (wo s v.val) s := fun i hi => by rw [wo_bit, Bool.and_eq_true] at hi; exact hi.1
theorem Sub8.trans {a b c : Nat} (h : Sub8 a b) (k : Sub8 b c) : Sub8 a c := fun i hi => k i (h i hi)

theorem HasM.mono {f : Nat → Nat} {t k : Nat} (h : HasM f t k) : ∀ {s : Nat}, Sub8 t s → HasM f s k := by
  induction h with
  | none t => intro s _; exact .none s
  | edge a b ha hb hab _ ih => intro s hs; exact .edge a b (hs a ha) (hs.wo a b hb) hab (ih ((hs.wo a).wo b))

theorem HasM.fewer {f : Nat → Nat} {s k : Nat} (h : HasM f s k) : ∀ {j : Nat}, j ≤ k → HasM f s j := by
  induction h with
  | none s => intro j hj; obtain rfl : j = 0 := by omega
              exact .none s
  | edge a b ha hb hab _ ih =>
    intro j hj
    cases j with
    | zero => exact .none _
    | succ j => exact .edge a b ha hb hab (ih (by omega))

/-- Of a set's node: it is missed, or in one of the edges. -/
theorem HasM.take {f : Nat → Nat} (hf : SymB f) {s k : Nat} (h : HasM f s k) : ∀ v : Fin 8, s.testBit v.val = true →
    HasM f (Go.Proofs.YtbbnagkbbhbbgaaDoor.wo s v.val) k ∨ ∃ (w : Fin 8) (j : Nat), k = j + 1 ∧ (Go.Proofs.YtbbnagkbbhbbgaaDoor.wo s v.val).testBit w.val = true ∧ (f v.val).testBit w.val = true ∧ HasM f (Go.Proofs.YtbbnagkbbhbbgaaDoor.wo (Go.Proofs.YtbbnagkbbhbbgaaDoor.wo s v.val) w.val) j := by
  induction h with
  | none s => intro v _; exact .inl (.none _)
  | @edge s k a b ha hb hab hrest ih =>
    intro v hv
    by_cases hva : v = a
    · subst hva; exact .inr ⟨b, _, rfl, hb, hab, hrest⟩
    · by_cases hvb : v = b
      · subst hvb
        rw [wo_bit, Bool.and_eq_true] at hb
        refine .inr ⟨a, _, rfl, ?_, by rw [hf]; exact hab, by rw [wo_comm]; exact hrest⟩
        rw [wo_bit, ha, Bool.true_and, decide_eq_true_eq]; exact fun e => hva e.symm
      · have hv2 : (wo (wo s a.val) b.val).testBit v.val = true := by
          rw [wo_bit, wo_bit, hv]; simp [hva, hvb]
        rcases ih v hv2 with h1 | ⟨w, j, rfl, h2, h3, h4⟩
        · refine .inl (.edge a b ?_ ?_ hab ?_)
          · rw [wo_bit, ha, Bool.true_and, decide_eq_true_eq]; exact fun e => hva e.symm
          · rw [wo_bit, wo_bit] at *
            simp only [Bool.and_eq_true, decide_eq_true_eq] at *
            exact ⟨⟨hb.1, fun e => hvb e.symm⟩, hb.2⟩
          · rw [wo_comm s, wo_comm (wo s a.val)]; exact h1
        · simp only [wo_bit, Bool.and_eq_true, decide_eq_true_eq] at h2
          refine .inr ⟨w, j + 1, rfl, ?_, h3, ?_⟩
          · rw [wo_bit]; simp only [Bool.and_eq_true, decide_eq_true_eq]; exact ⟨h2.1.1.1, h2.2⟩
          · refine .edge a b ?_ ?_ hab ?_
            · simp only [wo_bit, Bool.and_eq_true, decide_eq_true_eq]
              exact ⟨⟨ha, fun e => hva e.symm⟩, fun e => h2.1.1.2 e.symm⟩
            · simp only [wo_bit, Bool.and_eq_true, decide_eq_true_eq] at hb ⊢
              exact ⟨⟨⟨hb.1, fun e => hvb e.symm⟩, fun e => h2.1.2 e.symm⟩, hb.2⟩
            · have e : wo (wo (wo (wo s v.val) w.val) a.val) b.val = wo (wo (wo (wo s a.val) b.val) v.val) w.val := by
                rw [wo_comm (wo s v.val) w.val, wo_comm s v.val, wo_comm _ w.val, wo_comm (wo s a.val) v.val]
              rw [e]; exact h4

theorem sum_pos {α : Type} {l : List α} {g : α → Nat} : 0 < (l.map g).sum ↔ ∃ x ∈ l, 0 < g x := by
  induction l with
  | nil => simp
  | cons y l ih =>
    rw [List.map_cons, List.sum_cons]
    constructor
    · intro h
      by_cases hy : 0 < g y
      · exact ⟨y, by simp, hy⟩
      · obtain ⟨x, hx, hg⟩ := ih.1 (by omega)
        exact ⟨x, by simp [hx], hg⟩
    · rintro ⟨x, hx, hg⟩
      rcases List.mem_cons.1 hx with rfl | hx
      · omega
      · have := ih.2 ⟨x, hx, hg⟩; omega

/-- **The matching numbers are greater than 0 just where there are such edges.** -/
theorem nums_has {f : Nat → Nat} (hf : SymB f) : ∀ s, s < 256 → ∀ k, 0 < nums f s k ↔ HasM f s k := by
  intro s
  induction s using Nat.strongRecOn with
  | _ s ih =>
    intro hs k
    by_cases h0 : s = 0
    · subst h0
      rw [nums_zero]
      constructor
      · intro h; split at h
        · rename_i e; subst e; exact .none _
        · omega
      · intro h
        cases h with
        | none => simp
        | edge a b ha => simp at ha
    · have hr := rst_lt hs h0
      have hlow := low_bit hs h0
      rw [nums_step hs h0]
      constructor
      · intro h
        by_cases h1 : 0 < nums f (rst s) k
        · exact ((ih _ hr (by omega) k).1 h1).mono (sub8_wo s (low s))
        · have h2 : 0 < tied f s (bitsOf (tieOf f s)) k := by omega
          unfold tied at h2
          split at h2
          · omega
          · rename_i hk
            obtain ⟨w, hw, hg⟩ := sum_pos.1 h2
            have hb := and_bit hw
            have hwl := wo_le (rst s) w.val
            have := (ih _ (by omega) (by omega) _).1 hg
            obtain ⟨j, rfl⟩ : ∃ j, k = j + 1 := ⟨k - 1, by omega⟩
            exact .edge (low s) w hlow hb.2 hb.1 this
      · intro h
        rcases h.take hf (low s) hlow with h1 | ⟨w, j, rfl, h2, h3, h4⟩
        · have := (ih _ hr (by omega) k).2 h1
          omega
        · have hwl := wo_le (rst s) w.val
          have h5 := (ih _ (Nat.lt_of_le_of_lt hwl hr) (by omega) j).2 h4
          have : 0 < tied f s (bitsOf (tieOf f s)) (j + 1) := by
            unfold tied
            rw [if_neg (by omega)]
            refine sum_pos.2 ⟨w, ?_, h5⟩
            rw [mem_bitsOf, tie_bit, h3]; exact h2
          omega

/-- The edges of a greatest matching of a set. -/
def gr (f : Nat → Nat) (s : Nat) : Nat := (numL f s).length - 1
theorem gr_len {f : Nat → Nat} {s : Nat} (hs : s < 256) : (numL f s).length = gr f s + 1 := by
  have := (numL_pos (f := f) hs).1
  unfold gr; omega
theorem gr_pos {f : Nat → Nat} {s : Nat} (hs : s < 256) : 0 < nums f s (gr f s) := by
  have h := (numL_pos (f := f) hs).2.2
  rw [co_numL hs] at h
  unfold gr; omega
theorem gr_top {f : Nat → Nat} {s k : Nat} (hs : s < 256) (hk : gr f s < k) : nums f s k = 0 := by
  have h := co_numL (f := f) hs k
  rw [co_out (by rw [gr_len hs]; omega)] at h
  omega
theorem gr_le4 {f : Nat → Nat} {s : Nat} : gr f s ≤ 4 := by have := numL_len f s; unfold gr; omega
theorem gr_of {f : Nat → Nat} {s e : Nat} (hs : s < 256) (h : nums f s e ≠ 0) (ht : ∀ k, e < k → k < 5 → nums f s k = 0) : gr f s = e := by
  rcases Nat.lt_trichotomy (gr f s) e with h1 | h1 | h1
  · exact absurd (gr_top hs h1) h
  · exact h1
  · have := ht _ h1 (by have := gr_le4 (f := f) (s := s); omega)
    have := gr_pos (f := f) hs
    omega
theorem gr_has {f : Nat → Nat} (hf : SymB f) {s : Nat} (hs : s < 256) : HasM f s (gr f s) := (nums_has hf s hs _).1 (gr_pos hs)
theorem gr_max {f : Nat → Nat} (hf : SymB f) {s k : Nat} (hs : s < 256) (h : HasM f s k) : k ≤ gr f s := by
  have h1 := (nums_has hf s hs k).2 h
  by_cases hk : gr f s < k
  · rw [gr_top hs hk] at h1; omega
  · omega
theorem gr_mono {f : Nat → Nat} (hf : SymB f) {t s : Nat} (ht : t < 256) (hs : s < 256) (h : Sub8 t s) : gr f t ≤ gr f s := gr_max hf hs ((gr_has hf ht).mono h)
/-- Without a node there is one edge less at most. -/
theorem gr_without {f : Nat → Nat} (hf : SymB f) {s : Nat} (hs : s < 256) (v : Fin 8) (hv : s.testBit v.val = true) : gr f s ≤ gr f (wo s v.val) + 1 := by
  rcases (gr_has hf hs).take hf v hv with h | ⟨w, j, hj, _, _, h⟩
  · have := gr_max hf (wo_256 hs) h; omega
  · have := gr_max hf (wo_256 hs) (h.mono (sub8_wo _ w)); omega
theorem gr_edge {f : Nat → Nat} (hf : SymB f) {s : Nat} (hs : s < 256) (a b : Fin 8) (ha : s.testBit a.val = true) (hb : (wo s a.val).testBit b.val = true) (hab : (f a.val).testBit b.val = true) : gr f (wo (wo s a.val) b.val) + 1 ≤ gr f s :=
  gr_max hf hs (.edge a b ha hb hab (gr_has hf (wo_256 (wo_256 hs))))
theorem gr_half {f : Nat → Nat} {s : Nat} (hs : s < 256) : 2 * gr f s ≤ (bitsOf s).length := by
  by_cases h : (bitsOf s).length < 2 * gr f s
  · have := nums_far f _ s hs rfl _ h
    have := gr_pos (f := f) hs
    omega
  · omega

/-- A node may be missed: the number for a greatest matching is not 0 without it. -/
theorem gr_missed {f : Nat → Nat} (hf : SymB f) {s : Nat} (hs : s < 256) (v : Fin 8) : nums f (wo s v.val) (gr f s) ≠ 0 ↔ gr f (wo s v.val) = gr f s := by
  have hw := wo_256 (v := v.val) hs
  have hm := gr_mono hf hw hs (sub8_wo s v)
  constructor
  · intro h
    by_cases hlt : gr f (wo s v.val) < gr f s
    · exact absurd (gr_top hw hlt) h
    · omega
  · intro h
    rw [← h]
    exact Nat.ne_of_gt (gr_pos hw)
/-- All but one: the number for half of the nodes is not 0 just where twice a greatest matching are all others. -/
theorem gr_perfect {f : Nat → Nat} {t n : Nat} (ht : t < 256) (hn : (bitsOf t).length + 1 = n) : nums f t (n / 2) = 0 ↔ 2 * gr f t ≠ n - 1 := by
  have hh := gr_half (f := f) ht
  constructor
  · intro h e
    have : n / 2 = gr f t := by omega
    rw [this] at h
    have := gr_pos (f := f) ht
    omega
  · intro h
    exact gr_top ht (by omega)

end Go.Proofs.YtbbnagkbbhbbgaaDoor

/-
  A GRAPH's SETS ARE MUTUAL, AND NO NODE IS ITS OWN NEIGHBOUR: plain functions, no walk.
-/
namespace Go.Proofs.YtbbnagkbbhbbgaaDoor
set_option linter.unusedVariables false
set_option linter.unusedSimpArgs false
open Go.RowKit

theorem gIn_both {xs : List Int} (h : gIn xs = true) {i j : Nat} (hij : (gfun xs i).testBit j = true) : (gfun xs j).testBit i = true := by
  obtain ⟨h1, h8, hok⟩ := gIn_parts h
  have hm : mutB xs.length (gfun xs) = true := by rw [← gIn_mut h1 h8 hok]; exact h
  have hi : i < xs.length := by
    rcases Nat.lt_or_ge i xs.length with h | h
    · exact h
    · rw [gfun_far h] at hij; simp at hij
  have hj : j < xs.length := by
    rcases Nat.lt_or_ge j xs.length with h' | h'
    · exact h'
    · rw [Nat.testBit_lt_two_pow (Nat.lt_of_lt_of_le (gfun_pow hok i) (Nat.pow_le_pow_right (by decide) h'))] at hij; cases hij
  unfold mutB at hm
  have h2 := List.all_eq_true.1 hm i (List.mem_range.2 hi)
  unfold mutRow at h2
  exact List.all_eq_true.1 h2 ⟨j, by omega⟩ (mem_bitsOf.2 hij)
theorem gIn_sym {xs : List Int} (h : gIn xs = true) : SymB (gfun xs) := fun a b => by
  rw [Bool.eq_iff_iff]
  exact ⟨gIn_both h, gIn_both h⟩
theorem gIn_irr {xs : List Int} (h : gIn xs = true) : ∀ v : Fin 8, (gfun xs v.val).testBit v.val = false := fun v => by
  obtain ⟨h1, h8, hok⟩ := gIn_parts h
  by_cases hv : v.val < xs.length
  · have := okTo_at hok hv
    unfold rowOk at this
    rw [Bool.and_eq_true, Bool.not_eq_true'] at this
    exact this.2
  · rw [gfun_far (by omega)]; simp
theorem bit_some : ∀ m : Fin 256, m.val ≠ 0 → ∃ w : Fin 8, m.val.testBit w.val = true := by decide +kernel
theorem bit_of {m : Nat} (hm : m < 256) (h : m ≠ 0) : ∃ w : Fin 8, m.testBit w.val = true := bit_some ⟨m, hm⟩ h

end Go.Proofs.YtbbnagkbbhbbgaaDoor

