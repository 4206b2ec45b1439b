/-
  POLYNOMIALS AS LISTS: what is trimmed, added, multiplied, derived; plain functions, no walk.
-/
import Derived.Test.YtjijkgmeddeihaaDoorBase
namespace Go.Proofs.YtjijkgmeddeihaaDoor
set_option linter.unusedVariables false
set_option linter.unusedSimpArgs false
open Go.RowKit

/-- The number for a power. -/
def co (p : List Int) (i : Nat) : Int := p.getD i 0
theorem co_at {p : List Int} {i : Nat} (h : i < p.length) : co p i = p[i] := by simp [co, h]
theorem co_out {p : List Int} {i : Nat} (h : p.length ≤ i) : co p i = 0 := by simp [co, h]

/-- Numbers from 0 on. -/
def tab (n : Nat) (f : Nat → Int) : List Int := (List.range n).map f
theorem tab_len (n : Nat) (f : Nat → Int) : (tab n f).length = n := by simp [tab]
theorem tab_at (n : Nat) (f : Nat → Int) (i : Nat) (h : i < (tab n f).length) : (tab n f)[i] = f i := by simp [tab]
theorem tab_zero (f : Nat → Int) : tab 0 f = [] := rfl
theorem tab_succ (n : Nat) (f : Nat → Int) : tab (n + 1) f = tab n f ++ [f n] := by simp [tab, List.range_succ]
theorem tab_congr {n : Nat} {f g : Nat → Int} (h : ∀ i, i < n → f i = g i) : tab n f = tab n g := by
  unfold tab; apply List.map_congr_left; intro i hi; exact h i (List.mem_range.1 hi)
theorem co_tab (n : Nat) (f : Nat → Int) (i : Nat) : co (tab n f) i = if i < n then f i else 0 := by
  by_cases h : i < n
  · rw [if_pos h, co_at (by rw [tab_len]; exact h), tab_at]
  · rw [if_neg h, co_out (by rw [tab_len]; omega)]
theorem tab_co (p : List Int) : tab p.length (co p) = p := by
  apply List.ext_getElem
  · rw [tab_len]
  · intro i h1 h2
    rw [tab_at, co_at h2]
theorem tab_set (n : Nat) (f : Nat → Int) (k : Nat) (x : Int) : (vals (tab n f)).set k (Value.int .i64 x) = vals (tab n (fun i => if i = k then x else f i)) := by
  apply List.ext_getElem?
  intro i
  rw [List.getElem?_set]
  simp only [vals, List.length_map, tab_len, List.getElem?_map]
  by_cases e : k = i
  · subst e
    by_cases h : k < n
    · rw [if_pos rfl, if_pos h, List.getElem?_eq_getElem (by rw [tab_len]; exact h), tab_at]; simp
    · rw [if_pos rfl, if_neg h, List.getElem?_eq_none (by rw [tab_len]; omega)]; rfl
  · rw [if_neg e]
    by_cases h : i < n
    · rw [List.getElem?_eq_getElem (by rw [tab_len]; exact h), List.getElem?_eq_getElem (by rw [tab_len]; exact h), tab_at, tab_at, if_neg (fun q => e q.symm)]
    · rw [List.getElem?_eq_none (by rw [tab_len]; omega), List.getElem?_eq_none (by rw [tab_len]; omega)]
theorem tab_const (n : Nat) : vals (tab n (fun _ => 0)) = List.replicate n (Value.int .i64 0) := by
  unfold vals tab
  rw [List.map_map]
  apply List.ext_getElem
  · simp
  · intro i h1 h2; simp
theorem tab_cell (n : Nat) (f : Nat → Int) (k : Nat) (h : k < n) : (vals (tab n f))[k]? = some (.int .i64 (f k)) := by
  rw [List.getElem?_eq_getElem (by simp [tab_len]; exact h)]
  simp [vals, tab_at]

/-- Without the zeros at the end. -/
def trim : List Int → List Int
  | [] => []
  | x :: p => if trim p = [] ∧ x = 0 then [] else x :: trim p

theorem trim_len (p : List Int) : (trim p).length ≤ p.length := by
  induction p with
  | nil => simp [trim]
  | cons x p ih => unfold trim; split <;> simp <;> omega
theorem trim_snoc0 (p : List Int) : trim (p ++ [0]) = trim p := by
  induction p with
  | nil => simp [trim]
  | cons x p ih => simp [trim, ih]
theorem trim_snoc (p : List Int) (x : Int) (h : x ≠ 0) : trim (p ++ [x]) = p ++ [x] := by
  induction p with
  | nil => simp [trim, h]
  | cons y p ih => rw [List.cons_append, trim, ih]; simp
theorem trim_take0 {p : List Int} {k : Nat} (hk : k < p.length) (h : p[k] = 0) : trim (p.take (k + 1)) = trim (p.take k) := by
  rw [List.take_succ_eq_append_getElem hk, h, trim_snoc0]
theorem trim_take {p : List Int} {k : Nat} (hk : k < p.length) (h : p[k] ≠ 0) : trim (p.take (k + 1)) = p.take (k + 1) := by
  rw [List.take_succ_eq_append_getElem hk, trim_snoc _ _ h]
/-- The list without its zeros at the end is its beginning. -/
theorem trim_prefix (p : List Int) : trim p = p.take (trim p).length := by
  induction p with
  | nil => simp [trim]
  | cons x p ih =>
    by_cases h : trim p = [] ∧ x = 0
    · have e : trim (x :: p) = [] := by rw [trim, if_pos h]
      rw [e]; simp
    · have e : trim (x :: p) = x :: trim p := by rw [trim, if_neg h]
      rw [e, List.length_cons, List.take_succ_cons, ← ih]
theorem co_trim (p : List Int) (i : Nat) : co (trim p) i = co p i := by
  induction p generalizing i with
  | nil => simp [trim]
  | cons x p ih =>
    by_cases h : trim p = [] ∧ x = 0
    · have e : trim (x :: p) = [] := by rw [trim, if_pos h]
      rw [e]
      cases i with
      | zero => simp [co, h.2]
      | succ i =>
        have := ih i
        rw [h.1] at this
        simpa [co] using this
    · have e : trim (x :: p) = x :: trim p := by rw [trim, if_neg h]
      rw [e]
      cases i with
      | zero => simp [co]
      | succ i => have := ih i; simpa [co] using this
theorem trim_last (p : List Int) : (trim p).getLast? ≠ some 0 := by
  induction p with
  | nil => simp [trim]
  | cons x p ih =>
    by_cases h : trim p = [] ∧ x = 0
    · have e : trim (x :: p) = [] := by rw [trim, if_pos h]
      rw [e]; simp
    · have e : trim (x :: p) = x :: trim p := by rw [trim, if_neg h]
      rw [e]
      cases hq : trim p with
      | nil => 
        have : x ≠ 0 := fun hx => h ⟨hq, hx⟩
        simpa using this
      | cons y q =>
        rw [hq] at ih
        rw [List.getLast?_cons_cons]; exact ih
theorem trim_of_last {p : List Int} (h : p.getLast? ≠ some 0) : trim p = p := by
  rcases List.eq_nil_or_concat p with rfl | ⟨q, x, rfl⟩
  · rfl
  · rw [List.concat_eq_append] at h ⊢
    rw [List.getLast?_append] at h
    exact trim_snoc q x (by simpa using h)
/-- Two lists with the same numbers are the same without the zeros. -/
theorem trim_ext {p q : List Int} (h : ∀ i, co p i = co q i) : trim p = trim q := by
  induction p generalizing q with
  | nil =>
    induction q with
    | nil => rfl
    | cons y q ih =>
      have hy : y = 0 := by have := h 0; simpa [co] using this.symm
      have := ih (fun i => by have := h (i + 1); simpa [co] using this)
      rw [trim, trim, if_pos ⟨this.symm, hy⟩]
  | cons x p ih =>
    cases q with
    | nil =>
      have hx : x = 0 := by have := h 0; simpa [co] using this
      have := ih (q := []) (fun i => by have := h (i + 1); simpa [co] using this)
      rw [trim, trim, if_pos ⟨this, hx⟩]
    | cons y q =>
      have hxy : x = y := by have := h 0; simpa [co] using this
      have := ih (q := q) (fun i => by have := h (i + 1); simpa [co] using this)
      rw [trim, trim, this, hxy]
theorem trim_trim (p : List Int) : trim (trim p) = trim p := trim_of_last (trim_last p)

/-- All numbers are at most so great. -/
def within (lim : Int) (p : List Int) : Bool := p.all fun x => decide (-lim ≤ x ∧ x ≤ lim)
theorem within_at {lim : Int} {p : List Int} (h : within lim p = true) {i : Nat} (hi : i < p.length) : -lim ≤ p[i] ∧ p[i] ≤ lim := by
  have := List.all_eq_true.1 h p[i] (List.getElem_mem hi)
  simpa using this
theorem within_co {lim : Int} {p : List Int} (h : within lim p = true) (h0 : 0 ≤ lim) (i : Nat) : -lim ≤ co p i ∧ co p i ≤ lim := by
  by_cases hi : i < p.length
  · rw [co_at hi]; exact within_at h hi
  · rw [co_out (by omega)]; omega
theorem within_of {lim : Int} {p : List Int} (h : ∀ (i : Nat) (hi : i < p.length), -lim ≤ p[i] ∧ p[i] ≤ lim) : within lim p = true := by
  refine List.all_eq_true.2 fun x hx => ?_
  obtain ⟨i, hi, rfl⟩ := List.mem_iff_getElem.1 hx
  simpa using h i hi
theorem within_take_succ {lim : Int} {p : List Int} {k : Nat} (hk : k < p.length) : within lim (p.take (k + 1)) = (within lim (p.take k) && decide (-lim ≤ p[k] ∧ p[k] ≤ lim)) := by
  unfold within
  rw [List.take_succ_eq_append_getElem hk, List.all_append, List.all_cons, List.all_nil, Bool.and_true]
theorem within_no {lim : Int} {p : List Int} {k : Nat} (hk : k < p.length) (h : ¬ (-lim ≤ p[k] ∧ p[k] ≤ lim)) : within lim p = false := by
  cases hw : within lim p with
  | false => rfl
  | true => exact absurd (within_at hw hk) h
theorem within_mono {a b : Int} {p : List Int} (h : within a p = true) (hab : a ≤ b) : within b p = true := by
  refine within_of fun i hi => ?_
  have := within_at h hi
  omega

/-- The last number is not 0. -/
def ends (p : List Int) : Bool := decide (p = [] ∨ p.getD (p.length - 1) 0 ≠ 0)
theorem ends_iff {p : List Int} : ends p = true ↔ p.getLast? ≠ some 0 := by
  unfold ends
  rcases List.eq_nil_or_concat p with rfl | ⟨q, x, rfl⟩
  · simp
  · rw [List.concat_eq_append]
    simp [List.getD]
theorem ends_trim (p : List Int) : ends (trim p) = true := ends_iff.2 (trim_last p)

/-- The list is a polynomial. -/
def okPoly (p : List Int) : Bool := decide (p.length ≤ 21) && within 1000000000 p && ends p
theorem okPoly_iff {p : List Int} : okPoly p = true ↔ p.length ≤ 21 ∧ within 1000000000 p = true ∧ p.getLast? ≠ some 0 := by
  unfold okPoly
  rw [Bool.and_eq_true, Bool.and_eq_true, ends_iff]
  simp [and_assoc]
theorem okPoly_trim {p : List Int} (h : okPoly p = true) : trim p = p := trim_of_last (okPoly_iff.1 h).2.2

/-- What is told of a list. -/
def toldList (p : List Int) : List Int := if okPoly p = true then p else []

/-- The sum of two lists, as long as the longer one. -/
def addL (p q : List Int) : List Int := tab (max p.length q.length) (fun k => co p k + co q k)
theorem addL_len (p q : List Int) : (addL p q).length = max p.length q.length := tab_len _ _
theorem co_addL (p q : List Int) (i : Nat) : co (addL p q) i = co p i + co q i := by
  unfold addL
  rw [co_tab]
  split
  · rfl
  · rename_i h; rw [co_out (by omega), co_out (by omega)]; rfl

/-- A sum of numbers told by their index. -/
def sumTo (n : Nat) (f : Nat → Int) : Int := ((List.range n).map f).sum
theorem sumTo_zero (f : Nat → Int) : sumTo 0 f = 0 := rfl
theorem sumTo_succ (n : Nat) (f : Nat → Int) : sumTo (n + 1) f = sumTo n f + f n := by
  simp [sumTo, List.range_succ, List.sum_append]
theorem sumTo_congr {n : Nat} {f g : Nat → Int} (h : ∀ i, i < n → f i = g i) : sumTo n f = sumTo n g := by
  induction n with
  | zero => rfl
  | succ n ih => rw [sumTo_succ, sumTo_succ, ih (fun i hi => h i (by omega)), h n (by omega)]
theorem sumTo_bound {n : Nat} {f : Nat → Int} {b : Int} (h : ∀ i, i < n → -b ≤ f i ∧ f i ≤ b) : -(n * b) ≤ sumTo n f ∧ sumTo n f ≤ n * b := by
  induction n with
  | zero => simp [sumTo_zero]
  | succ n ih =>
    have := ih (fun i hi => h i (by omega))
    have := h n (by omega)
    rw [sumTo_succ]
    have e : ((n + 1 : Nat) : Int) * b = n * b + b := by rw [Int.natCast_add, Int.add_mul]; simp
    omega
theorem sumTo_zeros {n : Nat} {f : Nat → Int} (h : ∀ i, i < n → f i = 0) : sumTo n f = 0 := by
  induction n with
  | zero => rfl
  | succ n ih => rw [sumTo_succ, ih (fun i hi => h i (by omega)), h n (by omega)]; rfl

/-- A number of the product, of the first a numbers of the first list. -/
def convTo (p q : List Int) (a m : Nat) : Int := sumTo a (fun i => co p i * if i ≤ m then co q (m - i) else 0)
/-- .. and of the first k numbers of the second one for the number a of the first one. -/
def convAt (p q : List Int) (a k m : Nat) : Int := convTo p q a m + if a ≤ m ∧ m - a < k then co p a * co q (m - a) else 0
theorem convTo_zero (p q : List Int) (m : Nat) : convTo p q 0 m = 0 := rfl
theorem convTo_succ (p q : List Int) (a m : Nat) : convTo p q (a + 1) m = convTo p q a m + co p a * if a ≤ m then co q (m - a) else 0 := sumTo_succ _ _
theorem convAt_zero (p q : List Int) (a m : Nat) : convAt p q a 0 m = convTo p q a m := by simp [convAt]
theorem convAt_end (p q : List Int) (a m : Nat) : convAt p q a q.length m = convTo p q (a + 1) m := by
  rw [convTo_succ]
  unfold convAt
  by_cases h : a ≤ m
  · by_cases h2 : m - a < q.length
    · rw [if_pos ⟨h, h2⟩, if_pos h]
    · rw [if_neg (by omega), if_pos h, co_out (p := q) (by omega)]; simp
  · rw [if_neg (by omega), if_neg h]; simp
theorem convAt_succ (p q : List Int) (a k m : Nat) : convAt p q a (k + 1) m = if m = a + k then convAt p q a k m + co p a * co q k else convAt p q a k m := by
  unfold convAt
  by_cases h : m = a + k
  · subst h
    have e : a + k - a = k := by omega
    rw [e]; simp
  · rw [if_neg h]
    by_cases h2 : a ≤ m ∧ m - a < k
    · rw [if_pos h2, if_pos (by omega)]
    · rw [if_neg h2, if_neg (by omega)]
/-- The product of two lists. -/
def mulL (p q : List Int) : List Int := if p = [] ∨ q = [] then [] else tab (p.length + q.length - 1) (convTo p q p.length)
theorem co_mulL (p q : List Int) (m : Nat) : co (mulL p q) m = convTo p q p.length m := by
  unfold mulL
  split
  · rename_i h
    rw [co_out (by simp)]
    rcases h with rfl | rfl
    · rfl
    · exact (sumTo_zeros fun i _ => by split <;> simp [co]).symm
  · rename_i h
    rw [co_tab]
    split
    · rfl
    · rename_i h2
      refine (sumTo_zeros fun i hi => ?_).symm
      split
      · rw [co_out (p := q) (by omega)]; simp
      · simp
theorem mulL_len (p q : List Int) : (mulL p q).length ≤ p.length + q.length := by
  unfold mulL
  split
  · simp
  · rw [tab_len]; omega

theorem mul_bound {a b x y : Int} (ha : -x ≤ a ∧ a ≤ x) (hb : -y ≤ b ∧ b ≤ y) : -(x * y) ≤ a * b ∧ a * b ≤ x * y := by
  have hx : a.natAbs ≤ x.natAbs := by omega
  have hy : b.natAbs ≤ y.natAbs := by omega
  have h := Nat.mul_le_mul hx hy
  have e1 : (a * b).natAbs = a.natAbs * b.natAbs := Int.natAbs_mul a b
  have e2 : (x * y).natAbs = x.natAbs * y.natAbs := Int.natAbs_mul x y
  have hx0 : 0 ≤ x := by omega
  have hy0 : 0 ≤ y := by omega
  have h0 : 0 ≤ x * y := Int.mul_nonneg hx0 hy0
  omega
theorem convTo_bound {p q : List Int} {x y : Int} (hx : 0 ≤ x) (hy : 0 ≤ y) (hp : within x p = true) (hq : within y q = true) (a m : Nat) : -(a * (x * y)) ≤ convTo p q a m ∧ convTo p q a m ≤ a * (x * y) := by
  refine sumTo_bound fun i _ => ?_
  refine mul_bound (within_co hp hx i) ?_
  split
  · exact within_co hq hy _
  · omega

/-- The derivative, number by number. -/
def derL (p : List Int) : List Int := tab (p.length - 1) (fun k => ((k + 1 : Nat) : Int) * co p (k + 1))

/-- The value of the numbers from an index on. -/
def horner (x : Int) : List Int → Int
  | [] => 0
  | c :: p => horner x p * x + c
theorem horner_bound {x : Int} (hx : -20 ≤ x ∧ x ≤ 20) : ∀ {p : List Int}, within 100000 p = true → -(100000 * (21 : Int) ^ p.length) ≤ horner x p ∧ horner x p ≤ 100000 * (21 : Int) ^ p.length
  | [], _ => by simp [horner]
  | c :: p, h => by
    have hw : within 100000 p = true := within_of fun i hi => by have := within_at h (i := i + 1) (by simp; omega); simpa using this
    have hc := within_at h (i := 0) (by simp)
    have ih := horner_bound hx hw
    have hm := mul_bound ih (y := 20) hx
    simp only [List.getElem_cons_zero] at hc
    have hpos : 1 ≤ (21 : Int) ^ p.length := Int.pow_pos (by decide)
    simp only [horner, List.length_cons, Int.pow_succ]
    generalize (21 : Int) ^ p.length = z at *
    omega
theorem horner_drop (x : Int) (p : List Int) (k : Nat) (h : k < p.length) : horner x (p.drop k) = horner x (p.drop (k + 1)) * x + p[k] := by
  rw [List.drop_eq_getElem_cons h, horner]

theorem vals_snoc (xs : List Int) (x : Int) : vals (xs ++ [x]) = vals xs ++ [Value.int .i64 x] := by simp [vals]

end Go.Proofs.YtjijkgmeddeihaaDoor
