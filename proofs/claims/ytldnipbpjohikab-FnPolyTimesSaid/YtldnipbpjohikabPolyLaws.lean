/-
  WHAT HOLDS OF POLYNOMIALS AS LISTS: values of sums and products, products both ways, the rule of products; plain functions, no walk.
-/
import Derived.Test.YtldnipbpjohikabPoly
namespace Go.Proofs.Ytldnipbpjohikab
open Go.RowKit

theorem co_cons_succ (a : Int) (p : List Int) (i : Nat) : co (a :: p) (i + 1) = co p i := by simp [co]
theorem co_cons_zero (a : Int) (p : List Int) : co (a :: p) 0 = a := by simp [co]

theorem horner_zero {x : Int} : ∀ {p : List Int}, (∀ i, co p i = 0) → horner x p = 0
  | [], _ => rfl
  | a :: p, h => by
    have h0 := h 0
    rw [co_cons_zero] at h0
    have hp : horner x p = 0 := horner_zero (fun i => by have := h (i + 1); rwa [co_cons_succ] at this)
    simp [horner, hp, h0]
/-- Lists with the same numbers have the same value. -/
theorem horner_ext {x : Int} : ∀ {p q : List Int}, (∀ i, co p i = co q i) → horner x p = horner x q
  | [], q, h => (horner_zero (fun i => by rw [← h i]; simp [co])).symm
  | a :: p, [], h => horner_zero (fun i => by rw [h i]; simp [co])
  | a :: p, b :: q, h => by
    have h0 := h 0
    rw [co_cons_zero, co_cons_zero] at h0
    have hp : horner x p = horner x q := horner_ext (fun i => by have := h (i + 1); rwa [co_cons_succ, co_cons_succ] at this)
    simp [horner, hp, h0]
theorem horner_trim (x : Int) (p : List Int) : horner x (trim p) = horner x p := horner_ext (co_trim p)

/-- The sum, number by number. -/
def addR : List Int → List Int → List Int
  | [], q => q
  | p, [] => p
  | a :: p, b :: q => (a + b) :: addR p q
theorem addR_nil (p : List Int) : addR p [] = p := by cases p <;> rfl
theorem co_addR : ∀ (p q : List Int) (i : Nat), co (addR p q) i = co p i + co q i
  | [], q, i => by simp [addR, co]
  | a :: p, [], i => by simp [addR, co]
  | a :: p, b :: q, 0 => by simp [addR, co]
  | a :: p, b :: q, i + 1 => by rw [addR, co_cons_succ, co_cons_succ, co_cons_succ]; exact co_addR p q i
theorem horner_addR (x : Int) : ∀ (p q : List Int), horner x (addR p q) = horner x p + horner x q
  | [], q => by simp [addR, horner]
  | a :: p, [] => by simp [addR, horner]
  | a :: p, b :: q => by
    simp only [addR, horner]
    rw [horner_addR x p q, Int.add_mul]
    omega
theorem horner_addL (x : Int) (p q : List Int) : horner x (addL p q) = horner x p + horner x q := by
  rw [← horner_addR]
  exact horner_ext fun i => by rw [co_addL, co_addR]
theorem trim_addL_comm (p q : List Int) : trim (addL p q) = trim (addL q p) := trim_ext fun i => by rw [co_addL, co_addL, Int.add_comm]
theorem trim_addL_nil (p : List Int) : trim (addL p []) = trim p := trim_ext fun i => by rw [co_addL]; simp [co]

/-- All numbers times one. -/
def scaleR (a : Int) (q : List Int) : List Int := q.map (a * ·)
theorem co_scaleR (a : Int) (q : List Int) (i : Nat) : co (scaleR a q) i = a * co q i := by
  unfold scaleR
  by_cases h : i < q.length
  · rw [co_at (by simpa using h), co_at h]; simp
  · rw [co_out (by simpa using Nat.le_of_not_lt h), co_out (by omega)]; simp
theorem horner_scaleR (x a : Int) : ∀ (q : List Int), horner x (scaleR a q) = a * horner x q
  | [] => by simp [scaleR, horner]
  | b :: q => by
    have ih := horner_scaleR x a q
    simp only [scaleR, List.map_cons, horner] at ih ⊢
    rw [ih, Int.mul_add, Int.mul_assoc]

/-- The product, by the first list. -/
def mulR : List Int → List Int → List Int
  | [], _ => []
  | a :: p, q => addR (scaleR a q) (0 :: mulR p q)
theorem horner_mulR (x : Int) : ∀ (p q : List Int), horner x (mulR p q) = horner x p * horner x q
  | [], q => by simp [mulR, horner]
  | a :: p, q => by
    simp only [mulR, horner]
    rw [horner_addR, horner_scaleR, horner, horner_mulR x p q, Int.add_mul]
    have : horner x p * horner x q * x = horner x p * x * horner x q := by rw [Int.mul_assoc, Int.mul_assoc, Int.mul_comm (horner x q)]
    omega

theorem sumTo_front (n : Nat) (f : Nat → Int) : sumTo (n + 1) f = f 0 + sumTo n (fun i => f (i + 1)) := by
  induction n with
  | zero => simp [sumTo]
  | succ n ih => rw [sumTo_succ, ih, sumTo_succ]; omega
theorem sumTo_add (n : Nat) (f g : Nat → Int) : sumTo n (fun i => f i + g i) = sumTo n f + sumTo n g := by
  induction n with
  | zero => rfl
  | succ n ih => rw [sumTo_succ, sumTo_succ, sumTo_succ, ih]; omega
theorem sumTo_mul (n : Nat) (c : Int) (f : Nat → Int) : sumTo n (fun i => c * f i) = c * sumTo n f := by
  induction n with
  | zero => simp [sumTo]
  | succ n ih => rw [sumTo_succ, sumTo_succ, ih, Int.mul_add]
/-- A sum told from its end. -/
theorem sumTo_rev (n : Nat) (f : Nat → Int) : sumTo n f = sumTo n (fun i => f (n - 1 - i)) := by
  induction n with
  | zero => rfl
  | succ n ih =>
    rw [sumTo_succ, sumTo_front, ih]
    have e : sumTo n (fun i => f (n - 1 - i)) = sumTo n (fun i => f (n + 1 - 1 - (i + 1))) := sumTo_congr fun i hi => by congr 1; omega
    rw [e]
    have e2 : n + 1 - 1 - 0 = n := by omega
    rw [e2]; omega
theorem sumTo_more {a b : Nat} {f : Nat → Int} (h : a ≤ b) (hf : ∀ i, a ≤ i → i < b → f i = 0) : sumTo b f = sumTo a f := by
  induction b with
  | zero => have : a = 0 := by omega
            rw [this]
  | succ b ih =>
    by_cases hab : a = b + 1
    · rw [hab]
    · rw [sumTo_succ, hf b (by omega) (by omega), ih (by omega) (fun i h1 h2 => hf i h1 (by omega))]; omega

/-- A number of the product, both lists told alike. -/
def cau (p q : List Int) (m : Nat) : Int := sumTo (m + 1) (fun i => co p i * co q (m - i))
theorem convTo_cau (p q : List Int) (m : Nat) : convTo p q p.length m = cau p q m := by
  unfold convTo cau
  by_cases h : p.length ≤ m + 1
  · have : sumTo (m + 1) (fun i => co p i * co q (m - i)) = sumTo p.length (fun i => co p i * co q (m - i)) :=
      sumTo_more h (fun i h1 _ => by rw [co_out h1]; simp)
    rw [this]
    refine sumTo_congr fun i hi => ?_
    rw [if_pos (by omega)]
  · have : sumTo p.length (fun i => co p i * if i ≤ m then co q (m - i) else 0) = sumTo (m + 1) (fun i => co p i * if i ≤ m then co q (m - i) else 0) :=
      sumTo_more (by omega) (fun i h1 _ => by rw [if_neg (by omega)]; simp)
    rw [this]
    refine sumTo_congr fun i hi => ?_
    rw [if_pos (by omega)]
theorem cau_comm (p q : List Int) (m : Nat) : cau p q m = cau q p m := by
  unfold cau
  rw [sumTo_rev]
  refine sumTo_congr fun i hi => ?_
  have e : m - (m + 1 - 1 - i) = i := by omega
  have e2 : m + 1 - 1 - i = m - i := by omega
  rw [e, e2, Int.mul_comm]
theorem co_mulL' (p q : List Int) (m : Nat) : co (mulL p q) m = cau p q m := by rw [co_mulL, convTo_cau]
theorem trim_mulL_comm (p q : List Int) : trim (mulL p q) = trim (mulL q p) := trim_ext fun i => by rw [co_mulL', co_mulL', cau_comm]

theorem co_mulR : ∀ (p q : List Int) (m : Nat), co (mulR p q) m = cau p q m
  | [], q, m => by
    have : cau [] q m = 0 := sumTo_zeros fun i _ => by simp [co]
    rw [this]; simp [mulR, co]
  | a :: p, q, m => by
    rw [mulR, co_addR, co_scaleR]
    unfold cau
    rw [sumTo_front, co_cons_zero]
    cases m with
    | zero => simp [co, sumTo]
    | succ m =>
      rw [co_cons_succ, co_mulR p q m]
      congr 1
      unfold cau
      refine sumTo_congr fun i hi => ?_
      rw [co_cons_succ]
      congr 2
      omega
theorem horner_mulL (x : Int) (p q : List Int) : horner x (mulL p q) = horner x p * horner x q := by
  rw [← horner_mulR]
  exact horner_ext fun i => by rw [co_mulL', co_mulR]

/-- At 1 and -1 values are small. -/
theorem horner_one_bound {x : Int} (hx : -1 ≤ x ∧ x ≤ 1) {b : Int} (hb : 0 ≤ b) : ∀ {p : List Int}, within b p = true → -(p.length * b) ≤ horner x p ∧ horner x p ≤ p.length * b
  | [], _ => by simp [horner]
  | c :: p, h => by
    have hw : within b p = true := within_of fun i hi => by have := within_at h (i := i + 1) (by simp; omega); simpa using this
    have hc := within_at h (i := 0) (by simp)
    have ih := horner_one_bound hx hb hw
    have hm := mul_bound ih (y := 1) hx
    simp only [List.getElem_cons_zero] at hc
    have e : (((c :: p).length : Nat) : Int) * b = p.length * b + b := by rw [List.length_cons, Int.natCast_add, Int.add_mul]; simp
    simp only [horner]
    rw [e]
    rw [Int.mul_one] at hm
    omega

theorem co_derL (p : List Int) (m : Nat) : co (derL p) m = ((m + 1 : Nat) : Int) * co p (m + 1) := by
  unfold derL
  rw [co_tab]
  split
  · rfl
  · rw [co_out (by omega)]; simp

/-- The rule of products, at a square. -/
theorem cau_square (p : List Int) (m : Nat) : ((m + 1 : Nat) : Int) * cau p p (m + 1) = cau p (derL p) m + cau p (derL p) m := by
  have h1 : ((m + 1 : Nat) : Int) * cau p p (m + 1) = sumTo (m + 1 + 1) (fun i => ((i : Nat) : Int) * (co p i * co p (m + 1 - i)) + ((m + 1 - i : Nat) : Int) * (co p i * co p (m + 1 - i))) := by
    unfold cau
    rw [← sumTo_mul]
    refine sumTo_congr fun i hi => ?_
    rw [← Int.add_mul]
    congr 1
    omega
  have h2 : sumTo (m + 1 + 1) (fun i => ((i : Nat) : Int) * (co p i * co p (m + 1 - i))) = sumTo (m + 1 + 1) (fun i => ((m + 1 - i : Nat) : Int) * (co p i * co p (m + 1 - i))) := by
    rw [sumTo_rev]
    refine sumTo_congr fun i hi => ?_
    have e : m + 1 - (m + 1 + 1 - 1 - i) = i := by omega
    have e2 : m + 1 + 1 - 1 - i = m + 1 - i := by omega
    rw [e, e2, Int.mul_comm (co p (m + 1 - i))]
  have h3 : sumTo (m + 1 + 1) (fun i => ((m + 1 - i : Nat) : Int) * (co p i * co p (m + 1 - i))) = cau p (derL p) m := by
    rw [sumTo_succ]
    have e : m + 1 - (m + 1) = 0 := by omega
    rw [e]
    simp only [Int.natCast_zero, Int.zero_mul, Int.add_zero]
    unfold cau
    refine sumTo_congr fun i hi => ?_
    rw [co_derL]
    have e2 : m - i + 1 = m + 1 - i := by omega
    rw [e2, ← Int.mul_assoc, Int.mul_comm ((m + 1 - i : Nat) : Int), Int.mul_assoc]
  rw [h1, sumTo_add, h2, h3]
theorem cau_congr {p p' q q' : List Int} (hp : ∀ i, co p i = co p' i) (hq : ∀ i, co q i = co q' i) (m : Nat) : cau p q m = cau p' q' m :=
  sumTo_congr fun i _ => by rw [hp, hq]
theorem rule_square (p : List Int) : trim (derL (trim (mulL p p))) = trim (addL (trim (mulL p (trim (derL p)))) (trim (mulL p (trim (derL p))))) := by
  refine trim_ext fun m => ?_
  rw [co_derL, co_trim, co_mulL', co_addL, co_trim, co_mulL', cau_square]
  rw [cau_congr (fun _ => rfl) (fun i => co_trim (derL p) i)]

theorem horner_at_zero (p : List Int) : horner 0 p = co p 0 := by cases p <;> simp [horner, co]
theorem horner_at_one (p : List Int) : horner 1 p = p.sum := by
  induction p with
  | nil => rfl
  | cons a p ih => simp [horner, ih, Int.add_comm]

end Go.Proofs.Ytldnipbpjohikab
