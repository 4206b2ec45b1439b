/-
  MATCHING NUMBERS OF A SET OF NODES: plain functions, no walk.
-/
import Derived.Test.YtjijkgmeddeihaaDoorTz
import Derived.Test.YtjijkgmeddeihaaDoorPoly
namespace Go.Proofs.YtjijkgmeddeihaaDoor
set_option linter.unusedVariables false
set_option linter.unusedSimpArgs false
open Go.RowKit

/-- A set without a node. -/
def wo (s v : Nat) : Nat := s &&& (255 - 2 ^ v)
theorem wo_le (s v : Nat) : wo s v ≤ s := Nat.and_le_left
theorem wo_lt_all : ∀ (s : Fin 256) (v : Fin 8), s.val.testBit v.val = true → wo s.val v.val < s.val := by decide +kernel
theorem wo_lt {s v : Nat} (hs : s < 256) (hv : v < 8) (h : s.testBit v = true) : wo s v < s := wo_lt_all ⟨s, hs⟩ ⟨v, hv⟩ h
theorem size_wo_all : ∀ (s : Fin 256) (v : Fin 8), s.val.testBit v.val = true → (bitsOf (wo s.val v.val)).length + 1 = (bitsOf s.val).length := by decide +kernel
theorem size_wo {s v : Nat} (hs : s < 256) (hv : v < 8) (h : s.testBit v = true) : (bitsOf (wo s v)).length + 1 = (bitsOf s).length := size_wo_all ⟨s, hs⟩ ⟨v, hv⟩ h
theorem low_bit_all : ∀ m : Fin 256, m.val ≠ 0 → m.val.testBit (low m.val).val = true := by decide +kernel
theorem low_bit {m : Nat} (hm : m < 256) (h0 : m ≠ 0) : m.testBit (low m).val = true := low_bit_all ⟨m, hm⟩ h0
theorem bitsOf_len (m : Nat) : (bitsOf m).length ≤ 8 := by
  have := List.length_filter_le (fun j : Fin 8 => m.testBit j.val) (List.finRange 8)
  simpa [bitsOf] using this
theorem and_bit {a b : Nat} {x : Fin 8} (h : x ∈ bitsOf (a &&& b)) : a.testBit x.val = true ∧ b.testBit x.val = true := by
  have := mem_bitsOf.1 h
  rw [Nat.testBit_and, Bool.and_eq_true] at this
  exact this

/-- What is left behind the lowest node. -/
def rst (s : Nat) : Nat := wo s (low s).val
/-- The nodes to which the lowest one may be linked. -/
def tieOf (f : Nat → Nat) (s : Nat) : Nat := f (low s).val &&& rst s
theorem rst_lt {s : Nat} (hs : s < 256) (h0 : s ≠ 0) : rst s < s := wo_lt hs (low s).isLt (low_bit hs h0)
theorem size_rst {s : Nat} (hs : s < 256) (h0 : s ≠ 0) : (bitsOf (rst s)).length + 1 = (bitsOf s).length := size_wo hs (low s).isLt (low_bit hs h0)

/-- Matching numbers, with fuel. -/
def nmF (f : Nat → Nat) : Nat → Nat → Nat → Nat
  | 0, _, k => if k = 0 then 1 else 0
  | d + 1, s, k => if s = 0 then (if k = 0 then 1 else 0) else nmF f d (rst s) k + if k = 0 then 0 else ((bitsOf (tieOf f s)).map fun w => nmF f d (wo (rst s) w.val) (k - 1)).sum

theorem nmF_stable (f : Nat → Nat) : ∀ (d s : Nat), s < 256 → s ≤ d → ∀ e, s ≤ e → ∀ k, nmF f d s k = nmF f e s k
  | 0, s, _, hd, e, _, k => by
    have : s = 0 := by omega
    subst this
    cases e <;> simp [nmF]
  | d + 1, s, hs, hd, e, he, k => by
    by_cases h0 : s = 0
    · subst h0
      cases e <;> simp [nmF]
    · cases e with
      | zero => omega
      | succ e =>
        have hr := rst_lt hs h0
        simp only [nmF, if_neg h0]
        rw [nmF_stable f d (rst s) (by omega) (by omega) e (by omega) k]
        congr 1
        split
        · rfl
        · congr 1
          apply List.map_congr_left
          intro w _
          have := wo_le (rst s) w.val
          exact nmF_stable f d _ (by omega) (by omega) e (by omega) _

/-- The matching numbers of the nodes of a set. -/
def nums (f : Nat → Nat) (s k : Nat) : Nat := nmF f s s k
theorem nums_zero (f : Nat → Nat) (k : Nat) : nums f 0 k = if k = 0 then 1 else 0 := rfl
/-- What the first few links give. -/
def tied (f : Nat → Nat) (s : Nat) (l : List (Fin 8)) (k : Nat) : Nat := if k = 0 then 0 else (l.map fun w => nums f (wo (rst s) w.val) (k - 1)).sum
theorem nums_step {f : Nat → Nat} {s : Nat} (hs : s < 256) (h0 : s ≠ 0) (k : Nat) : nums f s k = nums f (rst s) k + tied f s (bitsOf (tieOf f s)) k := by
  obtain ⟨d, rfl⟩ : ∃ d, s = d + 1 := ⟨s - 1, by omega⟩
  have hr := rst_lt hs h0
  unfold nums tied
  simp only [nmF, if_neg h0]
  rw [nmF_stable f d (rst (d + 1)) (by omega) (by omega) (rst (d + 1)) (Nat.le_refl _) k]
  congr 1
  split
  · rfl
  · congr 1
    apply List.map_congr_left
    intro w _
    have := wo_le (rst (d + 1)) w.val
    exact nmF_stable f d _ (by omega) (by omega) _ (Nat.le_refl _) _
theorem tied_nil (f : Nat → Nat) (s k : Nat) : tied f s [] k = 0 := by unfold tied; split <;> simp
theorem tied_snoc (f : Nat → Nat) (s : Nat) (l : List (Fin 8)) (x : Fin 8) (k : Nat) : tied f s (l ++ [x]) k = tied f s l k + if k = 0 then 0 else nums f (wo (rst s) x.val) (k - 1) := by
  unfold tied
  split
  · simp
  · simp [List.sum_append]

theorem sum_zeros {α : Type} (l : List α) : (l.map fun _ => (0 : Nat)).sum = 0 := by
  induction l with
  | nil => rfl
  | cons x l ih => simp [ih]
/-- There are no matchings with more edges than fit. -/
theorem nums_far (f : Nat → Nat) : ∀ (n s : Nat), s < 256 → (bitsOf s).length = n → ∀ k, n < 2 * k → nums f s k = 0 := by
  intro n
  induction n using Nat.strongRecOn with
  | _ n ih =>
    intro s hs hn k hk
    by_cases h0 : s = 0
    · subst h0; rw [nums_zero, if_neg (by omega)]
    · have hr := rst_lt hs h0
      have hsz := size_rst hs h0
      rw [nums_step hs h0, ih _ (by omega) (rst s) (by omega) rfl k (by omega)]
      unfold tied
      rw [if_neg (by omega)]
      have : ∀ w ∈ bitsOf (tieOf f s), nums f (wo (rst s) w.val) (k - 1) = 0 := by
        intro w hw
        have hb := (and_bit hw).2
        have h1 := size_wo (s := rst s) (by omega) w.isLt hb
        have h2 := wo_le (rst s) w.val
        exact ih _ (by omega) _ (by omega) rfl (k - 1) (by omega)
      rw [List.map_congr_left this]
      rw [Nat.zero_add]; exact sum_zeros _
theorem nums_far' {f : Nat → Nat} {s k : Nat} (hs : s < 256) (hk : 5 ≤ k) : nums f s k = 0 := nums_far f _ s hs rfl k (by have := bitsOf_len s; omega)
/-- There is one with no edges. -/
theorem nums_none {f : Nat → Nat} : ∀ (n s : Nat), s ≤ n → s < 256 → nums f s 0 = 1 := by
  intro n
  induction n with
  | zero => intro s h _; have : s = 0 := by omega
            subst this; rfl
  | succ n ih =>
    intro s h hs
    by_cases h0 : s = 0
    · subst h0; rfl
    · have hr := rst_lt hs h0
      rw [nums_step hs h0, ih (rst s) (by omega) (by omega)]
      simp [tied]
theorem nums_none' {f : Nat → Nat} {s : Nat} (hs : s < 256) : nums f s 0 = 1 := nums_none s s (Nat.le_refl _) hs

theorem sum_map_le {α : Type} {l : List α} {g : α → Nat} {b : Nat} (h : ∀ x ∈ l, g x ≤ b) : (l.map g).sum ≤ l.length * b := by
  induction l with
  | nil => simp
  | cons x l ih =>
    have h1 := h x (by simp)
    have h2 := ih (fun y hy => h y (by simp [hy]))
    rw [List.map_cons, List.sum_cons, List.length_cons, Nat.add_mul]
    omega
/-- They are not great. -/
theorem nums_bound (f : Nat → Nat) : ∀ (n s : Nat), s < 256 → (bitsOf s).length ≤ n → ∀ k, nums f s k ≤ 9 ^ n := by
  intro n
  induction n with
  | zero =>
    intro s hs hn k
    by_cases h0 : s = 0
    · subst h0; rw [nums_zero]; split <;> simp
    · have := size_rst hs h0; omega
  | succ n ih =>
    intro s hs hn k
    by_cases h0 : s = 0
    · subst h0; rw [nums_zero]; split
      · exact Nat.one_le_pow _ _ (by decide)
      · simp
    · have hr := rst_lt hs h0
      have hsz := size_rst hs h0
      have h1 := ih (rst s) (by omega) (by omega) k
      rw [nums_step hs h0]
      have h2 : tied f s (bitsOf (tieOf f s)) k ≤ 8 * 9 ^ n := by
        unfold tied
        split
        · simp
        · refine Nat.le_trans (sum_map_le (b := 9 ^ n) ?_) (Nat.mul_le_mul_right _ (bitsOf_len _))
          intro w hw
          have hb := (and_bit hw).2
          have h3 := size_wo (s := rst s) (by omega) w.isLt hb
          have h4 := wo_le (rst s) w.val
          exact ih _ (by omega) (by omega) _
      rw [Nat.pow_succ]
      omega
theorem nums_small {f : Nat → Nat} {s : Nat} (hs : s < 256) (k : Nat) : nums f s k ≤ 43046721 := nums_bound f 8 s hs (bitsOf_len s) k
theorem tied_le (f : Nat → Nat) (s : Nat) (pre suf : List (Fin 8)) (k : Nat) : tied f s pre k ≤ tied f s (pre ++ suf) k := by
  unfold tied
  split
  · exact Nat.le_refl _
  · rw [List.map_append, List.sum_append]; omega

/-- A list whose numbers are not negative, and the last one greater. -/
def Pos (p : List Int) : Prop := 1 ≤ p.length ∧ (∀ i, 0 ≤ co p i) ∧ 0 < co p (p.length - 1)
theorem Pos.one : Pos [1] := ⟨by simp, fun i => by cases i <;> simp [co], by simp [co]⟩
theorem Pos.add {p q : List Int} (hp : Pos p) (hq : Pos q) : Pos (addL p q) := by
  obtain ⟨p1, p2, p3⟩ := hp
  obtain ⟨q1, q2, q3⟩ := hq
  refine ⟨by rw [addL_len]; omega, fun i => by rw [co_addL]; have := p2 i; have := q2 i; omega, ?_⟩
  rw [co_addL, addL_len]
  by_cases h : p.length ≤ q.length
  · have e : max p.length q.length = q.length := by omega
    rw [e]
    have := p2 (q.length - 1)
    omega
  · have e : max p.length q.length = p.length := by omega
    rw [e]
    have := q2 (p.length - 1)
    omega
theorem Pos.cons {p : List Int} (hp : Pos p) : Pos (0 :: p) := by
  obtain ⟨p1, p2, p3⟩ := hp
  refine ⟨by simp, fun i => ?_, ?_⟩
  · cases i with
    | zero => simp [co]
    | succ i => have := p2 i; simpa [co] using this
  · have e : (0 :: p).length - 1 = (p.length - 1) + 1 := by simp; omega
    rw [e]
    simpa [co] using p3
theorem Pos.trim {p : List Int} (hp : Pos p) : trim p = p := by
  refine trim_of_last (ends_iff.1 ?_)
  unfold ends
  have h := hp.2.2
  unfold co at h
  simp only [decide_eq_true_eq]
  exact .inr (by omega)
/-- The matching numbers as a list. -/
def numL (f : Nat → Nat) (s : Nat) : List Int := Go.Proofs.YtjijkgmeddeihaaDoor.trim (tab 5 fun k => (nums f s k : Int))
theorem co_numL {f : Nat → Nat} {s : Nat} (hs : s < 256) (k : Nat) : co (numL f s) k = (nums f s k : Int) := by
  unfold numL
  rw [co_trim, co_tab]
  split
  · rfl
  · rw [nums_far' hs (by omega)]; rfl
theorem Pos.numL {p : List Int} {f : Nat → Nat} {s : Nat} (hp : Pos p) (hs : s < 256) (h : ∀ k, co p k = (nums f s k : Int)) : p = numL f s := by
  rw [← hp.trim]
  exact trim_ext fun i => by rw [h, co_tab]; split; rfl; rw [nums_far' hs (by omega)]; rfl
theorem numL_len (f : Nat → Nat) (s : Nat) : (numL f s).length ≤ 5 := by
  have := trim_len (tab 5 fun k => (nums f s k : Int))
  rw [tab_len] at this
  exact this
theorem within_of_co {lim : Int} {p : List Int} (h : ∀ i, -lim ≤ co p i ∧ co p i ≤ lim) : within lim p = true := within_of fun i hi => by have := h i; rwa [co_at hi] at this

theorem all256 {n : Nat} (h8 : n ≤ 8) : 2 ^ n - 1 < 256 := by have := Nat.pow_le_pow_right (n := 2) (by decide) h8; omega

end Go.Proofs.YtjijkgmeddeihaaDoor
