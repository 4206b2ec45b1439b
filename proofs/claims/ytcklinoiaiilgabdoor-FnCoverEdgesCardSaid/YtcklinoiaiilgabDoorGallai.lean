/-
  FEWEST EDGES THAT HAVE ALL NODES OF A SET: plain mathematics, no walk.
-/
import Derived.Test.YtcklinoiaiilgabDoorMatch
import Derived.Test.YtcklinoiaiilgabDoorPairs
namespace Go.Proofs.YtcklinoiaiilgabDoor
set_option linter.unusedVariables false
set_option linter.unusedSimpArgs false
open Go.RowKit

/-- The nodes of an edge. -/
def edgeSet (e : Fin 8 × Fin 8) : Nat := 2 ^ e.1.val ||| 2 ^ e.2.val
/-- A set without an edge's nodes. -/
def woE (s : Nat) (e : Fin 8 × Fin 8) : Nat := s &&& (255 - edgeSet e)
theorem woE_all : ∀ (a b : Fin 8), 255 - (2 ^ a.val ||| 2 ^ b.val) = (255 - 2 ^ a.val) &&& (255 - 2 ^ b.val) := by decide +kernel
theorem woE_wo (s : Nat) (e : Fin 8 × Fin 8) : woE s e = wo (wo s e.1.val) e.2.val := by
  unfold woE edgeSet wo
  rw [woE_all, Nat.and_assoc]
theorem edge_bit : ∀ (a b i : Fin 8), (2 ^ a.val ||| 2 ^ b.val).testBit i.val = (decide (i = a) || decide (i = b)) := by decide +kernel
/-- Whether a set has a node of an edge. -/
def meets (s : Nat) (e : Fin 8 × Fin 8) : Bool := s.testBit e.1.val || s.testBit e.2.val
theorem meets_all : ∀ (s : Fin 256) (a b : Fin 8), (s.val &&& (2 ^ a.val ||| 2 ^ b.val) = 0) = !(s.val.testBit a.val || s.val.testBit b.val) := by decide +kernel
theorem wo_same_all : ∀ (s : Fin 256) (v : Fin 8), s.val.testBit v.val = false → wo s.val v.val = s.val := by decide +kernel
theorem wo_same {s : Nat} (hs : s < 256) (v : Fin 8) (h : s.testBit v.val = false) : wo s v.val = s := wo_same_all ⟨s, hs⟩ v h

/-- The fewest edges that have all nodes of a set. -/
def few (f : Nat → Nat) (s : Nat) : Nat := (bitsOf s).length - gr f s

variable {f : Nat → Nat}

theorem few_eq {s : Nat} (hs : s < 256) : few f s + gr f s = (bitsOf s).length := by
  have h : 2 * gr f s ≤ (bitsOf s).length := gr_half hs
  unfold few; omega
/-- An edge takes away one at most. -/
theorem few_le (hf : SymB f) {s : Nat} (hs : s < 256) (e : Fin 8 × Fin 8) (hab : (f e.1.val).testBit e.2.val = true) (hne : e.1 ≠ e.2) (hm : meets s e = true) : few f s ≤ few f (woE s e) + 1 := by
  rw [woE_wo]
  have h1 := few_eq (f := f) hs
  have ha := wo_256 (v := e.1.val) hs
  have hb := wo_256 (v := e.2.val) ha
  have h2 := few_eq (f := f) hb
  cases hA : s.testBit e.1.val with
  | true =>
    have z1 := size_wo hs e.1.isLt hA
    cases hB : s.testBit e.2.val with
    | true =>
      have hB2 : (wo s e.1.val).testBit e.2.val = true := by
        rw [wo_bit, hB, Bool.true_and, decide_eq_true_eq]; exact fun h => hne h.symm
      have z2 := size_wo ha e.2.isLt hB2
      have := gr_edge hf hs e.1 e.2 hA hB2 hab
      omega
    | false =>
      have hB2 : (wo s e.1.val).testBit e.2.val = false := by rw [wo_bit, hB]; rfl
      rw [wo_same ha e.2 hB2] at h2 ⊢
      have := gr_mono hf ha hs (sub8_wo s e.1)
      omega
  | false =>
    have hB : s.testBit e.2.val = true := by unfold meets at hm; rw [hA] at hm; simpa using hm
    rw [wo_same hs e.1 hA] at h2 ⊢
    have z1 := size_wo hs e.2.isLt hB
    have := gr_mono hf (wo_256 (v := e.2.val) hs) hs (sub8_wo s e.2)
    omega
/-- An edge at the lowest node takes one away. -/
theorem few_hit (hf : SymB f) {s : Nat} (hs : s < 256) (v w : Fin 8) (hv : s.testBit v.val = true) (hvw : (f v.val).testBit w.val = true) (hne : v ≠ w)
    (hlow : gr f (wo s v.val) = gr f s ∨ s.testBit w.val = false ∨ gr f (wo (wo s v.val) w.val) + 1 = gr f s) :
    few f (wo (wo s v.val) w.val) + 1 = few f s ∨ (s.testBit w.val = false ∧ gr f (wo s v.val) ≠ gr f s) := by
  have ha := wo_256 (v := v.val) hs
  have hb := wo_256 (v := w.val) ha
  have h1 := few_eq (f := f) hs
  have h2 := few_eq (f := f) hb
  have z1 := size_wo hs v.isLt hv
  cases hW : s.testBit w.val with
  | true =>
    have hW2 : (wo s v.val).testBit w.val = true := by
      rw [wo_bit, hW, Bool.true_and, decide_eq_true_eq]; exact fun h => hne h.symm
    have z2 := size_wo ha w.isLt hW2
    have h3 := gr_edge hf hs v w hv hW2 hvw
    have h4 := gr_without hf ha w hW2
    rcases hlow with h | h | h
    · left; omega
    · rw [hW] at h; cases h
    · left; omega
  | false =>
    have hW2 : (wo s v.val).testBit w.val = false := by rw [wo_bit, hW]; rfl
    rw [wo_same ha w hW2] at h2 ⊢
    by_cases h : gr f (wo s v.val) = gr f s
    · left; omega
    · exact .inr ⟨rfl, h⟩
/-- Some edge takes one away. -/
theorem few_some (hf : SymB f) (hirr : ∀ v : Fin 8, (f v.val).testBit v.val = false) {s : Nat} (hs : s < 256) (v : Fin 8) (hv : s.testBit v.val = true) (hn : ∃ w : Fin 8, (f v.val).testBit w.val = true) :
    ∃ w : Fin 8, (f v.val).testBit w.val = true ∧ few f (wo (wo s v.val) w.val) + 1 = few f s := by
  have ne : ∀ w : Fin 8, (f v.val).testBit w.val = true → v ≠ w := fun w h e => by subst e; rw [hirr] at h; cases h
  by_cases hg : gr f (wo s v.val) = gr f s
  · obtain ⟨w, hw⟩ := hn
    rcases few_hit hf hs v w hv hw (ne w hw) (.inl hg) with h | h
    · exact ⟨w, hw, h⟩
    · exact absurd hg h.2
  · rcases (gr_has hf hs).take hf v hv with h | ⟨w, j, hj, h2, h3, h4⟩
    · have h5 := gr_max hf (wo_256 hs) h
      have h6 := gr_mono hf (wo_256 (v := v.val) hs) hs (sub8_wo s v)
      omega
    · have h5 := gr_max hf (wo_256 (wo_256 hs)) h4
      have h6 := gr_edge hf hs v w hv h2 h3
      have hW : s.testBit w.val = true := by rw [wo_bit, Bool.and_eq_true] at h2; exact h2.1
      rcases few_hit hf hs v w hv h3 (ne w h3) (.inr (.inr (by omega))) with h | h
      · exact ⟨w, h3, h⟩
      · rw [hW] at h; cases h.1

theorem foldl_min {α : Type} (g : α → Nat) (c : α → Bool) (m : Nat) : ∀ (l : List α) (b : Nat), m ≤ b → (∀ x ∈ l, c x = true → m ≤ g x) → (m = b ∨ ∃ x ∈ l, c x = true ∧ g x = m) →
    l.foldl (fun b x => if c x = true then min b (g x) else b) b = m
  | [], b, _, _, h => by
    rcases h with h | ⟨x, hx, _⟩
    · exact h.symm
    · cases hx
  | y :: l, b, hb, hl, h => by
    rw [List.foldl_cons]
    refine foldl_min g c m l _ ?_ (fun x hx => hl x (by simp [hx])) ?_
    · split
      · rename_i hy
        have := hl y (by simp) hy
        omega
      · exact hb
    · rcases h with h | ⟨x, hx, hc, hg⟩
      · left
        split
        · rename_i hy
          have := hl y (by simp) hy
          omega
        · exact h
      · rcases List.mem_cons.1 hx with rfl | hx
        · left
          rw [if_pos hc, hg]; omega
        · exact .inr ⟨x, hx, hc, hg⟩

/-- The edges that have a node of a set. -/
def touch (s : Nat) (l : List (Fin 8 × Fin 8)) : Nat := (l.filter fun e => meets s e).length
theorem touch_le (s : Nat) (l : List (Fin 8 × Fin 8)) : touch s l ≤ l.length := List.length_filter_le _ _
theorem touch_cons (s : Nat) (y : Fin 8 × Fin 8) (l : List (Fin 8 × Fin 8)) : touch s (y :: l) = touch s l + (if meets s y = true then 1 else 0) := by
  unfold touch
  rw [List.filter_cons]
  by_cases h : meets s y = true
  · rw [if_pos h, if_pos h, List.length_cons]
  · rw [if_neg h, if_neg h, Nat.add_zero]
theorem touch_lt {t s : Nat} (h : Sub8 t s) : ∀ {l : List (Fin 8 × Fin 8)} {e : Fin 8 × Fin 8}, e ∈ l → meets s e = true → meets t e = false → touch t l + 1 ≤ touch s l := by
  have sub : ∀ e, meets t e = true → meets s e = true := fun e he => by
    unfold meets at he ⊢
    rw [Bool.or_eq_true] at he ⊢
    exact he.imp (h _) (h _)
  have le : ∀ l : List (Fin 8 × Fin 8), touch t l ≤ touch s l := by
    intro l
    induction l with
    | nil => exact Nat.le_refl _
    | cons y l ih =>
      rw [touch_cons, touch_cons]
      by_cases ht : meets t y = true
      · rw [if_pos ht, if_pos (sub y ht)]; omega
      · rw [if_neg ht]; omega
  intro l
  induction l with
  | nil => intro e h; cases h
  | cons y l ih =>
    intro e he h1 h2
    rw [touch_cons, touch_cons]
    rcases List.mem_cons.1 he with rfl | he
    · have := le l
      rw [if_pos h1, if_neg (by rw [h2]; simp)]
      omega
    · have := ih he h1 h2
      by_cases ht : meets t y = true
      · rw [if_pos ht, if_pos (sub y ht)]; omega
      · rw [if_neg ht]; omega

/-- All pairs that are neighbours are edges, the lower node first. -/
theorem pairsTo_has {n : Nat} : ∀ {k : Nat} {a b : Fin 8}, a.val < k → a.val < b.val → b.val < n → (f a.val).testBit b.val = true → (a, b) ∈ pairsTo f n k
  | 0, _, _, h, _, _, _ => by omega
  | k + 1, a, b, h, hab, hb, hbit => by
    by_cases hk : k < 8
    · rw [pairsTo_succ hk, List.mem_append]
      by_cases e : a.val = k
      · right
        have : a = ⟨k, hk⟩ := Fin.ext e
        subst this
        refine List.mem_map.2 ⟨b, ?_, rfl⟩
        unfold upTo
        rw [List.mem_filter, mem_bitsOf, Bool.and_eq_true, decide_eq_true_eq, decide_eq_true_eq]
        exact ⟨hbit, hab, hb⟩
      · left
        exact pairsTo_has (by omega) hab hb hbit
    · rw [pairsTo.eq_2, dif_neg hk]
      have := a.isLt
      exact pairsTo_has (by omega) hab hb hbit

/-- There are as many edges. -/
theorem few_touch (hf : SymB f) (hirr : ∀ v : Fin 8, (f v.val).testBit v.val = false) {n : Nat} (hn : n ≤ 8) (hpw : ∀ i, f i < 2 ^ n) (hnb : ∀ v : Fin 8, v.val < n → ∃ w : Fin 8, (f v.val).testBit w.val = true) :
    ∀ s, s < 2 ^ n → few f s ≤ touch s (pairsTo f n n) := by
  have hp8 : 2 ^ n ≤ 256 := by have := Nat.pow_le_pow_right (n := 2) (by decide) hn; omega
  have bitn : ∀ {m : Nat} {i : Fin 8}, m < 2 ^ n → m.testBit i.val = true → i.val < n := fun {m i} hm h => by
    rcases Nat.lt_or_ge i.val n with h' | h'
    · exact h'
    · rw [Nat.testBit_lt_two_pow (Nat.lt_of_lt_of_le hm (Nat.pow_le_pow_right (by decide) h'))] at h; cases h
  intro s
  induction s using Nat.strongRecOn with
  | _ s ih =>
    intro hs
    have hs2 : s < 256 := by omega
    by_cases h0 : s = 0
    · subst h0
      have : few f 0 = 0 := by unfold few; rw [bitsOf_zero]; simp
      omega
    · have hv := low_bit hs2 h0
      obtain ⟨w, hw, he⟩ := few_some hf hirr hs2 (low s) hv (hnb _ (bitn hs hv))
      have hlt := wo_lt hs2 (low s).isLt hv
      have hle := wo_le (wo s (low s).val) w.val
      have h1 := ih (wo (wo s (low s).val) w.val) (by omega) (by omega)
      have hwn := bitn (hpw _) hw
      have hvn := bitn hs hv
      have hne : low s ≠ w := fun e => by rw [← e, hirr] at hw; cases hw
      have hsub : Sub8 (wo (wo s (low s).val) w.val) s := (sub8_wo _ w).trans (sub8_wo s (low s))
      have hno : ∀ x y : Fin 8, (x = low s ∧ y = w) ∨ (x = w ∧ y = low s) → meets (wo (wo s (low s).val) w.val) (x, y) = false := by
        rintro x y (⟨rfl, rfl⟩ | ⟨rfl, rfl⟩) <;> (unfold meets; simp only [wo_bit]; simp)
      rcases Nat.lt_or_gt_of_ne (fun e => hne (Fin.ext e)) with hab | hab
      · have := touch_lt hsub (pairsTo_has (n := n) (k := n) (a := low s) (b := w) hvn hab hwn hw) (by unfold meets; rw [hv]; rfl) (hno _ _ (.inl ⟨rfl, rfl⟩))
        omega
      · have := touch_lt hsub (pairsTo_has (n := n) (k := n) (a := w) (b := low s) hwn hab hvn (by rw [hf]; exact hw)) (by unfold meets; rw [hv, Bool.or_true]) (hno _ _ (.inr ⟨rfl, rfl⟩))
        omega

/-- **The fewest edges, as they are reckoned for one set behind the other.** -/
theorem few_fold (hf : SymB f) (hirr : ∀ v : Fin 8, (f v.val).testBit v.val = false) {n : Nat} (hn : n ≤ 8) (hpw : ∀ i, f i < 2 ^ n) (hnb : ∀ v : Fin 8, v.val < n → ∃ w : Fin 8, (f v.val).testBit w.val = true)
    {s : Nat} (hs : s < 2 ^ n) (h0 : s ≠ 0) :
    (pairsTo f n n).foldl (fun b e => if meets s e = true then min b (few f (woE s e) + 1) else b) ((pairsTo f n n).length + 1) = few f s := by
  have hp8 : 2 ^ n ≤ 256 := by have := Nat.pow_le_pow_right (n := 2) (by decide) hn; omega
  have hs2 : s < 256 := by omega
  have bitn : ∀ {m : Nat} {i : Fin 8}, m < 2 ^ n → m.testBit i.val = true → i.val < n := fun {m i} hm h => by
    rcases Nat.lt_or_ge i.val n with h' | h'
    · exact h'
    · rw [Nat.testBit_lt_two_pow (Nat.lt_of_lt_of_le hm (Nat.pow_le_pow_right (by decide) h'))] at h; cases h
  refine foldl_min (fun e => few f (woE s e) + 1) (fun e => meets s e) _ _ _ ?_ ?_ ?_
  · have h1 := few_touch hf hirr hn hpw hnb s hs
    have h2 := touch_le s (pairsTo f n n)
    omega
  · intro e he hm
    have h1 := pairsTo_mem he
    exact few_le hf hs2 e h1.2.2.2 (fun h => by have := h1.2.1; rw [h] at this; omega) hm
  · right
    have hv := low_bit hs2 h0
    obtain ⟨w, hw, he⟩ := few_some hf hirr hs2 (low s) hv (hnb _ (bitn hs hv))
    have hwn := bitn (hpw _) hw
    have hvn := bitn hs hv
    have hne : low s ≠ w := fun e => by rw [← e, hirr] at hw; cases hw
    rcases Nat.lt_or_gt_of_ne (fun e => hne (Fin.ext e)) with hab | hab
    · exact ⟨(low s, w), pairsTo_has hvn hab hwn hw, by unfold meets; rw [hv]; rfl, by rw [woE_wo]; exact he⟩
    · exact ⟨(w, low s), pairsTo_has hwn hab hvn (by rw [hf]; exact hw), by unfold meets; rw [hv, Bool.or_true], by rw [woE_wo, wo_comm]; exact he⟩

end Go.Proofs.YtcklinoiaiilgabDoor
