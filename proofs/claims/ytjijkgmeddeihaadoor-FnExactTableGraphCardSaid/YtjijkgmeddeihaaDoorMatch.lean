/-
  MATCHINGS AS EDGES WITHOUT A COMMON NODE: what the matching numbers count; plain mathematics, no walk.
-/
import Derived.Test.YtjijkgmeddeihaaDoorTies
namespace Go.Proofs.YtjijkgmeddeihaaDoor
set_option linter.unusedVariables false
set_option linter.unusedSimpArgs false
open Go.RowKit

def SymB (f : Nat → Nat) : Prop := ∀ a b : Fin 8, (f a.val).testBit b.val = (f b.val).testBit a.val

theorem mask_bit : ∀ (v i : Fin 8), (255 - 2 ^ v.val).testBit i.val = decide (i ≠ v) := by decide +kernel
theorem wo_bit (s : Nat) (v i : Fin 8) : (wo s v.val).testBit i.val = (s.testBit i.val && decide (i ≠ v)) := by
  unfold wo; rw [Nat.testBit_and, mask_bit]
theorem wo_comm (s a b : Nat) : wo (wo s a) b = wo (wo s b) a := by
  unfold wo; rw [Nat.and_assoc, Nat.and_assoc, Nat.and_comm (255 - 2 ^ a)]
theorem wo_256 {s v : Nat} (hs : s < 256) : wo s v < 256 := Nat.lt_of_le_of_lt (wo_le s v) hs

/-- A set of nodes has k edges without a common node. -/
inductive HasM (f : Nat → Nat) : Nat → Nat → Prop
  | none (s : Nat) : HasM f s 0
  | edge {s k : Nat} (a b : Fin 8) (ha : s.testBit a.val = true) (hb : (wo s a.val).testBit b.val = true) (hab : (f a.val).testBit b.val = true) (h : HasM f (wo (wo s a.val) b.val) k) : HasM f s (k + 1)

/-- A set within another one. -/
def Sub8 (t s : Nat) : Prop := ∀ i : Fin 8, t.testBit i.val = true → s.testBit i.val = true
theorem Sub8.wo {t s : Nat} (h : Sub8 t s) (v : Fin 8) : Sub8 (wo t v.val) (wo s v.val) := fun i hi => by
  rw [wo_bit, Bool.and_eq_true] at hi ⊢; exact ⟨h i hi.1, hi.2⟩
theorem sub8_wo (s : Nat) (v : Fin 8) : Sub8 (wo s v.val) s := fun i hi => by rw [wo_bit, Bool.and_eq_true] at hi; exact hi.1
theorem Sub8.trans {a b c : Nat} (h : Sub8 a b) (k : Sub8 b c) : Sub8 a c := fun i hi => k i (h i hi)

theorem HasM.mono {f : Nat → Nat} {t k : Nat} (h : HasM f t k) : ∀ {s : Nat}, Sub8 t s → HasM f s k := by
  induction h with
  | none t => intro s _; exact .none s
  | edge a b ha hb hab _ ih => intro s hs; exact .edge a b (hs a ha) (hs.wo a b hb) hab (ih ((hs.wo a).wo b))

theorem HasM.fewer {f : Nat → Nat} {s k : Nat} (h : HasM f s k) : ∀ {j : Nat}, j ≤ k → HasM f s j := by
  induction h with
  | none s => intro j hj; obtain rfl : j = 0 := by omega
              exact .none s
  | edge a b ha hb hab _ ih =>
    intro j hj
    cases j with
    | zero => exact .none _
    | succ j => exact .edge a b ha hb hab (ih (by omega))

/-- Of a set's node: it is missed, or in one of the edges. -/
theorem HasM.take {f : Nat → Nat} (hf : SymB f) {s k : Nat} (h : HasM f s k) : ∀ v : Fin 8, s.testBit v.val = true →
    HasM f (Go.Proofs.YtjijkgmeddeihaaDoor.wo s v.val) k ∨ ∃ (w : Fin 8) (j : Nat), k = j + 1 ∧ (Go.Proofs.YtjijkgmeddeihaaDoor.wo s v.val).testBit w.val = true ∧ (f v.val).testBit w.val = true ∧ HasM f (Go.Proofs.YtjijkgmeddeihaaDoor.wo (Go.Proofs.YtjijkgmeddeihaaDoor.wo s v.val) w.val) j := by
  induction h with
  | none s => intro v _; exact .inl (.none _)
  | @edge s k a b ha hb hab hrest ih =>
    intro v hv
    by_cases hva : v = a
    · subst hva; exact .inr ⟨b, _, rfl, hb, hab, hrest⟩
    · by_cases hvb : v = b
      · subst hvb
        rw [wo_bit, Bool.and_eq_true] at hb
        refine .inr ⟨a, _, rfl, ?_, by rw [hf]; exact hab, by rw [wo_comm]; exact hrest⟩
        rw [wo_bit, ha, Bool.true_and, decide_eq_true_eq]; exact fun e => hva e.symm
      · have hv2 : (wo (wo s a.val) b.val).testBit v.val = true := by
          rw [wo_bit, wo_bit, hv]; simp [hva, hvb]
        rcases ih v hv2 with h1 | ⟨w, j, rfl, h2, h3, h4⟩
        · refine .inl (.edge a b ?_ ?_ hab ?_)
          · rw [wo_bit, ha, Bool.true_and, decide_eq_true_eq]; exact fun e => hva e.symm
          · rw [wo_bit, wo_bit] at *
            simp only [Bool.and_eq_true, decide_eq_true_eq] at *
            exact ⟨⟨hb.1, fun e => hvb e.symm⟩, hb.2⟩
          · rw [wo_comm s, wo_comm (wo s a.val)]; exact h1
        · simp only [wo_bit, Bool.and_eq_true, decide_eq_true_eq] at h2
          refine .inr ⟨w, j + 1, rfl, ?_, h3, ?_⟩
          · rw [wo_bit]; simp only [Bool.and_eq_true, decide_eq_true_eq]; exact ⟨h2.1.1.1, h2.2⟩
          · refine .edge a b ?_ ?_ hab ?_
            · simp only [wo_bit, Bool.and_eq_true, decide_eq_true_eq]
              exact ⟨⟨ha, fun e => hva e.symm⟩, fun e => h2.1.1.2 e.symm⟩
            · simp only [wo_bit, Bool.and_eq_true, decide_eq_true_eq] at hb ⊢
              exact ⟨⟨⟨hb.1, fun e => hvb e.symm⟩, fun e => h2.1.2 e.symm⟩, hb.2⟩
            · have e : wo (wo (wo (wo s v.val) w.val) a.val) b.val = wo (wo (wo (wo s a.val) b.val) v.val) w.val := by
                rw [wo_comm (wo s v.val) w.val, wo_comm s v.val, wo_comm _ w.val, wo_comm (wo s a.val) v.val]
              rw [e]; exact h4

theorem sum_pos {α : Type} {l : List α} {g : α → Nat} : 0 < (l.map g).sum ↔ ∃ x ∈ l, 0 < g x := by
  induction l with
  | nil => simp
  | cons y l ih =>
    rw [List.map_cons, List.sum_cons]
    constructor
    · intro h
      by_cases hy : 0 < g y
      · exact ⟨y, by simp, hy⟩
      · obtain ⟨x, hx, hg⟩ := ih.1 (by omega)
        exact ⟨x, by simp [hx], hg⟩
    · rintro ⟨x, hx, hg⟩
      rcases List.mem_cons.1 hx with rfl | hx
      · omega
      · have := ih.2 ⟨x, hx, hg⟩; omega

/-- **The matching numbers are greater than 0 just where there are such edges.** -/
theorem nums_has {f : Nat → Nat} (hf : SymB f) : ∀ s, s < 256 → ∀ k, 0 < nums f s k ↔ HasM f s k := by
  intro s
  induction s using Nat.strongRecOn with
  | _ s ih =>
    intro hs k
    by_cases h0 : s = 0
    · subst h0
      rw [nums_zero]
      constructor
      · intro h; split at h
        · rename_i e; subst e; exact .none _
        · omega
      · intro h
        cases h with
        | none => simp
        | edge a b ha => simp at ha
    · have hr := rst_lt hs h0
      have hlow := low_bit hs h0
      rw [nums_step hs h0]
      constructor
      · intro h
        by_cases h1 : 0 < nums f (rst s) k
        · exact ((ih _ hr (by omega) k).1 h1).mono (sub8_wo s (low s))
        · have h2 : 0 < tied f s (bitsOf (tieOf f s)) k := by omega
          unfold tied at h2
          split at h2
          · omega
          · rename_i hk
            obtain ⟨w, hw, hg⟩ := sum_pos.1 h2
            have hb := and_bit hw
            have hwl := wo_le (rst s) w.val
            have := (ih _ (by omega) (by omega) _).1 hg
            obtain ⟨j, rfl⟩ : ∃ j, k = j + 1 := ⟨k - 1, by omega⟩
            exact .edge (low s) w hlow hb.2 hb.1 this
      · intro h
        rcases h.take hf (low s) hlow with h1 | ⟨w, j, rfl, h2, h3, h4⟩
        · have := (ih _ hr (by omega) k).2 h1
          omega
        · have hwl := wo_le (rst s) w.val
          have h5 := (ih _ (Nat.lt_of_le_of_lt hwl hr) (by omega) j).2 h4
          have : 0 < tied f s (bitsOf (tieOf f s)) (j + 1) := by
            unfold tied
            rw [if_neg (by omega)]
            refine sum_pos.2 ⟨w, ?_, h5⟩
            rw [mem_bitsOf, tie_bit, h3]; exact h2
          omega

/-- The edges of a greatest matching of a set. -/
def gr (f : Nat → Nat) (s : Nat) : Nat := (numL f s).length - 1
theorem gr_len {f : Nat → Nat} {s : Nat} (hs : s < 256) : (numL f s).length = gr f s + 1 := by
  have := (numL_pos (f := f) hs).1
  unfold gr; omega
theorem gr_pos {f : Nat → Nat} {s : Nat} (hs : s < 256) : 0 < nums f s (gr f s) := by
  have h := (numL_pos (f := f) hs).2.2
  rw [co_numL hs] at h
  unfold gr; omega
theorem gr_top {f : Nat → Nat} {s k : Nat} (hs : s < 256) (hk : gr f s < k) : nums f s k = 0 := by
  have h := co_numL (f := f) hs k
  rw [co_out (by rw [gr_len hs]; omega)] at h
  omega
theorem gr_le4 {f : Nat → Nat} {s : Nat} : gr f s ≤ 4 := by have := numL_len f s; unfold gr; omega
theorem gr_of {f : Nat → Nat} {s e : Nat} (hs : s < 256) (h : nums f s e ≠ 0) (ht : ∀ k, e < k → k < 5 → nums f s k = 0) : gr f s = e := by
  rcases Nat.lt_trichotomy (gr f s) e with h1 | h1 | h1
  · exact absurd (gr_top hs h1) h
  · exact h1
  · have := ht _ h1 (by have := gr_le4 (f := f) (s := s); omega)
    have := gr_pos (f := f) hs
    omega
theorem gr_has {f : Nat → Nat} (hf : SymB f) {s : Nat} (hs : s < 256) : HasM f s (gr f s) := (nums_has hf s hs _).1 (gr_pos hs)
theorem gr_max {f : Nat → Nat} (hf : SymB f) {s k : Nat} (hs : s < 256) (h : HasM f s k) : k ≤ gr f s := by
  have h1 := (nums_has hf s hs k).2 h
  by_cases hk : gr f s < k
  · rw [gr_top hs hk] at h1; omega
  · omega
theorem gr_mono {f : Nat → Nat} (hf : SymB f) {t s : Nat} (ht : t < 256) (hs : s < 256) (h : Sub8 t s) : gr f t ≤ gr f s := gr_max hf hs ((gr_has hf ht).mono h)
/-- Without a node there is one edge less at most. -/
theorem gr_without {f : Nat → Nat} (hf : SymB f) {s : Nat} (hs : s < 256) (v : Fin 8) (hv : s.testBit v.val = true) : gr f s ≤ gr f (wo s v.val) + 1 := by
  rcases (gr_has hf hs).take hf v hv with h | ⟨w, j, hj, _, _, h⟩
  · have := gr_max hf (wo_256 hs) h; omega
  · have := gr_max hf (wo_256 hs) (h.mono (sub8_wo _ w)); omega
theorem gr_edge {f : Nat → Nat} (hf : SymB f) {s : Nat} (hs : s < 256) (a b : Fin 8) (ha : s.testBit a.val = true) (hb : (wo s a.val).testBit b.val = true) (hab : (f a.val).testBit b.val = true) : gr f (wo (wo s a.val) b.val) + 1 ≤ gr f s :=
  gr_max hf hs (.edge a b ha hb hab (gr_has hf (wo_256 (wo_256 hs))))
theorem gr_half {f : Nat → Nat} {s : Nat} (hs : s < 256) : 2 * gr f s ≤ (bitsOf s).length := by
  by_cases h : (bitsOf s).length < 2 * gr f s
  · have := nums_far f _ s hs rfl _ h
    have := gr_pos (f := f) hs
    omega
  · omega

/-- A node may be missed: the number for a greatest matching is not 0 without it. -/
theorem gr_missed {f : Nat → Nat} (hf : SymB f) {s : Nat} (hs : s < 256) (v : Fin 8) : nums f (wo s v.val) (gr f s) ≠ 0 ↔ gr f (wo s v.val) = gr f s := by
  have hw := wo_256 (v := v.val) hs
  have hm := gr_mono hf hw hs (sub8_wo s v)
  constructor
  · intro h
    by_cases hlt : gr f (wo s v.val) < gr f s
    · exact absurd (gr_top hw hlt) h
    · omega
  · intro h
    rw [← h]
    exact Nat.ne_of_gt (gr_pos hw)
/-- All but one: the number for half of the nodes is not 0 just where twice a greatest matching are all others. -/
theorem gr_perfect {f : Nat → Nat} {t n : Nat} (ht : t < 256) (hn : (bitsOf t).length + 1 = n) : nums f t (n / 2) = 0 ↔ 2 * gr f t ≠ n - 1 := by
  have hh := gr_half (f := f) ht
  constructor
  · intro h e
    have : n / 2 = gr f t := by omega
    rw [this] at h
    have := gr_pos (f := f) ht
    omega
  · intro h
    exact gr_top ht (by omega)

end Go.Proofs.YtjijkgmeddeihaaDoor
