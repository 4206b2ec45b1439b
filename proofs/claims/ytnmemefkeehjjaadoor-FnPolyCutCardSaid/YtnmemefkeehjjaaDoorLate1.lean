/-
  Late1: EdgeRec EdgeFacts PCutMath.
-/
import Derived.Test.YtnmemefkeehjjaaDoorNumSum
import Derived.Test.YtnmemefkeehjjaaDoorCutMath
import Derived.Test.YtnmemefkeehjjaaDoorImplPoly
/-
  MATCHING NUMBERS AT AN EDGE: without it, and with it; plain functions, no walk.
-/
namespace Go.Proofs.YtnmemefkeehjjaaDoor
set_option linter.unusedVariables false
set_option linter.unusedSimpArgs false
open Go.RowKit
set_option maxRecDepth 100000

/-- Graphs that are the same within a set have the same matchings of it. -/
theorem nums_near {F G : Nat → Nat} : ∀ s, s < 256 → (∀ i : Fin 8, s.testBit i.val = true → F i.val &&& s = G i.val &&& s) → ∀ k, nums F s k = nums G s k := by
  intro s
  induction s using Nat.strongRecOn with
  | _ s ih =>
    intro hs h k
    by_cases h0 : s = 0
    · subst h0; rw [nums_zero, nums_zero]
    · have hr := rst_lt hs h0
      have hsub : ∀ (t : Nat) (v : Fin 8), (∀ i : Fin 8, t.testBit i.val = true → F i.val &&& t = G i.val &&& t) → ∀ i : Fin 8, (wo t v.val).testBit i.val = true → F i.val &&& wo t v.val = G i.val &&& wo t v.val := fun t v ht i hi => by
        have := ht i (sub8_wo t v i hi)
        unfold wo
        rw [← Nat.and_assoc, ← Nat.and_assoc, this]
      have ht : tieOf F s = tieOf G s := by
        have := h (low s) (low_bit hs h0)
        unfold tieOf rst wo
        rw [← Nat.and_assoc, ← Nat.and_assoc, this]
      rw [nums_step hs h0, nums_step hs h0, ih (rst s) hr (by omega) (hsub s (low s) h), ht]
      congr 1
      unfold tied
      split
      · rfl
      · congr 1
        apply List.map_congr_left
        intro w _
        have hle := wo_le (rst s) w.val
        exact ih (wo (rst s) w.val) (by omega) (by omega) (hsub (rst s) w (hsub s (low s) h)) _

/-- A graph, and it without an edge. -/
structure CutP (f g : Nat → Nat) (a b : Fin 8) : Prop where
  ne : a ≠ b
  fl : ∀ i, f i < 256
  gl : ∀ i, g i < 256
  bit : ∀ i j : Fin 8, (g i.val).testBit j.val = ((f i.val).testBit j.val && !decide (i = a ∧ j = b) && !decide (i = b ∧ j = a))
  ab : (f a.val).testBit b.val = true
  ba : (f b.val).testBit a.val = true
theorem CutP.swap {f g : Nat → Nat} {a b : Fin 8} (h : CutP f g a b) : CutP f g b a :=
  ⟨h.ne.symm, h.fl, h.gl, fun i j => by rw [h.bit, Bool.and_right_comm], h.ba, h.ab⟩
theorem CutP.near {f g : Nat → Nat} {a b : Fin 8} (h : CutP f g a b) {s : Nat} (hs : s < 256) (hm : s.testBit a.val = false ∨ s.testBit b.val = false) (k : Nat) : nums f s k = nums g s k := by
  refine nums_near s hs (fun i hi => eq_bits (Nat.lt_of_le_of_lt Nat.and_le_right hs) (Nat.lt_of_le_of_lt Nat.and_le_right hs) (fun j => ?_)) k
  rw [Nat.testBit_and, Nat.testBit_and, h.bit]
  cases hj : s.testBit j.val with
  | false => simp
  | true =>
    rcases hm with hm | hm
    · have h1 : i ≠ a := fun e => by subst e; rw [hi] at hm; cases hm
      have h2 : j ≠ a := fun e => by subst e; rw [hj] at hm; cases hm
      simp [h1, h2]
    · have h1 : i ≠ b := fun e => by subst e; rw [hi] at hm; cases hm
      have h2 : j ≠ b := fun e => by subst e; rw [hj] at hm; cases hm
      simp [h1, h2]
theorem CutP.least {f g : Nat → Nat} {a b : Fin 8} (h : CutP f g a b) {s : Nat} (hs : s < 256) (ha : s.testBit a.val = true) (hl : a = low s) (hb : s.testBit b.val = true) (j : Nat) : nums f s (j + 1) = nums g s (j + 1) + nums f (wo (wo s a.val) b.val) j := by
  have h0 := nz_bit ha
  have hr : rst s = wo s a.val := by unfold rst; rw [← hl]
  have hr256 : wo s a.val < 256 := wo_256 hs
  have hra : (wo s a.val).testBit a.val = false := by rw [wo_bit]; simp
  have hrb : (wo s a.val).testBit b.val = true := by rw [wo_bit, hb]; simp [h.ne.symm]
  rw [nums_sum hs h0, nums_sum hs h0, hr, h.near hr256 (.inl hra), Nat.add_assoc]
  congr 1
  have hp := sumN_point (nums f (wo (wo s a.val) b.val) j) b
  rw [← hp, ← sumN_add]
  refine sumN_congr 8 fun w hw => ?_
  have et : ∀ F : Nat → Nat, (tieOf F s).testBit w = ((F a.val).testBit w && (wo s a.val).testBit w) := fun F => by
    unfold tieOf; rw [hr, ← hl, Nat.testBit_and]
  have eb := h.bit a ⟨w, hw⟩
  have ew := wo_bit (wo s a.val) ⟨w, hw⟩ a
  simp only at eb ew
  rw [et, et, eb]
  by_cases hwb : w = b.val
  · subst hwb
    rw [h.ab, hrb, if_pos rfl]
    simp
  · have hwb2 : (⟨w, hw⟩ : Fin 8) ≠ b := fun e => hwb (by rw [← e])
    rw [if_neg hwb, Nat.add_zero, h.near (wo_256 hr256) (.inl (by rw [ew, hra]; rfl))]
    simp [hwb2, h.ne]
theorem CutP.both {f g : Nat → Nat} {a b : Fin 8} (h : CutP f g a b) : ∀ s, s < 256 → s.testBit a.val = true → s.testBit b.val = true → ∀ j, nums f s (j + 1) = nums g s (j + 1) + nums f (wo (wo s a.val) b.val) j := by
  intro s
  induction s using Nat.strongRecOn with
  | _ s ih =>
    intro hs ha hb j
    have h0 := nz_bit ha
    by_cases la : a = low s
    · exact h.least hs ha la hb j
    by_cases lb : b = low s
    · rw [wo_comm]; exact h.swap.least hs hb lb ha j
    obtain ⟨l, hl⟩ : ∃ l, low s = l := ⟨_, rfl⟩
    have hr : rst s = wo s l.val := by unfold rst; rw [hl]
    have hlt : wo s l.val < s := by have := rst_lt hs h0; rwa [hr] at this
    have hr256 : wo s l.val < 256 := wo_256 hs
    have hsl : s.testBit l.val = true := by rw [← hl]; exact low_bit hs h0
    rw [hl] at la lb
    have hra : (wo s l.val).testBit a.val = true := by rw [wo_bit, ha]; simp [la]
    have hrb : (wo s l.val).testBit b.val = true := by rw [wo_bit, hb]; simp [lb]
    have hsa : (wo s a.val).testBit l.val = true := by rw [wo_bit, hsl]; simp [Ne.symm la]
    have hsab : (wo (wo s a.val) b.val).testBit l.val = true := by rw [wo_bit, hsa]; simp [Ne.symm lb]
    have la' : low (wo s a.val) = l := by rw [low_wo hs h0 a (by rw [hl]; exact la), hl]
    have l' : low (wo (wo s a.val) b.val) = l := by rw [low_wo (wo_256 hs) (nz_bit hsa) b (by rw [la']; exact lb), la']
    have hr' : rst (wo (wo s a.val) b.val) = wo (wo (wo s l.val) a.val) b.val := by
      unfold rst; rw [l', wo_comm, wo_comm s a.val, ← wo_comm (wo s l.val)] <;> try rfl
    have et : ∀ (F : Nat → Nat) w, (tieOf F s).testBit w = ((F l.val).testBit w && (wo s l.val).testBit w) := fun F w => by
      unfold tieOf; rw [hr, hl, Nat.testBit_and]
    have et' : ∀ w, (tieOf f (wo (wo s a.val) b.val)).testBit w = ((f l.val).testBit w && (wo (wo (wo s l.val) a.val) b.val).testBit w) := fun w => by
      unfold tieOf; rw [hr', l', Nat.testBit_and]
    have eg : ∀ w, w < 8 → (g l.val).testBit w = (f l.val).testBit w := fun w hw => by
      have := h.bit l ⟨w, hw⟩
      simp only at this
      rw [this]; simp [Ne.symm la, Ne.symm lb]
    rw [nums_sum hs h0, nums_sum (f := g) hs h0, hr, ih _ hlt hr256 hra hrb j]
    cases j with
    | zero =>
      rw [nums_none' (wo_256 (wo_256 hr256)), nums_none' (wo_256 (wo_256 hs))]
      have : sumN (fun w => if (tieOf f s).testBit w = true then nums f (wo (wo s l.val) w) 0 else 0) 8 = sumN (fun w => if (tieOf g s).testBit w = true then nums g (wo (wo s l.val) w) 0 else 0) 8 := sumN_congr 8 fun w hw => by
        rw [et, et, eg w hw, nums_none' (wo_256 hr256), nums_none' (wo_256 hr256)]
      omega
    | succ i =>
      rw [nums_sum (f := f) (s := wo (wo s a.val) b.val) (wo_256 (wo_256 hs)) (nz_bit hsab), hr']
      have : sumN (fun w => if (tieOf f s).testBit w = true then nums f (wo (wo s l.val) w) (i + 1) else 0) 8 = sumN (fun w => if (tieOf g s).testBit w = true then nums g (wo (wo s l.val) w) (i + 1) else 0) 8 + sumN (fun w => if (tieOf f (wo (wo s a.val) b.val)).testBit w = true then nums f (wo (wo (wo (wo s l.val) a.val) b.val) w) i else 0) 8 := by
        rw [← sumN_add]
        refine sumN_congr 8 fun w hw => ?_
        rw [et, et, et', eg w hw]
        have wa := wo_bit (wo s l.val) a ⟨w, hw⟩
        have wb := wo_bit (wo (wo s l.val) a.val) b ⟨w, hw⟩
        have wwa := wo_bit (wo s l.val) ⟨w, hw⟩ a
        have wwb := wo_bit (wo s l.val) ⟨w, hw⟩ b
        simp only at wa wb wwa wwb
        rw [wb, wa]
        by_cases hwa : (⟨w, hw⟩ : Fin 8) = a
        · have hn : (wo (wo s l.val) w).testBit a.val = false := by rw [wwa]; simp [hwa]
          rw [h.near (wo_256 hr256) (.inl hn)]
          simp [hwa]
        by_cases hwb : (⟨w, hw⟩ : Fin 8) = b
        · have hn : (wo (wo s l.val) w).testBit b.val = false := by rw [wwb]; simp [hwb]
          rw [h.near (wo_256 hr256) (.inr hn)]
          simp [hwb]
        cases hT : ((f l.val).testBit w && (wo s l.val).testBit w) with
        | false =>
          rw [Bool.and_eq_false_iff] at hT
          rcases hT with h1 | h1 <;> simp [h1]
        | true =>
          rw [Bool.and_eq_true] at hT
          have h1 : (wo (wo s l.val) w).testBit a.val = true := by rw [wwa, hra]; simp [Ne.symm hwa]
          have h2 : (wo (wo s l.val) w).testBit b.val = true := by rw [wwb, hrb]; simp [Ne.symm hwb]
          have hle := wo_le (wo s l.val) w
          rw [hT.1, hT.2, ih _ (by omega) (wo_256 hr256) h1 h2 i, wo_comm (wo s l.val) w, wo_comm (wo (wo s l.val) a.val) w]
          simp [hwa, hwb]
      omega

end Go.Proofs.YtnmemefkeehjjaaDoor

/-
  WHAT IS KNOWN OF A GRAPH WITHOUT AN EDGE, AND WITHOUT ITS TWO NODES: plain functions, no walk.
-/
namespace Go.Proofs.YtnmemefkeehjjaaDoor
set_option linter.unusedVariables false
set_option linter.unusedSimpArgs false
open Go.RowKit
set_option maxRecDepth 100000

/-- The matchings of a graph: with an edge and without it. -/
theorem cut_nums {xs : List Int} {i j : Nat} (h : edgeB xs (i : Int) (j : Int) = true) (hi : i < xs.length) (hj : j < xs.length) :
    i ≠ j ∧ (cutOf xs (i : Int) (j : Int)).length = xs.length ∧
    ∀ k, nums (gfun xs) (2 ^ xs.length - 1) (k + 1) = nums (gfun (cutOf xs (i : Int) (j : Int))) (2 ^ xs.length - 1) (k + 1) + nums (gfun xs) (wo (wo (2 ^ xs.length - 1) i) j) k := by
  obtain ⟨hg, _⟩ := edge_parts h
  obtain ⟨h1, h8, hok⟩ := gIn_parts hg
  have hlt := gfun_lt h8 hok
  have hs := all256 h8
  have hbit : (gfun xs i).testBit j = true := by
    unfold edgeB nearB at h
    simp only [Bool.and_eq_true, Int.toNat_natCast] at h
    exact h.2.2.2
  have hij : i ≠ j := fun e => by
    subst e
    rw [gIn_irr hg ⟨i, by omega⟩] at hbit; cases hbit
  have hL : cutOf xs (i : Int) (j : Int) = glist xs.length (cutE (gfun xs) i j) := by unfold cutOf; rw [if_pos h]; simp
  have hP : CutP (gfun xs) (cutE (gfun xs) i j) ⟨i, by omega⟩ ⟨j, by omega⟩ := by
    refine ⟨fun e => hij (by simpa using e), hlt, fun p => ?_, fun p q => ?_, hbit, gIn_both hg hbit⟩
    · rw [cutE_ne _ hij]
      unfold upd
      split
      · exact Nat.lt_of_le_of_lt Nat.and_le_left (hlt _)
      · split
        · exact Nat.lt_of_le_of_lt Nat.and_le_left (hlt _)
        · exact hlt _
    · rw [cutE_bit (f := gfun xs) (i := p.val) (j := q.val) hij (by omega) (by omega) q.isLt]
      simp [Fin.ext_iff]
  refine ⟨hij, by rw [hL, glist_len], fun k => ?_⟩
  have e1 := nums_same (F := gfun (cutOf xs (i : Int) (j : Int))) (G := cutE (gfun xs) i j) (2 ^ xs.length - 1) hs (fun p hp => by
    have hin : p.val < xs.length := by
      rcases Nat.lt_or_ge p.val xs.length with h | h
      · exact h
      · have hp2 := Nat.two_pow_pos xs.length
        rw [Nat.testBit_lt_two_pow (Nat.lt_of_lt_of_le (show 2 ^ xs.length - 1 < 2 ^ xs.length by omega) (Nat.pow_le_pow_right (by decide) h))] at hp; cases hp
    rw [hL]
    exact gfun_glist _ hin) (k + 1)
  rw [e1]
  exact hP.both _ hs (all_bit h8 hi) (all_bit h8 hj) k

theorem lift_two : ∀ (n : Fin 9) (a b : Fin 8), a.val < b.val → b.val < n.val → lift b.val (wo (2 ^ (n.val - 1) - 1) a.val) = wo (wo (2 ^ n.val - 1) a.val) b.val := by decide +kernel
/-- The graph without two of its nodes, the greater one first. -/
theorem out_two {xs : List Int} {a b : Nat} (hg : gIn xs = true) (h3 : 3 ≤ xs.length) (hab : a < b) (hb : b < xs.length) :
    outOk xs (b : Int) = true ∧ (∀ x ∈ outOf xs (b : Int), I64 x) ∧ gIn (outOf xs (b : Int)) = true ∧
    gIn (outOf (outOf xs (b : Int)) (a : Int)) = true ∧ outOk (outOf xs (b : Int)) (a : Int) = true ∧ (∀ x ∈ outOf (outOf xs (b : Int)) (a : Int), I64 x) ∧ (outOf (outOf xs (b : Int)) (a : Int)).length = xs.length - 2 ∧
    ∀ k, nums (gfun (outOf (outOf xs (b : Int)) (a : Int))) (2 ^ (xs.length - 2) - 1) k = nums (gfun xs) (wo (wo (2 ^ xs.length - 1) a) b) k := by
  obtain ⟨h1, h8, hok⟩ := gIn_parts hg
  obtain ⟨hO, hl, hg2, hI2, _⟩ := out_facts (v := b) hg (by omega) hb
  have hn := fun {s : Nat} (hs : s < 2 ^ (xs.length - 1)) (k : Nat) => out_nums (v := b) hg (by omega) hb hs k
  obtain ⟨ys, hy⟩ : ∃ ys, outOf xs (b : Int) = ys := ⟨_, rfl⟩
  rw [hy] at hl hg2 hI2 ⊢
  simp only [hy] at hn
  obtain ⟨hO3, hl3, hg3, hI3, hn3⟩ := out_facts (xs := ys) (v := a) hg2 (by omega) (by omega)
  refine ⟨hO, hI2, hg2, hg3, hO3, hI3, by omega, fun k => ?_⟩
  have h := hn3 k
  rw [hl, show xs.length - 1 - 1 = xs.length - 2 by omega] at h
  rw [h]
  have hp := Nat.two_pow_pos (xs.length - 1)
  rw [hn (s := wo (2 ^ (xs.length - 1) - 1) a) (Nat.lt_of_le_of_lt (wo_le _ _) (by omega)) k]
  have := lift_two ⟨xs.length, by omega⟩ ⟨a, by omega⟩ ⟨b, by omega⟩ hab hb
  simp only at this
  rw [this]

/-- The number of matchings with one edge is that of the edges. -/
theorem suf_all : ∀ (n : Fin 9) (i : Fin 8), i.val < n.val → (low (2 ^ n.val - 2 ^ i.val)).val = i.val ∧ rst (2 ^ n.val - 2 ^ i.val) = 2 ^ n.val - 2 ^ (i.val + 1) ∧ 2 ^ n.val - 2 ^ i.val ≠ 0 := by decide +kernel
theorem upTo_tie : ∀ (n : Fin 9) (i : Fin 8) (m : Fin 256), i.val < n.val → (bitsOf (m.val &&& (2 ^ n.val - 2 ^ (i.val + 1)))).length = (upTo m.val i.val n.val).length := by decide +kernel
theorem tied_one {f : Nat → Nat} {s : Nat} (hs : s < 256) : ∀ l : List (Fin 8), tied f s l 1 = l.length
  | [] => tied_nil f s 1
  | x :: l => by
    have ih := tied_one (f := f) hs l
    have hr : rst s < 256 := wo_256 hs
    unfold tied at ih ⊢
    rw [if_neg (by omega)] at ih ⊢
    rw [List.map_cons, List.sum_cons, ih, nums_none' (wo_256 hr), List.length_cons]
    omega
theorem nums_suf {f : Nat → Nat} (hf : ∀ i, f i < 256) {n : Nat} (h8 : n ≤ 8) : ∀ d i, i + d = n → nums f (2 ^ n - 2 ^ i) 1 + (pairsTo f n i).length = (pairsTo f n n).length
  | 0, i, h => by
    obtain rfl : i = n := by omega
    rw [Nat.sub_self, nums_zero]; simp
  | d + 1, i, h => by
    have ih := nums_suf hf h8 d (i + 1) (by omega)
    obtain ⟨e1, e2, e3⟩ := suf_all ⟨n, by omega⟩ ⟨i, by omega⟩ (by show i < n; omega)
    simp only at e1 e2 e3
    have hp := Nat.two_pow_pos i
    have h256 := pow_le_256 h8
    have hs : 2 ^ n - 2 ^ i < 256 := by omega
    rw [nums_step hs e3, tied_one hs, e2]
    rw [pairsTo_succ (by omega), List.length_append, List.length_map] at ih
    have e4 := upTo_tie ⟨n, by omega⟩ ⟨i, by omega⟩ ⟨f i, hf i⟩ (by show i < n; omega)
    simp only at e4
    unfold tieOf
    rw [e2, e1, e4]
    omega
theorem nums_edges {xs : List Int} (hg : gIn xs = true) : nums (gfun xs) (2 ^ xs.length - 1) 1 = (edgesL xs).length := by
  obtain ⟨h1, h8, hok⟩ := gIn_parts hg
  have h := nums_suf (gfun_lt h8 hok) h8 xs.length 0 (by omega)
  unfold edgesL pairsOf
  rw [if_pos hg, List.length_map]
  simpa [pairsTo] using h

/-- The first edge. -/
theorem edge_first {xs : List Int} {e : List Int} {l : List (List Int)} (h : edgesL xs = e :: l) : ∃ a b : Nat, e = [(a : Int), (b : Int)] ∧ a < b ∧ b < xs.length ∧ edgeB xs (a : Int) (b : Int) = true := by
  unfold edgesL pairsOf at h
  split at h
  · rename_i hg
    cases hp : pairsTo (gfun xs) xs.length xs.length with
    | nil => rw [hp] at h; simp at h
    | cons q r =>
      rw [hp, List.map_cons] at h
      injection h with h _
      obtain ⟨q1, q2, q3, q4⟩ := pairsTo_mem (f := gfun xs) (n := xs.length) (k := xs.length) (e := q) (by rw [hp]; exact List.mem_cons_self)
      refine ⟨q.1.val, q.2.val, by rw [← h]; rfl, q2, q3, ?_⟩
      unfold edgeB nearB
      simp only [Int.toNat_natCast]
      rw [hg, q4]
      simp
      omega
  · cases h

end Go.Proofs.YtnmemefkeehjjaaDoor

/-
  MATCHING POLYNOMIALS AT AN EDGE: plain functions, no walk.
-/
namespace Go.Proofs.YtnmemefkeehjjaaDoor
set_option linter.unusedVariables false
set_option linter.unusedSimpArgs false
open Go.RowKit
set_option maxRecDepth 100000

theorem conv_neg (p : List Int) (m : Nat) : ∀ a, convTo p [-1] a m = if m < a then -(co p m) else 0
  | 0 => by rw [convTo_zero]; simp
  | a + 1 => by
    rw [convTo_succ, conv_neg p m a]
    by_cases h1 : m < a
    · have c1 : ¬ a ≤ m := by omega
      have c2 : m < a + 1 := by omega
      simp [h1, c1, c2]
    · by_cases h2 : m = a
      · subst h2
        have c2 : m < m + 1 := by omega
        simp [co]
      · have c1 : a ≤ m := by omega
        have c2 : ¬ m < a + 1 := by omega
        have : co [-1] (m - a) = 0 := co_out (by simp; omega)
        simp [h1, c1, c2, this]
theorem co_neg (p : List Int) (m : Nat) : co (trim (mulL p [-1])) m = -(co p m) := by
  rw [co_trim, co_mulL, conv_neg]
  split
  · rfl
  · rw [co_out (by omega)]; rfl

theorem poly_cut_at {n : Nat} {F G H : Nat → Nat} (h3 : 3 ≤ n) (h0 : F 0 = G 0) (hr : ∀ k, F (k + 1) = G (k + 1) + H k) (p : Nat) (hp : p ≤ n) :
    polyAt n G p + -(if p < n - 2 + 1 then polyAt (n - 2) H p else 0) = polyAt n F p := by
  unfold polyAt
  by_cases hpar : (n - p) % 2 = 0
  · by_cases hpn : p = n
    · subst hpn
      have c1 : ¬ p < p - 2 + 1 := by omega
      simp [c1, h0]
    · obtain ⟨q, hq⟩ : ∃ q, (n - p) / 2 = q + 1 := ⟨(n - p) / 2 - 1, by omega⟩
      have hq2 : (n - 2 - p) / 2 = q := by omega
      have hr2 := hr q
      have c1 : p < n - 2 + 1 := by omega
      have c2 : (n - 2 - p) % 2 = 0 := by omega
      rw [if_pos hpar, if_pos hpar, if_pos c1, if_pos c2, hq, hq2, hr2]
      by_cases hs : q % 2 = 0
      · have c3 : ¬ (q + 1) % 2 = 0 := by omega
        rw [if_neg c3, if_neg c3, if_pos hs]; omega
      · have c3 : (q + 1) % 2 = 0 := by omega
        rw [if_pos c3, if_pos c3, if_neg hs]; omega
  · rw [if_neg hpar, if_neg hpar]
    by_cases hpn : p < n - 2 + 1
    · have c2 : ¬ (n - 2 - p) % 2 = 0 := by omega
      rw [if_pos hpn, if_neg c2]; rfl
    · rw [if_neg hpn]; rfl

theorem poly_cut {n : Nat} {F G H : Nat → Nat} (h3 : 3 ≤ n) (h8 : n ≤ 8) (hF : ∀ k, F k ≤ 43046721) (hG : ∀ k, G k ≤ 43046721) (hH : ∀ k, H k ≤ 59049) (hF0 : F 0 = 1) (hG0 : G 0 = 1) (hH0 : H 0 = 1)
    (hr : ∀ k, F (k + 1) = G (k + 1) + H k) :
    timesOk (mpL (n - 2) H) [-1] = true ∧ okPoly (trim (mulL (mpL (n - 2) H) [-1])) = true ∧ okPoly (mpL n G) = true ∧ okPoly (mpL n F) = true ∧ trim (addL (mpL n G) (trim (mulL (mpL (n - 2) H) [-1]))) = mpL n F := by
  obtain ⟨f1, f2⟩ := mpL_ok (n := n) h8 hF hF0
  obtain ⟨g1, g2⟩ := mpL_ok (n := n) h8 hG hG0
  obtain ⟨e1, e2⟩ := mpL_ok (n := n - 2) (g := H) (by omega) (fun k => by have := hH k; omega) hH0
  have hco : ∀ m, co (mpL (n - 2) H) m = if m < n - 2 + 1 then polyAt (n - 2) H m else 0 := fun m => by unfold mpL; rw [co_tab]
  have hle : (mpL (n - 2) H).length = n - 2 + 1 := by unfold mpL; rw [tab_len]
  have hin : within 100000 (mpL (n - 2) H) = true := within_of_co fun i => by
    rw [hco]
    have := polyAt_small (n := n - 2) (p := i) hH
    split <;> omega
  refine ⟨?_, ?_, g1, f1, ?_⟩
  · unfold timesOk
    rw [e1, hin, hle]
    have k1 : okPoly [-1] = true := by decide
    have k2 : within 100000 [-1] = true := by decide
    rw [k1, k2]
    simp
    omega
  · rw [okPoly_iff]
    refine ⟨?_, ?_, trim_last _⟩
    · have h1 := trim_len (mulL (mpL (n - 2) H) [-1])
      have h2 := mulL_len (mpL (n - 2) H) [-1]
      rw [hle] at h2
      simp at h2
      omega
    · refine within_of_co fun i => ?_
      rw [co_neg, hco]
      have := polyAt_small (n := n - 2) (p := i) hH
      split <;> omega
  · rw [← f2]
    refine trim_ext fun i => ?_
    rw [co_addL, co_neg, hco]
    unfold mpL
    rw [co_tab, co_tab]
    by_cases hi : i < n + 1
    · rw [if_pos hi, if_pos hi]
      exact poly_cut_at h3 (by rw [hF0, hG0]) hr i (by omega)
    · rw [if_neg hi, if_neg hi, if_neg (by omega)]; rfl

end Go.Proofs.YtnmemefkeehjjaaDoor

