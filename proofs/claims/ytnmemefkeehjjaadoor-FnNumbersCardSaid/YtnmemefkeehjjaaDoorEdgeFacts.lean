/-
  WHAT IS KNOWN OF A GRAPH WITHOUT AN EDGE, AND WITHOUT ITS TWO NODES: plain functions, no walk.
-/
import Derived.Test.YtnmemefkeehjjaaDoorEdgeRec
namespace Go.Proofs.YtnmemefkeehjjaaDoor
set_option linter.unusedVariables false
set_option linter.unusedSimpArgs false
open Go.RowKit
set_option maxRecDepth 100000

/-- The matchings of a graph: with an edge and without it. -/
theorem cut_nums {xs : List Int} {i j : Nat} (h : edgeB xs (i : Int) (j : Int) = true) (hi : i < xs.length) (hj : j < xs.length) :
    i ≠ j ∧ (cutOf xs (i : Int) (j : Int)).length = xs.length ∧
    ∀ k, nums (gfun xs) (2 ^ xs.length - 1) (k + 1) = nums (gfun (cutOf xs (i : Int) (j : Int))) (2 ^ xs.length - 1) (k + 1) + nums (gfun xs) (wo (wo (2 ^ xs.length - 1) i) j) k := by
  obtain ⟨hg, _⟩ := edge_parts h
  obtain ⟨h1, h8, hok⟩ := gIn_parts hg
  have hlt := gfun_lt h8 hok
  have hs := all256 h8
  have hbit : (gfun xs i).testBit j = true := by
    unfold edgeB nearB at h
    simp only [Bool.and_eq_true, Int.toNat_natCast] at h
    exact h.2.2.2
  have hij : i ≠ j := fun e => by
    subst e
    rw [gIn_irr hg ⟨i, by omega⟩] at hbit; cases hbit
  have hL : cutOf xs (i : Int) (j : Int) = glist xs.length (cutE (gfun xs) i j) := by unfold cutOf; rw [if_pos h]; simp
  have hP : CutP (gfun xs) (cutE (gfun xs) i j) ⟨i, by omega⟩ ⟨j, by omega⟩ := by
    refine ⟨fun e => hij (by simpa using e), hlt, fun p => ?_, fun p q => ?_, hbit, gIn_both hg hbit⟩
    · rw [cutE_ne _ hij]
      unfold upd
      split
      · exact Nat.lt_of_le_of_lt Nat.and_le_left (hlt _)
      · split
        · exact Nat.lt_of_le_of_lt Nat.and_le_left (hlt _)
        · exact hlt _
    · rw [cutE_bit (f := gfun xs) (i := p.val) (j := q.val) hij (by omega) (by omega) q.isLt]
      simp [Fin.ext_iff]
  refine ⟨hij, by rw [hL, glist_len], fun k => ?_⟩
  have e1 := nums_same (F := gfun (cutOf xs (i : Int) (j : Int))) (G := cutE (gfun xs) i j) (2 ^ xs.length - 1) hs (fun p hp => by
    have hin : p.val < xs.length := by
      rcases Nat.lt_or_ge p.val xs.length with h | h
      · exact h
      · have hp2 := Nat.two_pow_pos xs.length
        rw [Nat.testBit_lt_two_pow (Nat.lt_of_lt_of_le (show 2 ^ xs.length - 1 < 2 ^ xs.length by omega) (Nat.pow_le_pow_right (by decide) h))] at hp; cases hp
    rw [hL]
    exact gfun_glist _ hin) (k + 1)
  rw [e1]
  exact hP.both _ hs (all_bit h8 hi) (all_bit h8 hj) k

theorem lift_two : ∀ (n : Fin 9) (a b : Fin 8), a.val < b.val → b.val < n.val → lift b.val (wo (2 ^ (n.val - 1) - 1) a.val) = wo (wo (2 ^ n.val - 1) a.val) b.val := by decide +kernel
/-- The graph without two of its nodes, the greater one first. -/
theorem out_two {xs : List Int} {a b : Nat} (hg : gIn xs = true) (h3 : 3 ≤ xs.length) (hab : a < b) (hb : b < xs.length) :
    outOk xs (b : Int) = true ∧ (∀ x ∈ outOf xs (b : Int), I64 x) ∧ gIn (outOf xs (b : Int)) = true ∧
    gIn (outOf (outOf xs (b : Int)) (a : Int)) = true ∧ outOk (outOf xs (b : Int)) (a : Int) = true ∧ (∀ x ∈ outOf (outOf xs (b : Int)) (a : Int), I64 x) ∧ (outOf (outOf xs (b : Int)) (a : Int)).length = xs.length - 2 ∧
    ∀ k, nums (gfun (outOf (outOf xs (b : Int)) (a : Int))) (2 ^ (xs.length - 2) - 1) k = nums (gfun xs) (wo (wo (2 ^ xs.length - 1) a) b) k := by
  obtain ⟨h1, h8, hok⟩ := gIn_parts hg
  obtain ⟨hO, hl, hg2, hI2, _⟩ := out_facts (v := b) hg (by omega) hb
  have hn := fun {s : Nat} (hs : s < 2 ^ (xs.length - 1)) (k : Nat) => out_nums (v := b) hg (by omega) hb hs k
  obtain ⟨ys, hy⟩ : ∃ ys, outOf xs (b : Int) = ys := ⟨_, rfl⟩
  rw [hy] at hl hg2 hI2 ⊢
  simp only [hy] at hn
  obtain ⟨hO3, hl3, hg3, hI3, hn3⟩ := out_facts (xs := ys) (v := a) hg2 (by omega) (by omega)
  refine ⟨hO, hI2, hg2, hg3, hO3, hI3, by omega, fun k => ?_⟩
  have h := hn3 k
  rw [hl, show xs.length - 1 - 1 = xs.length - 2 by omega] at h
  rw [h]
  have hp := Nat.two_pow_pos (xs.length - 1)
  rw [hn (s := wo (2 ^ (xs.length - 1) - 1) a) (Nat.lt_of_le_of_lt (wo_le _ _) (by omega)) k]
  have := lift_two ⟨xs.length, by omega⟩ ⟨a, by omega⟩ ⟨b, by omega⟩ hab hb
  simp only at this
  rw [this]

/-- The number of matchings with one edge is that of the edges. -/
theorem suf_all : ∀ (n : Fin 9) (i : Fin 8), i.val < n.val → (low (2 ^ n.val - 2 ^ i.val)).val = i.val ∧ rst (2 ^ n.val - 2 ^ i.val) = 2 ^ n.val - 2 ^ (i.val + 1) ∧ 2 ^ n.val - 2 ^ i.val ≠ 0 := by decide +kernel
theorem upTo_tie : ∀ (n : Fin 9) (i : Fin 8) (m : Fin 256), i.val < n.val → (bitsOf (m.val &&& (2 ^ n.val - 2 ^ (i.val + 1)))).length = (upTo m.val i.val n.val).length := by decide +kernel
theorem tied_one {f : Nat → Nat} {s : Nat} (hs : s < 256) : ∀ l : List (Fin 8), tied f s l 1 = l.length
  | [] => tied_nil f s 1
  | x :: l => by
    have ih := tied_one (f := f) hs l
    have hr : rst s < 256 := wo_256 hs
    unfold tied at ih ⊢
    rw [if_neg (by omega)] at ih ⊢
    rw [List.map_cons, List.sum_cons, ih, nums_none' (wo_256 hr), List.length_cons]
    omega
theorem nums_suf {f : Nat → Nat} (hf : ∀ i, f i < 256) {n : Nat} (h8 : n ≤ 8) : ∀ d i, i + d = n → nums f (2 ^ n - 2 ^ i) 1 + (pairsTo f n i).length = (pairsTo f n n).length
  | 0, i, h => by
    obtain rfl : i = n := by omega
    rw [Nat.sub_self, nums_zero]; simp
  | d + 1, i, h => by
    have ih := nums_suf hf h8 d (i + 1) (by omega)
    obtain ⟨e1, e2, e3⟩ := suf_all ⟨n, by omega⟩ ⟨i, by omega⟩ (by show i < n; omega)
    simp only at e1 e2 e3
    have hp := Nat.two_pow_pos i
    have h256 := pow_le_256 h8
    have hs : 2 ^ n - 2 ^ i < 256 := by omega
    rw [nums_step hs e3, tied_one hs, e2]
    rw [pairsTo_succ (by omega), List.length_append, List.length_map] at ih
    have e4 := upTo_tie ⟨n, by omega⟩ ⟨i, by omega⟩ ⟨f i, hf i⟩ (by show i < n; omega)
    simp only at e4
    unfold tieOf
    rw [e2, e1, e4]
    omega
theorem nums_edges {xs : List Int} (hg : gIn xs = true) : nums (gfun xs) (2 ^ xs.length - 1) 1 = (edgesL xs).length := by
  obtain ⟨h1, h8, hok⟩ := gIn_parts hg
  have h := nums_suf (gfun_lt h8 hok) h8 xs.length 0 (by omega)
  unfold edgesL pairsOf
  rw [if_pos hg, List.length_map]
  simpa [pairsTo] using h

/-- The first edge. -/
theorem edge_first {xs : List Int} {e : List Int} {l : List (List Int)} (h : edgesL xs = e :: l) : ∃ a b : Nat, e = [(a : Int), (b : Int)] ∧ a < b ∧ b < xs.length ∧ edgeB xs (a : Int) (b : Int) = true := by
  unfold edgesL pairsOf at h
  split at h
  · rename_i hg
    cases hp : pairsTo (gfun xs) xs.length xs.length with
    | nil => rw [hp] at h; simp at h
    | cons q r =>
      rw [hp, List.map_cons] at h
      injection h with h _
      obtain ⟨q1, q2, q3, q4⟩ := pairsTo_mem (f := gfun xs) (n := xs.length) (k := xs.length) (e := q) (by rw [hp]; exact List.mem_cons_self)
      refine ⟨q.1.val, q.2.val, by rw [← h]; rfl, q2, q3, ?_⟩
      unfold edgeB nearB
      simp only [Int.toNat_natCast]
      rw [hg, q4]
      simp
      omega
  · cases h

end Go.Proofs.YtnmemefkeehjjaaDoor
