/-
  A MARKET's LISTS AS FUNCTIONS: pairings, stable ones, the market turned. Plain mathematics.
-/
import Derived.Test.YtahilcnmjnjcaaaDoorAllI
namespace Go.Proofs.YtahilcnmjnjcaaaDoor
set_option linter.unusedVariables false
set_option linter.unusedSimpArgs false
open Go.RowKit

/-- Whom a member has, by a list. -/
def prt (xs : List Int) (i : Nat) : Nat := (xs.getD i 0).toNat
theorem prt_at {n : Nat} {xs : List Int} (h : rankB n xs = true) {i : Nat} (hi : i < n) : xs.getD i 0 = (prt xs i : Int) ∧ prt xs i < n := by
  obtain ⟨hl, hin, -⟩ := rank_parts h
  have hi' : i < xs.length := by omega
  have := hin xs[i] (List.getElem_mem _)
  have e : xs.getD i 0 = xs[i] := by simp [List.getD, hi']
  unfold prt
  rw [e]
  omega
theorem pair_of {n : Nat} (h1 : 1 ≤ n) (h5 : n ≤ 5) {xs : List Int} (h : rankB n xs = true) : Pair n (prt xs) (prt (backOf xs)) := by
  have ho := rank_one h1 h5 h
  have hb := rank_back h1 h5 h
  have hg : ∀ c, c < n → prt (backOf xs) c = place xs (c : Int) := fun c hc => by
    unfold prt
    rw [back_place h1 h5 h hc, Int.toNat_natCast]
  refine ⟨fun i hi => (prt_at h hi).2, fun k hk => (prt_at hb hk).2, fun i hi => ?_, fun k hk => ?_⟩
  · rw [hg _ (prt_at h hi).2]
    exact ho.pl_at 0 i (by omega) hi
  · rw [hg k hk]
    exact ho.at_pl 0 k (by omega) hk
theorem ext_getD {xs ys : List Int} (hl : xs.length = ys.length) (h : ∀ i, i < xs.length → xs.getD i 0 = ys.getD i 0) : xs = ys := by
  refine List.ext_getElem hl fun i h1 h2 => ?_
  have := h i h1
  simpa [List.getD, h1, h2] using this
theorem ext_prt {n : Nat} {xs ys : List Int} (hx : rankB n xs = true) (hy : rankB n ys = true) (h : ∀ i, i < n → prt xs i = prt ys i) : xs = ys := by
  have lx := (rank_parts hx).1
  have ly := (rank_parts hy).1
  refine ext_getD (by omega) fun i hi => ?_
  rw [(prt_at hx (by omega)).1, (prt_at hy (by omega)).1, h i (by omega)]
theorem back_twice {n : Nat} (h1 : 1 ≤ n) (h5 : n ≤ 5) {xs : List Int} (h : rankB n xs = true) : backOf (backOf xs) = xs := by
  have lx := (rank_parts h).1
  exact ext_getD (by rw [backOf_len, backOf_len]) fun i hi => back_back h1 h5 h (by rw [backOf_len, backOf_len] at hi; omega)
theorem inj2_of {n : Nat} (h1 : 1 ≤ n) (h5 : n ≤ 5) {ls : List (List Int)} (hl : ls.length = n) (hls : ∀ l ∈ ls, rankB n l = true) : Inj2 n (placeL ls) := by
  have hr := ranks_of h1 h5 hl hls
  intro i k k' hi hk hk' e
  rw [← hr.at_pl i k hi hk, e, hr.at_pl i k' hi hk']

theorem mem_rowB {b : Nat → Nat → Bool} {i j k : Nat} : ∀ m, (j, k) ∈ rowB b i m ↔ j = i ∧ k < m ∧ b i k = true
  | 0 => by simp [rowB]
  | m + 1 => by
    have ih := mem_rowB (b := b) (i := i) (j := j) (k := k) m
    cases hb : b i m with
    | true =>
      rw [rowB_yes hb, List.mem_append, ih, List.mem_singleton, Prod.mk.injEq]
      constructor
      · rintro (⟨h1, h2, h3⟩ | ⟨h1, h2⟩)
        · exact ⟨h1, by omega, h3⟩
        · subst h2; exact ⟨h1, by omega, hb⟩
      · rintro ⟨h1, h2, h3⟩
        by_cases e : k = m
        · exact .inr ⟨h1, e⟩
        · exact .inl ⟨h1, by omega, h3⟩
    | false =>
      rw [rowB_no hb, ih]
      constructor
      · rintro ⟨h1, h2, h3⟩; exact ⟨h1, by omega, h3⟩
      · rintro ⟨h1, h2, h3⟩
        refine ⟨h1, ?_, h3⟩
        rcases Nat.lt_or_eq_of_le (Nat.le_of_lt_succ h2) with h | h
        · exact h
        · subst h; rw [hb] at h3; cases h3
theorem mem_pairsB {b : Nat → Nat → Bool} {n i k : Nat} : ∀ m, (i, k) ∈ pairsB b n m ↔ i < m ∧ k < n ∧ b i k = true
  | 0 => by simp [pairsB]
  | m + 1 => by
    show (i, k) ∈ pairsB b n m ++ rowB b m n ↔ _
    rw [List.mem_append, mem_pairsB m, mem_rowB]
    constructor
    · rintro (⟨h1, h2, h3⟩ | ⟨h1, h2, h3⟩)
      · exact ⟨by omega, h2, h3⟩
      · subst h1; exact ⟨by omega, h2, h3⟩
    · rintro ⟨h1, h2, h3⟩
      by_cases e : i = m
      · subst e; exact .inr ⟨rfl, h2, h3⟩
      · exact .inl ⟨by omega, h2, h3⟩

/-- A block, as functions say it. -/
theorem blockB_fun {n : Nat} (h1 : 1 ≤ n) (h5 : n ≤ 5) {ls rs : List (List Int)} {xs : List Int} (h : rankB n xs = true) {i k : Nat} (hi : i < n) (hk : k < n) :
    blockB ls rs xs i k = true ↔ placeL ls i k < placeL ls i (prt xs i) ∧ placeL rs k i < placeL rs k (prt (backOf xs) k) := by
  unfold blockB blockL blockR placeL
  rw [Bool.and_eq_true, decide_eq_true_iff, decide_eq_true_iff, (prt_at h hi).1, (prt_at (rank_back h1 h5 h) hk).1]
theorem blocks_none {ls rs : List (List Int)} {xs : List Int} {n : Nat} (hl : xs.length = n) : blocksOf ls rs xs = [] ↔ ∀ i k, i < n → k < n → blockB ls rs xs i k = false := by
  unfold blocksOf
  rw [hl]
  constructor
  · intro h i k hi hk
    cases hb : blockB ls rs xs i k with
    | false => rfl
    | true =>
      have := (mem_pairsB (b := blockB ls rs xs) (n := n) n).2 ⟨hi, hk, hb⟩
      rw [h] at this
      cases this
  · exact fun h => pairsB_none n fun a k ha hk => h a k ha hk
theorem stable_fun {ls rs : List (List Int)} {xs : List Int} (hp : pairOk ls rs xs = true) : stableB ls rs xs = true ↔ StableF ls.length (placeL ls) (placeL rs) (prt xs) (prt (backOf xs)) := by
  obtain ⟨h1, h5, hrl, hpl, hls, hrs, hpr⟩ := pair_parts hp
  have e : stableB ls rs xs = true ↔ blocksOf ls rs xs = [] := by
    constructor
    · exact fun h => (stable_parts h).2
    · intro h; unfold stableB; rw [hp, h]; rfl
  rw [e, blocks_none hpl]
  constructor
  · intro h i k hi hk hb
    have := (blockB_fun h1 h5 (ls := ls) (rs := rs) hpr hi hk).2 hb
    rw [h i k hi hk] at this
    cases this
  · intro h i k hi hk
    cases hb : blockB ls rs xs i k with
    | false => rfl
    | true => exact absurd ((blockB_fun h1 h5 hpr hi hk).1 hb) (h i k hi hk)

/-- The market turned. -/
theorem mktOk_turn {ls rs : List (List Int)} (h : mktOk ls rs = true) : mktOk rs ls = true := by
  obtain ⟨⟨h1, h5, hl⟩, hs1, hs2⟩ := mktOk_parts h
  rw [mktOk_sides (by omega) (by omega) hl.symm, hs1, hs2]; rfl
theorem pairOk_turn {ls rs : List (List Int)} {xs : List Int} (h : pairOk ls rs xs = true) : pairOk rs ls (backOf xs) = true := by
  obtain ⟨h1, h5, hrl, hpl, hls, hrs, hpr⟩ := pair_parts h
  unfold pairOk at h ⊢
  rw [Bool.and_eq_true] at h ⊢
  exact ⟨mktOk_turn h.1, by rw [hrl]; exact rank_back h1 h5 hpr⟩
theorem block_turn {n : Nat} (h1 : 1 ≤ n) (h5 : n ≤ 5) {ls rs : List (List Int)} {xs : List Int} (h : rankB n xs = true) {i : Nat} (hi : i < n) (k : Nat) : blockB rs ls (backOf xs) k i = blockB ls rs xs i k := by
  unfold blockB blockL blockR
  rw [back_back h1 h5 h hi, Bool.and_comm]
theorem stable_turn {ls rs : List (List Int)} {xs : List Int} (h : stableB ls rs xs = true) : stableB rs ls (backOf xs) = true := by
  obtain ⟨hp, hb⟩ := stable_parts h
  obtain ⟨h1, h5, hrl, hpl, hls, hrs, hpr⟩ := pair_parts hp
  have hn := (blocks_none hpl).1 hb
  have : blocksOf rs ls (backOf xs) = [] := (blocks_none (n := ls.length) (by rw [backOf_len, hpl])).2 fun i k hi hk => by rw [block_turn h1 h5 hpr hk i]; exact hn k i hk hi
  unfold stableB
  rw [pairOk_turn hp, this]; rfl

/-- As many blocks in the market turned. -/
def cnt (f : Nat → Nat) (n : Nat) : Nat := ((List.range n).map f).sum
theorem cnt_zero (f : Nat → Nat) : cnt f 0 = 0 := rfl
theorem cnt_succ (f : Nat → Nat) (n : Nat) : cnt f (n + 1) = cnt f n + f n := by simp [cnt, List.range_succ]
theorem cnt_congr {f g : Nat → Nat} : ∀ {n : Nat}, (∀ i, i < n → f i = g i) → cnt f n = cnt g n
  | 0, _ => rfl
  | n + 1, h => by rw [cnt_succ, cnt_succ, cnt_congr fun i hi => h i (by omega), h n (by omega)]
theorem cnt_add (f g : Nat → Nat) : ∀ n, cnt (fun i => f i + g i) n = cnt f n + cnt g n
  | 0 => rfl
  | n + 1 => by rw [cnt_succ, cnt_succ, cnt_succ, cnt_add f g n]; omega
theorem cnt_none : ∀ n, cnt (fun _ => 0) n = 0
  | 0 => rfl
  | n + 1 => by rw [cnt_succ, cnt_none n]
theorem cnt_swap (f : Nat → Nat → Nat) (m : Nat) : ∀ n, cnt (fun i => cnt (fun k => f i k) m) n = cnt (fun k => cnt (fun i => f i k) n) m
  | 0 => by
    rw [cnt_zero]
    exact (cnt_none m).symm
  | n + 1 => by
    rw [cnt_succ, cnt_swap f m n, ← cnt_add]
    exact cnt_congr fun k _ => (cnt_succ (fun i => f i k) n).symm
theorem rowB_cnt (b : Nat → Nat → Bool) (i : Nat) : ∀ m, (rowB b i m).length = cnt (fun k => if b i k = true then 1 else 0) m
  | 0 => rfl
  | m + 1 => by
    rw [cnt_succ, ← rowB_cnt b i m]
    cases hb : b i m with
    | true => rw [rowB_yes hb]; simp
    | false => rw [rowB_no hb]; simp
theorem pairsB_cnt (b : Nat → Nat → Bool) (n : Nat) : ∀ m, (pairsB b n m).length = cnt (fun i => cnt (fun k => if b i k = true then 1 else 0) n) m
  | 0 => rfl
  | m + 1 => by
    show (pairsB b n m ++ rowB b m n).length = _
    rw [List.length_append, pairsB_cnt b n m, rowB_cnt, cnt_succ]
theorem blocks_turn {ls rs : List (List Int)} {xs : List Int} (h : pairOk ls rs xs = true) : (blocksOf rs ls (backOf xs)).length = (blocksOf ls rs xs).length := by
  obtain ⟨h1, h5, hrl, hpl, hls, hrs, hpr⟩ := pair_parts h
  unfold blocksOf
  rw [backOf_len, pairsB_cnt, pairsB_cnt, cnt_swap]
  exact cnt_congr fun i hi => cnt_congr fun k hk => by rw [block_turn h1 h5 hpr (by omega)]

/-- Costs are turned. -/
theorem cost_turn {n : Nat} (h1 : 1 ≤ n) (h5 : n ≤ 5) (rs : List (List Int)) {xs : List Int} (h : rankB n xs = true) : sumI (costL rs (backOf xs)) n = sumI (costR rs xs) n := by
  have hb := rank_back h1 h5 h
  have e0 : sumI (costL rs (backOf xs)) n = sumI (fun k => (fun p : Nat × Nat => (placeL rs p.1 p.2 : Int)) (k, ((backOf xs).getD k 0).toNat)) n := by
    refine sumI_congr fun i hi => ?_
    unfold costL placeL
    rw [(prt_at hb hi).1]
    rfl
  have e1 : sumI (costR rs xs) n = sumI (fun i => (fun p : Nat × Nat => (placeL rs p.1 p.2 : Int)) ((xs.getD i 0).toNat, i)) n := sumI_congr fun i hi => rfl
  rw [e0, e1]
  unfold sumI
  have hp := perm_sum (fun p : Nat × Nat => (placeL rs p.1 p.2 : Int)) (back_perm h1 h5 h)
  rw [List.map_map, List.map_map] at hp
  exact hp
theorem cost_turn2 {n : Nat} (h1 : 1 ≤ n) (h5 : n ≤ 5) (ls : List (List Int)) {xs : List Int} (h : rankB n xs = true) : sumI (costR ls (backOf xs)) n = sumI (costL ls xs) n := by
  rw [← cost_turn h1 h5 ls (rank_back h1 h5 h), back_twice h1 h5 h]

/-- Sums that are at most others. -/
theorem sumI_mono {f g : Nat → Int} : ∀ {n : Nat}, (∀ i, i < n → f i ≤ g i) → sumI f n ≤ sumI g n
  | 0, _ => Int.le_refl _
  | n + 1, h => by
    rw [sumI_succ, sumI_succ]
    have := sumI_mono (f := f) (g := g) (n := n) fun i hi => h i (by omega)
    have := h n (by omega)
    omega
theorem sumI_add (f g : Nat → Int) : ∀ n, sumI (fun i => f i + g i) n = sumI f n + sumI g n
  | 0 => rfl
  | n + 1 => by rw [sumI_succ, sumI_succ, sumI_succ, sumI_add f g n]; omega
theorem costL_prt {n : Nat} {ls : List (List Int)} {xs : List Int} (h : rankB n xs = true) {i : Nat} (hi : i < n) : costL ls xs i = (placeL ls i (prt xs i) : Int) := by
  unfold costL placeL
  rw [(prt_at h hi).1]

/-- Above, as functions say it. -/
theorem above_fun {n : Nat} {ls : List (List Int)} (hl : ls.length = n) {ps qs : List Int} (hp : rankB n ps = true) (hq : rankB n qs = true) : aboveB ls ps qs = true ↔ ∀ i, i < n → placeL ls i (prt ps i) ≤ placeL ls i (prt qs i) := by
  unfold aboveB aboveTo
  rw [List.all_eq_true, hl]
  constructor
  · intro h i hi
    have := h i (List.mem_range.2 hi)
    rw [decide_eq_true_iff, (prt_at hp hi).1, (prt_at hq hi).1] at this
    exact this
  · intro h i hi
    have hi := List.mem_range.1 hi
    rw [decide_eq_true_iff, (prt_at hp hi).1, (prt_at hq hi).1]
    exact h i hi
theorem aboveOk_parts {ls rs : List (List Int)} {ps qs : List Int} (h : aboveOk ls rs ps qs = true) : stableB ls rs ps = true ∧ stableB ls rs qs = true ∧ aboveB ls ps qs = true := by
  unfold aboveOk at h
  rw [Bool.and_eq_true, Bool.and_eq_true] at h
  exact h
theorem aboveOk_of {ls rs : List (List Int)} {ps qs : List Int} (h1 : stableB ls rs ps = true) (h2 : stableB ls rs qs = true) (h3 : aboveB ls ps qs = true) : aboveOk ls rs ps qs = true := by
  unfold aboveOk
  rw [h1, h2, h3]; rfl

end Go.Proofs.YtahilcnmjnjcaaaDoor
