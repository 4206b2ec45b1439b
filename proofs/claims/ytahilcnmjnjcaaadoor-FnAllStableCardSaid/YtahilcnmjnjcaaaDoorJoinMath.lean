/-
  THE BETTER ONES OF TWO STABLE PAIRINGS, AND THE WORSE ONES, as lists: plain mathematics.
-/
import Derived.Test.YtahilcnmjnjcaaaDoorMktFun
import Derived.Test.YtahilcnmjnjcaaaDoorSpecChoose
namespace Go.Proofs.YtahilcnmjnjcaaaDoor
set_option linter.unusedVariables false
set_option linter.unusedSimpArgs false
open Go.RowKit

theorem rank_of_fun {n : Nat} (h1 : 1 ≤ n) (h5 : n ≤ 5) {xs : List Int} (hl : xs.length = n) (h0 : ∀ i, i < n → 0 ≤ xs.getD i 0) {p' : Nat → Nat} (hp : Pair n (prt xs) p') : rankB n xs = true ∧ ∀ k, k < n → prt (backOf xs) k = p' k := by
  have hat : ∀ i (hi : i < xs.length), xs[i] = (prt xs i : Int) := fun i hi => by
    have := h0 i (by omega)
    unfold prt
    simp [List.getD, hi] at this ⊢
    omega
  have hb : Begins n xs := by
    refine ⟨?_, fun x hx => ?_⟩
    · rw [List.nodup_iff_pairwise_ne, List.pairwise_iff_getElem]
      intro i j hi hj hij e
      rw [hat i hi, hat j hj] at e
      have := hp.inj (by omega) (by omega) (show prt xs i = prt xs j by omega)
      omega
    · obtain ⟨i, hi, rfl⟩ := List.getElem_of_mem hx
      have := hp.lt i (by omega)
      rw [hat i hi]
      omega
  have hr := hb.rank hl
  refine ⟨hr, fun k hk => ?_⟩
  have hq := pair_of h1 h5 hr
  exact hp.inj (hq.lt' k hk) (hp.lt' k hk) (by rw [hq.fw k hk, hp.fw k hk])
theorem stable_of_fun {ls rs : List (List Int)} (hm : mktOk ls rs = true) {xs : List Int} (hl : xs.length = ls.length) (h0 : ∀ i, i < ls.length → 0 ≤ xs.getD i 0) {p' : Nat → Nat} (hp : Pair ls.length (prt xs) p') (hs : StableF ls.length (placeL ls) (placeL rs) (prt xs) p') : stableB ls rs xs = true := by
  obtain ⟨⟨h1, h5, hrl⟩, -⟩ := mktOk_parts hm
  obtain ⟨hr, hb⟩ := rank_of_fun h1 h5 hl h0 hp
  have hpo : pairOk ls rs xs = true := by unfold pairOk; rw [hm, hr]; rfl
  refine (stable_fun hpo).2 fun i k hi hk => ?_
  rw [hb k hk]
  exact hs i k hi hk

theorem bothB_parts {ls rs : List (List Int)} {ps qs : List Int} (h : bothB ls rs ps qs = true) : stableB ls rs ps = true ∧ stableB ls rs qs = true := by
  unfold bothB at h
  rwa [Bool.and_eq_true] at h

/-- What is told of two stable pairings. -/
structure TwoSt (ls rs : List (List Int)) (ps qs : List Int) (n : Nat) : Prop where
  len : ls.length = n
  h1 : 1 ≤ n
  h5 : n ≤ 5
  mo : mktOk ls rs = true
  rp : rankB n ps = true
  rq : rankB n qs = true
  iL : Inj2 n (placeL ls)
  iR : Inj2 n (placeL rs)
  pp : Pair n (prt ps) (prt (backOf ps))
  pq : Pair n (prt qs) (prt (backOf qs))
  sp : StableF n (placeL ls) (placeL rs) (prt ps) (prt (backOf ps))
  sq : StableF n (placeL ls) (placeL rs) (prt qs) (prt (backOf qs))
theorem two_st {ls rs : List (List Int)} {ps qs : List Int} (hp : stableB ls rs ps = true) (hq : stableB ls rs qs = true) : TwoSt ls rs ps qs ls.length := by
  have op := (stable_parts hp).1
  have oq := (stable_parts hq).1
  obtain ⟨h1, h5, hrl, hpl, hls, hrs, hpr⟩ := pair_parts op
  obtain ⟨_, _, _, hql, _, _, hqr⟩ := pair_parts oq
  have hm : mktOk ls rs = true := by unfold pairOk at op; rw [Bool.and_eq_true] at op; exact op.1
  exact ⟨rfl, h1, h5, hm, hpr, hqr, inj2_of h1 h5 rfl hls, inj2_of h1 h5 hrl hrs, pair_of h1 h5 hpr, pair_of h1 h5 hqr, (stable_fun op).1 hp, (stable_fun oq).1 hq⟩

section
variable {ls rs : List (List Int)} {ps qs : List Int} {n : Nat}
theorem choose_getD (better : Bool) {i : Nat} (hi : i < n) : (chooseTo ls ps qs better n).getD i 0 = chooseAt ls ps qs better i := by
  unfold chooseTo
  have h : i < ((List.range n).map (chooseAt ls ps qs better)).length := by simpa using hi
  rw [List.getD_eq_getElem?_getD, List.getElem?_eq_getElem h]
  simp
theorem choose_prt (H : TwoSt ls rs ps qs n) {i : Nat} (hi : i < n) : prt (chooseTo ls ps qs true n) i = betterF (placeL ls) (prt ps) (prt qs) i ∧ prt (chooseTo ls ps qs false n) i = worseF (placeL ls) (prt ps) (prt qs) i := by
  have ep := (prt_at H.rp hi).1
  have eq := (prt_at H.rq hi).1
  have key : ∀ b, prt (chooseTo ls ps qs b n) i = if (decide (placeL ls i (prt ps i) < placeL ls i (prt qs i)) == b) = true then prt ps i else prt qs i := fun b => by
    have e : prt (chooseTo ls ps qs b n) i = (chooseAt ls ps qs b i).toNat := by unfold prt; rw [choose_getD b hi]
    rw [e]
    unfold chooseAt placeL
    rw [ep, eq]
    split <;> simp
  rw [key, key]
  unfold betterF worseF
  by_cases h : placeL ls i (prt ps i) < placeL ls i (prt qs i)
  · simp [h]
  · simp [h]
theorem choose_nn (H : TwoSt ls rs ps qs n) (better : Bool) {i : Nat} (hi : i < n) : 0 ≤ (chooseTo ls ps qs better n).getD i 0 := by
  have ep := (prt_at H.rp hi).1
  have eq := (prt_at H.rq hi).1
  rw [choose_getD better hi]
  unfold chooseAt
  rw [ep, eq]
  split <;> omega
theorem Pair.congr {n : Nat} {p q p' : Nat → Nat} (h : Pair n p p') (e : ∀ i, i < n → q i = p i) : Pair n q p' :=
  ⟨fun i hi => by rw [e i hi]; exact h.lt i hi, h.lt', fun i hi => by rw [e i hi]; exact h.bk i hi, fun k hk => by rw [e _ (h.lt' k hk)]; exact h.fw k hk⟩
theorem StableF.congr {n : Nat} {P B : Nat → Nat → Nat} {p q p' : Nat → Nat} (h : StableF n P B p p') (e : ∀ i, i < n → q i = p i) : StableF n P B q p' := fun i k hi hk => by rw [e i hi]; exact h i k hi hk

theorem join_stable (H : TwoSt ls rs ps qs n) : stableB ls rs (chooseTo ls ps qs true n) = true := by
  have e := H.len
  have a := (better_pair H.iL H.iR H.pp H.pq H.sp H.sq).congr (fun i hi => (choose_prt H hi).1)
  have b := (better_stable H.sp H.sq (n := n) (P := placeL ls) (B := placeL rs)).congr (fun i hi => (choose_prt H hi).1)
  have h0 : ∀ i, i < n → 0 ≤ (chooseTo ls ps qs true n).getD i 0 := fun i hi => choose_nn H true hi
  have hl := chooseTo_len ls ps qs true n
  have hm := H.mo
  subst e
  exact stable_of_fun hm hl h0 a b
theorem meet_stable (H : TwoSt ls rs ps qs n) : stableB ls rs (chooseTo ls ps qs false n) = true := by
  have e := H.len
  have a := (worse_pair H.iL H.iR H.pp H.pq H.sp H.sq).congr (fun i hi => (choose_prt H hi).2)
  have b := (worse_stable H.iL H.iR H.pp H.pq H.sp H.sq).congr (fun i hi => (choose_prt H hi).2)
  have h0 : ∀ i, i < n → 0 ≤ (chooseTo ls ps qs false n).getD i 0 := fun i hi => choose_nn H false hi
  have hl := chooseTo_len ls ps qs false n
  have hm := H.mo
  subst e
  exact stable_of_fun hm hl h0 a b
theorem stable_rank {xs : List Int} (hl : ls.length = n) (h : stableB ls rs xs = true) : rankB n xs = true := by
  have op := (stable_parts h).1
  unfold pairOk at op
  rw [Bool.and_eq_true, hl] at op
  exact op.2
theorem join_comm (H : TwoSt ls rs ps qs n) : chooseTo ls qs ps true n = chooseTo ls ps qs true n := by
  unfold chooseTo
  refine List.map_congr_left fun i hi => ?_
  have hi := List.mem_range.1 hi
  have ep := (prt_at H.rp hi).1
  have eq := (prt_at H.rq hi).1
  have hlp := (prt_at H.rp hi).2
  have hlq := (prt_at H.rq hi).2
  unfold chooseAt
  rw [ep, eq]
  have hin := H.iL i (prt ps i) (prt qs i) hi hlp hlq
  unfold placeL at hin
  obtain ⟨A, hA⟩ : ∃ A, place (ls.getD i []) (prt ps i : Int) = A := ⟨_, rfl⟩
  obtain ⟨B, hB⟩ : ∃ B, place (ls.getD i []) (prt qs i : Int) = B := ⟨_, rfl⟩
  rw [hA, hB] at hin
  rw [hA, hB]
  by_cases h : A < B
  · have h2 : ¬ B < A := by omega
    simp [h, h2]
  · by_cases h2 : B < A
    · simp [h, h2]
    · have := hin (by omega)
      rw [this]; simp
theorem join_above (H : TwoSt ls rs ps qs n) : aboveB ls (chooseTo ls ps qs true n) ps = true ∧ aboveB ls (chooseTo ls ps qs true n) qs = true := by
  have hr := stable_rank H.len (join_stable H)
  refine ⟨(above_fun H.len hr H.rp).2 fun i hi => ?_, (above_fun H.len hr H.rq).2 fun i hi => ?_⟩
  · rw [(choose_prt H hi).1]; exact (better_le i).1
  · rw [(choose_prt H hi).1]; exact (better_le i).2
theorem meet_above (H : TwoSt ls rs ps qs n) : aboveB ls ps (chooseTo ls ps qs false n) = true ∧ aboveB ls qs (chooseTo ls ps qs false n) = true := by
  have hr := stable_rank H.len (meet_stable H)
  refine ⟨(above_fun H.len H.rp hr).2 fun i hi => ?_, (above_fun H.len H.rq hr).2 fun i hi => ?_⟩
  · rw [(choose_prt H hi).2]; exact (worse_ge i).1
  · rw [(choose_prt H hi).2]; exact (worse_ge i).2
theorem join_meet (H : TwoSt ls rs ps qs n) : chooseTo ls ps (chooseTo ls ps qs false n) true n = ps := by
  have H2 : TwoSt ls rs ps (chooseTo ls ps qs false n) n := by
    have := two_st (ls := ls) (rs := rs) (ps := ps) (qs := chooseTo ls ps qs false n) ?_ (meet_stable H)
    · rwa [H.len] at this
    · have hp : pairOk ls rs ps = true := by unfold pairOk; rw [H.mo, H.len, H.rp]; rfl
      exact (stable_fun hp).2 (by rw [H.len]; exact H.sp)
  refine ext_prt (n := n) (stable_rank H.len (join_stable H2)) H.rp fun i hi => ?_
  rw [(choose_prt H2 hi).1]
  unfold betterF
  split
  · rfl
  · rename_i hno
    rw [(choose_prt H hi).2] at hno ⊢
    have hlp := (prt_at H.rp hi).2
    have hlq := (prt_at H.rq hi).2
    unfold worseF at hno ⊢
    split
    · rename_i h2
      rw [if_pos h2] at hno
      exact absurd h2 hno
    · rfl
theorem meet_costL (H : TwoSt ls rs ps qs n) : sumI (costL ls ps) n + sumI (costL ls qs) n = sumI (costL ls (chooseTo ls ps qs false n)) n + sumI (costL ls (chooseTo ls ps qs true n)) n := by
  have hj := stable_rank H.len (join_stable H)
  have hm := stable_rank H.len (meet_stable H)
  rw [← sumI_add, ← sumI_add]
  refine sumI_congr fun i hi => ?_
  rw [costL_prt H.rp hi, costL_prt H.rq hi, costL_prt hj hi, costL_prt hm hi, (choose_prt H hi).1, (choose_prt H hi).2]
  rcases better_or (P := placeL ls) (p := prt ps) (q := prt qs) (i := i) with ⟨a, b⟩ | ⟨a, b⟩ <;> rw [a, b] <;> omega
theorem meet_costR (H : TwoSt ls rs ps qs n) : sumI (costR rs ps) n + sumI (costR rs qs) n = sumI (costR rs (chooseTo ls ps qs false n)) n + sumI (costR rs (chooseTo ls ps qs true n)) n := by
  have hj := stable_rank H.len (join_stable H)
  have hm := stable_rank H.len (meet_stable H)
  have hl1 := chooseTo_len ls ps qs true n
  have hl2 := chooseTo_len ls ps qs false n
  have a := (better_pair H.iL H.iR H.pp H.pq H.sp H.sq).congr (fun i hi => (choose_prt H hi).1)
  have b := (worse_pair H.iL H.iR H.pp H.pq H.sp H.sq).congr (fun i hi => (choose_prt H hi).2)
  have ea := (rank_of_fun H.h1 H.h5 hl1 (fun i hi => choose_nn H true hi) a).2
  have eb := (rank_of_fun H.h1 H.h5 hl2 (fun i hi => choose_nn H false hi) b).2
  rw [← cost_turn H.h1 H.h5 rs H.rp, ← cost_turn H.h1 H.h5 rs H.rq, ← cost_turn H.h1 H.h5 rs hj, ← cost_turn H.h1 H.h5 rs hm, ← sumI_add, ← sumI_add]
  refine sumI_congr fun k hk => ?_
  rw [costL_prt (rank_back H.h1 H.h5 H.rp) hk, costL_prt (rank_back H.h1 H.h5 H.rq) hk, costL_prt (rank_back H.h1 H.h5 hj) hk, costL_prt (rank_back H.h1 H.h5 hm) hk, ea k hk, eb k hk]
  rcases better'_or (P := placeL ls) (p := prt ps) (q := prt qs) (p' := prt (backOf ps)) (q' := prt (backOf qs)) (k := k) with ⟨a, b⟩ | ⟨a, b⟩ <;> rw [a, b] <;> omega
end

theorem cost_small {ls rs : List (List Int)} {xs : List Int} (h : pairOk ls rs xs = true) : 0 ≤ sumI (costL ls xs) ls.length ∧ sumI (costL ls xs) ls.length ≤ 25 ∧ 0 ≤ sumI (costR rs xs) ls.length ∧ sumI (costR rs xs) ls.length ≤ 25 := by
  obtain ⟨h1, h5, hrl, hpl, hls, hrs, hpr⟩ := pair_parts h
  have b1 := sumI_le (f := costL ls xs) (n := ls.length) (fun i hi => by
    have := (ranks_of h1 h5 rfl hls).pl_lt i _ hi (prt_at hpr hi).2
    rw [costL_prt hpr hi]; omega)
  have b2 := sumI_le (f := costL rs (backOf xs)) (n := ls.length) (fun i hi => by
    have hb := rank_back h1 h5 hpr
    have := (ranks_of h1 h5 hrl hrs).pl_lt i _ hi (prt_at hb hi).2
    rw [costL_prt hb hi]; omega)
  rw [cost_turn h1 h5 rs hpr] at b2
  omega

/-- What is better for one side is worse for the other one, as costs. -/
theorem above_costs {ls rs : List (List Int)} {ps qs : List Int} (h : aboveOk ls rs ps qs = true) : sumI (costL ls ps) ls.length ≤ sumI (costL ls qs) ls.length ∧ sumI (costR rs qs) ls.length ≤ sumI (costR rs ps) ls.length := by
  obtain ⟨hp, hq, ha⟩ := aboveOk_parts h
  have H := two_st hp hq
  have hf := (above_fun rfl H.rp H.rq).1 ha
  refine ⟨sumI_mono fun i hi => ?_, ?_⟩
  · rw [costL_prt H.rp hi, costL_prt H.rq hi]
    have := hf i hi
    omega
  · rw [← cost_turn H.h1 H.h5 rs H.rp, ← cost_turn H.h1 H.h5 rs H.rq]
    refine sumI_mono fun k hk => ?_
    rw [costL_prt (rank_back H.h1 H.h5 H.rp) hk, costL_prt (rank_back H.h1 H.h5 H.rq) hk]
    have := worse H.iL H.pp H.pq H.sq hf hk
    omega

end Go.Proofs.YtahilcnmjnjcaaaDoor
