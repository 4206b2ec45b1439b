/-
  EVERY MARKET HAS A STABLE PAIRING: the one that asking ends with.
-/
import Derived.Test.YtahilcnmjnjcaaaDoorSet1
import Derived.Test.YtahilcnmjnjcaaaDoorBlocks
namespace Go.Proofs.YtahilcnmjnjcaaaDoor
set_option linter.unusedVariables false
set_option linter.unusedSimpArgs false

theorem rowB_none {b : Nat → Nat → Bool} {i : Nat} : ∀ k, (∀ j, j < k → b i j = false) → rowB b i k = []
  | 0, _ => rfl
  | k + 1, h => by rw [rowB_no (h k (by omega))]; exact rowB_none k (fun j hj => h j (by omega))
theorem pairsB_none {b : Nat → Nat → Bool} {n : Nat} : ∀ i, (∀ a k, a < i → k < n → b a k = false) → pairsB b n i = []
  | 0, _ => rfl
  | i + 1, h => by
    show pairsB b n i ++ rowB b i n = []
    rw [pairsB_none i (fun a k ha hk => h a k (by omega) hk), rowB_none n (fun j hj => h i j (by omega) hj)]
    rfl

/-- Every market has a stable pairing. -/
theorem settled_pair {ls rs : List (List Int)} (hm : mktOk ls rs = true) : pairOk ls rs (backOf (settledK ls rs ls.length)) = true ∧ blocksOf ls rs (backOf (settledK ls rs ls.length)) = [] := by
  obtain ⟨⟨h1, h5, hlr⟩, hs1, hs2⟩ := mktOk_parts hm
  have hls : ∀ l ∈ ls, rankB ls.length l = true := List.all_eq_true.1 hs1
  have hr := ranks_of h1 h5 rfl hls
  obtain ⟨t, st, h, hf⟩ := settled_exists (rs := rs) hr
  have hend := runs_end h hf
  have hrk := stuck_rank h.gs hf
  rw [← hend]
  obtain ⟨ks, hks⟩ : ∃ ks, st.2 = ks := ⟨_, rfl⟩
  have hA := h.gs.asked
  rw [hks] at hrk hA ⊢
  have hlk := (rank_parts hrk).1
  have ho := rank_one h1 h5 hrk
  have hb := rank_back h1 h5 hrk
  refine ⟨by unfold pairOk; rw [hm, hb]; rfl, ?_⟩
  have hbl : (backOf ks).length = ls.length := by rw [backOf_len, hlk]
  unfold blocksOf
  rw [hbl]
  refine pairsB_none _ (fun i k hi hk => ?_)
  -- whom k has
  have hkk : k < ks.length := by omega
  have hin := (rank_parts hrk).2.1 ks[k] (List.getElem_mem _)
  have ekd : ks.getD k 0 = ks[k] := by simp [List.getD, hkk]
  have ekd' : ks.getD k (-1) = ks[k] := by simp [List.getD, hkk]
  have hk' : keptF ks k = some ks[k].toNat := by unfold keptF optOf; rw [ekd', if_neg (by omega)]
  have hp : ∀ a, a < ls.length → place ks (a : Int) < ls.length ∧ keptF ks (place ks (a : Int)) = some a := fun a ha => by
    have hlt := ho.pl_lt 0 a (by omega) ha
    have hat : (ks.getD (place ks (a : Int)) 0).toNat = a := ho.at_pl 0 a (by omega) ha
    have hpl : place ks (a : Int) < ks.length := by rw [hlk]; exact hlt
    have hin2 := (rank_parts hrk).2.1 ks[place ks (a : Int)] (List.getElem_mem _)
    have e1 : ks.getD (place ks (a : Int)) 0 = ks[place ks (a : Int)] := by simp [List.getD, hpl]
    have e2 : ks.getD (place ks (a : Int)) (-1) = ks[place ks (a : Int)] := by simp [List.getD, hpl]
    rw [e1] at hat
    refine ⟨hlt, ?_⟩
    unfold keptF optOf
    rw [e2, if_neg (by omega), hat]
  have hst := asked_stable hr hA hp hi hk hk'
  have hx : (backOf ks).getD i 0 = (place ks (i : Int) : Int) := back_place h1 h5 hrk hi
  have hy : (backOf (backOf ks)).getD k 0 = ks[k] := by rw [back_back h1 h5 hrk hk, ekd]
  unfold blockB blockL blockR
  rw [hx, hy]
  rw [Bool.and_eq_false_iff]
  by_cases hc : place (ls.getD i []) (k : Int) < place (ls.getD i []) (place ks (i : Int) : Int)
  · right
    refine decide_eq_false fun hc2 => hst ⟨hc, ?_⟩
    show place (rs.getD k []) (i : Int) < place (rs.getD k []) ((ks[k].toNat : Nat) : Int)
    rw [Int.toNat_of_nonneg hin.1]
    exact hc2
  · left
    exact decide_eq_false hc

end Go.Proofs.YtahilcnmjnjcaaaDoor
