/-
  A ranking's places are each one member's.
-/
import Derived.Test.YtjhjfopokiaiiaaPlace
namespace Go.Proofs.Ytjhjfopokiaiiaa
set_option linter.unusedVariables false
set_option linter.unusedSimpArgs false

theorem place_get : ∀ (xs : List Int) (c : Int), c ∈ xs → xs[place xs c]? = some c
  | [], c, h => by cases h
  | x :: t, c, h => by
    unfold place
    by_cases e : x = c
    · rw [if_pos e]; simp [e]
    · rw [if_neg e]
      rcases List.mem_cons.1 h with h | h
      · exact absurd h.symm e
      · simpa using place_get t c h
theorem rank_mem {n : Nat} (h1 : 1 ≤ n) (h5 : n ≤ 5) {xs : List Int} (h : rankB n xs = true) {c : Int} (hc0 : 0 ≤ c) (hc : c ≤ (n : Int) - 1) : c ∈ xs := by
  obtain ⟨hl, hin, _⟩ := rank_parts h
  have hk : c.toNat < n := by omega
  have hm : (c.toNat, ((backOf xs).getD c.toNat 0).toNat) ∈ (List.range n).map (fun i => ((xs.getD i 0).toNat, i)) := (back_perm h1 h5 h).subset (List.mem_map.2 ⟨c.toNat, List.mem_range.2 hk, rfl⟩)
  obtain ⟨i, hi, he⟩ := List.mem_map.1 hm
  rw [List.mem_range] at hi
  have hix : i < xs.length := by omega
  have he1 : (xs.getD i 0).toNat = c.toNat := (Prod.mk.inj he).1
  have e : xs.getD i 0 = xs[i] := by simp [List.getD, hix]
  have hr := hin xs[i] (List.getElem_mem _)
  rw [e] at he1
  have : xs[i] = c := by omega
  rw [← this]
  exact List.getElem_mem _
theorem place_inj {n : Nat} (h1 : 1 ≤ n) (h5 : n ≤ 5) {xs : List Int} (h : rankB n xs = true) {c d : Int} (hc : 0 ≤ c ∧ c ≤ (n : Int) - 1) (hd : 0 ≤ d ∧ d ≤ (n : Int) - 1) (e : place xs c = place xs d) : c = d := by
  have a := place_get xs c (rank_mem h1 h5 h hc.1 hc.2)
  have b := place_get xs d (rank_mem h1 h5 h hd.1 hd.2)
  rw [e, b] at a
  exact (Option.some.inj a).symm

end Go.Proofs.Ytjhjfopokiaiiaa
