/-
  ALL STABLE PAIRINGS, as they are listed: plain mathematics.
-/
import Derived.Test.YtahilcnmjnjcaaaDoorSet1
import Derived.Test.YtahilcnmjnjcaaaDoorSettleEnd
import Derived.Test.YtahilcnmjnjcaaaDoorSpecStab
import Derived.Test.YtahilcnmjnjcaaaDoorRank1
namespace Go.Proofs.YtahilcnmjnjcaaaDoor
set_option linter.unusedVariables false
set_option linter.unusedSimpArgs false
open Go.RowKit

def allI (ls rs : List (List Int)) (n : Nat) : Nat → List Int → List (List Int)
  | 0, beg => if (blocksOf ls rs beg).isEmpty = true then [beg] else []
  | d + 1, beg => (List.range n).flatMap fun (k : Nat) => if place beg (k : Int) = beg.length then allI ls rs n d (beg ++ [(k : Int)]) else []
/-- What was listed before member k. -/
def alTo (ls rs : List (List Int)) (n d : Nat) (beg : List Int) (k : Nat) : List (List Int) := (List.range k).flatMap fun (k : Nat) => if place beg (k : Int) = beg.length then allI ls rs n d (beg ++ [(k : Int)]) else []
theorem alTo_zero (ls rs : List (List Int)) (n d : Nat) (beg : List Int) : alTo ls rs n d beg 0 = [] := rfl
theorem alTo_yes {ls rs : List (List Int)} {n d : Nat} {beg : List Int} {k : Nat} (h : place beg (k : Int) = beg.length) : alTo ls rs n d beg (k + 1) = alTo ls rs n d beg k ++ allI ls rs n d (beg ++ [(k : Int)]) := by
  unfold alTo
  rw [List.range_succ, List.flatMap_append, List.flatMap_cons, List.flatMap_nil, List.append_nil, if_pos h]
theorem alTo_no {ls rs : List (List Int)} {n d : Nat} {beg : List Int} {k : Nat} (h : ¬ place beg (k : Int) = beg.length) : alTo ls rs n d beg (k + 1) = alTo ls rs n d beg k := by
  unfold alTo
  rw [List.range_succ, List.flatMap_append, List.flatMap_cons, List.flatMap_nil, List.append_nil, if_neg h, List.append_nil]
theorem allI_len {ls rs : List (List Int)} {n : Nat} : ∀ (d : Nat) (beg : List Int), (allI ls rs n d beg).length ≤ n ^ d
  | 0, beg => by unfold allI; split <;> simp
  | d + 1, beg => by
    have key : ∀ k, (alTo ls rs n d beg k).length ≤ k * n ^ d := by
      intro k
      induction k with
      | zero => simp [alTo]
      | succ k ih =>
        rw [Nat.succ_mul]
        by_cases h : place beg (k : Int) = beg.length
        · rw [alTo_yes h, List.length_append]
          have := allI_len (ls := ls) (rs := rs) (n := n) d (beg ++ [(k : Int)])
          omega
        · rw [alTo_no h]; exact Nat.le_trans ih (Nat.le_add_right _ _)
    show (alTo ls rs n d beg n).length ≤ _
    have := key n
    rw [Nat.pow_succ, Nat.mul_comm]
    exact this
theorem alTo_len {ls rs : List (List Int)} {n : Nat} (h5 : n ≤ 5) (d : Nat) (beg : List Int) : ∀ k, (alTo ls rs n d beg k).length ≤ k * 5 ^ d
  | 0 => by simp [alTo]
  | k + 1 => by
    have ih := alTo_len (ls := ls) (rs := rs) h5 d beg k
    rw [Nat.succ_mul]
    by_cases h : place beg (k : Int) = beg.length
    · rw [alTo_yes h, List.length_append]
      have := allI_len (ls := ls) (rs := rs) (n := n) d (beg ++ [(k : Int)])
      have h2 := Nat.pow_le_pow_left h5 d
      omega
    · rw [alTo_no h]; exact Nat.le_trans ih (Nat.le_add_right _ _)

theorem nodup_inj {l : List Int} (h : l.Nodup) {a b : Nat} (ha : a < l.length) (hb : b < l.length) (e : l[a] = l[b]) : a = b := by
  rw [List.nodup_iff_pairwise_ne, List.pairwise_iff_getElem] at h
  rcases Nat.lt_trichotomy a b with h1 | h1 | h1
  · exact absurd e (h a b ha hb h1)
  · exact h1
  · exact absurd e.symm (h b a hb ha h1)
/-- Some members, none twice. -/
def Begins (n : Nat) (beg : List Int) : Prop := beg.Nodup ∧ ∀ x ∈ beg, 0 ≤ x ∧ x ≤ (n : Int) - 1
theorem begins_nil (n : Nat) : Begins n [] := ⟨List.nodup_nil, fun x hx => by simp at hx⟩
theorem Begins.snoc {n : Nat} {beg : List Int} (h : Begins n beg) {k : Nat} (hk : k < n) (hp : place beg (k : Int) = beg.length) : Begins n (beg ++ [(k : Int)]) := by
  have hno := (place_out beg (k : Int)).1 hp
  refine ⟨?_, fun x hx => ?_⟩
  · rw [List.nodup_append]
    refine ⟨h.1, by simp, fun a ha b hb => ?_⟩
    rw [List.mem_singleton] at hb
    subst hb
    exact fun e => hno (e ▸ ha)
  · rcases List.mem_append.1 hx with hx | hx
    · exact h.2 x hx
    · rw [List.mem_singleton] at hx; subst hx; omega
theorem Begins.rank {n : Nat} {beg : List Int} (h : Begins n beg) (hl : beg.length = n) : rankB n beg = true := by
  have hin : ∀ j, j < n → 0 ≤ beg.getD j 0 ∧ beg.getD j 0 ≤ (n : Int) - 1 := fun j hj => by
    have hj' : j < beg.length := by omega
    have := h.2 beg[j] (List.getElem_mem _)
    simpa [List.getD, hj'] using this
  refine rank_of_all hl h.2 fun i hi => ?_
  obtain ⟨j, hj, he⟩ := inj_surj (n := n) (f := fun j => (beg.getD j 0).toNat) (fun j hj => by have := hin j hj; show (beg.getD j 0).toNat < n; omega) (fun a b ha hb e => by
    have ea := hin a ha
    have eb := hin b hb
    have e' : (beg.getD a 0).toNat = (beg.getD b 0).toNat := e
    have e2 : beg.getD a 0 = beg.getD b 0 := by omega
    have ha' : a < beg.length := by omega
    have hb' : b < beg.length := by omega
    have e3 : beg[a] = beg[b] := by simpa [List.getD, ha', hb'] using e2
    exact nodup_inj h.1 ha' hb' e3) hi
  have hj' : j < beg.length := by omega
  have e1 : beg.getD j 0 = beg[j] := by simp [List.getD, hj']
  have := hin j hj
  have he' : (beg.getD j 0).toNat = i := he
  rw [e1] at this he'
  have : beg[j] = (i : Int) := by omega
  rw [← this]
  exact List.getElem_mem _
theorem rank_begins {n : Nat} (h1 : 1 ≤ n) (h5 : n ≤ 5) {xs : List Int} (h : rankB n xs = true) : Begins n xs := by
  obtain ⟨hl, hin, -⟩ := rank_parts h
  refine ⟨?_, hin⟩
  have ho := rank_one h1 h5 h
  rw [List.nodup_iff_pairwise_ne, List.pairwise_iff_getElem]
  intro i j hi hj hij e
  have a := ho.pl_at 0 i (by omega) (by omega)
  have b := ho.pl_at 0 j (by omega) (by omega)
  have e1 : xs.getD i 0 = xs[i] := by simp [List.getD, hi]
  have e2 : xs.getD j 0 = xs[j] := by simp [List.getD, hj]
  simp only [e1, e2, e] at a b
  omega

theorem allI_out {ls rs : List (List Int)} {n : Nat} {p : List Int} : ∀ (d : Nat) (beg : List Int), Begins n beg → beg.length + d = n → p ∈ allI ls rs n d beg → rankB n p = true ∧ blocksOf ls rs p = []
  | 0, beg, hb, hl, hp => by
    unfold allI at hp
    split at hp
    · rename_i he
      rw [List.mem_singleton] at hp
      subst hp
      exact ⟨hb.rank (by omega), by simpa using he⟩
    · simp at hp
  | d + 1, beg, hb, hl, hp => by
    unfold allI at hp
    obtain ⟨k, hk, hp⟩ := List.mem_flatMap.1 hp
    rw [List.mem_range] at hk
    split at hp
    · rename_i he
      exact allI_out d _ (hb.snoc hk he) (by simp; omega) hp
    · simp at hp
theorem allI_in {ls rs : List (List Int)} {n : Nat} : ∀ (d : Nat) (beg rest : List Int), Begins n (beg ++ rest) → rest.length = d → blocksOf ls rs (beg ++ rest) = [] → beg ++ rest ∈ allI ls rs n d beg
  | 0, beg, rest, hb, hl, he => by
    obtain rfl : rest = [] := List.eq_nil_of_length_eq_zero hl
    rw [List.append_nil] at he ⊢
    unfold allI
    rw [if_pos (by rw [he]; rfl)]
    simp
  | d + 1, beg, [], hb, hl, he => by simp at hl
  | d + 1, beg, x :: rest, hb, hl, he => by
    unfold allI
    have hx := hb.2 x (by simp)
    obtain ⟨k, rfl⟩ : ∃ k : Nat, x = (k : Int) := ⟨x.toNat, by omega⟩
    rw [List.mem_flatMap]
    refine ⟨k, by rw [List.mem_range]; omega, ?_⟩
    have hno : (k : Int) ∉ beg := fun hm => by
      have := hb.1
      rw [List.nodup_append] at this
      exact this.2.2 _ hm _ (by simp) rfl
    rw [if_pos ((place_out beg (k : Int)).2 hno)]
    have e : beg ++ (k : Int) :: rest = (beg ++ [(k : Int)]) ++ rest := by simp
    rw [e] at hb he ⊢
    exact allI_in d _ rest hb (by simpa using hl) he

def allL (ls rs : List (List Int)) : List (List Int) := if mktOk ls rs = true then allI ls rs ls.length ls.length [] else []
theorem allL_no {ls rs : List (List Int)} (h : mktOk ls rs = false) : allL ls rs = [] := by unfold allL; rw [h]; rfl
theorem allL_yes {ls rs : List (List Int)} (h : mktOk ls rs = true) : allL ls rs = allI ls rs ls.length ls.length [] := if_pos h
theorem mem_allL {ls rs : List (List Int)} (h : mktOk ls rs = true) {p : List Int} : p ∈ allL ls rs ↔ stableB ls rs p = true := by
  obtain ⟨⟨h1, h5, hl⟩, -⟩ := mktOk_parts h
  rw [allL_yes h]
  constructor
  · intro hp
    obtain ⟨hr, hb⟩ := allI_out _ _ (begins_nil _) (by simp) hp
    unfold stableB pairOk
    rw [h, hr, hb]; rfl
  · intro hs
    obtain ⟨hp, hb⟩ := stable_parts hs
    have hr : rankB ls.length p = true := by
      unfold pairOk at hp
      rw [Bool.and_eq_true] at hp
      exact hp.2
    have := allI_in (ls := ls) (rs := rs) (n := ls.length) ls.length [] p (rank_begins h1 h5 hr) (rank_parts hr).1 hb
    simpa using this
theorem allL_some {ls rs : List (List Int)} (h : mktOk ls rs = true) : 1 ≤ (allL ls rs).length := by
  obtain ⟨hp, hb⟩ := settled_pair h
  have hm : backOf (settledK ls rs ls.length) ∈ allL ls rs := (mem_allL h).2 (by unfold stableB; rw [hp, hb]; rfl)
  exact List.length_pos_of_mem hm
theorem allL_len (ls rs : List (List Int)) : (allL ls rs).length ≤ ls.length ^ ls.length := by
  cases h : mktOk ls rs with
  | false => rw [allL_no h]; simp
  | true =>
    rw [allL_yes h]
    exact allI_len _ _
theorem allL_len5 (ls rs : List (List Int)) : (allL ls rs).length ≤ 3125 := by
  cases h : mktOk ls rs with
  | false => rw [allL_no h]; simp
  | true =>
    obtain ⟨⟨h1, h5, hl⟩, -⟩ := mktOk_parts h
    refine Nat.le_trans (allL_len ls rs) (Nat.le_trans (Nat.pow_le_pow_right h1 h5) (Nat.le_trans (Nat.pow_le_pow_left h5 5) (by decide)))

end Go.Proofs.YtahilcnmjnjcaaaDoor
