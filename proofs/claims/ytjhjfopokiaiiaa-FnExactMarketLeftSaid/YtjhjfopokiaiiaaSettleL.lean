/-
  ASKING, ROUND BY ROUND, ON LISTS: what spec.l6mAsk and impl's settled keep (how often each has asked; whom each keeper has, -1 for nobody).
-/
import Derived.Test.YtjhjfopokiaiiaaSettle
import Derived.Test.YtjhjfopokiaiiaaPlaceInj
namespace Go.Proofs.Ytjhjfopokiaiiaa
set_option linter.unusedVariables false
set_option linter.unusedSimpArgs false

def wishL (ls : List (List Int)) (i j : Nat) : Nat := ((ls.getD i []).getD j 0).toNat
def placeL (ls : List (List Int)) (i k : Nat) : Nat := place (ls.getD i []) (k : Int)
theorem ranks_of {n : Nat} {ls : List (List Int)} (h1 : 1 ≤ n) (h5 : n ≤ 5) (hl : ls.length = n) (hls : ∀ l ∈ ls, rankB n l = true) : Ranks n (wishL ls) (placeL ls) := by
  have row : ∀ i, i < n → ∃ xs, ls.getD i [] = xs ∧ rankB n xs = true := fun i hi => by
    have hi' : i < ls.length := by omega
    exact ⟨ls[i], by simp [List.getD, hi'], hls _ (List.getElem_mem _)⟩
  have get : ∀ (xs : List Int), rankB n xs = true → ∀ k, k < n → xs[place xs (k : Int)]? = some (k : Int) ∧ place xs (k : Int) < n := fun xs hx k hk => by
    have hg := place_get xs (k : Int) (rank_mem h1 h5 hx (by omega) (by omega))
    have := (List.getElem?_eq_some_iff.1 hg).1
    have hlen := (rank_parts hx).1
    exact ⟨hg, by omega⟩
  refine ⟨fun i j hi hj => ?_, fun i k hi hk => ?_, fun i k hi hk => ?_, fun i j hi hj => ?_⟩
  · obtain ⟨xs, he, hx⟩ := row i hi
    unfold wishL
    rw [he]
    have hj' : j < xs.length := by rw [(rank_parts hx).1]; exact hj
    have := (rank_parts hx).2.1 xs[j] (List.getElem_mem _)
    simp [List.getD, hj']
    omega
  · obtain ⟨xs, he, hx⟩ := row i hi
    unfold placeL
    rw [he]
    exact (get xs hx k hk).2
  · obtain ⟨xs, he, hx⟩ := row i hi
    unfold wishL placeL
    rw [he, List.getD_eq_getElem?_getD, (get xs hx k hk).1]
    simp
  · obtain ⟨xs, he, hx⟩ := row i hi
    have hj' : j < xs.length := by rw [(rank_parts hx).1]; exact hj
    -- every place is someone's
    obtain ⟨c, hc, hp⟩ : ∃ c, c < n ∧ place xs ((c : Nat) : Int) = j := by
      obtain ⟨a, b, hab, hb, hf⟩ := pigeon n (fun c => if c < n then place xs ((c : Nat) : Int) else j) (fun c _ => by
        show (if c < n then place xs ((c : Nat) : Int) else j) < n
        split
        · exact (get xs hx c (by assumption)).2
        · exact hj)
      have han : a < n := by omega
      have hf' : (if a < n then place xs ((a : Nat) : Int) else j) = (if b < n then place xs ((b : Nat) : Int) else j) := hf
      rw [if_pos han] at hf'
      by_cases hbn : b < n
      · rw [if_pos hbn] at hf'
        have := place_inj h1 h5 hx (c := (a : Int)) (d := (b : Int)) (by omega) (by omega) hf'
        omega
      · rw [if_neg hbn] at hf'
        exact ⟨a, han, hf'⟩
    have hg := (get xs hx c hc).1
    rw [hp] at hg
    unfold wishL placeL
    rw [he, List.getD_eq_getElem?_getD, hg]
    simpa using hp

def askF (hs0 : List Int) (i : Nat) : Nat := (hs0.getD i 0).toNat
def optOf (v : Int) : Option Nat := if v < 0 then none else some v.toNat
def keptF (ks : List Int) (k : Nat) : Option Nat := optOf (ks.getD k (-1))
def freeB (ks : List Int) (i : Nat) : Bool := !(ks.contains (i : Int))
def firstFree (n : Nat) (ks : List Int) : Option Nat := (List.range n).find? (freeB ks)
def answerL (rs : List (List Int)) (k i : Nat) (h : Int) : Int := if h < 0 then (i : Int) else if placeL rs k i < place (rs.getD k []) h then (i : Int) else h
def askStep (ls rs : List (List Int)) (i : Nat) (st : List Int × List Int) : List Int × List Int :=
  (st.1.set i (st.1.getD i 0 + 1), st.2.set (wishL ls i (st.1.getD i 0).toNat) (answerL rs (wishL ls i (st.1.getD i 0).toNat) i (st.2.getD (wishL ls i (st.1.getD i 0).toNat) (-1))))
def stepL (ls rs : List (List Int)) (n : Nat) (st : List Int × List Int) : List Int × List Int :=
  match firstFree n st.2 with
  | none => st
  | some i => askStep ls rs i st
def runL (ls rs : List (List Int)) (n : Nat) : Nat → List Int × List Int
  | 0 => (List.replicate n 0, List.replicate n (-1))
  | t + 1 => stepL ls rs n (runL ls rs n t)

theorem getD_set {α : Type} (xs : List α) (i k : Nat) (v d : α) (hi : i < xs.length) : (xs.set i v).getD k d = if k = i then v else xs.getD k d := by
  rw [List.getD_eq_getElem?_getD, List.getD_eq_getElem?_getD, List.getElem?_set]
  by_cases h : i = k
  · subst h; simp [hi]
  · rw [if_neg h, if_neg (fun e => h e.symm)]
theorem askF_set (hs0 : List Int) (i : Nat) (hi : i < hs0.length) (h0 : 0 ≤ hs0.getD i 0) : askF (hs0.set i (hs0.getD i 0 + 1)) = setF (askF hs0) i (askF hs0 i + 1) := by
  funext x
  unfold askF setF
  rw [getD_set _ _ _ _ _ hi]
  split
  · omega
  · rfl
theorem keptF_set (ks : List Int) (k : Nat) (v : Int) (hk : k < ks.length) : keptF (ks.set k v) = setF (keptF ks) k (optOf v) := by
  funext x
  unfold keptF setF
  rw [getD_set _ _ _ _ _ hk]
  split <;> rfl
theorem answer_opt (rs : List (List Int)) (k i : Nat) (h : Int) : optOf (answerL rs k i h) = answerF (placeL rs) k i (optOf h) := by
  unfold answerL optOf answerF
  by_cases h0 : h < 0
  · rw [if_pos h0, if_pos h0, if_neg (by omega)]; simp
  · rw [if_neg h0, if_neg h0]
    have e : place (rs.getD k []) h = placeL rs k h.toNat := by unfold placeL; rw [Int.toNat_of_nonneg (by omega)]
    rw [e]
    simp only []
    by_cases hc : placeL rs k i < placeL rs k h.toNat
    · rw [if_pos hc, if_pos hc, if_neg (by omega)]; simp
    · rw [if_neg hc, if_neg hc, if_neg h0]

structure GsSt (ls rs : List (List Int)) (n : Nat) (st : List Int × List Int) : Prop where
  len1 : st.1.length = n
  len2 : st.2.length = n
  nn : ∀ i, 0 ≤ st.1.getD i 0
  rng : ∀ k, -1 ≤ st.2.getD k (-1) ∧ st.2.getD k (-1) < n
  asked : Asked n (wishL ls) (placeL rs) (askF st.1) (keptF st.2)
theorem gs_start (ls rs : List (List Int)) (n : Nat) : GsSt ls rs n (runL ls rs n 0) := by
  have e1 : ∀ i, (List.replicate n (0 : Int)).getD i 0 = 0 := fun i => by
    rw [List.getD_eq_getElem?_getD, List.getElem?_replicate]; split <;> rfl
  have e2 : ∀ i, (List.replicate n (-1 : Int)).getD i (-1) = -1 := fun i => by
    rw [List.getD_eq_getElem?_getD, List.getElem?_replicate]; split <;> rfl
  refine ⟨by simp [runL], by simp [runL], fun i => ?_, fun k => ?_, ?_⟩
  · show 0 ≤ (List.replicate n (0 : Int)).getD i 0
    rw [e1]; omega
  · show -1 ≤ (List.replicate n (-1 : Int)).getD k (-1) ∧ (List.replicate n (-1 : Int)).getD k (-1) < (n : Int)
    rw [e2]; omega
  · have f1 : askF (List.replicate n (0 : Int)) = fun _ => 0 := by funext i; unfold askF; rw [e1]; rfl
    have f2 : keptF (List.replicate n (-1 : Int)) = fun _ => none := by funext i; unfold keptF; rw [e2]; rfl
    show Asked n (wishL ls) (placeL rs) (askF (List.replicate n (0 : Int))) (keptF (List.replicate n (-1 : Int)))
    rw [f1, f2]
    exact asked_start _ _ _
theorem free_kept {ks : List Int} {i : Nat} (h : freeB ks i = true) (k : Nat) (hk : k < ks.length) : keptF ks k ≠ some i := by
  unfold keptF optOf
  intro e
  have hg : ks.getD k (-1) = ks[k] := by simp [List.getD, hk]
  rw [hg] at e
  split at e
  · cases e
  · have e2 : ks[k].toNat = i := by simpa using e
    unfold freeB at h
    have : ks.contains (i : Int) = true := by
      rw [List.contains_iff_mem]
      have : ks[k] = (i : Int) := by omega
      rw [← this]; exact List.getElem_mem _
    rw [this] at h
    cases h
/-- One round: nothing is out of bounds, and all holds again. -/
theorem gs_step {ls rs : List (List Int)} {n : Nat} {st : List Int × List Int} (hr : Ranks n (wishL ls) (placeL ls)) (h : GsSt ls rs n st) {i : Nat} (hi : i < n) (hf : freeB st.2 i = true) :
    (st.1.getD i 0).toNat < n ∧ wishL ls i (st.1.getD i 0).toNat < n ∧ GsSt ls rs n (askStep ls rs i st) := by
  have hfr : ∀ k, k < n → keptF st.2 k ≠ some i := fun k hk => free_kept hf k (by rw [h.len2]; exact hk)
  have hlt := asked_lt hr h.asked hi hfr
  have hk := hr.at_lt i _ hi hlt
  have hs := asked_step hr h.asked hi hfr
  have hlt' : (st.1.getD i 0).toNat < n := hlt
  obtain ⟨k, hke⟩ : ∃ k, wishL ls i (st.1.getD i 0).toNat = k := ⟨_, rfl⟩
  have hke' : wishL ls i (askF st.1 i) = k := hke
  rw [hke'] at hk hs
  refine ⟨hlt', by rw [hke]; exact hk, ?_⟩
  unfold askStep
  rw [hke]
  have hi1 : i < st.1.length := by rw [h.len1]; exact hi
  have hk2 : k < st.2.length := by rw [h.len2]; exact hk
  refine ⟨by simp [h.len1], by simp [h.len2], fun x => ?_, fun x => ?_, ?_⟩
  · show 0 ≤ (st.1.set i (st.1.getD i 0 + 1)).getD x 0
    rw [getD_set _ _ _ _ _ hi1]
    split
    · have := h.nn i; omega
    · exact h.nn x
  · show -1 ≤ (st.2.set k _).getD x (-1) ∧ (st.2.set k _).getD x (-1) < (n : Int)
    rw [getD_set _ _ _ _ _ hk2]
    split
    · have := h.rng k
      unfold answerL
      split
      · omega
      · split
        · omega
        · omega
    · exact h.rng x
  · show Asked n (wishL ls) (placeL rs) (askF (st.1.set i (st.1.getD i 0 + 1))) (keptF (st.2.set k (answerL rs k i (st.2.getD k (-1)))))
    rw [askF_set _ _ hi1 (h.nn i), keptF_set _ _ _ hk2, answer_opt]
    exact hs

end Go.Proofs.Ytjhjfopokiaiiaa
