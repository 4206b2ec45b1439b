/-
  THE BEST AND THE WORST STABLE PAIRING; all of them in order: plain mathematics.
-/
import Derived.Test.YtahilcnmjnjcaaaDoorJoinMath
import Derived.Test.YtahilcnmjnjcaaaDoorSM
namespace Go.Proofs.YtahilcnmjnjcaaaDoor
set_option linter.unusedVariables false
set_option linter.unusedSimpArgs false
open Go.RowKit

theorem runs_best {ls rs : List (List Int)} {n : Nat} {q q' : Nat → Nat} (hr : Ranks n (wishL ls) (placeL ls)) (hB : Inj2 n (placeL rs)) (hq : Pair n q q') (sq : StableF n (placeL ls) (placeL rs) q q') :
    ∃ t st, Runs ls rs n t st ∧ firstFree n st.2 = none ∧ ∀ i, i < n → askF st.1 i ≤ placeL ls i (q i) + 1 := by
  apply Classical.byContradiction
  intro hno
  have go : ∀ t, ∃ st, Runs ls rs n t st ∧ ∀ i, i < n → askF st.1 i ≤ placeL ls i (q i) + 1 := fun t => by
    induction t with
    | zero =>
      refine ⟨_, runs_start ls rs n, fun i hi => ?_⟩
      have : askF (List.replicate n 0) i = 0 := by
        unfold askF
        rw [List.getD_eq_getElem?_getD, List.getElem?_replicate]
        split <;> rfl
      show askF (List.replicate n 0) i ≤ _
      rw [this]
      exact Nat.zero_le _
    | succ t ih =>
      obtain ⟨st, h, hb⟩ := ih
      cases hf : firstFree n st.2 with
      | none => exact absurd ⟨t, st, h, hf, hb⟩ hno
      | some i =>
        obtain ⟨hi, hfr⟩ := free_some hf
        refine ⟨_, runs_step hr h hf, ?_⟩
        show ∀ j, j < n → askF (st.1.set i (st.1.getD i 0 + 1)) j ≤ _
        rw [askF_set _ _ (by rw [h.gs.len1]; exact hi) (h.gs.nn i)]
        exact asked_best hr hB hq sq h.gs.asked hb hi (fun k hk => free_kept hfr k (by rw [h.gs.len2]; exact hk))
  obtain ⟨st, h, -⟩ := go (n * n + 1)
  have := runs_bound h
  omega

theorem left_stable {ls rs : List (List Int)} (hm : mktOk ls rs = true) : stableB ls rs (leftL ls rs) = true := by
  obtain ⟨hp, hb⟩ := settled_pair hm
  rw [leftL_yes hm]
  unfold stableB
  rw [hp, hb]; rfl
theorem stable_mk {ls rs : List (List Int)} {q : List Int} (h : stableB ls rs q = true) : mktOk ls rs = true := by
  have op := (stable_parts h).1
  unfold pairOk at op
  rw [Bool.and_eq_true] at op
  exact op.1
theorem left_above {ls rs : List (List Int)} {q : List Int} (hq : stableB ls rs q = true) : aboveOk ls rs (leftL ls rs) q = true := by
  have hm := stable_mk hq
  have hs := left_stable hm
  have H := two_st hs hq
  refine aboveOk_of hs hq ((above_fun rfl H.rp H.rq).2 fun i hi => ?_)
  obtain ⟨⟨h1, h5, hrl⟩, hs1, -⟩ := mktOk_parts hm
  have hls : ∀ l ∈ ls, rankB ls.length l = true := List.all_eq_true.1 hs1
  have hr := ranks_of h1 h5 rfl hls
  obtain ⟨t, st, h, hf, hb⟩ := runs_best (rs := rs) hr H.iR H.pq H.sq
  have hrk := stuck_rank h.gs hf
  rw [leftL_yes hm, ← runs_end h hf]
  obtain ⟨ks, hks⟩ : ∃ ks, st.2 = ks := ⟨_, rfl⟩
  have hA := h.gs.asked
  rw [hks] at hrk hA ⊢
  have hlk := (rank_parts hrk).1
  have ho := rank_one h1 h5 hrk
  have e : prt (backOf ks) i = place ks (i : Int) := by
    unfold prt
    rw [back_place h1 h5 hrk hi, Int.toNat_natCast]
  rw [e]
  have hlt := ho.pl_lt 0 i (by omega) hi
  have hat : (ks.getD (place ks (i : Int)) 0).toNat = i := ho.at_pl 0 i (by omega) hi
  have hpl : place ks (i : Int) < ks.length := by rw [hlk]; exact hlt
  have hin2 := (rank_parts hrk).2.1 ks[place ks (i : Int)] (List.getElem_mem _)
  have e1 : ks.getD (place ks (i : Int)) 0 = ks[place ks (i : Int)] := by simp [List.getD, hpl]
  have e2 : ks.getD (place ks (i : Int)) (-1) = ks[place ks (i : Int)] := by simp [List.getD, hpl]
  rw [e1] at hat
  have hk : keptF ks (place ks (i : Int)) = some i := by
    unfold keptF optOf
    rw [e2, if_neg (by omega), hat]
  obtain ⟨_, h3, h4⟩ := hA.last _ i hlt hk
  have hbi := hb i hi
  have hbd := hA.bound i hi
  have hpa := hr.pl_at i (askF st.1 i - 1) hi (by omega)
  rw [h4] at hpa
  rw [hpa]
  omega

theorem right_back {ls rs : List (List Int)} (hm : mktOk ls rs = true) : rightL ls rs = backOf (leftL rs ls) := by
  rw [rightL_yes hm, leftL_yes (mktOk_turn hm)]
theorem right_stable {ls rs : List (List Int)} (hm : mktOk ls rs = true) : stableB ls rs (rightL ls rs) = true := by
  rw [right_back hm]
  exact stable_turn (left_stable (mktOk_turn hm))
theorem right_below {ls rs : List (List Int)} {q : List Int} (hq : stableB ls rs q = true) : aboveOk ls rs q (rightL ls rs) = true := by
  have hm := stable_mk hq
  have hs := right_stable hm
  have H := two_st hq hs
  refine aboveOk_of hq hs ((above_fun rfl H.rp H.rq).2 fun i hi => ?_)
  have hl := left_above (stable_turn hq)
  obtain ⟨s1, s2, hab⟩ := aboveOk_parts hl
  have K := two_st s1 s2
  have hrl : rs.length = ls.length := by obtain ⟨⟨_, _, h⟩, -⟩ := mktOk_parts hm; exact h
  have hf := (above_fun rfl K.rp K.rq).1 hab
  have hw := worse K.iL K.pp K.pq K.sq hf (k := i) (by omega)
  rw [back_twice H.h1 H.h5 H.rp, ← right_back hm] at hw
  exact hw

/-- One list ahead of another one. -/
def LexLt (p q : List Int) : Prop := ∃ j : Nat, (∀ m : Nat, m < j → p[m]? = q[m]?) ∧ ∃ x y : Int, p[j]? = some x ∧ q[j]? = some y ∧ x < y
theorem LexLt.ne {p q : List Int} (h : LexLt p q) : p ≠ q := by
  rintro rfl
  obtain ⟨j, _, x, y, h1, h2, h3⟩ := h
  rw [h1] at h2
  cases h2
  omega
theorem allI_begin {ls rs : List (List Int)} {n : Nat} {p : List Int} : ∀ (d : Nat) (beg : List Int), p ∈ allI ls rs n d beg → ∃ t, p = beg ++ t
  | 0, beg, hp => by
    unfold allI at hp
    split at hp
    · rw [List.mem_singleton] at hp; exact ⟨[], by simp [hp]⟩
    · simp at hp
  | d + 1, beg, hp => by
    unfold allI at hp
    obtain ⟨k, hk, hp⟩ := List.mem_flatMap.1 hp
    split at hp
    · obtain ⟨t, rfl⟩ := allI_begin d _ hp
      exact ⟨(k : Int) :: t, by simp⟩
    · simp at hp
theorem allI_lex {ls rs : List (List Int)} {n : Nat} : ∀ (d : Nat) (beg : List Int), (allI ls rs n d beg).Pairwise LexLt
  | 0, beg => by unfold allI; split <;> simp
  | d + 1, beg => by
    unfold allI
    rw [List.pairwise_flatMap]
    refine ⟨fun k _ => ?_, ?_⟩
    · split
      · exact allI_lex d _
      · exact List.Pairwise.nil
    · refine List.Pairwise.imp ?_ (List.pairwise_lt_range (n := n))
      intro a b hab p hp q hq
      split at hp
      · split at hq
        · obtain ⟨t, rfl⟩ := allI_begin d _ hp
          obtain ⟨u, rfl⟩ := allI_begin d _ hq
          refine ⟨beg.length, fun m hm => ?_, (a : Int), (b : Int), by simp, by simp, by omega⟩
          rw [List.append_assoc, List.append_assoc, List.getElem?_append_left hm, List.getElem?_append_left hm]
        · simp at hq
      · simp at hp
theorem allL_lex (ls rs : List (List Int)) : (allL ls rs).Pairwise LexLt := by
  unfold allL
  split
  · exact allI_lex _ _
  · exact List.Pairwise.nil
theorem allL_nodup (ls rs : List (List Int)) : (allL ls rs).Nodup := List.Pairwise.imp (fun h => h.ne) (allL_lex ls rs)
theorem left_mem {ls rs : List (List Int)} (hm : mktOk ls rs = true) : leftL ls rs ∈ allL ls rs := (mem_allL hm).2 (left_stable hm)
theorem right_mem {ls rs : List (List Int)} (hm : mktOk ls rs = true) : rightL ls rs ∈ allL ls rs := (mem_allL hm).2 (right_stable hm)

/-- There is one exactly if both sides agree. -/
theorem one_iff {ls rs : List (List Int)} (hm : mktOk ls rs = true) : (allL ls rs).length = 1 ↔ leftL ls rs = rightL ls rs := by
  constructor
  · intro h
    obtain ⟨x, hx⟩ := List.length_eq_one_iff.1 h
    have a := left_mem hm
    have b := right_mem hm
    rw [hx, List.mem_singleton] at a b
    rw [a, b]
  · intro h
    have key : ∀ x ∈ allL ls rs, x = leftL ls rs := fun x hx => by
      have hs := (mem_allL hm).1 hx
      have A := left_above hs
      have B := right_below hs
      rw [← h] at B
      obtain ⟨s1, s2, ha⟩ := aboveOk_parts A
      obtain ⟨_, _, hb⟩ := aboveOk_parts B
      have H := two_st s1 s2
      have f1 := (above_fun rfl H.rp H.rq).1 ha
      have f2 := (above_fun rfl H.rq H.rp).1 hb
      refine ext_prt H.rq H.rp fun i hi => ?_
      have a1 := f1 i hi
      have a2 := f2 i hi
      exact H.iL i _ _ hi (prt_at H.rq hi).2 (prt_at H.rp hi).2 (by omega)
    have hn := allL_nodup ls rs
    have hl := allL_some hm
    match he : allL ls rs with
    | [] => rw [he] at hl; simp at hl
    | [x] => rfl
    | x :: y :: t =>
      rw [he] at hn key
      have a := key x (by simp)
      have b := key y (by simp)
      rw [a, b] at hn
      simp at hn

theorem nodup_le {α : Type} [DecidableEq α] : ∀ (l m : List α), l.Nodup → (∀ x ∈ l, x ∈ m) → l.length ≤ m.length
  | [], m, _, _ => Nat.zero_le _
  | x :: l, m, hn, hs => by
    rw [List.nodup_cons] at hn
    have hx := hs x (by simp)
    have := nodup_le l (m.erase x) hn.2 (fun y hy => (List.mem_erase_of_ne (fun (e : y = x) => hn.1 (by rw [← e]; exact hy))).2 (hs y (by simp [hy])))
    rw [List.length_erase_of_mem hx] at this
    have hp : 0 < m.length := List.length_pos_of_mem hx
    rw [List.length_cons]
    omega
theorem all_turn_le {ls rs : List (List Int)} (hm : mktOk ls rs = true) : (allL ls rs).length ≤ (allL rs ls).length := by
  have hn : ((allL ls rs).map backOf).Nodup := by
    rw [List.nodup_iff_pairwise_ne, List.pairwise_map]
    have := allL_nodup ls rs
    rw [List.nodup_iff_pairwise_ne] at this
    refine List.Pairwise.imp_of_mem ?_ this
    intro a b ha hb hne e
    have sa := (mem_allL hm).1 ha
    have sb := (mem_allL hm).1 hb
    have H := two_st sa sb
    apply hne
    rw [← back_twice H.h1 H.h5 H.rp, e, back_twice H.h1 H.h5 H.rq]
  have := nodup_le _ (allL rs ls) hn (fun x hx => by
    obtain ⟨p, hp, rfl⟩ := List.mem_map.1 hx
    exact (mem_allL (mktOk_turn hm)).2 (stable_turn ((mem_allL hm).1 hp)))
  simpa using this
theorem all_turn {ls rs : List (List Int)} (hm : mktOk ls rs = true) : (allL rs ls).length = (allL ls rs).length :=
  Nat.le_antisymm (all_turn_le (mktOk_turn hm)) (all_turn_le hm)

end Go.Proofs.YtahilcnmjnjcaaaDoor
