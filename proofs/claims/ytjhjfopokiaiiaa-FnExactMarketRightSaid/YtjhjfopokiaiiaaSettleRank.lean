/-
  ASKING ENDS WITH A RANKING; one ranking turned, and turned back.
-/
import Derived.Test.YtjhjfopokiaiiaaSettleRun
namespace Go.Proofs.Ytjhjfopokiaiiaa
set_option linter.unusedVariables false
set_option linter.unusedSimpArgs false

theorem settled_exists {ls rs : List (List Int)} {n : Nat} (hr : Ranks n (wishL ls) (placeL ls)) : ∃ t st, Runs ls rs n t st ∧ firstFree n st.2 = none := by
  apply Classical.byContradiction
  intro hno
  have go : ∀ t, ∃ st, Runs ls rs n t st := fun t => by
    induction t with
    | zero => exact ⟨_, runs_start ls rs n⟩
    | succ t ih =>
      obtain ⟨st, h⟩ := ih
      cases hf : firstFree n st.2 with
      | none => exact absurd ⟨t, st, h, hf⟩ hno
      | some i => exact ⟨_, runs_step hr h hf⟩
  obtain ⟨st, h⟩ := go (n * n + 1)
  have := runs_bound h
  omega

/-- One ranking turned: its places. -/
theorem rank_one {n : Nat} (h1 : 1 ≤ n) (h5 : n ≤ 5) {xs : List Int} (h : rankB n xs = true) : Ranks n (fun _ j => (xs.getD j 0).toNat) (fun _ k => place xs (k : Int)) := by
  have hr := ranks_of (ls := List.replicate n xs) h1 h5 (by simp) (fun l hl => by rw [(List.mem_replicate.1 hl).2]; exact h)
  have e : ∀ i, i < n → (List.replicate n xs).getD i [] = xs := fun i hi => by
    rw [List.getD_eq_getElem?_getD, List.getElem?_replicate, if_pos hi]; rfl
  refine ⟨fun i j hi hj => ?_, fun i k hi hk => ?_, fun i k hi hk => ?_, fun i j hi hj => ?_⟩
  · have := hr.at_lt i j hi hj; unfold wishL at this; rwa [e i hi] at this
  · have := hr.pl_lt i k hi hk; unfold placeL at this; rwa [e i hi] at this
  · have := hr.at_pl i k hi hk; unfold wishL placeL at this; rwa [e i hi] at this
  · have := hr.pl_at i j hi hj; unfold wishL placeL at this; rwa [e i hi] at this
theorem rank_back {n : Nat} (h1 : 1 ≤ n) (h5 : n ≤ 5) {xs : List Int} (h : rankB n xs = true) : rankB n (backOf xs) = true := by
  have ho := rank_one h1 h5 h
  have hl := (rank_parts h).1
  have hbl : (backOf xs).length = n := by rw [backOf_len, hl]
  have get : ∀ c, c < n → (backOf xs).getD c 0 = (place xs (c : Int) : Int) := fun c hc => back_place h1 h5 h hc
  refine rank_of_all hbl (fun x hx => ?_) (fun i hi => ?_)
  · obtain ⟨c, hc, he⟩ := List.getElem_of_mem hx
    have hcn : c < n := by omega
    have hg := get c hcn
    have hx2 : (backOf xs).getD c 0 = x := by simp [List.getD, hc, he]
    have := ho.pl_lt 0 c (by omega) hcn
    rw [hx2] at hg
    omega
  · have hj := ho.at_lt 0 i (by omega) hi
    have hp := ho.pl_at 0 i (by omega) hi
    have hg := get _ hj
    have hj2 : (xs.getD i 0).toNat < (backOf xs).length := by omega
    have hp2 : place xs (((xs.getD i 0).toNat : Nat) : Int) = i := hp
    rw [hp2] at hg
    obtain ⟨m, hm⟩ : ∃ m, (xs.getD i 0).toNat = m := ⟨_, rfl⟩
    rw [hm] at hg hj2
    rw [List.getD_eq_getElem?_getD, List.getElem?_eq_getElem hj2, Option.getD_some] at hg
    rw [← hg]
    exact List.getElem_mem _
theorem back_back {n : Nat} (h1 : 1 ≤ n) (h5 : n ≤ 5) {xs : List Int} (h : rankB n xs = true) {k : Nat} (hk : k < n) : (backOf (backOf xs)).getD k 0 = xs.getD k 0 := by
  have hb := rank_back h1 h5 h
  have ho := rank_one h1 h5 h
  have hob := rank_one h1 h5 hb
  rw [back_place h1 h5 hb hk]
  have hj := ho.at_lt 0 k (by omega) hk
  have hp : place xs (((xs.getD k 0).toNat : Nat) : Int) = k := ho.pl_at 0 k (by omega) hk
  have hg := back_place h1 h5 h hj
  rw [hp] at hg
  have hq : place (backOf xs) (((backOf xs).getD (xs.getD k 0).toNat 0).toNat : Nat) = (xs.getD k 0).toNat := hob.pl_at 0 _ (by omega) hj
  rw [hg, Int.toNat_natCast] at hq
  rw [hq]
  have hkl : k < xs.length := by rw [(rank_parts h).1]; exact hk
  have := (rank_parts h).2.1 xs[k] (List.getElem_mem _)
  have e : xs.getD k 0 = xs[k] := by simp [List.getD, hkl]
  rw [e]
  omega

theorem settled_rank {ls rs : List (List Int)} {n : Nat} (hr : Ranks n (wishL ls) (placeL ls)) : rankB n (settledK ls rs n) = true := by
  obtain ⟨t, st, h, hf⟩ := settled_exists (rs := rs) hr
  rw [← runs_end h hf]
  exact stuck_rank h.gs hf

end Go.Proofs.Ytjhjfopokiaiiaa
