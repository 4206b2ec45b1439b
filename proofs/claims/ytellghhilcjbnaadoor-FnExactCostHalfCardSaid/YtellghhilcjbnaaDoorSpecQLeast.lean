/-
  spec.l8Least, spec.CostLeast: the first choice of the least cost.
-/
import Derived.Test.YtellghhilcjbnaaDoorSpecChoices
import Derived.Test.YtellghhilcjbnaaDoorBestR
import Derived.Test.YtellghhilcjbnaaDoorQOf
import Derived.Test.YtellghhilcjbnaaDoorGivesN
namespace Go.Proofs.YtellghhilcjbnaaDoor
set_option linter.unusedVariables false
set_option linter.unusedSimpArgs false
open Go.RowKit

theorem bestI_snoc (M : List Int → Int) (b : List Int) (l : List (List Int)) (p : List Int) : bestI M b (l ++ [p]) = if M p < M (bestI M b l) then p else bestI M b l := by
  unfold bestI
  rw [List.foldl_append, List.foldl_cons, List.foldl_nil]
theorem take_succ_at (l : List (List Int)) {i : Nat} (h : i < l.length) : l.take (i + 1) = l.take i ++ [l[i]] := List.take_succ_eq_append_getElem h
theorem cost8_bound {xss : List (List Int)} {ps : List Int} (h : Choice xss ps) : -6000 ≤ cost8 xss ps ∧ cost8 xss ps ≤ 6000 := by
  have := h.bound ps.length (Nat.le_refl _)
  have h6 := h.h6
  have hl := h.len
  unfold cost8
  omega

set_option maxRecDepth 100000 in
set_option maxHeartbeats 4000000 in
theorem l8Least_any (w : World) (v : Value) (xss : List (List Int)) (hv : IntRows w v xss) (hci : cIn xss = true) :
    Calls Tryd.prog 27 #[v] w fun e w' => ∃ u, e = .returned u ∧ Below w.heap.size w w' ∧ Owns w' w.heap.size u (leastI (cost8 xss) xss.length) := by
  obtain ⟨h1, h6⟩ := cIn_size hci
  obtain ⟨b0, l0, hl0⟩ := chI_cons h1 h6
  have hcho : ∀ p ∈ b0 :: l0, Choice xss p := fun p hp => by
    rw [← hl0] at hp
    exact choice_of hci ((mem_chI h1 h6).1 hp)
  have hleast := leastI_eq (M := cost8 xss) hl0
  have hlen := chI_len h6 xss.length []
  rw [hl0] at hlen
  have h66 : 6 ^ xss.length ≤ 46656 := Nat.le_trans (Nat.pow_le_pow_right (by decide) h6) (by decide)
  obtain ⟨W1, hW1⟩ : ∃ W1, w.alloc (.cells #[] 3) = W1 := ⟨_, rfl⟩
  obtain ⟨W2, hW2⟩ : ∃ W2, W1.alloc (.cells #[] 24) = W2 := ⟨_, rfl⟩
  have hb1 : Below w.heap.size w W1 := by rw [← hW1]; exact (Below.refl _ _).alloc (Nat.le_refl _) _
  have hs1 : W1.heap.size = w.heap.size + 1 := by rw [← hW1]; simp
  have hb2 : Below w.heap.size w W2 := by rw [← hW2]; exact hb1.alloc hb1.size _
  have hown1 : Owns W2 0 (.slice (some ⟨w.heap.size, 0, none⟩) ([] : List Int).length 0) [] := by
    rw [← hW2, ← hW1]
    exact (owns_mono (owns_empty w w.heap.size (Nat.le_refl _)) (Nat.zero_le _)).alloc _
  have hown2 : W2.ownsRow W1.heap.size 24 1 (.slice (some ⟨W1.heap.size, 0, none⟩) 0 0) 0 [] := by
    rw [← hW2]
    exact World.ownsRow_made (base := W1.heap.size) (e := 24) (size := 1) W1 #[] 0 (Nat.le_refl _) (Nat.zero_le _) rfl
  have hrs0 := owns_rows_nil W2 W1.heap.size _ hown2
  have hcall := choices_any xss.length h6 xss.length W2 w.heap.size 0 (.slice (some ⟨W1.heap.size, 0, none⟩) 0 0) [] [] [] W1.heap.size (by simp) hown1 hrs0 (by rw [← hW2]; simp) (by simp; omega) (by intro h; omega)
  rw [hl0, List.nil_append] at hcall
  have HCALL := Lib.hid hcall
  have HB2 := Lib.hid hb2
  have HOWN2 := Lib.hid hown2
  have HV := Lib.hid hv
  have HCHO := Lib.hid hcho
  have HLE := Lib.hid hleast
  obtain ⟨A, cap, rfl, hm, -⟩ := hv.at
  have HS1 := Lib.hid hs1
  unfold maxLen at hm
  clear hcall hb1 hb2 hown1 hown2 hrs0 hcho hleast hv hl0 hs1
  go_enter Tryd.func27, Tryd.ntmps27
  go_wp2_with fail
  refine HCALL.out.mono ?_
  rintro e w3 ⟨v3, us, rfl, hrs, hlg⟩
  have hB3 : Below w.heap.size w w3 := hlg.bel HB2.out HOWN2.out (by have := HS1.out; omega)
  obtain ⟨g, c, rfl⟩ : ∃ g c, v3 = .slice (some ⟨g, 0, none⟩) (b0 :: l0).length c := by
    rcases hrs.outer.1.2 with ⟨_, hz⟩ | ⟨g, c, cur, hs, _⟩
    · simp at hz
    · exact ⟨g, c, hs⟩
  have hul : us.length = (b0 :: l0).length := hrs.len
  have HUL := Lib.hid hul
  have hro := hrs.outer.1
  have hcell : ∀ i (h : i < us.length), w3.cell? ⟨g, i, none⟩ = some us[i] := fun i h => by
    rw [hro.cellAt i (by omega), List.getElem?_eq_getElem h]
  have hint : ∀ i (h : i < us.length), Ints w3 us[i] ((b0 :: l0)[i]'(HUL.out ▸ h)) := fun i h => ints_at_owns (hrs.inner i h)
  have hown : ∀ i (h : i < us.length), Owns w3 w.heap.size us[i] ((b0 :: l0)[i]'(HUL.out ▸ h)) := fun i h => owns_mono (hrs.inner i h).1 (by have := HS1.out; omega)
  have HC := Lib.hid hcell
  have HI := Lib.hid hint
  have HO := Lib.hid hown
  have HB3 := Lib.hid hB3
  obtain ⟨N, hN⟩ : ∃ N, (b0 :: l0).length = N := ⟨_, rfl⟩
  have hN1 : 1 ≤ N := by rw [← hN]; simp
  have hNm : N ≤ 46656 := by rw [← hN]; omega
  rw [hN]
  have HN := Lib.hid hN
  have u0l : 0 < us.length := by rw [hul]; simp
  obtain ⟨u0, hu0⟩ : ∃ u, us[0] = u := ⟨_, rfl⟩
  have hc0 := hcell 0 u0l
  rw [hu0] at hc0
  have i0 : (0 : Int) < (N : Int) := by omega
  have HU0 := Lib.hid hu0
  have HU0L := Lib.hid u0l
  clear hcell hint hown hB3 hrs hlg hul hro hN hu0
  have hN0 : 0 < N := hN1
  have HN1 := Lib.hid hN1
  clear hlen h66 hN1
  go_wp2
  clear hc0 hN0
  have hN1 := HN1.out
  go_loopw [4, 5] (fun bv iv wr => ∃ (i j q : Nat) (hj : j < us.length), 1 ≤ i ∧ i ≤ N ∧ iv = .int .i64 i ∧ bv = us[j] ∧ (b0 :: l0)[j]? = some (bestI (cost8 xss) b0 (l0.take (i - 1))) ∧ wr = w3.drewN q) (fun _ iv _ => N - (intOf iv).toNat)
  case atStart => exact ⟨1, 0, 0, HU0L.out, by omega, hN1, rfl, HU0.out.symm, by simp [bestI], rfl⟩
  case round =>
    obtain ⟨i, j, q, hj, hi1, hiN, rfl, rfl, hbj, rfl⟩ := hrel
    by_cases hlt : i < N
    · have hiu : i < us.length := by have := HUL.out; have := HN.out; omega
      obtain ⟨m, rfl⟩ : ∃ m, i = m + 1 := ⟨i - 1, by omega⟩
      have hml : m < l0.length := by have := HN.out; simp at this; omega
      have hpi : (b0 :: l0)[m + 1]'(by simp; omega) = l0[m] := rfl
      have hsn := bestI_snoc (cost8 xss) b0 (l0.take m) l0[m]
      rw [← take_succ_at l0 hml] at hsn
      rw [Nat.add_sub_cancel] at hbj
      obtain ⟨p, hp⟩ : ∃ p, l0[m] = p := ⟨_, rfl⟩
      obtain ⟨B, hB⟩ : ∃ B, bestI (cost8 xss) b0 (l0.take m) = B := ⟨_, rfl⟩
      rw [hB] at hsn hbj
      rw [hp] at hsn
      have hbm : B ∈ b0 :: l0 := List.mem_of_getElem? hbj
      have hpm : p ∈ b0 :: l0 := by rw [← hp]; exact List.mem_cons_of_mem _ (List.getElem_mem _)
      have hbe : (b0 :: l0)[j]'(by have := HUL.out; omega) = B := by
        have := List.getElem?_eq_getElem (l := b0 :: l0) (i := j) (by have := HUL.out; omega)
        rw [this] at hbj
        simpa using hbj
      have hci' := HC.out (m + 1) hiu
      have hii := HI.out (m + 1) hiu
      have hij := HI.out j hj
      rw [hbe] at hij
      have hii' : Ints w3 us[m + 1] p := by rw [← hp]; exact hii
      obtain ⟨ui, hui⟩ : ∃ u, us[m + 1] = u := ⟨_, rfl⟩
      obtain ⟨uj, huj⟩ : ∃ u, us[j] = u := ⟨_, rfl⟩
      rw [hui] at hci' hii'
      rw [huj] at hij ⊢
      have HC1 := Lib.hid (fun q' => l8Cost_any (w3.drewN q') _ ui xss p ((HV.out.below HB3.out).drewN q') (hii'.drewN q') (HCHO.out p hpm))
      have HC2 := Lib.hid (fun q' => l8Cost_any (w3.drewN q') _ uj xss B ((HV.out.below HB3.out).drewN q') (hij.drewN q') (HCHO.out B hbm))
      obtain ⟨c1, hc1⟩ : ∃ c1, cost8 xss p = c1 := ⟨_, rfl⟩
      obtain ⟨c2, hc2⟩ : ∃ c2, cost8 xss B = c2 := ⟨_, rfl⟩
      rw [hc1] at HC1 hsn
      rw [hc2] at HC2 hsn
      obtain ⟨i1, hi1'⟩ : ∃ i1, m + 1 = i1 := ⟨_, rfl⟩
      rw [hi1'] at hci' hsn hlt hi1
      have hki : (i1 : Int) < (N : Int) := by omega
      have hk0 : (0 : Int) ≤ (i1 : Int) := by omega
      have HSN := Lib.hid hsn
      have HPI := Lib.hid (And.intro hi1' (And.intro hpi (And.intro hp (And.intro hbj (And.intro hui (And.intro huj hml))))))
      rw [hi1']
      clear hsn hc1 hc2 hii hij hii' hbe hbm hpm hB hp hpi hbj hi1' hui huj
      by_cases hlt2 : c1 < c2
      · go_wp2_with fail
        refine (HC1.out q).mono ?_
        rintro e w4 ⟨rfl, q4, rfl⟩
        go_wp2_with fail
        refine (HC2.out (q + q4)).mono ?_
        rintro e w5 ⟨rfl, q5, rfl⟩
        go_wp2
        go_roundw
        case rel =>
          obtain ⟨a1, a2, a3, a4, a5, a6, a7⟩ := HPI.out
          refine ⟨i1 + 1, i1, q + q4 + q5, by omega, by omega, by omega, by go_num, ?_, ?_, by simp⟩
          · subst a1; exact a5.symm
          · rw [Nat.add_sub_cancel, HSN.out, if_pos hlt2, ← a1, ← a3]
            simp [a7]
        case measure => simp [intOf]; omega
      · go_wp2_with fail
        refine (HC1.out q).mono ?_
        rintro e w4 ⟨rfl, q4, rfl⟩
        go_wp2_with fail
        refine (HC2.out (q + q4)).mono ?_
        rintro e w5 ⟨rfl, q5, rfl⟩
        go_wp2
        go_roundw
        case rel =>
          obtain ⟨a1, a2, a3, a4, a5, a6, a7⟩ := HPI.out
          refine ⟨i1 + 1, j, q + q4 + q5, hj, by omega, by omega, by go_num, a6.symm, ?_, by simp⟩
          rw [Nat.add_sub_cancel, HSN.out, if_neg (by omega)]
          exact a4
        case measure => simp [intOf]; omega
    · obtain rfl : i = N := by omega
      have htk : l0.take (i - 1) = l0 := List.take_of_length_le (by have := HN.out; simp at this; omega)
      rw [htk, ← HLE.out] at hbj
      have hO := HO.out j hj
      have hbe : (b0 :: l0)[j]'(by have := HUL.out; omega) = leastI (cost8 xss) xss.length := by
        have := List.getElem?_eq_getElem (l := b0 :: l0) (i := j) (by have := HUL.out; omega)
        rw [this] at hbj
        simpa using hbj
      rw [hbe] at hO
      have HF := Lib.hid (And.intro hO (below_drewN HB3.out q))
      clear hbj hbe hO htk
      go_wp2
      go_ret
      exact ⟨_, rfl, HF.out.2, HF.out.1⟩

/-- What CostLeast says. -/
def lqOf (xss : List (List Int)) : List Int := if cIn xss = true then leastI (cost8 xss) xss.length else []
def lqC (xss : List (List Int)) : Int := if cIn xss = true then cost8 xss (leastI (cost8 xss) xss.length) else 0
set_option maxRecDepth 100000 in
set_option maxHeartbeats 2000000 in
theorem specQLeast_any (w : World) (v : Value) (xss : List (List Int)) (hv : IntRows w v xss) :
    Calls Tryd.prog 21 #[v] w (GivesIntsN w (cIn xss) (lqOf xss) (lqC xss)) := by
  have HSI := Lib.hid (specCostIn_any w v xss hv)
  have HV := Lib.hid hv
  obtain ⟨A, cap, rfl, hm, -⟩ := hv.at
  unfold maxLen at hm
  clear hv
  cases hci : cIn xss with
  | false =>
    have HNO : Hid (lqOf xss = [] ∧ lqC xss = 0) := Lib.hid ⟨by unfold lqOf; rw [hci]; rfl, by unfold lqC; rw [hci]; rfl⟩
    rw [hci] at HSI
    clear hci
    go_enter Tryd.func21, Tryd.ntmps21
    go_wp2_with (go_at_call 26; refine HSI.out.mono ?_; rintro e w1 ⟨rfl, q1, rfl⟩)
    go_ret3
    rw [HNO.out.1, HNO.out.2]
    exact ⟨_, rfl, (below_drewN (Below.refl _ _) q1).alloc (by simp) _, owns_empty _ _ (by simp)⟩
  | true =>
    obtain ⟨h1, h6⟩ := cIn_size hci
    have HYES : Hid (lqOf xss = leastI (cost8 xss) xss.length ∧ lqC xss = cost8 xss (leastI (cost8 xss) xss.length)) := Lib.hid ⟨if_pos hci, if_pos hci⟩
    have HCH := Lib.hid (choice_of hci (leastI_rank (cost8 xss) h1 h6))
    have HL := Lib.hid (fun q => l8Least_any (w.drewN q) _ xss (HV.out.drewN q) hci)
    rw [hci] at HSI
    clear hci
    go_enter Tryd.func21, Tryd.ntmps21
    go_wp2_with (first
      | (go_at_call 26; refine HSI.out.mono ?_; rintro e w1 ⟨rfl, q1, rfl⟩)
      | (go_at_call 27; refine (HL.out q1).mono ?_; rintro e w2 ⟨u, rfl, hb2, ho2⟩; have HO2 := Lib.hid ho2; have HB2 := Lib.hid (step_below (below_drewN (Below.refl _ _) q1) hb2))
      | (go_at_call 37; refine (l8Cost_any w2 _ u xss _ (HV.out.below HB2.out) (ints_of_owns HO2.out) HCH.out).mono ?_; rintro e w3 ⟨rfl, q3, rfl⟩))
    go_ret3
    rw [HYES.out.1, HYES.out.2]
    exact ⟨u, rfl, below_drewN HB2.out q3, HO2.out⟩

end Go.Proofs.YtellghhilcjbnaaDoor
