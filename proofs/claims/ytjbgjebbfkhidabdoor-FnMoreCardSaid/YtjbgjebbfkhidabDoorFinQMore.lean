/-
  impl.CostMore; the law's walk with both contracts.
-/
import Derived.Test.YtjbgjebbfkhidabDoorQMore
import Derived.Test.YtjbgjebbfkhidabDoorFinQTurned
import Derived.Test.YtjbgjebbfkhidabDoorLawQMore
namespace Go.Proofs.YtjbgjebbfkhidabDoor
set_option linter.unusedVariables false
set_option linter.unusedSimpArgs false
open Go.RowKit

def addTo (F : Nat → Int) (r : Nat) (d : Int) (c : Nat) : Nat → Int := fun i => if i / 6 = r ∧ i % 6 < c then F i + d else F i
theorem addTo_zero (F : Nat → Int) (r : Nat) (d : Int) : addTo F r d 0 = F := by funext i; unfold addTo; rw [if_neg (by omega)]
theorem addTo_at (F : Nat → Int) (r : Nat) (d : Int) {c : Nat} (hc : c < 6) : addTo F r d c (6 * r + c) = F (6 * r + c) := by unfold addTo; rw [if_neg (by omega)]
theorem addTo_step (F : Nat → Int) (r : Nat) (d : Int) {c : Nat} (hc : c < 6) : updI (addTo F r d c) (6 * r + c) (F (6 * r + c) + d) = addTo F r d (c + 1) := by
  funext i
  unfold updI addTo
  by_cases h : i = 6 * r + c
  · subst h
    rw [if_pos rfl, if_pos (by constructor <;> omega)]
  · rw [if_neg h]
    have : (i / 6 = r ∧ i % 6 < c) ↔ (i / 6 = r ∧ i % 6 < c + 1) := by omega
    simp only [this]
theorem rowOf_at (n : Nat) (F : Nat → Int) (r : Nat) {c : Nat} (h : c < (rowOf n F r).length) : (rowOf n F r)[c] = F (6 * r + c) := by simp [rowOf]
theorem rows_more (xss : List (List Int)) (h6 : xss.length ≤ 6) (hr : ∀ i (hi : i < xss.length), xss[i].length = xss.length) (r : Nat) (d : Int) : rowsOf xss.length (addTo (flat xss) r d xss.length) = moreL xss (r : Int) d := by
  unfold rowsOf moreL
  apply List.map_congr_left
  intro k hk
  rw [List.mem_range] at hk
  have hl := hr k hk
  have e2 : xss.getD k [] = xss[k] := by simp [List.getD, hk]
  apply List.ext_getElem
  · rw [rowOf_len, moreRow_len hr hk]
  · intro c h1 h2
    rw [rowOf_len] at h1
    have hc : c < xss[k].length := by omega
    have hf := flat_at xss hk hc (by omega)
    rw [rowOf_at]
    unfold addTo
    rw [hf]
    unfold moreRow
    simp only [e2]
    by_cases hkr : k = r
    · subst hkr
      rw [if_pos (by constructor <;> omega)]
      simp
    · rw [if_neg (by omega)]
      have : ¬ ((k : Int) = (r : Int)) := by omega
      simp [this]
theorem ints_one (W : World) (d : Int) : Ints (W.alloc (.cells #[.int .i64 d] 3)) (.slice (some ⟨W.heap.size, 0, none⟩) 1 1) [d] := by
  refine ⟨some ⟨W.heap.size, 0, none⟩, 1, rfl, by unfold maxLen; simp, fun i hi => ⟨W.heap.size, 0, rfl, ?_⟩⟩
  have : i = 0 := by simpa using hi
  subst this
  simp
theorem one_all (d : Int) : [d].all (inL 2000) = decide (-2000 ≤ d ∧ d ≤ 2000) := by simp [inL]

set_option maxRecDepth 100000 in
set_option maxHeartbeats 8000000 in
theorem implQMore_any (w : World) (v : Value) (xss : List (List Int)) (row d : Int) (hv : IntRows w v xss) :
    Calls Tryd.prog 44 #[v, .int .i64 row, .int .i64 d] w (GivesRows w (moreB xss row d) (moreOf xss row d)) := by
  have hf := cFrom_any w v xss hv
  obtain ⟨A, cap, rfl, hm, -⟩ := hv.at
  unfold maxLen at hm
  clear hv
  have fails : ∀ W, Below w.heap.size w W → moreB xss row d = false → GivesRows w (moreB xss row d) (moreOf xss row d) (.returned (.tuple #[.slice none 0 0, .bool false])) W := fun W hb hno => by
    rw [moreOf_no hno, hno]
    exact ⟨_, [], rfl, hb, (owns_rows_nil _ _ _ (World.ownsRow_nil _ _ _ _)).wide (Nat.le_refl _) (Nat.le_refl _)⟩
  have FAILS := Lib.hid fails
  clear fails
  cases hci : cIn xss with
  | false =>
    have HNO : Hid (moreB xss row d = false) := Lib.hid (by unfold moreB; rw [hci]; rfl)
    have hfr : cFromOf xss = tcells 0 (fun _ => 0) := by unfold cFromOf; rw [hci]; rfl
    rw [hci, hfr] at hf
    have HF := Lib.hid hf
    clear hci hf hfr
    go_enter Tryd.func44, Tryd.ntmps44
    go_wp2_with (first
      | (go_at_call 56; refine HF.out.mono ?_; rintro e w1 ⟨rfl, hb1⟩)
      | (refine alloc_whole rfl rfl ?_)
      | (refine store_whole_last rfl _ _ rfl 0 (fun _ => 0) _ rfl rfl rfl ?_))
    go_ret2
    exact FAILS.out _ (hb1.alloc hb1.size _) HNO.out
  | true =>
    obtain ⟨h1, h6⟩ := cIn_size hci
    have hfr : cFromOf xss = tcells xss.length (flat xss) := by unfold cFromOf; rw [hci]; rfl
    rw [hci, hfr] at hf
    have HF := Lib.hid hf
    clear hf hfr
    by_cases hr0 : row < 0
    · have HNO : Hid (moreB xss row d = false) := Lib.hid (by unfold moreB; rw [decide_eq_false (show ¬ (0 ≤ row ∧ row ≤ (xss.length : Int) - 1) by omega), Bool.false_and, Bool.and_false])
      clear hci
      go_enter Tryd.func44, Tryd.ntmps44
      go_wp2_with (first
        | (go_at_call 56; refine HF.out.mono ?_; rintro e w1 ⟨rfl, hb1⟩)
        | (refine alloc_whole rfl rfl ?_)
        | (refine store_whole_last rfl _ _ rfl xss.length (flat xss) _ rfl rfl rfl ?_))
      go_ret2
      exact FAILS.out _ (hb1.alloc hb1.size _) HNO.out
    · by_cases hrn : (xss.length : Int) ≤ row
      · have HNO : Hid (moreB xss row d = false) := Lib.hid (by unfold moreB; rw [decide_eq_false (show ¬ (0 ≤ row ∧ row ≤ (xss.length : Int) - 1) by omega), Bool.false_and, Bool.and_false])
        clear hci
        go_enter Tryd.func44, Tryd.ntmps44
        go_wp2_with (first
          | (go_at_call 56; refine HF.out.mono ?_; rintro e w1 ⟨rfl, hb1⟩; obtain ⟨d0, -, -, -⟩ := whole_cells (World.alloc_heap_new w1 (.cells (tcells xss.length (flat xss)) 59)))
          | (refine alloc_whole rfl rfl ?_)
          | (refine store_whole_last rfl _ _ rfl xss.length (flat xss) _ rfl rfl rfl ?_))
        go_ret2
        exact FAILS.out _ (hb1.alloc hb1.size _) HNO.out
      · have hrow : decide (0 ≤ row ∧ row ≤ (xss.length : Int) - 1) = true := decide_eq_true (by omega)
        have HAW := Lib.hid (fun (W : World) (g : Nat) (hg : W.heap.size = g) => areWithin_any (W.alloc (.cells #[.int .i64 d] 3)) (.slice (some ⟨g, 0, none⟩) 1 1) [d] (by rw [← hg]; exact ints_one W d) 2000 (by omega) (by omega))
        rw [one_all] at HAW
        cases hd : decide (-2000 ≤ d ∧ d ≤ 2000) with
        | false =>
          rw [hd] at HAW
          have HNO : Hid (moreB xss row d = false) := Lib.hid (by unfold moreB; rw [hd, Bool.false_and, Bool.and_false, Bool.and_false])
          clear hci hrow hd
          go_enter Tryd.func44, Tryd.ntmps44
          go_wp2_with (first
            | (go_at_call 56; refine HF.out.mono ?_; rintro e w1 ⟨rfl, hb1⟩; have hb2 := hb1.alloc hb1.size (.cells (tcells xss.length (flat xss)) 59); obtain ⟨d0, -, -, -⟩ := whole_cells (World.alloc_heap_new w1 (.cells (tcells xss.length (flat xss)) 59)))
            | (refine alloc_whole rfl rfl ?_)
            | (refine store_whole_last rfl _ _ rfl xss.length (flat xss) _ rfl rfl rfl ?_)
            | (go_at_call 77; refine (HAW.out (w1.alloc (.cells (tcells xss.length (flat xss)) 59)) (w1.heap.size + 1) (by simp)).mono ?_; rintro e w3 ⟨rfl, hb3⟩))
          go_ret2
          exact FAILS.out _ (step_below (hb2.alloc hb2.size _) hb3) HNO.out
        | true =>
          rw [hd] at HAW
          have hmb : moreB xss row d = cIn (moreL xss row d) := by unfold moreB; rw [hci, hrow, hd]; rfl
          have HMB := Lib.hid hmb
          have HROW := Lib.hid (cIn_rows hci)
          have HD := Lib.hid (of_decide_eq_true hd)
          obtain ⟨r, rfl⟩ : ∃ r : Nat, row = (r : Int) := ⟨row.toNat, by omega⟩
          have hrl : r < xss.length := by omega
          have hdec1 : decide ((r : Int) < 0) = false := decide_eq_false (by omega)
          have hdec2 : decide ((xss.length : Int) ≤ (r : Int)) = false := decide_eq_false (by omega)
          have hdec3 : decide (xss.length ≤ r) = false := decide_eq_false (by omega)
          clear hci hrow hd hmb
          go_enter Tryd.func44, Tryd.ntmps44
          go_wp2_with (first
            | (go_at_call 56; refine HF.out.mono ?_; rintro e w1 ⟨rfl, hb1⟩; have hb2 := hb1.alloc hb1.size (.cells (tcells xss.length (flat xss)) 59); have hg2 := World.alloc_heap_new w1 (.cells (tcells xss.length (flat xss)) 59); obtain ⟨d0, -, -, -⟩ := whole_cells hg2; have hb25 := hb2.alloc hb2.size (.cells #[.int .i64 d] 3); have hg25 := kept_obj ((Below.refl _ _).alloc (Nat.le_refl _) (.cells #[.int .i64 d] 3)) hg2)
            | (refine alloc_whole rfl rfl ?_)
            | (refine store_whole_last rfl _ _ rfl xss.length (flat xss) _ rfl rfl rfl ?_)
            | (go_at_call 77; refine (HAW.out (w1.alloc (.cells (tcells xss.length (flat xss)) 59)) (w1.heap.size + 1) (by simp)).mono ?_; rintro e w3 ⟨rfl, hb3⟩; obtain ⟨d3, -, -, -⟩ := whole_cells (kept_obj hb3 hg25)))
          have hg3 := kept_obj hb3 hg25
          have HST := Lib.hid (And.intro (step_below hb25 hb3) hg3)
          have hg1w : w.heap.size ≤ w1.heap.size := hb1.size
          obtain ⟨g, hgg⟩ : ∃ g, w1.heap.size = g := ⟨_, rfl⟩
          rw [hgg] at HST hg1w ⊢
          clear hb1 hb2 hg2 d0 hb25 hg25 hb3 d3 hg3 hgg
          go_loopw [10, 39] (fun _ iv wr => ∃ c : Nat, c ≤ xss.length ∧ iv = .int .i64 c ∧ Below w.heap.size w wr ∧ wr.heap[g]? = some (.cells (tcells xss.length (addTo (flat xss) r d c)) 59 (0, 0))) (fun _ iv _ => xss.length - (intOf iv).toNat)
          case atStart => exact ⟨0, by omega, rfl, HST.out.1, by rw [addTo_zero]; exact HST.out.2⟩
          case round =>
            clear HST
            obtain ⟨c, hc, rfl, hb, hgx⟩ := hrel
            by_cases hlc : c < xss.length
            · obtain ⟨hlen, hnum⟩ := HROW.out r hrl
              have hcr : c < xss[r].length := by omega
              have hnm := hnum xss[r][c] (List.getElem_mem _)
              have hdd := HD.out
              obtain ⟨x0, xs, xf, -⟩ := whole_cells hgx
              have cc := xs (6 * r + c) (by omega)
              have cf := xf (1 + (6 * r + c))
              rw [addTo_at _ _ _ (by omega)] at cc
              have hfl := flat_at xss hrl hcr (by omega)
              have hst := addTo_step (flat xss) r d (c := c) (by omega)
              rw [hfl] at cc hst
              obtain ⟨x, hx⟩ : ∃ x, xss[r][c] = x := ⟨_, rfl⟩
              rw [hx] at cc hst hnm
              obtain ⟨s, hs⟩ : ∃ s, x + d = s := ⟨_, rfl⟩
              rw [hs] at hst
              have hsd := whole_stored (6 * r + c) s (by omega) hgx
              rw [hst] at hsd
              rw [show 1 + (6 * r + c) = 1 + r * 6 + c by omega] at cc cf hsd
              have hri : (r : Int) < 6 := by omega
              have hci2 : (c : Int) < 6 := by omega
              have hr00 : (0 : Int) ≤ (r : Int) := by omega
              have hc00 : (0 : Int) ≤ (c : Int) := by omega
              have hcx : (c : Int) < (xss.length : Int) := by omega
              have hsb : -4000000 ≤ s ∧ s ≤ 4000000 := by omega
              have HX := Lib.hid (And.intro (hb.setCell (p := ⟨g, 1 + r * 6 + c, none⟩) hg1w (.int .i64 s)).drew hsd)
              clear hlen hnum hcr hnm hdd xs xf hfl hx hst hsd hgx hb
              obtain ⟨hw1, hw2⟩ := wrap_more s hsb.1 hsb.2
              clear hsb
              go_wp2
              first | go_quiet (fail) | go_region_law (fail) | go_region_with (fail)
              all_goals go_wp2
              all_goals clear hw1 hw2 hs
              all_goals go_roundw
              all_goals first
                | exact ⟨c + 1, by omega, by go_num, HX.out.1, HX.out.2⟩
                | (simp [intOf]; omega)
            · obtain rfl : c = xss.length := by omega
              have hrm := rows_more xss h6 (fun i hi => (HROW.out i hi).1) r d
              have HTL := Lib.hid (fun W => tlist_any xss.length (addTo (flat xss) r d xss.length) h1 h6 W)
              rw [hrm] at HTL
              have HCI := Lib.hid (fun (W : World) (p : Value) (hp : IntRows W p (moreL xss (r : Int) d)) => implQIn_any W p (moreL xss (r : Int) d) hp)
              obtain ⟨x0, -, -, -⟩ := whole_cells hgx
              have HB := Lib.hid hb
              cases hc2 : cIn (moreL xss (r : Int) d) with
              | false =>
                rw [hc2] at HCI
                have HNO : Hid (moreB xss (r : Int) d = false) := Lib.hid (by rw [HMB.out, hc2])
                clear hrm hc2 hb
                go_wp2_with (first
                  | (refine load_wtable rfl _ rfl g xss.length (addTo (flat xss) r d xss.length) rfl hgx ?_)
                  | (go_at_call 80; refine (HTL.out _).mono ?_; rintro e w5 ⟨u, us, rfl, hb5, ho5⟩; obtain ⟨A5, c5, rfl⟩ := rows_slice ho5)
                  | (go_at_call 30; refine (HCI.out w5 _ (rows_of_owns ho5)).mono ?_; rintro e w6 ⟨rfl, hb6⟩))
                go_ret2
                exact FAILS.out _ (step_below (step_below HB.out hb5) hb6) HNO.out
              | true =>
                rw [hc2] at HCI
                have hyes : moreB xss (r : Int) d = true := by rw [HMB.out, hc2]
                have HYES : Hid (moreB xss (r : Int) d = true ∧ moreOf xss (r : Int) d = moreL xss (r : Int) d) := Lib.hid ⟨hyes, if_pos hyes⟩
                clear hrm hc2 hb hyes
                go_wp2_with (first
                  | (refine load_wtable rfl _ rfl g xss.length (addTo (flat xss) r d xss.length) rfl hgx ?_)
                  | (go_at_call 80; refine (HTL.out _).mono ?_; rintro e w5 ⟨u, us, rfl, hb5, ho5⟩; obtain ⟨A5, c5, rfl⟩ := rows_slice ho5)
                  | (go_at_call 30; refine (HCI.out w5 _ (rows_of_owns ho5)).mono ?_; rintro e w6 ⟨rfl, hb6⟩))
                go_ret2
                rw [HYES.out.1, HYES.out.2]
                exact ⟨_, us, rfl, step_below (step_below HB.out hb5) hb6, (ho5.below hb6).wide HB.out.size hb6.size⟩


end Go.Proofs.YtjbgjebbfkhidabDoor
