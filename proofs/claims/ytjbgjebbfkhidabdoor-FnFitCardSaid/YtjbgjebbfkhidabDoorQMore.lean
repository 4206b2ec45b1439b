/-
  Costs with more in a row: plain functions; spec.CostMore.
-/
import Derived.Test.YtjbgjebbfkhidabDoorQTurned
namespace Go.Proofs.YtjbgjebbfkhidabDoor
set_option linter.unusedVariables false
set_option linter.unusedSimpArgs false
open Go.RowKit

/-- A line with more in its first k numbers. -/
def lineTo (xs : List Int) (d : Int) (k : Nat) : List Int := (xs.take k).map (· + d) ++ xs.drop k
theorem lineTo_len (xs : List Int) (d : Int) (k : Nat) : (lineTo xs d k).length = xs.length := by simp [lineTo]; omega
theorem lineTo_zero (xs : List Int) (d : Int) : lineTo xs d 0 = xs := by simp [lineTo]
theorem lineTo_all (xs : List Int) (d : Int) : lineTo xs d xs.length = xs.map (· + d) := by simp [lineTo]
theorem lineTo_at (xs : List Int) (d : Int) {k : Nat} (hk : k < xs.length) : (lineTo xs d k)[k]? = some xs[k] := by
  unfold lineTo
  rw [List.getElem?_append_right (by rw [List.length_map, List.length_take]; omega)]
  simp [hk, Nat.min_eq_left (Nat.le_of_lt hk)]
theorem lineTo_set (xs : List Int) (d : Int) {k : Nat} (hk : k < xs.length) : (lineTo xs d k).set k (xs[k] + d) = lineTo xs d (k + 1) := by
  unfold lineTo
  rw [List.set_append_right _ _ (by rw [List.length_map, List.length_take]; omega), List.take_succ_eq_append_getElem hk, List.map_append, List.append_assoc]
  have e : k - ((xs.take k).map (· + d)).length = 0 := by simp; omega
  rw [e, List.drop_eq_getElem_cons hk, List.set_cons_zero]
  rfl
def moreRow (xss : List (List Int)) (row d : Int) (i : Nat) : List Int := if (i : Int) = row then (xss.getD i []).map (· + d) else xss.getD i []
def moreL (xss : List (List Int)) (row d : Int) : List (List Int) := (List.range xss.length).map (moreRow xss row d)
def moreB (xss : List (List Int)) (row d : Int) : Bool := cIn xss && (decide (0 ≤ row ∧ row ≤ (xss.length : Int) - 1) && (decide (-2000 ≤ d ∧ d ≤ 2000) && cIn (moreL xss row d)))
def moreOf (xss : List (List Int)) (row d : Int) : List (List Int) := if moreB xss row d = true then moreL xss row d else []
theorem moreL_len (xss : List (List Int)) (row d : Int) : (moreL xss row d).length = xss.length := by simp [moreL]
theorem moreL_take (xss : List (List Int)) (row d : Int) {k : Nat} (hk : k < xss.length) : (moreL xss row d).take (k + 1) = (moreL xss row d).take k ++ [moreRow xss row d k] := by
  rw [List.take_succ_eq_append_getElem (by rw [moreL_len]; exact hk)]
  simp [moreL]
theorem moreRow_len {xss : List (List Int)} {row d : Int} {n : Nat} (h : ∀ i (hi : i < xss.length), xss[i].length = n) {k : Nat} (hk : k < xss.length) : (moreRow xss row d k).length = n := by
  have e2 : xss.getD k [] = xss[k] := by simp [List.getD, hk]
  unfold moreRow
  rw [e2]
  split
  · rw [List.length_map]; exact h k hk
  · exact h k hk
theorem moreOf_no {xss : List (List Int)} {row d : Int} (h : moreB xss row d = false) : moreOf xss row d = [] := by unfold moreOf; rw [h]; rfl
theorem cIn_rows {xss : List (List Int)} (h : cIn xss = true) : ∀ i (hi : i < xss.length), xss[i].length = xss.length ∧ ∀ x ∈ xss[i], -1000 ≤ x ∧ x ≤ 1000 := fun i hi => by
  unfold cIn at h
  rw [Bool.and_eq_true, List.all_eq_true] at h
  have := h.1 _ (List.getElem_mem hi)
  unfold rowC at this
  rw [Bool.and_eq_true, decide_eq_true_iff, List.all_eq_true] at this
  exact ⟨this.1, fun x hx => numC_yes (this.2 x hx)⟩
theorem moreOf_fits (xss : List (List Int)) (row d : Int) : (moreOf xss row d).length + total (moreOf xss row d) ≤ 1048576 := by
  unfold moreOf
  split
  · rename_i h
    unfold moreB at h
    rw [Bool.and_eq_true] at h
    obtain ⟨h1, h6⟩ := cIn_size h.1
    have hr := cIn_rows h.1
    rw [total_same (n := xss.length) _ (fun x hx => by obtain ⟨k, hk, rfl⟩ := List.mem_map.1 hx; exact moreRow_len (fun i hi => (hr i hi).1) (List.mem_range.1 hk)), moreL_len]
    have : xss.length * xss.length ≤ 6 * 6 := Nat.mul_le_mul h6 h6
    omega
  · simp [total]

/-- What the specification hands back where it fails. -/
theorem none_rows {w W : World} {ok : Bool} (hb : Below w.heap.size w W) (hok : ok = false) : GivesRows w ok [] (.returned (.tuple #[.slice (some ⟨W.heap.size, 0, none⟩) 0 0, .bool false])) (W.alloc (.cells #[] 24)) := by
  have hown := World.ownsRow_made (base := w.heap.size) (e := 24) (size := 1) W #[] 0 hb.size (Nat.zero_le _) rfl
  exact ⟨_, [], by rw [hok], hb.alloc hb.size _, owns_rows_nil _ _ _ hown⟩

theorem vals_setq (xs : List Int) (i : Nat) (v : Int) : (vals xs).set i (.int .i64 v) = vals (xs.set i v) := by simp [vals, List.map_set]
theorem wrap_more (x : Int) (h1 : -4000000 ≤ x) (h2 : x ≤ 4000000) : IntKind.i64.wrap x = x ∧ wrap64 x = x := by
  have h : IntKind.i64.wrap x = x := by rw [IntKind.wrap_i64]; omega
  exact ⟨h, by rw [← wrap_eq]; exact h⟩
theorem rows_slice {w : World} {lo hi : Nat} {v : Value} {us : List Value} {xss : List (List Int)} (h : OwnsRows w lo hi v us xss) : ∃ A c, v = .slice A xss.length c := by
  rcases h.outer.1.2 with ⟨rfl, hn⟩ | ⟨g, cap, cur, rfl, _⟩
  · exact ⟨none, 0, by rw [hn]⟩
  · exact ⟨_, _, rfl⟩

set_option maxRecDepth 100000 in
set_option maxHeartbeats 8000000 in
theorem specQMore_any (w : World) (v : Value) (xss : List (List Int)) (row d : Int) (hv : IntRows w v xss) :
    Calls Tryd.prog 45 #[v, .int .i64 row, .int .i64 d] w (GivesRows w (moreB xss row d) (moreOf xss row d)) := by
  obtain ⟨i0, hi, hz0, hz1, hz2⟩ := info_parts infoRow
  obtain ⟨j0, hj, hy0, hy1, hy2⟩ := info_parts infoInt
  have HSI := Lib.hid (specCostIn_any w v xss hv)
  obtain ⟨A, cap, rfl, hm, hc⟩ := hv.at
  have HC := Lib.hid hc
  unfold maxLen at hm
  clear hc hv
  cases hci : cIn xss with
  | false =>
    have hno : moreB xss row d = false := by unfold moreB; rw [hci]; rfl
    have HNO := Lib.hid (And.intro hno (moreOf_no hno))
    rw [hci] at HSI
    clear hci hno
    go_enter Tryd.func45, Tryd.ntmps45
    go_wp2_with (go_at_call 31; refine HSI.out.mono ?_; rintro e w1 ⟨rfl, q1, rfl⟩)
    go_ret2
    rw [HNO.out.2]
    exact none_rows (below_drewN (Below.refl _ _) q1) HNO.out.1
  | true =>
    obtain ⟨h1, h6⟩ := cIn_size hci
    have hnw : IntKind.i64.wrap ((xss.length : Int) - 1) = (xss.length : Int) - 1 := by rw [IntKind.wrap_i64]; omega
    have hnw2 : wrap64 ((xss.length : Int) - 1) = (xss.length : Int) - 1 := by rw [← wrap_eq]; exact hnw
    rw [hci] at HSI
    cases hrow : decide (0 ≤ row ∧ row ≤ (xss.length : Int) - 1) with
    | false =>
      have hno : moreB xss row d = false := by unfold moreB; rw [hrow, Bool.false_and, Bool.and_false]
      have HNO := Lib.hid (And.intro hno (moreOf_no hno))
      have HLI := Lib.hid (fun W => l6In_c row 0 ((xss.length : Int) - 1) false hrow W)
      clear hci hno hrow
      go_enter Tryd.func45, Tryd.ntmps45
      go_wp2_with (first
        | (go_at_call 31; refine HSI.out.mono ?_; rintro e w1 ⟨rfl, q1, rfl⟩)
        | (go_at_call 70; refine (HLI.out _).mono ?_; rintro e w2 ⟨rfl, rfl⟩))
      go_ret2
      rw [HNO.out.2]
      exact none_rows (below_drewN (Below.refl _ _) q1) HNO.out.1
    | true =>
      have HLI := Lib.hid (fun W => l6In_c row 0 ((xss.length : Int) - 1) true hrow W)
      cases hd : decide (-2000 ≤ d ∧ d ≤ 2000) with
      | false =>
        have hno : moreB xss row d = false := by unfold moreB; rw [hd, Bool.false_and, Bool.and_false, Bool.and_false]
        have HNO := Lib.hid (And.intro hno (moreOf_no hno))
        have HLD := Lib.hid (fun W => l6In_c d (-2000) 2000 false hd W)
        clear hci hno hrow hd
        go_enter Tryd.func45, Tryd.ntmps45
        go_wp2_with (first
          | (go_at_call 31; refine HSI.out.mono ?_; rintro e w1 ⟨rfl, q1, rfl⟩)
          | (go_at_call 70; (with_reducible refine (HLI.out _).mono ?_); rintro e w2 ⟨rfl, rfl⟩)
          | (go_at_call 70; (with_reducible refine (HLD.out _).mono ?_); rintro e w2 ⟨rfl, rfl⟩))
        go_ret2
        rw [HNO.out.2]
        exact none_rows (below_drewN (Below.refl _ _) q1) HNO.out.1
      | true =>
        have HLD := Lib.hid (fun W => l6In_c d (-2000) 2000 true hd W)
        have hmb : moreB xss row d = cIn (moreL xss row d) := by unfold moreB; rw [hci, hrow, hd]; rfl
        have HMB := Lib.hid hmb
        have HROW := Lib.hid (cIn_rows hci)
        have HD := Lib.hid (And.intro (of_decide_eq_true hrow) (of_decide_eq_true hd))
        clear hci hrow hd hmb
        go_enter Tryd.func45, Tryd.ntmps45
        go_wp2_with (first
          | (go_at_call 31; refine HSI.out.mono ?_; rintro e w1 ⟨rfl, q1, rfl⟩)
          | (go_at_call 70; (with_reducible refine (HLI.out _).mono ?_); rintro e w2 ⟨rfl, rfl⟩)
          | (go_at_call 70; (with_reducible refine (HLD.out _).mono ?_); rintro e w2 ⟨rfl, rfl⟩))
        clear hnw hnw2
        have hb0 : Below w.heap.size w ((w.drewN q1).alloc (.cells #[] 24)) := (below_drewN (Below.refl _ _) q1).alloc (Nat.le_refl _) _
        have hown : ((w.drewN q1).alloc (.cells #[] 24)).ownsRow w.heap.size 24 1 (.slice (some ⟨w.heap.size, 0, none⟩) 0 0) 0 [] :=
          World.ownsRow_made (base := w.heap.size) (e := 24) (size := 1) (w.drewN q1) #[] 0 (Nat.le_refl _) (Nat.zero_le _) rfl
        have HST := Lib.hid (And.intro hb0 (owns_rows_nil _ w.heap.size _ hown))
        clear hb0 hown
        go_loopw [8, 9, 10, 11] (fun r i _ _ wr => ∃ (k : Nat) (us : List Value), k ≤ xss.length ∧ i = .int .i64 k ∧ Below w.heap.size w wr ∧ OwnsRows wr w.heap.size wr.heap.size r us ((moreL xss row d).take k)) (fun _ i _ _ _ => xss.length - (intOf i).toNat)
        case atStart => exact ⟨0, [], by omega, rfl, HST.out.1, HST.out.2⟩
        case round =>
          clear HST
          obtain ⟨wq, hwq⟩ : ∃ wq, wq = wr := ⟨_, rfl⟩
          subst hwq
          obtain ⟨k, us, hk, rfl, hb, hrs⟩ := hrel
          have HRS := Lib.hid hrs
          have HB := Lib.hid hb
          by_cases hlt : k < xss.length
          · obtain ⟨b, off, u, rfl, hcell0, hu⟩ := HC.out k hlt
            obtain ⟨hlen, hnum⟩ := HROW.out k hlt
            obtain ⟨A2, cap2, rfl, hm2, hc2⟩ := hu.below hb
            obtain ⟨b2, o2, rfl⟩ : ∃ b2 o2, A2 = some ⟨b2, o2, none⟩ := by obtain ⟨b2, o2, h, _⟩ := hc2 0 (by omega); exact ⟨b2, o2, h⟩
            rw [hlen] at hcell0
            have hcell := (hb.cell (p := ⟨b, off + k, none⟩) (World.block_lt_of_cell? w _ hcell0)).trans hcell0
            have hcellA := (show (wq.alloc (.cells #[] 3)).cell? ⟨b, off + k, none⟩ = some (.slice (some ⟨b2, o2, none⟩) xss.length cap2) by rw [World.cell?_alloc_past _ _ _ (World.block_lt_of_cell? wq _ hcell)]; exact hcell)
            have hnews : ∀ (j : Nat) (u : Value), (vals xss[k])[j]? = some u → (wq.alloc (.cells #[] 3)).cell? ((⟨b2, o2, none⟩ : Addr).add j) = some u := by
              intro j u hu
              have hj : j < xss[k].length := by
                have := (List.getElem?_eq_some_iff.1 hu).1
                simpa using this
              have hu' : u = .int .i64 xss[k][j] := by simpa [hj] using hu.symm
              obtain ⟨b', off', he, hcell⟩ := hc2 j hj
              cases he
              have hadd : (⟨b2, o2, none⟩ : Addr).add j = ⟨b2, o2 + j, none⟩ := by unfold Addr.add; split <;> simp_all
              rw [hadd, World.cell?_alloc_past _ _ _ (World.block_lt_of_cell? wq _ hcell), hcell, hu']
            have hown0 := owns_empty wq wq.heap.size (Nat.le_refl _)
            have hl1 : (vals xss[k]).length = xss.length * 1 := by rw [← hlen]; simp
            have h11 : ∀ u ∈ vals xss[k], u.oneCell' = true := by intro u hu; simp at hu; obtain ⟨x, _, rfl⟩ := hu; rfl
            have q1' : 0 < xss.length := h1
            have q2 : 0 + xss.length ≤ maxLen := by unfold maxLen; omega
            have q3 : (0 + xss.length) * 8 ≤ 140737488355328 := by omega
            have q4 : wq.heap.size ≤ (wq.alloc (.cells #[] 3)).heap.size := by simp
            have HN := Lib.hid hnews
            have HLL := Lib.hid hl1
            have H11 := Lib.hid h11
            have HNUM := Lib.hid (And.intro hlen hnum)
            have hki : (k : Int) < (xss.length : Int) := by omega
            have hk0 : (0 : Int) ≤ (k : Int) := by omega
            have e2 : xss.getD k [] = xss[k] := by simp [List.getD, hlt]
            have HE2 := Lib.hid e2
            clear hnews hl1 h11 hc2 hm2 hu hcell0 hlen hnum hrs hb e2
            go_wp2_with (at_builtin; refine wpList_append_lies _ rfl (.tmp 36) (.tmp 40) 24 rfl wq.heap.size 3 j0 (.int .i64 0) 1 8 Tryd.underlying24 hj hy0 hy1 hy2 rfl (by decide) (.slice (some ⟨wq.heap.size, 0, none⟩) 0 0) 0 [] rfl hown0 ⟨b2, o2, none⟩ xss.length cap2 (vals xss[k]) rfl HLL.out HN.out H11.out q1' q2 q3 q4 _ rfl ?_; intro g cap1 w1 hown1 hgrow1 _ _)
            have hb1 : Below wq.heap.size wq w1 := ((Below.refl wq.heap.size wq).alloc (Nat.le_refl _) _).grown hgrow1 (by simp) (fun k hk => by cases hk; exact Nat.le_refl _)
            have hin1 : w1.ownsRow wq.heap.size 3 1 (.slice (some ⟨g, 0, none⟩) xss.length cap1) xss.length (vals xss[k]) := by simpa using hown1
            have H1 := Lib.hid (And.intro hb1 hin1)
            clear hb1 hin1 hown1 hgrow1 hcell hcellA hown0 q1' q2 q3 q4
            by_cases hkr : (k : Int) = row
            · subst hkr
              have hkk : ((k : Int) == (k : Int)) = true := by simp
              go_loopw [11] (fun jv wr => ∃ j : Nat, j ≤ xss.length ∧ jv = .int .i64 j ∧ Below wq.heap.size wq wr ∧ wr.ownsRow wq.heap.size 3 1 (.slice (some ⟨g, 0, none⟩) xss.length cap1) xss.length (vals (lineTo xss[k] d j))) (fun jv _ => xss.length - (intOf jv).toNat)
              case atStart => exact ⟨0, by omega, rfl, H1.out.1, by rw [lineTo_zero]; exact H1.out.2⟩
              case round =>
                clear H1
                obtain ⟨j, hj', rfl, hbx, ho⟩ := hrel
                by_cases hlj : j < xss.length
                · have hjk : j < xss[k].length := by have := HNUM.out.1; omega
                  have hnm := HNUM.out.2 xss[k][j] (List.getElem_mem _)
                  have hdd := HD.out.2
                  have hset := lineTo_set xss[k] d hjk
                  have hcl := ho.cellAt j (by omega)
                  have hat : (vals (lineTo xss[k] d j))[j]? = some (.int .i64 xss[k][j]) := by simp only [vals, List.getElem?_map, lineTo_at xss[k] d hjk, Option.map_some]
                  rw [hat] at hcl
                  obtain ⟨x, hx⟩ : ∃ x, xss[k][j] = x := ⟨_, rfl⟩
                  rw [hx] at hnm hset hcl
                  obtain ⟨s, hs⟩ : ∃ s, x + d = s := ⟨_, rfl⟩
                  rw [hs] at hset
                  have hst := (ho.stored j (.int .i64 s)).1
                  rw [vals_setq, hset] at hst
                  have hf := ho.frozenAt j
                  have hg := (ho.lt g rfl).1
                  have hji : (j : Int) < (xss.length : Int) := by omega
                  have hj0 : (0 : Int) ≤ (j : Int) := by omega
                  have hsb : -4000000 ≤ s ∧ s ≤ 4000000 := by omega
                  have HX := Lib.hid (And.intro (hbx.setCell (p := ⟨g, j, none⟩) hg (.int .i64 s)) hst)
                  clear hat hx hnm hdd hset hst ho hbx hjk
                  obtain ⟨hw1, hw2⟩ := wrap_more s hsb.1 hsb.2
                  go_wp2
                  clear hw1 hw2 hs
                  go_roundw
                  case rel => exact ⟨j + 1, by omega, by go_num, HX.out⟩
                  case measure => simp [intOf]; omega
                · obtain rfl : j = xss.length := by omega
                  have hrow2 : lineTo xss[k] d xss.length = moreRow xss (k : Int) d k := by
                    have e1 : xss.length = xss[k].length := HNUM.out.1.symm
                    unfold moreRow
                    rw [if_pos rfl, HE2.out]
                    conv => lhs; rw [e1]
                    exact lineTo_all _ _
                  rw [hrow2] at ho
                  have hin : Owns wr wq.heap.size (.slice (some ⟨g, 0, none⟩) xss.length cap1) (moreRow xss (k : Int) d k) := by
                    unfold Owns
                    rw [moreRow_len (fun i hi => (HROW.out i hi).1) hlt]
                    exact ho
                  have HIN := Lib.hid (And.intro hbx hin)
                  clear hin ho hrow2 hbx
                  have hro := HRS.out.outer.1
                  have hrl := HRS.out.len
                  rw [← hrl] at hro
                  have hul : us.length ≤ 6 := by rw [hrl, List.length_take]; omega
                  have hbs := HB.out.size
                  have hbxs := HIN.out.1.size
                  clear hrl
                  go_wp2_with (at_builtin; refine wpList_append_own _ rfl _ _ 22 rfl w.heap.size 24 i0 (.slice none 0 0) 1 24 Tryd.underlying22 hi hz0 hz1 hz2 rfl (by decide) _ _ _ rfl ((owns_below hro HIN.out.1).alloc _) ⟨wr.heap.size, 0, none⟩ 1 1 [.slice (some ⟨g, 0, none⟩) xss.length cap1] rfl rfl (cell_one_new _ _ _) (fun z hz => by rw [List.mem_singleton.1 hz]; rfl) (by unfold maxLen; omega) (by omega) (by simp; omega) ?_; intro v3 w3 hown3 hgrow3 hnil3)
                  have hb4 : Below wq.heap.size wq (wr.alloc (.cells #[.slice (some ⟨g, 0, none⟩) xss.length cap1] 24)) := HIN.out.1.alloc hbxs _
                  have hps := HRS.out.push hbs hb4 (HIN.out.2.alloc _) hown3 hgrow3
                  have hb5 : Below w.heap.size w w3 := (step_below HB.out hb4).grown hgrow3 (Nat.le_trans hbs hb4.size) (fun k hk => (HRS.out.outer.1.lt k hk).1)
                  have HX := Lib.hid (And.intro hb5 hps)
                  clear hb5 hps hb4 hown3 hgrow3 hnil3 hro
                  go_wp2
                  go_roundw
                  case rel =>
                    refine ⟨k + 1, us ++ [.slice (some ⟨g, 0, none⟩) xss.length cap1], by omega, by go_num, HX.out.1, ?_⟩
                    rw [moreL_take xss _ d hlt]
                    exact HX.out.2
                  case measure => simp [intOf]; omega
            · have hkk : ((k : Int) == row) = false := by simp [hkr]
              go_loopw [11] (fun jv wr => jv = .int .i64 0 ∧ wr = w1) (fun jv _ => 0)
              case atStart => exact ⟨rfl, rfl⟩
              case round =>
                obtain ⟨rfl, hwr⟩ := hrel
                have hin : Owns wr wq.heap.size (.slice (some ⟨g, 0, none⟩) xss.length cap1) (moreRow xss row d k) := by
                  unfold Owns
                  rw [moreRow_len (fun i hi => (HROW.out i hi).1) hlt]
                  have : moreRow xss row d k = xss[k] := by unfold moreRow; rw [if_neg hkr, HE2.out]
                  rw [this, hwr]
                  exact H1.out.2
                have HIN : Hid (Below wq.heap.size wq wr ∧ Owns wr wq.heap.size (.slice (some ⟨g, 0, none⟩) xss.length cap1) (moreRow xss row d k)) := Lib.hid ⟨by rw [hwr]; exact H1.out.1, hin⟩
                have h0n : (0 : Int) < (xss.length : Int) := by omega
                clear hin hwr H1
                have hro := HRS.out.outer.1
                have hrl := HRS.out.len
                rw [← hrl] at hro
                have hul : us.length ≤ 6 := by rw [hrl, List.length_take]; omega
                have hbs := HB.out.size
                have hbxs := HIN.out.1.size
                clear hrl
                go_wp2_with (at_builtin; refine wpList_append_own _ rfl _ _ 22 rfl w.heap.size 24 i0 (.slice none 0 0) 1 24 Tryd.underlying22 hi hz0 hz1 hz2 rfl (by decide) _ _ _ rfl ((owns_below hro HIN.out.1).alloc _) ⟨wr.heap.size, 0, none⟩ 1 1 [.slice (some ⟨g, 0, none⟩) xss.length cap1] rfl rfl (cell_one_new _ _ _) (fun z hz => by rw [List.mem_singleton.1 hz]; rfl) (by unfold maxLen; omega) (by omega) (by simp; omega) ?_; intro v3 w3 hown3 hgrow3 hnil3)
                have hb4 : Below wq.heap.size wq (wr.alloc (.cells #[.slice (some ⟨g, 0, none⟩) xss.length cap1] 24)) := HIN.out.1.alloc hbxs _
                have hps := HRS.out.push hbs hb4 (HIN.out.2.alloc _) hown3 hgrow3
                have hb5 : Below w.heap.size w w3 := (step_below HB.out hb4).grown hgrow3 (Nat.le_trans hbs hb4.size) (fun k hk => (HRS.out.outer.1.lt k hk).1)
                have HX := Lib.hid (And.intro hb5 hps)
                clear hb5 hps hb4 hown3 hgrow3 hnil3 hro
                go_wp2
                go_roundw
                case rel =>
                  refine ⟨k + 1, us ++ [.slice (some ⟨g, 0, none⟩) xss.length cap1], by omega, by go_num, HX.out.1, ?_⟩
                  rw [moreL_take xss _ d hlt]
                  exact HX.out.2
                case measure => simp [intOf]; omega
          · obtain rfl : k = xss.length := by omega
            have e : (moreL xss row d).take xss.length = moreL xss row d := by rw [← moreL_len xss row d, List.take_length]
            rw [e] at hrs
            obtain ⟨Ar, cr, rfl⟩ := rows_slice hrs
            have HR2 := Lib.hid hrs
            have HS2 := Lib.hid (specCostIn_any wq _ (moreL xss row d) (rows_of_owns hrs))
            clear hrs hb e
            cases hc2 : cIn (moreL xss row d) with
            | false =>
              rw [hc2] at HS2
              have hno : moreB xss row d = false := by rw [HMB.out, hc2]
              have HNO := Lib.hid (And.intro hno (moreOf_no hno))
              clear hno hc2
              go_wp2_with (go_at_call 31; refine HS2.out.mono ?_; rintro e w5 ⟨rfl, q5, rfl⟩)
              go_ret2
              rw [HNO.out.2]
              exact none_rows (below_drewN HB.out q5) HNO.out.1
            | true =>
              rw [hc2] at HS2
              have hyes : moreB xss row d = true := by rw [HMB.out, hc2]
              have HYES : Hid (moreB xss row d = true ∧ moreOf xss row d = moreL xss row d) := Lib.hid ⟨hyes, if_pos hyes⟩
              clear hyes hc2
              go_wp2_with (go_at_call 31; refine HS2.out.mono ?_; rintro e w5 ⟨rfl, q5, rfl⟩)
              go_ret2
              rw [HYES.out.1, HYES.out.2]
              exact ⟨_, us, rfl, below_drewN HB.out q5, HR2.out.drewN q5⟩

end Go.Proofs.YtjbgjebbfkhidabDoor
