/-
  THE LAWS' SMALL FUNCTIONS ON LISTS OF LISTS: their sizes, copies, comparison, marks.
-/
import Derived.Test.YtjijkgmeddeihaaDoorRowsPush
import Derived.Test.YtjijkgmeddeihaaDoorToInts
import Derived.Test.YtjijkgmeddeihaaDoorEqInts
import Derived.Test.YtjijkgmeddeihaaDoorMarkInts
import Derived.Deep.QuietTactic
import Derived.BigQuiet
import Derived.Deep.RegionLaw
import Derived.Outline
namespace Go.Proofs.YtjijkgmeddeihaaDoor
set_option linter.unusedVariables false
set_option linter.unusedSimpArgs false
open Go.RowKit


/-- What is left of a number when a list of lists is counted off, -1 where it is too small. -/
def szOf (left : Nat) (xss : List (List Int)) : Int := if xss.length + total xss ≤ left then ((left - (xss.length + total xss) : Nat) : Int) else -1
theorem szOf_yes {left : Nat} {xss : List (List Int)} (h : xss.length + total xss ≤ left) : szOf left xss = ((left - (xss.length + total xss) : Nat) : Int) := if_pos h
theorem szOf_no {left : Nat} {xss : List (List Int)} (h : ¬ xss.length + total xss ≤ left) : szOf left xss = -1 := if_neg h

set_option maxHeartbeats 400000 in
theorem szIntS_fits (w : World) (v : Value) (xs : List Int) (h : Ints w v xs) (left : Nat) (hl : left ≤ 1048576) (hf : xs.length ≤ left) :
    Calls Tryd.prog 26 #[v, .int .i64 (left : Int)] w fun e w' => e = .returned (.int .i64 ((left - xs.length : Nat) : Int)) ∧ w = w' := by
  obtain ⟨A, cap, rfl, hm, _⟩ := h
  unfold maxLen at hm
  have e : ((left - xs.length : Nat) : Int) = (left : Int) - (xs.length : Int) := by omega
  have E := Lib.hid e
  clear e
  go_enter Tryd.func26, Tryd.ntmps26
  go_wp2
  go_ret
  exact ⟨by rw [E.out]; rfl, rfl⟩
set_option maxHeartbeats 400000 in
theorem szIntS_not (w : World) (v : Value) (xs : List Int) (h : Ints w v xs) (left : Nat) (hl : left ≤ 1048576) (hf : left < xs.length) :
    Calls Tryd.prog 26 #[v, .int .i64 (left : Int)] w fun e w' => e = .returned (.int .i64 (-1)) ∧ w = w' := by
  obtain ⟨A, cap, rfl, hm, _⟩ := h
  unfold maxLen at hm
  go_enter Tryd.func26, Tryd.ntmps26
  go_wp2
  go_ret
  exact ⟨rfl, rfl⟩

set_option maxHeartbeats 1000000 in
theorem szIntSS_any (w : World) (v : Value) (xss : List (List Int)) (h : IntRows w v xss) (left : Nat) (hl : left ≤ 1048576) :
    Calls Tryd.prog 14 #[v, .int .i64 (left : Int)] w fun e w' => e = .returned (.int .i64 (szOf left xss)) ∧ w = w' := by
  obtain ⟨A, cap, rfl, hm, hc⟩ := h.at
  have HC := Lib.hid hc
  clear hc h
  unfold maxLen at hm
  by_cases h0 : xss.length ≤ left
  · obtain ⟨l0, hl0⟩ : ∃ l0, left - xss.length = l0 := ⟨_, rfl⟩
    have e : ((left : Int) - (xss.length : Int)) = (l0 : Int) := by omega
    have HL0 := Lib.hid hl0
    have hll : l0 ≤ 1048576 := by omega
    have HLE := Lib.hid h0
    go_enter Tryd.func14, Tryd.ntmps14
    go_wp2
    go_loop [1, 5] (fun l i => ∃ k : Nat, k ≤ xss.length ∧ i = .int .i64 k ∧ total (xss.take k) ≤ l0 ∧ l = .int .i64 ((l0 - total (xss.take k) : Nat) : Int)) (fun _ i => xss.length - (intOf i).toNat)
    case atStart => exact ⟨0, by omega, rfl, by simp [total], by simp [total, ← HL0.out]⟩
    case round =>
      clear e hl0
      obtain ⟨k, hk, rfl, ht, rfl⟩ := hrel
      obtain ⟨lk, hlk⟩ : ∃ lk, l0 - total (xss.take k) = lk := ⟨_, rfl⟩
      have hlk2 : lk ≤ 1048576 := by omega
      rw [hlk]
      by_cases hlt : k < xss.length
      · obtain ⟨b, off, u, rfl, hcell, hx⟩ := HC.out k hlt
        have htk := total_take_succ xss k hlt
        have hki : (k : Int) < (xss.length : Int) := by omega
        by_cases hf : xss[k].length ≤ lk
        · have HS := Lib.hid (szIntS_fits w u xss[k] hx lk hlk2 hf)
          have hnx : total (xss.take (k + 1)) ≤ l0 := by omega
          have hnx2 : lk - xss[k].length = l0 - total (xss.take (k + 1)) := by omega
          have HN := Lib.hid hnx
          have HN2 := Lib.hid hnx2
          clear htk hlk hx hf hnx hnx2 ht
          go_wp2_with (go_at_call 26; refine HS.out.mono ?_; rintro e w' ⟨rfl, rfl⟩)
          go_round
          case rel => exact ⟨k + 1, by omega, by go_num, HN.out, by rw [HN2.out]⟩
          case measure => simp [intOf]; omega
        · have HS := Lib.hid (szIntS_not w u xss[k] hx lk hlk2 (by omega))
          have hno : ¬ xss.length + total xss ≤ left := by
            have := total_take_le xss (k + 1)
            have := HL0.out
            have := HLE.out
            omega
          have HN := Lib.hid hno
          clear htk hlk hx hf hno ht
          go_wp2_with (go_at_call 26; refine HS.out.mono ?_; rintro e w' ⟨rfl, rfl⟩)
          go_ret
          exact ⟨by rw [szOf_no HN.out]; rfl, rfl⟩
      · obtain rfl : k = xss.length := by omega
        rw [List.take_length] at ht hlk
        have hyes : xss.length + total xss ≤ left := by have := HL0.out; have := HLE.out; omega
        have hres : lk = left - (xss.length + total xss) := by have := HL0.out; omega
        have HY := Lib.hid hyes
        have HR := Lib.hid hres
        clear hyes hres hlk ht
        go_wp2
        go_ret
        exact ⟨by rw [szOf_yes HY.out, ← HR.out]; rfl, rfl⟩
  · have hno : ¬ xss.length + total xss ≤ left := by omega
    rw [szOf_no hno]
    clear hno
    go_enter Tryd.func14, Tryd.ntmps14
    go_wp2
    go_ret
    exact ⟨rfl, rfl⟩

set_option maxHeartbeats 1000000 in
theorem eqIntSS_same (w : World) (v u : Value) (xss : List (List Int)) (hv : IntRows w v xss) (hu : IntRows w u xss) :
    Calls Tryd.prog 9 #[v, u] w fun e w' => e = .returned (.bool true) ∧ ∃ n, w' = w.drewN n := by
  obtain ⟨A, cap, rfl, hm, hc⟩ := hv.at
  obtain ⟨A2, cap2, rfl, _, hc2⟩ := hu.at
  have HC := Lib.hid hc
  have HC2 := Lib.hid hc2
  clear hc hc2 hv hu
  unfold maxLen at hm
  go_enter Tryd.func9, Tryd.ntmps9
  go_wp2
  go_loopw [5] (fun i wr => ∃ k n : Nat, k ≤ xss.length ∧ i = .int .i64 k ∧ wr = w.drewN n) (fun i _ => xss.length - (intOf i).toNat)
  case atStart => exact ⟨0, 0, by omega, rfl, rfl⟩
  case round =>
    obtain ⟨k, n, hk, rfl, hw⟩ := hrel
    have HW := Lib.hid hw
    by_cases hlt : k < xss.length
    · obtain ⟨b, off, x, rfl, hcell0, hx⟩ := HC.out k hlt
      obtain ⟨b2, off2, y, rfl, hcell02, hy⟩ := HC2.out k hlt
      have hcell : wr.cell? ⟨b, off + k, none⟩ = some x := by rw [hw]; exact hcell0
      have hcell2 : wr.cell? ⟨b2, off2 + k, none⟩ = some y := by rw [hw]; exact hcell02
      have hq : ∀ W : World, W.Alike w → Calls Tryd.prog 10 #[x, y] W fun e w' => e = .returned (.bool true) ∧ ∃ n, w' = W.drewN n := by
        intro W hW
        obtain ⟨A3, cap3, rfl, hm3, hc3⟩ := hx
        obtain ⟨A4, cap4, rfl, hm4, hc4⟩ := hy
        exact eqIntS_same W _ _ xss[k] ⟨A3, cap3, rfl, hm3, fun i hi => by obtain ⟨b, off, hA, hcell⟩ := hc3 i hi; exact ⟨b, off, hA, (hW.cell _).trans hcell⟩⟩ ⟨A4, cap4, rfl, hm4, fun i hi => by obtain ⟨b, off, hA, hcell⟩ := hc4 i hi; exact ⟨b, off, hA, (hW.cell _).trans hcell⟩⟩
      have HQ := Lib.hid hq
      have hki : (k : Int) < (xss.length : Int) := by omega
      have hk0 : (0 : Int) ≤ (k : Int) := by omega
      have hA1 : wr.drew.Alike w := by rw [hw]; exact ⟨rfl, rfl, rfl⟩
      have HA1 := Lib.hid hA1
      clear hcell0 hcell02 hx hy hq hw hA1
      go_wp2
      go_region_law (go_simp; go_at_call 10; refine (HQ.out _ HA1.out).mono ?_; rintro e w' ⟨rfl, q, rfl⟩)
      all_goals go_wp2
      all_goals go_roundw
      all_goals first
        | (refine ⟨k + 1, n + (1 + q), by omega, by go_num, ?_⟩; rw [HW.out]; simp)
        | (simp [intOf]; omega)
    · obtain rfl : k = xss.length := by omega
      clear hw
      go_wp2
      go_ret
      exact ⟨rfl, n, HW.out⟩

set_option maxHeartbeats 1000000 in
theorem toIntSS_any (w : World) (v : Value) (xss : List (List Int)) (h : IntRows w v xss) (hl : xss.length + total xss ≤ 1048576) :
    Calls Tryd.prog 16 #[v] w fun e w' => ∃ us, e = .returned (.slice (some ⟨w.heap.size, 0, none⟩) xss.length xss.length) ∧ Below w.heap.size w w' ∧ OwnsRows w' w.heap.size w'.heap.size (.slice (some ⟨w.heap.size, 0, none⟩) xss.length xss.length) us xss := by
  obtain ⟨A, cap, rfl, hm, hc⟩ := h.at
  have hmk := fun W => run_make_row' (P := Tryd.prog) 23 22 (.slice none 0 0) 24 Tryd.underlying23 infoRow rfl .i64 .i64 xss.length (by omega) (by omega) W
  have HC := Lib.hid hc
  clear hc h
  unfold maxLen at hm
  go_enter Tryd.func16, Tryd.ntmps16
  go_wp2
  go_loopw [4] (fun i wr => ∃ us : List Value, us.length ≤ xss.length ∧ i = .int .i64 (us.length : Int) ∧ Below w.heap.size w wr ∧ RowsTo wr w.heap.size w.heap.size xss.length us xss) (fun i _ => xss.length - (intOf i).toNat)
  case atStart =>
    refine ⟨[], by simp, rfl, (Below.refl _ _).alloc (Nat.le_refl _) _, by simp, ?_, fun i hi => by simp at hi, fun i j _ hj => by simp at hj⟩
    have := World.ownsRow_lit (base := w.heap.size) (e := 22) (size := 1) w (madeCells #[.slice none 0 0] xss.length) xss.length (Nat.le_refl _) (by unfold maxLen; omega) (by simp [madeCells])
    rw [toList_madeCells_one] at this
    simpa using this
  case round =>
    clear hmk
    obtain ⟨us, hk, rfl, hb, hR⟩ := hrel
    obtain ⟨k, hke⟩ : ∃ k, us.length = k := ⟨_, rfl⟩
    rw [hke] at hk ⊢
    by_cases hlt : k < xss.length
    · obtain ⟨b, off, u, rfl, hcell0, hx0⟩ := HC.out k hlt
      have hblt := World.block_lt_of_cell? w _ hcell0
      have hcell := (hb.cell (p := ⟨b, off + k, none⟩) hblt).trans hcell0
      have hx := hx0.below hb
      have hrl := row_le_total hlt
      have hki : (k : Int) < (xss.length : Int) := by omega
      have HT := Lib.hid (toIntS_any wr u xss[k] hx (by omega))
      have hBw : w.heap.size < wr.heap.size := (hR.outer.lt _ rfl).2
      have ho1 := hR.outer
      have HR := Lib.hid hR
      have HK := Lib.hid hke
      clear hcell0 hx0 hx hR hke
      go_wp2_with (go_at_call 7; refine HT.out.mono ?_; rintro e w2 ⟨rfl, hb2, ho2⟩; have hc2 := (owns_below ho1 hb2).cellAt k (by omega); rw [List.getElem?_append_right (by have := HK.out; omega), List.getElem?_replicate, if_pos (by have := HK.out; omega)] at hc2; have hf2 := (owns_below ho1 hb2).frozenAt k)
      go_roundw
      case rel =>
        have hp := HR.out.push (by rw [HK.out]; exact hlt) rfl hb2 hBw (u := .slice (some ⟨wr.heap.size, 0, none⟩) xss[k].length xss[k].length) (by have hk2 := HK.out; subst hk2; exact ho2)
        rw [HK.out] at hp
        exact ⟨us ++ [.slice (some ⟨wr.heap.size, 0, none⟩) xss[k].length xss[k].length], by rw [List.length_append, HK.out]; simp; omega, by rw [List.length_append, HK.out]; simp, (step_below hb hb2).setCell (p := ⟨w.heap.size, k, none⟩) (Nat.le_refl _) _, hp⟩
      case measure => simp [intOf]; omega
    · obtain rfl : k = xss.length := by omega
      have HR := Lib.hid hR
      have HK := Lib.hid hke
      clear hR hke
      go_wp2
      go_ret
      exact ⟨us, rfl, hb, HR.out.done rfl HK.out (Nat.le_refl _)⟩

set_option maxHeartbeats 1000000 in
theorem markIntSS_any (w : World) (lo hi : Nat) (v : Value) (us : List Value) (xss : List (List Int)) (k0 : Int) (h : OwnsRows w lo hi v us xss) (hk0 : 0 ≤ k0) (hkt : k0 + total xss ≤ 1000000000000) :
    Calls Tryd.prog 12 #[v, .int .i64 k0] w fun e w' => e = .returned (.int .i64 (k0 + total xss)) ∧ Within lo hi w w' ∧ OwnsRows w' lo hi v us (markRows k0 xss) := by
  obtain ⟨A, cap, rfl, hm, hc⟩ := (rows_of_owns h).at
  have hlen := h.len
  have HLE := Lib.hid hlen
  have HH := Lib.hid h
  clear hc h hlen
  unfold maxLen at hm
  go_enter Tryd.func12, Tryd.ntmps12
  go_wp2
  go_loopw [1, 5] (fun kv i wr => ∃ j : Nat, j ≤ xss.length ∧ i = .int .i64 (j : Int) ∧ kv = .int .i64 (k0 + total (xss.take j)) ∧ Within lo hi w wr ∧ OwnsRows wr lo hi (.slice A xss.length cap) us (markTo k0 xss j)) (fun _ i _ => xss.length - (intOf i).toNat)
  case atStart => exact ⟨0, by omega, rfl, by simp [total], Within.refl _ _ _, by rw [markTo_zero]; exact HH.out⟩
  case round =>
    obtain ⟨j, hj, rfl, rfl, hW, hR⟩ := hrel
    have htt := total_take_le xss j
    obtain ⟨kj, hkj⟩ : ∃ kj : Int, k0 + total (xss.take j) = kj := ⟨_, rfl⟩
    have hkj0 : 0 ≤ kj := by omega
    have hkj1 : kj ≤ 1000000000000 := by omega
    rw [hkj]
    by_cases hlt : j < xss.length
    · have hju : j < us.length := by rw [HLE.out]; exact hlt
      obtain ⟨A2, cap2, hv2, _, hc2⟩ := (rows_of_owns hR).at
      have hml := markTo_len k0 xss j
      have hat := markTo_at k0 xss j hlt
      have hin := hR.inner j hju
      have hzj : (markTo k0 xss j)[j]'(by rw [hml]; exact hlt) = xss[j] := by
        rw [List.getElem?_eq_getElem (by rw [hml]; exact hlt)] at hat
        simpa using hat
      rw [hzj] at hin
      obtain ⟨b, off, hAe, hcell⟩ : ∃ b off, A = some ⟨b, off, none⟩ ∧ wr.cell? ⟨b, off + j, none⟩ = some us[j] := by
        rcases hR.outer.1.2 with ⟨hz, hn⟩ | ⟨g, c2, cur, hz, _, hgb, _⟩
        · rw [hml] at hn; omega
        · injection hz with h1 h2 h3
          subst h1
          have hc := hR.outer.1.cells (g := g) rfl j us[j] (List.getElem?_eq_getElem hju)
          rw [addr_add] at hc
          exact ⟨g, 0, rfl, hc⟩
      subst hAe
      have htk := total_take_succ xss j hlt
      have htl := total_take_le xss (j + 1)
      obtain ⟨u, hu⟩ : ∃ u, us[j] = u := ⟨_, rfl⟩
      have hji : (j : Int) < (xss.length : Int) := by omega
      have HM := Lib.hid (markIntS_any wr lo us[j] xss[j] kj hin.1 hkj0 (by omega))
      rw [hu] at hcell HM
      have HR := Lib.hid hR
      have HU := Lib.hid hu
      have HKJ := Lib.hid hkj
      have HTK := Lib.hid htk
      have hnext : kj + xss[j].length = k0 + total (xss.take (j + 1)) := by omega
      have HN := Lib.hid hnext
      clear hc2 hv2 hml hat hin hzj htk htl hR hu hkj htt hnext
      go_wp2_with (go_at_call 11; refine HM.out.mono ?_; rintro e w2 ⟨rfl, hgr, hnew⟩)
      go_roundw
      case rel =>
        have hgr2 : wr.grownBy w2 us[j].ownBlock := by rw [HU.out]; exact hgr
        have hnew2 : Owns w2 lo us[j] (marks kj xss[j].length) := by
          rw [HU.out]; exact hnew
        have hR2 := HR.out.turn j hju hgr2 (marks kj xss[j].length) hnew2
        have em : marks kj xss[j].length = (List.range xss[j].length).map (fun (i : Nat) => k0 + total (xss.take j) + i) := by rw [HKJ.out]; rfl
        rw [em, markTo_step k0 xss j hlt] at hR2
        refine ⟨j + 1, by omega, by go_num, by rw [HN.out], ?_, hR2⟩
        refine hW.trans (Within.of_grown hgr2 (fun k hk => ?_))
        have hin := HR.out.inner j hju
        exact ⟨(hin.1.lt k hk).1, hin.2 k hk⟩
      case measure => simp [intOf]; omega
    · obtain rfl : j = xss.length := by omega
      rw [List.take_length] at hkj
      rw [markTo_all] at hR
      have HR := Lib.hid hR
      have HK := Lib.hid hkj
      clear hR hkj htt
      go_wp2
      go_ret
      exact ⟨by rw [HK.out]; rfl, hW, HR.out⟩

end Go.Proofs.YtjijkgmeddeihaaDoor
