/-
  spec.CostTurned; impl.CostTurned.
-/
import Derived.Test.YtjbgjebbfkhidabDoorFinQIn
import Derived.Test.YtjbgjebbfkhidabDoorTLT
import Derived.Deep.AppendLies
namespace Go.Proofs.YtjbgjebbfkhidabDoor
set_option linter.unusedVariables false
set_option linter.unusedSimpArgs false
open Go.RowKit

def trRow (xss : List (List Int)) (k : Nat) : List Int := (List.range xss.length).map fun i => (xss.getD i []).getD k 0
def trs (xss : List (List Int)) : List (List Int) := (List.range xss.length).map (trRow xss)
def trOf (xss : List (List Int)) : List (List Int) := if cIn xss = true then trs xss else []
theorem trRow_len (xss : List (List Int)) (k : Nat) : (trRow xss k).length = xss.length := by simp [trRow]
theorem trs_len (xss : List (List Int)) : (trs xss).length = xss.length := by simp [trs]
theorem trs_take (xss : List (List Int)) {k : Nat} (hk : k < xss.length) : (trs xss).take (k + 1) = (trs xss).take k ++ [trRow xss k] := by
  rw [List.take_succ_eq_append_getElem (by rw [trs_len]; exact hk)]
  simp [trs]
theorem trRow_take (xss : List (List Int)) (k : Nat) {i : Nat} (hi : i < xss.length) : (trRow xss k).take (i + 1) = (trRow xss k).take i ++ [(xss.getD i []).getD k 0] := by
  rw [List.take_succ_eq_append_getElem (by rw [trRow_len]; exact hi)]
  simp [trRow]
theorem rows_flat (xss : List (List Int)) (h6 : xss.length ≤ 6) : rowsOf xss.length (trF (flat xss)) = trs xss := by
  unfold rowsOf trs
  apply List.map_congr_left
  intro k hk
  unfold rowOf trRow
  apply List.map_congr_left
  intro c hc
  rw [List.mem_range] at hk hc
  unfold trF flat
  have e1 : (6 * k + c) % 6 = c := by omega
  have e2 : (6 * k + c) / 6 = k := by omega
  rw [e1, e2]
  have e3 : (6 * c + k) / 6 = c := by omega
  have e4 : (6 * c + k) % 6 = k := by omega
  rw [e3, e4]
theorem total_same {n : Nat} : ∀ (xss : List (List Int)), (∀ x ∈ xss, x.length = n) → total xss = xss.length * n
  | [], _ => by simp [total]
  | x :: t, h => by
    have h0 := h x (by simp)
    have ht := total_same t (fun y hy => h y (by simp [hy]))
    unfold total at ht ⊢
    simp only [List.map_cons, List.sum_cons, List.length_cons, Nat.succ_mul]
    omega
theorem trOf_fits (xss : List (List Int)) : (trOf xss).length + total (trOf xss) ≤ 1048576 := by
  unfold trOf
  split
  · rename_i h
    obtain ⟨h1, h6⟩ := cIn_size h
    rw [total_same (n := xss.length) _ (fun x hx => by obtain ⟨k, _, rfl⟩ := List.mem_map.1 hx; exact trRow_len xss k), trs_len]
    have : xss.length * xss.length ≤ 6 * 6 := Nat.mul_le_mul h6 h6
    omega
  · simp [total]

set_option maxRecDepth 100000 in
set_option maxHeartbeats 4000000 in
theorem specQTurned_any (w : World) (v : Value) (xss : List (List Int)) (hv : IntRows w v xss) :
    Calls Tryd.prog 41 #[v] w (GivesRows w (cIn xss) (trOf xss)) := by
  obtain ⟨i0, hi, hz0, hz1, hz2⟩ := info_parts infoRow
  obtain ⟨j0, hj, hy0, hy1, hy2⟩ := info_parts infoInt
  obtain ⟨w0, hw0⟩ : ∃ w0, w.alloc (.cells #[] 24) = w0 := ⟨_, rfl⟩
  have hb0 : Below w.heap.size w w0 := by rw [← hw0]; exact (Below.refl _ _).alloc (Nat.le_refl _) _
  have hown : w0.ownsRow w.heap.size 24 1 (.slice (some ⟨w.heap.size, 0, none⟩) 0 0) 0 [] := by
    rw [← hw0]
    exact World.ownsRow_made (base := w.heap.size) (e := 24) (size := 1) w #[] 0 (Nat.le_refl _) (Nat.zero_le _) rfl
  have HSI := Lib.hid (specCostIn_any w0 v xss (hv.below hb0))
  have hv0 := hv.below hb0
  obtain ⟨A, cap, rfl, hm, hc⟩ := hv.at
  have HC := Lib.hid hc
  unfold maxLen at hm
  have HST := Lib.hid (And.intro hb0 (owns_rows_nil w0 w.heap.size _ hown))
  clear hc hv hv0 hb0 hown
  cases hci : cIn xss with
  | false =>
    have HNO : Hid (trOf xss = []) := Lib.hid (by unfold trOf; rw [hci]; rfl)
    rw [hci] at HSI
    clear hci
    go_enter Tryd.func41, Tryd.ntmps41
    go_wp2_with (go_at_call 31; refine HSI.out.mono ?_; rintro e w1 ⟨rfl, q1, rfl⟩)
    go_ret2
    rw [HNO.out]
    exact ⟨_, [], rfl, below_drewN HST.out.1 q1, HST.out.2.drewN q1⟩
  | true =>
    obtain ⟨h1, h6⟩ := cIn_size hci
    have HYES : Hid (trOf xss = trs xss) := Lib.hid (by unfold trOf; rw [hci]; rfl)
    have HROW : Hid (∀ i (hi : i < xss.length), xss[i].length = xss.length) := Lib.hid fun i hi => by
      unfold cIn at hci
      rw [Bool.and_eq_true, List.all_eq_true] at hci
      have := hci.1 _ (List.getElem_mem hi)
      unfold rowC at this
      rw [Bool.and_eq_true, decide_eq_true_iff] at this
      exact this.1
    rw [hci] at HSI
    clear hci
    go_enter Tryd.func41, Tryd.ntmps41
    go_wp2_with (go_at_call 31; refine HSI.out.mono ?_; rintro e w1 ⟨rfl, q1, rfl⟩)
    clear hw0
    go_loopw [4, 5, 6, 7] (fun r i _ _ wr => ∃ (k : Nat) (us : List Value), k ≤ xss.length ∧ i = .int .i64 k ∧ Below w.heap.size w wr ∧ OwnsRows wr w.heap.size wr.heap.size r us ((trs xss).take k)) (fun _ i _ _ _ => xss.length - (intOf i).toNat)
    case atStart => exact ⟨0, [], by omega, rfl, below_drewN HST.out.1 q1, HST.out.2.drewN q1⟩
    case round =>
      obtain ⟨wq, hwq⟩ : ∃ wq, wq = wr := ⟨_, rfl⟩
      subst hwq
      obtain ⟨k, us, hk, rfl, hb, hrs⟩ := hrel
      have HRS := Lib.hid hrs
      have HB := Lib.hid hb
      by_cases hlt : k < xss.length
      · have hki : (k : Int) < (xss.length : Int) := by omega
        have hk0 : (0 : Int) ≤ (k : Int) := by omega
        have hown0 := owns_empty wq wq.heap.size (Nat.le_refl _)
        obtain ⟨W1, hW1⟩ : ∃ W1, wq.alloc (.cells #[] 3) = W1 := ⟨_, rfl⟩
        rw [hW1] at hown0
        have hb1 : Below wq.heap.size wq W1 := by rw [← hW1]; exact (Below.refl _ _).alloc (Nat.le_refl _) _
        have HW1 := Lib.hid (And.intro hb1 hown0)
        clear hrs hb hb1 hown0
        go_wp2
        clear hW1
        go_loopw [6, 7] (fun rv iv wr => ∃ (i g cp : Nat), i ≤ xss.length ∧ iv = .int .i64 i ∧ rv = .slice (some ⟨g, 0, none⟩) i cp ∧ Below wq.heap.size wq wr ∧ wr.ownsRow wq.heap.size 3 1 (.slice (some ⟨g, 0, none⟩) i cp) i (vals ((trRow xss k).take i))) (fun _ iv _ => xss.length - (intOf iv).toNat)
        case atStart => exact ⟨0, wq.heap.size, 0, by omega, rfl, rfl, HW1.out.1, HW1.out.2⟩
        case round =>
          obtain ⟨i, g, cp, hi', rfl, rfl, hbx, ho⟩ := hrel
          by_cases hli : i < xss.length
          · obtain ⟨b, off, u, rfl, hcell0, hu⟩ := HC.out i hli
            have hlen := HROW.out i hli
            obtain ⟨A2, cap2, rfl, hm2, hc2⟩ := hu
            have hkr : k < xss[i].length := by omega
            obtain ⟨b2, o2, rfl, hcell20⟩ := hc2 k hkr
            have hB2 := step_below HB.out hbx
            have hcell := (hB2.cell (p := ⟨b, off + i, none⟩) (World.block_lt_of_cell? w _ hcell0)).trans hcell0
            have hcell2 := (hB2.cell (p := ⟨b2, o2 + k, none⟩) (World.block_lt_of_cell? w _ hcell20)).trans hcell20
            have htk := trRow_take xss k hli
            have hget : (xss.getD i []).getD k 0 = xss[i][k] := by
              have e2 : xss.getD i [] = xss[i] := by simp [List.getD, hli]
              rw [e2, List.getD_eq_getElem?_getD, List.getElem?_eq_getElem hkr, Option.getD_some]
            rw [hget] at htk
            obtain ⟨x, hx⟩ : ∃ x, xss[i][k] = x := ⟨_, rfl⟩
            rw [hx] at hcell2 htk
            rw [hlen] at hcell
            have hii : (i : Int) < (xss.length : Int) := by omega
            have hi0 : (0 : Int) ≤ (i : Int) := by omega
            have hm64 : i + 1 ≤ maxLen := by unfold maxLen; omega
            have hm8 : (i + 1) * 8 ≤ 140737488355328 := by omega
            have hbs := hbx.size
            have hbase : wq.heap.size ≤ (wr.alloc (.cells #[.int .i64 x] 3)).heap.size := by simp; omega
            have HT := Lib.hid (And.intro htk (And.intro hbx ho))
            clear hc2 hcell0 hcell20 hlen hkr hx hget htk hm2 hB2 hbx
            go_wp2_with (at_builtin; refine wpList_append_lies _ rfl (.tmp 26) (.tmp 34) 24 rfl wq.heap.size 3 j0 (.int .i64 0) 1 8 Tryd.underlying24 hj hy0 hy1 hy2 rfl (by decide) _ _ _ rfl (ho.alloc _) ⟨wr.heap.size, 0, none⟩ 1 1 [.int .i64 x] rfl rfl (cell_one_new _ _ _) (by simp [Value.oneCell']) (by decide) hm64 hm8 hbase _ rfl ?_; intro g' cap' w2 hown2 hgrow2 hor2 hlt2)
            obtain ⟨htk, hbx, ho'⟩ := HT.out
            have hv : vals ((trRow xss k).take i) ++ [Value.int .i64 x] = vals ((trRow xss k).take (i + 1)) := by rw [htk]; simp [vals]
            rw [hv] at hown2
            have hb3 : Below wq.heap.size wq w2 := (hbx.alloc hbs _).grown hgrow2 (by simp; omega) (fun j hj => (ho'.lt j hj).1)
            have HX := Lib.hid (And.intro hb3 hown2)
            clear hv hown2 hb3 hgrow2 hor2 hlt2 htk hbx ho' ho
            go_wp2
            go_roundw
            case rel => exact ⟨i + 1, g', cap', by omega, by go_num, rfl, HX.out⟩
            case measure => simp [intOf]; omega
          · obtain rfl : i = xss.length := by omega
            have e : (trRow xss k).take xss.length = trRow xss k := by rw [← trRow_len xss k, List.take_length]
            rw [e] at ho
            have hin : Owns wr wq.heap.size (.slice (some ⟨g, 0, none⟩) xss.length cp) (trRow xss k) := by unfold Owns; rw [trRow_len]; exact ho
            have hro := HRS.out.outer.1
            have hrl := HRS.out.len
            rw [← hrl] at hro
            have hul : us.length ≤ 6 := by rw [hrl, List.length_take]; omega
            have hbs := HB.out.size
            have hbxs := hbx.size
            have HIN := Lib.hid (And.intro hbx hin)
            clear ho hin e hrl
            go_wp2_with (at_builtin; refine wpList_append_own _ rfl _ _ 22 rfl w.heap.size 24 i0 (.slice none 0 0) 1 24 Tryd.underlying22 hi hz0 hz1 hz2 rfl (by decide) _ _ _ rfl ((owns_below hro HIN.out.1).alloc _) ⟨wr.heap.size, 0, none⟩ 1 1 [.slice (some ⟨g, 0, none⟩) xss.length cp] rfl rfl (cell_one_new _ _ _) ?q2 ?q3 ?q4 ?q5 ?_; rotate_right; intro v3 w3 hown3 hgrow3 hnil3)
            case q2 => intro z hz; rw [List.mem_singleton.1 hz]; rfl
            case q3 => unfold maxLen; omega
            case q4 => omega
            case q5 => simp; omega
            have hb4 : Below wq.heap.size wq (wr.alloc (.cells #[.slice (some ⟨g, 0, none⟩) xss.length cp] 24)) := HIN.out.1.alloc hbxs _
            have hps := HRS.out.push hbs hb4 (HIN.out.2.alloc _) hown3 hgrow3
            have hb5 : Below w.heap.size w w3 := (step_below HB.out hb4).grown hgrow3 (Nat.le_trans hbs hb4.size) (fun k hk => (HRS.out.outer.1.lt k hk).1)
            have HX := Lib.hid (And.intro hb5 hps)
            clear hb5 hps hb4 hown3 hgrow3 hnil3 hro hbx
            go_wp2
            go_roundw
            case rel =>
              refine ⟨k + 1, us ++ [.slice (some ⟨g, 0, none⟩) xss.length cp], by omega, by go_num, HX.out.1, ?_⟩
              rw [trs_take xss hlt]
              exact HX.out.2
            case measure => simp [intOf]; omega
      · obtain rfl : k = xss.length := by omega
        have e : (trs xss).take xss.length = trs xss := by rw [← trs_len, List.take_length]
        rw [e] at hrs
        have HR2 := Lib.hid hrs
        clear hrs hb e
        go_wp2
        go_ret2
        rw [HYES.out]
        exact ⟨_, us, rfl, HB.out, HR2.out⟩

end Go.Proofs.YtjbgjebbfkhidabDoor
