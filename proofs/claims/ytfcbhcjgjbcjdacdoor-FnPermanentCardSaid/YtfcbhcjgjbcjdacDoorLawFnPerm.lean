/-
  FnPermanent: of turned tables the same, with two rows exchanged the same.
-/
import Derived.Test.YtfcbhcjgjbcjdacDoorSwapRows
import Derived.Test.YtfcbhcjgjbcjdacDoorDrawTable
import Derived.Deep.AppendLies
import Derived.Deep.RegionHeld3
import Derived.Deep.RegionLaw
namespace Go.Proofs.YtfcbhcjgjbcjdacDoor
set_option linter.unusedVariables false
set_option linter.unusedSimpArgs false
open Go.RowKit

set_option maxRecDepth 100000 in
set_option maxHeartbeats 1000000 in
theorem drawTable_any (w : World) (A : Option Addr) (L cap : Nat) (hc : L ≤ cap) (hm : L ≤ maxLen) (hx : Code8 w A L) :
    Calls Tryd.prog 31 #[.slice A L cap] w (GivesTableC w) := by
  have HO := Lib.hid (open_any w A L cap hc hm)
  have HX := Lib.hid hx
  unfold maxLen at hm
  clear hx hc
  obtain ⟨sg, hsg⟩ : ∃ sg : Int, ((L % 3 : Nat) : Int) - 1 = sg := ⟨_, rfl⟩
  have m1 : (L : Int).tmod 3 = ((L % 3 : Nat) : Int) := by rw [Int.tmod_eq_emod_of_nonneg (by omega)]; omega
  have m2 : (L : Int) % 3 = ((L % 3 : Nat) : Int) := by omega
  have m3 : wrap64 (((L % 3 : Nat) : Int) - 1) = sg := by rw [hsg]; unfold wrap64; omega
  have m4 : IntKind.i64.wrap (((L % 3 : Nat) : Int) - 1) = sg := by rw [hsg, IntKind.wrap_i64]; omega
  clear hsg
  obtain ⟨q, hq⟩ : ∃ q, L % 3 = q := ⟨_, rfl⟩
  rw [hq] at m1 m2 m3 m4
  have hq3 : q < 3 := by omega
  clear hq
  go_enter Tryd.func31, Tryd.ntmps31
  go_wp2_with fail
  refine HO.out.mono ?_
  rintro e w1 ⟨r, M, cap', rfl, hM, hML, hrw, hr, hb1⟩
  have hlt : r < w1.heap.size := (Array.getElem?_eq_some_iff.1 hr).1
  have HT := Lib.hid (table_any w1 r M cap' 0 A sg hr ((HX.out.less hML).bytes hb1 r hrw) hM hlt (by omega))
  have HB := Lib.hid hb1
  clear hr hb1 hM hML
  go_wp2_with fail
  refine HT.out.mono ?_
  rintro e w2 ⟨v, us, xss, n, rfl, -, -, -, ho, hw⟩
  have HH := Lib.hid (And.intro (rows_of_owns ho) (And.intro (room_of_row ho.outer.1) (Below.within HB.out hw hrw)))
  clear ho hw
  go_wp2
  go_ret
  exact ⟨v, xss, rfl, HH.out.1, HH.out.2.1, HH.out.2.2⟩

set_option maxRecDepth 100000 in
set_option maxHeartbeats 8000000 in
theorem FnPermanent_final (w : World) (A : Option Addr) (L cap : Nat) (hc : L ≤ cap) (hm : L ≤ maxLen) (hx : Code8 w A L) (hT : Tab w) :
    Calls Tryd.prog 8 #[.slice A L cap] w fun e w' => e = .returned (.bool true) ∧ Below w.heap.size w w' := by
  have HD := Lib.hid (drawTable_any w A L cap hc hm hx)
  have HT := Lib.hid hT
  unfold maxLen at hm
  obtain ⟨i0, hi, hz0, hz1, hz2⟩ := info_parts infoRow
  obtain ⟨j0, hj, hy0, hy1, hy2⟩ := info_parts infoInt
  clear hx hT
  by_cases hbig : L ≤ 1048576
  · have e1 : ((1048576 : Int) < (L : Int)) = False := by simp; omega
    go_enter Tryd.func8, Tryd.ntmps8
    go_wp2_with fail
    refine HD.out.mono ?_
    rintro e w1 ⟨v, xss, rfl, hv, hcap, hb1⟩
    have HI := Lib.hid (fun (W : World) (u : Value) (ys : List (List Int)) (hW : IntRows W u ys) (hT : Tab W) => implTPerm_any W u ys hW hT)
    have HS := Lib.hid (fun (W : World) (hW : IntRows W v xss) => specTPerm_any W v xss hW)
    have HR := Lib.hid hv
    have HB1 := Lib.hid hb1
    clear hv hb1
    obtain ⟨A', cap', rfl, hml, -⟩ := HR.out.at
    have HCAP := Lib.hid (hcap _ _ _ rfl)
    clear hcap
    unfold maxLen at hml
    obtain ⟨z, hz⟩ : ∃ z, permOf xss = z := ⟨_, rfl⟩
    rw [hz] at HS
    cases ht : tIn xss with
    | false =>
      have HI1 := Lib.hid (HI.out w1 _ xss HR.out (HT.out.later HB1.out))
      rw [ht] at HI1 HS
      rw [hz] at HI1
      clear ht hz
      go_wp2_with fail
      refine HI1.out.mono ?_
      rintro e w2 ⟨rfl, hb2⟩
      have hr2 := HR.out.below hb2
      have hB2 := step_below HB1.out hb2
      go_wp2_with fail
      refine (HS.out _ hr2).mono ?_
      rintro e w3 ⟨rfl, hb3⟩
      have HR3 := Lib.hid (hr2.below hb3)
      have HB3 := Lib.hid (step_below hB2 hb3)
      clear hr2 hB2 hb2 hb3 HI1 HS HR HB1
      go_wp2
      go_ret
      exact ⟨rfl, HB3.out⟩
    | true =>
      have HI1 := Lib.hid (HI.out w1 _ xss HR.out (HT.out.later HB1.out))
      rw [ht] at HI1 HS
      rw [hz] at HI1
      have HTT := Lib.hid (And.intro ht hz)
      clear ht hz
      go_wp2_with fail
      refine HI1.out.mono ?_
      rintro e w2 ⟨rfl, hb2⟩
      have hr2 := HR.out.below hb2
      have hB2 := step_below HB1.out hb2
      go_wp2_with fail
      refine (HS.out _ hr2).mono ?_
      rintro e w3 ⟨rfl, hb3⟩
      have HR3 := Lib.hid (hr2.below hb3)
      have HB3 := Lib.hid (step_below hB2 hb3)
      clear hr2 hB2 hb2 hb3 HI1 HS HR HB1
      have HTIN := Lib.hid HTT.out.1
      obtain ⟨h1, h6, hsq⟩ := tIn_facts HTIN.out
      have HSQ : Hid (∀ i (hi : i < xss.length), xss[i].length = xss.length) := Lib.hid fun i hi => (hsq i hi).1
      clear hsq
      obtain ⟨A4, cap4, hA4, hm4, hc4⟩ := HR3.out.at
      simp only [Value.slice.injEq] at hA4
      obtain ⟨rfl, -, rfl⟩ := hA4
      have HC := Lib.hid hc4
      clear hc4
      obtain ⟨W0, hW0⟩ : ∃ W0, w3.alloc (.cells #[] 27) = W0 := ⟨_, rfl⟩
      have hb0 : Below w3.heap.size w3 W0 := by rw [← hW0]; exact (Below.refl _ _).alloc (Nat.le_refl _) _
      have hown : W0.ownsRow w3.heap.size 27 1 (.slice (some ⟨w3.heap.size, 0, none⟩) 0 0) 0 [] := by rw [← hW0]; exact World.ownsRow_made (base := w3.heap.size) (e := 27) (size := 1) w3 #[] 0 (Nat.le_refl _) (Nat.zero_le _) rfl
      have HST := Lib.hid (And.intro hb0 (owns_rows_nil W0 w3.heap.size _ hown))
      clear hb0 hown
      go_wp2_with fail
      clear hW0
      go_loopw [8, 9, 10, 11] (fun r i _ _ wr => ∃ (m : Nat) (us : List Value), m ≤ xss.length ∧ i = .int .i64 m ∧ Below w3.heap.size w3 wr ∧ OwnsRows wr w3.heap.size wr.heap.size r us ((mkRows xss.length (tuF xss)).take m)) (fun _ i _ _ _ => xss.length - (intOf i).toNat)
      case atStart => exact ⟨0, [], by omega, rfl, HST.out.1, HST.out.2⟩
      case round =>
        obtain ⟨wq, hwq⟩ : ∃ wq, wq = wr := ⟨_, rfl⟩
        subst hwq
        obtain ⟨m, us, hm, rfl, hb, hrs⟩ := hrel
        have HRS := Lib.hid hrs
        have HB := Lib.hid hb
        by_cases hlt : m < xss.length
        · have hmi : (m : Int) < (xss.length : Int) := by omega
          have hm0 : (0 : Int) ≤ (m : Int) := by omega
          have hown0 := owns_empty wq wq.heap.size (Nat.le_refl _)
          obtain ⟨W1, hW1⟩ : ∃ W1, wq.alloc (.cells #[] 3) = W1 := ⟨_, rfl⟩
          rw [hW1] at hown0
          have hb1 : Below wq.heap.size wq W1 := by rw [← hW1]; exact (Below.refl _ _).alloc (Nat.le_refl _) _
          have HW1 := Lib.hid (And.intro hb1 hown0)
          clear hrs hb hb1 hown0
          go_wp2
          clear hW1
          go_loopw [10, 11] (fun rv iv wr => ∃ (j g cp : Nat), j ≤ xss.length ∧ iv = .int .i64 j ∧ rv = .slice (some ⟨g, 0, none⟩) j cp ∧ Below wq.heap.size wq wr ∧ wr.ownsRow wq.heap.size 3 1 (.slice (some ⟨g, 0, none⟩) j cp) j (vals ((mkRow xss.length (tuF xss) m).take j))) (fun _ iv _ => xss.length - (intOf iv).toNat)
          case atStart => exact ⟨0, wq.heap.size, 0, by omega, rfl, rfl, HW1.out.1, HW1.out.2⟩
          case round =>
            obtain ⟨j, g, cp, hj', rfl, rfl, hbx, ho⟩ := hrel
            by_cases hlj : j < xss.length
            · have hB2 := step_below HB.out hbx
              have hji : (j : Int) < (xss.length : Int) := by omega
              have hj0 : (0 : Int) ≤ (j : Int) := by omega
              have htk := mkRow_take xss.length (tuF xss) m hlj
              have hm64 : j + 1 ≤ maxLen := by unfold maxLen; omega
              have hm8 : (j + 1) * 8 ≤ 140737488355328 := by omega
              have hbs := hbx.size
              obtain ⟨b, off, u, rfl, hcell0, hu⟩ := HC.out j hlj
              have hlen := HSQ.out j hlj
              obtain ⟨A2, cap2, rfl, hm2, hc2⟩ := hu
              obtain ⟨b2, o2, rfl, hcell20⟩ := hc2 m (by omega)
              have hcell := (hB2.cell (p := ⟨b, off + j, none⟩) (World.block_lt_of_cell? w3 _ hcell0)).trans hcell0
              have hcell2 := (hB2.cell (p := ⟨b2, o2 + m, none⟩) (World.block_lt_of_cell? w3 _ hcell20)).trans hcell20
              have hfl := flat_at xss hlj (show m < xss[j].length by omega) (by omega)
              obtain ⟨x, hx⟩ : ∃ x, xss[j][m]'(by omega) = x := ⟨_, rfl⟩
              rw [hx] at hcell2 hfl
              rw [hlen] at hcell
              have hbase : wq.heap.size ≤ (wr.alloc (.cells #[.int .i64 x] 3)).heap.size := by simp; omega
              have HT0 := Lib.hid (And.intro htk (And.intro hbx (And.intro ho hfl)))
              clear hc2 hcell0 hcell20 hlen hx hfl htk hm2 hB2 hbx
              go_wp2_with (at_builtin; refine wpList_append_lies _ rfl (.tmp 65) (.tmp 73) 27 rfl wq.heap.size 3 j0 (.int .i64 0) 1 8 Tryd.underlying27 hj hy0 hy1 hy2 rfl (by decide) _ _ _ rfl (ho.alloc _) ⟨wr.heap.size, 0, none⟩ 1 1 [.int .i64 x] rfl rfl (cell_one_new _ _ _) (by simp [Value.oneCell']) (by decide) hm64 hm8 hbase _ rfl ?_; intro g' cap' w5 hown2 hgrow2 hor2 hlt2)
              obtain ⟨htk, hbx, ho', hfl⟩ := HT0.out
              have hv : vals ((mkRow xss.length (tuF xss) m).take j) ++ [Value.int .i64 x] = vals ((mkRow xss.length (tuF xss) m).take (j + 1)) := by rw [htk]; simp [vals, tuF, hfl]
              rw [hv] at hown2
              have hb3 : Below wq.heap.size wq w5 := (hbx.alloc hbs _).grown hgrow2 (by simp; omega) (fun j hj => (ho'.lt j hj).1)
              have HX := Lib.hid (And.intro hb3 hown2)
              clear hv hown2 hb3 hgrow2 hor2 hlt2 htk hbx ho' ho hfl
              go_wp2
              go_roundw
              case rel => exact ⟨j + 1, g', cap', by omega, by go_num, rfl, HX.out⟩
              case measure => simp [intOf]; omega
            · obtain rfl : j = xss.length := by omega
              have e : (mkRow xss.length (tuF xss) m).take xss.length = mkRow xss.length (tuF xss) m := List.take_of_length_le (by rw [mkRow_len]; exact Nat.le_refl _)
              rw [e] at ho
              have hin : Owns wr wq.heap.size (.slice (some ⟨g, 0, none⟩) xss.length cp) (mkRow xss.length (tuF xss) m) := by unfold Owns; rw [mkRow_len]; exact ho
              have hro := HRS.out.outer.1
              have hrl := HRS.out.len
              rw [← hrl] at hro
              have hul : us.length ≤ 6 := by rw [hrl, List.length_take]; omega
              have hbs := HB.out.size
              have hbxs := hbx.size
              have HIN := Lib.hid (And.intro hbx hin)
              clear ho hin e hrl
              go_wp2_with (at_builtin; refine wpList_append_own _ rfl _ _ 23 rfl w3.heap.size 27 i0 (.slice none 0 0) 1 24 Tryd.underlying23 hi hz0 hz1 hz2 rfl (by decide) _ _ _ rfl ((owns_below hro HIN.out.1).alloc _) ⟨wr.heap.size, 0, none⟩ 1 1 [.slice (some ⟨g, 0, none⟩) xss.length cp] rfl rfl (cell_one_new _ _ _) ?q2 ?q3 ?q4 ?q5 ?_; rotate_right; intro v6 w6 hown3 hgrow3 hnil3)
              case q2 => intro z hz; rw [List.mem_singleton.1 hz]; rfl
              case q3 => unfold maxLen; omega
              case q4 => omega
              case q5 => simp; omega
              have hb4 : Below wq.heap.size wq (wr.alloc (.cells #[.slice (some ⟨g, 0, none⟩) xss.length cp] 27)) := HIN.out.1.alloc hbxs _
              have hps := HRS.out.push hbs hb4 (HIN.out.2.alloc _) hown3 hgrow3
              have hb5 : Below w3.heap.size w3 w6 := (step_below HB.out hb4).grown hgrow3 (Nat.le_trans hbs hb4.size) (fun k hk => (HRS.out.outer.1.lt k hk).1)
              have HX := Lib.hid (And.intro hb5 hps)
              clear hb5 hps hb4 hown3 hgrow3 hnil3 hro hbx
              go_wp2
              go_roundw
              case rel =>
                refine ⟨m + 1, us ++ [.slice (some ⟨g, 0, none⟩) xss.length cp], by omega, by go_num, HX.out.1, ?_⟩
                rw [mkRows_take xss.length (tuF xss) hlt]
                exact HX.out.2
              case measure => simp [intOf]; omega
        · obtain rfl : m = xss.length := by omega
          have e : (mkRows xss.length (tuF xss)).take xss.length = mkRows xss.length (tuF xss) := List.take_of_length_le (by rw [mkRows_len]; exact Nat.le_refl _)
          rw [e] at hrs
          have HR2 := Lib.hid hrs
          clear hrs hb e HRS
          have hmv := det_turned HTIN.out
          obtain ⟨ms, hms⟩ : ∃ ms, mkRows xss.length (tuF xss) = ms := ⟨_, rfl⟩
          rw [hms] at hmv HR2
          rw [HTT.out.2] at hmv
          have HBX := Lib.hid (step_below HB3.out HB.out)
          have HI2 := Lib.hid (HI.out wq _ ms (rows_of_owns HR2.out) (HT.out.later HBX.out))
          rw [hmv.1, hmv.2.2] at HI2
          clear hmv hms
          go_wp2_with fail
          refine HI2.out.mono ?_
          rintro e w4 ⟨rfl, hb4⟩
          have HF := Lib.hid (step_below HBX.out hb4)
          have HB34 := Lib.hid (step_below HB.out hb4)
          clear hb4 HI2
          by_cases h2 : xss.length < 2
          · have h2' : (xss.length : Int) < 2 := by omega
            have HN1 : Hid (xss.length = 1) := Lib.hid (by omega)
            obtain ⟨b, off, u, rfl, hcell0, hu⟩ := HC.out 0 (by omega)
            have hlen := HSQ.out 0 (by omega)
            obtain ⟨A2, cap2, rfl, hm2, hc2⟩ := hu
            obtain ⟨b2, o2, rfl, hcell20⟩ := hc2 0 (by omega)
            have hcell := (HB34.out.cell (p := ⟨b, off + 0, none⟩) (World.block_lt_of_cell? w3 _ hcell0)).trans hcell0
            have hcell2 := (HB34.out.cell (p := ⟨b2, o2 + 0, none⟩) (World.block_lt_of_cell? w3 _ hcell20)).trans hcell20
            have hfl := flat_at xss (show 0 < xss.length by omega) (show 0 < xss[0].length by omega) (by omega)
            obtain ⟨x, hx⟩ : ∃ x, xss[0][0]'(by omega) = x := ⟨_, rfl⟩
            rw [hx] at hcell2 hfl
            rw [hlen] at hcell
            rw [Nat.add_zero] at hcell hcell2
            have hzx : x = z := by
              have := det_one HTIN.out HN1.out
              rw [← hfl, ← HTT.out.2]
              exact this.2.symm
            subst hzx
            have h10 : (0 : Int) < (xss.length : Int) := by omega
            have h11 : 0 < xss.length := by omega
            clear hc2 hcell0 hcell20 hlen hx hfl hm2
            go_wp2
            go_ret
            exact ⟨rfl, HF.out⟩
          · have h2' : ¬ (xss.length : Int) < 2 := by omega
            have hsw := rows_swapped HTIN.out (by omega)
            obtain ⟨A5, cap5, us, hA5, hm5, hul, hus⟩ := HR3.out
            simp only [Value.slice.injEq] at hA5
            obtain ⟨rfl, -, rfl⟩ := hA5
            obtain ⟨⟨b, off, rfl, hcell0⟩, -⟩ := hus 0 (by omega) us[0] (List.getElem?_eq_getElem (by omega))
            obtain ⟨⟨b', off', e', hcell1⟩, -⟩ := hus 1 (by omega) us[1] (List.getElem?_eq_getElem (by omega))
            obtain ⟨rfl, rfl⟩ : b = b' ∧ off = off' := by simpa using e'
            obtain ⟨u0, hu0⟩ : ∃ u, us[0]'(by omega) = u := ⟨_, rfl⟩
            obtain ⟨u1, hu1⟩ : ∃ u, us[1]'(by omega) = u := ⟨_, rfl⟩
            rw [hu0, Nat.add_zero] at hcell0
            rw [hu1] at hcell1
            have hg0 : us[0]? = some u0 := by rw [← hu0]; exact List.getElem?_eq_getElem (by omega)
            have hg1 : us[1]? = some u1 := by rw [← hu1]; exact List.getElem?_eq_getElem (by omega)
            have hn2 : ∀ j u, (us.drop 2)[j]? = some u → w3.cell? ((⟨b, off + 2, none⟩ : Addr).add j) = some u := fun j u hu => by
              rw [List.getElem?_drop] at hu
              have hlt : 2 + j < us.length := (List.getElem?_eq_some_iff.1 hu).1
              obtain ⟨⟨b', off', e', hc⟩, -⟩ := hus (2 + j) (by omega) u hu
              obtain ⟨rfl, rfl⟩ : b = b' ∧ off = off' := by simpa using e'
              rw [Go.WideShapes.add_plain, Nat.add_assoc]; exact hc
            have one0 : u0.oneCell' = true ∧ u1.oneCell' = true ∧ ∀ u ∈ us.drop 2, u.oneCell' = true := by
              have all : ∀ i (h : i < us.length), us[i].oneCell' = true := fun i h => by
                obtain ⟨-, A6, c6, e6, -⟩ := hus i (by omega) us[i] (List.getElem?_eq_getElem h)
                rw [e6]; rfl
              refine ⟨by rw [← hu0]; exact all 0 (by omega), by rw [← hu1]; exact all 1 (by omega), fun u hu => ?_⟩
              obtain ⟨i, hi, rfl⟩ := List.getElem_of_mem (List.mem_of_mem_drop hu)
              exact all i hi
            have hold : ∀ W, Below w4.heap.size w4 W → W.cell? ⟨b, off + 1, none⟩ = some u1 ∧ W.cell? ⟨b, off, none⟩ = some u0 := fun W hW => by
              have h34 := HB34.out
              have k1 := (h34.cell (p := ⟨b, off + 1, none⟩) (World.block_lt_of_cell? w3 _ hcell1)).trans hcell1
              have k0 := (h34.cell (p := ⟨b, off, none⟩) (World.block_lt_of_cell? w3 _ hcell0)).trans hcell0
              exact ⟨(hW.cell (p := ⟨b, off + 1, none⟩) (World.block_lt_of_cell? w4 _ k1)).trans k1, (hW.cell (p := ⟨b, off, none⟩) (World.block_lt_of_cell? w4 _ k0)).trans k0⟩
            have hbel : Below w4.heap.size w4 (w4.drew.alloc (.cells #[u1, u0] 27)) := ((Below.refl _ _).drew).alloc (Nat.le_refl _) _
            have hnews : ∀ j u, (us.drop 2)[j]? = some u → (w4.drew.alloc (.cells #[u1, u0] 27)).cell? ((⟨b, off + 2, none⟩ : Addr).add j) = some u := fun j u hu => by
              have k := hn2 j u hu
              have hlt : ((⟨b, off + 2, none⟩ : Addr).add j).block < w3.heap.size := World.block_lt_of_cell? w3 _ k
              have h4 := (HB34.out.cell hlt).trans k
              exact (hbel.cell (World.block_lt_of_cell? w4 _ h4)).trans h4
            have HA := Lib.hid (And.intro (hold _ hbel).1 (And.intro (hold _ hbel).2 (And.intro (show (w4.drew.alloc (.cells #[u1, u0] 27)).ownsRow w4.heap.size 27 1 (.slice (some ⟨w4.heap.size, 0, none⟩) 2 2) 2 [u1, u0] from World.ownsRow_lit (base := w4.heap.size) (size := 1) w4.drew #[u1, u0] 2 (Nat.le_refl _) (by decide) rfl) hnews)))
            have HN := Lib.hid (And.intro (show (us.drop 2).length = (xss.length - 2) * 1 by rw [List.length_drop, hul]; omega) one0.2.2)
            obtain ⟨A6, l6, c6, rfl⟩ : ∃ A l c, u0 = Value.slice A l c := by
              obtain ⟨-, A6, c6, e6, -⟩ := hus 0 (by omega) u0 hg0
              exact ⟨_, _, _, e6⟩
            obtain ⟨A7, l7, c7, rfl⟩ : ∃ A l c, u1 = Value.slice A l c := by
              obtain ⟨-, A7, c7, e7, -⟩ := hus 1 (by omega) u1 hg1
              exact ⟨_, _, _, e7⟩
            have HFIN := Lib.hid (fun (W : World) (g c : Nat) (ho : W.ownsRow w4.heap.size 27 1 (.slice (some ⟨g, 0, none⟩) xss.length c) xss.length ([.slice A7 l7 c7, .slice A6 l6 c6] ++ us.drop 2)) (hb : Below w4.heap.size w4 W) =>
              HI.out W _ (swR xss) (swapped_rows hul (fun i h u hu => (hus i h u hu).2) (by omega) hm5 (step_below HB34.out hb) hg0 hg1 ho) (HT.out.later (step_below HF.out hb)))
            rw [hsw.1, hsw.2.2, HTT.out.2] at HFIN
            have HOLD := Lib.hid hold
            have HBEL := Lib.hid hbel
            have HUS := Lib.hid (And.intro hul one0)
            obtain ⟨q1, q0⟩ := hold w4.drew (Below.refl _ _).drew
            have hbd := permOf_bd xss
            rw [HTT.out.2] at hbd
            have wn1 : wrap64 (0 - z) = -z := by unfold wrap64; omega
            have wn2 : IntKind.i64.wrap (0 - z) = -z := by rw [IntKind.wrap_i64]; omega
            have wn3 : wrap64 (-z) = -z := by unfold wrap64; omega
            have wn4 : IntKind.i64.wrap (-z) = -z := by rw [IntKind.wrap_i64]; omega
            have wn5 : (0 : Int) - z = -z := by omega
            have i1 : (1 : Int) < (xss.length : Int) := by omega
            have i0' : (0 : Int) < (xss.length : Int) := by omega
            have i2 : (2 : Int) ≤ (xss.length : Int) := by omega
            have j1 : 1 < xss.length := by omega
            have j0' : 0 < xss.length := by omega
            have j2 : 2 ≤ xss.length := by omega
            have hcap := HCAP.out
            have jc : 2 ≤ cap' := by omega
            have hnc : (xss.length : Int) ≤ (cap' : Int) := by omega
            clear hsw hcell0 hcell1 hg0 hg1 hu0 hu1 hn2 one0 hold hbel hnews hbd hus hul hm5 e' HTT HC HSQ
            by_cases h3 : xss.length = 2
            · have HN2 := Lib.hid h3
              clear h3
              by_cases hc2 : cap' = 2
              · subst hc2
                go_wp2_with fail
                refine wp_region_held_drew (S := fun w' => w'.cell? ⟨b, off + 1, none⟩ = some (.slice A7 l7 c7) ∧ w'.cell? ⟨b, off, none⟩ = some (.slice A6 l6 c6)) (by kernel_rfl) ⟨q1, q0⟩ (fun hHeld => ?_)
                refine wpAnyH_take (i := 0) (v := ?vc0) rfl (by kernel_rfl) (by kernel_rfl) (by kernel_rfl) (fun _ _ _ h => h) (Or.inl ⟨by rfl, ?hyc0⟩) (by assumption) ?_
                case hyc0 =>
                  intro w' hSw
                  try dsimp only at hSw
                  obtain ⟨hs1, hs2⟩ := hSw
                  go_simp
                  try with_reducible rfl
                try simp only [Act.put, List.setIfInBounds_toArray, List.set_cons_zero, List.set_cons_succ]
                refine wpAnyH_take (i := 1) (v := ?vc1) rfl (by kernel_rfl) (by kernel_rfl) (by kernel_rfl) (fun _ _ _ h => h) (Or.inl ⟨by rfl, ?hyc1⟩) (by assumption) ?_
                case hyc1 =>
                  intro w' hSw
                  try dsimp only at hSw
                  obtain ⟨hs1, hs2⟩ := hSw
                  go_simp
                  try with_reducible rfl
                try simp only [Act.put, List.setIfInBounds_toArray, List.set_cons_zero, List.set_cons_succ]
                refine wpAnyH_take (i := 2) (v := ?vc2) rfl (by kernel_rfl) (by kernel_rfl) (by kernel_rfl) (fun _ _ _ h => h) (Or.inl ⟨by rfl, ?hyc2⟩) (by assumption) ?_
                case hyc2 =>
                  intro w' hSw
                  try dsimp only at hSw
                  obtain ⟨hs1, hs2⟩ := hSw
                  go_simp
                  try with_reducible rfl
                try simp only [Act.put, List.setIfInBounds_toArray, List.set_cons_zero, List.set_cons_succ]
                refine wpAnyH_take (i := 3) (v := ?vc3) rfl (by kernel_rfl) (by kernel_rfl) (by kernel_rfl) (fun _ _ _ h => h) (Or.inl ⟨by rfl, ?hyc3⟩) (by assumption) ?_
                case hyc3 =>
                  intro w' hSw
                  try dsimp only at hSw
                  obtain ⟨hs1, hs2⟩ := hSw
                  go_simp
                  try with_reducible rfl
                try simp only [Act.put, List.setIfInBounds_toArray, List.set_cons_zero, List.set_cons_succ]
                refine wpAnyH_take (i := 4) (v := ?vc4) rfl (by kernel_rfl) (by kernel_rfl) (by kernel_rfl) (fun _ _ _ h => h) (Or.inl ⟨by rfl, ?hyc4⟩) (by assumption) ?_
                case hyc4 =>
                  intro w' hSw
                  try dsimp only at hSw
                  obtain ⟨hs1, hs2⟩ := hSw
                  go_simp
                  try with_reducible rfl
                try simp only [Act.put, List.setIfInBounds_toArray, List.set_cons_zero, List.set_cons_succ]
                refine wpAnyH_take (i := 5) (v := ?vc5) rfl (by kernel_rfl) (by kernel_rfl) (by kernel_rfl) (fun _ _ _ h => h) (Or.inl ⟨by rfl, ?hyc5⟩) (by assumption) ?_
                case hyc5 =>
                  intro w' hSw
                  try dsimp only at hSw
                  obtain ⟨hs1, hs2⟩ := hSw
                  go_simp
                  try with_reducible rfl
                try simp only [Act.put, List.setIfInBounds_toArray, List.set_cons_zero, List.set_cons_succ]
                refine wpAnyH_take (i := 7) (v := ?vc7) rfl (by kernel_rfl) (by kernel_rfl) (by kernel_rfl) (fun _ _ _ h => h) (Or.inl ⟨by rfl, ?hyc7⟩) (by assumption) ?_
                case hyc7 =>
                  intro w' hSw
                  try dsimp only at hSw
                  obtain ⟨hs1, hs2⟩ := hSw
                  go_simp
                  try with_reducible rfl
                try simp only [Act.put, List.setIfInBounds_toArray, List.set_cons_zero, List.set_cons_succ]
                refine wpAnyH_take (i := 8) (v := ?vc8) rfl (by kernel_rfl) (by kernel_rfl) (by kernel_rfl) (fun _ _ _ h => h) (Or.inl ⟨by rfl, ?hyc8⟩) (by assumption) ?_
                case hyc8 =>
                  intro w' hSw
                  try dsimp only at hSw
                  obtain ⟨hs1, hs2⟩ := hSw
                  go_simp
                  try with_reducible rfl
                try simp only [Act.put, List.setIfInBounds_toArray, List.set_cons_zero, List.set_cons_succ]
                refine wpAnyH_ready (rs := [6]) (by kernel_rfl) (by simp) (AllReadyH.cons rfl (fun K hK => ?_) AllReadyH.nil)
                go_simp
                refine hK.out _ _ (⟨HA.out.1, HA.out.2.1⟩) (fun hHeld2 => ?_)
                clear hK K
                try simp only [Act.put, List.setIfInBounds_toArray, List.set_cons_zero, List.set_cons_succ]
                refine wpAnyH_ready (rs := [9]) (by kernel_rfl) (by simp) (AllReadyH.cons rfl (fun K hK => ?_) AllReadyH.nil)
                refine step_append_room (by rfl) (.tmp 100) (.tmp 102) 23 (by rfl) 27 i0 1 Tryd.underlying23 hi hz1 w4.heap.size 0 2 2 (by rfl) ⟨b, off, none⟩ 0 0 [] (by rfl) (by simp) (by simp) (by simp) (by omega) (by simp) ?_
                rw [show ∀ (W : World) x y, W.setCells x y [] = W from fun _ _ _ => rfl]
                have hb5 := HBEL.out
                have hdr : us.drop 2 = [] := List.drop_eq_nil_of_le (by have := HUS.out.1; have := HN2.out; omega)
                have hown5 : World.ownsRow (w4.drew.alloc (.cells #[.slice A7 l7 c7, .slice A6 l6 c6] 27)) w4.heap.size 27 1 (.slice (some ⟨w4.heap.size, 0, none⟩) xss.length 2) xss.length ([.slice A7 l7 c7, .slice A6 l6 c6] ++ us.drop 2) := by rw [hdr, HN2.out]; exact HA.out.2.2.1
                have HC5 := Lib.hid (HFIN.out (w4.drew.alloc (.cells #[.slice A7 l7 c7, .slice A6 l6 c6] 27)) w4.heap.size 2 hown5 hb5)
                rw [HN2.out] at HC5
                have H45 := Lib.hid hb5
                clear hown5 hb5 hdr
                refine hK.out _ _ (HOLD.out (w4.drew.alloc (.cells #[.slice A7 l7 c7, .slice A6 l6 c6] 27)) H45.out) (fun hHeld3 => ?_)
                clear hK K
                try simp only [Act.put, List.setIfInBounds_toArray, List.set_cons_zero, List.set_cons_succ]
                refine wpAnyH_ready (rs := [10]) (by kernel_rfl) (by simp) (AllReadyH.cons rfl (fun K hK => ?_) AllReadyH.nil)
                go_simp
                go_at_call 32
                refine HC5.out.mono ?_
                rintro e w6 ⟨rfl, hb6⟩
                have H46 := Lib.hid (step_below H45.out hb6)
                clear hb6
                refine hK.out _ _ (HOLD.out w6 H46.out) (fun hHeld4 => ?_)
                clear hK K
                try simp only [Act.put, List.setIfInBounds_toArray, List.set_cons_zero, List.set_cons_succ]
                refine wpAnyH_take (i := 11) (v := ?vc11) rfl (by kernel_rfl) (by kernel_rfl) (by kernel_rfl) (fun _ _ _ h => h) (Or.inl ⟨by rfl, ?hyc11⟩) (by assumption) ?_
                case hyc11 =>
                  intro w' hSw
                  try dsimp only at hSw
                  skip
                  go_simp
                  try with_reducible rfl
                try simp only [Act.put, List.setIfInBounds_toArray, List.set_cons_zero, List.set_cons_succ]
                refine wpAnyH_take (i := 12) (v := ?vc12) rfl (by kernel_rfl) (by kernel_rfl) (by kernel_rfl) (fun _ _ _ h => h) (Or.inl ⟨by rfl, ?hyc12⟩) (by assumption) ?_
                case hyc12 =>
                  intro w' hSw
                  try dsimp only at hSw
                  skip
                  go_simp
                  try with_reducible rfl
                try simp only [Act.put, List.setIfInBounds_toArray, List.set_cons_zero, List.set_cons_succ]
                refine wpAnyH_take (i := 13) (v := ?vc13) rfl (by kernel_rfl) (by kernel_rfl) (by kernel_rfl) (fun _ _ _ h => h) (Or.inl ⟨by rfl, ?hyc13⟩) (by assumption) ?_
                case hyc13 =>
                  intro w' hSw
                  try dsimp only at hSw
                  skip
                  go_simp
                  try with_reducible rfl
                try simp only [Act.put, List.setIfInBounds_toArray, List.set_cons_zero, List.set_cons_succ]
                refine wpAnyH_take (i := 14) (v := ?vc14) rfl (by kernel_rfl) (by kernel_rfl) (by kernel_rfl) (fun _ _ _ h => h) (Or.inl ⟨by rfl, ?hyc14⟩) (by assumption) ?_
                case hyc14 =>
                  intro w' hSw
                  try dsimp only at hSw
                  skip
                  go_simp
                  try with_reducible rfl
                try simp only [Act.put, List.setIfInBounds_toArray, List.set_cons_zero, List.set_cons_succ]
                refine wpAnyH_take (i := 15) (v := ?vc15) rfl (by kernel_rfl) (by kernel_rfl) (by kernel_rfl) (fun _ _ _ h => h) (Or.inl ⟨by rfl, ?hyc15⟩) (by assumption) ?_
                case hyc15 =>
                  intro w' hSw
                  try dsimp only at hSw
                  skip
                  go_simp
                  try with_reducible rfl
                try simp only [Act.put, List.setIfInBounds_toArray, List.set_cons_zero, List.set_cons_succ]
                refine wpAnyH_done (by kernel_rfl) ?_ _
                clear q0 q1
                go_wp2
                go_ret
                exact ⟨rfl, step_below HF.out H46.out⟩
              · have hcne : ¬ cap' = 2 := hc2
                go_wp2_with fail
                refine wp_region_held_drew (S := fun w' => w'.cell? ⟨b, off + 1, none⟩ = some (.slice A7 l7 c7) ∧ w'.cell? ⟨b, off, none⟩ = some (.slice A6 l6 c6)) (by kernel_rfl) ⟨q1, q0⟩ (fun hHeld => ?_)
                refine wpAnyH_take (i := 0) (v := ?vb0) rfl (by kernel_rfl) (by kernel_rfl) (by kernel_rfl) (fun _ _ _ h => h) (Or.inl ⟨by rfl, ?hyb0⟩) (by assumption) ?_
                case hyb0 =>
                  intro w' hSw
                  try dsimp only at hSw
                  obtain ⟨hs1, hs2⟩ := hSw
                  go_simp
                  try with_reducible rfl
                try simp only [Act.put, List.setIfInBounds_toArray, List.set_cons_zero, List.set_cons_succ]
                refine wpAnyH_take (i := 1) (v := ?vb1) rfl (by kernel_rfl) (by kernel_rfl) (by kernel_rfl) (fun _ _ _ h => h) (Or.inl ⟨by rfl, ?hyb1⟩) (by assumption) ?_
                case hyb1 =>
                  intro w' hSw
                  try dsimp only at hSw
                  obtain ⟨hs1, hs2⟩ := hSw
                  go_simp
                  try with_reducible rfl
                try simp only [Act.put, List.setIfInBounds_toArray, List.set_cons_zero, List.set_cons_succ]
                refine wpAnyH_take (i := 2) (v := ?vb2) rfl (by kernel_rfl) (by kernel_rfl) (by kernel_rfl) (fun _ _ _ h => h) (Or.inl ⟨by rfl, ?hyb2⟩) (by assumption) ?_
                case hyb2 =>
                  intro w' hSw
                  try dsimp only at hSw
                  obtain ⟨hs1, hs2⟩ := hSw
                  go_simp
                  try with_reducible rfl
                try simp only [Act.put, List.setIfInBounds_toArray, List.set_cons_zero, List.set_cons_succ]
                refine wpAnyH_take (i := 3) (v := ?vb3) rfl (by kernel_rfl) (by kernel_rfl) (by kernel_rfl) (fun _ _ _ h => h) (Or.inl ⟨by rfl, ?hyb3⟩) (by assumption) ?_
                case hyb3 =>
                  intro w' hSw
                  try dsimp only at hSw
                  obtain ⟨hs1, hs2⟩ := hSw
                  go_simp
                  try with_reducible rfl
                try simp only [Act.put, List.setIfInBounds_toArray, List.set_cons_zero, List.set_cons_succ]
                refine wpAnyH_take (i := 4) (v := ?vb4) rfl (by kernel_rfl) (by kernel_rfl) (by kernel_rfl) (fun _ _ _ h => h) (Or.inl ⟨by rfl, ?hyb4⟩) (by assumption) ?_
                case hyb4 =>
                  intro w' hSw
                  try dsimp only at hSw
                  obtain ⟨hs1, hs2⟩ := hSw
                  go_simp
                  try with_reducible rfl
                try simp only [Act.put, List.setIfInBounds_toArray, List.set_cons_zero, List.set_cons_succ]
                refine wpAnyH_take (i := 5) (v := ?vb5) rfl (by kernel_rfl) (by kernel_rfl) (by kernel_rfl) (fun _ _ _ h => h) (Or.inl ⟨by rfl, ?hyb5⟩) (by assumption) ?_
                case hyb5 =>
                  intro w' hSw
                  try dsimp only at hSw
                  obtain ⟨hs1, hs2⟩ := hSw
                  go_simp
                  try with_reducible rfl
                try simp only [Act.put, List.setIfInBounds_toArray, List.set_cons_zero, List.set_cons_succ]
                refine wpAnyH_take (i := 7) (v := ?vb7) rfl (by kernel_rfl) (by kernel_rfl) (by kernel_rfl) (fun _ _ _ h => h) (Or.inl ⟨by rfl, ?hyb7⟩) (by assumption) ?_
                case hyb7 =>
                  intro w' hSw
                  try dsimp only at hSw
                  obtain ⟨hs1, hs2⟩ := hSw
                  go_simp
                  try with_reducible rfl
                try simp only [Act.put, List.setIfInBounds_toArray, List.set_cons_zero, List.set_cons_succ]
                refine wpAnyH_take (i := 8) (v := ?vb8) rfl (by kernel_rfl) (by kernel_rfl) (by kernel_rfl) (fun _ _ _ h => h) (Or.inl ⟨by rfl, ?hyb8⟩) (by assumption) ?_
                case hyb8 =>
                  intro w' hSw
                  try dsimp only at hSw
                  obtain ⟨hs1, hs2⟩ := hSw
                  go_simp
                  try with_reducible rfl
                try simp only [Act.put, List.setIfInBounds_toArray, List.set_cons_zero, List.set_cons_succ]
                refine wpAnyH_ready (rs := [6]) (by kernel_rfl) (by simp) (AllReadyH.cons rfl (fun K hK => ?_) AllReadyH.nil)
                go_simp
                refine hK.out _ _ (⟨HA.out.1, HA.out.2.1⟩) (fun hHeld2 => ?_)
                clear hK K
                try simp only [Act.put, List.setIfInBounds_toArray, List.set_cons_zero, List.set_cons_succ]
                refine wpAnyH_ready (rs := [9]) (by kernel_rfl) (by simp) (AllReadyH.cons rfl (fun K hK => ?_) AllReadyH.nil)
                refine step_append_room (by rfl) (.tmp 100) (.tmp 102) 23 (by rfl) 27 i0 1 Tryd.underlying23 hi hz1 w4.heap.size 0 2 2 (by rfl) ⟨b, off + 2, none⟩ (xss.length - 2) (cap' - 2) [] (by rfl) (by have := HN2.out; simp; omega) (by simp) (by simp) (by have := HN2.out; omega) (by simp) ?_
                rw [show 2 + (xss.length - 2) = xss.length by have := HN2.out; omega]
                rw [show ∀ (W : World) x y, W.setCells x y [] = W from fun _ _ _ => rfl]
                have hb5 := HBEL.out
                have hdr : us.drop 2 = [] := List.drop_eq_nil_of_le (by have := HUS.out.1; have := HN2.out; omega)
                have hown5 : World.ownsRow (w4.drew.alloc (.cells #[.slice A7 l7 c7, .slice A6 l6 c6] 27)) w4.heap.size 27 1 (.slice (some ⟨w4.heap.size, 0, none⟩) xss.length 2) xss.length ([.slice A7 l7 c7, .slice A6 l6 c6] ++ us.drop 2) := by rw [hdr, HN2.out]; exact HA.out.2.2.1
                have HC5 := Lib.hid (HFIN.out (w4.drew.alloc (.cells #[.slice A7 l7 c7, .slice A6 l6 c6] 27)) w4.heap.size 2 hown5 hb5)
                have H45 := Lib.hid hb5
                clear hown5 hb5 hdr
                refine hK.out _ _ (HOLD.out (w4.drew.alloc (.cells #[.slice A7 l7 c7, .slice A6 l6 c6] 27)) H45.out) (fun hHeld3 => ?_)
                clear hK K
                try simp only [Act.put, List.setIfInBounds_toArray, List.set_cons_zero, List.set_cons_succ]
                refine wpAnyH_ready (rs := [10]) (by kernel_rfl) (by simp) (AllReadyH.cons rfl (fun K hK => ?_) AllReadyH.nil)
                go_simp
                go_at_call 32
                refine HC5.out.mono ?_
                rintro e w6 ⟨rfl, hb6⟩
                have H46 := Lib.hid (step_below H45.out hb6)
                clear hb6
                refine hK.out _ _ (HOLD.out w6 H46.out) (fun hHeld4 => ?_)
                clear hK K
                try simp only [Act.put, List.setIfInBounds_toArray, List.set_cons_zero, List.set_cons_succ]
                refine wpAnyH_take (i := 11) (v := ?vb11) rfl (by kernel_rfl) (by kernel_rfl) (by kernel_rfl) (fun _ _ _ h => h) (Or.inl ⟨by rfl, ?hyb11⟩) (by assumption) ?_
                case hyb11 =>
                  intro w' hSw
                  try dsimp only at hSw
                  skip
                  go_simp
                  try with_reducible rfl
                try simp only [Act.put, List.setIfInBounds_toArray, List.set_cons_zero, List.set_cons_succ]
                refine wpAnyH_take (i := 12) (v := ?vb12) rfl (by kernel_rfl) (by kernel_rfl) (by kernel_rfl) (fun _ _ _ h => h) (Or.inl ⟨by rfl, ?hyb12⟩) (by assumption) ?_
                case hyb12 =>
                  intro w' hSw
                  try dsimp only at hSw
                  skip
                  go_simp
                  try with_reducible rfl
                try simp only [Act.put, List.setIfInBounds_toArray, List.set_cons_zero, List.set_cons_succ]
                refine wpAnyH_take (i := 13) (v := ?vb13) rfl (by kernel_rfl) (by kernel_rfl) (by kernel_rfl) (fun _ _ _ h => h) (Or.inl ⟨by rfl, ?hyb13⟩) (by assumption) ?_
                case hyb13 =>
                  intro w' hSw
                  try dsimp only at hSw
                  skip
                  go_simp
                  try with_reducible rfl
                try simp only [Act.put, List.setIfInBounds_toArray, List.set_cons_zero, List.set_cons_succ]
                refine wpAnyH_take (i := 14) (v := ?vb14) rfl (by kernel_rfl) (by kernel_rfl) (by kernel_rfl) (fun _ _ _ h => h) (Or.inl ⟨by rfl, ?hyb14⟩) (by assumption) ?_
                case hyb14 =>
                  intro w' hSw
                  try dsimp only at hSw
                  skip
                  go_simp
                  try with_reducible rfl
                try simp only [Act.put, List.setIfInBounds_toArray, List.set_cons_zero, List.set_cons_succ]
                refine wpAnyH_take (i := 15) (v := ?vb15) rfl (by kernel_rfl) (by kernel_rfl) (by kernel_rfl) (fun _ _ _ h => h) (Or.inl ⟨by rfl, ?hyb15⟩) (by assumption) ?_
                case hyb15 =>
                  intro w' hSw
                  try dsimp only at hSw
                  skip
                  go_simp
                  try with_reducible rfl
                try simp only [Act.put, List.setIfInBounds_toArray, List.set_cons_zero, List.set_cons_succ]
                refine wpAnyH_done (by kernel_rfl) ?_ _
                clear q0 q1
                go_wp2
                go_ret
                exact ⟨rfl, step_below HF.out H46.out⟩
            · have hcne : ¬ cap' = 2 := by omega
              have h3b : 2 < xss.length := by omega
              clear h3
              go_wp2_with fail
              refine wp_region_held_drew (S := fun w' => w'.cell? ⟨b, off + 1, none⟩ = some (.slice A7 l7 c7) ∧ w'.cell? ⟨b, off, none⟩ = some (.slice A6 l6 c6)) (by kernel_rfl) ⟨q1, q0⟩ (fun hHeld => ?_)
              refine wpAnyH_take (i := 0) (v := ?va0) rfl (by kernel_rfl) (by kernel_rfl) (by kernel_rfl) (fun _ _ _ h => h) (Or.inl ⟨by rfl, ?hya0⟩) (by assumption) ?_
              case hya0 =>
                intro w' hSw
                try dsimp only at hSw
                obtain ⟨hs1, hs2⟩ := hSw
                go_simp
                try with_reducible rfl
              try simp only [Act.put, List.setIfInBounds_toArray, List.set_cons_zero, List.set_cons_succ]
              refine wpAnyH_take (i := 1) (v := ?va1) rfl (by kernel_rfl) (by kernel_rfl) (by kernel_rfl) (fun _ _ _ h => h) (Or.inl ⟨by rfl, ?hya1⟩) (by assumption) ?_
              case hya1 =>
                intro w' hSw
                try dsimp only at hSw
                obtain ⟨hs1, hs2⟩ := hSw
                go_simp
                try with_reducible rfl
              try simp only [Act.put, List.setIfInBounds_toArray, List.set_cons_zero, List.set_cons_succ]
              refine wpAnyH_take (i := 2) (v := ?va2) rfl (by kernel_rfl) (by kernel_rfl) (by kernel_rfl) (fun _ _ _ h => h) (Or.inl ⟨by rfl, ?hya2⟩) (by assumption) ?_
              case hya2 =>
                intro w' hSw
                try dsimp only at hSw
                obtain ⟨hs1, hs2⟩ := hSw
                go_simp
                try with_reducible rfl
              try simp only [Act.put, List.setIfInBounds_toArray, List.set_cons_zero, List.set_cons_succ]
              refine wpAnyH_take (i := 3) (v := ?va3) rfl (by kernel_rfl) (by kernel_rfl) (by kernel_rfl) (fun _ _ _ h => h) (Or.inl ⟨by rfl, ?hya3⟩) (by assumption) ?_
              case hya3 =>
                intro w' hSw
                try dsimp only at hSw
                obtain ⟨hs1, hs2⟩ := hSw
                go_simp
                try with_reducible rfl
              try simp only [Act.put, List.setIfInBounds_toArray, List.set_cons_zero, List.set_cons_succ]
              refine wpAnyH_take (i := 4) (v := ?va4) rfl (by kernel_rfl) (by kernel_rfl) (by kernel_rfl) (fun _ _ _ h => h) (Or.inl ⟨by rfl, ?hya4⟩) (by assumption) ?_
              case hya4 =>
                intro w' hSw
                try dsimp only at hSw
                obtain ⟨hs1, hs2⟩ := hSw
                go_simp
                try with_reducible rfl
              try simp only [Act.put, List.setIfInBounds_toArray, List.set_cons_zero, List.set_cons_succ]
              refine wpAnyH_take (i := 5) (v := ?va5) rfl (by kernel_rfl) (by kernel_rfl) (by kernel_rfl) (fun _ _ _ h => h) (Or.inl ⟨by rfl, ?hya5⟩) (by assumption) ?_
              case hya5 =>
                intro w' hSw
                try dsimp only at hSw
                obtain ⟨hs1, hs2⟩ := hSw
                go_simp
                try with_reducible rfl
              try simp only [Act.put, List.setIfInBounds_toArray, List.set_cons_zero, List.set_cons_succ]
              refine wpAnyH_take (i := 7) (v := ?va7) rfl (by kernel_rfl) (by kernel_rfl) (by kernel_rfl) (fun _ _ _ h => h) (Or.inl ⟨by rfl, ?hya7⟩) (by assumption) ?_
              case hya7 =>
                intro w' hSw
                try dsimp only at hSw
                obtain ⟨hs1, hs2⟩ := hSw
                go_simp
                try with_reducible rfl
              try simp only [Act.put, List.setIfInBounds_toArray, List.set_cons_zero, List.set_cons_succ]
              refine wpAnyH_take (i := 8) (v := ?va8) rfl (by kernel_rfl) (by kernel_rfl) (by kernel_rfl) (fun _ _ _ h => h) (Or.inl ⟨by rfl, ?hya8⟩) (by assumption) ?_
              case hya8 =>
                intro w' hSw
                try dsimp only at hSw
                obtain ⟨hs1, hs2⟩ := hSw
                go_simp
                try with_reducible rfl
              try simp only [Act.put, List.setIfInBounds_toArray, List.set_cons_zero, List.set_cons_succ]
              refine wpAnyH_ready (rs := [6]) (by kernel_rfl) (by simp) (AllReadyH.cons rfl (fun K hK => ?_) AllReadyH.nil)
              go_simp
              refine hK.out _ _ (⟨HA.out.1, HA.out.2.1⟩) (fun hHeld2 => ?_)
              clear hK K
              try simp only [Act.put, List.setIfInBounds_toArray, List.set_cons_zero, List.set_cons_succ]
              refine wpAnyH_ready (rs := [9]) (by kernel_rfl) (by simp) (AllReadyH.cons rfl (fun K hK => ?_) AllReadyH.nil)
              refine step_append_lies _ (by rfl) (.tmp 100) (.tmp 102) 23 (by rfl) w4.heap.size 27 i0 (.slice none 0 0) 1 24 Tryd.underlying23 hi hz0 hz1 hz2 rfl (by decide) _ _ _ (by rfl) HA.out.2.2.1 ⟨b, off + 2, none⟩ (xss.length - 2) (cap' - 2) (us.drop 2) (by rfl) HN.out.1 HA.out.2.2.2 HN.out.2 (by omega) (by unfold maxLen; omega) (by omega) (by simp) _ (by rfl) ?_
              intro g9 c9 w5 hown5 hgrow5 hor5 hlt5
              rw [show 2 + (xss.length - 2) = xss.length by omega] at hown5 ⊢
              have hb5 : Below w4.heap.size w4 w5 := HBEL.out.grown hgrow5 (by simp) (fun k hk => by cases hk; exact Nat.le_refl _)
              have HC5 := Lib.hid (HFIN.out w5 g9 c9 hown5 hb5)
              have H45 := Lib.hid hb5
              clear hown5 hb5 hgrow5 hor5 hlt5
              refine hK.out _ _ (HOLD.out w5 H45.out) (fun hHeld3 => ?_)
              clear hK K
              try simp only [Act.put, List.setIfInBounds_toArray, List.set_cons_zero, List.set_cons_succ]
              refine wpAnyH_ready (rs := [10]) (by kernel_rfl) (by simp) (AllReadyH.cons rfl (fun K hK => ?_) AllReadyH.nil)
              go_simp
              go_at_call 32
              refine HC5.out.mono ?_
              rintro e w6 ⟨rfl, hb6⟩
              have H46 := Lib.hid (step_below H45.out hb6)
              clear hb6
              refine hK.out _ _ (HOLD.out w6 H46.out) (fun hHeld4 => ?_)
              clear hK K
              try simp only [Act.put, List.setIfInBounds_toArray, List.set_cons_zero, List.set_cons_succ]
              refine wpAnyH_take (i := 11) (v := ?va11) rfl (by kernel_rfl) (by kernel_rfl) (by kernel_rfl) (fun _ _ _ h => h) (Or.inl ⟨by rfl, ?hya11⟩) (by assumption) ?_
              case hya11 =>
                intro w' hSw
                try dsimp only at hSw
                skip
                go_simp
                try with_reducible rfl
              try simp only [Act.put, List.setIfInBounds_toArray, List.set_cons_zero, List.set_cons_succ]
              refine wpAnyH_take (i := 12) (v := ?va12) rfl (by kernel_rfl) (by kernel_rfl) (by kernel_rfl) (fun _ _ _ h => h) (Or.inl ⟨by rfl, ?hya12⟩) (by assumption) ?_
              case hya12 =>
                intro w' hSw
                try dsimp only at hSw
                skip
                go_simp
                try with_reducible rfl
              try simp only [Act.put, List.setIfInBounds_toArray, List.set_cons_zero, List.set_cons_succ]
              refine wpAnyH_take (i := 13) (v := ?va13) rfl (by kernel_rfl) (by kernel_rfl) (by kernel_rfl) (fun _ _ _ h => h) (Or.inl ⟨by rfl, ?hya13⟩) (by assumption) ?_
              case hya13 =>
                intro w' hSw
                try dsimp only at hSw
                skip
                go_simp
                try with_reducible rfl
              try simp only [Act.put, List.setIfInBounds_toArray, List.set_cons_zero, List.set_cons_succ]
              refine wpAnyH_take (i := 14) (v := ?va14) rfl (by kernel_rfl) (by kernel_rfl) (by kernel_rfl) (fun _ _ _ h => h) (Or.inl ⟨by rfl, ?hya14⟩) (by assumption) ?_
              case hya14 =>
                intro w' hSw
                try dsimp only at hSw
                skip
                go_simp
                try with_reducible rfl
              try simp only [Act.put, List.setIfInBounds_toArray, List.set_cons_zero, List.set_cons_succ]
              refine wpAnyH_take (i := 15) (v := ?va15) rfl (by kernel_rfl) (by kernel_rfl) (by kernel_rfl) (fun _ _ _ h => h) (Or.inl ⟨by rfl, ?hya15⟩) (by assumption) ?_
              case hya15 =>
                intro w' hSw
                try dsimp only at hSw
                skip
                go_simp
                try with_reducible rfl
              try simp only [Act.put, List.setIfInBounds_toArray, List.set_cons_zero, List.set_cons_succ]
              refine wpAnyH_done (by kernel_rfl) ?_ _
              clear q0 q1
              go_wp2
              go_ret
              exact ⟨rfl, step_below HF.out H46.out⟩
  · have e1 : ((1048576 : Int) < (L : Int)) = True := by simp; omega
    go_enter Tryd.func8, Tryd.ntmps8
    go_wp2
    go_ret
    exact ⟨rfl, Below.refl _ _⟩

end Go.Proofs.YtfcbhcjgjbcjdacDoor
