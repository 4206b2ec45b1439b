/-
  FnHafnianTwice: twice a table is twice each edge.
-/
import Derived.Test.YtfcbhcjgjbcjdacDoorGivesTable
import Derived.Test.YtfcbhcjgjbcjdacDoorMonoTw
import Derived.Test.YtfcbhcjgjbcjdacDoorSpecTHaf
import Derived.Test.YtfcbhcjgjbcjdacDoorRowsPush
import Derived.Deep.AppendLies
namespace Go.Proofs.YtfcbhcjgjbcjdacDoor
set_option linter.unusedVariables false
set_option linter.unusedSimpArgs false
open Go.RowKit

set_option maxRecDepth 100000 in
set_option maxHeartbeats 1000000 in
theorem drawTable_any (w : World) (A : Option Addr) (L cap : Nat) (hc : L ≤ cap) (hm : L ≤ maxLen) (hx : Code8 w A L) :
    Calls Tryd.prog 25 #[.slice A L cap] w (GivesTable w) := by
  have HO := Lib.hid (open_any w A L cap hc hm)
  have HX := Lib.hid hx
  unfold maxLen at hm
  clear hx hc
  go_enter Tryd.func25, Tryd.ntmps25
  go_wp2_with fail
  refine HO.out.mono ?_
  rintro e w1 ⟨r, M, cap', rfl, hM, hML, hrw, hr, hb1⟩
  have hlt : r < w1.heap.size := (Array.getElem?_eq_some_iff.1 hr).1
  have HT := Lib.hid (table_any w1 r M cap' 0 A (1) hr ((HX.out.less hML).bytes hb1 r hrw) hM hlt (by omega))
  have HB := Lib.hid hb1
  clear hr hb1 hM hML
  go_wp2_with fail
  refine HT.out.mono ?_
  rintro e w2 ⟨v, us, xss, n, rfl, -, -, -, ho, hw⟩
  have HH := Lib.hid (And.intro (rows_of_owns ho) (Below.within HB.out hw hrw))
  clear ho hw
  go_wp2
  go_ret
  exact ⟨v, xss, rfl, HH.out.1, HH.out.2⟩

set_option maxRecDepth 100000 in
set_option maxHeartbeats 8000000 in
theorem FnHafnianTwice_final (w : World) (A : Option Addr) (L cap : Nat) (hc : L ≤ cap) (hm : L ≤ maxLen) (hx : Code8 w A L) (hT : Tab w) :
    Calls Tryd.prog 6 #[.slice A L cap] w fun e w' => e = .returned (.bool true) ∧ Below w.heap.size w w' := by
  have HD := Lib.hid (drawTable_any w A L cap hc hm hx)
  have HT := Lib.hid hT
  unfold maxLen at hm
  obtain ⟨i0, hi, hz0, hz1, hz2⟩ := info_parts infoRow
  obtain ⟨j0, hj, hy0, hy1, hy2⟩ := info_parts infoInt
  clear hx hT
  by_cases hbig : L ≤ 1048576
  · have e1 : ((1048576 : Int) < (L : Int)) = False := by simp; omega
    go_enter Tryd.func6, Tryd.ntmps6
    go_wp2_with fail
    refine HD.out.mono ?_
    rintro e w1 ⟨v, xss, rfl, hv, hb1⟩
    have HI := Lib.hid (fun (W : World) (u : Value) (ys : List (List Int)) (hW : IntRows W u ys) (hT : Tab W) => implTHaf_any W u ys hW hT)
    have HS := Lib.hid (fun (W : World) (hW : IntRows W v xss) => specTHaf_any W v xss hW)
    have HR := Lib.hid hv
    have HB1 := Lib.hid hb1
    clear hv hb1
    obtain ⟨A', cap', rfl, hml, -⟩ := HR.out.at
    unfold maxLen at hml
    obtain ⟨z, hz⟩ : ∃ z, hafOf xss = z := ⟨_, rfl⟩
    rw [hz] at HS
    cases ht : evenOf xss with
    | false =>
      have HI1 := Lib.hid (HI.out w1 _ xss HR.out (HT.out.later HB1.out))
      rw [ht] at HI1 HS
      rw [hz] at HI1
      clear ht hz
      go_wp2_with fail
      refine HI1.out.mono ?_
      rintro e w2 ⟨rfl, hb2⟩
      have hr2 := HR.out.below hb2
      have hB2 := step_below HB1.out hb2
      go_wp2_with fail
      refine (HS.out _ hr2).mono ?_
      rintro e w3 ⟨rfl, hb3⟩
      have HR3 := Lib.hid (hr2.below hb3)
      have HB3 := Lib.hid (step_below hB2 hb3)
      clear hr2 hB2 hb2 hb3 HI1 HS HR HB1
      go_wp2
      go_ret
      exact ⟨rfl, HB3.out⟩
    | true =>
      have HI1 := Lib.hid (HI.out w1 _ xss HR.out (HT.out.later HB1.out))
      rw [ht] at HI1 HS
      rw [hz] at HI1
      have HTT := Lib.hid (And.intro ht hz)
      clear ht hz
      go_wp2_with fail
      refine HI1.out.mono ?_
      rintro e w2 ⟨rfl, hb2⟩
      have hr2 := HR.out.below hb2
      have hB2 := step_below HB1.out hb2
      go_wp2_with fail
      refine (HS.out _ hr2).mono ?_
      rintro e w3 ⟨rfl, hb3⟩
      have HR3 := Lib.hid (hr2.below hb3)
      have HB3 := Lib.hid (step_below hB2 hb3)
      clear hr2 hB2 hb2 hb3 HI1 HS HR HB1
      have HTIN := Lib.hid (evenOf_in HTT.out.1)
      obtain ⟨h1, h6, hsq⟩ := tIn_facts HTIN.out
      have HSQ : Hid (∀ i (hi : i < xss.length), xss[i].length = xss.length) := Lib.hid fun i hi => (hsq i hi).1
      clear hsq
      obtain ⟨A4, cap4, hA4, hm4, hc4⟩ := HR3.out.at
      simp only [Value.slice.injEq] at hA4
      obtain ⟨rfl, -, rfl⟩ := hA4
      have HC := Lib.hid hc4
      clear hc4
      obtain ⟨W0, hW0⟩ : ∃ W0, w3.alloc (.cells #[] 27) = W0 := ⟨_, rfl⟩
      have hb0 : Below w3.heap.size w3 W0 := by rw [← hW0]; exact (Below.refl _ _).alloc (Nat.le_refl _) _
      have hown : W0.ownsRow w3.heap.size 27 1 (.slice (some ⟨w3.heap.size, 0, none⟩) 0 0) 0 [] := by rw [← hW0]; exact World.ownsRow_made (base := w3.heap.size) (e := 27) (size := 1) w3 #[] 0 (Nat.le_refl _) (Nat.zero_le _) rfl
      have HST := Lib.hid (And.intro hb0 (owns_rows_nil W0 w3.heap.size _ hown))
      clear hb0 hown
      go_wp2_with fail
      clear hW0
      go_loopw [8, 9, 10, 11] (fun r i _ _ wr => ∃ (m : Nat) (us : List Value), m ≤ xss.length ∧ i = .int .i64 m ∧ Below w3.heap.size w3 wr ∧ OwnsRows wr w3.heap.size wr.heap.size r us ((mkRows xss.length (twF xss)).take m)) (fun _ i _ _ _ => xss.length - (intOf i).toNat)
      case atStart => exact ⟨0, [], by omega, rfl, HST.out.1, HST.out.2⟩
      case round =>
        obtain ⟨wq, hwq⟩ : ∃ wq, wq = wr := ⟨_, rfl⟩
        subst hwq
        obtain ⟨m, us, hm, rfl, hb, hrs⟩ := hrel
        have HRS := Lib.hid hrs
        have HB := Lib.hid hb
        by_cases hlt : m < xss.length
        · have hmi : (m : Int) < (xss.length : Int) := by omega
          have hm0 : (0 : Int) ≤ (m : Int) := by omega
          have hown0 := owns_empty wq wq.heap.size (Nat.le_refl _)
          obtain ⟨W1, hW1⟩ : ∃ W1, wq.alloc (.cells #[] 3) = W1 := ⟨_, rfl⟩
          rw [hW1] at hown0
          have hb1 : Below wq.heap.size wq W1 := by rw [← hW1]; exact (Below.refl _ _).alloc (Nat.le_refl _) _
          have HW1 := Lib.hid (And.intro hb1 hown0)
          clear hrs hb hb1 hown0
          go_wp2
          clear hW1
          go_loopw [10, 11] (fun rv iv wr => ∃ (j g cp : Nat), j ≤ xss.length ∧ iv = .int .i64 j ∧ rv = .slice (some ⟨g, 0, none⟩) j cp ∧ Below wq.heap.size wq wr ∧ wr.ownsRow wq.heap.size 3 1 (.slice (some ⟨g, 0, none⟩) j cp) j (vals ((mkRow xss.length (twF xss) m).take j))) (fun _ iv _ => xss.length - (intOf iv).toNat)
          case atStart => exact ⟨0, wq.heap.size, 0, by omega, rfl, rfl, HW1.out.1, HW1.out.2⟩
          case round =>
            obtain ⟨j, g, cp, hj', rfl, rfl, hbx, ho⟩ := hrel
            by_cases hlj : j < xss.length
            · have hB2 := step_below HB.out hbx
              have hji : (j : Int) < (xss.length : Int) := by omega
              have hj0 : (0 : Int) ≤ (j : Int) := by omega
              have htk := mkRow_take xss.length (twF xss) m hlj
              have hm64 : j + 1 ≤ maxLen := by unfold maxLen; omega
              have hm8 : (j + 1) * 8 ≤ 140737488355328 := by omega
              have hbs := hbx.size
              obtain ⟨b, off, u, rfl, hcell0, hu⟩ := HC.out m hlt
              have hlen := HSQ.out m hlt
              obtain ⟨A2, cap2, rfl, hm2, hc2⟩ := hu
              obtain ⟨b2, o2, rfl, hcell20⟩ := hc2 j (by omega)
              have hcell := (hB2.cell (p := ⟨b, off + m, none⟩) (World.block_lt_of_cell? w3 _ hcell0)).trans hcell0
              have hcell2 := (hB2.cell (p := ⟨b2, o2 + j, none⟩) (World.block_lt_of_cell? w3 _ hcell20)).trans hcell20
              have hfl := flat_at xss hlt (show j < xss[m].length by omega) (by omega)
              obtain ⟨x, hx⟩ : ∃ x, xss[m][j]'(by omega) = x := ⟨_, rfl⟩
              rw [hx] at hcell2 hfl
              rw [hlen] at hcell
              have hxb : -30 ≤ x ∧ x ≤ 30 := by rw [← hfl]; exact flat_small HTIN.out _
              obtain ⟨y, hy⟩ : ∃ y, 2 * x = y := ⟨_, rfl⟩
              have wy : wrap64 y = y := by unfold wrap64; omega
              have wy2 : IntKind.i64.wrap y = y := by rw [IntKind.wrap_i64]; omega
              have HY := Lib.hid hy
              clear hxb
              have hbase : wq.heap.size ≤ (wr.alloc (.cells #[.int .i64 y] 3)).heap.size := by simp; omega
              have HT0 := Lib.hid (And.intro htk (And.intro hbx (And.intro ho hfl)))
              clear hc2 hcell0 hcell20 hlen hx hfl htk hm2 hB2 hbx
              go_wp2_with (at_builtin; refine wpList_append_lies _ rfl (.tmp 63) (.tmp 72) 27 rfl wq.heap.size 3 j0 (.int .i64 0) 1 8 Tryd.underlying27 hj hy0 hy1 hy2 rfl (by decide) _ _ _ rfl (ho.alloc _) ⟨wr.heap.size, 0, none⟩ 1 1 [.int .i64 y] rfl rfl (cell_one_new _ _ _) (by simp [Value.oneCell']) (by decide) hm64 hm8 hbase _ rfl ?_; intro g' cap' w5 hown2 hgrow2 hor2 hlt2)
              obtain ⟨htk, hbx, ho', hfl⟩ := HT0.out
              have hv : vals ((mkRow xss.length (twF xss) m).take j) ++ [Value.int .i64 y] = vals ((mkRow xss.length (twF xss) m).take (j + 1)) := by rw [htk]; simp [vals, twF, hfl, HY.out]
              rw [hv] at hown2
              have hb3 : Below wq.heap.size wq w5 := (hbx.alloc hbs _).grown hgrow2 (by simp; omega) (fun j hj => (ho'.lt j hj).1)
              have HX := Lib.hid (And.intro hb3 hown2)
              clear hv hown2 hb3 hgrow2 hor2 hlt2 htk hbx ho' ho hfl
              go_wp2
              go_roundw
              case rel => exact ⟨j + 1, g', cap', by omega, by go_num, rfl, HX.out⟩
              case measure => simp [intOf]; omega
            · obtain rfl : j = xss.length := by omega
              have e : (mkRow xss.length (twF xss) m).take xss.length = mkRow xss.length (twF xss) m := List.take_of_length_le (by rw [mkRow_len]; exact Nat.le_refl _)
              rw [e] at ho
              have hin : Owns wr wq.heap.size (.slice (some ⟨g, 0, none⟩) xss.length cp) (mkRow xss.length (twF xss) m) := by unfold Owns; rw [mkRow_len]; exact ho
              have hro := HRS.out.outer.1
              have hrl := HRS.out.len
              rw [← hrl] at hro
              have hul : us.length ≤ 6 := by rw [hrl, List.length_take]; omega
              have hbs := HB.out.size
              have hbxs := hbx.size
              have HIN := Lib.hid (And.intro hbx hin)
              clear ho hin e hrl
              go_wp2_with (at_builtin; refine wpList_append_own _ rfl _ _ 23 rfl w3.heap.size 27 i0 (.slice none 0 0) 1 24 Tryd.underlying23 hi hz0 hz1 hz2 rfl (by decide) _ _ _ rfl ((owns_below hro HIN.out.1).alloc _) ⟨wr.heap.size, 0, none⟩ 1 1 [.slice (some ⟨g, 0, none⟩) xss.length cp] rfl rfl (cell_one_new _ _ _) ?q2 ?q3 ?q4 ?q5 ?_; rotate_right; intro v6 w6 hown3 hgrow3 hnil3)
              case q2 => intro z hz; rw [List.mem_singleton.1 hz]; rfl
              case q3 => unfold maxLen; omega
              case q4 => omega
              case q5 => simp; omega
              have hb4 : Below wq.heap.size wq (wr.alloc (.cells #[.slice (some ⟨g, 0, none⟩) xss.length cp] 27)) := HIN.out.1.alloc hbxs _
              have hps := HRS.out.push hbs hb4 (HIN.out.2.alloc _) hown3 hgrow3
              have hb5 : Below w3.heap.size w3 w6 := (step_below HB.out hb4).grown hgrow3 (Nat.le_trans hbs hb4.size) (fun k hk => (HRS.out.outer.1.lt k hk).1)
              have HX := Lib.hid (And.intro hb5 hps)
              clear hb5 hps hb4 hown3 hgrow3 hnil3 hro hbx
              go_wp2
              go_roundw
              case rel =>
                refine ⟨m + 1, us ++ [.slice (some ⟨g, 0, none⟩) xss.length cp], by omega, by go_num, HX.out.1, ?_⟩
                rw [mkRows_take xss.length (twF xss) hlt]
                exact HX.out.2
              case measure => simp [intOf]; omega
        · obtain rfl : m = xss.length := by omega
          have e : (mkRows xss.length (twF xss)).take xss.length = mkRows xss.length (twF xss) := List.take_of_length_le (by rw [mkRows_len]; exact Nat.le_refl _)
          rw [e] at hrs
          have HR2 := Lib.hid hrs
          clear hrs hb e HRS
          have hbd := haf_bound xss
          rw [HTT.out.2] at hbd
          have htw : evenOf (mkRows xss.length (twF xss)) = true → hafOf (mkRows xss.length (twF xss)) = ((2 ^ (xss.length / 2) : Nat) : Int) * z := fun h => by rw [haf_twice HTT.out.1 h, HTT.out.2]
          obtain ⟨ms, hms⟩ : ∃ ms, mkRows xss.length (twF xss) = ms := ⟨_, rfl⟩
          obtain ⟨h, P, y, hh, hP, hyy, q1, q2, q3, q4, wp1, wp2, wy1, wy2⟩ := twice_facts h6 hbd
          rw [hh, hP, hyy, hms] at htw
          rw [hms] at HR2
          have HBX := Lib.hid (step_below HB3.out HB.out)
          have HI2 := Lib.hid (HI.out wq _ ms (rows_of_owns HR2.out) (HT.out.later HBX.out))
          have h64 : (h : Int) < 64 := by omega
          have h0 : (0 : Int) ≤ (h : Int) := by omega
          have HTW := Lib.hid htw
          clear htw hbd hms hyy hP hh HTT
          cases hev : evenOf ms with
          | false =>
            rw [hev] at HI2
            clear hev HTW
            go_wp2_with fail
            refine HI2.out.mono ?_
            rintro e w4 ⟨rfl, hb4⟩
            have HF := Lib.hid (step_below HBX.out hb4)
            clear hb4
            go_wp2
            go_ret
            exact ⟨rfl, HF.out⟩
          | true =>
            rw [hev, HTW.out hev] at HI2
            clear hev HTW
            go_wp2_with fail
            refine HI2.out.mono ?_
            rintro e w4 ⟨rfl, hb4⟩
            have HF := Lib.hid (step_below HBX.out hb4)
            clear hb4
            go_wp2
            go_ret
            exact ⟨rfl, HF.out⟩
  · have e1 : ((1048576 : Int) < (L : Int)) = True := by simp; omega
    go_enter Tryd.func6, Tryd.ntmps6
    go_wp2
    go_ret
    exact ⟨rfl, Below.refl _ _⟩

end Go.Proofs.YtfcbhcjgjbcjdacDoor
