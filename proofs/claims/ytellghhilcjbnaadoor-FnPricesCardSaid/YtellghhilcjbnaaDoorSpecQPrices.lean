/-
  spec.CostPrices: steps are put ahead of ways until all are found.
-/
import Derived.Test.YtellghhilcjbnaaDoorRelaxMath
import Derived.Deep.AppendLies
import Derived.Test.YtellghhilcjbnaaDoorDrawQ
import Derived.Deep.RegionHeld
namespace Go.Proofs.YtellghhilcjbnaaDoor
set_option linter.unusedVariables false
set_option linter.unusedSimpArgs false
open Go.RowKit

/-- The prices' block, made behind W0. -/
def DF (W0 : World) (n : Nat) (f : List Int) (wr : World) : Prop := Below W0.heap.size W0 wr ∧ wr.ownsRow W0.heap.size 3 1 (.slice (some ⟨W0.heap.size, 0, none⟩) n n) n (vals f)
theorem DF.drew {W0 wr : World} {n : Nat} {f : List Int} (h : DF W0 n f wr) : DF W0 n f wr.drew := ⟨h.1.trans (Below.refl _ wr).drew, h.2⟩
theorem DF.put {W0 wr : World} {n : Nat} {f : List Int} (h : DF W0 n f wr) (j : Nat) (x : Int) : DF W0 n (f.set j x) (wr.setCell ⟨W0.heap.size, j, none⟩ (.int .i64 x)) := by
  refine ⟨h.1.setCell (p := ⟨W0.heap.size, j, none⟩) (Nat.le_refl _) _, ?_⟩
  have := (h.2.stored j (.int .i64 x)).1
  rwa [show (vals f).set j (.int .i64 x) = vals (f.set j x) by simp [vals, List.map_set]] at this
theorem DF.load {W0 wr : World} {n : Nat} {f : List Int} (h : DF W0 n f wr) {j : Nat} (hj : j < n) (hl : f.length = n) : wr.cell? ⟨W0.heap.size, j, none⟩ = some (.int .i64 (f.getD j 0)) ∧ wr.frozen? ⟨W0.heap.size, j, none⟩ = false := by
  refine ⟨?_, h.2.frozenAt j⟩
  rw [h.2.cellAt j (by omega)]
  have : j < f.length := by omega
  simp [vals, List.getD, this]
theorem far_cell {W0 wr : World} {a : Addr} {v : Value} (hb : Below W0.heap.size W0 wr) (h : W0.cell? a = some v) : wr.drew.cell? a = some v := (hb.cell (World.block_lt_of_cell? _ _ h)).trans h
theorem far_store {w : World} {G j : Nat} {a : Addr} {v x : Value} (h : w.cell? a = some v) (hne : a.block ≠ G) : (w.setCell ⟨G, j, none⟩ x).cell? a = some v := (World.cell?_of_block (a := a) (Below.heap_setCell _ _ _ _ hne)).trans h

theorem far_alloc {w : World} {o : Obj} {a : Addr} {v : Value} (h : w.cell? a = some v) : (w.alloc o).cell? a = some v := (((Below.refl w.heap.size w).alloc (Nat.le_refl _) o).cell (World.block_lt_of_cell? _ _ h)).trans h
theorem far_grown {w w' : World} {g : Nat} {a : Addr} {v : Value} (hg : w.grownBy w' (some g)) (h : w.cell? a = some v) (hne : a.block ≠ g) : w'.cell? a = some v :=
  (World.cell?_of_block (a := a) (hg.block _ (World.block_lt_of_cell? _ _ h) (fun e => hne (Option.some.inj e)))).trans h
theorem own_same {w w' : World} {base n size : Nat} {e : TypeId} {v : Value} {xs : List Value} (h : w.ownsRow base e size v n xs) (hb : ∀ g, v.ownBlock = some g → w'.heap[g]? = w.heap[g]?) : w'.ownsRow base e size v n xs := by
  refine ⟨h.1, ?_⟩
  rcases h.2 with h' | ⟨g, cap, cur, hv, hbg, hg, rest⟩
  · exact .inl h'
  · exact .inr ⟨g, cap, cur, hv, hbg, (hb g (by rw [hv]; rfl)).trans hg, rest⟩
theorem own_mono' {w : World} {base base' n size : Nat} {e : TypeId} {v : Value} {xs : List Value} (h : w.ownsRow base e size v n xs) (hb : base' ≤ base) : w.ownsRow base' e size v n xs := by
  refine ⟨h.1, ?_⟩
  rcases h.2 with h' | ⟨g, cap, cur, hv, hbg, hg, rest⟩
  · exact .inl h'
  · exact .inr ⟨g, cap, cur, hv, Nat.le_trans hb hbg, hg, rest⟩

set_option maxRecDepth 100000 in
set_option maxHeartbeats 4000000 in
theorem specQPrices_yes (w : World) (v : Value) (xss : List (List Int)) (hv : IntRows w v xss) (hci : cIn xss = true) :
    Calls Tryd.prog 8 #[v] w (GivesInts w true (pqOf xss)) := by
  have HSI := Lib.hid (specCostIn_any w v xss hv)
  have HV := Lib.hid hv
  have HL := Lib.hid (fun q => l8Least_any (w.drewN q) _ xss (HV.out.drewN q) hci)
  obtain ⟨A, cap, rfl, hm, -⟩ := hv.at
  unfold maxLen at hm
  rw [hci] at HSI
  obtain ⟨h1, h6⟩ := cIn_size hci
  have hch := choice_of hci (leastI_rank (cost8 xss) h1 h6)
  have elq : lqOf xss = leastI (cost8 xss) xss.length := if_pos hci
  rw [← elq] at hch HL
  obtain ⟨ps, hps⟩ : ∃ ps, lqOf xss = ps := ⟨_, rfl⟩
  have hpq : pqOf xss = rowP xss ps (relK xss ps xss.length) xss.length ++ relK xss ps xss.length := by unfold pqOf; rw [if_pos hci, hps]
  rw [hps] at hch HL
  have HCH := Lib.hid hch
  have HPQ := Lib.hid hpq
  have HCI := Lib.hid hci
  have hmk := fun W => run_make_row' (P := Tryd.prog) 24 3 (.int .i64 0) 8 Tryd.underlying24 infoInt rfl .i64 .i64 xss.length (by omega) (by omega) W
  clear hv hci hch hpq hps elq
  go_enter Tryd.func8, Tryd.ntmps8
  go_wp2_with fail
  refine HSI.out.mono ?_
  rintro e w1 ⟨rfl, q1, rfl⟩
  go_wp2_with fail
  refine (HL.out q1).mono ?_
  rintro e W0 ⟨u, rfl, hb2, ho2⟩
  have HB0 := Lib.hid (step_below (below_drewN (Below.refl _ _) q1) hb2)
  have HR0 := Lib.hid ((HV.out.below HB0.out).at)
  have HI0 := Lib.hid (ints_of_owns ho2)
  clear hb2 ho2
  obtain ⟨A1, cap1, hA1, -, hc⟩ := HR0.out
  obtain ⟨A2, cap2, rfl, hm2, hc2⟩ := HI0.out
  simp only [Value.slice.injEq] at hA1
  obtain ⟨rfl, -, rfl⟩ := hA1
  have HC := Lib.hid hc
  have HC2 := Lib.hid hc2
  have HD0 : Hid (DF W0 xss.length (relK xss ps 0) (W0.alloc (.cells (madeCells #[Value.int .i64 0] xss.length) 3))) := Lib.hid (by
    refine ⟨(Below.refl _ _).alloc (Nat.le_refl _) _, ?_⟩
    have := World.ownsRow_lit (base := W0.heap.size) (e := 3) (size := 1) W0 (madeCells #[Value.int .i64 0] xss.length) xss.length (Nat.le_refl _) (by unfold maxLen; omega) (by simp [madeCells])
    rw [toList_madeCells_one] at this
    simpa [relK, vals] using this)
  unfold maxLen at hm2
  clear hc hc2
  have hfo : Tryd.prog.follows Departure.mixedOrders = true := by kernel_rfl
  go_wp2
  clear hmk
  go_loopw [7, 8, 9] (fun kv _ _ wr => ∃ k : Nat, k ≤ xss.length ∧ kv = .int .i64 (k : Int) ∧ DF W0 xss.length (relK xss ps k) wr) (fun kv _ _ _ => xss.length - (intOf kv).toNat)
  case atStart => exact ⟨0, Nat.zero_le _, rfl, HD0.out⟩
  case round =>
    obtain ⟨k, hk, rfl, hd⟩ := hrel
    by_cases hkl : k < xss.length
    · have hki : (k : Int) < (xss.length : Int) := by omega
      obtain ⟨wk, hwk⟩ : ∃ wk, wk = wr := ⟨_, rfl⟩
      subst hwk
      obtain ⟨f0, hf0⟩ : ∃ f0, relK xss ps k = f0 := ⟨_, rfl⟩
      have hfl0 : f0.length = xss.length := by rw [← hf0]; exact relK_len xss ps k
      have hbd0 : Bnd f0 (36 * k) := by rw [← hf0]; exact relK_bnd HCI.out h6 ps k
      rw [hf0] at hd
      have HK := Lib.hid (And.intro hf0 (And.intro hfl0 hbd0))
      have HDI : Hid (DF W0 xss.length (relI xss ps f0 0) wk) := Lib.hid hd
      clear hd hf0 hfl0 hbd0
      go_wp2
      clear hki
      go_loopw [8, 9] (fun iv _ wr => ∃ i : Nat, i ≤ xss.length ∧ iv = .int .i64 (i : Int) ∧ DF W0 xss.length (relI xss ps f0 i) wr) (fun iv _ _ => xss.length - (intOf iv).toNat)
      case atStart => exact ⟨0, Nat.zero_le _, rfl, HDI.out⟩
      case round =>
        obtain ⟨i, hi, rfl, hd⟩ := hrel
        by_cases hil : i < xss.length
        · have hii : (i : Int) < (xss.length : Int) := by omega
          obtain ⟨wi, hwi⟩ : ∃ wi, wi = wr := ⟨_, rfl⟩
          subst hwi
          obtain ⟨f1, hf1⟩ : ∃ f1, relI xss ps f0 i = f1 := ⟨_, rfl⟩
          have hfl1 : f1.length = xss.length := by rw [← hf1, relI_len]; exact HK.out.2.1
          have hbd1 : Bnd f1 (36 * k + 6 * i) := by rw [← hf1]; exact relI_bnd HCI.out h6 ps HK.out.2.2 i
          rw [hf1] at hd
          have HKI := Lib.hid (And.intro hf1 (And.intro hfl1 hbd1))
          have HDJ : Hid (DF W0 xss.length (relJ xss ps i f1 0) wi) := Lib.hid hd
          clear hd hf1 hfl1 hbd1
          obtain ⟨m, hk2, hmm, hpm, hmn, -, -, -⟩ := HCH.out.at (show i < ps.length by rw [HCH.out.len]; exact hil)
          obtain ⟨b2, off2, rfl, hcell2⟩ := HC2.out i (by rw [HCH.out.len]; exact hil)
          obtain ⟨b, off, u, rfl, hcell, hints⟩ := HC.out i hk2
          obtain ⟨A3, cap3, rfl, hm3, hc3⟩ := hints
          obtain ⟨b3, off3, rfl, hcell3⟩ := hc3 m hmm
          rw [hpm] at hcell2
          have hrl : xss[i].length = xss.length := (HCH.out.row i hk2).1
          have how : ownC ps i = m := by
            have : i < ps.length := by rw [HCH.out.len]; exact hil
            unfold ownC
            rw [show ps.getD i 0 = ps[i] by simp [List.getD, this], hpm, Int.toNat_natCast]
          have HC3 := Lib.hid hc3
          have HROW := Lib.hid (And.intro hrl (And.intro how (And.intro hcell (And.intro hcell2 hcell3))))
          unfold maxLen at hm3
          clear hc3 hcell hcell2 hcell3 hrl how hpm
          go_wp2
          clear hii
          go_loopw [9] (fun jv wr => ∃ j : Nat, j ≤ xss.length ∧ jv = .int .i64 (j : Int) ∧ DF W0 xss.length (relJ xss ps i f1 j) wr) (fun jv _ => xss.length - (intOf jv).toNat)
          case atStart => exact ⟨0, Nat.zero_le _, rfl, HDJ.out⟩
          case round =>
            obtain ⟨j, hj, rfl, hd⟩ := hrel
            by_cases hjl : j < xss.length
            · obtain ⟨hrl, how, hcell, hcell2, hcell3⟩ := HROW.out
              have hjm : j < xss[i].length := by omega
              obtain ⟨b4, off4, hA4, hcell4⟩ := HC3.out j hjm
              obtain ⟨rfl, rfl⟩ : _ ∧ _ := by simpa using hA4
              obtain ⟨f2, hf2⟩ : ∃ f2, relJ xss ps i f1 j = f2 := ⟨_, rfl⟩
              have hfl2 : f2.length = xss.length := by rw [← hf2, relJ_len]; exact HKI.out.2.1
              have hbd2 : Bnd f2 (36 * k + 6 * i + j) := by rw [← hf2]; exact relJ_bnd HCI.out ps i HKI.out.2.2 j
              rw [hf2] at hd
              have hnext : relJ xss ps i f1 (j + 1) = f2.set j (min (f2.getD j 0) (f2.getD m 0 + colC xss i j - colC xss i m)) := by
                show rel1 xss ps i (relJ xss ps i f1 j) j = _
                rw [hf2]
                unfold rel1
                rw [how]
              have ez : xss[i][m] = colC xss i m := by unfold colC; rw [show xss.getD i [] = xss[i] by simp [List.getD, hil]]; simp [List.getD, hmm]
              have ey : xss[i][j] = colC xss i j := by unfold colC; rw [show xss.getD i [] = xss[i] by simp [List.getD, hil]]; simp [List.getD, hjm]
              have hzb := colC_bound HCI.out i m
              have hyb := colC_bound HCI.out i j
              rw [ez] at hcell3
              rw [ey] at hcell4
              obtain ⟨z, hz⟩ : ∃ z, colC xss i m = z := ⟨_, rfl⟩
              obtain ⟨y, hy⟩ : ∃ y, colC xss i j = y := ⟨_, rfl⟩
              rw [hz] at hcell3 hzb hnext
              rw [hy] at hcell4 hyb hnext
              have hdd := hd.drew
              obtain ⟨g1, gf⟩ := hdd.load hjl hfl2
              obtain ⟨g2, -⟩ := hdd.load hmn hfl2
              have hb1 := hbd2.at j
              have hb2 := hbd2.at m
              obtain ⟨fj, hfj⟩ : ∃ fj, f2.getD j 0 = fj := ⟨_, rfl⟩
              obtain ⟨fm, hfm⟩ : ∃ fm, f2.getD m 0 = fm := ⟨_, rfl⟩
              rw [hfj] at g1 hb1 hnext
              rw [hfm] at g2 hb2 hnext
              obtain ⟨a, ha⟩ : ∃ a, fm + y = a := ⟨_, rfl⟩
              rw [ha] at hnext
              obtain ⟨d, hd'⟩ : ∃ d, a - z = d := ⟨_, rfl⟩
              rw [hd'] at hnext
              obtain ⟨nw, hnw⟩ : ∃ nw, min fj d = nw := ⟨_, rfl⟩
              rw [hnw] at hnext
              have hab : -1000000 ≤ a ∧ a ≤ 1000000 := by omega
              have hdb : -1000000 ≤ d ∧ d ≤ 1000000 := by omega
              have hmm' : (if d < fj then d else fj) = nw := by rw [← hnw]; omega
              have s1 := far_cell hd.1 hcell2
              have s2 := far_cell hd.1 hcell
              have s3 := far_cell hd.1 hcell3
              have s4 := far_cell hd.1 hcell4
              have n1 := World.block_lt_of_cell? _ _ hcell2
              have n2 := World.block_lt_of_cell? _ _ hcell
              have n3 := World.block_lt_of_cell? _ _ hcell3
              have n4 := World.block_lt_of_cell? _ _ hcell4
              have HSS := Lib.hid (show _ ∧ _ ∧ _ ∧ _ from ⟨far_store (G := W0.heap.size) (j := j) (x := .int .i64 nw) s1 (Nat.ne_of_lt n1), far_store (G := W0.heap.size) (j := j) (x := .int .i64 nw) s2 (Nat.ne_of_lt n2), far_store (G := W0.heap.size) (j := j) (x := .int .i64 nw) s3 (Nat.ne_of_lt n3), far_store (G := W0.heap.size) (j := j) (x := .int .i64 nw) s4 (Nat.ne_of_lt n4)⟩)
              have HD2 := Lib.hid (show DF W0 xss.length (relJ xss ps i f1 (j + 1)) (wr.drew.setCell ⟨W0.heap.size, j, none⟩ (.int .i64 nw)) from by rw [hnext]; exact hdd.put j nw)
              have w1 : wrap64 a = a := by unfold wrap64; omega
              have w2 : IntKind.i64.wrap a = a := by rw [IntKind.wrap_i64]; omega
              have w3 : wrap64 d = d := by unfold wrap64; omega
              have w4 : IntKind.i64.wrap d = d := by rw [IntKind.wrap_i64]; omega
              have hji : (j : Int) < (xss.length : Int) := by omega
              have hj0 : (0 : Int) ≤ (j : Int) := by omega
              have hjr : (j : Int) < (xss[i].length : Int) := by omega
              have hmi : (m : Int) < (xss.length : Int) := by omega
              have hm0 : (0 : Int) ≤ (m : Int) := by omega
              have hmr : (m : Int) < (xss[i].length : Int) := by omega
              have hii : (i : Int) < (xss.length : Int) := by omega
              have hi0 : (0 : Int) ≤ (i : Int) := by omega
              have hip : (i : Int) < (ps.length : Int) := by have := HCH.out.len; omega
              clear hd hdd hf2 hfl2 hbd2 hnext ez ey hzb hyb hz hy hb1 hb2 hfj hfm hnw hab hdb n1 n2 n3 n4 hcell hcell2 hcell3 hcell4 hA4 hrl how hjm
              go_wp2
              refine wp_region_held_drew (S := fun w' => w'.cell? ⟨b2, off2 + i, none⟩ = some (.int .i64 (m : Int)) ∧ w'.cell? ⟨b, off + i, none⟩ = some (.slice (some ⟨b3, off3, none⟩) xss[i].length cap3) ∧ w'.cell? ⟨b3, off3 + m, none⟩ = some (.int .i64 z) ∧ w'.cell? ⟨b3, off3 + j, none⟩ = some (.int .i64 y)) hfo ⟨s1, s2, s3, s4⟩ (fun hHeld => ?_)
              refine wpAnyH_take (i := 0) (v := ?v0) rfl (by kernel_rfl) (by kernel_rfl) (by kernel_rfl) (fun _ _ _ h => h) (Or.inl ⟨by rfl, ?hy0⟩) (by assumption) ?_
              case hy0 =>
                intro w' hSw
                try dsimp only at hSw
                obtain ⟨p1, p2, p3, p4⟩ := hSw
                go_simp
                try with_reducible rfl
              try simp only [Act.put, List.getElem_toArray, List.getElem_cons_succ, List.getElem_cons_zero, List.setIfInBounds_toArray, List.set_cons_zero, List.set_cons_succ]
              refine wpAnyH_take (i := 1) (v := ?v1) rfl (by kernel_rfl) (by kernel_rfl) (by kernel_rfl) (fun _ _ _ h => h) (Or.inl ⟨by rfl, ?hy1⟩) (by assumption) ?_
              case hy1 =>
                intro w' hSw
                try dsimp only at hSw
                obtain ⟨p1, p2, p3, p4⟩ := hSw
                go_simp
                try with_reducible rfl
              try simp only [Act.put, List.getElem_toArray, List.getElem_cons_succ, List.getElem_cons_zero, List.setIfInBounds_toArray, List.set_cons_zero, List.set_cons_succ]
              refine wpAnyH_take (i := 2) (v := ?v2) rfl (by kernel_rfl) (by kernel_rfl) (by kernel_rfl) (fun _ _ _ h => h) (Or.inl ⟨by rfl, ?hy2⟩) (by assumption) ?_
              case hy2 =>
                intro w' hSw
                try dsimp only at hSw
                obtain ⟨p1, p2, p3, p4⟩ := hSw
                go_simp
                try with_reducible rfl
              try simp only [Act.put, List.getElem_toArray, List.getElem_cons_succ, List.getElem_cons_zero, List.setIfInBounds_toArray, List.set_cons_zero, List.set_cons_succ]
              refine wpAnyH_take (i := 3) (v := ?v3) rfl (by kernel_rfl) (by kernel_rfl) (by kernel_rfl) (fun _ _ _ h => h) (Or.inl ⟨by rfl, ?hy3⟩) (by assumption) ?_
              case hy3 =>
                intro w' hSw
                try dsimp only at hSw
                obtain ⟨p1, p2, p3, p4⟩ := hSw
                go_simp
                try with_reducible rfl
              try simp only [Act.put, List.getElem_toArray, List.getElem_cons_succ, List.getElem_cons_zero, List.setIfInBounds_toArray, List.set_cons_zero, List.set_cons_succ]
              refine wpAnyH_take (i := 4) (v := ?v4) rfl (by kernel_rfl) (by kernel_rfl) (by kernel_rfl) (fun _ _ _ h => h) (Or.inl ⟨by rfl, ?hy4⟩) (by assumption) ?_
              case hy4 =>
                intro w' hSw
                try dsimp only at hSw
                obtain ⟨p1, p2, p3, p4⟩ := hSw
                go_simp
                try with_reducible rfl
              try simp only [Act.put, List.getElem_toArray, List.getElem_cons_succ, List.getElem_cons_zero, List.setIfInBounds_toArray, List.set_cons_zero, List.set_cons_succ]
              refine wpAnyH_take (i := 6) (v := ?v6) rfl (by kernel_rfl) (by kernel_rfl) (by kernel_rfl) (fun _ _ _ h => h) (Or.inl ⟨by rfl, ?hy6⟩) (by assumption) ?_
              case hy6 =>
                intro w' hSw
                try dsimp only at hSw
                obtain ⟨p1, p2, p3, p4⟩ := hSw
                go_simp
                try with_reducible rfl
              try simp only [Act.put, List.getElem_toArray, List.getElem_cons_succ, List.getElem_cons_zero, List.setIfInBounds_toArray, List.set_cons_zero, List.set_cons_succ]
              refine wpAnyH_take (i := 7) (v := ?v7) rfl (by kernel_rfl) (by kernel_rfl) (by kernel_rfl) (fun _ _ _ h => h) (Or.inl ⟨by rfl, ?hy7⟩) (by assumption) ?_
              case hy7 =>
                intro w' hSw
                try dsimp only at hSw
                obtain ⟨p1, p2, p3, p4⟩ := hSw
                go_simp
                try with_reducible rfl
              try simp only [Act.put, List.getElem_toArray, List.getElem_cons_succ, List.getElem_cons_zero, List.setIfInBounds_toArray, List.set_cons_zero, List.set_cons_succ]
              refine wpAnyH_take (i := 8) (v := ?v8) rfl (by kernel_rfl) (by kernel_rfl) (by kernel_rfl) (fun _ _ _ h => h) (Or.inl ⟨by rfl, ?hy8⟩) (by assumption) ?_
              case hy8 =>
                intro w' hSw
                try dsimp only at hSw
                obtain ⟨p1, p2, p3, p4⟩ := hSw
                go_simp
                try with_reducible rfl
              try simp only [Act.put, List.getElem_toArray, List.getElem_cons_succ, List.getElem_cons_zero, List.setIfInBounds_toArray, List.set_cons_zero, List.set_cons_succ]
              refine wpAnyH_take (i := 9) (v := ?v9) rfl (by kernel_rfl) (by kernel_rfl) (by kernel_rfl) (fun _ _ _ h => h) (Or.inl ⟨by rfl, ?hy9⟩) (by assumption) ?_
              case hy9 =>
                intro w' hSw
                try dsimp only at hSw
                obtain ⟨p1, p2, p3, p4⟩ := hSw
                go_simp
                try with_reducible rfl
              try simp only [Act.put, List.getElem_toArray, List.getElem_cons_succ, List.getElem_cons_zero, List.setIfInBounds_toArray, List.set_cons_zero, List.set_cons_succ]
              refine wpAnyH_take (i := 10) (v := ?v10) rfl (by kernel_rfl) (by kernel_rfl) (by kernel_rfl) (fun _ _ _ h => h) (Or.inl ⟨by rfl, ?hy10⟩) (by assumption) ?_
              case hy10 =>
                intro w' hSw
                try dsimp only at hSw
                obtain ⟨p1, p2, p3, p4⟩ := hSw
                go_simp
                try with_reducible rfl
              try simp only [Act.put, List.getElem_toArray, List.getElem_cons_succ, List.getElem_cons_zero, List.setIfInBounds_toArray, List.set_cons_zero, List.set_cons_succ]
              refine wpAnyH_take (i := 11) (v := ?v11) rfl (by kernel_rfl) (by kernel_rfl) (by kernel_rfl) (fun _ _ _ h => h) (Or.inl ⟨by rfl, ?hy11⟩) (by assumption) ?_
              case hy11 =>
                intro w' hSw
                try dsimp only at hSw
                obtain ⟨p1, p2, p3, p4⟩ := hSw
                go_simp
                try with_reducible rfl
              try simp only [Act.put, List.getElem_toArray, List.getElem_cons_succ, List.getElem_cons_zero, List.setIfInBounds_toArray, List.set_cons_zero, List.set_cons_succ]
              refine wpAnyH_take (i := 13) (v := ?v13) rfl (by kernel_rfl) (by kernel_rfl) (by kernel_rfl) (fun _ _ _ h => h) (Or.inl ⟨by rfl, ?hy13⟩) (by assumption) ?_
              case hy13 =>
                intro w' hSw
                try dsimp only at hSw
                obtain ⟨p1, p2, p3, p4⟩ := hSw
                go_simp
                try with_reducible rfl
              try simp only [Act.put, List.getElem_toArray, List.getElem_cons_succ, List.getElem_cons_zero, List.setIfInBounds_toArray, List.set_cons_zero, List.set_cons_succ]
              refine wpAnyH_take (i := 14) (v := ?v14) rfl (by kernel_rfl) (by kernel_rfl) (by kernel_rfl) (fun _ _ _ h => h) (Or.inl ⟨by rfl, ?hy14⟩) (by assumption) ?_
              case hy14 =>
                intro w' hSw
                try dsimp only at hSw
                obtain ⟨p1, p2, p3, p4⟩ := hSw
                go_simp
                try with_reducible rfl
              try simp only [Act.put, List.getElem_toArray, List.getElem_cons_succ, List.getElem_cons_zero, List.setIfInBounds_toArray, List.set_cons_zero, List.set_cons_succ]
              refine wpAnyH_take (i := 15) (v := ?v15) rfl (by kernel_rfl) (by kernel_rfl) (by kernel_rfl) (fun _ _ _ h => h) (Or.inl ⟨by rfl, ?hy15⟩) (by assumption) ?_
              case hy15 =>
                intro w' hSw
                try dsimp only at hSw
                obtain ⟨p1, p2, p3, p4⟩ := hSw
                go_simp
                try with_reducible rfl
              try simp only [Act.put, List.getElem_toArray, List.getElem_cons_succ, List.getElem_cons_zero, List.setIfInBounds_toArray, List.set_cons_zero, List.set_cons_succ]
              refine wpAnyH_take (i := 16) (v := ?v16) rfl (by kernel_rfl) (by kernel_rfl) (by kernel_rfl) (fun _ _ _ h => h) (Or.inl ⟨by rfl, ?hy16⟩) (by assumption) ?_
              case hy16 =>
                intro w' hSw
                try dsimp only at hSw
                obtain ⟨p1, p2, p3, p4⟩ := hSw
                go_simp
                try with_reducible rfl
              try simp only [Act.put, List.getElem_toArray, List.getElem_cons_succ, List.getElem_cons_zero, List.setIfInBounds_toArray, List.set_cons_zero, List.set_cons_succ]
              refine wpAnyH_take (i := 17) (v := ?v17) rfl (by kernel_rfl) (by kernel_rfl) (by kernel_rfl) (fun _ _ _ h => h) (Or.inl ⟨by rfl, ?hy17⟩) (by assumption) ?_
              case hy17 =>
                intro w' hSw
                try dsimp only at hSw
                obtain ⟨p1, p2, p3, p4⟩ := hSw
                go_simp
                try with_reducible rfl
              try simp only [Act.put, List.getElem_toArray, List.getElem_cons_succ, List.getElem_cons_zero, List.setIfInBounds_toArray, List.set_cons_zero, List.set_cons_succ]
              refine wpAnyH_take (i := 18) (v := ?v18) rfl (by kernel_rfl) (by kernel_rfl) (by kernel_rfl) (fun _ _ _ h => h) (Or.inl ⟨by rfl, ?hy18⟩) (by assumption) ?_
              case hy18 =>
                intro w' hSw
                try dsimp only at hSw
                obtain ⟨p1, p2, p3, p4⟩ := hSw
                go_simp
                try with_reducible rfl
              try simp only [Act.put, List.getElem_toArray, List.getElem_cons_succ, List.getElem_cons_zero, List.setIfInBounds_toArray, List.set_cons_zero, List.set_cons_succ]
              refine wpAnyH_take (i := 19) (v := ?v19) rfl (by kernel_rfl) (by kernel_rfl) (by kernel_rfl) (fun _ _ _ h => h) (Or.inl ⟨by rfl, ?hy19⟩) (by assumption) ?_
              case hy19 =>
                intro w' hSw
                try dsimp only at hSw
                obtain ⟨p1, p2, p3, p4⟩ := hSw
                go_simp
                try with_reducible rfl
              try simp only [Act.put, List.getElem_toArray, List.getElem_cons_succ, List.getElem_cons_zero, List.setIfInBounds_toArray, List.set_cons_zero, List.set_cons_succ]
              refine wpAnyH_take (i := 21) (v := ?v21) rfl (by kernel_rfl) (by kernel_rfl) (by kernel_rfl) (fun _ _ _ h => h) (Or.inl ⟨by rfl, ?hy21⟩) (by assumption) ?_
              case hy21 =>
                intro w' hSw
                try dsimp only at hSw
                obtain ⟨p1, p2, p3, p4⟩ := hSw
                go_simp
                try with_reducible rfl
              try simp only [Act.put, List.getElem_toArray, List.getElem_cons_succ, List.getElem_cons_zero, List.setIfInBounds_toArray, List.set_cons_zero, List.set_cons_succ]
              refine wpAnyH_take (i := 22) (v := ?v22) rfl (by kernel_rfl) (by kernel_rfl) (by kernel_rfl) (fun _ _ _ h => h) (Or.inl ⟨by rfl, ?hy22⟩) (by assumption) ?_
              case hy22 =>
                intro w' hSw
                try dsimp only at hSw
                obtain ⟨p1, p2, p3, p4⟩ := hSw
                go_simp
                try with_reducible rfl
              try simp only [Act.put, List.getElem_toArray, List.getElem_cons_succ, List.getElem_cons_zero, List.setIfInBounds_toArray, List.set_cons_zero, List.set_cons_succ]
              refine wpAnyH_take (i := 23) (v := ?v23) rfl (by kernel_rfl) (by kernel_rfl) (by kernel_rfl) (fun _ _ _ h => h) (Or.inl ⟨by rfl, ?hy23⟩) (by assumption) ?_
              case hy23 =>
                intro w' hSw
                try dsimp only at hSw
                obtain ⟨p1, p2, p3, p4⟩ := hSw
                go_simp
                try with_reducible rfl
              try simp only [Act.put, List.getElem_toArray, List.getElem_cons_succ, List.getElem_cons_zero, List.setIfInBounds_toArray, List.set_cons_zero, List.set_cons_succ]
              refine wpAnyH_take (i := 24) (v := ?v24) rfl (by kernel_rfl) (by kernel_rfl) (by kernel_rfl) (fun _ _ _ h => h) (Or.inl ⟨by rfl, ?hy24⟩) (by assumption) ?_
              case hy24 =>
                intro w' hSw
                try dsimp only at hSw
                obtain ⟨p1, p2, p3, p4⟩ := hSw
                go_simp
                try with_reducible rfl
              try simp only [Act.put, List.getElem_toArray, List.getElem_cons_succ, List.getElem_cons_zero, List.setIfInBounds_toArray, List.set_cons_zero, List.set_cons_succ]
              refine wpAnyH_take (i := 25) (v := ?v25) rfl (by kernel_rfl) (by kernel_rfl) (by kernel_rfl) (fun _ _ _ h => h) (Or.inl ⟨by rfl, ?hy25⟩) (by assumption) ?_
              case hy25 =>
                intro w' hSw
                try dsimp only at hSw
                obtain ⟨p1, p2, p3, p4⟩ := hSw
                go_simp
                try with_reducible rfl
              try simp only [Act.put, List.getElem_toArray, List.getElem_cons_succ, List.getElem_cons_zero, List.setIfInBounds_toArray, List.set_cons_zero, List.set_cons_succ]
              refine wpAnyH_take (i := 26) (v := ?v26) rfl (by kernel_rfl) (by kernel_rfl) (by kernel_rfl) (fun _ _ _ h => h) (Or.inl ⟨by rfl, ?hy26⟩) (by assumption) ?_
              case hy26 =>
                intro w' hSw
                try dsimp only at hSw
                obtain ⟨p1, p2, p3, p4⟩ := hSw
                go_simp
                try with_reducible rfl
              try simp only [Act.put, List.getElem_toArray, List.getElem_cons_succ, List.getElem_cons_zero, List.setIfInBounds_toArray, List.set_cons_zero, List.set_cons_succ]
              refine wpAnyH_take (i := 27) (v := ?v27) rfl (by kernel_rfl) (by kernel_rfl) (by kernel_rfl) (fun _ _ _ h => h) (Or.inl ⟨by rfl, ?hy27⟩) (by assumption) ?_
              case hy27 =>
                intro w' hSw
                try dsimp only at hSw
                obtain ⟨p1, p2, p3, p4⟩ := hSw
                go_simp
                try with_reducible rfl
              try simp only [Act.put, List.getElem_toArray, List.getElem_cons_succ, List.getElem_cons_zero, List.setIfInBounds_toArray, List.set_cons_zero, List.set_cons_succ]
              refine wpAnyH_take (i := 28) (v := ?v28) rfl (by kernel_rfl) (by kernel_rfl) (by kernel_rfl) (fun _ _ _ h => h) (Or.inl ⟨by rfl, ?hy28⟩) (by assumption) ?_
              case hy28 =>
                intro w' hSw
                try dsimp only at hSw
                obtain ⟨p1, p2, p3, p4⟩ := hSw
                go_simp
                try with_reducible rfl
              try simp only [Act.put, List.getElem_toArray, List.getElem_cons_succ, List.getElem_cons_zero, List.setIfInBounds_toArray, List.set_cons_zero, List.set_cons_succ]
              refine wpAnyH_take (i := 29) (v := ?v29) rfl (by kernel_rfl) (by kernel_rfl) (by kernel_rfl) (fun _ _ _ h => h) (Or.inl ⟨by rfl, ?hy29⟩) (by assumption) ?_
              case hy29 =>
                intro w' hSw
                try dsimp only at hSw
                obtain ⟨p1, p2, p3, p4⟩ := hSw
                go_simp
                try with_reducible rfl
              try simp only [Act.put, List.getElem_toArray, List.getElem_cons_succ, List.getElem_cons_zero, List.setIfInBounds_toArray, List.set_cons_zero, List.set_cons_succ]
              refine wpAnyH_take (i := 30) (v := ?v30) rfl (by kernel_rfl) (by kernel_rfl) (by kernel_rfl) (fun _ _ _ h => h) (Or.inl ⟨by rfl, ?hy30⟩) (by assumption) ?_
              case hy30 =>
                intro w' hSw
                try dsimp only at hSw
                obtain ⟨p1, p2, p3, p4⟩ := hSw
                go_simp
                try with_reducible rfl
              try simp only [Act.put, List.getElem_toArray, List.getElem_cons_succ, List.getElem_cons_zero, List.setIfInBounds_toArray, List.set_cons_zero, List.set_cons_succ]
              refine wpAnyH_ready (rs := [5, 12]) (by kernel_rfl) (by simp) (AllReadyH.cons rfl (fun K hK => ?_) (AllReadyH.cons rfl (fun K hK => ?_) (AllReadyH.nil)))
              · go_simp
                refine hK.out _ _ (⟨s1, s2, s3, s4⟩) (fun hHeld2 => ?_)
                clear hK K
                try simp only [Act.put, List.getElem_toArray, List.getElem_cons_succ, List.getElem_cons_zero, List.setIfInBounds_toArray, List.set_cons_zero, List.set_cons_succ]
                refine wpAnyH_ready (rs := [12]) (by kernel_rfl) (by simp) (AllReadyH.cons rfl (fun K hK => ?_) (AllReadyH.nil))
                · go_simp
                  refine hK.out _ _ (⟨s1, s2, s3, s4⟩) (fun hHeld2 => ?_)
                  clear hK K
                  try simp only [Act.put, List.getElem_toArray, List.getElem_cons_succ, List.getElem_cons_zero, List.setIfInBounds_toArray, List.set_cons_zero, List.set_cons_succ]
                  refine wpAnyH_take (i := 20) (v := ?va20) rfl (by kernel_rfl) (by kernel_rfl) (by kernel_rfl) (fun _ _ _ h => h) (Or.inl ⟨by rfl, ?hya20⟩) (by assumption) ?_
                  case hya20 =>
                    intro w' hSw
                    try dsimp only at hSw
                    obtain ⟨p1, p2, p3, p4⟩ := hSw
                    go_simp
                    try with_reducible rfl
                  try simp only [Act.put, List.getElem_toArray, List.getElem_cons_succ, List.getElem_cons_zero, List.setIfInBounds_toArray, List.set_cons_zero, List.set_cons_succ]
                  refine wpAnyH_take (i := 31) (v := ?va31) rfl (by kernel_rfl) (by kernel_rfl) (by kernel_rfl) (fun _ _ _ h => h) (Or.inl ⟨by rfl, ?hya31⟩) (by assumption) ?_
                  case hya31 =>
                    intro w' hSw
                    try dsimp only at hSw
                    obtain ⟨p1, p2, p3, p4⟩ := hSw
                    go_simp
                    try with_reducible rfl
                  try simp only [Act.put, List.getElem_toArray, List.getElem_cons_succ, List.getElem_cons_zero, List.setIfInBounds_toArray, List.set_cons_zero, List.set_cons_succ]
                  refine wpAnyH_take (i := 32) (v := ?va32) rfl (by kernel_rfl) (by kernel_rfl) (by kernel_rfl) (fun _ _ _ h => h) (Or.inl ⟨by rfl, ?hya32⟩) (by assumption) ?_
                  case hya32 =>
                    intro w' hSw
                    try dsimp only at hSw
                    obtain ⟨p1, p2, p3, p4⟩ := hSw
                    go_simp
                    try with_reducible rfl
                  try simp only [Act.put, List.getElem_toArray, List.getElem_cons_succ, List.getElem_cons_zero, List.setIfInBounds_toArray, List.set_cons_zero, List.set_cons_succ]
                  refine wpAnyH_take (i := 33) (v := ?va33) rfl (by kernel_rfl) (by kernel_rfl) (by kernel_rfl) (fun _ _ _ h => h) (Or.inl ⟨by rfl, ?hya33⟩) (by assumption) ?_
                  case hya33 =>
                    intro w' hSw
                    try dsimp only at hSw
                    obtain ⟨p1, p2, p3, p4⟩ := hSw
                    go_simp
                    try with_reducible rfl
                  try simp only [Act.put, List.getElem_toArray, List.getElem_cons_succ, List.getElem_cons_zero, List.setIfInBounds_toArray, List.set_cons_zero, List.set_cons_succ]
                  refine wpAnyH_ready (rs := [34]) (by kernel_rfl) (by simp) (AllReadyH.cons rfl (fun K hK => ?_) (AllReadyH.nil))
                  · go_simp
                    refine hK.out _ _ (HSS.out) (fun hHeld2 => ?_)
                    clear hK K
                    try simp only [Act.put, List.getElem_toArray, List.getElem_cons_succ, List.getElem_cons_zero, List.setIfInBounds_toArray, List.set_cons_zero, List.set_cons_succ]
                    refine wpAnyH_done (by kernel_rfl) ?_ _
                    try simp only [Act.put, List.getElem_toArray, List.getElem_cons_succ, List.getElem_cons_zero, List.setIfInBounds_toArray, List.set_cons_zero, List.set_cons_succ]
                    go_wp2
                    go_roundw
                    case rel => exact ⟨j + 1, by omega, by go_num, HD2.out⟩
                    case measure => simp [intOf]; omega
              · go_simp
                refine hK.out _ _ (⟨s1, s2, s3, s4⟩) (fun hHeld2 => ?_)
                clear hK K
                try simp only [Act.put, List.getElem_toArray, List.getElem_cons_succ, List.getElem_cons_zero, List.setIfInBounds_toArray, List.set_cons_zero, List.set_cons_succ]
                refine wpAnyH_take (i := 20) (v := ?vb20) rfl (by kernel_rfl) (by kernel_rfl) (by kernel_rfl) (fun _ _ _ h => h) (Or.inl ⟨by rfl, ?hyb20⟩) (by assumption) ?_
                case hyb20 =>
                  intro w' hSw
                  try dsimp only at hSw
                  obtain ⟨p1, p2, p3, p4⟩ := hSw
                  go_simp
                  try with_reducible rfl
                try simp only [Act.put, List.getElem_toArray, List.getElem_cons_succ, List.getElem_cons_zero, List.setIfInBounds_toArray, List.set_cons_zero, List.set_cons_succ]
                refine wpAnyH_take (i := 31) (v := ?vb31) rfl (by kernel_rfl) (by kernel_rfl) (by kernel_rfl) (fun _ _ _ h => h) (Or.inl ⟨by rfl, ?hyb31⟩) (by assumption) ?_
                case hyb31 =>
                  intro w' hSw
                  try dsimp only at hSw
                  obtain ⟨p1, p2, p3, p4⟩ := hSw
                  go_simp
                  try with_reducible rfl
                try simp only [Act.put, List.getElem_toArray, List.getElem_cons_succ, List.getElem_cons_zero, List.setIfInBounds_toArray, List.set_cons_zero, List.set_cons_succ]
                refine wpAnyH_ready (rs := [5]) (by kernel_rfl) (by simp) (AllReadyH.cons rfl (fun K hK => ?_) (AllReadyH.nil))
                · go_simp
                  refine hK.out _ _ (⟨s1, s2, s3, s4⟩) (fun hHeld2 => ?_)
                  clear hK K
                  try simp only [Act.put, List.getElem_toArray, List.getElem_cons_succ, List.getElem_cons_zero, List.setIfInBounds_toArray, List.set_cons_zero, List.set_cons_succ]
                  refine wpAnyH_take (i := 32) (v := ?vb32) rfl (by kernel_rfl) (by kernel_rfl) (by kernel_rfl) (fun _ _ _ h => h) (Or.inl ⟨by rfl, ?hyb32⟩) (by assumption) ?_
                  case hyb32 =>
                    intro w' hSw
                    try dsimp only at hSw
                    obtain ⟨p1, p2, p3, p4⟩ := hSw
                    go_simp
                    try with_reducible rfl
                  try simp only [Act.put, List.getElem_toArray, List.getElem_cons_succ, List.getElem_cons_zero, List.setIfInBounds_toArray, List.set_cons_zero, List.set_cons_succ]
                  refine wpAnyH_take (i := 33) (v := ?vb33) rfl (by kernel_rfl) (by kernel_rfl) (by kernel_rfl) (fun _ _ _ h => h) (Or.inl ⟨by rfl, ?hyb33⟩) (by assumption) ?_
                  case hyb33 =>
                    intro w' hSw
                    try dsimp only at hSw
                    obtain ⟨p1, p2, p3, p4⟩ := hSw
                    go_simp
                    try with_reducible rfl
                  try simp only [Act.put, List.getElem_toArray, List.getElem_cons_succ, List.getElem_cons_zero, List.setIfInBounds_toArray, List.set_cons_zero, List.set_cons_succ]
                  refine wpAnyH_ready (rs := [34]) (by kernel_rfl) (by simp) (AllReadyH.cons rfl (fun K hK => ?_) (AllReadyH.nil))
                  · go_simp
                    refine hK.out _ _ (HSS.out) (fun hHeld2 => ?_)
                    clear hK K
                    try simp only [Act.put, List.getElem_toArray, List.getElem_cons_succ, List.getElem_cons_zero, List.setIfInBounds_toArray, List.set_cons_zero, List.set_cons_succ]
                    refine wpAnyH_done (by kernel_rfl) ?_ _
                    try simp only [Act.put, List.getElem_toArray, List.getElem_cons_succ, List.getElem_cons_zero, List.setIfInBounds_toArray, List.set_cons_zero, List.set_cons_succ]
                    go_wp2
                    go_roundw
                    case rel => exact ⟨j + 1, by omega, by go_num, HD2.out⟩
                    case measure => simp [intOf]; omega
            · obtain rfl : j = xss.length := by omega
              have HDI2 : Hid (DF W0 xss.length (relI xss ps f0 (i + 1)) wr) := Lib.hid (by
                show DF W0 xss.length (relJ xss ps i (relI xss ps f0 i) xss.length) wr
                rw [HKI.out.1]; exact hd)
              clear hd
              go_wp2
              go_roundw
              case rel => exact ⟨i + 1, by omega, by go_num, HDI2.out⟩
              case measure => simp [intOf]; omega
        · obtain rfl : i = xss.length := by omega
          have HDK2 : Hid (DF W0 xss.length (relK xss ps (k + 1)) wr) := Lib.hid (by
            show DF W0 xss.length (relI xss ps (relK xss ps k) xss.length) wr
            rw [HK.out.1]; exact hd)
          clear hd
          go_wp2
          go_roundw
          case rel => exact ⟨k + 1, by omega, by go_num, HDK2.out⟩
          case measure => simp [intOf]; omega
    · obtain rfl : k = xss.length := by omega
      obtain ⟨f, hf⟩ : ∃ f, relK xss ps xss.length = f := ⟨_, rfl⟩
      have hfl : f.length = xss.length := by rw [← hf]; exact relK_len xss ps _
      have hbd : Bnd f (36 * xss.length) := by rw [← hf]; exact relK_bnd HCI.out h6 ps _
      rw [hf] at hd
      have HPQ2 : Hid (pqOf xss = rowP xss ps f xss.length ++ f) := Lib.hid (by rw [HPQ.out, hf])
      have HFL := Lib.hid (And.intro hfl hbd)
      obtain ⟨j0, hj, hy0, hy1, hy2⟩ := info_parts infoInt
      obtain ⟨wz, hwz⟩ : ∃ wz, wz = wr := ⟨_, rfl⟩
      subst hwz
      have hsz := hd.1.size
      have hGl : W0.heap.size < wz.heap.size := (hd.2.lt W0.heap.size rfl).2
      have hba : Below wz.heap.size wz (wz.alloc (.cells #[] 3)) := (Below.refl _ _).alloc (Nat.le_refl _) _
      have HL0 : Hid (DF W0 xss.length f (wz.alloc (.cells #[] 3)) ∧ (wz.alloc (.cells #[] 3)).ownsRow (W0.heap.size + 1) 3 1 (.slice (some ⟨wz.heap.size, 0, none⟩) 0 0) 0 (vals (rowP xss ps f 0))) := Lib.hid
        ⟨⟨hd.1.alloc hd.1.size _, hd.2.alloc _⟩, World.ownsRow_made (base := W0.heap.size + 1) (e := 3) (size := 1) wz #[] 0 (by omega) (Nat.zero_le _) rfl⟩
      clear hd hf hfl hbd hba hsz hGl hkl
      go_wp2
      go_loopw [10, 11] (fun lv iv wr => ∃ (k g cap : Nat), k ≤ xss.length ∧ iv = .int .i64 (k : Int) ∧ lv = .slice (some ⟨g, 0, none⟩) k cap ∧ DF W0 xss.length f wr ∧ wr.ownsRow (W0.heap.size + 1) 3 1 (.slice (some ⟨g, 0, none⟩) k cap) k (vals (rowP xss ps f k))) (fun _ iv _ => xss.length - (intOf iv).toNat)
      case atStart => exact ⟨0, wz.heap.size, 0, Nat.zero_le _, rfl, rfl, HL0.out.1, HL0.out.2⟩
      case round =>
        obtain ⟨i, g, cap, hi, rfl, rfl, hd, ho⟩ := hrel
        by_cases hil : i < xss.length
        · obtain ⟨m, hk2, hmm, hpm, hmn, -, -, -⟩ := HCH.out.at (show i < ps.length by rw [HCH.out.len]; exact hil)
          obtain ⟨b2, off2, rfl, hcell2⟩ := HC2.out i (by rw [HCH.out.len]; exact hil)
          obtain ⟨b, off, u, rfl, hcell, hints⟩ := HC.out i hk2
          obtain ⟨A3, cap3, rfl, hm3, hc3⟩ := hints
          obtain ⟨b3, off3, rfl, hcell3⟩ := hc3 m hmm
          rw [hpm] at hcell2
          have hrl : xss[i].length = xss.length := (HCH.out.row i hk2).1
          have how : ownC ps i = m := by
            have : i < ps.length := by rw [HCH.out.len]; exact hil
            unfold ownC
            rw [show ps.getD i 0 = ps[i] by simp [List.getD, this], hpm, Int.toNat_natCast]
          have ez : xss[i][m] = colC xss i m := by unfold colC; rw [show xss.getD i [] = xss[i] by simp [List.getD, hil]]; simp [List.getD, hmm]
          have hzb := colC_bound HCI.out i m
          rw [ez] at hcell3
          have hb2 := HFL.out.2.at m
          have hrow : rowP xss ps f (i + 1) = rowP xss ps f i ++ [colC xss i m - f.getD m 0] := by
            unfold rowP
            rw [List.range_succ, List.map_append]
            simp [how]
          obtain ⟨z, hz⟩ : ∃ z, colC xss i m = z := ⟨_, rfl⟩
          obtain ⟨g1, -⟩ := hd.drew.load hmn HFL.out.1
          obtain ⟨fm, hfm⟩ : ∃ fm, f.getD m 0 = fm := ⟨_, rfl⟩
          rw [hz] at hcell3 hzb hrow
          rw [hfm] at g1 hb2 hrow
          obtain ⟨d, hd'⟩ : ∃ d, z - fm = d := ⟨_, rfl⟩
          rw [hd'] at hrow
          have hdb : -1000000 ≤ d ∧ d ≤ 1000000 := by omega
          have s1 := far_cell hd.1 hcell2
          have s2 := far_cell hd.1 hcell
          have s3 := far_cell hd.1 hcell3
          have hwG : W0.heap.size < wr.heap.size := (hd.2.lt W0.heap.size rfl).2
          have hgl := ho.lt g rfl
          have HSA := Lib.hid (show (wr.drew.alloc (.cells #[.int .i64 d] 3)).cell? ⟨b2, off2 + i, none⟩ = some (.int .i64 (m : Int)) ∧ (wr.drew.alloc (.cells #[.int .i64 d] 3)).cell? ⟨b, off + i, none⟩ = some (.slice (some ⟨b3, off3, none⟩) xss[i].length cap3) ∧ (wr.drew.alloc (.cells #[.int .i64 d] 3)).cell? ⟨b3, off3 + m, none⟩ = some (.int .i64 z) ∧ (wr.drew.alloc (.cells #[.int .i64 d] 3)).cell? ⟨W0.heap.size, m, none⟩ = some (.int .i64 fm) from ⟨far_alloc s1, far_alloc s2, far_alloc s3, far_alloc g1⟩)
          have HSB := Lib.hid (fun (w3 : World) (hg : (wr.drew.alloc (.cells #[.int .i64 d] 3)).grownBy w3 (some g)) => show w3.cell? ⟨b2, off2 + i, none⟩ = some (.int .i64 (m : Int)) ∧ w3.cell? ⟨b, off + i, none⟩ = some (.slice (some ⟨b3, off3, none⟩) xss[i].length cap3) ∧ w3.cell? ⟨b3, off3 + m, none⟩ = some (.int .i64 z) ∧ w3.cell? ⟨W0.heap.size, m, none⟩ = some (.int .i64 fm) from
            ⟨far_grown hg HSA.out.1 (by have := World.block_lt_of_cell? _ _ hcell2; simp at this ⊢; omega), far_grown hg HSA.out.2.1 (by have := World.block_lt_of_cell? _ _ hcell; simp at this ⊢; omega), far_grown hg HSA.out.2.2.1 (by have := World.block_lt_of_cell? _ _ hcell3; simp at this ⊢; omega), far_grown hg HSA.out.2.2.2 (by simp; omega)⟩)
          have HOL := Lib.hid (show (wr.drew.alloc (.cells #[.int .i64 d] 3)).ownsRow (W0.heap.size + 1) 3 1 (.slice (some ⟨g, 0, none⟩) i cap) i (vals (rowP xss ps f i)) from (show wr.drew.ownsRow _ _ _ _ _ _ from ho).alloc _)
          have HCL := Lib.hid (cell_one_new wr.drew (.int .i64 d) 3)
          have HSZ := Lib.hid (show W0.heap.size + 1 ≤ (wr.drew.alloc (.cells #[.int .i64 d] 3)).heap.size by simp; omega)
          have HND := Lib.hid (fun (w3 : World) (g1 cap1 : Nat) (hown : w3.ownsRow (W0.heap.size + 1) 3 1 (.slice (some ⟨g1, 0, none⟩) (i + 1) cap1) (i + 1) (vals (rowP xss ps f i) ++ [.int .i64 d])) (hg : (wr.drew.alloc (.cells #[.int .i64 d] 3)).grownBy w3 (some g)) => show DF W0 xss.length f w3 ∧ w3.ownsRow (W0.heap.size + 1) 3 1 (.slice (some ⟨g1, 0, none⟩) (i + 1) cap1) (i + 1) (vals (rowP xss ps f (i + 1))) from by
            have hda : DF W0 xss.length f (wr.drew.alloc (.cells #[.int .i64 d] 3)) := ⟨hd.drew.1.alloc hd.drew.1.size _, hd.drew.2.alloc _⟩
            refine ⟨⟨hda.1.grown hg (by simp; omega) (fun b hb => by cases hb; omega), own_same hda.2 (fun b hb => ?_)⟩, ?_⟩
            · cases hb
              exact hg.block _ (by simp; omega) (by simp; omega)
            · rw [hrow]
              simpa [vals] using hown)
          have w1 : wrap64 d = d := by unfold wrap64; omega
          have w2 : IntKind.i64.wrap d = d := by rw [IntKind.wrap_i64]; omega
          have hmi : (m : Int) < (xss.length : Int) := by omega
          have hm0 : (0 : Int) ≤ (m : Int) := by omega
          have hmr : (m : Int) < (xss[i].length : Int) := by omega
          have hii : (i : Int) < (xss.length : Int) := by omega
          have hi0 : (0 : Int) ≤ (i : Int) := by omega
          have hip : (i : Int) < (ps.length : Int) := by have := HCH.out.len; omega
          have hi6 : i ≤ 6 := by omega
          clear hd ho hc3 hcell hcell2 hcell3 hrl how hpm ez hzb hb2 hrow hz hfm hdb hwG hgl
          go_wp2_with fail
          go_region_held3 (fun w' => w'.cell? ⟨b2, off2 + i, none⟩ = some (.int .i64 (m : Int)) ∧ w'.cell? ⟨b, off + i, none⟩ = some (.slice (some ⟨b3, off3, none⟩) xss[i].length cap3) ∧ w'.cell? ⟨b3, off3 + m, none⟩ = some (.int .i64 z) ∧ w'.cell? ⟨W0.heap.size, m, none⟩ = some (.int .i64 fm))
            (first | exact ⟨s1, s2, s3, g1⟩ | exact HSA.out | exact HSB.out _ hgrow3)
            (first | (refine step_append_any _ (by rfl) (.tmp 77) (.tmp 96) 24 (by rfl) (W0.heap.size + 1) 3 j0 (.int .i64 0) 1 8 Tryd.underlying24 hj hy0 hy1 hy2 rfl (by decide) (.slice (some ⟨g, 0, none⟩) i cap) i (vals (rowP xss ps f i)) (by rfl) (by simp) HOL.out ⟨wr.heap.size, 0, none⟩ 1 1 [.int .i64 d] (by rfl) rfl HCL.out (by simp [Value.oneCell']) (by unfold maxLen; omega) (by omega) HSZ.out (i + 1) rfl ?_; intro g3 cap4 w3 hown3 hgrow3 hlt3))
          all_goals
            have HN := Lib.hid (HND.out w3 _ _ hown3 hgrow3)
            clear hown3 hgrow3 hlt3
            go_wp2_with fail
            go_roundw
            case rel => exact ⟨i + 1, g3, cap4, by omega, by go_num, rfl, HN.out.1, HN.out.2⟩
            case measure => simp [intOf]; omega
        · obtain rfl : i = xss.length := by omega
          have hfl := HFL.out.1
          have hgl := ho.lt g rfl
          have hnews : ∀ j u, (vals f)[j]? = some u → wr.cell? ((⟨W0.heap.size, 0, none⟩ : Addr).add j) = some u := fun j u hu => by
            have hjl : j < xss.length := by
              have := (List.getElem?_eq_some_iff.1 hu).1
              simpa [vals, hfl] using this
            have h := hd.2.cellAt j (by omega)
            rw [hu] at h
            have hadd : (⟨W0.heap.size, 0, none⟩ : Addr).add j = ⟨W0.heap.size, j, none⟩ := by unfold Addr.add; split <;> simp_all
            rw [hadd]
            exact h
          have hwl : W0.heap.size + 1 ≤ wr.heap.size := by have := (hd.2.lt W0.heap.size rfl).2; omega
          have HEND := Lib.hid (fun (w5 : World) (g5 c5 : Nat) (hown : w5.ownsRow (W0.heap.size + 1) 3 1 (.slice (some ⟨g5, 0, none⟩) (xss.length + xss.length) c5) (xss.length + xss.length) (vals (rowP xss ps f xss.length) ++ vals f)) (hg : wr.grownBy w5 (some g)) => show Below w.heap.size w w5 ∧ Owns w5 w.heap.size (.slice (some ⟨g5, 0, none⟩) (xss.length + xss.length) c5) (pqOf xss) from by
            refine ⟨(step_below HB0.out hd.1).grown hg (by have := HB0.out.size; omega) (fun b hb => by cases hb; have := HB0.out.size; omega), ?_⟩
            rw [HPQ2.out]
            have hlen : (rowP xss ps f xss.length ++ f).length = xss.length + xss.length := by simp [rowP, hfl]
            unfold Owns
            rw [hlen]
            refine own_mono' ?_ (show w.heap.size ≤ W0.heap.size + 1 by have := HB0.out.size; omega)
            simpa [vals] using hown)
          have HO := Lib.hid ho
          have HNEWS := Lib.hid hnews
          have HONE := Lib.hid (show ∀ u ∈ vals f, u.oneCell' = true from by
            intro u hu
            obtain ⟨x, -, rfl⟩ := List.mem_map.1 hu
            rfl)
          have HFLV := Lib.hid (show (vals f).length = xss.length * 1 by simp [vals, hfl])
          clear ho hnews hd hgl hfl
          go_wp2_with (at_builtin; refine wpList_append_lies _ rfl (.tmp 98) (.tmp 99) 24 rfl (W0.heap.size + 1) 3 j0 (.int .i64 0) 1 8 Tryd.underlying24 hj hy0 hy1 hy2 rfl (by decide) (.slice (some ⟨g, 0, none⟩) xss.length cap) xss.length (vals (rowP xss ps f xss.length)) rfl HO.out ⟨W0.heap.size, 0, none⟩ xss.length xss.length (vals f) rfl HFLV.out HNEWS.out HONE.out h1 (by unfold maxLen; omega) (by omega) hwl _ rfl ?_; intro g5 c5 w5 hown5 hgrow5 hor5 hlt5)
          have HE := Lib.hid (HEND.out w5 g5 c5 hown5 hgrow5)
          clear hown5 hgrow5 hor5 hlt5
          go_ret2
          exact ⟨_, rfl, HE.out.1, HE.out.2⟩

theorem specQPrices_any (w : World) (v : Value) (xss : List (List Int)) (hv : IntRows w v xss) :
    Calls Tryd.prog 8 #[v] w (GivesInts w (cIn xss) (pqOf xss)) := by
  cases hci : cIn xss with
  | true => exact specQPrices_yes w v xss hv hci
  | false =>
    have HSI := Lib.hid (specCostIn_any w v xss hv)
    obtain ⟨A, cap, rfl, hm, -⟩ := hv.at
    unfold maxLen at hm
    have HNO : Hid (pqOf xss = []) := Lib.hid (by unfold pqOf; rw [hci]; rfl)
    rw [hci] at HSI
    clear hci hv
    go_enter Tryd.func8, Tryd.ntmps8
    go_wp2_with (go_at_call 26; refine HSI.out.mono ?_; rintro e w1 ⟨rfl, q1, rfl⟩)
    go_ret2
    rw [HNO.out]
    exact ⟨_, rfl, (below_drewN (Below.refl _ _) q1).alloc (by simp) _, owns_empty _ _ (by simp)⟩

end Go.Proofs.YtellghhilcjbnaaDoor
