/-
  spec.CoverEdges: the fewest edges, reckoned for one set behind the other.
-/
import Derived.Test.YtcklinoiaiilgabDoorL1Edges
import Derived.Test.YtcklinoiaiilgabDoorCEdges
import Derived.Test.YtcklinoiaiilgabDoorSym
import Derived.Test.YtcklinoiaiilgabDoorNum
import Derived.OwnWalk
import Derived.Deep.AppendLies
namespace Go.Proofs.YtcklinoiaiilgabDoor
set_option linter.unusedVariables false
set_option linter.unusedSimpArgs false
open Go.RowKit

theorem pow9 : ∀ n : Fin 9, wrap64 (2 ^ n.val) = ((2 ^ n.val : Nat) : Int) ∧ IntKind.i64.wrap (2 ^ n.val) = ((2 ^ n.val : Nat) : Int) := by decide +kernel

/-- The fewest that the first few edges tell of. -/
def bestTo (f : Nat → Nat) (P : List (Fin 8 × Fin 8)) (s k : Nat) : Nat := (P.take k).foldl (fun b e => if meets s e = true then min b (few f (woE s e) + 1) else b) (P.length + 1)
theorem bestTo_zero (f : Nat → Nat) (P : List (Fin 8 × Fin 8)) (s : Nat) : bestTo f P s 0 = P.length + 1 := by simp [bestTo]
theorem bestTo_succ {f : Nat → Nat} {P : List (Fin 8 × Fin 8)} {s k : Nat} (h : k < P.length) : bestTo f P s (k + 1) = if meets s P[k] = true then min (bestTo f P s k) (few f (woE s P[k]) + 1) else bestTo f P s k := by
  unfold bestTo
  rw [List.take_succ_eq_append_getElem h, List.foldl_append]
  rfl
theorem bestTo_le (f : Nat → Nat) (P : List (Fin 8 × Fin 8)) (s : Nat) : ∀ k, bestTo f P s k ≤ P.length + 1 := by
  intro k
  induction k with
  | zero => rw [bestTo_zero]; exact Nat.le_refl _
  | succ k ih =>
    by_cases h : k < P.length
    · rw [bestTo_succ h]; split <;> omega
    · have : bestTo f P s (k + 1) = bestTo f P s k := by unfold bestTo; rw [List.take_of_length_le (by omega), List.take_of_length_le (by omega)]
      rw [this]; exact ih

theorem edge_or : ∀ a b : Fin 8, bits .or .i64 (wrap64 (2 ^ a.val)) (wrap64 (2 ^ b.val)) = ((2 ^ a.val ||| 2 ^ b.val : Nat) : Int) := by decide +kernel
theorem edge_lt : ∀ a b : Fin 8, 2 ^ a.val ||| 2 ^ b.val < 256 := by decide +kernel
theorem meets_eq {s : Nat} (hs : s < 256) (e : Fin 8 × Fin 8) : (bits .and .i64 (s : Int) (edgeSet e : Int) != 0) = meets s e := by
  have h := meets_all ⟨s, hs⟩ e.1 e.2
  have hlt := edge_lt e.1 e.2
  unfold edgeSet meets
  rw [and64 _ _ (by omega) (by omega)]
  simp only at h
  by_cases h0 : s &&& (2 ^ e.1.val ||| 2 ^ e.2.val) = 0
  · rw [h0]
    rw [eq_iff_iff] at h
    have := h.1 h0
    simp at this
    simp [this]
  · have h2 : ¬ ((!(s.testBit e.1.val || s.testBit e.2.val)) = true) := fun hh => h0 (by rw [h]; exact hh)
    have h3 : (s.testBit e.1.val || s.testBit e.2.val) = true := by
      cases hc : (s.testBit e.1.val || s.testBit e.2.val) with
      | true => rfl
      | false => rw [hc] at h2; exact (h2 rfl).elim
    rw [h3]
    simp only [bne_iff_ne, ne_eq]
    omega
theorem woE_val {s : Nat} (hs : s < 256) (e : Fin 8 × Fin 8) : bits .andNot .i64 (s : Int) (edgeSet e : Int) = ((woE s e : Nat) : Int) := by
  unfold edgeSet
  rw [andNot64 _ _ hs (edge_lt _ _)]
  rfl
theorem woE_lt {s : Nat} (hs : s < 256) (e : Fin 8 × Fin 8) (h : meets s e = true) : woE s e < s := by
  rw [woE_wo]
  unfold meets at h
  rw [Bool.or_eq_true] at h
  cases ha : s.testBit e.1.val with
  | true => exact Nat.lt_of_le_of_lt (wo_le _ _) (wo_lt hs e.1.isLt ha)
  | false =>
    rw [wo_same hs _ ha]
    rcases h with h | h
    · rw [ha] at h; cases h
    · exact wo_lt hs e.2.isLt h
theorem min_is (z bc : Nat) : Value.int .i64 (if (z : Int) + 1 < (bc : Int) then (z : Int) + 1 else (bc : Int)) = Value.int .i64 ((min bc (z + 1) : Nat) : Int) := by
  congr 1
  split <;> omega
theorem few_small {f : Nat → Nat} (s : Nat) : few f s ≤ 8 := by
  have := bitsOf_len s
  unfold few; omega

set_option maxRecDepth 100000 in
set_option maxHeartbeats 8000000 in
theorem specCE_any (w : World) (v : Value) (xs : List Int) (h : Ints w v xs) :
    Calls Tryd.prog 53 #[v] w (GivesNum w (ceOk xs) (ceOf xs)) := by
  obtain ⟨i0, hi, hz0, hz1, hz2⟩ := info_parts infoInt
  have hs := specIn_any w v xs h
  cases hg : gIn xs with
  | false =>
    have ho : ceOk xs = false := by unfold ceOk; rw [hg]; rfl
    have ho2 : ceOf xs = 0 := by unfold ceOf; rw [if_neg (by rw [ho]; simp)]
    rw [hg] at hs
    rw [ho, ho2]
    have HS := Lib.hid hs
    obtain ⟨A, cap, rfl, hm, _⟩ := h
    clear hs hg ho ho2
    go_enter Tryd.func53, Tryd.ntmps53
    go_wp2_with (go_at_call 86; refine HS.out.mono ?_; rintro e w1 ⟨rfl, q, rfl⟩)
    go_ret2
    exact ⟨rfl, below_drewN (Below.refl _ _) q⟩
  | true =>
    obtain ⟨h1, h8, hok⟩ := gIn_parts hg
    have hrow : ∀ i (hi : i < xs.length), xs[i] = (gfun xs i : Int) ∧ gfun xs i < 256 := fun k hk => row_value h8 hok hk
    have hpw := gfun_pow hok
    have hsy := gIn_sym hg
    have hir := gIn_irr hg
    rw [hg] at hs
    have HS := Lib.hid hs
    have HV := Lib.hid h
    have HRW := Lib.hid hrow
    have HPW := Lib.hid hpw
    have HG := Lib.hid hg
    have HSY := Lib.hid (And.intro hsy hir)
    have hc := fun W (hW : Ints W v xs) => l1Edges_any W v xs hW h8 hpw hrow
    have HC := Lib.hid hc
    obtain ⟨A, cap, rfl, hm, hcell⟩ := h
    have HCELL := Lib.hid hcell
    clear hs hg hrow hok hc hcell hpw hsy hir
    go_enter Tryd.func53, Tryd.ntmps53
    go_wp2_with (go_at_call 86; refine HS.out.mono ?_; rintro e w1 ⟨rfl, q, rfl⟩)
    go_loop [4] (fun i => ∃ k : Nat, k ≤ xs.length ∧ i = .int .i64 k ∧ ∀ j, j < k → gfun xs j ≠ 0) (fun i => xs.length - (intOf i).toNat)
    case atStart => exact ⟨0, by omega, rfl, fun j hj => by omega⟩
    case round =>
      obtain ⟨k, hk, rfl, hall⟩ := hrel
      have HA := Lib.hid hall
      clear hall
      by_cases hlt : k < xs.length
      · obtain ⟨b, off, rfl, hcell⟩ := HCELL.out k hlt
        have hki : (k : Int) < (xs.length : Int) := by omega
        rw [(HRW.out k hlt).1] at hcell
        by_cases h0 : gfun xs k = 0
        · have hl := loneB_yes hlt h0
          have ho : ceOk xs = false := by unfold ceOk; rw [hl, Bool.not_true, Bool.and_false]
          have ho2 : ceOf xs = 0 := by unfold ceOf; rw [if_neg (by rw [ho]; simp)]
          rw [h0] at hcell
          have HOO := Lib.hid (And.intro ho ho2)
          clear h0 hl ho ho2
          go_wp2
          go_ret2
          rw [HOO.out.1, HOO.out.2]
          exact ⟨rfl, below_drewN (Below.refl _ _) q⟩
        · have hne : (((gfun xs k : Nat) : Int) == 0) = false := by rw [beq_eq_false_iff_ne]; omega
          have H0 := Lib.hid h0
          clear h0
          go_wp2
          go_round
          all_goals first | exact ⟨k + 1, by omega, by go_num, fun j hj => if e : j = k then e ▸ H0.out else HA.out j (by omega)⟩ | (simp [intOf]; omega)
      · obtain rfl : k = xs.length := by omega
        have hl := loneB_no HA.out
        have ho : ceOk xs = true := by unfold ceOk; rw [HG.out, hl]; rfl
        have ho2 : ceOf xs = ((few (gfun xs) (2 ^ xs.length - 1) : Nat) : Int) := by unfold ceOf; rw [if_pos ho]
        have hnb : ∀ v : Fin 8, v.val < xs.length → ∃ w : Fin 8, (gfun xs v.val).testBit w.val = true := fun v hv => bit_of (gfun_lt h8 (gIn_parts HG.out).2.2 _) (loneB_at hl hv)
        have hff := fun (s : Nat) (hs : s < 2 ^ xs.length) (h0 : s ≠ 0) => few_fold HSY.out.1 HSY.out.2 h8 HPW.out hnb hs h0
        obtain ⟨N, hN⟩ : ∃ N, 2 ^ xs.length = N := ⟨_, rfl⟩
        have hp9 := pow9 ⟨xs.length, by omega⟩
        simp only at hp9
        rw [hN] at hp9 ho2 hff
        obtain ⟨hp1, hp2⟩ := hp9
        have hN256 : N ≤ 256 := by rw [← hN]; exact pow8_le (by omega)
        have hN1 : 1 ≤ N := by rw [← hN]; exact Nat.two_pow_pos _
        have HFF := Lib.hid hff
        have HOO := Lib.hid (And.intro ho ho2)
        clear hl ho ho2 hnb hff hN HA
        go_wp2_with (go_at_call 101; refine (HC.out _ (HV.out.drewN q)).mono ?_; rintro e w2 ⟨r, us, rfl, hb2, ho2⟩)
        have hrows := rows_of_owns ho2
        have hrl := ho2.len
        obtain ⟨P, hP⟩ : ∃ P, pairsTo (gfun xs) xs.length xs.length = P := ⟨_, rfl⟩
        have hpo : pairsOf (gfun xs) xs.length = P.map pairL := by unfold pairsOf; rw [hP]
        have hP64 : P.length ≤ 64 := by
          have := pairsTo_len (gfun xs) xs.length xs.length
          rw [hP] at this; omega
        rw [hpo] at hrows
        rw [hP] at HFF
        obtain ⟨Ar, capr, hre, hmr, hcr⟩ := hrows.at
        have hlen : (P.map pairL).length = P.length := List.length_map ..
        rw [hlen] at hre
        subst hre
        have HCR := Lib.hid hcr
        have hB2 : Below w.heap.size w w2 := step_below (below_drewN (Below.refl _ _) q) hb2
        have HB2 := Lib.hid hB2
        have hP64i : (P.length : Int) ≤ 64 := by omega
        have HP64 := Lib.hid hP64
        clear hrows hpo hP hcr hmr ho2 hb2 hB2 hrl
        have hsz2 := HB2.out.size
        go_loopw [6, 7] (fun u i wr => ∃ s g capg : Nat, 1 ≤ s ∧ s ≤ N ∧ i = .int .i64 s ∧ u = .slice (some ⟨g, 0, none⟩) s capg ∧ Below w2.heap.size w2 wr ∧
            wr.ownsRow w2.heap.size 3 1 (.slice (some ⟨g, 0, none⟩) s capg) s (vals (tab s fun i => (few (gfun xs) i : Int))))
          (fun _ i _ => N - (intOf i).toNat)
        case atStart =>
          refine ⟨1, w2.heap.size, 1, by omega, by omega, rfl, rfl, (Below.refl _ _).alloc (Nat.le_refl _) _, ?_⟩
          have := World.ownsRow_lit (base := w2.heap.size) (e := 3) (size := 1) w2 #[.int .i64 0] 1 (Nat.le_refl _) (by simp [maxLen]) rfl
          have e : vals (tab 1 fun i => ((few (gfun xs) i : Nat) : Int)) = [.int .i64 0] := by
            have : few (gfun xs) 0 = 0 := by unfold few; rw [bitsOf_zero]; simp
            simp [tab, vals, this]
          rw [e]; exact this
        case round =>
          obtain ⟨s, g, capg, hs1, hsN, rfl, rfl, hb, ho⟩ := hrel
          have HO := Lib.hid ho
          have HB := Lib.hid hb
          clear ho hb
          by_cases hlt : s < N
          · have hs256 : s < 256 := by omega
            have hsi : (s : Int) < (N : Int) := by omega
            have hff2 := HFF.out s hlt (by omega)
            have HF2 := Lib.hid hff2
            clear hff2
            go_wp2
            go_loopw [8, 9] (fun b i wq => ∃ (k : Nat), k ≤ P.length ∧ i = .int .i64 k ∧ b = .int .i64 (bestTo (gfun xs) P s k : Nat) ∧ ∃ q, wq = wr.drewN q)
              (fun _ i _ => P.length - (intOf i).toNat)
            case atStart => exact ⟨0, by omega, rfl, by rw [bestTo_zero]; go_num, 0, rfl⟩
            case round =>
              obtain ⟨k, hk, rfl, rfl, q2, rfl⟩ := hrel
              have hbl := bestTo_le (gfun xs) P s k
              have hP64' := HP64.out
              have hbk : ((bestTo (gfun xs) P s k : Nat) : Int) ≤ 65 := by omega
              by_cases hlk : k < P.length
              · have hst := bestTo_succ (f := gfun xs) (s := s) hlk
                obtain ⟨bc, hbc⟩ : ∃ bc, bestTo (gfun xs) P s k = bc := ⟨_, rfl⟩
                rw [hbc] at hst hbk ⊢
                obtain ⟨e, he⟩ : ∃ e, P[k] = e := ⟨_, rfl⟩
                rw [he] at hst
                obtain ⟨b, off, u, rfl, hcu, hxu⟩ := HCR.out k (by rw [hlen]; exact hlk)
                have hpe : (P.map pairL)[k]'(by rw [hlen]; exact hlk) = pairL e := by simp [he]
                rw [hpe] at hxu
                obtain ⟨A2, cap2, rfl, hm2, hc2⟩ := hxu
                obtain ⟨eb, eoff, rfl, hce0⟩ := hc2 0 (by simp [pairL])
                obtain ⟨eb', eoff', hbe, hce1⟩ := hc2 1 (by simp [pairL])
                cases hbe
                have hp0 : (pairL e)[0]'(by simp [pairL]) = (e.1.val : Int) := rfl
                have hp1' : (pairL e)[1]'(by simp [pairL]) = (e.2.val : Int) := rfl
                rw [hp0, Nat.add_zero] at hce0
                rw [hp1'] at hce1
                have hb2w : eb < w2.heap.size := World.block_lt_of_cell? w2 _ hce0
                replace hce0 := (HB.out.cell (p := ⟨eb, eoff, none⟩) hb2w).trans hce0
                replace hce1 := (HB.out.cell (p := ⟨eb, eoff + 1, none⟩) hb2w).trans hce1
                replace hcu := (HB.out.cell (p := ⟨b, off + k, none⟩) (World.block_lt_of_cell? w2 _ hcu)).trans hcu
                have hpl : (pairL e).length = 2 := rfl
                rw [hpl] at hcu
                have hor := edge_or e.1 e.2
                have hme := meets_eq hs256 e
                have hwv := woE_val hs256 e
                have hes : (2 ^ e.1.val ||| 2 ^ e.2.val : Nat) = edgeSet e := rfl
                rw [hes] at hor
                obtain ⟨E, hE⟩ : ∃ E, edgeSet e = E := ⟨_, rfl⟩
                rw [hE] at hor hme hwv
                have hki : (k : Int) < (P.length : Int) := by omega
                have ha8 : (e.1.val : Int) < 8 := by have := e.1.isLt; omega
                have hb8 : (e.2.val : Int) < 8 := by have := e.2.isLt; omega
                have ha64 : (e.1.val : Int) < 64 := by omega
                have hb64 : (e.2.val : Int) < 64 := by omega
                cases hmt : meets s e with
                | false =>
                  rw [hmt] at hst hme
                  rw [if_neg (by simp)] at hst
                  have HST := Lib.hid hst
                  clear hst hmt hbc he hpe hes hE hc2 hm2 hp0 hp1' hpl hwv
                  go_wp2
                  go_region
                  go_wp2
                  go_roundw
                  case rel => exact ⟨k + 1, by omega, by go_num, by rw [HST.out], _, rfl⟩
                  case measure => simp [intOf]; omega
                | true =>
                  rw [hmt] at hst hme
                  rw [if_pos rfl] at hst
                  have hwl := woE_lt hs256 e hmt
                  have hfs := few_small (f := gfun xs) (woE s e)
                  obtain ⟨t, ht⟩ : ∃ t, woE s e = t := ⟨_, rfl⟩
                  rw [ht] at hst hwl hfs hwv
                  have hct := (HO.out.cellAt t (by omega)).trans (tab_cell s _ t hwl)
                  obtain ⟨z, hz⟩ : ∃ z, few (gfun xs) t = z := ⟨_, rfl⟩
                  rw [hz] at hct hst hfs
                  have hts : (t : Int) < (s : Int) := by omega
                  have hz8 : (z : Int) ≤ 8 := by omega
                  have HST := Lib.hid hst
                  clear hst hmt hbc he hpe hes hE hc2 hm2 hp0 hp1' hpl hz ht
                  go_wp2
                  go_region
                  go_wp2
                  go_roundw
                  case rel => exact ⟨k + 1, by omega, by go_num, by rw [HST.out]; exact min_is z bc, _, rfl⟩
                  case measure => simp [intOf]; omega
              · obtain rfl : k = P.length := by omega
                have e : bestTo (gfun xs) P s P.length = few (gfun xs) s := by unfold bestTo; rw [List.take_length]; exact HF2.out
                rw [e]
                have hm64 : s + 1 ≤ maxLen := by unfold maxLen; omega
                have hm8 : (s + 1) * 8 ≤ 140737488355328 := by omega
                have hbase : w2.heap.size ≤ ((wr.drewN q2).alloc (.cells #[Value.int .i64 (few (gfun xs) s : Nat)] 3)).heap.size := by have := HB.out.size; simp; omega
                have ho := HO.out
                clear e
                go_wp2_with (at_builtin; refine wpList_append_lies _ rfl _ _ 24 rfl w2.heap.size 3 i0 (.int .i64 0) 1 8 Tryd.underlying24 hi hz0 hz1 hz2 rfl (by decide) _ _ _ rfl (ho.alloc _) ⟨wr.heap.size, 0, none⟩ 1 1 [.int .i64 (few (gfun xs) s : Nat)] rfl rfl (cell_one_new _ _ _) (by simp [Value.oneCell']) (by decide) hm64 hm8 hbase _ rfl ?_; intro g2 cap2 w1 hown hgrow _ _)
                go_roundw
                case rel =>
                  refine ⟨s + 1, g2, cap2, by omega, by omega, by go_num, rfl, ((below_drewN HB.out q2).alloc (by have := HB.out.size; exact this) _).grown hgrow hbase (fun k hk => (HO.out.lt k hk).1), ?_⟩
                  rw [tab_succ, vals_snoc]
                  exact hown
                case measure => simp [intOf]; omega
          · obtain rfl : s = N := by omega
            obtain ⟨M, hM⟩ : ∃ M, s - 1 = M := ⟨_, rfl⟩
            have hMi : (s : Int) - 1 = (M : Int) := by omega
            have hMs : M < s := by omega
            have hMsi : (M : Int) < (s : Int) := by omega
            have hct := (HO.out.cellAt M (by omega)).trans (tab_cell s _ M hMs)
            have HOO2 := HOO
            rw [hM] at HOO2
            clear hM HOO
            go_wp2
            go_ret2
            rw [HOO2.out.1, HOO2.out.2]
            exact ⟨rfl, HB2.out.trans (HB.out.mono hsz2)⟩

end Go.Proofs.YtcklinoiaiilgabDoor
