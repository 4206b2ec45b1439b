/-
  (impl.chooser).first: the first choice of the least measure.
-/
import Derived.Test.YtjbgjebbfkhidabDoorNextX
import Derived.Test.YtjbgjebbfkhidabDoorChs
import Derived.Test.YtjbgjebbfkhidabDoorCore1
import Derived.Deep.AppendLies
namespace Go.Proofs.YtjbgjebbfkhidabDoor.Mx
set_option linter.unusedVariables false
set_option linter.unusedSimpArgs false
open Go.RowKit Go.Shelf

theorem sum_max {F : Nat → Int} (hF : ∀ k, -1000 ≤ F k ∧ F k ≤ 1000) (p : List Nat) (row : Nat) (hp : p.length ≤ 8) : meas max minI F row p ≤ maxI := by
  have := max_bound hF p row
  unfold maxI
  omega
set_option maxRecDepth 100000 in
set_option maxHeartbeats 2000000 in
theorem first_any (n : Nat) (h1 : 1 ≤ n) (h6 : n ≤ 6) (F : Nat → Int) (hF : ∀ k, -1000 ≤ F k ∧ F k ≤ 1000) (w : World) (B : Nat) (hM : MemoI w B (gS n F) 0) (hT : Tab w) (hgB : 1 < B) :
    Calls Tryd.prog 59 #[.agg (lcells n F (-9223372036854775808) 90 B)] w fun e w' => ∃ u, e = .returned (.tuple #[u, .int .i64 (lst max minI F n 0 (2 ^ n - 1))]) ∧ Within B (B + 1) w w' ∧
      Owns w' w.heap.size u ((greedy max minI F (lst max minI F n 0 (2 ^ n - 1)) n 0 (2 ^ n - 1) minI).map Int.ofNat) := by
  obtain ⟨full, hfull⟩ : ∃ full, 2 ^ n - 1 = full := ⟨_, rfl⟩
  have hlen : (bitsOf full).length = n := by rw [← hfull]; exact full_len n h6
  have hf64 : full < 64 := by
    have : 2 ^ n ≤ 2 ^ 6 := Nat.pow_le_pow_right (by decide) h6
    omega
  obtain ⟨L, hL⟩ : ∃ L, lst max minI F n 0 full = L := ⟨_, rfl⟩
  have hgL : gS n F full = L := by unfold gS; rw [hlen, Nat.sub_self, hL]
  have hcnt : cntI full = 10 ^ n := by unfold cntI; rw [hlen]
  have h10 : 10 ^ n ≤ 1000000 := Nat.le_trans (Nat.pow_le_pow_right (by decide) h6) (by decide)
  have hBw := hM.lt
  rw [hfull, hL]
  obtain ⟨W1, hW1⟩ : ∃ W1, w.alloc (.cells #[.iface 59 (.agg (tcells n F)), .int .i64 (-9223372036854775808), .func (.func 90) #[] #[], .map (some B)] 71) = W1 := ⟨_, rfl⟩
  have hb1 : Below w.heap.size w W1 := by rw [← hW1]; exact (Below.refl _ _).alloc (Nat.le_refl _) _
  have hs1 : W1.heap.size = w.heap.size + 1 := by rw [← hW1]; simp
  have k0 : W1.heap[w.heap.size]? = some (.cells #[.iface 59 (.agg (tcells n F)), .int .i64 (-9223372036854775808), .func (.func 90) #[] #[], .map (some B)] 71 (0, 0)) := by rw [← hW1]; exact World.alloc_heap_new _ _
  have HK3 := Lib.hid (fun (w3 : World) (h : Below W1.heap.size W1 w3) => show w3.heap[w.heap.size]? = some (.cells #[.iface 59 (.agg (tcells n F)), .int .i64 (-9223372036854775808), .func (.func 90) #[] #[], .map (some B)] 71 (0, 0)) ∧ MemoI w3 B (gS n F) 0 ∧ Tab w3 from
    ⟨(h.block _ (by omega)).trans k0, (hM.below hb1).below h, (hT.later hb1).later h⟩)
  have HLE := Lib.hid (fun (w3 : World) (h : Below W1.heap.size W1 w3) => show Calls Tryd.prog 66 #[.agg (lcells n F (-9223372036854775808) 90 B), .int .i64 (full : Int)] w3 fun e w4 => e = .returned (.int .i64 L) ∧ MemoI w4 B (gS n F) (10 ^ n) ∧ Within B (B + 1) w3 w4 ∧ w4.heap[w.heap.size]? = some (.cells #[.iface 59 (.agg (tcells n F)), .int .i64 (-9223372036854775808), .func (.func 90) #[] #[], .map (some B)] 71 (0, 0)) from
    (least_any n h6 F hF B hgB full hf64 w3 0 (by omega) (HK3.out w3 h).2.1 (HK3.out w3 h).2.2 (by omega)).mono fun e w4 hp =>
      ⟨by rw [← hgL]; exact hp.1, by have := hp.2.1; rwa [Nat.zero_add, hcnt] at this, hp.2.2, (hp.2.2.block _ (Array.getElem?_eq_some_iff.1 (HK3.out w3 h).1).1 (.inr (by omega))).trans (HK3.out w3 h).1⟩)
  obtain ⟨c0, c1, c2, c3⟩ := four_of k0
  have hme := fun W => meth_rows 313 n F W
  have hme2 := fun W => meth_rows 273 n F W
  simp only [Nat.reduceAdd] at hme hme2
  have HRA := Lib.hid (fun W => rows_any W n F)
  have HNB := Lib.hid (fun W => show Calls Tryd.prog 91 #[.int .i64 (n : Int)] W fun e w' => e = .returned (.int .i64 (full : Int)) ∧ W = w' by rw [← hfull]; exact nodesBelow_any n (by omega) W)
  have HZ := Lib.hid (And.intro hb1 (And.intro hs1 (And.intro k0 (And.intro hBw (And.intro hM (And.intro hT (And.intro hF (And.intro hlen (And.intro hgL (And.intro hcnt (And.intro h10 (And.intro hfull hL))))))))))))
  unfold lcells at HLE ⊢
  clear hb1 hs1 k0 hBw hM hT hF hlen hgL hcnt h10 hfull hL
  go_enter Tryd.func59, Tryd.ntmps59
  go_wp2_with (first
    | (go_at_call 150; refine (HRA.out _).mono ?_; rintro e w3 ⟨rfl, hb3⟩; obtain ⟨d0, d1, d2, d3⟩ := four_of (HK3.out w3 hb3).1)
    | (go_at_call 91; refine (HNB.out _).mono ?_; rintro e w' ⟨rfl, rfl⟩)
    | (go_at_call 66; refine (HLE.out w3 hb3).mono ?_; rintro e w4 ⟨rfl, hM4, hw4, hk4⟩; obtain ⟨f0, f1, f2, f3⟩ := four_of hk4; have f5 : (w4.alloc (.cells #[] 3)).cell? ⟨w.heap.size, 1, none⟩ = some (.int .i64 (-9223372036854775808)) := (World.cell?_of_block (a := ⟨w.heap.size, 1, none⟩) (Below.heap_alloc _ _ _ (Array.getElem?_eq_some_iff.1 hk4).1)).trans f1))
  obtain ⟨i0, hi, hz0, hz1, hz2⟩ := info_parts infoInt
  have hI4 := (HK3.out w3 hb3).2.2
  obtain ⟨hb1, hs1, k0, hBw, hM, hT, hF, hlen, hgL, hcnt, h10, hfull, hL⟩ := HZ.out
  have hstart : ∃ (d left M : Nat) (ps : List Nat) (made : Int) (g cap : Nat), left < 64 ∧ (bitsOf left).length = d ∧ ps.length + d = n ∧ Value.int .i64 (full : Int) = .int .i64 (left : Int) ∧ Value.int .i64 (-9223372036854775808) = .int .i64 made ∧ Value.slice (some ⟨w4.heap.size, 0, none⟩) 0 0 = .slice (some ⟨g, 0, none⟩) ps.length cap ∧
      (minI ≤ made ∧ made ≤ 1000) ∧ Reach max minI F L d ps.length left made ∧ ps ++ greedy max minI F L d ps.length left made = greedy max minI F L n 0 full minI ∧ MemoI (w4.alloc (.cells #[] 3)) B (gS n F) M ∧ M ≤ 1000000 * (ps.length + 1) ∧
      (w4.alloc (.cells #[] 3)).heap[w.heap.size]? = some (.cells #[.iface 59 (.agg (tcells n F)), .int .i64 (-9223372036854775808), .func (.func 90) #[] #[], .map (some B)] 71 (0, 0)) ∧ Within B (B + 1) w (w4.alloc (.cells #[] 3)) ∧ (w4.alloc (.cells #[] 3)).ownsRow (w.heap.size + 1) 3 1 (.slice (some ⟨w4.heap.size, 0, none⟩) 0 0) ps.length (vals (ps.map Int.ofNat)) := by
    have hb03 := step_below hb1 hb3
    have hsz3 := hb3.size
    have hsz4 := hw4.size
    have hba : Below w4.heap.size w4 (w4.alloc (.cells #[] 3)) := (Below.refl _ _).alloc (Nat.le_refl _) _
    refine ⟨n, full, 10 ^ n, [], minI, w4.heap.size, 0, hf64, hlen, by simp, rfl, rfl, rfl, by unfold minI; omega, ?_, rfl, hM4.below hba, by simp; omega, (hba.block _ (Array.getElem?_eq_some_iff.1 hk4).1).trans hk4, ?_, ?_⟩
    · rw [← hL]
      exact reach_start maxMeas F (fun k => by have := hF k; unfold minI; omega) (sum_max hF) n full (by omega) hlen
    · exact ⟨hba.os.trans (hw4.os.trans hb03.os), hba.tape.trans (hw4.tape.trans hb03.tape), hba.output.trans (hw4.output.trans hb03.output), by have := hba.size; have := hb03.size; omega,
        fun k hk ho => (hba.block _ (by have := hb03.size; omega)).trans ((hw4.block _ (by have := hb03.size; omega) ho).trans (hb03.block _ hk))⟩
    · exact World.ownsRow_made (base := w.heap.size + 1) (e := 3) (size := 1) w4 #[] 0 (by omega) (Nat.zero_le _) rfl
  have HST := Lib.hid hstart
  clear hstart hb1 hs1 k0 hBw hM hT hF hlen hgL hcnt h10 hfull hL hI4 c0 c1 c2 c3 d0 d1 d2 d3 f0 f1 f2 f3 f5 hM4 hw4 hk4 hme hme2
  go_loopw [4, 6, 7] (fun lv cv mv wr => ∃ (d left M : Nat) (ps : List Nat) (made : Int) (g cap : Nat), left < 64 ∧ (bitsOf left).length = d ∧ ps.length + d = n ∧ lv = .int .i64 (left : Int) ∧ mv = .int .i64 made ∧ cv = .slice (some ⟨g, 0, none⟩) ps.length cap ∧
      (minI ≤ made ∧ made ≤ 1000) ∧ Reach max minI F L d ps.length left made ∧ ps ++ greedy max minI F L d ps.length left made = greedy max minI F L n 0 full minI ∧ MemoI wr B (gS n F) M ∧ M ≤ 1000000 * (ps.length + 1) ∧
      wr.heap[w.heap.size]? = some (.cells #[.iface 59 (.agg (tcells n F)), .int .i64 (-9223372036854775808), .func (.func 90) #[] #[], .map (some B)] 71 (0, 0)) ∧ Within B (B + 1) w wr ∧ wr.ownsRow (w.heap.size + 1) 3 1 cv ps.length (vals (ps.map Int.ofNat))) (fun lv _ _ _ => (intOf lv).toNat)
  case atStart => exact HST.out
  case round =>
    obtain ⟨d, left, M, ps, made, g, cap, hl64, hdl, hpn, rfl, rfl, rfl, hmb, hrch, hgr, hMM, hMb, hkw, hww, ho⟩ := hrel
    cases d with
    | zero =>
      obtain rfl : left = 0 := len_zero (by omega) hdl
      have hps : ps = greedy max minI F L n 0 full minI := by rw [← hgr]; simp [greedy]
      obtain ⟨-, -, -, -, -, -, -, -, -, -, -, hfull, hL⟩ := HZ.out
      have HR := Lib.hid (And.intro hps (And.intro hww ho))
      clear hps hww ho hgr hrch hMM hMb hkw hmb hpn hdl hfull hL
      go_wp2
      go_ret2
      obtain ⟨hps, hww, ho⟩ := HR.out
      refine ⟨_, rfl, hww, ?_⟩
      rw [← hps]
      have := owns_mono ho (Nat.le_succ _)
      unfold Owns
      rw [List.length_map]
      exact this
    | succ e =>
      obtain ⟨hb1, hs1, k0, hBw, hM, hT, hF, hlen, hgL, hcnt, h10, hfull, hL⟩ := HZ.out
      obtain ⟨row, hrow⟩ : ∃ row, ps.length = row := ⟨_, rfl⟩
      rw [hrow] at hpn hrch hgr hMb ho ⊢
      obtain ⟨v, hv, hnx, hfit, hrch'⟩ := reach_step maxMeas F (sum_max hF) e row left made L (by omega) hdl hrch
      obtain ⟨hv8, hvb⟩ := mem_elems.1 hv
      have hv6 : v < 6 := bits_six' ⟨v, hv8⟩ ⟨left, hl64⟩ hvb
      have hgr' : greedy max minI F L (e + 1) row left made = v :: greedy max minI F L e (row + 1) (wo8 left v) (max made (F (6 * row + v))) := by
        show nxt max minI F e row left made L :: _ = _
        rw [hnx]
      have hwl : (bitsOf (wo8 left v)).length = e := by have := wo8_len (show left < 256 by omega) hv8 hvb; omega
      have hwlt := wo8_less (show left < 256 by omega) hv8 hvb
      have hex : ∃ v ∈ elems left, max (max made (F (6 * row + v))) (gS n F (wo8 left v)) = L := by
        refine ⟨v, hv, ?_⟩
        have : n - e = row + 1 := by omega
        unfold gS
        rw [hwl, this]
        exact hfit
      have hcl : cntI left ≤ 1000000 := by
        unfold cntI
        rw [hdl]
        exact Nat.le_trans (Nat.pow_le_pow_right (by decide) (show e + 1 ≤ 6 by omega)) (by decide)
      have hl0 : ((left : Int) == 0) = false := by
        rw [beq_eq_false_iff_ne]
        intro h
        have : left = 0 := by omega
        rw [this, bitsOf_zero] at hdl
        simp at hdl
      have hTr := hT.withinI hww hgB
      have hcall := next_any n h6 F hF wr B M left made L hMM hTr hgB (by omega) (by omega) hl64 e row hdl (by omega) (by omega) hex
      rw [hnx] at hcall
      obtain ⟨f, hf⟩ : ∃ f, F (6 * row + v) = f := ⟨_, rfl⟩
      obtain ⟨t, ht⟩ : ∃ t, wo8 left v = t := ⟨_, rfl⟩
      have hfb := hF (6 * row + v)
      rw [hf] at hfb hgr' hrch'
      rw [ht] at hgr' hrch' hwl hwlt
      have hwo : ∀ W, Calls Tryd.prog 94 #[.int .i64 (left : Int), .int .i64 (v : Int)] W fun e w' => e = .returned (.int .i64 (t : Int)) ∧ W = w' := fun W => by
        rw [← ht]; exact without_any left v (by omega) hv8 W
      obtain ⟨y, hy⟩ : ∃ y, max made f = y := ⟨_, rfl⟩
      have HCA := Lib.hid (fun W => costAt_any W n F row v (by omega) hv6 f hf)
      have HBY := Lib.hid (fun W => measSum_any made f y hy W)
      have HWO := Lib.hid hwo
      have hlw := (Array.getElem?_eq_some_iff.1 hkw).1
      have HNX := Lib.hid (hcall.mono fun e5 w5 hp => show e5 = .returned (.int .i64 (v : Int)) ∧ MemoI w5 B (gS n F) (M + cntI left) ∧ Within B (B + 1) wr w5 ∧ w5.heap[w.heap.size]? = some (.cells #[.iface 59 (.agg (tcells n F)), .int .i64 (-9223372036854775808), .func (.func 90) #[] #[], .map (some B)] 71 (0, 0)) from
        ⟨hp.1, hp.2.1, hp.2.2, (hp.2.2.block _ hlw (.inr (by omega))).trans hkw⟩)
      have HKEY := Lib.hid (fun (w5 : World) (hk5 : w5.heap[w.heap.size]? = some (.cells #[.iface 59 (.agg (tcells n F)), .int .i64 (-9223372036854775808), .func (.func 90) #[] #[], .map (some B)] 71 (0, 0))) (w6 : World) (h : Below w5.drew.heap.size w5.drew w6) => show w6.cell? ⟨w.heap.size, 0, none⟩ = some (.iface 59 (.agg (tcells n F))) ∧ w6.cell? ⟨w.heap.size, 2, none⟩ = some (.func (.func 90) #[] #[]) from by
        have hk6 := (h.block _ (Array.getElem?_eq_some_iff.1 hk5).1).trans hk5
        exact ⟨(four_of hk6).1, (four_of hk6).2.2.1⟩)
      have HALL := Lib.hid (And.intro hl64 (And.intro hpn (And.intro hrow (And.intro hmb (And.intro hfb (And.intro hy (And.intro hgr (And.intro hgr' (And.intro hrch' (And.intro hwl (And.intro hwlt (And.intro hcl (And.intro hMb (And.intro hww (And.intro ho (And.intro hBw hs1))))))))))))))))
      obtain ⟨c0, c1, c2, c3⟩ := four_of hkw
      clear hl64 hpn hrow hmb hfb hy hgr hgr' hrch' hwl hwlt hcl hMb hww ho hBw hs1 hcall hwo hf ht hTr hex hfit hnx hv hv8 hvb hv6 hb1 k0 hM hT hF hlen hgL hcnt h10 hfull hL hrch hdl hMM hlw hkw
      unfold lcells at HNX
      go_wp2_with (go_at_call 92; refine HNX.out.mono ?_; rintro e5 w5 ⟨rfl, hM5, hw5, hk5⟩)
      obtain ⟨d0, d1, d2, d3⟩ := four_of (W := w5.drew) hk5
      clear c0 c1 c2 c3
      apply once_zero (fun (W : World) => Below w5.heap.size w5 W)
      case h1 =>
        first
          | go_region_held3 (fun w' => w'.cell? ⟨w.heap.size, 0, none⟩ = some (.iface 59 (.agg (tcells n F))) ∧ w'.cell? ⟨w.heap.size, 2, none⟩ = some (.func (.func 90) #[] #[]))
              (first | exact ⟨d0, d2⟩ | exact HKEY.out w5 hk5 w6 hb6)
              (first | (go_at_call 93; refine (HCA.out _).mono ?_; rintro e6 w6 ⟨rfl, hb6⟩) | (go_at_call 90; refine (HBY.out _).mono ?_; rintro e7 w7 ⟨rfl, rfl⟩))
          | fail "region 7"
        all_goals exact ⟨undrewL hb6, rfl⟩
      rintro W6 hb6
      obtain ⟨hl64, hpn, hrow, hmb, hfb, hy, hgr, hgr', hrch', hwl, hwlt, hcl, hMb, hww, ho, hBw, hs1⟩ := HALL.out
      have hor := ((OwnsAt.of ho).kept hw5 (.inr (by omega))).1
      have ho6 := owns_below hor hb6
      have hsw := hww.size
      have hs5 := hw5.size
      have hs6 := hb6.size
      have hk6 := (hb6.block _ (Array.getElem?_eq_some_iff.1 hk5).1).trans hk5
      have hM6 := hM5.below hb6
      have hlw6 := (Array.getElem?_eq_some_iff.1 hk6).1
      have hmax : row + 1 < maxLen := by unfold maxLen; omega
      have hr6 : row < 6 := by omega
      have HALL2 := Lib.hid (And.intro ho6 (And.intro hsw (And.intro hs5 (And.intro hs6 (And.intro hk6 (And.intro hM6 (And.intro hb6 hw5)))))))
      have hq1 : row + 1 < maxLen := hmax
      clear hl64 hpn hmb hfb hy hgr hgr' hrch' hwl hwlt hcl hMb hww ho hBw hs1 hor hk6 hM6 hb6 hw5 hM5 hk5 d0 d1 d2 d3 hmax hrow
      go_wp2_with (first
        | (go_at_call 94; refine (HWO.out _).mono ?_; rintro e' w' ⟨rfl, rfl⟩)
        | (refine wpList_append_lies _ rfl (.tmp 38) (.tmp 40) 62 rfl (w.heap.size + 1) 3 i0 (.int .i64 0) 1 8 Tryd.underlying62 hi hz0 hz1 hz2 rfl (by decide) _ _ _ rfl (ho6.alloc _) ⟨W6.heap.size, 0, none⟩ 1 1 [.int .i64 (v : Int)] rfl rfl (cell_one_new _ _ _) (by simp [Value.oneCell']) (by decide) (by unfold maxLen; omega) (by omega) (by simp; omega) _ rfl ?_; intro g2 cap2 w7 hown hgrow _ _))
      go_wp2
      go_roundw
      case rel =>
        obtain ⟨hl64, hpn, hrow, hmb, hfb, hy, hgr, hgr', hrch', hwl, hwlt, hcl, hMb, hww, ho, hBw, hs1⟩ := HALL.out
        obtain ⟨ho6, hsw, hs5, hs6, hk6, hM6, hb6, hw5⟩ := HALL2.out
        have hpl : (ps ++ [v]).length = row + 1 := by rw [List.length_append, hrow]; rfl
        have hba : Below W6.heap.size W6 (W6.alloc (.cells #[.int .i64 (v : Int)] 3)) := (Below.refl _ _).alloc (Nat.le_refl _) _
        have hnb : ∀ k, k ≤ w.heap.size → some k ≠ (Value.slice (some ⟨g, 0, none⟩) row cap).ownBlock := fun k hk e => by
          have := (ho.lt k e.symm).1
          omega
        have hlw6 := (Array.getElem?_eq_some_iff.1 hk6).1
        have hblk : ∀ k, k ≤ w.heap.size → w7.heap[k]? = W6.heap[k]? := fun k hk => (hgrow.block k (by simp; omega) (hnb k hk)).trans (hba.block k (by omega))
        refine ⟨e, t, M + cntI left, ps ++ [v], y, g2, cap2, by omega, hwl, by rw [hpl]; omega, rfl, rfl, by rw [hpl], by omega, ?_, ?_, (hM6.below hba).kept hgrow (hnb B (by omega)), by rw [hpl]; omega, (hblk _ (Nat.le_refl _)).trans hk6, ?_, ?_⟩
        · rw [hpl, ← hy]; exact hrch'
        · rw [hpl, ← hgr, hgr', List.append_assoc, ← hy]; rfl
        · exact ⟨hgrow.os.trans (hba.os.trans (hb6.os.trans (hw5.os.trans hww.os))), hgrow.tape.trans (hba.tape.trans (hb6.tape.trans (hw5.tape.trans hww.tape))), hgrow.output.trans (hba.output.trans (hb6.output.trans (hw5.output.trans hww.output))),
            by have := hgrow.size; have := hba.size; omega, fun k hk hor => (hblk k (by omega)).trans ((hb6.block k (by omega)).trans ((hw5.block k (by omega) hor).trans (hww.block k hk hor)))⟩
        · rw [hpl]
          simpa [vals, List.map_append] using hown
      case measure =>
        obtain ⟨hl64, hpn, hrow, hmb, hfb, hy, hgr, hgr', hrch', hwl, hwlt, hcl, hMb, hww, ho, hBw, hs1⟩ := HALL.out
        simp [intOf]; omega

end Go.Proofs.YtjbgjebbfkhidabDoor.Mx