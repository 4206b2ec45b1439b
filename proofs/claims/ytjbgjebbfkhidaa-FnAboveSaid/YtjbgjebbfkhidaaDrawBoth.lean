/-
  spec.l92Both: a market and two pairings are drawn.
-/
import Derived.Test.YtjbgjebbfkhidaaDrawPair
namespace Go.Proofs.Ytjbgjebbfkhidaa
set_option linter.unusedVariables false
set_option linter.unusedSimpArgs false
open Go.RowKit
set_option maxRecDepth 100000

theorem ret_mi_ss {fn : Func} {p u q : Tmp} (h : fn.results = #[.cell p 25, .tmp u, .tmp q]) (tmps : Array Value) (w : World) (g : Nat) (a b : Value) (v z : Value)
    (hp : tmps.getD p undef = .pointer (some ⟨g, 0, none⟩)) (hv : tmps.getD u undef = v) (hz : tmps.getD q undef = z) (hg : w.heap[g]? = some (.cells (two a b) 25 (0, 0))) :
    (results fn tmps).run Try.prog w = .ok (.tuple #[.agg (two a b), v, z]) w := by
  subst hv
  subst hz
  have hh : (results fn tmps).run Try.prog w = ((asAddr (tmps.getD p undef)).run Try.prog w).andThen fun a w₁ => ((loadVar 25 a).run Try.prog w₁).andThen fun v w₂ => .ok (.tuple #[v, tmps.getD u undef, tmps.getD q undef]) w₂ := by
    simp only [results, h]
    simp [Sem.run_bind, Result.andThen]
  rw [hh, hp]
  simp only [asAddr, Sem.run_pure, Result.andThen]
  rw [run_loadVar_row w g 25 25 (two a b) (0, 0) _ hg Try.underlying25 rfl sizeMI]

/-- What drawing a market and two pairings leaves. -/
def GivesLB (w : World) (e : Ending) (w' : World) : Prop :=
  ∃ L R v u ls rs xs ys, e = .returned (.tuple #[.agg (two L R), v, u]) ∧ TRows w' L ls ∧ TRows w' R rs ∧ TInts w' v xs ∧ TInts w' u ys ∧ Below w.heap.size w w'
theorem Within.to_below {r : Nat} {w w' : World} (h : Within r (r + 1) w w') (hr : w.heap.size ≤ r) : Below w.heap.size w w' := ⟨h.os, h.tape, h.output, h.size, fun k hk => h.block k hk (by omega)⟩

set_option maxHeartbeats 4000000 in
theorem both_draw (w : World) (A : Option Addr) (L cap : Nat) (hc : L ≤ cap) (hm : L ≤ maxLen) (hx : Code8 w A L) :
    Calls Try.prog 36 #[.slice A L cap] w (GivesLB w) := by
  obtain ⟨W0, hW0⟩ : ∃ W0, w.alloc (.cells (two nilS nilS) 25) = W0 := ⟨_, rfl⟩
  have hb0 : Below w.heap.size w W0 := by rw [← hW0]; exact (Below.refl _ _).alloc (Nat.le_refl _) _
  have hres0 : W0.heap[w.heap.size]? = some (.cells (two nilS nilS) 25 (0, 0)) := by rw [← hW0]; exact World.alloc_heap_new _ _
  have hsz0 : W0.heap.size = w.heap.size + 1 := by rw [← hW0]; simp
  have HO := Lib.hid (open_any W0 A L cap hc hm)
  have HX := Lib.hid hx
  have HS0 := Lib.hid (And.intro hb0 (And.intro hsz0 hres0))
  clear hx hb0 hsz0 hres0
  go_enter Try.func36, Try.ntmps36
  go_wp2_with fail
  clear hW0
  refine HO.out.mono ?_
  rintro e wa ⟨r, M, cap', rfl, hM, hML, hrw, hrd0, hba⟩
  obtain ⟨hb0, hsz0, hres0⟩ := HS0.out
  have hwr : w.heap.size < r := by omega
  have HXR : Hid (Bytes w r A M) := Lib.hid (fun i hi => by
    obtain ⟨b, off, x, hA, hc', hx'⟩ := HX.out i (by omega)
    have hlt : b < w.heap.size := World.block_lt_of_cell? w _ hc'
    exact ⟨b, off, x, hA, by omega, hc', hx'⟩)
  have hbw := step_below hb0 hba
  have HLP := Lib.hid (pairing_draw wa r 0 M cap' A hrd0 ((HX.out.less hML).bytes hbw r (by omega)) hM (by omega))
  have HBA : Hid (Below w.heap.size w wa ∧ wa.heap[w.heap.size]? = some (.cells (two nilS nilS) 25 (0, 0)) ∧ w.heap.size < wa.heap.size ∧ r < wa.heap.size) := Lib.hid ⟨hbw, (hba.block _ (by omega)).trans hres0, by have := hba.size; omega, (Array.getElem?_eq_some_iff.1 hrd0).1⟩
  clear hb0 hsz0 hres0 hrw hrd0 hba hbw hML
  go_wp2_with fail
  refine HLP.out.mono ?_
  rintro e w1 ⟨A1, c1, R0, pv, ls, rs, xs, q, rfl, hl, hr', hpv, h1, h4, hq, hrd, hw1⟩
  obtain ⟨A2, n2, c2, rfl⟩ : ∃ A2 n2 c2, R0 = .slice A2 n2 c2 := by obtain ⟨A2, c2, h, _⟩ := hr'.rows.at; exact ⟨A2, _, c2, h⟩
  have hz1 := hw1.size
  have hz0 := HBA.out.2.2.1
  obtain ⟨W2, hW2⟩ : ∃ W2, w1.alloc (.cells (two nilS nilS) 25) = W2 := ⟨_, rfl⟩
  have hb12 : Below w1.heap.size w1 W2 := by rw [← hW2]; exact (Below.refl _ _).alloc (Nat.le_refl _) _
  have hbx2 : W2.heap[w1.heap.size]? = some (.cells (two nilS nilS) 25 (0, 0)) := by rw [← hW2]; exact World.alloc_heap_new _ _
  obtain ⟨W3, hW3⟩ : ∃ W3, W2.setRow w1.heap.size (two (.slice A1 ls.length c1) (.slice A2 n2 c2)) = W3 := ⟨_, rfl⟩
  have hb23 : Below w1.heap.size w1 W3 := by rw [← hW3]; exact below_setRow2 hb12 (Nat.le_refl _) _
  have hbx3 : W3.heap[w1.heap.size]? = some (.cells (two (.slice A1 ls.length c1) (.slice A2 n2 c2)) 25 (0, 0)) := by rw [← hW3]; exact heap_setRow2 hbx2
  have hwi1 : Within r (r + 1) w w1 := ((Within.refl r (r + 1) w).below HBA.out.1).trans hw1
  have hP3 : PSt w r M cap' q w1.heap.size w.heap.size A (.slice A1 ls.length c1) (.slice A2 n2 c2) ls rs W3 :=
    ⟨kept_obj hb23 hrd, hwi1.below hb23, hbx3, ⟨nilS, nilS, kept_obj hb23 ((hw1.block w.heap.size (by omega) (by omega)).trans HBA.out.2.1)⟩, hl.kt (KT.of_below hb23), hr'.kt (KT.of_below hb23)⟩
  have HP3 := Lib.hid hP3
  have HPV := Lib.hid (hpv.kt (KT.of_below hb23))
  have HMA := Lib.hid (specMAll_any W3 (.slice A1 ls.length c1) (.slice A2 n2 c2) ls rs hP3.l.rows hP3.r'.rows)
  have HNE : Hid (w1.heap.size ≠ r ∧ w.heap.size ≠ r ∧ w1.heap.size ≠ w.heap.size) := Lib.hid ⟨by have := HBA.out.2.2.2; omega, by omega, by omega⟩
  have HL4 := Lib.hid (And.intro h1 (And.intro h4 hq))
  have HWR := Lib.hid hwr
  clear hl hr' hrd hw1 hb12 hb23 hP3 h1 h4 hq hz1 hz0 hwi1 hpv hwr
  go_wp2_with (first
    | (refine store_mi rfl _ _ rfl w1.heap.size _ _ rfl rfl nilS nilS rfl rfl hbx2 ?_; try rw [hW3])
    | (refine load_mi rfl _ rfl w1.heap.size _ _ rfl hbx3 ?_))
  clear hW2 hW3
  refine HMA.out.mono ?_
  rintro e w4 ⟨v4, us, rfl, hb4, ho4⟩
  have hPS := HP3.out.below hb4
  have HP4 := Lib.hid hPS
  have HPV4 := Lib.hid (HPV.out.kt (KT.of_below hb4))
  obtain ⟨Bm, hBm⟩ : ∃ Bm, w1.heap.size = Bm := ⟨_, rfl⟩
  simp only [hBm] at HP4 HNE ⊢
  clear hbx2 hbx3 hPS
  cases hok : mktOk ls rs with
  | false =>
    clear ho4 hb4 hBm hok
    go_wp2_with fail
    obtain ⟨y0, y1, yf, yl⟩ := two_cells (HP4.out.drew.bx)
    obtain ⟨r0, r1, hres⟩ := HP4.out.drew.res
    obtain ⟨k0, k1, kf, kl⟩ := two_cells hres
    have HTC := Lib.hid (fun (W : World) (Q : Nat) (h : PSt w r M cap' Q Bm w.heap.size A (.slice A1 ls.length c1) (.slice A2 n2 c2) ls rs W) => two_cells h.bx)
    have HTR := Lib.hid (fun (W : World) (Q : Nat) (h : PSt w r M cap' Q Bm w.heap.size A (.slice A1 ls.length c1) (.slice A2 n2 c2) ls rs W) => show ∃ x y, W.cell? ⟨w.heap.size, 0, none⟩ = some x ∧ W.cell? ⟨w.heap.size, 1, none⟩ = some y ∧ (∀ i, W.frozen? ⟨w.heap.size, i, none⟩ = false) from by
      obtain ⟨x, y, hb⟩ := h.res
      obtain ⟨a, b, c, _⟩ := two_cells hb
      exact ⟨x, y, a, b, c⟩)
    have HLD := Lib.hid (fun (W : World) (Q : Nat) (h : PSt w r M cap' Q Bm w.heap.size A (.slice A1 ls.length c1) (.slice A2 n2 c2) ls rs W) => h.laid HNE.out.2.1 HNE.out.2.2 (Nat.le_refl _) (.slice A1 ls.length c1) (.slice A2 n2 c2))
    have HRKK := Lib.hid (fun (W : World) (Q m : Nat) (hQ : Q ≤ 90000) (hm : m ≤ 6) (h : PSt w r M cap' Q Bm w.heap.size A (.slice A1 ls.length c1) (.slice A2 n2 c2) ls rs W) => pst_rank (k := m) h HXR.out hM hQ hm HNE.out.1 HNE.out.2.1)
    have hqq : q ≤ 80000 := by have := HL4.out.2.2; omega
    have hl6 : ls.length ≤ 6 := by have := HL4.out.2.1; omega
    clear hres
    go_region_held3 (fun W => W.cell? ⟨Bm, 0, none⟩ = some (.slice A1 ls.length c1) ∧ W.cell? ⟨Bm, 1, none⟩ = some (.slice A2 n2 c2))
      (first | exact ⟨y0, y1⟩ | exact ⟨(HTC.out _ _ hP6).1, (HTC.out _ _ hP6).2.1⟩ | exact ⟨(HTC.out _ _ (HLD.out _ _ hP6).1).1, (HTC.out _ _ (HLD.out _ _ hP6).1).2.1⟩ | exact ⟨(HTC.out _ _ (HLD.out _ _ HP4.out.drew).1).1, (HTC.out _ _ (HLD.out _ _ HP4.out.drew).1).2.1⟩)
      (first
        | (go_at_call 49; (first | (with_reducible refine (HRKK.out _ (q) ls.length (by omega) hl6 HP4.out.drew).mono ?_) | (with_reducible refine (HRKK.out _ (q) ls.length (by omega) hl6 (HLD.out _ _ HP4.out.drew).1).mono ?_)); rintro e w6 ⟨v6, xs6, rfl, hx6, hP6, hk6, hb6⟩; obtain ⟨q0', q1', q2', q3', q4'⟩ := HTR.out _ _ hP6))
    all_goals
      go_wp2_with fail
      refine bodyPost_ret (ret_mi_ss rfl _ _ w.heap.size (.slice A1 ls.length c1) (.slice A2 n2 c2) pv v6 rfl rfl rfl ?hb) rfl ?fin
      case hb => first | exact (HLD.out _ _ hP6).2 | exact hb6.trans (HLD.out _ _ HP4.out.drew).2
      case fin =>
        first
          | exact ⟨.slice A1 ls.length c1, .slice A2 n2 c2, pv, v6, ls, rs, xs, xs6, rfl, hP6.l, hP6.r', (HPV4.out.kt (HP4.out.drew.kt_laid _ _)).kt hk6, hx6, hP6.wi.to_below (Nat.le_of_lt HWR.out)⟩
          | exact ⟨.slice A1 ls.length c1, .slice A2 n2 c2, pv, v6, ls, rs, xs, xs6, rfl, (HLD.out _ _ hP6).1.l, (HLD.out _ _ hP6).1.r', (HPV4.out.kt hk6).kt (hP6.kt_laid _ _), hx6.kt (hP6.kt_laid _ _), (HLD.out _ _ hP6).1.wi.to_below (Nat.le_of_lt HWR.out)⟩
  | true =>
    have hlen := allL_some hok
    have hlen2 : (allL ls rs).length ≤ 1000 := by
      have h := allL_len ls rs
      have h4 := HL4.out.2.1
      have h1 := HL4.out.1
      exact Nat.le_trans h (Nat.le_trans (Nat.pow_le_pow_right h1 h4) (Nat.le_trans (Nat.pow_le_pow_left h4 4) (by decide)))
    obtain ⟨g, cg, rfl⟩ : ∃ g c, v4 = .slice (some ⟨g, 0, none⟩) (allL ls rs).length c := by
      rcases ho4.outer.1.2 with ⟨_, hz⟩ | ⟨g, c, cur, hs, _⟩
      · omega
      · exact ⟨g, c, hs⟩
    obtain ⟨N, hN⟩ : ∃ N, (allL ls rs).length = N := ⟨_, rfl⟩
    have hLR := lrow_of ho4 rfl
    obtain ⟨uf, huf⟩ : ∃ uf : Nat → Value, (fun j => us.getD j undef) = uf := ⟨_, rfl⟩
    obtain ⟨xf, hxf⟩ : ∃ xf : Nat → List Int, (fun j => (allL ls rs).getD j []) = xf := ⟨_, rfl⟩
    rw [huf, hxf] at hLR
    rw [hN] at hlen hlen2 hLR ⊢
    have HLR4 := Lib.hid hLR
    have HPK3 := Lib.hid (show Calls Try.prog 48 #[.pointer (some ⟨r, 0, none⟩), .int .i64 6] w4 _ from pst_pick (k := 6) HP4.out HXR.out hM (by have := HL4.out.2.2; omega) (by decide) (by decide) HNE.out.1 HNE.out.2.1)
    clear ho4 hb4 hBm hok huf hxf hN hLR
    go_wp2_with fail
    refine HPK3.out.mono ?_
    rintro e w4' ⟨x3, hx3, rfl, hP4', hk4', -⟩
    have HP4' := Lib.hid hP4'
    have HLR := Lib.hid (HLR4.out.kt hk4')
    have HPV4' := Lib.hid (HPV4.out.kt hk4')
    clear hP4' hk4'
    by_cases hx0 : x3 = 0
    · have e0 : (0 < x3) = False := eq_false (by omega)
      clear hx0 hx3
      go_wp2_with fail
      obtain ⟨y0, y1, yf, yl⟩ := two_cells (HP4'.out.drew.bx)
      obtain ⟨r0, r1, hres⟩ := HP4'.out.drew.res
      obtain ⟨k0, k1, kf, kl⟩ := two_cells hres
      have HTC := Lib.hid (fun (W : World) (Q : Nat) (h : PSt w r M cap' Q Bm w.heap.size A (.slice A1 ls.length c1) (.slice A2 n2 c2) ls rs W) => two_cells h.bx)
      have HTR := Lib.hid (fun (W : World) (Q : Nat) (h : PSt w r M cap' Q Bm w.heap.size A (.slice A1 ls.length c1) (.slice A2 n2 c2) ls rs W) => show ∃ x y, W.cell? ⟨w.heap.size, 0, none⟩ = some x ∧ W.cell? ⟨w.heap.size, 1, none⟩ = some y ∧ (∀ i, W.frozen? ⟨w.heap.size, i, none⟩ = false) from by
        obtain ⟨x, y, hb⟩ := h.res
        obtain ⟨a, b, c, _⟩ := two_cells hb
        exact ⟨x, y, a, b, c⟩)
      have HLD := Lib.hid (fun (W : World) (Q : Nat) (h : PSt w r M cap' Q Bm w.heap.size A (.slice A1 ls.length c1) (.slice A2 n2 c2) ls rs W) => h.laid HNE.out.2.1 HNE.out.2.2 (Nat.le_refl _) (.slice A1 ls.length c1) (.slice A2 n2 c2))
      have HRKK := Lib.hid (fun (W : World) (Q m : Nat) (hQ : Q ≤ 90000) (hm : m ≤ 6) (h : PSt w r M cap' Q Bm w.heap.size A (.slice A1 ls.length c1) (.slice A2 n2 c2) ls rs W) => pst_rank (k := m) h HXR.out hM hQ hm HNE.out.1 HNE.out.2.1)
      have hqq : q + 1 ≤ 80000 := by have := HL4.out.2.2; omega
      have hl6 : ls.length ≤ 6 := by have := HL4.out.2.1; omega
      clear hres
      go_region_held3 (fun W => W.cell? ⟨Bm, 0, none⟩ = some (.slice A1 ls.length c1) ∧ W.cell? ⟨Bm, 1, none⟩ = some (.slice A2 n2 c2))
        (first | exact ⟨y0, y1⟩ | exact ⟨(HTC.out _ _ hP6).1, (HTC.out _ _ hP6).2.1⟩ | exact ⟨(HTC.out _ _ (HLD.out _ _ hP6).1).1, (HTC.out _ _ (HLD.out _ _ hP6).1).2.1⟩ | exact ⟨(HTC.out _ _ (HLD.out _ _ HP4'.out.drew).1).1, (HTC.out _ _ (HLD.out _ _ HP4'.out.drew).1).2.1⟩)
        (first
          | (go_at_call 49; (first | (with_reducible refine (HRKK.out _ (q + 1) ls.length (by omega) hl6 HP4'.out.drew).mono ?_) | (with_reducible refine (HRKK.out _ (q + 1) ls.length (by omega) hl6 (HLD.out _ _ HP4'.out.drew).1).mono ?_)); rintro e w6 ⟨v6, xs6, rfl, hx6, hP6, hk6, hb6⟩; obtain ⟨q0', q1', q2', q3', q4'⟩ := HTR.out _ _ hP6))
      all_goals
        go_wp2_with fail
        refine bodyPost_ret (ret_mi_ss rfl _ _ w.heap.size (.slice A1 ls.length c1) (.slice A2 n2 c2) pv v6 rfl rfl rfl ?hb) rfl ?fin
        case hb => first | exact (HLD.out _ _ hP6).2 | exact hb6.trans (HLD.out _ _ HP4'.out.drew).2
        case fin =>
          first
            | exact ⟨.slice A1 ls.length c1, .slice A2 n2 c2, pv, v6, ls, rs, xs, xs6, rfl, hP6.l, hP6.r', (HPV4'.out.kt (HP4'.out.drew.kt_laid _ _)).kt hk6, hx6, hP6.wi.to_below (Nat.le_of_lt HWR.out)⟩
            | exact ⟨.slice A1 ls.length c1, .slice A2 n2 c2, pv, v6, ls, rs, xs, xs6, rfl, (HLD.out _ _ hP6).1.l, (HLD.out _ _ hP6).1.r', (HPV4'.out.kt hk6).kt (hP6.kt_laid _ _), hx6.kt (hP6.kt_laid _ _), (HLD.out _ _ hP6).1.wi.to_below (Nat.le_of_lt HWR.out)⟩
    · have e0 : (0 < x3) = True := eq_true (by omega)
      clear hx0 hx3
      obtain ⟨y0, y1, yf, yl⟩ := two_cells (HP4'.out.drew.bx)
      obtain ⟨r0, r1, hres⟩ := HP4'.out.drew.res
      obtain ⟨k0, k1, kf, kl⟩ := two_cells hres
      have HTC := Lib.hid (fun (W : World) (Q : Nat) (h : PSt w r M cap' Q Bm w.heap.size A (.slice A1 ls.length c1) (.slice A2 n2 c2) ls rs W) => two_cells h.bx)
      have HTR := Lib.hid (fun (W : World) (Q : Nat) (h : PSt w r M cap' Q Bm w.heap.size A (.slice A1 ls.length c1) (.slice A2 n2 c2) ls rs W) => show ∃ x y, W.cell? ⟨w.heap.size, 0, none⟩ = some x ∧ W.cell? ⟨w.heap.size, 1, none⟩ = some y ∧ (∀ i, W.frozen? ⟨w.heap.size, i, none⟩ = false) from by
        obtain ⟨x, y, hb⟩ := h.res
        obtain ⟨a, b, c, _⟩ := two_cells hb
        exact ⟨x, y, a, b, c⟩)
      have HLD := Lib.hid (fun (W : World) (Q : Nat) (h : PSt w r M cap' Q Bm w.heap.size A (.slice A1 ls.length c1) (.slice A2 n2 c2) ls rs W) => h.laid HNE.out.2.1 HNE.out.2.2 (Nat.le_refl _) (.slice A1 ls.length c1) (.slice A2 n2 c2))
      have HPKN := Lib.hid (fun (W : World) (Q : Nat) (hQ : Q ≤ 90000) (h : PSt w r M cap' Q Bm w.heap.size A (.slice A1 ls.length c1) (.slice A2 n2 c2) ls rs W) => pst_pick (k := N) h HXR.out hM hQ hlen hlen2 HNE.out.1 HNE.out.2.1)
      have HCE := Lib.hid (fun (W : World) (h : LRow g N uf xf W) => show ∀ j, j < N → W.cell? ⟨g, j, none⟩ = some (uf j) from fun j hj => (h j hj).1.1)
      have l0 := HCE.out _ (HLR.out.kt (KT.of_below (Below.drew (Below.refl _ _))))
      have hqq : q + 1 ≤ 80000 := by have := HL4.out.2.2; omega
      clear hres
      go_wp2_with fail
      go_region_held3 (fun W => W.cell? ⟨Bm, 0, none⟩ = some (.slice A1 ls.length c1) ∧ W.cell? ⟨Bm, 1, none⟩ = some (.slice A2 n2 c2) ∧ ∀ j, j < N → W.cell? ⟨g, j, none⟩ = some (uf j))
        (first | exact ⟨y0, y1, l0⟩ | exact ⟨(HTC.out _ _ hP5).1, (HTC.out _ _ hP5).2.1, HCE.out _ (HLR.out.kt hk5)⟩ | exact ⟨(HTC.out _ _ hP5).1, (HTC.out _ _ hP5).2.1, HCE.out _ ((HLR.out.kt (HP4'.out.drew.kt_laid _ _)).kt hk5)⟩ | exact ⟨(HTC.out _ _ (HLD.out _ _ hP5).1).1, (HTC.out _ _ (HLD.out _ _ hP5).1).2.1, HCE.out _ ((HLR.out.kt hk5).kt (hP5.kt_laid _ _))⟩ | exact ⟨(HTC.out _ _ (HLD.out _ _ HP4'.out.drew).1).1, (HTC.out _ _ (HLD.out _ _ HP4'.out.drew).1).2.1, HCE.out _ (HLR.out.kt (HP4'.out.drew.kt_laid _ _))⟩)
        (first
          | (go_at_call 48; (first | (with_reducible refine (HPKN.out _ (q + 1) (by omega) HP4'.out.drew).mono ?_) | (with_reducible refine (HPKN.out _ (q + 1) (by omega) (HLD.out _ _ HP4'.out.drew).1).mono ?_)); rintro e w5 ⟨x, hx, rfl, hP5, hk5, hb5⟩; obtain ⟨p0', p1', p2', p3', p4'⟩ := HTR.out _ _ hP5; have hxi : (x : Int) < (N : Int) := (by omega); have hxn : (0 : Int) ≤ (x : Int) := (by omega)))
      all_goals
        go_wp2_with fail
        refine bodyPost_ret (ret_mi_ss rfl _ _ w.heap.size (.slice A1 ls.length c1) (.slice A2 n2 c2) pv (uf x) rfl rfl rfl ?hb) rfl ?fin
        case hb => first | exact (HLD.out _ _ hP5).2 | exact hb5.trans (HLD.out _ _ HP4'.out.drew).2
        case fin =>
          first
            | exact ⟨.slice A1 ls.length c1, .slice A2 n2 c2, pv, uf x, ls, rs, xs, xf x, rfl, hP5.l, hP5.r', (HPV4'.out.kt (HP4'.out.drew.kt_laid _ _)).kt hk5, (((HLR.out.kt (HP4'.out.drew.kt_laid _ _)).kt hk5) x hx).2, hP5.wi.to_below (Nat.le_of_lt HWR.out)⟩
            | exact ⟨.slice A1 ls.length c1, .slice A2 n2 c2, pv, uf x, ls, rs, xs, xf x, rfl, (HLD.out _ _ hP5).1.l, (HLD.out _ _ hP5).1.r', (HPV4'.out.kt hk5).kt (hP5.kt_laid _ _), (((HLR.out.kt hk5).kt (hP5.kt_laid _ _)) x hx).2, (HLD.out _ _ hP5).1.wi.to_below (Nat.le_of_lt HWR.out)⟩

end Go.Proofs.Ytjbgjebbfkhidaa
