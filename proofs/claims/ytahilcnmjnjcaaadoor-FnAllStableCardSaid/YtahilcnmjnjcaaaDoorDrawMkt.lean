/-
  spec.l92Market: a market is drawn.
-/
import Derived.Test.YtahilcnmjnjcaaaDoorDraw1
import Derived.Test.YtahilcnmjnjcaaaDoorMkSt
import Derived.Deep.AppendLies
namespace Go.Proofs.YtahilcnmjnjcaaaDoor
set_option linter.unusedVariables false
set_option linter.unusedSimpArgs false
open Go.RowKit
set_option maxRecDepth 100000

theorem cells_made' {W : World} {g : Nat} {v : Value} {t : TypeId} (hg : g = W.heap.size) : ∀ j u, [v][j]? = some u → (W.alloc (.cells #[v] t)).cell? ((⟨g, 0, none⟩ : Addr).add j) = some u := by
  subst hg
  exact cell_one_new W v t
theorem ints_form {w : World} {lo hi : Nat} {v : Value} {xs : List Int} (h : OwnsInts w lo hi v xs) (h1 : 1 ≤ xs.length) : ∃ g c, v = sl g xs.length c := by
  rcases h.1.2 with ⟨_, h0⟩ | ⟨g, cap, cur, hv, _⟩
  · omega
  · exact ⟨g, cap, hv⟩
/-- Both rows while they are written over. -/
def DIn (w4 : World) (s1 s2 s3 n ga ca gb cb : Nat) (W : World) : Prop :=
  ∃ xs ys, xs.length = n ∧ ys.length = n ∧ OwnsInts W s1 s2 (sl ga n ca) xs ∧ OwnsInts W s2 s3 (sl gb n cb) ys ∧ Within s1 s3 w4 W
theorem din_a {w4 W : World} {s1 s2 s3 n ga ca gb cb : Nat} (h : DIn w4 s1 s2 s3 n ga ca gb cb W) (h12 : s1 ≤ s2) (h23 : s2 ≤ s3) {k : Nat} (hk : k < n) (z : Int) :
    (∃ x, W.cell? ⟨ga, k, none⟩ = some (.int .i64 x)) ∧ W.frozen? ⟨ga, k, none⟩ = false ∧ DIn w4 s1 s2 s3 n ga ca gb cb (W.setCell ⟨ga, k, none⟩ (.int .i64 z)) := by
  obtain ⟨xs, ys, hx, hy, ha, hb, hw⟩ := h
  have hA := ha.1
  rw [hx] at hA
  have hc := hA.cellAt k (by omega)
  have hst := (hA.stored k (.int .i64 z)).1
  have hg := grown_setCell W ga k (.int .i64 z)
  have hga : s1 ≤ ga ∧ ga < s2 := ⟨(hA.lt ga rfl).1, ha.2 ga rfl⟩
  have hW' : Within s1 s2 W (W.setCell ⟨ga, k, none⟩ (.int .i64 z)) := Within.of_grown hg (fun b hb => by cases hb; exact hga)
  refine ⟨⟨xs[k]'(by omega), by rw [hc]; simp [vals, show k < xs.length by omega]⟩, hA.frozenAt k, xs.set k z, ys, by simp [hx], hy, ⟨?_, ha.2⟩, hb.kept hW' (.inr (Nat.le_refl _)), hw.trans ⟨hW'.os, hW'.tape, hW'.output, hW'.size, fun j hj hj2 => hW'.block j hj (by omega)⟩⟩
  have e : (vals xs).set k (.int .i64 z) = vals (xs.set k z) := by simp [vals, List.map_set]
  rw [e] at hst
  have hl : (xs.set k z).length = n := by simp [hx]
  rw [hl]
  exact hst
theorem din_b {w4 W : World} {s1 s2 s3 n ga ca gb cb : Nat} (h : DIn w4 s1 s2 s3 n ga ca gb cb W) (h12 : s1 ≤ s2) (h23 : s2 ≤ s3) {k : Nat} (hk : k < n) (z : Int) :
    (∃ x, W.cell? ⟨gb, k, none⟩ = some (.int .i64 x)) ∧ W.frozen? ⟨gb, k, none⟩ = false ∧ DIn w4 s1 s2 s3 n ga ca gb cb (W.setCell ⟨gb, k, none⟩ (.int .i64 z)) := by
  obtain ⟨xs, ys, hx, hy, ha, hb, hw⟩ := h
  have hB := hb.1
  rw [hy] at hB
  have hc := hB.cellAt k (by omega)
  have hst := (hB.stored k (.int .i64 z)).1
  have hg := grown_setCell W gb k (.int .i64 z)
  have hgb : s2 ≤ gb ∧ gb < s3 := ⟨(hB.lt gb rfl).1, hb.2 gb rfl⟩
  have hW' : Within s2 s3 W (W.setCell ⟨gb, k, none⟩ (.int .i64 z)) := Within.of_grown hg (fun b hb => by cases hb; exact hgb)
  refine ⟨⟨ys[k]'(by omega), by rw [hc]; simp [vals, show k < ys.length by omega]⟩, hB.frozenAt k, xs, ys.set k z, hx, by simp [hy], ha.kept hW' (.inl (Nat.le_refl _)), ⟨?_, hb.2⟩, hw.trans ⟨hW'.os, hW'.tape, hW'.output, hW'.size, fun j hj hj2 => hW'.block j hj (by omega)⟩⟩
  have e : (vals ys).set k (.int .i64 z) = vals (ys.set k z) := by simp [vals, List.map_set]
  rw [e] at hst
  have hl : (ys.set k z).length = n := by simp [hy]
  rw [hl]
  exact hst

/-- What drawing a market leaves. -/
def GivesLM (w : World) (r M cap p0 : Nat) (A : Option Addr) (e : Ending) (w' : World) : Prop :=
  ∃ A1 c1 A2 n2 c2 ls rs q, e = .returned (.agg (two (.slice A1 ls.length c1) (.slice A2 n2 c2))) ∧ TRows w' (.slice A1 ls.length c1) ls ∧ TRows w' (.slice A2 n2 c2) rs ∧ 1 ≤ ls.length ∧ ls.length ≤ 4 ∧ q ≤ p0 + 60 ∧ w'.heap[r]? = some (.cells (rcells A M cap q) 97 (0, 0)) ∧ Within r (r + 1) w w'

set_option maxHeartbeats 4000000 in
theorem market_draw (w : World) (r p0 M cap : Nat) (A : Option Addr) (hr : w.heap[r]? = some (.cells (rcells A M cap p0) 97 (0, 0))) (hxr : Bytes w r A M) (hM : M ≤ 2000) (hp : p0 ≤ 80000) :
    Calls Tryd.prog 50 #[.pointer (some ⟨r, 0, none⟩)] w (GivesLM w r M cap p0 A) := by
  obtain ⟨i0, hi, hz0, hz1, hz2⟩ := info_parts infoRow
  have hrl := (Array.getElem?_eq_some_iff.1 hr).1
  have HXR := Lib.hid hxr
  have HRL0 := Lib.hid hrl
  obtain ⟨W0, hW0⟩ : ∃ W0, w.alloc (.cells (two nilS nilS) 28) = W0 := ⟨_, rfl⟩
  have hb0 : Below w.heap.size w W0 := by rw [← hW0]; exact (Below.refl _ _).alloc (Nat.le_refl _) _
  have hres0 : W0.heap[w.heap.size]? = some (.cells (two nilS nilS) 28 (0, 0)) := by rw [← hW0]; exact World.alloc_heap_new _ _
  have hsz0 : W0.heap.size = w.heap.size + 1 := by rw [← hW0]; simp
  have hwi0 : Within r (r + 1) w W0 := (Within.refl _ _ _).below hb0
  have HRL : Hid (r < W0.heap.size) := Lib.hid (by omega)
  have HPK := Lib.hid (pick_any W0 r p0 4 M cap A ((hb0.block r hrl).trans hr) (HXR.out.within hwi0) (by omega) hM (by omega) (by omega))
  clear hxr hr
  go_enter Tryd.func50, Tryd.ntmps50
  go_wp2_with fail
  clear hW0
  refine HPK.out.mono ?_
  rintro e w1 ⟨n0, hn0, rfl, hr1, hw1⟩
  obtain ⟨n, hn⟩ : ∃ n, n0 + 1 = n := ⟨_, rfl⟩
  have hn1 : 1 ≤ n := by omega
  have hn4 : n ≤ 4 := by omega
  have hs01 := hw1.size
  have hwi1 := hwi0.trans hw1
  have hres1 := (hw1.block w.heap.size (by omega) (.inr (by omega))).trans hres0
  -- the market's own block
  obtain ⟨W3, hW3⟩ : ∃ W3, ((w1.alloc (.cells #[] 39)).alloc (.cells #[] 39)).alloc (.cells (two nilS nilS) 28) = W3 := ⟨_, rfl⟩
  have hb13 : Below w1.heap.size w1 W3 := by rw [← hW3]; exact (((Below.refl _ _).alloc (Nat.le_refl _) _).alloc (by simp) _).alloc (by simp; omega) _
  have hbx3 : W3.heap[w1.heap.size + 1 + 1]? = some (.cells (two nilS nilS) 28 (0, 0)) := by
    rw [← hW3]
    have := World.alloc_heap_new ((w1.alloc (.cells #[] 39)).alloc (.cells #[] 39)) (.cells (two nilS nilS) 28)
    simpa using this
  have hL3 : W3.ownsRow W0.heap.size 39 1 (sl w1.heap.size 0 0) 0 [] := by
    rw [← hW3]
    exact ((World.ownsRow_made (base := W0.heap.size) (e := 39) (size := 1) w1 #[] 0 (by omega) (Nat.zero_le _) rfl).alloc _).alloc _
  have hR3 : W3.ownsRow W0.heap.size 39 1 (sl (w1.heap.size + 1) 0 0) 0 [] := by
    rw [← hW3]
    have := World.ownsRow_made (base := W0.heap.size) (e := 39) (size := 1) (w1.alloc (.cells #[] 39)) #[] 0 (by simp; omega) (Nat.zero_le _) rfl
    rw [World.size_alloc] at this
    exact this.alloc _
  have hz3 : W3.heap.size = w1.heap.size + 3 := by rw [← hW3]; simp
  obtain ⟨W4, hW4⟩ : ∃ W4, W3.setRow (w1.heap.size + 1 + 1) (two (sl w1.heap.size 0 0) (sl (w1.heap.size + 1) 0 0)) = W4 := ⟨_, rfl⟩
  have hbx4 : W4.heap[w1.heap.size + 1 + 1]? = some (.cells (two (sl w1.heap.size 0 0) (sl (w1.heap.size + 1) 0 0)) 28 (0, 0)) := by rw [← hW4]; exact heap_setRow2 hbx3
  have hg34 : W3.grownBy W4 (some (w1.heap.size + 1 + 1)) := by rw [← hW4]; exact grown_setRow2 _ _ _
  have hz4 : W4.heap.size = W3.heap.size := by rw [← hW4]; simp [World.setRow]
  have hb14 : Below w1.heap.size w1 W4 := hb13.grown hg34 hb13.size (fun k hk => by cases hk; omega)
  obtain ⟨Bm, hBm⟩ : ∃ Bm, w1.heap.size + 1 + 1 = Bm := ⟨_, rfl⟩
  have HBW : Hid (W0.heap.size ≤ Bm) := Lib.hid (by omega)
  have HD4 : Hid (DMk W0 r M cap A (p0 + 1 + 9 * 0) Bm 0 W4) := Lib.hid (by
    refine ⟨w1.heap.size, 0, w1.heap.size + 1, 0, [], [], [], [], p0 + 1, by omega, by rw [← hBm]; exact hbx4, (hb14.block r (Array.getElem?_eq_some_iff.1 hr1).1).trans hr1, ?_, ?_, rfl, rfl, by omega, hw1.below hb14⟩
    · exact (owns_rows_nil _ _ _ hL3).other hg34 hbx3 (by decide) (by decide) |>.wide (Nat.le_refl _) (by omega)
    · exact (owns_rows_nil _ _ _ hR3).other hg34 hbx3 (by decide) (by decide) |>.wide (Nat.le_refl _) (by omega))
  have HRES : Hid (W0.heap[w.heap.size]? = some (.cells (two nilS nilS) 28 (0, 0)) ∧ Within r (r + 1) w W0 ∧ W0.heap.size = w.heap.size + 1) := Lib.hid ⟨hres0, hwi0, by omega⟩
  have hnw : IntKind.i64.wrap (1 + (n0 : Int)) = (n : Int) := by rw [wraps_i64 _ (by omega) (by omega)]; omega
  have hnw2 := (wrap_eq _).symm.trans hnw
  clear hb0 hres0 hsz0 hwi0 hr1 hw1 hs01 hwi1 hres1 hb13 hL3 hR3 hz3 hbx4 hg34 hz4 hb14 hrl
  rw [hBm] at hbx3 hW4
  go_wp2_with (refine store_mi rfl _ _ rfl Bm _ _ rfl rfl nilS nilS rfl rfl hbx3 ?_)
  try rw [hW4]
  clear hnw hnw2 hW3 hW4 hbx3 hn0 hn hBm
  go_loopw [5, 6, 7, 8] (fun iv _ _ _ wr => ∃ i : Nat, i ≤ n ∧ iv = .int .i64 (i : Int) ∧ DMk W0 r M cap A (p0 + 1 + 9 * i) Bm i wr) (fun iv _ _ _ _ => n - (intOf iv).toNat)
  case atStart => exact ⟨0, by omega, rfl, HD4.out⟩
  case round =>
    obtain ⟨i, hin, rfl, gL, cL, gR, cR, us, us', ls, rs, q, hq, hbx, hrd, hL, hR, hll, hrl, hne, hw⟩ := hrel
    by_cases hlt : i < n
    · have hni : (i : Int) < (n : Int) := by omega
      obtain ⟨wq, hwq⟩ : ∃ wq, wq = wr := ⟨_, rfl⟩
      subst hwq
      have HX := Lib.hid (And.intro hbx (And.intro hL (And.intro hR hw)))
      have HLL := Lib.hid (And.intro hll (And.intro hrl hne))
      have hwz := hw.size
      have hBs : Bm < wq.heap.size := (Array.getElem?_eq_some_iff.1 hbx).1
      have hnbl : Bm ≠ gL := fun e => by
        obtain ⟨c, f, h⟩ := row_cells hL.outer.1 (b := gL) rfl
        rw [← e, hbx] at h
        simp at h
      have hnbr : Bm ≠ gR := fun e => by
        obtain ⟨c, f, h⟩ := row_cells hR.outer.1 (b := gR) rfl
        rw [← e, hbx] at h
        simp at h
      have HNE := Lib.hid (And.intro hnbl hnbr)
      have HR1 := Lib.hid (rank_draw wq r q n M cap A hrd ((HXR.out.within HRES.out.2.1).within hw) hM (by omega) (by omega))
      clear hbx hrd hL hR hll hrl hne hw hnbl hnbr
      go_wp2_with fail
      refine HR1.out.mono ?_
      rintro e w2 ⟨av, xs, rfl, hxl, hoa, hr2, hw2⟩
      obtain ⟨ga, ca, rfl⟩ := ints_form hoa (by omega)
      rw [hxl]
      rw [hxl] at hoa
      have HA := Lib.hid (And.intro hxl hoa)
      have HR2 := Lib.hid (rank_draw w2 r (q + n) n M cap A hr2 (((HXR.out.within HRES.out.2.1).within HX.out.2.2.2).within hw2) hM (by omega) (by omega))
      have HW2 := Lib.hid hw2
      clear hxl hoa hr2 hw2
      go_wp2_with fail
      refine HR2.out.mono ?_
      rintro e w3 ⟨bv, ys, rfl, hyl, hob, hr3, hw3⟩
      obtain ⟨gb, cb, rfl⟩ := ints_form hob (by omega)
      rw [hyl]
      rw [hyl] at hob
      have HB := Lib.hid (And.intro hyl hob)
      have HP3 := Lib.hid (pick_any w3 r (q + n + n) 3 M cap A hr3 ((((HXR.out.within HRES.out.2.1).within HX.out.2.2.2).within HW2.out).within hw3) (by omega) hM (by omega) (by omega))
      have HW3 := Lib.hid hw3
      clear hyl hob hr3 hw3
      go_wp2_with fail
      refine HP3.out.mono ?_
      rintro e w4 ⟨x, hx3, rfl, hr4, hw4⟩
      have hw14 := (HW2.out.trans HW3.out).trans hw4
      have hz12 := HW2.out.size
      have hz23 := HW3.out.size
      have hz34 := hw4.size
      have hrl0 := HRL.out
      have hbw0 := HBW.out
      have H4 : Hid (w4.heap[Bm]? = some (.cells (two (sl gL i cL) (sl gR i cR)) 28 (0, 0)) ∧ w4.heap[r]? = some (.cells (rcells A M cap (q + n + n + 1)) 97 (0, 0)) ∧ OwnsRows w4 W0.heap.size wq.heap.size (sl gL i cL) us ls ∧ OwnsRows w4 W0.heap.size wq.heap.size (sl gR i cR) us' rs ∧ Within r (r + 1) W0 w4) := Lib.hid
        ⟨(hw14.block Bm hBs (by omega)).trans HX.out.1, hr4, HX.out.2.1.kept hw14 (.inr (by omega)), HX.out.2.2.1.kept hw14 (.inr (by omega)), HX.out.2.2.2.trans hw14⟩
      have HS : Hid (w3.heap.size ≤ w4.heap.size ∧ wq.heap.size ≤ w2.heap.size ∧ w2.heap.size ≤ w3.heap.size ∧ w3.heap.size ≤ w4.heap.size ∧ Bm < wq.heap.size ∧ W0.heap.size ≤ wq.heap.size ∧ r < W0.heap.size) := Lib.hid ⟨hz34, hz12, hz23, hz34, hBs, hwz, hrl0⟩
      have HDI : Hid (DIn w4 wq.heap.size w2.heap.size w3.heap.size n ga ca gb cb w4) := Lib.hid
        ⟨xs, ys, HA.out.1, HB.out.1, (HA.out.2.kept HW3.out (.inr (by omega))).kept hw4 (.inr (by omega)), HB.out.2.kept hw4 (.inr (by omega)), Within.refl _ _ _⟩
      clear hr4 hw4 hw14 hz12 hz23 hz34 hrl0 hbw0 hBs hwz
      by_cases hx0 : x = 0
      · have e0 : ((x : Int) == 0) = true := by rw [beq_iff_eq]; omega
        clear hx0 hx3
        go_wp2_with fail
        go_loopw [8] (fun kv wr => ∃ k : Nat, k ≤ n ∧ kv = .int .i64 (k : Int) ∧ DIn w4 wq.heap.size w2.heap.size w3.heap.size n ga ca gb cb wr) (fun kv _ => n - (intOf kv).toNat)
        case atStart => exact ⟨0, by omega, rfl, HDI.out⟩
        case round =>
          obtain ⟨k, hkn, rfl, hDI⟩ := hrel
          by_cases hlt2 : k < n
          · have hni2 : (k : Int) < (n : Int) := by omega
            have hk0 : (0 : Int) ≤ (k : Int) := by omega
            have hnz : ((n : Int) == 0) = false := by rw [beq_eq_false_iff_ne]; omega
            obtain ⟨s1, hs1⟩ : ∃ s1, i + k = s1 := ⟨_, rfl⟩
            obtain ⟨s2, hs2⟩ : ∃ s2, s1 + 1 = s2 := ⟨_, rfl⟩
            obtain ⟨z1, hz1'⟩ : ∃ z, s1 % n = z := ⟨_, rfl⟩
            obtain ⟨z2, hz2'⟩ : ∃ z, s2 % n = z := ⟨_, rfl⟩
            have m1 : (s1 : Int) % (n : Int) = (z1 : Int) := by rw [← hz1', Int.natCast_emod]
            have m2 : (s2 : Int) % (n : Int) = (z2 : Int) := by rw [← hz2', Int.natCast_emod]
            have t1 : (s1 : Int).tmod (n : Int) = (z1 : Int) := by rw [← m1, Int.tmod_eq_emod_of_nonneg (by omega)]
            have t2 : (s2 : Int).tmod (n : Int) = (z2 : Int) := by rw [← m2, Int.tmod_eq_emod_of_nonneg (by omega)]
            obtain ⟨⟨x1, hx1⟩, hf1, hd1⟩ := din_a hDI HS.out.2.1 HS.out.2.2.1 hlt2 (z1 : Int)
            obtain ⟨⟨x2, hx2⟩, hf2, hd2⟩ := din_b hd1 HS.out.2.1 HS.out.2.2.1 hlt2 (z2 : Int)
            have HD2 := Lib.hid hd2
            have hb1 : s1 ≤ 100 := by omega
            have hb2 : s2 ≤ 100 := by omega
            have a1 : (i : Int) + (k : Int) = (s1 : Int) := by omega
            have a2 : (s1 : Int) + 1 = (s2 : Int) := by omega
            have p1 : IntKind.i64.wrap ((i : Int) + (k : Int)) = (s1 : Int) := by rw [a1]; exact wraps_i64 _ (by omega) (by omega)
            have p2 : IntKind.i64.wrap ((s1 : Int) + 1) = (s2 : Int) := by rw [a2]; exact wraps_i64 _ (by clear p1; omega) (by clear p1; omega)
            have p3 := (wrap_eq _).symm.trans p1
            have p4 := (wrap_eq _).symm.trans p2
            clear hd1 hd2 hDI hs1 hs2 hz1' hz2' hb1 hb2 a1 a2
            go_wp2
            clear p1 p2 p3 p4 m1 m2 t1 t2
            go_roundw
            case rel => exact ⟨k + 1, by omega, by go_num, HD2.out⟩
            case measure => simp [intOf]; omega
          · obtain rfl : n = k := by omega
            have HJ := Lib.hid hDI
            clear hDI
            obtain ⟨xs', ys', hxl', hyl', hA', hB', hW'⟩ := HJ.out
            have hwi' := hW'.size
            have hs3 := HS.out.1
            have hs12 := HS.out.2.1
            have hs23 := HS.out.2.2.1
            have hs34 := HS.out.2.2.2.1
            have hBs := HS.out.2.2.2.2.1
            have hwr := HS.out.2.2.2.2.2.1
            have hrw0 := HS.out.2.2.2.2.2.2
            have hbx := (hW'.block Bm (by omega) (.inl hBs)).trans H4.out.1
            have hrd := (hW'.block r (by omega) (.inl (by omega))).trans H4.out.2.1
            have hLo := H4.out.2.2.1.kept hW' (.inl (Nat.le_refl _))
            have hRo := H4.out.2.2.2.1.kept hW' (.inl (Nat.le_refl _))
            have hwn : Within r (r + 1) W0 wr := ⟨hW'.os.trans H4.out.2.2.2.2.os, hW'.tape.trans H4.out.2.2.2.2.tape, hW'.output.trans H4.out.2.2.2.2.output, Nat.le_trans H4.out.2.2.2.2.size hW'.size, fun k hk hk2 => (hW'.block k (by have := H4.out.2.2.2.2.size; omega) (.inl (by omega))).trans (H4.out.2.2.2.2.block k hk hk2)⟩
            have HST := Lib.hid (fun (w5 : World) (g5 c5 : Nat) (hown5 : w5.ownsRow W0.heap.size 39 1 (sl g5 (i + 1) c5) (i + 1) (us ++ [sl ga n ca])) (hgrow5 : (wr.alloc (.cells #[sl ga n ca] 39)).grownBy w5 (some gL)) (hor5 : some gL = some g5 ∨ g5 = (wr.alloc (.cells #[sl ga n ca] 39)).heap.size) (w7 : World) (g7 c7 : Nat) (hown7 : w7.ownsRow W0.heap.size 39 1 (sl g7 (i + 1) c7) (i + 1) (us' ++ [sl gb n cb])) (hgrow7 : ((w5.setCell ⟨Bm, 0, none⟩ (sl g5 (i + 1) c5)).alloc (.cells #[sl gb n cb] 39)).grownBy w7 (some gR)) (hor7 : some gR = some g7 ∨ g7 = ((w5.setCell ⟨Bm, 0, none⟩ (sl g5 (i + 1) c5)).alloc (.cells #[sl gb n cb] 39)).heap.size) =>
              dmk_step (p := p0 + 1 + 9 * (i + 1)) (q := q + n + n + 1) (by omega) HRL.out HBW.out hwr (show wq.heap.size ≤ wr.heap.size by omega) hBs hbx hrd hLo hRo HLL.out.1 HLL.out.2.1 HLL.out.2.2 hwn (hA'.wide (Nat.le_refl _) (by omega)) (hB'.wide (by omega) (by omega)) hown5 hgrow5 hor5 hown7 hgrow7 hor7)
            have HB5 := Lib.hid (fun (w5 : World) (hgrow5 : (wr.alloc (.cells #[sl ga n ca] 39)).grownBy w5 (some gL)) => show w5.heap[Bm]? = some (.cells (two (sl gL i cL) (sl gR i cR)) 28 (0, 0)) from
              (hgrow5.block Bm (by simp; omega) (some_ne HNE.out.1)).trans ((Below.heap_alloc _ _ _ (by omega)).trans hbx))
            have HB7 := Lib.hid (fun (w5 w7 : World) (g5 c5 : Nat) (hgrow5 : (wr.alloc (.cells #[sl ga n ca] 39)).grownBy w5 (some gL)) (hgrow7 : ((w5.setCell ⟨Bm, 0, none⟩ (sl g5 (i + 1) c5)).alloc (.cells #[sl gb n cb] 39)).grownBy w7 (some gR)) => show w7.heap[Bm]? = some (.cells (two (sl g5 (i + 1) c5) (sl gR i cR)) 28 (0, 0)) from by
              have h5 := HB5.out w5 hgrow5
              have hz := hgrow5.size
              have hz' : (w5.setCell ⟨Bm, 0, none⟩ (sl g5 (i + 1) c5)).heap.size = w5.heap.size := by simp [World.setCell]
              simp at hz
              refine (hgrow7.block Bm (by simp [World.setCell]; omega) (some_ne HNE.out.2)).trans ((Below.heap_alloc _ _ _ (by omega)).trans ?_)
              rw [heap_setCell_same _ _ 0 _ _ _ h5]; rfl)
            have HLO := Lib.hid hLo.outer.1
            have HRO := Lib.hid (fun (w5 : World) (g5 c5 : Nat) (hgrow5 : (wr.alloc (.cells #[sl ga n ca] 39)).grownBy w5 (some gL)) => show (w5.setCell ⟨Bm, 0, none⟩ (sl g5 (i + 1) c5)).ownsRow W0.heap.size 39 1 (sl gR i cR) i us' from by
              have hb := (Below.refl wr.heap.size wr).alloc (Nat.le_refl _) (.cells #[sl ga n ca] 39)
              have h1 : OwnsRows w5 W0.heap.size wq.heap.size (sl gR i cR) us' rs := (hRo.below hb).beside (v2 := sl gL i cL) hgrow5 (hLo.below hb).outer.1 (.inr (by simp only [Value.ownBlock]; exact some_ne (Ne.symm HLL.out.2.2)))
              have h2 := (h1.other (grown_setCell w5 Bm 0 (sl g5 (i + 1) c5)) (HB5.out w5 hgrow5) (by decide) (by decide)).outer.1
              rw [HLL.out.2.1] at h2
              exact h2)
            rw [HLL.out.1] at HLO
            obtain ⟨y0, y1, yf, yl⟩ := two_cells hbx
            have hwsz : W0.heap.size ≤ wr.heap.size := by omega
            clear hrw0 hxl' hyl' hA' hB' hW' hwi' hs3 hs12 hs23 hs34 hBs hwr hbx hrd hLo hRo hwn
            go_wp2_with (first
              | (at_builtin; refine wpList_append_lies _ rfl (.tmp 52) (.tmp 54) 22 rfl W0.heap.size 39 i0 (.slice none 0 0) 1 24 Tryd.underlying22 hi hz0 hz1 hz2 rfl (by decide) (sl gL i cL) i us rfl (HLO.out.alloc _) ⟨wr.heap.size, 0, none⟩ 1 1 [sl ga n ca] rfl rfl (cell_one_new _ _ _) (by simp [Value.oneCell']) (by decide) (by unfold maxLen; omega) (by omega) (by simp; omega) _ rfl ?_; intro g5 c5 w5 hown5 hgrow5 hor5 hlt5; obtain ⟨z0, z1, zf, zl⟩ := two_cells (HB5.out w5 hgrow5); have hwz5 : W0.heap.size ≤ w5.heap.size := (by have := hgrow5.size; simp at this; omega))
              | (at_builtin; refine wpList_append_lies _ rfl (.tmp 58) (.tmp 60) 22 rfl W0.heap.size 39 i0 (.slice none 0 0) 1 24 Tryd.underlying22 hi hz0 hz1 hz2 rfl (by decide) (sl gR i cR) i us' rfl ((HRO.out w5 g5 c5 hgrow5).alloc _) ⟨w5.heap.size, 0, none⟩ 1 1 [sl gb n cb] rfl rfl ?q1 (by simp [Value.oneCell']) (by decide) (by unfold maxLen; omega) (by omega) (by simp [World.setCell]; omega) _ rfl ?_; rotate_left 1; intro g7 c7 w7 hown7 hgrow7 hor7 hlt7; obtain ⟨v0, v1, vf, vl⟩ := two_cells (HB7.out w5 w7 g5 c5 hgrow5 hgrow7)))
            case q1 => exact cells_made' (by simp [World.setCell])
            have HD9 := Lib.hid (HST.out w5 g5 c5 hown5 hgrow5 hor5 w7 g7 c7 hown7 hgrow7 hor7)
            clear hown5 hgrow5 hor5 hlt5 hown7 hgrow7 hor7 hlt7
            go_roundw
            case rel => exact ⟨i + 1, by omega, by go_num, HD9.out⟩
            case measure => simp [intOf]; omega
      · have e0 : ((x : Int) == 0) = false := by rw [beq_eq_false_iff_ne]; omega
        clear hx0 hx3
        obtain ⟨xs', ys', hxl', hyl', hA', hB', hW'⟩ := HDI.out
        have hwi' := hW'.size
        have hs3 := HS.out.1
        have hs12 := HS.out.2.1
        have hs23 := HS.out.2.2.1
        have hs34 := HS.out.2.2.2.1
        have hBs := HS.out.2.2.2.2.1
        have hwr := HS.out.2.2.2.2.2.1
        have hrw0 := HS.out.2.2.2.2.2.2
        have hbx := (hW'.block Bm (by omega) (.inl hBs)).trans H4.out.1
        have hrd := (hW'.block r (by omega) (.inl (by omega))).trans H4.out.2.1
        have hLo := H4.out.2.2.1.kept hW' (.inl (Nat.le_refl _))
        have hRo := H4.out.2.2.2.1.kept hW' (.inl (Nat.le_refl _))
        have hwn : Within r (r + 1) W0 w4 := ⟨hW'.os.trans H4.out.2.2.2.2.os, hW'.tape.trans H4.out.2.2.2.2.tape, hW'.output.trans H4.out.2.2.2.2.output, Nat.le_trans H4.out.2.2.2.2.size hW'.size, fun k hk hk2 => (hW'.block k (by have := H4.out.2.2.2.2.size; omega) (.inl (by omega))).trans (H4.out.2.2.2.2.block k hk hk2)⟩
        have HST := Lib.hid (fun (w5 : World) (g5 c5 : Nat) (hown5 : w5.ownsRow W0.heap.size 39 1 (sl g5 (i + 1) c5) (i + 1) (us ++ [sl ga n ca])) (hgrow5 : (w4.alloc (.cells #[sl ga n ca] 39)).grownBy w5 (some gL)) (hor5 : some gL = some g5 ∨ g5 = (w4.alloc (.cells #[sl ga n ca] 39)).heap.size) (w7 : World) (g7 c7 : Nat) (hown7 : w7.ownsRow W0.heap.size 39 1 (sl g7 (i + 1) c7) (i + 1) (us' ++ [sl gb n cb])) (hgrow7 : ((w5.setCell ⟨Bm, 0, none⟩ (sl g5 (i + 1) c5)).alloc (.cells #[sl gb n cb] 39)).grownBy w7 (some gR)) (hor7 : some gR = some g7 ∨ g7 = ((w5.setCell ⟨Bm, 0, none⟩ (sl g5 (i + 1) c5)).alloc (.cells #[sl gb n cb] 39)).heap.size) =>
          dmk_step (p := p0 + 1 + 9 * (i + 1)) (q := q + n + n + 1) (by omega) HRL.out HBW.out hwr (show wq.heap.size ≤ w4.heap.size by omega) hBs hbx hrd hLo hRo HLL.out.1 HLL.out.2.1 HLL.out.2.2 hwn (hA'.wide (Nat.le_refl _) (by omega)) (hB'.wide (by omega) (by omega)) hown5 hgrow5 hor5 hown7 hgrow7 hor7)
        have HB5 := Lib.hid (fun (w5 : World) (hgrow5 : (w4.alloc (.cells #[sl ga n ca] 39)).grownBy w5 (some gL)) => show w5.heap[Bm]? = some (.cells (two (sl gL i cL) (sl gR i cR)) 28 (0, 0)) from
          (hgrow5.block Bm (by simp; omega) (some_ne HNE.out.1)).trans ((Below.heap_alloc _ _ _ (by omega)).trans hbx))
        have HB7 := Lib.hid (fun (w5 w7 : World) (g5 c5 : Nat) (hgrow5 : (w4.alloc (.cells #[sl ga n ca] 39)).grownBy w5 (some gL)) (hgrow7 : ((w5.setCell ⟨Bm, 0, none⟩ (sl g5 (i + 1) c5)).alloc (.cells #[sl gb n cb] 39)).grownBy w7 (some gR)) => show w7.heap[Bm]? = some (.cells (two (sl g5 (i + 1) c5) (sl gR i cR)) 28 (0, 0)) from by
          have h5 := HB5.out w5 hgrow5
          have hz := hgrow5.size
          have hz' : (w5.setCell ⟨Bm, 0, none⟩ (sl g5 (i + 1) c5)).heap.size = w5.heap.size := by simp [World.setCell]
          simp at hz
          refine (hgrow7.block Bm (by simp [World.setCell]; omega) (some_ne HNE.out.2)).trans ((Below.heap_alloc _ _ _ (by omega)).trans ?_)
          rw [heap_setCell_same _ _ 0 _ _ _ h5]; rfl)
        have HLO := Lib.hid hLo.outer.1
        have HRO := Lib.hid (fun (w5 : World) (g5 c5 : Nat) (hgrow5 : (w4.alloc (.cells #[sl ga n ca] 39)).grownBy w5 (some gL)) => show (w5.setCell ⟨Bm, 0, none⟩ (sl g5 (i + 1) c5)).ownsRow W0.heap.size 39 1 (sl gR i cR) i us' from by
          have hb := (Below.refl w4.heap.size w4).alloc (Nat.le_refl _) (.cells #[sl ga n ca] 39)
          have h1 : OwnsRows w5 W0.heap.size wq.heap.size (sl gR i cR) us' rs := (hRo.below hb).beside (v2 := sl gL i cL) hgrow5 (hLo.below hb).outer.1 (.inr (by simp only [Value.ownBlock]; exact some_ne (Ne.symm HLL.out.2.2)))
          have h2 := (h1.other (grown_setCell w5 Bm 0 (sl g5 (i + 1) c5)) (HB5.out w5 hgrow5) (by decide) (by decide)).outer.1
          rw [HLL.out.2.1] at h2
          exact h2)
        rw [HLL.out.1] at HLO
        obtain ⟨y0, y1, yf, yl⟩ := two_cells hbx
        have hwsz : W0.heap.size ≤ w4.heap.size := by omega
        clear hrw0 hxl' hyl' hA' hB' hW' hwi' hs3 hs12 hs23 hs34 hBs hwr hbx hrd hLo hRo hwn
        go_wp2_with (first
          | (at_builtin; refine wpList_append_lies _ rfl (.tmp 52) (.tmp 54) 22 rfl W0.heap.size 39 i0 (.slice none 0 0) 1 24 Tryd.underlying22 hi hz0 hz1 hz2 rfl (by decide) (sl gL i cL) i us rfl (HLO.out.alloc _) ⟨w4.heap.size, 0, none⟩ 1 1 [sl ga n ca] rfl rfl (cell_one_new _ _ _) (by simp [Value.oneCell']) (by decide) (by unfold maxLen; omega) (by omega) (by simp; omega) _ rfl ?_; intro g5 c5 w5 hown5 hgrow5 hor5 hlt5; obtain ⟨z0, z1, zf, zl⟩ := two_cells (HB5.out w5 hgrow5); have hwz5 : W0.heap.size ≤ w5.heap.size := (by have := hgrow5.size; simp at this; omega))
          | (at_builtin; refine wpList_append_lies _ rfl (.tmp 58) (.tmp 60) 22 rfl W0.heap.size 39 i0 (.slice none 0 0) 1 24 Tryd.underlying22 hi hz0 hz1 hz2 rfl (by decide) (sl gR i cR) i us' rfl ((HRO.out w5 g5 c5 hgrow5).alloc _) ⟨w5.heap.size, 0, none⟩ 1 1 [sl gb n cb] rfl rfl ?q1 (by simp [Value.oneCell']) (by decide) (by unfold maxLen; omega) (by omega) (by simp [World.setCell]; omega) _ rfl ?_; rotate_left 1; intro g7 c7 w7 hown7 hgrow7 hor7 hlt7; obtain ⟨v0, v1, vf, vl⟩ := two_cells (HB7.out w5 w7 g5 c5 hgrow5 hgrow7)))
        case q1 => exact cells_made' (by simp [World.setCell])
        have HD9 := Lib.hid (HST.out w5 g5 c5 hown5 hgrow5 hor5 w7 g7 c7 hown7 hgrow7 hor7)
        clear hown5 hgrow5 hor5 hlt5 hown7 hgrow7 hor7 hlt7
        go_roundw
        case rel => exact ⟨i + 1, by omega, by go_num, HD9.out⟩
        case measure => simp [intOf]; omega
    · obtain rfl : i = n := by omega
      have hbs : Bm < wr.heap.size := (Array.getElem?_eq_some_iff.1 hbx).1
      have hwz := hw.size
      have hcap : i ≤ cR := by
        rcases hR.outer.1.2 with ⟨h0, _⟩ | ⟨g', cap', cur, hv, hb', hg', hnc, _⟩
        · cases h0
        · obtain ⟨-, -, rfl⟩ : _ ∧ _ ∧ cR = cap' := by simpa [sl] using hv
          omega
      have HP := Lib.hid (pick_any wr r q 40 M cap A hrd ((HXR.out.within HRES.out.2.1).within hw) (by omega) hM (by omega) (by omega))
      have HX := Lib.hid (And.intro hbx (And.intro hL (And.intro hR hw)))
      have HLL := Lib.hid (And.intro hll (And.intro hrl hne))
      clear hbx hrd hL hR hll hrl hne hw
      go_wp2_with fail
      refine HP.out.mono ?_
      rintro e w5 ⟨x, hx3, rfl, hr5, hw5⟩
      have hrl0 := HRL.out
      have hbw0 := HBW.out
      have hz5 := hw5.size
      have hbx5 := (hw5.block Bm hbs (by omega)).trans HX.out.1
      have hwa := HX.out.2.2.2.trans hw5
      have hres5 := (hwa.block w.heap.size (by have := HRES.out.2.2; omega) (by have := HRL0.out; omega)).trans HRES.out.1
      have hL5 := HX.out.2.1.kept hw5 (.inr (by omega))
      have hR5 := HX.out.2.2.1.kept hw5 (.inr (by omega))
      have hrz := HRES.out.2.2
      have hrl00 := HRL0.out
      by_cases hx0 : x = 0
      · have e0 : ((x : Int) == 0) = true := by rw [beq_iff_eq]; omega
        obtain ⟨A2, hA2⟩ : ∃ A2, (if cR = 1 then some (⟨gR, 0, none⟩ : Addr) else some ⟨gR, 1, none⟩) = A2 := ⟨_, rfl⟩
        have HA2 := Lib.hid hA2
        have hn1i : (1 : Int) ≤ (i : Int) := by omega
        have hn1c : (i : Int) ≤ (cR : Int) := by omega
        obtain ⟨y0, y1, yf, yl⟩ := two_cells hbx5
        obtain ⟨W6, hW6⟩ : ∃ W6, w5.setCell ⟨Bm, 1, none⟩ (.slice A2 (i - 1) (cR - 1)) = W6 := ⟨_, rfl⟩
        have hg6 : w5.grownBy W6 (some Bm) := by rw [← hW6]; exact grown_setCell _ _ _ _
        have hz6 : W6.heap.size = w5.heap.size := by rw [← hW6]; simp [World.setCell]
        have hbx6 : W6.heap[Bm]? = some (.cells (two (sl gL i cL) (.slice A2 (i - 1) (cR - 1))) 28 (0, 0)) := by rw [← hW6, heap_setCell_same _ _ 1 _ _ _ hbx5]; rfl
        have hres6 := (hg6.block w.heap.size (by omega) (some_ne (by omega))).trans hres5
        have hg7 := grown_setRow2 W6 w.heap.size (two (sl gL i cL) (.slice A2 (i - 1) (cR - 1)))
        have hz7 : (W6.setRow w.heap.size (two (sl gL i cL) (.slice A2 (i - 1) (cR - 1)))).heap.size = W6.heap.size := by simp [World.setRow]
        have hLz := trows_of ((hL5.other hg6 hbx5 (by decide) (by decide)).other hg7 hres6 (by decide) (by decide))
        have hRz := trows_of ((hR5.other hg6 hbx5 (by decide) (by decide)).other hg7 hres6 (by decide) (by decide))
        have hrr : (W6.setRow w.heap.size (two (sl gL i cL) (.slice A2 (i - 1) (cR - 1)))).heap[r]? = some (.cells (rcells A M cap (q + 1)) 97 (0, 0)) := (hg7.block r (by omega) (some_ne (by omega))).trans ((hg6.block r (by omega) (some_ne (by omega))).trans hr5)
        have hwz7 : Within r (r + 1) w (W6.setRow w.heap.size (two (sl gL i cL) (.slice A2 (i - 1) (cR - 1)))) := by
          have h1 := HRES.out.2.1.trans hwa
          exact ⟨hg7.os.trans (hg6.os.trans h1.os), hg7.tape.trans (hg6.tape.trans h1.tape), hg7.output.trans (hg6.output.trans h1.output), by omega, fun k hk hk2 => (hg7.block k (by omega) (some_ne (by omega))).trans ((hg6.block k (by omega) (some_ne (by omega))).trans (h1.block k hk hk2))⟩
        have HFIN := Lib.hid (And.intro hLz (And.intro hRz (And.intro hrr hwz7)))
        have hm6 := hcap
        clear hx0 hx3 hr5 hw5 hrl0 hbw0 hz5 hwa hL5 hR5 hg6 hz6 hg7 hz7 hLz hRz hrr hwz7 hbs hwz
        go_wp2_with (first
          | (refine load_mi rfl _ rfl Bm _ _ rfl hbx6 ?_)
          | (refine store_mi rfl _ _ rfl w.heap.size _ _ rfl rfl nilS nilS rfl rfl hres6 ?_))
        refine bodyPost_ret (ret_mi rfl _ _ w.heap.size _ _ rfl (heap_setRow2 hres6)) rfl ?_
        obtain ⟨hLz, hRz, hrr, hwz7⟩ := HFIN.out
        have e : sl gL i cL = .slice (some ⟨gL, 0, none⟩) ls.length cL := by rw [HLL.out.1]
        refine ⟨some ⟨gL, 0, none⟩, cL, A2, i - 1, cR - 1, ls, rs.drop 1, q + 1, by rw [← e], by rw [← e]; exact hLz, rows_drop hRz (by omega) HA2.out hm6, by rw [HLL.out.1]; exact hn1, by rw [HLL.out.1]; exact hn4, by omega, hrr, hwz7⟩
      · have e0 : ((x : Int) == 0) = false := by rw [beq_eq_false_iff_ne]; omega
        have hg7 := grown_setRow2 w5 w.heap.size (two (sl gL i cL) (sl gR i cR))
        have hz7 : (w5.setRow w.heap.size (two (sl gL i cL) (sl gR i cR))).heap.size = w5.heap.size := by simp [World.setRow]
        have hLz := trows_of (hL5.other hg7 hres5 (by decide) (by decide))
        have hRz := trows_of (hR5.other hg7 hres5 (by decide) (by decide))
        have hrr : (w5.setRow w.heap.size (two (sl gL i cL) (sl gR i cR))).heap[r]? = some (.cells (rcells A M cap (q + 1)) 97 (0, 0)) := (hg7.block r (by omega) (some_ne (by omega))).trans hr5
        have hwz7 : Within r (r + 1) w (w5.setRow w.heap.size (two (sl gL i cL) (sl gR i cR))) := by
          have h1 := HRES.out.2.1.trans hwa
          exact ⟨hg7.os.trans h1.os, hg7.tape.trans h1.tape, hg7.output.trans h1.output, by omega, fun k hk hk2 => (hg7.block k (by omega) (some_ne (by omega))).trans (h1.block k hk hk2)⟩
        have HFIN := Lib.hid (And.intro hLz (And.intro hRz (And.intro hrr hwz7)))
        clear hx0 hx3 hr5 hw5 hrl0 hbw0 hz5 hwa hL5 hR5 hg7 hz7 hLz hRz hrr hwz7 hbs hwz hcap
        go_wp2_with (first
          | (refine load_mi rfl _ rfl Bm _ _ rfl hbx5 ?_)
          | (refine store_mi rfl _ _ rfl w.heap.size _ _ rfl rfl nilS nilS rfl rfl hres5 ?_))
        refine bodyPost_ret (ret_mi rfl _ _ w.heap.size _ _ rfl (heap_setRow2 hres5)) rfl ?_
        obtain ⟨hLz, hRz, hrr, hwz7⟩ := HFIN.out
        have e : sl gL i cL = .slice (some ⟨gL, 0, none⟩) ls.length cL := by rw [HLL.out.1]
        refine ⟨some ⟨gL, 0, none⟩, cL, some ⟨gR, 0, none⟩, i, cR, ls, rs, q + 1, by rw [← e], by rw [← e]; exact hLz, hRz, by rw [HLL.out.1]; exact hn1, by rw [HLL.out.1]; exact hn4, by omega, hrr, hwz7⟩

end Go.Proofs.YtahilcnmjnjcaaaDoor
