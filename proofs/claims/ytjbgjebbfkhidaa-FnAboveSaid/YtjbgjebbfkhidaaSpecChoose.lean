/-
  spec.l6mChoose: the better partners, or the worse ones.
-/
import Derived.Test.YtjbgjebbfkhidaaSpecStab
import Derived.Test.YtjbgjebbfkhidaaReadStab
namespace Go.Proofs.Ytjbgjebbfkhidaa
set_option linter.unusedVariables false
set_option linter.unusedSimpArgs false
open Go.RowKit

def chooseAt (ls : List (List Int)) (ps qs : List Int) (better : Bool) (i : Nat) : Int :=
  if (decide (place (ls.getD i []) (ps.getD i 0) < place (ls.getD i []) (qs.getD i 0)) == better) = true then ps.getD i 0 else qs.getD i 0
def chooseTo (ls : List (List Int)) (ps qs : List Int) (better : Bool) (k : Nat) : List Int := (List.range k).map (chooseAt ls ps qs better)
theorem chooseTo_succ (ls : List (List Int)) (ps qs : List Int) (better : Bool) (k : Nat) : chooseTo ls ps qs better (k + 1) = chooseTo ls ps qs better k ++ [chooseAt ls ps qs better k] := by
  simp [chooseTo, List.range_succ]
theorem chooseTo_len (ls : List (List Int)) (ps qs : List Int) (better : Bool) (k : Nat) : (chooseTo ls ps qs better k).length = k := by simp [chooseTo]
def chooseOf (ls rs : List (List Int)) (ps qs : List Int) (better : Bool) : List Int := if bothB ls rs ps qs = true then chooseTo ls ps qs better ls.length else []
theorem chooseOf_yes {ls rs : List (List Int)} {ps qs : List Int} {better : Bool} (h : bothB ls rs ps qs = true) : chooseOf ls rs ps qs better = chooseTo ls ps qs better ls.length := if_pos h
theorem chooseOf_no {ls rs : List (List Int)} {ps qs : List Int} {better : Bool} (h : bothB ls rs ps qs = false) : chooseOf ls rs ps qs better = [] := by unfold chooseOf; rw [h]; rfl
theorem chooseOf_len (ls rs : List (List Int)) (ps qs : List Int) (better : Bool) : (chooseOf ls rs ps qs better).length ≤ 1048576 := by
  cases h : bothB ls rs ps qs with
  | true =>
    rw [chooseOf_yes h, chooseTo_len]
    unfold bothB at h
    rw [Bool.and_eq_true] at h
    have := (pair_parts (stable_parts h.1).1).2.1
    omega
  | false => rw [chooseOf_no h]; simp
theorem gives_ints_no {w W : World} (hb : Below w.heap.size w W) : GivesInts w false [] (.returned (.tuple #[nilS, .bool false])) W := ⟨nilS, rfl, hb, World.ownsRow_nil _ _ _ _⟩

/-- What stands while partners are chosen. -/
structure ChSt (w wr : World) (L R v : Value) (xs : List Int) : Prop where
  bel : Below w.heap.size w wr
  box : wr.heap[w.heap.size]? = some (.cells (two L R) 25 (0, 0))
  out : wr.ownsRow w.heap.size 3 1 v xs.length (vals xs)
theorem ChSt.drewN {w wr : World} {L R v : Value} {xs : List Int} (h : ChSt w wr L R v xs) (n : Nat) : ChSt w (wr.drewN n) L R v xs := ⟨below_drewN h.bel n, h.box, h.out⟩
theorem ChSt.push {w wr w3 : World} {L R v v' : Value} {xs : List Int} {x : Int} (h : ChSt w wr L R v xs) (hown : w3.ownsRow w.heap.size 3 1 v' (xs.length + 1) (vals xs ++ [.int .i64 x])) (hg : (wr.alloc (.cells #[.int .i64 x] 3)).grownBy w3 v.ownBlock) : ChSt w w3 L R v' (xs ++ [x]) := by
  have hb : Below wr.heap.size wr (wr.alloc (.cells #[.int .i64 x] 3)) := (Below.refl _ _).alloc (Nat.le_refl _) _
  refine ⟨(step_below h.bel hb).grown hg (by have := h.bel.size; simp; omega) (fun k hk => (h.out.lt k hk).1), ?_, ?_⟩
  · refine ((hg.block _ (by have := (Array.getElem?_eq_some_iff.1 h.box).1; simp; omega) (fun e => ?_)).trans (kept_obj hb h.box))
    obtain ⟨c1, f1, hc1⟩ := row_cells h.out e.symm
    rw [h.box] at hc1
    simp at hc1
  · have e : (xs ++ [x]).length = xs.length + 1 := by simp
    rw [e]
    simpa [vals] using hown

set_option maxRecDepth 100000 in
set_option maxHeartbeats 4000000 in
theorem choose_any (w : World) (L R v u : Value) (ls rs : List (List Int)) (ps qs : List Int) (better : Bool) (hL : IntRows w L ls) (hR : IntRows w R rs) (hp : Ints w v ps) (hq : Ints w u qs) :
    Calls Try.prog 44 #[.agg (two L R), v, u, .bool better] w (GivesInts w (bothB ls rs ps qs) (chooseOf ls rs ps qs better)) := by
  obtain ⟨i0, hi, hz0, hz1, hz2⟩ := info_parts infoInt
  obtain ⟨W0, hW0⟩ : ∃ W0, (w.alloc (.cells (two L R) 25)).alloc (.cells #[] 3) = W0 := ⟨_, rfl⟩
  have hb0 : Below w.heap.size w W0 := by rw [← hW0]; exact ((Below.refl _ _).alloc (Nat.le_refl _) _).alloc (by simp) _
  have hbox : W0.heap[w.heap.size]? = some (.cells (two L R) 25 (0, 0)) := by rw [← hW0]; exact heap_two_old _ _ _
  have hout : W0.ownsRow w.heap.size 3 1 (.slice (some ⟨w.heap.size + 1, 0, none⟩) 0 0) 0 [] := by
    rw [← hW0]
    have := World.ownsRow_made (base := w.heap.size) (e := 3) (size := 1) (w.alloc (.cells (two L R) 25)) #[] 0 (by simp) (Nat.zero_le _) rfl
    rwa [World.size_alloc] at this
  have HS1 := Lib.hid (l6mStable_any W0 L R v ls rs ps (hL.below hb0) (hR.below hb0) (hp.below hb0))
  have HS2 := Lib.hid (fun (W : World) (hW : Below w.heap.size w W) => l6mStable_any W L R u ls rs qs (hL.below hW) (hR.below hW) (hq.below hW))
  have HB0 := Lib.hid hb0
  have HOUT := Lib.hid hout
  have HLR := Lib.hid (And.intro hL (And.intro hp hq))
  obtain ⟨x0', x1', _, _⟩ := two_cells hbox
  clear hL hR hp hq hb0 hout
  cases hok1 : stableB ls rs ps with
  | false =>
    have HNO : Hid (bothB ls rs ps qs = false) := Lib.hid (by unfold bothB; rw [hok1]; rfl)
    rw [hok1] at HS1
    clear hok1
    go_enter Try.func44, Try.ntmps44
    go_wp2_with (refine load_mi rfl _ rfl w.heap.size L R rfl hbox ?_)
    clear hW0
    refine HS1.out.mono ?_
    rintro e w1 ⟨rfl, hb1⟩
    have HB1 := Lib.hid (step_below HB0.out hb1)
    have HO1 := Lib.hid (owns_below HOUT.out hb1)
    clear hb1
    go_wp2
    go_ret2
    exact ⟨_, by rw [HNO.out]; rfl, HB1.out, by rw [chooseOf_no HNO.out]; exact HO1.out⟩
  | true =>
    cases hok2 : stableB ls rs qs with
    | false =>
      have HNO : Hid (bothB ls rs ps qs = false) := Lib.hid (by unfold bothB; rw [hok1, hok2]; rfl)
      rw [hok1] at HS1
      rw [hok2] at HS2
      clear hok1 hok2
      go_enter Try.func44, Try.ntmps44
      go_wp2_with (refine load_mi rfl _ rfl w.heap.size L R rfl hbox ?_)
      clear hW0
      refine HS1.out.mono ?_
      rintro e w1 ⟨rfl, hb1⟩
      have HB1 := Lib.hid (step_below HB0.out hb1)
      have hbox1 := kept_obj hb1 hbox
      obtain ⟨y0', y1', _, _⟩ := two_cells hbox1
      have HO1 := Lib.hid (owns_below HOUT.out hb1)
      clear hb1
      go_wp2_with (first
        | (refine load_mi rfl _ rfl w.heap.size L R rfl hbox1 ?_)
        | (go_at_call 39; refine (HS2.out _ HB1.out).mono ?_; rintro e w2 ⟨rfl, hb2⟩))
      go_ret2
      exact ⟨_, by rw [HNO.out]; rfl, step_below HB1.out hb2, by rw [chooseOf_no HNO.out]; exact owns_below HO1.out hb2⟩
    | true =>
      obtain ⟨h1, h5, hrl, hpl, hls, hrs, hpr⟩ := pair_parts (stable_parts hok1).1
      obtain ⟨_, _, _, hql, _, _, hqr⟩ := pair_parts (stable_parts hok2).1
      have HYES : Hid (bothB ls rs ps qs = true) := Lib.hid (by unfold bothB; rw [hok1, hok2]; rfl)
      have HFACT := Lib.hid (And.intro hpl hql)
      rw [hok1] at HS1
      rw [hok2] at HS2
      obtain ⟨hL, hp, hq⟩ := HLR.out
      obtain ⟨A, cap, rfl, hm, hc⟩ := hp
      obtain ⟨B, capb, rfl, hmb, hcb⟩ := hq
      obtain ⟨A1, cap1, hLe, hm1, hc1⟩ := hL.at
      have HLE := Lib.hid hLe
      have HC := Lib.hid hc
      have HCB := Lib.hid hcb
      have HC1 := Lib.hid hc1
      clear hok1 hok2 hrl hpl hls hrs hpr hql hqr hL hc hcb hc1 hLe
      unfold maxLen at hm hmb hm1
      go_enter Try.func44, Try.ntmps44
      go_wp2_with (refine load_mi rfl _ rfl w.heap.size L R rfl hbox ?_)
      clear hW0
      refine HS1.out.mono ?_
      rintro e w1 ⟨rfl, hb1⟩
      have HB1 := Lib.hid (step_below HB0.out hb1)
      have hbox1 := kept_obj hb1 hbox
      obtain ⟨y0', y1', _, _⟩ := two_cells hbox1
      have HO1 := Lib.hid (owns_below HOUT.out hb1)
      clear hb1
      go_wp2_with (first
        | (refine load_mi rfl _ rfl w.heap.size L R rfl hbox1 ?_)
        | (go_at_call 39; refine (HS2.out _ HB1.out).mono ?_; rintro e w2 ⟨rfl, hb2⟩))
      have HST : Hid (ChSt w w2 L R (.slice (some ⟨w.heap.size + 1, 0, none⟩) 0 0) []) := Lib.hid ⟨step_below HB1.out hb2, kept_obj hb2 hbox1, owns_below HO1.out hb2⟩
      clear hb2 hbox hbox1 x0' x1' y0' y1'
      go_loopw [10, 11, 12] (fun r i _ wr => ∃ k : Nat, k ≤ ps.length ∧ i = .int .i64 k ∧ ChSt w wr L R r (chooseTo ls ps qs better k)) (fun _ i _ _ => ps.length - (intOf i).toNat)
      case atStart => exact ⟨0, by omega, rfl, HST.out⟩
      case round =>
        obtain ⟨k, hk, rfl, hst⟩ := hrel
        have HS := Lib.hid hst
        obtain ⟨hpl, hql⟩ := HFACT.out
        by_cases hlt : k < ps.length
        · have hkl : k < ls.length := by omega
          have hkq : k < qs.length := by omega
          obtain ⟨b1, o1, rfl, hcell0⟩ := HC.out k hlt
          obtain ⟨b2, o2, rfl, hcell20⟩ := HCB.out k hkq
          obtain ⟨b3, o3, u3, rfl, hcell30, hu3⟩ := HC1.out k hkl
          have hbR := hst.bel
          have hcell := (hbR.cell (p := ⟨b1, o1 + k, none⟩) (World.block_lt_of_cell? w _ hcell0)).trans hcell0
          have hcell2 := (hbR.cell (p := ⟨b2, o2 + k, none⟩) (World.block_lt_of_cell? w _ hcell20)).trans hcell20
          have hcell3 := (hbR.cell (p := ⟨b3, o3 + k, none⟩) (World.block_lt_of_cell? w _ hcell30)).trans hcell30
          obtain ⟨y0, _, _, _⟩ := two_cells hst.box
          rw [HLE.out] at y0
          obtain ⟨pi, hpi⟩ : ∃ x, ps[k] = x := ⟨_, rfl⟩
          obtain ⟨qi, hqi⟩ : ∃ x, qs[k] = x := ⟨_, rfl⟩
          rw [hpi] at hcell
          rw [hqi] at hcell2
          obtain ⟨z1, hz1'⟩ : ∃ z : Int, (place ls[k] pi : Int) = z := ⟨_, rfl⟩
          obtain ⟨z2, hz2'⟩ : ∃ z : Int, (place ls[k] qi : Int) = z := ⟨_, rfl⟩
          have HP1 := Lib.hid (fun (W : World) (hW : Below w.heap.size w W) => l6mPlace_q u3 ls[k] pi z1 hz1' W (hu3.below hW))
          have HP2 := Lib.hid (fun (W : World) (hW : Below w.heap.size w W) => l6mPlace_q u3 ls[k] qi z2 hz2' W (hu3.below hW))
          have hat : chooseAt ls ps qs better k = if (decide (z1 < z2) == better) = true then pi else qi := by
            unfold chooseAt
            have e1 : ls.getD k [] = ls[k] := by simp [List.getD, hkl]
            have e2 : ps.getD k 0 = ps[k] := by simp [List.getD, hlt]
            have e3 : qs.getD k 0 = qs[k] := by simp [List.getD, hkq]
            rw [e1, e2, e3, hpi, hqi, ← hz1', ← hz2']
            simp only [Int.ofNat_lt]
          have HAT := Lib.hid hat
          have hki : (k : Int) < (ps.length : Int) := by omega
          have hki2 : (k : Int) < (qs.length : Int) := by omega
          have hki3 : (k : Int) < (ls.length : Int) := by omega
          have hk0 : (0 : Int) ≤ (k : Int) := by omega
          have hcl := chooseTo_len ls ps qs better k
          have HCL := Lib.hid hcl
          have HBR := Lib.hid hbR
          clear hcell0 hcell20 hcell30 hu3 hpi hqi hz1' hz2' hat hbR hpl hql hcl hst
          cases hcmp : (decide (z1 < z2) == better) with
          | true =>
            have HX : Hid (chooseAt ls ps qs better k = pi) := Lib.hid (by rw [HAT.out, hcmp]; rfl)
            go_wp2
            go_quiet ((go_at_call 40; first | (with_reducible exact Calls.quiet_of_same (HP1.out _ (below_drewN HBR.out _))) | (with_reducible exact Calls.quiet_of_same (HP2.out _ (below_drewN HBR.out _)))))
            obtain ⟨wq, hwq⟩ : ∃ wq, wr.drewN nq = wq := ⟨_, rfl⟩
            have hsq : ChSt w wq L R u10 (chooseTo ls ps qs better k) := by rw [← hwq]; exact HS.out.drewN nq
            have g1 : wq.cell? ⟨b1, o1 + k, none⟩ = some (.int .i64 pi) := by rw [← hwq]; exact hcell
            have g2 : wq.cell? ⟨b2, o2 + k, none⟩ = some (.int .i64 qi) := by rw [← hwq]; exact hcell2
            rw [hwq]
            clear hwq hcell hcell2 hcell3 y0
            have hro := hsq.out
            rw [HCL.out] at hro
            have hbs := hsq.bel.size
            have HSQ := Lib.hid hsq
            clear hsq
            go_wp2_with (at_builtin; refine wpList_append_own _ rfl _ _ 26 rfl w.heap.size 3 i0 (.int .i64 0) 1 8 Try.underlying26 hi hz0 hz1 hz2 rfl (by decide) _ _ _ rfl (hro.alloc _) ⟨wq.heap.size, 0, none⟩ 1 1 [.int .i64 pi] rfl rfl (cell_one_new _ _ _) (by simp [Value.oneCell']) (by unfold maxLen; omega) (by omega) (by simp; omega) ?_; intro v' w3 hown hgrow _)
            have HPS := Lib.hid (HSQ.out.push (x := pi) (by rw [HCL.out]; exact hown) hgrow)
            clear hown hgrow hro g1 g2
            go_wp2
            go_roundw
            case rel => exact ⟨k + 1, by omega, by go_num, by rw [chooseTo_succ, HX.out]; exact HPS.out⟩
            case measure => simp [intOf]; omega
          | false =>
            have HX : Hid (chooseAt ls ps qs better k = qi) := Lib.hid (by rw [HAT.out, hcmp]; rfl)
            go_wp2
            go_quiet ((go_at_call 40; first | (with_reducible exact Calls.quiet_of_same (HP1.out _ (below_drewN HBR.out _))) | (with_reducible exact Calls.quiet_of_same (HP2.out _ (below_drewN HBR.out _)))))
            obtain ⟨wq, hwq⟩ : ∃ wq, wr.drewN nq = wq := ⟨_, rfl⟩
            have hsq : ChSt w wq L R u10 (chooseTo ls ps qs better k) := by rw [← hwq]; exact HS.out.drewN nq
            have g1 : wq.cell? ⟨b1, o1 + k, none⟩ = some (.int .i64 pi) := by rw [← hwq]; exact hcell
            have g2 : wq.cell? ⟨b2, o2 + k, none⟩ = some (.int .i64 qi) := by rw [← hwq]; exact hcell2
            rw [hwq]
            clear hwq hcell hcell2 hcell3 y0
            have hro := hsq.out
            rw [HCL.out] at hro
            have hbs := hsq.bel.size
            have HSQ := Lib.hid hsq
            clear hsq
            go_wp2_with (at_builtin; refine wpList_append_own _ rfl _ _ 26 rfl w.heap.size 3 i0 (.int .i64 0) 1 8 Try.underlying26 hi hz0 hz1 hz2 rfl (by decide) _ _ _ rfl (hro.alloc _) ⟨wq.heap.size, 0, none⟩ 1 1 [.int .i64 qi] rfl rfl (cell_one_new _ _ _) (by simp [Value.oneCell']) (by unfold maxLen; omega) (by omega) (by simp; omega) ?_; intro v' w3 hown hgrow _)
            have HPS := Lib.hid (HSQ.out.push (x := qi) (by rw [HCL.out]; exact hown) hgrow)
            clear hown hgrow hro g1 g2
            go_wp2
            go_roundw
            case rel => exact ⟨k + 1, by omega, by go_num, by rw [chooseTo_succ, HX.out]; exact HPS.out⟩
            case measure => simp [intOf]; omega
        · obtain rfl : k = ps.length := by omega
          clear hst
          have HEQ : Hid (chooseOf ls rs ps qs better = chooseTo ls ps qs better ps.length) := Lib.hid (by rw [chooseOf_yes HYES.out, hpl])
          clear hpl hql
          go_wp2
          go_ret2
          exact ⟨_, by rw [HYES.out]; rfl, HS.out.bel, by rw [HEQ.out]; exact HS.out.out⟩

set_option maxRecDepth 100000 in
set_option maxHeartbeats 1000000 in
theorem specSJoin_any (w : World) (L R v u : Value) (ls rs : List (List Int)) (ps qs : List Int) (hL : IntRows w L ls) (hR : IntRows w R rs) (hp : Ints w v ps) (hq : Ints w u qs) :
    Calls Try.prog 20 #[.agg (two L R), v, u] w (GivesInts w (bothB ls rs ps qs) (chooseOf ls rs ps qs true)) := by
  obtain ⟨W0, hW0⟩ : ∃ W0, w.alloc (.cells (two L R) 25) = W0 := ⟨_, rfl⟩
  have hb0 : Below w.heap.size w W0 := by rw [← hW0]; exact (Below.refl _ _).alloc (Nat.le_refl _) _
  have hbox : W0.heap[w.heap.size]? = some (.cells (two L R) 25 (0, 0)) := by rw [← hW0]; exact World.alloc_heap_new _ _
  have HC := Lib.hid (choose_any W0 L R v u ls rs ps qs true (hL.below hb0) (hR.below hb0) (hp.below hb0) (hq.below hb0))
  have HB0 := Lib.hid hb0
  clear hL hR hp hq hb0
  go_enter Try.func20, Try.ntmps20
  go_wp2_with (refine load_mi rfl _ rfl w.heap.size L R rfl hbox ?_)
  clear hW0
  refine HC.out.mono ?_
  rintro e w1 ⟨y, rfl, hb1, ho1⟩
  have HB1 := Lib.hid (And.intro (step_below HB0.out hb1) (owns_mono ho1 HB0.out.size))
  clear hb1 ho1
  go_wp2
  go_ret2
  exact ⟨y, rfl, HB1.out.1, HB1.out.2⟩

set_option maxRecDepth 100000 in
set_option maxHeartbeats 1000000 in
theorem specSMeet_any (w : World) (L R v u : Value) (ls rs : List (List Int)) (ps qs : List Int) (hL : IntRows w L ls) (hR : IntRows w R rs) (hp : Ints w v ps) (hq : Ints w u qs) :
    Calls Try.prog 24 #[.agg (two L R), v, u] w (GivesInts w (bothB ls rs ps qs) (chooseOf ls rs ps qs false)) := by
  obtain ⟨W0, hW0⟩ : ∃ W0, w.alloc (.cells (two L R) 25) = W0 := ⟨_, rfl⟩
  have hb0 : Below w.heap.size w W0 := by rw [← hW0]; exact (Below.refl _ _).alloc (Nat.le_refl _) _
  have hbox : W0.heap[w.heap.size]? = some (.cells (two L R) 25 (0, 0)) := by rw [← hW0]; exact World.alloc_heap_new _ _
  have HC := Lib.hid (choose_any W0 L R v u ls rs ps qs false (hL.below hb0) (hR.below hb0) (hp.below hb0) (hq.below hb0))
  have HB0 := Lib.hid hb0
  clear hL hR hp hq hb0
  go_enter Try.func24, Try.ntmps24
  go_wp2_with (refine load_mi rfl _ rfl w.heap.size L R rfl hbox ?_)
  clear hW0
  refine HC.out.mono ?_
  rintro e w1 ⟨y, rfl, hb1, ho1⟩
  have HB1 := Lib.hid (And.intro (step_below HB0.out hb1) (owns_mono ho1 HB0.out.size))
  clear hb1 ho1
  go_wp2
  go_ret2
  exact ⟨y, rfl, HB1.out.1, HB1.out.2⟩

end Go.Proofs.Ytjbgjebbfkhidaa
