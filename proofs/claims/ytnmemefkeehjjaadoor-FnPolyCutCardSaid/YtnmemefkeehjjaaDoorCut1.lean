/-
  Cut1: CutEdge Near SpecCut CutBoth.
-/
import Derived.Test.YtnmemefkeehjjaaDoorFit1
import Derived.Test.YtnmemefkeehjjaaDoorCore2
import Derived.Deep.AppendLies
import Derived.Deep.RegionLaw
import Derived.Outline
/-
  (graph).cut and (graph).areNeighbours.
-/
namespace Go.Proofs.YtnmemefkeehjjaaDoor
set_option linter.unusedVariables false
set_option linter.unusedSimpArgs false
open Go.RowKit

/-- The edge of two nodes taken out. -/
def cutE (f : Nat → Nat) (a b : Nat) : Nat → Nat := upd (upd f a (f a &&& (255 - 2 ^ b))) b (upd f a (f a &&& (255 - 2 ^ b)) b &&& (255 - 2 ^ a))

theorem less_lt {s m : Nat} (hs : s < 256) : s &&& m < 256 := Nat.lt_of_le_of_lt Nat.and_le_left hs

set_option maxRecDepth 100000 in
set_option maxHeartbeats 1000000 in
theorem cut_any (n : Nat) (f : Nat → Nat) (a b : Nat) (ha : a < 8) (hb : b < 8) (hf : ∀ i, f i < 256) (w : World) :
    Calls Tryd.prog 78 #[.agg (gcells n f), .int .i64 (a : Int), .int .i64 (b : Int)] w fun e w' => e = .returned (.agg (gcells n (cutE f a b))) ∧ Below w.heap.size w w' := by
  have hl1 : f a &&& (255 - 2 ^ b) < 256 := less_lt (hf a)
  obtain ⟨f1, hf1⟩ : ∃ f1, upd f a (f a &&& (255 - 2 ^ b)) = f1 := ⟨_, rfl⟩
  have hfl : ∀ i, f1 i < 256 := by rw [← hf1]; exact upd_lt hf hl1
  obtain ⟨f2, hf2⟩ : ∃ f2, upd f1 b (f1 b &&& (255 - 2 ^ a)) = f2 := ⟨_, rfl⟩
  have hlnk : cutE f a b = f2 := by unfold cutE; rw [hf1, hf2]
  rw [hlnk]
  have g1 := gcells_at n f a ha
  have s1 := gcells_set n f a (f a &&& (255 - 2 ^ b)) ha
  rw [hf1] at s1
  have g2 := gcells_at n f1 b hb
  have s2 := gcells_set n f1 b (f1 b &&& (255 - 2 ^ a)) hb
  rw [hf2] at s2
  have h1 := hf a
  have h2 := hfl b
  clear hf hfl hl1 hf1 hf2 hlnk
  go_enter Tryd.func78, Tryd.ntmps78
  go_wp2_with (first
    | (go_at_call 70; refine (without_any (f a) b h1 hb _).mono ?_; rintro e w' ⟨rfl, rfl⟩)
    | (go_at_call 70; refine (without_any (f1 b) a h2 ha _).mono ?_; rintro e w' ⟨rfl, rfl⟩)
    | (refine load_graph rfl _ rfl _ n f2 rfl (heap_alloc2_old _ _ _) ?_)
    | (refine store_graph rfl _ _ rfl _ n f2 rfl rfl 0 (fun _ => 0) (heap_alloc2_new _ _ _) ?_))
  refine bodyPost_ret (v := .agg (gcells n f2)) (ret_graph rfl _ _ (w.heap.size + 1) n f2 rfl (heap_setRow_same (heap_alloc2_new _ _ _))) rfl ⟨rfl, ?_⟩
  exact below_setRow (((Below.refl _ _).alloc (Nat.le_refl _) _).alloc (by simp) _) (by omega) _

end Go.Proofs.YtnmemefkeehjjaaDoor

/-
  (graph).areNeighbours.
-/
namespace Go.Proofs.YtnmemefkeehjjaaDoor
set_option linter.unusedVariables false
set_option linter.unusedSimpArgs false
open Go.RowKit

/-- Whether two numbers are nodes and neighbours. -/
def nearB (n : Nat) (f : Nat → Nat) (a b : Int) : Bool := decide (0 ≤ a ∧ a < (n : Int)) && (decide (0 ≤ b ∧ b < (n : Int)) && (f a.toNat).testBit b.toNat)

set_option maxHeartbeats 1000000 in
theorem near_any (n : Nat) (f : Nat → Nat) (a b : Int) (h8 : n ≤ 8) (hf : ∀ i, f i < 256) (w : World) :
    Calls Tryd.prog 77 #[.agg (gcells n f), .int .i64 a, .int .i64 b] w fun e w' => e = .returned (.bool (nearB n f a b)) ∧ Below w.heap.size w w' := by
  have hg := World.alloc_heap_new w (.cells (gcells n f) 53)
  have hB : Below w.heap.size w (w.alloc (.cells (gcells n f) 53)) := (Below.refl _ _).alloc (Nat.le_refl _) _
  obtain ⟨c0, cs, _, _⟩ := graph_cells hg
  have c1 := cs 0 (by decide)
  have c2 := cs 1 (by decide)
  have c3 := cs 2 (by decide)
  have c4 := cs 3 (by decide)
  have c5 := cs 4 (by decide)
  have c6 := cs 5 (by decide)
  have c7 := cs 6 (by decide)
  have c8 := cs 7 (by decide)
  by_cases ha : 0 ≤ a ∧ a < (n : Int)
  · obtain ⟨i, rfl⟩ : ∃ i : Nat, a = (i : Int) := ⟨a.toNat, by omega⟩
    by_cases hb : 0 ≤ b ∧ b < (n : Int)
    · obtain ⟨j, rfl⟩ : ∃ j : Nat, b = (j : Int) := ⟨b.toNat, by omega⟩
      have hno : nearB n f (i : Int) (j : Int) = (f i).testBit j := by unfold nearB; rw [decide_eq_true ha, decide_eq_true hb]; simp
      rw [hno]
      have hA := hasNode_any n f (i : Int)
      rw [decide_eq_true ha] at hA
      have hB2 := hasNode_any n f (j : Int)
      rw [decide_eq_true hb] at hB2
      have HA := Lib.hid hA
      have HB := Lib.hid hB2
      have HF := Lib.hid hf
      have hi8 : i < 8 := by omega
      have hj8 : j < 8 := by omega
      clear hA hB2 hno cs hf ha hb h8
      go_enter Tryd.func77, Tryd.ntmps77
      go_wp2_with fail
      refine (HA.out _).mono ?_
      rintro e w2 ⟨rfl, hb2⟩
      have hg2 := (hb2.block w.heap.size (by simp)).trans hg
      obtain ⟨d0, ds, _, _⟩ := graph_cells hg2
      have d1 := ds 0 (by decide)
      have d2 := ds 1 (by decide)
      have d3 := ds 2 (by decide)
      have d4 := ds 3 (by decide)
      have d5 := ds 4 (by decide)
      have d6 := ds 5 (by decide)
      have d7 := ds 6 (by decide)
      have d8 := ds 7 (by decide)
      have HG2 := Lib.hid hg2
      have HB2 := Lib.hid hb2
      clear ds hg hg2 c0 c1 c2 c3 c4 c5 c6 c7 c8 hb2
      go_wp2_with fail
      refine (HB.out _).mono ?_
      rintro e w3 ⟨rfl, hb3⟩
      have hg3 := (hb3.block w.heap.size (by have := HB2.out.size; simp at this; omega)).trans HG2.out
      obtain ⟨_, es, _, _⟩ := graph_cells hg3
      have ei := es i hi8
      have hi8' : (i : Int) < 8 := by omega
      have hh := fun W => has_any (f i) j (HF.out i) hj8 W
      have HH := Lib.hid hh
      have HB3 := Lib.hid hb3
      clear es hg3 d0 d1 d2 d3 d4 d5 d6 d7 d8 hh hb3
      go_wp2_with (go_at_call 95; refine (HH.out _).mono ?_; rintro e w4 ⟨rfl, rfl⟩)
      go_ret
      exact ⟨rfl, step_below (hB.trans (HB2.out.mono (by simp))) HB3.out⟩
    · have hno : nearB n f (i : Int) b = false := by unfold nearB; rw [decide_eq_false hb]; simp
      rw [hno]
      have hA := hasNode_any n f (i : Int)
      rw [decide_eq_true ha] at hA
      have hB2 := hasNode_any n f b
      rw [decide_eq_false hb] at hB2
      have HA := Lib.hid hA
      have HB := Lib.hid hB2
      clear hA hB2 hno cs hf ha hb h8
      go_enter Tryd.func77, Tryd.ntmps77
      go_wp2_with fail
      refine (HA.out _).mono ?_
      rintro e w2 ⟨rfl, hb2⟩
      have hg2 := (hb2.block w.heap.size (by simp)).trans hg
      obtain ⟨d0, ds, _, _⟩ := graph_cells hg2
      have d1 := ds 0 (by decide)
      have d2 := ds 1 (by decide)
      have d3 := ds 2 (by decide)
      have d4 := ds 3 (by decide)
      have d5 := ds 4 (by decide)
      have d6 := ds 5 (by decide)
      have d7 := ds 6 (by decide)
      have d8 := ds 7 (by decide)
      have HB2 := Lib.hid hb2
      clear ds hg hg2 c0 c1 c2 c3 c4 c5 c6 c7 c8 hb2
      go_wp2_with fail
      refine (HB.out _).mono ?_
      rintro e w3 ⟨rfl, hb3⟩
      have HB3 := Lib.hid hb3
      clear d0 d1 d2 d3 d4 d5 d6 d7 d8 hb3
      go_wp2
      go_ret
      exact ⟨rfl, step_below (hB.trans (HB2.out.mono (by simp))) HB3.out⟩
  · have hno : nearB n f a b = false := by unfold nearB; rw [decide_eq_false ha]; rfl
    rw [hno]
    have hh := hasNode_any n f a
    rw [decide_eq_false ha] at hh
    have HH := Lib.hid hh
    clear hh hno cs hf ha
    go_enter Tryd.func77, Tryd.ntmps77
    go_wp2_with (go_at_call 79; refine (HH.out _).mono ?_; rintro e w2 ⟨rfl, hb2⟩)
    go_ret
    exact ⟨rfl, hB.trans (hb2.mono (by simp))⟩

end Go.Proofs.YtnmemefkeehjjaaDoor

/-
  The specification's l1Edge and l1Cut: whether there is an edge, and the graph without it, as a list.
-/
namespace Go.Proofs.YtnmemefkeehjjaaDoor
set_option linter.unusedVariables false
set_option linter.unusedSimpArgs false
open Go.RowKit

/-- Whether there is a graph with this edge. -/
def edgeB (xs : List Int) (a b : Int) : Bool := gIn xs && nearB xs.length (gfun xs) a b

set_option maxHeartbeats 1000000 in
theorem l1Edge_any (w : World) (v : Value) (xs : List Int) (h : Ints w v xs) (a b : Int) :
    Calls Tryd.prog 60 #[v, .int .i64 a, .int .i64 b] w fun e w' => e = .returned (.bool (edgeB xs a b)) ∧ ∃ q, w' = w.drewN q := by
  have hv := h
  obtain ⟨A, cap, rfl, hm, _⟩ := h
  have hs := specIn_any w _ xs hv
  have HV := Lib.hid hv
  clear hv
  cases hg : gIn xs with
  | false =>
    have hno : edgeB xs a b = false := by simp [edgeB, hg]
    rw [hg] at hs
    rw [hno]
    have HS := Lib.hid hs
    clear hs hg hno
    go_enter Tryd.func60, Tryd.ntmps60
    go_wp2_with fail
    refine HS.out.mono ?_
    rintro e w1 ⟨rfl, q, rfl⟩
    go_wp2
    go_ret
    exact ⟨rfl, q, rfl⟩
  | true =>
    obtain ⟨h1, h8, hok⟩ := gIn_parts hg
    rw [hg] at hs
    have HS := Lib.hid hs
    have hm1 : IntKind.i64.wrap ((xs.length : Int) - 1) = (xs.length : Int) - 1 := by rw [wrap_eq]; unfold wrap64; omega
    by_cases ha : 0 ≤ a ∧ a ≤ (xs.length : Int) - 1
    · obtain ⟨i, rfl⟩ : ∃ i : Nat, a = (i : Int) := ⟨a.toNat, by omega⟩
      have hla := fun W => l6In_q (i : Int) 0 ((xs.length : Int) - 1) true (decide_eq_true ha) W
      have HLA := Lib.hid hla
      by_cases hb : 0 ≤ b ∧ b ≤ (xs.length : Int) - 1
      · obtain ⟨j, rfl⟩ : ∃ j : Nat, b = (j : Int) := ⟨b.toNat, by omega⟩
        have hlb := fun W => l6In_q (j : Int) 0 ((xs.length : Int) - 1) true (decide_eq_true hb) W
        have HLB := Lib.hid hlb
        have hno : edgeB xs (i : Int) (j : Int) = (gfun xs i).testBit j := by
          unfold edgeB nearB
          rw [hg, decide_eq_true (show 0 ≤ (i : Int) ∧ (i : Int) < (xs.length : Int) by omega), decide_eq_true (show 0 ≤ (j : Int) ∧ (j : Int) < (xs.length : Int) by omega)]
          simp
        rw [hno]
        obtain ⟨hx, hmm⟩ := row_value h8 hok (i := i) (by omega)
        have hh := fun W (hW : Ints W (.slice A xs.length cap) xs) => l1Has_q W (.slice A xs.length cap) xs i j (gfun xs i) hW (by omega) hx hmm (by omega) _ rfl
        have HH := Lib.hid hh
        clear hs hg hno hla hlb hok hx hmm hh ha hb
        go_enter Tryd.func60, Tryd.ntmps60
        go_wp2_with fail
        refine HS.out.mono ?_
        rintro e w1 ⟨rfl, q, rfl⟩
        go_wp2_with fail
        refine (HLA.out _).mono ?_
        rintro e w1 ⟨rfl, rfl⟩
        go_wp2_with fail
        refine (HLB.out _).mono ?_
        rintro e w1 ⟨rfl, rfl⟩
        go_wp2_with fail
        refine (HH.out _ (HV.out.drewN q)).mono ?_
        rintro e w1 ⟨rfl, rfl⟩
        go_wp2
        go_ret
        exact ⟨rfl, q, rfl⟩
      · have hlb := fun W => l6In_q b 0 ((xs.length : Int) - 1) false (decide_eq_false hb) W
        have HLB := Lib.hid hlb
        have hno : edgeB xs (i : Int) b = false := by
          unfold edgeB nearB
          rw [decide_eq_false (show ¬ (0 ≤ b ∧ b < (xs.length : Int)) by omega)]
          simp
        rw [hno]
        clear hs hg hno hla hlb hok ha hb
        go_enter Tryd.func60, Tryd.ntmps60
        go_wp2_with fail
        refine HS.out.mono ?_
        rintro e w1 ⟨rfl, q, rfl⟩
        go_wp2_with fail
        refine (HLA.out _).mono ?_
        rintro e w1 ⟨rfl, rfl⟩
        go_wp2_with fail
        refine (HLB.out _).mono ?_
        rintro e w1 ⟨rfl, rfl⟩
        go_wp2
        go_ret
        exact ⟨rfl, q, rfl⟩
    · have hla := fun W => l6In_q a 0 ((xs.length : Int) - 1) false (decide_eq_false ha) W
      have HLA := Lib.hid hla
      have hno : edgeB xs a b = false := by
        unfold edgeB nearB
        rw [decide_eq_false (show ¬ (0 ≤ a ∧ a < (xs.length : Int)) by omega)]
        simp
      rw [hno]
      clear hs hg hno hla hok ha
      go_enter Tryd.func60, Tryd.ntmps60
      go_wp2_with fail
      refine HS.out.mono ?_
      rintro e w1 ⟨rfl, q, rfl⟩
      go_wp2_with fail
      refine (HLA.out _).mono ?_
      rintro e w1 ⟨rfl, rfl⟩
      go_wp2
      go_ret
      exact ⟨rfl, q, rfl⟩

/-- The list as a graph's sets. -/
theorem xs_glist {xs : List Int} (hrow : ∀ i (hi : i < xs.length), xs[i] = (gfun xs i : Int) ∧ gfun xs i < 256) : xs = glist xs.length (gfun xs) := by
  apply List.ext_getElem
  · rw [glist_len]
  · intro i h1 h2
    rw [glist_at]
    exact (hrow i h1).1

set_option maxHeartbeats 1000000 in
theorem l1Cut_any (w : World) (u : Value) (xs : List Int) (h : Ints w u xs) (a b : Nat) (h8 : xs.length ≤ 8) (ha : a < xs.length) (hb : b < xs.length) (hrow : ∀ i (hi : i < xs.length), xs[i] = (gfun xs i : Int) ∧ gfun xs i < 256) :
    Calls Tryd.prog 82 #[u, .int .i64 (a : Int), .int .i64 (b : Int)] w fun e w' => ∃ r, e = .returned r ∧ Below w.heap.size w w' ∧ w'.ownsRow w.heap.size 3 1 r xs.length (vals (glist xs.length (cutE (gfun xs) a b))) := by
  obtain ⟨i0, hi, hz0, hz1, hz2⟩ := info_parts infoInt
  have hxs := xs_glist hrow
  obtain ⟨A, cap, rfl, hm, hc⟩ := h
  obtain ⟨bb, off, rfl, hc0⟩ := hc a ha
  have HC := Lib.hid hc
  have HROW := Lib.hid hrow
  have HX := Lib.hid hxs
  clear hc hrow hxs hc0
  unfold maxLen at hm
  have hnews : ∀ (j : Nat) (u : Value), (vals xs)[j]? = some u → (w.alloc (.cells #[] 3)).cell? ((⟨bb, off, none⟩ : Addr).add j) = some u := by
    intro j u hu
    have hj : j < xs.length := by
      have := (List.getElem?_eq_some_iff.1 hu).1
      simpa using this
    have hu' : u = .int .i64 xs[j] := by simpa [hj] using hu.symm
    obtain ⟨b', off', he, hcell⟩ := HC.out j hj
    cases he
    have hadd : (⟨bb, off, none⟩ : Addr).add j = ⟨bb, off + j, none⟩ := by unfold Addr.add; split <;> simp_all
    rw [hadd, World.cell?_alloc_past _ _ _ (World.block_lt_of_cell? w _ hcell), hcell, hu']
  have hba := HROW.out a ha
  have hbb := HROW.out b hb
  have hown0 := owns_empty w w.heap.size (Nat.le_refl _)
  have HN := Lib.hid hnews
  clear hnews
  go_enter Tryd.func82, Tryd.ntmps82
  have hl1 : (vals xs).length = xs.length * 1 := by simp
  have h11 : ∀ u ∈ vals xs, u.oneCell' = true := by intro u hu; simp at hu; obtain ⟨x, _, rfl⟩ := hu; rfl
  have hm1 : 0 < xs.length := by omega
  have hc1 : 0 + xs.length ≤ maxLen := by unfold maxLen; omega
  have hc2 : (0 + xs.length) * 8 ≤ 140737488355328 := by omega
  have hc3 : w.heap.size ≤ (w.alloc (.cells #[] 3)).heap.size := by simp
  have HL1 := Lib.hid hl1
  have H11 := Lib.hid h11
  clear hl1 h11
  have ha8 : (a : Int) < 8 := by omega
  have hb8 : (b : Int) < 8 := by omega
  have hai : (a : Int) < (xs.length : Int) := by omega
  have hbi : (b : Int) < (xs.length : Int) := by omega
  obtain ⟨f1, hf1⟩ : ∃ f1, upd (gfun xs) a (gfun xs a &&& (255 - 2 ^ b)) = f1 := ⟨_, rfl⟩
  have hf1b : f1 b < 256 := by
    rw [← hf1]; unfold upd
    split
    · exact less_lt hba.2
    · exact hbb.2
  have hcut : cutE (gfun xs) a b = upd f1 b (f1 b &&& (255 - 2 ^ a)) := by unfold cutE; rw [hf1]
  have hv1 : bits .andNot .i64 (gfun xs a : Int) (IntKind.i64.wrap (2 ^ b)) = ((gfun xs a &&& (255 - 2 ^ b) : Nat) : Int) := by
    rw [wrap_eq, pow_wrap (by omega), andNot64 _ _ hba.2 (pow7_lt (by omega))]
  have hv2 : bits .andNot .i64 (f1 b : Int) (IntKind.i64.wrap (2 ^ a)) = ((f1 b &&& (255 - 2 ^ a) : Nat) : Int) := by
    rw [wrap_eq, pow_wrap (by omega), andNot64 _ _ hf1b (pow7_lt (by omega))]
  have HV2 := Lib.hid hv2
  have HC2 := Lib.hid hcut
  have HF1 := Lib.hid hf1
  clear hv2 hcut hf1 hba hbb
  go_wp2_with (at_builtin; refine wpList_append_lies _ rfl (.tmp 8) (.tmp 9) 22 rfl w.heap.size 3 i0 (.int .i64 0) 1 8 Tryd.underlying22 hi hz0 hz1 hz2 rfl (by decide) (.slice (some ⟨w.heap.size, 0, none⟩) 0 0) 0 [] rfl hown0 ⟨bb, off, none⟩ xs.length cap (vals xs) rfl HL1.out HN.out H11.out hm1 hc1 hc2 hc3 _ rfl ?_; intro g cap1 w1 hown hgrow _ _)
  have hb1 : Below w.heap.size w w1 := ((Below.refl _ _).alloc (Nat.le_refl _) _).grown hgrow (by simp) (fun k hk => by cases hk; exact Nat.le_refl _)
  have hgl : vals xs = vals (glist xs.length (gfun xs)) := by rw [← HX.out]
  simp only [Nat.zero_add, List.nil_append] at hown
  rw [hgl] at hown
  have hgB := (hown.lt g rfl).1
  have ca := (hown.cellAt a (by omega)).trans (glist_cell xs.length _ a ha)
  have fa := hown.frozenAt a
  have hown2 := (hown.stored a (.int .i64 ((gfun xs a &&& (255 - 2 ^ b) : Nat) : Int))).1
  rw [glist_set, HF1.out] at hown2
  have HO2 := Lib.hid hown2
  have HG := Lib.hid hgrow
  clear hown2 hgl hown hgrow
  go_region_law (fail)
  all_goals go_wp2
  obtain ⟨w2, hw2⟩ : ∃ w2, (w1.setCell ⟨g, a, none⟩ (.int .i64 ((gfun xs a &&& (255 - 2 ^ b) : Nat) : Int))).drew = w2 := ⟨_, rfl⟩
  have hb2 : Below w.heap.size w w2 := by rw [← hw2]; exact (hb1.setCell (p := ⟨g, a, none⟩) hgB _).drew
  have ho2 : w2.ownsRow w.heap.size 3 1 (.slice (some ⟨g, 0, none⟩) xs.length cap1) xs.length (vals (glist xs.length f1)) := by rw [← hw2]; exact HO2.out
  rw [hw2]
  clear hw2 ca fa hv1
  have cb := (ho2.cellAt b (by omega)).trans (glist_cell xs.length _ b hb)
  have fb := ho2.frozenAt b
  have ho3 := (ho2.stored b (.int .i64 ((f1 b &&& (255 - 2 ^ a) : Nat) : Int))).1
  rw [glist_set, ← HC2.out] at ho3
  have HO3 := Lib.hid ho3
  have hv2 := HV2.out
  clear ho3 ho2
  go_region_law (fail)
  all_goals go_wp2
  go_ret
  exact ⟨_, rfl, (hb2.setCell (p := ⟨g, b, none⟩) hgB _).drew, HO3.out⟩

end Go.Proofs.YtnmemefkeehjjaaDoor

/-
  FnExactGraphCut, at every list and two nodes.
-/
namespace Go.Proofs.YtnmemefkeehjjaaDoor
set_option linter.unusedVariables false
set_option linter.unusedSimpArgs false
open Go.RowKit

def cutOf (xs : List Int) (a b : Int) : List Int := if edgeB xs a b = true then glist xs.length (cutE (gfun xs) a.toNat b.toNat) else []

theorem edge_parts {xs : List Int} {a b : Int} (h : edgeB xs a b = true) : gIn xs = true ∧ ∃ i j : Nat, a = (i : Int) ∧ b = (j : Int) ∧ i < xs.length ∧ j < xs.length := by
  unfold edgeB nearB at h
  simp only [Bool.and_eq_true, decide_eq_true_eq] at h
  exact ⟨h.1, a.toNat, b.toNat, by omega, by omega, by omega, by omega⟩

theorem cutOf_len (xs : List Int) (a b : Int) : (cutOf xs a b).length ≤ 1048576 := by
  unfold cutOf
  split
  · rename_i h
    have := gIn_parts (edge_parts h).1
    rw [glist_len]; omega
  · simp

set_option maxHeartbeats 1000000 in
theorem specCut_any (w : World) (v : Value) (xs : List Int) (a b : Int) (h : Ints w v xs) :
    Calls Tryd.prog 40 #[v, .int .i64 a, .int .i64 b] w (GivesInts w (edgeB xs a b) (cutOf xs a b)) := by
  have hv := h
  obtain ⟨A, cap, rfl, hm, _⟩ := h
  have he := l1Edge_any w _ xs hv a b
  have HV := Lib.hid hv
  clear hv
  cases hg : edgeB xs a b with
  | false =>
    have ho : cutOf xs a b = [] := by simp [cutOf, hg]
    rw [hg] at he
    rw [ho]
    have HE := Lib.hid he
    clear he hg ho
    go_enter Tryd.func40, Tryd.ntmps40
    go_wp2_with (go_at_call 60; refine HE.out.mono ?_; rintro e w1 ⟨rfl, q, rfl⟩)
    go_ret2
    exact ⟨_, rfl, below_drewN ((Below.refl _ _).alloc (Nat.le_refl _) _) q, owns_empty w _ (Nat.le_refl _)⟩
  | true =>
    obtain ⟨hgi, i, j, rfl, rfl, hi, hj⟩ := edge_parts hg
    obtain ⟨h1, h8, hok⟩ := gIn_parts hgi
    have ho : cutOf xs (i : Int) (j : Int) = glist xs.length (cutE (gfun xs) i j) := by rw [cutOf, if_pos hg]; rfl
    rw [hg] at he
    rw [ho]
    have HE := Lib.hid he
    have hc := fun W (hW : Ints W (.slice A xs.length cap) xs) => l1Cut_any W _ xs hW i j h8 hi hj (fun k hk => row_value h8 hok hk)
    have HC := Lib.hid hc
    clear he hg ho hgi hok hc
    go_enter Tryd.func40, Tryd.ntmps40
    go_wp2_with (first
      | (go_at_call 60; refine HE.out.mono ?_; rintro e w1 ⟨rfl, q, rfl⟩)
      | (go_at_call 82; refine (HC.out _ (HV.out.drewN q)).mono ?_; rintro e w2 ⟨r, rfl, hb2, ho2⟩))
    go_ret2
    refine ⟨_, rfl, step_below (below_drewN (Below.refl _ _) q) hb2, ?_⟩
    show World.ownsRow _ _ _ _ _ (glist xs.length _).length _
    rw [glist_len]
    exact ho2

set_option maxRecDepth 100000 in
set_option maxHeartbeats 1000000 in
theorem implCut_any (w : World) (u : Value) (xs : List Int) (a b : Int) (h : Ints w u xs) (hr : ∀ x ∈ xs, I64 x) (hT : Tab w) :
    Calls Tryd.prog 37 #[u, .int .i64 a, .int .i64 b] w (GivesInts w (edgeB xs a b) (cutOf xs a b)) := by
  have hf := from_any w u xs h hr hT
  cases hg : gIn xs with
  | false =>
    have hk : edgeB xs a b = false := by simp [edgeB, hg]
    have ho : cutOf xs a b = [] := by simp [cutOf, hk]
    have hfr : fromOf xs = gcells 0 (fun _ => 0) := by simp [fromOf, hg]
    rw [hg, hfr] at hf
    rw [ho, hk]
    have HF := Lib.hid hf
    clear hf hg ho hfr hT hr h hk
    go_enter Tryd.func37, Tryd.ntmps37
    go_wp2_with (first
      | (go_at_call 54; refine HF.out.mono ?_; rintro e w1 ⟨rfl, hb1⟩)
      | (refine store_graph_new rfl _ _ rfl 0 (fun _ => 0) rfl rfl ?_))
    go_ret2
    exact ⟨_, rfl, hb1.alloc hb1.size _, World.ownsRow_nil _ _ _ _⟩
  | true =>
    obtain ⟨h1, h8, hok⟩ := gIn_parts hg
    have hfr : fromOf xs = gcells xs.length (gfun xs) := by simp [fromOf, hg]
    have hlt := gfun_lt h8 hok
    rw [hg, hfr] at hf
    have HF := Lib.hid hf
    have HL := Lib.hid hlt
    have hE : edgeB xs a b = nearB xs.length (gfun xs) a b := by simp [edgeB, hg]
    have hn := fun W => near_any xs.length (gfun xs) a b h8 hlt W
    cases hk : edgeB xs a b with
    | false =>
      have ho : cutOf xs a b = [] := by simp [cutOf, hk]
      rw [ho]
      rw [hk] at hE
      rw [← hE] at hn
      have HH := Lib.hid hn
      clear hf hg ho hfr hT hr h hok hlt hk hE hn
      go_enter Tryd.func37, Tryd.ntmps37
      go_wp2_with (first
        | (go_at_call 54; refine HF.out.mono ?_; rintro e w1 ⟨rfl, hb1⟩)
        | (refine store_graph_new rfl _ _ rfl xs.length (gfun xs) rfl rfl ?_; obtain ⟨c0, cs, _, _⟩ := graph_cells (World.alloc_heap_new w1 (.cells (gcells xs.length (gfun xs)) 53)); have c1 := cs 0 (by decide); have c2 := cs 1 (by decide); have c3 := cs 2 (by decide); have c4 := cs 3 (by decide); have c5 := cs 4 (by decide); have c6 := cs 5 (by decide); have c7 := cs 6 (by decide); have c8 := cs 7 (by decide); clear cs)
        | (go_at_call 77; refine (HH.out _).mono ?_; rintro e w2 ⟨rfl, hb2⟩))
      go_ret2
      exact ⟨_, rfl, step_below (hb1.alloc hb1.size _) hb2, World.ownsRow_nil _ _ _ _⟩
    | true =>
      obtain ⟨_, i, j, rfl, rfl, hi, hj⟩ := edge_parts hk
      have ho : cutOf xs (i : Int) (j : Int) = glist xs.length (cutE (gfun xs) i j) := by rw [cutOf, if_pos hk]; rfl
      rw [ho]
      rw [hk] at hE
      rw [← hE] at hn
      have HH := Lib.hid hn
      clear hf hg ho hfr hT hr h hok hlt hk hE hn
      go_enter Tryd.func37, Tryd.ntmps37
      go_wp2_with (first
        | (go_at_call 54; refine HF.out.mono ?_; rintro e w1 ⟨rfl, hb1⟩)
        | (refine store_graph_new rfl _ _ rfl xs.length (gfun xs) rfl rfl ?_; obtain ⟨c0, cs, _, _⟩ := graph_cells (World.alloc_heap_new w1 (.cells (gcells xs.length (gfun xs)) 53)); have c1 := cs 0 (by decide); have c2 := cs 1 (by decide); have c3 := cs 2 (by decide); have c4 := cs 3 (by decide); have c5 := cs 4 (by decide); have c6 := cs 5 (by decide); have c7 := cs 6 (by decide); have c8 := cs 7 (by decide); clear cs)
        | (go_at_call 77; refine (HH.out _).mono ?_; rintro e w2 ⟨rfl, hb2⟩; clear c0 c1 c2 c3 c4 c5 c6 c7 c8)
        | (refine load_graph rfl _ rfl _ xs.length (gfun xs) rfl ((hb2.block w1.heap.size (by simp)).trans (World.alloc_heap_new w1 (.cells (gcells xs.length (gfun xs)) 53))) ?_)
        | (go_at_call 78; refine (cut_any xs.length (gfun xs) i j (by omega) (by omega) HL.out _).mono ?_; rintro e w3 ⟨rfl, hb3⟩)
        | (go_at_call 58; refine (list_any xs.length _ h8 _).mono ?_; rintro e w4 ⟨rfl, hb4, ho⟩))
      go_ret2
      have hb5 := step_below (step_below (step_below (hb1.alloc hb1.size _) hb2) hb3) hb4
      refine ⟨_, rfl, hb5, owns_mono ho ?_⟩
      have := hb3.size
      have := hb2.size
      have := hb1.size
      simp at *
      omega

end Go.Proofs.YtnmemefkeehjjaaDoor

