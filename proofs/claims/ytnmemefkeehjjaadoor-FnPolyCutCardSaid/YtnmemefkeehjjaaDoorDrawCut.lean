/-
  spec.l91Edge, DrawGraphCut: a graph and two numbers are drawn.
-/
import Derived.Test.YtnmemefkeehjjaaDoorDrawStood
import Derived.Test.YtnmemefkeehjjaaDoorSpecEdges
namespace Go.Proofs.YtnmemefkeehjjaaDoor
set_option linter.unusedVariables false
set_option linter.unusedSimpArgs false
open Go.RowKit
set_option maxRecDepth 100000

/-- A list and two numbers that were drawn. -/
def GivesEdge (w : World) (e : Ending) (w' : World) : Prop :=
  ∃ (G : Nat) (xs : List Int) (a b : Int), e = .returned (.tuple #[.slice (some ⟨G, 0, none⟩) xs.length xs.length, .int .i64 a, .int .i64 b]) ∧ 1 ≤ xs.length ∧ xs.length ≤ 7 ∧ (∀ x ∈ xs, I64 x) ∧ Below w.heap.size w w' ∧ Ints w' (.slice (some ⟨G, 0, none⟩) xs.length xs.length) xs
theorem edge_mem {xs : List Int} {e : List Int} (hm : e ∈ edgesL xs) : ∃ x y : Int, e = [x, y] := by
  unfold edgesL at hm
  split at hm
  · unfold pairsOf at hm
    obtain ⟨e, _, he⟩ := List.mem_map.1 hm
    exact ⟨_, _, he.symm⟩
  · cases hm
theorem edge_two {xs : List Int} {k : Nat} (h : k < (edgesL xs).length) : ∃ x y : Int, (edgesL xs)[k] = [x, y] := edge_mem (List.getElem_mem h)

theorem n1_wrap {n : Nat} (h : n ≤ 7) : ∃ N1 : Nat, (n : Int) + 1 = (N1 : Int) ∧ IntKind.i64.wrap (N1 : Int) = (N1 : Int) ∧ wrap64 (N1 : Int) = (N1 : Int) ∧ 1 ≤ N1 ∧ N1 ≤ 8 := by
  refine ⟨n + 1, by omega, ?_, ?_, by omega, by omega⟩
  · rw [IntKind.wrap_i64]; omega
  · unfold wrap64; omega

theorem edges_64 {xs : List Int} (h : xs.length ≤ 7) : (edgesL xs).length ≤ 64 := by
  unfold edgesL
  split
  · unfold pairsOf; rw [List.length_map]; have := pairsTo_len (gfun xs) xs.length xs.length; omega
  · simp

set_option maxHeartbeats 4000000 in
theorem l91Edge_any (w : World) (A : Option Addr) (L cap : Nat) (hc : L ≤ cap) (hm : L ≤ maxLen) (hx : Code8 w A L) :
    Calls Tryd.prog 81 #[.slice A L cap] w (GivesEdge w) := by
  have HO := Lib.hid (open_any w A L cap hc hm)
  have HX := Lib.hid hx
  clear hx hm hc
  go_enter Tryd.func81, Tryd.ntmps81
  go_wp2_with fail
  refine HO.out.mono ?_
  rintro e w1 ⟨r, M, cap', rfl, hM, hML, hrw, hr, hb1⟩
  have hrl := (Array.getElem?_eq_some_iff.1 hr).1
  have hxr := (HX.out.less hML).bytes hb1 r hrw
  have HP := Lib.hid (graph_any w1 r M cap' 0 7 A hr hxr hM hrl (by omega) (by omega) (by omega))
  have HXR := Lib.hid hxr
  clear hr hxr
  go_wp2_with fail
  refine HP.out.mono ?_
  rintro e w2 ⟨G, xs, p, rfl, h1, h7, hI, hw2, ho2, hp, hr2⟩
  have HI := Lib.hid hI
  have hsz2 := hw2.size
  have HE := Lib.hid (specEdges_any w2 _ xs (ints_vals ho2))
  have HS2 := Lib.hid (show Stood w1 r M cap' G A xs p w2 from ⟨hr2, ho2, hw2⟩)
  obtain ⟨N1, hN1i, hNw, hNw2, hN1a, hN1b⟩ := n1_wrap h7
  have HNW := Lib.hid (And.intro hN1i (And.intro hNw hNw2))
  clear hN1i hNw hNw2
  have hN1c : N1 ≤ 1000 := Nat.le_trans hN1b (by decide)
  have hq1 : p + 1 ≤ 100000 := by omega
  have hq2 : p + 1 + 1 ≤ 100000 := by omega
  clear hI ho2 hw2 hr2 HP
  go_wp2_with fail
  refine HE.out.mono ?_
  rintro e w3 ⟨v, us, rfl, hb3, hrows⟩
  have hS3 : Stood w1 r M cap' G A xs p w3 := ⟨(hb3.block r (by omega)).trans HS2.out.1, owns_below HS2.out.2.1 hb3, HS2.out.2.2.trans ⟨hb3.os, hb3.tape, hb3.output, hb3.size, fun k hk _ => hb3.block k hk⟩⟩
  have HS3 := Lib.hid hS3
  have HRO := Lib.hid hrows
  clear hS3 hrows hb3 HE HS2
  obtain ⟨Av, capv, rfl, hmv, _⟩ := (rows_of_owns HRO.out).at
  have hzl := edges_64 h7
  cases hg : gIn xs with
  | false =>
    clear hg hmv hzl
    go_wp2_with fail
    with_reducible refine (stood_pick (m := xs.length) HS3.out HXR.out hM hrl (by omega) (by omega) (by omega)).mono ?_
    rintro e wA ⟨vA, hvA, rfl, hSA⟩
    have HSA := Lib.hid hSA
    clear hSA
    obtain ⟨hN1i, hNw, hNw2⟩ := HNW.out
    go_wp2_with fail
    with_reducible refine (stood_pick (m := N1) HSA.out HXR.out hM hrl hq1 hN1a hN1c).mono ?_
    rintro e wB ⟨vB, hvB, rfl, hSB⟩
    clear hN1i hNw hNw2
    go_wp2
    go_ret3
    exact ⟨G, xs, _, _, rfl, h1, h7, HI.out, Below.within hb1 hSB.2.2 hrw, ints_vals hSB.2.1⟩
  | true =>
    clear hg
    obtain ⟨zs, hz⟩ : ∃ zs, edgesL xs = zs := ⟨_, rfl⟩
    have htwo := fun (k : Nat) (h : k < (edgesL xs).length) => edge_two h
    rw [hz] at hzl htwo
    rw [hz] at HRO ⊢
    have HTWO := Lib.hid htwo
    clear htwo hmv hz
    by_cases h0 : zs.length = 0
    · have hl0 : ¬ (0 : Int) < (zs.length : Int) := by omega
      clear h0
      go_wp2_with fail
      with_reducible refine (stood_pick (m := xs.length) HS3.out HXR.out hM hrl (by omega) (by omega) (by omega)).mono ?_
      rintro e wA ⟨vA, hvA, rfl, hSA⟩
      have HSA := Lib.hid hSA
      clear hSA
      obtain ⟨hN1i, hNw, hNw2⟩ := HNW.out
      go_wp2_with fail
      with_reducible refine (stood_pick (m := N1) HSA.out HXR.out hM hrl hq1 hN1a hN1c).mono ?_
      rintro e wB ⟨vB, hvB, rfl, hSB⟩
      clear hN1i hNw hNw2
      go_wp2
      go_ret3
      exact ⟨G, xs, _, _, rfl, h1, h7, HI.out, Below.within hb1 hSB.2.2 hrw, ints_vals hSB.2.1⟩
    · have hl0 : (0 : Int) < (zs.length : Int) := by omega
      have hzp : 1 ≤ zs.length := by omega
      clear h0
      have hp100 : p + 1 ≤ 100000 := by omega
      go_wp2_with fail
      refine (pick_any w3 r p 6 M cap' A HS3.out.1 (HXR.out.within HS3.out.2.2) (by omega) hM (by decide) (by decide)).mono ?_
      rintro e w4 ⟨v4, hv4, rfl, hr4, hw4⟩
      have HR4 := Lib.hid (HRO.out.kept hw4 (.inr (by omega)))
      have HS4 := Lib.hid (show Stood w1 r M cap' G A xs (p + 1) w4 from ⟨hr4, owns_within (w := w1) HS3.out.2.1 hw4 hrl, HS3.out.2.2.trans hw4⟩)
      clear hr4 hw4
      by_cases hv0 : v4 = 0
      · have hp0 : ¬ (0 : Int) < (v4 : Int) := by omega
        clear hv0
        go_wp2_with fail
        with_reducible refine (stood_pick (m := xs.length) HS4.out HXR.out hM hrl (by omega) (by omega) (by omega)).mono ?_
        rintro e wA ⟨vA, hvA, rfl, hSA⟩
        have HSA := Lib.hid hSA
        clear hSA
        obtain ⟨hN1i, hNw, hNw2⟩ := HNW.out
        go_wp2_with fail
        with_reducible refine (stood_pick (m := N1) HSA.out HXR.out hM hrl hq2 hN1a hN1c).mono ?_
        rintro e wB ⟨vB, hvB, rfl, hSB⟩
        clear hN1i hNw hNw2
        go_wp2
        go_ret3
        exact ⟨G, xs, _, _, rfl, h1, h7, HI.out, Below.within hb1 hSB.2.2 hrw, ints_vals hSB.2.1⟩
      · have hp0 : (0 : Int) < (v4 : Int) := by omega
        clear hv0
        go_wp2_with fail
        obtain ⟨h4r, h4o, h4w⟩ := HS4.out
        with_reducible refine (pick_any w4 r (p + 1) zs.length M cap' A h4r (HXR.out.within h4w) (by omega) hM (by omega) (by omega)).mono ?_
        rintro e w5 ⟨v5, hv5, rfl, hr5, hw5⟩
        have HS5 := Lib.hid (show Stood w1 r M cap' G A xs (p + 1 + 1) w5 from ⟨hr5, owns_within (w := w1) h4o hw5 hrl, h4w.trans hw5⟩)
        clear h4r h4o h4w
        obtain ⟨A', cap'', hve, _, hcs⟩ := (rows_of_owns (HR4.out.kept hw5 (.inr (by omega)))).at
        cases hve
        obtain ⟨bb, off, u, hA, hcell, hx⟩ := hcs v5 hv5
        subst hA
        obtain ⟨x, y, hxy⟩ := HTWO.out v5 hv5
        rw [hxy] at hx
        obtain ⟨A2, cap2, rfl, _, hc2⟩ := hx
        obtain ⟨eb, eoff, rfl, hce0⟩ := hc2 0 (by simp)
        obtain ⟨eb', eoff', hbe, hce1⟩ := hc2 1 (by simp)
        cases hbe
        replace hce0 : w5.cell? ⟨eb, eoff, none⟩ = some (.int .i64 x) := hce0
        replace hce1 : w5.cell? ⟨eb, eoff + 1, none⟩ = some (.int .i64 y) := hce1
        replace hcell : w5.cell? ⟨bb, off + v5, none⟩ = some (.slice (some ⟨eb, eoff, none⟩) 2 cap2) := hcell
        have hvi : (v5 : Int) < (zs.length : Int) := by omega
        clear hcs hc2 hr5 hw5 hxy
        go_wp2
        go_quiet (fail)
        go_wp2
        go_ret3
        obtain ⟨h5r, h5o, h5w⟩ := HS5.out
        exact ⟨G, xs, x, y, rfl, h1, h7, HI.out, Below.within hb1 (h5w.drewN _) hrw, ints_vals h5o⟩

set_option maxHeartbeats 400000 in
theorem DrawGraphCut_any (w : World) (A : Option Addr) (L cap : Nat) (hc : L ≤ cap) (hm : L ≤ maxLen) (hx : Code8 w A L) :
    Calls Tryd.prog 39 #[.slice A L cap] w (GivesEdge w) := by
  have HO := Lib.hid (l91Edge_any w A L cap hc hm hx)
  clear hx hm hc
  go_enter Tryd.func39, Tryd.ntmps39
  go_wp2_with fail
  refine HO.out.mono ?_
  rintro e w1 ⟨G, xs, a, b, rfl, h1, h7, hI, hb1, hi⟩
  have HH := Lib.hid (And.intro hI (And.intro hb1 hi))
  clear hI hb1 hi
  go_wp2
  go_ret3
  exact ⟨G, xs, a, b, rfl, h1, h7, HH.out.1, HH.out.2.1, HH.out.2.2⟩

end Go.Proofs.YtnmemefkeehjjaaDoor
