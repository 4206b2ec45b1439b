/-
  The specification's l1Edge and l1Cut: whether there is an edge, and the graph without it, as a list.
-/
import Derived.Test.YtnmemefkeehjjaaDoorCore2
import Derived.Test.YtnmemefkeehjjaaDoorNear
import Derived.Deep.AppendLies
import Derived.Deep.RegionLaw
import Derived.Outline
namespace Go.Proofs.YtnmemefkeehjjaaDoor
set_option linter.unusedVariables false
set_option linter.unusedSimpArgs false
open Go.RowKit

/-- Whether there is a graph with this edge. -/
def edgeB (xs : List Int) (a b : Int) : Bool := gIn xs && nearB xs.length (gfun xs) a b

set_option maxHeartbeats 1000000 in
theorem l1Edge_any (w : World) (v : Value) (xs : List Int) (h : Ints w v xs) (a b : Int) :
    Calls Tryd.prog 60 #[v, .int .i64 a, .int .i64 b] w fun e w' => e = .returned (.bool (edgeB xs a b)) ∧ ∃ q, w' = w.drewN q := by
  have hv := h
  obtain ⟨A, cap, rfl, hm, _⟩ := h
  have hs := specIn_any w _ xs hv
  have HV := Lib.hid hv
  clear hv
  cases hg : gIn xs with
  | false =>
    have hno : edgeB xs a b = false := by simp [edgeB, hg]
    rw [hg] at hs
    rw [hno]
    have HS := Lib.hid hs
    clear hs hg hno
    go_enter Tryd.func60, Tryd.ntmps60
    go_wp2_with fail
    refine HS.out.mono ?_
    rintro e w1 ⟨rfl, q, rfl⟩
    go_wp2
    go_ret
    exact ⟨rfl, q, rfl⟩
  | true =>
    obtain ⟨h1, h8, hok⟩ := gIn_parts hg
    rw [hg] at hs
    have HS := Lib.hid hs
    have hm1 : IntKind.i64.wrap ((xs.length : Int) - 1) = (xs.length : Int) - 1 := by rw [wrap_eq]; unfold wrap64; omega
    by_cases ha : 0 ≤ a ∧ a ≤ (xs.length : Int) - 1
    · obtain ⟨i, rfl⟩ : ∃ i : Nat, a = (i : Int) := ⟨a.toNat, by omega⟩
      have hla := fun W => l6In_q (i : Int) 0 ((xs.length : Int) - 1) true (decide_eq_true ha) W
      have HLA := Lib.hid hla
      by_cases hb : 0 ≤ b ∧ b ≤ (xs.length : Int) - 1
      · obtain ⟨j, rfl⟩ : ∃ j : Nat, b = (j : Int) := ⟨b.toNat, by omega⟩
        have hlb := fun W => l6In_q (j : Int) 0 ((xs.length : Int) - 1) true (decide_eq_true hb) W
        have HLB := Lib.hid hlb
        have hno : edgeB xs (i : Int) (j : Int) = (gfun xs i).testBit j := by
          unfold edgeB nearB
          rw [hg, decide_eq_true (show 0 ≤ (i : Int) ∧ (i : Int) < (xs.length : Int) by omega), decide_eq_true (show 0 ≤ (j : Int) ∧ (j : Int) < (xs.length : Int) by omega)]
          simp
        rw [hno]
        obtain ⟨hx, hmm⟩ := row_value h8 hok (i := i) (by omega)
        have hh := fun W (hW : Ints W (.slice A xs.length cap) xs) => l1Has_q W (.slice A xs.length cap) xs i j (gfun xs i) hW (by omega) hx hmm (by omega) _ rfl
        have HH := Lib.hid hh
        clear hs hg hno hla hlb hok hx hmm hh ha hb
        go_enter Tryd.func60, Tryd.ntmps60
        go_wp2_with fail
        refine HS.out.mono ?_
        rintro e w1 ⟨rfl, q, rfl⟩
        go_wp2_with fail
        refine (HLA.out _).mono ?_
        rintro e w1 ⟨rfl, rfl⟩
        go_wp2_with fail
        refine (HLB.out _).mono ?_
        rintro e w1 ⟨rfl, rfl⟩
        go_wp2_with fail
        refine (HH.out _ (HV.out.drewN q)).mono ?_
        rintro e w1 ⟨rfl, rfl⟩
        go_wp2
        go_ret
        exact ⟨rfl, q, rfl⟩
      · have hlb := fun W => l6In_q b 0 ((xs.length : Int) - 1) false (decide_eq_false hb) W
        have HLB := Lib.hid hlb
        have hno : edgeB xs (i : Int) b = false := by
          unfold edgeB nearB
          rw [decide_eq_false (show ¬ (0 ≤ b ∧ b < (xs.length : Int)) by omega)]
          simp
        rw [hno]
        clear hs hg hno hla hlb hok ha hb
        go_enter Tryd.func60, Tryd.ntmps60
        go_wp2_with fail
        refine HS.out.mono ?_
        rintro e w1 ⟨rfl, q, rfl⟩
        go_wp2_with fail
        refine (HLA.out _).mono ?_
        rintro e w1 ⟨rfl, rfl⟩
        go_wp2_with fail
        refine (HLB.out _).mono ?_
        rintro e w1 ⟨rfl, rfl⟩
        go_wp2
        go_ret
        exact ⟨rfl, q, rfl⟩
    · have hla := fun W => l6In_q a 0 ((xs.length : Int) - 1) false (decide_eq_false ha) W
      have HLA := Lib.hid hla
      have hno : edgeB xs a b = false := by
        unfold edgeB nearB
        rw [decide_eq_false (show ¬ (0 ≤ a ∧ a < (xs.length : Int)) by omega)]
        simp
      rw [hno]
      clear hs hg hno hla hok ha
      go_enter Tryd.func60, Tryd.ntmps60
      go_wp2_with fail
      refine HS.out.mono ?_
      rintro e w1 ⟨rfl, q, rfl⟩
      go_wp2_with fail
      refine (HLA.out _).mono ?_
      rintro e w1 ⟨rfl, rfl⟩
      go_wp2
      go_ret
      exact ⟨rfl, q, rfl⟩

/-- The list as a graph's sets. -/
theorem xs_glist {xs : List Int} (hrow : ∀ i (hi : i < xs.length), xs[i] = (gfun xs i : Int) ∧ gfun xs i < 256) : xs = glist xs.length (gfun xs) := by
  apply List.ext_getElem
  · rw [glist_len]
  · intro i h1 h2
    rw [glist_at]
    exact (hrow i h1).1

set_option maxHeartbeats 1000000 in
theorem l1Cut_any (w : World) (u : Value) (xs : List Int) (h : Ints w u xs) (a b : Nat) (h8 : xs.length ≤ 8) (ha : a < xs.length) (hb : b < xs.length) (hrow : ∀ i (hi : i < xs.length), xs[i] = (gfun xs i : Int) ∧ gfun xs i < 256) :
    Calls Tryd.prog 82 #[u, .int .i64 (a : Int), .int .i64 (b : Int)] w fun e w' => ∃ r, e = .returned r ∧ Below w.heap.size w w' ∧ w'.ownsRow w.heap.size 3 1 r xs.length (vals (glist xs.length (cutE (gfun xs) a b))) := by
  obtain ⟨i0, hi, hz0, hz1, hz2⟩ := info_parts infoInt
  have hxs := xs_glist hrow
  obtain ⟨A, cap, rfl, hm, hc⟩ := h
  obtain ⟨bb, off, rfl, hc0⟩ := hc a ha
  have HC := Lib.hid hc
  have HROW := Lib.hid hrow
  have HX := Lib.hid hxs
  clear hc hrow hxs hc0
  unfold maxLen at hm
  have hnews : ∀ (j : Nat) (u : Value), (vals xs)[j]? = some u → (w.alloc (.cells #[] 3)).cell? ((⟨bb, off, none⟩ : Addr).add j) = some u := by
    intro j u hu
    have hj : j < xs.length := by
      have := (List.getElem?_eq_some_iff.1 hu).1
      simpa using this
    have hu' : u = .int .i64 xs[j] := by simpa [hj] using hu.symm
    obtain ⟨b', off', he, hcell⟩ := HC.out j hj
    cases he
    have hadd : (⟨bb, off, none⟩ : Addr).add j = ⟨bb, off + j, none⟩ := by unfold Addr.add; split <;> simp_all
    rw [hadd, World.cell?_alloc_past _ _ _ (World.block_lt_of_cell? w _ hcell), hcell, hu']
  have hba := HROW.out a ha
  have hbb := HROW.out b hb
  have hown0 := owns_empty w w.heap.size (Nat.le_refl _)
  have HN := Lib.hid hnews
  clear hnews
  go_enter Tryd.func82, Tryd.ntmps82
  have hl1 : (vals xs).length = xs.length * 1 := by simp
  have h11 : ∀ u ∈ vals xs, u.oneCell' = true := by intro u hu; simp at hu; obtain ⟨x, _, rfl⟩ := hu; rfl
  have hm1 : 0 < xs.length := by omega
  have hc1 : 0 + xs.length ≤ maxLen := by unfold maxLen; omega
  have hc2 : (0 + xs.length) * 8 ≤ 140737488355328 := by omega
  have hc3 : w.heap.size ≤ (w.alloc (.cells #[] 3)).heap.size := by simp
  have HL1 := Lib.hid hl1
  have H11 := Lib.hid h11
  clear hl1 h11
  have ha8 : (a : Int) < 8 := by omega
  have hb8 : (b : Int) < 8 := by omega
  have hai : (a : Int) < (xs.length : Int) := by omega
  have hbi : (b : Int) < (xs.length : Int) := by omega
  obtain ⟨f1, hf1⟩ : ∃ f1, upd (gfun xs) a (gfun xs a &&& (255 - 2 ^ b)) = f1 := ⟨_, rfl⟩
  have hf1b : f1 b < 256 := by
    rw [← hf1]; unfold upd
    split
    · exact less_lt hba.2
    · exact hbb.2
  have hcut : cutE (gfun xs) a b = upd f1 b (f1 b &&& (255 - 2 ^ a)) := by unfold cutE; rw [hf1]
  have hv1 : bits .andNot .i64 (gfun xs a : Int) (IntKind.i64.wrap (2 ^ b)) = ((gfun xs a &&& (255 - 2 ^ b) : Nat) : Int) := by
    rw [wrap_eq, pow_wrap (by omega), andNot64 _ _ hba.2 (pow7_lt (by omega))]
  have hv2 : bits .andNot .i64 (f1 b : Int) (IntKind.i64.wrap (2 ^ a)) = ((f1 b &&& (255 - 2 ^ a) : Nat) : Int) := by
    rw [wrap_eq, pow_wrap (by omega), andNot64 _ _ hf1b (pow7_lt (by omega))]
  have HV2 := Lib.hid hv2
  have HC2 := Lib.hid hcut
  have HF1 := Lib.hid hf1
  clear hv2 hcut hf1 hba hbb
  go_wp2_with (at_builtin; refine wpList_append_lies _ rfl (.tmp 8) (.tmp 9) 22 rfl w.heap.size 3 i0 (.int .i64 0) 1 8 Tryd.underlying22 hi hz0 hz1 hz2 rfl (by decide) (.slice (some ⟨w.heap.size, 0, none⟩) 0 0) 0 [] rfl hown0 ⟨bb, off, none⟩ xs.length cap (vals xs) rfl HL1.out HN.out H11.out hm1 hc1 hc2 hc3 _ rfl ?_; intro g cap1 w1 hown hgrow _ _)
  have hb1 : Below w.heap.size w w1 := ((Below.refl _ _).alloc (Nat.le_refl _) _).grown hgrow (by simp) (fun k hk => by cases hk; exact Nat.le_refl _)
  have hgl : vals xs = vals (glist xs.length (gfun xs)) := by rw [← HX.out]
  simp only [Nat.zero_add, List.nil_append] at hown
  rw [hgl] at hown
  have hgB := (hown.lt g rfl).1
  have ca := (hown.cellAt a (by omega)).trans (glist_cell xs.length _ a ha)
  have fa := hown.frozenAt a
  have hown2 := (hown.stored a (.int .i64 ((gfun xs a &&& (255 - 2 ^ b) : Nat) : Int))).1
  rw [glist_set, HF1.out] at hown2
  have HO2 := Lib.hid hown2
  have HG := Lib.hid hgrow
  clear hown2 hgl hown hgrow
  go_region_law (fail)
  all_goals go_wp2
  obtain ⟨w2, hw2⟩ : ∃ w2, (w1.setCell ⟨g, a, none⟩ (.int .i64 ((gfun xs a &&& (255 - 2 ^ b) : Nat) : Int))).drew = w2 := ⟨_, rfl⟩
  have hb2 : Below w.heap.size w w2 := by rw [← hw2]; exact (hb1.setCell (p := ⟨g, a, none⟩) hgB _).drew
  have ho2 : w2.ownsRow w.heap.size 3 1 (.slice (some ⟨g, 0, none⟩) xs.length cap1) xs.length (vals (glist xs.length f1)) := by rw [← hw2]; exact HO2.out
  rw [hw2]
  clear hw2 ca fa hv1
  have cb := (ho2.cellAt b (by omega)).trans (glist_cell xs.length _ b hb)
  have fb := ho2.frozenAt b
  have ho3 := (ho2.stored b (.int .i64 ((f1 b &&& (255 - 2 ^ a) : Nat) : Int))).1
  rw [glist_set, ← HC2.out] at ho3
  have HO3 := Lib.hid ho3
  have hv2 := HV2.out
  clear ho3 ho2
  go_region_law (fail)
  all_goals go_wp2
  go_ret
  exact ⟨_, rfl, (hb2.setCell (p := ⟨g, b, none⟩) hgB _).drew, HO3.out⟩

end Go.Proofs.YtnmemefkeehjjaaDoor
