/-
  spec.l3Sign, l3Match, PolyMatch: the matching polynomial of the specification.
-/
import Derived.Test.YtnmemefkeehjjabDoorSpecNums
import Derived.Test.YtnmemefkeehjjabDoorMPoly
import Derived.Test.YtnmemefkeehjjabDoorSpecTimes
import Derived.Deep.RegionWith
namespace Go.Proofs.YtnmemefkeehjjabDoor
set_option linter.unusedVariables false
set_option linter.unusedSimpArgs false
open Go.RowKit

set_option maxHeartbeats 400000 in
theorem sign_any (k : Nat) (hk : k ≤ 1000) (w : World) : Calls Tryd.prog 64 #[.int .i64 (k : Int)] w fun e w' => e = .returned (.int .i64 (sgn k)) ∧ w = w' := by
  rcases Nat.mod_two_eq_zero_or_one k with h | h
  · have hr : (k : Int) % 2 = 0 := by omega
    have hr2 : (k : Int).tmod 2 = 0 := by rw [Int.tmod_eq_emod_of_nonneg (by omega)]; omega
    have hs : sgn k = 1 := by unfold sgn; rw [if_pos h]
    rw [hs]
    clear h hs
    go_enter Tryd.func64, Tryd.ntmps64
    go_wp2
    go_ret
    exact ⟨rfl, rfl⟩
  · have hr : (k : Int) % 2 = 1 := by omega
    have hr2 : (k : Int).tmod 2 = 1 := by rw [Int.tmod_eq_emod_of_nonneg (by omega)]; omega
    have hs : sgn k = -1 := by unfold sgn; rw [if_neg (by omega)]
    rw [hs]
    clear h hs
    go_enter Tryd.func64, Tryd.ntmps64
    go_wp2
    go_ret
    exact ⟨rfl, rfl⟩

theorem sgn_times (k : Nat) (z : Int) (h : 0 ≤ z ∧ z ≤ 43046721) : -43046721 ≤ sgn k * z ∧ sgn k * z ≤ 43046721 := by
  unfold sgn
  split <;> omega

set_option maxRecDepth 100000 in
set_option maxHeartbeats 4000000 in
theorem l3Match_any (xs : List Int) (hg : gIn xs = true) (w : World) (v : Value) (h : Ints w v xs) :
    Calls Tryd.prog 31 #[v] w (GivesAt w (mpL xs.length (nums (gfun xs) (2 ^ xs.length - 1)))) := by
  obtain ⟨h1, h8, hok⟩ := gIn_parts hg
  have hpos := Nat.two_pow_pos xs.length
  have HC := Lib.hid (l2N_any xs hg (2 ^ xs.length - 1) (2 ^ xs.length - 1) (Nat.le_refl _) (by omega))
  have hgl := gr_all h8 (gfun xs)
  have hs := all256 h8
  have hlen := gr_len (f := gfun xs) hs
  have hsm : ∀ k, nums (gfun xs) (2 ^ xs.length - 1) k ≤ 43046721 := fun k => nums_small hs k
  have hco := fun i => co_numL (f := gfun xs) hs i
  have htop : ∀ i, gr (gfun xs) (2 ^ xs.length - 1) + 1 ≤ i → nums (gfun xs) (2 ^ xs.length - 1) i = 0 := fun i hi => gr_top hs hi
  obtain ⟨E, hE⟩ : ∃ E, gr (gfun xs) (2 ^ xs.length - 1) = E := ⟨_, rfl⟩
  rw [hE] at hgl hlen htop
  obtain ⟨g, hgd⟩ : ∃ g, nums (gfun xs) (2 ^ xs.length - 1) = g := ⟨_, rfl⟩
  obtain ⟨q, hq⟩ : ∃ q, numL (gfun xs) (2 ^ xs.length - 1) = q := ⟨_, rfl⟩
  rw [hgd] at hsm hco htop
  rw [hq] at hlen hco
  rw [hgd]
  have HV := Lib.hid h
  have HQ := Lib.hid hq
  have HSM := Lib.hid hsm
  have HCO := Lib.hid hco
  have HTOP := Lib.hid htop
  have HLEN := Lib.hid hlen
  obtain ⟨A, cap, rfl, hm, _⟩ := h
  have hlw := low_wrap' (n := xs.length) (by omega)
  have hlw2 := low_wrap (v := xs.length) (by omega)
  have hl8 : (xs.length : Int) ≤ 8 := by omega
  obtain ⟨n1, hn1⟩ : ∃ n1, xs.length + 1 = n1 := ⟨_, rfl⟩
  have hw1 : (xs.length : Int) + 1 = (n1 : Int) := by omega
  have hmk := fun W => run_make_row' (P := Tryd.prog) 23 3 (.int .i64 0) 8 Tryd.underlying23 infoInt rfl .i64 .i64 n1 (by omega) (by omega) W
  have HN := Lib.hid hn1
  clear hg hok hpos hE hgd hq hsm hco htop hlen hn1 hs
  go_enter Tryd.func31, Tryd.ntmps31
  go_wp2_with (go_at_call 42; refine (HC.out _ _ HV.out).mono ?_; rintro e w1 ⟨g1, c1, rfl, hb1, ho1⟩; rw [HQ.out] at ho1 ⊢)
  clear hw1 hmk hlw hlw2
  obtain ⟨L, hL⟩ : ∃ L, q.length = L := ⟨_, rfl⟩
  have HL := Lib.hid hL
  have hLE : L ≤ E + 1 := by rw [← hL]; exact Nat.le_of_eq HLEN.out
  have hLE2 : E + 1 ≤ L := by rw [← hL]; exact Nat.le_of_eq HLEN.out.symm
  have hi1 : Ints w1 (.slice (some ⟨g1, 0, none⟩) q.length c1) q := ints_of_owns ho1
  obtain ⟨A1, cap1, he1, hm1, hc1⟩ := hi1
  obtain ⟨rfl, rfl⟩ : A1 = some ⟨g1, 0, none⟩ ∧ cap1 = c1 := by simpa using he1.symm
  have HC1 := Lib.hid hc1
  have HO1 := Lib.hid ho1
  rw [hL]
  clear hc1 ho1 he1 hm1 hL
  have hsz1 := hb1.size
  go_loopw [5] (fun i wr => ∃ k : Nat, k ≤ L ∧ i = .int .i64 k ∧ Below w.heap.size w wr ∧ Below w1.heap.size w1 wr ∧
      wr.ownsRow w1.heap.size 3 1 (.slice (some ⟨w1.heap.size, 0, none⟩) n1 n1) n1 (vals (tab n1 (polyTo xs.length g k))))
    (fun i _ => L - (intOf i).toNat)
  case atStart =>
    refine ⟨0, by omega, rfl, hb1.alloc hb1.size _, (Below.refl _ _).alloc (Nat.le_refl _) _, ?_⟩
    have hn2 := HN.out
    have := World.ownsRow_lit (base := w1.heap.size) (e := 3) (size := 1) w1 (madeCells #[Value.int .i64 0] n1) n1 (Nat.le_refl _) (by unfold maxLen; omega) (by simp [madeCells])
    rw [toList_madeCells_one, ← tab_const] at this
    rw [tab_congr (g := fun _ => 0) (fun i _ => polyTo_zero _ _ i)]
    exact this
  case round =>
    obtain ⟨k, hk, rfl, hb, hb', ho⟩ := hrel
    have HO := Lib.hid ho
    have HB := Lib.hid hb
    have HB' := Lib.hid hb'
    clear ho hb hb'
    by_cases hlt : k < L
    · obtain ⟨b1, off1, hba, hcq0⟩ := HC1.out k (by rw [HL.out]; exact hlt)
      obtain ⟨rfl, rfl⟩ : g1 = b1 ∧ 0 = off1 := by simpa using hba
      have hval : q[k]'(by rw [HL.out]; exact hlt) = ((g k : Nat) : Int) := by
        have := HCO.out k
        rw [co_at (by rw [HL.out]; exact hlt)] at this
        exact this
      rw [hval] at hcq0
      have hcq := (HB'.out.cell (p := ⟨g1, 0 + k, none⟩) (World.block_lt_of_cell? w1 _ hcq0)).trans hcq0
      have hcq2 := hcq
      rw [Nat.zero_add] at hcq2
      have hgk := HSM.out k
      have hk4 : 2 * k ≤ xs.length := by omega
      obtain ⟨d, hd⟩ : ∃ d, xs.length - 2 * k = d := ⟨_, rfl⟩
      have hn2 := HN.out
      have hdn : d < n1 := by omega
      have hnew : ∀ m, m < n1 → polyTo xs.length g (k + 1) m = if m = d then sgn k * (g k : Int) else polyTo xs.length g k m := by
        intro m hm
        rw [polyTo_succ (by omega) hk4, hd]
      have hst := sgn_times k (g k : Int) (by omega)
      have hf := HO.out.frozenAt d
      obtain ⟨y0, hy0⟩ : ∃ y0, polyTo xs.length g k d = y0 := ⟨_, rfl⟩
      have hx := (HO.out.cellAt d (by omega)).trans (tab_cell n1 _ d hdn)
      rw [hy0] at hx
      clear hy0
      obtain ⟨z, hz⟩ : ∃ z, sgn k * (g k : Int) = z := ⟨_, rfl⟩
      rw [hz] at hst hnew
      have i1 : (xs.length : Int) - 2 * (k : Int) = (d : Int) := by omega
      have hdi : (d : Int) < (n1 : Int) := by omega
      have hki : (k : Int) < (L : Int) := by omega
      have HS := Lib.hid (fun W => sign_any k (by omega) W)
      have b1 : -4000000000000000000 ≤ 2 * (k : Int) := by omega
      have b2 : 2 * (k : Int) ≤ 4000000000000000000 := by omega
      have b3 : -4000000000000000000 ≤ (d : Int) := by omega
      have b4 : (d : Int) ≤ 4000000000000000000 := by omega
      have b5 : -4000000000000000000 ≤ z := by omega
      have b6 : z ≤ 4000000000000000000 := by omega
      obtain ⟨a1, a2⟩ := wrap_in (2 * (k : Int)) b1 b2
      obtain ⟨d1, d2⟩ := wrap_in (d : Int) b3 b4
      obtain ⟨z1, z2⟩ := wrap_in z b5 b6
      clear b1 b2 b3 b4 b5 b6
      have HNEW := Lib.hid hnew
      clear hnew hst hval hcq0 hba hd hgk hn2
      go_wp2
      go_region_with (go_at_call 64; refine (HS.out _).mono ?_; rintro e w' ⟨rfl, rfl⟩)
      all_goals
        clear a1 a2 d1 d2 z1 z2 hx hf hcq hcq2 hz
        go_wp2
        go_roundw
        case rel =>
          refine ⟨k + 1, by omega, by go_num, (HB.out.setCell (p := ⟨w1.heap.size, d, none⟩) hsz1 _).drew, (HB'.out.setCell (p := ⟨w1.heap.size, d, none⟩) (Nat.le_refl _) _).drew, ?_⟩
          have e2 := (HO.out.stored d (.int .i64 z)).1
          rw [tab_set] at e2
          rw [tab_congr (g := fun m => if m = d then z else polyTo xs.length g k m) (fun m hm => HNEW.out m hm)]
          exact e2
        case measure => simp [intOf]; omega
    · obtain rfl : k = L := by omega
      have HO2 := Lib.hid HO.out
      go_wp2
      go_ret
      have e : mpL xs.length g = tab n1 (polyTo xs.length g k) := by
        unfold mpL
        rw [HN.out]
        exact tab_congr fun i _ => (polyTo_all fun j hj => HTOP.out j (by omega)).symm
      refine ⟨w1.heap.size, n1, ?_, HB.out, ?_⟩
      · rw [e, tab_len]; rfl
      · rw [e, tab_len]
        show World.ownsRow _ _ _ _ _ (tab n1 _).length _
        rw [tab_len]
        exact owns_mono HO.out (by omega)

set_option maxRecDepth 100000 in
set_option maxHeartbeats 1000000 in
theorem specPMatch_any (w : World) (v : Value) (xs : List Int) (h : Ints w v xs) :
    Calls Tryd.prog 9 #[v] w (GivesInts w (gIn xs) (mpOf xs)) := by
  have hs := specIn_any w v xs h
  cases hg : gIn xs with
  | false =>
    have ho : mpOf xs = [] := by simp [mpOf, hg]
    rw [hg] at hs
    rw [ho]
    have HS := Lib.hid hs
    obtain ⟨A, cap, rfl, hm, _⟩ := h
    clear hs hg ho
    go_enter Tryd.func9, Tryd.ntmps9
    go_wp2_with (go_at_call 30; refine HS.out.mono ?_; rintro e w1 ⟨rfl, q, rfl⟩)
    go_ret2
    exact ⟨_, rfl, below_drewN ((Below.refl _ _).alloc (Nat.le_refl _) _) q, owns_empty w _ (Nat.le_refl _)⟩
  | true =>
    have ho : mpOf xs = mpL xs.length (nums (gfun xs) (2 ^ xs.length - 1)) := by simp [mpOf, hg]
    have HC := Lib.hid (l3Match_any xs hg)
    rw [hg] at hs
    rw [ho]
    have HS := Lib.hid hs
    have HV := Lib.hid h
    obtain ⟨A, cap, rfl, hm, _⟩ := h
    clear hs hg ho
    go_enter Tryd.func9, Tryd.ntmps9
    go_wp2_with (first
      | (go_at_call 30; refine HS.out.mono ?_; rintro e w1 ⟨rfl, q, rfl⟩)
      | (go_at_call 31; refine (HC.out _ _ (HV.out.drewN q)).mono ?_; rintro e w2 ⟨g, c, rfl, hb2, ho2⟩))
    go_ret2
    exact ⟨_, rfl, step_below (below_drewN (Below.refl _ _) q) hb2, ho2⟩

end Go.Proofs.YtnmemefkeehjjabDoor
