/-
  spec.GraphBeside: what it hands back.
-/
import Derived.Test.YtbjpokjllkblaaaDoorBesMath
import Derived.Test.YtbjpokjllkblaaaDoorCore2
import Derived.Test.YtbjpokjllkblaaaDoorGives
import Derived.Test.YtbjpokjllkblaaaDoorRowsPush
import Derived.Deep.AppendLies
namespace Go.Proofs.YtbjpokjllkblaaaDoor
set_option linter.unusedVariables false
set_option linter.unusedSimpArgs false
open Go.RowKit
set_option maxRecDepth 100000

theorem bes_shift (x m : Nat) (hx : x < 256) (hm : m ≤ 8) : wrap64 ((x : Int) * 2 ^ m) = ((x * 2 ^ m : Nat) : Int) := by
  have h1 : 2 ^ m ≤ 2 ^ 8 := Nat.pow_le_pow_right (by decide) hm
  have h2 : x * 2 ^ m ≤ 255 * 2 ^ 8 := Nat.mul_le_mul (by omega) h1
  have e : ((x * 2 ^ m : Nat) : Int) = (x : Int) * 2 ^ m := by push_cast; rfl
  rw [← e]
  unfold wrap64
  omega

theorem besOk_l {xs ys : List Int} (h : gIn xs = false) : besOk xs ys = false := by unfold besOk; rw [h]; simp
theorem besOk_r {xs ys : List Int} (h : gIn ys = false) : besOk xs ys = false := by unfold besOk; rw [h]; simp
theorem besOk_n {xs ys : List Int} (h : ¬ xs.length + ys.length ≤ 8) : besOk xs ys = false := by unfold besOk; simp [h]
theorem besOk_y {xs ys : List Int} (h1 : gIn xs = true) (h2 : gIn ys = true) (h : xs.length + ys.length ≤ 8) : besOk xs ys = true := by unfold besOk; rw [h1, h2]; simp [h]
theorem besOf_no {xs ys : List Int} (h : besOk xs ys = false) : besOf xs ys = [] := by unfold besOf; rw [h]; simp

set_option maxHeartbeats 4000000 in
theorem specBeside_any (w : World) (v u : Value) (xs ys : List Int) (hv : Ints w v xs) (hu : Ints w u ys) :
    Calls Tryd.prog 6 #[v, u] w (GivesInts w (besOk xs ys) (besOf xs ys)) := by
  have h1 := specIn_any w v xs hv
  have h2 := fun W (h : Ints W u ys) => specIn_any W u ys h
  have HV := Lib.hid hv
  have HU := Lib.hid hu
  obtain ⟨A, cap, rfl, hm, _⟩ := hv
  obtain ⟨A2, cap2, rfl, hm2, _⟩ := hu
  have H1 := Lib.hid h1
  have H2 := Lib.hid h2
  clear h1 h2
  cases hg : gIn xs with
  | false =>
    rw [hg] at H1
    rw [besOf_no (besOk_l hg), besOk_l hg]
    clear hg
    go_enter Tryd.func6, Tryd.ntmps6
    go_wp2_with fail
    refine H1.out.mono ?_
    rintro e w1 ⟨rfl, q, rfl⟩
    go_wp2
    go_ret2
    exact ⟨_, rfl, by have := below_drewN (Below.refl w.heap.size w) q; exact this.alloc this.size _, owns_empty (w.drewN q) _ (by simp)⟩
  | true =>
    rw [hg] at H1
    cases hh : gIn ys with
    | false =>
      rw [hh] at H2
      rw [besOf_no (besOk_r hh), besOk_r hh]
      clear hg hh
      go_enter Tryd.func6, Tryd.ntmps6
      go_wp2_with fail
      refine H1.out.mono ?_
      rintro e w1 ⟨rfl, q, rfl⟩
      go_wp2_with fail
      refine (H2.out _ (HU.out.drewN q)).mono ?_
      rintro e w2 ⟨rfl, q2, rfl⟩
      have hb := below_drewN (below_drewN (Below.refl w.heap.size w) q) q2
      obtain ⟨w2, hw2⟩ : ∃ w2, (w.drewN q).drewN q2 = w2 := ⟨_, rfl⟩
      rw [hw2] at hb ⊢
      have HB := Lib.hid hb
      clear hw2 hb
      go_wp2
      go_ret2
      exact ⟨_, rfl, HB.out.alloc HB.out.size _, owns_empty w2 _ HB.out.size⟩
    | true =>
      rw [hh] at H2
      have HG := Lib.hid hg
      have HH := Lib.hid hh
      clear hg hh
      by_cases h8 : xs.length + ys.length ≤ 8
      · rw [besOk_y HG.out HH.out h8, show besOf xs ys = glist (xs.length + ys.length) (besF xs.length (gfun xs) (gfun ys)) by unfold besOf; rw [if_pos (besOk_y HG.out HH.out h8)]]
        obtain ⟨i0, hi, hz0, hz1, hz2⟩ := info_parts infoInt
        have h8i : ¬ (8 : Int) < (xs.length : Int) + (ys.length : Int) := by omega
        have hst := bes_start HG.out (gfun ys)
        have HST := Lib.hid hst
        obtain ⟨x1, _, _⟩ := gIn_parts HG.out
        obtain ⟨_, y8, yok⟩ := gIn_parts HH.out
        have hrow : ∀ i (hi : i < ys.length), ys[i] = (gfun ys i : Int) ∧ gfun ys i < 256 := fun k hk => row_value y8 yok hk
        have HROW := Lib.hid hrow
        clear hst hrow yok
        go_enter Tryd.func6, Tryd.ntmps6
        go_wp2_with fail
        refine H1.out.mono ?_
        rintro e w1 ⟨rfl, q, rfl⟩
        go_wp2_with fail
        refine (H2.out _ (HU.out.drewN q)).mono ?_
        rintro e w2 ⟨rfl, q2, rfl⟩
        have hb := below_drewN (below_drewN (Below.refl w.heap.size w) q) q2
        have hv2 := (HV.out.drewN q).drewN q2
        have hu2 := (HU.out.drewN q).drewN q2
        obtain ⟨w2, hw2⟩ : ∃ w2, (w.drewN q).drewN q2 = w2 := ⟨_, rfl⟩
        rw [hw2] at hb hv2 hu2 ⊢
        have HB := Lib.hid hb
        have HU2 := Lib.hid hu2
        have hsz := hb.size
        obtain ⟨A', cap', e', _, hc2⟩ := hv2
        cases e'
        obtain ⟨bx, off, hA, _⟩ := hc2 0 (by omega)
        subst hA
        have HC2 := Lib.hid hc2
        clear hw2 hb hu2 hc2
        go_wp2_with (at_builtin; refine wpList_append_own _ rfl _ _ 23 rfl w2.heap.size 3 i0 (.int .i64 0) 1 8 Tryd.underlying23 hi hz0 hz1 hz2 rfl (by decide) _ _ _ rfl (World.ownsRow_made (base := w2.heap.size) (e := 3) (size := 1) w2 #[] 0 (Nat.le_refl _) (Nat.zero_le _) rfl) ⟨bx, off, none⟩ xs.length cap (vals xs) rfl ?qc1 ?qc2 ?qc3 ?qc4 ?qc5 ?qc6 ?_)
        case qc1 => simp [vals]
        case qc2 =>
          intro j u hj
          have hjl : j < xs.length := by
            rcases Nat.lt_or_ge j xs.length with h | h
            · exact h
            · simp [vals, h] at hj
          obtain ⟨b', off', e, hcell⟩ := HC2.out j hjl
          cases e
          have e2 : u = .int .i64 xs[j] := by simpa [vals, hjl] using hj.symm
          rw [e2]
          have ea : (⟨bx, off, none⟩ : Addr).add j = ⟨bx, off + j, none⟩ := by first | rfl | simp [Addr.add]
          rw [ea]
          exact Lib.cell?_alloc_some _ hcell
        case qc3 => intro z hz; simp only [vals, List.mem_map] at hz; obtain ⟨a, _, rfl⟩ := hz; rfl
        case qc4 => unfold maxLen; omega
        case qc5 => omega
        case qc6 => simp
        intro v1 w3 hown0 hgrow0 _
        replace hown0 : w3.ownsRow w2.heap.size 3 1 v1 xs.length (vals xs) := by simpa using hown0
        have hb3 : Below w2.heap.size w2 w3 := ((Below.refl _ _).alloc (Nat.le_refl _) _).grown hgrow0 (by simp) (by intro k hk; simp [Value.ownBlock] at hk; omega)
        rw [← HST.out] at hown0
        have hB3 := step_below HB.out hb3
        have hu3 := HU2.out.below hb3
        obtain ⟨A6, cap6, e6, _, hc6⟩ := hu3
        cases e6
        have HC6 := Lib.hid hc6
        have hs3 := hb3.size
        have hown3 : w3.ownsRow w2.heap.size 3 1 v1 (xs.length + 0) (vals (glist (xs.length + 0) (besF xs.length (gfun xs) (gfun ys)))) := hown0
        clear hown0 hgrow0 hc6
        go_wp2
        go_loopw [6, 7] (fun r i wr => ∃ k : Nat, k ≤ ys.length ∧ i = .int .i64 k ∧ Below w2.heap.size w2 wr ∧ wr.ownsRow w2.heap.size 3 1 r (xs.length + k) (vals (glist (xs.length + k) (besF xs.length (gfun xs) (gfun ys)))))
          (fun _ i _ => ys.length - (intOf i).toNat)
        case atStart => exact ⟨0, by omega, rfl, hb3, hown3⟩
        case round =>
          obtain ⟨k, hk, rfl, hb, ho⟩ := hrel
          by_cases hlt : k < ys.length
          · have hur := HU2.out.below hb
            obtain ⟨A6, cap6, e6, _, hc6⟩ := hur
            cases e6
            obtain ⟨b, off6, rfl, hcell⟩ := hc6 k hlt
            obtain ⟨hxk, hlk⟩ := HROW.out k hlt
            rw [hxk] at hcell
            have hki : (k : Int) < (ys.length : Int) := by omega
            have hsh := bes_shift (gfun ys k) xs.length hlk (by omega)
            have e2 : besF xs.length (gfun xs) (gfun ys) (xs.length + k) = gfun ys k * 2 ^ xs.length := by unfold besF; rw [if_neg (by omega), Nat.add_sub_cancel_left]
            have E2 := Lib.hid e2
            have hbs := hb.size
            clear hc6 hxk e2
            go_wp2_with (at_builtin; refine wpList_append_own _ rfl _ _ 23 rfl w2.heap.size 3 i0 (.int .i64 0) 1 8 Tryd.underlying23 hi hz0 hz1 hz2 rfl (by decide) _ _ _ rfl (ho.alloc _) ⟨wr.heap.size, 0, none⟩ 1 1 [.int .i64 (gfun ys k * 2 ^ xs.length : Nat)] rfl rfl ?q2 ?q3 ?q4 ?q5 ?q6 ?_; rotate_left 5; intro v' w4 hown' hgrow _)
            case q2 => exact cell_one_new _ _ _
            case q3 => intro z hz; rw [List.mem_singleton.1 hz]; rfl
            case q4 => unfold maxLen; omega
            case q5 => omega
            case q6 => simp; omega
            go_wp2
            go_roundw
            case rel =>
              refine ⟨k + 1, by omega, by go_num, ?_, ?_⟩
              · exact (hb.alloc hb.size _).grown hgrow (by simp; omega) (fun j hj => (ho.lt j hj).1)
              · rw [show xs.length + (k + 1) = xs.length + k + 1 by omega, glist_succ, E2.out]; exact hown'
            case measure => simp [intOf]; omega
          · obtain rfl : k = ys.length := by omega
            obtain ⟨L, hL⟩ : ∃ L, glist (xs.length + ys.length) (besF xs.length (gfun xs) (gfun ys)) = L := ⟨_, rfl⟩
            have hl : L.length = xs.length + ys.length := by rw [← hL, glist_len]
            rw [hL, ← hl] at ho
            have HO := Lib.hid ho
            have HL := Lib.hid hL
            clear ho hL hl
            go_wp2
            go_ret2
            have h := owns_mono HO.out HB.out.size
            rw [← HL.out] at h
            exact ⟨_, rfl, step_below HB.out hb, h⟩
      · have h8i : (8 : Int) < (xs.length : Int) + (ys.length : Int) := by omega
        rw [besOf_no (besOk_n h8), besOk_n h8]
        obtain ⟨_, x8, _⟩ := gIn_parts HG.out
        obtain ⟨_, y8, _⟩ := gIn_parts HH.out
        clear h8
        go_enter Tryd.func6, Tryd.ntmps6
        go_wp2_with fail
        refine H1.out.mono ?_
        rintro e w1 ⟨rfl, q, rfl⟩
        go_wp2_with fail
        refine (H2.out _ (HU.out.drewN q)).mono ?_
        rintro e w2 ⟨rfl, q2, rfl⟩
        have hb := below_drewN (below_drewN (Below.refl w.heap.size w) q) q2
        obtain ⟨w2, hw2⟩ : ∃ w2, (w.drewN q).drewN q2 = w2 := ⟨_, rfl⟩
        rw [hw2] at hb ⊢
        have HB := Lib.hid hb
        unfold maxLen at hm hm2
        clear hw2 hb
        go_wp2
        go_ret2
        exact ⟨_, rfl, HB.out.alloc HB.out.size _, owns_empty w2 _ HB.out.size⟩

end Go.Proofs.YtbjpokjllkblaaaDoor
