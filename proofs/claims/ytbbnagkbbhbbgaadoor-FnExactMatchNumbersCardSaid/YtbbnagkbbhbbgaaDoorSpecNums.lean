/-
  spec.l2Numbers: the matching numbers of a set of nodes, by recursion.
-/
import Derived.Test.YtbbnagkbbhbbgaaDoorNum1
import Derived.Test.YtbbnagkbbhbbgaaDoorSpecAdd
import Derived.Test.YtbbnagkbbhbbgaaDoorCore2
import Derived.OwnWalk
import Derived.Deep.AppendLies
namespace Go.Proofs.YtbbnagkbbhbbgaaDoor
set_option linter.unusedVariables false
set_option linter.unusedSimpArgs false
open Go.RowKit

theorem owns_one (w : World) (B : Nat) (hB : B ≤ w.heap.size) (x : Int) : Owns (w.alloc (.cells #[.int .i64 x] 3)) B (.slice (some ⟨w.heap.size, 0, none⟩) 1 1) [x] :=
  World.ownsRow_lit w #[.int .i64 x] 1 hB (by simp [maxLen]) rfl
theorem gives_one (w : World) (f : Nat → Nat) : GivesAt w (numL f 0) (.returned (.slice (some ⟨w.heap.size, 0, none⟩) 1 1)) (w.alloc (.cells #[.int .i64 1] 3)) := by
  have e : numL f 0 = [1] := by
    unfold numL
    have : tab 5 (fun k => ((nums f 0 k : Nat) : Int)) = [1, 0, 0, 0, 0] := rfl
    rw [this]; rfl
  rw [e]
  exact ⟨_, _, rfl, (Below.refl _ _).alloc (Nat.le_refl _) _, owns_one w _ (Nat.le_refl _) 1⟩

theorem shr_eq (s v : Nat) (hs : s < 256) (r : Bool) (h : s.testBit v = r) : (bits .and .i64 ((s : Int) / 2 ^ v) 1 == 1) = r ∧ (bits .and .i64 ((s : Int) / 2 ^ v) 1 == 0) = !r := by
  have e : ((s : Int) / 2 ^ v) = ((s / 2 ^ v : Nat) : Int) := by push_cast; rfl
  have hlt : s / 2 ^ v < 256 := Nat.lt_of_le_of_lt (Nat.div_le_self _ _) hs
  rw [e, show (1 : Int) = ((1 : Nat) : Int) from rfl, and64 _ _ (by omega) (by omega), Nat.and_one_is_mod]
  rw [Nat.testBit_eq_decide_div_mod_eq] at h
  subst h
  rcases Nat.mod_two_eq_zero_or_one (s / 2 ^ v) with h0 | h1
  · rw [h0]; decide
  · rw [h1]; decide

theorem pow_wrap_all : ∀ x : Fin 8, wrap64 (2 ^ x.val) = ((2 ^ x.val : Nat) : Int) := by decide +kernel
theorem rest_val {s : Nat} (hs : s < 256) : bits .andNot .i64 (s : Int) (wrap64 (2 ^ (low s).val)) = ((rst s : Nat) : Int) := by
  rw [pow_wrap_all, andNot64 _ _ hs (pow7_lt (low s).isLt)]; rfl

set_option maxRecDepth 100000 in
set_option maxHeartbeats 8000000 in
theorem l2N_any (xs : List Int) (hg : gIn xs = true) : ∀ (d s : Nat), s ≤ d → s < 2 ^ xs.length → ∀ (w : World) (v : Value), Ints w v xs →
    Calls Tryd.prog 11 #[v, .int .i64 (s : Int)] w (GivesAt w (numL (gfun xs) s)) := by
  obtain ⟨i0, hi, hz0, hz1, hz2⟩ := info_parts infoInt
  obtain ⟨h1, h8, hok⟩ := gIn_parts hg
  have hp8 := pow8_le (v := xs.length) (by omega)
  intro d
  induction d with
  | zero =>
    intro s hsd hs w v hv
    obtain rfl : s = 0 := by omega
    go_enter Tryd.func11, Tryd.ntmps11
    go_wp2
    go_ret
    exact gives_one w _
  | succ d ih =>
    intro s hsd hs w v hv
    by_cases h0 : s = 0
    · subst h0
      go_enter Tryd.func11, Tryd.ntmps11
      go_wp2
      go_ret
      exact gives_one w _
    · have hs256 : s < 256 := by omega
      have hne : ((s : Int) == 0) = false := by rw [beq_eq_false_iff_ne]; omega
      have HI := Lib.hid ih
      have HV := Lib.hid hv
      obtain ⟨A0, cap0, rfl, -, -⟩ := hv
      clear ih
      go_enter Tryd.func11, Tryd.ntmps11
      go_wp2
      go_loopw [5] (fun i wr => ∃ k : Nat, k ≤ (low s).val ∧ i = .int .i64 k ∧ wr = w) (fun i _ => (low s).val - (intOf i).toNat)
      case atStart => exact ⟨0, by omega, rfl, rfl⟩
      case round =>
        obtain ⟨k, hk, rfl, hwr⟩ := hrel
        have hwr2 := hwr.symm
        clear hwr
        subst hwr2
        have hl8 := (low s).isLt
        have hk8 : (k : Int) < 8 := by omega
        have hk64 : (k : Int) < 64 := by omega
        by_cases hlt : k < (low s).val
        · obtain ⟨hb1, hb0⟩ := shr_eq s k hs256 false (low_least_all ⟨s, hs256⟩ ⟨k, by omega⟩ hlt)
          rw [Bool.not_false] at hb0
          obtain ⟨j, hj⟩ : ∃ j, k + 1 = j := ⟨_, rfl⟩
          go_wp2
          go_roundw
          case rel => exact ⟨j, by omega, by rw [← hj]; go_num, trivial⟩
          case measure => simp [intOf]; omega
        · obtain rfl : k = (low s).val := by omega
          obtain ⟨hb1, hb0⟩ := shr_eq s (low s).val hs256 true (low_bit hs256 h0)
          rw [Bool.not_true] at hb0
          have hrest := rest_val hs256
          have hrs := rst_lt hs256 h0
          go_wp2_with (go_at_call 11; refine (HI.out (rst s) (by omega) (by omega) _ _ HV.out).mono ?_; rintro e w1 ⟨g, cap, rfl, hb1, ho1⟩)
          have hnx : (low s).val < xs.length := by
            by_cases hc : (low s).val < xs.length
            · exact hc
            · exfalso
              have hlt2 : s < 2 ^ (low s).val := Nat.lt_of_lt_of_le hs (Nat.pow_le_pow_right (by decide) (by omega))
              have hb := low_bit hs256 h0
              rw [Nat.testBit_lt_two_pow hlt2] at hb
              cases hb
          have HV2 := Lib.hid HV.out
          go_loopw [7, 8] (fun q i wr2 => ∃ (k : Nat) (p : List Int) (g cap : Nat), (low s).val + 1 ≤ k ∧ k ≤ xs.length ∧ i = .int .i64 k ∧ q = .slice (some ⟨g, 0, none⟩) p.length cap ∧ Below w.heap.size w wr2 ∧
              Owns wr2 w.heap.size (.slice (some ⟨g, 0, none⟩) p.length cap) p ∧ OnWay (gfun xs) s (upto (tieOf (gfun xs) s) k) p) (fun _ i _ => xs.length - (intOf i).toNat)
          case atStart =>
            refine ⟨(low s).val + 1, numL (gfun xs) (rst s), g, cap, by omega, by omega, by simp, rfl, hb1, ho1, ?_⟩
            rw [tie_upto hs256 h0]
            exact onway_start hs256
          case round =>
            obtain ⟨k, p, g2, cap2, hk1, hk2, rfl, rfl, hb2, ho2, hw2⟩ := hrel
            by_cases hlt : k < xs.length
            · have hki : (k : Int) < (xs.length : Int) := by omega
              have hk8 : (k : Int) < 8 := by omega
              have hk64 : (k : Int) < 64 := by omega
              have hl8 := (low s).isLt
              have hr256 : rst s < 256 := by omega
              have hks : ∀ l : List (Fin 8), k < 8 := fun _ => by omega
              have HO2 := Lib.hid ho2
              have HB2 := Lib.hid hb2
              have HW2 := Lib.hid hw2
              clear ho2 hb2 hw2 hks
              cases hbt : (rst s).testBit k with
              | false =>
                obtain ⟨hb1, hb0⟩ := shr_eq (rst s) k hr256 false hbt
                obtain ⟨j, hj⟩ : ∃ j, k + 1 = j := ⟨_, rfl⟩
                go_wp2
                go_roundw
                case rel =>
                  refine ⟨k + 1, p, g2, cap2, by omega, by omega, by go_num, rfl, HB2.out, HO2.out, ?_⟩
                  rw [upto_no (tie_lt hs256) (by omega) (by rw [tie_bit, hbt, Bool.and_false])]
                  exact HW2.out
                case measure => simp [intOf]; omega
              | true =>
                obtain ⟨hb1, hb0⟩ := shr_eq (rst s) k hr256 true hbt
                have hlt8 := gfun_lt h8 hok
                have hrow := (row_value h8 hok hnx).1
                cases htf : (gfun xs (low s).val).testBit k with
                | false =>
                  have hh := l1Has_q wr _ xs (low s).val k _ (HV2.out.below HB2.out) hnx hrow (hlt8 _) (by omega) false htf
                  have HH := Lib.hid hh
                  clear hh hrow hlt8
                  go_wp2_with (go_at_call 17; refine HH.out.mono ?_; rintro e w' ⟨rfl, rfl⟩)
                  go_roundw
                  case rel =>
                    refine ⟨k + 1, p, g2, cap2, by omega, by omega, by go_num, rfl, HB2.out, HO2.out, ?_⟩
                    rw [upto_no (tie_lt hs256) (by omega) (by rw [tie_bit, htf, Bool.false_and])]
                    exact HW2.out
                  case measure => simp [intOf]; omega
                | true =>
                  have hh := l1Has_any wr _ xs (low s).val k _ (HV2.out.below HB2.out) hnx hrow (hlt8 _) (by omega)
                  rw [htf] at hh
                  have HH := Lib.hid hh
                  clear hh hrow hlt8
                  have hwoV : bits .andNot .i64 ((rst s : Nat) : Int) (wrap64 (2 ^ k)) = ((wo (rst s) k : Nat) : Int) := by
                    have e := pow_wrap_all ⟨k, by omega⟩
                    simp only at e
                    rw [e, andNot64 _ _ hr256 (pow7_lt (by omega))]; rfl
                  have hwoL := wo_lt hr256 (by omega) hbt
                  have hpos := numL_pos (f := gfun xs) (s := wo (rst s) k) (by omega)
                  have hl5 := numL_len (gfun xs) (wo (rst s) k)
                  have hwin := numL_within (f := gfun xs) (s := wo (rst s) k) (by omega)
                  obtain ⟨suf, hsuf⟩ := upto_split (m := tieOf (gfun xs) s) (b := k) (tie_lt hs256) (by omega)
                  have hpw := onway_within hs256 h0 HW2.out hsuf
                  obtain ⟨q, hq⟩ : ∃ q, numL (gfun xs) (wo (rst s) k) = q := ⟨_, rfl⟩
                  rw [hq] at hpos hl5 hwin
                  have HQ := Lib.hid hq
                  have HPW := Lib.hid hpw
                  have HWIN := Lib.hid hwin
                  have hq1 := hpos.1
                  have hp5 := HW2.out.2.1
                  clear hpw hwin hq hsuf hpos
                  have hbs := HB2.out.size
                  go_wp2_with (first
                    | (go_at_call 17; refine HH.out.mono ?_; rintro e w' ⟨rfl, rfl⟩)
                    | (go_at_call 11; refine (HI.out (wo (rst s) k) (by omega) (by omega) _ _ (HV2.out.below (HB2.out.alloc HB2.out.size _))).mono ?_; rintro e w3 ⟨g3, cap3, rfl, hb3, ho3⟩; rw [HQ.out] at ho3 ⊢; have hs3 := hb3.size; rw [World.size_alloc] at hs3)
                    | (refine wpList_append_lies _ rfl (.tmp 46) (.tmp 52) 22 rfl w.heap.size 3 i0 (.int .i64 0) 1 8 Tryd.underlying22 hi hz0 hz1 hz2 rfl (by decide) _ _ _ rfl (owns_below (owns_one wr w.heap.size hbs 0) hb3) ⟨g3, 0, none⟩ q.length cap3 (vals q) rfl (by simp) (fun j u hj => ho3.cells (g := g3) rfl j u hj) (by simp [Value.oneCell']) hq1 (by unfold maxLen; simp; omega) (by simp; omega) (by omega) _ rfl ?_; intro g4 cap4 w4 hown4 hgrow4 _ _))
                  have hi4 : Ints w4 (.slice (some ⟨g4, 0, none⟩) (1 + q.length) cap4) (0 :: q) := by
                    rw [Nat.add_comm] at hown4 ⊢
                    exact ints_of_owns (xs := 0 :: q) hown4
                  have hg2 : g2 < wr.heap.size := (HO2.out.lt _ rfl).2
                  have hba : Below wr.heap.size wr w3 := ((Below.refl _ _).alloc (Nat.le_refl _) _).trans (hb3.mono (by simp))
                  have hba4 : Below wr.heap.size wr w4 := hba.grown hgrow4 (by omega) (fun j hj => by cases hj; exact Nat.le_refl _)
                  have hi2 : Ints w4 (.slice (some ⟨g2, 0, none⟩) p.length cap2) p := ints_of_owns (owns_below HO2.out hba4)
                  refine (l2Add_any w4 _ _ p (0 :: q) hi2 hi4 (by omega) (by simp; omega) HPW.out HWIN.out).mono ?_
                  rintro e w5 ⟨g5, cap5, rfl, hb5, ho5⟩
                  have hs4 := hba4.size
                  go_wp2
                  go_roundw
                  case rel =>
                    refine ⟨k + 1, addL p (0 :: q), g5, cap5, by omega, by omega, by go_num, rfl, ?_, ?_, ?_⟩
                    · exact (HB2.out.trans (hba4.mono hbs)).trans (hb5.mono (by omega))
                    · exact owns_mono ho5 (by omega)
                    · have hup := upto_yes (m := tieOf (gfun xs) s) (b := k) (tie_lt hs256) (by omega) (by rw [tie_bit, htf, hbt]; rfl)
                      obtain ⟨suf, hsuf⟩ := upto_split (m := tieOf (gfun xs) s) (b := k + 1) (tie_lt hs256) (by omega)
                      rw [hup] at hsuf ⊢
                      have := onway_step hs256 h0 HW2.out ⟨k, by omega⟩ suf (by simpa using hsuf)
                      rwa [HQ.out] at this
                  case measure => simp [intOf]; omega
            · obtain rfl : k = xs.length := by omega
              have hend : p = numL (gfun xs) s := by
                rw [upto_all (tie_lt hs256) (by omega) (tie_pow hs)] at hw2
                exact onway_end hs256 h0 hw2
              go_wp2
              go_ret
              rw [← hend]
              exact ⟨g2, cap2, rfl, hb2, ho2⟩

end Go.Proofs.YtbbnagkbbhbbgaaDoor
