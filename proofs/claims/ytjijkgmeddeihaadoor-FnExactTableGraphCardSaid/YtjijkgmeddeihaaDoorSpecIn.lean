/-
  spec.GraphIn: whether a list is a graph; it only reads.
-/
import Derived.Test.YtjijkgmeddeihaaDoorIn
import Derived.Deep.QuietTactic
import Derived.BigQuiet
namespace Go.Proofs.YtjijkgmeddeihaaDoor
set_option linter.unusedVariables false
set_option linter.unusedSimpArgs false
open Go.RowKit

/-- Each pair of nodes sees each other, or neither does. -/
def symTo (f : Nat → Nat) (a b : Nat) : Prop := (∀ i, i < a → ∀ j, j < i → (f i).testBit j = (f j).testBit i) ∧ ∀ j, j < b → (f a).testBit j = (f j).testBit a

theorem symTo_next {f : Nat → Nat} {a b : Nat} (h : symTo f a b) (he : (f a).testBit b = (f b).testBit a) : symTo f a (b + 1) :=
  ⟨h.1, fun j hj => by
    by_cases e : j = b
    · subst e; exact he
    · exact h.2 j (by omega)⟩
theorem symTo_row {f : Nat → Nat} {a : Nat} (h : symTo f a a) : symTo f (a + 1) 0 :=
  ⟨fun i hi j hj => by
    by_cases e : i = a
    · subst e; exact h.2 j hj
    · exact h.1 i (by omega) j hj, fun j hj => by omega⟩
theorem symTo_zero (f : Nat → Nat) : symTo f 0 0 := ⟨fun i hi => by omega, fun j hj => by omega⟩

theorem row_factsG {xs : List Int} {k i : Nat} (h : okTo xs k = true) (hi : i < k) : gfun xs i < 2 ^ xs.length ∧ (gfun xs i).testBit i = false := by
  have h1 := okTo_at h hi
  simp only [rowOk, Bool.and_eq_true, decide_eq_true_eq, Bool.not_eq_true'] at h1
  refine ⟨?_, h1.2⟩
  have h2 := h1.1
  unfold gfun
  generalize 2 ^ xs.length = p at h2
  omega

theorem row_value {xs : List Int} {i : Nat} (h8 : xs.length ≤ 8) (h : okTo xs xs.length = true) (hi : i < xs.length) : xs[i] = (gfun xs i : Int) ∧ gfun xs i < 256 := by
  refine ⟨?_, gfun_lt h8 h i⟩
  have h1 := okTo_at h hi
  simp only [rowOk, Bool.and_eq_true, decide_eq_true_eq] at h1
  rw [gfun_at hi]
  rw [List.getElem?_eq_getElem hi, Option.getD_some] at h1
  omega

theorem sym_mut {xs : List Int} (h8 : xs.length ≤ 8) (hok : okTo xs xs.length = true) (h : symTo (gfun xs) xs.length 0) : mutB xs.length (gfun xs) = true := by
  unfold mutB
  rw [List.all_eq_true]
  intro a ha
  have ha := List.mem_range.1 ha
  unfold mutRow
  rw [List.all_eq_true]
  intro b hb
  have hb := mem_bitsOf.1 hb
  obtain ⟨hlt, hself⟩ := row_factsG hok ha
  have hbn : b.val < xs.length := by
    rcases Nat.lt_or_ge b.val xs.length with h' | h'
    · exact h'
    · have : (gfun xs a).testBit b.val = false := Nat.testBit_lt_two_pow (Nat.lt_of_lt_of_le hlt (Nat.pow_le_pow_right (by decide) h'))
      rw [this] at hb; cases hb
  rcases Nat.lt_trichotomy b.val a with h1 | h1 | h1
  · rw [← h.1 a ha b.val h1]; exact hb
  · rw [h1, hself] at hb; cases hb
  · rw [h.1 b.val hbn a h1]; exact hb

theorem mut_sym {xs : List Int} (h8 : xs.length ≤ 8) (a b : Nat) (ha : a < xs.length) (hb : b < a) (hne : (gfun xs a).testBit b ≠ (gfun xs b).testBit a) : mutB xs.length (gfun xs) = false := by
  rw [Bool.eq_false_iff]
  intro hm
  unfold mutB at hm
  have key : ∀ i j, i < xs.length → j < xs.length → (gfun xs i).testBit j = true → (gfun xs j).testBit i = true := by
    intro i j hi hj hb
    have h1 := List.all_eq_true.1 hm i (List.mem_range.2 hi)
    unfold mutRow at h1
    exact List.all_eq_true.1 h1 ⟨j, by omega⟩ (mem_bitsOf.2 hb)
  have k1 := key a b ha (by omega)
  have k2 := key b a (by omega) ha
  cases h1 : (gfun xs a).testBit b <;> cases h2 : (gfun xs b).testBit a <;> simp_all

theorem low_wrap' {n : Nat} (hn : n < 9) : IntKind.i64.wrap (IntKind.i64.wrap (2 ^ n) - 1) = ((2 ^ n - 1 : Nat) : Int) := by
  rw [wrap_eq, wrap_eq]; exact low_wrap hn

set_option maxRecDepth 100000 in
set_option maxHeartbeats 1000000 in
theorem specIn_any (w : World) (v : Value) (xs : List Int) (h : Ints w v xs) :
    Calls Tryd.prog 20 #[v] w fun e w' => e = .returned (.bool (gIn xs)) ∧ ∃ n, w' = w.drewN n := by
  have hv := h
  obtain ⟨A, cap, rfl, hm, hc⟩ := h
  have HV := Lib.hid hv
  have HC := Lib.hid hc
  clear hv hc
  unfold maxLen at hm
  by_cases hs : xs.length < 1 ∨ 8 < xs.length
  · have hno := gIn_size hs
    have hs' : (xs.length : Int) < 1 ∨ 8 < (xs.length : Int) := by omega
    have HN := Lib.hid hno
    have HS := Lib.hid hs'
    clear hno hs hs'
    go_enter Tryd.func20, Tryd.ntmps20
    go_wp2_with (go_at_call 28; refine (l6In_no xs.length 1 8 HS.out _).mono ?_; rintro e w' ⟨rfl, rfl⟩)
    go_ret
    exact ⟨ret_bool HN.out.symm, 0, rfl⟩
  have h1 : 1 ≤ xs.length := by omega
  have h8 : xs.length ≤ 8 := by omega
  clear hs
  go_enter Tryd.func20, Tryd.ntmps20
  go_wp2_with (go_at_call 28; refine (l6In_yes xs.length 1 8 (by omega) (by omega) _).mono ?_; rintro e w' ⟨rfl, rfl⟩)
  go_loopw [4] (fun i wr => ∃ k : Nat, k ≤ xs.length ∧ i = .int .i64 k ∧ okTo xs k = true ∧ ∃ n, wr = w.drewN n) (fun i _ => xs.length - (intOf i).toNat)
  case atStart => exact ⟨0, by omega, rfl, okTo_zero xs, 0, rfl⟩
  case round =>
    obtain ⟨k, hk, rfl, hok, nd, hnd⟩ := hrel
    have hvr : Ints wr (.slice A xs.length cap) xs := by rw [hnd]; exact HV.out.drewN nd
    have HVR := Lib.hid hvr
    have HW := Lib.hid hnd
    clear hvr hnd
    have HO := Lib.hid hok
    clear hok
    by_cases hlt : k < xs.length
    · obtain ⟨b, off, rfl, hcell0⟩ := HC.out k hlt
      have hcell : wr.cell? ⟨b, off + k, none⟩ = some (.int .i64 xs[k]) := by rw [HW.out]; exact hcell0
      clear hcell0
      have hlw := low_wrap' (n := xs.length) (by omega)
      have hlw2 := low_wrap (v := xs.length) (by omega)
      have hki : (k : Int) < (xs.length : Int) := by omega
      by_cases hin : 0 ≤ xs[k] ∧ xs[k] < ((2 ^ xs.length : Nat) : Int)
      · obtain ⟨m, hmm⟩ : ∃ m : Nat, xs[k] = (m : Int) := ⟨xs[k].toNat, by omega⟩
        have hp := pow8_le (v := xs.length) (by omega)
        have hm256 : m < 256 := by omega
        have hmle : (m : Int) ≤ ((2 ^ xs.length - 1 : Nat) : Int) := by omega
        have hgm : gfun xs k = m := by rw [gfun_at hlt, hmm]; simp
        rw [hmm] at hcell
        have hl := fun W => l6In_q (m : Int) 0 ((2 ^ xs.length - 1 : Nat) : Int) true (by simp; omega) W
        have hh := fun (q : Nat) (r : Bool) => l1Has_q (wr.drewN q) _ xs k k m (HVR.out.drewN q) hlt hmm hm256 (by omega) r
        have HL := Lib.hid hl
        cases ht : m.testBit k with
        | true =>
          have hh2 := fun q => hh q _ ht
          have HH := Lib.hid hh2
          clear hh2
          have hno : gIn xs = false := by
            refine gIn_row (i := k) ?_ hlt
            unfold rowOk; rw [hgm, ht]; simp
          have HN := Lib.hid hno
          clear hl hh hno ht hmm hgm hin hmle hp HO
          go_wp2
          go_quiet (first | (go_at_call 28; exact Calls.quiet_of_same (HL.out _)) | (go_at_call 35; exact Calls.quiet_of_same (HH.out _)))
          go_wp2
          go_ret
          exact ⟨ret_bool HN.out.symm, drews_of HW.out⟩
        | false =>
          have hh2 := fun q => hh q _ ht
          have HH := Lib.hid hh2
          clear hh2
          have hyes : okTo xs (k + 1) = true := by
            rw [okTo_succ, HO.out]
            unfold rowOk; rw [hgm, ht, List.getElem?_eq_getElem hlt, Option.getD_some, decide_eq_true hin]; rfl
          have HY := Lib.hid hyes
          clear hl hh hyes ht hmm hgm hin hmle hp HO
          go_wp2
          go_quiet (first | (go_at_call 28; exact Calls.quiet_of_same (HL.out _)) | (go_at_call 35; exact Calls.quiet_of_same (HH.out _)))
          go_wp2
          go_roundw
          case rel => exact ⟨k + 1, by omega, by go_num, HY.out, drews_of HW.out⟩
          case measure => simp [intOf]; omega
      · have hp0 : 0 < 2 ^ xs.length := Nat.two_pow_pos _
        have hout : xs[k] < 0 ∨ ((2 ^ xs.length - 1 : Nat) : Int) < xs[k] := by omega
        clear hp0
        have hl := fun W => l6In_q xs[k] 0 ((2 ^ xs.length - 1 : Nat) : Int) false (by simp; omega) W
        have HL := Lib.hid hl
        have hno : gIn xs = false := by
          refine gIn_row (i := k) ?_ hlt
          unfold rowOk; rw [List.getElem?_eq_getElem hlt, Option.getD_some, decide_eq_false hin]; rfl
        have HN := Lib.hid hno
        clear hl hno hin hout HO
        go_wp2
        go_quiet (first | (go_at_call 28; exact Calls.quiet_of_same (HL.out _)))
        go_wp2
        go_ret
        exact ⟨ret_bool HN.out.symm, drews_of HW.out⟩
    · obtain rfl : k = xs.length := by omega
      go_wp2
      go_loop [5, 6] (fun i _ => ∃ a : Nat, a ≤ xs.length ∧ i = .int .i64 a ∧ symTo (gfun xs) a 0) (fun i _ => xs.length - (intOf i).toNat)
      case atStart => exact ⟨0, by omega, rfl, symTo_zero _⟩
      case round =>
        obtain ⟨a, ha, rfl, hsy⟩ := hrel
        have HSY := Lib.hid hsy
        clear hsy
        by_cases hlt : a < xs.length
        · go_wp2
          go_loop [6] (fun j => ∃ b : Nat, b ≤ a ∧ j = .int .i64 b ∧ symTo (gfun xs) a b) (fun j => a - (intOf j).toNat)
          case atStart => exact ⟨0, by omega, rfl, HSY.out⟩
          case round =>
            obtain ⟨b, hb, rfl, hsb⟩ := hrel
            have HSB := Lib.hid hsb
            clear hsb
            by_cases hltb : b < a
            · obtain ⟨hxa, hma⟩ := row_value h8 HO.out hlt
              obtain ⟨hxb, hmb⟩ := row_value (i := b) h8 HO.out (by omega)
              have hc1 := fun r hr => l1Has_q wr _ xs a b (gfun xs a) HVR.out hlt hxa hma (by omega) r hr
              have hc2 := fun r hr => l1Has_q wr _ xs b a (gfun xs b) HVR.out (by omega) hxb hmb (by omega) r hr
              clear hxa hma hxb hmb
              cases ht1 : (gfun xs a).testBit b with
              | true =>
                have H1 := Lib.hid (hc1 _ ht1)
                cases ht2 : (gfun xs b).testBit a with
                | true =>
                  have H2 := Lib.hid (hc2 _ ht2)
                  have HN := Lib.hid (symTo_next HSB.out (by rw [ht1, ht2]))
                  clear hc1 hc2 ht1 ht2
                  go_wp2_with fail
                  refine H1.out.mono ?_
                  rintro e w' ⟨rfl, rfl⟩
                  go_wp2_with fail
                  refine H2.out.mono ?_
                  rintro e w' ⟨rfl, rfl⟩
                  go_wp2
                  go_round
                  case rel => exact ⟨b + 1, by omega, by go_num, HN.out⟩
                  case measure => simp [intOf]; omega
                | false =>
                  have H2 := Lib.hid (hc2 _ ht2)
                  have hgi := gIn_mut h1 h8 HO.out
                  rw [mut_sym h8 a b hlt hltb (by rw [ht1, ht2]; decide)] at hgi
                  have HN := Lib.hid hgi
                  clear hc1 hc2 ht1 ht2 hgi
                  go_wp2_with fail
                  refine H1.out.mono ?_
                  rintro e w' ⟨rfl, rfl⟩
                  go_wp2_with fail
                  refine H2.out.mono ?_
                  rintro e w' ⟨rfl, rfl⟩
                  go_wp2
                  go_ret
                  exact ⟨ret_bool HN.out.symm, nd, HW.out⟩
              | false =>
                have H1 := Lib.hid (hc1 _ ht1)
                cases ht2 : (gfun xs b).testBit a with
                | false =>
                  have H2 := Lib.hid (hc2 _ ht2)
                  have HN := Lib.hid (symTo_next HSB.out (by rw [ht1, ht2]))
                  clear hc1 hc2 ht1 ht2
                  go_wp2_with fail
                  refine H1.out.mono ?_
                  rintro e w' ⟨rfl, rfl⟩
                  go_wp2_with fail
                  refine H2.out.mono ?_
                  rintro e w' ⟨rfl, rfl⟩
                  go_wp2
                  go_round
                  case rel => exact ⟨b + 1, by omega, by go_num, HN.out⟩
                  case measure => simp [intOf]; omega
                | true =>
                  have H2 := Lib.hid (hc2 _ ht2)
                  have hgi := gIn_mut h1 h8 HO.out
                  rw [mut_sym h8 a b hlt hltb (by rw [ht1, ht2]; decide)] at hgi
                  have HN := Lib.hid hgi
                  clear hc1 hc2 ht1 ht2 hgi
                  go_wp2_with fail
                  refine H1.out.mono ?_
                  rintro e w' ⟨rfl, rfl⟩
                  go_wp2_with fail
                  refine H2.out.mono ?_
                  rintro e w' ⟨rfl, rfl⟩
                  go_wp2
                  go_ret
                  exact ⟨ret_bool HN.out.symm, nd, HW.out⟩
            · obtain rfl : b = a := by omega
              have HN := Lib.hid (symTo_row HSB.out)
              go_wp2
              go_round
              case rel => exact ⟨b + 1, by omega, by go_num, HN.out⟩
              case measure => simp [intOf]; omega
        · obtain rfl : a = xs.length := by omega
          have hyes := sym_mut h8 HO.out HSY.out
          have hgi := gIn_mut h1 h8 HO.out
          rw [hyes] at hgi
          have HG := Lib.hid hgi
          clear hyes hgi
          go_wp2
          go_ret
          exact ⟨ret_bool HG.out.symm, nd, HW.out⟩

end Go.Proofs.YtjijkgmeddeihaaDoor
