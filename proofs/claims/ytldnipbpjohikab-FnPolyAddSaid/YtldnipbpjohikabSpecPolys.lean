/-
  spec.PolyAdd, PolyTimes, PolyDerive, PolyAt: what they hand back.
-/
import Derived.Test.YtldnipbpjohikabSpecAdd
import Derived.Test.YtldnipbpjohikabSpecTimes
import Derived.Test.YtldnipbpjohikabImplPoly
namespace Go.Proofs.Ytldnipbpjohikab
open Go.RowKit

theorem madeList_yes (p : List Int) : madeList true p = toldList p := rfl
theorem madeOk_yes (p : List Int) : madeOk true p = okPoly p := rfl
theorem gives_empty (w : World) : GivesInts w false [] (.returned (.tuple #[.slice (some ⟨w.heap.size, 0, none⟩) 0 0, .bool false])) (w.alloc (.cells #[] 3)) :=
  ⟨_, rfl, (Below.refl _ _).alloc (Nat.le_refl _) _, owns_empty w _ (Nat.le_refl _)⟩
theorem cap_of {w : World} {B g cap : Nat} {xs : List Int} (h : Owns w B (.slice (some ⟨g, 0, none⟩) xs.length cap) xs) : cap ≤ maxLen := by
  rcases h.2 with ⟨hv, _⟩ | ⟨g', cap', cur, hv, _, _, _, hm, _⟩
  · cases hv
  · cases hv; exact hm

/-- What l3Done hands back of a list that was made, told of the world ahead of it. -/
theorem done_of_at {w w1 : World} {xs : List Int} {g cap : Nat} (hb : Below w.heap.size w w1) (ho : Owns w1 w.heap.size (.slice (some ⟨g, 0, none⟩) xs.length cap) xs) (hl : xs.length ≤ 100) :
    Calls Try.prog 31 #[.slice (some ⟨g, 0, none⟩) xs.length cap] w1 (GivesInts w (okPoly (trim xs)) (toldList (trim xs))) := by
  have hcap : xs.length ≤ cap := by
    rcases ho.2 with ⟨hv, _⟩ | ⟨g', cap', cur, hv, _, _, hnc, _⟩
    · cases hv
    · cases hv; exact hnc
  refine (l3Done_any w1 g 0 cap xs (ints_of_owns ho) hl hcap (cap_of ho)).mono ?_
  rintro e w2 ⟨v, rfl, hb2, ho2⟩
  exact ⟨v, rfl, step_below hb hb2, owns_mono ho2 hb.size⟩

set_option maxHeartbeats 2000000 in
theorem specAdd_any (w : World) (v u : Value) (p q : List Int) (hv : Ints w v p) (hu : Ints w u q) :
    Calls Try.prog 14 #[v, u] w (GivesInts w (madeOk (okPoly p && okPoly q) (trim (addL p q))) (madeList (okPoly p && okPoly q) (trim (addL p q)))) := by
  have hp := specPIn_any w v p hv
  have hq := specPIn_any w u q hu
  cases c1 : okPoly p with
  | false =>
    rw [c1] at hp
    have HP := Lib.hid hp
    clear hp hq c1 hv hu
    go_enter Try.func14, Try.ntmps14
    go_wp2_with fail
    refine HP.out.mono ?_
    rintro e w' ⟨rfl, rfl⟩
    go_wp2
    go_ret2
    exact gives_empty w
  | true =>
    rw [c1] at hp
    cases c2 : okPoly q with
    | false =>
      rw [c2] at hq
      have HP := Lib.hid hp
      have HQ := Lib.hid hq
      clear hp hq c1 c2 hv hu
      go_enter Try.func14, Try.ntmps14
      go_wp2_with fail
      refine HP.out.mono ?_
      rintro e w' ⟨rfl, rfl⟩
      go_wp2_with fail
      refine HQ.out.mono ?_
      rintro e w' ⟨rfl, rfl⟩
      go_wp2
      go_ret2
      exact gives_empty w
    | true =>
      rw [c2] at hq
      have k1 := okPoly_iff.1 c1
      have k2 := okPoly_iff.1 c2
      have HP := Lib.hid hp
      have HQ := Lib.hid hq
      have HA := Lib.hid (l2Add_any w v u p q hv hu (by omega) (by omega) (within_mono k1.2.1 (by omega)) (within_mono k2.2.1 (by omega)))
      have hlen : (addL p q).length ≤ 100 := by rw [addL_len]; omega
      clear hp hq c1 c2 hv hu k1 k2
      go_enter Try.func14, Try.ntmps14
      go_wp2_with fail
      refine HP.out.mono ?_
      rintro e w' ⟨rfl, rfl⟩
      go_wp2_with fail
      refine HQ.out.mono ?_
      rintro e w' ⟨rfl, rfl⟩
      go_wp2_with fail
      refine HA.out.mono ?_
      rintro e w1 ⟨g, cap, rfl, hb, ho⟩
      go_wp2_with fail
      refine (done_of_at hb ho hlen).mono ?_
      rintro e w2 ⟨y, rfl, hb2, ho2⟩
      go_wp2
      go_ret2
      exact ⟨_, rfl, hb2, ho2⟩

theorem timesOk_of (p q : List Int) : timesOk p q = ((okPoly p && within 100000 p) && (okPoly q && within 100000 q) && decide (p.length + q.length ≤ 22)) := by
  unfold timesOk
  cases okPoly p <;> cases okPoly q <;> cases within 100000 p <;> cases within 100000 q <;> simp
set_option maxHeartbeats 2000000 in
theorem specTimes_any (w : World) (v u : Value) (p q : List Int) (hv : Ints w v p) (hu : Ints w u q) :
    Calls Try.prog 18 #[v, u] w (GivesInts w (madeOk (timesOk p q) (trim (mulL p q))) (madeList (timesOk p q) (trim (mulL p q)))) := by
  have hp := l3Small_any w v p hv
  have hq := l3Small_any w u q hu
  rw [timesOk_of]
  have hv0 := hv
  have hu0 := hu
  obtain ⟨A, capA, rfl, lm1, _⟩ := hv
  obtain ⟨B, capB, rfl, lm2, _⟩ := hu
  unfold maxLen at lm1 lm2
  have HV := Lib.hid hv0
  have HU := Lib.hid hu0
  clear hv0 hu0
  cases c1 : (okPoly p && within 100000 p) with
  | false =>
    rw [c1] at hp
    have HP := Lib.hid hp
    clear hp hq c1
    go_enter Try.func18, Try.ntmps18
    go_wp2_with fail
    refine HP.out.mono ?_
    rintro e w' ⟨rfl, rfl⟩
    go_wp2
    go_ret2
    exact gives_empty w
  | true =>
    rw [c1] at hp
    cases c2 : (okPoly q && within 100000 q) with
    | false =>
      rw [c2] at hq
      have HP := Lib.hid hp
      have HQ := Lib.hid hq
      clear hp hq c1 c2
      go_enter Try.func18, Try.ntmps18
      go_wp2_with fail
      refine HP.out.mono ?_
      rintro e w' ⟨rfl, rfl⟩
      go_wp2_with fail
      refine HQ.out.mono ?_
      rintro e w' ⟨rfl, rfl⟩
      go_wp2
      go_ret2
      exact gives_empty w
    | true =>
      rw [c2] at hq
      have HP := Lib.hid hp
      have HQ := Lib.hid hq
      simp only [Bool.and_eq_true] at c1 c2
      have k1 := (okPoly_iff.1 c1.1).1
      have k2 := (okPoly_iff.1 c2.1).1
      clear hp hq
      by_cases c3 : p.length + q.length ≤ 22
      · have c3' : ¬ 22 < (p.length : Int) + (q.length : Int) := by omega
        rw [decide_eq_true c3]
        have HA := Lib.hid (l3Times_any w _ _ p q HV.out HU.out (by omega) (by omega) c1.2 c2.2)
        have hlen : (mulL p q).length ≤ 100 := by have := mulL_len p q; omega
        clear c1 c2
        go_enter Try.func18, Try.ntmps18
        go_wp2_with fail
        refine HP.out.mono ?_
        rintro e w' ⟨rfl, rfl⟩
        go_wp2_with fail
        refine HQ.out.mono ?_
        rintro e w' ⟨rfl, rfl⟩
        go_wp2_with fail
        refine HA.out.mono ?_
        rintro e w1 ⟨g, cap, rfl, hb, ho⟩
        go_wp2_with fail
        refine (done_of_at hb ho hlen).mono ?_
        rintro e w2 ⟨y, rfl, hb2, ho2⟩
        go_wp2
        go_ret2
        exact ⟨_, rfl, hb2, ho2⟩
      · have c3' : 22 < (p.length : Int) + (q.length : Int) := by omega
        rw [decide_eq_false c3]
        clear c1 c2
        go_enter Try.func18, Try.ntmps18
        go_wp2_with fail
        refine HP.out.mono ?_
        rintro e w' ⟨rfl, rfl⟩
        go_wp2_with fail
        refine HQ.out.mono ?_
        rintro e w' ⟨rfl, rfl⟩
        go_wp2
        go_ret2
        exact gives_empty w

theorem atOk_of (p : List Int) (x : Int) : atOk p x = ((okPoly p && within 100000 p) && decide (p.length ≤ 9) && decide (-20 ≤ x ∧ x ≤ 20)) := by
  unfold atOk smallP
  cases okPoly p <;> cases within 100000 p <;> simp
set_option maxHeartbeats 2000000 in
theorem specAt_any (w : World) (v : Value) (p : List Int) (x : Int) (hv : Ints w v p) :
    Calls Try.prog 23 #[v, .int .i64 x] w (GivesNum w (atOk p x) (atVal p x)) := by
  have hp := l3Small_any w v p hv
  obtain ⟨A, cap, rfl, lm1, hc⟩ := hv
  unfold maxLen at lm1
  have HC := Lib.hid hc
  clear hc
  unfold atVal
  rw [atOk_of]
  cases c1 : (okPoly p && within 100000 p) with
  | false =>
    rw [c1] at hp
    have HP := Lib.hid hp
    clear hp c1
    go_enter Try.func23, Try.ntmps23
    go_wp2_with fail
    refine HP.out.mono ?_
    rintro e w' ⟨rfl, rfl⟩
    go_wp2
    go_ret2
    exact ⟨rfl, Below.refl _ _⟩
  | true =>
    rw [c1] at hp
    have HP := Lib.hid hp
    clear hp
    by_cases c2 : p.length ≤ 9
    · rw [decide_eq_true c2]
      have c2' : ¬ 9 < (p.length : Int) := by omega
      by_cases hx : -20 ≤ x ∧ x ≤ 20
      · rw [decide_eq_true hx]
        have HL := Lib.hid (fun W => l6In_yes x (-20) 20 hx.1 hx.2 W)
        simp only [Bool.and_eq_true] at c1
        have HW := Lib.hid c1.2
        obtain ⟨x1, x2⟩ := hx
        clear c1
        go_enter Try.func23, Try.ntmps23
        go_wp2_with fail
        refine HP.out.mono ?_
        rintro e w' ⟨rfl, rfl⟩
        go_wp2_with fail
        refine (HL.out _).mono ?_
        rintro e w' ⟨rfl, rfl⟩
        go_wp2
        go_loop [6, 7] (fun v i => ∃ k : Nat, k ≤ p.length ∧ i = .int .i64 ((k : Int) - 1) ∧ v = .int .i64 (horner x (p.drop k))) (fun _ i => (intOf i + 1).toNat)
        case atStart => exact ⟨p.length, Nat.le_refl _, rfl, by rw [List.drop_of_length_le (Nat.le_refl _)]; rfl⟩
        case round =>
          obtain ⟨k, hk, rfl, rfl⟩ := hrel
          by_cases hk1 : 1 ≤ k
          · obtain ⟨b, off, rfl, hcell⟩ := HC.out (k - 1) (by omega)
            have hv := horner_lim ⟨x1, x2⟩ HW.out (k := k) (by omega)
            have hs := horner_drop x p (k - 1) (by omega)
            have hkk : k - 1 + 1 = k := by omega
            rw [hkk] at hs
            have hc := within_at HW.out (i := k - 1) (by omega)
            obtain ⟨c, hc0⟩ : ∃ c, p[k - 1] = c := ⟨_, rfl⟩
            rw [hc0] at hcell hs hc
            have HS := Lib.hid hs
            obtain ⟨v, hv0⟩ : ∃ v, horner x (p.drop k) = v := ⟨_, rfl⟩
            rw [hv0] at HS hv ⊢
            obtain ⟨m1, m2⟩ := mul_bound hv (y := 20) ⟨x1, x2⟩
            obtain ⟨c1, c2⟩ := hc
            have h1 : (1 : Int) ≤ (k : Int) := by omega
            have h2 : (0 : Int) ≤ (k : Int) - 1 := by omega
            have w1 : IntKind.i64.wrap (v * x) = v * x := IntWalk.i64_in _ (by omega)
            have w2 : IntKind.i64.wrap (v * x + c) = v * x + c := IntWalk.i64_in _ (by omega)
            clear hs hkk hc0 hv0 hv
            go_wp2
            go_round
            case rel => exact ⟨k - 1, by omega, by go_num, by rw [HS.out]⟩
            case measure => simp [intOf]; omega
          · have h1 : ¬ (1 : Int) ≤ (k : Int) := by omega
            have h2 : ¬ (0 : Int) ≤ (k : Int) - 1 := by omega
            have h3 : horner x (p.drop k) = horner x p := by
              have : k = 0 := by omega
              rw [this]; rfl
            have H3 := Lib.hid h3
            clear h3
            go_wp2
            go_ret2
            exact ⟨by rw [H3.out]; rfl, Below.refl _ _⟩
      · rw [decide_eq_false hx]
        have HL := Lib.hid (fun W => l6In_no x (-20) 20 (by omega) W)
        clear c1 hx
        go_enter Try.func23, Try.ntmps23
        go_wp2_with fail
        refine HP.out.mono ?_
        rintro e w' ⟨rfl, rfl⟩
        go_wp2_with fail
        refine (HL.out _).mono ?_
        rintro e w' ⟨rfl, rfl⟩
        go_wp2
        go_ret2
        exact ⟨rfl, Below.refl _ _⟩
    · rw [decide_eq_false c2]
      have c2' : 9 < (p.length : Int) := by omega
      clear c1
      go_enter Try.func23, Try.ntmps23
      go_wp2_with fail
      refine HP.out.mono ?_
      rintro e w' ⟨rfl, rfl⟩
      go_wp2
      go_ret2
      exact ⟨rfl, Below.refl _ _⟩

end Go.Proofs.Ytldnipbpjohikab
