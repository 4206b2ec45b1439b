/-
  FnCut: a graph without an edge, and the edge put back.
-/
import Derived.Test.YthafhcocgohjaabDoorDrawCut
import Derived.Test.YthafhcocgohjaabDoorCutMath
import Derived.Test.YthafhcocgohjaabDoorOfAny
import Derived.Test.YthafhcocgohjaabDoorRowsPush
import Derived.Laws.AppendOwnNone
import Derived.Test.YthafhcocgohjaabDoorSame
namespace Go.Proofs.YthafhcocgohjaabDoor
set_option linter.unusedVariables false
set_option linter.unusedSimpArgs false
open Go.RowKit

theorem OwnsRows.one {w : World} {lo hi : Nat} {v : Value} {us : List Value} {xss : List (List Int)} (h : OwnsRows w lo hi v us xss) : ∀ u ∈ us, u.oneCell' = true := by
  intro u hu
  obtain ⟨i, hi', rfl⟩ := List.getElem_of_mem hu
  rcases (h.inner i hi').1.2 with ⟨e, _⟩ | ⟨g, cap, cur, e, _⟩ <;> rw [e] <;> rfl
theorem rows_copied {w5 w6 : World} {lo : Nat} {v v1 : Value} {us : List Value} {zs : List (List Int)} (h : OwnsRows w5 lo w5.heap.size v us zs) (hlo : lo ≤ w5.heap.size) (hb : Below w5.heap.size w5 w6)
    (ho : w6.ownsRow w5.heap.size 23 1 v1 zs.length us) : OwnsRows w6 lo w6.heap.size v1 us zs := by
  exact ⟨h.len, OwnsAt.of (owns_mono ho hlo), fun i hi => ((h.inner i hi).below hb).wide (Nat.le_refl _) hb.size, h.apart⟩

set_option maxRecDepth 100000 in
set_option maxHeartbeats 4000000 in
theorem FnCut_final (w : World) (A : Option Addr) (L cap : Nat) (hc : L ≤ cap) (hm : L ≤ maxLen) (hx : Code8 w A L) (hT : Tab w) :
    Calls Tryd.prog 14 #[.slice A L cap] w fun e w' => e = .returned (.bool true) ∧ Below w.heap.size w w' := by
  obtain ⟨i0, hi, hz0, hz1, hz2⟩ := info_parts infoRow
  have HD := Lib.hid (DrawGraphCut_any w A L cap hc hm hx)
  have HT := Lib.hid hT
  unfold maxLen at hm
  clear hx hT
  by_cases hbig : L ≤ 1048576
  · have e1 : ((1048576 : Int) < (L : Int)) = False := by simp; omega
    go_enter Tryd.func14, Tryd.ntmps14
    go_wp2_with fail
    refine HD.out.mono ?_
    rintro e w1 ⟨G, xs, a, b, rfl, h1, h7, hI, hb1, hi0⟩
    have HI := Lib.hid hi0
    have HB1 := Lib.hid hb1
    have hS := implCut_any w1 _ xs a b hi0 hI (HT.out.later hb1)
    have HP := Lib.hid (fun W (hW : Ints W (.slice (some ⟨G, 0, none⟩) xs.length xs.length) xs) => specCut_any W _ xs a b hW)
    clear hI hb1 hi0
    cases hg : edgeB xs a b with
    | false =>
      obtain ⟨ys, hy⟩ : ∃ ys, cutOf xs a b = ys := ⟨_, rfl⟩
      rw [hg, hy] at hS HP
      have HS := Lib.hid hS
      clear hS hg hy
      go_wp2_with fail
      refine HS.out.mono ?_
      rintro e w2 ⟨g0, rfl, hb2, ho2⟩
      go_wp2_with fail
      refine (HP.out _ (HI.out.below hb2)).mono ?_
      rintro e w3 ⟨s0, rfl, hb3, ho3⟩
      have HBB := Lib.hid (step_below (step_below HB1.out hb2) hb3)
      have HY1 := Lib.hid ((ints_of_owns ho2).below hb3)
      have HY2 := Lib.hid (ints_of_owns ho3)
      clear hb2 hb3 ho2 ho3
      go_wp2_with fail
      refine (sameInts_same _ _ _ ys HY1.out HY2.out).mono ?_
      rintro e w4 ⟨rfl, q, rfl⟩
      go_wp2_with fail
      refine (sameInts_same _ _ _ ys (HY1.out.drewN q) (HY2.out.drewN q)).mono ?_
      rintro e w5 ⟨rfl, q2, rfl⟩
      go_wp2
      go_ret
      exact ⟨rfl, below_drewN HBB.out _⟩
    | true =>
      obtain ⟨hgi, hI2, hle, hok, hof⟩ := cut_back hg
      obtain ⟨ys, hy⟩ : ∃ ys, cutOf xs a b = ys := ⟨_, rfl⟩
      rw [hg, hy] at hS HP
      rw [hy] at hgi hI2 hle hok hof
      have hE := fun W (u : Value) (hW : Ints W u ys) (hTW : Tab W) => implEdges_any W u ys hW hI2 hTW
      rw [hgi] at hE
      obtain ⟨zs, hz⟩ : ∃ zs, edgesL ys = zs := ⟨_, rfl⟩
      rw [hz] at hE hle hok hof
      have hO := fun W (u : Value) (hW : IntRows W u (zs ++ [[a, b]])) => implOf_any W (xs.length : Int) u _ hW
      rw [hok, hof] at hO
      have HS := Lib.hid hS
      have HE := Lib.hid hE
      have HO := Lib.hid hO
      clear hS hE hO hg hy hz hgi hI2 hok hof
      go_wp2_with fail
      refine HS.out.mono ?_
      rintro e w2 ⟨g0, rfl, hb2, ho2⟩
      go_wp2_with fail
      refine (HP.out _ (HI.out.below hb2)).mono ?_
      rintro e w3 ⟨s0, rfl, hb3, ho3⟩
      have HBB := Lib.hid (step_below (step_below HB1.out hb2) hb3)
      have HI3 := Lib.hid ((HI.out.below hb2).below hb3)
      have HY1 := Lib.hid ((ints_of_owns ho2).below hb3)
      have HY2 := Lib.hid (ints_of_owns ho3)
      clear hb2 hb3 ho2 ho3
      go_wp2_with fail
      refine (sameInts_same _ _ _ ys HY1.out HY2.out).mono ?_
      rintro e w4 ⟨rfl, q, rfl⟩
      have HB4 := Lib.hid (below_drewN HBB.out q)
      go_wp2_with fail
      refine (HE.out _ _ (HY1.out.drewN q) (HT.out.later HB4.out)).mono ?_
      rintro e w5 ⟨x0, us, rfl, hb5, ho5⟩
      have HB5 := Lib.hid (step_below HB4.out hb5)
      have HI5 := Lib.hid ((HI3.out.drewN q).below hb5)
      have hlen := ho5.len
      have hule : us.length ≤ 64 := by omega
      have hlo := hb5.size
      have HR5 := Lib.hid ho5
      have hone := ho5.one
      rcases ho5.outer.1.2 with ⟨rfl, hn⟩ | ⟨g, cap5, cur, rfl, _, _, _, _, _, _⟩
      · have hz0' : zs = [] := List.eq_nil_of_length_eq_zero hn
        subst hz0'
        obtain rfl : us = [] := List.eq_nil_of_length_eq_zero (by simpa using hlen)
        clear ho5 hb5 hone hn hlen
        obtain ⟨w6, hw6⟩ : ∃ w6, w5.alloc (.cells #[] 23) = w6 := ⟨_, rfl⟩
        obtain ⟨v1, hv1⟩ : ∃ v1, Value.slice (some ⟨w5.heap.size, 0, none⟩) 0 0 = v1 := ⟨_, rfl⟩
        have hown1 : w6.ownsRow w5.heap.size 23 1 v1 ([] : List Value).length [] := by rw [← hw6, ← hv1]; exact World.ownsRow_made (base := w5.heap.size) (e := 23) (size := 1) w5 #[] 0 (Nat.le_refl _) (Nat.zero_le _) rfl
        have hb6 : Below w5.heap.size w5 w6 := by rw [← hw6]; exact (Below.refl _ _).alloc (Nat.le_refl _) _
        have hr6 := rows_copied HR5.out hlo hb6 (by simpa using hown1)
        have HW6 := Lib.hid hw6
        have HV1 := Lib.hid hv1
        clear hw6 hv1
        have HR6 := Lib.hid hr6
        have HB6 := Lib.hid hb6
        have HW1 := Lib.hid hown1
        have hs6 := hb6.size
        clear hr6 hb6 hown1
        go_wp2_with (first
          | (at_builtin; refine wpList_append_own_none rfl _ _ 28 rfl w5.heap.size 23 i0 1 Tryd.underlying28 hi (.slice (some ⟨w5.heap.size, 0, none⟩) 0 0) 0 [] rfl (World.ownsRow_made (base := w5.heap.size) (e := 23) (size := 1) w5 #[] 0 (Nat.le_refl _) (Nat.zero_le _) rfl) rfl ?_; rw [HW6.out, HV1.out])
          | (at_builtin; (refine wpList_append_own _ rfl _ _ 28 rfl w5.heap.size 23 i0 (.slice none 0 0) 1 24 Tryd.underlying28 hi hz0 hz1 hz2 rfl (by decide) _ _ _ rfl ((HW1.out.alloc _).alloc _) ⟨w6.heap.size + 1, 0, none⟩ 1 1 [.slice (some ⟨w6.heap.size, 0, none⟩) 2 2] rfl rfl ?q1 ?q2 ?q3 ?q4 ?q5 ?_; rotate_left 5; intro v' w7 hown' hgrow _)))
        case q1 =>
          have := cell_one_new (w6.alloc (.cells #[.int .i64 a, .int .i64 b] 3)) (.slice (some ⟨w6.heap.size, 0, none⟩) 2 2) 23
          rw [World.size_alloc] at this
          exact this
        case q2 => intro z hz; rw [List.mem_singleton.1 hz]; rfl
        case q3 => unfold maxLen; first | omega | (simp; omega)
        case q4 => first | omega | (simp; omega)
        case q5 => first | omega | (simp; omega)
        have hin : Owns ((w6.alloc (.cells #[.int .i64 a, .int .i64 b] 3)).alloc (.cells #[.slice (some ⟨w6.heap.size, 0, none⟩) 2 2] 23)) w6.heap.size (.slice (some ⟨w6.heap.size, 0, none⟩) 2 2) [a, b] :=
          (World.ownsRow_lit (base := w6.heap.size) (e := 3) (size := 1) w6 #[.int .i64 a, .int .i64 b] 2 (Nat.le_refl _) (by unfold maxLen; omega) (by simp)).alloc _
        have hb4 : Below w6.heap.size w6 ((w6.alloc (.cells #[.int .i64 a, .int .i64 b] 3)).alloc (.cells #[.slice (some ⟨w6.heap.size, 0, none⟩) 2 2] 23)) := ((Below.refl _ _).alloc (Nat.le_refl _) _).alloc (by simp) _
        have hps := HR6.out.push (Nat.le_trans hlo hs6) hb4 hin (owns_mono hown' hlo) hgrow
        have hb67 : Below w5.heap.size w6 w7 := (hb4.mono hs6).grown hgrow (Nat.le_trans hs6 hb4.size) (fun b hb => (HW1.out.lt b hb).1)
        have hb57 : Below w5.heap.size w5 w7 := HB6.out.trans hb67
        have HR7 := Lib.hid (rows_of_owns hps)
        have HB7 := Lib.hid (step_below HB5.out hb57)
        have HI7 := Lib.hid (HI5.out.below hb57)
        clear hin hb4 hps hb67 hb57 hown' hgrow
        go_wp2_with fail
        refine (HO.out _ _ HR7.out).mono ?_
        rintro e w8 ⟨o0, rfl, hb8, ho8⟩
        have HI8 := Lib.hid (HI7.out.below hb8)
        have HB8 := Lib.hid (step_below HB7.out hb8)
        have HY8 := Lib.hid (ints_of_owns ho8)
        clear hb8 ho8
        go_wp2_with fail
        refine (sameInts_same _ _ _ xs HY8.out HI8.out).mono ?_
        rintro e w9 ⟨rfl, q2, rfl⟩
        go_wp2
        go_ret
        exact ⟨rfl, below_drewN HB8.out _⟩
      · clear ho5 hb5
        go_wp2_with (at_builtin; refine wpList_append_own _ rfl _ _ 28 rfl w5.heap.size 23 i0 (.slice none 0 0) 1 24 Tryd.underlying28 hi hz0 hz1 hz2 rfl (by decide) _ _ _ rfl (World.ownsRow_made (base := w5.heap.size) (e := 23) (size := 1) w5 #[] 0 (Nat.le_refl _) (Nat.zero_le _) rfl) ⟨g, 0, none⟩ zs.length cap5 us rfl ?qc1 ?qc2 ?qc3 ?qc4 ?qc5 ?qc6 ?_)
        case qc1 => simp [hlen]
        case qc2 =>
          intro j u hj
          exact Lib.cell?_alloc_some _ (HR5.out.outer.1.cells (g := g) rfl j u hj)
        case qc3 => exact hone
        case qc4 => unfold maxLen; omega
        case qc5 => omega
        case qc6 => simp
        intro v1 w6 hown0 hgrow0 _
        have hb6 : Below w5.heap.size w5 w6 := ((Below.refl _ _).alloc (Nat.le_refl _) _).grown hgrow0 (by simp) (by intro k hk; simp [Value.ownBlock] at hk; omega)
        replace hown0 : w6.ownsRow w5.heap.size 23 1 v1 zs.length us := by simpa using hown0
        have hr6 := rows_copied HR5.out hlo hb6 hown0
        have hown1 : w6.ownsRow w5.heap.size 23 1 v1 us.length us := by rw [hlen]; exact hown0
        clear hown0 hgrow0 hone
        have HR6 := Lib.hid hr6
        have HB6 := Lib.hid hb6
        have HW1 := Lib.hid hown1
        have hs6 := hb6.size
        clear hr6 hb6 hown1
        go_wp2_with (at_builtin; (refine wpList_append_own _ rfl _ _ 28 rfl w5.heap.size 23 i0 (.slice none 0 0) 1 24 Tryd.underlying28 hi hz0 hz1 hz2 rfl (by decide) _ _ _ rfl ((HW1.out.alloc _).alloc _) ⟨w6.heap.size + 1, 0, none⟩ 1 1 [.slice (some ⟨w6.heap.size, 0, none⟩) 2 2] rfl rfl ?q1 ?q2 ?q3 ?q4 ?q5 ?_; rotate_left 5; intro v' w7 hown' hgrow _))
        case q1 =>
          have := cell_one_new (w6.alloc (.cells #[.int .i64 a, .int .i64 b] 3)) (.slice (some ⟨w6.heap.size, 0, none⟩) 2 2) 23
          rw [World.size_alloc] at this
          exact this
        case q2 => intro z hz; rw [List.mem_singleton.1 hz]; rfl
        case q3 => unfold maxLen; first | omega | (simp; omega)
        case q4 => first | omega | (simp; omega)
        case q5 => first | omega | (simp; omega)
        have hin : Owns ((w6.alloc (.cells #[.int .i64 a, .int .i64 b] 3)).alloc (.cells #[.slice (some ⟨w6.heap.size, 0, none⟩) 2 2] 23)) w6.heap.size (.slice (some ⟨w6.heap.size, 0, none⟩) 2 2) [a, b] :=
          (World.ownsRow_lit (base := w6.heap.size) (e := 3) (size := 1) w6 #[.int .i64 a, .int .i64 b] 2 (Nat.le_refl _) (by unfold maxLen; omega) (by simp)).alloc _
        have hb4 : Below w6.heap.size w6 ((w6.alloc (.cells #[.int .i64 a, .int .i64 b] 3)).alloc (.cells #[.slice (some ⟨w6.heap.size, 0, none⟩) 2 2] 23)) := ((Below.refl _ _).alloc (Nat.le_refl _) _).alloc (by simp) _
        have hps := HR6.out.push (Nat.le_trans hlo hs6) hb4 hin (owns_mono hown' hlo) hgrow
        have hb67 : Below w5.heap.size w6 w7 := (hb4.mono hs6).grown hgrow (Nat.le_trans hs6 hb4.size) (fun b hb => (HW1.out.lt b hb).1)
        have hb57 : Below w5.heap.size w5 w7 := HB6.out.trans hb67
        have HR7 := Lib.hid (rows_of_owns hps)
        have HB7 := Lib.hid (step_below HB5.out hb57)
        have HI7 := Lib.hid (HI5.out.below hb57)
        clear hin hb4 hps hb67 hb57 hown' hgrow
        go_wp2_with fail
        refine (HO.out _ _ HR7.out).mono ?_
        rintro e w8 ⟨o0, rfl, hb8, ho8⟩
        have HI8 := Lib.hid (HI7.out.below hb8)
        have HB8 := Lib.hid (step_below HB7.out hb8)
        have HY8 := Lib.hid (ints_of_owns ho8)
        clear hb8 ho8
        go_wp2_with fail
        refine (sameInts_same _ _ _ xs HY8.out HI8.out).mono ?_
        rintro e w9 ⟨rfl, q2, rfl⟩
        go_wp2
        go_ret
        exact ⟨rfl, below_drewN HB8.out _⟩
  · have e1 : ((1048576 : Int) < (L : Int)) = True := by simp; omega
    go_enter Tryd.func14, Tryd.ntmps14
    go_wp2
    go_ret
    exact ⟨rfl, Below.refl _ _⟩

end Go.Proofs.YthafhcocgohjaabDoor
