/-
  spec.l92Table: a drawn table, of which nothing is said but its shape.
-/
import Derived.Test.YtfcbhcjgjbcjdacDoorDTab
import Derived.Test.YtfcbhcjgjbcjdacDoorOnce
import Derived.Deep.RegionHeld3
import Derived.Deep.RegionLaw
import Derived.Deep.DeepCutAuto
namespace Go.Proofs.YtfcbhcjgjbcjdacDoor
set_option linter.unusedVariables false
set_option linter.unusedSimpArgs false
open Go.RowKit

def arr3 (x : Nat) : Int := [30, 31, 5].getD x 0
theorem arr3_at (W : World) (x : Nat) (hx : x < 3) : (W.alloc (.cells #[.int .i64 30, .int .i64 31, .int .i64 5] 3)).cell? ⟨W.heap.size, x, none⟩ = some (.int .i64 (arr3 x)) := by
  have h : (W.alloc (.cells #[.int .i64 30, .int .i64 31, .int .i64 5] 3)).heap[W.heap.size]? = some (.cells #[.int .i64 30, .int .i64 31, .int .i64 5] 3 (0, 0)) := World.alloc_heap_new _ _
  simp only [World.cell?, h]
  rcases (show x = 0 ∨ x = 1 ∨ x = 2 by omega) with rfl | rfl | rfl <;> rfl
theorem arr3_lt {x : Nat} (hx : x < 3) : (x : Int) < 3 := by omega
theorem arr3_kept {W w3 : World} {r x : Nat} (h : Within r (r + 1) (W.alloc (.cells #[.int .i64 30, .int .i64 31, .int .i64 5] 3)) w3) (hr : r < W.heap.size) (hx : x < 3) : w3.cell? ⟨W.heap.size, x, none⟩ = some (.int .i64 (arr3 x)) :=
  (World.cell?_of_block (a := ⟨W.heap.size, x, none⟩) (h.block W.heap.size (by simp) (by omega))).trans (arr3_at W x hx)

set_option maxRecDepth 100000 in
set_option maxHeartbeats 8000000 in
theorem table_any (w : World) (r M cap p0 : Nat) (A : Option Addr) (sg : Int) (hr : w.heap[r]? = some (.cells (rcells A M cap p0) 86 (0, 0))) (hxr : Bytes w r A M) (hM : M ≤ 2000) (hrw : r < w.heap.size) (hp0 : p0 ≤ 10000) :
    Calls Tryd.prog 52 #[.pointer (some ⟨r, 0, none⟩), .int .i64 sg] w fun e w' => ∃ v us xss n, e = .returned v ∧ 1 ≤ n ∧ n ≤ 6 ∧ Square n xss ∧ OwnsRows w' w.heap.size w'.heap.size v us xss ∧ Within r (r + 1) w w' := by
  have H1 := Lib.hid (pick_any w r p0 4 M cap A hr hxr (by omega) hM (by omega) (by omega))
  have HXR := Lib.hid hxr
  clear hr hxr
  go_enter Tryd.func52, Tryd.ntmps52
  go_wp2_with fail
  refine H1.out.mono ?_
  rintro e w1 ⟨n0, hn0, rfl, hr1, hb1⟩
  have hnb : 1 ≤ n0 + 1 ∧ n0 + 1 ≤ 6 := by omega
  obtain ⟨na, hna⟩ : ∃ na, n0 + 1 = na := ⟨_, rfl⟩
  have hn1 : IntKind.i64.wrap (1 + (n0 : Int)) = (na : Int) := by rw [wraps_i64 _ (by omega) (by omega)]; omega
  have hn2 := (wrap_eq _).symm.trans hn1
  rw [hna] at hnb
  clear hna hn0
  have hp1 : p0 + 1 < 1000000 := by clear hn1 hn2; omega
  have hp2 : p0 + 2 < 1000000 := by clear hn1 hn2; omega
  go_wp2_with fail
  refine (pick_any w1 r (p0 + 1) 2 M cap A hr1 (bytes_within HXR.out hb1) hp1 hM (by decide) (by decide)).mono ?_
  rintro e w2 ⟨c0, hc0, rfl, hr2, hb2⟩
  have hw2 := hb1.trans hb2
  have HR2 := Lib.hid (And.intro hr2 hw2)
  clear hr1 hb1 hr2 hb2 hw2 hn1 hn2
  go_upto_if 14 with fail
  go_cut [5] (fun s5 wx => ∃ n p : Nat, s5 = .int .i64 n ∧ 1 ≤ n ∧ n ≤ 6 ∧ p ≤ p0 + 3 ∧ wx.heap[r]? = some (.cells (rcells A M cap p) 86 (0, 0)) ∧ Within r (r + 1) w wx)
  case first =>
    by_cases hz : c0 = 0
    · have e0 : ((c0 : Int) == 0) = true := by rw [beq_iff_eq]; omega
      clear hz hc0
      go_wp2_with fail
      refine (pick_any w2 r (p0 + 1 + 1) 3 M cap A HR2.out.1 (bytes_within HXR.out HR2.out.2) hp2 hM (by decide) (by decide)).mono ?_
      rintro e w3 ⟨c3, hc3, rfl, hr3, hb3⟩
      obtain ⟨nb, hnb2⟩ : ∃ nb, 2 * (c3 + 1) = nb := ⟨_, rfl⟩
      obtain ⟨nc, hnc⟩ : ∃ nc, c3 + 1 = nc := ⟨_, rfl⟩
      have hnbb : 1 ≤ nb ∧ nb ≤ 6 := by omega
      have hm1 : IntKind.i64.wrap (1 + (c3 : Int)) = (nc : Int) := by rw [wraps_i64 _ (by omega) (by omega)]; omega
      have hm3 : IntKind.i64.wrap (2 * (nc : Int)) = (nb : Int) := by clear hm1; rw [wraps_i64 _ (by omega) (by omega)]; omega
      have hm2 := (wrap_eq _).symm.trans hm1
      have hm4 := (wrap_eq _).symm.trans hm3
      have HR3 := Lib.hid (And.intro hr3 (HR2.out.2.trans hb3))
      clear hr3 hb3 hnb2 hnc hc3
      go_wp2_with fail
      clear hm1 hm2 hm3 hm4
      all_goals go_meet
      all_goals exact ⟨nb, p0 + 1 + 1 + 1, rfl, hnbb.1, hnbb.2, by omega, HR3.out.1, HR3.out.2⟩
    · have e0 : ((c0 : Int) == 0) = false := by rw [beq_eq_false_iff_ne]; omega
      go_wp2_with fail
      all_goals go_meet
      all_goals exact ⟨na, p0 + 1 + 1, rfl, hnb.1, hnb.2, by omega, HR2.out.1, HR2.out.2⟩
  case rest =>
    obtain ⟨n, p, rfl, h1, h6, hp, hr3, hw3⟩ := hcut
    have hrc : r < wc.heap.size := Nat.lt_of_lt_of_le hrw hw3.size
    have hwc := hw3.size
    have HR3 := Lib.hid (And.intro hr3 hw3)
    clear hr3 hw3 hnb HR2
    go_wp2_with fail
    refine (zero_any n h6 wc).mono ?_
    rintro e w4 ⟨v, us, rfl, hb4, ho4⟩
    obtain ⟨G, c, rfl⟩ : ∃ G c, v = .slice (some ⟨G, 0, none⟩) n c := by
      have h0 := ho4.outer.1
      rw [show (zrows n).length = n by simp [zrows]] at h0
      rcases h0.2 with ⟨_, hz⟩ | ⟨g, c2, cur, hs, _⟩
      · first | omega | (obtain ⟨hz, _⟩ := hz; omega)
      · exact ⟨g, c2, hs⟩
    obtain ⟨L, hL⟩ : ∃ L, wc.heap.size = L := ⟨_, rfl⟩
    obtain ⟨H, hH⟩ : ∃ H, w4.heap.size = H := ⟨_, rfl⟩
    have hD : DTab w r M cap n L H A (.slice (some ⟨G, 0, none⟩) n c) us (p0 + 3) w4 := by
      rw [← hL, ← hH]
      exact ⟨p, zrows n, by omega, (hb4.block r hrc).trans HR3.out.1, square_zrows n, ho4, HR3.out.2.trans ⟨hb4.os, hb4.tape, hb4.output, hb4.size, fun k hk _ => hb4.block k hk⟩⟩
    rw [hL] at hrc hwc
    have hHw : w4.heap.size = H := hH
    have hn6i : (n : Int) ≤ 6 := by omega
    have HD := Lib.hid hD
    have HOUT := Lib.hid (fun (W : World) (q : Nat) (hd : DTab w r M cap n L H A (.slice (some ⟨G, 0, none⟩) n c) us q W) => hd)
    clear hD hb4 ho4 hL hH hHw HR3
    cases hs0 : (sg == 0) with
    | false =>
      go_wp2_with fail
      go_loopw [7, 8] (fun i _ wr => ∃ a : Nat, a ≤ n ∧ i = .int .i64 a ∧ DTab w r M cap n L H A (.slice (some ⟨G, 0, none⟩) n c) us (p0 + 3 + 60 * a) wr) (fun i _ _ => n - (intOf i).toNat)
      case atStart => exact ⟨0, by omega, rfl, HD.out⟩
      case round =>
        obtain ⟨a, ha, rfl, hD⟩ := hrel
        have HD1 := Lib.hid hD
        clear hD HD
        by_cases hlt : a < n
        · have hani : (a : Int) < (n : Int) := by omega
          have ha0 : (0 : Int) ≤ (a : Int) := by omega
          go_wp2_with fail
          go_loopw [8] (fun k wr => ∃ b : Nat, b ≤ a ∧ k = .int .i64 b ∧ DTab w r M cap n L H A (.slice (some ⟨G, 0, none⟩) n c) us (p0 + 3 + 60 * a + 3 * b) wr) (fun k _ => a - (intOf k).toNat)
          case atStart => exact ⟨0, by omega, rfl, HD1.out⟩
          case round =>
            obtain ⟨b, hb, rfl, hD⟩ := hrel
            clear HD1
            have HD2 := Lib.hid hD
            clear hD
            by_cases hlb : b < a
            · have hbi : (b : Int) < (a : Int) := by omega
              have hb0 : (0 : Int) ≤ (b : Int) := by omega
              have hbni : (b : Int) < (n : Int) := by omega
              obtain ⟨hua, ga, ca, ea, -, -⟩ := dt_row HD2.out a (by omega)
              obtain ⟨hub, gb, cb, eb, -, -⟩ := dt_row HD2.out b (by omega)
              have HPK := Lib.hid (dt_pick (m := 7) HD2.out.drew HXR.out hM hrc (by omega) (by decide) (by decide))
              have HAFT := Lib.hid (fun (W : World) (q : Nat) (hd : DTab w r M cap n L H A (.slice (some ⟨G, 0, none⟩) n c) us q W) => show W.cell? ⟨G, b, none⟩ = some (.slice (some ⟨gb, 0, none⟩) n cb) ∧ W.frozen? ⟨gb, a, none⟩ = false ∧ ∃ x, W.cell? ⟨gb, a, none⟩ = some (.int .i64 x) from by
                obtain ⟨x, hx, hf⟩ := dt_cell hd b hub eb a (by omega)
                exact ⟨dt_outer hd b hub eb, hf, x, hx⟩)
              have HPUT := Lib.hid (fun (W : World) (q : Nat) (x : Int) (hd : DTab w r M cap n L H A (.slice (some ⟨G, 0, none⟩) n c) us q W) => dt_put hd hrc hwc b hub eb a x)
              have y0 := (HAFT.out _ _ HD2.out.drew).1
              go_wp2_with fail
              apply once_any (α := Nat) (fun _ w' => DTab w r M cap n L H A (.slice (some ⟨G, 0, none⟩) n c) us (p0 + 3 + 60 * a + 3 * b + 1) w')
              case h1 =>
                go_region_held3 (fun w' => w'.cell? ⟨G, b, none⟩ = some (.slice (some ⟨gb, 0, none⟩) n cb))
                  (first | exact y0 | exact (HAFT.out w3 _ hd3).1 | exact (HAFT.out _ _ (HPUT.out w3 _ _ hd3)).1)
                  (first | (go_at_call 63; refine HPK.out.mono ?_; rintro e w3 ⟨x, hx, rfl, hd3⟩; obtain ⟨-, hf3, v0, hv0⟩ := HAFT.out w3 _ hd3))
                all_goals exact ⟨x, HPUT.out w3 _ _ hd3, rfl⟩
              intro x w5 hd5
              clear y0 HPK HAFT HPUT
              have HD5 := Lib.hid hd5
              obtain ⟨z, hz, -⟩ := dt_cell hd5 b hub eb a (by omega)
              have HAF2 := Lib.hid (fun (W : World) (q : Nat) (hd : DTab w r M cap n L H A (.slice (some ⟨G, 0, none⟩) n c) us q W) => show W.cell? ⟨G, a, none⟩ = some (.slice (some ⟨ga, 0, none⟩) n ca) ∧ W.cell? ⟨G, b, none⟩ = some (.slice (some ⟨gb, 0, none⟩) n cb) from ⟨dt_outer hd a hua ea, dt_outer hd b hub eb⟩)
              have HPUT2 := Lib.hid (fun (W : World) (q : Nat) (x : Int) (hd : DTab w r M cap n L H A (.slice (some ⟨G, 0, none⟩) n c) us q W) => dt_put hd hrc hwc a hua ea b x)
              have z0 := (HAF2.out _ _ hd5.drew).1
              have z1 := (HAF2.out _ _ hd5.drew).2
              have z2 : w5.drew.cell? ⟨gb, a, none⟩ = some (.int .i64 z) := hz
              obtain ⟨z4, z5, z3⟩ := dt_cell hd5.drew a hua ea b (by omega)
              clear hd5 hz
              go_wp2_with fail
              apply once_zero (fun w' => DTab w r M cap n L H A (.slice (some ⟨G, 0, none⟩) n c) us (p0 + 3 + 60 * a + 3 * b + 1) w')
              case h1 =>
                go_region_law (fail)
                all_goals exact ⟨HPUT2.out _ _ _ HD5.out.drew, rfl⟩
              intro w6 hd6
              have HD6 := Lib.hid hd6
              clear hd6 z0 z1 z2 z3 z5
              go_wp2_with fail
              go_roundw
              case rel => exact ⟨b + 1, by omega, by go_num, HD6.out.more (by omega)⟩
              case measure => simp [intOf]; omega
            · obtain rfl : b = a := by omega
              go_wp2_with fail
              go_roundw
              case rel => exact ⟨b + 1, by omega, by go_num, HD2.out.more (by omega)⟩
              case measure => simp [intOf]; omega
        · have han : a = n := by omega
          subst a
          clear hlt ha
          have hm1 : n - 1 < n := by omega
          obtain ⟨m1, hme⟩ : ∃ m1, n - 1 = m1 := ⟨_, rfl⟩
          rw [hme] at hm1
          have hmw : IntKind.i64.wrap ((n : Int) - 1) = (m1 : Int) := by rw [IntKind.wrap_i64]; omega
          have hmw2 := (wrap_eq _).symm.trans hmw
          clear hme
          have hq1 : p0 + 3 + 60 * n ≤ 99999 := by clear hmw hmw2; omega
          have hq2 : p0 + 3 + 60 * n + 1 ≤ 100000 := by clear hmw hmw2; omega
          go_wp2_with fail
          refine (dt_pick (m := 24) HD1.out HXR.out hM hrc (by clear hmw hmw2; omega) (by decide) (by decide)).mono ?_
          rintro e w7 ⟨x, hx, rfl, hd7⟩
          have HD7 := Lib.hid hd7
          have HFIN := Lib.hid (fun (W : World) (q : Nat) (hd : DTab w r M cap n L H A (.slice (some ⟨G, 0, none⟩) n c) us q W) => show ∃ xss, Square n xss ∧ OwnsRows W w.heap.size W.heap.size (.slice (some ⟨G, 0, none⟩) n c) us xss ∧ Within r (r + 1) w W from by
            obtain ⟨p, xss, hp, hr, hsq, ho, hw⟩ := hd
            exact ⟨xss, hsq, owns_top ho hwc, hw⟩)
          clear hd7
          by_cases hx0 : x = 0
          · have e0 : ((x : Int) == 0) = true := by clear hmw hmw2; rw [beq_iff_eq]; omega
            obtain ⟨hu0, g0, c0', e0', -, -⟩ := dt_row HD7.out 0 (by clear hmw hmw2; omega)
            have HPK := Lib.hid (fun (W : World) (hd : DTab w r M cap n L H A (.slice (some ⟨G, 0, none⟩) n c) us (p0 + 3 + 60 * n + 1) W) => dt_pickw (m := 3) hd HXR.out hM hrc hq2 (by decide) (by decide))
            have HAFT := Lib.hid (fun (W : World) (q : Nat) (hd : DTab w r M cap n L H A (.slice (some ⟨G, 0, none⟩) n c) us q W) => show W.cell? ⟨G, 0, none⟩ = some (.slice (some ⟨g0, 0, none⟩) n c0') ∧ W.frozen? ⟨g0, m1, none⟩ = false ∧ ∃ x, W.cell? ⟨g0, m1, none⟩ = some (.int .i64 x) from by
              obtain ⟨x, hx, hf⟩ := dt_cell hd 0 hu0 e0' m1 hm1
              exact ⟨dt_outer hd 0 hu0 e0', hf, x, hx⟩)
            have HPUT := Lib.hid (fun (W : World) (q : Nat) (x : Int) (hd : DTab w r M cap n L H A (.slice (some ⟨G, 0, none⟩) n c) us q W) => dt_put hd hrc hwc 0 hu0 e0' m1 x)
            have y0 := (HAFT.out _ _ HD7.out.drew).1
            have i1 : (m1 : Int) < (n : Int) := by clear hmw hmw2; omega
            have i2 : (0 : Int) ≤ (m1 : Int) := by clear hmw hmw2; omega
            have i3 : (0 : Int) < (n : Int) := by clear hmw hmw2; omega
            have i4 : 0 < n := by clear hmw hmw2; omega
            clear hx0 hx
            go_wp2_with fail
            have hrs : r < w7.drew.heap.size := by
              obtain ⟨p, xss, hp, hr, hsq, ho, hw⟩ := HD7.out
              exact (Array.getElem?_eq_some_iff.1 hr).1
            have HRS := Lib.hid hrs
            clear hrs
            refine wp_region_held_drew (S := fun w' => w'.cell? ⟨G, 0, none⟩ = some (.slice (some ⟨g0, 0, none⟩) n c0')) (by kernel_rfl) y0 (fun hHeld => ?_)
            refine wpAnyH_take (i := 0) (v := ?vf0) rfl (by kernel_rfl) (by kernel_rfl) (by kernel_rfl) (fun _ _ _ h => h) (Or.inl ⟨by rfl, ?hyf0⟩) (by assumption) ?_
            case hyf0 =>
              intro w' hSw
              try dsimp only at hSw
              skip
              go_simp
              try with_reducible rfl
            try simp only [Act.put, List.setIfInBounds_toArray, List.set_cons_zero, List.set_cons_succ]
            refine wpAnyH_take (i := 1) (v := ?vf1) rfl (by kernel_rfl) (by kernel_rfl) (by kernel_rfl) (fun _ _ _ h => h) (Or.inl ⟨by rfl, ?hyf1⟩) (by assumption) ?_
            case hyf1 =>
              intro w' hSw
              try dsimp only at hSw
              skip
              go_simp
              try with_reducible rfl
            try simp only [Act.put, List.setIfInBounds_toArray, List.set_cons_zero, List.set_cons_succ]
            refine wpAnyH_take (i := 2) (v := ?vf2) rfl (by kernel_rfl) (by kernel_rfl) (by kernel_rfl) (fun _ _ _ h => h) (Or.inl ⟨by rfl, ?hyf2⟩) (by assumption) ?_
            case hyf2 =>
              intro w' hSw
              try dsimp only at hSw
              skip
              go_simp
              try with_reducible rfl
            try simp only [Act.put, List.setIfInBounds_toArray, List.set_cons_zero, List.set_cons_succ]
            refine wpAnyH_take (i := 3) (v := ?vf3) rfl (by kernel_rfl) (by kernel_rfl) (by kernel_rfl) (fun _ _ _ h => h) (Or.inl ⟨by rfl, ?hyf3⟩) (by assumption) ?_
            case hyf3 =>
              intro w' hSw
              try dsimp only at hSw
              skip
              go_simp
              try with_reducible rfl
            try simp only [Act.put, List.setIfInBounds_toArray, List.set_cons_zero, List.set_cons_succ]
            refine wpAnyH_take (i := 4) (v := ?vf4) rfl (by kernel_rfl) (by kernel_rfl) (by kernel_rfl) (fun _ _ _ h => h) (Or.inl ⟨by rfl, ?hyf4⟩) (by assumption) ?_
            case hyf4 =>
              intro w' hSw
              try dsimp only at hSw
              skip
              go_simp
              try with_reducible rfl
            try simp only [Act.put, List.setIfInBounds_toArray, List.set_cons_zero, List.set_cons_succ]
            refine wpAnyH_take (i := 6) (v := ?vf6) rfl (by kernel_rfl) (by kernel_rfl) (by kernel_rfl) (fun _ _ _ h => h) (Or.inl ⟨by rfl, ?hyf6⟩) (by assumption) ?_
            case hyf6 =>
              intro w' hSw
              try dsimp only at hSw
              skip
              go_simp
              try with_reducible rfl
            try simp only [Act.put, List.setIfInBounds_toArray, List.set_cons_zero, List.set_cons_succ]
            refine wpAnyH_ready (rs := [5, 7]) (by kernel_rfl) (by simp) (AllReadyH.cons rfl (fun K hK => ?_) (AllReadyH.cons rfl (fun K hK => ?_) AllReadyH.nil))
            · go_simp
              refine hK.out _ _ (HAFT.out _ _ (HD7.out.drew.alloc _)).1 (fun hHeld2 => ?_)
              clear hK K
              try simp only [Act.put, List.setIfInBounds_toArray, List.set_cons_zero, List.set_cons_succ]
              refine wpAnyH_ready (rs := [7]) (by kernel_rfl) (by simp) (AllReadyH.cons rfl (fun K hK => ?_) AllReadyH.nil)
              go_simp
              go_at_call 63; refine (HPK.out _ (HD7.out.drew.alloc _)).mono ?_; rintro e w3 ⟨x, hx, rfl, hd3, hw3⟩; have harr : w3.cell? ⟨w7.heap.size, x, none⟩ = some (.int .i64 (arr3 x)) := (by have harr0 := arr3_kept hw3 HRS.out hx; exact harr0); have hx3 := arr3_lt hx; obtain ⟨-, hf3, v0, hv0⟩ := HAFT.out w3 _ hd3
              refine hK.out _ _ ((HAFT.out w3 _ hd3).1) (fun hHeld2 => ?_)
              clear hK K
              try simp only [Act.put, List.setIfInBounds_toArray, List.set_cons_zero, List.set_cons_succ]
              refine wpAnyH_take (i := 8) (v := ?vfa8) rfl (by kernel_rfl) (by kernel_rfl) (by kernel_rfl) (fun _ _ _ h => h) (Or.inl ⟨by rfl, ?hyfa8⟩) (by assumption) ?_
              case hyfa8 =>
                intro w' hSw
                try dsimp only at hSw
                skip
                go_simp
                try with_reducible rfl
              try simp only [Act.put, List.setIfInBounds_toArray, List.set_cons_zero, List.set_cons_succ]
              refine wpAnyH_ready (rs := [9]) (by kernel_rfl) (by simp) (AllReadyH.cons rfl (fun K hK => ?_) AllReadyH.nil)
              go_simp
              refine hK.out _ _ ((HAFT.out w3 _ hd3).1) (fun hHeld2 => ?_)
              clear hK K
              try simp only [Act.put, List.setIfInBounds_toArray, List.set_cons_zero, List.set_cons_succ]
              refine wpAnyH_take (i := 10) (v := ?vfa10) rfl (by kernel_rfl) (by kernel_rfl) (by kernel_rfl) (fun _ _ _ h => h) (Or.inl ⟨by rfl, ?hyfa10⟩) (by assumption) ?_
              case hyfa10 =>
                intro w' hSw
                try dsimp only at hSw
                skip
                go_simp
                try with_reducible rfl
              try simp only [Act.put, List.setIfInBounds_toArray, List.set_cons_zero, List.set_cons_succ]
              refine wpAnyH_ready (rs := [11]) (by kernel_rfl) (by simp) (AllReadyH.cons rfl (fun K hK => ?_) AllReadyH.nil)
              go_simp
              refine hK.out _ _ ((HAFT.out _ _ (HPUT.out w3 _ _ hd3)).1) (fun hHeld2 => ?_)
              clear hK K
              try simp only [Act.put, List.setIfInBounds_toArray, List.set_cons_zero, List.set_cons_succ]
              refine wpAnyH_done (by kernel_rfl) ?_ _
              clear hmw hmw2
              go_wp2_with fail
              go_ret
              obtain ⟨xss, hsq, ho, hw⟩ := HFIN.out _ _ (HPUT.out _ _ _ hd3)
              exact ⟨_, us, xss, n, rfl, h1, h6, hsq, ho, hw⟩
            · go_simp
              go_at_call 63
              refine (HPK.out _ HD7.out.drew).mono ?_
              rintro e w3 ⟨x, hx, rfl, hd3, hw3⟩
              have harr := arr3_at w3 x hx
              have hx3 := arr3_lt hx
              obtain ⟨-, hf3, v0, hv0⟩ := HAFT.out (w3.alloc (.cells #[.int .i64 30, .int .i64 31, .int .i64 5] 3)) _ (hd3.alloc _)
              refine hK.out _ _ (HAFT.out w3 _ hd3).1 (fun hHeld2 => ?_)
              clear hK K
              try simp only [Act.put, List.setIfInBounds_toArray, List.set_cons_zero, List.set_cons_succ]
              refine wpAnyH_ready (rs := [5]) (by kernel_rfl) (by simp) (AllReadyH.cons rfl (fun K hK => ?_) AllReadyH.nil)
              go_simp
              refine hK.out _ _ ((HAFT.out _ _ (hd3.alloc _)).1) (fun hHeld2 => ?_)
              clear hK K
              try simp only [Act.put, List.setIfInBounds_toArray, List.set_cons_zero, List.set_cons_succ]
              refine wpAnyH_take (i := 8) (v := ?vfb8) rfl (by kernel_rfl) (by kernel_rfl) (by kernel_rfl) (fun _ _ _ h => h) (Or.inl ⟨by rfl, ?hyfb8⟩) (by assumption) ?_
              case hyfb8 =>
                intro w' hSw
                try dsimp only at hSw
                skip
                go_simp
                try with_reducible rfl
              try simp only [Act.put, List.setIfInBounds_toArray, List.set_cons_zero, List.set_cons_succ]
              refine wpAnyH_ready (rs := [9]) (by kernel_rfl) (by simp) (AllReadyH.cons rfl (fun K hK => ?_) AllReadyH.nil)
              go_simp
              refine hK.out _ _ ((HAFT.out _ _ (hd3.alloc _)).1) (fun hHeld2 => ?_)
              clear hK K
              try simp only [Act.put, List.setIfInBounds_toArray, List.set_cons_zero, List.set_cons_succ]
              refine wpAnyH_take (i := 10) (v := ?vfb10) rfl (by kernel_rfl) (by kernel_rfl) (by kernel_rfl) (fun _ _ _ h => h) (Or.inl ⟨by rfl, ?hyfb10⟩) (by assumption) ?_
              case hyfb10 =>
                intro w' hSw
                try dsimp only at hSw
                skip
                go_simp
                try with_reducible rfl
              try simp only [Act.put, List.setIfInBounds_toArray, List.set_cons_zero, List.set_cons_succ]
              refine wpAnyH_ready (rs := [11]) (by kernel_rfl) (by simp) (AllReadyH.cons rfl (fun K hK => ?_) AllReadyH.nil)
              go_simp
              refine hK.out _ _ ((HAFT.out _ _ (HPUT.out _ _ _ (hd3.alloc _))).1) (fun hHeld2 => ?_)
              clear hK K
              try simp only [Act.put, List.setIfInBounds_toArray, List.set_cons_zero, List.set_cons_succ]
              refine wpAnyH_done (by kernel_rfl) ?_ _
              clear hmw hmw2
              go_wp2_with fail
              go_ret
              obtain ⟨xss, hsq, ho, hw⟩ := HFIN.out _ _ (HPUT.out _ _ _ (hd3.alloc _))
              exact ⟨_, us, xss, n, rfl, h1, h6, hsq, ho, hw⟩
          · have e0 : ((x : Int) == 0) = false := by clear hmw hmw2; rw [beq_eq_false_iff_ne]; omega
            clear hmw hmw2
            go_wp2_with fail
            go_ret
            obtain ⟨xss, hsq, ho, hw⟩ := HFIN.out _ _ HD7.out
            exact ⟨_, us, xss, n, rfl, h1, h6, hsq, ho, hw⟩
    | true =>
      go_wp2_with fail
      go_loopw [7, 8] (fun i _ wr => ∃ a : Nat, a ≤ n ∧ i = .int .i64 a ∧ DTab w r M cap n L H A (.slice (some ⟨G, 0, none⟩) n c) us (p0 + 3 + 60 * a) wr) (fun i _ _ => n - (intOf i).toNat)
      case atStart => exact ⟨0, by omega, rfl, HD.out⟩
      case round =>
        obtain ⟨a, ha, rfl, hD⟩ := hrel
        have HD1 := Lib.hid hD
        clear hD HD
        by_cases hlt : a < n
        · have hani : (a : Int) < (n : Int) := by omega
          have ha0 : (0 : Int) ≤ (a : Int) := by omega
          go_wp2_with fail
          go_loopw [8] (fun k wr => ∃ b : Nat, b ≤ a ∧ k = .int .i64 b ∧ DTab w r M cap n L H A (.slice (some ⟨G, 0, none⟩) n c) us (p0 + 3 + 60 * a + 4 * b) wr) (fun k _ => a - (intOf k).toNat)
          case atStart => exact ⟨0, by omega, rfl, HD1.out⟩
          case round =>
            obtain ⟨b, hb, rfl, hD⟩ := hrel
            clear HD1
            have HD2 := Lib.hid hD
            clear hD
            by_cases hlb : b < a
            · have hbi : (b : Int) < (a : Int) := by omega
              have hb0 : (0 : Int) ≤ (b : Int) := by omega
              have hbni : (b : Int) < (n : Int) := by omega
              obtain ⟨hua, ga, ca, ea, -, -⟩ := dt_row HD2.out a (by omega)
              obtain ⟨hub, gb, cb, eb, -, -⟩ := dt_row HD2.out b (by omega)
              have HPK := Lib.hid (dt_pick (m := 7) HD2.out.drew HXR.out hM hrc (by omega) (by decide) (by decide))
              have HAFT := Lib.hid (fun (W : World) (q : Nat) (hd : DTab w r M cap n L H A (.slice (some ⟨G, 0, none⟩) n c) us q W) => show W.cell? ⟨G, b, none⟩ = some (.slice (some ⟨gb, 0, none⟩) n cb) ∧ W.frozen? ⟨gb, a, none⟩ = false ∧ ∃ x, W.cell? ⟨gb, a, none⟩ = some (.int .i64 x) from by
                obtain ⟨x, hx, hf⟩ := dt_cell hd b hub eb a (by omega)
                exact ⟨dt_outer hd b hub eb, hf, x, hx⟩)
              have HPUT := Lib.hid (fun (W : World) (q : Nat) (x : Int) (hd : DTab w r M cap n L H A (.slice (some ⟨G, 0, none⟩) n c) us q W) => dt_put hd hrc hwc b hub eb a x)
              have y0 := (HAFT.out _ _ HD2.out.drew).1
              go_wp2_with fail
              apply once_any (α := Nat) (fun _ w' => DTab w r M cap n L H A (.slice (some ⟨G, 0, none⟩) n c) us (p0 + 3 + 60 * a + 4 * b + 1) w')
              case h1 =>
                go_region_held3 (fun w' => w'.cell? ⟨G, b, none⟩ = some (.slice (some ⟨gb, 0, none⟩) n cb))
                  (first | exact y0 | exact (HAFT.out w3 _ hd3).1 | exact (HAFT.out _ _ (HPUT.out w3 _ _ hd3)).1)
                  (first | (go_at_call 63; refine HPK.out.mono ?_; rintro e w3 ⟨x, hx, rfl, hd3⟩; obtain ⟨-, hf3, v0, hv0⟩ := HAFT.out w3 _ hd3))
                all_goals exact ⟨x, HPUT.out w3 _ _ hd3, rfl⟩
              intro x w5 hd5
              clear y0 HPK HAFT HPUT
              have HD5 := Lib.hid hd5
              obtain ⟨z, hz, -⟩ := dt_cell hd5 b hub eb a (by omega)
              have HAF2 := Lib.hid (fun (W : World) (q : Nat) (hd : DTab w r M cap n L H A (.slice (some ⟨G, 0, none⟩) n c) us q W) => show W.cell? ⟨G, a, none⟩ = some (.slice (some ⟨ga, 0, none⟩) n ca) ∧ W.cell? ⟨G, b, none⟩ = some (.slice (some ⟨gb, 0, none⟩) n cb) from ⟨dt_outer hd a hua ea, dt_outer hd b hub eb⟩)
              have HPUT2 := Lib.hid (fun (W : World) (q : Nat) (x : Int) (hd : DTab w r M cap n L H A (.slice (some ⟨G, 0, none⟩) n c) us q W) => dt_put hd hrc hwc a hua ea b x)
              have z0 := (HAF2.out _ _ hd5.drew).1
              have z1 := (HAF2.out _ _ hd5.drew).2
              have z2 : w5.drew.cell? ⟨gb, a, none⟩ = some (.int .i64 z) := hz
              obtain ⟨z4, z5, z3⟩ := dt_cell hd5.drew a hua ea b (by omega)
              clear hd5 hz
              go_wp2_with fail
              apply once_zero (fun w' => DTab w r M cap n L H A (.slice (some ⟨G, 0, none⟩) n c) us (p0 + 3 + 60 * a + 4 * b + 1) w')
              case h1 =>
                go_region_law (fail)
                all_goals exact ⟨HPUT2.out _ _ _ HD5.out.drew, rfl⟩
              intro w6 hd6
              have HD6 := Lib.hid hd6
              clear hd6 z0 z1 z2 z3 z5
              have HPK := Lib.hid (dt_pick (m := 5) HD6.out.drew HXR.out hM hrc (by omega) (by decide) (by decide))
              have HAFT := Lib.hid (fun (W : World) (q : Nat) (hd : DTab w r M cap n L H A (.slice (some ⟨G, 0, none⟩) n c) us q W) => show W.cell? ⟨G, a, none⟩ = some (.slice (some ⟨ga, 0, none⟩) n ca) ∧ W.frozen? ⟨ga, b, none⟩ = false ∧ ∃ x, W.cell? ⟨ga, b, none⟩ = some (.int .i64 x) from by
                obtain ⟨x, hx, hf⟩ := dt_cell hd a hua ea b (by omega)
                exact ⟨dt_outer hd a hua ea, hf, x, hx⟩)
              have HPUT := Lib.hid (fun (W : World) (q : Nat) (x : Int) (hd : DTab w r M cap n L H A (.slice (some ⟨G, 0, none⟩) n c) us q W) => dt_put hd hrc hwc a hua ea b x)
              have y0 := (HAFT.out _ _ HD6.out.drew).1
              go_wp2_with fail
              apply once_any (α := Nat) (fun _ w' => DTab w r M cap n L H A (.slice (some ⟨G, 0, none⟩) n c) us (p0 + 3 + 60 * a + 4 * b + 1 + 1) w')
              case h1 =>
                go_region_held3 (fun w' => w'.cell? ⟨G, a, none⟩ = some (.slice (some ⟨ga, 0, none⟩) n ca))
                  (first | exact y0 | exact (HAFT.out w3 _ hd3).1 | exact (HAFT.out _ _ (HPUT.out w3 _ _ hd3)).1)
                  (first | (go_at_call 63; refine HPK.out.mono ?_; rintro e w3 ⟨x, hx, rfl, hd3⟩; obtain ⟨-, hf3, v0, hv0⟩ := HAFT.out w3 _ hd3))
                all_goals exact ⟨x, HPUT.out w3 _ _ hd3, rfl⟩
              intro x7 w7 hdn
              clear y0 HPK HAFT HPUT
              have HD7 := Lib.hid hdn
              clear hdn
              go_wp2_with fail
              go_roundw
              case rel => exact ⟨b + 1, by omega, by go_num, HD7.out.more (by omega)⟩
              case measure => simp [intOf]; omega
            · obtain rfl : b = a := by omega
              obtain ⟨hua, ga, ca, ea, -, -⟩ := dt_row HD2.out b (by omega)
              have HPK := Lib.hid (dt_pick (m := 5) HD2.out.drew HXR.out hM hrc (by omega) (by decide) (by decide))
              have HAFT := Lib.hid (fun (W : World) (q : Nat) (hd : DTab w r M cap n L H A (.slice (some ⟨G, 0, none⟩) n c) us q W) => show W.cell? ⟨G, b, none⟩ = some (.slice (some ⟨ga, 0, none⟩) n ca) ∧ W.frozen? ⟨ga, b, none⟩ = false ∧ ∃ x, W.cell? ⟨ga, b, none⟩ = some (.int .i64 x) from by
                obtain ⟨x, hx, hf⟩ := dt_cell hd b hua ea b (by omega)
                exact ⟨dt_outer hd b hua ea, hf, x, hx⟩)
              have HPUT := Lib.hid (fun (W : World) (q : Nat) (x : Int) (hd : DTab w r M cap n L H A (.slice (some ⟨G, 0, none⟩) n c) us q W) => dt_put hd hrc hwc b hua ea b x)
              have y0 := (HAFT.out _ _ HD2.out.drew).1
              go_wp2_with fail
              apply once_any (α := Nat) (fun _ w' => DTab w r M cap n L H A (.slice (some ⟨G, 0, none⟩) n c) us (p0 + 3 + 60 * b + 4 * b + 1) w')
              case h1 =>
                go_region_held3 (fun w' => w'.cell? ⟨G, b, none⟩ = some (.slice (some ⟨ga, 0, none⟩) n ca))
                  (first | exact y0 | exact (HAFT.out w3 _ hd3).1 | exact (HAFT.out _ _ (HPUT.out w3 _ _ hd3)).1)
                  (first | (go_at_call 63; refine HPK.out.mono ?_; rintro e w3 ⟨x, hx, rfl, hd3⟩; obtain ⟨-, hf3, v0, hv0⟩ := HAFT.out w3 _ hd3))
                all_goals exact ⟨x, HPUT.out w3 _ _ hd3, rfl⟩
              intro x7 w7 hdn
              clear y0 HPK HAFT HPUT
              have HD7 := Lib.hid hdn
              clear hdn
              go_wp2_with fail
              go_roundw
              case rel => exact ⟨b + 1, by omega, by go_num, HD7.out.more (by omega)⟩
              case measure => simp [intOf]; omega
        · have han : a = n := by omega
          subst a
          clear hlt ha
          have hm1 : n - 1 < n := by omega
          obtain ⟨m1, hme⟩ : ∃ m1, n - 1 = m1 := ⟨_, rfl⟩
          rw [hme] at hm1
          have hmw : IntKind.i64.wrap ((n : Int) - 1) = (m1 : Int) := by rw [IntKind.wrap_i64]; omega
          have hmw2 := (wrap_eq _).symm.trans hmw
          clear hme
          have hq1 : p0 + 3 + 60 * n ≤ 99999 := by clear hmw hmw2; omega
          have hq2 : p0 + 3 + 60 * n + 1 ≤ 100000 := by clear hmw hmw2; omega
          go_wp2_with fail
          refine (dt_pick (m := 24) HD1.out HXR.out hM hrc (by clear hmw hmw2; omega) (by decide) (by decide)).mono ?_
          rintro e w7 ⟨x, hx, rfl, hd7⟩
          have HD7 := Lib.hid hd7
          have HFIN := Lib.hid (fun (W : World) (q : Nat) (hd : DTab w r M cap n L H A (.slice (some ⟨G, 0, none⟩) n c) us q W) => show ∃ xss, Square n xss ∧ OwnsRows W w.heap.size W.heap.size (.slice (some ⟨G, 0, none⟩) n c) us xss ∧ Within r (r + 1) w W from by
            obtain ⟨p, xss, hp, hr, hsq, ho, hw⟩ := hd
            exact ⟨xss, hsq, owns_top ho hwc, hw⟩)
          clear hd7
          by_cases hx0 : x = 0
          · have e0 : ((x : Int) == 0) = true := by clear hmw hmw2; rw [beq_iff_eq]; omega
            obtain ⟨hu0, g0, c0', e0', -, -⟩ := dt_row HD7.out 0 (by clear hmw hmw2; omega)
            have HPK := Lib.hid (fun (W : World) (hd : DTab w r M cap n L H A (.slice (some ⟨G, 0, none⟩) n c) us (p0 + 3 + 60 * n + 1) W) => dt_pickw (m := 3) hd HXR.out hM hrc hq2 (by decide) (by decide))
            have HAFT := Lib.hid (fun (W : World) (q : Nat) (hd : DTab w r M cap n L H A (.slice (some ⟨G, 0, none⟩) n c) us q W) => show W.cell? ⟨G, 0, none⟩ = some (.slice (some ⟨g0, 0, none⟩) n c0') ∧ W.frozen? ⟨g0, m1, none⟩ = false ∧ ∃ x, W.cell? ⟨g0, m1, none⟩ = some (.int .i64 x) from by
              obtain ⟨x, hx, hf⟩ := dt_cell hd 0 hu0 e0' m1 hm1
              exact ⟨dt_outer hd 0 hu0 e0', hf, x, hx⟩)
            have HPUT := Lib.hid (fun (W : World) (q : Nat) (x : Int) (hd : DTab w r M cap n L H A (.slice (some ⟨G, 0, none⟩) n c) us q W) => dt_put hd hrc hwc 0 hu0 e0' m1 x)
            have y0 := (HAFT.out _ _ HD7.out.drew).1
            have i1 : (m1 : Int) < (n : Int) := by clear hmw hmw2; omega
            have i2 : (0 : Int) ≤ (m1 : Int) := by clear hmw hmw2; omega
            have i3 : (0 : Int) < (n : Int) := by clear hmw hmw2; omega
            have i4 : 0 < n := by clear hmw hmw2; omega
            clear hx0 hx
            go_wp2_with fail
            have hrs : r < w7.drew.heap.size := by
              obtain ⟨p, xss, hp, hr, hsq, ho, hw⟩ := HD7.out
              exact (Array.getElem?_eq_some_iff.1 hr).1
            have HRS := Lib.hid hrs
            clear hrs
            refine wp_region_held_drew (S := fun w' => w'.cell? ⟨G, 0, none⟩ = some (.slice (some ⟨g0, 0, none⟩) n c0')) (by kernel_rfl) y0 (fun hHeld => ?_)
            refine wpAnyH_take (i := 0) (v := ?vt0) rfl (by kernel_rfl) (by kernel_rfl) (by kernel_rfl) (fun _ _ _ h => h) (Or.inl ⟨by rfl, ?hyt0⟩) (by assumption) ?_
            case hyt0 =>
              intro w' hSw
              try dsimp only at hSw
              skip
              go_simp
              try with_reducible rfl
            try simp only [Act.put, List.setIfInBounds_toArray, List.set_cons_zero, List.set_cons_succ]
            refine wpAnyH_take (i := 1) (v := ?vt1) rfl (by kernel_rfl) (by kernel_rfl) (by kernel_rfl) (fun _ _ _ h => h) (Or.inl ⟨by rfl, ?hyt1⟩) (by assumption) ?_
            case hyt1 =>
              intro w' hSw
              try dsimp only at hSw
              skip
              go_simp
              try with_reducible rfl
            try simp only [Act.put, List.setIfInBounds_toArray, List.set_cons_zero, List.set_cons_succ]
            refine wpAnyH_take (i := 2) (v := ?vt2) rfl (by kernel_rfl) (by kernel_rfl) (by kernel_rfl) (fun _ _ _ h => h) (Or.inl ⟨by rfl, ?hyt2⟩) (by assumption) ?_
            case hyt2 =>
              intro w' hSw
              try dsimp only at hSw
              skip
              go_simp
              try with_reducible rfl
            try simp only [Act.put, List.setIfInBounds_toArray, List.set_cons_zero, List.set_cons_succ]
            refine wpAnyH_take (i := 3) (v := ?vt3) rfl (by kernel_rfl) (by kernel_rfl) (by kernel_rfl) (fun _ _ _ h => h) (Or.inl ⟨by rfl, ?hyt3⟩) (by assumption) ?_
            case hyt3 =>
              intro w' hSw
              try dsimp only at hSw
              skip
              go_simp
              try with_reducible rfl
            try simp only [Act.put, List.setIfInBounds_toArray, List.set_cons_zero, List.set_cons_succ]
            refine wpAnyH_take (i := 4) (v := ?vt4) rfl (by kernel_rfl) (by kernel_rfl) (by kernel_rfl) (fun _ _ _ h => h) (Or.inl ⟨by rfl, ?hyt4⟩) (by assumption) ?_
            case hyt4 =>
              intro w' hSw
              try dsimp only at hSw
              skip
              go_simp
              try with_reducible rfl
            try simp only [Act.put, List.setIfInBounds_toArray, List.set_cons_zero, List.set_cons_succ]
            refine wpAnyH_take (i := 6) (v := ?vt6) rfl (by kernel_rfl) (by kernel_rfl) (by kernel_rfl) (fun _ _ _ h => h) (Or.inl ⟨by rfl, ?hyt6⟩) (by assumption) ?_
            case hyt6 =>
              intro w' hSw
              try dsimp only at hSw
              skip
              go_simp
              try with_reducible rfl
            try simp only [Act.put, List.setIfInBounds_toArray, List.set_cons_zero, List.set_cons_succ]
            refine wpAnyH_ready (rs := [5, 7]) (by kernel_rfl) (by simp) (AllReadyH.cons rfl (fun K hK => ?_) (AllReadyH.cons rfl (fun K hK => ?_) AllReadyH.nil))
            · go_simp
              refine hK.out _ _ (HAFT.out _ _ (HD7.out.drew.alloc _)).1 (fun hHeld2 => ?_)
              clear hK K
              try simp only [Act.put, List.setIfInBounds_toArray, List.set_cons_zero, List.set_cons_succ]
              refine wpAnyH_ready (rs := [7]) (by kernel_rfl) (by simp) (AllReadyH.cons rfl (fun K hK => ?_) AllReadyH.nil)
              go_simp
              go_at_call 63; refine (HPK.out _ (HD7.out.drew.alloc _)).mono ?_; rintro e w3 ⟨x, hx, rfl, hd3, hw3⟩; have harr : w3.cell? ⟨w7.heap.size, x, none⟩ = some (.int .i64 (arr3 x)) := (by have harr0 := arr3_kept hw3 HRS.out hx; exact harr0); have hx3 := arr3_lt hx; obtain ⟨-, hf3, v0, hv0⟩ := HAFT.out w3 _ hd3
              refine hK.out _ _ ((HAFT.out w3 _ hd3).1) (fun hHeld2 => ?_)
              clear hK K
              try simp only [Act.put, List.setIfInBounds_toArray, List.set_cons_zero, List.set_cons_succ]
              refine wpAnyH_take (i := 8) (v := ?vta8) rfl (by kernel_rfl) (by kernel_rfl) (by kernel_rfl) (fun _ _ _ h => h) (Or.inl ⟨by rfl, ?hyta8⟩) (by assumption) ?_
              case hyta8 =>
                intro w' hSw
                try dsimp only at hSw
                skip
                go_simp
                try with_reducible rfl
              try simp only [Act.put, List.setIfInBounds_toArray, List.set_cons_zero, List.set_cons_succ]
              refine wpAnyH_ready (rs := [9]) (by kernel_rfl) (by simp) (AllReadyH.cons rfl (fun K hK => ?_) AllReadyH.nil)
              go_simp
              refine hK.out _ _ ((HAFT.out w3 _ hd3).1) (fun hHeld2 => ?_)
              clear hK K
              try simp only [Act.put, List.setIfInBounds_toArray, List.set_cons_zero, List.set_cons_succ]
              refine wpAnyH_take (i := 10) (v := ?vta10) rfl (by kernel_rfl) (by kernel_rfl) (by kernel_rfl) (fun _ _ _ h => h) (Or.inl ⟨by rfl, ?hyta10⟩) (by assumption) ?_
              case hyta10 =>
                intro w' hSw
                try dsimp only at hSw
                skip
                go_simp
                try with_reducible rfl
              try simp only [Act.put, List.setIfInBounds_toArray, List.set_cons_zero, List.set_cons_succ]
              refine wpAnyH_ready (rs := [11]) (by kernel_rfl) (by simp) (AllReadyH.cons rfl (fun K hK => ?_) AllReadyH.nil)
              go_simp
              refine hK.out _ _ ((HAFT.out _ _ (HPUT.out w3 _ _ hd3)).1) (fun hHeld2 => ?_)
              clear hK K
              try simp only [Act.put, List.setIfInBounds_toArray, List.set_cons_zero, List.set_cons_succ]
              refine wpAnyH_done (by kernel_rfl) ?_ _
              clear hmw hmw2
              go_wp2_with fail
              go_ret
              obtain ⟨xss, hsq, ho, hw⟩ := HFIN.out _ _ (HPUT.out _ _ _ hd3)
              exact ⟨_, us, xss, n, rfl, h1, h6, hsq, ho, hw⟩
            · go_simp
              go_at_call 63
              refine (HPK.out _ HD7.out.drew).mono ?_
              rintro e w3 ⟨x, hx, rfl, hd3, hw3⟩
              have harr := arr3_at w3 x hx
              have hx3 := arr3_lt hx
              obtain ⟨-, hf3, v0, hv0⟩ := HAFT.out (w3.alloc (.cells #[.int .i64 30, .int .i64 31, .int .i64 5] 3)) _ (hd3.alloc _)
              refine hK.out _ _ (HAFT.out w3 _ hd3).1 (fun hHeld2 => ?_)
              clear hK K
              try simp only [Act.put, List.setIfInBounds_toArray, List.set_cons_zero, List.set_cons_succ]
              refine wpAnyH_ready (rs := [5]) (by kernel_rfl) (by simp) (AllReadyH.cons rfl (fun K hK => ?_) AllReadyH.nil)
              go_simp
              refine hK.out _ _ ((HAFT.out _ _ (hd3.alloc _)).1) (fun hHeld2 => ?_)
              clear hK K
              try simp only [Act.put, List.setIfInBounds_toArray, List.set_cons_zero, List.set_cons_succ]
              refine wpAnyH_take (i := 8) (v := ?vtb8) rfl (by kernel_rfl) (by kernel_rfl) (by kernel_rfl) (fun _ _ _ h => h) (Or.inl ⟨by rfl, ?hytb8⟩) (by assumption) ?_
              case hytb8 =>
                intro w' hSw
                try dsimp only at hSw
                skip
                go_simp
                try with_reducible rfl
              try simp only [Act.put, List.setIfInBounds_toArray, List.set_cons_zero, List.set_cons_succ]
              refine wpAnyH_ready (rs := [9]) (by kernel_rfl) (by simp) (AllReadyH.cons rfl (fun K hK => ?_) AllReadyH.nil)
              go_simp
              refine hK.out _ _ ((HAFT.out _ _ (hd3.alloc _)).1) (fun hHeld2 => ?_)
              clear hK K
              try simp only [Act.put, List.setIfInBounds_toArray, List.set_cons_zero, List.set_cons_succ]
              refine wpAnyH_take (i := 10) (v := ?vtb10) rfl (by kernel_rfl) (by kernel_rfl) (by kernel_rfl) (fun _ _ _ h => h) (Or.inl ⟨by rfl, ?hytb10⟩) (by assumption) ?_
              case hytb10 =>
                intro w' hSw
                try dsimp only at hSw
                skip
                go_simp
                try with_reducible rfl
              try simp only [Act.put, List.setIfInBounds_toArray, List.set_cons_zero, List.set_cons_succ]
              refine wpAnyH_ready (rs := [11]) (by kernel_rfl) (by simp) (AllReadyH.cons rfl (fun K hK => ?_) AllReadyH.nil)
              go_simp
              refine hK.out _ _ ((HAFT.out _ _ (HPUT.out _ _ _ (hd3.alloc _))).1) (fun hHeld2 => ?_)
              clear hK K
              try simp only [Act.put, List.setIfInBounds_toArray, List.set_cons_zero, List.set_cons_succ]
              refine wpAnyH_done (by kernel_rfl) ?_ _
              clear hmw hmw2
              go_wp2_with fail
              go_ret
              obtain ⟨xss, hsq, ho, hw⟩ := HFIN.out _ _ (HPUT.out _ _ _ (hd3.alloc _))
              exact ⟨_, us, xss, n, rfl, h1, h6, hsq, ho, hw⟩
          · have e0 : ((x : Int) == 0) = false := by clear hmw hmw2; rw [beq_eq_false_iff_ne]; omega
            clear hmw hmw2
            go_wp2_with fail
            go_ret
            obtain ⟨xss, hsq, ho, hw⟩ := HFIN.out _ _ HD7.out
            exact ⟨_, us, xss, n, rfl, h1, h6, hsq, ho, hw⟩

end Go.Proofs.YtfcbhcjgjbcjdacDoor
