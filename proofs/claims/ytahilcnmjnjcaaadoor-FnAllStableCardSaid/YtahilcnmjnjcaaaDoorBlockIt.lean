/-
  (impl.market).blocking$1: the iterator's walk.
-/
import Derived.Test.YtahilcnmjnjcaaaDoorRank1
import Derived.Test.YtahilcnmjnjcaaaDoorBlocking
namespace Go.Proofs.YtahilcnmjnjcaaaDoor.BI
set_option linter.unusedVariables false
set_option linter.unusedSimpArgs false
open Go.Proofs.YtahilcnmjnjcaaaDoor
open Go.RowKit Go.Shelf
attribute [local go_sem] Oper.semAt_some

theorem fins_at {ls : List (List Int)} {n i : Nat} (hl : ls.length = n) (hi : i < n) : (ls.map backOf)[i]'(by rw [List.length_map]; omega) = backOf (ls[i]'(by omega)) := by simp
theorem back_get {n : Nat} (h1 : 1 ≤ n) (h5 : n ≤ 5) {xs : List Int} (h : rankB n xs = true) {c : Nat} (hc : c < (backOf xs).length) : (backOf xs)[c] = (place xs (c : Int) : Int) := by
  have hl := (rank_parts h).1
  have hcn : c < n := by rw [backOf_len] at hc; omega
  have := back_place h1 h5 h hcn
  rwa [List.getD_eq_getElem?_getD, List.getElem?_eq_getElem hc, Option.getD_some] at this

set_option maxRecDepth 100000 in
set_option maxHeartbeats 4000000 in
theorem blocking1_in (n : Nat) (hn : 1 ≤ n) (l Bp Bm : Nat) (A1 : Option Addr) (n1 c1 : Nat) (A2 : Option Addr) (n2 c2 : Nat) (A3 : Option Addr) (n3 c3 : Nat) (A4 : Option Addr) (n4 c4 : Nat) (Ap : Option Addr) (np cp : Nat) (ls rs : List (List Int)) (ps : List Int) (hok : pairOk ls rs ps = true)
    (Kp : World → World → Prop) (hKr : ∀ X Y kb, Kp X Y → BlkRd X Bp Bm (.slice A1 n1 c1) (.slice A2 n2 c2) (.slice A3 n3 c3) (.slice A4 n4 c4) (.slice Ap np cp) ls rs ps → Ints X (.slice (some ⟨kb, 0, none⟩) ps.length ps.length) (backOf ps) → BlkRd Y Bp Bm (.slice A1 n1 c1) (.slice A2 n2 c2) (.slice A3 n3 c3) (.slice A4 n4 c4) (.slice Ap np cp) ls rs ps ∧ Ints Y (.slice (some ⟨kb, 0, none⟩) ps.length ps.length) (backOf ps))
    (J Jx : List (Nat × Nat) → World → Prop) (W : World) (hJ : ∀ s X Y, J s X → Below X.heap.size X Y → J s Y)
    (hY : ∀ pre x W1, J pre W1 → pre.length < 100 → YieldAt Fence.wide (n - 1) Tryd.prog l #[.int .i64 ((x : Nat × Nat).1 : Int), .int .i64 (x.2 : Int)] W1 fun e W' =>
      (e = .returned (.bool true) ∧ J (pre ++ [x]) W' ∧ Kp W1 W') ∨ (e = .returned (.bool false) ∧ Jx (pre ++ [x]) W'))
    (hrd : BlkRd W Bp Bm (.slice A1 n1 c1) (.slice A2 n2 c2) (.slice A3 n3 c3) (.slice A4 n4 c4) (.slice Ap np cp) ls rs ps) (h0 : J [] W) :
    CallsIn Fence.wide n Tryd.prog 78 #[.func (.yield l) #[] #[], .pointer (some ⟨Bp, 0, none⟩), .pointer (some ⟨Bm, 0, none⟩)] W fun e W' => (∃ v, e = .returned v) ∧
      ((∃ ys, ys = blocksOf ls rs ps ∧ J ys W') ∨ (∃ pre, pre <+: blocksOf ls rs ps ∧ Jx pre W')) := by
  obtain ⟨h1, h5, hrl, hpl, hls, hrs, hpr⟩ := pair_parts hok
  obtain ⟨A', cap', e', hm', _⟩ := hrd.ints
  obtain ⟨rfl, rfl, rfl⟩ : Ap = A' ∧ np = ps.length ∧ cp = cap' := by simpa using e'
  have HTU := Lib.hid (turned_any W (.slice Ap ps.length cp) ps hrd.ints (by omega) (by rw [hpl]; exact (rank_parts hpr).2.1))
  have hbn := back_in h1 h5 hpr
  rw [backOf_len] at hbn
  have HY := Lib.hid hY
  have HJ := Lib.hid hJ
  have HKR := Lib.hid hKr
  have HRD := Lib.hid hrd
  have H0 := Lib.hid h0
  have hpb := hrd.pb
  have HFACT := Lib.hid (And.intro hrl (And.intro hpl (And.intro hls (And.intro hrs (And.intro hpr hbn)))))
  have hp5 : ps.length ≤ 5 := by omega
  have HP5 := Lib.hid hp5
  unfold maxLen at hm'
  clear hY hJ hKr h0 hrl hpl hls hrs hpr hok hrd e' hbn
  refine callsIn_of_wp Tryd.func78 rfl trivial ?_ rfl
  simp only [Tryd.ntmps78, List.size_toArray, List.length_cons, List.length_nil, Nat.reduceAdd, Nat.reduceSub, Array.replicate_succ, Array.replicate_zero, List.push_toArray, List.append_toArray, List.nil_append, List.cons_append]
  gi_wp2_with (refine ⟨trivial, ?_⟩; gi_at_call 64; refine (callsIn_wide.2 HTU.out).mono ?_; rintro e w1 ⟨rfl, hb1, ho1⟩; have hpb1 := (hb1.cell (p := ⟨Bp, 0, none⟩) (World.block_lt_of_cell? W _ hpb)).trans hpb)
  obtain ⟨kb, hkb⟩ : ∃ kb, W.heap.size = kb := ⟨_, rfl⟩
  have hik1 : Ints w1 (.slice (some ⟨kb, 0, none⟩) ps.length ps.length) (backOf ps) := by rw [← hkb]; exact ints_of_owns ho1
  have HST : Hid (J [] w1 ∧ BlkRd w1 Bp Bm (.slice A1 n1 c1) (.slice A2 n2 c2) (.slice A3 n3 c3) (.slice A4 n4 c4) (.slice Ap ps.length cp) ls rs ps ∧ Ints w1 (.slice (some ⟨kb, 0, none⟩) ps.length ps.length) (backOf ps)) := Lib.hid ⟨HJ.out _ _ _ H0.out hb1, HRD.out.below hb1, hik1⟩
  try rw [hkb]
  clear hkb hik1 hb1 ho1 hpb1 hpb
  gi_loopw [5, 6, 7, 8, 9, 14] (fun _ _ _ _ _ iv wr => ∃ i : Nat, i ≤ ps.length ∧ iv = .int .i64 i ∧ J (pairsB (blockB ls rs ps) ps.length i) wr ∧ BlkRd wr Bp Bm (.slice A1 n1 c1) (.slice A2 n2 c2) (.slice A3 n3 c3) (.slice A4 n4 c4) (.slice Ap ps.length cp) ls rs ps ∧ Ints wr (.slice (some ⟨kb, 0, none⟩) ps.length ps.length) (backOf ps))
    (fun _ _ _ _ _ iv _ => ps.length - (intOf iv).toNat)
  case atStart => exact ⟨0, by omega, rfl, HST.out⟩
  case round =>
    obtain ⟨i, hi, rfl, hj, hrd, hki⟩ := hrel
    have HJR := Lib.hid hj
    have HR := Lib.hid (And.intro hrd hki)
    clear hj hki
    by_cases hlt : i < ps.length
    · have hii : (i : Int) < (ps.length : Int) := by omega
      have hi0 : (0 : Int) ≤ (i : Int) := by omega
      obtain ⟨A5, cap5, e5, hm5, hc5⟩ := hrd.ints
      obtain ⟨b5, o5, hA5, hcell5⟩ := hc5 i hlt
      obtain ⟨rfl, -⟩ : Ap = A5 ∧ cp = cap5 := by simpa using e5
      subst hA5
      have hpin := (rank_parts HFACT.out.2.2.2.2.1).2.1 ps[i] (List.getElem_mem _)
      obtain ⟨m, hm⟩ : ∃ m : Nat, ps[i] = (m : Int) := ⟨ps[i].toNat, by omega⟩
      have hmn : m < ps.length := by have := HFACT.out.2.1; omega
      rw [hm] at hcell5
      have HM := Lib.hid (And.intro hm hmn)
      clear hc5 e5 hm5 hpin hm hmn hrd
      gi_wp2
      gi_loopw [7, 8, 9, 21] (fun _ _ _ kv wr => ∃ k : Nat, k ≤ ps.length ∧ kv = .int .i64 k ∧ J (pairsB (blockB ls rs ps) ps.length i ++ rowB (blockB ls rs ps) i k) wr ∧ BlkRd wr Bp Bm (.slice A1 n1 c1) (.slice A2 n2 c2) (.slice A3 n3 c3) (.slice A4 n4 c4) (.slice (some ⟨b5, o5, none⟩) ps.length cp) ls rs ps ∧ Ints wr (.slice (some ⟨kb, 0, none⟩) ps.length ps.length) (backOf ps))
        (fun _ _ _ kv _ => ps.length - (intOf kv).toNat)
      case atStart => exact ⟨0, by omega, rfl, by rw [show rowB (blockB ls rs ps) i 0 = [] from rfl, List.append_nil]; exact HJR.out, HR.out⟩
      case round =>
        obtain ⟨k, hk, rfl, hj2, hrd2, hki2⟩ := hrel
        have HJ2 := Lib.hid hj2
        have HR2 := Lib.hid (And.intro hrd2 hki2)
        clear hj2
        by_cases hlk : k < ps.length
        · obtain ⟨hrl, hpl, hls, hrs, hpr, hbn⟩ := HFACT.out
          obtain ⟨hm, hmn⟩ := HM.out
          have hbl : k < (backOf ps).length := by rw [backOf_len]; exact hlk
          obtain ⟨A6, cap6, e6, hm6, hc6⟩ := hki2
          obtain ⟨b6, o6, hA6, hcell6⟩ := hc6 k hbl
          rw [backOf_len] at e6
          obtain ⟨rfl, -⟩ : some ⟨kb, 0, none⟩ = A6 ∧ ps.length = cap6 := by simpa using e6
          obtain ⟨rfl, rfl⟩ : kb = b6 ∧ 0 = o6 := by simpa using hA6
          rw [Nat.zero_add] at hcell6
          have hbk := hbn (backOf ps)[k] (List.getElem_mem _)
          obtain ⟨h, hh⟩ : ∃ h : Nat, (backOf ps)[k] = (h : Int) := ⟨(backOf ps)[k].toNat, by omega⟩
          have hhn : h < ps.length := by omega
          rw [hh] at hcell6
          obtain ⟨y0, y1, y2, y3, _⟩ := four_cells hrd2.mkt
          have hil : i < ls.length := by omega
          have hkr : k < rs.length := by omega
          have hrl1 := (rank_parts (hls ls[i] (List.getElem_mem _))).1
          have hrl2 := (rank_parts (hrs rs[k] (List.getElem_mem _))).1
          have el : (ls.map backOf)[i]'(by rw [List.length_map]; exact hil) = backOf ls[i] := by simp
          have er : (rs.map backOf)[k]'(by rw [List.length_map]; exact hkr) = backOf rs[k] := by simp
          have hll : ((ls.map backOf)[i]'(by rw [List.length_map]; exact hil)).length = ps.length := by rw [el, backOf_len, hrl1, hpl]
          have hlr : ((rs.map backOf)[k]'(by rw [List.length_map]; exact hkr)).length = ps.length := by rw [er, backOf_len, hrl2, hpl]
          have hLq : decide (((ls.map backOf)[i]'(by rw [List.length_map]; exact hil))[k]'(by omega) < ((ls.map backOf)[i]'(by rw [List.length_map]; exact hil))[m]'(by omega)) = blockL ls ps i k := by
            have q1 : ((ls.map backOf)[i]'(by rw [List.length_map]; exact hil))[k]'(by omega) = (place ls[i] (k : Int) : Int) := by simp only [el]; exact back_get h1 h5 (hls _ (List.getElem_mem _)) _
            have q2 : ((ls.map backOf)[i]'(by rw [List.length_map]; exact hil))[m]'(by omega) = (place ls[i] (m : Int) : Int) := by simp only [el]; exact back_get h1 h5 (hls _ (List.getElem_mem _)) _
            rw [q1, q2]
            unfold blockL
            have e1 : ls.getD i [] = ls[i] := by simp [List.getD, hil]
            have e2 : ps.getD i 0 = ps[i] := by simp [List.getD, hlt]
            rw [e1, e2, hm]
            simp only [Int.ofNat_lt]
          have hRq : decide (((rs.map backOf)[k]'(by rw [List.length_map]; exact hkr))[i]'(by omega) < ((rs.map backOf)[k]'(by rw [List.length_map]; exact hkr))[h]'(by omega)) = blockR rs ps i k := by
            have q1 : ((rs.map backOf)[k]'(by rw [List.length_map]; exact hkr))[i]'(by omega) = (place rs[k] (i : Int) : Int) := by simp only [er]; exact back_get h1 h5 (hrs _ (List.getElem_mem _)) _
            have q2 : ((rs.map backOf)[k]'(by rw [List.length_map]; exact hkr))[h]'(by omega) = (place rs[k] (h : Int) : Int) := by simp only [er]; exact back_get h1 h5 (hrs _ (List.getElem_mem _)) _
            rw [q1, q2]
            unfold blockR
            have e1 : rs.getD k [] = rs[k] := by simp [List.getD, hkr]
            have e2 : (backOf ps).getD k 0 = (backOf ps)[k] := by simp [List.getD, hbl]
            rw [e1, e2, hh]
            simp only [Int.ofNat_lt]
          have HPL := Lib.hid (fun (X : World) (hX : Below wr.heap.size wr X) => prefers_q X (.slice A1 n1 c1) (.slice A2 n2 c2) (ls.map backOf) (hrd2.left.below hX) i k m (by rw [List.length_map]; exact hil) (by omega) (by omega) _ hLq)
          have HPR := Lib.hid (fun (X : World) (hX : Below wr.heap.size wr X) => prefers_q X (.slice A3 n3 c3) (.slice A4 n4 c4) (rs.map backOf) (hrd2.right.below hX) k i h (by rw [List.length_map]; exact hkr) (by omega) (by omega) _ hRq)
          have hkk : (k : Int) < (ps.length : Int) := by omega
          have hk0 : (0 : Int) ≤ (k : Int) := by omega
          have hlen : (pairsB (blockB ls rs ps) ps.length i ++ rowB (blockB ls rs ps) i k).length < 100 := by
            have q1 := pairsB_len (blockB ls rs ps) ps.length i
            have q2 := rowB_len (blockB ls rs ps) i k
            have q3 : i * ps.length ≤ 5 * 5 := Nat.mul_le_mul (by omega) hp5
            rw [List.length_append]; omega
          have hbe : blockB ls rs ps i k = (blockL ls ps i k && blockR rs ps i k) := rfl
          have HBE := Lib.hid hbe
          have HLEN := Lib.hid hlen
          have hmkt := hrd2.mkt
          have HMKT := Lib.hid hmkt
          clear hc6 e6 hm6 hA6 hbk hh hhn hil hkr hrl1 hrl2 el er hll hlr hLq hRq hrl hpl hls hrs hpr hbn hm hmn hbe hlen hbl hmkt hrd2
          cases hbL : blockL ls ps i k with
          | false =>
            have HNO : Hid (blockB ls rs ps i k = false) := Lib.hid (by rw [HBE.out, hbL]; rfl)
            rw [hbL] at HPL
            clear hbL
            gi_wp2_with (refine ⟨trivial, ?_⟩; gi_at_call 79; refine (callsIn_wide.2 (HPL.out _ (Below.refl _ _))).mono ?_; rintro e w3 ⟨rfl, hb3⟩)
            refine ⟨trivial, ?_⟩
            gi_wp2
            refine ⟨fun f h => (by cases h), ?_⟩
            gi_wp2
            go_roundw
            case rel => exact ⟨k + 1, by omega, by go_num, by rw [rowB_no HNO.out]; exact HJ.out _ _ _ HJ2.out hb3, HR2.out.1.below hb3, HR2.out.2.below hb3⟩
            case measure => simp [intOf]; omega
          | true =>
            cases hbR : blockR rs ps i k with
            | false =>
              have HNO : Hid (blockB ls rs ps i k = false) := Lib.hid (by rw [HBE.out, hbL, hbR]; rfl)
              rw [hbL] at HPL
              rw [hbR] at HPR
              clear hbL hbR
              gi_wp2_with (first
                | (refine ⟨trivial, ?_⟩; gi_at_call 79; (with_reducible refine (callsIn_wide.2 (HPL.out _ (Below.refl _ _))).mono ?_); rintro e w3 ⟨rfl, hb3⟩; obtain ⟨z0, z1, z2, z3, _⟩ := four_cells (kept_obj hb3 HMKT.out))
                | (refine ⟨trivial, ?_⟩; gi_at_call 79; (with_reducible refine (callsIn_wide.2 (HPR.out _ hb3)).mono ?_); rintro e w4 ⟨rfl, hb4⟩))
              have hb34 := step_below hb3 hb4
              refine ⟨fun f h => (by cases h), ?_⟩
              gi_wp2
              go_roundw
              case rel => exact ⟨k + 1, by omega, by go_num, by rw [rowB_no HNO.out]; exact HJ.out _ _ _ HJ2.out hb34, HR2.out.1.below hb34, HR2.out.2.below hb34⟩
              case measure => simp [intOf]; omega
            | true =>
              have HYES : Hid (blockB ls rs ps i k = true) := Lib.hid (by rw [HBE.out, hbL, hbR]; rfl)
              rw [hbL] at HPL
              rw [hbR] at HPR
              clear hbL hbR
              gi_wp2_with (first
                | (refine ⟨trivial, ?_⟩; gi_at_call 79; (with_reducible refine (callsIn_wide.2 (HPL.out _ (Below.refl _ _))).mono ?_); rintro e w3 ⟨rfl, hb3⟩; obtain ⟨z0, z1, z2, z3, _⟩ := four_cells (kept_obj hb3 HMKT.out))
                | (refine ⟨trivial, ?_⟩; gi_at_call 79; (with_reducible refine (callsIn_wide.2 (HPR.out _ hb3)).mono ?_); rintro e w4 ⟨rfl, hb4⟩; obtain ⟨fn, tmps, assign, body, hyy, hRR⟩ := HY.out _ (i, k) w4 (HJ.out _ _ _ HJ2.out (step_below hb3 hb4)) HLEN.out; try dsimp only at hyy))
              have HB34 := Lib.hid (step_below hb3 hb4)
              clear hb3 hb4
              refine hRR.mono ?_
              rintro e W5 (⟨rfl, hJ5, hk5⟩ | ⟨rfl, hJx5⟩)
              · have HN5 := Lib.hid (HKR.out _ _ kb hk5 (HR2.out.1.below HB34.out) (HR2.out.2.below HB34.out))
                have HJ5 := Lib.hid hJ5
                clear hJ5 hk5
                gi_wp2
                go_roundw
                case rel => exact ⟨k + 1, by omega, by go_num, by rw [rowB_yes HYES.out, ← List.append_assoc]; exact HJ5.out, HN5.out⟩
                case measure => simp [intOf]; omega
              · have HJ5 := Lib.hid hJx5
                clear hJx5
                gi_wp2
                refine bodyPost_ret (results_none rfl _ _ _) rfl ?_
                exact ⟨⟨_, rfl⟩, .inr ⟨_, block_prefix hlt hlk HYES.out, HJ5.out⟩⟩
        · obtain rfl : k = ps.length := by omega
          clear hrd2 hki2
          gi_wp2
          go_roundw
          case rel => exact ⟨i + 1, by omega, by go_num, HJ2.out, HR2.out⟩
          case measure => simp [intOf]; omega
    · obtain rfl : i = ps.length := by omega
      clear hrd
      gi_wp2
      go_end0
      exact ⟨⟨_, rfl⟩, .inl ⟨_, rfl, HJR.out⟩⟩

theorem blocking_stops (n : Nat) (hn : 1 ≤ n) (Bp Bm : Nat) (A1 : Option Addr) (n1 c1 : Nat) (A2 : Option Addr) (n2 c2 : Nat) (A3 : Option Addr) (n3 c3 : Nat) (A4 : Option Addr) (n4 c4 : Nat) (Ap : Option Addr) (np cp : Nat) (ls rs : List (List Int)) (ps : List Int) (hok : pairOk ls rs ps = true)
    (Kp : World → World → Prop) (hKr : ∀ X Y kb, Kp X Y → BlkRd X Bp Bm (.slice A1 n1 c1) (.slice A2 n2 c2) (.slice A3 n3 c3) (.slice A4 n4 c4) (.slice Ap np cp) ls rs ps → Ints X (.slice (some ⟨kb, 0, none⟩) ps.length ps.length) (backOf ps) → BlkRd Y Bp Bm (.slice A1 n1 c1) (.slice A2 n2 c2) (.slice A3 n3 c3) (.slice A4 n4 c4) (.slice Ap np cp) ls rs ps ∧ Ints Y (.slice (some ⟨kb, 0, none⟩) ps.length ps.length) (backOf ps))
    (w : World) (hrd : BlkRd w Bp Bm (.slice A1 n1 c1) (.slice A2 n2 c2) (.slice A3 n3 c3) (.slice A4 n4 c4) (.slice Ap np cp) ls rs ps) :
    SeqStopsK Fence.wide n Tryd.prog 78 #[.pointer (some ⟨Bp, 0, none⟩), .pointer (some ⟨Bm, 0, none⟩)] (fun x : Nat × Nat => #[Value.int .i64 (x.1 : Int), .int .i64 (x.2 : Int)]) Kp (fun ys => ys = blocksOf ls rs ps) (fun pre => pre <+: blocksOf ls rs ps) 100 w :=
  fun l J Jx W hW hJ _ hY h0 => blocking1_in n hn l Bp Bm A1 n1 c1 A2 n2 c2 A3 n3 c3 A4 n4 c4 Ap np cp ls rs ps hok Kp hKr J Jx W (fun s X Y hs hb => hJ s X Y none hs (grown_of_below hb) (fun r e => by cases e)) hY (hrd.below hW) h0

/-- The value that hands out who blocks. -/
abbrev blockSeq (Bp Bm : Nat) : Value := .func (.func 78) #[] #[.pointer (some ⟨Bp, 0, none⟩), .pointer (some ⟨Bm, 0, none⟩)]
set_option maxHeartbeats 400000 in
theorem blocking_any (w : World) (a1 a2 a3 a4 : Value) (Ap : Option Addr) (np cp : Nat) :
    Calls Tryd.prog 56 #[.agg (four a1 a2 a3 a4), .slice Ap np cp] w fun e w' => e = .returned (blockSeq (w.heap.size + 1) w.heap.size) ∧ w' = (w.alloc (.cells (four a1 a2 a3 a4) 60)).alloc (.cells #[.slice Ap np cp] 66) := by
  go_enter Tryd.func56, Tryd.ntmps56
  go_wp2
  go_ret
  exact ⟨rfl, rfl⟩

end Go.Proofs.YtahilcnmjnjcaaaDoor.BI
