/-
  spec.l6mAll, spec.MarketAll: all stable pairings.
-/
import Derived.Test.YtahilcnmjnjcaaaDoorAllI
import Derived.Test.YtahilcnmjnjcaaaDoorRank1
import Derived.Test.YtahilcnmjnjcaaaDoorGrows
import Derived.Test.YtahilcnmjnjcaaaDoorDraw1
import Derived.Test.YtahilcnmjnjcaaaDoorSpecMIn
import Derived.Deep.RegionHeld3
namespace Go.Proofs.YtahilcnmjnjcaaaDoor
set_option linter.unusedVariables false
set_option linter.unusedSimpArgs false
open Go.RowKit

set_option maxRecDepth 100000 in
set_option maxHeartbeats 4000000 in
theorem l6mAll_any (w0 : World) (A1 : Option Addr) (cap1 : Nat) (R : Value) (ls rs : List (List Int)) (hmk : mktOk ls rs = true) (n : Nat) (hn : ls.length = n) (h5 : n ≤ 5) (hL : IntRows w0 (.slice A1 ls.length cap1) ls) (hR : IntRows w0 R rs) (lo : Nat) (hlo0 : w0.heap.size ≤ lo) : ∀ (d : Nat) (w : World) (gu cu : Nat) (v : Value) (beg : List Int) (us : List Value) (xss : List (List Int)), beg.length + d = n → Begins n beg → Below w0.heap.size w0 w →
    Owns w 0 (.slice (some ⟨gu, 0, none⟩) beg.length cu) beg → OwnsRows w lo w.heap.size v us xss → lo ≤ w.heap.size →
    xss.length + 5 ^ d ≤ 100000 → (d = 0 → ∃ wB : World, OwnsRows wB lo wB.heap.size v us xss ∧ lo ≤ wB.heap.size ∧ Below wB.heap.size wB w ∧ Owns w wB.heap.size (.slice (some ⟨gu, 0, none⟩) beg.length cu) beg) →
    Calls Tryd.prog 42 #[.agg (two (.slice A1 ls.length cap1) R), .slice (some ⟨gu, 0, none⟩) beg.length cu, v] w fun e w' => ∃ v' us', e = .returned v' ∧ OwnsRows w' lo w'.heap.size v' us' (xss ++ allI ls rs n d beg) ∧ Longer w w' v v' := by
  intro d
  induction d with
  | zero =>
    intro w gu cu v beg us xss hnd hbg hbw hu hv hlo hsz h0
    obtain ⟨i0, hi, hz0, hz1, hz2⟩ := info_parts infoRow
    obtain ⟨wB, hvB, hloB, hbB, huB⟩ := h0 rfl
    have hll : beg.length = n := by omega
    have hok : pairOk ls rs beg = true := by unfold pairOk; rw [hmk, hn, hbg.rank hll]; rfl
    have e1 : ((beg.length : Int) == (n : Int)) = true := by simp [hll]
    obtain ⟨W0, hW0⟩ : ∃ W0, w.alloc (.cells (two (.slice A1 ls.length cap1) R) 28) = W0 := ⟨_, rfl⟩
    have hb0 : Below w.heap.size w W0 := by rw [← hW0]; exact (Below.refl _ _).alloc (Nat.le_refl _) _
    have hbox : W0.heap[w.heap.size]? = some (.cells (two (.slice A1 ls.length cap1) R) 28 (0, 0)) := by rw [← hW0]; exact World.alloc_heap_new _ _
    obtain ⟨x0, x1, _, _⟩ := two_cells hbox
    have HBL := Lib.hid (l6mBlocks_any W0 (.slice A1 ls.length cap1) R (.slice (some ⟨gu, 0, none⟩) beg.length cu) ls rs beg ((hL.below hbw).below hb0) ((hR.below hbw).below hb0) ((ints_of_owns hu).below hb0) hok)
    have hlz := len_isEmpty ((blocksOf ls rs beg).map prL)
    have hie : ((blocksOf ls rs beg).map prL).isEmpty = (blocksOf ls rs beg).isEmpty := by cases blocksOf ls rs beg <;> rfl
    rw [hie] at hlz
    obtain ⟨bs, hbs⟩ : ∃ bs, (blocksOf ls rs beg).map prL = bs := ⟨_, rfl⟩
    rw [hbs] at HBL hlz
    have hrl := hv.len
    have hul : us.length ≤ 99999 := by have := hsz; rw [Nat.pow_zero] at this; omega
    have hro := hv.outer.1
    rw [← hrl] at hro
    have HH := Lib.hid (And.intro hvB (And.intro hloB (And.intro (step_below hbB hb0) (owns_below huB hb0))))
    have HV := Lib.hid hv
    have HRO := Lib.hid (owns_below hro hb0)
    have HB0 := Lib.hid hb0
    have hls0 := hb0.size
    cases hem : (blocksOf ls rs beg).isEmpty with
    | false =>
      have HA : Hid (allI ls rs n 0 beg = []) := Lib.hid (by unfold allI; rw [hem]; rfl)
      rw [hem] at hlz
      clear hu hv hvB hbB huB hloB hro hsz hrl hll h0 hok hbg hbw hb0 hie hbs hL hR hem
      rw [hn] at *
      go_enter Tryd.func42, Tryd.ntmps42
      go_wp2_with (refine load_mi rfl _ rfl w.heap.size _ R rfl hbox ?_)
      clear hW0
      refine HBL.out.mono ?_
      rintro e w2 ⟨Ab, cb, ub, rfl, hb2, -⟩
      have HB2 := Lib.hid (step_below HB0.out hb2)
      clear hb2
      go_wp2
      go_ret
      rw [HA.out, List.append_nil]
      exact ⟨_, us, rfl, (HV.out.below HB2.out).wide (Nat.le_refl _) HB2.out.size, Longer.below HB2.out⟩
    | true =>
      have HA : Hid (allI ls rs n 0 beg = [beg]) := Lib.hid (by unfold allI; rw [hem]; rfl)
      rw [hem] at hlz
      clear hu hv hvB hbB huB hloB hro hsz hrl hll h0 hok hbg hbw hb0 hie hbs hL hR hem
      rw [hn] at *
      go_enter Tryd.func42, Tryd.ntmps42
      go_wp2_with (refine load_mi rfl _ rfl w.heap.size _ R rfl hbox ?_)
      clear hW0
      refine HBL.out.mono ?_
      rintro e w2 ⟨Ab, cb, ub, rfl, hb2, -⟩
      have HB2 := Lib.hid hb2
      have HRO2 := Lib.hid (owns_below HRO.out hb2)
      have hs2 := hb2.size
      clear hb2
      go_wp2_with (at_builtin; refine wpList_append_lies _ rfl (.tmp 21) (.tmp 23) 22 rfl lo 39 i0 (.slice none 0 0) 1 24 Tryd.underlying22 hi hz0 hz1 hz2 rfl (by decide) _ _ _ rfl (HRO2.out.alloc _) ⟨w2.heap.size, 0, none⟩ 1 1 [.slice (some ⟨gu, 0, none⟩) beg.length cu] rfl rfl (cell_one_new _ _ _) (by simp [Value.oneCell']) (by decide) (by unfold maxLen; omega) (by omega) (by simp; omega) _ rfl ?_; intro g9 c9 w3 hown3 hgrow3 hor3 hlt3)
      go_ret
      obtain ⟨hvB, hloB, hbB, huB⟩ := HH.out
      have hbB2 := step_below hbB HB2.out
      have hb4 : Below wB.heap.size wB (w2.alloc (.cells #[.slice (some ⟨gu, 0, none⟩) beg.length cu] 39)) := hbB2.alloc hbB2.size _
      have hps := hvB.push hloB hb4 ((owns_below huB HB2.out).alloc _) hown3 hgrow3
      have hbw2 := step_below HB0.out HB2.out
      have hlg : Longer w w3 v (.slice (some ⟨g9, 0, none⟩) (us.length + 1) c9) := by
        refine ⟨⟨hgrow3.os.trans hbw2.os, hgrow3.tape.trans hbw2.tape, hgrow3.output.trans hbw2.output, ?_, fun k hk ho => (hgrow3.block k (by simp; omega) ho).trans ((Below.heap_alloc _ _ _ (by omega)).trans (hbw2.block k hk))⟩, ?_⟩
        · have := hgrow3.size; simp at this; omega
        · rcases hor3 with h | h
          · exact .inl h.symm
          · right
            intro b hb
            obtain rfl : g9 = b := by simpa [Value.ownBlock] using hb
            rw [h]; simp; omega
      rw [HA.out]
      exact ⟨_, _, rfl, hps, hlg⟩
  | succ d ih =>
    intro w gu cu v beg us xss hnd hbg hbw hu hv hlo hsz h0
    obtain ⟨j0, hj, hy0, hy1, hy2⟩ := info_parts infoInt
    have e1 : ((beg.length : Int) == (n : Int)) = false := by rw [beq_eq_false_iff_ne]; omega
    obtain ⟨W0, hW0⟩ : ∃ W0, w.alloc (.cells (two (.slice A1 ls.length cap1) R) 28) = W0 := ⟨_, rfl⟩
    have hb0 : Below w.heap.size w W0 := by rw [← hW0]; exact (Below.refl _ _).alloc (Nat.le_refl _) _
    have hbox : W0.heap[w.heap.size]? = some (.cells (two (.slice A1 ls.length cap1) R) 28 (0, 0)) := by rw [← hW0]; exact World.alloc_heap_new _ _
    have hs0 : W0.heap.size = w.heap.size + 1 := by rw [← hW0]; simp
    obtain ⟨x0, x1, _, _⟩ := two_cells hbox
    have HU := Lib.hid (owns_below hu hb0)
    have HV0 := Lib.hid ((hv.below hb0).wide (Nat.le_refl _) hb0.size)
    have HVB := Lib.hid (fun b (hb : v.ownBlock = some b) => hv.outer.2 b hb)
    have HSZ := Lib.hid hsz
    have HN := Lib.hid hnd
    have HIH := Lib.hid ih
    have HBG := Lib.hid hbg
    have HBW := Lib.hid (step_below hbw hb0)
    have HB0 := Lib.hid (And.intro hb0 hs0)
    have HKL := Lib.hid (fun (W' : World) (v' : Value) (hlg : Longer W0 W' v v') => show W'.heap[w.heap.size]? = some (.cells (two (.slice A1 ls.length cap1) R) 28 (0, 0)) from
      (hlg.1.block w.heap.size (by omega) (fun e => by have := hv.outer.2 _ e.symm; omega)).trans hbox)
    have HBOX := Lib.hid hbox
    have hb6 : beg.length < 6 := by omega
    clear hu hv h0 ih hsz hnd hbg hbw hb0 hbox hL hR
    rw [hn] at *
    go_enter Tryd.func42, Tryd.ntmps42
    go_wp2
    clear hW0 x0 x1
    go_loopw [2, 8] (fun l kv wr => ∃ (k : Nat) (us' : List Value), k ≤ n ∧ kv = .int .i64 k ∧ OwnsRows wr lo wr.heap.size l us' (xss ++ alTo ls rs n d beg k) ∧ Longer W0 wr v l) (fun _ kv _ => n - (intOf kv).toNat)
    case atStart => exact ⟨0, us, by omega, rfl, by rw [alTo_zero, List.append_nil]; exact HV0.out, Longer.refl _ _⟩
    case round =>
      obtain ⟨k, us', hk, rfl, hrs, hlg⟩ := hrel
      have hbeg := hlg.owns HU.out HV0.out.outer.1
      by_cases hlt : k < n
      · have hki : (k : Int) < (n : Int) := by omega
        have hk0 : (0 : Int) ≤ (k : Int) := by omega
        have HPL := Lib.hid (l6mPlace_any wr _ beg (k : Int) (ints_of_owns hbeg))
        have hsw := hlg.1.size
        have hboxr : wr.heap[w.heap.size]? = some (.cells (two (.slice A1 n cap1) R) 28 (0, 0)) := by
          rw [hlg.1.block w.heap.size (by have := HB0.out.2; omega) (fun e => by have := HVB.out _ e.symm; omega)]
          exact HBOX.out
        obtain ⟨y0, y1, _, _⟩ := two_cells hboxr
        have HKEEP := Lib.hid (fun (W' : World) (hb : Below wr.heap.size wr W') => show W'.cell? ⟨w.heap.size, 0, none⟩ = some (.slice A1 n cap1) ∧ W'.cell? ⟨w.heap.size, 1, none⟩ = some R from by
          obtain ⟨a, b, _, _⟩ := two_cells (kept_obj hb hboxr)
          exact ⟨a, b⟩)
        have HRS := Lib.hid hrs
        have HLG := Lib.hid hlg
        have HBEG := Lib.hid hbeg
        have HBR : Hid (Below w0.heap.size w0 wr) := Lib.hid (Longer.bel HBW.out hlg HV0.out.outer.1 hlo0)
        by_cases hp : place beg (k : Int) = beg.length
        · rw [hp] at HPL
          have HP := Lib.hid hp
          have HNW := Lib.hid (fun (W' : World) (hb : Below wr.heap.size wr W') => show ∀ j u, (vals beg)[j]? = some u → W'.cell? ((⟨gu, 0, none⟩ : Addr).add j) = some u from fun j u hu => by
            have h1 := HBEG.out.cells (g := gu) rfl j u hu
            have hadd : (⟨gu, 0, none⟩ : Addr).add j = ⟨gu, j, none⟩ := by unfold Addr.add; split <;> simp_all
            rw [hadd] at h1 ⊢
            exact (hb.cell (p := ⟨gu, j, none⟩) (World.block_lt_of_cell? wr _ h1)).trans h1)
          have q1 : (vals beg).length = beg.length * 1 := by simp [vals]
          have q2 : ∀ u ∈ vals beg, u.oneCell' = true := fun u hu => by
            obtain ⟨x, _, rfl⟩ := List.mem_map.1 hu; rfl
          have HQ := Lib.hid (And.intro q1 q2)
          have hcl := alTo_len (ls := ls) (rs := rs) h5 d beg k
          have hsz2 : (xss ++ alTo ls rs n d beg k).length + 5 ^ d ≤ 100000 := by
            have := HSZ.out
            rw [Nat.pow_succ] at this
            rw [List.length_append]
            have h5' : k * 5 ^ d ≤ 4 * 5 ^ d := Nat.mul_le_mul_right _ (by omega)
            omega
          have HCC := Lib.hid (fun (w4 : World) (g2 cap2 : Nat) (hb4 : Below wr.heap.size wr w4) (hown2 : w4.ownsRow wr.heap.size 3 1 (.slice (some ⟨g2, 0, none⟩) (beg.length + 1) cap2) (beg.length + 1) (vals (beg ++ [(k : Int)]))) => show Calls Tryd.prog 42 #[.agg (two (.slice A1 n cap1) R), .slice (some ⟨g2, 0, none⟩) (beg.length + 1) cap2, u2] w4 fun e w' => ∃ v' us2, e = .returned v' ∧ OwnsRows w' lo w'.heap.size v' us2 (xss ++ alTo ls rs n d beg (k + 1)) ∧ Longer W0 w' v v' from by
            have hlen : (beg ++ [(k : Int)]).length = beg.length + 1 := by simp
            have hown2' : Owns w4 wr.heap.size (.slice (some ⟨g2, 0, none⟩) (beg ++ [(k : Int)]).length cap2) (beg ++ [(k : Int)]) := by
              unfold Owns
              rw [hlen]
              exact hown2
            have hlow : lo ≤ wr.heap.size := Nat.le_trans hlo (Nat.le_trans HB0.out.1.size hsw)
            have H := HIH.out w4 g2 cap2 u2 (beg ++ [(k : Int)]) us' (xss ++ alTo ls rs n d beg k) (by have := HN.out; rw [hlen]; omega) (HBG.out.snoc hlt HP.out) (step_below HBR.out hb4) (owns_mono hown2' (Nat.zero_le _)) ((HRS.out.below hb4).wide (Nat.le_refl _) hb4.size) (Nat.le_trans hlow hb4.size) hsz2
              (fun _ => ⟨wr, HRS.out, hlow, hb4, hown2'⟩)
            rw [hlen] at H
            exact H.mono (fun e w' h => by
              obtain ⟨v', us2, rfl, h1, h2⟩ := h
              exact ⟨v', us2, rfl, (show OwnsRows w' lo w'.heap.size v' us2 (xss ++ alTo ls rs n d beg (k + 1)) by rw [alTo_yes HP.out, ← List.append_assoc]; exact h1), HLG.out.trans ((Longer.below hb4).trans h2)⟩))
          clear hp hrs hlg hbeg q1 q2 hcl hsz2 hboxr
          go_wp2_with (go_at_call 68; refine HPL.out.mono ?_; rintro e w1 ⟨rfl, rfl⟩)
          go_region_held3 (fun W' => W'.cell? ⟨w.heap.size, 0, none⟩ = some (.slice A1 n cap1) ∧ W'.cell? ⟨w.heap.size, 1, none⟩ = some R)
            (first | exact ⟨y0, y1⟩ | exact ⟨(two_cells (HKL.out _ _ hlg5)).1, (two_cells (HKL.out _ _ hlg5)).2.1⟩ | exact HKEEP.out _ hb4 | exact HKEEP.out _ hb3 | exact HKEEP.out _ (hb3.alloc hb3.size _) | exact HKEEP.out _ ((Below.drew (Below.refl _ _)).alloc (Nat.le_refl _) _) | exact HKEEP.out _ (((Below.drew (Below.refl _ _)).alloc (Nat.le_refl _) _).alloc (by simp) _) | trivial)
            (first | (refine step_append_any _ (by rfl) (.tmp 38) (.tmp 39) 39 (by rfl) wr.heap.size 3 j0 (.int .i64 0) 1 8 Tryd.underlying39 hj hy0 hy1 hy2 rfl (by decide) (.slice (some ⟨wr.heap.size, 0, none⟩) 0 0) 0 [] (by rfl) (by simp) (by first | exact owns_made rfl (Nat.le_refl _) | exact (owns_made rfl (Nat.le_refl _)).alloc _) ⟨gu, 0, none⟩ beg.length cu (vals beg) (by rfl) HQ.out.1 (by refine HNW.out _ ?_; first | exact (Below.drew (Below.refl _ _)).alloc (Nat.le_refl _) _ | exact ((Below.drew (Below.refl _ _)).alloc (Nat.le_refl _) _).alloc (by simp) _) HQ.out.2 (by unfold maxLen; omega) (by omega) (by simp <;> omega) beg.length (Nat.zero_add _) ?_; intro g1 cap1 w3 hown1 hgrow1 hlt1; replace hown1 : w3.ownsRow wr.heap.size 3 1 (.slice (some ⟨g1, 0, none⟩) beg.length cap1) beg.length (vals beg) := (by simpa using hown1); have hb3 : Below wr.heap.size wr w3 := (by first | exact ((Below.drew (Below.refl _ _)).alloc (Nat.le_refl _) _).grown hgrow1 (by simp) (fun b hb => by cases hb; simp) | exact (((Below.drew (Below.refl _ _)).alloc (Nat.le_refl _) _).alloc (by simp) _).grown hgrow1 (by simp <;> omega) (fun b hb => by cases hb; simp))) | (refine step_append_any _ (by rfl) (.tmp 38) (.tmp 39) 39 (by rfl) wr.heap.size 3 j0 (.int .i64 0) 1 8 Tryd.underlying39 hj hy0 hy1 hy2 rfl (by decide) (.slice (some ⟨wr.heap.size + 1, 0, none⟩) 0 0) 0 [] (by rfl) (by simp) (owns_made (by simp) (by simp)) ⟨gu, 0, none⟩ beg.length cu (vals beg) (by rfl) HQ.out.1 (by refine HNW.out _ ?_; first | exact (Below.drew (Below.refl _ _)).alloc (Nat.le_refl _) _ | exact ((Below.drew (Below.refl _ _)).alloc (Nat.le_refl _) _).alloc (by simp) _) HQ.out.2 (by unfold maxLen; omega) (by omega) (by simp <;> omega) beg.length (Nat.zero_add _) ?_; intro g1 cap1 w3 hown1 hgrow1 hlt1; replace hown1 : w3.ownsRow wr.heap.size 3 1 (.slice (some ⟨g1, 0, none⟩) beg.length cap1) beg.length (vals beg) := (by simpa using hown1); have hb3 : Below wr.heap.size wr w3 := (by first | exact ((Below.drew (Below.refl _ _)).alloc (Nat.le_refl _) _).grown hgrow1 (by simp) (fun b hb => by cases hb; simp) | exact (((Below.drew (Below.refl _ _)).alloc (Nat.le_refl _) _).alloc (by simp) _).grown hgrow1 (by simp <;> omega) (fun b hb => by cases hb; simp))) | (refine step_append_any _ (by rfl) (.tmp 40) (.tmp 42) 39 (by rfl) wr.heap.size 3 j0 (.int .i64 0) 1 8 Tryd.underlying39 hj hy0 hy1 hy2 rfl (by decide) (.slice (some ⟨g1, 0, none⟩) beg.length cap1) beg.length (vals beg) (by rfl) (by simp) (hown1.alloc _) ⟨w3.heap.size, 0, none⟩ 1 1 [.int .i64 (k : Int)] (by rfl) (by rfl) (cells_made rfl) (by simp [Value.oneCell']) (by unfold maxLen; omega) (by omega) (by have := hb3.size; simp <;> omega) (beg.length + 1) rfl ?_; intro g2 cap2 w4 hown2 hgrow2 hlt2; replace hown2 : w4.ownsRow wr.heap.size 3 1 (.slice (some ⟨g2, 0, none⟩) (beg.length + 1) cap2) (beg.length + 1) (vals (beg ++ [(k : Int)])) := (by simpa [vals] using hown2); have hb4 : Below wr.heap.size wr w4 := (hb3.alloc hb3.size _).grown hgrow2 (by have := hb3.size; simp <;> omega) (fun b hb => (hown1.lt b hb).1)) | (refine step_append_any _ (by rfl) (.tmp 40) (.tmp 42) 39 (by rfl) wr.heap.size 3 j0 (.int .i64 0) 1 8 Tryd.underlying39 hj hy0 hy1 hy2 rfl (by decide) (.slice (some ⟨g1, 0, none⟩) beg.length cap1) beg.length (vals beg) (by rfl) (by simp) (hown1) ⟨wr.heap.size + 1, 0, none⟩ 1 1 [.int .i64 (k : Int)] (by rfl) (by rfl) (grown_one hgrow1 (cells_made (by simp)) (by simp [Value.ownBlock])) (by simp [Value.oneCell']) (by unfold maxLen; omega) (by omega) (by have := hb3.size; simp <;> omega) (beg.length + 1) rfl ?_; intro g2 cap2 w4 hown2 hgrow2 hlt2; replace hown2 : w4.ownsRow wr.heap.size 3 1 (.slice (some ⟨g2, 0, none⟩) (beg.length + 1) cap2) (beg.length + 1) (vals (beg ++ [(k : Int)])) := (by simpa [vals] using hown2); have hb4 : Below wr.heap.size wr w4 := hb3.grown hgrow2 (by have := hb3.size; simp <;> omega) (fun b hb => (hown1.lt b hb).1)) | (refine step_append_any _ (by rfl) (.tmp 40) (.tmp 42) 39 (by rfl) wr.heap.size 3 j0 (.int .i64 0) 1 8 Tryd.underlying39 hj hy0 hy1 hy2 rfl (by decide) (.slice (some ⟨g1, 0, none⟩) beg.length cap1) beg.length (vals beg) (by rfl) (by simp) (hown1) ⟨wr.heap.size, 0, none⟩ 1 1 [.int .i64 (k : Int)] (by rfl) (by rfl) (grown_one hgrow1 (alloc_one (cells_made rfl)) (by simp [Value.ownBlock])) (by simp [Value.oneCell']) (by unfold maxLen; omega) (by omega) (by have := hb3.size; simp <;> omega) (beg.length + 1) rfl ?_; intro g2 cap2 w4 hown2 hgrow2 hlt2; replace hown2 : w4.ownsRow wr.heap.size 3 1 (.slice (some ⟨g2, 0, none⟩) (beg.length + 1) cap2) (beg.length + 1) (vals (beg ++ [(k : Int)])) := (by simpa [vals] using hown2); have hb4 : Below wr.heap.size wr w4 := hb3.grown hgrow2 (by have := hb3.size; simp <;> omega) (fun b hb => (hown1.lt b hb).1)) | (go_at_call 42; refine (HCC.out w4 g2 cap2 hb4 hown2).mono ?_; rintro e w5 ⟨v5, us5, rfl, hrs5, hlg5⟩))
          all_goals
            have HX := Lib.hid hrs5
            have HL := Lib.hid hlg5
            clear hrs5 hlg5 hb3 hb4 hown1 hown2 hgrow1 hgrow2 hlt1 hlt2 y0 y1
            go_wp2
            go_roundw
            case rel => exact ⟨k + 1, us5, by omega, by go_num, HX.out, HL.out⟩
            case measure => simp [intOf]; omega
        · have e2 : ((place beg (k : Int) : Int) == (beg.length : Int)) = false := by rw [beq_eq_false_iff_ne]; omega
          have HX := Lib.hid (show OwnsRows wr lo wr.heap.size _ us' (xss ++ alTo ls rs n d beg (k + 1)) by rw [alTo_no hp]; exact HRS.out)
          clear hp hrs hlg hbeg hboxr
          go_wp2_with (go_at_call 68; refine HPL.out.mono ?_; rintro e w1 ⟨rfl, rfl⟩)
          go_roundw
          case rel => exact ⟨k + 1, us', by omega, by go_num, HX.out, HLG.out⟩
          case measure => simp [intOf]; omega
      · obtain rfl : k = n := by omega
        have HRS := Lib.hid hrs
        have HLG := Lib.hid ((Longer.below HB0.out.1).trans hlg)
        clear hrs hlg hbeg
        go_wp2
        go_ret
        exact ⟨_, us', rfl, HRS.out, HLG.out⟩

end Go.Proofs.YtahilcnmjnjcaaaDoor
