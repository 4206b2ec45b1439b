/-
  WHO BLOCKS A PAIRING: plain functions; spec.l6mBack, spec.l6mBlocks, spec.l6mStable.
-/
import Derived.Test.YtahilcnmjnjcaaaDoorRank1
import Derived.Test.YtahilcnmjnjcaaaDoorCost
import Derived.Test.YtahilcnmjnjcaaaDoorMktCost
import Derived.Test.YtahilcnmjnjcaaaDoorCore1
import Derived.Maps.AppendAt
namespace Go.Proofs.YtahilcnmjnjcaaaDoor
set_option linter.unusedVariables false
set_option linter.unusedSimpArgs false
open Go.RowKit

def blockL (ls : List (List Int)) (xs : List Int) (i k : Nat) : Bool := decide (place (ls.getD i []) (k : Int) < place (ls.getD i []) (xs.getD i 0))
def blockR (rs : List (List Int)) (xs : List Int) (i k : Nat) : Bool := decide (place (rs.getD k []) (i : Int) < place (rs.getD k []) ((backOf xs).getD k 0))
def blockB (ls rs : List (List Int)) (xs : List Int) (i k : Nat) : Bool := blockL ls xs i k && blockR rs xs i k
def rowB (b : Nat → Nat → Bool) (i : Nat) : Nat → List (Nat × Nat)
  | 0 => []
  | k + 1 => if b i k = true then rowB b i k ++ [(i, k)] else rowB b i k
def pairsB (b : Nat → Nat → Bool) (n : Nat) : Nat → List (Nat × Nat)
  | 0 => []
  | i + 1 => pairsB b n i ++ rowB b i n
def prL (p : Nat × Nat) : List Int := [(p.1 : Int), (p.2 : Int)]
def blocksOf (ls rs : List (List Int)) (xs : List Int) : List (Nat × Nat) := pairsB (blockB ls rs xs) xs.length xs.length
theorem rowB_len (b : Nat → Nat → Bool) (i : Nat) : ∀ k, (rowB b i k).length ≤ k
  | 0 => Nat.le_refl _
  | k + 1 => by
    have := rowB_len b i k
    unfold rowB
    split
    · simp; omega
    · omega
theorem pairsB_len (b : Nat → Nat → Bool) (n : Nat) : ∀ i, (pairsB b n i).length ≤ i * n
  | 0 => by simp [pairsB]
  | i + 1 => by
    have h1 := pairsB_len b n i
    have h2 := rowB_len b i n
    unfold pairsB
    rw [List.length_append, Nat.add_mul]
    omega
theorem rowB_yes {b : Nat → Nat → Bool} {i k : Nat} (h : b i k = true) : rowB b i (k + 1) = rowB b i k ++ [(i, k)] := if_pos h
theorem rowB_no {b : Nat → Nat → Bool} {i k : Nat} (h : b i k = false) : rowB b i (k + 1) = rowB b i k := by
  show (if b i k = true then _ else _) = _
  rw [h]; rfl

def GivesRowsV (w : World) (xss : List (List Int)) (e : Ending) (w' : World) : Prop :=
  ∃ A c us, e = .returned (.slice A xss.length c) ∧ Below w.heap.size w w' ∧ OwnsRows w' w.heap.size w'.heap.size (.slice A xss.length c) us xss
theorem owns_rows_slice {w : World} {lo hi : Nat} {v : Value} {us : List Value} {xss : List (List Int)} (h : OwnsRows w lo hi v us xss) : ∃ A c, v = .slice A xss.length c := by
  rcases h.outer.1.2 with ⟨rfl, hn⟩ | ⟨g, cap, cur, rfl, _⟩
  · exact ⟨none, 0, by rw [hn]⟩
  · exact ⟨_, _, rfl⟩

/-- What stands while blocks are listed. -/
structure BlkSt (w wr : World) (L R bv : Value) (ys : List Int) : Prop where
  bel : Below w.heap.size w wr
  box : wr.heap[w.heap.size]? = some (.cells (two L R) 28 (0, 0))
  back : Owns wr w.heap.size bv ys
theorem BlkSt.drewN {w wr : World} {L R bv : Value} {ys : List Int} (h : BlkSt w wr L R bv ys) (n : Nat) : BlkSt w (wr.drewN n) L R bv ys := ⟨below_drewN h.bel n, h.box, h.back⟩
theorem BlkSt.grow {w wr w2 w3 : World} {L R bv v : Value} {ys : List Int} {us : List Value} {n base : Nat} (h : BlkSt w wr L R bv ys) (hb : Below wr.heap.size wr w2) (hro : w2.ownsRow base 39 1 v n us) (hbase : w.heap.size ≤ base) (hg : w2.grownBy w3 v.ownBlock) : BlkSt w w3 L R bv ys := by
  have hl := (Array.getElem?_eq_some_iff.1 h.box).1
  have hb2 := hb.size
  refine ⟨(step_below h.bel hb).grown hg (Nat.le_trans h.bel.size hb.size) (fun k hk => Nat.le_trans hbase (hro.lt k hk).1), ?_, ?_⟩
  · refine ((hg.block _ (by omega) (fun e => ?_)).trans (hb.block _ hl)).trans h.box
    obtain ⟨c1, f1, hc1⟩ := row_cells hro e.symm
    rw [kept_obj hb h.box] at hc1
    simp at hc1
  · have h1 := owns_below h.back hb
    exact h1.kept hg (rows_apart h1 hro (by decide))

set_option maxRecDepth 100000 in
set_option maxHeartbeats 4000000 in
theorem l6mBlocks_any (w : World) (L R v : Value) (ls rs : List (List Int)) (xs : List Int) (hL : IntRows w L ls) (hR : IntRows w R rs) (hx : Ints w v xs) (hok : pairOk ls rs xs = true) :
    Calls Tryd.prog 67 #[.agg (two L R), v] w (GivesRowsV w ((blocksOf ls rs xs).map prL)) := by
  obtain ⟨h1, h5, hrl, hxl, hls, hrs, hxr⟩ := pair_parts hok
  obtain ⟨i0, hi, hz0, hz1, hz2⟩ := info_parts infoRow
  obtain ⟨W0, hW0⟩ : ∃ W0, w.alloc (.cells (two L R) 28) = W0 := ⟨_, rfl⟩
  have hb0 : Below w.heap.size w W0 := by rw [← hW0]; exact (Below.refl _ _).alloc (Nat.le_refl _) _
  have hbox : W0.heap[w.heap.size]? = some (.cells (two L R) 28 (0, 0)) := by rw [← hW0]; exact World.alloc_heap_new _ _
  obtain ⟨W1, hW1⟩ : ∃ W1, W0.alloc (.cells #[] 39) = W1 := ⟨_, rfl⟩
  have hb1 : Below W0.heap.size W0 W1 := by rw [← hW1]; exact (Below.refl _ _).alloc (Nat.le_refl _) _
  have hm1 : W1.ownsRow W0.heap.size 39 1 (.slice (some ⟨W0.heap.size, 0, none⟩) 0 0) 0 [] := by
    rw [← hW1]; exact World.ownsRow_made (base := W0.heap.size) (e := 39) (size := 1) W0 #[] 0 (Nat.le_refl _) (Nat.zero_le _) rfl
  have HBK := Lib.hid (l6mBack_any W1 v xs ((hx.below hb0).below hb1) (by omega) (by rw [hxl]; exact (rank_parts hxr).2.1))
  have hx0 := hx
  obtain ⟨A, cap, rfl, hm, hc⟩ := hx
  obtain ⟨A1, cap1, hLe, hmL, hc1⟩ := hL.at
  obtain ⟨A2, cap2, hRe, hmR, hc2⟩ := hR.at
  have HLE := Lib.hid (And.intro hLe hRe)
  have HC := Lib.hid hc
  have HC1 := Lib.hid hc1
  have HC2 := Lib.hid hc2
  have HB0 := Lib.hid hb0
  have HB1 := Lib.hid (And.intro hb1 hm1)
  have hbi := back_in h1 h5 hxr
  rw [backOf_len, hxl] at hbi
  have HFACT := Lib.hid (And.intro hrl (And.intro hxl (And.intro (rank_parts hxr).2.1 hbi)))
  have hs01 := hb0.size
  have hs12 := hb1.size
  have HS := Lib.hid (And.intro hs01 hs12)
  have hn5 : xs.length ≤ 5 := by omega
  have HN5 := Lib.hid hn5
  clear hok hrl hxl hls hrs hxr hL hR hc hc1 hc2 hLe hRe hb0 hb1 hm1 hx0 hbi hs01 hs12
  unfold maxLen at hm hmL hmR
  go_enter Tryd.func67, Tryd.ntmps67
  go_wp2_with fail
  clear hW0 hW1
  refine HBK.out.mono ?_
  rintro e w2 ⟨rfl, hb2, ho2⟩
  have HB2 := Lib.hid (step_below (step_below HB0.out HB1.out.1) hb2)
  have hl0 := (Array.getElem?_eq_some_iff.1 hbox).1
  have HIB := Lib.hid (ints_of_owns ho2)
  obtain ⟨Ab, hAb⟩ : ∃ A, (some ⟨W1.heap.size, 0, none⟩ : Option Addr) = A := ⟨_, rfl⟩
  have hbox2 := kept_obj hb2 (kept_obj HB1.out.1 hbox)
  obtain ⟨x0, x1, xf, _⟩ := two_cells hbox2
  rw [HLE.out.1] at x0
  rw [HLE.out.2] at x1
  have hr0 : OwnsRows w2 w.heap.size w2.heap.size (.slice (some ⟨W0.heap.size, 0, none⟩) 0 0) [] [] := (owns_rows_nil _ _ _ (owns_below (owns_mono HB1.out.2 HS.out.1) hb2))
  have HR0 := Lib.hid hr0
  have HST : Hid (BlkSt w w2 L R (.slice (some ⟨W1.heap.size, 0, none⟩) xs.length xs.length) (backOf xs)) := Lib.hid ⟨HB2.out, hbox2, owns_mono ho2 (Nat.le_trans HS.out.1 HS.out.2)⟩
  clear hr0 hbox hbox2 ho2 hb2 x0 x1 xf hAb
  go_wp2
  go_loopw [5, 7, 8, 9, 10] (fun r i _ _ _ wr => ∃ (k : Nat) (us : List Value), k ≤ xs.length ∧ i = .int .i64 k ∧ BlkSt w wr L R (.slice (some ⟨W1.heap.size, 0, none⟩) xs.length xs.length) (backOf xs) ∧ OwnsRows wr w.heap.size wr.heap.size r us ((pairsB (blockB ls rs xs) xs.length k).map prL)) (fun _ i _ _ _ _ => xs.length - (intOf i).toNat)
  case atStart => exact ⟨0, [], by omega, rfl, HST.out, HR0.out⟩
  case round =>
    obtain ⟨i, us, hik, rfl, hbw, hrs⟩ := hrel
    have HRS := Lib.hid hrs
    have HBW := Lib.hid hbw
    clear hrs hbw
    by_cases hlt : i < xs.length
    · have hii : (i : Int) < (xs.length : Int) := by omega
      go_wp2
      go_loopw [5, 8, 9, 10] (fun r kv _ _ wr => ∃ (k : Nat) (us : List Value), k ≤ xs.length ∧ kv = .int .i64 k ∧ BlkSt w wr L R (.slice (some ⟨W1.heap.size, 0, none⟩) xs.length xs.length) (backOf xs) ∧ OwnsRows wr w.heap.size wr.heap.size r us ((pairsB (blockB ls rs xs) xs.length i ++ rowB (blockB ls rs xs) i k).map prL)) (fun _ kv _ _ _ => xs.length - (intOf kv).toNat)
      case atStart => exact ⟨0, us, by omega, rfl, HBW.out, by rw [show rowB (blockB ls rs xs) i 0 = [] from rfl, List.append_nil]; exact HRS.out⟩
      case round =>
        obtain ⟨k, us2, hk2, rfl, hbw2, hrs2⟩ := hrel
        have HR2 := Lib.hid hrs2
        have HBW2 := Lib.hid hbw2
        clear hrs2 hbw2
        by_cases hlk : k < xs.length
        · have hil : i < ls.length := by have := HFACT.out.2.1; omega
          have hkr : k < rs.length := by have := HFACT.out; omega
          obtain ⟨b1, o1, rfl, hcell0⟩ := HC.out i hlt
          obtain ⟨b2, o2, u, rfl, hcell20, hu⟩ := HC1.out i hil
          obtain ⟨b3, o3, u3, rfl, hcell30, hu3⟩ := HC2.out k hkr
          have hbl : k < (backOf xs).length := by rw [backOf_len]; exact hlk
          obtain ⟨A4, cap4, e4, hm4, hc4⟩ := ints_of_owns HBW2.out.back
          obtain ⟨b4, o4, hA4, hcell40⟩ := hc4 k hbl
          obtain ⟨rfl, -, -⟩ : some ⟨W1.heap.size, 0, none⟩ = A4 ∧ _ ∧ _ := by simpa using e4
          obtain ⟨rfl, rfl⟩ : W1.heap.size = b4 ∧ 0 = o4 := by simpa using hA4
          obtain ⟨y0, y1, _, _⟩ := two_cells HBW2.out.box
          rw [HLE.out.1] at y0
          rw [HLE.out.2] at y1
          have hbR : Below w.heap.size w wr := HBW2.out.bel
          have HBR := Lib.hid hbR
          have hcell := (hbR.cell (p := ⟨b1, o1 + i, none⟩) (World.block_lt_of_cell? w _ hcell0)).trans hcell0
          have hcell2 := (hbR.cell (p := ⟨b2, o2 + i, none⟩) (World.block_lt_of_cell? w _ hcell20)).trans hcell20
          have hcell3 := (hbR.cell (p := ⟨b3, o3 + k, none⟩) (World.block_lt_of_cell? w _ hcell30)).trans hcell30
          have hcell4 := hcell40
          rw [Nat.zero_add] at hcell4
          obtain ⟨xi, hxi⟩ : ∃ xi, xs[i] = xi := ⟨_, rfl⟩
          obtain ⟨bk, hbk⟩ : ∃ bk, (backOf xs)[k] = bk := ⟨_, rfl⟩
          rw [hxi] at hcell
          rw [hbk] at hcell4
          obtain ⟨z1, hz1'⟩ : ∃ z : Int, (place ls[i] (k : Int) : Int) = z := ⟨_, rfl⟩
          obtain ⟨z2, hz2'⟩ : ∃ z : Int, (place ls[i] xi : Int) = z := ⟨_, rfl⟩
          obtain ⟨z3, hz3'⟩ : ∃ z : Int, (place rs[k] (i : Int) : Int) = z := ⟨_, rfl⟩
          obtain ⟨z4, hz4'⟩ : ∃ z : Int, (place rs[k] bk : Int) = z := ⟨_, rfl⟩
          have HP1 := Lib.hid (fun (W : World) (hW : Below w.heap.size w W) => l6mPlace_q u ls[i] (k : Int) z1 hz1' W (hu.below hW))
          have HP2 := Lib.hid (fun (W : World) (hW : Below w.heap.size w W) => l6mPlace_q u ls[i] xi z2 hz2' W (hu.below hW))
          have HP3 := Lib.hid (fun (W : World) (hW : Below w.heap.size w W) => l6mPlace_q u3 rs[k] (i : Int) z3 hz3' W (hu3.below hW))
          have HP4 := Lib.hid (fun (W : World) (hW : Below w.heap.size w W) => l6mPlace_q u3 rs[k] bk z4 hz4' W (hu3.below hW))
          have hbB : blockB ls rs xs i k = (decide (z1 < z2) && decide (z3 < z4)) := by
            unfold blockB blockL blockR
            have e1 : ls.getD i [] = ls[i] := by simp [List.getD, hil]
            have e2 : rs.getD k [] = rs[k] := by simp [List.getD, hkr]
            have e3 : xs.getD i 0 = xs[i] := by simp [List.getD, hlt]
            have e4 : (backOf xs).getD k 0 = (backOf xs)[k] := by simp [List.getD, hbl]
            rw [e1, e2, e3, e4, hxi, hbk, ← hz1', ← hz2', ← hz3', ← hz4']
            simp only [Int.ofNat_lt]
          have HBB := Lib.hid hbB
          have hii' : (i : Int) < (ls.length : Int) := by omega
          have hki : (k : Int) < (xs.length : Int) := by omega
          have hkr' : (k : Int) < (rs.length : Int) := by omega
          have hk0 : (0 : Int) ≤ (k : Int) := by omega
          have hi0 : (0 : Int) ≤ (i : Int) := by omega
          clear hcell0 hcell20 hcell30 hcell40 hu hu3 hxi hbk hz1' hz2' hz3' hz4' hbB hc4 e4 hA4 hbR hm4
          by_cases hq1 : z1 < z2
          · by_cases hq2 : z3 < z4
            · have HY : Hid (blockB ls rs xs i k = true) := Lib.hid (by rw [HBB.out, decide_eq_true hq1, decide_eq_true hq2]; rfl)
              go_wp2
              go_quiet ((go_at_call 68; first | (with_reducible exact Calls.quiet_of_same (HP1.out _ (below_drewN HBR.out _))) | (with_reducible exact Calls.quiet_of_same (HP2.out _ (below_drewN HBR.out _)))))
              obtain ⟨wq, hwq⟩ : ∃ wq, wr.drewN nq = wq := ⟨_, rfl⟩
              have g1 : wq.cell? ⟨w.heap.size, 1, none⟩ = some (.slice (some ⟨b3, o3, none⟩) rs.length cap2) := by rw [← hwq]; exact y1
              have g2 : wq.cell? ⟨b3, o3 + k, none⟩ = some u3 := by rw [← hwq]; exact hcell3
              have g3 : wq.cell? ⟨W1.heap.size, k, none⟩ = some (.int .i64 bk) := by rw [← hwq]; exact hcell4
              have HBQ : Hid (Below w.heap.size w wq) := Lib.hid (by rw [← hwq]; exact below_drewN HBR.out nq)
              have HWQ : Hid (∃ p, wq = wr.drewN p) := Lib.hid ⟨nq, hwq.symm⟩
              rw [hwq]
              clear hwq hcell hcell2 hcell3 hcell4 y0 y1
              go_wp2
              go_quiet ((go_at_call 68; first | (with_reducible exact Calls.quiet_of_same (HP3.out _ (below_drewN HBQ.out _))) | (with_reducible exact Calls.quiet_of_same (HP4.out _ (below_drewN HBQ.out _)))))
              obtain ⟨wz, hwz⟩ : ∃ wz, wq.drewN nq = wz := ⟨_, rfl⟩
              have HWZ : Hid (BlkSt w wz L R (.slice (some ⟨W1.heap.size, 0, none⟩) xs.length xs.length) (backOf xs) ∧ OwnsRows wz w.heap.size wz.heap.size u5 us2 ((pairsB (blockB ls rs xs) xs.length i ++ rowB (blockB ls rs xs) i k).map prL)) := by
                obtain ⟨p, hp⟩ := HWQ.out
                rw [← hwz, hp]
                exact Lib.hid ⟨by simpa using HBW2.out.drewN (p + nq), by simpa using HR2.out.drewN (p + nq)⟩
              rw [hwz]
              clear hwz g1 g2 g3
              have hro := HWZ.out.2.outer.1
              have hrl := HWZ.out.2.len
              rw [← hrl] at hro
              have hlen : us2.length ≤ 50 := by
                have q1 := pairsB_len (blockB ls rs xs) xs.length i
                have q2 := rowB_len (blockB ls rs xs) i k
                have q3 : i * xs.length ≤ 5 * 5 := Nat.mul_le_mul (by have := HN5.out; omega) HN5.out
                have := HN5.out
                rw [hrl]; simp; omega
              have hbz : w.heap.size ≤ wz.heap.size := HWZ.out.1.bel.size
              clear hrl
              go_wp2_with (at_builtin; (refine wpList_append_own _ rfl _ _ 22 rfl w.heap.size 39 i0 (.slice none 0 0) 1 24 Tryd.underlying22 hi hz0 hz1 hz2 rfl (by decide) _ _ _ rfl ((hro.alloc _).alloc _) ⟨wz.heap.size + 1, 0, none⟩ 1 1 [.slice (some ⟨wz.heap.size, 0, none⟩) 2 2] rfl rfl ?q1 ?q2 ?q3 ?q4 ?q5 ?_; rotate_left 5; intro v' w3 hown' hgrow _))
              case q1 =>
                have := cell_one_new (wz.alloc (.cells #[.int .i64 (i : Int), .int .i64 (k : Int)] 3)) (.slice (some ⟨wz.heap.size, 0, none⟩) 2 2) 39
                rw [World.size_alloc] at this
                exact this
              case q2 => intro z hz; rw [List.mem_singleton.1 hz]; rfl
              case q3 => unfold maxLen; omega
              case q4 => omega
              case q5 => simp; omega
              have hin : Owns ((wz.alloc (.cells #[.int .i64 (i : Int), .int .i64 (k : Int)] 3)).alloc (.cells #[.slice (some ⟨wz.heap.size, 0, none⟩) 2 2] 39)) wz.heap.size (.slice (some ⟨wz.heap.size, 0, none⟩) 2 2) (prL (i, k)) :=
                (World.ownsRow_lit (base := wz.heap.size) (e := 3) (size := 1) wz #[.int .i64 (i : Int), .int .i64 (k : Int)] 2 (Nat.le_refl _) (by unfold maxLen; omega) (by simp)).alloc _
              have hb4 : Below wz.heap.size wz ((wz.alloc (.cells #[.int .i64 (i : Int), .int .i64 (k : Int)] 3)).alloc (.cells #[.slice (some ⟨wz.heap.size, 0, none⟩) 2 2] 39)) := ((Below.refl _ _).alloc (Nat.le_refl _) _).alloc (by simp) _
              have hps := HWZ.out.2.push hbz hb4 hin hown' hgrow
              have HPS := Lib.hid hps
              have hb5 := HWZ.out.1.grow hb4 ((hro.alloc _).alloc _) (Nat.le_refl _) hgrow
              have HB5 := Lib.hid hb5
              clear hps hb5 hb4 hin hown' hgrow hro
              go_wp2
              go_roundw
              case rel =>
                refine ⟨k + 1, us2 ++ [.slice (some ⟨wz.heap.size, 0, none⟩) 2 2], by omega, by go_num, HB5.out, ?_⟩
                rw [rowB_yes HY.out]
                simpa only [List.map_append, List.map_cons, List.map_nil, List.append_assoc] using HPS.out
              case measure => simp [intOf]; omega
            · have HNO : Hid (blockB ls rs xs i k = false) := Lib.hid (by rw [HBB.out, decide_eq_false hq2, Bool.and_false])
              go_wp2
              go_quiet ((go_at_call 68; first | (with_reducible exact Calls.quiet_of_same (HP1.out _ (below_drewN HBR.out _))) | (with_reducible exact Calls.quiet_of_same (HP2.out _ (below_drewN HBR.out _)))))
              obtain ⟨wq, hwq⟩ : ∃ wq, wr.drewN nq = wq := ⟨_, rfl⟩
              have g1 : wq.cell? ⟨w.heap.size, 1, none⟩ = some (.slice (some ⟨b3, o3, none⟩) rs.length cap2) := by rw [← hwq]; exact y1
              have g2 : wq.cell? ⟨b3, o3 + k, none⟩ = some u3 := by rw [← hwq]; exact hcell3
              have g3 : wq.cell? ⟨W1.heap.size, k, none⟩ = some (.int .i64 bk) := by rw [← hwq]; exact hcell4
              have HBQ : Hid (Below w.heap.size w wq) := Lib.hid (by rw [← hwq]; exact below_drewN HBR.out nq)
              have HWQ : Hid (∃ p, wq = wr.drewN p) := Lib.hid ⟨nq, hwq.symm⟩
              rw [hwq]
              clear hwq hcell hcell2 hcell3 hcell4 y0 y1
              go_wp2
              go_quiet ((go_at_call 68; first | (with_reducible exact Calls.quiet_of_same (HP3.out _ (below_drewN HBQ.out _))) | (with_reducible exact Calls.quiet_of_same (HP4.out _ (below_drewN HBQ.out _)))))
              obtain ⟨wz, hwz⟩ : ∃ wz, wq.drewN nq = wz := ⟨_, rfl⟩
              have HWZ : Hid (BlkSt w wz L R (.slice (some ⟨W1.heap.size, 0, none⟩) xs.length xs.length) (backOf xs) ∧ OwnsRows wz w.heap.size wz.heap.size u5 us2 ((pairsB (blockB ls rs xs) xs.length i ++ rowB (blockB ls rs xs) i k).map prL)) := by
                obtain ⟨p, hp⟩ := HWQ.out
                rw [← hwz, hp]
                exact Lib.hid ⟨by simpa using HBW2.out.drewN (p + nq), by simpa using HR2.out.drewN (p + nq)⟩
              rw [hwz]
              clear hwz g1 g2 g3
              go_wp2
              go_roundw
              case rel => exact ⟨k + 1, us2, by omega, by go_num, HWZ.out.1, by rw [rowB_no HNO.out]; exact HWZ.out.2⟩
              case measure => simp [intOf]; omega
          · have HNO : Hid (blockB ls rs xs i k = false) := Lib.hid (by rw [HBB.out, decide_eq_false hq1, Bool.false_and])
            go_wp2
            go_quiet ((go_at_call 68; first | (with_reducible exact Calls.quiet_of_same (HP1.out _ (below_drewN HBR.out _))) | (with_reducible exact Calls.quiet_of_same (HP2.out _ (below_drewN HBR.out _)))))
            obtain ⟨wq, hwq⟩ : ∃ wq, wr.drewN nq = wq := ⟨_, rfl⟩
            have g1 : wq.cell? ⟨w.heap.size, 1, none⟩ = some (.slice (some ⟨b3, o3, none⟩) rs.length cap2) := by rw [← hwq]; exact y1
            have g2 : wq.cell? ⟨b3, o3 + k, none⟩ = some u3 := by rw [← hwq]; exact hcell3
            have g3 : wq.cell? ⟨W1.heap.size, k, none⟩ = some (.int .i64 bk) := by rw [← hwq]; exact hcell4
            have HBQ : Hid (Below w.heap.size w wq) := Lib.hid (by rw [← hwq]; exact below_drewN HBR.out nq)
            have HWQ : Hid (∃ p, wq = wr.drewN p) := Lib.hid ⟨nq, hwq.symm⟩
            rw [hwq]
            clear hwq hcell hcell2 hcell3 hcell4 y0 y1
            go_wp2
            go_quiet ((go_at_call 68; first | (with_reducible exact Calls.quiet_of_same (HP3.out _ (below_drewN HBQ.out _))) | (with_reducible exact Calls.quiet_of_same (HP4.out _ (below_drewN HBQ.out _)))))
            obtain ⟨wz, hwz⟩ : ∃ wz, wq.drewN nq = wz := ⟨_, rfl⟩
            have HWZ : Hid (BlkSt w wz L R (.slice (some ⟨W1.heap.size, 0, none⟩) xs.length xs.length) (backOf xs) ∧ OwnsRows wz w.heap.size wz.heap.size u5 us2 ((pairsB (blockB ls rs xs) xs.length i ++ rowB (blockB ls rs xs) i k).map prL)) := by
              obtain ⟨p, hp⟩ := HWQ.out
              rw [← hwz, hp]
              exact Lib.hid ⟨by simpa using HBW2.out.drewN (p + nq), by simpa using HR2.out.drewN (p + nq)⟩
            rw [hwz]
            clear hwz g1 g2 g3
            go_wp2
            go_roundw
            case rel => exact ⟨k + 1, us2, by omega, by go_num, HWZ.out.1, by rw [rowB_no HNO.out]; exact HWZ.out.2⟩
            case measure => simp [intOf]; omega
        · obtain rfl : k = xs.length := by omega
          go_wp2
          go_roundw
          case rel => exact ⟨i + 1, us2, by omega, by go_num, HBW2.out, HR2.out⟩
          case measure => simp [intOf]; omega
    · obtain rfl : i = xs.length := by omega
      obtain ⟨Ar, cr, rfl⟩ := owns_rows_slice HRS.out
      go_wp2
      go_ret
      exact ⟨_, _, us, rfl, HBW.out.bel, HRS.out⟩

end Go.Proofs.YtahilcnmjnjcaaaDoor
