/-
  (impl.market).settled: the pairing that is made by asking, round by round.
-/
import Derived.Test.YtahilcnmjnjcaaaDoorRank1
import Derived.Test.YtahilcnmjnjcaaaDoorWAC
import Derived.Test.YtahilcnmjnjcaaaDoorSide1
import Derived.Test.YtahilcnmjnjcaaaDoorSpecAsk
import Derived.Test.YtahilcnmjnjcaaaDoorCore1
import Derived.Test.YtahilcnmjnjcaaaDoorMktL
import Derived.Deep.RegionHeld3
import Derived.WalkMore
import Derived.Deep.LoopGhost
namespace Go.Proofs.YtahilcnmjnjcaaaDoor
set_option linter.unusedVariables false
set_option linter.unusedSimpArgs false
open Go.RowKit

def noTo (n k : Nat) : List Int := (List.range n).map fun i => if i < k then -1 else 0
theorem noTo_len (n k : Nat) : (noTo n k).length = n := by simp [noTo]
theorem noTo_set (n k : Nat) (h : k < n) : (noTo n k).set k (-1) = noTo n (k + 1) := by
  apply List.ext_getElem
  · simp [noTo]
  · intro i h1 h2
    simp only [noTo, List.getElem_set, List.getElem_map, List.getElem_range]
    by_cases e : k = i
    · subst e; simp
    · have : (i < k + 1) ↔ i < k := by omega
      simp [e, this]
theorem noTo_zero (n : Nat) : noTo n 0 = List.replicate n 0 := by
  apply List.ext_getElem
  · simp [noTo]
  · intro i h1 h2; simp [noTo]
theorem noTo_all (n : Nat) : noTo n n = List.replicate n (-1) := by
  apply List.ext_getElem
  · simp [noTo]
  · intro i h1 h2
    have : i < n := by simpa [noTo] using h1
    simp [noTo, this]

/-- What stands at the head of each round. -/
structure SetSt (W0 wr : World) (ls rs : List (List Int)) (gN gK t : Nat) (st : List Int × List Int) : Prop where
  bel : Below W0.heap.size W0 wr
  runs : Runs ls rs ls.length t st
  has : wr.ownsRow W0.heap.size 3 1 (.slice (some ⟨gK, 0, none⟩) ls.length ls.length) ls.length (vals st.2)
  next : wr.ownsRow W0.heap.size 3 1 (.slice (some ⟨gN, 0, none⟩) ls.length ls.length) ls.length (vals st.1)
  ne : gK ≠ gN
theorem set_meas {W0 wr : World} {ls rs : List (List Int)} {gN gK t : Nat} {st : List Int × List Int} (h : SetSt W0 wr ls rs gN gK t st) : askSum gN ls.length wr = t := by
  rw [askSum_eq h.next h.runs.gs.len1]
  have hn := nat_sum st.1 (fun x hx => by
    obtain ⟨i, hi, he⟩ := List.getElem_of_mem hx
    have := h.runs.gs.nn i
    have e : st.1.getD i 0 = x := by simp [List.getD, hi, he]
    rwa [e] at this)
  have hs := h.runs.sum
  omega
/-- Behind the counting of the asking. -/
structure SetMid (W0 W : World) (n gN gK : Nat) (xs ks : List Int) : Prop where
  bel : Below W0.heap.size W0 W
  has : W.ownsRow W0.heap.size 3 1 (.slice (some ⟨gK, 0, none⟩) n n) n (vals ks)
  next : W.ownsRow W0.heap.size 3 1 (.slice (some ⟨gN, 0, none⟩) n n) n (vals xs)
theorem SetMid.below {W0 W W' : World} {n gN gK : Nat} {xs ks : List Int} (h : SetMid W0 W n gN gK xs ks) (hb : Below W.heap.size W W') : SetMid W0 W' n gN gK xs ks := ⟨step_below h.bel hb, owns_below h.has hb, owns_below h.next hb⟩
theorem SetMid.count {W0 W : World} {n gN gK : Nat} {xs ks : List Int} (h : SetMid W0 W n gN gK xs ks) (hne : gK ≠ gN) (f : Nat) (v : Int) : SetMid W0 (W.setCell ⟨gN, f, none⟩ (.int .i64 v)) n gN gK (xs.set f v) ks := by
  have hg := (h.next.lt gN rfl).1
  have := (h.next.stored f (.int .i64 v)).1
  rw [vals_set] at this
  exact ⟨h.bel.setCell (p := ⟨gN, f, none⟩) hg _, h.has.kept (grown_setCell _ _ _ _) (.inr (fun e => hne (by simp [Value.ownBlock] at e; exact e))), this⟩
theorem SetMid.put {W0 W : World} {n gN gK : Nat} {xs ks : List Int} (h : SetMid W0 W n gN gK xs ks) (hne : gK ≠ gN) (k : Nat) (v : Int) : SetMid W0 (W.setCell ⟨gK, k, none⟩ (.int .i64 v)) n gN gK xs (ks.set k v) := by
  have hg := (h.has.lt gK rfl).1
  have := (h.has.stored k (.int .i64 v)).1
  rw [vals_set] at this
  exact ⟨h.bel.setCell (p := ⟨gK, k, none⟩) hg _, this, h.next.kept (grown_setCell _ _ _ _) (.inr (fun e => hne (by simp [Value.ownBlock] at e; exact e.symm)))⟩
theorem SetSt.mid {W0 wr : World} {ls rs : List (List Int)} {gN gK t : Nat} {st : List Int × List Int} (h : SetSt W0 wr ls rs gN gK t st) : SetMid W0 wr ls.length gN gK st.1 st.2 := ⟨h.bel, h.has, h.next⟩

/-- Whom a keeper keeps: as impl.answer tells it. -/
theorem answer_two {ls rs : List (List Int)} {n t : Nat} {st : List Int × List Int} (h1 : 1 ≤ n) (h5 : n ≤ 5) (hrl : rs.length = n) (hrs : ∀ l ∈ rs, rankB n l = true) (h : Runs ls rs n t st) {i k hn : Nat} (hi : i < n) (hk : k < n) (hf : freeB st.2 i = true) (hh : st.2.getD k (-1) = (hn : Int)) :
    ∃ (h0 : k < (rs.map backOf).length) (h2 : i < (rs.map backOf)[k].length) (h3 : hn < (rs.map backOf)[k].length), (if (rs.map backOf)[k][hn] < (rs.map backOf)[k][i] then (hn : Int) else (i : Int)) = answerL rs k i (hn : Int) := by
  have hkr : k < rs.length := by omega
  have hrk := hrs rs[k] (List.getElem_mem _)
  have el : (rs.map backOf)[k]'(by rw [List.length_map]; exact hkr) = backOf rs[k] := by simp
  have hbl : (backOf rs[k]).length = n := by rw [backOf_len]; exact (rank_parts hrk).1
  have hkm : k < st.2.length := by rw [h.gs.len2]; exact hk
  have hrg := h.gs.rng k
  rw [hh] at hrg
  have hhn : hn < n := by omega
  have hmem : (hn : Int) ∈ st.2 := by
    have e : st.2.getD k (-1) = st.2[k] := by simp [List.getD, hkm]
    rw [← hh, e]; exact List.getElem_mem _
  have hne : i ≠ hn := by
    intro e
    subst e
    unfold freeB at hf
    rw [List.contains_iff_mem.2 hmem] at hf
    cases hf
  refine ⟨by rw [List.length_map]; exact hkr, by rw [el]; omega, by rw [el]; omega, ?_⟩
  have g : ∀ c, c < n → ∀ (hc : c < (backOf rs[k]).length), (backOf rs[k])[c] = (place rs[k] (c : Int) : Int) := fun c hc hc2 => by
    have := back_place h1 h5 hrk hc
    rwa [List.getD_eq_getElem?_getD, List.getElem?_eq_getElem hc2, Option.getD_some] at this
  simp only [el]
  rw [g hn hhn (by omega), g i hi (by omega)]
  have hpl : place rs[k] (i : Int) ≠ place rs[k] (hn : Int) := fun e => hne (by have := place_inj h1 h5 hrk (c := (i : Int)) (d := (hn : Int)) (by omega) (by omega) e; omega)
  have erk : rs.getD k [] = rs[k] := by rw [List.getD_eq_getElem?_getD, List.getElem?_eq_getElem hkr]; rfl
  unfold answerL placeL
  rw [erk, if_neg (show ¬ ((hn : Int) < 0) by omega)]
  by_cases hc : place rs[k] (i : Int) < place rs[k] (hn : Int)
  · rw [if_pos hc, if_neg (show ¬ ((place rs[k] (hn : Int) : Nat) : Int) < ((place rs[k] (i : Int) : Nat) : Int) by omega)]
  · rw [if_neg hc, if_pos (show ((place rs[k] (hn : Int) : Nat) : Int) < ((place rs[k] (i : Int) : Nat) : Int) by omega)]

set_option maxRecDepth 100000 in
set_option maxHeartbeats 4000000 in
theorem settled_any (w : World) (a1 a2 a3 a4 : Value) (ls rs : List (List Int)) (h1 : 1 ≤ ls.length) (h5 : ls.length ≤ 5) (hrl : rs.length = ls.length) (hls : ∀ l ∈ ls, rankB ls.length l = true) (hrs : ∀ l ∈ rs, rankB ls.length l = true)
    (hA : IntRows w a1 ls) (hD : IntRows w a4 (rs.map backOf)) (hs2 : IsSl a2) (hs3 : IsSl a3) :
    Calls Tryd.prog 60 #[.agg (four a1 a2 a3 a4)] w fun e w' => ∃ y, e = .returned y ∧ Below w.heap.size w w' ∧ Owns w' w.heap.size y (backOf (settledK ls rs ls.length)) := by
  obtain ⟨A1, cap1, rfl, -, -⟩ := hA.at
  obtain ⟨A2, n2, c2, rfl⟩ := hs2
  obtain ⟨A3, n3, c3, rfl⟩ := hs3
  obtain ⟨A4, cap4, rfl, -, -⟩ := hD.at
  have hmkS := fun W => run_make_row' (P := Tryd.prog) 39 3 (.int .i64 0) 8 Tryd.underlying39 infoOrder rfl .i64 .i64 ls.length (by omega) (by omega) W
  have hmkO := fun W => run_make_row' (P := Tryd.prog) 66 3 (.int .i64 0) 8 Tryd.underlying66 infoOrder rfl .i64 .i64 ls.length (by omega) (by omega) W
  have HF := Lib.hid (And.intro h1 (And.intro h5 (And.intro hrl (And.intro hls hrs))))
  obtain ⟨m, hm⟩ : ∃ m, rs.map backOf = m := ⟨_, rfl⟩
  obtain ⟨W0, hW0⟩ : ∃ W0, w.alloc (.cells (four (.slice A1 ls.length cap1) (.slice A2 n2 c2) (.slice A3 n3 c3) (.slice A4 (rs.map backOf).length cap4)) 60) = W0 := ⟨_, rfl⟩
  have hb0 : Below w.heap.size w W0 := by rw [← hW0]; exact (Below.refl _ _).alloc (Nat.le_refl _) _
  have hbox : W0.heap[w.heap.size]? = some (.cells (four (.slice A1 ls.length cap1) (.slice A2 n2 c2) (.slice A3 n3 c3) (.slice A4 (rs.map backOf).length cap4)) 60 (0, 0)) := by rw [← hW0]; exact World.alloc_heap_new _ _
  have hsz0 : W0.heap.size = w.heap.size + 1 := by rw [← hW0]; simp
  have HA := Lib.hid (hA.below hb0)
  have HD := Lib.hid (hD.below hb0)
  rw [hm] at HD hbox hW0 ⊢
  have HM := Lib.hid hm
  have HB0 := Lib.hid (And.intro hb0 hsz0)
  have HBOX := Lib.hid hbox
  clear hA hD hls hrs hrl hb0 hm hsz0
  go_enter Tryd.func60, Tryd.ntmps60
  go_wp2
  go_step3
  go_wp2_with (refine load_mkt rfl _ rfl w.heap.size (.slice A1 ls.length cap1) (.slice A2 n2 c2) (.slice A3 n3 c3) (.slice A4 m.length cap4) rfl hbox ?_)
  clear hW0
  refine (count_any W0 A1 ls.length cap1 _ _ _).mono ?_
  rintro e w1 ⟨rfl, hb1⟩
  have hbox1 := kept_obj hb1 hbox
  clear hbox
  have hs1 := hb1.size
  obtain ⟨w2, hw2⟩ : ∃ w2, w1.alloc (.cells (madeCells #[Value.int .i64 0] ls.length) 3) = w2 := ⟨_, rfl⟩
  have hb2 : Below w1.heap.size w1 w2 := by rw [← hw2]; exact (Below.refl _ _).alloc (Nat.le_refl _) _
  have hn2 : w2.ownsRow W0.heap.size 3 1 (.slice (some ⟨w1.heap.size, 0, none⟩) ls.length ls.length) ls.length (vals (List.replicate ls.length 0)) := by
    rw [← hw2]
    have := World.ownsRow_lit (base := W0.heap.size) (e := 3) (size := 1) w1 (madeCells #[Value.int .i64 0] ls.length) ls.length hs1 (by unfold maxLen; omega) (by simp [madeCells])
    rw [toList_madeCells_one] at this
    simpa [vals] using this
  have hbox2 := kept_obj hb2 hbox1
  clear hbox1
  have HB2 := Lib.hid (And.intro (step_below hb1 hb2) hn2)
  have hs2 : w2.heap.size = w1.heap.size + 1 := by rw [← hw2]; simp
  have HS2 := Lib.hid hs2
  clear hb1 hb2 hn2 hs2
  go_wp2_with (first
    | (refine load_mkt rfl _ rfl w.heap.size (.slice A1 ls.length cap1) (.slice A2 n2 c2) (.slice A3 n3 c3) (.slice A4 m.length cap4) rfl hbox2 ?_))
  clear hw2
  refine (count_any w2 A1 ls.length cap1 _ _ _).mono ?_
  rintro e w3 ⟨rfl, hb3⟩
  have hbox3 := kept_obj hb3 hbox2
  clear hbox2
  obtain ⟨gN, hgN⟩ : ∃ gN, w1.heap.size = gN := ⟨_, rfl⟩
  rw [hgN] at HB2 HS2 ⊢
  have hs3 := hb3.size
  have HN3 := Lib.hid (owns_below HB2.out.2 hb3)
  have HB3 := Lib.hid (step_below HB2.out.1 hb3)
  obtain ⟨W4, hW4⟩ : ∃ W4, w3.alloc (.cells (madeCells #[Value.int .i64 0] ls.length) 3) = W4 := ⟨_, rfl⟩
  have hb4 : Below w3.heap.size w3 W4 := by rw [← hW4]; exact (Below.refl _ _).alloc (Nat.le_refl _) _
  have hk4 : W4.ownsRow W0.heap.size 3 1 (.slice (some ⟨w3.heap.size, 0, none⟩) ls.length ls.length) ls.length (vals (noTo ls.length 0)) := by
    rw [← hW4, noTo_zero]
    have := World.ownsRow_lit (base := W0.heap.size) (e := 3) (size := 1) w3 (madeCells #[Value.int .i64 0] ls.length) ls.length HB3.out.size (by unfold maxLen; omega) (by simp [madeCells])
    rw [toList_madeCells_one] at this
    simpa [vals] using this
  have hne : w3.heap.size ≠ gN := by have := HS2.out; omega
  have HK4 := Lib.hid (And.intro (And.intro (step_below HB3.out hb4) (And.intro hk4 (owns_below HN3.out hb4))) (And.intro hne (kept_obj hb4 hbox3)))
  clear hb3 hb4 hk4 hne hbox3 hs3 hs1 hgN
  obtain ⟨gK, hgK⟩ : ∃ gK, w3.heap.size = gK := ⟨_, rfl⟩
  rw [hgK] at HK4
  go_wp2
  go_loopw [5, 16] (fun _ iv wr => ∃ k : Nat, k ≤ ls.length ∧ iv = .int .i64 k ∧ Below W0.heap.size W0 wr ∧ wr.ownsRow W0.heap.size 3 1 (.slice (some ⟨gK, 0, none⟩) ls.length ls.length) ls.length (vals (noTo ls.length k)) ∧
      wr.ownsRow W0.heap.size 3 1 (.slice (some ⟨gN, 0, none⟩) ls.length ls.length) ls.length (vals (List.replicate ls.length 0)) ∧ wr.heap[w.heap.size]? = some (.cells (four (.slice A1 ls.length cap1) (.slice A2 n2 c2) (.slice A3 n3 c3) (.slice A4 m.length cap4)) 60 (0, 0))) (fun _ iv _ => ls.length - (intOf iv).toNat)
  case atStart => exact ⟨0, by omega, rfl, HK4.out.1.1, HK4.out.1.2.1, HK4.out.1.2.2, HK4.out.2.2⟩
  case round =>
    clear hmkS hmkO
    obtain ⟨k, hk, rfl, hb, ho, hn, hbx⟩ := hrel
    by_cases hlt : k < ls.length
    · have hki : (k : Int) < (ls.length : Int) := by omega
      have hk0 : (0 : Int) ≤ (k : Int) := by omega
      have hf := ho.frozenAt k
      obtain ⟨v0, hx0⟩ : ∃ v0, wr.cell? ⟨gK, k, none⟩ = some v0 := by
        rw [ho.cellAt k (by omega), List.getElem?_eq_getElem (by simp [vals, noTo_len]; omega)]; exact ⟨_, rfl⟩
      have hst := (ho.stored k (.int .i64 (-1))).1
      rw [vals_set, noTo_set _ _ hlt] at hst
      have hg := (ho.lt gK rfl).1
      have hg1 := HB0.out.2
      have hn1 := hn.kept (grown_setCell wr gK k (.int .i64 (-1))) (.inr (fun e => HK4.out.2.1 (by simp [Value.ownBlock] at e; exact e.symm)))
      have hbx1 : (wr.setCell ⟨gK, k, none⟩ (.int .i64 (-1))).heap[w.heap.size]? = some (.cells (four (.slice A1 ls.length cap1) (.slice A2 n2 c2) (.slice A3 n3 c3) (.slice A4 m.length cap4)) 60 (0, 0)) := by
        rw [heap_setCell_other _ _ _ _ (by show w.heap.size ≠ gK; omega)]
        exact hbx
      have HX := Lib.hid (And.intro (hb.setCell (p := ⟨gK, k, none⟩) hg (.int .i64 (-1))) (And.intro hst (And.intro hn1 hbx1)))
      clear hb ho hn hbx hst hg hg1 hn1 hbx1
      go_wp2
      go_roundw
      case rel => exact ⟨k + 1, by omega, by go_num, HX.out⟩
      case measure => simp [intOf]; omega
    · obtain rfl : k = ls.length := by omega
      rw [noTo_all] at ho
      have HST : Hid (SetSt W0 wr ls rs gN gK 0 (List.replicate ls.length 0, List.replicate ls.length (-1))) := Lib.hid ⟨hb, runs_start ls rs ls.length, ho, hn, HK4.out.2.1⟩
      have HBX := Lib.hid hbx
      clear hb ho hn hbx
      go_wp2
      go_step3
      go_wp2
      go_loopg [] (ls.length * ls.length) (fun g wx => ∃ (t : Nat) (st : List Int × List Int), t + g = ls.length * ls.length ∧ SetSt W0 wx ls rs gN gK t st ∧ wx.heap[w.heap.size]? = some (.cells (four (.slice A1 ls.length cap1) (.slice A2 n2 c2) (.slice A3 n3 c3) (.slice A4 m.length cap4)) 60 (0, 0)))
      case atStart => exact ⟨0, _, by omega, HST.out, HBX.out⟩
      case round =>
        clear HST HBX
        obtain ⟨t, st, htg, hst, hbx⟩ := hrel
        obtain ⟨g, hgg⟩ : ∃ g, g = gk := ⟨_, rfl⟩
        subst hgg
        have hr1 := ranks_of (ls := ls) HF.out.1 HF.out.2.1 rfl HF.out.2.2.2.1
        have HS := Lib.hid (And.intro hst (And.intro hr1 hbx))
        have HL1 := Lib.hid hst.runs.gs.len1
        have HL2 := Lib.hid hst.runs.gs.len2
        have HTG := Lib.hid htg
        clear hst hr1 hbx htg
        go_wp2
        go_loopg [25] ls.length (fun g2 iv wq => ∃ i : Nat, i + g2 = ls.length ∧ iv = .int .i64 i ∧ wq = wr ∧ ∀ j, j < i → freeB st.2 j = false)
        case atStart => exact ⟨0, by omega, rfl, rfl, fun j hj => by omega⟩
        case round =>
          obtain ⟨i, hi, rfl, hwq, hno⟩ := hrel
          have hwq2 := hwq.symm
          clear hwq
          subst hwq2
          have HNO := Lib.hid hno
          clear hno
          cases gk with
          | zero =>
            obtain rfl : i = ls.length := by omega
            have hlt : ¬ (ls.length : Int) < (ls.length : Int) := by omega
            have hfn := free_no HNO.out
            have HE := Lib.hid (runs_end HS.out.1.runs hfn)
            have HRK := Lib.hid (stuck_rank HS.out.1.runs.gs hfn)
            have ho : Owns wr W0.heap.size (.slice (some ⟨gK, 0, none⟩) ls.length ls.length) st.2 := by have hq := HS.out.1.has; unfold Owns; rw [HL2.out]; exact hq
            have htu := turned_any wr (.slice (some ⟨gK, 0, none⟩) ls.length ls.length) st.2 (ints_of_owns ho) (by have := HL2.out; omega) (fun x hx => by have := (rank_parts HRK.out).2.1 x hx; have := HL2.out; omega)
            have HTU := Lib.hid htu
            clear hfn ho htu
            go_wp2_with (go_at_call 64; refine HTU.out.mono ?_; rintro e w9 ⟨rfl, hb9, ho9⟩)
            try rw [Exit.noGoto_ret]
            go_ret
            rw [← HE.out]
            exact ⟨_, rfl, step_below HB0.out.1 (step_below HS.out.1.bel hb9), owns_mono ho9 (Nat.le_trans HB0.out.1.size HS.out.1.bel.size)⟩
          | succ g2 =>
            have hlt : (i : Int) < (ls.length : Int) := by omega
            have hin : i < ls.length := by omega
            have ho : Owns wr W0.heap.size (.slice (some ⟨gK, 0, none⟩) ls.length ls.length) st.2 := by have hq := HS.out.1.has; unfold Owns; rw [HL2.out]; exact hq
            have hct := contains_any wr (.slice (some ⟨gK, 0, none⟩) ls.length ls.length) st.2 (i : Int) (ints_of_owns ho)
            clear ho
            cases hfb : freeB st.2 i with
            | false =>
              have hc : st.2.contains (i : Int) = true := by unfold freeB at hfb; simpa using hfb
              rw [hc] at hct
              have HCT := Lib.hid hct
              have HFB := Lib.hid hfb
              clear hct hc hfb
              go_wp2_with (go_at_call 80; refine HCT.out.mono ?_; rintro e w' ⟨rfl, rfl⟩)
              go_roundg g2
              case measure => omega
              case rel =>
                refine ⟨i + 1, by omega, by go_num, rfl, fun j hj => ?_⟩
                by_cases e : j = i
                · subst e; exact HFB.out
                · exact HNO.out j (by omega)
            | true =>
              have hc : st.2.contains (i : Int) = false := by unfold freeB at hfb; simpa using hfb
              rw [hc] at hct
              have HCT := Lib.hid hct
              have HFB := Lib.hid hfb
              clear hct hc hfb
              have HFF := Lib.hid (free_first hin HFB.out HNO.out)
              obtain ⟨hgl, hkl, hgs⟩ := gs_step HS.out.2.1 HS.out.1.runs.gs hin HFB.out
              have hstep := runs_step HS.out.2.1 HS.out.1.runs HFF.out
              have hmore := runs_more HS.out.2.1 HS.out.1.runs HFF.out
              obtain ⟨j, hj⟩ : ∃ j : Nat, st.1.getD i 0 = (j : Int) := ⟨(st.1.getD i 0).toNat, by have := HS.out.1.runs.gs.nn i; omega⟩
              unfold askStep at hstep
              rw [hj, Int.toNat_natCast] at hgl hkl hstep
              obtain ⟨k, hk⟩ : ∃ k, wishL ls i j = k := ⟨_, rfl⟩
              rw [hk] at hkl hstep
              obtain ⟨h, hh⟩ : ∃ h, st.2.getD k (-1) = h := ⟨_, rfl⟩
              rw [hh] at hstep
              have hrow := rank_parts (HF.out.2.2.2.1 ls[i] (List.getElem_mem _))
              have hjl : j < ls[i].length := by have := hrow.1; omega
              have hw : ls[i][j] = (k : Int) := by
                have hin2 := hrow.2.1 ls[i][j] (List.getElem_mem _)
                unfold wishL at hk
                have e1 : ls.getD i [] = ls[i] := by simp [List.getD, hin]
                rw [e1] at hk
                have e2 : ls[i].getD j 0 = ls[i][j] := by simp [List.getD, hjl]
                rw [e2] at hk
                omega
              have hbel := HS.out.1.bel
              have HWI := Lib.hid (wish_q wr.drew (.slice A1 ls.length cap1) (.slice A2 n2 c2) ls ((HA.out.below hbel).drewN 1) i j hin hjl (k : Int) hw)
              have hi1 : i < st.1.length := by have := HL1.out; omega
              have hk2 : k < st.2.length := by have := HL2.out; omega
              have hN : wr.cell? ⟨gN, i, none⟩ = some (.int .i64 (j : Int)) := by
                rw [HS.out.1.next.cellAt i (by omega), ← hj]; simp [vals, List.getD, hi1]
              have hN' : wr.drew.cell? ⟨gN, i, none⟩ = some (.int .i64 (j : Int)) := hN
              obtain ⟨y0, y1, y2, y3, -⟩ := four_cells (w := wr.drew) HS.out.2.2
              have hfi0 : (0 : Int) ≤ (i : Int) := by omega
              have hji : (j : Int) < (ls.length : Int) := by omega
              have hj0 : (0 : Int) ≤ (j : Int) := by omega
              have hki : (k : Int) < (ls.length : Int) := by omega
              have hk0 : (0 : Int) ≤ (k : Int) := by omega
              have HH := Lib.hid (And.intro hh (And.intro hstep (And.intro hmore (And.intro hk2 (And.intro hi1 (And.intro hj hkl))))))
              have HN := Lib.hid hN
              have HCEL := Lib.hid (fun (w3 : World) (hb3 : Below wr.drew.heap.size wr.drew w3) => show w3.cell? ⟨w.heap.size, 0, none⟩ = some (.slice A1 ls.length cap1) ∧ w3.cell? ⟨w.heap.size, 1, none⟩ = some (.slice A2 n2 c2) ∧ w3.cell? ⟨gN, i, none⟩ = some (.int .i64 (j : Int)) from by
                obtain ⟨t0, t1, -, -, -⟩ := four_cells (kept_obj (below_undrew hb3) HS.out.2.2)
                exact ⟨t0, t1, ((below_undrew hb3).cell (p := ⟨gN, i, none⟩) (World.block_lt_of_cell? wr _ HN.out)).trans HN.out⟩)
              clear hgl hgs hstep hmore hh hk hrow hjl hw hbel hi1 hk2 hj hN hkl
              go_wp2_with (go_at_call 80; refine HCT.out.mono ?_; rintro e w' ⟨rfl, rfl⟩)
              apply once_zero (fun (w' : World) => Below wr.heap.size wr w')
              case h1 =>
                go_region_held3 (fun w' => w'.cell? ⟨w.heap.size, 0, none⟩ = some (.slice A1 ls.length cap1) ∧ w'.cell? ⟨w.heap.size, 1, none⟩ = some (.slice A2 n2 c2) ∧ w'.cell? ⟨gN, i, none⟩ = some (.int .i64 (j : Int)))
                  (first | exact ⟨y0, y1, hN'⟩ | exact HCEL.out w3 hb3)
                  (first | (go_at_call 81; refine HWI.out.mono ?_; rintro e w3 ⟨rfl, hb3⟩))
                all_goals exact ⟨below_undrew hb3, rfl⟩
              intro w3 hb3
              clear y0 y1 y2 y3 hN' HWI HCEL
              have hN3 : w3.cell? ⟨gN, i, none⟩ = some (.int .i64 (j : Int)) := (hb3.cell (p := ⟨gN, i, none⟩) (World.block_lt_of_cell? wr _ HN.out)).trans HN.out
              have hmid := HS.out.1.mid.below hb3
              have hNf := hmid.next.frozenAt i
              have hbx3 := kept_obj hb3 HS.out.2.2
              have HM3 := Lib.hid (And.intro hmid hbx3)
              clear hb3 hmid hbx3 HN
              go_wp2
              clear hN3 hNf
              obtain ⟨W6, hW6⟩ : ∃ W6, w3.setCell ⟨gN, i, none⟩ (.int .i64 ((j : Int) + 1)) = W6 := ⟨_, rfl⟩
              obtain ⟨hh, hstep, hmore, hk2, hi1, hj, hkl⟩ := HH.out
              have hmid6 : SetMid W0 W6 ls.length gN gK (st.1.set i ((j : Int) + 1)) st.2 := by rw [← hW6]; exact HM3.out.1.count HK4.out.2.1 i ((j : Int) + 1)
              have hgN0 := (hmid6.next.lt gN rfl).1
              have hgK0 := (hmid6.has.lt gK rfl).1
              have hsz0 := HB0.out.2
              have hbx6 : W6.heap[w.heap.size]? = some (.cells (four (.slice A1 ls.length cap1) (.slice A2 n2 c2) (.slice A3 n3 c3) (.slice A4 m.length cap4)) 60 (0, 0)) := by
                rw [← hW6, heap_setCell_other _ _ _ _ (by show w.heap.size ≠ gN; omega)]
                exact HM3.out.2
              rw [hW6]
              clear hW6
              have hH6 : W6.cell? ⟨gK, k, none⟩ = some (.int .i64 h) := by
                rw [hmid6.has.cellAt k (by omega), ← hh]; simp [vals, List.getD, hk2]
              have hH6' : W6.drew.cell? ⟨gK, k, none⟩ = some (.int .i64 h) := hH6
              obtain ⟨z, hz⟩ : ∃ z, answerL rs k i h = z := ⟨_, rfl⟩
              have hD6 : IntRows W6.drew (.slice A4 m.length cap4) m := (HD.out.below hmid6.bel).drewN 1
              have hrg := HS.out.1.runs.gs.rng k
              rw [hh] at hrg
              have han : Calls Tryd.prog 82 #[.agg (two (.slice A3 n3 c3) (.slice A4 m.length cap4)), .int .i64 (k : Int), .int .i64 (i : Int), .int .i64 h] W6.drew fun e w' => e = .returned (.int .i64 z) ∧ Below W6.drew.heap.size W6.drew w' := by
                by_cases hneg : h = -1
                · have e : answerL rs k i h = (i : Int) := by unfold answerL; rw [if_pos (by omega)]
                  rw [e] at hz
                  subst hz
                  subst hneg
                  exact answer_none W6.drew _ _ (i : Int) k
                · obtain ⟨hn, rfl⟩ : ∃ hn : Nat, h = (hn : Int) := ⟨h.toNat, by omega⟩
                  obtain ⟨q1, q2, q3, hq⟩ := answer_two (k := k) (i := i) HF.out.1 HF.out.2.1 HF.out.2.2.1 HF.out.2.2.2.2 HS.out.1.runs hin hkl HFB.out hh
                  rw [hz] at hq
                  have hm2 := HM.out
                  subst hm2
                  exact answer_some W6.drew _ _ (rs.map backOf) hD6 k i hn q1 q2 q3 z hq
              have HAN := Lib.hid han
              obtain ⟨y0, y1, y2, y3, -⟩ := four_cells (w := W6.drew) hbx6
              have HEND := Lib.hid (fun (w7 : World) (hb7 : Below W6.drew.heap.size W6.drew w7) => show SetMid W0 (w7.setCell ⟨gK, k, none⟩ (.int .i64 z)) ls.length gN gK (st.1.set i ((j : Int) + 1)) (st.2.set k z) ∧ (w7.setCell ⟨gK, k, none⟩ (.int .i64 z)).heap[w.heap.size]? = some (.cells (four (.slice A1 ls.length cap1) (.slice A2 n2 c2) (.slice A3 n3 c3) (.slice A4 m.length cap4)) 60 (0, 0)) from by
                have hb := below_undrew hb7
                refine ⟨(hmid6.below hb).put HK4.out.2.1 k z, ?_⟩
                rw [heap_setCell_other _ _ _ _ (by show w.heap.size ≠ gK; omega)]
                exact kept_obj hb hbx6)
              have HAFT := Lib.hid (fun (w7 : World) (hb7 : Below W6.drew.heap.size W6.drew w7) => show w7.frozen? ⟨gK, k, none⟩ = false ∧ w7.cell? ⟨gK, k, none⟩ = some (.int .i64 h) from by
                have hb := below_undrew hb7
                exact ⟨(hmid6.below hb).has.frozenAt k, (hb.cell (p := ⟨gK, k, none⟩) (World.block_lt_of_cell? W6 _ hH6)).trans hH6⟩)
              have HSTEP := Lib.hid (And.intro hstep (And.intro hmore hz))
              clear hmid6 hbx6 hH6 hD6 han hrg hh hstep hmore hk2 hi1 hj hkl hz hgN0 hgK0 hsz0
              apply once_zero (fun (w' : World) => SetMid W0 w' ls.length gN gK (st.1.set i ((j : Int) + 1)) (st.2.set k z) ∧ w'.heap[w.heap.size]? = some (.cells (four (.slice A1 ls.length cap1) (.slice A2 n2 c2) (.slice A3 n3 c3) (.slice A4 m.length cap4)) 60 (0, 0)))
              case h1 =>
                go_region_law (first | (go_simp; go_at_call 82; refine HAN.out.mono ?_; rintro e w7 ⟨rfl, hb7⟩; obtain ⟨hf7, hc7⟩ := HAFT.out w7 hb7))
                all_goals exact ⟨HEND.out w7 hb7, rfl⟩
              rintro w8 ⟨hm8, hbx8⟩
              have hr := HSTEP.out.1
              rw [HSTEP.out.2.2] at hr
              have HNEW : Hid (SetSt W0 w8 ls rs gN gK (t + 1) (st.1.set i ((j : Int) + 1), st.2.set k z) ∧ w8.heap[w.heap.size]? = some (.cells (four (.slice A1 ls.length cap1) (.slice A2 n2 c2) (.slice A3 n3 c3) (.slice A4 m.length cap4)) 60 (0, 0))) := Lib.hid ⟨⟨hm8.bel, hr, hm8.has, hm8.next, HK4.out.2.1⟩, hbx8⟩
              clear hr hm8 hbx8 y0 y1 y2 y3 hH6'
              have hmore := HSTEP.out.2.1
              have htg := HTG.out
              go_wp2
              go_roundg (g - 1)
              case measure => omega
              case rel => exact ⟨t + 1, _, by omega, HNEW.out.1, HNEW.out.2⟩

end Go.Proofs.YtahilcnmjnjcaaaDoor
