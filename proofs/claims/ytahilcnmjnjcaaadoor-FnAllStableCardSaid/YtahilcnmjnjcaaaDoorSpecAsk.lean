/-
  spec.l6mAsk: one side asks the other.
-/
import Derived.Test.YtahilcnmjnjcaaaDoorSet1
import Derived.Test.YtahilcnmjnjcaaaDoorRank1
import Derived.Test.YtahilcnmjnjcaaaDoorCore1
import Derived.Deep.QuietTactic
import Derived.Deep.AppendLies
import Derived.BigQuiet
namespace Go.Proofs.YtahilcnmjnjcaaaDoor
set_option linter.unusedVariables false
set_option linter.unusedSimpArgs false
open Go.RowKit

/-- How often all have asked, read off the memory. -/
def askSum (g n : Nat) (w : World) : Nat := ((List.range n).map fun j => match w.cell? ⟨g, j, none⟩ with | some v => (intOf v).toNat | none => 0).sum
theorem nat_sum : ∀ (xs : List Int), (∀ x ∈ xs, 0 ≤ x) → ((xs.map Int.toNat).sum : Int) = xs.sum
  | [], _ => rfl
  | x :: t, h => by
    have h0 := h x (by simp)
    have ht := nat_sum t (fun y hy => h y (by simp [hy]))
    simp only [List.map_cons, List.sum_cons]
    omega
theorem askSum_eq {w : World} {b g n cap : Nat} {xs : List Int} (h : w.ownsRow b 3 1 (.slice (some ⟨g, 0, none⟩) n cap) n (vals xs)) (hl : xs.length = n) : askSum g n w = (xs.map Int.toNat).sum := by
  unfold askSum
  congr 1
  refine List.ext_getElem (by simp [hl]) fun j h1 h2 => ?_
  have hj : j < xs.length := by simpa using h2
  have hc := h.cellAt j (by omega)
  simp only [List.getElem_map, List.getElem_range]
  rw [hc]
  simp [vals, hj, intOf]

def freeTo (ks : List Int) (i k : Nat) : Bool := (List.range k).all (fun j => decide (ks.getD j (-1) ≠ (i : Int)))
theorem freeTo_zero (ks : List Int) (i : Nat) : freeTo ks i 0 = true := rfl
theorem freeTo_succ (ks : List Int) (i k : Nat) : freeTo ks i (k + 1) = (freeTo ks i k && decide (ks.getD k (-1) ≠ (i : Int))) := by
  unfold freeTo; rw [List.range_succ, List.all_append]; simp
theorem freeTo_all (ks : List Int) (i : Nat) : freeTo ks i ks.length = freeB ks i := by
  unfold freeTo freeB
  rw [Bool.eq_iff_iff, List.all_eq_true]
  constructor
  · intro h
    rw [Bool.not_eq_true', ← Bool.not_eq_true, List.contains_iff_mem]
    intro hm
    obtain ⟨j, hj, he⟩ := List.getElem_of_mem hm
    have := h j (List.mem_range.2 hj)
    rw [decide_eq_true_iff] at this
    exact this (by simp [List.getD, hj, he])
  · intro h j hj
    rw [List.mem_range] at hj
    rw [decide_eq_true_iff]
    intro he
    rw [Bool.not_eq_true', ← Bool.not_eq_true, List.contains_iff_mem] at h
    refine h ?_
    have e : ks.getD j (-1) = ks[j] := by simp [List.getD, hj]
    rw [← he, e]
    exact List.getElem_mem _

/-- What stands at the head of each round. -/
structure AskSt (w wr : World) (ls rs : List (List Int)) (g cap t : Nat) (st : List Int × List Int) : Prop where
  bel : Below w.heap.size w wr
  runs : Runs ls rs ls.length t st
  has : wr.ownsRow w.heap.size 3 1 (.slice (some ⟨g, 0, none⟩) ls.length cap) ls.length (vals st.2)
  next : wr.ownsRow w.heap.size 3 1 (.slice (some ⟨w.heap.size + 1, 0, none⟩) ls.length ls.length) ls.length (vals st.1)
  ne : g ≠ w.heap.size + 1

theorem ask_meas {w wr : World} {ls rs : List (List Int)} {g cap t : Nat} {st : List Int × List Int} (h : AskSt w wr ls rs g cap t st) : askSum (w.heap.size + 1) ls.length wr = t := by
  rw [askSum_eq h.next h.runs.gs.len1]
  have hn := nat_sum st.1 (fun x hx => by
    obtain ⟨i, hi, he⟩ := List.getElem_of_mem hx
    have := h.runs.gs.nn i
    have e : st.1.getD i 0 = x := by simp [List.getD, hi, he]
    rwa [e] at this)
  have hs := h.runs.sum
  omega
theorem vals_set (xs : List Int) (i : Nat) (v : Int) : (vals xs).set i (.int .i64 v) = vals (xs.set i v) := by simp [vals, List.map_set]
theorem set_self (xs : List Int) (k : Nat) (d : Int) (hk : k < xs.length) : xs.set k (xs.getD k d) = xs := by
  have e : xs.getD k d = xs[k] := by simp [List.getD, hk]
  rw [e]; exact List.set_getElem_self hk

/-- Behind the counting of the asking. -/
structure AskMid (w W : World) (ls : List (List Int)) (g cap : Nat) (xs ks : List Int) : Prop where
  bel : Below w.heap.size w W
  has : W.ownsRow w.heap.size 3 1 (.slice (some ⟨g, 0, none⟩) ls.length cap) ls.length (vals ks)
  next : W.ownsRow w.heap.size 3 1 (.slice (some ⟨w.heap.size + 1, 0, none⟩) ls.length ls.length) ls.length (vals xs)
theorem AskMid.drewN {w W : World} {ls : List (List Int)} {g cap : Nat} {xs ks : List Int} (h : AskMid w W ls g cap xs ks) (q : Nat) : AskMid w (W.drewN q) ls g cap xs ks := ⟨below_drewN h.bel q, h.has, h.next⟩
theorem ask_mid {w wr : World} {ls rs : List (List Int)} {g cap t : Nat} {st : List Int × List Int} (h : AskSt w wr ls rs g cap t st) (q f : Nat) (v : Int) : AskMid w ((wr.drewN q).setCell ⟨w.heap.size + 1, f, none⟩ (.int .i64 v)) ls g cap (st.1.set f v) st.2 := by
  have hn : (wr.drewN q).ownsRow w.heap.size 3 1 (.slice (some ⟨w.heap.size + 1, 0, none⟩) ls.length ls.length) ls.length (vals st.1) := h.next
  have hh : (wr.drewN q).ownsRow w.heap.size 3 1 (.slice (some ⟨g, 0, none⟩) ls.length cap) ls.length (vals st.2) := h.has
  refine ⟨(below_drewN h.bel q).setCell (p := ⟨w.heap.size + 1, f, none⟩) (by show w.heap.size ≤ w.heap.size + 1; omega) _, hh.kept (grown_setCell _ _ _ _) (.inr (fun e => h.ne (by simp [Value.ownBlock] at e; exact e))), ?_⟩
  have := (hn.stored f (.int .i64 v)).1
  rwa [vals_set] at this
theorem ask_put {w W : World} {ls : List (List Int)} {g cap : Nat} {xs ks : List Int} (h : AskMid w W ls g cap xs ks) (hne : g ≠ w.heap.size + 1) (k : Nat) (v : Int) : AskMid w (W.setCell ⟨g, k, none⟩ (.int .i64 v)) ls g cap xs (ks.set k v) := by
  have hg := (h.has.lt g rfl).1
  have := (h.has.stored k (.int .i64 v)).1
  rw [vals_set] at this
  exact ⟨h.bel.setCell (p := ⟨g, k, none⟩) hg _, this, h.next.kept (grown_setCell _ _ _ _) (.inr (fun e => hne (by simp [Value.ownBlock] at e; exact e.symm)))⟩

set_option maxRecDepth 100000 in
set_option maxHeartbeats 4000000 in
theorem l6mAsk_any (w : World) (L R : Value) (ls rs : List (List Int)) (h1 : 1 ≤ ls.length) (h5 : ls.length ≤ 5) (hrl : rs.length = ls.length) (hls : ∀ l ∈ ls, rankB ls.length l = true) (hrs : ∀ l ∈ rs, rankB ls.length l = true) (hL : IntRows w L ls) (hR : IntRows w R rs) :
    Calls Tryd.prog 61 #[L, R] w fun e w' => ∃ y, e = .returned y ∧ Below w.heap.size w w' ∧ Owns w' w.heap.size y (backOf (settledK ls rs ls.length)) := by
  obtain ⟨i0, hi, hz0, hz1, hz2⟩ := info_parts infoOrder
  obtain ⟨A1, cap1, rfl, hm1, hc1⟩ := hL.at
  obtain ⟨A2, cap2, rfl, hm2, hc2⟩ := hR.at
  have hmk := fun W => run_make_row' (P := Tryd.prog) 39 3 (.int .i64 0) 8 Tryd.underlying39 infoOrder rfl .i64 .i64 ls.length (by omega) (by omega) W
  have HC1 := Lib.hid hc1
  have HC2 := Lib.hid hc2
  have HF := Lib.hid (And.intro h1 (And.intro h5 (And.intro hrl (And.intro hls hrs))))
  unfold maxLen at hm1 hm2
  obtain ⟨W0, hW0⟩ : ∃ W0, (w.alloc (.cells #[] 3)).alloc (.cells (madeCells #[Value.int .i64 0] ls.length) 3) = W0 := ⟨_, rfl⟩
  have hb0 : Below w.heap.size w W0 := by rw [← hW0]; exact ((Below.refl _ _).alloc (Nat.le_refl _) _).alloc (by simp) _
  have hhas : W0.ownsRow w.heap.size 3 1 (.slice (some ⟨w.heap.size, 0, none⟩) 0 0) 0 (vals (List.replicate 0 (-1))) := by
    rw [← hW0]; exact (owns_empty w w.heap.size (Nat.le_refl _)).alloc _
  have hnext : W0.ownsRow w.heap.size 3 1 (.slice (some ⟨w.heap.size + 1, 0, none⟩) ls.length ls.length) ls.length (vals (List.replicate ls.length 0)) := by
    rw [← hW0]
    have := World.ownsRow_lit (base := w.heap.size) (e := 3) (size := 1) (w.alloc (.cells #[] 3)) (madeCells #[Value.int .i64 0] ls.length) ls.length (by simp) (by unfold maxLen; omega) (by simp [madeCells])
    rw [toList_madeCells_one, World.size_alloc] at this
    simpa [vals] using this
  have hs0 : w.heap.size + 1 < W0.heap.size := by rw [← hW0]; simp
  have H0 := Lib.hid (And.intro hb0 (And.intro hhas (And.intro hnext hs0)))
  clear hc1 hc2 hL hR hls hrs hrl hb0 hhas hnext hs0
  go_enter Tryd.func61, Tryd.ntmps61
  go_wp2
  clear hW0
  go_loopw [6, 8] (fun hv iv wr => ∃ (k g cap : Nat), k ≤ ls.length ∧ iv = .int .i64 k ∧ hv = .slice (some ⟨g, 0, none⟩) k cap ∧ g ≠ w.heap.size + 1 ∧ Below w.heap.size w wr ∧ w.heap.size + 1 < wr.heap.size ∧
      wr.ownsRow w.heap.size 3 1 (.slice (some ⟨g, 0, none⟩) k cap) k (vals (List.replicate k (-1))) ∧ wr.ownsRow w.heap.size 3 1 (.slice (some ⟨w.heap.size + 1, 0, none⟩) ls.length ls.length) ls.length (vals (List.replicate ls.length 0)))
    (fun _ iv _ => ls.length - (intOf iv).toNat)
  case atStart => exact ⟨0, w.heap.size, 0, by omega, rfl, rfl, by omega, H0.out.1, H0.out.2.2.2, H0.out.2.1, H0.out.2.2.1⟩
  case round =>
    clear hmk
    obtain ⟨k, g, cap, hk, rfl, rfl, hne, hb, hsz, ho, hn⟩ := hrel
    by_cases hlt : k < ls.length
    · have hki : (k : Int) < (ls.length : Int) := by omega
      have hbs := hb.size
      have hm64 : k + 1 ≤ maxLen := by unfold maxLen; omega
      have hm8 : (k + 1) * 8 ≤ 140737488355328 := by omega
      have hbase : w.heap.size ≤ (wr.alloc (.cells #[.int .i64 (-1)] 3)).heap.size := by simp; omega
      have HB := Lib.hid (And.intro hb (And.intro hsz (And.intro hn hne)))
      clear hb hsz hn hne
      go_wp2_with (at_builtin; refine wpList_append_lies _ rfl (.tmp 24) (.tmp 25) 39 rfl w.heap.size 3 i0 (.int .i64 0) 1 8 Tryd.underlying39 hi hz0 hz1 hz2 rfl (by decide) _ _ _ rfl (ho.alloc _) ⟨wr.heap.size, 0, none⟩ 1 1 [.int .i64 (-1)] rfl rfl (cell_one_new _ _ _) (by simp [Value.oneCell']) (by decide) hm64 hm8 hbase _ rfl ?_; intro g' cap' w2 hown hgrow hor hlt2)
      obtain ⟨hb, hsz, hn, hne⟩ := HB.out
      have hgb : ∀ j, (Value.slice (some ⟨g, 0, none⟩) k cap).ownBlock = some j → j = g := fun j hj => by simp [Value.ownBlock] at hj; exact hj.symm
      have hb2 : Below w.heap.size w w2 := (hb.alloc hbs _).grown hgrow (by simp; omega) (fun j hj => (ho.lt j hj).1)
      have hn2 : w2.ownsRow w.heap.size 3 1 (.slice (some ⟨w.heap.size + 1, 0, none⟩) ls.length ls.length) ls.length (vals (List.replicate ls.length 0)) := (hn.alloc _).kept hgrow (.inr (fun e => hne (hgb _ e.symm).symm))
      have hne2 : g' ≠ w.heap.size + 1 := by
        rcases hor with e | e
        · have := hgb _ e; omega
        · rw [World.size_alloc] at e; omega
      have hv : vals (List.replicate k (-1)) ++ [Value.int .i64 (-1)] = vals (List.replicate (k + 1) (-1)) := by rw [List.replicate_succ']; simp [vals]
      rw [hv] at hown
      have hs2 : w.heap.size + 1 < w2.heap.size := by have := hgrow.size; rw [World.size_alloc] at this; omega
      have HX := Lib.hid (And.intro hne2 (And.intro hb2 (And.intro hs2 (And.intro hown hn2))))
      clear hb hn hne hgb hb2 hn2 hne2 hv hown hs2 ho hgrow hor hlt2
      go_wp2
      go_roundw
      case rel => exact ⟨k + 1, g', cap', by omega, by go_num, rfl, HX.out⟩
      case measure => simp [intOf]; omega
    · obtain rfl : k = ls.length := by omega
      have HST : Hid (AskSt w wr ls rs g cap 0 (List.replicate ls.length 0, List.replicate ls.length (-1))) := Lib.hid ⟨hb, runs_start ls rs ls.length, ho, hn, hne⟩
      clear hb hsz ho hn hne
      go_wp2
      go_loopw [9] (fun _ wr => ∃ (t : Nat) (st : List Int × List Int), AskSt w wr ls rs g cap t st) (fun _ wr => ls.length * ls.length - askSum (w.heap.size + 1) ls.length wr)
      case atStart => exact ⟨0, _, HST.out⟩
      case round =>
        obtain ⟨t, st, hst⟩ := hrel
        have hr1 := ranks_of (ls := ls) HF.out.1 HF.out.2.1 rfl HF.out.2.2.2.1
        have HS := Lib.hid (And.intro hst hr1)
        have hl2 := hst.runs.gs.len2
        have HL2 := Lib.hid hl2
        clear hst hr1 hl2 HST
        go_wp2
        go_loopw [9, 10] (fun av iv wq => ∃ i : Nat, i ≤ ls.length ∧ iv = .int .i64 i ∧ wq = wr ∧ ((av = .int .i64 (-1) ∧ ∀ j, j < i → freeB st.2 j = false) ∨ (∃ f : Nat, f < ls.length ∧ av = .int .i64 f ∧ freeB st.2 f = true ∧ ∀ j, j < f → freeB st.2 j = false)))
          (fun av iv _ => if 0 ≤ intOf av then 0 else 1 + ls.length - (intOf iv).toNat)
        case atStart => exact ⟨0, by omega, rfl, rfl, .inl ⟨rfl, fun j hj => by omega⟩⟩
        case round =>
          obtain ⟨i, hi', rfl, hwq, hcase⟩ := hrel
          have hwq2 := hwq.symm
          clear hwq
          subst hwq2
          rcases hcase with ⟨rfl, hno⟩ | ⟨f, hf, rfl, hff, hno⟩
          · have HNO := Lib.hid hno
            clear hno
            by_cases hlt : i < ls.length
            · have hii : (i : Int) < (ls.length : Int) := by omega
              go_wp2
              go_loopw [11, 12] (fun fv kv wq => ∃ k : Nat, k ≤ ls.length ∧ kv = .int .i64 k ∧ fv = .bool (freeTo st.2 i k) ∧ wq = wr) (fun _ kv _ => ls.length - (intOf kv).toNat)
              case atStart => exact ⟨0, by omega, rfl, rfl, rfl⟩
              case round =>
                obtain ⟨k, hk, rfl, rfl, hwq⟩ := hrel
                have hwq2 := hwq.symm
                clear hwq
                subst hwq2
                by_cases hlk : k < ls.length
                · have hkk : (k : Int) < (ls.length : Int) := by omega
                  have hk0 : (0 : Int) ≤ (k : Int) := by omega
                  have hk2 : k < st.2.length := by have := HL2.out; omega
                  have hcell := HS.out.1.has.cellAt k (by omega)
                  obtain ⟨h, hh⟩ : ∃ h, st.2.getD k (-1) = h := ⟨_, rfl⟩
                  have hcell2 : wr.cell? ⟨g, k, none⟩ = some (.int .i64 h) := by
                    rw [hcell]; rw [← hh]; simp [vals, List.getD, hk2]
                  have hsu := freeTo_succ st.2 i k
                  rw [hh] at hsu
                  have HSU := Lib.hid hsu
                  clear hcell hh hsu hk2
                  cases hb : freeTo st.2 i k with
                  | false =>
                    have HB := Lib.hid hb
                    clear hb
                    go_wp2
                    go_roundw
                    case rel => exact ⟨k + 1, by omega, by go_num, by rw [HSU.out, HB.out]; rfl, trivial⟩
                    case measure => simp [intOf]; omega
                  | true =>
                    have HB := Lib.hid hb
                    clear hb
                    by_cases he : h = (i : Int)
                    · have hd : decide (h ≠ (i : Int)) = false := by simp [he]
                      have HD := Lib.hid hd
                      subst he
                      clear hd
                      go_wp2
                      go_roundw
                      case rel => exact ⟨k + 1, by omega, by go_num, by rw [HSU.out, HB.out, HD.out]; rfl, trivial⟩
                      case measure => simp [intOf]; omega
                    · have hd : decide (h ≠ (i : Int)) = true := by simp [he]
                      have HD := Lib.hid hd
                      have hne : (h != (i : Int)) = true := by simp [he]
                      clear hd
                      go_wp2
                      go_roundw
                      case rel => exact ⟨k + 1, by omega, by go_num, by rw [HSU.out, HB.out, HD.out]; rfl, trivial⟩
                      case measure => simp [intOf]; omega
                · obtain rfl : k = ls.length := by omega
                  have hfa : freeTo st.2 i ls.length = freeB st.2 i := by have := freeTo_all st.2 i; rwa [HL2.out] at this
                  rw [hfa]
                  cases hfb : freeB st.2 i with
                  | false =>
                    have HFB := Lib.hid hfb
                    clear hfa hfb
                    go_wp2
                    go_roundw
                    case rel =>
                      refine ⟨i + 1, by omega, by go_num, trivial, .inl ⟨rfl, fun j hj => ?_⟩⟩
                      by_cases e : j = i
                      · subst e; exact HFB.out
                      · exact HNO.out j (by omega)
                    case measure => simp [intOf]; omega
                  | true =>
                    have HFB := Lib.hid hfb
                    clear hfa hfb
                    go_wp2
                    go_roundw
                    case rel => exact ⟨i + 1, by omega, by go_num, trivial, .inr ⟨i, hlt, rfl, HFB.out, HNO.out⟩⟩
                    case measure => simp [intOf]; omega
            · obtain rfl : i = ls.length := by omega
              have hfn := free_no HNO.out
              have HE := Lib.hid (runs_end HS.out.1.runs hfn)
              have HRK := Lib.hid (stuck_rank HS.out.1.runs.gs hfn)
              have HBK := Lib.hid (l6mBack_any wr (.slice (some ⟨g, 0, none⟩) ls.length cap) st.2 (by have hq := HS.out.1.has; have hq2 : Owns wr w.heap.size (.slice (some ⟨g, 0, none⟩) ls.length cap) st.2 := (by unfold Owns; rw [HL2.out]; exact hq); exact ints_of_owns hq2) (by have := HL2.out; omega) (fun x hx => by have := (rank_parts HRK.out).2.1 x hx; have := HL2.out; omega))
              clear hfn
              go_wp2_with (go_at_call 65; refine HBK.out.mono ?_; rintro e w4 ⟨rfl, hb4, ho4⟩)
              go_ret
              rw [← HE.out]
              exact ⟨_, rfl, step_below HS.out.1.bel hb4, owns_mono ho4 HS.out.1.bel.size⟩
          · have HFF := Lib.hid (free_first hf hff hno)
            have HFB := Lib.hid hff
            clear hff hno
            have hf0 : ¬ (f : Int) < 0 := by omega
            obtain ⟨hgl, hkl, hgs⟩ := gs_step HS.out.2 HS.out.1.runs.gs hf HFB.out
            have hstep := runs_step HS.out.2 HS.out.1.runs HFF.out
            have hmore := runs_more HS.out.2 HS.out.1.runs HFF.out
            obtain ⟨j, hj⟩ : ∃ j : Nat, st.1.getD f 0 = (j : Int) := ⟨(st.1.getD f 0).toNat, by have := HS.out.1.runs.gs.nn f; omega⟩
            unfold askStep at hstep
            rw [hj, Int.toNat_natCast] at hgl hkl hstep
            obtain ⟨k, hk⟩ : ∃ k, wishL ls f j = k := ⟨_, rfl⟩
            rw [hk] at hkl hstep
            obtain ⟨h, hh⟩ : ∃ h, st.2.getD k (-1) = h := ⟨_, rfl⟩
            rw [hh] at hstep
            obtain ⟨b1, o1, u1, rfl, hA0, hu1⟩ := HC1.out f hf
            obtain ⟨A3, cap3, rfl, hm3, hc3⟩ := hu1
            have hrow := rank_parts (HF.out.2.2.2.1 ls[f] (List.getElem_mem _))
            have hjl : j < ls[f].length := by have := hrow.1; omega
            obtain ⟨b3, o3, rfl, hB0⟩ := hc3 j hjl
            have hw : ls[f][j] = (k : Int) := by
              have hin := hrow.2.1 ls[f][j] (List.getElem_mem _)
              unfold wishL at hk
              have e1 : ls.getD f [] = ls[f] := by simp [List.getD, hf]
              rw [e1] at hk
              have e2 : ls[f].getD j 0 = ls[f][j] := by simp [List.getD, hjl]
              rw [e2] at hk
              omega
            rw [hw] at hB0
            rw [hrow.1] at hA0
            have hkr : k < rs.length := by have := HF.out.2.2.1; omega
            obtain ⟨b2, o2, u2, rfl, hC0, hu2⟩ := HC2.out k hkr
            have hbel := HS.out.1.bel
            have hA := (hbel.cell (p := ⟨b1, o1 + f, none⟩) (World.block_lt_of_cell? w _ hA0)).trans hA0
            have hB := (hbel.cell (p := ⟨b3, o3 + j, none⟩) (World.block_lt_of_cell? w _ hB0)).trans hB0
            have hf1 : f < st.1.length := by have := HS.out.1.runs.gs.len1; omega
            have hk2 : k < st.2.length := by have := HL2.out; omega
            have hN : wr.cell? ⟨w.heap.size + 1, f, none⟩ = some (.int .i64 (j : Int)) := by
              rw [HS.out.1.next.cellAt f (by omega), ← hj]; simp [vals, List.getD, hf1]
            have hNf := HS.out.1.next.frozenAt f
            have hfi : (f : Int) < (ls.length : Int) := by omega
            have hff0 : (0 : Int) ≤ (f : Int) := by omega
            have hji : (j : Int) < (ls.length : Int) := by omega
            have hj0 : (0 : Int) ≤ (j : Int) := by omega
            have hki : (k : Int) < (ls.length : Int) := by omega
            have hk0 : (0 : Int) ≤ (k : Int) := by omega
            have hkri : (k : Int) < (rs.length : Int) := by omega
            have HH := Lib.hid (And.intro hh (And.intro hstep (And.intro hmore (And.intro hC0 (And.intro hu2 (And.intro hk2 (And.intro hf1 hj)))))))
            have HKR := Lib.hid hkr
            clear hgl hkl hgs hstep hmore hh hk hA0 hB0 hrow hjl hw hc3 hC0 hu2 hm3 hbel hf1 hk2 hj
            go_wp2
            all_goals go_quiet (fail)
            all_goals go_wp2
            all_goals
              obtain ⟨W6, hW6⟩ : ∃ W6, (wr.drewN nq).setCell ⟨w.heap.size + 1, f, none⟩ (.int .i64 ((j : Int) + 1)) = W6 := ⟨_, rfl⟩
              have hmid : AskMid w W6 ls g cap (st.1.set f ((j : Int) + 1)) st.2 := by rw [← hW6]; exact ask_mid HS.out.1 nq f ((j : Int) + 1)
              have HM := Lib.hid hmid
              rw [hW6]
              clear hW6
              obtain ⟨hh, hstep, hmore, hC0, hu2, hk2, hf1, hj⟩ := HH.out
              have hC6 := (hmid.bel.cell (p := ⟨b2, o2 + k, none⟩) (World.block_lt_of_cell? w _ hC0)).trans hC0
              have hH6 : W6.cell? ⟨g, k, none⟩ = some (.int .i64 h) := by
                rw [hmid.has.cellAt k (by omega), ← hh]; simp [vals, List.getD, hk2]
              obtain ⟨z1, hz1⟩ : ∃ z : Int, (place rs[k] (f : Int) : Int) = z := ⟨_, rfl⟩
              obtain ⟨z2, hz2⟩ : ∃ z : Int, (place rs[k] h : Int) = z := ⟨_, rfl⟩
              have HP1 := Lib.hid (fun (W : World) (hW : Below w.heap.size w W) => l6mPlace_q u2 rs[k] (f : Int) z1 hz1 W (hu2.below hW))
              have HP2 := Lib.hid (fun (W : World) (hW : Below w.heap.size w W) => l6mPlace_q u2 rs[k] h z2 hz2 W (hu2.below hW))
              have HMORE := Lib.hid (And.intro hmore (ask_meas HS.out.1))
              have erk : rs.getD k [] = rs[k] := by rw [List.getD_eq_getElem?_getD, List.getElem?_eq_getElem hkr]; rfl
              have hHf := hmid.has.frozenAt k
              have HZ := Lib.hid (And.intro erk (And.intro hz1 hz2))
              have HHK := Lib.hid (And.intro hh hk2)
              have HANS : Hid ((h < 0 → answerL rs k f h = (f : Int)) ∧ (¬ h < 0 → z1 < z2 → answerL rs k f h = (f : Int)) ∧ (¬ h < 0 → ¬ z1 < z2 → answerL rs k f h = h)) := by
                refine Lib.hid ⟨fun a => by unfold answerL; rw [if_pos a], fun a b => ?_, fun a b => ?_⟩
                · unfold answerL placeL
                  rw [erk, if_neg a, if_pos (by omega)]
                · unfold answerL placeL
                  rw [erk, if_neg a, if_neg (by omega)]
              have HRUN := Lib.hid hstep
              clear hmid hh hstep hmore hC0 hu2 hk2 hf1 hj hz1 hz2 erk hA hB hN hNf
              by_cases hneg : h < 0
              · go_wp2
                go_quiet (fail)
                have m := ask_put (HM.out.drewN nq) HS.out.1.ne k (f : Int)
                have hr := HRUN.out
                rw [HANS.out.1 hneg] at hr
                have HNEW : Hid (AskSt w ((W6.drewN nq).setCell ⟨g, k, none⟩ (.int .i64 (f : Int))) ls rs g cap (t + 1) (st.1.set f ((j : Int) + 1), st.2.set k (f : Int))) := Lib.hid ⟨m.bel, hr, m.has, m.next, HS.out.1.ne⟩
                clear m hr
                go_wp2
                go_roundw
                case rel => exact ⟨t + 1, _, HNEW.out⟩
                case measure => rw [ask_meas HNEW.out, HMORE.out.2]; have := HMORE.out.1; omega
              · by_cases hlt : z1 < z2
                · go_wp2
                  go_quiet ((go_at_call 68; first | (with_reducible exact Calls.quiet_of_same (HP1.out _ (below_drewN HM.out.bel _))) | (with_reducible exact Calls.quiet_of_same (HP2.out _ (below_drewN HM.out.bel _)))))
                  have m := ask_put (HM.out.drewN nq) HS.out.1.ne k (f : Int)
                  have hr := HRUN.out
                  rw [HANS.out.2.1 hneg hlt] at hr
                  have HNEW : Hid (AskSt w ((W6.drewN nq).setCell ⟨g, k, none⟩ (.int .i64 (f : Int))) ls rs g cap (t + 1) (st.1.set f ((j : Int) + 1), st.2.set k (f : Int))) := Lib.hid ⟨m.bel, hr, m.has, m.next, HS.out.1.ne⟩
                  clear m hr
                  go_wp2
                  go_roundw
                  case rel => exact ⟨t + 1, _, HNEW.out⟩
                  case measure => rw [ask_meas HNEW.out, HMORE.out.2]; have := HMORE.out.1; omega
                · go_wp2
                  go_quiet ((go_at_call 68; first | (with_reducible exact Calls.quiet_of_same (HP1.out _ (below_drewN HM.out.bel _))) | (with_reducible exact Calls.quiet_of_same (HP2.out _ (below_drewN HM.out.bel _)))))
                  have m := HM.out.drewN nq
                  have hr := HRUN.out
                  have hss := set_self st.2 k (-1) HHK.out.2
                  rw [HHK.out.1] at hss
                  rw [HANS.out.2.2 hneg hlt, hss] at hr
                  have HNEW : Hid (AskSt w (W6.drewN nq) ls rs g cap (t + 1) (st.1.set f ((j : Int) + 1), st.2)) := Lib.hid ⟨m.bel, hr, m.has, m.next, HS.out.1.ne⟩
                  clear m hr hss
                  go_wp2
                  go_roundw
                  case rel => exact ⟨t + 1, _, HNEW.out⟩
                  case measure => rw [ask_meas HNEW.out, HMORE.out.2]; have := HMORE.out.1; omega

end Go.Proofs.YtahilcnmjnjcaaaDoor
