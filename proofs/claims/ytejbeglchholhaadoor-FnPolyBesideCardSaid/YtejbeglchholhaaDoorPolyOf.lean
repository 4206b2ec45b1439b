/-
  impl.poly[int]: of, within, isPoly, trimmed, and impl.polyOf[int]: their contracts.
-/
import Derived.Test.YtejbeglchholhaaDoorNum1
import Derived.Test.YtejbeglchholhaaDoorGives
import Derived.Outline
namespace Go.Proofs.YtejbeglchholhaaDoor
set_option linter.unusedVariables false
set_option linter.unusedSimpArgs false
open Go.RowKit

set_option maxHeartbeats 400000 in
theorem of_nat (w : World) (v : Value) (xs : List Int) (h : Ints w v xs) (k : Nat) (hk : k ≤ 1000000000000) :
    Calls Tryd.prog 43 #[v, .int .i64 (k : Int)] w fun e w' => e = .returned (.int .i64 (co xs k)) ∧ w = w' := by
  obtain ⟨A, cap, rfl, hm, hc⟩ := h
  unfold maxLen at hm
  by_cases hlt : k < xs.length
  · obtain ⟨b, off, rfl, hcell⟩ := hc k hlt
    rw [co_at hlt]
    have h1 : ¬ (xs.length : Int) ≤ (k : Int) := by omega
    clear hc
    go_enter Tryd.func43, Tryd.ntmps43
    go_wp2
    go_ret
    exact ⟨rfl, rfl⟩
  · rw [co_out (by omega)]
    have h1 : (xs.length : Int) ≤ (k : Int) := by omega
    clear hc hlt
    go_enter Tryd.func43, Tryd.ntmps43
    go_wp2
    go_ret
    exact ⟨rfl, rfl⟩

set_option maxHeartbeats 400000 in
theorem of_neg (w : World) (v : Value) (xs : List Int) (h : Ints w v xs) (k : Int) (hk : k < 0) :
    Calls Tryd.prog 43 #[v, .int .i64 k] w fun e w' => e = .returned (.int .i64 0) ∧ w = w' := by
  obtain ⟨A, cap, rfl, hm, hc⟩ := h
  clear hc
  go_enter Tryd.func43, Tryd.ntmps43
  go_wp2
  go_ret
  exact ⟨rfl, rfl⟩

set_option maxHeartbeats 400000 in
theorem within_any (w : World) (v : Value) (xs : List Int) (h : Ints w v xs) (lim : Int) (h0 : 0 ≤ lim) (h1 : lim ≤ 1000000000) :
    Calls Tryd.prog 28 #[v, .int .i64 lim] w fun e w' => e = .returned (.bool (within lim xs)) ∧ w = w' := by
  obtain ⟨A, cap, rfl, hm, hc⟩ := h
  unfold maxLen at hm
  have HC := Lib.hid hc
  clear hc
  go_enter Tryd.func28, Tryd.ntmps28
  go_wp2
  go_loop [9] (fun i => ∃ k : Nat, k ≤ xs.length ∧ i = .int .i64 k ∧ within lim (xs.take k) = true) (fun i => xs.length - (intOf i).toNat)
  case atStart => exact ⟨0, by omega, rfl, rfl⟩
  case round =>
    obtain ⟨k, hk, rfl, hw⟩ := hrel
    have HW := Lib.hid hw
    clear hw
    by_cases hlt : k < xs.length
    · obtain ⟨b, off, rfl, hcell⟩ := HC.out k hlt
      by_cases hin : -lim ≤ xs[k] ∧ xs[k] ≤ lim
      · have hyes : within lim (xs.take (k + 1)) = true := by rw [within_take_succ hlt, HW.out, decide_eq_true hin]; rfl
        have HY := Lib.hid hyes
        have n1 : ¬ xs[k] < -lim := by omega
        have n2 : ¬ lim < xs[k] := by omega
        clear hyes hin
        go_wp2
        go_round
        case rel => exact ⟨k + 1, by omega, by go_num, HY.out⟩
        case measure => simp [intOf]; omega
      · have hno : within lim xs = false := within_no hlt hin
        have HN := Lib.hid hno
        clear hno
        by_cases n1 : xs[k] < -lim
        · clear hin
          go_wp2
          go_ret
          exact ⟨ret_bool HN.out.symm, rfl⟩
        · have n2 : lim < xs[k] := by omega
          clear hin
          go_wp2
          go_ret
          exact ⟨ret_bool HN.out.symm, rfl⟩
    · obtain rfl : k = xs.length := by omega
      have hyes : within lim xs = true := by have := HW.out; rwa [List.take_of_length_le (Nat.le_refl _)] at this
      have HY := Lib.hid hyes
      clear hyes
      go_wp2
      go_ret
      exact ⟨ret_bool HY.out.symm, rfl⟩

theorem owns_take {w : World} {B g n cap : Nat} {e : TypeId} {xs : List Value} (h : w.ownsRow B e 1 (.slice (some ⟨g, 0, none⟩) n cap) n xs) (k : Nat) (hk : k ≤ n) :
    w.ownsRow B e 1 (.slice (some ⟨g, 0, none⟩) k cap) k (xs.take k) := by
  have hl := h.1
  rcases h.2 with ⟨hv, _⟩ | ⟨g', cap', cur, hv, hb, hg, hnc, hm, hcs, htake⟩
  · cases hv
  · cases hv
    refine ⟨by simp [List.length_take]; omega, .inr ⟨g, cap, cur, rfl, hb, hg, by omega, hm, hcs, ?_⟩⟩
    rw [← htake, List.take_take]
    congr 1
    omega

set_option maxHeartbeats 400000 in
theorem trimmed_any (w : World) (B : Nat) (v : Value) (xs : List Int) (h : Owns w B v xs) :
    Calls Tryd.prog 48 #[v] w fun e w' => ∃ u, e = .returned u ∧ w = w' ∧ Owns w B u (trim xs) := by
  rcases h.2 with ⟨rfl, hn⟩ | ⟨g, cap, cur, rfl, hb, hg, hnc, hm, hcs, htake⟩
  · have : xs = [] := by simpa using hn
    subst this
    go_enter Tryd.func48, Tryd.ntmps48
    go_wp2
    go_loop [0] (fun u => u = .slice none 0 0) (fun _ => 0)
    case atStart => rfl
    case round =>
      obtain rfl := hrel
      go_wp2
      go_ret
      exact ⟨_, rfl, rfl, World.ownsRow_nil _ _ _ _⟩
  · unfold maxLen at hm
    clear hb hg hcs htake
    have HH := Lib.hid h
    clear h
    go_enter Tryd.func48, Tryd.ntmps48
    go_wp2
    go_loop [0] (fun u => ∃ k : Nat, k ≤ xs.length ∧ u = .slice (some ⟨g, 0, none⟩) k cap ∧ trim (xs.take k) = trim xs) (fun u => match u with | .slice _ n _ => n | _ => 0)
    case atStart => exact ⟨xs.length, Nat.le_refl _, rfl, by rw [List.take_of_length_le (Nat.le_refl _)]⟩
    case round =>
      obtain ⟨k, hk, rfl, ht⟩ := hrel
      have HT := Lib.hid ht
      clear ht
      have hend : trim xs = xs.take k → Owns w B (.slice (some ⟨g, 0, none⟩) k cap) (trim xs) := by
        intro e
        have := owns_take HH.out k hk
        rw [e]
        show World.ownsRow _ _ _ _ _ (xs.take k).length _
        rw [List.length_take, Nat.min_eq_left hk]
        simpa [vals] using this
      have HE := Lib.hid hend
      clear hend
      cases k with
      | zero =>
        go_wp2
        go_ret
        exact ⟨_, rfl, rfl, HE.out (by have := HT.out; simpa [trim] using this.symm)⟩
      | succ j =>
        have hcell := (HH.out.cellAt j (by omega)).trans (show (vals xs)[j]? = some (.int .i64 xs[j]) by simp [vals])
        by_cases hz : xs[j] = 0
        · have hnext : trim (xs.take j) = trim xs := by rw [← HT.out, trim_take0 (by omega) hz]
          have HN := Lib.hid hnext
          rw [hz] at hcell
          clear hnext hz
          go_wp2
          go_round
          case rel => exact ⟨j, by omega, by go_num, HN.out⟩
          case measure => simp
        · have hstay : trim xs = xs.take (j + 1) := by rw [← HT.out, trim_take (by omega) hz]
          have HS := Lib.hid hstay
          have hne : (xs[j] == 0) = false := by simpa using hz
          clear hstay
          go_wp2
          go_ret
          exact ⟨_, rfl, rfl, HE.out HS.out⟩

set_option maxHeartbeats 400000 in
theorem polyOf_nat (w : World) (m : Nat) (hm : m ≤ 100) (K : FuncId) (caps : Array Value) (f : Nat → Int)
    (hE : ∀ args W, (callFunc K args).run Tryd.prog W = .ok (.enter K args) W)
    (hK : ∀ (k : Nat) W, k < m → Below w.heap.size w W → Calls Tryd.prog K (#[.int .i64 (k : Int)] ++ caps) W fun e W' => e = .returned (.int .i64 (f k)) ∧ Below W.heap.size W W') :
    Calls Tryd.prog 40 #[.int .i64 (m : Int), .func (.func K) #[] caps] w fun e w' => ∃ u, e = .returned u ∧ Below w.heap.size w w' ∧ Owns w' w.heap.size u (trim (tab m f)) := by
  have hmk := fun W => run_make_row' (P := Tryd.prog) 60 3 (.int .i64 0) 8 Tryd.underlying60 infoInt rfl .i64 .i64 m (by omega) (by omega) W
  have HK := Lib.hid hK
  clear hK
  go_enter Tryd.func40, Tryd.ntmps40
  go_wp2
  go_loopw [12] (fun i wr => ∃ k : Nat, k ≤ m ∧ i = .int .i64 k ∧ Below w.heap.size w wr ∧
      wr.ownsRow w.heap.size 3 1 (.slice (some ⟨w.heap.size, 0, none⟩) m m) m (vals (tab m (fun i => if i < k then f i else 0))))
    (fun i _ => m - (intOf i).toNat)
  case atStart =>
    refine ⟨0, Nat.zero_le _, rfl, (Below.refl _ _).alloc (Nat.le_refl _) _, ?_⟩
    have := World.ownsRow_lit (base := w.heap.size) (e := 3) (size := 1) w (madeCells #[Value.int .i64 0] m) m (Nat.le_refl _) (by unfold maxLen; omega) (by simp [madeCells])
    rw [toList_madeCells_one] at this
    simpa [tab_const] using this
  case round =>
    obtain ⟨k, hk, rfl, hb, ho⟩ := hrel
    by_cases hlt : k < m
    · have HO := Lib.hid ho
      clear ho
      have hx := (HO.out.cellAt k (by omega)).trans (tab_cell m _ k hlt)
      have hf := HO.out.frozenAt k
      have HB := Lib.hid hb
      have HX := Lib.hid hx
      have HF := Lib.hid hf
      clear hx hf hb
      go_wp2_with fail
      refine (HK.out k _ hlt HB.out).mono ?_
      rintro e w1 ⟨rfl, hb1⟩
      have hlt1 := World.block_lt_of_cell? wr _ HX.out
      have hx1 := (hb1.cell (p := ⟨w.heap.size, k, none⟩) hlt1).trans HX.out
      have hf1 := (hb1.frozen (p := ⟨w.heap.size, k, none⟩) hlt1).trans HF.out
      have ho1 := owns_below HO.out hb1
      have HO1 := Lib.hid ho1
      have HB1 := Lib.hid (step_below HB.out hb1)
      clear ho1 hb1 hlt1
      go_wp2
      go_roundw
      case rel =>
        refine ⟨k + 1, by omega, by go_num, HB1.out.setCell (p := ⟨w.heap.size, k, none⟩) (Nat.le_refl _) _, ?_⟩
        have := (HO1.out.stored k (.int .i64 (f k))).1
        rw [tab_set] at this
        rw [tab_congr (g := fun i => if i = k then f k else if i < k then f i else 0) ?_]
        · exact this
        · intro i _
          by_cases h1 : i = k
          · subst h1; simp
          · by_cases h2 : i < k
            · have h3 : i < k + 1 := by omega
              simp [h1, h2, h3]
            · have h3 : ¬ i < k + 1 := by omega
              simp [h1, h2, h3]
      case measure => simp [intOf]; omega
    · obtain rfl : k = m := by omega
      have ho2 : Owns wr w.heap.size (.slice (some ⟨w.heap.size, 0, none⟩) k k) (tab k f) := by
        show World.ownsRow _ _ _ _ _ (tab k f).length _
        rw [tab_len, tab_congr (g := fun i => if i < k then f i else 0) (fun i hi => by simp [hi])]
        exact ho
      have HO := Lib.hid ho2
      clear ho ho2
      go_wp2_with fail
      refine (trimmed_any wr w.heap.size _ _ HO.out).mono ?_
      rintro e w1 ⟨u, rfl, rfl, hu⟩
      go_wp2
      go_ret
      exact ⟨u, rfl, hb, hu⟩

set_option maxHeartbeats 400000 in
theorem polyOf_neg (w : World) (n : Int) (hn : n < 0) (K : FuncId) (caps : Array Value) :
    Calls Tryd.prog 40 #[.int .i64 n, .func (.func K) #[] caps] w fun e w' => ∃ u, e = .returned u ∧ Below w.heap.size w w' ∧ Owns w' w.heap.size u [] := by
  have hmk := fun W => run_make_row' (P := Tryd.prog) 60 3 (.int .i64 0) 8 Tryd.underlying60 infoInt rfl .i64 .i64 0 (by omega) (by omega) W
  have e0 : ((0 : Nat) : Int) = 0 := rfl
  simp only [e0] at hmk
  clear e0
  have h0 : ¬ 0 ≤ n := by omega
  go_enter Tryd.func40, Tryd.ntmps40
  go_wp2
  go_loopw [12] (fun i wr => i = .int .i64 0 ∧ wr = w.alloc (.cells (madeCells #[Value.int .i64 0] 0) 3)) (fun i _ => 0)
  case atStart => exact ⟨rfl, rfl⟩
  case round =>
    obtain ⟨rfl, rfl⟩ := hrel
    go_wp2_with fail
    have ho : Owns (w.alloc (.cells (madeCells #[Value.int .i64 0] 0) 3)) w.heap.size (.slice (some ⟨w.heap.size, 0, none⟩) 0 0) [] := by
      have := World.ownsRow_lit (base := w.heap.size) (e := 3) (size := 1) w (madeCells #[Value.int .i64 0] 0) 0 (Nat.le_refl _) (by unfold maxLen; omega) (by simp [madeCells])
      rw [toList_madeCells_one] at this
      exact this
    have HO := Lib.hid ho
    clear ho
    refine (trimmed_any _ w.heap.size _ _ HO.out).mono ?_
    rintro e w1 ⟨u, rfl, rfl, hu⟩
    go_wp2
    go_ret
    exact ⟨u, rfl, (Below.refl _ _).alloc (Nat.le_refl _) _, by simpa [trim] using hu⟩


set_option maxHeartbeats 2000000 in
theorem isPoly_any (w : World) (v : Value) (xs : List Int) (h : Ints w v xs) :
    Calls Tryd.prog 27 #[v] w fun e w' => e = .returned (.bool (okPoly xs)) ∧ w = w' := by
  have hv := h
  obtain ⟨A, cap, rfl, hm, hc⟩ := h
  unfold maxLen at hm
  have HV := Lib.hid hv
  clear hv
  by_cases hl : xs.length ≤ 21
  · have hl' : ¬ 21 < (xs.length : Int) := by omega
    cases hw : within 1000000000 xs with
    | true =>
      have hwi := within_any w _ xs HV.out 1000000000 (by omega) (by omega)
      rw [hw] at hwi
      have HW := Lib.hid hwi
      have HWW := Lib.hid hw
      clear hwi hw
      by_cases h0 : xs.length = 0
      · obtain rfl : xs = [] := by simpa using h0
        have HR := Lib.hid (show okPoly [] = true from by decide)
        clear hc hl h0
        go_enter Tryd.func27, Tryd.ntmps27
        go_wp2_with (go_at_call 28; refine HW.out.mono ?_; rintro e w' ⟨rfl, rfl⟩)
        go_ret
        exact ⟨ret_bool HR.out.symm, rfl⟩
      · obtain ⟨z, ⟨b, off, rfl, hcell⟩, hends⟩ : ∃ z, (∃ b off, A = some ⟨b, off, none⟩ ∧ w.cell? ⟨b, off + (xs.length - 1), none⟩ = some (.int .i64 z)) ∧ okPoly xs = decide (z ≠ 0) := by
          refine ⟨xs[xs.length - 1], hc (xs.length - 1) (by omega), ?_⟩
          unfold okPoly
          rw [HWW.out, decide_eq_true hl, Bool.true_and, Bool.true_and]
          unfold ends
          have hne : xs ≠ [] := by intro e; rw [e] at h0; simp at h0
          have e2 : xs.getD (xs.length - 1) 0 = xs[xs.length - 1] := by
            rw [List.getD_eq_getElem?_getD, List.getElem?_eq_getElem (by omega)]; rfl
          rw [e2]
          simp [hne]
        have HR := Lib.hid hends
        have h1 : 1 ≤ xs.length := by omega
        have he0 : ((xs.length : Int) == 0) = false := by rw [beq_eq_false_iff_ne]; omega
        clear hends hc
        by_cases hz : z = 0
        · subst hz
          go_enter Tryd.func27, Tryd.ntmps27
          go_wp2_with (go_at_call 28; refine HW.out.mono ?_; rintro e w' ⟨rfl, rfl⟩)
          go_ret
          exact ⟨ret_bool (by rw [HR.out]; rfl), rfl⟩
        · have hne : (z != 0) = true := by simpa using hz
          have HZ := Lib.hid hz
          clear hz
          go_enter Tryd.func27, Tryd.ntmps27
          go_wp2_with (go_at_call 28; refine HW.out.mono ?_; rintro e w' ⟨rfl, rfl⟩)
          go_ret
          exact ⟨ret_bool (by rw [HR.out]; exact (decide_eq_true HZ.out).symm), rfl⟩
    | false =>
      have hwi := within_any w _ xs HV.out 1000000000 (by omega) (by omega)
      rw [hw] at hwi
      have HW := Lib.hid hwi
      have hno : okPoly xs = false := by unfold okPoly; rw [hw]; simp
      have HN := Lib.hid hno
      clear hwi hw hno hc
      go_enter Tryd.func27, Tryd.ntmps27
      go_wp2_with (go_at_call 28; refine HW.out.mono ?_; rintro e w' ⟨rfl, rfl⟩)
      go_ret
      exact ⟨ret_bool HN.out.symm, rfl⟩
  · have hl' : 21 < (xs.length : Int) := by omega
    have hno : okPoly xs = false := by unfold okPoly; rw [decide_eq_false hl]; rfl
    have HN := Lib.hid hno
    clear hno hc hl
    go_enter Tryd.func27, Tryd.ntmps27
    go_wp2
    go_ret
    exact ⟨ret_bool HN.out.symm, rfl⟩

set_option maxHeartbeats 2000000 in
theorem toldPoly_any (w : World) (B : Nat) (v : Value) (xs : List Int) (h : Owns w B v xs) :
    Calls Tryd.prog 25 #[v] w fun e w' => ∃ u, e = .returned (.tuple #[u, .bool (okPoly xs)]) ∧ w = w' ∧ Owns w B u (toldList xs) := by
  have hp := isPoly_any w v xs (ints_of_owns h)
  have HH := Lib.hid h
  cases hq : okPoly xs with
  | true =>
    rw [hq] at hp
    have HP := Lib.hid hp
    have HQ := Lib.hid hq
    clear hp hq h
    go_enter Tryd.func25, Tryd.ntmps25
    go_wp2_with (go_at_call 27; refine HP.out.mono ?_; rintro e w' ⟨rfl, rfl⟩)
    go_ret2
    exact ⟨_, rfl, rfl, by unfold toldList; rw [if_pos HQ.out]; exact HH.out⟩
  | false =>
    rw [hq] at hp
    have HP := Lib.hid hp
    have HQ := Lib.hid hq
    clear hp hq h
    go_enter Tryd.func25, Tryd.ntmps25
    go_wp2_with (go_at_call 27; refine HP.out.mono ?_; rintro e w' ⟨rfl, rfl⟩)
    go_ret2
    exact ⟨_, rfl, rfl, by unfold toldList; rw [if_neg (by rw [HQ.out]; simp)]; exact World.ownsRow_nil _ _ _ _⟩

end Go.Proofs.YtejbeglchholhaaDoor
