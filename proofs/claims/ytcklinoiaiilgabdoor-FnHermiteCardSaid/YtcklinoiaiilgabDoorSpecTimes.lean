/-
  spec.l3Times: products of lists.
-/
import Derived.Test.YtcklinoiaiilgabDoorSpecPoly
namespace Go.Proofs.YtcklinoiaiilgabDoor
set_option linter.unusedVariables false
set_option linter.unusedSimpArgs false
open Go.RowKit

theorem wrap_in (x : Int) (h1 : -4000000000000000000 ≤ x) (h2 : x ≤ 4000000000000000000) : IntKind.i64.wrap x = x ∧ wrap64 x = x := by
  have h : IntKind.i64.wrap x = x := IntWalk.i64_in _ (by omega)
  exact ⟨h, by rw [← wrap_eq]; exact h⟩

theorem convAt_fresh (p q : List Int) (a k : Nat) : convAt p q a k (a + k) = convTo p q a (a + k) := by
  unfold convAt
  have e : a + k - a = k := by omega
  rw [e, if_neg (by omega), Int.add_zero]

set_option maxHeartbeats 4000000 in
theorem l3Times_any (w : World) (v u : Value) (p q : List Int) (hv : Ints w v p) (hu : Ints w u q) (lp : p.length ≤ 21) (lq : q.length ≤ 21) (hp : within 100000 p = true) (hq : within 100000 q = true) :
    Calls Tryd.prog 81 #[v, u] w (GivesAt w (mulL p q)) := by
  obtain ⟨A, cap, rfl, hm, hc⟩ := hv
  obtain ⟨B, cap2, rfl, hm2, hd⟩ := hu
  unfold maxLen at hm hm2
  have HC := Lib.hid hc
  have HD := Lib.hid hd
  have HP := Lib.hid hp
  have HQ := Lib.hid hq
  clear hc hd hp hq
  by_cases h0 : p.length = 0
  · obtain rfl : p = [] := by simpa using h0
    clear h0
    go_enter Tryd.func81, Tryd.ntmps81
    go_wp2
    go_ret
    exact ⟨w.heap.size, 0, rfl, (Below.refl _ _).alloc (Nat.le_refl _) _, owns_empty w _ (Nat.le_refl _)⟩
  by_cases h1 : q.length = 0
  · obtain rfl : q = [] := by simpa using h1
    have e1 : ((p.length : Int) == 0) = false := by rw [beq_eq_false_iff_ne]; omega
    have em : mulL p [] = [] := by unfold mulL; rw [if_pos (Or.inr rfl)]
    rw [em]
    clear h0 h1
    go_enter Tryd.func81, Tryd.ntmps81
    go_wp2
    go_ret
    exact ⟨w.heap.size, 0, rfl, (Below.refl _ _).alloc (Nat.le_refl _) _, owns_empty w _ (Nat.le_refl _)⟩
  · obtain ⟨n, hn⟩ : ∃ n, p.length + q.length - 1 = n := ⟨_, rfl⟩
    have hn' : (p.length : Int) + (q.length : Int) - 1 = (n : Int) := by omega
    have hmk := fun W => run_make_row' (P := Tryd.prog) 24 3 (.int .i64 0) 8 Tryd.underlying24 infoInt rfl .i64 .i64 n (by omega) (by omega) W
    have e1 : ((p.length : Int) == 0) = false := by rw [beq_eq_false_iff_ne]; omega
    have e2 : ((q.length : Int) == 0) = false := by rw [beq_eq_false_iff_ne]; omega
    have hmul : mulL p q = tab n (convTo p q p.length) := by
      unfold mulL
      rw [if_neg (by simp only [← List.length_eq_zero_iff]; omega), hn]
    have HM := Lib.hid hmul
    have HN := Lib.hid hn
    clear hn hmul h0 h1
    go_enter Tryd.func81, Tryd.ntmps81
    go_wp2
    clear hn' hmk e1 e2
    go_loopw [6] (fun i wr => ∃ a : Nat, a ≤ p.length ∧ i = .int .i64 a ∧ Below w.heap.size w wr ∧
        wr.ownsRow w.heap.size 3 1 (.slice (some ⟨w.heap.size, 0, none⟩) n n) n (vals (tab n (convTo p q a))))
      (fun i _ => p.length - (intOf i).toNat)
    case atStart =>
      refine ⟨0, by omega, rfl, (Below.refl _ _).alloc (Nat.le_refl _) _, ?_⟩
      have hn2 := HN.out
      have := World.ownsRow_lit (base := w.heap.size) (e := 3) (size := 1) w (madeCells #[Value.int .i64 0] n) n (Nat.le_refl _) (by unfold maxLen; omega) (by simp [madeCells])
      rw [toList_madeCells_one, ← tab_const] at this
      exact this
    case round =>
      obtain ⟨a, ha, rfl, hb, ho⟩ := hrel
      by_cases hlt : a < p.length
      · obtain ⟨b1, off1, rfl, hcp0⟩ := HC.out a hlt
        have zb := within_at HP.out hlt
        have zc : co p a = p[a] := co_at hlt
        obtain ⟨z, hz⟩ : ∃ z, p[a] = z := ⟨_, rfl⟩
        rw [hz] at hcp0 zb zc
        have HZ := Lib.hid zc
        have HCP := Lib.hid hcp0
        clear zc hz hcp0
        obtain ⟨wo, hwo⟩ : ∃ wo : World, wo = wr := ⟨_, rfl⟩
        obtain rfl := hwo
        go_wp2
        go_loopw [7] (fun i wr => ∃ k : Nat, k ≤ q.length ∧ i = .int .i64 k ∧ Below w.heap.size w wr ∧
            wr.ownsRow w.heap.size 3 1 (.slice (some ⟨w.heap.size, 0, none⟩) n n) n (vals (tab n (convAt p q a k))))
          (fun i _ => q.length - (intOf i).toNat)
        case atStart =>
          refine ⟨0, by omega, rfl, hb, ?_⟩
          rw [tab_congr (g := convTo p q a) (fun i _ => convAt_zero p q a i)]
          exact ho
        case round =>
          clear ho hb
          obtain ⟨k, hk, rfl, hb, ho⟩ := hrel
          have HO := Lib.hid ho
          have HB := Lib.hid hb
          clear ho hb
          by_cases hkt : k < q.length
          · obtain ⟨b2, off2, rfl, hcq0⟩ := HD.out k hkt
            have yb := within_at HQ.out hkt
            have yc : co q k = q[k] := co_at hkt
            obtain ⟨y, hy⟩ : ∃ y, q[k] = y := ⟨_, rfl⟩
            rw [hy] at hcq0 yb yc
            have hcp := (HB.out.cell (p := ⟨b1, off1 + a, none⟩) (World.block_lt_of_cell? w _ HCP.out)).trans HCP.out
            have hcq := (HB.out.cell (p := ⟨b2, off2 + k, none⟩) (World.block_lt_of_cell? w _ hcq0)).trans hcq0
            have hn2 := HN.out
            obtain ⟨j, hj⟩ : ∃ j, a + k = j := ⟨_, rfl⟩
            have hjn : j < n := by omega
            have hs := convTo_bound (p := p) (q := q) (x := 100000) (y := 100000) (by omega) (by omega) HP.out HQ.out a j
            have hfresh := convAt_fresh p q a k
            rw [hj] at hfresh
            have hnew : ∀ m, convAt p q a (k + 1) m = if m = j then convAt p q a k j + z * y else convAt p q a k m := by
              intro m
              rw [convAt_succ, hj, HZ.out, yc]
              by_cases e : m = j
              · subst e; simp
              · simp [e]
            obtain ⟨s, hs0⟩ : ∃ s, convAt p q a k j = s := ⟨_, rfl⟩
            rw [hs0] at hfresh hnew
            rw [← hfresh] at hs
            have hf := HO.out.frozenAt j
            have hx : wr.cell? ⟨w.heap.size, j, none⟩ = some (.int .i64 s) := by
              have := (HO.out.cellAt j (by omega)).trans (tab_cell n _ j hjn)
              rw [hs0] at this; exact this
            obtain ⟨m1, m2⟩ := mul_bound zb yb
            have hs1 : -210000000000 ≤ s ∧ s ≤ 210000000000 := by omega
            obtain ⟨s1, s2⟩ := hs1
            have i3 : (a : Int) + (k : Int) = (j : Int) := by omega
            have hjn' : (j : Int) < (n : Int) := by omega
            have b1 : -4000000000000000000 ≤ (j : Int) := by omega
            have b2 : (j : Int) ≤ 4000000000000000000 := by omega
            have b3 : -4000000000000000000 ≤ z * y := by omega
            have b4 : z * y ≤ 4000000000000000000 := by omega
            have b5 : -4000000000000000000 ≤ s + z * y := by omega
            have b6 : s + z * y ≤ 4000000000000000000 := by omega
            obtain ⟨i1, i2⟩ := wrap_in _ b1 b2
            obtain ⟨p1, p2⟩ := wrap_in _ b3 b4
            obtain ⟨q1, q2⟩ := wrap_in _ b5 b6
            clear b1 b2 b3 b4 b5 b6
            have HNEW := Lib.hid hnew
            clear hnew hs0 hfresh hs hj hy yc hcq0 hn2 zb yb
            go_wp2
            go_region
            go_wp2
            go_roundw
            case rel =>
              refine ⟨k + 1, by omega, by go_num, ?_, ?_⟩
              · exact (HB.out.setCell (p := ⟨w.heap.size, j, none⟩) (Nat.le_refl _) _).drew
              · have e2 := (HO.out.stored j (.int .i64 (s + z * y))).1
                rw [tab_set] at e2
                rw [tab_congr (g := fun m => if m = j then s + z * y else convAt p q a k m) (fun m _ => HNEW.out m)]
                exact e2
            case measure => simp [intOf]; omega
          · obtain rfl : k = q.length := by omega
            go_wp2
            go_roundw
            case rel =>
              refine ⟨a + 1, by omega, by go_num, HB.out, ?_⟩
              rw [tab_congr (g := convAt p q a q.length) (fun i _ => (convAt_end p q a i).symm)]
              exact HO.out
            case measure => simp [intOf]; omega
      · obtain rfl : a = p.length := by omega
        have HO := Lib.hid ho
        clear ho
        go_wp2
        go_ret
        refine ⟨w.heap.size, n, ?_, hb, ?_⟩
        · rw [HM.out, tab_len]; rfl
        · rw [HM.out, tab_len]
          show World.ownsRow _ _ _ _ _ (tab n _).length _
          rw [tab_len]
          exact HO.out

end Go.Proofs.YtcklinoiaiilgabDoor
