/-
  spec.PolyDerive: what it hands back.
-/
import Derived.Test.YtldnipbpjohikabSpecPolys
import Derived.OwnWalk
import Derived.Deep.AppendLies
namespace Go.Proofs.Ytldnipbpjohikab
open Go.RowKit

/-- The numbers of the derivative. -/
def derOf (p : List Int) (j : Nat) : Int := ((j + 1 : Nat) : Int) * co p (j + 1)
theorem vals_snoc (xs : List Int) (x : Int) : vals (xs ++ [x]) = vals xs ++ [Value.int .i64 x] := by simp [vals]

set_option maxHeartbeats 4000000 in
theorem specDerive_any (w : World) (v : Value) (p : List Int) (hv : Ints w v p) :
    Calls Try.prog 21 #[v] w (GivesInts w (madeOk (okPoly p) (trim (derL p))) (madeList (okPoly p) (trim (derL p)))) := by
  obtain ⟨i0, hi, hz0, hz1, hz2⟩ := info_parts infoInt
  have hp := specPIn_any (w.alloc (.cells #[] 3)) v p (hv.below ((Below.refl _ _).alloc (Nat.le_refl _) _))
  obtain ⟨A, cap, rfl, lm, hc⟩ := hv
  unfold maxLen at lm
  have HC := Lib.hid hc
  clear hc
  cases c1 : okPoly p with
  | false =>
    rw [c1] at hp
    have HP := Lib.hid hp
    clear hp c1
    go_enter Try.func21, Try.ntmps21
    go_wp2_with fail
    refine HP.out.mono ?_
    rintro e w' ⟨rfl, rfl⟩
    go_wp2
    go_ret2
    exact gives_empty w
  | true =>
    rw [c1] at hp
    have HP := Lib.hid hp
    have k1 := okPoly_iff.1 c1
    have HW := Lib.hid k1.2.1
    have l21 := k1.1
    clear hp c1 k1
    go_enter Try.func21, Try.ntmps21
    go_wp2_with fail
    refine HP.out.mono ?_
    rintro e w' ⟨rfl, rfl⟩
    go_wp2
    go_loopw [4, 5] (fun u i wr => ∃ m g cap : Nat, m ≤ p.length - 1 ∧ u = .slice (some ⟨g, 0, none⟩) m cap ∧ i = .int .i64 ((m + 1 : Nat) : Int) ∧ Below w.heap.size w wr ∧
        wr.ownsRow w.heap.size 3 1 (.slice (some ⟨g, 0, none⟩) m cap) m (vals (tab m (derOf p))))
      (fun _ i _ => p.length - (intOf i).toNat)
    case atStart => exact ⟨0, w.heap.size, 0, by omega, rfl, rfl, (Below.refl _ _).alloc (Nat.le_refl _) _, owns_empty w _ (Nat.le_refl _)⟩
    case round =>
      obtain ⟨m, g, cap1, hm, rfl, rfl, hb, ho⟩ := hrel
      obtain ⟨j, hj⟩ : ∃ j, m + 1 = j := ⟨_, rfl⟩
      rw [hj]
      by_cases hlt : j < p.length
      · obtain ⟨b, off, rfl, hcell0⟩ := HC.out j hlt
        have zb := within_at HW.out hlt
        have hcell := (hb.cell (p := ⟨b, off + j, none⟩) (World.block_lt_of_cell? w _ hcell0)).trans hcell0
        obtain ⟨z, hz⟩ : ∃ z, p[j] = z := ⟨_, rfl⟩
        have hd : derOf p m = (j : Int) * z := by unfold derOf; rw [hj, co_at hlt, hz]
        rw [hz] at hcell zb
        obtain ⟨m1, m2⟩ := mul_bound (a := (j : Int)) (b := z) (x := 21) (y := 1000000000) (by omega) zb
        have b3 : -4000000000000000000 ≤ (j : Int) * z := by omega
        have b4 : (j : Int) * z ≤ 4000000000000000000 := by omega
        have hm64 : m + 1 ≤ maxLen := by unfold maxLen; omega
        have hm8 : (m + 1) * 8 ≤ 140737488355328 := by omega
        have hj' : (j : Int) < (p.length : Int) := by omega
        obtain ⟨p1, p2⟩ := wrap_in _ b3 b4
        obtain ⟨y, hy⟩ : ∃ y, (j : Int) * z = y := ⟨_, rfl⟩
        have HD := Lib.hid hd
        have HJ := Lib.hid hj
        have HB := Lib.hid hb
        rw [hy] at p1 p2
        have HY := Lib.hid hy
        have hbase : w.heap.size ≤ (wr.alloc (.cells #[Value.int .i64 y] 3)).heap.size := by have := hb.size; simp; omega
        clear b3 b4 m1 m2 hd hj hb hcell0 hz zb
        go_wp2_with (at_builtin; refine wpList_append_lies _ rfl _ _ 23 rfl w.heap.size 3 i0 (.int .i64 0) 1 8 Try.underlying23 hi hz0 hz1 hz2 rfl (by decide) _ _ _ rfl (ho.alloc _) ⟨wr.heap.size, 0, none⟩ 1 1 [.int .i64 y] rfl rfl (cell_one_new _ _ _) (by simp [Value.oneCell']) (by decide) hm64 hm8 hbase _ rfl ?_; intro g2 cap2 w1 hown hgrow _ _)
        go_roundw
        case rel =>
          refine ⟨m + 1, g2, cap2, by have := HJ.out; omega, rfl, by have := HJ.out; go_num, (HB.out.alloc HB.out.size _).grown hgrow hbase (fun k hk => (ho.lt k hk).1), ?_⟩
          rw [tab_succ, vals_snoc, HD.out, HY.out]
          exact hown
        case measure => simp [intOf]; omega
      · have hmn : m = p.length - 1 := by omega
        have hder : derL p = tab m (derOf p) := by rw [hmn]; rfl
        have hlen : (derL p).length = m := by rw [hder, tab_len]
        have ho2 : Owns wr w.heap.size (.slice (some ⟨g, 0, none⟩) (derL p).length cap1) (derL p) := by
          show World.ownsRow _ _ _ _ _ (derL p).length _
          rw [hlen, hder]; exact ho
        have hd := done_of_at hb ho2 (by omega)
        rw [hlen] at hd
        have HD := Lib.hid hd
        have hj' : ¬ (j : Int) < (p.length : Int) := by omega
        clear ho ho2 hd hder hlen hmn hj
        go_wp2_with fail
        refine HD.out.mono ?_
        rintro e w2 ⟨y, rfl, hb2, ho3⟩
        go_wp2
        go_ret2
        exact ⟨_, rfl, hb2, ho3⟩

end Go.Proofs.Ytldnipbpjohikab
