/-
  (nodeSet).all: THE ITERATOR OVER A SET's NODES: for every loop body that leaves what lay below n₀ as it was.
-/
import Derived.Test.YtjijkgmeddeihaaDoorTz
import Derived.RangeFuncNested
import Derived.RangeFuncBound
import Derived.RangeFuncCalls
import Derived.RangeFuncLeaves
import Derived.Shelf.Abstract
import Derived.Shelf.RegionOpen
import Derived.OwnWalkIn
import Derived.TacticsInMore
import Derived.LoopNIn
import Derived.LoopIn
namespace Go.Proofs.YtjijkgmeddeihaaDoor
set_option linter.unusedVariables false
set_option linter.unusedSimpArgs false
open Go.RowKit Go.Shelf

attribute [local go_sem] Oper.semAt_some

theorem next_and (m : Nat) (hm : m < 256) (h0 : m ≠ 0) : bits .and .u64 (m : Int) ((m : Int) - 1) = ((m &&& (m - 1) : Nat) : Int) := by
  have e : (m : Int) - 1 = ((m - 1 : Nat) : Int) := by omega
  rw [e, bits_and_u64_nat _ _ (by omega) (by omega)]

set_option maxRecDepth 100000 in
set_option maxHeartbeats 1000000 in
theorem all1_in (n : Nat) (hn : 1 ≤ n) (l Bn n₀ : Nat) (m : Nat) (hm : m < 256) (hn₀ : 1 < n₀) (J Jx : List (Fin 8) → World → Prop)
    (hY : ∀ pre x W, J pre W → pre.length < (bitsOf m).length → YieldAt Fence.wide (n - 1) Tryd.prog l #[.int .i64 ((x : Fin 8).val : Int)] W fun e W' =>
      (e = .returned (.bool true) ∧ J (pre ++ [x]) W' ∧ Below n₀ W W') ∨ (e = .returned (.bool false) ∧ Jx (pre ++ [x]) W'))
    (W : World) (hBn : W.cell? ⟨Bn, 0, none⟩ = some (.int .i64 (m : Int))) (hT : Tab W) (h0 : J [] W) :
    CallsIn Fence.wide n Tryd.prog 62 #[.func (.yield l) #[] #[], .pointer (some ⟨Bn, 0, none⟩)] W fun e W' => (∃ v, e = .returned v) ∧
      ((∃ ys, ys = bitsOf m ∧ J ys W') ∨ (∃ pre, pre <+: bitsOf m ∧ Jx pre W')) := by
  refine callsIn_of_wp Tryd.func62 rfl trivial ?_ rfl
  simp only [Tryd.ntmps62, List.size_toArray, List.length_cons, List.length_nil, Nat.reduceAdd, Nat.reduceSub, Array.replicate_succ, Array.replicate_zero, List.push_toArray, List.append_toArray, List.nil_append, List.cons_append]
  gi_wp2
  gi_loopw [3] (fun p wr => ∃ (pre : List (Fin 8)) (q : Nat), p = .int .u64 (q : Int) ∧ q < 256 ∧ bitsOf m = pre ++ bitsOf q ∧ J pre wr ∧ Tab wr)
    (fun p _ => (intOf p).toNat)
  case atStart =>
    exact ⟨[], m, by first | rfl | skip, hm, rfl, h0, hT⟩
  case round =>
    obtain ⟨pre, q, rfl, hq, hx, hJs, hTs⟩ := hrel
    by_cases hq0 : q = 0
    · subst hq0
      have HX := Lib.hid hx
      clear hx
      gi_wp2
      go_end0
      exact ⟨⟨_, rfl⟩, .inl ⟨pre, by rw [HX.out, bitsOf_zero, List.append_nil], hJs⟩⟩
    · have hc := bitsOf_cons hq hq0
      have hlen : pre.length < (bitsOf m).length := by rw [hx, hc]; simp
      obtain ⟨fn, tmps, assign, body, hy, hR⟩ := hY pre (low q) wr hJs hlen
      have hne : ((q : Int) != 0) = true := by simp; exact hq0
      have hz := tz_any q hq hq0 wr hTs
      have HZ := Lib.hid hz
      have HX := Lib.hid hx
      have HC := Lib.hid hc
      have HT := Lib.hid hTs
      have hnx := next_and q hq hq0
      have hpos : 1 ≤ q := by omega
      clear hz hx hc hTs
      gi_wp2_with (refine ⟨trivial, ?_⟩; gi_at_call 57; refine (callsIn_wide.2 HZ.out).mono ?_; rintro e w' ⟨rfl, rfl⟩)
      refine hR.mono ?_
      rintro e W3 (⟨rfl, hJ3, hk3⟩ | ⟨rfl, hJx3⟩)
      · gi_wp2
        go_roundw
        case rel => exact ⟨pre ++ [low q], q &&& (q - 1), by first | rfl | skip, next_lt hq, by rw [HX.out, HC.out]; simp, hJ3, HT.out.below hk3 hn₀⟩
        case measure =>
          simp only [intOf, Int.toNat_natCast]
          exact Nat.lt_of_le_of_lt Nat.and_le_right (by omega)
      · gi_wp2
        refine bodyPost_ret (results_none rfl _ _ _) rfl ?_
        exact ⟨⟨_, rfl⟩, .inr ⟨pre ++ [low q], ⟨bitsOf (q &&& (q - 1)), by rw [HX.out, HC.out]; simp⟩, hJx3⟩⟩

/-- The value that hands out a set's nodes, the set in block Bn. -/
abbrev seqOf (Bn : Nat) : Value := .func (.func 62) #[] #[.pointer (some ⟨Bn, 0, none⟩)]

theorem all_stops (n : Nat) (hn : 1 ≤ n) (Bn n₀ : Nat) (m : Nat) (hm : m < 256) (w : World) (hn₀ : 1 < n₀) (hB : Bn < w.heap.size)
    (hc : w.cell? ⟨Bn, 0, none⟩ = some (.int .i64 (m : Int))) (hT : Tab w) :
    SeqStopsK Fence.wide n Tryd.prog 62 #[.pointer (some ⟨Bn, 0, none⟩)] (fun x : Fin 8 => #[Value.int .i64 (x.val : Int)]) (Below n₀) (fun ys => ys = bitsOf m) (fun pre => pre <+: bitsOf m) (bitsOf m).length w :=
  fun l J Jx W hW _ _ hY h0 => all1_in n hn l Bn n₀ m hm hn₀ J Jx hY W ((hW.cell (p := ⟨Bn, 0, none⟩) hB).trans hc) (hT.later hW) h0

set_option maxHeartbeats 400000 in
theorem all_any (m : Nat) (w : World) :
    Calls Tryd.prog 58 #[.int .i64 (m : Int)] w fun e w' => e = .returned (seqOf w.heap.size) ∧ w' = w.alloc (.cells #[.int .i64 (m : Int)] 36) := by
  go_enter Tryd.func58, Tryd.ntmps58
  go_wp2
  go_ret
  exact ⟨rfl, rfl⟩

end Go.Proofs.YtjijkgmeddeihaaDoor
