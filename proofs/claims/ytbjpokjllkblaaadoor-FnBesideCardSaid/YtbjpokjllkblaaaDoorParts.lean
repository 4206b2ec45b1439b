/-
  (graph).parts: THE ITERATOR OVER A GRAPH's PARTS, in the order of their lowest nodes.
-/
import Derived.Test.YtbjpokjllkblaaaDoorPartOf
namespace Go.Proofs.YtbjpokjllkblaaaDoor
set_option linter.unusedVariables false
set_option linter.unusedSimpArgs false
open Go.RowKit Go.Shelf
attribute [local go_sem] Oper.semAt_some

/-- A set that may be handed out: of the graph's nodes, and not empty. -/
abbrev PartT (m : Nat) := { r : Nat // r < 2 ^ m ∧ r ≠ 0 }

theorem reach_pos {f : Nat → Nat} {n v : Nat} (hf : ∀ i, f i < 2 ^ n) (hn : n ≤ 8) (hv : v < n) : reach f n v < 2 ^ n ∧ reach f n v ≠ 0 := by
  have h := reach_is hf hn hv
  refine ⟨reach_lt hf hn hv, fun e => ?_⟩
  have := h.2.1
  rw [e] at this; simp at this

theorem partsTo_lt {f : Nat → Nat} {n : Nat} (hf : ∀ i, f i < 2 ^ n) (hn : n ≤ 8) {k : Nat} (hk : k ≤ n) : (partsTo f n k).2 < 256 :=
  Nat.lt_of_lt_of_le (parts_facts hf hn k hk).1 (pow_le_256 hn)

/-- What lay below n₀ lies as it lay, and so does one block more. -/
def KeepsB (n₀ Bg : Nat) (W W' : World) : Prop := Below n₀ W W' ∧ W'.heap[Bg]? = W.heap[Bg]?
theorem keepsB_t {n₀ Bg : Nat} {A B C : World} (h : KeepsB n₀ Bg A B) (k : KeepsB n₀ Bg B C) : KeepsB n₀ Bg A C := ⟨h.1.trans k.1, k.2.trans h.2⟩
theorem keepsB_b {n₀ Bg : Nat} {w : World} (hn : n₀ ≤ w.heap.size) (hB : Bg < w.heap.size) (W : World) (l : Nat) (o o' : Obj) (hl : w.heap.size ≤ l) (h : W.heap[l]? = some o) (hc : o.isCells = false) (hw : o.isWalk = false) : KeepsB n₀ Bg W (W.putObj l o') :=
  ⟨belowK_b (w := w) hn W l o o' hl h hc hw, World.putObj_heap_other (by omega)⟩

set_option maxRecDepth 100000 in
set_option maxHeartbeats 1000000 in
theorem parts1_in (n : Nat) (hn : 1 ≤ n) (l Bg n₀ : Nat) (m : Nat) (f : Nat → Nat) (h8 : m ≤ 8) (hf : ∀ i, f i < 2 ^ m) (hn₀ : 1 < n₀) (J Jx : List (PartT m) → World → Prop)
    (hY : ∀ pre x W, J pre W → pre.length < 8 → YieldAt Fence.wide (n - 1) Tryd.prog l #[.int .i64 ((x : PartT m).1 : Int)] W fun e W' =>
      (e = .returned (.bool true) ∧ J (pre ++ [x]) W' ∧ KeepsB n₀ Bg W W') ∨ (e = .returned (.bool false) ∧ Jx (pre ++ [x]) W'))
    (W : World) (hJ : AbidesFrom W.heap.size J) (hBn : W.heap[Bg]? = some (.cells (gcells m f) 41 (0, 0))) (hT : Tab W) (h0 : J [] W) :
    CallsIn Fence.wide n Tryd.prog 28 #[.func (.yield l) #[] #[], .pointer (some ⟨Bg, 0, none⟩)] W fun e W' => (∃ v, e = .returned v) ∧
      ((∃ ys : List (PartT m), ys.map (·.1) = (partsTo f m m).1 ∧ J ys W') ∨ (∃ pre : List (PartT m), pre.map (·.1) <+: (partsTo f m m).1 ∧ Jx pre W')) := by
  have hp := pow_le_256 h8
  have hf8 : ∀ i, f i < 256 := fun i => Nat.lt_of_lt_of_le (hf i) hp
  have HF := Lib.hid hf
  have HF8 := Lib.hid hf8
  obtain ⟨c0, _, _, _⟩ := graph_cells hBn
  refine callsIn_of_wp Tryd.func28 rfl trivial ?_ rfl
  simp only [Tryd.ntmps28, List.size_toArray, List.length_cons, List.length_nil, Nat.reduceAdd, Nat.reduceSub, Array.replicate_succ, Array.replicate_zero, List.push_toArray, List.append_toArray, List.nil_append, List.cons_append]
  clear hf hf8 hp
  gi_wp2
  gi_loopw [3, 8] (fun p i wr => ∃ (pre : List (PartT m)) (k : Nat), k ≤ m ∧ p = .int .i64 ((partsTo f m k).2 : Int) ∧ i = .int .i64 (k : Int) ∧ pre.map (·.1) = (partsTo f m k).1 ∧ J pre wr ∧ Tab wr ∧ wr.heap[Bg]? = some (.cells (gcells m f) 41 (0, 0)))
    (fun _ i _ => m - (intOf i).toNat)
  case atStart =>
    exact ⟨[], 0, by omega, rfl, rfl, rfl, h0, hT, hBn⟩
  case round =>
    clear hBn hT c0
    obtain ⟨pre, k, hk, rfl, rfl, hx, hJs, hTs, hg⟩ := hrel
    by_cases hlt : k < m
    · have hs := partsTo_lt HF.out h8 hk
      have hfa := parts_facts HF.out h8 k hk
      have hlen : pre.length < 8 := by
        have : (pre.map (·.1)).length ≤ k := by rw [hx]; exact hfa.2.2.2.1
        simp at this; omega
      have hh := fun W => has_any (partsTo f m k).2 k hs (by omega) W
      have HG := Lib.hid hg
      have HX := Lib.hid hx
      have HT := Lib.hid hTs
      have HJ := Lib.hid hJs
      have HFA := Lib.hid hfa
      have hlt1 := (Array.getElem?_eq_some_iff.1 hg).1
      cases hb : (partsTo f m k).2.testBit k with
      | true =>
        rw [hb] at hh
        have HH := Lib.hid hh
        have hold := partsTo_old hb
        have HO := Lib.hid hold
        clear hh hb hold hfa hg hx hTs hJs
        gi_wp2_with (refine ⟨trivial, ?_⟩; gi_at_call 21; refine (callsIn_wide.2 (HH.out _)).mono ?_; rintro e w' ⟨rfl, rfl⟩)
        go_roundw
        case rel => exact ⟨pre, k + 1, by omega, by rw [HO.out], by go_num, by rw [HO.out]; exact HX.out, HJ.out, HT.out, HG.out⟩
        case measure => simp [intOf]; omega
      | false =>
        rw [hb] at hh
        have HH := Lib.hid hh
        have hr := reach_is HF.out h8 hlt
        have hrp := reach_pos HF.out h8 hlt
        have hnew := partsTo_new hb
        have hor := or64 (partsTo f m k).2 (reach f m k) (by omega) (by have := Nat.lt_of_lt_of_le hrp.1 (pow_le_256 h8); omega)
        obtain ⟨s, hs0⟩ : ∃ s, (partsTo f m k).2 = s := ⟨_, rfl⟩
        obtain ⟨r, hr0⟩ : ∃ r, reach f m k = r := ⟨_, rfl⟩
        rw [hr0] at hr hrp hor
        rw [hs0] at hor
        have hsn : (partsTo f m (k + 1)).2 = s ||| r := by rw [hnew, hs0, hr0]
        have hpn : (partsTo f m (k + 1)).1 = (partsTo f m k).1 ++ [r] := by rw [hnew, hr0]
        rw [hs0] at HH ⊢
        have HR := Lib.hid hr
        have HSN := Lib.hid hsn
        have HPN := Lib.hid hpn
        have HRP := Lib.hid hrp
        clear hh hb hfa hg hx hTs hJs hr hrp hnew hs0 hr0 hsn hpn
        gi_wp2_with (first
          | (refine ⟨trivial, ?_⟩; gi_at_call 21; refine (callsIn_wide.2 (HH.out _)).mono ?_; rintro e w' ⟨rfl, rfl⟩)
          | (refine load_graph_in rfl _ rfl _ m f rfl HG.out ?_)
          | (refine ⟨trivial, ?_⟩; gi_at_call 29; refine (callsIn_wide.2 (partOf_any m f HF8.out k (by omega) r HR.out _ HT.out)).mono ?_; rintro e w1 ⟨rfl, hb1⟩; obtain ⟨fn, tmps, assign, body, hy, hR⟩ := hY pre ⟨r, HRP.out⟩ w1 (hJ pre wr w1 none HJ.out (grown_of_below hb1) (by simp)) hlen; dsimp only at hy))
        refine hR.mono ?_
        rintro e W3 (⟨rfl, hJ3, hk3⟩ | ⟨rfl, hJx3⟩)
        · gi_wp2
          go_roundw
          case rel => exact ⟨pre ++ [⟨r, HRP.out⟩], k + 1, by omega, by rw [HSN.out], by go_num, by rw [HPN.out, ← HX.out]; simp, hJ3, (HT.out.later hb1).below hk3.1 hn₀, hk3.2.trans ((hb1.block _ hlt1).trans HG.out)⟩
          case measure => simp [intOf]; omega
        · gi_wp2
          refine bodyPost_ret (results_none rfl _ _ _) rfl ?_
          refine ⟨⟨_, rfl⟩, .inr ⟨pre ++ [⟨r, HRP.out⟩], ?_, hJx3⟩⟩
          have e : List.map (·.1) (pre ++ [(⟨r, HRP.out⟩ : PartT m)]) = (partsTo f m (k + 1)).1 := by rw [HPN.out, ← HX.out]; simp
          rw [e]
          exact partsTo_prefix f m (by omega)
    · obtain rfl : k = m := by omega
      have HX := Lib.hid hx
      clear hx hg
      gi_wp2
      go_end0
      exact ⟨⟨_, rfl⟩, .inl ⟨pre, HX.out, hJs⟩⟩

/-- The value that hands out a graph's parts, the graph in block Bg. -/
abbrev partsSeq (Bg : Nat) : Value := .func (.func 28) #[] #[.pointer (some ⟨Bg, 0, none⟩)]

theorem parts_stops (n : Nat) (hn : 1 ≤ n) (Bg n₀ : Nat) (m : Nat) (f : Nat → Nat) (h8 : m ≤ 8) (hf : ∀ i, f i < 2 ^ m) (w : World) (hn₀ : 1 < n₀) (hB : Bg < w.heap.size)
    (hc : w.heap[Bg]? = some (.cells (gcells m f) 41 (0, 0))) (hT : Tab w) :
    SeqStopsK Fence.wide n Tryd.prog 28 #[.pointer (some ⟨Bg, 0, none⟩)] (fun x : PartT m => #[Value.int .i64 (x.1 : Int)]) (KeepsB n₀ Bg) (fun ys => ys.map (·.1) = (partsTo f m m).1) (fun pre => pre.map (·.1) <+: (partsTo f m m).1) 8 w :=
  fun l J Jx W hW hJ _ hY h0 => parts1_in n hn l Bg n₀ m f h8 hf hn₀ J Jx hY W hJ ((hW.block _ hB).trans hc) (hT.later hW) h0

set_option maxHeartbeats 400000 in
theorem parts_any (m : Nat) (f : Nat → Nat) (w : World) :
    Calls Tryd.prog 19 #[.agg (gcells m f)] w fun e w' => e = .returned (partsSeq w.heap.size) ∧ w' = w.alloc (.cells (gcells m f) 41) := by
  go_enter Tryd.func19, Tryd.ntmps19
  go_wp2
  go_ret
  exact ⟨rfl, rfl⟩

end Go.Proofs.YtbjpokjllkblaaaDoor
