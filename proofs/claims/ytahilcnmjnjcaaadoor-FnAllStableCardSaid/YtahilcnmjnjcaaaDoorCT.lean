/-
  CT: KeepsU Compl RangeU MktPairs.
-/
import Derived.Test.YtahilcnmjnjcaaaDoorAllB
import Derived.Test.YtahilcnmjnjcaaaDoorMarks
import Derived.Test.YtahilcnmjnjcaaaDoorNest
import Derived.RangeFuncWrites
import Derived.Maps.AppendAt
import Derived.Test.YtahilcnmjnjcaaaDoorCompMath
import Derived.Test.YtahilcnmjnjcaaaDoorConcat
import Derived.Test.YtahilcnmjnjcaaaDoorOnceIn
import Derived.Test.YtahilcnmjnjcaaaDoorSide1
/-
  What stays while orders are given out: the tables, all cells but those of lists of lists, and what is no cells.
-/
namespace Go.Proofs.YtahilcnmjnjcaaaDoor
set_option linter.unusedVariables false
set_option linter.unusedSimpArgs false
open Go.RowKit

structure KeepsU (B : Nat) (X Y : World) : Prop where
  low : Below (1 + 1) X Y
  cells : ∀ (k : Nat) (c : Array Value) (t : TypeId) (fr : Nat × Nat), X.heap[k]? = some (.cells c t fr) → t ≠ 39 → t ≠ 22 → Y.heap[k]? = some (.cells c t fr)
  other : ∀ (k : Nat) (o : Obj), B ≤ k → X.heap[k]? = some o → o.isCells = false → Y.heap[k]? = some o
theorem KeepsU.refl (B : Nat) (X : World) : KeepsU B X X := ⟨Below.refl _ _, fun _ _ _ _ h _ _ => h, fun _ _ _ h _ => h⟩
theorem KeepsU.trans {B : Nat} {X Y Z : World} (h : KeepsU B X Y) (k : KeepsU B Y Z) : KeepsU B X Z :=
  ⟨h.low.trans k.low, fun i c t fr hi h1 h2 => k.cells i c t fr (h.cells i c t fr hi h1 h2) h1 h2, fun i o hb hi ho => k.other i o hb (h.other i o hb hi ho) ho⟩
theorem KeepsU.below {B : Nat} {X Y : World} (h : Below X.heap.size X Y) (ht : 1 < X.heap.size) : KeepsU B X Y :=
  ⟨h.mono (by omega), fun i c t fr hi _ _ => (h.block i (Array.getElem?_eq_some_iff.1 hi).1).trans hi, fun i o _ hi _ => (h.block i (Array.getElem?_eq_some_iff.1 hi).1).trans hi⟩
theorem KeepsU.size {B : Nat} {X Y : World} (h : KeepsU B X Y) : X.heap.size ≤ Y.heap.size := h.low.size
/-- New blocks may turn. -/
theorem KeepsU.grown {B : Nat} {X Y Z : World} {row : Option Nat} (h : KeepsU B X Y) (ht : 1 < X.heap.size) (hg : Y.grownBy Z row) (hr : ∀ r, row = some r → X.heap.size ≤ r) : KeepsU B X Z := by
  have hb : ∀ k, k < X.heap.size → Z.heap[k]? = Y.heap[k]? := fun k hk => hg.block k (Nat.lt_of_lt_of_le hk h.size) (fun e => by have := hr k e.symm; omega)
  refine ⟨⟨hg.os.trans h.low.os, hg.tape.trans h.low.tape, hg.output.trans h.low.output, Nat.le_trans h.size hg.size, fun k hk => (hb k (by omega)).trans (h.low.block k hk)⟩, fun i c t fr hi h1 h2 => ?_, fun i o hbi hi ho => ?_⟩
  · exact (hb i (Array.getElem?_eq_some_iff.1 hi).1).trans (h.cells i c t fr hi h1 h2)
  · exact (hb i (Array.getElem?_eq_some_iff.1 hi).1).trans (h.other i o hbi hi ho)
theorem KeepsU.lower {B B' : Nat} {X Y : World} (h : KeepsU B X Y) (hB : B ≤ B') : KeepsU B' X Y := ⟨h.low, h.cells, fun i o hb => h.other i o (Nat.le_trans hB hb)⟩
theorem KeepsU.from {B B' : Nat} {X Y : World} (h : KeepsU B X Y) (hB : B ≤ B') : KeepsFrom B' X Y := ⟨h.size, fun i o hb hi ho => h.other i o (Nat.le_trans hB hb) hi ho⟩
theorem Tab.keepsU {B : Nat} {X Y : World} (h : Tab X) (k : KeepsU B X Y) : Tab Y := h.below k.low (by omega)
theorem owns_keepsU {B : Nat} {X Y : World} {b n : Nat} {v : Value} {xs : List Value} (h : X.ownsRow b 3 1 v n xs) (k : KeepsU B X Y) : Y.ownsRow b 3 1 v n xs := by
  refine ⟨h.1, ?_⟩
  rcases h.2 with hn | ⟨g, cap, cur, hv, hb, hg, rest⟩
  · exact .inl hn
  · exact .inr ⟨g, cap, cur, hv, hb, k.cells _ _ _ _ hg (by decide) (by decide), rest⟩
theorem box_keepsU {B : Nat} {X Y : World} {b : Nat} {v : Value} {t : TypeId} (h : Boxed X b t v) (k : KeepsU B X Y) (h1 : t ≠ 39) (h2 : t ≠ 22) : Boxed Y b t v := k.cells _ _ _ _ h h1 h2

end Go.Proofs.YtahilcnmjnjcaaaDoor

/-
  (impl.order).completed: all orders that begin so are given out, in order.
-/
namespace Go.Proofs.YtahilcnmjnjcaaaDoor
set_option linter.unusedVariables false
set_option linter.unusedSimpArgs false
open Go.RowKit Go.Shelf
attribute [local go_sem] Oper.semAt_some

theorem roundIn_any {n n' : Nat} {P : Program} {l : Nat} {f : FuncId} {tmps : Array Value} {assign body : Code} {w : World} {R : Ending → World → Prop} (h : RoundIn Fence.wide n P l f tmps assign body w R) : RoundIn Fence.wide n' P l f tmps assign body w R :=
  ⟨h.1, fun c cs _ => h.2 c cs (room_wide _)⟩

/-- What the one who asks for orders does with each. -/
def Takes (l B0 Bj N : Nat) (Good : List Int → Prop) (J : List (List Int) → World → Prop) : Prop :=
  ∀ (pre : List (List Int)) (b c : Nat) (xs : List Int) (wB W1 : World), J pre wB → pre.length < N → Bj ≤ wB.heap.size → Below wB.heap.size wB W1 → Owns W1 wB.heap.size (.slice (some ⟨b, 0, none⟩) xs.length c) xs → Good xs →
    YieldAt Fence.wide 0 Tryd.prog l #[.slice (some ⟨b, 0, none⟩) xs.length c] W1 fun e W' => e = .returned (.bool true) ∧ J (pre ++ [xs]) W' ∧ KeepsU B0 W1 W'

theorem boxes4 (W : World) (t1 t2 t3 t4 : TypeId) (v1 v2 v3 v4 : Value) {W1 : World} (h : (((W.alloc (.cells #[v1] t1)).alloc (.cells #[v2] t2)).alloc (.cells #[v3] t3)).alloc (.cells #[v4] t4) = W1) :
    Boxed W1 W.heap.size t1 v1 ∧ Boxed W1 (W.heap.size + 1) t2 v2 ∧ Boxed W1 (W.heap.size + 1 + 1) t3 v3 ∧ Boxed W1 (W.heap.size + 1 + 1 + 1) t4 v4 ∧ Below W.heap.size W W1 ∧ W1.heap.size = W.heap.size + 1 + 1 + 1 + 1 := by
  subst h
  have h2 := Boxed.new (W.alloc (.cells #[v1] t1)) t2 v2
  have h3 := Boxed.new ((W.alloc (.cells #[v1] t1)).alloc (.cells #[v2] t2)) t3 v3
  have h4 := Boxed.new (((W.alloc (.cells #[v1] t1)).alloc (.cells #[v2] t2)).alloc (.cells #[v3] t3)) t4 v4
  simp only [World.size_alloc] at h2 h3 h4
  exact ⟨(((Boxed.new W t1 v1).alloc _).alloc _).alloc _, (h2.alloc _).alloc _, h3.alloc _, h4, ((((Below.refl _ _).alloc (Nat.le_refl _) _).alloc (by simp) _).alloc (by simp; omega) _).alloc (by simp; omega) _, by simp⟩

/-- What is known of the orders given out speaks of no box of a bool, and of nothing new that is no cells. -/
structure ClosedJ (Bj : Nat) (J : List (List Int) → World → Prop) : Prop where
  own : OwnFrom Bj J
  box : ∀ s X r u v, J s X → Bj ≤ r → Boxed X r 4 u → J s (X.setCell ⟨r, 0, none⟩ v)
theorem ClosedJ.below {Bj : Nat} {J : List (List Int) → World → Prop} (h : ClosedJ Bj J) {s : List (List Int)} {X Y : World} (hj : J s X) (hb : Below X.heap.size X Y) : J s Y :=
  h.own s X Y none hj ⟨hb.os, hb.tape, hb.output, hb.size, fun k hk _ => hb.block k hk⟩ (fun r e => by cases e)

set_option maxRecDepth 100000 in
set_option maxHeartbeats 2000000 in
theorem compl_zero (l B0 Bj N : Nat) (Good : List Int → Prop) (J : List (List Int) → World → Prop) (hJ : ClosedJ Bj J) (HY : Takes l B0 Bj N Good J) (W wB : World) (beg : List Int) (b c : Nat) (pre : List (List Int)) (hg : Good beg)
    (hj : J pre wB) (hpN : pre.length < N) (hBj : Bj ≤ wB.heap.size) (hB : Below wB.heap.size wB W) (ho : Owns W wB.heap.size (.slice (some ⟨b, 0, none⟩) beg.length c) beg) (hT : 1 < W.heap.size) :
    Calls Tryd.prog 72 #[.slice (some ⟨b, 0, none⟩) beg.length c, .int .i64 0, .func (.yield l) #[] #[]] W fun e W' => e = .returned (.bool true) ∧ J (pre ++ [beg]) W' ∧ KeepsU B0 W W' := by
  obtain ⟨n, hn⟩ : ∃ n, beg.length = n := ⟨_, rfl⟩
  obtain ⟨W1, hW1⟩ : ∃ W1, (((W.alloc (.cells #[.slice (some ⟨b, 0, none⟩) n c] 66)).alloc (.cells #[.int .i64 0] 91)).alloc (.cells #[.func (.yield l) #[] #[]] 67)).alloc (.cells #[.bool false] 4) = W1 := ⟨_, rfl⟩
  obtain ⟨x0, x1, x2, x3, hb1, -⟩ := boxes4 W 66 91 67 4 _ _ _ _ hW1
  obtain ⟨fn, tmps, assign, body, hy, hR⟩ := HY pre b c beg wB W1 hj hpN hBj (step_below hB hb1) (owns_below ho hb1) hg
  rw [hn] at hy
  have HR := Lib.hid hR
  have HB1 := Lib.hid hb1
  have HJ := Lib.hid hJ
  have HX := Lib.hid x3
  have HT := Lib.hid hT
  have HBJ := Lib.hid (show Bj ≤ W.heap.size from Nat.le_trans hBj hB.size)
  have c0 := x0.cell
  have c1 := x1.cell
  have c2 := x2.cell
  rw [hn]
  clear HY hj hB ho hg hR hb1 hJ hn hT hBj hpN x0 x1 x2 x3
  refine (callsIn_wide (n := 9)).1 ?_
  refine callsIn_of_wp Tryd.func72 rfl trivial ?_ rfl
  simp only [Tryd.ntmps72, List.size_toArray, List.length_cons, List.length_nil, Nat.reduceAdd, Nat.reduceSub, Array.replicate_succ, Array.replicate_zero, List.push_toArray, List.append_toArray, List.nil_append, List.cons_append]
  gi_wp2
  refine (roundIn_any HR.out).mono ?_
  rintro e W2 ⟨rfl, hJ2, hk2⟩
  have hx2 := box_keepsU HX.out hk2 (by decide) (by decide)
  have hc2 := hx2.cell
  have hf2 := hx2.frozen
  have HE := Lib.hid (And.intro (HJ.out.box _ _ _ _ (.bool true) hJ2 (by have := HBJ.out; omega) hx2) (((KeepsU.below HB1.out HT.out : KeepsU B0 W W1).trans hk2).grown HT.out (grownBy_setCell' W2 (W.heap.size + 1 + 1 + 1) (.bool true)) (fun r e => by cases e; omega)))
  have HS := Lib.hid (hx2.set (.bool true)).cell
  clear hJ2 hk2 hx2 c0 c1 c2
  gi_wp2
  refine bodyPost_ret (v := .bool true) (by simp [results, Tryd.f72, go_sem, HS.out]) rfl ⟨rfl, HE.out⟩

/-- A call with as many members left as told. -/
def ComplAt (l B0 Bj N : Nat) (Good : List Int → Prop) (J : List (List Int) → World → Prop) (d : Nat) : Prop :=
  ∀ (W wB : World) (left : Nat) (beg : List Int) (b c : Nat) (pre : List (List Int)), left < 256 → (bitsOf left).length = d → beg.length + d ≤ 100 → (∀ p ∈ comp d left beg, Good p) → J pre wB → pre.length + 8 ^ d ≤ N → Bj ≤ wB.heap.size → Below wB.heap.size wB W →
    Owns W wB.heap.size (.slice (some ⟨b, 0, none⟩) beg.length c) beg → Tab W →
    Calls Tryd.prog 72 #[.slice (some ⟨b, 0, none⟩) beg.length c, .int .i64 (left : Int), .func (.yield l) #[] #[]] W fun e W' => e = .returned (.bool true) ∧ J (pre ++ comp d left beg) W' ∧ KeepsU B0 W W'

set_option maxRecDepth 100000 in
set_option maxHeartbeats 4000000 in
theorem compl_succ (l B0 Bj N : Nat) (hBB : B0 ≤ Bj) (Good : List Int → Prop) (J : List (List Int) → World → Prop) (hJ : ClosedJ Bj J) (d : Nat) (IH : ComplAt l B0 Bj N Good J d) : ComplAt l B0 Bj N Good J (d + 1) := by
  intro W wB s beg b c pre hs hd hlen hg hj hpN hBj hB ho hT
  have h0 : s ≠ 0 := by
    intro e
    rw [e, bitsOf_zero] at hd
    simp at hd
  have hne : ((s : Int) == 0) = false := by rw [beq_eq_false_iff_ne]; omega
  obtain ⟨n, hn⟩ : ∃ n, beg.length = n := ⟨_, rfl⟩
  rw [hn] at hlen ho ⊢
  obtain ⟨W1, hW1⟩ : ∃ W1, (((W.alloc (.cells #[.slice (some ⟨b, 0, none⟩) n c] 66)).alloc (.cells #[.int .i64 (s : Int)] 91)).alloc (.cells #[.func (.yield l) #[] #[]] 67)).alloc (.cells #[.bool false] 4) = W1 := ⟨_, rfl⟩
  obtain ⟨x0, x1, x2, x3, hb1, hs1⟩ := boxes4 W 66 91 67 4 _ _ _ _ hW1
  have c0 := x0.cell
  have c1 := x1.cell
  have c2 := x2.cell
  have HX := Lib.hid (And.intro x0 (And.intro x1 (And.intro x2 x3)))
  have HB1 := Lib.hid hb1
  have HS1 := Lib.hid hs1
  have HO := Lib.hid ho
  have HIH := Lib.hid IH
  have HG := Lib.hid hg
  have HJ := Lib.hid hJ
  have HN := Lib.hid hn
  have HD := Lib.hid hd
  have HPN := Lib.hid hpN
  have HB := Lib.hid (And.intro hj (And.intro hBj (And.intro hB hT)))
  clear IH hg hJ hj hpN hBj hB ho hT hb1 x0 x1 x2 x3 hs1 hn hd
  refine (callsIn_wide (n := 9)).1 ?_
  refine callsIn_of_wp_marks Tryd.func72 rfl trivial ?_ rfl
  simp only [Tryd.ntmps72, List.size_toArray, List.length_cons, List.length_nil, Nat.reduceAdd, Nat.reduceSub, Array.replicate_succ, Array.replicate_zero, List.push_toArray, List.append_toArray, List.nil_append, List.cons_append]
  gi_wp2_with (refine ⟨trivial, ?_⟩; gi_at_call 83; refine (callsIn_wide.2 (all_any s _)).mono ?_; rintro e w' ⟨rfl, rfl⟩)
  clear hW1 c0 c1 c2
  obtain ⟨W4, hW4⟩ : ∃ W4, W1.alloc (.cells #[.int .i64 (s : Int)] 91) = W4 := ⟨_, rfl⟩
  rw [hW4]
  have hb14 : Below W1.heap.size W1 W4 := by rw [← hW4]; exact (Below.refl _ _).alloc (Nat.le_refl _) _
  have hst4 : W4.heap[W1.heap.size]? = some (.cells #[.int .i64 (s : Int)] 91 (0, 0)) := by rw [← hW4]; exact World.alloc_heap_new _ _
  have hz4 : W4.heap.size = W1.heap.size + 1 := by rw [← hW4]; simp
  have hb4 := step_below HB1.out hb14
  have hT4 := HB.out.2.2.2.later hb4
  have htl : 1 < W.heap.size := HB.out.2.2.2.lt
  have hs1' := HS1.out
  have hkW : KeepsU B0 W W4 := KeepsU.below hb4 htl
  have hJ4 : J pre W4 := HJ.out.below HB.out.1 (step_below HB.out.2.2.1 hb4)
  have hBW : wB.heap.size ≤ W.heap.size := HB.out.2.2.1.size
  have hBj := HB.out.2.1
  have HW4 := Lib.hid (And.intro hb4 (And.intro hz4 (And.intro htl (And.intro hkW (And.intro hT4 (And.intro hBW (And.intro hBj (And.intro hs1' hb14))))))))
  have HI0 : Hid (J (pre ++ compTo d s beg []) W4 ∧ KeepsU B0 W4 W4) := Lib.hid ⟨by simpa [compTo] using hJ4, KeepsU.refl _ _⟩
  clear hW4 hkW hJ4
  refine wpIn_rangeFunc_ownG rfl (by decide) (gf := 90) (lb := #[.pointer (some ⟨W1.heap.size, 0, none⟩)]) rfl trivial (enters_of Tryd.func90 (by kernel_rfl) rfl)
    (all_stopsB (9 - 1) (by decide) W1.heap.size (1 + 1) s hs W4 (by omega) (by omega) (cell_of_one hst4) hT4) belowK_t (belowK_b (by omega)) (Below.refl _ _) (fun _ => rfl)
    (fun lst X => J (pre ++ compTo d s beg (lst.map (fun x => x.1.val))) X ∧ KeepsU B0 W4 X) (fun _ _ _ => False)
    (fun lst X Y row hh hg hr => ⟨HJ.out.own _ X Y row hh.1 hg (fun r e => ⟨by have := (hr r e).1; omega, (hr r e).2⟩), hh.2.grown (by omega) hg (fun r e => (hr r e).1)⟩)
    (fun c => ownFrom_pure _ (fun _ => False)) HI0.out
    (fun x => { tmps := #[.slice (some ⟨b, 0, none⟩) n c, .int .i64 (s : Int), .func (.yield l) #[] #[], .pointer (some ⟨W.heap.size, 0, none⟩), .pointer (some ⟨W.heap.size + 1, 0, none⟩), .pointer (some ⟨W.heap.size + 1 + 1, 0, none⟩), .pointer (some ⟨W.heap.size + 1 + 1 + 1, 0, none⟩), .int .i64 ((x.1.val : Nat) : Int), undef, .int .i64 (s : Int), .bool false, undef, undef, undef, .int .i64 (s : Int), seqOf W1.heap.size, .int .i64 ((x.1.val : Nat) : Int), undef, undef, undef, undef, undef, undef, undef, undef, undef, undef, undef, undef], defers := [] })
    ?assign ?body ?done ?stop
  case assign =>
    intro l x X K hK
    clear hs1'
    gi_wp2
    exact hK
  case body =>
    rintro l2 lst x X ⟨hJX, hkX⟩ hll
    obtain ⟨v, hv⟩ : ∃ v, x.1.val = v := ⟨_, rfl⟩
    have hv8 : v < 8 := by rw [← hv]; exact x.1.isLt
    have hvm : s.testBit v = true := by rw [← hv]; exact x.2
    obtain ⟨ls, hls⟩ : ∃ ls, lst.map (fun x => x.1.val) = ls := ⟨_, rfl⟩
    have hsn : (lst ++ [x]).map (fun x => x.1.val) = ls ++ [v] := by rw [List.map_append, hls]; simp [hv]
    rw [hls] at hJX
    have hpl : (pre ++ compTo d s beg ls).length + 8 ^ d ≤ N := by
      have h1 : ls.length < 8 := by
        have h2 : (bitsOf s).length ≤ 8 := by unfold bitsOf; refine Nat.le_trans (List.length_filter_le _ _) ?_; simp
        rw [← hls, List.length_map]; omega
      have h3 := compTo_count d s beg ls
      have h4 : ls.length * 8 ^ d ≤ 7 * 8 ^ d := Nat.mul_le_mul_right _ (by omega)
      have h5 := HPN.out
      rw [Nat.pow_succ] at h5
      rw [List.length_append]
      omega
    clear hll
    obtain ⟨t, ht⟩ : ∃ t, wo8 s v = t := ⟨_, rfl⟩
    have htl8 : t < 256 := by rw [← ht]; exact wo8_lt hs
    have hlt : (bitsOf t).length = d := by
      have h1 := wo8_len hs hv8 hvm
      have h2 := HD.out
      rw [ht] at h1
      omega
    have hsz := hkX.size
    have hb01 := HB1.out
    have hkWX : KeepsU B0 W X := HW4.out.2.2.2.1.trans hkX
    have hoX : Owns X wB.heap.size (.slice (some ⟨b, 0, none⟩) n c) beg := by
      have := owns_keepsU HO.out hkWX
      exact this
    obtain ⟨x0, x1, x2, x3⟩ := HX.out
    have y0 := box_keepsU ((hb14.block _ x0.lt).trans x0 : Boxed W4 _ _ _) hkX (by decide) (by decide)
    have y1 := box_keepsU ((hb14.block _ x1.lt).trans x1 : Boxed W4 _ _ _) hkX (by decide) (by decide)
    have y2 := box_keepsU ((hb14.block _ x2.lt).trans x2 : Boxed W4 _ _ _) hkX (by decide) (by decide)
    obtain ⟨X2, hX2⟩ : ∃ X2, (X.alloc (.cells #[.int .i64 (v : Int)] 3)).alloc (.cells #[.slice (some ⟨b, 0, none⟩) n c, .slice (some ⟨X.heap.size, 0, none⟩) 1 1] 66) = X2 := ⟨_, rfl⟩
    have hbX2 : Below X.heap.size X X2 := by rw [← hX2]; exact ((Below.refl _ _).alloc (Nat.le_refl _) _).alloc (by simp) _
    have hq : X2.heap[X.heap.size + 1]? = some (.cells #[.slice (some ⟨b, 0, none⟩) n c, .slice (some ⟨X.heap.size, 0, none⟩) 1 1] 66 (0, 0)) := by
      rw [← hX2]
      have := World.alloc_heap_new (X.alloc (.cells #[.int .i64 (v : Int)] 3)) (.cells #[.slice (some ⟨b, 0, none⟩) n c, .slice (some ⟨X.heap.size, 0, none⟩) 1 1] 66)
      rwa [World.size_alloc] at this
    have hxv : X2.cell? ⟨X.heap.size, 0, none⟩ = some (.int .i64 (v : Int)) := by
      rw [← hX2]
      exact ((Boxed.new X 3 (.int .i64 (v : Int))).alloc _).cell
    have hcc := concat_any X2 (X.heap.size + 1) b 0 c X.heap.size beg (v : Int) (by rw [HN.out]; exact (ints_of_owns hoX).below hbX2) (by rw [HN.out]; omega) (by rw [HN.out, cell_of_row _ _ _ _ _ _ hq]; rfl) (by rw [cell_of_row _ _ _ _ _ _ hq]; rfl) hxv
    rw [HN.out] at hcc
    have HCC := Lib.hid hcc
    have hJcl : ∀ Y, Below X.heap.size X Y → J (pre ++ compTo d s beg ls) Y := fun Y hY => HJ.out.below hJX hY
    have hBX : Bj ≤ X.heap.size := by omega
    have HNX := Lib.hid (fun (X3 : World) (g3 c3 : Nat) (hb3 : Below X2.heap.size X2 X3) (ho3 : Owns X3 X2.heap.size (.slice (some ⟨g3, 0, none⟩) (n + 1) c3) (beg ++ [(v : Int)])) => by
      have hbX3 := step_below hbX2 hb3
      have hl2 : (beg ++ [(v : Int)]).length = n + 1 := by rw [List.length_append, HN.out]; rfl
      have := HIH.out X3.drew X t (beg ++ [(v : Int)]) g3 c3 (pre ++ compTo d s beg ls) htl8 hlt (by rw [hl2]; omega) (fun p hp => HG.out p (by
        show p ∈ (elems s).flatMap _
        exact List.mem_flatMap.2 ⟨v, mem_elems.2 ⟨hv8, hvm⟩, by rw [ht]; exact hp⟩)) hJX hpl hBX ⟨hbX3.os, hbX3.tape, hbX3.output, hbX3.size, hbX3.block⟩ (by rw [hl2]; exact owns_mono ho3 hbX2.size) (((HW4.out.2.2.2.2.1.keepsU hkX).later hbX3).later (Below.refl _ X3).drew)
      rw [hl2, List.append_assoc, show compTo d s beg ls ++ comp d t (beg ++ [(v : Int)]) = compTo d s beg (ls ++ [v]) by rw [compTo_snoc, ht]] at this
      exact this)
    have hwo : ∀ W, Calls Tryd.prog 85 #[.int .i64 (s : Int), .int .i64 (v : Int)] W fun e w' => e = .returned (.int .i64 (t : Int)) ∧ W = w' := fun W => by
      rw [← ht]; exact without_any s v hs hv8 W
    have HWO := Lib.hid hwo
    have HY := Lib.hid (And.intro y0 (And.intro y1 (And.intro y2 (And.intro hbX2 (And.intro hkX (And.intro hsn hsz))))))
    have c0 := y0.cell
    rw [hv]
    clear hs1' hz4 hb4 hb14 hst4 hT4 htl hBW hBj hv hls hsn ht htl8 hlt hsz hb01 hkWX hoX x0 x1 x2 x3 y0 y1 y2 hbX2 hq hxv hcc hJcl hBX hpl hwo hkX hJX hvm hv8
    gi_wp2_with (refine ⟨trivial, ?_⟩; gi_at_call 84; refine (CallsIn.inRound l2 (callsIn_wide.2 HCC.out)).mono ?_; rintro e X3 ⟨g3, c3, rfl, hb3, ho3⟩)
    clear hX2 c0
    have HI3 := Lib.hid (HNX.out X3 g3 c3 hb3 ho3)
    obtain ⟨y0, y1, y2, hbX2, hkX, hsn, hsz⟩ := HY.out
    have hbX3 := step_below hbX2 hb3
    have z1 : Boxed X3 (W.heap.size + 1) 91 (.int .i64 (s : Int)) := kept_obj hbX3 y1
    have z2 : Boxed X3 (W.heap.size + 1 + 1) 67 (.func (.yield l) #[] #[]) := kept_obj hbX3 y2
    have c1 : X3.drew.cell? ⟨W.heap.size + 1, 0, none⟩ = some (.int .i64 (s : Int)) := z1.cell
    have c2 : X3.drew.cell? ⟨W.heap.size + 1 + 1, 0, none⟩ = some (.func (.yield l) #[] #[]) := z2.cell
    have hfo : Tryd.prog.follows Departure.mixedOrders = true := by kernel_rfl
    have HB3 := Lib.hid hbX3
    clear hb3 ho3 y0 y1 y2 z1 z2 hbX2 hkX hsn hsz hbX3
    apply onceIn_zero (fun (Z : World) => J (pre ++ compTo d s beg (ls ++ [v])) Z ∧ KeepsU B0 X3.drew Z)
    case h1 =>
      gi_region_with_o (first
        | (refine ⟨trivial, ?_⟩; gi_at_call 85; refine (CallsIn.inRound l2 (callsIn_wide.2 (HWO.out _))).mono ?_; rintro e w' ⟨rfl, rfl⟩)
        | (gi_at_call 85; refine (CallsIn.inRound l2 (callsIn_wide.2 (HWO.out _))).mono ?_; rintro e w' ⟨rfl, rfl⟩)
        | (refine ⟨trivial, ?_⟩; gi_at_call 72; refine (CallsIn.inRound l2 (callsIn_wide.2 HI3.out)).mono ?_; rintro e Z ⟨rfl, hjZ, hkZ⟩)
        | (gi_at_call 72; refine (CallsIn.inRound l2 (callsIn_wide.2 HI3.out)).mono ?_; rintro e Z ⟨rfl, hjZ, hkZ⟩))
      all_goals exact ⟨⟨hjZ, hkZ⟩, rfl⟩
    rintro Z ⟨hjZ, hkZ⟩
    have HZ := Lib.hid (And.intro hjZ hkZ)
    clear hjZ hkZ c1 c2
    gi_wp2
    obtain ⟨hjZ, hkZ⟩ := HZ.out
    obtain ⟨y0, y1, y2, hbX2, hkX, hsn, hsz⟩ := HY.out
    have hb3 := HB3.out
    have hkXZ : KeepsU B0 X Z := (KeepsU.below (Y := X3.drew) ⟨hb3.os, hb3.tape, hb3.output, hb3.size, hb3.block⟩ (by have := HW4.out.2.2.1; have := HW4.out.1.size; omega)).trans hkZ
    refine ⟨hkXZ.from (by have := HW4.out.1.size; have := HW4.out.2.2.2.2.2.1; have := HW4.out.2.2.2.2.2.2.1; omega), hkXZ.low, ?_, hkX.trans hkXZ⟩
    rw [hsn]
    exact hjZ
  case done =>
    rintro Dd ys X hDd hys ⟨hJX, hkX⟩ hKD
    have e1 : ys.map (fun x => x.1.val) = elems s := by unfold elems; rw [← hys, List.map_map]; rfl
    rw [e1, compTo_all] at hJX
    obtain ⟨x0, x1, x2, x3⟩ := HX.out
    have y3 := box_keepsU ((hb14.block _ x3.lt).trans x3 : Boxed W4 _ _ _) hkX (by decide) (by decide)
    have hkWX : KeepsU B0 W X := HW4.out.2.2.2.1.trans hkX
    have hc := y3.cell
    have hf := y3.frozen
    have HE := Lib.hid (And.intro hJX (And.intro hkWX (And.intro y3 (And.intro hKD (And.intro (show W.heap.size ≤ Dd by omega) (And.intro htl (show Bj ≤ W.heap.size by omega)))))))
    clear hJX hkX hkWX y3 x0 x1 x2 x3 hKD e1 hys hs1' hz4 hb4 hb14 hst4 hT4 htl hBW hBj
    gi_wp2
    obtain ⟨hJX, hkWX, y3, hKD, hDw, htl, hBW⟩ := HE.out
    have y4 := y3.set (.bool true)
    have hjE := HJ.out.box _ _ _ _ (.bool true) hJX (by omega) y3
    have hkE := hkWX.grown htl (grownBy_setCell' X (W.heap.size + 1 + 1 + 1) (.bool true)) (fun r e => by cases e; omega)
    refine leaves_marks (F := Fence.wide) (n := 9) W.heap.size (fun Z => J (pre ++ comp (d + 1) s beg) Z ∧ KeepsU B0 W Z ∧ Boxed Z (W.heap.size + 1 + 1 + 1) 4 (.bool true)) ?_ ?_ _ _ (((Marks.nil _ _).cons hDw hKD (by simp)).grown (grownBy_setCell' _ _ _) y3 rfl) ⟨hjE, hkE, y4⟩
    · rintro Z D hD hk ⟨h1, h2, h3⟩
      have hg := grownBy_putObj' Z D (.deferred none)
      refine ⟨HJ.out.own _ Z _ _ h1 hg (fun r e => by cases e; exact ⟨by omega, _, hk, rfl⟩), h2.grown htl hg (fun r e => by cases e; exact hD), (World.putObj_heap_other (fun e => ?_)).trans h3⟩
      have h3' : Z.heap[W.heap.size + 1 + 1 + 1]? = some (.cells #[.bool true] 4 (0, 0)) := h3
      rw [e, hk] at h3'
      cases h3'
    · rintro Z ⟨h1, h2, h3⟩
      have hc := h3.cell
      refine ⟨.bool true, ?_, rfl, h1, h2⟩
      simp [results, Tryd.f72, go_sem, hc]
  case stop =>
    rintro D c pre X hD hpre h hKD
    exact h.elim

/-- All orders that begin so are given out, in order. -/
theorem compl_any (l B0 Bj N : Nat) (hBB : B0 ≤ Bj) (Good : List Int → Prop) (J : List (List Int) → World → Prop) (hJ : ClosedJ Bj J) (HY : Takes l B0 Bj N Good J) : ∀ d, ComplAt l B0 Bj N Good J d
  | 0 => fun W wB left beg b c pre hs hd hlen hg hj hpN hBj hB ho hT => by
    obtain rfl : left = 0 := len_zero hs hd
    exact compl_zero l B0 Bj N Good J hJ HY W wB beg b c pre (hg beg (by simp [comp])) hj (by have := hpN; rw [Nat.pow_zero] at this; omega) hBj hB ho hT.lt
  | d + 1 => compl_succ l B0 Bj N hBB Good J hJ d (compl_any l B0 Bj N hBB Good J hJ HY d)

end Go.Proofs.YtahilcnmjnjcaaaDoor

/-
  A range over an iterator that hands out new lists: the body is told what the list is and that it is newer than all that was kept. No stop.
-/
namespace Go.Proofs.YtahilcnmjnjcaaaDoor
set_option linter.unusedVariables false
set_option linter.unusedSimpArgs false
open Go.RowKit Go.Shelf

/-- How the body of a round ends: off its end. -/
def roundEnd (B0 : Nat) (I : List (List Int) → World → Prop) (xs : List (List Int)) (W : World) : Exit → Act → World → Prop
  | .normal, _, W' => I xs W' ∧ KeepsU B0 W W'
  | _, _, _ => False
/-- A record of a loop turns, and all else stays. -/
theorem below_putBoth {X Y : World} (h : Below X.heap.size X Y) (r : Nat) (o : Obj) (hr : r < X.heap.size) : Below (X.putObj r o).heap.size (X.putObj r o) (Y.putObj r o) := by
  have hs : (X.putObj r o).heap.size = X.heap.size := by simp [World.putObj]
  refine ⟨h.os, h.tape, h.output, by simp [World.putObj]; exact h.size, fun k hk => ?_⟩
  by_cases e : k = r
  · subst e
    rw [World.putObj_heap_same hr, World.putObj_heap_same (Nat.lt_of_lt_of_le hr h.size)]
  · rw [World.putObj_heap_other e, World.putObj_heap_other e]
    exact h.block k (by omega)
theorem keepsU_put {B0 : Nat} {X Y : World} {r : Nat} {o o1 : Obj} (ht : 1 < r) (hX : X.heap[r]? = some o) (ho : o.isCells = false) (k : KeepsU B0 (X.putObj r o1) Y) : KeepsU B0 X (Y.putObj r o) := by
  have hr : r < X.heap.size := (Array.getElem?_eq_some_iff.1 hX).1
  have hs : (X.putObj r o1).heap.size = X.heap.size := by simp [World.putObj]
  have hsz := k.size
  rw [hs] at hsz
  refine ⟨⟨k.low.os, k.low.tape, k.low.output, by simp [World.putObj]; exact hsz, fun i hi => ?_⟩, fun i c t fr hi h1 h2 => ?_, fun i q hb hi hq => ?_⟩
  · rw [World.putObj_heap_other (by omega), k.low.block i hi, World.putObj_heap_other (by omega)]
  · have hne : i ≠ r := fun e => by subst e; rw [hX] at hi; cases hi; cases ho
    rw [World.putObj_heap_other hne]
    exact k.cells i c t fr ((World.putObj_heap_other hne).trans hi) h1 h2
  · by_cases e : i = r
    · subst e
      rw [hX] at hi
      cases hi
      exact World.putObj_heap_same (by omega)
    · rw [World.putObj_heap_other e]
      exact k.other i q hb ((World.putObj_heap_other e).trans hi) hq

theorem wpIn_range_lists {n : Nat} {g : Operand} {ps : Array Tmp} {assign body : Code} {Q : Exit → Act → World → Prop} {a : Act} {w : World} (h1 : 1 ≤ n) {gf : Nat} {lb : Array Value} (hg : a.eval g = .func (.func gf) #[] lb)
    (eg : ∀ args w, (callFunc gf args).run Tryd.prog w = .ok (.enter gf args) w) (hps : ps.size = 1) (N : Nat) (Good : List Int → Prop) (all : List (List Int)) (I : List (List Int) → World → Prop) (hI : ClosedJ w.heap.size I) (ht : 1 < w.heap.size)
    (hseq : ∀ (l : Nat) (J : List (List Int) → World → Prop) (W1 : World), Below w.heap.size w W1 → ClosedJ W1.heap.size J → Takes l w.heap.size W1.heap.size N Good J → J [] W1 →
      Calls Tryd.prog gf (#[.func (.yield l) #[] #[]] ++ lb) W1 fun e W' => (∃ v, e = .returned v) ∧ J all W')
    (h0 : I [] w) (a₁ : Value → Act)
    (hassign : ∀ (l : Nat) (v : Value) (W : World) (K : Act → World → Prop), K (a₁ v) W →
      assign.wpIn (Fence.wide.inRound l) (n - 1 - 1) Tryd.prog (Exit.then K (fun _ _ _ => False)) { tmps := (ps.zip #[v]).foldl (fun t (p, v) => t.setIfInBounds p v) a.tmps, defers := [] } W)
    (hbody : ∀ (l : Nat) (pre : List (List Int)) (b c : Nat) (xs : List Int) (wB W : World), I pre wB → pre.length < N → w.heap.size ≤ wB.heap.size → Below wB.heap.size wB W → Owns W wB.heap.size (.slice (some ⟨b, 0, none⟩) xs.length c) xs → Good xs →
      body.wpIn (Fence.wide.inRound l) (n - 1 - 1) Tryd.prog (roundEnd w.heap.size I (pre ++ [xs]) W) (a₁ (.slice (some ⟨b, 0, none⟩) xs.length c)) W)
    (hdone : ∀ (D : Nat) (W : World), w.heap.size ≤ D → I all W → W.heap[D]? = some (.deferred (some [])) → Q .normal { a with defers := { target := .collected D, args := #[] } :: a.defers } W) :
    (Code.rangeFunc g ps assign body).wpIn Fence.wide n Tryd.prog Q a w := by
  refine wpIn_rangeFunc fun fn hfn => ?_
  obtain ⟨rec, hrec⟩ : ∃ rec : LoopState → Loop, rec = fun st => { state := st, pending := none, fn, tmps := a.tmps, params := ps, assign, body, defers := w.heap.size } := ⟨_, rfl⟩
  obtain ⟨r, hr⟩ : ∃ r, r = w.heap.size + 1 := ⟨_, rfl⟩
  obtain ⟨W1, hW1⟩ : ∃ W1, (w.alloc (.deferred (some []))).alloc (.loop (rec .ready)) = W1 := ⟨_, rfl⟩
  have hs1 : W1.heap.size = w.heap.size + 1 + 1 := by rw [← hW1]; simp
  have hL : W1.heap[r]? = some (.loop (rec .ready)) := by
    have := World.alloc_heap_new (w.alloc (.deferred (some []))) (.loop (rec .ready))
    rw [World.size_alloc] at this
    rw [← hW1, hr]; exact this
  have hK : W1.heap[w.heap.size]? = some (.deferred (some [])) := by
    rw [← hW1]; exact (Below.heap_alloc _ _ _ (by simp)).trans (World.alloc_heap_new w _)
  have hb : Below w.heap.size w W1 := by rw [← hW1]; exact ((Below.refl _ _).alloc (Nat.le_refl _) _).alloc (by simp) _
  have hI1 : I [] W1 := hI.below h0 hb
  refine ⟨r, [{ target := .collected w.heap.size, args := #[] }], W1, { target := .fn (.func gf) lb, args := #[.func (.yield r) #[] #[]] }, W1, gf, #[.func (.yield r) #[] #[]] ++ lb, W1, ?_, ?_, ?_, ?_, fun _ => h1, ?_⟩
  · rw [← hW1, hrec, hr]; exact run_enterLoop_outer _ _ _ _ _
  · simp only [resolve, hg]
    simp [go_sem]
  · intro f' _; trivial
  · simp [invoke, go_sem, eg]
  · have hc : ClosedJ W1.heap.size (fun pre W => I pre W ∧ W.heap[r]? = some (.loop (rec .ready)) ∧ W.heap[w.heap.size]? = some (.deferred (some []))) := by
      refine ⟨fun s A B row hs hg' hrw => ⟨hI.own s A B row hs.1 hg' (fun q e => ⟨by have := (hrw q e).1; omega, (hrw q e).2⟩), ?_, ?_⟩, fun s X q u v hs hq hbx => ⟨hI.box s X q u v hs.1 (by omega) hbx, ?_, ?_⟩⟩
      · exact (hg'.block r (Array.getElem?_eq_some_iff.1 hs.2.1).1 (fun e => by have := (hrw r e.symm).1; omega)).trans hs.2.1
      · exact (hg'.block _ (Array.getElem?_eq_some_iff.1 hs.2.2).1 (fun e => by have := (hrw _ e.symm).1; omega)).trans hs.2.2
      · exact (Below.heap_setCell _ _ _ _ (by show r ≠ q; omega)).trans hs.2.1
      · exact (Below.heap_setCell _ _ _ _ (by show w.heap.size ≠ q; omega)).trans hs.2.2
    refine ((callsIn_wide (n := n - 1)).2 (hseq r _ W1 hb hc ?_ ⟨hI1, hL, hK⟩)).mono ?_
    · rintro pre b c xs wB X ⟨hi, hl, hk⟩ hpN hBj hBX hox hgd
      have hrB : r < wB.heap.size := by omega
      have hlX : X.heap[r]? = some (.loop (rec .ready)) := (hBX.block r hrB).trans hl
      have hy := run_yield (P := Tryd.prog) (args := #[.slice (some ⟨b, 0, none⟩) xs.length c]) hlX (by rw [hrec]; exact hps.symm)
      rw [hrec] at hy
      refine ⟨fn, _, assign, body, hy, roundIn_any (n := n - 1 - 1) (roundIn_of_wpIn hfn (hassign _ _ X _ ⟨_, run_beginRound hlX (by rw [hrec]), ?_⟩))⟩
      have hiB : I pre (wB.putObj r (.loop { rec .ready with state := .busy })) := hI.own _ wB _ _ hi (grownBy_putObj' wB r _) (fun q e => by cases e; exact ⟨by omega, _, hl, rfl⟩)
      have hsB : (wB.putObj r (.loop { rec .ready with state := .busy })).heap.size = wB.heap.size := by simp [World.putObj]
      have hbl : (X.putObj r (.loop { rec .ready with state := .busy })).heap[r]? = some (.loop { rec .ready with state := .busy }) := World.putObj_heap_same (Array.getElem?_eq_some_iff.1 hlX).1
      refine wpIn_mono (hbody _ pre b c xs _ _ hiB hpN (by rw [hsB]; omega) (below_putBoth hBX r _ hrB) (by rw [hsB]; exact ownsRow_putObj hox _ hlX rfl) hgd) ?_
      rintro e a3 W3 hp
      cases e with
      | normal =>
        obtain ⟨hi3, hk3⟩ := hp
        have hl3 := hk3.other r _ (by omega) hbl rfl
        have he := run_endRound (P := Tryd.prog) none hl3
        rw [hrec] at he
        have hk4 := keepsU_put (by omega) hlX rfl hk3
        have hd3 : W3.heap[w.heap.size]? = some (.deferred (some [])) := hk3.other _ _ (Nat.le_refl _) ((World.putObj_heap_other (by omega)).trans ((hBX.block _ (by omega)).trans hk)) rfl
        have hi4 : I (pre ++ [xs]) (W3.putObj r (.loop (rec .ready))) := hI.own _ W3 _ _ hi3 (grownBy_putObj' W3 r _) (fun q e => by cases e; exact ⟨by omega, _, hl3, rfl⟩)
        rw [hrec] at hk4 hi4
        refine ⟨_, _, he, rfl, ⟨hi4, ?_, ?_⟩, hk4⟩
        · rw [hrec]; exact World.putObj_heap_same (Array.getElem?_eq_some_iff.1 hl3).1
        · exact (World.putObj_heap_other (by omega)).trans hd3
      | ret => exact hp.elim
      | exit id => exact hp.elim
      | goto t => exact hp.elim
      | panic ch => exact hp.elim
      | outgrown => exact hp.elim
    · rintro e W2 ⟨⟨v, rfl⟩, hi, hl, hk⟩
      have he := run_endLoop (P := Tryd.prog) hl (by rw [hrec]; simp)
      rw [hrec] at he
      refine ⟨none, _, he, ?_⟩
      refine hdone _ _ (Nat.le_refl _) (hI.own _ W2 _ _ hi (grownBy_putObj' W2 r _) (fun q e => by cases e; exact ⟨by omega, _, hl, rfl⟩)) ((World.putObj_heap_other (by omega)).trans hk)

end Go.Proofs.YtahilcnmjnjcaaaDoor

/-
  (impl.market).pairings and its iterator: all orders are given out.
-/
namespace Go.Proofs.YtahilcnmjnjcaaaDoor
set_option linter.unusedVariables false
set_option linter.unusedSimpArgs false
open Go.RowKit Go.Shelf

/-- The value that hands out all orders. -/
abbrev pairSeq (Bm : Nat) : Value := .func (.func 71) #[] #[.pointer (some ⟨Bm, 0, none⟩)]
set_option maxHeartbeats 400000 in
theorem pairings_any (w : World) (a1 a2 a3 a4 : Value) :
    Calls Tryd.prog 45 #[.agg (four a1 a2 a3 a4)] w fun e w' => e = .returned (pairSeq w.heap.size) ∧ w' = w.alloc (.cells (four a1 a2 a3 a4) 60) := by
  go_enter Tryd.func45, Tryd.ntmps45
  go_wp2
  go_ret
  exact ⟨rfl, rfl⟩

theorem full_count : ∀ n : Fin 9, (bitsOf (2 ^ n.val - 1)).length = n.val := by decide
set_option maxRecDepth 100000 in
set_option maxHeartbeats 2000000 in
theorem pairings1_any (l B0 N : Nat) (hN : 8 ^ 8 ≤ N) (Good : List Int → Prop) (J : List (List Int) → World → Prop) (W : World) (hB0 : B0 ≤ W.heap.size) (hJ : ClosedJ W.heap.size J) (HY : Takes l B0 W.heap.size N Good J) (h0 : J [] W) (Bm : Nat) (A : Option Addr) (n c : Nat) (a2 a3 a4 : Value)
    (hm : W.heap[Bm]? = some (.cells (four (.slice A n c) a2 a3 a4) 60 (0, 0))) (h5 : n ≤ 8) (hg : ∀ p ∈ comp n (2 ^ n - 1) [], Good p) (hT : Tab W) :
    Calls Tryd.prog 71 #[.func (.yield l) #[] #[], .pointer (some ⟨Bm, 0, none⟩)] W fun e W' => (∃ v, e = .returned v) ∧ J (comp n (2 ^ n - 1) []) W' := by
  obtain ⟨W1, hW1⟩ : ∃ W1, W.alloc (.cells #[] 3) = W1 := ⟨_, rfl⟩
  have hb1 : Below W.heap.size W W1 := by rw [← hW1]; exact (Below.refl _ _).alloc (Nat.le_refl _) _
  have ho1 : Owns W1 W.heap.size (.slice (some ⟨W.heap.size, 0, none⟩) 0 0) [] := by rw [← hW1]; exact owns_empty W W.heap.size (Nat.le_refl _)
  obtain ⟨y0, y1, y2, y3, _⟩ := four_cells (kept_obj hb1 hm)
  have hlen := full_count ⟨n, by omega⟩
  have hlt : 2 ^ n - 1 < 256 := by
    have : 2 ^ n ≤ 2 ^ 8 := Nat.pow_le_pow_right (by decide) h5
    omega
  have HCO := Lib.hid (fun (X : World) (hX : Below W1.heap.size W1 X) => compl_any l B0 W.heap.size N hB0 Good J hJ HY n X W (2 ^ n - 1) [] W.heap.size 0 [] hlt hlen (by simp; omega) hg h0 (by have : 8 ^ n ≤ 8 ^ 8 := Nat.pow_le_pow_right (by decide) h5; rw [List.length_nil]; omega) (Nat.le_refl _) (step_below hb1 hX) (owns_below ho1 hX) (hT.later (step_below hb1 hX)))
  obtain ⟨full, hfull⟩ : ∃ full, 2 ^ n - 1 = full := ⟨_, rfl⟩
  have HNB := Lib.hid (fun X => nodesBelow_any n (by omega) X)
  rw [hfull] at HCO HNB ⊢
  clear hb1 ho1 hlen hlt hg hm hfull h0 HY hJ hT
  go_enter Tryd.func71, Tryd.ntmps71
  go_wp2_with (first
    | (go_at_call 74; refine (count_any _ A n c _ _ _).mono ?_; rintro e X2 ⟨rfl, hb2⟩)
    | (go_at_call 73; refine (HNB.out _).mono ?_; rintro e X3 ⟨rfl, rfl⟩))
  refine (HCO.out X2 hb2).mono ?_
  rintro e X4 ⟨rfl, hj, -⟩
  have HJ4 := Lib.hid hj
  clear hj hb2 y0 y1 y2 y3
  go_wp2
  go_end0
  exact ⟨⟨_, rfl⟩, by have := HJ4.out; rwa [List.nil_append] at this⟩

end Go.Proofs.YtahilcnmjnjcaaaDoor

