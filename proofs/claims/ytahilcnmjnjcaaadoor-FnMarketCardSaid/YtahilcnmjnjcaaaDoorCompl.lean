/-
  (impl.order).completed: all orders that begin so are given out, in order.
-/
import Derived.Test.YtahilcnmjnjcaaaDoorKeepsU
import Derived.Test.YtahilcnmjnjcaaaDoorCompMath
import Derived.Test.YtahilcnmjnjcaaaDoorConcat
import Derived.Test.YtahilcnmjnjcaaaDoorAllB
import Derived.Test.YtahilcnmjnjcaaaDoorMarks
import Derived.Test.YtahilcnmjnjcaaaDoorOnceIn
import Derived.RangeFuncWrites
namespace Go.Proofs.YtahilcnmjnjcaaaDoor
set_option linter.unusedVariables false
set_option linter.unusedSimpArgs false
open Go.RowKit Go.Shelf
attribute [local go_sem] Oper.semAt_some

theorem roundIn_any {n n' : Nat} {P : Program} {l : Nat} {f : FuncId} {tmps : Array Value} {assign body : Code} {w : World} {R : Ending → World → Prop} (h : RoundIn Fence.wide n P l f tmps assign body w R) : RoundIn Fence.wide n' P l f tmps assign body w R :=
  ⟨h.1, fun c cs _ => h.2 c cs (room_wide _)⟩

/-- What the one who asks for orders does with each. -/
def Takes (l B0 Bj N : Nat) (Good : List Int → Prop) (J : List (List Int) → World → Prop) : Prop :=
  ∀ (pre : List (List Int)) (b c : Nat) (xs : List Int) (wB W1 : World), J pre wB → pre.length < N → Bj ≤ wB.heap.size → Below wB.heap.size wB W1 → Owns W1 wB.heap.size (.slice (some ⟨b, 0, none⟩) xs.length c) xs → Good xs →
    YieldAt Fence.wide 0 Tryd.prog l #[.slice (some ⟨b, 0, none⟩) xs.length c] W1 fun e W' => e = .returned (.bool true) ∧ J (pre ++ [xs]) W' ∧ KeepsU B0 W1 W'

theorem boxes4 (W : World) (t1 t2 t3 t4 : TypeId) (v1 v2 v3 v4 : Value) {W1 : World} (h : (((W.alloc (.cells #[v1] t1)).alloc (.cells #[v2] t2)).alloc (.cells #[v3] t3)).alloc (.cells #[v4] t4) = W1) :
    Boxed W1 W.heap.size t1 v1 ∧ Boxed W1 (W.heap.size + 1) t2 v2 ∧ Boxed W1 (W.heap.size + 1 + 1) t3 v3 ∧ Boxed W1 (W.heap.size + 1 + 1 + 1) t4 v4 ∧ Below W.heap.size W W1 ∧ W1.heap.size = W.heap.size + 1 + 1 + 1 + 1 := by
  subst h
  have h2 := Boxed.new (W.alloc (.cells #[v1] t1)) t2 v2
  have h3 := Boxed.new ((W.alloc (.cells #[v1] t1)).alloc (.cells #[v2] t2)) t3 v3
  have h4 := Boxed.new (((W.alloc (.cells #[v1] t1)).alloc (.cells #[v2] t2)).alloc (.cells #[v3] t3)) t4 v4
  simp only [World.size_alloc] at h2 h3 h4
  exact ⟨(((Boxed.new W t1 v1).alloc _).alloc _).alloc _, (h2.alloc _).alloc _, h3.alloc _, h4, ((((Below.refl _ _).alloc (Nat.le_refl _) _).alloc (by simp) _).alloc (by simp; omega) _).alloc (by simp; omega) _, by simp⟩

/-- What is known of the orders given out speaks of no box of a bool, and of nothing new that is no cells. -/
structure ClosedJ (Bj : Nat) (J : List (List Int) → World → Prop) : Prop where
  own : OwnFrom Bj J
  box : ∀ s X r u v, J s X → Bj ≤ r → Boxed X r 4 u → J s (X.setCell ⟨r, 0, none⟩ v)
theorem ClosedJ.below {Bj : Nat} {J : List (List Int) → World → Prop} (h : ClosedJ Bj J) {s : List (List Int)} {X Y : World} (hj : J s X) (hb : Below X.heap.size X Y) : J s Y :=
  h.own s X Y none hj ⟨hb.os, hb.tape, hb.output, hb.size, fun k hk _ => hb.block k hk⟩ (fun r e => by cases e)

set_option maxRecDepth 100000 in
set_option maxHeartbeats 2000000 in
theorem compl_zero (l B0 Bj N : Nat) (Good : List Int → Prop) (J : List (List Int) → World → Prop) (hJ : ClosedJ Bj J) (HY : Takes l B0 Bj N Good J) (W wB : World) (beg : List Int) (b c : Nat) (pre : List (List Int)) (hg : Good beg)
    (hj : J pre wB) (hpN : pre.length < N) (hBj : Bj ≤ wB.heap.size) (hB : Below wB.heap.size wB W) (ho : Owns W wB.heap.size (.slice (some ⟨b, 0, none⟩) beg.length c) beg) (hT : 1 < W.heap.size) :
    Calls Tryd.prog 72 #[.slice (some ⟨b, 0, none⟩) beg.length c, .int .i64 0, .func (.yield l) #[] #[]] W fun e W' => e = .returned (.bool true) ∧ J (pre ++ [beg]) W' ∧ KeepsU B0 W W' := by
  obtain ⟨n, hn⟩ : ∃ n, beg.length = n := ⟨_, rfl⟩
  obtain ⟨W1, hW1⟩ : ∃ W1, (((W.alloc (.cells #[.slice (some ⟨b, 0, none⟩) n c] 66)).alloc (.cells #[.int .i64 0] 91)).alloc (.cells #[.func (.yield l) #[] #[]] 67)).alloc (.cells #[.bool false] 4) = W1 := ⟨_, rfl⟩
  obtain ⟨x0, x1, x2, x3, hb1, -⟩ := boxes4 W 66 91 67 4 _ _ _ _ hW1
  obtain ⟨fn, tmps, assign, body, hy, hR⟩ := HY pre b c beg wB W1 hj hpN hBj (step_below hB hb1) (owns_below ho hb1) hg
  rw [hn] at hy
  have HR := Lib.hid hR
  have HB1 := Lib.hid hb1
  have HJ := Lib.hid hJ
  have HX := Lib.hid x3
  have HT := Lib.hid hT
  have HBJ := Lib.hid (show Bj ≤ W.heap.size from Nat.le_trans hBj hB.size)
  have c0 := x0.cell
  have c1 := x1.cell
  have c2 := x2.cell
  rw [hn]
  clear HY hj hB ho hg hR hb1 hJ hn hT hBj hpN x0 x1 x2 x3
  refine (callsIn_wide (n := 9)).1 ?_
  refine callsIn_of_wp Tryd.func72 rfl trivial ?_ rfl
  simp only [Tryd.ntmps72, List.size_toArray, List.length_cons, List.length_nil, Nat.reduceAdd, Nat.reduceSub, Array.replicate_succ, Array.replicate_zero, List.push_toArray, List.append_toArray, List.nil_append, List.cons_append]
  gi_wp2
  refine (roundIn_any HR.out).mono ?_
  rintro e W2 ⟨rfl, hJ2, hk2⟩
  have hx2 := box_keepsU HX.out hk2 (by decide) (by decide)
  have hc2 := hx2.cell
  have hf2 := hx2.frozen
  have HE := Lib.hid (And.intro (HJ.out.box _ _ _ _ (.bool true) hJ2 (by have := HBJ.out; omega) hx2) (((KeepsU.below HB1.out HT.out : KeepsU B0 W W1).trans hk2).grown HT.out (grownBy_setCell' W2 (W.heap.size + 1 + 1 + 1) (.bool true)) (fun r e => by cases e; omega)))
  have HS := Lib.hid (hx2.set (.bool true)).cell
  clear hJ2 hk2 hx2 c0 c1 c2
  gi_wp2
  refine bodyPost_ret (v := .bool true) (by simp [results, Tryd.f72, go_sem, HS.out]) rfl ⟨rfl, HE.out⟩

/-- A call with as many members left as told. -/
def ComplAt (l B0 Bj N : Nat) (Good : List Int → Prop) (J : List (List Int) → World → Prop) (d : Nat) : Prop :=
  ∀ (W wB : World) (left : Nat) (beg : List Int) (b c : Nat) (pre : List (List Int)), left < 256 → (bitsOf left).length = d → beg.length + d ≤ 100 → (∀ p ∈ comp d left beg, Good p) → J pre wB → pre.length + 8 ^ d ≤ N → Bj ≤ wB.heap.size → Below wB.heap.size wB W →
    Owns W wB.heap.size (.slice (some ⟨b, 0, none⟩) beg.length c) beg → Tab W →
    Calls Tryd.prog 72 #[.slice (some ⟨b, 0, none⟩) beg.length c, .int .i64 (left : Int), .func (.yield l) #[] #[]] W fun e W' => e = .returned (.bool true) ∧ J (pre ++ comp d left beg) W' ∧ KeepsU B0 W W'

set_option maxRecDepth 100000 in
set_option maxHeartbeats 4000000 in
theorem compl_succ (l B0 Bj N : Nat) (hBB : B0 ≤ Bj) (Good : List Int → Prop) (J : List (List Int) → World → Prop) (hJ : ClosedJ Bj J) (d : Nat) (IH : ComplAt l B0 Bj N Good J d) : ComplAt l B0 Bj N Good J (d + 1) := by
  intro W wB s beg b c pre hs hd hlen hg hj hpN hBj hB ho hT
  have h0 : s ≠ 0 := by
    intro e
    rw [e, bitsOf_zero] at hd
    simp at hd
  have hne : ((s : Int) == 0) = false := by rw [beq_eq_false_iff_ne]; omega
  obtain ⟨n, hn⟩ : ∃ n, beg.length = n := ⟨_, rfl⟩
  rw [hn] at hlen ho ⊢
  obtain ⟨W1, hW1⟩ : ∃ W1, (((W.alloc (.cells #[.slice (some ⟨b, 0, none⟩) n c] 66)).alloc (.cells #[.int .i64 (s : Int)] 91)).alloc (.cells #[.func (.yield l) #[] #[]] 67)).alloc (.cells #[.bool false] 4) = W1 := ⟨_, rfl⟩
  obtain ⟨x0, x1, x2, x3, hb1, hs1⟩ := boxes4 W 66 91 67 4 _ _ _ _ hW1
  have c0 := x0.cell
  have c1 := x1.cell
  have c2 := x2.cell
  have HX := Lib.hid (And.intro x0 (And.intro x1 (And.intro x2 x3)))
  have HB1 := Lib.hid hb1
  have HS1 := Lib.hid hs1
  have HO := Lib.hid ho
  have HIH := Lib.hid IH
  have HG := Lib.hid hg
  have HJ := Lib.hid hJ
  have HN := Lib.hid hn
  have HD := Lib.hid hd
  have HPN := Lib.hid hpN
  have HB := Lib.hid (And.intro hj (And.intro hBj (And.intro hB hT)))
  clear IH hg hJ hj hpN hBj hB ho hT hb1 x0 x1 x2 x3 hs1 hn hd
  refine (callsIn_wide (n := 9)).1 ?_
  refine callsIn_of_wp_marks Tryd.func72 rfl trivial ?_ rfl
  simp only [Tryd.ntmps72, List.size_toArray, List.length_cons, List.length_nil, Nat.reduceAdd, Nat.reduceSub, Array.replicate_succ, Array.replicate_zero, List.push_toArray, List.append_toArray, List.nil_append, List.cons_append]
  gi_wp2_with (refine ⟨trivial, ?_⟩; gi_at_call 83; refine (callsIn_wide.2 (all_any s _)).mono ?_; rintro e w' ⟨rfl, rfl⟩)
  clear hW1 c0 c1 c2
  obtain ⟨W4, hW4⟩ : ∃ W4, W1.alloc (.cells #[.int .i64 (s : Int)] 91) = W4 := ⟨_, rfl⟩
  rw [hW4]
  have hb14 : Below W1.heap.size W1 W4 := by rw [← hW4]; exact (Below.refl _ _).alloc (Nat.le_refl _) _
  have hst4 : W4.heap[W1.heap.size]? = some (.cells #[.int .i64 (s : Int)] 91 (0, 0)) := by rw [← hW4]; exact World.alloc_heap_new _ _
  have hz4 : W4.heap.size = W1.heap.size + 1 := by rw [← hW4]; simp
  have hb4 := step_below HB1.out hb14
  have hT4 := HB.out.2.2.2.later hb4
  have htl : 1 < W.heap.size := HB.out.2.2.2.lt
  have hs1' := HS1.out
  have hkW : KeepsU B0 W W4 := KeepsU.below hb4 htl
  have hJ4 : J pre W4 := HJ.out.below HB.out.1 (step_below HB.out.2.2.1 hb4)
  have hBW : wB.heap.size ≤ W.heap.size := HB.out.2.2.1.size
  have hBj := HB.out.2.1
  have HW4 := Lib.hid (And.intro hb4 (And.intro hz4 (And.intro htl (And.intro hkW (And.intro hT4 (And.intro hBW (And.intro hBj (And.intro hs1' hb14))))))))
  have HI0 : Hid (J (pre ++ compTo d s beg []) W4 ∧ KeepsU B0 W4 W4) := Lib.hid ⟨by simpa [compTo] using hJ4, KeepsU.refl _ _⟩
  clear hW4 hkW hJ4
  refine wpIn_rangeFunc_ownG rfl (by decide) (gf := 90) (lb := #[.pointer (some ⟨W1.heap.size, 0, none⟩)]) rfl trivial (enters_of Tryd.func90 (by kernel_rfl) rfl)
    (all_stopsB (9 - 1) (by decide) W1.heap.size (1 + 1) s hs W4 (by omega) (by omega) (cell_of_one hst4) hT4) belowK_t (belowK_b (by omega)) (Below.refl _ _) (fun _ => rfl)
    (fun lst X => J (pre ++ compTo d s beg (lst.map (fun x => x.1.val))) X ∧ KeepsU B0 W4 X) (fun _ _ _ => False)
    (fun lst X Y row hh hg hr => ⟨HJ.out.own _ X Y row hh.1 hg (fun r e => ⟨by have := (hr r e).1; omega, (hr r e).2⟩), hh.2.grown (by omega) hg (fun r e => (hr r e).1)⟩)
    (fun c => ownFrom_pure _ (fun _ => False)) HI0.out
    (fun x => { tmps := #[.slice (some ⟨b, 0, none⟩) n c, .int .i64 (s : Int), .func (.yield l) #[] #[], .pointer (some ⟨W.heap.size, 0, none⟩), .pointer (some ⟨W.heap.size + 1, 0, none⟩), .pointer (some ⟨W.heap.size + 1 + 1, 0, none⟩), .pointer (some ⟨W.heap.size + 1 + 1 + 1, 0, none⟩), .int .i64 ((x.1.val : Nat) : Int), undef, .int .i64 (s : Int), .bool false, undef, undef, undef, .int .i64 (s : Int), seqOf W1.heap.size, .int .i64 ((x.1.val : Nat) : Int), undef, undef, undef, undef, undef, undef, undef, undef, undef, undef, undef, undef], defers := [] })
    ?assign ?body ?done ?stop
  case assign =>
    intro l x X K hK
    clear hs1'
    gi_wp2
    exact hK
  case body =>
    rintro l2 lst x X ⟨hJX, hkX⟩ hll
    obtain ⟨v, hv⟩ : ∃ v, x.1.val = v := ⟨_, rfl⟩
    have hv8 : v < 8 := by rw [← hv]; exact x.1.isLt
    have hvm : s.testBit v = true := by rw [← hv]; exact x.2
    obtain ⟨ls, hls⟩ : ∃ ls, lst.map (fun x => x.1.val) = ls := ⟨_, rfl⟩
    have hsn : (lst ++ [x]).map (fun x => x.1.val) = ls ++ [v] := by rw [List.map_append, hls]; simp [hv]
    rw [hls] at hJX
    have hpl : (pre ++ compTo d s beg ls).length + 8 ^ d ≤ N := by
      have h1 : ls.length < 8 := by
        have h2 : (bitsOf s).length ≤ 8 := by unfold bitsOf; refine Nat.le_trans (List.length_filter_le _ _) ?_; simp
        rw [← hls, List.length_map]; omega
      have h3 := compTo_count d s beg ls
      have h4 : ls.length * 8 ^ d ≤ 7 * 8 ^ d := Nat.mul_le_mul_right _ (by omega)
      have h5 := HPN.out
      rw [Nat.pow_succ] at h5
      rw [List.length_append]
      omega
    clear hll
    obtain ⟨t, ht⟩ : ∃ t, wo8 s v = t := ⟨_, rfl⟩
    have htl8 : t < 256 := by rw [← ht]; exact wo8_lt hs
    have hlt : (bitsOf t).length = d := by
      have h1 := wo8_len hs hv8 hvm
      have h2 := HD.out
      rw [ht] at h1
      omega
    have hsz := hkX.size
    have hb01 := HB1.out
    have hkWX : KeepsU B0 W X := HW4.out.2.2.2.1.trans hkX
    have hoX : Owns X wB.heap.size (.slice (some ⟨b, 0, none⟩) n c) beg := by
      have := owns_keepsU HO.out hkWX
      exact this
    obtain ⟨x0, x1, x2, x3⟩ := HX.out
    have y0 := box_keepsU ((hb14.block _ x0.lt).trans x0 : Boxed W4 _ _ _) hkX (by decide) (by decide)
    have y1 := box_keepsU ((hb14.block _ x1.lt).trans x1 : Boxed W4 _ _ _) hkX (by decide) (by decide)
    have y2 := box_keepsU ((hb14.block _ x2.lt).trans x2 : Boxed W4 _ _ _) hkX (by decide) (by decide)
    obtain ⟨X2, hX2⟩ : ∃ X2, (X.alloc (.cells #[.int .i64 (v : Int)] 3)).alloc (.cells #[.slice (some ⟨b, 0, none⟩) n c, .slice (some ⟨X.heap.size, 0, none⟩) 1 1] 66) = X2 := ⟨_, rfl⟩
    have hbX2 : Below X.heap.size X X2 := by rw [← hX2]; exact ((Below.refl _ _).alloc (Nat.le_refl _) _).alloc (by simp) _
    have hq : X2.heap[X.heap.size + 1]? = some (.cells #[.slice (some ⟨b, 0, none⟩) n c, .slice (some ⟨X.heap.size, 0, none⟩) 1 1] 66 (0, 0)) := by
      rw [← hX2]
      have := World.alloc_heap_new (X.alloc (.cells #[.int .i64 (v : Int)] 3)) (.cells #[.slice (some ⟨b, 0, none⟩) n c, .slice (some ⟨X.heap.size, 0, none⟩) 1 1] 66)
      rwa [World.size_alloc] at this
    have hxv : X2.cell? ⟨X.heap.size, 0, none⟩ = some (.int .i64 (v : Int)) := by
      rw [← hX2]
      exact ((Boxed.new X 3 (.int .i64 (v : Int))).alloc _).cell
    have hcc := concat_any X2 (X.heap.size + 1) b 0 c X.heap.size beg (v : Int) (by rw [HN.out]; exact (ints_of_owns hoX).below hbX2) (by rw [HN.out]; omega) (by rw [HN.out, cell_of_row _ _ _ _ _ _ hq]; rfl) (by rw [cell_of_row _ _ _ _ _ _ hq]; rfl) hxv
    rw [HN.out] at hcc
    have HCC := Lib.hid hcc
    have hJcl : ∀ Y, Below X.heap.size X Y → J (pre ++ compTo d s beg ls) Y := fun Y hY => HJ.out.below hJX hY
    have hBX : Bj ≤ X.heap.size := by omega
    have HNX := Lib.hid (fun (X3 : World) (g3 c3 : Nat) (hb3 : Below X2.heap.size X2 X3) (ho3 : Owns X3 X2.heap.size (.slice (some ⟨g3, 0, none⟩) (n + 1) c3) (beg ++ [(v : Int)])) => by
      have hbX3 := step_below hbX2 hb3
      have hl2 : (beg ++ [(v : Int)]).length = n + 1 := by rw [List.length_append, HN.out]; rfl
      have := HIH.out X3.drew X t (beg ++ [(v : Int)]) g3 c3 (pre ++ compTo d s beg ls) htl8 hlt (by rw [hl2]; omega) (fun p hp => HG.out p (by
        show p ∈ (elems s).flatMap _
        exact List.mem_flatMap.2 ⟨v, mem_elems.2 ⟨hv8, hvm⟩, by rw [ht]; exact hp⟩)) hJX hpl hBX ⟨hbX3.os, hbX3.tape, hbX3.output, hbX3.size, hbX3.block⟩ (by rw [hl2]; exact owns_mono ho3 hbX2.size) (((HW4.out.2.2.2.2.1.keepsU hkX).later hbX3).later (Below.refl _ X3).drew)
      rw [hl2, List.append_assoc, show compTo d s beg ls ++ comp d t (beg ++ [(v : Int)]) = compTo d s beg (ls ++ [v]) by rw [compTo_snoc, ht]] at this
      exact this)
    have hwo : ∀ W, Calls Tryd.prog 85 #[.int .i64 (s : Int), .int .i64 (v : Int)] W fun e w' => e = .returned (.int .i64 (t : Int)) ∧ W = w' := fun W => by
      rw [← ht]; exact without_any s v hs hv8 W
    have HWO := Lib.hid hwo
    have HY := Lib.hid (And.intro y0 (And.intro y1 (And.intro y2 (And.intro hbX2 (And.intro hkX (And.intro hsn hsz))))))
    have c0 := y0.cell
    rw [hv]
    clear hs1' hz4 hb4 hb14 hst4 hT4 htl hBW hBj hv hls hsn ht htl8 hlt hsz hb01 hkWX hoX x0 x1 x2 x3 y0 y1 y2 hbX2 hq hxv hcc hJcl hBX hpl hwo hkX hJX hvm hv8
    gi_wp2_with (refine ⟨trivial, ?_⟩; gi_at_call 84; refine (CallsIn.inRound l2 (callsIn_wide.2 HCC.out)).mono ?_; rintro e X3 ⟨g3, c3, rfl, hb3, ho3⟩)
    clear hX2 c0
    have HI3 := Lib.hid (HNX.out X3 g3 c3 hb3 ho3)
    obtain ⟨y0, y1, y2, hbX2, hkX, hsn, hsz⟩ := HY.out
    have hbX3 := step_below hbX2 hb3
    have z1 : Boxed X3 (W.heap.size + 1) 91 (.int .i64 (s : Int)) := kept_obj hbX3 y1
    have z2 : Boxed X3 (W.heap.size + 1 + 1) 67 (.func (.yield l) #[] #[]) := kept_obj hbX3 y2
    have c1 : X3.drew.cell? ⟨W.heap.size + 1, 0, none⟩ = some (.int .i64 (s : Int)) := z1.cell
    have c2 : X3.drew.cell? ⟨W.heap.size + 1 + 1, 0, none⟩ = some (.func (.yield l) #[] #[]) := z2.cell
    have hfo : Tryd.prog.follows Departure.mixedOrders = true := by kernel_rfl
    have HB3 := Lib.hid hbX3
    clear hb3 ho3 y0 y1 y2 z1 z2 hbX2 hkX hsn hsz hbX3
    apply onceIn_zero (fun (Z : World) => J (pre ++ compTo d s beg (ls ++ [v])) Z ∧ KeepsU B0 X3.drew Z)
    case h1 =>
      gi_region_with_o (first
        | (refine ⟨trivial, ?_⟩; gi_at_call 85; refine (CallsIn.inRound l2 (callsIn_wide.2 (HWO.out _))).mono ?_; rintro e w' ⟨rfl, rfl⟩)
        | (gi_at_call 85; refine (CallsIn.inRound l2 (callsIn_wide.2 (HWO.out _))).mono ?_; rintro e w' ⟨rfl, rfl⟩)
        | (refine ⟨trivial, ?_⟩; gi_at_call 72; refine (CallsIn.inRound l2 (callsIn_wide.2 HI3.out)).mono ?_; rintro e Z ⟨rfl, hjZ, hkZ⟩)
        | (gi_at_call 72; refine (CallsIn.inRound l2 (callsIn_wide.2 HI3.out)).mono ?_; rintro e Z ⟨rfl, hjZ, hkZ⟩))
      all_goals exact ⟨⟨hjZ, hkZ⟩, rfl⟩
    rintro Z ⟨hjZ, hkZ⟩
    have HZ := Lib.hid (And.intro hjZ hkZ)
    clear hjZ hkZ c1 c2
    gi_wp2
    obtain ⟨hjZ, hkZ⟩ := HZ.out
    obtain ⟨y0, y1, y2, hbX2, hkX, hsn, hsz⟩ := HY.out
    have hb3 := HB3.out
    have hkXZ : KeepsU B0 X Z := (KeepsU.below (Y := X3.drew) ⟨hb3.os, hb3.tape, hb3.output, hb3.size, hb3.block⟩ (by have := HW4.out.2.2.1; have := HW4.out.1.size; omega)).trans hkZ
    refine ⟨hkXZ.from (by have := HW4.out.1.size; have := HW4.out.2.2.2.2.2.1; have := HW4.out.2.2.2.2.2.2.1; omega), hkXZ.low, ?_, hkX.trans hkXZ⟩
    rw [hsn]
    exact hjZ
  case done =>
    rintro Dd ys X hDd hys ⟨hJX, hkX⟩ hKD
    have e1 : ys.map (fun x => x.1.val) = elems s := by unfold elems; rw [← hys, List.map_map]; rfl
    rw [e1, compTo_all] at hJX
    obtain ⟨x0, x1, x2, x3⟩ := HX.out
    have y3 := box_keepsU ((hb14.block _ x3.lt).trans x3 : Boxed W4 _ _ _) hkX (by decide) (by decide)
    have hkWX : KeepsU B0 W X := HW4.out.2.2.2.1.trans hkX
    have hc := y3.cell
    have hf := y3.frozen
    have HE := Lib.hid (And.intro hJX (And.intro hkWX (And.intro y3 (And.intro hKD (And.intro (show W.heap.size ≤ Dd by omega) (And.intro htl (show Bj ≤ W.heap.size by omega)))))))
    clear hJX hkX hkWX y3 x0 x1 x2 x3 hKD e1 hys hs1' hz4 hb4 hb14 hst4 hT4 htl hBW hBj
    gi_wp2
    obtain ⟨hJX, hkWX, y3, hKD, hDw, htl, hBW⟩ := HE.out
    have y4 := y3.set (.bool true)
    have hjE := HJ.out.box _ _ _ _ (.bool true) hJX (by omega) y3
    have hkE := hkWX.grown htl (grownBy_setCell' X (W.heap.size + 1 + 1 + 1) (.bool true)) (fun r e => by cases e; omega)
    refine leaves_marks (F := Fence.wide) (n := 9) W.heap.size (fun Z => J (pre ++ comp (d + 1) s beg) Z ∧ KeepsU B0 W Z ∧ Boxed Z (W.heap.size + 1 + 1 + 1) 4 (.bool true)) ?_ ?_ _ _ (((Marks.nil _ _).cons hDw hKD (by simp)).grown (grownBy_setCell' _ _ _) y3 rfl) ⟨hjE, hkE, y4⟩
    · rintro Z D hD hk ⟨h1, h2, h3⟩
      have hg := grownBy_putObj' Z D (.deferred none)
      refine ⟨HJ.out.own _ Z _ _ h1 hg (fun r e => by cases e; exact ⟨by omega, _, hk, rfl⟩), h2.grown htl hg (fun r e => by cases e; exact hD), (World.putObj_heap_other (fun e => ?_)).trans h3⟩
      have h3' : Z.heap[W.heap.size + 1 + 1 + 1]? = some (.cells #[.bool true] 4 (0, 0)) := h3
      rw [e, hk] at h3'
      cases h3'
    · rintro Z ⟨h1, h2, h3⟩
      have hc := h3.cell
      refine ⟨.bool true, ?_, rfl, h1, h2⟩
      simp [results, Tryd.f72, go_sem, hc]
  case stop =>
    rintro D c pre X hD hpre h hKD
    exact h.elim

/-- All orders that begin so are given out, in order. -/
theorem compl_any (l B0 Bj N : Nat) (hBB : B0 ≤ Bj) (Good : List Int → Prop) (J : List (List Int) → World → Prop) (hJ : ClosedJ Bj J) (HY : Takes l B0 Bj N Good J) : ∀ d, ComplAt l B0 Bj N Good J d
  | 0 => fun W wB left beg b c pre hs hd hlen hg hj hpN hBj hB ho hT => by
    obtain rfl : left = 0 := len_zero hs hd
    exact compl_zero l B0 Bj N Good J hJ HY W wB beg b c pre (hg beg (by simp [comp])) hj (by have := hpN; rw [Nat.pow_zero] at this; omega) hBj hB ho hT.lt
  | d + 1 => compl_succ l B0 Bj N hBB Good J hJ d (compl_any l B0 Bj N hBB Good J hJ HY d)

end Go.Proofs.YtahilcnmjnjcaaaDoor
