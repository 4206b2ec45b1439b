/-
  (impl.chooser).next: the first column with which the least measure can still be reached.
-/
import Derived.Test.YtjbgjebbfkhidabDoorLeastAnyX
import Derived.Test.YtjbgjebbfkhidabDoorChs
namespace Go.Proofs.YtjbgjebbfkhidabDoor.Mx
set_option linter.unusedVariables false
set_option linter.unusedSimpArgs false
open Go.RowKit Go.Shelf
attribute [local go_sem] Oper.semAt_some

def NPost (w : World) (B : Nat) (g : Nat → Int) (v m : Nat) (e : Ending) (w' : World) : Prop :=
  e = .returned (.int .i64 (v : Int)) ∧ MemoI w' B g m ∧ Within B (B + 1) w w'
theorem next_leave (w : World) (B M : Nat) (g : Nat → Int) (v : Nat) (tmps : Array Value) (hp : tmps[8]? = some (.pointer (some ⟨w.heap.size + 4, 0, none⟩))) (D : Nat) (W : World) (hBw : B < w.heap.size) (hD : w.heap.size ≤ D) (hKD : W.heap[D]? = some (.deferred (some [])))
    (hc : Boxed W (w.heap.size + 4) 3 (.int .i64 (v : Int))) (h2 : MemoI W B g M) (h3 : Within B (B + 1) w W) : bodyPostM Fence.wide 9 Tryd.prog Tryd.f92 (NPost w B g v M) .ret { tmps := tmps, defers := [{ target := .collected D, args := #[] }] } W := by
  refine leaves_marks (F := Fence.wide) (n := 9) w.heap.size (fun W => Boxed W (w.heap.size + 4) 3 (.int .i64 (v : Int)) ∧ MemoI W B g M ∧ Within B (B + 1) w W) ?_ ?_ _ W ((Marks.nil _ _).cons hD hKD (by simp)) ⟨hc, h2, h3⟩
  · rintro W D hD hk ⟨hc, h2, h3⟩
    have hg := grownBy_putObj' W D (.deferred none)
    refine ⟨(World.putObj_heap_other (fun e => ?_)).trans hc, h2.kept hg (by simp; omega), ⟨hg.os.trans h3.os, hg.tape.trans h3.tape, hg.output.trans h3.output, Nat.le_trans h3.size hg.size,
      fun k hk' ho => (hg.block k (Nat.lt_of_lt_of_le hk' h3.size) (by simp; omega)).trans (h3.block k hk' ho)⟩⟩
    have hc' : W.heap[w.heap.size + 4]? = some (.cells #[.int .i64 (v : Int)] 3 (0, 0)) := hc
    rw [e, hk] at hc'
    cases hc'
  · rintro W ⟨hc, h2, h3⟩
    have hcc := hc.cell
    exact ⟨.int .i64 (v : Int), by simp [results, Tryd.f92, go_sem, hp, hcc], rfl, h2, h3⟩
/-- Can the least measure still be reached with this column? -/
def fitsS (n : Nat) (F : Nat → Int) (row s : Nat) (made L : Int) (v : Nat) : Prop := max (max made (F (6 * row + v))) (gS n F (wo8 s v)) = L
/-- How the loop over the columns stands. -/
def NJ (w : World) (n : Nat) (F : Nat → Int) (B s m e row : Nat) (made L : Int) (Br : Nat) (l : List Nat) (X : World) : Prop :=
  X.heap[w.heap.size]? = some (.cells #[.iface 59 (.agg (tcells n F)), .int .i64 (-9223372036854775808), .func (.func 90) #[] #[], .map (some B)] 71 (0, 0)) ∧ Boxed X (w.heap.size + 1) 3 (.int .i64 made) ∧ Boxed X (w.heap.size + 2) 81 (.int .i64 (s : Int)) ∧
  Boxed X (w.heap.size + 3) 3 (.int .i64 L) ∧ (∃ z : Int, Boxed X (w.heap.size + 4) 3 (.int .i64 z)) ∧ Boxed X Br 3 (.int .i64 (row : Int)) ∧ MemoI X B (gS n F) (m + l.length * 10 ^ e) ∧ Within B (B + 1) w X ∧ ∀ v ∈ l, ¬ fitsS n F row s made L v
def NStop (w : World) (n : Nat) (F : Nat → Int) (B s m row : Nat) (made L : Int) (c : Code) (l : List Nat) (X : World) : Prop :=
  c = .exit 0 ∧ ∃ l1 v, l = l1 ++ [v] ∧ (∀ u ∈ l1, ¬ fitsS n F row s made L u) ∧ fitsS n F row s made L v ∧ Boxed X (w.heap.size + 4) 3 (.int .i64 (v : Int)) ∧ MemoI X B (gS n F) (m + cntI s) ∧ Within B (B + 1) w X
theorem nj_own {w : World} {n B s m e row Br S : Nat} {F : Nat → Int} {made L : Int} (h1 : w.heap.size + 5 ≤ S) (h2 : Br < S) (hB : B < S) : OwnFrom S (fun (pre : List {x : Fin 8 // s.testBit x.val = true}) X => NJ w n F B s m e row made L Br (pre.map (fun x => x.1.val)) X) := by
  intro pre X Y rw hs hg hr
  obtain ⟨g1, g2, g3, g4, ⟨z, g5⟩, g6, g7, g8, g9⟩ := hs
  have kp : ∀ {b : Nat} {o : Obj}, b < S → X.heap[b]? = some o → Y.heap[b]? = some o := fun {b} {o} hb ho =>
    (hg.block b (Array.getElem?_eq_some_iff.1 ho).1 (fun e => by have := (hr b e.symm).1; omega)).trans ho
  exact ⟨kp (by omega) g1, kp (by omega) g2, kp (by omega) g3, kp (by omega) g4, ⟨z, kp (by omega) g5⟩, kp h2 g6, g7.kept hg (fun e => by have := (hr B e.symm).1; omega),
    ⟨hg.os.trans g8.os, hg.tape.trans g8.tape, hg.output.trans g8.output, Nat.le_trans g8.size hg.size,
    fun k hk ho => (hg.block k (Nat.lt_of_lt_of_le hk g8.size) (fun e => by have := (hr k e.symm).1; omega)).trans (g8.block k hk ho)⟩, g9⟩
theorem nx_own {w : World} {n B s m row S : Nat} {F : Nat → Int} {made L : Int} (h1 : w.heap.size + 5 ≤ S) (hB : B < S) (c : Code) : OwnFrom S (fun (pre : List {x : Fin 8 // s.testBit x.val = true}) X => NStop w n F B s m row made L c (pre.map (fun x => x.1.val)) X) := by
  intro pre X Y rw hs hg hr
  obtain ⟨g0, l1, v, g1, g2, g3, g5, g7, g8⟩ := hs
  have kp : ∀ {b : Nat} {o : Obj}, b < S → X.heap[b]? = some o → Y.heap[b]? = some o := fun {b} {o} hb ho =>
    (hg.block b (Array.getElem?_eq_some_iff.1 ho).1 (fun e => by have := (hr b e.symm).1; omega)).trans ho
  exact ⟨g0, l1, v, g1, g2, g3, kp (by omega) g5, g7.kept hg (fun e => by have := (hr B e.symm).1; omega),
    ⟨hg.os.trans g8.os, hg.tape.trans g8.tape, hg.output.trans g8.output, Nat.le_trans g8.size hg.size,
    fun k hk ho => (hg.block k (Nat.lt_of_lt_of_le hk g8.size) (fun e => by have := (hr k e.symm).1; omega)).trans (g8.block k hk ho)⟩⟩

set_option maxRecDepth 100000 in
set_option maxHeartbeats 2000000 in
theorem next_any (n : Nat) (h6 : n ≤ 6) (F : Nat → Int) (hF : ∀ k, -1000 ≤ F k ∧ F k ≤ 1000) (w : World) (B m s : Nat) (made L : Int) (hM : MemoI w B (gS n F) m)
    (hT : Tab w) (hgB : 1 < B) (hm : m + cntI s ≤ 1000000000000) (hsn : (bitsOf s).length ≤ n) (hs : s < 64) (e row : Nat) (hd : (bitsOf s).length = e + 1) (hrow : n - (e + 1) = row)
    (hmade : minI ≤ made ∧ made ≤ 10000) (hex : ∃ v ∈ elems s, max (max made (F (6 * row + v))) (gS n F (wo8 s v)) = L) :
    Calls Tryd.prog 92 #[.agg (lcells n F (-9223372036854775808) 90 B), .int .i64 made, .int .i64 (s : Int), .int .i64 L] w (NPost w B (gS n F) (nxt max minI F e row s made L) (m + cntI s)) := by
  have HM := Lib.hid hM
  have HT := Lib.hid hT
  have HF := Lib.hid hF
  have HEX := Lib.hid hex
  have HSI := Lib.hid (fun W => setSize_any s (by omega) W)
  rw [hd] at HSI
  have HRW := Lib.hid (row_facts h6 (by omega) hrow)
  have HNUM0 := Lib.hid (And.intro hm (And.intro hsn (And.intro hd (And.intro hrow hmade))))
  clear hM hT hF hex hm hsn hd hrow hmade
  obtain ⟨d, hde⟩ : ∃ d, e + 1 = d := ⟨_, rfl⟩
  have HDE := Lib.hid hde
  rw [hde] at HSI HRW
  clear hde
  have e2 : w.heap.size + 1 + 1 = w.heap.size + 2 := by omega
  have e3 : w.heap.size + 2 + 1 = w.heap.size + 3 := by omega
  have e4 : w.heap.size + 3 + 1 = w.heap.size + 4 := by omega
  obtain ⟨W1, hW1⟩ : ∃ W1, ((((w.alloc (.cells #[.iface 59 (.agg (tcells n F)), .int .i64 (-9223372036854775808), .func (.func 90) #[] #[], .map (some B)] 71)).alloc (.cells #[.int .i64 made] 3)).alloc (.cells #[.int .i64 (s : Int)] 81)).alloc (.cells #[.int .i64 L] 3)).alloc (.cells #[.int .i64 0] 3) = W1 := ⟨_, rfl⟩
  have hb1 : Below w.heap.size w W1 := by rw [← hW1]; exact (((((Below.refl _ _).alloc (Nat.le_refl _) _).alloc (by simp) _).alloc (by simp; omega) _).alloc (by simp; omega) _).alloc (by simp; omega) _
  have hs1 : W1.heap.size = w.heap.size + 5 := by rw [← hW1]; simp
  have k0 : W1.heap[w.heap.size]? = some (.cells #[.iface 59 (.agg (tcells n F)), .int .i64 (-9223372036854775808), .func (.func 90) #[] #[], .map (some B)] 71 (0, 0)) := by
    rw [← hW1, Below.heap_alloc _ _ _ (by simp; omega), Below.heap_alloc _ _ _ (by simp; omega), Below.heap_alloc _ _ _ (by simp; omega), Below.heap_alloc _ _ _ (by simp)]; exact World.alloc_heap_new _ _
  have k1 : Boxed W1 (w.heap.size + 1) 3 (.int .i64 made) := by
    rw [← hW1]
    have := (((Boxed.new (w.alloc (.cells #[.iface 59 (.agg (tcells n F)), .int .i64 (-9223372036854775808), .func (.func 90) #[] #[], .map (some B)] 71)) 3 (.int .i64 made)).alloc (.cells #[.int .i64 (s : Int)] 81)).alloc (.cells #[.int .i64 L] 3)).alloc (.cells #[.int .i64 0] 3)
    rwa [World.size_alloc] at this
  have k2 : Boxed W1 (w.heap.size + 2) 81 (.int .i64 (s : Int)) := by
    rw [← hW1]
    have := ((Boxed.new ((w.alloc (.cells #[.iface 59 (.agg (tcells n F)), .int .i64 (-9223372036854775808), .func (.func 90) #[] #[], .map (some B)] 71)).alloc (.cells #[.int .i64 made] 3)) 81 (.int .i64 (s : Int))).alloc (.cells #[.int .i64 L] 3)).alloc (.cells #[.int .i64 0] 3)
    rwa [World.size_alloc, World.size_alloc] at this
  have k3 : Boxed W1 (w.heap.size + 3) 3 (.int .i64 L) := by
    rw [← hW1]
    have := (Boxed.new (((w.alloc (.cells #[.iface 59 (.agg (tcells n F)), .int .i64 (-9223372036854775808), .func (.func 90) #[] #[], .map (some B)] 71)).alloc (.cells #[.int .i64 made] 3)).alloc (.cells #[.int .i64 (s : Int)] 81)) 3 (.int .i64 L)).alloc (.cells #[.int .i64 0] 3)
    rwa [World.size_alloc, World.size_alloc, World.size_alloc] at this
  have k4 : Boxed W1 (w.heap.size + 4) 3 (.int .i64 0) := by
    rw [← hW1]
    have := Boxed.new ((((w.alloc (.cells #[.iface 59 (.agg (tcells n F)), .int .i64 (-9223372036854775808), .func (.func 90) #[] #[], .map (some B)] 71)).alloc (.cells #[.int .i64 made] 3)).alloc (.cells #[.int .i64 (s : Int)] 81)).alloc (.cells #[.int .i64 L] 3)) 3 (.int .i64 0)
    rwa [World.size_alloc, World.size_alloc, World.size_alloc, World.size_alloc] at this
  obtain ⟨c0, c1, c2, c3⟩ := four_of k0
  have cl := k2.cell
  have HBX := Lib.hid (And.intro hb1 (And.intro hs1 (And.intro k0 (And.intro k1 (And.intro k2 (And.intro k3 k4))))))
  unfold lcells
  refine (callsIn_wide (n := 9)).1 ?_
  refine callsIn_of_wp_marks Tryd.func92 rfl trivial ?_ rfl
  simp only [Tryd.ntmps92, List.size_toArray, List.length_cons, List.length_nil, Nat.reduceAdd, Nat.reduceSub, Array.replicate_succ, Array.replicate_zero, List.push_toArray, List.append_toArray, List.nil_append, List.cons_append]
  clear hb1 hs1 k0 k1 k2 k3 k4
  gi_wp2
  have HK := Lib.hid (fun (w3 : World) (hb3 : Below W1.heap.size W1 w3) => show w3.cell? ⟨w.heap.size, 0, none⟩ = some (.iface 59 (.agg (tcells n F))) ∧ w3.cell? ⟨w.heap.size + 2, 0, none⟩ = some (.int .i64 (s : Int)) from
    ⟨(hb3.cell (World.block_lt_of_cell? _ _ c0)).trans c0, (hb3.cell (World.block_lt_of_cell? _ _ cl)).trans cl⟩)
  have HRA := Lib.hid (fun W => rows_any W n F)
  have HRB := Lib.hid (show Calls Tryd.prog 150 #[.agg (tcells n F)] ((W1.alloc (.cells #[.int .i64 0] 3)).drew) fun e w3 => e = .returned (.int .i64 (n : Int)) ∧ Below (W1.alloc (.cells #[.int .i64 0] 3)).drew.heap.size (W1.alloc (.cells #[.int .i64 0] 3)).drew w3 ∧ w3.cell? ⟨W1.heap.size, 0, none⟩ = some (.int .i64 0) ∧ w3.frozen? ⟨W1.heap.size, 0, none⟩ = false from
    (rows_any _ n F).mono fun e w3 h => ⟨h.1, h.2, (box_later2 h.2).2.1, (box_later2 h.2).2.2⟩)
  have hme := fun W => meth_rows 313 n F W
  have hme2 := fun W => meth_rows 273 n F W
  simp only [Nat.reduceAdd] at hme hme2
  obtain ⟨hrw1, hrw2, hrw3, hrw4, hrw5⟩ := HRW.out
  have HS2 := Lib.hid (show w.heap.size + 5 ≤ W1.heap.size from Nat.le_of_eq HBX.out.2.1.symm)
  clear hW1 e2 e3 e4
  apply onceIn_any (fun (b : Nat) (W : World) => Boxed W b 3 (.int .i64 (row : Int)) ∧ w.heap.size + 5 ≤ b ∧ Below W1.heap.size W1 W)
  case h1 =>
    refine wpIn_wide.2 ?_
    first
      | go_region_held3 (fun w' => w'.cell? ⟨w.heap.size, 0, none⟩ = some (.iface 59 (.agg (tcells n F))) ∧ w'.cell? ⟨w.heap.size + 2, 0, none⟩ = some (.int .i64 (s : Int)))
          (first | exact ⟨c0, cl⟩ | exact HK.out _ (undrewL hb3) | exact HK.out _ ((undrewL hb3).alloc (undrewL hb3).size _) | exact HK.out _ (((Below.refl _ _).alloc (Nat.le_refl _) _).drew) | exact HK.out _ (step_below (((Below.refl W1.heap.size W1).alloc (Nat.le_refl _) (.cells #[.int .i64 0] 3)).drew) hb3) | exact HK.out _ ((step_below (((Below.refl W1.heap.size W1).alloc (Nat.le_refl _) (.cells #[.int .i64 0] 3)).drew) hb3).setCell (p := ⟨W1.heap.size, 0, none⟩) (Nat.le_refl _) _))
          (first | (go_at_call 150; with_reducible refine Calls.mono HRB.out ?_; rintro e w3 ⟨rfl, hb3, hz1, hz2⟩) | (go_at_call 150; refine (HRA.out _).mono ?_; rintro e w3 ⟨rfl, hb3⟩) | (go_at_call 101; refine (HSI.out _).mono ?_; rintro e w' ⟨rfl, rfl⟩))
      | fail "region"
    all_goals
      first
        | (obtain ⟨b, hbb⟩ : ∃ b, w3.heap.size = b := ⟨_, rfl⟩
           simp only [hbb]
           exact ⟨b, ⟨by rw [← hbb]; exact Boxed.new _ _ _, by rw [← hbb]; exact Nat.le_trans HS2.out (undrewL hb3).size, (undrewL hb3).alloc (undrewL hb3).size _⟩, rfl⟩)
        | (obtain ⟨b, hbb⟩ : ∃ b, W1.heap.size = b := ⟨_, rfl⟩
           have hx := (box_later2 hb3).1.set (.int .i64 (row : Int))
           have hy := (step_below (((Below.refl W1.heap.size W1).alloc (Nat.le_refl _) (.cells #[.int .i64 0] 3)).drew) hb3).setCell (p := ⟨W1.heap.size, 0, none⟩) (Nat.le_refl _) (.int .i64 (row : Int))
           have hw := HS2.out
           simp only [hbb] at hx hy hw ⊢
           exact ⟨b, ⟨hx, hw, hy⟩, rfl⟩)
  rintro Br W2 ⟨hbr, hbr2, hb2⟩
  clear hrw1 hrw2 hrw3 hrw4 hrw5 c0 c1 c2 c3 cl hme hme2
  have hcl2 := (HK.out _ hb2).2
  gi_wp2_with (refine ⟨trivial, ?_⟩; gi_at_call 102; refine (callsIn_wide.2 (all_any s _)).mono ?_; rintro e w' ⟨rfl, rfl⟩)
  obtain ⟨hb1, hs1, k0, k1, k2, k3, k4⟩ := HBX.out
  have hlt := hbr.lt
  have hsz2 := hb2.size
  have hBw := HM.out.lt
  have hcl3 : ∀ b, b < W1.heap.size → W2.heap[b]? = W1.heap[b]? := fun b hb => hb2.block b hb
  obtain ⟨W3, hW3⟩ : ∃ W3, W2.alloc (.cells #[.int .i64 (s : Int)] 81) = W3 := ⟨_, rfl⟩
  rw [hW3]
  have hb3 : Below W1.heap.size W1 W3 := by rw [← hW3]; exact hb2.alloc hb2.size _
  have hz3 : W3.heap.size = W2.heap.size + 1 := by rw [← hW3]; simp
  have hst3 : W3.heap[W2.heap.size]? = some (.cells #[.int .i64 (s : Int)] 81 (0, 0)) := by rw [← hW3]; exact World.alloc_heap_new _ _
  have hb03 := step_below hb1 hb3
  have hI0 : NJ w n F B s m e row made L Br [] W3 := by
    refine ⟨(hb3.block _ (by omega)).trans k0, (hb3.block _ (by omega)).trans k1, (hb3.block _ (by omega)).trans k2, (hb3.block _ (by omega)).trans k3, ⟨0, (hb3.block _ (by omega)).trans k4⟩, ?_, ?_, ⟨hb03.os, hb03.tape, hb03.output, hb03.size, fun k hk _ => hb03.block k hk⟩, by simp⟩
    · rw [← hW3]; exact hbr.alloc _
    · simpa using HM.out.below hb03
  have hT3 := HT.out.later hb03
  have HI0 := Lib.hid hI0
  have HZS := Lib.hid (And.intro hz3 (And.intro hlt (And.intro hsz2 (And.intro hs1 (And.intro hBw hbr2)))))
  clear hW3 hI0 hcl2 hcl3 hbr k0 k1 k2 k3 k4 hb1 hb2
  refine wpIn_rangeFunc_ownH rfl (by decide) (gf := 121) (lb := #[.pointer (some ⟨W2.heap.size, 0, none⟩)]) rfl trivial (enters_of Tryd.func121 (by kernel_rfl) rfl)
    (all_stopsB (9 - 1) (by decide) W2.heap.size B s (by omega) W3 hgB (by omega) (cell_of_one hst3) hT3) belowK_t (belowK_b (by omega)) (Below.refl _ _) (fun _ => rfl)
    (fun pre X => NJ w n F B s m e row made L Br (pre.map (fun x => x.1.val)) X) (fun c pre X => NStop w n F B s m row made L c (pre.map (fun x => x.1.val)) X) (nj_own (by omega) (by omega) (by omega)) (fun c => nx_own (by omega) (by omega) c) HI0.out
    (fun x a' X => Boxed X (w.heap.size + 4) 3 (.int .i64 ((x.1.val : Nat) : Int)) ∧ a' = { tmps := #[.agg #[.iface 59 (.agg (tcells n F)), .int .i64 (-9223372036854775808), .func (.func 90) #[] #[], .map (some B)], .int .i64 made, .int .i64 (s : Int), .int .i64 L, .pointer (some ⟨w.heap.size, 0, none⟩), .pointer (some ⟨w.heap.size + 1, 0, none⟩), .pointer (some ⟨w.heap.size + 2, 0, none⟩), .pointer (some ⟨w.heap.size + 3, 0, none⟩), .pointer (some ⟨w.heap.size + 4, 0, none⟩), .pointer (some ⟨Br, 0, none⟩), undef, .pointer (some ⟨w.heap.size, 0, none⟩), .iface 59 (.agg (tcells n F)), .int .i64 (n : Int), .int .i64 (s : Int), .int .i64 (d : Int), .int .i64 (row : Int), .int .i64 (s : Int), seqOf W2.heap.size, .int .i64 ((x.1.val : Nat) : Int), undef, undef, undef, undef, undef, undef, undef, undef, undef, undef, undef, undef, undef, undef, undef, undef, undef, undef, undef, undef, undef, undef, undef], defers := [] })
    ?ax ?assign ?body ?done ?stop
  case ax =>
    intro x a' _ X Y rw hs hg hr
    exact ⟨(hg.block _ hs.1.lt (fun e => by have := (hr _ e.symm).1; omega)).trans hs.1, hs.2⟩
  case assign =>
    rintro l pre x X K ⟨g1, g2, g3, g4, ⟨z, g5⟩, g6, g7, g8, g9⟩ hK
    have HK := Lib.hid hK
    have HX := Lib.hid (And.intro g1 (And.intro g2 (And.intro g3 (And.intro g4 (And.intro g5 (And.intro g6 (And.intro g7 (And.intro g8 g9))))))))
    have c5 := g5.cell
    have f5 := g5.frozen
    clear hK g1 g2 g3 g4 g5 g6 g7 g8 g9 hst3 hT3 hb03 hb3
    gi_wp2
    clear c5 f5
    obtain ⟨g1, g2, g3, g4, g5, g6, g7, g8, g9⟩ := HX.out
    obtain ⟨hz3, hlt, hsz2, hs1, hBw, hbr2⟩ := HZS.out
    have o6 : ∀ k, k ≠ w.heap.size + 4 → (X.setCell ⟨w.heap.size + 4, 0, none⟩ (.int .i64 ((x.1.val : Nat) : Int))).heap[k]? = X.heap[k]? := fun k hk => Below.heap_setCell _ _ _ k hk
    have hgs := grown_setCell X (w.heap.size + 4) 0 (.int .i64 ((x.1.val : Nat) : Int))
    refine HK.out _ _ ((KeepsOthers.setCell _ _ _).from _) ((Below.refl _ _).setCell (p := ⟨w.heap.size + 4, 0, none⟩) (by show B ≤ w.heap.size + 4; omega) _) ?_ ⟨g5.set _, rfl⟩
    exact ⟨(o6 _ (by omega)).trans g1, (o6 _ (by omega)).trans g2, (o6 _ (by omega)).trans g3, (o6 _ (by omega)).trans g4, ⟨_, g5.set _⟩, (o6 _ (by omega)).trans g6, g7.kept hgs (by simp; omega),
      ⟨g8.os, g8.tape, g8.output, Nat.le_trans g8.size hgs.size, fun k hk ho => (o6 k (by omega)).trans (g8.block k hk ho)⟩, g9⟩
  case body =>
    rintro l pre x a' X hlW hlo hJ ⟨hcol, rfl⟩ hlen
    obtain ⟨v, hv⟩ : ∃ v, x.1.val = v := ⟨_, rfl⟩
    have hv8 : v < 8 := by rw [← hv]; exact x.1.isLt
    have hvm : s.testBit v = true := by rw [← hv]; exact x.2
    have hv6 : v < 6 := bits_six' ⟨v, hv8⟩ ⟨s, hs⟩ hvm
    have hpl : pre.length < 8 := Nat.lt_of_lt_of_le hlen (bitsOf_len8' s)
    obtain ⟨l1, hl1⟩ : ∃ l1, pre.map (fun x => x.1.val) = l1 := ⟨_, rfl⟩
    have hll : l1.length < 8 := by rw [← hl1, List.length_map]; exact hpl
    have hsn1 : (pre ++ [x]).map (fun x => x.1.val) = l1 ++ [v] := by rw [List.map_append, hl1]; simp [hv]
    have hJ' : NJ w n F B s m e row made L Br l1 X := by rw [← hl1]; exact hJ
    obtain ⟨g1, g2, g3, g4, g5, g6, g7, g8, g9⟩ := hJ'
    rw [hv] at hcol ⊢
    obtain ⟨t, ht⟩ : ∃ t, wo8 s v = t := ⟨_, rfl⟩
    have htlt : t < s := by rw [← ht]; exact wo8_less (by omega) hv8 hvm
    obtain ⟨hm, hsn, hd, hrow, hmade⟩ := HNUM0.out
    have htl : (bitsOf t).length = e := by
      have := wo8_len (show s < 256 by omega) hv8 hvm
      rw [ht] at this
      omega
    have hcs : 10 ^ (e + 1) = 10 * 10 ^ e := by rw [Nat.pow_succ, Nat.mul_comm]
    have hcnt : cntI t = 10 ^ e := by unfold cntI; rw [htl]
    have hcnts : cntI s = 10 * 10 ^ e := by unfold cntI; rw [hd, hcs]
    have hmul : l1.length * 10 ^ e + 10 ^ e ≤ 8 * 10 ^ e := by rw [← Nat.succ_mul]; exact Nat.mul_le_mul_right _ (by omega)
    have hm5 : m + l1.length * 10 ^ e + cntI t ≤ m + cntI s := by omega
    have hTX := HT.out.withinI g8 hgB
    have hwo : ∀ W, Calls Tryd.prog 94 #[.int .i64 (s : Int), .int .i64 (v : Int)] W fun e w' => e = .returned (.int .i64 (t : Int)) ∧ W = w' := fun W => by
      rw [← ht]; exact without_any s v (by omega) hv8 W
    obtain ⟨z1, hz1⟩ : ∃ z1, gS n F t = z1 := ⟨_, rfl⟩
    have hz1b := gS_bound HF.out (n := n) (show t < 256 by omega)
    rw [hz1] at hz1b
    obtain ⟨f, hf⟩ : ∃ f, F (6 * row + v) = f := ⟨_, rfl⟩
    have hfb := HF.out (6 * row + v)
    rw [hf] at hfb
    obtain ⟨tg, htg⟩ : ∃ tg, max made f = tg := ⟨_, rfl⟩
    obtain ⟨y, hy⟩ : ∃ y, max tg z1 = y := ⟨_, rfl⟩
    have hfit : fitsS n F row s made L v ↔ y = L := by unfold fitsS; rw [ht, hf, hz1, htg, hy]
    have hlt6 : row < 6 := by omega
    have HCA := Lib.hid (fun W => costAt_any W n F row v hlt6 hv6 f hf)
    have HBY1 := Lib.hid (fun W => measSum_any made f tg htg W)
    have HBY2 := Lib.hid (fun W => measSum_any tg (gS n F t) y (by rw [hz1]; exact hy) W)
    have HLE := Lib.hid (fun (W : World) (hMW : MemoI W B (gS n F) (m + l1.length * 10 ^ e)) (hTW : Tab W) => least_any n h6 F HF.out B hgB t (by omega) W (m + l1.length * 10 ^ e) (by omega) hMW hTW (by omega))
    have HWO := Lib.hid hwo
    have HX := Lib.hid (And.intro g1 (And.intro g2 (And.intro g3 (And.intro g4 (And.intro hcol (And.intro g6 (And.intro g7 (And.intro g8 (And.intro g9 hTX)))))))))
    have HNUM := Lib.hid (And.intro hsn1 (And.intro hfit (And.intro hcnt (And.intro hmul (And.intro hm5 hll)))))
    have hfo : Tryd.prog.follows Departure.mixedOrders = true := by kernel_rfl
    obtain ⟨c0, c1, c2, c3⟩ := four_of (W := X.drew) g1
    have cm : X.drew.cell? ⟨w.heap.size + 1, 0, none⟩ = some (.int .i64 made) := g2.cell
    have cr : X.drew.cell? ⟨Br, 0, none⟩ = some (.int .i64 (row : Int)) := g6.cell
    have cc : X.drew.cell? ⟨w.heap.size + 4, 0, none⟩ = some (.int .i64 (v : Int)) := hcol.cell
    have HQ4 := Lib.hid (fun (w6 : World) (h : Below X.drew.heap.size X.drew w6) => show w6.cell? ⟨w.heap.size, 0, none⟩ = some (.iface 59 (.agg (tcells n F))) ∧ w6.cell? ⟨w.heap.size, 2, none⟩ = some (.func (.func 90) #[] #[]) ∧ w6.cell? ⟨w.heap.size + 1, 0, none⟩ = some (.int .i64 made) ∧ w6.cell? ⟨Br, 0, none⟩ = some (.int .i64 (row : Int)) ∧ w6.cell? ⟨w.heap.size + 4, 0, none⟩ = some (.int .i64 (v : Int)) from
      ⟨(h.cell (World.block_lt_of_cell? _ _ c0)).trans c0, (h.cell (World.block_lt_of_cell? _ _ c2)).trans c2, (h.cell (World.block_lt_of_cell? _ _ cm)).trans cm, (h.cell (World.block_lt_of_cell? _ _ cr)).trans cr, (h.cell (World.block_lt_of_cell? _ _ cc)).trans cc⟩)
    clear g1 g2 g3 g4 g5 g6 g7 g8 g9 hcol hJ hlen hl1 hsn1 hll hpl htlt htl hm hsn hd hrow hmade hcs hcnt hcnts hmul hm5 hTX hwo hz1 hz1b hf hfb htg hy hfit hlt6 hvm hv8 hv6 ht hlW hlo hst3 hT3 hb03 hb3 hv hz3 hlt hsz2 hs1 hBw hbr2
    gi_wp2
    apply onceIn_zero (fun (W : World) => Below X.heap.size X W)
    case h1 =>
      refine region_L_drew (S := fun W => W.cell? ⟨w.heap.size, 0, none⟩ = some (.iface 59 (.agg (tcells n F))) ∧ W.cell? ⟨w.heap.size, 2, none⟩ = some (.func (.func 90) #[] #[]) ∧ W.cell? ⟨w.heap.size + 1, 0, none⟩ = some (.int .i64 made) ∧ W.cell? ⟨Br, 0, none⟩ = some (.int .i64 (row : Int)) ∧ W.cell? ⟨w.heap.size + 4, 0, none⟩ = some (.int .i64 (v : Int))) hfo ⟨c0, c2, cm, cr, cc⟩ (fun hHeld => ?_)
      refine anyL_take (i := 0) (v := ?vp0) (by kernel_rfl) rfl (by kernel_rfl) (by kernel_rfl) (by kernel_rfl) (fun _ _ _ h => h) ⟨Or.inl ⟨by rfl, ?hyp0⟩, fun _ => by rfl⟩ (by assumption) ?_
      case hyp0 =>
        intro w' hSw
        try dsimp only at hSw
        obtain ⟨p1, p2, p3, p4, p5⟩ := hSw
        go_simp
        try with_reducible rfl
      try simp only [Act.put, List.setIfInBounds_toArray, List.set_cons_zero, List.set_cons_succ]
      refine anyL_take (i := 1) (v := ?vp1) (by kernel_rfl) rfl (by kernel_rfl) (by kernel_rfl) (by kernel_rfl) (fun _ _ _ h => h) ⟨Or.inl ⟨by rfl, ?hyp1⟩, fun _ => by rfl⟩ (by assumption) ?_
      case hyp1 =>
        intro w' hSw
        try dsimp only at hSw
        obtain ⟨p1, p2, p3, p4, p5⟩ := hSw
        go_simp
        try with_reducible rfl
      try simp only [Act.put, List.setIfInBounds_toArray, List.set_cons_zero, List.set_cons_succ]
      refine anyL_take (i := 2) (v := ?vp2) (by kernel_rfl) rfl (by kernel_rfl) (by kernel_rfl) (by kernel_rfl) (fun _ _ _ h => h) ⟨Or.inl ⟨by rfl, ?hyp2⟩, fun _ => by rfl⟩ (by assumption) ?_
      case hyp2 =>
        intro w' hSw
        try dsimp only at hSw
        obtain ⟨p1, p2, p3, p4, p5⟩ := hSw
        go_simp
        try with_reducible rfl
      try simp only [Act.put, List.setIfInBounds_toArray, List.set_cons_zero, List.set_cons_succ]
      refine anyL_take (i := 3) (v := ?vp3) (by kernel_rfl) rfl (by kernel_rfl) (by kernel_rfl) (by kernel_rfl) (fun _ _ _ h => h) ⟨Or.inl ⟨by rfl, ?hyp3⟩, fun _ => by rfl⟩ (by assumption) ?_
      case hyp3 =>
        intro w' hSw
        try dsimp only at hSw
        obtain ⟨p1, p2, p3, p4, p5⟩ := hSw
        go_simp
        try with_reducible rfl
      try simp only [Act.put, List.setIfInBounds_toArray, List.set_cons_zero, List.set_cons_succ]
      refine anyL_take (i := 4) (v := ?vp4) (by kernel_rfl) rfl (by kernel_rfl) (by kernel_rfl) (by kernel_rfl) (fun _ _ _ h => h) ⟨Or.inl ⟨by rfl, ?hyp4⟩, fun _ => by rfl⟩ (by assumption) ?_
      case hyp4 =>
        intro w' hSw
        try dsimp only at hSw
        obtain ⟨p1, p2, p3, p4, p5⟩ := hSw
        go_simp
        try with_reducible rfl
      try simp only [Act.put, List.setIfInBounds_toArray, List.set_cons_zero, List.set_cons_succ]
      refine anyL_take (i := 5) (v := ?vp5) (by kernel_rfl) rfl (by kernel_rfl) (by kernel_rfl) (by kernel_rfl) (fun _ _ _ h => h) ⟨Or.inl ⟨by rfl, ?hyp5⟩, fun _ => by rfl⟩ (by assumption) ?_
      case hyp5 =>
        intro w' hSw
        try dsimp only at hSw
        obtain ⟨p1, p2, p3, p4, p5⟩ := hSw
        go_simp
        try with_reducible rfl
      try simp only [Act.put, List.setIfInBounds_toArray, List.set_cons_zero, List.set_cons_succ]
      refine anyL_take (i := 6) (v := ?vp6) (by kernel_rfl) rfl (by kernel_rfl) (by kernel_rfl) (by kernel_rfl) (fun _ _ _ h => h) ⟨Or.inl ⟨by rfl, ?hyp6⟩, fun _ => by rfl⟩ (by assumption) ?_
      case hyp6 =>
        intro w' hSw
        try dsimp only at hSw
        obtain ⟨p1, p2, p3, p4, p5⟩ := hSw
        go_simp
        try with_reducible rfl
      try simp only [Act.put, List.setIfInBounds_toArray, List.set_cons_zero, List.set_cons_succ]
      refine anyL_take (i := 7) (v := ?vp7) (by kernel_rfl) rfl (by kernel_rfl) (by kernel_rfl) (by kernel_rfl) (fun _ _ _ h => h) ⟨Or.inl ⟨by rfl, ?hyp7⟩, fun _ => by rfl⟩ (by assumption) ?_
      case hyp7 =>
        intro w' hSw
        try dsimp only at hSw
        obtain ⟨p1, p2, p3, p4, p5⟩ := hSw
        go_simp
        try with_reducible rfl
      try simp only [Act.put, List.setIfInBounds_toArray, List.set_cons_zero, List.set_cons_succ]
      refine anyL_ready (rs := [8]) (by kernel_rfl) (by simp) (AllL.cons rfl (fun K hK => ?_) (AllL.nil))
      · go_simp
        gi_wp2_with (first | (refine ⟨trivial, ?_⟩; gi_at_call 93; refine (CallsIn.inRound l (callsIn_wide.2 (HCA.out _))).mono ?_; rintro e6 w6 ⟨rfl, hb6⟩) | (gi_at_call 93; refine (CallsIn.inRound l (callsIn_wide.2 (HCA.out _))).mono ?_; rintro e6 w6 ⟨rfl, hb6⟩))
        refine hK.out _ _ (HQ4.out w6 hb6) (fun hHeld2 => ?_)
        clear hK K
        try simp only [Act.put, List.setIfInBounds_toArray, List.set_cons_zero, List.set_cons_succ]
        refine anyL_ready (rs := [9]) (by kernel_rfl) (by simp) (AllL.cons rfl (fun K hK => ?_) (AllL.nil))
        · go_simp
          gi_wp2_with (first | (refine ⟨trivial, ?_⟩; gi_at_call 90; refine (CallsIn.inRound l (callsIn_wide.2 (HBY1.out _))).mono ?_; rintro e7 w7 ⟨rfl, rfl⟩) | (gi_at_call 90; refine (CallsIn.inRound l (callsIn_wide.2 (HBY1.out _))).mono ?_; rintro e7 w7 ⟨rfl, rfl⟩))
          refine hK.out _ _ (HQ4.out w6 hb6) (fun hHeld2 => ?_)
          clear hK K
          try simp only [Act.put, List.setIfInBounds_toArray, List.set_cons_zero, List.set_cons_succ]
          refine anyL_take (i := 10) (v := ?vp10) (by kernel_rfl) rfl (by kernel_rfl) (by kernel_rfl) (by kernel_rfl) (fun _ _ _ h => h) ⟨Or.inl ⟨by rfl, ?hyp10⟩, fun _ => by rfl⟩ (by assumption) ?_
          case hyp10 =>
            intro w' hSw
            try dsimp only at hSw
            obtain ⟨p1, p2, p3, p4, p5⟩ := hSw
            go_simp
            try with_reducible rfl
          try simp only [Act.put, List.getElem_toArray, List.getElem_cons_succ, List.getElem_cons_zero, List.setIfInBounds_toArray, List.set_cons_zero, List.set_cons_succ]
          refine anyL_done (by kernel_rfl) ?_ _
          exact ⟨undrewL hb6, rfl⟩
    rintro W5 hb5
    obtain ⟨g1, g2, g3, g4, gc, g6, g7, g8, g9, hTX⟩ := HX.out
    have r1 := (hb5.block _ (Array.getElem?_eq_some_iff.1 g1).1).trans g1
    have r3 : Boxed W5 (w.heap.size + 2) 81 (.int .i64 (s : Int)) := (hb5.block _ g3.lt).trans g3
    have r4 : Boxed W5 (w.heap.size + 3) 3 (.int .i64 L) := (hb5.block _ g4.lt).trans g4
    have rc : Boxed W5 (w.heap.size + 4) 3 (.int .i64 (v : Int)) := (hb5.block _ gc.lt).trans gc
    have HIHt := Lib.hid (HLE.out W5.drew ((g7.below hb5).below (Below.refl _ W5).drew) ((hTX.later hb5).later (Below.refl _ W5).drew))
    obtain ⟨d0, d1, d2, d3⟩ := four_of (W := W5.drew) r1
    have ds : W5.drew.cell? ⟨w.heap.size + 2, 0, none⟩ = some (.int .i64 (s : Int)) := r3.cell
    have dl : W5.drew.cell? ⟨w.heap.size + 3, 0, none⟩ = some (.int .i64 L) := r4.cell
    have dc : W5.drew.cell? ⟨w.heap.size + 4, 0, none⟩ = some (.int .i64 (v : Int)) := rc.cell
    have HB5 := Lib.hid hb5
    have HQ5 := Lib.hid (fun (w8 : World) (h : Within B (B + 1) W5.drew w8) => show w8.cell? ⟨w.heap.size, 0, none⟩ = some (.iface 59 (.agg (tcells n F))) ∧ w8.cell? ⟨w.heap.size, 1, none⟩ = some (.int .i64 (-9223372036854775808)) ∧ w8.cell? ⟨w.heap.size, 2, none⟩ = some (.func (.func 90) #[] #[]) ∧ w8.cell? ⟨w.heap.size, 3, none⟩ = some (.map (some B)) ∧ w8.cell? ⟨w.heap.size + 2, 0, none⟩ = some (.int .i64 (s : Int)) ∧ w8.cell? ⟨w.heap.size + 3, 0, none⟩ = some (.int .i64 L) ∧ w8.cell? ⟨w.heap.size + 4, 0, none⟩ = some (.int .i64 (v : Int)) from by
      obtain ⟨hz3, hlt, hsz2, hs1, hBw, hbr2⟩ := HZS.out
      have s1 := (h.block _ (Array.getElem?_eq_some_iff.1 r1).1 (.inr (by omega))).trans r1
      have s3 : Boxed w8 (w.heap.size + 2) 81 (.int .i64 (s : Int)) := (h.block _ r3.lt (.inr (by omega))).trans r3
      have s4 : Boxed w8 (w.heap.size + 3) 3 (.int .i64 L) := (h.block _ r4.lt (.inr (by omega))).trans r4
      have sc : Boxed w8 (w.heap.size + 4) 3 (.int .i64 (v : Int)) := (h.block _ rc.lt (.inr (by omega))).trans rc
      obtain ⟨a0, a1, a2, a3⟩ := four_of s1
      exact ⟨a0, a1, a2, a3, s3.cell, s4.cell, sc.cell⟩)
    obtain ⟨bz, hbz⟩ : ∃ bz, (y == L) = bz := ⟨_, rfl⟩
    clear g1 g2 g3 g4 gc g6 g7 g8 g9 hTX r1 r3 r4 rc hb5 c0 c1 c2 c3 cm cr cc
    unfold lcells at HIHt
    gi_wp2
    apply onceIn_zero (fun (W : World) => MemoI W B (gS n F) (m + l1.length * 10 ^ e + cntI t) ∧ Within B (B + 1) W5 W)
    case h1 =>
      refine region_L_drew (S := fun W => (W.cell? ⟨w.heap.size, 0, none⟩ = some (.iface 59 (.agg (tcells n F))) ∧ W.cell? ⟨w.heap.size, 1, none⟩ = some (.int .i64 (-9223372036854775808)) ∧ W.cell? ⟨w.heap.size, 2, none⟩ = some (.func (.func 90) #[] #[]) ∧ W.cell? ⟨w.heap.size, 3, none⟩ = some (.map (some B)) ∧ W.cell? ⟨w.heap.size + 2, 0, none⟩ = some (.int .i64 (s : Int)) ∧ W.cell? ⟨w.heap.size + 3, 0, none⟩ = some (.int .i64 L) ∧ W.cell? ⟨w.heap.size + 4, 0, none⟩ = some (.int .i64 (v : Int)))) hfo ⟨d0, d1, d2, d3, ds, dl, dc⟩ (fun hHeld => ?_)
      refine anyL_take (i := 0) (v := ?vq0) (by kernel_rfl) rfl (by kernel_rfl) (by kernel_rfl) (by kernel_rfl) (fun _ _ _ h => h) ⟨Or.inl ⟨by rfl, ?hyq0⟩, fun _ => by rfl⟩ (by assumption) ?_
      case hyq0 =>
        intro w' hSw
        try dsimp only at hSw
        obtain ⟨p0, p1, p2, p3, p4, p5, p6⟩ := hSw
        go_simp
        try with_reducible rfl
      try simp only [Act.put, List.setIfInBounds_toArray, List.set_cons_zero, List.set_cons_succ]
      refine anyL_take (i := 1) (v := ?vq1) (by kernel_rfl) rfl (by kernel_rfl) (by kernel_rfl) (by kernel_rfl) (fun _ _ _ h => h) ⟨Or.inl ⟨by rfl, ?hyq1⟩, fun _ => by rfl⟩ (by assumption) ?_
      case hyq1 =>
        intro w' hSw
        try dsimp only at hSw
        obtain ⟨p0, p1, p2, p3, p4, p5, p6⟩ := hSw
        go_simp
        try with_reducible rfl
      try simp only [Act.put, List.setIfInBounds_toArray, List.set_cons_zero, List.set_cons_succ]
      refine anyL_take (i := 2) (v := ?vq2) (by kernel_rfl) rfl (by kernel_rfl) (by kernel_rfl) (by kernel_rfl) (fun _ _ _ h => h) ⟨Or.inl ⟨by rfl, ?hyq2⟩, fun _ => by rfl⟩ (by assumption) ?_
      case hyq2 =>
        intro w' hSw
        try dsimp only at hSw
        obtain ⟨p0, p1, p2, p3, p4, p5, p6⟩ := hSw
        go_simp
        try with_reducible rfl
      try simp only [Act.put, List.setIfInBounds_toArray, List.set_cons_zero, List.set_cons_succ]
      refine anyL_take (i := 3) (v := ?vq3) (by kernel_rfl) rfl (by kernel_rfl) (by kernel_rfl) (by kernel_rfl) (fun _ _ _ h => h) ⟨Or.inl ⟨by rfl, ?hyq3⟩, fun _ => by rfl⟩ (by assumption) ?_
      case hyq3 =>
        intro w' hSw
        try dsimp only at hSw
        obtain ⟨p0, p1, p2, p3, p4, p5, p6⟩ := hSw
        go_simp
        try with_reducible rfl
      try simp only [Act.put, List.setIfInBounds_toArray, List.set_cons_zero, List.set_cons_succ]
      refine anyL_take (i := 4) (v := ?vq4) (by kernel_rfl) rfl (by kernel_rfl) (by kernel_rfl) (by kernel_rfl) (fun _ _ _ h => h) ⟨Or.inl ⟨by rfl, ?hyq4⟩, fun _ => by rfl⟩ (by assumption) ?_
      case hyq4 =>
        intro w' hSw
        try dsimp only at hSw
        obtain ⟨p0, p1, p2, p3, p4, p5, p6⟩ := hSw
        go_simp
        try with_reducible rfl
      try simp only [Act.put, List.setIfInBounds_toArray, List.set_cons_zero, List.set_cons_succ]
      refine anyL_take (i := 5) (v := ?vq5) (by kernel_rfl) rfl (by kernel_rfl) (by kernel_rfl) (by kernel_rfl) (fun _ _ _ h => h) ⟨Or.inl ⟨by rfl, ?hyq5⟩, fun _ => by rfl⟩ (by assumption) ?_
      case hyq5 =>
        intro w' hSw
        try dsimp only at hSw
        obtain ⟨p0, p1, p2, p3, p4, p5, p6⟩ := hSw
        go_simp
        try with_reducible rfl
      try simp only [Act.put, List.setIfInBounds_toArray, List.set_cons_zero, List.set_cons_succ]
      refine anyL_take (i := 6) (v := ?vq6) (by kernel_rfl) rfl (by kernel_rfl) (by kernel_rfl) (by kernel_rfl) (fun _ _ _ h => h) ⟨Or.inl ⟨by rfl, ?hyq6⟩, fun _ => by rfl⟩ (by assumption) ?_
      case hyq6 =>
        intro w' hSw
        try dsimp only at hSw
        obtain ⟨p0, p1, p2, p3, p4, p5, p6⟩ := hSw
        go_simp
        try with_reducible rfl
      try simp only [Act.put, List.setIfInBounds_toArray, List.set_cons_zero, List.set_cons_succ]
      refine anyL_take (i := 10) (v := ?vq10) (by kernel_rfl) rfl (by kernel_rfl) (by kernel_rfl) (by kernel_rfl) (fun _ _ _ h => h) ⟨Or.inl ⟨by rfl, ?hyq10⟩, fun _ => by rfl⟩ (by assumption) ?_
      case hyq10 =>
        intro w' hSw
        try dsimp only at hSw
        obtain ⟨p0, p1, p2, p3, p4, p5, p6⟩ := hSw
        go_simp
        try with_reducible rfl
      try simp only [Act.put, List.getElem_toArray, List.getElem_cons_succ, List.getElem_cons_zero, List.setIfInBounds_toArray, List.set_cons_zero, List.set_cons_succ]
      refine anyL_ready (rs := [7]) (by kernel_rfl) (by simp) (AllL.cons rfl (fun K hK => ?_) (AllL.nil))
      · go_simp
        gi_wp2_with (first | (refine ⟨trivial, ?_⟩; gi_at_call 94; refine (CallsIn.inRound l (callsIn_wide.2 (HWO.out _))).mono ?_; rintro e7 w7 ⟨rfl, rfl⟩) | (gi_at_call 94; refine (CallsIn.inRound l (callsIn_wide.2 (HWO.out _))).mono ?_; rintro e7 w7 ⟨rfl, rfl⟩))
        refine hK.out _ _ (hHeld) (fun hHeld2 => ?_)
        clear hK K
        try simp only [Act.put, List.getElem_toArray, List.getElem_cons_succ, List.getElem_cons_zero, List.setIfInBounds_toArray, List.set_cons_zero, List.set_cons_succ]
        refine anyL_ready (rs := [8]) (by kernel_rfl) (by simp) (AllL.cons rfl (fun K hK => ?_) (AllL.nil))
        · go_simp
          gi_wp2_with (first | (refine ⟨trivial, ?_⟩; gi_at_call 66; refine (CallsIn.inRound l (callsIn_wide.2 HIHt.out)).mono ?_; rintro e8 w8 ⟨rfl, hM', hw'⟩) | (gi_at_call 66; refine (CallsIn.inRound l (callsIn_wide.2 HIHt.out)).mono ?_; rintro e8 w8 ⟨rfl, hM', hw'⟩))
          refine hK.out _ _ (HQ5.out w8 hw') (fun hHeld2 => ?_)
          clear hK K
          try simp only [Act.put, List.getElem_toArray, List.getElem_cons_succ, List.getElem_cons_zero, List.setIfInBounds_toArray, List.set_cons_zero, List.set_cons_succ]
          refine anyL_ready (rs := [9]) (by kernel_rfl) (by simp) (AllL.cons rfl (fun K hK => ?_) (AllL.nil))
          · go_simp
            gi_wp2_with (first | (refine ⟨trivial, ?_⟩; gi_at_call 90; refine (CallsIn.inRound l (callsIn_wide.2 (HBY2.out _))).mono ?_; rintro e7 w7 ⟨rfl, rfl⟩) | (gi_at_call 90; refine (CallsIn.inRound l (callsIn_wide.2 (HBY2.out _))).mono ?_; rintro e7 w7 ⟨rfl, rfl⟩))
            refine hK.out _ _ (HQ5.out w8 hw') (fun hHeld2 => ?_)
            clear hK K
            try simp only [Act.put, List.getElem_toArray, List.getElem_cons_succ, List.getElem_cons_zero, List.setIfInBounds_toArray, List.set_cons_zero, List.set_cons_succ]
            refine anyL_take (i := 11) (v := ?vq11) (by kernel_rfl) rfl (by kernel_rfl) (by kernel_rfl) (by kernel_rfl) (fun _ _ _ h => h) ⟨Or.inl ⟨by rfl, ?hyq11⟩, fun _ => by rfl⟩ (by assumption) ?_
            case hyq11 =>
              intro w' hSw
              try dsimp only at hSw
              obtain ⟨p0, p1, p2, p3, p4, p5, p6⟩ := hSw
              go_simp
              try with_reducible rfl
            try simp only [Act.put, List.getElem_toArray, List.getElem_cons_succ, List.getElem_cons_zero, List.setIfInBounds_toArray, List.set_cons_zero, List.set_cons_succ]
            refine anyL_done (by kernel_rfl) ?_ _
            exact ⟨⟨hM', ⟨hw'.os, hw'.tape, hw'.output, hw'.size, hw'.block⟩⟩, rfl⟩
    rintro W6 ⟨hM6, hw6⟩
    clear d0 d1 d2 d3 ds dl dc
    have HBZ := Lib.hid hbz
    clear hbz
    obtain ⟨g1, g2, g3, g4, gc, g6, g7, g8, g9, hTX⟩ := HX.out
    obtain ⟨hz3, hlt, hsz2, hs1, hBw, hbr2⟩ := HZS.out
    obtain ⟨hsn1, hfit, hcnt, hmul, hm5, hll⟩ := HNUM.out
    have hb5 := HB5.out
    have hX5 := hb5.size
    have hX6 := hw6.size
    have o7 : ∀ k, (k < B ∨ B + 1 ≤ k) → k < X.heap.size → W6.heap[k]? = X.heap[k]? := fun k h2 h3 => (hw6.block k (by omega) h2).trans (hb5.block k h3)
    have l1' := (Array.getElem?_eq_some_iff.1 g1).1
    have l2 := g2.lt
    have l3 := g3.lt
    have l4 := g4.lt
    have l5 := gc.lt
    have l6 := g6.lt
    have q1 := (o7 _ (.inr (by omega)) l1').trans g1
    have q2 : Boxed W6 (w.heap.size + 1) 3 (.int .i64 made) := (o7 _ (.inr (by omega)) l2).trans g2
    have q3 : Boxed W6 (w.heap.size + 2) 81 (.int .i64 (s : Int)) := (o7 _ (.inr (by omega)) l3).trans g3
    have q4 : Boxed W6 (w.heap.size + 3) 3 (.int .i64 L) := (o7 _ (.inr (by omega)) l4).trans g4
    have q5 : Boxed W6 (w.heap.size + 4) 3 (.int .i64 (v : Int)) := (o7 _ (.inr (by omega)) l5).trans gc
    have q6 : Boxed W6 Br 3 (.int .i64 (row : Int)) := (o7 _ (.inr (by omega)) l6).trans g6
    have gK : KeepsFrom W3.heap.size X W6 := ⟨by omega, fun k o hk ho _ => (o7 k (.inr (by omega)) (Array.getElem?_eq_some_iff.1 ho).1).trans ho⟩
    have gB : Below B X W6 := ⟨hw6.os.trans hb5.os, hw6.tape.trans hb5.tape, hw6.output.trans hb5.output, by omega, fun k hk => o7 k (.inl hk) (by omega)⟩
    have gW : Within B (B + 1) w W6 := ⟨gB.os.trans g8.os, gB.tape.trans g8.tape, gB.output.trans g8.output, by have := g8.size; omega, fun k hk ho => (o7 k ho (by have := g8.size; omega)).trans (g8.block k hk ho)⟩
    have gA := g9
    have HAll := Lib.hid (And.intro q1 (And.intro q2 (And.intro q3 (And.intro q4 (And.intro q5 (And.intro q6 (And.intro gK (And.intro gB (And.intro gW (And.intro gA hM6))))))))))
    clear g1 g2 g3 g4 gc g6 g7 g8 g9 hTX q1 q2 q3 q4 q5 q6 gK gB gW gA hM6 hw6 o7 l1' l2 l3 l4 l5 l6 hb5 hX5 hX6 hz3 hlt hsz2 hs1 hBw hbr2 hsn1 hfit hcnt hmul hm5 hll
    cases bz with
    | true =>
      gi_wp2
      obtain ⟨hsn1, hfit, hcnt, hmul, hm5, hll⟩ := HNUM.out
      obtain ⟨q1, q2, q3, q4, q5, q6, gK, gB, gW, gA, hM6⟩ := HAll.out
      have hyL : y = L := by have := HBZ.out; rw [beq_iff_eq] at this; exact this
      refine ⟨gK, ?_⟩
      show NStop w n F B s m row made L (.exit 0) ((pre ++ [x]).map (fun x => x.1.val)) W6
      rw [hsn1]
      exact ⟨rfl, l1, v, rfl, gA, hfit.2 hyL, q5, hM6.mono hm5, gW⟩
    | false =>
      gi_wp2
      obtain ⟨hsn1, hfit, hcnt, hmul, hm5, hll⟩ := HNUM.out
      obtain ⟨q1, q2, q3, q4, q5, q6, gK, gB, gW, gA, hM6⟩ := HAll.out
      have hyL : ¬ y = L := by have := HBZ.out; rw [beq_eq_false_iff_ne] at this; exact this
      refine ⟨gK, gB, ?_⟩
      show NJ w n F B s m e row made L Br ((pre ++ [x]).map (fun x => x.1.val)) W6
      rw [hsn1]
      refine ⟨q1, q2, q3, q4, ⟨_, q5⟩, q6, hM6.mono ?_, gW, fun u hu => ?_⟩
      · rw [List.length_append, List.length_singleton, Nat.add_mul, hcnt]
        omega
      · rcases List.mem_append.1 hu with hu | hu
        · exact gA u hu
        · rw [List.mem_singleton.1 hu]
          exact fun h => hyL (hfit.1 h)
  case done =>
    rintro Dd ys X hDd hys ⟨g1, g2, g3, g4, g5, g6, g7, g8, g9⟩ hKD
    exfalso
    have e1 : ys.map (fun x => x.1.val) = elems s := by unfold elems; rw [← hys, List.map_map]; rfl
    rw [e1] at g9
    obtain ⟨v, hv, he⟩ := HEX.out
    exact g9 v hv he
  case stop =>
    rintro Dd c pre X hDd hpre ⟨rfl, l1, v, hl, hno, hyes, hcol, hM7, hW7⟩ hKD
    have hpf : l1 ++ [v] <+: elems s := by
      rw [← hl]
      obtain ⟨tl, htl⟩ := hpre
      refine ⟨tl.map Fin.val, ?_⟩
      unfold elems
      rw [← htl, List.map_append, List.map_map]; rfl
    obtain ⟨hm, hsn, hd, hrow, hmade⟩ := HNUM0.out
    have hgs : ∀ u, u ∈ elems s → gS n F (wo8 s u) = lst max minI F e (row + 1) (wo8 s u) := fun u hu => by
      obtain ⟨hu8, hub⟩ := mem_elems.1 hu
      have h1 : (bitsOf (wo8 s u)).length = e := by have := wo8_len (show s < 256 by omega) hu8 hub; omega
      have h2 : n - e = row + 1 := by omega
      unfold gS
      rw [h1, h2]
    have hnx : nxt max minI F e row s made L = v := by
      have hf : (elems s).find? (fun u => max (max made (F (6 * row + u))) (lst max minI F e (row + 1) (wo8 s u)) == L) = some v := find_prefix hpf
        (fun u hu => by
          rw [beq_eq_false_iff_ne]
          intro h
          refine hno u hu ?_
          unfold fitsS
          rw [hgs u (hpf.subset (by simp [hu]))]
          exact h)
        (by
          rw [beq_iff_eq, ← hgs v (hpf.subset (by simp))]
          exact hyes)
      unfold nxt
      show ((elems s).find? (fun u => max (max made (F (6 * row + u))) (lst max minI F e (row + 1) (wo8 s u)) == L)).getD ((elems s).getLastD 0) = v
      rw [hf]
      rfl
    have HNX := Lib.hid hnx
    have hcc := hcol.cell
    have hcf := hcol.frozen
    have HS := Lib.hid (And.intro hcol (And.intro hM7 (And.intro hW7 hKD)))
    clear hcol hM7 hW7 hKD hl hno hyes hpf hgs hnx hm hsn hd hrow hmade hpre
    gi_wp2
    obtain ⟨hcol, hM7, hW7, hKD⟩ := HS.out
    rw [HNX.out]
    have hgs := grown_setCell X (w.heap.size + 4) 0 (.int .i64 (v : Int))
    have o6 : ∀ k, k ≠ w.heap.size + 4 → (X.setCell ⟨w.heap.size + 4, 0, none⟩ (.int .i64 (v : Int))).heap[k]? = X.heap[k]? := fun k hk => Below.heap_setCell _ _ _ k hk
    refine next_leave w B (m + cntI s) (gS n F) v _ ?_ Dd _ hBw (by omega) ((o6 _ (by omega)).trans hKD) (hcol.set _) (hM7.kept hgs (by simp; omega))
      ⟨hW7.os, hW7.tape, hW7.output, Nat.le_trans hW7.size hgs.size, fun k hk ho => (o6 k (by omega)).trans (hW7.block k hk ho)⟩
    rfl

end Go.Proofs.YtjbgjebbfkhidabDoor.Mx