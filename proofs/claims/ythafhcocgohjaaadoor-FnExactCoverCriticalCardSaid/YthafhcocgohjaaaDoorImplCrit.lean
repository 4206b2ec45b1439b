/-
  impl.CoverCritical.
-/
import Derived.Test.YthafhcocgohjaaaDoorImplNums
import Derived.Test.YthafhcocgohjaaaDoorCritB
import Derived.Test.YthafhcocgohjaaaDoorCore2
import Derived.Deep.RegionWith
namespace Go.Proofs.YthafhcocgohjaaaDoor
set_option linter.unusedVariables false
set_option linter.unusedSimpArgs false
open Go.RowKit Go.Shelf
attribute [local go_sem] Oper.semAt_some

theorem store_counter_in {F : Fence} {m : Nat} {ops : Array Oper} {rest : List Oper} {o : Oper} {a : Act} {w : World} {Q : Exit → Act → World → Prop} (hgd : o.guard = none) (x y : Operand) (ho : o.op = .store 49 x y)
    (b : Nat) (n : Nat) (f : Nat → Nat) (B : Nat) (hx : a.eval x = .pointer (some ⟨b, 0, none⟩)) (hy : a.eval y = .agg (ccells n f B)) (c0 : Array Value) (hc0 : c0.size = 10)
    (hg : w.heap[b]? = some (.cells c0 49 (0, 0)))
    (h : wpListIn F m Tryd.prog ops Q rest (a.put o.dst undef) (w.setRow b (ccells n f B))) : wpListIn F m Tryd.prog ops Q (o :: rest) a w := by
  refine wpListIn_plain hgd fun K hK' => ?_
  unfold Oper.wpIn
  refine ⟨?_, ?_⟩
  · simp [Oper.about, ho]
  · rw [Oper.semAt_plain F _ _ (by rw [ho]; intro c hc'; cases hc')]
    unfold execOp
    simp only [ho, hx, hy, Instr.storeAt, Instr.sureAddr, Sem.run_bind, Sem.run_pure, Result.andThen_ok, run_storeVar_row w b 49 49 c0 (ccells n f B) hg (size_ccells n f B) (by rw [hc0]; rfl) (ccells_one n f B)]
    exact hK' _ _ h

theorem store_counter_new_in {F : Fence} {m : Nat} {ops : Array Oper} {rest : List Oper} {o : Oper} {a : Act} {w : World} {Q : Exit → Act → World → Prop} (hgd : o.guard = none) (x y : Operand) (ho : o.op = .store 49 x y)
    (n : Nat) (f : Nat → Nat) (B : Nat) (b : Nat) (hb : w.heap.size = b) (hx : a.eval x = .pointer (some ⟨b, 0, none⟩)) (hy : a.eval y = .agg (ccells n f B))
    (h : wpListIn F m Tryd.prog ops Q rest (a.put o.dst undef) (w.alloc (.cells (ccells n f B) 49))) :
    wpListIn F m Tryd.prog ops Q (o :: rest) a (w.alloc (.cells czeros 49)) := by
  subst hb
  refine store_counter_in hgd x y ho w.heap.size n f B hx hy czeros rfl (World.alloc_heap_new w _) ?_
  rw [World.setRow_alloc_new]
  exact h

theorem crit_leave (w : World) (want b : Bool) (hb : want = b) (tmps : Array Value) (hp : tmps[2]? = some (.pointer (some ⟨w.heap.size, 0, none⟩))) (ds : List Deferred) (W : World)
    (hM : Marks w.heap.size ds W) (hB : Below w.heap.size w W) (hx : Boxed W w.heap.size 4 (.bool b)) :
    bodyPostM Fence.wide 9 Tryd.prog Tryd.f14 (GivesBool w want) .ret { tmps := tmps, defers := ds } W := by
  refine leaves_marks (F := Fence.wide) (n := 9) w.heap.size (fun W => Below w.heap.size w W ∧ Boxed W w.heap.size 4 (.bool b)) ?_ ?_ ds W hM ⟨hB, hx⟩
  · rintro W D hD hk ⟨h1, h2⟩
    refine ⟨below_shut h1 hD hk, (World.putObj_heap_other (fun e => ?_)).trans h2⟩
    have h2' : W.heap[w.heap.size]? = some (.cells #[.bool b] 4 (0, 0)) := h2
    rw [e, hk] at h2'
    cases h2'
  · rintro W ⟨h1, h2⟩
    have hc := h2.cell
    refine ⟨.bool b, ?_, by rw [hb], h1⟩
    simp [results, Tryd.f14, go_sem, hp, hc]

theorem boxed_last {X : World} {b : Nat} {T : TypeId} {v : Value} (hb : b = X.heap.size) : Boxed (X.alloc (.cells #[v] T)) b T v := by
  subst hb; exact World.alloc_heap_new _ _
theorem boxed_past {X : World} {b : Nat} {T : TypeId} {v : Value} (h : Boxed X b T v) (o : Obj) : Boxed (X.alloc o) b T v := by
  have hl := h.lt
  exact (Below.heap_alloc _ _ _ (by omega)).trans h
theorem boxed_drew {X : World} {b : Nat} {T : TypeId} {v : Value} (h : Boxed X b T v) : Boxed X.drew b T v := h
-- (a probe of the closing steps)
theorem boxed_try (X : World) (a b : Value) (S T : TypeId) (o : Obj) : Boxed (((X.alloc o).alloc (.cells #[a] S)).alloc (.cells #[b] T)).drew (X.heap.size + 1) S a ∧ Boxed (((X.alloc o).alloc (.cells #[a] S)).alloc (.cells #[b] T)).drew (X.heap.size + 1 + 1) T b := by
  constructor
  all_goals repeat (first | exact boxed_last (by simp) | refine boxed_past ?_ _ | refine boxed_drew ?_)

/-- What stands when some nodes were tried. -/
def CritI (w : World) (N p5 p6 B n E : Nat) (f : Nat → Nat) (pre : List (Fin 8)) (X : World) : Prop :=
  X.heap[N]? = some (.cells (ccells n f B) 49 (0, 0)) ∧ Boxed X p5 43 (.int .i64 ((2 ^ n - 1 : Nat) : Int)) ∧ Boxed X p6 3 (.int .i64 (E : Int)) ∧ Boxed X w.heap.size 4 (.bool false) ∧
  Memo X B f (pre.length * 100000000) ∧ Below w.heap.size w X ∧ ∀ x ∈ pre, nums f (wo (2 ^ n - 1) x.val) E ≠ 0
def CritX (w : World) (n E : Nat) (f : Nat → Nat) (c : Code) (pre : List (Fin 8)) (X : World) : Prop :=
  (c = .ret ∧ ∃ x, x ∈ pre ∧ nums f (wo (2 ^ n - 1) (Fin.val x)) E = 0) ∧ Below w.heap.size w X ∧ Boxed X w.heap.size 4 (.bool false)
theorem critI_own {w : World} {N p5 p6 B n E S : Nat} {f : Nat → Nat} (hN : N < S) (h5 : p5 < S) (h6 : p6 < S) (hB : B < S) (hw : w.heap.size < S) : OwnFrom S (CritI w N p5 p6 B n E f) := by
  intro pre X Y row hs hg hr
  obtain ⟨g1, g2, g3, g4, g5, g6, g7⟩ := hs
  have kp : ∀ {b : Nat} {o : Obj}, b < S → X.heap[b]? = some o → Y.heap[b]? = some o := fun {b} {o} hb ho =>
    (hg.block b (Array.getElem?_eq_some_iff.1 ho).1 (fun e => by have := (hr b e.symm).1; omega)).trans ho
  exact ⟨kp hN g1, kp h5 g2, kp h6 g3, kp hw g4, g5.kept hg (fun e => by have := (hr B e.symm).1; omega), g6.grown hg g6.size (fun k e => Nat.le_trans (Nat.le_of_lt hw) (hr k e).1), g7⟩
theorem critX_own {w : World} {n E S : Nat} {f : Nat → Nat} (hw : w.heap.size < S) (c : Code) : OwnFrom S (CritX w n E f c) := by
  intro pre X Y row hs hg hr
  obtain ⟨g1, g6, g4⟩ := hs
  exact ⟨g1, g6.grown hg g6.size (fun k e => Nat.le_trans (Nat.le_of_lt hw) (hr k e).1), (hg.block _ g4.lt (fun e => by have := (hr _ e.symm).1; omega)).trans g4⟩

set_option maxRecDepth 100000 in
set_option maxHeartbeats 4000000 in
theorem implCrit_any (w : World) (u : Value) (xs : List Int) (h : Ints w u xs) (hr : ∀ x ∈ xs, I64 x) (hT : Tab w) :
    Calls Tryd.prog 14 #[u] w (GivesBool w (critOf xs)) := by
  have hb0 : Below w.heap.size w (w.alloc (.cells #[.bool false] 4)) := (Below.refl _ _).alloc (Nat.le_refl _) _
  obtain ⟨W0, hW0⟩ : ∃ W0, w.alloc (.cells #[.bool false] 4) = W0 := ⟨_, rfl⟩
  have hsz0 : W0.heap.size = w.heap.size + 1 := by rw [← hW0]; simp
  have hbx0 : Boxed W0 w.heap.size 4 (.bool false) := by rw [← hW0]; exact World.alloc_heap_new _ _
  rw [hW0] at hb0
  cases hg : gIn xs with
  | false =>
    have HR := Lib.hid (readC_any W0 u xs (h.below hb0) hr (hT.later hb0) 0 _ (from_no hg))
    rw [hg] at HR
    have ho : critOf xs = false := by unfold critOf; rw [hg]; rfl
    have HO := Lib.hid ho
    clear h hr hT ho
    refine (callsIn_wide (n := 9)).1 ?_
    refine callsIn_of_wp_marks Tryd.func14 rfl trivial ?_ rfl
    simp only [Tryd.ntmps14, List.size_toArray, List.length_cons, List.length_nil, Nat.reduceAdd, Nat.reduceSub, Array.replicate_succ, Array.replicate_zero, List.push_toArray, List.append_toArray, List.nil_append, List.cons_append]
    gi_wp2_with (first
      | (refine ⟨trivial, ?_⟩; gi_at_call 41; refine (callsIn_wide.2 HR.out).mono ?_; rintro e w1 ⟨B, rfl, hB, hb1, hM⟩)
      | (refine store_counter_new_in rfl _ _ rfl 0 (fun _ => 0) B _ rfl rfl rfl ?_; have hbx1 : Boxed (w1.alloc (.cells (ccells 0 (fun _ => 0) B) 49)) w.heap.size 4 (.bool false) := (Below.heap_alloc _ _ _ (by have := hb1.size; omega)).trans ((hb1.block _ (by omega)).trans hbx0); have hcr := hbx1.cell; have hfr := hbx1.frozen))
    have hb2 := step_below hb0 (hb1.alloc hb1.size (.cells (ccells 0 (fun _ => 0) B) 49))
    exact crit_leave w _ false HO.out _ (by rfl) _ _ (Marks.nil _ _) (hb2.setCell (p := ⟨w.heap.size, 0, none⟩) (Nat.le_refl _) _) (hbx1.set _)
  | true =>
    obtain ⟨h1, h8, hok⟩ := gIn_parts hg
    have hlt := gfun_lt h8 hok
    have ho : critOf xs = critB (gfun xs) xs.length := by unfold critOf; rw [hg]; rfl
    have HR := Lib.hid (readC_any W0 u xs (h.below hb0) hr (hT.later hb0) _ _ (from_yes hg))
    rw [hg] at HR
    rw [ho]
    have HNO := Lib.hid (nodes_any xs.length (gfun xs) h8)
    have HT := Lib.hid hT
    have HL := Lib.hid hlt
    obtain ⟨E, hE⟩ : ∃ E, xs.length / 2 = E := ⟨_, rfl⟩
    have hdiv : (xs.length : Int) / 2 = (E : Int) := by omega
    have hdiv2 : Int.tdiv (xs.length : Int) 2 = (E : Int) := by rw [Int.tdiv_eq_ediv_of_nonneg (by omega)]; exact hdiv
    clear h hr hT ho hok hlt
    refine (callsIn_wide (n := 9)).1 ?_
    refine callsIn_of_wp_marks Tryd.func14 rfl trivial ?_ rfl
    simp only [Tryd.ntmps14, List.size_toArray, List.length_cons, List.length_nil, Nat.reduceAdd, Nat.reduceSub, Array.replicate_succ, Array.replicate_zero, List.push_toArray, List.append_toArray, List.nil_append, List.cons_append]
    gi_wp2_with (first
      | (refine ⟨trivial, ?_⟩; gi_at_call 41; refine (callsIn_wide.2 HR.out).mono ?_; rintro e w1 ⟨B, rfl, hB, hb1, hM⟩)
      | (refine store_counter_new_in rfl _ _ rfl xs.length (gfun xs) B _ rfl rfl rfl ?_))
    obtain ⟨W2, hW2⟩ : ∃ W2, w1.alloc (.cells (ccells xs.length (gfun xs) B) 49) = W2 := ⟨_, rfl⟩
    have hb2 : Below w1.heap.size w1 W2 := by rw [← hW2]; exact (Below.refl _ _).alloc (Nat.le_refl _) _
    have hsz2 : W2.heap.size = w1.heap.size + 1 := by rw [← hW2]; simp
    have hc2 : W2.heap[w1.heap.size]? = some (.cells (ccells xs.length (gfun xs) B) 49 (0, 0)) := by rw [← hW2]; exact World.alloc_heap_new _ _
    have hs1 := hb1.size
    have hBN := hM.lt
    have hbx2 : Boxed W2 w.heap.size 4 (.bool false) := (hb2.block _ (by omega)).trans ((hb1.block _ (by omega)).trans hbx0)
    rw [hW2]
    have hM2 := hM.below hb2
    have hb02 : Below w.heap.size w W2 := step_below hb0 (hb1.trans (hb2.mono hs1))
    have HC2 := Lib.hid hc2
    have HM2 := Lib.hid hM2
    have HB02 := Lib.hid hb02
    have HBX2 := Lib.hid hbx2
    have HZ := Lib.hid (And.intro hsz0 (And.intro hs1 (And.intro hsz2 (And.intro hB hBN))))
    have HE := Lib.hid (And.intro hE hdiv)
    have hcc := counter_cells hc2
    obtain ⟨c0, cs, _, _, _⟩ := hcc
    have c1 := cs 0 (by decide)
    have c2 := cs 1 (by decide)
    have c3 := cs 2 (by decide)
    have c4 := cs 3 (by decide)
    have c5 := cs 4 (by decide)
    have c6 := cs 5 (by decide)
    have c7 := cs 6 (by decide)
    have c8 := cs 7 (by decide)
    have hl2 : w1.heap.size < W2.heap.size := by omega
    have past : ∀ {X : World} {i : Nat} {v : Value} (o : Obj), w1.heap.size < X.heap.size → X.cell? ⟨w1.heap.size, i, none⟩ = some v → (X.alloc o).cell? ⟨w1.heap.size, i, none⟩ = some v := fun {X} {i} {v} o hl h => by
      rw [World.cell?_alloc_past _ _ _ hl]; exact h
    have a0 := fun o => past o hl2 c0
    have b0 := fun o o2 => past o2 (Nat.lt_trans hl2 (by simp)) (a0 o)
    have d0 := fun o o2 o3 => past o3 (Nat.lt_trans hl2 (by simp; omega)) (b0 o o2)
    have a1 := fun o => past o hl2 c1
    have a2 := fun o => past o hl2 c2
    have a3 := fun o => past o hl2 c3
    have a4 := fun o => past o hl2 c4
    have a5 := fun o => past o hl2 c5
    have a6 := fun o => past o hl2 c6
    have a7 := fun o => past o hl2 c7
    have a8 := fun o => past o hl2 c8
    have b1 := fun o o2 => past o2 (Nat.lt_trans hl2 (by simp)) (a1 o)
    have b2 := fun o o2 => past o2 (Nat.lt_trans hl2 (by simp)) (a2 o)
    have b3 := fun o o2 => past o2 (Nat.lt_trans hl2 (by simp)) (a3 o)
    have b4 := fun o o2 => past o2 (Nat.lt_trans hl2 (by simp)) (a4 o)
    have b5 := fun o o2 => past o2 (Nat.lt_trans hl2 (by simp)) (a5 o)
    have b6 := fun o o2 => past o2 (Nat.lt_trans hl2 (by simp)) (a6 o)
    have b7 := fun o o2 => past o2 (Nat.lt_trans hl2 (by simp)) (a7 o)
    have b8 := fun o o2 => past o2 (Nat.lt_trans hl2 (by simp)) (a8 o)
    clear past
    clear cs hM hb1 hb2 hW2 hc2 hM2 hb02 hbx2 hbx0 hb0 hW0 hsz0 hs1 hsz2 hB hE HR
    refine round_k (fun K hK => ?_)
    have HK := Lib.hid hK
    clear hK
    have hwE : IntKind.i64.wrap (E : Int) = (E : Int) := wraps_i64 _ (by omega) (by omega)
    obtain ⟨KEY, -⟩ : (∀ (p5 p6 : Nat) (W : World), W2.heap.size ≤ p5 ∧ W2.heap.size ≤ p6 ∧ p5 ≠ p6 → Below W2.heap.size W2 W → Boxed W p5 43 (.int .i64 ((2 ^ xs.length - 1 : Nat) : Int)) → Boxed W p6 3 (.int .i64 (E : Int)) →
        K { tmps := #[u, undef, .pointer (some ⟨w.heap.size, 0, none⟩), .pointer (some ⟨w1.heap.size, 0, none⟩), .bool true, .pointer (some ⟨p5, 0, none⟩), .pointer (some ⟨p6, 0, none⟩), undef,
          .tuple #[.agg (ccells xs.length (gfun xs) B), .bool true], u, .tuple #[.agg (ccells xs.length (gfun xs) B), .bool true], .agg (ccells xs.length (gfun xs) B), .bool true, .bool true, .bool false,
          .pointer (some ⟨w1.heap.size, 0, none⟩), .agg #[.int .i64 xs.length, .int .i64 (gfun xs 0 : Nat), .int .i64 (gfun xs 1 : Nat), .int .i64 (gfun xs 2 : Nat), .int .i64 (gfun xs 3 : Nat), .int .i64 (gfun xs 4 : Nat), .int .i64 (gfun xs 5 : Nat), .int .i64 (gfun xs 6 : Nat), .int .i64 (gfun xs 7 : Nat)],
          .int .i64 ((2 ^ xs.length - 1 : Nat) : Int), .pointer (some ⟨w1.heap.size, 0, none⟩), .pointer (some ⟨w1.heap.size, 0, none⟩), .int .i64 xs.length, .int .i64 (E : Int), undef, undef, undef, undef, undef, undef, undef, undef, undef, undef, undef], defers := [] } W) ∧ True := by
      refine ⟨?_, trivial⟩
      intro p5 p6 W hp hb hx5 hx6
      refine HK.out _ _ ?_
      clear HK
      obtain ⟨hsz0, hs1, hsz2, hB, hBN⟩ := HZ.out
      obtain ⟨hE, _⟩ := HE.out
      have hE4 : E ≤ 4 := by omega
      have hbW := HB02.out.trans (hb.mono (by omega))
      have hTW := HT.out.later hbW
      have hgB : 1 < B := by have := HT.out.lt; omega
      have hc5 := hx5.cell
      have hNW : W.heap[w1.heap.size]? = some (.cells (ccells xs.length (gfun xs) B) 49 (0, 0)) := (hb.block _ (by omega)).trans HC2.out
      have hMW := HM2.out.below hb
      have hbxW : Boxed W w.heap.size 4 (.bool false) := (hb.block _ (by omega)).trans HBX2.out
      have l5 := hx5.lt
      have l6 := hx6.lt
      obtain ⟨W4, hW4⟩ : ∃ W4, W.alloc (.cells #[.int .i64 ((2 ^ xs.length - 1 : Nat) : Int)] 43) = W4 := ⟨_, rfl⟩
      have hb4 : Below W.heap.size W W4 := by rw [← hW4]; exact (Below.refl _ _).alloc (Nat.le_refl _) _
      have hsz4 : W4.heap.size = W.heap.size + 1 := by rw [← hW4]; simp
      have hst4 : W4.heap[W.heap.size]? = some (.cells #[.int .i64 ((2 ^ xs.length - 1 : Nat) : Int)] 43 (0, 0)) := by rw [← hW4]; exact World.alloc_heap_new _ _
      have hT4 := hTW.later hb4
      have hI0 : CritI w w1.heap.size p5 p6 B xs.length E (gfun xs) [] W4 :=
        ⟨(hb4.block _ (by omega)).trans hNW, (hb4.block _ l5).trans hx5, (hb4.block _ l6).trans hx6, (hb4.block _ (by omega)).trans hbxW, by simpa using hMW.below hb4, step_below hbW hb4, fun x hx => by cases hx⟩
      have HI0 := Lib.hid hI0
      have hall8 := all256 h8
      clear hI0 hNW hMW hbxW hx5 hx6 a0 a1 a2 a3 a4 a5 a6 a7 a8 b0 b1 b2 b3 b4 b5 b6 b7 b8 d0 c0 c1 c2 c3 c4 c5 c6 c7 c8
      gi_wp2_with (refine ⟨trivial, ?_⟩; gi_at_call 43; refine (callsIn_wide.2 (all_any (2 ^ xs.length - 1) _)).mono ?_; rintro e w' ⟨rfl, rfl⟩)
      clear hW4 hc5
      refine wpIn_rangeFunc_ownG rfl (by decide) (gf := 76) (lb := #[.pointer (some ⟨W.heap.size, 0, none⟩)]) rfl trivial (enters_of Tryd.func76 (by kernel_rfl) rfl)
        (all_stops (9 - 1) (by decide) W.heap.size B (2 ^ xs.length - 1) hall8 W4 hgB (by omega) (cell_of_one hst4) hT4) belowK_t (belowK_b (by omega)) (Below.refl _ _) (fun _ => rfl)
        (CritI w w1.heap.size p5 p6 B xs.length E (gfun xs)) (CritX w xs.length E (gfun xs)) (critI_own (by omega) (by omega) (by omega) (by omega) (by omega)) (critX_own (by omega)) HI0.out
        (fun x => { tmps := #[u, undef, .pointer (some ⟨w.heap.size, 0, none⟩), .pointer (some ⟨w1.heap.size, 0, none⟩), .bool true, .pointer (some ⟨p5, 0, none⟩), .pointer (some ⟨p6, 0, none⟩), .int .i64 (x.val : Int),
          .tuple #[.agg (ccells xs.length (gfun xs) B), .bool true], u, .tuple #[.agg (ccells xs.length (gfun xs) B), .bool true], .agg (ccells xs.length (gfun xs) B), .bool true, .bool true, .bool false,
          .pointer (some ⟨w1.heap.size, 0, none⟩), .agg #[.int .i64 xs.length, .int .i64 (gfun xs 0 : Nat), .int .i64 (gfun xs 1 : Nat), .int .i64 (gfun xs 2 : Nat), .int .i64 (gfun xs 3 : Nat), .int .i64 (gfun xs 4 : Nat), .int .i64 (gfun xs 5 : Nat), .int .i64 (gfun xs 6 : Nat), .int .i64 (gfun xs 7 : Nat)],
          .int .i64 ((2 ^ xs.length - 1 : Nat) : Int), .pointer (some ⟨w1.heap.size, 0, none⟩), .pointer (some ⟨w1.heap.size, 0, none⟩), .int .i64 xs.length, .int .i64 (E : Int), .int .i64 ((2 ^ xs.length - 1 : Nat) : Int), seqOf W.heap.size, .int .i64 (x.val : Int), undef, undef, undef, undef, undef, undef, undef, undef], defers := [] })
        ?assign ?body ?done ?stop
      case assign =>
        intro l x X K hK
        clear hsz4 hsz0 hs1 hsz2
        gi_wp2
        exact hK
      case body =>
        rintro l pre x X hI hlen
        obtain ⟨g1, g2, g3, g4, g5, g6, g7⟩ := hI
        have hpre8 : pre.length < 8 := Nat.lt_of_lt_of_le hlen (bitsOf_len _)
        obtain ⟨t, ht⟩ : ∃ t, wo (2 ^ xs.length - 1) x.val = t := ⟨_, rfl⟩
        have ht8 : t < 256 := by rw [← ht]; exact Nat.lt_of_le_of_lt (wo_le _ _) hall8
        have hcn := cnt_le t
        have hwo : ∀ Y, Calls Tryd.prog 45 #[.int .i64 ((2 ^ xs.length - 1 : Nat) : Int), .int .i64 (x.val : Int)] Y fun e w' => e = .returned (.int .i64 (t : Int)) ∧ Y = w' := fun Y => by
          rw [← ht]; exact without_any (2 ^ xs.length - 1) x.val hall8 x.isLt Y
        have hTX := HT.out.later g6
        have hof := of_any xs.length (gfun xs) HL.out B hgB t ht8 X.drew _ (g5.below (Below.refl _ X).drew) (hTX.later (Below.refl _ X).drew) (by omega)
        have hidx : ∀ Y, (Instr.index 57 (.agg (ncells (nums (gfun xs) t))) (.int .i64 (E : Int))).run Tryd.prog Y = .ok (.int .i64 (nums (gfun xs) t E : Nat)) Y := fun Y => index_nums _ _ (by omega) Y
        obtain ⟨z, hz⟩ : ∃ z, nums (gfun xs) t E = z := ⟨_, rfl⟩
        rw [hz] at hidx
        obtain ⟨bz, hbz⟩ : ∃ bz, ((z : Int) == 0) = bz := ⟨_, rfl⟩
        have q5 := g2.cell
        have q6 := g3.cell
        have HQ6 : ∀ w5, Within B (B + 1) X.drew w5 → w5.cell? ⟨p6, 0, none⟩ = some (.int .i64 (E : Int)) := fun w5 h => by
          have h3 : Boxed w5 p6 3 (.int .i64 (E : Int)) := (h.block _ g3.lt (.inr (by omega))).trans g3
          exact h3.cell
        have HQ := Lib.hid HQ6
        obtain ⟨c0, cs, c9, _, _⟩ := counter_cells g1
        have c1 : X.cell? ⟨w1.heap.size, 1, none⟩ = _ := cs 0 (by decide)
        have c2 : X.cell? ⟨w1.heap.size, 2, none⟩ = _ := cs 1 (by decide)
        have c3 : X.cell? ⟨w1.heap.size, 3, none⟩ = _ := cs 2 (by decide)
        have c4 : X.cell? ⟨w1.heap.size, 4, none⟩ = _ := cs 3 (by decide)
        have c5 : X.cell? ⟨w1.heap.size, 5, none⟩ = _ := cs 4 (by decide)
        have c6 : X.cell? ⟨w1.heap.size, 6, none⟩ = _ := cs 5 (by decide)
        have c7 : X.cell? ⟨w1.heap.size, 7, none⟩ = _ := cs 6 (by decide)
        have c8 : X.cell? ⟨w1.heap.size, 8, none⟩ = _ := cs 7 (by decide)
        have HWO := Lib.hid hwo
        have HOF := Lib.hid hof
        have HALL := Lib.hid (And.intro g1 (And.intro g2 (And.intro g3 (And.intro g4 (And.intro g6 g7)))))
        have HNUM := Lib.hid (And.intro hcn (And.intro hz hbz))
        have HSZ := Lib.hid (And.intro hsz0 (And.intro hs1 (And.intro hsz2 (And.intro hB (And.intro hBN (And.intro hp (And.intro l5 l6)))))))
        clear cs HQ6 hwo hof g1 g2 g3 g4 g5 g6 g7 hcn hsz0 hs1 hsz2 hB hBN hp l5 l6 hz hTX hT4 hst4 hb4 hTW hbW hb hall8
        gi_wp2
        refine round_k (fun K3 hK3 => ?_)
        have HK3 := Lib.hid hK3
        clear hK3
        obtain ⟨KEY3, -⟩ : (∀ (w5 : World), Memo w5 B (gfun xs) (pre.length * 100000000 + cnt t) → Within B (B + 1) X.drew w5 → K3 { tmps := #[u, undef, .pointer (some ⟨w.heap.size, 0, none⟩), .pointer (some ⟨w1.heap.size, 0, none⟩), .bool true, .pointer (some ⟨p5, 0, none⟩), .pointer (some ⟨p6, 0, none⟩), .int .i64 (x.val : Int),
          .tuple #[.agg (ccells xs.length (gfun xs) B), .bool true], u, .tuple #[.agg (ccells xs.length (gfun xs) B), .bool true], .agg (ccells xs.length (gfun xs) B), .bool true, .bool true, .bool false,
          .pointer (some ⟨w1.heap.size, 0, none⟩), .agg #[.int .i64 xs.length, .int .i64 (gfun xs 0 : Nat), .int .i64 (gfun xs 1 : Nat), .int .i64 (gfun xs 2 : Nat), .int .i64 (gfun xs 3 : Nat), .int .i64 (gfun xs 4 : Nat), .int .i64 (gfun xs 5 : Nat), .int .i64 (gfun xs 6 : Nat), .int .i64 (gfun xs 7 : Nat)],
          .int .i64 ((2 ^ xs.length - 1 : Nat) : Int), .pointer (some ⟨w1.heap.size, 0, none⟩), .pointer (some ⟨w1.heap.size, 0, none⟩), .int .i64 xs.length, .int .i64 (E : Int), .int .i64 ((2 ^ xs.length - 1 : Nat) : Int), seqOf W.heap.size, .int .i64 (x.val : Int), .agg (ccells xs.length (gfun xs) B), .int .i64 ((2 ^ xs.length - 1 : Nat) : Int), .int .i64 (x.val : Int), .int .i64 (t : Int), .agg (ncells (nums (gfun xs) t)), .int .i64 (E : Int), .int .i64 (z : Int), .bool bz], defers := [] } w5) ∧ True := by
          refine ⟨?_, trivial⟩
          intro w5 hM5 hw5
          refine HK3.out _ _ ?_
          clear HK3 q5 q6 c0 c1 c2 c3 c4 c5 c6 c7 c8 c9 hidx hbz
          obtain ⟨hsz0, hs1, hsz2, hB, hBN, hp, l5, l6⟩ := HSZ.out
          obtain ⟨g1, g2, g3, g4, g6, g7⟩ := HALL.out
          obtain ⟨hcn, hz, hbz⟩ := HNUM.out
          have hw : Within B (B + 1) X w5 := ⟨hw5.os, hw5.tape, hw5.output, hw5.size, hw5.block⟩
          have k1 := (hw.block _ (Array.getElem?_eq_some_iff.1 g1).1 (.inr (by omega))).trans g1
          have k2 : Boxed w5 p5 43 (.int .i64 ((2 ^ xs.length - 1 : Nat) : Int)) := (hw.block _ g2.lt (.inr (by omega))).trans g2
          have k3 : Boxed w5 p6 3 (.int .i64 (E : Int)) := (hw.block _ g3.lt (.inr (by omega))).trans g3
          have k4 : Boxed w5 w.heap.size 4 (.bool false) := (hw.block _ g4.lt (.inl (by omega))).trans g4
          have gK : KeepsFrom W4.heap.size X w5 := ⟨hw.size, fun k o hk ho _ => (hw.block k (Array.getElem?_eq_some_iff.1 ho).1 (.inr (by omega))).trans ho⟩
          have gB : Below B X w5 := ⟨hw.os, hw.tape, hw.output, hw.size, fun k hk => hw.block k (Nat.lt_of_lt_of_le hk (by have := (Array.getElem?_eq_some_iff.1 g1).1; omega)) (.inl hk)⟩
          have g6' : Below w.heap.size w w5 := g6.trans (gB.mono (by omega))
          have hcr := k4.cell
          have hfr := k4.frozen
          cases bz with
          | true =>
            have hz0 : nums (gfun xs) t E = 0 := by rw [hz]; rw [beq_iff_eq] at hbz; omega
            have HE0 := Lib.hid hz0
            clear hz0 hz hbz hsz0 hs1 hsz2 hp
            gi_wp2
            exact ⟨gK.trans ((KeepsOthers.setCell _ _ _).from _), ⟨rfl, x, by simp, by rw [ht]; exact HE0.out⟩, g6'.setCell (p := ⟨w.heap.size, 0, none⟩) (Nat.le_refl _) _, k4.set _⟩
          | false =>
            have hz0 : nums (gfun xs) t E ≠ 0 := by rw [hz]; rw [beq_eq_false_iff_ne] at hbz; omega
            have HE0 := Lib.hid hz0
            clear hz0 hz hbz hsz0 hs1 hsz2 hp
            gi_wp2
            refine ⟨gK, gB, k1, k2, k3, k4, hM5.mono ?_, g6', fun y hy => ?_⟩
            · rw [List.length_append, List.length_singleton, Nat.add_mul]; omega
            · rcases List.mem_append.1 hy with hy | hy
              · exact g7 y hy
              · rw [List.mem_singleton.1 hy, ht]; exact HE0.out
        have hfo : Tryd.prog.follows Departure.mixedOrders = true := by kernel_rfl
        gi_region_with_o (first
          | (refine ⟨trivial, ?_⟩; gi_at_call 45; refine (CallsIn.inRound l (callsIn_wide.2 (HWO.out _))).mono ?_; rintro e w' ⟨rfl, rfl⟩)
          | (gi_at_call 45; refine (CallsIn.inRound l (callsIn_wide.2 (HWO.out _))).mono ?_; rintro e w' ⟨rfl, rfl⟩)
          | (refine ⟨trivial, ?_⟩; gi_at_call 44; refine (CallsIn.inRound l (callsIn_wide.2 HOF.out)).mono ?_; rintro e w' ⟨rfl, hM', hw'⟩; have hq6 := HQ.out _ hw')
          | (gi_at_call 44; refine (CallsIn.inRound l (callsIn_wide.2 HOF.out)).mono ?_; rintro e w' ⟨rfl, hM', hw'⟩; have hq6 := HQ.out _ hw'))
        all_goals exact KEY3 _ hM' hw'
      case done =>
        rintro D ys X hD rfl ⟨g1, g2, g3, g4, g5, g6, g7⟩ hKD
        have hyes : critB (gfun xs) xs.length = true := critB_yes fun i hi => by
          have hm : (⟨i, by omega⟩ : Fin 8) ∈ bitsOf (2 ^ xs.length - 1) := mem_bitsOf.2 (all_bit h8 hi)
          have := g7 _ hm
          cases hc : critAt (gfun xs) xs.length i with
          | true => rfl
          | false => exact absurd (by rw [← hE]; exact (crit_half h8 hi).2 hc) this
        have HY := Lib.hid hyes
        have hcr := g4.cell
        have hfr := g4.frozen
        have hDw : w.heap.size ≤ D := by omega
        clear hyes g1 g2 g3 g5 g7
        gi_wp2
        exact crit_leave w _ true HY.out _ (by rfl) _ _ (((Marks.nil _ _).cons hDw hKD (by simp)).grown (grownBy_setCell' _ _ _) g4 rfl) (g6.setCell (p := ⟨w.heap.size, 0, none⟩) (Nat.le_refl _) _) (g4.set _)
      case stop =>
        rintro D c pre X hD hpre ⟨⟨rfl, x, hxm, hx0⟩, g6, g4⟩ hKD
        have hxb := mem_bitsOf.1 (hpre.subset hxm)
        have hxn : x.val < xs.length := by
          rcases Nat.lt_or_ge x.val xs.length with h | h
          · exact h
          · rw [Nat.testBit_lt_two_pow (Nat.lt_of_lt_of_le (show 2 ^ xs.length - 1 < 2 ^ xs.length by have := Nat.two_pow_pos xs.length; omega) (Nat.pow_le_pow_right (by decide) h))] at hxb; cases hxb
        have hno : critB (gfun xs) xs.length = false := critB_no hxn ((crit_half h8 hxn).1 (by rw [hE]; exact hx0))
        have HN := Lib.hid hno
        have hDw : w.heap.size ≤ D := by omega
        clear hno hx0 hxb
        gi_wp2
        exact crit_leave w _ false HN.out _ (by rfl) _ _ ((Marks.nil _ _).cons hDw hKD (by simp)) g6 g4
    refine Code.wpIn_mono (Q := Exit.then K (fun _ _ _ => False)) (fun e a w h => by cases e <;> first | exact h | exact h.elim) ?_
    have hfo : Tryd.prog.follows Departure.mixedOrders = true := by kernel_rfl
    gi_region_with_o (first
      | (refine ⟨trivial, ?_⟩; gi_at_call 42; refine (callsIn_wide.2 (HNO.out _)).mono ?_; rintro e w2 ⟨rfl, rfl⟩)
      | (gi_at_call 42; refine (callsIn_wide.2 (HNO.out _)).mono ?_; rintro e w2 ⟨rfl, rfl⟩))
    all_goals
      refine KEY _ _ _ ⟨?_, ?_, ?_⟩ ?_ ?_ ?_
      · omega
      · omega
      · omega
      · repeat (first | exact Below.refl _ _ | apply Below.drew | refine Below.alloc ?_ (by simp <;> omega) _)
      all_goals repeat (first | exact boxed_last (by simp) | refine boxed_past ?_ _ | refine boxed_drew ?_)

end Go.Proofs.YthafhcocgohjaaaDoor
