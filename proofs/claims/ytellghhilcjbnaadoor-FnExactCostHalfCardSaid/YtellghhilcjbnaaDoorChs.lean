/-
  Chs: LeastSum LeastAny Next Greedy First.
-/
import Derived.Test.YtellghhilcjbnaaDoorMemoI
import Derived.Test.YtellghhilcjbnaaDoorBestQ
import Derived.Test.YtellghhilcjbnaaDoorOnH
import Derived.Test.YtellghhilcjbnaaDoorBestI
import Derived.Test.YtellghhilcjbnaaDoorCore1
import Derived.Deep.AppendLies
/-
  (impl.chooser).least: the least measure of the rows that are left; what was found is kept in a map.
-/
namespace Go.Proofs.YtellghhilcjbnaaDoor
set_option linter.unusedVariables false
set_option linter.unusedSimpArgs false
open Go.RowKit Go.Shelf
open Go.Maps (Keyed)
attribute [local go_sem] Oper.semAt_some

set_option maxRecDepth 100000 in
theorem measSum_any (a b c : Int) (h : a + b = c) (hb : -1000000 ≤ c ∧ c ≤ 1000000) (w : World) : Calls Tryd.prog 45 #[.int .i64 a, .int .i64 b] w fun e w' => e = .returned (.int .i64 c) ∧ w = w' := by
  have w1 : wrap64 (a + b) = c := by rw [h]; unfold wrap64; omega
  have w2 : IntKind.i64.wrap (a + b) = c := by rw [h, IntKind.wrap_i64]; omega
  clear h hb
  go_enter Tryd.func45, Tryd.ntmps45
  go_wp2
  go_ret
  exact ⟨rfl, rfl⟩

theorem owns_map_below {w w' : World} {B m : Nat} {D : DataW Unit} (h : w.ownsMap Tryd.prog 75 (plainElem Tryd.prog 3) B m D) (hb : Below w.heap.size w w') : w'.ownsMap Tryd.prog 75 (plainElem Tryd.prog 3) B m D :=
  h.kept (row := none) ⟨hb.os, hb.tape, hb.output, hb.size, fun k hk _ => hb.block k hk⟩ (by simp)
theorem meth_rows (k : Nat) (n : Nat) (F : Nat → Int) (W : World) : (method (k + 1) 49 (.agg (tcells n F)) "loop.example/matchpolys/impl.rows").run Tryd.prog W = .ok (91, .agg (tcells n F)) W := by kernel_rfl
/-- The least cost of a set of columns, for the last rows. -/
def gS (n : Nat) (F : Nat → Int) (s : Nat) : Int := lst (· + ·) 0 F (bitsOf s).length (n - (bitsOf s).length) s
theorem gS_zero (n : Nat) (F : Nat → Int) : gS n F 0 = 0 := by unfold gS; rw [bitsOf_zero]; rfl
theorem gS_bound {n : Nat} {F : Nat → Int} (hF : ∀ k, -1000 ≤ F k ∧ F k ≤ 1000) {s : Nat} (hs : s < 256) : -8000 ≤ gS n F s ∧ gS n F s ≤ 8000 := by
  have hlen : (bitsOf s).length ≤ 8 := by unfold bitsOf; refine Nat.le_trans (List.length_filter_le _ _) ?_; simp
  obtain ⟨_, p, hp, he⟩ := lst_least addMeas F (fun p row hp => by
    have := sum_bound hF p row
    unfold maxI
    omega) (bitsOf s).length (n - (bitsOf s).length) s hs rfl
  have := sum_bound hF p (n - (bitsOf s).length)
  have hl := chs_len _ _ _ hp
  unfold gS
  rw [he]
  omega

set_option maxRecDepth 100000 in
set_option maxHeartbeats 1000000 in
theorem least_zero (n : Nat) (F : Nat → Int) (w : World) (B m : Nat) (hM : MemoI w B (gS n F) m) :
    Calls Tryd.prog 41 #[.agg (lcells n F 0 45 B), .int .i64 0] w (LPost w B (gS n F) 0 m) := by
  have hz := gS_zero n F
  have HM := Lib.hid hM
  have HZ := Lib.hid hz
  clear hM hz
  unfold lcells
  go_enter Tryd.func41, Tryd.ntmps41
  go_wp2
  go_ret
  have hb1 : Below w.heap.size w ((w.alloc (.cells (lcells n F 0 45 B) 61)).alloc (.cells #[.int .i64 0] 75)) := ((Below.refl _ _).alloc (Nat.le_refl _) _).alloc (by simp) _
  exact ⟨by rw [HZ.out]; rfl, HM.out.below hb1, ⟨hb1.os, hb1.tape, hb1.output, hb1.size, fun k hk _ => hb1.block k hk⟩⟩

theorem zeroI : ∀ w : World, (zeroValue 3).run Tryd.prog w = .ok (.int .i64 0) w := fun _ => by kernel_rfl

set_option maxRecDepth 100000 in
set_option maxHeartbeats 2000000 in
theorem least_hit (n : Nat) (F : Nat → Int) (w : World) (B m s : Nat) (D : DataW Unit) (hM : MemoI w B (gS n F) m) (ho : w.ownsMap Tryd.prog 75 (plainElem Tryd.prog 3) B m D) (hh : Maps.has D (klI s) = true)
    (hval : ∀ zd, D.atKey (klI s) zd = .lit (.int .i64 (gS n F s))) (hs : s < 256) (h0 : s ≠ 0) :
    Calls Tryd.prog 41 #[.agg (lcells n F 0 45 B), .int .i64 (s : Int)] w (LPost w B (gS n F) s m) := by
  have hne : ((s : Int) == 0) = false := by rw [beq_eq_false_iff_ne]; omega
  obtain ⟨z, hz⟩ : ∃ z, gS n F s = z := ⟨_, rfl⟩
  rw [hz] at hval
  have HM := Lib.hid hM
  have HV := Lib.hid hval
  have HO := Lib.hid ho
  have HZ := Lib.hid hz
  clear hval ho hM hz
  unfold lcells
  refine (callsIn_wide (n := 9)).1 ?_
  refine callsIn_of_wp_marks Tryd.func41 rfl trivial ?_ rfl
  simp only [Tryd.ntmps41, List.size_toArray, List.length_cons, List.length_nil, Nat.reduceAdd, Nat.reduceSub, Array.replicate_succ, Array.replicate_zero, List.push_toArray, List.append_toArray, List.nil_append, List.cons_append]
  gi_wp2_with (gi_at_lookup; refine wpListIn_lookup_own_ok_int _ rfl _ _ 59 rfl 75 3 .i64 (Maps.int_keyed Tryd.underlying75) Tryd.underlying59 Tryd.underlying3 (zeroI _) B m D rfl ((HO.out.alloc _).alloc _) _ (klI s) rfl (keyOf_setI hs) ?_; intro c hc hwc; rw [HV.out] at hc; obtain rfl : z = c := (by simpa using hc); clear hc hwc)
  have hb1 : Below w.heap.size w ((w.alloc (.cells (lcells n F 0 45 B) 61)).alloc (.cells #[.int .i64 (s : Int)] 75)) := ((Below.refl _ _).alloc (Nat.le_refl _) _).alloc (by simp) _
  exact ⟨.int .i64 z, by simp [results, Tryd.f41, go_sem], by rw [HZ.out], HM.out.below hb1, ⟨hb1.os, hb1.tape, hb1.output, hb1.size, fun k hk _ => hb1.block k hk⟩⟩

theorem row_facts {n d row : Nat} (h6 : n ≤ 6) (hd : d ≤ n) (h : n - d = row) : wrap64 ((n : Int) - (d : Int)) = (row : Int) ∧ IntKind.i64.wrap ((n : Int) - (d : Int)) = (row : Int) ∧ (n : Int) - (d : Int) = (row : Int) ∧ wrap64 (row : Int) = (row : Int) ∧ IntKind.i64.wrap (row : Int) = (row : Int) := by
  have h3 : (n : Int) - (d : Int) = (row : Int) := by omega
  have h4 : wrap64 (row : Int) = (row : Int) := by unfold wrap64; omega
  have h5 : IntKind.i64.wrap (row : Int) = (row : Int) := by rw [IntKind.wrap_i64]; omega
  exact ⟨by rw [h3]; exact h4, by rw [h3]; exact h5, h3, h4, h5⟩
theorem box_later {X w3 : World} {v : Value} {t : TypeId} (hb : Below (X.alloc (.cells #[v] t)).heap.size (X.alloc (.cells #[v] t)) w3) : Boxed w3 X.heap.size t v ∧ w3.cell? ⟨X.heap.size, 0, none⟩ = some v ∧ w3.frozen? ⟨X.heap.size, 0, none⟩ = false := by
  have h : Boxed w3 X.heap.size t v := (hb.block _ (by simp)).trans (World.alloc_heap_new _ _)
  exact ⟨h, h.cell, h.frozen⟩
theorem undrewL {W W' : World} (h : Below W.drew.heap.size W.drew W') : Below W.heap.size W W' := ⟨h.os, h.tape, h.output, h.size, h.block⟩
theorem box_later2 {X w3 : World} {v : Value} {t : TypeId} (hb : Below (X.alloc (.cells #[v] t)).drew.heap.size (X.alloc (.cells #[v] t)).drew w3) : Boxed w3 X.heap.size t v ∧ w3.cell? ⟨X.heap.size, 0, none⟩ = some v ∧ w3.frozen? ⟨X.heap.size, 0, none⟩ = false := box_later (undrewL hb)
theorem four_of {W : World} {g : Nat} {a b c d : Value} {t : TypeId} (h : W.heap[g]? = some (.cells #[a, b, c, d] t (0, 0))) : W.cell? ⟨g, 0, none⟩ = some a ∧ W.cell? ⟨g, 1, none⟩ = some b ∧ W.cell? ⟨g, 2, none⟩ = some c ∧ W.cell? ⟨g, 3, none⟩ = some d :=
  ⟨by rw [cell_of_row _ _ _ _ _ _ h]; rfl, by rw [cell_of_row _ _ _ _ _ _ h]; rfl, by rw [cell_of_row _ _ _ _ _ _ h]; rfl, by rw [cell_of_row _ _ _ _ _ _ h]; rfl⟩

theorem least_leave (w : World) (B M : Nat) (g : Nat → Int) (s : Nat) (z : Int) (hz : g s = z) (tmps : Array Value) (hp : tmps[4]? = some (.int .i64 z)) (D : Nat) (W : World) (hBw : B < w.heap.size) (hD : w.heap.size ≤ D) (hKD : W.heap[D]? = some (.deferred (some [])))
    (h2 : MemoI W B g M) (h3 : Within B (B + 1) w W) : bodyPostM Fence.wide 9 Tryd.prog Tryd.f41 (LPost w B g s M) .ret { tmps := tmps, defers := [{ target := .collected D, args := #[] }] } W := by
  refine leaves_marks (F := Fence.wide) (n := 9) w.heap.size (fun W => MemoI W B g M ∧ Within B (B + 1) w W) ?_ ?_ _ W ((Marks.nil _ _).cons hD hKD (by simp)) ⟨h2, h3⟩
  · rintro W D hD hk ⟨h2, h3⟩
    have hg := grownBy_putObj' W D (.deferred none)
    exact ⟨h2.kept hg (by simp; omega), ⟨hg.os.trans h3.os, hg.tape.trans h3.tape, hg.output.trans h3.output, Nat.le_trans h3.size hg.size,
      fun k hk' ho => (hg.block k (Nat.lt_of_lt_of_le hk' h3.size) (by simp; omega)).trans (h3.block k hk' ho)⟩⟩
  · rintro W ⟨h2, h3⟩
    exact ⟨.int .i64 z, by simp [results, Tryd.f41, go_sem, hp], by rw [hz], h2, h3⟩

/-- The least cost so far. -/
def curS (n : Nat) (F : Nat → Int) (d row s : Nat) (l : List Nat) : Int := l.foldl (lstStep (· + ·) (fun v => F (6 * row + v)) (fun v => lst (· + ·) 0 F d (row + 1) (wo8 s v))) maxI
theorem curS_snoc (n : Nat) (F : Nat → Int) (d row s : Nat) (l : List Nat) (v : Nat) : curS n F d row s (l ++ [v]) = min (curS n F d row s l) (lst (· + ·) 0 F d (row + 1) (wo8 s v) + F (6 * row + v)) := by
  unfold curS
  rw [List.foldl_append]; rfl
/-- How the loop over the columns stands. -/
def LJ (w : World) (n : Nat) (F : Nat → Int) (B s m d row Br Bm : Nat) (l : List Nat) (X : World) : Prop :=
  X.heap[w.heap.size]? = some (.cells #[.iface 49 (.agg (tcells n F)), .int .i64 0, .func (.func 45) #[] #[], .map (some B)] 61 (0, 0)) ∧ Boxed X (w.heap.size + 1) 75 (.int .i64 (s : Int)) ∧ Boxed X Br 3 (.int .i64 (row : Int)) ∧
  Boxed X Bm 3 (.int .i64 (curS n F d row s l)) ∧ MemoI X B (gS n F) (m + l.length * 10 ^ d) ∧ Within B (B + 1) w X
theorem lj_own {w : World} {n B s m d row Br Bm S : Nat} {F : Nat → Int} (h1 : w.heap.size + 1 < S) (h2 : Br < S) (h3 : Bm < S) (hB : B < S) : OwnFrom S (fun (pre : List {x : Fin 8 // s.testBit x.val = true}) X => LJ w n F B s m d row Br Bm (pre.map (fun x => x.1.val)) X) := by
  intro pre X Y rw hs hg hr
  obtain ⟨g1, g2, g3, g4, g5, g6⟩ := hs
  have kp : ∀ {b : Nat} {o : Obj}, b < S → X.heap[b]? = some o → Y.heap[b]? = some o := fun {b} {o} hb ho =>
    (hg.block b (Array.getElem?_eq_some_iff.1 ho).1 (fun e => by have := (hr b e.symm).1; omega)).trans ho
  refine ⟨kp (by omega) g1, kp (by omega) g2, kp h2 g3, kp h3 g4, g5.kept hg (fun e => by have := (hr B e.symm).1; omega), ?_⟩
  exact ⟨hg.os.trans g6.os, hg.tape.trans g6.tape, hg.output.trans g6.output, Nat.le_trans g6.size hg.size,
    fun k hk ho => (hg.block k (Nat.lt_of_lt_of_le hk g6.size) (fun e => by have := (hr k e.symm).1; omega)).trans (g6.block k hk ho)⟩
theorem min_pick {a b c : Int} (h : min a b = c) : (a < b ∧ c = a) ∨ (b ≤ a ∧ c = b) := by omega
theorem bits_six' : ∀ (v : Fin 8) (m : Fin 64), m.val.testBit v.val = true → v.val < 6 := by decide +kernel
theorem bitsOf_len8' (m : Nat) : (bitsOf m).length ≤ 8 := by unfold bitsOf; refine Nat.le_trans (List.length_filter_le _ _) ?_; simp
theorem wo8_less {s v : Nat} (hs : s < 256) (hv : v < 8) (hb : s.testBit v = true) : wo8 s v < s := by
  have h1 : wo8 s v ≤ s := Nat.and_le_left
  have h2 := wo8_len hs hv hb
  rcases Nat.lt_or_ge (wo8 s v) s with h | h
  · exact h
  · have : wo8 s v = s := by omega
    rw [this] at h2; omega

set_option maxRecDepth 100000 in
set_option maxHeartbeats 8000000 in
theorem least_miss (n : Nat) (h6 : n ≤ 6) (F : Nat → Int) (hF : ∀ k, -1000 ≤ F k ∧ F k ≤ 1000) (w : World) (B m s : Nat) (D : DataW Unit) (hM : MemoI w B (gS n F) m) (ho : w.ownsMap Tryd.prog 75 (plainElem Tryd.prog 3) B m D) (hmap : Maps.IsMap D) (hh : Maps.has D (klI s) = false)
    (hT : Tab w) (hgB : 1 < B) (hm : m + cntI s ≤ 1000000000000) (hsn : (bitsOf s).length ≤ n) (hs64 : s < 64)
    (IH : ∀ t, t < s → ∀ W m', (bitsOf t).length ≤ n → MemoI W B (gS n F) m' → Tab W → m' + cntI t ≤ 1000000000000 → Calls Tryd.prog 41 #[.agg (lcells n F 0 45 B), .int .i64 (t : Int)] W (LPost W B (gS n F) t (m' + cntI t))) (hs : s < 256) (h0 : s ≠ 0) :
    Calls Tryd.prog 41 #[.agg (lcells n F 0 45 B), .int .i64 (s : Int)] w (LPost w B (gS n F) s (m + cntI s)) := by
  have hne : ((s : Int) == 0) = false := by rw [beq_eq_false_iff_ne]; omega
  have HM := Lib.hid hM
  have HV := Lib.hid (Maps.atKey_of_not_has (D := D) hh)
  have HO := Lib.hid ho
  have HT := Lib.hid hT
  have HIH := Lib.hid IH
  have HF := Lib.hid hF
  have HMP := Lib.hid hmap
  have HSI := Lib.hid (fun W => setSize_any s hs W)
  obtain ⟨d, hd⟩ : ∃ d, (bitsOf s).length = d := ⟨_, rfl⟩
  rw [hd] at HSI hsn
  obtain ⟨row, hrow⟩ : ∃ row, n - d = row := ⟨_, rfl⟩
  have HRW := Lib.hid (row_facts h6 hsn hrow)
  clear hM ho hT IH hF hmap
  unfold lcells
  refine (callsIn_wide (n := 9)).1 ?_
  refine callsIn_of_wp_marks Tryd.func41 rfl trivial ?_ rfl
  simp only [Tryd.ntmps41, List.size_toArray, List.length_cons, List.length_nil, Nat.reduceAdd, Nat.reduceSub, Array.replicate_succ, Array.replicate_zero, List.push_toArray, List.append_toArray, List.nil_append, List.cons_append]
  obtain ⟨W1, hW1⟩ : ∃ W1, (w.alloc (.cells #[.iface 49 (.agg (tcells n F)), .int .i64 0, .func (.func 45) #[] #[], .map (some B)] 61)).alloc (.cells #[.int .i64 (s : Int)] 75) = W1 := ⟨_, rfl⟩
  have hb1 : Below w.heap.size w W1 := by rw [← hW1]; exact ((Below.refl _ _).alloc (Nat.le_refl _) _).alloc (by simp) _
  have hs1 : W1.heap.size = w.heap.size + 1 + 1 := by rw [← hW1]; simp
  have hc1 : W1.heap[w.heap.size]? = some (.cells #[.iface 49 (.agg (tcells n F)), .int .i64 0, .func (.func 45) #[] #[], .map (some B)] 61 (0, 0)) := by
    rw [← hW1, Below.heap_alloc _ _ _ (by simp)]; exact World.alloc_heap_new _ _
  have hl1 : W1.heap[w.heap.size + 1]? = some (.cells #[.int .i64 (s : Int)] 75 (0, 0)) := by
    rw [← hW1]
    have := World.alloc_heap_new (w.alloc (.cells #[.iface 49 (.agg (tcells n F)), .int .i64 0, .func (.func 45) #[] #[], .map (some B)] 61)) (.cells #[.int .i64 (s : Int)] 75)
    rwa [World.size_alloc] at this
  have HB1 := Lib.hid hb1
  have HC1 := Lib.hid hc1
  have HL1 := Lib.hid hl1
  have HS1 := Lib.hid hs1
  have HO1 := Lib.hid (owns_map_below HO.out hb1)
  obtain ⟨c0, c1, c2, c3⟩ := four_of hc1
  have cl := cell_of_one hl1
  have HS2 := Lib.hid (show w.heap.size + 2 ≤ W1.heap.size by omega)
  clear hb1 hc1 hl1 hs1
  gi_wp2_with (gi_at_lookup; refine wpListIn_lookup_own_ok_int _ rfl _ _ 59 rfl 75 3 .i64 (Maps.int_keyed Tryd.underlying75) Tryd.underlying59 Tryd.underlying3 (zeroI _) B m D rfl HO1.out _ (klI s) rfl (keyOf_setI hs) ?_; intro c hc hwc; rw [hh]; clear hc hwc)
  have HRA := Lib.hid (fun W => rows_any W n F)
  have HRB := Lib.hid (show Calls Tryd.prog 91 #[.agg (tcells n F)] ((W1.alloc (.cells #[.int .i64 0] 3)).drew) fun e w3 => e = .returned (.int .i64 (n : Int)) ∧ Below (W1.alloc (.cells #[.int .i64 0] 3)).drew.heap.size (W1.alloc (.cells #[.int .i64 0] 3)).drew w3 ∧ w3.cell? ⟨W1.heap.size, 0, none⟩ = some (.int .i64 0) ∧ w3.frozen? ⟨W1.heap.size, 0, none⟩ = false from
    (rows_any _ n F).mono fun e w3 h => ⟨h.1, h.2, (box_later2 h.2).2.1, (box_later2 h.2).2.2⟩)
  have hme := fun W => meth_rows 229 n F W
  have hme2 := fun W => meth_rows 348 n F W
  simp only [Nat.reduceAdd] at hme hme2
  have HK := Lib.hid (fun (w3 : World) (hb3 : Below W1.heap.size W1 w3) => show w3.cell? ⟨w.heap.size, 0, none⟩ = some (.iface 49 (.agg (tcells n F))) ∧ w3.cell? ⟨w.heap.size + 1, 0, none⟩ = some (.int .i64 (s : Int)) from
    ⟨(hb3.cell (World.block_lt_of_cell? _ _ c0)).trans c0, (hb3.cell (World.block_lt_of_cell? _ _ cl)).trans cl⟩)
  obtain ⟨hrw1, hrw2, hrw3, hrw4, hrw5⟩ := HRW.out
  clear hW1
  apply onceIn_any (fun (b : Nat) (W : World) => Boxed W b 3 (.int .i64 (row : Int)) ∧ w.heap.size + 2 ≤ b ∧ Below W1.heap.size W1 W)
  case h1 =>
    refine wpIn_wide.2 ?_
    first
      | go_region_held3 (fun w' => w'.cell? ⟨w.heap.size, 0, none⟩ = some (.iface 49 (.agg (tcells n F))) ∧ w'.cell? ⟨w.heap.size + 1, 0, none⟩ = some (.int .i64 (s : Int)))
          (first | exact ⟨c0, cl⟩ | exact HK.out _ (undrewL hb3) | exact HK.out _ ((undrewL hb3).alloc (undrewL hb3).size _) | exact HK.out _ (((Below.refl _ _).alloc (Nat.le_refl _) _).drew) | exact HK.out _ (step_below (((Below.refl W1.heap.size W1).alloc (Nat.le_refl _) (.cells #[.int .i64 0] 3)).drew) hb3) | exact HK.out _ ((step_below (((Below.refl W1.heap.size W1).alloc (Nat.le_refl _) (.cells #[.int .i64 0] 3)).drew) hb3).setCell (p := ⟨W1.heap.size, 0, none⟩) (Nat.le_refl _) _))
          (first | (go_at_call 91; with_reducible refine Calls.mono HRB.out ?_; rintro e w3 ⟨rfl, hb3, hz1, hz2⟩) | (go_at_call 91; refine (HRA.out _).mono ?_; rintro e w3 ⟨rfl, hb3⟩) | (go_at_call 58; refine (HSI.out _).mono ?_; rintro e w' ⟨rfl, rfl⟩))
      | fail "region"
    all_goals
      first
        | (obtain ⟨b, hbb⟩ : ∃ b, w3.heap.size = b := ⟨_, rfl⟩
           simp only [hbb]
           exact ⟨b, ⟨by rw [← hbb]; exact Boxed.new _ _ _, by rw [← hbb]; exact Nat.le_trans HS2.out (undrewL hb3).size, (undrewL hb3).alloc (undrewL hb3).size _⟩, rfl⟩)
        | (obtain ⟨b, hbb⟩ : ∃ b, W1.heap.size = b := ⟨_, rfl⟩
           have hx := (box_later2 hb3).1.set (.int .i64 (row : Int))
           have hy := (step_below (((Below.refl W1.heap.size W1).alloc (Nat.le_refl _) (.cells #[.int .i64 0] 3)).drew) hb3).setCell (p := ⟨W1.heap.size, 0, none⟩) (Nat.le_refl _) (.int .i64 (row : Int))
           have hw := HS2.out
           simp only [hbb] at hx hy hw ⊢
           exact ⟨b, ⟨hx, hw, hy⟩, rfl⟩)
  rintro Br W2 ⟨hbr, hbr2, hb2⟩
  clear hrw1 hrw2 hrw3 hrw4 hrw5
  clear c0 c1 c2 c3 cl hme hme2
  obtain ⟨W3, hW3⟩ : ∃ W3, W2.alloc (.cells #[.int .i64 9223372036854775807] 3) = W3 := ⟨_, rfl⟩
  have hb3 : Below W1.heap.size W1 W3 := by rw [← hW3]; exact hb2.alloc hb2.size _
  have hz3 : W3.heap.size = W2.heap.size + 1 := by rw [← hW3]; simp
  have hbm : Boxed W3 W2.heap.size 3 (.int .i64 9223372036854775807) := by rw [← hW3]; exact Boxed.new _ _ _
  have hbr3 : Boxed W3 Br 3 (.int .i64 (row : Int)) := by rw [← hW3]; exact hbr.alloc _
  have hcl3 := (HK.out _ hb3).2
  gi_wp2_with (refine ⟨trivial, ?_⟩; gi_at_call 59; refine (callsIn_wide.2 (all_any s _)).mono ?_; rintro e w' ⟨rfl, rfl⟩)
  obtain ⟨W4, hW4⟩ : ∃ W4, W3.alloc (.cells #[.int .i64 (s : Int)] 75) = W4 := ⟨_, rfl⟩
  rw [hW4]
  have hb4 : Below W1.heap.size W1 W4 := by rw [← hW4]; exact hb3.alloc hb3.size _
  have hz4 : W4.heap.size = W2.heap.size + 2 := by rw [← hW4]; simp [hz3]
  have hst4 : W4.heap[W2.heap.size + 1]? = some (.cells #[.int .i64 (s : Int)] 75 (0, 0)) := by rw [← hW4, ← hz3]; exact World.alloc_heap_new _ _
  have hlt := hbr.lt
  have hs2 := HS2.out
  have hsz2 := hb2.size
  have hBw := HM.out.lt
  have hb04 := step_below HB1.out hb4
  obtain ⟨e, hde⟩ : ∃ e, d = e + 1 := by
    refine ⟨d - 1, ?_⟩
    have : d ≠ 0 := fun h => h0 (len_zero hs (by rw [hd, h]))
    omega
  have hI0 : LJ w n F B s m e row Br W2.heap.size [] W4 := by
    refine ⟨(hb4.block _ (by omega)).trans HC1.out, (hb4.block _ (by omega)).trans HL1.out, ?_, ?_, ?_, ⟨hb04.os, hb04.tape, hb04.output, hb04.size, fun k hk _ => hb04.block k hk⟩⟩
    · rw [← hW4]; exact hbr3.alloc _
    · rw [← hW4]; exact hbm.alloc _
    · simpa using HM.out.below hb04
  have hT4 := HT.out.later hb04
  have HI0 := Lib.hid hI0
  have HDE := Lib.hid hde
  have HD := Lib.hid hd
  have HZS := Lib.hid (And.intro hz4 (And.intro hlt (And.intro hs2 (And.intro hsz2 (And.intro hBw hbr2)))))
  clear hde hd hW3 hW4 hI0 hcl3 hbm hbr3
  refine wpIn_rangeFunc_ownG rfl (by decide) (gf := 66) (lb := #[.pointer (some ⟨W2.heap.size + 1, 0, none⟩)]) rfl trivial (enters_of Tryd.func66 (by kernel_rfl) rfl)
    (all_stopsB (9 - 1) (by decide) (W2.heap.size + 1) B s hs W4 hgB (by omega) (cell_of_one hst4) hT4) belowK_t (belowK_b (by omega)) (Below.refl _ _) (fun _ => rfl)
    (fun pre X => LJ w n F B s m e row Br W2.heap.size (pre.map (fun x => x.1.val)) X) (fun _ _ _ => False) (lj_own (by omega) (by omega) (by omega) (by omega)) (fun c => ownFrom_pure _ (fun _ => False)) HI0.out
    (fun x => { tmps := #[(.agg #[.iface 49 (.agg (tcells n F)), .int .i64 0, .func (.func 45) #[] #[], .map (some B)]), .int .i64 (s : Int), .pointer (some ⟨w.heap.size, 0, none⟩), .pointer (some ⟨w.heap.size + 1, 0, none⟩), .int .i64 0, .int .i64 c, .bool false, .pointer (some ⟨Br, 0, none⟩), .pointer (some ⟨W2.heap.size, 0, none⟩), .int .i64 ((x.1.val : Nat) : Int), undef, .int .i64 (s : Int), .bool false, undef, undef, undef, .tuple #[.int .i64 c, .bool false], .pointer (some ⟨w.heap.size, 3, none⟩), .map (some B), .int .i64 (s : Int), .tuple #[.int .i64 c, .bool false], .int .i64 c, .bool false, .bool false, undef, .pointer (some ⟨w.heap.size, 0, none⟩), .iface 49 (.agg (tcells n F)), .int .i64 (n : Int), .int .i64 (s : Int), .int .i64 (d : Int), .int .i64 (row : Int), .int .i64 (s : Int), seqOf (W2.heap.size + 1), .int .i64 ((x.1.val : Nat) : Int), undef, undef, undef, undef, undef, undef, undef, undef, undef, undef, undef, undef, undef, undef, undef, undef, undef, undef, undef, undef, undef, undef], defers := [] })
    ?assign ?body ?done ?stop
  case assign =>
    intro l x X K hK
    gi_wp2
    exact hK
  case body =>
    rintro l pre x X hJ hlen
    obtain ⟨v, hv⟩ : ∃ v, x.1.val = v := ⟨_, rfl⟩
    have hv8 : v < 8 := by rw [← hv]; exact x.1.isLt
    have hvm : s.testBit v = true := by rw [← hv]; exact x.2
    have hv6 : v < 6 := bits_six' ⟨v, hv8⟩ ⟨s, hs64⟩ hvm
    have hpl : pre.length < 8 := Nat.lt_of_lt_of_le hlen (bitsOf_len8' s)
    obtain ⟨l1, hl1⟩ : ∃ l1, pre.map (fun x => x.1.val) = l1 := ⟨_, rfl⟩
    have hll : l1.length < 8 := by rw [← hl1, List.length_map]; exact hpl
    have hsn1 : (pre ++ [x]).map (fun x => x.1.val) = l1 ++ [v] := by rw [List.map_append, hl1]; simp [hv]
    have hJ' : LJ w n F B s m e row Br W2.heap.size l1 X := by rw [← hl1]; exact hJ
    obtain ⟨g1, g2, g3, g4, g5, g6⟩ := hJ'
    obtain ⟨t, ht⟩ : ∃ t, wo8 s v = t := ⟨_, rfl⟩
    have htlt : t < s := by rw [← ht]; exact wo8_less hs hv8 hvm
    have htl : (bitsOf t).length = e := by
      have := wo8_len hs hv8 hvm
      have h1 := HD.out
      have h2 := HDE.out
      rw [ht] at this
      omega
    have hgt : gS n F t = lst (· + ·) 0 F e (row + 1) t := by
      unfold gS
      rw [htl]
      congr 1
      have := HDE.out
      omega
    have hcs : 10 ^ (e + 1) = 10 * 10 ^ e := by rw [Nat.pow_succ, Nat.mul_comm]
    have hcnt : cntI t = 10 ^ e := by unfold cntI; rw [htl]
    have hcnts : cntI s = 10 * 10 ^ e := by unfold cntI; rw [HD.out, HDE.out, hcs]
    have hmul : l1.length * 10 ^ e + 10 ^ e ≤ 8 * 10 ^ e := by rw [← Nat.succ_mul]; exact Nat.mul_le_mul_right _ (by omega)
    have hm5 : m + l1.length * 10 ^ e + cntI t ≤ 1000000000000 := by omega
    have hTX := HT.out.withinI g6 hgB
    have hih := HIH.out t htlt X.drew (m + l1.length * 10 ^ e) (by have := HDE.out; omega) (g5.below (Below.refl _ X).drew) (hTX.later (Below.refl _ X).drew) hm5
    have hwo : ∀ W, Calls Tryd.prog 49 #[.int .i64 (s : Int), .int .i64 (v : Int)] W fun e w' => e = .returned (.int .i64 (t : Int)) ∧ W = w' := fun W => by
      rw [← ht]; exact without_any s v hs hv8 W
    obtain ⟨z1, hz1⟩ : ∃ z1, gS n F t = z1 := ⟨_, rfl⟩
    have hz1b := gS_bound HF.out (n := n) (show t < 256 by omega)
    rw [hz1] at hz1b
    obtain ⟨f, hf⟩ : ∃ f, F (6 * row + v) = f := ⟨_, rfl⟩
    have hfb := HF.out (6 * row + v)
    rw [hf] at hfb
    obtain ⟨y, hy⟩ : ∃ y, z1 + f = y := ⟨_, rfl⟩
    obtain ⟨cur, hcur⟩ : ∃ cur, curS n F e row s l1 = cur := ⟨_, rfl⟩
    have hnew := curS_snoc n F e row s l1 v
    rw [ht, ← hgt, hz1, hf, hy, hcur] at hnew
    rw [hcur] at g4
    obtain ⟨new, hne2⟩ : ∃ new, min cur y = new := ⟨_, rfl⟩
    rw [hne2] at hnew
    obtain ⟨c0, c1, c2, c3⟩ := four_of g1
    have cl := g2.cell
    have HX := Lib.hid (And.intro g1 (And.intro g2 (And.intro g3 (And.intro g4 (And.intro g5 g6)))))
    have HWO := Lib.hid hwo
    have HIHt := Lib.hid hih
    have HNUM := Lib.hid (And.intro hsn1 (And.intro hnew (And.intro hcnt (And.intro hmul hll))))
    have HZ1 := Lib.hid (And.intro hz1 (And.intro hf hy))
    have HBD := Lib.hid (And.intro hz1b hfb)
    rw [hv]
    clear hwo hih hJ hlen hl1 hsn1 g1 g2 g3 g4 g5 g6 hgt hcs hcnts hmul hm5 hTX hz1b hfb hnew hcur ht hpl htlt htl hv hz1 hf hy hst4 hT4 hb04 hb4
    have hfo : Tryd.prog.follows Departure.mixedOrders = true := by kernel_rfl
    gi_wp2
    apply onceIn_zero (fun (W : World) => MemoI W B (gS n F) (m + l1.length * 10 ^ e + cntI t) ∧ Within B (B + 1) X W)
    case h1 =>
      unfold lcells at HIHt
      gi_region_with_o (first
        | (refine ⟨trivial, ?_⟩; gi_at_call 49; refine (CallsIn.inRound l (callsIn_wide.2 (HWO.out _))).mono ?_; rintro e w' ⟨rfl, rfl⟩)
        | (gi_at_call 49; refine (CallsIn.inRound l (callsIn_wide.2 (HWO.out _))).mono ?_; rintro e w' ⟨rfl, rfl⟩)
        | (refine ⟨trivial, ?_⟩; gi_at_call 41; refine (CallsIn.inRound l (callsIn_wide.2 HIHt.out)).mono ?_; rintro e w' ⟨rfl, hM', hw'⟩)
        | (gi_at_call 41; refine (CallsIn.inRound l (callsIn_wide.2 HIHt.out)).mono ?_; rintro e w' ⟨rfl, hM', hw'⟩))
      all_goals exact ⟨⟨hM', ⟨hw'.os, hw'.tape, hw'.output, hw'.size, hw'.block⟩⟩, rfl⟩
    rintro W5 ⟨hM5, hw5⟩
    clear c0 c1 c2 c3 cl
    obtain ⟨g1, g2, g3, g4, g5, g6⟩ := HX.out
    obtain ⟨hz4, hlt, hs2, hsz2, hBw, hbr2⟩ := HZS.out
    have k1 := (hw5.block _ (Array.getElem?_eq_some_iff.1 g1).1 (.inr (by omega))).trans g1
    have k3 : Boxed W5 Br 3 (.int .i64 (row : Int)) := (hw5.block _ g3.lt (.inr (by omega))).trans g3
    have k4 : Boxed W5 W2.heap.size 3 (.int .i64 cur) := (hw5.block _ g4.lt (.inr (by omega))).trans g4
    have HK5 := Lib.hid (And.intro k1 (And.intro k3 (And.intro k4 (And.intro hM5 hw5))))
    obtain ⟨c0, c1, c2, c3⟩ := four_of (W := W5.drew) k1
    have c5 : W5.drew.cell? ⟨Br, 0, none⟩ = some (.int .i64 (row : Int)) := k3.cell
    have c6 : W5.drew.cell? ⟨W2.heap.size, 0, none⟩ = some (.int .i64 cur) := k4.cell
    have c7 : W5.drew.frozen? ⟨W2.heap.size, 0, none⟩ = false := k4.frozen
    have HQ := Lib.hid (fun (w6 : World) (h : Below W5.drew.heap.size W5.drew w6) => show w6.cell? ⟨w.heap.size, 0, none⟩ = some (.iface 49 (.agg (tcells n F))) ∧ w6.cell? ⟨w.heap.size, 2, none⟩ = some (.func (.func 45) #[] #[]) ∧ w6.cell? ⟨Br, 0, none⟩ = some (.int .i64 (row : Int)) ∧ w6.cell? ⟨W2.heap.size, 0, none⟩ = some (.int .i64 cur) ∧ w6.frozen? ⟨W2.heap.size, 0, none⟩ = false from
      ⟨(h.cell (World.block_lt_of_cell? _ _ c0)).trans c0, (h.cell (World.block_lt_of_cell? _ _ c2)).trans c2, (h.cell (World.block_lt_of_cell? _ _ c5)).trans c5, (h.cell (World.block_lt_of_cell? _ _ c6)).trans c6, (h.frozen (p := ⟨W2.heap.size, 0, none⟩) (World.block_lt_of_cell? _ _ c6)).trans c7⟩)
    have HCA := Lib.hid (fun W => costAt_any W n F row v (by have := HD.out; have := HDE.out; omega) hv6 f HZ1.out.2.1)
    have HBY := Lib.hid (fun W => measSum_any z1 f y HZ1.out.2.2 (by have := HBD.out; have := HZ1.out.2.2; omega) W)
    have HSS := Lib.hid (fun (w6 : World) (h1 : w6.cell? ⟨w.heap.size, 0, none⟩ = some (.iface 49 (.agg (tcells n F)))) (h2 : w6.cell? ⟨w.heap.size, 2, none⟩ = some (.func (.func 45) #[] #[])) (h3 : w6.cell? ⟨Br, 0, none⟩ = some (.int .i64 (row : Int))) =>
      show (w6.setCell ⟨W2.heap.size, 0, none⟩ (.int .i64 new)).cell? ⟨w.heap.size, 0, none⟩ = some (.iface 49 (.agg (tcells n F))) ∧ (w6.setCell ⟨W2.heap.size, 0, none⟩ (.int .i64 new)).cell? ⟨w.heap.size, 2, none⟩ = some (.func (.func 45) #[] #[]) ∧ (w6.setCell ⟨W2.heap.size, 0, none⟩ (.int .i64 new)).cell? ⟨Br, 0, none⟩ = some (.int .i64 (row : Int)) from
      ⟨(World.cell?_of_block (a := ⟨w.heap.size, 0, none⟩) (Below.heap_setCell _ _ _ _ (by show w.heap.size ≠ W2.heap.size; omega))).trans h1, (World.cell?_of_block (a := ⟨w.heap.size, 2, none⟩) (Below.heap_setCell _ _ _ _ (by show w.heap.size ≠ W2.heap.size; omega))).trans h2, (World.cell?_of_block (a := ⟨Br, 0, none⟩) (Below.heap_setCell _ _ _ _ (by show Br ≠ W2.heap.size; omega))).trans h3⟩)
    rw [HZ1.out.1]
    have hmm : (if y < cur then y else cur) = new := by rw [← hne2]; omega
    clear g1 g2 g3 g4 g5 g6 k1 k3 k4 hM5 hw5 c1 c3 hne hsn hs64 hs2 hsz2 hBw hbr2 hz4 hlt hm hgB hv8 hvm hv6
    gi_wp2
    apply onceIn_zero (fun (W : World) => ∃ w6, Below W5.heap.size W5 w6 ∧ W = w6.setCell ⟨W2.heap.size, 0, none⟩ (.int .i64 new))
    case h1 =>
      refine region_L_drew (S := fun w6 => w6.cell? ⟨w.heap.size, 0, none⟩ = some (.iface 49 (.agg (tcells n F))) ∧ w6.cell? ⟨w.heap.size, 2, none⟩ = some (.func (.func 45) #[] #[]) ∧ w6.cell? ⟨Br, 0, none⟩ = some (.int .i64 (row : Int))) hfo ⟨c0, c2, c5⟩ (fun hHeld => ?_)
      refine anyL_take (i := 1) (v := ?v1) (by kernel_rfl) rfl (by kernel_rfl) (by kernel_rfl) (by kernel_rfl) (fun _ _ _ h => h) ⟨Or.inl ⟨by rfl, ?hy1⟩, fun _ => by rfl⟩ (by assumption) ?_
      case hy1 =>
        intro w' hSw
        try dsimp only at hSw
        obtain ⟨p1, p2, p3⟩ := hSw
        go_simp
        try with_reducible rfl
      try simp only [Act.put, List.setIfInBounds_toArray, List.set_cons_zero, List.set_cons_succ]
      refine anyL_take (i := 2) (v := ?v2) (by kernel_rfl) rfl (by kernel_rfl) (by kernel_rfl) (by kernel_rfl) (fun _ _ _ h => h) ⟨Or.inl ⟨by rfl, ?hy2⟩, fun _ => by rfl⟩ (by assumption) ?_
      case hy2 =>
        intro w' hSw
        try dsimp only at hSw
        obtain ⟨p1, p2, p3⟩ := hSw
        go_simp
        try with_reducible rfl
      try simp only [Act.put, List.setIfInBounds_toArray, List.set_cons_zero, List.set_cons_succ]
      refine anyL_take (i := 3) (v := ?v3) (by kernel_rfl) rfl (by kernel_rfl) (by kernel_rfl) (by kernel_rfl) (fun _ _ _ h => h) ⟨Or.inl ⟨by rfl, ?hy3⟩, fun _ => by rfl⟩ (by assumption) ?_
      case hy3 =>
        intro w' hSw
        try dsimp only at hSw
        obtain ⟨p1, p2, p3⟩ := hSw
        go_simp
        try with_reducible rfl
      try simp only [Act.put, List.setIfInBounds_toArray, List.set_cons_zero, List.set_cons_succ]
      refine anyL_take (i := 4) (v := ?v4) (by kernel_rfl) rfl (by kernel_rfl) (by kernel_rfl) (by kernel_rfl) (fun _ _ _ h => h) ⟨Or.inl ⟨by rfl, ?hy4⟩, fun _ => by rfl⟩ (by assumption) ?_
      case hy4 =>
        intro w' hSw
        try dsimp only at hSw
        obtain ⟨p1, p2, p3⟩ := hSw
        go_simp
        try with_reducible rfl
      try simp only [Act.put, List.setIfInBounds_toArray, List.set_cons_zero, List.set_cons_succ]
      refine anyL_take (i := 5) (v := ?v5) (by kernel_rfl) rfl (by kernel_rfl) (by kernel_rfl) (by kernel_rfl) (fun _ _ _ h => h) ⟨Or.inl ⟨by rfl, ?hy5⟩, fun _ => by rfl⟩ (by assumption) ?_
      case hy5 =>
        intro w' hSw
        try dsimp only at hSw
        obtain ⟨p1, p2, p3⟩ := hSw
        go_simp
        try with_reducible rfl
      try simp only [Act.put, List.setIfInBounds_toArray, List.set_cons_zero, List.set_cons_succ]
      refine anyL_take (i := 6) (v := ?v6) (by kernel_rfl) rfl (by kernel_rfl) (by kernel_rfl) (by kernel_rfl) (fun _ _ _ h => h) ⟨Or.inl ⟨by rfl, ?hy6⟩, fun _ => by rfl⟩ (by assumption) ?_
      case hy6 =>
        intro w' hSw
        try dsimp only at hSw
        obtain ⟨p1, p2, p3⟩ := hSw
        go_simp
        try with_reducible rfl
      try simp only [Act.put, List.setIfInBounds_toArray, List.set_cons_zero, List.set_cons_succ]
      refine anyL_take (i := 7) (v := ?v7) (by kernel_rfl) rfl (by kernel_rfl) (by kernel_rfl) (by kernel_rfl) (fun _ _ _ h => h) ⟨Or.inl ⟨by rfl, ?hy7⟩, fun _ => by rfl⟩ (by assumption) ?_
      case hy7 =>
        intro w' hSw
        try dsimp only at hSw
        obtain ⟨p1, p2, p3⟩ := hSw
        go_simp
        try with_reducible rfl
      try simp only [Act.put, List.setIfInBounds_toArray, List.set_cons_zero, List.set_cons_succ]
      refine anyL_take (i := 8) (v := ?v8) (by kernel_rfl) rfl (by kernel_rfl) (by kernel_rfl) (by kernel_rfl) (fun _ _ _ h => h) ⟨Or.inl ⟨by rfl, ?hy8⟩, fun _ => by rfl⟩ (by assumption) ?_
      case hy8 =>
        intro w' hSw
        try dsimp only at hSw
        obtain ⟨p1, p2, p3⟩ := hSw
        go_simp
        try with_reducible rfl
      try simp only [Act.put, List.setIfInBounds_toArray, List.set_cons_zero, List.set_cons_succ]
      refine anyL_ready (rs := [0, 9]) (by kernel_rfl) (by simp) (AllL.cons rfl (fun K hK => ?_) (AllL.cons rfl (fun K hK => ?_) (AllL.nil)))
      · go_simp
        refine hK.out _ _ (⟨c0, c2, c5⟩) (fun hHeld2 => ?_)
        clear hK K
        try simp only [Act.put, List.setIfInBounds_toArray, List.set_cons_zero, List.set_cons_succ]
        refine anyL_ready (rs := [9]) (by kernel_rfl) (by simp) (AllL.cons rfl (fun K hK => ?_) (AllL.nil))
        · go_simp
          gi_wp2_with (first | (refine ⟨trivial, ?_⟩; gi_at_call 48; refine (CallsIn.inRound l (callsIn_wide.2 (HCA.out _))).mono ?_; rintro e w6 ⟨rfl, hb6⟩; obtain ⟨z0, z2, z5, z6, z7⟩ := HQ.out w6 hb6) | (gi_at_call 48; refine (CallsIn.inRound l (callsIn_wide.2 (HCA.out _))).mono ?_; rintro e w6 ⟨rfl, hb6⟩; obtain ⟨z0, z2, z5, z6, z7⟩ := HQ.out w6 hb6))
          refine hK.out _ _ (⟨z0, z2, z5⟩) (fun hHeld2 => ?_)
          clear hK K
          try simp only [Act.put, List.setIfInBounds_toArray, List.set_cons_zero, List.set_cons_succ]
          refine anyL_ready (rs := [10]) (by kernel_rfl) (by simp) (AllL.cons rfl (fun K hK => ?_) (AllL.nil))
          · go_simp
            gi_wp2_with (first | (refine ⟨trivial, ?_⟩; gi_at_call 45; refine (CallsIn.inRound l (callsIn_wide.2 (HBY.out _))).mono ?_; rintro e w7 ⟨rfl, rfl⟩) | (gi_at_call 45; refine (CallsIn.inRound l (callsIn_wide.2 (HBY.out _))).mono ?_; rintro e w7 ⟨rfl, rfl⟩))
            refine hK.out _ _ (⟨z0, z2, z5⟩) (fun hHeld2 => ?_)
            clear hK K
            try simp only [Act.put, List.setIfInBounds_toArray, List.set_cons_zero, List.set_cons_succ]
            refine anyL_take (i := 11) (v := ?va11) (by kernel_rfl) rfl (by kernel_rfl) (by kernel_rfl) (by kernel_rfl) (fun _ _ _ h => h) ⟨Or.inl ⟨by rfl, ?hya11⟩, fun _ => by rfl⟩ (by assumption) ?_
            case hya11 =>
              intro w' hSw
              try dsimp only at hSw
              obtain ⟨p1, p2, p3⟩ := hSw
              go_simp
              try with_reducible rfl
            try simp only [Act.put, List.setIfInBounds_toArray, List.set_cons_zero, List.set_cons_succ]
            refine anyL_ready (rs := [12]) (by kernel_rfl) (by simp) (AllL.cons rfl (fun K hK => ?_) (AllL.nil))
            · go_simp
              refine hK.out _ _ (HSS.out _ z0 z2 z5) (fun hHeld2 => ?_)
              clear hK K
              try simp only [Act.put, List.setIfInBounds_toArray, List.set_cons_zero, List.set_cons_succ]
              refine anyL_done (by kernel_rfl) ?_ _
              exact ⟨⟨w6, undrewL hb6, rfl⟩, rfl⟩
      · go_simp
        gi_wp2_with (first | (refine ⟨trivial, ?_⟩; gi_at_call 48; refine (CallsIn.inRound l (callsIn_wide.2 (HCA.out _))).mono ?_; rintro e w6 ⟨rfl, hb6⟩; obtain ⟨z0, z2, z5, z6, z7⟩ := HQ.out w6 hb6) | (gi_at_call 48; refine (CallsIn.inRound l (callsIn_wide.2 (HCA.out _))).mono ?_; rintro e w6 ⟨rfl, hb6⟩; obtain ⟨z0, z2, z5, z6, z7⟩ := HQ.out w6 hb6))
        refine hK.out _ _ (⟨z0, z2, z5⟩) (fun hHeld2 => ?_)
        clear hK K
        try simp only [Act.put, List.setIfInBounds_toArray, List.set_cons_zero, List.set_cons_succ]
        refine anyL_ready (rs := [0, 10]) (by kernel_rfl) (by simp) (AllL.cons rfl (fun K hK => ?_) (AllL.cons rfl (fun K hK => ?_) (AllL.nil)))
        · go_simp
          refine hK.out _ _ (⟨z0, z2, z5⟩) (fun hHeld2 => ?_)
          clear hK K
          try simp only [Act.put, List.setIfInBounds_toArray, List.set_cons_zero, List.set_cons_succ]
          refine anyL_ready (rs := [10]) (by kernel_rfl) (by simp) (AllL.cons rfl (fun K hK => ?_) (AllL.nil))
          · go_simp
            gi_wp2_with (first | (refine ⟨trivial, ?_⟩; gi_at_call 45; refine (CallsIn.inRound l (callsIn_wide.2 (HBY.out _))).mono ?_; rintro e w7 ⟨rfl, rfl⟩) | (gi_at_call 45; refine (CallsIn.inRound l (callsIn_wide.2 (HBY.out _))).mono ?_; rintro e w7 ⟨rfl, rfl⟩))
            refine hK.out _ _ (⟨z0, z2, z5⟩) (fun hHeld2 => ?_)
            clear hK K
            try simp only [Act.put, List.setIfInBounds_toArray, List.set_cons_zero, List.set_cons_succ]
            refine anyL_take (i := 11) (v := ?vb11) (by kernel_rfl) rfl (by kernel_rfl) (by kernel_rfl) (by kernel_rfl) (fun _ _ _ h => h) ⟨Or.inl ⟨by rfl, ?hyb11⟩, fun _ => by rfl⟩ (by assumption) ?_
            case hyb11 =>
              intro w' hSw
              try dsimp only at hSw
              obtain ⟨p1, p2, p3⟩ := hSw
              go_simp
              try with_reducible rfl
            try simp only [Act.put, List.setIfInBounds_toArray, List.set_cons_zero, List.set_cons_succ]
            refine anyL_ready (rs := [12]) (by kernel_rfl) (by simp) (AllL.cons rfl (fun K hK => ?_) (AllL.nil))
            · go_simp
              refine hK.out _ _ (HSS.out _ z0 z2 z5) (fun hHeld2 => ?_)
              clear hK K
              try simp only [Act.put, List.setIfInBounds_toArray, List.set_cons_zero, List.set_cons_succ]
              refine anyL_done (by kernel_rfl) ?_ _
              exact ⟨⟨w6, undrewL hb6, rfl⟩, rfl⟩
        · go_simp
          gi_wp2_with (first | (refine ⟨trivial, ?_⟩; gi_at_call 45; refine (CallsIn.inRound l (callsIn_wide.2 (HBY.out _))).mono ?_; rintro e w7 ⟨rfl, rfl⟩) | (gi_at_call 45; refine (CallsIn.inRound l (callsIn_wide.2 (HBY.out _))).mono ?_; rintro e w7 ⟨rfl, rfl⟩))
          refine hK.out _ _ (⟨z0, z2, z5⟩) (fun hHeld2 => ?_)
          clear hK K
          try simp only [Act.put, List.setIfInBounds_toArray, List.set_cons_zero, List.set_cons_succ]
          refine anyL_ready (rs := [0]) (by kernel_rfl) (by simp) (AllL.cons rfl (fun K hK => ?_) (AllL.nil))
          · go_simp
            refine hK.out _ _ (⟨z0, z2, z5⟩) (fun hHeld2 => ?_)
            clear hK K
            try simp only [Act.put, List.setIfInBounds_toArray, List.set_cons_zero, List.set_cons_succ]
            refine anyL_take (i := 11) (v := ?vc11) (by kernel_rfl) rfl (by kernel_rfl) (by kernel_rfl) (by kernel_rfl) (fun _ _ _ h => h) ⟨Or.inl ⟨by rfl, ?hyc11⟩, fun _ => by rfl⟩ (by assumption) ?_
            case hyc11 =>
              intro w' hSw
              try dsimp only at hSw
              obtain ⟨p1, p2, p3⟩ := hSw
              go_simp
              try with_reducible rfl
            try simp only [Act.put, List.setIfInBounds_toArray, List.set_cons_zero, List.set_cons_succ]
            refine anyL_ready (rs := [12]) (by kernel_rfl) (by simp) (AllL.cons rfl (fun K hK => ?_) (AllL.nil))
            · go_simp
              refine hK.out _ _ (HSS.out _ z0 z2 z5) (fun hHeld2 => ?_)
              clear hK K
              try simp only [Act.put, List.setIfInBounds_toArray, List.set_cons_zero, List.set_cons_succ]
              refine anyL_done (by kernel_rfl) ?_ _
              exact ⟨⟨w6, undrewL hb6, rfl⟩, rfl⟩
    rintro W6 ⟨w6, hb6, rfl⟩
    clear c0 c2 c5 c6 c7
    gi_wp2
    obtain ⟨hsn1, hnew, hcnt, hmul, hll⟩ := HNUM.out
    obtain ⟨k1, k3, k4, hM5, hw5⟩ := HK5.out
    obtain ⟨g1, g2, g3, g4, g5, g6⟩ := HX.out
    obtain ⟨hz4, hlt, hs2, hsz2, hBw, hbr2⟩ := HZS.out
    have hX5 := hw5.size
    have hX6 := hb6.size
    have l1 := (Array.getElem?_eq_some_iff.1 g1).1
    have l4 := g4.lt
    have l5 := k4.lt
    have l3 := g3.lt
    have l2 := g2.lt
    have hM7 := (hM5.below hb6).kept (grown_setCell w6 W2.heap.size 0 (.int .i64 new)) (by simp; omega)
    have k46 : Boxed w6 W2.heap.size 3 (.int .i64 cur) := (hb6.block _ l5).trans k4
    have m4 := k46.set (.int .i64 new)
    have o6 : ∀ k, k ≠ W2.heap.size → (w6.setCell ⟨W2.heap.size, 0, none⟩ (.int .i64 new)).heap[k]? = w6.heap[k]? := fun k hk => Below.heap_setCell _ _ _ k hk
    have s6 : (w6.setCell ⟨W2.heap.size, 0, none⟩ (.int .i64 new)).heap.size = w6.heap.size := by simp [World.setCell]
    have t1 : (w6.setCell ⟨W2.heap.size, 0, none⟩ (.int .i64 new)).os = w6.os := rfl
    have t2 : (w6.setCell ⟨W2.heap.size, 0, none⟩ (.int .i64 new)).tape = w6.tape := rfl
    have t3 : (w6.setCell ⟨W2.heap.size, 0, none⟩ (.int .i64 new)).output = w6.output := rfl
    obtain ⟨W7, hW7⟩ : ∃ W7, w6.setCell ⟨W2.heap.size, 0, none⟩ (.int .i64 new) = W7 := ⟨_, rfl⟩
    rw [hW7] at hM7 m4 o6 s6 t1 t2 t3 ⊢
    have o7 : ∀ k, k ≠ W2.heap.size → (k < B ∨ B + 1 ≤ k) → k < X.heap.size → W7.heap[k]? = X.heap[k]? := fun k h1 h2 h3 =>
      (o6 k h1).trans ((hb6.block k (by omega)).trans (hw5.block k h3 h2))
    refine ⟨⟨by omega, fun k o hk ho _ => (o7 k (by omega) (.inr (by omega)) (Array.getElem?_eq_some_iff.1 ho).1).trans ho⟩,
      ⟨t1.trans (hb6.os.trans hw5.os), t2.trans (hb6.tape.trans hw5.tape), t3.trans (hb6.output.trans hw5.output), by omega, fun k hk => o7 k (by omega) (.inl hk) (by omega)⟩, ?_⟩
    show LJ w n F B s m e row Br W2.heap.size ((pre ++ [x]).map (fun x => x.1.val)) W7
    rw [hsn1]
    unfold LJ
    rw [hnew]
    refine ⟨(o7 _ (by omega) (.inr (by omega)) l1).trans g1, (o7 _ (by omega) (.inr (by omega)) l2).trans g2, (o7 _ (by omega) (.inr (by omega)) l3).trans g3, m4, hM7.mono ?_, ?_⟩
    · rw [List.length_append, List.length_singleton, Nat.add_mul, hcnt]
      omega
    · exact ⟨t1.trans (hb6.os.trans (hw5.os.trans g6.os)), t2.trans (hb6.tape.trans (hw5.tape.trans g6.tape)), t3.trans (hb6.output.trans (hw5.output.trans g6.output)), by have := g6.size; omega,
        fun k hk ho => (o7 k (by omega) ho (by have := g6.size; omega)).trans (g6.block k hk ho)⟩
  case done =>
    rintro Dd ys X hDd hys ⟨g1, g2, g3, g4, g5, g6⟩ hKD
    have e1 : ys.map (fun x => x.1.val) = elems s := by unfold elems; rw [← hys, List.map_map]; rfl
    rw [e1] at g4 g5
    have hg : curS n F e row s (elems s) = gS n F s := by
      have h1 : n - (e + 1) = row := by have := HDE.out; omega
      unfold gS
      rw [HD.out, HDE.out, h1]
      rfl
    obtain ⟨z, hz⟩ : ∃ z, gS n F s = z := ⟨_, rfl⟩
    have hzb := gS_bound HF.out (n := n) (s := s) hs
    rw [hz] at hzb
    rw [hg, hz] at g4
    obtain ⟨M, hMe⟩ : ∃ M, m + (elems s).length * 10 ^ e = M := ⟨_, rfl⟩
    have hM1 : M + 1 ≤ m + cntI s := by
      have h1 : (elems s).length * 10 ^ e ≤ 8 * 10 ^ e := Nat.mul_le_mul_right _ (by rw [elems_len]; exact bitsOf_len8' s)
      have h2 : cntI s = 10 * 10 ^ e := by unfold cntI; rw [HD.out, HDE.out, Nat.pow_succ, Nat.mul_comm]
      have h3 : 1 ≤ 10 ^ e := Nat.one_le_pow _ _ (by decide)
      omega
    have hroom : M < maxLen := by unfold maxLen; omega
    rw [hMe] at g5
    obtain ⟨D', ho5, hmp5, hv5⟩ := g5
    have hwf := wf_i64 (x := z) (by omega) (by omega)
    obtain ⟨c0, c1, c2, c3⟩ := four_of g1
    have cl := g2.cell
    have cm := g4.cell
    have HO5 := Lib.hid ho5
    have HG := Lib.hid (And.intro g1 (And.intro g2 (And.intro g3 (And.intro g4 (And.intro g6 hKD)))))
    have HV5 := Lib.hid (And.intro hmp5 hv5)
    have HR := Lib.hid (And.intro hroom (And.intro hM1 (And.intro hz hwf)))
    have HCM := Lib.hid (fun (w6 : World) (h : X.grownBy w6 (some B)) => show w6.cell? ⟨W2.heap.size, 0, none⟩ = some (.int .i64 z) ∧ w6.drew.cell? ⟨W2.heap.size, 0, none⟩ = some (.int .i64 z) from by
      have k : Boxed w6 W2.heap.size 3 (.int .i64 z) := (h.block _ g4.lt (by have := HZS.out; simp; omega)).trans g4
      exact ⟨k.cell, k.cell⟩)
    clear g1 g2 g3 g4 g6 hKD hmp5 hv5 ho5 hroom hM1 hwf hzb hMe hg e1 hys hz hne hst4 hT4 hb04 hb4
    gi_wp2_with (gi_at_mapUpdate; refine wpListIn_mapUpdate_own _ rfl _ _ _ 59 rfl 75 3 (Maps.int_keyed Tryd.underlying75) Tryd.underlying59 _ B M D' rfl HO5.out HR.out.1 _ _ (klI s) rfl rfl (keyOf_setI hs) _ [] (plainElem_int Tryd.underlying3 HR.out.2.2.2) ?_; intro w6 ho6 hg6; obtain ⟨z6, z7⟩ := HCM.out w6 hg6)
    obtain ⟨g1, g2, g3, g4, g6, hKD⟩ := HG.out
    obtain ⟨hroom, hM1, hz, hwf⟩ := HR.out
    obtain ⟨hz4, hlt, hs2, hsz2, hBw, hbr2⟩ := HZS.out
    have hM6 : MemoI w6 B (gS n F) (M + 1) := MemoI.put (by rw [hz]; exact ho6) HV5.out.1 HV5.out.2
    have hkd := (hg6.block Dd (Array.getElem?_eq_some_iff.1 hKD).1 (by simp; omega)).trans hKD
    exact least_leave w B (m + cntI s) (gS n F) s z hz _ (by rfl) Dd w6 hBw (by omega) hkd (hM6.mono hM1)
      ⟨hg6.os.trans g6.os, hg6.tape.trans g6.tape, hg6.output.trans g6.output, Nat.le_trans g6.size hg6.size,
        fun k hk ho => (hg6.block k (Nat.lt_of_lt_of_le hk g6.size) (by simp; omega)).trans (g6.block k hk ho)⟩
  case stop =>
    rintro D c pre X hD hpre h hKD
    exact h.elim

end Go.Proofs.YtellghhilcjbnaaDoor

/-
  (impl.chooser).least, for all sets of columns.
-/
namespace Go.Proofs.YtellghhilcjbnaaDoor
set_option linter.unusedVariables false
set_option linter.unusedSimpArgs false
open Go.RowKit Go.Shelf

theorem least_any (n : Nat) (h6 : n ≤ 6) (F : Nat → Int) (hF : ∀ k, -1000 ≤ F k ∧ F k ≤ 1000) (B : Nat) (hgB : 1 < B) : ∀ s, s < 64 → ∀ (w : World) (m : Nat), (bitsOf s).length ≤ n → MemoI w B (gS n F) m → Tab w → m + cntI s ≤ 1000000000000 →
    Calls Tryd.prog 41 #[.agg (lcells n F 0 45 B), .int .i64 (s : Int)] w (LPost w B (gS n F) s (m + cntI s)) := by
  intro s
  induction s using Nat.strongRecOn with
  | _ s ih =>
    intro hs w m hsn hM hT hm
    by_cases h0 : s = 0
    · subst h0
      refine (show Calls Tryd.prog 41 #[.agg (lcells n F 0 45 B), .int .i64 ((0 : Nat) : Int)] w _ from least_zero n F w B m hM).mono ?_
      rintro e w' ⟨rfl, h1, h2⟩
      exact ⟨rfl, h1.mono (Nat.le_add_right _ _), h2⟩
    · have hM2 := hM
      obtain ⟨D, ho, hmap, hval⟩ := hM
      cases hh : Maps.has D (klI s) with
      | true =>
        refine (least_hit n F w B m s D hM2 ho hh (hval s (by omega) hh) (by omega) h0).mono ?_
        rintro e w' ⟨rfl, h1, h2⟩
        exact ⟨rfl, h1.mono (Nat.le_add_right _ _), h2⟩
      | false => exact least_miss n h6 F hF w B m s D hM2 ho hmap hh hT hgB hm hsn hs (fun t ht W m' h1 h2 h3 h4 => ih t ht (by omega) W m' h1 h2 h3 h4) (by omega) h0

end Go.Proofs.YtellghhilcjbnaaDoor

/-
  (impl.chooser).next: the first column with which the least measure can still be reached.
-/
namespace Go.Proofs.YtellghhilcjbnaaDoor
set_option linter.unusedVariables false
set_option linter.unusedSimpArgs false
open Go.RowKit Go.Shelf
attribute [local go_sem] Oper.semAt_some

def NPost (w : World) (B : Nat) (g : Nat → Int) (v m : Nat) (e : Ending) (w' : World) : Prop :=
  e = .returned (.int .i64 (v : Int)) ∧ MemoI w' B g m ∧ Within B (B + 1) w w'
theorem next_leave (w : World) (B M : Nat) (g : Nat → Int) (v : Nat) (tmps : Array Value) (hp : tmps[8]? = some (.pointer (some ⟨w.heap.size + 4, 0, none⟩))) (D : Nat) (W : World) (hBw : B < w.heap.size) (hD : w.heap.size ≤ D) (hKD : W.heap[D]? = some (.deferred (some [])))
    (hc : Boxed W (w.heap.size + 4) 3 (.int .i64 (v : Int))) (h2 : MemoI W B g M) (h3 : Within B (B + 1) w W) : bodyPostM Fence.wide 9 Tryd.prog Tryd.f47 (NPost w B g v M) .ret { tmps := tmps, defers := [{ target := .collected D, args := #[] }] } W := by
  refine leaves_marks (F := Fence.wide) (n := 9) w.heap.size (fun W => Boxed W (w.heap.size + 4) 3 (.int .i64 (v : Int)) ∧ MemoI W B g M ∧ Within B (B + 1) w W) ?_ ?_ _ W ((Marks.nil _ _).cons hD hKD (by simp)) ⟨hc, h2, h3⟩
  · rintro W D hD hk ⟨hc, h2, h3⟩
    have hg := grownBy_putObj' W D (.deferred none)
    refine ⟨(World.putObj_heap_other (fun e => ?_)).trans hc, h2.kept hg (by simp; omega), ⟨hg.os.trans h3.os, hg.tape.trans h3.tape, hg.output.trans h3.output, Nat.le_trans h3.size hg.size,
      fun k hk' ho => (hg.block k (Nat.lt_of_lt_of_le hk' h3.size) (by simp; omega)).trans (h3.block k hk' ho)⟩⟩
    have hc' : W.heap[w.heap.size + 4]? = some (.cells #[.int .i64 (v : Int)] 3 (0, 0)) := hc
    rw [e, hk] at hc'
    cases hc'
  · rintro W ⟨hc, h2, h3⟩
    have hcc := hc.cell
    exact ⟨.int .i64 (v : Int), by simp [results, Tryd.f47, go_sem, hp, hcc], rfl, h2, h3⟩
theorem find_prefix {l l1 : List Nat} {v : Nat} {p : Nat → Bool} (h : l1 ++ [v] <+: l) (hno : ∀ u ∈ l1, p u = false) (hv : p v = true) : l.find? p = some v := by
  obtain ⟨t, rfl⟩ := h
  rw [List.append_assoc, List.find?_append, List.find?_eq_none.2 (fun u hu => by rw [hno u hu]; simp)]
  simp [hv]
/-- Can the least measure still be reached with this column? -/
def fitsS (n : Nat) (F : Nat → Int) (row s : Nat) (made L : Int) (v : Nat) : Prop := made + F (6 * row + v) + gS n F (wo8 s v) = L
/-- How the loop over the columns stands. -/
def NJ (w : World) (n : Nat) (F : Nat → Int) (B s m e row : Nat) (made L : Int) (Br : Nat) (l : List Nat) (X : World) : Prop :=
  X.heap[w.heap.size]? = some (.cells #[.iface 49 (.agg (tcells n F)), .int .i64 0, .func (.func 45) #[] #[], .map (some B)] 61 (0, 0)) ∧ Boxed X (w.heap.size + 1) 3 (.int .i64 made) ∧ Boxed X (w.heap.size + 2) 75 (.int .i64 (s : Int)) ∧
  Boxed X (w.heap.size + 3) 3 (.int .i64 L) ∧ (∃ z : Int, Boxed X (w.heap.size + 4) 3 (.int .i64 z)) ∧ Boxed X Br 3 (.int .i64 (row : Int)) ∧ MemoI X B (gS n F) (m + l.length * 10 ^ e) ∧ Within B (B + 1) w X ∧ ∀ v ∈ l, ¬ fitsS n F row s made L v
def NStop (w : World) (n : Nat) (F : Nat → Int) (B s m row : Nat) (made L : Int) (c : Code) (l : List Nat) (X : World) : Prop :=
  c = .exit 0 ∧ ∃ l1 v, l = l1 ++ [v] ∧ (∀ u ∈ l1, ¬ fitsS n F row s made L u) ∧ fitsS n F row s made L v ∧ Boxed X (w.heap.size + 4) 3 (.int .i64 (v : Int)) ∧ MemoI X B (gS n F) (m + cntI s) ∧ Within B (B + 1) w X
theorem nj_own {w : World} {n B s m e row Br S : Nat} {F : Nat → Int} {made L : Int} (h1 : w.heap.size + 5 ≤ S) (h2 : Br < S) (hB : B < S) : OwnFrom S (fun (pre : List {x : Fin 8 // s.testBit x.val = true}) X => NJ w n F B s m e row made L Br (pre.map (fun x => x.1.val)) X) := by
  intro pre X Y rw hs hg hr
  obtain ⟨g1, g2, g3, g4, ⟨z, g5⟩, g6, g7, g8, g9⟩ := hs
  have kp : ∀ {b : Nat} {o : Obj}, b < S → X.heap[b]? = some o → Y.heap[b]? = some o := fun {b} {o} hb ho =>
    (hg.block b (Array.getElem?_eq_some_iff.1 ho).1 (fun e => by have := (hr b e.symm).1; omega)).trans ho
  exact ⟨kp (by omega) g1, kp (by omega) g2, kp (by omega) g3, kp (by omega) g4, ⟨z, kp (by omega) g5⟩, kp h2 g6, g7.kept hg (fun e => by have := (hr B e.symm).1; omega),
    ⟨hg.os.trans g8.os, hg.tape.trans g8.tape, hg.output.trans g8.output, Nat.le_trans g8.size hg.size,
    fun k hk ho => (hg.block k (Nat.lt_of_lt_of_le hk g8.size) (fun e => by have := (hr k e.symm).1; omega)).trans (g8.block k hk ho)⟩, g9⟩
theorem nx_own {w : World} {n B s m row S : Nat} {F : Nat → Int} {made L : Int} (h1 : w.heap.size + 5 ≤ S) (hB : B < S) (c : Code) : OwnFrom S (fun (pre : List {x : Fin 8 // s.testBit x.val = true}) X => NStop w n F B s m row made L c (pre.map (fun x => x.1.val)) X) := by
  intro pre X Y rw hs hg hr
  obtain ⟨g0, l1, v, g1, g2, g3, g5, g7, g8⟩ := hs
  have kp : ∀ {b : Nat} {o : Obj}, b < S → X.heap[b]? = some o → Y.heap[b]? = some o := fun {b} {o} hb ho =>
    (hg.block b (Array.getElem?_eq_some_iff.1 ho).1 (fun e => by have := (hr b e.symm).1; omega)).trans ho
  exact ⟨g0, l1, v, g1, g2, g3, kp (by omega) g5, g7.kept hg (fun e => by have := (hr B e.symm).1; omega),
    ⟨hg.os.trans g8.os, hg.tape.trans g8.tape, hg.output.trans g8.output, Nat.le_trans g8.size hg.size,
    fun k hk ho => (hg.block k (Nat.lt_of_lt_of_le hk g8.size) (fun e => by have := (hr k e.symm).1; omega)).trans (g8.block k hk ho)⟩⟩

set_option maxRecDepth 100000 in
set_option maxHeartbeats 2000000 in
theorem next_any (n : Nat) (h6 : n ≤ 6) (F : Nat → Int) (hF : ∀ k, -1000 ≤ F k ∧ F k ≤ 1000) (w : World) (B m s : Nat) (made L : Int) (hM : MemoI w B (gS n F) m)
    (hT : Tab w) (hgB : 1 < B) (hm : m + cntI s ≤ 1000000000000) (hsn : (bitsOf s).length ≤ n) (hs : s < 64) (e row : Nat) (hd : (bitsOf s).length = e + 1) (hrow : n - (e + 1) = row)
    (hmade : -10000 ≤ made ∧ made ≤ 10000) (hex : ∃ v ∈ elems s, made + F (6 * row + v) + gS n F (wo8 s v) = L) :
    Calls Tryd.prog 47 #[.agg (lcells n F 0 45 B), .int .i64 made, .int .i64 (s : Int), .int .i64 L] w (NPost w B (gS n F) (nxt (· + ·) 0 F e row s made L) (m + cntI s)) := by
  have HM := Lib.hid hM
  have HT := Lib.hid hT
  have HF := Lib.hid hF
  have HEX := Lib.hid hex
  have HSI := Lib.hid (fun W => setSize_any s (by omega) W)
  rw [hd] at HSI
  have HRW := Lib.hid (row_facts h6 (by omega) hrow)
  have HNUM0 := Lib.hid (And.intro hm (And.intro hsn (And.intro hd (And.intro hrow hmade))))
  clear hM hT hF hex hm hsn hd hrow hmade
  obtain ⟨d, hde⟩ : ∃ d, e + 1 = d := ⟨_, rfl⟩
  have HDE := Lib.hid hde
  rw [hde] at HSI HRW
  clear hde
  have e2 : w.heap.size + 1 + 1 = w.heap.size + 2 := by omega
  have e3 : w.heap.size + 2 + 1 = w.heap.size + 3 := by omega
  have e4 : w.heap.size + 3 + 1 = w.heap.size + 4 := by omega
  obtain ⟨W1, hW1⟩ : ∃ W1, ((((w.alloc (.cells #[.iface 49 (.agg (tcells n F)), .int .i64 0, .func (.func 45) #[] #[], .map (some B)] 61)).alloc (.cells #[.int .i64 made] 3)).alloc (.cells #[.int .i64 (s : Int)] 75)).alloc (.cells #[.int .i64 L] 3)).alloc (.cells #[.int .i64 0] 3) = W1 := ⟨_, rfl⟩
  have hb1 : Below w.heap.size w W1 := by rw [← hW1]; exact (((((Below.refl _ _).alloc (Nat.le_refl _) _).alloc (by simp) _).alloc (by simp; omega) _).alloc (by simp; omega) _).alloc (by simp; omega) _
  have hs1 : W1.heap.size = w.heap.size + 5 := by rw [← hW1]; simp
  have k0 : W1.heap[w.heap.size]? = some (.cells #[.iface 49 (.agg (tcells n F)), .int .i64 0, .func (.func 45) #[] #[], .map (some B)] 61 (0, 0)) := by
    rw [← hW1, Below.heap_alloc _ _ _ (by simp; omega), Below.heap_alloc _ _ _ (by simp; omega), Below.heap_alloc _ _ _ (by simp; omega), Below.heap_alloc _ _ _ (by simp)]; exact World.alloc_heap_new _ _
  have k1 : Boxed W1 (w.heap.size + 1) 3 (.int .i64 made) := by
    rw [← hW1]
    have := (((Boxed.new (w.alloc (.cells #[.iface 49 (.agg (tcells n F)), .int .i64 0, .func (.func 45) #[] #[], .map (some B)] 61)) 3 (.int .i64 made)).alloc (.cells #[.int .i64 (s : Int)] 75)).alloc (.cells #[.int .i64 L] 3)).alloc (.cells #[.int .i64 0] 3)
    rwa [World.size_alloc] at this
  have k2 : Boxed W1 (w.heap.size + 2) 75 (.int .i64 (s : Int)) := by
    rw [← hW1]
    have := ((Boxed.new ((w.alloc (.cells #[.iface 49 (.agg (tcells n F)), .int .i64 0, .func (.func 45) #[] #[], .map (some B)] 61)).alloc (.cells #[.int .i64 made] 3)) 75 (.int .i64 (s : Int))).alloc (.cells #[.int .i64 L] 3)).alloc (.cells #[.int .i64 0] 3)
    rwa [World.size_alloc, World.size_alloc] at this
  have k3 : Boxed W1 (w.heap.size + 3) 3 (.int .i64 L) := by
    rw [← hW1]
    have := (Boxed.new (((w.alloc (.cells #[.iface 49 (.agg (tcells n F)), .int .i64 0, .func (.func 45) #[] #[], .map (some B)] 61)).alloc (.cells #[.int .i64 made] 3)).alloc (.cells #[.int .i64 (s : Int)] 75)) 3 (.int .i64 L)).alloc (.cells #[.int .i64 0] 3)
    rwa [World.size_alloc, World.size_alloc, World.size_alloc] at this
  have k4 : Boxed W1 (w.heap.size + 4) 3 (.int .i64 0) := by
    rw [← hW1]
    have := Boxed.new ((((w.alloc (.cells #[.iface 49 (.agg (tcells n F)), .int .i64 0, .func (.func 45) #[] #[], .map (some B)] 61)).alloc (.cells #[.int .i64 made] 3)).alloc (.cells #[.int .i64 (s : Int)] 75)).alloc (.cells #[.int .i64 L] 3)) 3 (.int .i64 0)
    rwa [World.size_alloc, World.size_alloc, World.size_alloc, World.size_alloc] at this
  obtain ⟨c0, c1, c2, c3⟩ := four_of k0
  have cl := k2.cell
  have HBX := Lib.hid (And.intro hb1 (And.intro hs1 (And.intro k0 (And.intro k1 (And.intro k2 (And.intro k3 k4))))))
  unfold lcells
  refine (callsIn_wide (n := 9)).1 ?_
  refine callsIn_of_wp_marks Tryd.func47 rfl trivial ?_ rfl
  simp only [Tryd.ntmps47, List.size_toArray, List.length_cons, List.length_nil, Nat.reduceAdd, Nat.reduceSub, Array.replicate_succ, Array.replicate_zero, List.push_toArray, List.append_toArray, List.nil_append, List.cons_append]
  clear hb1 hs1 k0 k1 k2 k3 k4
  gi_wp2
  have HK := Lib.hid (fun (w3 : World) (hb3 : Below W1.heap.size W1 w3) => show w3.cell? ⟨w.heap.size, 0, none⟩ = some (.iface 49 (.agg (tcells n F))) ∧ w3.cell? ⟨w.heap.size + 2, 0, none⟩ = some (.int .i64 (s : Int)) from
    ⟨(hb3.cell (World.block_lt_of_cell? _ _ c0)).trans c0, (hb3.cell (World.block_lt_of_cell? _ _ cl)).trans cl⟩)
  have HRA := Lib.hid (fun W => rows_any W n F)
  have HRB := Lib.hid (show Calls Tryd.prog 91 #[.agg (tcells n F)] ((W1.alloc (.cells #[.int .i64 0] 3)).drew) fun e w3 => e = .returned (.int .i64 (n : Int)) ∧ Below (W1.alloc (.cells #[.int .i64 0] 3)).drew.heap.size (W1.alloc (.cells #[.int .i64 0] 3)).drew w3 ∧ w3.cell? ⟨W1.heap.size, 0, none⟩ = some (.int .i64 0) ∧ w3.frozen? ⟨W1.heap.size, 0, none⟩ = false from
    (rows_any _ n F).mono fun e w3 h => ⟨h.1, h.2, (box_later2 h.2).2.1, (box_later2 h.2).2.2⟩)
  have hme := fun W => meth_rows 229 n F W
  have hme2 := fun W => meth_rows 348 n F W
  simp only [Nat.reduceAdd] at hme hme2
  obtain ⟨hrw1, hrw2, hrw3, hrw4, hrw5⟩ := HRW.out
  have HS2 := Lib.hid (show w.heap.size + 5 ≤ W1.heap.size from Nat.le_of_eq HBX.out.2.1.symm)
  clear hW1 e2 e3 e4
  apply onceIn_any (fun (b : Nat) (W : World) => Boxed W b 3 (.int .i64 (row : Int)) ∧ w.heap.size + 5 ≤ b ∧ Below W1.heap.size W1 W)
  case h1 =>
    refine wpIn_wide.2 ?_
    first
      | go_region_held3 (fun w' => w'.cell? ⟨w.heap.size, 0, none⟩ = some (.iface 49 (.agg (tcells n F))) ∧ w'.cell? ⟨w.heap.size + 2, 0, none⟩ = some (.int .i64 (s : Int)))
          (first | exact ⟨c0, cl⟩ | exact HK.out _ (undrewL hb3) | exact HK.out _ ((undrewL hb3).alloc (undrewL hb3).size _) | exact HK.out _ (((Below.refl _ _).alloc (Nat.le_refl _) _).drew) | exact HK.out _ (step_below (((Below.refl W1.heap.size W1).alloc (Nat.le_refl _) (.cells #[.int .i64 0] 3)).drew) hb3) | exact HK.out _ ((step_below (((Below.refl W1.heap.size W1).alloc (Nat.le_refl _) (.cells #[.int .i64 0] 3)).drew) hb3).setCell (p := ⟨W1.heap.size, 0, none⟩) (Nat.le_refl _) _))
          (first | (go_at_call 91; with_reducible refine Calls.mono HRB.out ?_; rintro e w3 ⟨rfl, hb3, hz1, hz2⟩) | (go_at_call 91; refine (HRA.out _).mono ?_; rintro e w3 ⟨rfl, hb3⟩) | (go_at_call 58; refine (HSI.out _).mono ?_; rintro e w' ⟨rfl, rfl⟩))
      | fail "region"
    all_goals
      first
        | (obtain ⟨b, hbb⟩ : ∃ b, w3.heap.size = b := ⟨_, rfl⟩
           simp only [hbb]
           exact ⟨b, ⟨by rw [← hbb]; exact Boxed.new _ _ _, by rw [← hbb]; exact Nat.le_trans HS2.out (undrewL hb3).size, (undrewL hb3).alloc (undrewL hb3).size _⟩, rfl⟩)
        | (obtain ⟨b, hbb⟩ : ∃ b, W1.heap.size = b := ⟨_, rfl⟩
           have hx := (box_later2 hb3).1.set (.int .i64 (row : Int))
           have hy := (step_below (((Below.refl W1.heap.size W1).alloc (Nat.le_refl _) (.cells #[.int .i64 0] 3)).drew) hb3).setCell (p := ⟨W1.heap.size, 0, none⟩) (Nat.le_refl _) (.int .i64 (row : Int))
           have hw := HS2.out
           simp only [hbb] at hx hy hw ⊢
           exact ⟨b, ⟨hx, hw, hy⟩, rfl⟩)
  rintro Br W2 ⟨hbr, hbr2, hb2⟩
  clear hrw1 hrw2 hrw3 hrw4 hrw5 c0 c1 c2 c3 cl hme hme2
  have hcl2 := (HK.out _ hb2).2
  gi_wp2_with (refine ⟨trivial, ?_⟩; gi_at_call 59; refine (callsIn_wide.2 (all_any s _)).mono ?_; rintro e w' ⟨rfl, rfl⟩)
  obtain ⟨hb1, hs1, k0, k1, k2, k3, k4⟩ := HBX.out
  have hlt := hbr.lt
  have hsz2 := hb2.size
  have hBw := HM.out.lt
  have hcl3 : ∀ b, b < W1.heap.size → W2.heap[b]? = W1.heap[b]? := fun b hb => hb2.block b hb
  obtain ⟨W3, hW3⟩ : ∃ W3, W2.alloc (.cells #[.int .i64 (s : Int)] 75) = W3 := ⟨_, rfl⟩
  rw [hW3]
  have hb3 : Below W1.heap.size W1 W3 := by rw [← hW3]; exact hb2.alloc hb2.size _
  have hz3 : W3.heap.size = W2.heap.size + 1 := by rw [← hW3]; simp
  have hst3 : W3.heap[W2.heap.size]? = some (.cells #[.int .i64 (s : Int)] 75 (0, 0)) := by rw [← hW3]; exact World.alloc_heap_new _ _
  have hb03 := step_below hb1 hb3
  have hI0 : NJ w n F B s m e row made L Br [] W3 := by
    refine ⟨(hb3.block _ (by omega)).trans k0, (hb3.block _ (by omega)).trans k1, (hb3.block _ (by omega)).trans k2, (hb3.block _ (by omega)).trans k3, ⟨0, (hb3.block _ (by omega)).trans k4⟩, ?_, ?_, ⟨hb03.os, hb03.tape, hb03.output, hb03.size, fun k hk _ => hb03.block k hk⟩, by simp⟩
    · rw [← hW3]; exact hbr.alloc _
    · simpa using HM.out.below hb03
  have hT3 := HT.out.later hb03
  have HI0 := Lib.hid hI0
  have HZS := Lib.hid (And.intro hz3 (And.intro hlt (And.intro hsz2 (And.intro hs1 (And.intro hBw hbr2)))))
  clear hW3 hI0 hcl2 hcl3 hbr k0 k1 k2 k3 k4 hb1 hb2
  refine wpIn_rangeFunc_ownH rfl (by decide) (gf := 66) (lb := #[.pointer (some ⟨W2.heap.size, 0, none⟩)]) rfl trivial (enters_of Tryd.func66 (by kernel_rfl) rfl)
    (all_stopsB (9 - 1) (by decide) W2.heap.size B s (by omega) W3 hgB (by omega) (cell_of_one hst3) hT3) belowK_t (belowK_b (by omega)) (Below.refl _ _) (fun _ => rfl)
    (fun pre X => NJ w n F B s m e row made L Br (pre.map (fun x => x.1.val)) X) (fun c pre X => NStop w n F B s m row made L c (pre.map (fun x => x.1.val)) X) (nj_own (by omega) (by omega) (by omega)) (fun c => nx_own (by omega) (by omega) c) HI0.out
    (fun x a' X => Boxed X (w.heap.size + 4) 3 (.int .i64 ((x.1.val : Nat) : Int)) ∧ a' = { tmps := #[.agg #[.iface 49 (.agg (tcells n F)), .int .i64 0, .func (.func 45) #[] #[], .map (some B)], .int .i64 made, .int .i64 (s : Int), .int .i64 L, .pointer (some ⟨w.heap.size, 0, none⟩), .pointer (some ⟨w.heap.size + 1, 0, none⟩), .pointer (some ⟨w.heap.size + 2, 0, none⟩), .pointer (some ⟨w.heap.size + 3, 0, none⟩), .pointer (some ⟨w.heap.size + 4, 0, none⟩), .pointer (some ⟨Br, 0, none⟩), undef, .pointer (some ⟨w.heap.size, 0, none⟩), .iface 49 (.agg (tcells n F)), .int .i64 (n : Int), .int .i64 (s : Int), .int .i64 (d : Int), .int .i64 (row : Int), .int .i64 (s : Int), seqOf W2.heap.size, .int .i64 ((x.1.val : Nat) : Int), undef, undef, undef, undef, undef, undef, undef, undef, undef, undef, undef, undef, undef, undef, undef, undef, undef, undef, undef, undef, undef, undef, undef], defers := [] })
    ?ax ?assign ?body ?done ?stop
  case ax =>
    intro x a' _ X Y rw hs hg hr
    exact ⟨(hg.block _ hs.1.lt (fun e => by have := (hr _ e.symm).1; omega)).trans hs.1, hs.2⟩
  case assign =>
    rintro l pre x X K ⟨g1, g2, g3, g4, ⟨z, g5⟩, g6, g7, g8, g9⟩ hK
    have HK := Lib.hid hK
    have HX := Lib.hid (And.intro g1 (And.intro g2 (And.intro g3 (And.intro g4 (And.intro g5 (And.intro g6 (And.intro g7 (And.intro g8 g9))))))))
    have c5 := g5.cell
    have f5 := g5.frozen
    clear hK g1 g2 g3 g4 g5 g6 g7 g8 g9 hst3 hT3 hb03 hb3
    gi_wp2
    clear c5 f5
    obtain ⟨g1, g2, g3, g4, g5, g6, g7, g8, g9⟩ := HX.out
    obtain ⟨hz3, hlt, hsz2, hs1, hBw, hbr2⟩ := HZS.out
    have o6 : ∀ k, k ≠ w.heap.size + 4 → (X.setCell ⟨w.heap.size + 4, 0, none⟩ (.int .i64 ((x.1.val : Nat) : Int))).heap[k]? = X.heap[k]? := fun k hk => Below.heap_setCell _ _ _ k hk
    have hgs := grown_setCell X (w.heap.size + 4) 0 (.int .i64 ((x.1.val : Nat) : Int))
    refine HK.out _ _ ((KeepsOthers.setCell _ _ _).from _) ((Below.refl _ _).setCell (p := ⟨w.heap.size + 4, 0, none⟩) (by show B ≤ w.heap.size + 4; omega) _) ?_ ⟨g5.set _, rfl⟩
    exact ⟨(o6 _ (by omega)).trans g1, (o6 _ (by omega)).trans g2, (o6 _ (by omega)).trans g3, (o6 _ (by omega)).trans g4, ⟨_, g5.set _⟩, (o6 _ (by omega)).trans g6, g7.kept hgs (by simp; omega),
      ⟨g8.os, g8.tape, g8.output, Nat.le_trans g8.size hgs.size, fun k hk ho => (o6 k (by omega)).trans (g8.block k hk ho)⟩, g9⟩
  case body =>
    rintro l pre x a' X hlW hlo hJ ⟨hcol, rfl⟩ hlen
    obtain ⟨v, hv⟩ : ∃ v, x.1.val = v := ⟨_, rfl⟩
    have hv8 : v < 8 := by rw [← hv]; exact x.1.isLt
    have hvm : s.testBit v = true := by rw [← hv]; exact x.2
    have hv6 : v < 6 := bits_six' ⟨v, hv8⟩ ⟨s, hs⟩ hvm
    have hpl : pre.length < 8 := Nat.lt_of_lt_of_le hlen (bitsOf_len8' s)
    obtain ⟨l1, hl1⟩ : ∃ l1, pre.map (fun x => x.1.val) = l1 := ⟨_, rfl⟩
    have hll : l1.length < 8 := by rw [← hl1, List.length_map]; exact hpl
    have hsn1 : (pre ++ [x]).map (fun x => x.1.val) = l1 ++ [v] := by rw [List.map_append, hl1]; simp [hv]
    have hJ' : NJ w n F B s m e row made L Br l1 X := by rw [← hl1]; exact hJ
    obtain ⟨g1, g2, g3, g4, g5, g6, g7, g8, g9⟩ := hJ'
    rw [hv] at hcol ⊢
    obtain ⟨t, ht⟩ : ∃ t, wo8 s v = t := ⟨_, rfl⟩
    have htlt : t < s := by rw [← ht]; exact wo8_less (by omega) hv8 hvm
    obtain ⟨hm, hsn, hd, hrow, hmade⟩ := HNUM0.out
    have htl : (bitsOf t).length = e := by
      have := wo8_len (show s < 256 by omega) hv8 hvm
      rw [ht] at this
      omega
    have hcs : 10 ^ (e + 1) = 10 * 10 ^ e := by rw [Nat.pow_succ, Nat.mul_comm]
    have hcnt : cntI t = 10 ^ e := by unfold cntI; rw [htl]
    have hcnts : cntI s = 10 * 10 ^ e := by unfold cntI; rw [hd, hcs]
    have hmul : l1.length * 10 ^ e + 10 ^ e ≤ 8 * 10 ^ e := by rw [← Nat.succ_mul]; exact Nat.mul_le_mul_right _ (by omega)
    have hm5 : m + l1.length * 10 ^ e + cntI t ≤ m + cntI s := by omega
    have hTX := HT.out.withinI g8 hgB
    have hwo : ∀ W, Calls Tryd.prog 49 #[.int .i64 (s : Int), .int .i64 (v : Int)] W fun e w' => e = .returned (.int .i64 (t : Int)) ∧ W = w' := fun W => by
      rw [← ht]; exact without_any s v (by omega) hv8 W
    obtain ⟨z1, hz1⟩ : ∃ z1, gS n F t = z1 := ⟨_, rfl⟩
    have hz1b := gS_bound HF.out (n := n) (show t < 256 by omega)
    rw [hz1] at hz1b
    obtain ⟨f, hf⟩ : ∃ f, F (6 * row + v) = f := ⟨_, rfl⟩
    have hfb := HF.out (6 * row + v)
    rw [hf] at hfb
    obtain ⟨tg, htg⟩ : ∃ tg, made + f = tg := ⟨_, rfl⟩
    obtain ⟨y, hy⟩ : ∃ y, tg + z1 = y := ⟨_, rfl⟩
    have hfit : fitsS n F row s made L v ↔ y = L := by unfold fitsS; rw [ht, hf, hz1, htg, hy]
    have hlt6 : row < 6 := by omega
    have HCA := Lib.hid (fun W => costAt_any W n F row v hlt6 hv6 f hf)
    have HBY1 := Lib.hid (fun W => measSum_any made f tg htg (by omega) W)
    have HBY2 := Lib.hid (fun W => measSum_any tg (gS n F t) y (by rw [hz1]; exact hy) (by omega) W)
    have HLE := Lib.hid (fun (W : World) (hMW : MemoI W B (gS n F) (m + l1.length * 10 ^ e)) (hTW : Tab W) => least_any n h6 F HF.out B hgB t (by omega) W (m + l1.length * 10 ^ e) (by omega) hMW hTW (by omega))
    have HWO := Lib.hid hwo
    have HX := Lib.hid (And.intro g1 (And.intro g2 (And.intro g3 (And.intro g4 (And.intro hcol (And.intro g6 (And.intro g7 (And.intro g8 (And.intro g9 hTX)))))))))
    have HNUM := Lib.hid (And.intro hsn1 (And.intro hfit (And.intro hcnt (And.intro hmul (And.intro hm5 hll)))))
    have hfo : Tryd.prog.follows Departure.mixedOrders = true := by kernel_rfl
    obtain ⟨c0, c1, c2, c3⟩ := four_of (W := X.drew) g1
    have cm : X.drew.cell? ⟨w.heap.size + 1, 0, none⟩ = some (.int .i64 made) := g2.cell
    have cr : X.drew.cell? ⟨Br, 0, none⟩ = some (.int .i64 (row : Int)) := g6.cell
    have cc : X.drew.cell? ⟨w.heap.size + 4, 0, none⟩ = some (.int .i64 (v : Int)) := hcol.cell
    have HQ4 := Lib.hid (fun (w6 : World) (h : Below X.drew.heap.size X.drew w6) => show w6.cell? ⟨w.heap.size, 0, none⟩ = some (.iface 49 (.agg (tcells n F))) ∧ w6.cell? ⟨w.heap.size, 2, none⟩ = some (.func (.func 45) #[] #[]) ∧ w6.cell? ⟨w.heap.size + 1, 0, none⟩ = some (.int .i64 made) ∧ w6.cell? ⟨Br, 0, none⟩ = some (.int .i64 (row : Int)) ∧ w6.cell? ⟨w.heap.size + 4, 0, none⟩ = some (.int .i64 (v : Int)) from
      ⟨(h.cell (World.block_lt_of_cell? _ _ c0)).trans c0, (h.cell (World.block_lt_of_cell? _ _ c2)).trans c2, (h.cell (World.block_lt_of_cell? _ _ cm)).trans cm, (h.cell (World.block_lt_of_cell? _ _ cr)).trans cr, (h.cell (World.block_lt_of_cell? _ _ cc)).trans cc⟩)
    clear g1 g2 g3 g4 g5 g6 g7 g8 g9 hcol hJ hlen hl1 hsn1 hll hpl htlt htl hm hsn hd hrow hmade hcs hcnt hcnts hmul hm5 hTX hwo hz1 hz1b hf hfb htg hy hfit hlt6 hvm hv8 hv6 ht hlW hlo hst3 hT3 hb03 hb3 hv hz3 hlt hsz2 hs1 hBw hbr2
    gi_wp2
    apply onceIn_zero (fun (W : World) => Below X.heap.size X W)
    case h1 =>
      refine region_L_drew (S := fun W => W.cell? ⟨w.heap.size, 0, none⟩ = some (.iface 49 (.agg (tcells n F))) ∧ W.cell? ⟨w.heap.size, 2, none⟩ = some (.func (.func 45) #[] #[]) ∧ W.cell? ⟨w.heap.size + 1, 0, none⟩ = some (.int .i64 made) ∧ W.cell? ⟨Br, 0, none⟩ = some (.int .i64 (row : Int)) ∧ W.cell? ⟨w.heap.size + 4, 0, none⟩ = some (.int .i64 (v : Int))) hfo ⟨c0, c2, cm, cr, cc⟩ (fun hHeld => ?_)
      refine anyL_take (i := 0) (v := ?vp0) (by kernel_rfl) rfl (by kernel_rfl) (by kernel_rfl) (by kernel_rfl) (fun _ _ _ h => h) ⟨Or.inl ⟨by rfl, ?hyp0⟩, fun _ => by rfl⟩ (by assumption) ?_
      case hyp0 =>
        intro w' hSw
        try dsimp only at hSw
        obtain ⟨p1, p2, p3, p4, p5⟩ := hSw
        go_simp
        try with_reducible rfl
      try simp only [Act.put, List.setIfInBounds_toArray, List.set_cons_zero, List.set_cons_succ]
      refine anyL_take (i := 1) (v := ?vp1) (by kernel_rfl) rfl (by kernel_rfl) (by kernel_rfl) (by kernel_rfl) (fun _ _ _ h => h) ⟨Or.inl ⟨by rfl, ?hyp1⟩, fun _ => by rfl⟩ (by assumption) ?_
      case hyp1 =>
        intro w' hSw
        try dsimp only at hSw
        obtain ⟨p1, p2, p3, p4, p5⟩ := hSw
        go_simp
        try with_reducible rfl
      try simp only [Act.put, List.setIfInBounds_toArray, List.set_cons_zero, List.set_cons_succ]
      refine anyL_take (i := 2) (v := ?vp2) (by kernel_rfl) rfl (by kernel_rfl) (by kernel_rfl) (by kernel_rfl) (fun _ _ _ h => h) ⟨Or.inl ⟨by rfl, ?hyp2⟩, fun _ => by rfl⟩ (by assumption) ?_
      case hyp2 =>
        intro w' hSw
        try dsimp only at hSw
        obtain ⟨p1, p2, p3, p4, p5⟩ := hSw
        go_simp
        try with_reducible rfl
      try simp only [Act.put, List.setIfInBounds_toArray, List.set_cons_zero, List.set_cons_succ]
      refine anyL_take (i := 3) (v := ?vp3) (by kernel_rfl) rfl (by kernel_rfl) (by kernel_rfl) (by kernel_rfl) (fun _ _ _ h => h) ⟨Or.inl ⟨by rfl, ?hyp3⟩, fun _ => by rfl⟩ (by assumption) ?_
      case hyp3 =>
        intro w' hSw
        try dsimp only at hSw
        obtain ⟨p1, p2, p3, p4, p5⟩ := hSw
        go_simp
        try with_reducible rfl
      try simp only [Act.put, List.setIfInBounds_toArray, List.set_cons_zero, List.set_cons_succ]
      refine anyL_take (i := 4) (v := ?vp4) (by kernel_rfl) rfl (by kernel_rfl) (by kernel_rfl) (by kernel_rfl) (fun _ _ _ h => h) ⟨Or.inl ⟨by rfl, ?hyp4⟩, fun _ => by rfl⟩ (by assumption) ?_
      case hyp4 =>
        intro w' hSw
        try dsimp only at hSw
        obtain ⟨p1, p2, p3, p4, p5⟩ := hSw
        go_simp
        try with_reducible rfl
      try simp only [Act.put, List.setIfInBounds_toArray, List.set_cons_zero, List.set_cons_succ]
      refine anyL_take (i := 5) (v := ?vp5) (by kernel_rfl) rfl (by kernel_rfl) (by kernel_rfl) (by kernel_rfl) (fun _ _ _ h => h) ⟨Or.inl ⟨by rfl, ?hyp5⟩, fun _ => by rfl⟩ (by assumption) ?_
      case hyp5 =>
        intro w' hSw
        try dsimp only at hSw
        obtain ⟨p1, p2, p3, p4, p5⟩ := hSw
        go_simp
        try with_reducible rfl
      try simp only [Act.put, List.setIfInBounds_toArray, List.set_cons_zero, List.set_cons_succ]
      refine anyL_take (i := 6) (v := ?vp6) (by kernel_rfl) rfl (by kernel_rfl) (by kernel_rfl) (by kernel_rfl) (fun _ _ _ h => h) ⟨Or.inl ⟨by rfl, ?hyp6⟩, fun _ => by rfl⟩ (by assumption) ?_
      case hyp6 =>
        intro w' hSw
        try dsimp only at hSw
        obtain ⟨p1, p2, p3, p4, p5⟩ := hSw
        go_simp
        try with_reducible rfl
      try simp only [Act.put, List.setIfInBounds_toArray, List.set_cons_zero, List.set_cons_succ]
      refine anyL_take (i := 7) (v := ?vp7) (by kernel_rfl) rfl (by kernel_rfl) (by kernel_rfl) (by kernel_rfl) (fun _ _ _ h => h) ⟨Or.inl ⟨by rfl, ?hyp7⟩, fun _ => by rfl⟩ (by assumption) ?_
      case hyp7 =>
        intro w' hSw
        try dsimp only at hSw
        obtain ⟨p1, p2, p3, p4, p5⟩ := hSw
        go_simp
        try with_reducible rfl
      try simp only [Act.put, List.setIfInBounds_toArray, List.set_cons_zero, List.set_cons_succ]
      refine anyL_ready (rs := [8]) (by kernel_rfl) (by simp) (AllL.cons rfl (fun K hK => ?_) (AllL.nil))
      · go_simp
        gi_wp2_with (first | (refine ⟨trivial, ?_⟩; gi_at_call 48; refine (CallsIn.inRound l (callsIn_wide.2 (HCA.out _))).mono ?_; rintro e6 w6 ⟨rfl, hb6⟩) | (gi_at_call 48; refine (CallsIn.inRound l (callsIn_wide.2 (HCA.out _))).mono ?_; rintro e6 w6 ⟨rfl, hb6⟩))
        refine hK.out _ _ (HQ4.out w6 hb6) (fun hHeld2 => ?_)
        clear hK K
        try simp only [Act.put, List.setIfInBounds_toArray, List.set_cons_zero, List.set_cons_succ]
        refine anyL_ready (rs := [9]) (by kernel_rfl) (by simp) (AllL.cons rfl (fun K hK => ?_) (AllL.nil))
        · go_simp
          gi_wp2_with (first | (refine ⟨trivial, ?_⟩; gi_at_call 45; refine (CallsIn.inRound l (callsIn_wide.2 (HBY1.out _))).mono ?_; rintro e7 w7 ⟨rfl, rfl⟩) | (gi_at_call 45; refine (CallsIn.inRound l (callsIn_wide.2 (HBY1.out _))).mono ?_; rintro e7 w7 ⟨rfl, rfl⟩))
          refine hK.out _ _ (HQ4.out w6 hb6) (fun hHeld2 => ?_)
          clear hK K
          try simp only [Act.put, List.setIfInBounds_toArray, List.set_cons_zero, List.set_cons_succ]
          refine anyL_take (i := 10) (v := ?vp10) (by kernel_rfl) rfl (by kernel_rfl) (by kernel_rfl) (by kernel_rfl) (fun _ _ _ h => h) ⟨Or.inl ⟨by rfl, ?hyp10⟩, fun _ => by rfl⟩ (by assumption) ?_
          case hyp10 =>
            intro w' hSw
            try dsimp only at hSw
            obtain ⟨p1, p2, p3, p4, p5⟩ := hSw
            go_simp
            try with_reducible rfl
          try simp only [Act.put, List.getElem_toArray, List.getElem_cons_succ, List.getElem_cons_zero, List.setIfInBounds_toArray, List.set_cons_zero, List.set_cons_succ]
          refine anyL_done (by kernel_rfl) ?_ _
          exact ⟨undrewL hb6, rfl⟩
    rintro W5 hb5
    obtain ⟨g1, g2, g3, g4, gc, g6, g7, g8, g9, hTX⟩ := HX.out
    have r1 := (hb5.block _ (Array.getElem?_eq_some_iff.1 g1).1).trans g1
    have r3 : Boxed W5 (w.heap.size + 2) 75 (.int .i64 (s : Int)) := (hb5.block _ g3.lt).trans g3
    have r4 : Boxed W5 (w.heap.size + 3) 3 (.int .i64 L) := (hb5.block _ g4.lt).trans g4
    have rc : Boxed W5 (w.heap.size + 4) 3 (.int .i64 (v : Int)) := (hb5.block _ gc.lt).trans gc
    have HIHt := Lib.hid (HLE.out W5.drew ((g7.below hb5).below (Below.refl _ W5).drew) ((hTX.later hb5).later (Below.refl _ W5).drew))
    obtain ⟨d0, d1, d2, d3⟩ := four_of (W := W5.drew) r1
    have ds : W5.drew.cell? ⟨w.heap.size + 2, 0, none⟩ = some (.int .i64 (s : Int)) := r3.cell
    have dl : W5.drew.cell? ⟨w.heap.size + 3, 0, none⟩ = some (.int .i64 L) := r4.cell
    have dc : W5.drew.cell? ⟨w.heap.size + 4, 0, none⟩ = some (.int .i64 (v : Int)) := rc.cell
    have HB5 := Lib.hid hb5
    have HQ5 := Lib.hid (fun (w8 : World) (h : Within B (B + 1) W5.drew w8) => show w8.cell? ⟨w.heap.size, 0, none⟩ = some (.iface 49 (.agg (tcells n F))) ∧ w8.cell? ⟨w.heap.size, 1, none⟩ = some (.int .i64 0) ∧ w8.cell? ⟨w.heap.size, 2, none⟩ = some (.func (.func 45) #[] #[]) ∧ w8.cell? ⟨w.heap.size, 3, none⟩ = some (.map (some B)) ∧ w8.cell? ⟨w.heap.size + 2, 0, none⟩ = some (.int .i64 (s : Int)) ∧ w8.cell? ⟨w.heap.size + 3, 0, none⟩ = some (.int .i64 L) ∧ w8.cell? ⟨w.heap.size + 4, 0, none⟩ = some (.int .i64 (v : Int)) from by
      obtain ⟨hz3, hlt, hsz2, hs1, hBw, hbr2⟩ := HZS.out
      have s1 := (h.block _ (Array.getElem?_eq_some_iff.1 r1).1 (.inr (by omega))).trans r1
      have s3 : Boxed w8 (w.heap.size + 2) 75 (.int .i64 (s : Int)) := (h.block _ r3.lt (.inr (by omega))).trans r3
      have s4 : Boxed w8 (w.heap.size + 3) 3 (.int .i64 L) := (h.block _ r4.lt (.inr (by omega))).trans r4
      have sc : Boxed w8 (w.heap.size + 4) 3 (.int .i64 (v : Int)) := (h.block _ rc.lt (.inr (by omega))).trans rc
      obtain ⟨a0, a1, a2, a3⟩ := four_of s1
      exact ⟨a0, a1, a2, a3, s3.cell, s4.cell, sc.cell⟩)
    obtain ⟨bz, hbz⟩ : ∃ bz, (y == L) = bz := ⟨_, rfl⟩
    clear g1 g2 g3 g4 gc g6 g7 g8 g9 hTX r1 r3 r4 rc hb5 c0 c1 c2 c3 cm cr cc
    unfold lcells at HIHt
    gi_wp2
    apply onceIn_zero (fun (W : World) => MemoI W B (gS n F) (m + l1.length * 10 ^ e + cntI t) ∧ Within B (B + 1) W5 W)
    case h1 =>
      refine region_L_drew (S := fun W => (W.cell? ⟨w.heap.size, 0, none⟩ = some (.iface 49 (.agg (tcells n F))) ∧ W.cell? ⟨w.heap.size, 1, none⟩ = some (.int .i64 0) ∧ W.cell? ⟨w.heap.size, 2, none⟩ = some (.func (.func 45) #[] #[]) ∧ W.cell? ⟨w.heap.size, 3, none⟩ = some (.map (some B)) ∧ W.cell? ⟨w.heap.size + 2, 0, none⟩ = some (.int .i64 (s : Int)) ∧ W.cell? ⟨w.heap.size + 3, 0, none⟩ = some (.int .i64 L) ∧ W.cell? ⟨w.heap.size + 4, 0, none⟩ = some (.int .i64 (v : Int)))) hfo ⟨d0, d1, d2, d3, ds, dl, dc⟩ (fun hHeld => ?_)
      refine anyL_take (i := 0) (v := ?vq0) (by kernel_rfl) rfl (by kernel_rfl) (by kernel_rfl) (by kernel_rfl) (fun _ _ _ h => h) ⟨Or.inl ⟨by rfl, ?hyq0⟩, fun _ => by rfl⟩ (by assumption) ?_
      case hyq0 =>
        intro w' hSw
        try dsimp only at hSw
        obtain ⟨p0, p1, p2, p3, p4, p5, p6⟩ := hSw
        go_simp
        try with_reducible rfl
      try simp only [Act.put, List.setIfInBounds_toArray, List.set_cons_zero, List.set_cons_succ]
      refine anyL_take (i := 1) (v := ?vq1) (by kernel_rfl) rfl (by kernel_rfl) (by kernel_rfl) (by kernel_rfl) (fun _ _ _ h => h) ⟨Or.inl ⟨by rfl, ?hyq1⟩, fun _ => by rfl⟩ (by assumption) ?_
      case hyq1 =>
        intro w' hSw
        try dsimp only at hSw
        obtain ⟨p0, p1, p2, p3, p4, p5, p6⟩ := hSw
        go_simp
        try with_reducible rfl
      try simp only [Act.put, List.setIfInBounds_toArray, List.set_cons_zero, List.set_cons_succ]
      refine anyL_take (i := 2) (v := ?vq2) (by kernel_rfl) rfl (by kernel_rfl) (by kernel_rfl) (by kernel_rfl) (fun _ _ _ h => h) ⟨Or.inl ⟨by rfl, ?hyq2⟩, fun _ => by rfl⟩ (by assumption) ?_
      case hyq2 =>
        intro w' hSw
        try dsimp only at hSw
        obtain ⟨p0, p1, p2, p3, p4, p5, p6⟩ := hSw
        go_simp
        try with_reducible rfl
      try simp only [Act.put, List.setIfInBounds_toArray, List.set_cons_zero, List.set_cons_succ]
      refine anyL_take (i := 3) (v := ?vq3) (by kernel_rfl) rfl (by kernel_rfl) (by kernel_rfl) (by kernel_rfl) (fun _ _ _ h => h) ⟨Or.inl ⟨by rfl, ?hyq3⟩, fun _ => by rfl⟩ (by assumption) ?_
      case hyq3 =>
        intro w' hSw
        try dsimp only at hSw
        obtain ⟨p0, p1, p2, p3, p4, p5, p6⟩ := hSw
        go_simp
        try with_reducible rfl
      try simp only [Act.put, List.setIfInBounds_toArray, List.set_cons_zero, List.set_cons_succ]
      refine anyL_take (i := 4) (v := ?vq4) (by kernel_rfl) rfl (by kernel_rfl) (by kernel_rfl) (by kernel_rfl) (fun _ _ _ h => h) ⟨Or.inl ⟨by rfl, ?hyq4⟩, fun _ => by rfl⟩ (by assumption) ?_
      case hyq4 =>
        intro w' hSw
        try dsimp only at hSw
        obtain ⟨p0, p1, p2, p3, p4, p5, p6⟩ := hSw
        go_simp
        try with_reducible rfl
      try simp only [Act.put, List.setIfInBounds_toArray, List.set_cons_zero, List.set_cons_succ]
      refine anyL_take (i := 5) (v := ?vq5) (by kernel_rfl) rfl (by kernel_rfl) (by kernel_rfl) (by kernel_rfl) (fun _ _ _ h => h) ⟨Or.inl ⟨by rfl, ?hyq5⟩, fun _ => by rfl⟩ (by assumption) ?_
      case hyq5 =>
        intro w' hSw
        try dsimp only at hSw
        obtain ⟨p0, p1, p2, p3, p4, p5, p6⟩ := hSw
        go_simp
        try with_reducible rfl
      try simp only [Act.put, List.setIfInBounds_toArray, List.set_cons_zero, List.set_cons_succ]
      refine anyL_take (i := 6) (v := ?vq6) (by kernel_rfl) rfl (by kernel_rfl) (by kernel_rfl) (by kernel_rfl) (fun _ _ _ h => h) ⟨Or.inl ⟨by rfl, ?hyq6⟩, fun _ => by rfl⟩ (by assumption) ?_
      case hyq6 =>
        intro w' hSw
        try dsimp only at hSw
        obtain ⟨p0, p1, p2, p3, p4, p5, p6⟩ := hSw
        go_simp
        try with_reducible rfl
      try simp only [Act.put, List.setIfInBounds_toArray, List.set_cons_zero, List.set_cons_succ]
      refine anyL_take (i := 10) (v := ?vq10) (by kernel_rfl) rfl (by kernel_rfl) (by kernel_rfl) (by kernel_rfl) (fun _ _ _ h => h) ⟨Or.inl ⟨by rfl, ?hyq10⟩, fun _ => by rfl⟩ (by assumption) ?_
      case hyq10 =>
        intro w' hSw
        try dsimp only at hSw
        obtain ⟨p0, p1, p2, p3, p4, p5, p6⟩ := hSw
        go_simp
        try with_reducible rfl
      try simp only [Act.put, List.getElem_toArray, List.getElem_cons_succ, List.getElem_cons_zero, List.setIfInBounds_toArray, List.set_cons_zero, List.set_cons_succ]
      refine anyL_ready (rs := [7]) (by kernel_rfl) (by simp) (AllL.cons rfl (fun K hK => ?_) (AllL.nil))
      · go_simp
        gi_wp2_with (first | (refine ⟨trivial, ?_⟩; gi_at_call 49; refine (CallsIn.inRound l (callsIn_wide.2 (HWO.out _))).mono ?_; rintro e7 w7 ⟨rfl, rfl⟩) | (gi_at_call 49; refine (CallsIn.inRound l (callsIn_wide.2 (HWO.out _))).mono ?_; rintro e7 w7 ⟨rfl, rfl⟩))
        refine hK.out _ _ (hHeld) (fun hHeld2 => ?_)
        clear hK K
        try simp only [Act.put, List.getElem_toArray, List.getElem_cons_succ, List.getElem_cons_zero, List.setIfInBounds_toArray, List.set_cons_zero, List.set_cons_succ]
        refine anyL_ready (rs := [8]) (by kernel_rfl) (by simp) (AllL.cons rfl (fun K hK => ?_) (AllL.nil))
        · go_simp
          gi_wp2_with (first | (refine ⟨trivial, ?_⟩; gi_at_call 41; refine (CallsIn.inRound l (callsIn_wide.2 HIHt.out)).mono ?_; rintro e8 w8 ⟨rfl, hM', hw'⟩) | (gi_at_call 41; refine (CallsIn.inRound l (callsIn_wide.2 HIHt.out)).mono ?_; rintro e8 w8 ⟨rfl, hM', hw'⟩))
          refine hK.out _ _ (HQ5.out w8 hw') (fun hHeld2 => ?_)
          clear hK K
          try simp only [Act.put, List.getElem_toArray, List.getElem_cons_succ, List.getElem_cons_zero, List.setIfInBounds_toArray, List.set_cons_zero, List.set_cons_succ]
          refine anyL_ready (rs := [9]) (by kernel_rfl) (by simp) (AllL.cons rfl (fun K hK => ?_) (AllL.nil))
          · go_simp
            gi_wp2_with (first | (refine ⟨trivial, ?_⟩; gi_at_call 45; refine (CallsIn.inRound l (callsIn_wide.2 (HBY2.out _))).mono ?_; rintro e7 w7 ⟨rfl, rfl⟩) | (gi_at_call 45; refine (CallsIn.inRound l (callsIn_wide.2 (HBY2.out _))).mono ?_; rintro e7 w7 ⟨rfl, rfl⟩))
            refine hK.out _ _ (HQ5.out w8 hw') (fun hHeld2 => ?_)
            clear hK K
            try simp only [Act.put, List.getElem_toArray, List.getElem_cons_succ, List.getElem_cons_zero, List.setIfInBounds_toArray, List.set_cons_zero, List.set_cons_succ]
            refine anyL_take (i := 11) (v := ?vq11) (by kernel_rfl) rfl (by kernel_rfl) (by kernel_rfl) (by kernel_rfl) (fun _ _ _ h => h) ⟨Or.inl ⟨by rfl, ?hyq11⟩, fun _ => by rfl⟩ (by assumption) ?_
            case hyq11 =>
              intro w' hSw
              try dsimp only at hSw
              obtain ⟨p0, p1, p2, p3, p4, p5, p6⟩ := hSw
              go_simp
              try with_reducible rfl
            try simp only [Act.put, List.getElem_toArray, List.getElem_cons_succ, List.getElem_cons_zero, List.setIfInBounds_toArray, List.set_cons_zero, List.set_cons_succ]
            refine anyL_done (by kernel_rfl) ?_ _
            exact ⟨⟨hM', ⟨hw'.os, hw'.tape, hw'.output, hw'.size, hw'.block⟩⟩, rfl⟩
    rintro W6 ⟨hM6, hw6⟩
    clear d0 d1 d2 d3 ds dl dc
    have HBZ := Lib.hid hbz
    clear hbz
    obtain ⟨g1, g2, g3, g4, gc, g6, g7, g8, g9, hTX⟩ := HX.out
    obtain ⟨hz3, hlt, hsz2, hs1, hBw, hbr2⟩ := HZS.out
    obtain ⟨hsn1, hfit, hcnt, hmul, hm5, hll⟩ := HNUM.out
    have hb5 := HB5.out
    have hX5 := hb5.size
    have hX6 := hw6.size
    have o7 : ∀ k, (k < B ∨ B + 1 ≤ k) → k < X.heap.size → W6.heap[k]? = X.heap[k]? := fun k h2 h3 => (hw6.block k (by omega) h2).trans (hb5.block k h3)
    have l1' := (Array.getElem?_eq_some_iff.1 g1).1
    have l2 := g2.lt
    have l3 := g3.lt
    have l4 := g4.lt
    have l5 := gc.lt
    have l6 := g6.lt
    have q1 := (o7 _ (.inr (by omega)) l1').trans g1
    have q2 : Boxed W6 (w.heap.size + 1) 3 (.int .i64 made) := (o7 _ (.inr (by omega)) l2).trans g2
    have q3 : Boxed W6 (w.heap.size + 2) 75 (.int .i64 (s : Int)) := (o7 _ (.inr (by omega)) l3).trans g3
    have q4 : Boxed W6 (w.heap.size + 3) 3 (.int .i64 L) := (o7 _ (.inr (by omega)) l4).trans g4
    have q5 : Boxed W6 (w.heap.size + 4) 3 (.int .i64 (v : Int)) := (o7 _ (.inr (by omega)) l5).trans gc
    have q6 : Boxed W6 Br 3 (.int .i64 (row : Int)) := (o7 _ (.inr (by omega)) l6).trans g6
    have gK : KeepsFrom W3.heap.size X W6 := ⟨by omega, fun k o hk ho _ => (o7 k (.inr (by omega)) (Array.getElem?_eq_some_iff.1 ho).1).trans ho⟩
    have gB : Below B X W6 := ⟨hw6.os.trans hb5.os, hw6.tape.trans hb5.tape, hw6.output.trans hb5.output, by omega, fun k hk => o7 k (.inl hk) (by omega)⟩
    have gW : Within B (B + 1) w W6 := ⟨gB.os.trans g8.os, gB.tape.trans g8.tape, gB.output.trans g8.output, by have := g8.size; omega, fun k hk ho => (o7 k ho (by have := g8.size; omega)).trans (g8.block k hk ho)⟩
    have gA := g9
    have HAll := Lib.hid (And.intro q1 (And.intro q2 (And.intro q3 (And.intro q4 (And.intro q5 (And.intro q6 (And.intro gK (And.intro gB (And.intro gW (And.intro gA hM6))))))))))
    clear g1 g2 g3 g4 gc g6 g7 g8 g9 hTX q1 q2 q3 q4 q5 q6 gK gB gW gA hM6 hw6 o7 l1' l2 l3 l4 l5 l6 hb5 hX5 hX6 hz3 hlt hsz2 hs1 hBw hbr2 hsn1 hfit hcnt hmul hm5 hll
    cases bz with
    | true =>
      gi_wp2
      obtain ⟨hsn1, hfit, hcnt, hmul, hm5, hll⟩ := HNUM.out
      obtain ⟨q1, q2, q3, q4, q5, q6, gK, gB, gW, gA, hM6⟩ := HAll.out
      have hyL : y = L := by have := HBZ.out; rw [beq_iff_eq] at this; exact this
      refine ⟨gK, ?_⟩
      show NStop w n F B s m row made L (.exit 0) ((pre ++ [x]).map (fun x => x.1.val)) W6
      rw [hsn1]
      exact ⟨rfl, l1, v, rfl, gA, hfit.2 hyL, q5, hM6.mono hm5, gW⟩
    | false =>
      gi_wp2
      obtain ⟨hsn1, hfit, hcnt, hmul, hm5, hll⟩ := HNUM.out
      obtain ⟨q1, q2, q3, q4, q5, q6, gK, gB, gW, gA, hM6⟩ := HAll.out
      have hyL : ¬ y = L := by have := HBZ.out; rw [beq_eq_false_iff_ne] at this; exact this
      refine ⟨gK, gB, ?_⟩
      show NJ w n F B s m e row made L Br ((pre ++ [x]).map (fun x => x.1.val)) W6
      rw [hsn1]
      refine ⟨q1, q2, q3, q4, ⟨_, q5⟩, q6, hM6.mono ?_, gW, fun u hu => ?_⟩
      · rw [List.length_append, List.length_singleton, Nat.add_mul, hcnt]
        omega
      · rcases List.mem_append.1 hu with hu | hu
        · exact gA u hu
        · rw [List.mem_singleton.1 hu]
          exact fun h => hyL (hfit.1 h)
  case done =>
    rintro Dd ys X hDd hys ⟨g1, g2, g3, g4, g5, g6, g7, g8, g9⟩ hKD
    exfalso
    have e1 : ys.map (fun x => x.1.val) = elems s := by unfold elems; rw [← hys, List.map_map]; rfl
    rw [e1] at g9
    obtain ⟨v, hv, he⟩ := HEX.out
    exact g9 v hv he
  case stop =>
    rintro Dd c pre X hDd hpre ⟨rfl, l1, v, hl, hno, hyes, hcol, hM7, hW7⟩ hKD
    have hpf : l1 ++ [v] <+: elems s := by
      rw [← hl]
      obtain ⟨tl, htl⟩ := hpre
      refine ⟨tl.map Fin.val, ?_⟩
      unfold elems
      rw [← htl, List.map_append, List.map_map]; rfl
    obtain ⟨hm, hsn, hd, hrow, hmade⟩ := HNUM0.out
    have hgs : ∀ u, u ∈ elems s → gS n F (wo8 s u) = lst (· + ·) 0 F e (row + 1) (wo8 s u) := fun u hu => by
      obtain ⟨hu8, hub⟩ := mem_elems.1 hu
      have h1 : (bitsOf (wo8 s u)).length = e := by have := wo8_len (show s < 256 by omega) hu8 hub; omega
      have h2 : n - e = row + 1 := by omega
      unfold gS
      rw [h1, h2]
    have hnx : nxt (· + ·) 0 F e row s made L = v := by
      have hf : (elems s).find? (fun u => made + F (6 * row + u) + lst (· + ·) 0 F e (row + 1) (wo8 s u) == L) = some v := find_prefix hpf
        (fun u hu => by
          rw [beq_eq_false_iff_ne]
          intro h
          refine hno u hu ?_
          unfold fitsS
          rw [hgs u (hpf.subset (by simp [hu]))]
          exact h)
        (by
          rw [beq_iff_eq, ← hgs v (hpf.subset (by simp))]
          exact hyes)
      unfold nxt
      show ((elems s).find? (fun u => made + F (6 * row + u) + lst (· + ·) 0 F e (row + 1) (wo8 s u) == L)).getD ((elems s).getLastD 0) = v
      rw [hf]
      rfl
    have HNX := Lib.hid hnx
    have hcc := hcol.cell
    have hcf := hcol.frozen
    have HS := Lib.hid (And.intro hcol (And.intro hM7 (And.intro hW7 hKD)))
    clear hcol hM7 hW7 hKD hl hno hyes hpf hgs hnx hm hsn hd hrow hmade hpre
    gi_wp2
    obtain ⟨hcol, hM7, hW7, hKD⟩ := HS.out
    rw [HNX.out]
    have hgs := grown_setCell X (w.heap.size + 4) 0 (.int .i64 (v : Int))
    have o6 : ∀ k, k ≠ w.heap.size + 4 → (X.setCell ⟨w.heap.size + 4, 0, none⟩ (.int .i64 (v : Int))).heap[k]? = X.heap[k]? := fun k hk => Below.heap_setCell _ _ _ k hk
    refine next_leave w B (m + cntI s) (gS n F) v _ ?_ Dd _ hBw (by omega) ((o6 _ (by omega)).trans hKD) (hcol.set _) (hM7.kept hgs (by simp; omega))
      ⟨hW7.os, hW7.tape, hW7.output, Nat.le_trans hW7.size hgs.size, fun k hk ho => (o6 k (by omega)).trans (hW7.block k hk ho)⟩
    rfl

end Go.Proofs.YtellghhilcjbnaaDoor

/-
  A choice made column by column: what stands behind each column.
-/
namespace Go.Proofs.YtellghhilcjbnaaDoor
set_option linter.unusedVariables false
set_option linter.unusedSimpArgs false
open Go.RowKit

section
variable {good : Int → Prop} {op : Int → Int → Int} {e : Int} (M : Meas good op e) (F : Nat → Int) (hF : ∀ k, good (F k)) (hb : ∀ (p : List Nat) (row : Nat), p.length ≤ 8 → meas op e F row p ≤ maxI)
include M hF hb
/-- With what was made, no choice of the columns that are left has less than L, and one has L. -/
def Reach (op : Int → Int → Int) (e : Int) (F : Nat → Int) (L : Int) (d row left : Nat) (made : Int) : Prop :=
  (∀ p ∈ chs d left, L ≤ op made (meas op e F row p)) ∧ ∃ p ∈ chs d left, op made (meas op e F row p) = L
omit hF in
theorem reach_step (d row left : Nat) (made L : Int) (hm : left < 256) (hl : (bitsOf left).length = d + 1) (hr : Reach op e F L (d + 1) row left made) :
    ∃ v ∈ elems left, nxt op e F d row left made L = v ∧ op (op made (F (6 * row + v))) (lst op e F d (row + 1) (wo8 left v)) = L ∧ Reach op e F L d (row + 1) (wo8 left v) (op made (F (6 * row + v))) := by
  obtain ⟨hall, p, hp, hpe⟩ := hr
  have sub : ∀ v ∈ elems left, wo8 left v < 256 ∧ (bitsOf (wo8 left v)).length = d := fun v hv => by
    obtain ⟨h8, hbt⟩ := mem_elems.1 hv
    exact ⟨wo8_lt hm, by have := wo8_len hm h8 hbt; omega⟩
  have split : ∀ v q, op made (meas op e F row (v :: q)) = op (op made (F (6 * row + v))) (meas op e F (row + 1) q) := fun v q => by
    show op made (op (meas op e F (row + 1) q) (F (6 * row + v))) = _
    rw [M.comm (meas op e F (row + 1) q), M.assoc]
  have mem : ∀ v ∈ elems left, ∀ q ∈ chs d (wo8 left v), (v :: q) ∈ chs (d + 1) left := fun v hv q hq => by
    unfold chs
    rw [List.mem_flatMap]
    exact ⟨v, hv, List.mem_map.2 ⟨q, hq, rfl⟩⟩
  have low : ∀ v ∈ elems left, ∀ q ∈ chs d (wo8 left v), L ≤ op (op made (F (6 * row + v))) (meas op e F (row + 1) q) := fun v hv q hq => by
    rw [← split]; exact hall _ (mem v hv q hq)
  unfold chs at hp
  rw [List.mem_flatMap] at hp
  obtain ⟨v0, hv0, hp⟩ := hp
  obtain ⟨q0, hq0, rfl⟩ := List.mem_map.1 hp
  rw [split] at hpe
  have fit0 : op (op made (F (6 * row + v0))) (lst op e F d (row + 1) (wo8 left v0)) = L := by
    obtain ⟨h1, q, hq, h2⟩ := lst_least M F hb d (row + 1) (wo8 left v0) (sub v0 hv0).1 (sub v0 hv0).2
    have a1 := low v0 hv0 q hq
    rw [← h2] at a1
    have a2 := M.mono _ _ (op made (F (6 * row + v0))) (h1 q0 hq0)
    rw [hpe] at a2
    omega
  cases hfc : (elems left).find? fun v => op (op made (F (6 * row + v))) (lst op e F d (row + 1) (wo8 left v)) == L with
  | none =>
    exfalso
    rw [List.find?_eq_none] at hfc
    exact hfc v0 hv0 (by rw [beq_iff_eq]; exact fit0)
  | some v =>
    have hv := List.mem_of_find?_eq_some hfc
    have hve := List.find?_some hfc
    rw [beq_iff_eq] at hve
    refine ⟨v, hv, by unfold nxt; rw [hfc]; rfl, hve, low v hv, ?_⟩
    obtain ⟨h1, q, hq, h2⟩ := lst_least M F hb d (row + 1) (wo8 left v) (sub v hv).1 (sub v hv).2
    exact ⟨q, hq, by rw [← h2]; exact hve⟩
/-- At the start. -/
theorem reach_start (n left : Nat) (hm : left < 256) (hl : (bitsOf left).length = n) : Reach op e F (lst op e F n 0 left) n 0 left e := by
  obtain ⟨h1, q, hq, h2⟩ := lst_least M F hb n 0 left hm hl
  have hone : ∀ p, op e (meas op e F 0 p) = meas op e F 0 p := fun p => by rw [M.comm, M.unit _ (meas_good M F hF p 0)]
  exact ⟨fun p hp => by rw [hone]; exact h1 p hp, q, hq, by rw [hone]; exact h2.symm⟩
end

end Go.Proofs.YtellghhilcjbnaaDoor

/-
  (impl.chooser).first: the first choice of the least measure.
-/
namespace Go.Proofs.YtellghhilcjbnaaDoor
set_option linter.unusedVariables false
set_option linter.unusedSimpArgs false
open Go.RowKit Go.Shelf

theorem sum_max {F : Nat → Int} (hF : ∀ k, -1000 ≤ F k ∧ F k ≤ 1000) (p : List Nat) (row : Nat) (hp : p.length ≤ 8) : meas (· + ·) 0 F row p ≤ maxI := by
  have := sum_bound hF p row
  unfold maxI
  omega
theorem full_len_all : ∀ n : Fin 7, (bitsOf (2 ^ n.val - 1)).length = n.val := by decide +kernel
theorem full_len (n : Nat) (h : n ≤ 6) : (bitsOf (2 ^ n - 1)).length = n := full_len_all ⟨n, by omega⟩

set_option maxRecDepth 100000 in
set_option maxHeartbeats 2000000 in
theorem first_any (n : Nat) (h1 : 1 ≤ n) (h6 : n ≤ 6) (F : Nat → Int) (hF : ∀ k, -1000 ≤ F k ∧ F k ≤ 1000) (w : World) (B : Nat) (hM : MemoI w B (gS n F) 0) (hT : Tab w) (hgB : 1 < B) :
    Calls Tryd.prog 31 #[.agg (lcells n F 0 45 B)] w fun e w' => ∃ u, e = .returned (.tuple #[u, .int .i64 (lst (· + ·) 0 F n 0 (2 ^ n - 1))]) ∧ Within B (B + 1) w w' ∧
      Owns w' w.heap.size u ((greedy (· + ·) 0 F (lst (· + ·) 0 F n 0 (2 ^ n - 1)) n 0 (2 ^ n - 1) 0).map Int.ofNat) := by
  obtain ⟨full, hfull⟩ : ∃ full, 2 ^ n - 1 = full := ⟨_, rfl⟩
  have hlen : (bitsOf full).length = n := by rw [← hfull]; exact full_len n h6
  have hf64 : full < 64 := by
    have : 2 ^ n ≤ 2 ^ 6 := Nat.pow_le_pow_right (by decide) h6
    omega
  obtain ⟨L, hL⟩ : ∃ L, lst (· + ·) 0 F n 0 full = L := ⟨_, rfl⟩
  have hgL : gS n F full = L := by unfold gS; rw [hlen, Nat.sub_self, hL]
  have hcnt : cntI full = 10 ^ n := by unfold cntI; rw [hlen]
  have h10 : 10 ^ n ≤ 1000000 := Nat.le_trans (Nat.pow_le_pow_right (by decide) h6) (by decide)
  have hBw := hM.lt
  rw [hfull, hL]
  obtain ⟨W1, hW1⟩ : ∃ W1, w.alloc (.cells #[.iface 49 (.agg (tcells n F)), .int .i64 0, .func (.func 45) #[] #[], .map (some B)] 61) = W1 := ⟨_, rfl⟩
  have hb1 : Below w.heap.size w W1 := by rw [← hW1]; exact (Below.refl _ _).alloc (Nat.le_refl _) _
  have hs1 : W1.heap.size = w.heap.size + 1 := by rw [← hW1]; simp
  have k0 : W1.heap[w.heap.size]? = some (.cells #[.iface 49 (.agg (tcells n F)), .int .i64 0, .func (.func 45) #[] #[], .map (some B)] 61 (0, 0)) := by rw [← hW1]; exact World.alloc_heap_new _ _
  have HK3 := Lib.hid (fun (w3 : World) (h : Below W1.heap.size W1 w3) => show w3.heap[w.heap.size]? = some (.cells #[.iface 49 (.agg (tcells n F)), .int .i64 0, .func (.func 45) #[] #[], .map (some B)] 61 (0, 0)) ∧ MemoI w3 B (gS n F) 0 ∧ Tab w3 from
    ⟨(h.block _ (by omega)).trans k0, (hM.below hb1).below h, (hT.later hb1).later h⟩)
  have HLE := Lib.hid (fun (w3 : World) (h : Below W1.heap.size W1 w3) => show Calls Tryd.prog 41 #[.agg (lcells n F 0 45 B), .int .i64 (full : Int)] w3 fun e w4 => e = .returned (.int .i64 L) ∧ MemoI w4 B (gS n F) (10 ^ n) ∧ Within B (B + 1) w3 w4 ∧ w4.heap[w.heap.size]? = some (.cells #[.iface 49 (.agg (tcells n F)), .int .i64 0, .func (.func 45) #[] #[], .map (some B)] 61 (0, 0)) from
    (least_any n h6 F hF B hgB full hf64 w3 0 (by omega) (HK3.out w3 h).2.1 (HK3.out w3 h).2.2 (by omega)).mono fun e w4 hp =>
      ⟨by rw [← hgL]; exact hp.1, by have := hp.2.1; rwa [Nat.zero_add, hcnt] at this, hp.2.2, (hp.2.2.block _ (Array.getElem?_eq_some_iff.1 (HK3.out w3 h).1).1 (.inr (by omega))).trans (HK3.out w3 h).1⟩)
  obtain ⟨c0, c1, c2, c3⟩ := four_of k0
  have hme := fun W => meth_rows 229 n F W
  have hme2 := fun W => meth_rows 348 n F W
  simp only [Nat.reduceAdd] at hme hme2
  have HRA := Lib.hid (fun W => rows_any W n F)
  have HNB := Lib.hid (fun W => show Calls Tryd.prog 46 #[.int .i64 (n : Int)] W fun e w' => e = .returned (.int .i64 (full : Int)) ∧ W = w' by rw [← hfull]; exact nodesBelow_any n (by omega) W)
  have HZ := Lib.hid (And.intro hb1 (And.intro hs1 (And.intro k0 (And.intro hBw (And.intro hM (And.intro hT (And.intro hF (And.intro hlen (And.intro hgL (And.intro hcnt (And.intro h10 (And.intro hfull hL))))))))))))
  unfold lcells at HLE ⊢
  clear hb1 hs1 k0 hBw hM hT hF hlen hgL hcnt h10 hfull hL
  go_enter Tryd.func31, Tryd.ntmps31
  go_wp2_with (first
    | (go_at_call 91; refine (HRA.out _).mono ?_; rintro e w3 ⟨rfl, hb3⟩; obtain ⟨d0, d1, d2, d3⟩ := four_of (HK3.out w3 hb3).1)
    | (go_at_call 46; refine (HNB.out _).mono ?_; rintro e w' ⟨rfl, rfl⟩)
    | (go_at_call 41; refine (HLE.out w3 hb3).mono ?_; rintro e w4 ⟨rfl, hM4, hw4, hk4⟩; obtain ⟨f0, f1, f2, f3⟩ := four_of hk4; have f5 : (w4.alloc (.cells #[] 3)).cell? ⟨w.heap.size, 1, none⟩ = some (.int .i64 0) := (World.cell?_of_block (a := ⟨w.heap.size, 1, none⟩) (Below.heap_alloc _ _ _ (Array.getElem?_eq_some_iff.1 hk4).1)).trans f1))
  obtain ⟨i0, hi, hz0, hz1, hz2⟩ := info_parts infoInt
  have hI4 := (HK3.out w3 hb3).2.2
  obtain ⟨hb1, hs1, k0, hBw, hM, hT, hF, hlen, hgL, hcnt, h10, hfull, hL⟩ := HZ.out
  have hstart : ∃ (d left M : Nat) (ps : List Nat) (made : Int) (g cap : Nat), left < 64 ∧ (bitsOf left).length = d ∧ ps.length + d = n ∧ Value.int .i64 (full : Int) = .int .i64 (left : Int) ∧ Value.int .i64 0 = .int .i64 made ∧ Value.slice (some ⟨w4.heap.size, 0, none⟩) 0 0 = .slice (some ⟨g, 0, none⟩) ps.length cap ∧
      (-1000 * (ps.length : Int) ≤ made ∧ made ≤ 1000 * (ps.length : Int)) ∧ Reach (· + ·) 0 F L d ps.length left made ∧ ps ++ greedy (· + ·) 0 F L d ps.length left made = greedy (· + ·) 0 F L n 0 full 0 ∧ MemoI (w4.alloc (.cells #[] 3)) B (gS n F) M ∧ M ≤ 1000000 * (ps.length + 1) ∧
      (w4.alloc (.cells #[] 3)).heap[w.heap.size]? = some (.cells #[.iface 49 (.agg (tcells n F)), .int .i64 0, .func (.func 45) #[] #[], .map (some B)] 61 (0, 0)) ∧ Within B (B + 1) w (w4.alloc (.cells #[] 3)) ∧ (w4.alloc (.cells #[] 3)).ownsRow (w.heap.size + 1) 3 1 (.slice (some ⟨w4.heap.size, 0, none⟩) 0 0) ps.length (vals (ps.map Int.ofNat)) := by
    have hb03 := step_below hb1 hb3
    have hsz3 := hb3.size
    have hsz4 := hw4.size
    have hba : Below w4.heap.size w4 (w4.alloc (.cells #[] 3)) := (Below.refl _ _).alloc (Nat.le_refl _) _
    refine ⟨n, full, 10 ^ n, [], 0, w4.heap.size, 0, hf64, hlen, by simp, rfl, rfl, rfl, by simp, ?_, rfl, hM4.below hba, by simp; omega, (hba.block _ (Array.getElem?_eq_some_iff.1 hk4).1).trans hk4, ?_, ?_⟩
    · rw [← hL]
      exact reach_start addMeas F (fun _ => trivial) (sum_max hF) n full (by omega) hlen
    · exact ⟨hba.os.trans (hw4.os.trans hb03.os), hba.tape.trans (hw4.tape.trans hb03.tape), hba.output.trans (hw4.output.trans hb03.output), by have := hba.size; have := hb03.size; omega,
        fun k hk ho => (hba.block _ (by have := hb03.size; omega)).trans ((hw4.block _ (by have := hb03.size; omega) ho).trans (hb03.block _ hk))⟩
    · exact World.ownsRow_made (base := w.heap.size + 1) (e := 3) (size := 1) w4 #[] 0 (by omega) (Nat.zero_le _) rfl
  have HST := Lib.hid hstart
  clear hstart hb1 hs1 k0 hBw hM hT hF hlen hgL hcnt h10 hfull hL hI4 c0 c1 c2 c3 d0 d1 d2 d3 f0 f1 f2 f3 f5 hM4 hw4 hk4 hme hme2
  go_loopw [4, 6, 7] (fun lv cv mv wr => ∃ (d left M : Nat) (ps : List Nat) (made : Int) (g cap : Nat), left < 64 ∧ (bitsOf left).length = d ∧ ps.length + d = n ∧ lv = .int .i64 (left : Int) ∧ mv = .int .i64 made ∧ cv = .slice (some ⟨g, 0, none⟩) ps.length cap ∧
      (-1000 * (ps.length : Int) ≤ made ∧ made ≤ 1000 * (ps.length : Int)) ∧ Reach (· + ·) 0 F L d ps.length left made ∧ ps ++ greedy (· + ·) 0 F L d ps.length left made = greedy (· + ·) 0 F L n 0 full 0 ∧ MemoI wr B (gS n F) M ∧ M ≤ 1000000 * (ps.length + 1) ∧
      wr.heap[w.heap.size]? = some (.cells #[.iface 49 (.agg (tcells n F)), .int .i64 0, .func (.func 45) #[] #[], .map (some B)] 61 (0, 0)) ∧ Within B (B + 1) w wr ∧ wr.ownsRow (w.heap.size + 1) 3 1 cv ps.length (vals (ps.map Int.ofNat))) (fun lv _ _ _ => (intOf lv).toNat)
  case atStart => exact HST.out
  case round =>
    obtain ⟨d, left, M, ps, made, g, cap, hl64, hdl, hpn, rfl, rfl, rfl, hmb, hrch, hgr, hMM, hMb, hkw, hww, ho⟩ := hrel
    cases d with
    | zero =>
      obtain rfl : left = 0 := len_zero (by omega) hdl
      have hps : ps = greedy (· + ·) 0 F L n 0 full 0 := by rw [← hgr]; simp [greedy]
      obtain ⟨-, -, -, -, -, -, -, -, -, -, -, hfull, hL⟩ := HZ.out
      have HR := Lib.hid (And.intro hps (And.intro hww ho))
      clear hps hww ho hgr hrch hMM hMb hkw hmb hpn hdl hfull hL
      go_wp2
      go_ret2
      obtain ⟨hps, hww, ho⟩ := HR.out
      refine ⟨_, rfl, hww, ?_⟩
      rw [← hps]
      have := owns_mono ho (Nat.le_succ _)
      unfold Owns
      rw [List.length_map]
      exact this
    | succ e =>
      obtain ⟨hb1, hs1, k0, hBw, hM, hT, hF, hlen, hgL, hcnt, h10, hfull, hL⟩ := HZ.out
      obtain ⟨row, hrow⟩ : ∃ row, ps.length = row := ⟨_, rfl⟩
      rw [hrow] at hpn hmb hrch hgr hMb ho ⊢
      obtain ⟨v, hv, hnx, hfit, hrch'⟩ := reach_step addMeas F (sum_max hF) e row left made L (by omega) hdl hrch
      obtain ⟨hv8, hvb⟩ := mem_elems.1 hv
      have hv6 : v < 6 := bits_six' ⟨v, hv8⟩ ⟨left, hl64⟩ hvb
      have hgr' : greedy (· + ·) 0 F L (e + 1) row left made = v :: greedy (· + ·) 0 F L e (row + 1) (wo8 left v) (made + F (6 * row + v)) := by
        show nxt (· + ·) 0 F e row left made L :: _ = _
        rw [hnx]
      have hwl : (bitsOf (wo8 left v)).length = e := by have := wo8_len (show left < 256 by omega) hv8 hvb; omega
      have hwlt := wo8_less (show left < 256 by omega) hv8 hvb
      have hex : ∃ v ∈ elems left, made + F (6 * row + v) + gS n F (wo8 left v) = L := by
        refine ⟨v, hv, ?_⟩
        have : n - e = row + 1 := by omega
        unfold gS
        rw [hwl, this]
        exact hfit
      have hcl : cntI left ≤ 1000000 := by
        unfold cntI
        rw [hdl]
        exact Nat.le_trans (Nat.pow_le_pow_right (by decide) (show e + 1 ≤ 6 by omega)) (by decide)
      have hl0 : ((left : Int) == 0) = false := by
        rw [beq_eq_false_iff_ne]
        intro h
        have : left = 0 := by omega
        rw [this, bitsOf_zero] at hdl
        simp at hdl
      have hTr := hT.withinI hww hgB
      have hcall := next_any n h6 F hF wr B M left made L hMM hTr hgB (by omega) (by omega) hl64 e row hdl (by omega) (by omega) hex
      rw [hnx] at hcall
      obtain ⟨f, hf⟩ : ∃ f, F (6 * row + v) = f := ⟨_, rfl⟩
      obtain ⟨t, ht⟩ : ∃ t, wo8 left v = t := ⟨_, rfl⟩
      have hfb := hF (6 * row + v)
      rw [hf] at hfb hgr' hrch'
      rw [ht] at hgr' hrch' hwl hwlt
      have hwo : ∀ W, Calls Tryd.prog 49 #[.int .i64 (left : Int), .int .i64 (v : Int)] W fun e w' => e = .returned (.int .i64 (t : Int)) ∧ W = w' := fun W => by
        rw [← ht]; exact without_any left v (by omega) hv8 W
      obtain ⟨y, hy⟩ : ∃ y, made + f = y := ⟨_, rfl⟩
      have HCA := Lib.hid (fun W => costAt_any W n F row v (by omega) hv6 f hf)
      have HBY := Lib.hid (fun W => measSum_any made f y hy (by omega) W)
      have HWO := Lib.hid hwo
      have hlw := (Array.getElem?_eq_some_iff.1 hkw).1
      have HNX := Lib.hid (hcall.mono fun e5 w5 hp => show e5 = .returned (.int .i64 (v : Int)) ∧ MemoI w5 B (gS n F) (M + cntI left) ∧ Within B (B + 1) wr w5 ∧ w5.heap[w.heap.size]? = some (.cells #[.iface 49 (.agg (tcells n F)), .int .i64 0, .func (.func 45) #[] #[], .map (some B)] 61 (0, 0)) from
        ⟨hp.1, hp.2.1, hp.2.2, (hp.2.2.block _ hlw (.inr (by omega))).trans hkw⟩)
      have HKEY := Lib.hid (fun (w5 : World) (hk5 : w5.heap[w.heap.size]? = some (.cells #[.iface 49 (.agg (tcells n F)), .int .i64 0, .func (.func 45) #[] #[], .map (some B)] 61 (0, 0))) (w6 : World) (h : Below w5.drew.heap.size w5.drew w6) => show w6.cell? ⟨w.heap.size, 0, none⟩ = some (.iface 49 (.agg (tcells n F))) ∧ w6.cell? ⟨w.heap.size, 2, none⟩ = some (.func (.func 45) #[] #[]) from by
        have hk6 := (h.block _ (Array.getElem?_eq_some_iff.1 hk5).1).trans hk5
        exact ⟨(four_of hk6).1, (four_of hk6).2.2.1⟩)
      have HALL := Lib.hid (And.intro hl64 (And.intro hpn (And.intro hrow (And.intro hmb (And.intro hfb (And.intro hy (And.intro hgr (And.intro hgr' (And.intro hrch' (And.intro hwl (And.intro hwlt (And.intro hcl (And.intro hMb (And.intro hww (And.intro ho (And.intro hBw hs1))))))))))))))))
      obtain ⟨c0, c1, c2, c3⟩ := four_of hkw
      clear hl64 hpn hrow hmb hfb hy hgr hgr' hrch' hwl hwlt hcl hMb hww ho hBw hs1 hcall hwo hf ht hTr hex hfit hnx hv hv8 hvb hv6 hb1 k0 hM hT hF hlen hgL hcnt h10 hfull hL hrch hdl hMM hlw hkw
      unfold lcells at HNX
      go_wp2_with (go_at_call 47; refine HNX.out.mono ?_; rintro e5 w5 ⟨rfl, hM5, hw5, hk5⟩)
      obtain ⟨d0, d1, d2, d3⟩ := four_of (W := w5.drew) hk5
      clear c0 c1 c2 c3
      apply once_zero (fun (W : World) => Below w5.heap.size w5 W)
      case h1 =>
        first
          | go_region_held3 (fun w' => w'.cell? ⟨w.heap.size, 0, none⟩ = some (.iface 49 (.agg (tcells n F))) ∧ w'.cell? ⟨w.heap.size, 2, none⟩ = some (.func (.func 45) #[] #[]))
              (first | exact ⟨d0, d2⟩ | exact HKEY.out w5 hk5 w6 hb6)
              (first | (go_at_call 48; refine (HCA.out _).mono ?_; rintro e6 w6 ⟨rfl, hb6⟩) | (go_at_call 45; refine (HBY.out _).mono ?_; rintro e7 w7 ⟨rfl, rfl⟩))
          | fail "region 7"
        all_goals exact ⟨undrewL hb6, rfl⟩
      rintro W6 hb6
      obtain ⟨hl64, hpn, hrow, hmb, hfb, hy, hgr, hgr', hrch', hwl, hwlt, hcl, hMb, hww, ho, hBw, hs1⟩ := HALL.out
      have hor := ((OwnsAt.of ho).kept hw5 (.inr (by omega))).1
      have ho6 := owns_below hor hb6
      have hsw := hww.size
      have hs5 := hw5.size
      have hs6 := hb6.size
      have hk6 := (hb6.block _ (Array.getElem?_eq_some_iff.1 hk5).1).trans hk5
      have hM6 := hM5.below hb6
      have hlw6 := (Array.getElem?_eq_some_iff.1 hk6).1
      have hmax : row + 1 < maxLen := by unfold maxLen; omega
      have hr6 : row < 6 := by omega
      have HALL2 := Lib.hid (And.intro ho6 (And.intro hsw (And.intro hs5 (And.intro hs6 (And.intro hk6 (And.intro hM6 (And.intro hb6 hw5)))))))
      have hq1 : row + 1 < maxLen := hmax
      clear hl64 hpn hmb hfb hy hgr hgr' hrch' hwl hwlt hcl hMb hww ho hBw hs1 hor hk6 hM6 hb6 hw5 hM5 hk5 d0 d1 d2 d3 hmax hrow
      go_wp2_with (first
        | (go_at_call 49; refine (HWO.out _).mono ?_; rintro e' w' ⟨rfl, rfl⟩)
        | (refine wpList_append_lies _ rfl (.tmp 38) (.tmp 40) 52 rfl (w.heap.size + 1) 3 i0 (.int .i64 0) 1 8 Tryd.underlying52 hi hz0 hz1 hz2 rfl (by decide) _ _ _ rfl (ho6.alloc _) ⟨W6.heap.size, 0, none⟩ 1 1 [.int .i64 (v : Int)] rfl rfl (cell_one_new _ _ _) (by simp [Value.oneCell']) (by decide) (by unfold maxLen; omega) (by omega) (by simp; omega) _ rfl ?_; intro g2 cap2 w7 hown hgrow _ _))
      go_wp2
      go_roundw
      case rel =>
        obtain ⟨hl64, hpn, hrow, hmb, hfb, hy, hgr, hgr', hrch', hwl, hwlt, hcl, hMb, hww, ho, hBw, hs1⟩ := HALL.out
        obtain ⟨ho6, hsw, hs5, hs6, hk6, hM6, hb6, hw5⟩ := HALL2.out
        have hpl : (ps ++ [v]).length = row + 1 := by rw [List.length_append, hrow]; rfl
        have hba : Below W6.heap.size W6 (W6.alloc (.cells #[.int .i64 (v : Int)] 3)) := (Below.refl _ _).alloc (Nat.le_refl _) _
        have hnb : ∀ k, k ≤ w.heap.size → some k ≠ (Value.slice (some ⟨g, 0, none⟩) row cap).ownBlock := fun k hk e => by
          have := (ho.lt k e.symm).1
          omega
        have hlw6 := (Array.getElem?_eq_some_iff.1 hk6).1
        have hblk : ∀ k, k ≤ w.heap.size → w7.heap[k]? = W6.heap[k]? := fun k hk => (hgrow.block k (by simp; omega) (hnb k hk)).trans (hba.block k (by omega))
        refine ⟨e, t, M + cntI left, ps ++ [v], y, g2, cap2, by omega, hwl, by rw [hpl]; omega, rfl, rfl, by rw [hpl], by rw [hpl]; push_cast; omega, ?_, ?_, (hM6.below hba).kept hgrow (hnb B (by omega)), by rw [hpl]; omega, (hblk _ (Nat.le_refl _)).trans hk6, ?_, ?_⟩
        · rw [hpl, ← hy]; exact hrch'
        · rw [hpl, ← hgr, hgr', List.append_assoc, ← hy]; rfl
        · exact ⟨hgrow.os.trans (hba.os.trans (hb6.os.trans (hw5.os.trans hww.os))), hgrow.tape.trans (hba.tape.trans (hb6.tape.trans (hw5.tape.trans hww.tape))), hgrow.output.trans (hba.output.trans (hb6.output.trans (hw5.output.trans hww.output))),
            by have := hgrow.size; have := hba.size; omega, fun k hk hor => (hblk k (by omega)).trans ((hb6.block k (by omega)).trans ((hw5.block k (by omega) hor).trans (hww.block k hk hor)))⟩
        · rw [hpl]
          simpa [vals, List.map_append] using hown
      case measure =>
        obtain ⟨hl64, hpn, hrow, hmb, hfb, hy, hgr, hgr', hrch', hwl, hwlt, hcl, hMb, hww, ho, hBw, hs1⟩ := HALL.out
        simp [intOf]; omega

end Go.Proofs.YtellghhilcjbnaaDoor

