/-
  (impl.chooser).least: the least measure of the rows that are left; what was found is kept in a map.
-/
import Derived.Test.YtellghhilcjbnaaDoorChs
import Derived.Test.YtellghhilcjbnaaDoorHalves
import Derived.Test.YtellghhilcjbnaaDoorOnH
namespace Go.Proofs.YtellghhilcjbnaaDoor.Hf
set_option linter.unusedVariables false
set_option linter.unusedSimpArgs false
open Go.RowKit Go.Shelf
open Go.Maps (Keyed)
attribute [local go_sem] Oper.semAt_some

/-- The cells of a chooser for half costs. -/
def hcs (n : Nat) (G : Nat → Nat) (B : Nat) : Array Value := #[.iface 82 (.agg (gcells n G)), .int .i64 0, .func (.func 45) #[] #[], .map (some B)]
/-- The least cost of a set of columns, for the last rows. -/
def gH (n : Nat) (G : Nat → Nat) (s : Nat) : Int := hlst (eF (eG n G)) (bitsOf s).length (n - (bitsOf s).length) s
theorem gH_zero (n : Nat) (G : Nat → Nat) : gH n G 0 = 0 := by unfold gH; rw [bitsOf_zero]; rfl
theorem hlst_bound (e : Nat → Nat → Bool) : ∀ (d row s : Nat), s < 256 → (bitsOf s).length = d → -(d : Int) ≤ hlst (eF e) d row s ∧ hlst (eF e) d row s ≤ 0
  | 0, _, _, _, _ => ⟨Int.le_refl _, Int.le_refl _⟩
  | d + 1, row, s, hs, hl => by
    obtain ⟨h1, h2, h3⟩ := foldl_lst (· + ·) (eF e row) (fun v => hlst (eF e) d (row + 1) (wo8 s v)) (elems s) maxI
    show -((d + 1 : Nat) : Int) ≤ (elems s).foldl (lstStep (· + ·) (eF e row) (fun v => hlst (eF e) d (row + 1) (wo8 s v))) maxI ∧ (elems s).foldl (lstStep (· + ·) (eF e row) (fun v => hlst (eF e) d (row + 1) (wo8 s v))) maxI ≤ 0
    obtain ⟨H, hH⟩ : ∃ H, (elems s).foldl (lstStep (· + ·) (eF e row) (fun v => hlst (eF e) d (row + 1) (wo8 s v))) maxI = H := ⟨_, rfl⟩
    rw [hH] at h1 h2 h3 ⊢
    have hb : ∀ v ∈ elems s, (-(d : Int) ≤ hlst (eF e) d (row + 1) (wo8 s v) ∧ hlst (eF e) d (row + 1) (wo8 s v) ≤ 0) ∧ -1 ≤ eF e row v ∧ eF e row v ≤ 0 := fun v hv => by
      obtain ⟨hv8, hvb⟩ := mem_elems.1 hv
      refine ⟨hlst_bound e d (row + 1) _ (wo8_lt hs) (by have := wo8_len hs hv8 hvb; omega), ?_⟩
      unfold eF
      split <;> omega
    obtain ⟨v, hv⟩ : ∃ v, v ∈ elems s := List.exists_mem_of_length_pos (by rw [elems_len]; omega)
    have h4 := h1 v hv
    have h5 := hb v hv
    refine ⟨?_, by omega⟩
    rcases h3 with h3 | ⟨u, hu, h3⟩
    · unfold maxI at h3; omega
    · have := hb u hu
      omega
theorem gH_bound {n : Nat} {G : Nat → Nat} {s : Nat} (hs : s < 256) : -8000 ≤ gH n G s ∧ gH n G s ≤ 8000 := by
  have hlen := bitsOf_len8' s
  have := hlst_bound (eG n G) (bitsOf s).length (n - (bitsOf s).length) s hs rfl
  unfold gH
  omega
theorem row_factsH {n d row : Nat} (h6 : n ≤ 8) (hd : d ≤ n) (h : n - d = row) : wrap64 ((n : Int) - (d : Int)) = (row : Int) ∧ IntKind.i64.wrap ((n : Int) - (d : Int)) = (row : Int) ∧ (n : Int) - (d : Int) = (row : Int) ∧ wrap64 (row : Int) = (row : Int) ∧ IntKind.i64.wrap (row : Int) = (row : Int) := by
  have h3 : (n : Int) - (d : Int) = (row : Int) := by omega
  have h4 : wrap64 (row : Int) = (row : Int) := by unfold wrap64; omega
  have h5 : IntKind.i64.wrap (row : Int) = (row : Int) := by rw [IntKind.wrap_i64]; omega
  exact ⟨by rw [h3]; exact h4, by rw [h3]; exact h5, h3, h4, h5⟩

set_option maxRecDepth 100000 in
set_option maxHeartbeats 1000000 in
theorem least_zero (n : Nat) (G : Nat → Nat) (w : World) (B m : Nat) (hM : MemoI w B (gH n G) m) :
    Calls Tryd.prog 41 #[.agg (hcs n G B), .int .i64 0] w (LPost w B (gH n G) 0 m) := by
  have hz := gH_zero n G
  have HM := Lib.hid hM
  have HZ := Lib.hid hz
  clear hM hz
  unfold hcs
  go_enter Tryd.func41, Tryd.ntmps41
  go_wp2
  go_ret
  have hb1 : Below w.heap.size w ((w.alloc (.cells (hcs n G B) 61)).alloc (.cells #[.int .i64 0] 75)) := ((Below.refl _ _).alloc (Nat.le_refl _) _).alloc (by simp) _
  exact ⟨by rw [HZ.out]; rfl, HM.out.below hb1, ⟨hb1.os, hb1.tape, hb1.output, hb1.size, fun k hk _ => hb1.block k hk⟩⟩

set_option maxRecDepth 100000 in
set_option maxHeartbeats 2000000 in
theorem least_hit (n : Nat) (G : Nat → Nat) (w : World) (B m s : Nat) (D : DataW Unit) (hM : MemoI w B (gH n G) m) (ho : w.ownsMap Tryd.prog 75 (plainElem Tryd.prog 3) B m D) (hh : Maps.has D (klI s) = true)
    (hval : ∀ zd, D.atKey (klI s) zd = .lit (.int .i64 (gH n G s))) (hs : s < 256) (h0 : s ≠ 0) :
    Calls Tryd.prog 41 #[.agg (hcs n G B), .int .i64 (s : Int)] w (LPost w B (gH n G) s m) := by
  have hne : ((s : Int) == 0) = false := by rw [beq_eq_false_iff_ne]; omega
  obtain ⟨z, hz⟩ : ∃ z, gH n G s = z := ⟨_, rfl⟩
  rw [hz] at hval
  have HM := Lib.hid hM
  have HV := Lib.hid hval
  have HO := Lib.hid ho
  have HZ := Lib.hid hz
  clear hval ho hM hz
  unfold hcs
  refine (callsIn_wide (n := 9)).1 ?_
  refine callsIn_of_wp_marks Tryd.func41 rfl trivial ?_ rfl
  simp only [Tryd.ntmps41, List.size_toArray, List.length_cons, List.length_nil, Nat.reduceAdd, Nat.reduceSub, Array.replicate_succ, Array.replicate_zero, List.push_toArray, List.append_toArray, List.nil_append, List.cons_append]
  gi_wp2_with (gi_at_lookup; refine wpListIn_lookup_own_ok_int _ rfl _ _ 59 rfl 75 3 .i64 (Maps.int_keyed Tryd.underlying75) Tryd.underlying59 Tryd.underlying3 (zeroI _) B m D rfl ((HO.out.alloc _).alloc _) _ (klI s) rfl (keyOf_setI hs) ?_; intro c hc hwc; rw [HV.out] at hc; obtain rfl : z = c := (by simpa using hc); clear hc hwc)
  have hb1 : Below w.heap.size w ((w.alloc (.cells (hcs n G B) 61)).alloc (.cells #[.int .i64 (s : Int)] 75)) := ((Below.refl _ _).alloc (Nat.le_refl _) _).alloc (by simp) _
  exact ⟨.int .i64 z, by simp [results, Tryd.f41, go_sem], by rw [HZ.out], HM.out.below hb1, ⟨hb1.os, hb1.tape, hb1.output, hb1.size, fun k hk _ => hb1.block k hk⟩⟩

theorem least_leave (w : World) (B M : Nat) (g : Nat → Int) (s : Nat) (z : Int) (hz : g s = z) (tmps : Array Value) (hp : tmps[4]? = some (.int .i64 z)) (D : Nat) (W : World) (hBw : B < w.heap.size) (hD : w.heap.size ≤ D) (hKD : W.heap[D]? = some (.deferred (some [])))
    (h2 : MemoI W B g M) (h3 : Within B (B + 1) w W) : bodyPostM Fence.wide 9 Tryd.prog Tryd.f41 (LPost w B g s M) .ret { tmps := tmps, defers := [{ target := .collected D, args := #[] }] } W := by
  refine leaves_marks (F := Fence.wide) (n := 9) w.heap.size (fun W => MemoI W B g M ∧ Within B (B + 1) w W) ?_ ?_ _ W ((Marks.nil _ _).cons hD hKD (by simp)) ⟨h2, h3⟩
  · rintro W D hD hk ⟨h2, h3⟩
    have hg := grownBy_putObj' W D (.deferred none)
    exact ⟨h2.kept hg (by simp; omega), ⟨hg.os.trans h3.os, hg.tape.trans h3.tape, hg.output.trans h3.output, Nat.le_trans h3.size hg.size,
      fun k hk' ho => (hg.block k (Nat.lt_of_lt_of_le hk' h3.size) (by simp; omega)).trans (h3.block k hk' ho)⟩⟩
  · rintro W ⟨h2, h3⟩
    exact ⟨.int .i64 z, by simp [results, Tryd.f41, go_sem, hp], by rw [hz], h2, h3⟩

/-- The least cost so far. -/
def curH (n : Nat) (G : Nat → Nat) (d row s : Nat) (l : List Nat) : Int := l.foldl (lstStep (· + ·) (eF (eG n G) row) (fun v => hlst (eF (eG n G)) d (row + 1) (wo8 s v))) maxI
theorem curH_snoc (n : Nat) (G : Nat → Nat) (d row s : Nat) (l : List Nat) (v : Nat) : curH n G d row s (l ++ [v]) = min (curH n G d row s l) (hlst (eF (eG n G)) d (row + 1) (wo8 s v) + eF (eG n G) row v) := by
  unfold curH
  rw [List.foldl_append]; rfl
/-- How the loop over the columns stands. -/
def LJ (w : World) (n : Nat) (G : Nat → Nat) (B s m d row Br Bm : Nat) (l : List Nat) (X : World) : Prop :=
  X.heap[w.heap.size]? = some (.cells #[.iface 82 (.agg (gcells n G)), .int .i64 0, .func (.func 45) #[] #[], .map (some B)] 61 (0, 0)) ∧ Boxed X (w.heap.size + 1) 75 (.int .i64 (s : Int)) ∧ Boxed X Br 3 (.int .i64 (row : Int)) ∧
  Boxed X Bm 3 (.int .i64 (curH n G d row s l)) ∧ MemoI X B (gH n G) (m + l.length * 10 ^ d) ∧ Within B (B + 1) w X
theorem lj_own {w : World} {n B s m d row Br Bm S : Nat} {G : Nat → Nat} (h1 : w.heap.size + 1 < S) (h2 : Br < S) (h3 : Bm < S) (hB : B < S) : OwnFrom S (fun (pre : List {x : Fin 8 // s.testBit x.val = true}) X => LJ w n G B s m d row Br Bm (pre.map (fun x => x.1.val)) X) := by
  intro pre X Y rw hs hg hr
  obtain ⟨g1, g2, g3, g4, g5, g6⟩ := hs
  have kp : ∀ {b : Nat} {o : Obj}, b < S → X.heap[b]? = some o → Y.heap[b]? = some o := fun {b} {o} hb ho =>
    (hg.block b (Array.getElem?_eq_some_iff.1 ho).1 (fun e => by have := (hr b e.symm).1; omega)).trans ho
  refine ⟨kp (by omega) g1, kp (by omega) g2, kp h2 g3, kp h3 g4, g5.kept hg (fun e => by have := (hr B e.symm).1; omega), ?_⟩
  exact ⟨hg.os.trans g6.os, hg.tape.trans g6.tape, hg.output.trans g6.output, Nat.le_trans g6.size hg.size,
    fun k hk ho => (hg.block k (Nat.lt_of_lt_of_le hk g6.size) (fun e => by have := (hr k e.symm).1; omega)).trans (g6.block k hk ho)⟩
set_option maxRecDepth 100000 in
set_option maxHeartbeats 8000000 in
theorem least_miss (n : Nat) (h6 : n ≤ 8) (G : Nat → Nat) (hG : ∀ i, G i < 256) (w : World) (B m s : Nat) (D : DataW Unit) (hM : MemoI w B (gH n G) m) (ho : w.ownsMap Tryd.prog 75 (plainElem Tryd.prog 3) B m D) (hmap : Maps.IsMap D) (hh : Maps.has D (klI s) = false)
    (hT : Tab w) (hgB : 1 < B) (hm : m + cntI s ≤ 1000000000000) (hsn : (bitsOf s).length ≤ n)
    (IH : ∀ t, t < s → ∀ W m', (bitsOf t).length ≤ n → MemoI W B (gH n G) m' → Tab W → m' + cntI t ≤ 1000000000000 → Calls Tryd.prog 41 #[.agg (hcs n G B), .int .i64 (t : Int)] W (LPost W B (gH n G) t (m' + cntI t))) (hs : s < 256) (h0 : s ≠ 0) :
    Calls Tryd.prog 41 #[.agg (hcs n G B), .int .i64 (s : Int)] w (LPost w B (gH n G) s (m + cntI s)) := by
  have hne : ((s : Int) == 0) = false := by rw [beq_eq_false_iff_ne]; omega
  have HM := Lib.hid hM
  have HV := Lib.hid (Maps.atKey_of_not_has (D := D) hh)
  have HO := Lib.hid ho
  have HT := Lib.hid hT
  have HIH := Lib.hid IH
  have HF := Lib.hid hG
  have HMP := Lib.hid hmap
  have HSI := Lib.hid (fun W => setSize_any s hs W)
  obtain ⟨d, hd⟩ : ∃ d, (bitsOf s).length = d := ⟨_, rfl⟩
  rw [hd] at HSI hsn
  obtain ⟨row, hrow⟩ : ∃ row, n - d = row := ⟨_, rfl⟩
  have HRW := Lib.hid (row_factsH h6 hsn hrow)
  have H8 := Lib.hid h6
  clear hM ho hT IH hG hmap
  unfold hcs
  refine (callsIn_wide (n := 9)).1 ?_
  refine callsIn_of_wp_marks Tryd.func41 rfl trivial ?_ rfl
  simp only [Tryd.ntmps41, List.size_toArray, List.length_cons, List.length_nil, Nat.reduceAdd, Nat.reduceSub, Array.replicate_succ, Array.replicate_zero, List.push_toArray, List.append_toArray, List.nil_append, List.cons_append]
  obtain ⟨W1, hW1⟩ : ∃ W1, (w.alloc (.cells #[.iface 82 (.agg (gcells n G)), .int .i64 0, .func (.func 45) #[] #[], .map (some B)] 61)).alloc (.cells #[.int .i64 (s : Int)] 75) = W1 := ⟨_, rfl⟩
  have hb1 : Below w.heap.size w W1 := by rw [← hW1]; exact ((Below.refl _ _).alloc (Nat.le_refl _) _).alloc (by simp) _
  have hs1 : W1.heap.size = w.heap.size + 1 + 1 := by rw [← hW1]; simp
  have hc1 : W1.heap[w.heap.size]? = some (.cells #[.iface 82 (.agg (gcells n G)), .int .i64 0, .func (.func 45) #[] #[], .map (some B)] 61 (0, 0)) := by
    rw [← hW1, Below.heap_alloc _ _ _ (by simp)]; exact World.alloc_heap_new _ _
  have hl1 : W1.heap[w.heap.size + 1]? = some (.cells #[.int .i64 (s : Int)] 75 (0, 0)) := by
    rw [← hW1]
    have := World.alloc_heap_new (w.alloc (.cells #[.iface 82 (.agg (gcells n G)), .int .i64 0, .func (.func 45) #[] #[], .map (some B)] 61)) (.cells #[.int .i64 (s : Int)] 75)
    rwa [World.size_alloc] at this
  have HB1 := Lib.hid hb1
  have HC1 := Lib.hid hc1
  have HL1 := Lib.hid hl1
  have HS1 := Lib.hid hs1
  have HO1 := Lib.hid (owns_map_below HO.out hb1)
  obtain ⟨c0, c1, c2, c3⟩ := four_of hc1
  have cl := cell_of_one hl1
  have HS2 := Lib.hid (show w.heap.size + 2 ≤ W1.heap.size by omega)
  clear hb1 hc1 hl1 hs1
  gi_wp2_with (gi_at_lookup; refine wpListIn_lookup_own_ok_int _ rfl _ _ 59 rfl 75 3 .i64 (Maps.int_keyed Tryd.underlying75) Tryd.underlying59 Tryd.underlying3 (zeroI _) B m D rfl HO1.out _ (klI s) rfl (keyOf_setI hs) ?_; intro c hc hwc; rw [hh]; clear hc hwc)
  have HRA := Lib.hid (fun W => rowsH_any W n G)
  have HRB := Lib.hid (show Calls Tryd.prog 95 #[.agg (gcells n G)] ((W1.alloc (.cells #[.int .i64 0] 3)).drew) fun e w3 => e = .returned (.int .i64 (n : Int)) ∧ Below (W1.alloc (.cells #[.int .i64 0] 3)).drew.heap.size (W1.alloc (.cells #[.int .i64 0] 3)).drew w3 ∧ w3.cell? ⟨W1.heap.size, 0, none⟩ = some (.int .i64 0) ∧ w3.frozen? ⟨W1.heap.size, 0, none⟩ = false from
    (rowsH_any _ n G).mono fun e w3 h => ⟨h.1, h.2, (box_later2 h.2).2.1, (box_later2 h.2).2.2⟩)
  have hme := fun W => meth_rowsH 229 n G W
  have hme2 := fun W => meth_rowsH 348 n G W
  simp only [Nat.reduceAdd] at hme hme2
  have HK := Lib.hid (fun (w3 : World) (hb3 : Below W1.heap.size W1 w3) => show w3.cell? ⟨w.heap.size, 0, none⟩ = some (.iface 82 (.agg (gcells n G))) ∧ w3.cell? ⟨w.heap.size + 1, 0, none⟩ = some (.int .i64 (s : Int)) from
    ⟨(hb3.cell (World.block_lt_of_cell? _ _ c0)).trans c0, (hb3.cell (World.block_lt_of_cell? _ _ cl)).trans cl⟩)
  obtain ⟨hrw1, hrw2, hrw3, hrw4, hrw5⟩ := HRW.out
  clear hW1
  apply onceIn_any (fun (b : Nat) (W : World) => Boxed W b 3 (.int .i64 (row : Int)) ∧ w.heap.size + 2 ≤ b ∧ Below W1.heap.size W1 W)
  case h1 =>
    refine wpIn_wide.2 ?_
    first
      | go_region_held3 (fun w' => w'.cell? ⟨w.heap.size, 0, none⟩ = some (.iface 82 (.agg (gcells n G))) ∧ w'.cell? ⟨w.heap.size + 1, 0, none⟩ = some (.int .i64 (s : Int)))
          (first | exact ⟨c0, cl⟩ | exact HK.out _ (undrewL hb3) | exact HK.out _ ((undrewL hb3).alloc (undrewL hb3).size _) | exact HK.out _ (((Below.refl _ _).alloc (Nat.le_refl _) _).drew) | exact HK.out _ (step_below (((Below.refl W1.heap.size W1).alloc (Nat.le_refl _) (.cells #[.int .i64 0] 3)).drew) hb3) | exact HK.out _ ((step_below (((Below.refl W1.heap.size W1).alloc (Nat.le_refl _) (.cells #[.int .i64 0] 3)).drew) hb3).setCell (p := ⟨W1.heap.size, 0, none⟩) (Nat.le_refl _) _))
          (first | (go_at_call 95; with_reducible refine Calls.mono HRB.out ?_; rintro e w3 ⟨rfl, hb3, hz1, hz2⟩) | (go_at_call 95; refine (HRA.out _).mono ?_; rintro e w3 ⟨rfl, hb3⟩) | (go_at_call 58; refine (HSI.out _).mono ?_; rintro e w' ⟨rfl, rfl⟩))
      | fail "region"
    all_goals
      first
        | (obtain ⟨b, hbb⟩ : ∃ b, w3.heap.size = b := ⟨_, rfl⟩
           simp only [hbb]
           exact ⟨b, ⟨by rw [← hbb]; exact Boxed.new _ _ _, by rw [← hbb]; exact Nat.le_trans HS2.out (undrewL hb3).size, (undrewL hb3).alloc (undrewL hb3).size _⟩, rfl⟩)
        | (obtain ⟨b, hbb⟩ : ∃ b, W1.heap.size = b := ⟨_, rfl⟩
           have hx := (box_later2 hb3).1.set (.int .i64 (row : Int))
           have hy := (step_below (((Below.refl W1.heap.size W1).alloc (Nat.le_refl _) (.cells #[.int .i64 0] 3)).drew) hb3).setCell (p := ⟨W1.heap.size, 0, none⟩) (Nat.le_refl _) (.int .i64 (row : Int))
           have hw := HS2.out
           simp only [hbb] at hx hy hw ⊢
           exact ⟨b, ⟨hx, hw, hy⟩, rfl⟩)
  rintro Br W2 ⟨hbr, hbr2, hb2⟩
  clear hrw1 hrw2 hrw3 hrw4 hrw5
  clear c0 c1 c2 c3 cl hme hme2
  obtain ⟨W3, hW3⟩ : ∃ W3, W2.alloc (.cells #[.int .i64 9223372036854775807] 3) = W3 := ⟨_, rfl⟩
  have hb3 : Below W1.heap.size W1 W3 := by rw [← hW3]; exact hb2.alloc hb2.size _
  have hz3 : W3.heap.size = W2.heap.size + 1 := by rw [← hW3]; simp
  have hbm : Boxed W3 W2.heap.size 3 (.int .i64 9223372036854775807) := by rw [← hW3]; exact Boxed.new _ _ _
  have hbr3 : Boxed W3 Br 3 (.int .i64 (row : Int)) := by rw [← hW3]; exact hbr.alloc _
  have hcl3 := (HK.out _ hb3).2
  gi_wp2_with (refine ⟨trivial, ?_⟩; gi_at_call 59; refine (callsIn_wide.2 (all_any s _)).mono ?_; rintro e w' ⟨rfl, rfl⟩)
  obtain ⟨W4, hW4⟩ : ∃ W4, W3.alloc (.cells #[.int .i64 (s : Int)] 75) = W4 := ⟨_, rfl⟩
  rw [hW4]
  have hb4 : Below W1.heap.size W1 W4 := by rw [← hW4]; exact hb3.alloc hb3.size _
  have hz4 : W4.heap.size = W2.heap.size + 2 := by rw [← hW4]; simp [hz3]
  have hst4 : W4.heap[W2.heap.size + 1]? = some (.cells #[.int .i64 (s : Int)] 75 (0, 0)) := by rw [← hW4, ← hz3]; exact World.alloc_heap_new _ _
  have hlt := hbr.lt
  have hs2 := HS2.out
  have hsz2 := hb2.size
  have hBw := HM.out.lt
  have hb04 := step_below HB1.out hb4
  obtain ⟨e, hde⟩ : ∃ e, d = e + 1 := by
    refine ⟨d - 1, ?_⟩
    have : d ≠ 0 := fun h => h0 (len_zero hs (by rw [hd, h]))
    omega
  have hI0 : LJ w n G B s m e row Br W2.heap.size [] W4 := by
    refine ⟨(hb4.block _ (by omega)).trans HC1.out, (hb4.block _ (by omega)).trans HL1.out, ?_, ?_, ?_, ⟨hb04.os, hb04.tape, hb04.output, hb04.size, fun k hk _ => hb04.block k hk⟩⟩
    · rw [← hW4]; exact hbr3.alloc _
    · rw [← hW4]; exact hbm.alloc _
    · simpa using HM.out.below hb04
  have hT4 := HT.out.later hb04
  have HI0 := Lib.hid hI0
  have HDE := Lib.hid hde
  have HD := Lib.hid hd
  have HZS := Lib.hid (And.intro hz4 (And.intro hlt (And.intro hs2 (And.intro hsz2 (And.intro hBw hbr2)))))
  clear hde hd hW3 hW4 hI0 hcl3 hbm hbr3
  refine wpIn_rangeFunc_ownG rfl (by decide) (gf := 66) (lb := #[.pointer (some ⟨W2.heap.size + 1, 0, none⟩)]) rfl trivial (enters_of Tryd.func66 (by kernel_rfl) rfl)
    (all_stopsB (9 - 1) (by decide) (W2.heap.size + 1) B s hs W4 hgB (by omega) (cell_of_one hst4) hT4) belowK_t (belowK_b (by omega)) (Below.refl _ _) (fun _ => rfl)
    (fun pre X => LJ w n G B s m e row Br W2.heap.size (pre.map (fun x => x.1.val)) X) (fun _ _ _ => False) (lj_own (by omega) (by omega) (by omega) (by omega)) (fun c => ownFrom_pure _ (fun _ => False)) HI0.out
    (fun x => { tmps := #[(.agg #[.iface 82 (.agg (gcells n G)), .int .i64 0, .func (.func 45) #[] #[], .map (some B)]), .int .i64 (s : Int), .pointer (some ⟨w.heap.size, 0, none⟩), .pointer (some ⟨w.heap.size + 1, 0, none⟩), .int .i64 0, .int .i64 c, .bool false, .pointer (some ⟨Br, 0, none⟩), .pointer (some ⟨W2.heap.size, 0, none⟩), .int .i64 ((x.1.val : Nat) : Int), undef, .int .i64 (s : Int), .bool false, undef, undef, undef, .tuple #[.int .i64 c, .bool false], .pointer (some ⟨w.heap.size, 3, none⟩), .map (some B), .int .i64 (s : Int), .tuple #[.int .i64 c, .bool false], .int .i64 c, .bool false, .bool false, undef, .pointer (some ⟨w.heap.size, 0, none⟩), .iface 82 (.agg (gcells n G)), .int .i64 (n : Int), .int .i64 (s : Int), .int .i64 (d : Int), .int .i64 (row : Int), .int .i64 (s : Int), seqOf (W2.heap.size + 1), .int .i64 ((x.1.val : Nat) : Int), undef, undef, undef, undef, undef, undef, undef, undef, undef, undef, undef, undef, undef, undef, undef, undef, undef, undef, undef, undef, undef, undef], defers := [] })
    ?assign ?body ?done ?stop
  case assign =>
    intro l x X K hK
    gi_wp2
    exact hK
  case body =>
    rintro l pre x X hJ hlen
    obtain ⟨v, hv⟩ : ∃ v, x.1.val = v := ⟨_, rfl⟩
    have hv8 : v < 8 := by rw [← hv]; exact x.1.isLt
    have hvm : s.testBit v = true := by rw [← hv]; exact x.2
    have hpl : pre.length < 8 := Nat.lt_of_lt_of_le hlen (bitsOf_len8' s)
    obtain ⟨l1, hl1⟩ : ∃ l1, pre.map (fun x => x.1.val) = l1 := ⟨_, rfl⟩
    have hll : l1.length < 8 := by rw [← hl1, List.length_map]; exact hpl
    have hsn1 : (pre ++ [x]).map (fun x => x.1.val) = l1 ++ [v] := by rw [List.map_append, hl1]; simp [hv]
    have hJ' : LJ w n G B s m e row Br W2.heap.size l1 X := by rw [← hl1]; exact hJ
    obtain ⟨g1, g2, g3, g4, g5, g6⟩ := hJ'
    obtain ⟨t, ht⟩ : ∃ t, wo8 s v = t := ⟨_, rfl⟩
    have htlt : t < s := by rw [← ht]; exact wo8_less hs hv8 hvm
    have htl : (bitsOf t).length = e := by
      have := wo8_len hs hv8 hvm
      have h1 := HD.out
      have h2 := HDE.out
      rw [ht] at this
      omega
    have hgt : gH n G t = hlst (eF (eG n G)) e (row + 1) t := by
      unfold gH
      rw [htl]
      congr 1
      have := HDE.out
      omega
    have hcs : 10 ^ (e + 1) = 10 * 10 ^ e := by rw [Nat.pow_succ, Nat.mul_comm]
    have hcnt : cntI t = 10 ^ e := by unfold cntI; rw [htl]
    have hcnts : cntI s = 10 * 10 ^ e := by unfold cntI; rw [HD.out, HDE.out, hcs]
    have hmul : l1.length * 10 ^ e + 10 ^ e ≤ 8 * 10 ^ e := by rw [← Nat.succ_mul]; exact Nat.mul_le_mul_right _ (by omega)
    have hm5 : m + l1.length * 10 ^ e + cntI t ≤ 1000000000000 := by omega
    have hTX := HT.out.withinI g6 hgB
    have hih := HIH.out t htlt X.drew (m + l1.length * 10 ^ e) (by have := HDE.out; omega) (g5.below (Below.refl _ X).drew) (hTX.later (Below.refl _ X).drew) hm5
    have hwo : ∀ W, Calls Tryd.prog 49 #[.int .i64 (s : Int), .int .i64 (v : Int)] W fun e w' => e = .returned (.int .i64 (t : Int)) ∧ W = w' := fun W => by
      rw [← ht]; exact without_any s v hs hv8 W
    obtain ⟨z1, hz1⟩ : ∃ z1, gH n G t = z1 := ⟨_, rfl⟩
    have hz1b := gH_bound (n := n) (G := G) (show t < 256 by omega)
    rw [hz1] at hz1b
    obtain ⟨f, hf⟩ : ∃ f, eF (eG n G) row v = f := ⟨_, rfl⟩
    have hfb : -1 ≤ eF (eG n G) row v ∧ eF (eG n G) row v ≤ 0 := by unfold eF; split <;> omega
    rw [hf] at hfb
    obtain ⟨y, hy⟩ : ∃ y, z1 + f = y := ⟨_, rfl⟩
    obtain ⟨cur, hcur⟩ : ∃ cur, curH n G e row s l1 = cur := ⟨_, rfl⟩
    have hnew := curH_snoc n G e row s l1 v
    rw [ht, ← hgt, hz1, hf, hy, hcur] at hnew
    rw [hcur] at g4
    obtain ⟨new, hne2⟩ : ∃ new, min cur y = new := ⟨_, rfl⟩
    rw [hne2] at hnew
    obtain ⟨c0, c1, c2, c3⟩ := four_of g1
    have cl := g2.cell
    have HX := Lib.hid (And.intro g1 (And.intro g2 (And.intro g3 (And.intro g4 (And.intro g5 g6)))))
    have HWO := Lib.hid hwo
    have HIHt := Lib.hid hih
    have HNUM := Lib.hid (And.intro hsn1 (And.intro hnew (And.intro hcnt (And.intro hmul hll))))
    have HZ1 := Lib.hid (And.intro hz1 (And.intro hf hy))
    have HBD := Lib.hid (And.intro hz1b hfb)
    rw [hv]
    clear hwo hih hJ hlen hl1 hsn1 g1 g2 g3 g4 g5 g6 hgt hcs hcnts hmul hm5 hTX hz1b hfb hnew hcur ht hpl htlt htl hv hz1 hf hy hst4 hT4 hb04 hb4
    have hfo : Tryd.prog.follows Departure.mixedOrders = true := by kernel_rfl
    gi_wp2
    apply onceIn_zero (fun (W : World) => MemoI W B (gH n G) (m + l1.length * 10 ^ e + cntI t) ∧ Within B (B + 1) X W)
    case h1 =>
      unfold hcs at HIHt
      gi_region_with_o (first
        | (refine ⟨trivial, ?_⟩; gi_at_call 49; refine (CallsIn.inRound l (callsIn_wide.2 (HWO.out _))).mono ?_; rintro e w' ⟨rfl, rfl⟩)
        | (gi_at_call 49; refine (CallsIn.inRound l (callsIn_wide.2 (HWO.out _))).mono ?_; rintro e w' ⟨rfl, rfl⟩)
        | (refine ⟨trivial, ?_⟩; gi_at_call 41; refine (CallsIn.inRound l (callsIn_wide.2 HIHt.out)).mono ?_; rintro e w' ⟨rfl, hM', hw'⟩)
        | (gi_at_call 41; refine (CallsIn.inRound l (callsIn_wide.2 HIHt.out)).mono ?_; rintro e w' ⟨rfl, hM', hw'⟩))
      all_goals exact ⟨⟨hM', ⟨hw'.os, hw'.tape, hw'.output, hw'.size, hw'.block⟩⟩, rfl⟩
    rintro W5 ⟨hM5, hw5⟩
    clear c0 c1 c2 c3 cl
    obtain ⟨g1, g2, g3, g4, g5, g6⟩ := HX.out
    obtain ⟨hz4, hlt, hs2, hsz2, hBw, hbr2⟩ := HZS.out
    have k1 := (hw5.block _ (Array.getElem?_eq_some_iff.1 g1).1 (.inr (by omega))).trans g1
    have k3 : Boxed W5 Br 3 (.int .i64 (row : Int)) := (hw5.block _ g3.lt (.inr (by omega))).trans g3
    have k4 : Boxed W5 W2.heap.size 3 (.int .i64 cur) := (hw5.block _ g4.lt (.inr (by omega))).trans g4
    have HK5 := Lib.hid (And.intro k1 (And.intro k3 (And.intro k4 (And.intro hM5 hw5))))
    obtain ⟨c0, c1, c2, c3⟩ := four_of (W := W5.drew) k1
    have c5 : W5.drew.cell? ⟨Br, 0, none⟩ = some (.int .i64 (row : Int)) := k3.cell
    have c6 : W5.drew.cell? ⟨W2.heap.size, 0, none⟩ = some (.int .i64 cur) := k4.cell
    have c7 : W5.drew.frozen? ⟨W2.heap.size, 0, none⟩ = false := k4.frozen
    have HQ := Lib.hid (fun (w6 : World) (h : Below W5.drew.heap.size W5.drew w6) => show w6.cell? ⟨w.heap.size, 0, none⟩ = some (.iface 82 (.agg (gcells n G))) ∧ w6.cell? ⟨w.heap.size, 2, none⟩ = some (.func (.func 45) #[] #[]) ∧ w6.cell? ⟨Br, 0, none⟩ = some (.int .i64 (row : Int)) ∧ w6.cell? ⟨W2.heap.size, 0, none⟩ = some (.int .i64 cur) ∧ w6.frozen? ⟨W2.heap.size, 0, none⟩ = false from
      ⟨(h.cell (World.block_lt_of_cell? _ _ c0)).trans c0, (h.cell (World.block_lt_of_cell? _ _ c2)).trans c2, (h.cell (World.block_lt_of_cell? _ _ c5)).trans c5, (h.cell (World.block_lt_of_cell? _ _ c6)).trans c6, (h.frozen (p := ⟨W2.heap.size, 0, none⟩) (World.block_lt_of_cell? _ _ c6)).trans c7⟩)
    have HCA := Lib.hid (fun W => costAtH_any W n G H8.out HF.out row v f HZ1.out.2.1)
    have HBY := Lib.hid (fun W => measSum_any z1 f y HZ1.out.2.2 (by have := HBD.out; have := HZ1.out.2.2; omega) W)
    have HSS := Lib.hid (fun (w6 : World) (h1 : w6.cell? ⟨w.heap.size, 0, none⟩ = some (.iface 82 (.agg (gcells n G)))) (h2 : w6.cell? ⟨w.heap.size, 2, none⟩ = some (.func (.func 45) #[] #[])) (h3 : w6.cell? ⟨Br, 0, none⟩ = some (.int .i64 (row : Int))) =>
      show (w6.setCell ⟨W2.heap.size, 0, none⟩ (.int .i64 new)).cell? ⟨w.heap.size, 0, none⟩ = some (.iface 82 (.agg (gcells n G))) ∧ (w6.setCell ⟨W2.heap.size, 0, none⟩ (.int .i64 new)).cell? ⟨w.heap.size, 2, none⟩ = some (.func (.func 45) #[] #[]) ∧ (w6.setCell ⟨W2.heap.size, 0, none⟩ (.int .i64 new)).cell? ⟨Br, 0, none⟩ = some (.int .i64 (row : Int)) from
      ⟨(World.cell?_of_block (a := ⟨w.heap.size, 0, none⟩) (Below.heap_setCell _ _ _ _ (by show w.heap.size ≠ W2.heap.size; omega))).trans h1, (World.cell?_of_block (a := ⟨w.heap.size, 2, none⟩) (Below.heap_setCell _ _ _ _ (by show w.heap.size ≠ W2.heap.size; omega))).trans h2, (World.cell?_of_block (a := ⟨Br, 0, none⟩) (Below.heap_setCell _ _ _ _ (by show Br ≠ W2.heap.size; omega))).trans h3⟩)
    rw [HZ1.out.1]
    have hmm : (if y < cur then y else cur) = new := by rw [← hne2]; omega
    clear g1 g2 g3 g4 g5 g6 k1 k3 k4 hM5 hw5 c1 c3 hne hsn hs2 hsz2 hBw hbr2 hz4 hlt hm hgB hv8 hvm
    gi_wp2
    apply onceIn_zero (fun (W : World) => ∃ w6, Below W5.heap.size W5 w6 ∧ W = w6.setCell ⟨W2.heap.size, 0, none⟩ (.int .i64 new))
    case h1 =>
      refine region_L_drew (S := fun w6 => w6.cell? ⟨w.heap.size, 0, none⟩ = some (.iface 82 (.agg (gcells n G))) ∧ w6.cell? ⟨w.heap.size, 2, none⟩ = some (.func (.func 45) #[] #[]) ∧ w6.cell? ⟨Br, 0, none⟩ = some (.int .i64 (row : Int))) hfo ⟨c0, c2, c5⟩ (fun hHeld => ?_)
      refine anyL_take (i := 1) (v := ?v1) (by kernel_rfl) rfl (by kernel_rfl) (by kernel_rfl) (by kernel_rfl) (fun _ _ _ h => h) ⟨Or.inl ⟨by rfl, ?hy1⟩, fun _ => by rfl⟩ (by assumption) ?_
      case hy1 =>
        intro w' hSw
        try dsimp only at hSw
        obtain ⟨p1, p2, p3⟩ := hSw
        go_simp
        try with_reducible rfl
      try simp only [Act.put, List.setIfInBounds_toArray, List.set_cons_zero, List.set_cons_succ]
      refine anyL_take (i := 2) (v := ?v2) (by kernel_rfl) rfl (by kernel_rfl) (by kernel_rfl) (by kernel_rfl) (fun _ _ _ h => h) ⟨Or.inl ⟨by rfl, ?hy2⟩, fun _ => by rfl⟩ (by assumption) ?_
      case hy2 =>
        intro w' hSw
        try dsimp only at hSw
        obtain ⟨p1, p2, p3⟩ := hSw
        go_simp
        try with_reducible rfl
      try simp only [Act.put, List.setIfInBounds_toArray, List.set_cons_zero, List.set_cons_succ]
      refine anyL_take (i := 3) (v := ?v3) (by kernel_rfl) rfl (by kernel_rfl) (by kernel_rfl) (by kernel_rfl) (fun _ _ _ h => h) ⟨Or.inl ⟨by rfl, ?hy3⟩, fun _ => by rfl⟩ (by assumption) ?_
      case hy3 =>
        intro w' hSw
        try dsimp only at hSw
        obtain ⟨p1, p2, p3⟩ := hSw
        go_simp
        try with_reducible rfl
      try simp only [Act.put, List.setIfInBounds_toArray, List.set_cons_zero, List.set_cons_succ]
      refine anyL_take (i := 4) (v := ?v4) (by kernel_rfl) rfl (by kernel_rfl) (by kernel_rfl) (by kernel_rfl) (fun _ _ _ h => h) ⟨Or.inl ⟨by rfl, ?hy4⟩, fun _ => by rfl⟩ (by assumption) ?_
      case hy4 =>
        intro w' hSw
        try dsimp only at hSw
        obtain ⟨p1, p2, p3⟩ := hSw
        go_simp
        try with_reducible rfl
      try simp only [Act.put, List.setIfInBounds_toArray, List.set_cons_zero, List.set_cons_succ]
      refine anyL_take (i := 5) (v := ?v5) (by kernel_rfl) rfl (by kernel_rfl) (by kernel_rfl) (by kernel_rfl) (fun _ _ _ h => h) ⟨Or.inl ⟨by rfl, ?hy5⟩, fun _ => by rfl⟩ (by assumption) ?_
      case hy5 =>
        intro w' hSw
        try dsimp only at hSw
        obtain ⟨p1, p2, p3⟩ := hSw
        go_simp
        try with_reducible rfl
      try simp only [Act.put, List.setIfInBounds_toArray, List.set_cons_zero, List.set_cons_succ]
      refine anyL_take (i := 6) (v := ?v6) (by kernel_rfl) rfl (by kernel_rfl) (by kernel_rfl) (by kernel_rfl) (fun _ _ _ h => h) ⟨Or.inl ⟨by rfl, ?hy6⟩, fun _ => by rfl⟩ (by assumption) ?_
      case hy6 =>
        intro w' hSw
        try dsimp only at hSw
        obtain ⟨p1, p2, p3⟩ := hSw
        go_simp
        try with_reducible rfl
      try simp only [Act.put, List.setIfInBounds_toArray, List.set_cons_zero, List.set_cons_succ]
      refine anyL_take (i := 7) (v := ?v7) (by kernel_rfl) rfl (by kernel_rfl) (by kernel_rfl) (by kernel_rfl) (fun _ _ _ h => h) ⟨Or.inl ⟨by rfl, ?hy7⟩, fun _ => by rfl⟩ (by assumption) ?_
      case hy7 =>
        intro w' hSw
        try dsimp only at hSw
        obtain ⟨p1, p2, p3⟩ := hSw
        go_simp
        try with_reducible rfl
      try simp only [Act.put, List.setIfInBounds_toArray, List.set_cons_zero, List.set_cons_succ]
      refine anyL_take (i := 8) (v := ?v8) (by kernel_rfl) rfl (by kernel_rfl) (by kernel_rfl) (by kernel_rfl) (fun _ _ _ h => h) ⟨Or.inl ⟨by rfl, ?hy8⟩, fun _ => by rfl⟩ (by assumption) ?_
      case hy8 =>
        intro w' hSw
        try dsimp only at hSw
        obtain ⟨p1, p2, p3⟩ := hSw
        go_simp
        try with_reducible rfl
      try simp only [Act.put, List.setIfInBounds_toArray, List.set_cons_zero, List.set_cons_succ]
      refine anyL_ready (rs := [0, 9]) (by kernel_rfl) (by simp) (AllL.cons rfl (fun K hK => ?_) (AllL.cons rfl (fun K hK => ?_) (AllL.nil)))
      · go_simp
        refine hK.out _ _ (⟨c0, c2, c5⟩) (fun hHeld2 => ?_)
        clear hK K
        try simp only [Act.put, List.setIfInBounds_toArray, List.set_cons_zero, List.set_cons_succ]
        refine anyL_ready (rs := [9]) (by kernel_rfl) (by simp) (AllL.cons rfl (fun K hK => ?_) (AllL.nil))
        · go_simp
          gi_wp2_with (first | (refine ⟨trivial, ?_⟩; gi_at_call 48; refine (CallsIn.inRound l (callsIn_wide.2 (HCA.out _))).mono ?_; rintro e w6 ⟨rfl, hb6⟩; obtain ⟨z0, z2, z5, z6, z7⟩ := HQ.out w6 hb6) | (gi_at_call 48; refine (CallsIn.inRound l (callsIn_wide.2 (HCA.out _))).mono ?_; rintro e w6 ⟨rfl, hb6⟩; obtain ⟨z0, z2, z5, z6, z7⟩ := HQ.out w6 hb6))
          refine hK.out _ _ (⟨z0, z2, z5⟩) (fun hHeld2 => ?_)
          clear hK K
          try simp only [Act.put, List.setIfInBounds_toArray, List.set_cons_zero, List.set_cons_succ]
          refine anyL_ready (rs := [10]) (by kernel_rfl) (by simp) (AllL.cons rfl (fun K hK => ?_) (AllL.nil))
          · go_simp
            gi_wp2_with (first | (refine ⟨trivial, ?_⟩; gi_at_call 45; refine (CallsIn.inRound l (callsIn_wide.2 (HBY.out _))).mono ?_; rintro e w7 ⟨rfl, rfl⟩) | (gi_at_call 45; refine (CallsIn.inRound l (callsIn_wide.2 (HBY.out _))).mono ?_; rintro e w7 ⟨rfl, rfl⟩))
            refine hK.out _ _ (⟨z0, z2, z5⟩) (fun hHeld2 => ?_)
            clear hK K
            try simp only [Act.put, List.setIfInBounds_toArray, List.set_cons_zero, List.set_cons_succ]
            refine anyL_take (i := 11) (v := ?va11) (by kernel_rfl) rfl (by kernel_rfl) (by kernel_rfl) (by kernel_rfl) (fun _ _ _ h => h) ⟨Or.inl ⟨by rfl, ?hya11⟩, fun _ => by rfl⟩ (by assumption) ?_
            case hya11 =>
              intro w' hSw
              try dsimp only at hSw
              obtain ⟨p1, p2, p3⟩ := hSw
              go_simp
              try with_reducible rfl
            try simp only [Act.put, List.setIfInBounds_toArray, List.set_cons_zero, List.set_cons_succ]
            refine anyL_ready (rs := [12]) (by kernel_rfl) (by simp) (AllL.cons rfl (fun K hK => ?_) (AllL.nil))
            · go_simp
              refine hK.out _ _ (HSS.out _ z0 z2 z5) (fun hHeld2 => ?_)
              clear hK K
              try simp only [Act.put, List.setIfInBounds_toArray, List.set_cons_zero, List.set_cons_succ]
              refine anyL_done (by kernel_rfl) ?_ _
              exact ⟨⟨w6, undrewL hb6, rfl⟩, rfl⟩
      · go_simp
        gi_wp2_with (first | (refine ⟨trivial, ?_⟩; gi_at_call 48; refine (CallsIn.inRound l (callsIn_wide.2 (HCA.out _))).mono ?_; rintro e w6 ⟨rfl, hb6⟩; obtain ⟨z0, z2, z5, z6, z7⟩ := HQ.out w6 hb6) | (gi_at_call 48; refine (CallsIn.inRound l (callsIn_wide.2 (HCA.out _))).mono ?_; rintro e w6 ⟨rfl, hb6⟩; obtain ⟨z0, z2, z5, z6, z7⟩ := HQ.out w6 hb6))
        refine hK.out _ _ (⟨z0, z2, z5⟩) (fun hHeld2 => ?_)
        clear hK K
        try simp only [Act.put, List.setIfInBounds_toArray, List.set_cons_zero, List.set_cons_succ]
        refine anyL_ready (rs := [0, 10]) (by kernel_rfl) (by simp) (AllL.cons rfl (fun K hK => ?_) (AllL.cons rfl (fun K hK => ?_) (AllL.nil)))
        · go_simp
          refine hK.out _ _ (⟨z0, z2, z5⟩) (fun hHeld2 => ?_)
          clear hK K
          try simp only [Act.put, List.setIfInBounds_toArray, List.set_cons_zero, List.set_cons_succ]
          refine anyL_ready (rs := [10]) (by kernel_rfl) (by simp) (AllL.cons rfl (fun K hK => ?_) (AllL.nil))
          · go_simp
            gi_wp2_with (first | (refine ⟨trivial, ?_⟩; gi_at_call 45; refine (CallsIn.inRound l (callsIn_wide.2 (HBY.out _))).mono ?_; rintro e w7 ⟨rfl, rfl⟩) | (gi_at_call 45; refine (CallsIn.inRound l (callsIn_wide.2 (HBY.out _))).mono ?_; rintro e w7 ⟨rfl, rfl⟩))
            refine hK.out _ _ (⟨z0, z2, z5⟩) (fun hHeld2 => ?_)
            clear hK K
            try simp only [Act.put, List.setIfInBounds_toArray, List.set_cons_zero, List.set_cons_succ]
            refine anyL_take (i := 11) (v := ?vb11) (by kernel_rfl) rfl (by kernel_rfl) (by kernel_rfl) (by kernel_rfl) (fun _ _ _ h => h) ⟨Or.inl ⟨by rfl, ?hyb11⟩, fun _ => by rfl⟩ (by assumption) ?_
            case hyb11 =>
              intro w' hSw
              try dsimp only at hSw
              obtain ⟨p1, p2, p3⟩ := hSw
              go_simp
              try with_reducible rfl
            try simp only [Act.put, List.setIfInBounds_toArray, List.set_cons_zero, List.set_cons_succ]
            refine anyL_ready (rs := [12]) (by kernel_rfl) (by simp) (AllL.cons rfl (fun K hK => ?_) (AllL.nil))
            · go_simp
              refine hK.out _ _ (HSS.out _ z0 z2 z5) (fun hHeld2 => ?_)
              clear hK K
              try simp only [Act.put, List.setIfInBounds_toArray, List.set_cons_zero, List.set_cons_succ]
              refine anyL_done (by kernel_rfl) ?_ _
              exact ⟨⟨w6, undrewL hb6, rfl⟩, rfl⟩
        · go_simp
          gi_wp2_with (first | (refine ⟨trivial, ?_⟩; gi_at_call 45; refine (CallsIn.inRound l (callsIn_wide.2 (HBY.out _))).mono ?_; rintro e w7 ⟨rfl, rfl⟩) | (gi_at_call 45; refine (CallsIn.inRound l (callsIn_wide.2 (HBY.out _))).mono ?_; rintro e w7 ⟨rfl, rfl⟩))
          refine hK.out _ _ (⟨z0, z2, z5⟩) (fun hHeld2 => ?_)
          clear hK K
          try simp only [Act.put, List.setIfInBounds_toArray, List.set_cons_zero, List.set_cons_succ]
          refine anyL_ready (rs := [0]) (by kernel_rfl) (by simp) (AllL.cons rfl (fun K hK => ?_) (AllL.nil))
          · go_simp
            refine hK.out _ _ (⟨z0, z2, z5⟩) (fun hHeld2 => ?_)
            clear hK K
            try simp only [Act.put, List.setIfInBounds_toArray, List.set_cons_zero, List.set_cons_succ]
            refine anyL_take (i := 11) (v := ?vc11) (by kernel_rfl) rfl (by kernel_rfl) (by kernel_rfl) (by kernel_rfl) (fun _ _ _ h => h) ⟨Or.inl ⟨by rfl, ?hyc11⟩, fun _ => by rfl⟩ (by assumption) ?_
            case hyc11 =>
              intro w' hSw
              try dsimp only at hSw
              obtain ⟨p1, p2, p3⟩ := hSw
              go_simp
              try with_reducible rfl
            try simp only [Act.put, List.setIfInBounds_toArray, List.set_cons_zero, List.set_cons_succ]
            refine anyL_ready (rs := [12]) (by kernel_rfl) (by simp) (AllL.cons rfl (fun K hK => ?_) (AllL.nil))
            · go_simp
              refine hK.out _ _ (HSS.out _ z0 z2 z5) (fun hHeld2 => ?_)
              clear hK K
              try simp only [Act.put, List.setIfInBounds_toArray, List.set_cons_zero, List.set_cons_succ]
              refine anyL_done (by kernel_rfl) ?_ _
              exact ⟨⟨w6, undrewL hb6, rfl⟩, rfl⟩
    rintro W6 ⟨w6, hb6, rfl⟩
    clear c0 c2 c5 c6 c7
    gi_wp2
    obtain ⟨hsn1, hnew, hcnt, hmul, hll⟩ := HNUM.out
    obtain ⟨k1, k3, k4, hM5, hw5⟩ := HK5.out
    obtain ⟨g1, g2, g3, g4, g5, g6⟩ := HX.out
    obtain ⟨hz4, hlt, hs2, hsz2, hBw, hbr2⟩ := HZS.out
    have hX5 := hw5.size
    have hX6 := hb6.size
    have l1 := (Array.getElem?_eq_some_iff.1 g1).1
    have l4 := g4.lt
    have l5 := k4.lt
    have l3 := g3.lt
    have l2 := g2.lt
    have hM7 := (hM5.below hb6).kept (grown_setCell w6 W2.heap.size 0 (.int .i64 new)) (by simp; omega)
    have k46 : Boxed w6 W2.heap.size 3 (.int .i64 cur) := (hb6.block _ l5).trans k4
    have m4 := k46.set (.int .i64 new)
    have o6 : ∀ k, k ≠ W2.heap.size → (w6.setCell ⟨W2.heap.size, 0, none⟩ (.int .i64 new)).heap[k]? = w6.heap[k]? := fun k hk => Below.heap_setCell _ _ _ k hk
    have s6 : (w6.setCell ⟨W2.heap.size, 0, none⟩ (.int .i64 new)).heap.size = w6.heap.size := by simp [World.setCell]
    have t1 : (w6.setCell ⟨W2.heap.size, 0, none⟩ (.int .i64 new)).os = w6.os := rfl
    have t2 : (w6.setCell ⟨W2.heap.size, 0, none⟩ (.int .i64 new)).tape = w6.tape := rfl
    have t3 : (w6.setCell ⟨W2.heap.size, 0, none⟩ (.int .i64 new)).output = w6.output := rfl
    obtain ⟨W7, hW7⟩ : ∃ W7, w6.setCell ⟨W2.heap.size, 0, none⟩ (.int .i64 new) = W7 := ⟨_, rfl⟩
    rw [hW7] at hM7 m4 o6 s6 t1 t2 t3 ⊢
    have o7 : ∀ k, k ≠ W2.heap.size → (k < B ∨ B + 1 ≤ k) → k < X.heap.size → W7.heap[k]? = X.heap[k]? := fun k h1 h2 h3 =>
      (o6 k h1).trans ((hb6.block k (by omega)).trans (hw5.block k h3 h2))
    refine ⟨⟨by omega, fun k o hk ho _ => (o7 k (by omega) (.inr (by omega)) (Array.getElem?_eq_some_iff.1 ho).1).trans ho⟩,
      ⟨t1.trans (hb6.os.trans hw5.os), t2.trans (hb6.tape.trans hw5.tape), t3.trans (hb6.output.trans hw5.output), by omega, fun k hk => o7 k (by omega) (.inl hk) (by omega)⟩, ?_⟩
    show LJ w n G B s m e row Br W2.heap.size ((pre ++ [x]).map (fun x => x.1.val)) W7
    rw [hsn1]
    unfold LJ
    rw [hnew]
    refine ⟨(o7 _ (by omega) (.inr (by omega)) l1).trans g1, (o7 _ (by omega) (.inr (by omega)) l2).trans g2, (o7 _ (by omega) (.inr (by omega)) l3).trans g3, m4, hM7.mono ?_, ?_⟩
    · rw [List.length_append, List.length_singleton, Nat.add_mul, hcnt]
      omega
    · exact ⟨t1.trans (hb6.os.trans (hw5.os.trans g6.os)), t2.trans (hb6.tape.trans (hw5.tape.trans g6.tape)), t3.trans (hb6.output.trans (hw5.output.trans g6.output)), by have := g6.size; omega,
        fun k hk ho => (o7 k (by omega) ho (by have := g6.size; omega)).trans (g6.block k hk ho)⟩
  case done =>
    rintro Dd ys X hDd hys ⟨g1, g2, g3, g4, g5, g6⟩ hKD
    have e1 : ys.map (fun x => x.1.val) = elems s := by unfold elems; rw [← hys, List.map_map]; rfl
    rw [e1] at g4 g5
    have hg : curH n G e row s (elems s) = gH n G s := by
      have h1 : n - (e + 1) = row := by have := HDE.out; omega
      unfold gH
      rw [HD.out, HDE.out, h1]
      rfl
    obtain ⟨z, hz⟩ : ∃ z, gH n G s = z := ⟨_, rfl⟩
    have hzb := gH_bound (n := n) (G := G) (s := s) hs
    rw [hz] at hzb
    rw [hg, hz] at g4
    obtain ⟨M, hMe⟩ : ∃ M, m + (elems s).length * 10 ^ e = M := ⟨_, rfl⟩
    have hM1 : M + 1 ≤ m + cntI s := by
      have h1 : (elems s).length * 10 ^ e ≤ 8 * 10 ^ e := Nat.mul_le_mul_right _ (by rw [elems_len]; exact bitsOf_len8' s)
      have h2 : cntI s = 10 * 10 ^ e := by unfold cntI; rw [HD.out, HDE.out, Nat.pow_succ, Nat.mul_comm]
      have h3 : 1 ≤ 10 ^ e := Nat.one_le_pow _ _ (by decide)
      omega
    have hroom : M < maxLen := by unfold maxLen; omega
    rw [hMe] at g5
    obtain ⟨D', ho5, hmp5, hv5⟩ := g5
    have hwf := wf_i64 (x := z) (by omega) (by omega)
    obtain ⟨c0, c1, c2, c3⟩ := four_of g1
    have cl := g2.cell
    have cm := g4.cell
    have HO5 := Lib.hid ho5
    have HG := Lib.hid (And.intro g1 (And.intro g2 (And.intro g3 (And.intro g4 (And.intro g6 hKD)))))
    have HV5 := Lib.hid (And.intro hmp5 hv5)
    have HR := Lib.hid (And.intro hroom (And.intro hM1 (And.intro hz hwf)))
    have HCM := Lib.hid (fun (w6 : World) (h : X.grownBy w6 (some B)) => show w6.cell? ⟨W2.heap.size, 0, none⟩ = some (.int .i64 z) ∧ w6.drew.cell? ⟨W2.heap.size, 0, none⟩ = some (.int .i64 z) from by
      have k : Boxed w6 W2.heap.size 3 (.int .i64 z) := (h.block _ g4.lt (by have := HZS.out; simp; omega)).trans g4
      exact ⟨k.cell, k.cell⟩)
    clear g1 g2 g3 g4 g6 hKD hmp5 hv5 ho5 hroom hM1 hwf hzb hMe hg e1 hys hz hne hst4 hT4 hb04 hb4
    gi_wp2_with (gi_at_mapUpdate; refine wpListIn_mapUpdate_own _ rfl _ _ _ 59 rfl 75 3 (Maps.int_keyed Tryd.underlying75) Tryd.underlying59 _ B M D' rfl HO5.out HR.out.1 _ _ (klI s) rfl rfl (keyOf_setI hs) _ [] (plainElem_int Tryd.underlying3 HR.out.2.2.2) ?_; intro w6 ho6 hg6; obtain ⟨z6, z7⟩ := HCM.out w6 hg6)
    obtain ⟨g1, g2, g3, g4, g6, hKD⟩ := HG.out
    obtain ⟨hroom, hM1, hz, hwf⟩ := HR.out
    obtain ⟨hz4, hlt, hs2, hsz2, hBw, hbr2⟩ := HZS.out
    have hM6 : MemoI w6 B (gH n G) (M + 1) := MemoI.put (by rw [hz]; exact ho6) HV5.out.1 HV5.out.2
    have hkd := (hg6.block Dd (Array.getElem?_eq_some_iff.1 hKD).1 (by simp; omega)).trans hKD
    exact least_leave w B (m + cntI s) (gH n G) s z hz _ (by rfl) Dd w6 hBw (by omega) hkd (hM6.mono hM1)
      ⟨hg6.os.trans g6.os, hg6.tape.trans g6.tape, hg6.output.trans g6.output, Nat.le_trans g6.size hg6.size,
        fun k hk ho => (hg6.block k (Nat.lt_of_lt_of_le hk g6.size) (by simp; omega)).trans (g6.block k hk ho)⟩
  case stop =>
    rintro D c pre X hD hpre h hKD
    exact h.elim

end Go.Proofs.YtellghhilcjbnaaDoor.Hf