/-
  (impl.counter).of where nothing is kept yet.
-/
import Derived.Test.YtbbnagkbbhbbgaaDoorCount1
import Derived.Test.YtbbnagkbbhbbgaaDoorCore2
namespace Go.Proofs.YtbbnagkbbhbbgaaDoor
set_option linter.unusedVariables false
set_option linter.unusedSimpArgs false
open Go.RowKit Go.Shelf
attribute [local go_sem] Oper.semAt_some

theorem of_leave (w : World) (B M : Nat) (f : Nat → Nat) (s : Nat) (tmps : Array Value) (hp : tmps.getD 4 undef = .pointer (some ⟨w.heap.size + 1, 0, none⟩)) (D : Nat) (W : World) (hBw : B < w.heap.size) (hD : w.heap.size ≤ D) (hKD : W.heap[D]? = some (.deferred (some [])))
    (h1 : W.heap[w.heap.size + 1]? = some (.cells (ncells (nums f s)) 40 (0, 0))) (h2 : Memo W B f M) (h3 : Within B (B + 1) w W) :
    bodyPostM Fence.wide 9 Tryd.prog Tryd.f21 (OfPost w B f s M) .ret { tmps := tmps, defers := [{ target := .collected D, args := #[] }] } W := by
  refine leaves_marks (F := Fence.wide) (n := 9) w.heap.size (fun W => W.heap[w.heap.size + 1]? = some (.cells (ncells (nums f s)) 40 (0, 0)) ∧ Memo W B f M ∧ Within B (B + 1) w W) ?_ ?_ _ W ((Marks.nil _ _).cons hD hKD (by simp)) ⟨h1, h2, h3⟩
  · rintro W D hD hk ⟨h1, h2, h3⟩
    have hg := grownBy_putObj' W D (.deferred none)
    refine ⟨(World.putObj_heap_other (fun e => ?_)).trans h1, h2.kept hg (by simp; omega), ⟨hg.os.trans h3.os, hg.tape.trans h3.tape, hg.output.trans h3.output, Nat.le_trans h3.size hg.size,
      fun k hk' ho => (hg.block k (Nat.lt_of_lt_of_le hk' h3.size) (by simp; omega)).trans (h3.block k hk' ho)⟩⟩
    rw [e, hk] at h1
    cases h1
  · rintro W ⟨h1, h2, h3⟩
    exact ⟨_, ret_nums rfl tmps W _ _ hp h1, rfl, h2, h3⟩

set_option maxRecDepth 100000 in
set_option maxHeartbeats 8000000 in
theorem of_miss (n : Nat) (f : Nat → Nat) (hf : ∀ i, f i < 256) (w : World) (B m s : Nat) (D : DataW Unit) (hM : Memo w B f m) (ho : w.ownsMap Tryd.prog 30 numElem B m D) (hmap : Maps.IsMap D) (hh : Maps.has D (kl s) = false)
    (hT : Tab w) (hgB : 1 < B) (hm : m + cnt s ≤ 1000000000000)
    (IH : ∀ t, t < s → ∀ W m', Memo W B f m' → Tab W → m' + cnt t ≤ 1000000000000 → Calls Tryd.prog 21 #[.agg (ccells n f B), .int .i64 (t : Int)] W (OfPost W B f t (m' + cnt t))) (hs : s < 256) (h0 : s ≠ 0) :
    Calls Tryd.prog 21 #[.agg (ccells n f B), .int .i64 (s : Int)] w (OfPost w B f s (m + cnt s)) := by
  have hne : ((s : Int) == 0) = false := by rw [beq_eq_false_iff_ne]; omega
  have g9 : (ccells n f B)[9]? = some (.map (some B)) := rfl
  have HM := Lib.hid hM
  have HV := Lib.hid (Maps.atKey_of_not_has (D := D) hh)
  have HO := Lib.hid ho
  have HT := Lib.hid hT
  have HIH := Lib.hid IH
  have HF := Lib.hid hf
  have HMP := Lib.hid hmap
  have hrs := rst_lt hs h0
  have HRS := Lib.hid hrs
  have HLOW := Lib.hid (fun W (h : Tab W) => lowest_at s hs h0 W h)
  have hwo : ∀ W, Calls Tryd.prog 27 #[.int .i64 (s : Int), .int .i64 (((low s).val : Nat) : Int)] W fun e w' => e = .returned (.int .i64 ((rst s : Nat) : Int)) ∧ W = w' := fun W => without_any s (low s).val hs (low s).isLt W
  have HWO := Lib.hid hwo
  have hszs := size_rst hs h0
  have hcnt : m + cnt (rst s) ≤ 1000000000000 := by
    have : cnt (rst s) ≤ cnt s := Nat.pow_le_pow_right (by decide) (by omega)
    omega
  have hlow8 : (((low s).val : Nat) : Int) < 8 := by have := (low s).isLt; omega
  have hand : bits .and .i64 (f (low s).val : Int) (rst s : Int) = (tieOf f s : Int) := by
    have h1 := hf (low s).val
    rw [and64 _ _ (by omega) (by omega)]; rfl
  have HAND := Lib.hid hand
  have HCNT := Lib.hid hcnt
  clear hwo hszs hcnt hand
  clear ho hM hT IH hmap
  clear hf hrs
  refine (callsIn_wide (n := 9)).1 ?_
  refine callsIn_of_wp_marks Tryd.func21 rfl trivial ?_ rfl
  simp only [Tryd.ntmps21, List.size_toArray, List.length_cons, List.length_nil, Nat.reduceAdd, Nat.reduceSub, Array.replicate_succ, Array.replicate_zero, List.push_toArray, List.append_toArray, List.nil_append, List.cons_append]
  obtain ⟨W1, hW1⟩ : ∃ W1, ((w.alloc (.cells (ccells n f B) 36)).alloc (.cells #[.int .i64 0, .int .i64 0, .int .i64 0, .int .i64 0, .int .i64 0] 40)).alloc (.cells (ncells fun _ => 0) 40) = W1 := ⟨_, rfl⟩
  have hb1 : Below w.heap.size w W1 := by rw [← hW1]; exact (((Below.refl _ _).alloc (Nat.le_refl _) _).alloc (by simp) _).alloc (by simp; omega) _
  have hsz1 : W1.heap.size = w.heap.size + 1 + 1 + 1 := by rw [← hW1]; simp
  have hc1 : W1.heap[w.heap.size]? = some (.cells (ccells n f B) 36 (0, 0)) := by
    rw [← hW1, Below.heap_alloc _ _ _ (by simp; omega), Below.heap_alloc _ _ _ (by simp)]; exact World.alloc_heap_new _ _
  have hr1 : W1.heap[w.heap.size + 1]? = some (.cells (ncells fun _ => 0) 40 (0, 0)) := by
    rw [← hW1, Below.heap_alloc _ _ _ (by simp)]; exact new_nums (w.alloc (.cells (ccells n f B) 36)) (fun _ => 0) (w.heap.size + 1) (by simp)
  have HB1 := Lib.hid hb1
  have HC1 := Lib.hid hc1
  have HR1 := Lib.hid hr1
  have hT1 := HT.out.later hb1
  have HT1 := Lib.hid hT1
  clear hb1 hc1 hr1 hT1
  gi_wp2_with (first
    | (gi_at_lookup; refine wpListIn_lookup_own_ok _ rfl _ _ 34 rfl 30 40 (Maps.int_keyed Tryd.underlying30) Tryd.underlying34 numElem (zeroMN _) (numDatum fun _ => 0) [] (numElem_mk _) B m D rfl ((HO.out.alloc _).alloc _) _ (kl s) rfl (keyOf_set hs) ?_; intro v ps hv; rw [HV.out] at hv; obtain rfl := numElem_inv hv; clear hv)
    | (refine store_nums_new_in rfl _ _ rfl (fun _ => 0) (w.heap.size + 1 + 1) (by simp) rfl rfl ?_; rw [hW1])
    | (refine ⟨trivial, ?_⟩; gi_at_call 26; refine (callsIn_wide.2 (HLOW.out _ HT1.out)).mono ?_; rintro e w' ⟨rfl, rfl⟩)
    | (refine ⟨trivial, ?_⟩; gi_at_call 27; refine (callsIn_wide.2 (HWO.out _)).mono ?_; rintro e w' ⟨rfl, rfl⟩)
    | (refine load_counter_in rfl _ rfl w.heap.size n f B rfl ((Below.heap_alloc _ _ _ (by rw [hsz1]; omega)).trans HC1.out) ?_))
  have hbW2 : Below w.heap.size w (W1.alloc (.cells #[.int .i64 ((rst s : Nat) : Int)] 30)) := HB1.out.alloc HB1.out.size _
  have hT2 := HT.out.later hbW2
  have hM2 := HM.out.below hbW2
  have hBw := HM.out.lt
  refine ⟨trivial, ?_⟩
  refine (callsIn_wide.2 (HIH.out (rst s) HRS.out _ m hM2 hT2 HCNT.out)).mono ?_
  clear hW1
  rintro e w2 ⟨rfl, hM3, hw2⟩
  have hszW2 : (W1.alloc (.cells #[.int .i64 ((rst s : Nat) : Int)] 30)).heap.size = w.heap.size + 1 + 1 + 1 + 1 := by simp [hsz1]
  have hsz2 : w.heap.size + 1 + 1 + 1 + 1 ≤ w2.heap.size := by have := hw2.size; rw [hszW2] at this; exact this
  have hc2 : w2.heap[w.heap.size]? = some (.cells (ccells n f B) 36 (0, 0)) := (hw2.block _ (by rw [hszW2]; omega) (.inr (by omega))).trans ((Below.heap_alloc _ _ _ (by rw [hsz1]; omega)).trans HC1.out)
  have hr2 : w2.heap[w.heap.size + 1]? = some (.cells (ncells fun _ => 0) 40 (0, 0)) := (hw2.block _ (by rw [hszW2]; omega) (.inr (by omega))).trans ((Below.heap_alloc _ _ _ (by rw [hsz1]; omega)).trans HR1.out)
  have hs2 : w2.heap[w.heap.size + 1 + 1 + 1]? = some (.cells #[.int .i64 ((rst s : Nat) : Int)] 30 (0, 0)) := (hw2.block _ (by rw [hszW2]; omega) (.inr (by omega))).trans (by rw [← hsz1]; exact World.alloc_heap_new _ _)
  have hw02 : Within B (B + 1) w w2 := (⟨hbW2.os, hbW2.tape, hbW2.output, hbW2.size, fun k hk _ => hbW2.block k hk⟩ : Within B (B + 1) w _).trans hw2
  obtain ⟨W3, hW3⟩ : ∃ W3, w2.alloc (.cells (ncells (nums f (rst s))) 40) = W3 := ⟨_, rfl⟩
  have hb3 : Below w2.heap.size w2 W3 := by rw [← hW3]; exact (Below.refl _ _).alloc (Nat.le_refl _) _
  have hsz3 : W3.heap.size = w2.heap.size + 1 := by rw [← hW3]; simp
  have hn3 : W3.heap[w2.heap.size]? = some (.cells (ncells (nums f (rst s))) 40 (0, 0)) := by rw [← hW3]; exact World.alloc_heap_new _ _
  have hc3 := (hb3.block _ (by omega)).trans hc2
  have hr3 := (hb3.block _ (by omega)).trans hr2
  have hs3 := (hb3.block _ (by omega)).trans hs2
  have hM4 := hM3.below hb3
  have hw03 : Within B (B + 1) w W3 := hw02.trans ⟨hb3.os, hb3.tape, hb3.output, hb3.size, fun k hk _ => hb3.block k hk⟩
  have hT3 := HT.out.within hw03 hgB
  obtain ⟨c0, cs, c9, cf, clt⟩ := counter_cells hc3
  have cl := cs (low s).val (low s).isLt
  have crs : W3.cell? ⟨w.heap.size + 1 + 1 + 1, 0, none⟩ = some (.int .i64 ((rst s : Nat) : Int)) := by rw [cell_of_row _ _ _ _ _ _ hs3]; rfl
  have HN3 := Lib.hid hn3
  have HC3 := Lib.hid hc3
  have HR3 := Lib.hid hr3
  have HS3 := Lib.hid hs3
  have HM4 := Lib.hid hM4
  have HW03 := Lib.hid hw03
  have HT3 := Lib.hid hT3
  have HZ := Lib.hid (And.intro hsz3 (And.intro hsz2 (And.intro clt hBw)))
  have hand := HAND.out
  clear hbW2 hT2 hM2 hBw hM3 hw2 hszW2 hsz2 hc2 hr2 hs2 hw02 hb3 hsz3 hn3 hc3 hr3 hs3 hM4 hw03 hT3 c0 cs c9 cf clt hsz1 HB1 HC1 HR1 HT1
  gi_wp2_with (first
    | (refine store_nums_new_in rfl _ _ rfl (nums f (rst s)) w2.heap.size rfl rfl rfl ?_; rw [hW3]))
  clear hW3
  have hfo : Tryd.prog.follows Departure.mixedOrders = true := by kernel_rfl
  rename_i K1 hK1 K0 hK0
  obtain ⟨KEY, -⟩ : (K0 { tmps := #[.agg (ccells n f B), .int .i64 (s : Int), .pointer (some ⟨w.heap.size, 0, none⟩), undef, .pointer (some ⟨w.heap.size + 1, 0, none⟩), .pointer (some ⟨w.heap.size + 1 + 1, 0, none⟩), .bool false, .int .i64 (((low s).val : Nat) : Int), .pointer (some ⟨w.heap.size + 1 + 1 + 1, 0, none⟩), .pointer (some ⟨w2.heap.size, 0, none⟩), undef, undef, undef, .int .i64 (s : Int), .bool false, undef, .tuple #[.agg (ncells fun _ => 0), .bool false], .pointer (some ⟨w.heap.size, 9, none⟩), .map (some B), .int .i64 (s : Int), .tuple #[.agg (ncells fun _ => 0), .bool false], .agg (ncells fun _ => 0), .bool false, .bool false, undef, .int .i64 (s : Int), .int .i64 (((low s).val : Nat) : Int), .int .i64 (s : Int), .int .i64 (((low s).val : Nat) : Int), .int .i64 ((rst s : Nat) : Int), .agg (ccells n f B), .int .i64 ((rst s : Nat) : Int), .agg (ncells (nums f (rst s))), .int .i64 (((low s).val : Nat) : Int), .pointer (some ⟨w.heap.size, 0, none⟩), .pointer (some ⟨w.heap.size, 1, none⟩), .pointer (some ⟨w.heap.size, 1 + (low s).val, none⟩), .int .i64 ((f (low s).val : Nat) : Int), .int .i64 ((rst s : Nat) : Int), .int .i64 ((tieOf f s : Nat) : Int), seqOf W3.heap.size, undef, undef, undef, undef, undef, undef, undef, undef, undef, undef, undef, undef, undef, undef, undef, undef, undef, undef, undef, undef, undef, undef, undef, undef, undef], defers := [] } (W3.alloc (.cells #[.int .i64 ((tieOf f s : Nat) : Int)] 30)).drew) ∧ True := by
    refine ⟨?_, trivial⟩
    refine hK0 _ _ ?_
    clear hK0
    have HK1 := Lib.hid hK1
    clear hK1 cl crs hand
    gi_wp2
    obtain ⟨hsz3, hsz2, clt, hBw⟩ := HZ.out
    obtain ⟨W4, hW4⟩ : ∃ W4, (W3.alloc (.cells #[.int .i64 ((tieOf f s : Nat) : Int)] 30)).drew = W4 := ⟨_, rfl⟩
    have hb4 : Below W3.heap.size W3 W4 := by rw [← hW4]; exact ((Below.refl _ _).alloc (Nat.le_refl _) _).drew
    have hsz4 : W4.heap.size = W3.heap.size + 1 := by rw [← hW4]; show (W3.alloc _).heap.size = _; simp
    have hst4 : W4.heap[W3.heap.size]? = some (.cells #[.int .i64 ((tieOf f s : Nat) : Int)] 30 (0, 0)) := by rw [← hW4]; exact World.alloc_heap_new _ _
    have hM5 := HM4.out.below hb4
    have hT4 := HT3.out.later hb4
    have hI0 : Linked w n f B m s w.heap.size w2.heap.size [] W4 := by
      refine ⟨?_, (hb4.block _ (by omega)).trans HC3.out, (hb4.block _ (by omega)).trans HR3.out, (hb4.block _ (by omega)).trans HS3.out, by simpa using hM5, HW03.out.trans ⟨hb4.os, hb4.tape, hb4.output, hb4.size, fun k hk _ => hb4.block k hk⟩⟩
      rw [hb4.block _ (by omega), HN3.out]
      congr 2
    rw [hW4]
    clear hW4
    have htie := tie_lt (f := f) hs
    have HI0 := Lib.hid hI0
    clear hI0 hM5
    refine wpIn_rangeFunc_ownG rfl (by decide) (gf := 32) (lb := #[.pointer (some ⟨W3.heap.size, 0, none⟩)]) rfl trivial (enters_of Tryd.func32 (by kernel_rfl) rfl)
      (all_stops (9 - 1) (by decide) W3.heap.size B (tieOf f s) htie W4 hgB (by omega) (cell_of_one hst4) hT4) belowK_t (belowK_b (by omega)) (Below.refl _ _) (fun _ => rfl)
      (Linked w n f B m s w.heap.size w2.heap.size) (fun _ _ _ => False) (linked_own (by omega) (by omega) (by omega) (by omega)) (fun _ _ _ _ _ h _ _ => h.elim) HI0.out
      (fun x => { tmps := #[.agg (ccells n f B), .int .i64 (s : Int), .pointer (some ⟨w.heap.size, 0, none⟩), undef, .pointer (some ⟨w.heap.size + 1, 0, none⟩), .pointer (some ⟨w.heap.size + 1 + 1, 0, none⟩), .bool false, .int .i64 (((low s).val : Nat) : Int), .pointer (some ⟨w.heap.size + 1 + 1 + 1, 0, none⟩), .pointer (some ⟨w2.heap.size, 0, none⟩), .int .i64 (x.val : Int), undef, undef, .int .i64 (s : Int), .bool false, undef, .tuple #[.agg (ncells fun _ => 0), .bool false], .pointer (some ⟨w.heap.size, 9, none⟩), .map (some B), .int .i64 (s : Int), .tuple #[.agg (ncells fun _ => 0), .bool false], .agg (ncells fun _ => 0), .bool false, .bool false, undef, .int .i64 (s : Int), .int .i64 (((low s).val : Nat) : Int), .int .i64 (s : Int), .int .i64 (((low s).val : Nat) : Int), .int .i64 ((rst s : Nat) : Int), .agg (ccells n f B), .int .i64 ((rst s : Nat) : Int), .agg (ncells (nums f (rst s))), .int .i64 (((low s).val : Nat) : Int), .pointer (some ⟨w.heap.size, 0, none⟩), .pointer (some ⟨w.heap.size, 1, none⟩), .pointer (some ⟨w.heap.size, 1 + (low s).val, none⟩), .int .i64 ((f (low s).val : Nat) : Int), .int .i64 ((rst s : Nat) : Int), .int .i64 ((tieOf f s : Nat) : Int), seqOf W3.heap.size, .int .i64 (x.val : Int), undef, undef, undef, undef, undef, undef, undef, undef, undef, undef, undef, undef, undef, undef, undef, undef, undef, undef, undef, undef, undef, undef, undef, undef], defers := [] })
      ?assign ?body ?done ?stop
    case assign =>
      intro l x W K hK
      clear hsz3 hsz4
      gi_wp2
      exact hK
    case body =>
      rintro l pre x W hI hlen
      obtain ⟨h1, h2, h3, h4, h5, h6⟩ := hI
      have hpre8 : pre.length < 8 := Nat.lt_of_lt_of_le hlen (bitsOf_len _)
      have hrs8 : rst s < 256 := Nat.lt_trans HRS.out hs
      obtain ⟨t, ht⟩ : ∃ t, wo (rst s) x.val = t := ⟨_, rfl⟩
      have ht8 : t < 256 := by rw [← ht]; exact Nat.lt_of_le_of_lt (wo_le _ _) hrs8
      have hts : t < s := by rw [← ht]; exact Nat.lt_of_le_of_lt (wo_le _ _) HRS.out
      have htc : cnt t ≤ cnt (rst s) := by rw [← ht]; exact cnt_wo_le hrs8 x
      have hszs := size_rst hs h0
      have hcs : cnt s = 10 * cnt (rst s) := by unfold cnt; rw [← hszs, Nat.pow_succ, Nat.mul_comm]
      have hmul : pre.length * cnt (rst s) + cnt (rst s) ≤ 8 * cnt (rst s) := by rw [← Nat.succ_mul]; exact Nat.mul_le_mul_right _ (by omega)
      have hm5 : m + cnt (rst s) + pre.length * cnt (rst s) + cnt t ≤ 1000000000000 := by omega
      have hTW := HT.out.within h6 hgB
      have hwo : ∀ W, Calls Tryd.prog 27 #[.int .i64 ((rst s : Nat) : Int), .int .i64 (x.val : Int)] W fun e w' => e = .returned (.int .i64 (t : Int)) ∧ W = w' := fun W => by
        rw [← ht]; exact without_any (rst s) x.val hrs8 x.isLt W
      have hof := HIH.out t hts W.drew _ (h5.below (Below.refl _ W).drew) (hTW.later (Below.refl _ W).drew) hm5
      have hfar : nums f t 4 = 0 := by
        refine nums_far f _ t ht8 rfl 4 ?_
        have := bitsOf_len s
        have h8 := size_wo_le hrs8 x
        rw [ht] at h8
        omega
      have crs := cell_of_one h4
      obtain ⟨c0, cs, c9, _, _⟩ := counter_cells h2
      have c1 : W.cell? ⟨w.heap.size, 1, none⟩ = _ := cs 0 (by decide)
      have c2 : W.cell? ⟨w.heap.size, 2, none⟩ = _ := cs 1 (by decide)
      have c3 : W.cell? ⟨w.heap.size, 3, none⟩ = _ := cs 2 (by decide)
      have c4 : W.cell? ⟨w.heap.size, 4, none⟩ = _ := cs 3 (by decide)
      have c5 : W.cell? ⟨w.heap.size, 5, none⟩ = _ := cs 4 (by decide)
      have c6 : W.cell? ⟨w.heap.size, 6, none⟩ = _ := cs 5 (by decide)
      have c7 : W.cell? ⟨w.heap.size, 7, none⟩ = _ := cs 6 (by decide)
      have c8 : W.cell? ⟨w.heap.size, 8, none⟩ = _ := cs 7 (by decide)
      clear cs
      have HWO2 := Lib.hid hwo
      have HOF := Lib.hid hof
      have HC := Lib.hid h2
      have HALL := Lib.hid (And.intro h1 (And.intro h2 (And.intro h3 (And.intro h4 (And.intro h5 h6)))))
      have HZ4 := Lib.hid (And.intro hsz3 (And.intro hsz2 (And.intro clt (And.intro hBw (And.intro hsz4 (And.intro hcs (And.intro htc hmul)))))))
      have HFAR := Lib.hid hfar
      clear hwo hof h1 h2 h3 h4 h5 h6 hTW hmul hszs hsz3 hsz2 clt hBw hsz4 hcs htc hfar hst4 hT4 hb4
      gi_wp2
      refine round_k (fun K3 hK3 => ?_)
      have HK3 := Lib.hid hK3
      clear hK3
      obtain ⟨KEY3, -⟩ : (∀ (u42 : Value) (w5 : World), Memo w5 B f (m + cnt (rst s) + pre.length * cnt (rst s) + cnt t) → Within B (B + 1) W.drew w5 → K3 { tmps := #[.agg (ccells n f B), .int .i64 (s : Int), .pointer (some ⟨w.heap.size, 0, none⟩), undef, .pointer (some ⟨w.heap.size + 1, 0, none⟩), .pointer (some ⟨w.heap.size + 1 + 1, 0, none⟩), .bool false, .int .i64 (((low s).val : Nat) : Int), .pointer (some ⟨w.heap.size + 1 + 1 + 1, 0, none⟩), .pointer (some ⟨w2.heap.size, 0, none⟩), .int .i64 (x.val : Int), undef, undef, .int .i64 (s : Int), .bool false, undef, .tuple #[.agg (ncells fun _ => 0), .bool false], .pointer (some ⟨w.heap.size, 9, none⟩), .map (some B), .int .i64 (s : Int), .tuple #[.agg (ncells fun _ => 0), .bool false], .agg (ncells fun _ => 0), .bool false, .bool false, undef, .int .i64 (s : Int), .int .i64 (((low s).val : Nat) : Int), .int .i64 (s : Int), .int .i64 (((low s).val : Nat) : Int), .int .i64 ((rst s : Nat) : Int), .agg (ccells n f B), .int .i64 ((rst s : Nat) : Int), .agg (ncells (nums f (rst s))), .int .i64 (((low s).val : Nat) : Int), .pointer (some ⟨w.heap.size, 0, none⟩), .pointer (some ⟨w.heap.size, 1, none⟩), .pointer (some ⟨w.heap.size, 1 + (low s).val, none⟩), .int .i64 ((f (low s).val : Nat) : Int), .int .i64 ((rst s : Nat) : Int), .int .i64 ((tieOf f s : Nat) : Int), seqOf W3.heap.size, .int .i64 (x.val : Int), u42, .int .i64 ((rst s : Nat) : Int), .int .i64 (x.val : Int), .int .i64 ((t : Nat) : Int), .agg (ncells (nums f t)), .int .i64 0, undef, undef, undef, undef, undef, undef, undef, undef, undef, undef, undef, undef, undef, undef, undef, undef, undef, undef], defers := [] } w5) ∧ True := by
        refine ⟨?_, trivial⟩
        intro u42 w5 hM5 hw5
        refine HK3.out _ _ ?_
        clear HK3 crs c0 c1 c2 c3 c4 c5 c6 c7 c8 c9
        gi_wp2
        obtain ⟨h1, h2, h3, h4, h5, h6⟩ := HALL.out
        obtain ⟨hsz3, hsz2, clt, hBw, hsz4, hcs, htc, hmul⟩ := HZ4.out
        have hw : Within B (B + 1) W w5 := ⟨hw5.os, hw5.tape, hw5.output, hw5.size, hw5.block⟩
        have l1 := (Array.getElem?_eq_some_iff.1 h1).1
        have g1 : w5.heap[w2.heap.size]? = some (.cells (ncells (prt f s pre x 0)) 40 (0, 0)) := (hw.block _ l1 (.inr (by omega))).trans (h1.trans (by rw [prt_zero]))
        have g2 := (hw.block _ (Array.getElem?_eq_some_iff.1 h2).1 (.inr (by omega))).trans h2
        have g3 := (hw.block _ (Array.getElem?_eq_some_iff.1 h3).1 (.inr (by omega))).trans h3
        have g4 := (hw.block _ (Array.getElem?_eq_some_iff.1 h4).1 (.inr (by omega))).trans h4
        have gK : KeepsFrom W4.heap.size W w5 := ⟨hw.size, fun k o hk ho _ => (hw.block k (Array.getElem?_eq_some_iff.1 ho).1 (.inr (by omega))).trans ho⟩
        have gB : Below B W w5 := ⟨hw.os, hw.tape, hw.output, hw.size, fun k hk => hw.block k (by omega) (.inl hk)⟩
        have gW := h6.trans hw
        clear h1 h2 h3 h4 h5 h6 hsz3 hsz4 hcs htc hmul hw hw5
        refine wpIn_loop (fun a wr => ∃ (k : Nat) (u11 u12 u48 u49 u50 u51 u52 u53 u54 u55 u56 u57 u58 u59 u60 : Value), k ≤ 5 ∧ wr.heap[w2.heap.size]? = some (.cells (ncells (prt f s pre x k)) 40 (0, 0)) ∧ wr.heap[w.heap.size]? = some (.cells (ccells n f B) 36 (0, 0)) ∧
          wr.heap[w.heap.size + 1]? = some (.cells (ncells fun _ => 0) 40 (0, 0)) ∧ wr.heap[w.heap.size + 1 + 1 + 1]? = some (.cells #[.int .i64 ((rst s : Nat) : Int)] 30 (0, 0)) ∧
          Memo wr B f (m + cnt (rst s) + pre.length * cnt (rst s) + cnt t) ∧ Within B (B + 1) w wr ∧ KeepsFrom W4.heap.size W wr ∧ Below B W wr ∧ a = { tmps := #[.agg (ccells n f B), .int .i64 (s : Int), .pointer (some ⟨w.heap.size, 0, none⟩), undef, .pointer (some ⟨w.heap.size + 1, 0, none⟩), .pointer (some ⟨w.heap.size + 1 + 1, 0, none⟩), .bool false, .int .i64 (((low s).val : Nat) : Int), .pointer (some ⟨w.heap.size + 1 + 1 + 1, 0, none⟩), .pointer (some ⟨w2.heap.size, 0, none⟩), .int .i64 (x.val : Int), u11, u12, .int .i64 (s : Int), .bool false, undef, .tuple #[.agg (ncells fun _ => 0), .bool false], .pointer (some ⟨w.heap.size, 9, none⟩), .map (some B), .int .i64 (s : Int), .tuple #[.agg (ncells fun _ => 0), .bool false], .agg (ncells fun _ => 0), .bool false, .bool false, undef, .int .i64 (s : Int), .int .i64 (((low s).val : Nat) : Int), .int .i64 (s : Int), .int .i64 (((low s).val : Nat) : Int), .int .i64 ((rst s : Nat) : Int), .agg (ccells n f B), .int .i64 ((rst s : Nat) : Int), .agg (ncells (nums f (rst s))), .int .i64 (((low s).val : Nat) : Int), .pointer (some ⟨w.heap.size, 0, none⟩), .pointer (some ⟨w.heap.size, 1, none⟩), .pointer (some ⟨w.heap.size, 1 + (low s).val, none⟩), .int .i64 ((f (low s).val : Nat) : Int), .int .i64 ((rst s : Nat) : Int), .int .i64 ((tieOf f s : Nat) : Int), seqOf W3.heap.size, .int .i64 (x.val : Int), u42, .int .i64 ((rst s : Nat) : Int), .int .i64 (x.val : Int), .int .i64 ((t : Nat) : Int), .agg (ncells (nums f t)), .int .i64 (k : Int), u48, u49, u50, u51, u52, u53, u54, u55, u56, u57, u58, u59, u60, undef, undef, undef, undef, undef], defers := [] })
          (fun a _ => 5 - (intOf (a.tmps.getD 47 undef)).toNat) ⟨0, _, _, _, _, _, _, _, _, _, _, _, _, _, _, _, by omega, g1, g2, g3, g4, hM5, gW, gK, gB, rfl⟩ ?_
        clear g1 g2 g3 g4 gK gB gW hM5
        rintro a wr ⟨k, u11, u12, u48, u49, u50, u51, u52, u53, u54, u55, u56, u57, u58, u59, u60, hk5, g1, g2, g3, g4, gM, gW, gK, gB, rfl⟩
        refine round_k (fun K hK => ?_)
        have HK := Lib.hid hK
        have HG := Lib.hid (And.intro g2 (And.intro g3 (And.intro g4 (And.intro gM (And.intro gW (And.intro gK gB))))))
        have HG1 := Lib.hid g1
        clear hK g1 g2 g3 g4 gM gW gK gB
        by_cases hlt : k < 5
        · have hltI : (k : Int) < 5 := by omega
          obtain ⟨j, hj⟩ : ∃ j, k + 1 = j := ⟨_, rfl⟩
          have hjI : (k : Int) + 1 = (j : Int) := by omega
          have hjs := wrap_small (a := j) (by omega)
          have hw2 : wrap64 ((k : Int) + 1) = (j : Int) := by rw [hjI]; exact hjs.2
          have hw1 : IntKind.i64.wrap ((k : Int) + 1) = (j : Int) := by rw [hjI]; exact hjs.1
          have HW1 := Lib.hid hw1
          have HW2 := Lib.hid hw2
          clear hjs hw1 hw2
          by_cases hz : nums f t k = 0
          · have hidx : ∀ W, (Instr.index 40 (.agg (ncells (nums f t))) (.int .i64 (k : Int))).run Tryd.prog W = .ok (.int .i64 0) W := fun W => by rw [index_nums _ _ hlt, hz]; rfl
            have hw1 := HW1.out
            have hw2 := HW2.out
            clear hjI
            gi_wp2
            clear hw1 hw2 hidx
            obtain ⟨g2, g3, g4, gM, gW, gK, gB⟩ := HG.out
            refine HK.out _ _ ⟨⟨j, _, _, _, _, _, _, _, _, _, _, _, _, _, _, _, by omega, HG1.out.trans (by rw [← hj, prt_same _ _ _ _ _ (by rw [ht]; exact hz)]), g2, g3, g4, gM, gW, gK, gB, rfl⟩, ?_⟩
            simp [intOf]; omega
          · have hk4 : k < 4 := by
              by_cases h4 : k = 4
              · exact (hz (by rw [h4]; exact HFAR.out)).elim
              · omega
            obtain ⟨p, q, r, SF⟩ := step_facts hs hpre8 ht ht8 hj hk4 hz HG1.out
            have hidx := SF.idx
            have cj := SF.cell
            have fj := SF.frozen
            have hq0 := SF.q0
            have hq1 := SF.q1
            have hj5 := SF.j5
            have hv1 := SF.w1
            have hv2 := SF.w2
            have HST := Lib.hid SF.set
            have hw1 := HW1.out
            have hw2 := HW2.out
            clear hjI SF hz hk4
            gi_wp2
            clear hw1 hw2 hv1 hv2 hidx hq0 hq1 cj fj hj5
            obtain ⟨g2, g3, g4, gM, gW, gK, gB⟩ := HG.out
            have hset : ∀ b, b ≠ w2.heap.size → (wr.setCell ⟨w2.heap.size, j, none⟩ (.int .i64 (r : Int))).heap[b]? = wr.heap[b]? := fun b hb => Below.heap_setCell _ _ _ b hb
            have hgs : wr.grownBy (wr.setCell ⟨w2.heap.size, j, none⟩ (.int .i64 (r : Int))) (some w2.heap.size) := grown_setCell _ _ _ _
            refine HK.out _ _ ⟨⟨j, _, _, _, _, _, _, _, _, _, _, _, _, _, _, _, by omega, (heap_setCell_same wr w2.heap.size j _ 40 _ HG1.out).trans (by rw [HST.out]), (hset _ (by omega)).trans g2, (hset _ (by omega)).trans g3, (hset _ (by omega)).trans g4,
              gM.kept hgs (by simp; omega), ⟨gW.os, gW.tape, gW.output, Nat.le_trans gW.size hgs.size, fun b hb ho => (hset b (by omega)).trans (gW.block b hb ho)⟩,
              gK.trans ((KeepsOthers.setCell _ _ _).from _), gB.setCell (p := ⟨w2.heap.size, j, none⟩) (by show B ≤ w2.heap.size; omega) _, rfl⟩, ?_⟩
            simp [intOf]; omega
        · obtain rfl : k = 5 := by omega
          gi_wp2
          obtain ⟨g2, g3, g4, gM, gW, gK, gB⟩ := HG.out
          obtain ⟨hsz3, hsz2, clt, hBw, hsz4, hcs, htc, hmul⟩ := HZ4.out
          refine ⟨gK, gB, HG1.out.trans (by rw [prt_all]), g2, g3, g4, gM.mono ?_, gW⟩
          rw [List.length_append, List.length_singleton, Nat.add_mul]
          omega
      gi_region_with_o (first
        | (refine ⟨trivial, ?_⟩; gi_at_call 27; refine (CallsIn.inRound l (callsIn_wide.2 (HWO2.out _))).mono ?_; rintro e w' ⟨rfl, rfl⟩)
        | (gi_at_call 27; refine (CallsIn.inRound l (callsIn_wide.2 (HWO2.out _))).mono ?_; rintro e w' ⟨rfl, rfl⟩)
        | (refine ⟨trivial, ?_⟩; gi_at_call 21; refine (CallsIn.inRound l (callsIn_wide.2 HOF.out)).mono ?_; rintro e w' ⟨rfl, hM', hw'⟩)
        | (gi_at_call 21; refine (CallsIn.inRound l (callsIn_wide.2 HOF.out)).mono ?_; rintro e w' ⟨rfl, hM', hw'⟩))
      all_goals exact KEY3 _ _ hM' hw'
    case done =>
      rintro Dd ys W hDd rfl ⟨h1, h2, h3, h4, h5, h6⟩ hKD
      clear HIH HLOW HWO HAND
      obtain ⟨_, _, c9, _, _⟩ := counter_cells h2
      have l1 := (Array.getElem?_eq_some_iff.1 h1).1
      have l3 := (Array.getElem?_eq_some_iff.1 h3).1
      rw [ncells_congr (h := nums f s) (fun i _ => (nums_step hs h0 i).symm)] at h1
      obtain ⟨M, hMe⟩ : ∃ M, m + cnt (rst s) + (bitsOf (tieOf f s)).length * cnt (rst s) = M := ⟨_, rfl⟩
      have hszs := size_rst hs h0
      have hcs : cnt s = 10 * cnt (rst s) := by unfold cnt; rw [← hszs, Nat.pow_succ, Nat.mul_comm]
      have hmul : (bitsOf (tieOf f s)).length * cnt (rst s) ≤ 8 * cnt (rst s) := Nat.mul_le_mul_right _ (bitsOf_len _)
      have hpos : 1 ≤ cnt (rst s) := Nat.one_le_pow _ _ (by decide)
      have hM1 : M + 1 ≤ m + cnt s := by omega
      have hroom : M < maxLen := by unfold maxLen; omega
      rw [hMe] at h5
      obtain ⟨D', ho5, hmp5, hv5⟩ := h5
      have H1 := Lib.hid h1
      have H3 := Lib.hid h3
      have HO5 := Lib.hid ho5
      have HV5 := Lib.hid hv5
      have HW6 := Lib.hid h6
      have HKD := Lib.hid hKD
      have HDW := Lib.hid (show w.heap.size ≤ Dd by omega)
      have HR := Lib.hid (And.intro hroom hM1)
      clear h1 h2 h3 h4 h6 hszs hcs hmul hpos hM1 hroom ho5 hv5 hMe hKD hst4 hT4 hb4 hsz3 hsz4
      gi_wp2
      refine HK1.out _ _ ?_
      clear HK1
      gi_wp2_with (first
        | (gi_at_mapUpdate; refine wpListIn_mapUpdate_own _ rfl _ _ _ 34 rfl 30 40 (Maps.int_keyed Tryd.underlying30) Tryd.underlying34 numElem B M _ rfl HO5.out HR.out.1 _ _ (kl s) rfl rfl (keyOf_set hs) (numDatum (nums f s)) [] (numElem_mk _) ?_; intro w6 ho6 hg6)
        | (refine load_nums_in rfl _ rfl w2.heap.size (nums f s) rfl H1.out ?_)
        | (refine load_nums_in rfl _ rfl w2.heap.size (nums f s) rfl ((hg6.block _ (by exact l1) (by simp; omega)).trans H1.out) ?_)
        | (refine store_nums_in rfl _ _ rfl (w.heap.size + 1) (nums f s) rfl rfl (fun _ => 0) ((hg6.block _ (by exact l3) (by simp; omega)).trans H3.out) ?_))
      have hDw := HDW.out
      have hkd := (hg6.block Dd (Array.getElem?_eq_some_iff.1 HKD.out).1 (by simp; omega)).trans HKD.out
      have h36 := (hg6.block _ l3 (by simp; omega)).trans H3.out
      have hM6 : Memo w6 B f (M + 1) := Memo.put ho6 hmp5 HV5.out
      have hgr : w6.grownBy (w6.setRow (w.heap.size + 1) (ncells (nums f s))) (some (w.heap.size + 1)) := ⟨rfl, rfl, rfl, by simp [World.setRow], fun k _ hk => heap_setRow_other _ _ _ _ (fun e => hk (by rw [e]))⟩
      have h6 := HW6.out
      have hne : Dd ≠ w.heap.size + 1 := fun e => by rw [e, h36] at hkd; cases hkd
      exact of_leave w B (m + cnt s) f s _ (by rfl) Dd _ hBw hDw ((heap_setRow_other _ _ _ _ hne).trans hkd) (heap_setRow_same h36) ((hM6.kept hgr (by simp; omega)).mono HR.out.2)
        ⟨h6.os ▸ hg6.os ▸ rfl, h6.tape ▸ hg6.tape ▸ rfl, h6.output ▸ hg6.output ▸ rfl, Nat.le_trans h6.size (Nat.le_trans hg6.size hgr.size),
          fun k hk ho => (heap_setRow_other _ _ _ _ (by omega)).trans ((hg6.block k (Nat.lt_of_lt_of_le hk h6.size) (by simp; omega)).trans (h6.block k hk ho))⟩
    case stop =>
      rintro D c pre W hD hpre h hKD
      exact h.elim
  clear hK0 hK1
  first
    | gi_region_with (refine ⟨trivial, ?_⟩; gi_at_call 28; refine (callsIn_wide.2 (all_any (tieOf f s) _)).mono ?_; rintro e w' ⟨rfl, rfl⟩)
    | fail "region"
  all_goals exact KEY

end Go.Proofs.YtbbnagkbbhbbgaaDoor
