/-
  impl.sideFrom: the walk.
-/
import Derived.Test.YtjhjfopokiaiiaaSide
import Derived.Deep.AppendLies
import Derived.Deep.RegionLaw
namespace Go.Proofs.Ytjhjfopokiaiiaa
set_option linter.unusedVariables false
set_option linter.unusedSimpArgs false
open Go.RowKit

theorem heap_setRow2 {w : World} {g : Nat} {cs c' : Array Value} {t : TypeId} {fr : Nat × Nat} (h : w.heap[g]? = some (.cells cs t fr)) : (w.setRow g c').heap[g]? = some (.cells c' t fr) := by
  have hlt := (Array.getElem?_eq_some_iff.1 h).1
  have h' : w.heap[g] = .cells cs t fr := by simpa [Array.getElem?_eq_getElem hlt] using h
  show (w.heap.modify g _)[g]? = _
  rw [Array.getElem?_eq_getElem (by simpa using hlt), Array.getElem_modify_self, h']
theorem below_setRow2 {B : Nat} {a w : World} (h : Below B a w) {g : Nat} (hg : B ≤ g) (c : Array Value) : Below B a (w.setRow g c) :=
  h.trans ⟨rfl, rfl, rfl, by simp [World.setRow], fun k hk => by
    show (w.heap.modify g _)[k]? = _
    rw [Array.getElem?_modify, if_neg (by omega)]⟩
theorem grown_setRow2 (W : World) (b : Nat) (c : Array Value) : W.grownBy (W.setRow b c) (some b) := ⟨rfl, rfl, rfl, by simp [World.setRow], fun k _ hk => by
    show (W.heap.modify b _)[k]? = _
    rw [Array.getElem?_modify, if_neg (fun e => hk (by rw [e]))]⟩
theorem heap_two_new (w : World) (o p : Obj) : ((w.alloc o).alloc p).heap[w.heap.size + 1]? = some p := by
  have := World.alloc_heap_new (w.alloc o) p
  rwa [World.size_alloc] at this
theorem heap_two_old (w : World) (o p : Obj) : ((w.alloc o).alloc p).heap[w.heap.size]? = some o :=
  (Below.heap_alloc _ _ _ (by simp)).trans (World.alloc_heap_new w o)

theorem orderFrom_yes (w : World) (v : Value) (xs : List Int) (h : Ints w v xs) (n : Nat) (h1 : 1 ≤ n) (h5 : n ≤ 5) (hr : rankB n xs = true) :
    Calls Try.prog 49 #[.int .i64 (n : Int), v] w fun e w' => ∃ g c, e = .returned (.tuple #[.slice (some ⟨g, 0, none⟩) n c, .bool true]) ∧ Below w.heap.size w w' ∧ Owns w' w.heap.size (.slice (some ⟨g, 0, none⟩) n c) xs := by
  refine (orderFrom_any w v xs h n h1 h5).mono ?_
  rintro e w' ⟨u, rfl, hb, ho⟩
  rw [ordOf_yes hr] at ho
  have hl := (rank_parts hr).1
  rcases ho.2 with ⟨rfl, hn⟩ | ⟨g, cap, cur, rfl, hb', rest⟩
  · omega
  · exact ⟨g, cap, by rw [hr, hl], hb, by rw [← hl]; exact ⟨ho.1, .inr ⟨g, cap, cur, rfl, hb', rest⟩⟩⟩

theorem OwnsOrd.last {w : World} {lo hi k : Nat} {v u : Value} {us : List Value} {xss : List (List Int)} (h : OwnsOrd w lo hi v (us ++ [u]) (xss.take (k + 1))) (hn : us.length = k) (hk : k < xss.length) : OwnsInts w lo hi u xss[k] := by
  have h1 := h.inner k (by simp; omega)
  subst hn
  simpa using h1

set_option maxRecDepth 100000 in
set_option maxHeartbeats 4000000 in
theorem sideFrom_any (w : World) (v : Value) (xss : List (List Int)) (h : IntRows w v xss) (h1 : 1 ≤ xss.length) (h5 : xss.length ≤ 5) :
    Calls Try.prog 56 #[v] w (GivesSide w xss) := by
  obtain ⟨A, cap, rfl, hm, hc⟩ := h.at
  obtain ⟨i0, hi, hz0, hz1, hz2⟩ := info_parts infoOrd
  have HC := Lib.hid hc
  clear hc h
  unfold maxLen at hm
  have hA0 : SideAt w ((w.alloc (.cells (two nilS nilS) 52)).alloc (.cells (two nilS nilS) 52)) xss 0 0 nilS nilS [] [] :=
    ⟨((Below.refl _ _).alloc (Nat.le_refl _) _).alloc (by simp) _, heap_two_old _ _ _, heap_two_new _ _ _, OwnsOrd.nil _ _ _ (World.ownsRow_nil _ _ _ _), OwnsOrd.nil _ _ _ (World.ownsRow_nil _ _ _ _), .inl rfl⟩
  have HA0 := Lib.hid hA0
  clear hA0
  go_enter Try.func56, Try.ntmps56
  go_wp2
  go_loopw [6, 7, 8, 11] (fun _ _ _ i wr => ∃ (k : Nat) (A1 : Option Addr) (n1 c1 : Nat) (A2 : Option Addr) (n2 c2 : Nat) (us1 us2 : List Value), k ≤ xss.length ∧ i = .int .i64 k ∧ SideAt w wr xss k k (.slice A1 n1 c1) (.slice A2 n2 c2) us1 us2 ∧ (∀ j (hj : j < xss.length), j < k → rankB xss.length xss[j] = true)) (fun _ _ _ i _ => xss.length - (intOf i).toNat)
  case atStart => exact ⟨0, none, 0, 0, none, 0, 0, [], [], by omega, rfl, HA0.out, fun j hj h => by omega⟩
  case round =>
    obtain ⟨k, A1, n1, c1, A2, n2, c2, us1, us2, hk, rfl, hS, hall⟩ := hrel
    have HS := Lib.hid hS
    have HALL := Lib.hid hall
    have hbel := hS.bel
    clear hall
    by_cases hlt : k < xss.length
    · obtain ⟨b, off, u, rfl, hcell0, hx0⟩ := HC.out k hlt
      have hcell := (hbel.cell (p := ⟨b, off + k, none⟩) (World.block_lt_of_cell? w _ hcell0)).trans hcell0
      have hx := hx0.below hbel
      have hki : (k : Int) < (xss.length : Int) := by omega
      have hk0 : (0 : Int) ≤ (k : Int) := by omega
      have HOF := Lib.hid (orderFrom_any wr u xss[k] hx xss.length h1 h5)
      clear hcell0 hx0
      cases hb : rankB xss.length xss[k] with
      | false =>
        have HF := Lib.hid (sideOk_no hlt hb)
        rw [hb] at HOF
        have hlres := (Array.getElem?_eq_some_iff.1 hS.res).1
        have HRES := Lib.hid (fun w2 (hb2 : Below wr.heap.size wr w2) => (hb2.block _ hlres).trans hS.res)
        clear hb hS
        go_wp2_with (first
          | (go_at_call 49; refine HOF.out.mono ?_; rintro e w2 ⟨r, rfl, hb2, ho2⟩)
          | (refine store_side rfl _ _ rfl w.heap.size nilS nilS rfl rfl nilS nilS rfl rfl (HRES.out _ hb2) ?_))
        refine bodyPost_ret (v := .tuple #[.agg (two nilS nilS), .bool false]) (ret_side2 rfl _ _ w.heap.size nilS nilS (.bool false) rfl rfl (heap_setRow2 (HRES.out _ hb2))) rfl ?_
        exact ⟨none, 0, 0, none, 0, 0, [], by rw [HF.out], below_setRow2 (step_below HS.out.bel hb2) (Nat.le_refl _) _, fun h => by rw [HF.out] at h; cases h⟩
      | true =>
        have HOY := Lib.hid (orderFrom_yes wr u xss[k] hx xss.length h1 h5 hb)
        have hrp := rank_parts hb
        have HB := Lib.hid hb
        have hlres := (Array.getElem?_eq_some_iff.1 hS.cur).1
        have HCUR := Lib.hid (fun w2 (hb2 : Below wr.heap.size wr w2) => (hb2.block _ hlres).trans hS.cur)
        have ho1 : wr.ownsRow w.heap.size 60 1 (.slice A1 n1 c1) k us1 := by
          have := hS.one.outer.1
          rwa [List.length_take, Nat.min_eq_left hk] at this
        have ho2 : wr.ownsRow w.heap.size 60 1 (.slice A2 n2 c2) k us2 := by
          have := hS.two.outer.1
          rwa [List.length_map, List.length_take, Nat.min_eq_left hk] at this
        have HO1 := Lib.hid ho1
        have HO2 := Lib.hid ho2
        have HRP := Lib.hid hrp
        have hbs := hbel.size
        clear hb hS ho1 ho2 hx HOF hrp
        go_wp2_with (first
          | (go_at_call 49; refine HOY.out.mono ?_; rintro e w2 ⟨gr, cr, rfl, hb2, hw2⟩; obtain ⟨hq0, hq1, hqf, hql⟩ := two_cells (HCUR.out _ hb2))
          | (at_builtin; refine wpList_append_lies _ rfl _ _ 50 rfl w.heap.size 60 i0 (.slice none 0 0) 1 24 Try.underlying50 hi hz0 hz1 hz2 rfl (by decide) _ _ _ rfl ((owns_below HO1.out hb2).alloc _) ⟨w2.heap.size, 0, none⟩ 1 1 [.slice (some ⟨gr, 0, none⟩) xss.length cr] rfl rfl (cell_one_new _ _ _) (by simp [Value.oneCell']) (by decide) (by unfold maxLen; omega) (by omega) (by have := hb2.size; simp; omega) _ rfl ?_; intro g cap w3 hown hgrow hgc hglt; obtain ⟨hz0', hz1', hzf, hzl⟩ := two_cells (HS.out.cur3 (hb2.alloc hb2.size _) (.inl hgrow))))
        have hS4 := HS.out.push1 hlt (hb2.alloc hb2.size _) (u := .slice (some ⟨gr, 0, none⟩) xss.length cr) (hw2.alloc _) (by have := HS.out.one.len; rw [List.length_take, Nat.min_eq_left hk] at this; exact this) hown hgrow (by rcases hgc with h | h; exact .inl h; right; rw [h]; have := hb2.size; simp; omega)
        obtain ⟨W4, hW4⟩ : ∃ W4, w3.setCell ⟨w.heap.size + 1, 0, none⟩ (.slice (some ⟨g, 0, none⟩) (k + 1) cap) = W4 := ⟨_, rfl⟩
        rw [hW4] at hS4 ⊢
        have hl1 : us1.length = k := by have := HS.out.one.len; rw [List.length_take, Nat.min_eq_left hk] at this; exact this
        have hl2 : us2.length = k := by have := HS.out.two.len; rw [List.length_map, List.length_take, Nat.min_eq_left hk] at this; exact this
        have hrl : xss[k].length = xss.length := HRP.out.1
        have hint : Ints W4.drew (.slice (some ⟨gr, 0, none⟩) xss.length cr) xss[k] := ints_at_owns (hS4.one.last hl1 hlt)
        have HTU := Lib.hid (turned_any W4.drew _ xss[k] hint (by omega) (by rw [hrl]; exact HRP.out.2.1))
        rw [hrl] at HTU
        obtain ⟨d0, d1, df, dl⟩ := two_cells (w := W4.drew) hS4.cur
        have ho4 : W4.ownsRow w.heap.size 60 1 (.slice A2 n2 c2) k us2 := by
          have := hS4.two.outer.1
          rwa [List.length_map, List.length_take, Nat.min_eq_left hk] at this
        have HO4 := Lib.hid ho4
        have HS4 := Lib.hid hS4
        have HL := Lib.hid (And.intro hl1 (And.intro hl2 hrl))
        have hb4 := hS4.bel.size
        clear hW4 hS4 ho4 hint hown hgrow hgc hglt hz0' hz1' hzf hzl hq0 hq1 hqf hql hw2 hl1 hl2 hrl HO1 HO2 HOY hcell HCUR hlres
        apply once_three (fun (m5 g2 cap2 : Nat) (w' : World) => SideAt w w' xss (k + 1) (k + 1) (.slice (some ⟨g, 0, none⟩) (k + 1) cap) (.slice (some ⟨g2, 0, none⟩) (k + 1) cap2) (us1 ++ [.slice (some ⟨gr, 0, none⟩) xss.length cr]) (us2 ++ [.slice (some ⟨W4.heap.size, 0, none⟩) xss.length xss.length]))
        case h1 =>
          go_region_law (first
            | (go_simp; go_at_call 43; refine HTU.out.mono ?_; rintro e w5 ⟨rfl, hb5, ho5⟩; have hB5 : Below W4.heap.size W4 w5 := ⟨hb5.os, hb5.tape, hb5.output, hb5.size, hb5.block⟩; obtain ⟨e0, e1, ef, el⟩ := two_cells ((hB5.block _ dl).trans HS4.out.cur); have e1' : ∀ o, (w5.alloc o).cell? ⟨w.heap.size + 1, 1, none⟩ = some (.slice A2 n2 c2) := (fun o => by rw [World.cell?_alloc_past _ _ _ el]; exact e1); obtain ⟨m5, hm5⟩ : ∃ m5, w5.heap.size = m5 := ⟨_, rfl⟩)
            | (refine step_append_lies _ (by rfl) (.tmp 32) (.tmp 35) 50 (by rfl) w.heap.size 60 i0 (.slice none 0 0) 1 24 Try.underlying50 hi hz0 hz1 hz2 rfl (by decide) _ _ _ (by rfl) (by exact (owns_below HO4.out hB5).alloc _) ⟨m5, 0, none⟩ 1 1 [.slice (some ⟨W4.heap.size, 0, none⟩) xss.length xss.length] (by rfl) (by rfl) (by subst hm5; exact cell_one_new _ _ _) (by simp [Value.oneCell']) (by decide) (by unfold maxLen; omega) (by omega) (by have := hB5.size; simp; omega) _ (by rfl) ?_; intro g2 cap2 w6 hown6 hgrow6 hgc6 hglt6; obtain ⟨y0, y1, yf, yl⟩ := two_cells (HS4.out.cur3 (hB5.alloc hB5.size _) (.inr hgrow6))))
          all_goals exact ⟨m5, g2, cap2, HS4.out.push2 hlt (hB5.alloc hB5.size _) (u := .slice (some ⟨W4.heap.size, 0, none⟩) xss.length xss.length) (ho5.alloc _) HL.out.2.1 hown6 hgrow6 (by rcases hgc6 with h | h; exact .inl h; right; rw [h]; have := hB5.size; simp; omega), rfl⟩
        intro m5 g2 cap2 w6 hS6
        have HS6 := Lib.hid hS6
        clear hS6
        go_wp2
        go_roundw
        case rel =>
          refine ⟨k + 1, some ⟨g, 0, none⟩, k + 1, cap, some ⟨g2, 0, none⟩, k + 1, cap2, us1 ++ [.slice (some ⟨gr, 0, none⟩) xss.length cr], us2 ++ [.slice (some ⟨W4.heap.size, 0, none⟩) xss.length xss.length], by omega, by go_num, HS6.out, fun j hj h => ?_⟩
          by_cases e : j = k
          · subst e; exact HB.out
          · exact HALL.out j hj (by omega)
        case measure => simp [intOf]; omega
    · obtain rfl : k = xss.length := by omega
      have HY := Lib.hid (sideOk_yes (fun j hj => HALL.out j hj hj))
      have hres := hS.res
      have hcur := hS.cur
      clear hS
      go_wp2_with (first
        | (refine load_side rfl _ rfl (w.heap.size + 1) (.slice A1 n1 c1) (.slice A2 n2 c2) rfl hcur ?_)
        | (refine store_side rfl _ _ rfl w.heap.size (.slice A1 n1 c1) (.slice A2 n2 c2) rfl rfl nilS nilS rfl rfl hres ?_))
      refine bodyPost_ret (v := .tuple #[.agg (two (.slice A1 n1 c1) (.slice A2 n2 c2)), .bool true]) (ret_side2 rfl _ _ w.heap.size _ _ (.bool true) rfl rfl (heap_setRow2 hres)) rfl ?_
      have hone := HS.out.one
      have htwo := HS.out.two
      rw [List.take_length] at hone htwo
      have hg := grown_setRow2 wr w.heap.size (two (.slice A1 n1 c1) (.slice A2 n2 c2))
      have hsz : (wr.setRow w.heap.size (two (.slice A1 n1 c1) (.slice A2 n2 c2))).heap.size = wr.heap.size := by simp [World.setRow]
      refine ⟨A1, n1, c1, A2, n2, c2, us1, by rw [HY.out], below_setRow2 HS.out.bel (Nat.le_refl _) _, fun _ => ⟨?_, ?_⟩⟩
      · rw [hsz]; exact hone.other hg hres (by decide) (by decide)
      · rw [hsz]; exact ⟨us2, htwo.other hg hres (by decide) (by decide)⟩

end Go.Proofs.Ytjhjfopokiaiiaa
