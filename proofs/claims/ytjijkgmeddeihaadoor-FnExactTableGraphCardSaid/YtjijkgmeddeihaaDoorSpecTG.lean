/-
  spec.TableGraph: the table of a graph, filled number by number.
-/
import Derived.Test.YtjijkgmeddeihaaDoorSpecIn
import Derived.Test.YtjijkgmeddeihaaDoorZero
import Derived.Test.YtjijkgmeddeihaaDoorGives
import Derived.Test.YtjijkgmeddeihaaDoorOnce
import Derived.Deep.RegionLaw
namespace Go.Proofs.YtjijkgmeddeihaaDoor
set_option linter.unusedVariables false
set_option linter.unusedSimpArgs false
open Go.RowKit

def bitI (m b : Nat) : Int := ((m / 2 ^ b % 2 : Nat) : Int)
/-- What stands when the rows ahead of a are filled, and the first b numbers of row a. -/
def adjTo (f : Nat → Nat) (n a b : Nat) : List (List Int) := (List.range n).map fun r => (List.range n).map fun c => if r < a ∨ (r = a ∧ c < b) then bitI (f r) c else 0
def adjOf (f : Nat → Nat) (n : Nat) : List (List Int) := (List.range n).map fun r => (List.range n).map fun c => bitI (f r) c
theorem adjTo_len (f : Nat → Nat) (n a b : Nat) : (adjTo f n a b).length = n := by simp [adjTo]
theorem adjTo_at (f : Nat → Nat) (n a b r : Nat) (h : r < (adjTo f n a b).length) : (adjTo f n a b)[r] = (List.range n).map fun c => if r < a ∨ (r = a ∧ c < b) then bitI (f r) c else 0 := by simp [adjTo]
theorem adjTo_zero (f : Nat → Nat) (n : Nat) : adjTo f n 0 0 = zrows n := by
  unfold adjTo zrows zrow
  refine List.ext_getElem (by simp) fun i h1 h2 => ?_
  simp only [List.getElem_map, List.getElem_range, List.getElem_replicate]
  refine List.ext_getElem (by simp) fun j h3 h4 => ?_
  simp
theorem adjTo_row (f : Nat → Nat) (n a : Nat) : adjTo f n a n = adjTo f n (a + 1) 0 := by
  unfold adjTo
  refine List.map_congr_left fun r _ => List.map_congr_left fun c hc => ?_
  have := List.mem_range.1 hc
  by_cases h : r < a + 1
  · rw [if_pos (by omega), if_pos (by omega)]
  · rw [if_neg (by omega), if_neg (by omega)]
theorem adjTo_all (f : Nat → Nat) (n : Nat) : adjTo f n n 0 = adjOf f n := by
  unfold adjTo adjOf
  refine List.map_congr_left fun r hr => List.map_congr_left fun c _ => ?_
  rw [if_pos (.inl (List.mem_range.1 hr))]
theorem adjTo_step (f : Nat → Nat) (n a b : Nat) (ha : a < (adjTo f n a b).length) : (adjTo f n a b).set a ((adjTo f n a b)[a].set b (bitI (f a) b)) = adjTo f n a (b + 1) := by
  refine List.ext_getElem (by simp [adjTo]) fun r h1 h2 => ?_
  by_cases hr : r = a
  · subst hr
    rw [List.getElem_set_self, adjTo_at, adjTo_at]
    refine List.ext_getElem (by simp) fun c h3 h4 => ?_
    by_cases hc : c = b
    · subst hc
      rw [List.getElem_set_self]
      simp
    · rw [List.getElem_set_ne (fun e => hc e.symm)]
      simp only [List.getElem_map, List.getElem_range]
      by_cases h : c < b
      · have h' : c < b + 1 := by omega
        simp [h, h']
      · have h' : ¬ c < b + 1 := by omega
        simp [h, h']
  · rw [List.getElem_set_ne (fun e => hr e.symm), adjTo_at, adjTo_at]
    refine List.map_congr_left fun c _ => ?_
    by_cases h : r < a
    · rw [if_pos (.inl h), if_pos (.inl h)]
    · rw [if_neg (by omega), if_neg (by omega)]
/-- One number is written. -/
theorem rows_put {W : World} {lo hi k i : Nat} {v : Value} {us : List Value} {xss : List (List Int)} (h : OwnsRows W lo hi v us xss) (hk : k < us.length) (g c2 n : Nat) (hu : us[k] = .slice (some ⟨g, 0, none⟩) n c2) (hl : (xss[k]'(h.len ▸ hk)).length = n) (x : Int) :
    OwnsRows (W.setCell ⟨g, i, none⟩ (.int .i64 x)) lo hi v us (xss.set k ((xss[k]'(h.len ▸ hk)).set i x)) := by
  have hin := (h.inner k hk).1
  refine h.turn k hk (by rw [hu]; exact grown_setCell W g i _) _ ?_
  rw [hu] at hin ⊢
  rw [hl] at hin
  have := (hin.stored i (.int .i64 x)).1
  rw [vals_set2] at this
  unfold Owns
  rw [List.length_set, hl]
  simpa using this
/-- A row, where it lies. -/
theorem rows_at {W : World} {lo hi k n G c : Nat} {us : List Value} {xss : List (List Int)} (h : OwnsRows W lo hi (.slice (some ⟨G, 0, none⟩) n c) us xss) (hn : xss.length = n) (hk : k < us.length) (hl : (xss[k]'(h.len ▸ hk)).length = n) (h0 : 0 < n) :
    ∃ g c2, us[k] = .slice (some ⟨g, 0, none⟩) n c2 ∧ W.cell? ⟨G, k, none⟩ = some (.slice (some ⟨g, 0, none⟩) n c2) ∧ lo ≤ g ∧ ∀ i, i < n → (∃ x, W.cell? ⟨g, i, none⟩ = some (.int .i64 x)) ∧ W.frozen? ⟨g, i, none⟩ = false := by
  have hin := (h.inner k hk).1
  have ho1 := h.outer.1
  rw [hn] at ho1
  rcases hin.2 with ⟨_, hz⟩ | ⟨g, c2, cur, hs, _⟩
  · rw [hl] at hz
    first | omega | (obtain ⟨hz, _⟩ := hz; omega)
  · rw [hl] at hs
    have hg := (hin.lt g (by rw [hs]; rfl)).1
    rw [hs, hl] at hin
    refine ⟨g, c2, hs, ?_, hg, fun i hi => ⟨⟨(xss[k]'(h.len ▸ hk))[i]'(by omega), ?_⟩, hin.frozenAt i⟩⟩
    · have hx := ho1.cellAt k (by have := h.len; omega)
      rw [hx, List.getElem?_eq_getElem hk, hs]
    · have hx := hin.cellAt i (by omega)
      rw [hx]
      unfold vals
      rw [List.getElem?_map, List.getElem?_eq_getElem (by omega)]
      rfl

theorem shr_bitI (s v : Nat) (hs : s < 256) : bits .and .i64 ((s : Int) / 2 ^ v) 1 = bitI s v := by
  have e : (s : Int) / 2 ^ v = ((s / 2 ^ v : Nat) : Int) := by simp
  have hd : s / 2 ^ v ≤ s := Nat.div_le_self _ _
  rw [e]
  have := and64 (s / 2 ^ v) 1 (by omega) (by omega)
  simp only [Int.cast_ofNat_Int] at this
  rw [this]
  unfold bitI
  rw [Nat.and_one_is_mod]

def tgOk (xs : List Int) : Bool := gIn xs && decide (xs.length ≤ 6)
def tgOf (xs : List Int) : List (List Int) := if tgOk xs = true then adjOf (gfun xs) xs.length else []

set_option maxRecDepth 100000 in
set_option maxHeartbeats 4000000 in
theorem specTG_any (w : World) (v : Value) (xs : List Int) (h : Ints w v xs) (hcell : gIn xs = true → ∀ i (hi : i < xs.length), xs[i] = (gfun xs i : Int) ∧ gfun xs i < 256) :
    Calls Tryd.prog 6 #[v] w (GivesRows w (tgOk xs) (tgOf xs)) := by
  have hg := specIn_any w v xs h
  have HV := Lib.hid h
  obtain ⟨A, cap, rfl, hm, hc⟩ := h
  have HC := Lib.hid hc
  clear hc
  unfold maxLen at hm
  cases ht : gIn xs with
  | false =>
    rw [ht] at hg
    have h1 : tgOk xs = false := by unfold tgOk; rw [ht]; rfl
    have h2 : tgOf xs = [] := by unfold tgOf; rw [h1]; rfl
    rw [h1, h2]
    have HG := Lib.hid hg
    clear hg ht h1 h2 hcell
    go_enter Tryd.func6, Tryd.ntmps6
    go_wp2_with (go_at_call 20; refine HG.out.mono ?_; rintro e w1 ⟨rfl, q, rfl⟩)
    go_ret2
    exact ⟨_, [], rfl, (below_drewN (Below.refl _ _) q).alloc (by simp) _, owns_rows_nil _ _ _ (World.ownsRow_made (base := w.heap.size) (e := 22) (size := 1) (w.drewN q) #[] 0 (by simp) (Nat.zero_le _) rfl)⟩
  | true =>
    rw [ht] at hg
    have hcl := hcell ht
    have HG := Lib.hid hg
    have HCL := Lib.hid hcl
    obtain ⟨hn1, hn8, -⟩ := gIn_parts ht
    by_cases h6 : xs.length ≤ 6
    · have h1 : tgOk xs = true := by unfold tgOk; rw [ht, decide_eq_true h6]; rfl
      have h2 : tgOf xs = adjOf (gfun xs) xs.length := by unfold tgOf; rw [if_pos h1]
      rw [h1, h2]
      have e6 : ¬ (6 : Int) < (xs.length : Int) := by omega
      clear hg ht h1 h2 hcell hcl
      have HZ := Lib.hid (fun W => zero_any xs.length h6 W)
      obtain ⟨bA, oA, rfl, -⟩ := HC.out 0 (by omega)
      go_enter Tryd.func6, Tryd.ntmps6
      go_wp2_with (first
        | (go_at_call 20; refine HG.out.mono ?_; rintro e w1 ⟨rfl, q, rfl⟩)
        | (go_at_call 21; refine (HZ.out _).mono ?_; rintro e w4 ⟨v4, us, rfl, hb4, ho4⟩))
      obtain ⟨G, c, rfl⟩ : ∃ G c, v4 = .slice (some ⟨G, 0, none⟩) xs.length c := by
        have h0 := ho4.outer.1
        rw [show (zrows xs.length).length = xs.length by simp [zrows]] at h0
        rcases h0.2 with ⟨_, hz⟩ | ⟨g, c2, cur, hs, _⟩
        · first | omega | (obtain ⟨hz, _⟩ := hz; omega)
        · exact ⟨g, c2, hs⟩
      obtain ⟨H, hH⟩ : ∃ H, w4.heap.size = H := ⟨_, rfl⟩
      have hbw : Below w.heap.size w w4 := step_below (below_drewN (Below.refl _ _) q) hb4
      have how : OwnsRows w4 w.heap.size H (.slice (some ⟨G, 0, none⟩) xs.length c) us (adjTo (gfun xs) xs.length 0 0) := by
        rw [adjTo_zero, ← hH]; exact ho4
      have HO := Lib.hid (And.intro hbw how)
      clear hb4 ho4 hbw how hH HZ HG
      go_loopw [5, 6] (fun a _ wr => ∃ k : Nat, k ≤ xs.length ∧ a = .int .i64 k ∧ Below w.heap.size w wr ∧ OwnsRows wr w.heap.size H (.slice (some ⟨G, 0, none⟩) xs.length c) us (adjTo (gfun xs) xs.length k 0)) (fun a _ _ => xs.length - (intOf a).toNat)
      case atStart => exact ⟨0, by omega, rfl, HO.out.1, HO.out.2⟩
      case round =>
        clear HO
        obtain ⟨k, hk, rfl, hb, ho⟩ := hrel
        have HB := Lib.hid (And.intro hb ho)
        clear hb ho
        by_cases hlt : k < xs.length
        · have hki : (k : Int) < (xs.length : Int) := by omega
          have hk0 : (0 : Int) ≤ (k : Int) := by omega
          go_wp2_with fail
          go_loopw [6] (fun b wr => ∃ j : Nat, j ≤ xs.length ∧ b = .int .i64 j ∧ Below w.heap.size w wr ∧ OwnsRows wr w.heap.size H (.slice (some ⟨G, 0, none⟩) xs.length c) us (adjTo (gfun xs) xs.length k j)) (fun b _ => xs.length - (intOf b).toNat)
          case atStart => exact ⟨0, by omega, rfl, HB.out.1, HB.out.2⟩
          case round =>
            clear HB
            obtain ⟨j, hj, rfl, hb, ho⟩ := hrel
            by_cases hlj : j < xs.length
            · have hji : (j : Int) < (xs.length : Int) := by omega
              have hj0 : (0 : Int) ≤ (j : Int) := by omega
              have hku : k < us.length := by rw [ho.len, adjTo_len]; exact hlt
              have hrl : ((adjTo (gfun xs) xs.length k j)[k]'(ho.len ▸ hku)).length = xs.length := by rw [adjTo_at]; simp
              obtain ⟨g, c2, eu, z0, hgl, hcs⟩ := rows_at ho (adjTo_len _ _ _ _) hku hrl (by omega)
              obtain ⟨⟨x, hx⟩, hf⟩ := hcs j hlj
              obtain ⟨b', o', hA, hcx⟩ := HC.out k hlt
              obtain ⟨rfl, rfl⟩ : bA = b' ∧ oA = o' := by simpa using hA
              have hcxw := (hb.cell (p := ⟨bA, oA + k, none⟩) (World.block_lt_of_cell? w _ hcx)).trans hcx
              obtain ⟨hxk, hx256⟩ := HCL.out k hlt
              rw [hxk] at hcxw
              have hst := adjTo_step (gfun xs) xs.length k j (by rw [adjTo_len]; exact hlt)
              have hsh := shr_bitI (gfun xs k) j hx256
              obtain ⟨m, hme⟩ : ∃ m, gfun xs k = m := ⟨_, rfl⟩
              rw [hme] at hcxw hst hsh
              have hput : OwnsRows (wr.drew.setCell ⟨g, j, none⟩ (.int .i64 (bitI m j))) w.heap.size H (.slice (some ⟨G, 0, none⟩) xs.length c) us (adjTo (gfun xs) xs.length k (j + 1)) := by
                rw [← hst]
                exact rows_put (ho.drewN 1) hku g c2 xs.length eu hrl (bitI m j)
              have hbel : Below w.heap.size w (wr.drew.setCell ⟨g, j, none⟩ (.int .i64 (bitI m j))) := (below_drewN hb 1).setCell (p := ⟨g, j, none⟩) hgl _
              have HP := Lib.hid (And.intro hbel hput)
              have y0 : wr.drew.cell? ⟨G, k, none⟩ = some (.slice (some ⟨g, 0, none⟩) xs.length c2) := z0
              have y1 : wr.drew.cell? ⟨bA, oA + k, none⟩ = some (.int .i64 (m : Int)) := hcxw
              have y2 : wr.drew.cell? ⟨g, j, none⟩ = some (.int .i64 x) := hx
              have y3 : wr.drew.frozen? ⟨g, j, none⟩ = false := hf
              clear hput hbel hst z0 hcs hx hf hcx hcxw hxk hx256 hme hrl hA ho hb eu hgl
              go_wp2_with fail
              apply once_zero (fun w' => Below w.heap.size w w' ∧ OwnsRows w' w.heap.size H (.slice (some ⟨G, 0, none⟩) xs.length c) us (adjTo (gfun xs) xs.length k (j + 1)))
              case h1 =>
                go_region_law (fail)
                all_goals exact ⟨HP.out, rfl⟩
              intro w6 h6'
              have HQ := Lib.hid h6'
              clear h6' y0 y1 y2 y3 hsh
              go_wp2_with fail
              go_roundw
              case rel => exact ⟨j + 1, by omega, by go_num, HQ.out.1, HQ.out.2⟩
              case measure => simp [intOf]; omega
            · have hjj : j = xs.length := by omega
              subst hjj
              have HQ := Lib.hid (And.intro hb ho)
              clear hb ho
              go_wp2_with fail
              go_roundw
              case rel => exact ⟨k + 1, by omega, by go_num, HQ.out.1, by rw [← adjTo_row]; exact HQ.out.2⟩
              case measure => simp [intOf]; omega
        · have hkk : k = xs.length := by omega
          subst hkk
          have ho2 := HB.out.2
          rw [adjTo_all] at ho2
          have HQ := Lib.hid (And.intro HB.out.1 (owns_top ho2 (Nat.le_refl _)))
          clear ho2 HB
          go_wp2_with fail
          go_ret2
          exact ⟨_, us, rfl, HQ.out.1, HQ.out.2⟩
    · have h1 : tgOk xs = false := by unfold tgOk; rw [ht, decide_eq_false h6]; rfl
      have h2 : tgOf xs = [] := by unfold tgOf; rw [h1]; rfl
      rw [h1, h2]
      have e6 : (6 : Int) < (xs.length : Int) := by omega
      clear hg ht h1 h2 hcell hcl
      go_enter Tryd.func6, Tryd.ntmps6
      go_wp2_with (go_at_call 20; refine HG.out.mono ?_; rintro e w1 ⟨rfl, q, rfl⟩)
      go_ret2
      exact ⟨_, [], rfl, (below_drewN (Below.refl _ _) q).alloc (by simp) _, owns_rows_nil _ _ _ (World.ownsRow_made (base := w.heap.size) (e := 22) (size := 1) (w.drewN q) #[] 0 (by simp) (Nat.zero_le _) rfl)⟩

end Go.Proofs.YtjijkgmeddeihaaDoor
