/-
  A MARKET WHOSE LISTS LIE APART, though not one behind the other: laws.markMarket on it.
-/
import Derived.Test.YtjhjfopokiaiiaaMktMark
namespace Go.Proofs.Ytjhjfopokiaiiaa
set_option linter.unusedVariables false
set_option linter.unusedSimpArgs false
open Go.RowKit

def Outside (v : Value) (p q : Nat) : Prop := ∀ k, v.ownBlock = some k → k < p ∨ q ≤ k
def Inside (us : List Value) (p q : Nat) : Prop := ∀ (i : Nat) (h : i < us.length) (k : Nat), us[i].ownBlock = some k → p ≤ k ∧ k < q
theorem OwnsAt.far {w w' : World} {lo hi p q : Nat} {e : TypeId} {v : Value} {n : Nat} {cs : List Value} (h : OwnsAt w lo hi e v n cs) (hw : Within p q w w') (ho : Outside v p q) : OwnsAt w' lo hi e v n cs := by
  refine ⟨⟨h.1.1, ?_⟩, h.2⟩
  rcases h.1.2 with hn | ⟨g, cap, cur, rfl, hb, hgg, rest⟩
  · exact .inl hn
  · refine .inr ⟨g, cap, cur, rfl, hb, ?_, rest⟩
    have := ho g rfl
    rw [hw.block g (Array.getElem?_eq_some_iff.1 hgg).1 this]
    exact hgg
theorem OwnsRows.far {w w' : World} {lo hi p q p' q' : Nat} {v : Value} {us : List Value} {xss : List (List Int)} (h : OwnsRows w lo hi v us xss) (hw : Within p q w w') (ho : Outside v p q) (hi' : Inside us p' q') (hd : q ≤ p' ∨ q' ≤ p) : OwnsRows w' lo hi v us xss :=
  ⟨h.len, h.outer.far hw ho, fun i hi2 => (h.inner i hi2).far hw (fun k hk => by have := hi' i hi2 k hk; omega), h.apart⟩
structure Apart (L R : Value) (us us' : List Value) (lo hi p q p' q' : Nat) : Prop where
  one : Inside us p q
  two : Inside us' p' q'
  left : Outside L p' q'
  right : Outside R p q
  far : q ≤ p' ∨ q' ≤ p
  lo1 : lo ≤ p
  hi1 : q ≤ hi
  lo2 : lo ≤ p'
  hi2 : q' ≤ hi
def OwnsMktX (w : World) (lo hi : Nat) (L R : Value) (ls rs : List (List Int)) : Prop := ∃ us us' p q p' q', OwnsRows w lo hi L us ls ∧ OwnsRows w lo hi R us' rs ∧ Apart L R us us' lo hi p q p' q'
theorem OwnsMktX.below {w w' : World} {lo hi : Nat} {L R : Value} {ls rs : List (List Int)} (h : OwnsMktX w lo hi L R ls rs) (hb : Below w.heap.size w w') : OwnsMktX w' lo hi L R ls rs := by
  obtain ⟨us, us', p, q, p', q', h1, h2, h3⟩ := h
  exact ⟨us, us', p, q, p', q', h1.below hb, h2.below hb, h3⟩
theorem OwnsMktX.kept {w w' : World} {lo hi a b : Nat} {L R : Value} {ls rs : List (List Int)} (h : OwnsMktX w lo hi L R ls rs) (hw : Within a b w w') (hd : hi ≤ a ∨ b ≤ lo) : OwnsMktX w' lo hi L R ls rs := by
  obtain ⟨us, us', p, q, p', q', h1, h2, h3⟩ := h
  exact ⟨us, us', p, q, p', q', h1.kept hw hd, h2.kept hw hd, h3⟩
theorem OwnsMktX.left {w : World} {lo hi : Nat} {L R : Value} {ls rs : List (List Int)} (h : OwnsMktX w lo hi L R ls rs) : IntRows w L ls := by obtain ⟨_, _, _, _, _, _, h, _⟩ := h; exact rows_of_owns h
theorem OwnsMktX.right {w : World} {lo hi : Nat} {L R : Value} {ls rs : List (List Int)} (h : OwnsMktX w lo hi L R ls rs) : IntRows w R rs := by obtain ⟨_, _, _, _, _, _, _, h, _⟩ := h; exact rows_of_owns h
theorem inside_of_owns {w : World} {lo hi : Nat} {v : Value} {us : List Value} {xss : List (List Int)} (h : OwnsRows w lo hi v us xss) : Inside us lo hi := fun i hi' k hk => ⟨((h.inner i hi').1.lt k hk).1, (h.inner i hi').2 k hk⟩
theorem outer_range {w : World} {lo hi : Nat} {v : Value} {us : List Value} {xss : List (List Int)} (h : OwnsRows w lo hi v us xss) (k : Nat) (hk : v.ownBlock = some k) : lo ≤ k ∧ k < hi := ⟨(h.outer.1.lt k hk).1, h.outer.2 k hk⟩
theorem OwnsMkt.x {w : World} {lo hi : Nat} {L R : Value} {ls rs : List (List Int)} (h : OwnsMkt w lo hi L R ls rs) : OwnsMktX w lo hi L R ls rs := by
  obtain ⟨mid, us, us', h1, h2, h3, h4⟩ := h
  exact ⟨us, us', lo, mid, mid, hi, h3.wide (Nat.le_refl _) h2, h4.wide h1 (Nat.le_refl _), inside_of_owns h3, inside_of_owns h4, fun k hk => .inl (outer_range h3 k hk).2, fun k hk => .inr (outer_range h4 k hk).1, .inl (Nat.le_refl _), Nat.le_refl _, h2, h1, Nat.le_refl _⟩

set_option maxHeartbeats 1000000 in
theorem markIntSS_in (w : World) (lo hi p q : Nat) (v : Value) (us : List Value) (xss : List (List Int)) (k0 : Int) (h : OwnsRows w lo hi v us xss) (hpq : Inside us p q) (hk0 : 0 ≤ k0) (hkt : k0 + total xss ≤ 1000000000000) :
    Calls Try.prog 33 #[v, .int .i64 k0] w fun e w' => e = .returned (.int .i64 (k0 + total xss)) ∧ Within p q w w' ∧ OwnsRows w' lo hi v us (markRows k0 xss) := by
  obtain ⟨A, cap, rfl, hm, hc⟩ := (rows_of_owns h).at
  have hlen := h.len
  have HLE := Lib.hid hlen
  have HH := Lib.hid h
  have HPQ := Lib.hid hpq
  clear hpq
  clear hc h hlen
  unfold maxLen at hm
  go_enter Try.func33, Try.ntmps33
  go_wp2
  go_loopw [1, 5] (fun kv i wr => ∃ j : Nat, j ≤ xss.length ∧ i = .int .i64 (j : Int) ∧ kv = .int .i64 (k0 + total (xss.take j)) ∧ Within p q w wr ∧ OwnsRows wr lo hi (.slice A xss.length cap) us (markTo k0 xss j)) (fun _ i _ => xss.length - (intOf i).toNat)
  case atStart => exact ⟨0, by omega, rfl, by simp [total], Within.refl _ _ _, by rw [markTo_zero]; exact HH.out⟩
  case round =>
    obtain ⟨j, hj, rfl, rfl, hW, hR⟩ := hrel
    have htt := total_take_le xss j
    obtain ⟨kj, hkj⟩ : ∃ kj : Int, k0 + total (xss.take j) = kj := ⟨_, rfl⟩
    have hkj0 : 0 ≤ kj := by omega
    have hkj1 : kj ≤ 1000000000000 := by omega
    rw [hkj]
    by_cases hlt : j < xss.length
    · have hju : j < us.length := by rw [HLE.out]; exact hlt
      obtain ⟨A2, cap2, hv2, _, hc2⟩ := (rows_of_owns hR).at
      have hml := markTo_len k0 xss j
      have hat := markTo_at k0 xss j hlt
      have hin := hR.inner j hju
      have hzj : (markTo k0 xss j)[j]'(by rw [hml]; exact hlt) = xss[j] := by
        rw [List.getElem?_eq_getElem (by rw [hml]; exact hlt)] at hat
        simpa using hat
      rw [hzj] at hin
      obtain ⟨b, off, hAe, hcell⟩ : ∃ b off, A = some ⟨b, off, none⟩ ∧ wr.cell? ⟨b, off + j, none⟩ = some us[j] := by
        rcases hR.outer.1.2 with ⟨hz, hn⟩ | ⟨g, c2, cur, hz, _, hgb, _⟩
        · rw [hml] at hn; omega
        · injection hz with h1 h2 h3
          subst h1
          have hc := hR.outer.1.cells (g := g) rfl j us[j] (List.getElem?_eq_getElem hju)
          rw [addr_add] at hc
          exact ⟨g, 0, rfl, hc⟩
      subst hAe
      have htk := total_take_succ xss j hlt
      have htl := total_take_le xss (j + 1)
      obtain ⟨u, hu⟩ : ∃ u, us[j] = u := ⟨_, rfl⟩
      have hji : (j : Int) < (xss.length : Int) := by omega
      have HM := Lib.hid (markIntS_any wr lo us[j] xss[j] kj hin.1 hkj0 (by omega))
      rw [hu] at hcell HM
      have HR := Lib.hid hR
      have HU := Lib.hid hu
      have HKJ := Lib.hid hkj
      have HTK := Lib.hid htk
      have hnext : kj + xss[j].length = k0 + total (xss.take (j + 1)) := by omega
      have HN := Lib.hid hnext
      clear hc2 hv2 hml hat hin hzj htk htl hR hu hkj htt hnext
      go_wp2_with (go_at_call 17; refine HM.out.mono ?_; rintro e w2 ⟨rfl, hgr, hnew⟩)
      go_roundw
      case rel =>
        have hgr2 : wr.grownBy w2 us[j].ownBlock := by rw [HU.out]; exact hgr
        have hnew2 : Owns w2 lo us[j] (marks kj xss[j].length) := by
          rw [HU.out]; exact hnew
        have hR2 := HR.out.turn j hju hgr2 (marks kj xss[j].length) hnew2
        have em : marks kj xss[j].length = (List.range xss[j].length).map (fun (i : Nat) => k0 + total (xss.take j) + i) := by rw [HKJ.out]; rfl
        rw [em, markTo_step k0 xss j hlt] at hR2
        refine ⟨j + 1, by omega, by go_num, by rw [HN.out], ?_, hR2⟩
        exact hW.trans (Within.of_grown hgr2 (fun k hk => HPQ.out j hju k hk))
      case measure => simp [intOf]; omega
    · obtain rfl : j = xss.length := by omega
      rw [List.take_length] at hkj
      rw [markTo_all] at hR
      have HR := Lib.hid hR
      have HK := Lib.hid hkj
      clear hR hkj htt
      go_wp2
      go_ret
      exact ⟨by rw [HK.out]; rfl, hW, HR.out⟩

set_option maxRecDepth 100000 in
set_option maxHeartbeats 2000000 in
theorem markMktX_any (w : World) (lo hi : Nat) (L R : Value) (ls rs : List (List Int)) (k0 : Int) (h : OwnsMktX w lo hi L R ls rs) (hhi : hi ≤ w.heap.size) (hk0 : 0 ≤ k0) (hkt : k0 + total ls + total rs ≤ 1000000000000) :
    Calls Try.prog 16 #[.agg (two L R), .int .i64 k0] w fun e w' => e = .returned (.int .i64 (k0 + total ls + total rs)) ∧ Within lo hi w w' ∧ OwnsMktX w' lo hi L R (markRows k0 ls) (markRows (k0 + total ls) rs) := by
  obtain ⟨us, us', p, q, p', q', h3, h4, hap⟩ := h
  obtain ⟨W0, hW0⟩ : ∃ W0, w.alloc (.cells (two L R) 29) = W0 := ⟨_, rfl⟩
  have hb0 : Below w.heap.size w W0 := by rw [← hW0]; exact (Below.refl _ _).alloc (Nat.le_refl _) _
  have hbox : W0.heap[w.heap.size]? = some (.cells (two L R) 29 (0, 0)) := by rw [← hW0]; exact World.alloc_heap_new _ _
  have hw0 : Within lo hi w W0 := by rw [← hW0]; exact (Within.refl _ _ _).alloc _
  obtain ⟨x0, x1, xf, _⟩ := two_cells hbox
  have HM1 := Lib.hid (markIntSS_in W0 lo hi p q L us ls k0 (h3.below hb0) hap.one hk0 (by omega))
  obtain ⟨k1, hk1⟩ : ∃ k1 : Int, k0 + total ls = k1 := ⟨_, rfl⟩
  obtain ⟨k2, hk2⟩ : ∃ k2 : Int, k1 + total rs = k2 := ⟨_, rfl⟩
  rw [hk1] at HM1 ⊢
  rw [hk2]
  have HM2 := Lib.hid (fun (W : World) (h : OwnsRows W lo hi R us' rs) => markIntSS_in W lo hi p' q' R us' rs k1 h hap.two (by omega) (by omega))
  rw [hk2] at HM2
  have HX := Lib.hid (And.intro hw0 (And.intro (h4.below hb0) (And.intro hap hhi)))
  clear hb0 hw0 h3 h4 hap hhi hk1 hk2
  go_enter Try.func16, Try.ntmps16
  go_wp2_with fail
  clear hW0
  refine HM1.out.mono ?_
  rintro e w1 ⟨rfl, hw1, ho1⟩
  obtain ⟨hw0, h4, hap, hhi⟩ := HX.out
  have hbox1 := (hw1.block _ (Array.getElem?_eq_some_iff.1 hbox).1 (.inr (by have := hap.hi1; omega))).trans hbox
  obtain ⟨y0, y1, _, _⟩ := two_cells hbox1
  have HM3 := Lib.hid (HM2.out w1 (h4.far hw1 hap.right hap.two hap.far))
  have HY := Lib.hid (And.intro hw0 (And.intro hw1 ho1))
  clear x0 x1 xf hbox hbox1 hw0 h4 hw1 ho1 hap
  go_wp2_with fail
  refine HM3.out.mono ?_
  rintro e w2 ⟨rfl, hw2, ho2⟩
  obtain ⟨hw0, hw1, ho1⟩ := HY.out
  have hap := HX.out.2.2.1
  have HZ := Lib.hid (And.intro ((hw0.trans (hw1.wider hap.lo1 hap.hi1)).trans (hw2.wider hap.lo2 hap.hi2)) (And.intro (ho1.far hw2 hap.left hap.one hap.far.symm) (And.intro ho2 hap)))
  clear hw0 hw1 ho1 hw2 ho2 y0 y1 hap
  go_wp2
  go_ret
  exact ⟨rfl, HZ.out.1, us, us', p, q, p', q', HZ.out.2.1, HZ.out.2.2.1, HZ.out.2.2.2⟩


end Go.Proofs.Ytjhjfopokiaiiaa
