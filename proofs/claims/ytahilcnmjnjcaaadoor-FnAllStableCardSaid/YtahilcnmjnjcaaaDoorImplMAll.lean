/-
  impl.MarketAll: all stable pairings.
-/
import Derived.Test.YtahilcnmjnjcaaaDoorCT
import Derived.Test.YtahilcnmjnjcaaaDoorStable
import Derived.Test.YtahilcnmjnjcaaaDoorAllI
namespace Go.Proofs.YtahilcnmjnjcaaaDoor
set_option linter.unusedVariables false
set_option linter.unusedSimpArgs false
open Go.RowKit Go.Shelf
attribute [local go_sem] Oper.semAt_some

/-- Cells of orders, numbers and markets stay. -/
def KeepsO (X Y : World) : Prop := X.heap.size ≤ Y.heap.size ∧ ∀ (k : Nat) (c : Array Value) (t : TypeId) (fr : Nat × Nat), X.heap[k]? = some (.cells c t fr) → (t = 66 ∨ t = 3 ∨ t = 60) → Y.heap[k]? = some (.cells c t fr)
theorem KeepsO.refl (X : World) : KeepsO X X := ⟨Nat.le_refl _, fun _ _ _ _ h _ => h⟩
theorem KeepsO.trans {X Y Z : World} (h : KeepsO X Y) (k : KeepsO Y Z) : KeepsO X Z := ⟨Nat.le_trans h.1 k.1, fun i c t fr hi ht => k.2 i c t fr (h.2 i c t fr hi ht) ht⟩
theorem KeepsO.below {X Y : World} (h : Below X.heap.size X Y) : KeepsO X Y := ⟨h.size, fun i _ _ _ hi _ => (h.block i (Array.getElem?_eq_some_iff.1 hi).1).trans hi⟩
theorem KeepsO.grown {X Y : World} {row : Option Nat} (hg : X.grownBy Y row) (hr : ∀ r, row = some r → ∃ o, X.heap[r]? = some o ∧ o.isCells = false) : KeepsO X Y :=
  ⟨hg.size, fun i c t fr hi _ => (hg.block i (Array.getElem?_eq_some_iff.1 hi).1 (fun e => by
    obtain ⟨o, ho, hc⟩ := hr i e.symm
    rw [hi] at ho
    cases ho
    cases hc)).trans hi⟩
theorem KeepsO.cell {X Y : World} {b : Nat} {c : Array Value} {t : TypeId} {fr : Nat × Nat} (hg : X.grownBy Y (some b)) (hb : X.heap[b]? = some (.cells c t fr)) (h1 : t ≠ 66) (h2 : t ≠ 3) (h3 : t ≠ 60) : KeepsO X Y :=
  ⟨hg.size, fun i c' t' fr' hi ht => (hg.block i (Array.getElem?_eq_some_iff.1 hi).1 (fun e => by
    cases e
    rw [hb] at hi
    cases hi
    rcases ht with rfl | rfl | rfl
    · exact h1 rfl
    · exact h2 rfl
    · exact h3 rfl)).trans hi⟩
theorem owns_keepsO {X Y : World} {b n : Nat} {e : TypeId} {v : Value} {xs : List Value} (h : X.ownsRow b e 1 v n xs) (k : KeepsO X Y) (he : e = 66 ∨ e = 3 ∨ e = 60) : Y.ownsRow b e 1 v n xs := by
  refine ⟨h.1, ?_⟩
  rcases h.2 with hn | ⟨g, cap, cur, hv, hb, hg, rest⟩
  · exact .inl hn
  · exact .inr ⟨g, cap, cur, hv, hb, k.2 _ _ _ _ hg he, rest⟩
theorem OwnsOrd.keepsO {X Y : World} {lo hi : Nat} {v : Value} {us : List Value} {xss : List (List Int)} (h : OwnsOrd X lo hi v us xss) (k : KeepsO X Y) : OwnsOrd Y lo hi v us xss :=
  ⟨h.len, ⟨owns_keepsO h.outer.1 k (.inl rfl), h.outer.2⟩, fun i hi' => ⟨owns_keepsO (h.inner i hi').1 k (.inr (.inl rfl)), (h.inner i hi').2⟩, h.apart⟩

theorem grown_cells {X Y : World} {base k : Nat} {v : Value} {us : List Value} (hr : X.ownsRow base 39 1 v k us) (hg : X.grownBy Y v.ownBlock) {i : Nat} {c : Array Value} {t : TypeId} {fr : Nat × Nat} (hi : X.heap[i]? = some (.cells c t fr)) (ht : t ≠ 39) : Y.heap[i]? = some (.cells c t fr) := by
  refine (hg.block i (Array.getElem?_eq_some_iff.1 hi).1 (fun e => ?_)).trans hi
  obtain ⟨c1, f1, h1⟩ := row_cells hr e.symm
  rw [hi] at h1
  cases h1
  exact ht rfl
theorem KeepsO.own {X Y : World} {base k : Nat} {v : Value} {us : List Value} (hr : X.ownsRow base 39 1 v k us) (hg : X.grownBy Y v.ownBlock) : KeepsO X Y :=
  ⟨hg.size, fun i c t fr hi ht => grown_cells hr hg hi (by rcases ht with rfl | rfl | rfl <;> decide)⟩
theorem keepsU_append {B lo bx k : Nat} {X w2 : World} {v v' : Value} {us : List Value} {tmp : Obj} (hv : Boxed w2 bx 22 v) (hrow : X.ownsRow lo 39 1 v k us) (hg : (X.alloc tmp).grownBy w2 v.ownBlock)
    (hk : KeepsOthers X (w2.setCell ⟨bx, 0, none⟩ v')) (hb : Below lo X (w2.setCell ⟨bx, 0, none⟩ v')) (ht : 1 < lo) : KeepsU B X (w2.setCell ⟨bx, 0, none⟩ v') := by
  refine ⟨hb.mono (by omega), fun i c t fr hi h1 h2 => ?_, fun i o _ hi ho => hk.same i o hi ho⟩
  have h3 := grown_cells (hrow.alloc tmp) hg ((Below.heap_alloc _ _ _ (Array.getElem?_eq_some_iff.1 hi).1).trans hi) h1
  refine (Below.heap_setCell _ _ _ _ (fun e => ?_)).trans h3
  have h4 : w2.heap[bx]? = some (.cells #[v] 22 (0, 0)) := hv
  have e' : i = bx := e
  rw [e', h4] at h3
  cases h3
  exact h2 rfl

/-- The stable ones of those given out so far lie in the list; the market is as it was. -/
def AllSt (ls rs : List (List Int)) (w W5 : World) (bx : Nat) (pre : List (List Int)) (X : World) : Prop :=
  (∃ v us, Boxed X bx 22 v ∧ OwnsRows X w.heap.size X.heap.size v us (pre.filter fun p => (blocksOf ls rs p).isEmpty)) ∧ Below w.heap.size w X ∧ KeepsO W5 X
theorem allSt_closed {ls rs : List (List Int)} {w W5 : World} {bx Bj : Nat} (hw : w.heap.size ≤ Bj) : ClosedJ Bj (AllSt ls rs w W5 bx) := by
  refine ⟨?_, ?_⟩
  · rintro pre X Y row ⟨⟨v, us, hb, hr⟩, hB, hk⟩ hg hrow
    have hrow' : ∀ r, row = some r → ∃ o, X.heap[r]? = some o ∧ o.isCells = false := fun r e => (hrow r e).2
    refine ⟨⟨v, us, boxed_own bx 22 (fun _ : Unit => v) () X Y row hb hg hrow', (hr.still hg hrow').wide (Nat.le_refl _) hg.size⟩, hB.grown hg hB.size (fun r e => by have := (hrow r e).1; omega), hk.trans (KeepsO.grown hg hrow')⟩
  · rintro pre X r u v ⟨⟨v0, us, hb, hr⟩, hB, hk⟩ hBr hbx
    have hgs := grownBy_setCell' X r v
    have hne : bx ≠ r := fun e => by
      subst e
      have h1 : X.heap[bx]? = some (.cells #[v0] 22 (0, 0)) := hb
      have h2 : X.heap[bx]? = some (.cells #[u] 4 (0, 0)) := hbx
      rw [h1] at h2
      cases h2
    refine ⟨⟨v0, us, hb.other hne v, (hr.other hgs hbx (by decide) (by decide)).wide (Nat.le_refl _) hgs.size⟩, hB.setCell (p := ⟨r, 0, none⟩) (by show w.heap.size ≤ r; omega) _, hk.trans (KeepsO.cell hgs hbx (by decide) (by decide) (by decide))⟩

set_option maxRecDepth 100000 in
set_option maxHeartbeats 4000000 in
theorem implMAll_any (w : World) (L R : Value) (ls rs : List (List Int)) (hL : IntRows w L ls) (hR : IntRows w R rs) (hT : Tab w) :
    Calls Tryd.prog 13 #[.agg (two L R)] w (GivesRows w (mktOk ls rs) (allL ls rs)) := by
  obtain ⟨W0, hW0⟩ : ∃ W0, w.alloc (.cells (two L R) 28) = W0 := ⟨_, rfl⟩
  have hb0 : Below w.heap.size w W0 := by rw [← hW0]; exact (Below.refl _ _).alloc (Nat.le_refl _) _
  have hbox : W0.heap[w.heap.size]? = some (.cells (two L R) 28 (0, 0)) := by rw [← hW0]; exact World.alloc_heap_new _ _
  have HRP := Lib.hid (mktFrom_any W0 L R ls rs (hL.below hb0) (hR.below hb0))
  have HB0 := Lib.hid hb0
  have HT := Lib.hid hT
  clear hL hR hb0 hT
  cases hok : mktOk ls rs with
  | false =>
    have HEQ := Lib.hid (allL_no hok)
    have HOK := Lib.hid hok
    clear hok
    go_enter Tryd.func13, Tryd.ntmps13
    go_wp2_with (refine load_mi rfl _ rfl w.heap.size L R rfl hbox ?_)
    clear hW0
    refine HRP.out.mono ?_
    rintro e w1 ⟨a1, a2, a3, a4, rfl, hb1, ⟨⟨A1, n1, c1, rfl⟩, ⟨A2, n2, c2, rfl⟩, ⟨A3, n3, c3, rfl⟩, ⟨A4, n4, c4, rfl⟩⟩, -⟩
    rw [HOK.out]
    have hb12 : Below w1.heap.size w1 (w1.alloc (.cells (four (.slice A1 n1 c1) (.slice A2 n2 c2) (.slice A3 n3 c3) (.slice A4 n4 c4)) 60)) := (Below.refl _ _).alloc (Nat.le_refl _) _
    have HB2 := Lib.hid (step_below (step_below HB0.out hb1) hb12)
    clear hb1 hb12
    go_wp2
    go_ret2
    rw [HEQ.out]
    exact ⟨nilS, [], rfl, HB2.out, owns_rows_nil _ _ _ (World.ownsRow_nil _ _ _ _)⟩
  | true =>
    have HEQ := Lib.hid (allL_yes hok)
    have HOK := Lib.hid hok
    obtain ⟨i0, hi, hz0, hz1, hz2⟩ := info_parts infoRow
    obtain ⟨⟨h1, h5, hrl⟩, -⟩ := mktOk_parts hok
    have HH := Lib.hid (And.intro h1 (And.intro h5 hrl))
    clear hok h1 h5 hrl
    refine (callsIn_wide (n := 9)).1 ?_
    refine callsIn_of_wp_marks Tryd.func13 rfl trivial ?_ rfl
    simp only [Tryd.ntmps13, List.size_toArray, List.length_cons, List.length_nil, Nat.reduceAdd, Nat.reduceSub, Array.replicate_succ, Array.replicate_zero, List.push_toArray, List.append_toArray, List.nil_append, List.cons_append]
    obtain ⟨x0, x1, _, _⟩ := two_cells hbox
    gi_wp2_with (first
      | (refine ⟨trivial, ?_⟩; gi_at_call 44; refine (callsIn_wide.2 HRP.out).mono ?_; rintro e w1 ⟨a1, a2, a3, a4, rfl, hb1, ⟨⟨A1, n1, c1, rfl⟩, ⟨A2, n2, c2, rfl⟩, ⟨A3, n3, c3, rfl⟩, ⟨A4, n4, c4, rfl⟩⟩, hat⟩; rw [HOK.out])
      | (refine ⟨trivial, ?_⟩; gi_at_call 45; refine (callsIn_wide.2 (pairings_any _ _ _ _ _)).mono ?_; rintro e w' ⟨rfl, rfl⟩))
    have hm := hat HOK.out
    clear hat
    obtain ⟨W5, hW5⟩ : ∃ W5, ((((w1.alloc (.cells #[.slice A1 n1 c1, .slice A2 n2 c2, .slice A3 n3 c3, .slice A4 n4 c4] 60)).alloc (.cells #[] 39)).alloc (.cells #[.slice (some ⟨w1.heap.size + 1, 0, none⟩) 0 0] 22)).alloc
      (.cells (four (.slice A1 n1 c1) (.slice A2 n2 c2) (.slice A3 n3 c3) (.slice A4 n4 c4)) 60)) = W5 := ⟨_, rfl⟩
    have hb15 : Below w1.heap.size w1 W5 := by rw [← hW5]; exact ((((Below.refl _ _).alloc (Nat.le_refl _) _).alloc (by simp) _).alloc (by simp; omega) _).alloc (by simp; omega) _
    have hb01 := step_below HB0.out hb1
    have hb05 : Below w.heap.size w W5 := step_below hb01 hb15
    have hsz : W5.heap.size = w1.heap.size + 4 := by rw [← hW5]; simp
    have hww1 : w.heap.size ≤ w1.heap.size := hb01.size
    have hmk1 : W5.heap[w1.heap.size]? = some (.cells (four (.slice A1 n1 c1) (.slice A2 n2 c2) (.slice A3 n3 c3) (.slice A4 n4 c4)) 60 (0, 0)) := by
      rw [← hW5]
      have hq := World.alloc_heap_new w1 (.cells (four (.slice A1 n1 c1) (.slice A2 n2 c2) (.slice A3 n3 c3) (.slice A4 n4 c4)) 60)
      exact kept_obj (((((Below.refl (w1.alloc (.cells (four (.slice A1 n1 c1) (.slice A2 n2 c2) (.slice A3 n3 c3) (.slice A4 n4 c4)) 60)).heap.size _).alloc (Nat.le_refl _) _).alloc (by simp) _).alloc (by simp) _)) hq
    have hn0 : Boxed W5 (w1.heap.size + 1 + 1) 22 (.slice (some ⟨w1.heap.size + 1, 0, none⟩) 0 0) := by
      rw [← hW5]
      have := Boxed.new ((w1.alloc (.cells #[.slice A1 n1 c1, .slice A2 n2 c2, .slice A3 n3 c3, .slice A4 n4 c4] 60)).alloc (.cells #[] 39)) 22 (.slice (some ⟨w1.heap.size + 1, 0, none⟩) 0 0)
      rw [World.size_alloc, World.size_alloc] at this
      exact this.alloc _
    have hrow0 : W5.ownsRow w.heap.size 39 1 (.slice (some ⟨w1.heap.size + 1, 0, none⟩) 0 0) 0 [] := by
      rw [← hW5]
      have := World.ownsRow_made (base := w.heap.size) (e := 39) (size := 1) (w1.alloc (.cells #[.slice A1 n1 c1, .slice A2 n2 c2, .slice A3 n3 c3, .slice A4 n4 c4] 60)) #[] 0 (by simp; omega) (Nat.zero_le _) rfl
      rw [World.size_alloc] at this
      exact (this.alloc _).alloc _
    have hmk3 : W5.heap[w1.heap.size + 1 + 1 + 1]? = some (.cells (four (.slice A1 n1 c1) (.slice A2 n2 c2) (.slice A3 n3 c3) (.slice A4 n4 c4)) 60 (0, 0)) := by
      rw [← hW5]
      have := World.alloc_heap_new (((w1.alloc (.cells #[.slice A1 n1 c1, .slice A2 n2 c2, .slice A3 n3 c3, .slice A4 n4 c4] 60)).alloc (.cells #[] 39)).alloc (.cells #[.slice (some ⟨w1.heap.size + 1, 0, none⟩) 0 0] 22)) (.cells (four (.slice A1 n1 c1) (.slice A2 n2 c2) (.slice A3 n3 c3) (.slice A4 n4 c4)) 60)
      rwa [World.size_alloc, World.size_alloc, World.size_alloc] at this
    obtain ⟨_, hlf⟩ := hm.two
    obtain ⟨_, hrf⟩ := hm.four
    obtain ⟨mid, us1, us3, hmid1, hmid2, hown1, hown3⟩ := hm.own
    obtain ⟨A1', cap1', e1', _, _⟩ := hown1.rows.at
    obtain ⟨rfl, rfl, rfl⟩ : A1 = A1' ∧ n1 = ls.length ∧ c1 = cap1' := by simpa using e1'
    have HLF := Lib.hid (hlf.below hb15)
    have HRF := Lib.hid (hrf.below hb15)
    have HMK := Lib.hid (And.intro hmk1 hmk3)
    have HT5 := Lib.hid (HT.out.later hb05)
    have htw := HT.out.lt
    rw [hW5]
    have HW := Lib.hid (And.intro hsz (And.intro hww1 hb05))
    clear hW5 x0 x1 hm hlf hrf hmk1 hmk3 hb15 hb1 hb01 hW0 hbox hown1 hown3 e1' hmid1 hmid2
    refine wpIn_range_lists (by decide) (gf := 71) (lb := #[.pointer (some ⟨w1.heap.size + 1 + 1 + 1, 0, none⟩)]) rfl (enters_of Tryd.func71 (by kernel_rfl) rfl) rfl (8 ^ 8) (fun xs => pairOk ls rs xs = true) (comp ls.length (2 ^ ls.length - 1) [])
      (AllSt ls rs w W5 (w1.heap.size + 1 + 1)) (allSt_closed (by omega)) (by omega) ?seq ⟨⟨_, [], hn0, owns_rows_nil _ _ _ hrow0⟩, hb05, KeepsO.refl _⟩
      (fun v => { tmps := #[.agg (two L R), .pointer (some ⟨w.heap.size, 0, none⟩), .slice none 0 0, .bool false, .pointer (some ⟨w1.heap.size, 0, none⟩), .bool true, .pointer (some ⟨w1.heap.size + 1 + 1, 0, none⟩), v,
        .tuple #[.agg (four (.slice A1 ls.length c1) (.slice A2 n2 c2) (.slice A3 n3 c3) (.slice A4 n4 c4)), .bool true], .agg #[L, R], .tuple #[.agg (four (.slice A1 ls.length c1) (.slice A2 n2 c2) (.slice A3 n3 c3) (.slice A4 n4 c4)), .bool true],
        .agg (four (.slice A1 ls.length c1) (.slice A2 n2 c2) (.slice A3 n3 c3) (.slice A4 n4 c4)), .bool true, .bool true, .bool false, .slice (some ⟨w1.heap.size + 1, 0, none⟩) 0 0, .agg #[.slice A1 ls.length c1, .slice A2 n2 c2, .slice A3 n3 c3, .slice A4 n4 c4],
        pairSeq (w1.heap.size + 1 + 1 + 1), v, undef, undef, undef, undef, undef, undef, undef, undef], defers := [] })
      ?assign ?body ?done
    case seq =>
      intro l J W1 hb hJ hY h0
      exact pairings1_any l W5.heap.size (8 ^ 8) (Nat.le_refl _) _ J W1 hb.size hJ hY h0 (w1.heap.size + 1 + 1 + 1) A1 ls.length c1 (.slice A2 n2 c2) (.slice A3 n3 c3) (.slice A4 n4 c4) (kept_obj hb HMK.out.2) (by have := HH.out.2.1; omega) (fun p hp => by
        obtain ⟨h1, h5, hrl⟩ := HH.out
        have hr := comp_rank (n := ls.length) (by omega) ls.length (2 ^ ls.length - 1) [] (by
          have : 2 ^ ls.length ≤ 2 ^ 5 := Nat.pow_le_pow_right (by decide) h5
          omega) (leftOf_all (by omega)) (begins_nil _) (by simp) hp
        unfold pairOk
        rw [HOK.out, hr]; rfl) (HT5.out.later hb)
    case assign =>
      intro l v W K hK
      gi_wp2
      exact hK
    case body =>
      rintro l pre b c xs wB X ⟨⟨v, us, hv, hrows⟩, hBw, hkO⟩ hpN hwB hBX hox hgd
      have hse : stableB ls rs xs = (blocksOf ls rs xs).isEmpty := by unfold stableB; rw [hgd]; rfl
      obtain ⟨n, hn⟩ : ∃ n, xs.length = n := ⟨_, rfl⟩
      have hvX : Boxed X (w1.heap.size + 1 + 1) 22 v := kept_obj hBX hv
      obtain ⟨y0, y1, y2, y3, _⟩ := four_cells (kept_obj hBX (hkO.2 _ _ _ _ HMK.out.1 (.inr (.inr rfl))))
      have hst := stable_any X A1 ls.length c1 A2 n2 c2 A3 n3 c3 A4 n4 c4 (some ⟨b, 0, none⟩) xs.length c ls rs xs hgd ((HLF.out.keepsO hkO).below hBX).rows ((HRF.out.keepsO hkO).below hBX).rows (ints_of_owns hox)
      rw [hse, hn] at hst
      have HST := Lib.hid hst
      have HS := Lib.hid (And.intro hv (And.intro hrows (And.intro hBw (And.intro hkO (And.intro hpN (And.intro hwB (And.intro hBX (And.intro hox hvX))))))))
      have hXs := hBX.size
      have htX : 1 < X.heap.size := by omega
      have HTX := Lib.hid htX
      rw [hn]
      clear hse hgd hst hn0 hrow0 hb05 hsz hww1 htw hv hrows hBw hkO hpN hwB hBX hox hXs htX
      cases hem : (blocksOf ls rs xs).isEmpty with
      | false =>
        rw [hem] at HST
        have HF : Hid ((pre ++ [xs]).filter (fun p => (blocksOf ls rs p).isEmpty) = pre.filter fun p => (blocksOf ls rs p).isEmpty) := Lib.hid (by rw [List.filter_append, show List.filter (fun p => (blocksOf ls rs p).isEmpty) [xs] = [] from by rw [List.filter_cons, hem]; rfl, List.append_nil])
        clear hem hvX
        gi_wp2_with (refine ⟨trivial, ?_⟩; gi_at_call 46; refine (CallsIn.inRound l (callsIn_wide.2 HST.out)).mono ?_; rintro e X2 ⟨rfl, hb2⟩)
        obtain ⟨hv, hrows, hBw, hkO, hpN, hwB, hBX, hox, hvX⟩ := HS.out
        have hb02 := step_below hBX hb2
        refine ⟨⟨⟨v, us, kept_obj hb02 hv, ?_⟩, hBw.trans (hb02.mono hBw.size), hkO.trans (KeepsO.below hb02)⟩, KeepsU.below hb2 HTX.out⟩
        rw [HF.out]
        exact (hrows.below hb02).wide (Nat.le_refl _) hb02.size
      | true =>
        rw [hem] at HST
        have HF : Hid ((pre ++ [xs]).filter (fun p => (blocksOf ls rs p).isEmpty) = (pre.filter fun p => (blocksOf ls rs p).isEmpty) ++ [xs]) := Lib.hid (by rw [List.filter_append, show List.filter (fun p => (blocksOf ls rs p).isEmpty) [xs] = [xs] from by rw [List.filter_cons, hem]; rfl])
        have HFL : Hid ((pre.filter fun p => (blocksOf ls rs p).isEmpty).length < 8 ^ 8) := Lib.hid (by have := List.length_filter_le (fun p => (blocksOf ls rs p).isEmpty) pre; have := HS.out.2.2.2.2.1; omega)
        have HROW : Hid (∀ Y, Below wB.heap.size wB Y → Y.ownsRow w.heap.size 39 1 v us.length us) := Lib.hid fun Y hY => by
          have h := HS.out.2.1
          have h2 := owns_below h.outer.1 hY
          rwa [← h.len] at h2
        have HUL : Hid (us.length < 8 ^ 8) := Lib.hid (by rw [HS.out.2.1.len]; exact HFL.out)
        have HSZ : Hid (w.heap.size ≤ X.heap.size ∧ w1.heap.size + 1 + 1 < X.heap.size) := Lib.hid ⟨by have := HS.out.2.2.1.size; have := HS.out.2.2.2.2.2.2.1.size; omega, hvX.lt⟩
        clear hem hvX
        gi_wp2_with (first
          | (refine ⟨trivial, ?_⟩; gi_at_call 46; refine (CallsIn.inRound l (callsIn_wide.2 HST.out)).mono ?_; rintro e X2 ⟨rfl, hb2⟩; have hv2 : Boxed X2 (w1.heap.size + 1 + 1) 22 v := kept_obj hb2 HS.out.2.2.2.2.2.2.2.2; have hcr := hv2.cell; have hfr := hv2.frozen)
          | (gi_at_builtin; refine wpListIn_append_own _ rfl _ _ 22 rfl w.heap.size 39 i0 (.slice none 0 0) 1 24 Tryd.underlying22 hi hz0 hz1 hz2 rfl (by decide) _ _ _ rfl ((HROW.out X2 (step_below HS.out.2.2.2.2.2.2.1 hb2)).alloc _) ⟨X2.heap.size, 0, none⟩ 1 1 [.slice (some ⟨b, 0, none⟩) n c] rfl rfl ?q1 ?q2 ?q3 ?q4 ?q5 ?_; rotate_left 5; intro v' w2 hown' hgrow _; obtain ⟨g', cap', rfl⟩ := ownsRow_succ hown'; obtain ⟨hv1, hv3, hr2, hk2, hb3⟩ := hv2.appended (by decide) (HROW.out X2 (step_below HS.out.2.2.2.2.2.2.1 hb2)) (Nat.le_trans HSZ.out.1 hb2.size) (by have := HW.out; omega) hown' hgrow; have hc1 := hv1.cell; have hf1 := hv1.frozen))
        case q1 => exact cell_one_new X2 (.slice (some ⟨b, 0, none⟩) n c) 39
        case q2 => intro z hz; rw [List.mem_singleton.1 hz]; rfl
        case q3 => have := HUL.out; unfold maxLen; omega
        case q4 => have := HUL.out; omega
        case q5 => have := HSZ.out.1; have := hb2.size; simp; omega
        obtain ⟨hv, hrows, hBw, hkO, hpN, hwB, hBX, hox, hvX⟩ := HS.out
        have hrow2 := HROW.out X2 (step_below hBX hb2)
        have hku : KeepsU W5.heap.size X2 (w2.setCell ⟨w1.heap.size + 1 + 1, 0, none⟩ (.slice (some ⟨g', 0, none⟩) (us.length + 1) cap')) := keepsU_append hv1 hrow2 hgrow hk2 hb3 HT.out.lt
        have hb4 : Below wB.heap.size wB (X2.alloc (.cells #[.slice (some ⟨b, 0, none⟩) n c] 39)) := (step_below hBX hb2).alloc (step_below hBX hb2).size _
        have hox' : Owns X wB.heap.size (.slice (some ⟨b, 0, none⟩) n c) xs := by rw [← hn]; exact hox
        have hps := hrows.push hBw.size hb4 ((owns_below hox' hb2).alloc _) hown' hgrow
        have hgs := grownBy_setCell' w2 (w1.heap.size + 1 + 1) (.slice (some ⟨g', 0, none⟩) (us.length + 1) cap')
        have hps2 := hps.other hgs hv1 (by decide) (by decide)
        refine ⟨⟨⟨_, us ++ [.slice (some ⟨b, 0, none⟩) n c], hv3, ?_⟩, (hBw.trans ((step_below hBX hb2).mono hBw.size)).trans hb3, ?_⟩, (KeepsU.below hb2 HTX.out).trans hku⟩
        · rw [HF.out]
          exact hps2.wide (Nat.le_refl _) hgs.size
        · exact ((hkO.trans (KeepsO.below hb4)).trans (KeepsO.own (hrow2.alloc _) hgrow)).trans (KeepsO.cell hgs hv1 (by decide) (by decide) (by decide))
    case done =>
      rintro D X hD ⟨⟨v, us, hv, hrows⟩, hbX, -⟩ hKD
      have hc := hv.cell
      have hDw : w.heap.size ≤ D := by have := HW.out; omega
      have HALL : Hid (allL ls rs = (comp ls.length (2 ^ ls.length - 1) []).filter fun p => (blocksOf ls rs p).isEmpty) := Lib.hid (by
        rw [HEQ.out]
        have h5 := HH.out.2.1
        have : 2 ^ ls.length ≤ 2 ^ 5 := Nat.pow_le_pow_right (by decide) h5
        exact allI_comp (by omega) _ _ _ (by omega) (leftOf_all (by omega)))
      clear hn0 hrow0 hb05 hsz hww1 htw
      gi_wp2
      refine ⟨by simp, .inl ⟨_, _, rfl, run_takeDeferred hKD, ?_⟩⟩
      have hgp := grownBy_putObj' X D (.deferred none)
      have hst := hrows.still (row := some D) hgp (fun r e => by cases e; exact ⟨_, hKD, rfl⟩)
      rw [HALL.out]
      refine ⟨.tuple #[v, .bool true], by simp [results, Tryd.f13, go_sem], v, us, rfl, hbX.trans (belowK_b (w := w) (Nat.le_refl _) X D _ _ hDw hKD rfl rfl), hst.wide (Nat.le_refl _) hgp.size⟩

end Go.Proofs.YtahilcnmjnjcaaaDoor
