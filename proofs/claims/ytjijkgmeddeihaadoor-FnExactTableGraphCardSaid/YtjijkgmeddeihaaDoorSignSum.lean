/-
  (impl.signs).sum: the sum over a set's numbers with signs in turn or alike.
-/
import Derived.Test.YtjijkgmeddeihaaDoorAllB
import Derived.Test.YtjijkgmeddeihaaDoorMarks
import Derived.RangeFuncWrites
import Derived.Deep.RegionWith
namespace Go.Proofs.YtjijkgmeddeihaaDoor
set_option linter.unusedVariables false
set_option linter.unusedSimpArgs false
open Go.RowKit Go.Shelf
attribute [local go_sem] Oper.semAt_some

def sumStep (sg : Int) (term : Nat → Int) (s : Int × Int) (v : Nat) : Int × Int := (s.1 + s.2 * term v, s.2 * sg)
def sumS (sg : Int) (term : Nat → Int) (l : List Nat) : Int × Int := l.foldl (sumStep sg term) (0, 1)
theorem sumS_snoc (sg : Int) (term : Nat → Int) (l : List Nat) (v : Nat) : sumS sg term (l ++ [v]) = sumStep sg term (sumS sg term l) v := by unfold sumS; rw [List.foldl_append]; rfl
theorem sumS_sign {sg : Int} (hsg : sg = 1 ∨ sg = -1) (term : Nat → Int) (l : List Nat) : (sumS sg term l).2 = 1 ∨ (sumS sg term l).2 = -1 := by
  unfold sumS
  have key : ∀ (l : List Nat) (s : Int × Int), (s.2 = 1 ∨ s.2 = -1) → ((l.foldl (sumStep sg term) s).2 = 1 ∨ (l.foldl (sumStep sg term) s).2 = -1) := by
    intro l
    induction l with
    | nil => exact fun s h => h
    | cons v t ih =>
      intro s h
      rw [List.foldl_cons]
      refine ih _ ?_
      show s.2 * sg = 1 ∨ s.2 * sg = -1
      rcases h with h | h <;> rcases hsg with g | g <;> rw [h, g] <;> simp
  exact key l _ (.inl rfl)
theorem sumS_bound {sg : Int} (hsg : sg = 1 ∨ sg = -1) {term : Nat → Int} {B : Int} (l : List Nat) (h : ∀ v ∈ l, -B ≤ term v ∧ term v ≤ B) : -(B * l.length) ≤ (sumS sg term l).1 ∧ (sumS sg term l).1 ≤ B * l.length := by
  have key : ∀ (l : List Nat) (s : Int × Int), (s.2 = 1 ∨ s.2 = -1) → (∀ v ∈ l, -B ≤ term v ∧ term v ≤ B) → s.1 - B * l.length ≤ (l.foldl (sumStep sg term) s).1 ∧ (l.foldl (sumStep sg term) s).1 ≤ s.1 + B * l.length := by
    intro l
    induction l with
    | nil => intro s _ _; simp
    | cons v t ih =>
      intro s hs hl
      rw [List.foldl_cons]
      have hs2 : (sumStep sg term s v).2 = 1 ∨ (sumStep sg term s v).2 = -1 := by
        show s.2 * sg = 1 ∨ s.2 * sg = -1
        rcases hs with h | h <;> rcases hsg with g | g <;> rw [h, g] <;> simp
      have := ih (sumStep sg term s v) hs2 (fun u hu => hl u (by simp [hu]))
      have hv := hl v (by simp)
      have he : (sumStep sg term s v).1 = s.1 + s.2 * term v := rfl
      rw [he] at this
      have hb : -B ≤ s.2 * term v ∧ s.2 * term v ≤ B := by rcases hs with h | h <;> rw [h] <;> constructor <;> omega
      rw [List.length_cons, Int.natCast_succ, Int.mul_add, Int.mul_one]
      omega
  have := key l (0, 1) (.inl rfl) h
  unfold sumS
  simp only [Int.zero_sub, Int.zero_add] at this
  exact this

/-- What stands when some numbers were added. -/
def SumI (w : World) (sg : Int) (term : Nat → Int) (fv : Value) (pre : List Nat) (X : World) : Prop :=
  Boxed X w.heap.size 58 (.int .i64 sg) ∧ Boxed X (w.heap.size + 1) 74 fv ∧ Boxed X (w.heap.size + 2) 3 (.int .i64 (sumS sg term pre).1) ∧ Boxed X (w.heap.size + 3) 3 (.int .i64 (sumS sg term pre).2) ∧ Below w.heap.size w X
theorem sumI_own {w : World} {sg : Int} {term : Nat → Int} {fv : Value} {m : Nat} {S : Nat} (hS : w.heap.size + 4 ≤ S) : OwnFrom S (fun (pre : List {x : Fin 8 // m.testBit x.val = true}) X => SumI w sg term fv (pre.map (fun x => x.1.val)) X) := by
  intro pre X Y row hs hg hr
  obtain ⟨g1, g2, g3, g4, g5⟩ := hs
  have kp : ∀ {b : Nat} {o : Obj}, b < S → X.heap[b]? = some o → Y.heap[b]? = some o := fun {b} {o} hb ho =>
    (hg.block b (Array.getElem?_eq_some_iff.1 ho).1 (fun e => by have := (hr b e.symm).1; omega)).trans ho
  exact ⟨kp (by omega) g1, kp (by omega) g2, kp (by omega) g3, kp (by omega) g4, g5.grown hg g5.size (fun k e => Nat.le_trans (by omega) (hr k e).1)⟩

theorem sum_leave (w : World) (z : Int) (tmps : Array Value) (hp : tmps[6]? = some (.int .i64 z)) (ds : List Deferred) (W : World)
    (hM : Go.Proofs.YtjijkgmeddeihaaDoor.Marks w.heap.size ds W) (hB : Below w.heap.size w W) :
    bodyPostM Fence.wide 9 Tryd.prog Tryd.f45 (fun e w' => e = .returned (.int .i64 z) ∧ Below w.heap.size w w') .ret { tmps := tmps, defers := ds } W := by
  refine leaves_marks (F := Fence.wide) (n := 9) w.heap.size (fun W => Below w.heap.size w W) ?_ ?_ ds W hM hB
  · rintro W D hD hk h1
    exact below_shut h1 hD hk
  · rintro W h1
    exact ⟨.int .i64 z, by simp [results, Tryd.f45, go_sem, hp], rfl, h1⟩


theorem round_kS {F : Fence} {n : Nat} {P : Program} {c : Code} {J : Act → World → Prop} {Q : Exit → Act → World → Prop} {a : Act} {w : World}
    (h : ∀ K : Act → World → Prop, (∀ a' w', J a' w' → K a' w') → c.wpIn F n P (Exit.then K Q) a w) : c.wpIn F n P (Exit.then J Q) a w := h J (fun _ _ q => q)
theorem bitsOf_len8 (m : Nat) : (bitsOf m).length ≤ 8 := by unfold bitsOf; refine Nat.le_trans (List.length_filter_le _ _) ?_; simp
theorem below_undrewB {W W' : World} (h : Below W.drew.heap.size W.drew W') : Below W.heap.size W W' := ⟨h.os, h.tape, h.output, h.size, h.block⟩
theorem wrap_big (x : Int) (h1 : -4000000000000000 ≤ x) (h2 : x ≤ 4000000000000000) : IntKind.i64.wrap x = x ∧ wrap64 x = x := by
  have h : IntKind.i64.wrap x = x := by rw [IntKind.wrap_i64]; omega
  exact ⟨h, by rw [← wrap_eq]; exact h⟩

set_option maxRecDepth 100000 in
set_option maxHeartbeats 4000000 in
theorem signSum_any (w : World) (sg : Int) (hsg : sg = 1 ∨ sg = -1) (m : Nat) (hm : m < 256) (hT : Tab w) (K : FuncId) (caps : Array Value) (term : Nat → Int) (B : Int) (hB : B ≤ 100000000000000)
    (hE : ∀ args W, (callFunc K args).run Tryd.prog W = .ok (.enter K args) W)
    (hK : ∀ v, v < 8 → m.testBit v = true → ∀ W, Below w.heap.size w W → Calls Tryd.prog K (#[.int .i64 (v : Int)] ++ caps) W fun e W' => e = .returned (.int .i64 (term v)) ∧ Below W.heap.size W W')
    (hbd : ∀ v, v < 8 → m.testBit v = true → -B ≤ term v ∧ term v ≤ B) :
    Calls Tryd.prog 45 #[.int .i64 sg, .int .i64 (m : Int), .func (.func K) #[] caps] w fun e w' => e = .returned (.int .i64 (sumS sg term ((bitsOf m).map Fin.val)).1) ∧ Below w.heap.size w w' := by
  have HT := Lib.hid hT
  have HK := Lib.hid hK
  have HBD := Lib.hid hbd
  have HSG := Lib.hid hsg
  obtain ⟨fv, hfv⟩ : ∃ fv, Value.func (.func K) #[] caps = fv := ⟨_, rfl⟩
  obtain ⟨W3, hW3⟩ : ∃ W3, (((w.alloc (.cells #[.int .i64 sg] 58)).alloc (.cells #[fv] 74)).alloc (.cells #[.int .i64 0] 3)).alloc (.cells #[.int .i64 1] 3) = W3 := ⟨_, rfl⟩
  clear hT hK hbd hsg
  refine (callsIn_wide (n := 9)).1 ?_
  refine callsIn_of_wp_marks Tryd.func45 rfl trivial ?_ rfl
  simp only [Tryd.ntmps45, List.size_toArray, List.length_cons, List.length_nil, Nat.reduceAdd, Nat.reduceSub, Array.replicate_succ, Array.replicate_zero, List.push_toArray, List.append_toArray, List.nil_append, List.cons_append]
  rw [hfv]
  gi_wp2_with (refine ⟨trivial, ?_⟩; gi_at_call 58; refine (callsIn_wide.2 (all_any m _)).mono ?_; rintro e w' ⟨rfl, rfl⟩)
  have e2 : w.heap.size + 1 + 1 = w.heap.size + 2 := by omega
  have e3 : w.heap.size + 2 + 1 = w.heap.size + 3 := by omega
  have e4 : w.heap.size + 3 + 1 = w.heap.size + 4 := by omega
  rw [hW3]
  simp only [e2, e3, e4]
  obtain ⟨W4, hW4⟩ : ∃ W4, W3.alloc (.cells #[.int .i64 (m : Int)] 36) = W4 := ⟨_, rfl⟩
  rw [hW4]
  have hs3 : W3.heap.size = w.heap.size + 4 := by rw [← hW3]; simp
  have hs4 : W4.heap.size = w.heap.size + 5 := by rw [← hW4]; simp; omega
  have hb3 : Below w.heap.size w W3 := by rw [← hW3]; exact ((((Below.refl _ _).alloc (Nat.le_refl _) _).alloc (by simp) _).alloc (by simp; omega) _).alloc (by simp; omega) _
  have hb4 : Below w.heap.size w W4 := by rw [← hW4]; exact hb3.alloc (by omega) _
  have k1 : Boxed W3 w.heap.size 58 (.int .i64 sg) := by
    rw [← hW3]
    exact (((Boxed.new w 58 (.int .i64 sg)).alloc _).alloc _).alloc _
  have k2 : Boxed W3 (w.heap.size + 1) 74 fv := by
    rw [← hW3]
    have := ((Boxed.new (w.alloc (.cells #[.int .i64 sg] 58)) 74 fv).alloc (.cells #[.int .i64 0] 3)).alloc (.cells #[.int .i64 1] 3)
    rwa [World.size_alloc] at this
  have k3 : Boxed W3 (w.heap.size + 2) 3 (.int .i64 0) := by
    rw [← hW3]
    have := (Boxed.new ((w.alloc (.cells #[.int .i64 sg] 58)).alloc (.cells #[fv] 74)) 3 (.int .i64 0)).alloc (.cells #[.int .i64 1] 3)
    rwa [World.size_alloc, World.size_alloc] at this
  have k4 : Boxed W3 (w.heap.size + 3) 3 (.int .i64 1) := by
    rw [← hW3]
    have := Boxed.new (((w.alloc (.cells #[.int .i64 sg] 58)).alloc (.cells #[fv] 74)).alloc (.cells #[.int .i64 0] 3)) 3 (.int .i64 1)
    rwa [World.size_alloc, World.size_alloc, World.size_alloc] at this
  have hst : W4.heap[w.heap.size + 4]? = some (.cells #[.int .i64 (m : Int)] 36 (0, 0)) := by
    rw [← hW4, ← hs3]; exact World.alloc_heap_new _ _
  have hI0 : SumI w sg term fv [] W4 := by
    rw [← hW4]
    exact ⟨k1.alloc _, k2.alloc _, k3.alloc _, k4.alloc _, by rw [hW4]; exact hb4⟩
  have HI0 := Lib.hid hI0
  have hT4 := HT.out.later hb4
  clear hW3 hW4 k1 k2 k3 k4 hI0 hb3 hs3
  refine wpIn_rangeFunc_ownG rfl (by decide) (gf := 62) (lb := #[.pointer (some ⟨w.heap.size + 4, 0, none⟩)]) rfl trivial (enters_of Tryd.func62 (by kernel_rfl) rfl)
    (all_stopsB (9 - 1) (by decide) (w.heap.size + 4) w.heap.size m hm W4 HT.out.lt (by omega) (cell_of_one hst) hT4) belowK_t (belowK_b (by omega)) (Below.refl _ _) (fun _ => rfl)
    (fun pre X => SumI w sg term fv (pre.map (fun x => x.1.val)) X) (fun _ _ _ => False) (sumI_own (by omega)) (fun c => ownFrom_pure _ (fun _ => False)) HI0.out
    (fun x => { tmps := #[.int .i64 sg, .int .i64 (m : Int), fv, .pointer (some ⟨w.heap.size, 0, none⟩), undef, .pointer (some ⟨w.heap.size + 1, 0, none⟩), .int .i64 0, .pointer (some ⟨w.heap.size + 2, 0, none⟩), .pointer (some ⟨w.heap.size + 3, 0, none⟩), .int .i64 ((x.1.val : Nat) : Int), .int .i64 (m : Int), seqOf (w.heap.size + 4), .int .i64 ((x.1.val : Nat) : Int), undef, undef, undef, undef, undef, undef, undef, undef, undef, undef, undef], defers := [] })
    ?assign ?body ?done ?stop
  case assign =>
    intro l x X K hK
    gi_wp2
    exact hK
  case body =>
    rintro l pre x X ⟨g1, g2, g3, g4, g5⟩ hlen
    obtain ⟨v, hv⟩ : ∃ v, x.1.val = v := ⟨_, rfl⟩
    have hv8 : v < 8 := by rw [← hv]; exact x.1.isLt
    have hvm : m.testBit v = true := by rw [← hv]; exact x.2
    have hpl : pre.length ≤ 8 := Nat.le_of_lt (Nat.lt_of_lt_of_le hlen (bitsOf_len8 m))
    obtain ⟨l1, hl1⟩ : ∃ l1, pre.map (fun x => x.1.val) = l1 := ⟨_, rfl⟩
    have hmem : ∀ u ∈ l1, u < 8 ∧ m.testBit u = true := fun u hu => by
      rw [← hl1] at hu
      obtain ⟨y, _, rfl⟩ := List.mem_map.1 hu
      exact ⟨y.1.isLt, y.2⟩
    have hl1l : l1.length ≤ 8 := by rw [← hl1, List.length_map]; exact hpl
    have hsb := sumS_bound HSG.out l1 (fun u hu => HBD.out u (hmem u hu).1 (hmem u hu).2)
    have hsn := sumS_sign HSG.out term l1
    have htb := HBD.out v hv8 hvm
    have hsnoc := sumS_snoc sg term l1 v
    rw [hl1] at g3 g4
    obtain ⟨a, ha⟩ : ∃ a, (sumS sg term l1).1 = a := ⟨_, rfl⟩
    obtain ⟨b, hb⟩ : ∃ b, (sumS sg term l1).2 = b := ⟨_, rfl⟩
    obtain ⟨c, hc⟩ : ∃ c, term v = c := ⟨_, rfl⟩
    unfold sumStep at hsnoc
    rw [ha] at hsb g3
    rw [hb] at hsn g4
    rw [hc] at htb
    rw [ha, hb, hc] at hsnoc
    obtain ⟨p, hp⟩ : ∃ p, b * c = p := ⟨_, rfl⟩
    obtain ⟨s, hs⟩ : ∃ s, a + p = s := ⟨_, rfl⟩
    obtain ⟨r, hr⟩ : ∃ r, b * sg = r := ⟨_, rfl⟩
    rw [hp, hs, hr] at hsnoc
    have hpb : -B ≤ p ∧ p ≤ B := by rw [← hp]; rcases hsn with h | h <;> rw [h] <;> constructor <;> omega
    have hrb : -1 ≤ r ∧ r ≤ 1 := by rw [← hr]; rcases hsn with h | h <;> rcases HSG.out with g | g <;> rw [h, g] <;> simp
    have hB0 : 0 ≤ B := by omega
    have hBl : B * (l1.length : Int) ≤ B * 8 := Int.mul_le_mul_of_nonneg_left (by omega) hB0
    have hab : -(B * 8) ≤ a ∧ a ≤ B * 8 := by omega
    have hsbb : -4000000000000000 ≤ s ∧ s ≤ 4000000000000000 := by omega
    have hpbb : -4000000000000000 ≤ p ∧ p ≤ 4000000000000000 := by omega
    have hrbb : -4000000000000000 ≤ r ∧ r ≤ 4000000000000000 := by omega
    have HW := Lib.hid (And.intro (wrap_big p hpbb.1 hpbb.2) (And.intro (wrap_big s hsbb.1 hsbb.2) (wrap_big r hrbb.1 hrbb.2)))
    have hcall := HK.out v hv8 hvm X.drew g5.drew
    rw [hc] at hcall
    have HCALL := Lib.hid hcall
    have HSN := Lib.hid (And.intro hsnoc (And.intro hl1 hv))
    have HG := Lib.hid (And.intro g1 (And.intro g2 (And.intro g3 (And.intro g4 g5))))
    have q1 := g1.cell
    have q2 := g2.cell
    have q3 := g3.cell
    have q4 := g4.cell
    have f3 := g3.frozen
    have f4 := g4.frozen
    have HSZ := Lib.hid hs4
    have HQ := Lib.hid (fun (w5 : World) (h : Below X.drew.heap.size X.drew w5) => show w5.cell? ⟨w.heap.size + 2, 0, none⟩ = some (.int .i64 a) ∧ w5.cell? ⟨w.heap.size + 3, 0, none⟩ = some (.int .i64 b) ∧ w5.frozen? ⟨w.heap.size + 2, 0, none⟩ = false from by
      have h2 := below_undrewB h
      have k3 : Boxed w5 (w.heap.size + 2) 3 (.int .i64 a) := (h2.block _ g3.lt).trans g3
      have k4 : Boxed w5 (w.heap.size + 3) 3 (.int .i64 b) := (h2.block _ g4.lt).trans g4
      exact ⟨k3.cell, k4.cell, k3.frozen⟩)
    subst hfv
    rw [hv]
    clear hcall hsnoc hl1 hsb hsn htb ha hb hc hpb hrb hBl hab hsbb hpbb hrbb hmem hl1l hpl hB0 g1 g2 g3 g4 g5 hT4 hst hb4 hvm hlen hs4
    obtain ⟨⟨hw1, hw1'⟩, ⟨hw2, hw2'⟩, hw3, hw3'⟩ := HW.out
    gi_wp2
    refine round_kS (fun K3 hK3 => ?_)
    have HK3 := Lib.hid hK3
    clear hK3
    obtain ⟨KEY, -⟩ : (∀ (w5 : World), Below X.drew.heap.size X.drew w5 → K3 { tmps := #[.int .i64 sg, .int .i64 (m : Int), .func (.func K) #[] caps, .pointer (some ⟨w.heap.size, 0, none⟩), undef, .pointer (some ⟨w.heap.size + 1, 0, none⟩), .int .i64 0, .pointer (some ⟨w.heap.size + 2, 0, none⟩), .pointer (some ⟨w.heap.size + 3, 0, none⟩), .int .i64 (v : Int), .int .i64 (m : Int), seqOf (w.heap.size + 4), .int .i64 (v : Int), .int .i64 a, .int .i64 b, .func (.func K) #[] caps, .int .i64 (v : Int), .int .i64 c, .int .i64 p, .int .i64 s, undef, undef, undef, undef], defers := [] } (w5.setCell ⟨w.heap.size + 2, 0, none⟩ (.int .i64 s))) ∧ True := by
      refine ⟨?_, trivial⟩
      intro w5 hb5
      refine HK3.out _ _ ?_
      clear HK3 q1 q2 q3 q4 f3 f4
      obtain ⟨g1, g2, g3, g4, g5⟩ := HG.out
      have hsz := HSZ.out
      have hb := below_undrewB hb5
      have hl1 := g1.lt
      have hl2 := g2.lt
      have hl3 := g3.lt
      have hl4 := g4.lt
      have hX5 := hb.size
      obtain ⟨W6, hW6⟩ : ∃ W6, w5.setCell ⟨w.heap.size + 2, 0, none⟩ (.int .i64 s) = W6 := ⟨_, rfl⟩
      have o6 : ∀ k, k ≠ w.heap.size + 2 → W6.heap[k]? = w5.heap[k]? := fun k hk => by rw [← hW6]; exact Below.heap_setCell _ _ _ k hk
      have s6 : W6.heap.size = w5.heap.size := by rw [← hW6]; simp [World.setCell]
      have m1 : Boxed W6 w.heap.size 58 (.int .i64 sg) := (o6 _ (by omega)).trans ((hb.block _ hl1).trans g1)
      have m2 : Boxed W6 (w.heap.size + 1) 74 (.func (.func K) #[] caps) := (o6 _ (by omega)).trans ((hb.block _ hl2).trans g2)
      have m3 : Boxed W6 (w.heap.size + 2) 3 (.int .i64 s) := by
        rw [← hW6]
        have k3 : Boxed w5 (w.heap.size + 2) 3 (.int .i64 a) := (hb.block _ hl3).trans g3
        exact k3.set _
      have m4 : Boxed W6 (w.heap.size + 3) 3 (.int .i64 b) := (o6 _ (by omega)).trans ((hb.block _ hl4).trans g4)
      have b6 : Below w.heap.size w W6 := by
        rw [← hW6]
        exact (step_below g5 hb).setCell (p := ⟨w.heap.size + 2, 0, none⟩) (by show w.heap.size ≤ w.heap.size + 2; omega) _
      rw [hW6]
      have c1 := m1.cell
      have c4 := m4.cell
      have c5 := m4.frozen
      have HM := Lib.hid (And.intro m1 (And.intro m2 (And.intro m3 (And.intro m4 (And.intro b6 (And.intro o6 s6))))))
      have HL := Lib.hid (And.intro hsz (And.intro hX5 hb))
      clear m1 m2 m3 m4 b6 o6 s6 hW6 hsz hX5 hl1 hl2 hl3 hl4 g1 g2 g3 g4 g5 hb5 hb hw1 hw1' hw2 hw2' hp hs
      gi_wp2
      clear c1 c4 c5 hw3 hw3' hr
      obtain ⟨m1, m2, m3, m4, b6, o6, s6⟩ := HM.out
      obtain ⟨hsz, hX5, hb⟩ := HL.out
      obtain ⟨hsn, hl, hvv⟩ := HSN.out
      have gK : KeepsFrom W4.heap.size X (W6.setCell ⟨w.heap.size + 3, 0, none⟩ (.int .i64 r)) := ⟨by simp [World.setCell] at s6 ⊢; omega, fun k o hk ho _ => by
        rw [Below.heap_setCell _ _ _ k (by show k ≠ w.heap.size + 3; omega), o6 k (by omega), hb.block k (Array.getElem?_eq_some_iff.1 ho).1]
        exact ho⟩
      have gB : Below w.heap.size X (W6.setCell ⟨w.heap.size + 3, 0, none⟩ (.int .i64 r)) := ⟨b6.os.trans (HG.out.2.2.2.2.os).symm, b6.tape.trans (HG.out.2.2.2.2.tape).symm, b6.output.trans (HG.out.2.2.2.2.output).symm, by simp [World.setCell] at s6 ⊢; omega, fun k hk => by
        rw [Below.heap_setCell _ _ _ k (by show k ≠ w.heap.size + 3; omega), b6.block k hk, HG.out.2.2.2.2.block k hk]⟩
      refine ⟨gK, gB, ?_⟩
      have e1 : (pre ++ [x]).map (fun x => x.1.val) = l1 ++ [v] := by rw [List.map_append, hl]; simp [hvv]
      show SumI w sg term (.func (.func K) #[] caps) ((pre ++ [x]).map (fun x => x.1.val)) _
      rw [e1]
      unfold SumI
      rw [hsn]
      have o7 : ∀ k, k ≠ w.heap.size + 3 → (W6.setCell ⟨w.heap.size + 3, 0, none⟩ (.int .i64 r)).heap[k]? = W6.heap[k]? := fun k hk => Below.heap_setCell _ _ _ k hk
      exact ⟨(o7 _ (by omega)).trans m1, (o7 _ (by omega)).trans m2, (o7 _ (by omega)).trans m3, m4.set _, b6.setCell (p := ⟨w.heap.size + 3, 0, none⟩) (by show w.heap.size ≤ w.heap.size + 3; omega) _⟩
    have hfo : Tryd.prog.follows Departure.mixedOrders = true := by kernel_rfl
    gi_region_with_o (first
      | (refine ⟨trivial, ?_⟩; refine (CallsIn.inRound l (callsIn_wide.2 HCALL.out)).mono ?_; rintro e w5 ⟨rfl, hb5⟩; obtain ⟨z3, z4, z5⟩ := HQ.out w5 hb5)
      | (refine (CallsIn.inRound l (callsIn_wide.2 HCALL.out)).mono ?_; rintro e w5 ⟨rfl, hb5⟩; obtain ⟨z3, z4, z5⟩ := HQ.out w5 hb5))
    all_goals exact KEY w5 hb5
  case done =>
    rintro D ys X hD hys ⟨g1, g2, g3, g4, g5⟩ hKD
    have e1 : ys.map (fun x => x.1.val) = (bitsOf m).map Fin.val := by rw [← hys, List.map_map]; rfl
    rw [e1] at g3
    have hc := g3.cell
    have hDw : w.heap.size ≤ D := by omega
    have HG := Lib.hid g5
    clear g1 g2 g3 g4 g5 e1 hys
    gi_wp2
    exact sum_leave w _ _ (by rfl) _ _ ((Marks.nil _ _).cons hDw hKD (by simp)) HG.out
  case stop =>
    rintro D c pre X hD hpre h hKD
    exact h.elim

end Go.Proofs.YtjijkgmeddeihaaDoor
