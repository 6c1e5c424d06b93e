/- Contract of expr.Check. -/
import Derived.Test.YtehkebncdahmcaaGreatDoorExVisit
import Derived.Test.YtehkebncdahmcaaGreatDoorExNode
import Derived.RangeFuncBox
namespace Go.Proofs.YtehkebncdahmcaaGreatDoor.ExC
open Go.RowKit Go.Shelf
open ExM Kit ExL ExN ExV
set_option linter.unusedVariables false
attribute [local go_sem] Oper.semAt_some

theorem Kp.setCell {n₀ n₁ : Nat} (W : World) {p : Addr} (h0 : n₀ ≤ p.block) (h1 : p.block < n₁) (v : Value) : Kp n₀ n₁ W (W.setCell p v) :=
  ⟨(Below.refl n₀ W).setCell h0 v, fun b o hb ho _ => by rw [Below.heap_setCell W p v b (by omega)]; exact ho⟩
theorem box_own {β : Type} (B : Nat) (d : Nd) (A : Option Addr) (m c : Nat) (X : Nat) : OwnFrom X (fun (_ : β) W => Box W B d A m c) := by
  intro s W W' row h hg hr
  unfold Box at h ⊢
  rw [hg.block B (Array.getElem?_eq_some_iff.1 h).1 (fun e => ?_)]
  · exact h
  · obtain ⟨_, o, ho, hc⟩ := hr _ e.symm
    rw [h] at ho; cases ho; cases hc
theorem def_own {β : Type} (D X : Nat) (h : D < X) (o : Obj) : OwnFrom X (fun (_ : β) W => W.heap[D]? = some o) := by
  intro s W W' row hs hg hr
  rw [hg.block D (Array.getElem?_eq_some_iff.1 hs).1 (fun e => ?_)]
  · exact hs
  · have := (hr _ e.symm).1; omega
theorem firstE_prefix {q p : List (Nd × Nat)} (h : q <+: p) (hq : firstE q ≠ 0) : firstE p = firstE q := by
  obtain ⟨r, rfl⟩ := h
  rw [firstE_append, if_neg hq]
theorem firstE_snoc (q : List (Nd × Nat)) (x : Nd × Nat) (h : firstE q = 0) : firstE (q ++ [x]) = nodeE x.1 x.2 := by
  rw [firstE_append, if_pos h]
  obtain ⟨d, m⟩ := x
  rw [firstE_cons]
  by_cases h : nodeE d m = 0
  · rw [if_pos h, h]; rfl
  · rw [if_neg h]

theorem keeps_below {W W' : World} (h : Below W.heap.size W W') (B : Nat) : KeepsFrom B W W' := ⟨h.size, fun k o _ hk _ => (h.block k (Array.getElem?_eq_some_iff.1 hk).1).trans hk⟩
/-- Between two rounds of the first loop. -/
def I1 (w : World) (d : Nd) (A : Option Addr) (m c : Nat) (pre : List Al) (W : World) : Prop :=
  ((((pre.length ≤ 60 ∧ Boxed W (w.heap.size + 1 + 1) 3 (.int .i64 (pre.length : Int))) ∧ Boxed W (w.heap.size + 1) 27 (.int .i64 0)) ∧ Box W w.heap.size d A m c) ∧ Below w.heap.size w W)

set_option maxRecDepth 100000 in
set_option maxHeartbeats 1000000 in
theorem check_any (x : Ex) (d : Nd) (A : Option Addr) (m c : Nat) (w : World) (his : Is w x d A m) (hT : Tab w) :
    Calls Tryz.prog 18 #[.agg #[.int .i64 d.op, .int .i64 d.k, .int .i64 d.n, .string d.s, .string d.nm, .slice A m c]] w fun e w' => e = .returned (.int .i64 x.checkE) ∧ Below w.heap.size w w' := by
  refine (callsIn_wide (n := 5)).1 ?_
  obtain ⟨R, hR⟩ : ∃ R, x.checkE = R := ⟨_, rfl⟩
  rw [hR]
  have HR := Lib.hid hR
  have HIs := Lib.hid his
  have HT := Lib.hid hT
  clear his hT hR
  refine callsIn_of_wp_marks Tryz.func18 rfl trivial ?_ rfl
  simp only [Tryz.ntmps18, List.size_toArray, List.length_cons, List.length_nil, Nat.reduceAdd, Nat.reduceSub, Array.replicate_succ, Array.replicate_zero, List.push_toArray, List.append_toArray, List.nil_append, List.cons_append]
  gi_wp2_with (refine ⟨trivial, ?_⟩; gi_at_call 32; refine (nodes_in Fence.wide _ trivial rfl d A m c _).mono ?_; rintro e w' ⟨rfl, rfl⟩)
  obtain ⟨W0, hW0⟩ : ∃ W0, ((((w.alloc (.cells #[.int .i64 d.op, .int .i64 d.k, .int .i64 d.n, .string d.s, .string d.nm, .slice A m c] 26)).alloc (.cells #[.int .i64 0] 27)).alloc (.cells #[.int .i64 0] 3)).alloc (.cells #[.int .i64 d.op, .int .i64 d.k, .int .i64 d.n, .string d.s, .string d.nm, .slice A m c] 26)) = W0 := ⟨_, rfl⟩
  rw [hW0]
  have hsz : W0.heap.size = w.heap.size + 4 := by rw [← hW0]; simp
  have hB0 : Below w.heap.size w W0 := by rw [← hW0]; exact b_more (b_more (b_more (b_new _ _) _) _) _
  have hb0 : Box W0 w.heap.size d A m c := by rw [← hW0]; exact (((Box.new w d A m c).below (b_new _ _)).below (b_new _ _)).below (b_new _ _)
  have hb1 : Boxed W0 (w.heap.size + 1) 27 (.int .i64 0) := by
    rw [← hW0]; have := Boxed.new (w.alloc (.cells #[.int .i64 d.op, .int .i64 d.k, .int .i64 d.n, .string d.s, .string d.nm, .slice A m c] 26)) 27 (.int .i64 0)
    rw [World.size_alloc] at this; exact (this.alloc _).alloc _
  have hb2 : Boxed W0 (w.heap.size + 1 + 1) 3 (.int .i64 0) := by
    rw [← hW0]; have := Boxed.new ((w.alloc (.cells #[.int .i64 d.op, .int .i64 d.k, .int .i64 d.n, .string d.s, .string d.nm, .slice A m c] 26)).alloc (.cells #[.int .i64 0] 27)) 3 (.int .i64 0)
    rw [World.size_alloc, World.size_alloc] at this; exact this.alloc _
  have hb3 : Box W0 (w.heap.size + 1 + 1 + 1) d A m c := by
    rw [← hW0]; have := Box.new (((w.alloc (.cells #[.int .i64 d.op, .int .i64 d.k, .int .i64 d.n, .string d.s, .string d.nm, .slice A m c] 26)).alloc (.cells #[.int .i64 0] 27)).alloc (.cells #[.int .i64 0] 3)) d A m c
    simp only [World.size_alloc] at this; exact this
  clear hW0
  have hsz1 : w.heap.size + 4 ≤ W0.heap.size := by omega
  have hsz2 : W0.heap.size ≤ w.heap.size + 4 := by omega
  clear hsz
  refine wpIn_rangeFunc_ownF rfl (by decide) (gf := 54) (lb := #[.pointer (some ⟨w.heap.size + 1 + 1 + 1, 0, none⟩)]) rfl trivial (enters_of Tryz.func54 (by kernel_rfl) rfl)
    (nodes_stops Fence.wide rfl trivial trivial rfl _ (w.heap.size + 1 + 1 + 1) w W0 x d A m c HIs.out hB0 hb3) Kp.trans (fun W l o o' hl ho hc _ => kp_putObj W l o o' (by omega) ho hc) (Below.refl _ _) (fun _ => rfl)
    (I1 w d A m c)
    (fun cd pre W => ((cd = .ret ∧ 60 < pre.length) ∧ Boxed W (w.heap.size + 1) 27 (.int .i64 1)) ∧ Below w.heap.size w W)
    (OwnFrom.and (OwnFrom.and (OwnFrom.and (OwnFrom.and (ownFrom_pure _ _) (Own.from (boxed_own _ _ _) _)) (Own.from (boxed_own _ _ (fun _ => _)) _)) (box_own _ _ _ _ _ _)) (ownFrom_below (Nat.le_refl _) (by omega)))
    (fun cd => OwnFrom.and (OwnFrom.and (ownFrom_pure _ _) (Own.from (boxed_own _ _ (fun _ => _)) _)) (ownFrom_below (Nat.le_refl _) (by omega)))
    ⟨⟨⟨⟨by simp, hb2⟩, hb1⟩, hb0⟩, hB0⟩
    (fun y => { tmps := #[.agg #[.int .i64 d.op, .int .i64 d.k, .int .i64 d.n, .string d.s, .string d.nm, .slice A m c], .pointer (some ⟨w.heap.size, 0, none⟩), .pointer (some ⟨w.heap.size + 1, 0, none⟩), .pointer (some ⟨w.heap.size + 1 + 1, 0, none⟩), undef, undef, undef, undef, .agg #[.int .i64 d.op, .int .i64 d.k, .int .i64 d.n, .string d.s, .string d.nm, .slice A m c], .func (.func 54) #[] #[.pointer (some ⟨w.heap.size + 1 + 1 + 1, 0, none⟩)], .agg #[.int .i64 y.d.op, .int .i64 y.d.k, .int .i64 y.d.n, .string y.d.s, .string y.d.nm, .slice y.A y.m y.c], undef, undef, undef, undef, undef, undef, undef, undef, undef, undef, undef, undef, undef, undef, undef, undef, undef, undef, undef], defers := [] }) ?assign ?body ?done ?stop
  case assign =>
    intro l y W K hK
    gi_wp2
    simpa [encs] using hK
  case body =>
    rintro l pre y W ⟨⟨⟨⟨hp, h2⟩, h1⟩, h0⟩, hB⟩ _
    have c2 := h2.cell
    have f2 := h2.frozen
    have c1 := h1.cell
    have f1 := h1.frozen
    by_cases hc : pre.length + 1 ≤ 60
    · have t1 : ¬ (60 : Int) < (pre.length : Int) + 1 := by omega
      gi_wp2
      exact ⟨KeepsOthers.setCell _ _ _, Kp.setCell W (p := ⟨w.heap.size + 1 + 1, 0, none⟩) (by show w.heap.size ≤ w.heap.size + 1 + 1; omega) (by show w.heap.size + 1 + 1 < W0.heap.size; omega) _,
        ⟨⟨⟨⟨by simp; omega, by have := h2.set (.int .i64 ((pre.length : Int) + 1)); simpa using this⟩, h1.other (by omega) _⟩, h0.far (by show w.heap.size ≠ w.heap.size + 1 + 1; omega) _⟩, hB.setCell (p := ⟨w.heap.size + 1 + 1, 0, none⟩) (by show w.heap.size ≤ w.heap.size + 1 + 1; omega) _⟩⟩
    · have t1 : (60 : Int) < (pre.length : Int) + 1 := by omega
      gi_wp2
      exact ⟨(KeepsOthers.setCell _ _ _).trans (KeepsOthers.setCell _ _ _), ⟨⟨rfl, by simp; omega⟩, (h1.other (by omega) _).set _⟩, (hB.setCell (p := ⟨w.heap.size + 1 + 1, 0, none⟩) (by show w.heap.size ≤ w.heap.size + 1 + 1; omega) _).setCell (p := ⟨w.heap.size + 1, 0, none⟩) (by show w.heap.size ≤ w.heap.size + 1; omega) _⟩
  case done =>
    rintro D ys W hD hys ⟨⟨⟨⟨hp, h2⟩, h1⟩, h0⟩, hB⟩ hK
    obtain ⟨c0, c1, c2, c3, c4, c5⟩ := h0.cells
    have hn : x.nodes ≤ 60 := by rw [← pre_len, ← hys, List.length_map]; exact hp
    have his2 := HIs.out.below hB
    have hsc := size_any x d A m c W (by omega) his2
    obtain ⟨N, hN⟩ : ∃ N, x.nodes = N := ⟨_, rfl⟩
    obtain ⟨D', hD'⟩ : ∃ D', x.depth = D' := ⟨_, rfl⟩
    have hdn := depth_le_nodes x
    rw [hN, hD'] at hsc hdn
    rw [hN] at hn
    have HS := Lib.hid hsc
    have HN := Lib.hid hN
    have HD := Lib.hid hD'
    have HY := Lib.hid hys
    clear hsc hN hD' hys his2
    gi_wp2_with fail
    refine ⟨trivial, ?_⟩
    refine ((callsIn_wide (n := 4)).2 HS.out).mono ?_
    rintro e W2 ⟨rfl, hb2⟩
    have g0 := h0.below hb2
    have g1 : Boxed W2 (w.heap.size + 1) 27 (.int .i64 0) := (hb2.block _ h1.lt).trans h1
    have hK2 : W2.heap[D]? = some (.deferred (some [])) := (hb2.block _ (Array.getElem?_eq_some_iff.1 hK).1).trans hK
    have hB2 : Below w.heap.size w W2 := hB.trans (hb2.mono hB.size)
    obtain ⟨c0, c1, c2, c3, c4, c5⟩ := g0.cells
    have r1 := g1.cell
    have r2 := g1.frozen
    have HK2 := Lib.hid hK2
    have HB2 := Lib.hid hB2
    have hB2s := hB2.size
    clear hK hB h0 h1 h2 hb2 hK2 hB2 HS
    by_cases hdp : 12 < D'
    · have t1 : (12 : Int) < (D' : Int) := by omega
      obtain rfl : R = 4 := by rw [← HR.out]; unfold Ex.checkE; rw [HN.out, HD.out, if_neg (by omega), if_pos hdp]
      gi_wp2_with fail
      have hK3 := (KeepsOthers.setCell W2 ⟨w.heap.size + 1, 0, none⟩ (.int .i64 4)).same D _ HK2.out rfl
      refine ⟨by simp, .inl ⟨_, _, rfl, run_takeDeferred hK3, ?_⟩⟩
      have hc5 := cell_kept (g1.set (.int .i64 4)).cell (grownBy_putObj' _ D (.deferred none)) (fun r e => by cases e; exact ⟨_, hK3, rfl⟩)
      refine ⟨.int .i64 4, ?_, rfl, (HB2.out.setCell (p := ⟨w.heap.size + 1, 0, none⟩) (by show w.heap.size ≤ w.heap.size + 1; omega) _).trans (belowK_b (w := w) (Nat.le_refl _) _ D _ _ (by omega) hK3 rfl rfl)⟩
      simp [results, Tryz.f18, go_sem, hc5]
    · have t1 : ¬ (12 : Int) < (D' : Int) := by omega
      gi_wp2_with (refine ⟨trivial, ?_⟩; gi_at_call 32; refine (nodes_in Fence.wide _ trivial rfl d A m c _).mono ?_; rintro e w' ⟨rfl, rfl⟩)
      have hR2 : R = firstE x.pre := by rw [← HR.out]; unfold Ex.checkE; rw [HN.out, HD.out, if_neg (by omega), if_neg hdp]
      have HR2 := Lib.hid hR2
      clear hR2
      obtain ⟨W3, hW3⟩ : ∃ W3, W2.alloc (.cells #[.int .i64 d.op, .int .i64 d.k, .int .i64 d.n, .string d.s, .string d.nm, .slice A m c] 26) = W3 := ⟨_, rfl⟩
      rw [hW3]
      have hb3 : Below W2.heap.size W2 W3 := by rw [← hW3]; exact b_new _ _
      have hs3 : W2.heap.size < W3.heap.size := by rw [← hW3]; simp
      have k1 : Box W3 W2.heap.size d A m c := by rw [← hW3]; exact Box.new W2 d A m c
      clear hW3
      have k2 : Boxed W3 (w.heap.size + 1) 27 (.int .i64 0) := (hb3.block _ g1.lt).trans g1
      have hDl := (Array.getElem?_eq_some_iff.1 HK2.out).1
      have k3 : W3.heap[D]? = some (.deferred (some [])) := (hb3.block _ hDl).trans HK2.out
      have k4 : Below w.heap.size w W3 := HB2.out.trans (hb3.mono (by omega))
      clear hb3 g0 g1 r1 r2 c0 c1 c2 c3 c4 c5 hb0 hb1
      refine wpIn_rangeFunc_ownH rfl (by decide) (gf := 54) (lb := #[.pointer (some ⟨W2.heap.size, 0, none⟩)]) rfl trivial (enters_of Tryz.func54 (by kernel_rfl) rfl)
        (nodes_stops Fence.wide rfl trivial trivial rfl _ W2.heap.size w W3 x d A m c HIs.out k4 k1) Kp.trans (fun W l o o' hl ho hc _ => kp_putObj W l o o' (by omega) ho hc) (Below.refl _ _) (fun _ => rfl)
        (fun pre V => ((firstE (pre.map Al.nd) = 0 ∧ Boxed V (w.heap.size + 1) 27 (.int .i64 0)) ∧ V.heap[D]? = some (.deferred (some []))) ∧ Below w.heap.size w V)
        (fun cd pre V => (((cd = .ret ∧ firstE (pre.map Al.nd) ≠ 0) ∧ Boxed V (w.heap.size + 1) 27 (.int .i64 (firstE (pre.map Al.nd)))) ∧ V.heap[D]? = some (.deferred (some []))) ∧ Below w.heap.size w V)
        (OwnFrom.and (OwnFrom.and (OwnFrom.and (ownFrom_pure _ _) (Own.from (boxed_own _ _ (fun _ => _)) _)) (def_own D _ (by omega) _)) (ownFrom_below (Nat.le_refl _) (by omega)))
        (fun cd => OwnFrom.and (OwnFrom.and (OwnFrom.and (ownFrom_pure _ _) (Own.from (boxed_own _ _ _) _)) (def_own D _ (by omega) _)) (ownFrom_below (Nat.le_refl _) (by omega)))
        ⟨⟨⟨rfl, k2⟩, k3⟩, k4⟩
        (fun y a' V => ∃ Bx, Box V Bx y.d y.A y.m y.c ∧ w.heap.size + 1 < Bx ∧ a' = { tmps := #[.agg #[.int .i64 d.op, .int .i64 d.k, .int .i64 d.n, .string d.s, .string d.nm, .slice A m c], .pointer (some ⟨w.heap.size, 0, none⟩), .pointer (some ⟨w.heap.size + 1, 0, none⟩), .pointer (some ⟨w.heap.size + 1 + 1, 0, none⟩), .int .i64 (N : Int), .int .i64 (D' : Int), .pointer (some ⟨Bx, 0, none⟩), undef, .agg #[.int .i64 d.op, .int .i64 d.k, .int .i64 d.n, .string d.s, .string d.nm, .slice A m c], .func (.func 54) #[] #[.pointer (some ⟨w.heap.size + 1 + 1 + 1, 0, none⟩)], undef, undef, undef, undef, undef, .tuple #[.int .i64 (N : Int), .int .i64 (D' : Int)], .agg #[.int .i64 d.op, .int .i64 d.k, .int .i64 d.n, .string d.s, .string d.nm, .slice A m c], .tuple #[.int .i64 (N : Int), .int .i64 (D' : Int)], .int .i64 (N : Int), .int .i64 (D' : Int), .int .i64 (D' : Int), .bool (decide (12 < (D' : Int))), .agg #[.int .i64 d.op, .int .i64 d.k, .int .i64 d.n, .string d.s, .string d.nm, .slice A m c], .func (.func 54) #[] #[.pointer (some ⟨W2.heap.size, 0, none⟩)], .agg #[.int .i64 y.d.op, .int .i64 y.d.k, .int .i64 y.d.n, .string y.d.s, .string y.d.nm, .slice y.A y.m y.c], undef, undef, undef, undef, undef], defers := [] })
        (fun y a' s X Y row hs hg hr => by obtain ⟨Bx, h1, h2, h3⟩ := hs; exact ⟨Bx, box_own (β := Unit) Bx _ _ _ _ _ () X Y row h1 hg hr, h2, h3⟩)
        ?assign2 ?body2 ?done2 ?stop2
      case assign2 =>
        rintro l pre y V K ⟨⟨⟨i1, i2⟩, i3⟩, i4⟩ hK
        unfold encs
        gi_wp2
        exact hK _ _ ((KeepsOthers.alloc _ _).from _) (Kp.alloc _ i4.size) ⟨⟨⟨i1, i2.alloc _⟩, ((b_new V _).block D (Array.getElem?_eq_some_iff.1 i3).1).trans i3⟩, i4.alloc i4.size _⟩ ⟨V.heap.size, Box.new V _ _ _ _, i2.lt, rfl⟩
      case body2 =>
        rintro l pre y a' V hl ⟨r, hr⟩ ⟨⟨⟨i1, i2⟩, i3⟩, i4⟩ ⟨Bx, j1, j2, rfl⟩ hlt
        obtain ⟨q, hq⟩ : ∃ q, nodeE y.d y.m = q := ⟨_, rfl⟩
        have hc := node_any y.d.op y.d.k y.d.n y.d.s y.d.nm y.A y.m y.c V y.hm y.hs (HT.out.below i4)
        rw [show (⟨y.d.op, y.d.k, y.d.n, y.d.s, y.d.nm⟩ : Nd) = y.d from rfl, hq] at hc
        have hsn := firstE_snoc (pre.map Al.nd) y.nd i1
        rw [show nodeE y.nd.1 y.nd.2 = q from hq, show [y.nd] = [y].map Al.nd from rfl, ← List.map_append] at hsn
        obtain ⟨c0, c1, c2, c3, c4, c5⟩ := j1.cells
        have HC := Lib.hid hc
        have HSn := Lib.hid hsn
        have HI1 := Lib.hid i1
        clear hc hsn i1 hq
        gi_wp2_with fail
        refine ⟨trivial, ?_⟩
        refine (CallsIn.inRound l ((callsIn_wide (n := _)).2 HC.out)).mono ?_
        rintro e V2 ⟨rfl, hv⟩
        have m2 : Boxed V2 (w.heap.size + 1) 27 (.int .i64 0) := (hv.block _ i2.lt).trans i2
        have m3 : V2.heap[D]? = some (.deferred (some [])) := (hv.block D (Array.getElem?_eq_some_iff.1 i3).1).trans i3
        have m4 : Below w.heap.size w V2 := i4.trans (hv.mono i4.size)
        have kf := keeps_below hv W3.heap.size
        have kp : Kp w.heap.size W3.heap.size V V2 := Kp.of_below hv i4.size
        have r1 := m2.cell
        have r2 := m2.frozen
        clear hv i2 i3 i4 j1 c0 c1 c2 c3 c4 c5
        by_cases hq0 : q = 0
        · subst hq0
          gi_wp2_with fail
          exact ⟨kf, kp, ⟨⟨HSn.out, m2⟩, m3⟩, m4⟩
        · have t3 : (q != 0) = true := bne_iff_ne.2 hq0
          have HQ := Lib.hid hq0
          clear hq0
          gi_wp2_with fail
          refine ⟨kf.trans ((KeepsOthers.setCell _ _ _).from _), ⟨⟨⟨rfl, by rw [HSn.out]; exact HQ.out⟩, by rw [HSn.out]; exact m2.set _⟩, ?_⟩, m4.setCell (p := ⟨w.heap.size + 1, 0, none⟩) (by show w.heap.size ≤ w.heap.size + 1; omega) _⟩
          exact (KeepsOthers.setCell _ _ _).same D _ m3 rfl
      case done2 =>
        rintro D2 zs V hD2 hzs ⟨⟨⟨i1, i2⟩, i3⟩, i4⟩ hKD
        obtain rfl : R = 0 := by rw [HR2.out, ← hzs]; exact i1
        have r1 := i2.cell
        have r2 := i2.frozen
        clear hzs i1
        gi_wp2
        have hK3 := (KeepsOthers.setCell V ⟨w.heap.size + 1, 0, none⟩ (.int .i64 0)).same D2 _ hKD rfl
        have hK4 : (V.setCell ⟨w.heap.size + 1, 0, none⟩ (.int .i64 0)).heap[D]? = _ := (KeepsOthers.setCell V ⟨w.heap.size + 1, 0, none⟩ (.int .i64 0)).same D _ i3 rfl
        have hne : D ≠ D2 := by omega
        have hK5 : ((V.setCell ⟨w.heap.size + 1, 0, none⟩ (.int .i64 0)).putObj D2 (.deferred none)).heap[D]? = some (.deferred (some [])) := by rw [World.putObj_heap_other hne]; exact hK4
        refine ⟨by simp, .inl ⟨_, _, rfl, run_takeDeferred hK3, ⟨by simp, .inl ⟨_, _, rfl, run_takeDeferred hK5, ?_⟩⟩⟩⟩
        have hc5 := cell_kept (i2.set (.int .i64 0)).cell (grownBy_putObj' _ D2 (.deferred none)) (fun r e => by cases e; exact ⟨_, hK3, rfl⟩)
        have hc6 := cell_kept hc5 (grownBy_putObj' _ D (.deferred none)) (fun r e => by cases e; exact ⟨_, hK5, rfl⟩)
        refine ⟨.int .i64 0, ?_, rfl, ((i4.setCell (p := ⟨w.heap.size + 1, 0, none⟩) (by show w.heap.size ≤ w.heap.size + 1; omega) _).trans (belowK_b (w := w) (Nat.le_refl _) _ D2 _ _ (by omega) hK3 rfl rfl)).trans (belowK_b (w := w) (Nat.le_refl _) _ D _ _ (by omega) hK5 rfl rfl)⟩
        simp [results, Tryz.f18, go_sem, hc6]
      case stop2 =>
        rintro D2 cd pre V hD2 hpre ⟨⟨⟨⟨rfl, i1⟩, i2⟩, i3⟩, i4⟩ hKD
        obtain ⟨q, hq⟩ : ∃ q, firstE (pre.map Al.nd) = q := ⟨_, rfl⟩
        obtain rfl : R = q := by rw [HR2.out, ← hq]; exact firstE_prefix hpre i1
        rw [hq] at i2
        clear hq hpre i1
        have r1 := i2.cell
        gi_wp2
        have hne : D ≠ D2 := by omega
        have hK5 : (V.putObj D2 (.deferred none)).heap[D]? = some (.deferred (some [])) := by rw [World.putObj_heap_other hne]; exact i3
        refine ⟨by simp, .inl ⟨_, _, rfl, run_takeDeferred hKD, ⟨by simp, .inl ⟨_, _, rfl, run_takeDeferred hK5, ?_⟩⟩⟩⟩
        have hc5 := cell_kept i2.cell (grownBy_putObj' _ D2 (.deferred none)) (fun r e => by cases e; exact ⟨_, hKD, rfl⟩)
        have hc6 := cell_kept hc5 (grownBy_putObj' _ D (.deferred none)) (fun r e => by cases e; exact ⟨_, hK5, rfl⟩)
        refine ⟨.int .i64 R, ?_, rfl, (i4.trans (belowK_b (w := w) (Nat.le_refl _) _ D2 _ _ (by omega) hKD rfl rfl)).trans (belowK_b (w := w) (Nat.le_refl _) _ D _ _ (by omega) hK5 rfl rfl)⟩
        simp [results, Tryz.f18, go_sem, hc6]
  case stop =>
    rintro D cd pre W hD hpre ⟨⟨⟨rfl, hin⟩, h1⟩, hB⟩ hK
    have hn : 60 < x.nodes := by rw [← pre_len]; have := hpre.length_le; rw [List.length_map] at this; omega
    have hc5 := cell_kept h1.cell (grownBy_putObj' _ D (.deferred none)) (fun r e => by cases e; exact ⟨_, hK, rfl⟩)
    obtain rfl : R = 1 := by rw [← HR.out]; unfold Ex.checkE; rw [if_pos hn]
    gi_wp2
    refine ⟨by simp, .inl ⟨_, _, rfl, run_takeDeferred hK, ?_⟩⟩
    refine ⟨.int .i64 1, ?_, rfl, hB.trans (belowK_b (w := w) (Nat.le_refl _) W D _ _ (by omega) hK rfl rfl)⟩
    simp [results, Tryz.f18, go_sem, hc5]
end Go.Proofs.YtehkebncdahmcaaGreatDoor.ExC
