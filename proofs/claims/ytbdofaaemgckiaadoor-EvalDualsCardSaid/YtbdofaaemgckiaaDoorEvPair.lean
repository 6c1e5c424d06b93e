/- The statements' own pair of formulas of one type, and facts. -/
import Derived.Test.YtbdofaaemgckiaaDoorEvTwo
import Derived.Test.YtbdofaaemgckiaaDoorGenTop
namespace Go.Proofs.YtbdofaaemgckiaaDoor.EvJ
open Go.RowKit
open NumM ValM LexM ExM NmM TyM EvM EvP Kit ExL ExP ExV ExN RawL GenL Gen GenE GenT NmG EvC EvO EvF EvG EvK
set_option linter.unusedVariables false

def TwoOut (kind : Int) (w : World) (e : Ending) (w' : World) : Prop :=
  ∃ (x : Ex) (dx : Nd) (Bx : Option Addr) (mx cx : Nat) (y : Ex) (dy : Nd) (By : Option Addr) (my cy : Nat) (vs : List Fc) (g cap : Nat) (rest : List Value),
    e = .returned (.tuple #[.agg #[.int .i64 dx.op, .int .i64 dx.k, .int .i64 dx.n, .string dx.s, .string dx.nm, .slice Bx mx cx], .agg #[.int .i64 dy.op, .int .i64 dy.k, .int .i64 dy.n, .string dy.s, .string dy.nm, .slice By my cy], .slice (some ⟨g, 0, none⟩) 5 cap]) ∧
    Gn someF 2 kind x ∧ Is w' x dx Bx mx ∧ Gn someF 2 kind y ∧ Is w' y dy By my ∧ Fits5 vs ∧ RowF w' g vs rest ∧ Below w.heap.size w w'
theorem b_gr {G : Nat} {w w1 w2 : World} (h : Below w.heap.size w w1) (g : Gr G w1 w2) (hG : w.heap.size ≤ G) : Below w.heap.size w w2 :=
  ⟨g.os.trans h.os, g.tape.trans h.tape, g.output.trans h.output, Nat.le_trans h.size g.size, fun b hb => (g.block b (Nat.lt_of_lt_of_le hb h.size) (fun e => by injection e; omega)).trans (h.block b hb)⟩

set_option maxRecDepth 100000 in
set_option maxHeartbeats 4000000 in
theorem two_any (kind : Int) (n0 c0 n1 c1 n2 c2 : Nat) (A0 A1 A2 : Option Addr) (w : World) (hr0 : Raws w A0 n0 c0) (hr1 : Raws w A1 n1 c1) (hr2 : Raws w A2 n2 c2) :
    Calls Tryd.prog 22 #[.slice A0 n0 c0, .slice A1 n1 c1, .slice A2 n2 c2, .int .i64 kind] w (TwoOut kind w) := by
  have hE := expr_all 2 (by decide)
  obtain ⟨Z, hZ⟩ : ∃ Z : Obj, Z = .cells #[.int .i64 0, .int .i64 0, .int .i64 0, .string ⟨#[]⟩, .string ⟨#[]⟩, .slice none 0 0] 26 := ⟨_, rfl⟩
  have hb0 : Below w.heap.size w ((((w.alloc Z).alloc Z).alloc (.cells #[.slice A0 n0 c0, .int .i64 0] 66)).alloc (.cells #[.slice A1 n1 c1, .int .i64 0] 66)) := b_more (b_more (b_more (b_new _ _) _) _) _
  have k8 : ((((w.alloc Z).alloc Z).alloc (.cells #[.slice A0 n0 c0, .int .i64 0] 66)).alloc (.cells #[.slice A1 n1 c1, .int .i64 0] 66)).heap[w.heap.size]? = some Z :=
    (b_more (b_more (b_new (w.alloc Z) Z) _) _).block _ (by simp) |>.trans (World.alloc_heap_new w Z)
  have k9 : ((((w.alloc Z).alloc Z).alloc (.cells #[.slice A0 n0 c0, .int .i64 0] 66)).alloc (.cells #[.slice A1 n1 c1, .int .i64 0] 66)).heap[w.heap.size + 1]? = some Z := by
    have h := World.alloc_heap_new (w.alloc Z) Z
    rw [World.size_alloc] at h
    exact ((b_more (b_new ((w.alloc Z).alloc Z) _) _).block _ (by simp)).trans h
  have kg1 : Gen ((((w.alloc Z).alloc Z).alloc (.cells #[.slice A0 n0 c0, .int .i64 0] 66)).alloc (.cells #[.slice A1 n1 c1, .int .i64 0] 66)) (w.heap.size + 1 + 1) A0 n0 c0 0 := by
    have h := World.alloc_heap_new ((w.alloc Z).alloc Z) (.cells #[.slice A0 n0 c0, .int .i64 0] 66)
    rw [World.size_alloc, World.size_alloc] at h
    exact ((b_new (((w.alloc Z).alloc Z).alloc _) _).block _ (by simp)).trans h
  have kg2 : Gen ((((w.alloc Z).alloc Z).alloc (.cells #[.slice A0 n0 c0, .int .i64 0] 66)).alloc (.cells #[.slice A1 n1 c1, .int .i64 0] 66)) (w.heap.size + 1 + 1 + 1) A1 n1 c1 0 := by
    have h := World.alloc_heap_new (((w.alloc Z).alloc Z).alloc (.cells #[.slice A0 n0 c0, .int .i64 0] 66)) (.cells #[.slice A1 n1 c1, .int .i64 0] 66)
    rw [World.size_alloc, World.size_alloc, World.size_alloc] at h
    exact h
  have ksz : ((((w.alloc Z).alloc Z).alloc (.cells #[.slice A0 n0 c0, .int .i64 0] 66)).alloc (.cells #[.slice A1 n1 c1, .int .i64 0] 66)).heap.size = w.heap.size + 4 := by simp
  obtain ⟨W, hW⟩ : ∃ W, (((w.alloc Z).alloc Z).alloc (.cells #[.slice A0 n0 c0, .int .i64 0] 66)).alloc (.cells #[.slice A1 n1 c1, .int .i64 0] 66) = W := ⟨_, rfl⟩
  rw [hW] at hb0 k8 k9 kg1 kg2 ksz
  rw [hZ] at hW k8 k9
  have q0 : Raws W A0 n0 c0 := hr0.keep fun p v0 v1 v2 h0 h2 => hb0.block _ (cell_lt' h0)
  have q1 : Raws W A1 n1 c1 := hr1.keep fun p v0 v1 v2 h0 h2 => hb0.block _ (cell_lt' h0)
  have q2 : Raws W A2 n2 c2 := hr2.keep fun p v0 v1 v2 h0 h2 => hb0.block _ (cell_lt' h0)
  have HW := Lib.hid hW
  have HE := Lib.hid hE
  have HB := Lib.hid hb0
  have K8 := Lib.hid k8
  have K9 := Lib.hid k9
  have KG1 := Lib.hid kg1
  have KG2 := Lib.hid kg2
  have Q0 := Lib.hid q0
  have Q1 := Lib.hid q1
  have Q2 := Lib.hid q2
  have KS := Lib.hid ksz
  clear hr0 hr1 hr2 hE hb0 k8 k9 kg1 kg2 ksz hW q0 q1 q2 hZ
  clear Z
  go_enter Tryd.func22, Tryd.ntmps22
  go_wp2_with fail
  rw [HW.out]
  refine (someX_any _).mono ?_; rintro e w1 ⟨⟨rfl, hfl⟩, hb1⟩
  have g1 := KG1.out.below hb1
  have r1 := Gr.raws (Gr.of_below (G := w.heap.size + 1 + 1) hb1) KG1.out Q0.out
  have c := HE.out (w.heap.size + 1 + 1) n0 c0 0 5 A0 _ someF kind w1 g1 r1 hfl (by decide) someF_sz (by decide)
  have H1 := Lib.hid hb1
  have HC := Lib.hid c
  clear c r1 hfl hb1 g1
  go_wp2_with fail
  refine HC.out.mono ?_; rintro e w2 ⟨x, dx, Bx, mx, cx, ax, rfl, hgx, hisx, hax, hg2, hgr2⟩
  have HX := Lib.hid (And.intro hgx (And.intro hisx hgr2))
  clear hgx hisx hax hg2 hgr2 HC
  go_wp2_with fail
  refine (someX_any _).mono ?_; rintro e w3 ⟨⟨rfl, hfl⟩, hb3⟩
  have e1 := KG2.out.below H1.out
  have e2 : Gen w2 (w.heap.size + 1 + 1 + 1) A1 n1 c1 0 := (HX.out.2.2.block _ e1.lt (fun e => by injection e; omega)).trans e1
  have e3 := e2.below hb3
  have r1 := Gr.raws (Gr.of_below (G := w.heap.size + 1 + 1 + 1) hb3) e2 (Gr.raws HX.out.2.2 (KG1.out.below H1.out) (Gr.raws (Gr.of_below (G := w.heap.size + 1 + 1) H1.out) KG1.out Q1.out))
  have c := HE.out (w.heap.size + 1 + 1 + 1) n1 c1 0 5 A1 _ someF kind w3 e3 r1 hfl (by decide) someF_sz (by decide)
  have HC := Lib.hid c
  have H3 := Lib.hid hb3
  have E3 := Lib.hid e3
  clear c r1 hfl hb3 e1 e2 e3
  go_wp2_with fail
  refine HC.out.mono ?_; rintro e w4 ⟨y, dy, By, my, cy, ay, rfl, hgy, hisy, hay, hg4, hgr4⟩
  have HY := Lib.hid (And.intro hgy (And.intro hisy hgr4))
  have r2 := Gr.raws hgr4 E3.out (Gr.raws (Gr.of_below (G := w.heap.size + 1 + 1 + 1) H3.out) ((HX.out.2.2.block _ (KG2.out.below H1.out).lt (fun e => by injection e; omega)).trans (KG2.out.below H1.out)) (Gr.raws HX.out.2.2 (KG1.out.below H1.out) (Gr.raws (Gr.of_below (G := w.heap.size + 1 + 1) H1.out) KG1.out Q2.out)))
  have HC := Lib.hid (facts_any n2 c2 A2 w4 r2)
  clear r2 hgy hisy hay hg4 hgr4
  go_wp2_with fail
  refine HC.out.mono ?_; rintro e w5 ⟨vs, g, cap, rfl, hl1, ok1, hg, ⟨rest, hrow⟩, hb5⟩
  -- the blocks, from world to world
  have s1 := H1.out.size
  have s2 := HX.out.2.2.size
  have s3 := H3.out.size
  have s4 := HY.out.2.2.size
  have s5 := hb5.size
  have s0 := KS.out
  have f2 : ∀ b, b < w1.heap.size → b ≠ w.heap.size + 1 + 1 → w2.heap[b]? = w1.heap[b]? := fun b hb hne => HX.out.2.2.block b hb (fun e => hne (by injection e))
  have f4 : ∀ b, b < w3.heap.size → b ≠ w.heap.size + 1 + 1 + 1 → w4.heap[b]? = w3.heap[b]? := fun b hb hne => HY.out.2.2.block b hb (fun e => hne (by injection e))
  have t8 : w5.heap[w.heap.size]? = some (.cells #[.int .i64 0, .int .i64 0, .int .i64 0, .string ⟨#[]⟩, .string ⟨#[]⟩, .slice none 0 0] 26 (0, 0)) :=
    (hb5.block _ (by omega)).trans ((f4 _ (by omega) (by omega)).trans ((H3.out.block _ (by omega)).trans ((f2 _ (by omega) (by omega)).trans ((H1.out.block _ (by omega)).trans K8.out))))
  have t9 : w5.heap[w.heap.size + 1]? = some (.cells #[.int .i64 0, .int .i64 0, .int .i64 0, .string ⟨#[]⟩, .string ⟨#[]⟩, .slice none 0 0] 26 (0, 0)) :=
    (hb5.block _ (by omega)).trans ((f4 _ (by omega) (by omega)).trans ((H3.out.block _ (by omega)).trans ((f2 _ (by omega) (by omega)).trans ((H1.out.block _ (by omega)).trans K9.out))))
  have hc8 : ∀ o, w5.cell? ⟨w.heap.size, o, none⟩ = (#[.int .i64 0, .int .i64 0, .int .i64 0, .string ⟨#[]⟩, .string ⟨#[]⟩, .slice none 0 0] : Array Value)[o]? := fun o => by simp [World.cell?, t8]
  have hc9 : ∀ o, w5.cell? ⟨w.heap.size + 1, o, none⟩ = (#[.int .i64 0, .int .i64 0, .int .i64 0, .string ⟨#[]⟩, .string ⟨#[]⟩, .slice none 0 0] : Array Value)[o]? := fun o => by simp [World.cell?, t9]
  have hf8 : ∀ o, w5.frozen? ⟨w.heap.size, o, none⟩ = false := fun o => by simp [World.frozen?, t8]
  have hf9 : ∀ o, w5.frozen? ⟨w.heap.size + 1, o, none⟩ = false := fun o => by simp [World.frozen?, t9]
  have hbw : Below w.heap.size w w5 := b_trans (b_gr (b_trans (b_gr (b_trans HB.out H1.out) HX.out.2.2 (by omega)) H3.out) HY.out.2.2 (by omega)) hb5
  have hx5 : ∀ b, w1.heap.size ≤ b → b < w2.heap.size → w5.heap[b]? = w2.heap[b]? := fun b h1 h2 => (hb5.block _ (by omega)).trans ((f4 _ (by omega) (by omega)).trans (H3.out.block _ h2))
  have hy5 : ∀ b, w3.heap.size ≤ b → b < w4.heap.size → w5.heap[b]? = w4.heap[b]? := fun b h1 h2 => hb5.block _ h2
  have HFin := Lib.hid (And.intro hbw (And.intro hx5 (And.intro hy5 (And.intro (show RowF w5 g vs rest from hrow) (show Fits5 vs from ⟨hl1, ok1⟩)))))
  have hgs : w4.heap.size ≤ g := hg
  clear hbw hx5 hy5 hrow ok1 t8 t9 f2 f4 hb5 HC
  go_wp2_with fail
  refine bodyPost_ret (v := .tuple #[.agg #[.int .i64 dx.op, .int .i64 dx.k, .int .i64 dx.n, .string dx.s, .string dx.nm, .slice Bx mx cx], .agg #[.int .i64 dy.op, .int .i64 dy.k, .int .i64 dy.n, .string dy.s, .string dy.nm, .slice By my cy], .slice (some ⟨g, 0, none⟩) 5 cap]) (by simp [results, Tryd.results22, go_sem, hc8, hc9]) rfl ?_
  have far : ∀ b, w.heap.size + 4 ≤ b → ∀ u0 u1 u2 u3 u4 u5 v0 v1 v2 v3 v4 v5 : Value, ((((((((((((w5.setCell ⟨w.heap.size, 0, none⟩ u0).setCell ⟨w.heap.size, 1, none⟩ u1).setCell ⟨w.heap.size, 2, none⟩ u2).setCell ⟨w.heap.size, 3, none⟩ u3).setCell ⟨w.heap.size, 4, none⟩ u4).setCell ⟨w.heap.size, 5, none⟩ u5).setCell ⟨w.heap.size + 1, 0, none⟩ v0).setCell ⟨w.heap.size + 1, 1, none⟩ v1).setCell ⟨w.heap.size + 1, 2, none⟩ v2).setCell ⟨w.heap.size + 1, 3, none⟩ v3).setCell ⟨w.heap.size + 1, 4, none⟩ v4).setCell ⟨w.heap.size + 1, 5, none⟩ v5).heap[b]? = w5.heap[b]? := fun b hb u0 u1 u2 u3 u4 u5 v0 v1 v2 v3 v4 v5 =>
    (set6_heap (by omega) v0 v1 v2 v3 v4 v5).trans (set6_heap (by omega) u0 u1 u2 u3 u4 u5)
  refine ⟨x, dx, Bx, mx, cx, y, dy, By, my, cy, vs, g, cap, rest, rfl, HX.out.1, ?_, HY.out.1, ?_, HFin.out.2.2.2.2, ?_, ?_⟩
  · exact (IsP.keep (Q := fun _ => True) (fun b hb hl => (far b (by have : w1.heap.size ≤ b := hb; omega) _ _ _ _ _ _ _ _ _ _ _ _).trans (HFin.out.2.1 b hb hl)) (fun _ _ _ => trivial) _ _ _ _ HX.out.2.1).is
  · exact (IsP.keep (Q := fun _ => True) (fun b hb hl => (far b (by have : w3.heap.size ≤ b := hb; omega) _ _ _ _ _ _ _ _ _ _ _ _).trans (HFin.out.2.2.1 b hb hl)) (fun _ _ _ => trivial) _ _ _ _ HY.out.2.1).is
  · exact (far g (by omega) _ _ _ _ _ _ _ _ _ _ _ _).trans HFin.out.2.2.2.1
  · have := HFin.out.1
    repeat' (first | (with_reducible exact this) | (with_reducible refine Below.setCell ?_ ?_ _) | (dsimp only; omega))
end Go.Proofs.YtbdofaaemgckiaaDoor.EvJ
