/- The statements' comparison of pages, where they are the same. -/
import Derived.Test.YtdlfhldboagbeaaGreatDoorPg
import Derived.Test.YtdlfhldboagbeaaGreatDoorEx
namespace Go.Proofs.YtdlfhldboagbeaaGreatDoor.PgS
open Go.RowKit
open ValM LexM NumM ExM Kit ExL ExS RawV Within RawL GenL FrmM PgM NmA
set_option linter.unusedVariables false

/-- Two pages that are the same. -/
structure TwinP (w : World) (f g : PE) : Prop where
  nm : f.nm = g.nm
  fs : f.fs = g.fs
  x : f.x = g.x
  rf : SRow w f.F f.fs
  rg : SRow w g.F g.fs
  len : f.fs.length ≤ 1048576
  sf : Is w f.x f.x.d f.B f.m
  sg : Is w g.x g.x.d g.B g.m
theorem srow_below {w w' : World} {A : Option Addr} {L : List ByteArray} (h : SRow w A L) (hb : Below w.heap.size w w') : SRow w' A L := fun j hj => by
  obtain ⟨g, e, hc⟩ := h j hj
  exact ⟨g, e, (hb.cell (p := ⟨g, j, none⟩) (cell_lt' hc)).trans hc⟩
theorem b_drewN (w : World) : ∀ m, Below w.heap.size w (w.drewN m) := fun m => ⟨rfl, rfl, rfl, Nat.le_refl _, fun _ _ => rfl⟩
theorem TwinP.below {w w' : World} {f g : PE} (h : TwinP w f g) (hb : Below w.heap.size w w') : TwinP w' f g := ⟨h.nm, h.fs, h.x, (srow_below h.rf hb), (srow_below h.rg hb), h.len, h.sf.below hb, h.sg.below hb⟩
set_option maxRecDepth 100000 in
set_option maxHeartbeats 4000000 in
theorem same1_any (f g : PE) (w : World) (h : TwinP w f g) :
    Calls Tryz.prog 68 #[.agg #[.string f.nm, .slice f.F f.fs.length f.fc, .int .i64 f.x.d.op, .int .i64 f.x.d.k, .int .i64 f.x.d.n, .string f.x.d.s, .string f.x.d.nm, .slice f.B f.m f.c], .agg #[.string g.nm, .slice g.F g.fs.length g.fc, .int .i64 g.x.d.op, .int .i64 g.x.d.k, .int .i64 g.x.d.n, .string g.x.d.s, .string g.x.d.nm, .slice g.B g.m g.c]] w fun e w' => e = .returned (.bool true) ∧ Below w.heap.size w w' := by
  obtain ⟨fn, fL, fF, fq, fx, fB, fm, fc⟩ := f
  obtain ⟨gn, gL, gF, gq, gx, gB, gm, gc⟩ := g
  obtain ⟨h1, h2, h3, h4, h5, h6, h7, h8⟩ := h
  simp only at h1 h2 h3 h4 h5 h6 h7 h8
  subst h1 h2 h3
  have hc := fun V (hb : Below w.heap.size w V) => lawSame_any fx fx.d fB gB fm gm fc gc V (h7.below hb) (h8.below hb)
  have he : ∀ V, Below w.heap.size w V → Calls Tryz.prog 19 #[.slice fF fL.length fq, .slice gF fL.length gq] V fun e w' => e = .returned (.bool true) ∧ Below V.heap.size V w' := fun V hb => (NmT.equal_any V fL fF gF fq gq h6 ((srow_below h4 hb)) ((srow_below h5 hb))).mono fun e w' h => by
    obtain ⟨h1, m, rfl⟩ := h
    exact ⟨h1, b_drewN V m⟩
  have HC := Lib.hid hc
  have HE := Lib.hid he
  have t0 : (fn.toList == fn.toList) = true := by simp
  dsimp only
  clear hc he h4 h5 h7 h8 h6
  go_enter Tryz.func68, Tryz.ntmps68
  go_wp2_with fail
  refine (HE.out _ (b_more (b_new w _) _)).mono ?_; rintro e w1 ⟨rfl, hb1⟩
  have hb1' : Below w.heap.size w w1 := b_then (b_then hb1)
  have HB1' := Lib.hid hb1'
  obtain ⟨_, _, k2, k3, k4, k5, k6, k7⟩ := pg_cells w ⟨fn, fL, fF, fq, fx, fB, fm, fc⟩ w1 (b_then hb1)
  obtain ⟨_, _, j2, j3, j4, j5, j6, j7⟩ := pg_cells (w.alloc (pgBox ⟨fn, fL, fF, fq, fx, fB, fm, fc⟩)) ⟨fn, fL, gF, gq, fx, gB, gm, gc⟩ w1 hb1
  simp only [World.size_alloc] at k2 k3 k4 k5 k6 k7 j2 j3 j4 j5 j6 j7
  clear hb1 hb1'
  go_wp2_with fail
  refine (HC.out _ HB1'.out).mono ?_; rintro e w2 ⟨rfl, hb2⟩
  have HB2 := Lib.hid hb2
  clear hb2
  go_wp2_with fail
  go_ret
  exact ⟨rfl, b_trans HB1'.out HB2.out⟩
set_option maxRecDepth 100000 in
set_option maxHeartbeats 4000000 in
theorem eqPages_any (F G : List PE) (A A' : Option Addr) (c c' : Nat) (w : World) (hl : F.length = G.length) (hn : F.length ≤ maxLen) (h1 : Pgs w A F) (h2 : Pgs w A' G) (ht : ∀ (k : Nat) (h : k < F.length) (h2 : k < G.length), TwinP w F[k] G[k]) :
    Calls Tryz.prog 32 #[.slice A F.length c, .slice A' F.length c'] w fun e w' => e = .returned (.bool true) ∧ Below w.heap.size w w' := by
  have hmain : Calls Tryz.prog 67 #[.slice A F.length c, .slice A' F.length c', .func (.func 68) #[] #[]] w fun e w' => e = .returned (.bool true) ∧ Below w.heap.size w w' := by
    have HT := Lib.hid ht
    have H1 := Lib.hid h1
    have H2 := Lib.hid h2
    have HL := Lib.hid hl
    clear ht h1 h2 hl
    unfold maxLen at hn
    go_enter Tryz.func67, Tryz.ntmps67
    go_wp2_with fail
    go_loopw [7, 8, 9, 17] (fun _ _ _ i wr => ∃ k : Nat, k ≤ F.length ∧ i = .int .i64 k ∧ Below w.heap.size w wr) (fun _ _ _ i _ => F.length - (intOf i).toNat)
    case atStart => exact ⟨0, by omega, rfl, Below.refl _ _⟩
    case round =>
      obtain ⟨k, hk, rfl, hbw⟩ := hrel
      by_cases hlt : k < F.length
      · obtain ⟨a, rfl, hat⟩ := H1.out.below hbw k hlt
        have hlt2 : k < G.length := by have := HL.out; omega
        obtain ⟨a', rfl, hat'⟩ := H2.out.below hbw k hlt2
        have htw := (HT.out k hlt hlt2).below hbw
        obtain ⟨f, hf⟩ : ∃ f, F[k] = f := ⟨_, rfl⟩
        obtain ⟨g, hg⟩ : ∃ g, G[k] = g := ⟨_, rfl⟩
        rw [hf] at hat htw
        rw [hg] at hat' htw
        obtain ⟨q0, q1, q2, q3, q4, q5, q6, q7⟩ := hat
        obtain ⟨p0, p1, p2, p3, p4, p5, p6, p7⟩ := hat'
        have hl0 := cell_lt' q0
        have hl1 := cell_lt' p0
        have hc := fun V (hb : Below wr.heap.size wr V) => same1_any f g V (htw.below hb)
        have HC := Lib.hid hc
        have HBW := Lib.hid hbw
        clear hc hbw htw hf hg hlt2
        go_wp2_with fail
        refine (HC.out _ (b_more (b_new wr _) _)).mono ?_; rintro e w1 ⟨rfl, hb1⟩
        have hb2 : Below w.heap.size w w1 := HBW.out.trans ((b_then (b_then hb1)).mono HBW.out.size)
        have HB2 := Lib.hid hb2
        clear hb1 hb2 q0 q1 q2 q3 q4 q5 q6 q7 p0 p1 p2 p3 p4 p5 p6 p7
        go_wp2_with fail
        go_roundw
        case rel => exact ⟨k + 1, by omega, by go_num, HB2.out⟩
        case measure => simp [intOf]; omega
      · go_wp2_with fail
        go_ret
        exact ⟨rfl, hbw⟩
  have HM := Lib.hid hmain
  clear hmain h1 h2 ht hl hn
  go_enter Tryz.func32, Tryz.ntmps32
  go_wp2_with fail
  refine HM.out.mono ?_; rintro e w1 ⟨rfl, hb1⟩
  have HB1 := Lib.hid hb1
  clear hb1
  go_wp2_with fail
  go_ret
  exact ⟨rfl, HB1.out⟩
end Go.Proofs.YtdlfhldboagbeaaGreatDoor.PgS
