/- The statements' comparison of fields, where they are the same. -/
import Derived.Test.YtdlfhldboagbeaaGreatDoorFld
import Derived.Test.YtdlfhldboagbeaaGreatDoorEx
namespace Go.Proofs.YtdlfhldboagbeaaGreatDoor.FldS
open Go.RowKit
open ValM LexM NumM ExM Kit ExL ExS RawV Within RawL GenL FldP
set_option linter.unusedVariables false

/-- Two fields that are the same, with the tree of their Sources. -/
def Twin (w : World) (f g : GenL.Fd) (x : Ex) : Prop := f.nm = g.nm ∧ f.kind = g.kind ∧ f.ty = g.ty ∧ Is w x f.d f.A f.n ∧ Is w x g.d g.A g.n
theorem Twin.below {w w' : World} {f g : GenL.Fd} {x : Ex} (h : Twin w f g x) (hb : Below w.heap.size w w') : Twin w' f g x := ⟨h.1, h.2.1, h.2.2.1, h.2.2.2.1.below hb, h.2.2.2.2.below hb⟩
set_option maxRecDepth 100000 in
set_option maxHeartbeats 4000000 in
theorem same1_any (f g : GenL.Fd) (x : Ex) (w : World) (h : Twin w f g x) :
    Calls Tryz.prog 65 #[.agg #[.string f.nm, .int .i64 f.kind, .int .i64 f.ty, .int .i64 f.d.op, .int .i64 f.d.k, .int .i64 f.d.n, .string f.d.s, .string f.d.nm, .slice f.A f.n f.c], .agg #[.string g.nm, .int .i64 g.kind, .int .i64 g.ty, .int .i64 g.d.op, .int .i64 g.d.k, .int .i64 g.d.n, .string g.d.s, .string g.d.nm, .slice g.A g.n g.c]] w fun e w' => e = .returned (.bool true) ∧ Below w.heap.size w w' := by
  obtain ⟨fn, fk, ft, fd, fA, fm, fc⟩ := f
  obtain ⟨gn, gk, gt, gd, gA, gm, gc⟩ := g
  obtain ⟨h1, h2, h3, h4, h5⟩ := h
  simp only at h1 h2 h3 h4 h5
  obtain rfl : fd = gd := (is_d h4).trans (is_d h5).symm
  subst h1 h2 h3
  have hc := fun V (hb : Below w.heap.size w V) => lawSame_any x fd fA gA fm gm fc gc V (h4.below hb) (h5.below hb)
  have HC := Lib.hid hc
  have t0 : (fn.toList == fn.toList) = true := by simp
  have t1 : (fk == fk) = true := by simp
  have t2 : (ft == ft) = true := by simp
  clear hc h4 h5
  go_enter Tryz.func65, Tryz.ntmps65
  go_wp2_with fail
  refine (HC.out _ (b_more (b_new w _) _)).mono ?_; rintro e w1 ⟨rfl, hb1⟩
  have HB1 := Lib.hid hb1
  clear hb1
  go_wp2_with fail
  go_ret
  exact ⟨rfl, b_then (b_then HB1.out)⟩
set_option maxRecDepth 100000 in
set_option maxHeartbeats 4000000 in
theorem eqFields_any (F G : List GenL.Fd) (X : Nat → Ex) (A A' : Option Addr) (c c' : Nat) (w : World) (hl : F.length = G.length) (hn : F.length ≤ maxLen) (h1 : Flds w A F) (h2 : Flds w A' G) (ht : ∀ (k : Nat) (h : k < F.length) (h2 : k < G.length), Twin w F[k] G[k] (X k)) :
    Calls Tryz.prog 31 #[.slice A F.length c, .slice A' F.length c'] w fun e w' => e = .returned (.bool true) ∧ Below w.heap.size w w' := by
  have hmain : Calls Tryz.prog 64 #[.slice A F.length c, .slice A' F.length c', .func (.func 65) #[] #[]] w fun e w' => e = .returned (.bool true) ∧ Below w.heap.size w w' := by
    have HT := Lib.hid ht
    have H1 := Lib.hid h1
    have H2 := Lib.hid h2
    have HL := Lib.hid hl
    clear ht h1 h2 hl
    unfold maxLen at hn
    go_enter Tryz.func64, Tryz.ntmps64
    go_wp2_with fail
    go_loopw [7, 8, 9, 17] (fun _ _ _ i wr => ∃ k : Nat, k ≤ F.length ∧ i = .int .i64 k ∧ Below w.heap.size w wr) (fun _ _ _ i _ => F.length - (intOf i).toNat)
    case atStart => exact ⟨0, by omega, rfl, Below.refl _ _⟩
    case round =>
      obtain ⟨k, hk, rfl, hbw⟩ := hrel
      by_cases hlt : k < F.length
      · obtain ⟨a, rfl, hat⟩ := H1.out.below hbw k hlt
        have hlt2 : k < G.length := by have := HL.out; omega
        obtain ⟨a', rfl, hat'⟩ := H2.out.below hbw k hlt2
        have htw := (HT.out k hlt hlt2).below hbw
        obtain ⟨f, hf⟩ : ∃ f, F[k] = f := ⟨_, rfl⟩
        obtain ⟨g, hg⟩ : ∃ g, G[k] = g := ⟨_, rfl⟩
        rw [hf] at hat htw
        rw [hg] at hat' htw
        obtain ⟨q0, q1, q2, q3, q4, q5, q6, q7, q8⟩ := hat
        obtain ⟨p0, p1, p2, p3, p4, p5, p6, p7, p8⟩ := hat'
        have hl0 := cell_lt' q0
        have hl1 := cell_lt' p0
        have hc := fun V (hb : Below wr.heap.size wr V) => same1_any f g (X k) V (htw.below hb)
        have HC := Lib.hid hc
        have HBW := Lib.hid hbw
        clear hc hbw htw hf hg hlt2
        go_wp2_with fail
        refine (HC.out _ (b_more (b_new wr _) _)).mono ?_; rintro e w1 ⟨rfl, hb1⟩
        have hb2 : Below w.heap.size w w1 := HBW.out.trans ((b_then (b_then hb1)).mono HBW.out.size)
        have HB2 := Lib.hid hb2
        clear hb1 hb2 q0 q1 q2 q3 q4 q5 q6 q7 q8 p0 p1 p2 p3 p4 p5 p6 p7 p8
        go_wp2_with fail
        go_roundw
        case rel => exact ⟨k + 1, by omega, by go_num, HB2.out⟩
        case measure => simp [intOf]; omega
      · go_wp2_with fail
        go_ret
        exact ⟨rfl, hbw⟩
  have HM := Lib.hid hmain
  clear hmain h1 h2 ht hl hn
  go_enter Tryz.func31, Tryz.ntmps31
  go_wp2_with fail
  refine HM.out.mono ?_; rintro e w1 ⟨rfl, hb1⟩
  have HB1 := Lib.hid hb1
  clear hb1
  go_wp2_with fail
  go_ret
  exact ⟨rfl, HB1.out⟩
end Go.Proofs.YtdlfhldboagbeaaGreatDoor.FldS
