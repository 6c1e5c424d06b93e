/- The statements' own facts of five fields. -/
import Derived.Test.YtehkebncdahmcaaDoorEvMap
import Derived.Test.YtehkebncdahmcaaDoorNmGen
namespace Go.Proofs.YtehkebncdahmcaaDoor.EvG
open Go.RowKit
open ValM LexM NumM ExM TyM EvM Kit ExL ExP RawV Within RawL GenL Gen GenT NmG EvF Ev
set_option linter.unusedVariables false

def fcC (f : Fc) : List Value := [.string f.nm, .int .i64 f.kk, .int .i64 f.kn, .string f.ks, .int .i64 f.v.k, .int .i64 f.v.n, .string f.v.s]
def fcL : List Fc → List Value
  | [] => []
  | f :: l => fcC f ++ fcL l
theorem fcL_snoc (l : List Fc) (f : Fc) : fcL (l ++ [f]) = fcL l ++ fcC f := by
  induction l with
  | nil => simp [fcL]
  | cons x l ih => rw [List.cons_append, fcL, fcL, ih, List.append_assoc]
theorem fcL_len (l : List Fc) : (fcL l).length = l.length * 7 := by
  induction l with
  | nil => rfl
  | cons x l ih => rw [fcL, List.length_append, ih, List.length_cons]; show 7 + _ = _; omega
theorem fcL_at : ∀ (l : List Fc) (i j : Nat) (h : i < l.length), j < 7 → (fcL l)[i * 7 + j]? = (fcC l[i])[j]?
  | [], i, _, h, _ => absurd h (by simp)
  | x :: l, 0, j, _, hj => by
    rw [fcL, Nat.zero_mul, Nat.zero_add, List.getElem?_append_left (by show j < 7; exact hj)]; rfl
  | x :: l, i + 1, j, h, hj => by
    rw [fcL, List.getElem?_append_right (by show 7 ≤ _; omega)]
    have := fcL_at l i j (by simpa using h) hj
    rw [show (i + 1) * 7 + j - (fcC x).length = i * 7 + j by show _ - 7 = _; omega]
    exact this
/-- A fact of a field. -/
def FOk (f : GenL.Fd) (x : Fc) : Prop := x.nm = f.nm ∧ x.kk = 0 ∧ x.kn = 0 ∧ x.ks = ⟨#[]⟩ ∧ x.v.k = vK f.ty ∧ knownB x.v.k x.v.n x.v.s.data.toList = true
theorem infoFc : (Tryd.prog.info? 41).map (fun i => (i.zero, i.size, i.bytes)) = some (some (.agg #[.string ⟨#[]⟩, .int .i64 0, .int .i64 0, .string ⟨#[]⟩, .int .i64 0, .int .i64 0, .string ⟨#[]⟩]), 7, 80) := by kernel_rfl
theorem val_out (k rk ra rb : Int) (t : ByteArray) (w : World) (h1 : (Lit.int .i64 rk).wf = true) (h2 : (Lit.int .i64 ra).wf = true) (h3 : t.size ≤ maxLen) :
    Calls Tryd.prog 21 #[.int .i64 k, .agg #[.int .i64 rk, .int .i64 ra, .int .i64 rb, .string t]] w fun e w' => ∃ (vk vn : Int) (vs : ByteArray), e = .returned (.agg #[.int .i64 vk, .int .i64 vn, .string vs]) ∧ (vk = vK k ∧ knownB vk vn vs.data.toList = true) ∧ Below w.heap.size w w' :=
  (value_any k rk ra rb t w h1 h2 h3).mono fun _ _ h => ⟨_, _, _, h.1, ⟨rfl, v_known k rk ra t⟩, h.2⟩
structure FInv (w1 W : World) (G : Nat) (A : Option Addr) (n c k : Nat) (vs : List Fc) (v : Value) (wr : World) : Prop where
  le : k ≤ 5
  len : vs.length = k
  own : wr.ownsRow W.heap.size 41 7 v vs.length (fcL vs)
  ok : ∀ (i : Nat) (h1 : i < vs.length) (h2 : i < someF.length), FOk someF[i] vs[i]
  gen : ∃ a', a' ≤ k ∧ Gen wr G A n c a'
  gr : Gr G W wr
theorem FInv.step {w1 W wr w5 w6 w7 : World} {G : Nat} {A : Option Addr} {n c k : Nat} {vs : List Fc} {v : Value} {f : Fc} {a2 gg cap : Nat} {tmp o : Obj} (h : FInv w1 W G A n c k vs v wr) (hk : k < 5) (hG : G < W.heap.size)
    (hf : ∀ h2 : k < someF.length, FOk someF[k] f) (ha2 : a2 ≤ k + 1) (hg2 : Gen w5 G A n c a2) (hgr2 : Gr G (wr.alloc o).drew w5) (hb6 : Below w5.heap.size w5 w6)
    (hown7 : w7.ownsRow W.heap.size 41 7 (.slice (some ⟨gg, 0, none⟩) (vs.length + 1) cap) (vs.length + 1) (fcL vs ++ fcC f))
    (hgrow7 : (w6.alloc tmp).grownBy w7 v.ownBlock) : FInv w1 W G A n c (k + 1) (vs ++ [f]) (.slice (some ⟨gg, 0, none⟩) (vs.length + 1) cap) w7 := by
  have hs1 := h.gr.size
  have hs5 : wr.heap.size + 1 ≤ w5.heap.size := by have := hgr2.size; simpa using this
  have hs6 := hb6.size
  have hnb : ∀ b, b < W.heap.size → some b ≠ v.ownBlock := fun b hb => own_far h.own hb
  have f7 : ∀ b, b < w6.heap.size → some b ≠ v.ownBlock → w7.heap[b]? = w6.heap[b]? := fun b hl hne => app_keep hgrow7 hl hne
  refine ⟨hk, by rw [List.length_append, h.len]; rfl, by rw [fcL_snoc, List.length_append]; exact hown7, fun i h1 h2 => ?_, ⟨a2, ha2, ?_⟩, ?_⟩
  · by_cases hi : i < vs.length
    · rw [List.getElem_append_left hi]; exact h.ok i hi h2
    · have hij : i = vs.length := by rw [List.length_append] at h1; simp at h1; omega
      subst hij
      simp only [List.getElem_concat_length]
      have := hf (by rw [← h.len]; exact h2)
      have e : someF[vs.length] = someF[k]'(by rw [← h.len]; exact h2) := by congr 1; exact h.len
      rw [e]; exact this
  · exact (f7 G (by omega) (hnb G hG)).trans (hg2.below hb6)
  · refine ⟨?_, ?_, ?_, ?_, fun b hb hne => ?_⟩
    · exact hgrow7.os.trans (hb6.os.trans (hgr2.os.trans h.gr.os))
    · exact hgrow7.tape.trans (hb6.tape.trans (hgr2.tape.trans h.gr.tape))
    · exact hgrow7.output.trans (hb6.output.trans (hgr2.output.trans h.gr.output))
    · have h2 := hgrow7.size
      simp at h2; omega
    · have e1 : w7.heap[b]? = w6.heap[b]? := f7 b (by omega) (hnb b hb)
      have e2 : w6.heap[b]? = w5.heap[b]? := hb6.block b (by omega)
      have e3 : w5.heap[b]? = (wr.alloc o).drew.heap[b]? := hgr2.block b (by simp; omega) hne
      have e4 : (wr.alloc o).heap[b]? = wr.heap[b]? := (b_new wr o).block b (by omega)
      exact e1.trans (e2.trans (e3.trans (e4.trans (h.gr.block b hb hne))))

def FactsOut (w : World) (e : Ending) (w' : World) : Prop :=
  ∃ (vs : List Fc) (g cap : Nat), e = .returned (.slice (some ⟨g, 0, none⟩) 5 cap) ∧ vs.length = 5 ∧ (∀ (i : Nat) (h1 : i < vs.length) (h2 : i < someF.length), FOk someF[i] vs[i]) ∧ w.heap.size ≤ g ∧ (∃ rest, w'.heap[g]? = some (.cells (fcL vs ++ rest).toArray 41 (0, 0))) ∧ Below w.heap.size w w'
theorem fcs_of {w : World} {g : Nat} {vs : List Fc} {rest : List Value} (h : w.heap[g]? = some (.cells (fcL vs ++ rest).toArray 41 (0, 0))) : Fcs w (some ⟨g, 0, none⟩) vs := fun i hi => by
  refine ⟨_, rfl, ?_⟩
  have key : ∀ j, j < 7 → w.cell? ⟨g, i * 7 + j, none⟩ = (fcC vs[i])[j]? := fun j hj => by
    simp only [World.cell?, h, Option.isSome_none, Bool.false_eq_true, if_false]
    rw [List.getElem?_toArray, List.getElem?_append_left (by rw [fcL_len]; omega), fcL_at vs i j hi hj]
  have e : (⟨g, 0, none⟩ : Addr).add (i * 7) = ⟨g, i * 7, none⟩ := by unfold Addr.add; split <;> simp_all
  rw [e]
  exact ⟨key 0 (by omega), key 1 (by omega), key 2 (by omega), key 3 (by omega), key 4 (by omega), key 5 (by omega), key 6 (by omega)⟩

set_option maxHeartbeats 4000000 in
set_option maxRecDepth 100000 in
theorem facts_any (n c : Nat) (A : Option Addr) (w : World) (hr : Raws w A n c) :
    Calls Tryd.prog 11 #[.slice A n c] w (FactsOut w) := by
  obtain ⟨i0, hi, hz0, hz1, hz2⟩ := info_parts infoFc
  have hb0 := b_new w (.cells #[.slice A n c, .int .i64 0] 53)
  have hg0 : Gen (w.alloc (.cells #[.slice A n c, .int .i64 0] 53)) w.heap.size A n c 0 := World.alloc_heap_new w _
  have hr0 : Raws (w.alloc (.cells #[.slice A n c, .int .i64 0] 53)) A n c := hr.keep fun p v0 v1 v2 h0 h2 => hb0.block _ (cell_lt' h0)
  have HG0 := Lib.hid hg0
  have HR0 := Lib.hid hr0
  have HB0 := Lib.hid hb0
  clear hr hb0 hg0 hr0
  go_enter Tryd.func11, Tryd.ntmps11
  go_wp2_with fail
  refine (someX_any _).mono ?_; rintro e W ⟨⟨rfl, hfl⟩, hb1⟩
  rw [World.size_alloc] at hfl ⊢
  have hgW := HG0.out.below hb1
  have hgr1 : Gr w.heap.size (w.alloc (.cells #[.slice A n c, .int .i64 0] 53)) W := Gr.of_below hb1
  have hrW := Gr.raws hgr1 HG0.out HR0.out
  have hbW := HB0.out.trans (hb1.mono HB0.out.size)
  have hGW : w.heap.size < W.heap.size := hgW.lt
  have hI0 : FInv w W w.heap.size A n c 0 [] (.slice none 0 0) W := ⟨by omega, rfl, World.ownsRow_nil _ _ _ _, fun i h => absurd h (by simp), ⟨0, Nat.le_refl _, hgW⟩, Gr.refl _ _⟩
  have HI0 := Lib.hid hI0
  have HF := Lib.hid hfl
  have HR := Lib.hid hrW
  have HG := Lib.hid hgW
  have HBW := Lib.hid hbW
  clear hI0 hfl hgW hgr1 hrW hbW hb1 HG0 HR0 HB0
  go_wp2_with fail
  go_loopw [4, 6, 12] (fun v _ i wr => ∃ (k : Nat) (vs : List Fc) (v' : Value), v' = v ∧ i = .int .i64 k ∧ FInv w W w.heap.size A n c k vs v' wr) (fun _ _ i _ => 5 - (intOf i).toNat)
  case atStart => exact ⟨0, [], _, rfl, rfl, HI0.out⟩
  case round =>
    obtain ⟨k, vs, v, rfl, rfl, hI⟩ := hrel
    have hle := hI.le
    have HI := Lib.hid hI
    by_cases hlt : k < 5
    · obtain ⟨a', ha', hg'⟩ := hI.gen
      have hgrW := hI.gr
      have hflr : Flds wr (some ⟨w.heap.size + 1, 0, none⟩) someF := Gr.flds hgrW HG.out HF.out
      have hrr := Gr.raws hgrW HG.out HR.out
      have hk5 : k < someF.length := hlt
      obtain ⟨ad, had, hat⟩ := hflr k hk5
      obtain rfl : (⟨w.heap.size + 1, 0, none⟩ : Addr) = ad := by injection had
      obtain ⟨f, hfk⟩ : ∃ f, someF[k] = f := ⟨_, rfl⟩
      rw [hfk] at hat
      have hee : (⟨w.heap.size + 1, 0, none⟩ : Addr).add (k * 9) = ⟨w.heap.size + 1, k * 9, none⟩ := by unfold Addr.add; split <;> simp_all
      rw [hee] at hat
      obtain ⟨q0, q1, q2, q3, q4, q5, q6, q7, q8⟩ := hat
      simp only at q0 q1 q2 q3 q4 q5 q6 q7 q8
      obtain ⟨X, hX⟩ : ∃ X, wr.alloc (.cells #[.string f.nm, .int .i64 f.kind, .int .i64 f.ty, .int .i64 f.d.op, .int .i64 f.d.k, .int .i64 f.d.n, .string f.d.s, .string f.d.nm, .slice f.A f.n f.c] 56) = X := ⟨_, rfl⟩
      have hXb : X.heap[wr.heap.size]? = some (.cells #[.string f.nm, .int .i64 f.kind, .int .i64 f.ty, .int .i64 f.d.op, .int .i64 f.d.k, .int .i64 f.d.n, .string f.d.s, .string f.d.nm, .slice f.A f.n f.c] 56 (0, 0)) := by rw [← hX]; exact World.alloc_heap_new wr _
      have hbX : Below wr.heap.size wr X := by rw [← hX]; exact b_new _ _
      have hgX := hg'.below hbX
      have hgrX : Gr w.heap.size wr X := Gr.of_below hbX
      have hrX := Gr.raws hgrX hg' hrr
      have hnx := next_any w.heap.size n c a' A X.drew hgX (Gr.raws (Gr.of_below (b_drew (Below.refl _ _))) hgX hrX) (by omega)
      have hsX : wr.heap.size < X.heap.size := (Array.getElem?_eq_some_iff.1 hXb).1
      have hsW := hgrW.size
      have hcs : ∀ V, Gr w.heap.size X.drew V → V.cell? ⟨wr.heap.size, 0, none⟩ = some (.string f.nm) ∧ V.cell? ⟨wr.heap.size, 2, none⟩ = some (.int .i64 f.ty) := fun V hV => by
        have hb : V.heap[wr.heap.size]? = X.heap[wr.heap.size]? := hV.block _ hsX (fun e => by injection e; omega)
        exact ⟨by simp [World.cell?, hb, hXb], by simp [World.cell?, hb, hXb]⟩
      have c0 : X.cell? ⟨wr.heap.size, 0, none⟩ = some (.string f.nm) := by simp [World.cell?, hXb]
      have c2 : X.cell? ⟨wr.heap.size, 2, none⟩ = some (.int .i64 f.ty) := by simp [World.cell?, hXb]
      have hown : ∀ V, Gr w.heap.size X.drew V → V.ownsRow W.heap.size 41 7 v vs.length (fcL vs) := fun V hV =>
        hI.own.kept (Gr.trans hgrX (Gr.trans (Gr.of_below (b_drew (Below.refl _ _))) hV)) (.inr (own_far hI.own (b := w.heap.size) hGW).symm)
      have hlv : vs.length = k := hI.len
      have hl3 : vs.length ≤ 4 := by omega
      have hz6 : ∀ (V : World) (o : Obj), Gr w.heap.size X.drew V → W.heap.size ≤ (V.alloc o).heap.size := fun V o hV => by have := hV.size; simp at this ⊢; omega
      have HX := Lib.hid hX
      have HNx := Lib.hid hnx
      have HCs := Lib.hid hcs
      have HOw := Lib.hid hown
      have HZ6 := Lib.hid hz6
      have HFk := Lib.hid (show ∀ h2 : k < someF.length, someF[k] = f from fun _ => hfk)
      have HA := Lib.hid ha'
      clear hI hX hXb hbX hgX hgrX hrX hnx hcs hown hz6 hfk hg' ha' hflr hrr had hee hk5 hgrW hlv
      go_wp2_with fail
      rw [HX.out]
      go_region_law (first
          | (refine step_append_lies _ (by rfl) _ _ _ (by rfl) W.heap.size 41 i0 _ 7 80 Tryd.underlying27 hi hz0 hz1 hz2 rfl (by omega) v vs.length (fcL vs) (by rfl) (own6.alloc _) ⟨w6.heap.size, 0, none⟩ 1 1 [.string f.nm, .int .i64 0, .int .i64 0, .string ⟨#[]⟩, .int .i64 vk, .int .i64 vn, .string vz] (by rfl) (by rfl) (World.news_of_block (cs := #[.string f.nm, .int .i64 0, .int .i64 0, .string ⟨#[]⟩, .int .i64 vk, .int .i64 vn, .string vz]) (t := 41) (fr := (0, 0)) (heap_alloc_new w6 _)) (by simp [Value.oneCell']) (by omega) (by unfold maxLen; omega) (by omega) hz9 (w6.heap.size + 1) (by simp) ?_; intro gg cap w7 hown7 hgrow7 hat7 hlt7; have H7 := Lib.hid (And.intro hown7 hgrow7); clear hown7 hgrow7 hat7 hlt7)
          | (go_simp; go_at_call 22; (with_reducible refine HNx.out.mono ?_); rintro e w5 ⟨K, Y, Z, T, a2, rfl, kk1, kk2, kk3, kk4, ha2, hg2, hgr2⟩; obtain ⟨d0, d2⟩ := HCs.out w5 hgr2; have H5 := Lib.hid (And.intro ha2 (And.intro hg2 hgr2)); clear ha2 hg2 hgr2)
          | (go_simp; go_at_call 21; (with_reducible refine (val_out f.ty K Y Z T _ kk1 kk2 kk4).mono ?_); rintro e w6 ⟨vk, vn, vz, rfl, hvk, hb6⟩; have hgr6 := Gr.trans H5.out.2.2 (Gr.of_below hb6); obtain ⟨d0, d2⟩ := HCs.out w6 hgr6; have own6 := HOw.out w6 hgr6; have hz9 := HZ6.out w6 (.cells #[.string f.nm, .int .i64 0, .int .i64 0, .string ⟨#[]⟩, .int .i64 vk, .int .i64 vn, .string vz] 41) hgr6; have H6 := Lib.hid (And.intro hvk hb6); clear hvk hb6 hgr6))
      all_goals
        have h5 := H5.out
        rw [← HX.out] at h5
        have hN := HI.out.step (f := ⟨f.nm, 0, 0, ⟨#[]⟩, ⟨vk, vn, vz⟩⟩) (a2 := a2) hlt hGW (fun h2 => by rw [HFk.out h2]; exact ⟨rfl, rfl, rfl, rfl, H6.out.1.1, H6.out.1.2⟩) (by have := HA.out; omega) h5.2.1 h5.2.2 H6.out.2 H7.out.1 H7.out.2
        have HN := Lib.hid hN
        clear h5 hN
        go_wp2_with fail
        go_roundw
        case rel => exact ⟨k + 1, _, _, rfl, by go_num, HN.out⟩
        case measure => simp [intOf]; omega
    · have hk5 : k = 5 := by omega
      have hlen : vs.length = 5 := hI.len.trans hk5
      rcases hI.own.2 with ⟨_, h2⟩ | ⟨g, cap, cur, rfl, hgb, hcells, _, _, hcs, htk⟩
      · omega
      · have hcur : cur = (fcL vs ++ cur.toList.drop (vs.length * 7)).toArray := by
          rw [← htk, List.take_append_drop]
        rw [hcur] at hcells
        have hfin : ∀ e, e = Ending.returned (.slice (some ⟨g, 0, none⟩) vs.length cap) → FactsOut w e wr := fun e he => by
          subst he
          rw [hlen]
          have hgr := hI.gr
          have hB := HBW.out
          exact ⟨vs, g, cap, rfl, hlen, hI.ok, by have := hB.size; omega, ⟨_, hcells⟩, ⟨hgr.os.trans hB.os, hgr.tape.trans hB.tape, hgr.output.trans hB.output, Nat.le_trans hB.size hgr.size, fun b hb => (hgr.block b (Nat.lt_of_lt_of_le hb hB.size) (fun e => by injection e; omega)).trans (hB.block b hb)⟩⟩
        have HFin := Lib.hid hfin
        clear hfin hI hcells hcur hcs htk
        go_wp2_with fail
        go_ret
        exact HFin.out _ rfl
end Go.Proofs.YtehkebncdahmcaaDoor.EvG
