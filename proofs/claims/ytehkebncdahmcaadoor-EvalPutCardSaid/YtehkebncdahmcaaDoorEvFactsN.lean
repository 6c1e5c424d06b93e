/- The statements' own facts of five fields, by the contents of what they are drawn from. -/
import Derived.Test.YtehkebncdahmcaaDoorEvFacts
import Derived.Test.YtehkebncdahmcaaDoorRawN
namespace Go.Proofs.YtehkebncdahmcaaDoor.EvH
open Go.RowKit
open ValM LexM NumM ExM TyM EvM Kit ExL ExP RawV Within RawL RawN GenL Gen GenT NmG EvF Ev EvG
set_option linter.unusedVariables false

def atN (rs : List Rw) (k : Nat) : Nat := if rs.length = 0 then 0 else k
theorem atN_le (rs : List Rw) (k : Nat) : atN rs k ≤ k := by unfold atN; split <;> omega
theorem atN_next (rs : List Rw) (k : Nat) : nextA rs (atN rs k) = atN rs (k + 1) := by unfold nextA atN; split <;> rfl
/-- The fact of a field, of what is drawn for it. -/
def fctV (rs : List Rw) (k : Nat) : Fc :=
  match someF[k]? with
  | none => ⟨⟨#[]⟩, 0, 0, ⟨#[]⟩, ⟨0, 0, ⟨#[]⟩⟩⟩
  | some f => ⟨f.nm, 0, 0, ⟨#[]⟩, ⟨vK f.ty, vN f.ty (nextV rs (atN rs k)).k (nextV rs (atN rs k)).x, vS f.ty (nextV rs (atN rs k)).t⟩⟩
def factsV (rs : List Rw) : Nat → List Fc
  | 0 => []
  | k + 1 => factsV rs k ++ [fctV rs k]
theorem factsV_len (rs : List Rw) : ∀ k, (factsV rs k).length = k
  | 0 => rfl
  | k + 1 => by rw [factsV, List.length_append, factsV_len rs k]; rfl
theorem fctV_ok (rs : List Rw) (k : Nat) (h : k < someF.length) : FOk someF[k] (fctV rs k) := by
  have e : fctV rs k = ⟨someF[k].nm, 0, 0, ⟨#[]⟩, ⟨vK someF[k].ty, vN someF[k].ty (nextV rs (atN rs k)).k (nextV rs (atN rs k)).x, vS someF[k].ty (nextV rs (atN rs k)).t⟩⟩ := by
    unfold fctV; rw [List.getElem?_eq_getElem h]
  rw [e]
  exact ⟨rfl, rfl, rfl, rfl, rfl, v_known _ _ _ _⟩
theorem factsV_ok (rs : List Rw) : ∀ (k : Nat), k ≤ 5 → ∀ (i : Nat) (h1 : i < (factsV rs k).length) (h2 : i < someF.length), FOk someF[i] (factsV rs k)[i]
  | 0, _, i, h1, _ => absurd h1 (by simp [factsV])
  | k + 1, hk, i, h1, h2 => by
    by_cases hi : i < (factsV rs k).length
    · have : (factsV rs (k + 1))[i] = (factsV rs k)[i] := List.getElem_append_left hi
      rw [this]; exact factsV_ok rs k (by omega) i hi h2
    · have hl := factsV_len rs k
      have hl' := factsV_len rs (k + 1)
      have e : i = k := by omega
      subst e
      have h3 : i < (factsV rs i ++ [fctV rs i]).length := h1
      have this : (factsV rs i ++ [fctV rs i])[i] = fctV rs i := by simp [hl]
      show FOk someF[i] (factsV rs i ++ [fctV rs i])[i]
      rw [this]; exact fctV_ok rs i h2
structure FInv (W : World) (G : Nat) (A : Option Addr) (rs : List Rw) (c k : Nat) (v : Value) (wr : World) : Prop where
  le : k ≤ 5
  own : wr.ownsRow W.heap.size 41 7 v k (fcL (factsV rs k))
  gen : Gen wr G A rs.length c (atN rs k)
  gr : Gr G W wr
theorem FInv.step {W wr w5 w6 w7 : World} {G : Nat} {A : Option Addr} {rs : List Rw} {c k : Nat} {v : Value} {gg cap : Nat} {tmp o : Obj} (h : FInv W G A rs c k v wr) (hk : k < 5) (hG : G < W.heap.size)
    (hg2 : Gen w5 G A rs.length c (atN rs (k + 1))) (hgr2 : Gr G (wr.alloc o).drew w5) (hb6 : Below w5.heap.size w5 w6)
    (hown7 : w7.ownsRow W.heap.size 41 7 (.slice (some ⟨gg, 0, none⟩) (k + 1) cap) (k + 1) (fcL (factsV rs k) ++ fcC (fctV rs k)))
    (hgrow7 : (w6.alloc tmp).grownBy w7 v.ownBlock) : FInv W G A rs c (k + 1) (.slice (some ⟨gg, 0, none⟩) (k + 1) cap) w7 := by
  have hs1 := h.gr.size
  have hs5 : wr.heap.size + 1 ≤ w5.heap.size := by have := hgr2.size; simpa using this
  have hs6 := hb6.size
  have hnb : ∀ b, b < W.heap.size → some b ≠ v.ownBlock := fun b hb => own_far h.own hb
  have f7 : ∀ b, b < w6.heap.size → some b ≠ v.ownBlock → w7.heap[b]? = w6.heap[b]? := fun b hl hne => app_keep hgrow7 hl hne
  refine ⟨hk, by rw [factsV, fcL_snoc]; exact hown7, (f7 G (by omega) (hnb G hG)).trans (hg2.below hb6), ?_⟩
  refine ⟨?_, ?_, ?_, ?_, fun b hb hne => ?_⟩
  · exact hgrow7.os.trans (hb6.os.trans (hgr2.os.trans h.gr.os))
  · exact hgrow7.tape.trans (hb6.tape.trans (hgr2.tape.trans h.gr.tape))
  · exact hgrow7.output.trans (hb6.output.trans (hgr2.output.trans h.gr.output))
  · have h2 := hgrow7.size
    simp at h2; omega
  · have e1 : w7.heap[b]? = w6.heap[b]? := f7 b (by omega) (hnb b hb)
    have e2 : w6.heap[b]? = w5.heap[b]? := hb6.block b (by omega)
    have e3 : w5.heap[b]? = (wr.alloc o).drew.heap[b]? := hgr2.block b (by simp; omega) hne
    have e4 : (wr.alloc o).heap[b]? = wr.heap[b]? := (b_new wr o).block b (by omega)
    exact e1.trans (e2.trans (e3.trans (e4.trans (h.gr.block b hb hne))))
/-- The five facts, by what they are drawn from. -/
def FactsV (rs : List Rw) (w : World) (e : Ending) (w' : World) : Prop :=
  ∃ (g cap : Nat), e = .returned (.slice (some ⟨g, 0, none⟩) 5 cap) ∧ w.heap.size ≤ g ∧ (∃ rest, w'.heap[g]? = some (.cells (fcL (factsV rs 5) ++ rest).toArray 41 (0, 0))) ∧ Below w.heap.size w w'

theorem nextV_ok (rs : List Rw) (c : Nat) (A : Option Addr) (a : Nat) (w : World) (h : RawsV w A rs c) : (nextV rs a).ok := by
  unfold nextV
  split
  · exact ⟨rfl, rfl, rfl, Nat.zero_le _⟩
  · rename_i r hr
    obtain ⟨hi, rfl⟩ := List.getElem?_eq_some_iff.1 hr
    obtain ⟨_, _, _, o⟩ := h.2.2 _ hi
    exact ⟨o.1, wrap64_wf _, o.2.2.1, o.2.2.2⟩
set_option maxHeartbeats 4000000 in
set_option maxRecDepth 100000 in
theorem factsV_any (rs : List Rw) (n c : Nat) (A : Option Addr) (w : World) (hrl : rs.length = n) (hr : RawsV w A rs c) :
    Calls Tryd.prog 11 #[.slice A n c] w (FactsV rs w) := by
  subst hrl
  obtain ⟨i0, hi, hz0, hz1, hz2⟩ := info_parts infoFc
  have hb0 := b_new w (.cells #[.slice A rs.length c, .int .i64 0] 53)
  have hg0 : Gen (w.alloc (.cells #[.slice A rs.length c, .int .i64 0] 53)) w.heap.size A rs.length c 0 := World.alloc_heap_new w _
  have hr0 := hr.below hb0
  have HG0 := Lib.hid hg0
  have HR0 := Lib.hid hr0
  have HB0 := Lib.hid hb0
  clear hr hb0 hg0 hr0
  go_enter Tryd.func11, Tryd.ntmps11
  go_wp2_with fail
  refine (someX_any _).mono ?_; rintro e W ⟨⟨rfl, hfl⟩, hb1⟩
  rw [World.size_alloc] at hfl ⊢
  have hgW := HG0.out.below hb1
  have hgr1 : Gr w.heap.size (w.alloc (.cells #[.slice A rs.length c, .int .i64 0] 53)) W := Gr.of_below hb1
  have hrW := Gr.rawsV hgr1 HG0.out HR0.out
  have hbW := HB0.out.trans (hb1.mono HB0.out.size)
  have hGW : w.heap.size < W.heap.size := hgW.lt
  have hI0 : FInv W w.heap.size A rs c 0 (.slice none 0 0) W := ⟨by omega, World.ownsRow_nil _ _ _ _, (by rw [show atN rs 0 = 0 by unfold atN; split <;> rfl]; exact hgW), Gr.refl _ _⟩
  have HI0 := Lib.hid hI0
  have HF := Lib.hid hfl
  have HR := Lib.hid hrW
  have HG := Lib.hid hgW
  have HBW := Lib.hid hbW
  clear hI0 hfl hgW hgr1 hrW hbW hb1 HG0 HR0 HB0
  go_wp2_with fail
  go_loopw [4, 6, 12] (fun v _ i wr => ∃ (k : Nat) (v' : Value), v' = v ∧ i = .int .i64 k ∧ FInv W w.heap.size A rs c k v' wr) (fun _ _ i _ => 5 - (intOf i).toNat)
  case atStart => exact ⟨0, _, rfl, rfl, HI0.out⟩
  case round =>
    obtain ⟨k, v, rfl, rfl, hI⟩ := hrel
    have hle := hI.le
    have HI := Lib.hid hI
    by_cases hlt : k < 5
    · have hg' := hI.gen
      have ha' := atN_le rs k
      have hgrW := hI.gr
      have hflr : Flds wr (some ⟨w.heap.size + 1, 0, none⟩) someF := Gr.flds hgrW HG.out HF.out
      have hrr := Gr.rawsV hgrW HG.out HR.out
      have hk5 : k < someF.length := hlt
      obtain ⟨ad, had, hat⟩ := hflr k hk5
      obtain rfl : (⟨w.heap.size + 1, 0, none⟩ : Addr) = ad := by injection had
      obtain ⟨f, hfk⟩ : ∃ f, someF[k] = f := ⟨_, rfl⟩
      rw [hfk] at hat
      have hee : (⟨w.heap.size + 1, 0, none⟩ : Addr).add (k * 9) = ⟨w.heap.size + 1, k * 9, none⟩ := by unfold Addr.add; split <;> simp_all
      rw [hee] at hat
      obtain ⟨q0, q1, q2, q3, q4, q5, q6, q7, q8⟩ := hat
      simp only at q0 q1 q2 q3 q4 q5 q6 q7 q8
      obtain ⟨X, hX⟩ : ∃ X, wr.alloc (.cells #[.string f.nm, .int .i64 f.kind, .int .i64 f.ty, .int .i64 f.d.op, .int .i64 f.d.k, .int .i64 f.d.n, .string f.d.s, .string f.d.nm, .slice f.A f.n f.c] 56) = X := ⟨_, rfl⟩
      have hXb : X.heap[wr.heap.size]? = some (.cells #[.string f.nm, .int .i64 f.kind, .int .i64 f.ty, .int .i64 f.d.op, .int .i64 f.d.k, .int .i64 f.d.n, .string f.d.s, .string f.d.nm, .slice f.A f.n f.c] 56 (0, 0)) := by rw [← hX]; exact World.alloc_heap_new wr _
      have hbX : Below wr.heap.size wr X := by rw [← hX]; exact b_new _ _
      have hgX := hg'.below hbX
      have hgrX : Gr w.heap.size wr X := Gr.of_below hbX
      have hrX := Gr.rawsV hgrX hg' hrr
      have hnx := nextV_any w.heap.size c (atN rs k) A rs X.drew hgX (Gr.rawsV (Gr.of_below (b_drew (Below.refl _ _))) hgX hrX) (by omega)
      have hfv : fctV rs k = ⟨f.nm, 0, 0, ⟨#[]⟩, ⟨vK f.ty, vN f.ty (nextV rs (atN rs k)).k (nextV rs (atN rs k)).x, vS f.ty (nextV rs (atN rs k)).t⟩⟩ := by
        unfold fctV; rw [List.getElem?_eq_getElem hk5, hfk]
      unfold NextV at hnx
      rw [atN_next] at hnx
      have hok := nextV_ok rs c A (atN rs k) _ hrX
      generalize nextV rs (atN rs k) = R at hnx hfv hok
      obtain ⟨K, Y, Z, T⟩ := R
      simp only at hnx hfv
      obtain ⟨kk1, kk2, kk3, kk4⟩ := hok
      have hval := fun V => value_any f.ty K Y Z T V kk1 kk2 kk4
      generalize vK f.ty = vk at hval hfv
      generalize vN f.ty K Y = vn at hval hfv
      generalize vS f.ty T = vz at hval hfv
      have hsX : wr.heap.size < X.heap.size := (Array.getElem?_eq_some_iff.1 hXb).1
      have hsW := hgrW.size
      have hcs : ∀ V, Gr w.heap.size X.drew V → V.cell? ⟨wr.heap.size, 0, none⟩ = some (.string f.nm) ∧ V.cell? ⟨wr.heap.size, 2, none⟩ = some (.int .i64 f.ty) := fun V hV => by
        have hb : V.heap[wr.heap.size]? = X.heap[wr.heap.size]? := hV.block _ hsX (fun e => by injection e; omega)
        exact ⟨by simp [World.cell?, hb, hXb], by simp [World.cell?, hb, hXb]⟩
      have c0 : X.cell? ⟨wr.heap.size, 0, none⟩ = some (.string f.nm) := by simp [World.cell?, hXb]
      have c2 : X.cell? ⟨wr.heap.size, 2, none⟩ = some (.int .i64 f.ty) := by simp [World.cell?, hXb]
      have hown : ∀ V, Gr w.heap.size X.drew V → V.ownsRow W.heap.size 41 7 v k (fcL (factsV rs k)) := fun V hV =>
        hI.own.kept (Gr.trans hgrX (Gr.trans (Gr.of_below (b_drew (Below.refl _ _))) hV)) (.inr (own_far hI.own (b := w.heap.size) hGW).symm)
      have hl3 : k ≤ 4 := by omega
      have hz6 : ∀ (V : World) (o : Obj), Gr w.heap.size X.drew V → W.heap.size ≤ (V.alloc o).heap.size := fun V o hV => by have := hV.size; simp at this ⊢; omega
      have HX := Lib.hid hX
      have HNx := Lib.hid hnx
      have HCs := Lib.hid hcs
      have HZ6 := Lib.hid hz6
      have HFv := Lib.hid hfv
      have HVal := Lib.hid hval
      obtain ⟨L, hL⟩ : ∃ L, fcL (factsV rs k) = L := ⟨_, rfl⟩
      rw [hL] at hown
      have HOw := Lib.hid hown
      have HL := Lib.hid hL
      clear hI hX hXb hbX hgX hgrX hrX hnx hcs hown hz6 hfk hg' ha' hflr hrr had hee hk5 hgrW hfv hval hL
      go_wp2_with fail
      rw [HX.out]
      go_region_law (first
          | (refine step_append_lies _ (by rfl) _ _ _ (by rfl) W.heap.size 41 i0 _ 7 80 Tryd.underlying27 hi hz0 hz1 hz2 rfl (by omega) v k L (by rfl) (own6.alloc _) ⟨w6.heap.size, 0, none⟩ 1 1 [.string f.nm, .int .i64 0, .int .i64 0, .string ⟨#[]⟩, .int .i64 vk, .int .i64 vn, .string vz] (by rfl) (by rfl) (World.news_of_block (cs := #[.string f.nm, .int .i64 0, .int .i64 0, .string ⟨#[]⟩, .int .i64 vk, .int .i64 vn, .string vz]) (t := 41) (fr := (0, 0)) (heap_alloc_new w6 _)) (by simp [Value.oneCell']) (by omega) (by unfold maxLen; omega) (by omega) hz9 (w6.heap.size + 1) (by simp) ?_; intro gg cap w7 hown7 hgrow7 hat7 hlt7; have H7 := Lib.hid (And.intro hown7 hgrow7); clear hown7 hgrow7 hat7 hlt7)
          | (go_simp; go_at_call 22; (with_reducible refine HNx.out.mono ?_); rintro e w5 ⟨rfl, hok5, hg2, hgr2⟩; obtain ⟨d0, d2⟩ := HCs.out w5 hgr2; have H5 := Lib.hid (And.intro hg2 hgr2); clear hok5 hg2 hgr2)
          | (go_simp; go_at_call 21; (with_reducible refine (HVal.out _).mono ?_); rintro e w6 ⟨rfl, hb6⟩; have hgr6 := Gr.trans H5.out.2 (Gr.of_below hb6); obtain ⟨d0, d2⟩ := HCs.out w6 hgr6; have own6 := HOw.out w6 hgr6; have hz9 := HZ6.out w6 (.cells #[.string f.nm, .int .i64 0, .int .i64 0, .string ⟨#[]⟩, .int .i64 vk, .int .i64 vn, .string vz] 41) hgr6; have H6 := Lib.hid hb6; clear hb6 hgr6))
      all_goals
        have h5 := H5.out
        rw [← HX.out] at h5
        have h7 := H7.out.1
        have hN := HI.out.step hlt hGW h5.1 h5.2 H6.out (by rw [HL.out, HFv.out]; exact h7) H7.out.2
        have HN := Lib.hid hN
        clear h5 hN h7
        go_wp2_with fail
        go_roundw
        case rel => exact ⟨k + 1, _, rfl, by go_num, HN.out⟩
        case measure => simp [intOf]; omega
    · have hk5 : k = 5 := by omega
      subst hk5
      have hl5 := factsV_len rs 5
      rcases hI.own.2 with ⟨_, h2⟩ | ⟨g, cap, cur, rfl, hgb, hcells, _, _, hcs, htk⟩
      · omega
      · have hcur : cur = (fcL (factsV rs 5) ++ cur.toList.drop (5 * 7)).toArray := by
          rw [← htk, List.take_append_drop]
        rw [hcur] at hcells
        have hfin : ∀ e, e = Ending.returned (.slice (some ⟨g, 0, none⟩) 5 cap) → FactsV rs w e wr := fun e he => by
          subst he
          have hgr := hI.gr
          have hB := HBW.out
          exact ⟨g, cap, rfl, by have := hB.size; omega, ⟨_, hcells⟩, ⟨hgr.os.trans hB.os, hgr.tape.trans hB.tape, hgr.output.trans hB.output, Nat.le_trans hB.size hgr.size, fun b hb => (hgr.block b (Nat.lt_of_lt_of_le hb hB.size) (fun e => by injection e; omega)).trans (hB.block b hb)⟩⟩
        have HFin := Lib.hid hfin
        clear hfin hI hcells hcur hcs htk
        go_wp2_with fail
        go_ret
        exact HFin.out _ rfl
end Go.Proofs.YtehkebncdahmcaaDoor.EvH
