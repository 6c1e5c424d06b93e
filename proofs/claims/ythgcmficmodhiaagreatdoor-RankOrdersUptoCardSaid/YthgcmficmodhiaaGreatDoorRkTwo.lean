/- rank.Order and rank.Hangs beside the reference's, of any fields. -/
import Derived.Test.YthgcmficmodhiaaGreatDoorRkLaw
import Derived.Test.YthgcmficmodhiaaGreatDoorRkHangs
namespace Go.Proofs.YthgcmficmodhiaaGreatDoor.RkZ
open Go.RowKit
open ValM LexM NumM ExM NmM Kit ExL ExP ExN ExC RawV Within RawL GenL FldP FldR FldC TyM Ty NmO NmA NmI NmT NmR RkM RkA RkB RkC RkD RkO RkT RkP RkF RkH RkG RkL CycO SMp RkV RkW RkX RkY
set_option linter.unusedVariables false

/-! ### short ways -/
set_option maxRecDepth 100000 in
set_option maxHeartbeats 4000000 in
theorem refOrder_bad (n : Nat) (FA : Option Addr) (fc : Nat) (R : Int) (w : World) (h0 : R ≠ 0) (hof : Calls Tryz.prog 6 #[.slice FA n fc] w fun e w' => (∃ c, e = .returned (.tuple #[.slice none 0 0, c, .int .i64 R])) ∧ Below w.heap.size w w') :
    Calls Tryz.prog 11 #[.slice FA n fc] w fun e w' => e = .returned (.tuple #[.slice none 0 0, .int .i64 R]) ∧ Below w.heap.size w w' := by
  have t1 : (R != 0) = true := bne_iff_ne.2 h0
  have HO := Lib.hid hof
  clear hof h0
  go_enter Tryz.func11, Tryz.ntmps11
  go_wp2_with (go_at_call 6; refine HO.out.mono ?_; rintro e w1 ⟨⟨c1, rfl⟩, hb⟩; have HB := Lib.hid hb; clear hb)
  go_ret2
  exact ⟨rfl, HB.out⟩
set_option maxRecDepth 100000 in
set_option maxHeartbeats 4000000 in
theorem refHangs_bad (n : Nat) (FA : Option Addr) (fc : Nat) (s : ByteArray) (R : Int) (w : World) (h0 : R ≠ 0) (hof : Calls Tryz.prog 6 #[.slice FA n fc] w fun e w' => (∃ c, e = .returned (.tuple #[.slice none 0 0, c, .int .i64 R])) ∧ Below w.heap.size w w') :
    Calls Tryz.prog 12 #[.slice FA n fc, .string s] w fun e w' => e = .returned (.tuple #[.slice none 0 0, .int .i64 R]) ∧ Below w.heap.size w w' := by
  have t1 : (R != 0) = true := bne_iff_ne.2 h0
  have HO := Lib.hid hof
  clear hof h0
  go_enter Tryz.func12, Tryz.ntmps12
  go_wp2_with (go_at_call 6; refine HO.out.mono ?_; rintro e w1 ⟨⟨c1, rfl⟩, hb⟩; have HB := Lib.hid hb; clear hb)
  go_ret2
  exact ⟨rfl, HB.out⟩
set_option maxRecDepth 100000 in
set_option maxHeartbeats 4000000 in
theorem refHangs_none (n : Nat) (FA : Option Addr) (fc : Nat) (s : ByteArray) (w : World) (hof : Calls Tryz.prog 6 #[.slice FA n fc] w fun e w' => (∃ v c, e = .returned (.tuple #[v, c, .int .i64 0])) ∧ Below w.heap.size w w')
    (hfi : ∀ V, Below w.heap.size w V → Calls Tryz.prog 21 #[.slice FA n fc, .string s] V fun e w' => e = .returned (.int .i64 (n : Int)) ∧ Below V.heap.size V w') :
    Calls Tryz.prog 12 #[.slice FA n fc, .string s] w fun e w' => e = .returned (.tuple #[.slice none 0 0, .int .i64 5]) ∧ Below w.heap.size w w' := by
  have HO := Lib.hid hof
  have HFi := Lib.hid hfi
  clear hof hfi
  go_enter Tryz.func12, Tryz.ntmps12
  go_wp2_with fail
  refine HO.out.mono ?_; rintro e w1 ⟨⟨v1, c1, rfl⟩, hb⟩
  have HB := Lib.hid hb
  clear hb
  go_wp2_with (go_at_call 21; refine (HFi.out _ HB.out).mono ?_; rintro e w2 ⟨rfl, hb2⟩; have HB2 := Lib.hid (b_trans HB.out hb2); clear hb2)
  go_ret2
  exact ⟨rfl, HB2.out⟩
set_option maxRecDepth 100000 in
set_option maxHeartbeats 4000000 in
theorem hangs_bad (n : Nat) (FA : Option Addr) (fc : Nat) (s : ByteArray) (R : Int) (w : World) (h0 : R ≠ 0) (hof : Calls Tryz.prog 9 #[.slice FA n fc] w fun e w' => e = .returned (.tuple #[.slice none 0 0, .int .i64 R]) ∧ Below w.heap.size w w') :
    Calls Tryz.prog 10 #[.slice FA n fc, .string s] w fun e w' => e = .returned (.tuple #[.slice none 0 0, .int .i64 R]) ∧ Below w.heap.size w w' := by
  have t1 : (R != 0) = true := bne_iff_ne.2 h0
  have HO := Lib.hid hof
  clear hof h0
  go_enter Tryz.func10, Tryz.ntmps10
  go_wp2_with (go_at_call 9; refine HO.out.mono ?_; rintro e w1 ⟨rfl, hb⟩; have HB := Lib.hid hb; clear hb)
  go_ret2
  exact ⟨rfl, HB.out⟩
set_option maxRecDepth 100000 in
set_option maxHeartbeats 4000000 in
theorem hangs_none (n : Nat) (FA : Option Addr) (fc : Nat) (s : ByteArray) (w : World) (hof : Calls Tryz.prog 9 #[.slice FA n fc] w fun e w' => (∃ v, e = .returned (.tuple #[v, .int .i64 0])) ∧ Below w.heap.size w w')
    (hfi : ∀ V, Below w.heap.size w V → Calls Tryz.prog 27 #[.slice FA n fc, .string s] V fun e w' => e = .returned (.tuple #[.int .i64 0, .int .i64 5]) ∧ V = w') :
    Calls Tryz.prog 10 #[.slice FA n fc, .string s] w fun e w' => e = .returned (.tuple #[.slice none 0 0, .int .i64 5]) ∧ Below w.heap.size w w' := by
  have HO := Lib.hid hof
  have HFi := Lib.hid hfi
  clear hof hfi
  go_enter Tryz.func10, Tryz.ntmps10
  go_wp2_with fail
  refine HO.out.mono ?_; rintro e w1 ⟨⟨v1, rfl⟩, hb⟩
  have HB := Lib.hid hb
  clear hb
  go_wp2_with (go_at_call 27; refine (HFi.out _ HB.out).mono ?_; rintro e w2 ⟨rfl, rfl⟩)
  go_ret2
  exact ⟨rfl, HB.out⟩
/-! ### no fields -/
set_option maxRecDepth 100000 in
set_option maxHeartbeats 4000000 in
theorem insertion_nil (v fv : Value) (w : World) : Calls Tryz.prog 60 #[v, .int .i64 0, .int .i64 0, fv] w fun e w' => e = .returned (.tuple #[]) ∧ w' = w := by
  go_enter Tryz.func60, Tryz.ntmps60
  go_wp2_with fail
  go_loopw [8] (fun a wr => a = .int .i64 1 ∧ wr = w) (fun _ _ => 0)
  case atStart => exact ⟨rfl, rfl⟩
  case round =>
    obtain ⟨rfl, rfl⟩ := hrel
    go_wp2_with fail
    go_end0
    exact ⟨rfl, rfl⟩
set_option maxRecDepth 100000 in
set_option maxHeartbeats 4000000 in
theorem order_nil (FA : Option Addr) (fc : Nat) (w : World) (hof : Calls Tryz.prog 5 #[.slice FA 0 fc] w fun e w' => (∃ A c c2, e = .returned (.tuple #[.slice A 0 c, c2, .int .i64 0])) ∧ Below w.heap.size w w') :
    Calls Tryz.prog 9 #[.slice FA 0 fc] w fun e w' => (∃ A c, e = .returned (.tuple #[.slice A 0 c, .int .i64 0])) ∧ Below w.heap.size w w' := by
  obtain ⟨i0, hi, hz0, hz1, hz2⟩ := info_parts1 infoInt
  have HO := Lib.hid hof
  clear hof
  go_enter Tryz.func9, Tryz.ntmps9
  go_wp2_with fail
  refine HO.out.mono ?_; rintro e w1 ⟨⟨Av, cv, c1, rfl⟩, hb⟩
  obtain ⟨W2, hW2⟩ : ∃ V, w1.alloc (.cells #[.slice Av 0 cv] 23) = V := ⟨_, rfl⟩
  have hbw2 := b_more hb (.cells #[.slice Av 0 cv] 23)
  rw [hW2] at hbw2
  have HW2 := Lib.hid hW2
  have HBw := Lib.hid hbw2
  clear hb hW2 hbw2
  go_upto_region 2 with fail
  rw [HW2.out]
  go_wp2_with (at_make; refine wpList_make_full _ rfl _ _ 23 rfl W2.heap.size 3 i0 _ 1 Tryz.underlying23 hi hz0 hz1 .i64 .i64 _ _ 0 rfl rfl rfl rfl (by rw [hz2]; omega) (by unfold maxLen; omega) (Nat.le_refl _) ?_; intro w3 hown hgrow; have H3 := Lib.hid (HBw.out.grown hgrow HBw.out.size (fun k e => by cases e)); clear hown hgrow)
  go_loopw [8, 23] (fun _ ii wr => ii = .int .i64 0 ∧ wr = w3) (fun _ _ _ => 0)
  case atStart => exact ⟨rfl, rfl⟩
  case round =>
    obtain ⟨rfl, rfl⟩ := hrel
    have hso := fun fv => sortStable_any 0 W2.heap.size 0 fv wr (fun _ w' => w' = wr) (by omega) (insertion_nil (.slice (some ⟨W2.heap.size, 0, none⟩) 0 0) fv wr)
    have HSo := Lib.hid hso
    clear hso
    go_wp2_with (go_at_call 24; refine (HSo.out _).mono ?_; rintro e w5 ⟨rfl, rfl⟩)
    go_ret2
    exact ⟨⟨_, _, rfl⟩, H3.out⟩
set_option maxRecDepth 100000 in
set_option maxHeartbeats 4000000 in
theorem refOrder_nil (FA : Option Addr) (fc : Nat) (w : World) (hof : Calls Tryz.prog 6 #[.slice FA 0 fc] w fun e w' => (∃ v c, e = .returned (.tuple #[v, c, .int .i64 0])) ∧ Below w.heap.size w w') :
    Calls Tryz.prog 11 #[.slice FA 0 fc] w fun e w' => (∃ A c, e = .returned (.tuple #[.slice A 0 c, .int .i64 0])) ∧ Below w.heap.size w w' := by
  have HO := Lib.hid hof
  clear hof
  go_enter Tryz.func11, Tryz.ntmps11
  go_wp2_with fail
  refine HO.out.mono ?_; rintro e w1 ⟨⟨v1, c1, rfl⟩, hb⟩
  have HB := Lib.hid hb
  clear hb
  go_wp2_with fail
  go_loopw [7, 8] (fun out lv wr => out = .slice none 0 0 ∧ lv = .int .i64 0 ∧ wr = w1) (fun _ _ _ => 0)
  case atStart => exact ⟨rfl, rfl, rfl⟩
  case round =>
    obtain ⟨rfl, rfl, rfl⟩ := hrel
    go_wp2_with fail
    go_ret2
    exact ⟨⟨_, _, rfl⟩, HB.out⟩
/-! ### both -/
def Pai (L : List Int) (R : Int) (w : World) (e : Ending) (w' : World) : Prop := ∃ v, e = .returned (.tuple #[v, .int .i64 R]) ∧ IntsV w' v L ∧ Below w.heap.size w w'
theorem pai_nil {e : Ending} {w w' : World} {R : Int} {A : Option Addr} {c : Nat} (he : e = .returned (.tuple #[.slice A 0 c, .int .i64 R])) (hb : Below w.heap.size w w') : Pai [] R w e w' := ⟨_, he, ⟨A, c, rfl, fun j hj => absurd hj (by simp)⟩, hb⟩
def toI (L : List Nat) : List Int := L.map fun (j : Nat) => (j : Int)
theorem toI_len (L : List Nat) : (toI L).length = L.length := List.length_map _
theorem IntsV.of_cells {w : World} {g c n : Nat} {L : List Nat} (hn : n = L.length) (h : ∀ (j : Nat) (h : j < L.length), w.cell? ⟨g, j, none⟩ = some (.int .i64 (L[j] : Int))) : IntsV w (.slice (some ⟨g, 0, none⟩) n c) (toI L) := by
  refine ⟨_, c, by rw [toI_len, hn], fun j hj => ⟨g, 0, rfl, ?_⟩⟩
  have hj2 : j < L.length := by rw [toI_len] at hj; exact hj
  have e : (toI L)[j] = (L[j] : Int) := by simp [toI]
  rw [Nat.zero_add, h j hj2, e]
theorem IntsV.of_nV {w : World} {base : Nat} {v : Value} {L : List Nat} (h : w.ownsRow base 3 1 v L.length (nV L)) : IntsV w v (toI L) := by
  obtain ⟨A, c, rfl, hr⟩ := NtP.of_own h
  refine ⟨A, c, by rw [toI_len], fun j hj => ?_⟩
  have hj2 : j < L.length := by rw [toI_len] at hj; exact hj
  have e2 : (toI L)[j] = (L[j] : Int) := by simp [toI]
  obtain ⟨g, e, _, hc⟩ := hr j hj2
  refine ⟨g, 0, e, ?_⟩
  rw [Nat.zero_add, hc, e2]
/-- What is told of any fields: an error, no fields, or ranks for all. -/
theorem three (fs : List GenL.Fd) (X : Nat → Ex) (FA : Option Addr) (fc : Nat) (w : World) (hl : fs.length ≤ 1048576) (hf : Flds w FA fs) (hX : Forms w fs X) (hN : ∀ k, k < fs.length → (X k).nodes ≤ 1048576) (hT : Tab w) (hcap : fs.length ≤ fc ∧ fc ≤ maxLen) :
    (∃ R : Int, R ≠ 0 ∧ ∀ V, Below w.heap.size w V → (Calls Tryz.prog 5 #[.slice FA fs.length fc] V fun e w' => (∃ c, e = .returned (.tuple #[.slice none 0 0, c, .int .i64 R])) ∧ Below V.heap.size V w') ∧ (Calls Tryz.prog 6 #[.slice FA fs.length fc] V fun e w' => (∃ c, e = .returned (.tuple #[.slice none 0 0, c, .int .i64 R])) ∧ Below V.heap.size V w')) ∨
    (checkF fs X = 0 ∧ fs.length ≤ 14 ∧ (∀ i, i < fs.length → 0 ≤ rk (rankF (needsF fs X)) i) ∧ ∀ V, Below w.heap.size w V → (Calls Tryz.prog 5 #[.slice FA fs.length fc] V (RankOk (needsF fs X) V)) ∧ (Calls Tryz.prog 6 #[.slice FA fs.length fc] V fun e w' => ∃ v, e = .returned (.tuple #[v, .slice none 0 0, .int .i64 0]) ∧ (w'.ownsRow V.heap.size 3 1 v fs.length (iV (rankF (needsF fs X)))) ∧ Below V.heap.size V w')) := by
  by_cases h0 : checkF fs X = 0
  · obtain ⟨hm, hv, _⟩ := valid_own h0
    have hnl := needsF_len fs X
    have hrl : (rankF (needsF fs X)).length = fs.length := by rw [rankF_len, hnl]
    have hbd : ∀ i, -1 ≤ rk (rankF (needsF fs X)) i := fun i => (bd_pass (needsF fs X) (needsF fs X).length i).1
    by_cases hall : ∀ i, i < fs.length → rk (rankF (needsF fs X)) i ≠ -1
    · have hall0 : ∀ i, i < fs.length → 0 ≤ rk (rankF (needsF fs X)) i := fun i hi => by have := hall i hi; have := hbd i; omega
      refine .inr ⟨h0, hm, hall0, fun V hV => ⟨of_ok fs X FA fc V hm (hf.below hV) (hX.below hV) (hT.below hV) hcap h0 hall0, ?_⟩⟩
      rcases Nat.eq_zero_or_pos fs.length with hz | hz
      · have hff := FldC.refCheck_any fs X FA fc V (by omega) (hf.below hV) (hX.below hV) hN
        rw [h0, hz] at hff
        rw [hz]
        refine (refRanks_nil FA fc V hff).mono fun e w' h => ?_
        obtain ⟨rfl, hb⟩ := h
        have e0 : rankF (needsF fs X) = [] := List.eq_nil_of_length_eq_zero (by omega)
        rw [e0]
        exact ⟨_, rfl, World.ownsRow_nil _ _ _ _, hb⟩
      · refine (ranks_valid fs X FA fc V hz (hf.below hV) (hX.below hV) hN h0).mono fun e w' h => ?_
        obtain ⟨h1, _, hb⟩ := h
        obtain ⟨v, rfl, hown⟩ := h1 hall
        exact ⟨v, rfl, hown, hb⟩
    · obtain ⟨at0, hat, hau, hfst⟩ : ∃ i, i < fs.length ∧ rk (rankF (needsF fs X)) i = -1 ∧ ∀ j, j < i → rk (rankF (needsF fs X)) j ≠ -1 := by
        have hex : ∃ i, i < fs.length ∧ rk (rankF (needsF fs X)) i = -1 := by
          refine Classical.byContradiction fun h => hall fun i hi e => h ⟨i, hi, e⟩
        obtain ⟨i, hi, he⟩ := hex
        refine Nat.strongRecOn (motive := fun i => i < fs.length → rk (rankF (needsF fs X)) i = -1 → _) i (fun m ih hm9 he9 => ?_) hi he
        by_cases h : ∃ j, j < m ∧ rk (rankF (needsF fs X)) j = -1
        · obtain ⟨j, hj, e⟩ := h
          exact ih j hj (by omega) e
        · exact ⟨m, hm9, he9, fun j hj e => h ⟨j, hj, e⟩⟩
      refine .inl ⟨10, by decide, fun V hV => ⟨?_, ?_⟩⟩
      · refine (of_cyc fs X FA fc at0 V hm (hf.below hV) (hX.below hV) (hT.below hV) hcap h0 hat hau hfst (valid_inj h0)).mono fun e w' h => ?_
        obtain ⟨v, rfl, _, hb⟩ := h
        exact ⟨⟨v, rfl⟩, hb⟩
      · refine (ranks_valid fs X FA fc V (by omega) (hf.below hV) (hX.below hV) hN h0).mono fun e w' h => ?_
        obtain ⟨_, h1, hb⟩ := h
        obtain ⟨v, rfl, _⟩ := h1 at0 hat hau hfst
        exact ⟨⟨v, rfl⟩, hb⟩
  · refine .inl ⟨checkF fs X, h0, fun V hV => ⟨?_, ?_⟩⟩
    · refine (of_bad fs X FA fc V (by omega) (hf.below hV) (hX.below hV) (hT.below hV) hcap h0).mono fun e w' h => ?_
      obtain ⟨rfl, hb⟩ := h
      exact ⟨⟨_, rfl⟩, hb⟩
    · refine (refRanks_bad fs.length FA fc (checkF fs X) V h0 (FldC.refCheck_any fs X FA fc V (by omega) (hf.below hV) (hX.below hV) hN)).mono fun e w' h => ?_
      obtain ⟨rfl, hb⟩ := h
      exact ⟨⟨_, rfl⟩, hb⟩
set_option maxHeartbeats 1000000 in
/-- rank.Order and FieldOrder tell the same. -/
theorem order_two (fs : List GenL.Fd) (X : Nat → Ex) (FA : Option Addr) (fc : Nat) (w : World) (hl : fs.length ≤ 1048576) (hf : Flds w FA fs) (hX : Forms w fs X) (hN : ∀ k, k < fs.length → (X k).nodes ≤ 1048576) (hT : Tab w) (hcap : fs.length ≤ fc ∧ fc ≤ maxLen) :
    ∃ L R, L.length ≤ 1048576 ∧ (∀ V, Below w.heap.size w V → Calls Tryz.prog 9 #[.slice FA fs.length fc] V (Pai L R V)) ∧ ∀ V, Below w.heap.size w V → Calls Tryz.prog 11 #[.slice FA fs.length fc] V (Pai L R V) := by
  rcases three fs X FA fc w hl hf hX hN hT hcap with ⟨R, h0, h⟩ | ⟨h0, hm, hr, h⟩
  · refine ⟨[], R, by simp, fun V hV => ?_, fun V hV => ?_⟩
    · exact (order_bad fs.length FA fc (.slice none 0 0) R V h0 (h V hV).1).mono fun e w' h => pai_nil h.1 h.2
    · exact (refOrder_bad fs.length FA fc R V h0 (h V hV).2).mono fun e w' h => pai_nil h.1 h.2
  · have hnl := needsF_len fs X
    have hrl : (rankF (needsF fs X)).length = fs.length := by rw [rankF_len, hnl]
    rcases Nat.eq_zero_or_pos fs.length with hz | hz
    · have h' := h
      rw [hz] at h'
      rw [hz]
      refine ⟨[], 0, by simp, fun V hV => ?_, fun V hV => ?_⟩
      · refine (order_nil FA fc V ((h' V hV).1.mono fun e w' h => ?_)).mono fun e w' h => ?_
        · obtain ⟨v, rfl, hown, hb⟩ := h
          rw [hnl, hz] at hown
          obtain ⟨A, c, e⟩ := GenL.own_slice hown
          exact ⟨⟨A, c, _, by rw [e]⟩, hb⟩
        · obtain ⟨⟨A, c, rfl⟩, hb⟩ := h
          exact pai_nil rfl hb
      · refine (refOrder_nil FA fc V ((h' V hV).2.mono fun e w' h => ?_)).mono fun e w' h => ?_
        · obtain ⟨v, rfl, _, hb⟩ := h
          exact ⟨⟨_, _, rfl⟩, hb⟩
        · obtain ⟨⟨A, c, rfl⟩, hb⟩ := h
          exact pai_nil rfl hb
    · have hbd : ∀ i, -1 ≤ rk (rankF (needsF fs X)) i := fun i => (bd_pass (needsF fs X) (needsF fs X).length i).1
      have hlt : ∀ i, i < fs.length → 0 ≤ rk (rankF (needsF fs X)) i ∧ rk (rankF (needsF fs X)) i < (fs.length : Int) := fun i hi => by
        have := rk_lt (rankF_fix (needsF fs X)) hbd (fun i hi => ((needsF_ok fs X hm).2 i hi).2) i (by rw [hnl]; exact hi)
        rw [hnl] at this
        exact ⟨hr i hi, this⟩
      have hlvl : (lvlL (rankF (needsF fs X)) fs.length).length = fs.length := by
        have := ((List.perm_ext_iff_of_nodup List.nodup_range (lex_ne (lvl_asc (rankF (needsF fs X)) fs.length))).2 fun x => (lvl_mem hlt x).symm).length_eq
        rw [List.length_range] at this
        exact this.symm
      refine ⟨toI (lvlL (rankF (needsF fs X)) fs.length), 0, by rw [toI_len, hlvl]; exact hl, fun V hV => ?_, fun V hV => ?_⟩
      · refine (order_ok (needsF fs X) fs.length FA fc V hnl hz hm (h V hV).1).mono fun e w' h => ?_
        obtain ⟨g, cap, o, rfl, ho, hc, _, hb⟩ := h
        have e : o = lvlL (rankF (needsF fs X)) fs.length := lvl_eq hlt ho.perm (List.pairwise_iff_getElem.2 fun i j hi hj hij => ho.asc i j hi hj hij)
        subst e
        exact ⟨_, rfl, IntsV.of_cells hlvl.symm hc, hb⟩
      · refine (refOrder_any (rankF (needsF fs X)) fs.length FA fc V hz hm (h V hV).2 hrl).mono fun e w' h => ?_
        obtain ⟨A, c, rfl, hown, hb⟩ := h
        exact ⟨_, rfl, IntsV.of_nV hown, hb⟩
theorem find_at {fs : List GenL.Fd} {s : ByteArray} (h : atF fs s < fs.length) : ∃ f, f ∈ fs ∧ f.nm = s := ⟨_, List.getElem_mem h, (atF_at h).1⟩
set_option maxHeartbeats 2000000 in
/-- rank.Hangs and FieldHangs tell the same. -/
theorem hangs_two (fs : List GenL.Fd) (X : Nat → Ex) (FA : Option Addr) (fc : Nat) (s : ByteArray) (w : World) (hl : fs.length ≤ 1048576) (hf : Flds w FA fs) (hX : Forms w fs X) (hN : ∀ k, k < fs.length → (X k).nodes ≤ 1048576) (hT : Tab w) (hcap : fs.length ≤ fc ∧ fc ≤ maxLen) :
    ∃ L R, L.length ≤ 1048576 ∧ (∀ V, Below w.heap.size w V → Calls Tryz.prog 10 #[.slice FA fs.length fc, .string s] V (Pai L R V)) ∧ ∀ V, Below w.heap.size w V → Calls Tryz.prog 12 #[.slice FA fs.length fc, .string s] V (Pai L R V) := by
  have hfi : ∀ V, Below w.heap.size w V → Calls Tryz.prog 27 #[.slice FA fs.length fc, .string s] V fun e w' => e = .returned (.tuple #[.int .i64 (if atF fs s < fs.length then (atF fs s : Int) else 0), .int .i64 (if atF fs s < fs.length then 0 else 5)]) ∧ V = w' := fun V hV => FldP.find_any s fs FA fc V (hf.below hV) (by omega)
  have hra : ∀ V, Below w.heap.size w V → Calls Tryz.prog 21 #[.slice FA fs.length fc, .string s] V fun e w' => e = .returned (.int .i64 (atF fs s : Int)) ∧ Below V.heap.size V w' := fun V hV => refAt_any s fs FA fc V (hf.below hV) (by omega)
  rcases three fs X FA fc w hl hf hX hN hT hcap with ⟨R, h0, h⟩ | ⟨h0, hm, hr, h⟩
  · refine ⟨[], R, by simp, fun V hV => ?_, fun V hV => ?_⟩
    · exact (hangs_bad fs.length FA fc s R V h0 (order_bad fs.length FA fc (.slice none 0 0) R V h0 (h V hV).1)).mono fun e w' h => pai_nil h.1 h.2
    · exact (refHangs_bad fs.length FA fc s R V h0 (h V hV).2).mono fun e w' h => pai_nil h.1 h.2
  · have hnl := needsF_len fs X
    have hrl : (rankF (needsF fs X)).length = fs.length := by rw [rankF_len, hnl]
    by_cases hp : atF fs s < fs.length
    · have hz : 1 ≤ fs.length := by omega
      obtain ⟨_, hv, _⟩ := valid_own h0
      have hbd : ∀ i, -1 ≤ rk (rankF (needsF fs X)) i := fun i => (bd_pass (needsF fs X) (needsF fs X).length i).1
      have hok := needsF_ok fs X hm
      have hok2 : ∀ i, i < fs.length → ∀ j ∈ nd (needsF fs X) i, j < fs.length := fun i hi j hj => by
        have := (hok.2 i (by rw [hnl]; exact hi)).2 j hj
        rwa [hnl] at this
      have hlt : ∀ i, i < fs.length → 0 ≤ rk (rankF (needsF fs X)) i ∧ rk (rankF (needsF fs X)) i < (fs.length : Int) := fun i hi => by
        have := rk_lt (rankF_fix (needsF fs X)) hbd (fun i hi => (hok.2 i hi).2) i (by rw [hnl]; exact hi)
        rw [hnl] at this
        exact ⟨hr i hi, this⟩
      have hrise : ∀ j, j < fs.length → ∀ i ∈ nd (needsF fs X) j, i < fs.length ∧ rk (rankF (needsF fs X)) i < rk (rankF (needsF fs X)) j := fun j hj i hi => by
        refine ⟨hok2 j hj i hi, ?_⟩
        have hnn : ∀ x ∈ nd (needsF fs X) j, 0 ≤ rk (rankF (needsF fs X)) x := fun x hx => hr x (hok2 j hj x hx)
        have := (above_ok (nd (needsF fs X) j) 0 hnn (Int.le_refl _)).2.1 i hi
        rw [rankF_fix (needsF fs X) j (by rw [hnl]; exact hj)] at this
        omega
      simp only [if_pos hp] at hfi
      refine ⟨toI ((List.range fs.length).filter fun i => decide (i ∈ onH (needsF fs X) (atF fs s) fs.length)), 0, ?_, fun V hV => ?_, fun V hV => ?_⟩
      · rw [toI_len]
        have := List.length_filter_le (fun i => decide (i ∈ onH (needsF fs X) (atF fs s) fs.length)) (List.range fs.length)
        rw [List.length_range] at this
        omega
      · have hoo := order_ok (needsF fs X) fs.length FA fc V hnl hz hm (h V hV).1
        refine (hangs_ok (rankF (needsF fs X)) fs (needsF fs X) s (atF fs s) fs.length FA fc V hz hm hp hnl hok hoo (fun V' hV' => hfi V' (b_trans hV hV')) (fun V' hV' => direct_any fs X FA fc V' hm (hf.below (b_trans hV hV')) (hX.below (b_trans hV hV')) (hT.below (b_trans hV hV')))).mono fun e w' h => ?_
        obtain ⟨v, o, rfl, ho, hown, hb⟩ := h
        have e : hangL (needsF fs X) (atF fs s) o fs.length = (List.range fs.length).filter fun i => decide (i ∈ onH (needsF fs X) (atF fs s) fs.length) := by
          unfold hangL
          refine List.filter_congr fun i hi => ?_
          have hil := List.mem_range.1 hi
          have h1 := onH_hang (ns := needsF fs X) (r := rankF (needsF fs X)) (h := hangK (needsF fs X) (atF fs s) o fs.length) (p := atF fs s) (by rw [hnl]; exact hp) (fun j hj => hang_eq ho hrise j (by rw [hnl] at hj; exact hj)) (fun j hj => by
            rw [hnl] at hj
            refine ⟨(hlt j hj).1, by rw [hnl]; exact (hlt j hj).2, fun x hx => by rw [hnl]; exact hrise j hj x hx⟩) i (by rw [hnl]; exact hil)
          rw [hnl] at h1
          rw [Bool.eq_iff_iff, decide_eq_true_eq]
          exact h1.symm
        rw [e] at hown
        exact ⟨v, rfl, IntsV.of_nV hown, hb⟩
      · have hnm : nmF fs (atF fs s) = s := by rw [nmF_at fs _ hp, (atF_at hp).1]
        have hra2 : ∀ V', Below V.heap.size V V' → Calls Tryz.prog 21 #[.slice FA fs.length fc, .string (nmF fs (atF fs s))] V' fun e w' => e = .returned (.int .i64 (atF fs s : Int)) ∧ Below V'.heap.size V' w' := fun V' hV' => by
          rw [hnm]; exact hra V' (b_trans hV hV')
        have := refHangs_any (needsF fs X) (nmF fs) fs.length (atF fs s) FA fc V hz hm hp hnl ((h V hV).2.mono fun e w' h => by obtain ⟨v, e, _, hb⟩ := h; exact ⟨v, e, hb⟩) hra2 (valid_inj h0) (fun i hi => ⟨nd_few i hi, hok2 i hi⟩) (fun V' hV' i hi => by
          obtain ⟨ad, e, hat⟩ := hf.below (b_trans hV hV') i hi
          refine ⟨ad, fs[i], e, hat, (nmF_at fs i hi).symm, fun V'' hV'' => ?_⟩
          rw [← valid_names h0 i hi]
          exact sources_any fs[i] (X i) V'' (hN i hi) ((hX i hi).2.below (b_trans hV hV'')))
        rw [hnm] at this
        refine this.mono fun e w' h => ?_
        obtain ⟨A, c, rfl, hown, hb⟩ := h
        exact ⟨_, rfl, IntsV.of_nV hown, hb⟩
    · have hp2 : atF fs s = fs.length := by have := atF_le fs s; omega
      simp only [if_neg hp] at hfi
      simp only [hp2] at hra
      refine ⟨[], 5, by simp, fun V hV => ?_, fun V hV => ?_⟩
      · refine (hangs_none fs.length FA fc s V ?_ fun V' hV' => hfi V' (b_trans hV hV')).mono fun e w' h => pai_nil h.1 h.2
        rcases Nat.eq_zero_or_pos fs.length with hz | hz
        · have h' := (h V hV).1
          rw [hz] at h'
          rw [hz]
          refine (order_nil FA fc V (h'.mono fun e w' h => ?_)).mono fun e w' h => ?_
          · obtain ⟨v, rfl, hown, hb⟩ := h
            rw [hnl, hz] at hown
            obtain ⟨A, c, e⟩ := GenL.own_slice hown
            exact ⟨⟨A, c, _, by rw [e]⟩, hb⟩
          · obtain ⟨⟨A, c, rfl⟩, hb⟩ := h
            exact ⟨⟨_, rfl⟩, hb⟩
        · refine (order_ok (needsF fs X) fs.length FA fc V hnl hz hm (h V hV).1).mono fun e w' h => ?_
          obtain ⟨g, cap, o, rfl, _, _, _, hb⟩ := h
          exact ⟨⟨_, rfl⟩, hb⟩
      · refine (refHangs_none fs.length FA fc s V ((h V hV).2.mono fun e w' h => ?_) fun V' hV' => hra V' (b_trans hV hV')).mono fun e w' h => pai_nil h.1 h.2
        obtain ⟨v, rfl, _, hb⟩ := h
        exact ⟨⟨_, _, rfl⟩, hb⟩
end Go.Proofs.YthgcmficmodhiaaGreatDoor.RkZ
