/- Package rank: Of, where the fields may not be, and where all of them have ranks. -/
import Derived.Test.YtdlfhldboagbeaaGreatDoorRkDir
namespace Go.Proofs.YtdlfhldboagbeaaGreatDoor.RkO
open Go.RowKit
open ValM LexM NumM ExM NmM Kit ExL ExP ExN ExC RawV Within RawL GenL FldP FldR FldC NmO NmA NmI NmT NmR RkM RkA RkB RkC RkD
set_option linter.unusedVariables false

theorem nodup_bd : ∀ (n : Nat) (l : List Nat), l.Nodup → (∀ x ∈ l, x < n) → l.length ≤ n
  | 0, l, _, h => by
    cases l with
    | nil => exact Nat.le_refl _
    | cons x l => exact absurd (h x (by simp)) (by omega)
  | n + 1, l, hd, h => by
    have h1 := nodup_bd n (l.erase n) (hd.erase n) (fun x hx => by
      have h2 := (hd.mem_erase_iff).1 hx
      have h3 := h x h2.2
      omega)
    by_cases hm : n ∈ l
    · rw [List.length_erase_of_mem hm] at h1
      omega
    · rw [List.erase_of_not_mem hm] at h1
      omega
def RankOk (ns : List (List Nat)) (w : World) (e : Ending) (w' : World) : Prop :=
  ∃ v, e = .returned (.tuple #[v, .slice none 0 0, .int .i64 0]) ∧ w'.ownsRow w.heap.size 3 1 v ns.length (iV (rankF ns)) ∧ Below w.heap.size w w'
theorem idx_none {r : List Int} (h : ∀ i, i < r.length → rk r i ≠ -1) : Lib.idxOf r (-1) = -1 := by
  have := Lib.idxOf_miss r r.length (-1) fun j hj => h j hj
  rwa [List.take_length] at this
theorem index_any (r : List Int) (x : Int) (v : Value) (base : Nat) (w : World) (hl : r.length ≤ 1048576) (h : w.ownsRow base 3 1 v r.length (iV r)) : Calls Tryz.prog 44 #[v, .int .i64 x] w fun e w' => e = .returned (.int .i64 (Lib.idxOf r x)) ∧ w = w' := by
  rcases Nat.eq_zero_or_pos r.length with h0 | h0
  · obtain ⟨A, c, rfl, _⟩ := IRow.of_own h
    obtain rfl : r = [] := List.eq_nil_of_length_eq_zero h0
    exact (Tryz.slices_Index_int_empty A c x w).mono fun e w' h => ⟨h.1, h.2.symm⟩
  · obtain ⟨A, c, rfl, hr⟩ := IRow.of_own h
    obtain ⟨g, rfl, _⟩ := hr 0 h0
    have := Tryz.slices_Index_int g 0 r.length c r x w (Nat.le_refl _) (by omega) (fun j hj => by
      obtain ⟨g', e, hc⟩ := hr j hj
      injection e with e; injection e with e _ _
      subst e
      rw [Nat.zero_add]; exact hc)
    rw [List.take_length] at this
    exact this.mono fun e w' h => ⟨h.1, h.2.symm⟩
set_option maxRecDepth 100000 in
set_option maxHeartbeats 4000000 in
theorem of_bad (fs : List GenL.Fd) (X : Nat → Ex) (FA : Option Addr) (fc : Nat) (w : World) (hm : fs.length ≤ 1000000000000) (hf : Flds w FA fs) (hX : Forms w fs X) (hT : Tab w) (hcap : fs.length ≤ fc ∧ fc ≤ maxLen) (h0 : checkF fs X ≠ 0) :
    Calls Tryz.prog 23 #[.slice FA fs.length fc] w fun e w' => e = .returned (.tuple #[.slice none 0 0, .slice none 0 0, .int .i64 (checkF fs X)]) ∧ Below w.heap.size w w' := by
  have hc := FldC.check_any fs X FA fc w hm hf hX hT hcap
  obtain ⟨R, hR⟩ : ∃ R, checkF fs X = R := ⟨_, rfl⟩
  rw [hR] at h0 hc ⊢
  have t1 : (R != 0) = true := bne_iff_ne.2 h0
  have HC := Lib.hid hc
  clear hc hR hf hX hT h0
  go_enter Tryz.func23, Tryz.ntmps23
  go_wp2_with (go_at_call 45; refine HC.out.mono ?_; rintro e w1 ⟨rfl, hb⟩; have HB := Lib.hid hb; clear hb)
  exact bodyPost_ret (v := .tuple #[.slice none 0 0, .slice none 0 0, .int .i64 R]) (by simp [results, Tryz.results23, go_sem]) rfl ⟨rfl, HB.out⟩
set_option maxRecDepth 100000 in
set_option maxHeartbeats 4000000 in
theorem of_ok (fs : List GenL.Fd) (X : Nat → Ex) (FA : Option Addr) (fc : Nat) (w : World) (hm : fs.length ≤ 14) (hf : Flds w FA fs) (hX : Forms w fs X) (hT : Tab w) (hcap : fs.length ≤ fc ∧ fc ≤ maxLen) (h0 : checkF fs X = 0) (hr : ∀ i, i < fs.length → 0 ≤ rk (rankF (needsF fs X)) i) :
    Calls Tryz.prog 23 #[.slice FA fs.length fc] w (RankOk (needsF fs X) w) := by
  have hc := FldC.check_any fs X FA fc w (Nat.le_trans hm (by decide)) hf hX hT hcap
  rw [h0] at hc
  clear h0
  have hd : ∀ V : World, Below w.heap.size w V → Calls Tryz.prog 46 #[.slice FA fs.length fc] V (DirOut (needsF fs X) V) := fun V hV => direct_any fs X FA fc V hm (hf.below hV) (hX.below hV) (hT.below hV)
  have hok := needsF_ok fs X hm
  have hnl := needsF_len fs X
  obtain ⟨ns, hns⟩ : ∃ ns, needsF fs X = ns := ⟨_, rfl⟩
  rw [hns] at hd hok hnl hr ⊢
  have hix : Lib.idxOf (rankF ns) (-1) = -1 := idx_none fun i hi => by
    rw [rankF_len, hnl] at hi
    have := hr i hi
    omega
  have HC := Lib.hid hc
  have HD := Lib.hid hd
  have HI := Lib.hid hix
  have HNl := Lib.hid hnl
  clear hnl hc hns hf hX hT hd hix hr
  go_enter Tryz.func23, Tryz.ntmps23
  go_wp2_with fail
  refine HC.out.mono ?_; rintro e w1 ⟨rfl, hb⟩
  have HB := Lib.hid hb
  clear hb
  go_wp2_with fail
  refine (HD.out w1 HB.out).mono ?_; rintro e w2 ⟨A2, c2, rfl, hns2, hb2, -⟩
  have hrk := ranked_any ns A2 c2 w2 hok hns2
  have HR := Lib.hid hrk
  have HB2 := Lib.hid (b_trans HB.out hb2)
  clear hrk hns2 hb2
  go_wp2_with fail
  refine HR.out.mono ?_; rintro e w3 ⟨v3, rfl, hown3, hb3⟩
  have hown := own_base hown3 HB2.out.size
  have HB3 := Lib.hid (b_trans HB2.out hb3)
  have hin := index_any (rankF ns) (-1) v3 w.heap.size w3 (by rw [rankF_len, HNl.out]; omega) (by rw [rankF_len]; exact hown)
  rw [HI.out] at hin
  have HIn := Lib.hid hin
  have HO := Lib.hid hown
  clear hb3 hown3 hin hown
  go_wp2_with fail
  refine HIn.out.mono ?_; rintro e w4 ⟨rfl, rfl⟩
  go_wp2_with fail
  exact bodyPost_ret (v := .tuple #[v3, .slice none 0 0, .int .i64 0]) (by simp [results, Tryz.results23, go_sem]) rfl ⟨v3, rfl, HO.out, HB3.out⟩
end Go.Proofs.YtdlfhldboagbeaaGreatDoor.RkO
