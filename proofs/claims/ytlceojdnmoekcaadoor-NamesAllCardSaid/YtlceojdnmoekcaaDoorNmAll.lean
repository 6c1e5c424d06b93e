/- slices.IsSorted, Clone, Compact, Contains on strings, each once, rising. -/
import Derived.Test.YtlceojdnmoekcaaDoorNmTop
import Derived.Test.YtlceojdnmoekcaaDoorShelf
namespace Go.Proofs.YtlceojdnmoekcaaDoor.NmL
open Go.RowKit
open ExM NmM Kit ExL ExP ExV NmC NmP NmR NmA NmO NmI NmT
set_option linter.unusedVariables false

/-! ### Contains -/
set_option maxHeartbeats 1000000 in
theorem index_any (L : List ByteArray) (s : ByteArray) (A : Option Addr) (c : Nat) (w : World) (hn : L.length ≤ 1048576) (h : SRow w A L) :
    Calls Tryd.prog 42 #[.slice A L.length c, .string s] w fun e w' => (∃ k : Int, e = .returned (.int .i64 k) ∧ decide (0 ≤ k) = hasB L s) ∧ w = w' := by
  obtain ⟨R, hR⟩ : ∃ R, hasB L s = R := ⟨_, rfl⟩
  rw [hR]
  have HR := Lib.hid hR
  have HH := Lib.hid h
  clear hR h
  go_enter Tryd.func42, Tryd.ntmps42
  go_wp2_with fail
  go_loopw [5, 8] (fun _ i wr => ∃ k : Nat, k ≤ L.length ∧ i = .int .i64 k ∧ wr = w ∧ hasB (L.take k) s = false) (fun _ i _ => L.length - (intOf i).toNat)
  case atStart => exact ⟨0, by omega, rfl, rfl, rfl⟩
  case round =>
    obtain ⟨k, hk, rfl, rfl, hf⟩ := hrel
    by_cases hlt : k < L.length
    · obtain ⟨g, rfl, hc⟩ := HH.out k hlt
      obtain ⟨t, ht⟩ : ∃ t, L[k] = t := ⟨_, rfl⟩
      have hsn := hasB_take L s k hlt
      rw [hf, Bool.false_or] at hsn
      rw [ht] at hc hsn
      clear hf ht
      by_cases he : t = s
      · have t1 : (s.toList == t.toList) = true := by rw [eqs_of]; exact decide_eq_true he.symm
        rw [decide_eq_true he] at hsn
        obtain rfl : R = true := by rw [← HR.out]; exact hasB_of_take hsn
        clear hsn he
        go_wp2_with fail
        go_ret
        exact ⟨⟨_, rfl, by simp⟩, rfl⟩
      · have t1 : (s.toList == t.toList) = false := by rw [eqs_of]; exact decide_eq_false (fun e => he e.symm)
        rw [decide_eq_false he] at hsn
        have HSn := Lib.hid hsn
        clear hsn he
        go_wp2_with fail
        go_roundw
        case rel => exact ⟨k + 1, by omega, by go_num, by first | trivial | rfl, HSn.out⟩
        case measure => simp [intOf]; omega
    · have hkl : k = L.length := by omega
      obtain rfl : R = false := by rw [← HR.out, ← hf, hkl, List.take_length]
      clear hkl hf
      go_wp2_with fail
      go_ret
      exact ⟨⟨_, rfl, by decide⟩, rfl⟩
set_option maxHeartbeats 1000000 in
theorem contains_any (L : List ByteArray) (s : ByteArray) (A : Option Addr) (c : Nat) (w : World) (hn : L.length ≤ 1048576) (h : SRow w A L) :
    Calls Tryd.prog 25 #[.slice A L.length c, .string s] w fun e w' => e = .returned (.bool (hasB L s)) ∧ w = w' := by
  have hc := index_any L s A c w hn h
  obtain ⟨R, hR⟩ : ∃ R, hasB L s = R := ⟨_, rfl⟩
  rw [hR] at hc ⊢
  have HC := Lib.hid hc
  clear hc hR h
  go_enter Tryd.func25, Tryd.ntmps25
  go_wp2_with fail
  refine HC.out.mono ?_; rintro e w1 ⟨⟨k, rfl, rfl⟩, rfl⟩
  go_wp2_with fail
  go_ret
  exact ⟨rfl, rfl⟩

/-! ### IsSorted -/
theorem nan_any (s : ByteArray) (w : World) : Calls Tryd.prog 64 #[.string s] w fun e w' => e = .returned (.bool false) ∧ w = w' := by
  go_enter Tryd.func64, Tryd.ntmps64
  go_wp2_with fail
  go_ret
  exact ⟨by simp, rfl⟩
theorem less_any (s t : ByteArray) (w : World) (h : ¬ s.data.toList < t.data.toList) : Calls Tryd.prog 41 #[.string s, .string t] w fun e w' => e = .returned (.bool false) ∧ w = w' := by
  have q0 : Op.bytesLess s.toList t.toList = false := by rw [ByteArray.toList_eq, ByteArray.toList_eq, less_lt]; exact decide_eq_false h
  have hc := fun s => nan_any s w
  have HC := Lib.hid hc
  clear h hc
  go_enter Tryd.func41, Tryd.ntmps41
  go_wp2_with fail
  refine (HC.out _).mono ?_; rintro e w1 ⟨rfl, rfl⟩
  go_wp2_with fail
  go_ret
  exact ⟨by first | rfl | simp, rfl⟩
/-- A call that leaves the world alone, behind draws. -/
theorem still_drawn {P : Program} {f : FuncId} {args : Array Value} {w : World} {i j : Nat} {v : Value} (c : ∀ W, Calls P f args W fun e w' => e = .returned v ∧ W = w') :
    Calls P f args (w.drewN (i + j)) fun e w' => e = .returned v ∧ ∃ k, w' = w.drewN (i + k) := (c _).mono fun _ _ h => ⟨h.1, j, h.2.symm⟩
theorem mk_less {M : List Bs} (h : M.Pairwise (· < ·)) {k : Nat} (hk : k < M.length) (h0 : 0 < k) : ¬ (mkB M[k]).data.toList < (mkB M[k - 1]).data.toList := by
  show ¬ M[k] < M[k - 1]
  have := List.pairwise_iff_getElem.1 h (k - 1) k (by omega) hk (by omega)
  exact fun g => List.lt_irrefl _ (List.lt_trans this g)
set_option maxHeartbeats 2000000 in
theorem sorted_any (M : List Bs) (hs : M.Pairwise (· < ·)) (A : Option Addr) (c : Nat) (w : World) (hn : M.length ≤ 1048576) (h : SRow w A (mkL M)) :
    Calls Tryd.prog 22 #[.slice A M.length c] w fun e w' => e = .returned (.bool true) ∧ ∃ m, w' = w.drewN m := by
  have HH := Lib.hid h
  have HS := Lib.hid hs
  clear h hs
  go_enter Tryd.func22, Tryd.ntmps22
  go_wp2_with fail
  go_loopw [3] (fun i wr => ∃ (k : Int) (m : Nat), i = .int .i64 k ∧ -1 ≤ k ∧ k < M.length ∧ wr = w.drewN m) (fun i _ => (intOf i).toNat)
  case atStart => exact ⟨(M.length : Int) - 1, 0, by go_num, by omega, by omega, rfl⟩
  case round =>
    obtain ⟨k, m, rfl, h1, h2, rfl⟩ := hrel
    by_cases hpos : 0 < k
    · obtain ⟨j, rfl⟩ : ∃ j : Nat, k = j := ⟨k.toNat, by omega⟩
      have hj : j < M.length := by omega
      have hj0 : 0 < j := by omega
      obtain ⟨g, rfl, y0⟩ := HH.out j (by rw [mkL_len]; exact hj)
      obtain ⟨g', hg, z0⟩ := HH.out (j - 1) (by rw [mkL_len]; omega)
      obtain rfl : g = g' := by injection hg with e; injection e
      obtain ⟨s, hs⟩ : ∃ s, (mkL M)[j]'(by rw [mkL_len]; exact hj) = s := ⟨_, rfl⟩
      obtain ⟨t, ht⟩ : ∃ t, (mkL M)[j - 1]'(by rw [mkL_len]; omega) = t := ⟨_, rfl⟩
      have hl : ¬ s.data.toList < t.data.toList := by
        rw [← hs, ← ht]
        unfold mkL
        rw [List.getElem_map, List.getElem_map]
        exact mk_less HS.out hj hj0
      rw [hs] at y0
      rw [ht] at z0
      have HL := Lib.hid (fun W => less_any s t W hl)
      have hi2 : (0 : Int) ≤ (j : Int) - 1 := by omega
      have hi3 : (1 : Int) ≤ (j : Int) := by omega
      have hi4 : (j : Int) - 1 < (M.length : Int) := by omega
      have hi5 : ((j : Int) - 1).toNat = j - 1 := by omega
      have hw : IntKind.i64.wrap ((j : Int) - 1) = (j : Int) - 1 := IntWalk.i64_in _ (by omega)
      clear hg hs ht hl hpos h1 h2
      go_wp2_with fail
      go_quiet ((go_at_call 41; exact still_drawn HL.out))
      go_wp2_with fail
      go_roundw
      case rel => exact ⟨(j : Int) - 1, _, by go_num, by omega, by omega, rfl⟩
      case measure => simp [intOf]; omega
    · go_wp2_with fail
      go_ret
      exact ⟨rfl, _, rfl⟩

/-! ### Clone and Compact -/
theorem below_setCells {B b : Nat} {a : World} (hb : B ≤ b) : ∀ (vs : List Value) (o : Nat) (w : World), Below B a w → Below B a (w.setCells b o vs)
  | [], _, _, h => h
  | v :: r, o, w, h => below_setCells hb r (o + 1) _ (h.setCell (p := ⟨b, o, none⟩) hb v)
theorem compact_rise {M : List Bs} (h : M.Pairwise (· < ·)) : Lib.compact M = M := by
  refine Lib.compact_all M fun j hj => ?_
  rcases Nat.eq_zero_or_pos j with h0 | h0
  · subst h0; simp [Lib.keeps]
  · refine Lib.keeps_pos ?_
    have h1 : M.toArray[j]! = M[j] := by simp [hj]
    have h2 : M.toArray[j - 1]! = M[j - 1] := by
      have : j - 1 < M.length := by omega
      simp [this]
    rw [h1, h2]
    have := List.pairwise_iff_getElem.1 h (j - 1) j (by omega) hj (by omega)
    exact fun e => by rw [e] at this; exact List.lt_irrefl _ this
/-- A clone of such a list. -/
def CloneOut (M : List Bs) (w : World) (e : Ending) (w' : World) : Prop := (∃ v, e = .returned v ∧ w'.ownsRow w.heap.size 9 1 v M.length (M.map encStr)) ∧ Below w.heap.size w w'
theorem clone_any (M : List Bs) (A : Option Addr) (c : Nat) (w : World) (hn : M.length ≤ 1048576) (h : SRow w A (mkL M)) :
    Calls Tryd.prog 24 #[.slice A M.length c] w (CloneOut M w) := by
  rcases Nat.eq_zero_or_pos M.length with h0 | h0
  · have hM : M = [] := List.eq_nil_of_length_eq_zero h0
    subst hM
    cases A with
    | none =>
      refine (Tryd.slices_Clone_string_nil 0 c w).mono ?_
      rintro e w' ⟨rfl, rfl⟩
      exact ⟨⟨_, rfl, World.ownsRow_nil _ _ _ _⟩, Below.refl _ _⟩
    | some a =>
      refine (Tryd.slices_Clone_string_zero a c w).mono ?_
      rintro e w' ⟨v, rfl, hown, _, hb⟩
      exact ⟨⟨_, rfl, hown⟩, hb⟩
  · obtain ⟨g, rfl, _⟩ := h 0 (by rw [mkL_len]; exact h0)
    have hc : ∀ j, j < (mkL M).length → w.cell? ⟨g, 0 + j, none⟩ = some (.string ((mkL M).getD j ByteArray.empty)) := fun j hj => by
      obtain ⟨g', hg, hcell⟩ := h j hj
      obtain rfl : g = g' := by injection hg with e; injection e
      rw [Nat.zero_add, hcell, List.getD_eq_getElem?_getD, List.getElem?_eq_getElem hj]; rfl
    have := Tryd.slices_Clone_string g 0 M.length c (mkL M) w (by rw [mkL_len]; exact Nat.le_refl _) (by omega) hc
    refine this.mono ?_
    rintro e w' ⟨v, rfl, hown, _, hb⟩
    refine ⟨⟨v, rfl, ?_⟩, hb⟩
    rw [List.take_of_length_le (by rw [mkL_len]; exact Nat.le_refl _)] at hown
    rw [← strV_mkL]; exact hown
theorem compact_any (M : List Bs) (hs : M.Pairwise (· < ·)) (v : Value) (base : Nat) (w : World) (hn : M.length ≤ 1048576) (h : w.ownsRow base 9 1 v M.length (M.map encStr)) :
    Calls Tryd.prog 23 #[v] w fun e w' => (∃ A c, e = .returned (.slice A M.length c)) ∧ Below base w w' := by
  rcases Nat.eq_zero_or_pos M.length with h0 | h0
  · obtain ⟨A, c, rfl⟩ := NmR.own_slice h
    rw [h0]
    refine (Tryd.slices_Compact_string_empty A c w).mono ?_
    rintro e w' ⟨rfl, rfl⟩
    exact ⟨⟨_, _, rfl⟩, Below.refl _ _⟩
  · obtain ⟨g, cap, rfl, hg, _, hcap, _, hc⟩ := NmR.own_form h h0
    have e1 : Lib.strsOf (fun i => mkB (M.getD i [])) M.length = M := by
      have e : Lib.strsOf (fun i => mkB (M.getD i [])) M.length = (List.range M.length).map fun i => M.getD i [] := rfl
      rw [e]
      refine List.ext_getElem (by simp) fun i h1 h2 => ?_
      rw [List.getElem_map, List.getElem_range, List.getD_eq_getElem?_getD, List.getElem?_eq_getElem h2]; rfl
    have := Tryd.slices_Compact_string_cells g 0 M.length cap (fun i => mkB (M.getD i [])) w (by omega) hcap (fun i hi => by
      rw [Nat.zero_add, hc i (by omega), enc_at M i hi, List.getD_eq_getElem?_getD, List.getElem?_eq_getElem hi]; rfl) (fun j _ => h.frozenAt _)
    rw [e1, compact_rise hs] at this
    refine this.mono ?_
    rintro e w' ⟨rfl, q, rfl⟩
    exact ⟨⟨_, _, rfl⟩, below_setCells hg _ _ _ (b_drewN (Below.refl _ _) q)⟩
end Go.Proofs.YtlceojdnmoekcaaDoor.NmL
