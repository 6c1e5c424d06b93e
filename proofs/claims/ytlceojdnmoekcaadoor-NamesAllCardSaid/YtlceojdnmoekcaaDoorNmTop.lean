/- The reference's NamesOf; two lists of the same strings. -/
import Derived.Test.YtlceojdnmoekcaaDoorNmRise
import Derived.Test.YtlceojdnmoekcaaDoorExRef
import Derived.Deep.QuietTactic
import Derived.RegionTactic
import Derived.BigQuiet
namespace Go.Proofs.YtlceojdnmoekcaaDoor.NmT
open Go.RowKit
open ExM NmM Kit ExL ExP ExV NmC NmP NmR NmA NmO NmI
set_option linter.unusedVariables false

theorem toSRow {w : World} {base : Nat} {v : Value} {M : List Bs} (h : w.ownsRow base 9 1 v M.length (M.map encStr)) : ∃ A c, v = .slice A M.length c ∧ SRow w A (mkL M) := by
  obtain ⟨A, c, e, hr⟩ := SRow.of_own (L := mkL M) (by rw [mkL_len, strV_mkL]; exact h)
  rw [mkL_len] at e
  exact ⟨A, c, e, hr⟩
theorem SRow.below {w w' : World} {A : Option Addr} {L : List ByteArray} (h : SRow w A L) (hb : Below w.heap.size w w') : SRow w' A L := fun j hj => by
  obtain ⟨g, e, hc⟩ := h j hj
  exact ⟨g, e, (hb.cell (p := ⟨g, j, none⟩) (World.block_lt_of_cell? w _ hc)).trans hc⟩
theorem bytes_refs (L : List ByteArray) : mkL (bytesL L) = L := by
  unfold mkL bytesL; rw [List.map_map]
  exact (List.map_congr_left fun s _ => mkB_of s).trans (List.map_id'' (fun _ => rfl) L)

set_option maxHeartbeats 1000000 in
theorem refOf_any (x : Ex) (d : Nd) (A : Option Addr) (m c : Nat) (w : World) (hx : x.nodes ≤ 1048576) (his : Is w x d A m) :
    Calls Tryd.prog 9 #[.agg #[.int .i64 d.op, .int .i64 d.k, .int .i64 d.n, .string d.s, .string d.nm, .slice A m c]] w (StrsOut (ofL x) x.checkE w) := by
  obtain ⟨R, hR⟩ : ∃ R, x.checkE = R := ⟨_, rfl⟩
  have hL : ofL x = if R = 0 then rise (bytesL (Ex.refs x)) else [] := by unfold ofL; rw [hR]
  have hrl := refs_len x
  have c1 := fun V (hb : Below w.heap.size w V) => ExR.fault_any x d A m c V (by omega) (his.below hb)
  have c2 := fun V (hb : Below w.heap.size w V) => asked_any x d A m c V hx (his.below hb)
  rw [hR] at c1 ⊢
  obtain ⟨L, hLL⟩ : ∃ L, Ex.refs x = L := ⟨_, rfl⟩
  rw [hLL] at c2 hL hrl
  have C1 := Lib.hid c1
  have C2 := Lib.hid c2
  have HL := Lib.hid hL
  clear c1 c2 hL hLL hR his
  go_enter Tryd.func9, Tryd.ntmps9
  go_wp2_with fail
  refine (C1.out _ (b_new w _)).mono ?_; rintro e w1 ⟨rfl, hb⟩
  have k1 : Box w1 w.heap.size d A m c := (Box.new w d A m c).below hb
  have hb1 : Below w.heap.size w w1 := b_then hb
  obtain ⟨m0, m1, m2, m3, m4, m5⟩ := k1.cells
  have HB1 := Lib.hid hb1
  clear hb hb1 k1
  by_cases h0 : R = 0
  · subst h0
    have hL := HL.out
    rw [if_pos rfl] at hL
    have HL2 := Lib.hid hL
    clear hL HL
    go_wp2_with fail
    refine (C2.out _ HB1.out).mono ?_; rintro e w2 ⟨v2, rfl, hown2, hb2⟩
    obtain ⟨A2, cc2, rfl, hrow⟩ := SRow.of_own hown2
    have h3 := rising_any L A2 cc2 w2 (by omega) hrow
    have H3 := Lib.hid h3
    have hb12 := b_trans HB1.out hb2
    have HB2 := Lib.hid hb12
    clear hown2 hrow h3 hb12 hb2 m0 m1 m2 m3 m4 m5
    go_wp2_with fail
    refine H3.out.mono ?_; rintro e w3 ⟨v3, rfl, hown3, hb3⟩
    have HX := Lib.hid (And.intro hown3 (b_trans HB2.out hb3))
    have hs2 := HB2.out.size
    clear hown3 hb3
    go_wp2_with fail
    go_ret2
    exact ⟨v3, rfl, by rw [HL2.out]; exact own_base HX.out.1 hs2, HX.out.2⟩
  · have t1 : (R != 0) = true := bne_iff_ne.2 h0
    have hL := HL.out
    rw [if_neg h0] at hL
    have HL2 := Lib.hid hL
    clear h0 hL HL
    go_wp2_with fail
    go_ret2
    exact ⟨.slice none 0 0, rfl, by rw [HL2.out]; exact World.ownsRow_nil _ _ _ _, HB1.out⟩

set_option maxHeartbeats 1000000 in
theorem equal_any (w : World) (L : List ByteArray) (A1 A2 : Option Addr) (c1 c2 : Nat) (hl : L.length ≤ 1048576) (h1 : SRow w A1 L) (h2 : SRow w A2 L) :
    Calls Tryd.prog 21 #[.slice A1 L.length c1, .slice A2 L.length c2] w fun e w' => e = .returned (.bool true) ∧ ∃ m, w' = w.drewN m := by
  have H1 := Lib.hid h1
  have H2 := Lib.hid h2
  clear h1 h2
  go_enter Tryd.func21, Tryd.ntmps21
  go_wp2_with fail
  go_loopw [5, 13] (fun _ i wr => ∃ k m : Nat, k ≤ L.length ∧ i = .int .i64 k ∧ wr = w.drewN m) (fun _ i _ => L.length - (intOf i).toNat)
  case atStart => exact ⟨0, 0, by omega, rfl, rfl⟩
  case round =>
    obtain ⟨k, m, hk, rfl, rfl⟩ := hrel
    by_cases hlt : k < L.length
    · obtain ⟨g, rfl, y0⟩ := H1.out k hlt
      obtain ⟨g', rfl, z0⟩ := H2.out k hlt
      obtain ⟨t, ht⟩ : ∃ t, L[k] = t := ⟨_, rfl⟩
      rw [ht] at y0 z0
      clear ht
      go_wp2_with fail
      first
        | (go_quiet (fail); go_wp2_with fail)
        | skip
      go_roundw
      case rel => exact ⟨k + 1, _, by omega, by go_num, rfl⟩
      case measure => simp [intOf]; omega
    · go_wp2_with fail
      go_ret
      exact ⟨rfl, _, rfl⟩
theorem same_any (w : World) (L : List ByteArray) (A1 A2 : Option Addr) (c1 c2 : Nat) (hl : L.length ≤ 1048576) (h1 : SRow w A1 L) (h2 : SRow w A2 L) :
    Calls Tryd.prog 11 #[.slice A1 L.length c1, .slice A2 L.length c2] w fun e w' => e = .returned (.bool true) ∧ ∃ m, w' = w.drewN m := by
  have c := equal_any w L A1 A2 c1 c2 hl h1 h2
  have C := Lib.hid c
  clear c h1 h2
  go_enter Tryd.func11, Tryd.ntmps11
  go_wp2_with fail
  refine C.out.mono ?_; rintro e w1 ⟨rfl, m, rfl⟩
  go_wp2_with fail
  go_ret
  exact ⟨rfl, _, rfl⟩
end Go.Proofs.YtlceojdnmoekcaaDoor.NmT
